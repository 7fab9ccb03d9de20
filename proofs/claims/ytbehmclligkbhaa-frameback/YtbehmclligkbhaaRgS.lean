/- Regions that draw their order and end in stores to what they read: a condition on the world that holds till the first of these stores comes up. -/
import Derived.Test.YtbehmclligkbhaaCells
namespace Go.Proofs.Ytbehmclligkbhaa
open Go Go.RowKit
set_option linter.unusedVariables false

section
variable {P : Program} {ops : Array Oper} {Q : Exit → Act → World → Prop} {md : Region.Mode} {S : World → Prop} {St : List Nat}

/-- As long as none of the stores has come up, S holds. -/
def Hold (S : World → Prop) (St : List Nat) (listed : Array Bool) (w : World) : Prop := (∀ s ∈ St, listed.getD s true = false) → S w
def wpAnyS (P : Program) (md : Region.Mode) (ops : Array Oper) (Q : Exit → Act → World → Prop) (S : World → Prop) (St : List Nat) : Nat → Array Bool → Act → World → Prop
  | 0, listed, a, w => Region.ready md ops listed = [] ∧ Q .normal a w
  | fuel + 1, listed, a, w =>
    (Region.ready md ops listed = [] → Q .normal a w) ∧
    ∀ i ∈ Region.ready md ops listed, wpOp P ops Q i (fun a' w' => Hold S St (listed.setIfInBounds i true) w' ∧ wpAnyS P md ops Q S St fuel (listed.setIfInBounds i true) a' w') a w
theorem wpAny_of_S : ∀ (fuel : Nat) (listed : Array Bool) (a : Act) (w : World), wpAnyS P md ops Q S St fuel listed a w → wpAny P md ops Q fuel listed a w
  | 0, _, _, _, h => h
  | fuel + 1, _, _, _, h => ⟨h.1, fun i hi => wpOp_mono (fun a' w' h' => wpAny_of_S fuel _ a' w' h'.2) (h.2 i hi)⟩

theorem hold_less {i j : Nat} {listed : Array Bool} {w : World} (hi : i ∉ St) (h : Hold S St ((listed.setIfInBounds i true).setIfInBounds j true) w) : Hold S St (listed.setIfInBounds j true) w := fun hs => h fun s hm => by
  have hsi : i ≠ s := fun e => hi (e ▸ hm)
  have := hs s hm
  by_cases hj : j = s
  · subst hj
    rw [Array.setIfInBounds_comm _ _ hsi, getD_set_ne true hsi]
    exact this
  · rw [getD_set_ne true hj] at this
    rw [getD_set_ne true hj, getD_set_ne true hsi]
    exact this

theorem wpAnyS_first {i : Nat} {oi : Oper} {v : Value} (hi : ops[i]? = some oi) (hsel : ∀ (j : Nat) (o : Oper) cs b, ops[j]? = some o → o.op ≠ .select cs b)
    (hQ : ∀ c a w, Q (.panic c) (a.put oi.dst v) w → Q (.panic c) a w) (hiS : i ∉ St) (Inv : Array Bool → Prop) (S0 : World → Prop)
    (hInv : ∀ listed j, Inv listed → listed.getD i true = false → j ∈ Region.ready md ops listed → j ≠ i → Inv (listed.setIfInBounds j true))
    (hY : ∀ listed w, Inv listed → Hold S St listed w → S0 w) :
    ∀ (fuel : Nat) (listed : Array Bool) (a : Act) (w : World),
      (∀ j oj, ops[j]? = some oj → j ≠ i → listed.getD j true = false → (∀ e ∈ oj.after, Region.binds md e = true → e.on ≠ i) → oi.apart ops oj = true) →
      i ∈ Region.ready md ops listed → Inv listed → YieldsIf P ops S0 oi v a → Hold S St listed w →
      Hold S St (listed.setIfInBounds i true) w → wpAnyS P md ops Q S St fuel (listed.setIfInBounds i true) (a.put oi.dst v) w → wpAnyS P md ops Q S St (fuel + 1) listed a w := by
  intro fuel
  induction fuel with
  | zero =>
    intro listed a w _ hr hv hy hS hSi H
    refine ⟨fun h => (by rw [h] at hr; cases hr), fun j hj => ?_⟩
    by_cases hji : j = i
    · subst hji; exact hy.wpOp hi (hY _ _ hv hS) ⟨hSi, H⟩
    · have := ready_mono hj hji
      rw [H.1] at this
      cases this
  | succ fuel ih =>
    intro listed a w hfree hr hv hy hS hSi H
    refine ⟨fun h => (by rw [h] at hr; cases hr), fun j hj => ?_⟩
    by_cases hji : j = i
    · subst hji; exact hy.wpOp hi (hY _ _ hv hS) ⟨hSi, H⟩
    · have h1 := H.2 j (ready_mono hj hji)
      obtain ⟨hjun, oj, hoj, hall⟩ := mem_ready.1 hj
      have hnot : ∀ e ∈ oj.after, Region.binds md e = true → e.on ≠ i := fun e he hb heq => by
        have h1 := hall e he hb
        have h0 := (mem_ready.1 hr).1
        rw [heq] at h1
        rcases Nat.lt_or_ge i listed.size with h' | h'
        · simp [h'] at h0 h1; rw [h0] at h1; cases h1
        · simp [Array.getElem?_eq_none h'] at h1
      have h2 := wpOp_putIf hoj (hfree j oj hoj hji hjun hnot) (fun cs b => hsel i oi cs b hi) (fun cs b => hsel j oj cs b hoj) hQ hy h1
      have hfree' : ∀ k ok, ops[k]? = some ok → k ≠ i → (listed.setIfInBounds j true).getD k true = false →
          (∀ e ∈ ok.after, Region.binds md e = true → e.on ≠ i) → oi.apart ops ok = true := fun k ok hk hki hun hno => by
        refine hfree k ok hk hki ?_ hno
        by_cases hjk : j = k
        · subst hjk; exact hjun
        · rw [getD_set_ne true hjk] at hun; exact hun
      refine wpOp_mono (fun a' w' h3 => ?_) h2
      have hh := hold_less hiS h3.2.1
      refine ⟨hh, ih (listed.setIfInBounds j true) a' w' hfree' (ready_mono hr (Ne.symm hji)) (hInv _ _ hv (mem_ready.1 hr).1 hj hji) h3.1 hh ?_ ?_⟩
      · rw [Array.setIfInBounds_comm _ _ hji]
        exact h3.2.1
      · rw [Array.setIfInBounds_comm _ _ hji]
        exact h3.2.2

/-- Number i is taken first: it yields v in whatever world. -/
theorem wpAnyS_pure {i : Nat} {oi : Oper} {v : Value} {fuel : Nat} {listed : Array Bool} {a : Act} {w : World} (hi : ops[i]? = some oi)
    (hs : Region.noSelect ops = true) (hf : Region.free md ops listed i = true) (hr : (Region.ready md ops listed).contains i = true) (hiS : St.contains i = false)
    (hQ : ∀ c a w, Q (.panic c) (a.put oi.dst v) w → Q (.panic c) a w) (hy : YieldsIf P ops (fun _ => True) oi v a) (hS : Hold S St listed w)
    (h : Hold S St (listed.setIfInBounds i true) w → wpAnyS P md ops Q S St fuel (listed.setIfInBounds i true) (a.put oi.dst v) w) : wpAnyS P md ops Q S St (fuel + 1) listed a w := by
  have hn : i ∉ St := fun hm => by rw [List.contains_iff_mem.2 hm] at hiS; cases hiS
  have h2 : Hold S St (listed.setIfInBounds i true) w := fun q => hS fun s hm => by have := q s hm; rwa [getD_set_ne true (show i ≠ s from fun e => hn (e ▸ hm))] at this
  exact wpAnyS_first hi (Region.noSelect_spec hs) hQ hn (fun _ => True) (fun _ => True) (fun _ _ _ _ _ _ => trivial) (fun _ _ _ _ => trivial) fuel listed a w (Region.free_spec hi hf) (by simpa using hr) trivial hy hS h2 (h h2)
/-- Number i is taken first: it yields v where S holds, and the stores wait for it. -/
theorem wpAnyS_take {i : Nat} {oi : Oper} {v : Value} {fuel : Nat} {listed : Array Bool} {a : Act} {w : World} (Wt : List Nat) (hi : ops[i]? = some oi)
    (hs : Region.noSelect ops = true) (hf : Region.free md ops listed i = true) (hr : (Region.ready md ops listed).contains i = true) (hiS : St.contains i = false)
    (hW : (Wt.all fun j => ((ops[j]?).map fun o => o.after.any fun e => Region.binds md e && (e.on == i || Wt.contains e.on)) == some true) = true) (hSW : (St.all fun j => Wt.contains j) = true) (hun : (Wt.all fun j => listed.getD j true == false) = true)
    (hQ : ∀ c a w, Q (.panic c) (a.put oi.dst v) w → Q (.panic c) a w) (hy : YieldsIf P ops S oi v a) (hS : Hold S St listed w)
    (h : Hold S St (listed.setIfInBounds i true) w → wpAnyS P md ops Q S St fuel (listed.setIfInBounds i true) (a.put oi.dst v) w) : wpAnyS P md ops Q S St (fuel + 1) listed a w := by
  have hn : i ∉ St := fun hm => by rw [List.contains_iff_mem.2 hm] at hiS; cases hiS
  have h2 : Hold S St (listed.setIfInBounds i true) w := fun q => hS fun s hm => by have := q s hm; rwa [getD_set_ne true (show i ≠ s from fun e => hn (e ▸ hm))] at this
  refine wpAnyS_first hi (Region.noSelect_spec hs) hQ hn (fun l => ∀ j ∈ Wt, l.getD j true = false) S ?_ ?_ fuel listed a w (Region.free_spec hi hf) (by simpa using hr) ?_ hy hS h2 (h h2)
  · intro l j hl hil hj hji k hk
    by_cases hjk : j = k
    · subst hjk
      exfalso
      have h1 := List.all_eq_true.1 hW j hk
      rw [beq_iff_eq] at h1
      obtain ⟨o, ho, h3⟩ := Option.map_eq_some_iff.1 h1
      obtain ⟨e, he, h4⟩ := Array.any_eq_true'.1 h3
      rw [Bool.and_eq_true, Bool.or_eq_true] at h4
      obtain ⟨hjun, oj, hoj, hall⟩ := mem_ready.1 hj
      rw [ho] at hoj
      cases hoj
      have h5 := hall e he h4.1
      have h6 : l.getD e.on true = false := by
        rcases h4.2 with q | q
        · rw [beq_iff_eq] at q; rw [q]; exact hil
        · exact hl _ (List.contains_iff_mem.1 q)
      rcases Nat.lt_or_ge e.on l.size with h' | h'
      · simp [h'] at h5 h6; rw [h6] at h5; cases h5
      · simp [Array.getElem?_eq_none h'] at h5
    · rw [getD_set_ne true hjk]; exact hl k hk
  · intro l w' hl hh
    exact hh fun s hm => hl s (List.contains_iff_mem.1 (List.all_eq_true.1 hSW s hm))
  · intro j hj
    have := List.all_eq_true.1 hun j hj
    rwa [beq_iff_eq] at this

def AllReadyS (P : Program) (md : Region.Mode) (ops : Array Oper) (Q : Exit → Act → World → Prop) (S : World → Prop) (St : List Nat) (fuel : Nat) (listed : Array Bool) (a : Act) (w : World) (rs : List Nat) : Prop :=
  ∀ i ∈ rs, wpOp P ops Q i (fun a' w' => Hold S St (listed.setIfInBounds i true) w' ∧ wpAnyS P md ops Q S St fuel (listed.setIfInBounds i true) a' w') a w
theorem AllReadyS.nil {fuel : Nat} {listed : Array Bool} {a : Act} {w : World} : AllReadyS P md ops Q S St fuel listed a w [] := fun _ h => by cases h
theorem AllReadyS.cons {fuel : Nat} {listed : Array Bool} {a : Act} {w : World} {i : Nat} {o : Oper} {rs : List Nat} (ho : ops[i]? = some o)
    (h : ∀ K' : Act → World → Prop, Shut (∀ a w, Hold S St (listed.setIfInBounds i true) w → (Hold S St (listed.setIfInBounds i true) w → wpAnyS P md ops Q S St fuel (listed.setIfInBounds i true) a w) → K' a w) → if Region.wanted o (yielded ops a.tmps) = true then Oper.wp P o a w K' Q else K' (a.put o.dst undef) w)
    (hs : AllReadyS P md ops Q S St fuel listed a w rs) : AllReadyS P md ops Q S St fuel listed a w (i :: rs) := fun j hj => by
  rcases List.mem_cons.1 hj with rfl | hj
  · exact wpOp_step ho (fun K' hK => h K' (fun a w hS hW => hK a w ⟨hS, hW hS⟩))
  · exact hs j hj
theorem wpAnyS_ready {rs : List Nat} {fuel : Nat} {listed : Array Bool} {a : Act} {w : World} (hr : Region.ready md ops listed = rs) (hne : rs ≠ [])
    (h : AllReadyS P md ops Q S St fuel listed a w rs) : wpAnyS P md ops Q S St (fuel + 1) listed a w := ⟨fun h0 => absurd (hr ▸ h0) hne, hr ▸ h⟩
theorem wpAnyS_done {listed : Array Bool} {a : Act} {w : World} (hr : Region.ready md ops listed = []) (h : Q .normal a w) :
    ∀ fuel, wpAnyS P md ops Q S St fuel listed a w
  | 0 => ⟨hr, h⟩
  | _ + 1 => ⟨fun _ => h, by rw [hr]; simp⟩
theorem wp_region_S {id : Nat} {a : Act} {w : World} (hm : P.follows .mixedOrders = true) (hS : S w.drew)
    (h : Hold S St (Array.replicate ops.size false) w.drew → wpAnyS P .any ops Q S St ops.size (Array.replicate ops.size false) a w.drew) : (Code.region id ops true).wp P Q a w :=
  wp_region_any hm (wpAny_of_S _ _ _ _ (h fun _ => hS))
/-- A store has come up: nothing more is to be shown. -/
theorem Hold.over {s : Nat} {listed : Array Bool} {w : World} (h : s ∈ St) (hl : listed.getD s true = true) : Hold S St listed w := fun q => by
  have := q s h
  rw [hl] at this
  cases this
theorem Hold.of {listed : Array Bool} {w : World} (h : S w) : Hold S St listed w := fun _ => h
end
end Go.Proofs.Ytbehmclligkbhaa
