/- Joined texts of the proof. -/
import Derived.Test.YtjgggmjjikopeaaGreatDoorJ18
import Derived.Test.YtjgggmjjikopeaaGreatDoorJ9
import Derived.Lib.LaidTab
import Derived.Stop.LaidErr
import Derived.LaidMore
import Derived.ProofKit
import Derived.OpenShut

/- Prepared for layer 5, no program is named: the text of a program tells it apart from any other. -/
namespace Go.Proofs.YtjgggmjjikopeaaGreatDoor
set_option linter.unusedVariables false

/-- A statement, as data. -/
inductive St where
  | mk (kind : Int) (nm : List UInt8) (e : Ex) (body els : List St)

/-- No expression. -/
def noE : Ex := .mk 0 0 0 [] []

section
variable (prX : Ex → Option (List UInt8)) (isName : List UInt8 → Bool) (isNo : Ex → Bool)

variable {prX isName isNo}

end
end Go.Proofs.YtjgggmjjikopeaaGreatDoor

/- Prepared for layer 5, no program is named: statements' lines tell them apart. -/
namespace Go.Proofs.YtjgggmjjikopeaaGreatDoor
set_option linter.unusedVariables false
section
variable {prX : Ex → Option (List UInt8)} {isName : List UInt8 → Bool} {isNo : Ex → Bool}

end
end Go.Proofs.YtjgggmjjikopeaaGreatDoor

/- Prepared for layer 5, no program is named: a program's text tells it apart from any other. -/
namespace Go.Proofs.YtjgggmjjikopeaaGreatDoor
set_option linter.unusedVariables false

/-- A variable, a thread, a program, as data. -/
structure Vr where
  nm : List UInt8
  t : Nat
  b : Nat
structure Th where
  nm : List UInt8
  locals : List Vr
  body : List St
structure Pg where
  shared : List Vr
  mutexes : List (List UInt8)
  threads : List Th

section
variable (prX : Ex → Option (List UInt8)) (isName : List UInt8 → Bool) (isNo : Ex → Bool) (vtx : Nat → Nat → Option (List UInt8))

variable {prX isName isNo vtx}

end
end Go.Proofs.YtjgggmjjikopeaaGreatDoor

/- Regions that draw their order and end in stores to what they read: a condition on the world that holds till the first of these stores comes up. -/
namespace Go.Proofs.YtjgggmjjikopeaaGreatDoor
open Go Go.RowKit
set_option linter.unusedVariables false

section
variable {P : Program} {ops : Array Oper} {Q : Exit → Act → World → Prop} {md : Region.Mode} {S : World → Prop} {St : List Nat}

/-- As long as none of the stores has come up, S holds. -/
def Hold (S : World → Prop) (St : List Nat) (listed : Array Bool) (w : World) : Prop := (∀ s ∈ St, listed.getD s true = false) → S w
def wpAnyS (P : Program) (md : Region.Mode) (ops : Array Oper) (Q : Exit → Act → World → Prop) (S : World → Prop) (St : List Nat) : Nat → Array Bool → Act → World → Prop
  | 0, listed, a, w => Region.ready md ops listed = [] ∧ Q .normal a w
  | fuel + 1, listed, a, w =>
    (Region.ready md ops listed = [] → Q .normal a w) ∧
    ∀ i ∈ Region.ready md ops listed, wpOp P ops Q i (fun a' w' => Hold S St (listed.setIfInBounds i true) w' ∧ wpAnyS P md ops Q S St fuel (listed.setIfInBounds i true) a' w') a w
theorem wpAny_of_S : ∀ (fuel : Nat) (listed : Array Bool) (a : Act) (w : World), wpAnyS P md ops Q S St fuel listed a w → wpAny P md ops Q fuel listed a w
  | 0, _, _, _, h => h
  | fuel + 1, _, _, _, h => ⟨h.1, fun i hi => wpOp_mono (fun a' w' h' => wpAny_of_S fuel _ a' w' h'.2) (h.2 i hi)⟩

theorem hold_less {i j : Nat} {listed : Array Bool} {w : World} (hi : i ∉ St) (h : Hold S St ((listed.setIfInBounds i true).setIfInBounds j true) w) : Hold S St (listed.setIfInBounds j true) w := fun hs => h fun s hm => by
  have hsi : i ≠ s := fun e => hi (e ▸ hm)
  have := hs s hm
  by_cases hj : j = s
  · subst hj
    rw [Array.setIfInBounds_comm _ _ hsi, getD_set_ne true hsi]
    exact this
  · rw [getD_set_ne true hj] at this
    rw [getD_set_ne true hj, getD_set_ne true hsi]
    exact this

theorem wpAnyS_first {i : Nat} {oi : Oper} {v : Value} (hi : ops[i]? = some oi) (hsel : ∀ (j : Nat) (o : Oper) cs b, ops[j]? = some o → o.op ≠ .select cs b)
    (hQ : ∀ c a w, Q (.panic c) (a.put oi.dst v) w → Q (.panic c) a w) (hiS : i ∉ St) (Inv : Array Bool → Prop) (S0 : World → Prop)
    (hInv : ∀ listed j, Inv listed → listed.getD i true = false → j ∈ Region.ready md ops listed → j ≠ i → Inv (listed.setIfInBounds j true))
    (hY : ∀ listed w, Inv listed → Hold S St listed w → S0 w) :
    ∀ (fuel : Nat) (listed : Array Bool) (a : Act) (w : World),
      (∀ j oj, ops[j]? = some oj → j ≠ i → listed.getD j true = false → (∀ e ∈ oj.after, Region.binds md e = true → e.on ≠ i) → oi.apart ops oj = true) →
      i ∈ Region.ready md ops listed → Inv listed → YieldsIf P ops S0 oi v a → Hold S St listed w →
      Hold S St (listed.setIfInBounds i true) w → wpAnyS P md ops Q S St fuel (listed.setIfInBounds i true) (a.put oi.dst v) w → wpAnyS P md ops Q S St (fuel + 1) listed a w := by
  intro fuel
  induction fuel with
  | zero =>
    intro listed a w _ hr hv hy hS hSi H
    refine ⟨fun h => (by rw [h] at hr; cases hr), fun j hj => ?_⟩
    by_cases hji : j = i
    · subst hji; exact hy.wpOp hi (hY _ _ hv hS) ⟨hSi, H⟩
    · have := ready_mono hj hji
      rw [H.1] at this
      cases this
  | succ fuel ih =>
    intro listed a w hfree hr hv hy hS hSi H
    refine ⟨fun h => (by rw [h] at hr; cases hr), fun j hj => ?_⟩
    by_cases hji : j = i
    · subst hji; exact hy.wpOp hi (hY _ _ hv hS) ⟨hSi, H⟩
    · have h1 := H.2 j (ready_mono hj hji)
      obtain ⟨hjun, oj, hoj, hall⟩ := mem_ready.1 hj
      have hnot : ∀ e ∈ oj.after, Region.binds md e = true → e.on ≠ i := fun e he hb heq => by
        have h1 := hall e he hb
        have h0 := (mem_ready.1 hr).1
        rw [heq] at h1
        rcases Nat.lt_or_ge i listed.size with h' | h'
        · simp [h'] at h0 h1; rw [h0] at h1; cases h1
        · simp [Array.getElem?_eq_none h'] at h1
      have h2 := wpOp_putIf hoj (hfree j oj hoj hji hjun hnot) (fun cs b => hsel i oi cs b hi) (fun cs b => hsel j oj cs b hoj) hQ hy h1
      have hfree' : ∀ k ok, ops[k]? = some ok → k ≠ i → (listed.setIfInBounds j true).getD k true = false →
          (∀ e ∈ ok.after, Region.binds md e = true → e.on ≠ i) → oi.apart ops ok = true := fun k ok hk hki hun hno => by
        refine hfree k ok hk hki ?_ hno
        by_cases hjk : j = k
        · subst hjk; exact hjun
        · rw [getD_set_ne true hjk] at hun; exact hun
      refine wpOp_mono (fun a' w' h3 => ?_) h2
      have hh := hold_less hiS h3.2.1
      refine ⟨hh, ih (listed.setIfInBounds j true) a' w' hfree' (ready_mono hr (Ne.symm hji)) (hInv _ _ hv (mem_ready.1 hr).1 hj hji) h3.1 hh ?_ ?_⟩
      · rw [Array.setIfInBounds_comm _ _ hji]
        exact h3.2.1
      · rw [Array.setIfInBounds_comm _ _ hji]
        exact h3.2.2

/-- Number i is taken first: it yields v in whatever world. -/
theorem wpAnyS_pure {i : Nat} {oi : Oper} {v : Value} {fuel : Nat} {listed : Array Bool} {a : Act} {w : World} (hi : ops[i]? = some oi)
    (hs : Region.noSelect ops = true) (hf : Region.free md ops listed i = true) (hr : (Region.ready md ops listed).contains i = true) (hiS : St.contains i = false)
    (hQ : ∀ c a w, Q (.panic c) (a.put oi.dst v) w → Q (.panic c) a w) (hy : YieldsIf P ops (fun _ => True) oi v a) (hS : Hold S St listed w)
    (h : Hold S St (listed.setIfInBounds i true) w → wpAnyS P md ops Q S St fuel (listed.setIfInBounds i true) (a.put oi.dst v) w) : wpAnyS P md ops Q S St (fuel + 1) listed a w := by
  have hn : i ∉ St := fun hm => by rw [List.contains_iff_mem.2 hm] at hiS; cases hiS
  have h2 : Hold S St (listed.setIfInBounds i true) w := fun q => hS fun s hm => by have := q s hm; rwa [getD_set_ne true (show i ≠ s from fun e => hn (e ▸ hm))] at this
  exact wpAnyS_first hi (Region.noSelect_spec hs) hQ hn (fun _ => True) (fun _ => True) (fun _ _ _ _ _ _ => trivial) (fun _ _ _ _ => trivial) fuel listed a w (Region.free_spec hi hf) (by simpa using hr) trivial hy hS h2 (h h2)
/-- Number i is taken first: it yields v where S holds, and the stores wait for it. -/
theorem wpAnyS_take {i : Nat} {oi : Oper} {v : Value} {fuel : Nat} {listed : Array Bool} {a : Act} {w : World} (Wt : List Nat) (hi : ops[i]? = some oi)
    (hs : Region.noSelect ops = true) (hf : Region.free md ops listed i = true) (hr : (Region.ready md ops listed).contains i = true) (hiS : St.contains i = false)
    (hW : (Wt.all fun j => ((ops[j]?).map fun o => o.after.any fun e => Region.binds md e && (e.on == i || Wt.contains e.on)) == some true) = true) (hSW : (St.all fun j => Wt.contains j) = true) (hun : (Wt.all fun j => listed.getD j true == false) = true)
    (hQ : ∀ c a w, Q (.panic c) (a.put oi.dst v) w → Q (.panic c) a w) (hy : YieldsIf P ops S oi v a) (hS : Hold S St listed w)
    (h : Hold S St (listed.setIfInBounds i true) w → wpAnyS P md ops Q S St fuel (listed.setIfInBounds i true) (a.put oi.dst v) w) : wpAnyS P md ops Q S St (fuel + 1) listed a w := by
  have hn : i ∉ St := fun hm => by rw [List.contains_iff_mem.2 hm] at hiS; cases hiS
  have h2 : Hold S St (listed.setIfInBounds i true) w := fun q => hS fun s hm => by have := q s hm; rwa [getD_set_ne true (show i ≠ s from fun e => hn (e ▸ hm))] at this
  refine wpAnyS_first hi (Region.noSelect_spec hs) hQ hn (fun l => ∀ j ∈ Wt, l.getD j true = false) S ?_ ?_ fuel listed a w (Region.free_spec hi hf) (by simpa using hr) ?_ hy hS h2 (h h2)
  · intro l j hl hil hj hji k hk
    by_cases hjk : j = k
    · subst hjk
      exfalso
      have h1 := List.all_eq_true.1 hW j hk
      rw [beq_iff_eq] at h1
      obtain ⟨o, ho, h3⟩ := Option.map_eq_some_iff.1 h1
      obtain ⟨e, he, h4⟩ := Array.any_eq_true'.1 h3
      rw [Bool.and_eq_true, Bool.or_eq_true] at h4
      obtain ⟨hjun, oj, hoj, hall⟩ := mem_ready.1 hj
      rw [ho] at hoj
      cases hoj
      have h5 := hall e he h4.1
      have h6 : l.getD e.on true = false := by
        rcases h4.2 with q | q
        · rw [beq_iff_eq] at q; rw [q]; exact hil
        · exact hl _ (List.contains_iff_mem.1 q)
      rcases Nat.lt_or_ge e.on l.size with h' | h'
      · simp [h'] at h5 h6; rw [h6] at h5; cases h5
      · simp [Array.getElem?_eq_none h'] at h5
    · rw [getD_set_ne true hjk]; exact hl k hk
  · intro l w' hl hh
    exact hh fun s hm => hl s (List.contains_iff_mem.1 (List.all_eq_true.1 hSW s hm))
  · intro j hj
    have := List.all_eq_true.1 hun j hj
    rwa [beq_iff_eq] at this

def AllReadyS (P : Program) (md : Region.Mode) (ops : Array Oper) (Q : Exit → Act → World → Prop) (S : World → Prop) (St : List Nat) (fuel : Nat) (listed : Array Bool) (a : Act) (w : World) (rs : List Nat) : Prop :=
  ∀ i ∈ rs, wpOp P ops Q i (fun a' w' => Hold S St (listed.setIfInBounds i true) w' ∧ wpAnyS P md ops Q S St fuel (listed.setIfInBounds i true) a' w') a w
theorem AllReadyS.nil {fuel : Nat} {listed : Array Bool} {a : Act} {w : World} : AllReadyS P md ops Q S St fuel listed a w [] := fun _ h => by cases h
theorem AllReadyS.cons {fuel : Nat} {listed : Array Bool} {a : Act} {w : World} {i : Nat} {o : Oper} {rs : List Nat} (ho : ops[i]? = some o)
    (h : ∀ K' : Act → World → Prop, Shut (∀ a w, Hold S St (listed.setIfInBounds i true) w → (Hold S St (listed.setIfInBounds i true) w → wpAnyS P md ops Q S St fuel (listed.setIfInBounds i true) a w) → K' a w) → if Region.wanted o (yielded ops a.tmps) = true then Oper.wp P o a w K' Q else K' (a.put o.dst undef) w)
    (hs : AllReadyS P md ops Q S St fuel listed a w rs) : AllReadyS P md ops Q S St fuel listed a w (i :: rs) := fun j hj => by
  rcases List.mem_cons.1 hj with rfl | hj
  · exact wpOp_step ho (fun K' hK => h K' (fun a w hS hW => hK a w ⟨hS, hW hS⟩))
  · exact hs j hj
theorem wpAnyS_ready {rs : List Nat} {fuel : Nat} {listed : Array Bool} {a : Act} {w : World} (hr : Region.ready md ops listed = rs) (hne : rs ≠ [])
    (h : AllReadyS P md ops Q S St fuel listed a w rs) : wpAnyS P md ops Q S St (fuel + 1) listed a w := ⟨fun h0 => absurd (hr ▸ h0) hne, hr ▸ h⟩
theorem wpAnyS_done {listed : Array Bool} {a : Act} {w : World} (hr : Region.ready md ops listed = []) (h : Q .normal a w) :
    ∀ fuel, wpAnyS P md ops Q S St fuel listed a w
  | 0 => ⟨hr, h⟩
  | _ + 1 => ⟨fun _ => h, by rw [hr]; simp⟩
theorem wp_region_S {id : Nat} {a : Act} {w : World} (hm : P.follows .mixedOrders = true) (hS : S w.drew)
    (h : Hold S St (Array.replicate ops.size false) w.drew → wpAnyS P .any ops Q S St ops.size (Array.replicate ops.size false) a w.drew) : (Code.region id ops true).wp P Q a w :=
  wp_region_any hm (wpAny_of_S _ _ _ _ (h fun _ => hS))
/-- A store has come up: nothing more is to be shown. -/
theorem Hold.over {s : Nat} {listed : Array Bool} {w : World} (h : s ∈ St) (hl : listed.getD s true = true) : Hold S St listed w := fun q => by
  have := q s h
  rw [hl] at this
  cases this
theorem Hold.of {listed : Array Bool} {w : World} (h : S w) : Hold S St listed w := fun _ => h
end
end Go.Proofs.YtjgggmjjikopeaaGreatDoor

/- Steps of regions that draw their order, in few words. -/
namespace Go.Proofs.YtjgggmjjikopeaaGreatDoor
open Go.RowKit
set_option linter.unusedVariables false

theorem sA {α : Type} (l : List α) (i : Nat) (a : α) : l.toArray.setIfInBounds i a = (l.set i a).toArray := List.setIfInBounds_toArray ..
theorem sB {α : Type} (x : α) (l : List α) (a : α) : (x :: l).set 0 a = a :: l := rfl
theorem sC {α : Type} (x : α) (l : List α) (n : Nat) (a : α) : (x :: l).set (n + 1) a = x :: l.set n a := rfl
section
variable {P : Program} {ops : Array Oper} {Q : Exit → Act → World → Prop} {md : Region.Mode} {S : World → Prop}
/-- One that is wanted comes first. -/
theorem tY (i : Nat) (v : Value) {oi : Oper} {fuel : Nat} {listed : Array Bool} {a : Act} {w : World} (hi : ops[i]? = some oi) (hS : S w) (hy : ∀ w, S w → (execOp a.eval oi).run P w = .ok (.value v) w)
    (h : wpAnyH P md ops Q S fuel (listed.setIfInBounds i true) (a.put oi.dst v) w) (hs : Region.noSelect ops = true := by kernel_rfl) (hf : Region.free md ops listed i = true := by kernel_rfl) (hr : (Region.ready md ops listed).contains i = true := by kernel_rfl)
    (hQ : ∀ c a w, Q (.panic c) (a.put oi.dst v) w → Q (.panic c) a w := by exact fun _ _ _ h => h) (hw : Region.wanted oi (yielded ops a.tmps) = true := by rfl) : wpAnyH P md ops Q S (fuel + 1) listed a w :=
  wpAnyH_take hi hs hf hr hQ (.inl ⟨hw, hy⟩) hS h
/-- May so many be passed by, one behind the other? -/
def skOk (md : Region.Mode) (ops : Array Oper) : List (Nat × Nat) → Array Bool → Act → Bool
  | [], _, _ => true
  | p :: r, L, a => match ops[p.1]? with
    | none => false
    | some oi => decide (oi.dst = some p.2) && (Region.free md ops L p.1 && ((Region.ready md ops L).contains p.1 && (!(Region.wanted oi (yielded ops a.tmps)) && skOk md ops r (L.setIfInBounds p.1 true) (a.put (some p.2) undef))))
theorem tNs (n : Nat) (l : List (Nat × Nat)) {fuel : Nat} {L : Array Bool} {a : Act} {w : World} (hS : S w)
    (h : wpAnyH P md ops Q S fuel (l.foldl (fun L p => L.setIfInBounds p.1 true) L) (l.foldl (fun a p => a.put (some p.2) undef) a) w) (hs : Region.noSelect ops = true := by kernel_rfl) (hk : skOk md ops l L a = true := by kernel_rfl) (hn : l.length = n := by rfl)
    (hQ : ∀ (d : Nat) c a w, Q (.panic c) (a.put (some d) undef) w → Q (.panic c) a w := by exact fun _ _ _ _ h => h) : wpAnyH P md ops Q S (fuel + n) L a w := by
  subst hn
  induction l generalizing L a with
  | nil => exact h
  | cons p r ih =>
    unfold skOk at hk
    split at hk
    · cases hk
    · next oi hi =>
      simp only [Bool.and_eq_true, decide_eq_true_eq, Bool.not_eq_true'] at hk
      obtain ⟨h1, h2, h3, h4, h5⟩ := hk
      refine wpAnyH_take (i := p.1) (v := undef) hi hs h2 h3 (by rw [h1]; exact hQ p.2) (.inr ⟨h4, rfl⟩) hS ?_
      rw [h1]
      exact ih h h5
end
section
variable {P : Program} {ops : Array Oper} {rest : List Oper} {o : Oper} {a : Act} {w : World} {Q : Exit → Act → World → Prop}
end

section
variable {P : Program} {ops : Array Oper} {rest : List Oper} {o : Oper} {a : Act} {w : World} {Q : Exit → Act → World → Prop}
end
end Go.Proofs.YtjgggmjjikopeaaGreatDoor

/- The document's own names. -/
namespace Go.Proofs.YtjgggmjjikopeaaGreatDoor
open Ieee Go.RowKit
set_option linter.unusedVariables false
end Go.Proofs.YtjgggmjjikopeaaGreatDoor

/- What the card's listed variables give the walks: the library's error of the range and the table of powers of ten are laid. -/
namespace Go.Proofs.YtjgggmjjikopeaaGreatDoor
open Go.ChangeShapes Go.WideShapes Go.ChangeAt Go.RowKit
set_option linter.unusedVariables false

def laidL : List (String × DataW Unit) := [("math/bits.deBruijn32tab", Rows.laid_math_bits_deBruijn32tab), ("math/bits.deBruijn64tab", Rows.laid_math_bits_deBruijn64tab), ("internal/strconv.uint64pow10", Rows.laid_internal_strconv_uint64pow10), ("strconv.ErrRange", Rows.laid_strconv_ErrRange), ("strconv.ErrSyntax", Rows.laid_strconv_ErrSyntax)]

theorem gER : Tryz.prog.globalNamed "strconv.ErrRange" = some 2 := by kernel_rfl
theorem gERType : (Tryz.prog.globals[2]?).map (·.type) = some 143 := by kernel_rfl
theorem cellsES : Tryz.prog.cellsOf 225 = 1 := by kernel_rfl
theorem cells9x : Tryz.prog.cellsOf 9 = 1 := by kernel_rfl
theorem starES : "*" ++ "errors.errorString" = "*errors.errorString" := by decide
theorem rowES (u : TypeId) (h : Tryz.prog.typeName? 3 u = some "*errors.errorString") : u = 223 :=
  typeName_ptr_named (nm := "errors.errorString") (by rw [starES]; kernel_rfl) (by kernel_rfl) (by decide) u (by rw [starES]; exact h)

theorem errR_of_laid {W : World} (h : laidMetH Tryz.prog laidL W) : ErrR W := by
  rw [MakeChecks.laidMetH_plain _ _ _ (by kernel_rfl)] at h
  obtain ⟨a1, s1, hv1, -, -, -⟩ := laid_sentinel h.tail.tail.tail gER gERType Tryz.underlying143 rowES Tryz.underlying223 Tryz.underlying225 rfl rfl Tryz.underlying9 cellsES cells9x
  exact ⟨_, by have h0 := World.var?_cell gER hv1 0; simpa using h0, .inr ⟨_, _, rfl⟩⟩

theorem gP10 : Tryz.prog.globalNamed "internal/strconv.uint64pow10" = some 4 := by kernel_rfl
theorem gP10Type : (Tryz.prog.globals[4]?).map (·.type) = some 218 := by kernel_rfl
theorem cells38x : Tryz.prog.cellsOf 38 = 1 := by kernel_rfl
theorem cells218 : Tryz.prog.cellsOf 218 = 20 := by kernel_rfl
theorem gDb : Tryz.prog.globalNamed "math/bits.deBruijn64tab" = some 6 := by kernel_rfl

theorem size_of_laid {W : World} (h : laidMetH Tryz.prog laidL W) : gB ≤ W.heap.size := by
  rw [MakeChecks.laidMetH_plain _ _ _ (by kernel_rfl)] at h
  obtain ⟨ps, ⟨g', t', cs, fuel, p, q, hg', ht', hvar, hd, _, _⟩, _⟩ := laidMet.tail h
  obtain rfl := Option.some.inj (gDb.symm.trans hg')
  unfold World.var? at hvar
  obtain ⟨g, hg, hx⟩ := Option.bind_eq_some_iff.1 hvar
  obtain rfl := Option.some.inj (gDb.symm.trans hg)
  show 7 ≤ W.heap.size
  by_cases hs : 6 < W.heap.size
  · omega
  · rw [Array.getElem?_eq_none (by omega)] at hx
    simp at hx

theorem tab_of_laid {W : World} (h : laidMetH Tryz.prog laidL W) : Tab W := by
  rw [MakeChecks.laidMetH_plain _ _ _ (by kernel_rfl)] at h
  exact Lib.tabIs_of_head gP10 gP10Type Tryz.underlying218 Tryz.underlying38 cells38x cells218 (laidMet.tail (laidMet.tail h))

/-- The door's own heap meets the condition. -/
theorem door_met (os : Os) (args : Array Value) : laidMetH Tryz.prog laidL ((World.doorLaid Tryz.prog 400 os).forCall (fun _ _ => 0) ⟨#[], args, []⟩).memory :=
  laidMetH_of_parts3 (fuel := 8) (laidMet_of_run' 8 (by kernel_rfl) (by kernel_rfl)) (by kernel_rfl) (by kernel_rfl)
end Go.Proofs.YtjgggmjjikopeaaGreatDoor

/- append, and what stands behind the new length. -/
namespace Go.Proofs.YtjgggmjjikopeaaGreatDoor
open Go.RowKit
set_option linter.unusedVariables false

theorem zeroCells_mem {z : Array Value} {n : Nat} {u : Value} (h : u ∈ (Builtin.zeroCells z n).toList) : u ∈ z.toList := by
  unfold Builtin.zeroCells at h
  rw [Array.toList_map] at h
  obtain ⟨i, hi, rfl⟩ := List.mem_map.1 h
  have hi' : i < n * z.size := by simpa using hi
  have hz : 0 < z.size := by
    rcases Nat.eq_zero_or_pos z.size with q | q
    · rw [q] at hi'; omega
    · exact q
  have hm : i % z.size < z.size := Nat.mod_lt _ hz
  rw [getElem!_pos z (i % z.size) hm]
  exact Array.mem_toList_iff.2 (Array.getElem_mem hm)
theorem tail_mem {xs : Array Value} {zs : Array Value} {o : Nat} {u : Value} (h : (xs ++ zs)[o]? = some u) (ho : xs.size ≤ o) : u ∈ zs.toList := by
  rw [Array.getElem?_append_right ho] at h
  exact Array.mem_toList_iff.2 (Array.mem_of_getElem? h)
section
variable {P : Program} (w : World)
theorem run_append_rest (t ty : TypeId) (base : Nat) (e : TypeId) (i : TypeInfo) (z : Value) (size bytes : Nat) (ht : P.underlying t = some (.slice e)) (hi : P.info? e = some i) (hz : i.zero = some z)
    (hsize : i.size = size) (hby : i.bytes = bytes) (hzs : z.cells.size = size) (hsz : 0 < size)
    (v : Value) (n : Nat) (xs : List Value) (hown : w.ownsRow base e size v n xs)
    (ad : Addr) (m c : Nat) (news : List Value) (hl : news.length = m * size) (hnews : ∀ j u, news[j]? = some u → w.cell? (ad.add j) = some u) (h1 : ∀ u ∈ news, u.oneCell' = true)
    (hm : 0 < m) (h63 : n + m ≤ maxLen) (hbytes : (n + m) * bytes ≤ 140737488355328) (hbase : base ≤ w.heap.size)
    (R : Value → Prop) (hR : ∀ k, v.ownBlock = some k → ∀ o u, n * size ≤ o → w.cell? ⟨k, o, none⟩ = some u → R u) (hZ : ∀ u ∈ z.cells.toList, R u) :
    ∃ g cap w', (Builtin.append_ #[t, t] ty #[v, .slice (some ad) m c]).run P w = .ok (.slice (some ⟨g, 0, none⟩) (n + m) cap) w' ∧
      w'.ownsRow base e size (.slice (some ⟨g, 0, none⟩) (n + m) cap) (n + m) (xs ++ news) ∧ w.grownBy w' v.ownBlock ∧ (v.ownBlock = some g ∨ g = w.heap.size) ∧ g < w'.heap.size ∧
      ∀ o u, (n + m) * size ≤ o → w'.cell? ⟨g, o, none⟩ = some u → R u := by
  obtain ⟨g, cap, w', hr, h2, h3, h4, h5⟩ := run_append_lies (P := P) w t ty base e i z size bytes ht hi hz hsize hby hzs hsz v n xs hown ad m c news hl hnews h1 hm h63 hbytes hbase w.heap.size rfl
  refine ⟨g, cap, w', hr, h2, h3, h4, h5, fun o u ho hu => ?_⟩
  have hsmall : n + m ≤ 9223372036854775807 := by simp only [maxLen] at h63; omega
  subst hsize
  subst hby
  rcases hown.2 with ⟨rfl, rfl⟩ | ⟨g0, cap0, cur, rfl, hbg, hg, hnc, hcm, hcs, htake⟩
  · have hb := hbytes
    simp only [Nat.zero_add] at hb
    have hr2 := run_append_nil (P := P) w t ty e i z ht hi hz ad m c news hl hnews hm (by omega) (by omega)
    rw [hr2] at hr
    injection hr with e1 e2
    injection e1 with e1 _ _
    injection e1 with e1
    injection e1 with e1
    subst e1 e2
    rw [cell_of_row _ w.heap.size o _ e (0, 0) (heap_alloc_new w.drew _)] at hu
    exact hZ u (zeroCells_mem (tail_mem hu (by rw [List.size_toArray, hl]; rw [Nat.zero_add] at ho; exact ho)))
  · by_cases hroom : n + m ≤ cap0
    · have hfit : n * i.size + news.length ≤ cur.size := by rw [hl, hcs, ← Nat.add_mul]; exact Nat.mul_le_mul_right _ hroom
      have hr2 := run_append_room (P := P) w t ty e i ht hi g0 n cap0 cur hg ad m c news hl hnews h1 hroom hfit
      rw [hr2] at hr
      injection hr with e1 e2
      injection e1 with e1 _ _
      injection e1 with e1
      injection e1 with e1
      subst e1 e2
      rw [cell_of_row _ g0 o _ e (0, 0) (setRow_heap w g0 cur _ e _ hg)] at hu
      have hx : n * i.size + news.length ≤ o := by rw [hl, ← Nat.add_mul]; exact ho
      rw [List.getElem?_toArray, List.getElem?_append_right (by rw [List.length_append, List.length_take, Array.length_toList]; omega), List.getElem?_drop] at hu
      have ho' : n * i.size + news.length + (o - (List.take (n * i.size) cur.toList ++ news).length) = o := by
        rw [List.length_append, List.length_take, Array.length_toList (xs := cur)]
        omega
      rw [ho'] at hu
      refine hR g0 rfl o u (by omega) ?_
      rw [cell_of_row _ g0 o _ e (0, 0) hg, ← Array.getElem?_toList]
      exact hu
    · have holds : ∀ j u, xs[j]? = some u → w.cell? ((⟨g0, 0, none⟩ : Addr).add j) = some u := hown.cells (g := g0) rfl
      have hr2 := run_append_grow (P := P) w t ty e i z ht hi hz ⟨g0, 0, none⟩ n cap0 xs hown.1 holds ad m c news hl hnews (by omega) (by omega) (growslice_fits (by omega) hbytes)
      rw [hr2] at hr
      injection hr with e1 e2
      injection e1 with e1 _ _
      injection e1 with e1
      injection e1 with e1
      subst e1 e2
      rw [cell_of_row _ w.heap.size o _ e (0, 0) (heap_alloc_new w.drew _)] at hu
      refine hZ u (zeroCells_mem (tail_mem hu ?_))
      rw [Array.size_append, List.size_toArray, List.size_toArray, hown.1, hl, ← Nat.add_mul]
      exact ho
theorem wp_append_rest {o : Oper} {a : Act} {K : Act → World → Prop} {Q : Exit → Act → World → Prop} (s x : Operand) (t : TypeId)
    (ho : o.op = .call { callee := .builtin .append, args := #[s, x], argTypes := #[t, t] })
    (base : Nat) (e : TypeId) (i : TypeInfo) (z : Value) (size bytes : Nat) (ht : P.underlying t = some (.slice e)) (hi : P.info? e = some i) (hz : i.zero = some z)
    (hsize : i.size = size) (hby : i.bytes = bytes) (hzs : z.cells.size = size) (hsz : 0 < size)
    (v : Value) (n : Nat) (xs : List Value) (hs : a.eval s = v) (hown : w.ownsRow base e size v n xs)
    (ad : Addr) (m c : Nat) (news : List Value) (hx : a.eval x = .slice (some ad) m c) (hl : news.length = m * size) (hnews : ∀ j u, news[j]? = some u → w.cell? (ad.add j) = some u) (h1 : ∀ u ∈ news, u.oneCell' = true)
    (hm : 0 < m) (h63 : n + m ≤ maxLen) (hbytes : (n + m) * bytes ≤ 140737488355328) (hbase : base ≤ w.heap.size)
    (R : Value → Prop) (hR : ∀ k, v.ownBlock = some k → ∀ o u, n * size ≤ o → w.cell? ⟨k, o, none⟩ = some u → R u) (hZ : ∀ u ∈ z.cells.toList, R u)
    (h : ∀ g cap w', w'.ownsRow base e size (.slice (some ⟨g, 0, none⟩) (n + m) cap) (n + m) (xs ++ news) → w.grownBy w' v.ownBlock → (v.ownBlock = some g ∨ g = w.heap.size) → (∀ o u, (n + m) * size ≤ o → w'.cell? ⟨g, o, none⟩ = some u → R u) → K (a.put o.dst (.slice (some ⟨g, 0, none⟩) (n + m) cap)) w') : o.wp P a w K Q := by
  obtain ⟨g, cap, w', hr, h2, h3, h4, h5, h6⟩ := run_append_rest (P := P) w t o.type base e i z size bytes ht hi hz hsize hby hzs hsz v n xs hown ad m c news hl hnews h1 hm h63 hbytes hbase R hR hZ
  unfold Oper.wp execOp
  simp only [ho, resolve, invoke, builtin, Sem.run_bind, Sem.run_pure, Result.andThen_ok, List.map_toArray, List.map_cons, List.map_nil, hs, hx, hr]
  exact h g cap w' h2 h3 h4 h6
end

end Go.Proofs.YtjgggmjjikopeaaGreatDoor

/- Statements, variables, threads, programs in memory. -/
namespace Go.Proofs.YtjgggmjjikopeaaGreatDoor
open Go.RowKit
set_option linter.unusedVariables false

/-- A statement, with where its blocks lie. -/
inductive ST where
  | mk (k : Int) (nm : ByteArray) (e : ET) (a1 : Option Addr) (c1 : Nat) (body : List ST) (a2 : Option Addr) (c2 : Nat) (els : List ST)

def st9 (k : Int) (nm : ByteArray) (e : List Value) (s1 s2 : Value) : List Value := .int .i64 k :: .string nm :: (e ++ [s1, s2])

def ST.cells : ST → List Value
  | .mk k nm e a1 c1 body a2 c2 els => st9 k nm e.cells (.slice a1 body.length c1) (.slice a2 els.length c2)

mutual
def ST.st : ST → St
  | .mk k nm e _ _ body _ _ els => .mk k nm.data.toList e.ex (ST.sts body) (ST.sts els)
def ST.sts : List ST → List St
  | [] => []
  | s :: r => s.st :: ST.sts r
end

theorem ST.sts_eq : ∀ ks : List ST, ST.sts ks = ks.map ST.st
  | [] => rfl
  | e :: r => by rw [ST.sts, ST.sts_eq r]; rfl

mutual
def ST.In (B : Nat) (w : World) : ST → Prop
  | .mk k nm e a1 c1 body a2 c2 els => (-9223372036854775808 ≤ k ∧ k ≤ 9223372036854775807) ∧ e.In B w ∧
    (body.length ≤ 1048576 ∧ body.length ≤ c1 ∧ (body = [] ∨ ∃ g o, a1 = some ⟨g, o, none⟩ ∧ g < B ∧ ST.Row B w g body o)) ∧
    (els.length ≤ 1048576 ∧ els.length ≤ c2 ∧ (els = [] ∨ ∃ g o, a2 = some ⟨g, o, none⟩ ∧ g < B ∧ ST.Row B w g els o))
def ST.Row (B : Nat) (w : World) (g : Nat) : List ST → Nat → Prop
  | [], _ => True
  | s :: r, o => w.rangeAt g o s.cells ∧ s.In B w ∧ ST.Row B w g r (o + 9)
end

theorem ST.cells_len (s : ST) : s.cells.length = 9 := by cases s; simp [ST.cells, st9, ET.cells_len]

mutual
theorem ST.In.old {B : Nat} {w w' : World} (hO : Old B w w') : ∀ {s : ST}, s.In B w → s.In B w'
  | .mk k nm e a1 c1 body a2 c2 els, h => by
    unfold ST.In at h ⊢
    obtain ⟨h1, h2, ⟨h3, h4, h5⟩, h6, h7, h8⟩ := h
    refine ⟨h1, h2.old hO, ⟨h3, h4, ?_⟩, h6, h7, ?_⟩
    · rcases h5 with h5 | ⟨g, o, ha, hg, hr⟩
      · exact .inl h5
      · exact .inr ⟨g, o, ha, hg, ST.Row.old hO hg hr⟩
    · rcases h8 with h8 | ⟨g, o, ha, hg, hr⟩
      · exact .inl h8
      · exact .inr ⟨g, o, ha, hg, ST.Row.old hO hg hr⟩
theorem ST.Row.old {B : Nat} {w w' : World} (hO : Old B w w') {g : Nat} (hg : g < B) : ∀ {ks : List ST} {o : Nat}, ST.Row B w g ks o → ST.Row B w' g ks o
  | [], o, _ => trivial
  | s :: r, o, h => by
    unfold ST.Row at h ⊢
    exact ⟨hO.range hg h.1, ST.In.old hO h.2.1, ST.Row.old hO hg h.2.2⟩
end

theorem ST.Row.at {B g : Nat} {w : World} : ∀ {ks : List ST} {o : Nat}, ST.Row B w g ks o → ∀ (i : Nat) (e : ST), ks[i]? = some e → w.rangeAt g (o + i * 9) e.cells ∧ e.In B w
  | [], o, _, i, e, h => by simp at h
  | x :: r, o, hr, 0, e, h => by
    unfold ST.Row at hr
    simp at h
    subst h
    exact ⟨by simpa using hr.1, hr.2.1⟩
  | x :: r, o, hr, i + 1, e, h => by
    unfold ST.Row at hr
    have := ST.Row.at hr.2.2 i e (by simpa using h)
    rw [show o + (i + 1) * 9 = o + 9 + i * 9 by omega]
    exact this

/-- A row of statements in memory. -/
def RowS (B : Nat) (w : World) (a : Option Addr) (c : Nat) (ks : List ST) : Prop := ks.length ≤ 1048576 ∧ ks.length ≤ c ∧ (ks = [] ∨ ∃ g o, a = some ⟨g, o, none⟩ ∧ g < B ∧ ST.Row B w g ks o)

theorem RowS.old {B c : Nat} {w w' : World} {a : Option Addr} {ks : List ST} (h : RowS B w a c ks) (hO : Old B w w') : RowS B w' a c ks := by
  obtain ⟨h1, h2, h | ⟨g, o, ha, hg, hr⟩⟩ := h
  · exact ⟨h1, h2, .inl h⟩
  · exact ⟨h1, h2, .inr ⟨g, o, ha, hg, ST.Row.old hO hg hr⟩⟩

theorem RowS.at {B c : Nat} {w : World} {a : Option Addr} {ks : List ST} (h : RowS B w a c ks) (i : Nat) (k : ST) (hk : ks[i]? = some k) : ∃ g o, a = some ⟨g, o, none⟩ ∧ g < B ∧ w.rangeAt g (o + i * 9) k.cells ∧ k.In B w := by
  obtain ⟨_, _, h | ⟨g, o, ha, hg, hr⟩⟩ := h
  · rw [h] at hk; simp at hk
  · obtain ⟨h1, h2⟩ := hr.at i k hk
    exact ⟨g, o, ha, hg, h1, h2⟩

theorem ST.one (s : ST) : ∀ v ∈ s.cells, v.oneCell' = true := by
  cases s with
  | mk k nm e a1 c1 body a2 c2 els =>
    intro v hv
    simp only [ST.cells, st9, List.mem_cons, List.mem_append, List.not_mem_nil, or_false] at hv
    rcases hv with rfl | rfl | hv | rfl | rfl
    · rfl
    · rfl
    · exact e.one v hv
    · rfl
    · rfl

theorem i38 : (Tryz.prog.info? 51).map (·.size) = some 9 := by kernel_rfl
theorem z38 : (Tryz.prog.info? 51).map (fun i => (i.zero, i.size)) = some (some (.agg (st9 0 ⟨#[]⟩ (ex5 0 0 0 ⟨#[]⟩ (.slice none 0 0)) (.slice none 0 0) (.slice none 0 0)).toArray), 9) := by kernel_rfl

/-- The cells of a statement's block, one by one. -/
theorem st_cells {w : World} {g : Nat} {k : Int} {nm : ByteArray} {op t b : Nat} {enm : ByteArray} {es s1 s2 : Value} (h : At 51 w g (st9 k nm (ex5 op t b enm es) s1 s2)) :
    w.cell? ⟨g, 0, none⟩ = some (.int .i64 k) ∧ w.cell? ⟨g, 1, none⟩ = some (.string nm) ∧ w.cell? ⟨g, 2, none⟩ = some (.int .u8 (op : Int)) ∧ w.cell? ⟨g, 3, none⟩ = some (.int .u8 (t : Int)) ∧
    w.cell? ⟨g, 4, none⟩ = some (.int .u64 (b : Int)) ∧ w.cell? ⟨g, 5, none⟩ = some (.string enm) ∧ w.cell? ⟨g, 6, none⟩ = some es ∧ w.cell? ⟨g, 7, none⟩ = some s1 ∧ w.cell? ⟨g, 8, none⟩ = some s2 := by
  refine ⟨?_, ?_, ?_, ?_, ?_, ?_, ?_, ?_, ?_⟩ <;> (rw [h.cell]; rfl)

mutual
/-- All rows lie in blocks of S. -/
def ST.Lies (S : Nat → Prop) : ST → Prop
  | .mk _ _ e a1 _ b1 a2 _ b2 => e.Lies S ∧ ((b1 = [] ∨ ∃ g o, a1 = some ⟨g, o, none⟩ ∧ S g) ∧ ST.LiesL S b1) ∧ (b2 = [] ∨ ∃ g o, a2 = some ⟨g, o, none⟩ ∧ S g) ∧ ST.LiesL S b2
def ST.LiesL (S : Nat → Prop) : List ST → Prop
  | [] => True
  | e :: r => e.Lies S ∧ ST.LiesL S r
end
theorem at_imp {S S' : Nat → Prop} (hS : ∀ k, S k → S' k) {α : Type} {l : List α} {a : Option Addr} (k : l = [] ∨ ∃ g o, a = some ⟨g, o, none⟩ ∧ S g) : l = [] ∨ ∃ g o, a = some ⟨g, o, none⟩ ∧ S' g := by
  rcases k with k | ⟨g, o, k1, k2⟩
  · exact .inl k
  · exact .inr ⟨g, o, k1, hS g k2⟩
mutual
theorem ST.Lies.mono {S S' : Nat → Prop} (hS : ∀ k, S k → S' k) : ∀ {e : ST}, e.Lies S → e.Lies S'
  | .mk _ _ e a1 _ b1 a2 _ b2, h => by
    unfold ST.Lies at h ⊢
    exact ⟨h.1.mono hS, ⟨at_imp hS h.2.1.1, ST.LiesL.mono hS h.2.1.2⟩, at_imp hS h.2.2.1, ST.LiesL.mono hS h.2.2.2⟩
theorem ST.LiesL.mono {S S' : Nat → Prop} (hS : ∀ k, S k → S' k) : ∀ {l : List ST}, ST.LiesL S l → ST.LiesL S' l
  | [], _ => trivial
  | e :: r, h => by
    unfold ST.LiesL at h ⊢
    exact ⟨ST.Lies.mono hS h.1, ST.LiesL.mono hS h.2⟩
end
mutual
theorem ST.In.stay {B : Nat} {S : Nat → Prop} {w w' : World} (hM : ∀ k, S k → k < B → w'.heap[k]? = w.heap[k]?) : ∀ {e : ST}, e.In B w → e.Lies S → e.In B w'
  | .mk k nm e a1 c1 b1 a2 c2 b2, h, u => by
    unfold ST.In at h ⊢
    unfold ST.Lies at u
    obtain ⟨h1, h2, ⟨h3, h4, h5⟩, h6, h7, h8⟩ := h
    refine ⟨h1, h2.stay hM u.1, ⟨h3, h4, ?_⟩, h6, h7, ?_⟩
    · rcases h5 with h5 | ⟨g, o, ha, hg, hr⟩
      · exact .inl h5
      · rcases u.2.1.1 with hk | ⟨g', o', ha', hg'⟩
        · exact .inl hk
        · rw [ha] at ha'
          cases ha'
          exact .inr ⟨g, o, ha, hg, ST.Row.stay hM hg' hg hr u.2.1.2⟩
    · rcases h8 with h8 | ⟨g, o, ha, hg, hr⟩
      · exact .inl h8
      · rcases u.2.2.1 with hk | ⟨g', o', ha', hg'⟩
        · exact .inl hk
        · rw [ha] at ha'
          cases ha'
          exact .inr ⟨g, o, ha, hg, ST.Row.stay hM hg' hg hr u.2.2.2⟩
theorem ST.Row.stay {B : Nat} {S : Nat → Prop} {w w' : World} (hM : ∀ k, S k → k < B → w'.heap[k]? = w.heap[k]?) {g : Nat} (hA : S g) (hg : g < B) : ∀ {ks : List ST} {o : Nat}, ST.Row B w g ks o → ST.LiesL S ks → ST.Row B w' g ks o
  | [], o, _, _ => trivial
  | e :: r, o, h, u => by
    unfold ST.Row at h ⊢
    unfold ST.LiesL at u
    refine ⟨fun j v hj => ?_, ST.In.stay hM h.2.1 u.1, ST.Row.stay hM hA hg h.2.2 u.2⟩
    rw [World.cell?_of_block (w := w) (w' := w') (hM g hA hg)]
    exact h.1 j v hj
end
mutual
theorem ST.In.lies {B : Nat} {S : Nat → Prop} {w : World} : ∀ {e : ST}, e.In B w → e.Lies S → e.Lies (fun k => S k ∧ k < B)
  | .mk k nm e a1 c1 b1 a2 c2 b2, h, u => by
    unfold ST.In at h
    unfold ST.Lies at u ⊢
    obtain ⟨h1, h2, ⟨h3, h4, h5⟩, h6, h7, h8⟩ := h
    refine ⟨h2.lies u.1, ?_, ?_⟩
    · rcases h5 with h5 | ⟨g, o, ha, hg, hr⟩
      · subst h5
        exact ⟨.inl rfl, trivial⟩
      · rcases u.2.1.1 with hk | ⟨g', o', ha', hg'⟩
        · subst hk
          exact ⟨.inl rfl, trivial⟩
        · rw [ha] at ha'
          cases ha'
          exact ⟨.inr ⟨g, o, ha, hg', hg⟩, ST.Row.lies hr u.2.1.2⟩
    · rcases h8 with h8 | ⟨g, o, ha, hg, hr⟩
      · subst h8
        exact ⟨.inl rfl, trivial⟩
      · rcases u.2.2.1 with hk | ⟨g', o', ha', hg'⟩
        · subst hk
          exact ⟨.inl rfl, trivial⟩
        · rw [ha] at ha'
          cases ha'
          exact ⟨.inr ⟨g, o, ha, hg', hg⟩, ST.Row.lies hr u.2.2.2⟩
theorem ST.Row.lies {B : Nat} {S : Nat → Prop} {w : World} {g : Nat} : ∀ {ks : List ST} {o : Nat}, ST.Row B w g ks o → ST.LiesL S ks → ST.LiesL (fun k => S k ∧ k < B) ks
  | [], o, _, _ => trivial
  | e :: r, o, h, u => by
    unfold ST.Row at h
    unfold ST.LiesL at u ⊢
    exact ⟨ST.In.lies h.2.1 u.1, ST.Row.lies h.2.2 u.2⟩
end
theorem ST.LiesL.of {S : Nat → Prop} : ∀ {l : List ST}, (∀ e ∈ l, e.Lies S) → ST.LiesL S l
  | [], _ => trivial
  | e :: r, h => by unfold ST.LiesL; exact ⟨h e List.mem_cons_self, ST.LiesL.of fun x hx => h x (List.mem_cons_of_mem _ hx)⟩

def flatS (ys : List ST) : List Value := ys.flatMap ST.cells
theorem ST.cells9 (e : ST) : e.cells.length = 9 := by
  obtain ⟨k, nm, ⟨op, t, b, enm, ea, ec, eks⟩, a1, c1, b1, a2, c2, b2⟩ := e
  rfl
theorem row_of_flatS {B g : Nat} {w : World} : ∀ (ys : List ST) (o : Nat), w.rangeAt g o (flatS ys) → (∀ y ∈ ys, y.In B w) → ST.Row B w g ys o
  | [], o, _, _ => trivial
  | e :: r, o, h, u => by
    unfold ST.Row
    have e1 : flatS (e :: r) = e.cells ++ flatS r := by unfold flatS; rw [List.flatMap_cons]
    rw [e1] at h
    refine ⟨fun j v hj => h j v ?_, u e List.mem_cons_self, row_of_flatS r (o + 9) (fun j v hj => ?_) fun x hx => u x (List.mem_cons_of_mem _ hx)⟩
    · have hl : j < e.cells.length := by
        rcases Nat.lt_or_ge j e.cells.length with q | q
        · exact q
        · rw [List.getElem?_eq_none q] at hj; cases hj
      rw [List.getElem?_append_left hl]
      exact hj
    · have := h (9 + j) v (by rw [List.getElem?_append_right (by rw [e.cells9]; omega), e.cells9, Nat.add_sub_cancel_left]; exact hj)
      rw [Nat.add_assoc]
      exact this

/-- A variable. -/
structure VT where
  nm : ByteArray
  t : Nat
  b : Nat
def VT.cells (v : VT) : List Value := [.string v.nm, .int .u8 (v.t : Int), .int .u64 (v.b : Int)]
def VT.vr (v : VT) : Vr := ⟨v.nm.data.toList, v.t, v.b⟩
def VT.In (_B : Nat) (_w : World) (v : VT) : Prop := v.t < 256 ∧ v.b < 18446744073709551616

/-- A row of variables in memory. -/
def RowV (B : Nat) (w : World) (a : Option Addr) (c : Nat) (ks : List VT) : Prop := ks.length ≤ 1048576 ∧ ks.length ≤ c ∧ (ks = [] ∨ ∃ g o, a = some ⟨g, o, none⟩ ∧ g < B ∧ ∀ i v, ks[i]? = some v → w.rangeAt g (o + i * 3) v.cells ∧ v.In B w)

/-- A row of names in memory. -/
def RowN (B : Nat) (w : World) (a : Option Addr) (c : Nat) (ks : List ByteArray) : Prop := ks.length ≤ 1048576 ∧ ks.length ≤ c ∧ (ks = [] ∨ ∃ g o, a = some ⟨g, o, none⟩ ∧ g < B ∧ ∀ i v, ks[i]? = some v → w.cell? ⟨g, o + i, none⟩ = some (.string v))

theorem VT.In.old {B : Nat} {w w' : World} (hO : Old B w w') {v : VT} (h : v.In B w) : v.In B w' := h

/-- A thread, with where its lists lie. -/
structure TT where
  nm : ByteArray
  a1 : Option Addr
  c1 : Nat
  locals : List VT
  a2 : Option Addr
  c2 : Nat
  body : List ST
def TT.cells (v : TT) : List Value := [.string v.nm, .slice v.a1 v.locals.length v.c1, .slice v.a2 v.body.length v.c2]
def TT.th (v : TT) : Th := ⟨v.nm.data.toList, v.locals.map VT.vr, v.body.map ST.st⟩
def TT.In (B : Nat) (w : World) (v : TT) : Prop := RowV B w v.a1 v.c1 v.locals ∧ RowS B w v.a2 v.c2 v.body

/-- A row of threads in memory. -/
def RowT (B : Nat) (w : World) (a : Option Addr) (c : Nat) (ks : List TT) : Prop := ks.length ≤ 1048576 ∧ ks.length ≤ c ∧ (ks = [] ∨ ∃ g o, a = some ⟨g, o, none⟩ ∧ g < B ∧ ∀ i v, ks[i]? = some v → w.rangeAt g (o + i * 3) v.cells ∧ v.In B w)

theorem RowV.old {B c : Nat} {w w' : World} {a : Option Addr} {ks : List VT} (h : RowV B w a c ks) (hO : Old B w w') : RowV B w' a c ks := by
  obtain ⟨h1, h2, h | ⟨g, o, ha, hg, hr⟩⟩ := h
  · exact ⟨h1, h2, .inl h⟩
  · exact ⟨h1, h2, .inr ⟨g, o, ha, hg, fun i v hv => ⟨hO.range hg (hr i v hv).1, (hr i v hv).2⟩⟩⟩
theorem RowN.old {B c : Nat} {w w' : World} {a : Option Addr} {ks : List ByteArray} (h : RowN B w a c ks) (hO : Old B w w') : RowN B w' a c ks := by
  obtain ⟨h1, h2, h | ⟨g, o, ha, hg, hr⟩⟩ := h
  · exact ⟨h1, h2, .inl h⟩
  · exact ⟨h1, h2, .inr ⟨g, o, ha, hg, fun i v hv => by rw [World.cell?_of_block (w := w) (w' := w') (hO _ hg)]; exact hr i v hv⟩⟩
theorem TT.In.old {B : Nat} {w w' : World} (hO : Old B w w') {v : TT} (h : v.In B w) : v.In B w' := ⟨h.1.old hO, h.2.old hO⟩
theorem RowT.old {B c : Nat} {w w' : World} {a : Option Addr} {ks : List TT} (h : RowT B w a c ks) (hO : Old B w w') : RowT B w' a c ks := by
  obtain ⟨h1, h2, h | ⟨g, o, ha, hg, hr⟩⟩ := h
  · exact ⟨h1, h2, .inl h⟩
  · exact ⟨h1, h2, .inr ⟨g, o, ha, hg, fun i v hv => ⟨hO.range hg (hr i v hv).1, (hr i v hv).2.old hO⟩⟩⟩

theorem RowV.at {B c : Nat} {w : World} {a : Option Addr} {ks : List VT} (h : RowV B w a c ks) (i : Nat) (k : VT) (hk : ks[i]? = some k) : ∃ g o, a = some ⟨g, o, none⟩ ∧ g < B ∧ w.rangeAt g (o + i * 3) k.cells ∧ k.In B w := by
  obtain ⟨_, _, h | ⟨g, o, ha, hg, hr⟩⟩ := h
  · rw [h] at hk; simp at hk
  · exact ⟨g, o, ha, hg, (hr i k hk).1, (hr i k hk).2⟩
theorem RowT.at {B c : Nat} {w : World} {a : Option Addr} {ks : List TT} (h : RowT B w a c ks) (i : Nat) (k : TT) (hk : ks[i]? = some k) : ∃ g o, a = some ⟨g, o, none⟩ ∧ g < B ∧ w.rangeAt g (o + i * 3) k.cells ∧ k.In B w := by
  obtain ⟨_, _, h | ⟨g, o, ha, hg, hr⟩⟩ := h
  · rw [h] at hk; simp at hk
  · exact ⟨g, o, ha, hg, (hr i k hk).1, (hr i k hk).2⟩
theorem RowN.at {B c : Nat} {w : World} {a : Option Addr} {ks : List ByteArray} (h : RowN B w a c ks) (i : Nat) (k : ByteArray) (hk : ks[i]? = some k) : ∃ g o, a = some ⟨g, o, none⟩ ∧ g < B ∧ w.cell? ⟨g, o + i, none⟩ = some (.string k) := by
  obtain ⟨_, _, h | ⟨g, o, ha, hg, hr⟩⟩ := h
  · rw [h] at hk; simp at hk
  · exact ⟨g, o, ha, hg, hr i k hk⟩

theorem VT.one (v : VT) : ∀ x ∈ v.cells, x.oneCell' = true := by
  intro x hx
  simp [VT.cells] at hx
  rcases hx with rfl | rfl | rfl <;> rfl
theorem TT.one (v : TT) : ∀ x ∈ v.cells, x.oneCell' = true := by
  intro x hx
  simp [TT.cells] at hx
  rcases hx with rfl | rfl | rfl <;> rfl

theorem i79 : (Tryz.prog.info? 48).map (·.size) = some 3 := by kernel_rfl
theorem z79 : (Tryz.prog.info? 48).map (fun i => (i.zero, i.size)) = some (some (.agg [.string ⟨#[]⟩, .int .u8 0, .int .u64 0].toArray), 3) := by kernel_rfl
theorem i42 : (Tryz.prog.info? 53).map (·.size) = some 3 := by kernel_rfl
theorem z42 : (Tryz.prog.info? 53).map (fun i => (i.zero, i.size)) = some (some (.agg [.string ⟨#[]⟩, .slice none 0 0, .slice none 0 0].toArray), 3) := by kernel_rfl

/-- A program, with where its lists lie. -/
structure PT where
  a1 : Option Addr
  c1 : Nat
  shared : List VT
  a2 : Option Addr
  c2 : Nat
  mutexes : List ByteArray
  a3 : Option Addr
  c3 : Nat
  threads : List TT
def PT.cells (p : PT) : List Value := [.slice p.a1 p.shared.length p.c1, .slice p.a2 p.mutexes.length p.c2, .slice p.a3 p.threads.length p.c3]
def PT.pg (p : PT) : Pg := ⟨p.shared.map VT.vr, p.mutexes.map (fun m => m.data.toList), p.threads.map TT.th⟩
def PT.In (B : Nat) (w : World) (p : PT) : Prop := RowV B w p.a1 p.c1 p.shared ∧ RowN B w p.a2 p.c2 p.mutexes ∧ RowT B w p.a3 p.c3 p.threads
end Go.Proofs.YtjgggmjjikopeaaGreatDoor

/- What 'same' is. -/
namespace Go.Proofs.YtjgggmjjikopeaaGreatDoor
open Go.RowKit
set_option linter.unusedVariables false

/-- What the parts are asked. -/
def AskB (w : World) (C : Nat) (args : Array Value) (p : Bool) : Prop := ∀ w', Below w.heap.size w w' → Calls Tryz.prog C args w' fun r w'' => r = .returned (.bool p) ∧ Below w'.heap.size w' w''
mutual
def samS : St → St → Bool
  | .mk k nm e b c, .mk k' nm' e' b' c' => decide (k = k') && (decide (nm = nm') && (samX e e' && (samSL b b' && samSL c c')))
def samSL : List St → List St → Bool
  | [], [] => true
  | x :: r, y :: s => samS x y && samSL r s
  | _, _ => false
end

theorem samSL_iff : ∀ (xs ys : List St), samSL xs ys = true ↔ xs.length = ys.length ∧ ∀ (i : Nat) (x y : St), xs[i]? = some x → ys[i]? = some y → samS x y = true
  | [], [] => by simp [samSL]
  | [], y :: s => by simp [samSL]
  | x :: r, [] => by simp [samSL]
  | x :: r, y :: s => by
    rw [samSL, Bool.and_eq_true, samSL_iff r s]
    constructor
    · rintro ⟨h1, h2, h3⟩
      refine ⟨by simp [h2], fun i a b ha hb => ?_⟩
      cases i with
      | zero => simp at ha hb; subst ha hb; exact h1
      | succ i => exact h3 i a b (by simpa using ha) (by simpa using hb)
    · rintro ⟨h1, h2⟩
      exact ⟨h2 0 x y rfl rfl, by simpa using h1, fun i a b ha hb => h2 (i + 1) a b (by simpa using ha) (by simpa using hb)⟩

def eqL {α : Type} (f : α → α → Bool) : List α → List α → Bool
  | [], [] => true
  | x :: r, y :: s => f x y && eqL f r s
  | _, _ => false

theorem eqL_iff {α : Type} (f : α → α → Bool) : ∀ (xs ys : List α), eqL f xs ys = true ↔ xs.length = ys.length ∧ ∀ (i : Nat) (x y : α), xs[i]? = some x → ys[i]? = some y → f x y = true
  | [], [] => by simp [eqL]
  | [], y :: s => by simp [eqL]
  | x :: r, [] => by simp [eqL]
  | x :: r, y :: s => by
    rw [eqL, Bool.and_eq_true, eqL_iff f r s]
    constructor
    · rintro ⟨h1, h2, h3⟩
      refine ⟨by simp [h2], fun i a b ha hb => ?_⟩
      cases i with
      | zero => simp at ha hb; subst ha hb; exact h1
      | succ i => exact h3 i a b (by simpa using ha) (by simpa using hb)
    · rintro ⟨h1, h2⟩
      exact ⟨h2 0 x y rfl rfl, by simpa using h1, fun i a b ha hb => h2 (i + 1) a b (by simpa using ha) (by simpa using hb)⟩

def samV (v u : Vr) : Bool := decide (v.nm = u.nm ∧ v.t = u.t ∧ v.b = u.b)
def samT (t u : Th) : Bool := decide (t.nm = u.nm) && (eqL samV t.locals u.locals && samSL t.body u.body)

def samN (a b : List UInt8) : Bool := decide (a = b)

theorem eqV (nm : ByteArray) (t b : Nat) (nm' : ByteArray) (t' b' : Nat) (u : World) : (Op.equalIn 10000 48 (.agg #[.string nm, .int .u8 (t : Int), .int .u64 (b : Int)]) (.agg #[.string nm', .int .u8 (t' : Int), .int .u64 (b' : Int)])).run Tryz.prog u = .ok (samV (VT.vr ⟨nm, t, b⟩) (VT.vr ⟨nm', t', b'⟩)) u := by
  unfold samV VT.vr
  by_cases h0 : nm.toList = nm'.toList
  · have e0 : (nm.toList == nm'.toList) = true := by rw [beq_iff_eq]; exact h0
    have f0 : nm.data.toList = nm'.data.toList := by rw [toList_bytes, toList_bytes] at h0; exact h0
    by_cases h1 : t = t'
    · subst h1
      by_cases h2 : b = b'
      · subst h2
        go_simp
      · have e2 : ((b : Int) == (b' : Int)) = false := by rw [beq_eq_false_iff_ne]; omega
        go_simp
    · have e1 : ((t : Int) == (t' : Int)) = false := by rw [beq_eq_false_iff_ne]; omega
      go_simp
  · have e0 : (nm.toList == nm'.toList) = false := by rw [beq_eq_false_iff_ne]; exact h0
    have f0 : ¬ nm.data.toList = nm'.data.toList := by rw [toList_bytes, toList_bytes] at h0; exact h0
    go_simp

def samP (p q : Pg) : Bool := eqL samV p.shared q.shared && (eqL samN p.mutexes q.mutexes && eqL samT p.threads q.threads)
end Go.Proofs.YtjgggmjjikopeaaGreatDoor

/- Sizes of statements. -/
namespace Go.Proofs.YtjgggmjjikopeaaGreatDoor
open Go.RowKit
set_option linter.unusedVariables false

theorem ST.sz1 {k : Int} {nm : ByteArray} {e : ET} {a1 a2 : Option Addr} {c1 c2 : Nat} {body els : List ST} {x : ST} (h : x ∈ body) : SizeOf.sizeOf x < SizeOf.sizeOf (ST.mk k nm e a1 c1 body a2 c2 els) := by
  have := List.sizeOf_lt_of_mem h
  simp only [ST.mk.sizeOf_spec]
  omega
theorem ST.sz2 {k : Int} {nm : ByteArray} {e : ET} {a1 a2 : Option Addr} {c1 c2 : Nat} {body els : List ST} {x : ST} (h : x ∈ els) : SizeOf.sizeOf x < SizeOf.sizeOf (ST.mk k nm e a1 c1 body a2 c2 els) := by
  have := List.sizeOf_lt_of_mem h
  simp only [ST.mk.sizeOf_spec]
  omega
theorem pg_cells {w : World} {g : Nat} {s1 s2 s3 : Value} (h : At 26 w g [s1, s2, s3]) : w.cell? ⟨g, 0, none⟩ = some s1 ∧ w.cell? ⟨g, 1, none⟩ = some s2 ∧ w.cell? ⟨g, 2, none⟩ = some s3 := by
  refine ⟨?_, ?_, ?_⟩ <;> (rw [h.cell]; rfl)
end Go.Proofs.YtjgggmjjikopeaaGreatDoor

/- The document's own comparison of variables and of names. -/
namespace Go.Proofs.YtjgggmjjikopeaaGreatDoor
open Go.RowKit
set_option linter.unusedVariables false

set_option maxRecDepth 100000 in
set_option maxHeartbeats 3200000 in
theorem kitN_any (B : Nat) (xs ys : List ByteArray) (a1 a2 : Option Addr) (c1 c2 : Nat) (w : World) (h1 : RowN B w a1 c1 xs) (h2 : RowN B w a2 c2 ys) (hBw : B ≤ w.heap.size) :
    Calls Tryz.prog 32 #[.slice a1 xs.length c1, .slice a2 ys.length c2] w fun r w' => r = .returned (.bool (eqL samN (xs.map (fun s : ByteArray => s.data.toList)) (ys.map (fun s : ByteArray => s.data.toList)))) ∧ Below w.heap.size w w' := by
  obtain ⟨R, hR⟩ : ∃ R, Hid (R = eqL samN (xs.map (fun s : ByteArray => s.data.toList)) (ys.map (fun s : ByteArray => s.data.toList))) := ⟨_, (rfl : _ = eqL samN _ _)⟩
  rw [← hR.out]
  obtain ⟨n, hn⟩ : ∃ n, Hid (n = xs.length) := ⟨_, (rfl : xs.length = _)⟩
  obtain ⟨n2, hn2⟩ : ∃ n, Hid (n = ys.length) := ⟨_, (rfl : ys.length = _)⟩
  have hl1 := h1.1
  have hl2 := h2.1
  have hk1 := h1.2.1
  have hk2 := h2.2.1
  rw [← hn.out] at hl1 hk1 ⊢
  rw [← hn2.out] at hl2 hk2 ⊢
  have HR : Hid (RowN B w a1 c1 xs ∧ RowN B w a2 c2 ys) := ⟨h1, h2⟩
  clear h1 h2
  by_cases hnn : n = n2
  · subst hnn
    go_enter Tryz.func32, Tryz.ntmps32
    go_wp2_with fail
    go_loopw [5] (fun j wr => ∃ i : Nat, j = .int .i64 (i : Int) ∧ i ≤ n ∧ Hid (Below w.heap.size w wr ∧ ∀ (q : Nat) (x y : List UInt8), q < i → (xs.map (fun s : ByteArray => s.data.toList))[q]? = some x → (ys.map (fun s : ByteArray => s.data.toList))[q]? = some y → samN x y = true)) (fun j _ => n - (intOf j).toNat)
    case atStart => exact ⟨0, rfl, by omega, Below.refl _ _, fun q x y hq => by omega⟩
    case round =>
      obtain ⟨i, rfl, hi, hX⟩ := hrel
      by_cases hc : i < n
      · obtain ⟨x, hx⟩ : ∃ k, xs[i]? = some k := ⟨xs[i]'(by rw [← hn.out]; exact hc), by rw [List.getElem?_eq_getElem]⟩
        obtain ⟨y, hy⟩ : ∃ k, ys[i]? = some k := ⟨ys[i]'(by rw [← hn2.out]; exact hc), by rw [List.getElem?_eq_getElem]⟩
        obtain ⟨hbw, hall⟩ := hX.out
        have hold : Old B w wr := Old.of_below hbw hBw
        obtain ⟨g1, o1, rfl, hg1, hr1⟩ := (HR.out.1.old hold).at i x hx
        obtain ⟨g2, o2, rfl, hg2, hr2⟩ := (HR.out.2.old hold).at i y hy
        have HA : Hid (∀ (q : Nat) (x y : List UInt8), q < i → (xs.map (fun s : ByteArray => s.data.toList))[q]? = some x → (ys.map (fun s : ByteArray => s.data.toList))[q]? = some y → samN x y = true) := hall
        have HXY : Hid ((xs.map (fun s : ByteArray => s.data.toList))[i]? = some ((fun s : ByteArray => s.data.toList) x) ∧ (ys.map (fun s : ByteArray => s.data.toList))[i]? = some ((fun s : ByteArray => s.data.toList) y)) := ⟨by rw [List.getElem?_map, hx]; rfl, by rw [List.getElem?_map, hy]; rfl⟩
        clear hX hold hall HR hx hy
        cases hM : samN ((fun s : ByteArray => s.data.toList) x) ((fun s : ByteArray => s.data.toList) y) with
        | false =>
          have hRf : R = false := by
            rw [hR.out, Bool.eq_false_iff]
            intro h
            have := ((eqL_iff _ _ _).1 h).2 i _ _ HXY.out.1 HXY.out.2
            rw [hM] at this
            cases this
          have hs : (x.toList == y.toList) = false := by
            rw [toList_bytes, toList_bytes, beq_eq_false_iff_ne]
            exact of_decide_eq_false hM
          clear hM
          go_wp2_with fail
          go_quiet (fail)
          go_wp2_with fail
          go_ret
          exact ⟨by rw [hRf]; rfl, below_drN hbw _⟩
        | true =>
          have HM : Hid (samN ((fun s : ByteArray => s.data.toList) x) ((fun s : ByteArray => s.data.toList) y) = true) := hM
          have hs : (x.toList == y.toList) = true := by
            rw [toList_bytes, toList_bytes, beq_iff_eq]
            exact of_decide_eq_true hM
          clear hM
          go_wp2_with fail
          go_quiet (fail)
          go_wp2_with fail
          go_roundw
          case rel =>
            refine ⟨i + 1, by go_num, by omega, below_drN hbw _, fun q u v hq hu hv => ?_⟩
            by_cases hqi : q = i
            · subst hqi
              rw [HXY.out.1] at hu
              rw [HXY.out.2] at hv
              cases hu
              cases hv
              exact HM.out
            · exact HA.out q u v (by omega) hu hv
          case measure => simp [intOf]; omega
      · have hin : i = n := by omega
        obtain ⟨hbw, hall⟩ := hX.out
        have hRt : R = true := by
          rw [hR.out, eqL_iff, List.length_map, List.length_map, ← hn.out, ← hn2.out]
          refine ⟨rfl, fun q u v hu hv => hall q u v ?_ hu hv⟩
          have := (List.getElem?_eq_some_iff.1 hu).1
          rw [List.length_map, ← hn.out] at this
          omega
        clear hX hall hin HR
        go_wp2
        go_ret
        exact ⟨by rw [hRt]; rfl, hbw⟩
  · have hne : ((n : Int) == (n2 : Int)) = false := by rw [beq_eq_false_iff_ne]; omega
    have hRf : R = false := by
      rw [hR.out, Bool.eq_false_iff]
      intro h
      have := (eqL_iff _ _ _).1 h
      rw [List.length_map, List.length_map, ← hn.out, ← hn2.out] at this
      exact hnn this.1
    clear hnn
    go_enter Tryz.func32, Tryz.ntmps32
    go_wp2_with fail
    go_ret
    exact ⟨by rw [hRf]; rfl, Below.refl _ _⟩

set_option maxRecDepth 100000 in
set_option maxHeartbeats 3200000 in
theorem kitV_any (B : Nat) (xs ys : List VT) (a1 a2 : Option Addr) (c1 c2 : Nat) (w : World) (h1 : RowV B w a1 c1 xs) (h2 : RowV B w a2 c2 ys) (hBw : B ≤ w.heap.size) :
    Calls Tryz.prog 31 #[.slice a1 xs.length c1, .slice a2 ys.length c2] w fun r w' => r = .returned (.bool (eqL samV (xs.map VT.vr) (ys.map VT.vr))) ∧ Below w.heap.size w w' := by
  obtain ⟨R, hR⟩ : ∃ R, Hid (R = eqL samV (xs.map VT.vr) (ys.map VT.vr)) := ⟨_, (rfl : _ = eqL samV _ _)⟩
  rw [← hR.out]
  obtain ⟨n, hn⟩ : ∃ n, Hid (n = xs.length) := ⟨_, (rfl : xs.length = _)⟩
  obtain ⟨n2, hn2⟩ : ∃ n, Hid (n = ys.length) := ⟨_, (rfl : ys.length = _)⟩
  have hl1 := h1.1
  have hl2 := h2.1
  have hk1 := h1.2.1
  have hk2 := h2.2.1
  rw [← hn.out] at hl1 hk1 ⊢
  rw [← hn2.out] at hl2 hk2 ⊢
  have HR : Hid (RowV B w a1 c1 xs ∧ RowV B w a2 c2 ys) := ⟨h1, h2⟩
  clear h1 h2
  by_cases hnn : n = n2
  · subst hnn
    go_enter Tryz.func31, Tryz.ntmps31
    go_wp2_with fail
    go_loopw [5] (fun j wr => ∃ i : Nat, j = .int .i64 (i : Int) ∧ i ≤ n ∧ Hid (Below w.heap.size w wr ∧ ∀ (q : Nat) (x y : Vr), q < i → (xs.map VT.vr)[q]? = some x → (ys.map VT.vr)[q]? = some y → samV x y = true)) (fun j _ => n - (intOf j).toNat)
    case atStart => exact ⟨0, rfl, by omega, Below.refl _ _, fun q x y hq => by omega⟩
    case round =>
      obtain ⟨i, rfl, hi, hX⟩ := hrel
      by_cases hc : i < n
      · obtain ⟨x, hx⟩ : ∃ k, xs[i]? = some k := ⟨xs[i]'(by rw [← hn.out]; exact hc), by rw [List.getElem?_eq_getElem]⟩
        obtain ⟨y, hy⟩ : ∃ k, ys[i]? = some k := ⟨ys[i]'(by rw [← hn2.out]; exact hc), by rw [List.getElem?_eq_getElem]⟩
        obtain ⟨hbw, hall⟩ := hX.out
        have hold : Old B w wr := Old.of_below hbw hBw
        obtain ⟨g1, o1, rfl, hg1, hr1, hi1⟩ := (HR.out.1.old hold).at i x hx
        obtain ⟨g2, o2, rfl, hg2, hr2, hi2⟩ := (HR.out.2.old hold).at i y hy
        obtain ⟨nm, t, b⟩ := x
        obtain ⟨nm', t', b'⟩ := y
        have x0 : wr.cell? ⟨g1, o1 + i * 3, none⟩ = some (.string nm) := by have := hr1 0 _ rfl; simpa using this
        have x1 : wr.cell? ⟨g1, o1 + i * 3 + 1, none⟩ = some (.int .u8 (t : Int)) := hr1 1 _ rfl
        have x2 : wr.cell? ⟨g1, o1 + i * 3 + 2, none⟩ = some (.int .u64 (b : Int)) := hr1 2 _ rfl
        have y0 : wr.cell? ⟨g2, o2 + i * 3, none⟩ = some (.string nm') := by have := hr2 0 _ rfl; simpa using this
        have y1 : wr.cell? ⟨g2, o2 + i * 3 + 1, none⟩ = some (.int .u8 (t' : Int)) := hr2 1 _ rfl
        have y2 : wr.cell? ⟨g2, o2 + i * 3 + 2, none⟩ = some (.int .u64 (b' : Int)) := hr2 2 _ rfl
        have hq := eqV nm t b nm' t' b'
        clear hr1 hr2 hi1 hi2
        have HA : Hid (∀ (q : Nat) (x y : Vr), q < i → (xs.map VT.vr)[q]? = some x → (ys.map VT.vr)[q]? = some y → samV x y = true) := hall
        have HXY : Hid ((xs.map VT.vr)[i]? = some (VT.vr ⟨nm, t, b⟩) ∧ (ys.map VT.vr)[i]? = some (VT.vr ⟨nm', t', b'⟩)) := ⟨by rw [List.getElem?_map, hx]; rfl, by rw [List.getElem?_map, hy]; rfl⟩
        clear hX hold hall HR hx hy
        cases hM : samV (VT.vr ⟨nm, t, b⟩) (VT.vr ⟨nm', t', b'⟩) with
        | false =>
          have hRf : R = false := by
            rw [hR.out, Bool.eq_false_iff]
            intro h
            have := ((eqL_iff _ _ _).1 h).2 i _ _ HXY.out.1 HXY.out.2
            rw [hM] at this
            cases this
          have hq' : ∀ u, (Op.equalIn 10000 48 (.agg #[.string nm, .int .u8 (t : Int), .int .u64 (b : Int)]) (.agg #[.string nm', .int .u8 (t' : Int), .int .u64 (b' : Int)])).run Tryz.prog u = .ok false u := fun u => by rw [hq]; exact congrArg (fun z => Result.ok z u) hM
          clear hq
          clear hM
          go_wp2_with fail
          go_quiet (fail)
          go_wp2_with fail
          go_ret
          exact ⟨by rw [hRf]; rfl, below_drN hbw _⟩
        | true =>
          have HM : Hid (samV (VT.vr ⟨nm, t, b⟩) (VT.vr ⟨nm', t', b'⟩) = true) := hM
          have hq' : ∀ u, (Op.equalIn 10000 48 (.agg #[.string nm, .int .u8 (t : Int), .int .u64 (b : Int)]) (.agg #[.string nm', .int .u8 (t' : Int), .int .u64 (b' : Int)])).run Tryz.prog u = .ok true u := fun u => by rw [hq]; exact congrArg (fun z => Result.ok z u) hM
          clear hq
          clear hM
          go_wp2_with fail
          go_quiet (fail)
          go_wp2_with fail
          go_roundw
          case rel =>
            refine ⟨i + 1, by go_num, by omega, below_drN hbw _, fun q u v hq hu hv => ?_⟩
            by_cases hqi : q = i
            · subst hqi
              rw [HXY.out.1] at hu
              rw [HXY.out.2] at hv
              cases hu
              cases hv
              exact HM.out
            · exact HA.out q u v (by omega) hu hv
          case measure => simp [intOf]; omega
      · have hin : i = n := by omega
        obtain ⟨hbw, hall⟩ := hX.out
        have hRt : R = true := by
          rw [hR.out, eqL_iff, List.length_map, List.length_map, ← hn.out, ← hn2.out]
          refine ⟨rfl, fun q u v hu hv => hall q u v ?_ hu hv⟩
          have := (List.getElem?_eq_some_iff.1 hu).1
          rw [List.length_map, ← hn.out] at this
          omega
        clear hX hall hin HR
        go_wp2
        go_ret
        exact ⟨by rw [hRt]; rfl, hbw⟩
  · have hne : ((n : Int) == (n2 : Int)) = false := by rw [beq_eq_false_iff_ne]; omega
    have hRf : R = false := by
      rw [hR.out, Bool.eq_false_iff]
      intro h
      have := (eqL_iff _ _ _).1 h
      rw [List.length_map, List.length_map, ← hn.out, ← hn2.out] at this
      exact hnn this.1
    clear hnn
    go_enter Tryz.func31, Tryz.ntmps31
    go_wp2_with fail
    go_ret
    exact ⟨by rw [hRf]; rfl, Below.refl _ _⟩
end Go.Proofs.YtjgggmjjikopeaaGreatDoor

/- The document's own comparison of statements. -/
namespace Go.Proofs.YtjgggmjjikopeaaGreatDoor
open Go.RowKit
set_option linter.unusedVariables false

theorem st_mid {w : World} {g o : Nat} {k : Int} {nm : ByteArray} {op t b : Nat} {enm : ByteArray} {ea : Option Addr} {en ec : Nat} {a1 : Option Addr} {n1 c1 : Nat} {a2 : Option Addr} {n2 c2 : Nat} (h : w.rangeAt g o (st9 k nm (ex5 op t b enm (.slice ea en ec)) (.slice a1 n1 c1) (.slice a2 n2 c2))) : w.cell? ⟨g, o, none⟩ = some (.int .i64 k) ∧ w.cell? ⟨g, o + 1, none⟩ = some (.string nm) ∧ w.cell? ⟨g, o + 2, none⟩ = some (.int .u8 (op : Int)) ∧ w.cell? ⟨g, o + 3, none⟩ = some (.int .u8 (t : Int)) ∧ w.cell? ⟨g, o + 4, none⟩ = some (.int .u64 (b : Int)) ∧ w.cell? ⟨g, o + 5, none⟩ = some (.string enm) ∧ w.cell? ⟨g, o + 6, none⟩ = some (.slice ea en ec) ∧ w.cell? ⟨g, o + 7, none⟩ = some (.slice a1 n1 c1) ∧ w.cell? ⟨g, o + 8, none⟩ = some (.slice a2 n2 c2) :=
  ⟨h 0 _ rfl, h 1 _ rfl, h 2 _ rfl, h 3 _ rfl, h 4 _ rfl, h 5 _ rfl, h 6 _ rfl, h 7 _ rfl, h 8 _ rfl⟩

/-- What the document's own telling two blocks apart does. -/
def KitLW (B : Nat) (xs : List ST) : Prop := ∀ (ys : List ST) (a a' : Option Addr) (c c' : Nat) (w : World), RowS B w a c xs → RowS B w a' c' ys → B ≤ w.heap.size → Calls Tryz.prog 33 #[.slice a xs.length c, .slice a' ys.length c'] w fun r w' => r = .returned (.bool (samSL (xs.map ST.st) (ys.map ST.st))) ∧ Below w.heap.size w w'
def KitSW (B : Nat) : ST → Prop
  | .mk _ _ _ _ _ body _ _ els => KitLW B body ∧ KitLW B els

set_option maxRecDepth 100000 in
set_option maxHeartbeats 12800000 in
theorem kitStmts_of (B : Nat) (xs : List ST) (hS : ∀ x ∈ xs, KitSW B x) : KitLW B xs := by
  intro ys a1_ a2_ cc1 cc2 w h1 h2 hBw
  obtain ⟨R, hR⟩ : ∃ R, Hid (R = samSL (xs.map ST.st) (ys.map ST.st)) := ⟨_, (rfl : _ = samSL _ _)⟩
  rw [← hR.out]
  obtain ⟨n, hn⟩ : ∃ n, Hid (n = xs.length) := ⟨_, (rfl : xs.length = _)⟩
  obtain ⟨n', hn'⟩ : ∃ n, Hid (n = ys.length) := ⟨_, (rfl : ys.length = _)⟩
  have hl1 := h1.1
  have hl2 := h2.1
  have hk1 := h1.2.1
  have hk2 := h2.2.1
  rw [← hn.out] at hl1 hk1 ⊢
  rw [← hn'.out] at hl2 hk2 ⊢
  have HR : Hid (RowS B w a1_ cc1 xs ∧ RowS B w a2_ cc2 ys) := ⟨h1, h2⟩
  have HS : Hid (∀ x ∈ xs, KitSW B x) := hS
  clear h1 h2 hS
  by_cases hnn : n = n'
  · subst hnn
    go_enter Tryz.func33, Tryz.ntmps33
    go_wp2_with fail
    go_loopw [5] (fun j wr => ∃ i : Nat, j = .int .i64 (i : Int) ∧ i ≤ n ∧ Hid (Below w.heap.size w wr ∧ ∀ (q : Nat) (x y : St), q < i → (xs.map ST.st)[q]? = some x → (ys.map ST.st)[q]? = some y → samS x y = true)) (fun j _ => n - (intOf j).toNat)
    case atStart => exact ⟨0, rfl, by omega, Below.refl _ _, fun q x y hq => by omega⟩
    case round =>
      obtain ⟨i, rfl, hi, hX⟩ := hrel
      obtain ⟨hbw, hall⟩ := hX.out
      by_cases hc : i < n
      · obtain ⟨x, hx⟩ : ∃ k, xs[i]? = some k := ⟨xs[i]'(by rw [← hn.out]; exact hc), by rw [List.getElem?_eq_getElem]⟩
        obtain ⟨y, hy⟩ : ∃ k, ys[i]? = some k := ⟨ys[i]'(by rw [← hn'.out]; exact hc), by rw [List.getElem?_eq_getElem]⟩
        have hold : Old B w wr := Old.of_below hbw hBw
        obtain ⟨g1, o1, rfl, hg1, hr1, hx1⟩ := (HR.out.1.old hold).at i x hx
        obtain ⟨g2, o2, rfl, hg2, hr2, hy1⟩ := (HR.out.2.old hold).at i y hy
        have hKS := HS.out x (List.mem_of_getElem? hx)
        have HX : Hid ((xs.map ST.st)[i]? = some x.st ∧ (ys.map ST.st)[i]? = some y.st) := ⟨by rw [List.getElem?_map, hx]; rfl, by rw [List.getElem?_map, hy]; rfl⟩
        have HA : Hid (∀ (q : Nat) (x y : St), q < i → (xs.map ST.st)[q]? = some x → (ys.map ST.st)[q]? = some y → samS x y = true) := hall
        obtain ⟨Z, hZ⟩ : ∃ Z, Hid (Z = samS x.st y.st) := ⟨_, (rfl : _ = samS _ _)⟩
        have hRf : Hid (Z = false → R = false) := fun hz => by
          rw [hR.out, Bool.eq_false_iff]
          intro h
          have := ((samSL_iff _ _).1 h).2 i _ _ HX.out.1 HX.out.2
          rw [← hZ.out, hz] at this
          cases this
        have hZS : Hid (Z = samS x.st y.st) := hZ.out
        obtain ⟨k, nm, ⟨op, t, b, enm, ea, ec, eks⟩, a1, c1, b1, a2, c2, b2⟩ := x
        obtain ⟨k', nm', ⟨op', t', b', enm', ea', ec', eks'⟩, a1', c1', b1', a2', c2', b2'⟩ := y
        obtain ⟨hKb, hKe⟩ := hKS
        unfold ST.In at hx1 hy1
        obtain ⟨_, xe, x1, x2⟩ := hx1
        obtain ⟨_, ye, y1, y2⟩ := hy1
        have hZ2 : Hid (Z = (decide (k = k') && (decide (nm.data.toList = nm'.data.toList) && (samX (ET.mk op t b enm ea ec eks).ex (ET.mk op' t' b' enm' ea' ec' eks').ex && (samSL (b1.map ST.st) (b1'.map ST.st) && samSL (b2.map ST.st) (b2'.map ST.st)))))) := by
          show Z = _
          rw [hZ.out]
          show samS (.mk k nm.data.toList _ (ST.sts b1) (ST.sts b2)) (.mk k' nm'.data.toList _ (ST.sts b1') (ST.sts b2')) = _
          rw [samS, ST.sts_eq, ST.sts_eq, ST.sts_eq, ST.sts_eq]
        have hsz : B ≤ wr.heap.size := by have := hbw.size; omega
        have q3 : AskB wr 15 #[.agg (ex5 op t b enm (.slice ea eks.length ec)).toArray, .agg (ex5 op' t' b' enm' (.slice ea' eks'.length ec')).toArray] (samX (ET.mk op t b enm ea ec eks).ex (ET.mk op' t' b' enm' ea' ec' eks').ex) := fun w' h => kitExpr_any B _ (.mk op t b enm ea ec eks) (Nat.lt_succ_self _) (.mk op' t' b' enm' ea' ec' eks') w' (xe.old (Old.of_below h hsz)) (ye.old (Old.of_below h hsz)) (by have := h.size; omega)
        have q4 : AskB wr 33 #[.slice a1 b1.length c1, .slice a1' b1'.length c1'] (samSL (b1.map ST.st) (b1'.map ST.st)) := fun w' h => hKb b1' a1 a1' c1 c1' w' (RowS.old x1 (Old.of_below h hsz)) (RowS.old y1 (Old.of_below h hsz)) (by have := h.size; omega)
        have q5 : AskB wr 33 #[.slice a2 b2.length c2, .slice a2' b2'.length c2'] (samSL (b2.map ST.st) (b2'.map ST.st)) := fun w' h => hKe b2' a2 a2' c2 c2' w' (RowS.old x2 (Old.of_below h hsz)) (RowS.old y2 (Old.of_below h hsz)) (by have := h.size; omega)
        generalize samX (ET.mk op t b enm ea ec eks).ex (ET.mk op' t' b' enm' ea' ec' eks').ex = p3 at q3 hZ2
        generalize samSL (b1.map ST.st) (b1'.map ST.st) = p4 at q4 hZ2
        generalize samSL (b2.map ST.st) (b2'.map ST.st) = p5 at q5 hZ2
        simp only [ST.cells, ET.cells] at hr1 hr2
        generalize eks.length = en at q3 hr1
        generalize eks'.length = en' at q3 hr2
        generalize b1.length = n1 at q4 hr1
        generalize b1'.length = n1' at q4 hr2
        generalize b2.length = n2 at q5 hr1
        generalize b2'.length = n2' at q5 hr2
        have hr1 : wr.rangeAt g1 (o1 + i * 9) (st9 k nm (ex5 op t b enm (.slice ea en ec)) (.slice a1 n1 c1) (.slice a2 n2 c2)) := hr1
        have hr2 : wr.rangeAt g2 (o2 + i * 9) (st9 k' nm' (ex5 op' t' b' enm' (.slice ea' en' ec')) (.slice a1' n1' c1') (.slice a2' n2' c2')) := hr2
        have HK : Hid (∀ w', Below wr.heap.size wr w' → ((w'.cell? ⟨g1, o1 + i * 9, none⟩ = some (.int .i64 k) ∧ w'.cell? ⟨g1, o1 + i * 9 + 1, none⟩ = some (.string nm) ∧ w'.cell? ⟨g1, o1 + i * 9 + 2, none⟩ = some (.int .u8 (op : Int)) ∧ w'.cell? ⟨g1, o1 + i * 9 + 3, none⟩ = some (.int .u8 (t : Int)) ∧ w'.cell? ⟨g1, o1 + i * 9 + 4, none⟩ = some (.int .u64 (b : Int)) ∧ w'.cell? ⟨g1, o1 + i * 9 + 5, none⟩ = some (.string enm) ∧ w'.cell? ⟨g1, o1 + i * 9 + 6, none⟩ = some (.slice ea en ec) ∧ w'.cell? ⟨g1, o1 + i * 9 + 7, none⟩ = some (.slice a1 n1 c1) ∧ w'.cell? ⟨g1, o1 + i * 9 + 8, none⟩ = some (.slice a2 n2 c2)) ∧ (w'.cell? ⟨g2, o2 + i * 9, none⟩ = some (.int .i64 k') ∧ w'.cell? ⟨g2, o2 + i * 9 + 1, none⟩ = some (.string nm') ∧ w'.cell? ⟨g2, o2 + i * 9 + 2, none⟩ = some (.int .u8 (op' : Int)) ∧ w'.cell? ⟨g2, o2 + i * 9 + 3, none⟩ = some (.int .u8 (t' : Int)) ∧ w'.cell? ⟨g2, o2 + i * 9 + 4, none⟩ = some (.int .u64 (b' : Int)) ∧ w'.cell? ⟨g2, o2 + i * 9 + 5, none⟩ = some (.string enm') ∧ w'.cell? ⟨g2, o2 + i * 9 + 6, none⟩ = some (.slice ea' en' ec') ∧ w'.cell? ⟨g2, o2 + i * 9 + 7, none⟩ = some (.slice a1' n1' c1') ∧ w'.cell? ⟨g2, o2 + i * 9 + 8, none⟩ = some (.slice a2' n2' c2')))) := fun w' h => ⟨st_mid ((Old.of_below (B := B) h hsz).range hg1 hr1), st_mid ((Old.of_below (B := B) h hsz).range hg2 hr2)⟩
        have Q3 : Hid (AskB wr 15 #[.agg #[.int .u8 (op : Int), .int .u8 (t : Int), .int .u64 (b : Int), .string enm, .slice ea en ec], .agg #[.int .u8 (op' : Int), .int .u8 (t' : Int), .int .u64 (b' : Int), .string enm', .slice ea' en' ec']] p3) := q3
        have Q4 : Hid (AskB wr 33 #[.slice a1 n1 c1, .slice a1' n1' c1'] p4) := q4
        have Q5 : Hid (AskB wr 33 #[.slice a2 n2 c2, .slice a2' n2' c2'] p5) := q5
        clear hX hall hx hy hold hr1 hr2 xe x1 x2 ye y1 y2 q3 q4 q5 hKb hKe HR HS hZ
        have hB0 : Below wr.heap.size wr wr.drew := Below.drew (Below.refl _ _)
        have hS0 := HK.out wr.drew hB0
        go_wp2_with fail
        refine wp_region_held_drew (S := (fun w' => (w'.cell? ⟨g1, o1 + i * 9, none⟩ = some (.int .i64 k) ∧ w'.cell? ⟨g1, o1 + i * 9 + 1, none⟩ = some (.string nm) ∧ w'.cell? ⟨g1, o1 + i * 9 + 2, none⟩ = some (.int .u8 (op : Int)) ∧ w'.cell? ⟨g1, o1 + i * 9 + 3, none⟩ = some (.int .u8 (t : Int)) ∧ w'.cell? ⟨g1, o1 + i * 9 + 4, none⟩ = some (.int .u64 (b : Int)) ∧ w'.cell? ⟨g1, o1 + i * 9 + 5, none⟩ = some (.string enm) ∧ w'.cell? ⟨g1, o1 + i * 9 + 6, none⟩ = some (.slice ea en ec) ∧ w'.cell? ⟨g1, o1 + i * 9 + 7, none⟩ = some (.slice a1 n1 c1) ∧ w'.cell? ⟨g1, o1 + i * 9 + 8, none⟩ = some (.slice a2 n2 c2)) ∧ (w'.cell? ⟨g2, o2 + i * 9, none⟩ = some (.int .i64 k') ∧ w'.cell? ⟨g2, o2 + i * 9 + 1, none⟩ = some (.string nm') ∧ w'.cell? ⟨g2, o2 + i * 9 + 2, none⟩ = some (.int .u8 (op' : Int)) ∧ w'.cell? ⟨g2, o2 + i * 9 + 3, none⟩ = some (.int .u8 (t' : Int)) ∧ w'.cell? ⟨g2, o2 + i * 9 + 4, none⟩ = some (.int .u64 (b' : Int)) ∧ w'.cell? ⟨g2, o2 + i * 9 + 5, none⟩ = some (.string enm') ∧ w'.cell? ⟨g2, o2 + i * 9 + 6, none⟩ = some (.slice ea' en' ec') ∧ w'.cell? ⟨g2, o2 + i * 9 + 7, none⟩ = some (.slice a1' n1' c1') ∧ w'.cell? ⟨g2, o2 + i * 9 + 8, none⟩ = some (.slice a2' n2' c2')))) (by kernel_rfl) hS0 (fun _ => ?_)
        refine tY 0 (.slice (some ⟨g1, o1, none⟩) n cc1) (oi := { dst := some 17, op := .move (.tmp 0), guard := none, .. }) rfl hS0 ?_ ?_
        · intro w hSw
          go_simp
        simp only [Act.put, sA, sB, sC]
        refine tY 1 (.int .i64 (i : Int)) (oi := { dst := some 18, op := .move (.tmp 5), guard := none, .. }) rfl hS0 ?_ ?_
        · intro w hSw
          go_simp
        simp only [Act.put, sA, sB, sC]
        refine tY 2 (.pointer (some ⟨g1, o1 + i * 9, none⟩)) (oi := { dst := some 19, op := .indexAddr 49 (.tmp 17) (.tmp 18), guard := none, .. }) rfl hS0 ?_ ?_
        · intro w hSw
          go_simp
        simp only [Act.put, sA, sB, sC]
        refine tY 3 (.pointer (some ⟨g1, o1 + i * 9, none⟩)) (oi := { dst := some 20, op := .fieldAddr 51 (.tmp 19) 0, guard := none, .. }) rfl hS0 ?_ ?_
        · intro w hSw
          go_simp
        simp only [Act.put, sA, sB, sC]
        refine tY 4 (.int .i64 k) (oi := { dst := some 21, op := .load 3 (.tmp 20), guard := none, .. }) rfl hS0 ?_ ?_
        · intro w hSw
          have z := hSw.1.1
          go_simp
        simp only [Act.put, sA, sB, sC]
        refine tY 5 (.slice (some ⟨g2, o2, none⟩) n cc2) (oi := { dst := some 22, op := .move (.tmp 1), guard := none, .. }) rfl hS0 ?_ ?_
        · intro w hSw
          go_simp
        simp only [Act.put, sA, sB, sC]
        refine tY 6 (.int .i64 (i : Int)) (oi := { dst := some 23, op := .move (.tmp 5), guard := none, .. }) rfl hS0 ?_ ?_
        · intro w hSw
          go_simp
        simp only [Act.put, sA, sB, sC]
        refine tY 7 (.pointer (some ⟨g2, o2 + i * 9, none⟩)) (oi := { dst := some 24, op := .indexAddr 49 (.tmp 22) (.tmp 23), guard := none, .. }) rfl hS0 ?_ ?_
        · intro w hSw
          go_simp
        simp only [Act.put, sA, sB, sC]
        refine tY 8 (.pointer (some ⟨g2, o2 + i * 9, none⟩)) (oi := { dst := some 25, op := .fieldAddr 51 (.tmp 24) 0, guard := none, .. }) rfl hS0 ?_ ?_
        · intro w hSw
          go_simp
        simp only [Act.put, sA, sB, sC]
        refine tY 9 (.int .i64 k') (oi := { dst := some 26, op := .load 3 (.tmp 25), guard := none, .. }) rfl hS0 ?_ ?_
        · intro w hSw
          have z := hSw.2.1
          go_simp
        simp only [Act.put, sA, sB, sC]
        by_cases hk : k = k'
        · subst hk
          refine tY 10 (.bool false) (oi := { dst := some 27, op := .binOp .neq 3 (.tmp 21) (.tmp 26) 3, guard := none, .. }) rfl hS0 ?_ ?_
          · intro w hSw
            go_simp
          simp only [Act.put, sA, sB, sC]
          refine tY 11 (.bool false) (oi := { dst := some 28, op := .move (.tmp 27), guard := none, .. }) rfl hS0 ?_ ?_
          · intro w hSw
            go_simp
          simp only [Act.put, sA, sB, sC]
          refine tY 12 (.slice (some ⟨g1, o1, none⟩) n cc1) (oi := { dst := some 29, op := .move (.tmp 0), guard := some (11, false), .. }) rfl hS0 ?_ ?_
          · intro w hSw
            go_simp
          simp only [Act.put, sA, sB, sC]
          refine tY 13 (.int .i64 (i : Int)) (oi := { dst := some 30, op := .move (.tmp 5), guard := some (11, false), .. }) rfl hS0 ?_ ?_
          · intro w hSw
            go_simp
          simp only [Act.put, sA, sB, sC]
          refine tY 14 (.pointer (some ⟨g1, o1 + i * 9, none⟩)) (oi := { dst := some 31, op := .indexAddr 49 (.tmp 29) (.tmp 30), guard := some (11, false), .. }) rfl hS0 ?_ ?_
          · intro w hSw
            go_simp
          simp only [Act.put, sA, sB, sC]
          refine tY 15 (.pointer (some ⟨g1, o1 + i * 9 + 1, none⟩)) (oi := { dst := some 32, op := .fieldAddr 51 (.tmp 31) 1, guard := some (11, false), .. }) rfl hS0 ?_ ?_
          · intro w hSw
            go_simp
          simp only [Act.put, sA, sB, sC]
          refine tY 16 (.string nm) (oi := { dst := some 33, op := .load 9 (.tmp 32), guard := some (11, false), .. }) rfl hS0 ?_ ?_
          · intro w hSw
            have z := hSw.1.2.1
            go_simp
          simp only [Act.put, sA, sB, sC]
          refine tY 17 (.slice (some ⟨g2, o2, none⟩) n cc2) (oi := { dst := some 34, op := .move (.tmp 1), guard := some (11, false), .. }) rfl hS0 ?_ ?_
          · intro w hSw
            go_simp
          simp only [Act.put, sA, sB, sC]
          refine tY 18 (.int .i64 (i : Int)) (oi := { dst := some 35, op := .move (.tmp 5), guard := some (11, false), .. }) rfl hS0 ?_ ?_
          · intro w hSw
            go_simp
          simp only [Act.put, sA, sB, sC]
          refine tY 19 (.pointer (some ⟨g2, o2 + i * 9, none⟩)) (oi := { dst := some 36, op := .indexAddr 49 (.tmp 34) (.tmp 35), guard := some (11, false), .. }) rfl hS0 ?_ ?_
          · intro w hSw
            go_simp
          simp only [Act.put, sA, sB, sC]
          refine tY 20 (.pointer (some ⟨g2, o2 + i * 9 + 1, none⟩)) (oi := { dst := some 37, op := .fieldAddr 51 (.tmp 36) 1, guard := some (11, false), .. }) rfl hS0 ?_ ?_
          · intro w hSw
            go_simp
          simp only [Act.put, sA, sB, sC]
          refine tY 21 (.string nm') (oi := { dst := some 38, op := .load 9 (.tmp 37), guard := some (11, false), .. }) rfl hS0 ?_ ?_
          · intro w hSw
            have z := hSw.2.2.1
            go_simp
          simp only [Act.put, sA, sB, sC]
          by_cases hs : nm.toList = nm'.toList
          · have hs0 : (nm.toList == nm'.toList) = true := by rw [beq_iff_eq]; exact hs
            rw [toList_bytes, toList_bytes] at hs
            have hs' : decide (nm.data.toList = nm'.data.toList) = true := decide_eq_true hs
            rw [hs', Bool.true_and] at hZ2
            clear hs hs'
            refine tY 22 (.bool false) (oi := { dst := some 39, op := .binOp .neq 9 (.tmp 33) (.tmp 38) 9, guard := some (11, false), .. }) rfl hS0 ?_ ?_
            · intro w hSw
              go_simp
            simp only [Act.put, sA, sB, sC]
            refine tY 23 (.bool false) (oi := { dst := some 40, op := .pick (.tmp 28) (.const (.bool true)) (.tmp 39), guard := none, .. }) rfl hS0 ?_ ?_
            · intro w hSw
              go_simp
            simp only [Act.put, sA, sB, sC]
            refine tY 24 (.bool false) (oi := { dst := some 41, op := .move (.tmp 40), guard := none, .. }) rfl hS0 ?_ ?_
            · intro w hSw
              go_simp
            simp only [Act.put, sA, sB, sC]
            refine tY 25 (.slice (some ⟨g1, o1, none⟩) n cc1) (oi := { dst := some 42, op := .move (.tmp 0), guard := some (24, false), .. }) rfl hS0 ?_ ?_
            · intro w hSw
              go_simp
            simp only [Act.put, sA, sB, sC]
            refine tY 26 (.int .i64 (i : Int)) (oi := { dst := some 43, op := .move (.tmp 5), guard := some (24, false), .. }) rfl hS0 ?_ ?_
            · intro w hSw
              go_simp
            simp only [Act.put, sA, sB, sC]
            refine tY 27 (.pointer (some ⟨g1, o1 + i * 9, none⟩)) (oi := { dst := some 44, op := .indexAddr 49 (.tmp 42) (.tmp 43), guard := some (24, false), .. }) rfl hS0 ?_ ?_
            · intro w hSw
              go_simp
            simp only [Act.put, sA, sB, sC]
            refine tY 28 (.pointer (some ⟨g1, o1 + i * 9 + 2, none⟩)) (oi := { dst := some 45, op := .fieldAddr 51 (.tmp 44) 2, guard := some (24, false), .. }) rfl hS0 ?_ ?_
            · intro w hSw
              go_simp
            simp only [Act.put, sA, sB, sC]
            refine tY 29 (.agg #[.int .u8 (op : Int), .int .u8 (t : Int), .int .u64 (b : Int), .string enm, .slice ea en ec]) (oi := { dst := some 46, op := .load 43 (.tmp 45), guard := some (24, false), .. }) rfl hS0 ?_ ?_
            · intro w hSw
              have z2 := hSw.1.2.2.1
              have z3 := hSw.1.2.2.2.1
              have z4 := hSw.1.2.2.2.2.1
              have z5 := hSw.1.2.2.2.2.2.1
              have z6 := hSw.1.2.2.2.2.2.2.1
              go_simp
            simp only [Act.put, sA, sB, sC]
            refine tY 30 (.slice (some ⟨g2, o2, none⟩) n cc2) (oi := { dst := some 47, op := .move (.tmp 1), guard := some (24, false), .. }) rfl hS0 ?_ ?_
            · intro w hSw
              go_simp
            simp only [Act.put, sA, sB, sC]
            refine tY 31 (.int .i64 (i : Int)) (oi := { dst := some 48, op := .move (.tmp 5), guard := some (24, false), .. }) rfl hS0 ?_ ?_
            · intro w hSw
              go_simp
            simp only [Act.put, sA, sB, sC]
            refine tY 32 (.pointer (some ⟨g2, o2 + i * 9, none⟩)) (oi := { dst := some 49, op := .indexAddr 49 (.tmp 47) (.tmp 48), guard := some (24, false), .. }) rfl hS0 ?_ ?_
            · intro w hSw
              go_simp
            simp only [Act.put, sA, sB, sC]
            refine tY 33 (.pointer (some ⟨g2, o2 + i * 9 + 2, none⟩)) (oi := { dst := some 50, op := .fieldAddr 51 (.tmp 49) 2, guard := some (24, false), .. }) rfl hS0 ?_ ?_
            · intro w hSw
              go_simp
            simp only [Act.put, sA, sB, sC]
            refine tY 34 (.agg #[.int .u8 (op' : Int), .int .u8 (t' : Int), .int .u64 (b' : Int), .string enm', .slice ea' en' ec']) (oi := { dst := some 51, op := .load 43 (.tmp 50), guard := some (24, false), .. }) rfl hS0 ?_ ?_
            · intro w hSw
              have z2 := hSw.2.2.2.1
              have z3 := hSw.2.2.2.2.1
              have z4 := hSw.2.2.2.2.2.1
              have z5 := hSw.2.2.2.2.2.2.1
              have z6 := hSw.2.2.2.2.2.2.2.1
              go_simp
            simp only [Act.put, sA, sB, sC]
            cases p3
            all_goals
              refine wpAnyH_ready (rs := [35]) (by kernel_rfl) (by simp) ?_
              refine AllReadyH.cons (o := { dst := some 52, op := .call { callee := .value (.func 15), args := #[.tmp 46, .tmp 51], argTypes := #[43, 43] }, guard := some (24, false), .. }) rfl (fun K hK => ?_) AllReadyH.nil
              rw [if_pos (by rfl)]
              go_wp2_with (go_at_call 15; refine (Q3.out _ hB0).mono ?_; rintro e x1 ⟨rfl, hb1⟩)
              have hB1 := hB0.trans (hb1.mono hB0.size)
              have hS1 := HK.out x1 hB1
              refine hK.out _ _ hS1 (fun _ => ?_)
            · refine tY 36 (.bool true) (oi := { dst := some 53, op := .unOp .not 4 (.tmp 52), guard := some (24, false), .. }) rfl hS1 ?_ ?_
              · intro w hSw
                go_simp
              simp only [Act.put, sA, sB, sC]
              refine tY 37 (.bool true) (oi := { dst := some 54, op := .pick (.tmp 41) (.const (.bool true)) (.tmp 53), guard := none, .. }) rfl hS1 ?_ ?_
              · intro w hSw
                go_simp
              simp only [Act.put, sA, sB, sC]
              refine tY 38 (.bool true) (oi := { dst := some 55, op := .move (.tmp 54), guard := none, .. }) rfl hS1 ?_ ?_
              · intro w hSw
                go_simp
              simp only [Act.put, sA, sB, sC]
              refine tNs 12 [(39, 56), (40, 57), (41, 58), (42, 59), (43, 60), (44, 61), (45, 62), (46, 63), (47, 64), (48, 65), (49, 66), (50, 67)] hS1 ?_
              simp only [List.foldl, Act.put, sA, sB, sC]
              refine tY 51 (.bool true) (oi := { dst := some 68, op := .pick (.tmp 55) (.const (.bool true)) (.tmp 67), guard := none, .. }) rfl hS1 ?_ ?_
              · intro w hSw
                go_simp
              simp only [Act.put, sA, sB, sC]
              refine tY 52 (.bool true) (oi := { dst := some 69, op := .move (.tmp 68), guard := none, .. }) rfl hS1 ?_ ?_
              · intro w hSw
                go_simp
              simp only [Act.put, sA, sB, sC]
              refine tNs 12 [(53, 70), (54, 71), (55, 72), (56, 73), (57, 74), (58, 75), (59, 76), (60, 77), (61, 78), (62, 79), (63, 80), (64, 81)] hS1 ?_
              simp only [List.foldl, Act.put, sA, sB, sC]
              refine tY 65 (.bool true) (oi := { dst := some 82, op := .pick (.tmp 69) (.const (.bool true)) (.tmp 81), guard := none, .. }) rfl hS1 ?_ ?_
              · intro w hSw
                go_simp
              simp only [Act.put, sA, sB, sC]
              refine wpAnyH_done (by kernel_rfl) ?_ _
              go_wp2
              go_ret
              exact ⟨by rw [hRf.out (by first | (rw [hZ2.out]; done) | (rw [hZ2.out]; simp))]; rfl, hbw.trans (hB1.mono hbw.size)⟩
            · refine tY 36 (.bool false) (oi := { dst := some 53, op := .unOp .not 4 (.tmp 52), guard := some (24, false), .. }) rfl hS1 ?_ ?_
              · intro w hSw
                go_simp
              simp only [Act.put, sA, sB, sC]
              refine tY 37 (.bool false) (oi := { dst := some 54, op := .pick (.tmp 41) (.const (.bool true)) (.tmp 53), guard := none, .. }) rfl hS1 ?_ ?_
              · intro w hSw
                go_simp
              simp only [Act.put, sA, sB, sC]
              refine tY 38 (.bool false) (oi := { dst := some 55, op := .move (.tmp 54), guard := none, .. }) rfl hS1 ?_ ?_
              · intro w hSw
                go_simp
              simp only [Act.put, sA, sB, sC]
              refine tY 39 (.slice (some ⟨g1, o1, none⟩) n cc1) (oi := { dst := some 56, op := .move (.tmp 0), guard := some (38, false), .. }) rfl hS1 ?_ ?_
              · intro w hSw
                go_simp
              simp only [Act.put, sA, sB, sC]
              refine tY 40 (.int .i64 (i : Int)) (oi := { dst := some 57, op := .move (.tmp 5), guard := some (38, false), .. }) rfl hS1 ?_ ?_
              · intro w hSw
                go_simp
              simp only [Act.put, sA, sB, sC]
              refine tY 41 (.pointer (some ⟨g1, o1 + i * 9, none⟩)) (oi := { dst := some 58, op := .indexAddr 49 (.tmp 56) (.tmp 57), guard := some (38, false), .. }) rfl hS1 ?_ ?_
              · intro w hSw
                go_simp
              simp only [Act.put, sA, sB, sC]
              refine tY 42 (.pointer (some ⟨g1, o1 + i * 9 + 7, none⟩)) (oi := { dst := some 59, op := .fieldAddr 51 (.tmp 58) 3, guard := some (38, false), .. }) rfl hS1 ?_ ?_
              · intro w hSw
                go_simp
              simp only [Act.put, sA, sB, sC]
              refine tY 43 (.slice a1 n1 c1) (oi := { dst := some 60, op := .load 49 (.tmp 59), guard := some (38, false), .. }) rfl hS1 ?_ ?_
              · intro w hSw
                have z := hSw.1.2.2.2.2.2.2.2.1
                go_simp
              simp only [Act.put, sA, sB, sC]
              refine tY 44 (.slice (some ⟨g2, o2, none⟩) n cc2) (oi := { dst := some 61, op := .move (.tmp 1), guard := some (38, false), .. }) rfl hS1 ?_ ?_
              · intro w hSw
                go_simp
              simp only [Act.put, sA, sB, sC]
              refine tY 45 (.int .i64 (i : Int)) (oi := { dst := some 62, op := .move (.tmp 5), guard := some (38, false), .. }) rfl hS1 ?_ ?_
              · intro w hSw
                go_simp
              simp only [Act.put, sA, sB, sC]
              refine tY 46 (.pointer (some ⟨g2, o2 + i * 9, none⟩)) (oi := { dst := some 63, op := .indexAddr 49 (.tmp 61) (.tmp 62), guard := some (38, false), .. }) rfl hS1 ?_ ?_
              · intro w hSw
                go_simp
              simp only [Act.put, sA, sB, sC]
              refine tY 47 (.pointer (some ⟨g2, o2 + i * 9 + 7, none⟩)) (oi := { dst := some 64, op := .fieldAddr 51 (.tmp 63) 3, guard := some (38, false), .. }) rfl hS1 ?_ ?_
              · intro w hSw
                go_simp
              simp only [Act.put, sA, sB, sC]
              refine tY 48 (.slice a1' n1' c1') (oi := { dst := some 65, op := .load 49 (.tmp 64), guard := some (38, false), .. }) rfl hS1 ?_ ?_
              · intro w hSw
                have z := hSw.2.2.2.2.2.2.2.2.1
                go_simp
              simp only [Act.put, sA, sB, sC]
              cases p4
              all_goals
                refine wpAnyH_ready (rs := [49]) (by kernel_rfl) (by simp) ?_
                refine AllReadyH.cons (o := { dst := some 66, op := .call { callee := .value (.func 33), args := #[.tmp 60, .tmp 65], argTypes := #[49, 49] }, guard := some (38, false), .. }) rfl (fun K hK => ?_) AllReadyH.nil
                rw [if_pos (by rfl)]
                go_wp2_with (go_at_call 33; refine (Q4.out _ hB1).mono ?_; rintro e x2 ⟨rfl, hb2⟩)
                have hB2 := hB1.trans (hb2.mono hB1.size)
                have hS2 := HK.out x2 hB2
                refine hK.out _ _ hS2 (fun _ => ?_)
              · refine tY 50 (.bool true) (oi := { dst := some 67, op := .unOp .not 4 (.tmp 66), guard := some (38, false), .. }) rfl hS2 ?_ ?_
                · intro w hSw
                  go_simp
                simp only [Act.put, sA, sB, sC]
                refine tY 51 (.bool true) (oi := { dst := some 68, op := .pick (.tmp 55) (.const (.bool true)) (.tmp 67), guard := none, .. }) rfl hS2 ?_ ?_
                · intro w hSw
                  go_simp
                simp only [Act.put, sA, sB, sC]
                refine tY 52 (.bool true) (oi := { dst := some 69, op := .move (.tmp 68), guard := none, .. }) rfl hS2 ?_ ?_
                · intro w hSw
                  go_simp
                simp only [Act.put, sA, sB, sC]
                refine tNs 12 [(53, 70), (54, 71), (55, 72), (56, 73), (57, 74), (58, 75), (59, 76), (60, 77), (61, 78), (62, 79), (63, 80), (64, 81)] hS2 ?_
                simp only [List.foldl, Act.put, sA, sB, sC]
                refine tY 65 (.bool true) (oi := { dst := some 82, op := .pick (.tmp 69) (.const (.bool true)) (.tmp 81), guard := none, .. }) rfl hS2 ?_ ?_
                · intro w hSw
                  go_simp
                simp only [Act.put, sA, sB, sC]
                refine wpAnyH_done (by kernel_rfl) ?_ _
                go_wp2
                go_ret
                exact ⟨by rw [hRf.out (by first | (rw [hZ2.out]; done) | (rw [hZ2.out]; simp))]; rfl, hbw.trans (hB2.mono hbw.size)⟩
              · refine tY 50 (.bool false) (oi := { dst := some 67, op := .unOp .not 4 (.tmp 66), guard := some (38, false), .. }) rfl hS2 ?_ ?_
                · intro w hSw
                  go_simp
                simp only [Act.put, sA, sB, sC]
                refine tY 51 (.bool false) (oi := { dst := some 68, op := .pick (.tmp 55) (.const (.bool true)) (.tmp 67), guard := none, .. }) rfl hS2 ?_ ?_
                · intro w hSw
                  go_simp
                simp only [Act.put, sA, sB, sC]
                refine tY 52 (.bool false) (oi := { dst := some 69, op := .move (.tmp 68), guard := none, .. }) rfl hS2 ?_ ?_
                · intro w hSw
                  go_simp
                simp only [Act.put, sA, sB, sC]
                refine tY 53 (.slice (some ⟨g1, o1, none⟩) n cc1) (oi := { dst := some 70, op := .move (.tmp 0), guard := some (52, false), .. }) rfl hS2 ?_ ?_
                · intro w hSw
                  go_simp
                simp only [Act.put, sA, sB, sC]
                refine tY 54 (.int .i64 (i : Int)) (oi := { dst := some 71, op := .move (.tmp 5), guard := some (52, false), .. }) rfl hS2 ?_ ?_
                · intro w hSw
                  go_simp
                simp only [Act.put, sA, sB, sC]
                refine tY 55 (.pointer (some ⟨g1, o1 + i * 9, none⟩)) (oi := { dst := some 72, op := .indexAddr 49 (.tmp 70) (.tmp 71), guard := some (52, false), .. }) rfl hS2 ?_ ?_
                · intro w hSw
                  go_simp
                simp only [Act.put, sA, sB, sC]
                refine tY 56 (.pointer (some ⟨g1, o1 + i * 9 + 8, none⟩)) (oi := { dst := some 73, op := .fieldAddr 51 (.tmp 72) 4, guard := some (52, false), .. }) rfl hS2 ?_ ?_
                · intro w hSw
                  go_simp
                simp only [Act.put, sA, sB, sC]
                refine tY 57 (.slice a2 n2 c2) (oi := { dst := some 74, op := .load 49 (.tmp 73), guard := some (52, false), .. }) rfl hS2 ?_ ?_
                · intro w hSw
                  have z := hSw.1.2.2.2.2.2.2.2.2
                  go_simp
                simp only [Act.put, sA, sB, sC]
                refine tY 58 (.slice (some ⟨g2, o2, none⟩) n cc2) (oi := { dst := some 75, op := .move (.tmp 1), guard := some (52, false), .. }) rfl hS2 ?_ ?_
                · intro w hSw
                  go_simp
                simp only [Act.put, sA, sB, sC]
                refine tY 59 (.int .i64 (i : Int)) (oi := { dst := some 76, op := .move (.tmp 5), guard := some (52, false), .. }) rfl hS2 ?_ ?_
                · intro w hSw
                  go_simp
                simp only [Act.put, sA, sB, sC]
                refine tY 60 (.pointer (some ⟨g2, o2 + i * 9, none⟩)) (oi := { dst := some 77, op := .indexAddr 49 (.tmp 75) (.tmp 76), guard := some (52, false), .. }) rfl hS2 ?_ ?_
                · intro w hSw
                  go_simp
                simp only [Act.put, sA, sB, sC]
                refine tY 61 (.pointer (some ⟨g2, o2 + i * 9 + 8, none⟩)) (oi := { dst := some 78, op := .fieldAddr 51 (.tmp 77) 4, guard := some (52, false), .. }) rfl hS2 ?_ ?_
                · intro w hSw
                  go_simp
                simp only [Act.put, sA, sB, sC]
                refine tY 62 (.slice a2' n2' c2') (oi := { dst := some 79, op := .load 49 (.tmp 78), guard := some (52, false), .. }) rfl hS2 ?_ ?_
                · intro w hSw
                  have z := hSw.2.2.2.2.2.2.2.2.2
                  go_simp
                simp only [Act.put, sA, sB, sC]
                cases p5
                all_goals
                  refine wpAnyH_ready (rs := [63]) (by kernel_rfl) (by simp) ?_
                  refine AllReadyH.cons (o := { dst := some 80, op := .call { callee := .value (.func 33), args := #[.tmp 74, .tmp 79], argTypes := #[49, 49] }, guard := some (52, false), .. }) rfl (fun K hK => ?_) AllReadyH.nil
                  rw [if_pos (by rfl)]
                  go_wp2_with (go_at_call 33; refine (Q5.out _ hB2).mono ?_; rintro e x3 ⟨rfl, hb3⟩)
                  have hB3 := hB2.trans (hb3.mono hB2.size)
                  have hS3 := HK.out x3 hB3
                  refine hK.out _ _ hS3 (fun _ => ?_)
                focus
                  refine tY 64 (.bool true) (oi := { dst := some 81, op := .unOp .not 4 (.tmp 80), guard := some (52, false), .. }) rfl hS3 ?_ ?_
                  · intro w hSw
                    go_simp
                  simp only [Act.put, sA, sB, sC]
                  refine tY 65 (.bool true) (oi := { dst := some 82, op := .pick (.tmp 69) (.const (.bool true)) (.tmp 81), guard := none, .. }) rfl hS3 ?_ ?_
                  · intro w hSw
                    go_simp
                rotate_left
                focus
                  refine tY 64 (.bool false) (oi := { dst := some 81, op := .unOp .not 4 (.tmp 80), guard := some (52, false), .. }) rfl hS3 ?_ ?_
                  · intro w hSw
                    go_simp
                  simp only [Act.put, sA, sB, sC]
                  refine tY 65 (.bool false) (oi := { dst := some 82, op := .pick (.tmp 69) (.const (.bool true)) (.tmp 81), guard := none, .. }) rfl hS3 ?_ ?_
                  · intro w hSw
                    go_simp
                rotate_left
                all_goals
                  simp only [Act.put, sA, sB, sC]
                  refine wpAnyH_done (by kernel_rfl) ?_ _
                · go_wp2
                  go_ret
                  exact ⟨by rw [hRf.out (by first | (rw [hZ2.out]; done) | (rw [hZ2.out]; simp))]; rfl, hbw.trans (hB3.mono hbw.size)⟩
                · have hw5 : Below w.heap.size w x3 := hbw.trans (hB3.mono hbw.size)
                  go_wp2
                  go_roundw
                  case rel =>
                    refine ⟨i + 1, by go_num, by omega, hw5, fun q u v hq hu hv => ?_⟩
                    by_cases hqi : q = i
                    · subst hqi
                      rw [HX.out.1] at hu
                      rw [HX.out.2] at hv
                      cases hu
                      cases hv
                      have := hZS.out
                      rw [hZ2.out] at this
                      simpa using this.symm
                    · exact HA.out q u v (by omega) hu hv
                  case measure => simp [intOf]; omega
          · have hs0 : (nm.toList == nm'.toList) = false := by rw [beq_eq_false_iff_ne]; exact hs
            rw [toList_bytes, toList_bytes] at hs
            have hs' : decide (nm.data.toList = nm'.data.toList) = false := decide_eq_false hs
            rw [hs', Bool.false_and] at hZ2
            clear hs hs'
            refine tY 22 (.bool true) (oi := { dst := some 39, op := .binOp .neq 9 (.tmp 33) (.tmp 38) 9, guard := some (11, false), .. }) rfl hS0 ?_ ?_
            · intro w hSw
              go_simp
            simp only [Act.put, sA, sB, sC]
            refine tY 23 (.bool true) (oi := { dst := some 40, op := .pick (.tmp 28) (.const (.bool true)) (.tmp 39), guard := none, .. }) rfl hS0 ?_ ?_
            · intro w hSw
              go_simp
            simp only [Act.put, sA, sB, sC]
            refine tY 24 (.bool true) (oi := { dst := some 41, op := .move (.tmp 40), guard := none, .. }) rfl hS0 ?_ ?_
            · intro w hSw
              go_simp
            simp only [Act.put, sA, sB, sC]
            refine tNs 12 [(25, 42), (26, 43), (27, 44), (28, 45), (29, 46), (30, 47), (31, 48), (32, 49), (33, 50), (34, 51), (35, 52), (36, 53)] hS0 ?_
            simp only [List.foldl, Act.put, sA, sB, sC]
            refine tY 37 (.bool true) (oi := { dst := some 54, op := .pick (.tmp 41) (.const (.bool true)) (.tmp 53), guard := none, .. }) rfl hS0 ?_ ?_
            · intro w hSw
              go_simp
            simp only [Act.put, sA, sB, sC]
            refine tY 38 (.bool true) (oi := { dst := some 55, op := .move (.tmp 54), guard := none, .. }) rfl hS0 ?_ ?_
            · intro w hSw
              go_simp
            simp only [Act.put, sA, sB, sC]
            refine tNs 12 [(39, 56), (40, 57), (41, 58), (42, 59), (43, 60), (44, 61), (45, 62), (46, 63), (47, 64), (48, 65), (49, 66), (50, 67)] hS0 ?_
            simp only [List.foldl, Act.put, sA, sB, sC]
            refine tY 51 (.bool true) (oi := { dst := some 68, op := .pick (.tmp 55) (.const (.bool true)) (.tmp 67), guard := none, .. }) rfl hS0 ?_ ?_
            · intro w hSw
              go_simp
            simp only [Act.put, sA, sB, sC]
            refine tY 52 (.bool true) (oi := { dst := some 69, op := .move (.tmp 68), guard := none, .. }) rfl hS0 ?_ ?_
            · intro w hSw
              go_simp
            simp only [Act.put, sA, sB, sC]
            refine tNs 12 [(53, 70), (54, 71), (55, 72), (56, 73), (57, 74), (58, 75), (59, 76), (60, 77), (61, 78), (62, 79), (63, 80), (64, 81)] hS0 ?_
            simp only [List.foldl, Act.put, sA, sB, sC]
            refine tY 65 (.bool true) (oi := { dst := some 82, op := .pick (.tmp 69) (.const (.bool true)) (.tmp 81), guard := none, .. }) rfl hS0 ?_ ?_
            · intro w hSw
              go_simp
            simp only [Act.put, sA, sB, sC]
            refine wpAnyH_done (by kernel_rfl) ?_ _
            go_wp2
            go_ret
            exact ⟨by rw [hRf.out (by first | (rw [hZ2.out]; done) | (rw [hZ2.out]; simp))]; rfl, hbw.trans (hB0.mono hbw.size)⟩
        · have e0 : (k == k') = false := by rw [beq_eq_false_iff_ne]; exact hk
          have hd : decide (k = k') = false := by simpa using hk
          rw [hd, Bool.false_and] at hZ2
          clear hd
          refine tY 10 (.bool true) (oi := { dst := some 27, op := .binOp .neq 3 (.tmp 21) (.tmp 26) 3, guard := none, .. }) rfl hS0 ?_ ?_
          · intro w hSw
            go_simp
          simp only [Act.put, sA, sB, sC]
          refine tY 11 (.bool true) (oi := { dst := some 28, op := .move (.tmp 27), guard := none, .. }) rfl hS0 ?_ ?_
          · intro w hSw
            go_simp
          simp only [Act.put, sA, sB, sC]
          refine tNs 11 [(12, 29), (13, 30), (14, 31), (15, 32), (16, 33), (17, 34), (18, 35), (19, 36), (20, 37), (21, 38), (22, 39)] hS0 ?_
          simp only [List.foldl, Act.put, sA, sB, sC]
          refine tY 23 (.bool true) (oi := { dst := some 40, op := .pick (.tmp 28) (.const (.bool true)) (.tmp 39), guard := none, .. }) rfl hS0 ?_ ?_
          · intro w hSw
            go_simp
          simp only [Act.put, sA, sB, sC]
          refine tY 24 (.bool true) (oi := { dst := some 41, op := .move (.tmp 40), guard := none, .. }) rfl hS0 ?_ ?_
          · intro w hSw
            go_simp
          simp only [Act.put, sA, sB, sC]
          refine tNs 12 [(25, 42), (26, 43), (27, 44), (28, 45), (29, 46), (30, 47), (31, 48), (32, 49), (33, 50), (34, 51), (35, 52), (36, 53)] hS0 ?_
          simp only [List.foldl, Act.put, sA, sB, sC]
          refine tY 37 (.bool true) (oi := { dst := some 54, op := .pick (.tmp 41) (.const (.bool true)) (.tmp 53), guard := none, .. }) rfl hS0 ?_ ?_
          · intro w hSw
            go_simp
          simp only [Act.put, sA, sB, sC]
          refine tY 38 (.bool true) (oi := { dst := some 55, op := .move (.tmp 54), guard := none, .. }) rfl hS0 ?_ ?_
          · intro w hSw
            go_simp
          simp only [Act.put, sA, sB, sC]
          refine tNs 12 [(39, 56), (40, 57), (41, 58), (42, 59), (43, 60), (44, 61), (45, 62), (46, 63), (47, 64), (48, 65), (49, 66), (50, 67)] hS0 ?_
          simp only [List.foldl, Act.put, sA, sB, sC]
          refine tY 51 (.bool true) (oi := { dst := some 68, op := .pick (.tmp 55) (.const (.bool true)) (.tmp 67), guard := none, .. }) rfl hS0 ?_ ?_
          · intro w hSw
            go_simp
          simp only [Act.put, sA, sB, sC]
          refine tY 52 (.bool true) (oi := { dst := some 69, op := .move (.tmp 68), guard := none, .. }) rfl hS0 ?_ ?_
          · intro w hSw
            go_simp
          simp only [Act.put, sA, sB, sC]
          refine tNs 12 [(53, 70), (54, 71), (55, 72), (56, 73), (57, 74), (58, 75), (59, 76), (60, 77), (61, 78), (62, 79), (63, 80), (64, 81)] hS0 ?_
          simp only [List.foldl, Act.put, sA, sB, sC]
          refine tY 65 (.bool true) (oi := { dst := some 82, op := .pick (.tmp 69) (.const (.bool true)) (.tmp 81), guard := none, .. }) rfl hS0 ?_ ?_
          · intro w hSw
            go_simp
          simp only [Act.put, sA, sB, sC]
          refine wpAnyH_done (by kernel_rfl) ?_ _
          go_wp2
          go_ret
          exact ⟨by rw [hRf.out (by first | (rw [hZ2.out]; done) | (rw [hZ2.out]; simp))]; rfl, hbw.trans (hB0.mono hbw.size)⟩
      · have hin : i = n := by omega
        have hRt : R = true := by
          rw [hR.out, samSL_iff, List.length_map, List.length_map, ← hn.out, ← hn'.out]
          refine ⟨rfl, fun q u v hu hv => hall q u v ?_ hu hv⟩
          have := (List.getElem?_eq_some_iff.1 hu).1
          rw [List.length_map, ← hn.out] at this
          omega
        clear hX hall hin HR HS
        go_wp2
        go_ret
        exact ⟨by rw [hRt]; rfl, hbw⟩
  · have hne : ((n : Int) == (n' : Int)) = false := by rw [beq_eq_false_iff_ne]; omega
    have hRf : R = false := by
      rw [hR.out, Bool.eq_false_iff]
      intro h
      have := (samSL_iff _ _).1 h
      rw [List.length_map, List.length_map, ← hn.out, ← hn'.out] at this
      exact hnn this.1
    clear hnn
    go_enter Tryz.func33, Tryz.ntmps33
    go_wp2_with fail
    go_ret
    exact ⟨by rw [hRf]; rfl, Below.refl _ _⟩

end Go.Proofs.YtjgggmjjikopeaaGreatDoor

/- The document's own comparison of programs. -/
namespace Go.Proofs.YtjgggmjjikopeaaGreatDoor
open Go.RowKit
set_option linter.unusedVariables false

theorem But.setCells5 {g : Nat} {a : World} : ∀ (vs : List Value) (o : Nat) (w : World), But g a w → But g a (w.setCells g o vs)
  | [], o, w, h => h
  | v :: vs, o, w, h => But.setCells5 vs (o + 1) _ (h.setCell o v)
theorem size_setCells5 (g : Nat) : ∀ (vs : List Value) (o : Nat) (w : World), (w.setCells g o vs).heap.size = w.heap.size
  | [], o, w => rfl
  | v :: vs, o, w => by
    show ((w.setCell ⟨g, o, none⟩ v).setCells g (o + 1) vs).heap.size = _
    rw [size_setCells5]
    simp
def setAll5 : List Value → Nat → List Value → List Value
  | old, _, [] => old
  | old, o, v :: vs => setAll5 (old.set o v) (o + 1) vs
theorem At.setCells5 {t : TypeId} {g : Nat} : ∀ (vs : List Value) (o : Nat) (old : List Value) (w : World), At t w g old → At t (w.setCells g o vs) g (setAll5 old o vs)
  | [], o, old, w, h => h
  | v :: vs, o, old, w, h => At.setCells5 vs (o + 1) _ _ (h.set o v)
theorem th_cells5 {w : World} {g : Nat} {nm : ByteArray} {s1 s2 : Value} (h : At 53 w g [.string nm, s1, s2]) : w.cell? ⟨g, 0, none⟩ = some (.string nm) ∧ w.cell? ⟨g, 1, none⟩ = some s1 ∧ w.cell? ⟨g, 2, none⟩ = some s2 := by
  refine ⟨?_, ?_, ?_⟩ <;> (rw [h.cell]; rfl)

theorem one59 (nm : ByteArray) (a1 : Option Addr) (n1 c1 : Nat) (a2 : Option Addr) (n2 c2 : Nat) : ∀ v ∈ [Value.string nm, .slice a1 n1 c1, .slice a2 n2 c2], v.oneCell' = true := by
  intro v hv
  simp at hv
  rcases hv with rfl | rfl | rfl <;> rfl
theorem wp_alloc_at5 {P : Program} {o : Oper} {a : Act} {w : World} {K : Act → World → Prop} {Q : Exit → Act → World → Prop} (t : TypeId) (ho : o.op = .alloc t) (cs : List Value) (n : Nat) (hz : (P.info? t).map (fun i => (i.zero, i.size)) = some (some (.agg cs.toArray), n))
    (h : ∀ w', At t w' w.heap.size cs → Below w.heap.size w w' → w'.heap.size = w.heap.size + 1 → K (a.put o.dst (.pointer (some ⟨w.heap.size, 0, none⟩))) w') : o.wp P a w K Q := by
  have := h (w.alloc (.cells cs.toArray t)) (_root_.Go.heap_alloc_new w _) ((Below.refl _ w).alloc (Nat.le_refl _) _) (by show (w.heap.push _).size = _; simp)
  have h0 := (zero_of_info hz).1
  unfold Oper.wp execOp
  simp only [ho, Instr.alloc, Sem.run_bind, h0]
  simpa [newVar, go_sem, Value.cells] using this

theorem th_mid {w : World} {g o : Nat} {nm : ByteArray} {s1 s2 : Value} (h : w.rangeAt g o [.string nm, s1, s2]) : w.cell? ⟨g, o, none⟩ = some (.string nm) ∧ w.cell? ⟨g, o + 1, none⟩ = some s1 ∧ w.cell? ⟨g, o + 2, none⟩ = some s2 := ⟨h 0 _ rfl, h 1 _ rfl, h 2 _ rfl⟩

theorem kitStmts_any (B : Nat) (M : Nat) : ∀ x : ST, SizeOf.sizeOf x < M → KitSW B x := by
  induction M with
  | zero => intro x h; omega
  | succ M ih =>
    rintro ⟨k, nm, e, a1, c1, b1, a2, c2, b2⟩ hN
    exact ⟨kitStmts_of B b1 fun s hs => ih s (by have := ST.sz1 (k := k) (nm := nm) (e := e) (a1 := a1) (a2 := a2) (c1 := c1) (c2 := c2) (els := b2) hs; omega), kitStmts_of B b2 fun s hs => ih s (by have := ST.sz2 (k := k) (nm := nm) (e := e) (a1 := a1) (a2 := a2) (c1 := c1) (c2 := c2) (body := b1) hs; omega)⟩
theorem kitBlock_any (B : Nat) (l : List ST) : KitLW B l := kitStmts_of B l fun s _ => kitStmts_any B _ s (Nat.lt_succ_self _)

set_option maxRecDepth 100000 in
set_option maxHeartbeats 12800000 in
theorem kitThreads_at (B : Nat) (s1 s2 s1' s2' : Value) (a3_ a3_' : Option Addr) (cc1 cc2 : Nat) (xs ys : List TT) (p1 p2_ : Bool) (w : World) (h1 : AskB w 31 #[s1, s1'] p1) (h2 : AskB w 32 #[s2, s2'] p2_) (hx : RowT B w a3_ cc1 xs) (hy : RowT B w a3_' cc2 ys) (hBw : B ≤ w.heap.size) :
    Calls Tryz.prog 10 #[.agg [s1, s2, .slice a3_ xs.length cc1].toArray, .agg [s1', s2', .slice a3_' ys.length cc2].toArray] w fun r w' => r = .returned (.bool (p1 && (p2_ && eqL samT (xs.map TT.th) (ys.map TT.th)))) ∧ Below w.heap.size w w' := by
  obtain ⟨R, hR⟩ : ∃ R, Hid (R = (p1 && (p2_ && eqL samT (xs.map TT.th) (ys.map TT.th)))) := ⟨_, (rfl : _ = (p1 && (p2_ && eqL samT _ _)))⟩
  rw [← hR.out]
  have H1 : Hid (AskB w 31 #[s1, s1'] p1) := h1
  have H2 : Hid (AskB w 32 #[s2, s2'] p2_) := h2
  obtain ⟨n, hn⟩ : ∃ n, Hid (n = xs.length) := ⟨_, (rfl : xs.length = _)⟩
  obtain ⟨n', hn'⟩ : ∃ n, Hid (n = ys.length) := ⟨_, (rfl : ys.length = _)⟩
  have hl1 := hx.1
  have hl2 := hy.1
  have hk1 := hx.2.1
  have hk2 := hy.2.1
  rw [← hn.out] at hl1 hk1 ⊢
  rw [← hn'.out] at hl2 hk2 ⊢
  have HR : Hid (RowT B w a3_ cc1 xs ∧ RowT B w a3_' cc2 ys) := ⟨hx, hy⟩
  clear h1 h2 hx hy
  go_enter Tryz.func10, Tryz.ntmps10
  go_wp2_with (first
    | ((with_reducible show wpList _ _ _ _ _ _); refine wpList_box_at rfl 26 (.tmp 0) rfl [s1, s2, .slice a3_ n cc1] rfl ?_; intro w1 hA1 hb1 hs1; clear hs1)
    | ((with_reducible show wpList _ _ _ _ _ _); refine wpList_box_at rfl 26 (.tmp 1) rfl [s1', s2', .slice a3_' n' cc2] rfl ?_; intro w2_ hA2 hb2 hs2; clear hs2; refine Hid.out ?_))
  refine hidU ?_
  have hA12 := hA1.below hb2
  have hbw_ : Below w.heap.size w w2_ := hb1.trans (hb2.mono hb1.size)
  have hl12 : w1.heap.size < w2_.heap.size := hA2.lt
  clear hA1 hb1 hb2
  obtain ⟨q0, q1, q2⟩ := pg_cells hA12
  obtain ⟨u0, u1, u2⟩ := pg_cells hA2
  go_wp2_with fail
  refine (H1.out _ hbw_).mono ?_
  rintro r w3_ ⟨rfl, hb3⟩
  have hA3 := hA12.below hb3
  have hA3' := hA2.below hb3
  have hw3 := hbw_.trans (hb3.mono hbw_.size)
  have hl13 : w1.heap.size < w3_.heap.size := hA3'.lt
  clear hA12 hA2 hbw_ hb3 q0 q1 q2 u0 u1 u2 hl12
  obtain ⟨q0, q1, q2⟩ := pg_cells hA3
  obtain ⟨u0, u1, u2⟩ := pg_cells hA3'
  cases p1 with
  | false =>
    go_wp2_with fail
    go_ret
    exact ⟨by rw [hR.out]; rfl, hw3⟩
  | true =>
    go_wp2_with fail
    refine (H2.out _ hw3).mono ?_
    rintro r w2 ⟨rfl, hb4⟩
    have hA4 := hA3.below hb4
    have hA4' := hA3'.below hb4
    have hbw := hw3.trans (hb4.mono hw3.size)
    have hl14 : w1.heap.size < w2.heap.size := hA4'.lt
    clear hA3 hA3' hw3 hb4 q0 q1 q2 u0 u1 u2 hl13
    obtain ⟨q0, q1, q2⟩ := pg_cells hA4
    obtain ⟨u0, u1, u2⟩ := pg_cells hA4'
    cases p2_ with
    | false =>
      go_wp2_with fail
      go_ret
      exact ⟨by rw [hR.out]; rfl, hbw⟩
    | true =>
      rw [Bool.true_and, Bool.true_and] at hR
      by_cases hnn : n = n'
      · subst hnn
        have HBX : Hid (At 26 w2 w.heap.size [s1, s2, .slice a3_ n cc1] ∧ At 26 w2 w1.heap.size [s1', s2', .slice a3_' n cc2]) := ⟨hA4, hA4'⟩
        clear hA4 hA4'
        go_wp2_with fail
        clear q0 q1 q2 u0 u1 u2
        go_loopw [5] (fun j wr => ∃ i : Nat, j = .int .i64 (i : Int) ∧ i ≤ n ∧ Hid (Below w2.heap.size w2 wr ∧ ∀ (q : Nat) (x y : Th), q < i → (xs.map TT.th)[q]? = some x → (ys.map TT.th)[q]? = some y → samT x y = true)) (fun j _ => n - (intOf j).toNat)
        case atStart => exact ⟨0, rfl, by omega, Below.refl _ _, fun q x y hq => by omega⟩
        case round =>
          obtain ⟨i, rfl, hi, hX⟩ := hrel
          obtain ⟨hb2r, hall⟩ := hX.out
          obtain ⟨-, -, q2⟩ := pg_cells (HBX.out.1.below hb2r)
          obtain ⟨-, -, u2⟩ := pg_cells (HBX.out.2.below hb2r)
          have hwr : Below w.heap.size w wr := hbw.trans (hb2r.mono hbw.size)
          by_cases hc : i < n
          · obtain ⟨x, hx⟩ : ∃ k, xs[i]? = some k := ⟨xs[i]'(by rw [← hn.out]; exact hc), by rw [List.getElem?_eq_getElem]⟩
            obtain ⟨y, hy⟩ : ∃ k, ys[i]? = some k := ⟨ys[i]'(by rw [← hn'.out]; exact hc), by rw [List.getElem?_eq_getElem]⟩
            have hold : Old B w wr := Old.of_below hwr hBw
            obtain ⟨g1, o1, rfl, hg1, hr1, hx1⟩ := (HR.out.1.old hold).at i x hx
            obtain ⟨g2, o2, rfl, hg2, hr2, hy1⟩ := (HR.out.2.old hold).at i y hy
            have HX : Hid ((xs.map TT.th)[i]? = some x.th ∧ (ys.map TT.th)[i]? = some y.th) := ⟨by rw [List.getElem?_map, hx]; rfl, by rw [List.getElem?_map, hy]; rfl⟩
            have HA : Hid (∀ (q : Nat) (x y : Th), q < i → (xs.map TT.th)[q]? = some x → (ys.map TT.th)[q]? = some y → samT x y = true) := hall
            obtain ⟨Z, hZ⟩ : ∃ Z, Hid (Z = samT x.th y.th) := ⟨_, (rfl : _ = samT _ _)⟩
            have hRf : Hid (Z = false → R = false) := fun hz => by
              rw [hR.out, Bool.eq_false_iff]
              intro h
              have := ((eqL_iff _ _ _).1 h).2 i _ _ HX.out.1 HX.out.2
              rw [← hZ.out, hz] at this
              cases this
            have hZS : Hid (Z = samT x.th y.th) := hZ.out
            obtain ⟨nm, a1, c1, ls, a2, c2, bs⟩ := x
            obtain ⟨nm', a1', c1', ls', a2', c2', bs'⟩ := y
            have hZ2 : Hid (Z = (decide (nm.data.toList = nm'.data.toList) && (eqL samV (ls.map VT.vr) (ls'.map VT.vr) && samSL (bs.map ST.st) (bs'.map ST.st)))) := hZ.out
            have hsz : B ≤ wr.heap.size := by have := hwr.size; omega
            have k2 : AskB wr 31 #[.slice a1 ls.length c1, .slice a1' ls'.length c1'] (eqL samV (ls.map VT.vr) (ls'.map VT.vr)) := fun w' h => kitV_any B ls ls' a1 a1' c1 c1' w' (hx1.1.old (Old.of_below h hsz)) (hy1.1.old (Old.of_below h hsz)) (by have := h.size; omega)
            have k3 : AskB wr 33 #[.slice a2 bs.length c2, .slice a2' bs'.length c2'] (samSL (bs.map ST.st) (bs'.map ST.st)) := fun w' h => kitBlock_any B bs bs' a2 a2' c2 c2' w' (hx1.2.old (Old.of_below h hsz)) (hy1.2.old (Old.of_below h hsz)) (by have := h.size; omega)
            generalize eqL samV (ls.map VT.vr) (ls'.map VT.vr) = p2 at k2 hZ2
            generalize samSL (bs.map ST.st) (bs'.map ST.st) = p3 at k3 hZ2
            simp only [TT.cells] at hr1 hr2
            generalize ls.length = n1 at k2 hr1
            generalize ls'.length = n1' at k2 hr2
            generalize bs.length = n2 at k3 hr1
            generalize bs'.length = n2' at k3 hr2
            have HE : Hid (∀ w', Below wr.heap.size wr w' → (w'.cell? ⟨g1, o1 + i * 3, none⟩ = some (.string nm) ∧ w'.cell? ⟨g1, o1 + i * 3 + 1, none⟩ = some (.slice a1 n1 c1) ∧ w'.cell? ⟨g1, o1 + i * 3 + 2, none⟩ = some (.slice a2 n2 c2)) ∧ (w'.cell? ⟨g2, o2 + i * 3, none⟩ = some (.string nm') ∧ w'.cell? ⟨g2, o2 + i * 3 + 1, none⟩ = some (.slice a1' n1' c1') ∧ w'.cell? ⟨g2, o2 + i * 3 + 2, none⟩ = some (.slice a2' n2' c2'))) := fun w' h => ⟨th_mid ((Old.of_below (B := B) h hsz).range hg1 hr1), th_mid ((Old.of_below (B := B) h hsz).range hg2 hr2)⟩
            have HB : Hid (∀ w', Below wr.heap.size wr w' → w'.cell? ⟨w.heap.size, 2, none⟩ = some (.slice (some ⟨g1, o1, none⟩) n cc1) ∧ w'.cell? ⟨w1.heap.size, 2, none⟩ = some (.slice (some ⟨g2, o2, none⟩) n cc2)) := fun w' h => ⟨(pg_cells ((HBX.out.1.below hb2r).below h)).2.2, (pg_cells ((HBX.out.2.below hb2r).below h)).2.2⟩
            have Q2 : Hid (AskB wr 31 #[.slice a1 n1 c1, .slice a1' n1' c1'] p2) := k2
            have Q3 : Hid (AskB wr 33 #[.slice a2 n2 c2, .slice a2' n2' c2'] p3) := k3
            have hS0 : Below wr.heap.size wr wr.drew := Below.drew (Below.refl _ _)
            clear hX hall hx hy hold hr1 hr2 hx1 hy1 k2 k3 HR hZ HBX
            go_wp2_with fail
            refine wp_region_held_drew (S := fun x => Below wr.heap.size wr x) (by kernel_rfl) hS0 (fun _ => ?_)
            refine wpAnyH_take (i := 0) (oi := { dst := some 38, op := .fieldAddr 26 (.tmp 2) 2, type := _, pos := _, after := _, guard := none }) (v := .pointer (some ⟨w.heap.size, 2, none⟩)) rfl (by kernel_rfl) (by kernel_rfl) (by kernel_rfl) (fun _ _ _ h => h) (Or.inl ⟨by rfl, ?_⟩) hS0 ?_
            · intro w hSw
              go_simp
            simp only [Act.put, List.setIfInBounds_toArray, List.set_cons_zero, List.set_cons_succ]
            refine wpAnyH_take (i := 1) (oi := { dst := some 39, op := .load 24 (.tmp 38), type := _, pos := _, after := _, guard := none }) (v := .slice (some ⟨g1, o1, none⟩) n cc1) rfl (by kernel_rfl) (by kernel_rfl) (by kernel_rfl) (fun _ _ _ h => h) (Or.inl ⟨by rfl, ?_⟩) hS0 ?_
            · intro w hSw
              have z := (HB.out w hSw).1
              go_simp
            simp only [Act.put, List.setIfInBounds_toArray, List.set_cons_zero, List.set_cons_succ]
            refine wpAnyH_take (i := 2) (oi := { dst := some 40, op := .move (.tmp 5), type := _, pos := _, after := _, guard := none }) (v := .int .i64 (i : Int)) rfl (by kernel_rfl) (by kernel_rfl) (by kernel_rfl) (fun _ _ _ h => h) (Or.inl ⟨by rfl, ?_⟩) hS0 ?_
            · intro w hSw
              go_simp
            simp only [Act.put, List.setIfInBounds_toArray, List.set_cons_zero, List.set_cons_succ]
            refine wpAnyH_take (i := 3) (oi := { dst := some 41, op := .indexAddr 24 (.tmp 39) (.tmp 40), type := _, pos := _, after := _, guard := none }) (v := .pointer (some ⟨g1, o1 + i * 3, none⟩)) rfl (by kernel_rfl) (by kernel_rfl) (by kernel_rfl) (fun _ _ _ h => h) (Or.inl ⟨by rfl, ?_⟩) hS0 ?_
            · intro w hSw
              go_simp
            simp only [Act.put, List.setIfInBounds_toArray, List.set_cons_zero, List.set_cons_succ]
            refine wpAnyH_take (i := 4) (oi := { dst := some 42, op := .load 53 (.tmp 41), type := _, pos := _, after := _, guard := none }) (v := .agg #[.string nm, .slice a1 n1 c1, .slice a2 n2 c2]) rfl (by kernel_rfl) (by kernel_rfl) (by kernel_rfl) (fun _ _ _ h => h) (Or.inl ⟨by rfl, ?_⟩) hS0 ?_
            · intro w hSw
              obtain ⟨z0, z1, z2⟩ := (HE.out w hSw).1
              go_simp
            simp only [Act.put, List.setIfInBounds_toArray, List.set_cons_zero, List.set_cons_succ]
            refine wpAnyH_take (i := 5) (oi := { dst := some 43, op := .fieldAddr 26 (.tmp 3) 2, type := _, pos := _, after := _, guard := none }) (v := .pointer (some ⟨w1.heap.size, 2, none⟩)) rfl (by kernel_rfl) (by kernel_rfl) (by kernel_rfl) (fun _ _ _ h => h) (Or.inl ⟨by rfl, ?_⟩) hS0 ?_
            · intro w hSw
              go_simp
            simp only [Act.put, List.setIfInBounds_toArray, List.set_cons_zero, List.set_cons_succ]
            refine wpAnyH_take (i := 6) (oi := { dst := some 44, op := .load 24 (.tmp 43), type := _, pos := _, after := _, guard := none }) (v := .slice (some ⟨g2, o2, none⟩) n cc2) rfl (by kernel_rfl) (by kernel_rfl) (by kernel_rfl) (fun _ _ _ h => h) (Or.inl ⟨by rfl, ?_⟩) hS0 ?_
            · intro w hSw
              have z := (HB.out w hSw).2
              go_simp
            simp only [Act.put, List.setIfInBounds_toArray, List.set_cons_zero, List.set_cons_succ]
            refine wpAnyH_take (i := 7) (oi := { dst := some 45, op := .move (.tmp 5), type := _, pos := _, after := _, guard := none }) (v := .int .i64 (i : Int)) rfl (by kernel_rfl) (by kernel_rfl) (by kernel_rfl) (fun _ _ _ h => h) (Or.inl ⟨by rfl, ?_⟩) hS0 ?_
            · intro w hSw
              go_simp
            simp only [Act.put, List.setIfInBounds_toArray, List.set_cons_zero, List.set_cons_succ]
            refine wpAnyH_take (i := 8) (oi := { dst := some 46, op := .indexAddr 24 (.tmp 44) (.tmp 45), type := _, pos := _, after := _, guard := none }) (v := .pointer (some ⟨g2, o2 + i * 3, none⟩)) rfl (by kernel_rfl) (by kernel_rfl) (by kernel_rfl) (fun _ _ _ h => h) (Or.inl ⟨by rfl, ?_⟩) hS0 ?_
            · intro w hSw
              go_simp
            simp only [Act.put, List.setIfInBounds_toArray, List.set_cons_zero, List.set_cons_succ]
            refine wpAnyH_take (i := 9) (oi := { dst := some 47, op := .load 53 (.tmp 46), type := _, pos := _, after := _, guard := none }) (v := .agg #[.string nm', .slice a1' n1' c1', .slice a2' n2' c2']) rfl (by kernel_rfl) (by kernel_rfl) (by kernel_rfl) (fun _ _ _ h => h) (Or.inl ⟨by rfl, ?_⟩) hS0 ?_
            · intro w hSw
              obtain ⟨z0, z1, z2⟩ := (HE.out w hSw).2
              go_simp
            simp only [Act.put, List.setIfInBounds_toArray, List.set_cons_zero, List.set_cons_succ]
            refine wpAnyH_ready (rs := [10, 11]) (by kernel_rfl) (by simp) ?_
            refine AllReadyH.cons (o := { dst := some 6, op := .alloc 53, type := _, pos := _, after := _, guard := none }) rfl (fun K hK => ?_) (AllReadyH.cons (o := { dst := some 7, op := .alloc 53, type := _, pos := _, after := _, guard := none }) rfl (fun K hK => ?_) AllReadyH.nil)
            · skip
              rw [if_pos (by rfl)]
              refine wp_alloc_at5 (P := Tryz.prog) 53 rfl _ 3 z42 ?_
              intro v1 hV1 hbv1 hsv1
              have hS1 := hS0.trans (hbv1.mono hS0.size)
              refine hK.out _ _ hS1 (fun _ => ?_)
              refine wpAnyH_ready (rs := [11]) (by kernel_rfl) (by simp) ?_
              refine AllReadyH.cons (o := { dst := some 7, op := .alloc 53, type := _, pos := _, after := _, guard := none }) rfl (fun K hK => ?_) AllReadyH.nil
              rw [if_pos (by rfl)]
              refine wp_alloc_at5 (P := Tryz.prog) 53 rfl _ 3 z42 ?_
              intro v2 hV2 hbv2 hsv2
              have hS2 := hS1.trans (hbv2.mono hS1.size)
              refine hK.out _ _ hS2 (fun _ => ?_)
              have hsv1' : v1.heap.size = wr.heap.size + 1 := hsv1
              have hV1 : At 53 v1 wr.heap.size _ := hV1
              have hX2 := (hV1.below hbv2)
              have hY2 := hV2
              refine wpAnyH_ready (rs := [12]) (by kernel_rfl) (by simp) ?_
              refine AllReadyH.cons (o := { dst := none, op := .store 53 (.tmp 6) (.tmp 42), type := _, pos := _, after := _, guard := none }) rfl (fun K hK => ?_) AllReadyH.nil
              rw [if_pos (by rfl)]
              refine wp_store_mid (P := Tryz.prog) 53 (.tmp 6) (.tmp 42) rfl (wr.heap.size) 0 [.string nm, .slice a1 n1 c1, .slice a2 n2 c2].toArray rfl rfl (hX2.there 0 _ (Nat.le_refl _)) i42 (all_oneCell_toArray (one59 _ _ _ _ _ _ _)) ?_
              obtain ⟨v3, hv3⟩ : ∃ v, v = v2.setCells (wr.heap.size) 0 [.string nm, .slice a1 n1 c1, .slice a2 n2 c2].toArray.toList := ⟨_, rfl⟩
              have hBu3 : But (wr.heap.size) v2 v3 := by rw [hv3]; exact But.setCells5 _ _ _ (But.refl _ _)
              have hX3 : At 53 v3 (wr.heap.size) [.string nm, .slice a1 n1 c1, .slice a2 n2 c2] := by rw [hv3]; exact At.setCells5 _ 0 _ _ hX2
              have hsz3 : v3.heap.size = v2.heap.size := by rw [hv3]; exact size_setCells5 _ _ _ _
              have hY3 := hBu3.at hY2 (by show _ ≠ _; first | (have hd : wr.drew.heap.size = wr.heap.size := rfl; omega))
              have hS3 : Below wr.heap.size wr v3 := hBu3.below hS2 (by have hd : wr.drew.heap.size = wr.heap.size := rfl; omega) hS2.size
              rw [← hv3]
              clear hv3
              refine hK.out _ _ hS3 (fun _ => ?_)
              refine wpAnyH_ready (rs := [13]) (by kernel_rfl) (by simp) ?_
              refine AllReadyH.cons (o := { dst := none, op := .store 53 (.tmp 7) (.tmp 47), type := _, pos := _, after := _, guard := none }) rfl (fun K hK => ?_) AllReadyH.nil
              rw [if_pos (by rfl)]
              refine wp_store_mid (P := Tryz.prog) 53 (.tmp 7) (.tmp 47) rfl (v1.heap.size) 0 [.string nm', .slice a1' n1' c1', .slice a2' n2' c2'].toArray rfl rfl (hY3.there 0 _ (Nat.le_refl _)) i42 (all_oneCell_toArray (one59 _ _ _ _ _ _ _)) ?_
              obtain ⟨v4, hv4⟩ : ∃ v, v = v3.setCells (v1.heap.size) 0 [.string nm', .slice a1' n1' c1', .slice a2' n2' c2'].toArray.toList := ⟨_, rfl⟩
              have hBu4 : But (v1.heap.size) v3 v4 := by rw [hv4]; exact But.setCells5 _ _ _ (But.refl _ _)
              have hY4 : At 53 v4 (v1.heap.size) [.string nm', .slice a1' n1' c1', .slice a2' n2' c2'] := by rw [hv4]; exact At.setCells5 _ 0 _ _ hY3
              have hX4 := hBu4.at hX3 (by show _ ≠ _; first | (have hd : wr.drew.heap.size = wr.heap.size := rfl; omega))
              have hS4 : Below wr.heap.size wr v4 := hBu4.below hS3 (by have hd : wr.drew.heap.size = wr.heap.size := rfl; omega) hS3.size
              rw [← hv4]
              clear hv4 hBu3 hBu4 hX3 hY3 hX2 hY2 hV1 hV2 hbv1 hbv2 hsv1 hsv1' hsv2 hsz3
              refine hK.out _ _ hS4 (fun _ => ?_)
              refine wpAnyH_done (by kernel_rfl) ?_ _
              obtain ⟨r0, r1, r2⟩ := th_cells5 hX4
              obtain ⟨s0, s1, s2⟩ := th_cells5 hY4
              by_cases hs : nm.toList = nm'.toList
              · have hs0 : (nm.toList == nm'.toList) = true := by rw [beq_iff_eq]; exact hs
                rw [toList_bytes, toList_bytes] at hs
                have hs' : decide (nm.data.toList = nm'.data.toList) = true := decide_eq_true hs
                rw [hs', Bool.true_and] at hZ2
                clear hs hs'
                go_wp2_with fail
                refine (Q2.out _ hS4).mono ?_
                rintro r v5 ⟨rfl, hb5⟩
                have hX5 := hX4.below hb5
                have hY5 := hY4.below hb5
                have hS5 := hS4.trans (hb5.mono hS4.size)
                clear hX4 hY4 r0 r1 r2 s0 s1 s2
                obtain ⟨r0, r1, r2⟩ := th_cells5 hX5
                obtain ⟨s0, s1, s2⟩ := th_cells5 hY5
                cases p2 with
                | false =>
                  go_wp2_with fail
                  go_ret
                  exact ⟨by rw [hRf.out (by first | (rw [hZ2.out]; done) | (rw [hZ2.out]; simp))]; rfl, hwr.trans (hS5.mono hwr.size)⟩
                | true =>
                  go_wp2_with fail
                  refine (Q3.out _ hS5).mono ?_
                  rintro r v6 ⟨rfl, hb6⟩
                  have hS6 := hS5.trans (hb6.mono hS5.size)
                  clear hX5 hY5 r0 r1 r2 s0 s1 s2
                  cases p3 with
                  | false =>
                    go_wp2_with fail
                    go_ret
                    exact ⟨by rw [hRf.out (by first | (rw [hZ2.out]; done) | (rw [hZ2.out]; simp))]; rfl, hwr.trans (hS6.mono hwr.size)⟩
                  | true =>
                    have hw6 : Below w2.heap.size w2 v6 := hb2r.trans (hS6.mono hb2r.size)
                    go_wp2_with fail
                    go_roundw
                    case rel =>
                      refine ⟨i + 1, by go_num, by omega, hw6, fun q u v hq hu hv => ?_⟩
                      by_cases hqi : q = i
                      · subst hqi
                        rw [HX.out.1] at hu
                        rw [HX.out.2] at hv
                        cases hu
                        cases hv
                        have := hZS.out
                        rw [hZ2.out] at this
                        simpa using this.symm
                      · exact HA.out q u v (by omega) hu hv
                    case measure => simp [intOf]; omega
              · have hs0 : (nm.toList == nm'.toList) = false := by rw [beq_eq_false_iff_ne]; exact hs
                rw [toList_bytes, toList_bytes] at hs
                have hs' : decide (nm.data.toList = nm'.data.toList) = false := decide_eq_false hs
                rw [hs', Bool.false_and] at hZ2
                clear hs hs'
                go_wp2_with fail
                go_ret
                exact ⟨by rw [hRf.out hZ2.out]; rfl, hwr.trans (hS4.mono hwr.size)⟩
            · skip
              rw [if_pos (by rfl)]
              refine wp_alloc_at5 (P := Tryz.prog) 53 rfl _ 3 z42 ?_
              intro v1 hV1 hbv1 hsv1
              have hS1 := hS0.trans (hbv1.mono hS0.size)
              refine hK.out _ _ hS1 (fun _ => ?_)
              refine wpAnyH_ready (rs := [10]) (by kernel_rfl) (by simp) ?_
              refine AllReadyH.cons (o := { dst := some 6, op := .alloc 53, type := _, pos := _, after := _, guard := none }) rfl (fun K hK => ?_) AllReadyH.nil
              rw [if_pos (by rfl)]
              refine wp_alloc_at5 (P := Tryz.prog) 53 rfl _ 3 z42 ?_
              intro v2 hV2 hbv2 hsv2
              have hS2 := hS1.trans (hbv2.mono hS1.size)
              refine hK.out _ _ hS2 (fun _ => ?_)
              have hsv1' : v1.heap.size = wr.heap.size + 1 := hsv1
              have hV1 : At 53 v1 wr.heap.size _ := hV1
              have hX2 := hV2
              have hY2 := (hV1.below hbv2)
              refine wpAnyH_ready (rs := [12]) (by kernel_rfl) (by simp) ?_
              refine AllReadyH.cons (o := { dst := none, op := .store 53 (.tmp 6) (.tmp 42), type := _, pos := _, after := _, guard := none }) rfl (fun K hK => ?_) AllReadyH.nil
              rw [if_pos (by rfl)]
              refine wp_store_mid (P := Tryz.prog) 53 (.tmp 6) (.tmp 42) rfl (v1.heap.size) 0 [.string nm, .slice a1 n1 c1, .slice a2 n2 c2].toArray rfl rfl (hX2.there 0 _ (Nat.le_refl _)) i42 (all_oneCell_toArray (one59 _ _ _ _ _ _ _)) ?_
              obtain ⟨v3, hv3⟩ : ∃ v, v = v2.setCells (v1.heap.size) 0 [.string nm, .slice a1 n1 c1, .slice a2 n2 c2].toArray.toList := ⟨_, rfl⟩
              have hBu3 : But (v1.heap.size) v2 v3 := by rw [hv3]; exact But.setCells5 _ _ _ (But.refl _ _)
              have hX3 : At 53 v3 (v1.heap.size) [.string nm, .slice a1 n1 c1, .slice a2 n2 c2] := by rw [hv3]; exact At.setCells5 _ 0 _ _ hX2
              have hsz3 : v3.heap.size = v2.heap.size := by rw [hv3]; exact size_setCells5 _ _ _ _
              have hY3 := hBu3.at hY2 (by show _ ≠ _; first | (have hd : wr.drew.heap.size = wr.heap.size := rfl; omega))
              have hS3 : Below wr.heap.size wr v3 := hBu3.below hS2 (by have hd : wr.drew.heap.size = wr.heap.size := rfl; omega) hS2.size
              rw [← hv3]
              clear hv3
              refine hK.out _ _ hS3 (fun _ => ?_)
              refine wpAnyH_ready (rs := [13]) (by kernel_rfl) (by simp) ?_
              refine AllReadyH.cons (o := { dst := none, op := .store 53 (.tmp 7) (.tmp 47), type := _, pos := _, after := _, guard := none }) rfl (fun K hK => ?_) AllReadyH.nil
              rw [if_pos (by rfl)]
              refine wp_store_mid (P := Tryz.prog) 53 (.tmp 7) (.tmp 47) rfl (wr.heap.size) 0 [.string nm', .slice a1' n1' c1', .slice a2' n2' c2'].toArray rfl rfl (hY3.there 0 _ (Nat.le_refl _)) i42 (all_oneCell_toArray (one59 _ _ _ _ _ _ _)) ?_
              obtain ⟨v4, hv4⟩ : ∃ v, v = v3.setCells (wr.heap.size) 0 [.string nm', .slice a1' n1' c1', .slice a2' n2' c2'].toArray.toList := ⟨_, rfl⟩
              have hBu4 : But (wr.heap.size) v3 v4 := by rw [hv4]; exact But.setCells5 _ _ _ (But.refl _ _)
              have hY4 : At 53 v4 (wr.heap.size) [.string nm', .slice a1' n1' c1', .slice a2' n2' c2'] := by rw [hv4]; exact At.setCells5 _ 0 _ _ hY3
              have hX4 := hBu4.at hX3 (by show _ ≠ _; first | (have hd : wr.drew.heap.size = wr.heap.size := rfl; omega))
              have hS4 : Below wr.heap.size wr v4 := hBu4.below hS3 (by have hd : wr.drew.heap.size = wr.heap.size := rfl; omega) hS3.size
              rw [← hv4]
              clear hv4 hBu3 hBu4 hX3 hY3 hX2 hY2 hV1 hV2 hbv1 hbv2 hsv1 hsv1' hsv2 hsz3
              refine hK.out _ _ hS4 (fun _ => ?_)
              refine wpAnyH_done (by kernel_rfl) ?_ _
              obtain ⟨r0, r1, r2⟩ := th_cells5 hX4
              obtain ⟨s0, s1, s2⟩ := th_cells5 hY4
              by_cases hs : nm.toList = nm'.toList
              · have hs0 : (nm.toList == nm'.toList) = true := by rw [beq_iff_eq]; exact hs
                rw [toList_bytes, toList_bytes] at hs
                have hs' : decide (nm.data.toList = nm'.data.toList) = true := decide_eq_true hs
                rw [hs', Bool.true_and] at hZ2
                clear hs hs'
                go_wp2_with fail
                refine (Q2.out _ hS4).mono ?_
                rintro r v5 ⟨rfl, hb5⟩
                have hX5 := hX4.below hb5
                have hY5 := hY4.below hb5
                have hS5 := hS4.trans (hb5.mono hS4.size)
                clear hX4 hY4 r0 r1 r2 s0 s1 s2
                obtain ⟨r0, r1, r2⟩ := th_cells5 hX5
                obtain ⟨s0, s1, s2⟩ := th_cells5 hY5
                cases p2 with
                | false =>
                  go_wp2_with fail
                  go_ret
                  exact ⟨by rw [hRf.out (by first | (rw [hZ2.out]; done) | (rw [hZ2.out]; simp))]; rfl, hwr.trans (hS5.mono hwr.size)⟩
                | true =>
                  go_wp2_with fail
                  refine (Q3.out _ hS5).mono ?_
                  rintro r v6 ⟨rfl, hb6⟩
                  have hS6 := hS5.trans (hb6.mono hS5.size)
                  clear hX5 hY5 r0 r1 r2 s0 s1 s2
                  cases p3 with
                  | false =>
                    go_wp2_with fail
                    go_ret
                    exact ⟨by rw [hRf.out (by first | (rw [hZ2.out]; done) | (rw [hZ2.out]; simp))]; rfl, hwr.trans (hS6.mono hwr.size)⟩
                  | true =>
                    have hw6 : Below w2.heap.size w2 v6 := hb2r.trans (hS6.mono hb2r.size)
                    go_wp2_with fail
                    go_roundw
                    case rel =>
                      refine ⟨i + 1, by go_num, by omega, hw6, fun q u v hq hu hv => ?_⟩
                      by_cases hqi : q = i
                      · subst hqi
                        rw [HX.out.1] at hu
                        rw [HX.out.2] at hv
                        cases hu
                        cases hv
                        have := hZS.out
                        rw [hZ2.out] at this
                        simpa using this.symm
                      · exact HA.out q u v (by omega) hu hv
                    case measure => simp [intOf]; omega
              · have hs0 : (nm.toList == nm'.toList) = false := by rw [beq_eq_false_iff_ne]; exact hs
                rw [toList_bytes, toList_bytes] at hs
                have hs' : decide (nm.data.toList = nm'.data.toList) = false := decide_eq_false hs
                rw [hs', Bool.false_and] at hZ2
                clear hs hs'
                go_wp2_with fail
                go_ret
                exact ⟨by rw [hRf.out hZ2.out]; rfl, hwr.trans (hS4.mono hwr.size)⟩
          · have hin : i = n := by omega
            have hRt : R = true := by
              rw [hR.out, eqL_iff, List.length_map, List.length_map, ← hn.out, ← hn'.out]
              refine ⟨rfl, fun q u v hu hv => hall q u v ?_ hu hv⟩
              have := (List.getElem?_eq_some_iff.1 hu).1
              rw [List.length_map, ← hn.out] at this
              omega
            clear hX hall hin HR HBX
            go_wp2
            go_ret
            exact ⟨by rw [hRt]; rfl, hwr⟩
      · have hne : ((n : Int) == (n' : Int)) = false := by rw [beq_eq_false_iff_ne]; omega
        have hRf : R = false := by
          rw [hR.out, Bool.eq_false_iff]
          intro h
          have := (eqL_iff _ _ _).1 h
          rw [List.length_map, List.length_map, ← hn.out, ← hn'.out] at this
          exact hnn this.1
        clear hnn
        go_wp2_with fail
        go_ret
        exact ⟨by rw [hRf]; rfl, hbw⟩

theorem kitProgram_any (B : Nat) (x y : PT) (w : World) (hx : x.In B w) (hy : y.In B w) (hBw : B ≤ w.heap.size) :
    Calls Tryz.prog 10 #[.agg x.cells.toArray, .agg y.cells.toArray] w fun r w' => r = .returned (.bool (samP x.pg y.pg)) ∧ Below w.heap.size w w' := by
  have hO : ∀ w', Below w.heap.size w w' → Old B w w' ∧ B ≤ w'.heap.size := fun w' h => ⟨Old.of_below h hBw, by have := h.size; omega⟩
  exact kitThreads_at B (.slice x.a1 x.shared.length x.c1) (.slice x.a2 x.mutexes.length x.c2) (.slice y.a1 y.shared.length y.c1) (.slice y.a2 y.mutexes.length y.c2) x.a3 y.a3 x.c3 y.c3 x.threads y.threads _ _ w
    (fun w' h => kitV_any B x.shared y.shared x.a1 y.a1 x.c1 y.c1 w' (hx.1.old (hO w' h).1) (hy.1.old (hO w' h).1) (hO w' h).2)
    (fun w' h => kitN_any B x.mutexes y.mutexes x.a2 y.a2 x.c2 y.c2 w' (hx.2.1.old (hO w' h).1) (hy.2.1.old (hO w' h).1) (hO w' h).2)
    hx.2.2 hy.2.2 hBw

end Go.Proofs.YtjgggmjjikopeaaGreatDoor
