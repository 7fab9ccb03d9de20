/- Trees that came in are opened. -/
import Derived.Test.YtefklmckkigllaaCd
import Derived.Test.YtefklmckkigllaaRows
import Derived.ProofKit
import Derived.OpenShut
import Derived.Deep.Slices
namespace Go.Proofs.Ytefklmckkigllaa
open Go.ChangeShapes Go.WideShapes Go.ChangeAt Go.RowKit
set_option linter.unusedVariables false

theorem bulk_one {H : Type} (d : DataW H) : 1 ≤ Rows.uptoBulk d := by
  cases d with
  | lit l => cases l <;> simp [Rows.uptoBulk]
  | nil => simp [Rows.uptoBulk]
  | ptr d => simp [Rows.uptoBulk]
  | slice elems spare => simp [Rows.uptoBulk]
  | agg parts => simp [Rows.uptoBulk]
  | iface t d => simp [Rows.uptoBulk]
  | map entries => simp [Rows.uptoBulk]
  | held h => simp [Rows.uptoBulk]
theorem bulk_mem {H : Type} {d : DataW H} {l : List (DataW H)} (h : d ∈ l) : Rows.uptoBulk d ≤ Rows.uptoBulkAll l := by
  induction l with
  | nil => cases h
  | cons x r ih =>
    simp only [Rows.uptoBulkAll]
    rcases List.mem_cons.1 h with rfl | h
    · omega
    · have := ih h; omega
theorem bulk_len {H : Type} (l : List (DataW H)) : l.length ≤ Rows.uptoBulkAll l := by
  induction l with
  | nil => simp
  | cons x r ih => have := bulk_one x; simp only [Rows.uptoBulkAll, List.length_cons]; omega

/-- For each of a list one that fits. -/
theorem choose_list {α β : Type} : ∀ (l : List β) (R : Nat → β → α → Prop), (∀ i b, l[i]? = some b → ∃ a, R i b a) → ∃ vs : List α, vs.length = l.length ∧ ∀ i b a, l[i]? = some b → vs[i]? = some a → R i b a
  | [], R, h => ⟨[], rfl, fun i b a hb => by simp at hb⟩
  | x :: r, R, h => by
    obtain ⟨a, ha⟩ := h 0 x rfl
    obtain ⟨vs, hl, hv⟩ := choose_list r (fun i => R (i + 1)) (fun i b hb => h (i + 1) b (by simpa using hb))
    refine ⟨a :: vs, by simp [hl], fun i b c hb hc => ?_⟩
    cases i with
    | zero => simp at hb hc; subst hb hc; exact ha
    | succ i => exact hv i b c (by simpa using hb) (by simpa using hc)

theorem sum_bulk {α H : Type} (wt : α → Nat) : ∀ (vs : List α) (l : List (DataW H)), vs.length = l.length → (∀ (i : Nat) (v : α) (d : DataW H), vs[i]? = some v → l[i]? = some d → wt v ≤ Rows.uptoBulk d) → (vs.map wt).sum ≤ Rows.uptoBulkAll l
  | [], [], _, _ => by simp
  | [], d :: r, h, _ => by simp at h
  | v :: vs, [], h, _ => by simp at h
  | v :: vs, d :: r, h, hw => by
    have h0 := hw 0 v d rfl rfl
    have := sum_bulk wt vs r (by simpa using h) (fun i a b ha hb => hw (i + 1) a b (by simpa using ha) (by simpa using hb))
    simp only [List.map_cons, List.sum_cons, Rows.uptoBulkAll]
    omega

section
variable {H : Type} {enc : TypeId × Value → H} {w : World} {sp : Nat → Bool} {held : Bool}

/-- A row that came in. -/
theorem open_row {α : Type} (t e k : Nat) (hk : 0 < k) (ht : Try.prog.underlying t = some (.slice e)) (hc : Try.prog.cellsOf e = k) (wt : α → Nat) (G : α → List Value → Prop)
    (fuel : Nat) (cs : List Value) (x : DataW H × List MemPlace) (h : DataW.trod enc Try.prog w 0 sp held fuel t cs = some x) (N : Nat) (hN : Rows.uptoBulk x.1 ≤ N)
    (ho : ∀ n, n < fuel → ∀ (cs' : List Value) (y : DataW H × List MemPlace), DataW.trod enc Try.prog w 0 sp held n e cs' = some y → Rows.uptoBulk y.1 ≤ N → ∃ v : α, G v cs' ∧ wt v ≤ Rows.uptoBulk y.1) :
    ∃ (a : Option Addr) (c : Nat) (vs : List α), cs = [.slice a vs.length c] ∧ vs.length ≤ N ∧ vs.length ≤ c ∧ (vs.map wt).sum + 1 ≤ Rows.uptoBulk x.1 ∧ (vs = [] ∨ ∃ g o, a = some ⟨g, o, none⟩ ∧ g < w.heap.size ∧ ∀ (i : Nat) (v : α), vs[i]? = some v → ∃ cs', w.rangeAt g (o + i * k) cs' ∧ G v cs') := by
  rcases DataW.trod_slice ht h with ⟨rfl, rfl⟩ | ⟨ad, len, cap, elems, rest, n, hf, rfl, rfl, hb, hl, hm, hlen, hel, -, -⟩
  · exact ⟨none, 0, [], rfl, by simp, by simp, by simp [Rows.uptoBulk], .inl rfl⟩
  · have hbk : Rows.uptoBulkAll (elems.map (·.1)) + 1 ≤ Rows.uptoBulk (DataW.slice (elems.map (·.1)) (rest.map (·.1))) := by
      simp only [Rows.uptoBulk]
      omega
    rw [hc] at hel
    obtain ⟨vs, hvl, hv⟩ := choose_list elems (fun i b (v : α) => ∃ cs', w.cells? 0 (ad.add (i * k)) k = some cs' ∧ G v cs' ∧ wt v ≤ Rows.uptoBulk b.1) (fun i b hib => by
      have hi : i < len := by
        have := (List.getElem?_eq_some_iff.1 hib).1
        omega
      have h0 := hel i hi
      rw [hib] at h0
      obtain ⟨cs', h1, h2⟩ := Option.bind_eq_some_iff.1 h0
      have hbb : Rows.uptoBulk b.1 ≤ N := by
        have := bulk_mem (List.mem_map_of_mem (f := (·.1)) (List.mem_of_getElem? hib))
        simp only at hN
        omega
      obtain ⟨v, g1, g2⟩ := ho n (by omega) cs' b h2 hbb
      exact ⟨v, cs', h1, g1, g2⟩)
    have hlv : vs.length = len := by rw [hvl, hlen]
    have hsum : (vs.map wt).sum ≤ Rows.uptoBulkAll (elems.map (·.1)) := sum_bulk wt vs _ (by simp [hvl]) (fun i v d h1 h2 => by
      rw [List.getElem?_map] at h2
      obtain ⟨b, hb1, rfl⟩ := Option.map_eq_some_iff.1 h2
      exact (hv i b v hb1 h1).choose_spec.2.2)
    have hln := bulk_len (elems.map (·.1))
    rw [List.length_map] at hln
    refine ⟨some ad, cap, vs, by rw [hlv], by simp only at hN; omega, by omega, Nat.le_trans (Nat.add_le_add_right hsum 1) hbk, ?_⟩
    cases vs with
    | nil => exact .inl rfl
    | cons v0 vr =>
      right
      obtain ⟨g, o, spot⟩ := ad
      have hcell : ∀ (i : Nat) (v : α), (v0 :: vr)[i]? = some v → ∃ cs', w.cells? 0 ((⟨g, o, spot⟩ : Addr).add (i * k)) k = some cs' ∧ G v cs' := fun i v hi => by
        have hlt := (List.getElem?_eq_some_iff.1 hi).1
        obtain ⟨cs', h1, h2, -⟩ := hv i (elems[i]'(by omega)) v (List.getElem?_eq_getElem _) hi
        exact ⟨cs', h1, h2⟩
      obtain ⟨cs0, hc0, -⟩ := hcell 0 v0 rfl
      obtain ⟨_, hl0, hcc⟩ := World.cells?_some hc0
      have hv0 : ∃ z, w.cell? ⟨g, o, spot⟩ = some z := by
        have := hcc 0 hk
        rw [Nat.zero_mul] at this
        have hcs : 0 < cs0.length := by omega
        rw [List.getElem?_eq_getElem hcs] at this
        exact ⟨_, by simpa [Addr.add] using this⟩
      obtain ⟨z, hz⟩ := hv0
      have hspot : spot = none := World.cell?_spot hz
      subst hspot
      refine ⟨g, o, rfl, lt_of_cell hz, fun i v hi => ?_⟩
      obtain ⟨cs', h1, h2⟩ := hcell i v hi
      refine ⟨cs', fun j u hj => ?_, h2⟩
      obtain ⟨_, hl1, hcc1⟩ := World.cells?_some h1
      have hjl := (List.getElem?_eq_some_iff.1 hj).1
      have := hcc1 j (by omega)
      rw [hj, Addr.add_mid, Addr.add_mid] at this
      exact this
end
end Go.Proofs.Ytefklmckkigllaa
