/- clock.gather: each number of a clock lifted to another one's. -/
import Derived.Test.YtjedkfohmedmaaaCkC
namespace Go.Proofs.Ytjedkfohmedmaaa
open Go.RowKit
set_option linter.unusedVariables false
attribute [local go_sem ↓] Go.wp_at_zero Go.wp_at_succ

/-- All stands but some places of one block; new blocks may be there. -/
structure Ovr (g lo hi : Nat) (w w' : World) : Prop where
  os : w'.os = w.os
  tape : w'.tape = w.tape
  output : w'.output = w.output
  size : w.heap.size ≤ w'.heap.size
  block : ∀ k, k < w.heap.size → k ≠ g → w'.heap[k]? = w.heap[k]?
  cell : ∀ i, (i < lo ∨ hi ≤ i) → w'.cell? ⟨g, i, none⟩ = w.cell? ⟨g, i, none⟩
theorem Ovr.refl (g lo hi : Nat) (w : World) : Ovr g lo hi w w := ⟨rfl, rfl, rfl, Nat.le_refl _, fun _ _ _ => rfl, fun _ _ => rfl⟩
theorem Ovr.trans {g lo hi : Nat} {a b c : World} (h : Ovr g lo hi a b) (k : Ovr g lo hi b c) : Ovr g lo hi a c :=
  ⟨k.os.trans h.os, k.tape.trans h.tape, k.output.trans h.output, Nat.le_trans h.size k.size, fun i hi hn => (k.block i (Nat.lt_of_lt_of_le hi h.size) hn).trans (h.block i hi hn), fun i hi => (k.cell i hi).trans (h.cell i hi)⟩
theorem Ovr.of_below {g lo hi : Nat} {w w' : World} (hg : g < w.heap.size) (h : Below w.heap.size w w') : Ovr g lo hi w w' :=
  ⟨h.os, h.tape, h.output, h.size, fun k hk _ => h.block k hk, fun i _ => h.cell hg⟩
theorem Ovr.more {g lo hi : Nat} {w0 w w' : World} (h : Ovr g lo hi w0 w) (hg : g < w0.heap.size) (hb : Below w.heap.size w w') : Ovr g lo hi w0 w' :=
  h.trans (.of_below (Nat.lt_of_lt_of_le hg h.size) hb)
theorem Ovr.set {g lo hi i : Nat} {w w' : World} {cs : List Value} (h : Ovr g lo hi w w') (hb : BlkI w' g cs) (h1 : lo ≤ i) (h2 : i < hi) (v : Value) : Ovr g lo hi w (w'.setCell ⟨g, i, none⟩ v) := by
  have B := Below.setCell (Below.refl g w') (p := ⟨g, i, none⟩) (Nat.le_refl _) v
  refine ⟨B.os.trans h.os, B.tape.trans h.tape, B.output.trans h.output, ?_, fun k hk hn => ?_, fun j hj => ?_⟩
  · refine Nat.le_trans h.size (Nat.le_of_eq ?_)
    exact (World.size_setCell ..).symm
  · rw [← h.block k hk hn]
    exact heap_setCell_other _ _ _ _ hn
  · rw [← h.cell j hj, (hb.set i v).cell, hb.cell, List.getElem?_set_ne (by omega)]
theorem Ovr.below {g lo hi B : Nat} {w0 w w' : World} (h : Ovr g lo hi w w') (hb : Below B w0 w) (hB : B ≤ g) (hs : B ≤ w.heap.size) : Below B w0 w' :=
  ⟨h.os.trans hb.os, h.tape.trans hb.tape, h.output.trans hb.output, Nat.le_trans hb.size h.size, fun k hk => (h.block k (by omega) (by omega)).trans (hb.block k hk)⟩
theorem BlkI.lt {w : World} {g : Nat} {cs : List Value} (h : BlkI w g cs) : g < w.heap.size := At.lt (t := 3) h

/-- Numbers that may be written, in a block, from a place on. -/
def WrI (w : World) (g o : Nat) (zs : List Int) : Prop := ∃ cs, BlkI w g cs ∧ ∀ k z, zs[k]? = some z → cs[o + k]? = some (.int .i64 z)
section
variable {w w' : World} {g o : Nat} {zs : List Int}
theorem WrI.cell (h : WrI w g o zs) {k : Nat} {z : Int} (hz : zs[k]? = some z) : w.cell? ⟨g, o + k, none⟩ = some (.int .i64 z) := by
  obtain ⟨cs, h1, h2⟩ := h
  rw [h1.cell, h2 k z hz]
theorem WrI.frozen (h : WrI w g o zs) (i : Nat) : w.frozen? ⟨g, i, none⟩ = false := by
  obtain ⟨cs, h1, h2⟩ := h
  exact h1.frozen i
theorem WrI.lt (h : WrI w g o zs) : g < w.heap.size := by
  obtain ⟨cs, h1, h2⟩ := h
  exact h1.lt
theorem WrI.below (h : WrI w g o zs) (hb : Below w.heap.size w w') : WrI w' g o zs := by
  obtain ⟨cs, h1, h2⟩ := h
  exact ⟨cs, h1.below hb, h2⟩
theorem WrI.row (h : WrI w g o zs) : RowI w (some ⟨g, o, none⟩) zs := .inr ⟨g, o, rfl, fun i z hz => h.cell hz⟩
theorem WrI.set (h : WrI w g o zs) {k : Nat} (hk : k < zs.length) (v : Int) : WrI (w.setCell ⟨g, o + k, none⟩ (.int .i64 v)) g o (zs.set k v) := by
  obtain ⟨cs, h1, h2⟩ := h
  refine ⟨_, h1.set (o + k) _, fun j z hj => ?_⟩
  by_cases hjk : j = k
  · subst hjk
    rw [List.getElem?_set_self hk] at hj
    cases hj
    have := h2 j _ (List.getElem?_eq_getElem hk)
    rw [List.getElem?_set_self (List.getElem?_eq_some_iff.1 this).1]
  · rw [List.getElem?_set_ne (fun e => hjk e.symm)] at hj
    rw [List.getElem?_set_ne (by omega)]
    exact h2 j z hj
theorem WrI.ovr (h : WrI w g o zs) {k lo hi : Nat} {u : World} (hk : k < zs.length) (ho : Ovr g lo hi u w) (h1 : lo ≤ o) (h2 : o + zs.length ≤ hi) (v : Value) : Ovr g lo hi u (w.setCell ⟨g, o + k, none⟩ v) := by
  obtain ⟨cs, h3, h4⟩ := h
  exact ho.set h3 (by omega) (by omega) v
end
/-- A row that lies outside of some places. -/
def Far (b : Option Addr) (len g lo hi : Nat) : Prop := ∀ g' o', b = some ⟨g', o', none⟩ → g' ≠ g ∨ o' + len ≤ lo ∨ hi ≤ o'
theorem RowI.ovr {w w' : World} {b : Option Addr} {ys : List Int} {g lo hi : Nat} (h : RowI w b ys) (hf : Far b ys.length g lo hi) (ho : Ovr g lo hi w w') : RowI w' b ys := by
  rcases h with h | ⟨g', o', rfl, hr⟩
  · exact .inl h
  · refine .inr ⟨g', o', rfl, fun i z hz => ?_⟩
    have hi' := (List.getElem?_eq_some_iff.1 hz).1
    have h1 := hr i z hz
    by_cases hg : g' = g
    · subst hg
      rw [ho.cell (o' + i) ?_]
      · exact h1
      · rcases hf g' o' rfl with h2 | h2 | h2
        · exact absurd rfl h2
        · left; omega
        · right; omega
    · rw [World.cell?_of_block (w := w) (ho.block g' (lt_of_cell h1) hg)]
      exact h1

def gatL (xs ys : List Int) : List Int := List.zipWith max xs ys
theorem gatL_length (xs ys : List Int) (h : ys.length = xs.length) : (gatL xs ys).length = xs.length := by simp [gatL]; omega

set_option maxRecDepth 100000 in
set_option maxHeartbeats 1600000 in
theorem gather_any (g o c : Nat) (zs : List Int) (b : Option Addr) (c2 : Nat) (ys : List Int) (w : World) (hz : WrI w g o zs) (hy : RowI w b ys) (hf : Far b ys.length g o (o + zs.length)) (hl : ys.length = zs.length) (hm : zs.length ≤ 1048576) (hc : zs.length ≤ c) (hc2 : ys.length ≤ c2) :
    Calls Try.prog 47 #[.slice (some ⟨g, o, none⟩) zs.length c, .slice b ys.length c2] w fun r w' => r = .returned (.tuple #[]) ∧ WrI w' g o (gatL zs ys) ∧ Ovr g o (o + zs.length) w w' := by
  obtain ⟨G, hG⟩ : ∃ G, Hid (G = gatL zs ys) := ⟨_, (rfl : _ = gatL _ _)⟩
  rw [← hG.out]
  obtain ⟨n, hn⟩ : ∃ n, Hid (n = zs.length) := ⟨_, (rfl : zs.length = _)⟩
  have hn2 : Hid (n = ys.length) := hn.out.trans hl.symm
  rw [← hn2.out] at hc2 hf ⊢
  rw [← hn.out] at hm hc hf ⊢
  have HY : Hid (RowI w b ys ∧ Far b n g o (o + n)) := ⟨hy, hf⟩
  have HZ : Hid (WrI w g o zs) := hz
  clear hz hy hf hl
  go_enter Try.func47, Try.ntmps47
  go_wp2_with fail
  go_loopw [8] (fun t wr => ∃ (k : Nat) (us : List Int), k ≤ n ∧ t = .int .i64 k ∧ Hid (us.length = n ∧ (∀ q x y, q < k → zs[q]? = some x → ys[q]? = some y → us[q]? = some (max x y)) ∧ (∀ q, k ≤ q → us[q]? = zs[q]?)) ∧ Hid (WrI wr g o us) ∧ Hid (Ovr g o (o + n) w wr)) (fun t _ => n - (intOf t).toNat)
  case atStart => exact ⟨0, zs, Nat.zero_le _, rfl, ⟨hn.out.symm, fun q x y hq => by omega, fun q _ => rfl⟩, HZ.out, Ovr.refl ..⟩
  case round =>
    obtain ⟨k, us, hk, rfl, hU, hW, hO⟩ := hrel
    by_cases hlt : k < n
    · obtain ⟨x, hx⟩ : ∃ x, zs[k]? = some x := ⟨zs[k]'(by rw [← hn.out]; exact hlt), by rw [List.getElem?_eq_getElem]⟩
      obtain ⟨y, hy⟩ : ∃ x, ys[k]? = some x := ⟨ys[k]'(by rw [← hn2.out]; exact hlt), by rw [List.getElem?_eq_getElem]⟩
      have hux : us[k]? = some x := by rw [hU.out.2.2 k (Nat.le_refl _)]; exact hx
      have hku : k < us.length := by rw [hU.out.1]; exact hlt
      have q1 := hW.out.cell hux
      have q2 := hW.out.frozen (o + k)
      obtain ⟨g1, o1, rfl, q3⟩ := (RowI.ovr HY.out.1 (by rw [← hn2.out]; exact HY.out.2) hO.out).at k y hy
      obtain ⟨M, hM2⟩ : ∃ M, (if x < y then y else x) = M := ⟨_, rfl⟩
      have hM : M = max x y := by rw [← hM2]; split <;> omega
      have hW2 : Hid (WrI (wr.setCell ⟨g, o + k, none⟩ (.int .i64 M)) g o (us.set k M)) := hW.out.set hku M
      have hO2 : Hid (Ovr g o (o + n) w (wr.setCell ⟨g, o + k, none⟩ (.int .i64 M))) := hW.out.ovr hku hO.out (Nat.le_refl _) (by rw [hU.out.1]; exact Nat.le_refl _) _
      have hU2 : Hid ((us.set k M).length = n ∧ (∀ q x y, q < k + 1 → zs[q]? = some x → ys[q]? = some y → (us.set k M)[q]? = some (max x y)) ∧ (∀ q, k + 1 ≤ q → (us.set k M)[q]? = zs[q]?)) := by
        refine ⟨by rw [List.length_set]; exact hU.out.1, fun q u v hq hu hv => ?_, fun q hq => ?_⟩
        · by_cases hqk : q = k
          · subst hqk
            rw [List.getElem?_set_self hku, hM]
            rw [hx] at hu
            rw [hy] at hv
            cases hu
            cases hv
            rfl
          · rw [List.getElem?_set_ne (fun e => hqk e.symm)]
            exact hU.out.2.1 q u v (by omega) hu hv
        · rw [List.getElem?_set_ne (by omega)]
          exact hU.out.2.2 q (by omega)
      clear hU hW hO hx hy hux hku
      clear hM
      go_wp2
      go_roundw
      case rel => exact ⟨k + 1, us.set k M, by omega, by go_num, hU2.out, hW2.out, hO2.out⟩
      case measure => simp [intOf]; omega
    · have hGu : Hid (G = us) := by
        show G = us
        rw [hG.out, gatL]
        apply List.ext_getElem?
        intro q
        rcases Nat.lt_or_ge q n with hq | hq
        · have h1 : q < zs.length := by rw [← hn.out]; exact hq
          have h2 : q < ys.length := by rw [← hn2.out]; exact hq
          rw [hU.out.2.1 q _ _ (by omega) (List.getElem?_eq_getElem h1) (List.getElem?_eq_getElem h2)]
          simp [List.getElem?_zipWith, List.getElem?_eq_getElem h1, List.getElem?_eq_getElem h2]
        · rw [List.getElem?_eq_none (by simp; rw [← hn.out]; omega), List.getElem?_eq_none (by rw [hU.out.1]; exact hq)]
      go_wp2
      go_end0
      exact ⟨rfl, by rw [hGu.out]; exact hW.out, hO.out⟩
end Go.Proofs.Ytjedkfohmedmaaa
