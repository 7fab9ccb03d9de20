/- assizekit.LentEvents and KeptEvents. -/
import Derived.Test.YtjedkfohmedmaaaCpy
import Derived.Deep.RegionHeld3
import Derived.Deep.DrawnRows
namespace Go.Proofs.Ytjedkfohmedmaaa
open Go.RowKit
set_option linter.unusedVariables false

theorem set3_take (cs : List Value) (p : Nat) (a b c : Value) (h : p + 3 ≤ cs.length) : (((cs.set p a).set (p + 1) b).set (p + 2) c).take (p + 3) = cs.take p ++ [a, b, c] := by
  apply List.ext_getElem?
  intro i
  rcases Nat.lt_or_ge i p with h1 | h1
  · rw [List.getElem?_take_of_lt (by omega), List.getElem?_append_left (by simp; omega), List.getElem?_set_ne (by omega), List.getElem?_set_ne (by omega), List.getElem?_set_ne (by omega), List.getElem?_take_of_lt h1]
  · rw [List.getElem?_append_right (by simp; omega)]
    have hl : (cs.take p).length = p := by simp; omega
    rw [hl]
    by_cases h2 : i < p + 3
    · rw [List.getElem?_take_of_lt h2]
      have hj : i = p ∨ i = p + 1 ∨ i = p + 2 := by omega
      rcases hj with rfl | rfl | rfl
      · rw [List.getElem?_set_ne (by omega), List.getElem?_set_ne (by omega), List.getElem?_set_self (by omega), Nat.sub_self]; rfl
      · rw [List.getElem?_set_ne (by omega), List.getElem?_set_self (by simp; omega), show p + 1 - p = 1 by omega]; rfl
      · rw [List.getElem?_set_self (by simp; omega), show p + 2 - p = 2 by omega]; rfl
    · rw [List.getElem?_eq_none (by simp; omega), List.getElem?_eq_none (by simp; omega)]
theorem one3 (a b c : Int) : ∀ v ∈ ([.int .i64 a, .int .i64 b, .int .i64 c] : List Value), v.oneCell' = true := by
  intro v hv
  simp at hv
  rcases hv with rfl | rfl | rfl <;> rfl
theorem one_flatE (es : List Ev) : ∀ v ∈ flatE es, v.oneCell' = true := by
  intro v hv
  obtain ⟨l, hl, hv⟩ := List.mem_flatten.1 hv
  obtain ⟨e, _, rfl⟩ := List.mem_map.1 hl
  exact one3 _ _ _ v hv
theorem setE_step (es : List Ev) (cs : List Value) (k : Nat) (hk : es.length ≤ k) (hk3 : k < es.length + 3) (hl : cs.length = (es.length + 3) * 3) (h : cs.take (k * 3) = flatE ((lentE es).take k)) :
    (((cs.set (k * 3) (.int .i64 77)).set (k * 3 + 1) (.int .i64 k)).set (k * 3 + 2) (.int .i64 0)).take ((k + 1) * 3) = flatE ((lentE es).take (k + 1)) := by
  rw [show (k + 1) * 3 = k * 3 + 3 by omega, set3_take cs (k * 3) _ _ _ (by omega), h]
  rw [List.take_add_one, lentE_spare es k hk hk3, flatE_append]
  rfl

set_option maxRecDepth 100000 in
set_option maxHeartbeats 1600000 in
theorem lentEvents_any (a : Option Addr) (cap : Nat) (es : List Ev) (w : World) (hrow : RowEv w a es) (hmax : es.length ≤ 1099511627776) :
    Calls Try.prog 6 #[.slice a es.length cap] w fun e w' => e = .returned (.slice (some ⟨w.heap.size, 0, none⟩) es.length (es.length + 3)) ∧ At 25 w' w.heap.size (flatE (lentE es)) ∧ Below w.heap.size w w' := by
  obtain ⟨i0, hi, hz0, hz1, hz2⟩ := info_parts Try.info25
  have hsz3 : (Try.prog.info? 25).map (·.size) = some 3 := by kernel_rfl
  obtain ⟨n, hn⟩ : ∃ n, Hid (n = es.length) := ⟨_, (rfl : es.length = _)⟩
  rw [← hn.out] at hmax ⊢
  have HR : Hid (RowEv w a es) := hrow
  clear hrow
  go_enter Try.func6, Try.ntmps6
  go_wp2_with (at_make; refine wpList_make_full _ rfl (.tmp 7) (.tmp 7) 22 rfl w.heap.size 25 i0 _ 3 Try.underlying22 hi hz0 hz1 .i64 .i64 _ _ (n + 3) rfl rfl (by omega) (by omega) (by rw [hz2]; omega) (by unfold maxLen; omega) (Nat.le_refl _) ?_)
  intro w1 hown hgrow
  have hb1 : Below w.heap.size w w1 := (Below.refl _ w).grown hgrow (Nat.le_refl _) (by intro k hk; cases hk)
  obtain ⟨L, hL, hblk⟩ : ∃ L : List Value, L.length = (n + 3) * 3 ∧ At 25 w1 w.heap.size L := by
    obtain ⟨_, ⟨h, _⟩ | ⟨g, cp, cur, h, hg, hh, _, _, hs, _⟩⟩ := hown
    · cases h
    · cases h
      exact ⟨cur.toList, by simpa using hs, by unfold At; rw [hh]⟩
  clear hown hgrow
  have hrow1 := HR.out.below hb1
  clear HR
  go_wp2_with (refine wpList_copy_wide rfl (.tmp 9) (.tmp 10) 22 22 rfl 25 Try.underlying22 3 hsz3 _ _ _ _ _ _ rfl rfl w.heap.size 0 L 25 hblk (flatE es) n (Nat.min_eq_left (by omega)).symm (by rw [flatE_length, hn.out]; omega) ?p1 (by rw [flatE_length, ← hn.out]; omega) (one_flatE es) w.heap.size w hb1 (Nat.le_refl _) ?_)
  case p1 =>
    intro hpos
    rcases hrow1 with h0 | ⟨b, off, rfl, hc⟩
    · rw [h0] at hn; have := hn.out; simp at this; omega
    · refine ⟨_, rfl, fun j v hj => ?_⟩
      have e : (⟨b, off, none⟩ : Addr).add j = ⟨b, off + j, none⟩ := by unfold Addr.add; split <;> simp_all
      have hj2 : j < 3 * es.length := by have := (List.getElem?_eq_some_iff.1 hj).1; rwa [flatE_length] at this
      have hq : j / 3 < es.length := by omega
      have hx := List.getElem?_eq_getElem hq
      have hj3 : j % 3 < (es[j / 3]).cells.length := by simp [Ev.cells]; omega
      have hy := flatE_at es (j / 3) _ hx (j % 3) _ (List.getElem?_eq_getElem hj3)
      rw [show j / 3 * 3 + j % 3 = j by omega, hj] at hy
      have hz := hc (j / 3) _ hx (j % 3) _ (List.getElem?_eq_getElem hj3)
      rw [e, ← (show off + j / 3 * 3 + j % 3 = off + j by omega), hz, ← hy]
  intro w2 hblk2 hb2
  obtain ⟨cs, hcs, hlen, hpre⟩ : ∃ cs : List Value, At 25 w2 w.heap.size cs ∧ cs.length = (n + 3) * 3 ∧ cs.take (n * 3) = flatE ((lentE es).take n) := by
    refine ⟨_, hblk2.out, ?_, ?_⟩
    · rw [length_splice _ _ _ (by rw [flatE_length, ← hn.out]; omega)]; exact hL
    · have e1 : n * 3 = (flatE es).length := by rw [flatE_length, hn.out]; omega
      have e2 : (lentE es).take n = es := by rw [hn.out]; simp [lentE]
      rw [e2, e1]
      simp [splice]
  clear hblk2 hblk hrow1 hb1 hL
  have HCS : Hid (At 25 w2 w.heap.size cs ∧ cs.length = (n + 3) * 3 ∧ cs.take (n * 3) = flatE ((lentE es).take n)) := ⟨hcs, hlen, hpre⟩
  clear hcs hlen hpre
  go_wp2
  go_loopw [4] (fun t wr => ∃ (k : Nat) (cs : List Value), n ≤ k ∧ k ≤ n + 3 ∧ t = .int .i64 k ∧ Hid (cs.length = (n + 3) * 3) ∧ Hid (cs.take (k * 3) = flatE ((lentE es).take k)) ∧ Hid (At 25 wr w.heap.size cs) ∧ Below w.heap.size w wr)
    (fun t _ => n + 3 - (intOf t).toNat)
  case atStart => exact ⟨n, cs, Nat.le_refl _, by omega, rfl, HCS.out.2.1, HCS.out.2.2, HCS.out.1, hb2⟩
  case round =>
    obtain ⟨k, cs', hk1, hk2, rfl, hl, hp, hbk, hbel⟩ := hrel
    clear HCS hb2
    by_cases hlt : k < n + 3
    · have HP : Hid _ := setE_step es cs' k (by rw [← hn.out]; exact hk1) (by rw [← hn.out]; exact hlt) (by rw [← hn.out]; exact hl.out) hp.out
      obtain ⟨c0, c1, c2, hc0, hc1, hc2⟩ : ∃ c0 c1 c2, wr.cell? ⟨w.heap.size, k * 3, none⟩ = some c0 ∧ wr.cell? ⟨w.heap.size, k * 3 + 1, none⟩ = some c1 ∧ wr.cell? ⟨w.heap.size, k * 3 + 2, none⟩ = some c2 := by
        have := hl.out
        exact ⟨_, _, _, (hbk.out.cell _).trans (List.getElem?_eq_getElem (by omega)), (hbk.out.cell _).trans (List.getElem?_eq_getElem (by omega)), (hbk.out.cell _).trans (List.getElem?_eq_getElem (by omega))⟩
      have hf0 := hbk.out.frozen (k * 3)
      have hf1 := hbk.out.frozen (k * 3 + 1)
      have hf2 := hbk.out.frozen (k * 3 + 2)
      go_wp2
      go_roundw
      case rel => exact ⟨k + 1, _, by omega, by omega, by go_num, by show _ = _; simp [List.length_set]; exact hl.out, HP.out, ((hbk.out.set _ _).set _ _).set _ _, ((hbel.setCell (Nat.le_refl _) _).setCell (Nat.le_refl _) _).setCell (Nat.le_refl _) _⟩
      case measure => simp [intOf]; omega
    · have HP : Hid (cs' = flatE (lentE es)) := by
        have h1 := hp.out
        have h2 := hl.out
        rw [List.take_of_length_le (by omega), List.take_of_length_le (by rw [lentE_length, ← hn.out]; omega)] at h1
        exact h1
      go_wp2
      go_ret
      exact ⟨rfl, by rw [← HP.out]; exact hbk.out, hbel⟩
end Go.Proofs.Ytjedkfohmedmaaa
