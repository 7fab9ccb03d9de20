/- clock.cut: a memory cut into clocks. -/
import Derived.Test.YtjedkfohmedmaaaCkF
namespace Go.Proofs.Ytjedkfohmedmaaa
open Go.RowKit
set_option linter.unusedVariables false
attribute [local go_sem ↓] Go.wp_at_zero Go.wp_at_succ

/-- 'b[a:a+n:a+n]' of numbers. -/
theorem runI_slice_cut (w : World) (g len cap a n : Nat) (x y : Int) (hx : x = (a : Int)) (hy : y = ((a + n : Nat) : Int)) (hn : 0 < n) (hh : a + n ≤ cap) :
    (Instr.slice 26 (.slice (some ⟨g, 0, none⟩) len cap) (some (.int .i64 x)) (some (.int .i64 y)) (some (.int .i64 y))).run Try.prog w = .ok (.slice (some ⟨g, a, none⟩) n n) w := by
  have he : Try.prog.elem 26 = 3 := by simp [Program.elem, Try.underlying26]
  rw [run_slice_lhm w 26 (some ⟨g, 0, none⟩) len cap (by rw [he]; exact Try.underlying26) .i64 .i64 .i64 x y y (by omega) (by omega) (by omega) (by omega), he, size3]
  simp only [Result.andThen, sliced]
  rw [show x.toNat = a by omega, show y.toNat = a + n by omega]
  simp [add_none]
  omega

/-- A memory in block g, cut. -/
def cutV (g n m : Nat) : List Value := (List.range m).map fun i => .slice (some ⟨g, i * n, none⟩) n n
theorem cutV_length (g n m : Nat) : (cutV g n m).length = m := by simp [cutV]
theorem cutV_at {g n m i : Nat} (h : i < m) : (cutV g n m)[i]? = some (.slice (some ⟨g, i * n, none⟩) n n) := by simp [cutV, h]

set_option maxRecDepth 100000 in
set_option maxHeartbeats 1600000 in
theorem cut_any (g n m : Nat) (w : World) (hn1 : 0 < n) (hn2 : n ≤ 16) (hm : m ≤ 1025) :
    Calls Try.prog 45 #[.slice (some ⟨g, 0, none⟩) (m * n) (m * n), .int .i64 n] w fun r w' => r = .returned (.slice (some ⟨w.heap.size, 0, none⟩) m m) ∧ At 26 w' w.heap.size (cutV g n m) ∧ Below w.heap.size w w' := by
  obtain ⟨i0, hi, hz0, hz1, hz2⟩ := info_parts Try.info26
  obtain ⟨L, hL⟩ : ∃ L, L = m * n := ⟨_, rfl⟩
  have hLm : Hid (∀ i, i < m → i * n + n ≤ L) := fun i him => by rw [hL, ← Nat.succ_mul]; exact Nat.mul_le_mul_right n him
  have hLb : L ≤ 16400 := by rw [hL]; exact Nat.mul_le_mul hm hn2
  have hq : ((L : Int)) / (n : Int) = (m : Int) := by
    rw [hL, Int.natCast_mul]
    exact Int.mul_ediv_cancel _ (by omega)
  have hwq : wrap64 (((L : Int)) / (n : Int)) = (m : Int) := by rw [hq]; unfold wrap64; omega
  have hn0 : ((n : Int) == 0) = false := by rw [beq_eq_false_iff_ne]; omega
  rw [← hL]
  clear hL hq
  go_enter Try.func45, Try.ntmps45
  go_wp2_with (at_make; refine wpList_make_full _ rfl (.tmp 10) (.tmp 10) 23 rfl w.heap.size 26 i0 (.slice none 0 0) 1 Try.underlying23 hi hz0 hz1 .i64 .i64 _ _ m rfl rfl hwq hwq (by rw [hz2]; omega) (by unfold maxLen; omega) (Nat.le_refl _) ?_)
  intro w1 hown1 hgrow1
  have hb1 : Hid (Below w.heap.size w w1) := (Below.refl _ w).grown hgrow1 (Nat.le_refl _) (by intro k hk; cases hk)
  have hA1 : Hid (∃ cs : List Value, cs.length = m ∧ At 26 w1 w.heap.size cs) := by
    obtain ⟨_, ⟨h, _⟩ | ⟨g, cp, cur, h, hg, hh, _, _, hs, ht⟩⟩ := hown1
    · cases h
    · cases h
      exact ⟨cur.toList, by simpa using hs, by unfold At; rw [hh]⟩
  clear hown1 hgrow1 hwq hn0
  go_wp2_with fail
  go_loopw [14] (fun t wr => ∃ (k : Nat) (cs : List Value), k ≤ m ∧ t = .int .i64 k ∧ Hid (cs.length = m ∧ ∀ q, q < k → cs[q]? = some (.slice (some ⟨g, q * n, none⟩) n n)) ∧ Hid (At 26 wr w.heap.size cs) ∧ Hid (Below w.heap.size w wr)) (fun t _ => m - (intOf t).toNat)
  case atStart =>
    obtain ⟨cs, h1, h2⟩ := hA1.out
    exact ⟨0, cs, Nat.zero_le _, rfl, ⟨h1, fun q hq => by omega⟩, h2, hb1.out⟩
  case round =>
    obtain ⟨k, cs, hk, rfl, hC, hA, hB⟩ := hrel
    clear hA1 hb1
    by_cases hlt : k < m
    · obtain ⟨A, hAA⟩ : ∃ A, A = k * n := ⟨_, rfl⟩
      have hA2 : A + n ≤ L := by rw [hAA]; exact hLm.out k hlt
      have hkc : k < cs.length := by rw [hC.out.1]; exact hlt
      obtain ⟨v, hv⟩ : ∃ v, cs[k]? = some v := ⟨cs[k], List.getElem?_eq_getElem hkc⟩
      have q1 : wr.cell? ⟨w.heap.size, k, none⟩ = some v := by rw [hA.out.cell]; exact hv
      have q2 := hA.out.frozen k
      have hw1 : IntKind.i64.wrap ((k : Int) * (n : Int)) = (A : Int) := by
        rw [show ((k : Int) * (n : Int)) = (A : Int) by rw [hAA, Int.natCast_mul], IntKind.wrap_i64]
        omega
      have hw2 : IntKind.i64.wrap (((k : Int) + 1) * (n : Int)) = ((A + n : Nat) : Int) := by
        rw [show (((k : Int) + 1) * (n : Int)) = ((A + n : Nat) : Int) by rw [hAA, Int.add_mul, Int.natCast_add, Int.natCast_mul]; omega, IntKind.wrap_i64]
        omega
      have hsl := runI_slice_cut wr g L L A n (A : Int) ((A + n : Nat) : Int) rfl rfl hn1 hA2
      have hC2 : Hid ((cs.set k (.slice (some ⟨g, A, none⟩) n n)).length = m ∧ ∀ q, q < k + 1 → (cs.set k (.slice (some ⟨g, A, none⟩) n n))[q]? = some (.slice (some ⟨g, q * n, none⟩) n n)) := by
        refine ⟨by rw [List.length_set]; exact hC.out.1, fun q hq => ?_⟩
        by_cases hqk : q = k
        · subst hqk
          rw [List.getElem?_set_self hkc, hAA]
        · rw [List.getElem?_set_ne (fun e => hqk e.symm)]
          exact hC.out.2 q (by omega)
      have hA3 : Hid (At 26 (wr.setCell ⟨w.heap.size, k, none⟩ (.slice (some ⟨g, A, none⟩) n n)) w.heap.size (cs.set k (.slice (some ⟨g, A, none⟩) n n))) := hA.out.set k _
      have hB3 : Hid (Below w.heap.size w (wr.setCell ⟨w.heap.size, k, none⟩ (.slice (some ⟨g, A, none⟩) n n))) := hB.out.setCell (Nat.le_refl _) _
      clear hC hA hB hAA hv
      go_wp2_with fail
      go_roundw
      case rel => exact ⟨k + 1, _, by omega, by go_num, hC2.out, hA3.out, hB3.out⟩
      case measure => simp [intOf]; omega
    · have hcs : Hid (cs = cutV g n m) := by
        show cs = _
        apply List.ext_getElem?
        intro q
        rcases Nat.lt_or_ge q m with hq | hq
        · rw [hC.out.2 q (by omega), cutV_at hq]
        · rw [List.getElem?_eq_none (by rw [hC.out.1]; exact hq), List.getElem?_eq_none (by rw [cutV_length]; exact hq)]
      go_wp2_with fail
      go_ret
      exact ⟨rfl, by rw [← hcs.out]; exact hA.out, hB.out⟩
end Go.Proofs.Ytjedkfohmedmaaa
