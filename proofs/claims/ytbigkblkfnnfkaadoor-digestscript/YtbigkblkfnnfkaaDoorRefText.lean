/- assizeref02.digit and Text: the digits of a digest. -/
import Derived.Test.YtbigkblkfnnfkaaDoorRefJoin
namespace Go.Proofs.YtbigkblkfnnfkaaDoor
open Go.RowKit
set_option linter.unusedVariables false
attribute [local go_sem ↓] Go.wp_at_zero Go.wp_at_succ

set_option maxRecDepth 100000 in
theorem digit_lit (n : Nat) (z : Int) (hz : z = (n : Int)) (hn : n < 16) (w : World) :
    Calls Tryd.prog 41 #[.int .u8 z] w fun e w' => e = .returned (.int .u8 (hdN n : Nat)) ∧ w' = w := by
  subst hz
  by_cases h : n < 10
  · have hd : Hid ((hdN n : Int) = 48 + (n : Int)) := by unfold hdN; rw [if_pos h]; show _ = _; omega
    have t : decide ((n : Int) < 10) = true := decide_eq_true (by omega)
    have hw : (48 + (n : Int)) % 256 = 48 + (n : Int) := by omega
    go_enter Tryd.func41, Tryd.ntmps41
    go_wp2
    go_ret
    exact ⟨by rw [hd.out]; simp, rfl⟩
  · have hd : Hid ((hdN n : Int) = 87 + (n : Int)) := by unfold hdN; rw [if_neg h]; show _ = _; omega
    have t : decide ((n : Int) < 10) = false := decide_eq_false (by omega)
    have hw1 : (97 + (n : Int)) % 256 = 97 + (n : Int) := by omega
    have hw2 : (97 + (n : Int) - 10) % 256 = 87 + (n : Int) := by omega
    go_enter Tryd.func41, Tryd.ntmps41
    go_wp2
    go_ret
    exact ⟨by rw [hd.out]; simp; omega, rfl⟩

set_option maxRecDepth 100000 in
set_option maxHeartbeats 1600000 in
theorem refText_lit (bs : List UInt8) (tx : List UInt8) (htx : Hid (hexOf bs = tx)) (w : World) (h32 : bs.length = 32) :
    Calls Tryd.prog 20 #[.agg (bs.map B8).toArray] w fun e w' => e = .returned (.string ⟨tx.toArray⟩) ∧ Below w.heap.size w w' := by
  go_enter Tryd.func20, Tryd.ntmps20
  go_wp2_with (first | ((with_reducible show wpList _ _ _ _ _ _); refine wpList_box_at rfl 25 (.tmp 0) rfl (bs.map B8) rfl ?_; intro w1 hA1 hb1 hs1))
  go_loopw [3, 4] (fun v i wr => ∃ (k : Nat) (out : List UInt8), k ≤ 32 ∧ i = .int .i64 k ∧ out.length = 2 * k ∧ Hid (out = hexOf (bs.take k)) ∧ Own (w.heap.size + 1) wr v out ∧ At 25 wr w.heap.size (bs.map B8) ∧ Below w.heap.size w wr ∧ w.heap.size + 1 ≤ wr.heap.size) (fun _ i _ => 32 - (intOf i).toNat)
  case atStart => exact ⟨0, [], Nat.zero_le _, rfl, rfl, rfl, Own.nil _ _, hA1, hb1, by omega⟩
  case round =>
    obtain ⟨k, out, hk, rfl, hol, hout, hown, hA, hbel, hbz⟩ := hrel
    have HOL : Hid (out.length = 2 * k) := hol
    have hol2 : out.length ≤ 1099511627776 := by omega
    clear hol hA1 hb1 hs1
    by_cases hlt : k < 32
    · obtain ⟨c, hcn⟩ : ∃ c, c = (bs.getD k 0).toNat := ⟨_, rfl⟩
      have hc256 : c < 256 := by rw [hcn]; exact UInt8.toNat_lt _
      have hcell : wr.cell? ⟨w.heap.size, k, none⟩ = some (.int .u8 (c : Int)) := by rw [hA.cell, hcn]; simp [B8, List.getD, List.getElem?_eq_getElem (show k < bs.length by omega)]
      have hcellD : wr.drew.cell? ⟨w.heap.size, k, none⟩ = some (.int .u8 (c : Int)) := hcell
      have hcA : Hid (∀ o : Obj, (wr.alloc o).cell? ⟨w.heap.size, k, none⟩ = some (.int .u8 (c : Int))) := fun o => by rw [World.cell?_alloc_past _ _ _ (lt_of_cell hcell)]; exact hcell
      have HO : Hid (out ++ [ub (hdN (c / 16)), ub (hdN (c % 16))] = hexOf (bs.take (k + 1))) := by show _ = _; rw [hexOf_take bs k (by omega), hout.out, hcn]
      clear hcn hout
      have i1 : (0 : Int) ≤ (c : Int) / 16 := by omega
      have i2 : (c : Int) / 16 < 16 := by omega
      have i3 : (0 : Int) ≤ (c : Int) % 16 := by omega
      have i4 : (c : Int) % 16 < 16 := by omega
      have i5 : IntKind.u8.wrap ((c : Int) / 16) = (c : Int) / 16 := by unfold IntKind.wrap; simp [IntKind.signed, IntKind.bits]; omega
      have i6 : (c : Int).tmod 16 = (c : Int) % 16 := Int.tmod_eq_emod_of_nonneg (by omega)
      have i7 : IntKind.u8.wrap ((c : Int) % 16) = (c : Int) % 16 := by unfold IntKind.wrap; simp [IntKind.signed, IntKind.bits]; omega
      go_wp2_with fail
      go_region_held3 (fun w' => w'.cell? ⟨w.heap.size, k, none⟩ = some (.int .u8 (c : Int))) (first | exact hc9 | exact hcellD | exact hcA.out _) (first | (go_at_call 41; refine (digit_lit (c / 16) _ (by omega) (by omega) _).mono ?_; rintro e w9 ⟨rfl, hw9⟩; have hw9' := hw9.symm; subst hw9') | (go_at_call 41; refine (digit_lit (c % 16) _ (by omega) (by omega) _).mono ?_; rintro e w9 ⟨rfl, hw9⟩; have hw9' := hw9.symm; subst hw9') | (refine step_app2 (.tmp 9) (.tmp 20) _ _ (hdN (c / 16)) (hdN (c % 16)) (w.heap.size + 1) _ out (by rfl) (by rfl) (by rfl) (by rfl) hown (hdN_lt _ (by omega)) (hdN_lt _ (by omega)) rfl rfl hol2 hbz ?_; intro g cap' w1 hown' hbel'; have hc9 : w1.cell? ⟨w.heap.size, k, none⟩ = some (.int .u8 (c : Int)) := by rw [hbel'.cell (by show w.heap.size < _; omega)]; exact hcell) | fail)
      all_goals
        have hb1 := hbel.trans (hbel'.mono (by omega))
        have hA1 : At 25 w1 w.heap.size (bs.map B8) := by unfold At; rw [hbel'.block _ (by omega)]; exact hA
        have hz1 := Nat.le_trans hbz hbel'.size
        clear hown hbel hbel' hA hbz
        go_wp2
        go_roundw
        case rel => exact ⟨k + 1, _, by omega, by go_num, by have := HOL.out; simp; omega, HO, hown', hA1, hb1, hz1⟩
        case measure => simp [intOf]; omega
    · obtain ⟨a2, cap2, rfl, hle2, hmx2, hrow2⟩ := hown.row
      have hcs := conv_row hrow2 cap2
      have HO : Hid (out = tx) := by show _ = _; rw [hout.out, List.take_of_length_le (by omega)]; exact htx.out
      clear hown hrow2 hout
      go_wp2
      go_ret
      exact ⟨by rw [← HO.out]; rfl, hbel⟩
end Go.Proofs.YtbigkblkfnnfkaaDoor
