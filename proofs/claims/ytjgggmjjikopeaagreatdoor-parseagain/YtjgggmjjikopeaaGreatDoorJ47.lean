/- Joined texts of the proof. -/
import Derived.Test.YtjgggmjjikopeaaGreatDoorJ46

/- The awake. -/
namespace Go.Proofs.YtjgggmjjikopeaaGreatDoor
open Go.RowKit
set_option linter.unusedVariables false

theorem parseA (w : World) (hE : ErrR w) : Calls Tryz.prog 13 #[.string ⟨#[97, 32, 45, 32, 98, 32, 45, 32, 99, 32, 42, 32, 45, 100]⟩] w fun r w' => ∃ y : ET, r = .returned (.tuple #[.agg y.cells.toArray, .agg (fa2 0 0).toArray]) ∧ mayE 32 y.ex = true ∧ exT y.ex = bytes ⟨#[40, 40, 97, 32, 45, 32, 98, 41, 32, 45, 32, 40, 99, 32, 42, 32, 45, 100, 41, 41]⟩ ∧ Tw w.heap.size w' y ∧ Below w.heap.size w w' := by
  refine (parseExpr_any ⟨#[97, 32, 45, 32, 98, 32, 45, 32, 99, 32, 42, 32, 45, 100]⟩ w (by decide) hE rsA evA).mono ?_
  rintro r w' ⟨y, rfl, hy, hT, hb⟩
  have h2 : (exO (bytes ⟨#[97, 32, 45, 32, 98, 32, 45, 32, 99, 32, 42, 32, 45, 100]⟩) rsA).2 = (0, 0) := exA_ev
  refine ⟨y, ?_, ?_, ?_, hT, hb⟩
  · rw [h2]
  · rw [hy]; exact exA_may
  · rw [hy]; exact exA_tx
theorem parseB (w : World) (hE : ErrR w) : Calls Tryz.prog 13 #[.string ⟨#[97, 32, 60, 32, 98, 32, 60, 32, 99]⟩] w fun r w' => ∃ y : ET, r = .returned (.tuple #[.agg y.cells.toArray, .agg (fa2 4 6).toArray]) ∧ y.ex = noX.ex ∧ Tw w.heap.size w' y ∧ Below w.heap.size w w' := by
  refine (parseExpr_any ⟨#[97, 32, 60, 32, 98, 32, 60, 32, 99]⟩ w (by decide) hE rsB evB).mono ?_
  rintro r w' ⟨y, rfl, hy, hT, hb⟩
  have h2 : exO (bytes ⟨#[97, 32, 60, 32, 98, 32, 60, 32, 99]⟩) rsB = (noX.ex, 4, 6) := exB_ev
  rw [h2] at hy ⊢
  exact ⟨y, rfl, hy, hT, hb⟩

set_option maxRecDepth 100000 in
set_option maxHeartbeats 3200000 in
theorem printed_yes (w : World) (hE : ErrR w) (hT : Tab w) (h16 : gB ≤ w.heap.size) :
    Calls Tryz.prog 36 #[.string ⟨#[97, 32, 45, 32, 98, 32, 45, 32, 99, 32, 42, 32, 45, 100]⟩, .string ⟨#[40, 40, 97, 32, 45, 32, 98, 41, 32, 45, 32, 40, 99, 32, 42, 32, 45, 100, 41, 41]⟩] w fun r w' => r = .returned (.bool true) ∧ Below w.heap.size w w' := by
  have HP := parseA w hE
  clear hE
  go_enter Tryz.func36, Tryz.ntmps36
  go_wp2_with (first
    | (go_at_call 13; refine HP.mono ?_; rintro _ w1 ⟨y, rfl, hm, hx, hTy, hb1⟩)
    | ((with_reducible show wpList _ _ _ _ _ _); refine wpList_alloc_at (o := { dst := some 5, .. }) rfl 43 rfl [.int .u8 0, .int .u8 0, .int .u64 0, .string ⟨#[]⟩, .slice none 0 0] 5 z29 ?_; intro w2 hA2 hb2 hs2; clear hs2)
    | ((with_reducible show wpList _ _ _ _ _ _); refine wpList_alloc_at (o := { dst := some 6, .. }) rfl 29 rfl (fa2 0 0) 2 z25 ?_; intro w3 hA3 hb3 hs3; clear hs3)
    | ((with_reducible show wpList _ _ _ _ _ _); refine wpList_store_at (P := Tryz.prog) rfl 43 (.tmp 5) (.tmp 12) rfl w1.heap.size y.cells rfl rfl 43 _ (hA2.below hb3) (i43 _) (len43 _) (ET.one _) ?_; intro w4 hA4 hb4 hs4; clear hs4; have hA34 := hb4.at hA3 (by have := hA2.lt; omega))
    | ((with_reducible show wpList _ _ _ _ _ _); refine wpList_store_at (P := Tryz.prog) rfl 29 (.tmp 6) (.tmp 13) rfl w2.heap.size (fa2 0 0) rfl rfl 29 _ hA34 i25 rfl (one2f _ _) ?_; intro w5 hA5 hb5 hs; clear hs; refine Hid.out ?_))
  refine hidU ?_
  have l1 := hb1.size
  have l2 := hA2.lt
  have l3 := hA3.lt
  have l4 := hb4.size
  have l5 := hb5.size
  have hB3 : Below w1.heap.size w1 w3 := hb2.trans (hb3.mono hb2.size)
  have hB5 : Below w1.heap.size w1 w5 := hb5.below (hb4.below hB3 (Nat.le_refl _) (by omega)) (by omega) (by omega)
  have hBw : Below w.heap.size w w5 := hb1.trans (hB5.mono l1)
  have hA45 := hb5.at hA4 (by omega)
  have hTy5 := hTy.below hB5
  have hlen : (exT y.ex).length ≤ 70368744177664 := by rw [hx]; decide
  have HX := expr4_any y w5.heap.size w5 hTy5.1.1 (Nat.le_refl _) (hT.below hBw h16) (Nat.le_trans h16 hBw.size) hlen
  rw [if_pos hm, if_pos hm, hx] at HX
  clear hA2 hA3 hA4 hA34 hb1 hb2 hb3 hb4 hb5 hB3 hTy hm hx hlen HP
  go_wp2_with (first
    | ((with_reducible show wpList _ _ _ _ _ _); refine wpList_load_at (P := Tryz.prog) rfl 43 (.tmp 5) rfl w1.heap.size rfl 43 y.cells hA45 _ Tryz.underlying43 rfl (i43 _) ?_)
    | (go_at_call 70; refine HX.mono ?_; rintro _ w6 ⟨rfl, hb6⟩; have hA56 := hA5.below hb6; obtain ⟨c0, c1⟩ := fa_cells hA56))
  go_ret
  refine ⟨?_, hBw.trans (hb6.mono hBw.size)⟩
  rfl

end Go.Proofs.YtjgggmjjikopeaaGreatDoor
