/- J -/
import Derived.Test.YtjgggmjjikopeaaGreatDoorJ36
set_option linter.unusedVariables false
set_option maxRecDepth 100000
set_option maxHeartbeats 6400000
open Go.RowKit
namespace Go.Proofs.YtjgggmjjikopeaaGreatDoor
theorem zby (l : List UInt8) (h : (y9 l).err = 0) : (y9 l).place = 0 := by
 unfold y9 at h ⊢
 split
 ·next hc => rw [zi hc] at h; cases h
 ·next hc => rw [ze hc] at h; exact Vn _ _ _ h


def txA : List UInt8 := [97, 32, 45, 32, 98, 32, 45, 32, 99, 32, 42, 32, 45, 100]
def txB : List UInt8 := [97, 32, 60, 32, 98, 32, 60, 32, 99]
def rsA : Rs Ex := (y6 60 1 0 (yK txA)).getD (.bad 0 0)
def rsB : Rs Ex := (y6 60 1 0 (yK txB)).getD (.bad 0 0)
theorem getD_some {α : Type} {o : Option α} {d : α} (h : o.isSome = true) : o = some (o.getD d) := by
 cases o with
 | none => cases h
 | some x => rfl
theorem evA : ∃ f, y6 f 1 0 (yK txA) = some rsA := ⟨60, getD_some (by kernel_rfl)⟩
theorem evB : ∃ f, y6 f 1 0 (yK txB) = some rsB := ⟨60, getD_some (by kernel_rfl)⟩
theorem zgL : exO txB rsB = (noX.ex, 4, 6) := by kernel_rfl
theorem zgN : (exO txA rsA).2 = (0, 0) := by kernel_rfl
theorem zgM : exT (exO txA rsA).1 = [40, 40, 97, 32, 45, 32, 98, 41, 32, 45, 32, 40, 99, 32, 42, 32, 45, 100, 41, 41] := by kernel_rfl
theorem zfJ : Z6 32 (exO txA rsA).1 = true := by kernel_rfl
mutual
theorem ji : ∀ x : Ex, XE x x = true
 | .mk op t b nm ks => by simp [XE, samL_refl ks]
theorem samL_refl : ∀ xs : List Ex, samL xs xs = true
 | [] => by simp [samL]
 | x :: r => by simp [samL, ji x, samL_refl r]
end
theorem zgr (w : World) (hE : ErrR w) : Calls Tryz.prog 13 #[.string ⟨#[97, 32, 45, 32, 98, 32, 45, 32, 99, 32, 42, 32, 45, 100]⟩] w fun r w' => ∃ y : ET, r = .returned (.tuple #[.agg y.cells.toArray, .agg (fa2 0 0).toArray]) /\ Z6 32 y.ex = true /\ exT y.ex = bytes ⟨#[40, 40, 97, 32, 45, 32, 98, 41, 32, 45, 32, 40, 99, 32, 42, 32, 45, 100, 41, 41]⟩ /\ Tw w.heap.size w' y /\ Below w.heap.size w w' := by
 refine (Vh ⟨#[97, 32, 45, 32, 98, 32, 45, 32, 99, 32, 42, 32, 45, 100]⟩ w (by decide) hE rsA evA).mono ?_
 rintro r w' ⟨y, rfl, hy, hT, hb⟩
 have h2 : (exO (bytes ⟨#[97, 32, 45, 32, 98, 32, 45, 32, 99, 32, 42, 32, 45, 100]⟩) rsA).2 = (0, 0) := zgN
 refine ⟨y, ?_, ?_, ?_, hT, hb⟩
 ·rw [h2]
 ·rw [hy]; exact zfJ
 ·rw [hy]; exact zgM
theorem zgq (w : World) (hE : ErrR w) : Calls Tryz.prog 13 #[.string ⟨#[97, 32, 60, 32, 98, 32, 60, 32, 99]⟩] w fun r w' => ∃ y : ET, r = .returned (.tuple #[.agg y.cells.toArray, .agg (fa2 4 6).toArray]) /\ y.ex = noX.ex /\ Tw w.heap.size w' y /\ Below w.heap.size w w' := by
 refine (Vh ⟨#[97, 32, 60, 32, 98, 32, 60, 32, 99]⟩ w (by decide) hE rsB evB).mono ?_
 rintro r w' ⟨y, rfl, hy, hT, hb⟩
 have h2 : exO (bytes ⟨#[97, 32, 60, 32, 98, 32, 60, 32, 99]⟩) rsB = (noX.ex, 4, 6) := zgL
 rw [h2] at hy ⊢
 exact ⟨y, rfl, hy, hT, hb⟩
theorem zan (w : World) (hE : ErrR w) (hT : Tab w) (h16 : gB <= w.heap.size) :
  Calls Tryz.prog 36 #[.string ⟨#[97, 32, 45, 32, 98, 32, 45, 32, 99, 32, 42, 32, 45, 100]⟩, .string ⟨#[40, 40, 97, 32, 45, 32, 98, 41, 32, 45, 32, 40, 99, 32, 42, 32, 45, 100, 41, 41]⟩] w fun r w' => r = .returned (.bool true) /\ Below w.heap.size w w' := by
 have HP := zgr w hE
 clear hE
 go_enter Tryz.func36, Tryz.ntmps36
 go_wp2_with (first
  | (go_at_call 13; refine HP.mono ?_; rintro _ w1 ⟨y, rfl, hm, hx, hTy, hb1⟩)
  | (refine aL (o := { dst := some 5, .. }) rfl rfl z29 ?_; intro w2 hA2 hb2)
  | (refine aL (o := { dst := some 6, .. }) rfl rfl z25 ?_; intro w3 hA3 hb3)
  | (refine sL rfl rfl (hA2.below hb3) y.cells rfl rfl (i43 _) (yP _) (ET.one _) ?_; intro w4 hA4 hb4; have hA34 := hb4.at hA3 (by have := hA2.lt; omega))
  | (refine sL rfl rfl hA34 (fa2 0 0) rfl rfl i25 rfl (yq _ _) ?_; intro w5 hA5 hb5; refine zb ?_))
 refine zd ?_
 have l1 := hb1.size
 have l2 := hA2.lt
 have l3 := hA3.lt
 have l4 := hb4.size
 have l5 := hb5.size
 have hB3 : Below w1.heap.size w1 w3 := hb2.trans (hb3.mono hb2.size)
 have hB5 : Below w1.heap.size w1 w5 := hb5.below (hb4.below hB3 (zj _) (by omega)) (by omega) (by omega)
 have hBw : Below w.heap.size w w5 := hb1.trans (hB5.mono l1)
 have hA45 := hb5.at hA4 (by omega)
 have hTy5 := hTy.below hB5
 have hlen : (exT y.ex).length <= 70368744177664 := by rw [hx]; decide
 have HX := zdg y w5.heap.size w5 hTy5.1.1 (zj _) (hT.below hBw h16) (zQ h16 hBw.size) hlen
 rw [zi hm, zi hm, hx] at HX
 clear hA2 hA3 hA4 hA34 hb1 hb2 hb3 hb4 hb5 hB3 hTy hm hx hlen HP
 go_wp2_with (first
  | (refine lL rfl rfl hA45 rfl zR rfl (i43 _) ?_)
  | (go_at_call 70; refine HX.mono ?_; rintro _ w6 ⟨rfl, hb6⟩; have hA56 := hA5.below hb6; obtain ⟨c0, c1⟩ := y8 hA56))
 go_ret
 refine ⟨?_, hBw.trans (hb6.mono hBw.size)⟩
 rfl
theorem zda (w : World) (hE : ErrR w) :
  Calls Tryz.prog 16 #[.string ⟨#[97, 32, 60, 32, 98, 32, 60, 32, 99]⟩, .bool false, .int .i64 4, .int .i64 6] w fun r w' => r = .returned (.bool true) /\ Below w.heap.size w w' := by
 have HP := zgq w hE
 clear hE
 go_enter Tryz.func16, Tryz.ntmps16
 go_wp2_with (first
  | (go_at_call 13; refine HP.mono ?_; rintro _ w1 ⟨y, rfl, hy, hTy, hb1⟩)
  | (refine aL (o := { dst := some 11, .. }) rfl rfl z29 ?_; intro w2 hA2 hb2)
  | (refine aL (o := { dst := some 12, .. }) rfl rfl z25 ?_; intro w3 hA3 hb3)
  | (refine sL rfl rfl (hA2.below hb3) y.cells rfl rfl (i43 _) (yP _) (ET.one _) ?_; intro w4 hA4 hb4; have hA34 := hb4.at hA3 (by have := hA2.lt; omega))
  | (refine sL rfl rfl hA34 (fa2 4 6) rfl rfl i25 rfl (yq _ _) ?_; intro w5 hA5 hb5; refine zb ?_))
 refine zd ?_
 have l1 := hb1.size
 have l2 := hA2.lt
 have l3 := hA3.lt
 have l4 := hb4.size
 have l5 := hb5.size
 have hB3 : Below w1.heap.size w1 w3 := hb2.trans (hb3.mono hb2.size)
 have hB5 : Below w1.heap.size w1 w5 := hb5.below (hb4.below hB3 (zj _) (by omega)) (by omega) (by omega)
 have hBw : Below w.heap.size w w5 := hb1.trans (hB5.mono l1)
 have hA45 := hb5.at hA4 (by omega)
 obtain ⟨c0, c1⟩ := y8 hA5
 obtain ⟨op, t, b, nm, a, c, ks⟩ := y
 have hop : op = 0 := by
  have := congrArg (fun x : Ex => match x with | .mk op _ _ _ _ => op) hy
  simpa [ET.ex, noX] using this
 subst hop
 have d0 : w5.cell? ⟨w1.heap.size, 0, none⟩ = some (.int .u8 0) := by rw [hA45.cell]; rfl
 clear hA2 hA3 hA4 hA34 hb1 hb2 hb3 hb4 hb5 hB3 hTy HP hy hA45 hA5
 go_wp2
 go_ret
 refine ⟨?_, hBw⟩
 rfl
theorem zgS (w : World) (hE : ErrR w) (hT : Tab w) (h16 : gB <= w.heap.size) : Calls Tryz.prog 12 #[] w fun r w' => r = .returned (.bool true) /\ Below w.heap.size w w' := by
 have HP := zan w hE hT h16
 go_enter Tryz.func12, Tryz.ntmps12
 go_wp2_with (first
  | (go_at_call 36; refine HP.mono ?_; rintro _ w1 ⟨rfl, hb1⟩)
  | (go_at_call 16; refine (zda w1 (hE.below hb1)).mono ?_; rintro _ w2 ⟨rfl, hb2⟩))
 go_ret
 exact ⟨rfl, hb1.trans (hb2.mono hb1.size)⟩
