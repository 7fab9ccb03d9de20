/- J -/
import Derived.Test.YtjgggmjjikopeaaGreatDoorJ28
set_option linter.unusedVariables false
set_option maxRecDepth 100000
set_option maxHeartbeats 6400000
open Go.RowKit
namespace Go.Proofs.YtjgggmjjikopeaaGreatDoor
theorem zbk {B : Nat} (g : Nat) (L : List Tk) (a : Option Addr) (c k en er pl ne bl : Nat) (he : er ≠ 0) (w : World) (h : Qd B w g L a c k en er pl ne bl) (hBw : B <= w.heap.size) :
  Calls Tryz.prog 132 #[.pointer (some ⟨g, 0, none⟩)] w fun r w' => r = .returned (.tuple #[.agg (zy 0 0).toArray, .bool false]) /\ Qd B w' g L a c k en er pl ne bl /\ But g w w' := by
 have hA := h.cell
 have HQ : Hid (Qd B w g L a c k en er pl ne bl) := h
 have hokb : (decide (er = 0) && decide (pl = 0)) = false := by rw [zN he]; rfl
 clear h he
 generalize L.length = n at *
 go_enter Tryz.func132, Tryz.ntmps132
 go_wp2_with (first
  | (refine aL (o := { dst := some 2, .. }) rfl rfl z32 ?_; intro w1 hA1 hb1; refine zb ?_))
 refine zd ?_
 have l1 := hA1.lt
 have hA := hA.below hb1
 have hO := fun m => zJ g n a c k en er pl ne bl (w1.drewN m) (hA.drewN m)
 rw [hokb] at hO
 obtain ⟨q0, q1, q2, q3, q4, q5, q6⟩ := zv hA
 go_wp2_with fail
 go_quiet (first | (go_at_call 30; exact Calls.quiet_of_same (hO _)))
 clear q0 q1 q2 q3 q4 q5 q6 hO
 obtain ⟨w2, hw2⟩ : ∃ x, x = w1.drewN nq := ⟨_, rfl⟩
 have hb2 : Below w1.heap.size w1 w2 := by rw [hw2]; exact below_drewN w1 nq
 have hZ2 := hA1.below hb2
 rw [<- hw2]
 clear hw2
 go_wp2_with (first
  | (refine zF rfl rfl (zy 0 0) ?_)
  | (refine sL rfl rfl hZ2 (zy 0 0) rfl rfl i32 rfl (yj _ _) ?_; intro w9 hA9 hb9))
 refine zr (zx rfl _ _ w.heap.size 40 (zy 0 0) _ rfl hA9 Tryz.underlying40 rfl i32) rfl ?_
 have hB2 : Below w.heap.size w w2 := hb1.trans (hb2.mono hb1.size)
 exact ⟨rfl, (HQ.out.below hB2).but hb9 hBw, (But.of_below hB2).fresh hb9 (zj _)⟩
theorem zbj {B : Nat} (g : Nat) (L : List Tk) (a : Option Addr) (c k en ne bl : Nat) (hk : ¬ k < L.length) (w : World) (h : Qd B w g L a c k en 0 0 ne bl) (hBw : B <= w.heap.size) :
  Calls Tryz.prog 132 #[.pointer (some ⟨g, 0, none⟩)] w fun r w' => r = .returned (.tuple #[.agg (zy 0 0).toArray, .bool false]) /\ Qd B w' g L a c k en 0 0 ne bl /\ But g w w' := by
 have hA := h.cell
 have HQ : Hid (Qd B w g L a c k en 0 0 ne bl) := h
 have hlen := h.len
 have hokb : (decide ((0 : Nat) = 0) && decide ((0 : Nat) = 0)) = true := rfl
 clear h
 generalize L.length = n at *
 go_enter Tryz.func132, Tryz.ntmps132
 go_wp2_with (first
  | (refine aL (o := { dst := some 2, .. }) rfl rfl z32 ?_; intro w1 hA1 hb1; refine zb ?_))
 refine zd ?_
 have l1 := hA1.lt
 have hA := hA.below hb1
 have hO := fun m => zJ g n a c k en 0 0 ne bl (w1.drewN m) (hA.drewN m)
 have hO : ∀ m, Calls Tryz.prog 30 #[.pointer (some ⟨g, 0, none⟩)] (w1.drewN m) fun r w' => r = .returned (.bool true) /\ w' = w1.drewN m := hO
 obtain ⟨q0, q1, q2, q3, q4, q5, q6⟩ := zv hA
 go_wp2_with fail
 go_quiet (first | (go_at_call 30; exact Calls.quiet_of_same (hO _)))
 clear q0 q1 q2 q3 q4 q5 q6 hO
 obtain ⟨w2, hw2⟩ : ∃ x, x = w1.drewN nq := ⟨_, rfl⟩
 have hb2 : Below w1.heap.size w1 w2 := by rw [hw2]; exact below_drewN w1 nq
 have hZ2 := hA1.below hb2
 rw [<- hw2]
 clear hw2
 go_wp2_with (first
  | (refine zF rfl rfl (zy 0 0) ?_)
  | (refine sL rfl rfl hZ2 (zy 0 0) rfl rfl i32 rfl (yj _ _) ?_; intro w9 hA9 hb9))
 refine zr (zx rfl _ _ w.heap.size 40 (zy 0 0) _ rfl hA9 Tryz.underlying40 rfl i32) rfl ?_
 have hB2 : Below w.heap.size w w2 := hb1.trans (hb2.mono hb1.size)
 exact ⟨rfl, (HQ.out.below hB2).but hb9 hBw, (But.of_below hB2).fresh hb9 (zj _)⟩
theorem jn {B : Nat} (g : Nat) (L : List Tk) (a : Option Addr) (c k en ne bl : Nat) (hok : ∀ t ∈ L, Zd t) (w : World) (h : Qd B w g L a c k en 0 0 ne bl) (hBw : B <= w.heap.size) :
  Calls Tryz.prog 132 #[.pointer (some ⟨g, 0, none⟩)] w fun r w' => r = .returned (.tuple #[.agg (zy (JU (zW (hdT (za L k en)))).1 (JU (zW (hdT (za L k en)))).2).toArray, .bool (zW (hdT (za L k en))).isSome]) /\ Qd B w' g L a c (if (zW (hdT (za L k en))).isSome = true then k + 1 else k) en 0 0 ne bl /\ But g w w' := by
 by_cases hk : k < L.length
 ·obtain ⟨gt, t, rfl, ht, -, hd, -⟩ := Kh h hk
  rw [hd]
  exact zcQ g gt L c k en ne bl t ht (hok t (List.mem_of_getElem? ht)) w h hBw
 ·have hd : hdT (za L k en) = ⟨0, [], en, 0⟩ := by rw [Zn (by omega)]; rfl
  rw [hd]
  exact zbj g L a c k en ne bl hk w h hBw
