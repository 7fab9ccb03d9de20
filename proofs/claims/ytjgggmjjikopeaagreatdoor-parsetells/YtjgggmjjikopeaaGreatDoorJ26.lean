/- J -/
import Derived.Test.YtjgggmjjikopeaaGreatDoorJ25
set_option linter.unusedVariables false
set_option maxRecDepth 100000
open Go.RowKit
namespace Go.Proofs.YtjgggmjjikopeaaGreatDoor
theorem jU {w : World} {g o : Nat} {K : Nat} {S : ByteArray} {p vt b : Nat} (h : w.rangeAt g o (zm K S p vt b)) : w.cell? ⟨g, o, none⟩ = some (.int .i64 (K : Int)) /\ w.cell? ⟨g, o + 1, none⟩ = some (.string S) /\ w.cell? ⟨g, o + 2, none⟩ = some (.int .i64 (p : Int)) /\ w.cell? ⟨g, o + 3, none⟩ = some (.int .u8 (vt : Int)) /\ w.cell? ⟨g, o + 4, none⟩ = some (.int .u64 (b : Int)) := ⟨h 0 _ rfl, h 1 _ rfl, h 2 _ rfl, h 3 _ rfl, h 4 _ rfl⟩
theorem zf7 {B : Nat} {w : World} {g gt : Nat} {L : List Tk} {c k en er pl ne bl : Nat} (h : Qd B w g L (some ⟨gt, 0, none⟩) c k en er pl ne bl) (hk : k < L.length) : gt ≠ g := by
 rcases h.toks with q | ⟨gt', h1, h2, h3, h4⟩
 ·rw [q] at hk; simp at hk
 ·cases h1
  exact h2
def zhi (R : Rs (List UInt8)) : List UInt8 := match R with | .ok x _ => x | .bad _ _ => []
set_option maxHeartbeats 12800000 in
theorem Ya {B : Nat} (g : Nat) (L : List Tk) (a : Option Addr) (c k en ne bl : Nat) (w : World) (h : Qd B w g L a c k en 0 0 ne bl) (hBw : B <= w.heap.size) :
  Calls Tryz.prog 66 #[.pointer (some ⟨g, 0, none⟩)] w fun r w' => r = .returned (.string ⟨(zhi (zM (za L k en))).toArray⟩) /\ KL B g L a c en ne bl (zM (za L k en)) w' /\ But g w w' := by
 have HN : Hid (∀ u, Qd B u g L a c k en 0 0 ne bl -> Calls Tryz.prog 41 #[.pointer (some ⟨g, 0, none⟩)] u fun r w' => r = .returned (.int .i64 ((hdT (za L k en)).place : Int)) /\ ∃ m, w' = u.drewN m) := fun u hu => ZU g L a c k en 0 0 ne bl u hu
 have HB : Hid (∀ u, Qd B u g L a c k en 0 0 ne bl -> Calls Tryz.prog 40 #[.pointer (some ⟨g, 0, none⟩), .int .i64 4, .int .i64 ((hdT (za L k en)).place : Int)] u fun r w' => r = .returned (.tuple #[]) /\ Qd B w' g L a c L.length en 4 (hdT (za L k en)).place ne bl /\ But g u w') := fun u hu => by
  have := YJ g L a c k en 0 0 ne bl 4 (hdT (za L k en)).place u hu
  simpa using this
 have HQ : Hid (Qd B w g L a c k en 0 0 ne bl) := h
 have hA := h.cell
 have hlen := h.len
 have hle := h.le
 by_cases hk : k < L.length
 ·obtain ⟨gt, t, rfl, ht, hr, hd, hgB⟩ := Kh h hk
  have htl := (YD (en := en) ht).2
  have hgn := zf7 h hk
  have hNm := fun u => zaf ⟨t.text.toArray⟩ u
  have hgt : gt < w.drew.heap.size := Zy hgB hBw
  unfold zM
  rw [hd] at HN HB ⊢
  rw [htl]
  clear htl hd h
  obtain ⟨K, T, p, b⟩ := t
  have hr : w.rangeAt gt (k * 5) (zm K ⟨T.toArray⟩ p (yh K) b) := hr
  have hNm : ∀ u, Calls Tryz.prog 103 #[.string ⟨T.toArray⟩] u fun r w' => r = .returned (.bool (Yg T)) /\ Below u.heap.size u w' := hNm
  dsimp only at HN HB ⊢
  generalize yh K = vt at *
  generalize hn : L.length = n at *
  cases hx : Yg T
  focus
   rw [hx] at hNm
   rw [ze (by decide)]
  rotate_left
  focus
   rw [hx] at hNm
   rw [zi rfl]
   clear HN HB hx
  rotate_left
  all_goals
   go_enter Tryz.func66, Tryz.ntmps66
   go_wp2_with fail
   have hS0 : At 71 w.drew g (q7 (some ⟨gt, 0, none⟩) n c k en 0 0 ne bl) /\ w.drew.rangeAt gt (k * 5) (zm K ⟨T.toArray⟩ p vt b) := ⟨hA.drew, hr⟩
   refine wp_region_held_drew (S := fun x => At 71 x g (q7 (some ⟨gt, 0, none⟩) n c k en 0 0 ne bl) /\ x.rangeAt gt (k * 5) (zm K ⟨T.toArray⟩ p vt b)) (by kernel_rfl) hS0 (fun _ => ?_)
   refine tY 0 (.pointer (some ⟨g, 0, none⟩)) (oi := { dst := some 3, op := .move (.tmp 0), guard := none, .. }) rfl hS0 ?_ ?_
   ·intro w hSw
    go_simp
   simp only [Act.put, sA, sB, sC]
   refine wpAnyH_ready (rs := [1]) (by kernel_rfl) (by simp) ?_
   refine AllReadyH.cons (o := { dst := some 4, op := .call { callee := .value (.func 30), args := #[.tmp 3], argTypes := #[69] }, guard := none, .. }) rfl (fun KK hK => ?_) AllReadyH.nil
   rw [zi (by rfl)]
   go_wp2_with (go_at_call 30; refine (zJ g n (some ⟨gt, 0, none⟩) c k en 0 0 ne bl _ hS0.1).mono ?_; rintro r u ⟨rfl, hu⟩; obtain rfl := hu.symm)
   refine hK.out _ _ hS0 (fun _ => ?_)
   refine tY 2 (.bool true) (oi := { dst := some 5, op := .move (.tmp 4), guard := none, .. }) rfl hS0 ?_ ?_
   ·intro w hSw
    go_simp
   simp only [Act.put, sA, sB, sC]
   refine tY 3 (.pointer (some ⟨g, 0, none⟩)) (oi := { dst := some 6, op := .move (.tmp 0), guard := some (2, true), .. }) rfl hS0 ?_ ?_
   ·intro w hSw
    go_simp
   simp only [Act.put, sA, sB, sC]
   refine tY 4 (.pointer (some ⟨g, 0, none⟩)) (oi := { dst := some 7, op := .nilCheck (.tmp 6), guard := some (2, true), .. }) rfl hS0 ?_ ?_
   ·intro w hSw
    go_simp
   simp only [Act.put, sA, sB, sC]
   refine tY 5 (.pointer (some ⟨g, 1, none⟩)) (oi := { dst := some 8, op := .fieldAddr 71 (.tmp 7) 1, guard := some (2, true), .. }) rfl hS0 ?_ ?_
   ·intro w hSw
    obtain ⟨q0, q1, q2, q3, q4, q5, q6⟩ := zv hSw.1
    go_simp
   simp only [Act.put, sA, sB, sC]
   refine tY 6 (.int .i64 (k : Int)) (oi := { dst := some 9, op := .load 3 (.tmp 8), guard := some (2, true), .. }) rfl hS0 ?_ ?_
   ·intro w hSw
    obtain ⟨q0, q1, q2, q3, q4, q5, q6⟩ := zv hSw.1
    go_simp
   simp only [Act.put, sA, sB, sC]
   refine tY 7 (.pointer (some ⟨g, 0, none⟩)) (oi := { dst := some 10, op := .move (.tmp 0), guard := some (2, true), .. }) rfl hS0 ?_ ?_
   ·intro w hSw
    go_simp
   simp only [Act.put, sA, sB, sC]
   refine tY 8 (.pointer (some ⟨g, 0, none⟩)) (oi := { dst := some 11, op := .nilCheck (.tmp 10), guard := some (2, true), .. }) rfl hS0 ?_ ?_
   ·intro w hSw
    go_simp
   simp only [Act.put, sA, sB, sC]
   refine tY 9 (.pointer (some ⟨g, 0, none⟩)) (oi := { dst := some 12, op := .fieldAddr 71 (.tmp 11) 0, guard := some (2, true), .. }) rfl hS0 ?_ ?_
   ·intro w hSw
    obtain ⟨q0, q1, q2, q3, q4, q5, q6⟩ := zv hSw.1
    go_simp
   simp only [Act.put, sA, sB, sC]
   refine tY 10 (.slice (some ⟨gt, 0, none⟩) n c) (oi := { dst := some 13, op := .load 60 (.tmp 12), guard := some (2, true), .. }) rfl hS0 ?_ ?_
   ·intro w hSw
    obtain ⟨q0, q1, q2, q3, q4, q5, q6⟩ := zv hSw.1
    go_simp
   simp only [Act.put, sA, sB, sC]
   refine tY 11 (.int .i64 (n : Int)) (oi := { dst := some 14, op := .call { callee := .builtin .len, args := #[.tmp 13], argTypes := #[60] }, guard := some (2, true), .. }) rfl hS0 ?_ ?_
   ·intro w hSw
    go_simp
   simp only [Act.put, sA, sB, sC]
   refine tY 12 (.bool true) (oi := { dst := some 15, op := .binOp .lss 3 (.tmp 9) (.tmp 14) 3, guard := some (2, true), .. }) rfl hS0 ?_ ?_
   ·intro w hSw
    go_simp
   simp only [Act.put, sA, sB, sC]
   refine tY 13 (.bool true) (oi := { dst := some 16, op := .pick (.tmp 5) (.tmp 15) (.const (.bool false)), guard := none, .. }) rfl hS0 ?_ ?_
   ·intro w hSw
    go_simp
   simp only [Act.put, sA, sB, sC]
   refine tY 14 (.bool true) (oi := { dst := some 17, op := .move (.tmp 16), guard := none, .. }) rfl hS0 ?_ ?_
   ·intro w hSw
    go_simp
   simp only [Act.put, sA, sB, sC]
   refine tY 15 (.pointer (some ⟨g, 0, none⟩)) (oi := { dst := some 18, op := .move (.tmp 0), guard := some (14, true), .. }) rfl hS0 ?_ ?_
   ·intro w hSw
    go_simp
   simp only [Act.put, sA, sB, sC]
   refine tY 16 (.pointer (some ⟨g, 0, none⟩)) (oi := { dst := some 19, op := .nilCheck (.tmp 18), guard := some (14, true), .. }) rfl hS0 ?_ ?_
   ·intro w hSw
    go_simp
   simp only [Act.put, sA, sB, sC]
   refine tY 17 (.pointer (some ⟨g, 0, none⟩)) (oi := { dst := some 20, op := .fieldAddr 71 (.tmp 19) 0, guard := some (14, true), .. }) rfl hS0 ?_ ?_
   ·intro w hSw
    obtain ⟨q0, q1, q2, q3, q4, q5, q6⟩ := zv hSw.1
    go_simp
   simp only [Act.put, sA, sB, sC]
   refine tY 18 (.slice (some ⟨gt, 0, none⟩) n c) (oi := { dst := some 21, op := .load 60 (.tmp 20), guard := some (14, true), .. }) rfl hS0 ?_ ?_
   ·intro w hSw
    obtain ⟨q0, q1, q2, q3, q4, q5, q6⟩ := zv hSw.1
    go_simp
   simp only [Act.put, sA, sB, sC]
   refine tY 19 (.pointer (some ⟨g, 0, none⟩)) (oi := { dst := some 22, op := .move (.tmp 0), guard := some (14, true), .. }) rfl hS0 ?_ ?_
   ·intro w hSw
    go_simp
   simp only [Act.put, sA, sB, sC]
   refine tY 20 (.pointer (some ⟨g, 0, none⟩)) (oi := { dst := some 23, op := .nilCheck (.tmp 22), guard := some (14, true), .. }) rfl hS0 ?_ ?_
   ·intro w hSw
    go_simp
   simp only [Act.put, sA, sB, sC]
   refine tY 21 (.pointer (some ⟨g, 1, none⟩)) (oi := { dst := some 24, op := .fieldAddr 71 (.tmp 23) 1, guard := some (14, true), .. }) rfl hS0 ?_ ?_
   ·intro w hSw
    obtain ⟨q0, q1, q2, q3, q4, q5, q6⟩ := zv hSw.1
    go_simp
   simp only [Act.put, sA, sB, sC]
   refine tY 22 (.int .i64 (k : Int)) (oi := { dst := some 25, op := .load 3 (.tmp 24), guard := some (14, true), .. }) rfl hS0 ?_ ?_
   ·intro w hSw
    obtain ⟨q0, q1, q2, q3, q4, q5, q6⟩ := zv hSw.1
    go_simp
   simp only [Act.put, sA, sB, sC]
   refine tY 23 (.pointer (some ⟨gt, k * 5, none⟩)) (oi := { dst := some 26, op := .indexAddr 60 (.tmp 21) (.tmp 25), guard := some (14, true), .. }) rfl hS0 ?_ ?_
   ·intro w hSw
    go_simp
   simp only [Act.put, sA, sB, sC]
   refine tY 24 (.pointer (some ⟨gt, k * 5 + 1, none⟩)) (oi := { dst := some 27, op := .fieldAddr 64 (.tmp 26) 1, guard := some (14, true), .. }) rfl hS0 ?_ ?_
   ·intro w hSw
    go_simp
   simp only [Act.put, sA, sB, sC]
   refine tY 25 (.string ⟨T.toArray⟩) (oi := { dst := some 28, op := .load 9 (.tmp 27), guard := some (14, true), .. }) rfl hS0 ?_ ?_
   ·intro w hSw
    obtain ⟨q0, q1, q2, q3, q4, q5, q6⟩ := zv hSw.1
    obtain ⟨t0, t1, t2, t3, t4⟩ := jU hSw.2
    go_simp
   simp only [Act.put, sA, sB, sC]
   refine wpAnyH_ready (rs := [26]) (by kernel_rfl) (by simp) ?_
   refine AllReadyH.cons (o := { dst := some 29, op := .call { callee := .value (.func 103), args := #[.tmp 28], argTypes := #[9] }, guard := some (14, true), .. }) rfl (fun KK hK => ?_) AllReadyH.nil
   rw [zi (by rfl)]
   go_wp2_with (go_at_call 103; refine (hNm _).mono ?_; rintro r w1 ⟨rfl, hb1⟩)
   have hS1 : At 71 w1 g (q7 (some ⟨gt, 0, none⟩) n c k en 0 0 ne bl) /\ w1.rangeAt gt (k * 5) (zm K ⟨T.toArray⟩ p vt b) := ⟨hS0.1.below hb1, fun j v hj => by rw [World.cell?_of_block (w := w.drew) (hb1.block gt hgt)]; exact hS0.2 j v hj⟩
   have hB1 : Below w.heap.size w w1 := (Below.drew (Below.refl _ _)).trans (hb1.mono (zj _))
   refine hK.out _ _ hS1 (fun _ => ?_)
  focus
   refine tY 27 (.bool false) (oi := { dst := some 30, op := .pick (.tmp 17) (.tmp 29) (.const (.bool false)), guard := none, .. }) rfl hS1 ?_ ?_
   ·intro w hSw
    go_simp
  rotate_left
  focus
   refine tY 27 (.bool true) (oi := { dst := some 30, op := .pick (.tmp 17) (.tmp 29) (.const (.bool false)), guard := none, .. }) rfl hS1 ?_ ?_
   ·intro w hSw
    go_simp
  rotate_left
  all_goals
   simp only [Act.put, sA, sB, sC]
   refine wpAnyH_done (by kernel_rfl) ?_ _
  ·have hQ1 := HQ.out.below hB1
   subst hn
   go_wp2_with (first
    | (go_at_call 41; refine (HN.out _ hQ1).mono ?_; rintro r u2 ⟨rfl, m, rfl⟩)
    | (go_at_call 40; refine (HB.out _ ((hQ1).drewN m)).mono ?_; rintro r u3 ⟨rfl, hR3, hb3⟩))
   go_ret
   exact ⟨rfl, hR3, ((But.of_below hB1).drewN m).trans hb3⟩
  ·obtain ⟨q0, q1, q2, q3, q4, q5, q6⟩ := zv hS1.1
   go_wp2_with (first
    | (refine zz rfl rfl hS1.1 1 (.int .i64 ((k : Int) + 1)) rfl rfl i3 ?_; intro w2 hA2 hb2; refine zb ?_))
   refine zd ?_
   have hA2 : At 71 w2 g (q7 (some ⟨gt, 0, none⟩) n c (k + 1) en 0 0 ne bl) := hA2
   clear q0 q1 q2 q3 q4 q5 q6
   obtain ⟨q0, q1, q2, q3, q4, q5, q6⟩ := zv hA2
   have hr2 : w2.rangeAt gt (k * 5) (zm K ⟨T.toArray⟩ p vt b) := fun j v hj => by
    rw [World.cell?_of_block (w := w1) (hb2.block gt (Zy hgB (zQ hBw hB1.size)) hgn)]
    exact hS1.2 j v hj
   obtain ⟨t0, t1, t2, t3, t4⟩ := jU hr2
   go_wp2_with fail
   go_quiet (fail)
   go_wp2
   go_ret
   subst hn
   exact ⟨rfl, ⟨k + 1, rfl, ((HQ.out.below hB1).set hA2 hb2 hk).drewN nq⟩, ((But.of_below hB1).trans hb2).drewN nq⟩
 ·have hd : hdT (za L k en) = ⟨0, [], en, 0⟩ := by rw [Zn (by omega)]; rfl
  have hm : zM (za L k en) = .bad 4 (hdT (za L k en)).place := by unfold zM; rw [hd]; rfl
  rw [hm]
  generalize (hdT (za L k en)).place = p at HN HB ⊢
  clear hd hm h
  generalize hn : L.length = n at *
  go_enter Tryz.func66, Tryz.ntmps66
  go_wp2_with fail
  have hS0 : At 71 w.drew g (q7 a n c k en 0 0 ne bl) := hA.drew
  refine wp_region_held_drew (S := fun x => At 71 x g (q7 a n c k en 0 0 ne bl)) (by kernel_rfl) hS0 (fun _ => ?_)
  refine tY 0 (.pointer (some ⟨g, 0, none⟩)) (oi := { dst := some 3, op := .move (.tmp 0), guard := none, .. }) rfl hS0 ?_ ?_
  ·intro w hSw
   go_simp
  simp only [Act.put, sA, sB, sC]
  refine wpAnyH_ready (rs := [1]) (by kernel_rfl) (by simp) ?_
  refine AllReadyH.cons (o := { dst := some 4, op := .call { callee := .value (.func 30), args := #[.tmp 3], argTypes := #[69] }, guard := none, .. }) rfl (fun KK hK => ?_) AllReadyH.nil
  rw [zi (by rfl)]
  go_wp2_with (go_at_call 30; refine (zJ g n a c k en 0 0 ne bl _ hS0).mono ?_; rintro r u ⟨rfl, hu⟩; obtain rfl := hu.symm)
  refine hK.out _ _ hS0 (fun _ => ?_)
  refine tY 2 (.bool true) (oi := { dst := some 5, op := .move (.tmp 4), guard := none, .. }) rfl hS0 ?_ ?_
  ·intro w hSw
   go_simp
  simp only [Act.put, sA, sB, sC]
  refine tY 3 (.pointer (some ⟨g, 0, none⟩)) (oi := { dst := some 6, op := .move (.tmp 0), guard := some (2, true), .. }) rfl hS0 ?_ ?_
  ·intro w hSw
   go_simp
  simp only [Act.put, sA, sB, sC]
  refine tY 4 (.pointer (some ⟨g, 0, none⟩)) (oi := { dst := some 7, op := .nilCheck (.tmp 6), guard := some (2, true), .. }) rfl hS0 ?_ ?_
  ·intro w hSw
   go_simp
  simp only [Act.put, sA, sB, sC]
  refine tY 5 (.pointer (some ⟨g, 1, none⟩)) (oi := { dst := some 8, op := .fieldAddr 71 (.tmp 7) 1, guard := some (2, true), .. }) rfl hS0 ?_ ?_
  ·intro w hSw
   obtain ⟨q0, q1, q2, q3, q4, q5, q6⟩ := zv hSw
   go_simp
  simp only [Act.put, sA, sB, sC]
  refine tY 6 (.int .i64 (k : Int)) (oi := { dst := some 9, op := .load 3 (.tmp 8), guard := some (2, true), .. }) rfl hS0 ?_ ?_
  ·intro w hSw
   obtain ⟨q0, q1, q2, q3, q4, q5, q6⟩ := zv hSw
   go_simp
  simp only [Act.put, sA, sB, sC]
  refine tY 7 (.pointer (some ⟨g, 0, none⟩)) (oi := { dst := some 10, op := .move (.tmp 0), guard := some (2, true), .. }) rfl hS0 ?_ ?_
  ·intro w hSw
   go_simp
  simp only [Act.put, sA, sB, sC]
  refine tY 8 (.pointer (some ⟨g, 0, none⟩)) (oi := { dst := some 11, op := .nilCheck (.tmp 10), guard := some (2, true), .. }) rfl hS0 ?_ ?_
  ·intro w hSw
   go_simp
  simp only [Act.put, sA, sB, sC]
  refine tY 9 (.pointer (some ⟨g, 0, none⟩)) (oi := { dst := some 12, op := .fieldAddr 71 (.tmp 11) 0, guard := some (2, true), .. }) rfl hS0 ?_ ?_
  ·intro w hSw
   obtain ⟨q0, q1, q2, q3, q4, q5, q6⟩ := zv hSw
   go_simp
  simp only [Act.put, sA, sB, sC]
  refine tY 10 (.slice a n c) (oi := { dst := some 13, op := .load 60 (.tmp 12), guard := some (2, true), .. }) rfl hS0 ?_ ?_
  ·intro w hSw
   obtain ⟨q0, q1, q2, q3, q4, q5, q6⟩ := zv hSw
   go_simp
  simp only [Act.put, sA, sB, sC]
  refine tY 11 (.int .i64 (n : Int)) (oi := { dst := some 14, op := .call { callee := .builtin .len, args := #[.tmp 13], argTypes := #[60] }, guard := some (2, true), .. }) rfl hS0 ?_ ?_
  ·intro w hSw
   go_simp
  simp only [Act.put, sA, sB, sC]
  refine tY 12 (.bool false) (oi := { dst := some 15, op := .binOp .lss 3 (.tmp 9) (.tmp 14) 3, guard := some (2, true), .. }) rfl hS0 ?_ ?_
  ·intro w hSw
   go_simp
  simp only [Act.put, sA, sB, sC]
  refine tY 13 (.bool false) (oi := { dst := some 16, op := .pick (.tmp 5) (.tmp 15) (.const (.bool false)), guard := none, .. }) rfl hS0 ?_ ?_
  ·intro w hSw
   go_simp
  simp only [Act.put, sA, sB, sC]
  refine tY 14 (.bool false) (oi := { dst := some 17, op := .move (.tmp 16), guard := none, .. }) rfl hS0 ?_ ?_
  ·intro w hSw
   go_simp
  simp only [Act.put, sA, sB, sC]
  refine tN 15 (oi := { dst := some 18, op := .move (.tmp 0), guard := some (14, true), .. }) rfl hS0 ?_
  simp only [Act.put, sA, sB, sC]
  refine tN 16 (oi := { dst := some 19, op := .nilCheck (.tmp 18), guard := some (14, true), .. }) rfl hS0 ?_
  simp only [Act.put, sA, sB, sC]
  refine tN 17 (oi := { dst := some 20, op := .fieldAddr 71 (.tmp 19) 0, guard := some (14, true), .. }) rfl hS0 ?_
  simp only [Act.put, sA, sB, sC]
  refine tN 18 (oi := { dst := some 21, op := .load 60 (.tmp 20), guard := some (14, true), .. }) rfl hS0 ?_
  simp only [Act.put, sA, sB, sC]
  refine tN 19 (oi := { dst := some 22, op := .move (.tmp 0), guard := some (14, true), .. }) rfl hS0 ?_
  simp only [Act.put, sA, sB, sC]
  refine tN 20 (oi := { dst := some 23, op := .nilCheck (.tmp 22), guard := some (14, true), .. }) rfl hS0 ?_
  simp only [Act.put, sA, sB, sC]
  refine tN 21 (oi := { dst := some 24, op := .fieldAddr 71 (.tmp 23) 1, guard := some (14, true), .. }) rfl hS0 ?_
  simp only [Act.put, sA, sB, sC]
  refine tN 22 (oi := { dst := some 25, op := .load 3 (.tmp 24), guard := some (14, true), .. }) rfl hS0 ?_
  simp only [Act.put, sA, sB, sC]
  refine tN 23 (oi := { dst := some 26, op := .indexAddr 60 (.tmp 21) (.tmp 25), guard := some (14, true), .. }) rfl hS0 ?_
  simp only [Act.put, sA, sB, sC]
  refine tN 24 (oi := { dst := some 27, op := .fieldAddr 64 (.tmp 26) 1, guard := some (14, true), .. }) rfl hS0 ?_
  simp only [Act.put, sA, sB, sC]
  refine tN 25 (oi := { dst := some 28, op := .load 9 (.tmp 27), guard := some (14, true), .. }) rfl hS0 ?_
  simp only [Act.put, sA, sB, sC]
  refine tN 26 (oi := { dst := some 29, op := .call { callee := .value (.func 103), args := #[.tmp 28], argTypes := #[9] }, guard := some (14, true), .. }) rfl hS0 ?_
  simp only [Act.put, sA, sB, sC]
  refine tY 27 (.bool false) (oi := { dst := some 30, op := .pick (.tmp 17) (.tmp 29) (.const (.bool false)), guard := none, .. }) rfl hS0 ?_ ?_
  ·intro w hSw
   go_simp
  simp only [Act.put, sA, sB, sC]
  refine wpAnyH_done (by kernel_rfl) ?_ _
  have hQ1 : Qd B w.drew g L a c k en 0 0 ne bl := HQ.out.keep fun _ _ _ => rfl
  have hB1 : Below w.heap.size w w.drew := Below.drew (Below.refl _ _)
  subst hn
  clear hS0
  generalize w.drew = w1 at hQ1 hB1 ⊢
  go_wp2_with (first
   | (go_at_call 41; refine (HN.out _ hQ1).mono ?_; rintro r u2 ⟨rfl, m, rfl⟩)
   | (go_at_call 40; refine (HB.out _ ((hQ1).drewN m)).mono ?_; rintro r u3 ⟨rfl, hR3, hb3⟩))
  go_ret
  exact ⟨rfl, hR3, ((But.of_below hB1).drewN m).trans hb3⟩
