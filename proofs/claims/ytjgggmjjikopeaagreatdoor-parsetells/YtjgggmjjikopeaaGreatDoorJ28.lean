/- J -/
import Derived.Test.YtjgggmjjikopeaaGreatDoorJ26
set_option linter.unusedVariables false
set_option maxRecDepth 100000
open Go.RowKit
namespace Go.Proofs.YtjgggmjjikopeaaGreatDoor
theorem qJ {P : Program} {o : Oper} {a : Act} {w : World} {K : Act -> World -> Prop} {Q : Exit -> Act -> World -> Prop} (t : TypeId) (ho : o.op = .alloc t) (cs : List Value) (n : Nat) (hz : (P.info? t).map (fun i => (i.zero, i.size)) = some (some (.agg cs.toArray), n))
  (h : ∀ w', At t w' w.heap.size cs -> Below w.heap.size w w' -> w'.heap.size = w.heap.size + 1 -> K (a.put o.dst (.pointer (some ⟨w.heap.size, 0, none⟩))) w') : o.wp P a w K Q := by
 have := h (w.alloc (.cells cs.toArray t)) (_root_.Go.heap_alloc_new w _) ((Below.refl _ w).alloc (zj _) _) (by show (w.heap.push _).size = _; simp)
 have h0 := (zero_of_info hz).1
 unfold Oper.wp execOp
 simp only [ho, Instr.alloc, Sem.run_bind, h0]
 simpa [newVar, go_sem, Value.cells] using this
def JU (o : Option (Nat × Nat)) : Nat × Nat := o.getD (0, 0)
theorem zeJ {t : Tk} (hk : t.kind = 2 \/ t.kind = 3) (h : Zd t) : zW t = some (yh t.kind, t.bits) := by
 have hd := h.2 hk
 unfold zW
 rw [ze (fun e => by rw [e] at hd; exact absurd hd.2 (by decide)), ze (fun e => by rw [e] at hd; exact absurd hd.2 (by decide)), ze (fun e => by rw [e] at hd; exact absurd hd.2 (by decide)), ze (fun e => by rw [e] at hd; exact absurd hd.2 (by decide)), zi hk]
set_option maxHeartbeats 12800000 in
theorem zcQ {B : Nat} (g gt : Nat) (L : List Tk) (c k en ne bl : Nat) (t : Tk) (ht : L[k]? = some t) (hok : Zd t) (w : World) (h : Qd B w g L (some ⟨gt, 0, none⟩) c k en 0 0 ne bl) (hBw : B <= w.heap.size) :
  Calls Tryz.prog 132 #[.pointer (some ⟨g, 0, none⟩)] w fun r w' => r = .returned (.tuple #[.agg (zy (JU (zW t)).1 (JU (zW t)).2).toArray, .bool (zW t).isSome]) /\ Qd B w' g L (some ⟨gt, 0, none⟩) c (if (zW t).isSome = true then k + 1 else k) en 0 0 ne bl /\ But g w w' := by
 have hk : k < L.length := (List.getElem?_eq_some_iff.1 ht).1
 have hgn := zf7 h hk
 have hdg := fun hh => zeJ (t := t) hh hok
 obtain ⟨hr, hgB⟩ : w.rangeAt gt (k * 5) t.cells /\ gt < B := by
  obtain ⟨gt', t', h1, h2, h3, -, h5⟩ := Kh h hk
  cases h1
  rw [ht] at h2
  cases h2
  exact ⟨h3, h5⟩
 have HQ : Hid (Qd B w g L (some ⟨gt, 0, none⟩) c k en 0 0 ne bl) := h
 have hA := h.cell
 have hlow := h.low
 have hlen := h.len
 obtain ⟨lv, hlv⟩ : ∃ lv, lv = zW t := ⟨_, rfl⟩
 rw [<- hlv] at hdg ⊢
 obtain ⟨K, T, p, b⟩ := t
 have hr : w.rangeAt gt (k * 5) (zm K ⟨T.toArray⟩ p (yh K) b) := hr
 dsimp only at hdg
 clear h hok ht
 generalize hvt : yh K = vt at *
 have HF : Hid (∀ w6 w7 w9 : World, Below w.heap.size w w6 -> At 71 w7 g (q7 (some ⟨gt, 0, none⟩) L.length c (k + 1) en 0 0 ne bl) -> But g w6 w7 -> But w.heap.size w7 w9 -> Qd B w9 g L (some ⟨gt, 0, none⟩) c (k + 1) en 0 0 ne bl /\ But g w w9) := fun w6 w7 w9 h1 h2 h3 h4 => ⟨(((HQ.out.below h1).set h2 h3 hk)).but h4 hBw, ((But.of_below h1).trans h3).fresh h4 (zj _)⟩
 have HG : Hid (∀ w6 w9 : World, Below w.heap.size w w6 -> But w.heap.size w6 w9 -> Qd B w9 g L (some ⟨gt, 0, none⟩) c k en 0 0 ne bl /\ But g w w9) := fun w6 w9 h1 h4 => ⟨(HQ.out.below h1).but h4 hBw, (But.of_below h1).fresh h4 (zj _)⟩
 generalize L.length = n at *
 go_enter Tryz.func132, Tryz.ntmps132
 go_wp2_with (first
  | (refine aL (o := { dst := some 2, .. }) rfl rfl z32 ?_; intro w1 hA1 hb1; refine zb ?_))
 refine zd ?_
 have l1 := hA1.lt
 have hA := hA.below hb1
 have hr : w1.rangeAt gt (k * 5) (zm K ⟨T.toArray⟩ p vt b) := fun j v hj => by rw [World.cell?_of_block (w := w) (hb1.block gt (by omega))]; exact hr j v hj
 have hO := fun m => zJ g n (some ⟨gt, 0, none⟩) c k en 0 0 ne bl (w1.drewN m) (hA.drewN m)
 have hO : ∀ m, Calls Tryz.prog 30 #[.pointer (some ⟨g, 0, none⟩)] (w1.drewN m) fun r w' => r = .returned (.bool true) /\ w' = w1.drewN m := hO
 obtain ⟨q0, q1, q2, q3, q4, q5, q6⟩ := zv hA
 go_wp2_with fail
 go_quiet (first | (go_at_call 30; exact Calls.quiet_of_same (hO _)))
 clear q0 q1 q2 q3 q4 q5 q6 hO
 obtain ⟨w2, hw2⟩ : ∃ x, x = w1.drewN nq := ⟨_, rfl⟩
 have hb2 : Below w1.heap.size w1 w2 := by rw [hw2]; exact below_drewN w1 nq
 have hA : At 71 w2 g (q7 (some ⟨gt, 0, none⟩) n c k en 0 0 ne bl) := by rw [hw2]; exact hA
 have hr : w2.rangeAt gt (k * 5) (zm K ⟨T.toArray⟩ p vt b) := by rw [hw2]; exact hr
 have hZ2 := hA1.below hb2
 have l2 := hb2.size
 rw [<- hw2]
 clear hw2
 go_wp2_with fail
 ·have hgt : gt < w2.drew.heap.size := by show gt < w2.heap.size; omega
  have hS0 : At 71 w2.drew g (q7 (some ⟨gt, 0, none⟩) n c k en 0 0 ne bl) /\ w2.drew.rangeAt gt (k * 5) (zm K ⟨T.toArray⟩ p vt b) := ⟨hA.drew, hr⟩
  refine wp_region_held_drew (S := fun x => At 71 x g (q7 (some ⟨gt, 0, none⟩) n c k en 0 0 ne bl) /\ x.rangeAt gt (k * 5) (zm K ⟨T.toArray⟩ p vt b)) (by kernel_rfl) hS0 (fun _ => ?_)
  refine tY 0 (.pointer (some ⟨g, 0, none⟩)) (oi := { dst := some 22, op := .move (.tmp 0), guard := none, .. }) rfl hS0 ?_ ?_
  ·intro w hSw
   go_simp
  simp only [Act.put, sA, sB, sC]
  refine tY 1 (.pointer (some ⟨g, 0, none⟩)) (oi := { dst := some 23, op := .nilCheck (.tmp 22), guard := none, .. }) rfl hS0 ?_ ?_
  ·intro w hSw
   go_simp
  simp only [Act.put, sA, sB, sC]
  refine tY 2 (.pointer (some ⟨g, 0, none⟩)) (oi := { dst := some 24, op := .fieldAddr 71 (.tmp 23) 0, guard := none, .. }) rfl hS0 ?_ ?_
  ·intro w hSw
   obtain ⟨q0, q1, q2, q3, q4, q5, q6⟩ := zv hSw.1
   go_simp
  simp only [Act.put, sA, sB, sC]
  refine tY 3 (.slice (some ⟨gt, 0, none⟩) n c) (oi := { dst := some 25, op := .load 60 (.tmp 24), guard := none, .. }) rfl hS0 ?_ ?_
  ·intro w hSw
   obtain ⟨q0, q1, q2, q3, q4, q5, q6⟩ := zv hSw.1
   go_simp
  simp only [Act.put, sA, sB, sC]
  refine tY 4 (.pointer (some ⟨g, 0, none⟩)) (oi := { dst := some 26, op := .move (.tmp 0), guard := none, .. }) rfl hS0 ?_ ?_
  ·intro w hSw
   go_simp
  simp only [Act.put, sA, sB, sC]
  refine tY 5 (.pointer (some ⟨g, 0, none⟩)) (oi := { dst := some 27, op := .nilCheck (.tmp 26), guard := none, .. }) rfl hS0 ?_ ?_
  ·intro w hSw
   go_simp
  simp only [Act.put, sA, sB, sC]
  refine tY 6 (.pointer (some ⟨g, 1, none⟩)) (oi := { dst := some 28, op := .fieldAddr 71 (.tmp 27) 1, guard := none, .. }) rfl hS0 ?_ ?_
  ·intro w hSw
   obtain ⟨q0, q1, q2, q3, q4, q5, q6⟩ := zv hSw.1
   go_simp
  simp only [Act.put, sA, sB, sC]
  refine tY 7 (.int .i64 (k : Int)) (oi := { dst := some 29, op := .load 3 (.tmp 28), guard := none, .. }) rfl hS0 ?_ ?_
  ·intro w hSw
   obtain ⟨q0, q1, q2, q3, q4, q5, q6⟩ := zv hSw.1
   go_simp
  simp only [Act.put, sA, sB, sC]
  refine tY 8 (.pointer (some ⟨gt, k * 5, none⟩)) (oi := { dst := some 30, op := .indexAddr 60 (.tmp 25) (.tmp 29), guard := none, .. }) rfl hS0 ?_ ?_
  ·intro w hSw
   go_simp
  simp only [Act.put, sA, sB, sC]
  refine tY 9 (.agg (zm K ⟨T.toArray⟩ p vt b).toArray) (oi := { dst := some 31, op := .load 64 (.tmp 30), guard := none, .. }) rfl hS0 ?_ ?_
  ·intro w hSw
   obtain ⟨q0, q1, q2, q3, q4, q5, q6⟩ := zv hSw.1
   obtain ⟨t0, t1, t2, t3, t4⟩ := jU hSw.2
   go_simp
   rfl
  simp only [Act.put, sA, sB, sC]
  refine wpAnyH_ready (rs := [10]) (by kernel_rfl) (by simp) ?_
  refine AllReadyH.cons (o := { dst := some 4, op := .alloc 64, guard := none, .. }) rfl (fun KK hK => ?_) AllReadyH.nil
  rw [zi (by rfl)]
  refine qJ 64 rfl (zm 0 ⟨#[]⟩ 0 0 0) 5 z34 ?_
  intro w3 hA3 hb3 hs3
  clear hs3
  have hS3 : At 71 w3 g (q7 (some ⟨gt, 0, none⟩) n c k en 0 0 ne bl) /\ w3.rangeAt gt (k * 5) (zm K ⟨T.toArray⟩ p vt b) := ⟨hS0.1.below hb3, fun j v hj => by rw [World.cell?_of_block (w := w2.drew) (hb3.block gt hgt)]; exact hS0.2 j v hj⟩
  have l3 := hA3.lt
  have ed : w2.drew.heap.size = w2.heap.size := rfl
  refine hK.out _ _ hS3 (fun _ => ?_)
  refine wpAnyH_ready (rs := [11]) (by kernel_rfl) (by simp) ?_
  refine AllReadyH.cons (o := { dst := none, op := .store 64 (.tmp 4) (.tmp 31), guard := none, .. }) rfl (fun KK hK => ?_) AllReadyH.nil
  rw [zi (by rfl)]
  refine wp_store_mid (P := Tryz.prog) 64 (.tmp 4) (.tmp 31) rfl w2.drew.heap.size 0 (zm K ⟨T.toArray⟩ p vt b).toArray rfl rfl (hA3.there 0 5 (by decide)) i34 (all_oneCell_toArray (yo _ _ _ _ _)) ?_
  obtain ⟨w4, hw4⟩ : ∃ x, x = w3.setCells w2.drew.heap.size 0 (zm K ⟨T.toArray⟩ p vt b) := ⟨_, rfl⟩
  have hb4 : But w2.drew.heap.size w3 w4 := by rw [hw4]; exact (((((But.refl _ _).setCell 0 _).setCell 1 _).setCell 2 _).setCell 3 _).setCell 4 _
  have hA4 : At 64 w4 w2.drew.heap.size (zm K ⟨T.toArray⟩ p vt b) := by rw [hw4]; exact ((((hA3.set 0 _).set 1 _).set 2 _).set 3 _).set 4 _
  have hS4 : At 71 w4 g (q7 (some ⟨gt, 0, none⟩) n c k en 0 0 ne bl) /\ w4.rangeAt gt (k * 5) (zm K ⟨T.toArray⟩ p vt b) := ⟨hb4.at hS3.1 (by omega), fun j v hj => by rw [World.cell?_of_block (w := w3) (hb4.block gt (by omega) (by omega))]; exact hS3.2 j v hj⟩
  have l4 := hb4.size
  rw [<- hw4]
  clear hw4
  refine hK.out _ _ hS4 (fun _ => ?_)
  refine wpAnyH_done (by kernel_rfl) ?_ _
  have hA4 : At 64 w4 w2.heap.size (zm K ⟨T.toArray⟩ p vt b) := hA4
  have hb4 : But w2.heap.size w3 w4 := hb4
  have l3 : w2.heap.size < w3.heap.size := l3
  have hgt : gt < w2.heap.size := hgt
  clear ed
  obtain ⟨q0, q1, q2, q3, q4⟩ := zC hA4
  go_wp2_with (first
   | (refine aL (o := { dst := some 5, .. }) rfl rfl z32 ?_; intro w5 hA5 hb5)
   | (refine sL rfl rfl hA5 (zy vt b) rfl rfl i32 rfl (yj _ _) ?_; intro w6 hA6 hb6; refine zb ?_))
  refine zd ?_
  have l5 := hA5.lt
  have l6 := hb6.size
  have hB4 : Below w.heap.size w w4 := hb4.below ((hb1.trans (hb2.mono hb1.size)).trans ((Below.drew (B := w.heap.size) (Below.refl w.heap.size w2)).trans (hb3.mono (by show w.heap.size <= w2.heap.size; omega)))) (by omega) (by omega)
  have hB6 : Below w.heap.size w w6 := hb6.below (hB4.trans (hb5.mono hB4.size)) (by omega) (by omega)
  have hA46 := hb6.at (hA4.below hb5) (by omega)
  have hQ6 := hb6.at (hS4.1.below hb5) (by omega)
  have hZ6 := hb6.at ((hb4.at ((hZ2.drew).below hb3) (by omega)).below hb5) (by omega)
  clear q0 q1 q2 q3 q4 hS0 hS3 hS4 hA3 hA4 hA5 hb3 hb4 hb5 hb6 hr hA hZ2 hA1 hb1 hb2 hB4
  obtain ⟨s0, s1, s2, s3, s4⟩ := zC hA46
  by_cases k2 : K = 2 \/ K = 3
  ·have e := hdg k2
   subst e
   clear hdg hlv HG
   rcases k2 with rfl | rfl
   all_goals
    skip
    obtain ⟨q0, q1, q2, q3, q4, q5, q6⟩ := zv hQ6
    go_wp2_with (first
     | (refine zz rfl rfl hQ6 1 (.int .i64 ((k : Int) + 1)) rfl rfl i3 ?_; intro w7 hA7 hb7; refine zb ?_))
    refine zd ?_
    have hA7 : At 71 w7 g (q7 (some ⟨gt, 0, none⟩) n c (k + 1) en 0 0 ne bl) := hA7
    obtain ⟨v0, v1⟩ := yu (hb7.at hA6 (by omega))
    have hZ7 := hb7.at hZ6 (by omega)
    go_wp2_with (first
     | (refine sL rfl rfl hZ7 (zy vt b) rfl rfl i32 rfl (yj _ _) ?_; intro w9 hA9 hb9))
    refine zr (zx rfl _ _ w.heap.size 40 (zy vt b) _ rfl hA9 Tryz.underlying40 rfl i32) rfl ?_
    exact ⟨rfl, HF.out _ _ _ hB6 hA7 hb7 hb9⟩
  ·have k2' : ((K : Int) == 2) = false := by rw [zt]; omega
   have k3' : ((K : Int) == 3) = false := by rw [zt]; omega
   have hl2 : lv = if T = [116, 114, 117, 101] then some (2, 1) else if T = [102, 97, 108, 115, 101] then some (2, 0) else if T = [110, 97, 110] then some (3, 9221120237041090560) else if T = [105, 110, 102] then some (3, 9218868437227405312) else none := by
    rw [hlv]
    unfold zW
    dsimp only
    rw [ze k2]
   clear hdg hlv
   by_cases e0 : T = [110, 97, 110]
   ·subst e0
    have hl3 : lv = some (3, 9221120237041090560) := by rw [hl2]; rfl
    subst hl3
    clear hl2
    go_wp2_with (first
     | (refine zF rfl rfl (zy 3 9221120237041090560) ?_)
     | (refine sL rfl rfl hA6 (zy 3 9221120237041090560) rfl rfl i32 rfl (yj _ _) ?_; intro x6 hX6 hbx; refine zb ?_))
    refine zd ?_
    have hQ6 := hbx.at hQ6 (by omega)
    have hZ6 := hbx.at hZ6 (by omega)
    have hB6 : Below w.heap.size w x6 := hbx.below hB6 (by omega) hB6.size
    obtain ⟨q0, q1, q2, q3, q4, q5, q6⟩ := zv hQ6
    go_wp2_with (first
     | (refine zz rfl rfl hQ6 1 (.int .i64 ((k : Int) + 1)) rfl rfl i3 ?_; intro w7 hA7 hb7; refine zb ?_))
    refine zd ?_
    have hA7 : At 71 w7 g (q7 (some ⟨gt, 0, none⟩) n c (k + 1) en 0 0 ne bl) := hA7
    obtain ⟨v0, v1⟩ := yu (hb7.at hX6 (by omega))
    have hZ7 := hb7.at hZ6 (by omega)
    go_wp2_with (first
     | (refine sL rfl rfl hZ7 (zy 3 9221120237041090560) rfl rfl i32 rfl (yj _ _) ?_; intro w9 hA9 hb9))
    refine zr (zx rfl _ _ w.heap.size 40 (zy 3 9221120237041090560) _ rfl hA9 Tryz.underlying40 rfl i32) rfl ?_
    exact ⟨rfl, HF.out _ _ _ hB6 hA7 hb7 hb9⟩
   have n0 : (T == [110, 97, 110]) = false := by rw [zt]; exact e0
   by_cases e1 : T = [105, 110, 102]
   ·subst e1
    have hl3 : lv = some (3, 9218868437227405312) := by rw [hl2]; rfl
    subst hl3
    clear hl2
    go_wp2_with (first
     | (refine zF rfl rfl (zy 3 9218868437227405312) ?_)
     | (refine sL rfl rfl hA6 (zy 3 9218868437227405312) rfl rfl i32 rfl (yj _ _) ?_; intro x6 hX6 hbx; refine zb ?_))
    refine zd ?_
    have hQ6 := hbx.at hQ6 (by omega)
    have hZ6 := hbx.at hZ6 (by omega)
    have hB6 : Below w.heap.size w x6 := hbx.below hB6 (by omega) hB6.size
    obtain ⟨q0, q1, q2, q3, q4, q5, q6⟩ := zv hQ6
    go_wp2_with (first
     | (refine zz rfl rfl hQ6 1 (.int .i64 ((k : Int) + 1)) rfl rfl i3 ?_; intro w7 hA7 hb7; refine zb ?_))
    refine zd ?_
    have hA7 : At 71 w7 g (q7 (some ⟨gt, 0, none⟩) n c (k + 1) en 0 0 ne bl) := hA7
    obtain ⟨v0, v1⟩ := yu (hb7.at hX6 (by omega))
    have hZ7 := hb7.at hZ6 (by omega)
    go_wp2_with (first
     | (refine sL rfl rfl hZ7 (zy 3 9218868437227405312) rfl rfl i32 rfl (yj _ _) ?_; intro w9 hA9 hb9))
    refine zr (zx rfl _ _ w.heap.size 40 (zy 3 9218868437227405312) _ rfl hA9 Tryz.underlying40 rfl i32) rfl ?_
    exact ⟨rfl, HF.out _ _ _ hB6 hA7 hb7 hb9⟩
   have n1 : (T == [105, 110, 102]) = false := by rw [zt]; exact e1
   by_cases e2 : T = [116, 114, 117, 101]
   ·subst e2
    have hl3 : lv = some (2, 1) := by rw [hl2]; rfl
    subst hl3
    clear hl2
    go_wp2_with (first
     | (refine zF rfl rfl (zy 2 1) ?_)
     | (refine sL rfl rfl hA6 (zy 2 1) rfl rfl i32 rfl (yj _ _) ?_; intro x6 hX6 hbx; refine zb ?_))
    refine zd ?_
    have hQ6 := hbx.at hQ6 (by omega)
    have hZ6 := hbx.at hZ6 (by omega)
    have hB6 : Below w.heap.size w x6 := hbx.below hB6 (by omega) hB6.size
    obtain ⟨q0, q1, q2, q3, q4, q5, q6⟩ := zv hQ6
    go_wp2_with (first
     | (refine zz rfl rfl hQ6 1 (.int .i64 ((k : Int) + 1)) rfl rfl i3 ?_; intro w7 hA7 hb7; refine zb ?_))
    refine zd ?_
    have hA7 : At 71 w7 g (q7 (some ⟨gt, 0, none⟩) n c (k + 1) en 0 0 ne bl) := hA7
    obtain ⟨v0, v1⟩ := yu (hb7.at hX6 (by omega))
    have hZ7 := hb7.at hZ6 (by omega)
    go_wp2_with (first
     | (refine sL rfl rfl hZ7 (zy 2 1) rfl rfl i32 rfl (yj _ _) ?_; intro w9 hA9 hb9))
    refine zr (zx rfl _ _ w.heap.size 40 (zy 2 1) _ rfl hA9 Tryz.underlying40 rfl i32) rfl ?_
    exact ⟨rfl, HF.out _ _ _ hB6 hA7 hb7 hb9⟩
   have n2 : (T == [116, 114, 117, 101]) = false := by rw [zt]; exact e2
   by_cases e3 : T = [102, 97, 108, 115, 101]
   ·subst e3
    have hl3 : lv = some (2, 0) := by rw [hl2]; rfl
    subst hl3
    clear hl2
    go_wp2_with (first
     | (refine zF rfl rfl (zy 2 0) ?_)
     | (refine sL rfl rfl hA6 (zy 2 0) rfl rfl i32 rfl (yj _ _) ?_; intro x6 hX6 hbx; refine zb ?_))
    refine zd ?_
    have hQ6 := hbx.at hQ6 (by omega)
    have hZ6 := hbx.at hZ6 (by omega)
    have hB6 : Below w.heap.size w x6 := hbx.below hB6 (by omega) hB6.size
    obtain ⟨q0, q1, q2, q3, q4, q5, q6⟩ := zv hQ6
    go_wp2_with (first
     | (refine zz rfl rfl hQ6 1 (.int .i64 ((k : Int) + 1)) rfl rfl i3 ?_; intro w7 hA7 hb7; refine zb ?_))
    refine zd ?_
    have hA7 : At 71 w7 g (q7 (some ⟨gt, 0, none⟩) n c (k + 1) en 0 0 ne bl) := hA7
    obtain ⟨v0, v1⟩ := yu (hb7.at hX6 (by omega))
    have hZ7 := hb7.at hZ6 (by omega)
    go_wp2_with (first
     | (refine sL rfl rfl hZ7 (zy 2 0) rfl rfl i32 rfl (yj _ _) ?_; intro w9 hA9 hb9))
    refine zr (zx rfl _ _ w.heap.size 40 (zy 2 0) _ rfl hA9 Tryz.underlying40 rfl i32) rfl ?_
    exact ⟨rfl, HF.out _ _ _ hB6 hA7 hb7 hb9⟩
   have n3 : (T == [102, 97, 108, 115, 101]) = false := by rw [zt]; exact e3
   have hl3 : lv = none := by rw [hl2, ze e2, ze e3, ze e0, ze e1]
   subst hl3
   clear hl2 e0 e1 e2 e3 HF
   go_wp2_with (first
    | (refine zF rfl rfl (zy 0 0) ?_)
    | (refine sL rfl rfl hZ6 (zy 0 0) rfl rfl i32 rfl (yj _ _) ?_; intro w9 hA9 hb9))
   refine zr (zx rfl _ _ w.heap.size 40 (zy 0 0) _ rfl hA9 Tryz.underlying40 rfl i32) rfl ?_
   exact ⟨rfl, HG.out _ _ hB6 hb9⟩
