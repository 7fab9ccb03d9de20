/- J -/
import Derived.Test.YtjgggmjjikopeaaGreatDoorJ24
set_option linter.unusedVariables false
set_option maxRecDepth 100000
set_option maxHeartbeats 6400000
open Go.RowKit
namespace Go.Proofs.YtjgggmjjikopeaaGreatDoor
theorem Tw.but2 {A k s : Nat} {w w' : World} {y : ET} (h : Tw A w y) (hb : But k w w') (hl : y.Lies (fun j => j < s)) (hk : s <= k) : Tw A w' y :=
 ⟨ET.Sn.up hb.size (ET.Sn.stay (fun j hj hl => hb.block j hl (by omega)) h.1 hl), h.2⟩
theorem zef {B A : Nat} (g : Nat) (L : List Tk) (a : Option Addr) (c k en er pl ne bl : Nat) (he : er ≠ 0) (y : ET) (p : Nat) (w : World) (h : Qd B w g L a c k en er pl ne bl) (hB : B <= w.heap.size) (hT : Tw A w y) :
  Calls Tryz.prog 145 #[.pointer (some ⟨g, 0, none⟩), .agg y.cells.toArray, .int .i64 (p : Int)] w fun r w' => r = .returned (.agg y.cells.toArray) /\ Tw A w' y /\ Qd B w' g L a c k en er pl ne bl /\ But g w w' := by
 have HO : Hid (∀ u, Below w.heap.size w u -> Calls Tryz.prog 30 #[.pointer (some ⟨g, 0, none⟩)] u fun r w' => r = .returned (.bool false) /\ w' = u) := fun u hu => by
  have := zJ g L.length a c k en er pl ne bl u (h.below hu).cell
  rwa [zN he, Bool.false_and] at this
 have HQ : Hid (∀ w', Old w.heap.size w w' -> w.heap.size <= w'.heap.size -> Tw A w' y /\ Qd B w' g L a c k en er pl ne bl) := fun w' h1 h2 => ⟨⟨ET.Sn.up h2 (hT.1.old h1), hT.2⟩, h.keep fun j hj _ => h1 j hj⟩
 obtain ⟨y1, y2, y3, y4, y5, hy⟩ : ∃ y1 y2 y3 y4 y5, y.cells = [y1, y2, y3, y4, y5] := by cases y; exact ⟨_, _, _, _, _, rfl⟩
 have hone := ET.one y
 rw [hy] at hone ⊢
 clear h he hT hy
 go_enter Tryz.func145, Tryz.ntmps145
 go_wp2_with (first
  | (refine yF rfl rfl [y1, y2, y3, y4, y5] rfl ?_; intro w1 hA1 hb1)
  | (refine aL (o := { dst := some 6, .. }) rfl rfl z29 ?_; intro w2 hA2 hb2)
  | (go_at_call 30; refine (HO.out _ (hb1.trans (hb2.mono hb1.size))).mono ?_; rintro r u ⟨rfl, hu⟩; obtain rfl := hu.symm; have hA12 := hA1.below hb2; obtain ⟨c0, c1, c2, c3, c4⟩ := Zl hA12)
  | (refine sL rfl rfl hA2 [y1, y2, y3, y4, y5] rfl rfl i29 rfl hone ?_; intro w9 hA9 hb9))
 refine zr (zh rfl _ _ w1.heap.size 43 [y1, y2, y3, y4, y5] _ rfl hA9 zR rfl i29) rfl ?_
 have hB2 : Below w.heap.size w w2 := hb1.trans (hb2.mono hb1.size)
 have hB9 : Below w.heap.size w w9 := hb9.below hB2 hb1.size hB2.size
 exact ⟨rfl, (HQ.out w9 (Old.of_below hB9 (zj _)) hB9.size).1, (HQ.out w9 (Old.of_below hB9 (zj _)) hB9.size).2, But.of_below hB9⟩
theorem zfw {B A : Nat} (g : Nat) (L : List Tk) (a : Option Addr) (c k en ne bl : Nat) (y : ET) (p : Nat) (w : World) (h : Qd B w g L a c k en 0 0 ne bl) (hB : B <= w.heap.size) (hT : Tw A w y) (hgA : g < A) (hh : htX y.ex <= 1048576) :
  Calls Tryz.prog 145 #[.pointer (some ⟨g, 0, none⟩), .agg y.cells.toArray, .int .i64 (p : Int)] w fun r w' => r = .returned (.agg y.cells.toArray) /\ Tw A w' y /\ (if 32 < htX y.ex then Qd B w' g L a c L.length en 160 p ne bl else Qd B w' g L a c k en 0 0 ne bl) /\ But g w w' := by
 have HO : Hid (∀ u, Below w.heap.size w u -> Calls Tryz.prog 30 #[.pointer (some ⟨g, 0, none⟩)] u fun r w' => r = .returned (.bool true) /\ w' = u) := fun u hu => zJ g L.length a c k en 0 0 ne bl u (h.below hu).cell
 have HH : Hid (∀ u, Below w.heap.size w u -> Calls Tryz.prog 170 #[.agg y.cells.toArray] u fun r w' => r = .returned (.int .i64 (htX y.ex : Int)) /\ Below u.heap.size u w') := fun u hu =>
  qr w.heap.size _ y (Nat.lt_succ_self _) hh u (hT.1.1.old (Old.of_below hu (zj _))) hu.size
 have HB : Hid (∀ u, Qd B u g L a c k en 0 0 ne bl -> Calls Tryz.prog 40 #[.pointer (some ⟨g, 0, none⟩), .int .i64 160, .int .i64 (p : Int)] u fun r w' => r = .returned (.tuple #[]) /\ Qd B w' g L a c L.length en 160 p ne bl /\ But g u w') := fun u hu => by
  have := YJ g L a c k en 0 0 ne bl 160 p u hu
  simpa using this
 have HQ : Hid (∀ w', Old w.heap.size w w' -> w.heap.size <= w'.heap.size -> Tw A w' y /\ Qd B w' g L a c k en 0 0 ne bl) := fun w' h1 h2 => ⟨⟨ET.Sn.up h2 (hT.1.old h1), hT.2⟩, h.keep fun j hj _ => h1 j hj⟩
 have HLs : Hid (y.Lies (fun j => j < w.heap.size)) := (ET.In.lies hT.1.1 hT.2).mono fun j hj => hj.2
 have hlt := h.lt
 obtain ⟨y1, y2, y3, y4, y5, hy⟩ : ∃ y1 y2 y3 y4 y5, y.cells = [y1, y2, y3, y4, y5] := by cases y; exact ⟨_, _, _, _, _, rfl⟩
 have hone := ET.one y
 rw [hy] at hone HH ⊢
 clear h hT hy
 generalize htX y.ex = hX at *
 by_cases hc : 32 < hX
 focus
  simp only [zi hc]
 rotate_left
 focus
  simp only [ze hc]
 rotate_left
 all_goals
  go_enter Tryz.func145, Tryz.ntmps145
  go_wp2_with (first
   | (refine yF rfl rfl [y1, y2, y3, y4, y5] rfl ?_; intro w1 hA1 hb1)
   | (refine aL (o := { dst := some 6, .. }) rfl rfl z29 ?_; intro w2 hA2 hb2)
   | (go_at_call 30; refine (HO.out _ (hb1.trans (hb2.mono hb1.size))).mono ?_; rintro r u ⟨rfl, hu⟩; obtain rfl := hu.symm; have hA12 := hA1.below hb2; obtain ⟨c0, c1, c2, c3, c4⟩ := Zl hA12)
   | (go_at_call 170; refine (HH.out _ (hb1.trans (hb2.mono hb1.size))).mono ?_; rintro r w3 ⟨rfl, hb3⟩; refine zb ?_))
  refine zd ?_
  have l1 := hA1.lt
  have l2 := hA2.lt
  have hB3 : Below w.heap.size w w3 := (hb1.trans (hb2.mono hb1.size)).trans (hb3.mono (zQ hb1.size hb2.size))
 focus
  obtain ⟨hT3, hQ3⟩ := HQ.out w3 (Old.of_below hB3 (zj _)) hB3.size
  have hA13 := hA12.below hb3
  have hA23 := hA2.below hb3
  have hT3' : y.Lies (fun j => j < w.heap.size) := HLs.out
  clear c0 c1 c2 c3 c4 HO HH hb1 hb2 hb3 hA12 hA1 hA2
  go_wp2_with (first
   | (go_at_call 40; refine (HB.out _ hQ3).mono ?_; rintro r w4 ⟨rfl, hQ4, hb4⟩; refine zb ?_))
  refine zd ?_
  obtain ⟨c0, c1, c2, c3, c4⟩ := Zl (hb4.at hA13 (by omega))
  have hA24 := hb4.at hA23 (by omega)
  go_wp2_with (first
   | (refine sL rfl rfl hA24 [y1, y2, y3, y4, y5] rfl rfl i29 rfl hone ?_; intro w9 hA9 hb9))
 rotate_left
 focus
  have hA13 := hA12.below hb3
  have hA23 := hA2.below hb3
  clear c0 c1 c2 c3 c4 HO HH hb1 hb2 hb3 hA12 hA1 hA2
  obtain ⟨c0, c1, c2, c3, c4⟩ := Zl hA13
  go_wp2_with (first
   | (refine sL rfl rfl hA23 [y1, y2, y3, y4, y5] rfl rfl i29 rfl hone ?_; intro w9 hA9 hb9))
 rotate_left
 all_goals
  refine zr (zh rfl _ _ w1.heap.size 43 [y1, y2, y3, y4, y5] _ rfl hA9 zR rfl i29) rfl ?_
 ·exact ⟨rfl, (hT3.but hb4 (.inl hgA)).but2 hb9 hT3' (by omega), hQ4.but hb9 (by omega), ((But.of_below hB3).trans hb4).fresh hb9 (by omega)⟩
 ·have hB9 : Below w.heap.size w w9 := hb9.below hB3 (by omega) hB3.size
  obtain ⟨hT9, hQ9⟩ := HQ.out w9 (Old.of_below hB9 (zj _)) hB9.size
  exact ⟨rfl, hT9, hQ9, But.of_below hB9⟩
