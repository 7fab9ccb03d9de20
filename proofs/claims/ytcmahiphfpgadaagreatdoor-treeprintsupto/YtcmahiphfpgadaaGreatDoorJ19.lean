/- What the statement's first copies do. -/
import Derived.Test.YtcmahiphfpgadaaGreatDoorJ18
import Derived.Test.YtcmahiphfpgadaaGreatDoorJ10
namespace Go.Proofs.YtcmahiphfpgadaaGreatDoor
open Go.RowKit
set_option linter.unusedVariables false

set_option maxRecDepth 100000 in
set_option maxHeartbeats 25600000 in
theorem prints_three (p : PT) (ee : ET) (p1 p2 p3 e1 e2 e3 e4 e5 v1 v2 : Value) (w w1 w2 W : World) (u21 u22 u23 u24 u25 u26 u27 : Value) (hwW : Below w.heap.size w W) (l01 : w.heap.size < w1.heap.size) (l1W : w1.heap.size < W.heap.size) (HS : Hid (At 26 W w.heap.size [p1, p2, p3] ∧ At 34 W w1.heap.size [e1, e2, e3, e4, e5]))
  (H8 : Hid (∀ x, Below w.heap.size w x → Calls Tryz.prog 8 #[.agg #[p1, p2, p3]] x fun r w' => ∃ (y1 y2 y3 : Value) (Y : PT), r = .returned (.agg #[y1, y2, y3]) ∧ Y.cells = [y1, y2, y3] ∧ Y.pg = p.pg ∧ Y.In w'.heap.size w' ∧ Y.Lies (fun k => x.heap.size ≤ k) ∧ Below x.heap.size x w')) (H9 : Hid (∀ x, Below w.heap.size w x → Calls Tryz.prog 9 #[.agg #[e1, e2, e3, e4, e5]] x fun r w' => ∃ (y1 y2 y3 y4 y5 : Value) (Y : ET), r = .returned (.agg #[y1, y2, y3, y4, y5]) ∧ Y.cells = [y1, y2, y3, y4, y5] ∧ Y.ex = ee.ex ∧ Y.In w'.heap.size w' ∧ Y.Lies (fun k => x.heap.size ≤ k) ∧ Below x.heap.size x w')) (ops : Array Oper)
  (hops : ops = #[{ dst := some 28, op := Op.load 26 (Operand.tmp 3), type := 26, pos := "law.go:41", after := #[], guard := none }, { dst := some 29, op := Op.call { callee := Callee.value (Operand.func 8), args := #[Operand.tmp 28], argTypes := #[26] }, type := 26, pos := "law.go:41", after := #[{ on := 0, ground := Ground.data }], guard := none }, { dst := some 30, op := Op.load 34 (Operand.tmp 4), type := 34, pos := "law.go:41", after := #[], guard := none }, { dst := some 31, op := Op.call { callee := Callee.value (Operand.func 9), args := #[Operand.tmp 30], argTypes := #[34] }, type := 34, pos := "law.go:41", after := #[{ on := 2, ground := Ground.data }, { on := 1, ground := Ground.chain }], guard := none }, { dst := some 7, op := Op.alloc 26, type := 0, pos := "law.go:41", after := #[], guard := none }, { dst := some 8, op := Op.alloc 34, type := 0, pos := "law.go:41", after := #[], guard := none }, { dst := none, op := Op.store 26 (Operand.tmp 7) (Operand.tmp 29), type := 0, pos := "law.go:41", after := #[{ on := 4, ground := Ground.data }, { on := 1, ground := Ground.data }, { on := 3, ground := Ground.chain }, { on := 0, ground := Ground.phase }, { on := 1, ground := Ground.phase }, { on := 2, ground := Ground.textOnly Departure.lateStores }, { on := 3, ground := Ground.textOnly Departure.lateStoresUnsure }, { on := 4, ground := Ground.phase }, { on := 5, ground := Ground.phase }], guard := none }, { dst := none, op := Op.store 34 (Operand.tmp 8) (Operand.tmp 31), type := 0, pos := "law.go:41", after := #[{ on := 5, ground := Ground.data }, { on := 3, ground := Ground.data }, { on := 6, ground := Ground.chain }, { on := 0, ground := Ground.phase }, { on := 1, ground := Ground.phase }, { on := 2, ground := Ground.phase }, { on := 3, ground := Ground.phase }, { on := 4, ground := Ground.phase }, { on := 5, ground := Ground.phase }, { on := 6, ground := Ground.phase }], guard := none }]) :
  (Code.region 3 ops true).wp Tryz.prog (fun e a x => e = .normal ∧ ∃ (ga gb : Nat) (a1 a2 a3 f1 f2 f3 f4 f5 : Value), a = { tmps := #[.agg #[p1, p2, p3], .agg #[e1, e2, e3, e4, e5], .agg #[v1, v2], .pointer (some ⟨w.heap.size, 0, none⟩), .pointer (some ⟨w1.heap.size, 0, none⟩), .pointer (some ⟨w2.heap.size, 0, none⟩), .bool false, .pointer (some ⟨ga, 0, none⟩), .pointer (some ⟨gb, 0, none⟩), undef, undef, undef, undef, undef, undef, undef, undef, undef, undef, undef, undef, u21, u22, u23, u24, u25, u26, u27, .agg #[p1, p2, p3], .agg #[a1, a2, a3], .agg #[e1, e2, e3, e4, e5], .agg #[f1, f2, f3, f4, f5], undef, undef, undef, undef, undef, undef, undef, undef, undef, undef, undef, undef, undef, undef, undef, undef, undef, undef, undef, undef, undef, undef, undef, undef, undef, undef, undef, undef, undef, undef, undef, undef, undef, undef, undef, undef, undef, undef, undef, undef, undef, undef, undef, undef, undef, undef, undef, undef, undef, undef, undef, undef, undef, undef, undef, undef, undef, undef, undef, undef, undef, undef, undef, undef, undef, undef, undef, undef, undef, undef, undef], defers := [] } ∧ ∃ (A : PT) (F : ET), A.cells = [a1, a2, a3] ∧ F.cells = [f1, f2, f3, f4, f5] ∧ A.pg = p.pg ∧ F.ex = ee.ex ∧ A.In x.heap.size x ∧ F.In x.heap.size x ∧ At 26 x ga [a1, a2, a3] ∧ At 34 x gb [f1, f2, f3, f4, f5] ∧ Below W.heap.size W x ∧ W.heap.size ≤ ga ∧ W.heap.size ≤ gb) { tmps := #[.agg #[p1, p2, p3], .agg #[e1, e2, e3, e4, e5], .agg #[v1, v2], .pointer (some ⟨w.heap.size, 0, none⟩), .pointer (some ⟨w1.heap.size, 0, none⟩), .pointer (some ⟨w2.heap.size, 0, none⟩), .bool false, undef, undef, undef, undef, undef, undef, undef, undef, undef, undef, undef, undef, undef, undef, u21, u22, u23, u24, u25, u26, u27, undef, undef, undef, undef, undef, undef, undef, undef, undef, undef, undef, undef, undef, undef, undef, undef, undef, undef, undef, undef, undef, undef, undef, undef, undef, undef, undef, undef, undef, undef, undef, undef, undef, undef, undef, undef, undef, undef, undef, undef, undef, undef, undef, undef, undef, undef, undef, undef, undef, undef, undef, undef, undef, undef, undef, undef, undef, undef, undef, undef, undef, undef, undef, undef, undef, undef, undef, undef, undef, undef, undef, undef, undef, undef, undef], defers := [] } W := by
 subst hops
 have hB0 : Below W.heap.size W W.drew := Below.drew (Below.refl _ _)
 have hS0 : At 26 W.drew w.heap.size [p1, p2, p3] ∧ At 34 W.drew w1.heap.size [e1, e2, e3, e4, e5] := ⟨HS.out.1.below hB0, HS.out.2.below hB0⟩
 refine wp_region_held_drew (S := fun x => At 26 x w.heap.size [p1, p2, p3] ∧ At 34 x w1.heap.size [e1, e2, e3, e4, e5]) (by kernel_rfl) hS0 (fun _ => ?_)
 obtain ⟨y0, hy0⟩ : ∃ y, y = W.drew := ⟨_, rfl⟩
 rw [← hy0] at hB0 hS0 ⊢
 clear hy0
 refine wpAnyH_take (i := 0) (oi := { dst := some 28, op := .load 26 (.tmp 3), guard := none, .. }) (v := .agg #[p1, p2, p3]) rfl (by kernel_rfl) (by kernel_rfl) (by kernel_rfl) (fun _ _ _ h => nomatch h.1) (Or.inl ⟨by rfl, ?_⟩) hS0 ?_
 ·intro w hSw
  obtain ⟨z0, z1, z2⟩ := pg_cells hSw.1
  go_simp
 simp only [Act.put, sA, sB, sC]
 refine wpAnyH_take (i := 2) (oi := { dst := some 30, op := .load 34 (.tmp 4), guard := none, .. }) (v := .agg #[e1, e2, e3, e4, e5]) rfl (by kernel_rfl) (by kernel_rfl) (by kernel_rfl) (fun _ _ _ h => nomatch h.1) (Or.inl ⟨by rfl, ?_⟩) hS0 ?_
 ·intro w hSw
  obtain ⟨z0, z1, z2, z3, z4⟩ := ex_cells5 hSw.2
  go_simp
 simp only [Act.put, sA, sB, sC]
 refine wpAnyH_ready (rs := [1, 4, 5]) (by kernel_rfl) (by simp) ?_
 refine AllReadyH.cons (o := { dst := some 29, op := .call { callee := .value (.func 8), args := #[.tmp 28], argTypes := #[26] }, guard := none, .. }) rfl (fun K hK => ?_) (AllReadyH.cons (o := { dst := some 7, op := .alloc 26, guard := none, .. }) rfl (fun K hK => ?_) (AllReadyH.cons (o := { dst := some 8, op := .alloc 34, guard := none, .. }) rfl (fun K hK => ?_) (AllReadyH.nil)))
 ·skip
  rw [if_pos (by rfl)]
  go_wp2_with (go_at_call 8; refine (H8.out _ (hwW.trans (hB0.mono hwW.size))).mono ?_; rintro e y1 ⟨a1, a2, a3, A, rfl, hAc, hAp, hAi, hAl, hb⟩)
  have hB1 := hB0.trans (hb.mono hB0.size)
  have hS1 : At 26 y1 w.heap.size [p1, p2, p3] ∧ At 34 y1 w1.heap.size [e1, e2, e3, e4, e5] := ⟨HS.out.1.below hB1, HS.out.2.below hB1⟩
  have s1 : y0.heap.size ≤ y1.heap.size := hb.size
  have hAl := hAi.lies hAl
  clear hb
  refine hK.out _ _ hS1 (fun _ => ?_)
  refine wpAnyH_ready (rs := [3, 4, 5]) (by kernel_rfl) (by simp) ?_
  refine AllReadyH.cons (o := { dst := some 31, op := .call { callee := .value (.func 9), args := #[.tmp 30], argTypes := #[34] }, guard := none, .. }) rfl (fun K hK => ?_) (AllReadyH.cons (o := { dst := some 7, op := .alloc 26, guard := none, .. }) rfl (fun K hK => ?_) (AllReadyH.cons (o := { dst := some 8, op := .alloc 34, guard := none, .. }) rfl (fun K hK => ?_) (AllReadyH.nil)))
  ·skip
   rw [if_pos (by rfl)]
   go_wp2_with (go_at_call 9; refine (H9.out _ (hwW.trans (hB1.mono hwW.size))).mono ?_; rintro e y2 ⟨f1, f2, f3, f4, f5, F, rfl, hFc, hFp, hFi, hFl, hb⟩)
   have hB2 := hB1.trans (hb.mono hB1.size)
   have hS2 : At 26 y2 w.heap.size [p1, p2, p3] ∧ At 34 y2 w1.heap.size [e1, e2, e3, e4, e5] := ⟨HS.out.1.below hB2, HS.out.2.below hB2⟩
   have s2 : y1.heap.size ≤ y2.heap.size := hb.size
   have hAi := (hAi.old (Old.of_below hb (Nat.le_refl _))).up hb.size
   have hFl := hFi.lies hFl
   clear hb
   refine hK.out _ _ hS2 (fun _ => ?_)
   refine wpAnyH_ready (rs := [4, 5]) (by kernel_rfl) (by simp) ?_
   refine AllReadyH.cons (o := { dst := some 7, op := .alloc 26, guard := none, .. }) rfl (fun K hK => ?_) (AllReadyH.cons (o := { dst := some 8, op := .alloc 34, guard := none, .. }) rfl (fun K hK => ?_) (AllReadyH.nil))
   ·skip
    rw [if_pos (by rfl)]
    refine wp_alloc_at 26 rfl _ 3 z46' ?_
    intro y3 hAga hb hsz
    obtain ⟨ga, hga⟩ : ∃ g, Hid (g = y2.heap.size) := ⟨_, (rfl : y2.heap.size = _)⟩
    rw [← hga.out] at hAga ⊢
    have lga : ga < y3.heap.size := hAga.lt
    have hB3 := hB2.trans (hb.mono hB2.size)
    have hS3 : At 26 y3 w.heap.size [p1, p2, p3] ∧ At 34 y3 w1.heap.size [e1, e2, e3, e4, e5] := ⟨HS.out.1.below hB3, HS.out.2.below hB3⟩
    have s3 : y2.heap.size ≤ y3.heap.size := hb.size
    have hAi := (hAi.old (Old.of_below hb (Nat.le_refl _))).up hb.size
    have hFi := (hFi.old (Old.of_below hb (Nat.le_refl _))).up hb.size
    clear hb
    refine hK.out _ _ hS3 (fun _ => ?_)
    refine wpAnyH_ready (rs := [5]) (by kernel_rfl) (by simp) ?_
    refine AllReadyH.cons (o := { dst := some 8, op := .alloc 34, guard := none, .. }) rfl (fun K hK => ?_) (AllReadyH.nil)
    rw [if_pos (by rfl)]
    refine wp_alloc_at 34 rfl _ 5 z29 ?_
    intro y4 hAgb hb hsz
    obtain ⟨gb, hgb⟩ : ∃ g, Hid (g = y3.heap.size) := ⟨_, (rfl : y3.heap.size = _)⟩
    rw [← hgb.out] at hAgb ⊢
    have lgb : gb < y4.heap.size := hAgb.lt
    have hB4 := hB3.trans (hb.mono hB3.size)
    have hS4 : At 26 y4 w.heap.size [p1, p2, p3] ∧ At 34 y4 w1.heap.size [e1, e2, e3, e4, e5] := ⟨HS.out.1.below hB4, HS.out.2.below hB4⟩
    have s4 : y3.heap.size ≤ y4.heap.size := hb.size
    have hAi := (hAi.old (Old.of_below hb (Nat.le_refl _))).up hb.size
    have hFi := (hFi.old (Old.of_below hb (Nat.le_refl _))).up hb.size
    have hAga := hAga.below hb
    clear hb
    refine hK.out _ _ hS4 (fun _ => ?_)
    have hWs := hB0.size
    have hga := hga.out
    have hgb := hgb.out
    have hne : ga ≠ gb := by omega
    refine wpAnyH_ready (rs := [6]) (by kernel_rfl) (by simp) ?_
    refine AllReadyH.cons (o := { dst := none, op := .store 26 (.tmp 7) (.tmp 29), guard := none, .. }) rfl (fun K hK => ?_) AllReadyH.nil
    rw [if_pos (by rfl)]
    have hoA := PT.one A
    have hoF := ET.one F
    rw [hAc] at hoA
    rw [hFc] at hoF
    refine wp_store_mid (P := Tryz.prog) 26 (.tmp 7) (.tmp 29) rfl ga 0 ([a1, a2, a3]).toArray rfl rfl (hAga.there 0 _ (Nat.le_refl _)) i46 (all_oneCell_toArray hoA) ?_
    have t1 : But ga y4 (y4.setCells ga 0 [a1, a2, a3]) := But.setCells _ 0 _ (But.refl _ _)
    have hAga1 : At 26 (y4.setCells ga 0 [a1, a2, a3]) ga [a1, a2, a3] := At.setCells _ 0 _ _ hAga
    have hAgb1 := t1.at hAgb (by omega)
    have hS8 : At 26 (y4.setCells ga 0 [a1, a2, a3]) w.heap.size [p1, p2, p3] ∧ At 34 (y4.setCells ga 0 [a1, a2, a3]) w1.heap.size [e1, e2, e3, e4, e5] := ⟨t1.at hS4.1 (by omega), t1.at hS4.2 (by omega)⟩
    have hB8 : Below W.heap.size W (y4.setCells ga 0 [a1, a2, a3]) := t1.below hB4 (by omega) hB4.size
    refine hK.out _ _ hS8 (fun _ => ?_)
    refine wpAnyH_ready (rs := [7]) (by kernel_rfl) (by simp) ?_
    refine AllReadyH.cons (o := { dst := none, op := .store 34 (.tmp 8) (.tmp 31), guard := none, .. }) rfl (fun K hK => ?_) AllReadyH.nil
    rw [if_pos (by rfl)]
    refine wp_store_mid (P := Tryz.prog) 34 (.tmp 8) (.tmp 31) rfl gb 0 ([f1, f2, f3, f4, f5]).toArray rfl rfl (hAgb1.there 0 _ (Nat.le_refl _)) i29 (all_oneCell_toArray hoF) ?_
    have t2 : But gb (y4.setCells ga 0 [a1, a2, a3]) ((y4.setCells ga 0 [a1, a2, a3]).setCells gb 0 [f1, f2, f3, f4, f5]) := But.setCells _ 0 _ (But.refl _ _)
    have hAgb2 : At 34 ((y4.setCells ga 0 [a1, a2, a3]).setCells gb 0 [f1, f2, f3, f4, f5]) gb [f1, f2, f3, f4, f5] := At.setCells _ 0 _ _ hAgb1
    have hAga2 := t2.at hAga1 (by omega)
    have hS9 : At 26 ((y4.setCells ga 0 [a1, a2, a3]).setCells gb 0 [f1, f2, f3, f4, f5]) w.heap.size [p1, p2, p3] ∧ At 34 ((y4.setCells ga 0 [a1, a2, a3]).setCells gb 0 [f1, f2, f3, f4, f5]) w1.heap.size [e1, e2, e3, e4, e5] := ⟨t2.at hS8.1 (by omega), t2.at hS8.2 (by omega)⟩
    have hB9 : Below W.heap.size W ((y4.setCells ga 0 [a1, a2, a3]).setCells gb 0 [f1, f2, f3, f4, f5]) := t2.below hB8 (by omega) hB8.size
    have e1' := size_setCells ga [a1, a2, a3] 0 y4
    have e2' := size_setCells gb [f1, f2, f3, f4, f5] 0 (y4.setCells ga 0 [a1, a2, a3])
    have hst : ∀ k, k ≠ ga → k ≠ gb → k < y4.heap.size → ((y4.setCells ga 0 [a1, a2, a3]).setCells gb 0 [f1, f2, f3, f4, f5]).heap[k]? = y4.heap[k]? := fun k h1 h2 h3 => by rw [t2.block k (by omega) h2, t1.block k h3 h1]
    have fA : A.In ((y4.setCells ga 0 [a1, a2, a3]).setCells gb 0 [f1, f2, f3, f4, f5]).heap.size ((y4.setCells ga 0 [a1, a2, a3]).setCells gb 0 [f1, f2, f3, f4, f5]) := by
     rw [e2', e1']
     exact PT.In.stay (fun k hk hl => hst k (by omega) (by omega) hl) hAi hAl
    have fF : F.In ((y4.setCells ga 0 [a1, a2, a3]).setCells gb 0 [f1, f2, f3, f4, f5]).heap.size ((y4.setCells ga 0 [a1, a2, a3]).setCells gb 0 [f1, f2, f3, f4, f5]) := by
     rw [e2', e1']
     exact ET.In.stay (fun k hk hl => hst k (by omega) (by omega) hl) hFi hFl
    refine hK.out _ _ hS9 (fun _ => ?_)
    refine wpAnyH_done (by kernel_rfl) ?_ _
    exact ⟨rfl, ga, gb, a1, a2, a3, f1, f2, f3, f4, f5, rfl, A, F, hAc, hFc, hAp, hFp, fA, fF, hAga2, hAgb2, hB9, by omega, by omega⟩
   ·skip
    rw [if_pos (by rfl)]
    refine wp_alloc_at 34 rfl _ 5 z29 ?_
    intro y3 hAgb hb hsz
    obtain ⟨gb, hgb⟩ : ∃ g, Hid (g = y2.heap.size) := ⟨_, (rfl : y2.heap.size = _)⟩
    rw [← hgb.out] at hAgb ⊢
    have lgb : gb < y3.heap.size := hAgb.lt
    have hB3 := hB2.trans (hb.mono hB2.size)
    have hS3 : At 26 y3 w.heap.size [p1, p2, p3] ∧ At 34 y3 w1.heap.size [e1, e2, e3, e4, e5] := ⟨HS.out.1.below hB3, HS.out.2.below hB3⟩
    have s3 : y2.heap.size ≤ y3.heap.size := hb.size
    have hAi := (hAi.old (Old.of_below hb (Nat.le_refl _))).up hb.size
    have hFi := (hFi.old (Old.of_below hb (Nat.le_refl _))).up hb.size
    clear hb
    refine hK.out _ _ hS3 (fun _ => ?_)
    refine wpAnyH_ready (rs := [4]) (by kernel_rfl) (by simp) ?_
    refine AllReadyH.cons (o := { dst := some 7, op := .alloc 26, guard := none, .. }) rfl (fun K hK => ?_) (AllReadyH.nil)
    rw [if_pos (by rfl)]
    refine wp_alloc_at 26 rfl _ 3 z46' ?_
    intro y4 hAga hb hsz
    obtain ⟨ga, hga⟩ : ∃ g, Hid (g = y3.heap.size) := ⟨_, (rfl : y3.heap.size = _)⟩
    rw [← hga.out] at hAga ⊢
    have lga : ga < y4.heap.size := hAga.lt
    have hB4 := hB3.trans (hb.mono hB3.size)
    have hS4 : At 26 y4 w.heap.size [p1, p2, p3] ∧ At 34 y4 w1.heap.size [e1, e2, e3, e4, e5] := ⟨HS.out.1.below hB4, HS.out.2.below hB4⟩
    have s4 : y3.heap.size ≤ y4.heap.size := hb.size
    have hAi := (hAi.old (Old.of_below hb (Nat.le_refl _))).up hb.size
    have hFi := (hFi.old (Old.of_below hb (Nat.le_refl _))).up hb.size
    have hAgb := hAgb.below hb
    clear hb
    refine hK.out _ _ hS4 (fun _ => ?_)
    have hWs := hB0.size
    have hga := hga.out
    have hgb := hgb.out
    have hne : ga ≠ gb := by omega
    refine wpAnyH_ready (rs := [6]) (by kernel_rfl) (by simp) ?_
    refine AllReadyH.cons (o := { dst := none, op := .store 26 (.tmp 7) (.tmp 29), guard := none, .. }) rfl (fun K hK => ?_) AllReadyH.nil
    rw [if_pos (by rfl)]
    have hoA := PT.one A
    have hoF := ET.one F
    rw [hAc] at hoA
    rw [hFc] at hoF
    refine wp_store_mid (P := Tryz.prog) 26 (.tmp 7) (.tmp 29) rfl ga 0 ([a1, a2, a3]).toArray rfl rfl (hAga.there 0 _ (Nat.le_refl _)) i46 (all_oneCell_toArray hoA) ?_
    have t1 : But ga y4 (y4.setCells ga 0 [a1, a2, a3]) := But.setCells _ 0 _ (But.refl _ _)
    have hAga1 : At 26 (y4.setCells ga 0 [a1, a2, a3]) ga [a1, a2, a3] := At.setCells _ 0 _ _ hAga
    have hAgb1 := t1.at hAgb (by omega)
    have hS8 : At 26 (y4.setCells ga 0 [a1, a2, a3]) w.heap.size [p1, p2, p3] ∧ At 34 (y4.setCells ga 0 [a1, a2, a3]) w1.heap.size [e1, e2, e3, e4, e5] := ⟨t1.at hS4.1 (by omega), t1.at hS4.2 (by omega)⟩
    have hB8 : Below W.heap.size W (y4.setCells ga 0 [a1, a2, a3]) := t1.below hB4 (by omega) hB4.size
    refine hK.out _ _ hS8 (fun _ => ?_)
    refine wpAnyH_ready (rs := [7]) (by kernel_rfl) (by simp) ?_
    refine AllReadyH.cons (o := { dst := none, op := .store 34 (.tmp 8) (.tmp 31), guard := none, .. }) rfl (fun K hK => ?_) AllReadyH.nil
    rw [if_pos (by rfl)]
    refine wp_store_mid (P := Tryz.prog) 34 (.tmp 8) (.tmp 31) rfl gb 0 ([f1, f2, f3, f4, f5]).toArray rfl rfl (hAgb1.there 0 _ (Nat.le_refl _)) i29 (all_oneCell_toArray hoF) ?_
    have t2 : But gb (y4.setCells ga 0 [a1, a2, a3]) ((y4.setCells ga 0 [a1, a2, a3]).setCells gb 0 [f1, f2, f3, f4, f5]) := But.setCells _ 0 _ (But.refl _ _)
    have hAgb2 : At 34 ((y4.setCells ga 0 [a1, a2, a3]).setCells gb 0 [f1, f2, f3, f4, f5]) gb [f1, f2, f3, f4, f5] := At.setCells _ 0 _ _ hAgb1
    have hAga2 := t2.at hAga1 (by omega)
    have hS9 : At 26 ((y4.setCells ga 0 [a1, a2, a3]).setCells gb 0 [f1, f2, f3, f4, f5]) w.heap.size [p1, p2, p3] ∧ At 34 ((y4.setCells ga 0 [a1, a2, a3]).setCells gb 0 [f1, f2, f3, f4, f5]) w1.heap.size [e1, e2, e3, e4, e5] := ⟨t2.at hS8.1 (by omega), t2.at hS8.2 (by omega)⟩
    have hB9 : Below W.heap.size W ((y4.setCells ga 0 [a1, a2, a3]).setCells gb 0 [f1, f2, f3, f4, f5]) := t2.below hB8 (by omega) hB8.size
    have e1' := size_setCells ga [a1, a2, a3] 0 y4
    have e2' := size_setCells gb [f1, f2, f3, f4, f5] 0 (y4.setCells ga 0 [a1, a2, a3])
    have hst : ∀ k, k ≠ ga → k ≠ gb → k < y4.heap.size → ((y4.setCells ga 0 [a1, a2, a3]).setCells gb 0 [f1, f2, f3, f4, f5]).heap[k]? = y4.heap[k]? := fun k h1 h2 h3 => by rw [t2.block k (by omega) h2, t1.block k h3 h1]
    have fA : A.In ((y4.setCells ga 0 [a1, a2, a3]).setCells gb 0 [f1, f2, f3, f4, f5]).heap.size ((y4.setCells ga 0 [a1, a2, a3]).setCells gb 0 [f1, f2, f3, f4, f5]) := by
     rw [e2', e1']
     exact PT.In.stay (fun k hk hl => hst k (by omega) (by omega) hl) hAi hAl
    have fF : F.In ((y4.setCells ga 0 [a1, a2, a3]).setCells gb 0 [f1, f2, f3, f4, f5]).heap.size ((y4.setCells ga 0 [a1, a2, a3]).setCells gb 0 [f1, f2, f3, f4, f5]) := by
     rw [e2', e1']
     exact ET.In.stay (fun k hk hl => hst k (by omega) (by omega) hl) hFi hFl
    refine hK.out _ _ hS9 (fun _ => ?_)
    refine wpAnyH_done (by kernel_rfl) ?_ _
    exact ⟨rfl, ga, gb, a1, a2, a3, f1, f2, f3, f4, f5, rfl, A, F, hAc, hFc, hAp, hFp, fA, fF, hAga2, hAgb2, hB9, by omega, by omega⟩
  ·skip
   rw [if_pos (by rfl)]
   refine wp_alloc_at 26 rfl _ 3 z46' ?_
   intro y2 hAga hb hsz
   obtain ⟨ga, hga⟩ : ∃ g, Hid (g = y1.heap.size) := ⟨_, (rfl : y1.heap.size = _)⟩
   rw [← hga.out] at hAga ⊢
   have lga : ga < y2.heap.size := hAga.lt
   have hB2 := hB1.trans (hb.mono hB1.size)
   have hS2 : At 26 y2 w.heap.size [p1, p2, p3] ∧ At 34 y2 w1.heap.size [e1, e2, e3, e4, e5] := ⟨HS.out.1.below hB2, HS.out.2.below hB2⟩
   have s2 : y1.heap.size ≤ y2.heap.size := hb.size
   have hAi := (hAi.old (Old.of_below hb (Nat.le_refl _))).up hb.size
   clear hb
   refine hK.out _ _ hS2 (fun _ => ?_)
   refine wpAnyH_ready (rs := [3, 5]) (by kernel_rfl) (by simp) ?_
   refine AllReadyH.cons (o := { dst := some 31, op := .call { callee := .value (.func 9), args := #[.tmp 30], argTypes := #[34] }, guard := none, .. }) rfl (fun K hK => ?_) (AllReadyH.cons (o := { dst := some 8, op := .alloc 34, guard := none, .. }) rfl (fun K hK => ?_) (AllReadyH.nil))
   ·skip
    rw [if_pos (by rfl)]
    go_wp2_with (go_at_call 9; refine (H9.out _ (hwW.trans (hB2.mono hwW.size))).mono ?_; rintro e y3 ⟨f1, f2, f3, f4, f5, F, rfl, hFc, hFp, hFi, hFl, hb⟩)
    have hB3 := hB2.trans (hb.mono hB2.size)
    have hS3 : At 26 y3 w.heap.size [p1, p2, p3] ∧ At 34 y3 w1.heap.size [e1, e2, e3, e4, e5] := ⟨HS.out.1.below hB3, HS.out.2.below hB3⟩
    have s3 : y2.heap.size ≤ y3.heap.size := hb.size
    have hAi := (hAi.old (Old.of_below hb (Nat.le_refl _))).up hb.size
    have hAga := hAga.below hb
    have hFl := hFi.lies hFl
    clear hb
    refine hK.out _ _ hS3 (fun _ => ?_)
    refine wpAnyH_ready (rs := [5]) (by kernel_rfl) (by simp) ?_
    refine AllReadyH.cons (o := { dst := some 8, op := .alloc 34, guard := none, .. }) rfl (fun K hK => ?_) (AllReadyH.nil)
    rw [if_pos (by rfl)]
    refine wp_alloc_at 34 rfl _ 5 z29 ?_
    intro y4 hAgb hb hsz
    obtain ⟨gb, hgb⟩ : ∃ g, Hid (g = y3.heap.size) := ⟨_, (rfl : y3.heap.size = _)⟩
    rw [← hgb.out] at hAgb ⊢
    have lgb : gb < y4.heap.size := hAgb.lt
    have hB4 := hB3.trans (hb.mono hB3.size)
    have hS4 : At 26 y4 w.heap.size [p1, p2, p3] ∧ At 34 y4 w1.heap.size [e1, e2, e3, e4, e5] := ⟨HS.out.1.below hB4, HS.out.2.below hB4⟩
    have s4 : y3.heap.size ≤ y4.heap.size := hb.size
    have hAi := (hAi.old (Old.of_below hb (Nat.le_refl _))).up hb.size
    have hFi := (hFi.old (Old.of_below hb (Nat.le_refl _))).up hb.size
    have hAga := hAga.below hb
    clear hb
    refine hK.out _ _ hS4 (fun _ => ?_)
    have hWs := hB0.size
    have hga := hga.out
    have hgb := hgb.out
    have hne : ga ≠ gb := by omega
    refine wpAnyH_ready (rs := [6]) (by kernel_rfl) (by simp) ?_
    refine AllReadyH.cons (o := { dst := none, op := .store 26 (.tmp 7) (.tmp 29), guard := none, .. }) rfl (fun K hK => ?_) AllReadyH.nil
    rw [if_pos (by rfl)]
    have hoA := PT.one A
    have hoF := ET.one F
    rw [hAc] at hoA
    rw [hFc] at hoF
    refine wp_store_mid (P := Tryz.prog) 26 (.tmp 7) (.tmp 29) rfl ga 0 ([a1, a2, a3]).toArray rfl rfl (hAga.there 0 _ (Nat.le_refl _)) i46 (all_oneCell_toArray hoA) ?_
    have t1 : But ga y4 (y4.setCells ga 0 [a1, a2, a3]) := But.setCells _ 0 _ (But.refl _ _)
    have hAga1 : At 26 (y4.setCells ga 0 [a1, a2, a3]) ga [a1, a2, a3] := At.setCells _ 0 _ _ hAga
    have hAgb1 := t1.at hAgb (by omega)
    have hS8 : At 26 (y4.setCells ga 0 [a1, a2, a3]) w.heap.size [p1, p2, p3] ∧ At 34 (y4.setCells ga 0 [a1, a2, a3]) w1.heap.size [e1, e2, e3, e4, e5] := ⟨t1.at hS4.1 (by omega), t1.at hS4.2 (by omega)⟩
    have hB8 : Below W.heap.size W (y4.setCells ga 0 [a1, a2, a3]) := t1.below hB4 (by omega) hB4.size
    refine hK.out _ _ hS8 (fun _ => ?_)
    refine wpAnyH_ready (rs := [7]) (by kernel_rfl) (by simp) ?_
    refine AllReadyH.cons (o := { dst := none, op := .store 34 (.tmp 8) (.tmp 31), guard := none, .. }) rfl (fun K hK => ?_) AllReadyH.nil
    rw [if_pos (by rfl)]
    refine wp_store_mid (P := Tryz.prog) 34 (.tmp 8) (.tmp 31) rfl gb 0 ([f1, f2, f3, f4, f5]).toArray rfl rfl (hAgb1.there 0 _ (Nat.le_refl _)) i29 (all_oneCell_toArray hoF) ?_
    have t2 : But gb (y4.setCells ga 0 [a1, a2, a3]) ((y4.setCells ga 0 [a1, a2, a3]).setCells gb 0 [f1, f2, f3, f4, f5]) := But.setCells _ 0 _ (But.refl _ _)
    have hAgb2 : At 34 ((y4.setCells ga 0 [a1, a2, a3]).setCells gb 0 [f1, f2, f3, f4, f5]) gb [f1, f2, f3, f4, f5] := At.setCells _ 0 _ _ hAgb1
    have hAga2 := t2.at hAga1 (by omega)
    have hS9 : At 26 ((y4.setCells ga 0 [a1, a2, a3]).setCells gb 0 [f1, f2, f3, f4, f5]) w.heap.size [p1, p2, p3] ∧ At 34 ((y4.setCells ga 0 [a1, a2, a3]).setCells gb 0 [f1, f2, f3, f4, f5]) w1.heap.size [e1, e2, e3, e4, e5] := ⟨t2.at hS8.1 (by omega), t2.at hS8.2 (by omega)⟩
    have hB9 : Below W.heap.size W ((y4.setCells ga 0 [a1, a2, a3]).setCells gb 0 [f1, f2, f3, f4, f5]) := t2.below hB8 (by omega) hB8.size
    have e1' := size_setCells ga [a1, a2, a3] 0 y4
    have e2' := size_setCells gb [f1, f2, f3, f4, f5] 0 (y4.setCells ga 0 [a1, a2, a3])
    have hst : ∀ k, k ≠ ga → k ≠ gb → k < y4.heap.size → ((y4.setCells ga 0 [a1, a2, a3]).setCells gb 0 [f1, f2, f3, f4, f5]).heap[k]? = y4.heap[k]? := fun k h1 h2 h3 => by rw [t2.block k (by omega) h2, t1.block k h3 h1]
    have fA : A.In ((y4.setCells ga 0 [a1, a2, a3]).setCells gb 0 [f1, f2, f3, f4, f5]).heap.size ((y4.setCells ga 0 [a1, a2, a3]).setCells gb 0 [f1, f2, f3, f4, f5]) := by
     rw [e2', e1']
     exact PT.In.stay (fun k hk hl => hst k (by omega) (by omega) hl) hAi hAl
    have fF : F.In ((y4.setCells ga 0 [a1, a2, a3]).setCells gb 0 [f1, f2, f3, f4, f5]).heap.size ((y4.setCells ga 0 [a1, a2, a3]).setCells gb 0 [f1, f2, f3, f4, f5]) := by
     rw [e2', e1']
     exact ET.In.stay (fun k hk hl => hst k (by omega) (by omega) hl) hFi hFl
    refine hK.out _ _ hS9 (fun _ => ?_)
    refine wpAnyH_done (by kernel_rfl) ?_ _
    exact ⟨rfl, ga, gb, a1, a2, a3, f1, f2, f3, f4, f5, rfl, A, F, hAc, hFc, hAp, hFp, fA, fF, hAga2, hAgb2, hB9, by omega, by omega⟩
   ·skip
    rw [if_pos (by rfl)]
    refine wp_alloc_at 34 rfl _ 5 z29 ?_
    intro y3 hAgb hb hsz
    obtain ⟨gb, hgb⟩ : ∃ g, Hid (g = y2.heap.size) := ⟨_, (rfl : y2.heap.size = _)⟩
    rw [← hgb.out] at hAgb ⊢
    have lgb : gb < y3.heap.size := hAgb.lt
    have hB3 := hB2.trans (hb.mono hB2.size)
    have hS3 : At 26 y3 w.heap.size [p1, p2, p3] ∧ At 34 y3 w1.heap.size [e1, e2, e3, e4, e5] := ⟨HS.out.1.below hB3, HS.out.2.below hB3⟩
    have s3 : y2.heap.size ≤ y3.heap.size := hb.size
    have hAi := (hAi.old (Old.of_below hb (Nat.le_refl _))).up hb.size
    have hAga := hAga.below hb
    clear hb
    refine hK.out _ _ hS3 (fun _ => ?_)
    refine wpAnyH_ready (rs := [3]) (by kernel_rfl) (by simp) ?_
    refine AllReadyH.cons (o := { dst := some 31, op := .call { callee := .value (.func 9), args := #[.tmp 30], argTypes := #[34] }, guard := none, .. }) rfl (fun K hK => ?_) (AllReadyH.nil)
    rw [if_pos (by rfl)]
    go_wp2_with (go_at_call 9; refine (H9.out _ (hwW.trans (hB3.mono hwW.size))).mono ?_; rintro e y4 ⟨f1, f2, f3, f4, f5, F, rfl, hFc, hFp, hFi, hFl, hb⟩)
    have hB4 := hB3.trans (hb.mono hB3.size)
    have hS4 : At 26 y4 w.heap.size [p1, p2, p3] ∧ At 34 y4 w1.heap.size [e1, e2, e3, e4, e5] := ⟨HS.out.1.below hB4, HS.out.2.below hB4⟩
    have s4 : y3.heap.size ≤ y4.heap.size := hb.size
    have hAi := (hAi.old (Old.of_below hb (Nat.le_refl _))).up hb.size
    have hAga := hAga.below hb
    have hAgb := hAgb.below hb
    have hFl := hFi.lies hFl
    clear hb
    refine hK.out _ _ hS4 (fun _ => ?_)
    have hWs := hB0.size
    have hga := hga.out
    have hgb := hgb.out
    have hne : ga ≠ gb := by omega
    refine wpAnyH_ready (rs := [6]) (by kernel_rfl) (by simp) ?_
    refine AllReadyH.cons (o := { dst := none, op := .store 26 (.tmp 7) (.tmp 29), guard := none, .. }) rfl (fun K hK => ?_) AllReadyH.nil
    rw [if_pos (by rfl)]
    have hoA := PT.one A
    have hoF := ET.one F
    rw [hAc] at hoA
    rw [hFc] at hoF
    refine wp_store_mid (P := Tryz.prog) 26 (.tmp 7) (.tmp 29) rfl ga 0 ([a1, a2, a3]).toArray rfl rfl (hAga.there 0 _ (Nat.le_refl _)) i46 (all_oneCell_toArray hoA) ?_
    have t1 : But ga y4 (y4.setCells ga 0 [a1, a2, a3]) := But.setCells _ 0 _ (But.refl _ _)
    have hAga1 : At 26 (y4.setCells ga 0 [a1, a2, a3]) ga [a1, a2, a3] := At.setCells _ 0 _ _ hAga
    have hAgb1 := t1.at hAgb (by omega)
    have hS8 : At 26 (y4.setCells ga 0 [a1, a2, a3]) w.heap.size [p1, p2, p3] ∧ At 34 (y4.setCells ga 0 [a1, a2, a3]) w1.heap.size [e1, e2, e3, e4, e5] := ⟨t1.at hS4.1 (by omega), t1.at hS4.2 (by omega)⟩
    have hB8 : Below W.heap.size W (y4.setCells ga 0 [a1, a2, a3]) := t1.below hB4 (by omega) hB4.size
    refine hK.out _ _ hS8 (fun _ => ?_)
    refine wpAnyH_ready (rs := [7]) (by kernel_rfl) (by simp) ?_
    refine AllReadyH.cons (o := { dst := none, op := .store 34 (.tmp 8) (.tmp 31), guard := none, .. }) rfl (fun K hK => ?_) AllReadyH.nil
    rw [if_pos (by rfl)]
    refine wp_store_mid (P := Tryz.prog) 34 (.tmp 8) (.tmp 31) rfl gb 0 ([f1, f2, f3, f4, f5]).toArray rfl rfl (hAgb1.there 0 _ (Nat.le_refl _)) i29 (all_oneCell_toArray hoF) ?_
    have t2 : But gb (y4.setCells ga 0 [a1, a2, a3]) ((y4.setCells ga 0 [a1, a2, a3]).setCells gb 0 [f1, f2, f3, f4, f5]) := But.setCells _ 0 _ (But.refl _ _)
    have hAgb2 : At 34 ((y4.setCells ga 0 [a1, a2, a3]).setCells gb 0 [f1, f2, f3, f4, f5]) gb [f1, f2, f3, f4, f5] := At.setCells _ 0 _ _ hAgb1
    have hAga2 := t2.at hAga1 (by omega)
    have hS9 : At 26 ((y4.setCells ga 0 [a1, a2, a3]).setCells gb 0 [f1, f2, f3, f4, f5]) w.heap.size [p1, p2, p3] ∧ At 34 ((y4.setCells ga 0 [a1, a2, a3]).setCells gb 0 [f1, f2, f3, f4, f5]) w1.heap.size [e1, e2, e3, e4, e5] := ⟨t2.at hS8.1 (by omega), t2.at hS8.2 (by omega)⟩
    have hB9 : Below W.heap.size W ((y4.setCells ga 0 [a1, a2, a3]).setCells gb 0 [f1, f2, f3, f4, f5]) := t2.below hB8 (by omega) hB8.size
    have e1' := size_setCells ga [a1, a2, a3] 0 y4
    have e2' := size_setCells gb [f1, f2, f3, f4, f5] 0 (y4.setCells ga 0 [a1, a2, a3])
    have hst : ∀ k, k ≠ ga → k ≠ gb → k < y4.heap.size → ((y4.setCells ga 0 [a1, a2, a3]).setCells gb 0 [f1, f2, f3, f4, f5]).heap[k]? = y4.heap[k]? := fun k h1 h2 h3 => by rw [t2.block k (by omega) h2, t1.block k h3 h1]
    have fA : A.In ((y4.setCells ga 0 [a1, a2, a3]).setCells gb 0 [f1, f2, f3, f4, f5]).heap.size ((y4.setCells ga 0 [a1, a2, a3]).setCells gb 0 [f1, f2, f3, f4, f5]) := by
     rw [e2', e1']
     exact PT.In.stay (fun k hk hl => hst k (by omega) (by omega) hl) hAi hAl
    have fF : F.In ((y4.setCells ga 0 [a1, a2, a3]).setCells gb 0 [f1, f2, f3, f4, f5]).heap.size ((y4.setCells ga 0 [a1, a2, a3]).setCells gb 0 [f1, f2, f3, f4, f5]) := by
     rw [e2', e1']
     exact ET.In.stay (fun k hk hl => hst k (by omega) (by omega) hl) hFi hFl
    refine hK.out _ _ hS9 (fun _ => ?_)
    refine wpAnyH_done (by kernel_rfl) ?_ _
    exact ⟨rfl, ga, gb, a1, a2, a3, f1, f2, f3, f4, f5, rfl, A, F, hAc, hFc, hAp, hFp, fA, fF, hAga2, hAgb2, hB9, by omega, by omega⟩
  ·skip
   rw [if_pos (by rfl)]
   refine wp_alloc_at 34 rfl _ 5 z29 ?_
   intro y2 hAgb hb hsz
   obtain ⟨gb, hgb⟩ : ∃ g, Hid (g = y1.heap.size) := ⟨_, (rfl : y1.heap.size = _)⟩
   rw [← hgb.out] at hAgb ⊢
   have lgb : gb < y2.heap.size := hAgb.lt
   have hB2 := hB1.trans (hb.mono hB1.size)
   have hS2 : At 26 y2 w.heap.size [p1, p2, p3] ∧ At 34 y2 w1.heap.size [e1, e2, e3, e4, e5] := ⟨HS.out.1.below hB2, HS.out.2.below hB2⟩
   have s2 : y1.heap.size ≤ y2.heap.size := hb.size
   have hAi := (hAi.old (Old.of_below hb (Nat.le_refl _))).up hb.size
   clear hb
   refine hK.out _ _ hS2 (fun _ => ?_)
   refine wpAnyH_ready (rs := [3, 4]) (by kernel_rfl) (by simp) ?_
   refine AllReadyH.cons (o := { dst := some 31, op := .call { callee := .value (.func 9), args := #[.tmp 30], argTypes := #[34] }, guard := none, .. }) rfl (fun K hK => ?_) (AllReadyH.cons (o := { dst := some 7, op := .alloc 26, guard := none, .. }) rfl (fun K hK => ?_) (AllReadyH.nil))
   ·skip
    rw [if_pos (by rfl)]
    go_wp2_with (go_at_call 9; refine (H9.out _ (hwW.trans (hB2.mono hwW.size))).mono ?_; rintro e y3 ⟨f1, f2, f3, f4, f5, F, rfl, hFc, hFp, hFi, hFl, hb⟩)
    have hB3 := hB2.trans (hb.mono hB2.size)
    have hS3 : At 26 y3 w.heap.size [p1, p2, p3] ∧ At 34 y3 w1.heap.size [e1, e2, e3, e4, e5] := ⟨HS.out.1.below hB3, HS.out.2.below hB3⟩
    have s3 : y2.heap.size ≤ y3.heap.size := hb.size
    have hAi := (hAi.old (Old.of_below hb (Nat.le_refl _))).up hb.size
    have hAgb := hAgb.below hb
    have hFl := hFi.lies hFl
    clear hb
    refine hK.out _ _ hS3 (fun _ => ?_)
    refine wpAnyH_ready (rs := [4]) (by kernel_rfl) (by simp) ?_
    refine AllReadyH.cons (o := { dst := some 7, op := .alloc 26, guard := none, .. }) rfl (fun K hK => ?_) (AllReadyH.nil)
    rw [if_pos (by rfl)]
    refine wp_alloc_at 26 rfl _ 3 z46' ?_
    intro y4 hAga hb hsz
    obtain ⟨ga, hga⟩ : ∃ g, Hid (g = y3.heap.size) := ⟨_, (rfl : y3.heap.size = _)⟩
    rw [← hga.out] at hAga ⊢
    have lga : ga < y4.heap.size := hAga.lt
    have hB4 := hB3.trans (hb.mono hB3.size)
    have hS4 : At 26 y4 w.heap.size [p1, p2, p3] ∧ At 34 y4 w1.heap.size [e1, e2, e3, e4, e5] := ⟨HS.out.1.below hB4, HS.out.2.below hB4⟩
    have s4 : y3.heap.size ≤ y4.heap.size := hb.size
    have hAi := (hAi.old (Old.of_below hb (Nat.le_refl _))).up hb.size
    have hFi := (hFi.old (Old.of_below hb (Nat.le_refl _))).up hb.size
    have hAgb := hAgb.below hb
    clear hb
    refine hK.out _ _ hS4 (fun _ => ?_)
    have hWs := hB0.size
    have hga := hga.out
    have hgb := hgb.out
    have hne : ga ≠ gb := by omega
    refine wpAnyH_ready (rs := [6]) (by kernel_rfl) (by simp) ?_
    refine AllReadyH.cons (o := { dst := none, op := .store 26 (.tmp 7) (.tmp 29), guard := none, .. }) rfl (fun K hK => ?_) AllReadyH.nil
    rw [if_pos (by rfl)]
    have hoA := PT.one A
    have hoF := ET.one F
    rw [hAc] at hoA
    rw [hFc] at hoF
    refine wp_store_mid (P := Tryz.prog) 26 (.tmp 7) (.tmp 29) rfl ga 0 ([a1, a2, a3]).toArray rfl rfl (hAga.there 0 _ (Nat.le_refl _)) i46 (all_oneCell_toArray hoA) ?_
    have t1 : But ga y4 (y4.setCells ga 0 [a1, a2, a3]) := But.setCells _ 0 _ (But.refl _ _)
    have hAga1 : At 26 (y4.setCells ga 0 [a1, a2, a3]) ga [a1, a2, a3] := At.setCells _ 0 _ _ hAga
    have hAgb1 := t1.at hAgb (by omega)
    have hS8 : At 26 (y4.setCells ga 0 [a1, a2, a3]) w.heap.size [p1, p2, p3] ∧ At 34 (y4.setCells ga 0 [a1, a2, a3]) w1.heap.size [e1, e2, e3, e4, e5] := ⟨t1.at hS4.1 (by omega), t1.at hS4.2 (by omega)⟩
    have hB8 : Below W.heap.size W (y4.setCells ga 0 [a1, a2, a3]) := t1.below hB4 (by omega) hB4.size
    refine hK.out _ _ hS8 (fun _ => ?_)
    refine wpAnyH_ready (rs := [7]) (by kernel_rfl) (by simp) ?_
    refine AllReadyH.cons (o := { dst := none, op := .store 34 (.tmp 8) (.tmp 31), guard := none, .. }) rfl (fun K hK => ?_) AllReadyH.nil
    rw [if_pos (by rfl)]
    refine wp_store_mid (P := Tryz.prog) 34 (.tmp 8) (.tmp 31) rfl gb 0 ([f1, f2, f3, f4, f5]).toArray rfl rfl (hAgb1.there 0 _ (Nat.le_refl _)) i29 (all_oneCell_toArray hoF) ?_
    have t2 : But gb (y4.setCells ga 0 [a1, a2, a3]) ((y4.setCells ga 0 [a1, a2, a3]).setCells gb 0 [f1, f2, f3, f4, f5]) := But.setCells _ 0 _ (But.refl _ _)
    have hAgb2 : At 34 ((y4.setCells ga 0 [a1, a2, a3]).setCells gb 0 [f1, f2, f3, f4, f5]) gb [f1, f2, f3, f4, f5] := At.setCells _ 0 _ _ hAgb1
    have hAga2 := t2.at hAga1 (by omega)
    have hS9 : At 26 ((y4.setCells ga 0 [a1, a2, a3]).setCells gb 0 [f1, f2, f3, f4, f5]) w.heap.size [p1, p2, p3] ∧ At 34 ((y4.setCells ga 0 [a1, a2, a3]).setCells gb 0 [f1, f2, f3, f4, f5]) w1.heap.size [e1, e2, e3, e4, e5] := ⟨t2.at hS8.1 (by omega), t2.at hS8.2 (by omega)⟩
    have hB9 : Below W.heap.size W ((y4.setCells ga 0 [a1, a2, a3]).setCells gb 0 [f1, f2, f3, f4, f5]) := t2.below hB8 (by omega) hB8.size
    have e1' := size_setCells ga [a1, a2, a3] 0 y4
    have e2' := size_setCells gb [f1, f2, f3, f4, f5] 0 (y4.setCells ga 0 [a1, a2, a3])
    have hst : ∀ k, k ≠ ga → k ≠ gb → k < y4.heap.size → ((y4.setCells ga 0 [a1, a2, a3]).setCells gb 0 [f1, f2, f3, f4, f5]).heap[k]? = y4.heap[k]? := fun k h1 h2 h3 => by rw [t2.block k (by omega) h2, t1.block k h3 h1]
    have fA : A.In ((y4.setCells ga 0 [a1, a2, a3]).setCells gb 0 [f1, f2, f3, f4, f5]).heap.size ((y4.setCells ga 0 [a1, a2, a3]).setCells gb 0 [f1, f2, f3, f4, f5]) := by
     rw [e2', e1']
     exact PT.In.stay (fun k hk hl => hst k (by omega) (by omega) hl) hAi hAl
    have fF : F.In ((y4.setCells ga 0 [a1, a2, a3]).setCells gb 0 [f1, f2, f3, f4, f5]).heap.size ((y4.setCells ga 0 [a1, a2, a3]).setCells gb 0 [f1, f2, f3, f4, f5]) := by
     rw [e2', e1']
     exact ET.In.stay (fun k hk hl => hst k (by omega) (by omega) hl) hFi hFl
    refine hK.out _ _ hS9 (fun _ => ?_)
    refine wpAnyH_done (by kernel_rfl) ?_ _
    exact ⟨rfl, ga, gb, a1, a2, a3, f1, f2, f3, f4, f5, rfl, A, F, hAc, hFc, hAp, hFp, fA, fF, hAga2, hAgb2, hB9, by omega, by omega⟩
   ·skip
    rw [if_pos (by rfl)]
    refine wp_alloc_at 26 rfl _ 3 z46' ?_
    intro y3 hAga hb hsz
    obtain ⟨ga, hga⟩ : ∃ g, Hid (g = y2.heap.size) := ⟨_, (rfl : y2.heap.size = _)⟩
    rw [← hga.out] at hAga ⊢
    have lga : ga < y3.heap.size := hAga.lt
    have hB3 := hB2.trans (hb.mono hB2.size)
    have hS3 : At 26 y3 w.heap.size [p1, p2, p3] ∧ At 34 y3 w1.heap.size [e1, e2, e3, e4, e5] := ⟨HS.out.1.below hB3, HS.out.2.below hB3⟩
    have s3 : y2.heap.size ≤ y3.heap.size := hb.size
    have hAi := (hAi.old (Old.of_below hb (Nat.le_refl _))).up hb.size
    have hAgb := hAgb.below hb
    clear hb
    refine hK.out _ _ hS3 (fun _ => ?_)
    refine wpAnyH_ready (rs := [3]) (by kernel_rfl) (by simp) ?_
    refine AllReadyH.cons (o := { dst := some 31, op := .call { callee := .value (.func 9), args := #[.tmp 30], argTypes := #[34] }, guard := none, .. }) rfl (fun K hK => ?_) (AllReadyH.nil)
    rw [if_pos (by rfl)]
    go_wp2_with (go_at_call 9; refine (H9.out _ (hwW.trans (hB3.mono hwW.size))).mono ?_; rintro e y4 ⟨f1, f2, f3, f4, f5, F, rfl, hFc, hFp, hFi, hFl, hb⟩)
    have hB4 := hB3.trans (hb.mono hB3.size)
    have hS4 : At 26 y4 w.heap.size [p1, p2, p3] ∧ At 34 y4 w1.heap.size [e1, e2, e3, e4, e5] := ⟨HS.out.1.below hB4, HS.out.2.below hB4⟩
    have s4 : y3.heap.size ≤ y4.heap.size := hb.size
    have hAi := (hAi.old (Old.of_below hb (Nat.le_refl _))).up hb.size
    have hAga := hAga.below hb
    have hAgb := hAgb.below hb
    have hFl := hFi.lies hFl
    clear hb
    refine hK.out _ _ hS4 (fun _ => ?_)
    have hWs := hB0.size
    have hga := hga.out
    have hgb := hgb.out
    have hne : ga ≠ gb := by omega
    refine wpAnyH_ready (rs := [6]) (by kernel_rfl) (by simp) ?_
    refine AllReadyH.cons (o := { dst := none, op := .store 26 (.tmp 7) (.tmp 29), guard := none, .. }) rfl (fun K hK => ?_) AllReadyH.nil
    rw [if_pos (by rfl)]
    have hoA := PT.one A
    have hoF := ET.one F
    rw [hAc] at hoA
    rw [hFc] at hoF
    refine wp_store_mid (P := Tryz.prog) 26 (.tmp 7) (.tmp 29) rfl ga 0 ([a1, a2, a3]).toArray rfl rfl (hAga.there 0 _ (Nat.le_refl _)) i46 (all_oneCell_toArray hoA) ?_
    have t1 : But ga y4 (y4.setCells ga 0 [a1, a2, a3]) := But.setCells _ 0 _ (But.refl _ _)
    have hAga1 : At 26 (y4.setCells ga 0 [a1, a2, a3]) ga [a1, a2, a3] := At.setCells _ 0 _ _ hAga
    have hAgb1 := t1.at hAgb (by omega)
    have hS8 : At 26 (y4.setCells ga 0 [a1, a2, a3]) w.heap.size [p1, p2, p3] ∧ At 34 (y4.setCells ga 0 [a1, a2, a3]) w1.heap.size [e1, e2, e3, e4, e5] := ⟨t1.at hS4.1 (by omega), t1.at hS4.2 (by omega)⟩
    have hB8 : Below W.heap.size W (y4.setCells ga 0 [a1, a2, a3]) := t1.below hB4 (by omega) hB4.size
    refine hK.out _ _ hS8 (fun _ => ?_)
    refine wpAnyH_ready (rs := [7]) (by kernel_rfl) (by simp) ?_
    refine AllReadyH.cons (o := { dst := none, op := .store 34 (.tmp 8) (.tmp 31), guard := none, .. }) rfl (fun K hK => ?_) AllReadyH.nil
    rw [if_pos (by rfl)]
    refine wp_store_mid (P := Tryz.prog) 34 (.tmp 8) (.tmp 31) rfl gb 0 ([f1, f2, f3, f4, f5]).toArray rfl rfl (hAgb1.there 0 _ (Nat.le_refl _)) i29 (all_oneCell_toArray hoF) ?_
    have t2 : But gb (y4.setCells ga 0 [a1, a2, a3]) ((y4.setCells ga 0 [a1, a2, a3]).setCells gb 0 [f1, f2, f3, f4, f5]) := But.setCells _ 0 _ (But.refl _ _)
    have hAgb2 : At 34 ((y4.setCells ga 0 [a1, a2, a3]).setCells gb 0 [f1, f2, f3, f4, f5]) gb [f1, f2, f3, f4, f5] := At.setCells _ 0 _ _ hAgb1
    have hAga2 := t2.at hAga1 (by omega)
    have hS9 : At 26 ((y4.setCells ga 0 [a1, a2, a3]).setCells gb 0 [f1, f2, f3, f4, f5]) w.heap.size [p1, p2, p3] ∧ At 34 ((y4.setCells ga 0 [a1, a2, a3]).setCells gb 0 [f1, f2, f3, f4, f5]) w1.heap.size [e1, e2, e3, e4, e5] := ⟨t2.at hS8.1 (by omega), t2.at hS8.2 (by omega)⟩
    have hB9 : Below W.heap.size W ((y4.setCells ga 0 [a1, a2, a3]).setCells gb 0 [f1, f2, f3, f4, f5]) := t2.below hB8 (by omega) hB8.size
    have e1' := size_setCells ga [a1, a2, a3] 0 y4
    have e2' := size_setCells gb [f1, f2, f3, f4, f5] 0 (y4.setCells ga 0 [a1, a2, a3])
    have hst : ∀ k, k ≠ ga → k ≠ gb → k < y4.heap.size → ((y4.setCells ga 0 [a1, a2, a3]).setCells gb 0 [f1, f2, f3, f4, f5]).heap[k]? = y4.heap[k]? := fun k h1 h2 h3 => by rw [t2.block k (by omega) h2, t1.block k h3 h1]
    have fA : A.In ((y4.setCells ga 0 [a1, a2, a3]).setCells gb 0 [f1, f2, f3, f4, f5]).heap.size ((y4.setCells ga 0 [a1, a2, a3]).setCells gb 0 [f1, f2, f3, f4, f5]) := by
     rw [e2', e1']
     exact PT.In.stay (fun k hk hl => hst k (by omega) (by omega) hl) hAi hAl
    have fF : F.In ((y4.setCells ga 0 [a1, a2, a3]).setCells gb 0 [f1, f2, f3, f4, f5]).heap.size ((y4.setCells ga 0 [a1, a2, a3]).setCells gb 0 [f1, f2, f3, f4, f5]) := by
     rw [e2', e1']
     exact ET.In.stay (fun k hk hl => hst k (by omega) (by omega) hl) hFi hFl
    refine hK.out _ _ hS9 (fun _ => ?_)
    refine wpAnyH_done (by kernel_rfl) ?_ _
    exact ⟨rfl, ga, gb, a1, a2, a3, f1, f2, f3, f4, f5, rfl, A, F, hAc, hFc, hAp, hFp, fA, fF, hAga2, hAgb2, hB9, by omega, by omega⟩
 ·skip
  rw [if_pos (by rfl)]
  refine wp_alloc_at 26 rfl _ 3 z46' ?_
  intro y1 hAga hb hsz
  obtain ⟨ga, hga⟩ : ∃ g, Hid (g = y0.heap.size) := ⟨_, (rfl : y0.heap.size = _)⟩
  rw [← hga.out] at hAga ⊢
  have lga : ga < y1.heap.size := hAga.lt
  have hB1 := hB0.trans (hb.mono hB0.size)
  have hS1 : At 26 y1 w.heap.size [p1, p2, p3] ∧ At 34 y1 w1.heap.size [e1, e2, e3, e4, e5] := ⟨HS.out.1.below hB1, HS.out.2.below hB1⟩
  have s1 : y0.heap.size ≤ y1.heap.size := hb.size
  clear hb
  refine hK.out _ _ hS1 (fun _ => ?_)
  refine wpAnyH_ready (rs := [1, 5]) (by kernel_rfl) (by simp) ?_
  refine AllReadyH.cons (o := { dst := some 29, op := .call { callee := .value (.func 8), args := #[.tmp 28], argTypes := #[26] }, guard := none, .. }) rfl (fun K hK => ?_) (AllReadyH.cons (o := { dst := some 8, op := .alloc 34, guard := none, .. }) rfl (fun K hK => ?_) (AllReadyH.nil))
  ·skip
   rw [if_pos (by rfl)]
   go_wp2_with (go_at_call 8; refine (H8.out _ (hwW.trans (hB1.mono hwW.size))).mono ?_; rintro e y2 ⟨a1, a2, a3, A, rfl, hAc, hAp, hAi, hAl, hb⟩)
   have hB2 := hB1.trans (hb.mono hB1.size)
   have hS2 : At 26 y2 w.heap.size [p1, p2, p3] ∧ At 34 y2 w1.heap.size [e1, e2, e3, e4, e5] := ⟨HS.out.1.below hB2, HS.out.2.below hB2⟩
   have s2 : y1.heap.size ≤ y2.heap.size := hb.size
   have hAga := hAga.below hb
   have hAl := hAi.lies hAl
   clear hb
   refine hK.out _ _ hS2 (fun _ => ?_)
   refine wpAnyH_ready (rs := [3, 5]) (by kernel_rfl) (by simp) ?_
   refine AllReadyH.cons (o := { dst := some 31, op := .call { callee := .value (.func 9), args := #[.tmp 30], argTypes := #[34] }, guard := none, .. }) rfl (fun K hK => ?_) (AllReadyH.cons (o := { dst := some 8, op := .alloc 34, guard := none, .. }) rfl (fun K hK => ?_) (AllReadyH.nil))
   ·skip
    rw [if_pos (by rfl)]
    go_wp2_with (go_at_call 9; refine (H9.out _ (hwW.trans (hB2.mono hwW.size))).mono ?_; rintro e y3 ⟨f1, f2, f3, f4, f5, F, rfl, hFc, hFp, hFi, hFl, hb⟩)
    have hB3 := hB2.trans (hb.mono hB2.size)
    have hS3 : At 26 y3 w.heap.size [p1, p2, p3] ∧ At 34 y3 w1.heap.size [e1, e2, e3, e4, e5] := ⟨HS.out.1.below hB3, HS.out.2.below hB3⟩
    have s3 : y2.heap.size ≤ y3.heap.size := hb.size
    have hAi := (hAi.old (Old.of_below hb (Nat.le_refl _))).up hb.size
    have hAga := hAga.below hb
    have hFl := hFi.lies hFl
    clear hb
    refine hK.out _ _ hS3 (fun _ => ?_)
    refine wpAnyH_ready (rs := [5]) (by kernel_rfl) (by simp) ?_
    refine AllReadyH.cons (o := { dst := some 8, op := .alloc 34, guard := none, .. }) rfl (fun K hK => ?_) (AllReadyH.nil)
    rw [if_pos (by rfl)]
    refine wp_alloc_at 34 rfl _ 5 z29 ?_
    intro y4 hAgb hb hsz
    obtain ⟨gb, hgb⟩ : ∃ g, Hid (g = y3.heap.size) := ⟨_, (rfl : y3.heap.size = _)⟩
    rw [← hgb.out] at hAgb ⊢
    have lgb : gb < y4.heap.size := hAgb.lt
    have hB4 := hB3.trans (hb.mono hB3.size)
    have hS4 : At 26 y4 w.heap.size [p1, p2, p3] ∧ At 34 y4 w1.heap.size [e1, e2, e3, e4, e5] := ⟨HS.out.1.below hB4, HS.out.2.below hB4⟩
    have s4 : y3.heap.size ≤ y4.heap.size := hb.size
    have hAi := (hAi.old (Old.of_below hb (Nat.le_refl _))).up hb.size
    have hFi := (hFi.old (Old.of_below hb (Nat.le_refl _))).up hb.size
    have hAga := hAga.below hb
    clear hb
    refine hK.out _ _ hS4 (fun _ => ?_)
    have hWs := hB0.size
    have hga := hga.out
    have hgb := hgb.out
    have hne : ga ≠ gb := by omega
    refine wpAnyH_ready (rs := [6]) (by kernel_rfl) (by simp) ?_
    refine AllReadyH.cons (o := { dst := none, op := .store 26 (.tmp 7) (.tmp 29), guard := none, .. }) rfl (fun K hK => ?_) AllReadyH.nil
    rw [if_pos (by rfl)]
    have hoA := PT.one A
    have hoF := ET.one F
    rw [hAc] at hoA
    rw [hFc] at hoF
    refine wp_store_mid (P := Tryz.prog) 26 (.tmp 7) (.tmp 29) rfl ga 0 ([a1, a2, a3]).toArray rfl rfl (hAga.there 0 _ (Nat.le_refl _)) i46 (all_oneCell_toArray hoA) ?_
    have t1 : But ga y4 (y4.setCells ga 0 [a1, a2, a3]) := But.setCells _ 0 _ (But.refl _ _)
    have hAga1 : At 26 (y4.setCells ga 0 [a1, a2, a3]) ga [a1, a2, a3] := At.setCells _ 0 _ _ hAga
    have hAgb1 := t1.at hAgb (by omega)
    have hS8 : At 26 (y4.setCells ga 0 [a1, a2, a3]) w.heap.size [p1, p2, p3] ∧ At 34 (y4.setCells ga 0 [a1, a2, a3]) w1.heap.size [e1, e2, e3, e4, e5] := ⟨t1.at hS4.1 (by omega), t1.at hS4.2 (by omega)⟩
    have hB8 : Below W.heap.size W (y4.setCells ga 0 [a1, a2, a3]) := t1.below hB4 (by omega) hB4.size
    refine hK.out _ _ hS8 (fun _ => ?_)
    refine wpAnyH_ready (rs := [7]) (by kernel_rfl) (by simp) ?_
    refine AllReadyH.cons (o := { dst := none, op := .store 34 (.tmp 8) (.tmp 31), guard := none, .. }) rfl (fun K hK => ?_) AllReadyH.nil
    rw [if_pos (by rfl)]
    refine wp_store_mid (P := Tryz.prog) 34 (.tmp 8) (.tmp 31) rfl gb 0 ([f1, f2, f3, f4, f5]).toArray rfl rfl (hAgb1.there 0 _ (Nat.le_refl _)) i29 (all_oneCell_toArray hoF) ?_
    have t2 : But gb (y4.setCells ga 0 [a1, a2, a3]) ((y4.setCells ga 0 [a1, a2, a3]).setCells gb 0 [f1, f2, f3, f4, f5]) := But.setCells _ 0 _ (But.refl _ _)
    have hAgb2 : At 34 ((y4.setCells ga 0 [a1, a2, a3]).setCells gb 0 [f1, f2, f3, f4, f5]) gb [f1, f2, f3, f4, f5] := At.setCells _ 0 _ _ hAgb1
    have hAga2 := t2.at hAga1 (by omega)
    have hS9 : At 26 ((y4.setCells ga 0 [a1, a2, a3]).setCells gb 0 [f1, f2, f3, f4, f5]) w.heap.size [p1, p2, p3] ∧ At 34 ((y4.setCells ga 0 [a1, a2, a3]).setCells gb 0 [f1, f2, f3, f4, f5]) w1.heap.size [e1, e2, e3, e4, e5] := ⟨t2.at hS8.1 (by omega), t2.at hS8.2 (by omega)⟩
    have hB9 : Below W.heap.size W ((y4.setCells ga 0 [a1, a2, a3]).setCells gb 0 [f1, f2, f3, f4, f5]) := t2.below hB8 (by omega) hB8.size
    have e1' := size_setCells ga [a1, a2, a3] 0 y4
    have e2' := size_setCells gb [f1, f2, f3, f4, f5] 0 (y4.setCells ga 0 [a1, a2, a3])
    have hst : ∀ k, k ≠ ga → k ≠ gb → k < y4.heap.size → ((y4.setCells ga 0 [a1, a2, a3]).setCells gb 0 [f1, f2, f3, f4, f5]).heap[k]? = y4.heap[k]? := fun k h1 h2 h3 => by rw [t2.block k (by omega) h2, t1.block k h3 h1]
    have fA : A.In ((y4.setCells ga 0 [a1, a2, a3]).setCells gb 0 [f1, f2, f3, f4, f5]).heap.size ((y4.setCells ga 0 [a1, a2, a3]).setCells gb 0 [f1, f2, f3, f4, f5]) := by
     rw [e2', e1']
     exact PT.In.stay (fun k hk hl => hst k (by omega) (by omega) hl) hAi hAl
    have fF : F.In ((y4.setCells ga 0 [a1, a2, a3]).setCells gb 0 [f1, f2, f3, f4, f5]).heap.size ((y4.setCells ga 0 [a1, a2, a3]).setCells gb 0 [f1, f2, f3, f4, f5]) := by
     rw [e2', e1']
     exact ET.In.stay (fun k hk hl => hst k (by omega) (by omega) hl) hFi hFl
    refine hK.out _ _ hS9 (fun _ => ?_)
    refine wpAnyH_done (by kernel_rfl) ?_ _
    exact ⟨rfl, ga, gb, a1, a2, a3, f1, f2, f3, f4, f5, rfl, A, F, hAc, hFc, hAp, hFp, fA, fF, hAga2, hAgb2, hB9, by omega, by omega⟩
   ·skip
    rw [if_pos (by rfl)]
    refine wp_alloc_at 34 rfl _ 5 z29 ?_
    intro y3 hAgb hb hsz
    obtain ⟨gb, hgb⟩ : ∃ g, Hid (g = y2.heap.size) := ⟨_, (rfl : y2.heap.size = _)⟩
    rw [← hgb.out] at hAgb ⊢
    have lgb : gb < y3.heap.size := hAgb.lt
    have hB3 := hB2.trans (hb.mono hB2.size)
    have hS3 : At 26 y3 w.heap.size [p1, p2, p3] ∧ At 34 y3 w1.heap.size [e1, e2, e3, e4, e5] := ⟨HS.out.1.below hB3, HS.out.2.below hB3⟩
    have s3 : y2.heap.size ≤ y3.heap.size := hb.size
    have hAi := (hAi.old (Old.of_below hb (Nat.le_refl _))).up hb.size
    have hAga := hAga.below hb
    clear hb
    refine hK.out _ _ hS3 (fun _ => ?_)
    refine wpAnyH_ready (rs := [3]) (by kernel_rfl) (by simp) ?_
    refine AllReadyH.cons (o := { dst := some 31, op := .call { callee := .value (.func 9), args := #[.tmp 30], argTypes := #[34] }, guard := none, .. }) rfl (fun K hK => ?_) (AllReadyH.nil)
    rw [if_pos (by rfl)]
    go_wp2_with (go_at_call 9; refine (H9.out _ (hwW.trans (hB3.mono hwW.size))).mono ?_; rintro e y4 ⟨f1, f2, f3, f4, f5, F, rfl, hFc, hFp, hFi, hFl, hb⟩)
    have hB4 := hB3.trans (hb.mono hB3.size)
    have hS4 : At 26 y4 w.heap.size [p1, p2, p3] ∧ At 34 y4 w1.heap.size [e1, e2, e3, e4, e5] := ⟨HS.out.1.below hB4, HS.out.2.below hB4⟩
    have s4 : y3.heap.size ≤ y4.heap.size := hb.size
    have hAi := (hAi.old (Old.of_below hb (Nat.le_refl _))).up hb.size
    have hAga := hAga.below hb
    have hAgb := hAgb.below hb
    have hFl := hFi.lies hFl
    clear hb
    refine hK.out _ _ hS4 (fun _ => ?_)
    have hWs := hB0.size
    have hga := hga.out
    have hgb := hgb.out
    have hne : ga ≠ gb := by omega
    refine wpAnyH_ready (rs := [6]) (by kernel_rfl) (by simp) ?_
    refine AllReadyH.cons (o := { dst := none, op := .store 26 (.tmp 7) (.tmp 29), guard := none, .. }) rfl (fun K hK => ?_) AllReadyH.nil
    rw [if_pos (by rfl)]
    have hoA := PT.one A
    have hoF := ET.one F
    rw [hAc] at hoA
    rw [hFc] at hoF
    refine wp_store_mid (P := Tryz.prog) 26 (.tmp 7) (.tmp 29) rfl ga 0 ([a1, a2, a3]).toArray rfl rfl (hAga.there 0 _ (Nat.le_refl _)) i46 (all_oneCell_toArray hoA) ?_
    have t1 : But ga y4 (y4.setCells ga 0 [a1, a2, a3]) := But.setCells _ 0 _ (But.refl _ _)
    have hAga1 : At 26 (y4.setCells ga 0 [a1, a2, a3]) ga [a1, a2, a3] := At.setCells _ 0 _ _ hAga
    have hAgb1 := t1.at hAgb (by omega)
    have hS8 : At 26 (y4.setCells ga 0 [a1, a2, a3]) w.heap.size [p1, p2, p3] ∧ At 34 (y4.setCells ga 0 [a1, a2, a3]) w1.heap.size [e1, e2, e3, e4, e5] := ⟨t1.at hS4.1 (by omega), t1.at hS4.2 (by omega)⟩
    have hB8 : Below W.heap.size W (y4.setCells ga 0 [a1, a2, a3]) := t1.below hB4 (by omega) hB4.size
    refine hK.out _ _ hS8 (fun _ => ?_)
    refine wpAnyH_ready (rs := [7]) (by kernel_rfl) (by simp) ?_
    refine AllReadyH.cons (o := { dst := none, op := .store 34 (.tmp 8) (.tmp 31), guard := none, .. }) rfl (fun K hK => ?_) AllReadyH.nil
    rw [if_pos (by rfl)]
    refine wp_store_mid (P := Tryz.prog) 34 (.tmp 8) (.tmp 31) rfl gb 0 ([f1, f2, f3, f4, f5]).toArray rfl rfl (hAgb1.there 0 _ (Nat.le_refl _)) i29 (all_oneCell_toArray hoF) ?_
    have t2 : But gb (y4.setCells ga 0 [a1, a2, a3]) ((y4.setCells ga 0 [a1, a2, a3]).setCells gb 0 [f1, f2, f3, f4, f5]) := But.setCells _ 0 _ (But.refl _ _)
    have hAgb2 : At 34 ((y4.setCells ga 0 [a1, a2, a3]).setCells gb 0 [f1, f2, f3, f4, f5]) gb [f1, f2, f3, f4, f5] := At.setCells _ 0 _ _ hAgb1
    have hAga2 := t2.at hAga1 (by omega)
    have hS9 : At 26 ((y4.setCells ga 0 [a1, a2, a3]).setCells gb 0 [f1, f2, f3, f4, f5]) w.heap.size [p1, p2, p3] ∧ At 34 ((y4.setCells ga 0 [a1, a2, a3]).setCells gb 0 [f1, f2, f3, f4, f5]) w1.heap.size [e1, e2, e3, e4, e5] := ⟨t2.at hS8.1 (by omega), t2.at hS8.2 (by omega)⟩
    have hB9 : Below W.heap.size W ((y4.setCells ga 0 [a1, a2, a3]).setCells gb 0 [f1, f2, f3, f4, f5]) := t2.below hB8 (by omega) hB8.size
    have e1' := size_setCells ga [a1, a2, a3] 0 y4
    have e2' := size_setCells gb [f1, f2, f3, f4, f5] 0 (y4.setCells ga 0 [a1, a2, a3])
    have hst : ∀ k, k ≠ ga → k ≠ gb → k < y4.heap.size → ((y4.setCells ga 0 [a1, a2, a3]).setCells gb 0 [f1, f2, f3, f4, f5]).heap[k]? = y4.heap[k]? := fun k h1 h2 h3 => by rw [t2.block k (by omega) h2, t1.block k h3 h1]
    have fA : A.In ((y4.setCells ga 0 [a1, a2, a3]).setCells gb 0 [f1, f2, f3, f4, f5]).heap.size ((y4.setCells ga 0 [a1, a2, a3]).setCells gb 0 [f1, f2, f3, f4, f5]) := by
     rw [e2', e1']
     exact PT.In.stay (fun k hk hl => hst k (by omega) (by omega) hl) hAi hAl
    have fF : F.In ((y4.setCells ga 0 [a1, a2, a3]).setCells gb 0 [f1, f2, f3, f4, f5]).heap.size ((y4.setCells ga 0 [a1, a2, a3]).setCells gb 0 [f1, f2, f3, f4, f5]) := by
     rw [e2', e1']
     exact ET.In.stay (fun k hk hl => hst k (by omega) (by omega) hl) hFi hFl
    refine hK.out _ _ hS9 (fun _ => ?_)
    refine wpAnyH_done (by kernel_rfl) ?_ _
    exact ⟨rfl, ga, gb, a1, a2, a3, f1, f2, f3, f4, f5, rfl, A, F, hAc, hFc, hAp, hFp, fA, fF, hAga2, hAgb2, hB9, by omega, by omega⟩
  ·skip
   rw [if_pos (by rfl)]
   refine wp_alloc_at 34 rfl _ 5 z29 ?_
   intro y2 hAgb hb hsz
   obtain ⟨gb, hgb⟩ : ∃ g, Hid (g = y1.heap.size) := ⟨_, (rfl : y1.heap.size = _)⟩
   rw [← hgb.out] at hAgb ⊢
   have lgb : gb < y2.heap.size := hAgb.lt
   have hB2 := hB1.trans (hb.mono hB1.size)
   have hS2 : At 26 y2 w.heap.size [p1, p2, p3] ∧ At 34 y2 w1.heap.size [e1, e2, e3, e4, e5] := ⟨HS.out.1.below hB2, HS.out.2.below hB2⟩
   have s2 : y1.heap.size ≤ y2.heap.size := hb.size
   have hAga := hAga.below hb
   clear hb
   refine hK.out _ _ hS2 (fun _ => ?_)
   refine wpAnyH_ready (rs := [1]) (by kernel_rfl) (by simp) ?_
   refine AllReadyH.cons (o := { dst := some 29, op := .call { callee := .value (.func 8), args := #[.tmp 28], argTypes := #[26] }, guard := none, .. }) rfl (fun K hK => ?_) (AllReadyH.nil)
   rw [if_pos (by rfl)]
   go_wp2_with (go_at_call 8; refine (H8.out _ (hwW.trans (hB2.mono hwW.size))).mono ?_; rintro e y3 ⟨a1, a2, a3, A, rfl, hAc, hAp, hAi, hAl, hb⟩)
   have hB3 := hB2.trans (hb.mono hB2.size)
   have hS3 : At 26 y3 w.heap.size [p1, p2, p3] ∧ At 34 y3 w1.heap.size [e1, e2, e3, e4, e5] := ⟨HS.out.1.below hB3, HS.out.2.below hB3⟩
   have s3 : y2.heap.size ≤ y3.heap.size := hb.size
   have hAga := hAga.below hb
   have hAgb := hAgb.below hb
   have hAl := hAi.lies hAl
   clear hb
   refine hK.out _ _ hS3 (fun _ => ?_)
   refine wpAnyH_ready (rs := [3]) (by kernel_rfl) (by simp) ?_
   refine AllReadyH.cons (o := { dst := some 31, op := .call { callee := .value (.func 9), args := #[.tmp 30], argTypes := #[34] }, guard := none, .. }) rfl (fun K hK => ?_) (AllReadyH.nil)
   rw [if_pos (by rfl)]
   go_wp2_with (go_at_call 9; refine (H9.out _ (hwW.trans (hB3.mono hwW.size))).mono ?_; rintro e y4 ⟨f1, f2, f3, f4, f5, F, rfl, hFc, hFp, hFi, hFl, hb⟩)
   have hB4 := hB3.trans (hb.mono hB3.size)
   have hS4 : At 26 y4 w.heap.size [p1, p2, p3] ∧ At 34 y4 w1.heap.size [e1, e2, e3, e4, e5] := ⟨HS.out.1.below hB4, HS.out.2.below hB4⟩
   have s4 : y3.heap.size ≤ y4.heap.size := hb.size
   have hAi := (hAi.old (Old.of_below hb (Nat.le_refl _))).up hb.size
   have hAga := hAga.below hb
   have hAgb := hAgb.below hb
   have hFl := hFi.lies hFl
   clear hb
   refine hK.out _ _ hS4 (fun _ => ?_)
   have hWs := hB0.size
   have hga := hga.out
   have hgb := hgb.out
   have hne : ga ≠ gb := by omega
   refine wpAnyH_ready (rs := [6]) (by kernel_rfl) (by simp) ?_
   refine AllReadyH.cons (o := { dst := none, op := .store 26 (.tmp 7) (.tmp 29), guard := none, .. }) rfl (fun K hK => ?_) AllReadyH.nil
   rw [if_pos (by rfl)]
   have hoA := PT.one A
   have hoF := ET.one F
   rw [hAc] at hoA
   rw [hFc] at hoF
   refine wp_store_mid (P := Tryz.prog) 26 (.tmp 7) (.tmp 29) rfl ga 0 ([a1, a2, a3]).toArray rfl rfl (hAga.there 0 _ (Nat.le_refl _)) i46 (all_oneCell_toArray hoA) ?_
   have t1 : But ga y4 (y4.setCells ga 0 [a1, a2, a3]) := But.setCells _ 0 _ (But.refl _ _)
   have hAga1 : At 26 (y4.setCells ga 0 [a1, a2, a3]) ga [a1, a2, a3] := At.setCells _ 0 _ _ hAga
   have hAgb1 := t1.at hAgb (by omega)
   have hS8 : At 26 (y4.setCells ga 0 [a1, a2, a3]) w.heap.size [p1, p2, p3] ∧ At 34 (y4.setCells ga 0 [a1, a2, a3]) w1.heap.size [e1, e2, e3, e4, e5] := ⟨t1.at hS4.1 (by omega), t1.at hS4.2 (by omega)⟩
   have hB8 : Below W.heap.size W (y4.setCells ga 0 [a1, a2, a3]) := t1.below hB4 (by omega) hB4.size
   refine hK.out _ _ hS8 (fun _ => ?_)
   refine wpAnyH_ready (rs := [7]) (by kernel_rfl) (by simp) ?_
   refine AllReadyH.cons (o := { dst := none, op := .store 34 (.tmp 8) (.tmp 31), guard := none, .. }) rfl (fun K hK => ?_) AllReadyH.nil
   rw [if_pos (by rfl)]
   refine wp_store_mid (P := Tryz.prog) 34 (.tmp 8) (.tmp 31) rfl gb 0 ([f1, f2, f3, f4, f5]).toArray rfl rfl (hAgb1.there 0 _ (Nat.le_refl _)) i29 (all_oneCell_toArray hoF) ?_
   have t2 : But gb (y4.setCells ga 0 [a1, a2, a3]) ((y4.setCells ga 0 [a1, a2, a3]).setCells gb 0 [f1, f2, f3, f4, f5]) := But.setCells _ 0 _ (But.refl _ _)
   have hAgb2 : At 34 ((y4.setCells ga 0 [a1, a2, a3]).setCells gb 0 [f1, f2, f3, f4, f5]) gb [f1, f2, f3, f4, f5] := At.setCells _ 0 _ _ hAgb1
   have hAga2 := t2.at hAga1 (by omega)
   have hS9 : At 26 ((y4.setCells ga 0 [a1, a2, a3]).setCells gb 0 [f1, f2, f3, f4, f5]) w.heap.size [p1, p2, p3] ∧ At 34 ((y4.setCells ga 0 [a1, a2, a3]).setCells gb 0 [f1, f2, f3, f4, f5]) w1.heap.size [e1, e2, e3, e4, e5] := ⟨t2.at hS8.1 (by omega), t2.at hS8.2 (by omega)⟩
   have hB9 : Below W.heap.size W ((y4.setCells ga 0 [a1, a2, a3]).setCells gb 0 [f1, f2, f3, f4, f5]) := t2.below hB8 (by omega) hB8.size
   have e1' := size_setCells ga [a1, a2, a3] 0 y4
   have e2' := size_setCells gb [f1, f2, f3, f4, f5] 0 (y4.setCells ga 0 [a1, a2, a3])
   have hst : ∀ k, k ≠ ga → k ≠ gb → k < y4.heap.size → ((y4.setCells ga 0 [a1, a2, a3]).setCells gb 0 [f1, f2, f3, f4, f5]).heap[k]? = y4.heap[k]? := fun k h1 h2 h3 => by rw [t2.block k (by omega) h2, t1.block k h3 h1]
   have fA : A.In ((y4.setCells ga 0 [a1, a2, a3]).setCells gb 0 [f1, f2, f3, f4, f5]).heap.size ((y4.setCells ga 0 [a1, a2, a3]).setCells gb 0 [f1, f2, f3, f4, f5]) := by
    rw [e2', e1']
    exact PT.In.stay (fun k hk hl => hst k (by omega) (by omega) hl) hAi hAl
   have fF : F.In ((y4.setCells ga 0 [a1, a2, a3]).setCells gb 0 [f1, f2, f3, f4, f5]).heap.size ((y4.setCells ga 0 [a1, a2, a3]).setCells gb 0 [f1, f2, f3, f4, f5]) := by
    rw [e2', e1']
    exact ET.In.stay (fun k hk hl => hst k (by omega) (by omega) hl) hFi hFl
   refine hK.out _ _ hS9 (fun _ => ?_)
   refine wpAnyH_done (by kernel_rfl) ?_ _
   exact ⟨rfl, ga, gb, a1, a2, a3, f1, f2, f3, f4, f5, rfl, A, F, hAc, hFc, hAp, hFp, fA, fF, hAga2, hAgb2, hB9, by omega, by omega⟩
 ·skip
  rw [if_pos (by rfl)]
  refine wp_alloc_at 34 rfl _ 5 z29 ?_
  intro y1 hAgb hb hsz
  obtain ⟨gb, hgb⟩ : ∃ g, Hid (g = y0.heap.size) := ⟨_, (rfl : y0.heap.size = _)⟩
  rw [← hgb.out] at hAgb ⊢
  have lgb : gb < y1.heap.size := hAgb.lt
  have hB1 := hB0.trans (hb.mono hB0.size)
  have hS1 : At 26 y1 w.heap.size [p1, p2, p3] ∧ At 34 y1 w1.heap.size [e1, e2, e3, e4, e5] := ⟨HS.out.1.below hB1, HS.out.2.below hB1⟩
  have s1 : y0.heap.size ≤ y1.heap.size := hb.size
  clear hb
  refine hK.out _ _ hS1 (fun _ => ?_)
  refine wpAnyH_ready (rs := [1, 4]) (by kernel_rfl) (by simp) ?_
  refine AllReadyH.cons (o := { dst := some 29, op := .call { callee := .value (.func 8), args := #[.tmp 28], argTypes := #[26] }, guard := none, .. }) rfl (fun K hK => ?_) (AllReadyH.cons (o := { dst := some 7, op := .alloc 26, guard := none, .. }) rfl (fun K hK => ?_) (AllReadyH.nil))
  ·skip
   rw [if_pos (by rfl)]
   go_wp2_with (go_at_call 8; refine (H8.out _ (hwW.trans (hB1.mono hwW.size))).mono ?_; rintro e y2 ⟨a1, a2, a3, A, rfl, hAc, hAp, hAi, hAl, hb⟩)
   have hB2 := hB1.trans (hb.mono hB1.size)
   have hS2 : At 26 y2 w.heap.size [p1, p2, p3] ∧ At 34 y2 w1.heap.size [e1, e2, e3, e4, e5] := ⟨HS.out.1.below hB2, HS.out.2.below hB2⟩
   have s2 : y1.heap.size ≤ y2.heap.size := hb.size
   have hAgb := hAgb.below hb
   have hAl := hAi.lies hAl
   clear hb
   refine hK.out _ _ hS2 (fun _ => ?_)
   refine wpAnyH_ready (rs := [3, 4]) (by kernel_rfl) (by simp) ?_
   refine AllReadyH.cons (o := { dst := some 31, op := .call { callee := .value (.func 9), args := #[.tmp 30], argTypes := #[34] }, guard := none, .. }) rfl (fun K hK => ?_) (AllReadyH.cons (o := { dst := some 7, op := .alloc 26, guard := none, .. }) rfl (fun K hK => ?_) (AllReadyH.nil))
   ·skip
    rw [if_pos (by rfl)]
    go_wp2_with (go_at_call 9; refine (H9.out _ (hwW.trans (hB2.mono hwW.size))).mono ?_; rintro e y3 ⟨f1, f2, f3, f4, f5, F, rfl, hFc, hFp, hFi, hFl, hb⟩)
    have hB3 := hB2.trans (hb.mono hB2.size)
    have hS3 : At 26 y3 w.heap.size [p1, p2, p3] ∧ At 34 y3 w1.heap.size [e1, e2, e3, e4, e5] := ⟨HS.out.1.below hB3, HS.out.2.below hB3⟩
    have s3 : y2.heap.size ≤ y3.heap.size := hb.size
    have hAi := (hAi.old (Old.of_below hb (Nat.le_refl _))).up hb.size
    have hAgb := hAgb.below hb
    have hFl := hFi.lies hFl
    clear hb
    refine hK.out _ _ hS3 (fun _ => ?_)
    refine wpAnyH_ready (rs := [4]) (by kernel_rfl) (by simp) ?_
    refine AllReadyH.cons (o := { dst := some 7, op := .alloc 26, guard := none, .. }) rfl (fun K hK => ?_) (AllReadyH.nil)
    rw [if_pos (by rfl)]
    refine wp_alloc_at 26 rfl _ 3 z46' ?_
    intro y4 hAga hb hsz
    obtain ⟨ga, hga⟩ : ∃ g, Hid (g = y3.heap.size) := ⟨_, (rfl : y3.heap.size = _)⟩
    rw [← hga.out] at hAga ⊢
    have lga : ga < y4.heap.size := hAga.lt
    have hB4 := hB3.trans (hb.mono hB3.size)
    have hS4 : At 26 y4 w.heap.size [p1, p2, p3] ∧ At 34 y4 w1.heap.size [e1, e2, e3, e4, e5] := ⟨HS.out.1.below hB4, HS.out.2.below hB4⟩
    have s4 : y3.heap.size ≤ y4.heap.size := hb.size
    have hAi := (hAi.old (Old.of_below hb (Nat.le_refl _))).up hb.size
    have hFi := (hFi.old (Old.of_below hb (Nat.le_refl _))).up hb.size
    have hAgb := hAgb.below hb
    clear hb
    refine hK.out _ _ hS4 (fun _ => ?_)
    have hWs := hB0.size
    have hga := hga.out
    have hgb := hgb.out
    have hne : ga ≠ gb := by omega
    refine wpAnyH_ready (rs := [6]) (by kernel_rfl) (by simp) ?_
    refine AllReadyH.cons (o := { dst := none, op := .store 26 (.tmp 7) (.tmp 29), guard := none, .. }) rfl (fun K hK => ?_) AllReadyH.nil
    rw [if_pos (by rfl)]
    have hoA := PT.one A
    have hoF := ET.one F
    rw [hAc] at hoA
    rw [hFc] at hoF
    refine wp_store_mid (P := Tryz.prog) 26 (.tmp 7) (.tmp 29) rfl ga 0 ([a1, a2, a3]).toArray rfl rfl (hAga.there 0 _ (Nat.le_refl _)) i46 (all_oneCell_toArray hoA) ?_
    have t1 : But ga y4 (y4.setCells ga 0 [a1, a2, a3]) := But.setCells _ 0 _ (But.refl _ _)
    have hAga1 : At 26 (y4.setCells ga 0 [a1, a2, a3]) ga [a1, a2, a3] := At.setCells _ 0 _ _ hAga
    have hAgb1 := t1.at hAgb (by omega)
    have hS8 : At 26 (y4.setCells ga 0 [a1, a2, a3]) w.heap.size [p1, p2, p3] ∧ At 34 (y4.setCells ga 0 [a1, a2, a3]) w1.heap.size [e1, e2, e3, e4, e5] := ⟨t1.at hS4.1 (by omega), t1.at hS4.2 (by omega)⟩
    have hB8 : Below W.heap.size W (y4.setCells ga 0 [a1, a2, a3]) := t1.below hB4 (by omega) hB4.size
    refine hK.out _ _ hS8 (fun _ => ?_)
    refine wpAnyH_ready (rs := [7]) (by kernel_rfl) (by simp) ?_
    refine AllReadyH.cons (o := { dst := none, op := .store 34 (.tmp 8) (.tmp 31), guard := none, .. }) rfl (fun K hK => ?_) AllReadyH.nil
    rw [if_pos (by rfl)]
    refine wp_store_mid (P := Tryz.prog) 34 (.tmp 8) (.tmp 31) rfl gb 0 ([f1, f2, f3, f4, f5]).toArray rfl rfl (hAgb1.there 0 _ (Nat.le_refl _)) i29 (all_oneCell_toArray hoF) ?_
    have t2 : But gb (y4.setCells ga 0 [a1, a2, a3]) ((y4.setCells ga 0 [a1, a2, a3]).setCells gb 0 [f1, f2, f3, f4, f5]) := But.setCells _ 0 _ (But.refl _ _)
    have hAgb2 : At 34 ((y4.setCells ga 0 [a1, a2, a3]).setCells gb 0 [f1, f2, f3, f4, f5]) gb [f1, f2, f3, f4, f5] := At.setCells _ 0 _ _ hAgb1
    have hAga2 := t2.at hAga1 (by omega)
    have hS9 : At 26 ((y4.setCells ga 0 [a1, a2, a3]).setCells gb 0 [f1, f2, f3, f4, f5]) w.heap.size [p1, p2, p3] ∧ At 34 ((y4.setCells ga 0 [a1, a2, a3]).setCells gb 0 [f1, f2, f3, f4, f5]) w1.heap.size [e1, e2, e3, e4, e5] := ⟨t2.at hS8.1 (by omega), t2.at hS8.2 (by omega)⟩
    have hB9 : Below W.heap.size W ((y4.setCells ga 0 [a1, a2, a3]).setCells gb 0 [f1, f2, f3, f4, f5]) := t2.below hB8 (by omega) hB8.size
    have e1' := size_setCells ga [a1, a2, a3] 0 y4
    have e2' := size_setCells gb [f1, f2, f3, f4, f5] 0 (y4.setCells ga 0 [a1, a2, a3])
    have hst : ∀ k, k ≠ ga → k ≠ gb → k < y4.heap.size → ((y4.setCells ga 0 [a1, a2, a3]).setCells gb 0 [f1, f2, f3, f4, f5]).heap[k]? = y4.heap[k]? := fun k h1 h2 h3 => by rw [t2.block k (by omega) h2, t1.block k h3 h1]
    have fA : A.In ((y4.setCells ga 0 [a1, a2, a3]).setCells gb 0 [f1, f2, f3, f4, f5]).heap.size ((y4.setCells ga 0 [a1, a2, a3]).setCells gb 0 [f1, f2, f3, f4, f5]) := by
     rw [e2', e1']
     exact PT.In.stay (fun k hk hl => hst k (by omega) (by omega) hl) hAi hAl
    have fF : F.In ((y4.setCells ga 0 [a1, a2, a3]).setCells gb 0 [f1, f2, f3, f4, f5]).heap.size ((y4.setCells ga 0 [a1, a2, a3]).setCells gb 0 [f1, f2, f3, f4, f5]) := by
     rw [e2', e1']
     exact ET.In.stay (fun k hk hl => hst k (by omega) (by omega) hl) hFi hFl
    refine hK.out _ _ hS9 (fun _ => ?_)
    refine wpAnyH_done (by kernel_rfl) ?_ _
    exact ⟨rfl, ga, gb, a1, a2, a3, f1, f2, f3, f4, f5, rfl, A, F, hAc, hFc, hAp, hFp, fA, fF, hAga2, hAgb2, hB9, by omega, by omega⟩
   ·skip
    rw [if_pos (by rfl)]
    refine wp_alloc_at 26 rfl _ 3 z46' ?_
    intro y3 hAga hb hsz
    obtain ⟨ga, hga⟩ : ∃ g, Hid (g = y2.heap.size) := ⟨_, (rfl : y2.heap.size = _)⟩
    rw [← hga.out] at hAga ⊢
    have lga : ga < y3.heap.size := hAga.lt
    have hB3 := hB2.trans (hb.mono hB2.size)
    have hS3 : At 26 y3 w.heap.size [p1, p2, p3] ∧ At 34 y3 w1.heap.size [e1, e2, e3, e4, e5] := ⟨HS.out.1.below hB3, HS.out.2.below hB3⟩
    have s3 : y2.heap.size ≤ y3.heap.size := hb.size
    have hAi := (hAi.old (Old.of_below hb (Nat.le_refl _))).up hb.size
    have hAgb := hAgb.below hb
    clear hb
    refine hK.out _ _ hS3 (fun _ => ?_)
    refine wpAnyH_ready (rs := [3]) (by kernel_rfl) (by simp) ?_
    refine AllReadyH.cons (o := { dst := some 31, op := .call { callee := .value (.func 9), args := #[.tmp 30], argTypes := #[34] }, guard := none, .. }) rfl (fun K hK => ?_) (AllReadyH.nil)
    rw [if_pos (by rfl)]
    go_wp2_with (go_at_call 9; refine (H9.out _ (hwW.trans (hB3.mono hwW.size))).mono ?_; rintro e y4 ⟨f1, f2, f3, f4, f5, F, rfl, hFc, hFp, hFi, hFl, hb⟩)
    have hB4 := hB3.trans (hb.mono hB3.size)
    have hS4 : At 26 y4 w.heap.size [p1, p2, p3] ∧ At 34 y4 w1.heap.size [e1, e2, e3, e4, e5] := ⟨HS.out.1.below hB4, HS.out.2.below hB4⟩
    have s4 : y3.heap.size ≤ y4.heap.size := hb.size
    have hAi := (hAi.old (Old.of_below hb (Nat.le_refl _))).up hb.size
    have hAga := hAga.below hb
    have hAgb := hAgb.below hb
    have hFl := hFi.lies hFl
    clear hb
    refine hK.out _ _ hS4 (fun _ => ?_)
    have hWs := hB0.size
    have hga := hga.out
    have hgb := hgb.out
    have hne : ga ≠ gb := by omega
    refine wpAnyH_ready (rs := [6]) (by kernel_rfl) (by simp) ?_
    refine AllReadyH.cons (o := { dst := none, op := .store 26 (.tmp 7) (.tmp 29), guard := none, .. }) rfl (fun K hK => ?_) AllReadyH.nil
    rw [if_pos (by rfl)]
    have hoA := PT.one A
    have hoF := ET.one F
    rw [hAc] at hoA
    rw [hFc] at hoF
    refine wp_store_mid (P := Tryz.prog) 26 (.tmp 7) (.tmp 29) rfl ga 0 ([a1, a2, a3]).toArray rfl rfl (hAga.there 0 _ (Nat.le_refl _)) i46 (all_oneCell_toArray hoA) ?_
    have t1 : But ga y4 (y4.setCells ga 0 [a1, a2, a3]) := But.setCells _ 0 _ (But.refl _ _)
    have hAga1 : At 26 (y4.setCells ga 0 [a1, a2, a3]) ga [a1, a2, a3] := At.setCells _ 0 _ _ hAga
    have hAgb1 := t1.at hAgb (by omega)
    have hS8 : At 26 (y4.setCells ga 0 [a1, a2, a3]) w.heap.size [p1, p2, p3] ∧ At 34 (y4.setCells ga 0 [a1, a2, a3]) w1.heap.size [e1, e2, e3, e4, e5] := ⟨t1.at hS4.1 (by omega), t1.at hS4.2 (by omega)⟩
    have hB8 : Below W.heap.size W (y4.setCells ga 0 [a1, a2, a3]) := t1.below hB4 (by omega) hB4.size
    refine hK.out _ _ hS8 (fun _ => ?_)
    refine wpAnyH_ready (rs := [7]) (by kernel_rfl) (by simp) ?_
    refine AllReadyH.cons (o := { dst := none, op := .store 34 (.tmp 8) (.tmp 31), guard := none, .. }) rfl (fun K hK => ?_) AllReadyH.nil
    rw [if_pos (by rfl)]
    refine wp_store_mid (P := Tryz.prog) 34 (.tmp 8) (.tmp 31) rfl gb 0 ([f1, f2, f3, f4, f5]).toArray rfl rfl (hAgb1.there 0 _ (Nat.le_refl _)) i29 (all_oneCell_toArray hoF) ?_
    have t2 : But gb (y4.setCells ga 0 [a1, a2, a3]) ((y4.setCells ga 0 [a1, a2, a3]).setCells gb 0 [f1, f2, f3, f4, f5]) := But.setCells _ 0 _ (But.refl _ _)
    have hAgb2 : At 34 ((y4.setCells ga 0 [a1, a2, a3]).setCells gb 0 [f1, f2, f3, f4, f5]) gb [f1, f2, f3, f4, f5] := At.setCells _ 0 _ _ hAgb1
    have hAga2 := t2.at hAga1 (by omega)
    have hS9 : At 26 ((y4.setCells ga 0 [a1, a2, a3]).setCells gb 0 [f1, f2, f3, f4, f5]) w.heap.size [p1, p2, p3] ∧ At 34 ((y4.setCells ga 0 [a1, a2, a3]).setCells gb 0 [f1, f2, f3, f4, f5]) w1.heap.size [e1, e2, e3, e4, e5] := ⟨t2.at hS8.1 (by omega), t2.at hS8.2 (by omega)⟩
    have hB9 : Below W.heap.size W ((y4.setCells ga 0 [a1, a2, a3]).setCells gb 0 [f1, f2, f3, f4, f5]) := t2.below hB8 (by omega) hB8.size
    have e1' := size_setCells ga [a1, a2, a3] 0 y4
    have e2' := size_setCells gb [f1, f2, f3, f4, f5] 0 (y4.setCells ga 0 [a1, a2, a3])
    have hst : ∀ k, k ≠ ga → k ≠ gb → k < y4.heap.size → ((y4.setCells ga 0 [a1, a2, a3]).setCells gb 0 [f1, f2, f3, f4, f5]).heap[k]? = y4.heap[k]? := fun k h1 h2 h3 => by rw [t2.block k (by omega) h2, t1.block k h3 h1]
    have fA : A.In ((y4.setCells ga 0 [a1, a2, a3]).setCells gb 0 [f1, f2, f3, f4, f5]).heap.size ((y4.setCells ga 0 [a1, a2, a3]).setCells gb 0 [f1, f2, f3, f4, f5]) := by
     rw [e2', e1']
     exact PT.In.stay (fun k hk hl => hst k (by omega) (by omega) hl) hAi hAl
    have fF : F.In ((y4.setCells ga 0 [a1, a2, a3]).setCells gb 0 [f1, f2, f3, f4, f5]).heap.size ((y4.setCells ga 0 [a1, a2, a3]).setCells gb 0 [f1, f2, f3, f4, f5]) := by
     rw [e2', e1']
     exact ET.In.stay (fun k hk hl => hst k (by omega) (by omega) hl) hFi hFl
    refine hK.out _ _ hS9 (fun _ => ?_)
    refine wpAnyH_done (by kernel_rfl) ?_ _
    exact ⟨rfl, ga, gb, a1, a2, a3, f1, f2, f3, f4, f5, rfl, A, F, hAc, hFc, hAp, hFp, fA, fF, hAga2, hAgb2, hB9, by omega, by omega⟩
  ·skip
   rw [if_pos (by rfl)]
   refine wp_alloc_at 26 rfl _ 3 z46' ?_
   intro y2 hAga hb hsz
   obtain ⟨ga, hga⟩ : ∃ g, Hid (g = y1.heap.size) := ⟨_, (rfl : y1.heap.size = _)⟩
   rw [← hga.out] at hAga ⊢
   have lga : ga < y2.heap.size := hAga.lt
   have hB2 := hB1.trans (hb.mono hB1.size)
   have hS2 : At 26 y2 w.heap.size [p1, p2, p3] ∧ At 34 y2 w1.heap.size [e1, e2, e3, e4, e5] := ⟨HS.out.1.below hB2, HS.out.2.below hB2⟩
   have s2 : y1.heap.size ≤ y2.heap.size := hb.size
   have hAgb := hAgb.below hb
   clear hb
   refine hK.out _ _ hS2 (fun _ => ?_)
   refine wpAnyH_ready (rs := [1]) (by kernel_rfl) (by simp) ?_
   refine AllReadyH.cons (o := { dst := some 29, op := .call { callee := .value (.func 8), args := #[.tmp 28], argTypes := #[26] }, guard := none, .. }) rfl (fun K hK => ?_) (AllReadyH.nil)
   rw [if_pos (by rfl)]
   go_wp2_with (go_at_call 8; refine (H8.out _ (hwW.trans (hB2.mono hwW.size))).mono ?_; rintro e y3 ⟨a1, a2, a3, A, rfl, hAc, hAp, hAi, hAl, hb⟩)
   have hB3 := hB2.trans (hb.mono hB2.size)
   have hS3 : At 26 y3 w.heap.size [p1, p2, p3] ∧ At 34 y3 w1.heap.size [e1, e2, e3, e4, e5] := ⟨HS.out.1.below hB3, HS.out.2.below hB3⟩
   have s3 : y2.heap.size ≤ y3.heap.size := hb.size
   have hAga := hAga.below hb
   have hAgb := hAgb.below hb
   have hAl := hAi.lies hAl
   clear hb
   refine hK.out _ _ hS3 (fun _ => ?_)
   refine wpAnyH_ready (rs := [3]) (by kernel_rfl) (by simp) ?_
   refine AllReadyH.cons (o := { dst := some 31, op := .call { callee := .value (.func 9), args := #[.tmp 30], argTypes := #[34] }, guard := none, .. }) rfl (fun K hK => ?_) (AllReadyH.nil)
   rw [if_pos (by rfl)]
   go_wp2_with (go_at_call 9; refine (H9.out _ (hwW.trans (hB3.mono hwW.size))).mono ?_; rintro e y4 ⟨f1, f2, f3, f4, f5, F, rfl, hFc, hFp, hFi, hFl, hb⟩)
   have hB4 := hB3.trans (hb.mono hB3.size)
   have hS4 : At 26 y4 w.heap.size [p1, p2, p3] ∧ At 34 y4 w1.heap.size [e1, e2, e3, e4, e5] := ⟨HS.out.1.below hB4, HS.out.2.below hB4⟩
   have s4 : y3.heap.size ≤ y4.heap.size := hb.size
   have hAi := (hAi.old (Old.of_below hb (Nat.le_refl _))).up hb.size
   have hAga := hAga.below hb
   have hAgb := hAgb.below hb
   have hFl := hFi.lies hFl
   clear hb
   refine hK.out _ _ hS4 (fun _ => ?_)
   have hWs := hB0.size
   have hga := hga.out
   have hgb := hgb.out
   have hne : ga ≠ gb := by omega
   refine wpAnyH_ready (rs := [6]) (by kernel_rfl) (by simp) ?_
   refine AllReadyH.cons (o := { dst := none, op := .store 26 (.tmp 7) (.tmp 29), guard := none, .. }) rfl (fun K hK => ?_) AllReadyH.nil
   rw [if_pos (by rfl)]
   have hoA := PT.one A
   have hoF := ET.one F
   rw [hAc] at hoA
   rw [hFc] at hoF
   refine wp_store_mid (P := Tryz.prog) 26 (.tmp 7) (.tmp 29) rfl ga 0 ([a1, a2, a3]).toArray rfl rfl (hAga.there 0 _ (Nat.le_refl _)) i46 (all_oneCell_toArray hoA) ?_
   have t1 : But ga y4 (y4.setCells ga 0 [a1, a2, a3]) := But.setCells _ 0 _ (But.refl _ _)
   have hAga1 : At 26 (y4.setCells ga 0 [a1, a2, a3]) ga [a1, a2, a3] := At.setCells _ 0 _ _ hAga
   have hAgb1 := t1.at hAgb (by omega)
   have hS8 : At 26 (y4.setCells ga 0 [a1, a2, a3]) w.heap.size [p1, p2, p3] ∧ At 34 (y4.setCells ga 0 [a1, a2, a3]) w1.heap.size [e1, e2, e3, e4, e5] := ⟨t1.at hS4.1 (by omega), t1.at hS4.2 (by omega)⟩
   have hB8 : Below W.heap.size W (y4.setCells ga 0 [a1, a2, a3]) := t1.below hB4 (by omega) hB4.size
   refine hK.out _ _ hS8 (fun _ => ?_)
   refine wpAnyH_ready (rs := [7]) (by kernel_rfl) (by simp) ?_
   refine AllReadyH.cons (o := { dst := none, op := .store 34 (.tmp 8) (.tmp 31), guard := none, .. }) rfl (fun K hK => ?_) AllReadyH.nil
   rw [if_pos (by rfl)]
   refine wp_store_mid (P := Tryz.prog) 34 (.tmp 8) (.tmp 31) rfl gb 0 ([f1, f2, f3, f4, f5]).toArray rfl rfl (hAgb1.there 0 _ (Nat.le_refl _)) i29 (all_oneCell_toArray hoF) ?_
   have t2 : But gb (y4.setCells ga 0 [a1, a2, a3]) ((y4.setCells ga 0 [a1, a2, a3]).setCells gb 0 [f1, f2, f3, f4, f5]) := But.setCells _ 0 _ (But.refl _ _)
   have hAgb2 : At 34 ((y4.setCells ga 0 [a1, a2, a3]).setCells gb 0 [f1, f2, f3, f4, f5]) gb [f1, f2, f3, f4, f5] := At.setCells _ 0 _ _ hAgb1
   have hAga2 := t2.at hAga1 (by omega)
   have hS9 : At 26 ((y4.setCells ga 0 [a1, a2, a3]).setCells gb 0 [f1, f2, f3, f4, f5]) w.heap.size [p1, p2, p3] ∧ At 34 ((y4.setCells ga 0 [a1, a2, a3]).setCells gb 0 [f1, f2, f3, f4, f5]) w1.heap.size [e1, e2, e3, e4, e5] := ⟨t2.at hS8.1 (by omega), t2.at hS8.2 (by omega)⟩
   have hB9 : Below W.heap.size W ((y4.setCells ga 0 [a1, a2, a3]).setCells gb 0 [f1, f2, f3, f4, f5]) := t2.below hB8 (by omega) hB8.size
   have e1' := size_setCells ga [a1, a2, a3] 0 y4
   have e2' := size_setCells gb [f1, f2, f3, f4, f5] 0 (y4.setCells ga 0 [a1, a2, a3])
   have hst : ∀ k, k ≠ ga → k ≠ gb → k < y4.heap.size → ((y4.setCells ga 0 [a1, a2, a3]).setCells gb 0 [f1, f2, f3, f4, f5]).heap[k]? = y4.heap[k]? := fun k h1 h2 h3 => by rw [t2.block k (by omega) h2, t1.block k h3 h1]
   have fA : A.In ((y4.setCells ga 0 [a1, a2, a3]).setCells gb 0 [f1, f2, f3, f4, f5]).heap.size ((y4.setCells ga 0 [a1, a2, a3]).setCells gb 0 [f1, f2, f3, f4, f5]) := by
    rw [e2', e1']
    exact PT.In.stay (fun k hk hl => hst k (by omega) (by omega) hl) hAi hAl
   have fF : F.In ((y4.setCells ga 0 [a1, a2, a3]).setCells gb 0 [f1, f2, f3, f4, f5]).heap.size ((y4.setCells ga 0 [a1, a2, a3]).setCells gb 0 [f1, f2, f3, f4, f5]) := by
    rw [e2', e1']
    exact ET.In.stay (fun k hk hl => hst k (by omega) (by omega) hl) hFi hFl
   refine hK.out _ _ hS9 (fun _ => ?_)
   refine wpAnyH_done (by kernel_rfl) ?_ _
   exact ⟨rfl, ga, gb, a1, a2, a3, f1, f2, f3, f4, f5, rfl, A, F, hAc, hFc, hAp, hFp, fA, fF, hAga2, hAgb2, hB9, by omega, by omega⟩

end Go.Proofs.YtcmahiphfpgadaaGreatDoor
