/- The document's own copy of a program. -/
import Derived.Test.YtcmahiphfpgadaaGreatDoorJ16
namespace Go.Proofs.YtcmahiphfpgadaaGreatDoor
open Go.RowKit
set_option linter.unusedVariables false

theorem RowV.mid {A B c : Nat} {w w' : World} {a : Option Addr} {ks : List VT} (S : Nat → Prop) (hM : ∀ g, S g → g < B → w'.heap[g]? = w.heap[g]?) (h : RowV B w a c ks) (ha : ks = [] ∨ ∃ g o, a = some ⟨g, o, none⟩ ∧ S g) : RowV B w' a c ks := by
 obtain ⟨h1, h2, h | ⟨g, o, e, hg, hr⟩⟩ := h
 ·exact ⟨h1, h2, .inl h⟩
 ·rcases ha with q | ⟨g', o', e', q⟩
  ·exact ⟨h1, h2, .inl q⟩
  ·rw [e] at e'
   cases e'
   refine ⟨h1, h2, .inr ⟨g, o, e, hg, fun i v hv => ⟨fun j u hj => ?_, (hr i v hv).2⟩⟩⟩
   rw [World.cell?_of_block (w := w) (hM g q hg)]
   exact (hr i v hv).1 j u hj
theorem RowN.mid {A B c : Nat} {w w' : World} {a : Option Addr} {ks : List ByteArray} (S : Nat → Prop) (hM : ∀ g, S g → g < B → w'.heap[g]? = w.heap[g]?) (h : RowN B w a c ks) (ha : ks = [] ∨ ∃ g o, a = some ⟨g, o, none⟩ ∧ S g) : RowN B w' a c ks := by
 obtain ⟨h1, h2, h | ⟨g, o, e, hg, hr⟩⟩ := h
 ·exact ⟨h1, h2, .inl h⟩
 ·rcases ha with q | ⟨g', o', e', q⟩
  ·exact ⟨h1, h2, .inl q⟩
  ·rw [e] at e'
   cases e'
   refine ⟨h1, h2, .inr ⟨g, o, e, hg, fun i v hv => ?_⟩⟩
   rw [World.cell?_of_block (w := w) (hM g q hg)]
   exact hr i v hv
theorem RowT.mid {A B c : Nat} {w w' : World} {a : Option Addr} {ks : List TT} (hM : Mid A B w w') (h : RowT B w a c ks) (ha : ks = [] ∨ ∃ g o, a = some ⟨g, o, none⟩ ∧ A ≤ g) (hu : TT.Ups A ks) : RowT B w' a c ks := by
 obtain ⟨h1, h2, h | ⟨g, o, e, hg, hr⟩⟩ := h
 ·exact ⟨h1, h2, .inl h⟩
 ·rcases ha with q | ⟨g', o', e', q⟩
  ·exact ⟨h1, h2, .inl q⟩
  ·rw [e] at e'
   cases e'
   exact ⟨h1, h2, .inr ⟨g, o, e, hg, fun i v hv => ⟨hM.range q hg (hr i v hv).1, (hr i v hv).2.keep hM (hu v (List.mem_of_getElem? hv))⟩⟩⟩
theorem RowV.ins {B c : Nat} {w : World} {a : Option Addr} {ks : List VT} (h : RowV B w a c ks) {C : Nat} {w' : World} : ∀ v ∈ ks, v.In C w' := fun v hv => by
 obtain ⟨i, hi⟩ := List.mem_iff_getElem?.1 hv
 obtain ⟨_, _, _, _, _, h⟩ := h.at i v hi
 exact h

set_option maxRecDepth 100000 in
set_option maxHeartbeats 12800000 in
theorem kcProgram_at (B : Nat) (vs : List VT) (a1 : Option Addr) (c1 : Nat) (ms : List ByteArray) (a2 : Option Addr) (c2 : Nat) (ts : List TT) (a3 : Option Addr) (c3 : Nat) (w : World) (i1 : RowV B w a1 c1 vs) (i2 : RowN B w a2 c2 ms) (i3 : RowT B w a3 c3 ts) (hBw : B ≤ w.heap.size) (z1 : a1 = none → c1 = 0) (z2 : a2 = none → c2 = 0) (z3 : ∀ t ∈ ts, t.a1 = none → t.c1 = 0) :
  Calls Tryz.prog 8 #[.agg [.slice a1 vs.length c1, .slice a2 ms.length c2, .slice a3 ts.length c3].toArray] w fun r w' => Hid (∃ y : PT, r = .returned (.agg y.cells.toArray) ∧ y.shared = vs ∧ y.mutexes = ms ∧ y.threads.map TT.th = ts.map TT.th ∧ y.In w'.heap.size w' ∧ y.Lies (fun k => w.heap.size ≤ k) ∧ Below w.heap.size w w') := by
 obtain ⟨n1, hn1⟩ : ∃ n, Hid (n = vs.length) := ⟨_, (rfl : vs.length = _)⟩
 obtain ⟨n2, hn2⟩ : ∃ n, Hid (n = ms.length) := ⟨_, (rfl : ms.length = _)⟩
 obtain ⟨n3, hn3⟩ : ∃ n, Hid (n = ts.length) := ⟨_, (rfl : ts.length = _)⟩
 have l1 := i1.1
 have l1' := i1.2.1
 have l2 := i2.1
 have l3 := i3.1
 have l3' := i3.2.1
 rw [← hn1.out] at l1 l1'
 rw [← hn2.out] at l2
 rw [← hn3.out] at l3 l3'
 rw [← hn1.out, ← hn2.out, ← hn3.out]
 have HR : Hid (RowV B w a1 c1 vs ∧ RowN B w a2 c2 ms ∧ RowT B w a3 c3 ts) := ⟨i1, i2, i3⟩
 have HN1 : Hid (a1 = none → c1 = 0 ∧ n1 = 0) := fun e => ⟨z1 e, by have := z1 e; omega⟩
 have HN : Hid (∀ t ∈ ts, t.a1 = none → t.c1 = 0) := z3
 have HI : Hid (∀ v ∈ vs, ∀ (u : World), v.In 0 u) := fun v hv u => i1.ins v hv
 have G28 : Hid (∀ x, Below w.heap.size w x → Calls Tryz.prog 28 #[.slice a2 n2 c2] x fun r w' => ∃ (g c' : Nat), r = .returned (.slice (some ⟨g, 0, none⟩) n2 c') ∧ RowN w'.heap.size w' (some ⟨g, 0, none⟩) c' ms ∧ x.heap.size ≤ g ∧ w'.ownsRow x.heap.size 9 1 (.slice (some ⟨g, 0, none⟩) n2 c') n2 (ms.map Value.string) ∧ Below x.heap.size x w') := fun x hx => by
  have := kitTexts_any B ms a2 c2 x (i2.old (Old.of_below hx hBw)) z2 (by have := hx.size; omega)
  rw [← hn2.out] at this
  exact this
 clear i1 i2 i3 z1 z2 z3
 go_enter Tryz.func8, Tryz.ntmps8
 go_wp2_with (first
  | ((with_reducible show wpList _ _ _ _ _ _); refine wpList_box_at rfl 26 (.tmp 0) rfl [.slice a1 n1 c1, .slice a2 n2 c2, .slice a3 n3 c3] rfl ?_; intro w1 hA1 hb1 hs1; clear hs1)
  | ((with_reducible show wpList _ _ _ _ _ _); refine wpList_alloc_at rfl 26 rfl _ 3 z46' ?_; intro w2 hA2 hb2 hs2; clear hs2; refine Hid.out ?_))
 refine hidU ?_
 have hw02 : Below w.heap.size w w2 := hb1.trans (hb2.mono hb1.size)
 have hlt : w.heap.size < w1.heap.size := hA1.lt
 have hlt2 : w1.heap.size < w2.heap.size := hA2.lt
 have hA1 := hA1.below hb2
 clear hb1 hb2
 go_wp2_with fail
 refine Code.wp_mono (Q := fun e a x => e = .normal ∧ ∃ (b6 gs : Nat) (v9 v12 : Value), a = { tmps := #[.agg #[.slice a1 n1 c1, .slice a2 n2 c2, .slice a3 n3 c3], .pointer (some ⟨w.heap.size, 0, none⟩), .pointer (some ⟨w1.heap.size, 0, none⟩), .pointer (some ⟨gs, 0, none⟩), undef, undef, .slice (some ⟨b6, 0, none⟩) 0 0, .pointer (some ⟨w.heap.size, 0, none⟩), .slice a1 n1 c1, v9, .pointer (some ⟨w.heap.size, 1, none⟩), .slice a2 n2 c2, v12, .agg #[v9, v12, .slice none 0 0], undef, undef, undef, undef, undef, undef, undef, undef, undef, undef, undef, undef, undef, undef, undef, undef, undef, undef, undef, undef, undef, undef, undef, undef, undef, undef, undef, undef], defers := [] } ∧ K1 w2.heap.size x gs v9 v12 vs ms ∧ Below w2.heap.size w2 x ∧ w2.heap.size ≤ gs) ?_ ?_
 rotate_left
 ·have hB0 : Below w2.heap.size w2 w2.drew := Below.drew (Below.refl _ _)
  obtain ⟨y0, hy0⟩ : ∃ y, y = w2.drew := ⟨_, rfl⟩
  rw [← hy0] at hB0
  have hS0 := hA1.below hB0
  refine wp_region_held_drew (S := fun x => At 26 x w.heap.size [.slice a1 n1 c1, .slice a2 n2 c2, .slice a3 n3 c3]) (by kernel_rfl) (by rw [← hy0]; exact hS0) (fun _ => ?_)
  rw [← hy0]
  clear hy0
  refine wpAnyH_take (i := 1) (oi := { dst := some 7, op := .fieldAddr 26 (.tmp 1) 0, guard := none, .. }) (v := .pointer (some ⟨w.heap.size, 0, none⟩)) rfl (by kernel_rfl) (by kernel_rfl) (by kernel_rfl) (fun _ _ _ h => nomatch h.1) (Or.inl ⟨by rfl, ?_⟩) hS0 ?_
  ·intro w hSw
   go_simp
  simp only [Act.put, sA, sB, sC]
  refine wpAnyH_take (i := 2) (oi := { dst := some 8, op := .load 22 (.tmp 7), guard := none, .. }) (v := .slice a1 n1 c1) rfl (by kernel_rfl) (by kernel_rfl) (by kernel_rfl) (fun _ _ _ h => nomatch h.1) (Or.inl ⟨by rfl, ?_⟩) hS0 ?_
  ·intro w hSw
   obtain ⟨z0, z1, z2⟩ := pg_cells hSw
   go_simp
  simp only [Act.put, sA, sB, sC]
  refine wpAnyH_take (i := 4) (oi := { dst := some 10, op := .fieldAddr 26 (.tmp 1) 1, guard := none, .. }) (v := .pointer (some ⟨w.heap.size, 1, none⟩)) rfl (by kernel_rfl) (by kernel_rfl) (by kernel_rfl) (fun _ _ _ h => nomatch h.1) (Or.inl ⟨by rfl, ?_⟩) hS0 ?_
  ·intro w hSw
   go_simp
  simp only [Act.put, sA, sB, sC]
  refine wpAnyH_take (i := 5) (oi := { dst := some 11, op := .load 23 (.tmp 10), guard := none, .. }) (v := .slice a2 n2 c2) rfl (by kernel_rfl) (by kernel_rfl) (by kernel_rfl) (fun _ _ _ h => nomatch h.1) (Or.inl ⟨by rfl, ?_⟩) hS0 ?_
  ·intro w hSw
   obtain ⟨z0, z1, z2⟩ := pg_cells hSw
   go_simp
  simp only [Act.put, sA, sB, sC]
  refine wpAnyH_ready (rs := [0, 8]) (by kernel_rfl) (by simp) ?_
  refine AllReadyH.cons (o := { dst := some 6, op := .buildSlice 22 0 #[], guard := none, .. }) rfl (fun K hK => ?_) (AllReadyH.cons (o := { dst := some 3, op := .alloc 26, guard := none, .. }) rfl (fun K hK => ?_) AllReadyH.nil)
  ·skip
   rw [if_pos (by rfl)]
   unfold Oper.wp
   go_simp
   obtain ⟨y1, hz⟩ : ∃ z, z = y0.alloc (.cells #[] 56) := ⟨_, rfl⟩
   obtain ⟨b6, hb6⟩ : ∃ b, b = y0.heap.size := ⟨_, rfl⟩
   have hb : Below y0.heap.size y0 y1 := by rw [hz]; exact (Below.refl _ _).alloc (Nat.le_refl _) _
   have ho6 : y1.ownsRow b6 56 3 (.slice (some ⟨b6, 0, none⟩) 0 0) 0 [] := by rw [hz, hb6]; exact World.ownsRow_made y0 #[] 0 (Nat.le_refl _) (by unfold maxLen; omega) rfl
   rw [← hz, ← hb6]
   have hB1 := hB0.trans (hb.mono hB0.size)
   have hS1 := hA1.below hB1
   have hbl : w2.heap.size ≤ b6 := by have := hB0.size; omega
   clear hb hz hb6
   refine hK.out _ _ hS1 (fun _ => ?_)
   refine wpAnyH_ready (rs := [3, 8]) (by kernel_rfl) (by simp) ?_
   refine AllReadyH.cons (o := { dst := some 9, op := .call { callee := .builtin .append, args := #[.tmp 6, .tmp 8], argTypes := #[22, 22] }, guard := none, .. }) rfl (fun K hK => ?_) (AllReadyH.cons (o := { dst := some 3, op := .alloc 26, guard := none, .. }) rfl (fun K hK => ?_) AllReadyH.nil)
   ·skip
    rw [if_pos (by rfl)]
    refine appW (.tmp 6) (.tmp 8) 22 56 _ 3 32 b6 b6 a1 n1 c1 (vs.flatMap VT.cells) rfl Tryz.underlying22 f56 rfl (by decide) rfl rfl ho6 (by rw [flat_len VT.cells3, hn1.out]) HN1.out (vt_news (HR.out.1.old (Old.of_below (hw02.trans (hB1.mono hw02.size)) hBw))) (vt_one vs) (by unfold maxLen; omega) (by omega) (Nat.le_of_lt (ho6.lt b6 rfl).2) ?_
    intro g9 e9 y2 ho9 hgr
    have hB2 : Below w2.heap.size w2 y2 := hB1.grown hgr hB1.size (fun k hk => by cases hk; exact hbl)
    have hS2 := hA1.below hB2
    clear hgr ho6
    refine hK.out _ _ hS2 (fun _ => ?_)
    refine wpAnyH_ready (rs := [6, 8]) (by kernel_rfl) (by simp) ?_
    refine AllReadyH.cons (o := { dst := some 12, op := .call { callee := .value (.func 28), args := #[.tmp 11], argTypes := #[23] }, guard := none, .. }) rfl (fun K hK => ?_) (AllReadyH.cons (o := { dst := some 3, op := .alloc 26, guard := none, .. }) rfl (fun K hK => ?_) AllReadyH.nil)
    ·skip
     rw [if_pos (by rfl)]
     go_wp2_with (go_at_call 28; refine (G28.out _ (hw02.trans (hB2.mono hw02.size))).mono ?_; rintro e y3 ⟨g12, e12, rfl, hr12, hg12, ho12, hb⟩)
     have hB3 := hB2.trans (hb.mono hB2.size)
     have hS3 := hA1.below hB3
     have ho9 := own_below ho9 hb
     have hgg : w2.heap.size ≤ g12 := by have := hB2.size; omega
     clear hb
     refine hK.out _ _ hS3 (fun _ => ?_)
     refine wpAnyH_take (i := 7) (oi := { dst := some 13, op := .build 26 #[(0, .tmp 9), (1, .tmp 12)], guard := none, .. }) (v := .agg #[.slice (some ⟨g9, 0, none⟩) n1 e9, .slice (some ⟨g12, 0, none⟩) n2 e12, .slice none 0 0]) rfl (by kernel_rfl) (by kernel_rfl) (by kernel_rfl) (fun _ _ _ h => nomatch h.1) (Or.inl ⟨by rfl, ?_⟩) hS3 ?_
     ·intro w hSw
      go_simp
     simp only [Act.put, sA, sB, sC]
     refine wpAnyH_ready (rs := [8]) (by kernel_rfl) (by simp) ?_
     refine AllReadyH.cons (o := { dst := some 3, op := .alloc 26, guard := none, .. }) rfl (fun K hK => ?_) AllReadyH.nil
     rw [if_pos (by rfl)]
     refine wp_alloc_at 26 rfl _ 3 z46' ?_
     intro y4 hAg hb hs
     have hB4 := hB3.trans (hb.mono hB3.size)
     have hS4 := hA1.below hB4
     obtain ⟨gs, hgs⟩ : ∃ gs, gs = y3.heap.size := ⟨_, rfl⟩
     rw [← hgs] at hAg ⊢
     have hgl : w2.heap.size ≤ gs := by have := hB3.size; omega
     have ho9 := own_below ho9 hb
     have ho12 := own_below ho12 hb
     have hr12 := (hr12.old (Old.of_below hb (Nat.le_refl _))).up hb.size
     clear hb hs hgs
     refine hK.out _ _ hS4 (fun _ => ?_)
     refine wpAnyH_ready (rs := [9]) (by kernel_rfl) (by simp) ?_
     refine AllReadyH.cons (o := { dst := none, op := .store 26 (.tmp 3) (.tmp 13), guard := none, .. }) rfl (fun K hK => ?_) AllReadyH.nil
     rw [if_pos (by rfl)]
     refine wp_store_mid (P := Tryz.prog) 26 (.tmp 3) (.tmp 13) rfl gs 0 ([.slice (some ⟨g9, 0, none⟩) n1 e9, .slice (some ⟨g12, 0, none⟩) n2 e12, .slice none 0 0]).toArray rfl rfl (hAg.there 0 _ (Nat.le_refl _)) i46 (all_oneCell_toArray (one26 _ _ _ _ _ _ _ _ _)) ?_
     have hBf : Below w2.heap.size w2 (y4.setCells gs 0 [.slice (some ⟨g9, 0, none⟩) n1 e9, .slice (some ⟨g12, 0, none⟩) n2 e12, .slice none 0 0]) := (But.setCells _ 0 _ (But.refl _ _)).below hB4 hgl hB4.size
     refine hK.out _ _ (hA1.below hBf) (fun _ => ?_)
     refine wpAnyH_done (by kernel_rfl) ?_ _
     refine ⟨rfl, b6, gs, _, _, rfl, ?_, hBf, hgl⟩
     have em1 := hn1.out
     subst em1
     have em2 := hn2.out
     subst em2
     exact K1.make (A := w2.heap.size) hAg rfl ho9 ho12 (fun v hv => HI.out v hv _) (by omega) hr12 hbl hgg
    ·skip
     rw [if_pos (by rfl)]
     refine wp_alloc_at 26 rfl _ 3 z46' ?_
     intro y3 hAg hb hs
     have hB3 := hB2.trans (hb.mono hB2.size)
     have hS3 := hA1.below hB3
     obtain ⟨gs, hgs⟩ : ∃ gs, gs = y2.heap.size := ⟨_, rfl⟩
     rw [← hgs] at hAg ⊢
     have hgl : w2.heap.size ≤ gs := by have := hB2.size; omega
     have ho9 := own_below ho9 hb
     clear hb hs hgs
     refine hK.out _ _ hS3 (fun _ => ?_)
     refine wpAnyH_ready (rs := [6]) (by kernel_rfl) (by simp) ?_
     refine AllReadyH.cons (o := { dst := some 12, op := .call { callee := .value (.func 28), args := #[.tmp 11], argTypes := #[23] }, guard := none, .. }) rfl (fun K hK => ?_) AllReadyH.nil
     rw [if_pos (by rfl)]
     go_wp2_with (go_at_call 28; refine (G28.out _ (hw02.trans (hB3.mono hw02.size))).mono ?_; rintro e y4 ⟨g12, e12, rfl, hr12, hg12, ho12, hb⟩)
     have hB4 := hB3.trans (hb.mono hB3.size)
     have hS4 := hA1.below hB4
     have ho9 := own_below ho9 hb
     have hgg : w2.heap.size ≤ g12 := by have := hB3.size; omega
     have hAg := hAg.below hb
     clear hb
     refine hK.out _ _ hS4 (fun _ => ?_)
     refine wpAnyH_take (i := 7) (oi := { dst := some 13, op := .build 26 #[(0, .tmp 9), (1, .tmp 12)], guard := none, .. }) (v := .agg #[.slice (some ⟨g9, 0, none⟩) n1 e9, .slice (some ⟨g12, 0, none⟩) n2 e12, .slice none 0 0]) rfl (by kernel_rfl) (by kernel_rfl) (by kernel_rfl) (fun _ _ _ h => nomatch h.1) (Or.inl ⟨by rfl, ?_⟩) hS4 ?_
     ·intro w hSw
      go_simp
     simp only [Act.put, sA, sB, sC]
     refine wpAnyH_ready (rs := [9]) (by kernel_rfl) (by simp) ?_
     refine AllReadyH.cons (o := { dst := none, op := .store 26 (.tmp 3) (.tmp 13), guard := none, .. }) rfl (fun K hK => ?_) AllReadyH.nil
     rw [if_pos (by rfl)]
     refine wp_store_mid (P := Tryz.prog) 26 (.tmp 3) (.tmp 13) rfl gs 0 ([.slice (some ⟨g9, 0, none⟩) n1 e9, .slice (some ⟨g12, 0, none⟩) n2 e12, .slice none 0 0]).toArray rfl rfl (hAg.there 0 _ (Nat.le_refl _)) i46 (all_oneCell_toArray (one26 _ _ _ _ _ _ _ _ _)) ?_
     have hBf : Below w2.heap.size w2 (y4.setCells gs 0 [.slice (some ⟨g9, 0, none⟩) n1 e9, .slice (some ⟨g12, 0, none⟩) n2 e12, .slice none 0 0]) := (But.setCells _ 0 _ (But.refl _ _)).below hB4 hgl hB4.size
     refine hK.out _ _ (hA1.below hBf) (fun _ => ?_)
     refine wpAnyH_done (by kernel_rfl) ?_ _
     refine ⟨rfl, b6, gs, _, _, rfl, ?_, hBf, hgl⟩
     have em1 := hn1.out
     subst em1
     have em2 := hn2.out
     subst em2
     exact K1.make (A := w2.heap.size) hAg rfl ho9 ho12 (fun v hv => HI.out v hv _) (by omega) hr12 hbl hgg
   ·skip
    rw [if_pos (by rfl)]
    refine wp_alloc_at 26 rfl _ 3 z46' ?_
    intro y2 hAg hb hs
    have hB2 := hB1.trans (hb.mono hB1.size)
    have hS2 := hA1.below hB2
    obtain ⟨gs, hgs⟩ : ∃ gs, gs = y1.heap.size := ⟨_, rfl⟩
    rw [← hgs] at hAg ⊢
    have hgl : w2.heap.size ≤ gs := by have := hB1.size; omega
    have ho6 := own_below ho6 hb
    clear hb hs hgs
    refine hK.out _ _ hS2 (fun _ => ?_)
    refine wpAnyH_ready (rs := [3]) (by kernel_rfl) (by simp) ?_
    refine AllReadyH.cons (o := { dst := some 9, op := .call { callee := .builtin .append, args := #[.tmp 6, .tmp 8], argTypes := #[22, 22] }, guard := none, .. }) rfl (fun K hK => ?_) AllReadyH.nil
    rw [if_pos (by rfl)]
    refine appW (.tmp 6) (.tmp 8) 22 56 _ 3 32 b6 b6 a1 n1 c1 (vs.flatMap VT.cells) rfl Tryz.underlying22 f56 rfl (by decide) rfl rfl ho6 (by rw [flat_len VT.cells3, hn1.out]) HN1.out (vt_news (HR.out.1.old (Old.of_below (hw02.trans (hB2.mono hw02.size)) hBw))) (vt_one vs) (by unfold maxLen; omega) (by omega) (Nat.le_of_lt (ho6.lt b6 rfl).2) ?_
    intro g9 e9 y3 ho9 hgr
    have hB3 : Below w2.heap.size w2 y3 := hB2.grown hgr hB2.size (fun k hk => by cases hk; exact hbl)
    have hS3 := hA1.below hB3
    have hAg := hAg.grown hgr (fun e => own_apart ho6 hAg (by decide) b6 rfl (by cases e; rfl))
    clear hgr ho6
    refine hK.out _ _ hS3 (fun _ => ?_)
    refine wpAnyH_ready (rs := [6]) (by kernel_rfl) (by simp) ?_
    refine AllReadyH.cons (o := { dst := some 12, op := .call { callee := .value (.func 28), args := #[.tmp 11], argTypes := #[23] }, guard := none, .. }) rfl (fun K hK => ?_) AllReadyH.nil
    rw [if_pos (by rfl)]
    go_wp2_with (go_at_call 28; refine (G28.out _ (hw02.trans (hB3.mono hw02.size))).mono ?_; rintro e y4 ⟨g12, e12, rfl, hr12, hg12, ho12, hb⟩)
    have hB4 := hB3.trans (hb.mono hB3.size)
    have hS4 := hA1.below hB4
    have ho9 := own_below ho9 hb
    have hgg : w2.heap.size ≤ g12 := by have := hB3.size; omega
    have hAg := hAg.below hb
    clear hb
    refine hK.out _ _ hS4 (fun _ => ?_)
    refine wpAnyH_take (i := 7) (oi := { dst := some 13, op := .build 26 #[(0, .tmp 9), (1, .tmp 12)], guard := none, .. }) (v := .agg #[.slice (some ⟨g9, 0, none⟩) n1 e9, .slice (some ⟨g12, 0, none⟩) n2 e12, .slice none 0 0]) rfl (by kernel_rfl) (by kernel_rfl) (by kernel_rfl) (fun _ _ _ h => nomatch h.1) (Or.inl ⟨by rfl, ?_⟩) hS4 ?_
    ·intro w hSw
     go_simp
    simp only [Act.put, sA, sB, sC]
    refine wpAnyH_ready (rs := [9]) (by kernel_rfl) (by simp) ?_
    refine AllReadyH.cons (o := { dst := none, op := .store 26 (.tmp 3) (.tmp 13), guard := none, .. }) rfl (fun K hK => ?_) AllReadyH.nil
    rw [if_pos (by rfl)]
    refine wp_store_mid (P := Tryz.prog) 26 (.tmp 3) (.tmp 13) rfl gs 0 ([.slice (some ⟨g9, 0, none⟩) n1 e9, .slice (some ⟨g12, 0, none⟩) n2 e12, .slice none 0 0]).toArray rfl rfl (hAg.there 0 _ (Nat.le_refl _)) i46 (all_oneCell_toArray (one26 _ _ _ _ _ _ _ _ _)) ?_
    have hBf : Below w2.heap.size w2 (y4.setCells gs 0 [.slice (some ⟨g9, 0, none⟩) n1 e9, .slice (some ⟨g12, 0, none⟩) n2 e12, .slice none 0 0]) := (But.setCells _ 0 _ (But.refl _ _)).below hB4 hgl hB4.size
    refine hK.out _ _ (hA1.below hBf) (fun _ => ?_)
    refine wpAnyH_done (by kernel_rfl) ?_ _
    refine ⟨rfl, b6, gs, _, _, rfl, ?_, hBf, hgl⟩
    have em1 := hn1.out
    subst em1
    have em2 := hn2.out
    subst em2
    exact K1.make (A := w2.heap.size) hAg rfl ho9 ho12 (fun v hv => HI.out v hv _) (by omega) hr12 hbl hgg
  ·skip
   rw [if_pos (by rfl)]
   refine wp_alloc_at 26 rfl _ 3 z46' ?_
   intro y1 hAg hb hs
   have hB1 := hB0.trans (hb.mono hB0.size)
   have hS1 := hA1.below hB1
   obtain ⟨gs, hgs⟩ : ∃ gs, gs = y0.heap.size := ⟨_, rfl⟩
   rw [← hgs] at hAg ⊢
   have hgl : w2.heap.size ≤ gs := by have := hB0.size; omega
   clear hb hs hgs
   refine hK.out _ _ hS1 (fun _ => ?_)
   refine wpAnyH_ready (rs := [0]) (by kernel_rfl) (by simp) ?_
   refine AllReadyH.cons (o := { dst := some 6, op := .buildSlice 22 0 #[], guard := none, .. }) rfl (fun K hK => ?_) AllReadyH.nil
   rw [if_pos (by rfl)]
   unfold Oper.wp
   go_simp
   obtain ⟨y2, hz⟩ : ∃ z, z = y1.alloc (.cells #[] 56) := ⟨_, rfl⟩
   obtain ⟨b6, hb6⟩ : ∃ b, b = y1.heap.size := ⟨_, rfl⟩
   have hb : Below y1.heap.size y1 y2 := by rw [hz]; exact (Below.refl _ _).alloc (Nat.le_refl _) _
   have ho6 : y2.ownsRow b6 56 3 (.slice (some ⟨b6, 0, none⟩) 0 0) 0 [] := by rw [hz, hb6]; exact World.ownsRow_made y1 #[] 0 (Nat.le_refl _) (by unfold maxLen; omega) rfl
   rw [← hz, ← hb6]
   have hB2 := hB1.trans (hb.mono hB1.size)
   have hS2 := hA1.below hB2
   have hbl : w2.heap.size ≤ b6 := by have := hB1.size; omega
   have hAg := hAg.below hb
   clear hb hz hb6
   refine hK.out _ _ hS2 (fun _ => ?_)
   refine wpAnyH_ready (rs := [3]) (by kernel_rfl) (by simp) ?_
   refine AllReadyH.cons (o := { dst := some 9, op := .call { callee := .builtin .append, args := #[.tmp 6, .tmp 8], argTypes := #[22, 22] }, guard := none, .. }) rfl (fun K hK => ?_) AllReadyH.nil
   rw [if_pos (by rfl)]
   refine appW (.tmp 6) (.tmp 8) 22 56 _ 3 32 b6 b6 a1 n1 c1 (vs.flatMap VT.cells) rfl Tryz.underlying22 f56 rfl (by decide) rfl rfl ho6 (by rw [flat_len VT.cells3, hn1.out]) HN1.out (vt_news (HR.out.1.old (Old.of_below (hw02.trans (hB2.mono hw02.size)) hBw))) (vt_one vs) (by unfold maxLen; omega) (by omega) (Nat.le_of_lt (ho6.lt b6 rfl).2) ?_
   intro g9 e9 y3 ho9 hgr
   have hB3 : Below w2.heap.size w2 y3 := hB2.grown hgr hB2.size (fun k hk => by cases hk; exact hbl)
   have hS3 := hA1.below hB3
   have hAg := hAg.grown hgr (fun e => own_apart ho6 hAg (by decide) b6 rfl (by cases e; rfl))
   clear hgr ho6
   refine hK.out _ _ hS3 (fun _ => ?_)
   refine wpAnyH_ready (rs := [6]) (by kernel_rfl) (by simp) ?_
   refine AllReadyH.cons (o := { dst := some 12, op := .call { callee := .value (.func 28), args := #[.tmp 11], argTypes := #[23] }, guard := none, .. }) rfl (fun K hK => ?_) AllReadyH.nil
   rw [if_pos (by rfl)]
   go_wp2_with (go_at_call 28; refine (G28.out _ (hw02.trans (hB3.mono hw02.size))).mono ?_; rintro e y4 ⟨g12, e12, rfl, hr12, hg12, ho12, hb⟩)
   have hB4 := hB3.trans (hb.mono hB3.size)
   have hS4 := hA1.below hB4
   have ho9 := own_below ho9 hb
   have hgg : w2.heap.size ≤ g12 := by have := hB3.size; omega
   have hAg := hAg.below hb
   clear hb
   refine hK.out _ _ hS4 (fun _ => ?_)
   refine wpAnyH_take (i := 7) (oi := { dst := some 13, op := .build 26 #[(0, .tmp 9), (1, .tmp 12)], guard := none, .. }) (v := .agg #[.slice (some ⟨g9, 0, none⟩) n1 e9, .slice (some ⟨g12, 0, none⟩) n2 e12, .slice none 0 0]) rfl (by kernel_rfl) (by kernel_rfl) (by kernel_rfl) (fun _ _ _ h => nomatch h.1) (Or.inl ⟨by rfl, ?_⟩) hS4 ?_
   ·intro w hSw
    go_simp
   simp only [Act.put, sA, sB, sC]
   refine wpAnyH_ready (rs := [9]) (by kernel_rfl) (by simp) ?_
   refine AllReadyH.cons (o := { dst := none, op := .store 26 (.tmp 3) (.tmp 13), guard := none, .. }) rfl (fun K hK => ?_) AllReadyH.nil
   rw [if_pos (by rfl)]
   refine wp_store_mid (P := Tryz.prog) 26 (.tmp 3) (.tmp 13) rfl gs 0 ([.slice (some ⟨g9, 0, none⟩) n1 e9, .slice (some ⟨g12, 0, none⟩) n2 e12, .slice none 0 0]).toArray rfl rfl (hAg.there 0 _ (Nat.le_refl _)) i46 (all_oneCell_toArray (one26 _ _ _ _ _ _ _ _ _)) ?_
   have hBf : Below w2.heap.size w2 (y4.setCells gs 0 [.slice (some ⟨g9, 0, none⟩) n1 e9, .slice (some ⟨g12, 0, none⟩) n2 e12, .slice none 0 0]) := (But.setCells _ 0 _ (But.refl _ _)).below hB4 hgl hB4.size
   refine hK.out _ _ (hA1.below hBf) (fun _ => ?_)
   refine wpAnyH_done (by kernel_rfl) ?_ _
   refine ⟨rfl, b6, gs, _, _, rfl, ?_, hBf, hgl⟩
   have em1 := hn1.out
   subst em1
   have em2 := hn2.out
   subst em2
   exact K1.make (A := w2.heap.size) hAg rfl ho9 ho12 (fun v hv => HI.out v hv _) (by omega) hr12 hbl hgg
 rintro e a x ⟨rfl, b6, gs, v9, v12, rfl, hk1, hbx, hgs⟩
 obtain ⟨hag, ⟨d1, e1, rfl, hrow1, hat1⟩, d2, e2, rfl, hrow2, hat2⟩ := hk1
 obtain ⟨v9, hv9⟩ : ∃ v, Hid (v = Value.slice d1 vs.length e1) := ⟨_, (rfl : Value.slice d1 vs.length e1 = _)⟩
 obtain ⟨v12, hv12⟩ : ∃ v, Hid (v = Value.slice d2 ms.length e2) := ⟨_, (rfl : Value.slice d2 ms.length e2 = _)⟩
 rw [← hv9.out, ← hv12.out] at hag ⊢
 have HP0 : Hid (KP gs x x v9 v12 (.slice none 0 0) ((ts.map TT.th).take 0) []) := ⟨hag, KU.nil (Nat.le_refl _), But.refl _ _, hag.lt⟩
 have hw0x : Below w.heap.size w x := hw02.trans (hbx.mono hw02.size)
 have HAp : Hid (At 26 x w.heap.size [.slice a1 n1 c1, .slice a2 n2 c2, .slice a3 n3 c3]) := hA1.below hbx
 have HAr : Hid (At 26 x w1.heap.size _) := hA2.below hbx
 have H1 : Hid (RowV x.heap.size x d1 e1 vs ∧ (vs = [] ∨ ∃ g o, d1 = some ⟨g, o, none⟩ ∧ w2.heap.size ≤ g ∧ g ≠ gs)) := ⟨hrow1, hat1⟩
 have H2 : Hid (RowN x.heap.size x d2 e2 ms ∧ (ms = [] ∨ ∃ g o, d2 = some ⟨g, o, none⟩ ∧ w2.heap.size ≤ g ∧ g ≠ gs)) := ⟨hrow2, hat2⟩
 clear hag hrow1 hat1 hrow2 hat2 hA1 hA2 HN1 HI G28
 have hszx := hbx.size
 go_wp2_with fail
 go_loopw [4] (fun j wr => ∃ i : Nat, j = .int .i64 (i : Int) ∧ i ≤ n3 ∧ Hid (∃ v ys, ys.length = i ∧ KP gs x wr v9 v12 v ((ts.map TT.th).take i) ys)) (fun j _ => n3 - (intOf j).toNat)
 case atStart => exact ⟨0, rfl, Nat.zero_le _, _, _, rfl, HP0.out⟩
 case round =>
  clear HP0
  obtain ⟨i, rfl, hi, hX⟩ := hrel
  obtain ⟨v, ys, hyl, hk⟩ := hX.out
  clear hX
  have HYL : Hid (ys.length = i) := hyl
  have hyb : ys.length ≤ 1048576 := by omega
  have hgx := hk.lt
  have hAp : At 26 wr w.heap.size [.slice a1 n1 c1, .slice a2 n2 c2, .slice a3 n3 c3] := hk.bl.at HAp.out (by omega)
  have hwr : Below w.heap.size w wr := hk.bl.below hw0x (by omega) (by omega)
  obtain ⟨p0, p1, p2⟩ := pg_cells hAp
  by_cases hc : i < n3
  ·obtain ⟨xt, hx⟩ : ∃ k, ts[i]? = some k := ⟨ts[i]'(by rw [← hn3.out]; exact hc), by rw [List.getElem?_eq_getElem]⟩
   have HX : Hid ((ts.map TT.th).take i ++ [xt.th] = (ts.map TT.th).take (i + 1)) := by
    show _ = _
    rw [List.take_add_one, List.getElem?_map, hx]
    rfl
   have hO := Old.of_below hwr hBw
   obtain ⟨g1, o1, rfl, hg1, hr1, hx1⟩ := (HR.out.2.2.old hO).at i xt hx
   have hnx := HN.out xt (List.mem_of_getElem? hx)
   obtain ⟨nm, b1, d1, ls, b2, d2, bs⟩ := xt
   obtain ⟨m, hm1⟩ : ∃ n, Hid (n = ls.length) := ⟨_, (rfl : ls.length = _)⟩
   obtain ⟨m2, hm2⟩ : ∃ n, Hid (n = bs.length) := ⟨_, (rfl : bs.length = _)⟩
   have hml := hx1.1.1
   have hmk := hx1.1.2.1
   rw [← hm1.out] at hml hmk
   have HN3 : Hid (b1 = none → d1 = 0 ∧ m = 0) := fun e => ⟨hnx e, by have e2 : d1 = 0 := hnx e; have e3 : m ≤ d1 := hmk; omega⟩
   have HX1 : Hid (RowV B wr b1 d1 ls ∧ RowS B wr b2 d2 bs) := hx1
   have HI3 : Hid (∀ v ∈ ls, ∀ (u : World), v.In 0 u) := fun v hv u => hx1.1.ins v hv
   simp only [TT.cells] at hr1
   rw [← hm1.out, ← hm2.out] at hr1
   clear hx hx1 hnx hO
   go_wp2_with (first
    | ((with_reducible show wpList _ _ _ _ _ _); refine wpList_load_mid (P := Tryz.prog) rfl 59 (.tmp 24) rfl g1 (o1 + i * 3) (by first | rfl | (simp; done)) [.string nm, .slice b1 m d1, .slice b2 m2 d2] _ hr1 Tryz.underlying59 rfl i42 ?_)
    | ((with_reducible show wpList _ _ _ _ _ _); refine wpList_alloc_at rfl 59 rfl _ 3 z42 ?_; intro z1 hA3 hb3 hs3)
    | ((with_reducible show wpList _ _ _ _ _ _); refine wpList_store_at (P := Tryz.prog) rfl 59 (.tmp 5) (.tmp 25) rfl wr.heap.size [.string nm, .slice b1 m d1, .slice b2 m2 d2] rfl rfl 59 _ hA3 i42 rfl (one59 _ _ _ _ _ _ _) ?_; intro z2 hAt hb4 hs4; refine Hid.out ?_))
   refine hidU ?_
   have hBz : Below wr.heap.size wr z2 := hb4.below hb3 (Nat.le_refl _) (by omega)
   have hk2 := hk.below hBz
   have hgt : some wr.heap.size ≠ v.ownBlock := fun e => by have := (hk.ku.own.lt _ e.symm).2; omega
   have hgr : gs < wr.heap.size := hk.ag.lt
   have hBwr : B ≤ wr.heap.size := by have := hwr.size; omega
   have HV : Hid (∀ u, Below z2.heap.size z2 u → RowV B u b1 d1 ls) := fun u hu => HX1.out.1.old (Old.of_below (hBz.trans (hu.mono hBz.size)) hBwr)
   have GB : Hid (∀ u, Below z2.heap.size z2 u → Calls Tryz.prog 29 #[.slice b2 m2 d2] u fun r w' => ∃ (a' : Option Addr) (c' : Nat) (ys : List ST), r = .returned (.slice a' ys.length c') ∧ ys.map ST.st = bs.map ST.st ∧ RowS w'.heap.size w' a' c' ys ∧ (ys = [] ∨ ∃ g o, a' = some ⟨g, o, none⟩ ∧ u.heap.size ≤ g) ∧ ST.Ups u.heap.size ys ∧ Below u.heap.size u w') := fun u hu => by
    have := kcStmts_any B _ bs (Nat.lt_succ_self _) b2 d2 u (RowS.old HX1.out.2 (Old.of_below (hBz.trans (hu.mono hBz.size)) hBwr)) (by have := hu.size; have := hBz.size; omega)
    rw [← hm2.out] at this
    exact this
   clear hr1 hA3 hb3 hs3 hb4 hs4 p0 p1 p2 hAp hk HX1 hyl
   go_wp2_with fail
   refine Code.wp_mono (Q := fun e a u => e = .normal ∧ ∃ (u5 u14 u15 u16 u17 u18 u19 u20 u21 u22 u23 u24 u25 u26 u27 u28 u29 u30 u31 u32 u33 u34 u35 u36 u37 u38 u39 u40 : Value), a = { tmps := #[.agg #[.slice a1 n1 c1, .slice a2 n2 c2, .slice (some ⟨g1, o1, none⟩) n3 c3], .pointer (some ⟨w.heap.size, 0, none⟩), .pointer (some ⟨w1.heap.size, 0, none⟩), .pointer (some ⟨gs, 0, none⟩), .int .i64 (i : Int), u5, .slice (some ⟨b6, 0, none⟩) 0 0, .pointer (some ⟨w.heap.size, 0, none⟩), .slice a1 n1 c1, v9, .pointer (some ⟨w.heap.size, 1, none⟩), .slice a2 n2 c2, v12, .agg #[v9, v12, .slice none 0 0], u14, u15, u16, u17, u18, u19, u20, u21, u22, u23, u24, u25, u26, u27, u28, u29, u30, u31, u32, u33, u34, u35, u36, u37, u38, u39, u40, undef], defers := [] } ∧ ∃ v' Y, KP gs x u v9 v12 v' ((ts.map TT.th).take (i + 1)) (ys ++ [Y])) ?_ ?_
   rotate_left
   ·have hB0 : Below z2.heap.size z2 z2.drew := Below.drew (Below.refl _ _)
    obtain ⟨y0, hy0⟩ : ∃ y, y = z2.drew := ⟨_, rfl⟩
    rw [← hy0] at hB0
    have hS0 := hAt.below hB0
    refine wp_region_held_drew (S := fun x => At 59 x wr.heap.size [.string nm, .slice b1 m d1, .slice b2 m2 d2]) (by kernel_rfl) (by rw [← hy0]; exact hS0) (fun _ => ?_)
    rw [← hy0]
    clear hy0
    refine wpAnyH_take (i := 0) (oi := { dst := some 26, op := .fieldAddr 26 (.tmp 3) 2, guard := none, .. }) (v := .pointer (some ⟨gs, 2, none⟩)) rfl (by kernel_rfl) (by kernel_rfl) (by kernel_rfl) (fun _ _ _ h => nomatch h.1) (Or.inl ⟨by rfl, ?_⟩) hS0 ?_
    ·intro w hSw
     go_simp
    simp only [Act.put, sA, sB, sC]
    refine wpAnyH_take (i := 2) (oi := { dst := some 28, op := .fieldAddr 59 (.tmp 5) 0, guard := none, .. }) (v := .pointer (some ⟨wr.heap.size, 0, none⟩)) rfl (by kernel_rfl) (by kernel_rfl) (by kernel_rfl) (fun _ _ _ h => nomatch h.1) (Or.inl ⟨by rfl, ?_⟩) hS0 ?_
    ·intro w hSw
     go_simp
    simp only [Act.put, sA, sB, sC]
    refine wpAnyH_take (i := 3) (oi := { dst := some 29, op := .load 9 (.tmp 28), guard := none, .. }) (v := .string nm) rfl (by kernel_rfl) (by kernel_rfl) (by kernel_rfl) (fun _ _ _ h => nomatch h.1) (Or.inl ⟨by rfl, ?_⟩) hS0 ?_
    ·intro w hSw
     obtain ⟨z0, z1, z2⟩ := th_cells hSw
     go_simp
    simp only [Act.put, sA, sB, sC]
    refine wpAnyH_take (i := 5) (oi := { dst := some 31, op := .fieldAddr 59 (.tmp 5) 1, guard := none, .. }) (v := .pointer (some ⟨wr.heap.size, 1, none⟩)) rfl (by kernel_rfl) (by kernel_rfl) (by kernel_rfl) (fun _ _ _ h => nomatch h.1) (Or.inl ⟨by rfl, ?_⟩) hS0 ?_
    ·intro w hSw
     go_simp
    simp only [Act.put, sA, sB, sC]
    refine wpAnyH_take (i := 6) (oi := { dst := some 32, op := .load 22 (.tmp 31), guard := none, .. }) (v := .slice b1 m d1) rfl (by kernel_rfl) (by kernel_rfl) (by kernel_rfl) (fun _ _ _ h => nomatch h.1) (Or.inl ⟨by rfl, ?_⟩) hS0 ?_
    ·intro w hSw
     obtain ⟨z0, z1, z2⟩ := th_cells hSw
     go_simp
    simp only [Act.put, sA, sB, sC]
    refine wpAnyH_take (i := 8) (oi := { dst := some 34, op := .fieldAddr 59 (.tmp 5) 2, guard := none, .. }) (v := .pointer (some ⟨wr.heap.size, 2, none⟩)) rfl (by kernel_rfl) (by kernel_rfl) (by kernel_rfl) (fun _ _ _ h => nomatch h.1) (Or.inl ⟨by rfl, ?_⟩) hS0 ?_
    ·intro w hSw
     go_simp
    simp only [Act.put, sA, sB, sC]
    refine wpAnyH_take (i := 9) (oi := { dst := some 35, op := .load 57 (.tmp 34), guard := none, .. }) (v := .slice b2 m2 d2) rfl (by kernel_rfl) (by kernel_rfl) (by kernel_rfl) (fun _ _ _ h => nomatch h.1) (Or.inl ⟨by rfl, ?_⟩) hS0 ?_
    ·intro w hSw
     obtain ⟨z0, z1, z2⟩ := th_cells hSw
     go_simp
    simp only [Act.put, sA, sB, sC]
    refine wpAnyH_ready (rs := [1, 4]) (by kernel_rfl) (by simp) ?_
    refine AllReadyH.cons (o := { dst := some 27, op := .load 24 (.tmp 26), guard := none, .. }) rfl (fun K hK => ?_) (AllReadyH.cons (o := { dst := some 30, op := .buildSlice 22 0 #[], guard := none, .. }) rfl (fun K hK => ?_) AllReadyH.nil)
    ·skip
     rw [if_pos (by rfl)]
     have zv := (pg_cells (hk2.below hB0).ag).2.2
     unfold Oper.wp
     go_simp
     refine hK.out _ _ hS0 (fun _ => ?_)
     clear zv
     refine wpAnyH_ready (rs := [4]) (by kernel_rfl) (by simp) ?_
     refine AllReadyH.cons (o := { dst := some 30, op := .buildSlice 22 0 #[], guard := none, .. }) rfl (fun K hK => ?_) AllReadyH.nil
     rw [if_pos (by rfl)]
     unfold Oper.wp
     go_simp
     obtain ⟨y1, hz⟩ : ∃ z, z = y0.alloc (.cells #[] 56) := ⟨_, rfl⟩
     obtain ⟨b6, hb6⟩ : ∃ b, b = y0.heap.size := ⟨_, rfl⟩
     have hb : Below y0.heap.size y0 y1 := by rw [hz]; exact (Below.refl _ _).alloc (Nat.le_refl _) _
     have ho6 : y1.ownsRow b6 56 3 (.slice (some ⟨b6, 0, none⟩) 0 0) 0 [] := by rw [hz, hb6]; exact World.ownsRow_made y0 #[] 0 (Nat.le_refl _) (by unfold maxLen; omega) rfl
     rw [← hz, ← hb6]
     have hB1 := hB0.trans (hb.mono hB0.size)
     have hS1 := hAt.below hB1
     have hbl : z2.heap.size ≤ b6 := by have := hB0.size; omega
     clear hb hz hb6
     refine hK.out _ _ hS1 (fun _ => ?_)
     refine wpAnyH_ready (rs := [7]) (by kernel_rfl) (by simp) ?_
     refine AllReadyH.cons (o := { dst := some 33, op := .call { callee := .builtin .append, args := #[.tmp 30, .tmp 32], argTypes := #[22, 22] }, guard := none, .. }) rfl (fun K hK => ?_) AllReadyH.nil
     rw [if_pos (by rfl)]
     refine appW (.tmp 30) (.tmp 32) 22 56 _ 3 32 b6 b6 b1 m d1 (ls.flatMap VT.cells) rfl Tryz.underlying22 f56 rfl (by decide) rfl rfl ho6 (by rw [flat_len VT.cells3, hm1.out]) HN3.out (vt_news (HV.out _ hB1)) (vt_one ls) (by unfold maxLen; omega) (by omega) (Nat.le_of_lt (ho6.lt b6 rfl).2) ?_
     intro gL eL y2 hoL hgr
     have hB2 : Below z2.heap.size z2 y2 := hB1.grown hgr hB1.size (fun k hk => by cases hk; exact hbl)
     have hS2 := hAt.below hB2
     clear hgr ho6
     refine hK.out _ _ hS2 (fun _ => ?_)
     refine wpAnyH_ready (rs := [10]) (by kernel_rfl) (by simp) ?_
     refine AllReadyH.cons (o := { dst := some 36, op := .call { callee := .value (.func 29), args := #[.tmp 35], argTypes := #[57] }, guard := none, .. }) rfl (fun K hK => ?_) AllReadyH.nil
     rw [if_pos (by rfl)]
     go_wp2_with (go_at_call 29; refine (GB.out _ hB2).mono ?_; rintro e y3 ⟨f2, k2, bs', rfl, hm2', hr2, ha2, hup2, hb⟩)
     have hB3 := hB2.trans (hb.mono hB2.size)
     have hS3 := hAt.below hB3
     have hoL := own_below hoL hb
     have ha2 := at_mono hB2.size ha2
     have hup2 := hup2.mono hB2.size
     clear hb
     refine hK.out _ _ hS3 (fun _ => ?_)
     refine wpAnyH_take (i := 11) (oi := { dst := some 37, op := .build 59 #[(0, .tmp 29), (1, .tmp 33), (2, .tmp 36)], guard := none, .. }) (v := .agg [.string nm, .slice (some ⟨gL, 0, none⟩) m eL, .slice f2 bs'.length k2].toArray) rfl (by kernel_rfl) (by kernel_rfl) (by kernel_rfl) (fun _ _ _ h => nomatch h.1) (Or.inl ⟨by rfl, ?_⟩) hS3 ?_
     ·intro w hSw
      go_simp
     simp only [Act.put, sA, sB, sC]
     refine wpAnyH_ready (rs := [12]) (by kernel_rfl) (by simp) ?_
     refine AllReadyH.cons (o := { dst := some 38, op := .buildSlice 24 1 #[(0, .tmp 37)], guard := none, .. }) rfl (fun K hK => ?_) AllReadyH.nil
     rw [if_pos (by rfl)]
     obtain ⟨ie, hie, hz0, hz1, hz2⟩ := info_parts f59
     refine wp_buildSlice 24 59 1 #[(0, .tmp 37)] rfl [.string nm, .slice (some ⟨gL, 0, none⟩) m eL, .slice f2 bs'.length k2].toArray ie _ Tryz.underlying24 hie hz0 (by rw [hz1]; decide) (by rw [hz1]; decide) (by rw [hz1]; kernel_rfl) ?_
     obtain ⟨y4, hz⟩ : ∃ z, z = y3.alloc (.cells [.string nm, .slice (some ⟨gL, 0, none⟩) m eL, .slice f2 bs'.length k2].toArray 59) := ⟨_, rfl⟩
     obtain ⟨b8, hb8⟩ : ∃ b, b = y3.heap.size := ⟨_, rfl⟩
     have hb : Below y3.heap.size y3 y4 := by rw [hz]; exact (Below.refl _ _).alloc (Nat.le_refl _) _
     have hA8 : At 59 y4 b8 [.string nm, .slice (some ⟨gL, 0, none⟩) m eL, .slice f2 bs'.length k2] := by rw [hz, hb8]; exact _root_.Go.heap_alloc_new _ _
     rw [← hz, ← hb8]
     have hB4 := hB3.trans (hb.mono hB3.size)
     have hS4 := hAt.below hB4
     have hoL := own_below hoL hb
     have hr2 := (RowS.old hr2 (Old.of_below hb (Nat.le_refl _))).up hb.size
     clear hb hz hb8 hie hz0 hz1 hz2
     refine hK.out _ _ hS4 (fun _ => ?_)
     refine wpAnyH_ready (rs := [13]) (by kernel_rfl) (by simp) ?_
     refine AllReadyH.cons (o := { dst := some 39, op := .call { callee := .builtin .append, args := #[.tmp 27, .tmp 38], argTypes := #[24, 24] }, guard := none, .. }) rfl (fun K hK => ?_) AllReadyH.nil
     rw [if_pos (by rfl)]
     have hky := hk2.below hB4
     obtain ⟨ie, hie, hz0, hz1, hz2⟩ := info_parts f59
     refine wp_append_lies y4 (.tmp 27) (.tmp 38) 24 rfl x.heap.size 59 ie _ 3 64 Tryz.underlying24 hie hz0 hz1 hz2 rfl (by decide) v ys.length (flatT ys) rfl hky.ku.own ⟨b8, 0, none⟩ 1 1 [.string nm, .slice (some ⟨gL, 0, none⟩) m eL, .slice f2 bs'.length k2] rfl rfl ?_ (one59 _ _ _ _ _ _ _) (by decide) (by unfold maxLen; omega) (by omega) hky.ku.size y4.heap.size rfl ?_
     ·intro j u hj
      rw [Addr.add_mid, hA8.cell, Nat.zero_add]
      exact hj
     intro g cap u0 hown hgr hg hlt
     have HY : Hid (∃ Y : TT, Y.cells = [.string nm, .slice (some ⟨gL, 0, none⟩) m eL, .slice f2 bs'.length k2] ∧ Y.th = (TT.mk nm b1 d1 ls b2 d2 bs).th ∧ Y.In y4.heap.size y4 ∧ Y.Up z2.heap.size) := by
      have em := hm1.out
      subst em
      obtain ⟨a, c, e, hr, ht⟩ := RowV.of_own hoL (fun v hv => HI3.out v hv _) (by omega)
      cases e
      refine ⟨⟨nm, some ⟨gL, 0, none⟩, eL, ls, f2, k2, bs'⟩, rfl, ?_, ⟨hr, hr2⟩, at_mono hbl ht, ha2, hup2⟩
      show Th.mk nm.data.toList (ls.map VT.vr) (bs'.map ST.st) = Th.mk nm.data.toList (ls.map VT.vr) (bs.map ST.st)
      rw [hm2']
     have HQ : Hid (∃ Y : TT, At 26 u0 gs [v9, v12, v] ∧ KP gs x (u0.setCell ⟨gs, 2, none⟩ (.slice (some ⟨g, 0, none⟩) (ys.length + 1) cap)) v9 v12 (.slice (some ⟨g, 0, none⟩) (ys.length + 1) cap) ((ts.map TT.th).take (i + 1)) (ys ++ [Y])) := by
      obtain ⟨Y, q1, q2, q3, q4⟩ := HY.out
      rw [← q1] at hown
      have := hky.app q3 (hk2.ku.fresh q4) hown hgr hg
      rw [q2, HX.out] at this
      exact ⟨Y, this⟩
     have hS7 : At 59 u0 wr.heap.size [.string nm, .slice b1 m d1, .slice b2 m2 d2] := hS4.grown hgr hgt
     clear hie hz0 hz1 hz2 hown hgr hg hA8 HY hky
     refine hK.out _ _ hS7 (fun _ => ?_)
     refine wpAnyH_take (i := 14) (oi := { dst := some 40, op := .fieldAddr 26 (.tmp 3) 2, guard := none, .. }) (v := .pointer (some ⟨gs, 2, none⟩)) rfl (by kernel_rfl) (by kernel_rfl) (by kernel_rfl) (fun _ _ _ h => nomatch h.1) (Or.inl ⟨by rfl, ?_⟩) hS7 ?_
     ·intro w hSw
      go_simp
     simp only [Act.put, sA, sB, sC]
     refine wpAnyH_ready (rs := [15]) (by kernel_rfl) (by simp) ?_
     refine AllReadyH.cons (o := { dst := none, op := .store 24 (.tmp 40) (.tmp 39), guard := none, .. }) rfl (fun K hK => ?_) AllReadyH.nil
     rw [if_pos (by rfl)]
     obtain ⟨Y, hAg, hkf⟩ := HQ.out
     refine wp_store_thr (.tmp 40) (.tmp 39) rfl gs 2 _ _ _ rfl rfl 26 _ hAg (by show 2 < 3; decide) ?_
     refine hK.out _ _ (((But.refl gs u0).setCell 2 _).at hS7 (by omega)) (fun _ => ?_)
     refine wpAnyH_done (by kernel_rfl) ?_ _
     exact ⟨rfl, _, _, _, _, _, _, _, _, _, _, _, _, _, _, _, _, _, _, _, _, _, _, _, _, _, _, _, _, rfl, _, Y, hkf⟩
    ·skip
     rw [if_pos (by rfl)]
     unfold Oper.wp
     go_simp
     obtain ⟨y1, hz⟩ : ∃ z, z = y0.alloc (.cells #[] 56) := ⟨_, rfl⟩
     obtain ⟨b6, hb6⟩ : ∃ b, b = y0.heap.size := ⟨_, rfl⟩
     have hb : Below y0.heap.size y0 y1 := by rw [hz]; exact (Below.refl _ _).alloc (Nat.le_refl _) _
     have ho6 : y1.ownsRow b6 56 3 (.slice (some ⟨b6, 0, none⟩) 0 0) 0 [] := by rw [hz, hb6]; exact World.ownsRow_made y0 #[] 0 (Nat.le_refl _) (by unfold maxLen; omega) rfl
     rw [← hz, ← hb6]
     have hB1 := hB0.trans (hb.mono hB0.size)
     have hS1 := hAt.below hB1
     have hbl : z2.heap.size ≤ b6 := by have := hB0.size; omega
     clear hb hz hb6
     refine hK.out _ _ hS1 (fun _ => ?_)
     refine wpAnyH_ready (rs := [1, 7]) (by kernel_rfl) (by simp) ?_
     refine AllReadyH.cons (o := { dst := some 27, op := .load 24 (.tmp 26), guard := none, .. }) rfl (fun K hK => ?_) (AllReadyH.cons (o := { dst := some 33, op := .call { callee := .builtin .append, args := #[.tmp 30, .tmp 32], argTypes := #[22, 22] }, guard := none, .. }) rfl (fun K hK => ?_) AllReadyH.nil)
     ·skip
      rw [if_pos (by rfl)]
      have zv := (pg_cells (hk2.below hB1).ag).2.2
      unfold Oper.wp
      go_simp
      refine hK.out _ _ hS1 (fun _ => ?_)
      clear zv
      refine wpAnyH_ready (rs := [7]) (by kernel_rfl) (by simp) ?_
      refine AllReadyH.cons (o := { dst := some 33, op := .call { callee := .builtin .append, args := #[.tmp 30, .tmp 32], argTypes := #[22, 22] }, guard := none, .. }) rfl (fun K hK => ?_) AllReadyH.nil
      rw [if_pos (by rfl)]
      refine appW (.tmp 30) (.tmp 32) 22 56 _ 3 32 b6 b6 b1 m d1 (ls.flatMap VT.cells) rfl Tryz.underlying22 f56 rfl (by decide) rfl rfl ho6 (by rw [flat_len VT.cells3, hm1.out]) HN3.out (vt_news (HV.out _ hB1)) (vt_one ls) (by unfold maxLen; omega) (by omega) (Nat.le_of_lt (ho6.lt b6 rfl).2) ?_
      intro gL eL y2 hoL hgr
      have hB2 : Below z2.heap.size z2 y2 := hB1.grown hgr hB1.size (fun k hk => by cases hk; exact hbl)
      have hS2 := hAt.below hB2
      clear hgr ho6
      refine hK.out _ _ hS2 (fun _ => ?_)
      refine wpAnyH_ready (rs := [10]) (by kernel_rfl) (by simp) ?_
      refine AllReadyH.cons (o := { dst := some 36, op := .call { callee := .value (.func 29), args := #[.tmp 35], argTypes := #[57] }, guard := none, .. }) rfl (fun K hK => ?_) AllReadyH.nil
      rw [if_pos (by rfl)]
      go_wp2_with (go_at_call 29; refine (GB.out _ hB2).mono ?_; rintro e y3 ⟨f2, k2, bs', rfl, hm2', hr2, ha2, hup2, hb⟩)
      have hB3 := hB2.trans (hb.mono hB2.size)
      have hS3 := hAt.below hB3
      have hoL := own_below hoL hb
      have ha2 := at_mono hB2.size ha2
      have hup2 := hup2.mono hB2.size
      clear hb
      refine hK.out _ _ hS3 (fun _ => ?_)
      refine wpAnyH_take (i := 11) (oi := { dst := some 37, op := .build 59 #[(0, .tmp 29), (1, .tmp 33), (2, .tmp 36)], guard := none, .. }) (v := .agg [.string nm, .slice (some ⟨gL, 0, none⟩) m eL, .slice f2 bs'.length k2].toArray) rfl (by kernel_rfl) (by kernel_rfl) (by kernel_rfl) (fun _ _ _ h => nomatch h.1) (Or.inl ⟨by rfl, ?_⟩) hS3 ?_
      ·intro w hSw
       go_simp
      simp only [Act.put, sA, sB, sC]
      refine wpAnyH_ready (rs := [12]) (by kernel_rfl) (by simp) ?_
      refine AllReadyH.cons (o := { dst := some 38, op := .buildSlice 24 1 #[(0, .tmp 37)], guard := none, .. }) rfl (fun K hK => ?_) AllReadyH.nil
      rw [if_pos (by rfl)]
      obtain ⟨ie, hie, hz0, hz1, hz2⟩ := info_parts f59
      refine wp_buildSlice 24 59 1 #[(0, .tmp 37)] rfl [.string nm, .slice (some ⟨gL, 0, none⟩) m eL, .slice f2 bs'.length k2].toArray ie _ Tryz.underlying24 hie hz0 (by rw [hz1]; decide) (by rw [hz1]; decide) (by rw [hz1]; kernel_rfl) ?_
      obtain ⟨y4, hz⟩ : ∃ z, z = y3.alloc (.cells [.string nm, .slice (some ⟨gL, 0, none⟩) m eL, .slice f2 bs'.length k2].toArray 59) := ⟨_, rfl⟩
      obtain ⟨b8, hb8⟩ : ∃ b, b = y3.heap.size := ⟨_, rfl⟩
      have hb : Below y3.heap.size y3 y4 := by rw [hz]; exact (Below.refl _ _).alloc (Nat.le_refl _) _
      have hA8 : At 59 y4 b8 [.string nm, .slice (some ⟨gL, 0, none⟩) m eL, .slice f2 bs'.length k2] := by rw [hz, hb8]; exact _root_.Go.heap_alloc_new _ _
      rw [← hz, ← hb8]
      have hB4 := hB3.trans (hb.mono hB3.size)
      have hS4 := hAt.below hB4
      have hoL := own_below hoL hb
      have hr2 := (RowS.old hr2 (Old.of_below hb (Nat.le_refl _))).up hb.size
      clear hb hz hb8 hie hz0 hz1 hz2
      refine hK.out _ _ hS4 (fun _ => ?_)
      refine wpAnyH_ready (rs := [13]) (by kernel_rfl) (by simp) ?_
      refine AllReadyH.cons (o := { dst := some 39, op := .call { callee := .builtin .append, args := #[.tmp 27, .tmp 38], argTypes := #[24, 24] }, guard := none, .. }) rfl (fun K hK => ?_) AllReadyH.nil
      rw [if_pos (by rfl)]
      have hky := hk2.below hB4
      obtain ⟨ie, hie, hz0, hz1, hz2⟩ := info_parts f59
      refine wp_append_lies y4 (.tmp 27) (.tmp 38) 24 rfl x.heap.size 59 ie _ 3 64 Tryz.underlying24 hie hz0 hz1 hz2 rfl (by decide) v ys.length (flatT ys) rfl hky.ku.own ⟨b8, 0, none⟩ 1 1 [.string nm, .slice (some ⟨gL, 0, none⟩) m eL, .slice f2 bs'.length k2] rfl rfl ?_ (one59 _ _ _ _ _ _ _) (by decide) (by unfold maxLen; omega) (by omega) hky.ku.size y4.heap.size rfl ?_
      ·intro j u hj
       rw [Addr.add_mid, hA8.cell, Nat.zero_add]
       exact hj
      intro g cap u0 hown hgr hg hlt
      have HY : Hid (∃ Y : TT, Y.cells = [.string nm, .slice (some ⟨gL, 0, none⟩) m eL, .slice f2 bs'.length k2] ∧ Y.th = (TT.mk nm b1 d1 ls b2 d2 bs).th ∧ Y.In y4.heap.size y4 ∧ Y.Up z2.heap.size) := by
       have em := hm1.out
       subst em
       obtain ⟨a, c, e, hr, ht⟩ := RowV.of_own hoL (fun v hv => HI3.out v hv _) (by omega)
       cases e
       refine ⟨⟨nm, some ⟨gL, 0, none⟩, eL, ls, f2, k2, bs'⟩, rfl, ?_, ⟨hr, hr2⟩, at_mono hbl ht, ha2, hup2⟩
       show Th.mk nm.data.toList (ls.map VT.vr) (bs'.map ST.st) = Th.mk nm.data.toList (ls.map VT.vr) (bs.map ST.st)
       rw [hm2']
      have HQ : Hid (∃ Y : TT, At 26 u0 gs [v9, v12, v] ∧ KP gs x (u0.setCell ⟨gs, 2, none⟩ (.slice (some ⟨g, 0, none⟩) (ys.length + 1) cap)) v9 v12 (.slice (some ⟨g, 0, none⟩) (ys.length + 1) cap) ((ts.map TT.th).take (i + 1)) (ys ++ [Y])) := by
       obtain ⟨Y, q1, q2, q3, q4⟩ := HY.out
       rw [← q1] at hown
       have := hky.app q3 (hk2.ku.fresh q4) hown hgr hg
       rw [q2, HX.out] at this
       exact ⟨Y, this⟩
      have hS7 : At 59 u0 wr.heap.size [.string nm, .slice b1 m d1, .slice b2 m2 d2] := hS4.grown hgr hgt
      clear hie hz0 hz1 hz2 hown hgr hg hA8 HY hky
      refine hK.out _ _ hS7 (fun _ => ?_)
      refine wpAnyH_take (i := 14) (oi := { dst := some 40, op := .fieldAddr 26 (.tmp 3) 2, guard := none, .. }) (v := .pointer (some ⟨gs, 2, none⟩)) rfl (by kernel_rfl) (by kernel_rfl) (by kernel_rfl) (fun _ _ _ h => nomatch h.1) (Or.inl ⟨by rfl, ?_⟩) hS7 ?_
      ·intro w hSw
       go_simp
      simp only [Act.put, sA, sB, sC]
      refine wpAnyH_ready (rs := [15]) (by kernel_rfl) (by simp) ?_
      refine AllReadyH.cons (o := { dst := none, op := .store 24 (.tmp 40) (.tmp 39), guard := none, .. }) rfl (fun K hK => ?_) AllReadyH.nil
      rw [if_pos (by rfl)]
      obtain ⟨Y, hAg, hkf⟩ := HQ.out
      refine wp_store_thr (.tmp 40) (.tmp 39) rfl gs 2 _ _ _ rfl rfl 26 _ hAg (by show 2 < 3; decide) ?_
      refine hK.out _ _ (((But.refl gs u0).setCell 2 _).at hS7 (by omega)) (fun _ => ?_)
      refine wpAnyH_done (by kernel_rfl) ?_ _
      exact ⟨rfl, _, _, _, _, _, _, _, _, _, _, _, _, _, _, _, _, _, _, _, _, _, _, _, _, _, _, _, _, rfl, _, Y, hkf⟩
     ·skip
      rw [if_pos (by rfl)]
      refine appW (.tmp 30) (.tmp 32) 22 56 _ 3 32 b6 b6 b1 m d1 (ls.flatMap VT.cells) rfl Tryz.underlying22 f56 rfl (by decide) rfl rfl ho6 (by rw [flat_len VT.cells3, hm1.out]) HN3.out (vt_news (HV.out _ hB1)) (vt_one ls) (by unfold maxLen; omega) (by omega) (Nat.le_of_lt (ho6.lt b6 rfl).2) ?_
      intro gL eL y2 hoL hgr
      have hB2 : Below z2.heap.size z2 y2 := hB1.grown hgr hB1.size (fun k hk => by cases hk; exact hbl)
      have hS2 := hAt.below hB2
      clear hgr ho6
      refine hK.out _ _ hS2 (fun _ => ?_)
      refine wpAnyH_ready (rs := [1, 10]) (by kernel_rfl) (by simp) ?_
      refine AllReadyH.cons (o := { dst := some 27, op := .load 24 (.tmp 26), guard := none, .. }) rfl (fun K hK => ?_) (AllReadyH.cons (o := { dst := some 36, op := .call { callee := .value (.func 29), args := #[.tmp 35], argTypes := #[57] }, guard := none, .. }) rfl (fun K hK => ?_) AllReadyH.nil)
      ·skip
       rw [if_pos (by rfl)]
       have zv := (pg_cells (hk2.below hB2).ag).2.2
       unfold Oper.wp
       go_simp
       refine hK.out _ _ hS2 (fun _ => ?_)
       clear zv
       refine wpAnyH_ready (rs := [10]) (by kernel_rfl) (by simp) ?_
       refine AllReadyH.cons (o := { dst := some 36, op := .call { callee := .value (.func 29), args := #[.tmp 35], argTypes := #[57] }, guard := none, .. }) rfl (fun K hK => ?_) AllReadyH.nil
       rw [if_pos (by rfl)]
       go_wp2_with (go_at_call 29; refine (GB.out _ hB2).mono ?_; rintro e y3 ⟨f2, k2, bs', rfl, hm2', hr2, ha2, hup2, hb⟩)
       have hB3 := hB2.trans (hb.mono hB2.size)
       have hS3 := hAt.below hB3
       have hoL := own_below hoL hb
       have ha2 := at_mono hB2.size ha2
       have hup2 := hup2.mono hB2.size
       clear hb
       refine hK.out _ _ hS3 (fun _ => ?_)
       refine wpAnyH_take (i := 11) (oi := { dst := some 37, op := .build 59 #[(0, .tmp 29), (1, .tmp 33), (2, .tmp 36)], guard := none, .. }) (v := .agg [.string nm, .slice (some ⟨gL, 0, none⟩) m eL, .slice f2 bs'.length k2].toArray) rfl (by kernel_rfl) (by kernel_rfl) (by kernel_rfl) (fun _ _ _ h => nomatch h.1) (Or.inl ⟨by rfl, ?_⟩) hS3 ?_
       ·intro w hSw
        go_simp
       simp only [Act.put, sA, sB, sC]
       refine wpAnyH_ready (rs := [12]) (by kernel_rfl) (by simp) ?_
       refine AllReadyH.cons (o := { dst := some 38, op := .buildSlice 24 1 #[(0, .tmp 37)], guard := none, .. }) rfl (fun K hK => ?_) AllReadyH.nil
       rw [if_pos (by rfl)]
       obtain ⟨ie, hie, hz0, hz1, hz2⟩ := info_parts f59
       refine wp_buildSlice 24 59 1 #[(0, .tmp 37)] rfl [.string nm, .slice (some ⟨gL, 0, none⟩) m eL, .slice f2 bs'.length k2].toArray ie _ Tryz.underlying24 hie hz0 (by rw [hz1]; decide) (by rw [hz1]; decide) (by rw [hz1]; kernel_rfl) ?_
       obtain ⟨y4, hz⟩ : ∃ z, z = y3.alloc (.cells [.string nm, .slice (some ⟨gL, 0, none⟩) m eL, .slice f2 bs'.length k2].toArray 59) := ⟨_, rfl⟩
       obtain ⟨b8, hb8⟩ : ∃ b, b = y3.heap.size := ⟨_, rfl⟩
       have hb : Below y3.heap.size y3 y4 := by rw [hz]; exact (Below.refl _ _).alloc (Nat.le_refl _) _
       have hA8 : At 59 y4 b8 [.string nm, .slice (some ⟨gL, 0, none⟩) m eL, .slice f2 bs'.length k2] := by rw [hz, hb8]; exact _root_.Go.heap_alloc_new _ _
       rw [← hz, ← hb8]
       have hB4 := hB3.trans (hb.mono hB3.size)
       have hS4 := hAt.below hB4
       have hoL := own_below hoL hb
       have hr2 := (RowS.old hr2 (Old.of_below hb (Nat.le_refl _))).up hb.size
       clear hb hz hb8 hie hz0 hz1 hz2
       refine hK.out _ _ hS4 (fun _ => ?_)
       refine wpAnyH_ready (rs := [13]) (by kernel_rfl) (by simp) ?_
       refine AllReadyH.cons (o := { dst := some 39, op := .call { callee := .builtin .append, args := #[.tmp 27, .tmp 38], argTypes := #[24, 24] }, guard := none, .. }) rfl (fun K hK => ?_) AllReadyH.nil
       rw [if_pos (by rfl)]
       have hky := hk2.below hB4
       obtain ⟨ie, hie, hz0, hz1, hz2⟩ := info_parts f59
       refine wp_append_lies y4 (.tmp 27) (.tmp 38) 24 rfl x.heap.size 59 ie _ 3 64 Tryz.underlying24 hie hz0 hz1 hz2 rfl (by decide) v ys.length (flatT ys) rfl hky.ku.own ⟨b8, 0, none⟩ 1 1 [.string nm, .slice (some ⟨gL, 0, none⟩) m eL, .slice f2 bs'.length k2] rfl rfl ?_ (one59 _ _ _ _ _ _ _) (by decide) (by unfold maxLen; omega) (by omega) hky.ku.size y4.heap.size rfl ?_
       ·intro j u hj
        rw [Addr.add_mid, hA8.cell, Nat.zero_add]
        exact hj
       intro g cap u0 hown hgr hg hlt
       have HY : Hid (∃ Y : TT, Y.cells = [.string nm, .slice (some ⟨gL, 0, none⟩) m eL, .slice f2 bs'.length k2] ∧ Y.th = (TT.mk nm b1 d1 ls b2 d2 bs).th ∧ Y.In y4.heap.size y4 ∧ Y.Up z2.heap.size) := by
        have em := hm1.out
        subst em
        obtain ⟨a, c, e, hr, ht⟩ := RowV.of_own hoL (fun v hv => HI3.out v hv _) (by omega)
        cases e
        refine ⟨⟨nm, some ⟨gL, 0, none⟩, eL, ls, f2, k2, bs'⟩, rfl, ?_, ⟨hr, hr2⟩, at_mono hbl ht, ha2, hup2⟩
        show Th.mk nm.data.toList (ls.map VT.vr) (bs'.map ST.st) = Th.mk nm.data.toList (ls.map VT.vr) (bs.map ST.st)
        rw [hm2']
       have HQ : Hid (∃ Y : TT, At 26 u0 gs [v9, v12, v] ∧ KP gs x (u0.setCell ⟨gs, 2, none⟩ (.slice (some ⟨g, 0, none⟩) (ys.length + 1) cap)) v9 v12 (.slice (some ⟨g, 0, none⟩) (ys.length + 1) cap) ((ts.map TT.th).take (i + 1)) (ys ++ [Y])) := by
        obtain ⟨Y, q1, q2, q3, q4⟩ := HY.out
        rw [← q1] at hown
        have := hky.app q3 (hk2.ku.fresh q4) hown hgr hg
        rw [q2, HX.out] at this
        exact ⟨Y, this⟩
       have hS7 : At 59 u0 wr.heap.size [.string nm, .slice b1 m d1, .slice b2 m2 d2] := hS4.grown hgr hgt
       clear hie hz0 hz1 hz2 hown hgr hg hA8 HY hky
       refine hK.out _ _ hS7 (fun _ => ?_)
       refine wpAnyH_take (i := 14) (oi := { dst := some 40, op := .fieldAddr 26 (.tmp 3) 2, guard := none, .. }) (v := .pointer (some ⟨gs, 2, none⟩)) rfl (by kernel_rfl) (by kernel_rfl) (by kernel_rfl) (fun _ _ _ h => nomatch h.1) (Or.inl ⟨by rfl, ?_⟩) hS7 ?_
       ·intro w hSw
        go_simp
       simp only [Act.put, sA, sB, sC]
       refine wpAnyH_ready (rs := [15]) (by kernel_rfl) (by simp) ?_
       refine AllReadyH.cons (o := { dst := none, op := .store 24 (.tmp 40) (.tmp 39), guard := none, .. }) rfl (fun K hK => ?_) AllReadyH.nil
       rw [if_pos (by rfl)]
       obtain ⟨Y, hAg, hkf⟩ := HQ.out
       refine wp_store_thr (.tmp 40) (.tmp 39) rfl gs 2 _ _ _ rfl rfl 26 _ hAg (by show 2 < 3; decide) ?_
       refine hK.out _ _ (((But.refl gs u0).setCell 2 _).at hS7 (by omega)) (fun _ => ?_)
       refine wpAnyH_done (by kernel_rfl) ?_ _
       exact ⟨rfl, _, _, _, _, _, _, _, _, _, _, _, _, _, _, _, _, _, _, _, _, _, _, _, _, _, _, _, _, rfl, _, Y, hkf⟩
      ·skip
       rw [if_pos (by rfl)]
       go_wp2_with (go_at_call 29; refine (GB.out _ hB2).mono ?_; rintro e y3 ⟨f2, k2, bs', rfl, hm2', hr2, ha2, hup2, hb⟩)
       have hB3 := hB2.trans (hb.mono hB2.size)
       have hS3 := hAt.below hB3
       have hoL := own_below hoL hb
       have ha2 := at_mono hB2.size ha2
       have hup2 := hup2.mono hB2.size
       clear hb
       refine hK.out _ _ hS3 (fun _ => ?_)
       refine wpAnyH_take (i := 11) (oi := { dst := some 37, op := .build 59 #[(0, .tmp 29), (1, .tmp 33), (2, .tmp 36)], guard := none, .. }) (v := .agg [.string nm, .slice (some ⟨gL, 0, none⟩) m eL, .slice f2 bs'.length k2].toArray) rfl (by kernel_rfl) (by kernel_rfl) (by kernel_rfl) (fun _ _ _ h => nomatch h.1) (Or.inl ⟨by rfl, ?_⟩) hS3 ?_
       ·intro w hSw
        go_simp
       simp only [Act.put, sA, sB, sC]
       refine wpAnyH_ready (rs := [1, 12]) (by kernel_rfl) (by simp) ?_
       refine AllReadyH.cons (o := { dst := some 27, op := .load 24 (.tmp 26), guard := none, .. }) rfl (fun K hK => ?_) (AllReadyH.cons (o := { dst := some 38, op := .buildSlice 24 1 #[(0, .tmp 37)], guard := none, .. }) rfl (fun K hK => ?_) AllReadyH.nil)
       ·skip
        rw [if_pos (by rfl)]
        have zv := (pg_cells (hk2.below hB3).ag).2.2
        unfold Oper.wp
        go_simp
        refine hK.out _ _ hS3 (fun _ => ?_)
        clear zv
        refine wpAnyH_ready (rs := [12]) (by kernel_rfl) (by simp) ?_
        refine AllReadyH.cons (o := { dst := some 38, op := .buildSlice 24 1 #[(0, .tmp 37)], guard := none, .. }) rfl (fun K hK => ?_) AllReadyH.nil
        rw [if_pos (by rfl)]
        obtain ⟨ie, hie, hz0, hz1, hz2⟩ := info_parts f59
        refine wp_buildSlice 24 59 1 #[(0, .tmp 37)] rfl [.string nm, .slice (some ⟨gL, 0, none⟩) m eL, .slice f2 bs'.length k2].toArray ie _ Tryz.underlying24 hie hz0 (by rw [hz1]; decide) (by rw [hz1]; decide) (by rw [hz1]; kernel_rfl) ?_
        obtain ⟨y4, hz⟩ : ∃ z, z = y3.alloc (.cells [.string nm, .slice (some ⟨gL, 0, none⟩) m eL, .slice f2 bs'.length k2].toArray 59) := ⟨_, rfl⟩
        obtain ⟨b8, hb8⟩ : ∃ b, b = y3.heap.size := ⟨_, rfl⟩
        have hb : Below y3.heap.size y3 y4 := by rw [hz]; exact (Below.refl _ _).alloc (Nat.le_refl _) _
        have hA8 : At 59 y4 b8 [.string nm, .slice (some ⟨gL, 0, none⟩) m eL, .slice f2 bs'.length k2] := by rw [hz, hb8]; exact _root_.Go.heap_alloc_new _ _
        rw [← hz, ← hb8]
        have hB4 := hB3.trans (hb.mono hB3.size)
        have hS4 := hAt.below hB4
        have hoL := own_below hoL hb
        have hr2 := (RowS.old hr2 (Old.of_below hb (Nat.le_refl _))).up hb.size
        clear hb hz hb8 hie hz0 hz1 hz2
        refine hK.out _ _ hS4 (fun _ => ?_)
        refine wpAnyH_ready (rs := [13]) (by kernel_rfl) (by simp) ?_
        refine AllReadyH.cons (o := { dst := some 39, op := .call { callee := .builtin .append, args := #[.tmp 27, .tmp 38], argTypes := #[24, 24] }, guard := none, .. }) rfl (fun K hK => ?_) AllReadyH.nil
        rw [if_pos (by rfl)]
        have hky := hk2.below hB4
        obtain ⟨ie, hie, hz0, hz1, hz2⟩ := info_parts f59
        refine wp_append_lies y4 (.tmp 27) (.tmp 38) 24 rfl x.heap.size 59 ie _ 3 64 Tryz.underlying24 hie hz0 hz1 hz2 rfl (by decide) v ys.length (flatT ys) rfl hky.ku.own ⟨b8, 0, none⟩ 1 1 [.string nm, .slice (some ⟨gL, 0, none⟩) m eL, .slice f2 bs'.length k2] rfl rfl ?_ (one59 _ _ _ _ _ _ _) (by decide) (by unfold maxLen; omega) (by omega) hky.ku.size y4.heap.size rfl ?_
        ·intro j u hj
         rw [Addr.add_mid, hA8.cell, Nat.zero_add]
         exact hj
        intro g cap u0 hown hgr hg hlt
        have HY : Hid (∃ Y : TT, Y.cells = [.string nm, .slice (some ⟨gL, 0, none⟩) m eL, .slice f2 bs'.length k2] ∧ Y.th = (TT.mk nm b1 d1 ls b2 d2 bs).th ∧ Y.In y4.heap.size y4 ∧ Y.Up z2.heap.size) := by
         have em := hm1.out
         subst em
         obtain ⟨a, c, e, hr, ht⟩ := RowV.of_own hoL (fun v hv => HI3.out v hv _) (by omega)
         cases e
         refine ⟨⟨nm, some ⟨gL, 0, none⟩, eL, ls, f2, k2, bs'⟩, rfl, ?_, ⟨hr, hr2⟩, at_mono hbl ht, ha2, hup2⟩
         show Th.mk nm.data.toList (ls.map VT.vr) (bs'.map ST.st) = Th.mk nm.data.toList (ls.map VT.vr) (bs.map ST.st)
         rw [hm2']
        have HQ : Hid (∃ Y : TT, At 26 u0 gs [v9, v12, v] ∧ KP gs x (u0.setCell ⟨gs, 2, none⟩ (.slice (some ⟨g, 0, none⟩) (ys.length + 1) cap)) v9 v12 (.slice (some ⟨g, 0, none⟩) (ys.length + 1) cap) ((ts.map TT.th).take (i + 1)) (ys ++ [Y])) := by
         obtain ⟨Y, q1, q2, q3, q4⟩ := HY.out
         rw [← q1] at hown
         have := hky.app q3 (hk2.ku.fresh q4) hown hgr hg
         rw [q2, HX.out] at this
         exact ⟨Y, this⟩
        have hS7 : At 59 u0 wr.heap.size [.string nm, .slice b1 m d1, .slice b2 m2 d2] := hS4.grown hgr hgt
        clear hie hz0 hz1 hz2 hown hgr hg hA8 HY hky
        refine hK.out _ _ hS7 (fun _ => ?_)
        refine wpAnyH_take (i := 14) (oi := { dst := some 40, op := .fieldAddr 26 (.tmp 3) 2, guard := none, .. }) (v := .pointer (some ⟨gs, 2, none⟩)) rfl (by kernel_rfl) (by kernel_rfl) (by kernel_rfl) (fun _ _ _ h => nomatch h.1) (Or.inl ⟨by rfl, ?_⟩) hS7 ?_
        ·intro w hSw
         go_simp
        simp only [Act.put, sA, sB, sC]
        refine wpAnyH_ready (rs := [15]) (by kernel_rfl) (by simp) ?_
        refine AllReadyH.cons (o := { dst := none, op := .store 24 (.tmp 40) (.tmp 39), guard := none, .. }) rfl (fun K hK => ?_) AllReadyH.nil
        rw [if_pos (by rfl)]
        obtain ⟨Y, hAg, hkf⟩ := HQ.out
        refine wp_store_thr (.tmp 40) (.tmp 39) rfl gs 2 _ _ _ rfl rfl 26 _ hAg (by show 2 < 3; decide) ?_
        refine hK.out _ _ (((But.refl gs u0).setCell 2 _).at hS7 (by omega)) (fun _ => ?_)
        refine wpAnyH_done (by kernel_rfl) ?_ _
        exact ⟨rfl, _, _, _, _, _, _, _, _, _, _, _, _, _, _, _, _, _, _, _, _, _, _, _, _, _, _, _, _, rfl, _, Y, hkf⟩
       ·skip
        rw [if_pos (by rfl)]
        obtain ⟨ie, hie, hz0, hz1, hz2⟩ := info_parts f59
        refine wp_buildSlice 24 59 1 #[(0, .tmp 37)] rfl [.string nm, .slice (some ⟨gL, 0, none⟩) m eL, .slice f2 bs'.length k2].toArray ie _ Tryz.underlying24 hie hz0 (by rw [hz1]; decide) (by rw [hz1]; decide) (by rw [hz1]; kernel_rfl) ?_
        obtain ⟨y4, hz⟩ : ∃ z, z = y3.alloc (.cells [.string nm, .slice (some ⟨gL, 0, none⟩) m eL, .slice f2 bs'.length k2].toArray 59) := ⟨_, rfl⟩
        obtain ⟨b8, hb8⟩ : ∃ b, b = y3.heap.size := ⟨_, rfl⟩
        have hb : Below y3.heap.size y3 y4 := by rw [hz]; exact (Below.refl _ _).alloc (Nat.le_refl _) _
        have hA8 : At 59 y4 b8 [.string nm, .slice (some ⟨gL, 0, none⟩) m eL, .slice f2 bs'.length k2] := by rw [hz, hb8]; exact _root_.Go.heap_alloc_new _ _
        rw [← hz, ← hb8]
        have hB4 := hB3.trans (hb.mono hB3.size)
        have hS4 := hAt.below hB4
        have hoL := own_below hoL hb
        have hr2 := (RowS.old hr2 (Old.of_below hb (Nat.le_refl _))).up hb.size
        clear hb hz hb8 hie hz0 hz1 hz2
        refine hK.out _ _ hS4 (fun _ => ?_)
        refine wpAnyH_ready (rs := [1]) (by kernel_rfl) (by simp) ?_
        refine AllReadyH.cons (o := { dst := some 27, op := .load 24 (.tmp 26), guard := none, .. }) rfl (fun K hK => ?_) AllReadyH.nil
        rw [if_pos (by rfl)]
        have zv := (pg_cells (hk2.below hB4).ag).2.2
        unfold Oper.wp
        go_simp
        refine hK.out _ _ hS4 (fun _ => ?_)
        clear zv
        refine wpAnyH_ready (rs := [13]) (by kernel_rfl) (by simp) ?_
        refine AllReadyH.cons (o := { dst := some 39, op := .call { callee := .builtin .append, args := #[.tmp 27, .tmp 38], argTypes := #[24, 24] }, guard := none, .. }) rfl (fun K hK => ?_) AllReadyH.nil
        rw [if_pos (by rfl)]
        have hky := hk2.below hB4
        obtain ⟨ie, hie, hz0, hz1, hz2⟩ := info_parts f59
        refine wp_append_lies y4 (.tmp 27) (.tmp 38) 24 rfl x.heap.size 59 ie _ 3 64 Tryz.underlying24 hie hz0 hz1 hz2 rfl (by decide) v ys.length (flatT ys) rfl hky.ku.own ⟨b8, 0, none⟩ 1 1 [.string nm, .slice (some ⟨gL, 0, none⟩) m eL, .slice f2 bs'.length k2] rfl rfl ?_ (one59 _ _ _ _ _ _ _) (by decide) (by unfold maxLen; omega) (by omega) hky.ku.size y4.heap.size rfl ?_
        ·intro j u hj
         rw [Addr.add_mid, hA8.cell, Nat.zero_add]
         exact hj
        intro g cap u0 hown hgr hg hlt
        have HY : Hid (∃ Y : TT, Y.cells = [.string nm, .slice (some ⟨gL, 0, none⟩) m eL, .slice f2 bs'.length k2] ∧ Y.th = (TT.mk nm b1 d1 ls b2 d2 bs).th ∧ Y.In y4.heap.size y4 ∧ Y.Up z2.heap.size) := by
         have em := hm1.out
         subst em
         obtain ⟨a, c, e, hr, ht⟩ := RowV.of_own hoL (fun v hv => HI3.out v hv _) (by omega)
         cases e
         refine ⟨⟨nm, some ⟨gL, 0, none⟩, eL, ls, f2, k2, bs'⟩, rfl, ?_, ⟨hr, hr2⟩, at_mono hbl ht, ha2, hup2⟩
         show Th.mk nm.data.toList (ls.map VT.vr) (bs'.map ST.st) = Th.mk nm.data.toList (ls.map VT.vr) (bs.map ST.st)
         rw [hm2']
        have HQ : Hid (∃ Y : TT, At 26 u0 gs [v9, v12, v] ∧ KP gs x (u0.setCell ⟨gs, 2, none⟩ (.slice (some ⟨g, 0, none⟩) (ys.length + 1) cap)) v9 v12 (.slice (some ⟨g, 0, none⟩) (ys.length + 1) cap) ((ts.map TT.th).take (i + 1)) (ys ++ [Y])) := by
         obtain ⟨Y, q1, q2, q3, q4⟩ := HY.out
         rw [← q1] at hown
         have := hky.app q3 (hk2.ku.fresh q4) hown hgr hg
         rw [q2, HX.out] at this
         exact ⟨Y, this⟩
        have hS7 : At 59 u0 wr.heap.size [.string nm, .slice b1 m d1, .slice b2 m2 d2] := hS4.grown hgr hgt
        clear hie hz0 hz1 hz2 hown hgr hg hA8 HY hky
        refine hK.out _ _ hS7 (fun _ => ?_)
        refine wpAnyH_take (i := 14) (oi := { dst := some 40, op := .fieldAddr 26 (.tmp 3) 2, guard := none, .. }) (v := .pointer (some ⟨gs, 2, none⟩)) rfl (by kernel_rfl) (by kernel_rfl) (by kernel_rfl) (fun _ _ _ h => nomatch h.1) (Or.inl ⟨by rfl, ?_⟩) hS7 ?_
        ·intro w hSw
         go_simp
        simp only [Act.put, sA, sB, sC]
        refine wpAnyH_ready (rs := [15]) (by kernel_rfl) (by simp) ?_
        refine AllReadyH.cons (o := { dst := none, op := .store 24 (.tmp 40) (.tmp 39), guard := none, .. }) rfl (fun K hK => ?_) AllReadyH.nil
        rw [if_pos (by rfl)]
        obtain ⟨Y, hAg, hkf⟩ := HQ.out
        refine wp_store_thr (.tmp 40) (.tmp 39) rfl gs 2 _ _ _ rfl rfl 26 _ hAg (by show 2 < 3; decide) ?_
        refine hK.out _ _ (((But.refl gs u0).setCell 2 _).at hS7 (by omega)) (fun _ => ?_)
        refine wpAnyH_done (by kernel_rfl) ?_ _
        exact ⟨rfl, _, _, _, _, _, _, _, _, _, _, _, _, _, _, _, _, _, _, _, _, _, _, _, _, _, _, _, _, rfl, _, Y, hkf⟩
   rintro e a u ⟨rfl, u5, u14, u15, u16, u17, u18, u19, u20, u21, u22, u23, u24, u25, u26, u27, u28, u29, u30, u31, u32, u33, u34, u35, u36, u37, u38, u39, u40, rfl, v', Y, hkf⟩
   have HF : Hid (∃ v ys, ys.length = i + 1 ∧ KP gs x u v9 v12 v ((ts.map TT.th).take (i + 1)) ys) := ⟨_, _, by rw [List.length_append, HYL.out]; rfl, hkf⟩
   clear hkf HYL HV GB HN3 HI3 hk2
   go_wp2_with fail
   go_roundw
   case rel => exact ⟨i + 1, by go_num, by omega, HF⟩
   case measure => simp [intOf]; omega
  ·have hin : i = n3 := by omega
   obtain ⟨d3, e3, rfl, hrow, hat, hups⟩ := hk.ku.done hyb
   have hex := hk.ku.ex
   rw [hin, hn3.out, List.take_of_length_le (by simp)] at hex
   have hAg := hk.ag
   have hAr := hk.bl.at HAr.out (by omega)
   rw [hv9.out, hv12.out] at hAg
   have HZ : Hid (ys.map TT.th = ts.map TT.th ∧ RowT wr.heap.size wr d3 e3 ys ∧ (ys = [] ∨ ∃ g o, d3 = some ⟨g, o, none⟩ ∧ w2.heap.size ≤ g) ∧ TT.Ups w2.heap.size ys) := ⟨hex, hrow, at_mono (by omega) hat, fun t ht => (hups t ht).mono (by omega)⟩
   have HK2 : Hid (RowV wr.heap.size wr d1 e1 vs ∧ RowN wr.heap.size wr d2 e2 ms) := by
    have hs := hk.bl.size
    exact ⟨(RowV.mid (A := 0) (fun g => w2.heap.size ≤ g ∧ g ≠ gs) (fun g q hl => hk.bl.block g hl q.2) H1.out.1 H1.out.2).up hs, (RowN.mid (A := 0) (fun g => w2.heap.size ≤ g ∧ g ≠ gs) (fun g q hl => hk.bl.block g hl q.2) H2.out.1 H2.out.2).up hs⟩
   clear hk hex hrow hat hups HR HN HAp HAr hyl HYL hgx
   go_wp2_with (first
    | ((with_reducible show wpList _ _ _ _ _ _); refine wpList_load_at (P := Tryz.prog) rfl 26 (.tmp 3) rfl gs rfl 26 [.slice d1 vs.length e1, .slice d2 ms.length e2, .slice d3 ys.length e3] hAg _ Tryz.underlying26 rfl i46 ?_)
    | ((with_reducible show wpList _ _ _ _ _ _); refine wpList_store_at (P := Tryz.prog) rfl 26 (.tmp 2) (.tmp 41) rfl w1.heap.size [.slice d1 vs.length e1, .slice d2 ms.length e2, .slice d3 ys.length e3] rfl rfl 26 _ hAr i46 rfl (one26 _ _ _ _ _ _ _ _ _) ?_; intro zf hAf hbf hsf; refine Hid.out ?_))
   refine hidU ?_
   go_wp2
   refine bodyPost_ret (results_at rfl _ _ w1.heap.size 26 [.slice d1 vs.length e1, .slice d2 ms.length e2, .slice d3 ys.length e3] _ rfl hAf Tryz.underlying26 rfl i46) rfl ?_
   refine hidU ?_
   obtain ⟨h1, h2, h3, h4⟩ := HZ.out
   have hMid : Mid w2.heap.size wr.heap.size wr zf := fun k q1 q2 => hbf.block k q2 (by omega)
   have hsz := hbf.size
   refine ⟨⟨d1, e1, vs, d2, e2, ms, d3, e3, ys⟩, rfl, rfl, rfl, h1, ⟨?_, ?_, ?_⟩, ⟨at_imp (fun k q => by have := q.1; omega) H1.out.2, at_imp (fun k q => by have := q.1; omega) H2.out.2, at_mono (by omega) h3, fun t ht => (TT.Up.lies (h4 t ht)).mono fun k q => by omega⟩, hbf.below hwr (by omega) (by have := hwr.size; omega)⟩
   ·exact (RowV.mid (A := 0) (fun g => w2.heap.size ≤ g ∧ g ≠ gs) (fun g q hl => hMid g q.1 hl) HK2.out.1 H1.out.2).up hsz
   ·exact (RowN.mid (A := 0) (fun g => w2.heap.size ≤ g ∧ g ≠ gs) (fun g q hl => hMid g q.1 hl) HK2.out.2 H2.out.2).up hsz
   ·exact (RowT.mid hMid h2 h3 h4).up hsz

end Go.Proofs.YtcmahiphfpgadaaGreatDoor
