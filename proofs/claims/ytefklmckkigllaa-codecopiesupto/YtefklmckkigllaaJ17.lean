/- Codes copied by the kit: CopyCode 7. -/
import Derived.Test.YtefklmckkigllaaJ16
namespace Go.Proofs.Ytefklmckkigllaa
open Go.RowKit
set_option linter.unusedVariables false

/-- A nil list has no room. -/
def NT.Nl (x : NT) : Prop := x.a = none → x.c = 0
def BT.Nl (x : BT) : Prop := (x.a1 = none → x.c1 = 0) ∧ ∀ n ∈ x.nodes, n.Nl
def CT.Nl (x : CT) : Prop := (x.a1 = none → x.c1 = 0) ∧ ∀ b ∈ x.bodies, b.Nl
/-- A box that holds a copied list of values, a number, and no list yet. -/
def KyP (T : TypeId) (w x : World) (go : Nat) (a1 : Option Addr) (c1 nl : Nat) (m : Int) (ls : List Vl) : Prop :=
  At T x go [.slice a1 nl c1, .int .i64 m, .slice none 0 0] ∧ RowVl x.heap.size x a1 c1 ls ∧ RowL (fun k => w.heap.size ≤ k ∧ k ≠ go) a1 ls ∧ Below w.heap.size w x ∧ w.heap.size ≤ go

theorem wpList_bsw49 {ops : Array Oper} {rest : List Oper} {o : Oper} {a : Act} {w : World} {Q : Exit → Act → World → Prop} (hgd : o.guard = none) (x : Operand) (ho : o.op = .buildSlice 43 1 #[(0, x)]) (ycs : List Value) (hx : a.eval x = .agg ycs.toArray) (hyn : ycs.length = 5)
    (h : ∀ w', At 49 w' w.heap.size ycs → Below w.heap.size w w' → wpList Try.prog ops Q rest (a.put o.dst (.slice (some ⟨w.heap.size, 0, none⟩) 1 1)) w') : wpList Try.prog ops Q (o :: rest) a w :=
  wpList_bs49 hgd x ho ycs hx hyn (h _ (_root_.Go.heap_alloc_new w _) ((Below.refl _ w).alloc (Nat.le_refl _) _))
theorem wpList_bsw45 {ops : Array Oper} {rest : List Oper} {o : Oper} {a : Act} {w : World} {Q : Exit → Act → World → Prop} (hgd : o.guard = none) (x : Operand) (ho : o.op = .buildSlice 23 1 #[(0, x)]) (ycs : List Value) (hx : a.eval x = .agg ycs.toArray) (hyn : ycs.length = 3)
    (h : ∀ w', At 45 w' w.heap.size ycs → Below w.heap.size w w' → wpList Try.prog ops Q rest (a.put o.dst (.slice (some ⟨w.heap.size, 0, none⟩) 1 1)) w') : wpList Try.prog ops Q (o :: rest) a w :=
  wpList_bs45 hgd x ho ycs hx hyn (h _ (_root_.Go.heap_alloc_new w _) ((Below.refl _ w).alloc (Nat.le_refl _) _))
theorem one3 (a d : Option Addr) (n c k f : Nat) (m : Int) : ∀ v ∈ [Value.slice a n c, .int .i64 m, .slice d k f], v.oneCell' = true := by intro v hv; simp at hv; rcases hv with rfl | rfl | rfl <;> rfl
theorem one5 (a : Option Addr) (n c : Nat) (m1 m2 m3 m4 : Int) : ∀ v ∈ [Value.slice a n c, .int .i64 m1, .int .i64 m2, .int .i64 m3, .int .i64 m4], v.oneCell' = true := by intro v hv; simp at hv; rcases hv with rfl | rfl | rfl | rfl | rfl <;> rfl

set_option maxRecDepth 100000 in
set_option maxHeartbeats 12800000 in
theorem copy7_any (B : Nat) (x : CT) (w : World) (hx : x.In B w) (hN : x.Nl) (hBw : B ≤ w.heap.size) :
    Calls Try.prog 7 #[.agg x.cells.toArray] w fun r w' => ∃ y : CT, r = .returned (.agg y.cells.toArray) ∧ y.cd = x.cd ∧ y.In w'.heap.size w' ∧ y.Lies (fun k => w.heap.size ≤ k) ∧ Below w.heap.size w w' := by
  obtain ⟨a, c, ls, m, d, f, bs⟩ := x
  simp only [CT.cells]
  obtain ⟨nl, hnl⟩ : ∃ q, Hid (q = ls.length) := ⟨_, (rfl : ls.length = _)⟩
  obtain ⟨n, hn⟩ : ∃ q, Hid (q = bs.length) := ⟨_, (rfl : bs.length = _)⟩
  have HR1 : Hid (RowVl B w a c ls) := hx.1
  have HM : Hid (I64 m) := hx.2.1
  have HR3 : Hid (RowBT B w d f bs) := hx.2.2
  have HN : Hid ((a = none → c = 0) ∧ ∀ b ∈ bs, b.Nl) := hN
  have hln : n ≤ 1048576 := by rw [hn.out]; exact hx.2.2.1
  rw [← hnl.out, ← hn.out]
  clear hx hN
  go_enter Try.func7, Try.ntmps7
  go_wp2_with (first
    | ((with_reducible show wpList _ _ _ _ _ _); refine wpList_box_at rfl 25 (.tmp 0) rfl [.slice a nl c, .int .i64 m, .slice d n f] rfl ?_; intro w1 hA1 hb1 hs1; clear hs1)
    | ((with_reducible show wpList _ _ _ _ _ _); refine wpList_alloc_at rfl 25 rfl _ 3 z25 ?_; intro w2 hA2 hb2 hs2; clear hs2; refine Hid.out ?_))
  refine hidU ?_
  have l01 : w.heap.size < w1.heap.size := hA1.lt
  have l12 : w1.heap.size < w2.heap.size := hA2.lt
  have hA1 := hA1.below hb2
  have hw2 : Below w.heap.size w w2 := hb1.trans (hb2.mono hb1.size)
  have k0 : w2.cell? ⟨w.heap.size, 0, none⟩ = some (.slice a nl c) := by rw [hA1.cell]; rfl
  have k1 : w2.cell? ⟨w.heap.size, 1, none⟩ = some (.int .i64 m) := by rw [hA1.cell]; rfl
  clear hb1 hb2
  go_wp2_with fail
  refine Code.wp_mono (Q := fun e t' X' => e = .normal ∧ ∃ (go gA cA : Nat) (u8 : Value), t' = { tmps := #[.agg #[.slice a nl c, .int .i64 m, .slice d n f], .pointer (some ⟨w.heap.size, 0, none⟩), .pointer (some ⟨w1.heap.size, 0, none⟩), .pointer (some ⟨go, 0, none⟩), undef, undef, undef, undef, u8, .pointer (some ⟨w.heap.size, 0, none⟩), .slice a nl c, .slice (some ⟨gA, 0, none⟩) nl cA, .pointer (some ⟨w.heap.size, 1, none⟩), .int .i64 m, .agg #[.slice (some ⟨gA, 0, none⟩) nl cA, .int .i64 m, .slice none 0 0], undef, undef, undef, undef, undef, undef, undef, undef, undef, undef, undef, undef, undef, undef, undef, undef, undef, undef, undef, undef, undef, undef, undef, undef, undef, undef, undef, undef, undef, undef, undef, undef, undef, undef, undef, undef, undef, undef, undef, undef, undef, undef, undef, undef, undef, undef, undef, undef, undef, undef, undef, undef, undef, undef, undef, undef, undef, undef, undef, undef], defers := [] } ∧ KyP 25 w2 X' go (some ⟨gA, 0, none⟩) cA nl m ls) ?_ ?_
  rotate_left
  · clear hA1 hA2
    have hS0a : Below w2.heap.size w2 w2.drew := Below.drew (Below.refl _ _)
    refine wp_region_held_drew (S := fun x => Below w2.heap.size w2 x) (by kernel_rfl) hS0a ?_
    obtain ⟨x0a, hx0⟩ : ∃ x, x = w2.drew := ⟨_, rfl⟩
    rw [← hx0] at hS0a ⊢
    clear hx0
    intro _
    refine wpAnyH_take (i := 1) (oi := { dst := some 9, op := .fieldAddr 25 (.tmp 1) 0, type := _, pos := _, after := _, guard := none }) (v := .pointer (some ⟨w.heap.size, 0, none⟩)) rfl (by kernel_rfl) (by kernel_rfl) (by kernel_rfl) (fun _ _ _ h => nomatch h.1) (Or.inl ⟨by rfl, ?_⟩) hS0a ?_
    · intro wS hSw
      go_simp
    simp only [Act.put, List.setIfInBounds_toArray, List.set_cons_zero, List.set_cons_succ]
    refine wpAnyH_take (i := 2) (oi := { dst := some 10, op := .load 22 (.tmp 9), type := _, pos := _, after := _, guard := none }) (v := .slice a nl c) rfl (by kernel_rfl) (by kernel_rfl) (by kernel_rfl) (fun _ _ _ h => nomatch h.1) (Or.inl ⟨by rfl, ?_⟩) hS0a ?_
    · intro wS hSw
      have z0 := (hSw.cell (lt_of_cell k0)).trans k0
      go_simp
    simp only [Act.put, List.setIfInBounds_toArray, List.set_cons_zero, List.set_cons_succ]
    refine wpAnyH_take (i := 4) (oi := { dst := some 12, op := .fieldAddr 25 (.tmp 1) 1, type := _, pos := _, after := _, guard := none }) (v := .pointer (some ⟨w.heap.size, 1, none⟩)) rfl (by kernel_rfl) (by kernel_rfl) (by kernel_rfl) (fun _ _ _ h => nomatch h.1) (Or.inl ⟨by rfl, ?_⟩) hS0a ?_
    · intro wS hSw
      go_simp
    simp only [Act.put, List.setIfInBounds_toArray, List.set_cons_zero, List.set_cons_succ]
    refine wpAnyH_take (i := 5) (oi := { dst := some 13, op := .load 3 (.tmp 12), type := _, pos := _, after := _, guard := none }) (v := .int .i64 m) rfl (by kernel_rfl) (by kernel_rfl) (by kernel_rfl) (fun _ _ _ h => nomatch h.1) (Or.inl ⟨by rfl, ?_⟩) hS0a ?_
    · intro wS hSw
      have z0 := (hSw.cell (lt_of_cell k1)).trans k1
      go_simp
    simp only [Act.put, List.setIfInBounds_toArray, List.set_cons_zero, List.set_cons_succ]
    refine wpAnyH_ready (rs := [0, 7]) (by kernel_rfl) (by simp) ?_
    refine AllReadyH.cons (o := { dst := some 8, op := .buildSlice 22 0 #[], type := _, pos := _, after := _, guard := none }) rfl (fun K hK => ?_) (AllReadyH.cons (o := { dst := some 3, op := .alloc 25, type := _, pos := _, after := _, guard := none }) rfl (fun K hK => ?_) AllReadyH.nil)
    · skip
      rw [if_pos (by rfl)]
      have sv1a := hS0a.size
      refine wp_empty22 rfl ?_
      intro x1a ho1a hb1a lt1a
      have sz1a := hb1a.size
      have hS1a := hS0a.trans (hb1a.mono hS0a.size)
      refine hK.out _ _ hS1a (fun _ => ?_)
      clear hK K
      refine wpAnyH_ready (rs := [3, 7]) (by kernel_rfl) (by simp) ?_
      refine AllReadyH.cons (o := { dst := some 11, op := .call { callee := .builtin .append, args := #[.tmp 8, .tmp 10], argTypes := #[22, 22] }, type := _, pos := _, after := _, guard := none }) rfl (fun K hK => ?_) (AllReadyH.cons (o := { dst := some 3, op := .alloc 25, type := _, pos := _, after := _, guard := none }) rfl (fun K hK => ?_) AllReadyH.nil)
      · skip
        rw [if_pos (by rfl)]
        have sv2a := hS1a.size
        refine wp_copyRow Vl.cells 2 (fun _ => rfl) (by decide) Vl.one Vl.Ok (.tmp 8) (.tmp 10) 22 35 _ 16 rfl Try.underlying22 f35 rfl (by decide) x0a.heap.size rfl ho1a ls nl hnl.out a c rfl B (HR1.out.old (Old.of_below (hw2.trans (hS1a.mono hw2.size)) hBw)) HN.out.1 ?_
        intro gA cA x2a hr2a hg2a hE2a hb2a
        obtain ⟨csA, hAA⟩ := hE2a
        have sz2a := hb2a.size
        have hS2a := (hb2a.below hS1a (by omega) hS1a.size)
        refine hK.out _ _ hS2a (fun _ => ?_)
        clear hK K
        refine wpAnyH_take (i := 6) (oi := { dst := some 14, op := .build 25 #[(0, .tmp 11), (1, .tmp 13)], type := _, pos := _, after := _, guard := none }) (v := .agg #[.slice (some ⟨gA, 0, none⟩) nl cA, .int .i64 m, .slice none 0 0]) rfl (by kernel_rfl) (by kernel_rfl) (by kernel_rfl) (fun _ _ _ h => nomatch h.1) (Or.inl ⟨by rfl, ?_⟩) hS2a ?_
        · intro wS hSw
          go_simp
        simp only [Act.put, List.setIfInBounds_toArray, List.set_cons_zero, List.set_cons_succ]
        refine wpAnyH_ready (rs := [7]) (by kernel_rfl) (by simp) ?_
        refine AllReadyH.cons (o := { dst := some 3, op := .alloc 25, type := _, pos := _, after := _, guard := none }) rfl (fun K hK => ?_) AllReadyH.nil
        rw [if_pos (by rfl)]
        have sv3a := hS2a.size
        refine wp_alloc_at 25 rfl (CT.cells ⟨none, 0, [], 0, none, 0, []⟩) _ z25 ?_
        intro x3a hA3a hb3a hs3a
        have lt3a : x2a.heap.size < x3a.heap.size := hA3a.lt
        clear hs3a
        have sz3a := hb3a.size
        have hS3a := hS2a.trans (hb3a.mono hS2a.size)
        refine hK.out _ _ hS3a (fun _ => ?_)
        clear hK K
        refine wpAnyH_ready (rs := [8]) (by kernel_rfl) (by simp) ?_
        refine AllReadyH.cons (o := { dst := none, op := .store 25 (.tmp 3) (.tmp 14), type := _, pos := _, after := _, guard := none }) rfl (fun K hK => ?_) AllReadyH.nil
        rw [if_pos (by rfl)]
        have sv4a := hS3a.size
        have hne : gA ≠ x2a.heap.size := by have := hAA.lt; omega
        refine wp_store_at 25 (.tmp 3) (.tmp 14) rfl x2a.heap.size [.slice (some ⟨gA, 0, none⟩) nl cA, .int .i64 m, .slice none 0 0] rfl rfl 25 _ hA3a i25 rfl (by intro v hv; simp at hv; rcases hv with rfl | rfl | rfl <;> rfl) ?_
        intro x4a hA4a hb4a hs4a
        have sz4a := hb4a.size
        have hS4a := (hb4a.below hS3a (by omega) hS3a.size)
        refine hK.out _ _ hS4a (fun _ => ?_)
        clear hK K
        refine wpAnyH_done (by kernel_rfl) ?_ _
        exact ⟨rfl, _, _, _, _, rfl, hA4a, RowG.stay (S := fun k => k ≠ x2a.heap.size) hr2a (.inr ⟨gA, 0, rfl, hne⟩) (Nat.le_trans hb3a.size hb4a.size) (fun q hq hl => (hb4a.block q (by omega) hq).trans (hb3a.block q (by omega))) (fun _ _ h => h), .inr ⟨gA, 0, rfl, by omega, hne⟩, hS4a, by omega⟩
      · skip
        rw [if_pos (by rfl)]
        have sv2a := hS1a.size
        refine wp_alloc_at 25 rfl (CT.cells ⟨none, 0, [], 0, none, 0, []⟩) _ z25 ?_
        intro x2a hA2a hb2a hs2a
        have lt2a : x1a.heap.size < x2a.heap.size := hA2a.lt
        clear hs2a
        have sz2a := hb2a.size
        have hS2a := hS1a.trans (hb2a.mono hS1a.size)
        refine hK.out _ _ hS2a (fun _ => ?_)
        clear hK K
        refine wpAnyH_ready (rs := [3]) (by kernel_rfl) (by simp) ?_
        refine AllReadyH.cons (o := { dst := some 11, op := .call { callee := .builtin .append, args := #[.tmp 8, .tmp 10], argTypes := #[22, 22] }, type := _, pos := _, after := _, guard := none }) rfl (fun K hK => ?_) AllReadyH.nil
        rw [if_pos (by rfl)]
        have sv3a := hS2a.size
        refine wp_copyRow Vl.cells 2 (fun _ => rfl) (by decide) Vl.one Vl.Ok (.tmp 8) (.tmp 10) 22 35 _ 16 rfl Try.underlying22 f35 rfl (by decide) x0a.heap.size rfl (own_below ho1a hb2a) ls nl hnl.out a c rfl B (HR1.out.old (Old.of_below (hw2.trans (hS2a.mono hw2.size)) hBw)) HN.out.1 ?_
        intro gA cA x3a hr3a hg3a hE3a hb3a
        obtain ⟨csA, hAA⟩ := hE3a
        have sz3a := hb3a.size
        have hS3a := (hb3a.below hS2a (by omega) hS2a.size)
        refine hK.out _ _ hS3a (fun _ => ?_)
        clear hK K
        refine wpAnyH_take (i := 6) (oi := { dst := some 14, op := .build 25 #[(0, .tmp 11), (1, .tmp 13)], type := _, pos := _, after := _, guard := none }) (v := .agg #[.slice (some ⟨gA, 0, none⟩) nl cA, .int .i64 m, .slice none 0 0]) rfl (by kernel_rfl) (by kernel_rfl) (by kernel_rfl) (fun _ _ _ h => nomatch h.1) (Or.inl ⟨by rfl, ?_⟩) hS3a ?_
        · intro wS hSw
          go_simp
        simp only [Act.put, List.setIfInBounds_toArray, List.set_cons_zero, List.set_cons_succ]
        refine wpAnyH_ready (rs := [8]) (by kernel_rfl) (by simp) ?_
        refine AllReadyH.cons (o := { dst := none, op := .store 25 (.tmp 3) (.tmp 14), type := _, pos := _, after := _, guard := none }) rfl (fun K hK => ?_) AllReadyH.nil
        rw [if_pos (by rfl)]
        have sv4a := hS3a.size
        have hne : gA ≠ x1a.heap.size := hAA.ne (hb3a.at hA2a (by omega)) (by decide)
        refine wp_store_at 25 (.tmp 3) (.tmp 14) rfl x1a.heap.size [.slice (some ⟨gA, 0, none⟩) nl cA, .int .i64 m, .slice none 0 0] rfl rfl 25 _ (hb3a.at hA2a (by omega)) i25 rfl (by intro v hv; simp at hv; rcases hv with rfl | rfl | rfl <;> rfl) ?_
        intro x4a hA4a hb4a hs4a
        have sz4a := hb4a.size
        have hS4a := (hb4a.below hS3a (by omega) hS3a.size)
        refine hK.out _ _ hS4a (fun _ => ?_)
        clear hK K
        refine wpAnyH_done (by kernel_rfl) ?_ _
        exact ⟨rfl, _, _, _, _, rfl, hA4a, RowG.stay (S := fun k => k ≠ x1a.heap.size) hr3a (.inr ⟨gA, 0, rfl, hne⟩) (hb4a.size) (fun q hq hl => hb4a.block q (by omega) hq) (fun _ _ h => h), .inr ⟨gA, 0, rfl, by omega, hne⟩, hS4a, by omega⟩
    · skip
      rw [if_pos (by rfl)]
      have sv1a := hS0a.size
      refine wp_alloc_at 25 rfl (CT.cells ⟨none, 0, [], 0, none, 0, []⟩) _ z25 ?_
      intro x1a hA1a hb1a hs1a
      have lt1a : x0a.heap.size < x1a.heap.size := hA1a.lt
      clear hs1a
      have sz1a := hb1a.size
      have hS1a := hS0a.trans (hb1a.mono hS0a.size)
      refine hK.out _ _ hS1a (fun _ => ?_)
      clear hK K
      refine wpAnyH_ready (rs := [0]) (by kernel_rfl) (by simp) ?_
      refine AllReadyH.cons (o := { dst := some 8, op := .buildSlice 22 0 #[], type := _, pos := _, after := _, guard := none }) rfl (fun K hK => ?_) AllReadyH.nil
      rw [if_pos (by rfl)]
      have sv2a := hS1a.size
      refine wp_empty22 rfl ?_
      intro x2a ho2a hb2a lt2a
      have sz2a := hb2a.size
      have hS2a := hS1a.trans (hb2a.mono hS1a.size)
      refine hK.out _ _ hS2a (fun _ => ?_)
      clear hK K
      refine wpAnyH_ready (rs := [3]) (by kernel_rfl) (by simp) ?_
      refine AllReadyH.cons (o := { dst := some 11, op := .call { callee := .builtin .append, args := #[.tmp 8, .tmp 10], argTypes := #[22, 22] }, type := _, pos := _, after := _, guard := none }) rfl (fun K hK => ?_) AllReadyH.nil
      rw [if_pos (by rfl)]
      have sv3a := hS2a.size
      refine wp_copyRow Vl.cells 2 (fun _ => rfl) (by decide) Vl.one Vl.Ok (.tmp 8) (.tmp 10) 22 35 _ 16 rfl Try.underlying22 f35 rfl (by decide) x1a.heap.size rfl ho2a ls nl hnl.out a c rfl B (HR1.out.old (Old.of_below (hw2.trans (hS2a.mono hw2.size)) hBw)) HN.out.1 ?_
      intro gA cA x3a hr3a hg3a hE3a hb3a
      obtain ⟨csA, hAA⟩ := hE3a
      have sz3a := hb3a.size
      have hS3a := (hb3a.below hS2a (by omega) hS2a.size)
      refine hK.out _ _ hS3a (fun _ => ?_)
      clear hK K
      refine wpAnyH_take (i := 6) (oi := { dst := some 14, op := .build 25 #[(0, .tmp 11), (1, .tmp 13)], type := _, pos := _, after := _, guard := none }) (v := .agg #[.slice (some ⟨gA, 0, none⟩) nl cA, .int .i64 m, .slice none 0 0]) rfl (by kernel_rfl) (by kernel_rfl) (by kernel_rfl) (fun _ _ _ h => nomatch h.1) (Or.inl ⟨by rfl, ?_⟩) hS3a ?_
      · intro wS hSw
        go_simp
      simp only [Act.put, List.setIfInBounds_toArray, List.set_cons_zero, List.set_cons_succ]
      refine wpAnyH_ready (rs := [8]) (by kernel_rfl) (by simp) ?_
      refine AllReadyH.cons (o := { dst := none, op := .store 25 (.tmp 3) (.tmp 14), type := _, pos := _, after := _, guard := none }) rfl (fun K hK => ?_) AllReadyH.nil
      rw [if_pos (by rfl)]
      have sv4a := hS3a.size
      have hne : gA ≠ x0a.heap.size := hAA.ne (hb3a.at (hA1a.below hb2a) (by omega)) (by decide)
      refine wp_store_at 25 (.tmp 3) (.tmp 14) rfl x0a.heap.size [.slice (some ⟨gA, 0, none⟩) nl cA, .int .i64 m, .slice none 0 0] rfl rfl 25 _ (hb3a.at (hA1a.below hb2a) (by omega)) i25 rfl (by intro v hv; simp at hv; rcases hv with rfl | rfl | rfl <;> rfl) ?_
      intro x4a hA4a hb4a hs4a
      have sz4a := hb4a.size
      have hS4a := (hb4a.below hS3a (by omega) hS3a.size)
      refine hK.out _ _ hS4a (fun _ => ?_)
      clear hK K
      refine wpAnyH_done (by kernel_rfl) ?_ _
      exact ⟨rfl, _, _, _, _, rfl, hA4a, RowG.stay (S := fun k => k ≠ x0a.heap.size) hr3a (.inr ⟨gA, 0, rfl, hne⟩) (hb4a.size) (fun q hq hl => hb4a.block q (by omega) hq) (fun _ _ h => h), .inr ⟨gA, 0, rfl, by omega, hne⟩, hS4a, by omega⟩
  rintro e a' X ⟨rfl, go, gS, cS, u8, rfl, hK⟩
  obtain ⟨hAo, hRo, hLo, hwX, hgo⟩ := hK
  have hA1 := hA1.below hwX
  have hA2 := hA2.below hwX
  clear k0 k1
  have lX := hwX.size
  obtain ⟨M, hM⟩ : ∃ M, Hid (M = X.heap.size) := ⟨_, (rfl : X.heap.size = _)⟩
  have hgM : go < M := by rw [hM.out]; exact hAo.lt
  have lwM : w2.heap.size ≤ M := by rw [hM.out]; exact lX
  have HX : Hid (At 25 X w.heap.size [.slice a nl c, .int .i64 m, .slice d n f] ∧ At 25 X w1.heap.size (CT.cells ⟨none, 0, [], 0, none, 0, []⟩) ∧ At 25 X go [.slice (some ⟨gS, 0, none⟩) nl cS, .int .i64 m, .slice none 0 0] ∧ Below w.heap.size w X ∧ RowVl X.heap.size X (some ⟨gS, 0, none⟩) cS ls ∧ RowL (fun k => w2.heap.size ≤ k ∧ k ≠ go) (some ⟨gS, 0, none⟩) ls) := ⟨hA1, hA2, hAo, hw2.trans (hwX.mono hw2.size), hRo, hLo⟩
  clear hA1 hA2 hAo hRo hLo hwX hw2 lX HR1
  go_wp2_with fail
  go_loopw [4] (fun j wr => ∃ i : Nat, j = .int .i64 (i : Int) ∧ i ≤ n ∧ Hid (∃ (aV : Option Addr) (cV : Nat) (ys : List BT), ys.length = i ∧ ys.map BT.bd = (bs.take i).map BT.bd ∧ At 25 wr go [.slice (some ⟨gS, 0, none⟩) nl cS, .int .i64 m, .slice aV i cV] ∧ Gr eB M wr (.slice aV i cV) ys ∧ But go X wr)) (fun j _ => n - (intOf j).toNat)
  case atStart => exact ⟨0, rfl, Nat.zero_le _, none, 0, [], rfl, rfl, HX.out.2.2.1, Gr.nil (by rw [hM.out]; exact Nat.le_refl _), But.refl _ _⟩
  case round =>
    obtain ⟨i, rfl, hi, hV⟩ := hrel
    obtain ⟨aV, cV, ys, hyl, hym, hAg, hGr, hBX⟩ := hV.out
    have hwr : Below w.heap.size w wr := hBX.below HX.out.2.2.2.1 (by omega) HX.out.2.2.2.1.size
    have hA0 : At 25 wr w.heap.size [.slice a nl c, .int .i64 m, .slice d n f] := hBX.at HX.out.1 (by omega)
    have lM : M ≤ wr.heap.size := by rw [hM.out]; exact hBX.size
    have t2 : wr.cell? ⟨w.heap.size, 2, none⟩ = some (.slice d n f) := by rw [hA0.cell]; rfl
    by_cases hc : i < n
    · obtain ⟨x, hx⟩ : ∃ k, bs[i]? = some k := ⟨bs[i]'(by rw [← hn.out]; exact hc), by rw [List.getElem?_eq_getElem]⟩
      obtain ⟨g1, o1, rfl, hg1, hr1, hxi⟩ := (RowBT.old HR3.out (Old.of_below hwr hBw)).at i x hx
      have hxn := HN.out.2 x (List.mem_of_getElem? hx)
      obtain ⟨p, pc, vs, s, e, ec, ns⟩ := x
      obtain ⟨lv, hlv⟩ : ∃ q, Hid (q = vs.length) := ⟨_, (rfl : vs.length = _)⟩
      obtain ⟨m', hm'⟩ : ∃ q, Hid (q = ns.length) := ⟨_, (rfl : ns.length = _)⟩
      have p0 : wr.cell? ⟨g1, o1 + i * 3, none⟩ = some (.slice p lv pc) := by have := hr1 0 _ rfl; rw [hlv.out]; exact this
      have p1 : wr.cell? ⟨g1, o1 + i * 3 + 1, none⟩ = some (.int .i64 s) := hr1 1 _ rfl
      have p2 : wr.cell? ⟨g1, o1 + i * 3 + 2, none⟩ = some (.slice e m' ec) := by have := hr1 2 _ rfl; rw [hm'.out]; exact this
      have HR5 : Hid (RowVl B wr p pc vs) := hxi.1
      have HS : Hid (I64 s ∧ RowNT B wr e ec ns ∧ ∀ z ∈ ns, z.Nl) := ⟨hxi.2.1, hxi.2.2, hxn.2⟩
      have HN5 : Hid (p = none → pc = 0) := hxn.1
      have hlm : m' ≤ 1048576 := by rw [hm'.out]; exact hxi.2.2.1
      have HV : Hid (ys.length = i ∧ ys.map BT.bd = (bs.take i).map BT.bd ∧ At 25 wr go [.slice (some ⟨gS, 0, none⟩) nl cS, .int .i64 m, .slice aV i cV] ∧ Gr eB M wr (.slice aV i cV) ys ∧ But go X wr ∧ At 25 wr w.heap.size [.slice a nl c, .int .i64 m, .slice (some ⟨g1, o1, none⟩) n f] ∧ wr.cell? ⟨g1, o1 + i * 3 + 2, none⟩ = some (.slice e m' ec)) := ⟨hyl, hym, hAg, hGr, hBX, hA0, p2⟩
      have HTK : Hid ((bs.take (i + 1)).map BT.bd = (bs.take i).map BT.bd ++ [(⟨vs, s, ns.map NT.nd⟩ : Bd)]) := by
        show _ = _
        rw [List.take_add_one, hx]
        simp [BT.bd]
      have lg1 : g1 < wr.heap.size := by have := hwr.size; omega
      clear hV hyl hym hAg hGr hBX hA0 hx hr1 hxi hxn
      go_wp2_with fail
      refine Code.wp_mono (Q := fun e t' X' => e = .normal ∧ ∃ (g5 gA cA : Nat) (v6 v7 v15 v16 v17 v18 v19 v20 v21 v22 v23 v24 v25 v26 v27 v28 v29 v30 v31 v32 v33 v34 v35 v36 v37 v38 v39 v40 v41 v42 v43 v44 v45 v46 v47 v48 v49 v50 v51 v52 v53 v54 v55 v56 v57 v58 v59 v60 v61 v62 v63 v64 v65 v66 v67 v68 v69 v70 v71 v72 v73 : Value), t' = { tmps := #[.agg #[.slice a nl c, .int .i64 m, .slice (some ⟨g1, o1, none⟩) n f], .pointer (some ⟨w.heap.size, 0, none⟩), .pointer (some ⟨w1.heap.size, 0, none⟩), .pointer (some ⟨go, 0, none⟩), .int .i64 (i : Int), .pointer (some ⟨g5, 0, none⟩), v6, v7, u8, .pointer (some ⟨w.heap.size, 0, none⟩), .slice a nl c, .slice (some ⟨gS, 0, none⟩) nl cS, .pointer (some ⟨w.heap.size, 1, none⟩), .int .i64 m, .agg #[.slice (some ⟨gS, 0, none⟩) nl cS, .int .i64 m, .slice none 0 0], v15, v16, v17, v18, v19, v20, v21, v22, v23, v24, v25, v26, v27, v28, v29, v30, v31, v32, v33, v34, v35, v36, v37, v38, v39, v40, v41, v42, v43, v44, v45, v46, v47, v48, v49, v50, v51, v52, v53, v54, v55, v56, v57, v58, v59, v60, v61, v62, v63, v64, v65, v66, v67, v68, v69, v70, v71, v72, v73, undef], defers := [] } ∧ KyP 45 wr X' g5 (some ⟨gA, 0, none⟩) cA lv s vs) ?_ ?_
      rotate_left
      · clear p2
        have hS0b : Below wr.heap.size wr wr.drew := Below.drew (Below.refl _ _)
        refine wp_region_held_drew (S := fun x => Below wr.heap.size wr x) (by kernel_rfl) hS0b ?_
        obtain ⟨x0b, hx0⟩ : ∃ x, x = wr.drew := ⟨_, rfl⟩
        rw [← hx0] at hS0b ⊢
        clear hx0
        intro _
        refine wpAnyH_take (i := 1) (oi := { dst := some 23, op := .fieldAddr 25 (.tmp 1) 2, type := _, pos := _, after := _, guard := none }) (v := .pointer (some ⟨w.heap.size, 2, none⟩)) rfl (by kernel_rfl) (by kernel_rfl) (by kernel_rfl) (fun _ _ _ h => nomatch h.1) (Or.inl ⟨by rfl, ?_⟩) hS0b ?_
        · intro wS hSw
          go_simp
        simp only [Act.put, List.setIfInBounds_toArray, List.set_cons_zero, List.set_cons_succ]
        refine wpAnyH_take (i := 2) (oi := { dst := some 24, op := .load 23 (.tmp 23), type := _, pos := _, after := _, guard := none }) (v := .slice (some ⟨g1, o1, none⟩) n f) rfl (by kernel_rfl) (by kernel_rfl) (by kernel_rfl) (fun _ _ _ h => nomatch h.1) (Or.inl ⟨by rfl, ?_⟩) hS0b ?_
        · intro wS hSw
          have z0 := (hSw.cell (lt_of_cell t2)).trans t2
          go_simp
        simp only [Act.put, List.setIfInBounds_toArray, List.set_cons_zero, List.set_cons_succ]
        refine wpAnyH_take (i := 3) (oi := { dst := some 25, op := .move (.tmp 4), type := _, pos := _, after := _, guard := none }) (v := .int .i64 (i : Int)) rfl (by kernel_rfl) (by kernel_rfl) (by kernel_rfl) (fun _ _ _ h => nomatch h.1) (Or.inl ⟨by rfl, ?_⟩) hS0b ?_
        · intro wS hSw
          go_simp
        simp only [Act.put, List.setIfInBounds_toArray, List.set_cons_zero, List.set_cons_succ]
        refine wpAnyH_take (i := 4) (oi := { dst := some 26, op := .indexAddr 23 (.tmp 24) (.tmp 25), type := _, pos := _, after := _, guard := none }) (v := .pointer (some ⟨g1, o1 + i * 3, none⟩)) rfl (by kernel_rfl) (by kernel_rfl) (by kernel_rfl) (fun _ _ _ h => nomatch h.1) (Or.inl ⟨by rfl, ?_⟩) hS0b ?_
        · intro wS hSw
          go_simp
        simp only [Act.put, List.setIfInBounds_toArray, List.set_cons_zero, List.set_cons_succ]
        refine wpAnyH_take (i := 5) (oi := { dst := some 27, op := .fieldAddr 45 (.tmp 26) 0, type := _, pos := _, after := _, guard := none }) (v := .pointer (some ⟨g1, o1 + i * 3, none⟩)) rfl (by kernel_rfl) (by kernel_rfl) (by kernel_rfl) (fun _ _ _ h => nomatch h.1) (Or.inl ⟨by rfl, ?_⟩) hS0b ?_
        · intro wS hSw
          go_simp
        simp only [Act.put, List.setIfInBounds_toArray, List.set_cons_zero, List.set_cons_succ]
        refine wpAnyH_take (i := 6) (oi := { dst := some 28, op := .load 22 (.tmp 27), type := _, pos := _, after := _, guard := none }) (v := .slice p lv pc) rfl (by kernel_rfl) (by kernel_rfl) (by kernel_rfl) (fun _ _ _ h => nomatch h.1) (Or.inl ⟨by rfl, ?_⟩) hS0b ?_
        · intro wS hSw
          have z0 := (hSw.cell (lt_of_cell p0)).trans p0
          go_simp
        simp only [Act.put, List.setIfInBounds_toArray, List.set_cons_zero, List.set_cons_succ]
        refine wpAnyH_take (i := 8) (oi := { dst := some 30, op := .fieldAddr 25 (.tmp 1) 2, type := _, pos := _, after := _, guard := none }) (v := .pointer (some ⟨w.heap.size, 2, none⟩)) rfl (by kernel_rfl) (by kernel_rfl) (by kernel_rfl) (fun _ _ _ h => nomatch h.1) (Or.inl ⟨by rfl, ?_⟩) hS0b ?_
        · intro wS hSw
          go_simp
        simp only [Act.put, List.setIfInBounds_toArray, List.set_cons_zero, List.set_cons_succ]
        refine wpAnyH_take (i := 9) (oi := { dst := some 31, op := .load 23 (.tmp 30), type := _, pos := _, after := _, guard := none }) (v := .slice (some ⟨g1, o1, none⟩) n f) rfl (by kernel_rfl) (by kernel_rfl) (by kernel_rfl) (fun _ _ _ h => nomatch h.1) (Or.inl ⟨by rfl, ?_⟩) hS0b ?_
        · intro wS hSw
          have z0 := (hSw.cell (lt_of_cell t2)).trans t2
          go_simp
        simp only [Act.put, List.setIfInBounds_toArray, List.set_cons_zero, List.set_cons_succ]
        refine wpAnyH_take (i := 10) (oi := { dst := some 32, op := .move (.tmp 4), type := _, pos := _, after := _, guard := none }) (v := .int .i64 (i : Int)) rfl (by kernel_rfl) (by kernel_rfl) (by kernel_rfl) (fun _ _ _ h => nomatch h.1) (Or.inl ⟨by rfl, ?_⟩) hS0b ?_
        · intro wS hSw
          go_simp
        simp only [Act.put, List.setIfInBounds_toArray, List.set_cons_zero, List.set_cons_succ]
        refine wpAnyH_take (i := 11) (oi := { dst := some 33, op := .indexAddr 23 (.tmp 31) (.tmp 32), type := _, pos := _, after := _, guard := none }) (v := .pointer (some ⟨g1, o1 + i * 3, none⟩)) rfl (by kernel_rfl) (by kernel_rfl) (by kernel_rfl) (fun _ _ _ h => nomatch h.1) (Or.inl ⟨by rfl, ?_⟩) hS0b ?_
        · intro wS hSw
          go_simp
        simp only [Act.put, List.setIfInBounds_toArray, List.set_cons_zero, List.set_cons_succ]
        refine wpAnyH_take (i := 12) (oi := { dst := some 34, op := .fieldAddr 45 (.tmp 33) 1, type := _, pos := _, after := _, guard := none }) (v := .pointer (some ⟨g1, o1 + i * 3 + 1, none⟩)) rfl (by kernel_rfl) (by kernel_rfl) (by kernel_rfl) (fun _ _ _ h => nomatch h.1) (Or.inl ⟨by rfl, ?_⟩) hS0b ?_
        · intro wS hSw
          go_simp
        simp only [Act.put, List.setIfInBounds_toArray, List.set_cons_zero, List.set_cons_succ]
        refine wpAnyH_take (i := 13) (oi := { dst := some 35, op := .load 3 (.tmp 34), type := _, pos := _, after := _, guard := none }) (v := .int .i64 s) rfl (by kernel_rfl) (by kernel_rfl) (by kernel_rfl) (fun _ _ _ h => nomatch h.1) (Or.inl ⟨by rfl, ?_⟩) hS0b ?_
        · intro wS hSw
          have z0 := (hSw.cell (lt_of_cell p1)).trans p1
          go_simp
        simp only [Act.put, List.setIfInBounds_toArray, List.set_cons_zero, List.set_cons_succ]
        refine wpAnyH_ready (rs := [0, 15]) (by kernel_rfl) (by simp) ?_
        refine AllReadyH.cons (o := { dst := some 22, op := .buildSlice 22 0 #[], type := _, pos := _, after := _, guard := none }) rfl (fun K hK => ?_) (AllReadyH.cons (o := { dst := some 5, op := .alloc 45, type := _, pos := _, after := _, guard := none }) rfl (fun K hK => ?_) AllReadyH.nil)
        · skip
          rw [if_pos (by rfl)]
          have sv1b := hS0b.size
          refine wp_empty22 rfl ?_
          intro x1b ho1b hb1b lt1b
          have sz1b := hb1b.size
          have hS1b := hS0b.trans (hb1b.mono hS0b.size)
          refine hK.out _ _ hS1b (fun _ => ?_)
          clear hK K
          refine wpAnyH_ready (rs := [7, 15]) (by kernel_rfl) (by simp) ?_
          refine AllReadyH.cons (o := { dst := some 29, op := .call { callee := .builtin .append, args := #[.tmp 22, .tmp 28], argTypes := #[22, 22] }, type := _, pos := _, after := _, guard := none }) rfl (fun K hK => ?_) (AllReadyH.cons (o := { dst := some 5, op := .alloc 45, type := _, pos := _, after := _, guard := none }) rfl (fun K hK => ?_) AllReadyH.nil)
          · skip
            rw [if_pos (by rfl)]
            have sv2b := hS1b.size
            refine wp_copyRow Vl.cells 2 (fun _ => rfl) (by decide) Vl.one Vl.Ok (.tmp 22) (.tmp 28) 22 35 _ 16 rfl Try.underlying22 f35 rfl (by decide) x0b.heap.size rfl ho1b vs lv hlv.out p pc rfl B (HR5.out.old (Old.of_below hS1b (by have := hwr.size; omega))) HN5.out ?_
            intro gA cA x2b hr2b hg2b hE2b hb2b
            obtain ⟨csA, hAA⟩ := hE2b
            have sz2b := hb2b.size
            have hS2b := (hb2b.below hS1b (by omega) hS1b.size)
            refine hK.out _ _ hS2b (fun _ => ?_)
            clear hK K
            refine wpAnyH_take (i := 14) (oi := { dst := some 36, op := .build 45 #[(0, .tmp 29), (1, .tmp 35)], type := _, pos := _, after := _, guard := none }) (v := .agg #[.slice (some ⟨gA, 0, none⟩) lv cA, .int .i64 s, .slice none 0 0]) rfl (by kernel_rfl) (by kernel_rfl) (by kernel_rfl) (fun _ _ _ h => nomatch h.1) (Or.inl ⟨by rfl, ?_⟩) hS2b ?_
            · intro wS hSw
              go_simp
            simp only [Act.put, List.setIfInBounds_toArray, List.set_cons_zero, List.set_cons_succ]
            refine wpAnyH_ready (rs := [15]) (by kernel_rfl) (by simp) ?_
            refine AllReadyH.cons (o := { dst := some 5, op := .alloc 45, type := _, pos := _, after := _, guard := none }) rfl (fun K hK => ?_) AllReadyH.nil
            rw [if_pos (by rfl)]
            have sv3b := hS2b.size
            refine wp_alloc_at 45 rfl (BT.cells ⟨none, 0, [], 0, none, 0, []⟩) _ z45 ?_
            intro x3b hA3b hb3b hs3b
            have lt3b : x2b.heap.size < x3b.heap.size := hA3b.lt
            clear hs3b
            have sz3b := hb3b.size
            have hS3b := hS2b.trans (hb3b.mono hS2b.size)
            refine hK.out _ _ hS3b (fun _ => ?_)
            clear hK K
            refine wpAnyH_ready (rs := [16]) (by kernel_rfl) (by simp) ?_
            refine AllReadyH.cons (o := { dst := none, op := .store 45 (.tmp 5) (.tmp 36), type := _, pos := _, after := _, guard := none }) rfl (fun K hK => ?_) AllReadyH.nil
            rw [if_pos (by rfl)]
            have sv4b := hS3b.size
            have hne : gA ≠ x2b.heap.size := by have := hAA.lt; omega
            refine wp_store_at 45 (.tmp 5) (.tmp 36) rfl x2b.heap.size [.slice (some ⟨gA, 0, none⟩) lv cA, .int .i64 s, .slice none 0 0] rfl rfl 45 _ hA3b i45 rfl (by intro v hv; simp at hv; rcases hv with rfl | rfl | rfl <;> rfl) ?_
            intro x4b hA4b hb4b hs4b
            have sz4b := hb4b.size
            have hS4b := (hb4b.below hS3b (by omega) hS3b.size)
            refine hK.out _ _ hS4b (fun _ => ?_)
            clear hK K
            refine wpAnyH_done (by kernel_rfl) ?_ _
            exact ⟨rfl, _, _, _, _, _, _, _, _, _, _, _, _, _, _, _, _, _, _, _, _, _, _, _, _, _, _, _, _, _, _, _, _, _, _, _, _, _, _, _, _, _, _, _, _, _, _, _, _, _, _, _, _, _, _, _, _, _, _, _, _, _, _, _, _, rfl, hA4b, RowG.stay (S := fun k => k ≠ x2b.heap.size) hr2b (.inr ⟨gA, 0, rfl, hne⟩) (Nat.le_trans hb3b.size hb4b.size) (fun q hq hl => (hb4b.block q (by omega) hq).trans (hb3b.block q (by omega))) (fun _ _ h => h), .inr ⟨gA, 0, rfl, by omega, hne⟩, hS4b, by omega⟩
          · skip
            rw [if_pos (by rfl)]
            have sv2b := hS1b.size
            refine wp_alloc_at 45 rfl (BT.cells ⟨none, 0, [], 0, none, 0, []⟩) _ z45 ?_
            intro x2b hA2b hb2b hs2b
            have lt2b : x1b.heap.size < x2b.heap.size := hA2b.lt
            clear hs2b
            have sz2b := hb2b.size
            have hS2b := hS1b.trans (hb2b.mono hS1b.size)
            refine hK.out _ _ hS2b (fun _ => ?_)
            clear hK K
            refine wpAnyH_ready (rs := [7]) (by kernel_rfl) (by simp) ?_
            refine AllReadyH.cons (o := { dst := some 29, op := .call { callee := .builtin .append, args := #[.tmp 22, .tmp 28], argTypes := #[22, 22] }, type := _, pos := _, after := _, guard := none }) rfl (fun K hK => ?_) AllReadyH.nil
            rw [if_pos (by rfl)]
            have sv3b := hS2b.size
            refine wp_copyRow Vl.cells 2 (fun _ => rfl) (by decide) Vl.one Vl.Ok (.tmp 22) (.tmp 28) 22 35 _ 16 rfl Try.underlying22 f35 rfl (by decide) x0b.heap.size rfl (own_below ho1b hb2b) vs lv hlv.out p pc rfl B (HR5.out.old (Old.of_below hS2b (by have := hwr.size; omega))) HN5.out ?_
            intro gA cA x3b hr3b hg3b hE3b hb3b
            obtain ⟨csA, hAA⟩ := hE3b
            have sz3b := hb3b.size
            have hS3b := (hb3b.below hS2b (by omega) hS2b.size)
            refine hK.out _ _ hS3b (fun _ => ?_)
            clear hK K
            refine wpAnyH_take (i := 14) (oi := { dst := some 36, op := .build 45 #[(0, .tmp 29), (1, .tmp 35)], type := _, pos := _, after := _, guard := none }) (v := .agg #[.slice (some ⟨gA, 0, none⟩) lv cA, .int .i64 s, .slice none 0 0]) rfl (by kernel_rfl) (by kernel_rfl) (by kernel_rfl) (fun _ _ _ h => nomatch h.1) (Or.inl ⟨by rfl, ?_⟩) hS3b ?_
            · intro wS hSw
              go_simp
            simp only [Act.put, List.setIfInBounds_toArray, List.set_cons_zero, List.set_cons_succ]
            refine wpAnyH_ready (rs := [16]) (by kernel_rfl) (by simp) ?_
            refine AllReadyH.cons (o := { dst := none, op := .store 45 (.tmp 5) (.tmp 36), type := _, pos := _, after := _, guard := none }) rfl (fun K hK => ?_) AllReadyH.nil
            rw [if_pos (by rfl)]
            have sv4b := hS3b.size
            have hne : gA ≠ x1b.heap.size := hAA.ne (hb3b.at hA2b (by omega)) (by decide)
            refine wp_store_at 45 (.tmp 5) (.tmp 36) rfl x1b.heap.size [.slice (some ⟨gA, 0, none⟩) lv cA, .int .i64 s, .slice none 0 0] rfl rfl 45 _ (hb3b.at hA2b (by omega)) i45 rfl (by intro v hv; simp at hv; rcases hv with rfl | rfl | rfl <;> rfl) ?_
            intro x4b hA4b hb4b hs4b
            have sz4b := hb4b.size
            have hS4b := (hb4b.below hS3b (by omega) hS3b.size)
            refine hK.out _ _ hS4b (fun _ => ?_)
            clear hK K
            refine wpAnyH_done (by kernel_rfl) ?_ _
            exact ⟨rfl, _, _, _, _, _, _, _, _, _, _, _, _, _, _, _, _, _, _, _, _, _, _, _, _, _, _, _, _, _, _, _, _, _, _, _, _, _, _, _, _, _, _, _, _, _, _, _, _, _, _, _, _, _, _, _, _, _, _, _, _, _, _, _, _, rfl, hA4b, RowG.stay (S := fun k => k ≠ x1b.heap.size) hr3b (.inr ⟨gA, 0, rfl, hne⟩) (hb4b.size) (fun q hq hl => hb4b.block q (by omega) hq) (fun _ _ h => h), .inr ⟨gA, 0, rfl, by omega, hne⟩, hS4b, by omega⟩
        · skip
          rw [if_pos (by rfl)]
          have sv1b := hS0b.size
          refine wp_alloc_at 45 rfl (BT.cells ⟨none, 0, [], 0, none, 0, []⟩) _ z45 ?_
          intro x1b hA1b hb1b hs1b
          have lt1b : x0b.heap.size < x1b.heap.size := hA1b.lt
          clear hs1b
          have sz1b := hb1b.size
          have hS1b := hS0b.trans (hb1b.mono hS0b.size)
          refine hK.out _ _ hS1b (fun _ => ?_)
          clear hK K
          refine wpAnyH_ready (rs := [0]) (by kernel_rfl) (by simp) ?_
          refine AllReadyH.cons (o := { dst := some 22, op := .buildSlice 22 0 #[], type := _, pos := _, after := _, guard := none }) rfl (fun K hK => ?_) AllReadyH.nil
          rw [if_pos (by rfl)]
          have sv2b := hS1b.size
          refine wp_empty22 rfl ?_
          intro x2b ho2b hb2b lt2b
          have sz2b := hb2b.size
          have hS2b := hS1b.trans (hb2b.mono hS1b.size)
          refine hK.out _ _ hS2b (fun _ => ?_)
          clear hK K
          refine wpAnyH_ready (rs := [7]) (by kernel_rfl) (by simp) ?_
          refine AllReadyH.cons (o := { dst := some 29, op := .call { callee := .builtin .append, args := #[.tmp 22, .tmp 28], argTypes := #[22, 22] }, type := _, pos := _, after := _, guard := none }) rfl (fun K hK => ?_) AllReadyH.nil
          rw [if_pos (by rfl)]
          have sv3b := hS2b.size
          refine wp_copyRow Vl.cells 2 (fun _ => rfl) (by decide) Vl.one Vl.Ok (.tmp 22) (.tmp 28) 22 35 _ 16 rfl Try.underlying22 f35 rfl (by decide) x1b.heap.size rfl ho2b vs lv hlv.out p pc rfl B (HR5.out.old (Old.of_below hS2b (by have := hwr.size; omega))) HN5.out ?_
          intro gA cA x3b hr3b hg3b hE3b hb3b
          obtain ⟨csA, hAA⟩ := hE3b
          have sz3b := hb3b.size
          have hS3b := (hb3b.below hS2b (by omega) hS2b.size)
          refine hK.out _ _ hS3b (fun _ => ?_)
          clear hK K
          refine wpAnyH_take (i := 14) (oi := { dst := some 36, op := .build 45 #[(0, .tmp 29), (1, .tmp 35)], type := _, pos := _, after := _, guard := none }) (v := .agg #[.slice (some ⟨gA, 0, none⟩) lv cA, .int .i64 s, .slice none 0 0]) rfl (by kernel_rfl) (by kernel_rfl) (by kernel_rfl) (fun _ _ _ h => nomatch h.1) (Or.inl ⟨by rfl, ?_⟩) hS3b ?_
          · intro wS hSw
            go_simp
          simp only [Act.put, List.setIfInBounds_toArray, List.set_cons_zero, List.set_cons_succ]
          refine wpAnyH_ready (rs := [16]) (by kernel_rfl) (by simp) ?_
          refine AllReadyH.cons (o := { dst := none, op := .store 45 (.tmp 5) (.tmp 36), type := _, pos := _, after := _, guard := none }) rfl (fun K hK => ?_) AllReadyH.nil
          rw [if_pos (by rfl)]
          have sv4b := hS3b.size
          have hne : gA ≠ x0b.heap.size := hAA.ne (hb3b.at (hA1b.below hb2b) (by omega)) (by decide)
          refine wp_store_at 45 (.tmp 5) (.tmp 36) rfl x0b.heap.size [.slice (some ⟨gA, 0, none⟩) lv cA, .int .i64 s, .slice none 0 0] rfl rfl 45 _ (hb3b.at (hA1b.below hb2b) (by omega)) i45 rfl (by intro v hv; simp at hv; rcases hv with rfl | rfl | rfl <;> rfl) ?_
          intro x4b hA4b hb4b hs4b
          have sz4b := hb4b.size
          have hS4b := (hb4b.below hS3b (by omega) hS3b.size)
          refine hK.out _ _ hS4b (fun _ => ?_)
          clear hK K
          refine wpAnyH_done (by kernel_rfl) ?_ _
          exact ⟨rfl, _, _, _, _, _, _, _, _, _, _, _, _, _, _, _, _, _, _, _, _, _, _, _, _, _, _, _, _, _, _, _, _, _, _, _, _, _, _, _, _, _, _, _, _, _, _, _, _, _, _, _, _, _, _, _, _, _, _, _, _, _, _, _, _, rfl, hA4b, RowG.stay (S := fun k => k ≠ x0b.heap.size) hr3b (.inr ⟨gA, 0, rfl, hne⟩) (hb4b.size) (fun q hq hl => hb4b.block q (by omega) hq) (fun _ _ h => h), .inr ⟨gA, 0, rfl, by omega, hne⟩, hS4b, by omega⟩
      rintro e' a' Y ⟨rfl, g5, gL, cL, v6, v7, v15, v16, v17, v18, v19, v20, v21, v22, v23, v24, v25, v26, v27, v28, v29, v30, v31, v32, v33, v34, v35, v36, v37, v38, v39, v40, v41, v42, v43, v44, v45, v46, v47, v48, v49, v50, v51, v52, v53, v54, v55, v56, v57, v58, v59, v60, v61, v62, v63, v64, v65, v66, v67, v68, v69, v70, v71, v72, v73, rfl, hK5⟩
      obtain ⟨hA5, hR5, hL5, hwY, hg5⟩ := hK5
      obtain ⟨N, hNN⟩ : ∃ N, Hid (N = Y.heap.size) := ⟨_, (rfl : Y.heap.size = _)⟩
      have hg5N : g5 < N := by rw [hNN.out]; exact hA5.lt
      have lrN : wr.heap.size ≤ N := by rw [hNN.out]; exact hwY.size
      have HY : Hid (At 45 Y g5 [.slice (some ⟨gL, 0, none⟩) lv cL, .int .i64 s, .slice none 0 0] ∧ RowVl Y.heap.size Y (some ⟨gL, 0, none⟩) cL vs ∧ RowL (fun k => wr.heap.size ≤ k ∧ k ≠ g5) (some ⟨gL, 0, none⟩) vs ∧ Below wr.heap.size wr Y) := ⟨hA5, hR5, hL5, hwY⟩
      clear hA5 hR5 hL5 hwY p0 p1 p2 t2 HR5 HN5
      obtain ⟨wo, hwo⟩ : ∃ x, x = wr := ⟨_, rfl⟩
      subst hwo
      go_wp2_with fail
      go_loopw [6] (fun j wr => ∃ k : Nat, j = .int .i64 (k : Int) ∧ k ≤ m' ∧ Hid (∃ (aW : Option Addr) (cW : Nat) (ms : List NT), ms.length = k ∧ ms.map NT.nd = (ns.take k).map NT.nd ∧ At 45 wr g5 [.slice (some ⟨gL, 0, none⟩) lv cL, .int .i64 s, .slice aW k cW] ∧ Gr eN N wr (.slice aW k cW) ms ∧ But g5 Y wr)) (fun j _ => m' - (intOf j).toNat)
      case atStart => exact ⟨0, rfl, Nat.zero_le _, none, 0, [], rfl, rfl, HY.out.1, Gr.nil (by rw [hNN.out]; exact Nat.le_refl _), But.refl _ _⟩
      case round =>
        obtain ⟨k, rfl, hk, hVz⟩ := hrel
        obtain ⟨wz, hwz⟩ : ∃ x, x = wr := ⟨_, rfl⟩
        subst hwz
        obtain ⟨aW, cW, ms, hml, hmm, hA5, hGn, hBY⟩ := hVz.out
        have hoz : Below wo.heap.size wo wz := hBY.below HY.out.2.2.2 hg5 HY.out.2.2.2.size
        have t2 : wz.cell? ⟨w.heap.size, 2, none⟩ = some (.slice (some ⟨g1, o1, none⟩) n f) := by rw [(HV.out.2.2.2.2.2.1.below hoz).cell]; rfl
        have q2 : wz.cell? ⟨g1, o1 + i * 3 + 2, none⟩ = some (.slice e m' ec) := by rw [World.cell?_of_block (w := wo) (hoz.block g1 lg1)]; exact HV.out.2.2.2.2.2.2
        by_cases hck : k < m'
        · obtain ⟨z, hz⟩ : ∃ q, ns[k]? = some q := ⟨ns[k]'(by rw [← hm'.out]; exact hck), by rw [List.getElem?_eq_getElem]⟩
          obtain ⟨g2, o2, rfl, hg2, hr2, hzi⟩ := (RowNT.old HS.out.2.1 (Old.of_below hoz (by have := hwr.size; omega))).at k z hz
          have hzn : z.Nl := HS.out.2.2 z (List.mem_of_getElem? hz)
          obtain ⟨za, zc, ⟨zs, z1, z2, z3, z4⟩⟩ := z
          obtain ⟨lz, hlz⟩ : ∃ q, Hid (q = zs.length) := ⟨_, (rfl : zs.length = _)⟩
          have hrz : wz.rangeAt g2 (o2 + k * 5) [.slice za lz zc, .int .i64 z1, .int .i64 z2, .int .i64 z3, .int .i64 z4] := by rw [hlz.out]; exact hr2
          have HZ : Hid (RowIr B wz za zc zs ∧ (za = none → zc = 0) ∧ I64 z1 ∧ I64 z2 ∧ I64 z3 ∧ I64 z4) := ⟨hzi.1, hzn, hzi.2⟩
          have HTK2 : Hid ((ns.take (k + 1)).map NT.nd = (ns.take k).map NT.nd ++ [(⟨zs, z1, z2, z3, z4⟩ : Nd)]) := by
            show _ = _
            rw [List.take_add_one, hz]
            simp
          have HW : Hid (ms.length = k ∧ ms.map NT.nd = (ns.take k).map NT.nd ∧ At 45 wz g5 [.slice (some ⟨gL, 0, none⟩) lv cL, .int .i64 s, .slice aW k cW] ∧ Gr eN N wz (.slice aW k cW) ms ∧ But g5 Y wz ∧ Below wo.heap.size wo wz) := ⟨hml, hmm, hA5, hGn, hBY, hoz⟩
          have lNz : N ≤ wz.heap.size := by rw [hNN.out]; exact hBY.size
          clear hVz hml hmm hA5 hGn hBY hoz hz hr2 hzi hzn
          go_wp2_with (first
            | ((with_reducible show wpList _ _ _ _ _ _); refine wpList_load_mid (P := Try.prog) rfl 49 (.tmp 55) rfl g2 (o2 + k * 5) (by first | rfl | (simp; done)) [.slice za lz zc, .int .i64 z1, .int .i64 z2, .int .i64 z3, .int .i64 z4] _ hrz Try.underlying49 rfl i49 ?_)
            | ((with_reducible show wpList _ _ _ _ _ _); refine wpList_alloc_at rfl 49 rfl _ 5 z49 ?_; intro w4 hA4 hb4 hs4; clear hs4)
            | ((with_reducible show wpList _ _ _ _ _ _); refine wpList_store_at (P := Try.prog) rfl 49 (.tmp 7) (.tmp 56) rfl wz.heap.size [.slice za lz zc, .int .i64 z1, .int .i64 z2, .int .i64 z3, .int .i64 z4] rfl rfl 49 _ hA4 i49 rfl (one5 _ _ _ _ _ _ _) ?_; intro w5 hA7 hb5 hs5; clear hs5; refine Hid.out ?_))
          refine hidU ?_
          have hz5 : Below wz.heap.size wz w5 := hb5.below hb4 (Nat.le_refl _) hb4.size
          have c7 : w5.cell? ⟨wz.heap.size, 0, none⟩ = some (.slice za lz zc) := by rw [hA7.cell]; rfl
          have l75 : wz.heap.size < w5.heap.size := hA7.lt
          have HA7 : Hid (At 49 w5 wz.heap.size [.slice za lz zc, .int .i64 z1, .int .i64 z2, .int .i64 z3, .int .i64 z4] ∧ Below wz.heap.size wz w5) := ⟨hA7, hz5⟩
          clear hA4 hb4 hb5 hA7 hz5 hrz t2 q2
          go_wp2_with (first
            | ((with_reducible show wpList _ _ _ _ _ _); refine wpList_empty38 rfl rfl ?_; intro w6 ho6 hb6 lt6; refine Hid.out ?_))
          refine hidU ?_
          have hz6 : Below wz.heap.size wz w6 := HA7.out.2.trans (hb6.mono (Nat.le_of_lt l75))
          have c7' : w6.cell? ⟨wz.heap.size, 0, none⟩ = some (.slice za lz zc) := by rw [World.cell?_of_block (w := w5) (hb6.block _ l75)]; exact c7
          have HO6 : Hid (w6.ownsRow w5.heap.size 37 4 (.slice (some ⟨w5.heap.size, 0, none⟩) 0 0) 0 [] ∧ Below w5.heap.size w5 w6 ∧ Below wz.heap.size wz w6) := ⟨ho6, hb6, hz6⟩
          have lB : B ≤ wz.heap.size := by have := hwr.size; have := HW.out.2.2.2.2.2.size; omega
          clear ho6 hb6 hz6 c7
          go_wp2_with (first
            | ((with_reducible show wpList _ _ _ _ _ _); refine wpList_copyRow rfl Ir.cells 4 (fun _ => rfl) (by decide) Ir.one Ir.Ok (.tmp 57) (.tmp 59) 38 37 _ 32 rfl Try.underlying38 f37 rfl (by decide) w5.heap.size rfl HO6.out.1 zs lz hlz.out za zc rfl B (RowIr.old HZ.out.1 (Old.of_below HO6.out.2.2 lB)) HZ.out.2.1 ?_; intro gz cz w7 hr7 hg7 hE7 hb7; refine Hid.out ?_))
          refine hidU ?_
          obtain ⟨csz, hAz⟩ := hE7
          have hA7' : At 49 w7 wz.heap.size [.slice za lz zc, .int .i64 z1, .int .i64 z2, .int .i64 z3, .int .i64 z4] := hb7.at (HA7.out.1.below HO6.out.2.1) (by omega)
          have hne : gz ≠ wz.heap.size := hAz.ne hA7' (by decide)
          have hz7 : Below wz.heap.size wz w7 := hb7.below HO6.out.2.2 (Nat.le_of_lt l75) HO6.out.2.2.size
          have H7 : Hid (RowIr w7.heap.size w7 (some ⟨gz, 0, none⟩) cz zs ∧ w5.heap.size ≤ gz ∧ gz ≠ wz.heap.size ∧ Below wz.heap.size wz w7) := ⟨hr7, hg7, hne, hz7⟩
          clear hr7 hg7 hb7 hAz hne hz7 c7' HO6 HA7
          go_wp2_with (first
            | ((with_reducible show wpList _ _ _ _ _ _); refine wpList_store_one (P := Try.prog) rfl 38 (.tmp 61) (.tmp 60) rfl wz.heap.size 0 (.slice (some ⟨gz, 0, none⟩) lz cz) rfl rfl 49 _ hA7' (show 0 + 1 ≤ 5 by decide) (by kernel_rfl) rfl rfl ?_; intro w8 hA8 hb8 hs8; clear hs8; refine Hid.out ?_))
          refine hidU ?_
          have hA8 : At 49 w8 wz.heap.size [.slice (some ⟨gz, 0, none⟩) lz cz, .int .i64 z1, .int .i64 z2, .int .i64 z3, .int .i64 z4] := hA8
          have hz8 : Below wz.heap.size wz w8 := hb8.below H7.out.2.2.2 (Nat.le_refl _) H7.out.2.2.2.size
          have hr8 : RowIr w8.heap.size w8 (some ⟨gz, 0, none⟩) cz zs := RowG.stay (S := fun q => q ≠ wz.heap.size) H7.out.1 (.inr ⟨gz, 0, rfl, H7.out.2.2.1⟩) hb8.size (fun q hq hl => hb8.block q hl hq) (fun _ _ h => h)
          have hA58 : At 45 w8 g5 [.slice (some ⟨gL, 0, none⟩) lv cL, .int .i64 s, .slice aW k cW] := HW.out.2.2.1.below hz8
          have c5 : w8.cell? ⟨g5, 2, none⟩ = some (.slice aW k cW) := by rw [hA58.cell]; rfl
          have H8 : Hid (RowIr w8.heap.size w8 (some ⟨gz, 0, none⟩) cz zs ∧ Below wz.heap.size wz w8 ∧ At 45 w8 g5 [.slice (some ⟨gL, 0, none⟩) lv cL, .int .i64 s, .slice aW k cW]) := ⟨hr8, hz8, hA58⟩
          have lgz := H7.out.2.1
          clear hA7' hb8 hz8 hr8 hA58 H7
          go_wp2_with (first
            | ((with_reducible show wpList _ _ _ _ _ _); refine wpList_load_at (P := Try.prog) rfl 49 (.tmp 7) rfl wz.heap.size rfl 49 [.slice (some ⟨gz, 0, none⟩) lz cz, .int .i64 z1, .int .i64 z2, .int .i64 z3, .int .i64 z4] hA8 _ Try.underlying49 rfl i49 ?_)
            | ((with_reducible show wpList _ _ _ _ _ _); refine wpList_bsw49 rfl (.tmp 64) rfl [.slice (some ⟨gz, 0, none⟩) lz cz, .int .i64 z1, .int .i64 z2, .int .i64 z3, .int .i64 z4] rfl rfl ?_; intro w9 hA9 hb9; refine Hid.out ?_))
          refine hidU ?_
          have hz9 : Below wz.heap.size wz w9 := H8.out.2.1.trans (hb9.mono H8.out.2.1.size)
          have hGn9 : Gr eN N w9 (.slice aW k cW) ms := HW.out.2.2.2.1.below hz9
          have hA9' : At eN.E w9 w8.heap.size (eN.cl (⟨some ⟨gz, 0, none⟩, cz, ⟨zs, z1, z2, z3, z4⟩⟩ : NT)) := by
            have : At 49 w9 w8.heap.size [.slice (some ⟨gz, 0, none⟩) zs.length cz, .int .i64 z1, .int .i64 z2, .int .i64 z3, .int .i64 z4] := by rw [← hlz.out]; exact hA9
            exact this
          have hyi : eN.In w9.heap.size w9 (⟨some ⟨gz, 0, none⟩, cz, ⟨zs, z1, z2, z3, z4⟩⟩ : NT) := ⟨RowG.up (RowIr.old H8.out.1 (Old.of_below hb9 (Nat.le_refl _))) hb9.size fun _ h => h, HZ.out.2.2⟩
          have hyo : eN.Lies (fun q => N ≤ q ∧ some q ≠ (Value.slice aW k cW).ownBlock) (⟨some ⟨gz, 0, none⟩, cz, ⟨zs, z1, z2, z3, z4⟩⟩ : NT) := Gr.fresh HW.out.2.2.2.1 (.inr ⟨gz, 0, rfl, by omega⟩)
          have H9 : Hid (Gr eN N w9 (.slice aW k cW) ms ∧ Below wz.heap.size wz w9 ∧ At 45 w9 g5 [.slice (some ⟨gL, 0, none⟩) lv cL, .int .i64 s, .slice aW k cW]) := ⟨hGn9, hz9, H8.out.2.2.below hb9⟩
          have HL9 : Hid (At eN.E w9 w8.heap.size (eN.cl (⟨some ⟨gz, 0, none⟩, cz, ⟨zs, z1, z2, z3, z4⟩⟩ : NT)) ∧ eN.In w9.heap.size w9 (⟨some ⟨gz, 0, none⟩, cz, ⟨zs, z1, z2, z3, z4⟩⟩ : NT) ∧ eN.Lies (fun q => N ≤ q ∧ some q ≠ (Value.slice aW k cW).ownBlock) (⟨some ⟨gz, 0, none⟩, cz, ⟨zs, z1, z2, z3, z4⟩⟩ : NT)) := ⟨hA9', hyi, hyo⟩
          clear hA8 hA9 hb9 hz9 hGn9 hA9' hyi hyo H8 c5
          go_wp2_with (first
            | ((with_reducible show wpList _ _ _ _ _ _); refine wpList_grow (e := eN) (A := N) (ys := ms) rfl (.tmp 63) (.tmp 65) 43 _ 56 rfl Try.underlying43 f49 rfl (by decide) rfl w8.heap.size rfl H9.out.1 _ HL9.out.1 HL9.out.2.1 HL9.out.2.2 k HW.out.1 (by omega) (by decide) ?_; intro gW cW' w10 hG10 hb10; refine Hid.out ?_))
          refine hidU ?_
          have hA510 : At 45 w10 g5 [.slice (some ⟨gL, 0, none⟩) lv cL, .int .i64 s, .slice aW k cW] := H9.out.2.2.belowA hb10 hg5N
          have H10 : Hid (Gr eN N w10 (.slice (some ⟨gW, 0, none⟩) (k + 1) cW') (ms ++ [(⟨some ⟨gz, 0, none⟩, cz, ⟨zs, z1, z2, z3, z4⟩⟩ : NT)]) ∧ Below N w9 w10) := ⟨hG10, hb10⟩
          clear hG10 hb10 HL9
          go_wp2_with (first
            | ((with_reducible show wpList _ _ _ _ _ _); refine wpList_store_one (P := Try.prog) rfl 43 (.tmp 67) (.tmp 66) rfl g5 2 (.slice (some ⟨gW, 0, none⟩) (k + 1) cW') rfl rfl 45 _ hA510 (show 2 + 1 ≤ 3 by decide) (by kernel_rfl) rfl rfl ?_; intro w11 hA11 hb11 hs11; clear hs11; refine Hid.out ?_))
          refine hidU ?_
          have HRel : Hid (∃ (aW : Option Addr) (cW : Nat) (ms : List NT), ms.length = k + 1 ∧ ms.map NT.nd = (ns.take (k + 1)).map NT.nd ∧ At 45 w11 g5 [.slice (some ⟨gL, 0, none⟩) lv cL, .int .i64 s, .slice aW (k + 1) cW] ∧ Gr eN N w11 (.slice aW (k + 1) cW) ms ∧ But g5 Y w11) := by
            have hy := HW.out.2.2.2.2.1
            have h9 := H9.out.2.1
            have h10 := H10.out.2
            refine ⟨some ⟨gW, 0, none⟩, cW', ms ++ [_], ?_, ?_, hA11, H10.out.1.but hb11 hg5N, ⟨hb11.os.trans (h10.os.trans (h9.os.trans hy.os)), hb11.tape.trans (h10.tape.trans (h9.tape.trans hy.tape)), hb11.output.trans (h10.output.trans (h9.output.trans hy.output)), Nat.le_trans hy.size (Nat.le_trans h9.size (Nat.le_trans h10.size hb11.size)), fun q hq hne => ?_⟩⟩
            · rw [List.length_append, HW.out.1]; rfl
            · rw [List.map_append, HW.out.2.1, HTK2.out]; rfl
            · have e1 := hy.size
              have e2 := h9.size
              have e3 := h10.size
              have e4 := hNN.out
              exact (hb11.block q (by omega) hne).trans ((h10.block q (by omega)).trans ((h9.block q (by omega)).trans (hy.block q hq hne)))
          clear hA11 hb11 hA510 H10 H9 HW HZ HTK2
          go_wp2_with fail
          go_roundw
          case rel => exact ⟨k + 1, by go_num, by omega, HRel.out⟩
          case measure => simp [intOf]; omega
        · have hkm : k = m' := by omega
          have hoY := HY.out.2.2.2
          have hms : ms.length ≤ 1048576 := by rw [hml]; omega
          obtain ⟨hrow, hrl⟩ := hGn.row (by decide) hms
          have HE : Hid ((⟨some ⟨gL, 0, none⟩, cL, vs, s, aW, cW, ms⟩ : BT).In wz.heap.size wz ∧ (⟨some ⟨gL, 0, none⟩, cL, vs, s, aW, cW, ms⟩ : BT).Lies (fun q => wo.heap.size ≤ q)) := by
            refine ⟨⟨RowG.stay (S := fun q => wo.heap.size ≤ q ∧ q ≠ g5) HY.out.2.1 HY.out.2.2.1 hBY.size (fun q hq hl => hBY.block q hl hq.2) (fun _ _ h => h), HS.out.1, hrow⟩, HY.out.2.2.1.mono fun q hq => hq.1, hrl.mono fun q hq => by omega, fun y hy => (hGn.off y hy).mono fun q hq => by have := hq.1; omega⟩
          have HD : Hid (ms.map NT.nd = ns.map NT.nd ∧ ms.length = k) := ⟨by rw [hmm, List.take_of_length_le (by rw [← hm'.out]; omega)], hml⟩
          have hAo : At 25 wz go [.slice (some ⟨gS, 0, none⟩) nl cS, .int .i64 m, .slice aV i cV] := HV.out.2.2.1.below hoz
          have cg : wz.cell? ⟨go, 2, none⟩ = some (.slice aV i cV) := by rw [hAo.cell]; rfl
          have H5 : Hid (Below wo.heap.size wo wz ∧ At 25 wz go [.slice (some ⟨gS, 0, none⟩) nl cS, .int .i64 m, .slice aV i cV]) := ⟨hoz, hAo⟩
          clear hVz hmm hml hGn hBY hoz hrow hrl hkm hoY hms hAo
          go_wp2_with (first
            | ((with_reducible show wpList _ _ _ _ _ _); refine wpList_load_at (P := Try.prog) rfl 45 (.tmp 5) rfl g5 rfl 45 [.slice (some ⟨gL, 0, none⟩) lv cL, .int .i64 s, .slice aW k cW] hA5 _ Try.underlying45 rfl i45 ?_)
            | ((with_reducible show wpList _ _ _ _ _ _); refine wpList_bsw45 rfl (.tmp 70) rfl [.slice (some ⟨gL, 0, none⟩) lv cL, .int .i64 s, .slice aW k cW] rfl rfl ?_; intro w9 hA9 hb9; refine Hid.out ?_))
          refine hidU ?_
          have ho9 : Below wo.heap.size wo w9 := H5.out.1.trans (hb9.mono H5.out.1.size)
          have hA9' : At eB.E w9 wz.heap.size (eB.cl (⟨some ⟨gL, 0, none⟩, cL, vs, s, aW, cW, ms⟩ : BT)) := by
            have : At 45 w9 wz.heap.size [.slice (some ⟨gL, 0, none⟩) vs.length cL, .int .i64 s, .slice aW ms.length cW] := by rw [← hlv.out, HD.out.2]; exact hA9
            exact this
          have hyi : eB.In w9.heap.size w9 (⟨some ⟨gL, 0, none⟩, cL, vs, s, aW, cW, ms⟩ : BT) := BT.In.up (BT.In.old HE.out.1 (Old.of_below hb9 (Nat.le_refl _))) hb9.size
          have H9 : Hid (Gr eB M w9 (.slice aV i cV) ys ∧ Below wo.heap.size wo w9 ∧ At 25 w9 go [.slice (some ⟨gS, 0, none⟩) nl cS, .int .i64 m, .slice aV i cV]) := ⟨HV.out.2.2.2.1.below ho9, ho9, H5.out.2.below hb9⟩
          have HL9 : Hid (At eB.E w9 wz.heap.size (eB.cl (⟨some ⟨gL, 0, none⟩, cL, vs, s, aW, cW, ms⟩ : BT)) ∧ eB.In w9.heap.size w9 (⟨some ⟨gL, 0, none⟩, cL, vs, s, aW, cW, ms⟩ : BT) ∧ eB.Lies (fun q => M ≤ q ∧ some q ≠ (Value.slice aV i cV).ownBlock) (⟨some ⟨gL, 0, none⟩, cL, vs, s, aW, cW, ms⟩ : BT)) := ⟨hA9', hyi, Gr.fresh HV.out.2.2.2.1 HE.out.2⟩
          clear hA5 hA9 hb9 ho9 hA9' hyi cg H5 t2 q2
          go_wp2_with (first
            | ((with_reducible show wpList _ _ _ _ _ _); refine wpList_grow (e := eB) (A := M) (ys := ys) rfl (.tmp 69) (.tmp 71) 23 _ 56 rfl Try.underlying23 f45 rfl (by decide) rfl wz.heap.size rfl H9.out.1 _ HL9.out.1 HL9.out.2.1 HL9.out.2.2 i HV.out.1 (by omega) (by decide) ?_; intro gW cW' w10 hG10 hb10; refine Hid.out ?_))
          refine hidU ?_
          have hAo10 : At 25 w10 go [.slice (some ⟨gS, 0, none⟩) nl cS, .int .i64 m, .slice aV i cV] := H9.out.2.2.belowA hb10 hgM
          have H10 : Hid (Gr eB M w10 (.slice (some ⟨gW, 0, none⟩) (i + 1) cW') (ys ++ [(⟨some ⟨gL, 0, none⟩, cL, vs, s, aW, cW, ms⟩ : BT)]) ∧ Below M w9 w10) := ⟨hG10, hb10⟩
          clear hG10 hb10 HL9
          go_wp2_with (first
            | ((with_reducible show wpList _ _ _ _ _ _); refine wpList_store_one (P := Try.prog) rfl 23 (.tmp 73) (.tmp 72) rfl go 2 (.slice (some ⟨gW, 0, none⟩) (i + 1) cW') rfl rfl 25 _ hAo10 (show 2 + 1 ≤ 3 by decide) (by kernel_rfl) rfl rfl ?_; intro w11 hA11 hb11 hs11; clear hs11; refine Hid.out ?_))
          refine hidU ?_
          have HRel : Hid (∃ (aV : Option Addr) (cV : Nat) (ys : List BT), ys.length = i + 1 ∧ ys.map BT.bd = (bs.take (i + 1)).map BT.bd ∧ At 25 w11 go [.slice (some ⟨gS, 0, none⟩) nl cS, .int .i64 m, .slice aV (i + 1) cV] ∧ Gr eB M w11 (.slice aV (i + 1) cV) ys ∧ But go X w11) := by
            have hy := HV.out.2.2.2.2.1
            have h9 := H9.out.2.1
            have h10 := H10.out.2
            refine ⟨some ⟨gW, 0, none⟩, cW', ys ++ [_], ?_, ?_, hA11, H10.out.1.but hb11 hgM, ⟨hb11.os.trans (h10.os.trans (h9.os.trans hy.os)), hb11.tape.trans (h10.tape.trans (h9.tape.trans hy.tape)), hb11.output.trans (h10.output.trans (h9.output.trans hy.output)), Nat.le_trans hy.size (Nat.le_trans h9.size (Nat.le_trans h10.size hb11.size)), fun q hq hne => ?_⟩⟩
            · rw [List.length_append, HV.out.1]; rfl
            · rw [List.map_append, HV.out.2.1, HTK.out, ← HD.out.1]; rfl
            · have e1 := hy.size
              have e2 := h9.size
              have e3 := h10.size
              have e4 := hM.out
              exact (hb11.block q (by omega) hne).trans ((h10.block q (by omega)).trans ((h9.block q (by omega)).trans (hy.block q hq hne)))
          clear hA11 hb11 hAo10 H10 H9 HD HE
          go_wp2_with fail
          go_roundw
          case rel => exact ⟨i + 1, by go_num, by omega, HRel.out⟩
          case measure => simp [intOf]; omega
    · have hys : ys.length ≤ 1048576 := by rw [hyl]; omega
      have hX1 : At 25 wr w1.heap.size (CT.cells ⟨none, 0, [], 0, none, 0, []⟩) := hBX.at HX.out.2.1 (by omega)
      have HD : Hid (ys.map BT.bd = bs.map BT.bd ∧ ys.length = i ∧ Gr eB M wr (.slice aV i cV) ys ∧ But go X wr ∧ Below w.heap.size w wr ∧ ys.length ≤ 1048576) := ⟨by rw [hym, List.take_of_length_le (by rw [← hn.out]; omega)], hyl, hGr, hBX, hwr, hys⟩
      clear hV hyl hym hGr hBX hys hA0
      go_wp2_with (first
        | ((with_reducible show wpList _ _ _ _ _ _); refine wpList_load_at (P := Try.prog) rfl 25 (.tmp 3) rfl go rfl 25 [.slice (some ⟨gS, 0, none⟩) nl cS, .int .i64 m, .slice aV i cV] hAg _ Try.underlying25 rfl i25 ?_)
        | ((with_reducible show wpList _ _ _ _ _ _); refine wpList_store_at (P := Try.prog) rfl 25 (.tmp 2) (.tmp 74) rfl w1.heap.size [.slice (some ⟨gS, 0, none⟩) nl cS, .int .i64 m, .slice aV i cV] rfl rfl 25 _ hX1 i25 rfl (one3 _ _ _ _ _ _ _) ?_; intro w9 hA9 hb9 hs9; clear hs9; refine Hid.out ?_))
      refine hidU ?_
      go_wp2_with fail
      refine bodyPost_ret (results_at rfl _ _ w1.heap.size 25 [.slice (some ⟨gS, 0, none⟩) nl cS, .int .i64 m, .slice aV i cV] _ rfl hA9 Try.underlying25 rfl i25) rfl ?_
      have h9 : Gr eB M w9 (.slice aV i cV) ys := HD.out.2.2.1.but hb9 (by omega)
      obtain ⟨hrow, hrl⟩ := h9.row (by decide) HD.out.2.2.2.2.2
      have hwM : w.heap.size ≤ M := by omega
      have hbx := HD.out.2.2.2.1
      refine ⟨⟨some ⟨gS, 0, none⟩, cS, ls, m, aV, cV, ys⟩, ?_, ?_, ⟨RowG.stay (S := fun q => w2.heap.size ≤ q ∧ q ≠ go) HX.out.2.2.2.2.1 HX.out.2.2.2.2.2 (Nat.le_trans hbx.size hb9.size) (fun q hq hl => (hb9.block q (by have := hbx.size; omega) (by have := hq.1; omega)).trans (hbx.block q hl hq.2)) (fun _ _ h => h), HM.out, hrow⟩, ⟨HX.out.2.2.2.2.2.mono fun q hq => by have := hq.1; omega, hrl.mono fun q hq => Nat.le_trans hwM hq, fun y hy => (h9.off y hy).mono fun q hq => Nat.le_trans hwM hq.1⟩, hb9.below HD.out.2.2.2.2.1 (Nat.le_of_lt l01) HD.out.2.2.2.2.1.size⟩
      · show Ending.returned (.agg [.slice (some ⟨gS, 0, none⟩) nl cS, .int .i64 m, .slice aV i cV].toArray) = .returned (.agg [.slice (some ⟨gS, 0, none⟩) ls.length cS, .int .i64 m, .slice aV ys.length cV].toArray)
        rw [HD.out.2.1, hnl.out]
      · simp only [CT.cd, HD.out.1]
end Go.Proofs.Ytefklmckkigllaa
