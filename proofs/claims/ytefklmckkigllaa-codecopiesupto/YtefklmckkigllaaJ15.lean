/- Codes copied: code.Copy 8. -/
import Derived.Test.YtefklmckkigllaaJ14
namespace Go.Proofs.Ytefklmckkigllaa
open Go.RowKit
set_option linter.unusedVariables false

theorem flat_same {α : Type} (cl : α → List Value) {x x' : α} (h : cl x = cl x') : ∀ (L : List α) (i : Nat), (L.set i x).flatMap cl = (L.set i x').flatMap cl
  | [], i => rfl
  | y :: r, 0 => by simp only [List.set_cons_zero, List.flatMap_cons, h]
  | y :: r, i + 1 => by simp only [List.set_cons_succ, List.flatMap_cons, flat_same cl h r i]
/-- A fresh list is a row in a block that may be written. -/
theorem fresh_row {α : Type} {cl : α → List Value} {n : Nat} (hlen : ∀ y, (cl y).length = n) {P : α → Prop} {E : TypeId} {xs : List α} {A B : Nat} {w : World} {a' : Option Addr} {c' : Nat} (h : xs = [] ∧ a' = none ∧ c' = 0 ∨ ∃ g, a' = some ⟨g, 0, none⟩ ∧ c' = xs.length ∧ A ≤ g ∧ At E w g (xs.flatMap cl)) (hB : w.heap.size ≤ B) (h1 : xs.length ≤ 1048576) (hP : ∀ k ∈ xs, P k) : RowG cl n P B w a' c' xs ∧ RowL (Fr A w) a' xs := by
  rcases h with ⟨rfl, rfl, rfl⟩ | ⟨g, rfl, rfl, hg, hA⟩
  · exact ⟨⟨h1, Nat.le_refl _, .inl rfl⟩, .inl rfl⟩
  · have hA' : At E w g (xs.flatMap cl ++ []) := by rw [List.append_nil]; exact hA
    exact ⟨rowOfAt hlen hA' (Nat.lt_of_lt_of_le hA.lt hB) h1 _ (Nat.le_refl _) hP, .inr ⟨g, 0, rfl, hg, E, _, hA⟩⟩
theorem NT.keepF {A : Nat} {w w' : World} {x : NT} (h : x.In w.heap.size w ∧ x.Lies (Fr A w)) (hs : w.heap.size ≤ w'.heap.size) (hk : ∀ k, A ≤ k → k < w.heap.size → w'.heap[k]? = w.heap[k]?) : x.In w'.heap.size w' ∧ x.Lies (Fr A w') :=
  ⟨h.1.stay h.2 hs fun k hF hl => hk k hF.1 hl, h.1.lies h.2 fun k hF hl => ⟨hF.1, hF.2.keep (hk k hF.1 hl)⟩⟩
theorem BT.keepF {A : Nat} {w w' : World} {x : BT} (h : x.In w.heap.size w ∧ x.Lies (Fr A w)) (hs : w.heap.size ≤ w'.heap.size) (hk : ∀ k, A ≤ k → k < w.heap.size → w'.heap[k]? = w.heap[k]?) : x.In w'.heap.size w' ∧ x.Lies (Fr A w') :=
  ⟨h.1.stay h.2 hs fun k hF hl => hk k hF.1 hl, h.1.lies h.2 fun k hF hl => ⟨hF.1, hF.2.keep (hk k hF.1 hl)⟩⟩

set_option maxRecDepth 100000 in
set_option maxHeartbeats 12800000 in
theorem copy8_any (B : Nat) (x : CT) (w : World) (hx : x.In B w) (hBw : B ≤ w.heap.size) :
    Calls Try.prog 8 #[.agg x.cells.toArray] w fun r w' => ∃ y : CT, r = .returned (.agg y.cells.toArray) ∧ y.cd = x.cd ∧ y.In w'.heap.size w' ∧ y.Lies (Fr w.heap.size w') ∧ Below w.heap.size w w' := by
  obtain ⟨a, c, ls, m, d, f, bs⟩ := x
  simp only [CT.cells]
  have h1 : RowVl B w a c ls := hx.1
  have HM : Hid (I64 m) := hx.2.1
  have h3 : RowBT B w d f bs := hx.2.2
  obtain ⟨nl, hnl⟩ : ∃ q, Hid (q = ls.length) := ⟨_, (rfl : ls.length = _)⟩
  obtain ⟨n, hn⟩ : ∃ q, Hid (q = bs.length) := ⟨_, (rfl : bs.length = _)⟩
  have Q20 : Hid (∀ u, Below w.heap.size w u → Calls Try.prog 20 #[.slice a nl c] u fun r w' => ∃ (a' : Option Addr) (c' : Nat), r = .returned (.slice a' nl c') ∧ Below u.heap.size u w' ∧ Hid (ls = [] ∧ a' = none ∧ c' = 0 ∨ ∃ g, a' = some ⟨g, 0, none⟩ ∧ c' = ls.length ∧ u.heap.size ≤ g ∧ At 35 w' g (ls.flatMap Vl.cells))) := fun u hu => by
    rw [hnl.out]
    exact fresh20_any B ls a c u (h1.old (Old.of_below hu hBw)) (by have := hu.size; omega)
  have Q21 : Hid (∀ u, Below w.heap.size w u → Calls Try.prog 21 #[.slice d n f] u fun r w' => ∃ (a' : Option Addr) (c' : Nat), r = .returned (.slice a' n c') ∧ Below u.heap.size u w' ∧ Hid (bs = [] ∧ a' = none ∧ c' = 0 ∨ ∃ g, a' = some ⟨g, 0, none⟩ ∧ c' = bs.length ∧ u.heap.size ≤ g ∧ At 45 w' g (bs.flatMap BT.cells))) := fun u hu => by
    rw [hn.out]
    exact fresh21_any B bs d f u (h3.old (Old.of_below hu hBw)) (by have := hu.size; omega)
  have hl3 := h3.1
  have HL1 : Hid (ls.length ≤ 1048576) := h1.1
  have H1 : Hid (∀ k ∈ ls, k.Ok) := RowG.all h1
  have H3 : Hid (RowBT B w d f bs) := h3
  rw [← hn.out] at hl3
  rw [← hnl.out, ← hn.out]
  clear h1 h3 hx
  go_enter Try.func8, Try.ntmps8
  go_wp2_with (first
    | ((with_reducible show wpList _ _ _ _ _ _); refine wpList_box_at rfl 25 (.tmp 0) rfl [.slice a nl c, .int .i64 m, .slice d n f] rfl ?_; intro w1 hA1 hb1 hs1; clear hs1)
    | ((with_reducible show wpList _ _ _ _ _ _); refine wpList_alloc_at rfl 25 rfl _ 3 z25 ?_; intro w2 hA2 hb2 hs2; clear hs2; refine Hid.out ?_))
  refine hidU ?_
  have l01 : w.heap.size < w1.heap.size := hA1.lt
  have hA1 := hA1.below hb2
  have l12 : w1.heap.size < w2.heap.size := hA2.lt
  have hw2 : Below w.heap.size w w2 := hb1.trans (hb2.mono hb1.size)
  have k0 : w2.cell? ⟨w.heap.size, 0, none⟩ = some (.slice a nl c) := by rw [hA1.cell]; rfl
  have k2 : w2.cell? ⟨w.heap.size, 2, none⟩ = some (.slice d n f) := by rw [hA1.cell]; rfl
  clear hb1 hb2
  go_wp2_with fail
  have hS0a : Below w2.heap.size w2 w2.drew := Below.drew (Below.refl _ _)
  refine wp_region_S (S := fun x => Below w2.heap.size w2 x) (St := [7, 9]) (by kernel_rfl) hS0a ?_
  obtain ⟨x0a, hx0⟩ : ∃ x, x = w2.drew := ⟨_, rfl⟩
  rw [← hx0] at hS0a ⊢
  clear hx0
  intro hH
  refine wpAnyS_pure (i := 0) (oi := { dst := some 6, op := .fieldAddr 25 (.tmp 1) 0, type := _, pos := _, after := _, guard := none }) (v := .pointer (some ⟨w.heap.size, 0, none⟩)) rfl (by kernel_rfl) (by kernel_rfl) (by kernel_rfl) (by kernel_rfl) (fun _ _ _ h => h) (Or.inl ⟨by rfl, ?_⟩) hH (fun hH => ?_)
  · intro wS hSw
    go_simp
  simp only [Act.put, List.setIfInBounds_toArray, List.set_cons_zero, List.set_cons_succ]
  refine wpAnyS_take [2, 5, 6, 7, 8, 9] (i := 1) (oi := { dst := some 7, op := .load 22 (.tmp 6), type := _, pos := _, after := _, guard := none }) (v := .slice a nl c) rfl (by kernel_rfl) (by kernel_rfl) (by kernel_rfl) (by kernel_rfl) (by kernel_rfl) (by kernel_rfl) (by kernel_rfl) (fun _ _ _ h => h) (Or.inl ⟨by rfl, ?_⟩) hH (fun hH => ?_)
  · intro wS hSw
    have z0 := (hSw.cell (lt_of_cell k0)).trans k0
    go_simp
  simp only [Act.put, List.setIfInBounds_toArray, List.set_cons_zero, List.set_cons_succ]
  refine wpAnyS_pure (i := 3) (oi := { dst := some 9, op := .fieldAddr 25 (.tmp 1) 2, type := _, pos := _, after := _, guard := none }) (v := .pointer (some ⟨w.heap.size, 2, none⟩)) rfl (by kernel_rfl) (by kernel_rfl) (by kernel_rfl) (by kernel_rfl) (fun _ _ _ h => h) (Or.inl ⟨by rfl, ?_⟩) hH (fun hH => ?_)
  · intro wS hSw
    go_simp
  simp only [Act.put, List.setIfInBounds_toArray, List.set_cons_zero, List.set_cons_succ]
  refine wpAnyS_take [5, 6, 7, 8, 9] (i := 4) (oi := { dst := some 10, op := .load 23 (.tmp 9), type := _, pos := _, after := _, guard := none }) (v := .slice d n f) rfl (by kernel_rfl) (by kernel_rfl) (by kernel_rfl) (by kernel_rfl) (by kernel_rfl) (by kernel_rfl) (by kernel_rfl) (fun _ _ _ h => h) (Or.inl ⟨by rfl, ?_⟩) hH (fun hH => ?_)
  · intro wS hSw
    have z0 := (hSw.cell (lt_of_cell k2)).trans k2
    go_simp
  simp only [Act.put, List.setIfInBounds_toArray, List.set_cons_zero, List.set_cons_succ]
  refine wpAnyS_ready (rs := [2]) (by kernel_rfl) (by simp) ?_
  refine AllReadyS.cons (o := { dst := some 8, op := .call { callee := .value (.func 20), args := #[.tmp 7], argTypes := #[22] }, type := _, pos := _, after := _, guard := none }) rfl (fun K hK => ?_) AllReadyS.nil
  rw [if_pos (by rfl)]
  go_wp2_with (go_at_call 20; refine (Q20.out _ (hw2.trans (hS0a.mono hw2.size))).mono ?_; rintro e x1a ⟨a1, c1, rfl, hb1a, hF1⟩)
  have hS1a := hS0a.trans (hb1a.mono hS0a.size)
  refine hK.out _ _ (Hold.of hS1a) (fun hH => ?_)
  clear hK K
  refine wpAnyS_pure (i := 6) (oi := { dst := some 12, op := .fieldAddr 25 (.tmp 1) 0, type := _, pos := _, after := _, guard := none }) (v := .pointer (some ⟨w.heap.size, 0, none⟩)) rfl (by kernel_rfl) (by kernel_rfl) (by kernel_rfl) (by kernel_rfl) (fun _ _ _ h => h) (Or.inl ⟨by rfl, ?_⟩) hH (fun hH => ?_)
  · intro wS hSw
    go_simp
  simp only [Act.put, List.setIfInBounds_toArray, List.set_cons_zero, List.set_cons_succ]
  refine wpAnyS_ready (rs := [5]) (by kernel_rfl) (by simp) ?_
  refine AllReadyS.cons (o := { dst := some 11, op := .call { callee := .value (.func 21), args := #[.tmp 10], argTypes := #[23] }, type := _, pos := _, after := _, guard := none }) rfl (fun K hK => ?_) AllReadyS.nil
  rw [if_pos (by rfl)]
  go_wp2_with (go_at_call 21; refine (Q21.out _ (hw2.trans (hS1a.mono hw2.size))).mono ?_; rintro e x2a ⟨d1, f1, rfl, hb2a, hF2⟩)
  have hS2a := hS1a.trans (hb2a.mono hS1a.size)
  refine hK.out _ _ (Hold.of hS2a) (fun hH => ?_)
  clear hK K
  refine wpAnyS_ready (rs := [7]) (by kernel_rfl) (by simp) ?_
  refine AllReadyS.cons (o := { dst := none, op := .store 22 (.tmp 12) (.tmp 8), type := _, pos := _, after := _, guard := none }) rfl (fun K hK => ?_) AllReadyS.nil
  rw [if_pos (by rfl)]
  refine wp_store_one 22 (.tmp 12) (.tmp 8) rfl w.heap.size (0) (.slice a1 nl c1) rfl rfl 25 _ (hA1.below hS2a) (show 0 + 1 ≤ 3 by decide) (by kernel_rfl) rfl rfl ?_
  intro x3a hA3a hb3a hs3a
  refine hK.out _ _ (Hold.over (s := 7) (by decide) (by rfl)) (fun hH => ?_)
  clear hK K
  refine wpAnyS_pure (i := 8) (oi := { dst := some 13, op := .fieldAddr 25 (.tmp 1) 2, type := _, pos := _, after := _, guard := none }) (v := .pointer (some ⟨w.heap.size, 2, none⟩)) rfl (by kernel_rfl) (by kernel_rfl) (by kernel_rfl) (by kernel_rfl) (fun _ _ _ h => h) (Or.inl ⟨by rfl, ?_⟩) hH (fun hH => ?_)
  · intro wS hSw
    go_simp
  simp only [Act.put, List.setIfInBounds_toArray, List.set_cons_zero, List.set_cons_succ]
  refine wpAnyS_ready (rs := [9]) (by kernel_rfl) (by simp) ?_
  refine AllReadyS.cons (o := { dst := none, op := .store 23 (.tmp 13) (.tmp 11), type := _, pos := _, after := _, guard := none }) rfl (fun K hK => ?_) AllReadyS.nil
  rw [if_pos (by rfl)]
  refine wp_store_one 23 (.tmp 13) (.tmp 11) rfl w.heap.size (2) (.slice d1 n f1) rfl rfl 25 _ hA3a (show 2 + 1 ≤ 3 by decide) (by kernel_rfl) rfl rfl ?_
  intro x4a hA4a hb4a hs4a
  refine hK.out _ _ (Hold.over (s := 7) (by decide) (by rfl)) (fun hH => ?_)
  clear hK K
  refine wpAnyS_done (by kernel_rfl) ?_ _
  have hA4a : At 25 x4a w.heap.size [.slice a1 nl c1, .int .i64 m, .slice d1 n f1] := hA4a
  have hbt := hb3a.trans hb4a
  have g0 := hS0a.size
  have g1 := hb1a.size
  have g2 := hb2a.size
  have hwX : Below w.heap.size w x4a := hbt.below (hw2.trans (hS2a.mono hw2.size)) (Nat.le_refl _) (by omega)
  have hF1' : Hid (ls = [] ∧ a1 = none ∧ c1 = 0 ∨ ∃ g, a1 = some ⟨g, 0, none⟩ ∧ c1 = ls.length ∧ w2.heap.size ≤ g ∧ At 35 x4a g (ls.flatMap Vl.cells)) := by
    rcases hF1.out with q | ⟨g, q1, q2, q3, q4⟩
    · exact .inl q
    · exact .inr ⟨g, q1, q2, by omega, hbt.at (q4.below hb2a) (by omega)⟩
  have hF2' : Hid (bs = [] ∧ d1 = none ∧ f1 = 0 ∨ ∃ g, d1 = some ⟨g, 0, none⟩ ∧ f1 = bs.length ∧ x1a.heap.size ≤ g ∧ At 45 x4a g (bs.flatMap BT.cells)) := by
    rcases hF2.out with q | ⟨g, q1, q2, q3, q4⟩
    · exact .inl q
    · exact .inr ⟨g, q1, q2, by omega, hbt.at q4 (by omega)⟩
  have hA2' : At 25 x4a w1.heap.size (CT.cells ⟨none, 0, [], 0, none, 0, []⟩) := hbt.at (hA2.below hS2a) (by omega)
  have HF1 : Hid (∀ g, a1 = some ⟨g, 0, none⟩ → ls ≠ [] → g < x1a.heap.size) := fun g hg hne => by
    rcases hF1.out with q | ⟨g', q1, q2, q3, q4⟩
    · exact absurd q.1 hne
    · rw [hg] at q1; cases q1; exact q4.lt
  have HX : Hid (At 25 x4a w.heap.size [.slice a1 nl c1, .int .i64 m, .slice d1 n f1] ∧ At 25 x4a w1.heap.size (CT.cells ⟨none, 0, [], 0, none, 0, []⟩) ∧ Below w.heap.size w x4a ∧ w2.heap.size ≤ x1a.heap.size) := ⟨hA4a, hA2', hwX, by omega⟩
  have j2 : x4a.cell? ⟨w.heap.size, 2, none⟩ = some (.slice d1 n f1) := by rw [hA4a.cell]; rfl
  have HZ : Hid (x1a.heap.size ≤ x4a.heap.size) := by show _ ≤ _; have := hbt.size; omega
  clear hA3a hA4a hb3a hb4a hs3a hs4a hbt g0 g1 g2 hwX hF1 hF2 hA2' hS0a hS1a hS2a hA1 hA2 k0 k2 hb1a hb2a Q20 Q21 hw2
  have HEnd : Hid (∀ (L : List BT) (W : World), L.map BT.bd = bs.map BT.bd → L.length = n → Below w.heap.size w W → RowBT W.heap.size W d1 f1 L → RowL (Fr w.heap.size W) d1 L → (∀ y ∈ L, y.Lies (Fr w.heap.size W)) → (∀ g, a1 = some ⟨g, 0, none⟩ → ls ≠ [] → W.heap[g]? = x4a.heap[g]?) → At 25 W w1.heap.size [.slice a1 nl c1, .int .i64 m, .slice d1 n f1] → ∃ y : CT, (Ending.returned (.agg #[.slice a1 nl c1, .int .i64 m, .slice d1 n f1]) = .returned (.agg y.cells.toArray)) ∧ y.cd = (⟨a, c, ls, m, d, f, bs⟩ : CT).cd ∧ y.In W.heap.size W ∧ y.Lies (Fr w.heap.size W) ∧ Below w.heap.size w W) := by
    intro L W e1 e2 e3 e4 e5 e6 e7 e8
    obtain ⟨f1', f2'⟩ : RowVl W.heap.size W a1 c1 ls ∧ RowL (Fr w.heap.size W) a1 ls := by
      by_cases hne : ls = []
      · rw [hne]
        exact ⟨⟨Nat.zero_le _, Nat.zero_le _, .inl rfl⟩, .inl rfl⟩
      · refine fresh_row (E := 35) (P := Vl.Ok) (n := 2) (fun _ => rfl) ?_ (Nat.le_refl _) HL1.out H1.out
        rcases hF1'.out with q | ⟨g, q1, q2, q3, q4⟩
        · exact .inl q
        · exact .inr ⟨g, q1, q2, by omega, (e7 g q1 hne).trans q4⟩
    refine ⟨⟨a1, c1, ls, m, d1, f1, L⟩, ?_, ?_, ⟨f1', HM.out, e4⟩, ⟨f2', e5, e6⟩, e3⟩
    · simp only [CT.cells]
      rw [e2, hnl.out]
    · simp only [CT.cd, e1]
  rcases hF2'.out with ⟨q1, q2, q3⟩ | ⟨gb, q1, q2, q3, q4⟩
  · obtain rfl : n = 0 := by rw [hn.out, q1]; rfl
    subst q2 q3
    have HQ : Hid (bs = []) := q1
    clear q1 hF2' H3 hn hl3
    go_wp2_with fail
    go_loopw [17] (fun j wr => j = .int .i64 0 ∧ wr = x4a) (fun j _ => 0)
    case atStart => exact ⟨rfl, rfl⟩
    case round =>
      obtain ⟨rfl, rfl⟩ := hrel
      have hX0 := HX.out.1
      have hX1 := HX.out.2.1
      have HB : Hid (Below w.heap.size w wr) := HX.out.2.2.1
      go_wp2_with (first
        | ((with_reducible show wpList _ _ _ _ _ _); refine wpList_load_at (P := Try.prog) rfl 25 (.tmp 1) rfl w.heap.size rfl 25 [.slice a1 nl c1, .int .i64 m, .slice none 0 0] hX0 _ Try.underlying25 rfl i25 ?_)
        | ((with_reducible show wpList _ _ _ _ _ _); refine wpList_store_at (P := Try.prog) rfl 25 (.tmp 2) (.tmp 66) rfl w1.heap.size [.slice a1 nl c1, .int .i64 m, .slice none 0 0] rfl rfl 25 _ hX1 i25 rfl (by intro v hv; simp at hv; rcases hv with rfl | rfl | rfl <;> rfl) ?_; intro w9 hA9 hb9 hs9; refine Hid.out ?_))
      refine hidU ?_
      go_wp2_with fail
      refine bodyPost_ret (results_at rfl _ _ w1.heap.size 25 [.slice a1 nl c1, .int .i64 m, .slice none 0 0] _ rfl hA9 Try.underlying25 rfl i25) rfl ?_
      refine HEnd.out [] w9 (by rw [HQ.out]) rfl (hb9.below HB.out (Nat.le_of_lt l01) HB.out.size) ⟨Nat.zero_le _, Nat.zero_le _, .inl rfl⟩ (.inl rfl) (fun _ h => by cases h) (fun g hg hne => ?_) hA9
      have q := HF1.out g hg hne
      have q' := HZ.out
      refine hb9.block g (by omega) ?_
      rcases hF1'.out with z | ⟨g', z1, -, z3, -⟩
      · exact absurd z.1 hne
      · rw [hg] at z1; cases z1; omega
  · subst q1
    have HQ2 : Hid (f1 = bs.length) := q2
    obtain ⟨M, hM⟩ : ∃ M, Hid (M = x4a.heap.size) := ⟨_, (rfl : x4a.heap.size = _)⟩
    have hMg : gb < M := by rw [hM.out]; exact q4.lt
    have HG : Hid (w2.heap.size ≤ gb ∧ w.heap.size ≤ gb ∧ gb ≠ w.heap.size ∧ gb ≠ w1.heap.size ∧ (∀ g, a1 = some ⟨g, 0, none⟩ → ls ≠ [] → g ≠ gb ∧ g ≠ w1.heap.size ∧ g < x4a.heap.size)) := by
      have z := HX.out.2.2.2
      have z' := HZ.out
      refine ⟨by omega, by omega, by omega, by omega, fun g hg hne => ?_⟩
      have q := HF1.out g hg hne
      refine ⟨by omega, ?_, by omega⟩
      rcases hF1'.out with z | ⟨g', z1, -, z3, -⟩
      · exact absurd z.1 hne
      · rw [hg] at z1; cases z1; omega
    have HI0 : Hid (At 45 x4a gb (bs.flatMap BT.cells)) := q4
    clear q2 q3 q4 hF2'
    go_wp2_with fail
    go_loopw [17] (fun j wr => ∃ i : Nat, j = .int .i64 (i : Int) ∧ i ≤ n ∧ Hid (∃ L : List BT, Till BT.bd (fun y => y.In wr.heap.size wr ∧ y.Lies (Fr M wr)) i L bs ∧ At 45 wr gb (L.flatMap BT.cells) ∧ But gb x4a wr)) (fun j _ => n - (intOf j).toNat)
    case atStart => exact ⟨0, rfl, Nat.zero_le _, bs, Till.start bs, HI0.out, But.refl _ _⟩
    case round =>
      clear HI0 j2
      obtain ⟨i, rfl, hi, hV⟩ := hrel
      obtain ⟨L, hTl, hAL, hBL⟩ := hV.out
      have hA0 : At 25 wr w.heap.size [.slice a1 nl c1, .int .i64 m, .slice (some ⟨gb, 0, none⟩) n f1] := hBL.at HX.out.1 (Ne.symm HG.out.2.2.1)
      have hwr : Below w.heap.size w wr := hBL.below HX.out.2.2.1 HG.out.2.1 HX.out.2.2.1.size
      have lM : M ≤ wr.heap.size := by rw [hM.out]; exact hBL.size
      by_cases hc : i < n
      · obtain ⟨x, hx⟩ : ∃ k, bs[i]? = some k := ⟨bs[i]'(by rw [← hn.out]; exact hc), by rw [List.getElem?_eq_getElem]⟩
        have hLx : L[i]? = some x := by rw [hTl.2.2 i (Nat.le_refl _)]; exact hx
        have hxi : x.In B wr := (RowG.all (RowBT.old H3.out (Old.of_below hwr hBw))) x (List.mem_of_getElem? hx)
        obtain ⟨p, pc, vs, s, e, ec, ns⟩ := x
        have r1 : RowVl B wr p pc vs := hxi.1
        have r3 : RowNT B wr e ec ns := hxi.2.2
        have HS : Hid (I64 s ∧ vs.length ≤ 1048576 ∧ ns.length ≤ 1048576 ∧ (∀ k ∈ vs, k.Ok)) := ⟨hxi.2.1, r1.1, r3.1, RowG.all r1⟩
        obtain ⟨lv, hlv⟩ : ∃ q, Hid (q = vs.length) := ⟨_, (rfl : vs.length = _)⟩
        obtain ⟨m', hm'⟩ : ∃ q, Hid (q = ns.length) := ⟨_, (rfl : ns.length = _)⟩
        have u0 : wr.cell? ⟨gb, i * 3, none⟩ = some (.slice p lv pc) := by have := hAL.flat (n := 3) (fun _ => rfl) hLx (j := 0) rfl; rw [hlv.out]; exact this
        have u2 : wr.cell? ⟨gb, i * 3 + 2, none⟩ = some (.slice e m' ec) := by have := hAL.flat (n := 3) (fun _ => rfl) hLx (j := 2) rfl; rw [hm'.out]; exact this
        have t2 : wr.cell? ⟨w.heap.size, 2, none⟩ = some (.slice (some ⟨gb, 0, none⟩) n f1) := by rw [hA0.cell]; rfl
        have Q20b : Hid (∀ u, Below w.heap.size w u → Below wr.heap.size wr u → Calls Try.prog 20 #[.slice p lv pc] u fun r w' => ∃ (a' : Option Addr) (c' : Nat), r = .returned (.slice a' lv c') ∧ Below u.heap.size u w' ∧ Hid (vs = [] ∧ a' = none ∧ c' = 0 ∨ ∃ g, a' = some ⟨g, 0, none⟩ ∧ c' = vs.length ∧ u.heap.size ≤ g ∧ At 35 w' g (vs.flatMap Vl.cells))) := fun u hu hu2 => by
          rw [hlv.out]
          exact fresh20_any B vs p pc u (r1.old (Old.of_below hu2 (by have := hwr.size; omega))) (by have := hu.size; omega)
        have Q22b : Hid (∀ u, Below w.heap.size w u → Below wr.heap.size wr u → Calls Try.prog 22 #[.slice e m' ec] u fun r w' => ∃ (a' : Option Addr) (c' : Nat), r = .returned (.slice a' m' c') ∧ Below u.heap.size u w' ∧ Hid (ns = [] ∧ a' = none ∧ c' = 0 ∨ ∃ g, a' = some ⟨g, 0, none⟩ ∧ c' = ns.length ∧ u.heap.size ≤ g ∧ At 49 w' g (ns.flatMap NT.cells))) := fun u hu hu2 => by
          rw [hm'.out]
          exact fresh22_any B ns e ec u (r3.old (Old.of_below hu2 (by have := hwr.size; omega))) (by have := hu.size; omega)
        have HL : Hid (Till BT.bd (fun y => y.In wr.heap.size wr ∧ y.Lies (Fr M wr)) i L bs ∧ At 45 wr gb (L.flatMap BT.cells) ∧ i * 3 + 1 ≤ (L.flatMap BT.cells).length ∧ i * 3 + 2 + 1 ≤ (L.flatMap BT.cells).length) := ⟨hTl, hAL, flat_in (n := 3) (fun _ => rfl) hLx (j := 0) (by decide), flat_in (n := 3) (fun _ => rfl) hLx (j := 2) (by decide)⟩
        have HBL : Hid (But gb x4a wr) := hBL
        have HR3 : Hid (RowNT B wr e ec ns) := r3
        have HLx : Hid (L[i]? = some (⟨p, pc, vs, s, e, ec, ns⟩ : BT) ∧ bs[i]? = some (⟨p, pc, vs, s, e, ec, ns⟩ : BT)) := ⟨hLx, hx⟩
        clear hV hTl hAL hBL hx hLx hxi r1 r3 hA0
        go_wp2_with fail
        have hS0b : Below wr.heap.size wr wr.drew := Below.drew (Below.refl _ _)
        refine wp_region_S (S := fun x => Below wr.heap.size wr x) (St := [14, 17]) (by kernel_rfl) hS0b ?_
        obtain ⟨x0b, hx0⟩ : ∃ x, x = wr.drew := ⟨_, rfl⟩
        rw [← hx0] at hS0b ⊢
        clear hx0
        intro hH
        refine wpAnyS_pure (i := 0) (oi := { dst := some 24, op := .move (.tmp 4), type := _, pos := _, after := _, guard := none }) (v := .pointer (some ⟨gb, i * 3, none⟩)) rfl (by kernel_rfl) (by kernel_rfl) (by kernel_rfl) (by kernel_rfl) (fun _ _ _ h => h) (Or.inl ⟨by rfl, ?_⟩) hH (fun hH => ?_)
        · intro wS hSw
          go_simp
        simp only [Act.put, List.setIfInBounds_toArray, List.set_cons_zero, List.set_cons_succ]
        refine wpAnyS_pure (i := 1) (oi := { dst := some 25, op := .move (.tmp 4), type := _, pos := _, after := _, guard := none }) (v := .pointer (some ⟨gb, i * 3, none⟩)) rfl (by kernel_rfl) (by kernel_rfl) (by kernel_rfl) (by kernel_rfl) (fun _ _ _ h => h) (Or.inl ⟨by rfl, ?_⟩) hH (fun hH => ?_)
        · intro wS hSw
          go_simp
        simp only [Act.put, List.setIfInBounds_toArray, List.set_cons_zero, List.set_cons_succ]
        refine wpAnyS_pure (i := 2) (oi := { dst := some 26, op := .move (.tmp 4), type := _, pos := _, after := _, guard := none }) (v := .pointer (some ⟨gb, i * 3, none⟩)) rfl (by kernel_rfl) (by kernel_rfl) (by kernel_rfl) (by kernel_rfl) (fun _ _ _ h => h) (Or.inl ⟨by rfl, ?_⟩) hH (fun hH => ?_)
        · intro wS hSw
          go_simp
        simp only [Act.put, List.setIfInBounds_toArray, List.set_cons_zero, List.set_cons_succ]
        refine wpAnyS_pure (i := 3) (oi := { dst := some 27, op := .nilCheck (.tmp 26), type := _, pos := _, after := _, guard := none }) (v := .pointer (some ⟨gb, i * 3, none⟩)) rfl (by kernel_rfl) (by kernel_rfl) (by kernel_rfl) (by kernel_rfl) (fun _ _ _ h => h) (Or.inl ⟨by rfl, ?_⟩) hH (fun hH => ?_)
        · intro wS hSw
          go_simp
        simp only [Act.put, List.setIfInBounds_toArray, List.set_cons_zero, List.set_cons_succ]
        refine wpAnyS_pure (i := 4) (oi := { dst := some 28, op := .fieldAddr 45 (.tmp 27) 0, type := _, pos := _, after := _, guard := none }) (v := .pointer (some ⟨gb, i * 3, none⟩)) rfl (by kernel_rfl) (by kernel_rfl) (by kernel_rfl) (by kernel_rfl) (fun _ _ _ h => h) (Or.inl ⟨by rfl, ?_⟩) hH (fun hH => ?_)
        · intro wS hSw
          go_simp
        simp only [Act.put, List.setIfInBounds_toArray, List.set_cons_zero, List.set_cons_succ]
        refine wpAnyS_take [6, 11, 12, 13, 14, 15, 16, 17] (i := 5) (oi := { dst := some 29, op := .load 22 (.tmp 28), type := _, pos := _, after := _, guard := none }) (v := .slice p lv pc) rfl (by kernel_rfl) (by kernel_rfl) (by kernel_rfl) (by kernel_rfl) (by kernel_rfl) (by kernel_rfl) (by kernel_rfl) (fun _ _ _ h => h) (Or.inl ⟨by rfl, ?_⟩) hH (fun hH => ?_)
        · intro wS hSw
          have z0 := (hSw.cell (lt_of_cell u0)).trans u0
          go_simp
        simp only [Act.put, List.setIfInBounds_toArray, List.set_cons_zero, List.set_cons_succ]
        refine wpAnyS_pure (i := 7) (oi := { dst := some 31, op := .move (.tmp 4), type := _, pos := _, after := _, guard := none }) (v := .pointer (some ⟨gb, i * 3, none⟩)) rfl (by kernel_rfl) (by kernel_rfl) (by kernel_rfl) (by kernel_rfl) (fun _ _ _ h => h) (Or.inl ⟨by rfl, ?_⟩) hH (fun hH => ?_)
        · intro wS hSw
          go_simp
        simp only [Act.put, List.setIfInBounds_toArray, List.set_cons_zero, List.set_cons_succ]
        refine wpAnyS_pure (i := 8) (oi := { dst := some 32, op := .nilCheck (.tmp 31), type := _, pos := _, after := _, guard := none }) (v := .pointer (some ⟨gb, i * 3, none⟩)) rfl (by kernel_rfl) (by kernel_rfl) (by kernel_rfl) (by kernel_rfl) (fun _ _ _ h => h) (Or.inl ⟨by rfl, ?_⟩) hH (fun hH => ?_)
        · intro wS hSw
          go_simp
        simp only [Act.put, List.setIfInBounds_toArray, List.set_cons_zero, List.set_cons_succ]
        refine wpAnyS_pure (i := 9) (oi := { dst := some 33, op := .fieldAddr 45 (.tmp 32) 2, type := _, pos := _, after := _, guard := none }) (v := .pointer (some ⟨gb, i * 3 + 2, none⟩)) rfl (by kernel_rfl) (by kernel_rfl) (by kernel_rfl) (by kernel_rfl) (fun _ _ _ h => h) (Or.inl ⟨by rfl, ?_⟩) hH (fun hH => ?_)
        · intro wS hSw
          go_simp
        simp only [Act.put, List.setIfInBounds_toArray, List.set_cons_zero, List.set_cons_succ]
        refine wpAnyS_take [11, 12, 13, 14, 15, 16, 17] (i := 10) (oi := { dst := some 34, op := .load 43 (.tmp 33), type := _, pos := _, after := _, guard := none }) (v := .slice e m' ec) rfl (by kernel_rfl) (by kernel_rfl) (by kernel_rfl) (by kernel_rfl) (by kernel_rfl) (by kernel_rfl) (by kernel_rfl) (fun _ _ _ h => h) (Or.inl ⟨by rfl, ?_⟩) hH (fun hH => ?_)
        · intro wS hSw
          have z0 := (hSw.cell (lt_of_cell u2)).trans u2
          go_simp
        simp only [Act.put, List.setIfInBounds_toArray, List.set_cons_zero, List.set_cons_succ]
        refine wpAnyS_ready (rs := [6]) (by kernel_rfl) (by simp) ?_
        refine AllReadyS.cons (o := { dst := some 30, op := .call { callee := .value (.func 20), args := #[.tmp 29], argTypes := #[22] }, type := _, pos := _, after := _, guard := none }) rfl (fun K hK => ?_) AllReadyS.nil
        rw [if_pos (by rfl)]
        go_wp2_with (go_at_call 20; refine (Q20b.out _ (hwr.trans (hS0b.mono hwr.size)) hS0b).mono ?_; rintro e x1b ⟨p1, pc1, rfl, hb1b, hG1⟩)
        have hS1b := hS0b.trans (hb1b.mono hS0b.size)
        refine hK.out _ _ (Hold.of hS1b) (fun hH => ?_)
        clear hK K
        refine wpAnyS_ready (rs := [11]) (by kernel_rfl) (by simp) ?_
        refine AllReadyS.cons (o := { dst := some 35, op := .call { callee := .value (.func 22), args := #[.tmp 34], argTypes := #[43] }, type := _, pos := _, after := _, guard := none }) rfl (fun K hK => ?_) AllReadyS.nil
        rw [if_pos (by rfl)]
        go_wp2_with (go_at_call 22; refine (Q22b.out _ (hwr.trans (hS1b.mono hwr.size)) hS1b).mono ?_; rintro e x2b ⟨e1, ec1, rfl, hb2b, hG2⟩)
        have hS2b := hS1b.trans (hb2b.mono hS1b.size)
        refine hK.out _ _ (Hold.of hS2b) (fun hH => ?_)
        clear hK K
        refine wpAnyS_pure (i := 12) (oi := { dst := some 36, op := .nilCheck (.tmp 24), type := _, pos := _, after := _, guard := none }) (v := .pointer (some ⟨gb, i * 3, none⟩)) rfl (by kernel_rfl) (by kernel_rfl) (by kernel_rfl) (by kernel_rfl) (fun _ _ _ h => h) (Or.inl ⟨by rfl, ?_⟩) hH (fun hH => ?_)
        · intro wS hSw
          go_simp
        simp only [Act.put, List.setIfInBounds_toArray, List.set_cons_zero, List.set_cons_succ]
        refine wpAnyS_pure (i := 13) (oi := { dst := some 37, op := .fieldAddr 45 (.tmp 36) 0, type := _, pos := _, after := _, guard := none }) (v := .pointer (some ⟨gb, i * 3, none⟩)) rfl (by kernel_rfl) (by kernel_rfl) (by kernel_rfl) (by kernel_rfl) (fun _ _ _ h => h) (Or.inl ⟨by rfl, ?_⟩) hH (fun hH => ?_)
        · intro wS hSw
          go_simp
        simp only [Act.put, List.setIfInBounds_toArray, List.set_cons_zero, List.set_cons_succ]
        refine wpAnyS_ready (rs := [14]) (by kernel_rfl) (by simp) ?_
        refine AllReadyS.cons (o := { dst := none, op := .store 22 (.tmp 37) (.tmp 30), type := _, pos := _, after := _, guard := none }) rfl (fun K hK => ?_) AllReadyS.nil
        rw [if_pos (by rfl)]
        refine wp_store_one 22 (.tmp 37) (.tmp 30) rfl gb (i * 3) (.slice p1 lv pc1) rfl rfl 45 _ (HL.out.2.1.below hS2b) (HL.out.2.2.1) (by kernel_rfl) rfl rfl ?_
        intro x3b hA3b hb3b hs3b
        refine hK.out _ _ (Hold.over (s := 14) (by decide) (by rfl)) (fun hH => ?_)
        clear hK K
        refine wpAnyS_pure (i := 15) (oi := { dst := some 38, op := .nilCheck (.tmp 25), type := _, pos := _, after := _, guard := none }) (v := .pointer (some ⟨gb, i * 3, none⟩)) rfl (by kernel_rfl) (by kernel_rfl) (by kernel_rfl) (by kernel_rfl) (fun _ _ _ h => h) (Or.inl ⟨by rfl, ?_⟩) hH (fun hH => ?_)
        · intro wS hSw
          go_simp
        simp only [Act.put, List.setIfInBounds_toArray, List.set_cons_zero, List.set_cons_succ]
        refine wpAnyS_pure (i := 16) (oi := { dst := some 39, op := .fieldAddr 45 (.tmp 38) 2, type := _, pos := _, after := _, guard := none }) (v := .pointer (some ⟨gb, i * 3 + 2, none⟩)) rfl (by kernel_rfl) (by kernel_rfl) (by kernel_rfl) (by kernel_rfl) (fun _ _ _ h => h) (Or.inl ⟨by rfl, ?_⟩) hH (fun hH => ?_)
        · intro wS hSw
          go_simp
        simp only [Act.put, List.setIfInBounds_toArray, List.set_cons_zero, List.set_cons_succ]
        refine wpAnyS_ready (rs := [17]) (by kernel_rfl) (by simp) ?_
        refine AllReadyS.cons (o := { dst := none, op := .store 43 (.tmp 39) (.tmp 35), type := _, pos := _, after := _, guard := none }) rfl (fun K hK => ?_) AllReadyS.nil
        rw [if_pos (by rfl)]
        refine wp_store_one 43 (.tmp 39) (.tmp 35) rfl gb (i * 3 + 2) (.slice e1 m' ec1) rfl rfl 45 _ hA3b (by rw [List.length_set]; exact HL.out.2.2.2) (by kernel_rfl) rfl rfl ?_
        intro x4b hA4b hb4b hs4b
        refine hK.out _ _ (Hold.over (s := 14) (by decide) (by rfl)) (fun hH => ?_)
        clear hK K
        refine wpAnyS_done (by kernel_rfl) ?_ _
        have hbt := hb3b.trans hb4b
        have hg1 := hb1b.size
        have hg2 := hb2b.size
        have hg0 := hS0b.size
        have e34 := hs4b.trans hs3b
        have E1 : (L.flatMap BT.cells).set (i * 3) (.slice p1 lv pc1) = (L.set i (⟨p1, pc1, vs, s, e, ec, ns⟩ : BT)).flatMap BT.cells := flat_set BT.cells 3 (fun _ => rfl) L i _ _ 0 _ HLx.out.1 (by decide) (by rw [hlv.out]; rfl)
        have hiL : i < L.length := (List.getElem?_eq_some_iff.1 HLx.out.1).1
        have E2 : ((L.set i (⟨p1, pc1, vs, s, e, ec, ns⟩ : BT)).flatMap BT.cells).set (i * 3 + 2) (.slice e1 m' ec1) = ((L.set i (⟨p1, pc1, vs, s, e, ec, ns⟩ : BT)).set i (⟨p1, pc1, vs, s, e1, ec1, ns⟩ : BT)).flatMap BT.cells := flat_set BT.cells 3 (fun _ => rfl) _ i _ _ 2 _ (List.getElem?_set_self hiL) (by decide) (by rw [hm'.out]; rfl)
        have hL2 : At 45 x4b gb ((L.set i (⟨p1, pc1, vs, s, e1, ec1, ns⟩ : BT)).flatMap BT.cells) := by
          rw [E1, E2, List.set_set] at hA4b
          exact hA4b
        have hbw : But gb wr x4b := (But.of_below hS2b).trans hbt
        have hw4 : Below w.heap.size w x4b := hbw.below hwr HG.out.2.1 hwr.size
        have hG1' : Hid (vs = [] ∧ p1 = none ∧ pc1 = 0 ∨ ∃ g, p1 = some ⟨g, 0, none⟩ ∧ pc1 = vs.length ∧ wr.heap.size ≤ g ∧ At 35 x4b g (vs.flatMap Vl.cells) ∧ g < x1b.heap.size) := by
          rcases hG1.out with q | ⟨g, q1, q2, q3, q4⟩
          · exact .inl q
          · exact .inr ⟨g, q1, q2, by omega, hbt.at (q4.below hb2b) (by omega), q4.lt⟩
        have hG2' : Hid (ns = [] ∧ e1 = none ∧ ec1 = 0 ∨ ∃ g, e1 = some ⟨g, 0, none⟩ ∧ ec1 = ns.length ∧ x1b.heap.size ≤ g ∧ At 49 x4b g (ns.flatMap NT.cells)) := by
          rcases hG2.out with q | ⟨g, q1, q2, q3, q4⟩
          · exact .inl q
          · exact .inr ⟨g, q1, q2, q3, hbt.at q4 (by omega)⟩
        have lw1 : wr.heap.size ≤ x1b.heap.size := by omega
        have lw4 : x1b.heap.size ≤ x4b.heap.size := by omega
        have HB4 : Hid (But gb wr x4b ∧ Below w.heap.size w x4b ∧ At 45 x4b gb ((L.set i (⟨p1, pc1, vs, s, e1, ec1, ns⟩ : BT)).flatMap BT.cells)) := ⟨hbw, hw4, hL2⟩
        have i2 : x4b.cell? ⟨gb, i * 3 + 2, none⟩ = some (.slice e1 m' ec1) := by
          have := hL2.flat (n := 3) (fun _ => rfl) (List.getElem?_set_self hiL) (j := 2) rfl
          rw [hm'.out]; exact this
        have HNext : Hid (∀ (K : List NT) (W : World) (gn : Nat), K.map NT.nd = ns.map NT.nd → But gn x4b W → wr.heap.size ≤ gn → (∀ g, p1 = some ⟨g, 0, none⟩ → vs ≠ [] → g ≠ gn) → RowNT W.heap.size W e1 ec1 K → RowL (Fr M W) e1 K → (∀ y ∈ K, y.Lies (Fr M W)) → ∃ L' : List BT, Till BT.bd (fun y => y.In W.heap.size W ∧ y.Lies (Fr M W)) (i + 1) L' bs ∧ At 45 W gb (L'.flatMap BT.cells) ∧ But gb x4a W) := by
          intro K W gn z1 z2 z3 z4 z5 z6 z7
          have lK : K.length = ns.length := by have := congrArg List.length z1; rwa [List.length_map, List.length_map] at this
          have hst : ∀ k, M ≤ k → k < wr.heap.size → W.heap[k]? = wr.heap[k]? := fun k h1 h2 => (z2.block k (by have := hbw.size; omega) (by omega)).trans (hbw.block k h2 (by omega))
          have hsz : wr.heap.size ≤ W.heap.size := Nat.le_trans hbw.size z2.size
          obtain ⟨f1', f2'⟩ : RowVl W.heap.size W p1 pc1 vs ∧ RowL (Fr M W) p1 vs := by
            by_cases hne : vs = []
            · rw [hne]
              exact ⟨⟨Nat.zero_le _, Nat.zero_le _, .inl rfl⟩, .inl rfl⟩
            · refine fresh_row (E := 35) (P := Vl.Ok) (n := 2) (fun _ => rfl) ?_ (Nat.le_refl _) HS.out.2.1 HS.out.2.2.2
              rcases hG1'.out with q | ⟨g, q1, q2, q3, q4, -⟩
              · exact .inl q
              · exact .inr ⟨g, q1, q2, by omega, z2.at q4 (z4 g q1 hne)⟩
          refine ⟨L.set i ⟨p1, pc1, vs, s, e1, ec1, K⟩, (HL.out.1.imp fun y hy => BT.keepF hy hsz hst).next HLx.out.2 ?_ ⟨⟨f1', HS.out.1, z5⟩, f2', z6, z7⟩, ?_, ?_⟩
          · simp only [BT.bd, z1]
          · rw [flat_same BT.cells (x' := ⟨p1, pc1, vs, s, e1, ec1, ns⟩) (by simp only [BT.cells, lK])]
            exact z2.at hL2 (by omega)
          · have hxb := HBL.out.trans hbw
            exact ⟨z2.os.trans hxb.os, z2.tape.trans hxb.tape, z2.output.trans hxb.output, Nat.le_trans hxb.size z2.size, fun k hk hne => (z2.block k (by have := hxb.size; omega) (by have := HBL.out.size; omega)).trans (hxb.block k hk hne)⟩
        have r4 : RowNT B x4b e ec ns := RowNT.old (RowNT.old HR3.out (Old.of_below hS2b (by have := hwr.size; omega))) (fun k hk => hbt.block k (by have := hwr.size; omega) (by have := HG.out.2.1; omega))
        have HR4 : Hid (∀ k ∈ ns, k.In B x4b) := RowG.all r4
        clear hA3b hA4b hb3b hb4b hs3b hs4b hbt hg1 hg2 hg0 e34 E1 E2 hL2 hbw hw4 hG1 hG2 hS0b hS1b hS2b hb1b hb2b Q20b Q22b HR3 r4 u0 u2 t2
        rcases hG2'.out with ⟨q1, q2, q3⟩ | ⟨gn, q1, q2, q3, q4⟩
        · obtain rfl : m' = 0 := by rw [hm'.out, q1]; rfl
          subst q2 q3
          have HQ : Hid (ns = []) := q1
          clear q1 hG2'
          go_wp2_with fail
          go_loopw [45] (fun j wr => j = .int .i64 0 ∧ wr = x4b) (fun j _ => 0)
          case atStart => exact ⟨rfl, rfl⟩
          case round =>
            obtain ⟨rfl, rfl⟩ := hrel
            go_wp2_with fail
            go_roundw
            case rel =>
              refine ⟨i + 1, by go_num, by omega, HNext.out [] _ _ (by rw [HQ.out]) (But.refl _ _) (Nat.le_trans lw1 lw4) (fun g hg hne => ?_) ⟨Nat.zero_le _, Nat.zero_le _, .inl rfl⟩ (.inl rfl) (fun _ h => by cases h)⟩
              rcases hG1'.out with z | ⟨g', z1, -, -, -, z5⟩
              · exact absurd z.1 hne
              · rw [hg] at z1; cases z1; omega
            case measure => simp [intOf]; omega
        · subst q1
          obtain ⟨N, hN⟩ : ∃ N, Hid (N = x4b.heap.size) := ⟨_, (rfl : x4b.heap.size = _)⟩
          have hNg : gn < N := by rw [hN.out]; exact q4.lt
          have HGn : Hid (wr.heap.size ≤ gn ∧ (∀ g, p1 = some ⟨g, 0, none⟩ → vs ≠ [] → g ≠ gn) ∧ gn ≠ gb) := by
            refine ⟨by omega, fun g hg hne => ?_, by omega⟩
            rcases hG1'.out with z | ⟨g', z1, -, -, -, z5⟩
            · exact absurd z.1 hne
            · rw [hg] at z1; cases z1; omega
          have HI1 : Hid (At 49 x4b gn (ns.flatMap NT.cells)) := q4
          have hlm : m' ≤ 1048576 := by rw [hm'.out]; exact HS.out.2.2.1
          have HQ3 : Hid (ec1 = ns.length) := q2
          obtain ⟨wo, hwo⟩ : ∃ x, x = wr := ⟨_, rfl⟩
          subst hwo
          clear q2 q3 q4 hG2'
          go_wp2_with fail
          go_loopw [45] (fun j wr => ∃ t : Nat, j = .int .i64 (t : Int) ∧ t ≤ m' ∧ Hid (∃ K : List NT, Till NT.nd (fun y => y.In wr.heap.size wr ∧ y.Lies (Fr N wr)) t K ns ∧ At 49 wr gn (K.flatMap NT.cells) ∧ But gn x4b wr)) (fun j _ => m' - (intOf j).toNat)
          case atStart => exact ⟨0, rfl, Nat.zero_le _, ns, Till.start ns, HI1.out, But.refl _ _⟩
          case round =>
            clear HI1 i2
            obtain ⟨t, rfl, ht, hV⟩ := hrel
            obtain ⟨K, hTk, hAK, hBK⟩ := hV.out
            obtain ⟨wz, hwzz⟩ : ∃ x, x = wr := ⟨_, rfl⟩
            subst hwzz
            by_cases hct : t < m'
            · have hwz : Below w.heap.size w wz := hBK.below HB4.out.2.1 (by have := HGn.out.1; have := hwr.size; omega) HB4.out.2.1.size
              have hAb : At 45 wz gb ((L.set i (⟨p1, pc1, vs, s, some ⟨gn, 0, none⟩, ec1, ns⟩ : BT)).flatMap BT.cells) := hBK.at HB4.out.2.2 (Ne.symm HGn.out.2.2)
              obtain ⟨z, hz⟩ : ∃ k, ns[t]? = some k := ⟨ns[t]'(by rw [← hm'.out]; exact hct), by rw [List.getElem?_eq_getElem]⟩
              have hKz : K[t]? = some z := by rw [hTk.2.2 t (Nat.le_refl _)]; exact hz
              have hzi : z.In B wz := NT.In.old (HR4.out z (List.mem_of_getElem? hz)) (fun k hk => hBK.block k (by have := hwr.size; omega) (by have := HGn.out.1; have := hwr.size; omega))
              obtain ⟨za, zc, ⟨zs, z1', z2', z3', z4'⟩⟩ := z
              have r1 : RowIr B wz za zc zs := hzi.1
              have HZ2 : Hid (zs.length ≤ 1048576 ∧ (∀ k ∈ zs, k.Ok) ∧ I64 z1' ∧ I64 z2' ∧ I64 z3' ∧ I64 z4') := ⟨r1.1, RowG.all r1, hzi.2⟩
              obtain ⟨lz, hlz⟩ : ∃ q, Hid (q = zs.length) := ⟨_, (rfl : zs.length = _)⟩
              have v0 : wz.cell? ⟨gn, t * 5, none⟩ = some (.slice za lz zc) := by have := hAK.flat (n := 5) (fun _ => rfl) hKz (j := 0) rfl; rw [hlz.out]; exact this
              have v2 : wz.cell? ⟨gb, i * 3 + 2, none⟩ = some (.slice (some ⟨gn, 0, none⟩) m' ec1) := by
                have := hAb.flat (n := 3) (fun _ => rfl) (List.getElem?_set_self hiL) (j := 2) rfl
                rw [hm'.out]; exact this
              have Q23c : Hid (∀ u, Below w.heap.size w u → Below wz.heap.size wz u → Calls Try.prog 23 #[.slice za lz zc] u fun r w' => ∃ (a' : Option Addr) (c' : Nat), r = .returned (.slice a' lz c') ∧ Below u.heap.size u w' ∧ Hid (zs = [] ∧ a' = none ∧ c' = 0 ∨ ∃ g, a' = some ⟨g, 0, none⟩ ∧ c' = zs.length ∧ u.heap.size ≤ g ∧ At 37 w' g (zs.flatMap Ir.cells))) := fun u hu hu2 => by
                rw [hlz.out]
                exact fresh23_any B zs za zc u (r1.old (Old.of_below hu2 (by have := hwz.size; omega))) (by have := hu.size; omega)
              have HK : Hid (Till NT.nd (fun y => y.In wz.heap.size wz ∧ y.Lies (Fr N wz)) t K ns ∧ At 49 wz gn (K.flatMap NT.cells) ∧ t * 5 + 1 ≤ (K.flatMap NT.cells).length) := ⟨hTk, hAK, flat_in (n := 5) (fun _ => rfl) hKz (j := 0) (by decide)⟩
              have HBK : Hid (But gn x4b wz) := hBK
              have HKz : Hid (K[t]? = some (⟨za, zc, ⟨zs, z1', z2', z3', z4'⟩⟩ : NT) ∧ ns[t]? = some (⟨za, zc, ⟨zs, z1', z2', z3', z4'⟩⟩ : NT)) := ⟨hKz, hz⟩
              clear hV hTk hAK hBK hz hKz hzi r1 hAb
              go_wp2_with fail
              have hS0c : Below wz.heap.size wz wz.drew := Below.drew (Below.refl _ _)
              refine wp_region_S (S := fun x => Below wz.heap.size wz x) (St := [16]) (by kernel_rfl) hS0c ?_
              obtain ⟨x0c, hx0⟩ : ∃ x, x = wz.drew := ⟨_, rfl⟩
              rw [← hx0] at hS0c ⊢
              clear hx0
              intro hH
              refine wpAnyS_pure (i := 0) (oi := { dst := some 48, op := .move (.tmp 4), type := _, pos := _, after := _, guard := none }) (v := .pointer (some ⟨gb, i * 3, none⟩)) rfl (by kernel_rfl) (by kernel_rfl) (by kernel_rfl) (by kernel_rfl) (fun _ _ _ h => h) (Or.inl ⟨by rfl, ?_⟩) hH (fun hH => ?_)
              · intro wS hSw
                go_simp
              simp only [Act.put, List.setIfInBounds_toArray, List.set_cons_zero, List.set_cons_succ]
              refine wpAnyS_pure (i := 1) (oi := { dst := some 49, op := .nilCheck (.tmp 48), type := _, pos := _, after := _, guard := none }) (v := .pointer (some ⟨gb, i * 3, none⟩)) rfl (by kernel_rfl) (by kernel_rfl) (by kernel_rfl) (by kernel_rfl) (fun _ _ _ h => h) (Or.inl ⟨by rfl, ?_⟩) hH (fun hH => ?_)
              · intro wS hSw
                go_simp
              simp only [Act.put, List.setIfInBounds_toArray, List.set_cons_zero, List.set_cons_succ]
              refine wpAnyS_pure (i := 2) (oi := { dst := some 50, op := .fieldAddr 45 (.tmp 49) 2, type := _, pos := _, after := _, guard := none }) (v := .pointer (some ⟨gb, i * 3 + 2, none⟩)) rfl (by kernel_rfl) (by kernel_rfl) (by kernel_rfl) (by kernel_rfl) (fun _ _ _ h => h) (Or.inl ⟨by rfl, ?_⟩) hH (fun hH => ?_)
              · intro wS hSw
                go_simp
              simp only [Act.put, List.setIfInBounds_toArray, List.set_cons_zero, List.set_cons_succ]
              refine wpAnyS_take [14, 15, 16] (i := 3) (oi := { dst := some 51, op := .load 43 (.tmp 50), type := _, pos := _, after := _, guard := none }) (v := .slice (some ⟨gn, 0, none⟩) m' ec1) rfl (by kernel_rfl) (by kernel_rfl) (by kernel_rfl) (by kernel_rfl) (by kernel_rfl) (by kernel_rfl) (by kernel_rfl) (fun _ _ _ h => h) (Or.inl ⟨by rfl, ?_⟩) hH (fun hH => ?_)
              · intro wS hSw
                have z0 := (hSw.cell (lt_of_cell v2)).trans v2
                go_simp
              simp only [Act.put, List.setIfInBounds_toArray, List.set_cons_zero, List.set_cons_succ]
              refine wpAnyS_pure (i := 4) (oi := { dst := some 52, op := .move (.tmp 5), type := _, pos := _, after := _, guard := none }) (v := .int .i64 (t : Int)) rfl (by kernel_rfl) (by kernel_rfl) (by kernel_rfl) (by kernel_rfl) (fun _ _ _ h => h) (Or.inl ⟨by rfl, ?_⟩) hH (fun hH => ?_)
              · intro wS hSw
                go_simp
              simp only [Act.put, List.setIfInBounds_toArray, List.set_cons_zero, List.set_cons_succ]
              refine wpAnyS_pure (i := 5) (oi := { dst := some 53, op := .move (.tmp 4), type := _, pos := _, after := _, guard := none }) (v := .pointer (some ⟨gb, i * 3, none⟩)) rfl (by kernel_rfl) (by kernel_rfl) (by kernel_rfl) (by kernel_rfl) (fun _ _ _ h => h) (Or.inl ⟨by rfl, ?_⟩) hH (fun hH => ?_)
              · intro wS hSw
                go_simp
              simp only [Act.put, List.setIfInBounds_toArray, List.set_cons_zero, List.set_cons_succ]
              refine wpAnyS_pure (i := 6) (oi := { dst := some 54, op := .nilCheck (.tmp 53), type := _, pos := _, after := _, guard := none }) (v := .pointer (some ⟨gb, i * 3, none⟩)) rfl (by kernel_rfl) (by kernel_rfl) (by kernel_rfl) (by kernel_rfl) (fun _ _ _ h => h) (Or.inl ⟨by rfl, ?_⟩) hH (fun hH => ?_)
              · intro wS hSw
                go_simp
              simp only [Act.put, List.setIfInBounds_toArray, List.set_cons_zero, List.set_cons_succ]
              refine wpAnyS_pure (i := 7) (oi := { dst := some 55, op := .fieldAddr 45 (.tmp 54) 2, type := _, pos := _, after := _, guard := none }) (v := .pointer (some ⟨gb, i * 3 + 2, none⟩)) rfl (by kernel_rfl) (by kernel_rfl) (by kernel_rfl) (by kernel_rfl) (fun _ _ _ h => h) (Or.inl ⟨by rfl, ?_⟩) hH (fun hH => ?_)
              · intro wS hSw
                go_simp
              simp only [Act.put, List.setIfInBounds_toArray, List.set_cons_zero, List.set_cons_succ]
              refine wpAnyS_take [10, 11, 12, 13, 14, 15, 16] (i := 8) (oi := { dst := some 56, op := .load 43 (.tmp 55), type := _, pos := _, after := _, guard := none }) (v := .slice (some ⟨gn, 0, none⟩) m' ec1) rfl (by kernel_rfl) (by kernel_rfl) (by kernel_rfl) (by kernel_rfl) (by kernel_rfl) (by kernel_rfl) (by kernel_rfl) (fun _ _ _ h => h) (Or.inl ⟨by rfl, ?_⟩) hH (fun hH => ?_)
              · intro wS hSw
                have z0 := (hSw.cell (lt_of_cell v2)).trans v2
                go_simp
              simp only [Act.put, List.setIfInBounds_toArray, List.set_cons_zero, List.set_cons_succ]
              refine wpAnyS_pure (i := 9) (oi := { dst := some 57, op := .move (.tmp 5), type := _, pos := _, after := _, guard := none }) (v := .int .i64 (t : Int)) rfl (by kernel_rfl) (by kernel_rfl) (by kernel_rfl) (by kernel_rfl) (fun _ _ _ h => h) (Or.inl ⟨by rfl, ?_⟩) hH (fun hH => ?_)
              · intro wS hSw
                go_simp
              simp only [Act.put, List.setIfInBounds_toArray, List.set_cons_zero, List.set_cons_succ]
              refine wpAnyS_pure (i := 10) (oi := { dst := some 58, op := .indexAddr 43 (.tmp 56) (.tmp 57), type := _, pos := _, after := _, guard := none }) (v := .pointer (some ⟨gn, t * 5, none⟩)) rfl (by kernel_rfl) (by kernel_rfl) (by kernel_rfl) (by kernel_rfl) (fun _ _ _ h => h) (Or.inl ⟨by rfl, ?_⟩) hH (fun hH => ?_)
              · intro wS hSw
                go_simp
              simp only [Act.put, List.setIfInBounds_toArray, List.set_cons_zero, List.set_cons_succ]
              refine wpAnyS_pure (i := 11) (oi := { dst := some 59, op := .fieldAddr 49 (.tmp 58) 0, type := _, pos := _, after := _, guard := none }) (v := .pointer (some ⟨gn, t * 5, none⟩)) rfl (by kernel_rfl) (by kernel_rfl) (by kernel_rfl) (by kernel_rfl) (fun _ _ _ h => h) (Or.inl ⟨by rfl, ?_⟩) hH (fun hH => ?_)
              · intro wS hSw
                go_simp
              simp only [Act.put, List.setIfInBounds_toArray, List.set_cons_zero, List.set_cons_succ]
              refine wpAnyS_take [13, 14, 15, 16] (i := 12) (oi := { dst := some 60, op := .load 38 (.tmp 59), type := _, pos := _, after := _, guard := none }) (v := .slice za lz zc) rfl (by kernel_rfl) (by kernel_rfl) (by kernel_rfl) (by kernel_rfl) (by kernel_rfl) (by kernel_rfl) (by kernel_rfl) (fun _ _ _ h => h) (Or.inl ⟨by rfl, ?_⟩) hH (fun hH => ?_)
              · intro wS hSw
                have z0 := (hSw.cell (lt_of_cell v0)).trans v0
                go_simp
              simp only [Act.put, List.setIfInBounds_toArray, List.set_cons_zero, List.set_cons_succ]
              refine wpAnyS_ready (rs := [13]) (by kernel_rfl) (by simp) ?_
              refine AllReadyS.cons (o := { dst := some 61, op := .call { callee := .value (.func 23), args := #[.tmp 60], argTypes := #[38] }, type := _, pos := _, after := _, guard := none }) rfl (fun K hK => ?_) AllReadyS.nil
              rw [if_pos (by rfl)]
              go_wp2_with (go_at_call 23; refine (Q23c.out _ (hwz.trans (hS0c.mono hwz.size)) hS0c).mono ?_; rintro e x1c ⟨z1, zc1, rfl, hb1c, hJ1⟩)
              have hS1c := hS0c.trans (hb1c.mono hS0c.size)
              refine hK.out _ _ (Hold.of hS1c) (fun hH => ?_)
              clear hK K
              refine wpAnyS_pure (i := 14) (oi := { dst := some 62, op := .indexAddr 43 (.tmp 51) (.tmp 52), type := _, pos := _, after := _, guard := none }) (v := .pointer (some ⟨gn, t * 5, none⟩)) rfl (by kernel_rfl) (by kernel_rfl) (by kernel_rfl) (by kernel_rfl) (fun _ _ _ h => h) (Or.inl ⟨by rfl, ?_⟩) hH (fun hH => ?_)
              · intro wS hSw
                go_simp
              simp only [Act.put, List.setIfInBounds_toArray, List.set_cons_zero, List.set_cons_succ]
              refine wpAnyS_pure (i := 15) (oi := { dst := some 63, op := .fieldAddr 49 (.tmp 62) 0, type := _, pos := _, after := _, guard := none }) (v := .pointer (some ⟨gn, t * 5, none⟩)) rfl (by kernel_rfl) (by kernel_rfl) (by kernel_rfl) (by kernel_rfl) (fun _ _ _ h => h) (Or.inl ⟨by rfl, ?_⟩) hH (fun hH => ?_)
              · intro wS hSw
                go_simp
              simp only [Act.put, List.setIfInBounds_toArray, List.set_cons_zero, List.set_cons_succ]
              refine wpAnyS_ready (rs := [16]) (by kernel_rfl) (by simp) ?_
              refine AllReadyS.cons (o := { dst := none, op := .store 38 (.tmp 63) (.tmp 61), type := _, pos := _, after := _, guard := none }) rfl (fun K hK => ?_) AllReadyS.nil
              rw [if_pos (by rfl)]
              refine wp_store_one 38 (.tmp 63) (.tmp 61) rfl gn (t * 5) (.slice z1 lz zc1) rfl rfl 49 _ (HK.out.2.1.below hS1c) (HK.out.2.2) (by kernel_rfl) rfl rfl ?_
              intro x2c hA2c hb2c hs2c
              refine hK.out _ _ (Hold.over (s := 16) (by decide) (by rfl)) (fun hH => ?_)
              clear hK K
              refine wpAnyS_done (by kernel_rfl) ?_ _
              have E1 : (K.flatMap NT.cells).set (t * 5) (.slice z1 lz zc1) = (K.set t (⟨z1, zc1, ⟨zs, z1', z2', z3', z4'⟩⟩ : NT)).flatMap NT.cells := flat_set NT.cells 5 (fun _ => rfl) K t _ _ 0 _ HKz.out.1 (by decide) (by rw [hlz.out]; rfl)
              have hbz : But gn wz x2c := (But.of_below hS1c).trans hb2c
              have lN : N ≤ wz.heap.size := by rw [hN.out]; exact HBK.out.size
              have hst : ∀ k, N ≤ k → k < wz.heap.size → x2c.heap[k]? = wz.heap[k]? := fun k h1 h2 => hbz.block k h2 (by omega)
              have gj0 := hS0c.size
              obtain ⟨f1', f2'⟩ : RowIr x2c.heap.size x2c z1 zc1 zs ∧ RowL (Fr N x2c) z1 zs := by
                refine fresh_row (E := 37) (P := Ir.Ok) (n := 4) (fun _ => rfl) ?_ (Nat.le_refl _) HZ2.out.1 HZ2.out.2.1
                rcases hJ1.out with q | ⟨g, q1, q2, q3, q4⟩
                · exact .inl q
                · exact .inr ⟨g, q1, q2, by omega, hb2c.at q4 (by omega)⟩
              have HRel : Hid (∃ K' : List NT, Till NT.nd (fun y => y.In x2c.heap.size x2c ∧ y.Lies (Fr N x2c)) (t + 1) K' ns ∧ At 49 x2c gn (K'.flatMap NT.cells) ∧ But gn x4b x2c) := by
                refine ⟨K.set t ⟨z1, zc1, ⟨zs, z1', z2', z3', z4'⟩⟩, (HK.out.1.imp fun y hy => NT.keepF hy hbz.size hst).next HKz.out.2 rfl ⟨⟨f1', HZ2.out.2.2⟩, f2'⟩, ?_, HBK.out.trans hbz⟩
                rw [E1] at hA2c
                exact hA2c
              clear E1 hbz lN hst gj0 f1' f2' hA2c hb2c hb1c hs2c hS0c hS1c hJ1 v0 v2 HK HKz HBK HZ2 Q23c
              go_wp2_with fail
              go_roundw
              case rel => exact ⟨t + 1, by go_num, by omega, HRel.out⟩
              case measure => simp [intOf]; omega
            · have hT := hTk.done (by rw [← hm'.out]; omega)
              have lK : K.length = ns.length := hTk.1
              have lMN : M ≤ N := by rw [hN.out]; omega
              have hrow : RowNT wz.heap.size wz (some ⟨gn, 0, none⟩) ec1 K := rowOfAt (cl := NT.cells) (n := 5) (t := 49) (tl := []) (fun _ => rfl) (by rw [List.append_nil]; exact hAK) hAK.lt (by rw [lK]; exact HS.out.2.2.1) ec1 (by rw [lK, HQ3.out]; exact Nat.le_refl _) (fun k hk => (hT.2 k hk).1)
              have hMg2 : M ≤ gn := by have := HGn.out.1; omega
              have HRel : Hid (∃ L' : List BT, Till BT.bd (fun y => y.In wz.heap.size wz ∧ y.Lies (Fr M wz)) (i + 1) L' bs ∧ At 45 wz gb (L'.flatMap BT.cells) ∧ But gb x4a wz) := HNext.out K wz gn hT.1 hBK HGn.out.1 HGn.out.2.1 hrow (.inr ⟨gn, 0, rfl, hMg2, 49, _, hAK⟩) (fun y hy => (hT.2 y hy).2.mono fun k hk => hk.mono lMN)
              clear hT lK lMN hrow hMg2 hV hTk hAK hBK
              go_wp2_with fail
              go_roundw
              case rel => exact ⟨i + 1, by go_num, by omega, HRel.out⟩
              case measure => simp [intOf]; omega
      · have hT := hTl.done (by rw [← hn.out]; omega)
        have lL : L.length = n := by rw [hTl.1, hn.out]
        have hX1 : At 25 wr w1.heap.size (CT.cells ⟨none, 0, [], 0, none, 0, []⟩) := hBL.at HX.out.2.1 (Ne.symm HG.out.2.2.2.1)
        have HT : Hid ((L.map BT.bd = bs.map BT.bd ∧ ∀ y ∈ L, y.In wr.heap.size wr ∧ y.Lies (Fr M wr)) ∧ At 45 wr gb (L.flatMap BT.cells) ∧ But gb x4a wr ∧ L.length = n) := ⟨hT, hAL, hBL, lL⟩
        clear hT lL hV hTl hAL hBL
        go_wp2_with (first
          | ((with_reducible show wpList _ _ _ _ _ _); refine wpList_load_at (P := Try.prog) rfl 25 (.tmp 1) rfl w.heap.size rfl 25 [.slice a1 nl c1, .int .i64 m, .slice (some ⟨gb, 0, none⟩) n f1] hA0 _ Try.underlying25 rfl i25 ?_)
          | ((with_reducible show wpList _ _ _ _ _ _); refine wpList_store_at (P := Try.prog) rfl 25 (.tmp 2) (.tmp 66) rfl w1.heap.size [.slice a1 nl c1, .int .i64 m, .slice (some ⟨gb, 0, none⟩) n f1] rfl rfl 25 _ hX1 i25 rfl (by intro v hv; simp at hv; rcases hv with rfl | rfl | rfl <;> rfl) ?_; intro w9 hA9 hb9 hs9; refine Hid.out ?_))
        refine hidU ?_
        go_wp2_with fail
        refine bodyPost_ret (results_at rfl _ _ w1.heap.size 25 [.slice a1 nl c1, .int .i64 m, .slice (some ⟨gb, 0, none⟩) n f1] _ rfl hA9 Try.underlying25 rfl i25) rfl ?_
        have l1M : w1.heap.size < M := by have := HG.out.1; omega
        have hk : ∀ y ∈ L, y.In w9.heap.size w9 ∧ y.Lies (Fr M w9) := fun y hy => BT.keepF (HT.out.1.2 y hy) hb9.size fun k h1 h2 => hb9.block k h2 (by omega)
        have hAb : At 45 w9 gb (L.flatMap BT.cells) := hb9.at HT.out.2.1 HG.out.2.2.2.1
        have hwM : w.heap.size ≤ M := by omega
        refine HEnd.out L w9 HT.out.1.1 HT.out.2.2.2 (hb9.below hwr (Nat.le_of_lt l01) hwr.size) (rowOfAt (cl := BT.cells) (n := 3) (t := 45) (tl := []) (fun _ => rfl) (by rw [List.append_nil]; exact hAb) hAb.lt (by rw [HT.out.2.2.2]; exact hl3) f1 (by rw [HT.out.2.2.2, HQ2.out, hn.out]; exact Nat.le_refl _) (fun k hk' => (hk k hk').1)) (.inr ⟨gb, 0, rfl, HG.out.2.1, 45, _, hAb⟩) (fun y hy => (hk y hy).2.mono fun k hk' => hk'.mono hwM) (fun g hg hne => ?_) hA9
        obtain ⟨n1, n2, n3⟩ := HG.out.2.2.2.2 g hg hne
        have := HT.out.2.2.1.size
        exact (hb9.block g (by omega) n2).trans (HT.out.2.2.1.block g n3 n1)
end Go.Proofs.Ytefklmckkigllaa
