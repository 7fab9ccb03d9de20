/- Joined texts of the proof. -/
import Derived.Test.YtjgggmjjikopeaaGreatDoorJ36
import Derived.Laws.Tables

/- The reader of programs: statements. -/
namespace Go.Proofs.YtjgggmjjikopeaaGreatDoor
open Go.RowKit
set_option linter.unusedVariables false

theorem wp_store_at {P : Program} {o : Oper} {a : Act} {w : World} {K : Act → World → Prop} {Q : Exit → Act → World → Prop} (ty : TypeId) (x y : Operand) (ho : o.op = .store ty x y)
    (g : Nat) (cs : List Value) (hx : a.eval x = .pointer (some ⟨g, 0, none⟩)) (hy : a.eval y = .agg cs.toArray)
    (t : TypeId) (old : List Value) (hg : At t w g old) (hi : (P.info? ty).map (·.size) = some cs.length) (hold : old.length = cs.length) (h1 : ∀ v ∈ cs, v.oneCell' = true)
    (h : ∀ w', At t w' g cs → But g w w' → w'.heap.size = w.heap.size → K (a.put o.dst undef) w') : o.wp P a w K Q := by
  refine wp_store_row ty x y ho g cs.toArray hx hy t old.toArray hg (by simpa using hi) (by simpa using hold) (by simpa using h1) ?_
  exact h _ (setRow_heap w g _ _ t _ hg) ⟨rfl, rfl, rfl, by simp, fun k _ hn => setRow_other w g k _ hn⟩ (by simp)

/-- Blocks below B stand. -/
theorem Rd.low {B A : Nat} {w w' : World} {g : Nat} {l : List Tk} (h : Rd B w g l) (hb : Below A w w') (hA : B ≤ A) : Rd B w' g l := by
  obtain ⟨gt, o, c, h, h1, h2⟩ := h
  exact ⟨gt, o, c, ⟨(hb.block g (by omega)).trans h.cell, h.ne, h.cap, fun j v hj => by rw [World.cell?_of_block (w := w) (hb.block gt (by omega))]; exact h.toks j v hj, h.ends, h.bits⟩, h1, h2⟩

set_option maxRecDepth 100000 in
set_option maxHeartbeats 6400000 in
theorem stmt_of (n : Nat) (hC : ChoiceW n) (hB : BlockW n) : StmtW (n + 1) := by
  intro l f d hln hf hd hlm B g w h hBw
  have hpos := h.pos
  obtain ⟨f, rfl⟩ : ∃ q, f = q + 1 := ⟨f - 1, by omega⟩
  have lg := h.lt
  obtain ⟨D, hD⟩ : ∃ D, Hid (D = stmtR (f + 1) d l) := ⟨_, (rfl : stmtR (f + 1) d l = _)⟩
  rw [← hD.out]
  rw [stmtR] at hD
  have HR : Hid (Rd B w g l) := h
  have HC : Hid (ChoiceW n) := hC
  have HB : Hid (BlockW n) := hB
  clear h hC hB
  by_cases c0 : (hdT l).text = [105, 102]
  · rw [if_pos c0] at hD
    have htl := tail_lt (l := l) (by rw [c0]; decide)
    have hD1 : Hid (D = choiceR f d l.tail) := hD
    have H55 : Hid (∀ u, Below w.heap.size w u → Calls Tryz.prog 55 #[.pointer (some ⟨g, 0, none⟩), .string ⟨#[105, 102]⟩] u fun r w' => r = .returned (.bool true) ∧ Rd B w' g l.tail ∧ But g u w') := fun u hu => takes_yes g l ⟨#[105, 102]⟩ (by decide) c0 u (HR.out.below hu)
    clear hD HB HR c0
    go_enter Tryz.func129, Tryz.ntmps129
    go_wp2_with (first
      | ((with_reducible show wpList _ _ _ _ _ _); refine wpList_alloc_at rfl 51 rfl (ST.cells (.mk 0 ⟨#[]⟩ (ET.mk 0 0 0 ⟨#[]⟩ none 0 []) none 0 [] none 0 [])) 9 z51 ?_; intro w1 hA4 hb1 hs1; clear hs1; refine Hid.out ?_))
    refine hidU ?_
    have l01 := hA4.lt
    have C55 := H55.out w1 hb1
    clear H55
    go_wp2_with (go_at_call 55; refine C55.mono ?_; rintro r w2 ⟨rfl, hR, hb2⟩; refine Hid.out ?_)
    refine hidU ?_
    have hA4 := hb2.at hA4 (by omega)
    have hbt : But g w w2 := (But.of_below hb1).trans hb2
    have l12 := hb2.size
    clear C55 hb1 hb2
    have CC := HC.out l.tail f d (by omega) (by omega) hd (by omega) B g w2 hR (by omega)
    clear HC hR
    have hD' := hD1.out
    generalize choiceR f d l.tail = N at CC hD'
    subst hD'
    clear hD1
    cases D with
    | bad e p =>
      go_wp2_with (go_at_call 162; refine CC.mono ?_; rintro r w3 ⟨hr, hb3⟩; unfold PanW at hr; subst hr)
      exact ⟨rfl, rfl, hbt.trans hb3⟩
    | ok s r1 =>
    go_wp2_with (go_at_call 162; refine CC.mono ?_; rintro r w3 ⟨y, rfl, hye, hyt, hR, hb3⟩; refine Hid.out ?_)
    refine hidU ?_
    have hA4 := hb3.at hA4 (by omega)
    have hbt := hbt.trans hb3
    have l23 := hb3.size
    clear CC hb3
    go_wp2_with (first
      | ((with_reducible show wpList _ _ _ _ _ _); refine wpList_store_at (P := Tryz.prog) rfl 51 (.tmp 4) (.tmp 12) rfl w.heap.size y.cells rfl rfl 51 _ hA4 (i51 _) (len51 _ _) (ST.one _) ?_; intro wE hAE hbE hsE; clear hsE))
    refine bodyPost_ret (results_at rfl _ _ w.heap.size 51 y.cells _ rfl hAE Tryz.underlying51 rfl (i51 _)) rfl ?_
    exact ⟨y, rfl, hye, (hyt.but hbE (.inl (by omega))).low (by omega), hR.but hbE hBw, hbt.fresh hbE (Nat.le_refl _)⟩
  rw [if_neg c0] at hD
  have H55 : Hid (∀ u, Below w.heap.size w u → Calls Tryz.prog 55 #[.pointer (some ⟨g, 0, none⟩), .string ⟨#[105, 102]⟩] u fun r w' => r = .returned (.bool false) ∧ Rd B w' g l ∧ But g u w') := fun u hu => takes_no g l ⟨#[105, 102]⟩ (by decide) c0 u (HR.out.below hu)
  clear HC HR c0
  go_enter Tryz.func129, Tryz.ntmps129
  go_wp2_with (first
    | ((with_reducible show wpList _ _ _ _ _ _); refine wpList_alloc_at rfl 51 rfl (ST.cells (.mk 0 ⟨#[]⟩ (ET.mk 0 0 0 ⟨#[]⟩ none 0 []) none 0 [] none 0 [])) 9 z51 ?_; intro w1 hA4 hb1 hs1; clear hs1; refine Hid.out ?_))
  refine hidU ?_
  have l01 := hA4.lt
  have C55 := H55.out w1 hb1
  clear H55
  go_wp2_with (go_at_call 55; refine C55.mono ?_; rintro r w2 ⟨rfl, hR, hb2⟩; refine Hid.out ?_)
  refine hidU ?_
  have hA4 := hb2.at hA4 (by omega)
  have hbt : But g w w2 := (But.of_below hb1).trans hb2
  have l12 := hb2.size
  clear C55 hb1 hb2
  by_cases c1 : (hdT l).text = [119, 104, 105, 108, 101]
  · rw [if_pos c1] at hD
    have htl := tail_lt (l := l) (by rw [c1]; decide)
    have C55 := takes_yes g l ⟨#[119, 104, 105, 108, 101]⟩ (by decide) c1 w2 hR
    clear hR c1
    go_wp2_with (go_at_call 55; refine C55.mono ?_; rintro r w3 ⟨rfl, hR, hb3⟩; refine Hid.out ?_)
    refine hidU ?_
    have hA4 := hb3.at hA4 (by omega)
    have hbt := hbt.trans hb3
    have l23 := hb3.size
    clear C55 hb3
    have CX := expr38_any g l.tail w3 hR (by omega)
    have hxl := exprR_left l.tail
    clear hR
    generalize exprR l.tail = N at CX hD hxl
    cases N with
    | bad e p =>
      have hD' : D = .bad e p := hD.out
      subst hD'
      go_wp2_with (go_at_call 38; refine CX.mono ?_; rintro r w4 ⟨hr, hb4⟩; unfold PanW at hr; subst hr)
      exact ⟨rfl, rfl, hbt.trans hb4⟩
    | ok e r1 =>
    have hr1 : r1.length < l.tail.length := hxl
    have hD1 : Hid (D = (blockR f d r1).bind fun b r => .ok (.mk 6 [] e b []) r) := hD
    clear hD hxl
    go_wp2_with (go_at_call 38; refine CX.mono ?_; rintro r w4 ⟨y, rfl, hye, hyt, hR, hb4⟩; refine Hid.out ?_)
    refine hidU ?_
    obtain ⟨y0, y1, y2, y3, y4, hyc⟩ : ∃ y0 y1 y2 y3 y4, y.cells = [y0, y1, y2, y3, y4] := by cases y; exact ⟨_, _, _, _, _, rfl⟩
    have hyo := ET.one y
    rw [hyc] at hyo ⊢
    have hA4 := hb4.at hA4 (by omega)
    have hbt := hbt.trans hb4
    have l34 := hb4.size
    clear CX hb4
    go_wp2_with (first
      | ((with_reducible show wpList _ _ _ _ _ _); refine wpList_alloc_at rfl 43 rfl [.int .u8 0, .int .u8 0, .int .u64 0, .string ⟨#[]⟩, .slice none 0 0] 5 z29 ?_; intro w5 hA5 hb5 hs5; clear hs5)
      | ((with_reducible show wpList _ _ _ _ _ _); refine wpList_store_at (P := Tryz.prog) rfl 43 (.tmp 5) (.tmp 17) rfl w4.heap.size [y0, y1, y2, y3, y4] rfl rfl 43 _ hA5 i29 rfl hyo ?_; intro w6 hAE hb6 hs6; clear hs6; refine Hid.out ?_))
    refine hidU ?_
    have h46 : Below w4.heap.size w4 w6 := hb6.below hb5 (Nat.le_refl _) hb5.size
    have hA4 := hA4.below h46
    have hR := hR.below h46
    have hyt := hyt.below h46
    have hbt := hbt.trans (But.of_below h46)
    have l46 := hAE.lt
    obtain ⟨gE, hgE⟩ : ∃ q, q = w4.heap.size := ⟨_, rfl⟩
    rw [← hgE] at hAE l46 ⊢
    have lgE : w.heap.size < gE := by omega
    clear hA5 hb5 hb6 h46 hgE
    go_wp2_with fail
    cases hN : blockR f d r1
    focus
      rename_i ss r2
      rw [hN] at hD1
      have hD' : D = .ok (.mk 6 [] e ss []) r2 := hD1.out
      subst hD'
      clear hD1
    rotate_left
    focus
      rename_i e p
      rw [hN] at hD1
      have hD' : D = .bad e p := hD1.out
      subst hD'
    rotate_left
    all_goals
      have hS0r : At 43 w6.drew gE [y0, y1, y2, y3, y4] := hAE.drew
      refine wp_region_held_drew (S := fun x => At 43 x gE [y0, y1, y2, y3, y4]) (by kernel_rfl) hS0r ?_
      have hB0 : Below w6.heap.size w6 w6.drew := Below.drew (Below.refl _ _)
      obtain ⟨x0r, hx0⟩ : ∃ x, x = w6.drew := ⟨_, rfl⟩
      rw [← hx0] at hS0r hB0 ⊢
      clear hx0
      intro _
      refine wpAnyH_take (i := 0) (oi := { dst := some 18, op := .load 43 (.tmp 5), type := _, pos := _, after := _, guard := none }) (v := .agg #[y0, y1, y2, y3, y4]) rfl (by kernel_rfl) (by kernel_rfl) (by kernel_rfl) (fun _ _ _ h => h) (Or.inl ⟨by rfl, ?_⟩) hS0r ?_
      · intro wS hSw
        have z0 := (ex_cells5 hSw).1
        have z1 := (ex_cells5 hSw).2.1
        have z2 := (ex_cells5 hSw).2.2.1
        have z3 := (ex_cells5 hSw).2.2.2.1
        have z4 := (ex_cells5 hSw).2.2.2.2
        go_simp
      simp only [Act.put, List.setIfInBounds_toArray, List.set_cons_zero, List.set_cons_succ]
      refine wpAnyH_take (i := 1) (oi := { dst := some 19, op := .move (.tmp 0), type := _, pos := _, after := _, guard := none }) (v := .pointer (some ⟨g, 0, none⟩)) rfl (by kernel_rfl) (by kernel_rfl) (by kernel_rfl) (fun _ _ _ h => h) (Or.inl ⟨by rfl, ?_⟩) hS0r ?_
      · intro wS hSw
        go_simp
      simp only [Act.put, List.setIfInBounds_toArray, List.set_cons_zero, List.set_cons_succ]
      refine wpAnyH_take (i := 2) (oi := { dst := some 20, op := .move (.tmp 1), type := _, pos := _, after := _, guard := none }) (v := .int .i64 (d : Int)) rfl (by kernel_rfl) (by kernel_rfl) (by kernel_rfl) (fun _ _ _ h => h) (Or.inl ⟨by rfl, ?_⟩) hS0r ?_
      · intro wS hSw
        go_simp
      simp only [Act.put, List.setIfInBounds_toArray, List.set_cons_zero, List.set_cons_succ]
      refine wpAnyH_ready (rs := [3]) (by kernel_rfl) (by simp) ?_
      refine AllReadyH.cons (o := { dst := some 21, op := .call { callee := .value (.func 163), args := #[.tmp 19, .tmp 20], argTypes := #[66, 3] }, type := _, pos := _, after := _, guard := none }) rfl (fun K hK => ?_) AllReadyH.nil
      rw [if_pos (by rfl)]
      have CB := HB.out r1 f d (by omega) (by omega) hd (by omega) B g x0r (hR.below hB0) (by have := hB0.size; omega)
      rw [hN] at CB
    · go_wp2_with (go_at_call 163; refine CB.mono ?_; rintro e' x1r ⟨a1, c1, ys, rfl, hys, hT, hR9, hb1r⟩)
      obtain ⟨n1, hn1⟩ : ∃ q, Hid (q = ys.length) := ⟨_, (rfl : ys.length = _)⟩
      rw [← hn1.out]
      have ls0 := hB0.size
      have ls1 := hb1r.size
      have hS1r := (hb1r.at hS0r (by omega))
      refine hK.out _ _ hS1r (fun _ => ?_)
      clear hK K
      refine wpAnyH_take (i := 4) (oi := { dst := some 22, op := .build 51 #[(0, .const (.int .i64 6)), (2, .tmp 18), (3, .tmp 21)], type := _, pos := _, after := _, guard := none }) (v := .agg #[.int .i64 6, .string ⟨#[]⟩, y0, y1, y2, y3, y4, .slice a1 n1 c1, .slice none 0 0]) rfl (by kernel_rfl) (by kernel_rfl) (by kernel_rfl) (fun _ _ _ h => h) (Or.inl ⟨by rfl, ?_⟩) hS1r ?_
      · intro wS hSw
        go_simp
      simp only [Act.put, List.setIfInBounds_toArray, List.set_cons_zero, List.set_cons_succ]
      refine wpAnyH_ready (rs := [5]) (by kernel_rfl) (by simp) ?_
      refine AllReadyH.cons (o := { dst := none, op := .store 51 (.tmp 4) (.tmp 22), type := _, pos := _, after := _, guard := none }) rfl (fun K hK => ?_) AllReadyH.nil
      rw [if_pos (by rfl)]
      have hcs : (ST.mk 6 ⟨#[]⟩ y a1 c1 ys none 0 []).cells = [.int .i64 6, .string ⟨#[]⟩, y0, y1, y2, y3, y4, .slice a1 n1 c1, .slice none 0 0] := by
        show (.int .i64 6 :: .string ⟨#[]⟩ :: (y.cells ++ [.slice a1 ys.length c1, .slice none 0 0]) : List Value) = _
        rw [hyc, hn1.out]; rfl
      have hA4 := (hb1r.at (hA4.below hB0) (by omega))
      refine wp_store_at 51 (.tmp 4) (.tmp 22) rfl w.heap.size [.int .i64 6, .string ⟨#[]⟩, y0, y1, y2, y3, y4, .slice a1 n1 c1, .slice none 0 0] rfl rfl 51 _ hA4 i38 rfl (by rw [← hcs]; exact ST.one _) ?_
      intro x2r hA2r hb2r hs2r
      have hS2r := (hb2r.at hS1r (by omega))
      refine hK.out _ _ hS2r (fun _ => ?_)
      clear hK K
      refine wpAnyH_done (by kernel_rfl) ?_ _
      go_wp2_with fail
      refine bodyPost_ret (results_at rfl _ _ w.heap.size 51 [.int .i64 6, .string ⟨#[]⟩, y0, y1, y2, y3, y4, .slice a1 n1 c1, .slice none 0 0] _ rfl hA2r Tryz.underlying51 rfl i38) rfl ?_
      refine ⟨ST.mk 6 ⟨#[]⟩ y a1 c1 ys none 0 [], by rw [hcs], ?_, ts_mk _ (by decide) _ ((((hyt.below hB0).but hb1r (.inl (by omega))).but hb2r (.inl (by omega))).low (by omega)) ((hT.but hb2r (.inl (by omega))).low (by omega)) (Tl.nil _ _), hR9.but hb2r hBw, ((hbt.trans (But.of_below hB0)).trans hb1r).fresh hb2r (Nat.le_refl _)⟩
      unfold ST.st
      rw [hye, ST.sts_eq, ST.sts_eq, hys]
      rfl
    · go_wp2_with (go_at_call 163; refine CB.mono ?_; rintro e' x1r ⟨hr, hb1r⟩; unfold PanW at hr; subst hr)
      exact ⟨rfl, rfl, (hbt.trans (But.of_below hB0)).trans hb1r⟩
  rw [if_neg c1] at hD
  have C55 := takes_no g l ⟨#[119, 104, 105, 108, 101]⟩ (by decide) c1 w2 hR
  clear hR c1 HB
  go_wp2_with (go_at_call 55; refine C55.mono ?_; rintro r w3 ⟨rfl, hR, hb3⟩; refine Hid.out ?_)
  refine hidU ?_
  have hA4 := hb3.at hA4 (by omega)
  have hbt := hbt.trans hb3
  have l23 := hb3.size
  clear C55 hb3
  have CS := simple_any g l w3 hR (by omega)
  clear hR
  generalize simpleR l = N at CS hD
  cases N with
  | bad e p =>
    have hD' : D = .bad e p := hD.out
    subst hD'
    go_wp2_with (go_at_call 164; refine CS.mono ?_; rintro r w4 ⟨hr, hb4⟩; unfold PanW at hr; subst hr)
    exact ⟨rfl, rfl, hbt.trans hb4⟩
  | ok s r1 =>
  have hD1 : Hid (D = (mustR [59] r1).bind fun _ r => .ok s r) := hD
  clear hD
  go_wp2_with (go_at_call 164; refine CS.mono ?_; rintro r w4 ⟨y, rfl, hye, hyt, hR, hb4⟩; refine Hid.out ?_)
  refine hidU ?_
  have hA4 := hb4.at hA4 (by omega)
  have hbt := hbt.trans hb4
  have l34 := hb4.size
  clear CS hb4
  go_wp2_with (first
    | ((with_reducible show wpList _ _ _ _ _ _); refine wpList_alloc_at (o := { dst := some 6, .. }) rfl 51 rfl (ST.cells (.mk 0 ⟨#[]⟩ (ET.mk 0 0 0 ⟨#[]⟩ none 0 []) none 0 [] none 0 [])) 9 z51 ?_; intro w5 hA5 hb5 hs5; clear hs5)
    | ((with_reducible show wpList _ _ _ _ _ _); refine wpList_store_at (P := Tryz.prog) rfl 51 (.tmp 6) (.tmp 24) rfl w4.heap.size y.cells rfl rfl 51 _ hA5 (i51 _) (len51 _ _) (ST.one _) ?_; intro w6 hA6 hb6 hs6; clear hs6; refine Hid.out ?_))
  refine hidU ?_
  have h46 : Below w4.heap.size w4 w6 := hb6.below hb5 (Nat.le_refl _) hb5.size
  have hA4 := hA4.below h46
  have hR := hR.below h46
  have hyt := hyt.below h46
  have hbt := hbt.trans (But.of_below h46)
  have l46 := hA6.lt
  clear hA5 hb5 hb6 h46
  have CM := must_any g r1 ⟨#[59]⟩ (by decide) w6 hR
  have eb : bytes ⟨#[59]⟩ = [59] := rfl
  rw [eb] at CM
  clear hR eb
  generalize mustR [59] r1 = N at CM hD1
  cases N with
  | bad e p =>
    have hD' : D = .bad e p := hD1.out
    subst hD'
    go_wp2_with (go_at_call 58; refine CM.mono ?_; rintro r w7 ⟨hr, hb7⟩; unfold PanW at hr; subst hr)
    exact ⟨rfl, rfl, hbt.trans hb7⟩
  | ok u r2 =>
  have hD' : D = .ok s r2 := hD1.out
  subst hD'
  go_wp2_with (go_at_call 58; refine CM.mono ?_; rintro r w7 ⟨rfl, hR, hb7⟩; refine Hid.out ?_)
  refine hidU ?_
  have hA4 := hb7.at hA4 (by omega)
  have hA6 := hb7.at hA6 (by omega)
  have hbt := hbt.trans hb7
  have hyt := hyt.but hb7 (.inl (by omega))
  have l67 := hb7.size
  clear CM hb7
  go_wp2_with (first
    | ((with_reducible show wpList _ _ _ _ _ _); refine wpList_load_at (P := Tryz.prog) rfl 51 (.tmp 6) rfl w4.heap.size rfl 51 y.cells hA6 _ Tryz.underlying51 rfl (i51 _) ?_)
    | ((with_reducible show wpList _ _ _ _ _ _); refine wpList_store_at (P := Tryz.prog) rfl 51 (.tmp 4) (.tmp 27) rfl w.heap.size y.cells rfl rfl 51 _ hA4 (i51 _) (len51 _ _) (ST.one _) ?_; intro wE hAE hbE hsE; clear hsE))
  refine bodyPost_ret (results_at rfl _ _ w.heap.size 51 y.cells _ rfl hAE Tryz.underlying51 rfl (i51 _)) rfl ?_
  exact ⟨y, rfl, hye, (hyt.but hbE (.inl (by omega))).low (by omega), hR.but hbE hBw, hbt.fresh hbE (Nat.le_refl _)⟩

set_option maxRecDepth 100000 in
set_option maxHeartbeats 6400000 in
theorem stmts_of (n : Nat) (hS : StmtW n) : StmtsW n := by
  intro l f d hln hf hd hlm B g w h hBw
  have lg := h.lt
  obtain ⟨D, hD⟩ : ∃ D, Hid (D = stmtsR f d l) := ⟨_, (rfl : stmtsR f d l = _)⟩
  rw [← hD.out]
  have HS : Hid (StmtW n) := hS
  have HI : Hid (∃ (l' : List Tk) (f' : Nat) (ys : List ST), ys.length = 0 ∧ Gr eS w.heap.size w (.slice none 0 0) ys ∧ Rd B w g l' ∧ But g w w ∧ 0 + l'.length ≤ l.length ∧ 4 * l'.length + 4 ≤ f' ∧ D = (stmtsR f' d l').bind fun ss r => .ok (ys.map ST.st ++ ss) r) := by
    refine ⟨l, f, [], rfl, Gr.nil (Nat.le_refl _), h, But.refl _ _, by omega, hf, ?_⟩
    rw [hD.out]
    cases stmtsR f d l <;> rfl
  clear h hS hD hf
  go_enter Tryz.func96, Tryz.ntmps96
  go_wp2_with fail
  go_loopw [5] (fun v wr => ∃ (aV : Option Addr) (k cV : Nat), v = .slice aV k cV ∧ Hid (∃ (l' : List Tk) (f' : Nat) (ys : List ST), ys.length = k ∧ Gr eS w.heap.size wr (.slice aV k cV) ys ∧ Rd B wr g l' ∧ But g w wr ∧ k + l'.length ≤ l.length ∧ 4 * l'.length + 4 ≤ f' ∧ D = (stmtsR f' d l').bind fun ss r => .ok (ys.map ST.st ++ ss) r)) (fun _ wr => tokLen wr g)
  case atStart => exact ⟨none, 0, 0, rfl, HI.out⟩
  case round =>
    obtain ⟨aV, k, cV, rfl, hX⟩ := hrel
    clear HI
    obtain ⟨l', f', ys, hyl, hG, hR, hbt, hkl, hf', hD⟩ := hX.out
    clear hX
    have hpos := hR.pos
    obtain ⟨f', rfl⟩ : ∃ q, f' = q + 1 := ⟨f' - 1, by omega⟩
    have HD : Hid (D = (stmtsR (f' + 1) d l').bind fun ss r => .ok (ys.map ST.st ++ ss) r) := hD
    clear hD
    rw [stmtsR] at HD
    have htk := hR.len
    have lr := hbt.size
    by_cases c0 : (hdT l').text = [125]
    · rw [if_pos c0] at HD
      have hD' : D = .ok (ys.map ST.st ++ []) l'.tail := HD.out
      rw [List.append_nil] at hD'
      subst hD'
      have C55 := takes_yes g l' ⟨#[125]⟩ (by decide) c0 wr hR
      clear hR c0 HD HS htk
      go_wp2_with (go_at_call 55; refine C55.mono ?_; rintro r w2 ⟨rfl, hR, hb2⟩; refine Hid.out ?_)
      refine hidU ?_
      have hG := hG.but hb2 lg
      have hbt := hbt.trans hb2
      clear C55 hb2
      go_wp2_with fail
      go_ret
      refine ⟨aV, cV, ys, by rw [hyl]; rfl, rfl, hG.stmts (by omega), hR, hbt⟩
    · rw [if_neg c0] at HD
      have C55 := takes_no g l' ⟨#[125]⟩ (by decide) c0 wr hR
      clear hR c0
      go_wp2_with (go_at_call 55; refine C55.mono ?_; rintro r w2 ⟨rfl, hR, hb2⟩; refine Hid.out ?_)
      refine hidU ?_
      have hG := hG.but hb2 lg
      have hbt := hbt.trans hb2
      have l2 := hb2.size
      clear C55 hb2
      have CS := HS.out l' f' d (by omega) (by omega) hd (by omega) B g w2 hR (by omega)
      have hsl := (stmt_left f' d l').1
      clear hR
      generalize stmtR f' d l' = N at CS HD hsl
      cases N with
      | bad e p =>
        have hD' : D = .bad e p := HD.out
        subst hD'
        clear hG HS
        go_wp2_with (go_at_call 129; refine CS.mono ?_; rintro r w3 ⟨hr, hb3⟩; unfold PanW at hr; subst hr)
        exact ⟨rfl, rfl, hbt.trans hb3⟩
      | ok s r1 =>
      have hr1 : r1.length < l'.length := hsl
      have hD' : D = ((stmtsR f' d r1).bind fun ss r => .ok (s :: ss) r).bind fun ss r => .ok (ys.map ST.st ++ ss) r := HD.out
      rw [Rs.bind_bind] at hD'
      clear HD hsl
      go_wp2_with (go_at_call 129; refine CS.mono ?_; rintro r w3 ⟨y, rfl, hye, hyt, hR, hb3⟩; refine Hid.out ?_)
      refine hidU ?_
      have hyo : eS.Lies (fun q => w.heap.size ≤ q ∧ some q ≠ (Value.slice aV k cV).ownBlock) y := Gr.fresh hG hyt.2
      have hG := hG.but hb3 lg
      have hbt := hbt.trans hb3
      have l3 := hb3.size
      have HV : Hid (ys.length = k ∧ Gr eS w.heap.size w3 (.slice aV k cV) ys ∧ eS.In w3.heap.size w3 y ∧ eS.Lies (fun q => w.heap.size ≤ q ∧ some q ≠ (Value.slice aV k cV).ownBlock) y ∧ y.st = s ∧ D = (stmtsR f' d r1).bind fun ss r => (Rs.ok (s :: ss) r).bind fun ss r => .ok (ys.map ST.st ++ ss) r) := ⟨hyl, hG, hyt.1, hyo, hye, hD'⟩
      clear CS hb3 hG hyt hyo hye hyl hD'
      go_wp2_with (first
        | ((with_reducible show wpList _ _ _ _ _ _); refine wpList_layS rfl (.tmp 12) rfl y.cells rfl (ST.cells_len y) ?_; intro w4 hA4 hb4; refine Hid.out ?_))
      refine hidU ?_
      have HV4 : Hid (Gr eS w.heap.size w4 (.slice aV k cV) ys ∧ eS.In w4.heap.size w4 y) := ⟨HV.out.2.1.below hb4, ST.Sn.up hb4.size (ST.Sn.old (Old.of_below hb4 (Nat.le_refl _)) HV.out.2.2.1)⟩
      have hR := hR.below hb4
      have hbt := hbt.trans (But.of_below hb4)
      have l4 := hb4.size
      have HA4 : Hid (At 51 w4 w3.heap.size y.cells) := hA4
      clear hb4 hA4
      go_wp2_with (first
        | ((with_reducible show wpList _ _ _ _ _ _); refine wpList_grow (e := eS) (A := w.heap.size) (ys := ys) rfl (.tmp 9) (.tmp 13) 49 _ 136 rfl Tryz.underlying49 f51 rfl (by decide) rfl w3.heap.size rfl HV4.out.1 y HA4.out HV4.out.2 HV.out.2.2.2.1 k HV.out.1 (by omega) (by decide) ?_; intro gW cW w5 hG5 hb5; refine Hid.out ?_))
      refine hidU ?_
      have hR5 : Rd B w5 g r1 := hR.low hb5 hBw
      have HRel : Hid (∃ (l' : List Tk) (f' : Nat) (ys : List ST), ys.length = k + 1 ∧ Gr eS w.heap.size w5 (.slice (some ⟨gW, 0, none⟩) (k + 1) cW) ys ∧ Rd B w5 g l' ∧ But g w w5 ∧ k + 1 + l'.length ≤ l.length ∧ 4 * l'.length + 4 ≤ f' ∧ D = (stmtsR f' d l').bind fun ss r => .ok (ys.map ST.st ++ ss) r) := by
        refine ⟨r1, f', ys ++ [y], by rw [List.length_append, HV.out.1]; rfl, hG5, hR5, ?_, by omega, by omega, ?_⟩
        · exact ⟨hb5.os.trans hbt.os, hb5.tape.trans hbt.tape, hb5.output.trans hbt.output, Nat.le_trans hbt.size hb5.size, fun q hq hne => (hb5.block q hq).trans (hbt.block q hq hne)⟩
        · have e := HV.out.2.2.2.2.2
          rw [e]
          congr 1
          funext ss r
          show Rs.ok (ys.map ST.st ++ s :: ss) r = _
          rw [List.map_append, List.append_assoc, ← HV.out.2.2.2.2.1]
          rfl
      have hm : tokLen w5 g < tokLen wr g := by rw [hR5.len, htk]; exact hr1
      clear hG5 hb5 hR hR5 HV HV4 HA4 HS htk
      go_wp2_with fail
      go_roundw
      case rel => exact ⟨some ⟨gW, 0, none⟩, k + 1, cW, rfl, HRel.out⟩
      case measure => exact hm

theorem allW : ∀ n, StmtsW n ∧ BlockW n
  | 0 => ⟨fun l f d h _ _ _ B g w hR => by have := hR.pos; omega, fun l f d h _ _ _ B g w hR => by have := hR.pos; omega⟩
  | n + 1 => ⟨stmts_of (n + 1) (stmt_of n (choice_of n (allW n).2) (allW n).2), block_of n (allW n).1⟩
theorem stmts96_any (l : List Tk) (f d : Nat) (hf : 4 * l.length + 4 ≤ f) (hd : d ≤ 32) (hl : l.length ≤ 1048576) (B g : Nat) (w : World) (h : Rd B w g l) (hBw : B ≤ w.heap.size) :
    Calls Tryz.prog 96 #[.pointer (some ⟨g, 0, none⟩), .int .i64 (d : Int)] w (PostL B g w (stmtsR f d l)) := (allW l.length).1 l f d (Nat.le_refl _) hf hd hl B g w h hBw
end Go.Proofs.YtjgggmjjikopeaaGreatDoor

/- The reader of programs: threads. -/
namespace Go.Proofs.YtjgggmjjikopeaaGreatDoor
open Go.RowKit
set_option linter.unusedVariables false

theorem wp_store_one {P : Program} {o : Oper} {a : Act} {w : World} {K : Act → World → Prop} {Q : Exit → Act → World → Prop} (ty : TypeId) (x y : Operand) (ho : o.op = .store ty x y)
    (g off : Nat) (v : Value) (hx : a.eval x = .pointer (some ⟨g, off, none⟩)) (hy : a.eval y = v)
    (t : TypeId) (old : List Value) (hg : At t w g old) (hold : off + 1 ≤ old.length) (hi : (P.info? ty).map (·.size) = some 1) (hc : v.cells = #[v]) (h1 : v.oneCell' = true)
    (h : ∀ w', At t w' g (old.set off v) → But g w w' → w'.heap.size = w.heap.size → K (a.put o.dst undef) w') : o.wp P a w K Q := by
  have := h _ (hg.set off v) ((But.refl g w).setCell off v) (by simp)
  unfold Oper.wp execOp
  simp only [ho, hx, hy, Instr.storeAt, Instr.sureAddr, Sem.run_bind, Sem.run_pure, Result.andThen_ok, run_storeVar_cell w g off ty v (hg.there off 1 hold) hi hc h1]
  exact this
theorem c3_cells {t : TypeId} {w : World} {g : Nat} {a b c : Value} (h : At t w g [a, b, c]) : w.cell? ⟨g, 0, none⟩ = some a ∧ w.cell? ⟨g, 1, none⟩ = some b ∧ w.cell? ⟨g, 2, none⟩ = some c := ⟨by rw [h.cell]; rfl, by rw [h.cell]; rfl, by rw [h.cell]; rfl⟩
/-- A row of variables in a block that may be written. -/
def RowVn (B : Nat) (w : World) (a : Option Addr) (c : Nat) (vs : List VT) : Prop := RowV B w a c vs ∧ (vs = [] ∨ ∃ g o, a = some ⟨g, o, none⟩ ∧ Soft w g)
/-- A row of variables that lies in blocks from A on. -/
def Tv (A : Nat) (w : World) (a : Option Addr) (c : Nat) (vs : List VT) : Prop := RowVn w.heap.size w a c vs ∧ (vs = [] ∨ ∃ g o, a = some ⟨g, o, none⟩ ∧ A ≤ g)
theorem Tv.but {A k : Nat} {w w' : World} {a : Option Addr} {c : Nat} {vs : List VT} (h : Tv A w a c vs) (hb : But k w w') (hk : k < A ∨ w.heap.size ≤ k) : Tv A w' a c vs := by
  obtain ⟨⟨⟨h1, h2, h3⟩, h6⟩, h4⟩ := h
  have hq : vs = [] ∨ ∃ g o, a = some ⟨g, o, none⟩ ∧ Soft w' g := by
    rcases h3 with h3 | ⟨g, o, ha, hg, hr⟩
    · exact .inl h3
    · rcases at_and h4 h6 with q | ⟨g', o', ha', hg'⟩
      · exact .inl q
      · rw [ha] at ha'
        cases ha'
        exact .inr ⟨g, o, ha, hg'.2.keep (hb.block g hg (by have := hg'.1; omega))⟩
  refine ⟨⟨⟨h1, h2, ?_⟩, hq⟩, h4⟩
  rcases h3 with h3 | ⟨g, o, ha, hg, hr⟩
  · exact .inl h3
  · rcases h4 with h4 | ⟨g', o', ha', hg'⟩
    · exact .inl h4
    · rw [ha] at ha'
      cases ha'
      refine .inr ⟨g, o, ha, Nat.lt_of_lt_of_le hg hb.size, fun i v hv => ⟨fun j u hj => ?_, (hr i v hv).2⟩⟩
      rw [World.cell?_of_block (w := w) (hb.block g hg (by omega))]
      exact (hr i v hv).1 j u hj
theorem Tv.low {A A' : Nat} {w : World} {a : Option Addr} {c : Nat} {vs : List VT} (h : Tv A w a c vs) (hA : A' ≤ A) : Tv A' w a c vs := by
  refine ⟨h.1, ?_⟩
  rcases h.2 with q | ⟨g, o, ha, hg⟩
  · exact .inl q
  · exact .inr ⟨g, o, ha, by omega⟩
theorem Gr.vars {A : Nat} {w : World} {a : Option Addr} {n c : Nat} {ys : List VT} (h : Gr eV A w (.slice a n c) ys) (hl : ys.length ≤ 1048576) : Tv A w a c ys := by
  obtain ⟨h1, h2⟩ := h.cell
  rcases h2 with rfl | ⟨g, rfl, hg, hlt, hr, cs, hs, -⟩
  · exact ⟨⟨⟨by simp, Nat.zero_le _, .inl rfl⟩, .inl rfl⟩, .inl rfl⟩
  · refine ⟨⟨⟨hl, h1, .inr ⟨g, 0, rfl, hlt, fun i v hv => ⟨fun j u hj => ?_, h.ins v (List.mem_of_getElem? hv)⟩⟩⟩, .inr ⟨g, 0, rfl, 48, cs, hs, by decide⟩⟩, .inr ⟨g, 0, rfl, hg⟩⟩
    have := hr _ u (flat_cells_at VT.cells 3 (fun _ => rfl) ys i v hv j u hj)
    rwa [show 0 + (i * 3 + j) = 0 + i * 3 + j by omega] at this
/-- A thread that lies whole in blocks from A on. -/
def Tt (A : Nat) (w : World) (y : TT) : Prop := Tv A w y.a1 y.c1 y.locals ∧ Tl A w y.a2 y.c2 y.body
theorem Tt.but {A k : Nat} {w w' : World} {y : TT} (h : Tt A w y) (hb : But k w w') (hk : k < A ∨ w.heap.size ≤ k) : Tt A w' y := ⟨h.1.but hb hk, h.2.but hb hk⟩
theorem Tt.low {A A' : Nat} {w : World} {y : TT} (h : Tt A w y) (hA : A' ≤ A) : Tt A' w y := ⟨h.1.low hA, h.2.low hA⟩
/-- What the reader of a thread tells. -/
def PostTh (B g : Nat) (w : World) (R : Rs Th) (r : Ending) (w' : World) : Prop :=
  match R with
  | .ok t l => ∃ y : TT, r = .returned (.agg y.cells.toArray) ∧ y.th = t ∧ Tt w.heap.size w' y ∧ Rd B w' g l ∧ But g w w'
  | .bad e p => r = PanW e p ∧ But g w w'

set_option maxRecDepth 100000 in
set_option maxHeartbeats 12800000 in
theorem thread_any {B : Nat} (g : Nat) (l : List Tk) (w : World) (h : Rd B w g l) (hBw : B ≤ w.heap.size) (hlm : l.length ≤ 1048576) : Calls Tryz.prog 59 #[.pointer (some ⟨g, 0, none⟩)] w (PostTh B g w (threadR l)) := by
  have lg := h.lt
  have H57 : Hid (∀ u, Below w.heap.size w u → Calls Tryz.prog 57 #[.pointer (some ⟨g, 0, none⟩)] u (PostN B g u (nameR l))) := fun u hu => readName_any g l u (h.below hu)
  have hnl := nameR_left l
  clear h
  obtain ⟨D, hD⟩ : ∃ D, Hid (D = threadR l) := ⟨_, (rfl : threadR l = _)⟩
  rw [← hD.out]
  unfold threadR at hD
  generalize nameR l = N at H57 hD hnl
  go_enter Tryz.func59, Tryz.ntmps59
  go_wp2_with (first
    | ((with_reducible show wpList _ _ _ _ _ _); refine wpList_alloc_at (o := { dst := some 2, .. }) rfl 53 rfl [.string ⟨#[]⟩, .slice none 0 0, .slice none 0 0] 3 z42 ?_; intro w1 hA2 hb1 hs1; clear hs1; refine Hid.out ?_))
  refine hidU ?_
  have l01 := hA2.lt
  have C57 := H57.out w1 hb1
  clear H57
  cases N with
  | bad e p =>
    have hD' : D = .bad e p := hD.out
    subst hD'
    go_wp2_with (go_at_call 57; refine C57.mono ?_; rintro r w2 ⟨hr, hb2⟩; unfold PanW at hr; subst hr)
    exact ⟨rfl, rfl, (But.of_below hb1).trans hb2⟩
  | ok x r1 =>
  have hr1 : r1.length < l.length := hnl
  have hD1 : Hid (D = (mustR [123] r1).bind fun _ r => (localsR (r.length + 1) r).bind fun vs r => (stmtsR (4 * r.length + 4) 0 r).bind fun b r => .ok ⟨x, vs, b⟩ r) := hD
  clear hD hnl
  go_wp2_with (first
    | (go_at_call 57; refine C57.mono ?_; rintro r w2 ⟨rfl, hR, hb2⟩)
    | ((with_reducible show wpList _ _ _ _ _ _); refine wpList_build_at rfl 53 _ rfl [.string ⟨x.toArray⟩, .slice none 0 0, .slice none 0 0] (by kernel_rfl) ?_)
    | ((with_reducible show wpList _ _ _ _ _ _); refine wpList_alloc_at (o := { dst := some 3, .. }) rfl 53 rfl [.string ⟨#[]⟩, .slice none 0 0, .slice none 0 0] 3 z42 ?_; intro w3 hA3 hb3 hs3; clear hs3)
    | ((with_reducible show wpList _ _ _ _ _ _); refine wpList_store_at (P := Tryz.prog) rfl 53 (.tmp 3) (.tmp 6) rfl w2.heap.size [.string ⟨x.toArray⟩, .slice none 0 0, .slice none 0 0] rfl rfl 53 _ hA3 i42 rfl (by intro v hv; simp at hv; rcases hv with rfl | rfl | rfl <;> rfl) ?_; intro w4 hA3 hb4 hs4; clear hs4; refine Hid.out ?_))
  refine hidU ?_
  have h24 : Below w2.heap.size w2 w4 := hb4.below hb3 (Nat.le_refl _) hb3.size
  have l12 := hb2.size
  have l24 := hA3.lt
  have hA2 := (hb2.at hA2 (by omega)).below h24
  have hR := hR.below h24
  have hbt : But g w w4 := ((But.of_below hb1).trans hb2).trans (But.of_below h24)
  obtain ⟨g3, hg3⟩ : ∃ q, q = w2.heap.size := ⟨_, rfl⟩
  rw [← hg3] at hA3 l24 ⊢
  have lg3 : w.heap.size < g3 := by omega
  clear C57 hb1 hb2 hb3 hb4 h24 hg3 l12
  have CM := must_any g r1 ⟨#[123]⟩ (by decide) w4 hR
  have eb : bytes ⟨#[123]⟩ = [123] := rfl
  rw [eb] at CM
  have hml := mustR_left (x := [123]) (l := r1) (by decide)
  clear hR eb
  generalize mustR [123] r1 = N at CM hD1 hml
  cases N with
  | bad e p =>
    have hD' : D = .bad e p := hD1.out
    subst hD'
    go_wp2_with (go_at_call 58; refine CM.mono ?_; rintro r w5 ⟨hr, hb5⟩; unfold PanW at hr; subst hr)
    exact ⟨rfl, rfl, hbt.trans hb5⟩
  | ok u r2 =>
  have hr2 : r2.length < r1.length := hml
  have hD2 : Hid (D = (localsR (r2.length + 1) r2).bind fun vs r => (stmtsR (4 * r.length + 4) 0 r).bind fun b r => .ok ⟨x, vs, b⟩ r) := hD1
  clear hD1 hml
  go_wp2_with (go_at_call 58; refine CM.mono ?_; rintro r w5 ⟨rfl, hR, hb5⟩; refine Hid.out ?_)
  refine hidU ?_
  have hA2 := hb5.at hA2 (by omega)
  have hA3 := hb5.at hA3 (by omega)
  have hbt := hbt.trans hb5
  have l45 := hb5.size
  obtain ⟨M, hM⟩ : ∃ q, q = w5.heap.size := ⟨_, rfl⟩
  have hg3M : g3 < M := by omega
  have HI : Hid (∃ (l' : List Tk) (f' : Nat) (aV : Option Addr) (k cV : Nat) (vs : List VT), vs.length = k ∧ At 53 w5 g3 [.string ⟨x.toArray⟩, .slice aV k cV, .slice none 0 0] ∧ At 53 w5 w.heap.size [.string ⟨#[]⟩, .slice none 0 0, .slice none 0 0] ∧ Gr eV M w5 (.slice aV k cV) vs ∧ Rd B w5 g l' ∧ But g w w5 ∧ k + l'.length ≤ l.length ∧ l'.length + 1 ≤ f' ∧ M ≤ w5.heap.size ∧ D = ((localsR f' l').bind fun ss r => .ok (vs.map VT.vr ++ ss) r).bind fun vs r => (stmtsR (4 * r.length + 4) 0 r).bind fun b r => .ok ⟨x, vs, b⟩ r) := by
    refine ⟨r2, r2.length + 1, none, 0, 0, [], rfl, hA3, hA2, Gr.nil (by omega), hR, hbt, by omega, by omega, by omega, ?_⟩
    rw [hD2.out]
    cases localsR (r2.length + 1) r2 <;> rfl
  clear CM hb5 hA2 hA3 hR hbt hD2 hM
  go_wp2_with fail
  go_loopw [10] (fun _ wr => Hid (∃ (l' : List Tk) (f' : Nat) (aV : Option Addr) (k cV : Nat) (vs : List VT), vs.length = k ∧ At 53 wr g3 [.string ⟨x.toArray⟩, .slice aV k cV, .slice none 0 0] ∧ At 53 wr w.heap.size [.string ⟨#[]⟩, .slice none 0 0, .slice none 0 0] ∧ Gr eV M wr (.slice aV k cV) vs ∧ Rd B wr g l' ∧ But g w wr ∧ k + l'.length ≤ l.length ∧ l'.length + 1 ≤ f' ∧ M ≤ wr.heap.size ∧ D = ((localsR f' l').bind fun ss r => .ok (vs.map VT.vr ++ ss) r).bind fun vs r => (stmtsR (4 * r.length + 4) 0 r).bind fun b r => .ok ⟨x, vs, b⟩ r)) (fun _ wr => tokLen wr g)
  case atStart => exact HI
  case round =>
    clear HI
    obtain ⟨l', f', aV, k, cV, vs, hyl, hA3, hA2, hG, hR, hbt, hkl, hf', lM, hD⟩ := hrel.out
    clear hrel
    obtain ⟨f', rfl⟩ : ∃ q, f' = q + 1 := ⟨f' - 1, by omega⟩
    have HD : Hid (D = ((localsR (f' + 1) l').bind fun ss r => .ok (vs.map VT.vr ++ ss) r).bind fun vs r => (stmtsR (4 * r.length + 4) 0 r).bind fun b r => .ok ⟨x, vs, b⟩ r) := hD
    rw [localsR] at HD
    clear hD
    have htk := hR.len
    by_cases c0 : (hdT l').text = [108, 111, 99, 97, 108]
    focus
      rw [if_pos c0] at HD
      have htl := tail_lt (l := l') (by rw [c0]; decide)
      have C55 := takes_yes g l' ⟨#[108, 111, 99, 97, 108]⟩ (by decide) c0 wr hR
      clear hR c0
    rotate_left
    focus
      rw [if_neg c0] at HD
      have hD' : D = (stmtsR (4 * l'.length + 4) 0 l').bind fun b r => .ok ⟨x, vs.map VT.vr ++ [], b⟩ r := HD.out
      rw [List.append_nil] at hD'
      have C55 := takes_no g l' ⟨#[108, 111, 99, 97, 108]⟩ (by decide) c0 wr hR
      clear hR c0 HD htk
    rotate_left
    all_goals
      go_wp2_with (go_at_call 55; refine C55.mono ?_; rintro r w2 ⟨rfl, hR, hb2⟩; refine Hid.out ?_)
      refine hidU ?_
      have hA2 := hb2.at hA2 (by omega)
      have hA3 := hb2.at hA3 (by omega)
      have hG := hG.but hb2 (by omega)
      have hbt := hbt.trans hb2
      have l2 := hb2.size
      clear C55 hb2
    · go_wp2_with fail
      cases hN : variableR l'.tail
      focus
        rename_i v r3
        have hvl' := variableR_left l'.tail
        rw [hN] at hvl'
        have hr3 : r3.length < l'.tail.length := hvl'
        rw [hN] at HD
        have hD' : D = (((localsR f' r3).bind fun ss r => .ok (v :: ss) r).bind fun ss r => .ok (vs.map VT.vr ++ ss) r).bind fun vs r => (stmtsR (4 * r.length + 4) 0 r).bind fun b r => .ok ⟨x, vs, b⟩ r := HD.out
        rw [Rs.bind_bind (localsR f' r3)] at hD'
        clear HD hvl'
      rotate_left
      focus
        rename_i e p
        rw [hN] at HD
        have hD' : D = .bad e p := HD.out
        subst hD'
      rotate_left
      all_goals
        have hS0r : At 53 w2.drew g3 [.string ⟨x.toArray⟩, .slice aV k cV, .slice none 0 0] := hA3.drew
        refine wp_region_S (S := fun xS => At 53 xS g3 [.string ⟨x.toArray⟩, .slice aV k cV, .slice none 0 0]) (St := [7]) (by kernel_rfl) hS0r ?_
        have hB0 : Below w2.heap.size w2 w2.drew := Below.drew (Below.refl _ _)
        obtain ⟨x0r, hx0⟩ : ∃ x, x = w2.drew := ⟨_, rfl⟩
        rw [← hx0] at hS0r hB0 ⊢
        clear hx0
        intro hH
        refine wpAnyS_pure (i := 0) (oi := { dst := some 11, op := .fieldAddr 53 (.tmp 3) 1, type := _, pos := _, after := _, guard := none }) (v := .pointer (some ⟨g3, 1, none⟩)) rfl (by kernel_rfl) (by kernel_rfl) (by kernel_rfl) (by kernel_rfl) (fun _ _ _ h => h) (Or.inl ⟨by rfl, ?_⟩) hH (fun hH => ?_)
        · intro wS hSw
          go_simp
        simp only [Act.put, List.setIfInBounds_toArray, List.set_cons_zero, List.set_cons_succ]
        refine wpAnyS_take [5, 6, 7] (i := 1) (oi := { dst := some 12, op := .load 22 (.tmp 11), type := _, pos := _, after := _, guard := none }) (v := .slice aV k cV) rfl (by kernel_rfl) (by kernel_rfl) (by kernel_rfl) (by kernel_rfl) (by kernel_rfl) (by kernel_rfl) (by kernel_rfl) (fun _ _ _ h => h) (Or.inl ⟨by rfl, ?_⟩) hH (fun hH => ?_)
        · intro wS hSw
          have z0 := (c3_cells hSw).2.1
          go_simp
        simp only [Act.put, List.setIfInBounds_toArray, List.set_cons_zero, List.set_cons_succ]
        refine wpAnyS_pure (i := 2) (oi := { dst := some 13, op := .move (.tmp 0), type := _, pos := _, after := _, guard := none }) (v := .pointer (some ⟨g, 0, none⟩)) rfl (by kernel_rfl) (by kernel_rfl) (by kernel_rfl) (by kernel_rfl) (fun _ _ _ h => h) (Or.inl ⟨by rfl, ?_⟩) hH (fun hH => ?_)
        · intro wS hSw
          go_simp
        simp only [Act.put, List.setIfInBounds_toArray, List.set_cons_zero, List.set_cons_succ]
        refine wpAnyS_ready (rs := [3]) (by kernel_rfl) (by simp) ?_
        refine AllReadyS.cons (o := { dst := some 14, op := .call { callee := .value (.func 56), args := #[.tmp 13], argTypes := #[66] }, type := _, pos := _, after := _, guard := none }) rfl (fun K hK => ?_) AllReadyS.nil
        rw [if_pos (by rfl)]
        have CV := variable_any g l'.tail x0r (hR.below hB0) (by have := hB0.size; omega)
        rw [hN] at CV
      · go_wp2_with (go_at_call 56; refine CV.mono ?_; rintro e' x1r ⟨rfl, hvl, hR1, hb1r⟩)
        have ls0 := hB0.size
        have ls1 := hb1r.size
        have hS1r := (hb1r.at hS0r (by omega))
        refine hK.out _ _ (Hold.of hS1r) (fun hH => ?_)
        clear hK K
        refine wpAnyS_ready (rs := [4]) (by kernel_rfl) (by simp) ?_
        refine AllReadyS.cons (o := { dst := some 15, op := .buildSlice 22 1 #[(0, .tmp 14)], type := _, pos := _, after := _, guard := none }) rfl (fun K hK => ?_) AllReadyS.nil
        rw [if_pos (by rfl)]
        refine wp_layV (.tmp 14) rfl (VT.cells ⟨⟨v.nm.toArray⟩, v.t, v.b⟩) rfl rfl ?_
        intro x2r hA2r hb2r
        have ls2 := hb2r.size
        have hS2r := (hS1r.below hb2r)
        refine hK.out _ _ (Hold.of hS2r) (fun hH => ?_)
        clear hK K
        refine wpAnyS_ready (rs := [5]) (by kernel_rfl) (by simp) ?_
        refine AllReadyS.cons (o := { dst := some 16, op := .call { callee := .builtin .append, args := #[.tmp 12, .tmp 15], argTypes := #[22, 22] }, type := _, pos := _, after := _, guard := none }) rfl (fun K hK => ?_) AllReadyS.nil
        rw [if_pos (by rfl)]
        have hGx : Gr eV M x2r (.slice aV k cV) vs := (((hG.below hB0).but hb1r (by omega)).below hb2r)
        refine wp_grow (e := eV) (A := M) (ys := vs) (.tmp 12) (.tmp 15) 22 _ 32 rfl Tryz.underlying22 f48 rfl (by decide) rfl x1r.heap.size rfl hGx (⟨⟨v.nm.toArray⟩, v.t, v.b⟩ : VT) hA2r hvl trivial k hyl (by omega) (by decide) ?_
        intro gW cW x3r hG3r hb3r
        have ls3 := hb3r.size
        have hS3r := (hS2r.belowA hb3r hg3M)
        refine hK.out _ _ (Hold.of hS3r) (fun hH => ?_)
        clear hK K
        refine wpAnyS_pure (i := 6) (oi := { dst := some 17, op := .fieldAddr 53 (.tmp 3) 1, type := _, pos := _, after := _, guard := none }) (v := .pointer (some ⟨g3, 1, none⟩)) rfl (by kernel_rfl) (by kernel_rfl) (by kernel_rfl) (by kernel_rfl) (fun _ _ _ h => h) (Or.inl ⟨by rfl, ?_⟩) hH (fun hH => ?_)
        · intro wS hSw
          go_simp
        simp only [Act.put, List.setIfInBounds_toArray, List.set_cons_zero, List.set_cons_succ]
        refine wpAnyS_ready (rs := [7]) (by kernel_rfl) (by simp) ?_
        refine AllReadyS.cons (o := { dst := none, op := .store 22 (.tmp 17) (.tmp 16), type := _, pos := _, after := _, guard := none }) rfl (fun K hK => ?_) AllReadyS.nil
        rw [if_pos (by rfl)]
        refine wp_store_one 22 (.tmp 17) (.tmp 16) rfl g3 1 (.slice (some ⟨gW, 0, none⟩) (k + 1) cW) rfl rfl 53 _ hS3r (show 1 + 1 ≤ 3 by decide) (by kernel_rfl) rfl rfl ?_
        intro x4r hA4r hb4r hs4r
        refine hK.out _ _ (Hold.over (s := 7) (by decide) (by rfl)) (fun hH => ?_)
        clear hK K
        refine wpAnyS_done (by kernel_rfl) ?_ _
        have hR4 : Rd B x4r g r3 := ((hR1.below hb2r).low hb3r (by omega)).but hb4r (by omega)
        have hA24 : At 53 x4r w.heap.size [.string ⟨#[]⟩, .slice none 0 0, .slice none 0 0] := hb4r.at ((((hb1r.at (hA2.below hB0) (by omega)).below hb2r)).belowA hb3r (by omega)) (by omega)
        have HRel : Hid (∃ (l' : List Tk) (f' : Nat) (aV : Option Addr) (k cV : Nat) (vs : List VT), vs.length = k ∧ At 53 x4r g3 [.string ⟨x.toArray⟩, .slice aV k cV, .slice none 0 0] ∧ At 53 x4r w.heap.size [.string ⟨#[]⟩, .slice none 0 0, .slice none 0 0] ∧ Gr eV M x4r (.slice aV k cV) vs ∧ Rd B x4r g l' ∧ But g w x4r ∧ k + l'.length ≤ l.length ∧ l'.length + 1 ≤ f' ∧ M ≤ x4r.heap.size ∧ D = ((localsR f' l').bind fun ss r => .ok (vs.map VT.vr ++ ss) r).bind fun vs r => (stmtsR (4 * r.length + 4) 0 r).bind fun b r => .ok ⟨x, vs, b⟩ r) := by
          refine ⟨r3, f', some ⟨gW, 0, none⟩, k + 1, cW, vs ++ [_], by rw [List.length_append, hyl]; rfl, hA4r, hA24, hG3r.but hb4r hg3M, hR4, ?_, by omega, by omega, by have := hb4r.size; omega, ?_⟩
          · have h1 := ((hbt.trans (But.of_below hB0)).trans hb1r).trans (But.of_below hb2r)
            have h2 : But g w x3r := ⟨hb3r.os.trans h1.os, hb3r.tape.trans h1.tape, hb3r.output.trans h1.output, Nat.le_trans h1.size hb3r.size, fun q hq hne => (hb3r.block q (by omega)).trans (h1.block q hq hne)⟩
            exact h2.fresh hb4r (by omega)
          · rw [hD']
            congr 2
            funext ss r
            show Rs.ok (vs.map VT.vr ++ v :: ss) r = _
            rw [List.map_append, List.append_assoc]
            rfl
        have hm : tokLen x4r g < tokLen wr g := by rw [hR4.len, htk]; omega
        clear hR4 hA24 hA4r hb4r hb3r hb2r hb1r hB0 hG3r hR1 hvl hD' hA2 hA3 hG hR hbt hA2r hGx hs4r ls0 ls1 ls2 ls3 htk
        go_wp2_with fail
        go_roundw
        case rel => exact ⟨_, _, _, _, _, _, _, _, _, HRel, rfl⟩
        case measure => exact hm
      · go_wp2_with (go_at_call 56; refine CV.mono ?_; rintro e' x1r ⟨hr, hb1r⟩; unfold PanW at hr; subst hr)
        exact ⟨rfl, rfl, (hbt.trans (But.of_below hB0)).trans hb1r⟩
    · have CS : Calls Tryz.prog 96 #[.pointer (some ⟨g, 0, none⟩), .int .i64 0] w2 (PostL B g w2 (stmtsR (4 * l'.length + 4) 0 l')) := stmts96_any l' _ 0 (Nat.le_refl _) (by decide) (by omega) B g w2 hR (by omega)
      clear hR
      generalize stmtsR (4 * l'.length + 4) 0 l' = N at CS hD'
      cases N with
      | bad e p =>
        have hD' : D = .bad e p := hD'
        subst hD'
        clear hG hA2 hA3
        go_wp2_with (go_at_call 96; refine CS.mono ?_; rintro r w3 ⟨hr, hb3⟩; unfold PanW at hr; subst hr)
        exact ⟨rfl, rfl, hbt.trans hb3⟩
      | ok ss r3 =>
      have hD' : D = .ok ⟨x, vs.map VT.vr, ss⟩ r3 := hD'
      subst hD'
      have hT0 := hG.vars (by omega)
      go_wp2_with (go_at_call 96; refine CS.mono ?_; rintro r w3 ⟨a2, c2, ys, rfl, hys, hT, hR, hb3⟩; refine Hid.out ?_)
      refine hidU ?_
      obtain ⟨n2, hn2⟩ : ∃ q, Hid (q = ys.length) := ⟨_, (rfl : ys.length = _)⟩
      rw [← hn2.out]
      have hA2 := hb3.at hA2 (by omega)
      have hA3 := hb3.at hA3 (by omega)
      have hT0 := hT0.but hb3 (.inl (by omega))
      have hbt := hbt.trans hb3
      have l3 := hb3.size
      clear CS hb3 hG
      go_wp2_with (first
        | ((with_reducible show wpList _ _ _ _ _ _); refine wpList_store_one (P := Tryz.prog) rfl 49 (.tmp 20) (.tmp 19) rfl g3 2 (.slice a2 n2 c2) rfl rfl 53 _ hA3 (show 2 + 1 ≤ 3 by decide) (by kernel_rfl) rfl rfl ?_; intro w4 hA3 hb4 hs4; clear hs4; refine Hid.out ?_))
      refine hidU ?_
      have hA3 : At 53 w4 g3 [.string ⟨x.toArray⟩, .slice aV k cV, .slice a2 n2 c2] := hA3
      have hA2 := hb4.at hA2 (by omega)
      have hT0 := hT0.but hb4 (.inl (by omega))
      have hT := hT.but hb4 (.inl (by omega))
      have hR := hR.but hb4 (by omega)
      have hbt := hbt.fresh hb4 (by omega)
      have l4 := hb4.size
      clear hb4
      have hcs : (⟨⟨x.toArray⟩, aV, cV, vs, a2, c2, ys⟩ : TT).cells = [.string ⟨x.toArray⟩, .slice aV k cV, .slice a2 n2 c2] := by
        show [Value.string ⟨x.toArray⟩, .slice aV vs.length cV, .slice a2 ys.length c2] = _
        rw [hyl, hn2.out]
      go_wp2_with (first
        | ((with_reducible show wpList _ _ _ _ _ _); refine wpList_load_at (P := Tryz.prog) rfl 53 (.tmp 3) rfl g3 rfl 53 [.string ⟨x.toArray⟩, .slice aV k cV, .slice a2 n2 c2] hA3 _ Tryz.underlying53 rfl i42 ?_)
        | ((with_reducible show wpList _ _ _ _ _ _); refine wpList_store_at (P := Tryz.prog) rfl 53 (.tmp 2) (.tmp 21) rfl w.heap.size [.string ⟨x.toArray⟩, .slice aV k cV, .slice a2 n2 c2] rfl rfl 53 _ hA2 i42 rfl (by rw [← hcs]; exact TT.one _) ?_; intro wE hAE hbE hsE; clear hsE))
      refine bodyPost_ret (results_at rfl _ _ w.heap.size 53 [.string ⟨x.toArray⟩, .slice aV k cV, .slice a2 n2 c2] _ rfl hAE Tryz.underlying53 rfl i42) rfl ?_
      refine ⟨⟨⟨x.toArray⟩, aV, cV, vs, a2, c2, ys⟩, by rw [hcs], ?_, ⟨(hT0.but hbE (.inl (by omega))).low (by omega), (hT.but hbE (.inl (by omega))).low (by omega)⟩, hR.but hbE hBw, hbt.fresh hbE (Nat.le_refl _)⟩
      show Th.mk _ _ _ = _
      rw [hys]
end Go.Proofs.YtjgggmjjikopeaaGreatDoor

/- The reader of programs: programs. -/
namespace Go.Proofs.YtjgggmjjikopeaaGreatDoor
open Go.RowKit
set_option linter.unusedVariables false

/-- 'out = append(out, y)', and what stands. -/
theorem wp_grow2 {α δ : Type} {e : Elt α δ} {A : Nat} {w : World} {v : Value} {ys : List α} {o : Oper} {a : Act} {K : Act → World → Prop} {Q : Exit → Act → World → Prop} (s x : Operand) (T : TypeId) (z : Value) [Zk e z] (bytes : Nat) (ho : o.op = .call { callee := .builtin .append, args := #[s, x], argTypes := #[T, T] })
    (ht : Tryz.prog.underlying T = some (.slice e.E)) (hif : (Tryz.prog.info? e.E).map (fun i => (i.zero, i.size, i.bytes)) = some (some z, e.n, bytes)) (hzs : z.cells.size = e.n) (hsz : 0 < e.n)
    (hs : a.eval s = v) (b : Nat) (hx : a.eval x = .slice (some ⟨b, 0, none⟩) 1 1) (h : Gr e A w v ys) (y : α) (hA : At e.E w b (e.cl y)) (hi : e.In w.heap.size w y) (hy : e.Lies (fun k => A ≤ k ∧ some k ≠ v.ownBlock) y)
    (k : Nat) (hk : ys.length = k) (hl : k ≤ 1048576) (hby : bytes ≤ 1024)
    (hK : ∀ g cap w', Gr e A w' (.slice (some ⟨g, 0, none⟩) (k + 1) cap) (ys ++ [y]) → w.grownBy w' v.ownBlock → K (a.put o.dst (.slice (some ⟨g, 0, none⟩) (k + 1) cap)) w') : o.wp Tryz.prog a w K Q := by
  obtain ⟨i0, hi0, hz0, hz1, hz2⟩ := info_parts hif
  subst hk
  refine wp_append_rest (P := Tryz.prog) w s x T ho A e.E i0 z e.n bytes ht hi0 hz0 hz1 hz2 hzs hsz v ys.length (ys.flatMap e.cl) hs h.own ⟨b, 0, none⟩ 1 1 (e.cl y) hx (by rw [e.hlen, Nat.one_mul]) (fun j u hj => ?_) (e.hone y) (by decide) (by unfold maxLen; omega) (by have : (ys.length + 1) * bytes ≤ 1048577 * 1024 := Nat.mul_le_mul (by omega) hby; omega) h.size e.zk h.room Zk.zk ?_
  · rw [Addr.add_mid, Nat.zero_add, hA.cell]; exact hj
  · intro g cap w' h1 h2 h3 h4
    exact hK g cap w' (h.app hi hy h1 h2 h3 h4) h2
theorem own_at {w : World} {A E sz n : Nat} {v : Value} {xs : List Value} (h : w.ownsRow A E sz v n xs) (k : Nat) (hk : v.ownBlock = some k) : ∃ cs, At E w k cs := by
  obtain ⟨h1, ⟨h2, -⟩ | ⟨g, cap, cur, hv, hg, hc, h3⟩⟩ := h
  · rw [h2] at hk; cases hk
  · rw [hv] at hk
    cases hk
    exact ⟨cur.toList, hc⟩
/-- Another row grows. -/
theorem Gr.grown {α β δ η : Type} {e : Elt α δ} {f : Elt β η} {A A' : Nat} {w w' : World} {v u : Value} {ys : List α} {zs : List β} (h : Gr e A w v ys) (k : Gr f A' w u zs) (hE : e.E ≠ f.E) (hg : w.grownBy w' u.ownBlock) (hoff : ∀ y ∈ ys, e.Lies (fun q => some q ≠ u.ownBlock) y) : Gr e A w' v ys := by
  have hkp : ∀ q, v.ownBlock = some q → w'.heap[q]? = w.heap[q]? := fun q hq => hg.block q (h.own.lt q hq).2 fun hn => by
    obtain ⟨cs, h1⟩ := own_at h.own q hq
    obtain ⟨cs', h2⟩ := own_at k.own q hn.symm
    exact h1.ne h2 hE rfl
  exact ⟨own_stay h.own hkp, fun y hy => e.stay (h.ins y hy) (hoff y hy) hg.size fun q hq hl => hg.block q hl hq, h.off, Nat.le_trans h.size hg.size, fun q hq o u ho hu => h.room q hq o u ho (by rw [← hu]; exact (World.cell?_of_block (w := w) (hkp q hq)).symm), h.nl⟩
theorem RowV.stay {S : Nat → Prop} {B B' c : Nat} {w w' : World} {a : Option Addr} {ks : List VT} (h : RowV B w a c ks) (hu : ks = [] ∨ ∃ g o, a = some ⟨g, o, none⟩ ∧ S g) (hB : B ≤ B') (hk : ∀ k, S k → k < B → w'.heap[k]? = w.heap[k]?) : RowV B' w' a c ks := by
  obtain ⟨h1, h2, h | ⟨g, o, ha, hg, hr⟩⟩ := h
  · exact ⟨h1, h2, .inl h⟩
  · rcases hu with hu | ⟨g', o', ha', hg'⟩
    · exact ⟨h1, h2, .inl hu⟩
    · rw [ha] at ha'
      cases ha'
      refine ⟨h1, h2, .inr ⟨g, o, ha, by omega, fun i v hv => ⟨fun j x hj => ?_, (hr i v hv).2⟩⟩⟩
      rw [World.cell?_of_block (w := w) (hk g hg' hg)]
      exact (hr i v hv).1 j x hj
theorem RowN.stay {S : Nat → Prop} {B B' c : Nat} {w w' : World} {a : Option Addr} {ks : List ByteArray} (h : RowN B w a c ks) (hu : ks = [] ∨ ∃ g o, a = some ⟨g, o, none⟩ ∧ S g) (hB : B ≤ B') (hk : ∀ k, S k → k < B → w'.heap[k]? = w.heap[k]?) : RowN B' w' a c ks := by
  obtain ⟨h1, h2, h | ⟨g, o, ha, hg, hr⟩⟩ := h
  · exact ⟨h1, h2, .inl h⟩
  · rcases hu with hu | ⟨g', o', ha', hg'⟩
    · exact ⟨h1, h2, .inl hu⟩
    · rw [ha] at ha'
      cases ha'
      refine ⟨h1, h2, .inr ⟨g, o, ha, by omega, fun i v hv => ?_⟩⟩
      rw [World.cell?_of_block (w := w) (hk g hg' hg)]
      exact hr i v hv
theorem RowS.stay {S : Nat → Prop} {B B' c : Nat} {w w' : World} {a : Option Addr} {ks : List ST} (h : RowS B w a c ks) (hu : ks = [] ∨ ∃ g o, a = some ⟨g, o, none⟩ ∧ S g) (hL : ST.LiesL S ks) (hB : B ≤ B') (hk : ∀ k, S k → k < B → w'.heap[k]? = w.heap[k]?) : RowS B' w' a c ks := by
  obtain ⟨h1, h2, h | ⟨g, o, ha, hg, hr⟩⟩ := h
  · exact ⟨h1, h2, .inl h⟩
  · rcases hu with hu | ⟨g', o', ha', hg'⟩
    · exact ⟨h1, h2, .inl hu⟩
    · rw [ha] at ha'
      cases ha'
      exact ⟨h1, h2, .inr ⟨g, o, ha, by omega, ST.Row.up hB (ST.Row.stay hk hg' hg hr hL)⟩⟩
def TT.Lies (S : Nat → Prop) (x : TT) : Prop := (x.locals = [] ∨ ∃ g o, x.a1 = some ⟨g, o, none⟩ ∧ S g) ∧ (x.body = [] ∨ ∃ g o, x.a2 = some ⟨g, o, none⟩ ∧ S g) ∧ ST.LiesL S x.body
theorem at_lies {α : Type} {S T : Nat → Prop} {B : Nat} {a : Option Addr} {ks : List α} (h : ks = [] ∨ ∃ g o, a = some ⟨g, o, none⟩ ∧ S g) (hB : ks = [] ∨ ∃ g o, a = some ⟨g, o, none⟩ ∧ g < B) (hS : ∀ k, S k → k < B → T k) : ks = [] ∨ ∃ g o, a = some ⟨g, o, none⟩ ∧ T g := by
  rcases h with h | ⟨g, o, ha, hg⟩
  · exact .inl h
  · rcases hB with hB | ⟨g', o', ha', hg'⟩
    · exact .inl hB
    · rw [ha] at ha'
      cases ha'
      exact .inr ⟨g, o, ha, hS g hg hg'⟩
theorem RowV.bound {B c : Nat} {w : World} {a : Option Addr} {ks : List VT} (h : RowV B w a c ks) : ks = [] ∨ ∃ g o, a = some ⟨g, o, none⟩ ∧ g < B := by
  obtain ⟨_, _, h | ⟨g, o, ha, hg, _⟩⟩ := h
  · exact .inl h
  · exact .inr ⟨g, o, ha, hg⟩
theorem RowS.bound {B c : Nat} {w : World} {a : Option Addr} {ks : List ST} (h : RowS B w a c ks) : ks = [] ∨ ∃ g o, a = some ⟨g, o, none⟩ ∧ g < B := by
  obtain ⟨_, _, h | ⟨g, o, ha, hg, _⟩⟩ := h
  · exact .inl h
  · exact .inr ⟨g, o, ha, hg⟩
theorem RowS.lies {S T : Nat → Prop} {B c : Nat} {w : World} {a : Option Addr} {ks : List ST} (h : RowS B w a c ks) (hL : ST.LiesL S ks) (hS : ∀ k, S k → k < B → T k) : ST.LiesL T ks := by
  obtain ⟨_, _, h | ⟨g, o, ha, hg, hr⟩⟩ := h
  · rw [h]; unfold ST.LiesL; trivial
  · exact (ST.Row.lies hr hL).mono fun k hk => hS k hk.1 hk.2
/-- A thread whose rows lie in blocks that may be written. -/
def TT.Sn (B : Nat) (w : World) (x : TT) : Prop := x.In B w ∧ x.Lies (Soft w)
def eT : Elt TT Th := ⟨TT.cells, 3, 53, fun _ => rfl, TT.one, TT.th, fun B w x => x.Sn B w, fun S x => x.Lies S,
  fun h hS => ⟨at_imp hS h.1, at_imp hS h.2.1, h.2.2.mono hS⟩, fun h hl hB hk => ⟨⟨h.1.1.stay hl.1 hB hk, h.1.2.stay hl.2.1 hl.2.2 hB hk⟩, at_lies (at_and hl.1 h.2.1) h.1.1.bound (fun q hq l => hq.2.keep (hk q hq.1 l)), at_lies (at_and hl.2.1 h.2.2.1) h.1.2.bound (fun q hq l => hq.2.keep (hk q hq.1 l)), h.1.2.lies (hl.2.2.and h.2.2.2) fun q hq l => hq.2.keep (hk q hq.1 l)⟩, fun h hl hS => ⟨at_lies hl.1 h.1.1.bound hS, at_lies hl.2.1 h.1.2.bound hS, h.1.2.lies hl.2.2 hS⟩, fun _ => True⟩
instance (z : Value) : Zk eT z := ⟨fun _ _ => trivial⟩
theorem i26 : (Tryz.prog.info? 26).map (·.size) = some 3 := by kernel_rfl
theorem zz26 : (Tryz.prog.info? 26).map (fun i => (i.zero, i.size)) = some (some (.agg ([.slice none 0 0, .slice none 0 0, .slice none 0 0] : List Value).toArray), 3) := by kernel_rfl
theorem PT.one (p : PT) : ∀ v ∈ p.cells, v.oneCell' = true := by intro v hv; simp [PT.cells] at hv; rcases hv with rfl | rfl | rfl <;> rfl
theorem RowVn.stay {S : Nat → Prop} {B B' c : Nat} {w w' : World} {a : Option Addr} {ks : List VT} (h : RowVn B w a c ks) (hu : ks = [] ∨ ∃ g o, a = some ⟨g, o, none⟩ ∧ S g) (hB : B ≤ B') (hk : ∀ k, S k → k < B → w'.heap[k]? = w.heap[k]?) : RowVn B' w' a c ks :=
  ⟨h.1.stay hu hB hk, at_lies (at_and hu h.2) h.1.bound fun q hq l => hq.2.keep (hk q hq.1 l)⟩
/-- A row of names, and its room. -/
def Nm (w : World) (a : Option Addr) (c : Nat) (ks : List ByteArray) : Prop := (ks = [] ∧ c = 0) ∨ ∃ g cs, a = some ⟨g, 0, none⟩ ∧ At 9 w g cs ∧ cs.length = c ∧ (∀ j u, cs[j]? = some u → ks.length ≤ j → u = .string ⟨#[]⟩) ∧ c ≤ 9223372036854775807
def RowNn (B : Nat) (w : World) (a : Option Addr) (c : Nat) (ks : List ByteArray) : Prop := RowN B w a c ks ∧ Nm w a c ks
theorem RowNn.stay {S : Nat → Prop} {B B' c : Nat} {w w' : World} {a : Option Addr} {ks : List ByteArray} (h : RowNn B w a c ks) (hu : ks = [] ∨ ∃ g o, a = some ⟨g, o, none⟩ ∧ S g) (hne : ks = [] → c = 0) (hB : B ≤ B') (hk : ∀ k, S k → k < B → w'.heap[k]? = w.heap[k]?) : RowNn B' w' a c ks := by
  refine ⟨h.1.stay hu hB hk, ?_⟩
  rcases hu with hu | ⟨g, o, ha, hg⟩
  · exact .inl ⟨hu, hne hu⟩
  · rcases h.2 with q | ⟨g', cs, ha', hA, hl, hr⟩
    · exact .inl q
    · rw [ha] at ha'
      cases ha'
      obtain ⟨_, _, h3 | ⟨g2, o2, ha2, hg2, _⟩⟩ := h.1
      · exact .inl ⟨h3, hne h3⟩
      · rw [ha] at ha2
        cases ha2
        exact .inr ⟨g, cs, ha, (hk g hg hg2).trans hA, hl, hr⟩
theorem Gr.names {A : Nat} {w : World} {a : Option Addr} {n c : Nat} {ys : List ByteArray} (h : Gr eN A w (.slice a n c) ys) (hl : ys.length ≤ 1048576) : RowNn w.heap.size w a c ys ∧ (ys = [] ∨ ∃ g o, a = some ⟨g, o, none⟩ ∧ A ≤ g) ∧ (ys = [] → c = 0) := by
  obtain ⟨h1, h2⟩ := h.cell
  have hnl : ys = [] → c = 0 := fun q => by have := h.nl q; injection this
  rcases h2 with q | ⟨g, rfl, hg, hlt, hr, cs, hs, hsl, hcm⟩
  · exact ⟨⟨⟨by rw [q]; simp, by rw [q]; exact Nat.zero_le _, .inl q⟩, .inl ⟨q, hnl q⟩⟩, .inl q, hnl⟩
  · refine ⟨⟨⟨hl, h1, .inr ⟨g, 0, rfl, hlt, fun i v hv => ?_⟩⟩, .inr ⟨g, cs, rfl, hs, by rw [hsl]; exact Nat.mul_one c, fun j u hj hle => h.room g rfl j u (by show ys.length * 1 ≤ j; omega) (by rw [hs.cell]; exact hj), hcm⟩⟩, .inr ⟨g, 0, rfl, hg⟩, hnl⟩
    have := hr _ _ (flat_cells_at eN.cl 1 (fun _ => rfl) ys i v hv 0 _ rfl)
    rwa [show 0 + (i * 1 + 0) = 0 + i by omega] at this
theorem Gr.threads {A : Nat} {w : World} {a : Option Addr} {n c : Nat} {ys : List TT} (h : Gr eT A w (.slice a n c) ys) (hl : ys.length ≤ 1048576) : (RowT w.heap.size w a c ys ∧ (ys = [] ∨ ∃ g o, a = some ⟨g, o, none⟩ ∧ Soft w g) ∧ ∀ y ∈ ys, y.Lies (Soft w)) ∧ (ys = [] ∨ ∃ g o, a = some ⟨g, o, none⟩ ∧ A ≤ g) ∧ ∀ y ∈ ys, y.Lies (fun k => A ≤ k) := by
  have hSo : ∀ y ∈ ys, y.Lies (Soft w) := fun y hy => (h.ins y hy).2
  obtain ⟨h1, h2⟩ := h.cell
  have hL : ∀ y ∈ ys, y.Lies (fun k => A ≤ k) := fun y hy => eT.mono (h.off y hy) fun k hk => hk.1
  rcases h2 with rfl | ⟨g, rfl, hg, hlt, hr, cs, hs, -⟩
  · exact ⟨⟨⟨by simp, Nat.zero_le _, .inl rfl⟩, .inl rfl, hSo⟩, .inl rfl, hL⟩
  · refine ⟨⟨⟨hl, h1, .inr ⟨g, 0, rfl, hlt, fun i v hv => ⟨fun j u hj => ?_, (h.ins v (List.mem_of_getElem? hv)).1⟩⟩⟩, .inr ⟨g, 0, rfl, 53, cs, hs, by decide⟩, hSo⟩, .inr ⟨g, 0, rfl, hg⟩, hL⟩
    have := hr _ u (flat_cells_at TT.cells 3 (fun _ => rfl) ys i v hv j u hj)
    rwa [show 0 + (i * 3 + j) = 0 + i * 3 + j by omega] at this
def PT.Lies (S : Nat → Prop) (p : PT) : Prop := (p.shared = [] ∨ ∃ g o, p.a1 = some ⟨g, o, none⟩ ∧ S g) ∧ (p.mutexes = [] ∨ ∃ g o, p.a2 = some ⟨g, o, none⟩ ∧ S g) ∧ (p.threads = [] ∨ ∃ g o, p.a3 = some ⟨g, o, none⟩ ∧ S g) ∧ ∀ t ∈ p.threads, t.Lies S
/-- A program whose rows lie in blocks that may be written. -/
def PT.Sf (w : World) (p : PT) : Prop := (p.shared = [] ∨ ∃ g o, p.a1 = some ⟨g, o, none⟩ ∧ Soft w g) ∧ Nm w p.a2 p.c2 p.mutexes ∧ (p.threads = [] ∨ ∃ g o, p.a3 = some ⟨g, o, none⟩ ∧ Soft w g) ∧ ∀ t ∈ p.threads, t.Lies (Soft w)
def PT.Sn (B : Nat) (w : World) (p : PT) : Prop := p.In B w ∧ p.Sf w ∧ (p.mutexes = [] → p.c2 = 0)
/-- What the reader of a program tells. -/
def PostPg (B g : Nat) (w : World) (R : Rs Pg) (r : Ending) (w' : World) : Prop :=
  match R with
  | .ok p l => ∃ y : PT, r = .returned (.agg y.cells.toArray) ∧ y.pg = p ∧ y.Sn w'.heap.size w' ∧ y.Lies (fun k => w.heap.size ≤ k) ∧ Rd B w' g l ∧ But g w w'
  | .bad e p => r = PanW e p ∧ But g w w'
set_option maxRecDepth 100000 in
set_option maxHeartbeats 25600000 in
theorem program_any {B : Nat} (g : Nat) (l : List Tk) (w : World) (h : Rd B w g l) (hBw : B ≤ w.heap.size) (hlm : l.length ≤ 1048576) : Calls Tryz.prog 26 #[.pointer (some ⟨g, 0, none⟩)] w (PostPg B g w (programR l)) := by
  have lg := h.lt
  have HR : Hid (Rd B w g l) := h
  clear h
  obtain ⟨D, hD⟩ : ∃ D, Hid (D = programR l) := ⟨_, (rfl : programR l = _)⟩
  rw [← hD.out]
  unfold programR at hD
  go_enter Tryz.func26, Tryz.ntmps26
  go_wp2_with (first
    | ((with_reducible show wpList _ _ _ _ _ _); refine wpList_alloc_at (o := { dst := some 2, .. }) rfl 26 rfl [.slice none 0 0, .slice none 0 0, .slice none 0 0] 3 zz26 ?_; intro w1 hA2 hb1 hs1; clear hs1)
    | ((with_reducible show wpList _ _ _ _ _ _); refine wpList_alloc_at (o := { dst := some 3, .. }) rfl 26 rfl [.slice none 0 0, .slice none 0 0, .slice none 0 0] 3 zz26 ?_; intro w5 hA3 hb2 hs2; clear hs2; refine Hid.out ?_))
  refine hidU ?_
  have l01 := hA2.lt
  have hw5 : Below w.heap.size w w5 := hb1.trans (hb2.mono hb1.size)
  have hA2 := hA2.below hb2
  obtain ⟨g3, hg3⟩ : ∃ q, q = w1.heap.size := ⟨_, rfl⟩
  rw [← hg3] at hA3 ⊢
  have lg3 : w.heap.size < g3 := by omega
  obtain ⟨M, hM⟩ : ∃ q, q = w5.heap.size := ⟨_, rfl⟩
  have hg3M : g3 < M := by rw [hM]; exact hA3.lt
  have HI : Hid (∃ (l' : List Tk) (f' : Nat) (aV : Option Addr) (k1 cV : Nat) (vs : List VT) (aN : Option Addr) (k2 cN : Nat) (ms : List ByteArray), (vs.length = k1 ∧ ms.length = k2) ∧ At 26 w5 g3 [.slice aV k1 cV, .slice aN k2 cN, .slice none 0 0] ∧ At 26 w5 w.heap.size [.slice none 0 0, .slice none 0 0, .slice none 0 0] ∧ (Gr eV M w5 (.slice aV k1 cV) vs ∧ Gr eN M w5 (.slice aN k2 cN) ms) ∧ Rd B w5 g l' ∧ But g w w5 ∧ k1 + k2 + l'.length ≤ l.length ∧ l'.length + 1 ≤ f' ∧ M ≤ w5.heap.size ∧ D = ((declsR f' l').bind fun x r => .ok (vs.map VT.vr ++ x.1, ms.map (fun m => m.data.toList) ++ x.2) r).bind fun x r => (threadsR (r.length + 1) r).bind fun ts r => .ok ⟨x.1, x.2, ts⟩ r) := by
    refine ⟨l, l.length + 1, none, 0, 0, [], none, 0, 0, [], ⟨rfl, rfl⟩, hA3, hA2, ⟨Gr.nil (by omega), Gr.nil (by omega)⟩, HR.out.below hw5, But.of_below hw5, by omega, by omega, by omega, ?_⟩
    rw [hD.out]
    cases declsR (l.length + 1) l <;> rfl
  clear hb1 hb2 hw5 hA2 hA3 hg3 hM HR hD
  go_wp2_with fail
  go_loopw [5] (fun _ wr => Hid (∃ (l' : List Tk) (f' : Nat) (aV : Option Addr) (k1 cV : Nat) (vs : List VT) (aN : Option Addr) (k2 cN : Nat) (ms : List ByteArray), (vs.length = k1 ∧ ms.length = k2) ∧ At 26 wr g3 [.slice aV k1 cV, .slice aN k2 cN, .slice none 0 0] ∧ At 26 wr w.heap.size [.slice none 0 0, .slice none 0 0, .slice none 0 0] ∧ (Gr eV M wr (.slice aV k1 cV) vs ∧ Gr eN M wr (.slice aN k2 cN) ms) ∧ Rd B wr g l' ∧ But g w wr ∧ k1 + k2 + l'.length ≤ l.length ∧ l'.length + 1 ≤ f' ∧ M ≤ wr.heap.size ∧ D = ((declsR f' l').bind fun x r => .ok (vs.map VT.vr ++ x.1, ms.map (fun m => m.data.toList) ++ x.2) r).bind fun x r => (threadsR (r.length + 1) r).bind fun ts r => .ok ⟨x.1, x.2, ts⟩ r)) (fun _ wr => tokLen wr g)
  case atStart => exact HI
  case round =>
    clear HI
    obtain ⟨l', f', aV, k1, cV, vs, aN, k2, cN, ms, ⟨hl1, hl2⟩, hA3, hA2, ⟨hGV, hGN⟩, hR, hbt, hkl, hf', lM, hD⟩ := hrel.out
    clear hrel
    obtain ⟨f', rfl⟩ : ∃ q, f' = q + 1 := ⟨f' - 1, by omega⟩
    have HD : Hid (D = ((declsR (f' + 1) l').bind fun x r => .ok (vs.map VT.vr ++ x.1, ms.map (fun m => m.data.toList) ++ x.2) r).bind fun x r => (threadsR (r.length + 1) r).bind fun ts r => .ok ⟨x.1, x.2, ts⟩ r) := hD
    rw [declsR] at HD
    clear hD
    have htk := hR.len
    by_cases c0 : (hdT l').text = [115, 104, 97, 114, 101, 100]
    focus
      rw [if_pos c0] at HD
      have htl := tail_lt (l := l') (by rw [c0]; decide)
      have C55 := takes_yes g l' ⟨#[115, 104, 97, 114, 101, 100]⟩ (by decide) c0 wr hR
    rotate_left
    focus
      rw [if_neg c0] at HD
      have C55 := takes_no g l' ⟨#[115, 104, 97, 114, 101, 100]⟩ (by decide) c0 wr hR
    rotate_left
    all_goals
      clear hR c0
      go_wp2_with (go_at_call 55; refine C55.mono ?_; rintro r w2 ⟨rfl, hR, hb2⟩; refine Hid.out ?_)
      refine hidU ?_
      have hA2 := hb2.at hA2 (by omega)
      have hA3 := hb2.at hA3 (by omega)
      have hGV := hGV.but hb2 (by omega)
      have hGN := hGN.but hb2 (by omega)
      have hbt := hbt.trans hb2
      have l2 := hb2.size
      clear C55 hb2
    · go_wp2_with fail
      cases hN : variableR l'.tail
      focus
        rename_i v r3
        have hvl' := variableR_left l'.tail
        rw [hN] at hvl'
        have hr3 : r3.length < l'.tail.length := hvl'
        rw [hN] at HD
        have hD' : D = (((declsR f' r3).bind fun x r => .ok (v :: x.1, x.2) r).bind fun x r => .ok (vs.map VT.vr ++ x.1, ms.map (fun m => m.data.toList) ++ x.2) r).bind fun x r => (threadsR (r.length + 1) r).bind fun ts r => .ok ⟨x.1, x.2, ts⟩ r := HD.out
        rw [Rs.bind_bind (declsR f' r3)] at hD'
        clear HD hvl'
      rotate_left
      focus
        rename_i e p
        rw [hN] at HD
        have hD' : D = .bad e p := HD.out
        subst hD'
      rotate_left
      all_goals
        have hS0r : At 26 w2.drew g3 [.slice aV k1 cV, .slice aN k2 cN, .slice none 0 0] := hA3.drew
        refine wp_region_S (S := fun xS => At 26 xS g3 [.slice aV k1 cV, .slice aN k2 cN, .slice none 0 0]) (St := [7]) (by kernel_rfl) hS0r ?_
        have hB0 : Below w2.heap.size w2 w2.drew := Below.drew (Below.refl _ _)
        obtain ⟨x0r, hx0⟩ : ∃ x, x = w2.drew := ⟨_, rfl⟩
        rw [← hx0] at hS0r hB0 ⊢
        clear hx0
        intro hH
        refine wpAnyS_pure (i := 0) (oi := { dst := some 6, op := .fieldAddr 26 (.tmp 3) 0, type := _, pos := _, after := _, guard := none }) (v := .pointer (some ⟨g3, 0, none⟩)) rfl (by kernel_rfl) (by kernel_rfl) (by kernel_rfl) (by kernel_rfl) (fun _ _ _ h => h) (Or.inl ⟨by rfl, ?_⟩) hH (fun hH => ?_)
        · intro wS hSw
          go_simp
        simp only [Act.put, List.setIfInBounds_toArray, List.set_cons_zero, List.set_cons_succ]
        refine wpAnyS_take [5, 6, 7] (i := 1) (oi := { dst := some 7, op := .load 22 (.tmp 6), type := _, pos := _, after := _, guard := none }) (v := .slice aV k1 cV) rfl (by kernel_rfl) (by kernel_rfl) (by kernel_rfl) (by kernel_rfl) (by kernel_rfl) (by kernel_rfl) (by kernel_rfl) (fun _ _ _ h => h) (Or.inl ⟨by rfl, ?_⟩) hH (fun hH => ?_)
        · intro wS hSw
          have z0 := (c3_cells hSw).1
          go_simp
        simp only [Act.put, List.setIfInBounds_toArray, List.set_cons_zero, List.set_cons_succ]
        refine wpAnyS_pure (i := 2) (oi := { dst := some 8, op := .move (.tmp 0), type := _, pos := _, after := _, guard := none }) (v := .pointer (some ⟨g, 0, none⟩)) rfl (by kernel_rfl) (by kernel_rfl) (by kernel_rfl) (by kernel_rfl) (fun _ _ _ h => h) (Or.inl ⟨by rfl, ?_⟩) hH (fun hH => ?_)
        · intro wS hSw
          go_simp
        simp only [Act.put, List.setIfInBounds_toArray, List.set_cons_zero, List.set_cons_succ]
        refine wpAnyS_ready (rs := [3]) (by kernel_rfl) (by simp) ?_
        refine AllReadyS.cons (o := { dst := some 9, op := .call { callee := .value (.func 56), args := #[.tmp 8], argTypes := #[66] }, type := _, pos := _, after := _, guard := none }) rfl (fun K hK => ?_) AllReadyS.nil
        rw [if_pos (by rfl)]
        have CV := variable_any g l'.tail x0r (hR.below hB0) (by have := hB0.size; omega)
        rw [hN] at CV
      · go_wp2_with (go_at_call 56; refine CV.mono ?_; rintro e' x1r ⟨rfl, hvl, hR1, hb1r⟩)
        have ls0 := hB0.size
        have ls1 := hb1r.size
        have hS1r := (hb1r.at hS0r (by omega))
        refine hK.out _ _ (Hold.of hS1r) (fun hH => ?_)
        clear hK K
        refine wpAnyS_ready (rs := [4]) (by kernel_rfl) (by simp) ?_
        refine AllReadyS.cons (o := { dst := some 10, op := .buildSlice 22 1 #[(0, .tmp 9)], type := _, pos := _, after := _, guard := none }) rfl (fun K hK => ?_) AllReadyS.nil
        rw [if_pos (by rfl)]
        refine wp_layV (.tmp 9) rfl (VT.cells (⟨⟨v.nm.toArray⟩, v.t, v.b⟩ : VT)) rfl rfl ?_
        intro x2r hA2r hb2r
        have ls2 := hb2r.size
        have hS2r := (hS1r.below hb2r)
        refine hK.out _ _ (Hold.of hS2r) (fun hH => ?_)
        clear hK K
        refine wpAnyS_ready (rs := [5]) (by kernel_rfl) (by simp) ?_
        refine AllReadyS.cons (o := { dst := some 11, op := .call { callee := .builtin .append, args := #[.tmp 7, .tmp 10], argTypes := #[22, 22] }, type := _, pos := _, after := _, guard := none }) rfl (fun K hK => ?_) AllReadyS.nil
        rw [if_pos (by rfl)]
        have hGx : Gr eV M x2r (.slice aV k1 cV) vs := (((hGV.below hB0).but hb1r (by omega)).below hb2r)
        have hNx : Gr eN M x2r (.slice aN k2 cN) ms := (((hGN.below hB0).but hb1r (by omega)).below hb2r)
        refine wp_grow2 (e := eV) (A := M) (ys := vs) (.tmp 7) (.tmp 10) 22 _ 32 rfl Tryz.underlying22 f48 rfl (by decide) rfl x1r.heap.size rfl hGx (⟨⟨v.nm.toArray⟩, v.t, v.b⟩ : VT) hA2r hvl trivial k1 hl1 (by omega) (by decide) ?_
        intro gW cW x3r hG3r hgb
        have hb3r : Below M x2r x3r := (Below.refl _ _).grown hgb hGx.size fun q hq => (hGx.own.lt q hq).1
        have ls3 := hb3r.size
        have hS3r := (hS2r.belowA hb3r hg3M)
        refine hK.out _ _ (Hold.of hS3r) (fun hH => ?_)
        clear hK K
        refine wpAnyS_pure (i := 6) (oi := { dst := some 12, op := .fieldAddr 26 (.tmp 3) 0, type := _, pos := _, after := _, guard := none }) (v := .pointer (some ⟨g3, 0, none⟩)) rfl (by kernel_rfl) (by kernel_rfl) (by kernel_rfl) (by kernel_rfl) (fun _ _ _ h => h) (Or.inl ⟨by rfl, ?_⟩) hH (fun hH => ?_)
        · intro wS hSw
          go_simp
        simp only [Act.put, List.setIfInBounds_toArray, List.set_cons_zero, List.set_cons_succ]
        refine wpAnyS_ready (rs := [7]) (by kernel_rfl) (by simp) ?_
        refine AllReadyS.cons (o := { dst := none, op := .store 22 (.tmp 12) (.tmp 11), type := _, pos := _, after := _, guard := none }) rfl (fun K hK => ?_) AllReadyS.nil
        rw [if_pos (by rfl)]
        refine wp_store_one 22 (.tmp 12) (.tmp 11) rfl g3 0 (.slice (some ⟨gW, 0, none⟩) (k1 + 1) cW) rfl rfl 26 _ hS3r (show 0 + 1 ≤ 3 by decide) (by kernel_rfl) rfl rfl ?_
        intro x4r hA4r hb4r hs4r
        refine hK.out _ _ (Hold.over (s := 7) (by decide) (by rfl)) (fun hH => ?_)
        clear hK K
        refine wpAnyS_done (by kernel_rfl) ?_ _
        simp only [Act.put]
        have hR4 : Rd B x4r g r3 := ((hR1.below hb2r).low hb3r (by omega)).but hb4r (by omega)
        have hA24 : At 26 x4r w.heap.size [.slice none 0 0, .slice none 0 0, .slice none 0 0] := hb4r.at ((((hb1r.at (hA2.below hB0) (by omega)).below hb2r)).belowA hb3r (by omega)) (by omega)
        have hN3 : Gr eN M x3r (.slice aN k2 cN) ms := hNx.grown hGx (by decide) hgb fun _ _ => trivial
        have HRel : Hid (∃ (l' : List Tk) (f' : Nat) (aV : Option Addr) (k1 cV : Nat) (vs : List VT) (aN : Option Addr) (k2 cN : Nat) (ms : List ByteArray), (vs.length = k1 ∧ ms.length = k2) ∧ At 26 x4r g3 [.slice aV k1 cV, .slice aN k2 cN, .slice none 0 0] ∧ At 26 x4r w.heap.size [.slice none 0 0, .slice none 0 0, .slice none 0 0] ∧ (Gr eV M x4r (.slice aV k1 cV) vs ∧ Gr eN M x4r (.slice aN k2 cN) ms) ∧ Rd B x4r g l' ∧ But g w x4r ∧ k1 + k2 + l'.length ≤ l.length ∧ l'.length + 1 ≤ f' ∧ M ≤ x4r.heap.size ∧ D = ((declsR f' l').bind fun x r => .ok (vs.map VT.vr ++ x.1, ms.map (fun m => m.data.toList) ++ x.2) r).bind fun x r => (threadsR (r.length + 1) r).bind fun ts r => .ok ⟨x.1, x.2, ts⟩ r) := by
          refine ⟨r3, f', some ⟨gW, 0, none⟩, k1 + 1, cW, vs ++ [_], aN, k2, cN, ms, ⟨by rw [List.length_append, hl1]; rfl, hl2⟩, hA4r, hA24, ⟨hG3r.but hb4r hg3M, hN3.but hb4r hg3M⟩, hR4, ?_, by omega, by omega, by have := hb4r.size; omega, ?_⟩
          · have h1 := ((hbt.trans (But.of_below hB0)).trans hb1r).trans (But.of_below hb2r)
            have h2 : But g w x3r := ⟨hb3r.os.trans h1.os, hb3r.tape.trans h1.tape, hb3r.output.trans h1.output, Nat.le_trans h1.size hb3r.size, fun q hq hne => (hb3r.block q (by omega)).trans (h1.block q hq hne)⟩
            exact h2.fresh hb4r (by omega)
          · rw [hD']
            congr 2
            funext x r
            show Rs.ok (vs.map VT.vr ++ v :: x.1, _) r = _
            rw [List.map_append, List.append_assoc]
            rfl
        have hm : tokLen x4r g < tokLen wr g := by rw [hR4.len, htk]; omega
        clear hR4 hA24 hA4r hb4r hb3r hb2r hb1r hB0 hG3r hR1 hvl hD' hA2 hA3 hGV hGN hR hbt hA2r hGx hNx hN3 hs4r ls0 ls1 ls2 ls3 htk hgb
        go_wp2_with fail
        go_roundw
        case rel => exact HRel
        case measure => exact hm
      · go_wp2_with (go_at_call 56; refine CV.mono ?_; rintro e' x1r ⟨hr, hb1r⟩; unfold PanW at hr; subst hr)
        exact ⟨rfl, rfl, (hbt.trans (But.of_below hB0)).trans hb1r⟩
    · by_cases c1 : (hdT l').text = [109, 117, 116, 101, 120]
      focus
        rw [if_pos c1] at HD
        have htl := tail_lt (l := l') (by rw [c1]; decide)
        have C55 := takes_yes g l' ⟨#[109, 117, 116, 101, 120]⟩ (by decide) c1 w2 hR
        clear hR c1
      rotate_left
      focus
        rw [if_neg c1] at HD
        have C55 := takes_no g l' ⟨#[109, 117, 116, 101, 120]⟩ (by decide) c1 w2 hR
        have hD1 : Hid (D = (threadsR (l'.length + 1) l').bind fun ts r => .ok ⟨vs.map VT.vr ++ [], ms.map (fun m => m.data.toList) ++ [], ts⟩ r) := HD
        rw [List.append_nil, List.append_nil] at hD1
        clear hR c1 HD htk
      rotate_left
      all_goals
        go_wp2_with (go_at_call 55; refine C55.mono ?_; rintro r w3 ⟨rfl, hR, hb3⟩; refine Hid.out ?_)
        refine hidU ?_
        have hA2 := hb3.at hA2 (by omega)
        have hA3 := hb3.at hA3 (by omega)
        have hGV := hGV.but hb3 (by omega)
        have hGN := hGN.but hb3 (by omega)
        have hbt := hbt.trans hb3
        have l3 := hb3.size
      · clear C55 hb3
        go_wp2_with fail
        cases hN : nameR l'.tail
        focus
          rename_i m r3
          have hvl' := nameR_left l'.tail
          rw [hN] at hvl'
          have hr3 : r3.length < l'.tail.length := hvl'
          rw [hN] at HD
          have hD1 : Hid (D = (((mustR [59] r3).bind fun _ r => (declsR f' r).bind fun x r => .ok (x.1, m :: x.2) r).bind fun x r => .ok (vs.map VT.vr ++ x.1, ms.map (fun m => m.data.toList) ++ x.2) r).bind fun x r => (threadsR (r.length + 1) r).bind fun ts r => .ok ⟨x.1, x.2, ts⟩ r) := HD
          clear HD hvl'
        rotate_left
        focus
          rename_i e p
          rw [hN] at HD
          have hD' : D = .bad e p := HD.out
          subst hD'
        rotate_left
        all_goals
          have hS0r : At 26 w3.drew g3 [.slice aV k1 cV, .slice aN k2 cN, .slice none 0 0] := hA3.drew
          refine wp_region_S (S := fun xS => At 26 xS g3 [.slice aV k1 cV, .slice aN k2 cN, .slice none 0 0]) (St := [7]) (by kernel_rfl) hS0r ?_
          have hB0 : Below w3.heap.size w3 w3.drew := Below.drew (Below.refl _ _)
          obtain ⟨x0r, hx0⟩ : ∃ x, x = w3.drew := ⟨_, rfl⟩
          rw [← hx0] at hS0r hB0 ⊢
          clear hx0
          intro hH
          refine wpAnyS_pure (i := 0) (oi := { dst := some 15, op := .fieldAddr 26 (.tmp 3) 1, type := _, pos := _, after := _, guard := none }) (v := .pointer (some ⟨g3, 1, none⟩)) rfl (by kernel_rfl) (by kernel_rfl) (by kernel_rfl) (by kernel_rfl) (fun _ _ _ h => h) (Or.inl ⟨by rfl, ?_⟩) hH (fun hH => ?_)
          · intro wS hSw
            go_simp
          simp only [Act.put, List.setIfInBounds_toArray, List.set_cons_zero, List.set_cons_succ]
          refine wpAnyS_take [5, 6, 7] (i := 1) (oi := { dst := some 16, op := .load 23 (.tmp 15), type := _, pos := _, after := _, guard := none }) (v := .slice aN k2 cN) rfl (by kernel_rfl) (by kernel_rfl) (by kernel_rfl) (by kernel_rfl) (by kernel_rfl) (by kernel_rfl) (by kernel_rfl) (fun _ _ _ h => h) (Or.inl ⟨by rfl, ?_⟩) hH (fun hH => ?_)
          · intro wS hSw
            have z0 := (c3_cells hSw).2.1
            go_simp
          simp only [Act.put, List.setIfInBounds_toArray, List.set_cons_zero, List.set_cons_succ]
          refine wpAnyS_pure (i := 2) (oi := { dst := some 17, op := .move (.tmp 0), type := _, pos := _, after := _, guard := none }) (v := .pointer (some ⟨g, 0, none⟩)) rfl (by kernel_rfl) (by kernel_rfl) (by kernel_rfl) (by kernel_rfl) (fun _ _ _ h => h) (Or.inl ⟨by rfl, ?_⟩) hH (fun hH => ?_)
          · intro wS hSw
            go_simp
          simp only [Act.put, List.setIfInBounds_toArray, List.set_cons_zero, List.set_cons_succ]
          refine wpAnyS_ready (rs := [3]) (by kernel_rfl) (by simp) ?_
          refine AllReadyS.cons (o := { dst := some 18, op := .call { callee := .value (.func 57), args := #[.tmp 17], argTypes := #[66] }, type := _, pos := _, after := _, guard := none }) rfl (fun K hK => ?_) AllReadyS.nil
          rw [if_pos (by rfl)]
          have CV := readName_any g l'.tail x0r (hR.below hB0)
          rw [hN] at CV
        · go_wp2_with (go_at_call 57; refine CV.mono ?_; rintro e' x1r ⟨rfl, hR1, hb1r⟩)
          have ls0 := hB0.size
          have ls1 := hb1r.size
          have hS1r := (hb1r.at hS0r (by omega))
          refine hK.out _ _ (Hold.of hS1r) (fun hH => ?_)
          clear hK K
          refine wpAnyS_ready (rs := [4]) (by kernel_rfl) (by simp) ?_
          refine AllReadyS.cons (o := { dst := some 19, op := .buildSlice 23 1 #[(0, .tmp 18)], type := _, pos := _, after := _, guard := none }) rfl (fun K hK => ?_) AllReadyS.nil
          rw [if_pos (by rfl)]
          refine wp_layN (.tmp 18) rfl ⟨m.toArray⟩ rfl ?_
          intro x2r hA2r hb2r
          have ls2 := hb2r.size
          have hS2r := (hS1r.below hb2r)
          refine hK.out _ _ (Hold.of hS2r) (fun hH => ?_)
          clear hK K
          refine wpAnyS_ready (rs := [5]) (by kernel_rfl) (by simp) ?_
          refine AllReadyS.cons (o := { dst := some 20, op := .call { callee := .builtin .append, args := #[.tmp 16, .tmp 19], argTypes := #[23, 23] }, type := _, pos := _, after := _, guard := none }) rfl (fun K hK => ?_) AllReadyS.nil
          rw [if_pos (by rfl)]
          have hGx : Gr eN M x2r (.slice aN k2 cN) ms := (((hGN.below hB0).but hb1r (by omega)).below hb2r)
          have hVx : Gr eV M x2r (.slice aV k1 cV) vs := (((hGV.below hB0).but hb1r (by omega)).below hb2r)
          refine wp_grow2 (e := eN) (A := M) (ys := ms) (.tmp 16) (.tmp 19) 23 _ 16 rfl Tryz.underlying23 f9 rfl (by decide) rfl x1r.heap.size rfl hGx ⟨m.toArray⟩ hA2r trivial trivial k2 hl2 (by omega) (by decide) ?_
          intro gW cW x3r hG3r hgb
          have hb3r : Below M x2r x3r := (Below.refl _ _).grown hgb hGx.size fun q hq => (hGx.own.lt q hq).1
          have ls3 := hb3r.size
          have hS3r := (hS2r.belowA hb3r hg3M)
          refine hK.out _ _ (Hold.of hS3r) (fun hH => ?_)
          clear hK K
          refine wpAnyS_pure (i := 6) (oi := { dst := some 21, op := .fieldAddr 26 (.tmp 3) 1, type := _, pos := _, after := _, guard := none }) (v := .pointer (some ⟨g3, 1, none⟩)) rfl (by kernel_rfl) (by kernel_rfl) (by kernel_rfl) (by kernel_rfl) (fun _ _ _ h => h) (Or.inl ⟨by rfl, ?_⟩) hH (fun hH => ?_)
          · intro wS hSw
            go_simp
          simp only [Act.put, List.setIfInBounds_toArray, List.set_cons_zero, List.set_cons_succ]
          refine wpAnyS_ready (rs := [7]) (by kernel_rfl) (by simp) ?_
          refine AllReadyS.cons (o := { dst := none, op := .store 23 (.tmp 21) (.tmp 20), type := _, pos := _, after := _, guard := none }) rfl (fun K hK => ?_) AllReadyS.nil
          rw [if_pos (by rfl)]
          refine wp_store_one 23 (.tmp 21) (.tmp 20) rfl g3 1 (.slice (some ⟨gW, 0, none⟩) (k2 + 1) cW) rfl rfl 26 _ hS3r (show 1 + 1 ≤ 3 by decide) (by kernel_rfl) rfl rfl ?_
          intro x4r hA4r hb4r hs4r
          refine hK.out _ _ (Hold.over (s := 7) (by decide) (by rfl)) (fun hH => ?_)
          clear hK K
          refine wpAnyS_done (by kernel_rfl) ?_ _
          simp only [Act.put]
          have hR4 : Rd B x4r g r3 := ((hR1.below hb2r).low hb3r (by omega)).but hb4r (by omega)
          have hA24 : At 26 x4r w.heap.size [.slice none 0 0, .slice none 0 0, .slice none 0 0] := hb4r.at ((((hb1r.at (hA2.below hB0) (by omega)).below hb2r)).belowA hb3r (by omega)) (by omega)
          have hV3 : Gr eV M x3r (.slice aV k1 cV) vs := hVx.grown hGx (by decide) hgb fun _ _ => trivial
          have hbt4 : But g w x4r := by
            have h1 := ((hbt.trans (But.of_below hB0)).trans hb1r).trans (But.of_below hb2r)
            have h2 : But g w x3r := ⟨hb3r.os.trans h1.os, hb3r.tape.trans h1.tape, hb3r.output.trans h1.output, Nat.le_trans h1.size hb3r.size, fun q hq hne => (hb3r.block q (by omega)).trans (h1.block q hq hne)⟩
            exact h2.fresh hb4r (by omega)
          have hV4 := hV3.but hb4r hg3M
          have hN4 := hG3r.but hb4r hg3M
          have lM4 : M ≤ x4r.heap.size := by have := hb4r.size; omega
          clear hb4r hb3r hb2r hb1r hB0 hG3r hR1 hA2 hA3 hGV hGN hR hbt hA2r hGx hVx hV3 hs4r ls0 ls1 ls2 ls3 hgb
          have CM := must_any g r3 ⟨#[59]⟩ (by decide) x4r hR4
          have eb : bytes ⟨#[59]⟩ = [59] := rfl
          rw [eb] at CM
          have hml := mustR_left (x := [59]) (l := r3) (by decide)
          clear eb hR4
          generalize mustR [59] r3 = N at CM hD1 hml
          cases N with
          | bad e p =>
            have hD' : D = .bad e p := hD1.out
            subst hD'
            go_wp2_with (go_at_call 58; refine CM.mono ?_; rintro r wF ⟨hr, hbF⟩; unfold PanW at hr; subst hr)
            exact ⟨rfl, rfl, hbt4.trans hbF⟩
          | ok u r4 =>
          have hr4 : r4.length < r3.length := hml
          have hD' : D = (((declsR f' r4).bind fun x r => .ok (x.1, m :: x.2) r).bind fun x r => .ok (vs.map VT.vr ++ x.1, ms.map (fun m => m.data.toList) ++ x.2) r).bind fun x r => (threadsR (r.length + 1) r).bind fun ts r => .ok ⟨x.1, x.2, ts⟩ r := hD1.out
          rw [Rs.bind_bind (declsR f' r4)] at hD'
          go_wp2_with (go_at_call 58; refine CM.mono ?_; rintro r wF ⟨rfl, hRF, hbF⟩; refine Hid.out ?_)
          refine hidU ?_
          have HRel : Hid (∃ (l' : List Tk) (f' : Nat) (aV : Option Addr) (k1 cV : Nat) (vs : List VT) (aN : Option Addr) (k2 cN : Nat) (ms : List ByteArray), (vs.length = k1 ∧ ms.length = k2) ∧ At 26 wF g3 [.slice aV k1 cV, .slice aN k2 cN, .slice none 0 0] ∧ At 26 wF w.heap.size [.slice none 0 0, .slice none 0 0, .slice none 0 0] ∧ (Gr eV M wF (.slice aV k1 cV) vs ∧ Gr eN M wF (.slice aN k2 cN) ms) ∧ Rd B wF g l' ∧ But g w wF ∧ k1 + k2 + l'.length ≤ l.length ∧ l'.length + 1 ≤ f' ∧ M ≤ wF.heap.size ∧ D = ((declsR f' l').bind fun x r => .ok (vs.map VT.vr ++ x.1, ms.map (fun m => m.data.toList) ++ x.2) r).bind fun x r => (threadsR (r.length + 1) r).bind fun ts r => .ok ⟨x.1, x.2, ts⟩ r) := by
            refine ⟨r4, f', aV, k1, cV, vs, some ⟨gW, 0, none⟩, k2 + 1, cW, ms ++ [_], ⟨hl1, by rw [List.length_append, hl2]; rfl⟩, hbF.at hA4r (by omega), hbF.at hA24 (by omega), ⟨hV4.but hbF (by omega), hN4.but hbF (by omega)⟩, hRF, hbt4.trans hbF, by omega, by omega, by have := hbF.size; omega, ?_⟩
            rw [hD']
            congr 2
            funext x r
            show Rs.ok (_, ms.map (fun m => m.data.toList) ++ m :: x.2) r = _
            rw [List.map_append, List.append_assoc]
            rfl
          have hm : tokLen wF g < tokLen wr g := by rw [hRF.len, htk]; omega
          clear CM hRF hbF hA4r hA24 hV4 hN4 hbt4 hD' hD1 hml htk
          go_wp2_with fail
          go_roundw
          case rel => exact HRel
          case measure => exact hm
        · go_wp2_with (go_at_call 57; refine CV.mono ?_; rintro e' x1r ⟨hr, hb1r⟩; unfold PanW at hr; subst hr)
          exact ⟨rfl, rfl, (hbt.trans (But.of_below hB0)).trans hb1r⟩
      · have hTv := hGV.vars (by omega)
        have hTn := hGN.names (by omega)
        obtain ⟨M2, hM2⟩ : ∃ q, q = w3.heap.size := ⟨_, rfl⟩
        have hg3M2 : g3 < M2 := by omega
        have lMM : M ≤ M2 := by omega
        have HU : Hid ((vs = [] ∨ ∃ g o, aV = some ⟨g, o, none⟩ ∧ M ≤ g) ∧ (ms = [] ∨ ∃ g o, aN = some ⟨g, o, none⟩ ∧ M ≤ g) ∧ (ms = [] → cN = 0)) := ⟨hTv.2, hTn.2.1, hTn.2.2⟩
        have HI : Hid (∃ (l' : List Tk) (f' : Nat) (aT : Option Addr) (k3 cT : Nat) (ts : List TT), ts.length = k3 ∧ At 26 w3 g3 [.slice aV k1 cV, .slice aN k2 cN, .slice aT k3 cT] ∧ At 26 w3 w.heap.size [.slice none 0 0, .slice none 0 0, .slice none 0 0] ∧ Gr eT M2 w3 (.slice aT k3 cT) ts ∧ Rd B w3 g l' ∧ But g w w3 ∧ (RowVn M2 w3 aV cV vs ∧ RowNn M2 w3 aN cN ms) ∧ k3 + l'.length ≤ l.length ∧ l'.length + 1 ≤ f' ∧ M2 ≤ w3.heap.size ∧ D = ((threadsR f' l').bind fun ss r => .ok (ts.map TT.th ++ ss) r).bind fun ts r => .ok ⟨vs.map VT.vr, ms.map (fun m => m.data.toList), ts⟩ r) := by
          refine ⟨l', l'.length + 1, none, 0, 0, [], rfl, hA3, hA2, Gr.nil (by omega), hR, hbt, ⟨by rw [hM2]; exact hTv.1, by rw [hM2]; exact hTn.1⟩, by omega, by omega, by omega, ?_⟩
          rw [hD1.out]
          cases threadsR (l'.length + 1) l' <;> rfl
        obtain ⟨lz, hlz⟩ : ∃ q, q = l' := ⟨_, rfl⟩
        clear C55 hb3 hA2 hA3 hGV hGN hR hbt hTv hTn hM2 hD1 hlz
        go_wp2_with fail
        go_loopw [25] (fun _ wr => Hid (∃ (l' : List Tk) (f' : Nat) (aT : Option Addr) (k3 cT : Nat) (ts : List TT), ts.length = k3 ∧ At 26 wr g3 [.slice aV k1 cV, .slice aN k2 cN, .slice aT k3 cT] ∧ At 26 wr w.heap.size [.slice none 0 0, .slice none 0 0, .slice none 0 0] ∧ Gr eT M2 wr (.slice aT k3 cT) ts ∧ Rd B wr g l' ∧ But g w wr ∧ (RowVn M2 wr aV cV vs ∧ RowNn M2 wr aN cN ms) ∧ k3 + l'.length ≤ l.length ∧ l'.length + 1 ≤ f' ∧ M2 ≤ wr.heap.size ∧ D = ((threadsR f' l').bind fun ss r => .ok (ts.map TT.th ++ ss) r).bind fun ts r => .ok ⟨vs.map VT.vr, ms.map (fun m => m.data.toList), ts⟩ r)) (fun _ wr => tokLen wr g)
        case atStart => exact HI
        case round =>
          clear HI
          obtain ⟨l', f', aT, k3, cT, ts, hl3, hA3, hA2, hGT, hR, hbt, hst, hkl, hf', lM2, hD⟩ := hrel.out
          clear hrel
          obtain ⟨f', rfl⟩ : ∃ q, f' = q + 1 := ⟨f' - 1, by omega⟩
          have HD : Hid (D = ((threadsR (f' + 1) l').bind fun ss r => .ok (ts.map TT.th ++ ss) r).bind fun ts r => .ok ⟨vs.map VT.vr, ms.map (fun m => m.data.toList), ts⟩ r) := hD
          rw [threadsR] at HD
          clear hD
          have htk := hR.len
          by_cases c0 : (hdT l').text = [116, 104, 114, 101, 97, 100]
          focus
            rw [if_pos c0] at HD
            have htl := tail_lt (l := l') (by rw [c0]; decide)
            have C55 := takes_yes g l' ⟨#[116, 104, 114, 101, 97, 100]⟩ (by decide) c0 wr hR
            clear hR c0
          rotate_left
          focus
            rw [if_neg c0] at HD
            have hD' : D = .ok ⟨vs.map VT.vr, ms.map (fun m => m.data.toList), ts.map TT.th ++ []⟩ l' := HD.out
            rw [List.append_nil] at hD'
            subst hD'
            have C55 := takes_no g l' ⟨#[116, 104, 114, 101, 97, 100]⟩ (by decide) c0 wr hR
            clear hR c0 HD htk
          rotate_left
          all_goals
            go_wp2_with (go_at_call 55; refine C55.mono ?_; rintro r w2 ⟨rfl, hR, hb2⟩; refine Hid.out ?_)
            refine hidU ?_
            have hA2 := hb2.at hA2 (by omega)
            have hA3 := hb2.at hA3 (by omega)
            have hGT := hGT.but hb2 (by omega)
            have hbt := hbt.trans hb2
            have hst : RowVn M2 w2 aV cV vs ∧ RowNn M2 w2 aN cN ms := ⟨hst.1.stay HU.out.1 (Nat.le_refl _) fun q hq hl => hb2.block q (by omega) (by omega), hst.2.stay HU.out.2.1 HU.out.2.2 (Nat.le_refl _) fun q hq hl => hb2.block q (by omega) (by omega)⟩
            have l2 := hb2.size
            clear C55 hb2
          · go_wp2_with fail
            cases hN : threadR l'.tail
            focus
              rename_i t r3
              have hvl' := threadR_left l'.tail
              rw [hN] at hvl'
              have hr3 : r3.length < l'.tail.length := hvl'
              rw [hN] at HD
              have hD' : D = (((threadsR f' r3).bind fun ss r => .ok (t :: ss) r).bind fun ss r => .ok (ts.map TT.th ++ ss) r).bind fun ts r => .ok ⟨vs.map VT.vr, ms.map (fun m => m.data.toList), ts⟩ r := HD.out
              rw [Rs.bind_bind (threadsR f' r3)] at hD'
              clear HD hvl'
            rotate_left
            focus
              rename_i e p
              rw [hN] at HD
              have hD' : D = .bad e p := HD.out
              subst hD'
            rotate_left
            all_goals
              have hS0r : At 26 w2.drew g3 [.slice aV k1 cV, .slice aN k2 cN, .slice aT k3 cT] := hA3.drew
              refine wp_region_S (S := fun xS => At 26 xS g3 [.slice aV k1 cV, .slice aN k2 cN, .slice aT k3 cT]) (St := [7]) (by kernel_rfl) hS0r ?_
              have hB0 : Below w2.heap.size w2 w2.drew := Below.drew (Below.refl _ _)
              obtain ⟨x0r, hx0⟩ : ∃ x, x = w2.drew := ⟨_, rfl⟩
              rw [← hx0] at hS0r hB0 ⊢
              clear hx0
              intro hH
              refine wpAnyS_pure (i := 0) (oi := { dst := some 26, op := .fieldAddr 26 (.tmp 3) 2, type := _, pos := _, after := _, guard := none }) (v := .pointer (some ⟨g3, 2, none⟩)) rfl (by kernel_rfl) (by kernel_rfl) (by kernel_rfl) (by kernel_rfl) (fun _ _ _ h => h) (Or.inl ⟨by rfl, ?_⟩) hH (fun hH => ?_)
              · intro wS hSw
                go_simp
              simp only [Act.put, List.setIfInBounds_toArray, List.set_cons_zero, List.set_cons_succ]
              refine wpAnyS_take [5, 6, 7] (i := 1) (oi := { dst := some 27, op := .load 24 (.tmp 26), type := _, pos := _, after := _, guard := none }) (v := .slice aT k3 cT) rfl (by kernel_rfl) (by kernel_rfl) (by kernel_rfl) (by kernel_rfl) (by kernel_rfl) (by kernel_rfl) (by kernel_rfl) (fun _ _ _ h => h) (Or.inl ⟨by rfl, ?_⟩) hH (fun hH => ?_)
              · intro wS hSw
                have z0 := (c3_cells hSw).2.2
                go_simp
              simp only [Act.put, List.setIfInBounds_toArray, List.set_cons_zero, List.set_cons_succ]
              refine wpAnyS_pure (i := 2) (oi := { dst := some 28, op := .move (.tmp 0), type := _, pos := _, after := _, guard := none }) (v := .pointer (some ⟨g, 0, none⟩)) rfl (by kernel_rfl) (by kernel_rfl) (by kernel_rfl) (by kernel_rfl) (fun _ _ _ h => h) (Or.inl ⟨by rfl, ?_⟩) hH (fun hH => ?_)
              · intro wS hSw
                go_simp
              simp only [Act.put, List.setIfInBounds_toArray, List.set_cons_zero, List.set_cons_succ]
              refine wpAnyS_ready (rs := [3]) (by kernel_rfl) (by simp) ?_
              refine AllReadyS.cons (o := { dst := some 29, op := .call { callee := .value (.func 59), args := #[.tmp 28], argTypes := #[66] }, type := _, pos := _, after := _, guard := none }) rfl (fun K hK => ?_) AllReadyS.nil
              rw [if_pos (by rfl)]
              have CV := thread_any g l'.tail x0r (hR.below hB0) (by have := hB0.size; omega) (by omega)
              rw [hN] at CV
            · go_wp2_with (go_at_call 59; refine CV.mono ?_; rintro e' x1r ⟨y, rfl, hye, hyt, hR1, hb1r⟩)
              have ls0 := hB0.size
              have ls1 := hb1r.size
              have hS1r := (hb1r.at hS0r (by omega))
              refine hK.out _ _ (Hold.of hS1r) (fun hH => ?_)
              clear hK K
              refine wpAnyS_ready (rs := [4]) (by kernel_rfl) (by simp) ?_
              refine AllReadyS.cons (o := { dst := some 30, op := .buildSlice 24 1 #[(0, .tmp 29)], type := _, pos := _, after := _, guard := none }) rfl (fun K hK => ?_) AllReadyS.nil
              rw [if_pos (by rfl)]
              refine wp_layT (.tmp 29) rfl y.cells rfl rfl ?_
              intro x2r hA2r hb2r
              have ls2 := hb2r.size
              have hS2r := (hS1r.below hb2r)
              refine hK.out _ _ (Hold.of hS2r) (fun hH => ?_)
              clear hK K
              refine wpAnyS_ready (rs := [5]) (by kernel_rfl) (by simp) ?_
              refine AllReadyS.cons (o := { dst := some 31, op := .call { callee := .builtin .append, args := #[.tmp 27, .tmp 30], argTypes := #[24, 24] }, type := _, pos := _, after := _, guard := none }) rfl (fun K hK => ?_) AllReadyS.nil
              rw [if_pos (by rfl)]
              have hyin : eT.In x2r.heap.size x2r y := eT.stay (S := fun q => x0r.heap.size ≤ q) (show eT.In _ _ y from ⟨⟨hyt.1.1.1, hyt.2.1.1⟩, hyt.1.1.2, hyt.2.1.2.1, hyt.2.1.2.2⟩) (show y.Lies (fun q => x0r.heap.size ≤ q) from ⟨hyt.1.2, hyt.2.2.1, hyt.2.2.2⟩) hb2r.size (fun q hq hl => hb2r.block q hl)
              have hyoff : eT.Lies (fun q => M2 ≤ q ∧ some q ≠ (Value.slice aT k3 cT).ownBlock) y := Gr.fresh (hGT.below hB0) (show y.Lies (fun q => x0r.heap.size ≤ q) from ⟨hyt.1.2, hyt.2.2.1, hyt.2.2.2⟩)
              have hGx : Gr eT M2 x2r (.slice aT k3 cT) ts := (((hGT.below hB0).but hb1r (by omega)).below hb2r)
              refine wp_grow2 (e := eT) (A := M2) (ys := ts) (.tmp 27) (.tmp 30) 24 _ 64 rfl Tryz.underlying24 f53 rfl (by decide) rfl x1r.heap.size rfl hGx y hA2r hyin hyoff k3 hl3 (by omega) (by decide) ?_
              intro gW cW x3r hG3r hgb
              have hb3r : Below M2 x2r x3r := (Below.refl _ _).grown hgb hGx.size fun q hq => (hGx.own.lt q hq).1
              have ls3 := hb3r.size
              have hS3r := (hS2r.belowA hb3r hg3M2)
              refine hK.out _ _ (Hold.of hS3r) (fun hH => ?_)
              clear hK K
              refine wpAnyS_pure (i := 6) (oi := { dst := some 32, op := .fieldAddr 26 (.tmp 3) 2, type := _, pos := _, after := _, guard := none }) (v := .pointer (some ⟨g3, 2, none⟩)) rfl (by kernel_rfl) (by kernel_rfl) (by kernel_rfl) (by kernel_rfl) (fun _ _ _ h => h) (Or.inl ⟨by rfl, ?_⟩) hH (fun hH => ?_)
              · intro wS hSw
                go_simp
              simp only [Act.put, List.setIfInBounds_toArray, List.set_cons_zero, List.set_cons_succ]
              refine wpAnyS_ready (rs := [7]) (by kernel_rfl) (by simp) ?_
              refine AllReadyS.cons (o := { dst := none, op := .store 24 (.tmp 32) (.tmp 31), type := _, pos := _, after := _, guard := none }) rfl (fun K hK => ?_) AllReadyS.nil
              rw [if_pos (by rfl)]
              refine wp_store_one 24 (.tmp 32) (.tmp 31) rfl g3 2 (.slice (some ⟨gW, 0, none⟩) (k3 + 1) cW) rfl rfl 26 _ hS3r (show 2 + 1 ≤ 3 by decide) (by kernel_rfl) rfl rfl ?_
              intro x4r hA4r hb4r hs4r
              refine hK.out _ _ (Hold.over (s := 7) (by decide) (by rfl)) (fun hH => ?_)
              clear hK K
              refine wpAnyS_done (by kernel_rfl) ?_ _
              simp only [Act.put]
              have hR4 : Rd B x4r g r3 := ((hR1.below hb2r).low hb3r (by omega)).but hb4r (by omega)
              have hA24 : At 26 x4r w.heap.size [.slice none 0 0, .slice none 0 0, .slice none 0 0] := hb4r.at ((((hb1r.at (hA2.below hB0) (by omega)).below hb2r)).belowA hb3r (by omega)) (by omega)
              have hkeep : ∀ q, M ≤ q → q < M2 → x4r.heap[q]? = w2.heap[q]? := fun q h1 h2 => (hb4r.block q (by omega) (by omega)).trans ((hb3r.block q h2).trans ((hb2r.block q (by omega)).trans ((hb1r.block q (by omega) (by omega)).trans (hB0.block q (by omega)))))
              have HRel : Hid (∃ (l' : List Tk) (f' : Nat) (aT : Option Addr) (k3 cT : Nat) (ts : List TT), ts.length = k3 ∧ At 26 x4r g3 [.slice aV k1 cV, .slice aN k2 cN, .slice aT k3 cT] ∧ At 26 x4r w.heap.size [.slice none 0 0, .slice none 0 0, .slice none 0 0] ∧ Gr eT M2 x4r (.slice aT k3 cT) ts ∧ Rd B x4r g l' ∧ But g w x4r ∧ (RowVn M2 x4r aV cV vs ∧ RowNn M2 x4r aN cN ms) ∧ k3 + l'.length ≤ l.length ∧ l'.length + 1 ≤ f' ∧ M2 ≤ x4r.heap.size ∧ D = ((threadsR f' l').bind fun ss r => .ok (ts.map TT.th ++ ss) r).bind fun ts r => .ok ⟨vs.map VT.vr, ms.map (fun m => m.data.toList), ts⟩ r) := by
                refine ⟨r3, f', some ⟨gW, 0, none⟩, k3 + 1, cW, ts ++ [_], by rw [List.length_append, hl3]; rfl, hA4r, hA24, hG3r.but hb4r hg3M2, hR4, ?_, ⟨hst.1.stay HU.out.1 (Nat.le_refl _) hkeep, hst.2.stay HU.out.2.1 HU.out.2.2 (Nat.le_refl _) hkeep⟩, by omega, by omega, by have := hb4r.size; omega, ?_⟩
                · have h1 := ((hbt.trans (But.of_below hB0)).trans hb1r).trans (But.of_below hb2r)
                  have h2 : But g w x3r := ⟨hb3r.os.trans h1.os, hb3r.tape.trans h1.tape, hb3r.output.trans h1.output, Nat.le_trans h1.size hb3r.size, fun q hq hne => (hb3r.block q (by omega)).trans (h1.block q hq hne)⟩
                  exact h2.fresh hb4r (by omega)
                · rw [hD']
                  congr 2
                  funext ss r
                  show Rs.ok (ts.map TT.th ++ t :: ss) r = _
                  rw [List.map_append, List.append_assoc, ← hye]
                  rfl
              have hm : tokLen x4r g < tokLen wr g := by rw [hR4.len, htk]; omega
              clear hkeep hR4 hA24 hA4r hb4r hb3r hb2r hb1r hB0 hG3r hR1 hyt hye hyin hyoff hD' hA2 hA3 hGT hR hbt hst hA2r hGx hs4r ls0 ls1 ls2 ls3 htk hgb
              go_wp2_with fail
              go_roundw
              case rel => exact HRel
              case measure => exact hm
            · go_wp2_with (go_at_call 59; refine CV.mono ?_; rintro e' x1r ⟨hr, hb1r⟩; unfold PanW at hr; subst hr)
              exact ⟨rfl, rfl, (hbt.trans (But.of_below hB0)).trans hb1r⟩
          · have hcs : (⟨aV, cV, vs, aN, cN, ms, aT, cT, ts⟩ : PT).cells = [.slice aV k1 cV, .slice aN k2 cN, .slice aT k3 cT] := by
              show [Value.slice aV vs.length cV, .slice aN ms.length cN, .slice aT ts.length cT] = _
              rw [hl1, hl2, hl3]
            go_wp2_with (first
              | ((with_reducible show wpList _ _ _ _ _ _); refine wpList_load_at (P := Tryz.prog) rfl 26 (.tmp 3) rfl g3 rfl 26 [.slice aV k1 cV, .slice aN k2 cN, .slice aT k3 cT] hA3 _ Tryz.underlying26 rfl i26 ?_)
              | ((with_reducible show wpList _ _ _ _ _ _); refine wpList_store_at (P := Tryz.prog) rfl 26 (.tmp 2) (.tmp 33) rfl w.heap.size [.slice aV k1 cV, .slice aN k2 cN, .slice aT k3 cT] rfl rfl 26 _ hA2 i26 rfl (by rw [← hcs]; exact PT.one _) ?_; intro wE hAE hbE hsE; clear hsE))
            refine bodyPost_ret (results_at rfl _ _ w.heap.size 26 [.slice aV k1 cV, .slice aN k2 cN, .slice aT k3 cT] _ rfl hAE Tryz.underlying26 rfl i26) rfl ?_
            have hT := (hGT.but hbE (by omega)).threads (by omega)
            have lE := hbE.size
            have k1 := hst.1.stay (B' := wE.heap.size) (w' := wE) HU.out.1 (by omega) fun q hq hl => hbE.block q (by omega) (by omega)
            have k2 := hst.2.stay (B' := wE.heap.size) (w' := wE) HU.out.2.1 HU.out.2.2 (by omega) fun q hq hl => hbE.block q (by omega) (by omega)
            refine ⟨⟨aV, cV, vs, aN, cN, ms, aT, cT, ts⟩, by rw [hcs], rfl, ⟨⟨k1.1, k2.1, hT.1.1⟩, ⟨k1.2, k2.2, hT.1.2.1, hT.1.2.2⟩, HU.out.2.2⟩, ⟨at_imp (fun q hq => by omega) HU.out.1, at_imp (fun q hq => by omega) HU.out.2.1, at_imp (fun q hq => by omega) hT.2.1, fun y hy => eT.mono (hT.2.2 y hy) fun q hq => by omega⟩, hR.but hbE hBw, hbt.fresh hbE (Nat.le_refl _)⟩
end Go.Proofs.YtjgggmjjikopeaaGreatDoor

/- parse.Parse. -/
namespace Go.Proofs.YtjgggmjjikopeaaGreatDoor
open Go.RowKit
set_option linter.unusedVariables false

/-- No program. -/
def noP : PT := ⟨none, 0, [], none, 0, [], none, 0, []⟩
/-- What a text's program is, and its fault. -/
def pgO (l : List UInt8) (R : Rs Pg) : Pg × Nat × Nat :=
  if (lexS l).err = 0 then match R with
    | .bad e p => (noP.pg, e, p)
    | .ok x r => match endR r with
      | .bad e p => (noP.pg, e, p)
      | .ok _ _ => (x, 0, 0)
  else (noP.pg, (lexS l).err, (lexS l).place)
/-- A program that lies whole in blocks from A on. -/
def Py (A : Nat) (w : World) (y : PT) : Prop := y.Sn w.heap.size w ∧ y.Lies (fun k => A ≤ k)
theorem RowT.stay {S : Nat → Prop} {B B' c : Nat} {w w' : World} {a : Option Addr} {ks : List TT} (h : RowT B w a c ks) (hu : ks = [] ∨ ∃ g o, a = some ⟨g, o, none⟩ ∧ S g) (hL : ∀ t ∈ ks, t.Lies S) (hB : B ≤ B') (hk : ∀ k, S k → k < B → w'.heap[k]? = w.heap[k]?) : RowT B' w' a c ks := by
  obtain ⟨h1, h2, h | ⟨g, o, ha, hg, hr⟩⟩ := h
  · exact ⟨h1, h2, .inl h⟩
  · rcases hu with hu | ⟨g', o', ha', hg'⟩
    · exact ⟨h1, h2, .inl hu⟩
    · rw [ha] at ha'
      cases ha'
      have hl := hL
      refine ⟨h1, h2, .inr ⟨g, o, ha, by omega, fun i v hv => ⟨fun j x hj => ?_, (hr i v hv).2.1.stay (hL v (List.mem_of_getElem? hv)).1 hB hk, (hr i v hv).2.2.stay (hL v (List.mem_of_getElem? hv)).2.1 (hL v (List.mem_of_getElem? hv)).2.2 hB hk⟩⟩⟩
      rw [World.cell?_of_block (w := w) (hk g hg' hg)]
      exact (hr i v hv).1 j x hj
theorem Py.but {A k : Nat} {w w' : World} {y : PT} (h : Py A w y) (hb : But k w w') (hk : k < A ∨ w.heap.size ≤ k) : Py A w' y := by
  have hq : ∀ q, A ≤ q → q < w.heap.size → w'.heap[q]? = w.heap[q]? := fun q h1 h2 => hb.block q h2 (by omega)
  obtain ⟨⟨⟨i1, i2, i3⟩, ⟨s1, s2, s3, s4⟩, s5⟩, l1, l2, l3, l4⟩ := h
  have k1 := RowVn.stay (B' := w'.heap.size) (w' := w') ⟨i1, s1⟩ l1 hb.size hq
  have k2 := RowNn.stay (B' := w'.heap.size) (w' := w') ⟨i2, s2⟩ l2 s5 hb.size hq
  have hT : ∀ t ∈ y.threads, eT.In w.heap.size w t := fun t ht => by
    obtain ⟨_, _, q | ⟨g, o, ha, hg, hr⟩⟩ := i3
    · rw [q] at ht; cases ht
    · obtain ⟨i, hi⟩ := List.mem_iff_getElem?.1 ht
      exact ⟨(hr i t hi).2, s4 t ht⟩
  have hb3 : y.threads = [] ∨ ∃ g o, y.a3 = some ⟨g, o, none⟩ ∧ g < w.heap.size := by
    obtain ⟨_, _, q | ⟨g, o, ha, hg, hr⟩⟩ := i3
    · exact .inl q
    · exact .inr ⟨g, o, ha, hg⟩
  exact ⟨⟨⟨k1.1, k2.1, i3.stay l3 l4 hb.size hq⟩, ⟨k1.2, k2.2, at_lies (at_and l3 s3) hb3 (fun q hq' l => hq'.2.keep (hq q hq'.1 l)), fun t ht => (eT.stay (hT t ht) (l4 t ht) hb.size hq).2⟩, s5⟩, l1, l2, l3, l4⟩
theorem Py.low {A A' : Nat} {w : World} {y : PT} (h : Py A w y) (hA : A' ≤ A) : Py A' w y :=
  ⟨h.1, at_imp (fun q hq => Nat.le_trans hA hq) h.2.1, at_imp (fun q hq => Nat.le_trans hA hq) h.2.2.1, at_imp (fun q hq => Nat.le_trans hA hq) h.2.2.2.1, fun t ht => eT.mono (h.2.2.2.2 t ht) fun q hq => Nat.le_trans hA hq⟩
theorem noP_py (A : Nat) (w : World) : Py A w noP := ⟨⟨⟨⟨by simp [noP], Nat.le_refl _, .inl rfl⟩, ⟨by simp [noP], Nat.le_refl _, .inl rfl⟩, ⟨by simp [noP], Nat.le_refl _, .inl rfl⟩⟩, ⟨.inl rfl, .inl ⟨rfl, rfl⟩, .inl rfl, fun t ht => by cases ht⟩, fun _ => rfl⟩, .inl rfl, .inl rfl, .inl rfl, fun t ht => by cases ht⟩
/-- What parse.Parse tells. -/
def PostPP (w : World) (o : Pg × Nat × Nat) (r : Ending) (w' : World) : Prop :=
  ∃ y : PT, r = .returned (.tuple #[.agg y.cells.toArray, .agg (fa2 o.2.1 o.2.2).toArray]) ∧ y.pg = o.1 ∧ Py w.heap.size w' y ∧ Below w.heap.size w w'
theorem i26p (y : PT) : (Tryz.prog.info? 26).map (·.size) = some y.cells.length := i26
theorem len26 (y : PT) : ([.slice none 0 0, .slice none 0 0, .slice none 0 0] : List Value).length = y.cells.length := rfl
theorem toks_len (l : List UInt8) : (toksOf l).length ≤ 1048576 := by
  unfold toksOf
  have := (lexS_ok l).2
  rw [List.length_append]
  show _ + 1 ≤ _
  omega

set_option maxRecDepth 100000 in
set_option maxHeartbeats 3200000 in
theorem caughtP_some (b e p : Nat) (older : List PanicEntry) (w : World) (x y : Nat) (hA : At 29 w b (fa2 x y)) :
    CallsD Tryz.prog 23 #[.pointer (some ⟨b, 0, none⟩)] (.panicking ({ v := .iface 29 (.agg #[.int .i64 (e : Int), .int .i64 (p : Int)]), recovered := false } :: older)) w fun r u' w' =>
      r = .returned (.tuple #[]) ∧ u' = .panicking ({ v := .iface 29 (.agg #[.int .i64 (e : Int), .int .i64 (p : Int)]), recovered := true } :: older) ∧ At 29 w' b (fa2 e p) ∧ But b w w' := by
  refine callsD_of_wpS Tryz.func23 rfl fun c₀ cs hu => ?_
  apply wpS_region
  simp [wpOpsS, go_sem, recoverD, hu, Tryz.ntmps23]
  refine (faultOf_some e p w).mono ?_
  rintro r w1 ⟨rfl, hb1⟩
  have hA1 := hA.below hb1
  have z0 := hA1.frozen 0
  have z1 := hA1.frozen 1
  obtain ⟨c0, c1⟩ := fa_cells hA1
  have hA2 : At 29 ((w1.setCell ⟨b, 0, none⟩ (.int .i64 (e : Int))).setCell ⟨b, 1, none⟩ (.int .i64 (p : Int))) b (fa2 e p) := (hA1.set 0 _).set 1 _
  have hB2 : But b w ((w1.setCell ⟨b, 0, none⟩ (.int .i64 (e : Int))).setCell ⟨b, 1, none⟩ (.int .i64 (p : Int))) := ((But.of_below hb1).setCell 0 _).setCell 1 _
  simp [fa2, go_sem, c0, c1, z0, z1, bodyPostS, results, Tryz.results23]
  exact ⟨hA2, hB2⟩

set_option maxRecDepth 100000 in
set_option maxHeartbeats 3200000 in
theorem caughtP_nil (b : Nat) (w : World) (x y : Nat) (hA : At 29 w b (fa2 x y)) :
    CallsD Tryz.prog 23 #[.pointer (some ⟨b, 0, none⟩)] .returning w fun r u' w' => r = .returned (.tuple #[]) ∧ u' = .returning ∧ At 29 w' b (fa2 0 0) ∧ But b w w' := by
  refine callsD_of_wpS Tryz.func23 rfl fun c₀ cs hu => ?_
  apply wpS_region
  simp [wpOpsS, go_sem, recoverD, hu, Tryz.ntmps23]
  refine (faultOf_nil w).mono ?_
  rintro r w1 ⟨rfl, hb1⟩
  have hA1 := hA.below hb1
  have z0 := hA1.frozen 0
  have z1 := hA1.frozen 1
  obtain ⟨c0, c1⟩ := fa_cells hA1
  have hA2 : At 29 ((w1.setCell ⟨b, 0, none⟩ (.int .i64 0)).setCell ⟨b, 1, none⟩ (.int .i64 0)) b (fa2 0 0) := (hA1.set 0 _).set 1 _
  have hB2 : But b w ((w1.setCell ⟨b, 0, none⟩ (.int .i64 0)).setCell ⟨b, 1, none⟩ (.int .i64 0)) := ((But.of_below hb1).setCell 0 _).setCell 1 _
  cases c₀
  simp_all [fa2, go_sem, bodyPostS, results, Tryz.results23]

set_option maxRecDepth 100000 in
set_option maxHeartbeats 6400000 in
theorem parseP_any (s : ByteArray) (w : World) (hmax : s.size ≤ 9223372036854775807) (hE : ErrR w) :
    Calls Tryz.prog 8 #[.string s] w fun r w' => PostPP w (pgO (bytes s) (programR (toksOf (bytes s)))) r w' := by
  have HO : Hid (∀ u, Below w.heap.size w u → Calls Tryz.prog 25 #[.string s] u fun r w' => PostO u (bytes s) r w') := fun u hu => open_any s u hmax (hE.below hu)
  have hmf : ∀ (fn : Fn) (first cap : Array Value) (w : World), (Instr.makeFunc fn first cap).run Tryz.prog w = .ok (.func fn first cap) w := fun _ _ _ _ => rfl
  unfold PostO at HO
  unfold pgO
  by_cases hc : (lexS (bytes s)).err = 0
  · rw [if_pos hc]
    simp only [if_pos hc] at HO
    have HX : Hid (∀ (g : Nat) (u : World), Rd u.heap.size u g (toksOf (bytes s)) → Calls Tryz.prog 26 #[.pointer (some ⟨g, 0, none⟩)] u fun r w' => PostPg u.heap.size g u (programR (toksOf (bytes s))) r w') := fun g u hu => program_any g _ u hu (Nat.le_refl _) (toks_len _)
    clear hc hE
    generalize programR (toksOf (bytes s)) = R at HX ⊢
    cases R with
    | bad e p =>
      go_enter_defers Tryz.func8, Tryz.ntmps8
      go_wp2_with (first
        | ((with_reducible show wpList _ _ _ _ _ _); refine wpList_alloc_at (o := { dst := some 2, .. }) rfl 26 rfl [.slice none 0 0, .slice none 0 0, .slice none 0 0] 3 zz26 ?_; intro w1 hA1 hb1 hs1; clear hs1)
        | ((with_reducible show wpList _ _ _ _ _ _); refine wpList_alloc_at (o := { dst := some 3, .. }) rfl 29 rfl (fa2 0 0) 2 z25 ?_; intro w2 hA2 hb2 hs2; clear hs2)
        | (go_at_call 25; refine (HO.out _ (hb1.trans (hb2.mono hb1.size))).mono ?_; rintro _ w3 ⟨g, rfl, hRd, hg, hb3⟩)
        | (go_at_call 26; refine (HX.out g _ hRd).mono ?_; rintro r w4 ⟨hr, hb4⟩; unfold PanW at hr; subst hr))
      have l1 := hA1.lt
      have l2 := hA2.lt
      have l3 := hb3.size
      have l4 := hb4.size
      have hB4 : Below w.heap.size w w4 := hb4.below ((hb1.trans (hb2.mono hb1.size)).trans (hb3.mono (by omega))) (by omega) (by omega)
      refine leaves_cons (f := 23) (args := #[.pointer (some ⟨w1.heap.size, 0, none⟩)]) (by simp) (by simp [go_sem]) ?_
      refine (caughtP_some w1.heap.size e p [] w4 0 0 (hb4.at (hA2.below hb3) (by omega))).mono ?_
      rintro _ u' w9 ⟨rfl, rfl, hA9, hb9⟩
      have hA19 : At 26 w9 w.heap.size noP.cells := hb9.at (hb4.at ((hA1.below hb2).below hb3) (by omega)) (by omega)
      have hB9 : Below w.heap.size w w9 := hb9.below hB4 (by omega) hB4.size
      have hres := results_two (P := Tryz.prog) (fn := Tryz.f8) (p := 2) (q := 3) (ty := 26) (tz := 29) rfl #[.string s, undef, .pointer (some ⟨w.heap.size, 0, none⟩), .pointer (some ⟨w1.heap.size, 0, none⟩), .pointer (some ⟨g, 0, none⟩), undef, .func (.func 23) #[] #[.pointer (some ⟨w1.heap.size, 0, none⟩)], .string s, .pointer (some ⟨g, 0, none⟩), .pointer (some ⟨g, 0, none⟩), undef, undef, undef, undef, undef] w9 w.heap.size w1.heap.size 26 29 noP.cells (fa2 e p) _ _ rfl rfl hA19 hA9 Tryz.underlying26 rfl (i26p _) Tryz.underlying29 rfl i25
      exact ⟨_, hres, noP, rfl, rfl, noP_py _ _, hB9⟩
    | ok x r =>
      have HE : Hid (∀ (B g : Nat) (u : World), Rd B u g r → Calls Tryz.prog 27 #[.pointer (some ⟨g, 0, none⟩)] u fun q w' => PostU B g u (endR r) q w') := fun B g u hu => end_any g r u hu
      dsimp only
      cases hn : endR r
      focus
        rename_i u1 r1
      rotate_left
      focus
        rename_i e p
      rotate_left
      all_goals
        rw [hn] at HE
        dsimp only
        go_enter_defers Tryz.func8, Tryz.ntmps8
        go_wp2_with (first
          | ((with_reducible show wpList _ _ _ _ _ _); refine wpList_alloc_at (o := { dst := some 2, .. }) rfl 26 rfl [.slice none 0 0, .slice none 0 0, .slice none 0 0] 3 zz26 ?_; intro w1 hA1 hb1 hs1; clear hs1)
          | ((with_reducible show wpList _ _ _ _ _ _); refine wpList_alloc_at (o := { dst := some 3, .. }) rfl 29 rfl (fa2 0 0) 2 z25 ?_; intro w2 hA2 hb2 hs2; clear hs2)
          | (go_at_call 25; refine (HO.out _ (hb1.trans (hb2.mono hb1.size))).mono ?_; rintro _ w3 ⟨g, rfl, hRd, hg, hb3⟩)
          | (go_at_call 26; refine (HX.out g _ hRd).mono ?_; rintro _ w4 ⟨y, rfl, he, hTi, hTl, hR4, hb4⟩)
          | ((with_reducible show wpList _ _ _ _ _ _); refine wpList_alloc_at (o := { dst := some 5, .. }) rfl 26 rfl [.slice none 0 0, .slice none 0 0, .slice none 0 0] 3 zz26 ?_; intro w5 hA5 hb5 hs5; clear hs5)
          | ((with_reducible show wpList _ _ _ _ _ _); refine wpList_store_at (P := Tryz.prog) rfl 26 (.tmp 5) (.tmp 10) rfl w4.heap.size y.cells rfl rfl 26 _ hA5 (i26p _) (len26 _) (PT.one _) ?_; intro w6 hA6 hb6 hs6; clear hs6; refine Hid.out ?_))
        refine hidU ?_
        have l1 := hA1.lt
        have l2 := hA2.lt
        have l3 := hb3.size
        have l4 := hb4.size
        have l5 := hA5.lt
        have l6 := hb6.size
        have hB4 : Below w.heap.size w w4 := hb4.below ((hb1.trans (hb2.mono hb1.size)).trans (hb3.mono (by omega))) (by omega) (by omega)
        have hB6 : Below w.heap.size w w6 := hb6.below (hB4.trans (hb5.mono hB4.size)) (by omega) (by omega)
        have hA26 := hb6.at ((hb4.at (hA2.below hb3) (by omega)).below hb5) (by omega)
        have hA16 := hb6.at ((hb4.at ((hA1.below hb2).below hb3) (by omega)).below hb5) (by omega)
        have lg := hRd.lt
        have hT6 : Py w3.heap.size w6 y := Py.but (w := w4) ⟨hTi, hTl⟩ ((But.of_below (g := g) hb5).fresh hb6 (Nat.le_refl _)) (.inl lg)
        have hR6 := (hR4.below hb5).but hb6 (by omega)
        clear hA1 hA2 hA5 hb1 hb2 hb3 hb4 hb5 hb6 hTi hTl hR4 hRd
      focus
        go_wp2_with (first
          | (go_at_call 27; refine (HE.out _ g _ hR6).mono ?_; rintro q w7 ⟨rfl, hR7, hb7⟩; refine Hid.out ?_))
        refine hidU ?_
      rotate_left
      focus
        go_wp2_with (first
          | (go_at_call 27; refine (HE.out _ g _ hR6).mono ?_; rintro q w7 ⟨hq, hb7⟩; unfold PanW at hq; subst hq))
      rotate_left
      all_goals
        have hB7 : Below w.heap.size w w7 := hb7.below hB6 (by omega) hB6.size
      focus
        have hA57 := hb7.at hA6 (by omega)
        have hA17 := hb7.at hA16 (by omega)
        have hA27 := hb7.at hA26 (by omega)
        have hT7 := hT6.but hb7 (.inl lg)
        have l7 := hb7.size
        clear hb7 hA6 hA16 hA26 hT6 HE HX HO
        go_wp2_with (first
          | ((with_reducible show wpList _ _ _ _ _ _); refine wpList_load_at (P := Tryz.prog) rfl 26 (.tmp 5) rfl w4.heap.size rfl 26 y.cells hA57 _ Tryz.underlying26 rfl (i26p _) ?_)
          | ((with_reducible show wpList _ _ _ _ _ _); refine wpList_build_at rfl 29 _ rfl (fa2 0 0) (by kernel_rfl) ?_)
          | ((with_reducible show wpList _ _ _ _ _ _); refine wpList_store_at (P := Tryz.prog) rfl 26 (.tmp 2) (.tmp 13) rfl w.heap.size y.cells rfl rfl 26 _ hA17 (i26p _) (len26 _) (PT.one _) ?_; intro w8 hA8 hb8 hs8; clear hs8; have hA28 := hb8.at hA27 (by omega))
          | ((with_reducible show wpList _ _ _ _ _ _); refine wpList_store_at (P := Tryz.prog) rfl 29 (.tmp 3) (.tmp 14) rfl w1.heap.size (fa2 0 0) rfl rfl 29 _ hA28 i25 rfl (one2f _ _) ?_; intro w9 hA9 hb9 hs9; clear hs9))
      all_goals
        refine leaves_cons (f := 23) (args := #[.pointer (some ⟨w1.heap.size, 0, none⟩)]) (by simp) (by simp [go_sem]) ?_
      · refine (caughtP_nil w1.heap.size w9 0 0 hA9).mono ?_
        rintro _ u' w10 ⟨rfl, rfl, hA10, hb10⟩
        have hA1a : At 26 w10 w.heap.size y.cells := hb10.at (hb9.at hA8 (by omega)) (by omega)
        have hB10 : Below w.heap.size w w10 := hb10.below (hb9.below (hb8.below hB7 (Nat.le_refl _) hB7.size) (by omega) (by have := hb8.size; omega)) (by omega) (by have := hb8.size; have := hb9.size; omega)
        have hT10 : Py w.heap.size w10 y := (((hT7.but hb8 (.inl (by omega))).but hb9 (.inl (by omega))).but hb10 (.inl (by omega))).low (by omega)
        have hres := results_two (P := Tryz.prog) (fn := Tryz.f8) (p := 2) (q := 3) (ty := 26) (tz := 29) rfl #[.string s, undef, .pointer (some ⟨w.heap.size, 0, none⟩), .pointer (some ⟨w1.heap.size, 0, none⟩), .pointer (some ⟨g, 0, none⟩), .pointer (some ⟨w4.heap.size, 0, none⟩), .func (.func 23) #[] #[.pointer (some ⟨w1.heap.size, 0, none⟩)], .string s, .pointer (some ⟨g, 0, none⟩), .pointer (some ⟨g, 0, none⟩), .agg y.cells.toArray, .pointer (some ⟨g, 0, none⟩), .tuple #[], .agg y.cells.toArray, .agg (fa2 0 0).toArray] w10 w.heap.size w1.heap.size 26 29 y.cells (fa2 0 0) _ _ rfl rfl hA1a hA10 Tryz.underlying26 rfl (i26p _) Tryz.underlying29 rfl i25
        exact ⟨_, hres, y, rfl, he, hT10, hB10⟩
      · refine (caughtP_some w1.heap.size e p [] w7 0 0 (hb7.at hA26 (by omega))).mono ?_
        rintro _ u' w9 ⟨rfl, rfl, hA9, hb9⟩
        have hA19 : At 26 w9 w.heap.size noP.cells := hb9.at (hb7.at hA16 (by omega)) (by omega)
        have hB9 : Below w.heap.size w w9 := hb9.below hB7 (by omega) hB7.size
        have hres := results_two (P := Tryz.prog) (fn := Tryz.f8) (p := 2) (q := 3) (ty := 26) (tz := 29) rfl #[.string s, undef, .pointer (some ⟨w.heap.size, 0, none⟩), .pointer (some ⟨w1.heap.size, 0, none⟩), .pointer (some ⟨g, 0, none⟩), .pointer (some ⟨w4.heap.size, 0, none⟩), .func (.func 23) #[] #[.pointer (some ⟨w1.heap.size, 0, none⟩)], .string s, .pointer (some ⟨g, 0, none⟩), .pointer (some ⟨g, 0, none⟩), .agg y.cells.toArray, .pointer (some ⟨g, 0, none⟩), undef, undef, undef] w9 w.heap.size w1.heap.size 26 29 noP.cells (fa2 e p) _ _ rfl rfl hA19 hA9 Tryz.underlying26 rfl (i26p _) Tryz.underlying29 rfl i25
        exact ⟨_, hres, noP, rfl, rfl, noP_py _ _, hB9⟩
  · rw [if_neg hc]
    simp only [if_neg hc] at HO
    generalize (lexS (bytes s)).err = er at *
    generalize (lexS (bytes s)).place = pl at *
    go_enter_defers Tryz.func8, Tryz.ntmps8
    go_wp2_with (first
      | ((with_reducible show wpList _ _ _ _ _ _); refine wpList_alloc_at (o := { dst := some 2, .. }) rfl 26 rfl [.slice none 0 0, .slice none 0 0, .slice none 0 0] 3 zz26 ?_; intro w1 hA1 hb1 hs1; clear hs1)
      | ((with_reducible show wpList _ _ _ _ _ _); refine wpList_alloc_at (o := { dst := some 3, .. }) rfl 29 rfl (fa2 0 0) 2 z25 ?_; intro w2 hA2 hb2 hs2; clear hs2)
      | (go_at_call 25; refine (HO.out _ (hb1.trans (hb2.mono hb1.size))).mono ?_; rintro r w3 ⟨hr, hb3⟩; unfold PanW at hr; subst hr))
    refine leaves_cons (f := 23) (args := #[.pointer (some ⟨w1.heap.size, 0, none⟩)]) (by simp) (by simp [go_sem]) ?_
    have l1 := hA1.lt
    refine (caughtP_some w1.heap.size er pl [] w3 0 0 (hA2.below hb3)).mono ?_
    rintro e u' w9 ⟨rfl, rfl, hA9, hb9⟩
    have hA19 : At 26 w9 w.heap.size noP.cells := hb9.at ((hA1.below hb2).below hb3) (by omega)
    have hB9 : Below w.heap.size w w9 := hb9.below ((hb1.trans (hb2.mono hb1.size)).trans (hb3.mono (Nat.le_trans hb1.size hb2.size))) hb1.size (by have := hb1.size; have := hb2.size; have := hb3.size; omega)
    have hres := results_two (P := Tryz.prog) (fn := Tryz.f8) (p := 2) (q := 3) (ty := 26) (tz := 29) rfl #[.string s, undef, .pointer (some ⟨w.heap.size, 0, none⟩), .pointer (some ⟨w1.heap.size, 0, none⟩), undef, undef, .func (.func 23) #[] #[.pointer (some ⟨w1.heap.size, 0, none⟩)], .string s, undef, undef, undef, undef, undef, undef, undef] w9 w.heap.size w1.heap.size 26 29 noP.cells (fa2 er pl) _ _ rfl rfl hA19 hA9 Tryz.underlying26 rfl (i26p _) Tryz.underlying29 rfl i25
    exact ⟨_, hres, noP, rfl, rfl, noP_py _ _, hB9⟩

end Go.Proofs.YtjgggmjjikopeaaGreatDoor
