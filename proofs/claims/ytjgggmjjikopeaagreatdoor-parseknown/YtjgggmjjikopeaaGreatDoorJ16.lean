/- Joined texts of the proof. -/
import Derived.Test.YtjgggmjjikopeaaGreatDoorJ15
import Derived.Test.YtjgggmjjikopeaaGreatDoorJ1
import Derived.Test.YtjgggmjjikopeaaGreatDoorJ12
import Derived.Laws.Tables

/- The reader of programs: blocks, choices. -/
namespace Go.Proofs.YtjgggmjjikopeaaGreatDoor
open Go.RowKit
set_option linter.unusedVariables false

/-- A choice behind its first word. -/
def choiceR (f d : Nat) (l : List Tk) : Rs St := (exprR l).bind fun e r => (blockR f d r).bind fun b r => (elseR f d r).bind fun c r => .ok (.mk 5 [] e b c) r
def StmtsW (n : Nat) : Prop := ∀ (l : List Tk) (f d : Nat), l.length ≤ n → 4 * l.length + 4 ≤ f → d ≤ 32 → l.length ≤ 1048576 → ∀ (B g : Nat) (w : World), Rd B w g l → B ≤ w.heap.size →
  Calls Tryz.prog 96 #[.pointer (some ⟨g, 0, none⟩), .int .i64 (d : Int)] w (PostL B g w (stmtsR f d l))
def BlockW (n : Nat) : Prop := ∀ (l : List Tk) (f d : Nat), l.length ≤ n → 4 * l.length + 1 ≤ f → d ≤ 32 → l.length ≤ 1048576 → ∀ (B g : Nat) (w : World), Rd B w g l → B ≤ w.heap.size →
  Calls Tryz.prog 163 #[.pointer (some ⟨g, 0, none⟩), .int .i64 (d : Int)] w (PostL B g w (blockR f d l))
def StmtW (n : Nat) : Prop := ∀ (l : List Tk) (f d : Nat), l.length ≤ n → 4 * l.length + 3 ≤ f → d ≤ 32 → l.length ≤ 1048576 → ∀ (B g : Nat) (w : World), Rd B w g l → B ≤ w.heap.size →
  Calls Tryz.prog 129 #[.pointer (some ⟨g, 0, none⟩), .int .i64 (d : Int)] w (PostS B g w (stmtR f d l))
def ChoiceW (n : Nat) : Prop := ∀ (l : List Tk) (f d : Nat), l.length ≤ n → 4 * l.length + 3 ≤ f → d ≤ 32 → l.length ≤ 1048576 → ∀ (B g : Nat) (w : World), Rd B w g l → B ≤ w.heap.size →
  Calls Tryz.prog 162 #[.pointer (some ⟨g, 0, none⟩), .int .i64 (d : Int)] w (PostS B g w (choiceR f d l))
theorem Rd.pos {B : Nat} {w : World} {g : Nat} {l : List Tk} (h : Rd B w g l) : 0 < l.length := by
  obtain ⟨_, _, _, h, _⟩ := h
  exact List.length_pos_iff.2 h.ends.ne
theorem Tl.but {A k : Nat} {w w' : World} {a : Option Addr} {c : Nat} {ys : List ST} (h : Tl A w a c ys) (hb : But k w w') (hk : k < A ∨ w.heap.size ≤ k) : Tl A w' a c ys := by
  obtain ⟨⟨h1, h2, h3⟩, h4, h5⟩ := h
  refine ⟨⟨h1, h2, ?_⟩, h4, h5⟩
  rcases h3 with h3 | ⟨g, o, ha, hg, hr⟩
  · exact .inl h3
  · rcases h4 with h4 | ⟨g', o', ha', hg'⟩
    · exact .inl h4
    · rw [ha] at ha'
      cases ha'
      exact .inr ⟨g, o, ha, Nat.lt_of_lt_of_le hg hb.size, ST.Row.up hb.size (ST.Row.stay (S := fun j => A ≤ j) (fun j hj hl => hb.block j hl (by omega)) hg' hg hr h5)⟩
theorem Tl.below {A : Nat} {w w' : World} {a : Option Addr} {c : Nat} {ys : List ST} (h : Tl A w a c ys) (hb : Below w.heap.size w w') : Tl A w' a c ys := h.but (But.of_below (g := w.heap.size) hb) (.inr (Nat.le_refl _))
theorem Tl.low {A A' : Nat} {w : World} {a : Option Addr} {c : Nat} {ys : List ST} (h : Tl A w a c ys) (hA : A' ≤ A) : Tl A' w a c ys := by
  refine ⟨h.1, ?_, h.2.2.mono fun k hk => Nat.le_trans hA hk⟩
  rcases h.2.1 with q | ⟨g, o, ha, hg⟩
  · exact .inl q
  · exact .inr ⟨g, o, ha, by omega⟩
theorem Tl.nil (A : Nat) (w : World) : Tl A w none 0 [] := ⟨⟨by simp, Nat.le_refl _, .inl rfl⟩, .inl rfl, by unfold ST.LiesL; trivial⟩
theorem ts_mk {A : Nat} {w : World} (k : Int) (hk : -9223372036854775808 ≤ k ∧ k ≤ 9223372036854775807) (nm : ByteArray) {e : ET} (he : Tw A w e) {a1 a2 : Option Addr} {c1 c2 : Nat} {b1 b2 : List ST} (h1 : Tl A w a1 c1 b1) (h2 : Tl A w a2 c2 b2) : Ts A w (.mk k nm e a1 c1 b1 a2 c2 b2) := by
  refine ⟨?_, ?_⟩
  · unfold ST.In
    exact ⟨hk, he.1, h1.1, h2.1⟩
  · unfold ST.Lies
    exact ⟨he.2, ⟨h1.2.1, h1.2.2⟩, h2.2.1, h2.2.2⟩

set_option maxRecDepth 100000 in
set_option maxHeartbeats 6400000 in
theorem block_of (n : Nat) (hS : StmtsW n) : BlockW (n + 1) := by
  intro l f d hln hf hd hlm B g w h hBw
  have hpos := h.pos
  obtain ⟨f, rfl⟩ : ∃ q, f = q + 1 := ⟨f - 1, by omega⟩
  have lg := h.lt
  have hml := mustR_left (x := [123]) (l := l) (by decide)
  have H92 := next_any g l w h
  have HM : Hid (∀ u, Below w.heap.size w u → Calls Tryz.prog 58 #[.pointer (some ⟨g, 0, none⟩), .string ⟨#[123]⟩] u (PostU B g u (mustR [123] l))) := fun u hu => must_any g l ⟨#[123]⟩ (by decide) u (h.below hu)
  obtain ⟨D, hD⟩ : ∃ D, Hid (D = blockR (f + 1) d l) := ⟨_, (rfl : blockR (f + 1) d l = _)⟩
  rw [← hD.out]
  rw [blockR] at hD
  clear h
  generalize mustR [123] l = N at HM hD hml
  generalize hdT l = t0 at H92 hD
  obtain ⟨K0, T0, p0, b0⟩ := t0
  have H92 : Calls Tryz.prog 92 #[.pointer (some ⟨g, 0, none⟩)] w fun r w' => r = .returned (.agg #[.int .i64 (K0 : Int), .string ⟨T0.toArray⟩, .int .i64 (p0 : Int), .int .u8 (valT K0 : Nat), .int .u64 (b0 : Nat)]) ∧ Below w.heap.size w w' := H92
  dsimp only at hD
  generalize valT K0 = tv0 at H92
  have hf0 := fun u => field_place K0 ⟨T0.toArray⟩ p0 tv0 b0 u
  have HS : Hid (StmtsW n) := hS
  clear hS
  go_enter Tryz.func163, Tryz.ntmps163
  go_wp2_with (go_at_call 92; refine H92.mono ?_; rintro r w1 ⟨rfl, hb1⟩; refine Hid.out ?_)
  refine hidU ?_
  have C58 := HM.out w1 hb1
  clear H92 HM
  cases N with
  | bad e p =>
    have hD' : D = .bad e p := hD.out
    subst hD'
    go_wp2_with (go_at_call 58; refine C58.mono ?_; rintro r w2 ⟨hr, hb2⟩; unfold PanW at hr; subst hr)
    exact ⟨rfl, rfl, (But.of_below hb1).trans hb2⟩
  | ok u r1 =>
  have hr1 : r1.length < l.length := hml
  have hD1 : Hid (D = if 32 ≤ d then .bad 160 p0 else stmtsR f (d + 1) r1) := hD
  clear hD hml
  go_wp2_with (go_at_call 58; refine C58.mono ?_; rintro r w2 ⟨rfl, hR2, hb2⟩; refine Hid.out ?_)
  refine hidU ?_
  have hbt : But g w w2 := (But.of_below hb1).trans hb2
  have l12 := hbt.size
  clear C58 hb1 hb2 hf0
  by_cases h32 : 32 ≤ d
  · have hD' := hD1.out
    rw [if_pos h32] at hD'
    subst hD'
    have e32 : decide ((d : Int) ≥ 32) = true := decide_eq_true (by omega)
    clear hD1 HS hR2
    go_wp2_with (go_at_call 54; refine (refuse_any 160 p0 _).mono ?_; rintro r w3 ⟨hr, rfl⟩; unfold PanW at hr; subst hr)
    all_goals first
      | (exfalso; omega)
      | exact ⟨rfl, rfl, hbt⟩
  · have hD' := hD1.out
    rw [if_neg h32] at hD'
    have C96 := HS.out r1 f (d + 1) (by omega) (by omega) (by omega) (by omega) B g w2 hR2 (by omega)
    have e1 : IntKind.i64.wrap ((d : Int) + 1) = ((d + 1 : Nat) : Int) := by rw [IntKind.wrap_i64]; omega
    generalize stmtsR f (d + 1) r1 = N at C96 hD'
    obtain ⟨d', hd'⟩ : ∃ q, q = d + 1 := ⟨_, rfl⟩
    rw [← hd'] at C96 e1
    subst hD'
    clear hD1 HS hR2 hd'
    cases D with
    | bad e p =>
      go_wp2_with (go_at_call 96; refine C96.mono ?_; rintro r w3 ⟨hr, hb3⟩; unfold PanW at hr; subst hr)
      all_goals first
        | (exfalso; omega)
        | exact ⟨rfl, rfl, hbt.trans hb3⟩
    | ok ss r2 =>
      go_wp2_with (go_at_call 96; refine C96.mono ?_; rintro r w3 ⟨a, c, ys, rfl, hys, hT, hR3, hb3⟩)
      all_goals first
        | (exfalso; omega)
        | (go_ret; exact ⟨a, c, ys, rfl, hys, hT.low l12, hR3, hbt.trans hb3⟩)

set_option maxRecDepth 100000 in
set_option maxHeartbeats 6400000 in
theorem choice_of (n : Nat) (hS : BlockW n) : ChoiceW n := by
  intro l f d hln hf hd hlm B g w h hBw
  have hpos := h.pos
  obtain ⟨f, rfl⟩ : ∃ q, f = q + 1 := ⟨f - 1, by omega⟩
  have lg := h.lt
  have HX : Hid (∀ u, Below w.heap.size w u → Calls Tryz.prog 38 #[.pointer (some ⟨g, 0, none⟩), .int .i64 0] u (PostX B g u (exprR l))) := fun u hu => expr38_any g l u (h.below hu) (Nat.le_trans hBw hu.size)
  have hxl := exprR_left l
  obtain ⟨D, hD⟩ : ∃ D, Hid (D = choiceR (f + 1) d l) := ⟨_, (rfl : choiceR (f + 1) d l = _)⟩
  rw [← hD.out]
  unfold choiceR at hD
  have HS : Hid (BlockW n) := hS
  clear h hS
  generalize exprR l = N at HX hD hxl
  go_enter Tryz.func162, Tryz.ntmps162
  go_wp2_with (first
    | ((with_reducible show wpList _ _ _ _ _ _); refine wpList_alloc_at (o := { dst := some 4, .. }) rfl 51 rfl (ST.cells (.mk 0 ⟨#[]⟩ (ET.mk 0 0 0 ⟨#[]⟩ none 0 []) none 0 [] none 0 [])) 9 z51 ?_; intro w1 hA4 hb1 hs1; clear hs1)
    | ((with_reducible show wpList _ _ _ _ _ _); refine wpList_build_at rfl 51 _ rfl [.int .i64 5, .string ⟨#[]⟩, .int .u8 0, .int .u8 0, .int .u64 0, .string ⟨#[]⟩, .slice none 0 0, .slice none 0 0, .slice none 0 0] (by kernel_rfl) ?_)
    | ((with_reducible show wpList _ _ _ _ _ _); refine wpList_alloc_at (o := { dst := some 5, .. }) rfl 51 rfl (ST.cells (.mk 0 ⟨#[]⟩ (ET.mk 0 0 0 ⟨#[]⟩ none 0 []) none 0 [] none 0 [])) 9 z51 ?_; intro w2 hA5 hb2 hs2; clear hs2)
    | ((with_reducible show wpList _ _ _ _ _ _); refine wpList_store_at (P := Tryz.prog) rfl 51 (.tmp 5) (.tmp 6) rfl w1.heap.size [.int .i64 5, .string ⟨#[]⟩, .int .u8 0, .int .u8 0, .int .u64 0, .string ⟨#[]⟩, .slice none 0 0, .slice none 0 0, .slice none 0 0] rfl rfl 51 _ hA5 i38 rfl (by intro v hv; simp at hv; rcases hv with rfl | rfl | rfl | rfl | rfl | rfl | rfl | rfl | rfl <;> rfl) ?_; intro w3 hA5 hb3 hs3; clear hs3; refine Hid.out ?_))
  refine hidU ?_
  have l01 := hA4.lt
  have l12 := hb2.size
  have h13 : Below w1.heap.size w1 w3 := hb3.below hb2 (Nat.le_refl _) hb2.size
  have hw3 : Below w.heap.size w w3 := hb1.trans (h13.mono hb1.size)
  have hA4 := hA4.below h13
  have l13 := hA5.lt
  have CX := HX.out w3 hw3
  obtain ⟨g5, hg5⟩ : ∃ q, q = w1.heap.size := ⟨_, rfl⟩
  rw [← hg5] at hA5 l13 ⊢
  have lg5 : w.heap.size < g5 := by omega
  have hbt : But g w w3 := But.of_below hw3
  have l03 := hw3.size
  clear HX hb1 hb2 hb3 h13 hw3 l01 l12 hg5
  cases N with
  | bad e p =>
    have hD' : D = .bad e p := hD.out
    subst hD'
    go_wp2_with (go_at_call 38; refine CX.mono ?_; rintro r w4 ⟨hr, hb4⟩; unfold PanW at hr; subst hr)
    exact ⟨rfl, rfl, hbt.trans hb4⟩
  | ok e r1 =>
  have hr1 : r1.length < l.length := hxl
  have hD1 : Hid (D = (blockR (f + 1) d r1).bind fun b r => (elseR (f + 1) d r).bind fun c r => .ok (.mk 5 [] e b c) r) := hD
  clear hD hxl
  go_wp2_with (go_at_call 38; refine CX.mono ?_; rintro r w4 ⟨y, rfl, hye, hyt, hR, hb4⟩; refine Hid.out ?_)
  refine hidU ?_
  obtain ⟨y0, y1, y2, y3, y4, hyc⟩ : ∃ y0 y1 y2 y3 y4, y.cells = [y0, y1, y2, y3, y4] := by cases y; exact ⟨_, _, _, _, _, rfl⟩
  have hyo := ET.one y
  rw [hyc] at hyo ⊢
  have hA4 := hb4.at hA4 (by omega)
  have hA5 := hb4.at hA5 (by omega)
  have hbt := hbt.trans hb4
  have l34 := hb4.size
  clear CX hb4
  go_wp2_with (first
    | ((with_reducible show wpList _ _ _ _ _ _); refine wpList_store_mid (P := Tryz.prog) rfl 43 (.tmp 9) (.tmp 8) rfl g5 2 [y0, y1, y2, y3, y4].toArray rfl rfl (hA5.there 2 5 (by decide)) i29 (all_oneCell_toArray hyo) ?_; refine Hid.out ?_))
  refine hidU ?_
  have hA5' : At 51 (w4.setCells g5 2 [y0, y1, y2, y3, y4]) g5 [.int .i64 5, .string ⟨#[]⟩, y0, y1, y2, y3, y4, .slice none 0 0, .slice none 0 0] := At.setCells [y0, y1, y2, y3, y4] 2 w4 _ hA5 (show 2 + 5 ≤ 9 by decide)
  have hb5 : But g5 w4 (w4.setCells g5 2 [y0, y1, y2, y3, y4]) := But.setCells _ _ _ (But.refl _ _)
  obtain ⟨w5, hw5⟩ : ∃ q, q = w4.setCells g5 2 [y0, y1, y2, y3, y4] := ⟨_, rfl⟩
  have hw5' : (w4.setCells g5 2 [y0, y1, y2, y3, y4].toArray.toList) = w5 := hw5.symm
  rw [hw5']
  rw [← hw5] at hA5' hb5
  have hA5 := hA5'
  have hA4 := hb5.at hA4 (by omega)
  have hR := hR.but hb5 (by omega)
  have hbt := hbt.fresh hb5 (by omega)
  have hyt := hyt.but hb5 (.inl l13)
  have l45 := hb5.size
  clear hw5 hw5' hb5 hA5'
  have CB := HS.out r1 (f + 1) d (by omega) (by omega) hd (by omega) B g w5 hR (by omega)
  have hbl := (stmt_left (f + 1) d r1).2.2.1
  clear hR
  generalize blockR (f + 1) d r1 = N at CB hD1 hbl
  cases N with
  | bad e p =>
    have hD' : D = .bad e p := hD1.out
    subst hD'
    go_wp2_with (go_at_call 163; refine CB.mono ?_; rintro r w6 ⟨hr, hb6⟩; unfold PanW at hr; subst hr)
    exact ⟨rfl, rfl, hbt.trans hb6⟩
  | ok ss r2 =>
  have hr2 : r2.length < r1.length := hbl
  have hD2 : Hid (D = (elseR (f + 1) d r2).bind fun c r => .ok (.mk 5 [] e ss c) r) := hD1
  rw [elseR] at hD2
  clear hD1 hbl
  go_wp2_with (go_at_call 163; refine CB.mono ?_; rintro r w6 ⟨a1, c1, ys, rfl, hys, hT1, hR, hb6⟩; refine Hid.out ?_)
  refine hidU ?_
  obtain ⟨n1, hn1⟩ : ∃ q, Hid (q = ys.length) := ⟨_, (rfl : ys.length = _)⟩
  rw [← hn1.out]
  have hA4 := hb6.at hA4 (by omega)
  have hA5 := hb6.at hA5 (by omega)
  have hbt := hbt.trans hb6
  have hyt := hyt.but hb6 (.inl (by omega))
  have l56 := hb6.size
  clear CB hb6
  go_wp2_with (first
    | ((with_reducible show wpList _ _ _ _ _ _); refine wpList_store_one (P := Tryz.prog) rfl 49 (.tmp 13) (.tmp 12) rfl g5 7 (.slice a1 n1 c1) rfl rfl 51 _ hA5 (show 7 + 1 ≤ 9 by decide) (by kernel_rfl) rfl rfl ?_; intro w7 hA5 hb hs; clear hs; refine Hid.out ?_))
  refine hidU ?_
  have hA5 : At 51 w7 g5 [.int .i64 5, .string ⟨#[]⟩, y0, y1, y2, y3, y4, .slice a1 n1 c1, .slice none 0 0] := hA5
  have hA4 := hb.at hA4 (by omega)
  have hR := hR.but hb (by omega)
  have hbt := hbt.fresh hb (by omega)
  have hyt := hyt.but hb (.inl (by omega))
  have hT1 := hT1.but hb (.inl (by omega))
  have l67 := hb.size
  clear hb
  by_cases hc : (hdT r2).text = [101, 108, 115, 101]
  · rw [if_pos hc] at hD2
    have C55 := takes_yes g r2 ⟨#[101, 108, 115, 101]⟩ (by decide) hc w7 hR
    have htl := tail_lt (l := r2) (by rw [hc]; decide)
    clear hR hc
    go_wp2_with (go_at_call 55; refine C55.mono ?_; rintro r w8 ⟨rfl, hR, hb8⟩; refine Hid.out ?_)
    refine hidU ?_
    have hA4 := hb8.at hA4 (by omega)
    have hA5 := hb8.at hA5 (by omega)
    have hbt := hbt.trans hb8
    have hyt := hyt.but hb8 (.inl (by omega))
    have hT1 := hT1.but hb8 (.inl (by omega))
    have l78 := hb8.size
    clear C55 hb8
    have CB := HS.out r2.tail f d (by omega) (by omega) hd (by omega) B g w8 hR (by omega)
    clear hR HS
    generalize blockR f d r2.tail = N at CB hD2
    cases N with
    | bad e p =>
      have hD' : D = .bad e p := hD2.out
      subst hD'
      go_wp2_with (go_at_call 163; refine CB.mono ?_; rintro r w9 ⟨hr, hb9⟩; unfold PanW at hr; subst hr)
      exact ⟨rfl, rfl, hbt.trans hb9⟩
    | ok cc r3 =>
    have hD' : D = .ok (.mk 5 [] e ss cc) r3 := hD2.out
    subst hD'
    go_wp2_with (go_at_call 163; refine CB.mono ?_; rintro r w9 ⟨a2, c2, zs, rfl, hzs, hT2, hR, hb9⟩; refine Hid.out ?_)
    refine hidU ?_
    obtain ⟨n2, hn2⟩ : ∃ q, Hid (q = zs.length) := ⟨_, (rfl : zs.length = _)⟩
    rw [← hn2.out]
    have hA4 := hb9.at hA4 (by omega)
    have hA5 := hb9.at hA5 (by omega)
    have hbt := hbt.trans hb9
    have hyt := hyt.but hb9 (.inl (by omega))
    have hT1 := hT1.but hb9 (.inl (by omega))
    have l89 := hb9.size
    clear CB hb9
    go_wp2_with (first
      | ((with_reducible show wpList _ _ _ _ _ _); refine wpList_store_one (P := Tryz.prog) rfl 49 (.tmp 19) (.tmp 18) rfl g5 8 (.slice a2 n2 c2) rfl rfl 51 _ hA5 (show 8 + 1 ≤ 9 by decide) (by kernel_rfl) rfl rfl ?_; intro wA hA5 hb hs; clear hs; refine Hid.out ?_))
    refine hidU ?_
    have hA5 : At 51 wA g5 [.int .i64 5, .string ⟨#[]⟩, y0, y1, y2, y3, y4, .slice a1 n1 c1, .slice a2 n2 c2] := hA5
    have hA4 := hb.at hA4 (by omega)
    have hR := hR.but hb (by omega)
    have hbt := hbt.fresh hb (by omega)
    have hyt := hyt.but hb (.inl (by omega))
    have hT1 := hT1.but hb (.inl (by omega))
    have hT2 := hT2.but hb (.inl (by omega))
    have l9A := hb.size
    have hcs : (ST.mk 5 ⟨#[]⟩ y a1 c1 ys a2 c2 zs).cells = [.int .i64 5, .string ⟨#[]⟩, y0, y1, y2, y3, y4, .slice a1 n1 c1, .slice a2 n2 c2] := by
      show (.int .i64 5 :: .string ⟨#[]⟩ :: (y.cells ++ [.slice a1 ys.length c1, .slice a2 zs.length c2]) : List Value) = _
      rw [hyc, hn1.out, hn2.out]; rfl
    clear hb
    go_wp2_with (first
      | ((with_reducible show wpList _ _ _ _ _ _); refine wpList_load_at (P := Tryz.prog) rfl 51 (.tmp 5) rfl g5 rfl 51 [.int .i64 5, .string ⟨#[]⟩, y0, y1, y2, y3, y4, .slice a1 n1 c1, .slice a2 n2 c2] hA5 _ Tryz.underlying51 rfl i38 ?_)
      | ((with_reducible show wpList _ _ _ _ _ _); refine wpList_store_at (P := Tryz.prog) rfl 51 (.tmp 4) (.tmp 20) rfl w.heap.size [.int .i64 5, .string ⟨#[]⟩, y0, y1, y2, y3, y4, .slice a1 n1 c1, .slice a2 n2 c2] rfl rfl 51 _ hA4 i38 rfl (by rw [← hcs]; exact ST.one _) ?_; intro wE hAE hbE hsE; clear hsE))
    refine bodyPost_ret (results_at rfl _ _ w.heap.size 51 [.int .i64 5, .string ⟨#[]⟩, y0, y1, y2, y3, y4, .slice a1 n1 c1, .slice a2 n2 c2] _ rfl hAE Tryz.underlying51 rfl i38) rfl ?_
    refine ⟨(ST.mk 5 ⟨#[]⟩ y a1 c1 ys a2 c2 zs), by rw [hcs], ?_, ts_mk _ (by decide) _ ((hyt.but hbE (.inl (by omega))).low (by omega)) ((hT1.but hbE (.inl (by omega))).low (by omega)) ((hT2.but hbE (.inl (by omega))).low (by omega)), hR.but hbE hBw, hbt.fresh hbE (Nat.le_refl _)⟩
    unfold ST.st
    rw [hye, ST.sts_eq, ST.sts_eq, hys, hzs]
  · rw [if_neg hc] at hD2
    have C55 := takes_no g r2 ⟨#[101, 108, 115, 101]⟩ (by decide) hc w7 hR
    have hD' : D = .ok (.mk 5 [] e ss []) r2 := hD2.out
    subst hD'
    clear hR hc hD2 HS
    go_wp2_with (go_at_call 55; refine C55.mono ?_; rintro r w8 ⟨rfl, hR, hb8⟩; refine Hid.out ?_)
    refine hidU ?_
    have hA4 := hb8.at hA4 (by omega)
    have hA5 := hb8.at hA5 (by omega)
    have hbt := hbt.trans hb8
    have hyt := hyt.but hb8 (.inl (by omega))
    have hT1 := hT1.but hb8 (.inl (by omega))
    have l78 := hb8.size
    have hcs : (ST.mk 5 ⟨#[]⟩ y a1 c1 ys none 0 []).cells = [.int .i64 5, .string ⟨#[]⟩, y0, y1, y2, y3, y4, .slice a1 n1 c1, .slice none 0 0] := by
      show (.int .i64 5 :: .string ⟨#[]⟩ :: (y.cells ++ [.slice a1 ys.length c1, .slice none 0 0]) : List Value) = _
      rw [hyc, hn1.out]; rfl
    clear C55 hb8
    go_wp2_with (first
      | ((with_reducible show wpList _ _ _ _ _ _); refine wpList_load_at (P := Tryz.prog) rfl 51 (.tmp 5) rfl g5 rfl 51 [.int .i64 5, .string ⟨#[]⟩, y0, y1, y2, y3, y4, .slice a1 n1 c1, .slice none 0 0] hA5 _ Tryz.underlying51 rfl i38 ?_)
      | ((with_reducible show wpList _ _ _ _ _ _); refine wpList_store_at (P := Tryz.prog) rfl 51 (.tmp 4) (.tmp 20) rfl w.heap.size [.int .i64 5, .string ⟨#[]⟩, y0, y1, y2, y3, y4, .slice a1 n1 c1, .slice none 0 0] rfl rfl 51 _ hA4 i38 rfl (by rw [← hcs]; exact ST.one _) ?_; intro wE hAE hbE hsE; clear hsE))
    refine bodyPost_ret (results_at rfl _ _ w.heap.size 51 [.int .i64 5, .string ⟨#[]⟩, y0, y1, y2, y3, y4, .slice a1 n1 c1, .slice none 0 0] _ rfl hAE Tryz.underlying51 rfl i38) rfl ?_
    refine ⟨(ST.mk 5 ⟨#[]⟩ y a1 c1 ys none 0 []), by rw [hcs], ?_, ts_mk _ (by decide) _ ((hyt.but hbE (.inl (by omega))).low (by omega)) ((hT1.but hbE (.inl (by omega))).low (by omega)) (Tl.nil _ _), hR.but hbE hBw, hbt.fresh hbE (Nat.le_refl _)⟩
    unfold ST.st
    rw [hye, ST.sts_eq, ST.sts_eq, hys]
    rfl
end Go.Proofs.YtjgggmjjikopeaaGreatDoor

/- Regions that draw their order and end in stores to what they read: a condition on the world that holds till the first of these stores comes up. -/
namespace Go.Proofs.YtjgggmjjikopeaaGreatDoor
open Go Go.RowKit
set_option linter.unusedVariables false

section
variable {P : Program} {ops : Array Oper} {Q : Exit → Act → World → Prop} {md : Region.Mode} {S : World → Prop} {St : List Nat}

/-- As long as none of the stores has come up, S holds. -/
def Hold (S : World → Prop) (St : List Nat) (listed : Array Bool) (w : World) : Prop := (∀ s ∈ St, listed.getD s true = false) → S w
def wpAnyS (P : Program) (md : Region.Mode) (ops : Array Oper) (Q : Exit → Act → World → Prop) (S : World → Prop) (St : List Nat) : Nat → Array Bool → Act → World → Prop
  | 0, listed, a, w => Region.ready md ops listed = [] ∧ Q .normal a w
  | fuel + 1, listed, a, w =>
    (Region.ready md ops listed = [] → Q .normal a w) ∧
    ∀ i ∈ Region.ready md ops listed, wpOp P ops Q i (fun a' w' => Hold S St (listed.setIfInBounds i true) w' ∧ wpAnyS P md ops Q S St fuel (listed.setIfInBounds i true) a' w') a w
theorem wpAny_of_S : ∀ (fuel : Nat) (listed : Array Bool) (a : Act) (w : World), wpAnyS P md ops Q S St fuel listed a w → wpAny P md ops Q fuel listed a w
  | 0, _, _, _, h => h
  | fuel + 1, _, _, _, h => ⟨h.1, fun i hi => wpOp_mono (fun a' w' h' => wpAny_of_S fuel _ a' w' h'.2) (h.2 i hi)⟩

theorem hold_less {i j : Nat} {listed : Array Bool} {w : World} (hi : i ∉ St) (h : Hold S St ((listed.setIfInBounds i true).setIfInBounds j true) w) : Hold S St (listed.setIfInBounds j true) w := fun hs => h fun s hm => by
  have hsi : i ≠ s := fun e => hi (e ▸ hm)
  have := hs s hm
  by_cases hj : j = s
  · subst hj
    rw [Array.setIfInBounds_comm _ _ hsi, getD_set_ne true hsi]
    exact this
  · rw [getD_set_ne true hj] at this
    rw [getD_set_ne true hj, getD_set_ne true hsi]
    exact this

theorem wpAnyS_first {i : Nat} {oi : Oper} {v : Value} (hi : ops[i]? = some oi) (hsel : ∀ (j : Nat) (o : Oper) cs b, ops[j]? = some o → o.op ≠ .select cs b)
    (hQ : ∀ c a w, Q (.panic c) (a.put oi.dst v) w → Q (.panic c) a w) (hiS : i ∉ St) (Inv : Array Bool → Prop) (S0 : World → Prop)
    (hInv : ∀ listed j, Inv listed → listed.getD i true = false → j ∈ Region.ready md ops listed → j ≠ i → Inv (listed.setIfInBounds j true))
    (hY : ∀ listed w, Inv listed → Hold S St listed w → S0 w) :
    ∀ (fuel : Nat) (listed : Array Bool) (a : Act) (w : World),
      (∀ j oj, ops[j]? = some oj → j ≠ i → listed.getD j true = false → (∀ e ∈ oj.after, Region.binds md e = true → e.on ≠ i) → oi.apart ops oj = true) →
      i ∈ Region.ready md ops listed → Inv listed → YieldsIf P ops S0 oi v a → Hold S St listed w →
      Hold S St (listed.setIfInBounds i true) w → wpAnyS P md ops Q S St fuel (listed.setIfInBounds i true) (a.put oi.dst v) w → wpAnyS P md ops Q S St (fuel + 1) listed a w := by
  intro fuel
  induction fuel with
  | zero =>
    intro listed a w _ hr hv hy hS hSi H
    refine ⟨fun h => (by rw [h] at hr; cases hr), fun j hj => ?_⟩
    by_cases hji : j = i
    · subst hji; exact hy.wpOp hi (hY _ _ hv hS) ⟨hSi, H⟩
    · have := ready_mono hj hji
      rw [H.1] at this
      cases this
  | succ fuel ih =>
    intro listed a w hfree hr hv hy hS hSi H
    refine ⟨fun h => (by rw [h] at hr; cases hr), fun j hj => ?_⟩
    by_cases hji : j = i
    · subst hji; exact hy.wpOp hi (hY _ _ hv hS) ⟨hSi, H⟩
    · have h1 := H.2 j (ready_mono hj hji)
      obtain ⟨hjun, oj, hoj, hall⟩ := mem_ready.1 hj
      have hnot : ∀ e ∈ oj.after, Region.binds md e = true → e.on ≠ i := fun e he hb heq => by
        have h1 := hall e he hb
        have h0 := (mem_ready.1 hr).1
        rw [heq] at h1
        rcases Nat.lt_or_ge i listed.size with h' | h'
        · simp [h'] at h0 h1; rw [h0] at h1; cases h1
        · simp [Array.getElem?_eq_none h'] at h1
      have h2 := wpOp_putIf hoj (hfree j oj hoj hji hjun hnot) (fun cs b => hsel i oi cs b hi) (fun cs b => hsel j oj cs b hoj) hQ hy h1
      have hfree' : ∀ k ok, ops[k]? = some ok → k ≠ i → (listed.setIfInBounds j true).getD k true = false →
          (∀ e ∈ ok.after, Region.binds md e = true → e.on ≠ i) → oi.apart ops ok = true := fun k ok hk hki hun hno => by
        refine hfree k ok hk hki ?_ hno
        by_cases hjk : j = k
        · subst hjk; exact hjun
        · rw [getD_set_ne true hjk] at hun; exact hun
      refine wpOp_mono (fun a' w' h3 => ?_) h2
      have hh := hold_less hiS h3.2.1
      refine ⟨hh, ih (listed.setIfInBounds j true) a' w' hfree' (ready_mono hr (Ne.symm hji)) (hInv _ _ hv (mem_ready.1 hr).1 hj hji) h3.1 hh ?_ ?_⟩
      · rw [Array.setIfInBounds_comm _ _ hji]
        exact h3.2.1
      · rw [Array.setIfInBounds_comm _ _ hji]
        exact h3.2.2

/-- Number i is taken first: it yields v in whatever world. -/
theorem wpAnyS_pure {i : Nat} {oi : Oper} {v : Value} {fuel : Nat} {listed : Array Bool} {a : Act} {w : World} (hi : ops[i]? = some oi)
    (hs : Region.noSelect ops = true) (hf : Region.free md ops listed i = true) (hr : (Region.ready md ops listed).contains i = true) (hiS : St.contains i = false)
    (hQ : ∀ c a w, Q (.panic c) (a.put oi.dst v) w → Q (.panic c) a w) (hy : YieldsIf P ops (fun _ => True) oi v a) (hS : Hold S St listed w)
    (h : Hold S St (listed.setIfInBounds i true) w → wpAnyS P md ops Q S St fuel (listed.setIfInBounds i true) (a.put oi.dst v) w) : wpAnyS P md ops Q S St (fuel + 1) listed a w := by
  have hn : i ∉ St := fun hm => by rw [List.contains_iff_mem.2 hm] at hiS; cases hiS
  have h2 : Hold S St (listed.setIfInBounds i true) w := fun q => hS fun s hm => by have := q s hm; rwa [getD_set_ne true (show i ≠ s from fun e => hn (e ▸ hm))] at this
  exact wpAnyS_first hi (Region.noSelect_spec hs) hQ hn (fun _ => True) (fun _ => True) (fun _ _ _ _ _ _ => trivial) (fun _ _ _ _ => trivial) fuel listed a w (Region.free_spec hi hf) (by simpa using hr) trivial hy hS h2 (h h2)
/-- Number i is taken first: it yields v where S holds, and the stores wait for it. -/
theorem wpAnyS_take {i : Nat} {oi : Oper} {v : Value} {fuel : Nat} {listed : Array Bool} {a : Act} {w : World} (Wt : List Nat) (hi : ops[i]? = some oi)
    (hs : Region.noSelect ops = true) (hf : Region.free md ops listed i = true) (hr : (Region.ready md ops listed).contains i = true) (hiS : St.contains i = false)
    (hW : (Wt.all fun j => ((ops[j]?).map fun o => o.after.any fun e => Region.binds md e && (e.on == i || Wt.contains e.on)) == some true) = true) (hSW : (St.all fun j => Wt.contains j) = true) (hun : (Wt.all fun j => listed.getD j true == false) = true)
    (hQ : ∀ c a w, Q (.panic c) (a.put oi.dst v) w → Q (.panic c) a w) (hy : YieldsIf P ops S oi v a) (hS : Hold S St listed w)
    (h : Hold S St (listed.setIfInBounds i true) w → wpAnyS P md ops Q S St fuel (listed.setIfInBounds i true) (a.put oi.dst v) w) : wpAnyS P md ops Q S St (fuel + 1) listed a w := by
  have hn : i ∉ St := fun hm => by rw [List.contains_iff_mem.2 hm] at hiS; cases hiS
  have h2 : Hold S St (listed.setIfInBounds i true) w := fun q => hS fun s hm => by have := q s hm; rwa [getD_set_ne true (show i ≠ s from fun e => hn (e ▸ hm))] at this
  refine wpAnyS_first hi (Region.noSelect_spec hs) hQ hn (fun l => ∀ j ∈ Wt, l.getD j true = false) S ?_ ?_ fuel listed a w (Region.free_spec hi hf) (by simpa using hr) ?_ hy hS h2 (h h2)
  · intro l j hl hil hj hji k hk
    by_cases hjk : j = k
    · subst hjk
      exfalso
      have h1 := List.all_eq_true.1 hW j hk
      rw [beq_iff_eq] at h1
      obtain ⟨o, ho, h3⟩ := Option.map_eq_some_iff.1 h1
      obtain ⟨e, he, h4⟩ := Array.any_eq_true'.1 h3
      rw [Bool.and_eq_true, Bool.or_eq_true] at h4
      obtain ⟨hjun, oj, hoj, hall⟩ := mem_ready.1 hj
      rw [ho] at hoj
      cases hoj
      have h5 := hall e he h4.1
      have h6 : l.getD e.on true = false := by
        rcases h4.2 with q | q
        · rw [beq_iff_eq] at q; rw [q]; exact hil
        · exact hl _ (List.contains_iff_mem.1 q)
      rcases Nat.lt_or_ge e.on l.size with h' | h'
      · simp [h'] at h5 h6; rw [h6] at h5; cases h5
      · simp [Array.getElem?_eq_none h'] at h5
    · rw [getD_set_ne true hjk]; exact hl k hk
  · intro l w' hl hh
    exact hh fun s hm => hl s (List.contains_iff_mem.1 (List.all_eq_true.1 hSW s hm))
  · intro j hj
    have := List.all_eq_true.1 hun j hj
    rwa [beq_iff_eq] at this

def AllReadyS (P : Program) (md : Region.Mode) (ops : Array Oper) (Q : Exit → Act → World → Prop) (S : World → Prop) (St : List Nat) (fuel : Nat) (listed : Array Bool) (a : Act) (w : World) (rs : List Nat) : Prop :=
  ∀ i ∈ rs, wpOp P ops Q i (fun a' w' => Hold S St (listed.setIfInBounds i true) w' ∧ wpAnyS P md ops Q S St fuel (listed.setIfInBounds i true) a' w') a w
theorem AllReadyS.nil {fuel : Nat} {listed : Array Bool} {a : Act} {w : World} : AllReadyS P md ops Q S St fuel listed a w [] := fun _ h => by cases h
theorem AllReadyS.cons {fuel : Nat} {listed : Array Bool} {a : Act} {w : World} {i : Nat} {o : Oper} {rs : List Nat} (ho : ops[i]? = some o)
    (h : ∀ K' : Act → World → Prop, Shut (∀ a w, Hold S St (listed.setIfInBounds i true) w → (Hold S St (listed.setIfInBounds i true) w → wpAnyS P md ops Q S St fuel (listed.setIfInBounds i true) a w) → K' a w) → if Region.wanted o (yielded ops a.tmps) = true then Oper.wp P o a w K' Q else K' (a.put o.dst undef) w)
    (hs : AllReadyS P md ops Q S St fuel listed a w rs) : AllReadyS P md ops Q S St fuel listed a w (i :: rs) := fun j hj => by
  rcases List.mem_cons.1 hj with rfl | hj
  · exact wpOp_step ho (fun K' hK => h K' (fun a w hS hW => hK a w ⟨hS, hW hS⟩))
  · exact hs j hj
theorem wpAnyS_ready {rs : List Nat} {fuel : Nat} {listed : Array Bool} {a : Act} {w : World} (hr : Region.ready md ops listed = rs) (hne : rs ≠ [])
    (h : AllReadyS P md ops Q S St fuel listed a w rs) : wpAnyS P md ops Q S St (fuel + 1) listed a w := ⟨fun h0 => absurd (hr ▸ h0) hne, hr ▸ h⟩
theorem wpAnyS_done {listed : Array Bool} {a : Act} {w : World} (hr : Region.ready md ops listed = []) (h : Q .normal a w) :
    ∀ fuel, wpAnyS P md ops Q S St fuel listed a w
  | 0 => ⟨hr, h⟩
  | _ + 1 => ⟨fun _ => h, by rw [hr]; simp⟩
theorem wp_region_S {id : Nat} {a : Act} {w : World} (hm : P.follows .mixedOrders = true) (hS : S w.drew)
    (h : Hold S St (Array.replicate ops.size false) w.drew → wpAnyS P .any ops Q S St ops.size (Array.replicate ops.size false) a w.drew) : (Code.region id ops true).wp P Q a w :=
  wp_region_any hm (wpAny_of_S _ _ _ _ (h fun _ => hS))
/-- A store has come up: nothing more is to be shown. -/
theorem Hold.over {s : Nat} {listed : Array Bool} {w : World} (h : s ∈ St) (hl : listed.getD s true = true) : Hold S St listed w := fun q => by
  have := q s h
  rw [hl] at this
  cases this
theorem Hold.of {listed : Array Bool} {w : World} (h : S w) : Hold S St listed w := fun _ => h
end
end Go.Proofs.YtjgggmjjikopeaaGreatDoor

/- The reader of programs: statements. -/
namespace Go.Proofs.YtjgggmjjikopeaaGreatDoor
open Go.RowKit
set_option linter.unusedVariables false

theorem wp_store_at {P : Program} {o : Oper} {a : Act} {w : World} {K : Act → World → Prop} {Q : Exit → Act → World → Prop} (ty : TypeId) (x y : Operand) (ho : o.op = .store ty x y)
    (g : Nat) (cs : List Value) (hx : a.eval x = .pointer (some ⟨g, 0, none⟩)) (hy : a.eval y = .agg cs.toArray)
    (t : TypeId) (old : List Value) (hg : At t w g old) (hi : (P.info? ty).map (·.size) = some cs.length) (hold : old.length = cs.length) (h1 : ∀ v ∈ cs, v.oneCell' = true)
    (h : ∀ w', At t w' g cs → But g w w' → w'.heap.size = w.heap.size → K (a.put o.dst undef) w') : o.wp P a w K Q := by
  refine wp_store_row ty x y ho g cs.toArray hx hy t old.toArray hg (by simpa using hi) (by simpa using hold) (by simpa using h1) ?_
  exact h _ (setRow_heap w g _ _ t _ hg) ⟨rfl, rfl, rfl, by simp, fun k _ hn => setRow_other w g k _ hn⟩ (by simp)

/-- Blocks below B stand. -/
theorem Rd.low {B A : Nat} {w w' : World} {g : Nat} {l : List Tk} (h : Rd B w g l) (hb : Below A w w') (hA : B ≤ A) : Rd B w' g l := by
  obtain ⟨gt, o, c, h, h1, h2⟩ := h
  exact ⟨gt, o, c, ⟨(hb.block g (by omega)).trans h.cell, h.ne, h.cap, fun j v hj => by rw [World.cell?_of_block (w := w) (hb.block gt (by omega))]; exact h.toks j v hj, h.ends, h.bits⟩, h1, h2⟩

set_option maxRecDepth 100000 in
set_option maxHeartbeats 6400000 in
theorem stmt_of (n : Nat) (hC : ChoiceW n) (hB : BlockW n) : StmtW (n + 1) := by
  intro l f d hln hf hd hlm B g w h hBw
  have hpos := h.pos
  obtain ⟨f, rfl⟩ : ∃ q, f = q + 1 := ⟨f - 1, by omega⟩
  have lg := h.lt
  obtain ⟨D, hD⟩ : ∃ D, Hid (D = stmtR (f + 1) d l) := ⟨_, (rfl : stmtR (f + 1) d l = _)⟩
  rw [← hD.out]
  rw [stmtR] at hD
  have HR : Hid (Rd B w g l) := h
  have HC : Hid (ChoiceW n) := hC
  have HB : Hid (BlockW n) := hB
  clear h hC hB
  by_cases c0 : (hdT l).text = [105, 102]
  · rw [if_pos c0] at hD
    have htl := tail_lt (l := l) (by rw [c0]; decide)
    have hD1 : Hid (D = choiceR f d l.tail) := hD
    have H55 : Hid (∀ u, Below w.heap.size w u → Calls Tryz.prog 55 #[.pointer (some ⟨g, 0, none⟩), .string ⟨#[105, 102]⟩] u fun r w' => r = .returned (.bool true) ∧ Rd B w' g l.tail ∧ But g u w') := fun u hu => takes_yes g l ⟨#[105, 102]⟩ (by decide) c0 u (HR.out.below hu)
    clear hD HB HR c0
    go_enter Tryz.func129, Tryz.ntmps129
    go_wp2_with (first
      | ((with_reducible show wpList _ _ _ _ _ _); refine wpList_alloc_at rfl 51 rfl (ST.cells (.mk 0 ⟨#[]⟩ (ET.mk 0 0 0 ⟨#[]⟩ none 0 []) none 0 [] none 0 [])) 9 z51 ?_; intro w1 hA4 hb1 hs1; clear hs1; refine Hid.out ?_))
    refine hidU ?_
    have l01 := hA4.lt
    have C55 := H55.out w1 hb1
    clear H55
    go_wp2_with (go_at_call 55; refine C55.mono ?_; rintro r w2 ⟨rfl, hR, hb2⟩; refine Hid.out ?_)
    refine hidU ?_
    have hA4 := hb2.at hA4 (by omega)
    have hbt : But g w w2 := (But.of_below hb1).trans hb2
    have l12 := hb2.size
    clear C55 hb1 hb2
    have CC := HC.out l.tail f d (by omega) (by omega) hd (by omega) B g w2 hR (by omega)
    clear HC hR
    have hD' := hD1.out
    generalize choiceR f d l.tail = N at CC hD'
    subst hD'
    clear hD1
    cases D with
    | bad e p =>
      go_wp2_with (go_at_call 162; refine CC.mono ?_; rintro r w3 ⟨hr, hb3⟩; unfold PanW at hr; subst hr)
      exact ⟨rfl, rfl, hbt.trans hb3⟩
    | ok s r1 =>
    go_wp2_with (go_at_call 162; refine CC.mono ?_; rintro r w3 ⟨y, rfl, hye, hyt, hR, hb3⟩; refine Hid.out ?_)
    refine hidU ?_
    have hA4 := hb3.at hA4 (by omega)
    have hbt := hbt.trans hb3
    have l23 := hb3.size
    clear CC hb3
    go_wp2_with (first
      | ((with_reducible show wpList _ _ _ _ _ _); refine wpList_store_at (P := Tryz.prog) rfl 51 (.tmp 4) (.tmp 12) rfl w.heap.size y.cells rfl rfl 51 _ hA4 (i51 _) (len51 _ _) (ST.one _) ?_; intro wE hAE hbE hsE; clear hsE))
    refine bodyPost_ret (results_at rfl _ _ w.heap.size 51 y.cells _ rfl hAE Tryz.underlying51 rfl (i51 _)) rfl ?_
    exact ⟨y, rfl, hye, (hyt.but hbE (.inl (by omega))).low (by omega), hR.but hbE hBw, hbt.fresh hbE (Nat.le_refl _)⟩
  rw [if_neg c0] at hD
  have H55 : Hid (∀ u, Below w.heap.size w u → Calls Tryz.prog 55 #[.pointer (some ⟨g, 0, none⟩), .string ⟨#[105, 102]⟩] u fun r w' => r = .returned (.bool false) ∧ Rd B w' g l ∧ But g u w') := fun u hu => takes_no g l ⟨#[105, 102]⟩ (by decide) c0 u (HR.out.below hu)
  clear HC HR c0
  go_enter Tryz.func129, Tryz.ntmps129
  go_wp2_with (first
    | ((with_reducible show wpList _ _ _ _ _ _); refine wpList_alloc_at rfl 51 rfl (ST.cells (.mk 0 ⟨#[]⟩ (ET.mk 0 0 0 ⟨#[]⟩ none 0 []) none 0 [] none 0 [])) 9 z51 ?_; intro w1 hA4 hb1 hs1; clear hs1; refine Hid.out ?_))
  refine hidU ?_
  have l01 := hA4.lt
  have C55 := H55.out w1 hb1
  clear H55
  go_wp2_with (go_at_call 55; refine C55.mono ?_; rintro r w2 ⟨rfl, hR, hb2⟩; refine Hid.out ?_)
  refine hidU ?_
  have hA4 := hb2.at hA4 (by omega)
  have hbt : But g w w2 := (But.of_below hb1).trans hb2
  have l12 := hb2.size
  clear C55 hb1 hb2
  by_cases c1 : (hdT l).text = [119, 104, 105, 108, 101]
  · rw [if_pos c1] at hD
    have htl := tail_lt (l := l) (by rw [c1]; decide)
    have C55 := takes_yes g l ⟨#[119, 104, 105, 108, 101]⟩ (by decide) c1 w2 hR
    clear hR c1
    go_wp2_with (go_at_call 55; refine C55.mono ?_; rintro r w3 ⟨rfl, hR, hb3⟩; refine Hid.out ?_)
    refine hidU ?_
    have hA4 := hb3.at hA4 (by omega)
    have hbt := hbt.trans hb3
    have l23 := hb3.size
    clear C55 hb3
    have CX := expr38_any g l.tail w3 hR (by omega)
    have hxl := exprR_left l.tail
    clear hR
    generalize exprR l.tail = N at CX hD hxl
    cases N with
    | bad e p =>
      have hD' : D = .bad e p := hD.out
      subst hD'
      go_wp2_with (go_at_call 38; refine CX.mono ?_; rintro r w4 ⟨hr, hb4⟩; unfold PanW at hr; subst hr)
      exact ⟨rfl, rfl, hbt.trans hb4⟩
    | ok e r1 =>
    have hr1 : r1.length < l.tail.length := hxl
    have hD1 : Hid (D = (blockR f d r1).bind fun b r => .ok (.mk 6 [] e b []) r) := hD
    clear hD hxl
    go_wp2_with (go_at_call 38; refine CX.mono ?_; rintro r w4 ⟨y, rfl, hye, hyt, hR, hb4⟩; refine Hid.out ?_)
    refine hidU ?_
    obtain ⟨y0, y1, y2, y3, y4, hyc⟩ : ∃ y0 y1 y2 y3 y4, y.cells = [y0, y1, y2, y3, y4] := by cases y; exact ⟨_, _, _, _, _, rfl⟩
    have hyo := ET.one y
    rw [hyc] at hyo ⊢
    have hA4 := hb4.at hA4 (by omega)
    have hbt := hbt.trans hb4
    have l34 := hb4.size
    clear CX hb4
    go_wp2_with (first
      | ((with_reducible show wpList _ _ _ _ _ _); refine wpList_alloc_at rfl 43 rfl [.int .u8 0, .int .u8 0, .int .u64 0, .string ⟨#[]⟩, .slice none 0 0] 5 z29 ?_; intro w5 hA5 hb5 hs5; clear hs5)
      | ((with_reducible show wpList _ _ _ _ _ _); refine wpList_store_at (P := Tryz.prog) rfl 43 (.tmp 5) (.tmp 17) rfl w4.heap.size [y0, y1, y2, y3, y4] rfl rfl 43 _ hA5 i29 rfl hyo ?_; intro w6 hAE hb6 hs6; clear hs6; refine Hid.out ?_))
    refine hidU ?_
    have h46 : Below w4.heap.size w4 w6 := hb6.below hb5 (Nat.le_refl _) hb5.size
    have hA4 := hA4.below h46
    have hR := hR.below h46
    have hyt := hyt.below h46
    have hbt := hbt.trans (But.of_below h46)
    have l46 := hAE.lt
    obtain ⟨gE, hgE⟩ : ∃ q, q = w4.heap.size := ⟨_, rfl⟩
    rw [← hgE] at hAE l46 ⊢
    have lgE : w.heap.size < gE := by omega
    clear hA5 hb5 hb6 h46 hgE
    go_wp2_with fail
    cases hN : blockR f d r1 with
    | bad e p =>
      rw [hN] at hD1
      have hD' : D = .bad e p := hD1.out
      subst hD'
      have hS0r : At 43 w6.drew gE [y0, y1, y2, y3, y4] := hAE.drew
      refine wp_region_held_drew (S := fun x => At 43 x gE [y0, y1, y2, y3, y4]) (by kernel_rfl) hS0r ?_
      have hB0 : Below w6.heap.size w6 w6.drew := Below.drew (Below.refl _ _)
      obtain ⟨x0r, hx0⟩ : ∃ x, x = w6.drew := ⟨_, rfl⟩
      rw [← hx0] at hS0r hB0 ⊢
      clear hx0
      intro _
      refine wpAnyH_take (i := 0) (oi := { dst := some 18, op := .load 43 (.tmp 5), type := _, pos := _, after := _, guard := none }) (v := .agg #[y0, y1, y2, y3, y4]) rfl (by kernel_rfl) (by kernel_rfl) (by kernel_rfl) (fun _ _ _ h => h) (Or.inl ⟨by rfl, ?_⟩) hS0r ?_
      · intro wS hSw
        have z0 := (ex_cells5 hSw).1
        have z1 := (ex_cells5 hSw).2.1
        have z2 := (ex_cells5 hSw).2.2.1
        have z3 := (ex_cells5 hSw).2.2.2.1
        have z4 := (ex_cells5 hSw).2.2.2.2
        go_simp
      simp only [Act.put, List.setIfInBounds_toArray, List.set_cons_zero, List.set_cons_succ]
      refine wpAnyH_take (i := 1) (oi := { dst := some 19, op := .move (.tmp 0), type := _, pos := _, after := _, guard := none }) (v := .pointer (some ⟨g, 0, none⟩)) rfl (by kernel_rfl) (by kernel_rfl) (by kernel_rfl) (fun _ _ _ h => h) (Or.inl ⟨by rfl, ?_⟩) hS0r ?_
      · intro wS hSw
        go_simp
      simp only [Act.put, List.setIfInBounds_toArray, List.set_cons_zero, List.set_cons_succ]
      refine wpAnyH_take (i := 2) (oi := { dst := some 20, op := .move (.tmp 1), type := _, pos := _, after := _, guard := none }) (v := .int .i64 (d : Int)) rfl (by kernel_rfl) (by kernel_rfl) (by kernel_rfl) (fun _ _ _ h => h) (Or.inl ⟨by rfl, ?_⟩) hS0r ?_
      · intro wS hSw
        go_simp
      simp only [Act.put, List.setIfInBounds_toArray, List.set_cons_zero, List.set_cons_succ]
      refine wpAnyH_ready (rs := [3]) (by kernel_rfl) (by simp) ?_
      refine AllReadyH.cons (o := { dst := some 21, op := .call { callee := .value (.func 163), args := #[.tmp 19, .tmp 20], argTypes := #[66, 3] }, type := _, pos := _, after := _, guard := none }) rfl (fun K hK => ?_) AllReadyH.nil
      rw [if_pos (by rfl)]
      have CB := HB.out r1 f d (by omega) (by omega) hd (by omega) B g x0r (hR.below hB0) (by have := hB0.size; omega)
      rw [hN] at CB
      go_wp2_with (go_at_call 163; refine CB.mono ?_; rintro e' x1r ⟨hr, hb1r⟩; unfold PanW at hr; subst hr)
      exact ⟨rfl, rfl, (hbt.trans (But.of_below hB0)).trans hb1r⟩
    | ok ss r2 =>
      rw [hN] at hD1
      have hD' : D = .ok (.mk 6 [] e ss []) r2 := hD1.out
      subst hD'
      clear hD1
      have hS0r : At 43 w6.drew gE [y0, y1, y2, y3, y4] := hAE.drew
      refine wp_region_held_drew (S := fun x => At 43 x gE [y0, y1, y2, y3, y4]) (by kernel_rfl) hS0r ?_
      have hB0 : Below w6.heap.size w6 w6.drew := Below.drew (Below.refl _ _)
      obtain ⟨x0r, hx0⟩ : ∃ x, x = w6.drew := ⟨_, rfl⟩
      rw [← hx0] at hS0r hB0 ⊢
      clear hx0
      intro _
      refine wpAnyH_take (i := 0) (oi := { dst := some 18, op := .load 43 (.tmp 5), type := _, pos := _, after := _, guard := none }) (v := .agg #[y0, y1, y2, y3, y4]) rfl (by kernel_rfl) (by kernel_rfl) (by kernel_rfl) (fun _ _ _ h => h) (Or.inl ⟨by rfl, ?_⟩) hS0r ?_
      · intro wS hSw
        have z0 := (ex_cells5 hSw).1
        have z1 := (ex_cells5 hSw).2.1
        have z2 := (ex_cells5 hSw).2.2.1
        have z3 := (ex_cells5 hSw).2.2.2.1
        have z4 := (ex_cells5 hSw).2.2.2.2
        go_simp
      simp only [Act.put, List.setIfInBounds_toArray, List.set_cons_zero, List.set_cons_succ]
      refine wpAnyH_take (i := 1) (oi := { dst := some 19, op := .move (.tmp 0), type := _, pos := _, after := _, guard := none }) (v := .pointer (some ⟨g, 0, none⟩)) rfl (by kernel_rfl) (by kernel_rfl) (by kernel_rfl) (fun _ _ _ h => h) (Or.inl ⟨by rfl, ?_⟩) hS0r ?_
      · intro wS hSw
        go_simp
      simp only [Act.put, List.setIfInBounds_toArray, List.set_cons_zero, List.set_cons_succ]
      refine wpAnyH_take (i := 2) (oi := { dst := some 20, op := .move (.tmp 1), type := _, pos := _, after := _, guard := none }) (v := .int .i64 (d : Int)) rfl (by kernel_rfl) (by kernel_rfl) (by kernel_rfl) (fun _ _ _ h => h) (Or.inl ⟨by rfl, ?_⟩) hS0r ?_
      · intro wS hSw
        go_simp
      simp only [Act.put, List.setIfInBounds_toArray, List.set_cons_zero, List.set_cons_succ]
      refine wpAnyH_ready (rs := [3]) (by kernel_rfl) (by simp) ?_
      refine AllReadyH.cons (o := { dst := some 21, op := .call { callee := .value (.func 163), args := #[.tmp 19, .tmp 20], argTypes := #[66, 3] }, type := _, pos := _, after := _, guard := none }) rfl (fun K hK => ?_) AllReadyH.nil
      rw [if_pos (by rfl)]
      have CB := HB.out r1 f d (by omega) (by omega) hd (by omega) B g x0r (hR.below hB0) (by have := hB0.size; omega)
      rw [hN] at CB
      go_wp2_with (go_at_call 163; refine CB.mono ?_; rintro e' x1r ⟨a1, c1, ys, rfl, hys, hT, hR9, hb1r⟩)
      obtain ⟨n1, hn1⟩ : ∃ q, Hid (q = ys.length) := ⟨_, (rfl : ys.length = _)⟩
      rw [← hn1.out]
      have ls0 := hB0.size
      have ls1 := hb1r.size
      have hS1r := (hb1r.at hS0r (by omega))
      refine hK.out _ _ hS1r (fun _ => ?_)
      clear hK K
      refine wpAnyH_take (i := 4) (oi := { dst := some 22, op := .build 51 #[(0, .const (.int .i64 6)), (2, .tmp 18), (3, .tmp 21)], type := _, pos := _, after := _, guard := none }) (v := .agg #[.int .i64 6, .string ⟨#[]⟩, y0, y1, y2, y3, y4, .slice a1 n1 c1, .slice none 0 0]) rfl (by kernel_rfl) (by kernel_rfl) (by kernel_rfl) (fun _ _ _ h => h) (Or.inl ⟨by rfl, ?_⟩) hS1r ?_
      · intro wS hSw
        go_simp
      simp only [Act.put, List.setIfInBounds_toArray, List.set_cons_zero, List.set_cons_succ]
      refine wpAnyH_ready (rs := [5]) (by kernel_rfl) (by simp) ?_
      refine AllReadyH.cons (o := { dst := none, op := .store 51 (.tmp 4) (.tmp 22), type := _, pos := _, after := _, guard := none }) rfl (fun K hK => ?_) AllReadyH.nil
      rw [if_pos (by rfl)]
      have hcs : (ST.mk 6 ⟨#[]⟩ y a1 c1 ys none 0 []).cells = [.int .i64 6, .string ⟨#[]⟩, y0, y1, y2, y3, y4, .slice a1 n1 c1, .slice none 0 0] := by
        show (.int .i64 6 :: .string ⟨#[]⟩ :: (y.cells ++ [.slice a1 ys.length c1, .slice none 0 0]) : List Value) = _
        rw [hyc, hn1.out]; rfl
      have hA4 := (hb1r.at (hA4.below hB0) (by omega))
      refine wp_store_at 51 (.tmp 4) (.tmp 22) rfl w.heap.size [.int .i64 6, .string ⟨#[]⟩, y0, y1, y2, y3, y4, .slice a1 n1 c1, .slice none 0 0] rfl rfl 51 _ hA4 i38 rfl (by rw [← hcs]; exact ST.one _) ?_
      intro x2r hA2r hb2r hs2r
      have hS2r := (hb2r.at hS1r (by omega))
      refine hK.out _ _ hS2r (fun _ => ?_)
      clear hK K
      refine wpAnyH_done (by kernel_rfl) ?_ _
      go_wp2_with fail
      refine bodyPost_ret (results_at rfl _ _ w.heap.size 51 [.int .i64 6, .string ⟨#[]⟩, y0, y1, y2, y3, y4, .slice a1 n1 c1, .slice none 0 0] _ rfl hA2r Tryz.underlying51 rfl i38) rfl ?_
      refine ⟨ST.mk 6 ⟨#[]⟩ y a1 c1 ys none 0 [], by rw [hcs], ?_, ts_mk _ (by decide) _ ((((hyt.below hB0).but hb1r (.inl (by omega))).but hb2r (.inl (by omega))).low (by omega)) ((hT.but hb2r (.inl (by omega))).low (by omega)) (Tl.nil _ _), hR9.but hb2r hBw, ((hbt.trans (But.of_below hB0)).trans hb1r).fresh hb2r (Nat.le_refl _)⟩
      unfold ST.st
      rw [hye, ST.sts_eq, ST.sts_eq, hys]
      rfl
  rw [if_neg c1] at hD
  have C55 := takes_no g l ⟨#[119, 104, 105, 108, 101]⟩ (by decide) c1 w2 hR
  clear hR c1 HB
  go_wp2_with (go_at_call 55; refine C55.mono ?_; rintro r w3 ⟨rfl, hR, hb3⟩; refine Hid.out ?_)
  refine hidU ?_
  have hA4 := hb3.at hA4 (by omega)
  have hbt := hbt.trans hb3
  have l23 := hb3.size
  clear C55 hb3
  have CS := simple_any g l w3 hR (by omega)
  clear hR
  generalize simpleR l = N at CS hD
  cases N with
  | bad e p =>
    have hD' : D = .bad e p := hD.out
    subst hD'
    go_wp2_with (go_at_call 164; refine CS.mono ?_; rintro r w4 ⟨hr, hb4⟩; unfold PanW at hr; subst hr)
    exact ⟨rfl, rfl, hbt.trans hb4⟩
  | ok s r1 =>
  have hD1 : Hid (D = (mustR [59] r1).bind fun _ r => .ok s r) := hD
  clear hD
  go_wp2_with (go_at_call 164; refine CS.mono ?_; rintro r w4 ⟨y, rfl, hye, hyt, hR, hb4⟩; refine Hid.out ?_)
  refine hidU ?_
  have hA4 := hb4.at hA4 (by omega)
  have hbt := hbt.trans hb4
  have l34 := hb4.size
  clear CS hb4
  go_wp2_with (first
    | ((with_reducible show wpList _ _ _ _ _ _); refine wpList_alloc_at (o := { dst := some 6, .. }) rfl 51 rfl (ST.cells (.mk 0 ⟨#[]⟩ (ET.mk 0 0 0 ⟨#[]⟩ none 0 []) none 0 [] none 0 [])) 9 z51 ?_; intro w5 hA5 hb5 hs5; clear hs5)
    | ((with_reducible show wpList _ _ _ _ _ _); refine wpList_store_at (P := Tryz.prog) rfl 51 (.tmp 6) (.tmp 24) rfl w4.heap.size y.cells rfl rfl 51 _ hA5 (i51 _) (len51 _ _) (ST.one _) ?_; intro w6 hA6 hb6 hs6; clear hs6; refine Hid.out ?_))
  refine hidU ?_
  have h46 : Below w4.heap.size w4 w6 := hb6.below hb5 (Nat.le_refl _) hb5.size
  have hA4 := hA4.below h46
  have hR := hR.below h46
  have hyt := hyt.below h46
  have hbt := hbt.trans (But.of_below h46)
  have l46 := hA6.lt
  clear hA5 hb5 hb6 h46
  have CM := must_any g r1 ⟨#[59]⟩ (by decide) w6 hR
  have eb : bytes ⟨#[59]⟩ = [59] := rfl
  rw [eb] at CM
  clear hR eb
  generalize mustR [59] r1 = N at CM hD1
  cases N with
  | bad e p =>
    have hD' : D = .bad e p := hD1.out
    subst hD'
    go_wp2_with (go_at_call 58; refine CM.mono ?_; rintro r w7 ⟨hr, hb7⟩; unfold PanW at hr; subst hr)
    exact ⟨rfl, rfl, hbt.trans hb7⟩
  | ok u r2 =>
  have hD' : D = .ok s r2 := hD1.out
  subst hD'
  go_wp2_with (go_at_call 58; refine CM.mono ?_; rintro r w7 ⟨rfl, hR, hb7⟩; refine Hid.out ?_)
  refine hidU ?_
  have hA4 := hb7.at hA4 (by omega)
  have hA6 := hb7.at hA6 (by omega)
  have hbt := hbt.trans hb7
  have hyt := hyt.but hb7 (.inl (by omega))
  have l67 := hb7.size
  clear CM hb7
  go_wp2_with (first
    | ((with_reducible show wpList _ _ _ _ _ _); refine wpList_load_at (P := Tryz.prog) rfl 51 (.tmp 6) rfl w4.heap.size rfl 51 y.cells hA6 _ Tryz.underlying51 rfl (i51 _) ?_)
    | ((with_reducible show wpList _ _ _ _ _ _); refine wpList_store_at (P := Tryz.prog) rfl 51 (.tmp 4) (.tmp 27) rfl w.heap.size y.cells rfl rfl 51 _ hA4 (i51 _) (len51 _ _) (ST.one _) ?_; intro wE hAE hbE hsE; clear hsE))
  refine bodyPost_ret (results_at rfl _ _ w.heap.size 51 y.cells _ rfl hAE Tryz.underlying51 rfl (i51 _)) rfl ?_
  exact ⟨y, rfl, hye, (hyt.but hbE (.inl (by omega))).low (by omega), hR.but hbE hBw, hbt.fresh hbE (Nat.le_refl _)⟩

set_option maxRecDepth 100000 in
set_option maxHeartbeats 6400000 in
theorem stmts_of (n : Nat) (hS : StmtW n) : StmtsW n := by
  intro l f d hln hf hd hlm B g w h hBw
  have lg := h.lt
  obtain ⟨D, hD⟩ : ∃ D, Hid (D = stmtsR f d l) := ⟨_, (rfl : stmtsR f d l = _)⟩
  rw [← hD.out]
  have HS : Hid (StmtW n) := hS
  have HI : Hid (∃ (l' : List Tk) (f' : Nat) (ys : List ST), ys.length = 0 ∧ Gr eS w.heap.size w (.slice none 0 0) ys ∧ Rd B w g l' ∧ But g w w ∧ 0 + l'.length ≤ l.length ∧ 4 * l'.length + 4 ≤ f' ∧ D = (stmtsR f' d l').bind fun ss r => .ok (ys.map ST.st ++ ss) r) := by
    refine ⟨l, f, [], rfl, Gr.nil (Nat.le_refl _), h, But.refl _ _, by omega, hf, ?_⟩
    rw [hD.out]
    cases stmtsR f d l <;> rfl
  clear h hS hD hf
  go_enter Tryz.func96, Tryz.ntmps96
  go_wp2_with fail
  go_loopw [5] (fun v wr => ∃ (aV : Option Addr) (k cV : Nat), v = .slice aV k cV ∧ Hid (∃ (l' : List Tk) (f' : Nat) (ys : List ST), ys.length = k ∧ Gr eS w.heap.size wr (.slice aV k cV) ys ∧ Rd B wr g l' ∧ But g w wr ∧ k + l'.length ≤ l.length ∧ 4 * l'.length + 4 ≤ f' ∧ D = (stmtsR f' d l').bind fun ss r => .ok (ys.map ST.st ++ ss) r)) (fun _ wr => tokLen wr g)
  case atStart => exact ⟨none, 0, 0, rfl, HI.out⟩
  case round =>
    obtain ⟨aV, k, cV, rfl, hX⟩ := hrel
    clear HI
    obtain ⟨l', f', ys, hyl, hG, hR, hbt, hkl, hf', hD⟩ := hX.out
    clear hX
    have hpos := hR.pos
    obtain ⟨f', rfl⟩ : ∃ q, f' = q + 1 := ⟨f' - 1, by omega⟩
    have HD : Hid (D = (stmtsR (f' + 1) d l').bind fun ss r => .ok (ys.map ST.st ++ ss) r) := hD
    clear hD
    rw [stmtsR] at HD
    have htk := hR.len
    have lr := hbt.size
    by_cases c0 : (hdT l').text = [125]
    · rw [if_pos c0] at HD
      have hD' : D = .ok (ys.map ST.st ++ []) l'.tail := HD.out
      rw [List.append_nil] at hD'
      subst hD'
      have C55 := takes_yes g l' ⟨#[125]⟩ (by decide) c0 wr hR
      clear hR c0 HD HS htk
      go_wp2_with (go_at_call 55; refine C55.mono ?_; rintro r w2 ⟨rfl, hR, hb2⟩; refine Hid.out ?_)
      refine hidU ?_
      have hG := hG.but hb2 lg
      have hbt := hbt.trans hb2
      clear C55 hb2
      go_wp2_with fail
      go_ret
      refine ⟨aV, cV, ys, by rw [hyl]; rfl, rfl, hG.stmts (by omega), hR, hbt⟩
    · rw [if_neg c0] at HD
      have C55 := takes_no g l' ⟨#[125]⟩ (by decide) c0 wr hR
      clear hR c0
      go_wp2_with (go_at_call 55; refine C55.mono ?_; rintro r w2 ⟨rfl, hR, hb2⟩; refine Hid.out ?_)
      refine hidU ?_
      have hG := hG.but hb2 lg
      have hbt := hbt.trans hb2
      have l2 := hb2.size
      clear C55 hb2
      have CS := HS.out l' f' d (by omega) (by omega) hd (by omega) B g w2 hR (by omega)
      have hsl := (stmt_left f' d l').1
      clear hR
      generalize stmtR f' d l' = N at CS HD hsl
      cases N with
      | bad e p =>
        have hD' : D = .bad e p := HD.out
        subst hD'
        clear hG HS
        go_wp2_with (go_at_call 129; refine CS.mono ?_; rintro r w3 ⟨hr, hb3⟩; unfold PanW at hr; subst hr)
        exact ⟨rfl, rfl, hbt.trans hb3⟩
      | ok s r1 =>
      have hr1 : r1.length < l'.length := hsl
      have hD' : D = ((stmtsR f' d r1).bind fun ss r => .ok (s :: ss) r).bind fun ss r => .ok (ys.map ST.st ++ ss) r := HD.out
      rw [Rs.bind_bind] at hD'
      clear HD hsl
      go_wp2_with (go_at_call 129; refine CS.mono ?_; rintro r w3 ⟨y, rfl, hye, hyt, hR, hb3⟩; refine Hid.out ?_)
      refine hidU ?_
      have hyo : eS.Lies (fun q => w.heap.size ≤ q ∧ some q ≠ (Value.slice aV k cV).ownBlock) y := Gr.fresh hG hyt.2
      have hG := hG.but hb3 lg
      have hbt := hbt.trans hb3
      have l3 := hb3.size
      have HV : Hid (ys.length = k ∧ Gr eS w.heap.size w3 (.slice aV k cV) ys ∧ eS.In w3.heap.size w3 y ∧ eS.Lies (fun q => w.heap.size ≤ q ∧ some q ≠ (Value.slice aV k cV).ownBlock) y ∧ y.st = s ∧ D = (stmtsR f' d r1).bind fun ss r => (Rs.ok (s :: ss) r).bind fun ss r => .ok (ys.map ST.st ++ ss) r) := ⟨hyl, hG, hyt.1, hyo, hye, hD'⟩
      clear CS hb3 hG hyt hyo hye hyl hD'
      go_wp2_with (first
        | ((with_reducible show wpList _ _ _ _ _ _); refine wpList_layS rfl (.tmp 12) rfl y.cells rfl (ST.cells_len y) ?_; intro w4 hA4 hb4; refine Hid.out ?_))
      refine hidU ?_
      have HV4 : Hid (Gr eS w.heap.size w4 (.slice aV k cV) ys ∧ eS.In w4.heap.size w4 y) := ⟨HV.out.2.1.below hb4, ST.In.up hb4.size (ST.In.old (Old.of_below hb4 (Nat.le_refl _)) HV.out.2.2.1)⟩
      have hR := hR.below hb4
      have hbt := hbt.trans (But.of_below hb4)
      have l4 := hb4.size
      have HA4 : Hid (At 51 w4 w3.heap.size y.cells) := hA4
      clear hb4 hA4
      go_wp2_with (first
        | ((with_reducible show wpList _ _ _ _ _ _); refine wpList_grow (e := eS) (A := w.heap.size) (ys := ys) rfl (.tmp 9) (.tmp 13) 49 _ 136 rfl Tryz.underlying49 f51 rfl (by decide) rfl w3.heap.size rfl HV4.out.1 y HA4.out HV4.out.2 HV.out.2.2.2.1 k HV.out.1 (by omega) (by decide) ?_; intro gW cW w5 hG5 hb5; refine Hid.out ?_))
      refine hidU ?_
      have hR5 : Rd B w5 g r1 := hR.low hb5 hBw
      have HRel : Hid (∃ (l' : List Tk) (f' : Nat) (ys : List ST), ys.length = k + 1 ∧ Gr eS w.heap.size w5 (.slice (some ⟨gW, 0, none⟩) (k + 1) cW) ys ∧ Rd B w5 g l' ∧ But g w w5 ∧ k + 1 + l'.length ≤ l.length ∧ 4 * l'.length + 4 ≤ f' ∧ D = (stmtsR f' d l').bind fun ss r => .ok (ys.map ST.st ++ ss) r) := by
        refine ⟨r1, f', ys ++ [y], by rw [List.length_append, HV.out.1]; rfl, hG5, hR5, ?_, by omega, by omega, ?_⟩
        · exact ⟨hb5.os.trans hbt.os, hb5.tape.trans hbt.tape, hb5.output.trans hbt.output, Nat.le_trans hbt.size hb5.size, fun q hq hne => (hb5.block q hq).trans (hbt.block q hq hne)⟩
        · have e := HV.out.2.2.2.2.2
          rw [e]
          congr 1
          funext ss r
          show Rs.ok (ys.map ST.st ++ s :: ss) r = _
          rw [List.map_append, List.append_assoc, ← HV.out.2.2.2.2.1]
          rfl
      have hm : tokLen w5 g < tokLen wr g := by rw [hR5.len, htk]; exact hr1
      clear hG5 hb5 hR hR5 HV HV4 HA4 HS htk
      go_wp2_with fail
      go_roundw
      case rel => exact ⟨some ⟨gW, 0, none⟩, k + 1, cW, rfl, HRel.out⟩
      case measure => exact hm

theorem allW : ∀ n, StmtsW n ∧ BlockW n
  | 0 => ⟨fun l f d h _ _ _ B g w hR => by have := hR.pos; omega, fun l f d h _ _ _ B g w hR => by have := hR.pos; omega⟩
  | n + 1 => ⟨stmts_of (n + 1) (stmt_of n (choice_of n (allW n).2) (allW n).2), block_of n (allW n).1⟩
theorem stmts96_any (l : List Tk) (f d : Nat) (hf : 4 * l.length + 4 ≤ f) (hd : d ≤ 32) (hl : l.length ≤ 1048576) (B g : Nat) (w : World) (h : Rd B w g l) (hBw : B ≤ w.heap.size) :
    Calls Tryz.prog 96 #[.pointer (some ⟨g, 0, none⟩), .int .i64 (d : Int)] w (PostL B g w (stmtsR f d l)) := (allW l.length).1 l f d (Nat.le_refl _) hf hd hl B g w h hBw
end Go.Proofs.YtjgggmjjikopeaaGreatDoor
