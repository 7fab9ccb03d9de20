/- Joined texts of the proof. -/
import Derived.Test.YtbamocalhojmeaaJ10

/- clock.fill: the walk. -/
namespace Go.Proofs.Ytbamocalhojmeaa
open Go.RowKit
set_option linter.unusedVariables false
attribute [local go_sem ↓] Go.wp_at_zero Go.wp_at_succ

theorem flS_skip {c : Nat → List Int} {ev : Nat → Ev} {e : Ev} {z : List Int} {k : Nat} (h : depB (ev k) e = false) : flS c ev e z (k + 1) = flS c ev e z k := by
  rw [flS, if_neg (by rw [h]; exact Bool.false_ne_true)]
theorem flS_first {c : Nat → List Int} {ev : Nat → Ev} {e : Ev} {z us : List Int} {k own : Nat} (h : depB (ev k) e = true) (hs : (us, own, true) = flS c ev e z k) : flS c ev e z (k + 1) = (gatL (c k) (c k), own + (if (ev k).th = e.th then 1 else 0), false) := by
  rw [flS, if_pos h, ← hs]
  simp
theorem flS_more {c : Nat → List Int} {ev : Nat → Ev} {e : Ev} {z us : List Int} {k own : Nat} (h : depB (ev k) e = true) (hs : (us, own, false) = flS c ev e z k) : flS c ev e z (k + 1) = (gatL us (c k), own + (if (ev k).th = e.th then 1 else 0), false) := by
  rw [flS, if_pos h, ← hs]
  simp

set_option maxRecDepth 100000 in
set_option maxHeartbeats 6400000 in
theorem fill_any (g o c n : Nat) (zs : List Int) (a1 : Option Addr) (c1 : Nat) (xs : List (List Int)) (a2 : Option Addr) (c2 : Nat) (es : List Ev) (e : Ev) (w : World)
    (hz : WrI w g o zs) (hzl : zs.length = n) (hn1 : 0 < n) (hn2 : n ≤ 16) (hX : RowF w a1 xs n g o (o + n)) (hxl : xs.length = es.length) (hE : RowEv w a2 es) (hEg : ∀ G O, a2 = some ⟨G, O, none⟩ → G ≠ g)
    (hok : ∀ x ∈ es, x.ok) (he : e.ok) (ht1 : 0 ≤ e.th) (ht2 : e.th < n) (hm : es.length ≤ 1024) (hc : n ≤ c) (hk1 : es.length ≤ c1) (hk2 : es.length ≤ c2) :
    Calls Try.prog 65 #[.slice (some ⟨g, o, none⟩) n c, .slice a1 es.length c1, .slice a2 es.length c2, .agg e.cells.toArray] w fun r w' => r = .returned (.tuple #[]) ∧ WrI w' g o (flZ xs es e zs) ∧ Ovr g o (o + n) w w' := by
  obtain ⟨Z, hZ⟩ : ∃ Z, Hid (Z = flZ xs es e zs) := ⟨_, (rfl : _ = flZ _ _ _ _)⟩
  rw [← hZ.out]
  obtain ⟨m, hm0⟩ : ∃ m, Hid (m = es.length) := ⟨_, (rfl : es.length = _)⟩
  rw [← hm0.out] at hm hk1 hk2 ⊢
  obtain ⟨cl, hcl⟩ : ∃ cl : Nat → List Int, Hid (cl = fun i => xs.getD i []) := ⟨_, (rfl : _ = fun i => _)⟩
  obtain ⟨ev, hev⟩ : ∃ ev, Hid (ev = evAt es) := ⟨_, (rfl : _ = evAt _)⟩
  have hg0 := hz.lt
  have HZ : Hid (WrI w g o zs ∧ RowF w a1 xs n g o (o + n) ∧ RowEv w a2 es ∧ ∀ G O, a2 = some ⟨G, O, none⟩ → G ≠ g) := ⟨hz, hX, hE, hEg⟩
  have HQ : Hid (e.ok ∧ (∀ x ∈ es, x.ok) ∧ xs.length = m ∧ zs.length = n) := ⟨he, hok, hxl.trans hm0.out.symm, hzl⟩
  clear hz hX hE hEg he hok hxl hzl
  have HEe : Hid (∀ (x : Ev), x.ok → ∀ u, Calls Try.prog 31 #[.agg x.cells.toArray, .agg e.cells.toArray] u fun r w' => r = .returned (.bool (depB x e)) ∧ Below u.heap.size u w') := fun x hx u => depends_any x e hx HQ.out.1 u
  obtain ⟨et, ek, eo⟩ := e
  obtain ⟨p, rfl⟩ : ∃ p : Nat, et = (p : Int) := ⟨et.toNat, by simp at ht1; omega⟩
  have hp : p < n := by simp at ht2; exact ht2
  clear ht1 ht2
  obtain ⟨e0, he0⟩ : ∃ e0 : Ev, Hid (e0 = ⟨p, ek, eo⟩) := ⟨_, (rfl : _ = Ev.mk _ _ _)⟩
  rw [← he0.out] at hZ
  have HEd : Hid (∀ (x : Ev), x.ok → ∀ u, Calls Try.prog 31 #[.agg x.cells.toArray, .agg #[.int .i64 p, .int .i64 ek, .int .i64 eo]] u fun r w' => r = .returned (.bool (depB x e0)) ∧ Below u.heap.size u w') := fun x hx u => by rw [he0.out]; exact HEe.out x hx u
  clear HEe
  simp only [Ev.cells]
  go_enter Try.func65, Try.ntmps65
  go_wp2_with (first | (refine wpList_box_at rfl 50 (.tmp 3) rfl [.int .i64 p, .int .i64 ek, .int .i64 eo] rfl ?_; intro w1 hA1 hb1 hs1))
  have hg1 : g < w1.heap.size := Nat.lt_of_lt_of_le hg0 hb1.size
  have hEg : w.heap.size ≠ g := by omega
  have HZ1 : Hid (WrI w1 g o zs ∧ RowF w1 a1 xs n g o (o + n) ∧ RowEv w1 a2 es ∧ At 50 w1 w.heap.size [.int .i64 p, .int .i64 ek, .int .i64 eo]) := ⟨HZ.out.1.below hb1, HZ.out.2.1.ovr (.of_below hg0 hb1), HZ.out.2.2.1.below hb1, hA1⟩
  have HO1 : Hid (Ovr g o (o + n) w w1) := .of_below hg0 hb1
  have HG : Hid (∀ G O, a2 = some ⟨G, O, none⟩ → G ≠ g) := HZ.out.2.2.2
  clear HZ hA1 hb1 hs1
  go_loopw [8, 9, 14] (fun a b t wr => ∃ (k : Nat) (us : List Int) (own : Nat) (fst : Bool), k ≤ m ∧ t = .int .i64 k ∧ a = .int .i64 own ∧ b = .bool fst ∧ own ≤ k ∧ Hid ((us, own, fst) = flS cl ev e0 zs k) ∧ Hid (us.length = n) ∧ Hid (WrI wr g o us) ∧ Hid (Ovr g o (o + n) w1 wr)) (fun _ _ t _ => m - (intOf t).toNat)
  case atStart => exact ⟨0, zs, 0, true, Nat.zero_le _, rfl, rfl, rfl, Nat.le_refl _, rfl, HQ.out.2.2.2, HZ1.out.1, Ovr.refl ..⟩
  case round =>
    obtain ⟨k, us, own, fst, hk, rfl, rfl, rfl, hown, hS, hul, hW, hO⟩ := hrel
    by_cases hlt : k < m
    · obtain ⟨x, hx⟩ : ∃ x, es[k]? = some x := ⟨es[k]'(by rw [← hm0.out]; exact hlt), by rw [List.getElem?_eq_getElem]⟩
      obtain ⟨y, hy⟩ : ∃ x, xs[k]? = some x := ⟨xs[k]'(by rw [HQ.out.2.2.1]; exact hlt), by rw [List.getElem?_eq_getElem]⟩
      obtain ⟨g2, o2, rfl, hr2⟩ := (HZ1.out.2.2.1.ovr HG.out hO.out).at k x hx
      obtain ⟨g3, o3, b3, c3, rfl, hg3, hr3, hY3, hc3, hyl, hfar⟩ := (HZ1.out.2.1.ovr hO.out).at k y hy
      have hA := HZ1.out.2.2.2.ovr hO.out hEg
      obtain ⟨q1, q2, q3⟩ := range_cells hr2
      have hxok := HQ.out.2.1 x (List.mem_of_getElem? hx)
      have hHD := HEd.out x hxok
      have hevk : Hid (ev k = x ∧ cl k = y) := by
        refine ⟨?_, ?_⟩
        · rw [hev.out]; exact evAt_eq hx
        · rw [hcl.out]; simp [List.getD, hy]
      obtain ⟨D, hD⟩ : ∃ D, Hid (D = depB x e0) := ⟨_, (rfl : _ = depB _ _)⟩
      rw [← hD.out] at hHD
      have HY : Hid (RowI wr b3 y ∧ Far b3 n g o (o + n) ∧ y.length = n) := ⟨hY3, hfar, hyl⟩
      have HC : Hid (∀ u, Calls Try.prog 31 #[.agg x.cells.toArray, .agg #[.int .i64 p, .int .i64 ek, .int .i64 eo]] u fun r w' => r = .returned (.bool D) ∧ Below u.heap.size u w') := hHD
      have HAE : Hid (At 50 wr w.heap.size [.int .i64 p, .int .i64 ek, .int .i64 eo]) := hA
      have HH : Hid (wr.cell? ⟨g3, o3 + k, none⟩ = some (.slice b3 n c3)) := hr3
      clear hx hy hr2 hY3 hfar hyl hA hHD hr3 hxok
      obtain ⟨xt, xk, xo⟩ := x
      dsimp only at q1 q2 q3
      simp only [Ev.cells] at HC
      have hgr : g < wr.heap.size := Nat.lt_of_lt_of_le hg1 hO.out.size
      go_wp2_with (first | (refine wpList_alloc_at rfl 50 rfl _ 3 z25 ?_; intro w2 hA2 hb2 hs2) | (refine wpList_store_at (P := Try.prog) rfl 50 (.tmp 11) (.tmp 18) rfl wr.heap.size [.int .i64 xt, .int .i64 xk, .int .i64 xo] rfl rfl 50 _ hA2 i25 rfl (Ev.one ⟨xt, xk, xo⟩) ?_; intro w3 hA3 hb3 hs3; refine Hid.out ?_))
      refine hidU ?_
      have hB3 : Below wr.heap.size wr w3 := hb3.below hb2 (Nat.le_refl _) (by omega)
      have hAE := HAE.out.below hB3
      have x0 : w3.cell? ⟨wr.heap.size, 0, none⟩ = some (.int .i64 xt) := hA3.cell 0
      have x1 : w3.cell? ⟨wr.heap.size, 1, none⟩ = some (.int .i64 xk) := hA3.cell 1
      have x2 : w3.cell? ⟨wr.heap.size, 2, none⟩ = some (.int .i64 xo) := hA3.cell 2
      have y0 : w3.cell? ⟨w.heap.size, 0, none⟩ = some (.int .i64 p) := hAE.cell 0
      have y1 : w3.cell? ⟨w.heap.size, 1, none⟩ = some (.int .i64 ek) := hAE.cell 1
      have y2 : w3.cell? ⟨w.heap.size, 2, none⟩ = some (.int .i64 eo) := hAE.cell 2
      have HL : Hid (Below wr.heap.size wr w3 ∧ At 50 w3 wr.heap.size [.int .i64 xt, .int .i64 xk, .int .i64 xo] ∧ At 50 w3 w.heap.size [.int .i64 p, .int .i64 ek, .int .i64 eo]) := ⟨hB3, hA3, hAE⟩
      clear hA2 hb2 hs2 hA3 hb3 hs3 hB3 hAE q1 q2 q3 HAE
      go_wp2_with (go_at_call 31; refine (HC.out _).mono ?_; rintro _ w4 ⟨rfl, hb4⟩; refine Hid.out ?_)
      refine hidU ?_
      clear x0 x1 x2 y0 y1 y2 HC
      have hB4 : Below wr.heap.size wr w4 := HL.out.1.trans (hb4.mono HL.out.1.size)
      have hO4 : Hid (Ovr g o (o + n) w1 w4) := hO.out.more hg1 hB4
      have hA4 := HL.out.2.1.below hb4
      have hE4 := HL.out.2.2.below hb4
      have hW4 : Hid (WrI w4 g o us) := hW.out.below hB4
      have hY4 : Hid (RowI w4 b3 y ∧ Far b3 n g o (o + n) ∧ y.length = n) := ⟨HY.out.1.below hB4, HY.out.2⟩
      have hh4 : w4.cell? ⟨g3, o3 + k, none⟩ = some (.slice b3 n c3) := (hB4.cell (lt_of_cell HH.out)).trans HH.out
      have HA4 : Hid (At 50 w4 wr.heap.size [.int .i64 xt, .int .i64 xk, .int .i64 xo] ∧ At 50 w4 w.heap.size [.int .i64 p, .int .i64 ek, .int .i64 eo] ∧ wr.heap.size ≠ g) := ⟨hA4, hE4, by omega⟩
      clear hB4 hb4 HL hW HY HH hA4 hE4 hgr hO
      cases D
      · have hS2 : Hid ((us, own, fst) = flS cl ev e0 zs (k + 1)) := by
          show _ = _
          rw [hS.out, flS_skip (by rw [hevk.out.1]; exact hD.out.symm)]
        clear hS hh4
        go_wp2_with fail
        go_roundw
        case rel => exact ⟨k + 1, us, own, fst, by omega, by go_num, rfl, rfl, by omega, hS2.out, hul.out, hW4.out, hO4.out⟩
        case measure => simp [intOf]; omega
      · have hdt : depB (ev k) e0 = true := by rw [hevk.out.1]; exact hD.out.symm
        obtain ⟨X, hX⟩ : ∃ X : Nat, Hid (X = if xt = p then 1 else 0) := ⟨if xt = p then 1 else 0, hidU rfl⟩
        have hX2 : Hid ((if (ev k).th = e0.th then 1 else 0) = X) := by show _ = _; rw [hevk.out.1, he0.out, hX.out]
        obtain ⟨vs, hvs⟩ : ∃ vs, vs = if fst then y else us := ⟨_, rfl⟩
        have hS2 : Hid ((gatL vs y, own + X, false) = flS cl ev e0 zs (k + 1)) := by
          show _ = _
          cases fst
          · rw [flS_more hdt hS.out, hX2.out, hevk.out.2, hvs]; rfl
          · rw [flS_first hdt hS.out, hX2.out, hevk.out.2, hvs]; rfl
        have hvl : vs.length = n := by rw [hvs]; split; exact hY4.out.2.2; exact hul.out
        have hgl : Hid ((gatL vs y).length = n) := by show _ = _; rw [gatL_length vs y (by rw [hvl]; exact hY4.out.2.2)]; exact hvl
        have HGA : Hid (∀ u, WrI u g o vs → RowI u b3 y → Calls Try.prog 81 #[.slice (some ⟨g, o, none⟩) n c, .slice b3 n c3] u fun r w' => r = .returned (.tuple #[]) ∧ WrI w' g o (gatL vs y) ∧ Ovr g o (o + n) u w') := fun u h1 h2 => by
          have := gather_any g o c vs b3 c3 y u h1 h2 (by rw [hvl, hY4.out.2.2]; exact hY4.out.2.1) (by rw [hvl]; exact hY4.out.2.2) (by rw [hvl]; omega) (by rw [hvl]; exact hc) (by rw [hY4.out.2.2]; exact hc3)
          rwa [hvl, hY4.out.2.2] at this
        clear hdt hX2 hS hD hevk
        have hXx : X = 0 ∧ ((xt == (p : Int)) = false) ∨ X = 1 ∧ ((xt == (p : Int)) = true) := by
          rw [hX.out]
          by_cases h : xt = p
          · right; simp [h]
          · left; simp [h]
        clear hX
        have hown2 : own + X ≤ k + 1 := by rcases hXx with ⟨h, _⟩ | ⟨h, _⟩ <;> omega
        have fin : ∀ w6, WrI w6 g o (gatL vs y) → Ovr g o (o + n) w4 w6 → (w6.cell? ⟨wr.heap.size, 0, none⟩ = some (.int .i64 xt) ∧ w6.cell? ⟨w.heap.size, 0, none⟩ = some (.int .i64 p)) ∧ Ovr g o (o + n) w1 w6 := fun w6 h1 h2 => ⟨⟨(HA4.out.1.ovr h2 HA4.out.2.2).cell 0, (HA4.out.2.1.ovr h2 hEg).cell 0⟩, hO4.out.trans h2⟩
        have HF : Hid (∀ w6, WrI w6 g o (gatL vs y) → Ovr g o (o + n) w4 w6 → (w6.cell? ⟨wr.heap.size, 0, none⟩ = some (.int .i64 xt) ∧ w6.cell? ⟨w.heap.size, 0, none⟩ = some (.int .i64 p)) ∧ Ovr g o (o + n) w1 w6) := fin
        clear fin HA4 hO4
        cases fst
        · obtain rfl : vs = us := by simpa using hvs
          go_wp2_with (go_at_call 81; refine (HGA.out _ hW4.out hY4.out.1).mono ?_; rintro _ w6 ⟨rfl, hW6, hO6⟩; refine Hid.out ?_)
          refine hidU ?_
          obtain ⟨⟨x0, y0⟩, hO7⟩ := HF.out w6 hW6 hO6
          have hW7 : Hid (WrI w6 g o (gatL vs y)) := hW6
          have hO8 : Hid (Ovr g o (o + n) w1 w6) := hO7
          clear hW6 hO6 hO7 hh4 HF HGA hvs
          rcases hXx with ⟨rfl, hxp⟩ | ⟨rfl, hxp⟩
          · go_wp2_with fail
            go_roundw
            case rel => exact ⟨k + 1, gatL vs y, own + 0, false, by omega, by go_num, rfl, rfl, by omega, hS2.out, hgl.out, hW7.out, hO8.out⟩
            case measure => simp [intOf]; omega
          · go_wp2_with fail
            go_roundw
            case rel => exact ⟨k + 1, gatL vs y, own + 1, false, by omega, by go_num, by go_num, rfl, by omega, hS2.out, hgl.out, hW7.out, hO8.out⟩
            case measure => simp [intOf]; omega
        · obtain rfl : vs = y := by simpa using hvs
          go_wp2_with (refine wpList_copy_ovr rfl (.tmp 24) (.tmp 28) rfl g o n c c3 b3 rfl rfl us vs hul.out hvl hn1 hW4.out hY4.out.1 ?_; intro w5 hW5 hO5; refine Hid.out ?_)
          refine hidU ?_
          have hh5 := cell_ovr hO5 hg3 hh4
          have hY5 : Hid (RowI w5 b3 vs) := hY4.out.1.ovr (by rw [hvl]; exact hY4.out.2.1) hO5
          have hW5' : Hid (WrI w5 g o vs) := hW5
          have hO5' : Hid (Ovr g o (o + n) w4 w5) := hO5
          clear hh4 hW5 hO5 hvs
          go_wp2_with (go_at_call 81; refine (HGA.out _ hW5'.out hY5.out).mono ?_; rintro _ w6 ⟨rfl, hW6, hO6⟩; refine Hid.out ?_)
          refine hidU ?_
          obtain ⟨⟨x0, y0⟩, hO7⟩ := HF.out w6 hW6 (hO5'.out.trans hO6)
          have hW7 : Hid (WrI w6 g o (gatL vs vs)) := hW6
          have hO8 : Hid (Ovr g o (o + n) w1 w6) := hO7
          clear hW6 hO6 hO7 hh5 HF HGA
          rcases hXx with ⟨rfl, hxp⟩ | ⟨rfl, hxp⟩
          · go_wp2_with fail
            go_roundw
            case rel => exact ⟨k + 1, gatL vs vs, own + 0, false, by omega, by go_num, rfl, rfl, by omega, hS2.out, hgl.out, hW7.out, hO8.out⟩
            case measure => simp [intOf]; omega
          · go_wp2_with fail
            go_roundw
            case rel => exact ⟨k + 1, gatL vs vs, own + 1, false, by omega, by go_num, by go_num, rfl, by omega, hS2.out, hgl.out, hW7.out, hO8.out⟩
            case measure => simp [intOf]; omega
    · have hkm : Hid (k = m) := show k = m by omega
      have hpu : p < us.length := by rw [hul.out]; exact hp
      obtain ⟨z, hz⟩ : ∃ z, us[p]? = some z := ⟨us[p], List.getElem?_eq_getElem hpu⟩
      have q1 := hW.out.cell hz
      have q2 := hW.out.frozen (o + p)
      have y0 := (HZ1.out.2.2.2.ovr hO.out hEg).cell 0
      have y0' : wr.cell? ⟨w.heap.size, 0, none⟩ = some (.int .i64 p) := y0
      have hZ2 : Hid (Z = us.set p ((own : Int) + 1)) := by
        show Z = _
        have e1 := hS.out
        rw [hkm.out, hm0.out] at e1
        rw [hZ.out, flZ, ← hcl.out, ← hev.out, ← e1, he0.out]
        simp
      have hW7 : Hid (WrI (wr.setCell ⟨g, o + p, none⟩ (.int .i64 ((own : Int) + 1))) g o (us.set p ((own : Int) + 1))) := hW.out.set hpu _
      have hO7 : Hid (Ovr g o (o + n) w (wr.setCell ⟨g, o + p, none⟩ (.int .i64 ((own : Int) + 1)))) := HO1.out.trans (hW.out.ovr hpu hO.out (Nat.le_refl _) (by rw [hul.out]; exact Nat.le_refl _) _)
      clear y0 hz hpu hkm
      go_wp2_with fail
      go_end0
      exact ⟨rfl, by rw [hZ2.out]; exact hW7.out, hO7.out⟩
end Go.Proofs.Ytbamocalhojmeaa

/- clock.cut: a memory cut into clocks. -/
namespace Go.Proofs.Ytbamocalhojmeaa
open Go.RowKit
set_option linter.unusedVariables false
attribute [local go_sem ↓] Go.wp_at_zero Go.wp_at_succ

/-- 'b[a:a+n:a+n]' of numbers. -/
theorem runI_slice_cut (w : World) (g len cap a n : Nat) (x y : Int) (hx : x = (a : Int)) (hy : y = ((a + n : Nat) : Int)) (hn : 0 < n) (hh : a + n ≤ cap) :
    (Instr.slice 23 (.slice (some ⟨g, 0, none⟩) len cap) (some (.int .i64 x)) (some (.int .i64 y)) (some (.int .i64 y))).run Try.prog w = .ok (.slice (some ⟨g, a, none⟩) n n) w := by
  have he : Try.prog.elem 23 = 3 := by simp [Program.elem, Try.underlying23]
  rw [run_slice_lhm w 23 (some ⟨g, 0, none⟩) len cap (by rw [he]; exact Try.underlying23) .i64 .i64 .i64 x y y (by omega) (by omega) (by omega) (by omega), he, size3]
  simp only [Result.andThen, sliced]
  rw [show x.toNat = a by omega, show y.toNat = a + n by omega]
  simp [add_none]
  omega

/-- A memory in block g, cut. -/
def cutV (g n m : Nat) : List Value := (List.range m).map fun i => .slice (some ⟨g, i * n, none⟩) n n
theorem cutV_length (g n m : Nat) : (cutV g n m).length = m := by simp [cutV]
theorem cutV_at {g n m i : Nat} (h : i < m) : (cutV g n m)[i]? = some (.slice (some ⟨g, i * n, none⟩) n n) := by simp [cutV, h]

set_option maxRecDepth 100000 in
set_option maxHeartbeats 1600000 in
theorem cut_any (g n m : Nat) (w : World) (hn1 : 0 < n) (hn2 : n ≤ 16) (hm : m ≤ 1025) :
    Calls Try.prog 64 #[.slice (some ⟨g, 0, none⟩) (m * n) (m * n), .int .i64 n] w fun r w' => r = .returned (.slice (some ⟨w.heap.size, 0, none⟩) m m) ∧ At 23 w' w.heap.size (cutV g n m) ∧ Below w.heap.size w w' := by
  obtain ⟨i0, hi, hz0, hz1, hz2⟩ := info_parts Try.info23
  obtain ⟨L, hL⟩ : ∃ L, L = m * n := ⟨_, rfl⟩
  have hLm : Hid (∀ i, i < m → i * n + n ≤ L) := fun i him => by rw [hL, ← Nat.succ_mul]; exact Nat.mul_le_mul_right n him
  have hLb : L ≤ 16400 := by rw [hL]; exact Nat.mul_le_mul hm hn2
  have hq : ((L : Int)) / (n : Int) = (m : Int) := by
    rw [hL, Int.natCast_mul]
    exact Int.mul_ediv_cancel _ (by omega)
  have hwq : wrap64 (((L : Int)) / (n : Int)) = (m : Int) := by rw [hq]; unfold wrap64; omega
  have hn0 : ((n : Int) == 0) = false := by rw [beq_eq_false_iff_ne]; omega
  rw [← hL]
  clear hL hq
  go_enter Try.func64, Try.ntmps64
  go_wp2_with (at_make; refine wpList_make_full _ rfl (.tmp 10) (.tmp 10) 32 rfl w.heap.size 23 i0 (.slice none 0 0) 1 Try.underlying32 hi hz0 hz1 .i64 .i64 _ _ m rfl rfl hwq hwq (by rw [hz2]; omega) (by unfold maxLen; omega) (Nat.le_refl _) ?_)
  intro w1 hown1 hgrow1
  have hb1 : Hid (Below w.heap.size w w1) := (Below.refl _ w).grown hgrow1 (Nat.le_refl _) (by intro k hk; cases hk)
  have hA1 : Hid (∃ cs : List Value, cs.length = m ∧ At 23 w1 w.heap.size cs) := by
    obtain ⟨_, ⟨h, _⟩ | ⟨g, cp, cur, h, hg, hh, _, _, hs, ht⟩⟩ := hown1
    · cases h
    · cases h
      exact ⟨cur.toList, by simpa using hs, by unfold At; rw [hh]⟩
  clear hown1 hgrow1 hwq hn0
  go_wp2_with fail
  go_loopw [14] (fun t wr => ∃ (k : Nat) (cs : List Value), k ≤ m ∧ t = .int .i64 k ∧ Hid (cs.length = m ∧ ∀ q, q < k → cs[q]? = some (.slice (some ⟨g, q * n, none⟩) n n)) ∧ Hid (At 23 wr w.heap.size cs) ∧ Hid (Below w.heap.size w wr)) (fun t _ => m - (intOf t).toNat)
  case atStart =>
    obtain ⟨cs, h1, h2⟩ := hA1.out
    exact ⟨0, cs, Nat.zero_le _, rfl, ⟨h1, fun q hq => by omega⟩, h2, hb1.out⟩
  case round =>
    obtain ⟨k, cs, hk, rfl, hC, hA, hB⟩ := hrel
    clear hA1 hb1
    by_cases hlt : k < m
    · obtain ⟨A, hAA⟩ : ∃ A, A = k * n := ⟨_, rfl⟩
      have hA2 : A + n ≤ L := by rw [hAA]; exact hLm.out k hlt
      have hkc : k < cs.length := by rw [hC.out.1]; exact hlt
      obtain ⟨v, hv⟩ : ∃ v, cs[k]? = some v := ⟨cs[k], List.getElem?_eq_getElem hkc⟩
      have q1 : wr.cell? ⟨w.heap.size, k, none⟩ = some v := by rw [hA.out.cell]; exact hv
      have q2 := hA.out.frozen k
      have hw1 : IntKind.i64.wrap ((k : Int) * (n : Int)) = (A : Int) := by
        rw [show ((k : Int) * (n : Int)) = (A : Int) by rw [hAA, Int.natCast_mul], IntKind.wrap_i64]
        omega
      have hw2 : IntKind.i64.wrap (((k : Int) + 1) * (n : Int)) = ((A + n : Nat) : Int) := by
        rw [show (((k : Int) + 1) * (n : Int)) = ((A + n : Nat) : Int) by rw [hAA, Int.add_mul, Int.natCast_add, Int.natCast_mul]; omega, IntKind.wrap_i64]
        omega
      have hsl := runI_slice_cut wr g L L A n (A : Int) ((A + n : Nat) : Int) rfl rfl hn1 hA2
      have hC2 : Hid ((cs.set k (.slice (some ⟨g, A, none⟩) n n)).length = m ∧ ∀ q, q < k + 1 → (cs.set k (.slice (some ⟨g, A, none⟩) n n))[q]? = some (.slice (some ⟨g, q * n, none⟩) n n)) := by
        refine ⟨by rw [List.length_set]; exact hC.out.1, fun q hq => ?_⟩
        by_cases hqk : q = k
        · subst hqk
          rw [List.getElem?_set_self hkc, hAA]
        · rw [List.getElem?_set_ne (fun e => hqk e.symm)]
          exact hC.out.2 q (by omega)
      have hA3 : Hid (At 23 (wr.setCell ⟨w.heap.size, k, none⟩ (.slice (some ⟨g, A, none⟩) n n)) w.heap.size (cs.set k (.slice (some ⟨g, A, none⟩) n n))) := hA.out.set k _
      have hB3 : Hid (Below w.heap.size w (wr.setCell ⟨w.heap.size, k, none⟩ (.slice (some ⟨g, A, none⟩) n n))) := hB.out.setCell (Nat.le_refl _) _
      clear hC hA hB hAA hv
      go_wp2_with fail
      go_roundw
      case rel => exact ⟨k + 1, _, by omega, by go_num, hC2.out, hA3.out, hB3.out⟩
      case measure => simp [intOf]; omega
    · have hcs : Hid (cs = cutV g n m) := by
        show cs = _
        apply List.ext_getElem?
        intro q
        rcases Nat.lt_or_ge q m with hq | hq
        · rw [hC.out.2 q (by omega), cutV_at hq]
        · rw [List.getElem?_eq_none (by rw [hC.out.1]; exact hq), List.getElem?_eq_none (by rw [cutV_length]; exact hq)]
      go_wp2_with fail
      go_ret
      exact ⟨rfl, by rw [← hcs.out]; exact hA.out, hB.out⟩
end Go.Proofs.Ytbamocalhojmeaa

/- What fill tells of clocks is the next clock. Mathematics alone. -/
namespace Go.Proofs.Ytbamocalhojmeaa
set_option linter.unusedVariables false

/-- A clock as numbers. -/
def clkL (ev : Nat → Ev) (n j : Nat) : List Int := (List.range n).map fun (t : Nat) => ((clk ev j (t : Int) : Nat) : Int)
theorem clkL_length (ev : Nat → Ev) (n j : Nat) : (clkL ev n j).length = n := by simp [clkL]
theorem clkL_at {ev : Nat → Ev} {n j t : Nat} (h : t < n) : (clkL ev n j)[t]? = some ((clk ev j (t : Int) : Nat) : Int) := by simp [clkL, h]
theorem flS_congr {c c' : Nat → List Int} {ev ev' : Nat → Ev} {e : Ev} {z : List Int} : ∀ K, (∀ i, i < K → c i = c' i ∧ ev i = ev' i) → flS c ev e z K = flS c' ev' e z K
  | 0, _ => rfl
  | K + 1, h => by
    rw [flS, flS, flS_congr K fun i hi => h i (by omega), (h K (by omega)).1, (h K (by omega)).2]
def maxL (ev : Nat → Ev) (n : Nat) (e : Ev) (K : Nat) : List Int := (List.range n).map fun (t : Nat) => ((maxN (fun i => clk ev i (t : Int)) (fun i => depB (ev i) e) K : Nat) : Int)
theorem maxL_at {ev : Nat → Ev} {n : Nat} {e : Ev} {K t : Nat} (h : t < n) : (maxL ev n e K)[t]? = some ((maxN (fun i => clk ev i (t : Int)) (fun i => depB (ev i) e) K : Nat) : Int) := by simp [maxL, h]
theorem gat_at {xs ys : List Int} {t : Nat} {x y : Int} (hx : xs[t]? = some x) (hy : ys[t]? = some y) : (gatL xs ys)[t]? = some (max x y) := by
  simp [gatL, List.getElem?_zipWith, hx, hy]
theorem maxN_none {f : Nat → Nat} {p : Nat → Bool} : ∀ K, (∀ i, i < K → p i = false) → maxN f p K = 0
  | 0, _ => rfl
  | K + 1, h => by
    rw [maxN, if_neg (by rw [h K (by omega)]; exact Bool.false_ne_true)]
    exact maxN_none K fun i hi => h i (by omega)
theorem flS_clk (ev : Nat → Ev) (n : Nat) (e : Ev) : ∀ K, ∃ f, flS (clkL ev n) ev e (List.replicate n 0) K = (maxL ev n e K, countN (fun i => decide ((ev i).th = e.th)) K, f) ∧ (f = true → ∀ i, i < K → depB (ev i) e = false)
  | 0 => ⟨true, by
      rw [flS, maxL]
      simp only [maxN, countN]
      refine Prod.ext ?_ rfl
      simp [List.map_const'], fun _ i hi => by omega⟩
  | K + 1 => by
    obtain ⟨f, h1, h2⟩ := flS_clk ev n e K
    by_cases hd : depB (ev K) e = true
    · refine ⟨false, ?_, fun h => by cases h⟩
      rw [flS, if_pos hd, h1]
      dsimp only
      refine Prod.ext ?_ (Prod.ext ?_ rfl)
      · dsimp only
        apply List.ext_getElem?
        intro t
        rcases Nat.lt_or_ge t n with ht | ht
        · rw [maxL_at ht, maxN, if_pos hd]
          cases f
          · rw [if_neg Bool.false_ne_true, gat_at (maxL_at ht) (clkL_at ht)]
            congr 1
            omega
          · rw [if_pos rfl, gat_at (clkL_at ht) (clkL_at ht), maxN_none K (h2 rfl)]
            congr 1
            omega
        · rw [List.getElem?_eq_none (l := maxL ev n e (K + 1)) (by simp [maxL]; exact ht), List.getElem?_eq_none]
          simp only [gatL, List.length_zipWith, clkL_length]
          omega
      · dsimp only
        rw [countN]
        simp
    · refine ⟨f, ?_, fun hf i hi => ?_⟩
      · rw [flS, if_neg hd, h1]
        have e1 : maxL ev n e (K + 1) = maxL ev n e K := by
          unfold maxL
          simp only [maxN, if_neg hd]
        have e2 : countN (fun i => decide ((ev i).th = e.th)) (K + 1) = countN (fun i => decide ((ev i).th = e.th)) K := by
          rw [countN, if_neg]
          · rfl
          · intro h
            exact hd (dep_same (of_decide_eq_true h))
        rw [e1, e2]
      · by_cases hiK : i = K
        · subst hiK; exact Bool.eq_false_iff.2 hd
        · exact h2 hf i (by omega)
/-- The clock that is told is the event's own. -/
theorem flZ_clk (ev : Nat → Ev) (n k : Nat) (xs : List (List Int)) (es : List Ev) (e : Ev) (he : e = ev k) (hes : es.length = k) (hev : ∀ i, i < k → evAt es i = ev i) (hxs : ∀ i, i < k → xs[i]? = some (clkL ev n i)) (h0 : 0 ≤ e.th) (hn : e.th < n) : flZ xs es e (List.replicate n 0) = clkL ev n k := by
  subst he
  unfold flZ
  rw [hes, flS_congr (c' := clkL ev n) (ev' := ev) k fun i hi => ⟨by simp [List.getD, hxs i hi], hev i hi⟩]
  obtain ⟨f, h1, _⟩ := flS_clk ev n (ev k) k
  rw [h1]
  dsimp only
  obtain ⟨p, hp⟩ : ∃ p : Nat, (ev k).th = (p : Int) := ⟨(ev k).th.toNat, by omega⟩
  have hpn : p < n := by omega
  rw [hp, Int.toNat_natCast]
  apply List.ext_getElem?
  intro t
  rcases Nat.lt_or_ge t n with ht | ht
  · rw [clkL_at ht]
    by_cases htp : t = p
    · subst htp
      rw [List.getElem?_set_self (by simp [maxL]; exact ht)]
      have e := clk_own ev k
      rw [hp] at e
      rw [e]
      rfl
    · rw [List.getElem?_set_ne (fun h => htp h.symm), maxL_at ht, clk_max ev k t (by rw [hp]; omega)]
  · rw [List.getElem?_eq_none (by simp [maxL]; exact ht), List.getElem?_eq_none (by rw [clkL_length]; exact ht)]
end Go.Proofs.Ytbamocalhojmeaa
