/- clock.fill: the walk. -/
import Derived.Test.YtjedkfohmedmaaaCkE
namespace Go.Proofs.Ytjedkfohmedmaaa
open Go.RowKit
set_option linter.unusedVariables false
attribute [local go_sem ↓] Go.wp_at_zero Go.wp_at_succ

theorem flS_skip {c : Nat → List Int} {ev : Nat → Ev} {e : Ev} {z : List Int} {k : Nat} (h : depB (ev k) e = false) : flS c ev e z (k + 1) = flS c ev e z k := by
  rw [flS, if_neg (by rw [h]; exact Bool.false_ne_true)]
theorem flS_first {c : Nat → List Int} {ev : Nat → Ev} {e : Ev} {z us : List Int} {k own : Nat} (h : depB (ev k) e = true) (hs : (us, own, true) = flS c ev e z k) : flS c ev e z (k + 1) = (gatL (c k) (c k), own + (if (ev k).th = e.th then 1 else 0), false) := by
  rw [flS, if_pos h, ← hs]
  simp
theorem flS_more {c : Nat → List Int} {ev : Nat → Ev} {e : Ev} {z us : List Int} {k own : Nat} (h : depB (ev k) e = true) (hs : (us, own, false) = flS c ev e z k) : flS c ev e z (k + 1) = (gatL us (c k), own + (if (ev k).th = e.th then 1 else 0), false) := by
  rw [flS, if_pos h, ← hs]
  simp

set_option maxRecDepth 100000 in
set_option maxHeartbeats 6400000 in
theorem fill_any (g o c n : Nat) (zs : List Int) (a1 : Option Addr) (c1 : Nat) (xs : List (List Int)) (a2 : Option Addr) (c2 : Nat) (es : List Ev) (e : Ev) (w : World)
    (hz : WrI w g o zs) (hzl : zs.length = n) (hn1 : 0 < n) (hn2 : n ≤ 16) (hX : RowF w a1 xs n g o (o + n)) (hxl : xs.length = es.length) (hE : RowEv w a2 es) (hEg : ∀ G O, a2 = some ⟨G, O, none⟩ → G ≠ g)
    (hok : ∀ x ∈ es, x.ok) (he : e.ok) (ht1 : 0 ≤ e.th) (ht2 : e.th < n) (hm : es.length ≤ 1024) (hc : n ≤ c) (hk1 : es.length ≤ c1) (hk2 : es.length ≤ c2) :
    Calls Try.prog 37 #[.slice (some ⟨g, o, none⟩) n c, .slice a1 es.length c1, .slice a2 es.length c2, .agg e.cells.toArray] w fun r w' => r = .returned (.tuple #[]) ∧ WrI w' g o (flZ xs es e zs) ∧ Ovr g o (o + n) w w' := by
  obtain ⟨Z, hZ⟩ : ∃ Z, Hid (Z = flZ xs es e zs) := ⟨_, (rfl : _ = flZ _ _ _ _)⟩
  rw [← hZ.out]
  obtain ⟨m, hm0⟩ : ∃ m, Hid (m = es.length) := ⟨_, (rfl : es.length = _)⟩
  rw [← hm0.out] at hm hk1 hk2 ⊢
  obtain ⟨cl, hcl⟩ : ∃ cl : Nat → List Int, Hid (cl = fun i => xs.getD i []) := ⟨_, (rfl : _ = fun i => _)⟩
  obtain ⟨ev, hev⟩ : ∃ ev, Hid (ev = evAt es) := ⟨_, (rfl : _ = evAt _)⟩
  have hg0 := hz.lt
  have HZ : Hid (WrI w g o zs ∧ RowF w a1 xs n g o (o + n) ∧ RowEv w a2 es ∧ ∀ G O, a2 = some ⟨G, O, none⟩ → G ≠ g) := ⟨hz, hX, hE, hEg⟩
  have HQ : Hid (e.ok ∧ (∀ x ∈ es, x.ok) ∧ xs.length = m ∧ zs.length = n) := ⟨he, hok, hxl.trans hm0.out.symm, hzl⟩
  clear hz hX hE hEg he hok hxl hzl
  have HEe : Hid (∀ (x : Ev), x.ok → ∀ u, Calls Try.prog 26 #[.agg x.cells.toArray, .agg e.cells.toArray] u fun r w' => r = .returned (.bool (depB x e)) ∧ Below u.heap.size u w') := fun x hx u => depends_any x e hx HQ.out.1 u
  obtain ⟨et, ek, eo⟩ := e
  obtain ⟨p, rfl⟩ : ∃ p : Nat, et = (p : Int) := ⟨et.toNat, by simp at ht1; omega⟩
  have hp : p < n := by simp at ht2; exact ht2
  clear ht1 ht2
  obtain ⟨e0, he0⟩ : ∃ e0 : Ev, Hid (e0 = ⟨p, ek, eo⟩) := ⟨_, (rfl : _ = Ev.mk _ _ _)⟩
  rw [← he0.out] at hZ
  have HEd : Hid (∀ (x : Ev), x.ok → ∀ u, Calls Try.prog 26 #[.agg x.cells.toArray, .agg #[.int .i64 p, .int .i64 ek, .int .i64 eo]] u fun r w' => r = .returned (.bool (depB x e0)) ∧ Below u.heap.size u w') := fun x hx u => by rw [he0.out]; exact HEe.out x hx u
  clear HEe
  simp only [Ev.cells]
  go_enter Try.func37, Try.ntmps37
  go_wp2_with (first | (refine wpList_box_at rfl 25 (.tmp 3) rfl [.int .i64 p, .int .i64 ek, .int .i64 eo] rfl ?_; intro w1 hA1 hb1 hs1))
  have hg1 : g < w1.heap.size := Nat.lt_of_lt_of_le hg0 hb1.size
  have hEg : w.heap.size ≠ g := by omega
  have HZ1 : Hid (WrI w1 g o zs ∧ RowF w1 a1 xs n g o (o + n) ∧ RowEv w1 a2 es ∧ At 25 w1 w.heap.size [.int .i64 p, .int .i64 ek, .int .i64 eo]) := ⟨HZ.out.1.below hb1, HZ.out.2.1.ovr (.of_below hg0 hb1), HZ.out.2.2.1.below hb1, hA1⟩
  have HO1 : Hid (Ovr g o (o + n) w w1) := .of_below hg0 hb1
  have HG : Hid (∀ G O, a2 = some ⟨G, O, none⟩ → G ≠ g) := HZ.out.2.2.2
  clear HZ hA1 hb1 hs1
  go_loopw [8, 9, 14] (fun a b t wr => ∃ (k : Nat) (us : List Int) (own : Nat) (fst : Bool), k ≤ m ∧ t = .int .i64 k ∧ a = .int .i64 own ∧ b = .bool fst ∧ own ≤ k ∧ Hid ((us, own, fst) = flS cl ev e0 zs k) ∧ Hid (us.length = n) ∧ Hid (WrI wr g o us) ∧ Hid (Ovr g o (o + n) w1 wr)) (fun _ _ t _ => m - (intOf t).toNat)
  case atStart => exact ⟨0, zs, 0, true, Nat.zero_le _, rfl, rfl, rfl, Nat.le_refl _, rfl, HQ.out.2.2.2, HZ1.out.1, Ovr.refl ..⟩
  case round =>
    obtain ⟨k, us, own, fst, hk, rfl, rfl, rfl, hown, hS, hul, hW, hO⟩ := hrel
    by_cases hlt : k < m
    · obtain ⟨x, hx⟩ : ∃ x, es[k]? = some x := ⟨es[k]'(by rw [← hm0.out]; exact hlt), by rw [List.getElem?_eq_getElem]⟩
      obtain ⟨y, hy⟩ : ∃ x, xs[k]? = some x := ⟨xs[k]'(by rw [HQ.out.2.2.1]; exact hlt), by rw [List.getElem?_eq_getElem]⟩
      obtain ⟨g2, o2, rfl, hr2⟩ := (HZ1.out.2.2.1.ovr HG.out hO.out).at k x hx
      obtain ⟨g3, o3, b3, c3, rfl, hg3, hr3, hY3, hc3, hyl, hfar⟩ := (HZ1.out.2.1.ovr hO.out).at k y hy
      have hA := HZ1.out.2.2.2.ovr hO.out hEg
      obtain ⟨q1, q2, q3⟩ := range_cells hr2
      have hxok := HQ.out.2.1 x (List.mem_of_getElem? hx)
      have hHD := HEd.out x hxok
      have hevk : Hid (ev k = x ∧ cl k = y) := by
        refine ⟨?_, ?_⟩
        · rw [hev.out]; exact evAt_eq hx
        · rw [hcl.out]; simp [List.getD, hy]
      obtain ⟨D, hD⟩ : ∃ D, Hid (D = depB x e0) := ⟨_, (rfl : _ = depB _ _)⟩
      rw [← hD.out] at hHD
      have HY : Hid (RowI wr b3 y ∧ Far b3 n g o (o + n) ∧ y.length = n) := ⟨hY3, hfar, hyl⟩
      have HC : Hid (∀ u, Calls Try.prog 26 #[.agg x.cells.toArray, .agg #[.int .i64 p, .int .i64 ek, .int .i64 eo]] u fun r w' => r = .returned (.bool D) ∧ Below u.heap.size u w') := hHD
      have HAE : Hid (At 25 wr w.heap.size [.int .i64 p, .int .i64 ek, .int .i64 eo]) := hA
      have HH : Hid (wr.cell? ⟨g3, o3 + k, none⟩ = some (.slice b3 n c3)) := hr3
      clear hx hy hr2 hY3 hfar hyl hA hHD hr3 hxok
      obtain ⟨xt, xk, xo⟩ := x
      dsimp only at q1 q2 q3
      simp only [Ev.cells] at HC
      have hgr : g < wr.heap.size := Nat.lt_of_lt_of_le hg1 hO.out.size
      go_wp2_with (first | (refine wpList_alloc_at rfl 25 rfl _ 3 z25 ?_; intro w2 hA2 hb2 hs2) | (refine wpList_store_at (P := Try.prog) rfl 25 (.tmp 11) (.tmp 18) rfl wr.heap.size [.int .i64 xt, .int .i64 xk, .int .i64 xo] rfl rfl 25 _ hA2 i25 rfl (Ev.one ⟨xt, xk, xo⟩) ?_; intro w3 hA3 hb3 hs3; refine Hid.out ?_))
      refine hidU ?_
      have hB3 : Below wr.heap.size wr w3 := hb3.below hb2 (Nat.le_refl _) (by omega)
      have hAE := HAE.out.below hB3
      have x0 : w3.cell? ⟨wr.heap.size, 0, none⟩ = some (.int .i64 xt) := hA3.cell 0
      have x1 : w3.cell? ⟨wr.heap.size, 1, none⟩ = some (.int .i64 xk) := hA3.cell 1
      have x2 : w3.cell? ⟨wr.heap.size, 2, none⟩ = some (.int .i64 xo) := hA3.cell 2
      have y0 : w3.cell? ⟨w.heap.size, 0, none⟩ = some (.int .i64 p) := hAE.cell 0
      have y1 : w3.cell? ⟨w.heap.size, 1, none⟩ = some (.int .i64 ek) := hAE.cell 1
      have y2 : w3.cell? ⟨w.heap.size, 2, none⟩ = some (.int .i64 eo) := hAE.cell 2
      have HL : Hid (Below wr.heap.size wr w3 ∧ At 25 w3 wr.heap.size [.int .i64 xt, .int .i64 xk, .int .i64 xo] ∧ At 25 w3 w.heap.size [.int .i64 p, .int .i64 ek, .int .i64 eo]) := ⟨hB3, hA3, hAE⟩
      clear hA2 hb2 hs2 hA3 hb3 hs3 hB3 hAE q1 q2 q3 HAE
      go_wp2_with (go_at_call 26; refine (HC.out _).mono ?_; rintro _ w4 ⟨rfl, hb4⟩; refine Hid.out ?_)
      refine hidU ?_
      clear x0 x1 x2 y0 y1 y2 HC
      have hB4 : Below wr.heap.size wr w4 := HL.out.1.trans (hb4.mono HL.out.1.size)
      have hO4 : Hid (Ovr g o (o + n) w1 w4) := hO.out.more hg1 hB4
      have hA4 := HL.out.2.1.below hb4
      have hE4 := HL.out.2.2.below hb4
      have hW4 : Hid (WrI w4 g o us) := hW.out.below hB4
      have hY4 : Hid (RowI w4 b3 y ∧ Far b3 n g o (o + n) ∧ y.length = n) := ⟨HY.out.1.below hB4, HY.out.2⟩
      have hh4 : w4.cell? ⟨g3, o3 + k, none⟩ = some (.slice b3 n c3) := (hB4.cell (lt_of_cell HH.out)).trans HH.out
      have HA4 : Hid (At 25 w4 wr.heap.size [.int .i64 xt, .int .i64 xk, .int .i64 xo] ∧ At 25 w4 w.heap.size [.int .i64 p, .int .i64 ek, .int .i64 eo] ∧ wr.heap.size ≠ g) := ⟨hA4, hE4, by omega⟩
      clear hB4 hb4 HL hW HY HH hA4 hE4 hgr hO
      cases D
      · have hS2 : Hid ((us, own, fst) = flS cl ev e0 zs (k + 1)) := by
          show _ = _
          rw [hS.out, flS_skip (by rw [hevk.out.1]; exact hD.out.symm)]
        clear hS hh4
        go_wp2_with fail
        go_roundw
        case rel => exact ⟨k + 1, us, own, fst, by omega, by go_num, rfl, rfl, by omega, hS2.out, hul.out, hW4.out, hO4.out⟩
        case measure => simp [intOf]; omega
      · have hdt : depB (ev k) e0 = true := by rw [hevk.out.1]; exact hD.out.symm
        obtain ⟨X, hX⟩ : ∃ X : Nat, Hid (X = if xt = p then 1 else 0) := ⟨if xt = p then 1 else 0, hidU rfl⟩
        have hX2 : Hid ((if (ev k).th = e0.th then 1 else 0) = X) := by show _ = _; rw [hevk.out.1, he0.out, hX.out]
        obtain ⟨vs, hvs⟩ : ∃ vs, vs = if fst then y else us := ⟨_, rfl⟩
        have hS2 : Hid ((gatL vs y, own + X, false) = flS cl ev e0 zs (k + 1)) := by
          show _ = _
          cases fst
          · rw [flS_more hdt hS.out, hX2.out, hevk.out.2, hvs]; rfl
          · rw [flS_first hdt hS.out, hX2.out, hevk.out.2, hvs]; rfl
        have hvl : vs.length = n := by rw [hvs]; split; exact hY4.out.2.2; exact hul.out
        have hgl : Hid ((gatL vs y).length = n) := by show _ = _; rw [gatL_length vs y (by rw [hvl]; exact hY4.out.2.2)]; exact hvl
        have HGA : Hid (∀ u, WrI u g o vs → RowI u b3 y → Calls Try.prog 47 #[.slice (some ⟨g, o, none⟩) n c, .slice b3 n c3] u fun r w' => r = .returned (.tuple #[]) ∧ WrI w' g o (gatL vs y) ∧ Ovr g o (o + n) u w') := fun u h1 h2 => by
          have := gather_any g o c vs b3 c3 y u h1 h2 (by rw [hvl, hY4.out.2.2]; exact hY4.out.2.1) (by rw [hvl]; exact hY4.out.2.2) (by rw [hvl]; omega) (by rw [hvl]; exact hc) (by rw [hY4.out.2.2]; exact hc3)
          rwa [hvl, hY4.out.2.2] at this
        clear hdt hX2 hS hD hevk
        have hXx : X = 0 ∧ ((xt == (p : Int)) = false) ∨ X = 1 ∧ ((xt == (p : Int)) = true) := by
          rw [hX.out]
          by_cases h : xt = p
          · right; simp [h]
          · left; simp [h]
        clear hX
        have hown2 : own + X ≤ k + 1 := by rcases hXx with ⟨h, _⟩ | ⟨h, _⟩ <;> omega
        have fin : ∀ w6, WrI w6 g o (gatL vs y) → Ovr g o (o + n) w4 w6 → (w6.cell? ⟨wr.heap.size, 0, none⟩ = some (.int .i64 xt) ∧ w6.cell? ⟨w.heap.size, 0, none⟩ = some (.int .i64 p)) ∧ Ovr g o (o + n) w1 w6 := fun w6 h1 h2 => ⟨⟨(HA4.out.1.ovr h2 HA4.out.2.2).cell 0, (HA4.out.2.1.ovr h2 hEg).cell 0⟩, hO4.out.trans h2⟩
        have HF : Hid (∀ w6, WrI w6 g o (gatL vs y) → Ovr g o (o + n) w4 w6 → (w6.cell? ⟨wr.heap.size, 0, none⟩ = some (.int .i64 xt) ∧ w6.cell? ⟨w.heap.size, 0, none⟩ = some (.int .i64 p)) ∧ Ovr g o (o + n) w1 w6) := fin
        clear fin HA4 hO4
        cases fst
        · obtain rfl : vs = us := by simpa using hvs
          go_wp2_with (go_at_call 47; refine (HGA.out _ hW4.out hY4.out.1).mono ?_; rintro _ w6 ⟨rfl, hW6, hO6⟩; refine Hid.out ?_)
          refine hidU ?_
          obtain ⟨⟨x0, y0⟩, hO7⟩ := HF.out w6 hW6 hO6
          have hW7 : Hid (WrI w6 g o (gatL vs y)) := hW6
          have hO8 : Hid (Ovr g o (o + n) w1 w6) := hO7
          clear hW6 hO6 hO7 hh4 HF HGA hvs
          rcases hXx with ⟨rfl, hxp⟩ | ⟨rfl, hxp⟩
          · go_wp2_with fail
            go_roundw
            case rel => exact ⟨k + 1, gatL vs y, own + 0, false, by omega, by go_num, rfl, rfl, by omega, hS2.out, hgl.out, hW7.out, hO8.out⟩
            case measure => simp [intOf]; omega
          · go_wp2_with fail
            go_roundw
            case rel => exact ⟨k + 1, gatL vs y, own + 1, false, by omega, by go_num, by go_num, rfl, by omega, hS2.out, hgl.out, hW7.out, hO8.out⟩
            case measure => simp [intOf]; omega
        · obtain rfl : vs = y := by simpa using hvs
          go_wp2_with (refine wpList_copy_ovr rfl (.tmp 24) (.tmp 28) rfl g o n c c3 b3 rfl rfl us vs hul.out hvl hn1 hW4.out hY4.out.1 ?_; intro w5 hW5 hO5; refine Hid.out ?_)
          refine hidU ?_
          have hh5 := cell_ovr hO5 hg3 hh4
          have hY5 : Hid (RowI w5 b3 vs) := hY4.out.1.ovr (by rw [hvl]; exact hY4.out.2.1) hO5
          have hW5' : Hid (WrI w5 g o vs) := hW5
          have hO5' : Hid (Ovr g o (o + n) w4 w5) := hO5
          clear hh4 hW5 hO5 hvs
          go_wp2_with (go_at_call 47; refine (HGA.out _ hW5'.out hY5.out).mono ?_; rintro _ w6 ⟨rfl, hW6, hO6⟩; refine Hid.out ?_)
          refine hidU ?_
          obtain ⟨⟨x0, y0⟩, hO7⟩ := HF.out w6 hW6 (hO5'.out.trans hO6)
          have hW7 : Hid (WrI w6 g o (gatL vs vs)) := hW6
          have hO8 : Hid (Ovr g o (o + n) w1 w6) := hO7
          clear hW6 hO6 hO7 hh5 HF HGA
          rcases hXx with ⟨rfl, hxp⟩ | ⟨rfl, hxp⟩
          · go_wp2_with fail
            go_roundw
            case rel => exact ⟨k + 1, gatL vs vs, own + 0, false, by omega, by go_num, rfl, rfl, by omega, hS2.out, hgl.out, hW7.out, hO8.out⟩
            case measure => simp [intOf]; omega
          · go_wp2_with fail
            go_roundw
            case rel => exact ⟨k + 1, gatL vs vs, own + 1, false, by omega, by go_num, by go_num, rfl, by omega, hS2.out, hgl.out, hW7.out, hO8.out⟩
            case measure => simp [intOf]; omega
    · have hkm : Hid (k = m) := show k = m by omega
      have hpu : p < us.length := by rw [hul.out]; exact hp
      obtain ⟨z, hz⟩ : ∃ z, us[p]? = some z := ⟨us[p], List.getElem?_eq_getElem hpu⟩
      have q1 := hW.out.cell hz
      have q2 := hW.out.frozen (o + p)
      have y0 := (HZ1.out.2.2.2.ovr hO.out hEg).cell 0
      have y0' : wr.cell? ⟨w.heap.size, 0, none⟩ = some (.int .i64 p) := y0
      have hZ2 : Hid (Z = us.set p ((own : Int) + 1)) := by
        show Z = _
        have e1 := hS.out
        rw [hkm.out, hm0.out] at e1
        rw [hZ.out, flZ, ← hcl.out, ← hev.out, ← e1, he0.out]
        simp
      have hW7 : Hid (WrI (wr.setCell ⟨g, o + p, none⟩ (.int .i64 ((own : Int) + 1))) g o (us.set p ((own : Int) + 1))) := hW.out.set hpu _
      have hO7 : Hid (Ovr g o (o + n) w (wr.setCell ⟨g, o + p, none⟩ (.int .i64 ((own : Int) + 1)))) := HO1.out.trans (hW.out.ovr hpu hO.out (Nat.le_refl _) (by rw [hul.out]; exact Nat.le_refl _) _)
      clear y0 hz hpu hkm
      go_wp2_with fail
      go_end0
      exact ⟨rfl, by rw [hZ2.out]; exact hW7.out, hO7.out⟩
end Go.Proofs.Ytjedkfohmedmaaa
