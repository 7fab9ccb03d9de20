/- clock.clocksOf: the walk. -/
import Derived.Test.YtjedkfohmedmaaaCkH
namespace Go.Proofs.Ytjedkfohmedmaaa
open Go.RowKit
set_option linter.unusedVariables false
attribute [local go_sem ↓] Go.wp_at_zero Go.wp_at_succ

set_option maxRecDepth 100000 in
set_option maxHeartbeats 6400000 in
theorem clocksOf_any (a : Option Addr) (c n : Nat) (es : List Ev) (w : World) (hE : RowEv w a es) (hok : ∀ x ∈ es, x.ok) (hth : ∀ x ∈ es, 0 ≤ x.th ∧ x.th < n) (hn1 : 0 < n) (hn2 : n ≤ 16) (hm : es.length ≤ 1024) (hc : es.length ≤ c) :
    Calls Try.prog 30 #[.slice a es.length c, .int .i64 n] w fun r w' => ∃ G M, r = .returned (.slice (some ⟨G, 0, none⟩) es.length es.length) ∧ ClkAt w.heap.size w' G M n (clksL (evAt es) n es.length) ∧ Below w.heap.size w w' := by
  obtain ⟨i0, hi, hz0, hz1, hz2⟩ := info_parts Try.info3
  obtain ⟨m, hm0⟩ : ∃ m, Hid (m = es.length) := ⟨_, (rfl : es.length = _)⟩
  rw [← hm0.out] at hm hc ⊢
  obtain ⟨ev, hev⟩ : ∃ ev, Hid (ev = evAt es) := ⟨_, (rfl : _ = evAt _)⟩
  rw [← hev.out]
  have HE : Hid (RowEv w a es ∧ (∀ x ∈ es, x.ok) ∧ ∀ x ∈ es, 0 ≤ x.th ∧ x.th < n) := ⟨hE, hok, hth⟩
  clear hE hok hth
  obtain ⟨L, hL⟩ : ∃ L, L = m * n := ⟨_, rfl⟩
  have hLb : L ≤ 16400 := by rw [hL]; exact Nat.mul_le_mul (show m ≤ 1025 by omega) hn2
  have hwL : IntKind.i64.wrap ((m : Int) * (n : Int)) = (L : Int) := by
    rw [show (m : Int) * (n : Int) = (L : Int) by rw [hL, Int.natCast_mul], IntKind.wrap_i64]
    omega
  have hLH : Hid (L = m * n) := hL
  clear hL
  go_enter Try.func30, Try.ntmps30
  go_wp2_with (at_make; refine wpList_make_full _ rfl (.tmp 11) (.tmp 11) 26 rfl w.heap.size 3 i0 (.int .i64 0) 1 Try.underlying26 hi hz0 hz1 .i64 .i64 _ _ L rfl rfl rfl rfl (by rw [hz2]; omega) (by unfold maxLen; omega) (Nat.le_refl _) ?_)
  intro w1 hown1 hgrow1
  have hb1 : Below w.heap.size w w1 := (Below.refl _ w).grown hgrow1 (Nat.le_refl _) (by intro k hk; cases hk)
  have hA1 : Hid (Mem w1 w.heap.size n (zsK ev n m 0)) := by
    obtain ⟨_, ⟨h, _⟩ | ⟨g, cp, cur, h, hg, hh, _, _, hs, ht⟩⟩ := hown1
    · cases h
    · cases h
      have hcur : cur.toList = (madeCells #[Value.int .i64 0] L).toList := by rw [← ht, List.take_of_length_le (by simp [hs])]
      refine ⟨cur.toList, by unfold BlkI; rw [hh], fun i zs hz t z htz => ?_⟩
      have him : i < m := by have := (List.getElem?_eq_some_iff.1 hz).1; rwa [zsK_length] at this
      rw [zsK_at him, if_neg (by omega)] at hz
      cases hz
      have htn : t < n := by have := (List.getElem?_eq_some_iff.1 htz).1; simpa using this
      rw [List.getElem?_replicate, if_pos htn] at htz
      cases htz
      rw [hcur, toList_madeCells_one, List.getElem?_replicate, if_pos]
      have := Nat.mul_le_mul_right n (show i + 1 ≤ m from him)
      rw [Nat.succ_mul] at this
      have := hLH.out
      omega
  clear hown1 hgrow1 hwL
  have HB1 : Hid (Below w.heap.size w w1) := hb1
  clear hb1
  have HC1 : Hid (∀ u, Calls Try.prog 45 #[.slice (some ⟨w.heap.size, 0, none⟩) L L, .int .i64 n] u fun r w' => r = .returned (.slice (some ⟨u.heap.size, 0, none⟩) m m) ∧ At 26 w' u.heap.size (cutV w.heap.size n m) ∧ Below u.heap.size u w') := fun u => by
    rw [hLH.out]
    exact cut_any w.heap.size n m u hn1 hn2 (by omega)
  go_wp2_with (go_at_call 45; refine (HC1.out _).mono ?_; rintro _ w2 ⟨rfl, hA2, hb2⟩; refine Hid.out ?_)
  refine hidU ?_
  obtain ⟨M, hM⟩ : ∃ M, Hid (M = w.heap.size) := ⟨_, (rfl : _ = w.heap.size)⟩
  obtain ⟨G, hG⟩ : ∃ G, Hid (G = w1.heap.size) := ⟨_, (rfl : _ = w1.heap.size)⟩
  rw [← hG.out, ← hM.out] at hA2
  rw [← hM.out] at hA1
  rw [← hG.out]
  have hMl : M < w1.heap.size := hA1.out.lt
  have hGM : G ≠ M := by rw [hG.out]; omega
  have HA2 : Hid (At 26 w2 G (cutV M n m)) := hA2
  have HM2 : Hid (Mem w2 M n (zsK ev n m 0)) := hA1.out.below hb2
  have HB2 : Hid (Below w.heap.size w w2) := HB1.out.trans (hb2.mono HB1.out.size)
  clear hA2 hb2 hA1 HB1 HC1
  go_wp2_with fail
  go_loopw [17] (fun t wr => ∃ (k : Nat), k ≤ m ∧ t = .int .i64 k ∧ Hid (At 26 wr G (cutV M n m)) ∧ Hid (Mem wr M n (zsK ev n m k)) ∧ Hid (Below w.heap.size w wr)) (fun t _ => m - (intOf t).toNat)
  case atStart => exact ⟨0, Nat.zero_le _, rfl, HA2.out, HM2.out, HB2.out⟩
  case round =>
    obtain ⟨k, hk, rfl, hA, hMm, hB⟩ := hrel
    clear HA2 HM2 HB2
    by_cases hlt : k < m
    · obtain ⟨x, hx⟩ : ∃ x, es[k]? = some x := ⟨es[k]'(by rw [← hm0.out]; exact hlt), by rw [List.getElem?_eq_getElem]⟩
      obtain ⟨g2, o2, rfl, hr2⟩ := (HE.out.1.below hB.out).at k x hx
      obtain ⟨q1, q2, q3⟩ := range_cells hr2
      have hxm := List.mem_of_getElem? hx
      have hxok := HE.out.2.1 x hxm
      have hxth := HE.out.2.2 x hxm
      have hg2M : g2 ≠ M := by
        have := HE.out.1.lt (by rw [← hm0.out]; omega) g2 o2 rfl
        rw [hM.out]
        omega
      have hgk : cutV M n m = cutV M n m := rfl
      have hcell : wr.cell? ⟨G, k, none⟩ = some (.slice (some ⟨M, k * n, none⟩) n n) := by rw [hA.out.cell]; exact cutV_at hlt
      have hzk : (zsK ev n m k)[k]? = some (List.replicate n 0) := by rw [zsK_at hlt, if_neg (by omega)]
      have hxev : x = ev k := by rw [hev.out]; exact (evAt_eq hx).symm
      have hflz : flZ (clksL ev n k) (es.take k) x (List.replicate n 0) = clkL ev n k :=
        flZ_clk ev n k (clksL ev n k) (es.take k) x hxev (by rw [List.length_take]; have := hm0.out; omega) (fun i hi => by rw [hev.out]; unfold evAt; simp [List.getD, hi]) (fun i hi => clksL_at hi) hxth.1 hxth.2
      have HF : Hid (∀ u, Below wr.heap.size wr u → Calls Try.prog 37 #[.slice (some ⟨M, k * n, none⟩) n n, .slice (some ⟨G, 0, none⟩) k m, .slice (some ⟨g2, o2, none⟩) k c, .agg x.cells.toArray] u fun r w' => r = .returned (.tuple #[]) ∧ WrI w' M (k * n) (clkL ev n k) ∧ Ovr M (k * n) (k * n + n) u w') := fun u hu => by
        have hlk : (es.take k).length = k := by rw [List.length_take]; have := hm0.out; omega
        have := fill_any M (k * n) n n (List.replicate n 0) (some ⟨G, 0, none⟩) m (clksL ev n k) (some ⟨g2, o2, none⟩) c (es.take k) x u ((hMm.out.below hu).wr hzk) (by simp) hn1 hn2
          (.inr ⟨G, 0, rfl, hGM, fun i zs hz => by
            have hi : i < k := by have := (List.getElem?_eq_some_iff.1 hz).1; rwa [clksL_length] at this
            rw [clksL_at hi] at hz
            cases hz
            refine ⟨some ⟨M, i * n, none⟩, n, ?_, ((hMm.out.below hu).wr (i := i) (zs := clkL ev n i) (by rw [zsK_at (by omega), if_pos hi])).row, Nat.le_refl _, clkL_length .., ?_⟩
            · rw [Nat.zero_add, (hA.out.below hu).cell]
              exact cutV_at (by omega)
            · intro g' o' h
              cases h
              right; left
              have := Nat.mul_le_mul_right n (show i + 1 ≤ k from hi)
              rwa [Nat.succ_mul] at this⟩)
          (by rw [clksL_length, hlk]) (((HE.out.1.below hB.out).below hu).take k) (fun g o h => by cases h; exact hg2M) (fun y hy => HE.out.2.1 y (List.mem_of_mem_take hy)) hxok hxth.1 hxth.2 (by rw [hlk]; omega) (Nat.le_refl _) (by rw [hlk]; omega) (by rw [hlk]; omega)
        rw [hlk, hflz] at this
        exact this
      clear hr2 hx hxm hxok hxth hg2M hgk hzk hxev hflz
      obtain ⟨xt, xk, xo⟩ := x
      dsimp only at q1 q2 q3
      simp only [Ev.cells] at HF
      have hs1 := fun u => runE_slice_to u (some ⟨g2, o2, none⟩) m c k (k : Int) rfl (by omega)
      have hs2 := fun u => runII_slice_to u (some ⟨G, 0, none⟩) m m k (k : Int) rfl (by omega)
      go_wp2_with (first | (refine wpList_alloc_at rfl 25 rfl _ 3 z25 ?_; intro w4 hA4 hb4 hs4) | (refine wpList_store_at (P := Try.prog) rfl 25 (.tmp 7) (.tmp 21) rfl wr.heap.size [.int .i64 xt, .int .i64 xk, .int .i64 xo] rfl rfl 25 _ hA4 i25 rfl (Ev.one ⟨xt, xk, xo⟩) ?_; intro w3 hA3 hb3 hs3; refine Hid.out ?_))
      refine hidU ?_
      have hB3 : Below wr.heap.size wr w3 := hb3.below hb4 (Nat.le_refl _) (by omega)
      have x0 : w3.cell? ⟨wr.heap.size, 0, none⟩ = some (.int .i64 xt) := hA3.cell 0
      have x1 : w3.cell? ⟨wr.heap.size, 1, none⟩ = some (.int .i64 xk) := hA3.cell 1
      have x2 : w3.cell? ⟨wr.heap.size, 2, none⟩ = some (.int .i64 xo) := hA3.cell 2
      have h3 : w3.cell? ⟨G, k, none⟩ = some (.slice (some ⟨M, k * n, none⟩) n n) := (hB3.cell (lt_of_cell hcell)).trans hcell
      have HB3 : Hid (Below wr.heap.size wr w3) := hB3
      have hrM : wr.heap.size ≠ M := by have := hMm.out.lt; omega
      clear hA4 hb4 hs4 hA3 hb3 hs3 hB3 q1 q2 q3 hcell
      obtain ⟨A, hAA⟩ : ∃ A, Hid (A = k * n) := ⟨_, (rfl : _ = k * n)⟩
      rw [← hAA.out] at h3 HF
      go_wp2_with fail
      go_region_held3 (fun w' => w'.cell? ⟨G, k, none⟩ = some (.slice (some ⟨M, A, none⟩) n n) ∧ w'.cell? ⟨wr.heap.size, 0, none⟩ = some (.int .i64 xt) ∧ w'.cell? ⟨wr.heap.size, 1, none⟩ = some (.int .i64 xk) ∧ w'.cell? ⟨wr.heap.size, 2, none⟩ = some (.int .i64 xo)) (first | exact ⟨h3, x0, x1, x2⟩ | exact ⟨cell_ovr hO5 hGM h3, cell_ovr hO5 hrM x0, cell_ovr hO5 hrM x1, cell_ovr hO5 hrM x2⟩) (first | (go_at_call 37; refine (HF.out _ (HB3.out.trans ((Below.refl _ w3).drew.mono HB3.out.size))).mono ?_; rintro e w5 ⟨rfl, hW5, hO5⟩))
      have hB5 : Hid (Below w.heap.size w w5) := by
        have h1 : Below w.heap.size w w3.drew := (hB.out.trans (HB3.out.mono hB.out.size)).trans ((Below.refl _ w3).drew.mono (Nat.le_trans hB.out.size HB3.out.size))
        exact hO5.below h1 (by rw [hM.out]; exact Nat.le_refl _) h1.size
      have hA5 : Hid (At 26 w5 G (cutV M n m)) := At.ovr ((hA.out.below HB3.out).drew) hO5 hGM
      have hM5 : Hid (Mem w5 M n (zsK ev n m (k + 1))) := by
        have h1 : Mem w3.drew M n (zsK ev n m k) := (hMm.out.below HB3.out).below ((Below.refl _ w3).drew)
        rw [hAA.out] at hW5 hO5
        have h2 := h1.fill (zsK_lens ev n m k) hW5 hO5 (by rw [zsK_length]; exact hlt)
        rwa [zsK_set ev n m k hlt] at h2
      clear hW5 hO5 h3 x0 x1 x2 HF
      go_wp2_with fail
      go_roundw
      case rel => exact ⟨k + 1, by omega, by go_num, hA5.out, hM5.out, hB5.out⟩
      case measure => simp [intOf]; omega
    · have hkm : Hid (k = m) := show k = m by omega
      have hfin : Hid (ClkAt w.heap.size wr G M n (clksL ev n m)) := by
        refine ⟨by rw [clksL_length]; exact hA.out, ?_, ?_, by rw [hM.out]; exact Nat.le_refl _, ?_, hGM⟩
        · have := hMm.out
          rwa [hkm.out, zsK_done] at this
        · intro zs hz
          obtain ⟨i, _, rfl⟩ := List.mem_map.1 hz
          exact clkL_length ..
        · rw [hG.out]
          have := hM.out
          omega
      go_wp2_with fail
      go_ret
      exact ⟨G, M, rfl, hfin.out, hB.out⟩
end Go.Proofs.Ytjedkfohmedmaaa
