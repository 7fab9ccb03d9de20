/- ClockOrders: the walk. -/
import Derived.Test.YtjedkfohmedmaaaCkQ
namespace Go.Proofs.Ytjedkfohmedmaaa
open Go.RowKit
set_option linter.unusedVariables false
attribute [local go_sem ↓] Go.wp_at_zero Go.wp_at_succ

theorem clksL_succ (ev : Nat → Ev) (n k : Nat) : clksL ev n (k + 1) = clksL ev n k ++ [clkL ev n k] := by simp [clksL, List.range_succ]
theorem clksL_lens {ev : Nat → Ev} {n m : Nat} : ∀ zs ∈ clksL ev n m, zs.length = n := fun zs hz => by
  obtain ⟨i, _, rfl⟩ := List.mem_map.1 hz
  exact clkL_length ..
theorem own_events {base : Nat} {w : World} {v : Value} {es : List Ev} (h : w.ownsRow base 25 3 v es.length (flatE es)) (h0 : 0 < es.length) :
    ∃ g cap cs, v = .slice (some ⟨g, 0, none⟩) es.length cap ∧ base ≤ g ∧ At 25 w g cs ∧ OnE cs es ∧ es.length ≤ cap ∧ es.length * 3 ≤ cs.length := by
  obtain ⟨_, ⟨rfl, h2⟩ | ⟨g, cap, cur, rfl, hg, hh, hl, hm, hs, ht⟩⟩ := h
  · omega
  · have ht2 : cur.toList.take (es.length * 3) = flatE es := ht
    refine ⟨g, cap, cur.toList, rfl, hg, by unfold At; rw [hh], fun i e he j v hj => ?_, hl, ?_⟩
    · have h1 := flatE_at es i e he j v hj
      rw [← ht2] at h1
      have hlt := (List.getElem?_eq_some_iff.1 h1).1
      rw [List.length_take] at hlt
      rwa [List.getElem?_take_of_lt (by omega)] at h1
    · have := Nat.mul_le_mul_right 3 hl
      simp
      omega

set_option maxRecDepth 100000 in
set_option maxHeartbeats 12800000 in
theorem clockOrders_ok (es : List Ev) (z at_ : Int) (a : Option Addr) (c : Nat) (w : World) (hE : RowEv w a es) (hok : ∀ x ∈ es, x.ok) (hl : es.length ≤ 9223372036854775807) (hc : es.length ≤ c) (ha1 : -9223372036854775808 ≤ at_) (ha2 : at_ < 9223372036854775808) :
    Calls Try.prog 5 #[.slice a es.length c, .int .i64 z, .int .i64 at_] w fun r w' => r = .returned (.bool true) ∧ Below w.heap.size w w' := by
  have HB : Hid (∀ u v, Below w.heap.size w u → Below u.heap.size u v → Below w.heap.size w v) := fun u v h1 h2 => h1.trans (h2.mono h1.size)
  have HK := known_ok w
  by_cases h50 : 50 < es.length
  · obtain ⟨m, hm⟩ : ∃ m, Hid (m = es.length) := ⟨_, (rfl : _ = es.length)⟩
    rw [← hm.out] at h50 hl hc ⊢
    clear hE hok
    go_enter Try.func5, Try.ntmps5
    go_wp2_with (first | (go_at_call 4; refine HK.mono ?_; rintro _ w1 ⟨rfl, hb1⟩))
    go_ret
    exact ⟨rfl, hb1⟩
  by_cases hw : ¬ wrongZ es z = 0
  · obtain ⟨R, hR⟩ : ∃ R, Hid (R = wrongZ es z) := ⟨_, (rfl : _ = wrongZ _ _)⟩
    have HC : Hid (∀ u, Below w.heap.size w u → Calls Try.prog 8 #[.slice a es.length c, .int .i64 z] u fun r w' => r = .returned (.tuple #[.slice none 0 0, .int .i64 R]) ∧ Below u.heap.size u w') := fun u hu => by
      rw [hR.out]
      exact clocks_bad a c z es u (hE.below hu) (by omega) hc hw
    rw [← hR.out] at hw
    obtain ⟨m, hm⟩ : ∃ m, Hid (m = es.length) := ⟨_, (rfl : _ = es.length)⟩
    rw [← hm.out] at h50 hl hc HC ⊢
    clear hE hok
    go_enter Try.func5, Try.ntmps5
    go_wp2_with (first | (go_at_call 4; refine HK.mono ?_; rintro _ w1 ⟨rfl, hb1⟩) | (go_at_call 8; refine (HC.out _ hb1).mono ?_; rintro _ w2 ⟨rfl, hb2⟩))
    go_ret
    exact ⟨rfl, HB.out _ _ hb1 hb2⟩
  have hw : wrongZ es z = 0 := Decidable.not_not.1 hw
  obtain ⟨h1, h2, h3, h4⟩ := wrongZ_ok hw
  obtain ⟨n, rfl⟩ : ∃ n : Nat, z = (n : Int) := ⟨z.toNat, by omega⟩
  have hn1 : 0 < n := by omega
  have hn16 : n ≤ 16 := by omega
  obtain ⟨ev, hev⟩ : ∃ ev, Hid (ev = evAt es) := ⟨_, (rfl : _ = evAt _)⟩
  obtain ⟨m, hm⟩ : ∃ m, Hid (m = es.length) := ⟨_, (rfl : _ = es.length)⟩
  have HW : Hid (wrongZ es n = 0 ∧ (∀ x ∈ es, x.ok) ∧ (∀ x ∈ es, 0 ≤ x.th ∧ x.th < n) ∧ RowEv w a es) := ⟨hw, hok, h4, hE⟩
  have HC : Hid (∀ u, Below w.heap.size w u → Calls Try.prog 8 #[.slice a m c, .int .i64 n] u fun r w' => ∃ G M, r = .returned (.tuple #[.slice (some ⟨G, 0, none⟩) m m, .int .i64 0]) ∧ Tr w' (some ⟨G, 0, none⟩) a es n ∧ Below u.heap.size u w') := fun u hu => by
    rw [hm.out]
    refine (clocks_ok a c n es u (hE.below hu) hok hc hw).mono fun r w' ⟨G, M, e1, e2, e3⟩ => ⟨G, M, e1, ⟨e2.row (by omega), (hE.below hu).below e3, hn1, hn16, h3, hok, h4⟩, e3⟩
  rw [← hm.out] at h50 hc ⊢
  clear hE hok hl h1 h2 h3 h4 hw
  go_enter Try.func5, Try.ntmps5
  go_wp2_with (first | (go_at_call 4; refine HK.mono ?_; rintro _ w1 ⟨rfl, hb1⟩) | (go_at_call 8; refine (HC.out _ hb1).mono ?_; rintro _ w2 ⟨G, M, rfl, hT2, hb2⟩; refine Hid.out ?_))
  refine hidU ?_
  have hB2 : Hid (Below w.heap.size w w2) := HB.out _ _ hb1 hb2
  have HT2 : Hid (Tr w2 (some ⟨G, 0, none⟩) a es n) := hT2
  clear hT2 hb1 hb2 HC HK
  go_wp2_with fail
  go_loopw [10, 11] (fun v t wr => ∃ (k : Nat) (L : List Nat), k ≤ m ∧ t = .int .i64 k ∧ Hid (OwnA w2.heap.size wr v n L (clksL ev n k)) ∧ Hid (Below w2.heap.size w2 wr)) (fun _ t _ => m - (intOf t).toNat)
  case atStart => exact ⟨0, [], Nat.zero_le _, rfl, OwnA.nil _ _ _, Below.refl _ _⟩
  case round =>
    obtain ⟨k, L, hk, rfl, hown, hbw⟩ := hrel
    by_cases hkm : k < m
    · have hBr : Hid (Below w.heap.size w wr) := HB.out _ _ hB2.out hbw.out
      obtain ⟨x, hx⟩ : ∃ x, es[k]? = some x := ⟨es[k]'(by rw [← hm.out]; exact hkm), by rw [List.getElem?_eq_getElem]⟩
      obtain ⟨ga, oa, rfl, hr⟩ := (HW.out.2.2.2.below hBr.out).at k x hx
      obtain ⟨q1, q2, q3⟩ := range_cells hr
      obtain ⟨aa, cc, rfl, hcc, hrow⟩ := hown.out.row hn16
      rw [clksL_length] at hcc hown ⊢
      have HROW : Hid (RowII wr aa (clksL ev n k)) := hrow
      have HX : Hid (es[k]? = some x) := hx
      have HN : Hid (∀ u, Below wr.heap.size wr u → Calls Try.prog 14 #[.slice aa k cc, .slice (some ⟨ga, oa, none⟩) k c, .int .i64 n, .agg x.cells.toArray] u fun r w' => ∃ g, r = .returned (.tuple #[.slice (some ⟨g, 0, none⟩) n n, .int .i64 0]) ∧ WrI w' g 0 (clkL ev n k) ∧ Below u.heap.size u w') := fun u hu => by
        obtain ⟨e1, e2, e3, e4⟩ := HW.out
        have hxm := List.mem_of_getElem? HX.out
        have hlk : (es.take k).length = k := by rw [List.length_take]; have := hm.out; omega
        obtain ⟨f1, f2, f3, f4⟩ := wrongZ_ok e1
        have hBu : Below w.heap.size w u := HB.out _ _ hBr.out hu
        have hflz : flZ (clksL ev n k) (es.take k) x (List.replicate n 0) = clkL ev n k :=
          flZ_clk ev n k (clksL ev n k) (es.take k) x (by rw [hev.out]; exact (evAt_eq HX.out).symm) hlk (fun i hi => by rw [hev.out]; unfold evAt; simp [List.getD, hi]) (fun i hi => clksL_at hi) (e3 x hxm).1 (e3 x hxm).2
        have := next_ok (clksL ev n k) (es.take k) x n aa (some ⟨ga, oa, none⟩) cc c u (HROW.out.below hu) clksL_lens (by rw [clksL_length, hlk]) ((e4.below hBu).take k)
          (fun g o h => Nat.lt_of_lt_of_le (e4.lt (by rw [← hm.out]; omega) g o h) hBu.size) (fun y hy => e2 y (List.mem_of_mem_take hy)) (e2 x hxm)
          (wrongZ_of f1 f2 (by rw [List.length_append, hlk]; simp; omega) fun y hy => by
            rcases List.mem_append.1 hy with h | h
            · exact e3 y (List.mem_of_mem_take h)
            · simp at h; subst h; exact e3 y hxm) (by rw [hlk]; exact hcc) (by rw [hlk]; omega)
        rw [hlk, hflz] at this
        exact this.mono fun r w' ⟨g, d1, d2, d3, d4⟩ => ⟨g, d1, d2, d4⟩
      clear hr hx hrow
      obtain ⟨xt, xk, xo⟩ := x
      dsimp only at q1 q2 q3
      simp only [Ev.cells] at HN
      have hs1 := fun u => runE_slice_to u (some ⟨ga, oa, none⟩) m c k (k : Int) rfl (by omega)
      go_wp2_with fail
      go_region_held3 (fun w' => w'.cell? ⟨ga, oa + k * 3, none⟩ = some (.int .i64 xt) ∧ w'.cell? ⟨ga, oa + k * 3 + 1, none⟩ = some (.int .i64 xk) ∧ w'.cell? ⟨ga, oa + k * 3 + 2, none⟩ = some (.int .i64 xo)) (first | exact ⟨q1, q2, q3⟩ | exact ⟨(hb5.cell (lt_of_cell q1)).trans q1, (hb5.cell (lt_of_cell q2)).trans q2, (hb5.cell (lt_of_cell q3)).trans q3⟩) (first | (go_at_call 14; refine (HN.out _ ((Below.refl _ wr).drew)).mono ?_; rintro e w5 ⟨g, rfl, hW5, hb5⟩))
      have hB5 : Hid (Below w2.heap.size w2 w5) := hbw.out.trans (((Below.refl _ wr).drew.trans hb5).mono hbw.out.size)
      have hO5 : Hid (OwnA w2.heap.size w5 (.slice aa k cc) n L (clksL ev n k)) := hown.out.below ((Below.refl _ wr).drew.trans hb5)
      have HW5 : Hid (WrI w5 g 0 (clkL ev n k)) := hW5
      have hlen5 : (clksL ev n k).length ≤ 1048576 := by rw [clksL_length]; omega
      have hsz5 : w2.heap.size ≤ w5.heap.size := hB5.out.size
      clear hb5 hW5 q1 q2 q3 HN hs1 hown hbw hBr HROW HX
      go_wp2_with (first | (at_builtin; refine appA (.tmp 52) (.tmp 54) g n w2.heap.size _ L (clksL ev n k) (clkL ev n k) rfl rfl rfl rfl hO5.out HW5.out (clkL_length ..) hlen5 hsz5 ?_; intro v6 w6 hown6 hb6))
      go_roundw
      case rel => exact ⟨k + 1, L ++ [g], by omega, by go_num, (show OwnA _ _ _ _ _ _ by rw [clksL_succ]; exact hown6), hB5.out.trans hb6⟩
      case measure => simp [intOf]; omega
    · have hkm2 : k = m := by omega
      subst hkm2
      clear hkm hk
      obtain ⟨aa, cc, rfl, hcc, hrow⟩ := hown.out.row hn16
      rw [clksL_length] at hcc ⊢
      have HTr : Hid (Tr wr (some ⟨G, 0, none⟩) a es n) := HT2.out.below hbw.out
      have hBr : Hid (Below w.heap.size w wr) := HB.out _ _ hB2.out hbw.out
      have HS : Hid (Calls Try.prog 16 #[.slice aa k cc, .slice (some ⟨G, 0, none⟩) k k] wr fun r w' => r = .returned (.bool true) ∧ Below wr.heap.size wr w') := by
        have e1 := HTr.out.row
        rw [← hm.out, ← hev.out] at e1
        have := sameLists_any (clksL ev n k) (clksL ev n k) aa (some ⟨G, 0, none⟩) cc k wr hrow e1 (by rw [clksL_length]; omega) (by rw [clksL_length]; omega) (by rw [clksL_length]; exact hcc) (by rw [clksL_length]; exact Nat.le_refl _)
        rw [clksL_length, decide_eq_true rfl] at this
        exact this
      have HO : Hid (∀ u, Below wr.heap.size wr u → Calls Try.prog 24 #[.slice (some ⟨G, 0, none⟩) k k, .slice a k c] u fun r w' => r = .returned (.bool true) ∧ Below u.heap.size u w') := fun u hu => by
        have := orders_ok es n (some ⟨G, 0, none⟩) a k c u (HTr.out.below hu) (by rw [hm.out]; exact Nat.le_refl _) (by rw [← hm.out]; exact hc)
        rwa [← hm.out] at this
      clear hrow hown hbw hB2 HT2
      obtain ⟨m, hmk⟩ : ∃ m, m = k := ⟨k, rfl⟩
      subst hmk
      by_cases hm2 : m < 2
      · go_wp2_with (first | (go_at_call 16; refine HS.out.mono ?_; rintro _ w3 ⟨rfl, hb3⟩) | (go_at_call 24; refine (HO.out _ hb3).mono ?_; rintro _ w4 ⟨rfl, hb4⟩))
        go_ret
        exact ⟨rfl, HB.out _ _ (HB.out _ _ hBr.out hb3) hb4⟩
      · have hwm : IntKind.i64.wrap ((m : Int) - 1) = (m : Int) - 1 := by rw [IntKind.wrap_i64]; omega
        have HP : Hid (∀ u, Calls Try.prog 25 #[.int .i64 at_, .int .i64 ((m : Int) - 1)] u fun e w' => ∃ p : Nat, e = .returned (.int .i64 p) ∧ p + 1 < m ∧ w' = u) := fun u =>
          (pick_any at_ ((m : Int) - 1) u ha1 ha2 (by omega)).mono fun e w' ⟨⟨p, d1, d2, d3⟩, d4⟩ => ⟨p, d1, by have := d2 (by omega); omega, d4⟩
        go_wp2_with (first | (go_at_call 16; refine HS.out.mono ?_; rintro _ w3 ⟨rfl, hb3⟩) | (go_at_call 24; refine (HO.out _ hb3).mono ?_; rintro _ w4 ⟨rfl, hb4⟩) | (go_at_call 25; refine (HP.out _).mono ?_; rintro _ w4' ⟨p, rfl, hp, hww⟩; obtain rfl : w4 = w4' := hww.symm; clear hww; refine Hid.out ?_))
        refine hidU ?_
        have hB4 : Hid (Below w.heap.size w w4) := HB.out _ _ (HB.out _ _ hBr.out hb3) hb4
        have HT4 : Hid (Tr w4 (some ⟨G, 0, none⟩) a es n) := (HTr.out.below hb3).below hb4
        clear hb3 hb4 HTr hBr HS HO HP hwm
        obtain ⟨p1, hp1⟩ : ∃ p1, Hid (p1 = p + 1) := ⟨_, (rfl : _ = p + 1)⟩
        have hp2 : p < m := by omega
        have hp3 : p1 < m := by rw [hp1.out]; exact hp
        have hwp : IntKind.i64.wrap ((p : Int) + 1) = (p1 : Int) := by rw [hp1.out, IntKind.wrap_i64]; omega
        obtain ⟨x, hx⟩ : ∃ x, es[p]? = some x := ⟨es[p]'(by rw [← hm.out]; exact hp2), by rw [List.getElem?_eq_getElem]⟩
        obtain ⟨y, hy⟩ : ∃ x, es[p1]? = some x := ⟨es[p1]'(by rw [← hm.out]; exact hp3), by rw [List.getElem?_eq_getElem]⟩
        obtain ⟨ga, oa, rfl, hr1⟩ := HT4.out.evs.at p x hx
        obtain ⟨g2, o2, hg2, hr2⟩ := HT4.out.evs.at p1 y hy
        cases hg2
        obtain ⟨q1, q2, q3⟩ := range_cells hr1
        obtain ⟨r1, r2, r3⟩ := range_cells hr2
        have hex : Hid (evAt es p = x ∧ evAt es (p + 1) = y) := ⟨evAt_eq hx, evAt_eq (by rw [← hp1.out]; exact hy)⟩
        obtain ⟨D, hD⟩ : ∃ D, Hid (D = depB x y) := ⟨_, (rfl : _ = depB _ _)⟩
        have HD : Hid (∀ u, Calls Try.prog 26 #[.agg x.cells.toArray, .agg y.cells.toArray] u fun r w' => r = .returned (.bool D) ∧ Below u.heap.size u w') := fun u => by
          rw [hD.out]
          exact depends_any x y (HT4.out.ok x (List.mem_of_getElem? hx)) (HT4.out.ok y (List.mem_of_getElem? hy)) u
        have hE4 : Hid (∀ u, Below w.heap.size w u → RowEv u (some ⟨ga, oa, none⟩) es) := fun u hu => HW.out.2.2.2.below hu
        have hgl : ga < w.heap.size := HW.out.2.2.2.lt (by rw [← hm.out]; omega) ga oa rfl
        clear hx hy hr1 hr2
        obtain ⟨xt, xk, xo⟩ := x
        obtain ⟨yt, yk, yo⟩ := y
        dsimp only at q1 q2 q3 r1 r2 r3
        simp only [Ev.cells] at HD
        go_wp2_with fail
        go_region_held3 (fun w' => (w'.cell? ⟨ga, oa + p * 3, none⟩ = some (.int .i64 xt) ∧ w'.cell? ⟨ga, oa + p * 3 + 1, none⟩ = some (.int .i64 xk) ∧ w'.cell? ⟨ga, oa + p * 3 + 2, none⟩ = some (.int .i64 xo)) ∧ (w'.cell? ⟨ga, oa + p1 * 3, none⟩ = some (.int .i64 yt) ∧ w'.cell? ⟨ga, oa + p1 * 3 + 1, none⟩ = some (.int .i64 yk) ∧ w'.cell? ⟨ga, oa + p1 * 3 + 2, none⟩ = some (.int .i64 yo))) (first | exact ⟨⟨q1, q2, q3⟩, r1, r2, r3⟩ | exact ⟨⟨(hb5.cell (lt_of_cell q1)).trans q1, (hb5.cell (lt_of_cell q2)).trans q2, (hb5.cell (lt_of_cell q3)).trans q3⟩, ⟨(hb5.cell (lt_of_cell r1)).trans r1, (hb5.cell (lt_of_cell r2)).trans r2, (hb5.cell (lt_of_cell r3)).trans r3⟩⟩) (first | (go_at_call 26; refine (HD.out _).mono ?_; rintro e w5 ⟨rfl, hb5⟩))
        have hB5 : Hid (Below w.heap.size w w5) := HB.out _ _ (HB.out _ _ hB4.out (Below.refl _ _).drew) hb5
        cases D
        · have hTR5 : Hid (Tr w5 (some ⟨G, 0, none⟩) (some ⟨ga, oa, none⟩) es n) := (HT4.out.below (Below.refl _ _).drew).below hb5
          have HCE : Hid (Calls Try.prog 27 #[.slice (some ⟨ga, oa, none⟩) m c] w5 fun e w' => ∃ gm cm cs, e = .returned (.slice (some ⟨gm, 0, none⟩) m cm) ∧ w5.heap.size ≤ gm ∧ At 25 w' gm cs ∧ OnE cs es ∧ m ≤ cm ∧ m * 3 ≤ cs.length ∧ Below w5.heap.size w5 w') := by
            have := copyEvents_any ga oa c es w5 (hE4.out _ hB5.out) (by rw [← hm.out]; omega)
            rw [← hm.out] at this
            refine this.mono fun e w' ⟨v, d1, d2, d3⟩ => ?_
            rw [hm.out] at d2
            obtain ⟨g, cap, cs, f1, f2, f3, f4, f5, f6⟩ := own_events d2 (by rw [← hm.out]; omega)
            rw [← hm.out] at f1 f5 f6
            exact ⟨g, cap, cs, by rw [d1, f1], f2, f3, f4, f5, f6, d3⟩
          have hS5 : w.heap.size ≤ w5.heap.size := hB5.out.size
          clear hb5 q1 q2 q3 r1 r2 r3 HD HT4 hB4
          go_wp2_with (first | (go_at_call 27; refine HCE.out.mono ?_; rintro _ w6 ⟨gm, cm, cs, rfl, hgm, hA6, hO6, hcm, hcl, hb6⟩; refine Hid.out ?_))
          refine hidU ?_
          have HM6 : Hid (At 25 w6 gm cs) := hA6
          have HO6 : Hid (OnE cs es) := hO6
          have hTR6 : Hid (Tr w6 (some ⟨G, 0, none⟩) (some ⟨ga, oa, none⟩) es n) := hTR5.out.below hb6
          have hB6 : Hid (Below w.heap.size w w6) := HB.out _ _ hB5.out hb6
          have hGs : Hid (∃ u, hTR5.out.row = u) := ⟨_, rfl⟩
          clear hA6 hO6 HCE hGs
          obtain ⟨x', hx'⟩ : ∃ x, es[p]? = some x := ⟨es[p]'(by rw [← hm.out]; exact hp2), by rw [List.getElem?_eq_getElem]⟩
          obtain ⟨y', hy'⟩ : ∃ x, es[p1]? = some x := ⟨es[p1]'(by rw [← hm.out]; exact hp3), by rw [List.getElem?_eq_getElem]⟩
          obtain ⟨g3, o3, hg3, hr1⟩ := hTR6.out.evs.at p x' hx'
          cases hg3
          obtain ⟨g3, o3, hg3, hr2⟩ := hTR6.out.evs.at p1 y' hy'
          cases hg3
          obtain rfl : x' = ⟨xt, xk, xo⟩ := by rw [← hex.out.1, evAt_eq hx']
          obtain rfl : y' = ⟨yt, yk, yo⟩ := by rw [← hex.out.2, ← hp1.out, evAt_eq hy']
          obtain ⟨q1, q2, q3⟩ := range_cells hr1
          obtain ⟨r1, r2, r3⟩ := range_cells hr2
          dsimp only at q1 q2 q3 r1 r2 r3
          clear hr1 hr2 hx' hy'
          go_wp2_with fail
          have hS0a : Below w6.heap.size w6 w6.drew := Below.drew (Below.refl _ _)
          refine wp_region_S (S := fun xS => Below w6.heap.size w6 xS) (St := [15]) (by kernel_rfl) hS0a ?_
          obtain ⟨x0a, hx0⟩ : ∃ x, x = w6.drew := ⟨_, rfl⟩
          rw [← hx0] at hS0a  ⊢
          clear hx0
          intro hH
          refine wpAnyS_pure (i := 0) (oi := { dst := some 88, op := .move (.tmp 14), type := _, pos := _, after := _, guard := none }) (v := .slice (some ⟨gm, 0, none⟩) m cm) rfl (by kernel_rfl) (by kernel_rfl) (by kernel_rfl) (by kernel_rfl) (fun _ _ _ h => h) (Or.inl ⟨by rfl, ?_⟩) hH (fun hH => ?_)
          · intro wS hSw
            go_simp
          simp only [Act.put, List.setIfInBounds_toArray, List.set_cons_zero, List.set_cons_succ]
          refine wpAnyS_pure (i := 1) (oi := { dst := some 89, op := .move (.tmp 2), type := _, pos := _, after := _, guard := none }) (v := .int .i64 (p : Int)) rfl (by kernel_rfl) (by kernel_rfl) (by kernel_rfl) (by kernel_rfl) (fun _ _ _ h => h) (Or.inl ⟨by rfl, ?_⟩) hH (fun hH => ?_)
          · intro wS hSw
            go_simp
          simp only [Act.put, List.setIfInBounds_toArray, List.set_cons_zero, List.set_cons_succ]
          refine wpAnyS_pure (i := 2) (oi := { dst := some 90, op := .move (.tmp 14), type := _, pos := _, after := _, guard := none }) (v := .slice (some ⟨gm, 0, none⟩) m cm) rfl (by kernel_rfl) (by kernel_rfl) (by kernel_rfl) (by kernel_rfl) (fun _ _ _ h => h) (Or.inl ⟨by rfl, ?_⟩) hH (fun hH => ?_)
          · intro wS hSw
            go_simp
          simp only [Act.put, List.setIfInBounds_toArray, List.set_cons_zero, List.set_cons_succ]
          refine wpAnyS_pure (i := 3) (oi := { dst := some 91, op := .move (.tmp 2), type := _, pos := _, after := _, guard := none }) (v := .int .i64 (p : Int)) rfl (by kernel_rfl) (by kernel_rfl) (by kernel_rfl) (by kernel_rfl) (fun _ _ _ h => h) (Or.inl ⟨by rfl, ?_⟩) hH (fun hH => ?_)
          · intro wS hSw
            go_simp
          simp only [Act.put, List.setIfInBounds_toArray, List.set_cons_zero, List.set_cons_succ]
          refine wpAnyS_pure (i := 4) (oi := { dst := some 92, op := .binOp .add 3 (.tmp 91) (.const (.int .i64 1)) 3, type := _, pos := _, after := _, guard := none }) (v := .int .i64 (p1 : Int)) rfl (by kernel_rfl) (by kernel_rfl) (by kernel_rfl) (by kernel_rfl) (fun _ _ _ h => h) (Or.inl ⟨by rfl, ?_⟩) hH (fun hH => ?_)
          · intro wS hSw
            go_simp
          simp only [Act.put, List.setIfInBounds_toArray, List.set_cons_zero, List.set_cons_succ]
          refine wpAnyS_pure (i := 5) (oi := { dst := some 93, op := .move (.tmp 0), type := _, pos := _, after := _, guard := none }) (v := .slice (some ⟨ga, oa, none⟩) m c) rfl (by kernel_rfl) (by kernel_rfl) (by kernel_rfl) (by kernel_rfl) (fun _ _ _ h => h) (Or.inl ⟨by rfl, ?_⟩) hH (fun hH => ?_)
          · intro wS hSw
            go_simp
          simp only [Act.put, List.setIfInBounds_toArray, List.set_cons_zero, List.set_cons_succ]
          refine wpAnyS_pure (i := 6) (oi := { dst := some 94, op := .move (.tmp 2), type := _, pos := _, after := _, guard := none }) (v := .int .i64 (p : Int)) rfl (by kernel_rfl) (by kernel_rfl) (by kernel_rfl) (by kernel_rfl) (fun _ _ _ h => h) (Or.inl ⟨by rfl, ?_⟩) hH (fun hH => ?_)
          · intro wS hSw
            go_simp
          simp only [Act.put, List.setIfInBounds_toArray, List.set_cons_zero, List.set_cons_succ]
          refine wpAnyS_pure (i := 7) (oi := { dst := some 95, op := .binOp .add 3 (.tmp 94) (.const (.int .i64 1)) 3, type := _, pos := _, after := _, guard := none }) (v := .int .i64 (p1 : Int)) rfl (by kernel_rfl) (by kernel_rfl) (by kernel_rfl) (by kernel_rfl) (fun _ _ _ h => h) (Or.inl ⟨by rfl, ?_⟩) hH (fun hH => ?_)
          · intro wS hSw
            go_simp
          simp only [Act.put, List.setIfInBounds_toArray, List.set_cons_zero, List.set_cons_succ]
          refine wpAnyS_pure (i := 8) (oi := { dst := some 96, op := .indexAddr 22 (.tmp 93) (.tmp 95), type := _, pos := _, after := _, guard := none }) (v := .pointer (some ⟨ga, oa + p1 * 3, none⟩)) rfl (by kernel_rfl) (by kernel_rfl) (by kernel_rfl) (by kernel_rfl) (fun _ _ _ h => h) (Or.inl ⟨by rfl, ?_⟩) hH (fun hH => ?_)
          · intro wS hSw
            go_simp
          simp only [Act.put, List.setIfInBounds_toArray, List.set_cons_zero, List.set_cons_succ]
          refine wpAnyS_take [14, 15, 16, 17] (i := 9) (oi := { dst := some 97, op := .load 25 (.tmp 96), type := _, pos := _, after := _, guard := none }) (v := .agg #[.int .i64 yt, .int .i64 yk, .int .i64 yo]) rfl (by kernel_rfl) (by kernel_rfl) (by kernel_rfl) (by kernel_rfl) (by kernel_rfl) (by kernel_rfl) (by kernel_rfl) (fun _ _ _ h => h) (Or.inl ⟨by rfl, ?_⟩) hH (fun hH => ?_)
          · intro wS hSw
            have z0 := (hSw.cell (lt_of_cell r1)).trans r1
            have z1 := (hSw.cell (lt_of_cell r2)).trans r2
            have z2 := (hSw.cell (lt_of_cell r3)).trans r3
            go_simp
          simp only [Act.put, List.setIfInBounds_toArray, List.set_cons_zero, List.set_cons_succ]
          refine wpAnyS_pure (i := 10) (oi := { dst := some 98, op := .move (.tmp 0), type := _, pos := _, after := _, guard := none }) (v := .slice (some ⟨ga, oa, none⟩) m c) rfl (by kernel_rfl) (by kernel_rfl) (by kernel_rfl) (by kernel_rfl) (fun _ _ _ h => h) (Or.inl ⟨by rfl, ?_⟩) hH (fun hH => ?_)
          · intro wS hSw
            go_simp
          simp only [Act.put, List.setIfInBounds_toArray, List.set_cons_zero, List.set_cons_succ]
          refine wpAnyS_pure (i := 11) (oi := { dst := some 99, op := .move (.tmp 2), type := _, pos := _, after := _, guard := none }) (v := .int .i64 (p : Int)) rfl (by kernel_rfl) (by kernel_rfl) (by kernel_rfl) (by kernel_rfl) (fun _ _ _ h => h) (Or.inl ⟨by rfl, ?_⟩) hH (fun hH => ?_)
          · intro wS hSw
            go_simp
          simp only [Act.put, List.setIfInBounds_toArray, List.set_cons_zero, List.set_cons_succ]
          refine wpAnyS_pure (i := 12) (oi := { dst := some 100, op := .indexAddr 22 (.tmp 98) (.tmp 99), type := _, pos := _, after := _, guard := none }) (v := .pointer (some ⟨ga, oa + p * 3, none⟩)) rfl (by kernel_rfl) (by kernel_rfl) (by kernel_rfl) (by kernel_rfl) (fun _ _ _ h => h) (Or.inl ⟨by rfl, ?_⟩) hH (fun hH => ?_)
          · intro wS hSw
            go_simp
          simp only [Act.put, List.setIfInBounds_toArray, List.set_cons_zero, List.set_cons_succ]
          refine wpAnyS_take [14, 15, 16, 17] (i := 13) (oi := { dst := some 101, op := .load 25 (.tmp 100), type := _, pos := _, after := _, guard := none }) (v := .agg #[.int .i64 xt, .int .i64 xk, .int .i64 xo]) rfl (by kernel_rfl) (by kernel_rfl) (by kernel_rfl) (by kernel_rfl) (by kernel_rfl) (by kernel_rfl) (by kernel_rfl) (fun _ _ _ h => h) (Or.inl ⟨by rfl, ?_⟩) hH (fun hH => ?_)
          · intro wS hSw
            have z0 := (hSw.cell (lt_of_cell q1)).trans q1
            have z1 := (hSw.cell (lt_of_cell q2)).trans q2
            have z2 := (hSw.cell (lt_of_cell q3)).trans q3
            go_simp
          simp only [Act.put, List.setIfInBounds_toArray, List.set_cons_zero, List.set_cons_succ]
          refine wpAnyS_pure (i := 14) (oi := { dst := some 102, op := .indexAddr 22 (.tmp 88) (.tmp 89), type := _, pos := _, after := _, guard := none }) (v := .pointer (some ⟨gm, p * 3, none⟩)) rfl (by kernel_rfl) (by kernel_rfl) (by kernel_rfl) (by kernel_rfl) (fun _ _ _ h => h) (Or.inl ⟨by rfl, ?_⟩) hH (fun hH => ?_)
          · intro wS hSw
            go_simp
          simp only [Act.put, List.setIfInBounds_toArray, List.set_cons_zero, List.set_cons_succ]
          refine wpAnyS_ready (rs := [15]) (by kernel_rfl) (by simp) ?_
          refine AllReadyS.cons (o := { dst := none, op := .store 25 (.tmp 102) (.tmp 97), type := _, pos := _, after := _, guard := none }) rfl (fun K hK => ?_) AllReadyS.nil
          rw [if_pos (by rfl)]
          refine wp_store_three (.tmp 102) (.tmp 97) rfl gm (p * 3) ⟨yt, yk, yo⟩ rfl rfl _ (HM6.out.below hS0a) (by omega) ?_
          intro x1a hA1a hb1a hs1a
          refine hK.out _ _ (Hold.over (s := 15) (by decide) (by rfl)) (fun hH => ?_)
          clear hK K
          refine wpAnyS_pure (i := 16) (oi := { dst := some 103, op := .indexAddr 22 (.tmp 90) (.tmp 92), type := _, pos := _, after := _, guard := none }) (v := .pointer (some ⟨gm, p1 * 3, none⟩)) rfl (by kernel_rfl) (by kernel_rfl) (by kernel_rfl) (by kernel_rfl) (fun _ _ _ h => h) (Or.inl ⟨by rfl, ?_⟩) hH (fun hH => ?_)
          · intro wS hSw
            go_simp
          simp only [Act.put, List.setIfInBounds_toArray, List.set_cons_zero, List.set_cons_succ]
          refine wpAnyS_ready (rs := [17]) (by kernel_rfl) (by simp) ?_
          refine AllReadyS.cons (o := { dst := none, op := .store 25 (.tmp 103) (.tmp 101), type := _, pos := _, after := _, guard := none }) rfl (fun K hK => ?_) AllReadyS.nil
          rw [if_pos (by rfl)]
          refine wp_store_three (.tmp 103) (.tmp 101) rfl gm (p1 * 3) ⟨xt, xk, xo⟩ rfl rfl _ hA1a (by simp only [List.length_set]; omega) ?_
          intro x2a hA2a hb2a hs2a
          refine hK.out _ _ (Hold.over (s := 15) (by decide) (by rfl)) (fun hH => ?_)
          clear hK K
          refine wpAnyS_done (by kernel_rfl) ?_ _
          obtain ⟨w8, hw8⟩ : ∃ u, u = x2a := ⟨_, rfl⟩
          have hB58 : Hid (Below w5.heap.size w5 w8) := by
            rw [hw8]
            have e1 : Below w5.heap.size w5 x0a := hb6.trans (hS0a.mono hb6.size)
            have e2 : Below w5.heap.size w5 x1a := hb1a.below e1 hgm e1.size
            exact hb2a.below e2 hgm e2.size
          have hE8 : Hid (RowEv w8 (some ⟨gm, 0, none⟩) (swE es p)) := by
            rw [hw8]
            have e1 := (HO6.out.set (k := p) (by rw [← hm.out]; exact hp2) ⟨yt, yk, yo⟩).set (k := p1) (by rw [List.length_set, ← hm.out]; exact hp3) ⟨xt, xk, xo⟩
            have e2 : (es.set p ⟨yt, yk, yo⟩).set p1 ⟨xt, xk, xo⟩ = swE es p := by unfold swE; rw [hex.out.1, hex.out.2, hp1.out]
            rw [e2] at e1
            exact e1.row hA2a
          rw [← hw8]
          have hTR8 : Hid (Tr w8 (some ⟨G, 0, none⟩) (some ⟨ga, oa, none⟩) es n) := hTR5.out.below hB58.out
          have hB8 : Hid (Below w.heap.size w w8) := HB.out _ _ hB5.out hB58.out
          have HC8 : Hid (Calls Try.prog 8 #[.slice (some ⟨gm, 0, none⟩) m cm, .int .i64 n] w8 fun r w' => ∃ G M, r = .returned (.tuple #[.slice (some ⟨G, 0, none⟩) m m, .int .i64 0]) ∧ ClkAt w8.heap.size w' G M n (clksL (evAt (swE es p)) n m) ∧ Below w8.heap.size w8 w') := by
            have hpe : p + 1 < es.length := by rw [← hm.out]; exact hp
            have := clocks_ok (some ⟨gm, 0, none⟩) cm n (swE es p) w8 hE8.out (fun x hx => HW.out.2.1 x (swE_mem hpe x hx)) (by rw [swE_length, ← hm.out]; exact hcm) (wrong_swE hpe HW.out.1)
            rw [swE_length, ← hm.out] at this
            exact this
          clear hA1a hb1a hs1a hA2a hb2a hs2a hS0a hw8 hTR5 hTR6 hB5 hB6 HM6 HO6 hb6 q1 q2 q3 r1 r2 r3 hE8 hB58 hH

          go_wp2_with (first | (go_at_call 8; refine HC8.out.mono ?_; rintro _ w7 ⟨G7, M7, rfl, hK7, hb7⟩; refine Hid.out ?_))
          refine hidU ?_
          have HK7 : Hid (ClkAt w8.heap.size w7 G7 M7 n (clksL (evAt (swE es p)) n m)) := hK7
          have HG7 : Hid (At 26 w7 G7 (cutV M7 n m)) := by have := hK7.heads; rwa [clksL_length] at this
          have HB7 : Hid (Below w8.heap.size w8 w7) := hb7
          obtain ⟨A0, hA0⟩ : ∃ x, Hid (x = p * n) := ⟨_, (rfl : _ = p * n)⟩
          obtain ⟨A1, hA1⟩ : ∃ x, Hid (x = p1 * n) := ⟨_, (rfl : _ = p1 * n)⟩
          have d0 : w7.cell? ⟨G7, p, none⟩ = some (.slice (some ⟨M7, A0, none⟩) n n) := by rw [HG7.out.cell, hA0.out]; exact cutV_at hp2
          have d1 : w7.cell? ⟨G7, p1, none⟩ = some (.slice (some ⟨M7, A1, none⟩) n n) := by rw [HG7.out.cell, hA1.out]; exact cutV_at hp3
          clear hK7 hb7 HC8
          go_wp2_with fail
          have hS0b : Below w7.heap.size w7 w7.drew := Below.drew (Below.refl _ _)
          refine wp_region_S (S := fun xS => Below w7.heap.size w7 xS) (St := [15]) (by kernel_rfl) hS0b ?_
          obtain ⟨x0b, hx0⟩ : ∃ x, x = w7.drew := ⟨_, rfl⟩
          rw [← hx0] at hS0b  ⊢
          clear hx0
          intro hH
          refine wpAnyS_pure (i := 0) (oi := { dst := some 119, op := .move (.tmp 15), type := _, pos := _, after := _, guard := none }) (v := .slice (some ⟨G7, 0, none⟩) m m) rfl (by kernel_rfl) (by kernel_rfl) (by kernel_rfl) (by kernel_rfl) (fun _ _ _ h => h) (Or.inl ⟨by rfl, ?_⟩) hH (fun hH => ?_)
          · intro wS hSw
            go_simp
          simp only [Act.put, List.setIfInBounds_toArray, List.set_cons_zero, List.set_cons_succ]
          refine wpAnyS_pure (i := 1) (oi := { dst := some 120, op := .move (.tmp 2), type := _, pos := _, after := _, guard := none }) (v := .int .i64 (p : Int)) rfl (by kernel_rfl) (by kernel_rfl) (by kernel_rfl) (by kernel_rfl) (fun _ _ _ h => h) (Or.inl ⟨by rfl, ?_⟩) hH (fun hH => ?_)
          · intro wS hSw
            go_simp
          simp only [Act.put, List.setIfInBounds_toArray, List.set_cons_zero, List.set_cons_succ]
          refine wpAnyS_pure (i := 2) (oi := { dst := some 121, op := .move (.tmp 15), type := _, pos := _, after := _, guard := none }) (v := .slice (some ⟨G7, 0, none⟩) m m) rfl (by kernel_rfl) (by kernel_rfl) (by kernel_rfl) (by kernel_rfl) (fun _ _ _ h => h) (Or.inl ⟨by rfl, ?_⟩) hH (fun hH => ?_)
          · intro wS hSw
            go_simp
          simp only [Act.put, List.setIfInBounds_toArray, List.set_cons_zero, List.set_cons_succ]
          refine wpAnyS_pure (i := 3) (oi := { dst := some 122, op := .move (.tmp 2), type := _, pos := _, after := _, guard := none }) (v := .int .i64 (p : Int)) rfl (by kernel_rfl) (by kernel_rfl) (by kernel_rfl) (by kernel_rfl) (fun _ _ _ h => h) (Or.inl ⟨by rfl, ?_⟩) hH (fun hH => ?_)
          · intro wS hSw
            go_simp
          simp only [Act.put, List.setIfInBounds_toArray, List.set_cons_zero, List.set_cons_succ]
          refine wpAnyS_pure (i := 4) (oi := { dst := some 123, op := .binOp .add 3 (.tmp 122) (.const (.int .i64 1)) 3, type := _, pos := _, after := _, guard := none }) (v := .int .i64 (p1 : Int)) rfl (by kernel_rfl) (by kernel_rfl) (by kernel_rfl) (by kernel_rfl) (fun _ _ _ h => h) (Or.inl ⟨by rfl, ?_⟩) hH (fun hH => ?_)
          · intro wS hSw
            go_simp
          simp only [Act.put, List.setIfInBounds_toArray, List.set_cons_zero, List.set_cons_succ]
          refine wpAnyS_pure (i := 5) (oi := { dst := some 124, op := .move (.tmp 15), type := _, pos := _, after := _, guard := none }) (v := .slice (some ⟨G7, 0, none⟩) m m) rfl (by kernel_rfl) (by kernel_rfl) (by kernel_rfl) (by kernel_rfl) (fun _ _ _ h => h) (Or.inl ⟨by rfl, ?_⟩) hH (fun hH => ?_)
          · intro wS hSw
            go_simp
          simp only [Act.put, List.setIfInBounds_toArray, List.set_cons_zero, List.set_cons_succ]
          refine wpAnyS_pure (i := 6) (oi := { dst := some 125, op := .move (.tmp 2), type := _, pos := _, after := _, guard := none }) (v := .int .i64 (p : Int)) rfl (by kernel_rfl) (by kernel_rfl) (by kernel_rfl) (by kernel_rfl) (fun _ _ _ h => h) (Or.inl ⟨by rfl, ?_⟩) hH (fun hH => ?_)
          · intro wS hSw
            go_simp
          simp only [Act.put, List.setIfInBounds_toArray, List.set_cons_zero, List.set_cons_succ]
          refine wpAnyS_pure (i := 7) (oi := { dst := some 126, op := .binOp .add 3 (.tmp 125) (.const (.int .i64 1)) 3, type := _, pos := _, after := _, guard := none }) (v := .int .i64 (p1 : Int)) rfl (by kernel_rfl) (by kernel_rfl) (by kernel_rfl) (by kernel_rfl) (fun _ _ _ h => h) (Or.inl ⟨by rfl, ?_⟩) hH (fun hH => ?_)
          · intro wS hSw
            go_simp
          simp only [Act.put, List.setIfInBounds_toArray, List.set_cons_zero, List.set_cons_succ]
          refine wpAnyS_pure (i := 8) (oi := { dst := some 127, op := .indexAddr 23 (.tmp 124) (.tmp 126), type := _, pos := _, after := _, guard := none }) (v := .pointer (some ⟨G7, p1, none⟩)) rfl (by kernel_rfl) (by kernel_rfl) (by kernel_rfl) (by kernel_rfl) (fun _ _ _ h => h) (Or.inl ⟨by rfl, ?_⟩) hH (fun hH => ?_)
          · intro wS hSw
            go_simp
          simp only [Act.put, List.setIfInBounds_toArray, List.set_cons_zero, List.set_cons_succ]
          refine wpAnyS_take [14, 15, 16, 17] (i := 9) (oi := { dst := some 128, op := .load 26 (.tmp 127), type := _, pos := _, after := _, guard := none }) (v := .slice (some ⟨M7, A1, none⟩) n n) rfl (by kernel_rfl) (by kernel_rfl) (by kernel_rfl) (by kernel_rfl) (by kernel_rfl) (by kernel_rfl) (by kernel_rfl) (fun _ _ _ h => h) (Or.inl ⟨by rfl, ?_⟩) hH (fun hH => ?_)
          · intro wS hSw
            have z0 := (hSw.cell (lt_of_cell d1)).trans d1
            go_simp
          simp only [Act.put, List.setIfInBounds_toArray, List.set_cons_zero, List.set_cons_succ]
          refine wpAnyS_pure (i := 10) (oi := { dst := some 129, op := .move (.tmp 15), type := _, pos := _, after := _, guard := none }) (v := .slice (some ⟨G7, 0, none⟩) m m) rfl (by kernel_rfl) (by kernel_rfl) (by kernel_rfl) (by kernel_rfl) (fun _ _ _ h => h) (Or.inl ⟨by rfl, ?_⟩) hH (fun hH => ?_)
          · intro wS hSw
            go_simp
          simp only [Act.put, List.setIfInBounds_toArray, List.set_cons_zero, List.set_cons_succ]
          refine wpAnyS_pure (i := 11) (oi := { dst := some 130, op := .move (.tmp 2), type := _, pos := _, after := _, guard := none }) (v := .int .i64 (p : Int)) rfl (by kernel_rfl) (by kernel_rfl) (by kernel_rfl) (by kernel_rfl) (fun _ _ _ h => h) (Or.inl ⟨by rfl, ?_⟩) hH (fun hH => ?_)
          · intro wS hSw
            go_simp
          simp only [Act.put, List.setIfInBounds_toArray, List.set_cons_zero, List.set_cons_succ]
          refine wpAnyS_pure (i := 12) (oi := { dst := some 131, op := .indexAddr 23 (.tmp 129) (.tmp 130), type := _, pos := _, after := _, guard := none }) (v := .pointer (some ⟨G7, p, none⟩)) rfl (by kernel_rfl) (by kernel_rfl) (by kernel_rfl) (by kernel_rfl) (fun _ _ _ h => h) (Or.inl ⟨by rfl, ?_⟩) hH (fun hH => ?_)
          · intro wS hSw
            go_simp
          simp only [Act.put, List.setIfInBounds_toArray, List.set_cons_zero, List.set_cons_succ]
          refine wpAnyS_take [14, 15, 16, 17] (i := 13) (oi := { dst := some 132, op := .load 26 (.tmp 131), type := _, pos := _, after := _, guard := none }) (v := .slice (some ⟨M7, A0, none⟩) n n) rfl (by kernel_rfl) (by kernel_rfl) (by kernel_rfl) (by kernel_rfl) (by kernel_rfl) (by kernel_rfl) (by kernel_rfl) (fun _ _ _ h => h) (Or.inl ⟨by rfl, ?_⟩) hH (fun hH => ?_)
          · intro wS hSw
            have z0 := (hSw.cell (lt_of_cell d0)).trans d0
            go_simp
          simp only [Act.put, List.setIfInBounds_toArray, List.set_cons_zero, List.set_cons_succ]
          refine wpAnyS_pure (i := 14) (oi := { dst := some 133, op := .indexAddr 23 (.tmp 119) (.tmp 120), type := _, pos := _, after := _, guard := none }) (v := .pointer (some ⟨G7, p, none⟩)) rfl (by kernel_rfl) (by kernel_rfl) (by kernel_rfl) (by kernel_rfl) (fun _ _ _ h => h) (Or.inl ⟨by rfl, ?_⟩) hH (fun hH => ?_)
          · intro wS hSw
            go_simp
          simp only [Act.put, List.setIfInBounds_toArray, List.set_cons_zero, List.set_cons_succ]
          refine wpAnyS_ready (rs := [15]) (by kernel_rfl) (by simp) ?_
          refine AllReadyS.cons (o := { dst := none, op := .store 26 (.tmp 133) (.tmp 128), type := _, pos := _, after := _, guard := none }) rfl (fun K hK => ?_) AllReadyS.nil
          rw [if_pos (by rfl)]
          refine wp_store_one 26 (.tmp 133) (.tmp 128) rfl G7 (p) (.slice (some ⟨M7, A1, none⟩) n n) rfl rfl 26 _ (HG7.out.below hS0b) (by rw [cutV_length]; omega) (by kernel_rfl) rfl rfl ?_
          intro x1b hA1b hb1b hs1b
          refine hK.out _ _ (Hold.over (s := 15) (by decide) (by rfl)) (fun hH => ?_)
          clear hK K
          refine wpAnyS_pure (i := 16) (oi := { dst := some 134, op := .indexAddr 23 (.tmp 121) (.tmp 123), type := _, pos := _, after := _, guard := none }) (v := .pointer (some ⟨G7, p1, none⟩)) rfl (by kernel_rfl) (by kernel_rfl) (by kernel_rfl) (by kernel_rfl) (fun _ _ _ h => h) (Or.inl ⟨by rfl, ?_⟩) hH (fun hH => ?_)
          · intro wS hSw
            go_simp
          simp only [Act.put, List.setIfInBounds_toArray, List.set_cons_zero, List.set_cons_succ]
          refine wpAnyS_ready (rs := [17]) (by kernel_rfl) (by simp) ?_
          refine AllReadyS.cons (o := { dst := none, op := .store 26 (.tmp 134) (.tmp 132), type := _, pos := _, after := _, guard := none }) rfl (fun K hK => ?_) AllReadyS.nil
          rw [if_pos (by rfl)]
          refine wp_store_one 26 (.tmp 134) (.tmp 132) rfl G7 (p1) (.slice (some ⟨M7, A0, none⟩) n n) rfl rfl 26 _ hA1b (by rw [List.length_set, cutV_length]; omega) (by kernel_rfl) rfl rfl ?_
          intro x2b hA2b hb2b hs2b
          refine hK.out _ _ (Hold.over (s := 15) (by decide) (by rfl)) (fun hH => ?_)
          clear hK K
          refine wpAnyS_done (by kernel_rfl) ?_ _
          obtain ⟨w9, hw9⟩ : ∃ u, u = x2b := ⟨_, rfl⟩
          have hGs : w8.heap.size ≤ G7 := HK7.out.bg
          have hB9 : Hid (Below w8.heap.size w8 w9) := by
            rw [hw9]
            have e1 : Below w8.heap.size w8 x0b := HB7.out.trans (hS0b.mono HB7.out.size)
            have e2 : Below w8.heap.size w8 x1b := hb1b.below e1 hGs e1.size
            exact hb2b.below e2 hGs e2.size
          have hR9 : Hid (RowII w9 (some ⟨G7, 0, none⟩) (clksL ev n m)) := by
            rw [hw9, hev.out, hm.out]
            refine row_swE (M := M7) (by rw [← hm.out]; exact hp) (by rw [hex.out.1, hex.out.2]; exact hD.out.symm) hn16 ?_ ?_
            · obtain ⟨cs0, e1, e2⟩ := HK7.out.mem
              rw [← hm.out]
              exact ⟨cs0, hb2b.at (hb1b.at (At.below (t := 3) e1 hS0b) HK7.out.ne.symm) HK7.out.ne.symm, e2⟩
            · rw [← hm.out, ← hp1.out, ← hA0.out, ← hA1.out]
              exact hA2b
          rw [← hw9]
          have HS9 : Hid (Calls Try.prog 16 #[.slice (some ⟨G7, 0, none⟩) m m, .slice (some ⟨G, 0, none⟩) m m] w9 fun r w' => r = .returned (.bool true) ∧ Below w9.heap.size w9 w') := by
            have e1 := (hTR8.out.below hB9.out).row
            rw [← hm.out, ← hev.out] at e1
            have := sameLists_any (clksL ev n m) (clksL ev n m) (some ⟨G7, 0, none⟩) (some ⟨G, 0, none⟩) m m w9 hR9.out e1 (by rw [clksL_length]; omega) (by rw [clksL_length]; omega) (by rw [clksL_length]; exact Nat.le_refl _) (by rw [clksL_length]; exact Nat.le_refl _)
            rw [clksL_length, decide_eq_true rfl] at this
            exact this
          clear hA1b hb1b hs1b hA2b hb2b hs2b hS0b hw9 d0 d1 HG7 HK7 HB7 hR9 hH

          go_wp2_with (first | (go_at_call 16; refine HS9.out.mono ?_; rintro _ w10 ⟨rfl, hb10⟩))
          go_ret
          exact ⟨rfl, HB.out _ _ (HB.out _ _ hB8.out hB9.out) hb10⟩
        · clear HD q1 q2 q3 r1 r2 r3 hb5
          go_wp2_with fail
          go_ret
          exact ⟨rfl, hB5.out⟩
end Go.Proofs.Ytjedkfohmedmaaa
