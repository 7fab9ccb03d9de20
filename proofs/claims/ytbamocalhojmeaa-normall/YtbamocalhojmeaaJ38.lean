/- norm.Equivalent. -/
import Derived.Test.YtbamocalhojmeaaJ37
namespace Go.Proofs.Ytbamocalhojmeaa
open Go.RowKit
set_option linter.unusedVariables false
attribute [local go_sem ↓] Go.wp_at_zero Go.wp_at_succ

set_option maxRecDepth 100000 in
set_option maxHeartbeats 3200000 in
theorem slicesEqual_any (xs ys : List Ev) (a1 a2 : Option Addr) (c1 c2 : Nat) (w : World) (h1 : RowEv w a1 xs) (h2 : RowEv w a2 ys) (hl1 : xs.length ≤ 4611686018427387904) (hl2 : ys.length ≤ 4611686018427387904) (hk1 : xs.length ≤ c1) (hk2 : ys.length ≤ c2) :
    Calls Try.prog 44 #[.slice a1 xs.length c1, .slice a2 ys.length c2] w fun r w' => r = .returned (.bool (sameEv xs ys)) ∧ Below w.heap.size w w' := by
  obtain ⟨R, hR⟩ : ∃ R, Hid (R = sameEv xs ys) := ⟨_, (rfl : _ = sameEv _ _)⟩
  rw [← hR.out]
  obtain ⟨n, hn⟩ : ∃ n, Hid (n = xs.length) := ⟨_, (rfl : xs.length = _)⟩
  obtain ⟨n2, hn2⟩ : ∃ n, Hid (n = ys.length) := ⟨_, (rfl : ys.length = _)⟩
  rw [← hn.out] at hl1 hk1 ⊢
  rw [← hn2.out] at hl2 hk2 ⊢
  have HR : Hid (RowEv w a1 xs ∧ RowEv w a2 ys) := ⟨h1, h2⟩
  clear h1 h2
  by_cases hnn : n = n2
  · subst hnn
    go_enter Try.func44, Try.ntmps44
    go_wp2_with fail
    go_loopw [13] (fun j wr => ∃ i : Nat, j = .int .i64 (i : Int) ∧ i ≤ n ∧ Hid (Below w.heap.size w wr ∧ ∀ (q : Nat) (x y : Ev), q < i → xs[q]? = some x → ys[q]? = some y → x = y)) (fun j _ => n - (intOf j).toNat)
    case atStart => exact ⟨0, rfl, by omega, Below.refl _ _, fun q x y hq => by omega⟩
    case round =>
      obtain ⟨i, rfl, hi, hX⟩ := hrel
      by_cases hc : i < n
      · obtain ⟨x, hx⟩ : ∃ k, xs[i]? = some k := ⟨xs[i]'(by rw [← hn.out]; exact hc), by rw [List.getElem?_eq_getElem]⟩
        obtain ⟨y, hy⟩ : ∃ k, ys[i]? = some k := ⟨ys[i]'(by rw [← hn2.out]; exact hc), by rw [List.getElem?_eq_getElem]⟩
        obtain ⟨hbw, hall⟩ := hX.out
        obtain ⟨g1, o1, rfl, hr1⟩ := (HR.out.1.below hbw).at i x hx
        obtain ⟨g2, o2, rfl, hr2⟩ := (HR.out.2.below hbw).at i y hy
        have HA : Hid (∀ (q : Nat) (x y : Ev), q < i → xs[q]? = some x → ys[q]? = some y → x = y) := hall
        have HXY : Hid (xs[i]? = some x ∧ ys[i]? = some y) := ⟨hx, hy⟩
        clear hX hall HR hx hy
        have hQ := fun u => eq23 x y u
        obtain ⟨q1, q2, q3⟩ := range_cells hr1
        obtain ⟨r1, r2, r3⟩ := range_cells hr2
        by_cases hM : x = y
        · rw [decide_eq_true hM] at hQ
          have hM2 : Hid (x = y) := hM
          clear hM
          obtain ⟨xt, xk, xo⟩ := x
          obtain ⟨yt, yk, yo⟩ := y
          dsimp only at q1 q2 q3 r1 r2 r3
          simp only [Ev.cells] at hQ
          clear hr1 hr2
          go_wp2_with fail
          go_quiet (fail)
          go_wp2_with fail
          go_roundw
          case rel =>
            refine ⟨i + 1, by go_num, by omega, below_drN hbw _, fun q u v hq hu hv => ?_⟩
            by_cases hqi : q = i
            · subst hqi
              rw [HXY.out.1] at hu
              rw [HXY.out.2] at hv
              cases hu
              cases hv
              exact hM2.out
            · exact HA.out q u v (by omega) hu hv
          case measure => simp [intOf]; omega
        · have hRf : R = false := by
            rw [hR.out]
            unfold sameEv
            refine decide_eq_false fun h => hM ?_
            have e1 := HXY.out.1
            rw [h, HXY.out.2] at e1
            exact (Option.some.inj e1).symm
          rw [decide_eq_false hM] at hQ
          clear hM
          obtain ⟨xt, xk, xo⟩ := x
          obtain ⟨yt, yk, yo⟩ := y
          dsimp only at q1 q2 q3 r1 r2 r3
          simp only [Ev.cells] at hQ
          clear hr1 hr2
          go_wp2_with fail
          go_quiet (fail)
          go_wp2_with fail
          go_ret
          exact ⟨by rw [hRf]; rfl, below_drN hbw _⟩
      · have hin : i = n := by omega
        obtain ⟨hbw, hall⟩ := hX.out
        have hRt : R = true := by
          rw [hR.out]
          unfold sameEv
          refine decide_eq_true (lists_eq (by rw [← hn.out, ← hn2.out]) fun q u v hu hv => hall q u v ?_ hu hv)
          have := (List.getElem?_eq_some_iff.1 hu).1
          rw [← hn.out] at this
          omega
        clear hX hall hin HR
        go_wp2
        go_ret
        exact ⟨by rw [hRt]; rfl, hbw⟩
  · have hne : ((n : Int) == (n2 : Int)) = false := by rw [beq_eq_false_iff_ne]; omega
    have hRf : R = false := by
      rw [hR.out]
      unfold sameEv
      exact decide_eq_false fun h => hnn (by rw [hn.out, hn2.out, h])
    clear hnn
    go_enter Try.func44, Try.ntmps44
    go_wp2_with fail
    go_ret
    exact ⟨by rw [hRf]; rfl, Below.refl _ _⟩
theorem OnE.next {cs : List Value} {L : List Ev} {k : Nat} {e : Ev} (h : OnE cs (L.take k)) (he : L[k]? = some e) (hl : k * 3 + 3 ≤ cs.length) : OnE (((cs.set (k * 3) (.int .i64 e.th)).set (k * 3 + 1) (.int .i64 e.kd)).set (k * 3 + 2) (.int .i64 e.ob)) (L.take (k + 1)) := by
  intro i x hx j v hv
  have hi : i < k + 1 := by
    have := (List.getElem?_eq_some_iff.1 hx).1
    rw [List.length_take] at this
    omega
  rw [List.getElem?_take_of_lt hi] at hx
  have hj : j < 3 := by
    have := (List.getElem?_eq_some_iff.1 hv).1
    simpa [Ev.cells] using this
  by_cases hk : i = k
  · subst hk
    rw [he] at hx
    cases hx
    rcases (show j = 0 ∨ j = 1 ∨ j = 2 by omega) with rfl | rfl | rfl
    · rw [List.getElem?_set_ne (by omega), List.getElem?_set_ne (by omega), Nat.add_zero, List.getElem?_set_self (by omega)]
      simpa [Ev.cells] using hv
    · rw [List.getElem?_set_ne (by omega), List.getElem?_set_self (by simp; omega)]
      simpa [Ev.cells] using hv
    · rw [List.getElem?_set_self (by simp; omega)]
      simpa [Ev.cells] using hv
  · rw [List.getElem?_set_ne (by omega), List.getElem?_set_ne (by omega), List.getElem?_set_ne (by omega)]
    exact h i x (by rw [List.getElem?_take_of_lt (by omega)]; exact hx) j v hv

set_option maxRecDepth 100000 in
set_option maxHeartbeats 6400000 in
theorem leastForm_ok (es : List Ev) (n : Int) (a : Option Addr) (c : Nat) (w : World) (hE : RowEv w a es) (hok : ∀ x ∈ es, x.ok) (hc : es.length ≤ c) (hw : wrongZ es n = 0) :
    Calls Try.prog 43 #[.slice a es.length c, .int .i64 n] w fun r w' => ∃ g, r = .returned (.tuple #[.slice (some ⟨g, 0, none⟩) es.length es.length, .int .i64 0]) ∧ RowEv w' (some ⟨g, 0, none⟩) (leastE es) ∧ Below w.heap.size w w' := by
  obtain ⟨i0, hi0, hz0, hz1, hz2⟩ := info_parts Try.info50
  have hlen := (wrongZ_ok hw).2.2.1
  have HL := hidU (least_s.less es n a c w hE hok (by omega) hc)
  rw [hw] at HL
  have e1 : leastZ es n = natI (leastL (evAt es) es.length) := by unfold leastZ; rw [if_pos hw]
  have hl0 : (leastL (evAt es) es.length).length = es.length := leastN_length _ _ _
  rw [e1, natI_length, hl0] at HL
  obtain ⟨m, hm⟩ : ∃ m, Hid (m = es.length) := ⟨_, (rfl : _ = es.length)⟩
  have HX : Hid (∀ k, k < m → ∃ x : Nat, (natI (leastL (evAt es) es.length))[k]? = some (x : Int) ∧ x < m ∧ (leastE es)[k]? = some (evAt es x)) := fun k hk => by
    have h1 := List.getElem?_eq_getElem (l := leastL (evAt es) es.length) (i := k) (by rw [hl0, ← hm.out]; exact hk)
    refine ⟨_, by unfold natI; rw [List.getElem?_map, h1]; rfl, ?_, ?_⟩
    · exact Nat.lt_of_lt_of_eq (leastN_lt es.length (Nat.le_refl _) _ (List.mem_of_getElem? h1)) hm.out.symm
    · unfold leastE evsAt
      rw [List.getElem?_map, h1]
      rfl
  obtain ⟨ZL, hZL⟩ : ∃ Z, Hid (Z = natI (leastL (evAt es) es.length)) := ⟨_, (rfl : _ = natI _)⟩
  rw [← hZL.out] at HL HX
  have HE := hidU hE
  have HLE : Hid ((leastE es).length = m) := by rw [hm.out]; exact leastE_length es
  rw [← hm.out] at HL hlen hc ⊢
  clear hE hok hw e1 hl0
  go_enter Try.func43, Try.ntmps43
  go_wp2_with (first | (go_at_call 10; refine HL.out.mono ?_; rintro e w1 ⟨ap, cp, rfl, hcp, hrow, hb⟩; have HB := hidU hb; have HROW := hidU hrow; clear hb hrow) | (at_make; refine wpList_make_full _ rfl (.tmp 21) (.tmp 21) 22 rfl w1.heap.size 50 i0 _ 3 Try.underlying22 hi0 hz0 hz1 .i64 .i64 _ _ m rfl rfl rfl rfl (by rw [hz2]; omega) (by unfold maxLen; omega) (Nat.le_refl _) ?_))
  intro w4 hown4 hgrow4
  obtain ⟨g, hg⟩ : ∃ g, Hid (g = w1.heap.size) := ⟨_, (rfl : _ = w1.heap.size)⟩
  have hwg : w.heap.size ≤ g := by rw [hg.out]; exact HB.out.size
  have HA4 : Hid (∃ cs, At 50 w4 g cs ∧ cs.length = m * 3 ∧ OnE cs ((leastE es).take 0) ∧ Below w1.heap.size w1 w4) := by
    obtain ⟨_, ⟨h, _⟩ | ⟨g2, cp2, cur, h, hg2, hh, _, _, hs, ht⟩⟩ := hown4
    · cases h
    · cases h
      refine ⟨cur.toList, by unfold At; rw [hg.out, hh], by simpa using hs, fun i e he => by simp at he, (Below.refl _ w1).grown hgrow4 (Nat.le_refl _) (by intro k hk; cases hk)⟩
  rw [← hg.out]
  clear hown4 hgrow4 HL
  go_wp2_with fail
  go_loopw [25] (fun t wr => ∃ k : Nat, k ≤ m ∧ t = .int .i64 k ∧ Hid (∃ cs, At 50 wr g cs ∧ cs.length = m * 3 ∧ OnE cs ((leastE es).take k) ∧ Below w1.heap.size w1 wr)) (fun t _ => m - (intOf t).toNat)
  case atStart => exact ⟨0, Nat.zero_le _, rfl, HA4.out⟩
  case round =>
    obtain ⟨k, hk, rfl, hA⟩ := hrel
    clear HA4
    obtain ⟨cs, hA1, hcl, hon, hbb⟩ := hA.out
    clear hA
    by_cases hkm : k < m
    · obtain ⟨x, hx, hxm, hle⟩ := HX.out k hkm
      have k1 : (k : Int) < (m : Int) := by omega
      have x1 : (x : Int) < (m : Int) := by omega
      obtain ⟨gb, ob, rfl, q1⟩ := (HROW.out.below hbb).at k _ hx
      obtain ⟨ga, oa, rfl, r1⟩ := ((HE.out.below HB.out).below hbb).at x (evAt es x) (evAt_get (by rw [← hm.out]; exact hxm))
      obtain ⟨s1, s2, s3⟩ := range_cells r1
      obtain ⟨E, hEE⟩ : ∃ E, Hid (E = evAt es x) := ⟨_, (rfl : _ = evAt es x)⟩
      rw [← hEE.out] at s1 s2 s3 hle
      obtain ⟨xt, xk, xo⟩ := E
      dsimp only at s1 s2 s3
      have HN : Hid (∃ cs', At 50 (((wr.setCell ⟨g, k * 3, none⟩ (.int .i64 xt)).setCell ⟨g, k * 3 + 1, none⟩ (.int .i64 xk)).setCell ⟨g, k * 3 + 2, none⟩ (.int .i64 xo)) g cs' ∧ cs'.length = m * 3 ∧ OnE cs' ((leastE es).take (k + 1)) ∧ Below w1.heap.size w1 (((wr.setCell ⟨g, k * 3, none⟩ (.int .i64 xt)).setCell ⟨g, k * 3 + 1, none⟩ (.int .i64 xk)).setCell ⟨g, k * 3 + 2, none⟩ (.int .i64 xo))) := by
        have hwg2 : w1.heap.size ≤ g := by rw [hg.out]; exact Nat.le_refl _
        refine ⟨_, ((hA1.set (k * 3) _).set (k * 3 + 1) _).set (k * 3 + 2) _, by simpa using hcl, ?_, ((hbb.setCell (p := ⟨g, k * 3, none⟩) hwg2 _).setCell (p := ⟨g, k * 3 + 1, none⟩) hwg2 _).setCell (p := ⟨g, k * 3 + 2, none⟩) hwg2 _⟩
        exact hon.next hle (by omega)
      obtain ⟨y0, d0⟩ : ∃ y, wr.cell? ⟨g, k * 3, none⟩ = some y := ⟨cs[k * 3]'(by omega), by rw [hA1.cell, List.getElem?_eq_getElem]⟩
      obtain ⟨y1, d1⟩ : ∃ y, wr.cell? ⟨g, k * 3 + 1, none⟩ = some y := ⟨cs[k * 3 + 1]'(by omega), by rw [hA1.cell, List.getElem?_eq_getElem]⟩
      obtain ⟨y2, d2⟩ : ∃ y, wr.cell? ⟨g, k * 3 + 2, none⟩ = some y := ⟨cs[k * 3 + 2]'(by omega), by rw [hA1.cell, List.getElem?_eq_getElem]⟩
      have f0 := hA1.frozen (k * 3)
      have f1 := hA1.frozen (k * 3 + 1)
      have f2 := hA1.frozen (k * 3 + 2)
      clear r1 hx hle hon
      go_wp2_with fail
      go_roundw
      case rel => exact ⟨k + 1, by omega, by go_num, HN.out⟩
      case measure => simp [intOf]; omega
    · have e : m = k := by omega
      subst e
      have HEND : Hid (RowEv wr (some ⟨g, 0, none⟩) (leastE es) ∧ Below w.heap.size w wr) := by
        rw [List.take_of_length_le (by rw [HLE.out]; exact Nat.le_refl _)] at hon
        exact ⟨hon.row hA1, HB.out.trans (hbb.mono HB.out.size)⟩
      clear hon hA1
      go_wp2_with fail
      go_ret2
      exact ⟨g, rfl, HEND.out⟩

set_option maxRecDepth 100000 in
set_option maxHeartbeats 1600000 in
theorem leastForm_bad (es : List Ev) (n : Int) (a : Option Addr) (c : Nat) (w : World) (hE : RowEv w a es) (hok : ∀ x ∈ es, x.ok) (hl : es.length ≤ 4611686018427387904) (hc : es.length ≤ c) (hw : wrongZ es n ≠ 0) :
    Calls Try.prog 43 #[.slice a es.length c, .int .i64 n] w fun r w' => r = .returned (.tuple #[.slice none 0 0, .int .i64 (wrongZ es n)]) ∧ Below w.heap.size w w' := by
  have HL := hidU (least_s.less es n a c w hE hok hl hc)
  obtain ⟨R, hR⟩ : ∃ R, Hid (R = wrongZ es n) := ⟨_, (rfl : _ = wrongZ es n)⟩
  rw [← hR.out] at HL hw ⊢
  have hw2 : (R == 0) = false := beq_eq_false_iff_ne.2 hw
  obtain ⟨m, hm⟩ : ∃ m, Hid (m = es.length) := ⟨_, (rfl : _ = es.length)⟩
  rw [← hm.out] at HL ⊢
  obtain ⟨q, hq⟩ : ∃ q, Hid (q = (leastZ es n).length) := ⟨_, (rfl : _ = (leastZ es n).length)⟩
  rw [← hq.out] at HL
  clear hE hok hl hc
  go_enter Try.func43, Try.ntmps43
  go_wp2_with (go_at_call 10; refine HL.out.mono ?_; rintro e w1 ⟨ap, cp, rfl, hcp, hrow, hb⟩; have HB := hidU hb; clear hb hrow)
  go_ret2
  exact ⟨rfl, HB.out⟩

set_option maxRecDepth 100000 in
set_option maxHeartbeats 3200000 in
theorem equivalent_t : EqT 14 := fun es fs n a b c d w hE hF hok hok2 hl hl2 hc hd => by
  unfold equivZ equivW
  by_cases hw : wrongZ es n = 0
  · have H1 := hidU (leastForm_ok es n a c w hE hok hc hw)
    by_cases hv : wrongZ fs n = 0
    · have H2 : Hid (∀ u, Below w.heap.size w u → Calls Try.prog 43 #[.slice b fs.length d, .int .i64 n] u fun r w' => ∃ g, r = .returned (.tuple #[.slice (some ⟨g, 0, none⟩) fs.length fs.length, .int .i64 0]) ∧ RowEv w' (some ⟨g, 0, none⟩) (leastE fs) ∧ Below u.heap.size u w') := fun u hu => leastForm_ok fs n b d u (hF.below hu) hok2 hd hv
      have H3 : Hid (∀ u g1 g2, RowEv u (some ⟨g1, 0, none⟩) (leastE es) → RowEv u (some ⟨g2, 0, none⟩) (leastE fs) → Calls Try.prog 44 #[.slice (some ⟨g1, 0, none⟩) es.length es.length, .slice (some ⟨g2, 0, none⟩) fs.length fs.length] u fun r w' => r = .returned (.bool (sameEv (leastE es) (leastE fs))) ∧ Below u.heap.size u w') := fun u g1 g2 h1 h2 => by
        have := slicesEqual_any (leastE es) (leastE fs) (some ⟨g1, 0, none⟩) (some ⟨g2, 0, none⟩) es.length fs.length u h1 h2 (by rw [leastE_length]; exact hl) (by rw [leastE_length]; exact hl2) (by rw [leastE_length]; exact Nat.le_refl _) (by rw [leastE_length]; exact Nat.le_refl _)
        rw [leastE_length, leastE_length] at this
        exact this
      rw [if_pos ⟨hw, hv⟩, if_pos hw, hv]
      obtain ⟨R, hR⟩ : ∃ R, Hid (R = sameEv (leastE es) (leastE fs)) := ⟨_, (rfl : _ = _)⟩
      rw [← hR.out] at H3 ⊢
      obtain ⟨p, hp⟩ : ∃ m, Hid (m = es.length) := ⟨_, (rfl : _ = es.length)⟩
      obtain ⟨q, hq⟩ : ∃ m, Hid (m = fs.length) := ⟨_, (rfl : _ = fs.length)⟩
      rw [← hp.out] at H1
      rw [← hq.out] at H2
      rw [← hp.out, ← hq.out] at H3 ⊢
      clear hE hF hok hok2 hl hl2 hc hd hw hv
      go_enter Try.func14, Try.ntmps14
      go_wp2_with (go_at_call 43; refine H1.out.mono ?_; rintro e w1 ⟨g1, rfl, k1, k2⟩; have K1 := hidU k1; have K2 := hidU k2; clear k1 k2; refine Hid.out ?_)
      refine hidU ?_
      go_wp2_with (first | (go_at_call 43; refine (H2.out w1 K2.out).mono ?_; rintro e w2 ⟨g2, rfl, k3, k4⟩; have K3 := hidU k3; have K4 := hidU k4; clear k3 k4) | (go_at_call 44; refine (H3.out w2 g1 g2 (K1.out.below K4.out) K3.out).mono ?_; rintro e w3 ⟨rfl, k5⟩; have K5 := hidU k5; clear k5))
      go_ret2
      exact ⟨rfl, (K2.out.trans (K4.out.mono K2.out.size)).trans (K5.out.mono (Nat.le_trans K2.out.size K4.out.size))⟩
    · have H2 : Hid (∀ u, Below w.heap.size w u → Calls Try.prog 43 #[.slice b fs.length d, .int .i64 n] u fun r w' => r = .returned (.tuple #[.slice none 0 0, .int .i64 (wrongZ fs n)]) ∧ Below u.heap.size u w') := fun u hu => leastForm_bad fs n b d u (hF.below hu) hok2 hl2 hd hv
      rw [if_neg (fun h => hv h.2), if_pos hw]
      obtain ⟨R, hR⟩ : ∃ R, Hid (R = wrongZ fs n) := ⟨_, (rfl : _ = wrongZ fs n)⟩
      rw [← hR.out] at H2 hv ⊢
      have hv2 : (R == 0) = false := beq_eq_false_iff_ne.2 hv
      obtain ⟨p, hp⟩ : ∃ m, Hid (m = es.length) := ⟨_, (rfl : _ = es.length)⟩
      obtain ⟨q, hq⟩ : ∃ m, Hid (m = fs.length) := ⟨_, (rfl : _ = fs.length)⟩
      rw [← hp.out] at H1
      rw [← hq.out] at H2
      rw [← hp.out, ← hq.out]
      clear hE hF hok hok2 hl hl2 hc hd hw
      go_enter Try.func14, Try.ntmps14
      go_wp2_with (go_at_call 43; refine H1.out.mono ?_; rintro e w1 ⟨g1, rfl, k1, k2⟩; have K2 := hidU k2; clear k1 k2; refine Hid.out ?_)
      refine hidU ?_
      go_wp2_with (go_at_call 43; refine (H2.out w1 K2.out).mono ?_; rintro e w2 ⟨rfl, k4⟩; have K4 := hidU k4; clear k4)
      go_ret2
      exact ⟨rfl, K2.out.trans (K4.out.mono K2.out.size)⟩
  · have H1 := hidU (leastForm_bad es n a c w hE hok hl hc hw)
    rw [if_neg (fun h => hw h.1), if_neg hw]
    obtain ⟨R, hR⟩ : ∃ R, Hid (R = wrongZ es n) := ⟨_, (rfl : _ = wrongZ es n)⟩
    rw [← hR.out] at H1 hw ⊢
    have hw2 : (R == 0) = false := beq_eq_false_iff_ne.2 hw
    obtain ⟨p, hp⟩ : ∃ m, Hid (m = es.length) := ⟨_, (rfl : _ = es.length)⟩
    obtain ⟨q, hq⟩ : ∃ m, Hid (m = fs.length) := ⟨_, (rfl : _ = fs.length)⟩
    rw [← hp.out] at H1
    rw [← hp.out, ← hq.out]
    clear hE hF hok hok2 hl hl2 hc hd
    go_enter Try.func14, Try.ntmps14
    go_wp2_with (go_at_call 43; refine H1.out.mono ?_; rintro e w1 ⟨rfl, k2⟩; have K2 := hidU k2; clear k2)
    go_ret2
    exact ⟨rfl, K2.out⟩
end Go.Proofs.Ytbamocalhojmeaa
