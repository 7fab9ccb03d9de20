/- RaceJoins: the walk, given what race.Races and RaceKnown tell. -/
import Derived.Test.YtmkhobaclpiceaaJ26
namespace Go.Proofs.Ytmkhobaclpiceaa
open Go.RowKit
set_option linter.unusedVariables false
attribute [local go_sem ↓] Go.wp_at_zero Go.wp_at_succ

def RacesOk : Prop := ∀ (es : List Ev) (n : Nat) (a : Option Addr) (c : Nat) (w : World), RowEv w a es → (∀ x ∈ es, x.ok) → es.length ≤ c → wrongZ es n = 0 →
  Calls Try.prog 8 #[.slice a es.length c, .int .i64 n] w fun r w' => ∃ v, r = .returned (.tuple #[v, .int .i64 0]) ∧ OwnP w.heap.size w' v (pairsL (raceP (evAt es)) es.length) ∧ Below w.heap.size w w'
def RacesBad : Prop := ∀ (es : List Ev) (n : Int) (a : Option Addr) (c : Nat) (w : World), RowEv w a es → (∀ x ∈ es, x.ok) → es.length ≤ 4611686018427387904 → es.length ≤ c → wrongZ es n ≠ 0 →
  Calls Try.prog 8 #[.slice a es.length c, .int .i64 n] w fun r w' => r = .returned (.tuple #[.slice none 0 0, .int .i64 (wrongZ es n)]) ∧ Below w.heap.size w w'
def KnownOk : Prop := ∀ w : World, Calls Try.prog 4 #[] w fun r w' => r = .returned (.bool true) ∧ Below w.heap.size w w'
/-- Rows of answers, all of one length. -/
def HdsN (w : World) (g n m : Nat) (f : Nat → Nat → Bool) : Prop := ∀ j, j < m → ∃ X, w.cell? ⟨g, j, none⟩ = some (.slice (some ⟨X, 0, none⟩) n n) ∧ ∀ i, i < n → w.cell? ⟨X, i, none⟩ = some (.bool (f j i))
theorem HdsN.below {w w' : World} {g n m : Nat} {f : Nat → Nat → Bool} (h : HdsN w g n m f) (hb : Below w.heap.size w w') : HdsN w' g n m f := fun j hj => by
  obtain ⟨X, h1, h2⟩ := h j hj
  exact ⟨X, (hb.cell (lt_of_cell h1)).trans h1, fun i hi => (hb.cell (lt_of_cell (h2 i hi))).trans (h2 i hi)⟩
theorem HdsN.of {base : Nat} {w : World} {v : Value} {L : List (Nat × List Bool)} {n m : Nat} {f : Nat → Nat → Bool} (hown : OwnH base w v (L.map rowV)) (hmap : L.map (·.2) = (List.range m).map fun j => (List.range n).map (f j)) (hin : RowsIn w L) :
    ∃ a cap, v = .slice a m cap ∧ m ≤ cap ∧ (0 < m → ∃ g, a = some ⟨g, 0, none⟩ ∧ HdsN w g n m f) := by
  have hL : L.length = m := by have := congrArg List.length hmap; simpa using this
  have hd : 0 < m → ∃ g cap, v = .slice (some ⟨g, 0, none⟩) m cap ∧ m ≤ cap ∧ HdsN w g n m f := by
    intro h0
    obtain ⟨g, cap, h1, h2, h3⟩ := hown.cell (List.getElem?_eq_getElem (show 0 < L.length by omega))
    refine ⟨g, cap, by rw [h1, hL], by omega, fun j hj => ?_⟩
    have hx := List.getElem?_eq_getElem (show j < L.length by omega)
    obtain ⟨g', cap', e1, e2, e3⟩ := hown.cell hx
    rw [h1] at e1
    cases e1
    have hx2 : (L[j]'(by omega)).2 = (List.range n).map (f j) := by
      have e := congrArg (·[j]?) hmap
      simp [hx, hj] at e
      exact e
    refine ⟨(L[j]'(by omega)).1, ?_, fun i hi => ?_⟩
    · rw [e3]
      simp [rowV, hx2]
    · rw [(hin _ (List.mem_of_getElem? hx)).cell, hx2]
      simp [hi]
  obtain ⟨h0, ⟨rfl, h2⟩ | ⟨g, cap, cur, rfl, hg, hh, hn, hm, hs, ht⟩⟩ := id hown
  · have : L.length = 0 := by simpa using h2
    exact ⟨none, 0, by rw [show m = 0 by omega], by omega, fun h => by omega⟩
  · rw [List.length_map, hL] at hn
    refine ⟨some ⟨g, 0, none⟩, cap, by rw [List.length_map, hL], hn, fun h => ?_⟩
    obtain ⟨g', cap', e1, e2, e3⟩ := hd h
    rw [List.length_map, hL] at e1
    cases e1
    exact ⟨g, rfl, e3⟩
/-- What the law reckons is what happens ahead. -/
theorem pair_joins (ev : Nat → Ev) (m i j : Nat) (hj : j < m) : hrB (pairR ev (pairsL (raceP ev) m)) j i = hbB ev j i := by
  rw [hbB_joins]
  refine hrB_congr (fun a b h1 h2 => ?_) i
  unfold pairR joinR
  congr 1
  rw [Bool.eq_iff_iff, decide_eq_true_eq, mem_pairsL]
  exact ⟨fun h => h.2.2, fun h => ⟨h1, by omega, h⟩⟩
/-- Without races events of unlike threads do not depend on one another. -/
theorem no_races {ev : Nat → Ev} {m i j : Nat} (h : pairsL (raceP ev) m = []) (hij : i < j) (hj : j < m) (ht : (ev i).th ≠ (ev j).th) : depB (ev i) (ev j) = false := by
  rw [Bool.eq_false_iff]
  intro hd
  have h1 := (hb_joins ev (j - i) i j (Nat.le_refl _)).1 (.dep hij hd)
  have key : ∀ a b, HR (joinR ev) a b → b < m → (ev a).th = (ev b).th := by
    intro a b hab
    have one : ∀ a b, a < b → b < m → joinR ev a b = true → (ev a).th = (ev b).th := by
      intro a b h1 h2 h3
      rcases Bool.or_eq_true_iff.1 h3 with h4 | h4
      · exact of_decide_eq_true h4
      · have : (a, b) ∈ pairsL (raceP ev) m := mem_pairsL.2 ⟨h1, h2, h4⟩
        rw [h] at this
        cases this
    induction hab with
    | dep h1 h2 => exact fun h3 => one _ _ h1 h3 h2
    | step h0 h1 h2 ih => exact fun h3 => (ih (by omega)).trans (one _ _ h1 h3 h2)
  exact ht (key i j h1 hj)

set_option maxRecDepth 100000 in
set_option maxHeartbeats 12800000 in
theorem raceJoins_of (HRO : RacesOk) (HRB : RacesBad) (HKN : KnownOk) (es : List Ev) (z : Int) (a : Option Addr) (c : Nat) (w : World) (hE : RowEv w a es) (hok : ∀ x ∈ es, x.ok) (hl : es.length ≤ 9223372036854775807) (hc : es.length ≤ c) :
    Calls Try.prog 5 #[.slice a es.length c, .int .i64 z] w fun r w' => r = .returned (.bool true) ∧ Below w.heap.size w w' := by
  have HB : Hid (∀ u v, Below w.heap.size w u → Below u.heap.size u v → Below w.heap.size w v) := fun u v h1 h2 => h1.trans (h2.mono h1.size)
  have HK := HKN w
  by_cases h40 : 40 < es.length
  · obtain ⟨m, hm⟩ : ∃ m, Hid (m = es.length) := ⟨_, (rfl : _ = es.length)⟩
    rw [← hm.out] at h40 hl hc ⊢
    clear hE hok HRO HRB HKN
    go_enter Try.func5, Try.ntmps5
    go_wp2_with (first | (go_at_call 4; refine HK.mono ?_; rintro _ w1 ⟨rfl, hb1⟩))
    go_ret
    exact ⟨rfl, hb1⟩
  by_cases hw : ¬ wrongZ es z = 0
  · obtain ⟨R, hR⟩ : ∃ R, Hid (R = wrongZ es z) := ⟨_, (rfl : _ = wrongZ _ _)⟩
    have HC1 : Hid (∀ u, Below w.heap.size w u → Calls Try.prog 8 #[.slice a es.length c, .int .i64 z] u fun r w' => r = .returned (.tuple #[.slice none 0 0, .int .i64 R]) ∧ Below u.heap.size u w') := fun u hu => by
      rw [hR.out]
      exact HRB es z a c u (hE.below hu) hok (by omega) hc hw
    have HC2 : Hid (∀ u, Below w.heap.size w u → Calls Try.prog 20 #[.slice a es.length c, .int .i64 z] u fun r w' => r = .returned (.tuple #[.slice none 0 0, .int .i64 R]) ∧ Below u.heap.size u w') := fun u hu => by
      rw [hR.out]
      exact clocks_bad a c z es u (hE.below hu) (by omega) hc hw
    rw [← hR.out] at hw
    obtain ⟨m, hm⟩ : ∃ m, Hid (m = es.length) := ⟨_, (rfl : _ = es.length)⟩
    rw [← hm.out] at h40 hl hc HC1 HC2 ⊢
    have hw2 : (R == 0) = false := by rw [beq_eq_false_iff_ne]; exact hw
    clear hE hok HRO HRB HKN
    go_enter Try.func5, Try.ntmps5
    go_wp2_with (first | (go_at_call 4; refine HK.mono ?_; rintro _ w1 ⟨rfl, hb1⟩) | (go_at_call 8; refine (HC1.out _ hb1).mono ?_; rintro _ w2 ⟨rfl, hb2⟩) | (go_at_call 20; refine (HC2.out _ (HB.out _ _ hb1 hb2)).mono ?_; rintro _ w3 ⟨rfl, hb3⟩))
    go_ret
    exact ⟨rfl, HB.out _ _ (HB.out _ _ hb1 hb2) hb3⟩
  have hw : wrongZ es z = 0 := Decidable.not_not.1 hw
  obtain ⟨h1, h2, h3, h4⟩ := wrongZ_ok hw
  obtain ⟨n, rfl⟩ : ∃ n : Nat, z = (n : Int) := ⟨z.toNat, by omega⟩
  have hn1 : 0 < n := by omega
  have hn16 : n ≤ 16 := by omega
  obtain ⟨ev, hev⟩ : ∃ ev, Hid (ev = evAt es) := ⟨_, (rfl : _ = evAt _)⟩
  obtain ⟨m, hm⟩ : ∃ m, Hid (m = es.length) := ⟨_, (rfl : _ = es.length)⟩
  obtain ⟨PS, hPS⟩ : ∃ PS, Hid (PS = pairsL (raceP ev) m) := ⟨_, (rfl : _ = pairsL _ _)⟩
  obtain ⟨N, hN⟩ : ∃ N, Hid (N = PS.length) := ⟨_, (rfl : _ = PS.length)⟩
  have hNb : N ≤ 1600 := by
    rw [hN.out, hPS.out]
    have h1 := pairsL_length (raceP ev) m
    have h2 := Nat.mul_le_mul (show m ≤ 40 by rw [hm.out]; omega) (show m ≤ 40 by rw [hm.out]; omega)
    omega
  have HE : Hid (RowEv w a es ∧ ∀ x ∈ es, x.ok) := ⟨hE, hok⟩
  have HC1 : Hid (∀ u, Below w.heap.size w u → Calls Try.prog 8 #[.slice a m c, .int .i64 n] u fun r w' => ∃ ap cp, r = .returned (.tuple #[.slice ap N cp, .int .i64 0]) ∧ N ≤ cp ∧ RowP w' ap PS ∧ Below u.heap.size u w') := fun u hu => by
    have := HRO es n a c u (hE.below hu) hok hc hw
    rw [← hm.out, ← hev.out, ← hPS.out] at this
    refine this.mono fun r w' ⟨v, d1, d2, d3⟩ => ?_
    obtain ⟨ap, cp, rfl, f2, f3⟩ := d2.row
    rw [← hN.out] at d1 f2
    exact ⟨ap, cp, d1, f2, f3, d3⟩
  have HC2 : Hid (∀ u, Below w.heap.size w u → Calls Try.prog 20 #[.slice a m c, .int .i64 n] u fun r w' => ∃ G M, r = .returned (.tuple #[.slice (some ⟨G, 0, none⟩) m m, .int .i64 0]) ∧ Tr w' (some ⟨G, 0, none⟩) a es n ∧ Below u.heap.size u w') := fun u hu => by
    rw [hm.out]
    refine (clocks_ok a c n es u (hE.below hu) hok hc hw).mono fun r w' ⟨G, M, e1, e2, e3⟩ => ⟨G, M, e1, ⟨e2.row (by omega), (hE.below hu).below e3, hn1, hn16, h3, hok, h4⟩, e3⟩
  have HC3 : Hid (∀ u ap cp, Below w.heap.size w u → N ≤ cp → RowP u ap PS → Calls Try.prog 21 #[.slice a m c, .slice ap N cp] u fun e w' => ∃ ah ch, e = .returned (.slice ah m ch) ∧ m ≤ ch ∧ (0 < m → ∃ g, ah = some ⟨g, 0, none⟩ ∧ HdsN w' g m m (hrB (pairR ev PS))) ∧ Below u.heap.size u w') := fun u ap cp hu hcp hr => by
    have := joined_any a c es u (hE.below hu) (by omega) hc PS ap cp hr (by rw [← hN.out]; exact hcp) (by rw [← hN.out]; omega)
    rw [← hm.out, ← hev.out, ← hN.out] at this
    refine this.mono fun r w' ⟨v, L, d1, d2, d3, d4, d5⟩ => ?_
    obtain ⟨ah, ch, rfl, f2, f3⟩ := HdsN.of (f := hrB (pairR ev PS)) d3 d2 d4
    exact ⟨ah, ch, d1, f2, f3, d5⟩
  rw [← hm.out] at h40 hc ⊢
  clear hE hok hl h1 h2 h3 h4 hw HRO HRB HKN
  go_enter Try.func5, Try.ntmps5
  go_wp2_with (first | (go_at_call 4; refine HK.mono ?_; rintro _ w1 ⟨rfl, hb1⟩) | (go_at_call 8; refine (HC1.out _ hb1).mono ?_; rintro _ w2 ⟨ap, cp, rfl, hcp, hrp, hb2⟩; refine Hid.out ?_))
  refine hidU ?_
  have hB2 : Hid (Below w.heap.size w w2) := HB.out _ _ hb1 hb2
  have HRP : Hid (RowP w2 ap PS) := hrp
  clear hrp hb1 hb2 HC1 HK
  go_wp2_with (first | (go_at_call 20; refine (HC2.out _ hB2.out).mono ?_; rintro _ w3 ⟨G, M, rfl, hT3, hb3⟩; refine Hid.out ?_))
  refine hidU ?_
  have hB3 : Hid (Below w.heap.size w w3) := HB.out _ _ hB2.out hb3
  have HRP3 : Hid (RowP w3 ap PS) := HRP.out.below hb3
  have HT3 : Hid (Tr w3 (some ⟨G, 0, none⟩) a es n) := hT3
  clear hT3 hb3 hB2 HRP HC2
  go_wp2_with (first | (go_at_call 21; refine (HC3.out _ ap cp hB3.out hcp HRP3.out).mono ?_; rintro _ w4 ⟨ah, ch, rfl, hch, hds, hb4⟩; refine Hid.out ?_))
  refine hidU ?_
  have hB4 : Hid (Below w.heap.size w w4) := HB.out _ _ hB3.out hb4
  have HT4 : Hid (Tr w4 (some ⟨G, 0, none⟩) a es n) := HT3.out.below hb4
  have HDS : Hid (0 < m → ∃ g, ah = some ⟨g, 0, none⟩ ∧ HdsN w4 g m m (hrB (pairR ev PS))) := hds
  clear hds hb4 HRP3 HT3 hB3 HC3
  go_wp2_with fail
  go_loopw [11] (fun t wr => ∃ j : Nat, j ≤ m ∧ t = .int .i64 j ∧ Hid (Below w4.heap.size w4 wr)) (fun t _ => m - (intOf t).toNat)
  case atStart => exact ⟨0, Nat.zero_le _, rfl, Below.refl _ _⟩
  case round =>
    obtain ⟨j, hj, rfl, hB0⟩ := hrel
    obtain ⟨wo, rfl⟩ : ∃ x, x = wr := ⟨wr, rfl⟩
    by_cases hjm : j < m
    · obtain ⟨gh, rfl, HDS2⟩ := HDS.out (by omega)
      have HD2 : Hid (HdsN w4 gh m m (hrB (pairR ev PS))) := HDS2
      clear HDS2 HDS
      obtain ⟨y, hy⟩ : ∃ x, es[j]? = some x := ⟨es[j]'(by rw [← hm.out]; exact hjm), by rw [List.getElem?_eq_getElem]⟩
      have HY : Hid (es[j]? = some y) := hy
      clear hy
      go_wp2_with fail
      go_loopw [12] (fun t wr => ∃ i : Nat, i ≤ j ∧ t = .int .i64 i ∧ Hid (Below w4.heap.size w4 wr)) (fun t _ => j - (intOf t).toNat)
      case atStart => exact ⟨0, Nat.zero_le _, rfl, hB0.out⟩
      case round =>
        obtain ⟨i, hi, rfl, hBi⟩ := hrel
        obtain ⟨wi, rfl⟩ : ∃ x, x = wr := ⟨wr, rfl⟩
        clear hB0
        by_cases hij : i < j
        · obtain ⟨x, hx⟩ : ∃ x, es[i]? = some x := ⟨es[i]'(by rw [← hm.out]; omega), by rw [List.getElem?_eq_getElem]⟩
          obtain ⟨H, hH⟩ : ∃ H, Hid (H = hbB ev j i) := ⟨_, (rfl : _ = hbB _ _ _)⟩
          have HA := ahead_ok es n i j (some ⟨G, 0, none⟩) a m c wi (HT4.out.below hBi.out) (by rw [← hm.out]; omega) (by rw [← hm.out]; omega) (by rw [hm.out]; exact Nat.le_refl _) (by rw [← hm.out]; exact hc)
          rw [← hm.out, ← hev.out, ← hH.out] at HA
          have HX : Hid (es[i]? = some x) := hx
          clear hx
          go_wp2_with (first | (go_at_call 22; refine HA.mono ?_; rintro _ w5 ⟨rfl, hb5⟩; refine Hid.out ?_))
          refine hidU ?_
          have hB5 : Hid (Below w4.heap.size w4 w5) := hBi.out.trans (hb5.mono hBi.out.size)
          clear hb5 HA hBi
          have hBw : Below w.heap.size w w5 := HB.out _ _ hB4.out hB5.out
          obtain ⟨ga, oa, rfl, hr1⟩ := (HE.out.1.below hBw).at i x HX.out
          obtain ⟨g2, o2, hg2, hr2⟩ := (HE.out.1.below hBw).at j y HY.out
          cases hg2
          obtain ⟨q1, q2, q3⟩ := range_cells hr1
          obtain ⟨r1, r2, r3⟩ := range_cells hr2
          have e1 : ev i = x := by rw [hev.out]; exact evAt_eq HX.out
          have e2 : ev j = y := by rw [hev.out]; exact evAt_eq HY.out
          obtain ⟨X0, k1, kk⟩ := (HD2.out.below hB5.out) j hjm
          have k2 := kk i (by omega)
          rw [hPS.out, pair_joins ev m i j hjm, ← hH.out] at k2
          have HNR : Hid (N = 0 → x.th ≠ y.th → depB x y = false) := fun h0 ht => by
            have e3 : pairsL (raceP ev) m = [] := by
              rw [← hPS.out]
              exact List.length_eq_zero_iff.1 (by rw [← hN.out]; exact h0)
            rw [← e1, ← e2]
            exact no_races e3 hij hjm (by rw [e1, e2]; exact ht)
          have HDE : Hid (∀ u, Calls Try.prog 23 #[.agg x.cells.toArray, .agg y.cells.toArray] u fun r w' => r = .returned (.bool (depB x y)) ∧ Below u.heap.size u w') := fun u => depends_any x y (HE.out.2 x (List.mem_of_getElem? HX.out)) (HE.out.2 y (List.mem_of_getElem? HY.out)) u
          clear hr1 hr2 e1 e2 kk hH hBw HX
          have i1 : (i : Int) < (m : Int) := by omega
          have i2 : (j : Int) < (m : Int) := by omega
          obtain ⟨xt, xk, xo⟩ := x
          obtain ⟨yt, yk, yo⟩ := y
          dsimp only at q1 q2 q3 r1 r2 r3 HNR
          simp only [Ev.cells] at HDE
          by_cases hz : N = 0
          · by_cases hth : xt = yt
            · have hth : Hid (xt = yt) := hth
              have hn0 : Hid (N = 0) := hz
              clear HDE HNR hz
              go_wp2_with fail
              have hS0a : Below w5.heap.size w5 w5.drew := Below.drew (Below.refl _ _)
              refine wp_region_held_drew (S := fun xS => Below w5.heap.size w5 xS) (by kernel_rfl) hS0a ?_
              obtain ⟨x0a, hx0⟩ : ∃ x, x = w5.drew := ⟨_, rfl⟩
              rw [← hx0] at hS0a  ⊢
              clear hx0
              intro _
              refine wpAnyH_take (i := 0) (oi := { dst := some 67, op := .move (.tmp 14), type := _, pos := _, after := _, guard := none }) (v := .int .i64 0) rfl (by kernel_rfl) (by kernel_rfl) (by kernel_rfl) (fun _ _ _ h => h) (Or.inl ⟨by rfl, ?_⟩) hS0a ?_
              · intro wS hSw
                go_simp
              simp only [Act.put, List.setIfInBounds_toArray, List.set_cons_zero, List.set_cons_succ]
              refine wpAnyH_take (i := 1) (oi := { dst := some 68, op := .binOp .neq 27 (.tmp 67) (.const (.int .i64 0)) 27, type := _, pos := _, after := _, guard := none }) (v := .bool false) rfl (by kernel_rfl) (by kernel_rfl) (by kernel_rfl) (fun _ _ _ h => h) (Or.inl ⟨by rfl, ?_⟩) hS0a ?_
              · intro wS hSw
                go_simp
              simp only [Act.put, List.setIfInBounds_toArray, List.set_cons_zero, List.set_cons_succ]
              refine wpAnyH_take (i := 2) (oi := { dst := some 69, op := .move (.tmp 68), type := _, pos := _, after := _, guard := none }) (v := .bool false) rfl (by kernel_rfl) (by kernel_rfl) (by kernel_rfl) (fun _ _ _ h => h) (Or.inl ⟨by rfl, ?_⟩) hS0a ?_
              · intro wS hSw
                go_simp
              simp only [Act.put, List.setIfInBounds_toArray, List.set_cons_zero, List.set_cons_succ]
              refine wpAnyH_take (i := 3) (oi := { dst := some 70, op := .move (.tmp 13), type := _, pos := _, after := _, guard := some (2, false) }) (v := .bool H) rfl (by kernel_rfl) (by kernel_rfl) (by kernel_rfl) (fun _ _ _ h => h) (Or.inl ⟨by rfl, ?_⟩) hS0a ?_
              · intro wS hSw
                go_simp
              simp only [Act.put, List.setIfInBounds_toArray, List.set_cons_zero, List.set_cons_succ]
              refine wpAnyH_take (i := 4) (oi := { dst := some 71, op := .move (.tmp 10), type := _, pos := _, after := _, guard := some (2, false) }) (v := .slice (some ⟨gh, 0, none⟩) m ch) rfl (by kernel_rfl) (by kernel_rfl) (by kernel_rfl) (fun _ _ _ h => h) (Or.inl ⟨by rfl, ?_⟩) hS0a ?_
              · intro wS hSw
                go_simp
              simp only [Act.put, List.setIfInBounds_toArray, List.set_cons_zero, List.set_cons_succ]
              refine wpAnyH_take (i := 5) (oi := { dst := some 72, op := .move (.tmp 11), type := _, pos := _, after := _, guard := some (2, false) }) (v := .int .i64 (j : Int)) rfl (by kernel_rfl) (by kernel_rfl) (by kernel_rfl) (fun _ _ _ h => h) (Or.inl ⟨by rfl, ?_⟩) hS0a ?_
              · intro wS hSw
                go_simp
              simp only [Act.put, List.setIfInBounds_toArray, List.set_cons_zero, List.set_cons_succ]
              refine wpAnyH_take (i := 6) (oi := { dst := some 73, op := .indexAddr 49 (.tmp 71) (.tmp 72), type := _, pos := _, after := _, guard := some (2, false) }) (v := .pointer (some ⟨gh, j, none⟩)) rfl (by kernel_rfl) (by kernel_rfl) (by kernel_rfl) (fun _ _ _ h => h) (Or.inl ⟨by rfl, ?_⟩) hS0a ?_
              · intro wS hSw
                go_simp
              simp only [Act.put, List.setIfInBounds_toArray, List.set_cons_zero, List.set_cons_succ]
              refine wpAnyH_take (i := 7) (oi := { dst := some 74, op := .load 53 (.tmp 73), type := _, pos := _, after := _, guard := some (2, false) }) (v := .slice (some ⟨X0, 0, none⟩) m m) rfl (by kernel_rfl) (by kernel_rfl) (by kernel_rfl) (fun _ _ _ h => h) (Or.inl ⟨by rfl, ?_⟩) hS0a ?_
              · intro wS hSw
                have z0 := (hSw.cell (lt_of_cell k1)).trans k1
                go_simp
              simp only [Act.put, List.setIfInBounds_toArray, List.set_cons_zero, List.set_cons_succ]
              refine wpAnyH_take (i := 8) (oi := { dst := some 75, op := .move (.tmp 12), type := _, pos := _, after := _, guard := some (2, false) }) (v := .int .i64 (i : Int)) rfl (by kernel_rfl) (by kernel_rfl) (by kernel_rfl) (fun _ _ _ h => h) (Or.inl ⟨by rfl, ?_⟩) hS0a ?_
              · intro wS hSw
                go_simp
              simp only [Act.put, List.setIfInBounds_toArray, List.set_cons_zero, List.set_cons_succ]
              refine wpAnyH_take (i := 9) (oi := { dst := some 76, op := .indexAddr 53 (.tmp 74) (.tmp 75), type := _, pos := _, after := _, guard := some (2, false) }) (v := .pointer (some ⟨X0, i, none⟩)) rfl (by kernel_rfl) (by kernel_rfl) (by kernel_rfl) (fun _ _ _ h => h) (Or.inl ⟨by rfl, ?_⟩) hS0a ?_
              · intro wS hSw
                go_simp
              simp only [Act.put, List.setIfInBounds_toArray, List.set_cons_zero, List.set_cons_succ]
              refine wpAnyH_take (i := 10) (oi := { dst := some 77, op := .load 4 (.tmp 76), type := _, pos := _, after := _, guard := some (2, false) }) (v := .bool H) rfl (by kernel_rfl) (by kernel_rfl) (by kernel_rfl) (fun _ _ _ h => h) (Or.inl ⟨by rfl, ?_⟩) hS0a ?_
              · intro wS hSw
                have z0 := (hSw.cell (lt_of_cell k2)).trans k2
                go_simp
              simp only [Act.put, List.setIfInBounds_toArray, List.set_cons_zero, List.set_cons_succ]
              refine wpAnyH_take (i := 11) (oi := { dst := some 78, op := .binOp .neq 4 (.tmp 70) (.tmp 77) 4, type := _, pos := _, after := _, guard := some (2, false) }) (v := .bool false) rfl (by kernel_rfl) (by kernel_rfl) (by kernel_rfl) (fun _ _ _ h => h) (Or.inl ⟨by rfl, ?_⟩) hS0a ?_
              · intro wS hSw
                (cases H <;> go_simp)
              simp only [Act.put, List.setIfInBounds_toArray, List.set_cons_zero, List.set_cons_succ]
              refine wpAnyH_take (i := 12) (oi := { dst := some 79, op := .pick (.tmp 69) (.const (.bool true)) (.tmp 78), type := _, pos := _, after := _, guard := none }) (v := .bool false) rfl (by kernel_rfl) (by kernel_rfl) (by kernel_rfl) (fun _ _ _ h => h) (Or.inl ⟨by rfl, ?_⟩) hS0a ?_
              · intro wS hSw
                go_simp
              simp only [Act.put, List.setIfInBounds_toArray, List.set_cons_zero, List.set_cons_succ]
              refine wpAnyH_take (i := 13) (oi := { dst := some 80, op := .move (.tmp 79), type := _, pos := _, after := _, guard := none }) (v := .bool false) rfl (by kernel_rfl) (by kernel_rfl) (by kernel_rfl) (fun _ _ _ h => h) (Or.inl ⟨by rfl, ?_⟩) hS0a ?_
              · intro wS hSw
                go_simp
              simp only [Act.put, List.setIfInBounds_toArray, List.set_cons_zero, List.set_cons_succ]
              refine wpAnyH_take (i := 14) (oi := { dst := some 81, op := .move (.tmp 6), type := _, pos := _, after := _, guard := some (13, false) }) (v := .slice ap N cp) rfl (by kernel_rfl) (by kernel_rfl) (by kernel_rfl) (fun _ _ _ h => h) (Or.inl ⟨by rfl, ?_⟩) hS0a ?_
              · intro wS hSw
                go_simp
              simp only [Act.put, List.setIfInBounds_toArray, List.set_cons_zero, List.set_cons_succ]
              refine wpAnyH_take (i := 15) (oi := { dst := some 82, op := .call { callee := .builtin .len, args := #[.tmp 81], argTypes := #[26] }, type := _, pos := _, after := _, guard := some (13, false) }) (v := .int .i64 (N : Int)) rfl (by kernel_rfl) (by kernel_rfl) (by kernel_rfl) (fun _ _ _ h => h) (Or.inl ⟨by rfl, ?_⟩) hS0a ?_
              · intro wS hSw
                go_simp
              simp only [Act.put, List.setIfInBounds_toArray, List.set_cons_zero, List.set_cons_succ]
              refine wpAnyH_take (i := 16) (oi := { dst := some 83, op := .binOp .eql 3 (.tmp 82) (.const (.int .i64 0)) 3, type := _, pos := _, after := _, guard := some (13, false) }) (v := .bool true) rfl (by kernel_rfl) (by kernel_rfl) (by kernel_rfl) (fun _ _ _ h => h) (Or.inl ⟨by rfl, ?_⟩) hS0a ?_
              · intro wS hSw
                (go_simp; try exact hn0.out)
              simp only [Act.put, List.setIfInBounds_toArray, List.set_cons_zero, List.set_cons_succ]
              refine wpAnyH_take (i := 17) (oi := { dst := some 84, op := .move (.tmp 83), type := _, pos := _, after := _, guard := some (13, false) }) (v := .bool true) rfl (by kernel_rfl) (by kernel_rfl) (by kernel_rfl) (fun _ _ _ h => h) (Or.inl ⟨by rfl, ?_⟩) hS0a ?_
              · intro wS hSw
                go_simp
              simp only [Act.put, List.setIfInBounds_toArray, List.set_cons_zero, List.set_cons_succ]
              refine wpAnyH_take (i := 18) (oi := { dst := some 85, op := .move (.tmp 0), type := _, pos := _, after := _, guard := some (17, true) }) (v := .slice (some ⟨ga, oa, none⟩) m c) rfl (by kernel_rfl) (by kernel_rfl) (by kernel_rfl) (fun _ _ _ h => h) (Or.inl ⟨by rfl, ?_⟩) hS0a ?_
              · intro wS hSw
                go_simp
              simp only [Act.put, List.setIfInBounds_toArray, List.set_cons_zero, List.set_cons_succ]
              refine wpAnyH_take (i := 19) (oi := { dst := some 86, op := .move (.tmp 12), type := _, pos := _, after := _, guard := some (17, true) }) (v := .int .i64 (i : Int)) rfl (by kernel_rfl) (by kernel_rfl) (by kernel_rfl) (fun _ _ _ h => h) (Or.inl ⟨by rfl, ?_⟩) hS0a ?_
              · intro wS hSw
                go_simp
              simp only [Act.put, List.setIfInBounds_toArray, List.set_cons_zero, List.set_cons_succ]
              refine wpAnyH_take (i := 20) (oi := { dst := some 87, op := .indexAddr 22 (.tmp 85) (.tmp 86), type := _, pos := _, after := _, guard := some (17, true) }) (v := .pointer (some ⟨ga, oa + i * 3, none⟩)) rfl (by kernel_rfl) (by kernel_rfl) (by kernel_rfl) (fun _ _ _ h => h) (Or.inl ⟨by rfl, ?_⟩) hS0a ?_
              · intro wS hSw
                go_simp
              simp only [Act.put, List.setIfInBounds_toArray, List.set_cons_zero, List.set_cons_succ]
              refine wpAnyH_take (i := 21) (oi := { dst := some 88, op := .fieldAddr 24 (.tmp 87) 0, type := _, pos := _, after := _, guard := some (17, true) }) (v := .pointer (some ⟨ga, oa + i * 3, none⟩)) rfl (by kernel_rfl) (by kernel_rfl) (by kernel_rfl) (fun _ _ _ h => h) (Or.inl ⟨by rfl, ?_⟩) hS0a ?_
              · intro wS hSw
                go_simp
              simp only [Act.put, List.setIfInBounds_toArray, List.set_cons_zero, List.set_cons_succ]
              refine wpAnyH_take (i := 22) (oi := { dst := some 89, op := .load 3 (.tmp 88), type := _, pos := _, after := _, guard := some (17, true) }) (v := .int .i64 xt) rfl (by kernel_rfl) (by kernel_rfl) (by kernel_rfl) (fun _ _ _ h => h) (Or.inl ⟨by rfl, ?_⟩) hS0a ?_
              · intro wS hSw
                have z0 := (hSw.cell (lt_of_cell q1)).trans q1
                go_simp
              simp only [Act.put, List.setIfInBounds_toArray, List.set_cons_zero, List.set_cons_succ]
              refine wpAnyH_take (i := 23) (oi := { dst := some 90, op := .move (.tmp 0), type := _, pos := _, after := _, guard := some (17, true) }) (v := .slice (some ⟨ga, oa, none⟩) m c) rfl (by kernel_rfl) (by kernel_rfl) (by kernel_rfl) (fun _ _ _ h => h) (Or.inl ⟨by rfl, ?_⟩) hS0a ?_
              · intro wS hSw
                go_simp
              simp only [Act.put, List.setIfInBounds_toArray, List.set_cons_zero, List.set_cons_succ]
              refine wpAnyH_take (i := 24) (oi := { dst := some 91, op := .move (.tmp 11), type := _, pos := _, after := _, guard := some (17, true) }) (v := .int .i64 (j : Int)) rfl (by kernel_rfl) (by kernel_rfl) (by kernel_rfl) (fun _ _ _ h => h) (Or.inl ⟨by rfl, ?_⟩) hS0a ?_
              · intro wS hSw
                go_simp
              simp only [Act.put, List.setIfInBounds_toArray, List.set_cons_zero, List.set_cons_succ]
              refine wpAnyH_take (i := 25) (oi := { dst := some 92, op := .indexAddr 22 (.tmp 90) (.tmp 91), type := _, pos := _, after := _, guard := some (17, true) }) (v := .pointer (some ⟨ga, oa + j * 3, none⟩)) rfl (by kernel_rfl) (by kernel_rfl) (by kernel_rfl) (fun _ _ _ h => h) (Or.inl ⟨by rfl, ?_⟩) hS0a ?_
              · intro wS hSw
                go_simp
              simp only [Act.put, List.setIfInBounds_toArray, List.set_cons_zero, List.set_cons_succ]
              refine wpAnyH_take (i := 26) (oi := { dst := some 93, op := .fieldAddr 24 (.tmp 92) 0, type := _, pos := _, after := _, guard := some (17, true) }) (v := .pointer (some ⟨ga, oa + j * 3, none⟩)) rfl (by kernel_rfl) (by kernel_rfl) (by kernel_rfl) (fun _ _ _ h => h) (Or.inl ⟨by rfl, ?_⟩) hS0a ?_
              · intro wS hSw
                go_simp
              simp only [Act.put, List.setIfInBounds_toArray, List.set_cons_zero, List.set_cons_succ]
              refine wpAnyH_take (i := 27) (oi := { dst := some 94, op := .load 3 (.tmp 93), type := _, pos := _, after := _, guard := some (17, true) }) (v := .int .i64 yt) rfl (by kernel_rfl) (by kernel_rfl) (by kernel_rfl) (fun _ _ _ h => h) (Or.inl ⟨by rfl, ?_⟩) hS0a ?_
              · intro wS hSw
                have z0 := (hSw.cell (lt_of_cell r1)).trans r1
                go_simp
              simp only [Act.put, List.setIfInBounds_toArray, List.set_cons_zero, List.set_cons_succ]
              refine wpAnyH_take (i := 28) (oi := { dst := some 95, op := .binOp .neq 3 (.tmp 89) (.tmp 94) 3, type := _, pos := _, after := _, guard := some (17, true) }) (v := .bool false) rfl (by kernel_rfl) (by kernel_rfl) (by kernel_rfl) (fun _ _ _ h => h) (Or.inl ⟨by rfl, ?_⟩) hS0a ?_
              · intro wS hSw
                (go_simp; try exact hth.out)
              simp only [Act.put, List.setIfInBounds_toArray, List.set_cons_zero, List.set_cons_succ]
              refine wpAnyH_take (i := 29) (oi := { dst := some 96, op := .pick (.tmp 84) (.tmp 95) (.const (.bool false)), type := _, pos := _, after := _, guard := some (13, false) }) (v := .bool false) rfl (by kernel_rfl) (by kernel_rfl) (by kernel_rfl) (fun _ _ _ h => h) (Or.inl ⟨by rfl, ?_⟩) hS0a ?_
              · intro wS hSw
                go_simp
              simp only [Act.put, List.setIfInBounds_toArray, List.set_cons_zero, List.set_cons_succ]
              refine wpAnyH_take (i := 30) (oi := { dst := some 97, op := .move (.tmp 96), type := _, pos := _, after := _, guard := some (13, false) }) (v := .bool false) rfl (by kernel_rfl) (by kernel_rfl) (by kernel_rfl) (fun _ _ _ h => h) (Or.inl ⟨by rfl, ?_⟩) hS0a ?_
              · intro wS hSw
                go_simp
              simp only [Act.put, List.setIfInBounds_toArray, List.set_cons_zero, List.set_cons_succ]
              refine wpAnyH_take (i := 31) (oi := { dst := some 98, op := .move (.tmp 0), type := _, pos := _, after := _, guard := some (30, true) }) (v := undef) rfl (by kernel_rfl) (by kernel_rfl) (by kernel_rfl) (fun _ _ _ h => h) (Or.inr ⟨by rfl, rfl⟩) hS0a ?_
              simp only [Act.put, List.setIfInBounds_toArray, List.set_cons_zero, List.set_cons_succ]
              refine wpAnyH_take (i := 32) (oi := { dst := some 99, op := .move (.tmp 12), type := _, pos := _, after := _, guard := some (30, true) }) (v := undef) rfl (by kernel_rfl) (by kernel_rfl) (by kernel_rfl) (fun _ _ _ h => h) (Or.inr ⟨by rfl, rfl⟩) hS0a ?_
              simp only [Act.put, List.setIfInBounds_toArray, List.set_cons_zero, List.set_cons_succ]
              refine wpAnyH_take (i := 33) (oi := { dst := some 100, op := .indexAddr 22 (.tmp 98) (.tmp 99), type := _, pos := _, after := _, guard := some (30, true) }) (v := undef) rfl (by kernel_rfl) (by kernel_rfl) (by kernel_rfl) (fun _ _ _ h => h) (Or.inr ⟨by rfl, rfl⟩) hS0a ?_
              simp only [Act.put, List.setIfInBounds_toArray, List.set_cons_zero, List.set_cons_succ]
              refine wpAnyH_take (i := 34) (oi := { dst := some 101, op := .load 24 (.tmp 100), type := _, pos := _, after := _, guard := some (30, true) }) (v := undef) rfl (by kernel_rfl) (by kernel_rfl) (by kernel_rfl) (fun _ _ _ h => h) (Or.inr ⟨by rfl, rfl⟩) hS0a ?_
              simp only [Act.put, List.setIfInBounds_toArray, List.set_cons_zero, List.set_cons_succ]
              refine wpAnyH_take (i := 35) (oi := { dst := some 102, op := .move (.tmp 0), type := _, pos := _, after := _, guard := some (30, true) }) (v := undef) rfl (by kernel_rfl) (by kernel_rfl) (by kernel_rfl) (fun _ _ _ h => h) (Or.inr ⟨by rfl, rfl⟩) hS0a ?_
              simp only [Act.put, List.setIfInBounds_toArray, List.set_cons_zero, List.set_cons_succ]
              refine wpAnyH_take (i := 36) (oi := { dst := some 103, op := .move (.tmp 11), type := _, pos := _, after := _, guard := some (30, true) }) (v := undef) rfl (by kernel_rfl) (by kernel_rfl) (by kernel_rfl) (fun _ _ _ h => h) (Or.inr ⟨by rfl, rfl⟩) hS0a ?_
              simp only [Act.put, List.setIfInBounds_toArray, List.set_cons_zero, List.set_cons_succ]
              refine wpAnyH_take (i := 37) (oi := { dst := some 104, op := .indexAddr 22 (.tmp 102) (.tmp 103), type := _, pos := _, after := _, guard := some (30, true) }) (v := undef) rfl (by kernel_rfl) (by kernel_rfl) (by kernel_rfl) (fun _ _ _ h => h) (Or.inr ⟨by rfl, rfl⟩) hS0a ?_
              simp only [Act.put, List.setIfInBounds_toArray, List.set_cons_zero, List.set_cons_succ]
              refine wpAnyH_take (i := 38) (oi := { dst := some 105, op := .load 24 (.tmp 104), type := _, pos := _, after := _, guard := some (30, true) }) (v := undef) rfl (by kernel_rfl) (by kernel_rfl) (by kernel_rfl) (fun _ _ _ h => h) (Or.inr ⟨by rfl, rfl⟩) hS0a ?_
              simp only [Act.put, List.setIfInBounds_toArray, List.set_cons_zero, List.set_cons_succ]
              refine wpAnyH_take (i := 39) (oi := { dst := some 106, op := .call { callee := .value (.func 23), args := #[.tmp 101, .tmp 105], argTypes := #[24, 24] }, type := _, pos := _, after := _, guard := some (30, true) }) (v := undef) rfl (by kernel_rfl) (by kernel_rfl) (by kernel_rfl) (fun _ _ _ h => h) (Or.inr ⟨by rfl, rfl⟩) hS0a ?_
              simp only [Act.put, List.setIfInBounds_toArray, List.set_cons_zero, List.set_cons_succ]
              refine wpAnyH_take (i := 40) (oi := { dst := some 107, op := .pick (.tmp 97) (.tmp 106) (.const (.bool false)), type := _, pos := _, after := _, guard := some (13, false) }) (v := .bool false) rfl (by kernel_rfl) (by kernel_rfl) (by kernel_rfl) (fun _ _ _ h => h) (Or.inl ⟨by rfl, ?_⟩) hS0a ?_
              · intro wS hSw
                go_simp
              simp only [Act.put, List.setIfInBounds_toArray, List.set_cons_zero, List.set_cons_succ]
              refine wpAnyH_take (i := 41) (oi := { dst := some 108, op := .pick (.tmp 80) (.const (.bool true)) (.tmp 107), type := _, pos := _, after := _, guard := none }) (v := .bool false) rfl (by kernel_rfl) (by kernel_rfl) (by kernel_rfl) (fun _ _ _ h => h) (Or.inl ⟨by rfl, ?_⟩) hS0a ?_
              · intro wS hSw
                go_simp
              simp only [Act.put, List.setIfInBounds_toArray, List.set_cons_zero, List.set_cons_succ]
              refine wpAnyH_done (by kernel_rfl) ?_ _
              have hBn : Hid (Below w4.heap.size w4 x0a) := hB5.out.trans (hS0a.mono hB5.out.size)
              clear q1 q2 q3 r1 r2 r3 k1 k2 hS0a
              go_wp2_with fail
              go_roundw
              case rel => exact ⟨i + 1, by omega, by go_num, hBn.out⟩
              case measure => simp [intOf]; omega
            · have hdf := HNR.out hz hth
              rw [hdf] at HDE
              have HD : Hid (∀ u, Calls Try.prog 23 #[.agg #[.int .i64 xt, .int .i64 xk, .int .i64 xo], .agg #[.int .i64 yt, .int .i64 yk, .int .i64 yo]] u fun r w' => r = .returned (.bool false) ∧ Below u.heap.size u w') := HDE.out
              have hth : Hid (¬ xt = yt) := hth
              have hn0 : Hid (N = 0) := hz
              clear HDE HNR hdf hz
              go_wp2_with fail
              have hS0b : Below w5.heap.size w5 w5.drew := Below.drew (Below.refl _ _)
              refine wp_region_held_drew (S := fun xS => Below w5.heap.size w5 xS) (by kernel_rfl) hS0b ?_
              obtain ⟨x0b, hx0⟩ : ∃ x, x = w5.drew := ⟨_, rfl⟩
              rw [← hx0] at hS0b  ⊢
              clear hx0
              intro _
              refine wpAnyH_take (i := 0) (oi := { dst := some 67, op := .move (.tmp 14), type := _, pos := _, after := _, guard := none }) (v := .int .i64 0) rfl (by kernel_rfl) (by kernel_rfl) (by kernel_rfl) (fun _ _ _ h => h) (Or.inl ⟨by rfl, ?_⟩) hS0b ?_
              · intro wS hSw
                go_simp
              simp only [Act.put, List.setIfInBounds_toArray, List.set_cons_zero, List.set_cons_succ]
              refine wpAnyH_take (i := 1) (oi := { dst := some 68, op := .binOp .neq 27 (.tmp 67) (.const (.int .i64 0)) 27, type := _, pos := _, after := _, guard := none }) (v := .bool false) rfl (by kernel_rfl) (by kernel_rfl) (by kernel_rfl) (fun _ _ _ h => h) (Or.inl ⟨by rfl, ?_⟩) hS0b ?_
              · intro wS hSw
                go_simp
              simp only [Act.put, List.setIfInBounds_toArray, List.set_cons_zero, List.set_cons_succ]
              refine wpAnyH_take (i := 2) (oi := { dst := some 69, op := .move (.tmp 68), type := _, pos := _, after := _, guard := none }) (v := .bool false) rfl (by kernel_rfl) (by kernel_rfl) (by kernel_rfl) (fun _ _ _ h => h) (Or.inl ⟨by rfl, ?_⟩) hS0b ?_
              · intro wS hSw
                go_simp
              simp only [Act.put, List.setIfInBounds_toArray, List.set_cons_zero, List.set_cons_succ]
              refine wpAnyH_take (i := 3) (oi := { dst := some 70, op := .move (.tmp 13), type := _, pos := _, after := _, guard := some (2, false) }) (v := .bool H) rfl (by kernel_rfl) (by kernel_rfl) (by kernel_rfl) (fun _ _ _ h => h) (Or.inl ⟨by rfl, ?_⟩) hS0b ?_
              · intro wS hSw
                go_simp
              simp only [Act.put, List.setIfInBounds_toArray, List.set_cons_zero, List.set_cons_succ]
              refine wpAnyH_take (i := 4) (oi := { dst := some 71, op := .move (.tmp 10), type := _, pos := _, after := _, guard := some (2, false) }) (v := .slice (some ⟨gh, 0, none⟩) m ch) rfl (by kernel_rfl) (by kernel_rfl) (by kernel_rfl) (fun _ _ _ h => h) (Or.inl ⟨by rfl, ?_⟩) hS0b ?_
              · intro wS hSw
                go_simp
              simp only [Act.put, List.setIfInBounds_toArray, List.set_cons_zero, List.set_cons_succ]
              refine wpAnyH_take (i := 5) (oi := { dst := some 72, op := .move (.tmp 11), type := _, pos := _, after := _, guard := some (2, false) }) (v := .int .i64 (j : Int)) rfl (by kernel_rfl) (by kernel_rfl) (by kernel_rfl) (fun _ _ _ h => h) (Or.inl ⟨by rfl, ?_⟩) hS0b ?_
              · intro wS hSw
                go_simp
              simp only [Act.put, List.setIfInBounds_toArray, List.set_cons_zero, List.set_cons_succ]
              refine wpAnyH_take (i := 6) (oi := { dst := some 73, op := .indexAddr 49 (.tmp 71) (.tmp 72), type := _, pos := _, after := _, guard := some (2, false) }) (v := .pointer (some ⟨gh, j, none⟩)) rfl (by kernel_rfl) (by kernel_rfl) (by kernel_rfl) (fun _ _ _ h => h) (Or.inl ⟨by rfl, ?_⟩) hS0b ?_
              · intro wS hSw
                go_simp
              simp only [Act.put, List.setIfInBounds_toArray, List.set_cons_zero, List.set_cons_succ]
              refine wpAnyH_take (i := 7) (oi := { dst := some 74, op := .load 53 (.tmp 73), type := _, pos := _, after := _, guard := some (2, false) }) (v := .slice (some ⟨X0, 0, none⟩) m m) rfl (by kernel_rfl) (by kernel_rfl) (by kernel_rfl) (fun _ _ _ h => h) (Or.inl ⟨by rfl, ?_⟩) hS0b ?_
              · intro wS hSw
                have z0 := (hSw.cell (lt_of_cell k1)).trans k1
                go_simp
              simp only [Act.put, List.setIfInBounds_toArray, List.set_cons_zero, List.set_cons_succ]
              refine wpAnyH_take (i := 8) (oi := { dst := some 75, op := .move (.tmp 12), type := _, pos := _, after := _, guard := some (2, false) }) (v := .int .i64 (i : Int)) rfl (by kernel_rfl) (by kernel_rfl) (by kernel_rfl) (fun _ _ _ h => h) (Or.inl ⟨by rfl, ?_⟩) hS0b ?_
              · intro wS hSw
                go_simp
              simp only [Act.put, List.setIfInBounds_toArray, List.set_cons_zero, List.set_cons_succ]
              refine wpAnyH_take (i := 9) (oi := { dst := some 76, op := .indexAddr 53 (.tmp 74) (.tmp 75), type := _, pos := _, after := _, guard := some (2, false) }) (v := .pointer (some ⟨X0, i, none⟩)) rfl (by kernel_rfl) (by kernel_rfl) (by kernel_rfl) (fun _ _ _ h => h) (Or.inl ⟨by rfl, ?_⟩) hS0b ?_
              · intro wS hSw
                go_simp
              simp only [Act.put, List.setIfInBounds_toArray, List.set_cons_zero, List.set_cons_succ]
              refine wpAnyH_take (i := 10) (oi := { dst := some 77, op := .load 4 (.tmp 76), type := _, pos := _, after := _, guard := some (2, false) }) (v := .bool H) rfl (by kernel_rfl) (by kernel_rfl) (by kernel_rfl) (fun _ _ _ h => h) (Or.inl ⟨by rfl, ?_⟩) hS0b ?_
              · intro wS hSw
                have z0 := (hSw.cell (lt_of_cell k2)).trans k2
                go_simp
              simp only [Act.put, List.setIfInBounds_toArray, List.set_cons_zero, List.set_cons_succ]
              refine wpAnyH_take (i := 11) (oi := { dst := some 78, op := .binOp .neq 4 (.tmp 70) (.tmp 77) 4, type := _, pos := _, after := _, guard := some (2, false) }) (v := .bool false) rfl (by kernel_rfl) (by kernel_rfl) (by kernel_rfl) (fun _ _ _ h => h) (Or.inl ⟨by rfl, ?_⟩) hS0b ?_
              · intro wS hSw
                (cases H <;> go_simp)
              simp only [Act.put, List.setIfInBounds_toArray, List.set_cons_zero, List.set_cons_succ]
              refine wpAnyH_take (i := 12) (oi := { dst := some 79, op := .pick (.tmp 69) (.const (.bool true)) (.tmp 78), type := _, pos := _, after := _, guard := none }) (v := .bool false) rfl (by kernel_rfl) (by kernel_rfl) (by kernel_rfl) (fun _ _ _ h => h) (Or.inl ⟨by rfl, ?_⟩) hS0b ?_
              · intro wS hSw
                go_simp
              simp only [Act.put, List.setIfInBounds_toArray, List.set_cons_zero, List.set_cons_succ]
              refine wpAnyH_take (i := 13) (oi := { dst := some 80, op := .move (.tmp 79), type := _, pos := _, after := _, guard := none }) (v := .bool false) rfl (by kernel_rfl) (by kernel_rfl) (by kernel_rfl) (fun _ _ _ h => h) (Or.inl ⟨by rfl, ?_⟩) hS0b ?_
              · intro wS hSw
                go_simp
              simp only [Act.put, List.setIfInBounds_toArray, List.set_cons_zero, List.set_cons_succ]
              refine wpAnyH_take (i := 14) (oi := { dst := some 81, op := .move (.tmp 6), type := _, pos := _, after := _, guard := some (13, false) }) (v := .slice ap N cp) rfl (by kernel_rfl) (by kernel_rfl) (by kernel_rfl) (fun _ _ _ h => h) (Or.inl ⟨by rfl, ?_⟩) hS0b ?_
              · intro wS hSw
                go_simp
              simp only [Act.put, List.setIfInBounds_toArray, List.set_cons_zero, List.set_cons_succ]
              refine wpAnyH_take (i := 15) (oi := { dst := some 82, op := .call { callee := .builtin .len, args := #[.tmp 81], argTypes := #[26] }, type := _, pos := _, after := _, guard := some (13, false) }) (v := .int .i64 (N : Int)) rfl (by kernel_rfl) (by kernel_rfl) (by kernel_rfl) (fun _ _ _ h => h) (Or.inl ⟨by rfl, ?_⟩) hS0b ?_
              · intro wS hSw
                go_simp
              simp only [Act.put, List.setIfInBounds_toArray, List.set_cons_zero, List.set_cons_succ]
              refine wpAnyH_take (i := 16) (oi := { dst := some 83, op := .binOp .eql 3 (.tmp 82) (.const (.int .i64 0)) 3, type := _, pos := _, after := _, guard := some (13, false) }) (v := .bool true) rfl (by kernel_rfl) (by kernel_rfl) (by kernel_rfl) (fun _ _ _ h => h) (Or.inl ⟨by rfl, ?_⟩) hS0b ?_
              · intro wS hSw
                (go_simp; try exact hn0.out)
              simp only [Act.put, List.setIfInBounds_toArray, List.set_cons_zero, List.set_cons_succ]
              refine wpAnyH_take (i := 17) (oi := { dst := some 84, op := .move (.tmp 83), type := _, pos := _, after := _, guard := some (13, false) }) (v := .bool true) rfl (by kernel_rfl) (by kernel_rfl) (by kernel_rfl) (fun _ _ _ h => h) (Or.inl ⟨by rfl, ?_⟩) hS0b ?_
              · intro wS hSw
                go_simp
              simp only [Act.put, List.setIfInBounds_toArray, List.set_cons_zero, List.set_cons_succ]
              refine wpAnyH_take (i := 18) (oi := { dst := some 85, op := .move (.tmp 0), type := _, pos := _, after := _, guard := some (17, true) }) (v := .slice (some ⟨ga, oa, none⟩) m c) rfl (by kernel_rfl) (by kernel_rfl) (by kernel_rfl) (fun _ _ _ h => h) (Or.inl ⟨by rfl, ?_⟩) hS0b ?_
              · intro wS hSw
                go_simp
              simp only [Act.put, List.setIfInBounds_toArray, List.set_cons_zero, List.set_cons_succ]
              refine wpAnyH_take (i := 19) (oi := { dst := some 86, op := .move (.tmp 12), type := _, pos := _, after := _, guard := some (17, true) }) (v := .int .i64 (i : Int)) rfl (by kernel_rfl) (by kernel_rfl) (by kernel_rfl) (fun _ _ _ h => h) (Or.inl ⟨by rfl, ?_⟩) hS0b ?_
              · intro wS hSw
                go_simp
              simp only [Act.put, List.setIfInBounds_toArray, List.set_cons_zero, List.set_cons_succ]
              refine wpAnyH_take (i := 20) (oi := { dst := some 87, op := .indexAddr 22 (.tmp 85) (.tmp 86), type := _, pos := _, after := _, guard := some (17, true) }) (v := .pointer (some ⟨ga, oa + i * 3, none⟩)) rfl (by kernel_rfl) (by kernel_rfl) (by kernel_rfl) (fun _ _ _ h => h) (Or.inl ⟨by rfl, ?_⟩) hS0b ?_
              · intro wS hSw
                go_simp
              simp only [Act.put, List.setIfInBounds_toArray, List.set_cons_zero, List.set_cons_succ]
              refine wpAnyH_take (i := 21) (oi := { dst := some 88, op := .fieldAddr 24 (.tmp 87) 0, type := _, pos := _, after := _, guard := some (17, true) }) (v := .pointer (some ⟨ga, oa + i * 3, none⟩)) rfl (by kernel_rfl) (by kernel_rfl) (by kernel_rfl) (fun _ _ _ h => h) (Or.inl ⟨by rfl, ?_⟩) hS0b ?_
              · intro wS hSw
                go_simp
              simp only [Act.put, List.setIfInBounds_toArray, List.set_cons_zero, List.set_cons_succ]
              refine wpAnyH_take (i := 22) (oi := { dst := some 89, op := .load 3 (.tmp 88), type := _, pos := _, after := _, guard := some (17, true) }) (v := .int .i64 xt) rfl (by kernel_rfl) (by kernel_rfl) (by kernel_rfl) (fun _ _ _ h => h) (Or.inl ⟨by rfl, ?_⟩) hS0b ?_
              · intro wS hSw
                have z0 := (hSw.cell (lt_of_cell q1)).trans q1
                go_simp
              simp only [Act.put, List.setIfInBounds_toArray, List.set_cons_zero, List.set_cons_succ]
              refine wpAnyH_take (i := 23) (oi := { dst := some 90, op := .move (.tmp 0), type := _, pos := _, after := _, guard := some (17, true) }) (v := .slice (some ⟨ga, oa, none⟩) m c) rfl (by kernel_rfl) (by kernel_rfl) (by kernel_rfl) (fun _ _ _ h => h) (Or.inl ⟨by rfl, ?_⟩) hS0b ?_
              · intro wS hSw
                go_simp
              simp only [Act.put, List.setIfInBounds_toArray, List.set_cons_zero, List.set_cons_succ]
              refine wpAnyH_take (i := 24) (oi := { dst := some 91, op := .move (.tmp 11), type := _, pos := _, after := _, guard := some (17, true) }) (v := .int .i64 (j : Int)) rfl (by kernel_rfl) (by kernel_rfl) (by kernel_rfl) (fun _ _ _ h => h) (Or.inl ⟨by rfl, ?_⟩) hS0b ?_
              · intro wS hSw
                go_simp
              simp only [Act.put, List.setIfInBounds_toArray, List.set_cons_zero, List.set_cons_succ]
              refine wpAnyH_take (i := 25) (oi := { dst := some 92, op := .indexAddr 22 (.tmp 90) (.tmp 91), type := _, pos := _, after := _, guard := some (17, true) }) (v := .pointer (some ⟨ga, oa + j * 3, none⟩)) rfl (by kernel_rfl) (by kernel_rfl) (by kernel_rfl) (fun _ _ _ h => h) (Or.inl ⟨by rfl, ?_⟩) hS0b ?_
              · intro wS hSw
                go_simp
              simp only [Act.put, List.setIfInBounds_toArray, List.set_cons_zero, List.set_cons_succ]
              refine wpAnyH_take (i := 26) (oi := { dst := some 93, op := .fieldAddr 24 (.tmp 92) 0, type := _, pos := _, after := _, guard := some (17, true) }) (v := .pointer (some ⟨ga, oa + j * 3, none⟩)) rfl (by kernel_rfl) (by kernel_rfl) (by kernel_rfl) (fun _ _ _ h => h) (Or.inl ⟨by rfl, ?_⟩) hS0b ?_
              · intro wS hSw
                go_simp
              simp only [Act.put, List.setIfInBounds_toArray, List.set_cons_zero, List.set_cons_succ]
              refine wpAnyH_take (i := 27) (oi := { dst := some 94, op := .load 3 (.tmp 93), type := _, pos := _, after := _, guard := some (17, true) }) (v := .int .i64 yt) rfl (by kernel_rfl) (by kernel_rfl) (by kernel_rfl) (fun _ _ _ h => h) (Or.inl ⟨by rfl, ?_⟩) hS0b ?_
              · intro wS hSw
                have z0 := (hSw.cell (lt_of_cell r1)).trans r1
                go_simp
              simp only [Act.put, List.setIfInBounds_toArray, List.set_cons_zero, List.set_cons_succ]
              refine wpAnyH_take (i := 28) (oi := { dst := some 95, op := .binOp .neq 3 (.tmp 89) (.tmp 94) 3, type := _, pos := _, after := _, guard := some (17, true) }) (v := .bool true) rfl (by kernel_rfl) (by kernel_rfl) (by kernel_rfl) (fun _ _ _ h => h) (Or.inl ⟨by rfl, ?_⟩) hS0b ?_
              · intro wS hSw
                (go_simp; try exact hth.out)
              simp only [Act.put, List.setIfInBounds_toArray, List.set_cons_zero, List.set_cons_succ]
              refine wpAnyH_take (i := 29) (oi := { dst := some 96, op := .pick (.tmp 84) (.tmp 95) (.const (.bool false)), type := _, pos := _, after := _, guard := some (13, false) }) (v := .bool true) rfl (by kernel_rfl) (by kernel_rfl) (by kernel_rfl) (fun _ _ _ h => h) (Or.inl ⟨by rfl, ?_⟩) hS0b ?_
              · intro wS hSw
                go_simp
              simp only [Act.put, List.setIfInBounds_toArray, List.set_cons_zero, List.set_cons_succ]
              refine wpAnyH_take (i := 30) (oi := { dst := some 97, op := .move (.tmp 96), type := _, pos := _, after := _, guard := some (13, false) }) (v := .bool true) rfl (by kernel_rfl) (by kernel_rfl) (by kernel_rfl) (fun _ _ _ h => h) (Or.inl ⟨by rfl, ?_⟩) hS0b ?_
              · intro wS hSw
                go_simp
              simp only [Act.put, List.setIfInBounds_toArray, List.set_cons_zero, List.set_cons_succ]
              refine wpAnyH_take (i := 31) (oi := { dst := some 98, op := .move (.tmp 0), type := _, pos := _, after := _, guard := some (30, true) }) (v := .slice (some ⟨ga, oa, none⟩) m c) rfl (by kernel_rfl) (by kernel_rfl) (by kernel_rfl) (fun _ _ _ h => h) (Or.inl ⟨by rfl, ?_⟩) hS0b ?_
              · intro wS hSw
                go_simp
              simp only [Act.put, List.setIfInBounds_toArray, List.set_cons_zero, List.set_cons_succ]
              refine wpAnyH_take (i := 32) (oi := { dst := some 99, op := .move (.tmp 12), type := _, pos := _, after := _, guard := some (30, true) }) (v := .int .i64 (i : Int)) rfl (by kernel_rfl) (by kernel_rfl) (by kernel_rfl) (fun _ _ _ h => h) (Or.inl ⟨by rfl, ?_⟩) hS0b ?_
              · intro wS hSw
                go_simp
              simp only [Act.put, List.setIfInBounds_toArray, List.set_cons_zero, List.set_cons_succ]
              refine wpAnyH_take (i := 33) (oi := { dst := some 100, op := .indexAddr 22 (.tmp 98) (.tmp 99), type := _, pos := _, after := _, guard := some (30, true) }) (v := .pointer (some ⟨ga, oa + i * 3, none⟩)) rfl (by kernel_rfl) (by kernel_rfl) (by kernel_rfl) (fun _ _ _ h => h) (Or.inl ⟨by rfl, ?_⟩) hS0b ?_
              · intro wS hSw
                go_simp
              simp only [Act.put, List.setIfInBounds_toArray, List.set_cons_zero, List.set_cons_succ]
              refine wpAnyH_take (i := 34) (oi := { dst := some 101, op := .load 24 (.tmp 100), type := _, pos := _, after := _, guard := some (30, true) }) (v := .agg #[.int .i64 xt, .int .i64 xk, .int .i64 xo]) rfl (by kernel_rfl) (by kernel_rfl) (by kernel_rfl) (fun _ _ _ h => h) (Or.inl ⟨by rfl, ?_⟩) hS0b ?_
              · intro wS hSw
                have z0 := (hSw.cell (lt_of_cell q1)).trans q1
                have z1 := (hSw.cell (lt_of_cell q2)).trans q2
                have z2 := (hSw.cell (lt_of_cell q3)).trans q3
                go_simp
              simp only [Act.put, List.setIfInBounds_toArray, List.set_cons_zero, List.set_cons_succ]
              refine wpAnyH_take (i := 35) (oi := { dst := some 102, op := .move (.tmp 0), type := _, pos := _, after := _, guard := some (30, true) }) (v := .slice (some ⟨ga, oa, none⟩) m c) rfl (by kernel_rfl) (by kernel_rfl) (by kernel_rfl) (fun _ _ _ h => h) (Or.inl ⟨by rfl, ?_⟩) hS0b ?_
              · intro wS hSw
                go_simp
              simp only [Act.put, List.setIfInBounds_toArray, List.set_cons_zero, List.set_cons_succ]
              refine wpAnyH_take (i := 36) (oi := { dst := some 103, op := .move (.tmp 11), type := _, pos := _, after := _, guard := some (30, true) }) (v := .int .i64 (j : Int)) rfl (by kernel_rfl) (by kernel_rfl) (by kernel_rfl) (fun _ _ _ h => h) (Or.inl ⟨by rfl, ?_⟩) hS0b ?_
              · intro wS hSw
                go_simp
              simp only [Act.put, List.setIfInBounds_toArray, List.set_cons_zero, List.set_cons_succ]
              refine wpAnyH_take (i := 37) (oi := { dst := some 104, op := .indexAddr 22 (.tmp 102) (.tmp 103), type := _, pos := _, after := _, guard := some (30, true) }) (v := .pointer (some ⟨ga, oa + j * 3, none⟩)) rfl (by kernel_rfl) (by kernel_rfl) (by kernel_rfl) (fun _ _ _ h => h) (Or.inl ⟨by rfl, ?_⟩) hS0b ?_
              · intro wS hSw
                go_simp
              simp only [Act.put, List.setIfInBounds_toArray, List.set_cons_zero, List.set_cons_succ]
              refine wpAnyH_take (i := 38) (oi := { dst := some 105, op := .load 24 (.tmp 104), type := _, pos := _, after := _, guard := some (30, true) }) (v := .agg #[.int .i64 yt, .int .i64 yk, .int .i64 yo]) rfl (by kernel_rfl) (by kernel_rfl) (by kernel_rfl) (fun _ _ _ h => h) (Or.inl ⟨by rfl, ?_⟩) hS0b ?_
              · intro wS hSw
                have z0 := (hSw.cell (lt_of_cell r1)).trans r1
                have z1 := (hSw.cell (lt_of_cell r2)).trans r2
                have z2 := (hSw.cell (lt_of_cell r3)).trans r3
                go_simp
              simp only [Act.put, List.setIfInBounds_toArray, List.set_cons_zero, List.set_cons_succ]
              refine wpAnyH_ready (rs := [39]) (by kernel_rfl) (by simp) ?_
              refine AllReadyH.cons (o := { dst := some 106, op := .call { callee := .value (.func 23), args := #[.tmp 101, .tmp 105], argTypes := #[24, 24] }, type := _, pos := _, after := _, guard := some (30, true) }) rfl (fun K hK => ?_) AllReadyH.nil
              rw [if_pos (by rfl)]
              have sv1b := hS0b.size
              go_wp2_with (go_at_call 23; refine (HD.out _).mono ?_; rintro e x1b ⟨rfl, hb1b⟩)
              have sz1b := hb1b.size
              have hS1b := hS0b.trans (hb1b.mono hS0b.size)
              refine hK.out _ _ hS1b (fun _ => ?_)
              clear hK K
              refine wpAnyH_take (i := 40) (oi := { dst := some 107, op := .pick (.tmp 97) (.tmp 106) (.const (.bool false)), type := _, pos := _, after := _, guard := some (13, false) }) (v := .bool false) rfl (by kernel_rfl) (by kernel_rfl) (by kernel_rfl) (fun _ _ _ h => h) (Or.inl ⟨by rfl, ?_⟩) hS1b ?_
              · intro wS hSw
                go_simp
              simp only [Act.put, List.setIfInBounds_toArray, List.set_cons_zero, List.set_cons_succ]
              refine wpAnyH_take (i := 41) (oi := { dst := some 108, op := .pick (.tmp 80) (.const (.bool true)) (.tmp 107), type := _, pos := _, after := _, guard := none }) (v := .bool false) rfl (by kernel_rfl) (by kernel_rfl) (by kernel_rfl) (fun _ _ _ h => h) (Or.inl ⟨by rfl, ?_⟩) hS1b ?_
              · intro wS hSw
                go_simp
              simp only [Act.put, List.setIfInBounds_toArray, List.set_cons_zero, List.set_cons_succ]
              refine wpAnyH_done (by kernel_rfl) ?_ _
              have hBn : Hid (Below w4.heap.size w4 x1b) := hB5.out.trans (hS1b.mono hB5.out.size)
              clear q1 q2 q3 r1 r2 r3 k1 k2 hS0b
              go_wp2_with fail
              go_roundw
              case rel => exact ⟨i + 1, by omega, by go_num, hBn.out⟩
              case measure => simp [intOf]; omega
          · have hn0 : Hid (¬ N = 0) := hz
            clear HDE HNR hz
            go_wp2_with fail
            have hS0c : Below w5.heap.size w5 w5.drew := Below.drew (Below.refl _ _)
            refine wp_region_held_drew (S := fun xS => Below w5.heap.size w5 xS) (by kernel_rfl) hS0c ?_
            obtain ⟨x0c, hx0⟩ : ∃ x, x = w5.drew := ⟨_, rfl⟩
            rw [← hx0] at hS0c  ⊢
            clear hx0
            intro _
            refine wpAnyH_take (i := 0) (oi := { dst := some 67, op := .move (.tmp 14), type := _, pos := _, after := _, guard := none }) (v := .int .i64 0) rfl (by kernel_rfl) (by kernel_rfl) (by kernel_rfl) (fun _ _ _ h => h) (Or.inl ⟨by rfl, ?_⟩) hS0c ?_
            · intro wS hSw
              go_simp
            simp only [Act.put, List.setIfInBounds_toArray, List.set_cons_zero, List.set_cons_succ]
            refine wpAnyH_take (i := 1) (oi := { dst := some 68, op := .binOp .neq 27 (.tmp 67) (.const (.int .i64 0)) 27, type := _, pos := _, after := _, guard := none }) (v := .bool false) rfl (by kernel_rfl) (by kernel_rfl) (by kernel_rfl) (fun _ _ _ h => h) (Or.inl ⟨by rfl, ?_⟩) hS0c ?_
            · intro wS hSw
              go_simp
            simp only [Act.put, List.setIfInBounds_toArray, List.set_cons_zero, List.set_cons_succ]
            refine wpAnyH_take (i := 2) (oi := { dst := some 69, op := .move (.tmp 68), type := _, pos := _, after := _, guard := none }) (v := .bool false) rfl (by kernel_rfl) (by kernel_rfl) (by kernel_rfl) (fun _ _ _ h => h) (Or.inl ⟨by rfl, ?_⟩) hS0c ?_
            · intro wS hSw
              go_simp
            simp only [Act.put, List.setIfInBounds_toArray, List.set_cons_zero, List.set_cons_succ]
            refine wpAnyH_take (i := 3) (oi := { dst := some 70, op := .move (.tmp 13), type := _, pos := _, after := _, guard := some (2, false) }) (v := .bool H) rfl (by kernel_rfl) (by kernel_rfl) (by kernel_rfl) (fun _ _ _ h => h) (Or.inl ⟨by rfl, ?_⟩) hS0c ?_
            · intro wS hSw
              go_simp
            simp only [Act.put, List.setIfInBounds_toArray, List.set_cons_zero, List.set_cons_succ]
            refine wpAnyH_take (i := 4) (oi := { dst := some 71, op := .move (.tmp 10), type := _, pos := _, after := _, guard := some (2, false) }) (v := .slice (some ⟨gh, 0, none⟩) m ch) rfl (by kernel_rfl) (by kernel_rfl) (by kernel_rfl) (fun _ _ _ h => h) (Or.inl ⟨by rfl, ?_⟩) hS0c ?_
            · intro wS hSw
              go_simp
            simp only [Act.put, List.setIfInBounds_toArray, List.set_cons_zero, List.set_cons_succ]
            refine wpAnyH_take (i := 5) (oi := { dst := some 72, op := .move (.tmp 11), type := _, pos := _, after := _, guard := some (2, false) }) (v := .int .i64 (j : Int)) rfl (by kernel_rfl) (by kernel_rfl) (by kernel_rfl) (fun _ _ _ h => h) (Or.inl ⟨by rfl, ?_⟩) hS0c ?_
            · intro wS hSw
              go_simp
            simp only [Act.put, List.setIfInBounds_toArray, List.set_cons_zero, List.set_cons_succ]
            refine wpAnyH_take (i := 6) (oi := { dst := some 73, op := .indexAddr 49 (.tmp 71) (.tmp 72), type := _, pos := _, after := _, guard := some (2, false) }) (v := .pointer (some ⟨gh, j, none⟩)) rfl (by kernel_rfl) (by kernel_rfl) (by kernel_rfl) (fun _ _ _ h => h) (Or.inl ⟨by rfl, ?_⟩) hS0c ?_
            · intro wS hSw
              go_simp
            simp only [Act.put, List.setIfInBounds_toArray, List.set_cons_zero, List.set_cons_succ]
            refine wpAnyH_take (i := 7) (oi := { dst := some 74, op := .load 53 (.tmp 73), type := _, pos := _, after := _, guard := some (2, false) }) (v := .slice (some ⟨X0, 0, none⟩) m m) rfl (by kernel_rfl) (by kernel_rfl) (by kernel_rfl) (fun _ _ _ h => h) (Or.inl ⟨by rfl, ?_⟩) hS0c ?_
            · intro wS hSw
              have z0 := (hSw.cell (lt_of_cell k1)).trans k1
              go_simp
            simp only [Act.put, List.setIfInBounds_toArray, List.set_cons_zero, List.set_cons_succ]
            refine wpAnyH_take (i := 8) (oi := { dst := some 75, op := .move (.tmp 12), type := _, pos := _, after := _, guard := some (2, false) }) (v := .int .i64 (i : Int)) rfl (by kernel_rfl) (by kernel_rfl) (by kernel_rfl) (fun _ _ _ h => h) (Or.inl ⟨by rfl, ?_⟩) hS0c ?_
            · intro wS hSw
              go_simp
            simp only [Act.put, List.setIfInBounds_toArray, List.set_cons_zero, List.set_cons_succ]
            refine wpAnyH_take (i := 9) (oi := { dst := some 76, op := .indexAddr 53 (.tmp 74) (.tmp 75), type := _, pos := _, after := _, guard := some (2, false) }) (v := .pointer (some ⟨X0, i, none⟩)) rfl (by kernel_rfl) (by kernel_rfl) (by kernel_rfl) (fun _ _ _ h => h) (Or.inl ⟨by rfl, ?_⟩) hS0c ?_
            · intro wS hSw
              go_simp
            simp only [Act.put, List.setIfInBounds_toArray, List.set_cons_zero, List.set_cons_succ]
            refine wpAnyH_take (i := 10) (oi := { dst := some 77, op := .load 4 (.tmp 76), type := _, pos := _, after := _, guard := some (2, false) }) (v := .bool H) rfl (by kernel_rfl) (by kernel_rfl) (by kernel_rfl) (fun _ _ _ h => h) (Or.inl ⟨by rfl, ?_⟩) hS0c ?_
            · intro wS hSw
              have z0 := (hSw.cell (lt_of_cell k2)).trans k2
              go_simp
            simp only [Act.put, List.setIfInBounds_toArray, List.set_cons_zero, List.set_cons_succ]
            refine wpAnyH_take (i := 11) (oi := { dst := some 78, op := .binOp .neq 4 (.tmp 70) (.tmp 77) 4, type := _, pos := _, after := _, guard := some (2, false) }) (v := .bool false) rfl (by kernel_rfl) (by kernel_rfl) (by kernel_rfl) (fun _ _ _ h => h) (Or.inl ⟨by rfl, ?_⟩) hS0c ?_
            · intro wS hSw
              (cases H <;> go_simp)
            simp only [Act.put, List.setIfInBounds_toArray, List.set_cons_zero, List.set_cons_succ]
            refine wpAnyH_take (i := 12) (oi := { dst := some 79, op := .pick (.tmp 69) (.const (.bool true)) (.tmp 78), type := _, pos := _, after := _, guard := none }) (v := .bool false) rfl (by kernel_rfl) (by kernel_rfl) (by kernel_rfl) (fun _ _ _ h => h) (Or.inl ⟨by rfl, ?_⟩) hS0c ?_
            · intro wS hSw
              go_simp
            simp only [Act.put, List.setIfInBounds_toArray, List.set_cons_zero, List.set_cons_succ]
            refine wpAnyH_take (i := 13) (oi := { dst := some 80, op := .move (.tmp 79), type := _, pos := _, after := _, guard := none }) (v := .bool false) rfl (by kernel_rfl) (by kernel_rfl) (by kernel_rfl) (fun _ _ _ h => h) (Or.inl ⟨by rfl, ?_⟩) hS0c ?_
            · intro wS hSw
              go_simp
            simp only [Act.put, List.setIfInBounds_toArray, List.set_cons_zero, List.set_cons_succ]
            refine wpAnyH_take (i := 14) (oi := { dst := some 81, op := .move (.tmp 6), type := _, pos := _, after := _, guard := some (13, false) }) (v := .slice ap N cp) rfl (by kernel_rfl) (by kernel_rfl) (by kernel_rfl) (fun _ _ _ h => h) (Or.inl ⟨by rfl, ?_⟩) hS0c ?_
            · intro wS hSw
              go_simp
            simp only [Act.put, List.setIfInBounds_toArray, List.set_cons_zero, List.set_cons_succ]
            refine wpAnyH_take (i := 15) (oi := { dst := some 82, op := .call { callee := .builtin .len, args := #[.tmp 81], argTypes := #[26] }, type := _, pos := _, after := _, guard := some (13, false) }) (v := .int .i64 (N : Int)) rfl (by kernel_rfl) (by kernel_rfl) (by kernel_rfl) (fun _ _ _ h => h) (Or.inl ⟨by rfl, ?_⟩) hS0c ?_
            · intro wS hSw
              go_simp
            simp only [Act.put, List.setIfInBounds_toArray, List.set_cons_zero, List.set_cons_succ]
            refine wpAnyH_take (i := 16) (oi := { dst := some 83, op := .binOp .eql 3 (.tmp 82) (.const (.int .i64 0)) 3, type := _, pos := _, after := _, guard := some (13, false) }) (v := .bool false) rfl (by kernel_rfl) (by kernel_rfl) (by kernel_rfl) (fun _ _ _ h => h) (Or.inl ⟨by rfl, ?_⟩) hS0c ?_
            · intro wS hSw
              (go_simp; try exact hn0.out)
            simp only [Act.put, List.setIfInBounds_toArray, List.set_cons_zero, List.set_cons_succ]
            refine wpAnyH_take (i := 17) (oi := { dst := some 84, op := .move (.tmp 83), type := _, pos := _, after := _, guard := some (13, false) }) (v := .bool false) rfl (by kernel_rfl) (by kernel_rfl) (by kernel_rfl) (fun _ _ _ h => h) (Or.inl ⟨by rfl, ?_⟩) hS0c ?_
            · intro wS hSw
              go_simp
            simp only [Act.put, List.setIfInBounds_toArray, List.set_cons_zero, List.set_cons_succ]
            refine wpAnyH_take (i := 18) (oi := { dst := some 85, op := .move (.tmp 0), type := _, pos := _, after := _, guard := some (17, true) }) (v := undef) rfl (by kernel_rfl) (by kernel_rfl) (by kernel_rfl) (fun _ _ _ h => h) (Or.inr ⟨by rfl, rfl⟩) hS0c ?_
            simp only [Act.put, List.setIfInBounds_toArray, List.set_cons_zero, List.set_cons_succ]
            refine wpAnyH_take (i := 19) (oi := { dst := some 86, op := .move (.tmp 12), type := _, pos := _, after := _, guard := some (17, true) }) (v := undef) rfl (by kernel_rfl) (by kernel_rfl) (by kernel_rfl) (fun _ _ _ h => h) (Or.inr ⟨by rfl, rfl⟩) hS0c ?_
            simp only [Act.put, List.setIfInBounds_toArray, List.set_cons_zero, List.set_cons_succ]
            refine wpAnyH_take (i := 20) (oi := { dst := some 87, op := .indexAddr 22 (.tmp 85) (.tmp 86), type := _, pos := _, after := _, guard := some (17, true) }) (v := undef) rfl (by kernel_rfl) (by kernel_rfl) (by kernel_rfl) (fun _ _ _ h => h) (Or.inr ⟨by rfl, rfl⟩) hS0c ?_
            simp only [Act.put, List.setIfInBounds_toArray, List.set_cons_zero, List.set_cons_succ]
            refine wpAnyH_take (i := 21) (oi := { dst := some 88, op := .fieldAddr 24 (.tmp 87) 0, type := _, pos := _, after := _, guard := some (17, true) }) (v := undef) rfl (by kernel_rfl) (by kernel_rfl) (by kernel_rfl) (fun _ _ _ h => h) (Or.inr ⟨by rfl, rfl⟩) hS0c ?_
            simp only [Act.put, List.setIfInBounds_toArray, List.set_cons_zero, List.set_cons_succ]
            refine wpAnyH_take (i := 22) (oi := { dst := some 89, op := .load 3 (.tmp 88), type := _, pos := _, after := _, guard := some (17, true) }) (v := undef) rfl (by kernel_rfl) (by kernel_rfl) (by kernel_rfl) (fun _ _ _ h => h) (Or.inr ⟨by rfl, rfl⟩) hS0c ?_
            simp only [Act.put, List.setIfInBounds_toArray, List.set_cons_zero, List.set_cons_succ]
            refine wpAnyH_take (i := 23) (oi := { dst := some 90, op := .move (.tmp 0), type := _, pos := _, after := _, guard := some (17, true) }) (v := undef) rfl (by kernel_rfl) (by kernel_rfl) (by kernel_rfl) (fun _ _ _ h => h) (Or.inr ⟨by rfl, rfl⟩) hS0c ?_
            simp only [Act.put, List.setIfInBounds_toArray, List.set_cons_zero, List.set_cons_succ]
            refine wpAnyH_take (i := 24) (oi := { dst := some 91, op := .move (.tmp 11), type := _, pos := _, after := _, guard := some (17, true) }) (v := undef) rfl (by kernel_rfl) (by kernel_rfl) (by kernel_rfl) (fun _ _ _ h => h) (Or.inr ⟨by rfl, rfl⟩) hS0c ?_
            simp only [Act.put, List.setIfInBounds_toArray, List.set_cons_zero, List.set_cons_succ]
            refine wpAnyH_take (i := 25) (oi := { dst := some 92, op := .indexAddr 22 (.tmp 90) (.tmp 91), type := _, pos := _, after := _, guard := some (17, true) }) (v := undef) rfl (by kernel_rfl) (by kernel_rfl) (by kernel_rfl) (fun _ _ _ h => h) (Or.inr ⟨by rfl, rfl⟩) hS0c ?_
            simp only [Act.put, List.setIfInBounds_toArray, List.set_cons_zero, List.set_cons_succ]
            refine wpAnyH_take (i := 26) (oi := { dst := some 93, op := .fieldAddr 24 (.tmp 92) 0, type := _, pos := _, after := _, guard := some (17, true) }) (v := undef) rfl (by kernel_rfl) (by kernel_rfl) (by kernel_rfl) (fun _ _ _ h => h) (Or.inr ⟨by rfl, rfl⟩) hS0c ?_
            simp only [Act.put, List.setIfInBounds_toArray, List.set_cons_zero, List.set_cons_succ]
            refine wpAnyH_take (i := 27) (oi := { dst := some 94, op := .load 3 (.tmp 93), type := _, pos := _, after := _, guard := some (17, true) }) (v := undef) rfl (by kernel_rfl) (by kernel_rfl) (by kernel_rfl) (fun _ _ _ h => h) (Or.inr ⟨by rfl, rfl⟩) hS0c ?_
            simp only [Act.put, List.setIfInBounds_toArray, List.set_cons_zero, List.set_cons_succ]
            refine wpAnyH_take (i := 28) (oi := { dst := some 95, op := .binOp .neq 3 (.tmp 89) (.tmp 94) 3, type := _, pos := _, after := _, guard := some (17, true) }) (v := undef) rfl (by kernel_rfl) (by kernel_rfl) (by kernel_rfl) (fun _ _ _ h => h) (Or.inr ⟨by rfl, rfl⟩) hS0c ?_
            simp only [Act.put, List.setIfInBounds_toArray, List.set_cons_zero, List.set_cons_succ]
            refine wpAnyH_take (i := 29) (oi := { dst := some 96, op := .pick (.tmp 84) (.tmp 95) (.const (.bool false)), type := _, pos := _, after := _, guard := some (13, false) }) (v := .bool false) rfl (by kernel_rfl) (by kernel_rfl) (by kernel_rfl) (fun _ _ _ h => h) (Or.inl ⟨by rfl, ?_⟩) hS0c ?_
            · intro wS hSw
              go_simp
            simp only [Act.put, List.setIfInBounds_toArray, List.set_cons_zero, List.set_cons_succ]
            refine wpAnyH_take (i := 30) (oi := { dst := some 97, op := .move (.tmp 96), type := _, pos := _, after := _, guard := some (13, false) }) (v := .bool false) rfl (by kernel_rfl) (by kernel_rfl) (by kernel_rfl) (fun _ _ _ h => h) (Or.inl ⟨by rfl, ?_⟩) hS0c ?_
            · intro wS hSw
              go_simp
            simp only [Act.put, List.setIfInBounds_toArray, List.set_cons_zero, List.set_cons_succ]
            refine wpAnyH_take (i := 31) (oi := { dst := some 98, op := .move (.tmp 0), type := _, pos := _, after := _, guard := some (30, true) }) (v := undef) rfl (by kernel_rfl) (by kernel_rfl) (by kernel_rfl) (fun _ _ _ h => h) (Or.inr ⟨by rfl, rfl⟩) hS0c ?_
            simp only [Act.put, List.setIfInBounds_toArray, List.set_cons_zero, List.set_cons_succ]
            refine wpAnyH_take (i := 32) (oi := { dst := some 99, op := .move (.tmp 12), type := _, pos := _, after := _, guard := some (30, true) }) (v := undef) rfl (by kernel_rfl) (by kernel_rfl) (by kernel_rfl) (fun _ _ _ h => h) (Or.inr ⟨by rfl, rfl⟩) hS0c ?_
            simp only [Act.put, List.setIfInBounds_toArray, List.set_cons_zero, List.set_cons_succ]
            refine wpAnyH_take (i := 33) (oi := { dst := some 100, op := .indexAddr 22 (.tmp 98) (.tmp 99), type := _, pos := _, after := _, guard := some (30, true) }) (v := undef) rfl (by kernel_rfl) (by kernel_rfl) (by kernel_rfl) (fun _ _ _ h => h) (Or.inr ⟨by rfl, rfl⟩) hS0c ?_
            simp only [Act.put, List.setIfInBounds_toArray, List.set_cons_zero, List.set_cons_succ]
            refine wpAnyH_take (i := 34) (oi := { dst := some 101, op := .load 24 (.tmp 100), type := _, pos := _, after := _, guard := some (30, true) }) (v := undef) rfl (by kernel_rfl) (by kernel_rfl) (by kernel_rfl) (fun _ _ _ h => h) (Or.inr ⟨by rfl, rfl⟩) hS0c ?_
            simp only [Act.put, List.setIfInBounds_toArray, List.set_cons_zero, List.set_cons_succ]
            refine wpAnyH_take (i := 35) (oi := { dst := some 102, op := .move (.tmp 0), type := _, pos := _, after := _, guard := some (30, true) }) (v := undef) rfl (by kernel_rfl) (by kernel_rfl) (by kernel_rfl) (fun _ _ _ h => h) (Or.inr ⟨by rfl, rfl⟩) hS0c ?_
            simp only [Act.put, List.setIfInBounds_toArray, List.set_cons_zero, List.set_cons_succ]
            refine wpAnyH_take (i := 36) (oi := { dst := some 103, op := .move (.tmp 11), type := _, pos := _, after := _, guard := some (30, true) }) (v := undef) rfl (by kernel_rfl) (by kernel_rfl) (by kernel_rfl) (fun _ _ _ h => h) (Or.inr ⟨by rfl, rfl⟩) hS0c ?_
            simp only [Act.put, List.setIfInBounds_toArray, List.set_cons_zero, List.set_cons_succ]
            refine wpAnyH_take (i := 37) (oi := { dst := some 104, op := .indexAddr 22 (.tmp 102) (.tmp 103), type := _, pos := _, after := _, guard := some (30, true) }) (v := undef) rfl (by kernel_rfl) (by kernel_rfl) (by kernel_rfl) (fun _ _ _ h => h) (Or.inr ⟨by rfl, rfl⟩) hS0c ?_
            simp only [Act.put, List.setIfInBounds_toArray, List.set_cons_zero, List.set_cons_succ]
            refine wpAnyH_take (i := 38) (oi := { dst := some 105, op := .load 24 (.tmp 104), type := _, pos := _, after := _, guard := some (30, true) }) (v := undef) rfl (by kernel_rfl) (by kernel_rfl) (by kernel_rfl) (fun _ _ _ h => h) (Or.inr ⟨by rfl, rfl⟩) hS0c ?_
            simp only [Act.put, List.setIfInBounds_toArray, List.set_cons_zero, List.set_cons_succ]
            refine wpAnyH_take (i := 39) (oi := { dst := some 106, op := .call { callee := .value (.func 23), args := #[.tmp 101, .tmp 105], argTypes := #[24, 24] }, type := _, pos := _, after := _, guard := some (30, true) }) (v := undef) rfl (by kernel_rfl) (by kernel_rfl) (by kernel_rfl) (fun _ _ _ h => h) (Or.inr ⟨by rfl, rfl⟩) hS0c ?_
            simp only [Act.put, List.setIfInBounds_toArray, List.set_cons_zero, List.set_cons_succ]
            refine wpAnyH_take (i := 40) (oi := { dst := some 107, op := .pick (.tmp 97) (.tmp 106) (.const (.bool false)), type := _, pos := _, after := _, guard := some (13, false) }) (v := .bool false) rfl (by kernel_rfl) (by kernel_rfl) (by kernel_rfl) (fun _ _ _ h => h) (Or.inl ⟨by rfl, ?_⟩) hS0c ?_
            · intro wS hSw
              go_simp
            simp only [Act.put, List.setIfInBounds_toArray, List.set_cons_zero, List.set_cons_succ]
            refine wpAnyH_take (i := 41) (oi := { dst := some 108, op := .pick (.tmp 80) (.const (.bool true)) (.tmp 107), type := _, pos := _, after := _, guard := none }) (v := .bool false) rfl (by kernel_rfl) (by kernel_rfl) (by kernel_rfl) (fun _ _ _ h => h) (Or.inl ⟨by rfl, ?_⟩) hS0c ?_
            · intro wS hSw
              go_simp
            simp only [Act.put, List.setIfInBounds_toArray, List.set_cons_zero, List.set_cons_succ]
            refine wpAnyH_done (by kernel_rfl) ?_ _
            have hBn : Hid (Below w4.heap.size w4 x0c) := hB5.out.trans (hS0c.mono hB5.out.size)
            clear q1 q2 q3 r1 r2 r3 k1 k2 hS0c
            go_wp2_with fail
            go_roundw
            case rel => exact ⟨i + 1, by omega, by go_num, hBn.out⟩
            case measure => simp [intOf]; omega
        · have hij2 : i = j := by omega
          go_wp2_with fail
          go_roundw
          case rel => exact ⟨j + 1, by omega, by go_num, hBi.out⟩
          case measure => simp [intOf]; omega
    · go_wp2_with fail
      go_ret
      exact ⟨rfl, HB.out _ _ hB4.out hB0.out⟩
end Go.Proofs.Ytmkhobaclpiceaa
