/- NormOne: the walk, given what norm tells. -/
import Derived.Test.YtbamocalhojmeaaJ28
namespace Go.Proofs.Ytbamocalhojmeaa
open Go.RowKit
set_option linter.unusedVariables false
attribute [local go_sem ↓] Go.wp_at_zero Go.wp_at_succ

def KnownOk : Prop := ∀ w : World, Calls Try.prog 4 #[] w fun r w' => r = .returned (.bool true) ∧ Below w.heap.size w w'
theorem OnE.len {cs : List Value} {es : List Ev} (h : OnE cs es) : es.length * 3 ≤ cs.length := by
  rcases Nat.eq_zero_or_pos es.length with h0 | h0
  · omega
  · have := h (es.length - 1) _ (List.getElem?_eq_getElem (by omega)) 2 _ rfl
    have := (List.getElem?_eq_some_iff.1 this).1
    omega

set_option maxRecDepth 100000 in
set_option maxHeartbeats 12800000 in
theorem normOne_of (HL : LeT 10) (HV : LvT 12) (HE : EqT 14) (HS : ScT 16) (HKN : KnownOk) (es : List Ev) (z at_ : Int) (a : Option Addr) (c : Nat) (w : World) (hE : RowEv w a es) (hok : ∀ x ∈ es, x.ok) (hl : es.length ≤ 9223372036854775807) (hc : es.length ≤ c) (ha1 : -9223372036854775808 ≤ at_) (ha2 : at_ < 9223372036854775808) :
    Calls Try.prog 5 #[.slice a es.length c, .int .i64 z, .int .i64 at_] w fun r w' => r = .returned (.bool true) ∧ Below w.heap.size w w' := by
  have HK := HKN w
  by_cases h60 : 60 < es.length
  · obtain ⟨m, hm⟩ : ∃ m, m = es.length := ⟨_, rfl⟩
    rw [← hm] at h60 hl ⊢
    clear hE hok hc hm
    have z1 : (60 : Int) < (m : Int) := by omega
    go_enter Try.func5, Try.ntmps5
    go_wp2_with (go_at_call 4; refine HK.mono ?_; rintro _ w1 ⟨rfl, hb1⟩)
    go_ret
    exact ⟨rfl, hb1⟩
  by_cases hw : wrongZ es z = 0
  · obtain ⟨h1, h2, -, -⟩ := wrongZ_ok hw
    obtain ⟨n, rfl⟩ : ∃ n : Nat, z = (n : Int) := ⟨z.toNat, by omega⟩
    obtain ⟨m, hm⟩ : ∃ m, es.length = m := ⟨_, rfl⟩
    rw [hm] at h60 hl hc ⊢
    have HF : Hid (Fit es n m) := ⟨hw, hok, hm⟩
    have HEv : Hid (∀ u, Below w.heap.size w u → RowEv u a es) := fun u hu => hE.below hu
    have HT : Hid (∀ u v, Below w.heap.size w u → Below u.heap.size u v → Below w.heap.size w v) := fun u v h1 h2 => h1.trans (h2.mono h1.size)
    have hm6 : m ≤ 60 := by omega
    have HKK : Hid (Calls Try.prog 4 #[] w fun r w' => r = .returned (.bool true) ∧ Below w.heap.size w w') := HK
    obtain ⟨K, hK⟩ : ∃ K, Hid (K = (levelsE (evAt es) m n).length) := ⟨_, (rfl : _ = List.length _)⟩
    have HV1 : Hid (∀ u, Below w.heap.size w u → Calls Try.prog 12 #[.slice a m c, .int .i64 n] u fun r w' => ∃ ap cp, r = .returned (.tuple #[.slice ap K cp, .int .i64 0]) ∧ K ≤ cp ∧ Hid (RowII w' ap ((levelsE (evAt es) m n).map natI)) ∧ Below u.heap.size u w') := fun u hu => by
      rw [hK.out]
      exact levels_c HV HF.out a c u (HEv.out u hu) hc
    have HF1 : Hid (∀ u ap cp, RowII u ap ((levelsE (evAt es) m n).map natI) → K ≤ cp → Calls Try.prog 26 #[.slice ap K cp] u fun r w' => ∃ ap cp, r = .returned (.slice ap m cp) ∧ m ≤ cp ∧ Hid (RowI w' ap (natI (levelsE (evAt es) m n).flatten)) ∧ Below u.heap.size u w') := fun u ap cp h1 h2 => by
      rw [hK.out] at h2 ⊢
      exact flat_c HF.out ap cp u h1 h2
    obtain ⟨LV, hLV⟩ : ∃ LV, Hid (LV = evsAt (evAt es) (levelsE (evAt es) m n).flatten) := ⟨_, (rfl : _ = evsAt _ _)⟩
    have HFL : Hid (Fit (leastE es) n m ∧ Fit LV n m ∧ leastE (leastE es) = leastE es ∧ leastE LV = leastE es) := by
      refine ⟨HF.out.least, ?_, least_own es, ?_⟩
      · rw [hLV.out]; exact HF.out.lin (levels_lin HF.out)
      · rw [hLV.out]
        have := least_levels (es := es) (n := n) (fun i hi => (wrongZ_ok hw).2.2.2 (evAt es i) (evAt_mem hi))
        rw [hm] at this
        exact this
    clear hE hok hw h1 h2 HK hm HKN
    go_enter Try.func5, Try.ntmps5
    go_wp2_with (go_at_call 4; refine HKK.out.mono ?_; rintro _ w1 ⟨rfl, hb1⟩; refine Hid.out ?_)
    refine hidU ?_
    have B1 : Hid (Below w.heap.size w w1) := hb1
    clear hb1 HKK
    go_wp2_with (go_at_call 10; refine (least_c HL HF.out a c w1 (HEv.out w1 B1.out) hc).mono ?_; rintro _ w2 ⟨x1, cx, rfl, hcx, hX, hb2⟩; refine Hid.out ?_)
    refine hidU ?_
    have B2 : Hid (Below w.heap.size w w2) := HT.out _ _ B1.out hb2
    clear hb2
    go_wp2_with (go_at_call 12; refine (HV1.out w2 B2.out).mono ?_; rintro _ w3 ⟨y1, cy, rfl, hcy, hY, hb3⟩; refine Hid.out ?_)
    refine hidU ?_
    have B3 : Hid (Below w.heap.size w w3) := HT.out _ _ B2.out hb3
    have HX3 : Hid (RowI w3 x1 (natI (leastL (evAt es) m))) := hX.out.below hb3
    clear hb3 hX HV1
    go_wp2_with (go_at_call 25; refine (at_c HS HF.out (lin_least (evAt es) m) a x1 c cx w3 (HEv.out w3 B3.out) HX3.out hc hcx).mono ?_; rintro _ w4 ⟨l1, cl, rfl, hcl, hL1, hb4⟩; refine Hid.out ?_)
    refine hidU ?_
    have B4 : Hid (Below w.heap.size w w4) := HT.out _ _ B3.out hb4
    have HY4 : Hid (RowII w4 y1 ((levelsE (evAt es) m n).map natI)) := hY.out.below hb4
    have HL4 : Hid (RowEv w4 l1 (leastE es)) := by
      have := hL1.out
      rw [least_at HF.out.len] at this
      exact this
    clear hb4 hY hL1 HX3
    go_wp2_with (go_at_call 26; refine (HF1.out w4 y1 cy HY4.out hcy).mono ?_; rintro _ w5 ⟨f1, cf, rfl, hcf, hF1, hb5⟩; refine Hid.out ?_)
    refine hidU ?_
    have B5 : Hid (Below w.heap.size w w5) := HT.out _ _ B4.out hb5
    have HL5 : Hid (RowEv w5 l1 (leastE es)) := HL4.out.below hb5
    clear hb5 HY4 HF1 HL4
    go_wp2_with (go_at_call 25; refine (at_c HS HF.out (levels_lin HF.out) a f1 c cf w5 (HEv.out w5 B5.out) hF1.out hc hcf).mono ?_; rintro _ w6 ⟨v1, cv, rfl, hcv, hV1, hb6⟩; refine Hid.out ?_)
    refine hidU ?_
    have B6 : Hid (Below w.heap.size w w6) := HT.out _ _ B5.out hb6
    have HL6 : Hid (RowEv w6 l1 (leastE es)) := HL5.out.below hb6
    have HV6 : Hid (RowEv w6 v1 LV) := by
      have := hV1.out
      rw [← hLV.out] at this
      exact this
    clear hb6 hF1 HL5 hV1
    have HE6 : Hid (Calls Try.prog 27 #[.slice a m c, .slice l1 m cl, .int .i64 n] w6 fun r w' => r = .returned (.bool true) ∧ Below w6.heap.size w6 w') := by
      have := equiv_c HE HF.out HFL.out.1 a l1 c cl w6 (HEv.out w6 B6.out) HL6.out hc hcl
      rw [HFL.out.2.2.1, decide_eq_true rfl] at this
      exact this
    go_wp2_with (go_at_call 27; refine HE6.out.mono ?_; rintro _ w7 ⟨rfl, hb7⟩; refine Hid.out ?_)
    refine hidU ?_
    have B7 : Hid (Below w.heap.size w w7) := HT.out _ _ B6.out hb7
    have HL7 : Hid (RowEv w7 l1 (leastE es)) := HL6.out.below hb7
    have HV7 : Hid (RowEv w7 v1 LV) := HV6.out.below hb7
    have HE7 : Hid (Calls Try.prog 27 #[.slice v1 m cv, .slice a m c, .int .i64 n] w7 fun r w' => r = .returned (.bool true) ∧ Below w7.heap.size w7 w') := by
      have := equiv_c HE HFL.out.2.1 HF.out v1 a cv c w7 HV7.out (HEv.out w7 B7.out) hcv hc
      rw [HFL.out.2.2.2, decide_eq_true rfl] at this
      exact this
    clear hb7 HL6 HV6 HE6
    go_wp2_with (go_at_call 27; refine HE7.out.mono ?_; rintro _ w8 ⟨rfl, hb8⟩; refine Hid.out ?_)
    refine hidU ?_
    have B8 : Hid (Below w.heap.size w w8) := HT.out _ _ B7.out hb8
    have HL8 : Hid (RowEv w8 l1 (leastE es)) := HL7.out.below hb8
    clear hb8 HL7 HV7 HE7
    go_wp2_with (go_at_call 10; refine (least_c HL HFL.out.1 l1 cl w8 HL8.out hcl).mono ?_; rintro _ w9 ⟨o1, co, rfl, hco, hO1, hb9⟩; refine Hid.out ?_)
    refine hidU ?_
    have B9 : Hid (Below w.heap.size w w9) := HT.out _ _ B8.out hb9
    have HL9 : Hid (RowEv w9 l1 (leastE es)) := HL8.out.below hb9
    clear hb9 HL8
    go_wp2_with (go_at_call 25; refine (at_c HS HFL.out.1 (lin_least (evAt (leastE es)) m) l1 o1 cl co w9 HL9.out hO1.out hcl hco).mono ?_; rintro _ w10 ⟨t1, ct, rfl, hct, hT1, hb10⟩; refine Hid.out ?_)
    refine hidU ?_
    have B10 : Hid (Below w.heap.size w w10) := HT.out _ _ B9.out hb10
    have HL10 : Hid (RowEv w10 l1 (leastE es)) := HL9.out.below hb10
    have HT10 : Hid (RowEv w10 t1 (leastE es)) := by
      have := hT1.out
      rw [least_at HFL.out.1.len, HFL.out.2.2.1] at this
      exact this
    have HS10 : Hid (Calls Try.prog 28 #[.slice t1 m ct, .slice l1 m cl] w10 fun r w' => r = .returned (.bool true) ∧ Below w10.heap.size w10 w') := by
      have := same_c HFL.out.1.len HFL.out.1.len (by omega) t1 l1 ct cl w10 HT10.out HL10.out hct hcl
      rw [decide_eq_true rfl] at this
      exact this
    clear hb10 HL9 hO1 hT1 HT10
    go_wp2_with (go_at_call 28; refine HS10.out.mono ?_; rintro _ w11 ⟨rfl, hb11⟩; refine Hid.out ?_)
    refine hidU ?_
    have B11 : Hid (Below w.heap.size w w11) := HT.out _ _ B10.out hb11
    have HL11 : Hid (RowEv w11 l1 (leastE es)) := HL10.out.below hb11
    clear hb11 HL10 HS10
    by_cases hm2 : m < 2
    · have z1 : (m : Int) < 2 := by omega
      go_wp2_with fail
      go_ret
      exact ⟨rfl, B11.out⟩
    have z1 : ¬ (m : Int) < 2 := by omega
    have hwm : IntKind.i64.wrap ((m : Int) - 1) = (m : Int) - 1 := by rw [IntKind.wrap_i64]; omega
    have HP : Hid (∀ u, Calls Try.prog 29 #[.int .i64 at_, .int .i64 ((m : Int) - 1)] u fun e w' => ∃ p : Nat, e = .returned (.int .i64 p) ∧ p + 1 < m ∧ w' = u) := fun u =>
      (pick_any at_ ((m : Int) - 1) u ha1 ha2 (by omega)).mono fun e w' ⟨⟨p, d1, d2, d3⟩, d4⟩ => ⟨p, d1, by have := d2 (by omega); omega, d4⟩
    go_wp2_with (go_at_call 29; refine (HP.out _).mono ?_; rintro _ w12 ⟨p, rfl, hp, hww⟩; obtain rfl : w11 = w12 := hww.symm; clear hww; refine Hid.out ?_)
    refine hidU ?_
    obtain ⟨x, hx⟩ : ∃ x, es[p]? = some x := ⟨es[p]'(by rw [HF.out.len]; omega), by rw [List.getElem?_eq_getElem]⟩
    obtain ⟨p1, hp1⟩ : ∃ p1, Hid (p1 = p + 1) := ⟨_, (rfl : _ = p + 1)⟩
    have hp2 : p < m := by omega
    have hp3 : p1 < m := by rw [hp1.out]; exact hp
    have hwp : IntKind.i64.wrap ((p : Int) + 1) = (p1 : Int) := by rw [hp1.out, IntKind.wrap_i64]; omega
    obtain ⟨y, hy⟩ : ∃ x, es[p1]? = some x := ⟨es[p1]'(by rw [HF.out.len]; exact hp3), by rw [List.getElem?_eq_getElem]⟩
    obtain ⟨ga, oa, rfl, -⟩ := (HEv.out w11 B11.out).at p x hx
    have hgal : Hid (ga < w.heap.size) := (HEv.out w (Below.refl _ _)).lt (by rw [HF.out.len]; omega) ga oa rfl
    have hex : Hid (evAt es p = x ∧ evAt es p1 = y ∧ evAt es (p + 1) = y) := ⟨evAt_eq hx, evAt_eq hy, by rw [← hp1.out]; exact evAt_eq hy⟩
    have HQ : Hid (∀ u, Below w.heap.size w u → (u.cell? ⟨ga, oa + p * 3, none⟩ = some (.int .i64 x.th) ∧ u.cell? ⟨ga, oa + p * 3 + 1, none⟩ = some (.int .i64 x.kd) ∧ u.cell? ⟨ga, oa + p * 3 + 2, none⟩ = some (.int .i64 x.ob)) ∧ (u.cell? ⟨ga, oa + p1 * 3, none⟩ = some (.int .i64 y.th) ∧ u.cell? ⟨ga, oa + p1 * 3 + 1, none⟩ = some (.int .i64 y.kd) ∧ u.cell? ⟨ga, oa + p1 * 3 + 2, none⟩ = some (.int .i64 y.ob))) := fun u hu => by
      obtain ⟨g3, o3, hg3, k1⟩ := (HEv.out u hu).at p x hx
      cases hg3
      obtain ⟨g3, o3, hg3, k2⟩ := (HEv.out u hu).at p1 y hy
      cases hg3
      exact ⟨range_cells k1, range_cells k2⟩
    have HXY : Hid (x ∈ es ∧ y ∈ es) := ⟨List.mem_of_getElem? hx, List.mem_of_getElem? hy⟩
    have HCE : Hid (Calls Try.prog 30 #[.slice (some ⟨ga, oa, none⟩) m c] w11 fun e w' => ∃ gm cm cs, e = .returned (.slice (some ⟨gm, 0, none⟩) m cm) ∧ w11.heap.size ≤ gm ∧ At 50 w' gm cs ∧ OnE cs es ∧ m ≤ cm ∧ m * 3 ≤ cs.length ∧ Below w11.heap.size w11 w') := by
      have := copyEvents_any ga oa c es w11 (HEv.out w11 B11.out) (by rw [HF.out.len]; omega)
      rw [HF.out.len] at this
      refine this.mono fun e w' ⟨v, d1, d2, d3⟩ => ?_
      rw [← HF.out.len] at d2
      obtain ⟨g, cap, cs, f1, f2, f3, f4, f5, f6⟩ := own_events d2 (by rw [HF.out.len]; omega)
      rw [HF.out.len] at f1 f5 f6
      exact ⟨g, cap, cs, by rw [d1, f1], f2, f3, f4, f5, f6, d3⟩
    clear hx hy hwm HP z1
    go_wp2_with (go_at_call 30; refine HCE.out.mono ?_; rintro _ w13 ⟨gm, cm, cs, rfl, hgm, hA13, hO13, hcm, hcl3, hb13⟩; refine Hid.out ?_)
    refine hidU ?_
    have B13 : Hid (Below w.heap.size w w13) := HT.out _ _ B11.out hb13
    have HM6 : Hid (At 50 w13 gm cs) := hA13
    have HO6 : Hid (OnE cs es) := hO13
    have HL13 : Hid (RowEv w13 l1 (leastE es)) := HL11.out.below hb13
    have hgmw : Hid (w.heap.size ≤ gm ∧ w11.heap.size ≤ gm) := ⟨Nat.le_trans B11.out.size hgm, hgm⟩
    obtain ⟨⟨q1, q2, q3⟩, r1, r2, r3⟩ := HQ.out w13 B13.out
    obtain ⟨xt, xk, xo⟩ := x
    obtain ⟨yt, yk, yo⟩ := y
    dsimp only at q1 q2 q3 r1 r2 r3
    have HB13 : Hid (Below w11.heap.size w11 w13) := hb13
    clear hA13 hO13 HCE hb13 hgm
    go_wp2_with fail
    have hS0a : Below w13.heap.size w13 w13.drew := Below.drew (Below.refl _ _)
    refine wp_region_S (S := fun xS => Below w13.heap.size w13 xS) (St := [15]) (by kernel_rfl) hS0a ?_
    obtain ⟨x0a, hx0⟩ : ∃ x, x = w13.drew := ⟨_, rfl⟩
    rw [← hx0] at hS0a  ⊢
    clear hx0
    intro hH
    refine wpAnyS_pure (i := 0) (oi := { dst := some 106, op := .move (.tmp 16), type := _, pos := _, after := _, guard := none }) (v := .slice (some ⟨gm, 0, none⟩) m cm) rfl (by kernel_rfl) (by kernel_rfl) (by kernel_rfl) (by kernel_rfl) (fun _ _ _ h => h) (Or.inl ⟨by rfl, ?_⟩) hH (fun hH => ?_)
    · intro wS hSw
      go_simp
    simp only [Act.put, List.setIfInBounds_toArray, List.set_cons_zero, List.set_cons_succ]
    refine wpAnyS_pure (i := 1) (oi := { dst := some 107, op := .move (.tmp 2), type := _, pos := _, after := _, guard := none }) (v := .int .i64 (p : Int)) rfl (by kernel_rfl) (by kernel_rfl) (by kernel_rfl) (by kernel_rfl) (fun _ _ _ h => h) (Or.inl ⟨by rfl, ?_⟩) hH (fun hH => ?_)
    · intro wS hSw
      go_simp
    simp only [Act.put, List.setIfInBounds_toArray, List.set_cons_zero, List.set_cons_succ]
    refine wpAnyS_pure (i := 2) (oi := { dst := some 108, op := .move (.tmp 16), type := _, pos := _, after := _, guard := none }) (v := .slice (some ⟨gm, 0, none⟩) m cm) rfl (by kernel_rfl) (by kernel_rfl) (by kernel_rfl) (by kernel_rfl) (fun _ _ _ h => h) (Or.inl ⟨by rfl, ?_⟩) hH (fun hH => ?_)
    · intro wS hSw
      go_simp
    simp only [Act.put, List.setIfInBounds_toArray, List.set_cons_zero, List.set_cons_succ]
    refine wpAnyS_pure (i := 3) (oi := { dst := some 109, op := .move (.tmp 2), type := _, pos := _, after := _, guard := none }) (v := .int .i64 (p : Int)) rfl (by kernel_rfl) (by kernel_rfl) (by kernel_rfl) (by kernel_rfl) (fun _ _ _ h => h) (Or.inl ⟨by rfl, ?_⟩) hH (fun hH => ?_)
    · intro wS hSw
      go_simp
    simp only [Act.put, List.setIfInBounds_toArray, List.set_cons_zero, List.set_cons_succ]
    refine wpAnyS_pure (i := 4) (oi := { dst := some 110, op := .binOp .add 3 (.tmp 109) (.const (.int .i64 1)) 3, type := _, pos := _, after := _, guard := none }) (v := .int .i64 (p1 : Int)) rfl (by kernel_rfl) (by kernel_rfl) (by kernel_rfl) (by kernel_rfl) (fun _ _ _ h => h) (Or.inl ⟨by rfl, ?_⟩) hH (fun hH => ?_)
    · intro wS hSw
      go_simp
    simp only [Act.put, List.setIfInBounds_toArray, List.set_cons_zero, List.set_cons_succ]
    refine wpAnyS_pure (i := 5) (oi := { dst := some 111, op := .move (.tmp 0), type := _, pos := _, after := _, guard := none }) (v := .slice (some ⟨ga, oa, none⟩) m c) rfl (by kernel_rfl) (by kernel_rfl) (by kernel_rfl) (by kernel_rfl) (fun _ _ _ h => h) (Or.inl ⟨by rfl, ?_⟩) hH (fun hH => ?_)
    · intro wS hSw
      go_simp
    simp only [Act.put, List.setIfInBounds_toArray, List.set_cons_zero, List.set_cons_succ]
    refine wpAnyS_pure (i := 6) (oi := { dst := some 112, op := .move (.tmp 2), type := _, pos := _, after := _, guard := none }) (v := .int .i64 (p : Int)) rfl (by kernel_rfl) (by kernel_rfl) (by kernel_rfl) (by kernel_rfl) (fun _ _ _ h => h) (Or.inl ⟨by rfl, ?_⟩) hH (fun hH => ?_)
    · intro wS hSw
      go_simp
    simp only [Act.put, List.setIfInBounds_toArray, List.set_cons_zero, List.set_cons_succ]
    refine wpAnyS_pure (i := 7) (oi := { dst := some 113, op := .binOp .add 3 (.tmp 112) (.const (.int .i64 1)) 3, type := _, pos := _, after := _, guard := none }) (v := .int .i64 (p1 : Int)) rfl (by kernel_rfl) (by kernel_rfl) (by kernel_rfl) (by kernel_rfl) (fun _ _ _ h => h) (Or.inl ⟨by rfl, ?_⟩) hH (fun hH => ?_)
    · intro wS hSw
      go_simp
    simp only [Act.put, List.setIfInBounds_toArray, List.set_cons_zero, List.set_cons_succ]
    refine wpAnyS_pure (i := 8) (oi := { dst := some 114, op := .indexAddr 22 (.tmp 111) (.tmp 113), type := _, pos := _, after := _, guard := none }) (v := .pointer (some ⟨ga, oa + p1 * 3, none⟩)) rfl (by kernel_rfl) (by kernel_rfl) (by kernel_rfl) (by kernel_rfl) (fun _ _ _ h => h) (Or.inl ⟨by rfl, ?_⟩) hH (fun hH => ?_)
    · intro wS hSw
      go_simp
    simp only [Act.put, List.setIfInBounds_toArray, List.set_cons_zero, List.set_cons_succ]
    refine wpAnyS_take [14, 15, 16, 17] (i := 9) (oi := { dst := some 115, op := .load 50 (.tmp 114), type := _, pos := _, after := _, guard := none }) (v := .agg #[.int .i64 yt, .int .i64 yk, .int .i64 yo]) rfl (by kernel_rfl) (by kernel_rfl) (by kernel_rfl) (by kernel_rfl) (by kernel_rfl) (by kernel_rfl) (by kernel_rfl) (fun _ _ _ h => h) (Or.inl ⟨by rfl, ?_⟩) hH (fun hH => ?_)
    · intro wS hSw
      have z0 := (hSw.cell (lt_of_cell r1)).trans r1
      have z1 := (hSw.cell (lt_of_cell r2)).trans r2
      have z2 := (hSw.cell (lt_of_cell r3)).trans r3
      go_simp
    simp only [Act.put, List.setIfInBounds_toArray, List.set_cons_zero, List.set_cons_succ]
    refine wpAnyS_pure (i := 10) (oi := { dst := some 116, op := .move (.tmp 0), type := _, pos := _, after := _, guard := none }) (v := .slice (some ⟨ga, oa, none⟩) m c) rfl (by kernel_rfl) (by kernel_rfl) (by kernel_rfl) (by kernel_rfl) (fun _ _ _ h => h) (Or.inl ⟨by rfl, ?_⟩) hH (fun hH => ?_)
    · intro wS hSw
      go_simp
    simp only [Act.put, List.setIfInBounds_toArray, List.set_cons_zero, List.set_cons_succ]
    refine wpAnyS_pure (i := 11) (oi := { dst := some 117, op := .move (.tmp 2), type := _, pos := _, after := _, guard := none }) (v := .int .i64 (p : Int)) rfl (by kernel_rfl) (by kernel_rfl) (by kernel_rfl) (by kernel_rfl) (fun _ _ _ h => h) (Or.inl ⟨by rfl, ?_⟩) hH (fun hH => ?_)
    · intro wS hSw
      go_simp
    simp only [Act.put, List.setIfInBounds_toArray, List.set_cons_zero, List.set_cons_succ]
    refine wpAnyS_pure (i := 12) (oi := { dst := some 118, op := .indexAddr 22 (.tmp 116) (.tmp 117), type := _, pos := _, after := _, guard := none }) (v := .pointer (some ⟨ga, oa + p * 3, none⟩)) rfl (by kernel_rfl) (by kernel_rfl) (by kernel_rfl) (by kernel_rfl) (fun _ _ _ h => h) (Or.inl ⟨by rfl, ?_⟩) hH (fun hH => ?_)
    · intro wS hSw
      go_simp
    simp only [Act.put, List.setIfInBounds_toArray, List.set_cons_zero, List.set_cons_succ]
    refine wpAnyS_take [14, 15, 16, 17] (i := 13) (oi := { dst := some 119, op := .load 50 (.tmp 118), type := _, pos := _, after := _, guard := none }) (v := .agg #[.int .i64 xt, .int .i64 xk, .int .i64 xo]) rfl (by kernel_rfl) (by kernel_rfl) (by kernel_rfl) (by kernel_rfl) (by kernel_rfl) (by kernel_rfl) (by kernel_rfl) (fun _ _ _ h => h) (Or.inl ⟨by rfl, ?_⟩) hH (fun hH => ?_)
    · intro wS hSw
      have z0 := (hSw.cell (lt_of_cell q1)).trans q1
      have z1 := (hSw.cell (lt_of_cell q2)).trans q2
      have z2 := (hSw.cell (lt_of_cell q3)).trans q3
      go_simp
    simp only [Act.put, List.setIfInBounds_toArray, List.set_cons_zero, List.set_cons_succ]
    refine wpAnyS_pure (i := 14) (oi := { dst := some 120, op := .indexAddr 22 (.tmp 106) (.tmp 107), type := _, pos := _, after := _, guard := none }) (v := .pointer (some ⟨gm, p * 3, none⟩)) rfl (by kernel_rfl) (by kernel_rfl) (by kernel_rfl) (by kernel_rfl) (fun _ _ _ h => h) (Or.inl ⟨by rfl, ?_⟩) hH (fun hH => ?_)
    · intro wS hSw
      go_simp
    simp only [Act.put, List.setIfInBounds_toArray, List.set_cons_zero, List.set_cons_succ]
    refine wpAnyS_ready (rs := [15]) (by kernel_rfl) (by simp) ?_
    refine AllReadyS.cons (o := { dst := none, op := .store 50 (.tmp 120) (.tmp 115), type := _, pos := _, after := _, guard := none }) rfl (fun K hK => ?_) AllReadyS.nil
    rw [if_pos (by rfl)]
    refine wp_store_three (.tmp 120) (.tmp 115) rfl gm (p * 3) ⟨yt, yk, yo⟩ rfl rfl _ (HM6.out.below hS0a) (by omega) ?_
    intro x1a hA1a hb1a hs1a
    refine hK.out _ _ (Hold.over (s := 15) (by decide) (by rfl)) (fun hH => ?_)
    clear hK K
    refine wpAnyS_pure (i := 16) (oi := { dst := some 121, op := .indexAddr 22 (.tmp 108) (.tmp 110), type := _, pos := _, after := _, guard := none }) (v := .pointer (some ⟨gm, p1 * 3, none⟩)) rfl (by kernel_rfl) (by kernel_rfl) (by kernel_rfl) (by kernel_rfl) (fun _ _ _ h => h) (Or.inl ⟨by rfl, ?_⟩) hH (fun hH => ?_)
    · intro wS hSw
      go_simp
    simp only [Act.put, List.setIfInBounds_toArray, List.set_cons_zero, List.set_cons_succ]
    refine wpAnyS_ready (rs := [17]) (by kernel_rfl) (by simp) ?_
    refine AllReadyS.cons (o := { dst := none, op := .store 50 (.tmp 121) (.tmp 119), type := _, pos := _, after := _, guard := none }) rfl (fun K hK => ?_) AllReadyS.nil
    rw [if_pos (by rfl)]
    refine wp_store_three (.tmp 121) (.tmp 119) rfl gm (p1 * 3) ⟨xt, xk, xo⟩ rfl rfl _ hA1a (by simp only [List.length_set]; omega) ?_
    intro x2a hA2a hb2a hs2a
    refine hK.out _ _ (Hold.over (s := 15) (by decide) (by rfl)) (fun hH => ?_)
    clear hK K
    refine wpAnyS_done (by kernel_rfl) ?_ _

    obtain ⟨w15, hw15⟩ : ∃ u, u = x2a := ⟨_, rfl⟩
    have hB1115 : Hid (Below w11.heap.size w11 w15) := by
      rw [hw15]
      have e1 : Below w11.heap.size w11 x0a := HB13.out.trans (hS0a.mono HB13.out.size)
      have e2 : Below w11.heap.size w11 x1a := hb1a.below e1 hgmw.out.2 e1.size
      exact hb2a.below e2 hgmw.out.2 e2.size
    have B15 : Hid (Below w.heap.size w w15) := HT.out _ _ B11.out hB1115.out
    have HE15 : Hid (RowEv w15 (some ⟨gm, 0, none⟩) (swL es p)) := by
      rw [hw15]
      have e1 := (HO6.out.set (k := p) (by rw [HF.out.len]; exact hp2) ⟨yt, yk, yo⟩).set (k := p1) (by rw [List.length_set, HF.out.len]; exact hp3) ⟨xt, xk, xo⟩
      have e2 : (es.set p ⟨yt, yk, yo⟩).set p1 ⟨xt, xk, xo⟩ = swL es p := by unfold swL; rw [hex.out.1, hex.out.2.2, hp1.out]
      rw [e2] at e1
      exact e1.row hA2a
    have HL15 : Hid (RowEv w15 l1 (leastE es)) := HL11.out.below hB1115.out
    rw [← hw15]
    clear hA1a hb1a hs1a hA2a hb2a hs2a hS0a hw15 HB13 B13 HM6 HO6 HL13 q1 q2 q3 r1 r2 r3 hB1115 HL11 hH
    obtain ⟨⟨q1', q2', q3'⟩, r1', r2', r3'⟩ := HQ.out w15 B15.out
    try dsimp only at q1' q2' q3' r1' r2' r3'
    by_cases ht : xt = yt
    · have htt : (xt == yt) = true := by simpa using ht
      have ht : Hid (xt = yt) := ht
      go_wp2_with fail
      go_quiet (fail)
      go_wp2_with fail
      go_ret
      exact ⟨rfl, below_drN B15.out _⟩
    have htt : (xt == yt) = false := by simpa using ht
    have HNE : Hid (xt ≠ yt) := ht
    clear ht
    go_wp2_with fail
    go_quiet (fail)
    obtain ⟨w16, hw16⟩ : ∃ x, x = w15.drewN nq := ⟨_, rfl⟩
    have hb16 : Below w15.heap.size w15 w16 := by rw [hw16]; exact below_drN (Below.refl _ _) _
    have B16 : Hid (Below w.heap.size w w16) := HT.out _ _ B15.out hb16
    have HE16 : Hid (RowEv w16 (some ⟨gm, 0, none⟩) (swL es p)) := HE15.out.below hb16
    have HL16 : Hid (RowEv w16 l1 (leastE es)) := HL15.out.below hb16
    rw [← hw16]
    clear hw16 hb16 B15 HE15 HL15 q1' q2' q3' r1' r2' r3'
    obtain ⟨⟨q1', q2', q3'⟩, r1', r2', r3'⟩ := HQ.out w16 B16.out
    obtain ⟨D, hD⟩ : ∃ D, Hid (D = depB (evAt es p) (evAt es (p + 1))) := ⟨_, (rfl : _ = depB _ _)⟩
    have HD : Hid (∀ u, Calls Try.prog 31 #[.agg #[.int .i64 xt, .int .i64 xk, .int .i64 xo], .agg #[.int .i64 yt, .int .i64 yk, .int .i64 yo]] u fun r w' => r = .returned (.bool D) ∧ Below u.heap.size u w') := fun u => by
      rw [hD.out, hex.out.1, hex.out.2.2]
      exact depends_any ⟨xt, xk, xo⟩ ⟨yt, yk, yo⟩ (HF.out.ok _ HXY.out.1) (HF.out.ok _ HXY.out.2) u
    go_wp2_with fail
    have hS0b : Below w16.heap.size w16 w16.drew := Below.drew (Below.refl _ _)
    refine wp_region_held_drew (S := fun xS => Below w16.heap.size w16 xS) (by kernel_rfl) hS0b ?_
    obtain ⟨x0b, hx0⟩ : ∃ x, x = w16.drew := ⟨_, rfl⟩
    rw [← hx0] at hS0b  ⊢
    clear hx0
    intro _
    refine wpAnyH_take (i := 0) (oi := { dst := some 135, op := .move (.tmp 0), type := _, pos := _, after := _, guard := none }) (v := .slice (some ⟨ga, oa, none⟩) m c) rfl (by kernel_rfl) (by kernel_rfl) (by kernel_rfl) (fun _ _ _ h => h) (Or.inl ⟨by rfl, ?_⟩) hS0b ?_
    · intro wS hSw
      go_simp
    simp only [Act.put, List.setIfInBounds_toArray, List.set_cons_zero, List.set_cons_succ]
    refine wpAnyH_take (i := 1) (oi := { dst := some 136, op := .move (.tmp 2), type := _, pos := _, after := _, guard := none }) (v := .int .i64 (p : Int)) rfl (by kernel_rfl) (by kernel_rfl) (by kernel_rfl) (fun _ _ _ h => h) (Or.inl ⟨by rfl, ?_⟩) hS0b ?_
    · intro wS hSw
      go_simp
    simp only [Act.put, List.setIfInBounds_toArray, List.set_cons_zero, List.set_cons_succ]
    refine wpAnyH_take (i := 2) (oi := { dst := some 137, op := .indexAddr 22 (.tmp 135) (.tmp 136), type := _, pos := _, after := _, guard := none }) (v := .pointer (some ⟨ga, oa + p * 3, none⟩)) rfl (by kernel_rfl) (by kernel_rfl) (by kernel_rfl) (fun _ _ _ h => h) (Or.inl ⟨by rfl, ?_⟩) hS0b ?_
    · intro wS hSw
      go_simp
    simp only [Act.put, List.setIfInBounds_toArray, List.set_cons_zero, List.set_cons_succ]
    refine wpAnyH_take (i := 3) (oi := { dst := some 138, op := .load 50 (.tmp 137), type := _, pos := _, after := _, guard := none }) (v := .agg #[.int .i64 xt, .int .i64 xk, .int .i64 xo]) rfl (by kernel_rfl) (by kernel_rfl) (by kernel_rfl) (fun _ _ _ h => h) (Or.inl ⟨by rfl, ?_⟩) hS0b ?_
    · intro wS hSw
      have z0 := (hSw.cell (lt_of_cell q1')).trans q1'
      have z1 := (hSw.cell (lt_of_cell q2')).trans q2'
      have z2 := (hSw.cell (lt_of_cell q3')).trans q3'
      go_simp
    simp only [Act.put, List.setIfInBounds_toArray, List.set_cons_zero, List.set_cons_succ]
    refine wpAnyH_take (i := 4) (oi := { dst := some 139, op := .move (.tmp 0), type := _, pos := _, after := _, guard := none }) (v := .slice (some ⟨ga, oa, none⟩) m c) rfl (by kernel_rfl) (by kernel_rfl) (by kernel_rfl) (fun _ _ _ h => h) (Or.inl ⟨by rfl, ?_⟩) hS0b ?_
    · intro wS hSw
      go_simp
    simp only [Act.put, List.setIfInBounds_toArray, List.set_cons_zero, List.set_cons_succ]
    refine wpAnyH_take (i := 5) (oi := { dst := some 140, op := .move (.tmp 2), type := _, pos := _, after := _, guard := none }) (v := .int .i64 (p : Int)) rfl (by kernel_rfl) (by kernel_rfl) (by kernel_rfl) (fun _ _ _ h => h) (Or.inl ⟨by rfl, ?_⟩) hS0b ?_
    · intro wS hSw
      go_simp
    simp only [Act.put, List.setIfInBounds_toArray, List.set_cons_zero, List.set_cons_succ]
    refine wpAnyH_take (i := 6) (oi := { dst := some 141, op := .binOp .add 3 (.tmp 140) (.const (.int .i64 1)) 3, type := _, pos := _, after := _, guard := none }) (v := .int .i64 (p1 : Int)) rfl (by kernel_rfl) (by kernel_rfl) (by kernel_rfl) (fun _ _ _ h => h) (Or.inl ⟨by rfl, ?_⟩) hS0b ?_
    · intro wS hSw
      go_simp
    simp only [Act.put, List.setIfInBounds_toArray, List.set_cons_zero, List.set_cons_succ]
    refine wpAnyH_take (i := 7) (oi := { dst := some 142, op := .indexAddr 22 (.tmp 139) (.tmp 141), type := _, pos := _, after := _, guard := none }) (v := .pointer (some ⟨ga, oa + p1 * 3, none⟩)) rfl (by kernel_rfl) (by kernel_rfl) (by kernel_rfl) (fun _ _ _ h => h) (Or.inl ⟨by rfl, ?_⟩) hS0b ?_
    · intro wS hSw
      go_simp
    simp only [Act.put, List.setIfInBounds_toArray, List.set_cons_zero, List.set_cons_succ]
    refine wpAnyH_take (i := 8) (oi := { dst := some 143, op := .load 50 (.tmp 142), type := _, pos := _, after := _, guard := none }) (v := .agg #[.int .i64 yt, .int .i64 yk, .int .i64 yo]) rfl (by kernel_rfl) (by kernel_rfl) (by kernel_rfl) (fun _ _ _ h => h) (Or.inl ⟨by rfl, ?_⟩) hS0b ?_
    · intro wS hSw
      have z0 := (hSw.cell (lt_of_cell r1')).trans r1'
      have z1 := (hSw.cell (lt_of_cell r2')).trans r2'
      have z2 := (hSw.cell (lt_of_cell r3')).trans r3'
      go_simp
    simp only [Act.put, List.setIfInBounds_toArray, List.set_cons_zero, List.set_cons_succ]
    refine wpAnyH_ready (rs := [9]) (by kernel_rfl) (by simp) ?_
    refine AllReadyH.cons (o := { dst := some 144, op := .call { callee := .value (.func 31), args := #[.tmp 138, .tmp 143], argTypes := #[50, 50] }, type := _, pos := _, after := _, guard := none }) rfl (fun K hK => ?_) AllReadyH.nil
    rw [if_pos (by rfl)]
    have sv1b := hS0b.size
    go_wp2_with (go_at_call 31; refine (HD.out _).mono ?_; rintro e x1b ⟨rfl, hb1b⟩)
    have sz1b := hb1b.size
    have hS1b := hS0b.trans (hb1b.mono hS0b.size)
    refine hK.out _ _ hS1b (fun _ => ?_)
    clear hK K
    refine wpAnyH_take (i := 10) (oi := { dst := some 145, op := .unOp .not 4 (.tmp 144), type := _, pos := _, after := _, guard := none }) (v := .bool (!D)) rfl (by kernel_rfl) (by kernel_rfl) (by kernel_rfl) (fun _ _ _ h => h) (Or.inl ⟨by rfl, ?_⟩) hS1b ?_
    · intro wS hSw
      go_simp
    simp only [Act.put, List.setIfInBounds_toArray, List.set_cons_zero, List.set_cons_succ]
    refine wpAnyH_take (i := 11) (oi := { dst := some 17, op := .assign (.tmp 145), type := _, pos := _, after := _, guard := none }) (v := .bool (!D)) rfl (by kernel_rfl) (by kernel_rfl) (by kernel_rfl) (fun _ _ _ h => h) (Or.inl ⟨by rfl, ?_⟩) hS1b ?_
    · intro wS hSw
      go_simp
    simp only [Act.put, List.setIfInBounds_toArray, List.set_cons_zero, List.set_cons_succ]
    refine wpAnyH_done (by kernel_rfl) ?_ _

    have B17 : Hid (Below w.heap.size w x1b) := HT.out _ _ B16.out hS1b
    have HE17 : Hid (RowEv x1b (some ⟨gm, 0, none⟩) (swL es p)) := HE16.out.below hS1b
    have HL17 : Hid (RowEv x1b l1 (leastE es)) := HL16.out.below hS1b
    have HFS : Hid (Fit (swL es p) n m) := HF.out.sw hp
    have HSW : Hid (decide (leastE es = leastE (swL es p)) = !D ∧ decide (leastE (swL es p) = leastE es) = !D) := by
      have hpe : p + 1 < es.length := by rw [HF.out.len]; exact hp
      cases hDD : D with
      | false =>
        have := least_sw hpe (by rw [← hD.out, hDD])
        exact ⟨decide_eq_true this.symm, decide_eq_true this⟩
      | true =>
        have := least_parts hpe (by rw [← hD.out, hDD]) (by rw [hex.out.1, hex.out.2.2]; exact HNE.out)
        exact ⟨decide_eq_false fun h => this h.symm, decide_eq_false this⟩
    clear hS0b hS1b hb1b sv1b sz1b q1' q2' q3' r1' r2' r3' HD B16 HE16 HL16 HQ HNE htt
    go_wp2_with (go_at_call 10; refine (least_c HL HFS.out (some ⟨gm, 0, none⟩) cm x1b HE17.out hcm).mono ?_; rintro _ w18 ⟨z1, cz, rfl, hcz, hZ1, hb18⟩; refine Hid.out ?_)
    refine hidU ?_
    have B18 : Hid (Below w.heap.size w w18) := HT.out _ _ B17.out hb18
    have HE18 : Hid (RowEv w18 (some ⟨gm, 0, none⟩) (swL es p)) := HE17.out.below hb18
    have HL18 : Hid (RowEv w18 l1 (leastE es)) := HL17.out.below hb18
    have HEq : Hid (Calls Try.prog 27 #[.slice (some ⟨ga, oa, none⟩) m c, .slice (some ⟨gm, 0, none⟩) m cm, .int .i64 n] w18 fun r w' => r = .returned (.bool !D) ∧ Below w18.heap.size w18 w') := by
      have := equiv_c HE HF.out HFS.out (some ⟨ga, oa, none⟩) (some ⟨gm, 0, none⟩) c cm w18 (HEv.out w18 B18.out) HE18.out hc hcm
      rw [HSW.out.1] at this
      exact this
    clear hb18 B17 HE17 HL17
    go_wp2_with (go_at_call 27; refine HEq.out.mono ?_; rintro _ w19 ⟨rfl, hb19⟩; refine Hid.out ?_)
    refine hidU ?_
    have B19 : Hid (Below w.heap.size w w19) := HT.out _ _ B18.out hb19
    have HE19 : Hid (RowEv w19 (some ⟨gm, 0, none⟩) (swL es p)) := HE18.out.below hb19
    have HL19 : Hid (RowEv w19 l1 (leastE es)) := HL18.out.below hb19
    have HZ19 : Hid (RowI w19 z1 (natI (leastL (evAt (swL es p)) m))) := hZ1.out.below hb19
    clear hb19 B18 HE18 HL18 HEq hZ1
    have hDD : ((!D) == (!D)) = true := by simp
    go_wp2_with (go_at_call 25; refine (at_c HS HFS.out (lin_least (evAt (swL es p)) m) (some ⟨gm, 0, none⟩) z1 cm cz w19 HE19.out HZ19.out hcm hcz).mono ?_; rintro _ w20 ⟨s1, cs1, rfl, hcs1, hS1, hb20⟩; refine Hid.out ?_)
    refine hidU ?_
    have B20 : Hid (Below w.heap.size w w20) := HT.out _ _ B19.out hb20
    have HL20 : Hid (RowEv w20 l1 (leastE es)) := HL19.out.below hb20
    have HS20 : Hid (Calls Try.prog 28 #[.slice s1 m cs1, .slice l1 m cl] w20 fun r w' => r = .returned (.bool !D) ∧ Below w20.heap.size w20 w') := by
      have k1 := hS1.out
      rw [least_at HFS.out.len] at k1
      have := same_c HFS.out.least.len HFL.out.1.len (by omega) s1 l1 cs1 cl w20 k1 HL20.out hcs1 hcl
      rw [HSW.out.2] at this
      exact this
    clear hb20 B19 HE19 HL19 HZ19 hS1
    go_wp2_with (go_at_call 28; refine HS20.out.mono ?_; rintro _ w21 ⟨rfl, hb21⟩)
    go_ret
    exact ⟨by simp, HT.out _ _ B20.out hb21⟩
  · obtain ⟨m, hm⟩ : ∃ m, es.length = m := ⟨_, rfl⟩
    have HZ : Hid (∀ u, Below w.heap.size w u → (Calls Try.prog 10 #[.slice a m c, .int .i64 z] u fun r w' => ∃ ap lp cp, r = .returned (.tuple #[.slice ap lp cp, .int .i64 (wrongZ es z)]) ∧ Below u.heap.size u w') ∧ (Calls Try.prog 12 #[.slice a m c, .int .i64 z] u fun r w' => ∃ ap lp cp, r = .returned (.tuple #[.slice ap lp cp, .int .i64 (wrongZ es z)]) ∧ Below u.heap.size u w')) := fun u hu => by
      have k1 := HL es z a c u (hE.below hu) hok (by omega) hc
      have k2 := HV es z a c u (hE.below hu) hok (by omega) hc
      rw [hm] at k1 k2
      exact ⟨k1.mono fun r w' ⟨ap, cp, d1, d2, d3, d4⟩ => ⟨ap, _, cp, d1, d4⟩, k2.mono fun r w' ⟨ap, cp, d1, d2, d3, d4⟩ => ⟨ap, _, cp, d1, d4⟩⟩
    rw [hm] at h60 hl hc ⊢
    obtain ⟨Z, hZ⟩ : ∃ Z, Hid (Z = wrongZ es z) := ⟨_, (rfl : _ = wrongZ _ _)⟩
    rw [← hZ.out] at HZ hw
    have hz0 : (Z != 0) = true := by simpa using hw
    have HKK : Hid (Calls Try.prog 4 #[] w fun r w' => r = .returned (.bool true) ∧ Below w.heap.size w w') := HK
    have z1 : ¬ (60 : Int) < (m : Int) := by omega
    clear hE hok hm hw HK h60
    go_enter Try.func5, Try.ntmps5
    go_wp2_with (first | (go_at_call 4; refine HKK.out.mono ?_; rintro _ w1 ⟨rfl, hb1⟩; have B1 : Hid (Below w.heap.size w w1) := hb1; clear hb1) | (go_at_call 10; refine (HZ.out _ B1.out).1.mono ?_; rintro _ w2 ⟨ap, lp, cp, rfl, hb2⟩; have B2 : Hid (Below w.heap.size w w2) := B1.out.trans (hb2.mono B1.out.size); clear hb2) | (go_at_call 12; refine (HZ.out _ B2.out).2.mono ?_; rintro _ w3 ⟨ap3, lp3, cp3, rfl, hb3⟩; have B3 : Hid (Below w.heap.size w w3) := B2.out.trans (hb3.mono B2.out.size); clear hb3))
    go_ret
    exact ⟨by simp, B3.out⟩
end Go.Proofs.Ytbamocalhojmeaa
