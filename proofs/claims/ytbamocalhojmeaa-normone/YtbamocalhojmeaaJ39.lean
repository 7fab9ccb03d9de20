/- Joined texts of the proof. -/
import Derived.Test.YtbamocalhojmeaaJ34
import Derived.Test.YtbamocalhojmeaaJ35
import Derived.Test.YtbamocalhojmeaaJ38

/- NormTells: the walk, given what norm tells. -/
namespace Go.Proofs.Ytbamocalhojmeaa
open Go.RowKit
set_option linter.unusedVariables false
attribute [local go_sem ↓] Go.wp_at_zero Go.wp_at_succ

/-- What holds from now on, whatever is made. -/
def Stb (w : World) (P : World → Prop) : Prop := ∀ v, Below w.heap.size w v → P v
theorem Stb.and {w w' : World} {P Q : World → Prop} (h : Stb w P) (hb : Below w.heap.size w w') (hq : ∀ v, Below w'.heap.size w' v → Q v) : Stb w' fun v => P v ∧ Q v := fun v hv => ⟨h v (hb.trans (hv.mono hb.size)), hq v hv⟩
theorem Stb.on {w w' : World} {P : World → Prop} (h : Stb w P) (hb : Below w.heap.size w w') : Stb w' P := fun v hv => h v (hb.trans (hv.mono hb.size))
theorem Stb.now {w : World} {P : World → Prop} (h : Stb w P) : P w := h w (Below.refl _ _)
theorem neq_self (x : Bool) : (x != x) = false := by cases x <;> rfl

set_option maxRecDepth 100000 in
set_option maxHeartbeats 25600000 in
theorem normTells_of (HL : LeS 10) (HV : LvS 12) (HE : EqT 14) (HS : ScS 16) (es fs : List Ev) (n : Int) (zs : List Int) (a b d : Option Addr) (c1 c2 c3 : Nat) (w : World) (hE : RowEv w a es) (hF : RowEv w b fs) (hZ : RowI w d zs) (ho1 : ∀ x ∈ es, x.ok) (ho2 : ∀ x ∈ fs, x.ok) (ho3 : ∀ z ∈ zs, i64 z) (hc1 : es.length ≤ c1) (hc2 : fs.length ≤ c2) (hc3 : zs.length ≤ c3) :
    Calls Try.prog 3 #[.slice a es.length c1, .slice b fs.length c2, .int .i64 n, .slice d zs.length c3] w fun r w' => r = .returned (.bool true) ∧ Below w.heap.size w w' := by
  obtain ⟨m1, hm1⟩ : ∃ m, Hid (m = es.length) := ⟨_, (rfl : _ = es.length)⟩
  obtain ⟨m2, hm2⟩ : ∃ m, Hid (m = fs.length) := ⟨_, (rfl : _ = fs.length)⟩
  obtain ⟨m3, hm3⟩ : ∃ m, Hid (m = zs.length) := ⟨_, (rfl : _ = zs.length)⟩
  obtain ⟨V1, hV1⟩ : ∃ v, Hid (v = hvB m1 n) := ⟨_, (rfl : _ = hvB _ _)⟩
  obtain ⟨V2, hV2⟩ : ∃ v, Hid (v = hvB m2 n) := ⟨_, (rfl : _ = hvB _ _)⟩
  have H7a : Hid (Calls Try.prog 7 #[.slice a m1 c1, .int .i64 n] w fun r w' => r = .returned (.bool V1) ∧ w = w') := by
    have := heavy_any a m1 c1 n w
    rw [← hV1.out] at this
    exact this.mono fun r w' ⟨h1, h2⟩ => ⟨h1, h2.symm⟩
  have H7b : Hid (Calls Try.prog 7 #[.slice b m2 c2, .int .i64 n] w fun r w' => r = .returned (.bool V2) ∧ w = w') := by
    have := heavy_any b m2 c2 n w
    rw [← hV2.out] at this
    exact this.mono fun r w' ⟨h1, h2⟩ => ⟨h1, h2.symm⟩
  by_cases hout : V1 = true ∨ V2 = true ∨ 2000 < m3
  · rw [← hm1.out, ← hm2.out, ← hm3.out]
    clear HL HV HE HS hE hF hZ ho1 ho2 ho3 hm1 hm2 hm3 hV1 hV2 hc1 hc2 hc3
    cases V1
    · cases V2
      · have z1 : (2000 : Int) < (m3 : Int) := by
          rcases hout with h | h | h
          · cases h
          · cases h
          · omega
        clear hout
        go_enter Try.func3, Try.ntmps3
        go_wp2_with (go_at_call 7; refine H7a.out.mono ?_; rintro _ w0 ⟨rfl, rfl⟩; refine Hid.out ?_)
        refine hidU ?_
        clear H7a
        go_wp2_with (go_at_call 7; refine H7b.out.mono ?_; rintro _ w0 ⟨rfl, rfl⟩)
        go_ret
        exact ⟨rfl, Below.refl _ _⟩
      · clear hout
        go_enter Try.func3, Try.ntmps3
        go_wp2_with (go_at_call 7; refine H7a.out.mono ?_; rintro _ w0 ⟨rfl, rfl⟩; refine Hid.out ?_)
        refine hidU ?_
        clear H7a
        go_wp2_with (go_at_call 7; refine H7b.out.mono ?_; rintro _ w0 ⟨rfl, rfl⟩)
        go_ret
        exact ⟨rfl, Below.refl _ _⟩
    · clear hout
      go_enter Try.func3, Try.ntmps3
      go_wp2_with (go_at_call 7; refine H7a.out.mono ?_; rintro _ w0 ⟨rfl, rfl⟩)
      go_ret
      exact ⟨rfl, Below.refl _ _⟩
  · have z3 : ¬ (2000 : Int) < (m3 : Int) := by
      have : ¬ 2000 < m3 := fun h => hout (.inr (.inr h))
      omega
    have hV1f : V1 = false := by
      cases V1
      · rfl
      · exact absurd (.inl rfl) hout
    have hV2f : V2 = false := by
      cases V2
      · rfl
      · exact absurd (.inr (.inl rfl)) hout
    clear hout
    have b1 : m1 ≤ 1029 := by
      have h := hV1.out
      rw [hV1f] at h
      have := of_decide_eq_false h.symm
      omega
    have b2 : m2 ≤ 1029 := by
      have h := hV2.out
      rw [hV2f] at h
      have := of_decide_eq_false h.symm
      omega
    have b3 : m3 ≤ 2000 := by omega
    subst hV1f
    subst hV2f
    clear hV1 hV2
    have HA := awake_of HL.less HV.less
    obtain ⟨W1, hW1⟩ : ∃ x, Hid (x = wrongZ es n) := ⟨_, (rfl : _ = wrongZ _ _)⟩
    obtain ⟨Z1, hZ1⟩ : ∃ x, Hid (x = leastZ es n) := ⟨_, (rfl : _ = leastZ _ _)⟩
    obtain ⟨Z2, hZ2⟩ : ∃ x, Hid (x = levelsZ es n) := ⟨_, (rfl : _ = levelsZ _ _)⟩
    obtain ⟨Z3, hZ3⟩ : ∃ x, Hid (x = schedZ es zs) := ⟨_, (rfl : _ = schedZ _ _)⟩
    obtain ⟨E1, hE1⟩ : ∃ x, Hid (x = equivZ es fs n) := ⟨_, (rfl : _ = equivZ _ _ _)⟩
    obtain ⟨W2, hW2⟩ : ∃ x, Hid (x = equivW es fs n) := ⟨_, (rfl : _ = equivW _ _ _)⟩
    obtain ⟨W3, hW3⟩ : ∃ x, Hid (x = schedW es zs) := ⟨_, (rfl : _ = schedW _ _)⟩
    obtain ⟨N1, hN1⟩ : ∃ x, Hid (x = Z1.length) := ⟨_, (rfl : _ = Z1.length)⟩
    obtain ⟨N2, hN2⟩ : ∃ x, Hid (x = Z2.length) := ⟨_, (rfl : _ = Z2.length)⟩
    obtain ⟨N3, hN3⟩ : ∃ x, Hid (x = Z3.length) := ⟨_, (rfl : _ = Z3.length)⟩
    have n1 : N1 ≤ 1024 := by rw [hN1.out, hZ1.out]; exact leastZ_few
    have n2 : N2 ≤ 1024 := by rw [hN2.out, hZ2.out]; exact levelsZ_few ho1
    have n3 : N3 ≤ 2000 := by rw [hN3.out, hZ3.out]; have := schedZ_few (es := es) (zs := zs); rw [← hm3.out] at this; omega
    have HLa : Hid (Calls Try.prog 8 #[.slice a m1 c1] w fun e w' => e = .returned (.slice (some ⟨w.heap.size, 0, none⟩) m1 (m1 + 3)) ∧ At 50 w' w.heap.size (flatE (lentE es)) ∧ Below w.heap.size w w') := by
      rw [hm1.out]
      exact lentEvents_any a c1 es w hE (by rw [← hm1.out]; omega)
    have HLb : Hid (∀ u, Below w.heap.size w u → Calls Try.prog 8 #[.slice b m2 c2] u fun e w' => e = .returned (.slice (some ⟨u.heap.size, 0, none⟩) m2 (m2 + 3)) ∧ At 50 w' u.heap.size (flatE (lentE fs)) ∧ Below u.heap.size u w') := fun u hu => by
      rw [hm2.out]
      exact lentEvents_any b c2 fs u (hF.below hu) (by rw [← hm2.out]; omega)
    have HLc : Hid (∀ u, Below w.heap.size w u → Calls Try.prog 9 #[.slice d m3 c3] u fun e w' => e = .returned (.slice (some ⟨u.heap.size, 0, none⟩) m3 (m3 + 3)) ∧ BlkI w' u.heap.size ((lentI zs).map I64) ∧ Below u.heap.size u w') := fun u hu => by
      rw [hm3.out]
      exact lentInts_any d c3 zs u (hZ.below hu) (by rw [← hm3.out]; omega)
    have H10 : Hid (∀ u g, At 50 u g (flatE (lentE es)) → Calls Try.prog 10 #[.slice (some ⟨g, 0, none⟩) m1 (m1 + 3), .int .i64 n] u fun r w' => ∃ ap cp, r = .returned (.tuple #[.slice ap N1 cp, .int .i64 W1]) ∧ N1 ≤ cp ∧ RowI w' ap Z1 ∧ WrZ (fun k => u.heap.size ≤ k) w' ap cp ∧ Below u.heap.size u w') := fun u g hg => by
      have := HL es n (some ⟨g, 0, none⟩) (m1 + 3) u (rowEv_lent hg) ho1 (by rw [← hm1.out]; omega) (by rw [← hm1.out]; omega)
      rwa [← hm1.out, ← hZ1.out, ← hN1.out, ← hW1.out] at this
    have H11 : Hid (∀ u, Below w.heap.size w u → Calls Try.prog 11 #[.slice a m1 c1, .int .i64 n] u fun r w' => ∃ ap cp, r = .returned (.tuple #[.slice ap N1 cp, .int .i64 W1]) ∧ N1 ≤ cp ∧ RowI w' ap Z1 ∧ Below u.heap.size u w') := fun u hu => by
      have := refLeast_tells es n a c1 u (hE.below hu) (by rw [← hm1.out]; omega) hc1
      rwa [← hm1.out, ← hZ1.out, ← hN1.out, ← hW1.out] at this
    have H12 : Hid (∀ u g, At 50 u g (flatE (lentE es)) → Calls Try.prog 12 #[.slice (some ⟨g, 0, none⟩) m1 (m1 + 3), .int .i64 n] u fun r w' => ∃ ap cp bb cc, r = .returned (.tuple #[.slice ap N2 cp, .int .i64 W1]) ∧ N2 ≤ cp ∧ LvR (fun k => u.heap.size ≤ k) 0 w' ap Z2 bb cc ∧ Below u.heap.size u w') := fun u g hg => by
      have := HV es n (some ⟨g, 0, none⟩) (m1 + 3) u (rowEv_lent hg) ho1 (by rw [← hm1.out]; omega) (by rw [← hm1.out]; omega)
      rwa [← hm1.out, ← hZ2.out, ← hN2.out, ← hW1.out] at this
    have H13 : Hid (∀ u, Below w.heap.size w u → Calls Try.prog 13 #[.slice a m1 c1, .int .i64 n] u fun r w' => ∃ ap cp, r = .returned (.tuple #[.slice ap N2 cp, .int .i64 W1]) ∧ N2 ≤ cp ∧ RowID (fun k => u.heap.size ≤ k) w' ap Z2 ∧ Below u.heap.size u w') := fun u hu => by
      have := refLevels_d es n a c1 u (hE.below hu) ho1 (by rw [← hm1.out]; omega) hc1
      rwa [← hm1.out, ← hZ2.out, ← hN2.out, ← hW1.out] at this
    have H14 : Hid (∀ u g h, At 50 u g (flatE (lentE es)) → At 50 u h (flatE (lentE fs)) → Calls Try.prog 14 #[.slice (some ⟨g, 0, none⟩) m1 (m1 + 3), .slice (some ⟨h, 0, none⟩) m2 (m2 + 3), .int .i64 n] u fun r w' => r = .returned (.tuple #[.bool E1, .int .i64 W2]) ∧ Below u.heap.size u w') := fun u g h hg hh => by
      have := HE es fs n (some ⟨g, 0, none⟩) (some ⟨h, 0, none⟩) (m1 + 3) (m2 + 3) u (rowEv_lent hg) (rowEv_lent hh) ho1 ho2 (by rw [← hm1.out]; omega) (by rw [← hm2.out]; omega) (by rw [← hm1.out]; omega) (by rw [← hm2.out]; omega)
      rwa [← hm1.out, ← hm2.out, ← hE1.out, ← hW2.out] at this
    have H15 : Hid (∀ u, Below w.heap.size w u → Calls Try.prog 15 #[.slice a m1 c1, .slice b m2 c2, .int .i64 n] u fun r w' => r = .returned (.tuple #[.bool E1, .int .i64 W2]) ∧ Below u.heap.size u w') := fun u hu => by
      have := refEquiv_any es fs n a b c1 c2 u (hE.below hu) (hF.below hu) hc1 hc2 (by rw [← hm1.out]; omega) (by rw [← hm2.out]; omega)
      rwa [← hm1.out, ← hm2.out, ← hE1.out, ← hW2.out] at this
    have H16 : Hid (∀ u g h, At 50 u g (flatE (lentE es)) → BlkI u h ((lentI zs).map I64) → Calls Try.prog 16 #[.slice (some ⟨g, 0, none⟩) m1 (m1 + 3), .slice (some ⟨h, 0, none⟩) m3 (m3 + 3)] u fun r w' => ∃ ap cp, r = .returned (.tuple #[.slice ap N3 cp, .int .i64 W3]) ∧ N3 ≤ cp ∧ RowI w' ap Z3 ∧ WrZ (fun k => u.heap.size ≤ k) w' ap cp ∧ Below u.heap.size u w') := fun u g h hg hh => by
      have := HS es zs (some ⟨g, 0, none⟩) (some ⟨h, 0, none⟩) (m1 + 3) (m3 + 3) u (rowEv_lent hg) ho1 hh.row_lent ho3 (by rw [← hm1.out]; omega) (by rw [← hm3.out]; omega) (by rw [← hm1.out]; omega) (by rw [← hm3.out]; omega)
      rwa [← hm1.out, ← hm3.out, ← hZ3.out, ← hN3.out, ← hW3.out] at this
    have H17 : Hid (∀ u, Below w.heap.size w u → Calls Try.prog 17 #[.slice a m1 c1, .slice d m3 c3] u fun r w' => ∃ ap cp, r = .returned (.tuple #[.slice ap N3 cp, .int .i64 W3]) ∧ N3 ≤ cp ∧ RowI w' ap Z3 ∧ Below u.heap.size u w') := fun u hu => by
      have := refSchedule_any es zs a d c1 c3 u (hE.below hu) (hZ.below hu) hc1 hc3 (by rw [← hm1.out]; omega) (by rw [← hm3.out]; omega)
      rwa [← hm1.out, ← hm3.out, ← hZ3.out, ← hN3.out, ← hW3.out] at this
    have S18a : Hid (∀ u a1 a2 c1 c2, RowI u a1 Z1 → RowI u a2 Z1 → N1 ≤ c1 → N1 ≤ c2 → Calls Try.prog 18 #[.slice a1 N1 c1, .slice a2 N1 c2] u fun r w' => r = .returned (.bool true) ∧ Below u.heap.size u w') := fun u a1 a2 c1 c2 h1 h2 h3 h4 => by
      have := sameInts_any Z1 Z1 a1 a2 c1 c2 u h1 h2 (by rw [← hN1.out]; omega) (by rw [← hN1.out]; omega) (by rw [← hN1.out]; exact h3) (by rw [← hN1.out]; exact h4)
      rwa [← hN1.out, decide_eq_true rfl] at this
    have S19 : Hid (∀ u a1 a2 c1 c2, RowII u a1 Z2 → RowII u a2 Z2 → N2 ≤ c1 → N2 ≤ c2 → Calls Try.prog 19 #[.slice a1 N2 c1, .slice a2 N2 c2] u fun r w' => r = .returned (.bool true) ∧ Below u.heap.size u w') := fun u a1 a2 c1 c2 h1 h2 h3 h4 => by
      have := sameLists_any Z2 Z2 a1 a2 c1 c2 u h1 h2 (by rw [← hN2.out]; omega) (by rw [← hN2.out]; omega) (by rw [← hN2.out]; exact h3) (by rw [← hN2.out]; exact h4)
      rwa [← hN2.out, decide_eq_true rfl] at this
    have S18b : Hid (∀ u a1 a2 c1 c2, RowI u a1 Z3 → RowI u a2 Z3 → N3 ≤ c1 → N3 ≤ c2 → Calls Try.prog 18 #[.slice a1 N3 c1, .slice a2 N3 c2] u fun r w' => r = .returned (.bool true) ∧ Below u.heap.size u w') := fun u a1 a2 c1 c2 h1 h2 h3 h4 => by
      have := sameInts_any Z3 Z3 a1 a2 c1 c2 u h1 h2 (by rw [← hN3.out]; omega) (by rw [← hN3.out]; omega) (by rw [← hN3.out]; exact h3) (by rw [← hN3.out]; exact h4)
      rwa [← hN3.out, decide_eq_true rfl] at this
    have K21a : Hid (∀ u g, Below w.heap.size w u → At 50 u g (flatE (lentE es)) → Calls Try.prog 21 #[.slice (some ⟨g, 0, none⟩) m1 (m1 + 3), .slice a m1 c1] u fun e w' => e = .returned (.bool true) ∧ Below u.heap.size u w') := fun u g hu hg => by
      rw [hm1.out]
      exact keptEvents_any a c1 g es u (hE.below hu) hg (by rw [← hm1.out]; omega)
    have K21b : Hid (∀ u g, Below w.heap.size w u → At 50 u g (flatE (lentE fs)) → Calls Try.prog 21 #[.slice (some ⟨g, 0, none⟩) m2 (m2 + 3), .slice b m2 c2] u fun e w' => e = .returned (.bool true) ∧ Below u.heap.size u w') := fun u g hu hg => by
      rw [hm2.out]
      exact keptEvents_any b c2 g fs u (hF.below hu) hg (by rw [← hm2.out]; omega)
    have K22 : Hid (∀ u g, Below w.heap.size w u → BlkI u g ((lentI zs).map I64) → Calls Try.prog 22 #[.slice (some ⟨g, 0, none⟩) m3 (m3 + 3), .slice d m3 c3] u fun e w' => e = .returned (.bool true) ∧ Below u.heap.size u w') := fun u g hu hg => by
      rw [hm3.out]
      exact keptInts_any d c3 g zs u (hZ.below hu) hg (by rw [← hm3.out]; omega)
    have HAA : Hid (∀ u, Calls Try.prog 23 #[] u fun r w' => r = .returned (.bool true) ∧ Below u.heap.size u w') := HA
    rw [← hm1.out, ← hm2.out, ← hm3.out]
    have HB : Hid (∀ u v, Below w.heap.size w u → Below u.heap.size u v → Below w.heap.size w v) := fun u v h1 h2 => h1.trans (h2.mono h1.size)
    clear HL HV HE HS hE hF hZ ho1 ho2 ho3 hc1 hc2 hc3 HA hW1 hZ1 hZ2 hZ3 hE1 hW2 hW3 hN1 hN3 hm1 hm2 hm3
    go_enter Try.func3, Try.ntmps3
    go_wp2_with (go_at_call 7; refine H7a.out.mono ?_; rintro _ w0 ⟨rfl, rfl⟩; refine Hid.out ?_)
    refine hidU ?_
    clear H7a
    go_wp2_with (go_at_call 7; refine H7b.out.mono ?_; rintro _ w0 ⟨rfl, rfl⟩; refine Hid.out ?_)
    refine hidU ?_
    clear H7b
    go_wp2_with (go_at_call 8; refine HLa.out.mono ?_; rintro _ w1 ⟨rfl, hA1, hb1⟩; refine Hid.out ?_)
    refine hidU ?_
    clear HLa
    obtain ⟨g1, hg1⟩ : ∃ g, g = w.heap.size := ⟨_, rfl⟩
    rw [← hg1] at hA1 ⊢
    have T1 : Hid (Stb w1 fun v => Below w.heap.size w v ∧ At 50 v g1 (flatE (lentE es))) := fun v hv => ⟨HB.out _ _ hb1 hv, hA1.below hv⟩
    clear hA1 hb1 hg1
    go_wp2_with (go_at_call 8; refine (HLb.out _ T1.out.now.1).mono ?_; rintro _ w2 ⟨rfl, hA2, hb2⟩; refine Hid.out ?_)
    refine hidU ?_
    obtain ⟨g2, hg2⟩ : ∃ g, g = w1.heap.size := ⟨_, rfl⟩
    rw [← hg2] at hA2 ⊢
    have T2 := hidU (T1.out.and hb2 (Q := fun v => At 50 v g2 (flatE (lentE fs))) fun v hv => hA2.below hv)
    clear hA2 hb2 hg2 T1 HLb
    go_wp2_with (go_at_call 9; refine (HLc.out _ T2.out.now.1.1).mono ?_; rintro _ w3 ⟨rfl, hA3, hb3⟩; refine Hid.out ?_)
    refine hidU ?_
    obtain ⟨g3, hg3⟩ : ∃ g, g = w2.heap.size := ⟨_, rfl⟩
    rw [← hg3] at hA3 ⊢
    have T3 : Hid (Stb w3 fun v => Below w.heap.size w v ∧ At 50 v g1 (flatE (lentE es)) ∧ At 50 v g2 (flatE (lentE fs)) ∧ BlkI v g3 ((lentI zs).map I64)) := fun v hv => by
      have h := T2.out.on hb3 v hv
      exact ⟨h.1.1, h.1.2, h.2, hA3.below hv⟩
    clear hA3 hb3 hg3 T2 HLc
    have U3 : Hid (Stb w3 fun v => Below w3.heap.size w3 v) := fun v hv => hv
    go_wp2_with (go_at_call 10; refine (H10.out _ _ T3.out.now.2.1).mono ?_; rintro _ w4 ⟨ap, cp, rfl, hcp, hr4, hz4, hb4⟩; refine Hid.out ?_)
    refine hidU ?_
    have T4 := hidU (T3.out.on hb4)
    have U4 := hidU (U3.out.and hb4 (Q := fun v => RowI v ap Z1 ∧ WrZ (fun k => w3.heap.size ≤ k ∧ k < w4.heap.size) v ap cp) fun v hv => ⟨hr4.below hv, hz4.lt.keep fun k hk => hv.block k hk.2⟩)
    have Q4 : Hid (w3.heap.size ≤ w4.heap.size) := hb4.size
    clear hr4 hz4 hb4 U3 H10
    go_wp2_with (go_at_call 11; refine (H11.out _ T4.out.now.1).mono ?_; rintro _ w5 ⟨aq, cq, rfl, hcq, hr5, hb5⟩; refine Hid.out ?_)
    refine hidU ?_
    have T5 := hidU (T4.out.on hb5)
    have U5 := hidU (U4.out.and hb5 (Q := fun v => RowI v aq Z1) fun v hv => hr5.below hv)
    have Q5 : Hid (w4.heap.size ≤ w5.heap.size) := hb5.size
    clear hr5 hb5 U4 T4 H11
    go_wp2_with (go_at_call 12; refine (H12.out _ _ T5.out.now.2.1).mono ?_; rintro _ w6 ⟨ar, cr, rb, rc, rfl, hcr, hr6, hb6⟩; refine Hid.out ?_)
    refine hidU ?_
    have T6 := hidU (T5.out.on hb6)
    have U6 := hidU (U5.out.and hb6 (Q := fun v => LvR (fun k => w5.heap.size ≤ k ∧ k < w6.heap.size) 0 v ar Z2 rb rc) fun v hv => hr6.lt.keep fun k hk => hv.block k hk.2)
    have Q6 : Hid (w5.heap.size ≤ w6.heap.size) := hb6.size
    clear hr6 hb6 U5 T5 H12
    go_wp2_with (go_at_call 13; refine (H13.out _ T6.out.now.1).mono ?_; rintro _ w7 ⟨ag, cg, rfl, hcg, hr7, hb7⟩; refine Hid.out ?_)
    refine hidU ?_
    have T7 := hidU (T6.out.on hb7)
    have U7 := hidU (U6.out.and hb7 (Q := fun v => RowID (fun k => w6.heap.size ≤ k ∧ k < w7.heap.size) v ag Z2 ∧ w7.heap.size ≤ v.heap.size) fun v hv => ⟨hr7.lt.keep fun k hk => hv.block k hk.2, hv.size⟩)
    have Q7 : Hid (w6.heap.size ≤ w7.heap.size) := hb7.size
    clear hr7 hb7 U6 T6 H13
    go_wp2_with (go_at_call 14; refine (H14.out _ _ _ T7.out.now.2.1 T7.out.now.2.2.1).mono ?_; rintro _ w8 ⟨rfl, hb8⟩; refine Hid.out ?_)
    refine hidU ?_
    have T8 := hidU (T7.out.on hb8)
    have U8 := hidU (U7.out.on hb8)
    have Q8 : Hid (w7.heap.size ≤ w8.heap.size) := hb8.size
    clear hb8 U7 T7 H14
    go_wp2_with (go_at_call 15; refine (H15.out _ T8.out.now.1).mono ?_; rintro _ w9 ⟨rfl, hb9⟩; refine Hid.out ?_)
    refine hidU ?_
    have T9 := hidU (T8.out.on hb9)
    have U9 := hidU (U8.out.on hb9)
    have Q9 : Hid (w7.heap.size ≤ w9.heap.size) := Nat.le_trans Q8.out hb9.size
    clear hb9 U8 T8 Q8 H15
    go_wp2_with (go_at_call 16; refine (H16.out _ _ _ T9.out.now.2.1 T9.out.now.2.2.2).mono ?_; rintro _ wa ⟨au, cu, rfl, hcu, hra, hza, hba⟩; refine Hid.out ?_)
    refine hidU ?_
    have Ta := hidU (T9.out.on hba)
    have Ua := hidU (U9.out.and hba (Q := fun v => RowI v au Z3 ∧ WrZ (fun k => w9.heap.size ≤ k ∧ k < wa.heap.size) v au cu) fun v hv => ⟨hra.below hv, hza.lt.keep fun k hk => hv.block k hk.2⟩)
    clear hra hza hba U9 T9 H16
    go_wp2_with (go_at_call 17; refine (H17.out _ Ta.out.now.1).mono ?_; rintro _ wb ⟨ak, ck, rfl, hck, hrb, hbb⟩; refine Hid.out ?_)
    refine hidU ?_
    have Tb := hidU (Ta.out.on hbb)
    have Ub := hidU (Ua.out.and hbb (Q := fun v => RowI v ak Z3) fun v hv => hrb.below hv)
    clear hrb hbb Ua Ta H17
    go_wp2_with (go_at_call 18; refine (S18a.out _ _ _ _ _ Ub.out.now.1.1.1.1.1.2.1 Ub.out.now.1.1.1.1.2 hcp hcq).mono ?_; rintro _ wc ⟨rfl, hbc⟩; refine Hid.out ?_)
    refine hidU ?_
    have Uc := hidU (Ub.out.on hbc)
    clear hbc Ub Tb S18a
    go_wp2_with (go_at_call 19; refine (S19.out _ _ _ _ _ Uc.out.now.1.1.1.2.rows Uc.out.now.1.1.2.1.rows hcr hcg).mono ?_; rintro _ wd ⟨rfl, hbd⟩; refine Hid.out ?_)
    refine hidU ?_
    have Ud := hidU (Uc.out.on hbd)
    clear hbd Uc S19
    go_wp2_with (go_at_call 18; refine (S18b.out _ _ _ _ _ Ud.out.now.1.2.1 Ud.out.now.2 hcu hck).mono ?_; rintro _ we ⟨rfl, hbe⟩; refine Hid.out ?_)
    refine hidU ?_
    have Ue := hidU (Ud.out.on hbe)
    clear hbe Ud S18b
    go_wp2_with (go_at_call 20; refine (over_z Ue.out.now.1.1.1.1.1.2.2 hcp).mono ?_; rintro _ wf ⟨rfl, hof⟩; refine Hid.out ?_)
    refine hidU ?_
    have Ff : Hid (Below w3.heap.size w3 wf ∧ LvR (fun k => w5.heap.size ≤ k ∧ k < w6.heap.size) 0 wf ar Z2 rb rc ∧ RowID (fun k => w6.heap.size ≤ k ∧ k < w7.heap.size) wf ag Z2 ∧ WrZ (fun k => w9.heap.size ≤ k ∧ k < wa.heap.size) wf au cu ∧ w7.heap.size ≤ wf.heap.size) := by
      obtain ⟨⟨⟨⟨⟨⟨h1, -, h2⟩, -⟩, h3⟩, h4, h6⟩, -, h5⟩, -⟩ := Ue.out.now
      have q5 := Q5.out
      have q6 := Q6.out
      have q7 := Q7.out
      have q9 := Q9.out
      exact ⟨h1.trans (hof.below h2 fun k hk => hk.1), h3.keep fun k hk => hof.stands h2 k (by intro hd; have := hd.2; have := hk.1; omega), h4.keep fun k hk => hof.stands h2 k (by intro hd; have := hd.2; have := hk.1; omega), h5.keep fun k hk => hof.stands h2 k (by intro hd; have := hd.2; have := hk.1; omega), by rw [hof.size]; exact h6⟩
    clear hof Ue
    go_wp2_with (go_at_call 20; refine (over_z Ff.out.2.2.2.1 hcu).mono ?_; rintro _ wg ⟨rfl, hog⟩; refine Hid.out ?_)
    refine hidU ?_
    have Fg : Hid (Below w3.heap.size w3 wg ∧ LvR (fun k => w5.heap.size ≤ k ∧ k < w6.heap.size) 0 wg ar Z2 rb rc ∧ RowID (fun k => w6.heap.size ≤ k ∧ k < w7.heap.size) wg ag Z2 ∧ w7.heap.size ≤ wg.heap.size) := by
      obtain ⟨h1, h3, h4, h2, h6⟩ := Ff.out
      have q4 := Q4.out
      have q5 := Q5.out
      have q6 := Q6.out
      have q7 := Q7.out
      have q9 := Q9.out
      exact ⟨h1.trans (hog.below h2 fun k hk => by have := hk.1; omega), h3.keep fun k hk => hog.stands h2 k (by intro hd; have := hd.1; have := hk.2; omega), h4.keep fun k hk => hog.stands h2 k (by intro hd; have := hd.1; have := hk.2; omega), by rw [hog.size]; exact h6⟩
    clear hog Ff
    have HD : Hid (w3.heap.size ≤ w5.heap.size) := Nat.le_trans Q4.out Q5.out
    clear Q4 Q5 Q9
    go_wp2_with fail
    go_loopw [28] (fun t wr => ∃ i : Nat, t = .int .i64 (i : Int) ∧ i ≤ N2 ∧ Hid (Below w3.heap.size w3 wr) ∧ Hid (LvR (fun k => w5.heap.size ≤ k ∧ k < w6.heap.size) i wr ar Z2 rb rc) ∧ Hid (RowID (fun k => w6.heap.size ≤ k ∧ k < w7.heap.size) wr ag Z2) ∧ Hid (w7.heap.size ≤ wr.heap.size)) (fun t _ => N2 - (intOf t).toNat)
    case atStart => exact ⟨0, rfl, Nat.zero_le _, Fg.out.1, Fg.out.2.1, Fg.out.2.2.1, Fg.out.2.2.2⟩
    case round =>
      obtain ⟨i, rfl, hi, hB, hL, hG, hS⟩ := hrel
      clear Fg
      by_cases hin : i < N2 ∧ i < 12
      · obtain ⟨hi1, hi2⟩ := hin
        have z4 : (i : Int) < (N2 : Int) := by omega
        have z5 : (i : Int) < 12 := by omega
        obtain ⟨x, hx⟩ : ∃ k, Z2[i]? = some k := ⟨Z2[i]'(by rw [← hN2.out]; exact hi1), by rw [List.getElem?_eq_getElem]⟩
        obtain ⟨gr, orr, rfl, hcell⟩ := hL.out.at i x hx
        have HO : Hid (Calls Try.prog 20 #[.slice (rb i) x.length (rc i)] wr fun e w' => e = .returned (.tuple #[]) ∧ OvC (rb i) (rc i) wr w') := over_z (hL.out.wr i (by rw [← hN2.out]; exact hi1)) (hL.out.len i x hx).1
        have HLS : Hid (∀ w', OvC (rb i) (rc i) wr w' → Below w3.heap.size w3 w' ∧ LvR (fun k => w5.heap.size ≤ k ∧ k < w6.heap.size) (i + 1) w' (some ⟨gr, orr, none⟩) Z2 rb rc ∧ RowID (fun k => w6.heap.size ≤ k ∧ k < w7.heap.size) w' ag Z2 ∧ w7.heap.size ≤ w'.heap.size) := fun w' ho => by
          have hz := hL.out.wr i (by rw [← hN2.out]; exact hi1)
          have q := HD.out
          exact ⟨hB.out.trans (ho.below hz fun k hk => by have := hk.1; omega), hL.out.step (by rw [← hN2.out]; exact hi1) ho, hG.out.keep fun k hk => ho.stands hz k (by intro hd; have := hd.2; have := hk.1; omega), by rw [ho.size]; exact hS.out⟩
        obtain ⟨lx, hlx⟩ : ∃ l, Hid (l = x.length) := ⟨_, (rfl : _ = x.length)⟩
        obtain ⟨bi, hbi⟩ : ∃ l, Hid (l = rb i) := ⟨_, (rfl : _ = rb i)⟩
        obtain ⟨ci, hci⟩ : ∃ l, Hid (l = rc i) := ⟨_, (rfl : _ = rc i)⟩
        rw [← hlx.out, ← hbi.out, ← hci.out] at hcell
        rw [← hlx.out, ← hbi.out, ← hci.out] at HO
        rw [← hbi.out, ← hci.out] at HLS
        clear hx hL hG hS hlx hbi hci
        go_wp2_with (go_at_call 20; refine HO.out.mono ?_; rintro _ wh ⟨rfl, hoh⟩; refine Hid.out ?_)
        refine hidU ?_
        have HN := hidU (HLS.out _ hoh)
        clear hoh HO HLS hcell hB
        obtain ⟨j, hj⟩ : ∃ j, Hid (j = i + 1) := ⟨_, (rfl : _ = i + 1)⟩
        have hwp : IntKind.i64.wrap ((i : Int) + 1) = (j : Int) := by rw [hj.out, IntKind.wrap_i64]; omega
        rw [← hj.out] at HN
        have hjn : j ≤ N2 := by rw [hj.out]; exact hi1
        by_cases hlt : j < N2
        · have z6 : (j : Int) < (N2 : Int) := by omega
          obtain ⟨y, hy⟩ : ∃ k, Z2[j]? = some k := ⟨Z2[j]'(by rw [← hN2.out]; exact hlt), by rw [List.getElem?_eq_getElem]⟩
          obtain ⟨gr2, or2, har2, hcr1⟩ := HN.out.2.1.at j y hy
          cases har2
          obtain hz0 | ⟨gg, og, rfl, hgd, hgc⟩ := HN.out.2.2.1
          · rw [hz0] at hy
            simp at hy
          obtain ⟨b2, k2, hcg1, hg2, hg3, hg4, -⟩ := hgc j y hy
          have HC : Hid (∀ u, Below wh.heap.size wh u → Calls Try.prog 18 #[.slice (rb j) y.length (rc j), .slice b2 y.length k2] u fun r w' => r = .returned (.bool true) ∧ Below u.heap.size u w') := fun u hu => by
            have h1 := (HN.out.2.1.row j y (Nat.le_refl _) hy).1
            have h2 := HN.out.2.1.len j y hy
            have := sameInts_any y y (rb j) b2 (rc j) k2 u (h1.below hu) (hg2.below hu) h2.2 hg4 h2.1 hg3
            rwa [decide_eq_true rfl] at this
          obtain ⟨ly, hly⟩ : ∃ l, Hid (l = y.length) := ⟨_, (rfl : _ = y.length)⟩
          obtain ⟨bj, hbj⟩ : ∃ l, Hid (l = rb j) := ⟨_, (rfl : _ = rb j)⟩
          obtain ⟨cj, hcj⟩ : ∃ l, Hid (l = rc j) := ⟨_, (rfl : _ = rc j)⟩
          rw [← hly.out, ← hbj.out, ← hcj.out] at hcr1
          rw [← hly.out] at hcg1
          rw [← hly.out, ← hbj.out, ← hcj.out] at HC
          clear hgd hgc hg2 hg3 hg4 hy hly hbj hcj
          go_wp2_with fail
          go_region_held3 (fun w' => w'.cell? ⟨gr, orr + j, none⟩ = some (.slice bj ly cj) ∧ w'.cell? ⟨gg, og + j, none⟩ = some (.slice b2 ly k2)) (first | exact ⟨hcr1, hcg1⟩ | exact ⟨(hbel2.cell (lt_of_cell hcr1)).trans hcr1, (hbel2.cell (lt_of_cell hcg1)).trans hcg1⟩) (first | (go_at_call 18; refine (HC.out _ (Below.refl _ wh).drew).mono ?_; rintro e w2 ⟨rfl, hbel2⟩))
          have HM : Hid (Below w3.heap.size w3 w2 ∧ LvR (fun k => w5.heap.size ≤ k ∧ k < w6.heap.size) j w2 (some ⟨gr, orr, none⟩) Z2 rb rc ∧ RowID (fun k => w6.heap.size ≤ k ∧ k < w7.heap.size) w2 (some ⟨gg, og, none⟩) Z2 ∧ w7.heap.size ≤ w2.heap.size) := by
            obtain ⟨h1, h2, h3, h4⟩ := HN.out
            have hbb := (Below.refl wh.heap.size wh).drew.trans hbel2
            have hs := h1.size
            have q := Q7.out
            exact ⟨h1.trans (hbb.mono hs), h2.keep fun k hk => hbb.block k (by have := hk.2; omega), h3.keep fun k hk => hbb.block k (by have := hk.2; omega), Nat.le_trans h4 hbb.size⟩
          clear hbel2 HN HC hcr1 hcg1
          go_wp2_with fail
          go_roundw
          case rel => exact ⟨j, by first | rfl | go_num, hjn, HM.out.1, HM.out.2.1, HM.out.2.2.1, HM.out.2.2.2⟩
          case measure => have := hj.out; simp [intOf]; omega
        · have z6 : ¬ (j : Int) < (N2 : Int) := by omega
          go_wp2_with fail
          go_quiet (fail)
          go_wp2_with fail
          go_roundw
          case rel => exact ⟨j, by first | rfl | go_num, hjn, below_drN HN.out.1 _, hidU (HN.out.2.1.keep fun _ _ => rfl), hidU (HN.out.2.2.1.keep fun _ _ => rfl), HN.out.2.2.2⟩
          case measure => have := hj.out; simp [intOf]; omega
      · have hx : ¬ i < N2 ∨ (i < N2 ∧ ¬ i < 12) := by omega
        clear hin hL hG hS
        have H3 := hidU (T3.out.on hB.out)
        clear hB T3
        rcases hx with h | ⟨h, h'⟩
        focus
          have z4 : ¬ (i : Int) < (N2 : Int) := by omega
          clear h
        rotate_left
        focus
          have z4 : (i : Int) < (N2 : Int) := by omega
          have z5 : ¬ (i : Int) < 12 := by omega
          clear h h'
        rotate_left
        all_goals
          go_wp2_with (go_at_call 21; refine (K21a.out _ _ H3.out.now.1 H3.out.now.2.1).mono ?_; rintro _ wi ⟨rfl, hbi⟩; refine Hid.out ?_)
          refine hidU ?_
          have H4 := hidU (H3.out.on hbi)
          clear hbi H3
          go_wp2_with (go_at_call 21; refine (K21b.out _ _ H4.out.now.1 H4.out.now.2.2.1).mono ?_; rintro _ wj ⟨rfl, hbj⟩; refine Hid.out ?_)
          refine hidU ?_
          have H5 := hidU (H4.out.on hbj)
          clear hbj H4
          go_wp2_with (go_at_call 22; refine (K22.out _ _ H5.out.now.1 H5.out.now.2.2.2).mono ?_; rintro _ wk ⟨rfl, hbk⟩; refine Hid.out ?_)
          refine hidU ?_
          have H6 := hidU (H5.out.on hbk)
          clear hbk H5
          go_wp2_with (go_at_call 23; refine (HAA.out _).mono ?_; rintro _ wl ⟨rfl, hbl⟩)
          go_ret
          exact ⟨rfl, HB.out _ _ H6.out.now.1 hbl⟩
end Go.Proofs.Ytbamocalhojmeaa

/- What the laws of norm want, from what norm tells. -/
namespace Go.Proofs.Ytbamocalhojmeaa
open Go.RowKit
theorem known_all : KnownOk := known_of least_s.less levels_s.less equivalent_t schedule_s.less
end Go.Proofs.Ytbamocalhojmeaa
