/- RaceTells: the walk, given what race.Races, race.Data, race.Pending and awake tell. -/
import Derived.Test.YtmkhobaclpiceaaJ27
namespace Go.Proofs.Ytmkhobaclpiceaa
open Go.RowKit
set_option linter.unusedVariables false
attribute [local go_sem ↓] Go.wp_at_zero Go.wp_at_succ

def raceZ (es : List Ev) (n : Int) : List (Nat × Nat) := if wrongZ es n = 0 then pairsL (raceP (evAt es)) es.length else []
def dataZ (es : List Ev) (n : Int) : List (Nat × Nat) := if wrongZ es n = 0 then pairsL (dataP (evAt es)) es.length else []
def pendZ (es : List Ev) (n : Int) (e : Ev) : List Int := if wrongZ (es ++ [e]) n = 0 then pendL (raceP (evAt (es ++ [e]))) es.length else []
theorem wrongZ_len {es : List Ev} {n : Int} (h : wrongZ es n = 0) : es.length ≤ 1024 := (wrongZ_ok h).2.2.1
theorem raceZ_length (es : List Ev) (n : Int) : (raceZ es n).length ≤ 1048576 := by
  unfold raceZ
  split
  · rename_i h
    have h1 := pairsL_length (raceP (evAt es)) es.length
    have h2 := Nat.mul_le_mul (wrongZ_len h) (wrongZ_len h)
    omega
  · simp
theorem dataZ_length (es : List Ev) (n : Int) : (dataZ es n).length ≤ 1048576 := by
  unfold dataZ
  split
  · rename_i h
    have h1 := pairsL_length (dataP (evAt es)) es.length
    have h2 := Nat.mul_le_mul (wrongZ_len h) (wrongZ_len h)
    omega
  · simp
theorem pendZ_length (es : List Ev) (n : Int) (e : Ev) : (pendZ es n e).length ≤ 1048576 := by
  unfold pendZ
  split
  · rename_i h
    have h1 := wrongZ_len h
    rw [List.length_append] at h1
    unfold pendL
    rw [List.length_map]
    have := List.length_filter_le (raceP (evAt (es ++ [e])) es.length) (List.range es.length)
    rw [List.length_range] at this
    omega
  · simp
/-- What a call tells: pairs and an error. -/
def TellsP (f : Nat) (Z : List Ev → Int → List (Nat × Nat)) : Prop := ∀ (es : List Ev) (n : Int) (a : Option Addr) (c : Nat) (w : World), RowEv w a es → (∀ x ∈ es, x.ok) → es.length ≤ 4611686018427387904 → es.length ≤ c →
  Calls Try.prog f #[.slice a es.length c, .int .i64 n] w fun r w' => ∃ ap cp, r = .returned (.tuple #[.slice ap (Z es n).length cp, .int .i64 (wrongZ es n)]) ∧ (Z es n).length ≤ cp ∧ RowP w' ap (Z es n) ∧ Below w.heap.size w w'
def TellsI (f : Nat) : Prop := ∀ (es : List Ev) (n : Int) (e : Ev) (a : Option Addr) (c : Nat) (w : World), RowEv w a es → (∀ x ∈ es, x.ok) → e.ok → es.length ≤ 1048000 → es.length ≤ c → (a = none → c = 0) →
  Calls Try.prog f #[.slice a es.length c, .int .i64 n, .agg e.cells.toArray] w fun r w' => ∃ ap cp, r = .returned (.tuple #[.slice ap (pendZ es n e).length cp, .int .i64 (wrongZ (es ++ [e]) n)]) ∧ (pendZ es n e).length ≤ cp ∧ RowI w' ap (pendZ es n e) ∧ Below w.heap.size w w'
theorem refRaces_tells : TellsP 9 raceZ := fun es n a c w hE hok hl hc => by
  unfold raceZ
  by_cases hw : wrongZ es n = 0
  · rw [if_pos hw]
    refine (refRaces_ok es n a c w hE hc hw).mono fun r w' ⟨v, d1, d2, d3⟩ => ?_
    obtain ⟨ap, cp, rfl, f2, f3⟩ := d2.row
    exact ⟨ap, cp, by rw [d1, hw], f2, f3, d3⟩
  · rw [if_neg hw]
    exact (refRaces_bad es n a c w hE hl hc hw).mono fun r w' ⟨d1, d3⟩ => ⟨none, 0, d1, Nat.le_refl _, .inl rfl, d3⟩
theorem refData_tells : TellsP 11 dataZ := fun es n a c w hE hok hl hc => by
  unfold dataZ
  by_cases hw : wrongZ es n = 0
  · rw [if_pos hw]
    refine (refData_ok es n a c w hE hc hw).mono fun r w' ⟨v, d1, d2, d3⟩ => ?_
    obtain ⟨ap, cp, rfl, f2, f3⟩ := d2.row
    exact ⟨ap, cp, by rw [d1, hw], f2, f3, d3⟩
  · rw [if_neg hw]
    exact (refData_bad es n a c w hE hl hc hw).mono fun r w' ⟨d1, d3⟩ => ⟨none, 0, d1, Nat.le_refl _, .inl rfl, d3⟩
theorem refPending_tells : TellsI 13 := fun es n e a c w hE hok he hl hc hnil => by
  unfold pendZ
  by_cases hw : wrongZ (es ++ [e]) n = 0
  · rw [if_pos hw]
    refine (refPending_ok es n e a c w hE hl hc hnil hw).mono fun r w' ⟨v, d1, d2, d3⟩ => ?_
    obtain ⟨ap, cp, rfl, f2, f3⟩ := d2.row
    exact ⟨ap, cp, by rw [d1, hw], f2, f3, d3⟩
  · rw [if_neg hw]
    exact (refPending_bad es n e a c w hE hl hc hnil hw).mono fun r w' ⟨d1, d3⟩ => ⟨none, 0, d1, Nat.le_refl _, .inl rfl, d3⟩
def AwakeOk : Prop := ∀ w : World, Calls Try.prog 17 #[] w fun r w' => r = .returned (.bool true) ∧ Below w.heap.size w w'

set_option maxRecDepth 100000 in
set_option maxHeartbeats 12800000 in
theorem raceTells_of (HR : TellsP 8 raceZ) (HD : TellsP 10 dataZ) (HP : TellsI 12) (HA : AwakeOk) (es : List Ev) (n : Int) (e : Ev) (a : Option Addr) (c : Nat) (w : World) (hE : RowEv w a es) (hok : ∀ x ∈ es, x.ok) (heo : e.ok) (hl : es.length ≤ 9223372036854775807) (hc : es.length ≤ c) (hnil : a = none → c = 0) :
    Calls Try.prog 3 #[.slice a es.length c, .int .i64 n, .agg e.cells.toArray] w fun r w' => r = .returned (.bool true) ∧ Below w.heap.size w w' := by
  have HB : Hid (∀ u v, Below w.heap.size w u → Below u.heap.size u v → Below w.heap.size w v) := fun u v h1 h2 => h1.trans (h2.mono h1.size)
  obtain ⟨m, hm⟩ : ∃ m, Hid (m = es.length) := ⟨_, (rfl : _ = es.length)⟩
  by_cases hout : (120 < m ∧ m < 1024) ∨ 1029 < m ∨ (m = 1024 ∧ 1 ≤ n ∧ n ≤ 16)
  · rw [← hm.out] at hl hc ⊢
    clear HR HD HP HA hE hok hnil
    obtain ⟨et, ek, eo⟩ := e
    simp only [Ev.cells]
    have hb1 : Below w.heap.size w (w.alloc (.cells #[.int .i64 et, .int .i64 ek, .int .i64 eo] 24)) := (Below.refl _ w).alloc (Nat.le_refl _) _
    rcases hout with ⟨h1, h2⟩ | h1 | ⟨h1, h2, h3⟩
    · have z1 : (120 : Int) < (m : Int) := by omega
      have z2 : (m : Int) < 1024 := by omega
      go_enter Try.func3, Try.ntmps3
      go_wp2_with fail
      go_ret
      exact ⟨rfl, hb1⟩
    · have z1 : (120 : Int) < (m : Int) := by omega
      have z2 : ¬ (m : Int) < 1024 := by omega
      have z3 : (1029 : Int) < (m : Int) := by omega
      go_enter Try.func3, Try.ntmps3
      go_wp2_with fail
      go_ret
      exact ⟨rfl, hb1⟩
    · subst h1
      go_enter Try.func3, Try.ntmps3
      go_wp2_with fail
      go_ret
      exact ⟨rfl, hb1⟩
  · have hm2 : m ≤ 1029 := by omega
    have HE : Hid (RowEv w a es ∧ (∀ x ∈ es, x.ok) ∧ e.ok) := ⟨hE, hok, heo⟩
    obtain ⟨W1, hW1⟩ : ∃ x, Hid (x = wrongZ es n) := ⟨_, (rfl : _ = wrongZ _ _)⟩
    obtain ⟨W2, hW2⟩ : ∃ x, Hid (x = wrongZ (es ++ [e]) n) := ⟨_, (rfl : _ = wrongZ _ _)⟩
    obtain ⟨Z1, hZ1⟩ : ∃ x, Hid (x = raceZ es n) := ⟨_, (rfl : _ = raceZ _ _)⟩
    obtain ⟨Z2, hZ2⟩ : ∃ x, Hid (x = dataZ es n) := ⟨_, (rfl : _ = dataZ _ _)⟩
    obtain ⟨Z3, hZ3⟩ : ∃ x, Hid (x = pendZ es n e) := ⟨_, (rfl : _ = pendZ _ _ _)⟩
    obtain ⟨N1, hN1⟩ : ∃ x, Hid (x = Z1.length) := ⟨_, (rfl : _ = Z1.length)⟩
    obtain ⟨N2, hN2⟩ : ∃ x, Hid (x = Z2.length) := ⟨_, (rfl : _ = Z2.length)⟩
    obtain ⟨N3, hN3⟩ : ∃ x, Hid (x = Z3.length) := ⟨_, (rfl : _ = Z3.length)⟩
    have b1 : N1 ≤ 1048576 := by rw [hN1.out, hZ1.out]; exact raceZ_length es n
    have b2 : N2 ≤ 1048576 := by rw [hN2.out, hZ2.out]; exact dataZ_length es n
    have b3 : N3 ≤ 1048576 := by rw [hN3.out, hZ3.out]; exact pendZ_length es n e
    have HL : Hid (∀ u, Below w.heap.size w u → Calls Try.prog 7 #[.slice a m c] u fun e w' => e = .returned (.slice (some ⟨u.heap.size, 0, none⟩) m (m + 3)) ∧ At 24 w' u.heap.size (flatE (lentE es)) ∧ Below u.heap.size u w') := fun u hu => by
      rw [hm.out]
      exact lentEvents_any a c es u (hE.below hu) (by rw [← hm.out]; omega)
    have H1 : Hid (∀ u b d, RowEv u b es → m ≤ d → Calls Try.prog 8 #[.slice b m d, .int .i64 n] u fun r w' => ∃ ap cp, r = .returned (.tuple #[.slice ap N1 cp, .int .i64 W1]) ∧ N1 ≤ cp ∧ RowP w' ap Z1 ∧ Below u.heap.size u w') := fun u b d hb hd => by
      have := HR es n b d u hb hok (by rw [← hm.out]; omega) (by rw [← hm.out]; exact hd)
      rwa [← hm.out, ← hZ1.out, ← hN1.out, ← hW1.out] at this
    have H2 : Hid (∀ u b d, RowEv u b es → m ≤ d → Calls Try.prog 9 #[.slice b m d, .int .i64 n] u fun r w' => ∃ ap cp, r = .returned (.tuple #[.slice ap N1 cp, .int .i64 W1]) ∧ N1 ≤ cp ∧ RowP w' ap Z1 ∧ Below u.heap.size u w') := fun u b d hb hd => by
      have := refRaces_tells es n b d u hb hok (by rw [← hm.out]; omega) (by rw [← hm.out]; exact hd)
      rwa [← hm.out, ← hZ1.out, ← hN1.out, ← hW1.out] at this
    have H3 : Hid (∀ u b d, RowEv u b es → m ≤ d → Calls Try.prog 10 #[.slice b m d, .int .i64 n] u fun r w' => ∃ ap cp, r = .returned (.tuple #[.slice ap N2 cp, .int .i64 W1]) ∧ N2 ≤ cp ∧ RowP w' ap Z2 ∧ Below u.heap.size u w') := fun u b d hb hd => by
      have := HD es n b d u hb hok (by rw [← hm.out]; omega) (by rw [← hm.out]; exact hd)
      rwa [← hm.out, ← hZ2.out, ← hN2.out, ← hW1.out] at this
    have H4 : Hid (∀ u b d, RowEv u b es → m ≤ d → Calls Try.prog 11 #[.slice b m d, .int .i64 n] u fun r w' => ∃ ap cp, r = .returned (.tuple #[.slice ap N2 cp, .int .i64 W1]) ∧ N2 ≤ cp ∧ RowP w' ap Z2 ∧ Below u.heap.size u w') := fun u b d hb hd => by
      have := refData_tells es n b d u hb hok (by rw [← hm.out]; omega) (by rw [← hm.out]; exact hd)
      rwa [← hm.out, ← hZ2.out, ← hN2.out, ← hW1.out] at this
    have H5 : Hid (∀ u b d, RowEv u b es → m ≤ d → (b = none → d = 0) → Calls Try.prog 12 #[.slice b m d, .int .i64 n, .agg e.cells.toArray] u fun r w' => ∃ ap cp, r = .returned (.tuple #[.slice ap N3 cp, .int .i64 W2]) ∧ N3 ≤ cp ∧ RowI w' ap Z3 ∧ Below u.heap.size u w') := fun u b d hb hd hbn => by
      have := HP es n e b d u hb hok heo (by rw [← hm.out]; omega) (by rw [← hm.out]; exact hd) hbn
      rwa [← hm.out, ← hZ3.out, ← hN3.out, ← hW2.out] at this
    have H6 : Hid (∀ u b d, RowEv u b es → m ≤ d → (b = none → d = 0) → Calls Try.prog 13 #[.slice b m d, .int .i64 n, .agg e.cells.toArray] u fun r w' => ∃ ap cp, r = .returned (.tuple #[.slice ap N3 cp, .int .i64 W2]) ∧ N3 ≤ cp ∧ RowI w' ap Z3 ∧ Below u.heap.size u w') := fun u b d hb hd hbn => by
      have := refPending_tells es n e b d u hb hok heo (by rw [← hm.out]; omega) (by rw [← hm.out]; exact hd) hbn
      rwa [← hm.out, ← hZ3.out, ← hN3.out, ← hW2.out] at this
    have S1 : Hid (∀ u a1 a2 c1 c2, RowP u a1 Z1 → RowP u a2 Z1 → N1 ≤ c1 → N1 ≤ c2 → Calls Try.prog 14 #[.slice a1 N1 c1, .slice a2 N1 c2] u fun r w' => r = .returned (.bool true) ∧ Below u.heap.size u w') := fun u a1 a2 c1 c2 h1 h2 h3 h4 => by
      have := same_any Z1 Z1 a1 a2 c1 c2 u h1 h2 (by rw [← hN1.out]; omega) (by rw [← hN1.out]; omega) (by rw [← hN1.out]; exact h3) (by rw [← hN1.out]; exact h4)
      rwa [← hN1.out, decide_eq_true rfl] at this
    have S2 : Hid (∀ u a1 a2 c1 c2, RowP u a1 Z2 → RowP u a2 Z2 → N2 ≤ c1 → N2 ≤ c2 → Calls Try.prog 14 #[.slice a1 N2 c1, .slice a2 N2 c2] u fun r w' => r = .returned (.bool true) ∧ Below u.heap.size u w') := fun u a1 a2 c1 c2 h1 h2 h3 h4 => by
      have := same_any Z2 Z2 a1 a2 c1 c2 u h1 h2 (by rw [← hN2.out]; omega) (by rw [← hN2.out]; omega) (by rw [← hN2.out]; exact h3) (by rw [← hN2.out]; exact h4)
      rwa [← hN2.out, decide_eq_true rfl] at this
    have S3 : Hid (∀ u a1 a2 c1 c2, RowI u a1 Z3 → RowI u a2 Z3 → N3 ≤ c1 → N3 ≤ c2 → Calls Try.prog 15 #[.slice a1 N3 c1, .slice a2 N3 c2] u fun r w' => r = .returned (.bool true) ∧ Below u.heap.size u w') := fun u a1 a2 c1 c2 h1 h2 h3 h4 => by
      have := sameInts_any Z3 Z3 a1 a2 c1 c2 u h1 h2 (by rw [← hN3.out]; omega) (by rw [← hN3.out]; omega) (by rw [← hN3.out]; exact h3) (by rw [← hN3.out]; exact h4)
      rwa [← hN3.out, decide_eq_true rfl] at this
    have S4 : Hid (∀ u g, Below w.heap.size w u → At 24 u g (flatE (lentE es)) → Calls Try.prog 16 #[.slice (some ⟨g, 0, none⟩) m (m + 3), .slice a m c] u fun e w' => e = .returned (.bool true) ∧ Below u.heap.size u w') := fun u g hu hg => by
      rw [hm.out]
      exact keptEvents_any a c g es u (hE.below hu) hg (by rw [← hm.out]; omega)
    rw [← hm.out] at hl hc ⊢
    clear HR HD HP hE hok heo
    obtain ⟨et, ek, eo⟩ := e
    simp only [Ev.cells] at H5 H6 ⊢
    have hcase : Hid ((m ≤ 120) ∨ (m = 1024 ∧ n < 1) ∨ (m = 1024 ∧ 16 < n) ∨ (1024 < m ∧ m ≤ 1029)) := by
      show _ ∨ _
      omega
    clear hout
    go_enter Try.func3, Try.ntmps3
    go_wp2_with (first | (refine wpList_box_at rfl 24 (.tmp 2) rfl [.int .i64 et, .int .i64 ek, .int .i64 eo] rfl ?_; intro w1 hA1 hb1 hs1; refine Hid.out ?_))
    refine hidU ?_
    have HB1 : Hid (Below w.heap.size w w1) := hb1
    obtain ⟨b5, hb5⟩ : ∃ b, b = w.heap.size := ⟨_, rfl⟩
    rw [← hb5] at hA1 ⊢
    have HA1 : Hid (At 24 w1 b5 [.int .i64 et, .int .i64 ek, .int .i64 eo]) := hA1
    clear hA1 hb1 hs1 hb5
    rcases hcase.out with h1 | ⟨h1, h2⟩ | ⟨h1, h2⟩ | ⟨h1, h2⟩
    focus
      have z1 : ¬ (120 : Int) < (m : Int) := by omega
      have z2 : ¬ (1029 : Int) < (m : Int) := by omega
      have z3 : ¬ (m : Int) = 1024 := by omega
      have z4 : ((m : Int) == 1024) = false := by rw [beq_eq_false_iff_ne]; omega
      clear h1
    rotate_left
    focus
      subst h1
      have z1 : ¬ (1 : Int) ≤ n := by omega
    rotate_left
    focus
      subst h1
      have z1 : (1 : Int) ≤ n := by omega
      have z2 : ¬ n ≤ (16 : Int) := by omega
    rotate_left
    focus
      have z1 : (120 : Int) < (m : Int) := by omega
      have z2 : ¬ (m : Int) < 1024 := by omega
      have z3 : ¬ (1029 : Int) < (m : Int) := by omega
      have z4 : ¬ (m : Int) = 1024 := by omega
      have z5 : ((m : Int) == 1024) = false := by rw [beq_eq_false_iff_ne]; omega
      clear h1 h2
    rotate_left
    all_goals
      clear hcase
      go_wp2_with (first | (go_at_call 7; refine (HL.out _ HB1.out).mono ?_; rintro _ w2 ⟨rfl, hA2, hb2⟩; refine Hid.out ?_))
      refine hidU ?_
      obtain ⟨g2, hg2⟩ : ∃ g, g = w1.heap.size := ⟨_, rfl⟩
      rw [← hg2] at hA2 ⊢
      have HA2 : Hid (At 24 w2 g2 (flatE (lentE es))) := hA2
      have HB2 : Hid (Below w.heap.size w w2) := HB.out _ _ HB1.out hb2
      have HE2 : Hid (At 24 w2 b5 [.int .i64 et, .int .i64 ek, .int .i64 eo]) := HA1.out.below hb2
      clear hA2 hb2 hg2 HA1 HB1 HL
      go_wp2_with (first | (go_at_call 8; refine (H1.out _ _ _ (rowEv_lent HA2.out) (by omega)).mono ?_; rintro _ w3 ⟨a1, c1, rfl, hc1, hr1, hb3⟩; refine Hid.out ?_))
      refine hidU ?_
      have HB3 : Hid (Below w.heap.size w w3) := HB.out _ _ HB2.out hb3
      have HA3 : Hid (At 24 w3 g2 (flatE (lentE es))) := HA2.out.below hb3
      have HE3 : Hid (At 24 w3 b5 [.int .i64 et, .int .i64 ek, .int .i64 eo]) := HE2.out.below hb3
      have R13 : Hid (RowP w3 a1 Z1) := hr1
      clear hr1 hb3 HA2 HB2 HE2 H1
      go_wp2_with (first | (go_at_call 9; refine (H2.out _ _ _ (HE.out.1.below HB3.out) hc).mono ?_; rintro _ w4 ⟨a2, c2, rfl, hc2, hr2, hb4⟩; refine Hid.out ?_))
      refine hidU ?_
      have HB4 : Hid (Below w.heap.size w w4) := HB.out _ _ HB3.out hb4
      have HA4 : Hid (At 24 w4 g2 (flatE (lentE es))) := HA3.out.below hb4
      have HE4 : Hid (At 24 w4 b5 [.int .i64 et, .int .i64 ek, .int .i64 eo]) := HE3.out.below hb4
      have R14 : Hid (RowP w4 a1 Z1) := R13.out.below hb4
      have R24 : Hid (RowP w4 a2 Z1) := hr2
      clear hr2 hb4 HA3 HB3 HE3 H2 R13
      go_wp2_with (first | (go_at_call 10; refine (H3.out _ _ _ (rowEv_lent HA4.out) (by omega)).mono ?_; rintro _ w5 ⟨a3, c3, rfl, hc3, hr3, hb5⟩; refine Hid.out ?_))
      refine hidU ?_
      have HB5 : Hid (Below w.heap.size w w5) := HB.out _ _ HB4.out hb5
      have HA5 : Hid (At 24 w5 g2 (flatE (lentE es))) := HA4.out.below hb5
      have HE5 : Hid (At 24 w5 b5 [.int .i64 et, .int .i64 ek, .int .i64 eo]) := HE4.out.below hb5
      have R15 : Hid (RowP w5 a1 Z1) := R14.out.below hb5
      have R25 : Hid (RowP w5 a2 Z1) := R24.out.below hb5
      have R35 : Hid (RowP w5 a3 Z2) := hr3
      clear hr3 hb5 HA4 HB4 HE4 H3 R14 R24
      go_wp2_with (first | (go_at_call 11; refine (H4.out _ _ _ (HE.out.1.below HB5.out) hc).mono ?_; rintro _ w6 ⟨a4, c4, rfl, hc4, hr4, hb6⟩; refine Hid.out ?_))
      refine hidU ?_
      have HB6 : Hid (Below w.heap.size w w6) := HB.out _ _ HB5.out hb6
      have HA6 : Hid (At 24 w6 g2 (flatE (lentE es))) := HA5.out.below hb6
      have R16 : Hid (RowP w6 a1 Z1) := R15.out.below hb6
      have R26 : Hid (RowP w6 a2 Z1) := R25.out.below hb6
      have R36 : Hid (RowP w6 a3 Z2) := R35.out.below hb6
      have R46 : Hid (RowP w6 a4 Z2) := hr4
      have HE6 : Hid (At 24 w6 b5 [.int .i64 et, .int .i64 ek, .int .i64 eo]) := HE5.out.below hb6
      clear hr4 hb6 HA5 HB5 HE5 H4 R15 R25 R35
      have x0 : w6.cell? ⟨b5, 0, none⟩ = some (.int .i64 et) := HE6.out.cell 0
      have x1 : w6.cell? ⟨b5, 1, none⟩ = some (.int .i64 ek) := HE6.out.cell 1
      have x2 : w6.cell? ⟨b5, 2, none⟩ = some (.int .i64 eo) := HE6.out.cell 2
      go_wp2_with (first | (go_at_call 12; refine (H5.out _ _ _ (rowEv_lent HA6.out) (by omega) (fun h => by cases h)).mono ?_; rintro _ w7 ⟨a5, c5, rfl, hc5, hr5, hb7⟩; refine Hid.out ?_))
      refine hidU ?_
      clear x0 x1 x2
      have HB7 : Hid (Below w.heap.size w w7) := HB.out _ _ HB6.out hb7
      have HA7 : Hid (At 24 w7 g2 (flatE (lentE es))) := HA6.out.below hb7
      have R17 : Hid (RowP w7 a1 Z1) := R16.out.below hb7
      have R27 : Hid (RowP w7 a2 Z1) := R26.out.below hb7
      have R37 : Hid (RowP w7 a3 Z2) := R36.out.below hb7
      have R47 : Hid (RowP w7 a4 Z2) := R46.out.below hb7
      have R57 : Hid (RowI w7 a5 Z3) := hr5
      have HE7 : Hid (At 24 w7 b5 [.int .i64 et, .int .i64 ek, .int .i64 eo]) := HE6.out.below hb7
      clear hr5 hb7 HA6 HB6 HE6 H5 R16 R26 R36 R46
      have x0 : w7.cell? ⟨b5, 0, none⟩ = some (.int .i64 et) := HE7.out.cell 0
      have x1 : w7.cell? ⟨b5, 1, none⟩ = some (.int .i64 ek) := HE7.out.cell 1
      have x2 : w7.cell? ⟨b5, 2, none⟩ = some (.int .i64 eo) := HE7.out.cell 2
      go_wp2_with (first | (go_at_call 13; refine (H6.out _ _ _ (HE.out.1.below HB7.out) hc hnil).mono ?_; rintro _ w8 ⟨a6, c6, rfl, hc6, hr6, hb8⟩; refine Hid.out ?_))
      refine hidU ?_
      clear x0 x1 x2
      have HB8 : Hid (Below w.heap.size w w8) := HB.out _ _ HB7.out hb8
      have HA8 : Hid (At 24 w8 g2 (flatE (lentE es))) := HA7.out.below hb8
      have R18 : Hid (RowP w8 a1 Z1) := R17.out.below hb8
      have R28 : Hid (RowP w8 a2 Z1) := R27.out.below hb8
      have R38 : Hid (RowP w8 a3 Z2) := R37.out.below hb8
      have R48 : Hid (RowP w8 a4 Z2) := R47.out.below hb8
      have R58 : Hid (RowI w8 a5 Z3) := R57.out.below hb8
      have R68 : Hid (RowI w8 a6 Z3) := hr6
      clear hr6 hb8 HA7 HB7 HE7 H6 R17 R27 R37 R47 R57
      go_wp2_with (first | (go_at_call 14; refine (S1.out _ _ _ _ _ R18.out R28.out hc1 hc2).mono ?_; rintro _ w9 ⟨rfl, hb9⟩; refine Hid.out ?_))
      refine hidU ?_
      have HB9 : Hid (Below w.heap.size w w9) := HB.out _ _ HB8.out hb9
      have HA9 : Hid (At 24 w9 g2 (flatE (lentE es))) := HA8.out.below hb9
      have R39 : Hid (RowP w9 a3 Z2) := R38.out.below hb9
      have R49 : Hid (RowP w9 a4 Z2) := R48.out.below hb9
      have R59 : Hid (RowI w9 a5 Z3) := R58.out.below hb9
      have R69 : Hid (RowI w9 a6 Z3) := R68.out.below hb9
      clear hb9 HA8 HB8 R18 R28 R38 R48 R58 R68 S1
      go_wp2_with (first | (go_at_call 14; refine (S2.out _ _ _ _ _ R39.out R49.out hc3 hc4).mono ?_; rintro _ wa ⟨rfl, hba⟩; refine Hid.out ?_))
      refine hidU ?_
      have HBa : Hid (Below w.heap.size w wa) := HB.out _ _ HB9.out hba
      have HAa : Hid (At 24 wa g2 (flatE (lentE es))) := HA9.out.below hba
      have R5a : Hid (RowI wa a5 Z3) := R59.out.below hba
      have R6a : Hid (RowI wa a6 Z3) := R69.out.below hba
      clear hba HA9 HB9 R39 R49 R59 R69 S2
      go_wp2_with (first | (go_at_call 15; refine (S3.out _ _ _ _ _ R5a.out R6a.out hc5 hc6).mono ?_; rintro _ wb ⟨rfl, hbb⟩; refine Hid.out ?_))
      refine hidU ?_
      have HBb : Hid (Below w.heap.size w wb) := HB.out _ _ HBa.out hbb
      have HAb : Hid (At 24 wb g2 (flatE (lentE es))) := HAa.out.below hbb
      clear hbb HAa HBa R5a R6a S3
      go_wp2_with (first | (go_at_call 16; refine (S4.out _ _ HBb.out HAb.out).mono ?_; rintro _ wc ⟨rfl, hbc⟩; refine Hid.out ?_))
      refine hidU ?_
      have HBc : Hid (Below w.heap.size w wc) := HB.out _ _ HBb.out hbc
      clear hbc HAb HBb S4
      go_wp2_with (first | (go_at_call 17; refine (HA wc).mono ?_; rintro _ wd ⟨rfl, hbd⟩))
      go_ret
      exact ⟨rfl, HB.out _ _ HBc.out hbd⟩
end Go.Proofs.Ytmkhobaclpiceaa
