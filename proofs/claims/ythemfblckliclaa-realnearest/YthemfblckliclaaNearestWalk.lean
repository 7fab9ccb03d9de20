/- The real of a great whole number, and the law RealNearest, walked. -/
import Derived.Test.YthemfblckliclaaWholeWalk
namespace Go.Proofs.Ythemfblckliclaa
open Ieee Go.RowKit
set_option linter.unusedVariables false

/-- The real of a whole number above 2^53 in size. -/
theorem ofInt_great (n : Int) (h1 : 9007199254740992 ≤ n.natAbs) (h2 : n.natAbs ≤ 9223372036854775808) :
    ∃ d : Nat, 1 ≤ d ∧ d ≤ 11 ∧ pw (52 + d) ≤ n.natAbs ∧ n.natAbs < pw (53 + d) ∧ Whole (ofInt n) (if n < 0 then -((rne n.natAbs d * pw d : Nat) : Int) else ((rne n.natAbs d * pw d : Nat) : Int)) := by
  have h0 : n.natAbs ≠ 0 := by omega
  obtain ⟨b1, b2⟩ := log2_bounds _ h0
  have l1 : 53 ≤ n.natAbs.log2 := (Nat.le_log2 h0).2 h1
  have l2 : n.natAbs.log2 < 64 := (Nat.log2_lt h0).2 (by omega)
  refine ⟨n.natAbs.log2 - 52, by omega, by omega, ?_, ?_, isNan_nearest _ _ _, ?_⟩
  · rw [show 52 + (n.natAbs.log2 - 52) = n.natAbs.log2 by omega]; exact b1
  · rw [show 53 + (n.natAbs.log2 - 52) = n.natAbs.log2 + 1 by omega]; exact b2
  · obtain ⟨m, e, hr, hm⟩ := nearest_read (decide (n < 0)) n.natAbs 0 h0 (by omega)
    have hl : lastOf n.natAbs 0 = ((n.natAbs.log2 - 52 : Nat) : Int) := by unfold lastOf; omega
    have hk : keptOf n.natAbs 0 = rne n.natAbs (n.natAbs.log2 - 52) := by
      unfold keptOf
      rw [hl, show (0 - ((n.natAbs.log2 - 52 : Nat) : Int)).toNat = 0 by omega, show pw 0 = 1 from rfl, Nat.mul_one]
      congr 1
    rw [hk, hl] at hm
    have hv : val (ofInt n) = signed (decide (n < 0)) m (e + 1074).toNat := by
      unfold val
      show worth (D.read (D.nearest (decide (n < 0)) n.natAbs 0)) = _
      rw [hr]; rfl
    rw [hv, signed_eq, hm, show (((n.natAbs.log2 - 52 : Nat) : Int) + 1074).toNat = (n.natAbs.log2 - 52) + 1074 by omega, pw_add, ← Nat.mul_assoc]
    generalize rne n.natAbs (n.natAbs.log2 - 52) * pw (n.natAbs.log2 - 52) = X
    unfold U
    generalize pw 1074 = K
    by_cases hn : n < 0
    · simp [hn, Int.neg_mul]
    · simp [hn]

/-- What the law asks of a real's whole number. -/
def NearOk (n z : Int) (S : Nat) : Prop := z.tmod (S : Int) = 0 ∧ (2 * ((n - z).natAbs : Int) < S ∨ (2 * ((n - z).natAbs : Int) = S ∧ (z.tdiv (S : Int)).tmod 2 = 0))

/-- Where the steps stand. -/
theorem near_ok (n z : Int) (d k : Nat) (hn : 9007199254740992 ≤ n.natAbs) (hb1 : pw (52 + d) ≤ n.natAbs) (hb2 : n.natAbs < pw (53 + d)) (hd : 1 ≤ d) (hd11 : d ≤ 11) (hk : k ≤ 10)
    (hn1 : -9223372036854775808 ≤ n) (hn2 : n ≤ 9223372036854775807)
    (hz : z = if n < 0 then -((rne n.natAbs d * pw d : Nat) : Int) else ((rne n.natAbs d * pw d : Nat) : Int))
    (hlo : k = 0 ∨ ((pw (52 + k) : Nat) : Int) ≤ n ∨ n < -((pw (52 + k) : Nat) : Int)) (hhi : k = 10 ∨ (n < ((pw (53 + k) : Nat) : Int) ∧ -((pw (53 + k) : Nat) : Int) ≤ n)) : NearOk n z (pw k) := by
  have p0 := pw_pos d
  by_cases hkd : k = d
  · subst hkd
    obtain ⟨r1, r2⟩ := rne_near n.natAbs k
    have r3 := rne_tie n.natAbs k
    generalize rne n.natAbs k = K at *
    generalize pw k = P at *
    have hdiv : z = (if n < 0 then -(K : Int) else (K : Int)) * (P : Int) := by
      rw [hz]; split <;> simp [Int.neg_mul]
    have habs : (n - z).natAbs = n.natAbs - K * P ∨ (n - z).natAbs = K * P - n.natAbs := by rw [hz]; split <;> omega
    have habs2 : ((n - z).natAbs : Int) = (n.natAbs : Int) - ((K * P : Nat) : Int) ∨ ((n - z).natAbs : Int) = ((K * P : Nat) : Int) - (n.natAbs : Int) := by rw [hz]; split <;> omega
    refine ⟨by rw [hdiv]; exact Int.mul_tmod_left _ _, ?_⟩
    generalize K * P = Z at *
    by_cases he : 2 * ((n - z).natAbs : Int) = P
    · right
      refine ⟨he, ?_⟩
      have hK : K % 2 = 0 := r3 (by omega)
      rw [hdiv, Int.mul_tdiv_cancel _ (by omega)]
      split
      · rw [Int.neg_tmod, Int.tmod_eq_emod_of_nonneg (by omega)]; omega
      · rw [Int.tmod_eq_emod_of_nonneg (by omega)]; omega
    · left; omega
  · -- the number is a power of two, and exact
    have hex : n.natAbs = pw (52 + d) ∧ k < d := by
      rcases Nat.lt_or_gt_of_ne hkd with h | h
      · refine ⟨?_, h⟩
        by_cases hk10 : k = 10
        · have hd1 : d = 11 := by omega
          subst hd1
          have e : pw (52 + 11) = 9223372036854775808 := rfl
          omega
        · have e : pw (53 + k) ≤ pw (52 + d) := pw_le (by omega)
          generalize pw (53 + k) = X at *
          generalize pw (52 + d) = Y at *
          omega
      · exfalso
        have e : pw (53 + d) ≤ pw (52 + k) := pw_le (by omega)
        generalize pw (52 + k) = X at *
        generalize pw (53 + d) = Y at *
        omega
    obtain ⟨hN, hlt⟩ := hex
    have hr : rne n.natAbs d = pw 52 := by
      have := rne_scale (pw 52) d 0
      rw [Nat.zero_add, rne_zero, ← pw_add, ← hN] at this
      exact this
    have hz2 : z = n := by
      rw [hz, hr, ← pw_add, ← hN]
      split <;> omega
    rw [hz2]
    have hP := pw_pos k
    refine ⟨?_, .inl ?_⟩
    · have e : pw (52 + d) = pw (52 + d - k) * pw k := by rw [← pw_add]; congr 1; omega
      rw [e] at hN
      generalize pw (52 + d - k) = X at hN
      generalize pw k = P at hN
      have : n = (if n < 0 then -(X : Int) else (X : Int)) * (P : Int) := by
        have e2 : ((X * P : Nat) : Int) = (X : Int) * (P : Int) := by simp
        generalize X * P = Z at hN e2
        split
        · rw [Int.neg_mul, ← e2]; omega
        · rw [← e2]; omega
      rw [this]; exact Int.mul_tmod_left _ _
    · rw [Int.sub_self]; simp; omega

set_option maxRecDepth 100000 in
set_option maxHeartbeats 1600000 in
theorem nearest_small (n : Int) (h1 : -9007199254740992 < n) (h2 : n < 9007199254740992) (w : World) : Calls Try.prog 8 #[.int .i64 n] w fun e w' => e = .returned (.bool true) ∧ Below w.heap.size w w' := by
  have wx := ofInt_whole n (by omega)
  have t1 := toInt_whole wx (by omega) (by omega)
  obtain ⟨A, hA⟩ : ∃ A, A = ofInt n := ⟨_, rfl⟩
  rw [← hA] at t1
  have k1 : ∀ w, Calls Try.prog 29 #[.int .i64 n] w fun e w' => e = .returned (.int .u64 (A : Int)) ∧ w' = w := fun w => by rw [hA]; exact fromInt_any n w
  have k5 : ∀ w, Calls Try.prog 9 #[.int .u64 (A : Int)] w fun e w' => e = .returned (.tuple #[.int .i64 n, .bool true]) ∧ w' = w := fun w => by have := toInt_any A w; rw [t1] at this; exact this
  clear wx t1 hA
  go_enter Try.func8, Try.ntmps8
  go_wp2_with fail
  refine (awake_any _).mono ?_
  rintro e w1 ⟨rfl, hb1⟩
  go_wp2_with fail
  refine (k1 _).mono ?_
  rintro e w' ⟨rfl, rfl⟩
  go_wp2_with fail
  refine (k5 _).mono ?_
  rintro e w' ⟨rfl, rfl⟩
  go_wp2
  go_ret
  exact ⟨rfl, hb1⟩

set_option maxRecDepth 100000 in
set_option maxHeartbeats 1600000 in
theorem nearest_top (n z : Int) (h1 : 9007199254740992 ≤ n) (h2 : 9223372036854775295 < n) (hz : Whole (ofInt n) z) (hz2 : 9223372036854775808 ≤ z) (w : World) : Calls Try.prog 8 #[.int .i64 n] w fun e w' => e = .returned (.bool true) ∧ Below w.heap.size w w' := by
  have t1 := toInt_great hz hz2
  obtain ⟨A, hA⟩ : ∃ A, A = ofInt n := ⟨_, rfl⟩
  rw [← hA] at t1
  have k1 : ∀ w, Calls Try.prog 29 #[.int .i64 n] w fun e w' => e = .returned (.int .u64 (A : Int)) ∧ w' = w := fun w => by rw [hA]; exact fromInt_any n w
  have k5 : ∀ w, Calls Try.prog 9 #[.int .u64 (A : Int)] w fun e w' => e = .returned (.tuple #[.int .i64 0, .bool false]) ∧ w' = w := fun w => by have := toInt_any A w; rw [t1] at this; exact this
  clear hz t1 hA hz2
  go_enter Try.func8, Try.ntmps8
  go_wp2_with fail
  refine (awake_any _).mono ?_
  rintro e w1 ⟨rfl, hb1⟩
  go_wp2_with fail
  refine (k1 _).mono ?_
  rintro e w' ⟨rfl, rfl⟩
  go_wp2_with fail
  refine (k5 _).mono ?_
  rintro e w' ⟨rfl, rfl⟩
  go_wp2
  go_ret
  exact ⟨rfl, hb1⟩

set_option maxRecDepth 100000 in
set_option maxHeartbeats 3200000 in
theorem nearest_mid (n z : Int) (h0 : n ≤ -9007199254740992 ∨ 9007199254740992 ≤ n) (h1 : -9223372036854775808 ≤ n) (h2 : n ≤ 9223372036854775807) (hz : Whole (ofInt n) z) (hz1 : -9223372036854775808 ≤ z) (hz2 : z < 9223372036854775808)
    (hclose : (n - z).natAbs ≤ 2048)
    (hok : Hid (∀ k : Nat, k ≤ 10 → (k = 0 ∨ ((pw (52 + k) : Nat) : Int) ≤ n ∨ n < -((pw (52 + k) : Nat) : Int)) → (k = 10 ∨ (n < ((pw (53 + k) : Nat) : Int) ∧ -((pw (53 + k) : Nat) : Int) ≤ n)) → NearOk n z (pw k))) (w : World) :
    Calls Try.prog 8 #[.int .i64 n] w fun e w' => e = .returned (.bool true) ∧ Below w.heap.size w w' := by
  have t1 := toInt_whole hz hz1 hz2
  obtain ⟨A, hA⟩ : ∃ A, A = ofInt n := ⟨_, rfl⟩
  rw [← hA] at t1
  have k1 : ∀ w, Calls Try.prog 29 #[.int .i64 n] w fun e w' => e = .returned (.int .u64 (A : Int)) ∧ w' = w := fun w => by rw [hA]; exact fromInt_any n w
  have k5 : ∀ w, Calls Try.prog 9 #[.int .u64 (A : Int)] w fun e w' => e = .returned (.tuple #[.int .i64 z, .bool true]) ∧ w' = w := fun w => by have := toInt_any A w; rw [t1] at this; exact this
  clear hz t1 hA
  have c1 : (decide (-9007199254740992 < n) && decide (n < 9007199254740992)) = false := by
    rw [Bool.and_eq_false_iff, decide_eq_false_iff_not, decide_eq_false_iff_not]; omega
  go_enter Try.func8, Try.ntmps8
  go_wp2_with fail
  refine (awake_any _).mono ?_
  rintro e w1 ⟨rfl, hb1⟩
  go_wp2_with fail
  refine (k1 _).mono ?_
  rintro e w' ⟨rfl, rfl⟩
  go_wp2_with fail
  refine (k5 _).mono ?_
  rintro e w' ⟨rfl, rfl⟩
  go_wp2
  all_goals
    go_loopw [6, 7] (fun st kk wr => ∃ k P : Nat, k ≤ 10 ∧ Hid (P = pw k) ∧ st = .int .i64 (P : Int) ∧ kk = .int .i64 (k : Int) ∧ Hid (k = 0 ∨ ((pw (52 + k) : Nat) : Int) ≤ n ∨ n < -((pw (52 + k) : Nat) : Int)) ∧ wr = w') (fun _ kk _ => 11 - (intOf kk).toNat)
    case atStart => exact ⟨0, 1, by omega, (rfl : 1 = pw 0), rfl, rfl, (Or.inl rfl : _ ∨ _), rfl⟩
    case round =>
      obtain ⟨k, P, hk, hP, rfl, rfl, hlo, rfl⟩ := hrel
      have hPp : 0 < P := by rw [hP.out]; exact pw_pos _
      have hPle : P ≤ 1024 := by rw [hP.out]; exact pw_le hk
      have e53 : pw (53 + k) = 9007199254740992 * P := by rw [pw_add, hP.out]; rfl
      by_cases hk10 : k < 10
      · have hPle2 : P ≤ 512 := by rw [hP.out]; exact pw_le (show k ≤ 9 by omega)
        by_cases c2 : 9007199254740992 * (P : Int) ≤ n
        · have HL : Hid (k + 1 = 0 ∨ ((pw (52 + (k + 1)) : Nat) : Int) ≤ n ∨ n < -((pw (52 + (k + 1)) : Nat) : Int)) := by
            show _ ∨ _
            right; left
            rw [show 52 + (k + 1) = 53 + k by omega, e53]
            omega
          have HP : Hid (2 * P = pw (k + 1)) := by
            show _ = _
            rw [pw_add, hP.out, Nat.mul_comm]; rfl
          clear hlo e53
          first
          | (exfalso; omega)
          | (go_wp2
             go_roundw
             case rel => exact ⟨k + 1, 2 * P, by omega, HP, by go_num, by go_num, HL, by simp⟩
             case measure => simp [intOf]; omega)
        · by_cases c3 : n < -9007199254740992 * (P : Int)
          · have HL : Hid (k + 1 = 0 ∨ ((pw (52 + (k + 1)) : Nat) : Int) ≤ n ∨ n < -((pw (52 + (k + 1)) : Nat) : Int)) := by
              show _ ∨ _
              right; right
              rw [show 52 + (k + 1) = 53 + k by omega, e53]
              omega
            have HP : Hid (2 * P = pw (k + 1)) := by
              show _ = _
              rw [pw_add, hP.out, Nat.mul_comm]; rfl
            clear hlo e53
            first
            | (exfalso; omega)
            | (go_wp2
               go_roundw
               case rel => exact ⟨k + 1, 2 * P, by omega, HP, by go_num, by go_num, HL, by simp⟩
               case measure => simp [intOf]; omega)
          · have hN := hok.out k hk hlo.out (.inr ⟨by rw [e53]; omega, by rw [e53]; omega⟩)
            rw [← hP.out] at hN
            clear hlo e53

            obtain ⟨f0, f1⟩ := hN
            have g0 : (z.tmod (P : Int) == 0) = true := by rw [f0]; rfl
            obtain ⟨Q, hQ⟩ : ∃ Q, z.tdiv (P : Int) = Q := ⟨_, rfl⟩
            have hQn : Q.natAbs = z.natAbs / P := by rw [← hQ, Int.natAbs_tdiv]; rfl
            have hQa : Q.natAbs ≤ z.natAbs := by rw [hQn]; exact Nat.div_le_self _ _
            have hQ1 : -9223372036854775808 ≤ Q := by omega
            have hQ2 : Q ≤ 9223372036854775808 := by omega
            rw [hQ] at f1
            have hP0 : ¬ (P : Int) = 0 := by omega
            have hP0n : ¬ P = 0 := by omega
            rcases f1 with f1 | ⟨f1, f2⟩
            · by_cases hd : n - z < 0
              · have g1 : 2 * -(n - z) < (P : Int) := by omega
                clear f1 hQ hQa hQ1 hQ2 hQn
                go_wp2
                go_ret
                exact ⟨rfl, hb1⟩
              · have g1 : 2 * (n - z) < (P : Int) := by omega
                clear f1 hQ hQa hQ1 hQ2 hQn
                go_wp2
                go_ret
                exact ⟨rfl, hb1⟩
            · have hQ3 : Q ≤ 9223372036854775807 := by
                have h5 : z.natAbs / P ≤ z.natAbs / 2 := Nat.div_le_div_left (by omega) (by omega)
                omega
              have g2 : (Q.tmod 2 == 0) = true := by rw [f2]; rfl
              by_cases hd : n - z < 0
              · have g1 : 2 * -(n - z) = (P : Int) := by omega
                clear f1 hQa hQ2 hQn
                go_wp2
                go_ret
                exact ⟨rfl, hb1⟩
              · have g1 : 2 * (n - z) = (P : Int) := by omega
                clear f1 hQa hQ2 hQn
                go_wp2
                go_ret
                exact ⟨rfl, hb1⟩
      · obtain rfl : k = 10 := by omega
        have hN := hok.out 10 hk hlo.out (.inl rfl)
        rw [← hP.out] at hN
        clear hlo e53

        obtain ⟨f0, f1⟩ := hN
        have g0 : (z.tmod (P : Int) == 0) = true := by rw [f0]; rfl
        obtain ⟨Q, hQ⟩ : ∃ Q, z.tdiv (P : Int) = Q := ⟨_, rfl⟩
        have hQn : Q.natAbs = z.natAbs / P := by rw [← hQ, Int.natAbs_tdiv]; rfl
        have hQa : Q.natAbs ≤ z.natAbs := by rw [hQn]; exact Nat.div_le_self _ _
        have hQ1 : -9223372036854775808 ≤ Q := by omega
        have hQ2 : Q ≤ 9223372036854775808 := by omega
        rw [hQ] at f1
        have hP0 : ¬ (P : Int) = 0 := by omega
        have hP0n : ¬ P = 0 := by omega
        rcases f1 with f1 | ⟨f1, f2⟩
        · by_cases hd : n - z < 0
          · have g1 : 2 * -(n - z) < (P : Int) := by omega
            clear f1 hQ hQa hQ1 hQ2 hQn
            go_wp2
            go_ret
            exact ⟨rfl, hb1⟩
          · have g1 : 2 * (n - z) < (P : Int) := by omega
            clear f1 hQ hQa hQ1 hQ2 hQn
            go_wp2
            go_ret
            exact ⟨rfl, hb1⟩
        · have hQ3 : Q ≤ 9223372036854775807 := by
            have h5 : z.natAbs / P ≤ z.natAbs / 2 := Nat.div_le_div_left (by omega) (by omega)
            omega
          have g2 : (Q.tmod 2 == 0) = true := by rw [f2]; rfl
          by_cases hd : n - z < 0
          · have g1 : 2 * -(n - z) = (P : Int) := by omega
            clear f1 hQa hQ2 hQn
            go_wp2
            go_ret
            exact ⟨rfl, hb1⟩
          · have g1 : 2 * (n - z) = (P : Int) := by omega
            clear f1 hQa hQ2 hQn
            go_wp2
            go_ret
            exact ⟨rfl, hb1⟩

theorem nearest_walk (n : Int) (h1 : -9223372036854775808 ≤ n) (h2 : n ≤ 9223372036854775807) (w : World) : Calls Try.prog 8 #[.int .i64 n] w fun e w' => e = .returned (.bool true) ∧ Below w.heap.size w w' := by
  by_cases hs : -9007199254740992 < n ∧ n < 9007199254740992
  · exact nearest_small n hs.1 hs.2 w
  · obtain ⟨d, d1, d2, hb1, hb2, hW⟩ := ofInt_great n (by omega) (by omega)
    obtain ⟨z, hz⟩ : ∃ z, z = if n < 0 then -((rne n.natAbs d * pw d : Nat) : Int) else ((rne n.natAbs d * pw d : Nat) : Int) := ⟨_, rfl⟩
    rw [← hz] at hW
    obtain ⟨r1, r2⟩ := rne_near n.natAbs d
    have hPle : pw d ≤ 2048 := pw_le d2
    have hclose : (n - z).natAbs ≤ 2048 := by
      rw [hz]
      generalize rne n.natAbs d * pw d = X at r1 r2
      generalize pw d = P at r1 r2 hPle
      split <;> omega
    have hlow : -9223372036854775808 ≤ z := by
      rw [hz]
      split
      · by_cases hd : d = 11
        · subst hd
          have e : pw 11 = 2048 := rfl
          rw [e] at r1 ⊢
          generalize rne n.natAbs 11 = K at r1 ⊢
          omega
        · have hk : rne n.natAbs d ≤ 9007199254740992 := by
            unfold rne
            have hq : n.natAbs / pw d < 9007199254740992 := by
              rw [Nat.div_lt_iff_lt_mul (pw_pos d), show (9007199254740992 : Nat) = pw 53 from rfl, ← pw_add]
              exact hb2
            split <;> omega
          have hm : rne n.natAbs d * pw d ≤ 9007199254740992 * 1024 := Nat.mul_le_mul hk (show pw d ≤ pw 10 from pw_le (by omega))
          generalize rne n.natAbs d * pw d = X at hm
          omega
      · omega
    by_cases hup : z < 9223372036854775808
    · refine nearest_mid n z (by omega) h1 h2 hW hlow hup hclose ?_ w
      exact (fun k hk hlo hhi => near_ok n z d k (by omega) hb1 hb2 d1 d2 hk h1 h2 hz hlo hhi : ∀ k : Nat, k ≤ 10 → _ → _ → NearOk n z (pw k))
    · have hpos : ¬ n < 0 := by
        intro hn
        rw [if_pos hn] at hz
        omega
      have hd10 : d ≤ 10 := by
        by_cases hd : d = 11
        · subst hd
          have e : pw (52 + 11) = 9223372036854775808 := rfl
          omega
        · omega
      have hPle2 : pw d ≤ 1024 := pw_le hd10
      rw [if_neg hpos] at hz
      refine nearest_top n z (by omega) ?_ hW (by omega) w
      generalize rne n.natAbs d * pw d = X at r1 r2 hz
      generalize pw d = P at r1 r2 hPle2
      omega

end Go.Proofs.Ythemfblckliclaa
