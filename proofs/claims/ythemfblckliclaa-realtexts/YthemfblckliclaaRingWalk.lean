/- Sums and products turned about; and the law RealRing, walked. -/
import Derived.Test.YthemfblckliclaaFlRound
import Derived.Test.YthemfblckliclaaAwake
namespace Go.Proofs.Ythemfblckliclaa
open Ieee Go.RowKit
set_option linter.unusedVariables false

theorem sum_comm (x y : Datum) : x.sum y = y.sum x := by
  cases x with
  | nan s t => cases y <;> rfl
  | infinity s =>
    cases y with
    | nan s t => rfl
    | infinity t =>
      simp only [Datum.sum]
      by_cases h : s = t
      · rw [if_pos h, if_pos h.symm, h]
      · rw [if_neg h, if_neg (fun hh => h hh.symm)]
    | number t n j => rfl
  | number s m i =>
    cases y with
    | nan s t => rfl
    | infinity t => rfl
    | number t n j =>
      simp only [Datum.sum]
      rw [Int.min_comm j i, Int.add_comm, Bool.and_comm]

theorem product_comm (x y : Datum) : x.product y = y.product x := by
  cases x with
  | nan s t => cases y <;> rfl
  | infinity s =>
    cases y with
    | nan s t => rfl
    | infinity t => simp only [Datum.product]; rw [Bool.xor_comm]
    | number t n j => rfl
  | number s m i =>
    cases y with
    | nan s t => rfl
    | infinity t => rfl
    | number t n j => simp only [Datum.product]; rw [Bool.xor_comm, Nat.mul_comm, Int.add_comm]

theorem fadd_comm (a b : Nat) : fadd a b = fadd b a := by unfold fadd Format.add; rw [sum_comm]
theorem fmul_comm (a b : Nat) : fmul a b = fmul b a := by unfold fmul Format.mul; rw [product_comm]

theorem fsub_eq (a b : Nat) (hb : b < 18446744073709551616) : fsub a b = fadd a (fneg b) := by
  unfold fsub fadd
  cases hn : isNan b
  · unfold Format.sub Format.add; rw [read_fneg hb hn]
  · rw [sub_nan (.inr hn), add_nan (.inr (by rw [isNan_fneg hb, hn]))]

theorem add_home_left (a b : Nat) : fadd (home a) b = fadd a b := by
  unfold fadd
  rw [← add_home (home a) b, home_home, add_home]

theorem read_one : D.read 4607182418800017408 = .number false 4503599627370496 (-52) := by decide

theorem fmul_one (a : Nat) (ha : a < 18446744073709551616) : fmul a 4607182418800017408 = home a := by
  unfold fmul
  cases hn : isNan a
  · rw [home_real hn]
    have h : D.mul a 4607182418800017408 = some a := by
      have hw := write_read ha hn
      unfold Format.mul
      rw [read_one]
      rcases read_real hn with ⟨s, m, e, hr⟩ | ⟨s, hr⟩
      · rw [hr] at hw ⊢
        have hw : D.nearest s m e = a := hw
        simp only [Datum.product, Bool.xor_false, Option.map_some, Format.write]
        have := nearest_scale s m 52 e
        rw [show m * 4503599627370496 = m * pw 52 from rfl, show e + -52 = e - (52 : Nat) from rfl, this, hw]
      · rw [hr] at hw ⊢
        simp only [Datum.product, Bool.xor_false, Nat.reduceEqDiff, if_false, Option.map_some]
        rw [hw]
    rw [h]
    exact home_real hn
  · rw [mul_nan (.inl hn), home_nan hn]; rfl

theorem home_fneg (a : Nat) (ha : a < 18446744073709551616) : home (fneg a) = fneg a := by
  cases hn : isNan a
  · exact home_real (by rw [isNan_fneg ha, hn])
  · rw [show fneg a = NAN by simp only [fneg, hn, if_true]]; decide

theorem fadd_lt (a b : Nat) : fadd a b < 18446744073709551616 := told_lt (fun x h => D.add_lt h)
theorem fsub_lt (a b : Nat) : fsub a b < 18446744073709551616 := told_lt (fun x h => D.sub_lt h)
theorem fmul_lt (a b : Nat) : fmul a b < 18446744073709551616 := told_lt (fun x h => D.mul_lt h)
theorem fdiv_lt (a b : Nat) : fdiv a b < 18446744073709551616 := told_lt (fun x h => D.div_lt h)

theorem may_yes (b : Nat) (h : b < 18446744073709551616) (hh : home b = b) (w : World) : Calls Try.prog 21 #[.int .u64 (b : Int)] w fun e w' => e = .returned (.bool true) ∧ w' = w := by
  refine (may_any b w h).mono ?_
  rintro e w' ⟨rfl, rfl⟩
  exact ⟨by rw [hh]; simp, rfl⟩

set_option maxRecDepth 100000 in
set_option maxHeartbeats 1600000 in
theorem ring_walk (a b : Nat) (ha : a < 18446744073709551616) (hb : b < 18446744073709551616) (w : World) :
    Calls Try.prog 5 #[.int .u64 (a : Int), .int .u64 (b : Int)] w fun e w' => e = .returned (.bool true) ∧ Below w.heap.size w w' := by
  have g1 : fadd a b = fadd b a := fadd_comm a b
  have g2 : fmul a b = fmul b a := fmul_comm a b
  have g3 := fsub_eq a b hb
  have g4 := fneg_fneg ha
  have g5 := fmul_one a ha
  have g6 := add_home_left a b
  obtain ⟨s, hs⟩ : ∃ s, s = fadd a b := ⟨_, rfl⟩
  obtain ⟨p, hp⟩ : ∃ s, s = fmul a b := ⟨_, rfl⟩
  obtain ⟨d, hd⟩ : ∃ s, s = fsub a b := ⟨_, rfl⟩
  obtain ⟨q, hq⟩ : ∃ s, s = fdiv a b := ⟨_, rfl⟩
  obtain ⟨na, hna⟩ : ∃ s, s = fneg a := ⟨_, rfl⟩
  obtain ⟨nb, hnb⟩ : ∃ s, s = fneg b := ⟨_, rfl⟩
  obtain ⟨h, hh⟩ : ∃ s, s = home a := ⟨_, rfl⟩
  have m1 := may_yes s (by rw [hs]; exact fadd_lt a b) (by rw [hs]; exact isNan_told _)
  have m2 := may_yes p (by rw [hp]; exact fmul_lt a b) (by rw [hp]; exact isNan_told _)
  have m3 := may_yes d (by rw [hd]; exact fsub_lt a b) (by rw [hd]; exact isNan_told _)
  have m4 := may_yes q (by rw [hq]; exact fdiv_lt a b) (by rw [hq]; exact isNan_told _)
  have m5 := may_yes na (by rw [hna]; exact fneg_lt ha) (by rw [hna]; exact home_fneg a ha)
  have m6 := may_yes h (by rw [hh]; exact home_lt ha) (by rw [hh]; exact home_home a)
  have lna : na < 18446744073709551616 := by rw [hna]; exact fneg_lt ha
  have k1 : ∀ w, Calls Try.prog 11 #[.int .u64 (a : Int), .int .u64 (b : Int)] w fun e w' => e = .returned (.int .u64 (s : Int)) ∧ ∃ q, w' = w.drewN q := fun w => by rw [hs]; exact add_any a b w
  have k2 : ∀ w, Calls Try.prog 11 #[.int .u64 (b : Int), .int .u64 (a : Int)] w fun e w' => e = .returned (.int .u64 (s : Int)) ∧ ∃ q, w' = w.drewN q := fun w => by rw [hs, g1]; exact add_any b a w
  have k3 : ∀ w, Calls Try.prog 11 #[.int .u64 (a : Int), .int .u64 (nb : Int)] w fun e w' => e = .returned (.int .u64 (d : Int)) ∧ ∃ q, w' = w.drewN q := fun w => by rw [hd, g3, hnb]; exact add_any a _ w
  have k4 : ∀ w, Calls Try.prog 11 #[.int .u64 (h : Int), .int .u64 (b : Int)] w fun e w' => e = .returned (.int .u64 (s : Int)) ∧ ∃ q, w' = w.drewN q := fun w => by rw [hs, ← g6, hh]; exact add_any _ b w
  have k5 : ∀ w, Calls Try.prog 15 #[.int .u64 (a : Int), .int .u64 (b : Int)] w fun e w' => e = .returned (.int .u64 (p : Int)) ∧ ∃ q, w' = w.drewN q := fun w => by rw [hp]; exact mul_any a b w
  have k6 : ∀ w, Calls Try.prog 15 #[.int .u64 (b : Int), .int .u64 (a : Int)] w fun e w' => e = .returned (.int .u64 (p : Int)) ∧ ∃ q, w' = w.drewN q := fun w => by rw [hp, g2]; exact mul_any b a w
  have k7 : ∀ w, Calls Try.prog 15 #[.int .u64 (a : Int), .int .u64 4607182418800017408] w fun e w' => e = .returned (.int .u64 (h : Int)) ∧ ∃ q, w' = w.drewN q := fun w => by rw [hh, ← g5]; exact mul_any a _ w
  have k8 : ∀ w, Calls Try.prog 13 #[.int .u64 (a : Int), .int .u64 (b : Int)] w fun e w' => e = .returned (.int .u64 (d : Int)) ∧ ∃ q, w' = w.drewN q := fun w => by rw [hd]; exact sub_any a b w
  have k9 : ∀ w, Calls Try.prog 17 #[.int .u64 (a : Int), .int .u64 (b : Int)] w fun e w' => e = .returned (.int .u64 (q : Int)) ∧ ∃ q, w' = w.drewN q := fun w => by rw [hq]; exact div_any a b w
  have k10 : ∀ w, Calls Try.prog 19 #[.int .u64 (a : Int)] w fun e w' => e = .returned (.int .u64 (na : Int)) ∧ w' = w := fun w => by rw [hna]; exact neg_any a ha w
  have k11 : ∀ w, Calls Try.prog 19 #[.int .u64 (b : Int)] w fun e w' => e = .returned (.int .u64 (nb : Int)) ∧ w' = w := fun w => by rw [hnb]; exact neg_any b hb w
  have k12 : ∀ w, Calls Try.prog 19 #[.int .u64 (na : Int)] w fun e w' => e = .returned (.int .u64 (h : Int)) ∧ w' = w := fun w => by rw [hh, ← g4, ← hna]; exact neg_any na lna w
  have k13 : ∀ w, Calls Try.prog 23 #[.int .u64 (a : Int)] w fun e w' => e = .returned (.int .u64 (h : Int)) ∧ w' = w := fun w => by rw [hh]; exact canon_any a w
  have k14 : ∀ w, Calls Try.prog 29 #[.int .i64 1] w fun e w' => e = .returned (.int .u64 4607182418800017408) ∧ w' = w := fun w => by rw [show (4607182418800017408 : Int) = ((ofInt 1 : Nat) : Int) by rw [aw_int]; rfl]; exact fromInt_any 1 w
  clear g1 g2 g3 g4 g5 g6 hs hp hd hq hna hnb hh
  go_enter Try.func5, Try.ntmps5
  go_wp2_with fail
  refine (awake_any _).mono ?_
  rintro e w1 ⟨rfl, hb1⟩
  go_wp2_with fail
  refine (k1 _).mono ?_
  rintro e w' ⟨rfl, q1, rfl⟩
  go_wp2_with fail
  refine (k5 _).mono ?_
  rintro e w' ⟨rfl, q2, rfl⟩
  go_wp2_with fail
  refine (k8 _).mono ?_
  rintro e w' ⟨rfl, q3, rfl⟩
  go_wp2_with fail
  refine (k9 _).mono ?_
  rintro e w' ⟨rfl, q4, rfl⟩
  go_wp2_with fail
  refine (m1 _).mono ?_
  rintro e w' ⟨rfl, rfl⟩
  go_wp2_with fail
  refine (m2 _).mono ?_
  rintro e w' ⟨rfl, rfl⟩
  go_wp2_with fail
  refine (m3 _).mono ?_
  rintro e w' ⟨rfl, rfl⟩
  go_wp2_with fail
  refine (m4 _).mono ?_
  rintro e w' ⟨rfl, rfl⟩
  go_wp2_with fail
  refine (k10 _).mono ?_
  rintro e w' ⟨rfl, rfl⟩
  go_wp2_with fail
  refine (m5 _).mono ?_
  rintro e w' ⟨rfl, rfl⟩
  go_wp2_with fail
  refine (k13 _).mono ?_
  rintro e w' ⟨rfl, rfl⟩
  go_wp2_with fail
  refine (m6 _).mono ?_
  rintro e w' ⟨rfl, rfl⟩
  go_wp2_with fail
  refine (k2 _).mono ?_
  rintro e w' ⟨rfl, q5, rfl⟩
  go_wp2_with fail
  refine (k6 _).mono ?_
  rintro e w' ⟨rfl, q6, rfl⟩
  go_wp2_with fail
  refine (k11 _).mono ?_
  rintro e w' ⟨rfl, rfl⟩
  go_wp2_with fail
  refine (k3 _).mono ?_
  rintro e w' ⟨rfl, q7, rfl⟩
  go_wp2_with fail
  refine (k10 _).mono ?_
  rintro e w' ⟨rfl, rfl⟩
  go_wp2_with fail
  refine (k12 _).mono ?_
  rintro e w' ⟨rfl, rfl⟩
  go_wp2_with fail
  refine (k13 _).mono ?_
  rintro e w' ⟨rfl, rfl⟩
  go_wp2_with fail
  refine (k14 _).mono ?_
  rintro e w' ⟨rfl, rfl⟩
  go_wp2_with fail
  refine (k7 _).mono ?_
  rintro e w' ⟨rfl, q8, rfl⟩
  go_wp2_with fail
  refine (k13 _).mono ?_
  rintro e w' ⟨rfl, rfl⟩
  go_wp2_with fail
  refine (k13 _).mono ?_
  rintro e w' ⟨rfl, rfl⟩
  go_wp2_with fail
  refine (k4 _).mono ?_
  rintro e w' ⟨rfl, q9, rfl⟩
  go_wp2
  go_ret
  exact ⟨rfl, below_drewN hb1 _⟩

end Go.Proofs.Ythemfblckliclaa
