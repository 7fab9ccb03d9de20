/- Sums and products turned about; and the law RealRing, walked. -/
import Derived.Test.YthemfblckliclabFlRound
import Derived.Test.YthemfblckliclabAwake
namespace Go.Proofs.Ythemfblckliclab
open Ieee Go.RowKit
set_option linter.unusedVariables false

theorem sum_comm (x y : Datum) : x.sum y = y.sum x := by
  cases x with
  | nan s t => cases y <;> rfl
  | infinity s =>
    cases y with
    | nan s t => rfl
    | infinity t =>
      simp only [Datum.sum]
      by_cases h : s = t
      · rw [if_pos h, if_pos h.symm, h]
      · rw [if_neg h, if_neg (fun hh => h hh.symm)]
    | number t n j => rfl
  | number s m i =>
    cases y with
    | nan s t => rfl
    | infinity t => rfl
    | number t n j =>
      simp only [Datum.sum]
      rw [Int.min_comm j i, Int.add_comm, Bool.and_comm]

theorem product_comm (x y : Datum) : x.product y = y.product x := by
  cases x with
  | nan s t => cases y <;> rfl
  | infinity s =>
    cases y with
    | nan s t => rfl
    | infinity t => simp only [Datum.product]; rw [Bool.xor_comm]
    | number t n j => rfl
  | number s m i =>
    cases y with
    | nan s t => rfl
    | infinity t => rfl
    | number t n j => simp only [Datum.product]; rw [Bool.xor_comm, Nat.mul_comm, Int.add_comm]

theorem fadd_comm (a b : Nat) : fadd a b = fadd b a := by unfold fadd Format.add; rw [sum_comm]
theorem fmul_comm (a b : Nat) : fmul a b = fmul b a := by unfold fmul Format.mul; rw [product_comm]

theorem fsub_eq (a b : Nat) (hb : b < 18446744073709551616) : fsub a b = fadd a (fneg b) := by
  unfold fsub fadd
  cases hn : isNan b
  · unfold Format.sub Format.add; rw [read_fneg hb hn]
  · rw [sub_nan (.inr hn), add_nan (.inr (by rw [isNan_fneg hb, hn]))]

theorem add_home_left (a b : Nat) : fadd (home a) b = fadd a b := by
  unfold fadd
  rw [← add_home (home a) b, home_home, add_home]

theorem read_one : D.read 4607182418800017408 = .number false 4503599627370496 (-52) := by decide

theorem fmul_one (a : Nat) (ha : a < 18446744073709551616) : fmul a 4607182418800017408 = home a := by
  unfold fmul
  cases hn : isNan a
  · rw [home_real hn]
    have h : D.mul a 4607182418800017408 = some a := by
      have hw := write_read ha hn
      unfold Format.mul
      rw [read_one]
      rcases read_real hn with ⟨s, m, e, hr⟩ | ⟨s, hr⟩
      · rw [hr] at hw ⊢
        have hw : D.nearest s m e = a := hw
        simp only [Datum.product, Bool.xor_false, Option.map_some, Format.write]
        have := nearest_scale s m 52 e
        rw [show m * 4503599627370496 = m * pw 52 from rfl, show e + -52 = e - (52 : Nat) from rfl, this, hw]
      · rw [hr] at hw ⊢
        simp only [Datum.product, Bool.xor_false, Nat.reduceEqDiff, if_false, Option.map_some]
        rw [hw]
    rw [h]
    exact home_real hn
  · rw [mul_nan (.inl hn), home_nan hn]; rfl

theorem home_fneg (a : Nat) (ha : a < 18446744073709551616) : home (fneg a) = fneg a := by
  cases hn : isNan a
  · exact home_real (by rw [isNan_fneg ha, hn])
  · rw [show fneg a = NAN by simp only [fneg, hn, if_true]]; decide

theorem fadd_lt (a b : Nat) : fadd a b < 18446744073709551616 := told_lt (fun x h => D.add_lt h)
theorem fsub_lt (a b : Nat) : fsub a b < 18446744073709551616 := told_lt (fun x h => D.sub_lt h)
theorem fmul_lt (a b : Nat) : fmul a b < 18446744073709551616 := told_lt (fun x h => D.mul_lt h)
theorem fdiv_lt (a b : Nat) : fdiv a b < 18446744073709551616 := told_lt (fun x h => D.div_lt h)

theorem may_yes (b : Nat) (h : b < 18446744073709551616) (hh : home b = b) (w : World) : Calls Try.prog 15 #[.int .u64 (b : Int)] w fun e w' => e = .returned (.bool true) ∧ w' = w := by
  refine (may_any b w h).mono ?_
  rintro e w' ⟨rfl, rfl⟩
  exact ⟨by rw [hh]; simp, rfl⟩

end Go.Proofs.Ythemfblckliclab
