/- real.Neg and real.ToInt, and the document's own. -/
import Derived.Test.YthemfblckliclaaFlVal
import Derived.Test.YthemfblckliclaaSmall
import Derived.Laws.Bits64
namespace Go.Proofs.Ythemfblckliclaa
open Go.RowKit
set_option linter.unusedVariables false

theorem neg_any (a : Nat) (h : a < 18446744073709551616) (w : World) : Calls Try.prog 19 #[.int .u64 (a : Int)] w fun e w' => e = .returned (.int .u64 (fneg a : Nat)) ∧ w' = w := by
  have hun : ∀ w, (Op.unary .neg (.float .f64 (home a))).run Try.prog w = .ok (.float .f64 (home a ^^^ 9223372036854775808)) w := fun w => rfl
  go_enter Try.func19, Try.ntmps19
  go_wp2_with fail
  refine (number_any a _).mono ?_
  rintro e w1 ⟨rfl, rfl⟩
  go_wp2_with fail
  refine (bitsOf_any (home a ^^^ 9223372036854775808) _).mono ?_
  rintro e w1 ⟨rfl, rfl⟩
  rw [home_flip a h]
  go_wp2
  go_ret
  exact ⟨rfl, rfl⟩

theorem refNeg_any (a : Nat) (h : a < 18446744073709551616) (w : World) : Calls Try.prog 20 #[.int .u64 (a : Int)] w fun e w' => e = .returned (.int .u64 (fneg a : Nat)) ∧ w' = w := by
  cases hn : isNan a
  · have hne : ((home a : Nat) : Int) ≠ 9221120237041090560 := by
      rw [home_real hn]
      intro hh
      have : a = NAN := by unfold NAN; omega
      rw [this, isNan_NAN] at hn
      cases hn
    go_enter Try.func20, Try.ntmps20
    go_wp2_with fail
    refine (refCanon_any a _).mono ?_
    rintro e w1 ⟨rfl, rfl⟩
    have hx : bits .xor .u64 (a : Int) 9223372036854775808 = ((fneg a : Nat) : Int) := by
      have hb := bits_xor_u64_nat a 9223372036854775808 h (by omega)
      rw [xor_flip a h] at hb
      have e : fneg a = if a < 9223372036854775808 then a + 9223372036854775808 else a - 9223372036854775808 := by simp only [fneg, hn, Bool.false_eq_true, if_false]
      rw [e]
      exact hb
    go_wp2
    go_ret
    exact ⟨rfl, rfl⟩
  · have hhn : home a = NAN := home_nan hn
    go_enter Try.func20, Try.ntmps20
    go_wp2_with fail
    refine (refCanon_any a _).mono ?_
    rintro e w1 ⟨rfl, rfl⟩
    rw [hhn]
    go_wp2
    go_ret
    exact ⟨by simp only [fneg, hn, if_true]; rfl, rfl⟩

theorem toInt_any (a : Nat) (w : World) : Calls Try.prog 9 #[.int .u64 (a : Int)] w fun e w' => e = .returned (.tuple #[.int .i64 (toIntOf a).1, .bool (toIntOf a).2]) ∧ w' = w := by
  cases hn : isNan a
  · have h0 : (FloatKind.f64.format.order a a != some .eq) = false := by rw [← hn]; exact neq_self a
    have h1 : (FloatKind.f64.format.order a 4890909195324358656 == some .gt || FloatKind.f64.format.order a 4890909195324358656 == some .eq) = decide (val B63 ≤ val a) := ge_val (c := B63) hn (by decide)
    have h2 : (FloatKind.f64.format.order a 14114281232179134464 == some .lt) = decide (val a < val N63) := lt_val (c := N63) hn (by decide)
    by_cases c1 : val B63 ≤ val a
    · have ht : toIntOf a = (0, false) := by unfold toIntOf; rw [hn]; simp only [Bool.false_eq_true, if_false]; rw [if_neg (by omega)]
      rw [ht]
      rw [decide_eq_true c1] at h1
      go_enter Try.func9, Try.ntmps9
      go_wp2_with fail
      refine (number_any a _).mono ?_
      rintro e w1 ⟨rfl, rfl⟩
      rw [home_real hn]
      go_wp2
      go_ret2
      exact ⟨rfl, rfl⟩
    · rw [decide_eq_false c1] at h1
      by_cases c2 : val a < val N63
      · have ht : toIntOf a = (0, false) := by unfold toIntOf; rw [hn]; simp only [Bool.false_eq_true, if_false]; rw [if_neg (by omega)]
        rw [ht]
        rw [decide_eq_true c2] at h2
        go_enter Try.func9, Try.ntmps9
        go_wp2_with fail
        refine (number_any a _).mono ?_
        rintro e w1 ⟨rfl, rfl⟩
        rw [home_real hn]
        go_wp2
        go_ret2
        exact ⟨rfl, rfl⟩
      · rw [decide_eq_false c2] at h2
        have ht : toIntOf a = (trunc (val a), true) := by unfold toIntOf; rw [hn]; simp only [Bool.false_eq_true, if_false]; rw [if_pos (by omega)]
        have hw := whole_val hn (by omega) (by omega)
        have hcv : ∀ w, (convert 42 2 (.float .f64 a)).run Try.prog w = .ok (.int .i64 (trunc (val a))) w := fun w => run_convert_float_int w 42 2 .f64 .i64 a _ (by rw [Try.underlying42]; rfl) Try.underlying2 hw
        rw [ht]
        go_enter Try.func9, Try.ntmps9
        go_wp2_with fail
        refine (number_any a _).mono ?_
        rintro e w1 ⟨rfl, rfl⟩
        rw [home_real hn]
        go_wp2
        go_ret2
        exact ⟨rfl, rfl⟩
  · have h0 : (FloatKind.f64.format.order NAN NAN != some .eq) = true := by decide
    have ht : toIntOf a = (0, false) := by unfold toIntOf; rw [hn]; rfl
    rw [ht]
    go_enter Try.func9, Try.ntmps9
    go_wp2_with fail
    refine (number_any a _).mono ?_
    rintro e w1 ⟨rfl, rfl⟩
    rw [home_nan hn]
    go_wp2
    go_ret2
    exact ⟨rfl, rfl⟩

theorem refToInt_any (a : Nat) (w : World) : Calls Try.prog 10 #[.int .u64 (a : Int)] w fun e w' => e = .returned (.tuple #[.int .i64 (toIntOf a).1, .bool (toIntOf a).2]) ∧ w' = w := by
  cases hn : isNan a
  · have h1 : (FloatKind.f64.format.order a 14114281232179134464 == some .gt || FloatKind.f64.format.order a 14114281232179134464 == some .eq) = decide (val N63 ≤ val a) := ge_val (c := N63) hn (by decide)
    have h2 : (FloatKind.f64.format.order a 4890909195324358656 == some .lt) = decide (val a < val B63) := lt_val (c := B63) hn (by decide)
    by_cases c1 : val N63 ≤ val a
    · rw [decide_eq_true c1] at h1
      by_cases c2 : val a < val B63
      · rw [decide_eq_true c2] at h2
        have ht : toIntOf a = (trunc (val a), true) := by unfold toIntOf; rw [hn]; simp only [Bool.false_eq_true, if_false]; rw [if_pos (by omega)]
        have hw := whole_val hn (by omega) (by omega)
        have hcv : ∀ w, (convert 42 2 (.float .f64 a)).run Try.prog w = .ok (.int .i64 (trunc (val a))) w := fun w => run_convert_float_int w 42 2 .f64 .i64 a _ (by rw [Try.underlying42]; rfl) Try.underlying2 hw
        rw [ht]
        go_enter Try.func10, Try.ntmps10
        go_wp2_with fail
        refine (of_any a _).mono ?_
        rintro e w1 ⟨rfl, rfl⟩
        go_wp2
        go_ret2
        exact ⟨rfl, rfl⟩
      · rw [decide_eq_false c2] at h2
        have ht : toIntOf a = (0, false) := by unfold toIntOf; rw [hn]; simp only [Bool.false_eq_true, if_false]; rw [if_neg (by omega)]
        rw [ht]
        go_enter Try.func10, Try.ntmps10
        go_wp2_with fail
        refine (of_any a _).mono ?_
        rintro e w1 ⟨rfl, rfl⟩
        go_wp2
        go_ret2
        exact ⟨rfl, rfl⟩
    · rw [decide_eq_false c1] at h1
      have ht : toIntOf a = (0, false) := by unfold toIntOf; rw [hn]; simp only [Bool.false_eq_true, if_false]; rw [if_neg (by omega)]
      rw [ht]
      go_enter Try.func10, Try.ntmps10
      go_wp2_with fail
      refine (of_any a _).mono ?_
      rintro e w1 ⟨rfl, rfl⟩
      go_wp2
      go_ret2
      exact ⟨rfl, rfl⟩
  · have h1 : (FloatKind.f64.format.order a 14114281232179134464 == some .gt || FloatKind.f64.format.order a 14114281232179134464 == some .eq) = false := nan_ge (.inl hn)
    have ht : toIntOf a = (0, false) := by unfold toIntOf; rw [hn]; rfl
    rw [ht]
    go_enter Try.func10, Try.ntmps10
    go_wp2_with fail
    refine (of_any a _).mono ?_
    rintro e w1 ⟨rfl, rfl⟩
    go_wp2
    go_ret2
    exact ⟨rfl, rfl⟩

end Go.Proofs.Ythemfblckliclaa
