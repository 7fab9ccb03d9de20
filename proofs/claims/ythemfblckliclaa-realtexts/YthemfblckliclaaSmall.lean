/- real's small functions, and the document's own: what they tell, as plain functions of words. -/
import Derived.Test.YthemfblckliclaaFl
import Derived.Test.YthemfblckliclaaRows
import Derived.WalkKit
import Derived.WalkSpells
import Derived.WalkLawsBesides
import Derived.WalkSmall
namespace Go.Proofs.Ythemfblckliclaa
open Go.RowKit
set_option linter.unusedVariables false

theorem nat_beq (a b : Nat) : ((a : Int) == (b : Int)) = (a == b) := by
  rw [Bool.eq_iff_iff]
  simp only [beq_iff_eq]
  omega

theorem cut_nan (x y t : Nat) : isNan (Question.cut (.nanBits .f64 x y) t) = true ∧ Question.cut (.nanBits .f64 x y) t < 18446744073709551616 := by
  have h1 : t % 2 < 2 := Nat.mod_lt _ (by decide)
  have h2 : t / 2 % (2 ^ 52 - 1) < 2 ^ 52 - 1 := Nat.mod_lt _ (by decide)
  have e : Question.cut (.nanBits .f64 x y) t = (t % 2) * 2 ^ 63 + 0x7ff0000000000000 + 1 + (t / 2) % (2 ^ 52 - 1) := rfl
  rw [e]
  generalize t / 2 % (2 ^ 52 - 1) = r at h2 ⊢
  generalize t % 2 = s at h1 ⊢
  refine ⟨?_, by omega⟩
  simp only [isNan, decide_eq_true_eq]
  omega

/-- An operation that has no answer: a NaN whose bits the tape gives. -/
theorem run_float_none {P : Program} (w : World) (op : BinOp) (hop : op = .add ∨ op = .sub ∨ op = .mul ∨ op = .quo) (x y : Nat) (h : floatBits op .f64 x y = none) :
    ∃ b, isNan b = true ∧ b < 18446744073709551616 ∧ ∀ t, (binOp op t (.float .f64 x) (.float .f64 y)).run P w = .ok (.float .f64 b) w.drew := by
  refine ⟨Question.cut (.nanBits .f64 x y) (w.tape w.drawn (.nanBits .f64 x y)), (cut_nan x y _).1, (cut_nan x y _).2, fun t => ?_⟩
  unfold floatBits at h
  rcases hop with rfl | rfl | rfl | rfl <;> simp only at h <;> simp [binOp, Op.floatArith, h, Question.forced]

/-- Whatever it is: what is told of it, and that at most the tape was asked. -/
theorem run_float_any {P : Program} (w : World) (op : BinOp) (hop : op = .add ∨ op = .sub ∨ op = .mul ∨ op = .quo) (x y : Nat) :
    ∃ b q, home b = told (floatBits op .f64 x y) ∧ ∀ t, (binOp op t (.float .f64 x) (.float .f64 y)).run P w = .ok (.float .f64 b) (w.drewN q) := by
  cases h : floatBits op .f64 x y with
  | some r => exact ⟨r, 0, rfl, fun t => by rw [run_float_arith w op t .f64 x y r h]; rfl⟩
  | none =>
    obtain ⟨b, h1, h2, h3⟩ := run_float_none (P := P) w op hop x y h
    exact ⟨b, 1, home_nan h1, fun t => by rw [h3]; rfl⟩

theorem cf_bits (b : Nat) : ∀ w, Sem.run Try.prog (callFunc 54 #[.float .f64 b]) w = .ok (.value (.int .u64 b)) w := fun w => by
  rw [run_callFunc_extern Try.func54 (by kernel_rfl) (by kernel_rfl) (by kernel_rfl) (e := Extern.MathFloatBits.float64bits) (by kernel_rfl)]
  rfl

theorem cf_from (b : Nat) : ∀ w, Sem.run Try.prog (callFunc 42 #[.int .u64 (b : Int)]) w = .ok (.value (.float .f64 b)) w := fun w => by
  rw [run_callFunc_extern Try.func42 (by kernel_rfl) (by kernel_rfl) (by kernel_rfl) (e := Extern.MathFloatBits.float64frombits) (by kernel_rfl)]
  rfl

theorem bitsOf_any (b : Nat) (w : World) : Calls Try.prog 40 #[.float .f64 b] w fun e w' => e = .returned (.int .u64 (home b : Nat)) ∧ w' = w := by
  have hcf := cf_bits b
  have hneq : (FloatKind.f64.format.order b b != some .eq) = isNan b := neq_self b
  cases h : isNan b
  · rw [home_real h]
    rw [h] at hneq
    go_enter Try.func40, Try.ntmps40
    go_wp2
    go_ret
    exact ⟨rfl, rfl⟩
  · rw [home_nan h]
    rw [h] at hneq
    go_enter Try.func40, Try.ntmps40
    go_wp2
    go_ret
    exact ⟨rfl, rfl⟩

theorem to_any (b : Nat) (w : World) : Calls Try.prog 41 #[.float .f64 b] w fun e w' => e = .returned (.int .u64 (home b : Nat)) ∧ w' = w := by
  have hcf := cf_bits b
  have hneq : (FloatKind.f64.format.order b b != some .eq) = isNan b := neq_self b
  cases h : isNan b
  · rw [home_real h]
    rw [h] at hneq
    go_enter Try.func41, Try.ntmps41
    go_wp2
    go_ret
    exact ⟨rfl, rfl⟩
  · rw [home_nan h]
    rw [h] at hneq
    go_enter Try.func41, Try.ntmps41
    go_wp2
    go_ret
    exact ⟨rfl, rfl⟩

theorem of_any (b : Nat) (w : World) : Calls Try.prog 39 #[.int .u64 (b : Int)] w fun e w' => e = .returned (.float .f64 b) ∧ w' = w := by
  have hcf := cf_from b
  go_enter Try.func39, Try.ntmps39
  go_wp2
  go_ret
  exact ⟨rfl, rfl⟩

theorem canon_any (b : Nat) (w : World) : Calls Try.prog 23 #[.int .u64 (b : Int)] w fun e w' => e = .returned (.int .u64 (home b : Nat)) ∧ w' = w := by
  have hcf := cf_from b
  go_enter Try.func23, Try.ntmps23
  go_wp2_with fail
  refine (bitsOf_any b _).mono ?_
  rintro e w1 ⟨rfl, rfl⟩
  go_wp2
  go_ret
  exact ⟨rfl, rfl⟩

theorem refCanon_any (b : Nat) (w : World) : Calls Try.prog 24 #[.int .u64 (b : Int)] w fun e w' => e = .returned (.int .u64 (home b : Nat)) ∧ w' = w := by
  go_enter Try.func24, Try.ntmps24
  go_wp2_with fail
  refine (of_any b _).mono ?_
  rintro e w1 ⟨rfl, rfl⟩
  go_wp2_with fail
  refine (to_any b _).mono ?_
  rintro e w1 ⟨rfl, rfl⟩
  go_wp2
  go_ret
  exact ⟨rfl, rfl⟩

theorem number_any (b : Nat) (w : World) : Calls Try.prog 38 #[.int .u64 (b : Int)] w fun e w' => e = .returned (.float .f64 (home b)) ∧ w' = w := by
  have hcf := cf_from (home b)
  go_enter Try.func38, Try.ntmps38
  go_wp2_with fail
  refine (canon_any b _).mono ?_
  rintro e w1 ⟨rfl, rfl⟩
  go_wp2
  go_ret
  exact ⟨rfl, rfl⟩

theorem add_any (a b : Nat) (w : World) : Calls Try.prog 11 #[.int .u64 (a : Int), .int .u64 (b : Int)] w fun e w' => e = .returned (.int .u64 (fadd a b : Nat)) ∧ ∃ q, w' = w.drewN q := by
  obtain ⟨x, q, hx, hop⟩ := run_float_any (P := Try.prog) w .add (.inl rfl) (home a) (home b)
  have hx' : home x = fadd a b := by rw [hx]; exact congrArg told (add_home a b)
  clear hx
  go_enter Try.func11, Try.ntmps11
  go_wp2_with fail
  refine (number_any a _).mono ?_
  rintro e w1 ⟨rfl, rfl⟩
  go_wp2_with fail
  refine (number_any b _).mono ?_
  rintro e w1 ⟨rfl, rfl⟩
  go_wp2_with fail
  refine (bitsOf_any x _).mono ?_
  rintro e w1 ⟨rfl, rfl⟩
  rw [hx']
  go_wp2
  go_ret
  exact ⟨rfl, q, rfl⟩

theorem refAdd_any (a b : Nat) (w : World) : Calls Try.prog 12 #[.int .u64 (a : Int), .int .u64 (b : Int)] w fun e w' => e = .returned (.int .u64 (fadd a b : Nat)) ∧ ∃ q, w' = w.drewN q := by
  obtain ⟨x, q, hx, hop⟩ := run_float_any (P := Try.prog) w .add (.inl rfl) a b
  have hx' : home x = fadd a b := hx
  clear hx
  go_enter Try.func12, Try.ntmps12
  go_wp2_with fail
  refine (of_any a _).mono ?_
  rintro e w1 ⟨rfl, rfl⟩
  go_wp2_with fail
  refine (of_any b _).mono ?_
  rintro e w1 ⟨rfl, rfl⟩
  go_wp2_with fail
  refine (to_any x _).mono ?_
  rintro e w1 ⟨rfl, rfl⟩
  rw [hx']
  go_wp2
  go_ret
  exact ⟨rfl, q, rfl⟩

theorem sub_any (a b : Nat) (w : World) : Calls Try.prog 13 #[.int .u64 (a : Int), .int .u64 (b : Int)] w fun e w' => e = .returned (.int .u64 (fsub a b : Nat)) ∧ ∃ q, w' = w.drewN q := by
  obtain ⟨x, q, hx, hop⟩ := run_float_any (P := Try.prog) w .sub (.inr (.inl rfl)) (home a) (home b)
  have hx' : home x = fsub a b := by rw [hx]; exact congrArg told (sub_home a b)
  clear hx
  go_enter Try.func13, Try.ntmps13
  go_wp2_with fail
  refine (number_any a _).mono ?_
  rintro e w1 ⟨rfl, rfl⟩
  go_wp2_with fail
  refine (number_any b _).mono ?_
  rintro e w1 ⟨rfl, rfl⟩
  go_wp2_with fail
  refine (bitsOf_any x _).mono ?_
  rintro e w1 ⟨rfl, rfl⟩
  rw [hx']
  go_wp2
  go_ret
  exact ⟨rfl, q, rfl⟩

theorem refSub_any (a b : Nat) (w : World) : Calls Try.prog 14 #[.int .u64 (a : Int), .int .u64 (b : Int)] w fun e w' => e = .returned (.int .u64 (fsub a b : Nat)) ∧ ∃ q, w' = w.drewN q := by
  obtain ⟨x, q, hx, hop⟩ := run_float_any (P := Try.prog) w .sub (.inr (.inl rfl)) a b
  have hx' : home x = fsub a b := hx
  clear hx
  go_enter Try.func14, Try.ntmps14
  go_wp2_with fail
  refine (of_any a _).mono ?_
  rintro e w1 ⟨rfl, rfl⟩
  go_wp2_with fail
  refine (of_any b _).mono ?_
  rintro e w1 ⟨rfl, rfl⟩
  go_wp2_with fail
  refine (to_any x _).mono ?_
  rintro e w1 ⟨rfl, rfl⟩
  rw [hx']
  go_wp2
  go_ret
  exact ⟨rfl, q, rfl⟩

theorem mul_any (a b : Nat) (w : World) : Calls Try.prog 15 #[.int .u64 (a : Int), .int .u64 (b : Int)] w fun e w' => e = .returned (.int .u64 (fmul a b : Nat)) ∧ ∃ q, w' = w.drewN q := by
  obtain ⟨x, q, hx, hop⟩ := run_float_any (P := Try.prog) w .mul (.inr (.inr (.inl rfl))) (home a) (home b)
  have hx' : home x = fmul a b := by rw [hx]; exact congrArg told (mul_home a b)
  clear hx
  go_enter Try.func15, Try.ntmps15
  go_wp2_with fail
  refine (number_any a _).mono ?_
  rintro e w1 ⟨rfl, rfl⟩
  go_wp2_with fail
  refine (number_any b _).mono ?_
  rintro e w1 ⟨rfl, rfl⟩
  go_wp2_with fail
  refine (bitsOf_any x _).mono ?_
  rintro e w1 ⟨rfl, rfl⟩
  rw [hx']
  go_wp2
  go_ret
  exact ⟨rfl, q, rfl⟩

theorem refMul_any (a b : Nat) (w : World) : Calls Try.prog 16 #[.int .u64 (a : Int), .int .u64 (b : Int)] w fun e w' => e = .returned (.int .u64 (fmul a b : Nat)) ∧ ∃ q, w' = w.drewN q := by
  obtain ⟨x, q, hx, hop⟩ := run_float_any (P := Try.prog) w .mul (.inr (.inr (.inl rfl))) a b
  have hx' : home x = fmul a b := hx
  clear hx
  go_enter Try.func16, Try.ntmps16
  go_wp2_with fail
  refine (of_any a _).mono ?_
  rintro e w1 ⟨rfl, rfl⟩
  go_wp2_with fail
  refine (of_any b _).mono ?_
  rintro e w1 ⟨rfl, rfl⟩
  go_wp2_with fail
  refine (to_any x _).mono ?_
  rintro e w1 ⟨rfl, rfl⟩
  rw [hx']
  go_wp2
  go_ret
  exact ⟨rfl, q, rfl⟩

theorem div_any (a b : Nat) (w : World) : Calls Try.prog 17 #[.int .u64 (a : Int), .int .u64 (b : Int)] w fun e w' => e = .returned (.int .u64 (fdiv a b : Nat)) ∧ ∃ q, w' = w.drewN q := by
  obtain ⟨x, q, hx, hop⟩ := run_float_any (P := Try.prog) w .quo (.inr (.inr (.inr rfl))) (home a) (home b)
  have hx' : home x = fdiv a b := by rw [hx]; exact congrArg told (div_home a b)
  clear hx
  go_enter Try.func17, Try.ntmps17
  go_wp2_with fail
  refine (number_any a _).mono ?_
  rintro e w1 ⟨rfl, rfl⟩
  go_wp2_with fail
  refine (number_any b _).mono ?_
  rintro e w1 ⟨rfl, rfl⟩
  go_wp2_with fail
  refine (bitsOf_any x _).mono ?_
  rintro e w1 ⟨rfl, rfl⟩
  rw [hx']
  go_wp2
  go_ret
  exact ⟨rfl, q, rfl⟩

theorem refDiv_any (a b : Nat) (w : World) : Calls Try.prog 18 #[.int .u64 (a : Int), .int .u64 (b : Int)] w fun e w' => e = .returned (.int .u64 (fdiv a b : Nat)) ∧ ∃ q, w' = w.drewN q := by
  obtain ⟨x, q, hx, hop⟩ := run_float_any (P := Try.prog) w .quo (.inr (.inr (.inr rfl))) a b
  have hx' : home x = fdiv a b := hx
  clear hx
  go_enter Try.func18, Try.ntmps18
  go_wp2_with fail
  refine (of_any a _).mono ?_
  rintro e w1 ⟨rfl, rfl⟩
  go_wp2_with fail
  refine (of_any b _).mono ?_
  rintro e w1 ⟨rfl, rfl⟩
  go_wp2_with fail
  refine (to_any x _).mono ?_
  rintro e w1 ⟨rfl, rfl⟩
  rw [hx']
  go_wp2
  go_ret
  exact ⟨rfl, q, rfl⟩

theorem may_any (b : Nat) (w : World) (h : b < 18446744073709551616) : Calls Try.prog 21 #[.int .u64 (b : Int)] w fun e w' => e = .returned (.bool (home b == b)) ∧ w' = w := by
  have hh := home_lt h
  go_enter Try.func21, Try.ntmps21
  go_wp2_with fail
  refine (canon_any b _).mono ?_
  rintro e w1 ⟨rfl, rfl⟩
  go_wp2
  go_ret
  exact ⟨by rw [← nat_beq]; rfl, rfl⟩

theorem equal_any (a b : Nat) (w : World) : Calls Try.prog 25 #[.int .u64 (a : Int), .int .u64 (b : Int)] w fun e w' => e = .returned (.bool (D.order a b == some .eq)) ∧ w' = w := by
  go_enter Try.func25, Try.ntmps25
  go_wp2_with fail
  refine (number_any a _).mono ?_
  rintro e w1 ⟨rfl, rfl⟩
  go_wp2_with fail
  refine (number_any b _).mono ?_
  rintro e w1 ⟨rfl, rfl⟩
  go_wp2
  go_ret
  exact ⟨by rw [← order_home a b]; rfl, rfl⟩

theorem refEqual_any (a b : Nat) (w : World) : Calls Try.prog 26 #[.int .u64 (a : Int), .int .u64 (b : Int)] w fun e w' => e = .returned (.bool (D.order a b == some .eq)) ∧ w' = w := by
  go_enter Try.func26, Try.ntmps26
  go_wp2_with fail
  refine (of_any a _).mono ?_
  rintro e w1 ⟨rfl, rfl⟩
  go_wp2_with fail
  refine (of_any b _).mono ?_
  rintro e w1 ⟨rfl, rfl⟩
  go_wp2
  go_ret
  exact ⟨rfl, rfl⟩

theorem less_any (a b : Nat) (w : World) : Calls Try.prog 27 #[.int .u64 (a : Int), .int .u64 (b : Int)] w fun e w' => e = .returned (.bool (D.order a b == some .lt)) ∧ w' = w := by
  go_enter Try.func27, Try.ntmps27
  go_wp2_with fail
  refine (number_any a _).mono ?_
  rintro e w1 ⟨rfl, rfl⟩
  go_wp2_with fail
  refine (number_any b _).mono ?_
  rintro e w1 ⟨rfl, rfl⟩
  go_wp2
  go_ret
  exact ⟨by rw [← order_home a b]; rfl, rfl⟩

theorem refLess_any (a b : Nat) (w : World) : Calls Try.prog 28 #[.int .u64 (a : Int), .int .u64 (b : Int)] w fun e w' => e = .returned (.bool (D.order a b == some .lt)) ∧ w' = w := by
  go_enter Try.func28, Try.ntmps28
  go_wp2_with fail
  refine (of_any a _).mono ?_
  rintro e w1 ⟨rfl, rfl⟩
  go_wp2_with fail
  refine (of_any b _).mono ?_
  rintro e w1 ⟨rfl, rfl⟩
  go_wp2
  go_ret
  exact ⟨rfl, rfl⟩

theorem refMay_any (b : Nat) (w : World) (h : b < 18446744073709551616) : Calls Try.prog 22 #[.int .u64 (b : Int)] w fun e w' => e = .returned (.bool (home b == b)) ∧ w' = w := by
  have hh := home_lt h
  go_enter Try.func22, Try.ntmps22
  go_wp2_with fail
  refine (refCanon_any b _).mono ?_
  rintro e w1 ⟨rfl, rfl⟩
  go_wp2
  go_ret
  exact ⟨by rw [← nat_beq]; rfl, rfl⟩

theorem fromInt_any (n : Int) (w : World) : Calls Try.prog 29 #[.int .i64 n] w fun e w' => e = .returned (.int .u64 (ofInt n : Nat)) ∧ w' = w := by
  go_enter Try.func29, Try.ntmps29
  go_wp2_with fail
  refine (bitsOf_any (ofInt n) _).mono ?_
  rintro e w1 ⟨rfl, rfl⟩
  rw [home_ofInt]
  go_wp2
  go_ret
  exact ⟨rfl, rfl⟩

theorem refFromInt_any (n : Int) (w : World) : Calls Try.prog 30 #[.int .i64 n] w fun e w' => e = .returned (.int .u64 (ofInt n : Nat)) ∧ w' = w := by
  go_enter Try.func30, Try.ntmps30
  go_wp2_with fail
  refine (to_any (ofInt n) _).mono ?_
  rintro e w1 ⟨rfl, rfl⟩
  rw [home_ofInt]
  go_wp2
  go_ret
  exact ⟨rfl, rfl⟩

end Go.Proofs.Ythemfblckliclaa
