/- real's small functions, and the document's own: what they tell, as plain functions of words. -/
import Derived.Test.YtefklmckkigllaaFl
import Derived.Test.YtefklmckkigllaaRows
import Derived.WalkKit
import Derived.WalkSpells
import Derived.WalkLawsBesides
import Derived.WalkSmall
namespace Go.Proofs.Ytefklmckkigllaa
open Go.RowKit
set_option linter.unusedVariables false

theorem nat_beq (a b : Nat) : ((a : Int) == (b : Int)) = (a == b) := by
  rw [Bool.eq_iff_iff]
  simp only [beq_iff_eq]
  omega

theorem cut_nan (x y t : Nat) : isNan (Question.cut (.nanBits .f64 x y) t) = true ∧ Question.cut (.nanBits .f64 x y) t < 18446744073709551616 := by
  have h1 : t % 2 < 2 := Nat.mod_lt _ (by decide)
  have h2 : t / 2 % (2 ^ 52 - 1) < 2 ^ 52 - 1 := Nat.mod_lt _ (by decide)
  have e : Question.cut (.nanBits .f64 x y) t = (t % 2) * 2 ^ 63 + 0x7ff0000000000000 + 1 + (t / 2) % (2 ^ 52 - 1) := rfl
  rw [e]
  generalize t / 2 % (2 ^ 52 - 1) = r at h2 ⊢
  generalize t % 2 = s at h1 ⊢
  refine ⟨?_, by omega⟩
  simp only [isNan, decide_eq_true_eq]
  omega

/-- An operation that has no answer: a NaN whose bits the tape gives. -/
theorem run_float_none {P : Program} (w : World) (op : BinOp) (hop : op = .add ∨ op = .sub ∨ op = .mul ∨ op = .quo) (x y : Nat) (h : floatBits op .f64 x y = none) :
    ∃ b, isNan b = true ∧ b < 18446744073709551616 ∧ ∀ t, (binOp op t (.float .f64 x) (.float .f64 y)).run P w = .ok (.float .f64 b) w.drew := by
  refine ⟨Question.cut (.nanBits .f64 x y) (w.tape w.drawn (.nanBits .f64 x y)), (cut_nan x y _).1, (cut_nan x y _).2, fun t => ?_⟩
  unfold floatBits at h
  rcases hop with rfl | rfl | rfl | rfl <;> simp only at h <;> simp [binOp, Op.floatArith, h, Question.forced]

/-- Whatever it is: what is told of it, and that at most the tape was asked. -/
theorem run_float_any {P : Program} (w : World) (op : BinOp) (hop : op = .add ∨ op = .sub ∨ op = .mul ∨ op = .quo) (x y : Nat) :
    ∃ b q, home b = told (floatBits op .f64 x y) ∧ ∀ t, (binOp op t (.float .f64 x) (.float .f64 y)).run P w = .ok (.float .f64 b) (w.drewN q) := by
  cases h : floatBits op .f64 x y with
  | some r => exact ⟨r, 0, rfl, fun t => by rw [run_float_arith w op t .f64 x y r h]; rfl⟩
  | none =>
    obtain ⟨b, h1, h2, h3⟩ := run_float_none (P := P) w op hop x y h
    exact ⟨b, 1, home_nan h1, fun t => by rw [h3]; rfl⟩

theorem cf_bits (b : Nat) : ∀ w, Sem.run Try.prog (callFunc 90 #[.float .f64 b]) w = .ok (.value (.int .u64 b)) w := fun w => by
  rw [run_callFunc_extern Try.func90 (by kernel_rfl) (by kernel_rfl) (by kernel_rfl) (e := Extern.MathFloatBits.float64bits) (by kernel_rfl)]
  rfl

theorem cf_from (b : Nat) : ∀ w, Sem.run Try.prog (callFunc 89 #[.int .u64 (b : Int)]) w = .ok (.value (.float .f64 b)) w := fun w => by
  rw [run_callFunc_extern Try.func89 (by kernel_rfl) (by kernel_rfl) (by kernel_rfl) (e := Extern.MathFloatBits.float64frombits) (by kernel_rfl)]
  rfl

theorem bitsOf_any (b : Nat) (w : World) : Calls Try.prog 88 #[.float .f64 b] w fun e w' => e = .returned (.int .u64 (home b : Nat)) ∧ w' = w := by
  have hcf := cf_bits b
  have hneq : (FloatKind.f64.format.order b b != some .eq) = isNan b := neq_self b
  cases h : isNan b
  · rw [home_real h]
    rw [h] at hneq
    go_enter Try.func88, Try.ntmps88
    go_wp2
    go_ret
    exact ⟨rfl, rfl⟩
  · rw [home_nan h]
    rw [h] at hneq
    go_enter Try.func88, Try.ntmps88
    go_wp2
    go_ret
    exact ⟨rfl, rfl⟩

theorem canon_any (b : Nat) (w : World) : Calls Try.prog 81 #[.int .u64 (b : Int)] w fun e w' => e = .returned (.int .u64 (home b : Nat)) ∧ w' = w := by
  have hcf := cf_from b
  go_enter Try.func81, Try.ntmps81
  go_wp2_with fail
  refine (bitsOf_any b _).mono ?_
  rintro e w1 ⟨rfl, rfl⟩
  go_wp2
  go_ret
  exact ⟨rfl, rfl⟩

theorem may_any (b : Nat) (w : World) (h : b < 18446744073709551616) : Calls Try.prog 68 #[.int .u64 (b : Int)] w fun e w' => e = .returned (.bool (home b == b)) ∧ w' = w := by
  have hh := home_lt h
  go_enter Try.func68, Try.ntmps68
  go_wp2_with fail
  refine (canon_any b _).mono ?_
  rintro e w1 ⟨rfl, rfl⟩
  go_wp2
  go_ret
  exact ⟨by rw [← nat_beq]; rfl, rfl⟩

end Go.Proofs.Ytefklmckkigllaa
