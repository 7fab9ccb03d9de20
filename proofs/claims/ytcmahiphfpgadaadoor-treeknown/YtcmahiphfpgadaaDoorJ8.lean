/- Joined texts of the proof. -/
import Derived.Test.YtcmahiphfpgadaaDoorJ7
import Derived.Lib.Strings
import Derived.Deep.RegionHeld3
import Derived.Test.YtcmahiphfpgadaaDoorJ2
import Derived.Test.YtcmahiphfpgadaaDoorRows
import Derived.WalkKit
import Derived.WalkSpells
import Derived.WalkLawsBesides
import Derived.WalkSmall
import Derived.Test.YtcmahiphfpgadaaDoorJ3
import Derived.Laws.Bits64

/- octet.Bytes, the document's own Bytes and Fits: what they hand back. -/
namespace Go.Proofs.YtcmahiphfpgadaaDoor
open Go.RowKit
set_option linter.unusedVariables false

/-- A number's bytes, so many, the highest first. -/
def bytesOf : Nat → Nat → List UInt8
  | 0, _ => []
  | s + 1, n => ub (n / 256 ^ s % 256) :: bytesOf s n

theorem bytesOf_length (s n : Nat) : (bytesOf s n).length = s := by
  induction s with
  | zero => rfl
  | succ s ih => simp [bytesOf, ih]

theorem shr8 (n k : Nat) : (n : Int) / 2 ^ (8 * k) = ((n / 256 ^ k : Nat) : Int) := by
  rw [Int.natCast_ediv, Int.natCast_pow, Int.pow_mul]
  rfl

theorem shr8b (n k : Nat) : (n : Int) / 2 ^ (8 * k) % 256 = ((n / 256 ^ k % 256 : Nat) : Int) := by
  rw [shr8]; omega

set_option maxRecDepth 100000 in
set_option maxHeartbeats 400000 in
theorem bytes_ok (n s : Nat) (hn : n < 18446744073709551616) (h1 : 1 ≤ s) (hs : s ≤ 8) (hfit : n / 256 ^ s = 0) (w : World) :
    Calls Tryd.prog 45 #[.int .u64 n, .int .i64 s] w fun e w' => ∃ v, e = .returned (.tuple #[v, .int .i64 0]) ∧ Own w.heap.size w' v (bytesOf s n) ∧ Below w.heap.size w w' := by
  have ht : ((n : Int) / 2 ^ (8 * s) != 0) = false := by rw [shr8, hfit]; rfl
  clear hfit
  go_enter Tryd.func45, Tryd.ntmps45
  go_wp2
  go_loopw [1, 6] (fun t v wr => ∃ (k : Nat) (out : List UInt8), k ≤ s ∧ t = .int .i64 (k : Int) ∧ out.length + k = s ∧ Hid (out ++ bytesOf k n = bytesOf s n) ∧ Own w.heap.size wr v out ∧ Below w.heap.size w wr)
    (fun t _ _ => (intOf t).toNat)
  case atStart => exact ⟨s, [], Nat.le_refl _, rfl, by simp, rfl, Own.nil _ _, Below.refl _ _⟩
  case round =>
    obtain ⟨k, out, hk, rfl, hlk, hsh, hown, hbel⟩ := hrel
    have hsz := hbel.size
    cases k with
    | zero =>
      go_wp2
      go_ret2
      exact ⟨_, rfl, by have := hsh.out; simp [bytesOf] at this; rw [← this]; exact hown, hbel⟩
    | succ k =>
      have H3 : Hid ((out ++ [ub (n / 256 ^ k % 256)]) ++ bytesOf k n = bytesOf s n) := by have := hsh.out; simp only [bytesOf] at this; simpa [Hid] using this
      clear hsh
      go_wp2_with (at_builtin; refine app1n (.tmp 24) (.tmp 30) _ (n / 256 ^ k % 256) w.heap.size _ out rfl rfl rfl rfl hown (by omega) (shr8b n k) (by omega) hsz ?_)
      intro v' w1 hown' hbel'
      have hb1 := hbel.trans hbel'
      clear hown hbel hbel'
      go_wp2
      go_roundw
      case rel => exact ⟨k, _, by omega, by go_num, by simp; omega, H3, hown', hb1⟩
      case measure => simp [intOf]

set_option maxRecDepth 100000 in
set_option maxHeartbeats 400000 in
theorem bytes_bad (n : Nat) (s : Int) (hn : n < 18446744073709551616) (h : s < 1 ∨ 8 < s) (w : World) :
    Calls Tryd.prog 45 #[.int .u64 n, .int .i64 s] w fun e w' => e = .returned (.tuple #[.slice none 0 0, .int .i64 2]) ∧ w' = w := by
  rcases h with h | h
  · go_enter Tryd.func45, Tryd.ntmps45
    go_wp2
    go_ret2
    exact ⟨rfl, rfl⟩
  · have h1 : 1 ≤ s := by omega
    go_enter Tryd.func45, Tryd.ntmps45
    go_wp2
    go_ret2
    exact ⟨rfl, rfl⟩

set_option maxRecDepth 100000 in
set_option maxHeartbeats 400000 in
theorem bytes_big (n s : Nat) (hn : n < 18446744073709551616) (h1 : 1 ≤ s) (hs : s ≤ 8) (hfit : n / 256 ^ s ≠ 0) (w : World) :
    Calls Tryd.prog 45 #[.int .u64 n, .int .i64 s] w fun e w' => e = .returned (.tuple #[.slice none 0 0, .int .i64 2]) ∧ w' = w := by
  have ht : ((n : Int) / 2 ^ (8 * s) != 0) = true := by rw [shr8, bne_iff_ne]; omega
  clear hfit
  go_enter Tryd.func45, Tryd.ntmps45
  go_wp2
  go_ret2
  exact ⟨rfl, rfl⟩

/-- May a number have so many bytes? -/
def fits (n : Nat) (s : Int) : Bool := decide (1 ≤ s ∧ s ≤ 8 ∧ n / 256 ^ s.toNat = 0)

end Go.Proofs.YtcmahiphfpgadaaDoor

/- strings.Cut at a point. -/
namespace Go.Proofs.YtcmahiphfpgadaaDoor
open Go.RowKit
set_option linter.unusedVariables false

theorem size_mk (l : List UInt8) : (⟨l.toArray⟩ : ByteArray).size = l.length := by rw [← bytes_length]; rfl

/-- What stands ahead of the first point of a text, and behind it. -/
def aheadOf (l : List UInt8) : List UInt8 := l.takeWhile (· != 46)
def behindOf (l : List UInt8) : List UInt8 := (l.dropWhile (· != 46)).drop 1

theorem cut_none : ∀ l : List UInt8, Lib.indexByte l 46 = -1 → aheadOf l = l ∧ behindOf l = []
  | [], _ => ⟨rfl, rfl⟩
  | b :: l, h => by
    simp only [Lib.indexByte] at h
    by_cases hb : (b == 46) = true
    · rw [if_pos hb] at h; omega
    · rw [if_neg hb] at h
      have hb' : (b != 46) = true := by simpa using hb
      have ge := Lib.indexByte_ge l 46
      have h2 : Lib.indexByte l 46 = -1 := by
        by_cases h3 : (Lib.indexByte l 46 == -1) = true
        · simpa using h3
        · rw [if_neg h3] at h; omega
      obtain ⟨i1, i2⟩ := cut_none l h2
      refine ⟨?_, ?_⟩
      · simp only [aheadOf, List.takeWhile_cons, hb', if_true]; exact congrArg _ i1
      · simp only [behindOf, List.dropWhile_cons, hb', if_true]; exact i2

theorem cut_some : ∀ l : List UInt8, 0 ≤ Lib.indexByte l 46 → Lib.indexByte l 46 = ((aheadOf l).length : Int) ∧ l = aheadOf l ++ 46 :: behindOf l
  | [], h => by simp [Lib.indexByte] at h
  | b :: l, h => by
    simp only [Lib.indexByte] at h ⊢
    by_cases hb : (b == 46) = true
    · have hb2 : b = 46 := by simpa using hb
      subst hb2
      refine ⟨rfl, rfl⟩
    · rw [if_neg hb] at h ⊢
      have hb' : (b != 46) = true := by simpa using hb
      by_cases h3 : (Lib.indexByte l 46 == -1) = true
      · rw [if_pos h3] at h; omega
      · rw [if_neg h3] at h ⊢
        have ge := Lib.indexByte_ge l 46
        have h4 : Lib.indexByte l 46 ≠ -1 := by simpa using h3
        obtain ⟨i1, i2⟩ := cut_some l (by omega)
        have e1 : aheadOf (b :: l) = b :: aheadOf l := by simp [aheadOf, hb']
        have e2 : behindOf (b :: l) = behindOf l := by simp [behindOf, hb']
        rw [e1, e2, i1]
        exact ⟨by simp, by rw [List.cons_append, ← i2]⟩

theorem extract_list (l : List UInt8) (a b : Nat) : (⟨l.toArray⟩ : ByteArray).extract a b = ⟨((l.drop a).take (b - a)).toArray⟩ := by
  have h := Lib.extract_data (⟨l.toArray⟩ : ByteArray) a b
  generalize (⟨l.toArray⟩ : ByteArray).extract a b = x at h ⊢
  obtain ⟨⟨y⟩⟩ := x
  simp at h
  rw [h]

end Go.Proofs.YtcmahiphfpgadaaDoor

/- real's small functions, and the document's own: what they tell, as plain functions of words. -/
namespace Go.Proofs.YtcmahiphfpgadaaDoor
open Go.RowKit
set_option linter.unusedVariables false

theorem nat_beq (a b : Nat) : ((a : Int) == (b : Int)) = (a == b) := by
  rw [Bool.eq_iff_iff]
  simp only [beq_iff_eq]
  omega

theorem cut_nan (x y t : Nat) : isNan (Question.cut (.nanBits .f64 x y) t) = true ∧ Question.cut (.nanBits .f64 x y) t < 18446744073709551616 := by
  have h1 : t % 2 < 2 := Nat.mod_lt _ (by decide)
  have h2 : t / 2 % (2 ^ 52 - 1) < 2 ^ 52 - 1 := Nat.mod_lt _ (by decide)
  have e : Question.cut (.nanBits .f64 x y) t = (t % 2) * 2 ^ 63 + 0x7ff0000000000000 + 1 + (t / 2) % (2 ^ 52 - 1) := rfl
  rw [e]
  generalize t / 2 % (2 ^ 52 - 1) = r at h2 ⊢
  generalize t % 2 = s at h1 ⊢
  refine ⟨?_, by omega⟩
  simp only [isNan, decide_eq_true_eq]
  omega

/-- An operation that has no answer: a NaN whose bits the tape gives. -/
theorem run_float_none {P : Program} (w : World) (op : BinOp) (hop : op = .add ∨ op = .sub ∨ op = .mul ∨ op = .quo) (x y : Nat) (h : floatBits op .f64 x y = none) :
    ∃ b, isNan b = true ∧ b < 18446744073709551616 ∧ ∀ t, (binOp op t (.float .f64 x) (.float .f64 y)).run P w = .ok (.float .f64 b) w.drew := by
  refine ⟨Question.cut (.nanBits .f64 x y) (w.tape w.drawn (.nanBits .f64 x y)), (cut_nan x y _).1, (cut_nan x y _).2, fun t => ?_⟩
  unfold floatBits at h
  rcases hop with rfl | rfl | rfl | rfl <;> simp only at h <;> simp [binOp, Op.floatArith, h, Question.forced]

/-- Whatever it is: what is told of it, and that at most the tape was asked. -/
theorem run_float_any {P : Program} (w : World) (op : BinOp) (hop : op = .add ∨ op = .sub ∨ op = .mul ∨ op = .quo) (x y : Nat) :
    ∃ b q, home b = told (floatBits op .f64 x y) ∧ ∀ t, (binOp op t (.float .f64 x) (.float .f64 y)).run P w = .ok (.float .f64 b) (w.drewN q) := by
  cases h : floatBits op .f64 x y with
  | some r => exact ⟨r, 0, rfl, fun t => by rw [run_float_arith w op t .f64 x y r h]; rfl⟩
  | none =>
    obtain ⟨b, h1, h2, h3⟩ := run_float_none (P := P) w op hop x y h
    exact ⟨b, 1, home_nan h1, fun t => by rw [h3]; rfl⟩

theorem cf_bits (b : Nat) : ∀ w, Sem.run Tryd.prog (callFunc 74 #[.float .f64 b]) w = .ok (.value (.int .u64 b)) w := fun w => by
  rw [run_callFunc_extern Tryd.func74 (by kernel_rfl) (by kernel_rfl) (by kernel_rfl) (e := Extern.MathFloatBits.float64bits) (by kernel_rfl)]
  rfl

theorem cf_from (b : Nat) : ∀ w, Sem.run Tryd.prog (callFunc 62 #[.int .u64 (b : Int)]) w = .ok (.value (.float .f64 b)) w := fun w => by
  rw [run_callFunc_extern Tryd.func62 (by kernel_rfl) (by kernel_rfl) (by kernel_rfl) (e := Extern.MathFloatBits.float64frombits) (by kernel_rfl)]
  rfl

theorem bitsOf_any (b : Nat) (w : World) : Calls Tryd.prog 61 #[.float .f64 b] w fun e w' => e = .returned (.int .u64 (home b : Nat)) ∧ w' = w := by
  have hcf := cf_bits b
  have hneq : (FloatKind.f64.format.order b b != some .eq) = isNan b := neq_self b
  cases h : isNan b
  · rw [home_real h]
    rw [h] at hneq
    go_enter Tryd.func61, Tryd.ntmps61
    go_wp2
    go_ret
    exact ⟨rfl, rfl⟩
  · rw [home_nan h]
    rw [h] at hneq
    go_enter Tryd.func61, Tryd.ntmps61
    go_wp2
    go_ret
    exact ⟨rfl, rfl⟩

theorem canon_any (b : Nat) (w : World) : Calls Tryd.prog 42 #[.int .u64 (b : Int)] w fun e w' => e = .returned (.int .u64 (home b : Nat)) ∧ w' = w := by
  have hcf := cf_from b
  go_enter Tryd.func42, Tryd.ntmps42
  go_wp2_with fail
  refine (bitsOf_any b _).mono ?_
  rintro e w1 ⟨rfl, rfl⟩
  go_wp2
  go_ret
  exact ⟨rfl, rfl⟩

theorem number_any (b : Nat) (w : World) : Calls Tryd.prog 63 #[.int .u64 (b : Int)] w fun e w' => e = .returned (.float .f64 (home b)) ∧ w' = w := by
  have hcf := cf_from (home b)
  go_enter Tryd.func63, Tryd.ntmps63
  go_wp2_with fail
  refine (canon_any b _).mono ?_
  rintro e w1 ⟨rfl, rfl⟩
  go_wp2
  go_ret
  exact ⟨rfl, rfl⟩

theorem may_any (b : Nat) (w : World) (h : b < 18446744073709551616) : Calls Tryd.prog 28 #[.int .u64 (b : Int)] w fun e w' => e = .returned (.bool (home b == b)) ∧ w' = w := by
  have hh := home_lt h
  go_enter Tryd.func28, Tryd.ntmps28
  go_wp2_with fail
  refine (canon_any b _).mono ?_
  rintro e w1 ⟨rfl, rfl⟩
  go_wp2
  go_ret
  exact ⟨by rw [← nat_beq]; rfl, rfl⟩

end Go.Proofs.YtcmahiphfpgadaaDoor

/- real.Neg and real.ToInt, and the document's own. -/
namespace Go.Proofs.YtcmahiphfpgadaaDoor
open Go.RowKit
set_option linter.unusedVariables false

theorem neg_any (a : Nat) (h : a < 18446744073709551616) (w : World) : Calls Tryd.prog 44 #[.int .u64 (a : Int)] w fun e w' => e = .returned (.int .u64 (fneg a : Nat)) ∧ w' = w := by
  have hun : ∀ w, (Op.unary .neg (.float .f64 (home a))).run Tryd.prog w = .ok (.float .f64 (home a ^^^ 9223372036854775808)) w := fun w => rfl
  go_enter Tryd.func44, Tryd.ntmps44
  go_wp2_with fail
  refine (number_any a _).mono ?_
  rintro e w1 ⟨rfl, rfl⟩
  go_wp2_with fail
  refine (bitsOf_any (home a ^^^ 9223372036854775808) _).mono ?_
  rintro e w1 ⟨rfl, rfl⟩
  rw [home_flip a h]
  go_wp2
  go_ret
  exact ⟨rfl, rfl⟩

end Go.Proofs.YtcmahiphfpgadaaDoor

/- real.power, real.quotient, real.Parse: the real of a text. -/
namespace Go.Proofs.YtcmahiphfpgadaaDoor
open Go.RowKit
set_option linter.unusedVariables false

set_option maxRecDepth 100000 in
set_option maxHeartbeats 400000 in
theorem power_any (k : Nat) (hk : k ≤ 6) (w : World) : Calls Tryd.prog 64 #[.int .i64 (k : Int)] w fun e w' => e = .returned (.int .i64 ((10 ^ k : Nat) : Int)) ∧ w' = w := by
  go_enter Tryd.func64, Tryd.ntmps64
  go_wp2
  go_loopw [3, 5] (fun p i wr => ∃ j : Nat, j ≤ k ∧ p = .int .i64 ((10 ^ j : Nat) : Int) ∧ i = .int .i64 (j : Int) ∧ wr = w) (fun _ i _ => (k : Int).toNat - (intOf i).toNat)
  case atStart => exact ⟨0, by omega, rfl, rfl, rfl⟩
  case round =>
    obtain ⟨j, hj, rfl, rfl, rfl⟩ := hrel
    by_cases hc : j < k
    · have hp : 10 ^ j ≤ 100000 := Nat.pow_le_pow_right (show 0 < 10 by decide) (show j ≤ 5 by omega)
      have hs : 10 ^ (j + 1) = 10 ^ j * 10 := Nat.pow_succ 10 j
      have HS : Hid (10 ^ (j + 1) = 10 ^ j * 10) := hs
      clear hs
      obtain ⟨P, hP⟩ : ∃ P, Hid (P = 10 ^ j) := ⟨10 ^ j, (rfl : 10 ^ j = 10 ^ j)⟩
      rw [← hP.out] at hp ⊢
      go_wp2
      go_roundw
      case rel => exact ⟨j + 1, by omega, (by rw [HS.out, ← hP.out]; go_num), by go_num, trivial⟩
      case measure => simp [intOf]; omega
    · obtain rfl : j = k := by omega
      go_wp2
      go_ret
      exact ⟨rfl, rfl⟩

/-- The quotient of two whole numbers, as a real. -/
def quo (n s : Nat) : Nat := fdiv (ofInt (n : Int)) (ofInt (s : Int))

theorem quotient_any (n s : Nat) (w : World) : Calls Tryd.prog 75 #[.int .i64 (n : Int), .int .i64 (s : Int)] w fun e w' => e = .returned (.int .u64 (quo n s : Nat)) ∧ ∃ q, w' = w.drewN q := by
  obtain ⟨x, q, hx, hop⟩ := run_float_any (P := Tryd.prog) w .quo (.inr (.inr (.inr rfl))) (floatOfInt .f64 n) (floatOfInt .f64 s)
  have hx' : home x = quo n s := hx
  clear hx
  go_enter Tryd.func75, Tryd.ntmps75
  go_wp2_with fail
  refine (bitsOf_any x _).mono ?_
  rintro e w1 ⟨rfl, rfl⟩
  rw [hx']
  go_wp2
  go_ret
  exact ⟨rfl, q, rfl⟩

instance (l : List UInt8) : Decidable (GoodDec l) := by unfold GoodDec; infer_instance

/-- The texts that are literals, as the code asks it. -/
def IsLit (l : List UInt8) : Prop := 1 ≤ (behindOf l).length ∧ (behindOf l).length ≤ 6 ∧ (aheadOf l).length + (behindOf l).length ≤ 15 ∧ GoodDec (aheadOf l) ∧ GoodDec (49 :: behindOf l)

instance (l : List UInt8) : Decidable (IsLit l) := by unfold IsLit; infer_instance

/-- A literal's digits, as a whole number. -/
def litNum (l : List UInt8) : Nat := decVal (aheadOf l) * 10 ^ (behindOf l).length + decVal (49 :: behindOf l) - 10 ^ (behindOf l).length

/-- What Parse answers. -/
def ParsePost (l : List UInt8) (e : Ending) : Prop :=
  (IsLit l ∧ e = .returned (.tuple #[.int .u64 (quo (litNum l) (10 ^ (behindOf l).length) : Nat), .int .i64 0])) ∨ (¬ IsLit l ∧ e = .returned (.tuple #[.int .u64 0, .int .i64 4]))

theorem cat_list (x y : List UInt8) : ((⟨x.toArray⟩ : ByteArray) ++ (⟨y.toArray⟩ : ByteArray)) = ⟨(x ++ y).toArray⟩ := by
  apply ByteArray.ext
  simp

theorem good_lt {l : List UInt8} (h : GoodDec l) : decVal l < 10 ^ l.length := by
  have := val_lt l l.length (Nat.le_refl _) h.2.2.1
  rwa [List.take_of_length_le (Nat.le_refl _)] at this

theorem one_ge {b : List UInt8} (h : GoodDec (49 :: b)) : 10 ^ b.length ≤ decVal (49 :: b) := by
  have := val_ge (49 :: b) h.1 h.2.2.1 (by simp) b.length (by simp)
  rwa [List.take_of_length_le (by simp)] at this

end Go.Proofs.YtcmahiphfpgadaaDoor
