/- Joined texts of the proof. -/
import Derived.Test.YtjgggmjjikopeaaGreatDoorJ2
import Derived.Lib.Strings
import Derived.Test.YtjgggmjjikopeaaGreatDoorJ3

/- strings.Cut at a point. -/
namespace Go.Proofs.YtjgggmjjikopeaaGreatDoor
open Go.RowKit
set_option linter.unusedVariables false

theorem size_mk (l : List UInt8) : (⟨l.toArray⟩ : ByteArray).size = l.length := by rw [← bytes_length]; rfl

/-- What stands ahead of the first point of a text, and behind it. -/
def aheadOf (l : List UInt8) : List UInt8 := l.takeWhile (· != 46)
def behindOf (l : List UInt8) : List UInt8 := (l.dropWhile (· != 46)).drop 1

theorem cut_none : ∀ l : List UInt8, Lib.indexByte l 46 = -1 → aheadOf l = l ∧ behindOf l = []
  | [], _ => ⟨rfl, rfl⟩
  | b :: l, h => by
    simp only [Lib.indexByte] at h
    by_cases hb : (b == 46) = true
    · rw [if_pos hb] at h; omega
    · rw [if_neg hb] at h
      have hb' : (b != 46) = true := by simpa using hb
      have ge := Lib.indexByte_ge l 46
      have h2 : Lib.indexByte l 46 = -1 := by
        by_cases h3 : (Lib.indexByte l 46 == -1) = true
        · simpa using h3
        · rw [if_neg h3] at h; omega
      obtain ⟨i1, i2⟩ := cut_none l h2
      refine ⟨?_, ?_⟩
      · simp only [aheadOf, List.takeWhile_cons, hb', if_true]; exact congrArg _ i1
      · simp only [behindOf, List.dropWhile_cons, hb', if_true]; exact i2

theorem cut_some : ∀ l : List UInt8, 0 ≤ Lib.indexByte l 46 → Lib.indexByte l 46 = ((aheadOf l).length : Int) ∧ l = aheadOf l ++ 46 :: behindOf l
  | [], h => by simp [Lib.indexByte] at h
  | b :: l, h => by
    simp only [Lib.indexByte] at h ⊢
    by_cases hb : (b == 46) = true
    · have hb2 : b = 46 := by simpa using hb
      subst hb2
      refine ⟨rfl, rfl⟩
    · rw [if_neg hb] at h ⊢
      have hb' : (b != 46) = true := by simpa using hb
      by_cases h3 : (Lib.indexByte l 46 == -1) = true
      · rw [if_pos h3] at h; omega
      · rw [if_neg h3] at h ⊢
        have ge := Lib.indexByte_ge l 46
        have h4 : Lib.indexByte l 46 ≠ -1 := by simpa using h3
        obtain ⟨i1, i2⟩ := cut_some l (by omega)
        have e1 : aheadOf (b :: l) = b :: aheadOf l := by simp [aheadOf, hb']
        have e2 : behindOf (b :: l) = behindOf l := by simp [behindOf, hb']
        rw [e1, e2, i1]
        exact ⟨by simp, by rw [List.cons_append, ← i2]⟩

theorem extract_list (l : List UInt8) (a b : Nat) : (⟨l.toArray⟩ : ByteArray).extract a b = ⟨((l.drop a).take (b - a)).toArray⟩ := by
  have h := Lib.extract_data (⟨l.toArray⟩ : ByteArray) a b
  generalize (⟨l.toArray⟩ : ByteArray).extract a b = x at h ⊢
  obtain ⟨⟨y⟩⟩ := x
  simp at h
  rw [h]

end Go.Proofs.YtjgggmjjikopeaaGreatDoor

/- real.power, real.quotient, real.Parse: the real of a text. -/
namespace Go.Proofs.YtjgggmjjikopeaaGreatDoor
open Go.RowKit
set_option linter.unusedVariables false

set_option maxRecDepth 100000 in
set_option maxHeartbeats 400000 in
theorem power_any (k : Nat) (hk : k ≤ 6) (w : World) : Calls Tryz.prog 159 #[.int .i64 (k : Int)] w fun e w' => e = .returned (.int .i64 ((10 ^ k : Nat) : Int)) ∧ w' = w := by
  go_enter Tryz.func159, Tryz.ntmps159
  go_wp2
  go_loopw [3, 5] (fun p i wr => ∃ j : Nat, j ≤ k ∧ p = .int .i64 ((10 ^ j : Nat) : Int) ∧ i = .int .i64 (j : Int) ∧ wr = w) (fun _ i _ => (k : Int).toNat - (intOf i).toNat)
  case atStart => exact ⟨0, by omega, rfl, rfl, rfl⟩
  case round =>
    obtain ⟨j, hj, rfl, rfl, rfl⟩ := hrel
    by_cases hc : j < k
    · have hp : 10 ^ j ≤ 100000 := Nat.pow_le_pow_right (show 0 < 10 by decide) (show j ≤ 5 by omega)
      have hs : 10 ^ (j + 1) = 10 ^ j * 10 := Nat.pow_succ 10 j
      have HS : Hid (10 ^ (j + 1) = 10 ^ j * 10) := hs
      clear hs
      obtain ⟨P, hP⟩ : ∃ P, Hid (P = 10 ^ j) := ⟨10 ^ j, (rfl : 10 ^ j = 10 ^ j)⟩
      rw [← hP.out] at hp ⊢
      go_wp2
      go_roundw
      case rel => exact ⟨j + 1, by omega, (by rw [HS.out, ← hP.out]; go_num), by go_num, trivial⟩
      case measure => simp [intOf]; omega
    · obtain rfl : j = k := by omega
      go_wp2
      go_ret
      exact ⟨rfl, rfl⟩

/-- The quotient of two whole numbers, as a real. -/
def quo (n s : Nat) : Nat := fdiv (ofInt (n : Int)) (ofInt (s : Int))

theorem quotient_any (n s : Nat) (w : World) : Calls Tryz.prog 160 #[.int .i64 (n : Int), .int .i64 (s : Int)] w fun e w' => e = .returned (.int .u64 (quo n s : Nat)) ∧ ∃ q, w' = w.drewN q := by
  obtain ⟨x, q, hx, hop⟩ := run_float_any (P := Tryz.prog) w .quo (.inr (.inr (.inr rfl))) (floatOfInt .f64 n) (floatOfInt .f64 s)
  have hx' : home x = quo n s := hx
  clear hx
  go_enter Tryz.func160, Tryz.ntmps160
  go_wp2_with fail
  refine (bitsOf_any x _).mono ?_
  rintro e w1 ⟨rfl, rfl⟩
  rw [hx']
  go_wp2
  go_ret
  exact ⟨rfl, q, rfl⟩

instance (l : List UInt8) : Decidable (GoodDec l) := by unfold GoodDec; infer_instance

/-- The texts that are literals, as the code asks it. -/
def IsLit (l : List UInt8) : Prop := 1 ≤ (behindOf l).length ∧ (behindOf l).length ≤ 6 ∧ (aheadOf l).length + (behindOf l).length ≤ 15 ∧ GoodDec (aheadOf l) ∧ GoodDec (49 :: behindOf l)

instance (l : List UInt8) : Decidable (IsLit l) := by unfold IsLit; infer_instance

/-- A literal's digits, as a whole number. -/
def litNum (l : List UInt8) : Nat := decVal (aheadOf l) * 10 ^ (behindOf l).length + decVal (49 :: behindOf l) - 10 ^ (behindOf l).length

/-- What Parse answers. -/
def ParsePost (l : List UInt8) (e : Ending) : Prop :=
  (IsLit l ∧ e = .returned (.tuple #[.int .u64 (quo (litNum l) (10 ^ (behindOf l).length) : Nat), .int .i64 0])) ∨ (¬ IsLit l ∧ e = .returned (.tuple #[.int .u64 0, .int .i64 4]))

theorem cat_list (x y : List UInt8) : ((⟨x.toArray⟩ : ByteArray) ++ (⟨y.toArray⟩ : ByteArray)) = ⟨(x ++ y).toArray⟩ := by
  apply ByteArray.ext
  simp

theorem good_lt {l : List UInt8} (h : GoodDec l) : decVal l < 10 ^ l.length := by
  have := val_lt l l.length (Nat.le_refl _) h.2.2.1
  rwa [List.take_of_length_le (Nat.le_refl _)] at this

theorem one_ge {b : List UInt8} (h : GoodDec (49 :: b)) : 10 ^ b.length ≤ decVal (49 :: b) := by
  have := val_ge (49 :: b) h.1 h.2.2.1 (by simp) b.length (by simp)
  rwa [List.take_of_length_le (by simp)] at this

end Go.Proofs.YtjgggmjjikopeaaGreatDoor
