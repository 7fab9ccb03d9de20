/- The plain functions of bytes, numbers and digits that the contracts speak of, and small facts about them: no program is named here. -/
import Derived.WalkKit
namespace Go.Proofs.Ytbehmclligkbhaa

/-- A byte as a cell holds it. -/
def B8 (b : UInt8) : Value := .int .u8 (b.toNat : Int)

/-- The byte of a number. -/
def ub (n : Nat) : UInt8 := UInt8.ofNat n

theorem ub_toNat (n : Nat) (h : n < 256) : (ub n).toNat = n := by simp [ub]; omega

/-- A number's shortest bytes: 'f' groups more at most. -/
def short : Nat → Nat → List UInt8
  | 0, n => [ub n]
  | f + 1, n => if n < 128 then [ub n] else ub (n % 128 + 128) :: short f (n / 128)

theorem short_small (f n : Nat) (h : n < 128) : short f n = [ub n] := by
  cases f with
  | zero => rfl
  | succ f => simp [short, h]

theorem short_big (f n : Nat) (h : 128 ≤ n) : short (f + 1) n = ub (n % 128 + 128) :: short f (n / 128) := by
  simp [short, show ¬ n < 128 by omega]

theorem short_length (f n : Nat) : (short f n).length ≤ f + 1 := by
  induction f generalizing n with
  | zero => simp [short]
  | succ f ih => unfold short; split <;> simp; have := ih (n / 128); omega

end Go.Proofs.Ytbehmclligkbhaa
