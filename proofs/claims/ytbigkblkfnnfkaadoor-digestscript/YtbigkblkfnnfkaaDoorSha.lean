/- SHA-256 as plain functions of numbers and lists: no program is named here. -/
import Derived.Test.YtbigkblkfnnfkaaDoorTable
import Derived.Laws.BitsAllLaws
import Derived.BigQuiet
import Derived.Deep.QuietTactic
import Derived.Deep.WholeRow
namespace Go.Proofs.YtbigkblkfnnfkaaDoor
open Go.RowKit
set_option linter.unusedVariables false

def or32 (a b : Nat) : Nat := (a % 4294967296) ||| (b % 4294967296)
def and32 (a b : Nat) : Nat := (a % 4294967296) &&& (b % 4294967296)
def xor32 (a b : Nat) : Nat := (a % 4294967296) ^^^ (b % 4294967296)

theorem ofInt_any (a : Nat) : (BitVec.ofInt 32 (a : Int)).toNat = a % 4294967296 := by
  rw [BitVec.ofInt_natCast, BitVec.toNat_ofNat]

theorem or32_eq (a b : Nat) : bits .or .u32 (a : Int) (b : Int) = ((or32 a b : Nat) : Int) := by
  have hx : (a % 4294967296) ||| (b % 4294967296) < 2 ^ 32 := Nat.or_lt_two_pow (by omega) (by omega)
  show IntKind.u32.wrap ((BitVec.ofInt 32 (a : Int) ||| BitVec.ofInt 32 (b : Int)).toNat : Int) = _
  rw [BitVec.toNat_or, ofInt_any, ofInt_any, IntKind.wrap_u32']
  unfold or32
  omega
theorem and32_eq (a b : Nat) : bits .and .u32 (a : Int) (b : Int) = ((and32 a b : Nat) : Int) := by
  have hx : (a % 4294967296) &&& (b % 4294967296) < 2 ^ 32 := Nat.and_lt_two_pow _ (by omega)
  show IntKind.u32.wrap ((BitVec.ofInt 32 (a : Int) &&& BitVec.ofInt 32 (b : Int)).toNat : Int) = _
  rw [BitVec.toNat_and, ofInt_any, ofInt_any, IntKind.wrap_u32']
  unfold and32
  omega
theorem xor32_eq (a b : Nat) : bits .xor .u32 (a : Int) (b : Int) = ((xor32 a b : Nat) : Int) := by
  have hx : (a % 4294967296) ^^^ (b % 4294967296) < 2 ^ 32 := Nat.xor_lt_two_pow (by omega) (by omega)
  show IntKind.u32.wrap ((BitVec.ofInt 32 (a : Int) ^^^ BitVec.ofInt 32 (b : Int)).toNat : Int) = _
  rw [BitVec.toNat_xor, ofInt_any, ofInt_any, IntKind.wrap_u32']
  unfold xor32
  omega

theorem not32_eq (a : Nat) : bits .xor .u32 (if IntKind.u32.signed = true then -1 else IntKind.u32.max) (a : Int) = ((xor32 4294967295 a : Nat) : Int) := by
  rw [← xor32_eq]
  rfl

/-- A word, turned. -/
def rot (x k : Nat) : Nat := or32 (x / 2 ^ k) (x * 2 ^ (32 - k) % 4294967296)

theorem rot_eq (x k : Nat) : bits .or .u32 ((x : Int) / 2 ^ k) ((x : Int) * 2 ^ (32 - k) % 4294967296) = ((rot x k : Nat) : Int) := by
  unfold rot
  rw [← or32_eq]
  simp

/-- A word as a cell holds it. -/
def U32 (n : Nat) : Value := .int .u32 (n : Int)

set_option maxRecDepth 100000 in
theorem turn_any (x k : Nat) (w : World) (hk : k < 32) :
    Calls Tryd.prog 47 #[.int .u32 (x : Int), .int .u64 (k : Int)] w fun e w' => e = .returned (.int .u32 (rot x k : Nat)) ∧ w' = w := by
  have H := rot_eq x k
  go_enter Tryd.func47, Tryd.ntmps47
  go_wp2
  go_ret
  exact ⟨rfl, rfl⟩
set_option maxRecDepth 100000 in
theorem right_any (x k : Nat) (w : World) (hk : k < 32) :
    Calls Tryd.prog 45 #[.int .u32 (x : Int), .int .i64 (k : Int)] w fun e w' => e = .returned (.int .u32 (rot x k : Nat)) ∧ ∃ n, w' = w.drewN n := by
  have H := rot_eq x k
  go_enter Tryd.func45, Tryd.ntmps45
  go_wp2_with fail
  go_quiet (fail)
  go_wp2
  go_ret
  exact ⟨rfl, _, rfl⟩
theorem turn_lit (x k : Nat) (z : Int) (w : World) (hz : z = (k : Int)) (hk : k < 32) :
    Calls Tryd.prog 47 #[.int .u32 (x : Int), .int .u64 z] w fun e w' => e = .returned (.int .u32 (rot x k : Nat)) ∧ w' = w := by
  subst hz
  exact turn_any x k w hk
theorem right_lit (x k : Nat) (z : Int) (w : World) (hz : z = (k : Int)) (hk : k < 32) :
    Calls Tryd.prog 45 #[.int .u32 (x : Int), .int .i64 z] w fun e w' => e = .returned (.int .u32 (rot x k : Nat)) ∧ ∃ n, w' = w.drewN n := by
  subst hz
  exact right_any x k w hk
end Go.Proofs.YtbigkblkfnnfkaaDoor
