/- J -/
import Derived.WalkKit
open Go.RowKit
namespace Go.Proofs.YtjgggmjjikopeaaGreatDoor
def B8 (b : UInt8) : Value := .int .u8 (b.toNat : Int)
def ub (n : Nat) : UInt8 := UInt8.ofNat n
theorem Xe (n : Nat) (h : n < 256) : (ub n).toNat = n := by simp [ub]; omega
