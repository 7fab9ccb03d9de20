/- What the program's frames must tell, as a face. -/
import Derived.Test.YtbehmclligkbhaaFrD
namespace Go.Proofs.Ytbehmclligkbhaa
open Go.RowKit
set_option linter.unusedVariables false

def sizeZ (z : Int) : Int := if z < 0 ∨ 65536 < z then 0 else z + 12
/-- What the program's frame must tell. -/
structure Face : Prop where
  check : ∀ {a : Option Addr} {n c : Nat} {bs : List UInt8} {w : World}, Row w a bs → n = bs.length → n ≤ 9223372036854775807 → n ≤ c → Calls Try.prog 13 #[.slice a n c] w fun r w' => r = .returned (.int .u32 (crc bs : Int)) ∧ Below w.heap.size w w'
  size : ∀ {z : Int} {w : World}, Calls Try.prog 15 #[.int .i64 z] w fun r w' => r = .returned (.int .i64 (sizeZ z)) ∧ Below w.heap.size w w'
  frame : ∀ {a : Option Addr} {n c : Nat} {bs : List UInt8} {w : World}, Row w a bs → n = bs.length → n ≤ c → (a = none → c = 0) → n ≤ 65536 → Calls Try.prog 9 #[.slice a n c] w fun r w' => ∃ v, r = .returned (.tuple #[v, .int .i64 0]) ∧ OwnX eB w.heap.size w' v (frameL bs) ∧ Below w.heap.size w w'
  long : ∀ {a : Option Addr} {n c : Nat} {w : World}, 65536 < n → n ≤ c → Calls Try.prog 9 #[.slice a n c] w fun r w' => r = .returned (.tuple #[.slice none 0 0, .int .i64 3]) ∧ Below w.heap.size w w'
  scan : ∀ {a : Option Addr} {n c : Nat} {bs : List UInt8} {w : World}, Row w a bs → n = bs.length → n ≤ c → (a = none → c = 0) → n ≤ 1099511627776 → Calls Try.prog 10 #[.slice a n c] w fun r w' => ∃ a2 c2 xs, r = .returned (.tuple #[.slice a2 xs.length c2, .int .i64 ((scanL bs).2.1 : Int), .int .i64 ((scanL bs).2.2 : Int)]) ∧ LB w' a2 xs ∧ bss xs = (scanL bs).1 ∧ xs.length ≤ c2 ∧ Below w.heap.size w w'
  oneYes : ∀ {a : Option Addr} {n c : Nat} {bs r : List UInt8} {w : World}, Row w a bs → n = bs.length → n ≤ c → (a = none → c = 0) → n ≤ 1099511627776 → (scanL bs).1 = [r] → (scanL bs).2.2 = 0 → Calls Try.prog 11 #[.slice a n c] w fun e w' => ∃ a2 c2, e = .returned (.tuple #[.slice a2 r.length c2, .int .i64 0]) ∧ Row w' a2 r ∧ r.length ≤ c2 ∧ Below w.heap.size w w'
  oneNo : ∀ {a : Option Addr} {n c : Nat} {bs : List UInt8} {w : World}, Row w a bs → n = bs.length → n ≤ c → (a = none → c = 0) → n ≤ 1099511627776 → ((scanL bs).1.length ≠ 1 ∨ (scanL bs).2.2 ≠ 0) → Calls Try.prog 11 #[.slice a n c] w fun e w' => e = .returned (.tuple #[.slice none 0 0, .int .i64 4]) ∧ Below w.heap.size w w'
theorem scan_fits (bs : List UInt8) : (scanL bs).2.1 ≤ bs.length ∧ (scanL bs).2.2 ≤ 2 := by
  have := scan_again bs.length bs (Nat.le_refl _)
  exact ⟨this.2.1, this.2.2.1⟩
end Go.Proofs.Ytbehmclligkbhaa
