/- What the known codes are, by evaluation. -/
import Derived.Test.YtefklmckkigllaaRdG
namespace Go.Proofs.Ytefklmckkigllaa
open Go.RowKit
set_option linter.unusedVariables false

/-- The least code. -/
def cd0 : Cd := ⟨[], 0, [⟨[], 0, []⟩]⟩
def by0 : List UInt8 := [0, 0, 1, 0, 0, 0, 0]
/-- A code of one node. -/
def cd1 (x : Nd) : Cd := ⟨[⟨1, 0⟩], 0, [⟨[], 1, [x]⟩]⟩
theorem chk0 : checkC cd0 = 0 := by kernel_rfl
theorem enc0 : encC cd0 = by0 := by kernel_rfl
theorem chkE : checkC ⟨[], 0, []⟩ = 3 := by kernel_rfl
theorem rdN : readC [] = none := by kernel_rfl
theorem rd0 : readC by0 = some cd0 := by kernel_rfl
theorem chk65 : checkC ⟨[], 0, [⟨[], 65, []⟩]⟩ = 2 := by kernel_rfl
theorem chkA : checkC (cd1 ⟨[], 7, 0, 1, 0⟩) = 0 := by kernel_rfl
theorem chkB : checkC (cd1 ⟨[], 7, 0, 2, 0⟩) = 2 := by kernel_rfl
theorem chkC : checkC (cd1 ⟨[⟨1, 0, ⟨1, 1⟩⟩], 5, 0, 0, 0⟩) = 9 := by kernel_rfl
theorem chkD : checkC (cd1 ⟨[⟨31, 0, ⟨0, 0⟩⟩], 2, 0, 0, 0⟩) = 190 := by kernel_rfl
end Go.Proofs.Ytefklmckkigllaa
