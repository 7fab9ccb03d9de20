/- Joined texts of the proof. -/
import Derived.Test.YtjgggmjjikopeaaGreatDoorJ45

/- The document's Expr, of any text. -/
namespace Go.Proofs.YtjgggmjjikopeaaGreatDoor
open Go.RowKit
set_option linter.unusedVariables false

end Go.Proofs.YtjgggmjjikopeaaGreatDoor

/- What stands for the awake's texts. -/
namespace Go.Proofs.YtjgggmjjikopeaaGreatDoor
open Go.RowKit
set_option linter.unusedVariables false

/-- The awake's texts. -/
def txA : List UInt8 := [97, 32, 45, 32, 98, 32, 45, 32, 99, 32, 42, 32, 45, 100]
def txB : List UInt8 := [97, 32, 60, 32, 98, 32, 60, 32, 99]
def rsA : Rs Ex := (rowF 60 1 0 (toksOf txA)).getD (.bad 0 0)
def rsB : Rs Ex := (rowF 60 1 0 (toksOf txB)).getD (.bad 0 0)
theorem getD_some {α : Type} {o : Option α} {d : α} (h : o.isSome = true) : o = some (o.getD d) := by
  cases o with
  | none => cases h
  | some x => rfl
theorem evA : ∃ f, rowF f 1 0 (toksOf txA) = some rsA := ⟨60, getD_some (by kernel_rfl)⟩
theorem evB : ∃ f, rowF f 1 0 (toksOf txB) = some rsB := ⟨60, getD_some (by kernel_rfl)⟩
theorem exB_ev : exO txB rsB = (noX.ex, 4, 6) := by kernel_rfl
theorem exA_ev : (exO txA rsA).2 = (0, 0) := by kernel_rfl
theorem exA_tx : exT (exO txA rsA).1 = [40, 40, 97, 32, 45, 32, 98, 41, 32, 45, 32, 40, 99, 32, 42, 32, 45, 100, 41, 41] := by kernel_rfl
theorem exA_may : mayE 32 (exO txA rsA).1 = true := by kernel_rfl

end Go.Proofs.YtjgggmjjikopeaaGreatDoor
