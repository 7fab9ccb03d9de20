/- The chapter's examples of check, reckoned: the run. -/
import Derived.Test.YtahgefpckhighaaGreatDoorEvK
namespace Go.Proofs.YtahgefpckhighaaGreatDoor.Ev
open Go.RowKit
set_option linter.unusedVariables false
theorem ran : goodU (run (mkU Tryz.prog 235 209 hs exs) 1000000 (.call 3 [] ⟨7, BT.mk 12 0⟩)) = true := by kernel_rfl
theorem nglobs : Tryz.prog.globals.size = 7 := by kernel_rfl
theorem known_any (w : World) : Calls Tryz.prog 3 #[] w fun r w' => r = .returned (.bool true) ∧ Below w.heap.size w w' :=
  reckoned mixed_ok exs_ok (nt := 235) (nf := 209) (hints := hs) (n := 1000000) (f := 3) (d := 12) (by rw [nglobs]; exact ran) w
end Go.Proofs.YtahgefpckhighaaGreatDoor.Ev
