/- The law VmNil, reckoned: the run. -/
import Derived.Test.YtejieehjemphfaaGreatDoorEvK
import Derived.Test.YtejieehjemphfaaGreatDoorEvR1
import Derived.Test.YtejieehjemphfaaGreatDoorEvR2
namespace Go.Proofs.YtejieehjemphfaaGreatDoor.Ev
open Go.RowKit
set_option linter.unusedVariables false
theorem all_in_ : ∀ p ∈ ([(29, m65), (506, m900)] : List (Nat × Memo)), Memoed Tryz.prog p := by
  intro p hp
  simp only [List.mem_cons, List.not_mem_nil, or_false] at hp
  rcases hp with rfl | rfl
  · exact m65_ok
  · exact m900_ok
theorem ran : goodU (run (mkU Tryz.prog 374 330 hs exs 12 [(29, m65), (506, m900)]) 1000000 (.call 3 (holes 2) ⟨7, BT.mk 12 0⟩)) = true := by kernel_rfl
theorem nglobs : Tryz.prog.globals.size = 7 := by kernel_rfl
theorem known_any (xs : List Value) (hk : xs.length = 2) (h1 : ∀ v ∈ xs, v.cells = #[v]) (w : World) : Calls Tryz.prog 3 xs.toArray w fun r w' => r = .returned (.bool true) ∧ Below w.heap.size w w' :=
  reckonedA mixed_ok exs_ok (nt := 374) (nf := 330) (hints := hs) (md := 12) all_in_ (n := 1000000) (f := 3) (d := 12) (k := 2) (by rw [nglobs]; exact ran) xs hk h1 w
end Go.Proofs.YtejieehjemphfaaGreatDoor.Ev
