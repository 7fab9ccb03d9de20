/- The law CompileKnown, reckoned: the run. -/
import Derived.Test.YtlebhmdjejoaeaaGreatDoorEvK
import Derived.Test.YtlebhmdjejoaeaaGreatDoorEvR1
import Derived.Test.YtlebhmdjejoaeaaGreatDoorEvR2
import Derived.Test.YtlebhmdjejoaeaaGreatDoorEvR3
import Derived.Test.YtlebhmdjejoaeaaGreatDoorEvR4
import Derived.Test.YtlebhmdjejoaeaaGreatDoorEvR5
namespace Go.Proofs.YtlebhmdjejoaeaaGreatDoor.Ev
open Go.RowKit
set_option linter.unusedVariables false
theorem all_in_ : ∀ p ∈ ([(7, m1), (1452, m1937), (1959, m2641), (2466, m3345), (2973, m4049)] : List (Nat × Memo)), Memoed Tryz.prog p := by
  intro p hp
  simp only [List.mem_cons, List.not_mem_nil, or_false] at hp
  rcases hp with rfl | rfl | rfl | rfl | rfl
  · exact m1_ok
  · exact m1937_ok
  · exact m2641_ok
  · exact m3345_ok
  · exact m4049_ok
theorem ran : goodU (run (mkU Tryz.prog 269 225 hs exs 12 [(7, m1), (1452, m1937), (1959, m2641), (2466, m3345), (2973, m4049)]) 1000000 (.call 3 [] ⟨7, BT.mk 12 0⟩)) = true := by kernel_rfl
theorem nglobs : Tryz.prog.globals.size = 7 := by kernel_rfl
theorem known_any (w : World) : Calls Tryz.prog 3 #[] w fun r w' => r = .returned (.bool true) ∧ Below w.heap.size w w' :=
  reckoned mixed_ok exs_ok (nt := 269) (nf := 225) (hints := hs) (md := 12) all_in_ (n := 1000000) (f := 3) (d := 12) (by rw [nglobs]; exact ran) w
end Go.Proofs.YtlebhmdjejoaeaaGreatDoor.Ev
