/- The law SemKnown, reckoned: the run. -/
import Derived.Test.YtileffgkbbmecaaGreatDoorEvK
import Derived.Test.YtileffgkbbmecaaGreatDoorEvR1
import Derived.Test.YtileffgkbbmecaaGreatDoorEvR2
import Derived.Test.YtileffgkbbmecaaGreatDoorEvR3
import Derived.Test.YtileffgkbbmecaaGreatDoorEvR4
namespace Go.Proofs.YtileffgkbbmecaaGreatDoor.Ev
open Go.RowKit
set_option linter.unusedVariables false
theorem all_in_ : ∀ p ∈ ([(7, m1), (486, m838), (1202, m1819), (1681, m2656), (2731, m4133), (3210, m4970), (4099, m6195)] : List (Nat × Memo)), Memoed Tryz.prog p := by
  intro p hp
  simp only [List.mem_cons, List.not_mem_nil, or_false] at hp
  rcases hp with rfl | rfl | rfl | rfl | rfl | rfl | rfl
  · exact m1_ok
  · exact m838_ok
  · exact m1819_ok
  · exact m2656_ok
  · exact m4133_ok
  · exact m4970_ok
  · exact m6195_ok
theorem ran : goodU (run (mkU Tryz.prog 310 275 hs exs 13 [(7, m1), (486, m838), (1202, m1819), (1681, m2656), (2731, m4133), (3210, m4970), (4099, m6195)]) 1000000 (.call 3 [] ⟨7, BT.mk 13 0⟩)) = true := by kernel_rfl
theorem nglobs : Tryz.prog.globals.size = 7 := by kernel_rfl
theorem known_any (w : World) : Calls Tryz.prog 3 #[] w fun r w' => r = .returned (.bool true) ∧ Below w.heap.size w w' :=
  reckoned mixed_ok exs_ok (nt := 310) (nf := 275) (hints := hs) (md := 13) all_in_ (n := 1000000) (f := 3) (d := 13) (by rw [nglobs]; exact ran) w
end Go.Proofs.YtileffgkbbmecaaGreatDoor.Ev
