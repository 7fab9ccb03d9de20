/- The law DepKnown, reckoned: the run. -/
import Derived.Test.YtdmpnjlkjlllbaaGreatDoorEvK
import Derived.Test.YtdmpnjlkjlllbaaGreatDoorEvR2
namespace Go.Proofs.YtdmpnjlkjlllbaaGreatDoor.Ev
open Go.RowKit
set_option linter.unusedVariables false
theorem all_in_ : ∀ p ∈ ([(17, m5)] : List (Nat × Memo)), Memoed Tryz.prog p := by
  intro p hp
  simp only [List.mem_cons, List.not_mem_nil, or_false] at hp
  rcases hp with rfl
  · exact m5_ok
theorem ran : goodU (run (mkU Tryz.prog 373 321 hs exs 12 [(17, m5)]) 1000000 (.call 3 [] ⟨7, BT.mk 12 0⟩)) = true := by kernel_rfl
theorem nglobs : Tryz.prog.globals.size = 7 := by kernel_rfl
theorem known_any (w : World) : Calls Tryz.prog 3 #[] w fun r w' => r = .returned (.bool true) ∧ Below w.heap.size w w' :=
  reckoned mixed_ok exs_ok (nt := 373) (nf := 321) (hints := hs) (md := 12) all_in_ (n := 1000000) (f := 3) (d := 12) (by rw [nglobs]; exact ran) w
end Go.Proofs.YtdmpnjlkjlllbaaGreatDoor.Ev
