/- The law VmKnown, reckoned: the run. -/
import Derived.Test.YtbaomnpfamjpmaaGreatDoorEvK
import Derived.Test.YtbaomnpfamjpmaaGreatDoorEvR2
import Derived.Test.YtbaomnpfamjpmaaGreatDoorEvR3
namespace Go.Proofs.YtbaomnpfamjpmaaGreatDoor.Ev
open Go.RowKit
set_option linter.unusedVariables false
theorem all_in_ : ∀ p ∈ ([(7, m2), (484, m837), (1692, m2222)] : List (Nat × Memo)), Memoed Tryz.prog p := by
  intro p hp
  simp only [List.mem_cons, List.not_mem_nil, or_false] at hp
  rcases hp with rfl | rfl | rfl
  · exact m2_ok
  · exact m837_ok
  · exact m2222_ok
theorem ran : goodU (run (mkU Tryz.prog 359 314 hs exs 12 [(7, m2), (484, m837), (1692, m2222)]) 1000000 (.call 3 [] ⟨7, BT.mk 12 0⟩)) = true := by kernel_rfl
theorem nglobs : Tryz.prog.globals.size = 7 := by kernel_rfl
theorem known_any (w : World) : Calls Tryz.prog 3 #[] w fun r w' => r = .returned (.bool true) ∧ Below w.heap.size w w' :=
  reckoned mixed_ok exs_ok (nt := 359) (nf := 314) (hints := hs) (md := 12) all_in_ (n := 1000000) (f := 3) (d := 12) (by rw [nglobs]; exact ran) w
end Go.Proofs.YtbaomnpfamjpmaaGreatDoor.Ev
