/- The law SemNil, reckoned: the run. -/
import Derived.Test.YthgjjogleklmcaaGreatDoorEvK
import Derived.Test.YthgjjogleklmcaaGreatDoorEvR1
import Derived.Test.YthgjjogleklmcaaGreatDoorEvR2
namespace Go.Proofs.YthgjjogleklmcaaGreatDoor.Ev
open Go.RowKit
set_option linter.unusedVariables false
theorem all_in_ : ∀ p ∈ ([(21, m44), (500, m881)] : List (Nat × Memo)), Memoed Tryz.prog p := by
  intro p hp
  simp only [List.mem_cons, List.not_mem_nil, or_false] at hp
  rcases hp with rfl | rfl
  · exact m44_ok
  · exact m881_ok
theorem ran : goodU (run (mkU Tryz.prog 316 280 hs exs 12 [(21, m44), (500, m881)]) 1000000 (.call 3 (holes 1) ⟨7, BT.mk 12 0⟩)) = true := by kernel_rfl
theorem nglobs : Tryz.prog.globals.size = 7 := by kernel_rfl
theorem known_any (xs : List Value) (hk : xs.length = 1) (h1 : ∀ v ∈ xs, v.cells = #[v]) (w : World) : Calls Tryz.prog 3 xs.toArray w fun r w' => r = .returned (.bool true) ∧ Below w.heap.size w w' :=
  reckonedA mixed_ok exs_ok (nt := 316) (nf := 280) (hints := hs) (md := 12) all_in_ (n := 1000000) (f := 3) (d := 12) (k := 1) (by rw [nglobs]; exact ran) xs hk h1 w
end Go.Proofs.YthgjjogleklmcaaGreatDoor.Ev
