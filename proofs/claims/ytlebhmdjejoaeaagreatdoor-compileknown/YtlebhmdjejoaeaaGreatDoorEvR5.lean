/- The law CompileKnown, reckoned: calls that are reckoned ahead of it. -/
import Derived.Test.YtlebhmdjejoaeaaGreatDoorEvK
namespace Go.Proofs.YtlebhmdjejoaeaaGreatDoor.Ev
open Go.RowKit
set_option linter.unusedVariables false
noncomputable def m1 : Memo := ⟨4, [], [], .bool true, [], 674⟩
theorem m1_in : ∀ p ∈ ([] : List (Nat × Memo)), Memoed Tryz.prog p := fun p hp => by cases hp
theorem m1_ok : Memoed Tryz.prog (7, m1) :=
  memoed mixed_ok exs_ok (nt := 269) (nf := 225) (hints := hs) (md := 12) m1_in (n := 1000000) (D := 12) (by kernel_rfl)
end Go.Proofs.YtlebhmdjejoaeaaGreatDoor.Ev
