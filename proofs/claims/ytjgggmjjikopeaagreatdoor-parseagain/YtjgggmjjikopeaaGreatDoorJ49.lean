/- Joined texts of the proof. -/
import Derived.Test.YtjgggmjjikopeaaGreatDoorJ48

/- The awake, whole. -/
namespace Go.Proofs.YtjgggmjjikopeaaGreatDoor
open Go.RowKit
set_option linter.unusedVariables false

set_option maxRecDepth 100000 in
set_option maxHeartbeats 3200000 in
theorem awake6 (w : World) (hE : ErrR w) (hT : Tab w) (h16 : gB ≤ w.heap.size) : Calls Tryz.prog 12 #[] w fun r w' => r = .returned (.bool true) ∧ Below w.heap.size w w' := by
  have HP := printed_yes w hE hT h16
  go_enter Tryz.func12, Tryz.ntmps12
  go_wp2_with (first
    | (go_at_call 36; refine HP.mono ?_; rintro _ w1 ⟨rfl, hb1⟩)
    | (go_at_call 16; refine (fault_yes w1 (hE.below hb1)).mono ?_; rintro _ w2 ⟨rfl, hb2⟩))
  go_ret
  exact ⟨rfl, hb1.trans (hb2.mono hb1.size)⟩

end Go.Proofs.YtjgggmjjikopeaaGreatDoor
