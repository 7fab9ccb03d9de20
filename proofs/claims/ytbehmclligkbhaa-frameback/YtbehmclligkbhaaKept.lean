/- assizekit.KeptBytes: what was lent and not written is found as it was. -/
import Derived.Test.YtbehmclligkbhaaLent
import Derived.Test.YtbehmclligkbhaaSame
import Derived.Deep.RegionHeld3
import Derived.Deep.DrawnRows
namespace Go.Proofs.Ytbehmclligkbhaa
open Go.RowKit
set_option linter.unusedVariables false
attribute [local go_sem ↓] Go.wp_at_zero Go.wp_at_succ

theorem Blk.row {w : World} {g : Nat} {bs : List UInt8} (h : Blk w g (bs.map B8)) (k : Nat) (hk : k ≤ bs.length) : Row w (some ⟨g, 0, none⟩) (bs.take k) := by
  refine .inr ⟨g, 0, rfl, fun j hj => ?_⟩
  have hj' : j < bs.length := by simp at hj; omega
  have hjk : j < k := by simp at hj; omega
  rw [Nat.zero_add, h.cell j]
  simp [B8, List.getD, List.getElem?_take_of_lt hjk, List.getElem?_eq_getElem hj']

theorem Blk.row_all {w : World} {g : Nat} {bs : List UInt8} (h : Blk w g (bs.map B8)) : Row w (some ⟨g, 0, none⟩) bs := by
  have := h.row bs.length (Nat.le_refl _)
  rwa [List.take_length] at this

theorem same_len (a1 a2 : Option Addr) (n1 n2 c1 c2 : Nat) (bs cs : List UInt8) (w : World) (h1 : Row w a1 bs) (h2 : Row w a2 cs) (e1 : bs.length = n1) (e2 : cs.length = n2) :
    Calls Try.prog 17 #[.slice a1 n1 c1, .slice a2 n2 c2] w fun e w' => e = .returned (.bool (bs == cs)) ∧ w' = w := by
  subst e1 e2
  exact same_any a1 a2 c1 c2 bs cs w h1 h2

theorem Row.drew {w : World} {a : Option Addr} {bs : List UInt8} (h : Row w a bs) : Row w.drew a bs := h
theorem Blk.drew {w : World} {g : Nat} {cs : List Value} (h : Blk w g cs) : Blk w.drew g cs := h

set_option maxRecDepth 100000 in
set_option maxHeartbeats 800000 in
theorem kept_any (a : Option Addr) (cap g : Nat) (bs : List UInt8) (w : World) (hrow : Row w a bs) (hblk : Blk w g ((lent bs).map B8)) (hmax : bs.length ≤ 1099511627776) :
    Calls Try.prog 12 #[.slice (some ⟨g, 0, none⟩) bs.length (bs.length + 3), .slice a bs.length cap] w fun e w' => e = .returned (.bool true) ∧ Below w.heap.size w w' := by
  have i1 : (0 : Int) ≤ (bs.length : Int) := by omega
  have i2 : (bs.length : Int) + 3 ≤ 1099511627779 := by omega
  have hs1 := fun w => run_slice_to w (some ⟨g, 0, none⟩) bs.length (bs.length + 3) (bs.length + 3) ((bs.length : Int) + 3) (by omega) (by omega)
  have hs2 := fun w => run_slice_to w (some ⟨g, 0, none⟩) bs.length (bs.length + 3) (bs.length + 3) ((bs.length + 3 : Nat) : Int) (by omega) (by omega)
  have hs3 := fun w0 => run_slice_to w0 (some ⟨w.heap.size, 0, none⟩) bs.length (bs.length + 3) (bs.length + 3) ((bs.length : Int) + 3) (by omega) (by omega)
  have hw3 : IntKind.i64.wrap ((bs.length : Int) + 3) = (bs.length : Int) + 3 := by rw [IntKind.wrap_i64]; omega
  go_enter Try.func12, Try.ntmps12
  go_wp2
  go_region_held3 (fun _ => True) (trivial) (first | (go_at_call 8; refine (lent_any a cap bs _ hrow.drew hmax).mono ?_; rintro e w1 ⟨rfl, hblk1, hbel1⟩) | (go_at_call 17; refine (same_len _ _ _ _ _ _ (lent bs) (lent bs) _ (hblk.drew.below hbel1).row_all hblk1.row_all (lent_length bs) (lent_length bs)).mono ?_; rintro e w2 ⟨rfl, rfl⟩))
  go_wp2
  go_ret
  exact ⟨rfl, (Below.refl _ w).drew.trans hbel1⟩
end Go.Proofs.Ytbehmclligkbhaa
