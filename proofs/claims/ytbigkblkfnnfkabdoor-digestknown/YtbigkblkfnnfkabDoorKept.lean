/- assizekit.KeptBytes: what was lent and not written is found as it was. -/
import Derived.Deep.RegionHeld3
import Derived.Deep.DrawnRows
import Derived.Test.YtbigkblkfnnfkabDoorSame
namespace Go.Proofs.YtbigkblkfnnfkabDoor
open Go.RowKit
set_option linter.unusedVariables false
attribute [local go_sem ↓] Go.wp_at_zero Go.wp_at_succ

theorem Blk.row {w : World} {g : Nat} {bs : List UInt8} (h : Blk w g (bs.map B8)) (k : Nat) (hk : k ≤ bs.length) : Row w (some ⟨g, 0, none⟩) (bs.take k) := by
  refine .inr ⟨g, 0, rfl, fun j hj => ?_⟩
  have hj' : j < bs.length := by simp at hj; omega
  have hjk : j < k := by simp at hj; omega
  rw [Nat.zero_add, h.cell j]
  simp [B8, List.getD, List.getElem?_take_of_lt hjk, List.getElem?_eq_getElem hj']

theorem Blk.row_all {w : World} {g : Nat} {bs : List UInt8} (h : Blk w g (bs.map B8)) : Row w (some ⟨g, 0, none⟩) bs := by
  have := h.row bs.length (Nat.le_refl _)
  rwa [List.take_length] at this

theorem Row.drew {w : World} {a : Option Addr} {bs : List UInt8} (h : Row w a bs) : Row w.drew a bs := h
theorem Blk.drew {w : World} {g : Nat} {cs : List Value} (h : Blk w g cs) : Blk w.drew g cs := h

end Go.Proofs.YtbigkblkfnnfkabDoor
