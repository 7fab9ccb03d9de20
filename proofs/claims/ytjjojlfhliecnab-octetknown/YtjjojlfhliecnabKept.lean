/- assizekit.KeptBytes: what was lent and not written is found as it was. -/
import Derived.Deep.RegionHeld3
import Derived.Deep.DrawnRows
import Derived.Test.YtjjojlfhliecnabSame
namespace Go.Proofs.Ytjjojlfhliecnab
open Go.RowKit
set_option linter.unusedVariables false
attribute [local go_sem ↓] Go.wp_at_zero Go.wp_at_succ

theorem Blk.row {w : World} {g : Nat} {bs : List UInt8} (h : Blk w g (bs.map B8)) (k : Nat) (hk : k ≤ bs.length) : Row w (some ⟨g, 0, none⟩) (bs.take k) := by
  refine .inr ⟨g, 0, rfl, fun j hj => ?_⟩
  have hj' : j < bs.length := by simp at hj; omega
  have hjk : j < k := by simp at hj; omega
  rw [Nat.zero_add, h.cell j]
  simp [B8, List.getD, List.getElem?_take_of_lt hjk, List.getElem?_eq_getElem hj']

theorem Blk.row_all {w : World} {g : Nat} {bs : List UInt8} (h : Blk w g (bs.map B8)) : Row w (some ⟨g, 0, none⟩) bs := by
  have := h.row bs.length (Nat.le_refl _)
  rwa [List.take_length] at this

theorem same_len (a1 a2 : Option Addr) (n1 n2 c1 c2 : Nat) (bs cs : List UInt8) (w : World) (h1 : Row w a1 bs) (h2 : Row w a2 cs) (e1 : bs.length = n1) (e2 : cs.length = n2) :
    Calls Try.prog 14 #[.slice a1 n1 c1, .slice a2 n2 c2] w fun e w' => e = .returned (.bool (bs == cs)) ∧ w' = w := by
  subst e1 e2
  exact same_any a1 a2 c1 c2 bs cs w h1 h2

theorem Row.drew {w : World} {a : Option Addr} {bs : List UInt8} (h : Row w a bs) : Row w.drew a bs := h
theorem Blk.drew {w : World} {g : Nat} {cs : List Value} (h : Blk w g cs) : Blk w.drew g cs := h

end Go.Proofs.Ytjjojlfhliecnab
