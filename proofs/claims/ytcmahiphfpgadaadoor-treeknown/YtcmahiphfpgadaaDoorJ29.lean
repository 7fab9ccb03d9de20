/- What the card's listed variables give the walks: the table of powers of ten is laid. -/
import Derived.Test.YtcmahiphfpgadaaDoorJ13
import Derived.Lib.LaidTab
import Derived.Stop.LaidErr
import Derived.LaidMore
import Derived.ProofKit
import Derived.OpenShut
namespace Go.Proofs.YtcmahiphfpgadaaDoor
open Go.ChangeShapes Go.WideShapes Go.ChangeAt Go.RowKit
set_option linter.unusedVariables false

def laidL : List (String × DataW Unit) := [("math/bits.deBruijn32tab", Rows.laid_math_bits_deBruijn32tab), ("math/bits.deBruijn64tab", Rows.laid_math_bits_deBruijn64tab), ("internal/strconv.uint64pow10", Rows.laid_internal_strconv_uint64pow10)]

theorem gP10 : Tryd.prog.globalNamed "internal/strconv.uint64pow10" = some 0 := by kernel_rfl
theorem gP10Type : (Tryd.prog.globals[0]?).map (·.type) = some 119 := by kernel_rfl
theorem cells24 : Tryd.prog.cellsOf 24 = 1 := by kernel_rfl
theorem cells119 : Tryd.prog.cellsOf 119 = 20 := by kernel_rfl

theorem gDb : Tryd.prog.globalNamed "math/bits.deBruijn64tab" = some 3 := by kernel_rfl

theorem size_of_laid {W : World} (h : laidMetH Tryd.prog laidL W) : gB ≤ W.heap.size := by
  rw [MakeChecks.laidMetH_plain _ _ _ (by kernel_rfl)] at h
  obtain ⟨ps, ⟨g', t', cs, fuel, p, q, hg', ht', hvar, hd, _, _⟩, _⟩ := laidMet.tail h
  obtain rfl := Option.some.inj (gDb.symm.trans hg')
  unfold World.var? at hvar
  obtain ⟨g, hg, hx⟩ := Option.bind_eq_some_iff.1 hvar
  obtain rfl := Option.some.inj (gDb.symm.trans hg)
  show 4 ≤ W.heap.size
  by_cases hs : 3 < W.heap.size
  · omega
  · rw [Array.getElem?_eq_none (by omega)] at hx
    simp at hx

theorem tab_of_laid {W : World} (h : laidMetH Tryd.prog laidL W) : Tab W := by
  rw [MakeChecks.laidMetH_plain _ _ _ (by kernel_rfl)] at h
  exact Lib.tabIs_of_head gP10 gP10Type Tryd.underlying119 Tryd.underlying24 cells24 cells119 (laidMet.tail (laidMet.tail h))

/-- The door's own heap meets the condition. -/
theorem door_met (os : Os) (args : Array Value) : laidMetH Tryd.prog laidL ((World.doorLaid Tryd.prog 400 os).forCall (fun _ _ => 0) ⟨#[], args, []⟩).memory :=
  laidMetH_of_parts3 (fuel := 8) (laidMet_of_run' 8 (by kernel_rfl) (by kernel_rfl)) (by kernel_rfl) (by kernel_rfl)
end Go.Proofs.YtcmahiphfpgadaaDoor
