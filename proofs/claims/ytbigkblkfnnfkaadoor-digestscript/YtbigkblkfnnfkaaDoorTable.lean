/- What the card's listed variable gives the walks: the table of the 64 roots, as numbers, in memory. -/
import Derived.Test.YtbigkblkfnnfkaaDoorKept
import Derived.LaidMore
import Derived.ProofKit
import Derived.OpenShut
namespace Go.Proofs.YtbigkblkfnnfkaaDoor
open Go.ChangeShapes Go.WideShapes Go.ChangeAt Go.RowKit
set_option linter.unusedVariables false

/-- The 64 roots. -/
def roots : List Nat := match (Rows.laid_assize_digest_roots : DataW Unit) with
  | .agg l => l.map fun d => match d with
    | .lit (.int _ z) => z.toNat
    | _ => 0
  | _ => []

theorem roots_said : (Rows.laid_assize_digest_roots : DataW Unit) = .agg (roots.map fun (n : Nat) => .lit (.int .u32 (n : Int))) := by kernel_rfl
theorem roots_length : roots.length = 64 := by kernel_rfl

def laidL : List (String × DataW Unit) := [("assize/digest.roots", Rows.laid_assize_digest_roots)]

theorem gRoots : Tryd.prog.globalNamed "assize/digest.roots" = some 0 := by kernel_rfl
theorem tRoots : (Tryd.prog.globals[0]?).map (·.type) = some 66 := by kernel_rfl

/-- The table lies where the program reads it. -/
def Roots (w : World) : Prop := ∀ i, i < 64 → w.cell? ⟨0, i, none⟩ = some (.int .u32 ((roots.getD i 0 : Nat) : Int))

theorem Roots.below {w w' : World} (h : Roots w) (hb : Below w.heap.size w w') : Roots w' := by
  intro i hi
  rw [hb.cell (lt_of_cell (h i hi))]
  exact h i hi

theorem Roots.pos {w : World} (h : Roots w) : 0 < w.heap.size := lt_of_cell (h 0 (by decide))

theorem roots_of_laid {W : World} (h : laidMetH Tryd.prog laidL W) : Roots W := by
  rw [MakeChecks.laidMetH_plain _ _ _ (by kernel_rfl)] at h
  obtain ⟨ps, ⟨g0, t0, cs0, f0, p0, q0, hg0, ht0, hv0, hd0, _⟩, _, _⟩ := h
  obtain rfl := Option.some.inj (gRoots.symm.trans hg0)
  obtain rfl := Option.some.inj (tRoots.symm.trans ht0)
  obtain ⟨xs, m1, rfl, hx1, hlen, hn, hel⟩ := DataW.trod_array Tryd.underlying66 hd0
  have c54 : Tryd.prog.cellsOf 54 = 1 := by kernel_rfl
  rw [roots_said] at hx1
  simp only [Prod.mk.injEq, DataW.agg.injEq] at hx1
  intro i hi
  have h0 := hel i hi
  rw [c54, Nat.mul_one] at h0
  rw [List.getElem?_eq_getElem (show i < xs.length by omega)] at h0
  obtain ⟨k, e1, e2, _⟩ := DataW.trod_int Tryd.underlying54 h0
  have hc := World.var?_cell hg0 hv0 i
  have e3 : cs0[i]? = some (.int .u32 k) := by
    have := congrArg (fun l : List Value => l[0]?) e1
    simpa using this
  have hk : (roots.map fun (n : Nat) => (DataW.lit (.int .u32 (n : Int)) : DataW Unit))[i]? = (xs.map (·.1))[i]? := by rw [hx1.1]
  rw [List.getElem?_map, List.getElem?_map, List.getElem?_eq_getElem (show i < roots.length by rw [roots_length]; exact hi), List.getElem?_eq_getElem (show i < xs.length by omega)] at hk
  simp only [Option.map_some, Option.some.injEq, e2, DataW.lit.injEq, Lit.int.injEq, true_and] at hk
  rw [hc, e3, ← hk]
  simp [List.getD, List.getElem?_eq_getElem (show i < roots.length by rw [roots_length]; exact hi)]

/-- The door's own heap meets the condition. -/
theorem door_met (os : Os) (args : Array Value) : laidMetH Tryd.prog laidL ((World.doorLaid Tryd.prog 400 os).forCall (fun _ _ => 0) ⟨#[], args, []⟩).memory :=
  laidMetH_of_parts3 (fuel := 8) (laidMet_of_run' 8 (by kernel_rfl) (by kernel_rfl)) (by kernel_rfl) (by kernel_rfl)
end Go.Proofs.YtbigkblkfnnfkaaDoor
