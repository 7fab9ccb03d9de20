/- assizekit.SameBytes: it tells whether two slices of bytes hold the same bytes. -/
import Derived.Laws.BytesArg
import Derived.Test.YtinofdmdfhklpaaDoorKit
namespace Go.Proofs.YtinofdmdfhklpaaDoor
open Go.RowKit
set_option linter.unusedVariables false

theorem strOfNums_bytes (bs : List UInt8) : strOfNums (bs.map fun b => (b.toNat : Int)) = ⟨bs.toArray⟩ := by
  unfold strOfNums
  congr 2
  rw [List.map_map]
  conv => rhs; rw [← List.map_id bs]
  apply List.map_congr_left
  intro b _
  simp

theorem conv_zero (w : World) (a : Option Addr) (c : Nat) : (convert 64 9 (.slice a 0 c)).run Tryd.prog w = .ok (.string ⟨#[]⟩) w := by
  rw [run_convert_bytes_string w 64 9 5 a 0 c Tryd.underlying64 Tryd.underlying5 Tryd.underlying9]
  cases a with
  | none => simp [Conv.bytesToString]; rfl
  | some p =>
    have := run_bytesToString (P := Tryd.prog) w p 0 c [] (by have := run_loadCells_list (P := Tryd.prog) w p [] (fun j v hj => by simp at hj); simpa using this)
    rw [this]
    rfl

theorem conv_row {w : World} {a : Option Addr} {bs : List UInt8} (h : Row w a bs) (c : Nat) : (convert 64 9 (.slice a bs.length c)).run Tryd.prog w = .ok (.string ⟨bs.toArray⟩) w := by
  rcases h with rfl | ⟨b, off, rfl, hc⟩
  · exact conv_zero w a c
  · have := run_convert_bytes_arg (P := Tryd.prog) w 64 5 Tryd.underlying64 Tryd.underlying5 b off bs.length c (bs.map fun b => (b.toNat : Int)) (by simp)
      (fun i hi => by rw [hc i hi]; simp [List.getD, List.getElem?_map, List.getElem?_eq_getElem hi]) 9 Tryd.underlying9
    rw [this, strOfNums_bytes]

end Go.Proofs.YtinofdmdfhklpaaDoor
