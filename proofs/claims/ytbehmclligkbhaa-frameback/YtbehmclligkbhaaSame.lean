/- assizekit.SameBytes: it tells whether two slices of bytes hold the same bytes. -/
import Derived.Test.YtbehmclligkbhaaKit
import Derived.Laws.BytesArg
namespace Go.Proofs.Ytbehmclligkbhaa
open Go.RowKit
set_option linter.unusedVariables false

theorem strOfNums_bytes (bs : List UInt8) : strOfNums (bs.map fun b => (b.toNat : Int)) = ⟨bs.toArray⟩ := by
  unfold strOfNums
  congr 2
  rw [List.map_map]
  conv => rhs; rw [← List.map_id bs]
  apply List.map_congr_left
  intro b _
  simp

theorem conv_zero (w : World) (a : Option Addr) (c : Nat) : (convert 22 9 (.slice a 0 c)).run Try.prog w = .ok (.string ⟨#[]⟩) w := by
  rw [run_convert_bytes_string w 22 9 5 a 0 c Try.underlying22 Try.underlying5 Try.underlying9]
  cases a with
  | none => simp [Conv.bytesToString]; rfl
  | some p =>
    have := run_bytesToString (P := Try.prog) w p 0 c [] (by have := run_loadCells_list (P := Try.prog) w p [] (fun j v hj => by simp at hj); simpa using this)
    rw [this]
    rfl

theorem conv_row {w : World} {a : Option Addr} {bs : List UInt8} (h : Row w a bs) (c : Nat) : (convert 22 9 (.slice a bs.length c)).run Try.prog w = .ok (.string ⟨bs.toArray⟩) w := by
  rcases h with rfl | ⟨b, off, rfl, hc⟩
  · exact conv_zero w a c
  · have := run_convert_bytes_arg (P := Try.prog) w 22 5 Try.underlying22 Try.underlying5 b off bs.length c (bs.map fun b => (b.toNat : Int)) (by simp)
      (fun i hi => by rw [hc i hi]; simp [List.getD, List.getElem?_map, List.getElem?_eq_getElem hi]) 9 Try.underlying9
    rw [this, strOfNums_bytes]

set_option maxRecDepth 100000 in
set_option maxHeartbeats 400000 in
theorem same_any (a1 a2 : Option Addr) (c1 c2 : Nat) (bs cs : List UInt8) (w : World) (h1 : Row w a1 bs) (h2 : Row w a2 cs) :
    Calls Try.prog 17 #[.slice a1 bs.length c1, .slice a2 cs.length c2] w fun e w' => e = .returned (.bool (bs == cs)) ∧ w' = w := by
  have k1 := conv_row h1 c1
  have k2 := conv_row h2 c2
  go_enter Try.func17, Try.ntmps17
  go_wp2
  go_ret
  exact ⟨rfl, rfl⟩
end Go.Proofs.Ytbehmclligkbhaa
