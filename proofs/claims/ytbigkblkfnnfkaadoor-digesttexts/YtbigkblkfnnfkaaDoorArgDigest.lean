/- What a digest that came in is known by: 32 bytes. -/
import Derived.Test.YtbigkblkfnnfkaaDoorArg
namespace Go.Proofs.YtbigkblkfnnfkaaDoor
open Go.ChangeShapes Go.WideShapes Go.ChangeAt Go.RowKit
set_option linter.unusedVariables false

/-- The byte that a cell holds. -/
def byteOf8 : Value → UInt8
  | .int _ z => ub z.toNat
  | _ => 0

theorem open_digest {H : Type} {enc : TypeId × Value → H} {w : World} {base : Nat} {spare : Nat → Bool} {held : Bool} {r : Reach} {b0 : Nat} {v : Value} {d : DataW H} {ps : List MemPlace}
    (hval : Value.okWide Tryd.prog w r b0 25 v) (hd : DataW.Trod enc Tryd.prog w base spare held 25 v d ps) :
    ∃ l : List UInt8, v = .agg (l.map B8).toArray ∧ l.length = 32 := by
  unfold Value.okWide at hval
  rw [Tryd.underlying25] at hval
  obtain ⟨cs, rfl, hsz, _⟩ := hval
  have h25 : Tryd.prog.cellsOf 25 = 32 := by kernel_rfl
  have h5 : Tryd.prog.cellsOf 5 = 1 := by kernel_rfl
  rw [h25] at hsz
  obtain ⟨fuel, hf⟩ := hd
  obtain ⟨xs, m, rfl, hx, hlen, hn, hel⟩ := DataW.trod_array Tryd.underlying25 hf
  refine ⟨cs.toList.map byteOf8, ?_, by simpa using hsz⟩
  congr 1
  apply Array.ext
  · simp
  · intro i h1 h2
    have hi : i < 32 := by omega
    have h0 := hel i hi
    rw [h5, Nat.mul_one, List.getElem?_eq_getElem (show i < xs.length by omega)] at h0
    obtain ⟨k, e1, e2, hw⟩ := DataW.trod_int Tryd.underlying5 h0
    have e3 : cs[i] = .int .u8 k := by
      have := congrArg (fun l : List Value => l[0]?) e1
      simpa [Value.cells, h1] using this
    have hb : 0 ≤ k ∧ k ≤ 255 := by simpa [Lit.wf, IntKind.min, IntKind.max, IntKind.signed, IntKind.bits] using hw
    simp only [List.map_map, List.getElem_toArray, List.getElem_map, Array.getElem_toList, Function.comp, e3, byteOf8, B8]
    rw [ub_toNat _ (by omega)]
    congr 1
    omega
end Go.Proofs.YtbigkblkfnnfkaaDoor
