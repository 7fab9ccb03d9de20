/- assizekit.LentBytes: a copy of the bytes with three spare bytes of known make behind it. -/
import Derived.Laws.CopyOwn
import Derived.Test.YtbigkblkfnnfkabDoorKit
namespace Go.Proofs.YtbigkblkfnnfkabDoor
open Go.RowKit
set_option linter.unusedVariables false

/-- The spare byte at a place. -/
def spareAt (i : Nat) : UInt8 := ub (160 + i % 90)

/-- What lies in memory behind LentBytes. -/
def lent (bs : List UInt8) : List UInt8 := bs ++ [spareAt bs.length, spareAt (bs.length + 1), spareAt (bs.length + 2)]

theorem lent_length (bs : List UInt8) : (lent bs).length = bs.length + 3 := by simp [lent]

theorem lent_spare (bs : List UInt8) (k : Nat) (h1 : bs.length ≤ k) (h2 : k < bs.length + 3) : (lent bs).getD k 0 = spareAt k := by
  obtain ⟨j, rfl⟩ := Nat.exists_eq_add_of_le h1
  have hj : j = 0 ∨ j = 1 ∨ j = 2 := by omega
  unfold lent
  rcases hj with rfl | rfl | rfl <;> simp [List.getD]

/-- A block of the call's own, its cells known: what stands in it. -/
def Blk (w : World) (g : Nat) (cs : List Value) : Prop := w.heap[g]? = some (.cells cs.toArray 5 (0, 0))

theorem Blk.cell {w : World} {g : Nat} {cs : List Value} (h : Blk w g cs) (i : Nat) : w.cell? ⟨g, i, none⟩ = cs[i]? := by
  simp [World.cell?, show w.heap[g]? = _ from h]

theorem Blk.frozen {w : World} {g : Nat} {cs : List Value} (h : Blk w g cs) (i : Nat) : w.frozen? ⟨g, i, none⟩ = false := by
  simp [World.frozen?, show w.heap[g]? = _ from h]

theorem Blk.set {w : World} {g : Nat} {cs : List Value} (h : Blk w g cs) (i : Nat) (v : Value) : Blk (w.setCell ⟨g, i, none⟩ v) g (cs.set i v) := by
  have := heap_setCell_same w g i cs.toArray 5 v h
  unfold Blk
  rw [this]
  simp

theorem Blk.below {w w' : World} {g : Nat} {cs : List Value} (h : Blk w g cs) (hb : Below w.heap.size w w') : Blk w' g cs := by
  unfold Blk at *
  rw [hb.block g ?_]
  · exact h
  · rcases Nat.lt_or_ge g w.heap.size with hlt | hge
    · exact hlt
    · rw [Array.getElem?_eq_none hge] at h; simp at h

theorem set_step (bs : List UInt8) (cs : List Value) (k : Nat) (hk : bs.length ≤ k) (hk3 : k < bs.length + 3) (hl : cs.length = bs.length + 3) (h : cs.take k = ((lent bs).take k).map B8) :
    (cs.set k (.int .u8 (160 + (k : Int) % 90))).take (k + 1) = ((lent bs).take (k + 1)).map B8 := by
  have hlen := lent_length bs
  rw [List.take_succ_eq_append_getElem (by simp; omega), List.take_succ_eq_append_getElem (by omega), List.map_append, ← h]
  congr 1
  · rw [List.take_set_of_le (by omega)]
  · have e := lent_spare bs k hk hk3
    simp [List.getD, List.getElem?_eq_getElem (show k < (lent bs).length by omega)] at e
    simp [B8, e, spareAt]
    rw [ub_toNat _ (by omega)]
    omega

end Go.Proofs.YtbigkblkfnnfkabDoor
