/- assizekit.OverBytes and CopyBytes: bytes turned over in place, and bytes copied. -/
import Derived.Test.YtjjojlfhliecnabRefReadFields
namespace Go.Proofs.Ytjjojlfhliecnab
open Go.RowKit
set_option linter.unusedVariables false

/-- Nothing but this block has changed. -/
def Only (g : Nat) (w w' : World) : Prop := w'.os = w.os ∧ w'.tape = w.tape ∧ w'.output = w.output ∧ w'.heap.size = w.heap.size ∧ ∀ k, k ≠ g → w'.heap[k]? = w.heap[k]?

theorem Only.refl (g : Nat) (w : World) : Only g w w := ⟨rfl, rfl, rfl, rfl, fun _ _ => rfl⟩
theorem Only.trans {g : Nat} {a b c : World} (h : Only g a b) (k : Only g b c) : Only g a c :=
  ⟨k.1.trans h.1, k.2.1.trans h.2.1, k.2.2.1.trans h.2.2.1, k.2.2.2.1.trans h.2.2.2.1, fun i hi => (k.2.2.2.2 i hi).trans (h.2.2.2.2 i hi)⟩
theorem Only.set (g i : Nat) (w : World) (v : Value) : Only g w (w.setCell ⟨g, i, none⟩ v) :=
  ⟨(Below.setCell (Below.refl 0 w) (p := ⟨g, i, none⟩) (Nat.zero_le _) v).os, (Below.setCell (Below.refl 0 w) (p := ⟨g, i, none⟩) (Nat.zero_le _) v).tape, (Below.setCell (Below.refl 0 w) (p := ⟨g, i, none⟩) (Nat.zero_le _) v).output, by simp, fun k hk => heap_setCell_other w ⟨g, i, none⟩ k v hk⟩
theorem Only.drew {g : Nat} {a w : World} (h : Only g a w) : Only g a w.drew := h
theorem Only.below {g B : Nat} {w w' : World} (h : Only g w w') (hb : B ≤ g) : Below B w w' := ⟨h.1, h.2.1, h.2.2.1, by rw [h.2.2.2.1]; exact Nat.le_refl _, fun k hk => h.2.2.2.2 k (by omega)⟩
theorem Only.cell {g : Nat} {w w' : World} (h : Only g w w') {p : Addr} (hp : p.block ≠ g) : w'.cell? p = w.cell? p := World.cell?_of_block (w := w) (h.2.2.2.2 p.block hp)
theorem Only.blk {g k : Nat} {w w' : World} {cs : List Value} (h : Only g w w') (hk : k ≠ g) (hb : Blk w k cs) : Blk w' k cs := by
  unfold Blk at *
  rw [h.2.2.2.2 k hk]
  exact hb

/-- A byte turned over. -/
def ov (c : UInt8) : UInt8 := c ^^^ 90

theorem ov_ov (c : UInt8) : ov (ov c) = c := by
  unfold ov
  rw [UInt8.xor_assoc]
  simp

theorem bits_ov_all : ∀ c : Fin 256, bits .xor .u8 ((c.val : Nat) : Int) 90 = (((UInt8.ofNat c.val) ^^^ 90).toNat : Int) := by decide +kernel

theorem bits_ov (c : UInt8) : bits .xor .u8 (c.toNat : Int) 90 = ((ov c).toNat : Int) := by
  have := bits_ov_all ⟨c.toNat, UInt8.toNat_lt c⟩
  simp only [UInt8.ofNat_toNat] at this
  exact this

theorem ov_step (C : List UInt8) (k : Nat) (h : k < C.length) : ((C.take k).map ov ++ C.drop k).set k (ov (C.getD k 0)) = (C.take (k + 1)).map ov ++ C.drop (k + 1) := by
  have key : ∀ (A : List UInt8) (c : UInt8) (r : List UInt8) (x : UInt8), (A ++ c :: r).set A.length x = A ++ x :: r := fun A c r x => by
    induction A with
    | nil => rfl
    | cons a A ih => simp [ih]
  have e : C.getD k 0 = C[k] := by simp [List.getD, List.getElem?_eq_getElem h]
  have hl : ((C.take k).map ov).length = k := by rw [List.length_map, List.length_take]; omega
  have := key ((C.take k).map ov) C[k] (C.drop (k + 1)) (ov C[k])
  rw [hl] at this
  rw [e, List.take_succ_eq_append_getElem h, List.map_append, List.drop_eq_getElem_cons h, this, List.append_assoc]
  rfl

set_option maxRecDepth 100000 in
set_option maxHeartbeats 800000 in
theorem copy_any (ad : Addr) (n cap : Nat) (bs : List UInt8) (w : World) (hrow : Row w (some ad) bs) (hn : bs.length = n) (hl : n ≤ 1099511627776) :
    Calls Try.prog 12 #[.slice (some ad) n cap] w fun e w' => ∃ g C, e = .returned (.slice (some ⟨g, 0, none⟩) n C.length) ∧ Hid (fldOf (g, n, C) = bs) ∧ InB w.heap.size w' (g, n, C) ∧ Below w.heap.size w w' := by
  go_enter Try.func12, Try.ntmps12
  go_wp2_with (first | (at_builtin; refine appFresh2 (.tmp 3) (.tmp 4) _ _ _ bs rfl rfl rfl rfl hrow hn rfl (by omega) ?_))
  intro g C w1 h1 h2 h3
  go_wp2
  go_ret
  exact ⟨g, C, rfl, h1, h2, h3⟩

end Go.Proofs.Ytjjojlfhliecnab
