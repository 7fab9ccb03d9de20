/- assizekit.OverBytes and CopyBytes: bytes turned over in place, and bytes copied. -/
import Derived.Test.YtbigkblkfnnfkaaDoorTextsWalk
namespace Go.Proofs.YtbigkblkfnnfkaaDoor
open Go.RowKit
set_option linter.unusedVariables false

/-- A byte turned over. -/
def ov (c : UInt8) : UInt8 := c ^^^ 90

theorem ov_ov (c : UInt8) : ov (ov c) = c := by
  unfold ov
  rw [UInt8.xor_assoc]
  simp

theorem bits_ov_all : ∀ c : Fin 256, bits .xor .u8 ((c.val : Nat) : Int) 90 = (((UInt8.ofNat c.val) ^^^ 90).toNat : Int) := by decide +kernel

theorem bits_ov (c : UInt8) : bits .xor .u8 (c.toNat : Int) 90 = ((ov c).toNat : Int) := by
  have := bits_ov_all ⟨c.toNat, UInt8.toNat_lt c⟩
  simp only [UInt8.ofNat_toNat] at this
  exact this

theorem ov_step (C : List UInt8) (k : Nat) (h : k < C.length) : ((C.take k).map ov ++ C.drop k).set k (ov (C.getD k 0)) = (C.take (k + 1)).map ov ++ C.drop (k + 1) := by
  have key : ∀ (A : List UInt8) (c : UInt8) (r : List UInt8) (x : UInt8), (A ++ c :: r).set A.length x = A ++ x :: r := fun A c r x => by
    induction A with
    | nil => rfl
    | cons a A ih => simp [ih]
  have e : C.getD k 0 = C[k] := by simp [List.getD, List.getElem?_eq_getElem h]
  have hl : ((C.take k).map ov).length = k := by rw [List.length_map, List.length_take]; omega
  have := key ((C.take k).map ov) C[k] (C.drop (k + 1)) (ov C[k])
  rw [hl] at this
  rw [e, List.take_succ_eq_append_getElem h, List.map_append, List.drop_eq_getElem_cons h, this, List.append_assoc]
  rfl


set_option maxRecDepth 100000 in
set_option maxHeartbeats 1600000 in
theorem over_any (g n : Nat) (C : List UInt8) (w : World) (hblk : At 5 w g (C.map B8)) (hn : n ≤ C.length) (hl : C.length ≤ 1099511627776) :
    Calls Tryd.prog 25 #[.slice (some ⟨g, 0, none⟩) n C.length] w fun e w' => e = .returned (.tuple #[]) ∧ But g w w' ∧ w'.heap.size = w.heap.size := by
  have hs1 := fun W => run_slice_to W (some ⟨g, 0, none⟩) n C.length C.length (C.length : Int) rfl (Nat.le_refl _)
  go_enter Tryd.func25, Tryd.ntmps25
  go_wp2
  go_loopw [3] (fun t wr => ∃ (k : Nat), k ≤ C.length ∧ t = .int .i64 k ∧ Hid (At 5 wr g (((C.take k).map ov ++ C.drop k).map B8)) ∧ But g w wr ∧ wr.heap.size = w.heap.size) (fun t _ => C.length - (intOf t).toNat)
  case atStart => exact ⟨0, Nat.zero_le _, rfl, by show At _ _ _ _; simpa using hblk, But.refl _ _, rfl⟩
  case round =>
    obtain ⟨k, hk, rfl, hB, honly, hsz⟩ := hrel
    clear hblk
    by_cases hlt : k < C.length
    · obtain ⟨c, hc⟩ : ∃ c, c = C.getD k 0 := ⟨_, rfl⟩
      have hcell : wr.cell? ⟨g, k, none⟩ = some (.int .u8 (c.toNat : Int)) := by
        rw [hB.out.cell, hc]
        simp [List.getElem?_append, hlt, Nat.min_eq_left hk, B8, List.getD]
      have hfr := hB.out.frozen k
      have hcl : c.toNat < 256 := by have := UInt8.toNat_lt c; omega
      have HC : Hid (c = C.getD k 0) := hc
      have hbits := bits_ov c
      clear hc
      go_wp2
      go_roundw
      case rel =>
        refine ⟨k + 1, by omega, by go_num, ?_, honly.setCell k _, by simpa using hsz⟩
        show At _ _ _ _
        have := hB.out.set k (.int .u8 ((ov c).toNat : Int))
        rw [← ov_step C k hlt, ← HC.out, List.map_set]
        exact this
      case measure => simp [intOf]; omega
    · clear hB
      go_wp2
      go_end0
      exact ⟨rfl, honly, hsz⟩

set_option maxRecDepth 100000 in
set_option maxHeartbeats 800000 in
theorem copy_any (a : Option Addr) (cap : Nat) (bs : List UInt8) (w : World) (hrow : Row w a bs) (hnil : a = none → cap = 0) (hl : bs.length ≤ 1099511627776) :
    Calls Tryd.prog 26 #[.slice a bs.length cap] w fun e w' => ∃ v, e = .returned v ∧ Own w.heap.size w' v bs ∧ Below w.heap.size w w' := by
  have hb1 : Below w.heap.size w (w.alloc (.cells #[] 5)) := (Below.refl _ w).alloc (Nat.le_refl _) _
  go_enter Tryd.func26, Tryd.ntmps26
  go_wp2_with (first | (at_builtin; refine appRow (.tmp 3) (.tmp 4) w.heap.size _ [] a bs.length cap bs rfl rfl rfl rfl (own_empty w) (hrow.below hb1) rfl hnil (by simpa using hl) (by simp) ?_))
  intro v' w1 h1 h2
  go_wp2
  go_ret
  exact ⟨v', rfl, h1, hb1.trans h2⟩

end Go.Proofs.YtbigkblkfnnfkaaDoor
