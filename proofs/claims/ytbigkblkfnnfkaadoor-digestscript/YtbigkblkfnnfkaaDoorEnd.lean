/- digest's put at any slice, putLength, end, and Sum. -/
import Derived.Test.YtbigkblkfnnfkaaDoorPut
namespace Go.Proofs.YtbigkblkfnnfkaaDoor
open Go.RowKit
set_option linter.unusedVariables false

set_option maxRecDepth 100000 in
theorem put_none (g : Nat) (a : Option Addr) (cap : Nat) (w : World) :
    Calls Tryd.prog 32 #[.pointer (some ⟨g, 0, none⟩), .slice a 0 cap] w fun e w' => e = .returned (.tuple #[]) ∧ w' = w := by
  go_enter Tryd.func32, Tryd.ntmps32
  go_wp2_with fail
  go_loopw [1] (fun v wr => v = .slice a 0 cap ∧ wr = w) (fun v _ => lenOf v)
  case atStart => exact ⟨rfl, rfl⟩
  case round =>
    obtain ⟨rfl, rfl⟩ := hrel
    go_wp2
    go_end0
    exact ⟨rfl, rfl⟩

theorem put_any (g : Nat) (a : Option Addr) (cap : Nat) (m bs : List UInt8) (w : World) (hH : HashIs w g m) (hrow : Row w a bs) (hbg : ∀ b off, a = some ⟨b, off, none⟩ → b ≠ g) (hcap : bs.length ≤ cap) (hmax : m.length + bs.length ≤ 1099511627776) (hR : Roots w) (hg0 : 0 < g) :
    Calls Tryd.prog 32 #[.pointer (some ⟨g, 0, none⟩), .slice a bs.length cap] w fun e w' => e = .returned (.tuple #[]) ∧ HashIs w' g (m ++ bs) ∧ But g w w' := by
  rcases hrow with rfl | ⟨b, off, rfl, hc⟩
  · refine (put_none g a cap w).mono ?_
    rintro e w' ⟨rfl, rfl⟩
    exact ⟨rfl, by simpa using hH, But.refl _ _⟩
  · exact put_some g b off cap m bs w hH hc (hbg b off rfl) hcap hmax hR hg0

/-- The first k bytes of a length, the rest noughts. -/
def eightZ (n k : Nat) : List UInt8 := eight n k ++ List.replicate (8 - k) 0
theorem eightZ_step (n k : Nat) (hk : k < 8) : ((eightZ n k).map B8).set k (.int .u8 ((n : Int) / 2 ^ (8 * (7 - k)) % 256)) = (eightZ n (k + 1)).map B8 := by
  unfold eightZ
  rw [show 8 - k = (8 - (k + 1)) + 1 by omega, List.replicate_succ, List.map_append, List.set_append_right _ _ (by simp [eight_length])]
  simp only [List.length_map, eight_length, Nat.sub_self, List.map_cons, List.set_cons_zero, eight, List.map_append, List.append_assoc, List.map_nil]
  congr 1
  show _ :: _ = _ :: _
  congr 1
  unfold B8
  rw [ub_toNat _ (by omega), show 56 - 8 * k = 8 * (7 - k) by omega]
  simp

set_option maxRecDepth 100000 in
set_option maxHeartbeats 800000 in
theorem putLength_any (g n : Nat) (m : List UInt8) (w : World) (hH : HashIs w g m) (hn : n < 18446744073709551616) (hmax : m.length + 8 ≤ 1099511627776) (hR : Roots w) (hg0 : 0 < g) :
    Calls Tryd.prog 39 #[.pointer (some ⟨g, 0, none⟩), .int .u64 (n : Int)] w fun e w' => e = .returned (.tuple #[]) ∧ HashIs w' g (m ++ eight n 8) ∧ But g w w' := by
  go_enter Tryd.func39, Tryd.ntmps39
  go_wp2_with ((with_reducible show wpList _ _ _ _ _ _); refine wpList_alloc_at rfl 76 rfl _ 8 z76 ?_; intro w1 hA1 hb1 hs1)
  go_loopw [6] (fun t wr => ∃ k : Nat, k ≤ 8 ∧ t = .int .i64 k ∧ At 76 wr w.heap.size ((eightZ n k).map B8) ∧ But w.heap.size w1 wr) (fun t _ => 8 - (intOf t).toNat)
  case atStart => exact ⟨0, by omega, rfl, hA1, But.refl _ _⟩
  case round =>
    obtain ⟨k, hk, rfl, hA, hbut⟩ := hrel
    by_cases hlt : k < 8
    · have HS : Hid _ := eightZ_step n k hlt
      have hF := hA.frozen k
      have hCk : wr.cell? ⟨w.heap.size, k, none⟩ = some (.int .u8 (((eightZ n k).getD k 0).toNat : Int)) := by
        rw [hA.cell]; simp [B8, List.getD, List.getElem?_eq_getElem (show k < (eightZ n k).length by simp [eightZ, eight_length]; omega)]
      go_wp2
      go_roundw
      case rel => exact ⟨k + 1, by omega, by go_num, by rw [← HS.out]; exact hA.set _ _, hbut.setCell _ _⟩
      case measure => simp [intOf]; omega
    · have hk8 : Hid (k = 8) := by show _ = _; omega
      obtain ⟨es, hes⟩ : ∃ es, Hid (es = eight n 8) := ⟨_, rfl⟩
      have hel : Hid (es.length = 8) := by rw [hes.out]; exact eight_length _ _
      have hA8 : At 76 wr w.heap.size (es.map B8) := by
        rw [hk8.out] at hA
        rw [hes.out]
        simpa [eightZ] using hA
      have hg : Hid (g ≠ w.heap.size) := by show _ ≠ _; have := hH.lt; omega
      have hHr : HashIs wr g m := by
        obtain ⟨blk, h1, h2, h3⟩ := hH.below hb1
        exact ⟨blk, h1, hbut.at h2 hg.out, h3⟩
      have hRr : Roots wr := (hR.below hb1).but hbut (by have := hR.pos; omega)
      have hrow : Row wr (some ⟨w.heap.size, 0, none⟩) es := .inr ⟨_, _, rfl, fun j hj => by
        rw [Nat.zero_add, hA8.cell]; simp [B8, List.getD, List.getElem?_eq_getElem hj]⟩
      have hcall := put_any g (some ⟨w.heap.size, 0, none⟩) 8 m es wr hHr hrow (fun b off h => by cases h; exact fun e => hg.out e.symm) (by rw [hel.out]; exact Nat.le_refl _) (by rw [hel.out]; exact hmax) hRr hg0
      rw [hel.out] at hcall
      have hbw : But g w wr := ⟨hbut.os.trans hb1.os, hbut.tape.trans hb1.tape, hbut.output.trans hb1.output, Nat.le_trans hb1.size hbut.size, fun k hk _ => by rw [hbut.block k (by omega) (by omega)]; exact hb1.block k hk⟩
      clear hA hA8 hrow hA1
      go_wp2_with (go_at_call 32; refine hcall.mono ?_; rintro e w5 ⟨rfl, hH5, hb5⟩)
      go_end0
      exact ⟨rfl, by rw [← hes.out]; exact hH5, hbw.trans hb5⟩
theorem putLength_lit (g n : Nat) (z : Int) (hz : z = (n : Int)) (m : List UInt8) (w : World) (hH : HashIs w g m) (hn : n < 18446744073709551616) (hmax : m.length + 8 ≤ 1099511627776) (hR : Roots w) (hg0 : 0 < g) :
    Calls Tryd.prog 39 #[.pointer (some ⟨g, 0, none⟩), .int .u64 z] w fun e w' => e = .returned (.tuple #[]) ∧ HashIs w' g (m ++ eight n 8) ∧ But g w w' := by
  subst hz
  exact putLength_any g n m w hH hn hmax hR hg0

theorem put1_any (g : Nat) (m : List UInt8) (b : UInt8) (z : Int) (hz : z = (b.toNat : Int)) (w : World) (hH : HashIs w g m) (hmax : m.length + 1 ≤ 1099511627776) (hR : Roots w) (hg0 : 0 < g) :
    Calls Tryd.prog 32 #[.pointer (some ⟨g, 0, none⟩), .slice (some ⟨w.heap.size, 0, none⟩) 1 1] (w.alloc (.cells #[.int .u8 z] 5)) fun e w' => e = .returned (.tuple #[]) ∧ HashIs w' g (m ++ [b]) ∧ But g w w' := by
  have hb1 : Below w.heap.size w (w.alloc (.cells #[.int .u8 z] 5)) := (Below.refl _ w).alloc (Nat.le_refl _) _
  have hrow : Row (w.alloc (.cells #[.int .u8 z] 5)) (some ⟨w.heap.size, 0, none⟩) [b] := .inr ⟨_, _, rfl, fun j hj => by
    obtain rfl : j = 0 := by simp at hj; omega
    rw [World.cell?_alloc_at _ _ _ _ rfl, hz]
    rfl⟩
  refine (put_any g (some ⟨w.heap.size, 0, none⟩) 1 m [b] _ (hH.below hb1) hrow (fun b off h => by cases h; have := hH.lt; omega) (Nat.le_refl _) hmax (hR.below hb1) hg0).mono ?_
  rintro e w' ⟨rfl, hH', hb'⟩
  exact ⟨rfl, hH', (But.of_below hb1).trans hb'⟩

/-- How many bytes a hash tells. -/
def lenCell (w : World) (g : Nat) : Nat := match w.cell? ⟨g, 72, none⟩ with
  | some (.int _ z) => z.toNat
  | _ => 0
theorem HashIs.cell72 {w : World} {g : Nat} {m : List UInt8} (h : HashIs w g m) : w.cell? ⟨g, 72, none⟩ = some (.int .i64 (m.length : Int)) := by
  obtain ⟨blk, h1, h2, h3⟩ := h
  rw [h2.cell]
  exact hash_cell72 _ _ _ (Hn_length _ _) h1
theorem HashIs.cell73 {w : World} {g : Nat} {m : List UInt8} (h : HashIs w g m) : w.cell? ⟨g, 73, none⟩ = some (.bool true) := by
  obtain ⟨blk, h1, h2, h3⟩ := h
  rw [h2.cell]
  exact hash_cell73 _ _ _ (Hn_length _ _) h1
theorem HashIs.lenCell {w : World} {g : Nat} {m : List UInt8} (h : HashIs w g m) : lenCell w g = m.length := by
  unfold YtbigkblkfnnfkaaDoor.lenCell
  rw [h.cell72]
  simp
theorem HashIs.word {w : World} {g : Nat} {m : List UInt8} (h : HashIs w g m) (i : Nat) (hi : i < 8) : w.cell? ⟨g, i, none⟩ = some (.int .u32 (((Hn m (m.length / 64)).getD i 0 : Nat) : Int)) := by
  obtain ⟨blk, h1, h2, h3⟩ := h
  rw [h2.cell]
  exact hash_word _ _ _ i (Hn_length _ _) hi
theorem HashIs.but {w w' : World} {g k : Nat} {m : List UInt8} (h : HashIs w g m) (hb : But k w w') (hk : g ≠ k) : HashIs w' g m := by
  obtain ⟨blk, h1, h2, h3⟩ := h
  exact ⟨blk, h1, hb.at h2 hk, h3⟩
end Go.Proofs.YtbigkblkfnnfkaaDoor
