/- assizekit.LentInts: a copy of the numbers with three spare ones of known make behind it. -/
import Derived.Test.YtjedkfohmedmaaaRwA
import Derived.Laws.CopyOwn
namespace Go.Proofs.Ytjedkfohmedmaaa
open Go.RowKit
set_option linter.unusedVariables false

theorem Try.info3 : (Try.prog.info? 3).map (fun i => (i.zero, i.size, i.bytes)) = some (some (.int .i64 0), 1, 8) := by kernel_rfl
def I64 (z : Int) : Value := .int .i64 z
/-- What lies in memory behind LentInts. -/
def lentI (zs : List Int) : List Int := zs ++ [-77 - (zs.length : Int), -77 - ((zs.length : Int) + 1), -77 - ((zs.length : Int) + 2)]
theorem lentI_length (zs : List Int) : (lentI zs).length = zs.length + 3 := by simp [lentI]
theorem lentI_spare (zs : List Int) (k : Nat) (h1 : zs.length ≤ k) (h2 : k < zs.length + 3) : (lentI zs).getD k 0 = -77 - (k : Int) := by
  obtain ⟨j, rfl⟩ := Nat.exists_eq_add_of_le h1
  have hj : j = 0 ∨ j = 1 ∨ j = 2 := by omega
  unfold lentI
  rcases hj with rfl | rfl | rfl <;> simp [List.getD]

/-- A block of a call's own, its cells known: what stands in it. -/
def BlkI (w : World) (g : Nat) (cs : List Value) : Prop := w.heap[g]? = some (.cells cs.toArray 3 (0, 0))
theorem BlkI.cell {w : World} {g : Nat} {cs : List Value} (h : BlkI w g cs) (i : Nat) : w.cell? ⟨g, i, none⟩ = cs[i]? := by
  simp [World.cell?, show w.heap[g]? = _ from h]
theorem BlkI.frozen {w : World} {g : Nat} {cs : List Value} (h : BlkI w g cs) (i : Nat) : w.frozen? ⟨g, i, none⟩ = false := by
  simp [World.frozen?, show w.heap[g]? = _ from h]
theorem BlkI.set {w : World} {g : Nat} {cs : List Value} (h : BlkI w g cs) (i : Nat) (v : Value) : BlkI (w.setCell ⟨g, i, none⟩ v) g (cs.set i v) := by
  have := heap_setCell_same w g i cs.toArray 3 v h
  unfold BlkI
  rw [this]
  simp
theorem BlkI.below {w w' : World} {g : Nat} {cs : List Value} (h : BlkI w g cs) (hb : Below w.heap.size w w') : BlkI w' g cs := by
  unfold BlkI at *
  rw [hb.block g ?_]
  · exact h
  · rcases Nat.lt_or_ge g w.heap.size with hlt | hge
    · exact hlt
    · rw [Array.getElem?_eq_none hge] at h; simp at h
theorem BlkI.row {w : World} {g : Nat} {zs : List Int} (h : BlkI w g (zs.map I64)) (k : Nat) : RowI w (some ⟨g, 0, none⟩) (zs.take k) := by
  refine .inr ⟨g, 0, rfl, fun j z hj => ?_⟩
  rw [Nat.zero_add, h.cell j, List.getElem?_map]
  have h1 : j < k := by
    have := (List.getElem?_eq_some_iff.1 hj).1
    simp at this
    omega
  rw [List.getElem?_take_of_lt h1] at hj
  rw [hj]
  rfl
theorem BlkI.row_all {w : World} {g : Nat} {zs : List Int} (h : BlkI w g (zs.map I64)) : RowI w (some ⟨g, 0, none⟩) zs := by
  have := h.row zs.length
  rwa [List.take_length] at this
theorem BlkI.row_lent {w : World} {g : Nat} {zs : List Int} (h : BlkI w g ((lentI zs).map I64)) : RowI w (some ⟨g, 0, none⟩) zs := by
  have := h.row zs.length
  rwa [show (lentI zs).take zs.length = zs from by simp [lentI]] at this
theorem BlkI.drew {w : World} {g : Nat} {cs : List Value} (h : BlkI w g cs) : BlkI w.drew g cs := h

theorem setI_step (zs : List Int) (cs : List Value) (k : Nat) (hk : zs.length ≤ k) (hk3 : k < zs.length + 3) (hl : cs.length = zs.length + 3) (h : cs.take k = ((lentI zs).take k).map I64) :
    (cs.set k (.int .i64 (-77 - (k : Int)))).take (k + 1) = ((lentI zs).take (k + 1)).map I64 := by
  have hlen := lentI_length zs
  rw [List.take_succ_eq_append_getElem (by simp; omega), List.take_succ_eq_append_getElem (by omega), List.map_append, ← h]
  congr 1
  · rw [List.take_set_of_le (by omega)]
  · have e := lentI_spare zs k hk hk3
    simp [List.getD, List.getElem?_eq_getElem (show k < (lentI zs).length by omega)] at e
    simp [I64, e]

set_option maxRecDepth 100000 in
set_option maxHeartbeats 800000 in
theorem lentInts_any (a : Option Addr) (cap : Nat) (zs : List Int) (w : World) (hrow : RowI w a zs) (hmax : zs.length ≤ 1099511627776) :
    Calls Try.prog 28 #[.slice a zs.length cap] w fun e w' => e = .returned (.slice (some ⟨w.heap.size, 0, none⟩) zs.length (zs.length + 3)) ∧ BlkI w' w.heap.size ((lentI zs).map I64) ∧ Below w.heap.size w w' := by
  obtain ⟨i0, hi, hz0, hz1, hz2⟩ := info_parts Try.info3
  have hsz1 : (Try.prog.info? 3).map (·.size) = some 1 := by kernel_rfl
  go_enter Try.func28, Try.ntmps28
  go_wp2_with (at_make; refine wpList_make_full _ rfl (.tmp 7) (.tmp 7) 26 rfl w.heap.size 3 i0 (.int .i64 0) 1 Try.underlying26 hi hz0 hz1 .i64 .i64 _ _ (zs.length + 3) rfl rfl (by omega) (by omega) (by rw [hz2]; omega) (by unfold maxLen; omega) (Nat.le_refl _) ?_)
  intro w1 hown hgrow
  have hb1 : Below w.heap.size w w1 := (Below.refl _ w).grown hgrow (Nat.le_refl _) (by intro k hk; cases hk)
  obtain ⟨L, hL, hblk⟩ : ∃ L : List Value, L.length = zs.length + 3 ∧ BlkI w1 w.heap.size L := by
    obtain ⟨_, ⟨h, _⟩ | ⟨g, cp, cur, h, hg, hh, _, _, hs, _⟩⟩ := hown
    · cases h
    · cases h
      exact ⟨cur.toList, by simpa using hs, by unfold BlkI; rw [hh]⟩
  have hrow1 := hrow.below hb1
  clear hown hgrow hrow
  go_wp2_with (refine wpList_copy_splice rfl (.tmp 9) (.tmp 10) 26 26 rfl 3 Try.underlying26 hsz1 _ _ _ _ _ _ rfl rfl w.heap.size 0 L 3 hblk (zs.map I64) (by rw [List.length_map]; exact (Nat.min_eq_left (by omega)).symm) ?p1 (by simp; omega) (by intro v hv; simp at hv; obtain ⟨b, _, rfl⟩ := hv; rfl) w.heap.size w hb1 (Nat.le_refl _) ?_)
  case p1 =>
    intro hpos
    rcases hrow1 with h0 | ⟨b, off, rfl, hc⟩
    · subst h0; simp at hpos
    · refine ⟨_, rfl, fun j v hj => ?_⟩
      have e : (⟨b, off, none⟩ : Addr).add j = ⟨b, off + j, none⟩ := by unfold Addr.add; split <;> simp_all
      rw [e, hc j v hj]
      rfl
  intro w2 hblk2 hb2
  obtain ⟨cs, hcs, hlen, hpre⟩ : ∃ cs : List Value, BlkI w2 w.heap.size cs ∧ cs.length = zs.length + 3 ∧ cs.take zs.length = ((lentI zs).take zs.length).map I64 := by
    refine ⟨_, hblk2.out, ?_, ?_⟩
    · rw [length_splice _ _ _ (by simp; omega)]; exact hL
    · simp [splice, lentI]
  clear hblk2 hblk hrow1 hb1 hL
  go_wp2
  go_loopw [4] (fun t wr => ∃ (k : Nat) (cs : List Value), zs.length ≤ k ∧ k ≤ zs.length + 3 ∧ t = .int .i64 k ∧ Hid (cs.length = zs.length + 3) ∧ Hid (cs.take k = ((lentI zs).take k).map I64) ∧ BlkI wr w.heap.size cs ∧ Below w.heap.size w wr)
    (fun t _ => zs.length + 3 - (intOf t).toNat)
  case atStart => exact ⟨zs.length, cs, Nat.le_refl _, by omega, rfl, hlen, hpre, hcs, hb2⟩
  case round =>
    obtain ⟨k, cs', hk1, hk2, rfl, hl, hp, hbk, hbel⟩ := hrel
    clear hcs hlen hpre hb2
    by_cases hlt : k < zs.length + 3
    · have hcell : wr.cell? ⟨w.heap.size, k, none⟩ = some (cs'[k]'(by have := hl.out; omega)) := by rw [hbk.cell]; exact List.getElem?_eq_getElem _
      have hfr := hbk.frozen k
      have HP : Hid _ := setI_step zs cs' k hk1 hlt hl.out hp.out
      have hw7 : IntKind.i64.wrap (-77 - (k : Int)) = -77 - (k : Int) := by rw [IntKind.wrap_i64]; omega
      go_wp2
      go_roundw
      case rel => exact ⟨k + 1, _, by omega, by omega, by go_num, by show _ = _; rw [List.length_set]; exact hl.out, HP.out, hbk.set k _, hbel.setCell (Nat.le_refl _) _⟩
      case measure => simp [intOf]; omega
    · have HP : Hid (cs' = (lentI zs).map I64) := by
        have h1 := hp.out
        have h2 := hl.out
        rw [List.take_of_length_le (by omega), List.take_of_length_le (by rw [lentI_length]; omega)] at h1
        exact h1
      go_wp2
      go_ret
      exact ⟨rfl, by rw [← HP.out]; exact hbk, hbel⟩
end Go.Proofs.Ytjedkfohmedmaaa
