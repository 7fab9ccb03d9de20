/- assizekit.LentBytes: a copy of the bytes with three spare bytes of known make behind it. -/
import Derived.Test.YtbehmclligkbhaaKit
import Derived.Laws.CopyOwn
namespace Go.Proofs.Ytbehmclligkbhaa
open Go.RowKit
set_option linter.unusedVariables false

/-- The spare byte at a place. -/
def spareAt (i : Nat) : UInt8 := ub (160 + i % 90)

/-- What lies in memory behind LentBytes. -/
def lent (bs : List UInt8) : List UInt8 := bs ++ [spareAt bs.length, spareAt (bs.length + 1), spareAt (bs.length + 2)]

theorem lent_length (bs : List UInt8) : (lent bs).length = bs.length + 3 := by simp [lent]

theorem lent_spare (bs : List UInt8) (k : Nat) (h1 : bs.length ≤ k) (h2 : k < bs.length + 3) : (lent bs).getD k 0 = spareAt k := by
  obtain ⟨j, rfl⟩ := Nat.exists_eq_add_of_le h1
  have hj : j = 0 ∨ j = 1 ∨ j = 2 := by omega
  unfold lent
  rcases hj with rfl | rfl | rfl <;> simp [List.getD]

/-- A block of the call's own, its cells known: what stands in it. -/
def Blk (w : World) (g : Nat) (cs : List Value) : Prop := w.heap[g]? = some (.cells cs.toArray 5 (0, 0))

theorem Blk.cell {w : World} {g : Nat} {cs : List Value} (h : Blk w g cs) (i : Nat) : w.cell? ⟨g, i, none⟩ = cs[i]? := by
  simp [World.cell?, show w.heap[g]? = _ from h]

theorem Blk.frozen {w : World} {g : Nat} {cs : List Value} (h : Blk w g cs) (i : Nat) : w.frozen? ⟨g, i, none⟩ = false := by
  simp [World.frozen?, show w.heap[g]? = _ from h]

theorem Blk.set {w : World} {g : Nat} {cs : List Value} (h : Blk w g cs) (i : Nat) (v : Value) : Blk (w.setCell ⟨g, i, none⟩ v) g (cs.set i v) := by
  have := heap_setCell_same w g i cs.toArray 5 v h
  unfold Blk
  rw [this]
  simp

theorem Blk.below {w w' : World} {g : Nat} {cs : List Value} (h : Blk w g cs) (hb : Below w.heap.size w w') : Blk w' g cs := by
  unfold Blk at *
  rw [hb.block g ?_]
  · exact h
  · rcases Nat.lt_or_ge g w.heap.size with hlt | hge
    · exact hlt
    · rw [Array.getElem?_eq_none hge] at h; simp at h

theorem set_step (bs : List UInt8) (cs : List Value) (k : Nat) (hk : bs.length ≤ k) (hk3 : k < bs.length + 3) (hl : cs.length = bs.length + 3) (h : cs.take k = ((lent bs).take k).map B8) :
    (cs.set k (.int .u8 (160 + (k : Int) % 90))).take (k + 1) = ((lent bs).take (k + 1)).map B8 := by
  have hlen := lent_length bs
  rw [List.take_succ_eq_append_getElem (by simp; omega), List.take_succ_eq_append_getElem (by omega), List.map_append, ← h]
  congr 1
  · rw [List.take_set_of_le (by omega)]
  · have e := lent_spare bs k hk hk3
    simp [List.getD, List.getElem?_eq_getElem (show k < (lent bs).length by omega)] at e
    simp [B8, e, spareAt]
    rw [ub_toNat _ (by omega)]
    omega

set_option maxRecDepth 100000 in
set_option maxHeartbeats 800000 in
theorem lent_any (a : Option Addr) (cap : Nat) (bs : List UInt8) (w : World) (hrow : Row w a bs) (hmax : bs.length ≤ 1099511627776) :
    Calls Try.prog 8 #[.slice a bs.length cap] w fun e w' => e = .returned (.slice (some ⟨w.heap.size, 0, none⟩) bs.length (bs.length + 3)) ∧ Blk w' w.heap.size ((lent bs).map B8) ∧ Below w.heap.size w w' := by
  obtain ⟨i0, hi, hz0, hz1, hz2⟩ := info_parts Try.info5
  have hsz1 : (Try.prog.info? 5).map (·.size) = some 1 := by kernel_rfl
  go_enter Try.func8, Try.ntmps8
  go_wp2_with (at_make; refine wpList_make_full _ rfl (.tmp 7) (.tmp 7) 22 rfl w.heap.size 5 i0 (.int .u8 0) 1 Try.underlying22 hi hz0 hz1 .i64 .i64 _ _ (bs.length + 3) rfl rfl (by omega) (by omega) (by rw [hz2]; omega) (by unfold maxLen; omega) (Nat.le_refl _) ?_)
  intro w1 hown hgrow
  have hb1 : Below w.heap.size w w1 := (Below.refl _ w).grown hgrow (Nat.le_refl _) (by intro k hk; cases hk)
  obtain ⟨L, hL, hblk⟩ : ∃ L : List Value, L.length = bs.length + 3 ∧ Blk w1 w.heap.size L := by
    obtain ⟨_, ⟨h, _⟩ | ⟨g, cp, cur, h, hg, hh, _, _, hs, _⟩⟩ := hown
    · cases h
    · cases h
      exact ⟨cur.toList, by simpa using hs, by unfold Blk; rw [hh]⟩
  have hrow1 := hrow.below hb1
  clear hown hgrow hrow
  go_wp2_with (refine wpList_copy_splice rfl (.tmp 9) (.tmp 10) 22 22 rfl 5 Try.underlying22 hsz1 _ _ _ _ _ _ rfl rfl w.heap.size 0 L 5 hblk (bs.map B8) (by rw [List.length_map]; exact (Nat.min_eq_left (by omega)).symm) ?p1 (by simp; omega) (by intro v hv; simp at hv; obtain ⟨b, _, rfl⟩ := hv; rfl) w.heap.size w hb1 (Nat.le_refl _) ?_)
  case p1 =>
    intro hpos
    rcases hrow1 with h0 | ⟨b, off, rfl, hc⟩
    · subst h0; simp at hpos
    · refine ⟨_, rfl, fun j v hj => ?_⟩
      have hjl : j < bs.length := by
        rcases Nat.lt_or_ge j bs.length with h | h
        · exact h
        · simp [h] at hj
      have e : (⟨b, off, none⟩ : Addr).add j = ⟨b, off + j, none⟩ := by unfold Addr.add; split <;> simp_all
      rw [e, hc j hjl]
      simp [List.getElem?_eq_getElem hjl] at hj
      rw [← hj]
      simp [B8, List.getD, List.getElem?_eq_getElem hjl]
  intro w2 hblk2 hb2
  obtain ⟨cs, hcs, hlen, hpre⟩ : ∃ cs : List Value, Blk w2 w.heap.size cs ∧ cs.length = bs.length + 3 ∧ cs.take bs.length = ((lent bs).take bs.length).map B8 := by
    refine ⟨_, hblk2.out, ?_, ?_⟩
    · rw [length_splice _ _ _ (by simp; omega)]; exact hL
    · simp [splice, lent]
  clear hblk2 hblk hrow1 hb1 hL
  go_wp2
  go_loopw [4] (fun t wr => ∃ (k : Nat) (cs : List Value), bs.length ≤ k ∧ k ≤ bs.length + 3 ∧ t = .int .i64 k ∧ Hid (cs.length = bs.length + 3) ∧ Hid (cs.take k = ((lent bs).take k).map B8) ∧ Blk wr w.heap.size cs ∧ Below w.heap.size w wr)
    (fun t _ => bs.length + 3 - (intOf t).toNat)
  case atStart => exact ⟨bs.length, cs, Nat.le_refl _, by omega, rfl, hlen, hpre, hcs, hb2⟩
  case round =>
    obtain ⟨k, cs', hk1, hk2, rfl, hl, hp, hbk, hbel⟩ := hrel
    clear hcs hlen hpre hb2
    by_cases hlt : k < bs.length + 3
    · have hcell : wr.cell? ⟨w.heap.size, k, none⟩ = some (cs'[k]'(by have := hl.out; omega)) := by rw [hbk.cell]; exact List.getElem?_eq_getElem _
      have hfr := hbk.frozen k
      have HP : Hid _ := set_step bs cs' k hk1 hlt hl.out hp.out
      go_wp2
      go_roundw
      case rel => exact ⟨k + 1, _, by omega, by omega, by go_num, by show _ = _; rw [List.length_set]; exact hl.out, HP.out, hbk.set k _, hbel.setCell (Nat.le_refl _) _⟩
      case measure => simp [intOf]; omega
    · have HP : Hid (cs' = (lent bs).map B8) := by
        have h1 := hp.out
        have h2 := hl.out
        rw [List.take_of_length_le (by omega), List.take_of_length_le (by rw [lent_length]; omega)] at h1
        exact h1
      go_wp2
      go_ret
      exact ⟨rfl, by rw [← HP.out]; exact hbk, hbel⟩
end Go.Proofs.Ytbehmclligkbhaa
