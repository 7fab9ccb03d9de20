/- assizekit.KeptLists: lists that were lent stand as they were. -/
import Derived.Test.YtbigkblkfnnfkaaDoorLists
namespace Go.Proofs.YtbigkblkfnnfkaaDoor
open Go.RowKit
set_option linter.unusedVariables false

/-- A row of lists that were lent. -/
def LRow (w : World) (a : Option Addr) (L : List (Nat × List UInt8)) : Prop :=
  L = [] ∨ ∃ g, a = some ⟨g, 0, none⟩ ∧ ∀ j, j < L.length → w.cell? ⟨g, j, none⟩ = some (lentV (L.getD j (0, [])))

theorem OwnL.row {base : Nat} {w : World} {v : Value} {L : List (Nat × List UInt8)} (h : OwnL base w v (L.map lentV)) : ∃ a cap, v = .slice a L.length cap ∧ L.length ≤ cap ∧ LRow w a L := by
  obtain ⟨h1, ⟨rfl, h0⟩ | ⟨g, cap, cur, rfl, hg, hh, hc, hm, hs, ht⟩⟩ := h
  · rw [List.length_map] at h0
    have : L = [] := List.length_eq_zero_iff.1 h0
    subst this
    exact ⟨none, 0, rfl, Nat.le_refl _, .inl rfl⟩
  · rw [List.length_map] at hc ht ⊢
    refine ⟨_, cap, rfl, hc, .inr ⟨g, rfl, fun j hj => ?_⟩⟩
    simp only [World.cell?, hh]
    have e1 : (cur.toList.take (L.length * 1))[j]? = some (lentV (L.getD j (0, []))) := by
      rw [ht]
      simp [List.getElem?_map, List.getElem?_eq_getElem hj, List.getD]
    rw [List.getElem?_take_of_lt (by omega)] at e1
    simpa using e1

theorem LRow.below {w w' : World} {a : Option Addr} {L : List (Nat × List UInt8)} (h : LRow w a L) (hb : Below w.heap.size w w') : LRow w' a L := by
  rcases h with h | ⟨g, e, h⟩
  · exact .inl h
  · exact .inr ⟨g, e, fun j hj => by rw [hb.cell (lt_of_cell (h j hj))]; exact h j hj⟩

theorem LentIn.below {w w' : World} {L : List (Nat × List UInt8)} (h : LentIn w L) (hb : Below w.heap.size w w') : LentIn w' L := fun x hx => (h x hx).below hb

set_option maxRecDepth 100000 in
set_option maxHeartbeats 1600000 in
theorem keptLists_any (a : Option Addr) (cap : Nat) (a' : Option Addr) (cap' : Nat) (L : List (Nat × List UInt8)) (ps : List (List UInt8)) (hps : Hid (L.map (fun x => x.2) = ps)) (w : World) (hL : LRow w a' L) (hin : LentIn w L) (hrow : RowL w a ps) (hn : ps.length ≤ 1048576) (hmax : ∀ j, j < ps.length → (ps.getD j []).length ≤ 1099511627776) :
    Calls Tryd.prog 18 #[.slice a' ps.length cap', .slice a ps.length cap] w fun e w' => e = .returned (.bool true) ∧ Below w.heap.size w w' := by
  have hlen : Hid (L.length = ps.length) := by show _ = _; rw [← hps.out, List.length_map]
  go_enter Tryd.func18, Tryd.ntmps18
  go_wp2_with fail
  go_loopw [5] (fun i wr => ∃ (k : Nat), k ≤ ps.length ∧ i = .int .i64 k ∧ Below w.heap.size w wr) (fun i _ => ps.length - (intOf i).toNat)
  case atStart => exact ⟨0, Nat.zero_le _, rfl, Below.refl _ _⟩
  case round =>
    obtain ⟨k, hk, rfl, hbel⟩ := hrel
    by_cases hlt : k < ps.length
    · have hR := hrow.below hbel
      have hL' := hL.below hbel
      have hin' := hin.below hbel
      rcases hR with h | ⟨b, off, rfl, h⟩
      · subst h; simp at hlt
      rcases hL' with h' | ⟨g, rfl, h'⟩
      · have := hlen.out; subst h'; simp at this; omega
      obtain ⟨fa, fc, hcell, hr, hle, hfn⟩ := h k hlt
      have hkL : k < L.length := by rw [hlen.out]; exact hlt
      have hcell' := h' k hkL
      obtain ⟨x, hx⟩ : ∃ x, Hid (x = L.getD k (0, [])) := ⟨_, rfl⟩
      obtain ⟨p, hp⟩ : ∃ p, Hid (p = ps.getD k []) := ⟨_, rfl⟩
      have hxm : x ∈ L := by rw [hx.out, List.getD_eq_getElem?_getD, List.getElem?_eq_getElem hkL]; exact List.getElem_mem hkL
      have hxp : x.2 = p := by
        rw [hp.out, hx.out, ← hps.out]
        simp [List.getD, List.getElem?_eq_getElem hkL]
      obtain ⟨xg, xl⟩ := x
      simp only at hxp
      subst hxp
      have hpm : xl.length ≤ 1099511627776 := by rw [hp.out]; exact hmax k hlt
      have hblk := hin' _ hxm
      rw [← hx.out] at hcell'
      rw [← hp.out] at hcell hr
      have hc2 : wr.cell? ⟨g, k, none⟩ = some (.slice (some ⟨xg, 0, none⟩) xl.length (xl.length + 3)) := hcell'
      have hb2 : Blk wr xg ((lent xl).map B8) := hblk
      clear h h' hle hfn hrow hL hin hin' hcell' hblk hxm hx hp hlen hkL hps
      have hS : wr.drew.cell? ⟨g, k, none⟩ = some (.slice (some ⟨xg, 0, none⟩) xl.length (xl.length + 3)) ∧ wr.drew.cell? ⟨b, off + k, none⟩ = some (.slice fa xl.length fc) := ⟨hc2, hcell⟩
      go_wp2_with fail
      go_region_held3 (fun w' => w'.cell? ⟨g, k, none⟩ = some (.slice (some ⟨xg, 0, none⟩) xl.length (xl.length + 3)) ∧ w'.cell? ⟨b, off + k, none⟩ = some (.slice fa xl.length fc)) (first | exact hS5 | exact hS) (first | (go_at_call 12; refine (kept_any fa fc xg xl _ hr.drew hb2.drew hpm).mono ?_; rintro e w5 ⟨rfl, hbel5⟩; have hS5 : w5.cell? ⟨g, k, none⟩ = some (.slice (some ⟨xg, 0, none⟩) xl.length (xl.length + 3)) ∧ w5.cell? ⟨b, off + k, none⟩ = some (.slice fa xl.length fc) := (by rw [hbel5.cell (lt_of_cell (show wr.drew.cell? _ = _ from hc2)), hbel5.cell (lt_of_cell (show wr.drew.cell? _ = _ from hcell))]; exact hS)) | fail)
      all_goals
        have hb5 : Below w.heap.size w w5 := Below.trans (show Below w.heap.size w wr.drew from ⟨hbel.os, hbel.tape, hbel.output, hbel.size, hbel.block⟩) (hbel5.mono hbel.size)
        go_wp2
        go_roundw
        case rel => exact ⟨k + 1, by omega, by go_num, hb5⟩
        case measure => simp [intOf]; omega
    · go_wp2
      go_ret
      exact ⟨by simp, hbel⟩
end Go.Proofs.YtbigkblkfnnfkaaDoor
