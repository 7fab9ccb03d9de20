/- assizekit.OverInts: all that a row of numbers holds or could hold is written over, and nothing else. -/
import Derived.Test.YtjedkfohmedmaaaKpI
namespace Go.Proofs.Ytjedkfohmedmaaa
open Go.RowKit
set_option linter.unusedVariables false

/-- Of a block's cells only some places were written, and no other block. -/
structure OverW (g lo hi : Nat) (w w' : World) : Prop where
  os : w'.os = w.os
  tape : w'.tape = w.tape
  output : w'.output = w.output
  size : w'.heap.size = w.heap.size
  block : ∀ k, k ≠ g → w'.heap[k]? = w.heap[k]?
  cell : ∀ i, (i < lo ∨ hi ≤ i) → w'.cell? ⟨g, i, none⟩ = w.cell? ⟨g, i, none⟩
theorem OverW.refl (g lo hi : Nat) (w : World) : OverW g lo hi w w := ⟨rfl, rfl, rfl, rfl, fun _ _ => rfl, fun _ _ => rfl⟩
theorem OverW.set {g lo hi i : Nat} {w w' : World} {cs : List Value} (h : OverW g lo hi w w') (hb : BlkI w' g cs) (h1 : lo ≤ i) (h2 : i < hi) (v : Value) : OverW g lo hi w (w'.setCell ⟨g, i, none⟩ v) := by
  have B := Below.setCell (Below.refl g w') (p := ⟨g, i, none⟩) (Nat.le_refl _) v
  refine ⟨B.os.trans h.os, B.tape.trans h.tape, B.output.trans h.output, ?_, fun k hk => ?_, fun j hj => ?_⟩
  · rw [← h.size]; exact World.size_setCell ..
  · rw [← h.block k hk]
    exact heap_setCell_other _ _ _ _ hk
  · rw [← h.cell j hj, (hb.set i v).cell, hb.cell, List.getElem?_set_ne (by omega)]

set_option maxRecDepth 100000 in
set_option maxHeartbeats 800000 in
theorem overInts_any (g o len cap : Nat) (cs : List Value) (w : World) (hblk : BlkI w g cs) (hint : ∀ i, i < cap → ∃ z, cs[o + i]? = some (.int .i64 z)) (hmax : cap ≤ 4611686018427387904) (hlc : len ≤ cap) :
    Calls Try.prog 18 #[.slice (some ⟨g, o, none⟩) len cap] w fun e w' => e = .returned (.tuple #[]) ∧ OverW g o (o + cap) w w' := by
  have hs1 := fun w => runI_slice_to w (some ⟨g, o, none⟩) len cap cap (cap : Int) rfl (Nat.le_refl _)
  go_enter Try.func18, Try.ntmps18
  go_wp2
  go_loopw [3] (fun t wr => ∃ (k : Nat) (cs : List Value), k ≤ cap ∧ t = .int .i64 k ∧ Hid (∀ i, i < cap → ∃ z, cs[o + i]? = some (.int .i64 z)) ∧ BlkI wr g cs ∧ OverW g o (o + cap) w wr)
    (fun t _ => cap - (intOf t).toNat)
  case atStart => exact ⟨0, cs, by omega, rfl, hint, hblk, OverW.refl ..⟩
  case round =>
    obtain ⟨k, cs', hk, rfl, hi, hbk, hov⟩ := hrel
    clear hint hblk
    by_cases hlt : k < cap
    · obtain ⟨z, hz⟩ := hi.out k hlt
      have hcell : wr.cell? ⟨g, o + k, none⟩ = some (.int .i64 z) := by rw [hbk.cell]; exact hz
      have hfr := hbk.frozen (o + k)
      go_wp2
      go_roundw
      case rel =>
        refine ⟨k + 1, _, by omega, by go_num, ?_, hbk.set (o + k) _, hov.set hbk (by omega) (by omega) _⟩
        intro i hic
        by_cases hik : i = k
        · subst hik
          have := (List.getElem?_eq_some_iff.1 hz).1
          rw [List.getElem?_set_self this]
          exact ⟨_, rfl⟩
        · rw [List.getElem?_set_ne (by omega)]
          exact hi.out i hic
      case measure => simp [intOf]; omega
    · go_wp2
      go_end0
      exact ⟨rfl, hov⟩
end Go.Proofs.Ytjedkfohmedmaaa
