/- Bytes copied: CopyBytes 17. -/
import Derived.Test.YtefklmckkigllaaWrF
namespace Go.Proofs.Ytefklmckkigllaa
open Go.RowKit
set_option linter.unusedVariables false

theorem Own.empty (base : Nat) (w : World) (hb : base ≤ w.heap.size) : Own base (w.alloc (.cells #[] 5)) (.slice (some ⟨w.heap.size, 0, none⟩) 0 0) [] :=
  ⟨rfl, .inr ⟨w.heap.size, 0, #[], rfl, hb, _root_.Go.heap_alloc_new w _, Nat.le_refl _, Nat.zero_le _, rfl, rfl⟩⟩
/-- A row of one's own that is not empty lies at a block's head. -/
theorem Own.head {base : Nat} {w : World} {v : Value} {bs : List UInt8} (h : Own base w v bs) (hne : bs ≠ []) : ∃ g cap, v = .slice (some ⟨g, 0, none⟩) bs.length cap ∧ base ≤ g ∧ g < w.heap.size ∧ bs.length ≤ cap ∧ ∀ j, j < bs.length → w.cell? ⟨g, j, none⟩ = some (.int .u8 ((bs.getD j 0).toNat : Int)) := by
  obtain ⟨a, cap, hv, hc, _, hrow⟩ := h.row
  obtain ⟨_, ⟨rfl, hn⟩ | ⟨g, cap', cur, rfl, hg, hcur, _⟩⟩ := h
  · exact absurd (List.length_eq_zero_iff.1 hn) hne
  · cases hv
    rcases hrow with hr | ⟨b, off, hb, hcell⟩
    · exact absurd hr hne
    · cases hb
      refine ⟨g, cap, rfl, hg, ?_, hc, fun j hj => ?_⟩
      · exact lt_of_cell (hcell 0 (List.length_pos_iff.2 hne))
      · have := hcell j hj
        rwa [Nat.zero_add] at this

set_option maxRecDepth 100000 in
set_option maxHeartbeats 1600000 in
theorem copyB_any (b m c : Nat) (bs : List UInt8) (w : World) (hm : bs.length = m) (hbs : ∀ j, j < bs.length → w.cell? ⟨b, j, none⟩ = some (.int .u8 ((bs.getD j 0).toNat : Int))) (hl : m ≤ 1099511627776) :
    Calls Try.prog 17 #[.slice (some ⟨b, 0, none⟩) m c] w fun e w' => ∃ v, e = .returned v ∧ Own w.heap.size w' v bs ∧ Below w.heap.size w w' := by
  have hb1 : Below w.heap.size w (w.alloc (.cells #[] 5)) := (Below.refl _ w).alloc (Nat.le_refl _) _
  have HB : Hid (∀ j, j < bs.length → (w.alloc (.cells #[] 5)).cell? ⟨b, j, none⟩ = some (.int .u8 ((bs.getD j 0).toNat : Int))) := fun j hj => by
    rw [World.cell?_of_block (w := w) (hb1.block b (lt_of_cell (hbs j hj)))]
    exact hbs j hj
  have hE := Own.empty w.heap.size w (Nat.le_refl _)
  have HE : Hid (Own w.heap.size (w.alloc (.cells #[] 5)) (.slice (some ⟨w.heap.size, 0, none⟩) 0 0) []) := hE
  clear hbs hE
  go_enter Try.func17, Try.ntmps17
  go_wp2_with (first
    | ((with_reducible show wpList _ _ _ _ _ _); refine appRow (.tmp 3) (.tmp 4) w.heap.size _ [] b m c bs rfl rfl rfl rfl HE.out hm HB.out (by simp only [List.length_nil]; omega) hb1.size ?_; intro v' w' hO hg; refine Hid.out ?_))
  refine hidU ?_
  have hO' : Own w.heap.size w' v' bs := hO
  have hbel : Below w.heap.size w w' := hb1.grown hg hb1.size HE.out.block
  clear hO hg HE HB
  go_wp2
  go_ret
  exact ⟨v', rfl, hO', hbel⟩
end Go.Proofs.Ytefklmckkigllaa
