/- How high what is read is; an expression laid as a row. -/
import Derived.Test.YtjgggmjjikopeaaGreatDoorJ12
import Derived.Great.BuildSlice
namespace Go.Proofs.YtjgggmjjikopeaaGreatDoor
open Go.RowKit
set_option linter.unusedVariables false

theorem f43 : (Tryz.prog.info? 43).map (fun i => (i.zero, i.size, i.bytes)) = some (some (.agg ([.int .u8 0, .int .u8 0, .int .u64 0, .string ⟨#[]⟩, .slice none 0 0] : List Value).toArray), 5, 64) := by kernel_rfl
/-- One expression is laid as a row. -/
theorem wp_kid1 {o : Oper} {a : Act} {w : World} {K : Act → World → Prop} {Q : Exit → Act → World → Prop} (x : Operand) (ho : o.op = .buildSlice 41 1 #[(0, x)]) (y : ET) (hx : a.eval x = .agg y.cells.toArray)
    (h : ∀ w', At 43 w' w.heap.size y.cells → Below w.heap.size w w' → w'.heap.size = w.heap.size + 1 → K (a.put o.dst (.slice (some ⟨w.heap.size, 0, none⟩) 1 1)) w') : o.wp Tryz.prog a w K Q := by
  obtain ⟨ie, hi, hz0, hz1, hz2⟩ := info_parts f43
  refine wp_buildSlice 41 43 1 #[(0, x)] ho y.cells.toArray ie _ Tryz.underlying41 hi hz0 (by rw [hz1]; decide) (by rw [hz1]; decide) ?_ ?_
  · rw [hz1]
    simp only [List.map_toArray, List.map_cons, List.map_nil, hx]
    cases y
    kernel_rfl
  · exact h _ (_root_.Go.heap_alloc_new w _) ((Below.refl _ w).alloc (Nat.le_refl _) _) (by show (w.heap.push _).size = _; simp)
theorem kid1_in {w : World} {b op A : Nat} {y : ET} (hA : At 43 w b y.cells) (hy : Tw A w y) (hop : op < 256) (hb : A ≤ b) : Tw A w (ET.mk op 0 0 ⟨#[]⟩ (some ⟨b, 0, none⟩) 1 [y]) := by
  refine ⟨?_, ?_⟩
  · unfold ET.In
    refine ⟨hop, by decide, by decide, by simp, by simp, .inr ⟨b, 0, rfl, hA.lt, ?_⟩⟩
    unfold ET.Row
    refine ⟨?_, hy.1, by unfold ET.Row; trivial⟩
    have := hA.range 0 5
    rwa [List.drop_zero, List.take_of_length_le (by rw [ET.cells5]; exact Nat.le_refl _)] at this
  · unfold ET.Lies
    refine ⟨.inr ⟨b, 0, rfl, hb⟩, ?_⟩
    unfold ET.LiesL
    exact ⟨hy.2, by unfold ET.LiesL; trivial⟩

theorem nodeR_ht {p op : Nat} {ks : List Ex} {r r' : List Tk} {e : Ex} (h : nodeR p op ks r = .ok e r') : htX e ≤ 32 := by
  unfold nodeR at h
  split at h
  · cases h
  · cases h
    omega
theorem leafR_ht {l r : List Tk} {e : Ex} (h : leafR l = .ok e r) : htX e ≤ 32 := by
  unfold leafR at h
  split at h
  · cases h
    simp [htX, htL]
  · split at h
    · cases h
      simp [htX, htL]
    · cases h
/-- What is read is at most 32 high. -/
theorem read_ht (f : Nat) :
    (∀ n d l e r, rowF f n d l = some (.ok e r) → htX e ≤ 32) ∧
    (∀ n m d x l e r, htX x ≤ 32 → loopF f n m d x l = some (.ok e r) → htX e ≤ 32) ∧
    (∀ d l e r, operF f d l = some (.ok e r) → htX e ≤ 32) ∧
    (∀ d l e r, brkF f d l = some (.ok e r) → htX e ≤ 32) := by
  induction f with
  | zero => exact ⟨fun n d l e r h => by simp [rowF] at h, fun n m d x l e r _ h => by simp [loopF] at h, fun d l e r h => by simp [operF] at h, fun d l e r h => by simp [brkF] at h⟩
  | succ f ih =>
    obtain ⟨ih1, ih2, ih3, ih4⟩ := ih
    refine ⟨fun n d l e r h => ?_, fun n m d x l e r hx h => ?_, fun d l e r h => ?_, fun d l e r h => ?_⟩
    · rw [rowF] at h
      split at h
      · cases h
      · cases h
      · next hc => exact ih2 _ _ _ _ _ _ _ (ih3 _ _ _ _ hc) h
    · rw [loopF] at h
      split at h
      · cases h
        exact hx
      · split at h
        · cases h
        · cases h
        · split at h
          · cases h
          · next hn => exact ih2 _ _ _ _ _ _ _ (nodeR_ht hn) h
    · rw [operF] at h
      split at h
      · exact leafR_ht (Option.some.inj h)
      · split at h
        · cases h
        · split at h
          · split at h
            · cases h
            · cases h
            · exact nodeR_ht (Option.some.inj h)
          · split at h
            · exact ih4 _ _ _ _ h
            · split at h
              · cases h
              · cases h
              · exact nodeR_ht (Option.some.inj h)
    · rw [brkF] at h
      split at h
      · cases h
      · split at h
        · cases h
        · cases h
        · next hc =>
          split at h
          · cases h
          · cases h
            exact ih1 _ _ _ _ _ hc

end Go.Proofs.YtjgggmjjikopeaaGreatDoor
