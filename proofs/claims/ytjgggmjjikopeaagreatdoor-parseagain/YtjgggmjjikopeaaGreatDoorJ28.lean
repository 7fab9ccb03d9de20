/- Joined texts of the proof. -/
import Derived.Test.YtjgggmjjikopeaaGreatDoorJ26

/- Two expressions laid as a row; how many tokens are ahead. -/
namespace Go.Proofs.YtjgggmjjikopeaaGreatDoor
open Go.RowKit
set_option linter.unusedVariables false

/-- Two expressions are laid as a row. -/
theorem wpList_kid2 {ops : Array Oper} {rest : List Oper} {o : Oper} {a : Act} {w : World} {Q : Exit → Act → World → Prop} (hgd : o.guard = none) (x y : Operand) (ho : o.op = .buildSlice 41 2 #[(0, x), (1, y)]) (X Y : ET) (hx : a.eval x = .agg X.cells.toArray) (hy : a.eval y = .agg Y.cells.toArray)
    (h : ∀ w', At 43 w' w.heap.size (X.cells ++ Y.cells) → Below w.heap.size w w' → w'.heap.size = w.heap.size + 1 → wpList Tryz.prog ops Q rest (a.put o.dst (.slice (some ⟨w.heap.size, 0, none⟩) 2 2)) w') : wpList Tryz.prog ops Q (o :: rest) a w := by
  obtain ⟨ie, hi, hz0, hz1, hz2⟩ := info_parts f43
  refine wpList_buildSlice hgd 41 43 2 #[(0, x), (1, y)] ho (X.cells ++ Y.cells).toArray ie _ Tryz.underlying41 hi hz0 (by rw [hz1]; decide) (by rw [hz1]; decide) ?_ ?_
  · rw [hz1]
    simp only [List.map_toArray, List.map_cons, List.map_nil, hx, hy]
    cases X
    cases Y
    kernel_rfl
  · exact h _ (_root_.Go.heap_alloc_new w _) ((Below.refl _ w).alloc (Nat.le_refl _) _) (by show (w.heap.push _).size = _; simp)
theorem kid2_in {w : World} {b op A : Nat} {x y : ET} (hA : At 43 w b (x.cells ++ y.cells)) (hx : Tw A w x) (hy : Tw A w y) (hop : op < 256) (hb : A ≤ b) : Tw A w (ET.mk op 0 0 ⟨#[]⟩ (some ⟨b, 0, none⟩) 2 [x, y]) := by
  have hr := hA.range 0 10
  rw [List.drop_zero, List.take_of_length_le (by rw [List.length_append, ET.cells5, ET.cells5]; exact Nat.le_refl _)] at hr
  refine ⟨⟨?_, ?_⟩, ?_⟩
  · unfold ET.In
    refine ⟨hop, by decide, by decide, by simp, by simp, .inr ⟨b, 0, rfl, hA.lt, ?_⟩⟩
    unfold ET.Row
    refine ⟨fun j v hj => hr j v ?_, hx.1.1, ?_⟩
    · rw [List.getElem?_append_left (List.getElem?_eq_some_iff.1 hj).1]
      exact hj
    · unfold ET.Row
      refine ⟨fun j v hj => ?_, hy.1.1, by unfold ET.Row; trivial⟩
      have := hr (5 + j) v (by
        rw [List.getElem?_append_right (by rw [ET.cells5]; omega), ET.cells5, show 5 + j - 5 = j by omega]
        exact hj)
      rwa [show 0 + (5 + j) = 0 + 5 + j by omega] at this
  · unfold ET.Lies
    refine ⟨.inr ⟨b, 0, rfl, _, _, hA, by decide⟩, ?_⟩
    unfold ET.LiesL
    refine ⟨hx.1.2, ?_⟩
    unfold ET.LiesL
    exact ⟨hy.1.2, by unfold ET.LiesL; trivial⟩
  · unfold ET.Lies
    refine ⟨.inr ⟨b, 0, rfl, hb⟩, ?_⟩
    unfold ET.LiesL
    refine ⟨hx.2, ?_⟩
    unfold ET.LiesL
    exact ⟨hy.2, by unfold ET.LiesL; trivial⟩

/-- How many tokens a reader has ahead. -/
def tokLen (w : World) (g : Nat) : Nat := match w.cell? ⟨g, 0, none⟩ with | some (.slice _ n _) => n | _ => 0
theorem Rd.len {B : Nat} {w : World} {g : Nat} {l : List Tk} (h : Rd B w g l) : tokLen w g = l.length := by
  obtain ⟨gt, o, c, h, _⟩ := h
  have := h.cell.cell 0
  unfold tokLen
  rw [this]
  rfl
theorem rowF_left {f n d : Nat} {l : List Tk} {R : Rs Ex} (hn : 1 ≤ n) (h : rowF f n d l = some R) : R.Left l.length := by
  obtain ⟨f', r', h1, h2⟩ := (total l.length l (Nat.le_refl _)).2.2.1 n d hn
  rwa [row_one h h1]
theorem bind_lt (x : List UInt8) : (bindOf x).1 < 256 := by
  have go : ∀ (c : Prop) [Decidable c] (a b : Nat × Nat), a.1 < 256 → b.1 < 256 → (if c then a else b).1 < 256 := fun c _ a b h1 h2 => by
    by_cases h : c
    · rw [if_pos h]; exact h1
    · rw [if_neg h]; exact h2
  unfold bindOf
  refine go _ _ _ ?_ (go _ _ _ ?_ (go _ _ _ ?_ (go _ _ _ ?_ (go _ _ _ ?_ (go _ _ _ ?_ (go _ _ _ ?_ (go _ _ _ ?_ (go _ _ _ ?_ (go _ _ _ ?_ (go _ _ _ ?_ (go _ _ _ ?_ (go _ _ _ ?_ ?_))))))))))))
  all_goals exact of_decide_eq_true rfl

end Go.Proofs.YtjgggmjjikopeaaGreatDoor
