/- assizekit.LentEvents and KeptEvents: a copy of the events with three spare ones of known make behind it; what was lent and not written is found as it was. -/
import Derived.Test.YtjedkfohmedmaaaWrR
namespace Go.Proofs.Ytjedkfohmedmaaa
open Go.RowKit
set_option linter.unusedVariables false

theorem Try.info25 : (Try.prog.info? 25).map (fun i => (i.zero, i.size, i.bytes)) = some (some (.agg #[.int .i64 0, .int .i64 0, .int .i64 0]), 3, 24) := by kernel_rfl
theorem size25 (w : World) : (sizeOf 25).run Try.prog w = .ok 3 w := by kernel_rfl
/-- The cells of a row of events. -/
def flatE (es : List Ev) : List Value := (es.map Ev.cells).flatten
theorem flatE_length : ∀ es : List Ev, (flatE es).length = 3 * es.length
  | [] => rfl
  | e :: es => by
    have := flatE_length es
    simp only [flatE] at this
    simp [flatE, this, Ev.cells]
    omega
theorem flatE_append (xs ys : List Ev) : flatE (xs ++ ys) = flatE xs ++ flatE ys := by simp [flatE]
/-- What lies in memory behind LentEvents. -/
def lentE (es : List Ev) : List Ev := es ++ [⟨77, (es.length : Int), 0⟩, ⟨77, (es.length : Int) + 1, 0⟩, ⟨77, (es.length : Int) + 2, 0⟩]
theorem lentE_length (es : List Ev) : (lentE es).length = es.length + 3 := by simp [lentE]
theorem lentE_spare (es : List Ev) (k : Nat) (h1 : es.length ≤ k) (h2 : k < es.length + 3) : (lentE es)[k]? = some ⟨77, (k : Int), 0⟩ := by
  obtain ⟨j, rfl⟩ := Nat.exists_eq_add_of_le h1
  have hj : j = 0 ∨ j = 1 ∨ j = 2 := by omega
  unfold lentE
  rcases hj with rfl | rfl | rfl <;> simp
theorem flatE_at : ∀ (es : List Ev) (i : Nat) (e : Ev), es[i]? = some e → ∀ (j : Nat) (v : Value), e.cells[j]? = some v → (flatE es)[i * 3 + j]? = some v
  | [], i, e, h => by simp at h
  | x :: es, 0, e, h => by
    intro j v hv
    simp at h
    subst h
    have hj : j < 3 := by
      have := (List.getElem?_eq_some_iff.1 hv).1
      simpa [Ev.cells] using this
    show ((x.cells ++ flatE es)[0 * 3 + j]?) = _
    rw [Nat.zero_mul, Nat.zero_add, List.getElem?_append_left (by simpa [Ev.cells] using hj)]
    exact hv
  | x :: es, i + 1, e, h => by
    intro j v hv
    simp at h
    have := flatE_at es i e h j v hv
    show ((x.cells ++ flatE es)[(i + 1) * 3 + j]?) = _
    rw [List.getElem?_append_right (by simp [Ev.cells]; omega)]
    rw [show (i + 1) * 3 + j - x.cells.length = i * 3 + j by simp [Ev.cells]; omega]
    exact this
theorem rowEv_of {w : World} {g : Nat} {es : List Ev} (h : At 25 w g (flatE es)) : RowEv w (some ⟨g, 0, none⟩) es := by
  refine .inr ⟨g, 0, rfl, fun i e he j v hv => ?_⟩
  have := h.cell (i * 3 + j)
  rw [flatE_at es i e he j v hv] at this
  rw [← this, Nat.zero_add]
end Go.Proofs.Ytjedkfohmedmaaa
