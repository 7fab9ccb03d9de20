/- The given answer's rows of what happens ahead, worked out from the last event back. Mathematics alone. -/
import Derived.Test.YtjedkfohmedmaaaClS
namespace Go.Proofs.Ytjedkfohmedmaaa
set_option linter.unusedVariables false

/-- Of event j: whether k is one of those on which j depends, from place i on, or happens ahead of one. -/
def rowP (ev : Nat → Ev) (j i k : Nat) : Bool := (List.range j).any fun x => decide (i ≤ x) && (depB (ev x) (ev j) && (decide (k = x) || hbB ev x k))
theorem rowP_iff {ev : Nat → Ev} {j i k : Nat} : rowP ev j i k = true ↔ ∃ x, x < j ∧ i ≤ x ∧ depB (ev x) (ev j) = true ∧ (k = x ∨ HB ev k x) := by
  unfold rowP
  simp only [List.any_eq_true, List.mem_range, Bool.and_eq_true, Bool.or_eq_true, decide_eq_true_eq, hbB_iff]
theorem rowP_start (ev : Nat → Ev) (j k : Nat) : rowP ev j j k = false := by
  rw [Bool.eq_false_iff]
  intro h
  obtain ⟨x, h1, h2, _⟩ := rowP_iff.1 h
  omega
theorem rowP_step (ev : Nat → Ev) (j i k : Nat) (hi : i < j) : rowP ev j i k = (rowP ev j (i + 1) k || (depB (ev i) (ev j) && (decide (k = i) || hbB ev i k))) := by
  rw [Bool.eq_iff_iff]
  simp only [Bool.or_eq_true, Bool.and_eq_true, decide_eq_true_eq, hbB_iff, rowP_iff]
  constructor
  · rintro ⟨x, h1, h2, h3, h4⟩
    by_cases hx : x = i
    · subst hx; exact .inr ⟨h3, h4⟩
    · exact .inl ⟨x, h1, by omega, h3, h4⟩
  · rintro (⟨x, h1, h2, h3, h4⟩ | ⟨h3, h4⟩)
    · exact ⟨x, h1, by omega, h3, h4⟩
    · exact ⟨i, hi, Nat.le_refl _, h3, h4⟩
theorem rowP_done (ev : Nat → Ev) (j k : Nat) : rowP ev j 0 k = hbB ev j k := by
  rw [Bool.eq_iff_iff, hbB_iff, rowP_iff]
  constructor
  · rintro ⟨x, h1, _, h3, rfl | h4⟩
    · exact .dep h1 h3
    · exact .step h4 h1 h3
  · intro h
    obtain ⟨x, h1, h2, h3⟩ := h.last
    exact ⟨x, h2, Nat.zero_le _, h3, h1⟩
/-- A piece that j does not depend on changes nothing. -/
theorem rowP_skip (ev : Nat → Ev) (j i k : Nat) (hi : i < j) (hd : depB (ev i) (ev j) = false) : rowP ev j i k = rowP ev j (i + 1) k := by
  rw [rowP_step ev j i k hi, hd, Bool.false_and, Bool.or_false]
/-- The piece itself; those below it; those above it. -/
theorem rowP_at (ev : Nat → Ev) (j i : Nat) (hi : i < j) (hd : depB (ev i) (ev j) = true) : rowP ev j i i = true := by
  rw [rowP_step ev j i i hi, hd]; simp
theorem rowP_below (ev : Nat → Ev) (j i k : Nat) (hi : i < j) (hk : k < i) (hd : depB (ev i) (ev j) = true) : rowP ev j i k = (rowP ev j (i + 1) k || hbB ev i k) := by
  rw [rowP_step ev j i k hi, hd, decide_eq_false (by omega)]; simp
theorem rowP_above (ev : Nat → Ev) (j i k : Nat) (hi : i < j) (hk : i < k) : rowP ev j i k = rowP ev j (i + 1) k := by
  rw [rowP_step ev j i k hi, decide_eq_false (by omega), show hbB ev i k = false from ?_]
  · simp
  · rw [Bool.eq_false_iff]
    intro h
    have := ((hbB_iff ev i k).1 h).lt
    omega
end Go.Proofs.Ytjedkfohmedmaaa
