/- Clocks are gathered by the greatest numbers of those on which an event depends. Mathematics alone. -/
import Derived.Test.YtjedkfohmedmaaaClM
namespace Go.Proofs.Ytjedkfohmedmaaa
set_option linter.unusedVariables false

/-- The greatest number at the places below n that have a property; 0 if there is none. -/
def maxN (f : Nat → Nat) (p : Nat → Bool) : Nat → Nat
  | 0 => 0
  | n + 1 => if p n then max (maxN f p n) (f n) else maxN f p n
theorem le_maxN {f : Nat → Nat} {p : Nat → Bool} : ∀ n i, i < n → p i = true → f i ≤ maxN f p n
  | 0, i, h, _ => by omega
  | n + 1, i, h, hp => by
    simp only [maxN]
    by_cases hin : i = n
    · subst hin
      rw [if_pos hp]
      exact Nat.le_max_right _ _
    · have ih := le_maxN (f := f) n i (by omega) hp
      split
      · exact Nat.le_trans ih (Nat.le_max_left _ _)
      · exact ih
theorem maxN_le {f : Nat → Nat} {p : Nat → Bool} {b : Nat} : ∀ n, (∀ i, i < n → p i = true → f i ≤ b) → maxN f p n ≤ b
  | 0, _ => Nat.zero_le _
  | n + 1, h => by
    have ih := maxN_le (f := f) (p := p) n fun i hi => h i (by omega)
    simp only [maxN]
    split
    · rename_i hp
      exact Nat.max_le.2 ⟨ih, h n (by omega) hp⟩
    · exact ih
theorem countN_zero {p : Nat → Bool} (n : Nat) (h : ∀ i, i < n → p i = false) : countN p n = 0 := countN_more 0 n (Nat.zero_le _) fun i _ hi => h i hi
/-- A clock counted up to a later place. -/
theorem clk_far (ev : Nat → Ev) (i n : Nat) (t : Int) (h : i < n) : clk ev i t = countN (fun k => decide ((ev k).th = t) && (decide (k = i) || hbB ev i k)) n := by
  refine (countN_more (i + 1) n (by omega) fun k h1 h2 => ?_).symm
  rw [show decide (k = i) = false from decide_eq_false (by omega)]
  rw [show hbB ev i k = false from ?_]
  · simp
  · rw [Bool.eq_false_iff]
    intro h
    have := ((hbB_iff ev i k).1 h).lt
    omega
/-- A clock's numbers are at least those of what happens ahead. -/
theorem clk_le {ev : Nat → Ev} {i j : Nat} (h : HB ev i j) (t : Int) : clk ev i t ≤ clk ev j t := by
  rw [clk_far ev i (j + 1) t (by have := h.lt; omega), clk]
  refine countN_mono (j + 1) fun k hk h2 => ?_
  simp only [Bool.and_eq_true, decide_eq_true_eq, Bool.or_eq_true] at h2 ⊢
  refine ⟨h2.1, .inr ((hbB_iff ev j k).2 ?_)⟩
  rcases h2.2 with rfl | h3
  · exact h
  · exact ((hbB_iff ev i k).1 h3).trans h
/-- Of its own thread all earlier ones happen ahead. -/
theorem clk_own (ev : Nat → Ev) (j : Nat) : clk ev j (ev j).th = countN (fun i => decide ((ev i).th = (ev j).th)) j + 1 := by
  rw [clk, countN]
  simp only [decide_true, Bool.true_or, Bool.and_true, if_pos, Nat.add_right_cancel_iff]
  refine countN_congr j fun i hi => ?_
  by_cases h : (ev i).th = (ev j).th
  · rw [(hbB_iff ev j i).2 (HB.same hi h)]
    simp
  · simp [h]
/-- The last place below n with a property. -/
theorem last_of {p : Nat → Bool} : ∀ n, (∃ i, i < n ∧ p i = true) → ∃ i, i < n ∧ p i = true ∧ ∀ k, i < k → k < n → p k = false
  | 0, ⟨i, h, _⟩ => by omega
  | n + 1, ⟨i, h, hp⟩ => by
    by_cases hn : p n = true
    · exact ⟨n, by omega, hn, fun k h1 h2 => by omega⟩
    · have hin : i ≠ n := fun e => hn (e ▸ hp)
      obtain ⟨m, h1, h2, h3⟩ := last_of n ⟨i, by omega, hp⟩
      refine ⟨m, by omega, h2, fun k h4 h5 => ?_⟩
      by_cases hk : k = n
      · subst hk; exact Bool.eq_false_iff.2 hn
      · exact h3 k h4 (by omega)
/-- Of another thread the clock's number is the greatest in the clocks on which the event depends. -/
theorem clk_max (ev : Nat → Ev) (j : Nat) (t : Int) (ht : t ≠ (ev j).th) : clk ev j t = maxN (fun i => clk ev i t) (fun i => depB (ev i) (ev j)) j := by
  apply Nat.le_antisymm
  · by_cases hex : ∃ i, i < j ∧ (decide ((ev i).th = t) && hbB ev j i) = true
    · obtain ⟨m, h1, h2, h3⟩ := last_of j hex
      simp only [Bool.and_eq_true, decide_eq_true_eq] at h2
      obtain ⟨k, h4, h5, h6⟩ := ((hbB_iff ev j m).1 h2.2).last
      refine Nat.le_trans ?_ (le_maxN j k h5 h6)
      show clk ev j t ≤ clk ev k t
      rw [clk_far ev k (j + 1) t (by omega), clk]
      refine countN_mono (j + 1) fun i hi h => ?_
      simp only [Bool.and_eq_true, decide_eq_true_eq, Bool.or_eq_true] at h ⊢
      refine ⟨h.1, ?_⟩
      rcases h.2 with rfl | h7
      · exact absurd h.1.symm ht
      · have hij := ((hbB_iff ev j i).1 h7).lt
        have him : i ≤ m := by
          apply Decidable.byContradiction
          intro hn
          have := h3 i (by omega) hij
          rw [h.1, decide_eq_true rfl, h7] at this
          cases this
        have hmk : m = k ∨ HB ev m k := h4
        rcases Nat.lt_or_ge i m with h8 | h8
        · have h9 : HB ev i m := HB.same h8 (h.1.trans h2.1.symm)
          rcases hmk with rfl | h10
          · exact .inr ((hbB_iff ev m i).2 h9)
          · exact .inr ((hbB_iff ev k i).2 (h9.trans h10))
        · obtain rfl : i = m := by omega
          rcases hmk with rfl | h10
          · exact .inl rfl
          · exact .inr ((hbB_iff ev k i).2 h10)
    · have : clk ev j t = 0 := by
        rw [clk]
        refine countN_zero (j + 1) fun i hi => ?_
        by_cases hij : i = j
        · subst hij
          rw [decide_eq_false (fun h => ht h.symm)]
          rfl
        · rw [decide_eq_false hij, Bool.false_or]
          exact Bool.eq_false_iff.2 fun h => hex ⟨i, by omega, h⟩
      rw [this]
      exact Nat.zero_le _
  · exact maxN_le j fun i hi hd => clk_le (.dep hi hd) t
end Go.Proofs.Ytjedkfohmedmaaa
