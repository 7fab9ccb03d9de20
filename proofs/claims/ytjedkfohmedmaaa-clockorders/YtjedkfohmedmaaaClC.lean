/- The given answer's clocks, counted: the same. Mathematics alone. -/
import Derived.Test.YtjedkfohmedmaaaClR
namespace Go.Proofs.Ytjedkfohmedmaaa
set_option linter.unusedVariables false

/-- The event at a place. -/
def evAt (es : List Ev) (i : Nat) : Ev := es.getD i ⟨0, 0, 0⟩
theorem evAt_eq {es : List Ev} {i : Nat} {e : Ev} (h : es[i]? = some e) : evAt es i = e := by simp [evAt, List.getD, h]
/-- A clock is counted over what happens ahead, and one more at its own thread. -/
theorem clk_count (ev : Nat → Ev) (j : Nat) (t : Int) : clk ev j t = countN (fun i => hbB ev j i && decide ((ev i).th = t)) j + if (ev j).th = t then 1 else 0 := by
  rw [clk, countN]
  have e1 : countN (fun i => decide ((ev i).th = t) && (decide (i = j) || hbB ev j i)) j = countN (fun i => hbB ev j i && decide ((ev i).th = t)) j := by
    refine countN_congr j fun i hi => ?_
    rw [decide_eq_false (show ¬ i = j by omega), Bool.false_or, Bool.and_comm]
  rw [e1]
  simp
theorem countN_le (p : Nat → Bool) : ∀ n, countN p n ≤ n
  | 0 => Nat.le_refl _
  | n + 1 => by
    have := countN_le p n
    simp only [countN]
    split <;> omega
theorem clk_bound (ev : Nat → Ev) (j : Nat) (t : Int) : clk ev j t ≤ j + 1 := countN_le _ _
/-- What was worked out hangs on the events up to there alone. -/
theorem hb_congr {ev ev' : Nat → Ev} {i j : Nat} (h : ∀ k, k ≤ j → ev k = ev' k) (hb : HB ev i j) : HB ev' i j := by
  induction hb with
  | dep h1 h2 => exact .dep h1 (by rw [← h _ (by omega), ← h _ (Nat.le_refl _)]; exact h2)
  | step h0 h1 h2 ih => exact .step (ih fun k hk => h k (by omega)) h1 (by rw [← h _ (by omega), ← h _ (Nat.le_refl _)]; exact h2)
theorem hbB_congr {ev ev' : Nat → Ev} (j i : Nat) (h : ∀ k, k ≤ j → ev k = ev' k) : hbB ev j i = hbB ev' j i := by
  rw [Bool.eq_iff_iff, hbB_iff, hbB_iff]
  exact ⟨hb_congr h, hb_congr fun k hk => (h k hk).symm⟩
theorem clk_congr {ev ev' : Nat → Ev} (j : Nat) (t : Int) (h : ∀ k, k ≤ j → ev k = ev' k) : clk ev j t = clk ev' j t := by
  unfold clk
  refine countN_congr (j + 1) fun i hi => ?_
  rw [h i (by omega), hbB_congr j i h]
end Go.Proofs.Ytjedkfohmedmaaa
