/- Neighbours that do not depend on one another, changed about, keep their clocks. Mathematics alone. -/
import Derived.Test.YtjedkfohmedmaaaClX
namespace Go.Proofs.Ytjedkfohmedmaaa
set_option linter.unusedVariables false

theorem depB_comm (a b : Ev) : depB a b = depB b a := by
  have e1 : decide (a.th = b.th) = decide (b.th = a.th) := decide_eq_decide.2 eq_comm
  have e2 : decide (a.ob = b.ob) = decide (b.ob = a.ob) := decide_eq_decide.2 eq_comm
  have e3 : decide (a.kd = 2 ∨ b.kd = 2) = decide (b.kd = 2 ∨ a.kd = 2) := decide_eq_decide.2 or_comm
  unfold depB
  rw [e1, e2, e3, Bool.and_comm (decide (a.kd = 3 ∨ a.kd = 4)), Bool.and_comm (decide (a.kd = 1 ∨ a.kd = 2))]
/-- Two neighbours are changed about. -/
def sw (a i : Nat) : Nat := if i = a then a + 1 else if i = a + 1 then a else i
theorem sw_at (a : Nat) : sw a a = a + 1 := by simp [sw]
theorem sw_next (a : Nat) : sw a (a + 1) = a := by simp [sw]
theorem sw_other {a i : Nat} (h1 : i ≠ a) (h2 : i ≠ a + 1) : sw a i = i := by simp [sw, h1, h2]
theorem sw_sw (a i : Nat) : sw a (sw a i) = i := by
  by_cases h1 : i = a
  · subst h1; rw [sw_at, sw_next]
  · by_cases h2 : i = a + 1
    · subst h2; rw [sw_next, sw_at]
    · rw [sw_other h1 h2, sw_other h1 h2]
theorem sw_lt {a i j : Nat} (h : i < j) (hn : ¬ (i = a ∧ j = a + 1)) : sw a i < sw a j := by
  unfold sw
  split <;> split <;> (try split) <;> (try split) <;> omega
theorem hb_sw {ev : Nat → Ev} {a : Nat} (hd : depB (ev a) (ev (a + 1)) = false) {i j : Nat} (h : HB ev i j) : HB (fun i => ev (sw a i)) (sw a i) (sw a j) := by
  have no : ∀ i j, depB (ev i) (ev j) = true → ¬ (i = a ∧ j = a + 1) := by
    rintro i j h ⟨rfl, rfl⟩
    rw [hd] at h
    cases h
  induction h with
  | dep h1 h2 => exact .dep (sw_lt h1 (no _ _ h2)) (by simp only [sw_sw]; exact h2)
  | step _ h1 h2 ih => exact .step ih (sw_lt h1 (no _ _ h2)) (by simp only [sw_sw]; exact h2)
theorem hb_sw_iff {ev : Nat → Ev} {a : Nat} (hd : depB (ev a) (ev (a + 1)) = false) (i j : Nat) : HB (fun i => ev (sw a i)) (sw a i) (sw a j) ↔ HB ev i j := by
  refine ⟨fun h => ?_, hb_sw hd⟩
  have := hb_sw (ev := fun i => ev (sw a i)) (a := a) (by rw [sw_at, sw_next, depB_comm]; exact hd) h
  simpa only [sw_sw] using this
theorem countN_sw (p : Nat → Bool) (a : Nat) : ∀ n, a + 2 ≤ n → countN (fun i => p (sw a i)) n = countN p n
  | 0, h => by omega
  | n + 1, h => by
    by_cases hn : n = a + 1
    · subst hn
      simp only [countN]
      rw [countN_congr (p := fun i => p (sw a i)) (q := p) a fun i hi => by rw [sw_other (by omega) (by omega)]]
      simp only [sw_at, sw_next]
      omega
    · have ih := countN_sw p a n (by omega)
      simp only [countN]
      have e := sw_other (a := a) (i := n) (by omega) (by omega)
      simp only [ih, e]
/-- Changed about they keep their clocks. -/
theorem clk_sw {ev : Nat → Ev} {a : Nat} (hd : depB (ev a) (ev (a + 1)) = false) (j : Nat) (t : Int) : clk (fun i => ev (sw a i)) (sw a j) t = clk ev j t := by
  obtain ⟨n, h1, h2, h3⟩ : ∃ n, a + 2 ≤ n ∧ j < n ∧ sw a j < n := ⟨a + j + sw a j + 2, by omega, by omega, by omega⟩
  rw [clk_far _ _ n t h3, clk_far _ _ n t h2]
  rw [← countN_sw (fun k => decide ((ev (sw a k)).th = t) && (decide (k = sw a j) || hbB (fun i => ev (sw a i)) (sw a j) k)) a n h1]
  refine countN_congr n fun k hk => ?_
  have e1 : decide (sw a k = sw a j) = decide (k = j) := decide_eq_decide.2 ⟨fun h => by have := congrArg (sw a) h; rwa [sw_sw, sw_sw] at this, fun h => by rw [h]⟩
  have e2 : hbB (fun i => ev (sw a i)) (sw a j) (sw a k) = hbB ev j k := by
    rw [Bool.eq_iff_iff, hbB_iff, hbB_iff]
    exact hb_sw_iff hd k j
  simp only [sw_sw]
  rw [e1, e2]
end Go.Proofs.Ytjedkfohmedmaaa
