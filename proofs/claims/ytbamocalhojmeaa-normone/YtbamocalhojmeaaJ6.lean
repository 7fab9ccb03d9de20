/- Joined texts of the proof. -/
import Derived.Test.YtbamocalhojmeaaJ5

/- What happens ahead of what: the order, and what clocks tell of it. Mathematics alone. -/
namespace Go.Proofs.Ytbamocalhojmeaa
set_option linter.unusedVariables false

/-- Event i happens ahead of event j. -/
inductive HB (ev : Nat → Ev) : Nat → Nat → Prop
  | dep {i j : Nat} : i < j → depB (ev i) (ev j) = true → HB ev i j
  | step {i k j : Nat} : HB ev i k → k < j → depB (ev k) (ev j) = true → HB ev i j
theorem HB.lt {ev : Nat → Ev} {i j : Nat} (h : HB ev i j) : i < j := by
  induction h with
  | dep h _ => exact h
  | step _ h _ ih => omega
theorem HB.trans {ev : Nat → Ev} {i k j : Nat} (h : HB ev i k) (h2 : HB ev k j) : HB ev i j := by
  induction h2 with
  | dep h1 h2 => exact .step h h1 h2
  | step _ h1 h2 ih => exact .step ih h1 h2
theorem dep_same {a b : Ev} (h : a.th = b.th) : depB a b = true := by simp [depB, h]
/-- Of one thread the earlier happens ahead. -/
theorem HB.same {ev : Nat → Ev} {i j : Nat} (h : i < j) (ht : (ev i).th = (ev j).th) : HB ev i j := .dep h (dep_same ht)
/-- What happens ahead of j, of a thread, is a beginning of that thread's events. -/
theorem HB.down {ev : Nat → Ev} {i i' j : Nat} (h : HB ev i j) (hi : i' ≤ i) (ht : (ev i').th = (ev i).th) : HB ev i' j := by
  rcases Nat.lt_or_ge i' i with h1 | h1
  · exact (HB.same h1 ht).trans h
  · obtain rfl : i' = i := by omega
    exact h
/-- The last step. -/
theorem HB.last {ev : Nat → Ev} {i j : Nat} (h : HB ev i j) : ∃ k, (i = k ∨ HB ev i k) ∧ k < j ∧ depB (ev k) (ev j) = true := by
  cases h with
  | dep h1 h2 => exact ⟨i, .inl rfl, h1, h2⟩
  | step h0 h1 h2 => exact ⟨_, .inr h0, h1, h2⟩
/-- The same, worked out. -/
def hbB (ev : Nat → Ev) (j i : Nat) : Bool :=
  decide (i < j) && (depB (ev i) (ev j) || (List.range j).attach.any fun k => hbB ev k.1 i && depB (ev k.1) (ev j))
termination_by j
decreasing_by have := List.mem_range.1 k.2; omega
theorem hbB_iff (ev : Nat → Ev) (j : Nat) : ∀ i, hbB ev j i = true ↔ HB ev i j := by
  induction j using Nat.strongRecOn with
  | _ j ih =>
    intro i
    rw [hbB]
    simp only [Bool.and_eq_true, decide_eq_true_eq, Bool.or_eq_true, List.any_eq_true]
    constructor
    · rintro ⟨h1, h2 | ⟨⟨k, hk⟩, _, h3, h4⟩⟩
      · exact .dep h1 h2
      · have hk' := List.mem_range.1 hk
        exact .step ((ih k hk' i).1 h3) hk' h4
    · intro h
      refine ⟨h.lt, ?_⟩
      obtain ⟨k, h0 | h0, h1, h2⟩ := h.last
      · subst h0; exact .inl h2
      · exact .inr ⟨⟨k, List.mem_range.2 h1⟩, List.mem_attach _ _, (ih k h1 i).2 h0, h2⟩
instance (ev : Nat → Ev) (i j : Nat) : Decidable (HB ev i j) := decidable_of_iff _ (hbB_iff ev j i)

/-- How many places below n have a property. -/
def countN (p : Nat → Bool) : Nat → Nat
  | 0 => 0
  | n + 1 => countN p n + if p n then 1 else 0
theorem countN_mono {p q : Nat → Bool} : ∀ n, (∀ i, i < n → p i = true → q i = true) → countN p n ≤ countN q n
  | 0, _ => Nat.le_refl _
  | n + 1, h => by
    have ih := countN_mono n fun i hi => h i (by omega)
    have h1 := h n (by omega)
    simp only [countN]
    by_cases hp : p n = true
    · rw [if_pos hp, if_pos (h1 hp)]; omega
    · rw [if_neg hp]; omega
theorem countN_lt {p q : Nat → Bool} : ∀ n, (∀ i, i < n → p i = true → q i = true) → ∀ k, k < n → p k = false → q k = true → countN p n < countN q n
  | 0, _, k, hk, _, _ => by omega
  | n + 1, h, k, hk, h1, h2 => by
    have h3 := h n (by omega)
    simp only [countN]
    by_cases hkn : k = n
    · subst hkn
      have := countN_mono (p := p) (q := q) k fun i hi => h i (by omega)
      rw [h1, h2]
      simp
      omega
    · have ih := countN_lt n (fun i hi => h i (by omega)) k (by omega) h1 h2
      by_cases hp : p n = true
      · rw [if_pos hp, if_pos (h3 hp)]; omega
      · rw [if_neg hp]; omega
theorem countN_congr {p q : Nat → Bool} (n : Nat) (h : ∀ i, i < n → p i = q i) : countN p n = countN q n :=
  Nat.le_antisymm (countN_mono n fun i hi hp => by rw [← h i hi]; exact hp) (countN_mono n fun i hi hp => by rw [h i hi]; exact hp)
theorem countN_more {p : Nat → Bool} (n m : Nat) (hnm : n ≤ m) (h : ∀ i, n ≤ i → i < m → p i = false) : countN p m = countN p n := by
  induction m with
  | zero => obtain rfl : n = 0 := by omega
            rfl
  | succ m ih =>
    rcases Nat.lt_or_ge m n with h1 | h1
    · obtain rfl : n = m + 1 := by omega
      rfl
    · rw [countN, h m h1 (by omega), ih h1 fun i hi hm => h i hi (by omega)]
      rfl

/-- An event's clock: of each thread how many of its events happen ahead of it, itself among its own. -/
def clk (ev : Nat → Ev) (j : Nat) (t : Int) : Nat := countN (fun i => decide ((ev i).th = t) && (decide (i = j) || hbB ev j i)) (j + 1)

/-- By the clocks just what happens ahead is told. -/
theorem clk_tells (ev : Nat → Ev) (i j : Nat) (hij : i < j) : clk ev i (ev i).th ≤ clk ev j (ev i).th ↔ HB ev i j := by
  have hi : clk ev i (ev i).th = countN (fun k => decide ((ev k).th = (ev i).th) && (decide (k = i) || hbB ev i k)) (j + 1) := by
    refine (countN_more (i + 1) (j + 1) (by omega) fun k h1 h2 => ?_).symm
    rw [show decide (k = i) = false from decide_eq_false (by omega)]
    rw [show hbB ev i k = false from ?_]
    · simp
    · rw [Bool.eq_false_iff]
      intro h
      have := ((hbB_iff ev i k).1 h).lt
      omega
  rw [hi, clk]
  constructor
  · intro hle
    apply Decidable.byContradiction
    intro hn
    have : countN (fun k => decide ((ev k).th = (ev i).th) && (decide (k = j) || hbB ev j k)) (j + 1) < countN (fun k => decide ((ev k).th = (ev i).th) && (decide (k = i) || hbB ev i k)) (j + 1) := by
      refine countN_lt (j + 1) (fun k hk h => ?_) i (by omega) ?_ ?_
      · simp only [Bool.and_eq_true, decide_eq_true_eq, Bool.or_eq_true] at h ⊢
        refine ⟨h.1, ?_⟩
        rcases h.2 with rfl | h2
        · exact absurd (HB.same hij h.1.symm) hn
        · have hk2 := (hbB_iff ev j k).1 h2
          rcases Nat.lt_trichotomy k i with h3 | h3 | h3
          · exact .inr ((hbB_iff ev i k).2 (HB.same h3 h.1))
          · exact .inl h3
          · exact absurd (hk2.down (by omega) h.1.symm) hn
      · simp only [Bool.and_eq_false_iff, Bool.or_eq_false_iff, decide_eq_false_iff_not]
        right
        exact ⟨by omega, Bool.eq_false_iff.2 fun h => hn ((hbB_iff ev j i).1 h)⟩
      · simp
    omega
  · intro h
    refine countN_mono (j + 1) fun k hk h2 => ?_
    simp only [Bool.and_eq_true, decide_eq_true_eq, Bool.or_eq_true] at h2 ⊢
    refine ⟨h2.1, .inr ((hbB_iff ev j k).2 ?_)⟩
    rcases h2.2 with rfl | h3
    · exact h
    · exact ((hbB_iff ev i k).1 h3).trans h
end Go.Proofs.Ytbamocalhojmeaa

/- Clocks are gathered by the greatest numbers of those on which an event depends. Mathematics alone. -/
namespace Go.Proofs.Ytbamocalhojmeaa
set_option linter.unusedVariables false

/-- The greatest number at the places below n that have a property; 0 if there is none. -/
def maxN (f : Nat → Nat) (p : Nat → Bool) : Nat → Nat
  | 0 => 0
  | n + 1 => if p n then max (maxN f p n) (f n) else maxN f p n
theorem le_maxN {f : Nat → Nat} {p : Nat → Bool} : ∀ n i, i < n → p i = true → f i ≤ maxN f p n
  | 0, i, h, _ => by omega
  | n + 1, i, h, hp => by
    simp only [maxN]
    by_cases hin : i = n
    · subst hin
      rw [if_pos hp]
      exact Nat.le_max_right _ _
    · have ih := le_maxN (f := f) n i (by omega) hp
      split
      · exact Nat.le_trans ih (Nat.le_max_left _ _)
      · exact ih
theorem maxN_le {f : Nat → Nat} {p : Nat → Bool} {b : Nat} : ∀ n, (∀ i, i < n → p i = true → f i ≤ b) → maxN f p n ≤ b
  | 0, _ => Nat.zero_le _
  | n + 1, h => by
    have ih := maxN_le (f := f) (p := p) n fun i hi => h i (by omega)
    simp only [maxN]
    split
    · rename_i hp
      exact Nat.max_le.2 ⟨ih, h n (by omega) hp⟩
    · exact ih
theorem countN_zero {p : Nat → Bool} (n : Nat) (h : ∀ i, i < n → p i = false) : countN p n = 0 := countN_more 0 n (Nat.zero_le _) fun i _ hi => h i hi
/-- A clock counted up to a later place. -/
theorem clk_far (ev : Nat → Ev) (i n : Nat) (t : Int) (h : i < n) : clk ev i t = countN (fun k => decide ((ev k).th = t) && (decide (k = i) || hbB ev i k)) n := by
  refine (countN_more (i + 1) n (by omega) fun k h1 h2 => ?_).symm
  rw [show decide (k = i) = false from decide_eq_false (by omega)]
  rw [show hbB ev i k = false from ?_]
  · simp
  · rw [Bool.eq_false_iff]
    intro h
    have := ((hbB_iff ev i k).1 h).lt
    omega
/-- A clock's numbers are at least those of what happens ahead. -/
theorem clk_le {ev : Nat → Ev} {i j : Nat} (h : HB ev i j) (t : Int) : clk ev i t ≤ clk ev j t := by
  rw [clk_far ev i (j + 1) t (by have := h.lt; omega), clk]
  refine countN_mono (j + 1) fun k hk h2 => ?_
  simp only [Bool.and_eq_true, decide_eq_true_eq, Bool.or_eq_true] at h2 ⊢
  refine ⟨h2.1, .inr ((hbB_iff ev j k).2 ?_)⟩
  rcases h2.2 with rfl | h3
  · exact h
  · exact ((hbB_iff ev i k).1 h3).trans h
/-- Of its own thread all earlier ones happen ahead. -/
theorem clk_own (ev : Nat → Ev) (j : Nat) : clk ev j (ev j).th = countN (fun i => decide ((ev i).th = (ev j).th)) j + 1 := by
  rw [clk, countN]
  simp only [decide_true, Bool.true_or, Bool.and_true, if_pos, Nat.add_right_cancel_iff]
  refine countN_congr j fun i hi => ?_
  by_cases h : (ev i).th = (ev j).th
  · rw [(hbB_iff ev j i).2 (HB.same hi h)]
    simp
  · simp [h]
/-- The last place below n with a property. -/
theorem last_of {p : Nat → Bool} : ∀ n, (∃ i, i < n ∧ p i = true) → ∃ i, i < n ∧ p i = true ∧ ∀ k, i < k → k < n → p k = false
  | 0, ⟨i, h, _⟩ => by omega
  | n + 1, ⟨i, h, hp⟩ => by
    by_cases hn : p n = true
    · exact ⟨n, by omega, hn, fun k h1 h2 => by omega⟩
    · have hin : i ≠ n := fun e => hn (e ▸ hp)
      obtain ⟨m, h1, h2, h3⟩ := last_of n ⟨i, by omega, hp⟩
      refine ⟨m, by omega, h2, fun k h4 h5 => ?_⟩
      by_cases hk : k = n
      · subst hk; exact Bool.eq_false_iff.2 hn
      · exact h3 k h4 (by omega)
/-- Of another thread the clock's number is the greatest in the clocks on which the event depends. -/
theorem clk_max (ev : Nat → Ev) (j : Nat) (t : Int) (ht : t ≠ (ev j).th) : clk ev j t = maxN (fun i => clk ev i t) (fun i => depB (ev i) (ev j)) j := by
  apply Nat.le_antisymm
  · by_cases hex : ∃ i, i < j ∧ (decide ((ev i).th = t) && hbB ev j i) = true
    · obtain ⟨m, h1, h2, h3⟩ := last_of j hex
      simp only [Bool.and_eq_true, decide_eq_true_eq] at h2
      obtain ⟨k, h4, h5, h6⟩ := ((hbB_iff ev j m).1 h2.2).last
      refine Nat.le_trans ?_ (le_maxN j k h5 h6)
      show clk ev j t ≤ clk ev k t
      rw [clk_far ev k (j + 1) t (by omega), clk]
      refine countN_mono (j + 1) fun i hi h => ?_
      simp only [Bool.and_eq_true, decide_eq_true_eq, Bool.or_eq_true] at h ⊢
      refine ⟨h.1, ?_⟩
      rcases h.2 with rfl | h7
      · exact absurd h.1.symm ht
      · have hij := ((hbB_iff ev j i).1 h7).lt
        have him : i ≤ m := by
          apply Decidable.byContradiction
          intro hn
          have := h3 i (by omega) hij
          rw [h.1, decide_eq_true rfl, h7] at this
          cases this
        have hmk : m = k ∨ HB ev m k := h4
        rcases Nat.lt_or_ge i m with h8 | h8
        · have h9 : HB ev i m := HB.same h8 (h.1.trans h2.1.symm)
          rcases hmk with rfl | h10
          · exact .inr ((hbB_iff ev m i).2 h9)
          · exact .inr ((hbB_iff ev k i).2 (h9.trans h10))
        · obtain rfl : i = m := by omega
          rcases hmk with rfl | h10
          · exact .inl rfl
          · exact .inr ((hbB_iff ev k i).2 h10)
    · have : clk ev j t = 0 := by
        rw [clk]
        refine countN_zero (j + 1) fun i hi => ?_
        by_cases hij : i = j
        · subst hij
          rw [decide_eq_false (fun h => ht h.symm)]
          rfl
        · rw [decide_eq_false hij, Bool.false_or]
          exact Bool.eq_false_iff.2 fun h => hex ⟨i, by omega, h⟩
      rw [this]
      exact Nat.zero_le _
  · exact maxN_le j fun i hi hd => clk_le (.dep hi hd) t
end Go.Proofs.Ytbamocalhojmeaa

/- Neighbours that do not depend on one another, changed about, keep their clocks. Mathematics alone. -/
namespace Go.Proofs.Ytbamocalhojmeaa
set_option linter.unusedVariables false

theorem depB_comm (a b : Ev) : depB a b = depB b a := by
  have e1 : decide (a.th = b.th) = decide (b.th = a.th) := decide_eq_decide.2 eq_comm
  have e2 : decide (a.ob = b.ob) = decide (b.ob = a.ob) := decide_eq_decide.2 eq_comm
  have e3 : decide (a.kd = 2 ∨ b.kd = 2) = decide (b.kd = 2 ∨ a.kd = 2) := decide_eq_decide.2 or_comm
  unfold depB
  rw [e1, e2, e3, Bool.and_comm (decide (a.kd = 3 ∨ a.kd = 4)), Bool.and_comm (decide (a.kd = 1 ∨ a.kd = 2))]
/-- Two neighbours are changed about. -/
def sw (a i : Nat) : Nat := if i = a then a + 1 else if i = a + 1 then a else i
theorem sw_at (a : Nat) : sw a a = a + 1 := by simp [sw]
theorem sw_next (a : Nat) : sw a (a + 1) = a := by simp [sw]
theorem sw_other {a i : Nat} (h1 : i ≠ a) (h2 : i ≠ a + 1) : sw a i = i := by simp [sw, h1, h2]
theorem sw_sw (a i : Nat) : sw a (sw a i) = i := by
  by_cases h1 : i = a
  · subst h1; rw [sw_at, sw_next]
  · by_cases h2 : i = a + 1
    · subst h2; rw [sw_next, sw_at]
    · rw [sw_other h1 h2, sw_other h1 h2]
theorem sw_lt {a i j : Nat} (h : i < j) (hn : ¬ (i = a ∧ j = a + 1)) : sw a i < sw a j := by
  unfold sw
  split <;> split <;> (try split) <;> (try split) <;> omega
theorem hb_sw {ev : Nat → Ev} {a : Nat} (hd : depB (ev a) (ev (a + 1)) = false) {i j : Nat} (h : HB ev i j) : HB (fun i => ev (sw a i)) (sw a i) (sw a j) := by
  have no : ∀ i j, depB (ev i) (ev j) = true → ¬ (i = a ∧ j = a + 1) := by
    rintro i j h ⟨rfl, rfl⟩
    rw [hd] at h
    cases h
  induction h with
  | dep h1 h2 => exact .dep (sw_lt h1 (no _ _ h2)) (by simp only [sw_sw]; exact h2)
  | step _ h1 h2 ih => exact .step ih (sw_lt h1 (no _ _ h2)) (by simp only [sw_sw]; exact h2)
theorem hb_sw_iff {ev : Nat → Ev} {a : Nat} (hd : depB (ev a) (ev (a + 1)) = false) (i j : Nat) : HB (fun i => ev (sw a i)) (sw a i) (sw a j) ↔ HB ev i j := by
  refine ⟨fun h => ?_, hb_sw hd⟩
  have := hb_sw (ev := fun i => ev (sw a i)) (a := a) (by rw [sw_at, sw_next, depB_comm]; exact hd) h
  simpa only [sw_sw] using this
theorem countN_sw (p : Nat → Bool) (a : Nat) : ∀ n, a + 2 ≤ n → countN (fun i => p (sw a i)) n = countN p n
  | 0, h => by omega
  | n + 1, h => by
    by_cases hn : n = a + 1
    · subst hn
      simp only [countN]
      rw [countN_congr (p := fun i => p (sw a i)) (q := p) a fun i hi => by rw [sw_other (by omega) (by omega)]]
      simp only [sw_at, sw_next]
      omega
    · have ih := countN_sw p a n (by omega)
      simp only [countN]
      have e := sw_other (a := a) (i := n) (by omega) (by omega)
      simp only [ih, e]
/-- Changed about they keep their clocks. -/
theorem clk_sw {ev : Nat → Ev} {a : Nat} (hd : depB (ev a) (ev (a + 1)) = false) (j : Nat) (t : Int) : clk (fun i => ev (sw a i)) (sw a j) t = clk ev j t := by
  obtain ⟨n, h1, h2, h3⟩ : ∃ n, a + 2 ≤ n ∧ j < n ∧ sw a j < n := ⟨a + j + sw a j + 2, by omega, by omega, by omega⟩
  rw [clk_far _ _ n t h3, clk_far _ _ n t h2]
  rw [← countN_sw (fun k => decide ((ev (sw a k)).th = t) && (decide (k = sw a j) || hbB (fun i => ev (sw a i)) (sw a j) k)) a n h1]
  refine countN_congr n fun k hk => ?_
  have e1 : decide (sw a k = sw a j) = decide (k = j) := decide_eq_decide.2 ⟨fun h => by have := congrArg (sw a) h; rwa [sw_sw, sw_sw] at this, fun h => by rw [h]⟩
  have e2 : hbB (fun i => ev (sw a i)) (sw a j) (sw a k) = hbB ev j k := by
    rw [Bool.eq_iff_iff, hbB_iff, hbB_iff]
    exact hb_sw_iff hd k j
  simp only [sw_sw]
  rw [e1, e2]
end Go.Proofs.Ytbamocalhojmeaa

/- The given answer's rows of what happens ahead, worked out from the last event back. Mathematics alone. -/
namespace Go.Proofs.Ytbamocalhojmeaa
set_option linter.unusedVariables false

/-- Of event j: whether k is one of those on which j depends, from place i on, or happens ahead of one. -/
def rowP (ev : Nat → Ev) (j i k : Nat) : Bool := (List.range j).any fun x => decide (i ≤ x) && (depB (ev x) (ev j) && (decide (k = x) || hbB ev x k))
theorem rowP_iff {ev : Nat → Ev} {j i k : Nat} : rowP ev j i k = true ↔ ∃ x, x < j ∧ i ≤ x ∧ depB (ev x) (ev j) = true ∧ (k = x ∨ HB ev k x) := by
  unfold rowP
  simp only [List.any_eq_true, List.mem_range, Bool.and_eq_true, Bool.or_eq_true, decide_eq_true_eq, hbB_iff]
theorem rowP_start (ev : Nat → Ev) (j k : Nat) : rowP ev j j k = false := by
  rw [Bool.eq_false_iff]
  intro h
  obtain ⟨x, h1, h2, _⟩ := rowP_iff.1 h
  omega
theorem rowP_step (ev : Nat → Ev) (j i k : Nat) (hi : i < j) : rowP ev j i k = (rowP ev j (i + 1) k || (depB (ev i) (ev j) && (decide (k = i) || hbB ev i k))) := by
  rw [Bool.eq_iff_iff]
  simp only [Bool.or_eq_true, Bool.and_eq_true, decide_eq_true_eq, hbB_iff, rowP_iff]
  constructor
  · rintro ⟨x, h1, h2, h3, h4⟩
    by_cases hx : x = i
    · subst hx; exact .inr ⟨h3, h4⟩
    · exact .inl ⟨x, h1, by omega, h3, h4⟩
  · rintro (⟨x, h1, h2, h3, h4⟩ | ⟨h3, h4⟩)
    · exact ⟨x, h1, by omega, h3, h4⟩
    · exact ⟨i, hi, Nat.le_refl _, h3, h4⟩
theorem rowP_done (ev : Nat → Ev) (j k : Nat) : rowP ev j 0 k = hbB ev j k := by
  rw [Bool.eq_iff_iff, hbB_iff, rowP_iff]
  constructor
  · rintro ⟨x, h1, _, h3, rfl | h4⟩
    · exact .dep h1 h3
    · exact .step h4 h1 h3
  · intro h
    obtain ⟨x, h1, h2, h3⟩ := h.last
    exact ⟨x, h2, Nat.zero_le _, h3, h1⟩
/-- A piece that j does not depend on changes nothing. -/
theorem rowP_skip (ev : Nat → Ev) (j i k : Nat) (hi : i < j) (hd : depB (ev i) (ev j) = false) : rowP ev j i k = rowP ev j (i + 1) k := by
  rw [rowP_step ev j i k hi, hd, Bool.false_and, Bool.or_false]
/-- The piece itself; those below it; those above it. -/
theorem rowP_at (ev : Nat → Ev) (j i : Nat) (hi : i < j) (hd : depB (ev i) (ev j) = true) : rowP ev j i i = true := by
  rw [rowP_step ev j i i hi, hd]; simp
theorem rowP_below (ev : Nat → Ev) (j i k : Nat) (hi : i < j) (hk : k < i) (hd : depB (ev i) (ev j) = true) : rowP ev j i k = (rowP ev j (i + 1) k || hbB ev i k) := by
  rw [rowP_step ev j i k hi, hd, decide_eq_false (by omega)]; simp
theorem rowP_above (ev : Nat → Ev) (j i k : Nat) (hi : i < j) (hk : i < k) : rowP ev j i k = rowP ev j (i + 1) k := by
  rw [rowP_step ev j i k hi, decide_eq_false (by omega), show hbB ev i k = false from ?_]
  · simp
  · rw [Bool.eq_false_iff]
    intro h
    have := ((hbB_iff ev i k).1 h).lt
    omega
end Go.Proofs.Ytbamocalhojmeaa

/- The given answer's clocks, counted: the same. Mathematics alone. -/
namespace Go.Proofs.Ytbamocalhojmeaa
set_option linter.unusedVariables false

/-- The event at a place. -/
def evAt (es : List Ev) (i : Nat) : Ev := es.getD i ⟨0, 0, 0⟩
theorem evAt_eq {es : List Ev} {i : Nat} {e : Ev} (h : es[i]? = some e) : evAt es i = e := by simp [evAt, List.getD, h]
/-- A clock is counted over what happens ahead, and one more at its own thread. -/
theorem clk_count (ev : Nat → Ev) (j : Nat) (t : Int) : clk ev j t = countN (fun i => hbB ev j i && decide ((ev i).th = t)) j + if (ev j).th = t then 1 else 0 := by
  rw [clk, countN]
  have e1 : countN (fun i => decide ((ev i).th = t) && (decide (i = j) || hbB ev j i)) j = countN (fun i => hbB ev j i && decide ((ev i).th = t)) j := by
    refine countN_congr j fun i hi => ?_
    rw [decide_eq_false (show ¬ i = j by omega), Bool.false_or, Bool.and_comm]
  rw [e1]
  simp
theorem countN_le (p : Nat → Bool) : ∀ n, countN p n ≤ n
  | 0 => Nat.le_refl _
  | n + 1 => by
    have := countN_le p n
    simp only [countN]
    split <;> omega
theorem clk_bound (ev : Nat → Ev) (j : Nat) (t : Int) : clk ev j t ≤ j + 1 := countN_le _ _
/-- What was worked out hangs on the events up to there alone. -/
theorem hb_congr {ev ev' : Nat → Ev} {i j : Nat} (h : ∀ k, k ≤ j → ev k = ev' k) (hb : HB ev i j) : HB ev' i j := by
  induction hb with
  | dep h1 h2 => exact .dep h1 (by rw [← h _ (by omega), ← h _ (Nat.le_refl _)]; exact h2)
  | step h0 h1 h2 ih => exact .step (ih fun k hk => h k (by omega)) h1 (by rw [← h _ (by omega), ← h _ (Nat.le_refl _)]; exact h2)
theorem hbB_congr {ev ev' : Nat → Ev} (j i : Nat) (h : ∀ k, k ≤ j → ev k = ev' k) : hbB ev j i = hbB ev' j i := by
  rw [Bool.eq_iff_iff, hbB_iff, hbB_iff]
  exact ⟨hb_congr h, hb_congr fun k hk => (h k hk).symm⟩
theorem clk_congr {ev ev' : Nat → Ev} (j : Nat) (t : Int) (h : ∀ k, k ≤ j → ev k = ev' k) : clk ev j t = clk ev' j t := by
  unfold clk
  refine countN_congr (j + 1) fun i hi => ?_
  rw [h i (by omega), hbB_congr j i h]
end Go.Proofs.Ytbamocalhojmeaa
