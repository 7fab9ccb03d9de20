/- What happens ahead of what: the order, and what clocks tell of it. Mathematics alone. -/
import Derived.Test.YtjedkfohmedmaaaDpB
namespace Go.Proofs.Ytjedkfohmedmaaa
set_option linter.unusedVariables false

/-- Event i happens ahead of event j. -/
inductive HB (ev : Nat → Ev) : Nat → Nat → Prop
  | dep {i j : Nat} : i < j → depB (ev i) (ev j) = true → HB ev i j
  | step {i k j : Nat} : HB ev i k → k < j → depB (ev k) (ev j) = true → HB ev i j
theorem HB.lt {ev : Nat → Ev} {i j : Nat} (h : HB ev i j) : i < j := by
  induction h with
  | dep h _ => exact h
  | step _ h _ ih => omega
theorem HB.trans {ev : Nat → Ev} {i k j : Nat} (h : HB ev i k) (h2 : HB ev k j) : HB ev i j := by
  induction h2 with
  | dep h1 h2 => exact .step h h1 h2
  | step _ h1 h2 ih => exact .step ih h1 h2
theorem dep_same {a b : Ev} (h : a.th = b.th) : depB a b = true := by simp [depB, h]
/-- Of one thread the earlier happens ahead. -/
theorem HB.same {ev : Nat → Ev} {i j : Nat} (h : i < j) (ht : (ev i).th = (ev j).th) : HB ev i j := .dep h (dep_same ht)
/-- What happens ahead of j, of a thread, is a beginning of that thread's events. -/
theorem HB.down {ev : Nat → Ev} {i i' j : Nat} (h : HB ev i j) (hi : i' ≤ i) (ht : (ev i').th = (ev i).th) : HB ev i' j := by
  rcases Nat.lt_or_ge i' i with h1 | h1
  · exact (HB.same h1 ht).trans h
  · obtain rfl : i' = i := by omega
    exact h
/-- The last step. -/
theorem HB.last {ev : Nat → Ev} {i j : Nat} (h : HB ev i j) : ∃ k, (i = k ∨ HB ev i k) ∧ k < j ∧ depB (ev k) (ev j) = true := by
  cases h with
  | dep h1 h2 => exact ⟨i, .inl rfl, h1, h2⟩
  | step h0 h1 h2 => exact ⟨_, .inr h0, h1, h2⟩
/-- The same, worked out. -/
def hbB (ev : Nat → Ev) (j i : Nat) : Bool :=
  decide (i < j) && (depB (ev i) (ev j) || (List.range j).attach.any fun k => hbB ev k.1 i && depB (ev k.1) (ev j))
termination_by j
decreasing_by have := List.mem_range.1 k.2; omega
theorem hbB_iff (ev : Nat → Ev) (j : Nat) : ∀ i, hbB ev j i = true ↔ HB ev i j := by
  induction j using Nat.strongRecOn with
  | _ j ih =>
    intro i
    rw [hbB]
    simp only [Bool.and_eq_true, decide_eq_true_eq, Bool.or_eq_true, List.any_eq_true]
    constructor
    · rintro ⟨h1, h2 | ⟨⟨k, hk⟩, _, h3, h4⟩⟩
      · exact .dep h1 h2
      · have hk' := List.mem_range.1 hk
        exact .step ((ih k hk' i).1 h3) hk' h4
    · intro h
      refine ⟨h.lt, ?_⟩
      obtain ⟨k, h0 | h0, h1, h2⟩ := h.last
      · subst h0; exact .inl h2
      · exact .inr ⟨⟨k, List.mem_range.2 h1⟩, List.mem_attach _ _, (ih k h1 i).2 h0, h2⟩
instance (ev : Nat → Ev) (i j : Nat) : Decidable (HB ev i j) := decidable_of_iff _ (hbB_iff ev j i)

/-- How many places below n have a property. -/
def countN (p : Nat → Bool) : Nat → Nat
  | 0 => 0
  | n + 1 => countN p n + if p n then 1 else 0
theorem countN_mono {p q : Nat → Bool} : ∀ n, (∀ i, i < n → p i = true → q i = true) → countN p n ≤ countN q n
  | 0, _ => Nat.le_refl _
  | n + 1, h => by
    have ih := countN_mono n fun i hi => h i (by omega)
    have h1 := h n (by omega)
    simp only [countN]
    by_cases hp : p n = true
    · rw [if_pos hp, if_pos (h1 hp)]; omega
    · rw [if_neg hp]; omega
theorem countN_lt {p q : Nat → Bool} : ∀ n, (∀ i, i < n → p i = true → q i = true) → ∀ k, k < n → p k = false → q k = true → countN p n < countN q n
  | 0, _, k, hk, _, _ => by omega
  | n + 1, h, k, hk, h1, h2 => by
    have h3 := h n (by omega)
    simp only [countN]
    by_cases hkn : k = n
    · subst hkn
      have := countN_mono (p := p) (q := q) k fun i hi => h i (by omega)
      rw [h1, h2]
      simp
      omega
    · have ih := countN_lt n (fun i hi => h i (by omega)) k (by omega) h1 h2
      by_cases hp : p n = true
      · rw [if_pos hp, if_pos (h3 hp)]; omega
      · rw [if_neg hp]; omega
theorem countN_congr {p q : Nat → Bool} (n : Nat) (h : ∀ i, i < n → p i = q i) : countN p n = countN q n :=
  Nat.le_antisymm (countN_mono n fun i hi hp => by rw [← h i hi]; exact hp) (countN_mono n fun i hi hp => by rw [h i hi]; exact hp)
theorem countN_more {p : Nat → Bool} (n m : Nat) (hnm : n ≤ m) (h : ∀ i, n ≤ i → i < m → p i = false) : countN p m = countN p n := by
  induction m with
  | zero => obtain rfl : n = 0 := by omega
            rfl
  | succ m ih =>
    rcases Nat.lt_or_ge m n with h1 | h1
    · obtain rfl : n = m + 1 := by omega
      rfl
    · rw [countN, h m h1 (by omega), ih h1 fun i hi hm => h i hi (by omega)]
      rfl

/-- An event's clock: of each thread how many of its events happen ahead of it, itself among its own. -/
def clk (ev : Nat → Ev) (j : Nat) (t : Int) : Nat := countN (fun i => decide ((ev i).th = t) && (decide (i = j) || hbB ev j i)) (j + 1)

/-- By the clocks just what happens ahead is told. -/
theorem clk_tells (ev : Nat → Ev) (i j : Nat) (hij : i < j) : clk ev i (ev i).th ≤ clk ev j (ev i).th ↔ HB ev i j := by
  have hi : clk ev i (ev i).th = countN (fun k => decide ((ev k).th = (ev i).th) && (decide (k = i) || hbB ev i k)) (j + 1) := by
    refine (countN_more (i + 1) (j + 1) (by omega) fun k h1 h2 => ?_).symm
    rw [show decide (k = i) = false from decide_eq_false (by omega)]
    rw [show hbB ev i k = false from ?_]
    · simp
    · rw [Bool.eq_false_iff]
      intro h
      have := ((hbB_iff ev i k).1 h).lt
      omega
  rw [hi, clk]
  constructor
  · intro hle
    apply Decidable.byContradiction
    intro hn
    have : countN (fun k => decide ((ev k).th = (ev i).th) && (decide (k = j) || hbB ev j k)) (j + 1) < countN (fun k => decide ((ev k).th = (ev i).th) && (decide (k = i) || hbB ev i k)) (j + 1) := by
      refine countN_lt (j + 1) (fun k hk h => ?_) i (by omega) ?_ ?_
      · simp only [Bool.and_eq_true, decide_eq_true_eq, Bool.or_eq_true] at h ⊢
        refine ⟨h.1, ?_⟩
        rcases h.2 with rfl | h2
        · exact absurd (HB.same hij h.1.symm) hn
        · have hk2 := (hbB_iff ev j k).1 h2
          rcases Nat.lt_trichotomy k i with h3 | h3 | h3
          · exact .inr ((hbB_iff ev i k).2 (HB.same h3 h.1))
          · exact .inl h3
          · exact absurd (hk2.down (by omega) h.1.symm) hn
      · simp only [Bool.and_eq_false_iff, Bool.or_eq_false_iff, decide_eq_false_iff_not]
        right
        exact ⟨by omega, Bool.eq_false_iff.2 fun h => hn ((hbB_iff ev j i).1 h)⟩
      · simp
    omega
  · intro h
    refine countN_mono (j + 1) fun k hk h2 => ?_
    simp only [Bool.and_eq_true, decide_eq_true_eq, Bool.or_eq_true] at h2 ⊢
    refine ⟨h2.1, .inr ((hbB_iff ev j k).2 ?_)⟩
    rcases h2.2 with rfl | h3
    · exact h
    · exact ((hbB_iff ev i k).1 h3).trans h
end Go.Proofs.Ytjedkfohmedmaaa
