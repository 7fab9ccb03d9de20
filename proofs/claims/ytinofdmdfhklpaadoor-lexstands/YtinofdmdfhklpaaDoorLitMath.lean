/- A literal's digits are found again of its real; literals and their texts. -/
import Derived.Test.YtinofdmdfhklpaaDoorFlLit
import Derived.Test.YtinofdmdfhklpaaDoorPrint
import Derived.Test.YtinofdmdfhklpaaDoorDigitsMath
namespace Go.Proofs.YtinofdmdfhklpaaDoor
open Ieee
set_option linter.unusedVariables false

theorem val_HALF : ∃ h : Nat, val HALF = (h : Int) ∧ 2 * h = U := ⟨pw 1073, by decide +kernel, by decide +kernel⟩

theorem pw_2148 : pw 2148 = U * U := by
  have h : pw 2148 = pw (1074 + 1074) := pw_congr (by decide)
  rw [h, pw_add, ← U_def]

/-- The digits of a literal's real, but nought. -/
theorem digits_pos (n s : Nat) (hn : 1 ≤ n) (hn2 : n < 1000000000000000) (hs : 1 ≤ s) (hs2 : s ≤ 1000000) : digitsOf (quo n s) s = some n := by
  obtain ⟨X, x, hX, hXn, hXv, q1, q2⟩ := quo_err n s hn (by omega) hs (by omega)
  have hq : quo n s = X := hX
  have hU := U_pos
  have e54 : pw 54 = 18014398509481984 := rfl
  rw [e54] at q1 q2
  have hA : n * U ≤ 999999999999999 * U := Nat.mul_le_mul_right _ (by omega)
  have hA0 : 1 * U ≤ n * U := Nat.mul_le_mul_right _ hn
  obtain ⟨A, hAd⟩ : ∃ A, A = n * U := ⟨_, rfl⟩
  obtain ⟨V, hV⟩ : ∃ V, V = x * s := ⟨_, rfl⟩
  rw [← hAd, ← hV] at q1 q2
  rw [← hAd] at hA hA0
  have v1 : 4 * V ≤ 4 * A + U := by omega
  have v2 : 4 * A ≤ 4 * V + U := by omega
  have v0 : 1 ≤ V := by omega
  have hx0 : x ≠ 0 := by rintro rfl; rw [Nat.zero_mul] at hV; omega
  have vb : V < 1125899906842624 * U := by omega
  -- the product
  have ws := ofInt_whole (s : Int) (by omega)
  have hxs : x ≤ V := by rw [hV]; exact Nat.le_mul_of_pos_right x (by omega)
  have hXt : (val X).natAbs < TOP := by
    rw [hXv, Int.natAbs_natCast]
    have := U_top 1125899906842624 (by decide)
    omega
  obtain ⟨sg, T, base, m1, m2, m3, m4⟩ := mul_fin hXn ws.1 hXt (ws.top (by omega))
  have m3' : T * pw (base + (2148 : Nat)).toNat = V * U := by
    have : T * pw (base + 2148).toNat = V * U := by
      rw [m3, hXv, ws.abs, Int.natAbs_natCast, Int.natAbs_natCast, hV, Nat.mul_assoc]
    exact this
  have hVU : 0 < V * U := Nat.mul_pos v0 hU
  have hsg : sg = false := by
    have hpos : 0 < val X * val (ofInt (s : Int)) := by
      rw [hXv, ws.2]
      exact Int.mul_pos (by omega) (Int.mul_pos (by omega) (by omega))
    rw [m4 (by omega), decide_eq_false (by omega)]
  subst hsg
  have hT0 : T ≠ 0 := by rintro rfl; rw [Nat.zero_mul] at m3'; omega
  have e2148 : pw 2148 = U * U := pw_2148
  have hB1 : T * pw (base + (2148 : Nat)).toNat < pw (50 + 2148) := by
    rw [m3', pw_add, e2148, ← Nat.mul_assoc, show pw 50 = 1125899906842624 from rfl]
    exact Nat.mul_lt_mul_of_pos_right vb hU
  obtain ⟨v, pv, p1, p2⟩ := near_err T base 2148 hT0 (by omega) (by omega) hB1
  rw [m3', e2148, show (2148 - 1074 : Nat) = 1074 from rfl, ← U_def] at p1 p2
  have p1' : 16 * v ≤ 16 * V + U := by
    refine Nat.le_of_mul_le_mul_right (c := U) ?_ hU
    rw [Nat.add_mul, Nat.mul_assoc, Nat.mul_assoc]; exact p1
  have p2' : 16 * V ≤ 16 * v + U := by
    refine Nat.le_of_mul_le_mul_right (c := U) ?_ hU
    rw [Nat.add_mul, Nat.mul_assoc, Nat.mul_assoc]; exact p2
  clear p1 p2 hB1 m3 m3' hVU
  -- the sum
  obtain ⟨h, hh, hhU⟩ := val_HALF
  have hpn : isNan (D.nearest false T base) = false := isNan_nearest _ _ _
  have hpt : (val (D.nearest false T base)).natAbs < TOP := by
    rw [pv, Int.natAbs_natCast]
    have := U_top 1125899906842624 (by decide)
    omega
  have hht : (val HALF).natAbs < TOP := by
    rw [hh, Int.natAbs_natCast]
    have := U_top 1 (by decide)
    omega
  obtain ⟨sg2, T2, base2, a1, a2, a3, a4⟩ := add_fin hpn (show isNan HALF = false by decide) hpt hht
  rw [pv, hh] at a3 a4
  have hsg2 : sg2 = false := by rw [a4 (by omega), decide_eq_false (by omega)]
  subst hsg2
  have a3' : T2 * pw (base2 + (1074 : Nat)).toNat = v + h := by
    have : T2 * pw (base2 + 1074).toNat = v + h := by rw [a3]; omega
    exact this
  have hT20 : T2 ≠ 0 := by rintro rfl; rw [Nat.zero_mul] at a3'; omega
  have hB2 : T2 * pw (base2 + (1074 : Nat)).toNat < pw (50 + 1074) := by
    rw [a3', pw_add, ← U_def, show pw 50 = 1125899906842624 from rfl]
    omega
  obtain ⟨y, yv, y1, y2⟩ := near_err T2 base2 1074 hT20 (by omega) (by omega) hB2
  rw [a3', Nat.sub_self, show pw 0 = 1 from rfl, Nat.mul_one, ← U_def] at y1 y2
  have f1 : A ≤ y := by omega
  have f2 : y < A + U := by omega
  -- what is told
  have hyn : isNan (D.nearest false T2 base2) = false := isNan_nearest _ _ _
  have hnear : nearOf X s = some (D.nearest false T2 base2) := by
    unfold nearOf
    rw [m1]
    exact a1
  have htr : (trunc (val (D.nearest false T2 base2))).toNat = n := by
    rw [yv]
    unfold trunc
    rw [if_neg (by omega), Int.natAbs_natCast, ← U_def]
    have : y / U = n := by
      refine Nat.div_eq_of_lt_le (by rw [← hAd]; exact f1) ?_
      rw [Nat.add_mul, ← hAd, Nat.one_mul]; exact f2
    rw [this]; rfl
  have hE : val (D.nearest false T2 base2) < val E15 := by
    rw [yv, val_E15, ← U_def]
    omega
  rw [hq]
  unfold digitsOf
  rw [hnear]
  simp only
  rw [if_pos ⟨hyn, by rw [yv]; omega, hE⟩, htr, if_pos]
  rw [hq, home_real hXn]

theorem digits_zero (k : Nat) (h1 : 1 ≤ k) (h6 : k ≤ 6) : digitsOf (quo 0 (10 ^ k)) (10 ^ k) = some 0 := by
  have : k = 1 ∨ k = 2 ∨ k = 3 ∨ k = 4 ∨ k = 5 ∨ k = 6 := by omega
  rcases this with rfl | rfl | rfl | rfl | rfl | rfl <;> decide +kernel

theorem scale_bounds (k : Nat) (h6 : k ≤ 6) : 1 ≤ 10 ^ k ∧ 10 ^ k ≤ 1000000 :=
  ⟨Nat.pow_pos (by decide), show 10 ^ k ≤ 10 ^ 6 from Nat.pow_le_pow_right (by decide) h6⟩

/-- A literal's digits are found again of its real. -/
theorem digits_complete (n k : Nat) (h1 : 1 ≤ k) (h6 : k ≤ 6) (hn : n < 1000000000000000) : digitsOf (quo n (10 ^ k)) (10 ^ k) = some n := by
  by_cases h0 : n = 0
  · subst h0; exact digits_zero k h1 h6
  · have := scale_bounds k h6
    exact digits_pos n (10 ^ k) (by omega) hn this.1 this.2

/-- What digitsOf finds is a literal's. -/
theorem digits_sound {x s n : Nat} (h : digitsOf x s = some n) : quo n s = home x ∧ n < 1000000000000000 := by
  refine ⟨?_, digitsOf_lt h⟩
  unfold digitsOf at h
  split at h
  · cases h
  · split at h
    · split at h
      · rename_i hq
        cases h
        exact hq
      · cases h
    · cases h

theorem quo_home (n s : Nat) : home (quo n s) = quo n s := isNan_told _
theorem quo_lt (n s : Nat) : quo n s < 18446744073709551616 := told_lt (fun x h => D.div_lt h)

/-- Of one scale there is one literal. -/
theorem quo_inj {n n' k : Nat} (h1 : 1 ≤ k) (h6 : k ≤ 6) (hn : n < 1000000000000000) (hn' : n' < 1000000000000000) (h : quo n (10 ^ k) = quo n' (10 ^ k)) : n = n' := by
  have a := digits_complete n k h1 h6 hn
  have b := digits_complete n' k h1 h6 hn'
  rw [h, b] at a
  cases a; rfl

/-- Of two scales: the digits are the same but for noughts behind. -/
theorem quo_scales {n n' k j : Nat} (hj1 : 1 ≤ j) (hjk : j ≤ k) (h6 : k ≤ 6) (hn : n < 1000000000000000) (hn' : n' < 1000000000000000) (h : quo n (10 ^ k) = quo n' (10 ^ j)) : n = n' * 10 ^ (k - j) := by
  have sk := scale_bounds k h6
  have sj := scale_bounds j (by omega)
  by_cases h0 : n = 0
  · subst h0
    have e0 : quo 0 (10 ^ k) = quo 0 (10 ^ j) := by
      have : ∀ k : Nat, 1 ≤ k → k ≤ 6 → quo 0 (10 ^ k) = 0 := by
        intro k h1 h6
        have : k = 1 ∨ k = 2 ∨ k = 3 ∨ k = 4 ∨ k = 5 ∨ k = 6 := by omega
        rcases this with rfl | rfl | rfl | rfl | rfl | rfl <;> decide +kernel
      rw [this k (by omega) h6, this j hj1 (by omega)]
    rw [e0] at h
    have := quo_inj hj1 (by omega) (by decide) hn' h
    rw [← this]; simp
  · by_cases h0' : n' = 0
    · subst h0'
      exfalso
      have e0 : quo 0 (10 ^ j) = quo 0 (10 ^ k) := by
        have : ∀ k : Nat, 1 ≤ k → k ≤ 6 → quo 0 (10 ^ k) = 0 := by
          intro k h1 h6
          have : k = 1 ∨ k = 2 ∨ k = 3 ∨ k = 4 ∨ k = 5 ∨ k = 6 := by omega
          rcases this with rfl | rfl | rfl | rfl | rfl | rfl <;> decide +kernel
        rw [this k (by omega) h6, this j hj1 (by omega)]
      rw [e0] at h
      exact h0 (quo_inj (by omega) h6 hn (by decide) h)
    · obtain ⟨X, x, hX, _, hXv, q1, q2⟩ := quo_err n (10 ^ k) (by omega) (by omega) sk.1 (by omega)
      obtain ⟨X', x', hX', _, hXv', q1', q2'⟩ := quo_err n' (10 ^ j) (by omega) (by omega) sj.1 (by omega)
      have hXX : X = X' := by rw [← hX, ← hX']; exact h
      rw [← hXX, hXv] at hXv'
      have hxx : x' = x := by omega
      subst hxx
      have hU := U_pos
      have ek : 10 ^ k = 10 ^ j * 10 ^ (k - j) := by rw [← Nat.pow_add]; congr 1; omega
      obtain ⟨t, ht⟩ : ∃ t, t = 10 ^ (k - j) := ⟨_, rfl⟩
      rw [← ht] at ek ⊢
      rw [ek] at q1 q2
      have r1 := Nat.mul_le_mul_right t q1'
      have r2 := Nat.mul_le_mul_right t q2'
      have e1 : pw 54 * (x' * 10 ^ j) * t = pw 54 * (x' * (10 ^ j * t)) := by simp only [Nat.mul_assoc]
      have e2 : (pw 54 * (n' * U) + 3 * (x' * 10 ^ j)) * t = pw 54 * (n' * t * U) + 3 * (x' * (10 ^ j * t)) := by
        rw [Nat.add_mul]
        have : pw 54 * (n' * U) * t = pw 54 * (n' * t * U) := by simp only [Nat.mul_assoc, Nat.mul_comm t U]
        rw [this]
        simp only [Nat.mul_assoc]
      have e3 : pw 54 * (n' * U) * t = pw 54 * (n' * t * U) := by simp only [Nat.mul_assoc, Nat.mul_comm t U]
      have e4 : (pw 54 * (x' * 10 ^ j) + 3 * (x' * 10 ^ j)) * t = pw 54 * (x' * (10 ^ j * t)) + 3 * (x' * (10 ^ j * t)) := by
        rw [Nat.add_mul]; simp only [Nat.mul_assoc]
      rw [e1, e2] at r1
      rw [e3, e4] at r2
      have hA : n * U ≤ 999999999999999 * U := Nat.mul_le_mul_right _ (by omega)
      have e54 : pw 54 = 18014398509481984 := rfl
      rw [e54] at q1 q2 r1 r2
      have c1 : n * U < (n' * t + 1) * U := by
        rw [Nat.add_mul, Nat.one_mul]
        generalize x' * (10 ^ j * t) = V at q1 q2 r1 r2
        generalize n' * t * U = B at r1 r2 ⊢
        generalize n * U = A at q1 q2 hA ⊢
        omega
      have c2 : n' * t * U < (n + 1) * U := by
        rw [Nat.add_mul, Nat.one_mul]
        generalize x' * (10 ^ j * t) = V at q1 q2 r1 r2
        generalize n' * t * U = B at r1 r2 ⊢
        generalize n * U = A at q1 q2 hA ⊢
        omega
      have d1 := Nat.lt_of_mul_lt_mul_right c1
      have d2 := Nat.lt_of_mul_lt_mul_right c2
      omega

end Go.Proofs.YtinofdmdfhklpaaDoor
