/- Joined texts of the proof. -/
import Derived.Test.YtcmahiphfpgadaaDoorJ6
import Derived.Test.YtcmahiphfpgadaaDoorJ9
import Derived.Test.YtcmahiphfpgadaaDoorJ4

/- A literal's digits are found again of its real; literals and their texts. -/
namespace Go.Proofs.YtcmahiphfpgadaaDoor
open Ieee
set_option linter.unusedVariables false

theorem val_HALF : ∃ h : Nat, val HALF = (h : Int) ∧ 2 * h = U := ⟨pw 1073, by decide +kernel, by decide +kernel⟩

theorem pw_2148 : pw 2148 = U * U := by
  have h : pw 2148 = pw (1074 + 1074) := pw_congr (by decide)
  rw [h, pw_add, ← U_def]

/-- The digits of a literal's real, but nought. -/
theorem digits_pos (n s : Nat) (hn : 1 ≤ n) (hn2 : n < 1000000000000000) (hs : 1 ≤ s) (hs2 : s ≤ 1000000) : digitsOf (quo n s) s = some n := by
  obtain ⟨X, x, hX, hXn, hXv, q1, q2⟩ := quo_err n s hn (by omega) hs (by omega)
  have hq : quo n s = X := hX
  have hU := U_pos
  have e54 : pw 54 = 18014398509481984 := rfl
  rw [e54] at q1 q2
  have hA : n * U ≤ 999999999999999 * U := Nat.mul_le_mul_right _ (by omega)
  have hA0 : 1 * U ≤ n * U := Nat.mul_le_mul_right _ hn
  obtain ⟨A, hAd⟩ : ∃ A, A = n * U := ⟨_, rfl⟩
  obtain ⟨V, hV⟩ : ∃ V, V = x * s := ⟨_, rfl⟩
  rw [← hAd, ← hV] at q1 q2
  rw [← hAd] at hA hA0
  have v1 : 4 * V ≤ 4 * A + U := by omega
  have v2 : 4 * A ≤ 4 * V + U := by omega
  have v0 : 1 ≤ V := by omega
  have hx0 : x ≠ 0 := by rintro rfl; rw [Nat.zero_mul] at hV; omega
  have vb : V < 1125899906842624 * U := by omega
  -- the product
  have ws := ofInt_whole (s : Int) (by omega)
  have hxs : x ≤ V := by rw [hV]; exact Nat.le_mul_of_pos_right x (by omega)
  have hXt : (val X).natAbs < TOP := by
    rw [hXv, Int.natAbs_natCast]
    have := U_top 1125899906842624 (by decide)
    omega
  obtain ⟨sg, T, base, m1, m2, m3, m4⟩ := mul_fin hXn ws.1 hXt (ws.top (by omega))
  have m3' : T * pw (base + (2148 : Nat)).toNat = V * U := by
    have : T * pw (base + 2148).toNat = V * U := by
      rw [m3, hXv, ws.abs, Int.natAbs_natCast, Int.natAbs_natCast, hV, Nat.mul_assoc]
    exact this
  have hVU : 0 < V * U := Nat.mul_pos v0 hU
  have hsg : sg = false := by
    have hpos : 0 < val X * val (ofInt (s : Int)) := by
      rw [hXv, ws.2]
      exact Int.mul_pos (by omega) (Int.mul_pos (by omega) (by omega))
    rw [m4 (by omega), decide_eq_false (by omega)]
  subst hsg
  have hT0 : T ≠ 0 := by rintro rfl; rw [Nat.zero_mul] at m3'; omega
  have e2148 : pw 2148 = U * U := pw_2148
  have hB1 : T * pw (base + (2148 : Nat)).toNat < pw (50 + 2148) := by
    rw [m3', pw_add, e2148, ← Nat.mul_assoc, show pw 50 = 1125899906842624 from rfl]
    exact Nat.mul_lt_mul_of_pos_right vb hU
  obtain ⟨v, pv, p1, p2⟩ := near_err T base 2148 hT0 (by omega) (by omega) hB1
  rw [m3', e2148, show (2148 - 1074 : Nat) = 1074 from rfl, ← U_def] at p1 p2
  have p1' : 16 * v ≤ 16 * V + U := by
    refine Nat.le_of_mul_le_mul_right (c := U) ?_ hU
    rw [Nat.add_mul, Nat.mul_assoc, Nat.mul_assoc]; exact p1
  have p2' : 16 * V ≤ 16 * v + U := by
    refine Nat.le_of_mul_le_mul_right (c := U) ?_ hU
    rw [Nat.add_mul, Nat.mul_assoc, Nat.mul_assoc]; exact p2
  clear p1 p2 hB1 m3 m3' hVU
  -- the sum
  obtain ⟨h, hh, hhU⟩ := val_HALF
  have hpn : isNan (D.nearest false T base) = false := isNan_nearest _ _ _
  have hpt : (val (D.nearest false T base)).natAbs < TOP := by
    rw [pv, Int.natAbs_natCast]
    have := U_top 1125899906842624 (by decide)
    omega
  have hht : (val HALF).natAbs < TOP := by
    rw [hh, Int.natAbs_natCast]
    have := U_top 1 (by decide)
    omega
  obtain ⟨sg2, T2, base2, a1, a2, a3, a4⟩ := add_fin hpn (show isNan HALF = false by decide) hpt hht
  rw [pv, hh] at a3 a4
  have hsg2 : sg2 = false := by rw [a4 (by omega), decide_eq_false (by omega)]
  subst hsg2
  have a3' : T2 * pw (base2 + (1074 : Nat)).toNat = v + h := by
    have : T2 * pw (base2 + 1074).toNat = v + h := by rw [a3]; omega
    exact this
  have hT20 : T2 ≠ 0 := by rintro rfl; rw [Nat.zero_mul] at a3'; omega
  have hB2 : T2 * pw (base2 + (1074 : Nat)).toNat < pw (50 + 1074) := by
    rw [a3', pw_add, ← U_def, show pw 50 = 1125899906842624 from rfl]
    omega
  obtain ⟨y, yv, y1, y2⟩ := near_err T2 base2 1074 hT20 (by omega) (by omega) hB2
  rw [a3', Nat.sub_self, show pw 0 = 1 from rfl, Nat.mul_one, ← U_def] at y1 y2
  have f1 : A ≤ y := by omega
  have f2 : y < A + U := by omega
  -- what is told
  have hyn : isNan (D.nearest false T2 base2) = false := isNan_nearest _ _ _
  have hnear : nearOf X s = some (D.nearest false T2 base2) := by
    unfold nearOf
    rw [m1]
    exact a1
  have htr : (trunc (val (D.nearest false T2 base2))).toNat = n := by
    rw [yv]
    unfold trunc
    rw [if_neg (by omega), Int.natAbs_natCast, ← U_def]
    have : y / U = n := by
      refine Nat.div_eq_of_lt_le (by rw [← hAd]; exact f1) ?_
      rw [Nat.add_mul, ← hAd, Nat.one_mul]; exact f2
    rw [this]; rfl
  have hE : val (D.nearest false T2 base2) < val E15 := by
    rw [yv, val_E15, ← U_def]
    omega
  rw [hq]
  unfold digitsOf
  rw [hnear]
  simp only
  rw [if_pos ⟨hyn, by rw [yv]; omega, hE⟩, htr, if_pos]
  rw [hq, home_real hXn]

theorem digits_zero (k : Nat) (h1 : 1 ≤ k) (h6 : k ≤ 6) : digitsOf (quo 0 (10 ^ k)) (10 ^ k) = some 0 := by
  have : k = 1 ∨ k = 2 ∨ k = 3 ∨ k = 4 ∨ k = 5 ∨ k = 6 := by omega
  rcases this with rfl | rfl | rfl | rfl | rfl | rfl <;> decide +kernel

theorem scale_bounds (k : Nat) (h6 : k ≤ 6) : 1 ≤ 10 ^ k ∧ 10 ^ k ≤ 1000000 :=
  ⟨Nat.pow_pos (by decide), show 10 ^ k ≤ 10 ^ 6 from Nat.pow_le_pow_right (by decide) h6⟩

/-- A literal's digits are found again of its real. -/
theorem digits_complete (n k : Nat) (h1 : 1 ≤ k) (h6 : k ≤ 6) (hn : n < 1000000000000000) : digitsOf (quo n (10 ^ k)) (10 ^ k) = some n := by
  by_cases h0 : n = 0
  · subst h0; exact digits_zero k h1 h6
  · have := scale_bounds k h6
    exact digits_pos n (10 ^ k) (by omega) hn this.1 this.2

/-- What digitsOf finds is a literal's. -/
theorem digits_sound {x s n : Nat} (h : digitsOf x s = some n) : quo n s = home x ∧ n < 1000000000000000 := by
  refine ⟨?_, digitsOf_lt h⟩
  unfold digitsOf at h
  split at h
  · cases h
  · split at h
    · split at h
      · rename_i hq
        cases h
        exact hq
      · cases h
    · cases h

theorem quo_home (n s : Nat) : home (quo n s) = quo n s := isNan_told _
theorem quo_lt (n s : Nat) : quo n s < 18446744073709551616 := told_lt (fun x h => D.div_lt h)

/-- Of one scale there is one literal. -/
theorem quo_inj {n n' k : Nat} (h1 : 1 ≤ k) (h6 : k ≤ 6) (hn : n < 1000000000000000) (hn' : n' < 1000000000000000) (h : quo n (10 ^ k) = quo n' (10 ^ k)) : n = n' := by
  have a := digits_complete n k h1 h6 hn
  have b := digits_complete n' k h1 h6 hn'
  rw [h, b] at a
  cases a; rfl

/-- Of two scales: the digits are the same but for noughts behind. -/
theorem quo_scales {n n' k j : Nat} (hj1 : 1 ≤ j) (hjk : j ≤ k) (h6 : k ≤ 6) (hn : n < 1000000000000000) (hn' : n' < 1000000000000000) (h : quo n (10 ^ k) = quo n' (10 ^ j)) : n = n' * 10 ^ (k - j) := by
  have sk := scale_bounds k h6
  have sj := scale_bounds j (by omega)
  by_cases h0 : n = 0
  · subst h0
    have e0 : quo 0 (10 ^ k) = quo 0 (10 ^ j) := by
      have : ∀ k : Nat, 1 ≤ k → k ≤ 6 → quo 0 (10 ^ k) = 0 := by
        intro k h1 h6
        have : k = 1 ∨ k = 2 ∨ k = 3 ∨ k = 4 ∨ k = 5 ∨ k = 6 := by omega
        rcases this with rfl | rfl | rfl | rfl | rfl | rfl <;> decide +kernel
      rw [this k (by omega) h6, this j hj1 (by omega)]
    rw [e0] at h
    have := quo_inj hj1 (by omega) (by decide) hn' h
    rw [← this]; simp
  · by_cases h0' : n' = 0
    · subst h0'
      exfalso
      have e0 : quo 0 (10 ^ j) = quo 0 (10 ^ k) := by
        have : ∀ k : Nat, 1 ≤ k → k ≤ 6 → quo 0 (10 ^ k) = 0 := by
          intro k h1 h6
          have : k = 1 ∨ k = 2 ∨ k = 3 ∨ k = 4 ∨ k = 5 ∨ k = 6 := by omega
          rcases this with rfl | rfl | rfl | rfl | rfl | rfl <;> decide +kernel
        rw [this k (by omega) h6, this j hj1 (by omega)]
      rw [e0] at h
      exact h0 (quo_inj (by omega) h6 hn (by decide) h)
    · obtain ⟨X, x, hX, _, hXv, q1, q2⟩ := quo_err n (10 ^ k) (by omega) (by omega) sk.1 (by omega)
      obtain ⟨X', x', hX', _, hXv', q1', q2'⟩ := quo_err n' (10 ^ j) (by omega) (by omega) sj.1 (by omega)
      have hXX : X = X' := by rw [← hX, ← hX']; exact h
      rw [← hXX, hXv] at hXv'
      have hxx : x' = x := by omega
      subst hxx
      have hU := U_pos
      have ek : 10 ^ k = 10 ^ j * 10 ^ (k - j) := by rw [← Nat.pow_add]; congr 1; omega
      obtain ⟨t, ht⟩ : ∃ t, t = 10 ^ (k - j) := ⟨_, rfl⟩
      rw [← ht] at ek ⊢
      rw [ek] at q1 q2
      have r1 := Nat.mul_le_mul_right t q1'
      have r2 := Nat.mul_le_mul_right t q2'
      have e1 : pw 54 * (x' * 10 ^ j) * t = pw 54 * (x' * (10 ^ j * t)) := by simp only [Nat.mul_assoc]
      have e2 : (pw 54 * (n' * U) + 3 * (x' * 10 ^ j)) * t = pw 54 * (n' * t * U) + 3 * (x' * (10 ^ j * t)) := by
        rw [Nat.add_mul]
        have : pw 54 * (n' * U) * t = pw 54 * (n' * t * U) := by simp only [Nat.mul_assoc, Nat.mul_comm t U]
        rw [this]
        simp only [Nat.mul_assoc]
      have e3 : pw 54 * (n' * U) * t = pw 54 * (n' * t * U) := by simp only [Nat.mul_assoc, Nat.mul_comm t U]
      have e4 : (pw 54 * (x' * 10 ^ j) + 3 * (x' * 10 ^ j)) * t = pw 54 * (x' * (10 ^ j * t)) + 3 * (x' * (10 ^ j * t)) := by
        rw [Nat.add_mul]; simp only [Nat.mul_assoc]
      rw [e1, e2] at r1
      rw [e3, e4] at r2
      have hA : n * U ≤ 999999999999999 * U := Nat.mul_le_mul_right _ (by omega)
      have e54 : pw 54 = 18014398509481984 := rfl
      rw [e54] at q1 q2 r1 r2
      have c1 : n * U < (n' * t + 1) * U := by
        rw [Nat.add_mul, Nat.one_mul]
        generalize x' * (10 ^ j * t) = V at q1 q2 r1 r2
        generalize n' * t * U = B at r1 r2 ⊢
        generalize n * U = A at q1 q2 hA ⊢
        omega
      have c2 : n' * t * U < (n + 1) * U := by
        rw [Nat.add_mul, Nat.one_mul]
        generalize x' * (10 ^ j * t) = V at q1 q2 r1 r2
        generalize n' * t * U = B at r1 r2 ⊢
        generalize n * U = A at q1 q2 hA ⊢
        omega
      have d1 := Nat.lt_of_mul_lt_mul_right c1
      have d2 := Nat.lt_of_mul_lt_mul_right c2
      omega

end Go.Proofs.YtcmahiphfpgadaaDoor

/- Literals: a text that is one is the literal of its digits, and the literal of any digits is one. -/
namespace Go.Proofs.YtcmahiphfpgadaaDoor
set_option linter.unusedVariables false

theorem foldl_dec (l : List UInt8) : ∀ acc : Nat, l.foldl (fun n c => n * 10 + (c.toNat - 48)) acc = acc * 10 ^ l.length + decVal l := by
  induction l with
  | nil => intro acc; simp [decVal]
  | cons c l ih =>
    intro acc
    have h1 := ih (acc * 10 + (c.toNat - 48))
    have h2 := ih (0 * 10 + (c.toNat - 48))
    simp only [decVal, List.foldl_cons, List.length_cons] at h1 h2 ⊢
    rw [h1, h2, Nat.pow_succ, Nat.add_mul, Nat.add_mul, Nat.zero_mul]
    rw [Nat.mul_assoc, Nat.mul_comm 10]
    omega

theorem decVal_cons (c : UInt8) (l : List UInt8) : decVal (c :: l) = (c.toNat - 48) * 10 ^ l.length + decVal l := by
  have := foldl_dec l (0 * 10 + (c.toNat - 48))
  unfold decVal at this ⊢
  rw [List.foldl_cons, this]
  simp

theorem digits_lt (l : List UInt8) (h : ∀ j, j < l.length → 48 ≤ (l.getD j 0).toNat ∧ (l.getD j 0).toNat ≤ 57) : decVal l < 10 ^ l.length := by
  have := val_lt l l.length (Nat.le_refl _) h
  rwa [List.take_of_length_le (Nat.le_refl _)] at this

theorem tail_digits {c : UInt8} {l : List UInt8} (h : GoodDec (c :: l)) : ∀ j, j < l.length → 48 ≤ (l.getD j 0).toNat ∧ (l.getD j 0).toNat ≤ 57 := by
  intro j hj
  have := h.2.2.1 (j + 1) (by simp; omega)
  simpa using this

theorem one_lt {b : List UInt8} (h : GoodDec (49 :: b)) : decVal (49 :: b) = 10 ^ b.length + decVal b ∧ decVal b < 10 ^ b.length := by
  refine ⟨?_, digits_lt b (tail_digits h)⟩
  rw [decVal_cons]
  simp

theorem decOf_good {l : List UInt8} (h : GoodDec l) : decOf ((decVal l : Nat) : Int) = l := by
  unfold decOf
  rw [if_neg (by omega), Int.natAbs_natCast]
  exact digs_of_good l h

theorem decOf_nat (n : Nat) : decOf (n : Int) = digs 19 n := by
  unfold decOf
  rw [if_neg (by omega), Int.natAbs_natCast]

theorem lit_split {l : List UInt8} (h : IsLit l) : l = aheadOf l ++ 46 :: behindOf l := by
  by_cases hi : 0 ≤ Lib.indexByte l 46
  · exact (cut_some l hi).2
  · have ge := Lib.indexByte_ge l 46
    have := (cut_none l (by omega)).2
    have h1 := h.1
    rw [this] at h1
    simp at h1

/-- A text that is a literal is the literal of its digits. -/
theorem lit_self {l : List UInt8} (h : IsLit l) : litOf (behindOf l).length (litNum l) = l ∧ litNum l < 1000000000000000 ∧ litNum l / 10 ^ (behindOf l).length = decVal (aheadOf l) := by
  have hs := lit_split h
  obtain ⟨h1, h2, h3, h4, h5⟩ := h
  obtain ⟨e1, e2⟩ := one_lt h5
  have hp : 0 < 10 ^ (behindOf l).length := Nat.pow_pos (by decide)
  have hn : litNum l = decVal (aheadOf l) * 10 ^ (behindOf l).length + decVal (behindOf l) := by
    unfold litNum; rw [e1]; omega
  have hd : litNum l / 10 ^ (behindOf l).length = decVal (aheadOf l) := by
    rw [hn, Nat.mul_comm, Nat.mul_add_div hp, Nat.div_eq_of_lt e2, Nat.add_zero]
  have hm : litNum l % 10 ^ (behindOf l).length = decVal (behindOf l) := by
    rw [hn, Nat.mul_comm, Nat.mul_add_mod, Nat.mod_eq_of_lt e2]
  refine ⟨?_, ?_, hd⟩
  · unfold litOf
    rw [hd, hm, decOf_good h4, ← e1, decOf_good h5]
    conv => rhs; rw [hs]
    simp
  · have ha := good_lt h4
    have : litNum l < 10 ^ ((aheadOf l).length + (behindOf l).length) := by
      rw [hn, Nat.pow_add]
      have h6 : (decVal (aheadOf l) + 1) * 10 ^ (behindOf l).length ≤ 10 ^ (aheadOf l).length * 10 ^ (behindOf l).length := Nat.mul_le_mul_right _ ha
      rw [Nat.add_mul, Nat.one_mul] at h6
      omega
    exact Nat.lt_of_lt_of_le this (show _ ≤ 10 ^ 15 from Nat.pow_le_pow_right (by decide) h3)

theorem no_point (f n : Nat) : ∀ c ∈ digs f n, (c != 46) = true := by
  intro c hc
  have := (digs_digit f n c hc).1
  rw [bne_iff_ne]
  rintro rfl
  simp at this

theorem cut_at (a b : List UInt8) (h : ∀ c ∈ a, (c != 46) = true) : aheadOf (a ++ 46 :: b) = a ∧ behindOf (a ++ 46 :: b) = b := by
  induction a with
  | nil => exact ⟨rfl, rfl⟩
  | cons c a ih =>
    have hc := h c (by simp)
    obtain ⟨i1, i2⟩ := ih (fun x hx => h x (by simp [hx]))
    refine ⟨?_, ?_⟩
    · unfold aheadOf at i1 ⊢; rw [List.cons_append, List.takeWhile_cons, if_pos hc, i1]
    · unfold behindOf at i2 ⊢; rw [List.cons_append, List.dropWhile_cons, if_pos hc, i2]

theorem digs_size (n L : Nat) (hn : n ≤ 9223372036854775807) (h1 : 1 ≤ L) (h : n < 10 ^ L) : (digs 19 n).length ≤ L := by
  obtain ⟨g, hv⟩ := good_digs n hn
  by_cases h0 : n = 0
  · subst h0; simp [digs_small]; omega
  · have hd := digs_head 19 n (by omega) (Nat.lt_of_le_of_lt hn (by decide))
    have hl := g.1
    have := val_ge (digs 19 n) hl g.2.2.1 hd ((digs 19 n).length - 1) (by omega)
    rw [show (digs 19 n).length - 1 + 1 = (digs 19 n).length by omega, List.take_of_length_le (Nat.le_refl _), hv] at this
    have h2 : 10 ^ ((digs 19 n).length - 1) < 10 ^ L := Nat.lt_of_le_of_lt this h
    have := (Nat.pow_lt_pow_iff_right (show 1 < 10 by decide)).1 h2
    omega

/-- The digits behind the point, with a 1 ahead. -/
theorem behind_one (k r : Nat) (h6 : k ≤ 6) (hr : r < 10 ^ k) : ∃ b, decOf ((10 ^ k + r : Nat) : Int) = 49 :: b ∧ b.length = k ∧ GoodDec (49 :: b) ∧ decVal (49 :: b) = 10 ^ k + r := by
  have hs := scale_bounds k h6
  rw [decOf_nat]
  obtain ⟨g, hv⟩ := good_digs (10 ^ k + r) (by omega)
  have hlen : (digs 19 (10 ^ k + r)).length ≤ k + 1 := digs_size _ (k + 1) (by omega) (by omega) (by rw [Nat.pow_succ]; omega)
  have hlen2 : k + 1 ≤ (digs 19 (10 ^ k + r)).length := by
    have := good_lt g
    rw [hv] at this
    have h2 : 10 ^ k < 10 ^ (digs 19 (10 ^ k + r)).length := by omega
    have := (Nat.pow_lt_pow_iff_right (show 1 < 10 by decide)).1 h2
    omega
  generalize digs 19 (10 ^ k + r) = d at g hv hlen hlen2 ⊢
  cases d with
  | nil => simp at hlen2
  | cons c b =>
    have hbl : b.length = k := by simp at hlen hlen2; omega
    have hb := digits_lt b (tail_digits g)
    rw [hbl] at hb
    have hcv := decVal_cons c b
    rw [hv, hbl] at hcv
    have hc0 := g.2.2.1 0 (by simp)
    simp at hc0
    have hc1 : c.toNat - 48 = 1 := by
      have hp : 0 < 10 ^ k := by omega
      generalize c.toNat - 48 = x at hcv
      generalize decVal b = y at hcv hb
      generalize 10 ^ k = P at *
      rcases Nat.lt_or_ge x 1 with h | h
      · obtain rfl : x = 0 := by omega
        simp at hcv; omega
      · rcases Nat.lt_or_ge 1 x with h2 | h2
        · exfalso
          have : 2 * P ≤ x * P := Nat.mul_le_mul_right _ h2
          omega
        · omega
    have hc : c = 49 := by
      apply UInt8.toNat_inj.1
      show c.toNat = 49
      omega
    subst hc
    exact ⟨b, rfl, hbl, g, hv⟩

/-- The literal of any digits is one, and has these. -/
theorem litOf_lit (k n : Nat) (h1 : 1 ≤ k) (h6 : k ≤ 6) (hn : n < 1000000000000000) : IsLit (litOf k n) ∧ (behindOf (litOf k n)).length = k ∧ litNum (litOf k n) = n ∧ aheadOf (litOf k n) = digs 19 (n / 10 ^ k) := by
  have hs := scale_bounds k h6
  have hp : 0 < 10 ^ k := by omega
  obtain ⟨b, hb, hbl, hg, hv⟩ := behind_one k (n % 10 ^ k) h6 (Nat.mod_lt _ hp)
  have hN : n / 10 ^ k ≤ 9223372036854775807 := Nat.le_trans (Nat.div_le_self _ _) (by omega)
  obtain ⟨g, gv⟩ := good_digs (n / 10 ^ k) hN
  have he : litOf k n = digs 19 (n / 10 ^ k) ++ 46 :: b := by
    unfold litOf
    rw [hb, decOf_nat]
    simp
  obtain ⟨c1, c2⟩ := cut_at (digs 19 (n / 10 ^ k)) b (no_point _ _)
  rw [← he] at c1 c2
  have hlen : (digs 19 (n / 10 ^ k)).length ≤ 15 - k := by
    refine digs_size _ _ hN (by omega) ?_
    rw [Nat.div_lt_iff_lt_mul hp, ← Nat.pow_add, show 15 - k + k = 15 by omega]
    exact hn
  refine ⟨⟨by rw [c2]; omega, by rw [c2]; omega, by rw [c1, c2]; omega, by rw [c1]; exact g, by rw [c2]; exact hg⟩, by rw [c2, hbl], ?_, c1⟩
  unfold litNum
  rw [c1, c2, hbl, hv, gv]
  have := Nat.div_add_mod n (10 ^ k)
  rw [Nat.mul_comm] at this
  omega

/-- What Print finds. -/
theorem pr_sound : ∀ (f k j n x : Nat), pr x k f = some (j, n) → k ≤ j ∧ j < k + f ∧ digitsOf x (10 ^ j) = some n := by
  intro f
  induction f with
  | zero => intro k j n x h; cases h
  | succ f ih =>
    intro k j n x h
    simp only [pr] at h
    split at h
    · rename_i m hm
      cases h
      exact ⟨Nat.le_refl _, by omega, hm⟩
    · have := ih (k + 1) j n x h
      exact ⟨by omega, by omega, this.2.2⟩

theorem pr_complete : ∀ (f k j n x : Nat), k ≤ j → j < k + f → digitsOf x (10 ^ j) = some n → ∃ j' n', pr x k f = some (j', n') ∧ j' ≤ j := by
  intro f
  induction f with
  | zero => intro k j n x h1 h2; omega
  | succ f ih =>
    intro k j n x h1 h2 hd
    simp only [pr]
    cases hk : digitsOf x (10 ^ k) with
    | some m => exact ⟨k, m, rfl, h1⟩
    | none =>
      have hne : k ≠ j := by rintro rfl; rw [hk] at hd; cases hd
      exact ih (k + 1) j n x (by omega) (by omega) hd

end Go.Proofs.YtcmahiphfpgadaaDoor

/- awake: the document's examples are answered as it says. -/
namespace Go.Proofs.YtcmahiphfpgadaaDoor
open Go.RowKit
set_option linter.unusedVariables false

theorem print_lit (a k n : Nat) (l : List UInt8) (h : pr (home a) 1 6 = some (k, n)) (hl : litOf k n = l) (w : World) :
    Calls Tryd.prog 43 #[.int .u64 (a : Int)] w fun e w' => e = .returned (.tuple #[.string ⟨l.toArray⟩, .int .i64 0]) ∧ Below w.heap.size w w' := by
  refine (print_any a w).mono ?_
  rintro e w' ⟨⟨k', n', h', rfl⟩ | ⟨h', _⟩, hb⟩
  · rw [h] at h'
    cases h'
    exact ⟨by rw [hl], hb⟩
  · rw [h] at h'; cases h'

theorem print_not (a : Nat) (h : pr (home a) 1 6 = none) (w : World) :
    Calls Tryd.prog 43 #[.int .u64 (a : Int)] w fun e w' => e = .returned (.tuple #[.string ⟨#[]⟩, .int .i64 2]) ∧ Below w.heap.size w w' := by
  refine (print_any a w).mono ?_
  rintro e w' ⟨⟨k', n', h', rfl⟩ | ⟨h', rfl⟩, hb⟩
  · rw [h] at h'; cases h'
  · exact ⟨rfl, hb⟩

theorem aw_add : fadd 4598175219545276416 4598175219545276416 = 4602678819172646912 := by decide +kernel
theorem aw_print (w : World) : Calls Tryd.prog 43 #[.int .u64 4602678819172646912] w fun e w' => e = .returned (.tuple #[.string { data := #[48, 46, 53] }, .int .i64 0]) ∧ Below w.heap.size w w' := print_lit 4602678819172646912 1 5 [48, 46, 53] (by decide +kernel) (by decide +kernel) w
theorem aw_int : ofInt 1 = 4607182418800017408 := by decide +kernel

end Go.Proofs.YtcmahiphfpgadaaDoor

/- Sums and products turned about; and the law RealRing, walked. -/
namespace Go.Proofs.YtcmahiphfpgadaaDoor
open Ieee Go.RowKit
set_option linter.unusedVariables false

theorem sum_comm (x y : Datum) : x.sum y = y.sum x := by
  cases x with
  | nan s t => cases y <;> rfl
  | infinity s =>
    cases y with
    | nan s t => rfl
    | infinity t =>
      simp only [Datum.sum]
      by_cases h : s = t
      · rw [if_pos h, if_pos h.symm, h]
      · rw [if_neg h, if_neg (fun hh => h hh.symm)]
    | number t n j => rfl
  | number s m i =>
    cases y with
    | nan s t => rfl
    | infinity t => rfl
    | number t n j =>
      simp only [Datum.sum]
      rw [Int.min_comm j i, Int.add_comm, Bool.and_comm]

theorem product_comm (x y : Datum) : x.product y = y.product x := by
  cases x with
  | nan s t => cases y <;> rfl
  | infinity s =>
    cases y with
    | nan s t => rfl
    | infinity t => simp only [Datum.product]; rw [Bool.xor_comm]
    | number t n j => rfl
  | number s m i =>
    cases y with
    | nan s t => rfl
    | infinity t => rfl
    | number t n j => simp only [Datum.product]; rw [Bool.xor_comm, Nat.mul_comm, Int.add_comm]

theorem fadd_comm (a b : Nat) : fadd a b = fadd b a := by unfold fadd Format.add; rw [sum_comm]
theorem fmul_comm (a b : Nat) : fmul a b = fmul b a := by unfold fmul Format.mul; rw [product_comm]

theorem fsub_eq (a b : Nat) (hb : b < 18446744073709551616) : fsub a b = fadd a (fneg b) := by
  unfold fsub fadd
  cases hn : isNan b
  · unfold Format.sub Format.add; rw [read_fneg hb hn]
  · rw [sub_nan (.inr hn), add_nan (.inr (by rw [isNan_fneg hb, hn]))]

theorem add_home_left (a b : Nat) : fadd (home a) b = fadd a b := by
  unfold fadd
  rw [← add_home (home a) b, home_home, add_home]

theorem read_one : D.read 4607182418800017408 = .number false 4503599627370496 (-52) := by decide

theorem fmul_one (a : Nat) (ha : a < 18446744073709551616) : fmul a 4607182418800017408 = home a := by
  unfold fmul
  cases hn : isNan a
  · rw [home_real hn]
    have h : D.mul a 4607182418800017408 = some a := by
      have hw := write_read ha hn
      unfold Format.mul
      rw [read_one]
      rcases read_real hn with ⟨s, m, e, hr⟩ | ⟨s, hr⟩
      · rw [hr] at hw ⊢
        have hw : D.nearest s m e = a := hw
        simp only [Datum.product, Bool.xor_false, Option.map_some, Format.write]
        have := nearest_scale s m 52 e
        rw [show m * 4503599627370496 = m * pw 52 from rfl, show e + -52 = e - (52 : Nat) from rfl, this, hw]
      · rw [hr] at hw ⊢
        simp only [Datum.product, Bool.xor_false, Nat.reduceEqDiff, if_false, Option.map_some]
        rw [hw]
    rw [h]
    exact home_real hn
  · rw [mul_nan (.inl hn), home_nan hn]; rfl

theorem home_fneg (a : Nat) (ha : a < 18446744073709551616) : home (fneg a) = fneg a := by
  cases hn : isNan a
  · exact home_real (by rw [isNan_fneg ha, hn])
  · rw [show fneg a = NAN by simp only [fneg, hn, if_true]]; decide

theorem fadd_lt (a b : Nat) : fadd a b < 18446744073709551616 := told_lt (fun x h => D.add_lt h)
theorem fsub_lt (a b : Nat) : fsub a b < 18446744073709551616 := told_lt (fun x h => D.sub_lt h)
theorem fmul_lt (a b : Nat) : fmul a b < 18446744073709551616 := told_lt (fun x h => D.mul_lt h)
theorem fdiv_lt (a b : Nat) : fdiv a b < 18446744073709551616 := told_lt (fun x h => D.div_lt h)

theorem may_yes (b : Nat) (h : b < 18446744073709551616) (hh : home b = b) (w : World) : Calls Tryd.prog 28 #[.int .u64 (b : Int)] w fun e w' => e = .returned (.bool true) ∧ w' = w := by
  refine (may_any b w h).mono ?_
  rintro e w' ⟨rfl, rfl⟩
  exact ⟨by rw [hh]; simp, rfl⟩

end Go.Proofs.YtcmahiphfpgadaaDoor
