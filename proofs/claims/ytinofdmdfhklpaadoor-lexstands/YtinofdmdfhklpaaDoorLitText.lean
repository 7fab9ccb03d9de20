/- Literals: a text that is one is the literal of its digits, and the literal of any digits is one. -/
import Derived.Test.YtinofdmdfhklpaaDoorLitMath
namespace Go.Proofs.YtinofdmdfhklpaaDoor
set_option linter.unusedVariables false

theorem foldl_dec (l : List UInt8) : ∀ acc : Nat, l.foldl (fun n c => n * 10 + (c.toNat - 48)) acc = acc * 10 ^ l.length + decVal l := by
  induction l with
  | nil => intro acc; simp [decVal]
  | cons c l ih =>
    intro acc
    have h1 := ih (acc * 10 + (c.toNat - 48))
    have h2 := ih (0 * 10 + (c.toNat - 48))
    simp only [decVal, List.foldl_cons, List.length_cons] at h1 h2 ⊢
    rw [h1, h2, Nat.pow_succ, Nat.add_mul, Nat.add_mul, Nat.zero_mul]
    rw [Nat.mul_assoc, Nat.mul_comm 10]
    omega

theorem decVal_cons (c : UInt8) (l : List UInt8) : decVal (c :: l) = (c.toNat - 48) * 10 ^ l.length + decVal l := by
  have := foldl_dec l (0 * 10 + (c.toNat - 48))
  unfold decVal at this ⊢
  rw [List.foldl_cons, this]
  simp

theorem digits_lt (l : List UInt8) (h : ∀ j, j < l.length → 48 ≤ (l.getD j 0).toNat ∧ (l.getD j 0).toNat ≤ 57) : decVal l < 10 ^ l.length := by
  have := val_lt l l.length (Nat.le_refl _) h
  rwa [List.take_of_length_le (Nat.le_refl _)] at this

theorem tail_digits {c : UInt8} {l : List UInt8} (h : GoodDec (c :: l)) : ∀ j, j < l.length → 48 ≤ (l.getD j 0).toNat ∧ (l.getD j 0).toNat ≤ 57 := by
  intro j hj
  have := h.2.2.1 (j + 1) (by simp; omega)
  simpa using this

theorem one_lt {b : List UInt8} (h : GoodDec (49 :: b)) : decVal (49 :: b) = 10 ^ b.length + decVal b ∧ decVal b < 10 ^ b.length := by
  refine ⟨?_, digits_lt b (tail_digits h)⟩
  rw [decVal_cons]
  simp

theorem decOf_good {l : List UInt8} (h : GoodDec l) : decOf ((decVal l : Nat) : Int) = l := by
  unfold decOf
  rw [if_neg (by omega), Int.natAbs_natCast]
  exact digs_of_good l h

theorem decOf_nat (n : Nat) : decOf (n : Int) = digs 19 n := by
  unfold decOf
  rw [if_neg (by omega), Int.natAbs_natCast]

theorem lit_split {l : List UInt8} (h : IsLit l) : l = aheadOf l ++ 46 :: behindOf l := by
  by_cases hi : 0 ≤ Lib.indexByte l 46
  · exact (cut_some l hi).2
  · have ge := Lib.indexByte_ge l 46
    have := (cut_none l (by omega)).2
    have h1 := h.1
    rw [this] at h1
    simp at h1

/-- A text that is a literal is the literal of its digits. -/
theorem lit_self {l : List UInt8} (h : IsLit l) : litOf (behindOf l).length (litNum l) = l ∧ litNum l < 1000000000000000 ∧ litNum l / 10 ^ (behindOf l).length = decVal (aheadOf l) := by
  have hs := lit_split h
  obtain ⟨h1, h2, h3, h4, h5⟩ := h
  obtain ⟨e1, e2⟩ := one_lt h5
  have hp : 0 < 10 ^ (behindOf l).length := Nat.pow_pos (by decide)
  have hn : litNum l = decVal (aheadOf l) * 10 ^ (behindOf l).length + decVal (behindOf l) := by
    unfold litNum; rw [e1]; omega
  have hd : litNum l / 10 ^ (behindOf l).length = decVal (aheadOf l) := by
    rw [hn, Nat.mul_comm, Nat.mul_add_div hp, Nat.div_eq_of_lt e2, Nat.add_zero]
  have hm : litNum l % 10 ^ (behindOf l).length = decVal (behindOf l) := by
    rw [hn, Nat.mul_comm, Nat.mul_add_mod, Nat.mod_eq_of_lt e2]
  refine ⟨?_, ?_, hd⟩
  · unfold litOf
    rw [hd, hm, decOf_good h4, ← e1, decOf_good h5]
    conv => rhs; rw [hs]
    simp
  · have ha := good_lt h4
    have : litNum l < 10 ^ ((aheadOf l).length + (behindOf l).length) := by
      rw [hn, Nat.pow_add]
      have h6 : (decVal (aheadOf l) + 1) * 10 ^ (behindOf l).length ≤ 10 ^ (aheadOf l).length * 10 ^ (behindOf l).length := Nat.mul_le_mul_right _ ha
      rw [Nat.add_mul, Nat.one_mul] at h6
      omega
    exact Nat.lt_of_lt_of_le this (show _ ≤ 10 ^ 15 from Nat.pow_le_pow_right (by decide) h3)

theorem no_point (f n : Nat) : ∀ c ∈ digs f n, (c != 46) = true := by
  intro c hc
  have := (digs_digit f n c hc).1
  rw [bne_iff_ne]
  rintro rfl
  simp at this

theorem cut_at (a b : List UInt8) (h : ∀ c ∈ a, (c != 46) = true) : aheadOf (a ++ 46 :: b) = a ∧ behindOf (a ++ 46 :: b) = b := by
  induction a with
  | nil => exact ⟨rfl, rfl⟩
  | cons c a ih =>
    have hc := h c (by simp)
    obtain ⟨i1, i2⟩ := ih (fun x hx => h x (by simp [hx]))
    refine ⟨?_, ?_⟩
    · unfold aheadOf at i1 ⊢; rw [List.cons_append, List.takeWhile_cons, if_pos hc, i1]
    · unfold behindOf at i2 ⊢; rw [List.cons_append, List.dropWhile_cons, if_pos hc, i2]

theorem digs_size (n L : Nat) (hn : n ≤ 9223372036854775807) (h1 : 1 ≤ L) (h : n < 10 ^ L) : (digs 19 n).length ≤ L := by
  obtain ⟨g, hv⟩ := good_digs n hn
  by_cases h0 : n = 0
  · subst h0; simp [digs_small]; omega
  · have hd := digs_head 19 n (by omega) (Nat.lt_of_le_of_lt hn (by decide))
    have hl := g.1
    have := val_ge (digs 19 n) hl g.2.2.1 hd ((digs 19 n).length - 1) (by omega)
    rw [show (digs 19 n).length - 1 + 1 = (digs 19 n).length by omega, List.take_of_length_le (Nat.le_refl _), hv] at this
    have h2 : 10 ^ ((digs 19 n).length - 1) < 10 ^ L := Nat.lt_of_le_of_lt this h
    have := (Nat.pow_lt_pow_iff_right (show 1 < 10 by decide)).1 h2
    omega

/-- The digits behind the point, with a 1 ahead. -/
theorem behind_one (k r : Nat) (h6 : k ≤ 6) (hr : r < 10 ^ k) : ∃ b, decOf ((10 ^ k + r : Nat) : Int) = 49 :: b ∧ b.length = k ∧ GoodDec (49 :: b) ∧ decVal (49 :: b) = 10 ^ k + r := by
  have hs := scale_bounds k h6
  rw [decOf_nat]
  obtain ⟨g, hv⟩ := good_digs (10 ^ k + r) (by omega)
  have hlen : (digs 19 (10 ^ k + r)).length ≤ k + 1 := digs_size _ (k + 1) (by omega) (by omega) (by rw [Nat.pow_succ]; omega)
  have hlen2 : k + 1 ≤ (digs 19 (10 ^ k + r)).length := by
    have := good_lt g
    rw [hv] at this
    have h2 : 10 ^ k < 10 ^ (digs 19 (10 ^ k + r)).length := by omega
    have := (Nat.pow_lt_pow_iff_right (show 1 < 10 by decide)).1 h2
    omega
  generalize digs 19 (10 ^ k + r) = d at g hv hlen hlen2 ⊢
  cases d with
  | nil => simp at hlen2
  | cons c b =>
    have hbl : b.length = k := by simp at hlen hlen2; omega
    have hb := digits_lt b (tail_digits g)
    rw [hbl] at hb
    have hcv := decVal_cons c b
    rw [hv, hbl] at hcv
    have hc0 := g.2.2.1 0 (by simp)
    simp at hc0
    have hc1 : c.toNat - 48 = 1 := by
      have hp : 0 < 10 ^ k := by omega
      generalize c.toNat - 48 = x at hcv
      generalize decVal b = y at hcv hb
      generalize 10 ^ k = P at *
      rcases Nat.lt_or_ge x 1 with h | h
      · obtain rfl : x = 0 := by omega
        simp at hcv; omega
      · rcases Nat.lt_or_ge 1 x with h2 | h2
        · exfalso
          have : 2 * P ≤ x * P := Nat.mul_le_mul_right _ h2
          omega
        · omega
    have hc : c = 49 := by
      apply UInt8.toNat_inj.1
      show c.toNat = 49
      omega
    subst hc
    exact ⟨b, rfl, hbl, g, hv⟩

/-- The literal of any digits is one, and has these. -/
theorem litOf_lit (k n : Nat) (h1 : 1 ≤ k) (h6 : k ≤ 6) (hn : n < 1000000000000000) : IsLit (litOf k n) ∧ (behindOf (litOf k n)).length = k ∧ litNum (litOf k n) = n ∧ aheadOf (litOf k n) = digs 19 (n / 10 ^ k) := by
  have hs := scale_bounds k h6
  have hp : 0 < 10 ^ k := by omega
  obtain ⟨b, hb, hbl, hg, hv⟩ := behind_one k (n % 10 ^ k) h6 (Nat.mod_lt _ hp)
  have hN : n / 10 ^ k ≤ 9223372036854775807 := Nat.le_trans (Nat.div_le_self _ _) (by omega)
  obtain ⟨g, gv⟩ := good_digs (n / 10 ^ k) hN
  have he : litOf k n = digs 19 (n / 10 ^ k) ++ 46 :: b := by
    unfold litOf
    rw [hb, decOf_nat]
    simp
  obtain ⟨c1, c2⟩ := cut_at (digs 19 (n / 10 ^ k)) b (no_point _ _)
  rw [← he] at c1 c2
  have hlen : (digs 19 (n / 10 ^ k)).length ≤ 15 - k := by
    refine digs_size _ _ hN (by omega) ?_
    rw [Nat.div_lt_iff_lt_mul hp, ← Nat.pow_add, show 15 - k + k = 15 by omega]
    exact hn
  refine ⟨⟨by rw [c2]; omega, by rw [c2]; omega, by rw [c1, c2]; omega, by rw [c1]; exact g, by rw [c2]; exact hg⟩, by rw [c2, hbl], ?_, c1⟩
  unfold litNum
  rw [c1, c2, hbl, hv, gv]
  have := Nat.div_add_mod n (10 ^ k)
  rw [Nat.mul_comm] at this
  omega

/-- What Print finds. -/
theorem pr_sound : ∀ (f k j n x : Nat), pr x k f = some (j, n) → k ≤ j ∧ j < k + f ∧ digitsOf x (10 ^ j) = some n := by
  intro f
  induction f with
  | zero => intro k j n x h; cases h
  | succ f ih =>
    intro k j n x h
    simp only [pr] at h
    split at h
    · rename_i m hm
      cases h
      exact ⟨Nat.le_refl _, by omega, hm⟩
    · have := ih (k + 1) j n x h
      exact ⟨by omega, by omega, this.2.2⟩

theorem pr_complete : ∀ (f k j n x : Nat), k ≤ j → j < k + f → digitsOf x (10 ^ j) = some n → ∃ j' n', pr x k f = some (j', n') ∧ j' ≤ j := by
  intro f
  induction f with
  | zero => intro k j n x h1 h2; omega
  | succ f ih =>
    intro k j n x h1 h2 hd
    simp only [pr]
    cases hk : digitsOf x (10 ^ k) with
    | some m => exact ⟨k, m, rfl, h1⟩
    | none =>
      have hne : k ≠ j := by rintro rfl; rw [hk] at hd; cases hd
      exact ih (k + 1) j n x (by omega) (by omega) hd

end Go.Proofs.YtinofdmdfhklpaaDoor
