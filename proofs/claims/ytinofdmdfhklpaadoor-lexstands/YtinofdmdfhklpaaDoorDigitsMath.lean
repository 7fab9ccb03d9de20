/- Digits that are told are read, and digits that are read are told again: plain facts. -/
import Derived.Test.YtinofdmdfhklpaaDoorCutDot
namespace Go.Proofs.YtinofdmdfhklpaaDoor
set_option linter.unusedVariables false

theorem digs_length (f : Nat) : ∀ n, (digs f n).length ≤ f + 1 ∧ 1 ≤ (digs f n).length := by
  induction f with
  | zero => intro n; simp [digs]
  | succ f ih =>
    intro n
    unfold digs
    split
    · simp
    · have := ih (n / 10)
      simp
      omega

theorem digs_val (f : Nat) : ∀ n, n < 10 ^ (f + 1) → decVal (digs f n) = n := by
  induction f with
  | zero =>
    intro n h
    simp at h
    simp [digs, decVal]
    rw [ub_toNat _ (by omega)]
    omega
  | succ f ih =>
    intro n h
    by_cases hb : n < 10
    · rw [digs_small _ _ hb]
      simp [decVal]
      rw [ub_toNat _ (by omega)]
      omega
    · rw [digs_big f n (by omega), val_snoc, ih (n / 10) (by rw [Nat.div_lt_iff_lt_mul (by omega)]; rwa [Nat.pow_succ] at h), ub_toNat _ (by omega)]
      omega

theorem digs_digit (f : Nat) : ∀ n, ∀ c ∈ digs f n, 48 ≤ c.toNat ∧ c.toNat ≤ 57 := by
  induction f with
  | zero =>
    intro n c hc
    simp [digs] at hc
    rw [hc, ub_toNat _ (by omega)]
    omega
  | succ f ih =>
    intro n c hc
    by_cases hb : n < 10
    · rw [digs_small _ _ hb] at hc
      simp at hc
      rw [hc, ub_toNat _ (by omega)]
      omega
    · rw [digs_big f n (by omega)] at hc
      rcases List.mem_append.1 hc with h | h
      · exact ih _ c h
      · simp at h
        rw [h, ub_toNat _ (by omega)]
        omega

theorem digs_head (f : Nat) : ∀ n, 1 ≤ n → n < 10 ^ (f + 1) → ((digs f n).getD 0 0).toNat ≠ 48 := by
  induction f with
  | zero =>
    intro n h1 h
    simp at h
    simp [digs, List.getD]
    rw [ub_toNat _ (by omega)]
    omega
  | succ f ih =>
    intro n h1 h
    by_cases hb : n < 10
    · rw [digs_small _ _ hb]
      simp [List.getD]
      rw [ub_toNat _ (by omega)]
      omega
    · rw [digs_big f n (by omega)]
      have h2 := ih (n / 10) (by omega) (by rw [Nat.div_lt_iff_lt_mul (by omega)]; rwa [Nat.pow_succ] at h)
      have h3 := (digs_length f (n / 10)).2
      have e : (digs f (n / 10) ++ [ub (48 + n % 10)]).getD 0 0 = (digs f (n / 10)).getD 0 0 := by
        simp only [List.getD, List.getElem?_append_left (show 0 < (digs f (n / 10)).length by omega)]
      rw [e]
      exact h2

theorem good_digs (n : Nat) (h : n ≤ 9223372036854775807) : GoodDec (digs 19 n) ∧ decVal (digs 19 n) = n := by
  have hv := digs_val 19 n (by omega)
  refine ⟨⟨(digs_length 19 n).2, ?_, ?_, by omega⟩, hv⟩
  · intro h0
    rcases Nat.lt_or_ge n 1 with h1 | h1
    · have : n = 0 := by omega
      subst this
      decide
    · exact absurd h0 (digs_head 19 n h1 (by omega))
  · intro j hj
    have := digs_digit 19 n ((digs 19 n).getD j 0) (by simp [List.getD, List.getElem?_eq_getElem hj])
    exact this

theorem bad_neg (l : List UInt8) : ¬ GoodDec (ub 45 :: l) := digit_bad _ 0 (by simp) (.inl (by simp [List.getD]; rw [ub_toNat _ (by omega)]; omega))

theorem digs_take (l : List UInt8) (hd : ∀ j, j < l.length → 48 ≤ (l.getD j 0).toNat ∧ (l.getD j 0).toNat ≤ 57) (h0 : (l.getD 0 0).toNat = 48 → l.length = 1) :
    ∀ k, k < l.length → ∀ f, k ≤ f → digs f (decVal (l.take (k + 1))) = l.take (k + 1) := by
  have last : ∀ (c : UInt8), 48 ≤ c.toNat → c.toNat ≤ 57 → ub (48 + (c.toNat - 48)) = c := fun c h1 h2 => by
    apply UInt8.toNat_inj.1
    rw [ub_toNat _ (by omega)]
    omega
  have tk : ∀ k, k < l.length → l.take (k + 1) = l.take k ++ [l.getD k 0] := fun k h => by
    rw [List.take_succ_eq_append_getElem h]
    simp [List.getD, List.getElem?_eq_getElem h]
  intro k
  induction k with
  | zero =>
    intro h f _
    have hc := hd 0 h
    rw [val_take l 0 h]
    have e : decVal (l.take 0) * 10 + ((l.getD 0 0).toNat - 48) = (l.getD 0 0).toNat - 48 := by simp [decVal]
    rw [e, digs_small f _ (by omega), tk 0 h, Nat.mod_eq_of_lt (by omega), last _ hc.1 hc.2]
    simp
  | succ k ih =>
    intro h f hf
    cases f with
    | zero => omega
    | succ f =>
      have hc := hd (k + 1) h
      have hne : (l.getD 0 0).toNat ≠ 48 := fun e => by have := h0 e; omega
      have hge := val_ge l (by omega) hd hne k (by omega)
      have hpos : 1 ≤ 10 ^ k := Nat.pow_pos (by omega)
      rw [val_take l (k + 1) h, digs_big f _ (by omega)]
      have e1 : (decVal (l.take (k + 1)) * 10 + ((l.getD (k + 1) 0).toNat - 48)) / 10 = decVal (l.take (k + 1)) := by omega
      have e2 : (decVal (l.take (k + 1)) * 10 + ((l.getD (k + 1) 0).toNat - 48)) % 10 = (l.getD (k + 1) 0).toNat - 48 := by omega
      rw [e1, e2, ih (by omega) f (by omega), last _ hc.1 hc.2, tk (k + 1) h]

theorem digs_of_good (l : List UInt8) (h : GoodDec l) : digs 19 (decVal l) = l := by
  have hl : l.length ≤ 19 := by
    rcases Nat.lt_or_ge 19 l.length with h1 | h1
    · exact absurd h (long_bad l h1)
    · exact h1
  obtain ⟨h1, h2, h3, h4⟩ := h
  have := digs_take l h3 h2 (l.length - 1) (by omega) 19 (by omega)
  rwa [show l.length - 1 + 1 = l.length by omega, List.take_length] at this

end Go.Proofs.YtinofdmdfhklpaaDoor
