/- The document's own dec: a number's digits, at least so many. -/
import Derived.Test.YthemfblckliclaaRefParse2
namespace Go.Proofs.Ythemfblckliclaa
open Go.RowKit
set_option linter.unusedVariables false

/-- A number's digits, at least so many; 'f' rounds at most. -/
def padF : Nat → Nat → Nat → List UInt8
  | 0, _, _ => []
  | f + 1, n, k => if 0 < n ∨ 0 < k then padF f (n / 10) (k - 1) ++ [ub (48 + n % 10)] else []

theorem pad_one (f : Nat) : ∀ n, n < 10 ^ (f + 1) → padF (f + 1) n 1 = digs f n := by
  have key : ∀ (f n : Nat), 0 < n → n < 10 ^ (f + 1) → padF (f + 1) n 0 = digs f n := by
    intro f
    induction f with
    | zero =>
      intro n h0 hn
      have h10 : n / 10 = 0 := by simp at hn; omega
      rw [padF, if_pos (.inl h0), digs]
      simp [padF]
    | succ f ih =>
      intro n h0 hn
      rw [padF, if_pos (.inl h0)]
      by_cases hs : n < 10
      · rw [digs_small _ _ hs, show n / 10 = 0 by omega]
        simp [padF]
      · rw [digs_big f n (by omega), show (0 - 1 : Nat) = 0 from rfl, ih (n / 10) (by omega) (by rw [Nat.div_lt_iff_lt_mul (by decide)]; rwa [Nat.pow_succ] at hn)]
  intro n hn
  cases f with
  | zero => rw [padF, if_pos (.inr (by decide)), digs]; simp [padF]
  | succ f =>
    rw [padF, if_pos (.inr (by decide))]
    by_cases hs : n < 10
    · rw [digs_small _ _ hs, show n / 10 = 0 by omega]
      simp [padF]
    · rw [digs_big f n (by omega), show (1 - 1 : Nat) = 0 from rfl, key f (n / 10) (by omega) (by rw [Nat.div_lt_iff_lt_mul (by decide)]; rwa [Nat.pow_succ] at hn)]

/-- More rounds change nothing. -/
theorem pad_more (f : Nat) : ∀ n k, n < 10 ^ f → k ≤ f → padF (f + 1) n k = padF f n k := by
  induction f with
  | zero =>
    intro n k hn hk
    simp at hn
    obtain rfl : k = 0 := by omega
    subst hn
    rfl
  | succ f ih =>
    intro n k hn hk
    rw [padF]
    conv => rhs; rw [padF]
    rw [ih (n / 10) (k - 1) (by rw [Nat.div_lt_iff_lt_mul (by decide)]; rwa [Nat.pow_succ] at hn) (by omega)]

theorem pad_more' (f d n k : Nat) (hn : n < 10 ^ f) (hk : k ≤ f) : padF (f + d) n k = padF f n k := by
  induction d with
  | zero => rfl
  | succ d ih =>
    rw [show f + (d + 1) = f + d + 1 by omega, pad_more (f + d) n k (Nat.lt_of_lt_of_le hn (Nat.pow_le_pow_right (by decide) (by omega))) (by omega), ih]

/-- The digits behind the point are those behind a 1. -/
theorem pad_behind (k : Nat) : ∀ r, r < 10 ^ k → ∀ f, k ≤ f → 49 :: padF f r k = digs (f + 1) (10 ^ k + r) := by
  induction k with
  | zero =>
    intro r hr f hf
    simp at hr
    subst hr
    have hp : padF f 0 0 = [] := by cases f <;> simp [padF]
    rw [hp, digs_small _ _ (by simp)]
    decide
  | succ k ih =>
    intro r hr f hf
    obtain ⟨g, rfl⟩ : ∃ g, f = g + 1 := ⟨f - 1, by omega⟩
    rw [padF, if_pos (.inr (by omega)), ← List.cons_append]
    have hr' : r / 10 < 10 ^ k := by rw [Nat.div_lt_iff_lt_mul (by decide)]; rwa [Nat.pow_succ] at hr
    have e := ih (r / 10) hr' g (by omega)
    rw [show k + 1 - 1 = k by omega, e]
    have hp : 0 < 10 ^ k := Nat.pow_pos (by decide)
    rw [digs_big (g + 1) (10 ^ (k + 1) + r) (by rw [Nat.pow_succ]; omega)]
    have h1 : (10 ^ (k + 1) + r) / 10 = 10 ^ k + r / 10 := by rw [Nat.pow_succ]; omega
    have h2 : (10 ^ (k + 1) + r) % 10 = r % 10 := by rw [Nat.pow_succ]; omega
    rw [h1, h2]

/-- The document's text of a candidate is the code's literal. -/
theorem pad_lit (k n : Nat) (h6 : k ≤ 6) (hn : n ≤ 10000000000000000) : padF 20 (n / 10 ^ k) 1 ++ ([46] ++ padF 20 (n % 10 ^ k) k) = litOf k n := by
  have hs := scale_bounds k h6
  have hlt : n / 10 ^ k < 10 ^ 20 := Nat.lt_of_le_of_lt (Nat.div_le_self _ _) (by omega)
  have h1 := pad_one 19 (n / 10 ^ k) hlt
  have hr : n % 10 ^ k < 10 ^ k := Nat.mod_lt _ (by omega)
  have h2 := pad_behind k (n % 10 ^ k) hr 18 (by omega)
  have h3 := pad_more' 18 2 (n % 10 ^ k) k (Nat.lt_of_lt_of_le hr (Nat.pow_le_pow_right (by decide) (by omega))) (by omega)
  unfold litOf
  rw [decOf_nat, decOf_nat, h1, ← h2, h3]
  rfl

theorem cut10b : ∀ j : Fin 10, (({ data := #[48, 49, 50, 51, 52, 53, 54, 55, 56, 57] } : ByteArray).extract j.val (j.val + 1)) = ⟨#[ub (48 + j.val)]⟩ := by decide +kernel

set_option maxRecDepth 100000 in
set_option maxHeartbeats 1600000 in
theorem rdec_any (N K : Nat) (hN : N ≤ 10000000000000000) (hK : K ≤ 6) (w : World) : Calls Try.prog 51 #[.int .i64 (N : Int), .int .i64 (K : Int)] w fun e w' => e = .returned (.string ⟨(padF 20 N K).toArray⟩) ∧ w' = w := by
  have hN20 : N < 10 ^ 20 := by omega
  go_enter Try.func51, Try.ntmps51
  go_wp2
  go_loop [0, 1, 5] (fun t k v => ∃ (f m : Nat) (z : Int) (l : List UInt8), f + l.length = 20 ∧ m ≤ 10000000000000000 ∧ Hid (m < 10 ^ f) ∧ z ≤ 6 ∧ -20 ≤ z ∧ z + 20 ≥ f ∧ z ≤ f ∧ t = .int .i64 (m : Int) ∧ k = .int .i64 z ∧ v = .string ⟨l.toArray⟩ ∧ Hid (padF f m z.toNat ++ l = padF 20 N K)) (fun t k _ => (intOf t).toNat + (intOf k).toNat)
  case atStart => exact ⟨20, N, K, [], rfl, hN, hN20, by omega, by omega, by omega, by omega, rfl, rfl, rfl, (by show _ = _; simp)⟩
  case round =>
    obtain ⟨f, m, z, l, hf, hm, hmf, hz6, hz20, hzf, hzf2, rfl, rfl, rfl, hsh⟩ := hrel
    by_cases hc : 0 < m ∨ 0 < z
    · have hf0 : f ≠ 0 := by
        intro h
        have := hmf.out
        rw [h] at this
        simp at this
        omega
      obtain ⟨g, rfl⟩ : ∃ g, f = g + 1 := ⟨f - 1, by omega⟩
      have hcut := cut10b ⟨m % 10, by omega⟩
      simp only at hcut
      have HS : Hid (padF g (m / 10) (z - 1).toNat ++ (ub (48 + m % 10) :: l) = padF 20 N K) := by
        show _ = _
        rw [← hsh.out, padF, if_pos (by omega), show z.toNat - 1 = (z - 1).toNat by omega]
        simp
      have HM : Hid (m / 10 < 10 ^ g) := by
        show _ < _
        have := hmf.out
        rw [Nat.pow_succ] at this
        rw [Nat.div_lt_iff_lt_mul (by decide)]; exact this
      have hl : l.length ≤ 20 := by omega
      have hsz : (⟨l.toArray⟩ : ByteArray).size = l.length := size_mk l
      clear hsh hmf
      by_cases hm0 : 0 < m
      · go_wp2
        go_round
        case rel => exact ⟨g, m / 10, z - 1, ub (48 + m % 10) :: l, by simp; omega, by omega, HM, by omega, by omega, by omega, by omega, by go_num, by go_num, by rw [cat_one], HS⟩
        case measure => simp [intOf]; omega
      · go_wp2
        go_round
        case rel => exact ⟨g, m / 10, z - 1, ub (48 + m % 10) :: l, by simp; omega, by omega, HM, by omega, by omega, by omega, by omega, by go_num, by go_num, by rw [cat_one], HS⟩
        case measure => simp [intOf]; omega
    · have HS : Hid (l = padF 20 N K) := by
        show _ = _
        rw [← hsh.out]
        have : padF f m z.toNat = [] := by
          cases f with
          | zero => rfl
          | succ f => rw [padF, if_neg (by omega)]
        rw [this]; simp
      clear hsh hmf
      go_wp2
      go_ret
      exact ⟨by rw [← HS.out]; rfl, rfl⟩

end Go.Proofs.Ythemfblckliclaa
