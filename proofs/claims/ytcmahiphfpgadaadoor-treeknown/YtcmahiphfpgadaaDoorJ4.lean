/- Rounding: which word is nearest to a number, what it is worth, and where it is exact: no program is named here. -/
import Derived.Test.YtcmahiphfpgadaaDoorJ3
namespace Go.Proofs.YtcmahiphfpgadaaDoor
open Ieee
set_option linter.unusedVariables false

/-- 'n / 2^d', to the nearest whole number, of two as near the even one. -/
def rne (n d : Nat) : Nat := n / pw d + if pw d < 2 * (n % pw d) ∨ (pw d = 2 * (n % pw d) ∧ n / pw d % 2 = 1) then 1 else 0

theorem gap_eq (n d : Nat) : ((1 <<< min d (n.log2 + 2)) = pw d) ∨ (n / pw d = 0 ∧ n % pw d = n ∧ 2 * n < pw d ∧ n / (1 <<< min d (n.log2 + 2)) = 0 ∧ n % (1 <<< min d (n.log2 + 2)) = n ∧ 2 * n < (1 <<< min d (n.log2 + 2))) := by
  rw [Nat.shiftLeft_eq, Nat.one_mul]
  by_cases h : d ≤ n.log2 + 2
  · left; rw [Nat.min_eq_left h]; rfl
  · right
    rw [Nat.min_eq_right (by omega)]
    have h0 : n < 2 ^ (n.log2 + 1) := Nat.lt_log2_self
    have e2 : 2 ^ (n.log2 + 2) = 2 ^ (n.log2 + 1) * 2 := Nat.pow_succ 2 _
    have h2 : 2 ^ (n.log2 + 2) ≤ pw d := Nat.pow_le_pow_right (by decide) (by omega)
    refine ⟨Nat.div_eq_of_lt (by omega), Nat.mod_eq_of_lt (by omega), by omega, Nat.div_eq_of_lt (by omega), Nat.mod_eq_of_lt (by omega), by omega⟩

theorem cut_even (s : Bool) (n d : Nat) : Toward.cut .even s n d = rne n d := by
  have key : ∀ g : Nat, (g = pw d) ∨ (n / pw d = 0 ∧ n % pw d = n ∧ 2 * n < pw d ∧ n / g = 0 ∧ n % g = n ∧ 2 * n < g) →
      n / g + (decide (g < 2 * (n % g)) || (g == 2 * (n % g) && n / g % 2 == 1)).toNat = rne n d := by
    intro g hg
    rcases hg with rfl | ⟨h1, h2, h3, h4, h5, h6⟩
    · unfold rne
      by_cases c1 : pw d < 2 * (n % pw d)
      · simp [c1]
      · by_cases c2 : pw d = 2 * (n % pw d)
        · by_cases c3 : n / pw d % 2 = 1
          · rw [if_pos (.inr ⟨c2, c3⟩), decide_eq_false c1, show (pw d == 2 * (n % pw d)) = true by simpa using c2, show (n / pw d % 2 == 1) = true by simpa using c3]; rfl
          · rw [if_neg (by rintro (h | ⟨_, h⟩); exact c1 h; exact c3 h), decide_eq_false c1, show (n / pw d % 2 == 1) = false by simpa using c3, Bool.and_false]; rfl
        · rw [if_neg (by rintro (h | ⟨h, _⟩); exact c1 h; exact c2 h), decide_eq_false c1, show (pw d == 2 * (n % pw d)) = false by simpa using c2, Bool.false_and]; rfl
    · unfold rne
      rw [h1, h2, h4, h5, if_neg (by rintro (h | ⟨h, _⟩) <;> omega), decide_eq_false (by omega), show (g == 2 * n) = false by rw [beq_eq_false_iff_ne]; omega]
      rfl
  exact key _ (gap_eq n d)

theorem rne_zero (n : Nat) : rne n 0 = n := by
  unfold rne
  have : pw 0 = 1 := rfl
  rw [this, Nat.div_one, Nat.mod_one, if_neg (by omega)]; rfl

theorem rne_scale (n a b : Nat) : rne (n * pw a) (b + a) = rne n b := by
  unfold rne
  have ha := pw_pos a
  rw [pw_add, Nat.mul_comm n, Nat.mul_comm (pw b), Nat.mul_div_mul_left _ _ ha, Nat.mul_mod_mul_left]
  generalize n % pw b = r
  have e1 : 2 * (pw a * r) = pw a * (2 * r) := by rw [Nat.mul_left_comm]
  rw [e1]
  have c1 : pw a * pw b < pw a * (2 * r) ↔ pw b < 2 * r := Nat.mul_lt_mul_left ha
  have c2 : pw a * pw b = pw a * (2 * r) ↔ pw b = 2 * r := Nat.mul_right_inj (by omega)
  simp only [c1, c2]

/-- It is off by half at most. -/
theorem rne_near (n d : Nat) : 2 * (rne n d * pw d) ≤ 2 * n + pw d ∧ 2 * n ≤ 2 * (rne n d * pw d) + pw d := by
  unfold rne
  have h := Nat.div_add_mod n (pw d)
  have hp := pw_pos d
  have hm := Nat.mod_lt n hp
  generalize n / pw d = q at h ⊢
  generalize n % pw d = r at h hm ⊢
  generalize pw d = P at h hp hm ⊢
  have e : (q + 1) * P = P * q + P := by rw [Nat.add_mul, Nat.mul_comm q]; omega
  have e0 : (q + 0) * P = P * q := by rw [Nat.add_zero, Nat.mul_comm]
  split
  · rw [e]; omega
  · rename_i hc
    rw [e0]
    have : 2 * r ≤ P := by omega
    omega

/-- Where it is off by just a half it is even. -/
theorem rne_tie (n d : Nat) (h : 2 * (rne n d * pw d) = 2 * n + pw d ∨ 2 * n = 2 * (rne n d * pw d) + pw d) : rne n d % 2 = 0 := by
  unfold rne at h ⊢
  have hd := Nat.div_add_mod n (pw d)
  have hp := pw_pos d
  have hm := Nat.mod_lt n hp
  generalize n / pw d = q at h hd ⊢
  generalize n % pw d = r at h hd hm ⊢
  generalize pw d = P at h hd hp hm ⊢
  have e : (q + 1) * P = P * q + P := by rw [Nat.add_mul, Nat.mul_comm q]; omega
  have e0 : (q + 0) * P = P * q := by rw [Nat.add_zero, Nat.mul_comm]
  split at h
  · rename_i hc
    rw [if_pos hc]
    rw [e] at h
    omega
  · rename_i hc
    rw [if_neg hc]
    rw [e0] at h
    omega

/-- The place of the last digit that is kept, and what is kept. -/
def lastOf (m : Nat) (p : Int) : Int := max (p + m.log2 - 52) (-1074)
def keptOf (m : Nat) (p : Int) : Nat := rne (m * pw (p - lastOf m p).toNat) (lastOf m p - p).toNat

theorem nearest_eq (s : Bool) (m : Nat) (p : Int) (hm : m ≠ 0) : D.nearest s m p = D.word s (min ((lastOf m p + 1074).toNat * 4503599627370496 + keptOf m p) 9218868437227405312) := by
  unfold Format.nearest
  rw [if_neg hm]
  simp only [cut_even, Nat.shiftLeft_eq]
  rfl

theorem log2_bounds (m : Nat) (hm : m ≠ 0) : pw m.log2 ≤ m ∧ m < pw (m.log2 + 1) := ⟨Nat.log2_self_le hm, Nat.lt_log2_self⟩

theorem last_ge (m : Nat) (p : Int) : -1074 ≤ lastOf m p := by unfold lastOf; omega

/-- What is kept has at most 53 digits, or is 2^53; and 53 of them where the place is not the least. -/
theorem kept_bounds (m : Nat) (p : Int) (hm : m ≠ 0) : keptOf m p ≤ 9007199254740992 ∧ (lastOf m p = -1074 ∨ 4503599627370496 ≤ keptOf m p) := by
  obtain ⟨h1, h2⟩ := log2_bounds m hm
  have hl : p + m.log2 - 52 ≤ lastOf m p := by unfold lastOf; omega
  have hl2 : lastOf m p = -1074 ∨ lastOf m p = p + m.log2 - 52 := by unfold lastOf; omega
  unfold keptOf
  by_cases ht : lastOf m p ≤ p
  · rw [show (lastOf m p - p).toNat = 0 by omega, rne_zero]
    have e1 : m * pw (p - lastOf m p).toNat < pw (m.log2 + 1) * pw (p - lastOf m p).toNat := Nat.mul_lt_mul_of_pos_right h2 (pw_pos _)
    rw [← pw_add] at e1
    have e2 : pw (m.log2 + 1 + (p - lastOf m p).toNat) ≤ pw 53 := pw_le (by omega)
    have e3 : pw 53 = 9007199254740992 := rfl
    refine ⟨by omega, ?_⟩
    rcases hl2 with h | h
    · exact .inl h
    · right
      have e4 : pw m.log2 * pw (p - lastOf m p).toNat ≤ m * pw (p - lastOf m p).toNat := Nat.mul_le_mul_right _ h1
      rw [← pw_add, show m.log2 + (p - lastOf m p).toNat = 52 by omega] at e4
      exact e4
  · rw [show (p - lastOf m p).toNat = 0 by omega]
    obtain ⟨d, hd⟩ : ∃ d, d = (lastOf m p - p).toNat := ⟨_, rfl⟩
    rw [← hd, show pw 0 = 1 from rfl, Nat.mul_one]
    have hq : m / pw d < 9007199254740992 := by
      rw [Nat.div_lt_iff_lt_mul (pw_pos d)]
      refine Nat.lt_of_lt_of_le h2 ?_
      rw [show (9007199254740992 : Nat) = pw 53 from rfl, ← pw_add]
      exact pw_le (by omega)
    refine ⟨?_, ?_⟩
    · unfold rne; split <;> omega
    · rcases hl2 with h | h
      · exact .inl h
      · right
        have : 4503599627370496 ≤ m / pw d := by
          rw [Nat.le_div_iff_mul_le (pw_pos d), show (4503599627370496 : Nat) = pw 52 from rfl, ← pw_add]
          exact Nat.le_trans (pw_le (by omega)) h1
        unfold rne; omega

/-- What a word is worth by its rung. -/
theorem read_rung (s : Bool) (E k : Nat) (hk : k ≤ 9007199254740992) (hE : E = 0 ∨ 4503599627370496 ≤ k) (hr : E * 4503599627370496 + k < 9218868437227405312) :
    ∃ m e, D.read (D.word s (E * 4503599627370496 + k)) = .number s m e ∧ m * pw (e + 1074).toNat = k * pw E := by
  have hw : (D.word s (E * 4503599627370496 + k)) % 9223372036854775808 = E * 4503599627370496 + k := by rw [word_eq]; cases s <;> simp <;> omega
  have hs : ((D.word s (E * 4503599627370496 + k)) / 9223372036854775808 % 2 == 1) = s := by
    rw [word_eq]
    cases s
    · simp; omega
    · simp; omega
  rw [read_eq, hw, hs]
  by_cases c0 : E * 4503599627370496 + k < 4503599627370496
  · rw [if_pos c0]
    refine ⟨_, _, rfl, ?_⟩
    obtain rfl : E = 0 := by omega
    simp
  · rw [if_neg c0, if_pos hr]
    refine ⟨_, _, rfl, ?_⟩
    rw [show (-1074 + (((E * 4503599627370496 + k) / 4503599627370496 - 1 : Nat) : Int) + 1074).toNat = (E * 4503599627370496 + k) / 4503599627370496 - 1 by omega]
    by_cases c1 : k < 9007199254740992
    · have hk2 : 4503599627370496 ≤ k := by omega
      rw [show (E * 4503599627370496 + k) / 4503599627370496 - 1 = E by omega, show 4503599627370496 + (E * 4503599627370496 + k) % 4503599627370496 = k by omega]
    · obtain rfl : k = 9007199254740992 := by omega
      rw [show (E * 4503599627370496 + 9007199254740992) / 4503599627370496 - 1 = E + 1 by omega, show 4503599627370496 + (E * 4503599627370496 + 9007199254740992) % 4503599627370496 = 4503599627370496 by omega]
      rw [pw_add, ← Nat.mul_assoc, Nat.mul_right_comm]
      rfl

/-- What the nearest word reads as, where it is finite. -/
theorem nearest_read (s : Bool) (m : Nat) (p : Int) (hm : m ≠ 0) (hp : p + m.log2 ≤ 1022) :
    ∃ m' e', D.read (D.nearest s m p) = .number s m' e' ∧ m' * pw (e' + 1074).toNat = keptOf m p * pw (lastOf m p + 1074).toNat := by
  obtain ⟨h1, h2⟩ := kept_bounds m p hm
  have hl := last_ge m p
  have hlu : lastOf m p ≤ 970 := by unfold lastOf; omega
  rw [nearest_eq s m p hm]
  have hr : (lastOf m p + 1074).toNat * 4503599627370496 + keptOf m p < 9218868437227405312 := by omega
  rw [Nat.min_eq_left (by omega)]
  exact read_rung s _ _ h1 (by rcases h2 with h | h; left; omega; right; exact h) hr

/-- A whole number of digits more, as many places less. -/
theorem log2_scale (m k : Nat) (hm : m ≠ 0) : (m * pw k).log2 = m.log2 + k := by
  obtain ⟨h1, h2⟩ := log2_bounds m hm
  have hp := pw_pos k
  have hne : m * pw k ≠ 0 := by
    have := Nat.mul_pos (Nat.pos_of_ne_zero hm) hp
    omega
  rw [Nat.log2_eq_iff hne]
  refine ⟨?_, ?_⟩
  · rw [Nat.pow_add]; exact Nat.mul_le_mul_right _ h1
  · have : m * pw k < pw (m.log2 + 1) * pw k := Nat.mul_lt_mul_of_pos_right h2 hp
    rw [← pw_add] at this
    rw [show m.log2 + k + 1 = m.log2 + 1 + k by omega]
    exact this

theorem last_scale (m k : Nat) (p : Int) (hm : m ≠ 0) : lastOf (m * pw k) (p - k) = lastOf m p := by
  unfold lastOf; rw [log2_scale m k hm]; omega

theorem kept_scale (m k : Nat) (p : Int) (hm : m ≠ 0) : keptOf (m * pw k) (p - k) = keptOf m p := by
  unfold keptOf
  rw [last_scale m k p hm]
  generalize lastOf m p = L
  by_cases h1 : L ≤ p
  · by_cases h2 : (k : Int) ≤ p - L
    · rw [show (L - (p - k)).toNat = 0 by omega, show (L - p).toNat = 0 by omega, Nat.mul_assoc, ← pw_add]
      congr 3; omega
    · have e : pw k = pw (p - L).toNat * pw (L - (p - k)).toNat := by rw [← pw_add]; congr 1; omega
      rw [show (p - k - L).toNat = 0 by omega, show (L - p).toNat = 0 by omega, e, show pw 0 = 1 from rfl, Nat.mul_one, ← Nat.mul_assoc]
      have := rne_scale (m * pw (p - L).toNat) (L - (p - k)).toNat 0
      rwa [Nat.zero_add] at this
  · rw [show (p - k - L).toNat = 0 by omega, show (p - L).toNat = 0 by omega, show pw 0 = 1 from rfl, Nat.mul_one, Nat.mul_one, show (L - (p - k)).toNat = (L - p).toNat + k by omega]
    exact rne_scale m k _

theorem nearest_scale (s : Bool) (m k : Nat) (p : Int) : D.nearest s (m * pw k) (p - k) = D.nearest s m p := by
  by_cases hm : m = 0
  · subst hm
    rw [Nat.zero_mul]
    unfold Format.nearest
    rw [if_pos rfl, if_pos rfl]
  · have hne : m * pw k ≠ 0 := by
      have := Nat.mul_pos (Nat.pos_of_ne_zero hm) (pw_pos k)
      omega
    rw [nearest_eq s _ _ hne, nearest_eq s m p hm, last_scale m k p hm, kept_scale m k p hm]

/-- What is read of a word is written as it. -/
theorem write_read {b : Nat} (hb : b < 18446744073709551616) (hn : isNan b = false) : D.write (D.read b) = b := by
  have hs : ∀ r, r = b % 9223372036854775808 → D.word (b / 9223372036854775808 % 2 == 1) r = b := by
    rintro r rfl
    rw [word_eq]
    by_cases h : b / 9223372036854775808 % 2 = 1
    · rw [if_pos (by simpa using h)]; omega
    · rw [if_neg (by simpa using h)]; omega
  rw [read_eq]
  by_cases c0 : b % 9223372036854775808 < 4503599627370496
  · rw [if_pos c0]
    show D.nearest _ _ _ = b
    by_cases h0 : b % 9223372036854775808 = 0
    · unfold Format.nearest
      rw [if_pos h0]
      exact hs 0 h0.symm
    · rw [nearest_eq _ _ _ h0]
      apply hs
      obtain ⟨l1, l2⟩ := log2_bounds _ h0
      have hlog : (b % 9223372036854775808).log2 < 52 := (Nat.log2_lt h0).2 c0
      have hl : lastOf (b % 9223372036854775808) (-1074) = -1074 := by unfold lastOf; omega
      unfold keptOf
      rw [hl]
      simp only [Int.sub_self, Int.toNat_zero, rne_zero, show pw 0 = 1 from rfl, Nat.mul_one]
      omega
  · rw [if_neg c0]
    by_cases c1 : b % 9223372036854775808 < 9218868437227405312
    · rw [if_pos c1]
      show D.nearest _ _ _ = b
      rw [nearest_eq _ _ _ (by omega)]
      apply hs
      generalize b % 9223372036854775808 = r at c0 c1 ⊢
      have hlog : (4503599627370496 + r % 4503599627370496).log2 = 52 := (Nat.log2_eq_iff (by omega)).2 ⟨by omega, by omega⟩
      have hl : lastOf (4503599627370496 + r % 4503599627370496) (-1074 + ((r / 4503599627370496 - 1 : Nat) : Int)) = -1074 + ((r / 4503599627370496 - 1 : Nat) : Int) := by unfold lastOf; rw [hlog]; omega
      unfold keptOf
      rw [hl]
      simp only [Int.sub_self, Int.toNat_zero, rne_zero, show pw 0 = 1 from rfl, Nat.mul_one]
      omega
    · rw [if_neg c1]
      simp only [isNan, decide_eq_false_iff_not] at hn
      rw [if_pos (by omega)]
      exact hs _ (by rw [D_inf]; omega)

end Go.Proofs.YtcmahiphfpgadaaDoor
