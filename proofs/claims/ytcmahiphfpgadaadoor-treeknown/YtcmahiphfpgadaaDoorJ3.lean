/- What a real is worth, as a whole number of units of 2^-1074; that reals compare as these do; and its whole part: no program is named here. -/
import Derived.Test.YtcmahiphfpgadaaDoorJ2
namespace Go.Proofs.YtcmahiphfpgadaaDoor
open Ieee
set_option linter.unusedVariables false

/-- A power of two, by a name of its own. -/
def pw (k : Nat) : Nat := 2 ^ k
theorem pw_def (k : Nat) : pw k = 2 ^ k := rfl
theorem pw_pos (k : Nat) : 0 < pw k := Nat.two_pow_pos k
theorem pw_add (a b : Nat) : pw (a + b) = pw a * pw b := Nat.pow_add 2 a b
theorem pw_le {a b : Nat} (h : a ≤ b) : pw a ≤ pw b := Nat.pow_le_pow_right (by decide) h
theorem pw_lt {a b : Nat} (h : a < b) : pw a < pw b := Nat.pow_lt_pow_right (by decide) h

theorem signed_eq (s : Bool) (m k : Nat) : signed s m k = if s then -((m * pw k : Nat) : Int) else ((m * pw k : Nat) : Int) := by
  simp [signed, Nat.shiftLeft_eq, pw_def]

theorem signed_add (s : Bool) (m i k : Nat) : signed s m (i + k) = signed s m i * ((pw k : Nat) : Int) := by
  rw [signed_eq, signed_eq, pw_add, ← Nat.mul_assoc]
  cases s <;> simp [Int.neg_mul]

theorem compare_int (x y : Int) : compare x y = if x < y then .lt else if x = y then .eq else .gt := rfl

theorem compare_scale (x y : Int) (k : Nat) (hk : 0 < k) : compare (x * (k : Int)) (y * (k : Int)) = compare x y := by
  rw [compare_int, compare_int]
  have h : (0 : Int) < (k : Int) := by omega
  by_cases h1 : x < y
  · rw [if_pos h1, if_pos (Int.mul_lt_mul_of_pos_right h1 h)]
  · rw [if_neg h1, if_neg (fun hh => h1 (Int.lt_of_mul_lt_mul_right hh (Int.le_of_lt h)))]
    by_cases h2 : x = y
    · rw [if_pos h2, if_pos (by rw [h2])]
    · rw [if_neg h2, if_neg (fun hh => h2 (Int.eq_of_mul_eq_mul_right (by omega) hh))]

theorem compare_lt {x y : Int} (h : x < y) : compare x y = .lt := by rw [compare_int, if_pos h]
theorem compare_gt {x y : Int} (h : y < x) : compare x y = .gt := by rw [compare_int, if_neg (by omega), if_neg (by omega)]
theorem compare_same {x y : Int} (h : x = y) : compare x y = .eq := by rw [compare_int, if_neg (by omega), if_pos h]

/-- More than any finite real is worth. -/
def TOP : Nat := pw 2200

/-- What a datum is worth. -/
def worth : Datum → Int
  | .number s m e => signed s m (e + 1074).toNat
  | .infinity s => if s then -(TOP : Int) else (TOP : Int)
  | .nan .. => 0

/-- What a word is worth. -/
def val (b : Nat) : Int := worth (D.read b)

/-- The shape of a word's number. -/
theorem read_shape {b : Nat} {s : Bool} {m : Nat} {e : Int} (h : D.read b = .number s m e) : s = (b / 9223372036854775808 % 2 == 1) ∧ m < 9007199254740992 ∧ -1074 ≤ e ∧ e ≤ 971 := by
  rw [read_eq] at h
  split at h
  · cases h
    refine ⟨rfl, by omega, by omega, by omega⟩
  · split at h
    · cases h
      refine ⟨rfl, by omega, by omega, by omega⟩
    · split at h <;> cases h

theorem number_small {b : Nat} {s : Bool} {m : Nat} {e : Int} (h : D.read b = .number s m e) : m * pw (e + 1074).toNat < TOP := by
  obtain ⟨_, h1, h2, h3⟩ := read_shape h
  have h4 : pw (e + 1074).toNat ≤ pw 2045 := pw_le (by omega)
  have h5 : m * pw (e + 1074).toNat ≤ pw 53 * pw 2045 := Nat.mul_le_mul (Nat.le_of_lt (show m < 2 ^ 53 from h1)) h4
  rw [← pw_add] at h5
  exact Nat.lt_of_le_of_lt h5 (pw_lt (by decide))

theorem TOP_pos : 0 < TOP := pw_pos _

theorem order_numbers (s t : Bool) (m n : Nat) (i j : Int) (hi : -1074 ≤ i) (hj : -1074 ≤ j) :
    Datum.order (.number s m i) (.number t n j) = some (compare (signed s m (i + 1074).toNat) (signed t n (j + 1074).toNat)) := by
  have e1 : (i + 1074).toNat = (i - min i j).toNat + (min i j + 1074).toNat := by omega
  have e2 : (j + 1074).toNat = (j - min i j).toNat + (min i j + 1074).toNat := by omega
  rw [e1, e2, signed_add, signed_add, compare_scale _ _ _ (pw_pos _)]
  rfl

theorem order_val {b c : Nat} (hb : isNan b = false) (hc : isNan c = false) : D.order b c = some (compare (val b) (val c)) := by
  unfold Format.order val
  have hT := TOP_pos
  rcases read_real hb with ⟨s, m, i, h1⟩ | ⟨s, h1⟩ <;> rcases read_real hc with ⟨t, n, j, h2⟩ | ⟨t, h2⟩
  · rw [h1, h2, order_numbers _ _ _ _ _ _ (read_shape h1).2.2.1 (read_shape h2).2.2.1]
    rfl
  · have := number_small h1
    rw [h1, h2]
    simp only [Datum.order, worth, signed_eq]
    generalize m * pw (i + 1074).toNat = x at this ⊢
    cases t
    · rw [compare_lt (by cases s <;> simp only [Bool.false_eq_true, if_false, if_true] <;> omega)]; rfl
    · rw [compare_gt (by cases s <;> simp only [Bool.false_eq_true, if_false, if_true] <;> omega)]; rfl
  · have := number_small h2
    rw [h1, h2]
    simp only [Datum.order, worth, signed_eq]
    generalize n * pw (j + 1074).toNat = x at this ⊢
    cases s
    · rw [compare_gt (by cases t <;> simp only [Bool.false_eq_true, if_false, if_true] <;> omega)]; rfl
    · rw [compare_lt (by cases t <;> simp only [Bool.false_eq_true, if_false, if_true] <;> omega)]; rfl
  · rw [h1, h2]
    simp only [Datum.order, worth]
    cases s <;> cases t <;> simp only [Bool.false_eq_true, if_false, if_true]
    · rw [compare_same rfl]; rfl
    · rw [compare_gt (by omega)]; rfl
    · rw [compare_lt (by omega)]; rfl
    · rw [compare_same rfl]; rfl

theorem lt_val {b c : Nat} (hb : isNan b = false) (hc : isNan c = false) : (D.order b c == some .lt) = decide (val b < val c) := by
  rw [order_val hb hc, compare_int]
  by_cases h1 : val b < val c
  · simp [h1]
  · by_cases h2 : val b = val c <;> simp [h1, h2]

theorem eq_val {b c : Nat} (hb : isNan b = false) (hc : isNan c = false) : (D.order b c == some .eq) = decide (val b = val c) := by
  rw [order_val hb hc, compare_int]
  by_cases h1 : val b < val c
  · simp [h1]; omega
  · by_cases h2 : val b = val c <;> simp [h1, h2]

theorem ge_val {b c : Nat} (hb : isNan b = false) (hc : isNan c = false) : (D.order b c == some .gt || D.order b c == some .eq) = decide (val c ≤ val b) := by
  rw [order_val hb hc, compare_int]
  by_cases h1 : val b < val c
  · simp [h1]
  · by_cases h2 : val b = val c <;> simp [h1, h2] <;> omega

theorem nan_lt {b c : Nat} (h : isNan b = true ∨ isNan c = true) : (D.order b c == some .lt) = false := by rw [order_nan h]; rfl
theorem nan_eq {b c : Nat} (h : isNan b = true ∨ isNan c = true) : (D.order b c == some .eq) = false := by rw [order_nan h]; rfl
theorem nan_ge {b c : Nat} (h : isNan b = true ∨ isNan c = true) : (D.order b c == some .gt || D.order b c == some .eq) = false := by rw [order_nan h]; rfl

/-! The other sign. -/
theorem xor_up (r : Nat) (h : r < 9223372036854775808) : r ^^^ 9223372036854775808 = 9223372036854775808 + r := by
  apply Nat.eq_of_testBit_eq
  intro j
  have e := Nat.testBit_two_pow_mul_add 1 (show r < 2 ^ 63 from h) j
  rw [Nat.mul_one] at e
  rw [show 9223372036854775808 + r = 2 ^ 63 + r from rfl, e, Nat.testBit_xor, show (9223372036854775808 : Nat) = 2 ^ 63 from rfl, Nat.testBit_two_pow]
  by_cases hj : j < 63
  · simp [hj, show ¬ 63 = j by omega]
  · have : r.testBit j = false := Nat.testBit_lt_two_pow (Nat.lt_of_lt_of_le h (show 2 ^ 63 ≤ 2 ^ j from Nat.pow_le_pow_right (by decide) (by omega)))
    rw [this, if_neg hj]
    by_cases h63 : 63 = j
    · subst h63; rfl
    · have : (1 : Nat).testBit (j - 63) = false := by
        apply Nat.testBit_lt_two_pow
        exact Nat.one_lt_two_pow (by omega)
      simp [this, h63]

theorem xor_flip (x : Nat) (h : x < 18446744073709551616) : x ^^^ 9223372036854775808 = if x < 9223372036854775808 then x + 9223372036854775808 else x - 9223372036854775808 := by
  split
  · rename_i h1
    rw [xor_up x h1]; omega
  · rename_i h1
    have h2 := xor_up (x - 9223372036854775808) (by omega)
    have h3 : x = (x - 9223372036854775808) ^^^ 9223372036854775808 := by rw [h2]; omega
    have h4 : x ^^^ 9223372036854775808 = ((x - 9223372036854775808) ^^^ 9223372036854775808) ^^^ 9223372036854775808 := by rw [← h3]
    rw [h4, Nat.xor_assoc, Nat.xor_self, Nat.xor_zero]

theorem flip_nan (x : Nat) (h : x < 18446744073709551616) : isNan (if x < 9223372036854775808 then x + 9223372036854775808 else x - 9223372036854775808) = isNan x := by
  unfold isNan
  have e : (if x < 9223372036854775808 then x + 9223372036854775808 else x - 9223372036854775808) % 9223372036854775808 = x % 9223372036854775808 := by split <;> omega
  rw [e]

theorem home_flip (a : Nat) (h : a < 18446744073709551616) : home (home a ^^^ 9223372036854775808) = fneg a := by
  rw [xor_flip _ (home_lt h)]
  unfold fneg
  cases hn : isNan a
  · rw [home_real hn, home_real (by rw [flip_nan a h, hn])]
    simp
  · rw [home_nan hn]
    show home (if NAN < 9223372036854775808 then NAN + 9223372036854775808 else NAN - 9223372036854775808) = NAN
    decide

theorem fneg_lt {a : Nat} (h : a < 18446744073709551616) : fneg a < 18446744073709551616 := by
  unfold fneg; split
  · decide
  · split <;> omega

theorem isNan_fneg {a : Nat} (h : a < 18446744073709551616) : isNan (fneg a) = isNan a := by
  unfold fneg
  cases hn : isNan a
  · simp only [Bool.false_eq_true, if_false]
    rw [flip_nan a h, hn]
  · rfl

theorem read_fneg {a : Nat} (h : a < 18446744073709551616) (hn : isNan a = false) : D.read (fneg a) = (D.read a).opposite := by
  unfold fneg
  rw [hn]
  simp only [Bool.false_eq_true, if_false]
  have key : ∀ c : Nat, c % 9223372036854775808 = a % 9223372036854775808 → (c / 9223372036854775808 % 2 == 1) = !(a / 9223372036854775808 % 2 == 1) → D.read c = (D.read a).opposite := by
    intro c h1 h2
    rw [read_eq c, read_eq a, h1, h2]
    split
    · rfl
    · split
      · rfl
      · split <;> rfl
  split
  · refine key _ (by omega) ?_
    rw [show (a + 9223372036854775808) / 9223372036854775808 % 2 = 1 by omega, show a / 9223372036854775808 % 2 = 0 by omega]; rfl
  · refine key _ (by omega) ?_
    rw [show (a - 9223372036854775808) / 9223372036854775808 % 2 = 0 by omega, show a / 9223372036854775808 % 2 = 1 by omega]; rfl

theorem worth_opposite (d : Datum) : worth d.opposite = - worth d := by
  cases d with
  | number s m e => simp only [Datum.opposite, worth, signed_eq]; cases s <;> simp
  | infinity s => simp only [Datum.opposite, worth]; cases s <;> simp
  | nan s t => rfl

theorem val_fneg {a : Nat} (h : a < 18446744073709551616) (hn : isNan a = false) : val (fneg a) = - val a := by
  unfold val; rw [read_fneg h hn, worth_opposite]

theorem fneg_fneg {a : Nat} (h : a < 18446744073709551616) : fneg (fneg a) = home a := by
  cases hn : isNan a
  · rw [home_real hn]
    have h1 : isNan (fneg a) = false := by rw [isNan_fneg h, hn]
    have e : fneg a = if a < 9223372036854775808 then a + 9223372036854775808 else a - 9223372036854775808 := by unfold fneg; simp [hn]
    have e2 : fneg (fneg a) = if fneg a < 9223372036854775808 then fneg a + 9223372036854775808 else fneg a - 9223372036854775808 := by rw [fneg, h1]; simp
    rw [e2]
    split at e <;> split <;> omega
  · rw [home_nan hn]
    have : fneg a = NAN := by simp [fneg, hn]
    rw [this]; decide

/-! The whole part. -/
theorem cut_zero (s : Bool) (n d : Nat) : Toward.cut .zero s n d = n / 2 ^ d := by
  simp only [Toward.cut, Bool.toNat_false, Nat.add_zero, Nat.shiftLeft_eq, Nat.one_mul]
  by_cases h : d ≤ n.log2 + 2
  · rw [Nat.min_eq_left h]
  · rw [Nat.min_eq_right (by omega)]
    have h0 : n < 2 ^ (n.log2 + 1) := Nat.lt_log2_self
    have h1 : n < 2 ^ (n.log2 + 2) := Nat.lt_of_lt_of_le h0 (Nat.pow_le_pow_right (by decide) (by omega))
    have h2 : n < 2 ^ d := Nat.lt_of_lt_of_le h0 (Nat.pow_le_pow_right (by decide) (by omega))
    rw [Nat.div_eq_of_lt h1, Nat.div_eq_of_lt h2]

/-- The whole part of what a datum is worth. -/
theorem toInt_number (s : Bool) (m : Nat) (e : Int) (he : -1074 ≤ e) : Datum.toInt .zero (.number s m e) = some (if s then -((m * pw (e + 1074).toNat / pw 1074 : Nat) : Int) else ((m * pw (e + 1074).toNat / pw 1074 : Nat) : Int)) := by
  have key : (m <<< e.toNat) / 2 ^ (-e).toNat = m * pw (e + 1074).toNat / pw 1074 := by
    rw [Nat.shiftLeft_eq]
    by_cases h : 0 ≤ e
    · have h1 : pw (e + 1074).toNat = 2 ^ e.toNat * pw 1074 := by rw [← pw_def, ← pw_add]; congr 1; omega
      rw [show (-e).toNat = 0 by omega, h1, ← Nat.mul_assoc, Nat.mul_div_cancel _ (pw_pos _)]
      simp
    · have h1 : (e + 1074).toNat + (-e).toNat = 1074 := by omega
      have h2 : pw 1074 = pw (e + 1074).toNat * 2 ^ (-e).toNat := by rw [← pw_def, ← pw_add, h1]
      rw [h2, Nat.mul_comm m (pw (e + 1074).toNat), Nat.mul_div_mul_left _ _ (pw_pos _), show e.toNat = 0 by omega]
      simp
  simp only [Datum.toInt, Datum.integral, cut_zero, key, signed_eq, pw, Nat.pow_zero, Nat.mul_one]

/-- 2^63 and -2^63 as reals. -/
def B63 : Nat := 4890909195324358656
def N63 : Nat := 14114281232179134464
theorem val_B63 : val B63 = ((9223372036854775808 * pw 1074 : Nat) : Int) := by
  have : D.read B63 = .number false 4503599627370496 11 := by decide
  unfold val
  rw [this]
  simp only [worth, signed_eq, Bool.false_eq_true, if_false]
  rw [show ((11 : Int) + 1074).toNat = 11 + 1074 from rfl, pw_add, ← Nat.mul_assoc, show 4503599627370496 * pw 11 = 9223372036854775808 from rfl]
theorem val_N63 : val N63 = -((9223372036854775808 * pw 1074 : Nat) : Int) := by
  have : D.read N63 = .number true 4503599627370496 11 := by decide
  unfold val
  rw [this]
  simp only [worth, signed_eq, if_true]
  rw [show ((11 : Int) + 1074).toNat = 11 + 1074 from rfl, pw_add, ← Nat.mul_assoc, show 4503599627370496 * pw 11 = 9223372036854775808 from rfl]

/-- The whole part towards 0. -/
def trunc (v : Int) : Int := if v < 0 then -((v.natAbs / pw 1074 : Nat) : Int) else ((v.natAbs / pw 1074 : Nat) : Int)

theorem whole_val {b : Nat} (hb : isNan b = false) (h1 : val b < val B63) (h2 : val N63 ≤ val b) : floatToIntVal .f64 b .i64 = some (trunc (val b)) := by
  have hp : 0 < pw 1074 := pw_pos _
  rcases read_real hb with ⟨s, m, e, hr⟩ | ⟨s, hr⟩
  · obtain ⟨_, _, he, _⟩ := read_shape hr
    have hv : val b = signed s m (e + 1074).toNat := by unfold val; rw [hr]; rfl
    rw [val_B63, hv] at h1
    rw [val_N63, hv] at h2
    have ht : Datum.toInt .zero (FloatKind.f64.decode b) = _ := (congrArg _ hr).trans (toInt_number s m e he)
    unfold floatToIntVal
    rw [ht, hv]
    rw [signed_eq] at h1 h2 ⊢
    simp only [trunc]
    generalize m * pw (e + 1074).toNat = x at h1 h2 ⊢
    generalize pw 1074 = K at h1 h2 hp ⊢
    cases s
    · simp only [Bool.false_eq_true, if_false] at h1 h2 ⊢
      have hx : x / K < 9223372036854775808 := (Nat.div_lt_iff_lt_mul hp).2 (by omega)
      have hm : IntKind.i64.min = -9223372036854775808 := rfl
      have hM : IntKind.i64.max = 9223372036854775807 := rfl
      rw [Int.natAbs_natCast]
      generalize x / K = y at hx ⊢
      rw [hm, hM, if_pos ⟨by omega, by omega⟩, if_neg (by omega)]
    · simp only [if_true] at h1 h2 ⊢
      have hx : x / K ≤ 9223372036854775808 := (Nat.div_le_iff_le_mul_add_pred hp).2 (by rw [Nat.mul_comm]; omega)
      have hm : IntKind.i64.min = -9223372036854775808 := rfl
      have hM : IntKind.i64.max = 9223372036854775807 := rfl
      rw [Int.natAbs_neg, Int.natAbs_natCast]
      have h0 : x = 0 → x / K = 0 := fun h => by rw [h]; exact Nat.zero_div _
      generalize x / K = y at hx h0 ⊢
      rw [hm, hM, if_pos ⟨by omega, by omega⟩]
      by_cases h00 : x = 0
      · rw [if_neg (by omega), h0 h00]; rfl
      · rw [if_pos (by omega)]
  · exfalso
    have hT : 9223372036854775808 * pw 1074 < TOP := by
      rw [show (9223372036854775808 : Nat) = pw 63 from rfl, ← pw_add]
      exact pw_lt (by decide)
    have hv : val b = if s then -(TOP : Int) else (TOP : Int) := by unfold val; rw [hr]; rfl
    rw [val_B63, hv] at h1
    rw [val_N63, hv] at h2
    cases s <;> simp only [Bool.false_eq_true, if_false, if_true] at h1 h2 <;> omega

/-- What ToInt tells. -/
def toIntOf (b : Nat) : Int × Bool := if isNan b then (0, false) else if val b < val B63 ∧ val N63 ≤ val b then (trunc (val b), true) else (0, false)

end Go.Proofs.YtcmahiphfpgadaaDoor
