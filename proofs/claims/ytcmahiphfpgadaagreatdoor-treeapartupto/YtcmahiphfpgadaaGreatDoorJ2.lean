/- Joined texts of the proof. -/
import Derived.Laws.FloatArith

/- Reals by their bits: what a float64's word stands for, and what the four operations and the comparisons tell, as plain functions of words: no program is named here. -/
namespace Go.Proofs.YtcmahiphfpgadaaGreatDoor
open Ieee
set_option linter.unusedVariables false

/-- float64. -/
abbrev D : Format := Ieee.double

/-- The one NaN's bits. -/
def NAN : Nat := 9221120237041090560

/-- A word that is a NaN. -/
def isNan (b : Nat) : Bool := decide (9218868437227405312 < b % 9223372036854775808)

/-- Bits brought home. -/
def home (b : Nat) : Nat := if isNan b then NAN else b

theorem D_sw : D.signWeight = 9223372036854775808 := rfl
theorem D_bin : D.binade = 4503599627370496 := rfl
theorem D_inf : D.infRung = 9218868437227405312 := rfl
theorem D_least : D.leastPlace = -1074 := rfl
theorem D_fb : D.fractionBits = 52 := rfl

theorem read_eq (b : Nat) : D.read b =
    if b % 9223372036854775808 < 4503599627370496 then .number (b / 9223372036854775808 % 2 == 1) (b % 9223372036854775808) (-1074)
    else if b % 9223372036854775808 < 9218868437227405312 then .number (b / 9223372036854775808 % 2 == 1) (4503599627370496 + b % 9223372036854775808 % 4503599627370496) (-1074 + (b % 9223372036854775808 / 4503599627370496 - 1 : Nat))
    else if b % 9223372036854775808 = 9218868437227405312 then .infinity (b / 9223372036854775808 % 2 == 1)
    else .nan (b / 9223372036854775808 % 2 == 1) (b % 9223372036854775808 - 9218868437227405312) := rfl

theorem read_nan {b : Nat} (h : isNan b = true) : ∃ s t, D.read b = .nan s t := by
  simp only [isNan, decide_eq_true_eq] at h
  rw [read_eq, if_neg (by omega), if_neg (by omega), if_neg (by omega)]
  exact ⟨_, _, rfl⟩

theorem read_real {b : Nat} (h : isNan b = false) : (∃ s m e, D.read b = .number s m e) ∨ (∃ s, D.read b = .infinity s) := by
  simp only [isNan, decide_eq_false_iff_not] at h
  rw [read_eq]
  split
  · exact .inl ⟨_, _, _, rfl⟩
  · split
    · exact .inl ⟨_, _, _, rfl⟩
    · rw [if_pos (by omega)]; exact .inr ⟨_, rfl⟩

theorem compare_self_int (x : Int) : compare x x = .eq := by simp [compare, compareOfLessAndEq]
theorem compare_self_nat (x : Nat) : compare x x = .eq := by simp [compare, compareOfLessAndEq]

theorem order_self (b : Nat) : D.order b b = if isNan b then none else some .eq := by
  cases h : isNan b
  · rcases read_real h with ⟨s, m, e, hr⟩ | ⟨s, hr⟩
    · simp [Format.order, hr, Datum.order]
    · simp [Format.order, hr, Datum.order]
  · obtain ⟨s, t, hr⟩ := read_nan h
    simp [Format.order, hr, Datum.order]

/-- 'x != x'. -/
theorem neq_self (b : Nat) : (D.order b b != some .eq) = isNan b := by
  rw [order_self]; cases isNan b <;> rfl
theorem eql_self (b : Nat) : (D.order b b == some .eq) = !isNan b := by
  rw [order_self]; cases isNan b <;> rfl

theorem isNan_NAN : isNan NAN = true := by decide
theorem home_nan {b : Nat} (h : isNan b = true) : home b = NAN := by simp [home, h]
theorem home_real {b : Nat} (h : isNan b = false) : home b = b := by simp [home, h]
theorem isNan_home (b : Nat) : isNan (home b) = isNan b := by
  cases h : isNan b
  · rw [home_real h, h]
  · rw [home_nan h, isNan_NAN]
theorem home_home (b : Nat) : home (home b) = home b := by
  cases h : isNan b
  · rw [home_real h, home_real h]
  · rw [home_nan h, home_nan isNan_NAN]
theorem home_lt {b : Nat} (h : b < 18446744073709551616) : home b < 18446744073709551616 := by
  unfold home; split
  · decide
  · exact h

/-- What is done with the words of two numbers, a NaN among them told as none, hangs on what they are brought home as. -/
theorem add_nan {a b : Nat} (h : isNan a = true ∨ isNan b = true) : D.add a b = none := by
  unfold Format.add
  rcases h with h | h
  · obtain ⟨s, t, hr⟩ := read_nan h
    rw [hr]; rfl
  · obtain ⟨s, t, hr⟩ := read_nan h
    rw [hr]
    cases ha : D.read a <;> rfl
theorem sub_nan {a b : Nat} (h : isNan a = true ∨ isNan b = true) : D.sub a b = none := by
  unfold Format.sub
  rcases h with h | h
  · obtain ⟨s, t, hr⟩ := read_nan h
    rw [hr]; rfl
  · obtain ⟨s, t, hr⟩ := read_nan h
    rw [hr]
    cases ha : D.read a <;> rfl
theorem mul_nan {a b : Nat} (h : isNan a = true ∨ isNan b = true) : D.mul a b = none := by
  unfold Format.mul
  rcases h with h | h
  · obtain ⟨s, t, hr⟩ := read_nan h
    rw [hr]; rfl
  · obtain ⟨s, t, hr⟩ := read_nan h
    rw [hr]
    cases ha : D.read a <;> rfl
theorem div_nan {a b : Nat} (h : isNan a = true ∨ isNan b = true) : D.div a b = none := by
  unfold Format.div
  rcases h with h | h
  · obtain ⟨s, t, hr⟩ := read_nan h
    rw [hr]; rfl
  · obtain ⟨s, t, hr⟩ := read_nan h
    rw [hr]
    cases ha : D.read a <;> rfl
theorem order_nan {a b : Nat} (h : isNan a = true ∨ isNan b = true) : D.order a b = none := by
  unfold Format.order
  rcases h with h | h
  · obtain ⟨s, t, hr⟩ := read_nan h
    rw [hr]; rfl
  · obtain ⟨s, t, hr⟩ := read_nan h
    rw [hr]
    cases ha : D.read a <;> rfl

theorem home_cases {α : Type} (f : Nat → Nat → Option α) (hn : ∀ a b, isNan a = true ∨ isNan b = true → f a b = none) (a b : Nat) : f (home a) (home b) = f a b := by
  cases ha : isNan a
  · cases hb : isNan b
    · rw [home_real ha, home_real hb]
    · rw [hn _ _ (.inr (by rw [isNan_home, hb])), hn _ _ (.inr hb)]
  · rw [hn _ _ (.inl (by rw [isNan_home, ha])), hn _ _ (.inl ha)]

theorem add_home (a b : Nat) : D.add (home a) (home b) = D.add a b := home_cases _ (fun _ _ => add_nan) a b
theorem sub_home (a b : Nat) : D.sub (home a) (home b) = D.sub a b := home_cases _ (fun _ _ => sub_nan) a b
theorem mul_home (a b : Nat) : D.mul (home a) (home b) = D.mul a b := home_cases _ (fun _ _ => mul_nan) a b
theorem div_home (a b : Nat) : D.div (home a) (home b) = D.div a b := home_cases _ (fun _ _ => div_nan) a b
theorem order_home (a b : Nat) : D.order (home a) (home b) = D.order a b := home_cases _ (fun _ _ => order_nan) a b

/-- What is told where an operation has an answer, and the one NaN where it has none. -/
def told (r : Option Nat) : Nat := match r with
  | some x => home x
  | none => NAN

/-- The four operations on bits. -/
def fadd (a b : Nat) : Nat := told (D.add a b)
def fsub (a b : Nat) : Nat := told (D.sub a b)
def fmul (a b : Nat) : Nat := told (D.mul a b)
def fdiv (a b : Nat) : Nat := told (D.div a b)

/-- The other sign. -/
def fneg (a : Nat) : Nat := if isNan a then NAN else if a < 9223372036854775808 then a + 9223372036854775808 else a - 9223372036854775808

/-- The nearest real of a whole number. -/
def ofInt (n : Int) : Nat := FloatKind.nearest .f64 n

theorem told_lt {r : Option Nat} (h : ∀ x, r = some x → x < 18446744073709551616) : told r < 18446744073709551616 := by
  unfold told
  split
  · rename_i x; exact home_lt (h x rfl)
  · decide

theorem ofInt_lt (n : Int) : ofInt n < 18446744073709551616 := D.write_lt (.number (decide (n < 0)) n.natAbs 0)

theorem isNan_told (r : Option Nat) : home (told r) = told r := by
  unfold told
  split
  · exact home_home _
  · decide

theorem word_eq (neg : Bool) (r : Nat) : D.word neg r = if neg then 9223372036854775808 + r else r := rfl

theorem isNan_nearest (neg : Bool) (mag : Nat) (place : Int) : isNan (D.nearest neg mag place) = false := by
  simp only [isNan, decide_eq_false_iff_not, Nat.not_lt]
  unfold Format.nearest
  dsimp only
  split
  · rw [word_eq]; cases neg <;> simp
  · rw [word_eq, D_inf]
    have := Nat.min_le_right ((max (place + ↑mag.log2 - ↑D.fractionBits) D.leastPlace - D.leastPlace).toNat * D.binade + Toward.even.cut neg (mag <<< (place - max (place + ↑mag.log2 - ↑D.fractionBits) D.leastPlace).toNat) (max (place + ↑mag.log2 - ↑D.fractionBits) D.leastPlace - place).toNat) 9218868437227405312
    generalize min _ 9218868437227405312 = k at this ⊢
    cases neg
    · simp; omega
    · simp; omega

theorem isNan_ofInt (n : Int) : isNan (ofInt n) = false := isNan_nearest _ _ _

theorem home_ofInt (n : Int) : home (ofInt n) = ofInt n := home_real (isNan_ofInt n)

/-- The whole part of a real, if it is one of 64 bits. -/
def wholeOf (b : Nat) : Option Int := floatToIntVal .f64 b .i64

end Go.Proofs.YtcmahiphfpgadaaGreatDoor

/- What a real is worth, as a whole number of units of 2^-1074; that reals compare as these do; and its whole part: no program is named here. -/
namespace Go.Proofs.YtcmahiphfpgadaaGreatDoor
open Ieee
set_option linter.unusedVariables false

/-- A power of two, by a name of its own. -/
def pw (k : Nat) : Nat := 2 ^ k
theorem pw_def (k : Nat) : pw k = 2 ^ k := rfl
theorem pw_pos (k : Nat) : 0 < pw k := Nat.two_pow_pos k
theorem pw_add (a b : Nat) : pw (a + b) = pw a * pw b := Nat.pow_add 2 a b
theorem pw_le {a b : Nat} (h : a ≤ b) : pw a ≤ pw b := Nat.pow_le_pow_right (by decide) h
theorem pw_lt {a b : Nat} (h : a < b) : pw a < pw b := Nat.pow_lt_pow_right (by decide) h

theorem signed_eq (s : Bool) (m k : Nat) : signed s m k = if s then -((m * pw k : Nat) : Int) else ((m * pw k : Nat) : Int) := by
  simp [signed, Nat.shiftLeft_eq, pw_def]

theorem signed_add (s : Bool) (m i k : Nat) : signed s m (i + k) = signed s m i * ((pw k : Nat) : Int) := by
  rw [signed_eq, signed_eq, pw_add, ← Nat.mul_assoc]
  cases s <;> simp [Int.neg_mul]

theorem compare_int (x y : Int) : compare x y = if x < y then .lt else if x = y then .eq else .gt := rfl

theorem compare_scale (x y : Int) (k : Nat) (hk : 0 < k) : compare (x * (k : Int)) (y * (k : Int)) = compare x y := by
  rw [compare_int, compare_int]
  have h : (0 : Int) < (k : Int) := by omega
  by_cases h1 : x < y
  · rw [if_pos h1, if_pos (Int.mul_lt_mul_of_pos_right h1 h)]
  · rw [if_neg h1, if_neg (fun hh => h1 (Int.lt_of_mul_lt_mul_right hh (Int.le_of_lt h)))]
    by_cases h2 : x = y
    · rw [if_pos h2, if_pos (by rw [h2])]
    · rw [if_neg h2, if_neg (fun hh => h2 (Int.eq_of_mul_eq_mul_right (by omega) hh))]

theorem compare_lt {x y : Int} (h : x < y) : compare x y = .lt := by rw [compare_int, if_pos h]
theorem compare_gt {x y : Int} (h : y < x) : compare x y = .gt := by rw [compare_int, if_neg (by omega), if_neg (by omega)]
theorem compare_same {x y : Int} (h : x = y) : compare x y = .eq := by rw [compare_int, if_neg (by omega), if_pos h]

/-- More than any finite real is worth. -/
def TOP : Nat := pw 2200

/-- What a datum is worth. -/
def worth : Datum → Int
  | .number s m e => signed s m (e + 1074).toNat
  | .infinity s => if s then -(TOP : Int) else (TOP : Int)
  | .nan .. => 0

/-- What a word is worth. -/
def val (b : Nat) : Int := worth (D.read b)

/-- The shape of a word's number. -/
theorem read_shape {b : Nat} {s : Bool} {m : Nat} {e : Int} (h : D.read b = .number s m e) : s = (b / 9223372036854775808 % 2 == 1) ∧ m < 9007199254740992 ∧ -1074 ≤ e ∧ e ≤ 971 := by
  rw [read_eq] at h
  split at h
  · cases h
    refine ⟨rfl, by omega, by omega, by omega⟩
  · split at h
    · cases h
      refine ⟨rfl, by omega, by omega, by omega⟩
    · split at h <;> cases h

theorem number_small {b : Nat} {s : Bool} {m : Nat} {e : Int} (h : D.read b = .number s m e) : m * pw (e + 1074).toNat < TOP := by
  obtain ⟨_, h1, h2, h3⟩ := read_shape h
  have h4 : pw (e + 1074).toNat ≤ pw 2045 := pw_le (by omega)
  have h5 : m * pw (e + 1074).toNat ≤ pw 53 * pw 2045 := Nat.mul_le_mul (Nat.le_of_lt (show m < 2 ^ 53 from h1)) h4
  rw [← pw_add] at h5
  exact Nat.lt_of_le_of_lt h5 (pw_lt (by decide))

theorem TOP_pos : 0 < TOP := pw_pos _

theorem order_numbers (s t : Bool) (m n : Nat) (i j : Int) (hi : -1074 ≤ i) (hj : -1074 ≤ j) :
    Datum.order (.number s m i) (.number t n j) = some (compare (signed s m (i + 1074).toNat) (signed t n (j + 1074).toNat)) := by
  have e1 : (i + 1074).toNat = (i - min i j).toNat + (min i j + 1074).toNat := by omega
  have e2 : (j + 1074).toNat = (j - min i j).toNat + (min i j + 1074).toNat := by omega
  rw [e1, e2, signed_add, signed_add, compare_scale _ _ _ (pw_pos _)]
  rfl

theorem order_val {b c : Nat} (hb : isNan b = false) (hc : isNan c = false) : D.order b c = some (compare (val b) (val c)) := by
  unfold Format.order val
  have hT := TOP_pos
  rcases read_real hb with ⟨s, m, i, h1⟩ | ⟨s, h1⟩ <;> rcases read_real hc with ⟨t, n, j, h2⟩ | ⟨t, h2⟩
  · rw [h1, h2, order_numbers _ _ _ _ _ _ (read_shape h1).2.2.1 (read_shape h2).2.2.1]
    rfl
  · have := number_small h1
    rw [h1, h2]
    simp only [Datum.order, worth, signed_eq]
    generalize m * pw (i + 1074).toNat = x at this ⊢
    cases t
    · rw [compare_lt (by cases s <;> simp only [Bool.false_eq_true, if_false, if_true] <;> omega)]; rfl
    · rw [compare_gt (by cases s <;> simp only [Bool.false_eq_true, if_false, if_true] <;> omega)]; rfl
  · have := number_small h2
    rw [h1, h2]
    simp only [Datum.order, worth, signed_eq]
    generalize n * pw (j + 1074).toNat = x at this ⊢
    cases s
    · rw [compare_gt (by cases t <;> simp only [Bool.false_eq_true, if_false, if_true] <;> omega)]; rfl
    · rw [compare_lt (by cases t <;> simp only [Bool.false_eq_true, if_false, if_true] <;> omega)]; rfl
  · rw [h1, h2]
    simp only [Datum.order, worth]
    cases s <;> cases t <;> simp only [Bool.false_eq_true, if_false, if_true]
    · rw [compare_same rfl]; rfl
    · rw [compare_gt (by omega)]; rfl
    · rw [compare_lt (by omega)]; rfl
    · rw [compare_same rfl]; rfl

theorem lt_val {b c : Nat} (hb : isNan b = false) (hc : isNan c = false) : (D.order b c == some .lt) = decide (val b < val c) := by
  rw [order_val hb hc, compare_int]
  by_cases h1 : val b < val c
  · simp [h1]
  · by_cases h2 : val b = val c <;> simp [h1, h2]

theorem eq_val {b c : Nat} (hb : isNan b = false) (hc : isNan c = false) : (D.order b c == some .eq) = decide (val b = val c) := by
  rw [order_val hb hc, compare_int]
  by_cases h1 : val b < val c
  · simp [h1]; omega
  · by_cases h2 : val b = val c <;> simp [h1, h2]

theorem ge_val {b c : Nat} (hb : isNan b = false) (hc : isNan c = false) : (D.order b c == some .gt || D.order b c == some .eq) = decide (val c ≤ val b) := by
  rw [order_val hb hc, compare_int]
  by_cases h1 : val b < val c
  · simp [h1]
  · by_cases h2 : val b = val c <;> simp [h1, h2] <;> omega

theorem nan_lt {b c : Nat} (h : isNan b = true ∨ isNan c = true) : (D.order b c == some .lt) = false := by rw [order_nan h]; rfl
theorem nan_eq {b c : Nat} (h : isNan b = true ∨ isNan c = true) : (D.order b c == some .eq) = false := by rw [order_nan h]; rfl
theorem nan_ge {b c : Nat} (h : isNan b = true ∨ isNan c = true) : (D.order b c == some .gt || D.order b c == some .eq) = false := by rw [order_nan h]; rfl

/-! The other sign. -/
theorem xor_up (r : Nat) (h : r < 9223372036854775808) : r ^^^ 9223372036854775808 = 9223372036854775808 + r := by
  apply Nat.eq_of_testBit_eq
  intro j
  have e := Nat.testBit_two_pow_mul_add 1 (show r < 2 ^ 63 from h) j
  rw [Nat.mul_one] at e
  rw [show 9223372036854775808 + r = 2 ^ 63 + r from rfl, e, Nat.testBit_xor, show (9223372036854775808 : Nat) = 2 ^ 63 from rfl, Nat.testBit_two_pow]
  by_cases hj : j < 63
  · simp [hj, show ¬ 63 = j by omega]
  · have : r.testBit j = false := Nat.testBit_lt_two_pow (Nat.lt_of_lt_of_le h (show 2 ^ 63 ≤ 2 ^ j from Nat.pow_le_pow_right (by decide) (by omega)))
    rw [this, if_neg hj]
    by_cases h63 : 63 = j
    · subst h63; rfl
    · have : (1 : Nat).testBit (j - 63) = false := by
        apply Nat.testBit_lt_two_pow
        exact Nat.one_lt_two_pow (by omega)
      simp [this, h63]

theorem xor_flip (x : Nat) (h : x < 18446744073709551616) : x ^^^ 9223372036854775808 = if x < 9223372036854775808 then x + 9223372036854775808 else x - 9223372036854775808 := by
  split
  · rename_i h1
    rw [xor_up x h1]; omega
  · rename_i h1
    have h2 := xor_up (x - 9223372036854775808) (by omega)
    have h3 : x = (x - 9223372036854775808) ^^^ 9223372036854775808 := by rw [h2]; omega
    have h4 : x ^^^ 9223372036854775808 = ((x - 9223372036854775808) ^^^ 9223372036854775808) ^^^ 9223372036854775808 := by rw [← h3]
    rw [h4, Nat.xor_assoc, Nat.xor_self, Nat.xor_zero]

theorem flip_nan (x : Nat) (h : x < 18446744073709551616) : isNan (if x < 9223372036854775808 then x + 9223372036854775808 else x - 9223372036854775808) = isNan x := by
  unfold isNan
  have e : (if x < 9223372036854775808 then x + 9223372036854775808 else x - 9223372036854775808) % 9223372036854775808 = x % 9223372036854775808 := by split <;> omega
  rw [e]

theorem home_flip (a : Nat) (h : a < 18446744073709551616) : home (home a ^^^ 9223372036854775808) = fneg a := by
  rw [xor_flip _ (home_lt h)]
  unfold fneg
  cases hn : isNan a
  · rw [home_real hn, home_real (by rw [flip_nan a h, hn])]
    simp
  · rw [home_nan hn]
    show home (if NAN < 9223372036854775808 then NAN + 9223372036854775808 else NAN - 9223372036854775808) = NAN
    decide

theorem fneg_lt {a : Nat} (h : a < 18446744073709551616) : fneg a < 18446744073709551616 := by
  unfold fneg; split
  · decide
  · split <;> omega

theorem isNan_fneg {a : Nat} (h : a < 18446744073709551616) : isNan (fneg a) = isNan a := by
  unfold fneg
  cases hn : isNan a
  · simp only [Bool.false_eq_true, if_false]
    rw [flip_nan a h, hn]
  · rfl

theorem read_fneg {a : Nat} (h : a < 18446744073709551616) (hn : isNan a = false) : D.read (fneg a) = (D.read a).opposite := by
  unfold fneg
  rw [hn]
  simp only [Bool.false_eq_true, if_false]
  have key : ∀ c : Nat, c % 9223372036854775808 = a % 9223372036854775808 → (c / 9223372036854775808 % 2 == 1) = !(a / 9223372036854775808 % 2 == 1) → D.read c = (D.read a).opposite := by
    intro c h1 h2
    rw [read_eq c, read_eq a, h1, h2]
    split
    · rfl
    · split
      · rfl
      · split <;> rfl
  split
  · refine key _ (by omega) ?_
    rw [show (a + 9223372036854775808) / 9223372036854775808 % 2 = 1 by omega, show a / 9223372036854775808 % 2 = 0 by omega]; rfl
  · refine key _ (by omega) ?_
    rw [show (a - 9223372036854775808) / 9223372036854775808 % 2 = 0 by omega, show a / 9223372036854775808 % 2 = 1 by omega]; rfl

theorem worth_opposite (d : Datum) : worth d.opposite = - worth d := by
  cases d with
  | number s m e => simp only [Datum.opposite, worth, signed_eq]; cases s <;> simp
  | infinity s => simp only [Datum.opposite, worth]; cases s <;> simp
  | nan s t => rfl

theorem val_fneg {a : Nat} (h : a < 18446744073709551616) (hn : isNan a = false) : val (fneg a) = - val a := by
  unfold val; rw [read_fneg h hn, worth_opposite]

theorem fneg_fneg {a : Nat} (h : a < 18446744073709551616) : fneg (fneg a) = home a := by
  cases hn : isNan a
  · rw [home_real hn]
    have h1 : isNan (fneg a) = false := by rw [isNan_fneg h, hn]
    have e : fneg a = if a < 9223372036854775808 then a + 9223372036854775808 else a - 9223372036854775808 := by unfold fneg; simp [hn]
    have e2 : fneg (fneg a) = if fneg a < 9223372036854775808 then fneg a + 9223372036854775808 else fneg a - 9223372036854775808 := by rw [fneg, h1]; simp
    rw [e2]
    split at e <;> split <;> omega
  · rw [home_nan hn]
    have : fneg a = NAN := by simp [fneg, hn]
    rw [this]; decide

/-! The whole part. -/
theorem cut_zero (s : Bool) (n d : Nat) : Toward.cut .zero s n d = n / 2 ^ d := by
  simp only [Toward.cut, Bool.toNat_false, Nat.add_zero, Nat.shiftLeft_eq, Nat.one_mul]
  by_cases h : d ≤ n.log2 + 2
  · rw [Nat.min_eq_left h]
  · rw [Nat.min_eq_right (by omega)]
    have h0 : n < 2 ^ (n.log2 + 1) := Nat.lt_log2_self
    have h1 : n < 2 ^ (n.log2 + 2) := Nat.lt_of_lt_of_le h0 (Nat.pow_le_pow_right (by decide) (by omega))
    have h2 : n < 2 ^ d := Nat.lt_of_lt_of_le h0 (Nat.pow_le_pow_right (by decide) (by omega))
    rw [Nat.div_eq_of_lt h1, Nat.div_eq_of_lt h2]

/-- The whole part of what a datum is worth. -/
theorem toInt_number (s : Bool) (m : Nat) (e : Int) (he : -1074 ≤ e) : Datum.toInt .zero (.number s m e) = some (if s then -((m * pw (e + 1074).toNat / pw 1074 : Nat) : Int) else ((m * pw (e + 1074).toNat / pw 1074 : Nat) : Int)) := by
  have key : (m <<< e.toNat) / 2 ^ (-e).toNat = m * pw (e + 1074).toNat / pw 1074 := by
    rw [Nat.shiftLeft_eq]
    by_cases h : 0 ≤ e
    · have h1 : pw (e + 1074).toNat = 2 ^ e.toNat * pw 1074 := by rw [← pw_def, ← pw_add]; congr 1; omega
      rw [show (-e).toNat = 0 by omega, h1, ← Nat.mul_assoc, Nat.mul_div_cancel _ (pw_pos _)]
      simp
    · have h1 : (e + 1074).toNat + (-e).toNat = 1074 := by omega
      have h2 : pw 1074 = pw (e + 1074).toNat * 2 ^ (-e).toNat := by rw [← pw_def, ← pw_add, h1]
      rw [h2, Nat.mul_comm m (pw (e + 1074).toNat), Nat.mul_div_mul_left _ _ (pw_pos _), show e.toNat = 0 by omega]
      simp
  simp only [Datum.toInt, Datum.integral, cut_zero, key, signed_eq, pw, Nat.pow_zero, Nat.mul_one]

/-- 2^63 and -2^63 as reals. -/
def B63 : Nat := 4890909195324358656
def N63 : Nat := 14114281232179134464
theorem val_B63 : val B63 = ((9223372036854775808 * pw 1074 : Nat) : Int) := by
  have : D.read B63 = .number false 4503599627370496 11 := by decide
  unfold val
  rw [this]
  simp only [worth, signed_eq, Bool.false_eq_true, if_false]
  rw [show ((11 : Int) + 1074).toNat = 11 + 1074 from rfl, pw_add, ← Nat.mul_assoc, show 4503599627370496 * pw 11 = 9223372036854775808 from rfl]
theorem val_N63 : val N63 = -((9223372036854775808 * pw 1074 : Nat) : Int) := by
  have : D.read N63 = .number true 4503599627370496 11 := by decide
  unfold val
  rw [this]
  simp only [worth, signed_eq, if_true]
  rw [show ((11 : Int) + 1074).toNat = 11 + 1074 from rfl, pw_add, ← Nat.mul_assoc, show 4503599627370496 * pw 11 = 9223372036854775808 from rfl]

/-- The whole part towards 0. -/
def trunc (v : Int) : Int := if v < 0 then -((v.natAbs / pw 1074 : Nat) : Int) else ((v.natAbs / pw 1074 : Nat) : Int)

theorem whole_val {b : Nat} (hb : isNan b = false) (h1 : val b < val B63) (h2 : val N63 ≤ val b) : floatToIntVal .f64 b .i64 = some (trunc (val b)) := by
  have hp : 0 < pw 1074 := pw_pos _
  rcases read_real hb with ⟨s, m, e, hr⟩ | ⟨s, hr⟩
  · obtain ⟨_, _, he, _⟩ := read_shape hr
    have hv : val b = signed s m (e + 1074).toNat := by unfold val; rw [hr]; rfl
    rw [val_B63, hv] at h1
    rw [val_N63, hv] at h2
    have ht : Datum.toInt .zero (FloatKind.f64.decode b) = _ := (congrArg _ hr).trans (toInt_number s m e he)
    unfold floatToIntVal
    rw [ht, hv]
    rw [signed_eq] at h1 h2 ⊢
    simp only [trunc]
    generalize m * pw (e + 1074).toNat = x at h1 h2 ⊢
    generalize pw 1074 = K at h1 h2 hp ⊢
    cases s
    · simp only [Bool.false_eq_true, if_false] at h1 h2 ⊢
      have hx : x / K < 9223372036854775808 := (Nat.div_lt_iff_lt_mul hp).2 (by omega)
      have hm : IntKind.i64.min = -9223372036854775808 := rfl
      have hM : IntKind.i64.max = 9223372036854775807 := rfl
      rw [Int.natAbs_natCast]
      generalize x / K = y at hx ⊢
      rw [hm, hM, if_pos ⟨by omega, by omega⟩, if_neg (by omega)]
    · simp only [if_true] at h1 h2 ⊢
      have hx : x / K ≤ 9223372036854775808 := (Nat.div_le_iff_le_mul_add_pred hp).2 (by rw [Nat.mul_comm]; omega)
      have hm : IntKind.i64.min = -9223372036854775808 := rfl
      have hM : IntKind.i64.max = 9223372036854775807 := rfl
      rw [Int.natAbs_neg, Int.natAbs_natCast]
      have h0 : x = 0 → x / K = 0 := fun h => by rw [h]; exact Nat.zero_div _
      generalize x / K = y at hx h0 ⊢
      rw [hm, hM, if_pos ⟨by omega, by omega⟩]
      by_cases h00 : x = 0
      · rw [if_neg (by omega), h0 h00]; rfl
      · rw [if_pos (by omega)]
  · exfalso
    have hT : 9223372036854775808 * pw 1074 < TOP := by
      rw [show (9223372036854775808 : Nat) = pw 63 from rfl, ← pw_add]
      exact pw_lt (by decide)
    have hv : val b = if s then -(TOP : Int) else (TOP : Int) := by unfold val; rw [hr]; rfl
    rw [val_B63, hv] at h1
    rw [val_N63, hv] at h2
    cases s <;> simp only [Bool.false_eq_true, if_false, if_true] at h1 h2 <;> omega

/-- What ToInt tells. -/
def toIntOf (b : Nat) : Int × Bool := if isNan b then (0, false) else if val b < val B63 ∧ val N63 ≤ val b then (trunc (val b), true) else (0, false)

end Go.Proofs.YtcmahiphfpgadaaGreatDoor

/- Rounding: which word is nearest to a number, what it is worth, and where it is exact: no program is named here. -/
namespace Go.Proofs.YtcmahiphfpgadaaGreatDoor
open Ieee
set_option linter.unusedVariables false

/-- 'n / 2^d', to the nearest whole number, of two as near the even one. -/
def rne (n d : Nat) : Nat := n / pw d + if pw d < 2 * (n % pw d) ∨ (pw d = 2 * (n % pw d) ∧ n / pw d % 2 = 1) then 1 else 0

theorem gap_eq (n d : Nat) : ((1 <<< min d (n.log2 + 2)) = pw d) ∨ (n / pw d = 0 ∧ n % pw d = n ∧ 2 * n < pw d ∧ n / (1 <<< min d (n.log2 + 2)) = 0 ∧ n % (1 <<< min d (n.log2 + 2)) = n ∧ 2 * n < (1 <<< min d (n.log2 + 2))) := by
  rw [Nat.shiftLeft_eq, Nat.one_mul]
  by_cases h : d ≤ n.log2 + 2
  · left; rw [Nat.min_eq_left h]; rfl
  · right
    rw [Nat.min_eq_right (by omega)]
    have h0 : n < 2 ^ (n.log2 + 1) := Nat.lt_log2_self
    have e2 : 2 ^ (n.log2 + 2) = 2 ^ (n.log2 + 1) * 2 := Nat.pow_succ 2 _
    have h2 : 2 ^ (n.log2 + 2) ≤ pw d := Nat.pow_le_pow_right (by decide) (by omega)
    refine ⟨Nat.div_eq_of_lt (by omega), Nat.mod_eq_of_lt (by omega), by omega, Nat.div_eq_of_lt (by omega), Nat.mod_eq_of_lt (by omega), by omega⟩

theorem cut_even (s : Bool) (n d : Nat) : Toward.cut .even s n d = rne n d := by
  have key : ∀ g : Nat, (g = pw d) ∨ (n / pw d = 0 ∧ n % pw d = n ∧ 2 * n < pw d ∧ n / g = 0 ∧ n % g = n ∧ 2 * n < g) →
      n / g + (decide (g < 2 * (n % g)) || (g == 2 * (n % g) && n / g % 2 == 1)).toNat = rne n d := by
    intro g hg
    rcases hg with rfl | ⟨h1, h2, h3, h4, h5, h6⟩
    · unfold rne
      by_cases c1 : pw d < 2 * (n % pw d)
      · simp [c1]
      · by_cases c2 : pw d = 2 * (n % pw d)
        · by_cases c3 : n / pw d % 2 = 1
          · rw [if_pos (.inr ⟨c2, c3⟩), decide_eq_false c1, show (pw d == 2 * (n % pw d)) = true by simpa using c2, show (n / pw d % 2 == 1) = true by simpa using c3]; rfl
          · rw [if_neg (by rintro (h | ⟨_, h⟩); exact c1 h; exact c3 h), decide_eq_false c1, show (n / pw d % 2 == 1) = false by simpa using c3, Bool.and_false]; rfl
        · rw [if_neg (by rintro (h | ⟨h, _⟩); exact c1 h; exact c2 h), decide_eq_false c1, show (pw d == 2 * (n % pw d)) = false by simpa using c2, Bool.false_and]; rfl
    · unfold rne
      rw [h1, h2, h4, h5, if_neg (by rintro (h | ⟨h, _⟩) <;> omega), decide_eq_false (by omega), show (g == 2 * n) = false by rw [beq_eq_false_iff_ne]; omega]
      rfl
  exact key _ (gap_eq n d)

theorem rne_zero (n : Nat) : rne n 0 = n := by
  unfold rne
  have : pw 0 = 1 := rfl
  rw [this, Nat.div_one, Nat.mod_one, if_neg (by omega)]; rfl

theorem rne_scale (n a b : Nat) : rne (n * pw a) (b + a) = rne n b := by
  unfold rne
  have ha := pw_pos a
  rw [pw_add, Nat.mul_comm n, Nat.mul_comm (pw b), Nat.mul_div_mul_left _ _ ha, Nat.mul_mod_mul_left]
  generalize n % pw b = r
  have e1 : 2 * (pw a * r) = pw a * (2 * r) := by rw [Nat.mul_left_comm]
  rw [e1]
  have c1 : pw a * pw b < pw a * (2 * r) ↔ pw b < 2 * r := Nat.mul_lt_mul_left ha
  have c2 : pw a * pw b = pw a * (2 * r) ↔ pw b = 2 * r := Nat.mul_right_inj (by omega)
  simp only [c1, c2]

/-- It is off by half at most. -/
theorem rne_near (n d : Nat) : 2 * (rne n d * pw d) ≤ 2 * n + pw d ∧ 2 * n ≤ 2 * (rne n d * pw d) + pw d := by
  unfold rne
  have h := Nat.div_add_mod n (pw d)
  have hp := pw_pos d
  have hm := Nat.mod_lt n hp
  generalize n / pw d = q at h ⊢
  generalize n % pw d = r at h hm ⊢
  generalize pw d = P at h hp hm ⊢
  have e : (q + 1) * P = P * q + P := by rw [Nat.add_mul, Nat.mul_comm q]; omega
  have e0 : (q + 0) * P = P * q := by rw [Nat.add_zero, Nat.mul_comm]
  split
  · rw [e]; omega
  · rename_i hc
    rw [e0]
    have : 2 * r ≤ P := by omega
    omega

/-- Where it is off by just a half it is even. -/
theorem rne_tie (n d : Nat) (h : 2 * (rne n d * pw d) = 2 * n + pw d ∨ 2 * n = 2 * (rne n d * pw d) + pw d) : rne n d % 2 = 0 := by
  unfold rne at h ⊢
  have hd := Nat.div_add_mod n (pw d)
  have hp := pw_pos d
  have hm := Nat.mod_lt n hp
  generalize n / pw d = q at h hd ⊢
  generalize n % pw d = r at h hd hm ⊢
  generalize pw d = P at h hd hp hm ⊢
  have e : (q + 1) * P = P * q + P := by rw [Nat.add_mul, Nat.mul_comm q]; omega
  have e0 : (q + 0) * P = P * q := by rw [Nat.add_zero, Nat.mul_comm]
  split at h
  · rename_i hc
    rw [if_pos hc]
    rw [e] at h
    omega
  · rename_i hc
    rw [if_neg hc]
    rw [e0] at h
    omega

/-- The place of the last digit that is kept, and what is kept. -/
def lastOf (m : Nat) (p : Int) : Int := max (p + m.log2 - 52) (-1074)
def keptOf (m : Nat) (p : Int) : Nat := rne (m * pw (p - lastOf m p).toNat) (lastOf m p - p).toNat

theorem nearest_eq (s : Bool) (m : Nat) (p : Int) (hm : m ≠ 0) : D.nearest s m p = D.word s (min ((lastOf m p + 1074).toNat * 4503599627370496 + keptOf m p) 9218868437227405312) := by
  unfold Format.nearest
  rw [if_neg hm]
  simp only [cut_even, Nat.shiftLeft_eq]
  rfl

theorem log2_bounds (m : Nat) (hm : m ≠ 0) : pw m.log2 ≤ m ∧ m < pw (m.log2 + 1) := ⟨Nat.log2_self_le hm, Nat.lt_log2_self⟩

theorem last_ge (m : Nat) (p : Int) : -1074 ≤ lastOf m p := by unfold lastOf; omega

/-- What is kept has at most 53 digits, or is 2^53; and 53 of them where the place is not the least. -/
theorem kept_bounds (m : Nat) (p : Int) (hm : m ≠ 0) : keptOf m p ≤ 9007199254740992 ∧ (lastOf m p = -1074 ∨ 4503599627370496 ≤ keptOf m p) := by
  obtain ⟨h1, h2⟩ := log2_bounds m hm
  have hl : p + m.log2 - 52 ≤ lastOf m p := by unfold lastOf; omega
  have hl2 : lastOf m p = -1074 ∨ lastOf m p = p + m.log2 - 52 := by unfold lastOf; omega
  unfold keptOf
  by_cases ht : lastOf m p ≤ p
  · rw [show (lastOf m p - p).toNat = 0 by omega, rne_zero]
    have e1 : m * pw (p - lastOf m p).toNat < pw (m.log2 + 1) * pw (p - lastOf m p).toNat := Nat.mul_lt_mul_of_pos_right h2 (pw_pos _)
    rw [← pw_add] at e1
    have e2 : pw (m.log2 + 1 + (p - lastOf m p).toNat) ≤ pw 53 := pw_le (by omega)
    have e3 : pw 53 = 9007199254740992 := rfl
    refine ⟨by omega, ?_⟩
    rcases hl2 with h | h
    · exact .inl h
    · right
      have e4 : pw m.log2 * pw (p - lastOf m p).toNat ≤ m * pw (p - lastOf m p).toNat := Nat.mul_le_mul_right _ h1
      rw [← pw_add, show m.log2 + (p - lastOf m p).toNat = 52 by omega] at e4
      exact e4
  · rw [show (p - lastOf m p).toNat = 0 by omega]
    obtain ⟨d, hd⟩ : ∃ d, d = (lastOf m p - p).toNat := ⟨_, rfl⟩
    rw [← hd, show pw 0 = 1 from rfl, Nat.mul_one]
    have hq : m / pw d < 9007199254740992 := by
      rw [Nat.div_lt_iff_lt_mul (pw_pos d)]
      refine Nat.lt_of_lt_of_le h2 ?_
      rw [show (9007199254740992 : Nat) = pw 53 from rfl, ← pw_add]
      exact pw_le (by omega)
    refine ⟨?_, ?_⟩
    · unfold rne; split <;> omega
    · rcases hl2 with h | h
      · exact .inl h
      · right
        have : 4503599627370496 ≤ m / pw d := by
          rw [Nat.le_div_iff_mul_le (pw_pos d), show (4503599627370496 : Nat) = pw 52 from rfl, ← pw_add]
          exact Nat.le_trans (pw_le (by omega)) h1
        unfold rne; omega

/-- What a word is worth by its rung. -/
theorem read_rung (s : Bool) (E k : Nat) (hk : k ≤ 9007199254740992) (hE : E = 0 ∨ 4503599627370496 ≤ k) (hr : E * 4503599627370496 + k < 9218868437227405312) :
    ∃ m e, D.read (D.word s (E * 4503599627370496 + k)) = .number s m e ∧ m * pw (e + 1074).toNat = k * pw E := by
  have hw : (D.word s (E * 4503599627370496 + k)) % 9223372036854775808 = E * 4503599627370496 + k := by rw [word_eq]; cases s <;> simp <;> omega
  have hs : ((D.word s (E * 4503599627370496 + k)) / 9223372036854775808 % 2 == 1) = s := by
    rw [word_eq]
    cases s
    · simp; omega
    · simp; omega
  rw [read_eq, hw, hs]
  by_cases c0 : E * 4503599627370496 + k < 4503599627370496
  · rw [if_pos c0]
    refine ⟨_, _, rfl, ?_⟩
    obtain rfl : E = 0 := by omega
    simp
  · rw [if_neg c0, if_pos hr]
    refine ⟨_, _, rfl, ?_⟩
    rw [show (-1074 + (((E * 4503599627370496 + k) / 4503599627370496 - 1 : Nat) : Int) + 1074).toNat = (E * 4503599627370496 + k) / 4503599627370496 - 1 by omega]
    by_cases c1 : k < 9007199254740992
    · have hk2 : 4503599627370496 ≤ k := by omega
      rw [show (E * 4503599627370496 + k) / 4503599627370496 - 1 = E by omega, show 4503599627370496 + (E * 4503599627370496 + k) % 4503599627370496 = k by omega]
    · obtain rfl : k = 9007199254740992 := by omega
      rw [show (E * 4503599627370496 + 9007199254740992) / 4503599627370496 - 1 = E + 1 by omega, show 4503599627370496 + (E * 4503599627370496 + 9007199254740992) % 4503599627370496 = 4503599627370496 by omega]
      rw [pw_add, ← Nat.mul_assoc, Nat.mul_right_comm]
      rfl

/-- What the nearest word reads as, where it is finite. -/
theorem nearest_read (s : Bool) (m : Nat) (p : Int) (hm : m ≠ 0) (hp : p + m.log2 ≤ 1022) :
    ∃ m' e', D.read (D.nearest s m p) = .number s m' e' ∧ m' * pw (e' + 1074).toNat = keptOf m p * pw (lastOf m p + 1074).toNat := by
  obtain ⟨h1, h2⟩ := kept_bounds m p hm
  have hl := last_ge m p
  have hlu : lastOf m p ≤ 970 := by unfold lastOf; omega
  rw [nearest_eq s m p hm]
  have hr : (lastOf m p + 1074).toNat * 4503599627370496 + keptOf m p < 9218868437227405312 := by omega
  rw [Nat.min_eq_left (by omega)]
  exact read_rung s _ _ h1 (by rcases h2 with h | h; left; omega; right; exact h) hr

/-- A whole number of digits more, as many places less. -/
theorem log2_scale (m k : Nat) (hm : m ≠ 0) : (m * pw k).log2 = m.log2 + k := by
  obtain ⟨h1, h2⟩ := log2_bounds m hm
  have hp := pw_pos k
  have hne : m * pw k ≠ 0 := by
    have := Nat.mul_pos (Nat.pos_of_ne_zero hm) hp
    omega
  rw [Nat.log2_eq_iff hne]
  refine ⟨?_, ?_⟩
  · rw [Nat.pow_add]; exact Nat.mul_le_mul_right _ h1
  · have : m * pw k < pw (m.log2 + 1) * pw k := Nat.mul_lt_mul_of_pos_right h2 hp
    rw [← pw_add] at this
    rw [show m.log2 + k + 1 = m.log2 + 1 + k by omega]
    exact this

theorem last_scale (m k : Nat) (p : Int) (hm : m ≠ 0) : lastOf (m * pw k) (p - k) = lastOf m p := by
  unfold lastOf; rw [log2_scale m k hm]; omega

theorem kept_scale (m k : Nat) (p : Int) (hm : m ≠ 0) : keptOf (m * pw k) (p - k) = keptOf m p := by
  unfold keptOf
  rw [last_scale m k p hm]
  generalize lastOf m p = L
  by_cases h1 : L ≤ p
  · by_cases h2 : (k : Int) ≤ p - L
    · rw [show (L - (p - k)).toNat = 0 by omega, show (L - p).toNat = 0 by omega, Nat.mul_assoc, ← pw_add]
      congr 3; omega
    · have e : pw k = pw (p - L).toNat * pw (L - (p - k)).toNat := by rw [← pw_add]; congr 1; omega
      rw [show (p - k - L).toNat = 0 by omega, show (L - p).toNat = 0 by omega, e, show pw 0 = 1 from rfl, Nat.mul_one, ← Nat.mul_assoc]
      have := rne_scale (m * pw (p - L).toNat) (L - (p - k)).toNat 0
      rwa [Nat.zero_add] at this
  · rw [show (p - k - L).toNat = 0 by omega, show (p - L).toNat = 0 by omega, show pw 0 = 1 from rfl, Nat.mul_one, Nat.mul_one, show (L - (p - k)).toNat = (L - p).toNat + k by omega]
    exact rne_scale m k _

theorem nearest_scale (s : Bool) (m k : Nat) (p : Int) : D.nearest s (m * pw k) (p - k) = D.nearest s m p := by
  by_cases hm : m = 0
  · subst hm
    rw [Nat.zero_mul]
    unfold Format.nearest
    rw [if_pos rfl, if_pos rfl]
  · have hne : m * pw k ≠ 0 := by
      have := Nat.mul_pos (Nat.pos_of_ne_zero hm) (pw_pos k)
      omega
    rw [nearest_eq s _ _ hne, nearest_eq s m p hm, last_scale m k p hm, kept_scale m k p hm]

/-- What is read of a word is written as it. -/
theorem write_read {b : Nat} (hb : b < 18446744073709551616) (hn : isNan b = false) : D.write (D.read b) = b := by
  have hs : ∀ r, r = b % 9223372036854775808 → D.word (b / 9223372036854775808 % 2 == 1) r = b := by
    rintro r rfl
    rw [word_eq]
    by_cases h : b / 9223372036854775808 % 2 = 1
    · rw [if_pos (by simpa using h)]; omega
    · rw [if_neg (by simpa using h)]; omega
  rw [read_eq]
  by_cases c0 : b % 9223372036854775808 < 4503599627370496
  · rw [if_pos c0]
    show D.nearest _ _ _ = b
    by_cases h0 : b % 9223372036854775808 = 0
    · unfold Format.nearest
      rw [if_pos h0]
      exact hs 0 h0.symm
    · rw [nearest_eq _ _ _ h0]
      apply hs
      obtain ⟨l1, l2⟩ := log2_bounds _ h0
      have hlog : (b % 9223372036854775808).log2 < 52 := (Nat.log2_lt h0).2 c0
      have hl : lastOf (b % 9223372036854775808) (-1074) = -1074 := by unfold lastOf; omega
      unfold keptOf
      rw [hl]
      simp only [Int.sub_self, Int.toNat_zero, rne_zero, show pw 0 = 1 from rfl, Nat.mul_one]
      omega
  · rw [if_neg c0]
    by_cases c1 : b % 9223372036854775808 < 9218868437227405312
    · rw [if_pos c1]
      show D.nearest _ _ _ = b
      rw [nearest_eq _ _ _ (by omega)]
      apply hs
      generalize b % 9223372036854775808 = r at c0 c1 ⊢
      have hlog : (4503599627370496 + r % 4503599627370496).log2 = 52 := (Nat.log2_eq_iff (by omega)).2 ⟨by omega, by omega⟩
      have hl : lastOf (4503599627370496 + r % 4503599627370496) (-1074 + ((r / 4503599627370496 - 1 : Nat) : Int)) = -1074 + ((r / 4503599627370496 - 1 : Nat) : Int) := by unfold lastOf; rw [hlog]; omega
      unfold keptOf
      rw [hl]
      simp only [Int.sub_self, Int.toNat_zero, rne_zero, show pw 0 = 1 from rfl, Nat.mul_one]
      omega
    · rw [if_neg c1]
      simp only [isNan, decide_eq_false_iff_not] at hn
      rw [if_pos (by omega)]
      exact hs _ (by rw [D_inf]; omega)

end Go.Proofs.YtcmahiphfpgadaaGreatDoor
