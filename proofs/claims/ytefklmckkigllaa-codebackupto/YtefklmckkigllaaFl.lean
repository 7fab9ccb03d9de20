/- Reals by their bits: what a float64's word stands for, and what the four operations and the comparisons tell, as plain functions of words: no program is named here. -/
import Derived.Laws.FloatArith
namespace Go.Proofs.Ytefklmckkigllaa
open Ieee
set_option linter.unusedVariables false

/-- float64. -/
abbrev D : Format := Ieee.double

/-- The one NaN's bits. -/
def NAN : Nat := 9221120237041090560

/-- A word that is a NaN. -/
def isNan (b : Nat) : Bool := decide (9218868437227405312 < b % 9223372036854775808)

/-- Bits brought home. -/
def home (b : Nat) : Nat := if isNan b then NAN else b

theorem D_sw : D.signWeight = 9223372036854775808 := rfl
theorem D_bin : D.binade = 4503599627370496 := rfl
theorem D_inf : D.infRung = 9218868437227405312 := rfl
theorem D_least : D.leastPlace = -1074 := rfl
theorem D_fb : D.fractionBits = 52 := rfl

theorem read_eq (b : Nat) : D.read b =
    if b % 9223372036854775808 < 4503599627370496 then .number (b / 9223372036854775808 % 2 == 1) (b % 9223372036854775808) (-1074)
    else if b % 9223372036854775808 < 9218868437227405312 then .number (b / 9223372036854775808 % 2 == 1) (4503599627370496 + b % 9223372036854775808 % 4503599627370496) (-1074 + (b % 9223372036854775808 / 4503599627370496 - 1 : Nat))
    else if b % 9223372036854775808 = 9218868437227405312 then .infinity (b / 9223372036854775808 % 2 == 1)
    else .nan (b / 9223372036854775808 % 2 == 1) (b % 9223372036854775808 - 9218868437227405312) := rfl

theorem read_nan {b : Nat} (h : isNan b = true) : ∃ s t, D.read b = .nan s t := by
  simp only [isNan, decide_eq_true_eq] at h
  rw [read_eq, if_neg (by omega), if_neg (by omega), if_neg (by omega)]
  exact ⟨_, _, rfl⟩

theorem read_real {b : Nat} (h : isNan b = false) : (∃ s m e, D.read b = .number s m e) ∨ (∃ s, D.read b = .infinity s) := by
  simp only [isNan, decide_eq_false_iff_not] at h
  rw [read_eq]
  split
  · exact .inl ⟨_, _, _, rfl⟩
  · split
    · exact .inl ⟨_, _, _, rfl⟩
    · rw [if_pos (by omega)]; exact .inr ⟨_, rfl⟩

theorem compare_self_int (x : Int) : compare x x = .eq := by simp [compare, compareOfLessAndEq]
theorem compare_self_nat (x : Nat) : compare x x = .eq := by simp [compare, compareOfLessAndEq]

theorem order_self (b : Nat) : D.order b b = if isNan b then none else some .eq := by
  cases h : isNan b
  · rcases read_real h with ⟨s, m, e, hr⟩ | ⟨s, hr⟩
    · simp [Format.order, hr, Datum.order]
    · simp [Format.order, hr, Datum.order]
  · obtain ⟨s, t, hr⟩ := read_nan h
    simp [Format.order, hr, Datum.order]

/-- 'x != x'. -/
theorem neq_self (b : Nat) : (D.order b b != some .eq) = isNan b := by
  rw [order_self]; cases isNan b <;> rfl
theorem eql_self (b : Nat) : (D.order b b == some .eq) = !isNan b := by
  rw [order_self]; cases isNan b <;> rfl

theorem isNan_NAN : isNan NAN = true := by decide
theorem home_nan {b : Nat} (h : isNan b = true) : home b = NAN := by simp [home, h]
theorem home_real {b : Nat} (h : isNan b = false) : home b = b := by simp [home, h]
theorem isNan_home (b : Nat) : isNan (home b) = isNan b := by
  cases h : isNan b
  · rw [home_real h, h]
  · rw [home_nan h, isNan_NAN]
theorem home_home (b : Nat) : home (home b) = home b := by
  cases h : isNan b
  · rw [home_real h, home_real h]
  · rw [home_nan h, home_nan isNan_NAN]
theorem home_lt {b : Nat} (h : b < 18446744073709551616) : home b < 18446744073709551616 := by
  unfold home; split
  · decide
  · exact h

/-- What is done with the words of two numbers, a NaN among them told as none, hangs on what they are brought home as. -/
theorem add_nan {a b : Nat} (h : isNan a = true ∨ isNan b = true) : D.add a b = none := by
  unfold Format.add
  rcases h with h | h
  · obtain ⟨s, t, hr⟩ := read_nan h
    rw [hr]; rfl
  · obtain ⟨s, t, hr⟩ := read_nan h
    rw [hr]
    cases ha : D.read a <;> rfl
theorem sub_nan {a b : Nat} (h : isNan a = true ∨ isNan b = true) : D.sub a b = none := by
  unfold Format.sub
  rcases h with h | h
  · obtain ⟨s, t, hr⟩ := read_nan h
    rw [hr]; rfl
  · obtain ⟨s, t, hr⟩ := read_nan h
    rw [hr]
    cases ha : D.read a <;> rfl
theorem mul_nan {a b : Nat} (h : isNan a = true ∨ isNan b = true) : D.mul a b = none := by
  unfold Format.mul
  rcases h with h | h
  · obtain ⟨s, t, hr⟩ := read_nan h
    rw [hr]; rfl
  · obtain ⟨s, t, hr⟩ := read_nan h
    rw [hr]
    cases ha : D.read a <;> rfl
theorem div_nan {a b : Nat} (h : isNan a = true ∨ isNan b = true) : D.div a b = none := by
  unfold Format.div
  rcases h with h | h
  · obtain ⟨s, t, hr⟩ := read_nan h
    rw [hr]; rfl
  · obtain ⟨s, t, hr⟩ := read_nan h
    rw [hr]
    cases ha : D.read a <;> rfl
theorem order_nan {a b : Nat} (h : isNan a = true ∨ isNan b = true) : D.order a b = none := by
  unfold Format.order
  rcases h with h | h
  · obtain ⟨s, t, hr⟩ := read_nan h
    rw [hr]; rfl
  · obtain ⟨s, t, hr⟩ := read_nan h
    rw [hr]
    cases ha : D.read a <;> rfl

theorem home_cases {α : Type} (f : Nat → Nat → Option α) (hn : ∀ a b, isNan a = true ∨ isNan b = true → f a b = none) (a b : Nat) : f (home a) (home b) = f a b := by
  cases ha : isNan a
  · cases hb : isNan b
    · rw [home_real ha, home_real hb]
    · rw [hn _ _ (.inr (by rw [isNan_home, hb])), hn _ _ (.inr hb)]
  · rw [hn _ _ (.inl (by rw [isNan_home, ha])), hn _ _ (.inl ha)]

theorem add_home (a b : Nat) : D.add (home a) (home b) = D.add a b := home_cases _ (fun _ _ => add_nan) a b
theorem sub_home (a b : Nat) : D.sub (home a) (home b) = D.sub a b := home_cases _ (fun _ _ => sub_nan) a b
theorem mul_home (a b : Nat) : D.mul (home a) (home b) = D.mul a b := home_cases _ (fun _ _ => mul_nan) a b
theorem div_home (a b : Nat) : D.div (home a) (home b) = D.div a b := home_cases _ (fun _ _ => div_nan) a b
theorem order_home (a b : Nat) : D.order (home a) (home b) = D.order a b := home_cases _ (fun _ _ => order_nan) a b

/-- What is told where an operation has an answer, and the one NaN where it has none. -/
def told (r : Option Nat) : Nat := match r with
  | some x => home x
  | none => NAN

/-- The four operations on bits. -/
def fadd (a b : Nat) : Nat := told (D.add a b)
def fsub (a b : Nat) : Nat := told (D.sub a b)
def fmul (a b : Nat) : Nat := told (D.mul a b)
def fdiv (a b : Nat) : Nat := told (D.div a b)

/-- The other sign. -/
def fneg (a : Nat) : Nat := if isNan a then NAN else if a < 9223372036854775808 then a + 9223372036854775808 else a - 9223372036854775808

/-- The nearest real of a whole number. -/
def ofInt (n : Int) : Nat := FloatKind.nearest .f64 n

theorem told_lt {r : Option Nat} (h : ∀ x, r = some x → x < 18446744073709551616) : told r < 18446744073709551616 := by
  unfold told
  split
  · rename_i x; exact home_lt (h x rfl)
  · decide

theorem ofInt_lt (n : Int) : ofInt n < 18446744073709551616 := D.write_lt (.number (decide (n < 0)) n.natAbs 0)

theorem isNan_told (r : Option Nat) : home (told r) = told r := by
  unfold told
  split
  · exact home_home _
  · decide

theorem word_eq (neg : Bool) (r : Nat) : D.word neg r = if neg then 9223372036854775808 + r else r := rfl

theorem isNan_nearest (neg : Bool) (mag : Nat) (place : Int) : isNan (D.nearest neg mag place) = false := by
  simp only [isNan, decide_eq_false_iff_not, Nat.not_lt]
  unfold Format.nearest
  dsimp only
  split
  · rw [word_eq]; cases neg <;> simp
  · rw [word_eq, D_inf]
    have := Nat.min_le_right ((max (place + ↑mag.log2 - ↑D.fractionBits) D.leastPlace - D.leastPlace).toNat * D.binade + Toward.even.cut neg (mag <<< (place - max (place + ↑mag.log2 - ↑D.fractionBits) D.leastPlace).toNat) (max (place + ↑mag.log2 - ↑D.fractionBits) D.leastPlace - place).toNat) 9218868437227405312
    generalize min _ 9218868437227405312 = k at this ⊢
    cases neg
    · simp; omega
    · simp; omega

theorem isNan_ofInt (n : Int) : isNan (ofInt n) = false := isNan_nearest _ _ _

theorem home_ofInt (n : Int) : home (ofInt n) = ofInt n := home_real (isNan_ofInt n)

/-- The whole part of a real, if it is one of 64 bits. -/
def wholeOf (b : Nat) : Option Int := floatToIntVal .f64 b .i64

end Go.Proofs.Ytefklmckkigllaa
