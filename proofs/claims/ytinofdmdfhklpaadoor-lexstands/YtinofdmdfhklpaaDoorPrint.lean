/- real.digitsOf and real.Print. -/
import Derived.Test.YtinofdmdfhklpaaDoorParse
namespace Go.Proofs.YtinofdmdfhklpaaDoor
open Go.RowKit
set_option linter.unusedVariables false

/-- One half, and 10 to the power of 15, as reals. -/
def HALF : Nat := 4602678819172646912
def E15 : Nat := 4831355200913801216

/-- What is near a real's digits, scaled. -/
def nearOf (x s : Nat) : Option Nat := match D.mul x (ofInt (s : Int)) with
  | none => none
  | some p => D.add p HALF

/-- A literal's digits as a whole number, if x is the real of one with this scale. -/
def digitsOf (x s : Nat) : Option Nat := match nearOf x s with
  | none => none
  | some y => if isNan y = false ∧ 0 ≤ val y ∧ val y < val E15 then (if quo (trunc (val y)).toNat s = home x then some (trunc (val y)).toNat else none) else none

/-- What digitsOf answers. -/
def DigitsPost (x s : Nat) (e : Ending) : Prop :=
  (∃ n : Nat, digitsOf x s = some n ∧ e = .returned (.tuple #[.int .i64 (n : Int), .bool true])) ∨ (digitsOf x s = none ∧ e = .returned (.tuple #[.int .i64 0, .bool false]))

theorem val_zero : val 0 = 0 := by decide +kernel
theorem val_E15 : val E15 = ((1000000000000000 * pw 1074 : Nat) : Int) := by decide +kernel

theorem near_run (x s : Nat) (w : World) : ∃ p y q1 q2, (∀ t, (binOp .mul t (.float .f64 x) (.float .f64 (floatOfInt .f64 s))).run Tryd.prog w = .ok (.float .f64 p) (w.drewN q1)) ∧
    (∀ t, (binOp .add t (.float .f64 p) (.float .f64 4602678819172646912)).run Tryd.prog (w.drewN q1) = .ok (.float .f64 y) (w.drewN q2)) ∧ (nearOf x s = some y ∨ (nearOf x s = none ∧ isNan y = true)) := by
  cases h : floatBits .mul .f64 x (floatOfInt .f64 s) with
  | none =>
    have h' : D.mul x (ofInt (s : Int)) = none := h
    obtain ⟨p, hn, _, hr⟩ := run_float_none (P := Tryd.prog) w .mul (.inr (.inr (.inl rfl))) _ _ h
    obtain ⟨y, hy, _, hr2⟩ := run_float_none (P := Tryd.prog) w.drew .add (.inl rfl) p HALF (add_nan (.inl hn))
    refine ⟨p, y, 1, 2, fun t => hr t, fun t => hr2 t, .inr ⟨by simp [nearOf, h'], hy⟩⟩
  | some p =>
    have h' : D.mul x (ofInt (s : Int)) = some p := h
    have hr := fun t => run_float_arith (P := Tryd.prog) w .mul t .f64 _ _ p h
    cases h2 : floatBits .add .f64 p HALF with
    | none =>
      have h2' : D.add p HALF = none := h2
      obtain ⟨y, hy, _, hr2⟩ := run_float_none (P := Tryd.prog) w .add (.inl rfl) p HALF h2
      exact ⟨p, y, 0, 1, fun t => hr t, fun t => hr2 t, .inr ⟨by simp [nearOf, h', h2'], hy⟩⟩
    | some y =>
      have h2' : D.add p HALF = some y := h2
      have hr2 := fun t => run_float_arith (P := Tryd.prog) w .add t .f64 _ _ y h2
      exact ⟨p, y, 0, 0, fun t => hr t, fun t => hr2 t, .inl (by simp [nearOf, h', h2'])⟩

/-- The trunc of a real that is not below nought and below 10^15. -/
theorem trunc_bounds {v : Int} (h0 : 0 ≤ v) (h1 : v < val E15) : 0 ≤ trunc v ∧ trunc v < 1000000000000000 := by
  rw [val_E15] at h1
  unfold trunc
  rw [if_neg (by omega)]
  have hp := pw_pos 1074
  generalize pw 1074 = K at h1 hp ⊢
  have : v.natAbs / K < 1000000000000000 := (Nat.div_lt_iff_lt_mul hp).2 (by omega)
  generalize v.natAbs / K = z at this ⊢
  omega

theorem E15_lt_B63 : val E15 < val B63 := by
  rw [val_E15, val_B63]
  have hp := pw_pos 1074
  generalize pw 1074 = K at hp ⊢
  omega

theorem digitsOf_lt {x s n : Nat} (h : digitsOf x s = some n) : n < 1000000000000000 := by
  unfold digitsOf at h
  split at h
  · cases h
  · split at h
    · rename_i hc
      split at h
      · cases h
        have := trunc_bounds hc.2.1 hc.2.2
        omega
      · cases h
    · cases h

/-- The literal with so many digits behind the point, and these digits. -/
def litOf (k n : Nat) : List UInt8 := decOf ((n / 10 ^ k : Nat) : Int) ++ ([46] ++ (decOf ((10 ^ k + n % 10 ^ k : Nat) : Int)).drop 1)

/-- The first literal of a real, of those with k digits behind the point and more. -/
def pr (x : Nat) : Nat → Nat → Option (Nat × Nat)
  | _, 0 => none
  | k, f + 1 => match digitsOf x (10 ^ k) with
    | some n => some (k, n)
    | none => pr x (k + 1) f

/-- What Print answers. -/
def PrintPost (x : Nat) (e : Ending) : Prop :=
  (∃ k n : Nat, pr x 1 6 = some (k, n) ∧ e = .returned (.tuple #[.string ⟨(litOf k n).toArray⟩, .int .i64 0])) ∨ (pr x 1 6 = none ∧ e = .returned (.tuple #[.string ⟨#[]⟩, .int .i64 2]))

theorem digs_pos (f n : Nat) : 1 ≤ (digs f n).length := by
  cases f with
  | zero => simp [digs]
  | succ f => simp only [digs]; split <;> simp

theorem digs_len (f : Nat) : ∀ n, (digs f n).length ≤ f + 1 := by
  induction f with
  | zero => intro n; simp [digs]
  | succ f ih =>
    intro n
    simp only [digs]
    split
    · simp
    · have := ih (n / 10)
      simp
      omega

theorem decOf_len (n : Int) : (decOf n).length ≤ 21 := by
  unfold decOf
  have := digs_len 19 n.natAbs
  split
  · simp; omega
  · omega

theorem decOf_pos (n : Int) : 1 ≤ (decOf n).length := by
  unfold decOf
  split
  · simp
  · exact digs_pos _ _

end Go.Proofs.YtinofdmdfhklpaaDoor
