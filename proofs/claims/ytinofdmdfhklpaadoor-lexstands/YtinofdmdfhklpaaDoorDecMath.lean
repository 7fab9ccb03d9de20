/- Decimal digits: plain facts on lists of bytes. -/
import Derived.Test.YtinofdmdfhklpaaDoorSame
namespace Go.Proofs.YtinofdmdfhklpaaDoor
set_option linter.unusedVariables false

/-- The number whose digits these are. -/
def decVal (l : List UInt8) : Nat := l.foldl (fun n c => n * 10 + (c.toNat - 48)) 0

/-- The digits of a number from 0 to 2^63 - 1. -/
def GoodDec (l : List UInt8) : Prop := 1 ≤ l.length ∧ ((l.getD 0 0).toNat = 48 → l.length = 1) ∧ (∀ j, j < l.length → 48 ≤ (l.getD j 0).toNat ∧ (l.getD j 0).toNat ≤ 57) ∧ decVal l ≤ 9223372036854775807

theorem val_snoc (l : List UInt8) (c : UInt8) : decVal (l ++ [c]) = decVal l * 10 + (c.toNat - 48) := by simp [decVal]

theorem val_take (l : List UInt8) (k : Nat) (h : k < l.length) : decVal (l.take (k + 1)) = decVal (l.take k) * 10 + ((l.getD k 0).toNat - 48) := by
  have e : l.take (k + 1) = l.take k ++ [l.getD k 0] := by
    rw [List.take_succ_eq_append_getElem h]
    simp [List.getD, List.getElem?_eq_getElem h]
  rw [e, val_snoc]

theorem val_mono_succ (l : List UInt8) (k : Nat) : decVal (l.take k) ≤ decVal (l.take (k + 1)) := by
  rcases Nat.lt_or_ge k l.length with h | h
  · rw [val_take l k h]; omega
  · rw [List.take_of_length_le h, List.take_of_length_le (by omega)]; exact Nat.le_refl _

theorem val_mono (l : List UInt8) (k : Nat) : ∀ d, decVal (l.take k) ≤ decVal (l.take (k + d)) := by
  intro d
  induction d with
  | zero => exact Nat.le_refl _
  | succ d ih => exact Nat.le_trans ih (val_mono_succ l (k + d))

theorem val_le (l : List UInt8) (k : Nat) : decVal (l.take k) ≤ decVal l := by
  have := val_mono l k l.length
  rwa [List.take_of_length_le (show l.length ≤ k + l.length by omega)] at this

theorem val_lt (l : List UInt8) : ∀ k, k ≤ l.length → (∀ j, j < k → 48 ≤ (l.getD j 0).toNat ∧ (l.getD j 0).toNat ≤ 57) → decVal (l.take k) < 10 ^ k := by
  intro k
  induction k with
  | zero => intro _ _; simp [decVal]
  | succ k ih =>
    intro h hd
    have := ih (by omega) (fun j hj => hd j (by omega))
    have h2 := hd k (by omega)
    rw [val_take l k (by omega), Nat.pow_succ]
    omega

theorem val_ge (l : List UInt8) (hl : 1 ≤ l.length) (hd : ∀ j, j < l.length → 48 ≤ (l.getD j 0).toNat ∧ (l.getD j 0).toNat ≤ 57) (h0 : (l.getD 0 0).toNat ≠ 48) : ∀ k, k < l.length → 10 ^ k ≤ decVal (l.take (k + 1)) := by
  intro k
  induction k with
  | zero =>
    intro h
    rw [val_take l 0 h]
    have := hd 0 h
    omega
  | succ k ih =>
    intro h
    have := ih (by omega)
    rw [val_take l (k + 1) h, Nat.pow_succ]
    omega

/-- Twenty digits, none of them a nought ahead, are of too great a number. -/
theorem long_bad (l : List UInt8) (h : 19 < l.length) : ¬ GoodDec l := by
  rintro ⟨h1, h2, h3, h4⟩
  have h0 : (l.getD 0 0).toNat ≠ 48 := fun e => by have := h2 e; omega
  have := val_ge l h1 h3 h0 19 h
  have := val_le l (19 + 1)
  omega

theorem digit_bad (l : List UInt8) (k : Nat) (hk : k < l.length) (h : (l.getD k 0).toNat < 48 ∨ 57 < (l.getD k 0).toNat) : ¬ GoodDec l := by
  rintro ⟨_, _, h3, _⟩
  have := h3 k hk
  omega

theorem great_bad (l : List UInt8) (k : Nat) (h : 9223372036854775807 < decVal (l.take k)) : ¬ GoodDec l := by
  rintro ⟨_, _, _, h4⟩
  have := val_le l k
  omega

theorem nought_bad (l : List UInt8) (h : (l.getD 0 0).toNat = 48) (h1 : 1 < l.length) : ¬ GoodDec l := by
  rintro ⟨_, h2, _, _⟩
  have := h2 h
  omega

theorem none_bad (l : List UInt8) (h : l.length < 1) : ¬ GoodDec l := by rintro ⟨h1, _⟩; omega

/-- What ReadDec answers: a number and an error. -/
def DecIs (l : List UInt8) (most d h : Int) : Prop :=
  (most < 0 ∧ d = 0 ∧ h = 2) ∨ (0 ≤ most ∧ ¬ GoodDec l ∧ d = 0 ∧ h = 4) ∨ (0 ≤ most ∧ GoodDec l ∧ most < decVal l ∧ d = 0 ∧ h = 3) ∨ (0 ≤ most ∧ GoodDec l ∧ (decVal l : Int) ≤ most ∧ d = decVal l ∧ h = 0)

theorem DecIs.one {l : List UInt8} {most d h d' h' : Int} (a : DecIs l most d h) (b : DecIs l most d' h') : d = d' ∧ h = h' := by
  rcases a with ⟨a1, rfl, rfl⟩ | ⟨a1, a2, rfl, rfl⟩ | ⟨a1, a2, a3, rfl, rfl⟩ | ⟨a1, a2, a3, rfl, rfl⟩ <;>
  rcases b with ⟨b1, rfl, rfl⟩ | ⟨b1, b2, rfl, rfl⟩ | ⟨b1, b2, b3, rfl, rfl⟩ | ⟨b1, b2, b3, rfl, rfl⟩ <;>
  first
    | exact ⟨rfl, rfl⟩
    | (exfalso; omega)
    | (exfalso; exact a2 b2)
    | (exfalso; exact b2 a2)

end Go.Proofs.YtinofdmdfhklpaaDoor
