/- The document's own Parse: it answers as the code's does. -/
import Derived.Test.YtinofdmdfhklpaaDoorLitText
namespace Go.Proofs.YtinofdmdfhklpaaDoor
open Go.RowKit
set_option linter.unusedVariables false

/-- The byte at a place is a digit. -/
def Dig (l : List UInt8) (j : Nat) : Prop := 48 ≤ (l.getD j 0).toNat ∧ (l.getD j 0).toNat ≤ 57

theorem at_split {l A B : List UInt8} (h : l = A ++ 46 :: B) : l.length = A.length + (B.length + 1) ∧ l.getD A.length 0 = 46 ∧ (∀ j, j < A.length → l.getD j 0 = A.getD j 0) ∧ (∀ j, j < B.length → l.getD (A.length + 1 + j) 0 = B.getD j 0) := by
  subst h
  refine ⟨by simp, by simp [List.getD], ?_, ?_⟩
  · intro j hj
    simp [List.getD, List.getElem?_append_left hj]
  · intro j hj
    rw [List.getD, List.getElem?_append_right (by omega), show A.length + 1 + j - A.length = j + 1 by omega, List.getElem?_cons_succ]
    rfl

theorem lit_digs {l : List UInt8} (h : IsLit l) : (∀ j, j < l.length → j ≠ (aheadOf l).length → Dig l j) ∧ l.getD (aheadOf l).length 0 = 46 ∧ (aheadOf l).length < l.length := by
  obtain ⟨h1, h2, h3, h4⟩ := at_split (lit_split h)
  refine ⟨?_, h2, by omega⟩
  intro j hj hne
  unfold Dig
  rcases Nat.lt_or_ge j (aheadOf l).length with hl | hl
  · rw [h3 j hl]; exact h.2.2.2.1.2.2.1 j hl
  · have := h4 (j - (aheadOf l).length - 1) (by omega)
    rw [show (aheadOf l).length + 1 + (j - (aheadOf l).length - 1) = j by omega] at this
    rw [this]
    exact tail_digits h.2.2.2.2 _ (by omega)

/-- Where the first point is. -/
theorem first_point {l : List UInt8} {i : Nat} (hi : i < l.length) (hd : ∀ j, j < i → Dig l j) (hc : (l.getD i 0).toNat = 46) : l = aheadOf l ++ 46 :: behindOf l ∧ (aheadOf l).length = i := by
  have hsp : l = l.take i ++ 46 :: l.drop (i + 1) := by
    conv => lhs; rw [← List.take_append_drop i l]
    congr 1
    rw [List.drop_eq_getElem_cons hi]
    congr 1
    apply UInt8.toNat_inj.1
    rw [List.getD, List.getElem?_eq_getElem hi] at hc
    exact hc
  have hno : ∀ c ∈ l.take i, (c != 46) = true := by
    intro c hcm
    obtain ⟨j, hj, rfl⟩ := List.getElem_of_mem hcm
    have hji : j < i := by rw [List.length_take] at hj; omega
    have := (hd j hji).1
    rw [List.getD, List.getElem?_eq_getElem (by omega)] at this
    rw [bne_iff_ne, List.getElem_take]
    intro e
    rw [e] at this
    simp at this
  obtain ⟨c1, c2⟩ := cut_at (l.take i) (l.drop (i + 1)) hno
  rw [← hsp] at c1 c2
  refine ⟨by rw [c1, c2]; exact hsp, ?_⟩
  rw [c1, List.length_take]; omega

/-- A text without its point. -/
def bare (l : List UInt8) : List UInt8 := aheadOf l ++ behindOf l

theorem decVal_append (a b : List UInt8) : decVal (a ++ b) = decVal a * 10 ^ b.length + decVal b := by
  have := foldl_dec b (decVal a)
  unfold decVal at this ⊢
  rw [List.foldl_append, this]

theorem litNum_bare {l : List UInt8} (h : IsLit l) : litNum l = decVal (bare l) := by
  obtain ⟨e1, e2⟩ := one_lt h.2.2.2.2
  unfold litNum bare
  rw [e1, decVal_append]; omega

/-- Where the digits' loop stands. -/
def place (p i : Nat) : Nat := if i ≤ p then i else i - 1

theorem bare_step {l : List UInt8} (hs : l = aheadOf l ++ 46 :: behindOf l) (i : Nat) (hi : i < l.length) (hne : i ≠ (aheadOf l).length) :
    decVal ((bare l).take (place (aheadOf l).length (i + 1))) = decVal ((bare l).take (place (aheadOf l).length i)) * 10 + ((l.getD i 0).toNat - 48) := by
  obtain ⟨h1, h2, h3, h4⟩ := at_split hs
  have hb : (bare l).length = (aheadOf l).length + (behindOf l).length := by simp [bare]
  have hp : place (aheadOf l).length (i + 1) = place (aheadOf l).length i + 1 := by unfold place; split <;> split <;> omega
  have hpl : place (aheadOf l).length i < (bare l).length := by unfold place; split <;> omega
  rw [hp, val_take _ _ hpl]
  congr 3
  unfold place bare
  split
  · rw [h3 i (by omega), List.getD, List.getElem?_append_left (by omega)]; rfl
  · have := h4 (i - (aheadOf l).length - 1) (by omega)
    rw [show (aheadOf l).length + 1 + (i - (aheadOf l).length - 1) = i by omega] at this
    rw [this, List.getD, List.getElem?_append_right (by omega), show i - 1 - (aheadOf l).length = i - (aheadOf l).length - 1 by omega]; rfl

theorem bare_skip (p : Nat) : place p (p + 1) = place p p := by unfold place; simp

theorem bare_lt {l : List UInt8} (h : IsLit l) (k : Nat) : decVal ((bare l).take k) < 1000000000000000 := by
  have h1 := val_le (bare l) k
  have h2 := (lit_self h).2.1
  rw [litNum_bare h] at h2
  omega

/-- What the loop that looks for the point knows. -/
def St (l : List UInt8) (i : Nat) (pt : Int) : Prop :=
  (pt = -1 ∧ ∀ j, j < i → Dig l j) ∨ (∃ p : Nat, pt = (p : Int) ∧ p < i ∧ l = aheadOf l ++ 46 :: behindOf l ∧ (aheadOf l).length = p ∧ ∀ j, j < i → j ≠ p → Dig l j)

theorem st_bad {l : List UInt8} {i : Nat} {pt : Int} (h : St l i pt) (hi : i < l.length) (hc : ¬ Dig l i) (hp : ¬ ((l.getD i 0).toNat = 46 ∧ pt < 0)) : ¬ IsLit l := by
  intro hl
  obtain ⟨d1, d2, d3⟩ := lit_digs hl
  by_cases he : i = (aheadOf l).length
  · rcases h with ⟨h1, _⟩ | ⟨p, h1, h2, _, h3, _⟩
    · exact hp ⟨by rw [he, d2]; rfl, by omega⟩
    · omega
  · exact hc (d1 i hi he)

theorem st_none {l : List UInt8} (h : ∀ j, j < l.length → Dig l j) : ¬ IsLit l := by
  intro hl
  obtain ⟨d1, d2, d3⟩ := lit_digs hl
  have := (h _ d3).1
  rw [d2] at this
  simp at this

/-- What is asked of the point's place makes a literal. -/
theorem st_lit {l : List UInt8} {p : Nat} (hs : l = aheadOf l ++ 46 :: behindOf l) (hp : (aheadOf l).length = p) (hd : ∀ j, j < l.length → j ≠ p → Dig l j) (hlen : l.length ≤ 16) (h1 : 1 ≤ p) (h2 : 1 ≤ (behindOf l).length) (h3 : (behindOf l).length ≤ 6) (h0 : (l.getD 0 0).toNat = 48 → p = 1) : IsLit l := by
  obtain ⟨e1, e2, e3, e4⟩ := at_split hs
  have hA : ∀ j, j < (aheadOf l).length → 48 ≤ ((aheadOf l).getD j 0).toNat ∧ ((aheadOf l).getD j 0).toNat ≤ 57 := by
    intro j hj
    have := hd j (by omega) (by omega)
    unfold Dig at this
    rwa [e3 j hj] at this
  have hB : ∀ j, j < (behindOf l).length → 48 ≤ ((behindOf l).getD j 0).toNat ∧ ((behindOf l).getD j 0).toNat ≤ 57 := by
    intro j hj
    have := hd ((aheadOf l).length + 1 + j) (by omega) (by omega)
    unfold Dig at this
    rwa [e4 j hj] at this
  have lA := digits_lt _ hA
  have lB := digits_lt _ hB
  have pA : 10 ^ (aheadOf l).length ≤ 10 ^ 15 := Nat.pow_le_pow_right (by decide) (by omega)
  have pB : 10 ^ (behindOf l).length ≤ 10 ^ 6 := Nat.pow_le_pow_right (by decide) h3
  refine ⟨h2, h3, by omega, ⟨by omega, ?_, hA, by omega⟩, ⟨by simp, ?_, ?_, ?_⟩⟩
  · intro hz
    rw [hp]
    apply h0
    rw [e3 0 (by omega)]; exact hz
  · intro hz; simp at hz
  · intro j hj
    cases j with
    | zero => simp
    | succ j => simpa using hB j (by simpa using hj)
  · rw [decVal_cons]
    have : (49 : UInt8).toNat - 48 = 1 := rfl
    rw [this]; omega

end Go.Proofs.YtinofdmdfhklpaaDoor
