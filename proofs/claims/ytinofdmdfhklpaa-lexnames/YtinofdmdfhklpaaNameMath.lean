/- Names and words, as plain functions on lists of bytes. -/
import Derived.Test.YtinofdmdfhklpaaEndMath
namespace Go.Proofs.Ytinofdmdfhklpaa

/-- A name. -/
def isNm (l : List UInt8) : Bool := decide (1 ≤ l.length) && decide (l.length ≤ 24) && !isWd l && decide (endOf l = (1, l.length))

/-- Letters and digits alone. -/
def allAl (l : List UInt8) : Bool := l.all (fun c => isLet c.toNat || isDig c.toNat)

theorem alN_le (l : List UInt8) : alN l ≤ l.length := by
  induction l with
  | nil => simp [alN]
  | cons c r ih => simp only [alN]; split <;> simp; omega

theorem alN_all (l : List UInt8) : alN l = l.length ↔ allAl l = true := by
  induction l with
  | nil => simp [alN, allAl]
  | cons c r ih =>
    simp only [alN, allAl, List.all_cons, List.length_cons] at ih ⊢
    cases isLet c.toNat || isDig c.toNat
    · simp
    · simp only [if_true, Nat.add_right_cancel_iff, Bool.true_and]; exact ih

theorem end_word (c : UInt8) (r : List UInt8) : endOf (c :: r) = (1, (c :: r).length) ↔ isLet c.toNat = true ∧ allAl (c :: r) = true := by
  rw [← alN_all]
  simp only [endOf]
  cases h : isLet c.toNat
  · simp only [Bool.false_eq_true, if_false, false_and, iff_false]
    split
    · intro h2
      have h3 := congrArg Prod.fst h2
      simp only [] at h3
      have : ∀ l : List UInt8, (nmN l).1 = 2 ∨ (nmN l).1 = 3 := by
        intro l
        induction l with
        | nil => exact .inl rfl
        | cons d q ih => simp only [nmN]; split; exact .inr rfl; split; exact ih; exact .inl rfl
      rcases this r with h4 | h4 <;> omega
    · intro h2
      have h3 := congrArg Prod.fst h2
      simp at h3
  · simp [alN, h]

/-- What the document's Name asks, as it asks it. -/
theorem isNm_eq (c : UInt8) (r : List UInt8) : isNm (c :: r) = (decide ((c :: r).length ≤ 24) && isLet c.toNat && !isWd (c :: r) && allAl (c :: r)) := by
  rw [Bool.eq_iff_iff]
  simp only [isNm, Bool.and_eq_true, decide_eq_true_eq, end_word]
  constructor
  · rintro ⟨⟨⟨_, a⟩, b⟩, c, d⟩; exact ⟨⟨⟨a, c⟩, b⟩, d⟩
  · rintro ⟨⟨⟨a, c⟩, b⟩, d⟩; exact ⟨⟨⟨by simp, a⟩, b⟩, c, d⟩

theorem allAl_drop_yes (s : ByteArray) (j : Nat) (h : j < s.size) (hc : (isLet s[j].toNat || isDig s[j].toNat) = true) : allAl ((bytes s).drop j) = allAl ((bytes s).drop (j + 1)) := by
  rw [drop_at s j h]; simp only [allAl, List.all_cons, hc, Bool.true_and]
theorem allAl_drop_no (s : ByteArray) (j : Nat) (h : j < s.size) (hc : (isLet s[j].toNat || isDig s[j].toNat) = false) : allAl ((bytes s).drop j) = false := by
  rw [drop_at s j h]; simp only [allAl, List.all_cons, hc, Bool.false_and]

theorem not_empty {s : ByteArray} (h : 0 < s.size) : s.toList.isEmpty = false := by
  rw [List.isEmpty_eq_false_iff, toList_bytes]
  intro h0
  have : s.size = 0 := by rw [← bytes_length s, h0]; rfl
  omega

theorem is_empty {s : ByteArray} (h : s.size = 0) : s.toList.isEmpty = true := by
  rw [List.isEmpty_iff, toList_bytes]
  apply List.eq_nil_of_length_eq_zero
  rw [bytes_length]; exact h

end Go.Proofs.Ytinofdmdfhklpaa
