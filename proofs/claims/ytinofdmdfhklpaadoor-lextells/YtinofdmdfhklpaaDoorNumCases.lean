/- Small facts for the document's own number. -/
import Derived.Test.YtinofdmdfhklpaaDoorOne
namespace Go.Proofs.YtinofdmdfhklpaaDoor
open Go.RowKit
set_option linter.unusedVariables false

theorem pt_yes (s : ByteArray) (j : Nat) (h : isPt ((bytes s).drop j) = true) : ∃ hj : j + 1 < s.size, (s[j].toNat : Int) = 46 ∧ isDig s[j + 1].toNat = true := by
  by_cases hj : j + 1 < s.size
  · refine ⟨hj, ?_⟩
    rw [drop_at s j (by omega), drop_at s (j + 1) hj] at h
    simp only [isPt, Bool.and_eq_true, decide_eq_true_eq] at h
    exact ⟨by rw [h.1]; rfl, h.2⟩
  · rw [isPt_short _ (by rw [List.length_drop, bytes_length]; omega)] at h
    simp at h

theorem pt_no (s : ByteArray) (j : Nat) (h : isPt ((bytes s).drop j) = false) : ¬ j + 1 < s.size ∨ ∃ hj : j + 1 < s.size, ((s[j].toNat : Int) == 46) = false ∨ ((s[j].toNat : Int) = 46 ∧ isDig s[j + 1].toNat = false) := by
  by_cases hj : j + 1 < s.size
  · refine .inr ⟨hj, ?_⟩
    rw [drop_at s j (by omega), drop_at s (j + 1) hj] at h
    by_cases h46 : s[j].toNat = 46
    · right
      refine ⟨by omega, ?_⟩
      have : s[j] = 46 := UInt8.toNat_inj.1 h46
      simpa [isPt, this] using h
    · exact .inl (by rw [beq_eq_false_iff_ne]; omega)
  · exact .inl hj

theorem cl_yes (s : ByteArray) (j K : Nat) (h : clB K ((bytes s).drop j) = true) : ∃ hj : j < s.size, isLet s[j].toNat = true ∨ (isLet s[j].toNat = false ∧ (s[j].toNat : Int) = 46) := by
  by_cases hj : j < s.size
  · refine ⟨hj, ?_⟩
    rw [drop_at s j hj] at h
    simp only [clB, Bool.and_eq_true, Bool.or_eq_true, decide_eq_true_eq] at h
    rcases h.2 with h1 | h1
    · exact .inl h1
    · cases h2 : isLet s[j].toNat
      · exact .inr ⟨rfl, by omega⟩
      · exact .inl rfl
  · rw [drop_end s j hj] at h
    simp [clB] at h

theorem cl_no (s : ByteArray) (j K : Nat) (hK : K = 2 ∨ K = 3) (h : clB K ((bytes s).drop j) = false) : ¬ j < s.size ∨ ∃ hj : j < s.size, isLet s[j].toNat = false ∧ ((s[j].toNat : Int) == 46) = false := by
  by_cases hj : j < s.size
  · refine .inr ⟨hj, ?_⟩
    rw [drop_at s j hj] at h
    have hKb : (decide (K = 2) || decide (K = 3)) = true := by simpa using hK
    simp only [clB, hKb, Bool.true_and, Bool.or_eq_false_iff, decide_eq_false_iff_not] at h
    refine ⟨h.1, ?_⟩
    rw [beq_eq_false_iff_ne]
    have := h.2
    omega
  · exact .inl hj

theorem letter_46 (w : World) : Calls Tryd.prog 27 #[.int .u8 46] w fun e w' => e = .returned (.bool false) ∧ w' = w := letter_at 46 w false rfl


end Go.Proofs.YtinofdmdfhklpaaDoor
