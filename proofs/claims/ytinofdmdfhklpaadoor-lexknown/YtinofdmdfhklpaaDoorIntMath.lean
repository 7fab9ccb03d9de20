/- What strconv.ParseInt answers at digits. -/
import Derived.Test.YtinofdmdfhklpaaDoorSpec
import Derived.Test.YtinofdmdfhklpaaDoorLitText
import Derived.Test.YtinofdmdfhklpaaDoorShelf
namespace Go.Proofs.YtinofdmdfhklpaaDoor

/-- Digits alone. -/
def allDg (l : List UInt8) : Prop := ∀ c ∈ l, 48 ≤ c.toNat ∧ c.toNat ≤ 57

/-- A digit more. -/
def dstep (n : Nat) (c : UInt8) : Nat := n * 10 + (c.toNat - 48)

/-- Digits read on from a number. -/
def fo (acc : Nat) (l : List UInt8) : Nat := l.foldl dstep acc

theorem fo_nil (acc : Nat) : fo acc [] = acc := rfl
theorem fo_cons (acc : Nat) (c : UInt8) (r : List UInt8) : fo acc (c :: r) = fo (dstep acc c) r := List.foldl_cons ..
theorem fo_val (l : List UInt8) : fo 0 l = decVal l := rfl

theorem fo_ge (l : List UInt8) : ∀ acc : Nat, acc ≤ fo acc l := by
  induction l with
  | nil => intro acc; exact Nat.le_refl _
  | cons c r ih => intro acc; rw [fo_cons]; exact Nat.le_trans (by unfold dstep; omega) (ih (dstep acc c))

theorem um_nil (M acc : Nat) : Lib.parseUintM M acc [] = .ok acc := by simp only [Lib.parseUintM]
theorem um_cons (M acc : Nat) (c : UInt8) (r : List UInt8) (hc : 48 ≤ c.toNat ∧ c.toNat ≤ 57) : Lib.parseUintM M acc (c :: r) = if 1844674407370955162 ≤ acc then .range else if M < dstep acc c then .range else Lib.parseUintM M (dstep acc c) r := by
  have hd : dstep acc c = acc * 10 + (c.toNat - 48) := rfl
  rw [hd]
  simp only [Lib.parseUintM, hc.1, hc.2, and_self, if_true]

theorem uint_digits (M : Nat) (hM : 9 + 1844674407370955161 * 10 ≥ M) (l : List UInt8) (h : allDg l) : ∀ acc : Nat, acc ≤ M →
    (fo acc l ≤ M ∧ Lib.parseUintM M acc l = .ok (fo acc l)) ∨ (M < fo acc l ∧ Lib.parseUintM M acc l = .range) := by
  induction l with
  | nil => intro acc ha; left; rw [fo_nil, um_nil]; exact ⟨ha, rfl⟩
  | cons c r ih =>
    intro acc ha
    have hc := h c List.mem_cons_self
    have hr : allDg r := fun d hd => h d (List.mem_cons_of_mem _ hd)
    have hge := fo_ge r (dstep acc c)
    have hds : dstep acc c = acc * 10 + (c.toNat - 48) := rfl
    rw [um_cons M acc c r hc, fo_cons]
    by_cases h1 : 1844674407370955162 ≤ acc
    · rw [if_pos h1]; right; exact ⟨by omega, rfl⟩
    · rw [if_neg h1]
      by_cases h2 : M < dstep acc c
      · rw [if_pos h2]; right; exact ⟨by omega, rfl⟩
      · rw [if_neg h2]; exact ih hr _ (by omega)

theorem int_digits (l : List UInt8) (h : allDg l) (hp : 0 < l.length) :
    Lib.parseIntB 64 l = if decVal l ≤ 9223372036854775807 then .ok (decVal l : Int) else .range := by
  match l, hp with
  | c :: r, _ =>
    have hc := h c List.mem_cons_self
    have h43 : ¬ (c.toNat = 43 ∨ c.toNat = 45) := by omega
    have h45 : ¬ c.toNat = 45 := by omega
    obtain ⟨M, hM⟩ : ∃ M : Nat, M = 18446744073709551615 := ⟨_, rfl⟩
    have hu := uint_digits M (by omega) (c :: r) h 0 (by omega)
    have hv : fo 0 (c :: r) = decVal (c :: r) := fo_val _
    rw [hv] at hu
    simp only [Lib.parseIntB, Lib.parseUintB, if_neg h43, show (2 ^ 64 - 1 : Nat) = M from hM.symm, reduceCtorEq, if_false]
    generalize decVal (c :: r) = V at hu ⊢
    rcases hu with ⟨h1, hu⟩ | ⟨h1, hu⟩
    · rw [hu]
      simp only [h45, not_false_eq_true, true_and, false_and, if_false, show (2 ^ (64 - 1) : Nat) = 9223372036854775808 from rfl]
      by_cases h2 : V ≤ 9223372036854775807
      · rw [if_pos h2, if_neg (by omega)]
      · rw [if_neg h2, if_pos (by omega)]
    · rw [hu, if_neg (by omega)]

/-- Digits may be a number, if no nought is ahead and they are not too many. -/
theorem good_iff (l : List UInt8) (h : allDg l) (hp : 0 < l.length) : GoodDec l ↔ ((l.getD 0 0).toNat = 48 → l.length = 1) ∧ decVal l ≤ 9223372036854775807 := by
  constructor
  · intro g; exact ⟨g.2.1, g.2.2.2⟩
  · rintro ⟨h1, h2⟩
    refine ⟨hp, h1, ?_, h2⟩
    intro j hj
    have : l.getD j 0 ∈ l := by simp [List.getD, List.getElem?_eq_getElem hj]
    exact h _ this

theorem dg_take (r : List UInt8) : allDg (r.take (dgN r)) := by
  induction r with
  | nil => intro c hc; simp at hc
  | cons d q ih =>
    simp only [dgN]
    split
    · next hd =>
      intro c hc
      rw [List.take_succ_cons] at hc
      rcases List.mem_cons.1 hc with rfl | hc
      · simpa [isDig] using hd
      · exact ih c hc
    · intro c hc; simp at hc

theorem nm_take (r : List UInt8) (h : (nmN r).1 = 2) : allDg (r.take (nmN r).2) := by
  induction r with
  | nil => intro c hc; simp [nmN] at hc
  | cons d q ih =>
    simp only [nmN] at h ⊢
    split at h
    · simp at h
    · next h0 =>
      rw [if_neg h0]
      split at h
      · next hd =>
        rw [if_pos hd]
        intro c hc
        simp only [List.take_succ_cons] at hc
        rcases List.mem_cons.1 hc with rfl | hc
        · simpa [isDig] using hd
        · exact ih h c hc
      · next hd => rw [if_neg hd]; intro c hc; simp at hc

/-- A number's bytes are digits. -/
theorem end_digits (l : List UInt8) (h : (endOf l).1 = 2) : allDg (l.take (endOf l).2) := by
  match l with
  | [] => intro c hc; simp at hc
  | d :: r =>
    simp only [endOf] at h ⊢
    split at h
    · simp at h
    · next h0 =>
      rw [if_neg h0]
      split at h
      · next hd =>
        rw [if_pos hd]
        intro c hc
        simp only [List.take_succ_cons] at hc
        rcases List.mem_cons.1 hc with rfl | hc
        · simpa [isDig] using hd
        · exact nm_take r h c hc
      · simp at h

end Go.Proofs.YtinofdmdfhklpaaDoor
