/- Words and blanks: plain facts on lists of bytes. -/
import Derived.Test.YtjjojlfhliecnabReadHex
namespace Go.Proofs.Ytjjojlfhliecnab
set_option linter.unusedVariables false

/-- A line cut at its blanks. -/
def splitB : List UInt8 → List (List UInt8)
  | [] => [[]]
  | c :: l => if c.toNat = 32 then [] :: splitB l else (c :: (splitB l).headD []) :: (splitB l).tail

theorem splitB_ne (l : List UInt8) : splitB l ≠ [] := by
  cases l with
  | nil => simp [splitB]
  | cons c l => unfold splitB; split <;> simp

theorem splitB_cons (l : List UInt8) : (splitB l).headD [] :: (splitB l).tail = splitB l := by
  cases h : splitB l with
  | nil => exact absurd h (splitB_ne l)
  | cons a t => rfl

theorem splitB_len (l : List UInt8) : (splitB l).length = (l.filter fun c => c.toNat == 32).length + 1 := by
  induction l with
  | nil => rfl
  | cons c l ih =>
    unfold splitB
    by_cases h : c.toNat = 32
    · simp [h, ih]
    · have h2 : (splitB l).length = (splitB l).tail.length + 1 := by rw [← splitB_cons l]; simp
      simp [h]
      simp at h2
      omega

/-- Are there words, with one blank between two of them, and no odd byte? 'blank': a blank, or nothing, stands ahead. -/
def lineOk : Bool → List UInt8 → Bool
  | blank, [] => !blank
  | blank, c :: l => if c.toNat < 32 ∨ 126 < c.toNat ∨ (c.toNat = 32 ∧ blank = true) then false else lineOk (c.toNat == 32) l

/-- No byte is odd. -/
def plainB (l : List UInt8) : Prop := ∀ c ∈ l, 32 ≤ c.toNat ∧ c.toNat ≤ 126

theorem lineOk_iff (l : List UInt8) : (lineOk true l = true ↔ plainB l ∧ ∀ w ∈ splitB l, w ≠ []) ∧ (lineOk false l = true ↔ plainB l ∧ ∀ w ∈ (splitB l).tail, w ≠ []) := by
  induction l with
  | nil => simp [lineOk, plainB, splitB]
  | cons c l ih =>
    obtain ⟨ih1, ih2⟩ := ih
    have hp : plainB (c :: l) ↔ (32 ≤ c.toNat ∧ c.toNat ≤ 126) ∧ plainB l := by simp [plainB]
    by_cases hr : 32 ≤ c.toNat ∧ c.toNat ≤ 126
    · by_cases h32 : c.toNat = 32
      · constructor
        · simp [lineOk, splitB, h32]
        · have e1 : lineOk false (c :: l) = lineOk true l := by simp [lineOk, h32]
          have e2 : (splitB (c :: l)).tail = splitB l := by simp [splitB, h32]
          rw [e1, e2, hp, ih1]
          exact ⟨fun h => ⟨⟨hr, h.1⟩, h.2⟩, fun h => ⟨h.1.2, h.2⟩⟩
      · have e3 : splitB (c :: l) = (c :: (splitB l).headD []) :: (splitB l).tail := by simp [splitB, h32]
        have e1 : ∀ b, lineOk b (c :: l) = lineOk false l := fun b => by
          have : ¬ (c.toNat < 32 ∨ 126 < c.toNat ∨ (c.toNat = 32 ∧ b = true)) := by omega
          simp only [lineOk, if_neg this]
          congr 1
          simpa using h32
        rw [e1, e1, e3, hp, ih2]
        constructor
        · constructor
          · rintro ⟨h1, h2⟩
            refine ⟨⟨hr, h1⟩, fun w hw => ?_⟩
            rcases List.mem_cons.1 hw with rfl | hw
            · simp
            · exact h2 w hw
          · rintro ⟨⟨_, h1⟩, h2⟩
            exact ⟨h1, fun w hw => h2 w (List.mem_cons_of_mem _ hw)⟩
        · exact ⟨fun h => ⟨⟨hr, h.1⟩, h.2⟩, fun h => ⟨h.1.2, h.2⟩⟩
    · have e1 : ∀ b, lineOk b (c :: l) = false := fun b => by
        have : c.toNat < 32 ∨ 126 < c.toNat ∨ (c.toNat = 32 ∧ b = true) := by omega
        simp only [lineOk, if_pos this]
      rw [e1, e1, hp]
      simp only [Bool.false_eq_true, hr, false_and, and_self]

/-- How many words. -/
theorem count_words (l : List UInt8) : (splitB l).length = l.count 32 + 1 := by
  rw [splitB_len, List.count_eq_length_filter]
  congr 2
  apply List.filter_congr
  intro c _
  rw [Bool.eq_iff_iff]
  simp only [beq_iff_eq]
  constructor
  · intro h; apply UInt8.toNat_inj.1; rw [h]; rfl
  · rintro rfl; rfl

/-- A word is cut off: the first blank stands at place i. -/
theorem splitB_cut (l : List UInt8) : ∀ i, i < l.length → (∀ j, j < i → (l.getD j 0).toNat ≠ 32) → (l.getD i 0).toNat = 32 → splitB l = l.take i :: splitB (l.drop (i + 1)) := by
  induction l with
  | nil => intro i h; simp at h
  | cons c l ih =>
    intro i h hj hi
    cases i with
    | zero =>
      simp [List.getD] at hi
      simp [splitB, hi]
    | succ i =>
      have h0 := hj 0 (by omega)
      simp [List.getD] at h0
      have := ih i (by simpa using h) (fun j hj' => by have := hj (j + 1) (by omega); simpa [List.getD] using this) (by simpa [List.getD] using hi)
      simp [splitB, h0, this]

theorem splitB_last (l : List UInt8) : (∀ j, j < l.length → (l.getD j 0).toNat ≠ 32) → splitB l = [l] := by
  induction l with
  | nil => intro _; rfl
  | cons c l ih =>
    intro h
    have h0 := h 0 (by simp)
    simp [List.getD] at h0
    have := ih (fun j hj => by have := h (j + 1) (by simpa using hj); simpa [List.getD] using this)
    simp [splitB, h0, this]

end Go.Proofs.Ytjjojlfhliecnab
