/- Fields as one text: plain facts on lists of bytes. -/
import Derived.Test.YtjjojlfhliecnabNumbersWalk
namespace Go.Proofs.Ytjjojlfhliecnab
set_option linter.unusedVariables false

/-- The text of fields, without how many they are. -/
def enc : List (List UInt8) → List UInt8
  | [] => []
  | f :: fs => short 9 f.length ++ f ++ enc fs

/-- Fields as one text. -/
def fieldsText (fs : List (List UInt8)) : List UInt8 := short 9 fs.length ++ enc fs

theorem enc_append (a b : List (List UInt8)) : enc (a ++ b) = enc a ++ enc b := by
  induction a with
  | nil => rfl
  | cons f a ih => simp [enc, ih]

theorem enc_one (f : List UInt8) : enc [f] = short 9 f.length ++ f := by simp [enc]

theorem enc_take_succ (fs : List (List UInt8)) (k : Nat) (h : k < fs.length) : enc (fs.take (k + 1)) = enc (fs.take k) ++ short 9 (fs.getD k []).length ++ fs.getD k [] := by
  rw [List.take_succ_eq_append_getElem h, enc_append, enc_one]
  simp [List.getD, List.getElem?_eq_getElem h]

theorem enc_drop (fs : List (List UInt8)) (k : Nat) (h : k < fs.length) : enc (fs.drop k) = short 9 (fs.getD k []).length ++ (fs.getD k [] ++ enc (fs.drop (k + 1))) := by
  rw [List.drop_eq_getElem_cons h]
  simp [enc, List.getD, List.getElem?_eq_getElem h]

theorem enc_take_le (fs : List (List UInt8)) (k : Nat) : (enc (fs.take k)).length ≤ (enc fs).length := by
  conv => rhs; rw [← List.take_append_drop k fs, enc_append]
  simp

/-- The shortest bytes at the beginning are read as the number. -/
theorem reads_short (n : Nat) (h : n < 18446744073709551616) (rest : List UInt8) : ReadsAs (short 9 n ++ rest) n (short 9 n).length := ⟨h, by simp, by simp⟩

theorem reads_short_one {n m k : Nat} {rest : List UInt8} (h : n < 18446744073709551616) (hr : ReadsAs (short 9 n ++ rest) m k) : m = n ∧ k = (short 9 n).length := reads_one hr (reads_short n h rest)

/-- These bytes are these fields as one text, within the bounds. -/
def ReadsF (bs : List UInt8) (fs : List (List UInt8)) : Prop := fieldsText fs = bs ∧ fs.length ≤ 4096 ∧ bs.length ≤ 1048576

/-- So many fields have been read, and what is left. -/
def Sofar (bs : List UInt8) (count : Nat) (got : List (List UInt8)) (rest : List UInt8) : Prop :=
  short 9 count ++ enc got ++ rest = bs ∧ got.length ≤ count ∧ ∀ fs, fieldsText fs = bs → fs.length = count ∧ fs.take got.length = got

theorem sofar_start {bs : List UInt8} {n k : Nat} (hb : bs.length ≤ 1048576) (hr : ReadsAs bs n k) : Sofar bs n [] (bs.drop k) := by
  refine ⟨by rw [hr.2.2]; simp [enc], Nat.zero_le _, fun fs hf => ?_⟩
  have hl : fs.length < 18446744073709551616 := by
    rcases Nat.lt_or_ge fs.length 18446744073709551616 with h | h
    · exact h
    · exfalso
      have : fs.length ≤ (enc fs).length := by
        clear hf h
        induction fs with
        | nil => simp [enc]
        | cons f fs ih =>
          have h2 : 1 ≤ (short 9 f.length).length := by
            unfold short
            split <;> simp
          simp [enc]
          omega
      have h2 : (fieldsText fs).length = bs.length := by rw [hf]
      simp [fieldsText] at h2
      omega
  have := reads_short fs.length hl (enc fs)
  have e : short 9 fs.length ++ enc fs = bs := hf
  rw [e] at this
  exact ⟨(reads_one this hr).1, by simp⟩

/-- What any fields of this text have next. -/
theorem sofar_next {bs rest : List UInt8} {count : Nat} {got fs : List (List UInt8)} (h : Sofar bs count got rest) (hf : fieldsText fs = bs) (hlt : got.length < count) (hb : bs.length ≤ 1048576) :
    rest = short 9 (fs.getD got.length []).length ++ (fs.getD got.length [] ++ enc (fs.drop (got.length + 1))) ∧ (fs.getD got.length []).length < 18446744073709551616 := by
  obtain ⟨h1, h2, h3⟩ := h
  obtain ⟨h4, h5⟩ := h3 fs hf
  have e : short 9 count ++ enc got ++ rest = short 9 count ++ enc got ++ enc (fs.drop got.length) := by
    rw [h1, ← hf]
    unfold fieldsText
    rw [h4]
    conv => lhs; rw [← List.take_append_drop got.length fs, enc_append, h5]
    simp
  have e2 := List.append_cancel_left e
  rw [enc_drop fs got.length (by omega)] at e2
  refine ⟨e2, ?_⟩
  have : (fs.getD got.length []).length ≤ rest.length := by rw [e2]; simp; omega
  have : rest.length ≤ bs.length := by rw [← h1]; simp; omega
  omega

theorem sofar_step {bs rest : List UInt8} {count n k : Nat} {got : List (List UInt8)} (h : Sofar bs count got rest) (hlt : got.length < count) (hb : bs.length ≤ 1048576) (hr : ReadsAs rest n k) (hn : n ≤ rest.length - k) :
    Sofar bs count (got ++ [(rest.drop k).take n]) ((rest.drop k).drop n) := by
  have hk : k ≤ rest.length := hr.2.1
  refine ⟨?_, by simp; omega, fun fs hf => ?_⟩
  · rw [← h.1, enc_append, enc_one]
    have e1 : ((rest.drop k).take n).length = n := by simp; omega
    rw [e1, hr.2.2]
    have e2 : rest.take k ++ ((rest.drop k).take n ++ (rest.drop k).drop n) = rest := by rw [List.take_append_drop, List.take_append_drop]
    conv => rhs; rw [← e2]
    simp
  · obtain ⟨h4, h5⟩ := h.2.2 fs hf
    refine ⟨h4, ?_⟩
    obtain ⟨e, hl⟩ := sofar_next h hf hlt hb
    have hr' := hr
    rw [e] at hr'
    obtain ⟨e1, e2⟩ := reads_short_one hl hr'
    have ef : (rest.drop k).take n = fs.getD got.length [] := by
      rw [e, e2, e1]
      simp
    rw [ef, List.length_append, List.length_singleton, List.take_succ_eq_append_getElem (by omega), h5]
    simp [List.getD, List.getElem?_eq_getElem (show got.length < fs.length by omega)]

theorem sofar_fail {bs rest : List UInt8} {count : Nat} {got : List (List UInt8)} (h : Sofar bs count got rest) (hlt : got.length < count) (hb : bs.length ≤ 1048576)
    (hbad : ∀ n k, ReadsAs rest n k → rest.length - k < n) : ∀ fs, ¬ ReadsF bs fs := by
  rintro fs ⟨hf, _, _⟩
  obtain ⟨e, hl⟩ := sofar_next h hf hlt hb
  have hr := reads_short (fs.getD got.length []).length hl (fs.getD got.length [] ++ enc (fs.drop (got.length + 1)))
  rw [← e] at hr
  have := hbad _ _ hr
  have e2 : rest.length = (short 9 (fs.getD got.length []).length).length + ((fs.getD got.length []).length + (enc (fs.drop (got.length + 1))).length) := by
    conv => lhs; rw [e]
    simp
  omega

theorem sofar_end {bs rest : List UInt8} {count : Nat} {got : List (List UInt8)} (h : Sofar bs count got rest) (he : got.length = count) :
    (rest = [] → fieldsText got = bs) ∧ (rest ≠ [] → ∀ fs, ¬ ReadsF bs fs) := by
  constructor
  · rintro rfl
    rw [← h.1, fieldsText, he]
    simp
  · rintro hne fs ⟨hf, _, _⟩
    obtain ⟨h4, h5⟩ := h.2.2 fs hf
    have e : fs = got := by rw [← h5, he, ← h4, List.take_length]
    subst e
    have h1 := h.1
    rw [← hf, fieldsText, h4] at h1
    have : rest = [] := by
      have := congrArg List.length h1
      simp at this
      exact this
    exact hne this

theorem fieldsText_inj {a b : List (List UInt8)} (ha : (fieldsText a).length ≤ 1048576) (h : fieldsText a = fieldsText b) : a = b := by
  have key : ∀ fs : List (List UInt8), (fieldsText fs).length ≤ 1048576 → fs.length < 18446744073709551616 := fun fs h => by
    have : fs.length ≤ (enc fs).length := by
      clear h
      induction fs with
      | nil => simp [enc]
      | cons f fs ih =>
        have h2 : 1 ≤ (short 9 f.length).length := by
          unfold short
          split <;> simp
        simp [enc]
        omega
    simp [fieldsText] at h
    omega
  have hr := reads_short a.length (key a ha) (enc a)
  have step : ∀ k, k ≤ a.length → ∃ got, got.length = k ∧ Sofar (fieldsText a) a.length got (enc (a.drop k)) := by
    intro k
    induction k with
    | zero =>
      intro _
      refine ⟨[], rfl, ?_⟩
      have := sofar_start ha hr
      simpa [fieldsText] using this
    | succ k ih =>
      intro hk
      obtain ⟨got, hg, hs⟩ := ih (by omega)
      have hfl : (a.getD k []).length < 18446744073709551616 := by
        have := sofar_next hs rfl (by omega) ha
        rw [hg] at this
        exact this.2
      have hr2 := reads_short (a.getD k []).length hfl (a.getD k [] ++ enc (a.drop (k + 1)))
      rw [← enc_drop a k (by omega)] at hr2
      have := sofar_step hs (by omega) ha hr2 (by rw [enc_drop a k (by omega)]; simp)
      refine ⟨got ++ [a.getD k []], by simp [hg], ?_⟩
      rw [enc_drop a k (by omega)] at this
      simp only [List.drop_left, List.take_left] at this
      exact this
  obtain ⟨got, hg, hs⟩ := step a.length (Nat.le_refl _)
  have h1 := (hs.2.2 a rfl).2
  have h2 := hs.2.2 b h.symm
  rw [hg, List.take_length] at h1
  rw [h1]
  rw [← h2.2, hg, ← h2.1, List.take_length]

end Go.Proofs.Ytjjojlfhliecnab
