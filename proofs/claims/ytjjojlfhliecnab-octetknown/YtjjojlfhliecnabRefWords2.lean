/- The document's own Words: the words of a line. -/
import Derived.Test.YtjjojlfhliecnabRefWords
namespace Go.Proofs.Ytjjojlfhliecnab
open Go.RowKit
set_option linter.unusedVariables false

/-- A list of words with more ahead of the first one. -/
def addH (cur : List UInt8) (L : List (List UInt8)) : List (List UInt8) := (cur ++ L.headD []) :: L.tail

theorem addH_nil (l : List UInt8) : addH [] (splitB l) = splitB l := splitB_cons l

theorem addH_step (cur l : List UInt8) (c : UInt8) (h : c.toNat ≠ 32) : addH cur (splitB (c :: l)) = addH (cur ++ [c]) (splitB l) := by
  simp [addH, splitB, h]

theorem addH_blank (cur l : List UInt8) (c : UInt8) (h : c.toNat = 32) : addH cur (splitB (c :: l)) = cur :: splitB l := by
  simp [addH, splitB, h]

theorem addH_end (cur : List UInt8) : addH cur (splitB []) = [cur] := by simp [addH, splitB]

theorem line_of_empty {l : List UInt8} {ws L : List (List UInt8)} (h : ws ++ ([] :: L) = splitB l) : lineOk true l = false := by
  cases hl : lineOk true l with
  | false => rfl
  | true =>
    have := ((lineOk_iff l).1.1 hl).2 [] (by rw [← h]; simp)
    exact absurd rfl this

theorem line_of_odd {l : List UInt8} (k : Nat) (hk : k < l.length) (h : (l.getD k 0).toNat < 32 ∨ 126 < (l.getD k 0).toNat) : lineOk true l = false := by
  cases hl : lineOk true l with
  | false => rfl
  | true =>
    have hm : l.getD k 0 ∈ l := by
      simp [List.getD, List.getElem?_eq_getElem hk]
    have := ((lineOk_iff l).1.1 hl).1 _ hm
    omega

theorem line_yes {l : List UInt8} (h1 : ∀ j, j < l.length → 32 ≤ (l.getD j 0).toNat ∧ (l.getD j 0).toNat ≤ 126) (h2 : ∀ w ∈ splitB l, w ≠ []) : lineOk true l = true := by
  refine (lineOk_iff l).1.2 ⟨fun c hc => ?_, h2⟩
  obtain ⟨j, hj, rfl⟩ := List.getElem_of_mem hc
  have := h1 j hj
  simpa [List.getD, List.getElem?_eq_getElem hj] using this

theorem cat_snoc (l : List UInt8) (x : UInt8) : (⟨l.toArray⟩ ++ ⟨#[x]⟩ : ByteArray) = ⟨(l ++ [x]).toArray⟩ := by
  apply ByteArray.ext
  simp

theorem cut_one (s : ByteArray) (k : Nat) (h : k < s.size) : s.extract k (k + 1) = ⟨#[s[k]]⟩ := by
  apply ByteArray.ext
  apply Array.toList_inj.1
  rw [Lib.extract_data]
  have hl : k < s.data.toList.length := by simpa using h
  rw [List.drop_eq_getElem_cons hl]
  simp
  rfl

theorem bytes_drop (s : ByteArray) (k : Nat) (h : k < s.size) : (bytes s).drop k = s[k] :: (bytes s).drop (k + 1) := by
  rw [List.drop_eq_getElem_cons (show k < (bytes s).length by rw [bytes_length]; exact h)]
  congr 1

end Go.Proofs.Ytjjojlfhliecnab
