/- One bit that is turned is told. -/
import Derived.Test.YtbehmclligkbhaaFrB
namespace Go.Proofs.Ytbehmclligkbhaa
set_option linter.unusedVariables false

theorem num4_eq {bs : List UInt8} {k : Nat} : num4 bs k = number ((bs.drop k).take 4) := rfl
/-- A frame with one byte that is another is bad, whatever stands behind it. -/
theorem scan_turned (r rest : List UInt8) (p : Nat) (y : UInt8) (h : r.length ≤ 65536) (hp : p < r.length + 12) (hy : ∀ x, (frameL r)[p]? = some x → y ≠ x) : scanL ((frameL r).set p y ++ rest) = ([], 0, 2) := by
  have hl := frameL_len r
  have hx : (frameL r)[p]? = some ((frameL r)[p]'(by omega)) := List.getElem?_eq_getElem (by omega)
  have hne := hy _ hx
  obtain ⟨x, hxe⟩ : ∃ x, x = (frameL r)[p]'(by omega) := ⟨_, rfl⟩
  rw [← hxe] at hx hne
  have key : ∀ T : List UInt8, T.length = r.length + 12 + rest.length → (num4 T 4 ≠ 4294967295 - num4 T 0 ∨ (num4 T 0 = r.length ∧ num4 T (r.length + 8) ≠ crc ((T.drop 8).take r.length))) → scanL T = ([], 0, 2) := by
    intro T hT hc
    unfold scanL
    rw [hT, show r.length + 12 + rest.length = (r.length + 11 + rest.length) + 1 by omega, scanF_succ, hT, if_neg (by omega), if_neg (by omega)]
    by_cases q : num4 T 4 ≠ 4294967295 - num4 T 0 ∨ 65536 < num4 T 0
    · rw [if_pos q]
    · rw [if_neg q]
      rcases hc with hc | ⟨hc, hd⟩
      · exact absurd (.inl hc) q
      · rw [hc, if_neg (by omega), if_pos hd]
  have hTl : ((frameL r).set p y ++ rest).length = r.length + 12 + rest.length := by rw [List.length_append, List.length_set, hl]
  apply key _ hTl
  have n0 : number (bytesOf 4 r.length) = r.length := number_bytesOf 4 _ (by omega)
  have n1 : number (bytesOf 4 (4294967295 - r.length)) = 4294967295 - r.length := number_bytesOf 4 _ (by omega)
  have n2 : number (bytesOf 4 (crc r)) = crc r := number_bytesOf 4 _ (crc_lt r)
  obtain ⟨h1, e1⟩ : ∃ l, l = bytesOf 4 r.length := ⟨_, rfl⟩
  obtain ⟨h2, e2⟩ : ∃ l, l = bytesOf 4 (4294967295 - r.length) := ⟨_, rfl⟩
  obtain ⟨h3, e3⟩ : ∃ l, l = bytesOf 4 (crc r) := ⟨_, rfl⟩
  have l1 : h1.length = 4 := by rw [e1, bytesOf_length]
  have l2 : h2.length = 4 := by rw [e2, bytesOf_length]
  have l3 : h3.length = 4 := by rw [e3, bytesOf_length]
  have hf : frameL r = h1 ++ (h2 ++ (r ++ h3)) := by rw [frameL, e1, e2, e3]
  rw [← e1] at n0
  rw [← e2] at n1
  rw [← e3] at n2
  rw [hf] at hx ⊢
  have diff : ∀ (l : List UInt8) (i : Nat), l[i]? = some x → number (l.set i y) ≠ number l := by
    intro l i hi e
    have := number_inj (by rw [List.length_set]) e
    have h9 : (l.set i y)[i]? = some y := by rw [List.getElem?_set_self (List.getElem?_eq_some_iff.1 hi).1]
    rw [this, hi] at h9
    cases h9
    exact hne rfl
  by_cases a1 : p < 4
  · rw [List.getElem?_append_left (by omega)] at hx
    rw [List.set_append_left _ _ (by omega)]
    have hd := diff h1 p hx
    have hs : (h1.set p y).length = 4 := by rw [List.length_set, l1]
    obtain ⟨q1, q2, _⟩ := parts_nums (h1 := h1.set p y) (h2 := h2) (r := r) (h3 := h3) (rest := rest) hs l2 l3
    left
    simp only [List.append_assoc]
    rw [q1, q2, n1]
    rw [n0] at hd
    have hlt := number_lt (h1.set p y)
    rw [hs] at hlt
    omega
  rw [List.getElem?_append_right (by omega), l1] at hx
  rw [List.set_append_right _ _ (by omega), l1]
  by_cases a2 : p < 8
  · rw [List.getElem?_append_left (by omega)] at hx
    rw [List.set_append_left _ _ (by omega)]
    have hd := diff h2 (p - 4) hx
    have hs : (h2.set (p - 4) y).length = 4 := by rw [List.length_set, l2]
    obtain ⟨q1, q2, _⟩ := parts_nums (h1 := h1) (h2 := h2.set (p - 4) y) (r := r) (h3 := h3) (rest := rest) l1 hs l3
    left
    simp only [List.append_assoc]
    rw [q1, q2, n0]
    rw [n1] at hd
    exact hd
  rw [List.getElem?_append_right (by omega), l2] at hx
  rw [List.set_append_right _ _ (by omega), l2]
  by_cases a3 : p < r.length + 8
  · rw [List.getElem?_append_left (by omega)] at hx
    rw [List.set_append_left _ _ (by omega)]
    have hs : (r.set (p - 4 - 4) y).length = r.length := List.length_set
    obtain ⟨q1, q2, q3, q4, _⟩ := parts_nums (h1 := h1) (h2 := h2) (r := r.set (p - 4 - 4) y) (h3 := h3) (rest := rest) l1 l2 l3
    rw [hs] at q3 q4
    right
    simp only [List.append_assoc]
    rw [q1, q3, q4, n0, n2]
    refine ⟨rfl, ?_⟩
    obtain ⟨hi, hxe2⟩ := List.getElem?_eq_some_iff.1 hx
    have s1 : r.set (p - 4 - 4) y = r.take (p - 4 - 4) ++ y :: r.drop (p - 4 - 4 + 1) := List.set_eq_take_append_cons_drop.trans (by rw [if_pos hi])
    have s2 : r = r.take (p - 4 - 4) ++ x :: r.drop (p - 4 - 4 + 1) := by
      conv => lhs; rw [← List.take_append_drop (p - 4 - 4) r]
      rw [List.drop_eq_getElem_cons hi, hxe2]
    rw [s1]
    conv => lhs; rw [s2]
    exact crc_other _ _ _ _ fun e => hne e.symm
  · rw [List.getElem?_append_right (by omega)] at hx
    rw [List.set_append_right _ _ (by omega)]
    have hd := diff h3 _ hx
    have hs : (h3.set (p - 4 - 4 - r.length) y).length = 4 := by rw [List.length_set, l3]
    obtain ⟨q1, q2, q3, q4, _⟩ := parts_nums (h1 := h1) (h2 := h2) (r := r) (h3 := h3.set (p - 4 - 4 - r.length) y) (rest := rest) l1 l2 hs
    right
    simp only [List.append_assoc]
    rw [q1, q3, q4, n0]
    rw [n2] at hd
    exact ⟨rfl, hd⟩
end Go.Proofs.Ytbehmclligkbhaa
