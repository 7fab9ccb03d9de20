/- lex.Name, and the document's own Words, Word and Name. -/
import Derived.Test.YtinofdmdfhklpaaTokenEnd
import Derived.Test.YtinofdmdfhklpaaNameMath
namespace Go.Proofs.Ytinofdmdfhklpaa
open Go.RowKit
set_option linter.unusedVariables false

theorem isNm_str (s : ByteArray) (hp : 0 < s.size) (hl : s.size ≤ 24) (hw : isWd (bytes s) = false) : isNm (bytes s) = decide (endOf (bytes s) = (1, s.size)) := by
  rw [isNm, bytes_length, hw]
  simp [show 1 ≤ s.size by omega, hl]

theorem isNm_not (s : ByteArray) (h : s.size = 0 ∨ 24 < s.size ∨ isWd (bytes s) = true) : isNm (bytes s) = false := by
  rw [isNm, bytes_length]
  rcases h with h | h | h
  · simp [h]
  · simp [show ¬ s.size ≤ 24 by omega]
  · simp [h]

theorem tokenEnd_zero (s : ByteArray) (w : World) (hk : 0 < s.size) (hs : s.size ≤ 1099511627776) (K E : Nat) (h : endOf (bytes s) = (K, E)) :
    Calls Try.prog 8 #[.string s, .int .i64 0] w fun e w' => e = .returned (.tuple #[.int .i64 (K : Nat), .int .i64 (E : Nat)]) ∧ w' = w := by
  have := tokenEnd_any s 0 w hk hs
  rw [List.drop_zero, h] at this
  simpa using this

set_option maxRecDepth 100000 in
set_option maxHeartbeats 800000 in
theorem name_any (s : ByteArray) (w : World) : Calls Try.prog 4 #[.string s] w fun e w' => e = .returned (.bool (isNm (bytes s))) ∧ w' = w := by
  by_cases h0 : s.size = 0
  · rw [isNm_not s (.inl h0)]
    have he := is_empty h0
    go_enter Try.func4, Try.ntmps4
    go_wp2
    go_ret
    exact ⟨rfl, rfl⟩
  have hp : 0 < s.size := by omega
  have he := not_empty hp
  by_cases h1 : 24 < s.size
  · rw [isNm_not s (.inr (.inl h1))]
    go_enter Try.func4, Try.ntmps4
    go_wp2
    go_ret
    exact ⟨rfl, rfl⟩
  cases hw : isWd (bytes s)
  · rw [isNm_str s hp (by omega) hw]
    obtain ⟨K, E, hKE⟩ : ∃ K E, endOf (bytes s) = (K, E) := ⟨_, _, rfl⟩
    rw [hKE]
    have HKE : Hid (endOf (bytes s) = (K, E)) := hKE
    have HW : Hid (isWd (bytes s) = false) := hw
    clear hKE hw
    go_enter Try.func4, Try.ntmps4
    go_wp2_with (first | (go_at_call 6; refine (word_any s _).mono ?_; rw [HW.out]; rintro e w1 ⟨rfl, rfl⟩) | (go_at_call 8; refine (tokenEnd_zero s _ hp (by omega) K E HKE.out).mono ?_; rintro e w1 ⟨rfl, rfl⟩))
    all_goals
      go_ret
      refine ⟨?_, rfl⟩
      simp
      try (rw [Bool.eq_iff_iff]; simp)
      try omega
  · rw [isNm_not s (.inr (.inr hw))]
    have HW : Hid (isWd (bytes s) = true) := hw
    clear hw
    go_enter Try.func4, Try.ntmps4
    go_wp2_with (first | (go_at_call 6; refine (word_any s _).mono ?_; rw [HW.out]; rintro e w1 ⟨rfl, rfl⟩))
    go_ret
    exact ⟨rfl, rfl⟩

theorem digit_at (n : Nat) (w : World) (b : Bool) (hb : isDig n = b) : Calls Try.prog 10 #[.int .u8 (n : Int)] w fun e w' => e = .returned (.bool b) ∧ w' = w := by subst hb; exact digit_any n w
theorem letter_at (n : Nat) (w : World) (b : Bool) (hb : isLet n = b) : Calls Try.prog 9 #[.int .u8 (n : Int)] w fun e w' => e = .returned (.bool b) ∧ w' = w := by subst hb; exact letter_any n w

/-- The cells of the words. -/
def wordCells : List Value := words.map fun x => .string ⟨x.toArray⟩

set_option maxHeartbeats 400000 in
theorem refWords_any (w : World) : Calls Try.prog 11 #[] w fun e w' => e = .returned (.slice (some ⟨w.heap.size, 0, none⟩) 18 18) ∧ w' = w.alloc (.cells wordCells.toArray 9) := by
  go_enter Try.func11, Try.ntmps11
  go_wp2
  go_ret
  exact ⟨rfl, rfl⟩

/-- Is a text among the words from a place on? -/
def wdFrom (i : Nat) (l : List UInt8) : Bool := decide (l ∈ words.drop i)

theorem wdFrom_yes (i : Nat) (l : List UInt8) (hi : i < 18) (h : words.getD i [] = l) : wdFrom i l = true := by
  simp only [wdFrom, decide_eq_true_eq]
  rw [List.drop_eq_getElem_cons (show i < words.length from hi)]
  have h2 : i < words.length := hi
  simp [List.getD, h2] at h
  rw [← h]
  exact List.mem_cons_self

theorem wdFrom_no (i : Nat) (l : List UInt8) (hi : i < 18) (h : ¬ words.getD i [] = l) : wdFrom i l = wdFrom (i + 1) l := by
  simp only [wdFrom]
  rw [List.drop_eq_getElem_cons (show i < words.length from hi)]
  have h2 : i < words.length := hi
  simp [List.getD, h2] at h
  rw [Bool.eq_iff_iff]
  simp only [decide_eq_true_eq, List.mem_cons]
  constructor
  · rintro (h3 | h3)
    · exact absurd h3.symm h
    · exact h3
  · exact .inr

theorem wordCell (w : World) (i : Nat) (hi : i < 18) : (w.alloc (.cells wordCells.toArray 9)).cell? ⟨w.heap.size, i, none⟩ = some (.string ⟨(words.getD i []).toArray⟩) := by
  have h2 : i < words.length := hi
  simp [wordCells, List.getD, h2]

set_option maxRecDepth 100000 in
set_option maxHeartbeats 800000 in
theorem refWord_any (s : ByteArray) (w : World) : Calls Try.prog 7 #[.string s] w fun e w' => e = .returned (.bool (isWd (bytes s))) ∧ Below w.heap.size w w' := by
  obtain ⟨B, hB⟩ : ∃ B, Hid (B = isWd (bytes s)) := ⟨_, (rfl : isWd (bytes s) = _)⟩
  rw [← hB.out]
  go_enter Try.func7, Try.ntmps7
  go_wp2_with fail
  refine (refWords_any _).mono ?_
  rintro e w1 ⟨rfl, hw1⟩
  have HC : Hid (∀ i, i < 18 → w1.cell? ⟨w.heap.size, i, none⟩ = some (.string ⟨(words.getD i []).toArray⟩)) := by
    intro i hi; rw [hw1]; exact wordCell w i hi
  have HB : Hid (Below w.heap.size w w1) := by
    show Below _ _ _
    rw [hw1]; exact (Below.refl _ _).alloc (Nat.le_refl _) _
  clear hw1
  go_wp2
  go_loopw [4] (fun j wr => ∃ i : Nat, j = .int .i64 (i : Int) ∧ i ≤ 18 ∧ Hid (wdFrom i (bytes s) = B) ∧ wr = w1) (fun j _ => 18 - (intOf j).toNat)
  case atStart => exact ⟨0, rfl, by omega, by show _ = _; rw [hB.out]; rfl, rfl⟩
  case round =>
    obtain ⟨i, rfl, hi, hr, rfl⟩ := hrel
    by_cases hc : i < 18
    · have hcell := HC.out i hc
      obtain ⟨W, hW⟩ : ∃ W : ByteArray, Hid (W = ⟨(words.getD i []).toArray⟩) := ⟨_, (rfl : (⟨(words.getD i []).toArray⟩ : ByteArray) = _)⟩
      rw [← hW.out] at hcell
      by_cases he : words.getD i [] = bytes s
      · have heq : (W.toList == s.toList) = true := by
          rw [hW.out, toList_bytes, toList_bytes, he]; simp [bytes]
        have hfin : Hid (B = true) := by show _ = _; rw [← hr.out]; exact wdFrom_yes i _ hc he
        clear he
        go_wp2
        go_ret
        exact ⟨by rw [hfin.out]; rfl, HB.out⟩
      · have heq : (W.toList == s.toList) = false := by
          rw [hW.out, toList_bytes, toList_bytes]
          simp only [beq_eq_false_iff_ne]
          intro h0
          exact he (by rw [← h0]; simp [bytes])
        have hr' : Hid (wdFrom (i + 1) (bytes s) = B) := by show _ = _; rw [← hr.out]; exact (wdFrom_no i _ hc he).symm
        clear he hr
        go_wp2
        go_roundw
        case rel => exact ⟨i + 1, by go_num, by omega, hr', trivial⟩
        case measure => simp [intOf]; omega
    · have hfin : Hid (B = false) := by
        show _ = _
        rw [← hr.out, show i = 18 by omega]
        simp [wdFrom, words]
      go_wp2
      go_ret
      exact ⟨by rw [hfin.out]; rfl, HB.out⟩

theorem isNm_ref (s : ByteArray) (hp : 0 < s.size) : isNm (bytes s) = (decide (s.size ≤ 24) && isLet s[0].toNat && !isWd (bytes s) && allAl (bytes s)) := by
  have h := drop_at s 0 hp
  rw [List.drop_zero] at h
  have h2 := isNm_eq s[0] ((bytes s).drop (0 + 1))
  rw [← h, bytes_length] at h2
  exact h2

set_option maxRecDepth 100000 in
set_option maxHeartbeats 800000 in
theorem refName_any (s : ByteArray) (w : World) : Calls Try.prog 5 #[.string s] w fun e w' => e = .returned (.bool (isNm (bytes s))) ∧ Below w.heap.size w w' := by
  by_cases h0 : s.size = 0
  · rw [isNm_not s (.inl h0)]
    go_enter Try.func5, Try.ntmps5
    go_wp2
    go_ret
    exact ⟨rfl, Below.refl _ _⟩
  have hp : 0 < s.size := by omega
  by_cases h1 : 24 < s.size
  · rw [isNm_not s (.inr (.inl h1))]
    go_enter Try.func5, Try.ntmps5
    go_wp2
    go_ret
    exact ⟨rfl, Below.refl _ _⟩
  have hNM := isNm_ref s hp
  cases hlet : isLet s[0].toNat
  · rw [hNM, hlet]
    simp only [Bool.and_false, Bool.false_and]
    go_enter Try.func5, Try.ntmps5
    go_wp2_with (first | (go_at_call 9; refine (letter_at _ _ false hlet).mono ?_; rintro e w1 ⟨rfl, rfl⟩))
    go_ret
    exact ⟨rfl, Below.refl _ _⟩
  cases hw : isWd (bytes s)
  · have hNM2 : Hid (isNm (bytes s) = allAl (bytes s)) := by
      show _ = _
      rw [hNM, hlet, hw]; simp [show s.size ≤ 24 by omega]
    have HW : Hid (isWd (bytes s) = false) := hw
    rw [hNM2.out]
    obtain ⟨B, hB⟩ : ∃ B, Hid (B = allAl (bytes s)) := ⟨_, (rfl : allAl (bytes s) = _)⟩
    rw [← hB.out]
    clear hNM hNM2 hw
    go_enter Try.func5, Try.ntmps5
    go_wp2_with fail
    refine (letter_at _ _ true hlet).mono ?_
    rintro e w1 ⟨rfl, hw1⟩
    rw [hw1]
    clear hw1
    go_wp2_with fail
    refine (refWord_any s _).mono ?_
    rw [HW.out]
    rintro e w2 ⟨rfl, hb2⟩
    have HB2 : Hid (Below w.heap.size w w2) := hb2
    clear hb2
    go_wp2
    go_loopw [3] (fun j wr => ∃ i : Nat, j = .int .i64 (i : Int) ∧ i ≤ s.size ∧ Hid (allAl ((bytes s).drop i) = B) ∧ wr = w2) (fun j _ => s.size - (intOf j).toNat)
    case atStart => exact ⟨0, rfl, by omega, by show _ = _; rw [hB.out]; rfl, rfl⟩
    case round =>
      obtain ⟨i, rfl, hi, hr, rfl⟩ := hrel
      by_cases hc : i < s.size
      · cases a1 : isLet s[i].toNat
        · cases a2 : isDig s[i].toNat
          · have hfin : Hid (B = false) := by show _ = _; rw [← hr.out]; exact allAl_drop_no s i hc (by rw [a1, a2]; rfl)
            go_wp2_with (first | (go_at_call 9; refine (letter_at _ _ false a1).mono ?_; rintro e w3 ⟨rfl, rfl⟩) | (go_at_call 10; refine (digit_at _ _ false a2).mono ?_; rintro e w3 ⟨rfl, rfl⟩))
            go_ret
            exact ⟨by rw [hfin.out]; rfl, HB2.out⟩
          · have hr' : Hid (allAl ((bytes s).drop (i + 1)) = B) := by show _ = _; rw [← hr.out]; exact (allAl_drop_yes s i hc (by rw [a1, a2]; rfl)).symm
            clear hr
            go_wp2_with (first | (go_at_call 9; refine (letter_at _ _ false a1).mono ?_; rintro e w3 ⟨rfl, rfl⟩) | (go_at_call 10; refine (digit_at _ _ true a2).mono ?_; rintro e w3 ⟨rfl, rfl⟩))
            go_roundw
            case rel => exact ⟨i + 1, by go_num, by omega, hr', trivial⟩
            case measure => simp [intOf]; omega
        · have hr' : Hid (allAl ((bytes s).drop (i + 1)) = B) := by show _ = _; rw [← hr.out]; exact (allAl_drop_yes s i hc (by rw [a1]; rfl)).symm
          clear hr
          go_wp2_with (first | (go_at_call 9; refine (letter_at _ _ true a1).mono ?_; rintro e w3 ⟨rfl, rfl⟩))
          go_roundw
          case rel => exact ⟨i + 1, by go_num, by omega, hr', trivial⟩
          case measure => simp [intOf]; omega
      · have hfin : Hid (B = true) := by
          show _ = _
          rw [← hr.out, drop_end s i hc]; rfl
        go_wp2
        go_ret
        exact ⟨by rw [hfin.out]; rfl, HB2.out⟩
  · rw [isNm_not s (.inr (.inr hw))]
    have HW : Hid (isWd (bytes s) = true) := hw
    clear hNM hw
    go_enter Try.func5, Try.ntmps5
    go_wp2_with fail
    refine (letter_at _ _ true hlet).mono ?_
    rintro e w1 ⟨rfl, hw1⟩
    rw [hw1]
    clear hw1
    go_wp2_with fail
    refine (refWord_any s _).mono ?_
    rw [HW.out]
    rintro e w2 ⟨rfl, hb2⟩
    go_wp2
    go_ret
    exact ⟨rfl, hb2⟩

/-- The whole law. -/
theorem names_walk (s : ByteArray) (w : World) : Calls Try.prog 3 #[.string s] w fun e w' => e = .returned (.bool true) ∧ Below w.heap.size w w' := by
  obtain ⟨B, hB⟩ : ∃ B, Hid (B = isNm (bytes s)) := ⟨_, (rfl : isNm (bytes s) = _)⟩
  obtain ⟨C, hC⟩ : ∃ C, Hid (C = isWd (bytes s)) := ⟨_, (rfl : isWd (bytes s) = _)⟩
  have hX : isNm (bytes ⟨#[120]⟩) = true := by decide
  go_enter Try.func3, Try.ntmps3
  go_wp2_with fail
  refine (name_any s _).mono ?_
  rw [← hB.out]
  rintro e w1 ⟨rfl, hw1⟩
  rw [hw1]
  clear hw1
  go_wp2_with fail
  refine (refName_any s _).mono ?_
  rw [← hB.out]
  rintro e w2 ⟨rfl, hb2⟩
  go_wp2_with fail
  refine (word_any s _).mono ?_
  rw [← hC.out]
  rintro e w3 ⟨rfl, hw3⟩
  rw [hw3]
  clear hw3
  go_wp2_with fail
  refine (refWord_any s _).mono ?_
  rw [← hC.out]
  rintro e w4 ⟨rfl, hb4⟩
  have hb5 := hb2.trans (hb4.mono hb2.size)
  clear hb2 hb4
  go_wp2_with fail
  refine (name_any _ _).mono ?_
  rw [hX]
  rintro e w6 ⟨rfl, hw6⟩
  rw [hw6]
  clear hw6
  go_wp2
  go_ret
  exact ⟨rfl, hb5⟩

end Go.Proofs.Ytinofdmdfhklpaa
