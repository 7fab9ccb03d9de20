/- Joined texts of the proof. -/
import Derived.Test.YtcmahiphfpgadaaGreatDoorJ2
import Derived.Test.YtcmahiphfpgadaaGreatDoorJ3
import Derived.Test.YtcmahiphfpgadaaGreatDoorJ1
import Derived.Test.YtcmahiphfpgadaaGreatDoorJ14
import Derived.Test.YtcmahiphfpgadaaGreatDoorJ4

/- Small calls of the document. -/
namespace Go.Proofs.YtcmahiphfpgadaaGreatDoor
open Ieee Go.RowKit
set_option linter.unusedVariables false
theorem to_any (b : Nat) (w : World) : Calls Tryz.prog 136 #[.float .f64 b] w fun e w' => e = .returned (.int .u64 (home b : Nat)) ∧ w' = w := by
 have hcf := cf_bits b
 have hneq : (FloatKind.f64.format.order b b != some .eq) = isNan b := neq_self b
 cases h : isNan b
 ·rw [home_real h]
  rw [h] at hneq
  go_enter Tryz.func136, Tryz.ntmps136
  go_wp2
  go_ret
  exact ⟨rfl, rfl⟩
 ·rw [home_nan h]
  rw [h] at hneq
  go_enter Tryz.func136, Tryz.ntmps136
  go_wp2
  go_ret
  exact ⟨rfl, rfl⟩

theorem of_any (b : Nat) (w : World) : Calls Tryz.prog 113 #[.int .u64 (b : Int)] w fun e w' => e = .returned (.float .f64 b) ∧ w' = w := by
 have hcf := cf_from b
 go_enter Tryz.func113, Tryz.ntmps113
 go_wp2
 go_ret
 exact ⟨rfl, rfl⟩

theorem refCanon_any (b : Nat) (w : World) : Calls Tryz.prog 112 #[.int .u64 (b : Int)] w fun e w' => e = .returned (.int .u64 (home b : Nat)) ∧ w' = w := by
 go_enter Tryz.func112, Tryz.ntmps112
 go_wp2_with fail
 refine (of_any b _).mono ?_
 rintro e w1 ⟨rfl, rfl⟩
 go_wp2_with fail
 refine (to_any b _).mono ?_
 rintro e w1 ⟨rfl, rfl⟩
 go_wp2
 go_ret
 exact ⟨rfl, rfl⟩

end Go.Proofs.YtcmahiphfpgadaaGreatDoor

/- The document's own names. -/
namespace Go.Proofs.YtcmahiphfpgadaaGreatDoor
open Ieee Go.RowKit
set_option linter.unusedVariables false
theorem letter_any (n : Nat) (w : World) : Calls Tryz.prog 74 #[.int .u8 (n : Int)] w fun e w' => e = .returned (.bool (isLet n)) ∧ w' = w := by
 go_enter Tryz.func74, Tryz.ntmps74
 go_wp2
 all_goals
  go_ret
  refine ⟨?_, rfl⟩
  simp [isLet]
  try (rw [Bool.eq_iff_iff]; simp)
  try omega

theorem digit_any (n : Nat) (w : World) : Calls Tryz.prog 76 #[.int .u8 (n : Int)] w fun e w' => e = .returned (.bool (isDig n)) ∧ w' = w := by
 go_enter Tryz.func76, Tryz.ntmps76
 go_wp2
 all_goals
  go_ret
  refine ⟨?_, rfl⟩
  simp [isDig]
  try (rw [Bool.eq_iff_iff]; simp)
  try omega

theorem digit_at (n : Nat) (w : World) (b : Bool) (hb : isDig n = b) : Calls Tryz.prog 76 #[.int .u8 (n : Int)] w fun e w' => e = .returned (.bool b) ∧ w' = w := by subst hb; exact digit_any n w
theorem letter_at (n : Nat) (w : World) (b : Bool) (hb : isLet n = b) : Calls Tryz.prog 74 #[.int .u8 (n : Int)] w fun e w' => e = .returned (.bool b) ∧ w' = w := by subst hb; exact letter_any n w

set_option maxHeartbeats 400000 in
theorem refWords_any (w : World) : Calls Tryz.prog 101 #[] w fun e w' => e = .returned (.slice (some ⟨w.heap.size, 0, none⟩) 18 18) ∧ w' = w.alloc (.cells wordCells.toArray 9) := by
 go_enter Tryz.func101, Tryz.ntmps101
 go_wp2
 go_ret
 exact ⟨rfl, rfl⟩

set_option maxRecDepth 100000 in
set_option maxHeartbeats 800000 in
theorem refWord_any (s : ByteArray) (w : World) : Calls Tryz.prog 75 #[.string s] w fun e w' => e = .returned (.bool (isWd (bytes s))) ∧ Below w.heap.size w w' := by
 obtain ⟨B, hB⟩ : ∃ B, Hid (B = isWd (bytes s)) := ⟨_, (rfl : isWd (bytes s) = _)⟩
 rw [← hB.out]
 go_enter Tryz.func75, Tryz.ntmps75
 go_wp2_with fail
 refine (refWords_any _).mono ?_
 rintro e w1 ⟨rfl, hw1⟩
 have HC : Hid (∀ i, i < 18 → w1.cell? ⟨w.heap.size, i, none⟩ = some (.string ⟨(words.getD i []).toArray⟩)) := by
  intro i hi; rw [hw1]; exact wordCell w i hi
 have HB : Hid (Below w.heap.size w w1) := by
  show Below _ _ _
  rw [hw1]; exact (Below.refl _ _).alloc (Nat.le_refl _) _
 clear hw1
 go_wp2
 go_loopw [4] (fun j wr => ∃ i : Nat, j = .int .i64 (i : Int) ∧ i ≤ 18 ∧ Hid (wdFrom i (bytes s) = B) ∧ wr = w1) (fun j _ => 18 - (intOf j).toNat)
 case atStart => exact ⟨0, rfl, by omega, by show _ = _; rw [hB.out]; rfl, rfl⟩
 case round =>
  obtain ⟨i, rfl, hi, hr, rfl⟩ := hrel
  by_cases hc : i < 18
  ·have hcell := HC.out i hc
   obtain ⟨W, hW⟩ : ∃ W : ByteArray, Hid (W = ⟨(words.getD i []).toArray⟩) := ⟨_, (rfl : (⟨(words.getD i []).toArray⟩ : ByteArray) = _)⟩
   rw [← hW.out] at hcell
   by_cases he : words.getD i [] = bytes s
   ·have heq : (W.toList == s.toList) = true := by
     rw [hW.out, toList_bytes, toList_bytes, he]; simp [bytes]
    have hfin : Hid (B = true) := by show _ = _; rw [← hr.out]; exact wdFrom_yes i _ hc he
    clear he
    go_wp2
    go_ret
    exact ⟨by rw [hfin.out]; rfl, HB.out⟩
   ·have heq : (W.toList == s.toList) = false := by
     rw [hW.out, toList_bytes, toList_bytes]
     simp only [beq_eq_false_iff_ne]
     intro h0
     exact he (by rw [← h0]; simp [bytes])
    have hr' : Hid (wdFrom (i + 1) (bytes s) = B) := by show _ = _; rw [← hr.out]; exact (wdFrom_no i _ hc he).symm
    clear he hr
    go_wp2
    go_roundw
    case rel => exact ⟨i + 1, by go_num, by omega, hr', trivial⟩
    case measure => simp [intOf]; omega
  ·have hfin : Hid (B = false) := by
    show _ = _
    rw [← hr.out, show i = 18 by omega]
    simp [wdFrom, words]
   go_wp2
   go_ret
   exact ⟨by rw [hfin.out]; rfl, HB.out⟩

set_option maxRecDepth 100000 in
set_option maxHeartbeats 800000 in
theorem refName_any (s : ByteArray) (w : World) : Calls Tryz.prog 35 #[.string s] w fun e w' => e = .returned (.bool (isNm (bytes s))) ∧ Below w.heap.size w w' := by
 by_cases h0 : s.size = 0
 ·rw [isNm_not s (.inl h0)]
  go_enter Tryz.func35, Tryz.ntmps35
  go_wp2
  go_ret
  exact ⟨rfl, Below.refl _ _⟩
 have hp : 0 < s.size := by omega
 by_cases h1 : 24 < s.size
 ·rw [isNm_not s (.inr (.inl h1))]
  go_enter Tryz.func35, Tryz.ntmps35
  go_wp2
  go_ret
  exact ⟨rfl, Below.refl _ _⟩
 have hNM := isNm_ref s hp
 cases hlet : isLet s[0].toNat
 ·rw [hNM, hlet]
  simp only [Bool.and_false, Bool.false_and]
  go_enter Tryz.func35, Tryz.ntmps35
  go_wp2_with (first | (go_at_call 74; refine (letter_at _ _ false hlet).mono ?_; rintro e w1 ⟨rfl, rfl⟩))
  go_ret
  exact ⟨rfl, Below.refl _ _⟩
 cases hw : isWd (bytes s)
 ·have hNM2 : Hid (isNm (bytes s) = allAl (bytes s)) := by
   show _ = _
   rw [hNM, hlet, hw]; simp [show s.size ≤ 24 by omega]
  have HW : Hid (isWd (bytes s) = false) := hw
  rw [hNM2.out]
  obtain ⟨B, hB⟩ : ∃ B, Hid (B = allAl (bytes s)) := ⟨_, (rfl : allAl (bytes s) = _)⟩
  rw [← hB.out]
  clear hNM hNM2 hw
  go_enter Tryz.func35, Tryz.ntmps35
  go_wp2_with fail
  refine (letter_at _ _ true hlet).mono ?_
  rintro e w1 ⟨rfl, hw1⟩
  rw [hw1]
  clear hw1
  go_wp2_with fail
  refine (refWord_any s _).mono ?_
  rw [HW.out]
  rintro e w2 ⟨rfl, hb2⟩
  have HB2 : Hid (Below w.heap.size w w2) := hb2
  clear hb2
  go_wp2
  go_loopw [3] (fun j wr => ∃ i : Nat, j = .int .i64 (i : Int) ∧ i ≤ s.size ∧ Hid (allAl ((bytes s).drop i) = B) ∧ wr = w2) (fun j _ => s.size - (intOf j).toNat)
  case atStart => exact ⟨0, rfl, by omega, by show _ = _; rw [hB.out]; rfl, rfl⟩
  case round =>
   obtain ⟨i, rfl, hi, hr, rfl⟩ := hrel
   by_cases hc : i < s.size
   ·cases a1 : isLet s[i].toNat
    ·cases a2 : isDig s[i].toNat
     ·have hfin : Hid (B = false) := by show _ = _; rw [← hr.out]; exact allAl_drop_no s i hc (by rw [a1, a2]; rfl)
      go_wp2_with (first | (go_at_call 74; refine (letter_at _ _ false a1).mono ?_; rintro e w3 ⟨rfl, rfl⟩) | (go_at_call 76; refine (digit_at _ _ false a2).mono ?_; rintro e w3 ⟨rfl, rfl⟩))
      go_ret
      exact ⟨by rw [hfin.out]; rfl, HB2.out⟩
     ·have hr' : Hid (allAl ((bytes s).drop (i + 1)) = B) := by show _ = _; rw [← hr.out]; exact (allAl_drop_yes s i hc (by rw [a1, a2]; rfl)).symm
      clear hr
      go_wp2_with (first | (go_at_call 74; refine (letter_at _ _ false a1).mono ?_; rintro e w3 ⟨rfl, rfl⟩) | (go_at_call 76; refine (digit_at _ _ true a2).mono ?_; rintro e w3 ⟨rfl, rfl⟩))
      go_roundw
      case rel => exact ⟨i + 1, by go_num, by omega, hr', trivial⟩
      case measure => simp [intOf]; omega
    ·have hr' : Hid (allAl ((bytes s).drop (i + 1)) = B) := by show _ = _; rw [← hr.out]; exact (allAl_drop_yes s i hc (by rw [a1]; rfl)).symm
     clear hr
     go_wp2_with (first | (go_at_call 74; refine (letter_at _ _ true a1).mono ?_; rintro e w3 ⟨rfl, rfl⟩))
     go_roundw
     case rel => exact ⟨i + 1, by go_num, by omega, hr', trivial⟩
     case measure => simp [intOf]; omega
   ·have hfin : Hid (B = true) := by
     show _ = _
     rw [← hr.out, drop_end s i hc]; rfl
    go_wp2
    go_ret
    exact ⟨by rw [hfin.out]; rfl, HB2.out⟩
 ·rw [isNm_not s (.inr (.inr hw))]
  have HW : Hid (isWd (bytes s) = true) := hw
  clear hNM hw
  go_enter Tryz.func35, Tryz.ntmps35
  go_wp2_with fail
  refine (letter_at _ _ true hlet).mono ?_
  rintro e w1 ⟨rfl, hw1⟩
  rw [hw1]
  clear hw1
  go_wp2_with fail
  refine (refWord_any s _).mono ?_
  rw [HW.out]
  rintro e w2 ⟨rfl, hb2⟩
  go_wp2
  go_ret
  exact ⟨rfl, hb2⟩

end Go.Proofs.YtcmahiphfpgadaaGreatDoor

/- The document's own Parse: it answers as the code's does. -/
namespace Go.Proofs.YtcmahiphfpgadaaGreatDoor
open Ieee Go.RowKit
set_option linter.unusedVariables false
/-- The byte at a place is a digit. -/
def Dig (l : List UInt8) (j : Nat) : Prop := 48 ≤ (l.getD j 0).toNat ∧ (l.getD j 0).toNat ≤ 57

theorem at_split {l A B : List UInt8} (h : l = A ++ 46 :: B) : l.length = A.length + (B.length + 1) ∧ l.getD A.length 0 = 46 ∧ (∀ j, j < A.length → l.getD j 0 = A.getD j 0) ∧ (∀ j, j < B.length → l.getD (A.length + 1 + j) 0 = B.getD j 0) := by
 subst h
 refine ⟨by simp, by simp [List.getD], ?_, ?_⟩
 ·intro j hj
  simp [List.getD, List.getElem?_append_left hj]
 ·intro j hj
  rw [List.getD, List.getElem?_append_right (by omega), show A.length + 1 + j - A.length = j + 1 by omega, List.getElem?_cons_succ]
  rfl

theorem lit_digs {l : List UInt8} (h : IsLit l) : (∀ j, j < l.length → j ≠ (aheadOf l).length → Dig l j) ∧ l.getD (aheadOf l).length 0 = 46 ∧ (aheadOf l).length < l.length := by
 obtain ⟨h1, h2, h3, h4⟩ := at_split (lit_split h)
 refine ⟨?_, h2, by omega⟩
 intro j hj hne
 unfold Dig
 rcases Nat.lt_or_ge j (aheadOf l).length with hl | hl
 ·rw [h3 j hl]; exact h.2.2.2.1.2.2.1 j hl
 ·have := h4 (j - (aheadOf l).length - 1) (by omega)
  rw [show (aheadOf l).length + 1 + (j - (aheadOf l).length - 1) = j by omega] at this
  rw [this]
  exact tail_digits h.2.2.2.2 _ (by omega)

/-- Where the first point is. -/
theorem first_point {l : List UInt8} {i : Nat} (hi : i < l.length) (hd : ∀ j, j < i → Dig l j) (hc : (l.getD i 0).toNat = 46) : l = aheadOf l ++ 46 :: behindOf l ∧ (aheadOf l).length = i := by
 have hsp : l = l.take i ++ 46 :: l.drop (i + 1) := by
  conv => lhs; rw [← List.take_append_drop i l]
  congr 1
  rw [List.drop_eq_getElem_cons hi]
  congr 1
  apply UInt8.toNat_inj.1
  rw [List.getD, List.getElem?_eq_getElem hi] at hc
  exact hc
 have hno : ∀ c ∈ l.take i, (c != 46) = true := by
  intro c hcm
  obtain ⟨j, hj, rfl⟩ := List.getElem_of_mem hcm
  have hji : j < i := by rw [List.length_take] at hj; omega
  have := (hd j hji).1
  rw [List.getD, List.getElem?_eq_getElem (by omega)] at this
  rw [bne_iff_ne, List.getElem_take]
  intro e
  rw [e] at this
  simp at this
 obtain ⟨c1, c2⟩ := cut_at (l.take i) (l.drop (i + 1)) hno
 rw [← hsp] at c1 c2
 refine ⟨by rw [c1, c2]; exact hsp, ?_⟩
 rw [c1, List.length_take]; omega

/-- A text without its point. -/
def bare (l : List UInt8) : List UInt8 := aheadOf l ++ behindOf l

theorem decVal_append (a b : List UInt8) : decVal (a ++ b) = decVal a * 10 ^ b.length + decVal b := by
 have := foldl_dec b (decVal a)
 unfold decVal at this ⊢
 rw [List.foldl_append, this]

theorem litNum_bare {l : List UInt8} (h : IsLit l) : litNum l = decVal (bare l) := by
 obtain ⟨e1, e2⟩ := one_lt h.2.2.2.2
 unfold litNum bare
 rw [e1, decVal_append]; omega

/-- Where the digits' loop stands. -/
def place (p i : Nat) : Nat := if i ≤ p then i else i - 1

theorem bare_step {l : List UInt8} (hs : l = aheadOf l ++ 46 :: behindOf l) (i : Nat) (hi : i < l.length) (hne : i ≠ (aheadOf l).length) :
  decVal ((bare l).take (place (aheadOf l).length (i + 1))) = decVal ((bare l).take (place (aheadOf l).length i)) * 10 + ((l.getD i 0).toNat - 48) := by
 obtain ⟨h1, h2, h3, h4⟩ := at_split hs
 have hb : (bare l).length = (aheadOf l).length + (behindOf l).length := by simp [bare]
 have hp : place (aheadOf l).length (i + 1) = place (aheadOf l).length i + 1 := by unfold place; split <;> split <;> omega
 have hpl : place (aheadOf l).length i < (bare l).length := by unfold place; split <;> omega
 rw [hp, val_take _ _ hpl]
 congr 3
 unfold place bare
 split
 ·rw [h3 i (by omega), List.getD, List.getElem?_append_left (by omega)]; rfl
 ·have := h4 (i - (aheadOf l).length - 1) (by omega)
  rw [show (aheadOf l).length + 1 + (i - (aheadOf l).length - 1) = i by omega] at this
  rw [this, List.getD, List.getElem?_append_right (by omega), show i - 1 - (aheadOf l).length = i - (aheadOf l).length - 1 by omega]; rfl

theorem bare_skip (p : Nat) : place p (p + 1) = place p p := by unfold place; simp

theorem bare_lt {l : List UInt8} (h : IsLit l) (k : Nat) : decVal ((bare l).take k) < 1000000000000000 := by
 have h1 := val_le (bare l) k
 have h2 := (lit_self h).2.1
 rw [litNum_bare h] at h2
 omega

/-- What the loop that looks for the point knows. -/
def PSt (l : List UInt8) (i : Nat) (pt : Int) : Prop :=
 (pt = -1 ∧ ∀ j, j < i → Dig l j) ∨ (∃ p : Nat, pt = (p : Int) ∧ p < i ∧ l = aheadOf l ++ 46 :: behindOf l ∧ (aheadOf l).length = p ∧ ∀ j, j < i → j ≠ p → Dig l j)

theorem st_bad {l : List UInt8} {i : Nat} {pt : Int} (h : PSt l i pt) (hi : i < l.length) (hc : ¬ Dig l i) (hp : ¬ ((l.getD i 0).toNat = 46 ∧ pt < 0)) : ¬ IsLit l := by
 intro hl
 obtain ⟨d1, d2, d3⟩ := lit_digs hl
 by_cases he : i = (aheadOf l).length
 ·rcases h with ⟨h1, _⟩ | ⟨p, h1, h2, _, h3, _⟩
  ·exact hp ⟨by rw [he, d2]; rfl, by omega⟩
  ·omega
 ·exact hc (d1 i hi he)

theorem st_none {l : List UInt8} (h : ∀ j, j < l.length → Dig l j) : ¬ IsLit l := by
 intro hl
 obtain ⟨d1, d2, d3⟩ := lit_digs hl
 have := (h _ d3).1
 rw [d2] at this
 simp at this

/-- What is asked of the point's place makes a literal. -/
theorem st_lit {l : List UInt8} {p : Nat} (hs : l = aheadOf l ++ 46 :: behindOf l) (hp : (aheadOf l).length = p) (hd : ∀ j, j < l.length → j ≠ p → Dig l j) (hlen : l.length ≤ 16) (h1 : 1 ≤ p) (h2 : 1 ≤ (behindOf l).length) (h3 : (behindOf l).length ≤ 6) (h0 : (l.getD 0 0).toNat = 48 → p = 1) : IsLit l := by
 obtain ⟨e1, e2, e3, e4⟩ := at_split hs
 have hA : ∀ j, j < (aheadOf l).length → 48 ≤ ((aheadOf l).getD j 0).toNat ∧ ((aheadOf l).getD j 0).toNat ≤ 57 := by
  intro j hj
  have := hd j (by omega) (by omega)
  unfold Dig at this
  rwa [e3 j hj] at this
 have hB : ∀ j, j < (behindOf l).length → 48 ≤ ((behindOf l).getD j 0).toNat ∧ ((behindOf l).getD j 0).toNat ≤ 57 := by
  intro j hj
  have := hd ((aheadOf l).length + 1 + j) (by omega) (by omega)
  unfold Dig at this
  rwa [e4 j hj] at this
 have lA := digits_lt _ hA
 have lB := digits_lt _ hB
 have pA : 10 ^ (aheadOf l).length ≤ 10 ^ 15 := Nat.pow_le_pow_right (by decide) (by omega)
 have pB : 10 ^ (behindOf l).length ≤ 10 ^ 6 := Nat.pow_le_pow_right (by decide) h3
 refine ⟨h2, h3, by omega, ⟨by omega, ?_, hA, by omega⟩, ⟨by simp, ?_, ?_, ?_⟩⟩
 ·intro hz
  rw [hp]
  apply h0
  rw [e3 0 (by omega)]; exact hz
 ·intro hz; simp at hz
 ·intro j hj
  cases j with
  | zero => simp
  | succ j => simpa using hB j (by simpa using hj)
 ·rw [decVal_cons]
  have : (49 : UInt8).toNat - 48 = 1 := rfl
  rw [this]; omega

end Go.Proofs.YtcmahiphfpgadaaGreatDoor

/- The document's own Parse, walked. -/
namespace Go.Proofs.YtcmahiphfpgadaaGreatDoor
open Ieee Go.RowKit
set_option linter.unusedVariables false
theorem digit3_any (c : Nat) (hc : c < 256) (w : World) : Calls Tryz.prog 139 #[.int .u8 (c : Int)] w fun e w' => e = .returned (.bool (decide (48 ≤ c ∧ c ≤ 57))) ∧ w' = w := by
 by_cases h1 : 48 ≤ c
 ·by_cases h2 : c ≤ 57
  ·rw [decide_eq_true ⟨h1, h2⟩]
   go_enter Tryz.func139, Tryz.ntmps139
   go_wp2
   go_ret
   exact ⟨by first | (simp; done) | (simp; omega), rfl⟩
  ·rw [decide_eq_false (fun h => h2 h.2)]
   go_enter Tryz.func139, Tryz.ntmps139
   go_wp2
   go_ret
   exact ⟨by first | (simp; done) | (simp; omega), rfl⟩
 ·rw [decide_eq_false (fun h => h1 h.1)]
  go_enter Tryz.func139, Tryz.ntmps139
  go_wp2
  go_ret
  exact ⟨by first | (simp; done) | (simp; omega), rfl⟩

set_option maxRecDepth 100000 in
set_option maxHeartbeats 3200000 in
theorem refParse_any (s : ByteArray) (w : World) (hs : s.size ≤ 100) : Calls Tryz.prog 116 #[.string s] w fun e w' => ParsePost (bytes s) e ∧ ∃ q, w' = w.drewN q := by
 have hbl := bytes_length s
 by_cases hl : 16 < s.size
 ·have hno : ¬ IsLit (bytes s) := by
   intro h
   have h1 := congrArg List.length (lit_split h)
   have h2 := h.2.2.1
   rw [hbl] at h1
   simp at h1
   omega
  go_enter Tryz.func116, Tryz.ntmps116
  go_wp2
  go_ret2
  exact ⟨.inr ⟨hno, rfl⟩, 0, rfl⟩
 go_enter Tryz.func116, Tryz.ntmps116
 go_wp2
 go_loop [4, 5] (fun t i => ∃ (k : Nat) (pt : Int), k ≤ s.size ∧ -1 ≤ pt ∧ pt < s.size ∧ i = .int .i64 (k : Int) ∧ t = .int .i64 pt ∧ Hid (PSt (bytes s) k pt)) (fun _ i => s.size - (intOf i).toNat)
 case atStart => exact ⟨0, -1, by omega, by omega, by omega, rfl, rfl, (Or.inl ⟨rfl, fun j hj => by omega⟩ : PSt (bytes s) 0 (-1))⟩
 case round =>
  obtain ⟨k, pt, hk, hp1, hp2, rfl, rfl, hst⟩ := hrel
  by_cases hlt : k < s.size
  ·obtain ⟨c, hc⟩ : ∃ c : Nat, s[k].toNat = c := ⟨_, rfl⟩
   have HC : Hid (((bytes s).getD k 0).toNat = c) := by show _ = _; rw [bytes_at s k hlt]; exact hc
   have hcl : c < 256 := by rw [← hc]; exact UInt8.toNat_lt _
   by_cases hdot : c = 46 ∧ pt < 0
   ·obtain ⟨hc46, hpt⟩ := hdot
    have hb46 : ((c : Int) == 46) = true := by rw [beq_iff_eq]; omega
    have HS : Hid (PSt (bytes s) (k + 1) (k : Int)) := by
     show PSt (bytes s) (k + 1) (k : Int)
     rcases hst.out with ⟨h1, h2⟩ | ⟨p, h1, _⟩
     ·obtain ⟨f1, f2⟩ := first_point (by rw [hbl]; exact hlt) h2 (by rw [HC.out]; exact hc46)
      exact Or.inr ⟨k, rfl, by omega, f1, f2, fun j hj hne => h2 j (by omega)⟩
     ·omega
    clear hst hc46
    go_wp2
    go_round
    case rel => exact ⟨k + 1, k, by omega, by omega, by omega, by go_num, rfl, HS⟩
    case measure => simp [intOf]; omega
   ·by_cases hdg : 48 ≤ c ∧ c ≤ 57
    ·have hb46 : ((c : Int) == 46) = false := by rw [beq_eq_false_iff_ne]; omega
     have HS : Hid (PSt (bytes s) (k + 1) pt) := by
      show PSt (bytes s) (k + 1) pt
      rcases hst.out with ⟨h1, h2⟩ | ⟨p, h1, h2, h3, h4, h5⟩
      ·refine Or.inl ⟨h1, fun j hj => ?_⟩
       rcases Nat.lt_or_ge j k with h | h
       ·exact h2 j h
       ·obtain rfl : j = k := by omega
        unfold Dig; rw [HC.out]; exact hdg
      ·refine Or.inr ⟨p, h1, by omega, h3, h4, fun j hj hne => ?_⟩
       rcases Nat.lt_or_ge j k with h | h
       ·exact h5 j h hne
       ·obtain rfl : j = k := by omega
        unfold Dig; rw [HC.out]; exact hdg
     have hdd : decide (48 ≤ c ∧ c ≤ 57) = true := decide_eq_true hdg
     clear hst
     go_wp2_with (go_at_call 139; refine (digit3_any c hcl _).mono ?_; rintro e w' ⟨rfl, rfl⟩; rw [hdd])
     go_round
     case rel => exact ⟨k + 1, pt, by omega, by omega, by omega, by go_num, rfl, HS⟩
     case measure => simp [intOf]; omega
    ·have hno : ¬ IsLit (bytes s) := st_bad hst.out (by rw [hbl]; exact hlt) (by unfold Dig; rw [HC.out]; exact hdg) (by rw [HC.out]; exact hdot)
     have hdd : decide (48 ≤ c ∧ c ≤ 57) = false := decide_eq_false hdg
     clear hst
     by_cases h46 : c = 46
     ·have hb46 : ((c : Int) == 46) = true := by rw [beq_iff_eq]; omega
      have hpt : 0 ≤ pt := by
       have : ¬ pt < 0 := fun h => hdot ⟨h46, h⟩
       omega
      clear hdot h46 hdg
      go_wp2_with (go_at_call 139; refine (digit3_any c hcl _).mono ?_; rintro e w' ⟨rfl, rfl⟩; rw [hdd])
      go_ret2
      exact ⟨.inr ⟨hno, rfl⟩, 0, rfl⟩
     ·have hb46 : ((c : Int) == 46) = false := by rw [beq_eq_false_iff_ne]; omega
      go_wp2_with (go_at_call 139; refine (digit3_any c hcl _).mono ?_; rintro e w' ⟨rfl, rfl⟩; rw [hdd])
      go_ret2
      exact ⟨.inr ⟨hno, rfl⟩, 0, rfl⟩
  ·obtain rfl : k = s.size := by omega
   rcases hst.out with ⟨h1, h2⟩ | ⟨p, h1, h2, h3, h4, h5⟩
   ·have hno : ¬ IsLit (bytes s) := st_none (by rw [hbl]; exact h2)
    subst h1
    clear hst h2
    go_wp2
    go_ret2
    exact ⟨.inr ⟨hno, rfl⟩, 0, rfl⟩
   ·subst h1
    clear hst
    obtain ⟨b, hb⟩ : ∃ b, b = (behindOf (bytes s)).length := ⟨_, rfl⟩
    have hpb : s.size = p + (b + 1) := by
     have := (at_split h3).1
     rw [hbl, h4, ← hb] at this
     exact this
    have hpos : 0 < s.size := by omega
    obtain ⟨c0, hc0⟩ : ∃ c0 : Nat, s[0].toNat = c0 := ⟨_, rfl⟩
    have HC0 : Hid (((bytes s).getD 0 0).toNat = c0) := by show _ = _; rw [bytes_at s 0 hpos]; exact hc0
    have hc0l : c0 < 256 := by rw [← hc0]; exact UInt8.toNat_lt _
    have H3 : Hid (bytes s = aheadOf (bytes s) ++ 46 :: behindOf (bytes s)) := h3
    have H4 : Hid ((aheadOf (bytes s)).length = p) := h4
    have H5 : Hid (∀ j, j < s.size → j ≠ p → Dig (bytes s) j) := h5
    have HB : Hid (b = (behindOf (bytes s)).length) := hb
    clear h3 h4 h5 hb
    by_cases g1 : 1 ≤ p ∧ 1 ≤ b ∧ b ≤ 6 ∧ ¬ (c0 = 48 ∧ 1 < p)
    ·obtain ⟨q1, q2, q3, q4⟩ := g1
     have hlit : Hid (IsLit (bytes s)) := st_lit H3.out H4.out (by rw [hbl]; exact H5.out) (by rw [hbl]; omega) q1 (by rw [← HB.out]; exact q2) (by rw [← HB.out]; exact q3) (by rw [HC0.out]; intro h; omega)
     have hz' : ((c0 : Int) == 48) = true ∧ p = 1 ∨ ((c0 : Int) == 48) = false := by
      by_cases h : c0 = 48
      ·exact .inl ⟨by rw [beq_iff_eq]; omega, by omega⟩
      ·exact .inr (by rw [beq_eq_false_iff_ne]; omega)
     clear q4
     have hN : Hid (decVal ((bare (bytes s)).take (place p s.size)) = litNum (bytes s)) := by
      show _ = _
      rw [litNum_bare hlit.out, List.take_of_length_le]
      have : (bare (bytes s)).length = p + b := by
       unfold bare
       rw [List.length_append, H4.out, ← HB.out]
      rw [this]; unfold place; split <;> omega
     rcases hz' with ⟨z1, zp⟩ | z1
     all_goals
      go_wp2
      go_loop [7, 8, 9] (fun nn pp ii => ∃ (k N P : Nat), k ≤ s.size ∧ N < 1000000000000000 ∧ P ≤ 1000000 ∧ nn = .int .i64 (N : Int) ∧ pp = .int .i64 (P : Int) ∧ ii = .int .i64 (k : Int) ∧ Hid (N = decVal ((bare (bytes s)).take (place p k))) ∧ Hid (P = 10 ^ (k - p - 1))) (fun _ _ ii => s.size - (intOf ii).toNat)
      case atStart => exact ⟨0, 0, 1, by omega, by omega, by omega, rfl, rfl, rfl, (by show _ = _; simp [place, decVal]), (by show _ = _; simp)⟩
      case round =>
       obtain ⟨k, N, P, hk, hN15, hP6, rfl, rfl, rfl, hNv, hPv⟩ := hrel
       by_cases hlt : k < s.size
       ·obtain ⟨c, hc⟩ : ∃ c : Nat, s[k].toNat = c := ⟨_, rfl⟩
        have HC : Hid (((bytes s).getD k 0).toNat = c) := by show _ = _; rw [bytes_at s k hlt]; exact hc
        have hcl : c < 256 := by rw [← hc]; exact UInt8.toNat_lt _
        by_cases hkp : k = p
        ·have HN : Hid (N = decVal ((bare (bytes s)).take (place p (k + 1)))) := by show _ = _; rw [hkp, bare_skip, ← hkp]; rw [hNv.out, hkp]
         have HP : Hid (P = 10 ^ (k + 1 - p - 1)) := by show _ = _; rw [hPv.out]; congr 1; omega
         clear hNv hPv
         go_wp2
         go_round
         case rel => exact ⟨k + 1, N, P, by omega, hN15, hP6, rfl, rfl, by go_num, HN, HP⟩
         case measure => simp [intOf]; omega
        ·have hdg := H5.out k hlt hkp
         unfold Dig at hdg
         rw [HC.out] at hdg
         have hst := bare_step H3.out k (by rw [hbl]; exact hlt) (by rw [H4.out]; exact hkp)
         rw [H4.out, HC.out, ← hNv.out] at hst
         have hlt15 := bare_lt hlit.out (place p (k + 1))
         rw [hst] at hlt15
         have HN : Hid (N * 10 + (c - 48) = decVal ((bare (bytes s)).take (place p (k + 1)))) := hst.symm
         clear hst
         by_cases hgt : p < k
         ·have HP : Hid (10 * P = 10 ^ (k + 1 - p - 1)) := by show _ = _; rw [hPv.out, show k + 1 - p - 1 = (k - p - 1) + 1 by omega, Nat.pow_succ, Nat.mul_comm]
          have hP6' : 10 * P ≤ 1000000 := by
           rw [HP.out]
           exact Nat.le_trans (Nat.pow_le_pow_right (by decide) (show k + 1 - p - 1 ≤ 6 by omega)) (by decide)
          clear hNv hPv
          go_wp2
          go_round
          case rel => exact ⟨k + 1, N * 10 + (c - 48), 10 * P, by omega, hlt15, hP6', by go_num, by go_num, by go_num, HN, HP⟩
          case measure => simp [intOf]; omega
         ·have HP : Hid (P = 10 ^ (k + 1 - p - 1)) := by show _ = _; rw [hPv.out]; congr 1; omega
          clear hNv hPv
          go_wp2
          go_round
          case rel => exact ⟨k + 1, N * 10 + (c - 48), P, by omega, hlt15, hP6, by go_num, rfl, by go_num, HN, HP⟩
          case measure => simp [intOf]; omega
       ·obtain rfl : k = s.size := by omega
        have hNl : Hid (litNum (bytes s) = N) := by show _ = _; rw [← hN.out, hNv.out]
        have hPl : Hid (10 ^ (behindOf (bytes s)).length = P) := by show _ = _; rw [hPv.out, ← HB.out]; congr 1; omega
        obtain ⟨x, q, hx, hop⟩ := run_float_any (P := Tryz.prog) w .quo (.inr (.inr (.inr rfl))) (floatOfInt .f64 N) (floatOfInt .f64 P)
        have hx' : home x = quo N P := hx
        clear hx hNv hPv
        go_wp2_with fail
        refine (to_any x _).mono ?_
        rintro e w1 ⟨rfl, rfl⟩
        rw [hx']
        go_wp2
        go_ret2
        exact ⟨.inl ⟨hlit.out, by rw [hNl.out, hPl.out]; rfl⟩, q, rfl⟩
    ·have hno : ¬ IsLit (bytes s) := by
      intro h
      apply g1
      have e1 := h.1
      have e2 := h.2.1
      have e3 := h.2.2.2.1.1
      rw [← HB.out] at e1 e2
      rw [H4.out] at e3
      refine ⟨e3, e1, e2, ?_⟩
      rintro ⟨z1, z2⟩
      have e4 := h.2.2.2.1.2.1
      have e5 := (at_split H3.out).2.2.1 0 (by rw [H4.out]; omega)
      rw [← e5, HC0.out, H4.out] at e4
      have := e4 z1
      omega
     have hz : ((c0 : Int) == 48) = decide (c0 = 48) := by
      by_cases h : c0 = 48
      ·rw [decide_eq_true h, beq_iff_eq]; omega
      ·rw [decide_eq_false h, beq_eq_false_iff_ne]; omega
     by_cases q1 : 1 ≤ p
     ·by_cases q2 : 1 ≤ b
      ·by_cases q3 : b ≤ 6
       ·have q4 : c0 = 48 ∧ 1 < p := by
         by_cases q : c0 = 48 ∧ 1 < p
         ·exact q
         ·exact absurd ⟨q1, q2, q3, q⟩ g1
        have hz' : ((c0 : Int) == 48) = true := by rw [beq_iff_eq]; omega
        clear g1 hz
        go_wp2
        go_ret2
        exact ⟨.inr ⟨hno, rfl⟩, 0, rfl⟩
       ·clear g1
        go_wp2
        go_ret2
        exact ⟨.inr ⟨hno, rfl⟩, 0, rfl⟩
      ·clear g1
       go_wp2
       go_ret2
       exact ⟨.inr ⟨hno, rfl⟩, 0, rfl⟩
     ·clear g1
      go_wp2
      go_ret2
      exact ⟨.inr ⟨hno, rfl⟩, 0, rfl⟩

end Go.Proofs.YtcmahiphfpgadaaGreatDoor

/- The document's own dec: a number's digits, at least so many. -/
namespace Go.Proofs.YtcmahiphfpgadaaGreatDoor
open Ieee Go.RowKit
set_option linter.unusedVariables false
/-- A number's digits, at least so many; 'f' rounds at most. -/
def padF : Nat → Nat → Nat → List UInt8
 | 0, _, _ => []
 | f + 1, n, k => if 0 < n ∨ 0 < k then padF f (n / 10) (k - 1) ++ [ub (48 + n % 10)] else []

theorem pad_one (f : Nat) : ∀ n, n < 10 ^ (f + 1) → padF (f + 1) n 1 = digs f n := by
 have key : ∀ (f n : Nat), 0 < n → n < 10 ^ (f + 1) → padF (f + 1) n 0 = digs f n := by
  intro f
  induction f with
  | zero =>
   intro n h0 hn
   have h10 : n / 10 = 0 := by simp at hn; omega
   rw [padF, if_pos (.inl h0), digs]
   simp [padF]
  | succ f ih =>
   intro n h0 hn
   rw [padF, if_pos (.inl h0)]
   by_cases hs : n < 10
   ·rw [digs_small _ _ hs, show n / 10 = 0 by omega]
    simp [padF]
   ·rw [digs_big f n (by omega), show (0 - 1 : Nat) = 0 from rfl, ih (n / 10) (by omega) (by rw [Nat.div_lt_iff_lt_mul (by decide)]; rwa [Nat.pow_succ] at hn)]
 intro n hn
 cases f with
 | zero => rw [padF, if_pos (.inr (by decide)), digs]; simp [padF]
 | succ f =>
  rw [padF, if_pos (.inr (by decide))]
  by_cases hs : n < 10
  ·rw [digs_small _ _ hs, show n / 10 = 0 by omega]
   simp [padF]
  ·rw [digs_big f n (by omega), show (1 - 1 : Nat) = 0 from rfl, key f (n / 10) (by omega) (by rw [Nat.div_lt_iff_lt_mul (by decide)]; rwa [Nat.pow_succ] at hn)]

/-- More rounds change nothing. -/
theorem pad_more (f : Nat) : ∀ n k, n < 10 ^ f → k ≤ f → padF (f + 1) n k = padF f n k := by
 induction f with
 | zero =>
  intro n k hn hk
  simp at hn
  obtain rfl : k = 0 := by omega
  subst hn
  rfl
 | succ f ih =>
  intro n k hn hk
  rw [padF]
  conv => rhs; rw [padF]
  rw [ih (n / 10) (k - 1) (by rw [Nat.div_lt_iff_lt_mul (by decide)]; rwa [Nat.pow_succ] at hn) (by omega)]

theorem pad_more' (f d n k : Nat) (hn : n < 10 ^ f) (hk : k ≤ f) : padF (f + d) n k = padF f n k := by
 induction d with
 | zero => rfl
 | succ d ih =>
  rw [show f + (d + 1) = f + d + 1 by omega, pad_more (f + d) n k (Nat.lt_of_lt_of_le hn (Nat.pow_le_pow_right (by decide) (by omega))) (by omega), ih]

/-- The digits behind the point are those behind a 1. -/
theorem pad_behind (k : Nat) : ∀ r, r < 10 ^ k → ∀ f, k ≤ f → 49 :: padF f r k = digs (f + 1) (10 ^ k + r) := by
 induction k with
 | zero =>
  intro r hr f hf
  simp at hr
  subst hr
  have hp : padF f 0 0 = [] := by cases f <;> simp [padF]
  rw [hp, digs_small _ _ (by simp)]
  decide
 | succ k ih =>
  intro r hr f hf
  obtain ⟨g, rfl⟩ : ∃ g, f = g + 1 := ⟨f - 1, by omega⟩
  rw [padF, if_pos (.inr (by omega)), ← List.cons_append]
  have hr' : r / 10 < 10 ^ k := by rw [Nat.div_lt_iff_lt_mul (by decide)]; rwa [Nat.pow_succ] at hr
  have e := ih (r / 10) hr' g (by omega)
  rw [show k + 1 - 1 = k by omega, e]
  have hp : 0 < 10 ^ k := Nat.pow_pos (by decide)
  rw [digs_big (g + 1) (10 ^ (k + 1) + r) (by rw [Nat.pow_succ]; omega)]
  have h1 : (10 ^ (k + 1) + r) / 10 = 10 ^ k + r / 10 := by rw [Nat.pow_succ]; omega
  have h2 : (10 ^ (k + 1) + r) % 10 = r % 10 := by rw [Nat.pow_succ]; omega
  rw [h1, h2]

/-- The document's text of a candidate is the code's literal. -/
theorem pad_lit (k n : Nat) (h6 : k ≤ 6) (hn : n ≤ 10000000000000000) : padF 20 (n / 10 ^ k) 1 ++ ([46] ++ padF 20 (n % 10 ^ k) k) = litOf k n := by
 have hs := scale_bounds k h6
 have hlt : n / 10 ^ k < 10 ^ 20 := Nat.lt_of_le_of_lt (Nat.div_le_self _ _) (by omega)
 have h1 := pad_one 19 (n / 10 ^ k) hlt
 have hr : n % 10 ^ k < 10 ^ k := Nat.mod_lt _ (by omega)
 have h2 := pad_behind k (n % 10 ^ k) hr 18 (by omega)
 have h3 := pad_more' 18 2 (n % 10 ^ k) k (Nat.lt_of_lt_of_le hr (Nat.pow_le_pow_right (by decide) (by omega))) (by omega)
 unfold litOf
 rw [decOf_nat, decOf_nat, h1, ← h2, h3]
 rfl

theorem cut10b : ∀ j : Fin 10, (({ data := #[48, 49, 50, 51, 52, 53, 54, 55, 56, 57] } : ByteArray).extract j.val (j.val + 1)) = ⟨#[ub (48 + j.val)]⟩ := by decide +kernel

set_option maxRecDepth 100000 in
set_option maxHeartbeats 1600000 in
theorem rdec_any (N K : Nat) (hN : N ≤ 10000000000000000) (hK : K ≤ 6) (w : World) : Calls Tryz.prog 115 #[.int .i64 (N : Int), .int .i64 (K : Int)] w fun e w' => e = .returned (.string ⟨(padF 20 N K).toArray⟩) ∧ w' = w := by
 have hN20 : N < 10 ^ 20 := by omega
 go_enter Tryz.func115, Tryz.ntmps115
 go_wp2
 go_loop [0, 1, 5] (fun t k v => ∃ (f m : Nat) (z : Int) (l : List UInt8), f + l.length = 20 ∧ m ≤ 10000000000000000 ∧ Hid (m < 10 ^ f) ∧ z ≤ 6 ∧ -20 ≤ z ∧ z + 20 ≥ f ∧ z ≤ f ∧ t = .int .i64 (m : Int) ∧ k = .int .i64 z ∧ v = .string ⟨l.toArray⟩ ∧ Hid (padF f m z.toNat ++ l = padF 20 N K)) (fun t k _ => (intOf t).toNat + (intOf k).toNat)
 case atStart => exact ⟨20, N, K, [], rfl, hN, hN20, by omega, by omega, by omega, by omega, rfl, rfl, rfl, (by show _ = _; simp)⟩
 case round =>
  obtain ⟨f, m, z, l, hf, hm, hmf, hz6, hz20, hzf, hzf2, rfl, rfl, rfl, hsh⟩ := hrel
  by_cases hc : 0 < m ∨ 0 < z
  ·have hf0 : f ≠ 0 := by
    intro h
    have := hmf.out
    rw [h] at this
    simp at this
    omega
   obtain ⟨g, rfl⟩ : ∃ g, f = g + 1 := ⟨f - 1, by omega⟩
   have hcut := cut10b ⟨m % 10, by omega⟩
   simp only at hcut
   have HS : Hid (padF g (m / 10) (z - 1).toNat ++ (ub (48 + m % 10) :: l) = padF 20 N K) := by
    show _ = _
    rw [← hsh.out, padF, if_pos (by omega), show z.toNat - 1 = (z - 1).toNat by omega]
    simp
   have HM : Hid (m / 10 < 10 ^ g) := by
    show _ < _
    have := hmf.out
    rw [Nat.pow_succ] at this
    rw [Nat.div_lt_iff_lt_mul (by decide)]; exact this
   have hl : l.length ≤ 20 := by omega
   have hsz : (⟨l.toArray⟩ : ByteArray).size = l.length := size_mk l
   clear hsh hmf
   by_cases hm0 : 0 < m
   ·go_wp2
    go_round
    case rel => exact ⟨g, m / 10, z - 1, ub (48 + m % 10) :: l, by simp; omega, by omega, HM, by omega, by omega, by omega, by omega, by go_num, by go_num, by rw [cat_one], HS⟩
    case measure => simp [intOf]; omega
   ·go_wp2
    go_round
    case rel => exact ⟨g, m / 10, z - 1, ub (48 + m % 10) :: l, by simp; omega, by omega, HM, by omega, by omega, by omega, by omega, by go_num, by go_num, by rw [cat_one], HS⟩
    case measure => simp [intOf]; omega
  ·have HS : Hid (l = padF 20 N K) := by
    show _ = _
    rw [← hsh.out]
    have : padF f m z.toNat = [] := by
     cases f with
     | zero => rfl
     | succ f => rw [padF, if_neg (by omega)]
    rw [this]; simp
   clear hsh hmf
   go_wp2
   go_ret
   exact ⟨by rw [← HS.out]; rfl, rfl⟩

end Go.Proofs.YtcmahiphfpgadaaGreatDoor

/- The whole number near a real, scaled, as the document's Print guesses it. -/
namespace Go.Proofs.YtcmahiphfpgadaaGreatDoor
open Ieee Go.RowKit
set_option linter.unusedVariables false
/-- The product of a literal's real and its scale is near its digits. -/
theorem prod_near (n s : Nat) (hn : 1 ≤ n) (hn2 : n < 1000000000000000) (hs : 1 ≤ s) (hs2 : s ≤ 1000000) :
  ∃ p v : Nat, D.mul (quo n s) (ofInt (s : Int)) = some p ∧ val p = (v : Int) ∧ 16 * v ≤ 16 * (n * U) + 5 * U ∧ 16 * (n * U) ≤ 16 * v + 5 * U := by
 obtain ⟨X, x, hX, hXn, hXv, q1, q2⟩ := quo_err n s hn (by omega) hs (by omega)
 have hq : quo n s = X := hX
 have hU := U_pos
 have e54 : pw 54 = 18014398509481984 := rfl
 rw [e54] at q1 q2
 have hA : n * U ≤ 999999999999999 * U := Nat.mul_le_mul_right _ (by omega)
 have hA0 : 1 * U ≤ n * U := Nat.mul_le_mul_right _ hn
 obtain ⟨A, hAd⟩ : ∃ A, A = n * U := ⟨_, rfl⟩
 obtain ⟨V, hV⟩ : ∃ V, V = x * s := ⟨_, rfl⟩
 rw [← hAd, ← hV] at q1 q2
 rw [← hAd] at hA hA0 ⊢
 have v1 : 4 * V ≤ 4 * A + U := by omega
 have v2 : 4 * A ≤ 4 * V + U := by omega
 have v0 : 1 ≤ V := by omega
 have hx0 : x ≠ 0 := by rintro rfl; rw [Nat.zero_mul] at hV; omega
 have vb : V < 1125899906842624 * U := by omega
 have ws := ofInt_whole (s : Int) (by omega)
 have hxs : x ≤ V := by rw [hV]; exact Nat.le_mul_of_pos_right x (by omega)
 have hXt : (val X).natAbs < TOP := by
  rw [hXv, Int.natAbs_natCast]
  have := U_top 1125899906842624 (by decide)
  omega
 obtain ⟨sg, T, base, m1, m2, m3, m4⟩ := mul_fin hXn ws.1 hXt (ws.top (by omega))
 have m3' : T * pw (base + (2148 : Nat)).toNat = V * U := by
  have : T * pw (base + 2148).toNat = V * U := by
   rw [m3, hXv, ws.abs, Int.natAbs_natCast, Int.natAbs_natCast, hV, Nat.mul_assoc]
  exact this
 have hVU : 0 < V * U := Nat.mul_pos v0 hU
 have hsg : sg = false := by
  have hpos : 0 < val X * val (ofInt (s : Int)) := by
   rw [hXv, ws.2]
   exact Int.mul_pos (by omega) (Int.mul_pos (by omega) (by omega))
  rw [m4 (by omega), decide_eq_false (by omega)]
 subst hsg
 have hT0 : T ≠ 0 := by rintro rfl; rw [Nat.zero_mul] at m3'; omega
 have e2148 : pw 2148 = U * U := pw_2148
 have hB1 : T * pw (base + (2148 : Nat)).toNat < pw (50 + 2148) := by
  rw [m3', pw_add, e2148, ← Nat.mul_assoc, show pw 50 = 1125899906842624 from rfl]
  exact Nat.mul_lt_mul_of_pos_right vb hU
 obtain ⟨v, pv, p1, p2⟩ := near_err T base 2148 hT0 (by omega) (by omega) hB1
 rw [m3', e2148, show (2148 - 1074 : Nat) = 1074 from rfl, ← U_def] at p1 p2
 have p1' : 16 * v ≤ 16 * V + U := by
  refine Nat.le_of_mul_le_mul_right (c := U) ?_ hU
  rw [Nat.add_mul, Nat.mul_assoc, Nat.mul_assoc]; exact p1
 have p2' : 16 * V ≤ 16 * v + U := by
  refine Nat.le_of_mul_le_mul_right (c := U) ?_ hU
  rw [Nat.add_mul, Nat.mul_assoc, Nat.mul_assoc]; exact p2
 clear p1 p2 hB1 m3 m3' hVU
 exact ⟨D.nearest false T base, v, by rw [hq]; exact m1, pv, by omega, by omega⟩

/-- 2 times 10 to the power of 15, as a real. -/
def E20 : Nat := 4835858800541171712
theorem val_E20 : val E20 = 2000000000000000 * (U : Int) := by decide +kernel

theorem nearest_pos (m : Nat) (p : Int) : D.nearest false m p < 9223372036854775808 := by
 unfold Format.nearest
 split
 ·rw [word_eq]; simp
 ·rw [word_eq, D_inf]
  simp only [Bool.false_eq_true, if_false]
  exact Nat.lt_of_le_of_lt (Nat.min_le_right _ _) (by decide)

theorem sign_pos {b : Nat} {s : Bool} {m : Nat} {e : Int} (hb : b < 9223372036854775808) (h : D.read b = .number s m e) : s = false := by
 have := (read_shape h).1
 rw [this, show b / 9223372036854775808 = 0 by omega]; rfl

theorem sign_inf {b : Nat} {s : Bool} (hb : b < 9223372036854775808) (h : D.read b = .infinity s) : s = false := by
 rw [read_eq] at h
 split at h
 ·cases h
 ·split at h
  ·cases h
  ·split at h
   ·cases h
    rw [show b / 9223372036854775808 = 0 by omega]; rfl
   ·cases h

theorem val_nonneg {b : Nat} (hb : b < 9223372036854775808) (hn : isNan b = false) : 0 ≤ val b := by
 rcases read_real hn with ⟨s, m, e, hr⟩ | ⟨s, hr⟩
 ·have hs := sign_pos hb hr
  subst hs
  unfold val; rw [hr]
  show 0 ≤ signed false m _
  rw [signed_eq]
  exact Int.natCast_nonneg _
 ·have hs := sign_inf hb hr
  subst hs
  unfold val; rw [hr]
  simp [worth]

/-- A product of reals that are not below nought is none, or may be infinite. -/
theorem mul_pos_some {a b : Nat} (ha : a < 9223372036854775808) (hb : b < 9223372036854775808) (hna : isNan a = false) (hnb : isNan b = false) (ta : (val a).natAbs < TOP) (tb : (val b).natAbs < TOP) :
  ∃ p, D.mul a b = some p ∧ isNan p = false ∧ p < 9223372036854775808 := by
 obtain ⟨s, m, e, hr, _⟩ := read_fin hna ta
 obtain ⟨t, n, f, hr2, _⟩ := read_fin hnb tb
 have h1 := sign_pos ha hr
 have h2 := sign_pos hb hr2
 subst h1 h2
 unfold Format.mul
 rw [hr, hr2]
 exact ⟨_, rfl, isNan_nearest _ _ _, nearest_pos _ _⟩

theorem ofInt_pos (n : Nat) : ofInt (n : Int) < 9223372036854775808 := by
 show D.nearest (decide ((n : Int) < 0)) _ _ < _
 rw [decide_eq_false (by omega)]
 exact nearest_pos _ _

/-- The lesser of a real and 2e15. -/
def least (p : Nat) : Nat := match D.order p E20 with
 | some .lt => p
 | some .gt => E20
 | some .eq => if (D.read p).neg then p else E20
 | none => p

theorem least_run {P : Program} (p : Nat) (hn : isNan p = false) (ts : Array TypeId) (t : TypeId) (w : World) : (Builtin.min_ ts t #[.float .f64 p, .float .f64 4835858800541171712]).run P w = .ok (.float .f64 (least p)) w := by
 have ho := order_val hn (show isNan E20 = false by decide)
 have ho' : FloatKind.f64.format.order p 4835858800541171712 = some (compare (val p) (val E20)) := ho
 unfold least
 rw [ho]
 simp only [Builtin.min_, List.foldlM, Builtin.min2, ho']
 rcases hc : compare (val p) (val E20) with _ | _ | _ <;> simp <;> rfl

theorem least_real {p : Nat} (hn : isNan p = false) (hp : p < 9223372036854775808) : isNan (least p) = false ∧ least p < 9223372036854775808 ∧ val (least p) ≤ 2000000000000000 * (U : Int) ∧ (val p < 2000000000000000 * (U : Int) → least p = p) := by
 have ho := order_val hn (show isNan E20 = false by decide)
 unfold least
 rw [ho, compare_int, val_E20]
 by_cases h1 : val p < 2000000000000000 * (U : Int)
 ·rw [if_pos h1]
  simp only
  exact ⟨hn, hp, by omega, fun _ => trivial⟩
 ·rw [if_neg h1]
  by_cases h2 : val p = 2000000000000000 * (U : Int)
  ·rw [if_pos h2]
   simp only
   split
   ·exact ⟨hn, hp, by omega, fun h => absurd h h1⟩
   ·exact ⟨by decide, by decide, by rw [val_E20]; omega, fun h => absurd h h1⟩
  ·rw [if_neg h2]
   simp only
   exact ⟨by decide, by decide, by rw [val_E20]; omega, fun h => absurd h h1⟩

theorem cut_down (n d : Nat) : Toward.cut .down false n d = n / 2 ^ d := by
 have := cut_zero false n d
 simp only [Toward.cut] at this ⊢
 exact this

/-- The whole number below a real that is not below nought. -/
theorem floor_real {r : Nat} (hn : isNan r = false) (hr : r < 9223372036854775808) (ht : val r ≤ 2000000000000000 * (U : Int)) :
  ∃ F : Nat, F ≤ 2000000000000000 ∧ val r < ((F : Int) + 1) * (U : Int) ∧ (F : Int) * (U : Int) ≤ val r ∧ D.write ((D.read r).integral .down) = ofInt (F : Int) ∧ (∀ s t, D.read r ≠ .nan s t) := by
 have hU := U_pos
 have h0 := val_nonneg hr hn
 have htop : (val r).natAbs < TOP := by
  have := U_top 2000000000000000 (by decide)
  omega
 obtain ⟨s, m, e, hrd, he, hv, hm⟩ := read_fin hn htop
 have hs := sign_pos hr hrd
 subst hs
 obtain ⟨v, hvd⟩ : ∃ v, v = m * pw (e + 1074).toNat := ⟨_, rfl⟩
 have hvr : val r = (v : Int) := by rw [hv, signed_eq, ← hvd]; rfl
 have hti := toInt_number false m e he
 refine ⟨v / U, ?_, ?_, ?_, ?_, ?_⟩
 ·rw [hvr] at ht
  have : v ≤ 2000000000000000 * U := by omega
  exact Nat.div_le_of_le_mul (by rw [Nat.mul_comm]; exact this)
 ·rw [hvr]
  have h1 : v < (v / U + 1) * U := by
   have h2 := Nat.div_add_mod v U
   have h3 := Nat.mod_lt v hU
   rw [Nat.add_mul, Nat.one_mul, Nat.mul_comm]
   omega
  have : (((v / U + 1) * U : Nat) : Int) = ((v / U : Nat) + 1 : Int) * (U : Int) := by simp
  rw [← this]; omega
 ·rw [hvr]
  have h1 : v / U * U ≤ v := Nat.div_mul_le_self v U
  have : ((v / U * U : Nat) : Int) = ((v / U : Nat) : Int) * (U : Int) := by simp
  rw [← this]; omega
 ·rw [hrd]
  have hI : Datum.integral .zero (.number false m e) = .number false (v / U) 0 := by
   simp only [Datum.toInt, Datum.integral] at hti ⊢
   simp only [Bool.false_eq_true, if_false, Option.some.injEq, signed_eq] at hti
   rw [← hvd, ← U_def, show pw 0 = 1 from rfl, Nat.mul_one] at hti
   congr 1
   omega
  have hI2 : Datum.integral .down (.number false m e) = .number false (v / U) 0 := by
   rw [← hI]
   simp only [Datum.integral, cut_down, cut_zero]
  rw [hI2]
  show D.nearest false (v / U) 0 = D.nearest (decide (((v / U : Nat) : Int) < 0)) ((v / U : Nat) : Int).natAbs 0
  rw [decide_eq_false (by generalize v / U = z; omega), Int.natAbs_natCast]
 ·intro s t h; rw [hrd] at h; cases h

end Go.Proofs.YtcmahiphfpgadaaGreatDoor

/- The document's own Print: it answers as the code's does. -/
namespace Go.Proofs.YtcmahiphfpgadaaGreatDoor
open Ieee Go.RowKit
set_option linter.unusedVariables false
theorem quo_zero (k : Nat) (h1 : 1 ≤ k) (h6 : k ≤ 6) : quo 0 (10 ^ k) = 0 := by
 have : k = 1 ∨ k = 2 ∨ k = 3 ∨ k = 4 ∨ k = 5 ∨ k = 6 := by omega
 rcases this with rfl | rfl | rfl | rfl | rfl | rfl <;> decide +kernel

/-- The reals of literals are not below nought, and less than 10^15. -/
theorem quo_small (n k : Nat) (h1 : 1 ≤ k) (h6 : k ≤ 6) (hn : n < 1000000000000000) : quo n (10 ^ k) < 9223372036854775808 ∧ isNan (quo n (10 ^ k)) = false ∧ val (quo n (10 ^ k)) < val E15 := by
 have hs := scale_bounds k h6
 by_cases h0 : n = 0
 ·subst h0
  rw [quo_zero k h1 h6]
  exact ⟨by decide, by decide, by rw [val_zero, val_E15]; have := pw_pos 1074; omega⟩
 ·obtain ⟨X, x, hX, hXn, hXv, q1, q2⟩ := quo_err n (10 ^ k) (by omega) (by omega) hs.1 (by omega)
  have hq : quo n (10 ^ k) = X := hX
  have hU := U_pos
  rw [hq]
  have h10 : 10 ≤ 10 ^ k := Nat.pow_le_pow_right (show 0 < 10 by decide) h1
  have hx10 : x * 10 ≤ x * 10 ^ k := Nat.mul_le_mul_left _ h10
  have hA : n * U ≤ 999999999999999 * U := Nat.mul_le_mul_right _ (by omega)
  have e54 : pw 54 = 18014398509481984 := rfl
  rw [e54] at q1 q2
  refine ⟨?_, hXn, ?_⟩
  ·-- its sign
   have hb : X < 18446744073709551616 := by rw [← hX]; exact quo_lt n (10 ^ k)
   by_cases hlt : X < 9223372036854775808
   ·exact hlt
   ·exfalso
    have hxt : (val X).natAbs < TOP := by
     rw [hXv, Int.natAbs_natCast]
     have := U_top 1125899906842624 (by decide)
     generalize x * 10 ^ k = V at *
     generalize n * U = A at *
     omega
    obtain ⟨s, m, e, hr, _, hv, hm⟩ := read_fin hXn hxt
    have hs1 : s = true := by
     rw [(read_shape hr).1, show X / 9223372036854775808 = 1 by omega]; rfl
    subst hs1
    rw [hXv, signed_eq, if_pos rfl] at hv
    have hx0 : x = 0 := by omega
    rw [hx0, Nat.zero_mul] at q2
    have := Nat.mul_pos (show 0 < n by omega) hU
    omega
  ·rw [hXv, val_E15, ← U_def]
   generalize x * 10 ^ k = V at *
   generalize n * U = A at *
   omega

theorem pr_none {h : Nat} (hh : home h = h) (hb : h = NAN ∨ 9223372036854775808 ≤ h ∨ val E15 ≤ val h) : pr h 1 6 = none := by
 cases hp : pr h 1 6 with
 | none => rfl
 | some kn =>
  exfalso
  obtain ⟨k, n⟩ := kn
  obtain ⟨h1, h2, h3⟩ := pr_sound 6 1 k n h hp
  obtain ⟨h4, h5⟩ := digits_sound h3
  obtain ⟨s1, s2, s3⟩ := quo_small n k h1 (by omega) h5
  rw [h4, hh] at s1 s2 s3
  rcases hb with rfl | hb | hb
  ·rw [isNan_NAN] at s2; cases s2
  ·omega
  ·omega

theorem litOf_parts (k n : Nat) (h6 : k ≤ 6) : aheadOf (litOf k n) = decOf ((n / 10 ^ k : Nat) : Int) ∧ (behindOf (litOf k n)).length = k := by
 have hs := scale_bounds k h6
 obtain ⟨b, hb, hbl, hg, hv⟩ := behind_one k (n % 10 ^ k) h6 (Nat.mod_lt _ (by omega))
 have he : litOf k n = digs 19 (n / 10 ^ k) ++ 46 :: b := by
  unfold litOf
  rw [hb, decOf_nat]
  simp
 obtain ⟨c1, c2⟩ := cut_at (digs 19 (n / 10 ^ k)) b (no_point _ _)
 rw [← he] at c1 c2
 exact ⟨by rw [c1, decOf_nat], by rw [c2, hbl]⟩

/-- The literal of digits that are too many is none. -/
theorem litOf_great (k n : Nat) (h6 : k ≤ 6) (hn : 1000000000000000 ≤ n) (hn2 : n ≤ 10000000000000000) : ¬ IsLit (litOf k n) := by
 intro h
 obtain ⟨c1, c2⟩ := litOf_parts k n h6
 have hN : n / 10 ^ k ≤ 9223372036854775807 := Nat.le_trans (Nat.div_le_self _ _) (by omega)
 obtain ⟨g, gv⟩ := good_digs (n / 10 ^ k) hN
 have h3 := h.2.2.1
 have hl := good_lt g
 rw [gv] at hl
 rw [c1, c2, decOf_nat] at h3
 have h4 : n / 10 ^ k < 10 ^ (15 - k) := Nat.lt_of_lt_of_le hl (Nat.pow_le_pow_right (by decide) (by omega))
 rw [Nat.div_lt_iff_lt_mul (Nat.pow_pos (by decide)), ← Nat.pow_add, show 15 - k + k = 15 by omega] at h4
 omega

/-- What the document's Parse tells of a candidate: the real's bits, or another. -/
theorem refParse_cand (k n h : Nat) (h1 : 1 ≤ k) (h6 : k ≤ 6) (hn : n ≤ 10000000000000000) (L : List UInt8) (hL : L = litOf k n) (w : World) :
  Calls Tryz.prog 116 #[.string ⟨L.toArray⟩] w fun e w' => (∃ (y : Nat) (E : Int), e = .returned (.tuple #[.int .u64 (y : Int), .int .i64 E]) ∧ Hid ((E = 0 ∧ y = h) ↔ (n < 1000000000000000 ∧ quo n (10 ^ k) = h)) ∧ (E = 0 ∨ E = 4)) ∧ ∃ q, w' = w.drewN q := by
 subst hL
 have hlen := litOf_len k n
 refine (refParse_any ⟨(litOf k n).toArray⟩ w (by rw [size_mk]; omega)).mono ?_
 rintro e w' ⟨hp, hq⟩
 refine ⟨?_, hq⟩
 have hp : ParsePost (litOf k n) e := hp
 rcases hp with ⟨hl, rfl⟩ | ⟨hl, rfl⟩
 ·have hn15 : n < 1000000000000000 := by
   rcases Nat.lt_or_ge n 1000000000000000 with h | h
   ·exact h
   ·exact absurd hl (litOf_great k n h6 h hn)
  obtain ⟨g1, g2, g3, _⟩ := litOf_lit k n h1 h6 hn15
  refine ⟨_, 0, rfl, ?_, .inl rfl⟩
  show _ ↔ _
  rw [g2, g3]
  constructor
  ·rintro ⟨_, e⟩; exact ⟨hn15, e⟩
  ·rintro ⟨_, e⟩; exact ⟨rfl, e⟩
 ·refine ⟨0, 4, rfl, ?_, .inr rfl⟩
  show _ ↔ _
  constructor
  ·rintro ⟨e, _⟩; omega
  ·rintro ⟨e, _⟩; exact absurd (litOf_lit k n h1 h6 e).1 hl

theorem floor_any (r F : Nat) (hw : D.write ((D.read r).integral .down) = ofInt (F : Int)) (hnn : ∀ s t, D.read r ≠ .nan s t) (w : World) : Calls Tryz.prog 114 #[.float .f64 r] w fun e w' => e = .returned (.float .f64 (ofInt (F : Int))) ∧ w' = w := by
 have hcf : ∀ w, Sem.run Tryz.prog (callFunc 137 #[.float .f64 r]) w = .ok (.value (.float .f64 (ofInt (F : Int)))) w := fun w => by
  rw [run_callFunc_extern Tryz.func137 (by kernel_rfl) (by kernel_rfl) (by kernel_rfl) (e := Extern.MathFloor.toIntegral "math.archFloor" .down) (by kernel_rfl)]
  obtain ⟨nb, key⟩ : ∃ nb : Bool → Nat → Sem Value, Extern.MathFloor.toIntegral "math.archFloor" .down #[.float .f64 r] = (match FloatKind.f64.decode r with
    | .nan s t => nb s t
    | d => pure (.float .f64 (FloatKind.f64.encode (d.integral .down)))) := ⟨_, rfl⟩
  have hd : FloatKind.f64.decode r = D.read r := rfl
  have hen : ∀ d, FloatKind.f64.encode d = D.write d := fun d => rfl
  rw [key, hd]
  cases hr : D.read r with
  | nan s t => exact absurd hr (hnn s t)
  | infinity s => rw [hr] at hw; simp only [hen, hw]; rfl
  | number s m e => rw [hr] at hw; simp only [hen, hw]; rfl
 go_enter Tryz.func114, Tryz.ntmps114
 go_wp2
 go_ret
 exact ⟨rfl, rfl⟩

/-- The guess at a real's digits. -/
theorem guess (h k : Nat) (hh : home h = h) (hn : isNan h = false) (hp : h < 9223372036854775808) (hlt : val h < val E15) (h1 : 1 ≤ k) (h6 : k ≤ 6) :
  ∃ p F : Nat, floatBits .mul .f64 h (floatOfInt .f64 ((10 ^ k : Nat) : Int)) = some p ∧ isNan p = false ∧ F ≤ 2000000000000000 ∧ D.write ((D.read (least p)).integral .down) = ofInt (F : Int) ∧ (∀ s t, D.read (least p) ≠ .nan s t) ∧
   floatToIntVal .f64 (ofInt (F : Int)) .i64 = some (F : Int) ∧ (∀ n, digitsOf h (10 ^ k) = some n → n ≤ F + 2 ∧ F ≤ n + 2) := by
 have hs := scale_bounds k h6
 have hU := U_pos
 have ws := ofInt_whole ((10 ^ k : Nat) : Int) (by omega)
 have h0 := val_nonneg hp hn
 have ht : (val h).natAbs < TOP := by
  rw [val_E15, ← U_def] at hlt
  have := U_top 1000000000000000 (by decide)
  omega
 obtain ⟨p, m1, m2, m3⟩ := mul_pos_some hp (ofInt_pos (10 ^ k)) hn ws.1 ht (ws.top (by omega))
 obtain ⟨l1, l2, l3, l4⟩ := least_real m2 m3
 obtain ⟨F, f1, f2, f3, f4, f5⟩ := floor_real l1 l2 l3
 have wF := ofInt_whole (F : Int) (by omega)
 have hcv : floatToIntVal .f64 (ofInt (F : Int)) .i64 = some (F : Int) := by
  have := whole_val wF.1 (by rw [wF.2, val_B63']; exact whole_lt.2 (by omega)) (by
   rw [wF.2, val_N63']
   have := (not_congr (whole_lt (z := (F : Int)) (y := -9223372036854775808))).2 (by omega)
   omega)
  rw [this, wF.2, trunc_whole]
 refine ⟨p, F, m1, m2, f1, f4, f5, hcv, ?_⟩
 intro n hd
 obtain ⟨d1, d2⟩ := digits_sound hd
 rw [hh] at d1
 by_cases hn0 : n = 0
 ·subst hn0
  rw [quo_zero k h1 h6] at d1
  subst d1
  have hp0 : p = 0 := by
   have : D.mul 0 (ofInt ((10 ^ k : Nat) : Int)) = some 0 := by
    have : k = 1 ∨ k = 2 ∨ k = 3 ∨ k = 4 ∨ k = 5 ∨ k = 6 := by omega
    rcases this with rfl | rfl | rfl | rfl | rfl | rfl <;> decide +kernel
   rw [m1] at this
   cases this; rfl
  subst hp0
  rw [l4 (by rw [val_zero]; omega), val_zero] at f3
  have : (F : Int) * (U : Int) ≤ 0 := f3
  have hF : F = 0 := by
   rcases Nat.eq_zero_or_pos F with h | h
   ·exact h
   ·exfalso
    have := Int.mul_pos (show (0 : Int) < (F : Int) by omega) (show (0 : Int) < (U : Int) by omega)
    omega
  omega
 ·obtain ⟨p', v, q1, q2, q3, q4⟩ := prod_near n (10 ^ k) (by omega) d2 hs.1 hs.2
  rw [d1, m1] at q1
  cases q1
  have hA : n * U ≤ 999999999999999 * U := Nat.mul_le_mul_right _ (by omega)
  have hpv : val p < 2000000000000000 * (U : Int) := by
   rw [q2]
   generalize n * U = A at *
   omega
  rw [l4 hpv, q2] at f2 f3
  have g1 : (n : Int) * (U : Int) < ((F : Int) + 2) * (U : Int) := by
   have e1 : ((F : Int) + 1) * (U : Int) = (F : Int) * (U : Int) + (U : Int) := by rw [Int.add_mul, Int.one_mul]
   have e2 : ((F : Int) + 2) * (U : Int) = (F : Int) * (U : Int) + 2 * (U : Int) := by rw [Int.add_mul]
   have e3 : ((n * U : Nat) : Int) = (n : Int) * (U : Int) := by simp
   rw [e2, ← e3]
   rw [e1] at f2
   generalize n * U = A at *
   generalize (F : Int) * (U : Int) = B at *
   omega
  have g2 : (F : Int) * (U : Int) < ((n : Int) + 1) * (U : Int) := by
   have e2 : ((n : Int) + 1) * (U : Int) = (n : Int) * (U : Int) + (U : Int) := by rw [Int.add_mul, Int.one_mul]
   have e3 : ((n * U : Nat) : Int) = (n : Int) * (U : Int) := by simp
   rw [e2, ← e3]
   generalize n * U = A at *
   generalize (F : Int) * (U : Int) = B at *
   omega
  have := whole_lt.1 g1
  have := whole_lt.1 g2
  omega

end Go.Proofs.YtcmahiphfpgadaaGreatDoor
