/- Joined texts of the proof. -/
import Derived.Test.YtcmahiphfpgadaaGreatDoorJ3
import Derived.WalkMore
import Derived.Shelf.Strings.Builder1
import Derived.Shelf.Small.Wraps
import Derived.Shelf.Strconv.Itoa0
import Derived.Shelf.Strconv.Itoa1
import Derived.Shelf.LaysM
import Derived.Shelf.Strconv.Itoa2
import Derived.Shelf.Strconv.Itoa3
import Derived.Shelf.Strconv.Itoa4
import Derived.Shelf.Strconv.Clone
import Derived.Shelf.Strings.Prefix
import Derived.Test.YtcmahiphfpgadaaGreatDoorProg
import Derived.Test.YtcmahiphfpgadaaGreatDoorJ1
import Derived.Lib.Builder
import Derived.Lib.AppendStr
import Derived.Lib.UnsafeStr
import Derived.Lib.Walk
import Derived.Laws.Externs

/- lex.tokenEnd: what the first byte at a place begins, and how far that goes. -/
namespace Go.Proofs.YtcmahiphfpgadaaGreatDoor
open Go.RowKit
set_option linter.unusedVariables false

theorem isDigit_at (n : Nat) (w : World) (b : Bool) (hb : isDig n = b) : Calls Tryz.prog 121 #[.int .u8 (n : Int)] w fun e w' => e = .returned (.bool b) ∧ w' = w := by subst hb; exact isDigit_any n w
theorem isLetter_at (n : Nat) (w : World) (b : Bool) (hb : isLet n = b) : Calls Tryz.prog 120 #[.int .u8 (n : Int)] w fun e w' => e = .returned (.bool b) ∧ w' = w := by subst hb; exact isLetter_any n w
theorem isPoint_at (s : ByteArray) (i : Nat) (w : World) : Calls Tryz.prog 122 #[.string (s.extract i s.size)] w fun e w' => e = .returned (.bool (isPt ((bytes s).drop i))) ∧ w' = w := by
 rw [← bytes_from]; exact isPoint_any _ w
theorem isSign_at (s : ByteArray) (i j : Nat) (w : World) : Calls Tryz.prog 123 #[.string (s.extract i j)] w fun e w' => e = .returned (.bool (isSg (((bytes s).drop i).take (j - i)))) ∧ w' = w := by
 rw [← bytes_extract]; exact isSign_any _ w

theorem alN_yes (s : ByteArray) (j : Nat) (h : j < s.size) (hc : (isLet s[j].toNat || isDig s[j].toNat) = true) : alN ((bytes s).drop j) = alN ((bytes s).drop (j + 1)) + 1 := by
 rw [drop_at s j h]; simp only [alN, hc, if_true]
theorem alN_no (s : ByteArray) (j : Nat) (h : j < s.size) (hc : (isLet s[j].toNat || isDig s[j].toNat) = false) : alN ((bytes s).drop j) = 0 := by
 rw [drop_at s j h]; simp only [alN, hc]; rfl
theorem alN_end (s : ByteArray) (j : Nat) (h : ¬ j < s.size) : alN ((bytes s).drop j) = 0 := by
 rw [drop_end s j h]; rfl

set_option maxRecDepth 100000 in
set_option maxHeartbeats 800000 in
theorem tokenEnd_word (s : ByteArray) (k : Nat) (w : World) (hk : k < s.size) (hs : s.size ≤ 1099511627776) (h1 : isLet s[k].toNat = true) :
  Calls Tryz.prog 96 #[.string s, .int .i64 (k : Int)] w fun e w' => e = .returned (.tuple #[.int .i64 1, .int .i64 ((k + (alN ((bytes s).drop (k + 1)) + 1) : Nat) : Int)]) ∧ w' = w := by
 obtain ⟨T, hT⟩ : ∃ T, Hid (T = k + (alN ((bytes s).drop (k + 1)) + 1)) := ⟨_, (rfl : k + (alN ((bytes s).drop (k + 1)) + 1) = _)⟩
 have hkind : Hid (kindN s[k].toNat = 1) := by simp [Hid, kindN, h1]
 rw [← hT.out]
 go_enter Tryz.func96, Tryz.ntmps96
 go_wp2_with fail
 go_step3
 go_wp2_with fail
 refine (kindOf_any s[k].toNat _).mono ?_
 rintro e w1 ⟨rfl, rfl⟩
 rw [hkind.out]
 clear h1
 go_wp2
 go_step3
 go_wp2
 go_loopw [6, 7] (fun K j wr => ∃ i : Nat, K = .int .i64 1 ∧ j = .int .i64 (i : Int) ∧ k + 1 ≤ i ∧ i ≤ s.size ∧ Hid (i + alN ((bytes s).drop i) = T) ∧ wr = w1) (fun _ j _ => s.size - (intOf j).toNat)
 case atStart => exact ⟨k + 1, rfl, by go_num, by omega, by omega, by show _ = _; rw [hT.out]; omega, rfl⟩
 case round =>
  obtain ⟨i, rfl, rfl, hi1, hi2, hi3, rfl⟩ := hrel
  by_cases hc : i < s.size
  ·cases a1 : isLet s[i].toNat
   ·cases a2 : isDig s[i].toNat
    ·have hN := alN_no s i hc (by rw [a1, a2]; rfl)
     go_wp2_with (first | (go_at_call 120; refine (isLetter_at _ _ false a1).mono ?_; rintro e w2 ⟨rfl, rfl⟩) | (go_at_call 121; refine (isDigit_at _ _ false a2).mono ?_; rintro e w2 ⟨rfl, rfl⟩))
     rw [Exit.noGoto_ret]
     go_ret2
     exact ⟨by rw [← hi3.out, hN]; rfl, rfl⟩
    ·have hN := alN_yes s i hc (by rw [a1, a2]; rfl)
     have hi3' : Hid (i + 1 + alN ((bytes s).drop (i + 1)) = T) := by have := hi3.out; show _ = _; omega
     clear hi3 hN
     go_wp2_with (first | (go_at_call 120; refine (isLetter_at _ _ false a1).mono ?_; rintro e w2 ⟨rfl, rfl⟩) | (go_at_call 121; refine (isDigit_at _ _ true a2).mono ?_; rintro e w2 ⟨rfl, rfl⟩))
     go_roundw
     case rel => exact ⟨i + 1, rfl, by go_num, by omega, by omega, hi3', trivial⟩
     case measure => simp [intOf]; omega
   ·have hN := alN_yes s i hc (by rw [a1]; rfl)
    have hi3' : Hid (i + 1 + alN ((bytes s).drop (i + 1)) = T) := by have := hi3.out; show _ = _; omega
    clear hi3 hN
    go_wp2_with (first | (go_at_call 120; refine (isLetter_at _ _ true a1).mono ?_; rintro e w2 ⟨rfl, rfl⟩))
    go_roundw
    case rel => exact ⟨i + 1, rfl, by go_num, by omega, by omega, hi3', trivial⟩
    case measure => simp [intOf]; omega
  ·have hN := alN_end s i hc
   go_wp2
   rw [Exit.noGoto_ret]
   go_ret2
   exact ⟨by rw [← hi3.out, hN]; rfl, rfl⟩

theorem dgN_yes (s : ByteArray) (j : Nat) (h : j < s.size) (hc : isDig s[j].toNat = true) : dgN ((bytes s).drop j) = dgN ((bytes s).drop (j + 1)) + 1 := by
 rw [drop_at s j h]; simp only [dgN, hc, if_true]
theorem dgN_no (s : ByteArray) (j : Nat) (h : j < s.size) (hc : isDig s[j].toNat = false) : dgN ((bytes s).drop j) = 0 := by
 rw [drop_at s j h]; simp only [dgN, hc]; rfl
theorem dgN_end (s : ByteArray) (j : Nat) (h : ¬ j < s.size) : dgN ((bytes s).drop j) = 0 := by
 rw [drop_end s j h]; rfl
theorem nmN_pt (s : ByteArray) (j : Nat) (h : j < s.size) (hp : isPt ((bytes s).drop j) = true) : nmN ((bytes s).drop j) = (3, dgN ((bytes s).drop (j + 1)) + 1) := by
 rw [drop_at s j h] at hp ⊢; simp only [nmN, hp, if_true]
theorem nmN_yes (s : ByteArray) (j : Nat) (h : j < s.size) (hp : isPt ((bytes s).drop j) = false) (hc : isDig s[j].toNat = true) : nmN ((bytes s).drop j) = ((nmN ((bytes s).drop (j + 1))).1, (nmN ((bytes s).drop (j + 1))).2 + 1) := by
 rw [drop_at s j h] at hp ⊢; simp only [nmN, hp, hc, if_true]; rfl
theorem nmN_no (s : ByteArray) (j : Nat) (h : j < s.size) (hp : isPt ((bytes s).drop j) = false) (hc : isDig s[j].toNat = false) : nmN ((bytes s).drop j) = (2, 0) := by
 rw [drop_at s j h] at hp ⊢; simp only [nmN, hp, hc]; rfl
theorem nmN_end (s : ByteArray) (j : Nat) (h : ¬ j < s.size) : nmN ((bytes s).drop j) = (2, 0) := by
 rw [drop_end s j h]; rfl

/-- Where a number's scan stands. -/
def NumAt (s : ByteArray) (P T K i : Nat) : Prop :=
 (K = 2 ∧ (nmN ((bytes s).drop i)).1 = P ∧ i + (nmN ((bytes s).drop i)).2 = T) ∨ (K = 3 ∧ P = 3 ∧ i + dgN ((bytes s).drop i) = T)

set_option maxRecDepth 100000 in
set_option maxHeartbeats 800000 in
theorem tokenEnd_num (s : ByteArray) (k : Nat) (w : World) (hk : k < s.size) (hs : s.size ≤ 1099511627776) (h0 : isLet s[k].toNat = false) (h1 : isDig s[k].toNat = true) :
  Calls Tryz.prog 96 #[.string s, .int .i64 (k : Int)] w fun e w' => e = .returned (.tuple #[.int .i64 ((nmN ((bytes s).drop (k + 1))).1 : Nat), .int .i64 ((k + ((nmN ((bytes s).drop (k + 1))).2 + 1) : Nat) : Int)]) ∧ w' = w := by
 obtain ⟨T, hT⟩ : ∃ T, Hid (T = k + ((nmN ((bytes s).drop (k + 1))).2 + 1)) := ⟨_, (rfl : k + ((nmN ((bytes s).drop (k + 1))).2 + 1) = _)⟩
 obtain ⟨P, hP⟩ : ∃ P, Hid (P = (nmN ((bytes s).drop (k + 1))).1) := ⟨_, (rfl : (nmN ((bytes s).drop (k + 1))).1 = _)⟩
 have hkind : Hid (kindN s[k].toNat = 2) := by simp [Hid, kindN, h0, h1]
 rw [← hT.out, ← hP.out]
 go_enter Tryz.func96, Tryz.ntmps96
 go_wp2_with fail
 go_step3
 go_wp2_with fail
 refine (kindOf_any s[k].toNat _).mono ?_
 rintro e w1 ⟨rfl, rfl⟩
 rw [hkind.out]
 clear h1 h0
 go_wp2
 go_step3
 go_wp2
 go_loopw [6, 7] (fun K j wr => ∃ Kn i : Nat, K = .int .i64 (Kn : Int) ∧ j = .int .i64 (i : Int) ∧ k + 1 ≤ i ∧ i ≤ s.size ∧ Hid (NumAt s P T Kn i) ∧ wr = w1) (fun _ j _ => s.size - (intOf j).toNat)
 case atStart => exact ⟨2, k + 1, rfl, by go_num, by omega, by omega, .inl ⟨rfl, hP.out.symm, by rw [hT.out]; omega⟩, rfl⟩
 case round =>
  obtain ⟨Kn, i, rfl, rfl, hi1, hi2, hi3, rfl⟩ := hrel
  by_cases hc : i < s.size
  ·rcases hi3.out with ⟨rfl, hp, ht⟩ | ⟨rfl, rfl, ht⟩
   ·have HP : Hid ((nmN ((bytes s).drop i)).1 = P) := hp
    have HT : Hid (i + (nmN ((bytes s).drop i)).2 = T) := ht
    clear hp ht hi3
    cases a1 : isPt ((bytes s).drop i)
    ·cases a2 : isDig s[i].toNat
     ·have hN : Hid (nmN ((bytes s).drop i) = (2, 0)) := nmN_no s i hc a1 a2
      have a1' : Hid (isPt ((bytes s).drop i) = false) := a1
      clear a1
      go_wp2_with (first | (go_at_call 122; refine (isPoint_at s i _).mono ?_; rw [a1'.out]; rintro e w2 ⟨rfl, rfl⟩) | (go_at_call 121; refine (isDigit_at _ _ false a2).mono ?_; rintro e w2 ⟨rfl, rfl⟩))
      rw [Exit.noGoto_ret]
      go_ret2
      have h2 := HP.out
      have h3 := HT.out
      rw [hN.out] at h2 h3
      exact ⟨by rw [← h2, ← h3]; rfl, rfl⟩
     ·have hN : Hid (nmN ((bytes s).drop i) = ((nmN ((bytes s).drop (i + 1))).1, (nmN ((bytes s).drop (i + 1))).2 + 1)) := nmN_yes s i hc a1 a2
      have a1' : Hid (isPt ((bytes s).drop i) = false) := a1
      clear a1
      go_wp2_with (first | (go_at_call 122; refine (isPoint_at s i _).mono ?_; rw [a1'.out]; rintro e w2 ⟨rfl, rfl⟩) | (go_at_call 121; refine (isDigit_at _ _ true a2).mono ?_; rintro e w2 ⟨rfl, rfl⟩))
      go_roundw
      case rel =>
       have h2 := HP.out
       have h3 := HT.out
       rw [hN.out] at h2 h3
       exact ⟨2, i + 1, rfl, by go_num, by omega, by omega, .inl ⟨rfl, h2, by rw [← h3]; simp only []; omega⟩, trivial⟩
      case measure => simp [intOf]; omega
    ·have hN : Hid (nmN ((bytes s).drop i) = (3, dgN ((bytes s).drop (i + 1)) + 1)) := nmN_pt s i hc a1
     have a1' : Hid (isPt ((bytes s).drop i) = true) := a1
     clear a1
     go_wp2_with (first | (go_at_call 122; refine (isPoint_at s i _).mono ?_; rw [a1'.out]; rintro e w2 ⟨rfl, rfl⟩))
     go_roundw
     case rel =>
      have h2 := HP.out
      have h3 := HT.out
      rw [hN.out] at h2 h3
      exact ⟨3, i + 1, rfl, by go_num, by omega, by omega, .inr ⟨rfl, h2.symm, by rw [← h3]; simp only []; omega⟩, trivial⟩
     case measure => simp [intOf]; omega
   ·have HT : Hid (i + dgN ((bytes s).drop i) = T) := ht
    clear ht hi3
    cases a2 : isDig s[i].toNat
    ·have hN : Hid (dgN ((bytes s).drop i) = 0) := dgN_no s i hc a2
     go_wp2_with (first | (go_at_call 121; refine (isDigit_at _ _ false a2).mono ?_; rintro e w2 ⟨rfl, rfl⟩))
     rw [Exit.noGoto_ret]
     go_ret2
     exact ⟨by rw [← HT.out, hN.out]; rfl, rfl⟩
    ·have hN : Hid (dgN ((bytes s).drop i) = dgN ((bytes s).drop (i + 1)) + 1) := dgN_yes s i hc a2
     go_wp2_with (first | (go_at_call 121; refine (isDigit_at _ _ true a2).mono ?_; rintro e w2 ⟨rfl, rfl⟩))
     go_roundw
     case rel => exact ⟨3, i + 1, rfl, by go_num, by omega, by omega, .inr ⟨rfl, rfl, by have := HT.out; have := hN.out; omega⟩, trivial⟩
     case measure => simp [intOf]; omega
  ·have hfin : Kn = P ∧ i = T := by
    rcases hi3.out with ⟨rfl, hp, ht⟩ | ⟨rfl, rfl, ht⟩
    ·rw [nmN_end s i hc] at hp ht; exact ⟨hp, ht⟩
    ·rw [dgN_end s i hc] at ht; exact ⟨rfl, ht⟩
   obtain ⟨rfl, rfl⟩ := hfin
   clear hi3 hP hT
   go_wp2
   rw [Exit.noGoto_ret]
   go_ret2
   exact ⟨rfl, rfl⟩

theorem sg_two (s : ByteArray) (k : Nat) (h : k + 1 < s.size) : ((bytes s).drop k).take 2 = [s[k], s[k + 1]] := by
 rw [drop_at s k (by omega), drop_at s (k + 1) h]; rfl

set_option maxRecDepth 100000 in
set_option maxHeartbeats 800000 in
theorem tokenEnd_sign (s : ByteArray) (k : Nat) (w : World) (hk : k < s.size) (hs : s.size ≤ 1099511627776) (h0 : isLet s[k].toNat = false) (h1 : isDig s[k].toNat = false) :
  Calls Tryz.prog 96 #[.string s, .int .i64 (k : Int)] w fun e w' => e = .returned (.tuple #[.int .i64 4, .int .i64 ((k + (sgN s[k] ((bytes s).drop (k + 1)) + 1) : Nat) : Int)]) ∧ w' = w := by
 obtain ⟨T, hT⟩ : ∃ T, Hid (T = k + (sgN s[k] ((bytes s).drop (k + 1)) + 1)) := ⟨_, (rfl : k + (sgN s[k] ((bytes s).drop (k + 1)) + 1) = _)⟩
 have hkind : Hid (kindN s[k].toNat = 4) := by simp [Hid, kindN, h0, h1]
 rw [← hT.out]
 go_enter Tryz.func96, Tryz.ntmps96
 go_wp2_with fail
 go_step3
 go_wp2_with fail
 refine (kindOf_any s[k].toNat _).mono ?_
 rintro e w1 ⟨rfl, rfl⟩
 rw [hkind.out]
 clear h1 h0
 go_wp2
 go_step3
 go_wp2
 go_loopw [6, 7] (fun K j wr => ∃ i : Nat, K = .int .i64 4 ∧ j = .int .i64 (i : Int) ∧ i ≤ s.size ∧ (i = k + 1 ∨ (i = k + 2 ∧ T = k + 2)) ∧ wr = w1) (fun _ j _ => s.size - (intOf j).toNat)
 case atStart => exact ⟨k + 1, rfl, by go_num, by omega, .inl rfl, rfl⟩
 case round =>
  obtain ⟨i, rfl, rfl, hi2, hi3, rfl⟩ := hrel
  by_cases hc : i < s.size
  ·have hsg : Hid (isSg (((bytes s).drop k).take (i + 1 - k)) = decide (i = k + 1 ∧ T = k + 2)) := by
    show _ = _
    rcases hi3 with rfl | ⟨rfl, h⟩
    ·rw [show k + 1 + 1 - k = 2 by omega, sg_two s k hc, hT.out, drop_at s (k + 1) hc]
     simp only [sgN]
     cases isSg [s[k], s[k + 1]] <;> simp
    ·rw [isSg_three _ (by rw [List.length_take, List.length_drop, bytes_length]; omega)]
     simp
   by_cases hT2 : i = k + 1 ∧ T = k + 2
   ·obtain ⟨rfl, hT3⟩ := hT2
    have hsg' : Hid (isSg (((bytes s).drop k).take (k + 1 + 1 - k)) = true) := by show _ = _; rw [hsg.out]; simp [hT3]
    clear hsg
    go_wp2_with (first | (go_at_call 123; refine (isSign_at s k (k + 1 + 1) _).mono ?_; rw [hsg'.out]; rintro e w2 ⟨rfl, rfl⟩))
    go_roundw
    case rel => exact ⟨k + 2, rfl, by go_num, by omega, .inr ⟨rfl, hT3⟩, trivial⟩
    case measure => simp [intOf]; omega
   ·have hsg' : Hid (isSg (((bytes s).drop k).take (i + 1 - k)) = false) := by show _ = _; rw [hsg.out]; simp [hT2]
    have hfin : Hid (i = T) := by
     show i = T
     have := hT.out
     rcases hi3 with rfl | ⟨rfl, h⟩
     ·rw [drop_at s (k + 1) hc] at this
      simp only [sgN] at this
      split at this <;> omega
     ·exact h.symm
    have hki : k ≤ i := by omega
    clear hsg
    go_wp2_with (first | (go_at_call 123; refine (isSign_at s k (i + 1) _).mono ?_; rw [hsg'.out]; rintro e w2 ⟨rfl, rfl⟩))
    rw [Exit.noGoto_ret]
    go_ret2
    exact ⟨by rw [hfin.out]; rfl, rfl⟩
  ·have hfin : Hid (i = T) := by
    show i = T
    have := hT.out
    rcases hi3 with rfl | ⟨rfl, h⟩
    ·rw [drop_end s (k + 1) hc] at this
     simp only [sgN] at this
     omega
    ·exact h.symm
   go_wp2
   rw [Exit.noGoto_ret]
   go_ret2
   exact ⟨by rw [hfin.out]; rfl, rfl⟩

theorem tokenEnd_any (s : ByteArray) (k : Nat) (w : World) (hk : k < s.size) (hs : s.size ≤ 1099511627776) :
  Calls Tryz.prog 96 #[.string s, .int .i64 (k : Int)] w fun e w' => e = .returned (.tuple #[.int .i64 ((endOf ((bytes s).drop k)).1 : Nat), .int .i64 ((k + (endOf ((bytes s).drop k)).2 : Nat) : Int)]) ∧ w' = w := by
 have hd := drop_at s k hk
 cases a1 : isLet s[k].toNat
 ·cases a2 : isDig s[k].toNat
  ·have h := tokenEnd_sign s k w hk hs a1 a2
   have he : endOf ((bytes s).drop k) = (4, sgN s[k] ((bytes s).drop (k + 1)) + 1) := by rw [hd]; simp only [endOf, a1, a2]; rfl
   rw [he]; exact h
  ·have h := tokenEnd_num s k w hk hs a1 a2
   have he : endOf ((bytes s).drop k) = ((nmN ((bytes s).drop (k + 1))).1, (nmN ((bytes s).drop (k + 1))).2 + 1) := by rw [hd]; simp only [endOf, a1, a2, if_true]; rfl
   rw [he]; exact h
 ·have h := tokenEnd_word s k w hk hs a1
  have he : endOf ((bytes s).drop k) = (1, alN ((bytes s).drop (k + 1)) + 1) := by rw [hd]; simp only [endOf, a1, if_true]
  rw [he]; exact h

end Go.Proofs.YtcmahiphfpgadaaGreatDoor

/- Names and words, as plain functions on lists of bytes. -/
namespace Go.Proofs.YtcmahiphfpgadaaGreatDoor

/-- A name. -/
def isNm (l : List UInt8) : Bool := decide (1 ≤ l.length) && decide (l.length ≤ 24) && !isWd l && decide (endOf l = (1, l.length))

/-- Letters and digits alone. -/
def allAl (l : List UInt8) : Bool := l.all (fun c => isLet c.toNat || isDig c.toNat)

theorem alN_all (l : List UInt8) : alN l = l.length ↔ allAl l = true := by
 induction l with
 | nil => simp [alN, allAl]
 | cons c r ih =>
  simp only [alN, allAl, List.all_cons, List.length_cons] at ih ⊢
  cases isLet c.toNat || isDig c.toNat
  ·simp
  ·simp only [if_true, Nat.add_right_cancel_iff, Bool.true_and]; exact ih

theorem end_word (c : UInt8) (r : List UInt8) : endOf (c :: r) = (1, (c :: r).length) ↔ isLet c.toNat = true ∧ allAl (c :: r) = true := by
 rw [← alN_all]
 simp only [endOf]
 cases h : isLet c.toNat
 ·simp only [Bool.false_eq_true, if_false, false_and, iff_false]
  split
  ·intro h2
   have h3 := congrArg Prod.fst h2
   simp only [] at h3
   have : ∀ l : List UInt8, (nmN l).1 = 2 ∨ (nmN l).1 = 3 := by
    intro l
    induction l with
    | nil => exact .inl rfl
    | cons d q ih => simp only [nmN]; split; exact .inr rfl; split; exact ih; exact .inl rfl
   rcases this r with h4 | h4 <;> omega
  ·intro h2
   have h3 := congrArg Prod.fst h2
   simp at h3
 ·simp [alN, h]

/-- What the document's Name asks, as it asks it. -/
theorem isNm_eq (c : UInt8) (r : List UInt8) : isNm (c :: r) = (decide ((c :: r).length ≤ 24) && isLet c.toNat && !isWd (c :: r) && allAl (c :: r)) := by
 rw [Bool.eq_iff_iff]
 simp only [isNm, Bool.and_eq_true, decide_eq_true_eq, end_word]
 constructor
 ·rintro ⟨⟨⟨_, a⟩, b⟩, c, d⟩; exact ⟨⟨⟨a, c⟩, b⟩, d⟩
 ·rintro ⟨⟨⟨a, c⟩, b⟩, d⟩; exact ⟨⟨⟨by simp, a⟩, b⟩, c, d⟩

theorem allAl_drop_yes (s : ByteArray) (j : Nat) (h : j < s.size) (hc : (isLet s[j].toNat || isDig s[j].toNat) = true) : allAl ((bytes s).drop j) = allAl ((bytes s).drop (j + 1)) := by
 rw [drop_at s j h]; simp only [allAl, List.all_cons, hc, Bool.true_and]
theorem allAl_drop_no (s : ByteArray) (j : Nat) (h : j < s.size) (hc : (isLet s[j].toNat || isDig s[j].toNat) = false) : allAl ((bytes s).drop j) = false := by
 rw [drop_at s j h]; simp only [allAl, List.all_cons, hc, Bool.false_and]

theorem not_emptyN {s : ByteArray} (h : 0 < s.size) : s.toList.isEmpty = false := by
 rw [List.isEmpty_eq_false_iff, toList_bytes]
 intro h0
 have : s.size = 0 := by rw [← bytes_length s, h0]; rfl
 omega

theorem is_emptyN {s : ByteArray} (h : s.size = 0) : s.toList.isEmpty = true := by
 rw [List.isEmpty_iff, toList_bytes]
 apply List.eq_nil_of_length_eq_zero
 rw [bytes_length]; exact h

end Go.Proofs.YtcmahiphfpgadaaGreatDoor

/- lex.Name, and the document's own Words, Word and Name. -/
namespace Go.Proofs.YtcmahiphfpgadaaGreatDoor
open Go.RowKit
set_option linter.unusedVariables false

theorem isNm_str (s : ByteArray) (hp : 0 < s.size) (hl : s.size ≤ 24) (hw : isWd (bytes s) = false) : isNm (bytes s) = decide (endOf (bytes s) = (1, s.size)) := by
 rw [isNm, bytes_length, hw]
 simp [show 1 ≤ s.size by omega, hl]

theorem isNm_not (s : ByteArray) (h : s.size = 0 ∨ 24 < s.size ∨ isWd (bytes s) = true) : isNm (bytes s) = false := by
 rw [isNm, bytes_length]
 rcases h with h | h | h
 ·simp [h]
 ·simp [show ¬ s.size ≤ 24 by omega]
 ·simp [h]

theorem tokenEnd_zero (s : ByteArray) (w : World) (hk : 0 < s.size) (hs : s.size ≤ 1099511627776) (K E : Nat) (h : endOf (bytes s) = (K, E)) :
  Calls Tryz.prog 96 #[.string s, .int .i64 0] w fun e w' => e = .returned (.tuple #[.int .i64 (K : Nat), .int .i64 (E : Nat)]) ∧ w' = w := by
 have := tokenEnd_any s 0 w hk hs
 rw [List.drop_zero, h] at this
 simpa using this

set_option maxRecDepth 100000 in
set_option maxHeartbeats 800000 in
theorem name_any (s : ByteArray) (w : World) : Calls Tryz.prog 68 #[.string s] w fun e w' => e = .returned (.bool (isNm (bytes s))) ∧ w' = w := by
 by_cases h0 : s.size = 0
 ·rw [isNm_not s (.inl h0)]
  have he := is_emptyN h0
  go_enter Tryz.func68, Tryz.ntmps68
  go_wp2
  go_ret
  exact ⟨rfl, rfl⟩
 have hp : 0 < s.size := by omega
 have he := not_emptyN hp
 by_cases h1 : 24 < s.size
 ·rw [isNm_not s (.inr (.inl h1))]
  go_enter Tryz.func68, Tryz.ntmps68
  go_wp2
  go_ret
  exact ⟨rfl, rfl⟩
 cases hw : isWd (bytes s)
 ·rw [isNm_str s hp (by omega) hw]
  obtain ⟨K, E, hKE⟩ : ∃ K E, endOf (bytes s) = (K, E) := ⟨_, _, rfl⟩
  rw [hKE]
  have HKE : Hid (endOf (bytes s) = (K, E)) := hKE
  have HW : Hid (isWd (bytes s) = false) := hw
  clear hKE hw
  go_enter Tryz.func68, Tryz.ntmps68
  go_wp2_with (first | (go_at_call 95; refine (word_any s _).mono ?_; rw [HW.out]; rintro e w1 ⟨rfl, rfl⟩) | (go_at_call 96; refine (tokenEnd_zero s _ hp (by omega) K E HKE.out).mono ?_; rintro e w1 ⟨rfl, rfl⟩))
  all_goals
   go_ret
   refine ⟨?_, rfl⟩
   simp
   try (rw [Bool.eq_iff_iff]; simp)
   try omega
 ·rw [isNm_not s (.inr (.inr hw))]
  have HW : Hid (isWd (bytes s) = true) := hw
  clear hw
  go_enter Tryz.func68, Tryz.ntmps68
  go_wp2_with (first | (go_at_call 95; refine (word_any s _).mono ?_; rw [HW.out]; rintro e w1 ⟨rfl, rfl⟩))
  go_ret
  exact ⟨rfl, rfl⟩

/-- The cells of the words. -/
def wordCells : List Value := words.map fun x => .string ⟨x.toArray⟩

/-- Is a text among the words from a place on? -/
def wdFrom (i : Nat) (l : List UInt8) : Bool := decide (l ∈ words.drop i)

theorem wdFrom_yes (i : Nat) (l : List UInt8) (hi : i < 18) (h : words.getD i [] = l) : wdFrom i l = true := by
 simp only [wdFrom, decide_eq_true_eq]
 rw [List.drop_eq_getElem_cons (show i < words.length from hi)]
 have h2 : i < words.length := hi
 simp [List.getD, h2] at h
 rw [← h]
 exact List.mem_cons_self

theorem wdFrom_no (i : Nat) (l : List UInt8) (hi : i < 18) (h : ¬ words.getD i [] = l) : wdFrom i l = wdFrom (i + 1) l := by
 simp only [wdFrom]
 rw [List.drop_eq_getElem_cons (show i < words.length from hi)]
 have h2 : i < words.length := hi
 simp [List.getD, h2] at h
 rw [Bool.eq_iff_iff]
 simp only [decide_eq_true_eq, List.mem_cons]
 constructor
 ·rintro (h3 | h3)
  ·exact absurd h3.symm h
  ·exact h3
 ·exact .inr

theorem wordCell (w : World) (i : Nat) (hi : i < 18) : (w.alloc (.cells wordCells.toArray 9)).cell? ⟨w.heap.size, i, none⟩ = some (.string ⟨(words.getD i []).toArray⟩) := by
 have h2 : i < words.length := hi
 simp [wordCells, List.getD, h2]

theorem isNm_ref (s : ByteArray) (hp : 0 < s.size) : isNm (bytes s) = (decide (s.size ≤ 24) && isLet s[0].toNat && !isWd (bytes s) && allAl (bytes s)) := by
 have h := drop_at s 0 hp
 rw [List.drop_zero] at h
 have h2 := isNm_eq s[0] ((bytes s).drop (0 + 1))
 rw [← h, bytes_length] at h2
 exact h2

end Go.Proofs.YtcmahiphfpgadaaGreatDoor

/-
 DERIVED: THE SHELF's CONTRACTS AT THIS DUMP, IN PLAIN WORDS (tools/lay-plain.mjs out of 'YtcmahiphfpgadaaGreatDoorShelf.lean', which tools/lay-shelf.mjs wrote): THE SAME DECLARATIONS UNDER THE SAME NAMES: 'import', 'namespace', 'open', 'def', 'theorem' AND NOTHING ELSE: no command of the shelf's: FOR A HAND-IN. Each laying: the table of numbers ('.._ren') and one theorem, a field a fact of the dump's own or the kernel's comparison; each contract: ONE APPLICATION.
-/
namespace Go.Proofs
open Go.Shelf
def Tryz.lays121_ren : Go.Shelf.Ren := ⟨fun | 121 => 84 | 214 => 105 | n => n, fun | 4 => 4 | 9 => 9 | n => n, fun | n => n⟩
theorem Tryz.lays121 : Go.Proofs.Lays.n121 Tryz.prog Tryz.lays121_ren := {
 mixed := by kernel_rfl
 f121 := Tryz.func84.trans (congrArg some (by kernel_rfl))
 f214 := Tryz.func105.trans (congrArg some (by kernel_rfl))
 t4 := Tryz.underlying4
 a4 := Tryz.isAgg4
 z4 := Tryz.sizeOf4
 v4 := Tryz.zeroValue4
 t9 := Tryz.underlying9
 a9 := Tryz.isAgg9
 z9 := Tryz.sizeOf9
 v9 := Tryz.zeroValue9 }
open Go.RowKit in
/-- strconv.FormatBool: "FormatBool returns "true" or "false" according to the value of b.": IT RETURNS 'Lib.formatBool b'; the world is as it was. (LAID: no walk: one application.) -/
theorem Tryz.strconv_FormatBool (b : Bool) (w : World) :
  Calls Tryz.prog 84 #[.bool b] w fun e w' => e = .returned (.string ⟨(Lib.formatBool b).toArray⟩) ∧ w' = w := Any.strconv_FormatBool Tryz.lays121 b w
def Tryz.laysM173_ren : Go.Shelf.Ren := ⟨fun | 173 => 83 | 246 => 104 | 283 => 126 | 284 => 127 | 285 => 128 | 286 => 129 | 129 => 146 | 317 => 145 | 318 => 147 | 319 => 148 | 320 => 149 | 337 => 155 | 338 => 156 | n => n, fun | 2 => 2 | 3 => 3 | 9 => 9 | 4 => 4 | 171 => 151 | 0 => 0 | 53 => 29 | 37 => 63 | 5 => 5 | 173 => 154 | 212 => 166 | 51 => 167 | 20 => 20 | 213 => 168 | 46 => 144 | 232 => 178 | 233 => 179 | n => n, fun | 17 => 1 | 18 => 2 | 19 => 3 | n => n⟩
theorem Tryz.laysM173 : Go.Proofs.LaysM.n173 Tryz.prog Tryz.laysM173_ren := {
 mixed := by kernel_rfl
 f129 := Tryz.func146.trans (congrArg some (by kernel_rfl))
 f173 := Tryz.func83.trans (congrArg some (by kernel_rfl))
 f246 := Tryz.func104.trans (congrArg some (by kernel_rfl))
 f283 := Tryz.func126.trans (congrArg some (by kernel_rfl))
 f284 := Tryz.func127.trans (congrArg some (by kernel_rfl))
 f285 := Tryz.func128.trans (congrArg some (by kernel_rfl))
 f286 := Tryz.func129.trans (congrArg some (by kernel_rfl))
 f317 := Tryz.func145.trans (congrArg some (by kernel_rfl))
 f318 := Tryz.func147.trans (congrArg some (by kernel_rfl))
 f319 := Tryz.func148.trans (congrArg some (by kernel_rfl))
 f320 := Tryz.func149.trans (congrArg some (by kernel_rfl))
 f337 := Tryz.func155.trans (congrArg some (by kernel_rfl))
 f338 := Tryz.func156.trans (congrArg some (by kernel_rfl))
 t0 := Tryz.underlying0
 a0 := Tryz.isAgg0
 z0 := Tryz.sizeOf0
 v0 := Tryz.zeroValue0
 t2 := Tryz.underlying2
 a2 := Tryz.isAgg2
 z2 := Tryz.sizeOf2
 v2 := Tryz.zeroValue2
 t3 := Tryz.underlying3
 a3 := Tryz.isAgg3
 z3 := Tryz.sizeOf3
 v3 := Tryz.zeroValue3
 t4 := Tryz.underlying4
 a4 := Tryz.isAgg4
 z4 := Tryz.sizeOf4
 v4 := Tryz.zeroValue4
 t5 := Tryz.underlying5
 a5 := Tryz.isAgg5
 z5 := Tryz.sizeOf5
 v5 := Tryz.zeroValue5
 t9 := Tryz.underlying9
 a9 := Tryz.isAgg9
 z9 := Tryz.sizeOf9
 v9 := Tryz.zeroValue9
 t20 := Tryz.underlying20
 a20 := Tryz.isAgg20
 z20 := Tryz.sizeOf20
 v20 := Tryz.zeroValue20
 t37 := Tryz.underlying63
 a37 := Tryz.isAgg63
 z37 := Tryz.sizeOf63
 v37 := Tryz.zeroValue63
 t46 := Tryz.underlying144
 a46 := Tryz.isAgg144
 z46 := Tryz.sizeOf144
 v46 := Tryz.zeroValue144
 t51 := Tryz.underlying167
 a51 := Tryz.isAgg167
 z51 := Tryz.sizeOf167
 v51 := Tryz.zeroValue167
 t53 := Tryz.underlying29
 a53 := Tryz.isAgg29
 z53 := Tryz.sizeOf29
 v53 := Tryz.zeroValue29
 t171 := Tryz.underlying151
 a171 := Tryz.isAgg151
 z171 := Tryz.sizeOf151
 v171 := Tryz.zeroValue151
 t173 := Tryz.underlying154
 a173 := Tryz.isAgg154
 z173 := Tryz.sizeOf154
 v173 := Tryz.zeroValue154
 t212 := Tryz.underlying166
 a212 := Tryz.isAgg166
 z212 := Tryz.sizeOf166
 v212 := Tryz.zeroValue166
 t213 := Tryz.underlying168
 a213 := Tryz.isAgg168
 z213 := Tryz.sizeOf168
 t232 := Tryz.underlying178
 a232 := Tryz.isAgg178
 z232 := Tryz.sizeOf178
 v232 := Tryz.zeroValue178
 t233 := Tryz.underlying179
 a233 := Tryz.isAgg179
 z233 := Tryz.sizeOf179
 v233 := Tryz.zeroValue179
 g17 := by kernel_rfl
 g18 := by kernel_rfl
 g19 := by kernel_rfl
 i0 := by kernel_rfl
 i2 := by kernel_rfl
 i3 := by kernel_rfl
 i4 := by kernel_rfl
 i5 := by kernel_rfl
 i9 := by kernel_rfl
 i20 := by kernel_rfl
 i37 := by kernel_rfl
 i46 := by kernel_rfl
 i51 := by kernel_rfl
 i53 := by kernel_rfl
 i171 := by kernel_rfl
 i173 := by kernel_rfl
 i212 := by kernel_rfl
 i232 := by kernel_rfl
 i233 := by kernel_rfl
 m17 := by kernel_rfl
 m18 := by kernel_rfl
 m19 := by kernel_rfl }
open Go.RowKit Go.Sort Go.Lib in
/-- strconv.FormatInt: "FormatInt returns the string representation of i in the given base": AT BASE 10: i's decimal numeral, for every int64. (LAID: no walk: one application.) -/
theorem Tryz.strconv_FormatInt_10 (n : Int) (h0 : -9223372036854775808 ≤ n) (h1 : n ≤ 9223372036854775807) (w : World) (htab : Lib.TabIs Tryz.prog w "internal/strconv.uint64pow10" .u64 Lib.pow10Tab) :
  Calls Tryz.prog 83 #[.int .i64 n, .int .i64 10] w fun e w' => e = .returned (.string ⟨(Lib.itoa n).toArray⟩) ∧ ∃ k os, w' = grow (w.drewN k) os := Any.strconv_FormatInt_10 Tryz.laysM173 n h0 h1 w htab
open Go.RowKit in
def Tryz.lays99_ren : Go.Shelf.Ren := ⟨fun | 99 => 87 | 206 => 111 | n => n, fun | 9 => 9 | 4 => 4 | 3 => 3 | n => n, fun | n => n⟩
theorem Tryz.lays99 : Go.Proofs.Lays.n99 Tryz.prog Tryz.lays99_ren := {
 mixed := by kernel_rfl
 f99 := Tryz.func87.trans (congrArg some (by kernel_rfl))
 f206 := Tryz.func111.trans (congrArg some (by kernel_rfl))
 t3 := Tryz.underlying3
 a3 := Tryz.isAgg3
 z3 := Tryz.sizeOf3
 v3 := Tryz.zeroValue3
 t4 := Tryz.underlying4
 a4 := Tryz.isAgg4
 z4 := Tryz.sizeOf4
 v4 := Tryz.zeroValue4
 t9 := Tryz.underlying9
 a9 := Tryz.isAgg9
 z9 := Tryz.sizeOf9
 v9 := Tryz.zeroValue9 }
open Go.RowKit Go.Lib in
/-- strings.HasPrefix: "HasPrefix reports whether the string s begins with prefix.": IT RETURNS 'Lib.hasPrefix s prefix'; the world is as it was. (LAID: no walk: one application.) -/
theorem Tryz.strings_HasPrefix (s p : ByteArray) (w : World) :
  Calls Tryz.prog 87 #[.string s, .string p] w fun e w' => e = .returned (.bool (Lib.hasPrefix s.data.toList p.data.toList)) ∧ w' = w := Any.strings_HasPrefix Tryz.lays99 s p w
end Go.Proofs

/- Values' texts. -/
namespace Go.Proofs.YtcmahiphfpgadaaGreatDoor
open Go.RowKit
set_option linter.unusedVariables false

/-- The table of powers is laid. -/
def Tab (w : World) : Prop := Lib.TabIs Tryz.prog w "internal/strconv.uint64pow10" .u64 Lib.pow10Tab

/-- The package variables lie in the first blocks. -/
def gB : Nat := 4

theorem Tab.below {B : Nat} {w w' : World} (h : Tab w) (hb : Below B w w') (hB : gB ≤ B) : Tab w' := by
 unfold Tab Lib.TabIs World.var? at *
 obtain ⟨g, hg, hx⟩ := Option.bind_eq_some_iff.1 h
 have hgl : g < gB := by
  have : Tryz.prog.globalNamed "internal/strconv.uint64pow10" = some g := hg
  have h2 : (Tryz.prog.globalNamed "internal/strconv.uint64pow10").all (fun g => decide (g < gB)) = true := by kernel_rfl
  rw [this] at h2
  simpa using h2
 rw [hg, Option.bind_some, hb.block g (by omega)]
 exact hx

theorem below_grow (w : World) (k : Nat) (os : Array Obj) : Below w.heap.size w (Sort.grow (w.drewN k) os) :=
 ⟨rfl, rfl, rfl, by simp [Sort.grow], fun i hi => by simp [Sort.grow, Array.getElem?_append_left hi]⟩

/-- A word as a number with a sign. -/
def sgn (b : Nat) : Int := if b < 9223372036854775808 then (b : Int) else (b : Int) - 18446744073709551616

/-- A value's text. -/
def valTx (t b : Nat) : List UInt8 := if t = 1 then Lib.itoa (sgn b) else if t = 2 then Lib.formatBool (decide (b = 1)) else if t = 3 then textOf (home b) else []
/-- Whether it may be told. -/
def valOk (t b : Nat) : Bool := if t = 1 then decide (b ≠ 9223372036854775808) else if t = 2 then decide (b ≤ 1) else if t = 3 then ((home b == b) && !(Lib.hasPrefix (textOf (home b)) [35])) else false

theorem formatInt_any (b : Nat) (hb : b < 18446744073709551616) (w : World) (hT : Tab w) :
  Calls Tryz.prog 83 #[.int .i64 (sgn b), .int .i64 10] w fun e w' => e = .returned (.string ⟨(Lib.itoa (sgn b)).toArray⟩) ∧ Below w.heap.size w w' := by
 refine (Tryz.strconv_FormatInt_10 (sgn b) (by unfold sgn; split <;> omega) (by unfold sgn; split <;> omega) w hT).mono ?_
 rintro e w' ⟨rfl, k, os, rfl⟩
 exact ⟨rfl, below_grow w k os⟩

theorem conv64 (b : Nat) (hb : b < 18446744073709551616) : IntKind.i64.wrap (b : Int) = sgn b := by
 rw [IntKind.wrap_i64]
 unfold sgn
 split <;> omega

set_option maxRecDepth 100000 in
set_option maxHeartbeats 1600000 in
theorem valueText_any (t b : Nat) (ht : t < 256) (hb : b < 18446744073709551616) (w : World) (hT : Tab w) (h16 : gB ≤ w.heap.size) :
  Calls Tryz.prog 40 #[.agg [.int .u8 (t : Int), .int .u64 (b : Int)].toArray] w fun e w' => e = .returned (.tuple #[.string ⟨(valTx t b).toArray⟩, .bool (valOk t b)]) ∧ Below w.heap.size w w' := by
 by_cases h1 : t = 1
 ·subst h1
  have hv : valTx 1 b = Lib.itoa (sgn b) := rfl
  have ho : valOk 1 b = decide (b ≠ 9223372036854775808) := rfl
  have hcv := conv64 b hb
  have hgt : decide (sgn b > -9223372036854775808) = decide (b ≠ 9223372036854775808) := by
   congr 1
   unfold sgn
   apply propext
   constructor
   ·intro h; split at h <;> omega
   ·intro h; split <;> omega
  have hF : ∀ w, Tab w → Calls Tryz.prog 83 #[.int .i64 (sgn b), .int .i64 10] w fun e w' => e = .returned (.string ⟨(Lib.itoa (sgn b)).toArray⟩) ∧ Below w.heap.size w w' := fun w h => formatInt_any b hb w h
  rw [hv, ho]
  obtain ⟨x, hx⟩ : ∃ x, x = sgn b := ⟨_, rfl⟩
  rw [← hx] at hcv hF hgt ⊢
  obtain ⟨L, hL⟩ : ∃ L, L = Lib.itoa x := ⟨_, rfl⟩
  rw [← hL] at hF ⊢
  clear hL hv ho hx
  go_enter Tryz.func40, Tryz.ntmps40
  go_wp2_with fail
  refine (hF _ (hT.below ((Below.refl _ w).alloc (Nat.le_refl _) _) h16)).mono ?_
  rintro e w2 ⟨rfl, hb2⟩
  have hgt' : decide (-9223372036854775808 < x) = decide (b ≠ 9223372036854775808) := hgt
  clear hgt hF hcv
  go_wp2
  go_ret2
  exact ⟨by simp, ((Below.refl _ w).alloc (Nat.le_refl _) _).trans (hb2.mono (by simp))⟩
 by_cases h2 : t = 2
 ·subst h2
  have hv : valTx 2 b = Lib.formatBool (decide (b = 1)) := rfl
  have ho : valOk 2 b = decide (b ≤ 1) := rfl
  have hbe : ((b : Int) == 1) = decide (b = 1) := by rw [Bool.eq_iff_iff]; simp; omega
  have hbl : decide ((b : Int) ≤ 1) = decide (b ≤ 1) := by congr 1; apply propext; omega
  rw [hv, ho]
  obtain ⟨B, hB⟩ : ∃ B, B = decide (b = 1) := ⟨_, rfl⟩
  rw [← hB] at hbe ⊢
  have hF : ∀ w, Calls Tryz.prog 84 #[.bool B] w fun e w' => e = .returned (.string ⟨(Lib.formatBool B).toArray⟩) ∧ w' = w := fun w => Tryz.strconv_FormatBool B w
  obtain ⟨L, hL⟩ : ∃ L, L = Lib.formatBool B := ⟨_, rfl⟩
  rw [← hL] at hF ⊢
  rw [← hbl]
  clear hL hv ho hB hbl
  go_enter Tryz.func40, Tryz.ntmps40
  go_wp2_with fail
  go_quiet (first | (go_at_call 84; exact Calls.quiet_of_same (hF _)))
  go_wp2
  go_ret2
  have hx := (Below.refl _ w).alloc (Nat.le_refl _) (.cells #[.int .u8 2, .int .u64 (b : Int)] 31)
  exact ⟨rfl, hx.os, hx.tape, hx.output, hx.size, hx.block⟩
 by_cases h3 : t = 3
 ·subst h3
  have hv : valTx 3 b = textOf (home b) := rfl
  have ho : valOk 3 b = ((home b == b) && !(Lib.hasPrefix (textOf (home b)) [35])) := rfl
  have hX : ∀ w, Calls Tryz.prog 85 #[.int .u64 (b : Int)] w fun e w' => e = .returned (.string ⟨(textOf (home b)).toArray⟩) ∧ Below w.heap.size w w' := fun w => text_any b hb w
  have hM : ∀ w, Calls Tryz.prog 86 #[.int .u64 (b : Int)] w fun e w' => e = .returned (.bool (home b == b)) ∧ w' = w := fun w => may_any b w hb
  rw [hv, ho]
  obtain ⟨L, hL⟩ : ∃ L, L = textOf (home b) := ⟨_, rfl⟩
  rw [← hL] at hX ⊢
  obtain ⟨M, hMM⟩ : ∃ M, M = (home b == b) := ⟨_, rfl⟩
  rw [← hMM] at hM ⊢
  clear hL hv ho hMM
  have hP : ∀ w, Calls Tryz.prog 87 #[.string ⟨L.toArray⟩, .string ⟨#[35]⟩] w fun e w' => e = .returned (.bool (Lib.hasPrefix L [35])) ∧ w' = w := fun w => Tryz.strings_HasPrefix ⟨L.toArray⟩ ⟨#[35]⟩ w
  go_enter Tryz.func40, Tryz.ntmps40
  go_wp2_with fail
  refine (hX _).mono ?_
  rintro e w2 ⟨rfl, hb2⟩
  have c1 : w2.cell? ⟨w.heap.size, 1, none⟩ = some (.int .u64 (b : Int)) := by
   rw [World.cell?_of_block (hb2.block _ (by simp))]
   simp
  have hbb : Below w.heap.size w w2 := ((Below.refl _ w).alloc (Nat.le_refl _) _).trans (hb2.mono (by simp))
  clear hb2 hX
  cases M with
  | false =>
   go_wp2_with fail
   refine (hM _).mono ?_
   rintro e w' ⟨rfl, rfl⟩
   go_wp2
   go_ret2
   exact ⟨rfl, hbb⟩
  | true =>
   go_wp2_with fail
   refine (hM _).mono ?_
   rintro e w' ⟨rfl, rfl⟩
   go_wp2_with fail
   refine (hP _).mono ?_
   rintro e w' ⟨rfl, rfl⟩
   go_wp2
   go_ret2
   exact ⟨rfl, hbb⟩
 ·have hv : valTx t b = [] := by unfold valTx; rw [if_neg h1, if_neg h2, if_neg h3]
  have ho : valOk t b = false := by unfold valOk; rw [if_neg h1, if_neg h2, if_neg h3]
  rw [hv, ho]
  have e1 : ((t : Int) == 1) = false := by rw [beq_eq_false_iff_ne]; omega
  have e2 : ((t : Int) == 2) = false := by rw [beq_eq_false_iff_ne]; omega
  have e3 : ((t : Int) == 3) = false := by rw [beq_eq_false_iff_ne]; omega
  go_enter Tryz.func40, Tryz.ntmps40
  go_wp2
  go_ret2
  exact ⟨rfl, (Below.refl _ w).alloc (Nat.le_refl _) _⟩

/-- Whether a value may be a literal. -/
def litOk (t b : Nat) : Bool := valOk t b && !(Lib.hasPrefix (valTx t b) [45])

set_option maxRecDepth 100000 in
set_option maxHeartbeats 1600000 in
theorem mayLit_any (t b : Nat) (ht : t < 256) (hb : b < 18446744073709551616) (w : World) (hT : Tab w) (h16 : gB ≤ w.heap.size) :
  Calls Tryz.prog 79 #[.agg [.int .u8 (t : Int), .int .u64 (b : Int)].toArray] w fun e w' => e = .returned (.bool (litOk t b)) ∧ Below w.heap.size w w' := by
 have hV := fun w hT h16 => valueText_any t b ht hb w hT h16
 unfold litOk
 obtain ⟨L, hL⟩ : ∃ L, L = valTx t b := ⟨_, rfl⟩
 obtain ⟨M, hM⟩ : ∃ M, M = valOk t b := ⟨_, rfl⟩
 rw [← hL, ← hM] at hV ⊢
 clear hL hM
 have hP : ∀ w, Calls Tryz.prog 87 #[.string ⟨L.toArray⟩, .string ⟨#[45]⟩] w fun e w' => e = .returned (.bool (Lib.hasPrefix L [45])) ∧ w' = w := fun w => Tryz.strings_HasPrefix ⟨L.toArray⟩ ⟨#[45]⟩ w
 go_enter Tryz.func79, Tryz.ntmps79
 go_wp2_with fail
 refine (hV _ (hT.below ((Below.refl _ w).alloc (Nat.le_refl _) _) h16) (by simp; omega)).mono ?_
 rintro e w2 ⟨rfl, hb2⟩
 have hbb : Below w.heap.size w w2 := ((Below.refl _ w).alloc (Nat.le_refl _) _).trans (hb2.mono (by simp))
 clear hV hb2
 cases M with
 | false =>
  go_wp2
  go_ret
  exact ⟨rfl, hbb⟩
 | true =>
  go_wp2_with fail
  refine (hP _).mono ?_
  rintro e w' ⟨rfl, rfl⟩
  go_wp2
  go_ret
  exact ⟨rfl, hbb⟩

set_option maxRecDepth 100000 in
set_option maxHeartbeats 1600000 in
/-- tree.Value. -/
theorem value_any (t b : Nat) (ht : t < 256) (hb : b < 18446744073709551616) (w : World) (hT : Tab w) (h16 : gB ≤ w.heap.size) :
  Calls Tryz.prog 14 #[.agg [.int .u8 (t : Int), .int .u64 (b : Int)].toArray] w fun e w' => e = .returned (.tuple #[.string ⟨(if valOk t b then valTx t b else []).toArray⟩, .int .i64 (if valOk t b then 0 else 2)]) ∧ Below w.heap.size w w' := by
 have hV := fun w hT h16 => valueText_any t b ht hb w hT h16
 obtain ⟨L, hL⟩ : ∃ L, L = valTx t b := ⟨_, rfl⟩
 obtain ⟨M, hM⟩ : ∃ M, M = valOk t b := ⟨_, rfl⟩
 rw [← hL, ← hM] at hV ⊢
 clear hL hM
 go_enter Tryz.func14, Tryz.ntmps14
 go_wp2_with fail
 refine (hV _ (hT.below ((Below.refl _ w).alloc (Nat.le_refl _) _) h16) (by simp; omega)).mono ?_
 rintro e w2 ⟨rfl, hb2⟩
 have hbb : Below w.heap.size w w2 := ((Below.refl _ w).alloc (Nat.le_refl _) _).trans (hb2.mono (by simp))
 clear hV hb2
 cases M with
 | false =>
  go_wp2
  go_ret2
  exact ⟨rfl, hbb⟩
 | true =>
  go_wp2
  go_ret2
  exact ⟨rfl, hbb⟩

end Go.Proofs.YtcmahiphfpgadaaGreatDoor

/- The text that is put together: a struct with a builder in it, and what writing to it leaves as it was. -/
namespace Go.Proofs.YtcmahiphfpgadaaGreatDoor
open Go.RowKit
set_option linter.unusedVariables false

/-- A writing to the text at block g, made from block B on: all other blocks are as they were, but rows of bytes from B on. -/
structure Wr (B g : Nat) (w w' : World) : Prop where
 os : w'.os = w.os
 tape : w'.tape = w.tape
 output : w'.output = w.output
 size : w.heap.size ≤ w'.heap.size
 block : ∀ k, k < w.heap.size → k ≠ g → (k < B ∨ ∀ cs fr, w.heap[k]? ≠ some (.cells cs 5 fr)) → w'.heap[k]? = w.heap[k]?

theorem Wr.refl (B g : Nat) (w : World) : Wr B g w w := ⟨rfl, rfl, rfl, Nat.le_refl _, fun _ _ _ _ => rfl⟩
theorem Wr.trans {B g : Nat} {a b c : World} (h : Wr B g a b) (k : Wr B g b c) : Wr B g a c :=
 ⟨k.os.trans h.os, k.tape.trans h.tape, k.output.trans h.output, Nat.le_trans h.size k.size, fun i hi hn ht => by
  have e := h.block i hi hn ht
  rw [k.block i (Nat.lt_of_lt_of_le hi h.size) hn ?_, e]
  rcases ht with ht | ht
  ·exact .inl ht
  ·exact .inr fun cs fr hx => ht cs fr (by rw [← e]; exact hx)⟩
theorem Wr.of_below {B g : Nat} {w w' : World} (h : Below w.heap.size w w') : Wr B g w w' := ⟨h.os, h.tape, h.output, h.size, fun k hk _ _ => h.block k hk⟩
theorem Wr.at {B g t k : Nat} {w w' : World} {cs : List Value} (h : Wr B g w w') (ha : At t w k cs) (hn : k ≠ g) (ht : t ≠ 5) : At t w' k cs := by
 have hx : w.heap[k]? = _ := ha
 unfold At
 rw [h.block k ha.lt hn (.inr fun cs fr he => by rw [hx] at he; injection he with he; injection he with _ h2; exact ht h2)]
 exact ha
theorem Wr.below {B g : Nat} {w w' : World} (h : Wr B g w w') (hB : B ≤ g) (hw : B ≤ w.heap.size) : Below B w w' :=
 ⟨h.os, h.tape, h.output, h.size, fun k hk => h.block k (by omega) (by omega) (.inl hk)⟩

/-- The text's block: the builder's own address, its buffer, the most. -/
def Raw (B : Nat) (w : World) (g : Nat) (m : Nat) (bs : List UInt8) : Prop :=
 B ≤ g ∧ ∃ p v, (p = .pointer none ∨ p = .pointer (some ⟨g, 0, none⟩)) ∧ At 67 w g [p, v, .int .i64 (m : Int)] ∧ w.ownsRow B 5 1 v bs.length (Lib.byteCells bs) ∧ v.ownBlock ≠ some g

theorem ownBlock_ne5 {B g t n : Nat} {w : World} {v : Value} {xs cs : List Value} (h : w.ownsRow B 5 1 v n xs) (hg : At t w g cs) (ht : t ≠ 5) : v.ownBlock ≠ some g := by
 obtain ⟨_, ⟨rfl, _⟩ | ⟨k, cap, cur, rfl, _, hk, _⟩⟩ := h
 ·simp [Value.ownBlock]
 ·simp only [Value.ownBlock]
  intro e
  injection e with e
  subst e
  have hx : w.heap[k]? = _ := hg
  rw [hk] at hx
  injection hx with hx
  injection hx with _ h2
  exact ht h2.symm

theorem Raw.new {w : World} {g m B : Nat} (hB : B ≤ g) (h : At 67 w g [.pointer none, .slice none 0 0, .int .i64 (m : Int)]) : Raw B w g m [] :=
 ⟨hB, .pointer none, .slice none 0 0, .inl rfl, h, ⟨rfl, .inl ⟨rfl, rfl⟩⟩, by simp [Value.ownBlock]⟩

theorem Raw.lt {B g m : Nat} {w : World} {bs : List UInt8} (h : Raw B w g m bs) : g < w.heap.size := by
 obtain ⟨_, p, v, _, ha, _⟩ := h
 exact ha.lt

theorem Raw.below {B g m : Nat} {w w' : World} {bs : List UInt8} (h : Raw B w g m bs) (hb : Below w.heap.size w w') : Raw B w' g m bs := by
 obtain ⟨hB, p, v, hp, ha, hown, hne⟩ := h
 refine ⟨hB, p, v, hp, ha.below hb, ?_, hne⟩
 obtain ⟨h1, h2 | ⟨k, cap, cur, rfl, hk, hh, hr⟩⟩ := hown
 ·exact ⟨h1, .inl h2⟩
 ·have hlt : k < w.heap.size := by
   rcases Nat.lt_or_ge k w.heap.size with hlt | hge
   ·exact hlt
   ·rw [Array.getElem?_eq_none hge] at hh; simp at hh
  exact ⟨h1, .inr ⟨k, cap, cur, rfl, hk, by rw [hb.block k hlt]; exact hh, hr⟩⟩

theorem sz52 : (Tryz.prog.info? 65).map (·.size) = some 2 := by kernel_rfl
theorem lies52 : liesAt Tryz.prog Tryz.prog.depth 67 (3 / Tryz.prog.cellsOf 67) 0 65 1 = true := by kernel_rfl

theorem At.shape {t : TypeId} {w : World} {g : Nat} {cs : List Value} (h : At t w g cs) : w.shape? g = some (t, cs.length) := by
 simp [World.shape?, show w.heap[g]? = _ from h]

set_option maxHeartbeats 1000000 in
set_option maxRecDepth 100000 in
theorem copyCheck_used (b : Nat) (w : World) (h0 : w.cell? ⟨b, 0, none⟩ = some (.pointer (some ⟨b, 0, none⟩))) :
  Calls Tryz.prog 125 #[.pointer (some ⟨b, 0, none⟩)] w fun e w' => e = .returned (.tuple #[]) ∧ w' = w := by
 obtain ⟨j, hj, _⟩ := Option.map_eq_some_iff.1 sz52
 go_enter Tryz.func125, Tryz.ntmps125
 go_wp2
 rw [Lib.run_neq_ptr_same w _ Tryz.underlying62 hj]
 go_wp2
 go_end0
 exact ⟨rfl, rfl⟩

set_option maxHeartbeats 1000000 in
set_option maxRecDepth 100000 in
theorem copyCheck_fresh (b : Nat) (v x : Value) (w : World) (hA : At 67 w b [.pointer none, v, x]) :
  Calls Tryz.prog 125 #[.pointer (some ⟨b, 0, none⟩)] w fun e w' => e = .returned (.tuple #[]) ∧ At 67 w' b [.pointer (some ⟨b, 0, none⟩), v, x] ∧ But b w w' ∧ w'.heap.size = w.heap.size := by
 obtain ⟨j, hj, hjs⟩ := Option.map_eq_some_iff.1 sz52
 have h0 : w.cell? ⟨b, 0, none⟩ = some (.pointer none) := by rw [hA.cell]; rfl
 have hsh := hA.shape
 have hfz := hA.frozen 0
 go_enter Tryz.func125, Tryz.ntmps125
 go_wp2
 rw [Lib.run_to_unsafe w ⟨b, 0, none⟩ Tryz.underlying62 Tryz.underlying163 hj (by rw [hjs]; decide) hsh (Nat.zero_lt_succ 2)]
 simp only [Result.andThen]
 rw [Oper.upon_value]
 go_wp2
 rw [run_callFunc_extern Tryz.func144 (by kernel_rfl) (by kernel_rfl) (by kernel_rfl) (e := Extern.AbiNoEscape.same) (by kernel_rfl)]
 rw [Lib.run_noEscape]
 simp only [Result.andThen]
 rw [Oper.upon_value]
 go_wp2
 rw [Lib.run_from_unsafe w ⟨b, 0, none⟩ Tryz.underlying163 Tryz.underlying62 hj hsh lies52]
 simp only [Result.andThen]
 rw [Oper.upon_value]
 go_wp2
 go_end0
 exact ⟨rfl, hA.set 0 _, (But.refl b w).setCell 0 _, by simp⟩

theorem owns_but {B g n : Nat} {w w' : World} {v : Value} {xs : List Value} (h : w.ownsRow B 5 1 v n xs) (hb : But g w w') (hn : v.ownBlock ≠ some g) : w'.ownsRow B 5 1 v n xs := by
 obtain ⟨h1, h2 | ⟨k, cap, cur, rfl, hk, hh, hr⟩⟩ := h
 ·exact ⟨h1, .inl h2⟩
 ·have hlt : k < w.heap.size := by
   rcases Nat.lt_or_ge k w.heap.size with hlt | hge
   ·exact hlt
   ·rw [Array.getElem?_eq_none hge] at hh; simp at hh
  exact ⟨h1, .inr ⟨k, cap, cur, rfl, hk, by rw [hb.block k hlt (by intro e; apply hn; simp [Value.ownBlock, e])]; exact hh, hr⟩⟩

theorem Wr.of_but {B g : Nat} {w w' : World} (h : But g w w') : Wr B g w w' := ⟨h.os, h.tape, h.output, h.size, fun k hk hn _ => h.block k hk hn⟩

theorem copyCheck_any (B g m : Nat) (bs : List UInt8) (w : World) (h : Raw B w g m bs) :
  Calls Tryz.prog 125 #[.pointer (some ⟨g, 0, none⟩)] w fun e w' => e = .returned (.tuple #[]) ∧ (∃ v, At 67 w' g [.pointer (some ⟨g, 0, none⟩), v, .int .i64 (m : Int)] ∧ w'.ownsRow B 5 1 v bs.length (Lib.byteCells bs) ∧ v.ownBlock ≠ some g) ∧ Wr B g w w' ∧ w'.heap.size = w.heap.size := by
 obtain ⟨hB, p, v, rfl | rfl, ha, hown, hne⟩ := h
 ·refine (copyCheck_fresh g v _ w ha).mono ?_
  rintro e w' ⟨rfl, h1, h2, h3⟩
  exact ⟨rfl, ⟨v, h1, owns_but hown h2 hne, hne⟩, Wr.of_but h2, h3⟩
 ·refine (copyCheck_used g w (by rw [ha.cell]; rfl)).mono ?_
  rintro e w' ⟨rfl, rfl⟩
  exact ⟨rfl, ⟨v, ha, hown, hne⟩, Wr.refl _ _ _, rfl⟩

set_option maxHeartbeats 1000000 in
set_option maxRecDepth 100000 in
theorem len_any (B g m : Nat) (bs : List UInt8) (w : World) (h : Raw B w g m bs) :
  Calls Tryz.prog 32 #[.pointer (some ⟨g, 0, none⟩)] w fun e w' => e = .returned (.int .i64 (bs.length : Int)) ∧ w' = w := by
 obtain ⟨hB, p, v, hp, ha, hown, hne⟩ := h
 obtain ⟨ao, cap, rfl⟩ : ∃ ao cap, v = .slice ao bs.length cap := by
  rcases hown.2 with ⟨hv, h0⟩ | ⟨k, cap, cur, hv, _⟩
  ·exact ⟨none, 0, by rw [hv, h0]⟩
  ·exact ⟨_, _, hv⟩
 have c1 : w.cell? ⟨g, 1, none⟩ = some (.slice ao bs.length cap) := by rw [ha.cell]; rfl
 clear hown ha hne
 go_enter Tryz.func32, Tryz.ntmps32
 go_wp2
 go_ret
 exact ⟨rfl, rfl⟩

set_option maxHeartbeats 2000000 in
set_option maxRecDepth 100000 in
theorem write_any (B g m : Nat) (bs : List UInt8) (s : ByteArray) (w : World) (h : Raw B w g m bs) (hlen : bs.length + s.size ≤ 140737488355328) (hBw : B ≤ w.heap.size) :
  Calls Tryz.prog 99 #[.pointer (some ⟨g, 0, none⟩), .string s] w fun e w' => e = .returned (.tuple #[.int .i64 s.size, .nilIface]) ∧ Raw B w' g m (bs ++ s.data.toList) ∧ Wr B g w w' := by
 obtain ⟨i0, hi, hz0, hz1, hz2⟩ := info_parts Tryz.info5
 have hB := h.1
 have hck := copyCheck_any B g m bs w h
 go_enter Tryz.func99, Tryz.ntmps99
 go_wp2_with fail
 refine hck.mono ?_
 rintro e w1 ⟨rfl, ⟨v, ha, hown, hne⟩, hwr, hsz⟩
 have c0 : w1.cell? ⟨g, 0, none⟩ = some (.pointer (some ⟨g, 0, none⟩)) := by rw [ha.cell]; rfl
 have c1 : w1.cell? ⟨g, 1, none⟩ = some v := by rw [ha.cell]; rfl
 go_wp2_with (at_builtin; refine Lib.wpList_append_own_string _ rfl _ _ 63 9 rfl B 5 i0 Tryz.underlying63 Tryz.underlying9 hi hz0 hz1 hz2 _ _ _ rfl hown s rfl ?c3 ?c4 ?c5 ?_)
 case c3 => unfold maxLen; omega
 case c4 => omega
 case c5 => omega
 intro v' w2 hown' hgrow _
 have hlt : g < w1.heap.size := ha.lt
 have hb2 : At 67 w2 g [.pointer (some ⟨g, 0, none⟩), v, .int .i64 (m : Int)] := by
  unfold At
  rw [hgrow.block g hlt (fun e => hne e.symm)]
  exact ha
 have d0 : w2.cell? ⟨g, 0, none⟩ = some (.pointer (some ⟨g, 0, none⟩)) := by rw [hb2.cell]; rfl
 have d1 : w2.cell? ⟨g, 1, none⟩ = some v := by rw [hb2.cell]; rfl
 have f1 : w2.frozen? ⟨g, 1, none⟩ = false := hb2.frozen 1
 have hne' := ownBlock_ne5 hown' hb2 (by decide)
 have hw2 : Wr B g w1 w2 := ⟨hgrow.os, hgrow.tape, hgrow.output, hgrow.size, fun k hk hn ht => hgrow.block k hk (by
  intro e
  obtain ⟨_, ⟨rfl, _⟩ | ⟨q, cap, cur, rfl, hq, hh, _⟩⟩ := hown
  ·simp [Value.ownBlock] at e
  ·simp only [Value.ownBlock] at e
   injection e with e
   subst e
   rcases ht with ht | ht
   ·omega
   ·exact ht _ _ hh)⟩
 have hfin : ∀ v'', v'' = v' → Raw B (w2.setCell ⟨g, 1, none⟩ v'') g m (bs ++ s.data.toList) ∧ Wr B g w (w2.setCell ⟨g, 1, none⟩ v'') := by
  rintro v'' rfl
  have hbut : But g w2 (w2.setCell ⟨g, 1, none⟩ v'') := (But.refl g w2).setCell 1 _
  refine ⟨⟨hB, .pointer (some ⟨g, 0, none⟩), v'', .inr rfl, hb2.set 1 v'', ?_, hne'⟩, (hwr.trans hw2).trans (Wr.of_but hbut)⟩
  have := owns_but hown' hbut hne'
  rw [Lib.byteCells_append, List.length_append, ← Lib.strCells_eq]
  simpa using this
 obtain ⟨ao, n', cap, rfl⟩ : ∃ ao n' cap, v' = .slice ao n' cap := by
  rcases hown'.2 with ⟨hv, _⟩ | ⟨q, cap, cur, hv, _⟩
  ·exact ⟨_, _, _, hv⟩
  ·exact ⟨_, _, _, hv⟩
 have HF : Hid (∀ v'', v'' = .slice ao n' cap → Raw B (w2.setCell ⟨g, 1, none⟩ v'') g m (bs ++ s.data.toList) ∧ Wr B g w (w2.setCell ⟨g, 1, none⟩ v'')) := hfin
 clear hfin hown hown' hgrow hb2 ha hwr hw2 hne hne'
 go_wp2
 go_ret2
 exact ⟨rfl, HF.out _ rfl⟩

theorem us_none (W : World) (q : Option Addr) : (Builtin.unsafeString_ #[108, 3] 9 #[.pointer q, .int .i64 0]).run Tryz.prog W = .ok (.string .empty) W :=
 Lib.run_unsafeString_none W _ _ _ q

set_option maxHeartbeats 2000000 in
set_option maxRecDepth 100000 in
theorem string_nil (B g : Nat) (p x : Value) (w : World) (ha : At 67 w g [p, .slice none 0 0, x]) :
  Calls Tryz.prog 33 #[.pointer (some ⟨g, 0, none⟩)] w fun e w' => e = .returned (.string ⟨#[]⟩) ∧ Below B w w' := by
 have hUS := us_none
 have c1 : w.drew.cell? ⟨g, 1, none⟩ = some (.slice none 0 0) := by rw [ha.drew.cell]; rfl
 have hSD : (Builtin.unsafeSliceData_ #[63] 108 #[.slice none 0 0]).run Tryz.prog w.drew = .ok (.pointer none) w.drew := Lib.run_unsafeSliceData_nil _ _ _ _ _
 clear ha
 go_enter Tryz.func33, Tryz.ntmps33
 go_wp2
 go_region
 all_goals (go_wp2; go_ret; exact ⟨rfl, Below.drew (Below.refl B w)⟩)

set_option maxHeartbeats 2000000 in
set_option maxRecDepth 100000 in
theorem string_room (B g k cap : Nat) (p x : Value) (w : World) (hc0 : cap ≠ 0) (ha : At 67 w g [p, .slice (some ⟨k, 0, none⟩) 0 cap, x]) :
  Calls Tryz.prog 33 #[.pointer (some ⟨g, 0, none⟩)] w fun e w' => e = .returned (.string ⟨#[]⟩) ∧ Below B w w' := by
 have hUS := us_none
 have c1 : w.drew.cell? ⟨g, 1, none⟩ = some (.slice (some ⟨k, 0, none⟩) 0 cap) := by rw [ha.drew.cell]; rfl
 have hSD : (Builtin.unsafeSliceData_ #[63] 108 #[.slice (some ⟨k, 0, none⟩) 0 cap]).run Tryz.prog w.drew = .ok (.pointer (some ⟨k, 0, none⟩)) w.drew := Lib.run_unsafeSliceData_row _ _ _ _ _ _ hc0
 clear ha hc0
 go_enter Tryz.func33, Tryz.ntmps33
 go_wp2
 go_region
 all_goals (go_wp2; go_ret; exact ⟨rfl, Below.drew (Below.refl B w)⟩)

set_option maxHeartbeats 2000000 in
set_option maxRecDepth 100000 in
theorem string_noroom (B g k : Nat) (p x : Value) (cur : Array Value) (w : World) (hBw : B ≤ w.heap.size) (ha : At 67 w g [p, .slice (some ⟨k, 0, none⟩) 0 0, x]) (hg : w.heap[k]? = some (.cells cur 5 (0, 0))) :
  Calls Tryz.prog 33 #[.pointer (some ⟨g, 0, none⟩)] w fun e w' => e = .returned (.string ⟨#[]⟩) ∧ Below B w w' := by
 have hUS := us_none
 have hlt : g < w.heap.size := ha.lt
 have c1 : w.drew.cell? ⟨g, 1, none⟩ = some (.slice (some ⟨k, 0, none⟩) 0 0) := by rw [ha.drew.cell]; rfl
 have hSD : (Builtin.unsafeSliceData_ #[63] 108 #[.slice (some ⟨k, 0, none⟩) 0 0]).run Tryz.prog w.drew = .ok (.pointer (some ⟨w.drew.heap.size, 0, none⟩)) (w.drew.alloc (.view ⟨k, 0, none⟩ 5)) :=
  Lib.run_unsafeSliceData_zero w.drew _ _ 5 Tryz.underlying108 ⟨k, 0, none⟩ 0 (5, cur.size) (by have hg' : w.drew.heap[k]? = some (.cells cur 5 (0, 0)) := hg; simp [World.shape?, hg'])
 have c2 : (w.drew.alloc (.view ⟨k, 0, none⟩ 5)).cell? ⟨g, 1, none⟩ = some (.slice (some ⟨k, 0, none⟩) 0 0) := by
  have : (w.drew.alloc (.view ⟨k, 0, none⟩ 5)).heap[g]? = _ := (Lib.alloc_old w.drew _ g hlt).trans ha
  rw [Lib.cell_of_heap this]; rfl
 have c3 : (w.alloc (.view ⟨k, 0, none⟩ 5)).drew.cell? ⟨g, 1, none⟩ = some (.slice (some ⟨k, 0, none⟩) 0 0) := c2
 have c0 : w.cell? ⟨g, 1, none⟩ = some (.slice (some ⟨k, 0, none⟩) 0 0) := c1
 clear ha hg hlt
 go_enter Tryz.func33, Tryz.ntmps33
 go_wp2
 go_region
 all_goals (go_wp2; go_ret; exact ⟨rfl, (Below.drew (Below.refl B w)).alloc hBw _⟩)

set_option maxHeartbeats 1000000 in
set_option maxRecDepth 100000 in
theorem string_some (B g m : Nat) (l : List UInt8) (w : World) (h : Raw B w g m l) (h0 : l ≠ []) :
  Calls Tryz.prog 33 #[.pointer (some ⟨g, 0, none⟩)] w fun e w' => e = .returned (.string ⟨l.toArray⟩) ∧ Below B w w' := by
 obtain ⟨hB, p, v, _, ha, hown, hne⟩ := h
 have hl0 : l.length ≠ 0 := by simpa using h0
 obtain ⟨k, cap, cur, rfl, hbg, hg, hnc, hcm, hcs, htake⟩ : ∃ k cap cur, v = .slice (some ⟨k, 0, none⟩) l.length cap ∧ B ≤ k ∧ w.heap[k]? = some (.cells cur 5 (0, 0)) ∧ l.length ≤ cap ∧ cap ≤ maxLen ∧ cur.size = cap * 1 ∧ cur.toList.take (l.length * 1) = Lib.byteCells l := by
  rcases hown.2 with ⟨_, hz⟩ | ⟨k, cap, cur, hv, r⟩
  ·exact absurd hz hl0
  ·exact ⟨k, cap, cur, hv, r⟩
 have c1 : w.drew.cell? ⟨g, 1, none⟩ = some (.slice (some ⟨k, 0, none⟩) l.length cap) := by rw [ha.drew.cell]; rfl
 have hSD : (Builtin.unsafeSliceData_ #[63] 108 #[.slice (some ⟨k, 0, none⟩) l.length cap]).run Tryz.prog w.drew = .ok (.pointer (some ⟨k, 0, none⟩)) w.drew :=
  Lib.run_unsafeSliceData_row _ _ _ _ _ _ (by omega)
 have hUS : (Builtin.unsafeString_ #[108, 3] 9 #[.pointer (some ⟨k, 0, none⟩), .int .i64 l.length]).run Tryz.prog w.drew = .ok (.string ⟨l.toArray⟩) (w.drew.freeze ⟨k, 0, none⟩ l.length) := by
  refine Lib.run_unsafeString_row w.drew 108 3 9 5 Tryz.underlying108 (by kernel_rfl) k cur.size (by have hg' : w.drew.heap[k]? = some (.cells cur 5 (0, 0)) := hg; simp [World.shape?, hg']) l h0 (by omega) (by unfold maxLen at hcm; omega) ?_
  intro j x hx
  exact hown.cells (g := k) rfl j (.int .u8 x.toNat) (by simp [Lib.byteCells, hx])
 clear hown ha hg htake hcs
 go_enter Tryz.func33, Tryz.ntmps33
 go_wp2
 go_region
 all_goals (go_wp2; go_ret; exact ⟨rfl, Lib.below_freeze (Below.drew (Below.refl B w)) (p := ⟨k, 0, none⟩) hbg _⟩)

theorem string_any (B g m : Nat) (l : List UInt8) (w : World) (h : Raw B w g m l) (hBw : B ≤ w.heap.size) :
  Calls Tryz.prog 33 #[.pointer (some ⟨g, 0, none⟩)] w fun e w' => e = .returned (.string ⟨l.toArray⟩) ∧ Below B w w' := by
 cases l with
 | cons x r => exact string_some B g m (x :: r) w h (by simp)
 | nil =>
  obtain ⟨hB, p, v, _, ha, hown, hne⟩ := h
  rcases hown.2 with ⟨rfl, _⟩ | ⟨k, cap, cur, rfl, hbg, hg, _, _, _, _⟩
  ·exact string_nil B g p _ w ha
  ·by_cases hc0 : cap = 0
   ·subst hc0
    exact string_noroom B g k p _ cur w hBw ha hg
   ·exact string_room B g k cap p _ w hc0 ha

end Go.Proofs.YtcmahiphfpgadaaGreatDoor
