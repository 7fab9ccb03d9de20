/- Joined texts of the proof. -/
import Derived.Test.YtcmahiphfpgadaaGreatDoorJ6
import Derived.WalkMore
import Derived.Shelf.Strings.Builder1
import Derived.Shelf.Small.Wraps
import Derived.Shelf.Strconv.Itoa0
import Derived.Shelf.Strconv.Itoa1
import Derived.Shelf.LaysM
import Derived.Shelf.Strconv.Itoa2
import Derived.Shelf.Strconv.Itoa3
import Derived.Shelf.Strconv.Itoa4
import Derived.Shelf.Strconv.Clone
import Derived.Shelf.Strings.Prefix
import Derived.Test.YtcmahiphfpgadaaGreatDoorProg

/- lex.tokenEnd: what the first byte at a place begins, and how far that goes. -/
namespace Go.Proofs.YtcmahiphfpgadaaGreatDoor
open Go.RowKit
set_option linter.unusedVariables false

theorem isDigit_at (n : Nat) (w : World) (b : Bool) (hb : isDig n = b) : Calls Tryz.prog 121 #[.int .u8 (n : Int)] w fun e w' => e = .returned (.bool b) ∧ w' = w := by subst hb; exact isDigit_any n w
theorem isLetter_at (n : Nat) (w : World) (b : Bool) (hb : isLet n = b) : Calls Tryz.prog 120 #[.int .u8 (n : Int)] w fun e w' => e = .returned (.bool b) ∧ w' = w := by subst hb; exact isLetter_any n w
theorem isPoint_at (s : ByteArray) (i : Nat) (w : World) : Calls Tryz.prog 122 #[.string (s.extract i s.size)] w fun e w' => e = .returned (.bool (isPt ((bytes s).drop i))) ∧ w' = w := by
  rw [← bytes_from]; exact isPoint_any _ w
theorem isSign_at (s : ByteArray) (i j : Nat) (w : World) : Calls Tryz.prog 123 #[.string (s.extract i j)] w fun e w' => e = .returned (.bool (isSg (((bytes s).drop i).take (j - i)))) ∧ w' = w := by
  rw [← bytes_extract]; exact isSign_any _ w

theorem alN_yes (s : ByteArray) (j : Nat) (h : j < s.size) (hc : (isLet s[j].toNat || isDig s[j].toNat) = true) : alN ((bytes s).drop j) = alN ((bytes s).drop (j + 1)) + 1 := by
  rw [drop_at s j h]; simp only [alN, hc, if_true]
theorem alN_no (s : ByteArray) (j : Nat) (h : j < s.size) (hc : (isLet s[j].toNat || isDig s[j].toNat) = false) : alN ((bytes s).drop j) = 0 := by
  rw [drop_at s j h]; simp only [alN, hc]; rfl
theorem alN_end (s : ByteArray) (j : Nat) (h : ¬ j < s.size) : alN ((bytes s).drop j) = 0 := by
  rw [drop_end s j h]; rfl

set_option maxRecDepth 100000 in
set_option maxHeartbeats 800000 in
theorem tokenEnd_word (s : ByteArray) (k : Nat) (w : World) (hk : k < s.size) (hs : s.size ≤ 1099511627776) (h1 : isLet s[k].toNat = true) :
    Calls Tryz.prog 96 #[.string s, .int .i64 (k : Int)] w fun e w' => e = .returned (.tuple #[.int .i64 1, .int .i64 ((k + (alN ((bytes s).drop (k + 1)) + 1) : Nat) : Int)]) ∧ w' = w := by
  obtain ⟨T, hT⟩ : ∃ T, Hid (T = k + (alN ((bytes s).drop (k + 1)) + 1)) := ⟨_, (rfl : k + (alN ((bytes s).drop (k + 1)) + 1) = _)⟩
  have hkind : Hid (kindN s[k].toNat = 1) := by simp [Hid, kindN, h1]
  rw [← hT.out]
  go_enter Tryz.func96, Tryz.ntmps96
  go_wp2_with fail
  go_step3
  go_wp2_with fail
  refine (kindOf_any s[k].toNat _).mono ?_
  rintro e w1 ⟨rfl, rfl⟩
  rw [hkind.out]
  clear h1
  go_wp2
  go_step3
  go_wp2
  go_loopw [6, 7] (fun K j wr => ∃ i : Nat, K = .int .i64 1 ∧ j = .int .i64 (i : Int) ∧ k + 1 ≤ i ∧ i ≤ s.size ∧ Hid (i + alN ((bytes s).drop i) = T) ∧ wr = w1) (fun _ j _ => s.size - (intOf j).toNat)
  case atStart => exact ⟨k + 1, rfl, by go_num, by omega, by omega, by show _ = _; rw [hT.out]; omega, rfl⟩
  case round =>
    obtain ⟨i, rfl, rfl, hi1, hi2, hi3, rfl⟩ := hrel
    by_cases hc : i < s.size
    · cases a1 : isLet s[i].toNat
      · cases a2 : isDig s[i].toNat
        · have hN := alN_no s i hc (by rw [a1, a2]; rfl)
          go_wp2_with (first | (go_at_call 120; refine (isLetter_at _ _ false a1).mono ?_; rintro e w2 ⟨rfl, rfl⟩) | (go_at_call 121; refine (isDigit_at _ _ false a2).mono ?_; rintro e w2 ⟨rfl, rfl⟩))
          rw [Exit.noGoto_ret]
          go_ret2
          exact ⟨by rw [← hi3.out, hN]; rfl, rfl⟩
        · have hN := alN_yes s i hc (by rw [a1, a2]; rfl)
          have hi3' : Hid (i + 1 + alN ((bytes s).drop (i + 1)) = T) := by have := hi3.out; show _ = _; omega
          clear hi3 hN
          go_wp2_with (first | (go_at_call 120; refine (isLetter_at _ _ false a1).mono ?_; rintro e w2 ⟨rfl, rfl⟩) | (go_at_call 121; refine (isDigit_at _ _ true a2).mono ?_; rintro e w2 ⟨rfl, rfl⟩))
          go_roundw
          case rel => exact ⟨i + 1, rfl, by go_num, by omega, by omega, hi3', trivial⟩
          case measure => simp [intOf]; omega
      · have hN := alN_yes s i hc (by rw [a1]; rfl)
        have hi3' : Hid (i + 1 + alN ((bytes s).drop (i + 1)) = T) := by have := hi3.out; show _ = _; omega
        clear hi3 hN
        go_wp2_with (first | (go_at_call 120; refine (isLetter_at _ _ true a1).mono ?_; rintro e w2 ⟨rfl, rfl⟩))
        go_roundw
        case rel => exact ⟨i + 1, rfl, by go_num, by omega, by omega, hi3', trivial⟩
        case measure => simp [intOf]; omega
    · have hN := alN_end s i hc
      go_wp2
      rw [Exit.noGoto_ret]
      go_ret2
      exact ⟨by rw [← hi3.out, hN]; rfl, rfl⟩

theorem dgN_yes (s : ByteArray) (j : Nat) (h : j < s.size) (hc : isDig s[j].toNat = true) : dgN ((bytes s).drop j) = dgN ((bytes s).drop (j + 1)) + 1 := by
  rw [drop_at s j h]; simp only [dgN, hc, if_true]
theorem dgN_no (s : ByteArray) (j : Nat) (h : j < s.size) (hc : isDig s[j].toNat = false) : dgN ((bytes s).drop j) = 0 := by
  rw [drop_at s j h]; simp only [dgN, hc]; rfl
theorem dgN_end (s : ByteArray) (j : Nat) (h : ¬ j < s.size) : dgN ((bytes s).drop j) = 0 := by
  rw [drop_end s j h]; rfl
theorem nmN_pt (s : ByteArray) (j : Nat) (h : j < s.size) (hp : isPt ((bytes s).drop j) = true) : nmN ((bytes s).drop j) = (3, dgN ((bytes s).drop (j + 1)) + 1) := by
  rw [drop_at s j h] at hp ⊢; simp only [nmN, hp, if_true]
theorem nmN_yes (s : ByteArray) (j : Nat) (h : j < s.size) (hp : isPt ((bytes s).drop j) = false) (hc : isDig s[j].toNat = true) : nmN ((bytes s).drop j) = ((nmN ((bytes s).drop (j + 1))).1, (nmN ((bytes s).drop (j + 1))).2 + 1) := by
  rw [drop_at s j h] at hp ⊢; simp only [nmN, hp, hc, if_true]; rfl
theorem nmN_no (s : ByteArray) (j : Nat) (h : j < s.size) (hp : isPt ((bytes s).drop j) = false) (hc : isDig s[j].toNat = false) : nmN ((bytes s).drop j) = (2, 0) := by
  rw [drop_at s j h] at hp ⊢; simp only [nmN, hp, hc]; rfl
theorem nmN_end (s : ByteArray) (j : Nat) (h : ¬ j < s.size) : nmN ((bytes s).drop j) = (2, 0) := by
  rw [drop_end s j h]; rfl

/-- Where a number's scan stands. -/
def NumAt (s : ByteArray) (P T K i : Nat) : Prop :=
  (K = 2 ∧ (nmN ((bytes s).drop i)).1 = P ∧ i + (nmN ((bytes s).drop i)).2 = T) ∨ (K = 3 ∧ P = 3 ∧ i + dgN ((bytes s).drop i) = T)

set_option maxRecDepth 100000 in
set_option maxHeartbeats 800000 in
theorem tokenEnd_num (s : ByteArray) (k : Nat) (w : World) (hk : k < s.size) (hs : s.size ≤ 1099511627776) (h0 : isLet s[k].toNat = false) (h1 : isDig s[k].toNat = true) :
    Calls Tryz.prog 96 #[.string s, .int .i64 (k : Int)] w fun e w' => e = .returned (.tuple #[.int .i64 ((nmN ((bytes s).drop (k + 1))).1 : Nat), .int .i64 ((k + ((nmN ((bytes s).drop (k + 1))).2 + 1) : Nat) : Int)]) ∧ w' = w := by
  obtain ⟨T, hT⟩ : ∃ T, Hid (T = k + ((nmN ((bytes s).drop (k + 1))).2 + 1)) := ⟨_, (rfl : k + ((nmN ((bytes s).drop (k + 1))).2 + 1) = _)⟩
  obtain ⟨P, hP⟩ : ∃ P, Hid (P = (nmN ((bytes s).drop (k + 1))).1) := ⟨_, (rfl : (nmN ((bytes s).drop (k + 1))).1 = _)⟩
  have hkind : Hid (kindN s[k].toNat = 2) := by simp [Hid, kindN, h0, h1]
  rw [← hT.out, ← hP.out]
  go_enter Tryz.func96, Tryz.ntmps96
  go_wp2_with fail
  go_step3
  go_wp2_with fail
  refine (kindOf_any s[k].toNat _).mono ?_
  rintro e w1 ⟨rfl, rfl⟩
  rw [hkind.out]
  clear h1 h0
  go_wp2
  go_step3
  go_wp2
  go_loopw [6, 7] (fun K j wr => ∃ Kn i : Nat, K = .int .i64 (Kn : Int) ∧ j = .int .i64 (i : Int) ∧ k + 1 ≤ i ∧ i ≤ s.size ∧ Hid (NumAt s P T Kn i) ∧ wr = w1) (fun _ j _ => s.size - (intOf j).toNat)
  case atStart => exact ⟨2, k + 1, rfl, by go_num, by omega, by omega, .inl ⟨rfl, hP.out.symm, by rw [hT.out]; omega⟩, rfl⟩
  case round =>
    obtain ⟨Kn, i, rfl, rfl, hi1, hi2, hi3, rfl⟩ := hrel
    by_cases hc : i < s.size
    · rcases hi3.out with ⟨rfl, hp, ht⟩ | ⟨rfl, rfl, ht⟩
      · have HP : Hid ((nmN ((bytes s).drop i)).1 = P) := hp
        have HT : Hid (i + (nmN ((bytes s).drop i)).2 = T) := ht
        clear hp ht hi3
        cases a1 : isPt ((bytes s).drop i)
        · cases a2 : isDig s[i].toNat
          · have hN : Hid (nmN ((bytes s).drop i) = (2, 0)) := nmN_no s i hc a1 a2
            have a1' : Hid (isPt ((bytes s).drop i) = false) := a1
            clear a1
            go_wp2_with (first | (go_at_call 122; refine (isPoint_at s i _).mono ?_; rw [a1'.out]; rintro e w2 ⟨rfl, rfl⟩) | (go_at_call 121; refine (isDigit_at _ _ false a2).mono ?_; rintro e w2 ⟨rfl, rfl⟩))
            rw [Exit.noGoto_ret]
            go_ret2
            have h2 := HP.out
            have h3 := HT.out
            rw [hN.out] at h2 h3
            exact ⟨by rw [← h2, ← h3]; rfl, rfl⟩
          · have hN : Hid (nmN ((bytes s).drop i) = ((nmN ((bytes s).drop (i + 1))).1, (nmN ((bytes s).drop (i + 1))).2 + 1)) := nmN_yes s i hc a1 a2
            have a1' : Hid (isPt ((bytes s).drop i) = false) := a1
            clear a1
            go_wp2_with (first | (go_at_call 122; refine (isPoint_at s i _).mono ?_; rw [a1'.out]; rintro e w2 ⟨rfl, rfl⟩) | (go_at_call 121; refine (isDigit_at _ _ true a2).mono ?_; rintro e w2 ⟨rfl, rfl⟩))
            go_roundw
            case rel =>
              have h2 := HP.out
              have h3 := HT.out
              rw [hN.out] at h2 h3
              exact ⟨2, i + 1, rfl, by go_num, by omega, by omega, .inl ⟨rfl, h2, by rw [← h3]; simp only []; omega⟩, trivial⟩
            case measure => simp [intOf]; omega
        · have hN : Hid (nmN ((bytes s).drop i) = (3, dgN ((bytes s).drop (i + 1)) + 1)) := nmN_pt s i hc a1
          have a1' : Hid (isPt ((bytes s).drop i) = true) := a1
          clear a1
          go_wp2_with (first | (go_at_call 122; refine (isPoint_at s i _).mono ?_; rw [a1'.out]; rintro e w2 ⟨rfl, rfl⟩))
          go_roundw
          case rel =>
            have h2 := HP.out
            have h3 := HT.out
            rw [hN.out] at h2 h3
            exact ⟨3, i + 1, rfl, by go_num, by omega, by omega, .inr ⟨rfl, h2.symm, by rw [← h3]; simp only []; omega⟩, trivial⟩
          case measure => simp [intOf]; omega
      · have HT : Hid (i + dgN ((bytes s).drop i) = T) := ht
        clear ht hi3
        cases a2 : isDig s[i].toNat
        · have hN : Hid (dgN ((bytes s).drop i) = 0) := dgN_no s i hc a2
          go_wp2_with (first | (go_at_call 121; refine (isDigit_at _ _ false a2).mono ?_; rintro e w2 ⟨rfl, rfl⟩))
          rw [Exit.noGoto_ret]
          go_ret2
          exact ⟨by rw [← HT.out, hN.out]; rfl, rfl⟩
        · have hN : Hid (dgN ((bytes s).drop i) = dgN ((bytes s).drop (i + 1)) + 1) := dgN_yes s i hc a2
          go_wp2_with (first | (go_at_call 121; refine (isDigit_at _ _ true a2).mono ?_; rintro e w2 ⟨rfl, rfl⟩))
          go_roundw
          case rel => exact ⟨3, i + 1, rfl, by go_num, by omega, by omega, .inr ⟨rfl, rfl, by have := HT.out; have := hN.out; omega⟩, trivial⟩
          case measure => simp [intOf]; omega
    · have hfin : Kn = P ∧ i = T := by
        rcases hi3.out with ⟨rfl, hp, ht⟩ | ⟨rfl, rfl, ht⟩
        · rw [nmN_end s i hc] at hp ht; exact ⟨hp, ht⟩
        · rw [dgN_end s i hc] at ht; exact ⟨rfl, ht⟩
      obtain ⟨rfl, rfl⟩ := hfin
      clear hi3 hP hT
      go_wp2
      rw [Exit.noGoto_ret]
      go_ret2
      exact ⟨rfl, rfl⟩

theorem sg_two (s : ByteArray) (k : Nat) (h : k + 1 < s.size) : ((bytes s).drop k).take 2 = [s[k], s[k + 1]] := by
  rw [drop_at s k (by omega), drop_at s (k + 1) h]; rfl

set_option maxRecDepth 100000 in
set_option maxHeartbeats 800000 in
theorem tokenEnd_sign (s : ByteArray) (k : Nat) (w : World) (hk : k < s.size) (hs : s.size ≤ 1099511627776) (h0 : isLet s[k].toNat = false) (h1 : isDig s[k].toNat = false) :
    Calls Tryz.prog 96 #[.string s, .int .i64 (k : Int)] w fun e w' => e = .returned (.tuple #[.int .i64 4, .int .i64 ((k + (sgN s[k] ((bytes s).drop (k + 1)) + 1) : Nat) : Int)]) ∧ w' = w := by
  obtain ⟨T, hT⟩ : ∃ T, Hid (T = k + (sgN s[k] ((bytes s).drop (k + 1)) + 1)) := ⟨_, (rfl : k + (sgN s[k] ((bytes s).drop (k + 1)) + 1) = _)⟩
  have hkind : Hid (kindN s[k].toNat = 4) := by simp [Hid, kindN, h0, h1]
  rw [← hT.out]
  go_enter Tryz.func96, Tryz.ntmps96
  go_wp2_with fail
  go_step3
  go_wp2_with fail
  refine (kindOf_any s[k].toNat _).mono ?_
  rintro e w1 ⟨rfl, rfl⟩
  rw [hkind.out]
  clear h1 h0
  go_wp2
  go_step3
  go_wp2
  go_loopw [6, 7] (fun K j wr => ∃ i : Nat, K = .int .i64 4 ∧ j = .int .i64 (i : Int) ∧ i ≤ s.size ∧ (i = k + 1 ∨ (i = k + 2 ∧ T = k + 2)) ∧ wr = w1) (fun _ j _ => s.size - (intOf j).toNat)
  case atStart => exact ⟨k + 1, rfl, by go_num, by omega, .inl rfl, rfl⟩
  case round =>
    obtain ⟨i, rfl, rfl, hi2, hi3, rfl⟩ := hrel
    by_cases hc : i < s.size
    · have hsg : Hid (isSg (((bytes s).drop k).take (i + 1 - k)) = decide (i = k + 1 ∧ T = k + 2)) := by
        show _ = _
        rcases hi3 with rfl | ⟨rfl, h⟩
        · rw [show k + 1 + 1 - k = 2 by omega, sg_two s k hc, hT.out, drop_at s (k + 1) hc]
          simp only [sgN]
          cases isSg [s[k], s[k + 1]] <;> simp
        · rw [isSg_three _ (by rw [List.length_take, List.length_drop, bytes_length]; omega)]
          simp
      by_cases hT2 : i = k + 1 ∧ T = k + 2
      · obtain ⟨rfl, hT3⟩ := hT2
        have hsg' : Hid (isSg (((bytes s).drop k).take (k + 1 + 1 - k)) = true) := by show _ = _; rw [hsg.out]; simp [hT3]
        clear hsg
        go_wp2_with (first | (go_at_call 123; refine (isSign_at s k (k + 1 + 1) _).mono ?_; rw [hsg'.out]; rintro e w2 ⟨rfl, rfl⟩))
        go_roundw
        case rel => exact ⟨k + 2, rfl, by go_num, by omega, .inr ⟨rfl, hT3⟩, trivial⟩
        case measure => simp [intOf]; omega
      · have hsg' : Hid (isSg (((bytes s).drop k).take (i + 1 - k)) = false) := by show _ = _; rw [hsg.out]; simp [hT2]
        have hfin : Hid (i = T) := by
          show i = T
          have := hT.out
          rcases hi3 with rfl | ⟨rfl, h⟩
          · rw [drop_at s (k + 1) hc] at this
            simp only [sgN] at this
            split at this <;> omega
          · exact h.symm
        have hki : k ≤ i := by omega
        clear hsg
        go_wp2_with (first | (go_at_call 123; refine (isSign_at s k (i + 1) _).mono ?_; rw [hsg'.out]; rintro e w2 ⟨rfl, rfl⟩))
        rw [Exit.noGoto_ret]
        go_ret2
        exact ⟨by rw [hfin.out]; rfl, rfl⟩
    · have hfin : Hid (i = T) := by
        show i = T
        have := hT.out
        rcases hi3 with rfl | ⟨rfl, h⟩
        · rw [drop_end s (k + 1) hc] at this
          simp only [sgN] at this
          omega
        · exact h.symm
      go_wp2
      rw [Exit.noGoto_ret]
      go_ret2
      exact ⟨by rw [hfin.out]; rfl, rfl⟩

theorem tokenEnd_any (s : ByteArray) (k : Nat) (w : World) (hk : k < s.size) (hs : s.size ≤ 1099511627776) :
    Calls Tryz.prog 96 #[.string s, .int .i64 (k : Int)] w fun e w' => e = .returned (.tuple #[.int .i64 ((endOf ((bytes s).drop k)).1 : Nat), .int .i64 ((k + (endOf ((bytes s).drop k)).2 : Nat) : Int)]) ∧ w' = w := by
  have hd := drop_at s k hk
  cases a1 : isLet s[k].toNat
  · cases a2 : isDig s[k].toNat
    · have h := tokenEnd_sign s k w hk hs a1 a2
      have he : endOf ((bytes s).drop k) = (4, sgN s[k] ((bytes s).drop (k + 1)) + 1) := by rw [hd]; simp only [endOf, a1, a2]; rfl
      rw [he]; exact h
    · have h := tokenEnd_num s k w hk hs a1 a2
      have he : endOf ((bytes s).drop k) = ((nmN ((bytes s).drop (k + 1))).1, (nmN ((bytes s).drop (k + 1))).2 + 1) := by rw [hd]; simp only [endOf, a1, a2, if_true]; rfl
      rw [he]; exact h
  · have h := tokenEnd_word s k w hk hs a1
    have he : endOf ((bytes s).drop k) = (1, alN ((bytes s).drop (k + 1)) + 1) := by rw [hd]; simp only [endOf, a1, if_true]
    rw [he]; exact h

end Go.Proofs.YtcmahiphfpgadaaGreatDoor

/- Names and words, as plain functions on lists of bytes. -/
namespace Go.Proofs.YtcmahiphfpgadaaGreatDoor

/-- A name. -/
def isNm (l : List UInt8) : Bool := decide (1 ≤ l.length) && decide (l.length ≤ 24) && !isWd l && decide (endOf l = (1, l.length))

/-- Letters and digits alone. -/
def allAl (l : List UInt8) : Bool := l.all (fun c => isLet c.toNat || isDig c.toNat)

theorem alN_le (l : List UInt8) : alN l ≤ l.length := by
  induction l with
  | nil => simp [alN]
  | cons c r ih => simp only [alN]; split <;> simp; omega

theorem alN_all (l : List UInt8) : alN l = l.length ↔ allAl l = true := by
  induction l with
  | nil => simp [alN, allAl]
  | cons c r ih =>
    simp only [alN, allAl, List.all_cons, List.length_cons] at ih ⊢
    cases isLet c.toNat || isDig c.toNat
    · simp
    · simp only [if_true, Nat.add_right_cancel_iff, Bool.true_and]; exact ih

theorem end_word (c : UInt8) (r : List UInt8) : endOf (c :: r) = (1, (c :: r).length) ↔ isLet c.toNat = true ∧ allAl (c :: r) = true := by
  rw [← alN_all]
  simp only [endOf]
  cases h : isLet c.toNat
  · simp only [Bool.false_eq_true, if_false, false_and, iff_false]
    split
    · intro h2
      have h3 := congrArg Prod.fst h2
      simp only [] at h3
      have : ∀ l : List UInt8, (nmN l).1 = 2 ∨ (nmN l).1 = 3 := by
        intro l
        induction l with
        | nil => exact .inl rfl
        | cons d q ih => simp only [nmN]; split; exact .inr rfl; split; exact ih; exact .inl rfl
      rcases this r with h4 | h4 <;> omega
    · intro h2
      have h3 := congrArg Prod.fst h2
      simp at h3
  · simp [alN, h]

/-- What the document's Name asks, as it asks it. -/
theorem isNm_eq (c : UInt8) (r : List UInt8) : isNm (c :: r) = (decide ((c :: r).length ≤ 24) && isLet c.toNat && !isWd (c :: r) && allAl (c :: r)) := by
  rw [Bool.eq_iff_iff]
  simp only [isNm, Bool.and_eq_true, decide_eq_true_eq, end_word]
  constructor
  · rintro ⟨⟨⟨_, a⟩, b⟩, c, d⟩; exact ⟨⟨⟨a, c⟩, b⟩, d⟩
  · rintro ⟨⟨⟨a, c⟩, b⟩, d⟩; exact ⟨⟨⟨by simp, a⟩, b⟩, c, d⟩

theorem allAl_drop_yes (s : ByteArray) (j : Nat) (h : j < s.size) (hc : (isLet s[j].toNat || isDig s[j].toNat) = true) : allAl ((bytes s).drop j) = allAl ((bytes s).drop (j + 1)) := by
  rw [drop_at s j h]; simp only [allAl, List.all_cons, hc, Bool.true_and]
theorem allAl_drop_no (s : ByteArray) (j : Nat) (h : j < s.size) (hc : (isLet s[j].toNat || isDig s[j].toNat) = false) : allAl ((bytes s).drop j) = false := by
  rw [drop_at s j h]; simp only [allAl, List.all_cons, hc, Bool.false_and]

theorem not_emptyN {s : ByteArray} (h : 0 < s.size) : s.toList.isEmpty = false := by
  rw [List.isEmpty_eq_false_iff, toList_bytes]
  intro h0
  have : s.size = 0 := by rw [← bytes_length s, h0]; rfl
  omega

theorem is_emptyN {s : ByteArray} (h : s.size = 0) : s.toList.isEmpty = true := by
  rw [List.isEmpty_iff, toList_bytes]
  apply List.eq_nil_of_length_eq_zero
  rw [bytes_length]; exact h

end Go.Proofs.YtcmahiphfpgadaaGreatDoor

/- lex.Name, and the document's own Words, Word and Name. -/
namespace Go.Proofs.YtcmahiphfpgadaaGreatDoor
open Go.RowKit
set_option linter.unusedVariables false

theorem isNm_str (s : ByteArray) (hp : 0 < s.size) (hl : s.size ≤ 24) (hw : isWd (bytes s) = false) : isNm (bytes s) = decide (endOf (bytes s) = (1, s.size)) := by
  rw [isNm, bytes_length, hw]
  simp [show 1 ≤ s.size by omega, hl]

theorem isNm_not (s : ByteArray) (h : s.size = 0 ∨ 24 < s.size ∨ isWd (bytes s) = true) : isNm (bytes s) = false := by
  rw [isNm, bytes_length]
  rcases h with h | h | h
  · simp [h]
  · simp [show ¬ s.size ≤ 24 by omega]
  · simp [h]

theorem tokenEnd_zero (s : ByteArray) (w : World) (hk : 0 < s.size) (hs : s.size ≤ 1099511627776) (K E : Nat) (h : endOf (bytes s) = (K, E)) :
    Calls Tryz.prog 96 #[.string s, .int .i64 0] w fun e w' => e = .returned (.tuple #[.int .i64 (K : Nat), .int .i64 (E : Nat)]) ∧ w' = w := by
  have := tokenEnd_any s 0 w hk hs
  rw [List.drop_zero, h] at this
  simpa using this

set_option maxRecDepth 100000 in
set_option maxHeartbeats 800000 in
theorem name_any (s : ByteArray) (w : World) : Calls Tryz.prog 68 #[.string s] w fun e w' => e = .returned (.bool (isNm (bytes s))) ∧ w' = w := by
  by_cases h0 : s.size = 0
  · rw [isNm_not s (.inl h0)]
    have he := is_emptyN h0
    go_enter Tryz.func68, Tryz.ntmps68
    go_wp2
    go_ret
    exact ⟨rfl, rfl⟩
  have hp : 0 < s.size := by omega
  have he := not_emptyN hp
  by_cases h1 : 24 < s.size
  · rw [isNm_not s (.inr (.inl h1))]
    go_enter Tryz.func68, Tryz.ntmps68
    go_wp2
    go_ret
    exact ⟨rfl, rfl⟩
  cases hw : isWd (bytes s)
  · rw [isNm_str s hp (by omega) hw]
    obtain ⟨K, E, hKE⟩ : ∃ K E, endOf (bytes s) = (K, E) := ⟨_, _, rfl⟩
    rw [hKE]
    have HKE : Hid (endOf (bytes s) = (K, E)) := hKE
    have HW : Hid (isWd (bytes s) = false) := hw
    clear hKE hw
    go_enter Tryz.func68, Tryz.ntmps68
    go_wp2_with (first | (go_at_call 95; refine (word_any s _).mono ?_; rw [HW.out]; rintro e w1 ⟨rfl, rfl⟩) | (go_at_call 96; refine (tokenEnd_zero s _ hp (by omega) K E HKE.out).mono ?_; rintro e w1 ⟨rfl, rfl⟩))
    all_goals
      go_ret
      refine ⟨?_, rfl⟩
      simp
      try (rw [Bool.eq_iff_iff]; simp)
      try omega
  · rw [isNm_not s (.inr (.inr hw))]
    have HW : Hid (isWd (bytes s) = true) := hw
    clear hw
    go_enter Tryz.func68, Tryz.ntmps68
    go_wp2_with (first | (go_at_call 95; refine (word_any s _).mono ?_; rw [HW.out]; rintro e w1 ⟨rfl, rfl⟩))
    go_ret
    exact ⟨rfl, rfl⟩

/-- The cells of the words. -/
def wordCells : List Value := words.map fun x => .string ⟨x.toArray⟩

/-- Is a text among the words from a place on? -/
def wdFrom (i : Nat) (l : List UInt8) : Bool := decide (l ∈ words.drop i)

theorem wdFrom_yes (i : Nat) (l : List UInt8) (hi : i < 18) (h : words.getD i [] = l) : wdFrom i l = true := by
  simp only [wdFrom, decide_eq_true_eq]
  rw [List.drop_eq_getElem_cons (show i < words.length from hi)]
  have h2 : i < words.length := hi
  simp [List.getD, h2] at h
  rw [← h]
  exact List.mem_cons_self

theorem wdFrom_no (i : Nat) (l : List UInt8) (hi : i < 18) (h : ¬ words.getD i [] = l) : wdFrom i l = wdFrom (i + 1) l := by
  simp only [wdFrom]
  rw [List.drop_eq_getElem_cons (show i < words.length from hi)]
  have h2 : i < words.length := hi
  simp [List.getD, h2] at h
  rw [Bool.eq_iff_iff]
  simp only [decide_eq_true_eq, List.mem_cons]
  constructor
  · rintro (h3 | h3)
    · exact absurd h3.symm h
    · exact h3
  · exact .inr

theorem wordCell (w : World) (i : Nat) (hi : i < 18) : (w.alloc (.cells wordCells.toArray 9)).cell? ⟨w.heap.size, i, none⟩ = some (.string ⟨(words.getD i []).toArray⟩) := by
  have h2 : i < words.length := hi
  simp [wordCells, List.getD, h2]

theorem isNm_ref (s : ByteArray) (hp : 0 < s.size) : isNm (bytes s) = (decide (s.size ≤ 24) && isLet s[0].toNat && !isWd (bytes s) && allAl (bytes s)) := by
  have h := drop_at s 0 hp
  rw [List.drop_zero] at h
  have h2 := isNm_eq s[0] ((bytes s).drop (0 + 1))
  rw [← h, bytes_length] at h2
  exact h2

end Go.Proofs.YtcmahiphfpgadaaGreatDoor

/-
  DERIVED: THE SHELF's CONTRACTS AT THIS DUMP, IN PLAIN WORDS (tools/lay-plain.mjs out of 'YtcmahiphfpgadaaGreatDoorShelf.lean', which tools/lay-shelf.mjs wrote): THE SAME DECLARATIONS UNDER THE SAME NAMES: 'import', 'namespace', 'open', 'def', 'theorem' AND NOTHING ELSE: no command of the shelf's: FOR A HAND-IN. Each laying: the table of numbers ('.._ren') and one theorem, a field a fact of the dump's own or the kernel's comparison; each contract: ONE APPLICATION.
-/
namespace Go.Proofs
open Go.Shelf
def Tryz.lays121_ren : Go.Shelf.Ren := ⟨fun | 121 => 84 | 214 => 105 | n => n, fun | 4 => 4 | 9 => 9 | n => n, fun | n => n⟩
theorem Tryz.lays121 : Go.Proofs.Lays.n121 Tryz.prog Tryz.lays121_ren := {
  mixed := by kernel_rfl
  f121 := Tryz.func84.trans (congrArg some (by kernel_rfl))
  f214 := Tryz.func105.trans (congrArg some (by kernel_rfl))
  t4 := Tryz.underlying4
  a4 := Tryz.isAgg4
  z4 := Tryz.sizeOf4
  v4 := Tryz.zeroValue4
  t9 := Tryz.underlying9
  a9 := Tryz.isAgg9
  z9 := Tryz.sizeOf9
  v9 := Tryz.zeroValue9 }
open Go.RowKit in
/-- strconv.FormatBool: "FormatBool returns "true" or "false" according to the value of b.": IT RETURNS 'Lib.formatBool b'; the world is as it was. (LAID: no walk: one application.) -/
theorem Tryz.strconv_FormatBool (b : Bool) (w : World) :
    Calls Tryz.prog 84 #[.bool b] w fun e w' => e = .returned (.string ⟨(Lib.formatBool b).toArray⟩) ∧ w' = w := Any.strconv_FormatBool Tryz.lays121 b w
def Tryz.laysM173_ren : Go.Shelf.Ren := ⟨fun | 173 => 83 | 246 => 104 | 283 => 126 | 284 => 127 | 285 => 128 | 286 => 129 | 129 => 146 | 317 => 145 | 318 => 147 | 319 => 148 | 320 => 149 | 337 => 155 | 338 => 156 | n => n, fun | 2 => 2 | 3 => 3 | 9 => 9 | 4 => 4 | 171 => 151 | 0 => 0 | 53 => 29 | 37 => 63 | 5 => 5 | 173 => 154 | 212 => 166 | 51 => 167 | 20 => 20 | 213 => 168 | 46 => 144 | 232 => 178 | 233 => 179 | n => n, fun | 17 => 1 | 18 => 2 | 19 => 3 | n => n⟩
theorem Tryz.laysM173 : Go.Proofs.LaysM.n173 Tryz.prog Tryz.laysM173_ren := {
  mixed := by kernel_rfl
  f129 := Tryz.func146.trans (congrArg some (by kernel_rfl))
  f173 := Tryz.func83.trans (congrArg some (by kernel_rfl))
  f246 := Tryz.func104.trans (congrArg some (by kernel_rfl))
  f283 := Tryz.func126.trans (congrArg some (by kernel_rfl))
  f284 := Tryz.func127.trans (congrArg some (by kernel_rfl))
  f285 := Tryz.func128.trans (congrArg some (by kernel_rfl))
  f286 := Tryz.func129.trans (congrArg some (by kernel_rfl))
  f317 := Tryz.func145.trans (congrArg some (by kernel_rfl))
  f318 := Tryz.func147.trans (congrArg some (by kernel_rfl))
  f319 := Tryz.func148.trans (congrArg some (by kernel_rfl))
  f320 := Tryz.func149.trans (congrArg some (by kernel_rfl))
  f337 := Tryz.func155.trans (congrArg some (by kernel_rfl))
  f338 := Tryz.func156.trans (congrArg some (by kernel_rfl))
  t0 := Tryz.underlying0
  a0 := Tryz.isAgg0
  z0 := Tryz.sizeOf0
  v0 := Tryz.zeroValue0
  t2 := Tryz.underlying2
  a2 := Tryz.isAgg2
  z2 := Tryz.sizeOf2
  v2 := Tryz.zeroValue2
  t3 := Tryz.underlying3
  a3 := Tryz.isAgg3
  z3 := Tryz.sizeOf3
  v3 := Tryz.zeroValue3
  t4 := Tryz.underlying4
  a4 := Tryz.isAgg4
  z4 := Tryz.sizeOf4
  v4 := Tryz.zeroValue4
  t5 := Tryz.underlying5
  a5 := Tryz.isAgg5
  z5 := Tryz.sizeOf5
  v5 := Tryz.zeroValue5
  t9 := Tryz.underlying9
  a9 := Tryz.isAgg9
  z9 := Tryz.sizeOf9
  v9 := Tryz.zeroValue9
  t20 := Tryz.underlying20
  a20 := Tryz.isAgg20
  z20 := Tryz.sizeOf20
  v20 := Tryz.zeroValue20
  t37 := Tryz.underlying63
  a37 := Tryz.isAgg63
  z37 := Tryz.sizeOf63
  v37 := Tryz.zeroValue63
  t46 := Tryz.underlying144
  a46 := Tryz.isAgg144
  z46 := Tryz.sizeOf144
  v46 := Tryz.zeroValue144
  t51 := Tryz.underlying167
  a51 := Tryz.isAgg167
  z51 := Tryz.sizeOf167
  v51 := Tryz.zeroValue167
  t53 := Tryz.underlying29
  a53 := Tryz.isAgg29
  z53 := Tryz.sizeOf29
  v53 := Tryz.zeroValue29
  t171 := Tryz.underlying151
  a171 := Tryz.isAgg151
  z171 := Tryz.sizeOf151
  v171 := Tryz.zeroValue151
  t173 := Tryz.underlying154
  a173 := Tryz.isAgg154
  z173 := Tryz.sizeOf154
  v173 := Tryz.zeroValue154
  t212 := Tryz.underlying166
  a212 := Tryz.isAgg166
  z212 := Tryz.sizeOf166
  v212 := Tryz.zeroValue166
  t213 := Tryz.underlying168
  a213 := Tryz.isAgg168
  z213 := Tryz.sizeOf168
  t232 := Tryz.underlying178
  a232 := Tryz.isAgg178
  z232 := Tryz.sizeOf178
  v232 := Tryz.zeroValue178
  t233 := Tryz.underlying179
  a233 := Tryz.isAgg179
  z233 := Tryz.sizeOf179
  v233 := Tryz.zeroValue179
  g17 := by kernel_rfl
  g18 := by kernel_rfl
  g19 := by kernel_rfl
  i0 := by kernel_rfl
  i2 := by kernel_rfl
  i3 := by kernel_rfl
  i4 := by kernel_rfl
  i5 := by kernel_rfl
  i9 := by kernel_rfl
  i20 := by kernel_rfl
  i37 := by kernel_rfl
  i46 := by kernel_rfl
  i51 := by kernel_rfl
  i53 := by kernel_rfl
  i171 := by kernel_rfl
  i173 := by kernel_rfl
  i212 := by kernel_rfl
  i232 := by kernel_rfl
  i233 := by kernel_rfl
  m17 := by kernel_rfl
  m18 := by kernel_rfl
  m19 := by kernel_rfl }
open Go.RowKit Go.Sort Go.Lib in
/-- strconv.FormatInt: "FormatInt returns the string representation of i in the given base": AT BASE 10: i's decimal numeral, for every int64. (LAID: no walk: one application.) -/
theorem Tryz.strconv_FormatInt_10 (n : Int) (h0 : -9223372036854775808 ≤ n) (h1 : n ≤ 9223372036854775807) (w : World) (htab : Lib.TabIs Tryz.prog w "internal/strconv.uint64pow10" .u64 Lib.pow10Tab) :
    Calls Tryz.prog 83 #[.int .i64 n, .int .i64 10] w fun e w' => e = .returned (.string ⟨(Lib.itoa n).toArray⟩) ∧ ∃ k os, w' = grow (w.drewN k) os := Any.strconv_FormatInt_10 Tryz.laysM173 n h0 h1 w htab
def Tryz.laysM316_ren : Go.Shelf.Ren := ⟨fun | 316 => 91 | n => n, fun | 9 => 9 | 3 => 3 | 4 => 4 | 37 => 63 | 0 => 0 | 127 => 108 | 5 => 5 | n => n, fun | n => n⟩
theorem Tryz.laysM316 : Go.Proofs.LaysM.n316 Tryz.prog Tryz.laysM316_ren := {
  mixed := by kernel_rfl
  f316 := Tryz.func91.trans (congrArg some (by kernel_rfl))
  t0 := Tryz.underlying0
  a0 := Tryz.isAgg0
  z0 := Tryz.sizeOf0
  v0 := Tryz.zeroValue0
  t3 := Tryz.underlying3
  a3 := Tryz.isAgg3
  z3 := Tryz.sizeOf3
  v3 := Tryz.zeroValue3
  t4 := Tryz.underlying4
  a4 := Tryz.isAgg4
  z4 := Tryz.sizeOf4
  v4 := Tryz.zeroValue4
  t9 := Tryz.underlying9
  a9 := Tryz.isAgg9
  z9 := Tryz.sizeOf9
  v9 := Tryz.zeroValue9
  t37 := Tryz.underlying63
  a37 := Tryz.isAgg63
  z37 := Tryz.sizeOf63
  v37 := Tryz.zeroValue63
  t127 := Tryz.underlying108
  a127 := Tryz.isAgg108
  z127 := Tryz.sizeOf108
  v127 := Tryz.zeroValue108
  t5 := Tryz.underlying5
  a5 := Tryz.isAgg5
  z5 := Tryz.sizeOf5
  v5 := Tryz.zeroValue5
  i0 := by kernel_rfl
  i3 := by kernel_rfl
  i4 := by kernel_rfl
  i5 := by kernel_rfl
  i9 := by kernel_rfl
  i37 := by kernel_rfl
  i127 := by kernel_rfl }
open Go.RowKit in
/-- internal/stringslite.Clone (what strings.Clone calls): "Clone returns a fresh copy of s.": THE SAME BYTES. Of what was there nothing has turned (a new row is laid, and frozen, where s is not empty). (LAID: no walk: one application.) -/
theorem Tryz.stringslite_Clone (s : ByteArray) (w : World) (hlim : s.size ≤ 281474976710656) :
    Calls Tryz.prog 91 #[.string s] w fun e w' => e = .returned (.string s) ∧ Below w.heap.size w w' := Any.stringslite_Clone Tryz.laysM316 s w hlim
def Tryz.lays99_ren : Go.Shelf.Ren := ⟨fun | 99 => 87 | 206 => 111 | n => n, fun | 9 => 9 | 4 => 4 | 3 => 3 | n => n, fun | n => n⟩
theorem Tryz.lays99 : Go.Proofs.Lays.n99 Tryz.prog Tryz.lays99_ren := {
  mixed := by kernel_rfl
  f99 := Tryz.func87.trans (congrArg some (by kernel_rfl))
  f206 := Tryz.func111.trans (congrArg some (by kernel_rfl))
  t3 := Tryz.underlying3
  a3 := Tryz.isAgg3
  z3 := Tryz.sizeOf3
  v3 := Tryz.zeroValue3
  t4 := Tryz.underlying4
  a4 := Tryz.isAgg4
  z4 := Tryz.sizeOf4
  v4 := Tryz.zeroValue4
  t9 := Tryz.underlying9
  a9 := Tryz.isAgg9
  z9 := Tryz.sizeOf9
  v9 := Tryz.zeroValue9 }
open Go.RowKit Go.Lib in
/-- strings.HasPrefix: "HasPrefix reports whether the string s begins with prefix.": IT RETURNS 'Lib.hasPrefix s prefix'; the world is as it was. (LAID: no walk: one application.) -/
theorem Tryz.strings_HasPrefix (s p : ByteArray) (w : World) :
    Calls Tryz.prog 87 #[.string s, .string p] w fun e w' => e = .returned (.bool (Lib.hasPrefix s.data.toList p.data.toList)) ∧ w' = w := Any.strings_HasPrefix Tryz.lays99 s p w
end Go.Proofs
