/- lex.tokenEnd: what the first byte at a place begins, and how far that goes. -/
import Derived.Test.YtinofdmdfhklpaaDoorLexSmall
import Derived.Test.YtinofdmdfhklpaaDoorEndMath
import Derived.WalkMore
namespace Go.Proofs.YtinofdmdfhklpaaDoor
open Go.RowKit
set_option linter.unusedVariables false

theorem isDigit_at (n : Nat) (w : World) (b : Bool) (hb : isDig n = b) : Calls Tryd.prog 32 #[.int .u8 (n : Int)] w fun e w' => e = .returned (.bool b) ∧ w' = w := by subst hb; exact isDigit_any n w
theorem isLetter_at (n : Nat) (w : World) (b : Bool) (hb : isLet n = b) : Calls Tryd.prog 24 #[.int .u8 (n : Int)] w fun e w' => e = .returned (.bool b) ∧ w' = w := by subst hb; exact isLetter_any n w
theorem isPoint_at (s : ByteArray) (i : Nat) (w : World) : Calls Tryd.prog 33 #[.string (s.extract i s.size)] w fun e w' => e = .returned (.bool (isPt ((bytes s).drop i))) ∧ w' = w := by
  rw [← bytes_from]; exact isPoint_any _ w
theorem isSign_at (s : ByteArray) (i j : Nat) (w : World) : Calls Tryd.prog 23 #[.string (s.extract i j)] w fun e w' => e = .returned (.bool (isSg (((bytes s).drop i).take (j - i)))) ∧ w' = w := by
  rw [← bytes_extract]; exact isSign_any _ w

theorem alN_yes (s : ByteArray) (j : Nat) (h : j < s.size) (hc : (isLet s[j].toNat || isDig s[j].toNat) = true) : alN ((bytes s).drop j) = alN ((bytes s).drop (j + 1)) + 1 := by
  rw [drop_at s j h]; simp only [alN, hc, if_true]
theorem alN_no (s : ByteArray) (j : Nat) (h : j < s.size) (hc : (isLet s[j].toNat || isDig s[j].toNat) = false) : alN ((bytes s).drop j) = 0 := by
  rw [drop_at s j h]; simp only [alN, hc]; rfl
theorem alN_end (s : ByteArray) (j : Nat) (h : ¬ j < s.size) : alN ((bytes s).drop j) = 0 := by
  rw [drop_end s j h]; rfl

set_option maxRecDepth 100000 in
set_option maxHeartbeats 800000 in
theorem tokenEnd_word (s : ByteArray) (k : Nat) (w : World) (hk : k < s.size) (hs : s.size ≤ 1099511627776) (h1 : isLet s[k].toNat = true) :
    Calls Tryd.prog 19 #[.string s, .int .i64 (k : Int)] w fun e w' => e = .returned (.tuple #[.int .i64 1, .int .i64 ((k + (alN ((bytes s).drop (k + 1)) + 1) : Nat) : Int)]) ∧ w' = w := by
  obtain ⟨T, hT⟩ : ∃ T, Hid (T = k + (alN ((bytes s).drop (k + 1)) + 1)) := ⟨_, (rfl : k + (alN ((bytes s).drop (k + 1)) + 1) = _)⟩
  have hkind : Hid (kindN s[k].toNat = 1) := by simp [Hid, kindN, h1]
  rw [← hT.out]
  go_enter Tryd.func19, Tryd.ntmps19
  go_wp2_with fail
  go_step3
  go_wp2_with fail
  refine (kindOf_any s[k].toNat _).mono ?_
  rintro e w1 ⟨rfl, rfl⟩
  rw [hkind.out]
  clear h1
  go_wp2
  go_step3
  go_wp2
  go_loopw [6, 7] (fun K j wr => ∃ i : Nat, K = .int .i64 1 ∧ j = .int .i64 (i : Int) ∧ k + 1 ≤ i ∧ i ≤ s.size ∧ Hid (i + alN ((bytes s).drop i) = T) ∧ wr = w1) (fun _ j _ => s.size - (intOf j).toNat)
  case atStart => exact ⟨k + 1, rfl, by go_num, by omega, by omega, by show _ = _; rw [hT.out]; omega, rfl⟩
  case round =>
    obtain ⟨i, rfl, rfl, hi1, hi2, hi3, rfl⟩ := hrel
    by_cases hc : i < s.size
    · cases a1 : isLet s[i].toNat
      · cases a2 : isDig s[i].toNat
        · have hN := alN_no s i hc (by rw [a1, a2]; rfl)
          go_wp2_with (first | (go_at_call 24; refine (isLetter_at _ _ false a1).mono ?_; rintro e w2 ⟨rfl, rfl⟩) | (go_at_call 32; refine (isDigit_at _ _ false a2).mono ?_; rintro e w2 ⟨rfl, rfl⟩))
          rw [Exit.noGoto_ret]
          go_ret2
          exact ⟨by rw [← hi3.out, hN]; rfl, rfl⟩
        · have hN := alN_yes s i hc (by rw [a1, a2]; rfl)
          have hi3' : Hid (i + 1 + alN ((bytes s).drop (i + 1)) = T) := by have := hi3.out; show _ = _; omega
          clear hi3 hN
          go_wp2_with (first | (go_at_call 24; refine (isLetter_at _ _ false a1).mono ?_; rintro e w2 ⟨rfl, rfl⟩) | (go_at_call 32; refine (isDigit_at _ _ true a2).mono ?_; rintro e w2 ⟨rfl, rfl⟩))
          go_roundw
          case rel => exact ⟨i + 1, rfl, by go_num, by omega, by omega, hi3', trivial⟩
          case measure => simp [intOf]; omega
      · have hN := alN_yes s i hc (by rw [a1]; rfl)
        have hi3' : Hid (i + 1 + alN ((bytes s).drop (i + 1)) = T) := by have := hi3.out; show _ = _; omega
        clear hi3 hN
        go_wp2_with (first | (go_at_call 24; refine (isLetter_at _ _ true a1).mono ?_; rintro e w2 ⟨rfl, rfl⟩))
        go_roundw
        case rel => exact ⟨i + 1, rfl, by go_num, by omega, by omega, hi3', trivial⟩
        case measure => simp [intOf]; omega
    · have hN := alN_end s i hc
      go_wp2
      rw [Exit.noGoto_ret]
      go_ret2
      exact ⟨by rw [← hi3.out, hN]; rfl, rfl⟩

theorem dgN_yes (s : ByteArray) (j : Nat) (h : j < s.size) (hc : isDig s[j].toNat = true) : dgN ((bytes s).drop j) = dgN ((bytes s).drop (j + 1)) + 1 := by
  rw [drop_at s j h]; simp only [dgN, hc, if_true]
theorem dgN_no (s : ByteArray) (j : Nat) (h : j < s.size) (hc : isDig s[j].toNat = false) : dgN ((bytes s).drop j) = 0 := by
  rw [drop_at s j h]; simp only [dgN, hc]; rfl
theorem dgN_end (s : ByteArray) (j : Nat) (h : ¬ j < s.size) : dgN ((bytes s).drop j) = 0 := by
  rw [drop_end s j h]; rfl
theorem nmN_pt (s : ByteArray) (j : Nat) (h : j < s.size) (hp : isPt ((bytes s).drop j) = true) : nmN ((bytes s).drop j) = (3, dgN ((bytes s).drop (j + 1)) + 1) := by
  rw [drop_at s j h] at hp ⊢; simp only [nmN, hp, if_true]
theorem nmN_yes (s : ByteArray) (j : Nat) (h : j < s.size) (hp : isPt ((bytes s).drop j) = false) (hc : isDig s[j].toNat = true) : nmN ((bytes s).drop j) = ((nmN ((bytes s).drop (j + 1))).1, (nmN ((bytes s).drop (j + 1))).2 + 1) := by
  rw [drop_at s j h] at hp ⊢; simp only [nmN, hp, hc, if_true]; rfl
theorem nmN_no (s : ByteArray) (j : Nat) (h : j < s.size) (hp : isPt ((bytes s).drop j) = false) (hc : isDig s[j].toNat = false) : nmN ((bytes s).drop j) = (2, 0) := by
  rw [drop_at s j h] at hp ⊢; simp only [nmN, hp, hc]; rfl
theorem nmN_end (s : ByteArray) (j : Nat) (h : ¬ j < s.size) : nmN ((bytes s).drop j) = (2, 0) := by
  rw [drop_end s j h]; rfl

/-- Where a number's scan stands. -/
def NumAt (s : ByteArray) (P T K i : Nat) : Prop :=
  (K = 2 ∧ (nmN ((bytes s).drop i)).1 = P ∧ i + (nmN ((bytes s).drop i)).2 = T) ∨ (K = 3 ∧ P = 3 ∧ i + dgN ((bytes s).drop i) = T)

set_option maxRecDepth 100000 in
set_option maxHeartbeats 800000 in
theorem tokenEnd_num (s : ByteArray) (k : Nat) (w : World) (hk : k < s.size) (hs : s.size ≤ 1099511627776) (h0 : isLet s[k].toNat = false) (h1 : isDig s[k].toNat = true) :
    Calls Tryd.prog 19 #[.string s, .int .i64 (k : Int)] w fun e w' => e = .returned (.tuple #[.int .i64 ((nmN ((bytes s).drop (k + 1))).1 : Nat), .int .i64 ((k + ((nmN ((bytes s).drop (k + 1))).2 + 1) : Nat) : Int)]) ∧ w' = w := by
  obtain ⟨T, hT⟩ : ∃ T, Hid (T = k + ((nmN ((bytes s).drop (k + 1))).2 + 1)) := ⟨_, (rfl : k + ((nmN ((bytes s).drop (k + 1))).2 + 1) = _)⟩
  obtain ⟨P, hP⟩ : ∃ P, Hid (P = (nmN ((bytes s).drop (k + 1))).1) := ⟨_, (rfl : (nmN ((bytes s).drop (k + 1))).1 = _)⟩
  have hkind : Hid (kindN s[k].toNat = 2) := by simp [Hid, kindN, h0, h1]
  rw [← hT.out, ← hP.out]
  go_enter Tryd.func19, Tryd.ntmps19
  go_wp2_with fail
  go_step3
  go_wp2_with fail
  refine (kindOf_any s[k].toNat _).mono ?_
  rintro e w1 ⟨rfl, rfl⟩
  rw [hkind.out]
  clear h1 h0
  go_wp2
  go_step3
  go_wp2
  go_loopw [6, 7] (fun K j wr => ∃ Kn i : Nat, K = .int .i64 (Kn : Int) ∧ j = .int .i64 (i : Int) ∧ k + 1 ≤ i ∧ i ≤ s.size ∧ Hid (NumAt s P T Kn i) ∧ wr = w1) (fun _ j _ => s.size - (intOf j).toNat)
  case atStart => exact ⟨2, k + 1, rfl, by go_num, by omega, by omega, .inl ⟨rfl, hP.out.symm, by rw [hT.out]; omega⟩, rfl⟩
  case round =>
    obtain ⟨Kn, i, rfl, rfl, hi1, hi2, hi3, rfl⟩ := hrel
    by_cases hc : i < s.size
    · rcases hi3.out with ⟨rfl, hp, ht⟩ | ⟨rfl, rfl, ht⟩
      · have HP : Hid ((nmN ((bytes s).drop i)).1 = P) := hp
        have HT : Hid (i + (nmN ((bytes s).drop i)).2 = T) := ht
        clear hp ht hi3
        cases a1 : isPt ((bytes s).drop i)
        · cases a2 : isDig s[i].toNat
          · have hN : Hid (nmN ((bytes s).drop i) = (2, 0)) := nmN_no s i hc a1 a2
            have a1' : Hid (isPt ((bytes s).drop i) = false) := a1
            clear a1
            go_wp2_with (first | (go_at_call 33; refine (isPoint_at s i _).mono ?_; rw [a1'.out]; rintro e w2 ⟨rfl, rfl⟩) | (go_at_call 32; refine (isDigit_at _ _ false a2).mono ?_; rintro e w2 ⟨rfl, rfl⟩))
            rw [Exit.noGoto_ret]
            go_ret2
            have h2 := HP.out
            have h3 := HT.out
            rw [hN.out] at h2 h3
            exact ⟨by rw [← h2, ← h3]; rfl, rfl⟩
          · have hN : Hid (nmN ((bytes s).drop i) = ((nmN ((bytes s).drop (i + 1))).1, (nmN ((bytes s).drop (i + 1))).2 + 1)) := nmN_yes s i hc a1 a2
            have a1' : Hid (isPt ((bytes s).drop i) = false) := a1
            clear a1
            go_wp2_with (first | (go_at_call 33; refine (isPoint_at s i _).mono ?_; rw [a1'.out]; rintro e w2 ⟨rfl, rfl⟩) | (go_at_call 32; refine (isDigit_at _ _ true a2).mono ?_; rintro e w2 ⟨rfl, rfl⟩))
            go_roundw
            case rel =>
              have h2 := HP.out
              have h3 := HT.out
              rw [hN.out] at h2 h3
              exact ⟨2, i + 1, rfl, by go_num, by omega, by omega, .inl ⟨rfl, h2, by rw [← h3]; simp only []; omega⟩, trivial⟩
            case measure => simp [intOf]; omega
        · have hN : Hid (nmN ((bytes s).drop i) = (3, dgN ((bytes s).drop (i + 1)) + 1)) := nmN_pt s i hc a1
          have a1' : Hid (isPt ((bytes s).drop i) = true) := a1
          clear a1
          go_wp2_with (first | (go_at_call 33; refine (isPoint_at s i _).mono ?_; rw [a1'.out]; rintro e w2 ⟨rfl, rfl⟩))
          go_roundw
          case rel =>
            have h2 := HP.out
            have h3 := HT.out
            rw [hN.out] at h2 h3
            exact ⟨3, i + 1, rfl, by go_num, by omega, by omega, .inr ⟨rfl, h2.symm, by rw [← h3]; simp only []; omega⟩, trivial⟩
          case measure => simp [intOf]; omega
      · have HT : Hid (i + dgN ((bytes s).drop i) = T) := ht
        clear ht hi3
        cases a2 : isDig s[i].toNat
        · have hN : Hid (dgN ((bytes s).drop i) = 0) := dgN_no s i hc a2
          go_wp2_with (first | (go_at_call 32; refine (isDigit_at _ _ false a2).mono ?_; rintro e w2 ⟨rfl, rfl⟩))
          rw [Exit.noGoto_ret]
          go_ret2
          exact ⟨by rw [← HT.out, hN.out]; rfl, rfl⟩
        · have hN : Hid (dgN ((bytes s).drop i) = dgN ((bytes s).drop (i + 1)) + 1) := dgN_yes s i hc a2
          go_wp2_with (first | (go_at_call 32; refine (isDigit_at _ _ true a2).mono ?_; rintro e w2 ⟨rfl, rfl⟩))
          go_roundw
          case rel => exact ⟨3, i + 1, rfl, by go_num, by omega, by omega, .inr ⟨rfl, rfl, by have := HT.out; have := hN.out; omega⟩, trivial⟩
          case measure => simp [intOf]; omega
    · have hfin : Kn = P ∧ i = T := by
        rcases hi3.out with ⟨rfl, hp, ht⟩ | ⟨rfl, rfl, ht⟩
        · rw [nmN_end s i hc] at hp ht; exact ⟨hp, ht⟩
        · rw [dgN_end s i hc] at ht; exact ⟨rfl, ht⟩
      obtain ⟨rfl, rfl⟩ := hfin
      clear hi3 hP hT
      go_wp2
      rw [Exit.noGoto_ret]
      go_ret2
      exact ⟨rfl, rfl⟩

theorem sg_two (s : ByteArray) (k : Nat) (h : k + 1 < s.size) : ((bytes s).drop k).take 2 = [s[k], s[k + 1]] := by
  rw [drop_at s k (by omega), drop_at s (k + 1) h]; rfl

set_option maxRecDepth 100000 in
set_option maxHeartbeats 800000 in
theorem tokenEnd_sign (s : ByteArray) (k : Nat) (w : World) (hk : k < s.size) (hs : s.size ≤ 1099511627776) (h0 : isLet s[k].toNat = false) (h1 : isDig s[k].toNat = false) :
    Calls Tryd.prog 19 #[.string s, .int .i64 (k : Int)] w fun e w' => e = .returned (.tuple #[.int .i64 4, .int .i64 ((k + (sgN s[k] ((bytes s).drop (k + 1)) + 1) : Nat) : Int)]) ∧ w' = w := by
  obtain ⟨T, hT⟩ : ∃ T, Hid (T = k + (sgN s[k] ((bytes s).drop (k + 1)) + 1)) := ⟨_, (rfl : k + (sgN s[k] ((bytes s).drop (k + 1)) + 1) = _)⟩
  have hkind : Hid (kindN s[k].toNat = 4) := by simp [Hid, kindN, h0, h1]
  rw [← hT.out]
  go_enter Tryd.func19, Tryd.ntmps19
  go_wp2_with fail
  go_step3
  go_wp2_with fail
  refine (kindOf_any s[k].toNat _).mono ?_
  rintro e w1 ⟨rfl, rfl⟩
  rw [hkind.out]
  clear h1 h0
  go_wp2
  go_step3
  go_wp2
  go_loopw [6, 7] (fun K j wr => ∃ i : Nat, K = .int .i64 4 ∧ j = .int .i64 (i : Int) ∧ i ≤ s.size ∧ (i = k + 1 ∨ (i = k + 2 ∧ T = k + 2)) ∧ wr = w1) (fun _ j _ => s.size - (intOf j).toNat)
  case atStart => exact ⟨k + 1, rfl, by go_num, by omega, .inl rfl, rfl⟩
  case round =>
    obtain ⟨i, rfl, rfl, hi2, hi3, rfl⟩ := hrel
    by_cases hc : i < s.size
    · have hsg : Hid (isSg (((bytes s).drop k).take (i + 1 - k)) = decide (i = k + 1 ∧ T = k + 2)) := by
        show _ = _
        rcases hi3 with rfl | ⟨rfl, h⟩
        · rw [show k + 1 + 1 - k = 2 by omega, sg_two s k hc, hT.out, drop_at s (k + 1) hc]
          simp only [sgN]
          cases isSg [s[k], s[k + 1]] <;> simp
        · rw [isSg_three _ (by rw [List.length_take, List.length_drop, bytes_length]; omega)]
          simp
      by_cases hT2 : i = k + 1 ∧ T = k + 2
      · obtain ⟨rfl, hT3⟩ := hT2
        have hsg' : Hid (isSg (((bytes s).drop k).take (k + 1 + 1 - k)) = true) := by show _ = _; rw [hsg.out]; simp [hT3]
        clear hsg
        go_wp2_with (first | (go_at_call 23; refine (isSign_at s k (k + 1 + 1) _).mono ?_; rw [hsg'.out]; rintro e w2 ⟨rfl, rfl⟩))
        go_roundw
        case rel => exact ⟨k + 2, rfl, by go_num, by omega, .inr ⟨rfl, hT3⟩, trivial⟩
        case measure => simp [intOf]; omega
      · have hsg' : Hid (isSg (((bytes s).drop k).take (i + 1 - k)) = false) := by show _ = _; rw [hsg.out]; simp [hT2]
        have hfin : Hid (i = T) := by
          show i = T
          have := hT.out
          rcases hi3 with rfl | ⟨rfl, h⟩
          · rw [drop_at s (k + 1) hc] at this
            simp only [sgN] at this
            split at this <;> omega
          · exact h.symm
        have hki : k ≤ i := by omega
        clear hsg
        go_wp2_with (first | (go_at_call 23; refine (isSign_at s k (i + 1) _).mono ?_; rw [hsg'.out]; rintro e w2 ⟨rfl, rfl⟩))
        rw [Exit.noGoto_ret]
        go_ret2
        exact ⟨by rw [hfin.out]; rfl, rfl⟩
    · have hfin : Hid (i = T) := by
        show i = T
        have := hT.out
        rcases hi3 with rfl | ⟨rfl, h⟩
        · rw [drop_end s (k + 1) hc] at this
          simp only [sgN] at this
          omega
        · exact h.symm
      go_wp2
      rw [Exit.noGoto_ret]
      go_ret2
      exact ⟨by rw [hfin.out]; rfl, rfl⟩

theorem tokenEnd_any (s : ByteArray) (k : Nat) (w : World) (hk : k < s.size) (hs : s.size ≤ 1099511627776) :
    Calls Tryd.prog 19 #[.string s, .int .i64 (k : Int)] w fun e w' => e = .returned (.tuple #[.int .i64 ((endOf ((bytes s).drop k)).1 : Nat), .int .i64 ((k + (endOf ((bytes s).drop k)).2 : Nat) : Int)]) ∧ w' = w := by
  have hd := drop_at s k hk
  cases a1 : isLet s[k].toNat
  · cases a2 : isDig s[k].toNat
    · have h := tokenEnd_sign s k w hk hs a1 a2
      have he : endOf ((bytes s).drop k) = (4, sgN s[k] ((bytes s).drop (k + 1)) + 1) := by rw [hd]; simp only [endOf, a1, a2]; rfl
      rw [he]; exact h
    · have h := tokenEnd_num s k w hk hs a1 a2
      have he : endOf ((bytes s).drop k) = ((nmN ((bytes s).drop (k + 1))).1, (nmN ((bytes s).drop (k + 1))).2 + 1) := by rw [hd]; simp only [endOf, a1, a2, if_true]; rfl
      rw [he]; exact h
  · have h := tokenEnd_word s k w hk hs a1
    have he : endOf ((bytes s).drop k) = (1, alN ((bytes s).drop (k + 1)) + 1) := by rw [hd]; simp only [endOf, a1, if_true]
    rw [he]; exact h

end Go.Proofs.YtinofdmdfhklpaaDoor
