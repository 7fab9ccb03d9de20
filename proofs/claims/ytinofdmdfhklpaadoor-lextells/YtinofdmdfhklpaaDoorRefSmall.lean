/- The document's own blank, run, whole and sign. -/
import Derived.Test.YtinofdmdfhklpaaDoorLex
import Derived.Test.YtinofdmdfhklpaaDoorRefParse2
namespace Go.Proofs.YtinofdmdfhklpaaDoor
open Go.RowKit
set_option linter.unusedVariables false

theorem blank_any (n : Nat) (w : World) : Calls Tryd.prog 16 #[.int .u8 (n : Int)] w fun e w' => e = .returned (.bool (isBl n)) ∧ w' = w := by
  go_enter Tryd.func16, Tryd.ntmps16
  go_wp2
  all_goals
    go_ret
    refine ⟨?_, rfl⟩
    simp [isBl]
    try (rw [Bool.eq_iff_iff]; simp)
    try omega

theorem blank_at (n : Nat) (w : World) (b : Bool) (hb : isBl n = b) : Calls Tryd.prog 16 #[.int .u8 (n : Int)] w fun e w' => e = .returned (.bool b) ∧ w' = w := by subst hb; exact blank_any n w
theorem digit4_at (n : Nat) (w : World) (b : Bool) (hb : isDig n = b) : Calls Tryd.prog 25 #[.int .u8 (n : Int)] w fun e w' => e = .returned (.bool b) ∧ w' = w := by subst hb; exact digit4_any n w
theorem letter_at (n : Nat) (w : World) (b : Bool) (hb : isLet n = b) : Calls Tryd.prog 27 #[.int .u8 (n : Int)] w fun e w' => e = .returned (.bool b) ∧ w' = w := by subst hb; exact letter_any n w

/-- What run passes over. -/
def ruN (b : Bool) (l : List UInt8) : Nat := if b then alN l else dgN l

theorem ruN_yes (s : ByteArray) (b : Bool) (j : Nat) (h : j < s.size) (hc : (isDig s[j].toNat || (b && isLet s[j].toNat)) = true) : ruN b ((bytes s).drop j) = ruN b ((bytes s).drop (j + 1)) + 1 := by
  cases b
  · simp only [Bool.false_and, Bool.or_false] at hc
    exact dgN_yes s j h hc
  · simp only [Bool.true_and] at hc
    exact alN_yes s j h (by rw [Bool.or_comm]; exact hc)
theorem ruN_no (s : ByteArray) (b : Bool) (j : Nat) (h : j < s.size) (hc : (isDig s[j].toNat || (b && isLet s[j].toNat)) = false) : ruN b ((bytes s).drop j) = 0 := by
  cases b
  · simp only [Bool.false_and, Bool.or_false] at hc
    exact dgN_no s j h hc
  · simp only [Bool.true_and] at hc
    exact alN_no s j h (by rw [Bool.or_comm]; exact hc)
theorem ruN_end (s : ByteArray) (b : Bool) (j : Nat) (h : ¬ j < s.size) : ruN b ((bytes s).drop j) = 0 := by
  cases b
  · exact dgN_end s j h
  · exact alN_end s j h

set_option maxRecDepth 100000 in
set_option maxHeartbeats 800000 in
theorem run_any (s : ByteArray) (k : Nat) (b : Bool) (w : World) (hk : k ≤ s.size) (hs : s.size ≤ 1099511627776) :
    Calls Tryd.prog 28 #[.string s, .int .i64 (k : Int), .bool b] w fun e w' => e = .returned (.int .i64 ((k + ruN b ((bytes s).drop k) : Nat) : Int)) ∧ w' = w := by
  obtain ⟨T, hT⟩ : ∃ T, Hid (T = k + ruN b ((bytes s).drop k)) := ⟨_, (rfl : k + ruN b ((bytes s).drop k) = _)⟩
  rw [← hT.out]
  go_enter Tryd.func28, Tryd.ntmps28
  go_wp2
  go_loopw [1] (fun j wr => ∃ i : Nat, j = .int .i64 (i : Int) ∧ i ≤ s.size ∧ Hid (i + ruN b ((bytes s).drop i) = T) ∧ wr = w) (fun j _ => s.size - (intOf j).toNat)
  case atStart => exact ⟨k, rfl, hk, hT.out.symm, rfl⟩
  case round =>
    obtain ⟨i, rfl, hi, hr, rfl⟩ := hrel
    by_cases hc : i < s.size
    · cases a2 : isDig s[i].toNat
      · cases b with
        | false =>
          have hN := ruN_no s false i hc (by rw [a2]; rfl)
          have hfin : Hid (i = T) := by show _ = _; have := hr.out; omega
          clear hN
          go_wp2_with (first | (go_at_call 25; refine (digit4_at _ _ false a2).mono ?_; rintro e w2 ⟨rfl, rfl⟩))
          go_ret
          exact ⟨by rw [← hfin.out]; rfl, rfl⟩
        | true =>
          cases a1 : isLet s[i].toNat
          · have hN := ruN_no s true i hc (by rw [a1, a2]; rfl)
            have hfin : Hid (i = T) := by show _ = _; have := hr.out; omega
            clear hN
            go_wp2_with (first | (go_at_call 25; refine (digit4_at _ _ false a2).mono ?_; rintro e w2 ⟨rfl, rfl⟩) | (go_at_call 27; refine (letter_at _ _ false a1).mono ?_; rintro e w2 ⟨rfl, rfl⟩))
            go_ret
            exact ⟨by rw [← hfin.out]; rfl, rfl⟩
          · have hN := ruN_yes s true i hc (by rw [a1, a2]; rfl)
            have hr' : Hid (i + 1 + ruN true ((bytes s).drop (i + 1)) = T) := by show _ = _; have := hr.out; omega
            clear hN hr
            go_wp2_with (first | (go_at_call 25; refine (digit4_at _ _ false a2).mono ?_; rintro e w2 ⟨rfl, rfl⟩) | (go_at_call 27; refine (letter_at _ _ true a1).mono ?_; rintro e w2 ⟨rfl, rfl⟩))
            go_roundw
            case rel => exact ⟨i + 1, by go_num, by omega, hr', trivial⟩
            case measure => simp [intOf]; omega
      · have hN := ruN_yes s b i hc (by rw [a2]; rfl)
        have hr' : Hid (i + 1 + ruN b ((bytes s).drop (i + 1)) = T) := by show _ = _; have := hr.out; omega
        clear hN hr
        go_wp2_with (first | (go_at_call 25; refine (digit4_at _ _ true a2).mono ?_; rintro e w2 ⟨rfl, rfl⟩))
        go_roundw
        case rel => exact ⟨i + 1, by go_num, by omega, hr', trivial⟩
        case measure => simp [intOf]; omega
    · have hN := ruN_end s b i hc
      have hfin : Hid (i = T) := by show _ = _; have := hr.out; omega
      clear hN
      go_wp2
      go_ret
      exact ⟨by rw [← hfin.out]; rfl, rfl⟩

theorem dig_sub (c : Nat) (h1 : 48 ≤ c) (h2 : c ≤ 57) : ((c : Int) - 48) % 256 = ((c - 48 : Nat) : Int) := by omega

/-- What whole answers. -/
def WholePost (x : List UInt8) (e : Ending) : Prop :=
  (GoodDec x ∧ e = .returned (.tuple #[.int .u64 (decVal x : Nat), .bool true])) ∨ (¬ GoodDec x ∧ ∃ n : Nat, n < 18446744073709551616 ∧ e = .returned (.tuple #[.int .u64 (n : Int), .bool false]))

end Go.Proofs.YtinofdmdfhklpaaDoor
