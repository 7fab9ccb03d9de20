/- The law's own between: is a text blanks and comments? -/
import Derived.Test.YtinofdmdfhklpaaDoorStandsMath
import Derived.Test.YtinofdmdfhklpaaDoorLex
namespace Go.Proofs.YtinofdmdfhklpaaDoor
open Go.RowKit
set_option linter.unusedVariables false

theorem btw_at (s : ByteArray) (b : Bool) (i : Nat) (h : i < s.size) : btw b ((bytes s).drop i) = if s[i].toNat = 35 then btw true ((bytes s).drop (i + 1)) else if b && !decide (s[i].toNat = 10) then btw true ((bytes s).drop (i + 1)) else if isBl s[i].toNat then btw false ((bytes s).drop (i + 1)) else false := by
  rw [drop_at s i h, btw]

set_option maxRecDepth 100000 in
set_option maxHeartbeats 800000 in
theorem between_any (s : ByteArray) (w : World) (hs : s.size ≤ 1099511627776) (hB : btw false (bytes s) = true) :
    Calls Tryd.prog 12 #[.string s] w fun e w' => e = .returned (.bool true) ∧ w' = w := by
  have HB : Hid (btw false ((bytes s).drop 0) = true) := hB
  clear hB
  go_enter Tryd.func12, Tryd.ntmps12
  go_wp2
  go_loopw [3, 4] (fun v j wr => ∃ (b : Bool) (i : Nat), v = .bool b ∧ j = .int .i64 (i : Int) ∧ i ≤ s.size ∧ Hid (btw b ((bytes s).drop i) = true) ∧ wr = w) (fun _ j _ => s.size - (intOf j).toNat)
  case atStart => exact ⟨false, 0, rfl, rfl, by omega, HB, rfl⟩
  case round =>
    obtain ⟨b, i, rfl, rfl, hi, hr, rfl⟩ := hrel
    by_cases hc : i < s.size
    · have hk := hr.out
      rw [btw_at s b i hc] at hk
      clear hr
      by_cases h35 : s[i].toNat = 35
      · rw [if_pos h35] at hk
        have HK : Hid (btw true ((bytes s).drop (i + 1)) = true) := hk
        have h35' : (s[i].toNat : Int) = 35 := by omega
        clear hk
        go_wp2
        go_roundw
        case rel => exact ⟨true, i + 1, rfl, by go_num, by omega, HK, trivial⟩
        case measure => simp [intOf]; omega
      · rw [if_neg h35] at hk
        have h35' : ((s[i].toNat : Int) == 35) = false := by rw [beq_eq_false_iff_ne]; omega
        by_cases h10 : s[i].toNat = 10
        · have h10' : (s[i].toNat : Int) = 10 := by omega
          rw [if_neg (by simp [h10]), if_pos (by rw [h10]; rfl)] at hk
          have HK : Hid (btw false ((bytes s).drop (i + 1)) = true) := hk
          clear hk h35'
          go_wp2
          go_roundw
          case rel => exact ⟨false, i + 1, rfl, by go_num, by omega, HK, trivial⟩
          case measure => simp [intOf]; omega
        · have h10' : ((s[i].toNat : Int) == 10) = false := by rw [beq_eq_false_iff_ne]; omega
          have h10n : ((s[i].toNat : Int) != 10) = true := by simp; omega
          cases b with
          | true =>
            rw [if_pos (by simp [h10])] at hk
            have HK : Hid (btw true ((bytes s).drop (i + 1)) = true) := hk
            clear hk
            go_wp2
            go_roundw
            case rel => exact ⟨true, i + 1, rfl, by go_num, by omega, HK, trivial⟩
            case measure => simp [intOf]; omega
          | false =>
            rw [if_neg (by simp)] at hk
            have hbl : isBl s[i].toNat = true := by
              by_cases h : isBl s[i].toNat = true
              · exact h
              · rw [if_neg h] at hk; exact absurd hk (by decide)
            rw [if_pos hbl] at hk
            have HK : Hid (btw false ((bytes s).drop (i + 1)) = true) := hk
            have hcs : (s[i].toNat : Int) = 9 ∨ (s[i].toNat : Int) = 13 ∨ (s[i].toNat : Int) = 32 := by
              simp only [isBl, Bool.or_eq_true, decide_eq_true_eq] at hbl; omega
            clear hk hbl
            obtain ⟨c, hcc⟩ : ∃ c : Int, c = (s[i].toNat : Int) := ⟨_, rfl⟩
            rw [← hcc] at hcs
            rcases hcs with h | h | h
            all_goals
              have hcb : (s[i].toNat : Int) = c := hcc.symm
              rw [h] at hcb
              clear hcc h35' h10' h10n
              go_wp2
              go_roundw
              case rel => exact ⟨false, i + 1, rfl, by go_num, by omega, HK, trivial⟩
              case measure => simp [intOf]; omega
    · go_wp2
      go_ret
      exact ⟨rfl, rfl⟩

end Go.Proofs.YtinofdmdfhklpaaDoor
