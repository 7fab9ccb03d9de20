/- octet.readDigits and octet.ReadDec. -/
import Derived.Deep.QuietTactic
import Derived.BigQuiet
import Derived.Test.YtinofdmdfhklpaaDoorIndexByte
namespace Go.Proofs.YtinofdmdfhklpaaDoor
open Go.RowKit
set_option linter.unusedVariables false

/-- The length of a text in a slot. -/
def strLen : Value → Nat | .string r => r.size | _ => 0

theorem idx10_nat : ∀ c : Nat, c < 256 → Lib.indexByte (({ data := #[48, 49, 50, 51, 52, 53, 54, 55, 56, 57, 97, 98, 99, 100, 101, 102] } : ByteArray).extract 0 10).data.toList ((c : Int).toNat.toUInt8) = if 48 ≤ c ∧ c ≤ 57 then (c : Int) - 48 else -1 := by decide +kernel

theorem idx10_yes (c : Nat) (h1 : 48 ≤ c) (h2 : c ≤ 57) (w : World) :
    Calls Tryd.prog 30 #[.string (({ data := #[48, 49, 50, 51, 52, 53, 54, 55, 56, 57, 97, 98, 99, 100, 101, 102] } : ByteArray).extract 0 10), .int .u8 (c : Int)] w fun e w' => e = .returned (.int .i64 ((c : Int) - 48)) ∧ w' = w := by
  have h := indexByte_any (({ data := #[48, 49, 50, 51, 52, 53, 54, 55, 56, 57, 97, 98, 99, 100, 101, 102] } : ByteArray).extract 0 10) (c : Int) w
  rw [idx10_nat c (by omega), if_pos ⟨h1, h2⟩] at h
  exact h

theorem idx10_no (c : Nat) (hc : c < 256) (h : c < 48 ∨ 57 < c) (w : World) :
    Calls Tryd.prog 30 #[.string (({ data := #[48, 49, 50, 51, 52, 53, 54, 55, 56, 57, 97, 98, 99, 100, 101, 102] } : ByteArray).extract 0 10), .int .u8 (c : Int)] w fun e w' => e = .returned (.int .i64 (-1)) ∧ w' = w := by
  have h' := indexByte_any (({ data := #[48, 49, 50, 51, 52, 53, 54, 55, 56, 57, 97, 98, 99, 100, 101, 102] } : ByteArray).extract 0 10) (c : Int) w
  rw [idx10_nat c hc, if_neg (by omega)] at h'
  exact h'

theorem not_empty {s : ByteArray} (h : 0 < s.size) : s.toList.isEmpty = false := by
  rw [List.isEmpty_eq_false_iff, Lib.toList_data]
  intro h0
  have : s.size = 0 := by rw [← bytes_length s, bytes, h0]; rfl
  omega

theorem is_empty {s : ByteArray} (h : s.size = 0) : s.toList.isEmpty = true := by
  rw [List.isEmpty_iff, Lib.toList_data]
  apply List.eq_nil_of_length_eq_zero
  simpa using h

theorem extract_one (r : ByteArray) : bytes (r.extract 1 r.size) = (bytes r).drop 1 := by
  rw [bytes, Lib.extract_data, List.take_of_length_le]
  · rfl
  · simp

theorem drewN_again {w wr : World} (h : ∃ q, wr = w.drewN q) (n : Nat) : ∃ q, wr.drewN n = w.drewN q := by
  obtain ⟨q, rfl⟩ := h
  exact ⟨q + n, by simp⟩

/-- What readDigits answers. -/
def DigPost (l : List UInt8) (e : Ending) : Prop := (GoodDec l ∧ e = .returned (.tuple #[.int .u64 (decVal l), .bool true])) ∨ (¬ GoodDec l ∧ e = .returned (.tuple #[.int .u64 0, .bool false]))

set_option maxRecDepth 100000 in
set_option maxHeartbeats 800000 in
theorem readDigits_any (s : ByteArray) (w : World) (hs : s.size ≤ 1099511627776) :
    Calls Tryd.prog 55 #[.string s] w fun e w' => DigPost (bytes s) e ∧ ∃ q, w' = w.drewN q := by
  by_cases hl1 : s.size = 0
  · have hem := is_empty hl1
    go_enter Tryd.func55, Tryd.ntmps55
    go_wp2
    go_ret2
    exact ⟨.inr ⟨none_bad _ (by rw [bytes_length]; omega), rfl⟩, 0, rfl⟩
  have hpos : 0 < s.size := by omega
  obtain ⟨c0, hc0⟩ : ∃ c0 : Nat, s[0].toNat = c0 := ⟨_, rfl⟩
  have HC0 : Hid (((bytes s).getD 0 0).toNat = c0) := by show _ = _; rw [bytes_at s 0 hpos]; exact hc0
  have hc0l : c0 < 256 := by rw [← hc0]; exact UInt8.toNat_lt _
  have hne : s.toList.isEmpty = false := not_empty hpos
  by_cases hz : c0 = 48 ∧ 1 < s.size
  · obtain ⟨hz, h1⟩ := hz
    have hz' : ((c0 : Int) == 48) = true := by rw [beq_iff_eq]; omega
    have HZ : Hid (c0 = 48) := hz
    clear hz
    go_enter Tryd.func55, Tryd.ntmps55
    go_wp2
    go_ret2
    exact ⟨.inr ⟨nought_bad _ (by rw [HC0.out]; exact HZ.out) (by rw [bytes_length]; exact h1), rfl⟩, 0, rfl⟩
  have hz' : ((c0 : Int) == 48) = true ∧ decide (1 < (s.size : Int)) = false ∨ ((c0 : Int) == 48) = false := by
    by_cases h : c0 = 48
    · exact .inl ⟨by rw [beq_iff_eq]; omega, by simp; omega⟩
    · exact .inr (by rw [beq_eq_false_iff_ne]; omega)
  have HZ : Hid (((bytes s).getD 0 0).toNat = 48 → (bytes s).length = 1) := by
    show _ → _
    rw [HC0.out, bytes_length]
    intro h
    omega
  clear hz
  rcases hz' with ⟨g1, g2⟩ | g1
  all_goals
    go_enter Tryd.func55, Tryd.ntmps55
    go_wp2
    go_loopw [4, 5] (fun t v wr => ∃ (k m : Nat) (r : ByteArray), k ≤ s.size ∧ v = .string r ∧ Hid (bytes r = (bytes s).drop k) ∧ r.size + k = s.size ∧ t = .int .u64 m ∧ m ≤ 9223372036854775807 ∧ Hid (m = decVal ((bytes s).take k)) ∧ Hid (∀ j, j < k → 48 ≤ ((bytes s).getD j 0).toNat ∧ ((bytes s).getD j 0).toNat ≤ 57) ∧ Hid (∃ q, wr = w.drewN q)) (fun _ v _ => strLen v)
    case atStart => exact ⟨0, 0, s, Nat.zero_le _, rfl, rfl, rfl, rfl, by omega, rfl, fun j hj => by omega, ⟨0, rfl⟩⟩
    case round =>
      obtain ⟨k, m, r, hk, rfl, hr, hrk, rfl, hm, hv, hdig, hq⟩ := hrel
      by_cases hr0 : r.size = 0
      · have hrem := is_empty hr0
        have HG : Hid (GoodDec (bytes s)) := by
          have e : (bytes s).take k = bytes s := List.take_of_length_le (by rw [bytes_length]; omega)
          have hv' := hv.out
          rw [e] at hv'
          exact ⟨by rw [bytes_length]; omega, HZ.out, fun j hj => hdig.out j (by rw [bytes_length] at hj; omega), by rw [← hv']; exact hm⟩
        have HV : Hid (decVal (bytes s) = m) := by
          have e : (bytes s).take k = bytes s := List.take_of_length_le (by rw [bytes_length]; omega)
          have hv' := hv.out
          rw [e] at hv'
          exact hv'.symm
        clear hr0 hv hdig
        go_wp2
        go_ret2
        exact ⟨.inl ⟨HG.out, by rw [HV.out]; rfl⟩, hq.out⟩
      · have hrp : 0 < r.size := by omega
        have hrne := not_empty hrp
        have hrp' : (0 : Int) < (r.size : Int) := by omega
        have hlt : k < s.size := by omega
        obtain ⟨c, hc⟩ : ∃ c : Nat, r[0].toNat = c := ⟨_, rfl⟩
        have hcl : c < 256 := by rw [← hc]; exact UInt8.toNat_lt _
        have HC : Hid (((bytes s).getD k 0).toNat = c) := by
          show _ = _
          rw [← hc, ← bytes_at r 0 hrp, hr.out]
          simp [List.getD]
        by_cases hdg : 48 ≤ c ∧ c ≤ 57
        · obtain ⟨h48, h57⟩ := hdg
          go_wp2
          go_quiet ((go_at_call 30; exact Calls.quiet_of_same (idx10_yes c h48 h57 _)))
          by_cases hgr : m * 10 + (c - 48) ≤ 9223372036854775807
          · have HV : Hid (m * 10 + (c - 48) = decVal ((bytes s).take (k + 1))) := by show _ = _; rw [val_take _ k (by rw [bytes_length]; exact hlt), HC.out, hv.out]
            have HDG : Hid (∀ j, j < k + 1 → 48 ≤ ((bytes s).getD j 0).toNat ∧ ((bytes s).getD j 0).toNat ≤ 57) := by
              intro j hj
              rcases Nat.lt_or_ge j k with h | h
              · exact hdig.out j h
              · have : j = k := by omega
                subst this
                rw [HC.out]; omega
            have HR : Hid (bytes (r.extract 1 r.size) = (bytes s).drop (k + 1)) := by show _ = _; rw [extract_one, hr.out, List.drop_drop]
            have hxs : (r.extract 1 r.size).size = r.size - 1 := by rw [← bytes_length, extract_one, List.length_drop, bytes_length]
            clear hv hdig hr
            go_wp2
            go_roundw
            case rel => exact ⟨k + 1, m * 10 + (c - 48), r.extract 1 r.size, by omega, rfl, HR, by rw [hxs]; omega, by go_num, hgr, HV, HDG, drewN_again hq.out nq⟩
            case measure => simp only [strLen]; rw [hxs]; omega
          · have HB : Hid (¬ GoodDec (bytes s)) := great_bad _ (k + 1) (by rw [val_take _ k (by rw [bytes_length]; exact hlt), HC.out, ← hv.out]; omega)
            go_wp2
            go_ret2
            exact ⟨.inr ⟨HB.out, rfl⟩, drewN_again hq.out nq⟩
        · go_wp2
          go_quiet ((go_at_call 30; exact Calls.quiet_of_same (idx10_no c hcl (by omega) _)))
          go_wp2
          go_ret2
          exact ⟨.inr ⟨digit_bad _ k (by rw [bytes_length]; exact hlt) (by rw [HC.out]; omega), rfl⟩, drewN_again hq.out nq⟩
set_option maxRecDepth 100000 in
set_option maxHeartbeats 800000 in
theorem readDec_any (s : ByteArray) (most : Int) (w : World) (hs : s.size ≤ 1099511627776) (hmost : most ≤ 9223372036854775807) (hmost' : -9223372036854775808 ≤ most) :
    Calls Tryd.prog 43 #[.string s, .int .i64 most] w fun e w' => (∃ d h : Int, e = .returned (.tuple #[.int .i64 d, .int .i64 h]) ∧ DecIs (bytes s) most d h) ∧ ∃ q, w' = w.drewN q := by
  by_cases hneg : most < 0
  · go_enter Tryd.func43, Tryd.ntmps43
    go_wp2
    go_ret2
    exact ⟨⟨0, 2, rfl, .inl ⟨hneg, rfl, rfl⟩⟩, 0, rfl⟩
  go_enter Tryd.func43, Tryd.ntmps43
  go_wp2_with fail
  refine (readDigits_any s _ hs).mono ?_
  rintro e w1 ⟨⟨hg, rfl⟩ | ⟨hg, rfl⟩, q, rfl⟩
  · obtain ⟨m, hm⟩ : ∃ m, m = decVal (bytes s) := ⟨_, rfl⟩
    have hm63 : m ≤ 9223372036854775807 := by rw [hm]; exact hg.2.2.2
    rw [← hm]
    have HM : Hid (m = decVal (bytes s)) := hm
    have HG : Hid (GoodDec (bytes s)) := hg
    clear hm hg
    by_cases hmo : most < m
    · go_wp2
      go_ret2
      exact ⟨⟨0, 3, rfl, .inr (.inr (.inl ⟨by omega, HG.out, by rw [← HM.out]; exact hmo, rfl, rfl⟩))⟩, q, rfl⟩
    · go_wp2
      go_ret2
      exact ⟨⟨m, 0, rfl, .inr (.inr (.inr ⟨by omega, HG.out, by rw [← HM.out]; omega, by rw [← HM.out], rfl⟩))⟩, q, rfl⟩
  · have HG : Hid (¬ GoodDec (bytes s)) := hg
    clear hg
    go_wp2
    go_ret2
    exact ⟨⟨0, 4, rfl, .inr (.inl ⟨by omega, HG.out, rfl, rfl⟩)⟩, q, rfl⟩

end Go.Proofs.YtinofdmdfhklpaaDoor
