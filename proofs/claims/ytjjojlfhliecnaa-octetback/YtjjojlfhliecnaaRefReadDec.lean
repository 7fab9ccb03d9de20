/- The document's own ReadDec. -/
import Derived.Test.YtjjojlfhliecnaaKit
import Derived.Test.YtjjojlfhliecnaaDecMath
namespace Go.Proofs.Ytjjojlfhliecnaa
open Go.RowKit
set_option linter.unusedVariables false

/-- The bytes of a text. -/
def bytes (s : ByteArray) : List UInt8 := s.data.toList

theorem bytes_length (s : ByteArray) : (bytes s).length = s.size := by simp [bytes]

theorem bytes_at (s : ByteArray) (k : Nat) (h : k < s.size) : (bytes s).getD k 0 = s[k] := by
  have : k < s.data.toList.length := by simpa using h
  simp [bytes, List.getD, h]
  rfl

theorem ret_pair {k1 k2 : IntKind} {a b a' b' : Int} (h : a = a') (h' : b = b') : Ending.returned (.tuple #[.int k1 a, .int k2 b]) = .returned (.tuple #[.int k1 a', .int k2 b']) := by rw [h, h']

set_option maxRecDepth 100000 in
set_option maxHeartbeats 800000 in
theorem refReadDec_any (s : ByteArray) (most : Int) (w : World) (hs : s.size ≤ 1099511627776) (hmost : most ≤ 9223372036854775807) (hmost' : -9223372036854775808 ≤ most) :
    Calls Try.prog 24 #[.string s, .int .i64 most] w fun e w' => (∃ d h : Int, e = .returned (.tuple #[.int .i64 d, .int .i64 h]) ∧ DecIs (bytes s) most d h) ∧ w' = w := by
  by_cases hneg : most < 0
  · go_enter Try.func24, Try.ntmps24
    go_wp2
    go_ret2
    exact ⟨⟨0, 2, rfl, .inl ⟨hneg, rfl, rfl⟩⟩, rfl⟩
  by_cases hl1 : s.size < 1
  · go_enter Try.func24, Try.ntmps24
    go_wp2
    go_ret2
    exact ⟨⟨0, 4, rfl, .inr (.inl ⟨by omega, none_bad _ (by rw [bytes_length]; exact hl1), rfl, rfl⟩)⟩, rfl⟩
  by_cases hl19 : 19 < s.size
  · go_enter Try.func24, Try.ntmps24
    go_wp2
    go_ret2
    exact ⟨⟨0, 4, rfl, .inr (.inl ⟨by omega, long_bad _ (by rw [bytes_length]; exact hl19), rfl, rfl⟩)⟩, rfl⟩
  have hpos : 0 < s.size := by omega
  obtain ⟨c0, hc0⟩ : ∃ c0 : Nat, s[0].toNat = c0 := ⟨_, rfl⟩
  have HC0 : Hid (((bytes s).getD 0 0).toNat = c0) := by show _ = _; rw [bytes_at s 0 hpos]; exact hc0
  have hc0l : c0 < 256 := by rw [← hc0]; exact UInt8.toNat_lt _
  by_cases hz : c0 = 48 ∧ 1 < s.size
  · obtain ⟨hz, h1⟩ := hz
    have hz' : ((c0 : Int) == 48) = true := by rw [beq_iff_eq]; omega
    have HZ : Hid (c0 = 48) := hz
    clear hz
    go_enter Try.func24, Try.ntmps24
    go_wp2
    go_ret2
    exact ⟨⟨0, 4, rfl, .inr (.inl ⟨by omega, nought_bad _ (by rw [HC0.out]; exact HZ.out) (by rw [bytes_length]; exact h1), rfl, rfl⟩)⟩, rfl⟩
  have hz' : ((c0 : Int) == 48) = true ∧ decide (1 < (s.size : Int)) = false ∨ ((c0 : Int) == 48) = false := by
    by_cases h : c0 = 48
    · exact .inl ⟨by rw [beq_iff_eq]; omega, by simp; omega⟩
    · exact .inr (by rw [beq_eq_false_iff_ne]; omega)
  have HZ : Hid (((bytes s).getD 0 0).toNat = 48 → (bytes s).length = 1) := by
    show _ → _
    rw [HC0.out, bytes_length]
    intro h
    omega
  have d1 : decide ((s.size : Int) < 1) = false := by simp; omega
  have d2 : decide (19 < (s.size : Int)) = false := by simp; omega
  clear hz
  rcases hz' with ⟨g1, g2⟩ | g1
  all_goals
    go_enter Try.func24, Try.ntmps24
    go_wp2
    go_loop [6, 7] (fun t i => ∃ (k m : Nat), k ≤ s.size ∧ i = .int .i64 k ∧ t = .int .u64 m ∧ Hid (m = val ((bytes s).take k)) ∧ Hid (∀ j, j < k → 48 ≤ ((bytes s).getD j 0).toNat ∧ ((bytes s).getD j 0).toNat ≤ 57)) (fun _ i => s.size - (intOf i).toNat)
    case atStart => exact ⟨0, 0, Nat.zero_le _, rfl, rfl, rfl, fun j hj => by omega⟩
    case round =>
      obtain ⟨k, m, hk, rfl, rfl, hm, hdig⟩ := hrel
      by_cases hlt : k < s.size
      · obtain ⟨c, hc⟩ : ∃ c : Nat, s[k].toNat = c := ⟨_, rfl⟩
        have HC : Hid (((bytes s).getD k 0).toNat = c) := by show _ = _; rw [bytes_at s k hlt]; exact hc
        have hcl : c < 256 := by rw [← hc]; exact UInt8.toNat_lt _
        by_cases h48 : c < 48
        · go_wp2
          go_ret2
          exact ⟨⟨0, 4, rfl, .inr (.inl ⟨by omega, digit_bad _ k (by rw [bytes_length]; exact hlt) (by rw [HC.out]; exact .inl h48), rfl, rfl⟩)⟩, rfl⟩
        · by_cases h57 : 57 < c
          · have h48' : decide ((c : Int) < 48) = false := by simp; omega
            go_wp2
            go_ret2
            exact ⟨⟨0, 4, rfl, .inr (.inl ⟨by omega, digit_bad _ k (by rw [bytes_length]; exact hlt) (by rw [HC.out]; exact .inr h57), rfl, rfl⟩)⟩, rfl⟩
          · have HV : Hid (m * 10 + (c - 48) = val ((bytes s).take (k + 1))) := by show _ = _; rw [val_take _ k (by rw [bytes_length]; exact hlt), HC.out, hm.out]
            have hml : m < 1000000000000000000 := by
              have h1 := val_lt (bytes s) k (by rw [bytes_length]; omega) hdig.out
              rw [← hm.out] at h1
              have h2 : (10 : Nat) ^ k ≤ 10 ^ 18 := Nat.pow_le_pow_right (by omega) (by omega)
              omega
            have HDG : Hid (∀ j, j < k + 1 → 48 ≤ ((bytes s).getD j 0).toNat ∧ ((bytes s).getD j 0).toNat ≤ 57) := by
              intro j hj
              rcases Nat.lt_or_ge j k with h | h
              · exact hdig.out j h
              · have : j = k := by omega
                subst this
                rw [HC.out]; omega
            clear hdig hm
            go_wp2
            go_round
            case rel => exact ⟨k + 1, m * 10 + (c - 48), by omega, by go_num, by go_num, HV, HDG⟩
            case measure => simp [intOf]; omega
      · have HV : Hid (m = val (bytes s)) := by show _ = _; rw [hm.out, List.take_of_length_le (by rw [bytes_length]; omega)]
        have HD : Hid (∀ j, j < (bytes s).length → 48 ≤ ((bytes s).getD j 0).toNat ∧ ((bytes s).getD j 0).toNat ≤ 57) := by
          intro j hj
          rw [bytes_length] at hj
          exact hdig.out j (by omega)
        have hml : m < 10000000000000000000 := by
          have h1 := val_lt (bytes s) k (by rw [bytes_length]; omega) hdig.out
          rw [← hm.out] at h1
          have h2 : (10 : Nat) ^ k ≤ 10 ^ 19 := Nat.pow_le_pow_right (by omega) (by omega)
          omega
        clear hm hdig
        by_cases hgr : 9223372036854775807 < m
        · go_wp2
          go_ret2
          exact ⟨⟨0, 4, rfl, .inr (.inl ⟨by omega, great_bad _ (bytes s).length (by rw [List.take_length, ← HV.out]; exact hgr), rfl, rfl⟩)⟩, rfl⟩
        · have HG : Hid (GoodDec (bytes s)) := ⟨by rw [bytes_length]; omega, HZ.out, HD.out, by rw [← HV.out]; omega⟩
          by_cases hmo : most < m
          · go_wp2
            go_ret2
            exact ⟨⟨0, 3, rfl, .inr (.inr (.inl ⟨by omega, HG.out, by rw [← HV.out]; exact hmo, rfl, rfl⟩))⟩, rfl⟩
          · go_wp2
            go_ret2
            exact ⟨⟨m, 0, rfl, .inr (.inr (.inr ⟨by omega, HG.out, by rw [← HV.out]; omega, by rw [← HV.out], rfl⟩))⟩, rfl⟩
end Go.Proofs.Ytjjojlfhliecnaa
