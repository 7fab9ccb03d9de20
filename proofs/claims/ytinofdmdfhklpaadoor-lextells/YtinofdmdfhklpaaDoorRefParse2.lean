/- The document's own Parse, walked. -/
import Derived.Test.YtinofdmdfhklpaaDoorRefParse
namespace Go.Proofs.YtinofdmdfhklpaaDoor
open Go.RowKit
set_option linter.unusedVariables false

theorem digit_any (c : Nat) (hc : c < 256) (w : World) : Calls Tryd.prog 46 #[.int .u8 (c : Int)] w fun e w' => e = .returned (.bool (decide (48 ≤ c ∧ c ≤ 57))) ∧ w' = w := by
  by_cases h1 : 48 ≤ c
  · by_cases h2 : c ≤ 57
    · rw [decide_eq_true ⟨h1, h2⟩]
      go_enter Tryd.func46, Tryd.ntmps46
      go_wp2
      go_ret
      exact ⟨by first | (simp; done) | (simp; omega), rfl⟩
    · rw [decide_eq_false (fun h => h2 h.2)]
      go_enter Tryd.func46, Tryd.ntmps46
      go_wp2
      go_ret
      exact ⟨by first | (simp; done) | (simp; omega), rfl⟩
  · rw [decide_eq_false (fun h => h1 h.1)]
    go_enter Tryd.func46, Tryd.ntmps46
    go_wp2
    go_ret
    exact ⟨by first | (simp; done) | (simp; omega), rfl⟩

set_option maxRecDepth 100000 in
set_option maxHeartbeats 3200000 in
theorem refParse_any (s : ByteArray) (w : World) (hs : s.size ≤ 1099511627775) : Calls Tryd.prog 38 #[.string s] w fun e w' => ParsePost (bytes s) e ∧ ∃ q, w' = w.drewN q := by
  have hbl := bytes_length s
  by_cases hl : 16 < s.size
  · have hno : ¬ IsLit (bytes s) := by
      intro h
      have h1 := congrArg List.length (lit_split h)
      have h2 := h.2.2.1
      rw [hbl] at h1
      simp at h1
      omega
    go_enter Tryd.func38, Tryd.ntmps38
    go_wp2
    go_ret2
    exact ⟨.inr ⟨hno, rfl⟩, 0, rfl⟩
  go_enter Tryd.func38, Tryd.ntmps38
  go_wp2
  go_loop [4, 5] (fun t i => ∃ (k : Nat) (pt : Int), k ≤ s.size ∧ -1 ≤ pt ∧ pt < s.size ∧ i = .int .i64 (k : Int) ∧ t = .int .i64 pt ∧ Hid (St (bytes s) k pt)) (fun _ i => s.size - (intOf i).toNat)
  case atStart => exact ⟨0, -1, by omega, by omega, by omega, rfl, rfl, (Or.inl ⟨rfl, fun j hj => by omega⟩ : St (bytes s) 0 (-1))⟩
  case round =>
    obtain ⟨k, pt, hk, hp1, hp2, rfl, rfl, hst⟩ := hrel
    by_cases hlt : k < s.size
    · obtain ⟨c, hc⟩ : ∃ c : Nat, s[k].toNat = c := ⟨_, rfl⟩
      have HC : Hid (((bytes s).getD k 0).toNat = c) := by show _ = _; rw [bytes_at s k hlt]; exact hc
      have hcl : c < 256 := by rw [← hc]; exact UInt8.toNat_lt _
      by_cases hdot : c = 46 ∧ pt < 0
      · obtain ⟨hc46, hpt⟩ := hdot
        have hb46 : ((c : Int) == 46) = true := by rw [beq_iff_eq]; omega
        have HS : Hid (St (bytes s) (k + 1) (k : Int)) := by
          show St (bytes s) (k + 1) (k : Int)
          rcases hst.out with ⟨h1, h2⟩ | ⟨p, h1, _⟩
          · obtain ⟨f1, f2⟩ := first_point (by rw [hbl]; exact hlt) h2 (by rw [HC.out]; exact hc46)
            exact Or.inr ⟨k, rfl, by omega, f1, f2, fun j hj hne => h2 j (by omega)⟩
          · omega
        clear hst hc46
        go_wp2
        go_round
        case rel => exact ⟨k + 1, k, by omega, by omega, by omega, by go_num, rfl, HS⟩
        case measure => simp [intOf]; omega
      · by_cases hdg : 48 ≤ c ∧ c ≤ 57
        · have hb46 : ((c : Int) == 46) = false := by rw [beq_eq_false_iff_ne]; omega
          have HS : Hid (St (bytes s) (k + 1) pt) := by
            show St (bytes s) (k + 1) pt
            rcases hst.out with ⟨h1, h2⟩ | ⟨p, h1, h2, h3, h4, h5⟩
            · refine Or.inl ⟨h1, fun j hj => ?_⟩
              rcases Nat.lt_or_ge j k with h | h
              · exact h2 j h
              · obtain rfl : j = k := by omega
                unfold Dig; rw [HC.out]; exact hdg
            · refine Or.inr ⟨p, h1, by omega, h3, h4, fun j hj hne => ?_⟩
              rcases Nat.lt_or_ge j k with h | h
              · exact h5 j h hne
              · obtain rfl : j = k := by omega
                unfold Dig; rw [HC.out]; exact hdg
          have hdd : decide (48 ≤ c ∧ c ≤ 57) = true := decide_eq_true hdg
          clear hst
          go_wp2_with (go_at_call 46; refine (digit_any c hcl _).mono ?_; rintro e w' ⟨rfl, rfl⟩; rw [hdd])
          go_round
          case rel => exact ⟨k + 1, pt, by omega, by omega, by omega, by go_num, rfl, HS⟩
          case measure => simp [intOf]; omega
        · have hno : ¬ IsLit (bytes s) := st_bad hst.out (by rw [hbl]; exact hlt) (by unfold Dig; rw [HC.out]; exact hdg) (by rw [HC.out]; exact hdot)
          have hdd : decide (48 ≤ c ∧ c ≤ 57) = false := decide_eq_false hdg
          clear hst
          by_cases h46 : c = 46
          · have hb46 : ((c : Int) == 46) = true := by rw [beq_iff_eq]; omega
            have hpt : 0 ≤ pt := by
              have : ¬ pt < 0 := fun h => hdot ⟨h46, h⟩
              omega
            clear hdot h46 hdg
            go_wp2_with (go_at_call 46; refine (digit_any c hcl _).mono ?_; rintro e w' ⟨rfl, rfl⟩; rw [hdd])
            go_ret2
            exact ⟨.inr ⟨hno, rfl⟩, 0, rfl⟩
          · have hb46 : ((c : Int) == 46) = false := by rw [beq_eq_false_iff_ne]; omega
            go_wp2_with (go_at_call 46; refine (digit_any c hcl _).mono ?_; rintro e w' ⟨rfl, rfl⟩; rw [hdd])
            go_ret2
            exact ⟨.inr ⟨hno, rfl⟩, 0, rfl⟩
    · obtain rfl : k = s.size := by omega
      rcases hst.out with ⟨h1, h2⟩ | ⟨p, h1, h2, h3, h4, h5⟩
      · have hno : ¬ IsLit (bytes s) := st_none (by rw [hbl]; exact h2)
        subst h1
        clear hst h2
        go_wp2
        go_ret2
        exact ⟨.inr ⟨hno, rfl⟩, 0, rfl⟩
      · subst h1
        clear hst
        obtain ⟨b, hb⟩ : ∃ b, b = (behindOf (bytes s)).length := ⟨_, rfl⟩
        have hpb : s.size = p + (b + 1) := by
          have := (at_split h3).1
          rw [hbl, h4, ← hb] at this
          exact this
        have hpos : 0 < s.size := by omega
        obtain ⟨c0, hc0⟩ : ∃ c0 : Nat, s[0].toNat = c0 := ⟨_, rfl⟩
        have HC0 : Hid (((bytes s).getD 0 0).toNat = c0) := by show _ = _; rw [bytes_at s 0 hpos]; exact hc0
        have hc0l : c0 < 256 := by rw [← hc0]; exact UInt8.toNat_lt _
        have H3 : Hid (bytes s = aheadOf (bytes s) ++ 46 :: behindOf (bytes s)) := h3
        have H4 : Hid ((aheadOf (bytes s)).length = p) := h4
        have H5 : Hid (∀ j, j < s.size → j ≠ p → Dig (bytes s) j) := h5
        have HB : Hid (b = (behindOf (bytes s)).length) := hb
        clear h3 h4 h5 hb
        by_cases g1 : 1 ≤ p ∧ 1 ≤ b ∧ b ≤ 6 ∧ ¬ (c0 = 48 ∧ 1 < p)
        · obtain ⟨q1, q2, q3, q4⟩ := g1
          have hlit : Hid (IsLit (bytes s)) := st_lit H3.out H4.out (by rw [hbl]; exact H5.out) (by rw [hbl]; omega) q1 (by rw [← HB.out]; exact q2) (by rw [← HB.out]; exact q3) (by rw [HC0.out]; intro h; omega)
          have hz' : ((c0 : Int) == 48) = true ∧ p = 1 ∨ ((c0 : Int) == 48) = false := by
            by_cases h : c0 = 48
            · exact .inl ⟨by rw [beq_iff_eq]; omega, by omega⟩
            · exact .inr (by rw [beq_eq_false_iff_ne]; omega)
          clear q4
          have hN : Hid (decVal ((bare (bytes s)).take (place p s.size)) = litNum (bytes s)) := by
            show _ = _
            rw [litNum_bare hlit.out, List.take_of_length_le]
            have : (bare (bytes s)).length = p + b := by
              unfold bare
              rw [List.length_append, H4.out, ← HB.out]
            rw [this]; unfold place; split <;> omega
          rcases hz' with ⟨z1, zp⟩ | z1
          all_goals
            go_wp2
            go_loop [7, 8, 9] (fun nn pp ii => ∃ (k N P : Nat), k ≤ s.size ∧ N < 1000000000000000 ∧ P ≤ 1000000 ∧ nn = .int .i64 (N : Int) ∧ pp = .int .i64 (P : Int) ∧ ii = .int .i64 (k : Int) ∧ Hid (N = decVal ((bare (bytes s)).take (place p k))) ∧ Hid (P = 10 ^ (k - p - 1))) (fun _ _ ii => s.size - (intOf ii).toNat)
            case atStart => exact ⟨0, 0, 1, by omega, by omega, by omega, rfl, rfl, rfl, (by show _ = _; simp [place, decVal]), (by show _ = _; simp)⟩
            case round =>
              obtain ⟨k, N, P, hk, hN15, hP6, rfl, rfl, rfl, hNv, hPv⟩ := hrel
              by_cases hlt : k < s.size
              · obtain ⟨c, hc⟩ : ∃ c : Nat, s[k].toNat = c := ⟨_, rfl⟩
                have HC : Hid (((bytes s).getD k 0).toNat = c) := by show _ = _; rw [bytes_at s k hlt]; exact hc
                have hcl : c < 256 := by rw [← hc]; exact UInt8.toNat_lt _
                by_cases hkp : k = p
                · have HN : Hid (N = decVal ((bare (bytes s)).take (place p (k + 1)))) := by show _ = _; rw [hkp, bare_skip, ← hkp]; rw [hNv.out, hkp]
                  have HP : Hid (P = 10 ^ (k + 1 - p - 1)) := by show _ = _; rw [hPv.out]; congr 1; omega
                  clear hNv hPv
                  go_wp2
                  go_round
                  case rel => exact ⟨k + 1, N, P, by omega, hN15, hP6, rfl, rfl, by go_num, HN, HP⟩
                  case measure => simp [intOf]; omega
                · have hdg := H5.out k hlt hkp
                  unfold Dig at hdg
                  rw [HC.out] at hdg
                  have hst := bare_step H3.out k (by rw [hbl]; exact hlt) (by rw [H4.out]; exact hkp)
                  rw [H4.out, HC.out, ← hNv.out] at hst
                  have hlt15 := bare_lt hlit.out (place p (k + 1))
                  rw [hst] at hlt15
                  have HN : Hid (N * 10 + (c - 48) = decVal ((bare (bytes s)).take (place p (k + 1)))) := hst.symm
                  clear hst
                  by_cases hgt : p < k
                  · have HP : Hid (10 * P = 10 ^ (k + 1 - p - 1)) := by show _ = _; rw [hPv.out, show k + 1 - p - 1 = (k - p - 1) + 1 by omega, Nat.pow_succ, Nat.mul_comm]
                    have hP6' : 10 * P ≤ 1000000 := by
                      rw [HP.out]
                      exact Nat.le_trans (Nat.pow_le_pow_right (by decide) (show k + 1 - p - 1 ≤ 6 by omega)) (by decide)
                    clear hNv hPv
                    go_wp2
                    go_round
                    case rel => exact ⟨k + 1, N * 10 + (c - 48), 10 * P, by omega, hlt15, hP6', by go_num, by go_num, by go_num, HN, HP⟩
                    case measure => simp [intOf]; omega
                  · have HP : Hid (P = 10 ^ (k + 1 - p - 1)) := by show _ = _; rw [hPv.out]; congr 1; omega
                    clear hNv hPv
                    go_wp2
                    go_round
                    case rel => exact ⟨k + 1, N * 10 + (c - 48), P, by omega, hlt15, hP6, by go_num, rfl, by go_num, HN, HP⟩
                    case measure => simp [intOf]; omega
              · obtain rfl : k = s.size := by omega
                have hNl : Hid (litNum (bytes s) = N) := by show _ = _; rw [← hN.out, hNv.out]
                have hPl : Hid (10 ^ (behindOf (bytes s)).length = P) := by show _ = _; rw [hPv.out, ← HB.out]; congr 1; omega
                obtain ⟨x, q, hx, hop⟩ := run_float_any (P := Tryd.prog) w .quo (.inr (.inr (.inr rfl))) (floatOfInt .f64 N) (floatOfInt .f64 P)
                have hx' : home x = quo N P := hx
                clear hx hNv hPv
                go_wp2_with fail
                refine (to_any x _).mono ?_
                rintro e w1 ⟨rfl, rfl⟩
                rw [hx']
                go_wp2
                go_ret2
                exact ⟨.inl ⟨hlit.out, by rw [hNl.out, hPl.out]; rfl⟩, q, rfl⟩
        · have hno : ¬ IsLit (bytes s) := by
            intro h
            apply g1
            have e1 := h.1
            have e2 := h.2.1
            have e3 := h.2.2.2.1.1
            rw [← HB.out] at e1 e2
            rw [H4.out] at e3
            refine ⟨e3, e1, e2, ?_⟩
            rintro ⟨z1, z2⟩
            have e4 := h.2.2.2.1.2.1
            have e5 := (at_split H3.out).2.2.1 0 (by rw [H4.out]; omega)
            rw [← e5, HC0.out, H4.out] at e4
            have := e4 z1
            omega
          have hz : ((c0 : Int) == 48) = decide (c0 = 48) := by
            by_cases h : c0 = 48
            · rw [decide_eq_true h, beq_iff_eq]; omega
            · rw [decide_eq_false h, beq_eq_false_iff_ne]; omega
          by_cases q1 : 1 ≤ p
          · by_cases q2 : 1 ≤ b
            · by_cases q3 : b ≤ 6
              · have q4 : c0 = 48 ∧ 1 < p := by
                  by_cases q : c0 = 48 ∧ 1 < p
                  · exact q
                  · exact absurd ⟨q1, q2, q3, q⟩ g1
                have hz' : ((c0 : Int) == 48) = true := by rw [beq_iff_eq]; omega
                clear g1 hz
                go_wp2
                go_ret2
                exact ⟨.inr ⟨hno, rfl⟩, 0, rfl⟩
              · clear g1
                go_wp2
                go_ret2
                exact ⟨.inr ⟨hno, rfl⟩, 0, rfl⟩
            · clear g1
              go_wp2
              go_ret2
              exact ⟨.inr ⟨hno, rfl⟩, 0, rfl⟩
          · clear g1
            go_wp2
            go_ret2
            exact ⟨.inr ⟨hno, rfl⟩, 0, rfl⟩

end Go.Proofs.YtinofdmdfhklpaaDoor
