/- Joined texts of the proof. -/
import Derived.Test.YtjgggmjjikopeaaGreatDoorJ6
import Derived.Test.YtjgggmjjikopeaaGreatDoorJ8

/- The document's own Parse, walked. -/
namespace Go.Proofs.YtjgggmjjikopeaaGreatDoor
open Go.RowKit
set_option linter.unusedVariables false

theorem rdigit_any (c : Nat) (hc : c < 256) (w : World) : Calls Tryz.prog 165 #[.int .u8 (c : Int)] w fun e w' => e = .returned (.bool (decide (48 ≤ c ∧ c ≤ 57))) ∧ w' = w := by
  by_cases h1 : 48 ≤ c
  · by_cases h2 : c ≤ 57
    · rw [decide_eq_true ⟨h1, h2⟩]
      go_enter Tryz.func165, Tryz.ntmps165
      go_wp2
      go_ret
      exact ⟨by first | (simp; done) | (simp; omega), rfl⟩
    · rw [decide_eq_false (fun h => h2 h.2)]
      go_enter Tryz.func165, Tryz.ntmps165
      go_wp2
      go_ret
      exact ⟨by first | (simp; done) | (simp; omega), rfl⟩
  · rw [decide_eq_false (fun h => h1 h.1)]
    go_enter Tryz.func165, Tryz.ntmps165
    go_wp2
    go_ret
    exact ⟨by first | (simp; done) | (simp; omega), rfl⟩

set_option maxRecDepth 100000 in
set_option maxHeartbeats 3200000 in
theorem refParse_any (s : ByteArray) (w : World) (hs : s.size ≤ 1099511627775) : Calls Tryz.prog 131 #[.string s] w fun e w' => ParsePost (bytes s) e ∧ ∃ q, w' = w.drewN q := by
  have hbl := bytes_length s
  by_cases hl : 16 < s.size
  · have hno : ¬ IsLit (bytes s) := by
      intro h
      have h1 := congrArg List.length (lit_split h)
      have h2 := h.2.2.1
      rw [hbl] at h1
      simp at h1
      omega
    go_enter Tryz.func131, Tryz.ntmps131
    go_wp2
    go_ret2
    exact ⟨.inr ⟨hno, rfl⟩, 0, rfl⟩
  go_enter Tryz.func131, Tryz.ntmps131
  go_wp2
  go_loop [4, 5] (fun t i => ∃ (k : Nat) (pt : Int), k ≤ s.size ∧ -1 ≤ pt ∧ pt < s.size ∧ i = .int .i64 (k : Int) ∧ t = .int .i64 pt ∧ Hid (PSt (bytes s) k pt)) (fun _ i => s.size - (intOf i).toNat)
  case atStart => exact ⟨0, -1, by omega, by omega, by omega, rfl, rfl, (Or.inl ⟨rfl, fun j hj => by omega⟩ : PSt (bytes s) 0 (-1))⟩
  case round =>
    obtain ⟨k, pt, hk, hp1, hp2, rfl, rfl, hst⟩ := hrel
    by_cases hlt : k < s.size
    · obtain ⟨c, hc⟩ : ∃ c : Nat, s[k].toNat = c := ⟨_, rfl⟩
      have HC : Hid (((bytes s).getD k 0).toNat = c) := by show _ = _; rw [bytes_at s k hlt]; exact hc
      have hcl : c < 256 := by rw [← hc]; exact UInt8.toNat_lt _
      by_cases hdot : c = 46 ∧ pt < 0
      · obtain ⟨hc46, hpt⟩ := hdot
        have hb46 : ((c : Int) == 46) = true := by rw [beq_iff_eq]; omega
        have HS : Hid (PSt (bytes s) (k + 1) (k : Int)) := by
          show PSt (bytes s) (k + 1) (k : Int)
          rcases hst.out with ⟨h1, h2⟩ | ⟨p, h1, _⟩
          · obtain ⟨f1, f2⟩ := first_point (by rw [hbl]; exact hlt) h2 (by rw [HC.out]; exact hc46)
            exact Or.inr ⟨k, rfl, by omega, f1, f2, fun j hj hne => h2 j (by omega)⟩
          · omega
        clear hst hc46
        go_wp2
        go_round
        case rel => exact ⟨k + 1, k, by omega, by omega, by omega, by go_num, rfl, HS⟩
        case measure => simp [intOf]; omega
      · by_cases hdg : 48 ≤ c ∧ c ≤ 57
        · have hb46 : ((c : Int) == 46) = false := by rw [beq_eq_false_iff_ne]; omega
          have HS : Hid (PSt (bytes s) (k + 1) pt) := by
            show PSt (bytes s) (k + 1) pt
            rcases hst.out with ⟨h1, h2⟩ | ⟨p, h1, h2, h3, h4, h5⟩
            · refine Or.inl ⟨h1, fun j hj => ?_⟩
              rcases Nat.lt_or_ge j k with h | h
              · exact h2 j h
              · obtain rfl : j = k := by omega
                unfold Dig; rw [HC.out]; exact hdg
            · refine Or.inr ⟨p, h1, by omega, h3, h4, fun j hj hne => ?_⟩
              rcases Nat.lt_or_ge j k with h | h
              · exact h5 j h hne
              · obtain rfl : j = k := by omega
                unfold Dig; rw [HC.out]; exact hdg
          have hdd : decide (48 ≤ c ∧ c ≤ 57) = true := decide_eq_true hdg
          clear hst
          go_wp2_with (go_at_call 165; refine (rdigit_any c hcl _).mono ?_; rintro e w' ⟨rfl, rfl⟩; rw [hdd])
          go_round
          case rel => exact ⟨k + 1, pt, by omega, by omega, by omega, by go_num, rfl, HS⟩
          case measure => simp [intOf]; omega
        · have hno : ¬ IsLit (bytes s) := st_bad hst.out (by rw [hbl]; exact hlt) (by unfold Dig; rw [HC.out]; exact hdg) (by rw [HC.out]; exact hdot)
          have hdd : decide (48 ≤ c ∧ c ≤ 57) = false := decide_eq_false hdg
          clear hst
          by_cases h46 : c = 46
          · have hb46 : ((c : Int) == 46) = true := by rw [beq_iff_eq]; omega
            have hpt : 0 ≤ pt := by
              have : ¬ pt < 0 := fun h => hdot ⟨h46, h⟩
              omega
            clear hdot h46 hdg
            go_wp2_with (go_at_call 165; refine (rdigit_any c hcl _).mono ?_; rintro e w' ⟨rfl, rfl⟩; rw [hdd])
            go_ret2
            exact ⟨.inr ⟨hno, rfl⟩, 0, rfl⟩
          · have hb46 : ((c : Int) == 46) = false := by rw [beq_eq_false_iff_ne]; omega
            go_wp2_with (go_at_call 165; refine (rdigit_any c hcl _).mono ?_; rintro e w' ⟨rfl, rfl⟩; rw [hdd])
            go_ret2
            exact ⟨.inr ⟨hno, rfl⟩, 0, rfl⟩
    · obtain rfl : k = s.size := by omega
      rcases hst.out with ⟨h1, h2⟩ | ⟨p, h1, h2, h3, h4, h5⟩
      · have hno : ¬ IsLit (bytes s) := st_none (by rw [hbl]; exact h2)
        subst h1
        clear hst h2
        go_wp2
        go_ret2
        exact ⟨.inr ⟨hno, rfl⟩, 0, rfl⟩
      · subst h1
        clear hst
        obtain ⟨b, hb⟩ : ∃ b, b = (behindOf (bytes s)).length := ⟨_, rfl⟩
        have hpb : s.size = p + (b + 1) := by
          have := (at_split h3).1
          rw [hbl, h4, ← hb] at this
          exact this
        have hpos : 0 < s.size := by omega
        obtain ⟨c0, hc0⟩ : ∃ c0 : Nat, s[0].toNat = c0 := ⟨_, rfl⟩
        have HC0 : Hid (((bytes s).getD 0 0).toNat = c0) := by show _ = _; rw [bytes_at s 0 hpos]; exact hc0
        have hc0l : c0 < 256 := by rw [← hc0]; exact UInt8.toNat_lt _
        have H3 : Hid (bytes s = aheadOf (bytes s) ++ 46 :: behindOf (bytes s)) := h3
        have H4 : Hid ((aheadOf (bytes s)).length = p) := h4
        have H5 : Hid (∀ j, j < s.size → j ≠ p → Dig (bytes s) j) := h5
        have HB : Hid (b = (behindOf (bytes s)).length) := hb
        clear h3 h4 h5 hb
        by_cases g1 : 1 ≤ p ∧ 1 ≤ b ∧ b ≤ 6 ∧ ¬ (c0 = 48 ∧ 1 < p)
        · obtain ⟨q1, q2, q3, q4⟩ := g1
          have hlit : Hid (IsLit (bytes s)) := st_lit H3.out H4.out (by rw [hbl]; exact H5.out) (by rw [hbl]; omega) q1 (by rw [← HB.out]; exact q2) (by rw [← HB.out]; exact q3) (by rw [HC0.out]; intro h; omega)
          have hz' : ((c0 : Int) == 48) = true ∧ p = 1 ∨ ((c0 : Int) == 48) = false := by
            by_cases h : c0 = 48
            · exact .inl ⟨by rw [beq_iff_eq]; omega, by omega⟩
            · exact .inr (by rw [beq_eq_false_iff_ne]; omega)
          clear q4
          have hN : Hid (decVal ((bare (bytes s)).take (place p s.size)) = litNum (bytes s)) := by
            show _ = _
            rw [litNum_bare hlit.out, List.take_of_length_le]
            have : (bare (bytes s)).length = p + b := by
              unfold bare
              rw [List.length_append, H4.out, ← HB.out]
            rw [this]; unfold place; split <;> omega
          rcases hz' with ⟨z1, zp⟩ | z1
          all_goals
            go_wp2
            go_loop [7, 8, 9] (fun nn pp ii => ∃ (k N P : Nat), k ≤ s.size ∧ N < 1000000000000000 ∧ P ≤ 1000000 ∧ nn = .int .i64 (N : Int) ∧ pp = .int .i64 (P : Int) ∧ ii = .int .i64 (k : Int) ∧ Hid (N = decVal ((bare (bytes s)).take (place p k))) ∧ Hid (P = 10 ^ (k - p - 1))) (fun _ _ ii => s.size - (intOf ii).toNat)
            case atStart => exact ⟨0, 0, 1, by omega, by omega, by omega, rfl, rfl, rfl, (by show _ = _; simp [place, decVal]), (by show _ = _; simp)⟩
            case round =>
              obtain ⟨k, N, P, hk, hN15, hP6, rfl, rfl, rfl, hNv, hPv⟩ := hrel
              by_cases hlt : k < s.size
              · obtain ⟨c, hc⟩ : ∃ c : Nat, s[k].toNat = c := ⟨_, rfl⟩
                have HC : Hid (((bytes s).getD k 0).toNat = c) := by show _ = _; rw [bytes_at s k hlt]; exact hc
                have hcl : c < 256 := by rw [← hc]; exact UInt8.toNat_lt _
                by_cases hkp : k = p
                · have HN : Hid (N = decVal ((bare (bytes s)).take (place p (k + 1)))) := by show _ = _; rw [hkp, bare_skip, ← hkp]; rw [hNv.out, hkp]
                  have HP : Hid (P = 10 ^ (k + 1 - p - 1)) := by show _ = _; rw [hPv.out]; congr 1; omega
                  clear hNv hPv
                  go_wp2
                  go_round
                  case rel => exact ⟨k + 1, N, P, by omega, hN15, hP6, rfl, rfl, by go_num, HN, HP⟩
                  case measure => simp [intOf]; omega
                · have hdg := H5.out k hlt hkp
                  unfold Dig at hdg
                  rw [HC.out] at hdg
                  have hst := bare_step H3.out k (by rw [hbl]; exact hlt) (by rw [H4.out]; exact hkp)
                  rw [H4.out, HC.out, ← hNv.out] at hst
                  have hlt15 := bare_lt hlit.out (place p (k + 1))
                  rw [hst] at hlt15
                  have HN : Hid (N * 10 + (c - 48) = decVal ((bare (bytes s)).take (place p (k + 1)))) := hst.symm
                  clear hst
                  by_cases hgt : p < k
                  · have HP : Hid (10 * P = 10 ^ (k + 1 - p - 1)) := by show _ = _; rw [hPv.out, show k + 1 - p - 1 = (k - p - 1) + 1 by omega, Nat.pow_succ, Nat.mul_comm]
                    have hP6' : 10 * P ≤ 1000000 := by
                      rw [HP.out]
                      exact Nat.le_trans (Nat.pow_le_pow_right (by decide) (show k + 1 - p - 1 ≤ 6 by omega)) (by decide)
                    clear hNv hPv
                    go_wp2
                    go_round
                    case rel => exact ⟨k + 1, N * 10 + (c - 48), 10 * P, by omega, hlt15, hP6', by go_num, by go_num, by go_num, HN, HP⟩
                    case measure => simp [intOf]; omega
                  · have HP : Hid (P = 10 ^ (k + 1 - p - 1)) := by show _ = _; rw [hPv.out]; congr 1; omega
                    clear hNv hPv
                    go_wp2
                    go_round
                    case rel => exact ⟨k + 1, N * 10 + (c - 48), P, by omega, hlt15, hP6, by go_num, rfl, by go_num, HN, HP⟩
                    case measure => simp [intOf]; omega
              · obtain rfl : k = s.size := by omega
                have hNl : Hid (litNum (bytes s) = N) := by show _ = _; rw [← hN.out, hNv.out]
                have hPl : Hid (10 ^ (behindOf (bytes s)).length = P) := by show _ = _; rw [hPv.out, ← HB.out]; congr 1; omega
                obtain ⟨x, q, hx, hop⟩ := run_float_any (P := Tryz.prog) w .quo (.inr (.inr (.inr rfl))) (floatOfInt .f64 N) (floatOfInt .f64 P)
                have hx' : home x = quo N P := hx
                clear hx hNv hPv
                go_wp2_with fail
                refine (to_any x _).mono ?_
                rintro e w1 ⟨rfl, rfl⟩
                rw [hx']
                go_wp2
                go_ret2
                exact ⟨.inl ⟨hlit.out, by rw [hNl.out, hPl.out]; rfl⟩, q, rfl⟩
        · have hno : ¬ IsLit (bytes s) := by
            intro h
            apply g1
            have e1 := h.1
            have e2 := h.2.1
            have e3 := h.2.2.2.1.1
            rw [← HB.out] at e1 e2
            rw [H4.out] at e3
            refine ⟨e3, e1, e2, ?_⟩
            rintro ⟨z1, z2⟩
            have e4 := h.2.2.2.1.2.1
            have e5 := (at_split H3.out).2.2.1 0 (by rw [H4.out]; omega)
            rw [← e5, HC0.out, H4.out] at e4
            have := e4 z1
            omega
          have hz : ((c0 : Int) == 48) = decide (c0 = 48) := by
            by_cases h : c0 = 48
            · rw [decide_eq_true h, beq_iff_eq]; omega
            · rw [decide_eq_false h, beq_eq_false_iff_ne]; omega
          by_cases q1 : 1 ≤ p
          · by_cases q2 : 1 ≤ b
            · by_cases q3 : b ≤ 6
              · have q4 : c0 = 48 ∧ 1 < p := by
                  by_cases q : c0 = 48 ∧ 1 < p
                  · exact q
                  · exact absurd ⟨q1, q2, q3, q⟩ g1
                have hz' : ((c0 : Int) == 48) = true := by rw [beq_iff_eq]; omega
                clear g1 hz
                go_wp2
                go_ret2
                exact ⟨.inr ⟨hno, rfl⟩, 0, rfl⟩
              · clear g1
                go_wp2
                go_ret2
                exact ⟨.inr ⟨hno, rfl⟩, 0, rfl⟩
            · clear g1
              go_wp2
              go_ret2
              exact ⟨.inr ⟨hno, rfl⟩, 0, rfl⟩
          · clear g1
            go_wp2
            go_ret2
            exact ⟨.inr ⟨hno, rfl⟩, 0, rfl⟩

end Go.Proofs.YtjgggmjjikopeaaGreatDoor

/- The document's own blank, run, whole and sign. -/
namespace Go.Proofs.YtjgggmjjikopeaaGreatDoor
open Go.RowKit
set_option linter.unusedVariables false

theorem blank_any (n : Nat) (w : World) : Calls Tryz.prog 61 #[.int .u8 (n : Int)] w fun e w' => e = .returned (.bool (isBl n)) ∧ w' = w := by
  go_enter Tryz.func61, Tryz.ntmps61
  go_wp2
  all_goals
    go_ret
    refine ⟨?_, rfl⟩
    simp [isBl]
    try (rw [Bool.eq_iff_iff]; simp)
    try omega

theorem blank_at (n : Nat) (w : World) (b : Bool) (hb : isBl n = b) : Calls Tryz.prog 61 #[.int .u8 (n : Int)] w fun e w' => e = .returned (.bool b) ∧ w' = w := by subst hb; exact blank_any n w
theorem digit4_at (n : Nat) (w : World) (b : Bool) (hb : isDig n = b) : Calls Tryz.prog 97 #[.int .u8 (n : Int)] w fun e w' => e = .returned (.bool b) ∧ w' = w := by subst hb; exact digit4_any n w
theorem letterL_at (n : Nat) (w : World) (b : Bool) (hb : isLet n = b) : Calls Tryz.prog 99 #[.int .u8 (n : Int)] w fun e w' => e = .returned (.bool b) ∧ w' = w := by subst hb; exact letter_any n w

/-- What run passes over. -/
def ruN (b : Bool) (l : List UInt8) : Nat := if b then alN l else dgN l

theorem ruN_yes (s : ByteArray) (b : Bool) (j : Nat) (h : j < s.size) (hc : (isDig s[j].toNat || (b && isLet s[j].toNat)) = true) : ruN b ((bytes s).drop j) = ruN b ((bytes s).drop (j + 1)) + 1 := by
  cases b
  · simp only [Bool.false_and, Bool.or_false] at hc
    exact dgN_yes s j h hc
  · simp only [Bool.true_and] at hc
    exact alN_yes s j h (by rw [Bool.or_comm]; exact hc)
theorem ruN_no (s : ByteArray) (b : Bool) (j : Nat) (h : j < s.size) (hc : (isDig s[j].toNat || (b && isLet s[j].toNat)) = false) : ruN b ((bytes s).drop j) = 0 := by
  cases b
  · simp only [Bool.false_and, Bool.or_false] at hc
    exact dgN_no s j h hc
  · simp only [Bool.true_and] at hc
    exact alN_no s j h (by rw [Bool.or_comm]; exact hc)
theorem ruN_end (s : ByteArray) (b : Bool) (j : Nat) (h : ¬ j < s.size) : ruN b ((bytes s).drop j) = 0 := by
  cases b
  · exact dgN_end s j h
  · exact alN_end s j h

set_option maxRecDepth 100000 in
set_option maxHeartbeats 800000 in
theorem run_any (s : ByteArray) (k : Nat) (b : Bool) (w : World) (hk : k ≤ s.size) (hs : s.size ≤ 1099511627776) :
    Calls Tryz.prog 100 #[.string s, .int .i64 (k : Int), .bool b] w fun e w' => e = .returned (.int .i64 ((k + ruN b ((bytes s).drop k) : Nat) : Int)) ∧ w' = w := by
  obtain ⟨T, hT⟩ : ∃ T, Hid (T = k + ruN b ((bytes s).drop k)) := ⟨_, (rfl : k + ruN b ((bytes s).drop k) = _)⟩
  rw [← hT.out]
  go_enter Tryz.func100, Tryz.ntmps100
  go_wp2
  go_loopw [1] (fun j wr => ∃ i : Nat, j = .int .i64 (i : Int) ∧ i ≤ s.size ∧ Hid (i + ruN b ((bytes s).drop i) = T) ∧ wr = w) (fun j _ => s.size - (intOf j).toNat)
  case atStart => exact ⟨k, rfl, hk, hT.out.symm, rfl⟩
  case round =>
    obtain ⟨i, rfl, hi, hr, rfl⟩ := hrel
    by_cases hc : i < s.size
    · cases a2 : isDig s[i].toNat
      · cases b with
        | false =>
          have hN := ruN_no s false i hc (by rw [a2]; rfl)
          have hfin : Hid (i = T) := by show _ = _; have := hr.out; omega
          clear hN
          go_wp2_with (first | (go_at_call 97; refine (digit4_at _ _ false a2).mono ?_; rintro e w2 ⟨rfl, rfl⟩))
          go_ret
          exact ⟨by rw [← hfin.out]; rfl, rfl⟩
        | true =>
          cases a1 : isLet s[i].toNat
          · have hN := ruN_no s true i hc (by rw [a1, a2]; rfl)
            have hfin : Hid (i = T) := by show _ = _; have := hr.out; omega
            clear hN
            go_wp2_with (first | (go_at_call 97; refine (digit4_at _ _ false a2).mono ?_; rintro e w2 ⟨rfl, rfl⟩) | (go_at_call 99; refine (letterL_at _ _ false a1).mono ?_; rintro e w2 ⟨rfl, rfl⟩))
            go_ret
            exact ⟨by rw [← hfin.out]; rfl, rfl⟩
          · have hN := ruN_yes s true i hc (by rw [a1, a2]; rfl)
            have hr' : Hid (i + 1 + ruN true ((bytes s).drop (i + 1)) = T) := by show _ = _; have := hr.out; omega
            clear hN hr
            go_wp2_with (first | (go_at_call 97; refine (digit4_at _ _ false a2).mono ?_; rintro e w2 ⟨rfl, rfl⟩) | (go_at_call 99; refine (letterL_at _ _ true a1).mono ?_; rintro e w2 ⟨rfl, rfl⟩))
            go_roundw
            case rel => exact ⟨i + 1, by go_num, by omega, hr', trivial⟩
            case measure => simp [intOf]; omega
      · have hN := ruN_yes s b i hc (by rw [a2]; rfl)
        have hr' : Hid (i + 1 + ruN b ((bytes s).drop (i + 1)) = T) := by show _ = _; have := hr.out; omega
        clear hN hr
        go_wp2_with (first | (go_at_call 97; refine (digit4_at _ _ true a2).mono ?_; rintro e w2 ⟨rfl, rfl⟩))
        go_roundw
        case rel => exact ⟨i + 1, by go_num, by omega, hr', trivial⟩
        case measure => simp [intOf]; omega
    · have hN := ruN_end s b i hc
      have hfin : Hid (i = T) := by show _ = _; have := hr.out; omega
      clear hN
      go_wp2
      go_ret
      exact ⟨by rw [← hfin.out]; rfl, rfl⟩

theorem dig_sub (c : Nat) (h1 : 48 ≤ c) (h2 : c ≤ 57) : ((c : Int) - 48) % 256 = ((c - 48 : Nat) : Int) := by omega

/-- What whole answers. -/
def WholePost (x : List UInt8) (e : Ending) : Prop :=
  (GoodDec x ∧ e = .returned (.tuple #[.int .u64 (decVal x : Nat), .bool true])) ∨ (¬ GoodDec x ∧ ∃ n : Nat, n < 18446744073709551616 ∧ e = .returned (.tuple #[.int .u64 (n : Int), .bool false]))

end Go.Proofs.YtjgggmjjikopeaaGreatDoor

/- The document's own whole and sign. -/
namespace Go.Proofs.YtjgggmjjikopeaaGreatDoor
open Go.RowKit
set_option linter.unusedVariables false

theorem digs_at (x : List UInt8) (h : allDg x) (j : Nat) (hj : j < x.length) : 48 ≤ (x.getD j 0).toNat ∧ (x.getD j 0).toNat ≤ 57 := by
  have : x.getD j 0 ∈ x := by simp [List.getD, List.getElem?_eq_getElem hj]
  exact h _ this

theorem val_19 (x : List UInt8) (h : allDg x) (k : Nat) (hk : k ≤ x.length) (h19 : x.length ≤ 19) : decVal (x.take k) < 10 ^ 19 := by
  have := val_lt x k hk (fun j hj => digs_at x h j (by omega))
  exact Nat.lt_of_lt_of_le this (Nat.pow_le_pow_right (by decide) (by omega))

theorem many_digits (x : List UInt8) (h : allDg x) (h19 : 19 < x.length) (h0 : ¬ (x.getD 0 0).toNat = 48) : 9223372036854775807 < decVal x := by
  obtain ⟨n, hn⟩ : ∃ n, x.length = n + 20 := ⟨x.length - 20, by omega⟩
  have hg : ∀ j, j < x.length → 48 ≤ (x.getD j 0).toNat ∧ (x.getD j 0).toNat ≤ 57 := fun j hj => digs_at x h j hj
  have := val_ge x (by omega) hg (fun e => absurd e h0) (n + 19) (by omega)
  rw [List.take_of_length_le (by omega)] at this
  refine Nat.lt_of_lt_of_le ?_ this
  exact Nat.lt_of_lt_of_le (show 9223372036854775807 < 10 ^ 19 by decide) (Nat.pow_le_pow_right (by decide) (by omega))

set_option maxRecDepth 100000 in
set_option maxHeartbeats 800000 in
theorem whole_any (S : ByteArray) (w : World) (hp : 0 < S.size) (hmax : S.size ≤ 1099511627776) (hd : allDg (bytes S)) :
    Calls Tryz.prog 130 #[.string S] w fun e w' => WholePost (bytes S) e ∧ w' = w := by
  have hgi := good_iff (bytes S) hd (by rw [bytes_length]; exact hp)
  rw [bytes_length, bytes_at S 0 hp] at hgi
  obtain ⟨c0, hc0⟩ : ∃ c0 : Nat, S[0].toNat = c0 := ⟨_, rfl⟩
  rw [hc0] at hgi
  by_cases h19 : 19 < S.size
  · have hno : ¬ GoodDec (bytes S) := by
      intro g
      have h1 := hgi.1 g
      by_cases h48 : c0 = 48
      · have := h1.1 h48; omega
      · have := many_digits (bytes S) hd (by rw [bytes_length]; exact h19) (by rw [bytes_at S 0 hp, hc0]; exact h48)
        omega
    clear hgi
    go_enter Tryz.func130, Tryz.ntmps130
    go_wp2
    go_ret2
    exact ⟨.inr ⟨hno, 0, by omega, rfl⟩, rfl⟩
  · by_cases hz : c0 = 48 ∧ 1 < S.size
    · obtain ⟨h1, h2⟩ := hz
      have hno : ¬ GoodDec (bytes S) := by intro g; have := (hgi.1 g).1 h1; omega
      have hc' : (c0 : Int) = 48 := by omega
      clear hgi
      go_enter Tryz.func130, Tryz.ntmps130
      go_wp2
      go_ret2
      exact ⟨.inr ⟨hno, 0, by omega, rfl⟩, rfl⟩
    · have hz' : decide (1 < (S.size : Int)) = true ∧ ((c0 : Int) == 48) = false ∨ decide (1 < (S.size : Int)) = false := by
        by_cases h : 1 < S.size
        · left
          refine ⟨by simp; omega, ?_⟩
          rw [beq_eq_false_iff_ne]
          intro h48
          exact hz ⟨by omega, h⟩
        · right; simp; omega
      have hone : c0 = 48 → S.size = 1 := fun h => by
        have : ¬ 1 < S.size := fun h2 => hz ⟨h, h2⟩
        omega
      have hV19 : decVal (bytes S) < 10 ^ 19 := by
        have := val_19 (bytes S) hd S.size (by rw [bytes_length]; omega) (by rw [bytes_length]; omega)
        rwa [List.take_of_length_le (by rw [bytes_length]; omega)] at this
      have HV : ∀ k, k ≤ S.size → decVal ((bytes S).take k) < 10 ^ 19 := fun k hk => val_19 (bytes S) hd k (by rw [bytes_length]; exact hk) (by rw [bytes_length]; omega)
      have HDS : ∀ k (hk : k < S.size), 48 ≤ S[k].toNat ∧ S[k].toNat ≤ 57 ∧ decVal ((bytes S).take (k + 1)) = decVal ((bytes S).take k) * 10 + (S[k].toNat - 48) := fun k hk => by
        have h1 := digs_at (bytes S) hd k (by rw [bytes_length]; exact hk)
        rw [bytes_at S k hk] at h1
        have h2 := val_take (bytes S) k (by rw [bytes_length]; exact hk)
        rw [bytes_at S k hk] at h2
        exact ⟨h1.1, h1.2, h2⟩
      have HV' : Hid (∀ k, k ≤ S.size → decVal ((bytes S).take k) < 10 ^ 19) := HV
      have HDS' : Hid (∀ k (hk : k < S.size), 48 ≤ S[k].toNat ∧ S[k].toNat ≤ 57 ∧ decVal ((bytes S).take (k + 1)) = decVal ((bytes S).take k) * 10 + (S[k].toNat - 48)) := HDS
      have HGI : Hid (GoodDec (bytes S) ↔ decVal (bytes S) ≤ 9223372036854775807) := hgi.trans ⟨fun h => h.2, fun h => ⟨hone, h⟩⟩
      have HV19 : Hid (decVal (bytes S) < 10 ^ 19) := hV19
      have HDD : Hid (allDg (bytes S)) := hd
      clear HV HDS hgi hV19 hz hone hd
      rcases hz' with ⟨hz1, hz2⟩ | hz1
      all_goals
        go_enter Tryz.func130, Tryz.ntmps130
        go_wp2
        go_loopw [4, 5] (fun n j wr => ∃ (i N : Nat), n = .int .u64 (N : Int) ∧ j = .int .i64 (i : Int) ∧ i ≤ S.size ∧ Hid (N = decVal ((bytes S).take i)) ∧ wr = w) (fun _ j _ => S.size - (intOf j).toNat)
        case atStart => exact ⟨0, 0, rfl, rfl, by omega, rfl, rfl⟩
        case round =>
          obtain ⟨i, N, rfl, rfl, hi, hN, rfl⟩ := hrel
          by_cases hc : i < S.size
          · obtain ⟨h1, h2, h3⟩ := HDS'.out i hc
            have h4 := HV'.out (i + 1) (by omega)
            rw [h3, ← hN.out] at h4
            have hN' : Hid (N * 10 + (S[i].toNat - 48) = decVal ((bytes S).take (i + 1))) := by show _ = _; rw [h3, hN.out]
            obtain ⟨c, hcc⟩ : ∃ c : Nat, S[i].toNat = c := ⟨_, rfl⟩
            rw [hcc] at h1 h2 h4 hN'
            have hsub := dig_sub c h1 h2
            clear h3 hN
            have h5 : N * 10 + (c - 48) < 18446744073709551616 := Nat.lt_trans h4 (by decide)
            go_wp2
            go_roundw
            case rel => exact ⟨i + 1, N * 10 + (c - 48), by go_num, by go_num, by omega, hN', trivial⟩
            case measure => simp [intOf]; omega
          · have hfin : Hid (N = decVal (bytes S)) := by
              show _ = _
              rw [hN.out, List.take_of_length_le (by rw [bytes_length]; omega)]
            have h4 : N < 10 ^ 19 := by rw [hfin.out]; exact HV19.out
            by_cases hg : N ≤ 9223372036854775807
            · go_wp2
              go_ret2
              refine ⟨.inl ⟨HGI.out.2 (by rw [← hfin.out]; exact hg), ?_⟩, rfl⟩
              rw [← hfin.out]
              simp
              omega
            · go_wp2
              go_ret2
              refine ⟨.inr ⟨fun g => hg (by rw [hfin.out]; exact HGI.out.1 g), N, Nat.lt_trans h4 (by decide), ?_⟩, rfl⟩
              simp
              omega

end Go.Proofs.YtjgggmjjikopeaaGreatDoor

/- The document's own sign: the longest sign that begins at a place. -/
namespace Go.Proofs.YtjgggmjjikopeaaGreatDoor
open Go.RowKit
set_option linter.unusedVariables false

/-- The signs, those of two bytes first. -/
def sgl : List (List UInt8) := [[61, 61], [33, 61], [60, 61], [62, 61], [38, 38], [124, 124], [59], [123], [125], [40], [41], [61], [60], [62], [43], [45], [42], [47], [37], [33]]

/-- The first of these, from one on, with which a text begins. -/
def sgFrom (i : Nat) (d : List UInt8) : List UInt8 := ((sgl.drop i).find? (fun t => t.isPrefixOf d)).getD []

theorem sgFrom_yes (i : Nat) (d : List UInt8) (hi : i < 20) (h : (sgl.getD i []).isPrefixOf d = true) : sgFrom i d = sgl.getD i [] := by
  have h2 : i < sgl.length := hi
  have e : sgl.getD i [] = sgl[i] := by simp [List.getD, h2]
  rw [e] at h ⊢
  unfold sgFrom
  rw [List.drop_eq_getElem_cons h2]
  simp only [List.find?_cons, h]
  rfl

theorem sgFrom_no (i : Nat) (d : List UInt8) (hi : i < 20) (h : (sgl.getD i []).isPrefixOf d = false) : sgFrom i d = sgFrom (i + 1) d := by
  have h2 : i < sgl.length := hi
  have e : sgl.getD i [] = sgl[i] := by simp [List.getD, h2]
  rw [e] at h
  unfold sgFrom
  rw [List.drop_eq_getElem_cons h2]
  simp only [List.find?_cons, h]

theorem sgl_len : ∀ i, i < 20 → 1 ≤ (sgl.getD i []).length ∧ (sgl.getD i []).length ≤ 2 := by decide

theorem pre_iff (s : ByteArray) (k : Nat) (t : List UInt8) : t.isPrefixOf ((bytes s).drop k) = true ↔ k + t.length ≤ max k s.size ∧ bytes (s.extract k (k + t.length)) = t := by
  rw [List.isPrefixOf_iff_prefix, bytes_extract, Nat.add_sub_cancel_left, List.prefix_iff_eq_take]
  constructor
  · intro h
    have hl := congrArg List.length h
    rw [List.length_take, List.length_drop, bytes_length] at hl
    exact ⟨by omega, h.symm⟩
  · rintro ⟨_, h⟩; exact h.symm

/-- The signs of two bytes, and of one. -/
def sg2 : List (List UInt8) := [[61, 61], [33, 61], [60, 61], [62, 61], [38, 38], [124, 124]]
def sg1 : List (List UInt8) := [[59], [123], [125], [40], [41], [61], [60], [62], [43], [45], [42], [47], [37], [33]]

theorem sg_mem (l : List UInt8) : l ∈ signs ↔ l ∈ sg2 ∨ l ∈ sg1 := by
  simp only [signs, sg2, sg1, List.mem_cons, List.not_mem_nil, or_false]
  constructor
  · rintro (h | h | h | h | h | h | h | h | h | h | h | h | h | h | h | h | h | h | h | h) <;> simp [h]
  · rintro ((h | h | h | h | h | h) | (h | h | h | h | h | h | h | h | h | h | h | h | h | h)) <;> simp [h]

theorem sg2_len : ∀ t ∈ sg2, t.length = 2 := by decide
theorem sg1_len : ∀ t ∈ sg1, t.length = 1 := by decide

theorem find_eq (L : List (List UInt8)) (p : List UInt8 → Bool) (x : List UInt8) (h : ∀ t ∈ L, p t = decide (t = x)) : L.find? p = if x ∈ L then some x else none := by
  induction L with
  | nil => simp
  | cons t r ih =>
    have h1 := h t List.mem_cons_self
    have h2 := ih fun u hu => h u (List.mem_cons_of_mem _ hu)
    by_cases e : t = x
    · subst e
      rw [List.find?_cons_of_pos (by rw [h1]; simp)]
      simp
    · rw [List.find?_cons_of_neg (by rw [h1]; simp [e]), h2]
      simp only [List.mem_cons, show ¬ x = t from fun e2 => e e2.symm, false_or]

theorem pre_len (t d : List UInt8) (n : Nat) (h : t.length = n) : t.isPrefixOf d = decide (t = d.take n) := by
  subst h
  rw [Bool.eq_iff_iff, List.isPrefixOf_iff_prefix, List.prefix_iff_eq_take, decide_eq_true_eq]

/-- What the document's sign tells is what the code takes for one. -/
theorem sgFrom_zero (c : UInt8) (r : List UInt8) : sgFrom 0 (c :: r) = if isSg ((c :: r).take (sgN c r + 1)) then (c :: r).take (sgN c r + 1) else [] := by
  have e : sgFrom 0 (c :: r) = ((sg2 ++ sg1).find? (fun t => t.isPrefixOf (c :: r))).getD [] := rfl
  rw [e, List.find?_append, find_eq sg2 _ ((c :: r).take 2) (fun t ht => pre_len t _ 2 (sg2_len t ht)), find_eq sg1 _ ((c :: r).take 1) (fun t ht => pre_len t _ 1 (sg1_len t ht))]
  by_cases h2 : (c :: r).take 2 ∈ sg2
  · have hl := sg2_len _ h2
    cases r with
    | nil => simp at hl
    | cons d q =>
      have hsg : isSg [c, d] = true := by
        simp only [isSg, decide_eq_true_eq]
        exact (sg_mem _).2 (.inl h2)
      simp only [sgN, hsg, if_true, if_pos h2]
      rw [show (c :: d :: q).take (1 + 1) = [c, d] from rfl, hsg]
      rfl
  · have hz : sgN c r = 0 := by
      cases r with
      | nil => rfl
      | cons d q =>
        simp only [sgN]
        rw [if_neg]
        simp only [isSg, decide_eq_true_eq]
        intro hm
        rcases (sg_mem _).1 hm with h | h
        · exact h2 h
        · have := sg1_len _ h; simp at this
    rw [hz, if_neg h2]
    have e1 : (c :: r).take (0 + 1) = [c] := by simp
    rw [e1]
    have hs : isSg [c] = decide ([c] ∈ sg1) := by
      simp only [isSg]
      congr 1
      rw [sg_mem, eq_iff_iff]
      constructor
      · rintro (h | h)
        · have := sg2_len _ h; simp at this
        · exact h
      · exact .inr
    rw [hs]
    by_cases h1 : [c] ∈ sg1
    · simp [h1]
    · simp [h1]

/-- The cells of the signs. -/
def sglCells : List Value := sgl.map fun x => .string ⟨x.toArray⟩

theorem i9' : (Tryz.prog.info? 9).map (fun i => (i.zero, i.size, i.bytes)) = some (some (.string ⟨#[]⟩), 1, 16) := by kernel_rfl

/-- Texts are laid as a row. -/
theorem wpList_strsL {ops : Array Oper} {rest : List Oper} {o : Oper} {a : Act} {w : World} {Q : Exit → Act → World → Prop} (hgd : o.guard = none) (n : Nat) (parts : Array (Nat × Operand)) (ho : o.op = .buildSlice 23 n parts) (cs : List Value) (h0 : 0 < n) (hn : n ≤ 1000)
    (hf : Instr.fill (fun i => some (i * 1, 1)) ((Array.range (n * 1)).map ((Value.string ⟨#[]⟩).cells[· % (Value.string ⟨#[]⟩).cells.size]!)) (parts.map fun (i, x) => (i, a.eval x)).toList = some cs.toArray)
    (h : ∀ w', At 9 w' w.heap.size cs → Below w.heap.size w w' → w'.heap.size = w.heap.size + 1 → wpList Tryz.prog ops Q rest (a.put o.dst (.slice (some ⟨w.heap.size, 0, none⟩) n n)) w') :
    wpList Tryz.prog ops Q (o :: rest) a w := by
  obtain ⟨ie, hi, hz0, hz1, hz2⟩ := info_parts i9'
  refine wpList_buildSlice hgd 23 9 n parts ho cs.toArray ie (.string ⟨#[]⟩) Tryz.underlying23 hi hz0 (by rw [hz1]; omega) (by rw [hz1]; omega) ?_ ?_
  · rw [hz1]; exact hf
  · exact h _ (_root_.Go.heap_alloc_new w _) ((Below.refl _ w).alloc (Nat.le_refl _) _) (by show (w.heap.push _).size = _; simp)

theorem sglCell (w : World) (g i : Nat) (hi : i < 20) (hA : At 9 w g sglCells) : w.cell? ⟨g, i, none⟩ = some (.string ⟨(sgl.getD i []).toArray⟩) := by
  have h2 : i < sgl.length := hi
  rw [hA.cell]
  simp [sglCells, List.getD, h2]

set_option maxRecDepth 100000 in
set_option maxHeartbeats 800000 in
theorem refSignA_any (s : ByteArray) (k : Nat) (w : World) (hk : k < s.size) (hs : s.size ≤ 1099511627776) :
    Calls Tryz.prog 101 #[.string s, .int .i64 (k : Int)] w fun e w' => e = .returned (.string ⟨(sgFrom 0 ((bytes s).drop k)).toArray⟩) ∧ Below w.heap.size w w' := by
  obtain ⟨B, hB⟩ : ∃ B, Hid (B = sgFrom 0 ((bytes s).drop k)) := ⟨_, (rfl : sgFrom 0 ((bytes s).drop k) = _)⟩
  rw [← hB.out]
  go_enter Tryz.func101, Tryz.ntmps101
  go_wp2_with (first | ((with_reducible show wpList _ _ _ _ _ _); refine wpList_strsL rfl 20 _ rfl sglCells (by decide) (by decide) (by kernel_rfl) ?_; intro w1 hA1 hb1 hs1))
  have HC : Hid (∀ i, i < 20 → w1.cell? ⟨w.heap.size, i, none⟩ = some (.string ⟨(sgl.getD i []).toArray⟩)) := fun i hi => sglCell w1 _ i hi hA1
  clear hA1
  go_loopw [6] (fun j wr => ∃ i : Nat, j = .int .i64 (i : Int) ∧ i ≤ 20 ∧ Hid (sgFrom i ((bytes s).drop k) = B) ∧ ∃ q, wr = w1.drewN q) (fun j _ => 20 - (intOf j).toNat)
  case atStart => exact ⟨0, rfl, by omega, hB.out.symm, 0, rfl⟩
  case round =>
    obtain ⟨i, rfl, hi, hr, q, rfl⟩ := hrel
    by_cases hc : i < 20
    · have hcell := HC.out i hc
      have hlen := sgl_len i hc
      have hpre := pre_iff s k (sgl.getD i [])
      have hyes := sgFrom_yes i ((bytes s).drop k) hc
      have hno := sgFrom_no i ((bytes s).drop k) hc
      obtain ⟨t, ht⟩ : ∃ t, Hid (t = sgl.getD i []) := ⟨_, (rfl : sgl.getD i [] = _)⟩
      rw [← ht.out] at hcell hlen hpre hyes hno
      obtain ⟨W, hW⟩ : ∃ W : ByteArray, Hid (W = ⟨t.toArray⟩) := ⟨_, (rfl : (⟨t.toArray⟩ : ByteArray) = _)⟩
      obtain ⟨m, hm⟩ : ∃ m, Hid (m = t.length) := ⟨_, (rfl : t.length = _)⟩
      have hWz : W.size = m := by rw [hW.out, hm.out]; simp [ByteArray.size]
      rw [← hm.out] at hlen hpre
      have hw1 : IntKind.i64.wrap ((k : Int) + (m : Int)) = (k : Int) + (m : Int) := by rw [IntKind.wrap_i64]; omega
      rw [← hW.out] at hcell
      by_cases hp : t.isPrefixOf ((bytes s).drop k) = true
      · obtain ⟨h1, h2⟩ := hpre.1 hp
        have hle : k + m ≤ s.size := by omega
        have hdec : ((k : Int) + (m : Int) ≤ (s.size : Int)) := by omega
        have heq : ((s.extract k (k + m)).toList == W.toList) = true := by
          rw [toList_bytes, toList_bytes, h2, hW.out]; simp [bytes]
        have hfin : Hid (B = t) := by show _ = _; rw [← hr.out]; exact hyes hp
        clear hp hpre hyes hno h1 h2 hlen
        go_wp2_with fail
        go_quiet (fail)
        go_wp2
        go_ret
        exact ⟨by rw [hfin.out, ← hW.out]; rfl, ⟨hb1.os, hb1.tape, hb1.output, hb1.size, hb1.block⟩⟩
      · have hpf : t.isPrefixOf ((bytes s).drop k) = false := Bool.eq_false_iff.2 hp
        have hr' : Hid (sgFrom (i + 1) ((bytes s).drop k) = B) := by show _ = _; rw [← hr.out]; exact (hno hpf).symm
        by_cases hle : k + m ≤ s.size
        · have heq : ((s.extract k (k + m)).toList == W.toList) = false := by
            rw [toList_bytes, toList_bytes, beq_eq_false_iff_ne]
            intro h0
            refine hp (hpre.2 ⟨by omega, ?_⟩)
            rw [h0, hW.out]; simp [bytes]
          have hdec : ((k : Int) + (m : Int) ≤ (s.size : Int)) := by omega
          clear hp hpre hyes hno hlen hpf hr
          go_wp2_with fail
          go_quiet (fail)
          go_wp2
          go_roundw
          case rel => exact ⟨i + 1, by go_num, by omega, hr', _, rfl⟩
          case measure => simp [intOf]; omega
        · have hdec : decide ((k : Int) + (m : Int) ≤ (s.size : Int)) = false := by simp; omega
          clear hp hpre hyes hno hlen hpf hr
          go_wp2_with fail
          go_quiet (fail)
          go_wp2
          go_roundw
          case rel => exact ⟨i + 1, by go_num, by omega, hr', _, rfl⟩
          case measure => simp [intOf]; omega
    · have hfin : Hid (B = []) := by
        show _ = _
        rw [← hr.out, show i = 20 by omega]
        rfl
      go_wp2
      go_ret
      exact ⟨by rw [hfin.out]; rfl, ⟨hb1.os, hb1.tape, hb1.output, hb1.size, hb1.block⟩⟩
end Go.Proofs.YtjgggmjjikopeaaGreatDoor

/- One cell stored into a known block; two structs handed back. -/
namespace Go.Proofs.YtjgggmjjikopeaaGreatDoor
open Go.RowKit
set_option linter.unusedVariables false

theorem run_storeVar_cell {P : Program} (w : World) (b o : Nat) (ty : TypeId) (v : Value) (ht : w.there b o 1) (hi : (P.info? ty).map (·.size) = some 1) (hc : v.cells = #[v]) (h1 : v.oneCell' = true) :
    (storeVar ty ⟨b, o, none⟩ v).run P w = .ok () (w.setCell ⟨b, o, none⟩ v) := by
  have := run_storeCells_cells (P := P) b o [v] 0 w (fun j hj => by simpa using (ht j (by simpa using hj)).1) (fun j hj => by simpa using (ht j (by simpa using hj)).2) (fun u hu => by simp at hu; subst hu; exact h1)
  cases hq : P.info? ty with
  | none => simp [hq] at hi
  | some i =>
    have hs : i.size = 1 := by simp [hq] at hi; omega
    simp only [Nat.add_zero] at this
    simp [storeVar, sizeOf, typeInfo, hq, hc, hs, this, World.setCells]

/-- One cell is stored into a block that is known. -/
theorem wpList_store_one {P : Program} {ops : Array Oper} {rest : List Oper} {o : Oper} {a : Act} {w : World} {Q : Exit → Act → World → Prop} (hgd : o.guard = none) (ty : TypeId) (x y : Operand) (ho : o.op = .store ty x y)
    (g off : Nat) (v : Value) (hx : a.eval x = .pointer (some ⟨g, off, none⟩)) (hy : a.eval y = v)
    (t : TypeId) (old : List Value) (hg : At t w g old) (hold : off + 1 ≤ old.length) (hi : (P.info? ty).map (·.size) = some 1) (hc : v.cells = #[v]) (h1 : v.oneCell' = true)
    (h : ∀ w', At t w' g (old.set off v) → But g w w' → w'.heap.size = w.heap.size → wpList P ops Q rest (a.put o.dst undef) w') : wpList P ops Q (o :: rest) a w := by
  refine wpList_plain hgd fun K hK => ?_
  have := hK _ _ (h _ (hg.set off v) ((But.refl g w).setCell off v) (by simp))
  unfold Oper.wp execOp
  simp only [ho, hx, hy, Instr.storeAt, Instr.sureAddr, Sem.run_bind, Sem.run_pure, Result.andThen_ok, run_storeVar_cell w g off ty v (hg.there off 1 hold) hi hc h1]
  exact this

theorem results_at_at {P : Program} {fn : Func} {p u : Tmp} {ty tu : TypeId} (h : fn.results = #[.cell p ty, .cell u tu]) (tmps : Array Value) (w : World) (g g' : Nat) (t t' : TypeId) (cs cs' : List Value) (d d' : TypeDesc)
    (hp : tmps.getD p undef = .pointer (some ⟨g, 0, none⟩)) (hg : At t w g cs) (hu : P.underlying ty = some d) (hd : (match d with | .struct _ | .array _ _ => true | _ => false) = true) (hi : (P.info? ty).map (·.size) = some cs.length)
    (hp' : tmps.getD u undef = .pointer (some ⟨g', 0, none⟩)) (hg' : At t' w g' cs') (hu' : P.underlying tu = some d') (hd' : (match d' with | .struct _ | .array _ _ => true | _ => false) = true) (hi' : (P.info? tu).map (·.size) = some cs'.length) :
    (results fn tmps).run P w = .ok (.tuple #[.agg cs.toArray, .agg cs'.toArray]) w := by
  have e1 : tmps[p]?.getD undef = .pointer (some ⟨g, 0, none⟩) := by simpa using hp
  have e2 : tmps[u]?.getD undef = .pointer (some ⟨g', 0, none⟩) := by simpa using hp'
  have hl := run_loadVar_row (P := P) w g t ty cs.toArray (0, 0) d hg hu hd (by simpa using hi)
  have hl' := run_loadVar_row (P := P) w g' t' tu cs'.toArray (0, 0) d' hg' hu' hd' (by simpa using hi')
  simp [results, h, e1, e2, asAddr, hl, hl']

theorem i3 : (Tryz.prog.info? 3).map (·.size) = some 1 := by kernel_rfl
theorem i9 : (Tryz.prog.info? 9).map (·.size) = some 1 := by kernel_rfl

/-- The number's scan, by digits. -/
theorem nm_dg (r : List UInt8) : nmN r = if isPt (r.drop (dgN r)) then (3, dgN r + 1 + dgN (r.drop (dgN r + 1))) else (2, dgN r) := by
  induction r with
  | nil => rfl
  | cons c q ih =>
    by_cases hd : isDig c.toNat = true
    · have hnp : isPt (c :: q) = false := by
        cases q with
        | nil => rfl
        | cons d p =>
          have : ¬ c = 46 := by
            rintro rfl
            exact absurd hd (by decide)
          simp [isPt, this]
      have e1 : dgN (c :: q) = dgN q + 1 := by simp [dgN, hd]
      have e2 : nmN (c :: q) = ((nmN q).1, (nmN q).2 + 1) := by simp [nmN, hnp, hd]
      rw [e1, e2, ih, List.drop_succ_cons, List.drop_succ_cons]
      split
      · simp only [Prod.mk.injEq, true_and]; omega
      · rfl
    · have e1 : dgN (c :: q) = 0 := by simp [dgN, hd]
      rw [e1, List.drop_zero]
      by_cases hp : isPt (c :: q) = true
      · have e2 : nmN (c :: q) = (3, dgN q + 1) := by simp [nmN, hp]
        rw [e2, if_pos hp, Nat.zero_add, List.drop_succ_cons, List.drop_zero]
        simp only [Prod.mk.injEq, true_and]; omega
      · have e2 : nmN (c :: q) = (2, 0) := by simp [nmN, hp, hd]
        rw [e2, if_neg hp]

/-- A number's kind and length, as the document's own number finds them. -/
theorem end_num (s : ByteArray) (k : Nat) (hk : k < s.size) (hd : isDig s[k].toNat = true) (hl : isLet s[k].toNat = false) :
    endOf ((bytes s).drop k) = if isPt ((bytes s).drop (k + dgN ((bytes s).drop k))) then (3, dgN ((bytes s).drop k) + 1 + dgN ((bytes s).drop (k + dgN ((bytes s).drop k) + 1))) else (2, dgN ((bytes s).drop k)) := by
  have h1 := dgN_yes s k hk hd
  have h2 : endOf ((bytes s).drop k) = ((nmN ((bytes s).drop (k + 1))).1, (nmN ((bytes s).drop (k + 1))).2 + 1) := by
    rw [drop_at s k hk]; simp only [endOf, hl, hd, if_true]; rfl
  rw [h2, nm_dg, h1, List.drop_drop, List.drop_drop]
  rw [show k + 1 + dgN ((bytes s).drop (k + 1)) = k + (dgN ((bytes s).drop (k + 1)) + 1) by omega, show k + 1 + (dgN ((bytes s).drop (k + 1)) + 1) = k + (dgN ((bytes s).drop (k + 1)) + 1) + 1 by omega]
  split
  · simp only [Prod.mk.injEq, true_and]; omega
  · rfl

/-- What one answers. -/
def oneTok (s : ByteArray) (k K n : Nat) : List Value :=
  if errOf K (((bytes s).drop k).take n) = 0 ∧ clB K ((bytes s).drop (k + n)) = false then tok5 K (s.extract k (k + n)) k (valT K) (valB K (((bytes s).drop k).take n)) else tok5 0 ⟨#[]⟩ 0 0 0
def oneFa (s : ByteArray) (k K n : Nat) : List Value :=
  if errOf K (((bytes s).drop k).take n) ≠ 0 then fa2 (errOf K (((bytes s).drop k).take n)) k else if clB K ((bytes s).drop (k + n)) = true then fa2 4 (k + n) else fa2 0 0

theorem pt_yes (s : ByteArray) (j : Nat) (h : isPt ((bytes s).drop j) = true) : ∃ hj : j + 1 < s.size, (s[j].toNat : Int) = 46 ∧ isDig s[j + 1].toNat = true := by
  by_cases hj : j + 1 < s.size
  · refine ⟨hj, ?_⟩
    rw [drop_at s j (by omega), drop_at s (j + 1) hj] at h
    simp only [isPt, Bool.and_eq_true, decide_eq_true_eq] at h
    exact ⟨by rw [h.1]; rfl, h.2⟩
  · rw [isPt_short _ (by rw [List.length_drop, bytes_length]; omega)] at h
    simp at h

theorem pt_no (s : ByteArray) (j : Nat) (h : isPt ((bytes s).drop j) = false) : ¬ j + 1 < s.size ∨ ∃ hj : j + 1 < s.size, ((s[j].toNat : Int) == 46) = false ∨ ((s[j].toNat : Int) = 46 ∧ isDig s[j + 1].toNat = false) := by
  by_cases hj : j + 1 < s.size
  · refine .inr ⟨hj, ?_⟩
    rw [drop_at s j (by omega), drop_at s (j + 1) hj] at h
    by_cases h46 : s[j].toNat = 46
    · right
      refine ⟨by omega, ?_⟩
      have : s[j] = 46 := UInt8.toNat_inj.1 h46
      simpa [isPt, this] using h
    · exact .inl (by rw [beq_eq_false_iff_ne]; omega)
  · exact .inl hj

theorem cl_yes (s : ByteArray) (j K : Nat) (h : clB K ((bytes s).drop j) = true) : ∃ hj : j < s.size, isLet s[j].toNat = true ∨ (isLet s[j].toNat = false ∧ (s[j].toNat : Int) = 46) := by
  by_cases hj : j < s.size
  · refine ⟨hj, ?_⟩
    rw [drop_at s j hj] at h
    simp only [clB, Bool.and_eq_true, Bool.or_eq_true, decide_eq_true_eq] at h
    rcases h.2 with h1 | h1
    · exact .inl h1
    · cases h2 : isLet s[j].toNat
      · exact .inr ⟨rfl, by omega⟩
      · exact .inl rfl
  · rw [drop_end s j hj] at h
    simp [clB] at h

theorem cl_no (s : ByteArray) (j K : Nat) (hK : K = 2 ∨ K = 3) (h : clB K ((bytes s).drop j) = false) : ¬ j < s.size ∨ ∃ hj : j < s.size, isLet s[j].toNat = false ∧ ((s[j].toNat : Int) == 46) = false := by
  by_cases hj : j < s.size
  · refine .inr ⟨hj, ?_⟩
    rw [drop_at s j hj] at h
    have hKb : (decide (K = 2) || decide (K = 3)) = true := by simpa using hK
    simp only [clB, hKb, Bool.true_and, Bool.or_eq_false_iff, decide_eq_false_iff_not] at h
    refine ⟨h.1, ?_⟩
    rw [beq_eq_false_iff_ne]
    have := h.2
    omega
  · exact .inl hj

theorem letter_46 (w : World) : Calls Tryz.prog 99 #[.int .u8 46] w fun e w' => e = .returned (.bool false) ∧ w' = w := letterL_at 46 w false rfl

end Go.Proofs.YtjgggmjjikopeaaGreatDoor

/- The document's own number, without a point (2a). -/
namespace Go.Proofs.YtjgggmjjikopeaaGreatDoor
open Go.RowKit
set_option linter.unusedVariables false

set_option maxRecDepth 100000 in
set_option maxHeartbeats 4000000 in
theorem refNumber_2a (s : ByteArray) (k K n : Nat) (w : World) (hk : k < s.size) (hs : s.size ≤ 1099511627775) (hd : isDig s[k].toNat = true) (hl : isLet s[k].toNat = false) (hKn : endOf ((bytes s).drop k) = (K, n)) (hpt0 : isPt ((bytes s).drop (k + dgN ((bytes s).drop k))) = false) (hp10 : ¬ k + dgN ((bytes s).drop k) + 1 < s.size) :
    Calls Tryz.prog 98 #[.string s, .int .i64 (k : Int)] w fun e w' => e = .returned (.tuple #[.agg (oneTok s k K n).toArray, .agg (oneFa s k K n).toArray]) ∧ Below w.heap.size w w' := by
  have hbd := endOf_bounds ((bytes s).drop k) (by rw [List.length_drop, bytes_length]; omega)
  rw [hKn, List.length_drop, bytes_length] at hbd
  obtain ⟨hn1, hn2, _⟩ := hbd
  simp only [] at hn1 hn2
  have hdig : K = 2 → allDg (((bytes s).drop k).take n) := fun h => by have := end_digits ((bytes s).drop k) (by rw [hKn]; exact h); rwa [hKn] at this
  have hbS : bytes (s.extract k (k + n)) = ((bytes s).drop k).take n := by rw [bytes_extract, Nat.add_sub_cancel_left]
  have hen := end_num s k hk hd hl
  rw [hKn] at hen
  have hrun := fun w => run_any s k false w (by omega) (by omega)
  have hru : ruN false ((bytes s).drop k) = dgN ((bytes s).drop k) := rfl
  rw [hru] at hrun
  have hmle := dgN_le ((bytes s).drop k)
  rw [List.length_drop, bytes_length] at hmle
  have hm1 := dgN_yes s k hk hd
  obtain ⟨m, hm⟩ : ∃ m, Hid (m = dgN ((bytes s).drop k)) := ⟨_, (rfl : dgN ((bytes s).drop k) = _)⟩
  rw [← hm.out] at hen hrun hmle hm1
  have hpt := hpt0
  have hp1 := hp10
  clear hpt0 hp10
  simp only [← hm.out] at hpt hp1
  obtain ⟨S, hS⟩ : ∃ S, Hid (S = s.extract k (k + n)) := ⟨_, (rfl : s.extract k (k + n) = _)⟩
  have hSz : S.size = n := by rw [hS.out, ← bytes_length, hbS, List.length_take, List.length_drop, bytes_length]; omega
  obtain ⟨E, hE⟩ : ∃ E, E = k + n := ⟨_, rfl⟩
  have HPost : Hid (∀ e : Ending, e = .returned (.tuple #[.agg (oneTok s k K n).toArray, .agg (oneFa s k K n).toArray]) ↔ e = .returned (.tuple #[.agg (if errOf K (bytes S) = 0 ∧ clB K ((bytes s).drop E) = false then tok5 K S k (valT K) (valB K (bytes S)) else tok5 0 ⟨#[]⟩ 0 0 0).toArray, .agg (if errOf K (bytes S) ≠ 0 then fa2 (errOf K (bytes S)) k else if clB K ((bytes s).drop E) = true then fa2 4 E else fa2 0 0).toArray])) := by
    intro e; rw [oneTok, oneFa, hS.out, hbS, hE]
  have HDig : Hid (K = 2 → allDg (bytes S)) := by show K = 2 → _; rw [hS.out, hbS]; exact hdig
  have HRun : Hid (∀ w, Calls Tryz.prog 100 #[.string s, .int .i64 (k : Int), .bool false] w fun e w' => e = .returned (.int .i64 ((k + m : Nat) : Int)) ∧ w' = w) := hrun
  have hEle : E ≤ s.size := by omega
  have hkE : k ≤ E := by omega
  have hS2 : Hid (s.extract k E = S) := by show _ = _; rw [hS.out, hE]
  have hmp : 1 ≤ m := by omega
  clear hrun hdig hKn hru hm1
  rw [hpt] at hen
  simp only [Bool.false_eq_true, if_false, Prod.mk.injEq] at hen
  obtain ⟨rfl, rfl⟩ := hen
  have HPT : Hid (isPt ((bytes s).drop (k + n)) = false) := hpt
  clear hpt
  obtain rfl := hE
  go_enter Tryz.func98, Tryz.ntmps98
  go_wp2_with (first | ((with_reducible show wpList _ _ _ _ _ _); refine wpList_alloc_at (o := { dst := some 4, .. }) rfl 64 rfl (tok5 0 ⟨#[]⟩ 0 0 0) 5 z34 ?_; intro w1 hA1 hb1 hs1) | ((with_reducible show wpList _ _ _ _ _ _); refine wpList_alloc_at rfl 29 rfl (fa2 0 0) 2 z25 ?_; intro w2 hA2 hb2 hs2; rw [hs1] at hA2))
  refine (HRun.out _).mono ?_
  rintro e wr ⟨rfl, hwr⟩
  rw [hwr]; clear hwr
  go_wp2_with (first | ((with_reducible show wpList _ _ _ _ _ _); refine wpList_build_at rfl 64 _ rfl (tok5 2 ⟨#[]⟩ k 0 0) (by kernel_rfl) ?_) | ((with_reducible show wpList _ _ _ _ _ _); refine wpList_alloc_at rfl 64 rfl (tok5 0 ⟨#[]⟩ 0 0 0) 5 z34 ?_; intro w3 hA3 hb3 hs3) | ((with_reducible show wpList _ _ _ _ _ _); refine wpList_store_at (P := Tryz.prog) rfl 64 (.tmp 7) (.tmp 17) rfl w2.heap.size (tok5 2 ⟨#[]⟩ k 0 0) rfl rfl 64 (tok5 0 ⟨#[]⟩ 0 0 0) hA3 i34 rfl (one5T _ _ _ _ _) ?_; intro w4 hA4 hb4 hs4; refine Hid.out ?_))
  refine Lib.hid ?_
  have hB4 : Below w.heap.size w w4 := hb4.below ((hb1.trans (hb2.mono (by omega))).trans (hb3.mono (by omega))) (by omega) (by omega)
  have hR44 : At 64 w4 w.heap.size (tok5 0 ⟨#[]⟩ 0 0 0) := hb4.at ((hA1.below hb2).below hb3) (by omega)
  have hR54 : At 29 w4 (w.heap.size + 1) (fa2 0 0) := hb4.at (hA2.below hb3) (by omega)
  rw [hs2, hs1] at hA4
  clear hA1 hb1 hA2 hb2 hA3 hb3 hb4
  go_wp2_with (first | ((with_reducible show wpList _ _ _ _ _ _); refine wpList_store_one (P := Tryz.prog) rfl 9 (.tmp 45) (.tmp 44) rfl (w.heap.size + 1 + 1) 1 (.string S) rfl (congrArg Value.string hS2.out) 64 (tok5 2 ⟨#[]⟩ k 0 0) hA4 (show 1 + 1 ≤ 5 by decide) i9 rfl rfl ?_; intro w6 hA6' hb6 hs6; refine Hid.out ?_))
  refine Lib.hid ?_
  have hA6 : At 64 w6 (w.heap.size + 1 + 1) (tok5 2 S k 0 0) := hA6'
  have hB6 : Below w.heap.size w w6 := hb6.below hB4 (by omega) (by omega)
  have hR4 : At 64 w6 w.heap.size (tok5 0 ⟨#[]⟩ 0 0 0) := hb6.at hR44 (by omega)
  have hR5 : At 29 w6 (w.heap.size + 1) (fa2 0 0) := hb6.at hR54 (by omega)
  clear hA6' hb6
  have hcell0 : w6.cell? ⟨w.heap.size + 1 + 1, 0, none⟩ = some (.int .i64 2) := by rw [hA6.cell]; rfl
  have hcell1 : w6.cell? ⟨w.heap.size + 1 + 1, 1, none⟩ = some (.string S) := by rw [hA6.cell]; rfl
  go_wp2_with fail
  refine (whole_any S _ (by omega) (by omega) (HDig.out (by trivial))).mono ?_
  rintro e wx ⟨⟨hg, rfl⟩ | ⟨hg, nx, hnx, rfl⟩, hwx⟩
  · have hfin : Hid (errOf 2 (bytes S) = 0) := by simp [Hid, errOf, hg]
    rw [hwx]; clear hwx
    have hval : Hid (valB 2 (bytes S) = decVal (bytes S)) := by simp [Hid, valB]
    obtain ⟨V, hV⟩ : ∃ V, Hid (V = decVal (bytes S)) := ⟨_, (rfl : decVal (bytes S) = _)⟩
    rw [← hV.out]
    go_wp2_with (first | ((with_reducible show wpList _ _ _ _ _ _); refine wpList_build_at rfl 40 _ rfl (val2 1 V) (by kernel_rfl) ?_) | ((with_reducible show wpList _ _ _ _ _ _); refine wpList_store_two (P := Tryz.prog) rfl 40 (.tmp 57) (.tmp 56) rfl (w.heap.size + 1 + 1) 3 (.int .u8 1) (.int .u64 (V : Int)) rfl rfl 64 (tok5 2 S k 0 0) hA6 (show 3 + 2 ≤ 5 by decide) i32 (one2 1 V) ?_; intro w7 hA7' hb7 hs7; refine Hid.out ?_))
    refine Lib.hid ?_
    have hB7 : Below w.heap.size w w7 := hb7.below hB6 (by omega) (by have := hB6.size; omega)
    have hR47 : At 64 w7 w.heap.size (tok5 0 ⟨#[]⟩ 0 0 0) := hb7.at hR4 (by omega)
    have hR57 : At 29 w7 (w.heap.size + 1) (fa2 0 0) := hb7.at hR5 (by omega)
    have hA7 : At 64 w7 (w.heap.size + 1 + 1) (tok5 2 S k 1 V) := hA7'
    clear hA7'
    cases hcb : clB 2 ((bytes s).drop (k + n))
    · have hcs := cl_no s (k + n) 2 (by decide) hcb
      have HCB : Hid (clB 2 ((bytes s).drop (k + n)) = false) := hcb
      clear hcb
      rcases hcs with hc1 | ⟨hc1, hc2, hc3⟩
      · go_wp2_with (first | ((with_reducible show wpList _ _ _ _ _ _); refine wpList_load_at (P := Tryz.prog) rfl 64 (.tmp 7) rfl (w.heap.size + 1 + 1) rfl 64 (tok5 2 S k 1 V) hA7 _ Tryz.underlying64 rfl i34 ?_) | ((with_reducible show wpList _ _ _ _ _ _); refine wpList_build_at rfl 29 _ rfl (fa2 0 0) (by kernel_rfl) ?_) | ((with_reducible show wpList _ _ _ _ _ _); refine wpList_store_at (P := Tryz.prog) rfl 64 (.tmp 4) (.tmp 94) rfl w.heap.size (tok5 2 S k 1 V) rfl rfl 64 (tok5 0 ⟨#[]⟩ 0 0 0) hR47 i34 rfl (one5T _ _ _ _ _) ?_; intro w8 hA8 hb8 hs8) | ((with_reducible show wpList _ _ _ _ _ _); refine wpList_store_at (P := Tryz.prog) rfl 29 (.tmp 5) (.tmp 95) rfl (w.heap.size + 1) (fa2 0 0) rfl rfl 29 (fa2 0 0) (hb8.at hR57 (by omega)) i25 rfl (one2f _ _) ?_; intro w9 hA9 hb9 hs9))
        refine bodyPost_ret (results_at_at rfl _ _ w.heap.size (w.heap.size + 1) 64 29 (tok5 2 S k 1 V) (fa2 0 0) _ _ rfl (hb9.at hA8 (by omega)) Tryz.underlying64 rfl i34 rfl hA9 Tryz.underlying29 rfl i25) rfl ?_
        exact ⟨(HPost.out _).2 (by rw [hfin.out, HCB.out, hval.out, ← hV.out]; rfl), hb9.below (hb8.below hB7 (Nat.le_refl _) hB7.size) (by omega) (by have := hB7.size; omega)⟩
      · go_wp2_with (first | ((with_reducible show wpList _ _ _ _ _ _); refine wpList_load_at (P := Tryz.prog) rfl 64 (.tmp 7) rfl (w.heap.size + 1 + 1) rfl 64 (tok5 2 S k 1 V) hA7 _ Tryz.underlying64 rfl i34 ?_) | ((with_reducible show wpList _ _ _ _ _ _); refine wpList_build_at rfl 29 _ rfl (fa2 0 0) (by kernel_rfl) ?_) | ((with_reducible show wpList _ _ _ _ _ _); refine wpList_store_at (P := Tryz.prog) rfl 64 (.tmp 4) (.tmp 94) rfl w.heap.size (tok5 2 S k 1 V) rfl rfl 64 (tok5 0 ⟨#[]⟩ 0 0 0) hR47 i34 rfl (one5T _ _ _ _ _) ?_; intro w8 hA8 hb8 hs8) | ((with_reducible show wpList _ _ _ _ _ _); refine wpList_store_at (P := Tryz.prog) rfl 29 (.tmp 5) (.tmp 95) rfl (w.heap.size + 1) (fa2 0 0) rfl rfl 29 (fa2 0 0) (hb8.at hR57 (by omega)) i25 rfl (one2f _ _) ?_; intro w9 hA9 hb9 hs9) | (go_at_call 99; refine (letterL_at _ _ false hc2).mono ?_; rintro e w2' ⟨rfl, rfl⟩))
        refine bodyPost_ret (results_at_at rfl _ _ w.heap.size (w.heap.size + 1) 64 29 (tok5 2 S k 1 V) (fa2 0 0) _ _ rfl (hb9.at hA8 (by omega)) Tryz.underlying64 rfl i34 rfl hA9 Tryz.underlying29 rfl i25) rfl ?_
        exact ⟨(HPost.out _).2 (by rw [hfin.out, HCB.out, hval.out, ← hV.out]; rfl), hb9.below (hb8.below hB7 (Nat.le_refl _) hB7.size) (by omega) (by have := hB7.size; omega)⟩
    · have hcs := cl_yes s (k + n) 2 hcb
      have HCB : Hid (clB 2 ((bytes s).drop (k + n)) = true) := hcb
      clear hcb
      obtain ⟨hc1, hcs⟩ := hcs
      rcases hcs with hc2 | ⟨hc2, hc3⟩
      · go_wp2_with (first | ((with_reducible show wpList _ _ _ _ _ _); refine wpList_build_at rfl 64 #[] rfl (tok5 0 ⟨#[]⟩ 0 0 0) (by kernel_rfl) ?_) | ((with_reducible show wpList _ _ _ _ _ _); refine wpList_build_at rfl 29 _ rfl (fa2 4 (k + n)) (by kernel_rfl) ?_) | ((with_reducible show wpList _ _ _ _ _ _); refine wpList_store_at (P := Tryz.prog) rfl 64 (.tmp 4) (.tmp 91) rfl w.heap.size (tok5 0 ⟨#[]⟩ 0 0 0) rfl rfl 64 (tok5 0 ⟨#[]⟩ 0 0 0) hR47 i34 rfl (one5T _ _ _ _ _) ?_; intro w8 hA8 hb8 hs8) | ((with_reducible show wpList _ _ _ _ _ _); refine wpList_store_at (P := Tryz.prog) rfl 29 (.tmp 5) (.tmp 93) rfl (w.heap.size + 1) (fa2 4 (k + n)) rfl rfl 29 (fa2 0 0) (hb8.at hR57 (by omega)) i25 rfl (one2f _ _) ?_; intro w9 hA9 hb9 hs9) | (go_at_call 99; refine (letterL_at _ _ true hc2).mono ?_; rintro e w2' ⟨rfl, rfl⟩))
        refine bodyPost_ret (results_at_at rfl _ _ w.heap.size (w.heap.size + 1) 64 29 (tok5 0 ⟨#[]⟩ 0 0 0) (fa2 4 (k + n)) _ _ rfl (hb9.at hA8 (by omega)) Tryz.underlying64 rfl i34 rfl hA9 Tryz.underlying29 rfl i25) rfl ?_
        exact ⟨(HPost.out _).2 (by rw [hfin.out, HCB.out]; rfl), hb9.below (hb8.below hB7 (Nat.le_refl _) hB7.size) (by omega) (by have := hB7.size; omega)⟩
      · go_wp2_with (first | ((with_reducible show wpList _ _ _ _ _ _); refine wpList_build_at rfl 64 #[] rfl (tok5 0 ⟨#[]⟩ 0 0 0) (by kernel_rfl) ?_) | ((with_reducible show wpList _ _ _ _ _ _); refine wpList_build_at rfl 29 _ rfl (fa2 4 (k + n)) (by kernel_rfl) ?_) | ((with_reducible show wpList _ _ _ _ _ _); refine wpList_store_at (P := Tryz.prog) rfl 64 (.tmp 4) (.tmp 91) rfl w.heap.size (tok5 0 ⟨#[]⟩ 0 0 0) rfl rfl 64 (tok5 0 ⟨#[]⟩ 0 0 0) hR47 i34 rfl (one5T _ _ _ _ _) ?_; intro w8 hA8 hb8 hs8) | ((with_reducible show wpList _ _ _ _ _ _); refine wpList_store_at (P := Tryz.prog) rfl 29 (.tmp 5) (.tmp 93) rfl (w.heap.size + 1) (fa2 4 (k + n)) rfl rfl 29 (fa2 0 0) (hb8.at hR57 (by omega)) i25 rfl (one2f _ _) ?_; intro w9 hA9 hb9 hs9) | (go_at_call 99; refine (letter_46 _).mono ?_; rintro e w2' ⟨rfl, rfl⟩))
        refine bodyPost_ret (results_at_at rfl _ _ w.heap.size (w.heap.size + 1) 64 29 (tok5 0 ⟨#[]⟩ 0 0 0) (fa2 4 (k + n)) _ _ rfl (hb9.at hA8 (by omega)) Tryz.underlying64 rfl i34 rfl hA9 Tryz.underlying29 rfl i25) rfl ?_
        exact ⟨(HPost.out _).2 (by rw [hfin.out, HCB.out]; rfl), hb9.below (hb8.below hB7 (Nat.le_refl _) hB7.size) (by omega) (by have := hB7.size; omega)⟩
  · have hfin : Hid (errOf 2 (bytes S) = 4) := by simp [Hid, errOf, hg]
    rw [hwx]; clear hwx
    go_wp2_with (first | ((with_reducible show wpList _ _ _ _ _ _); refine wpList_build_at rfl 40 _ rfl (val2 1 nx) (by kernel_rfl) ?_) | ((with_reducible show wpList _ _ _ _ _ _); refine wpList_store_two (P := Tryz.prog) rfl 40 (.tmp 57) (.tmp 56) rfl (w.heap.size + 1 + 1) 3 (.int .u8 1) (.int .u64 (nx : Int)) rfl rfl 64 (tok5 2 S k 0 0) hA6 (show 3 + 2 ≤ 5 by decide) i32 (one2 1 nx) ?_; intro w7 hA7' hb7 hs7; refine Hid.out ?_))
    refine Lib.hid ?_
    have hB7 : Below w.heap.size w w7 := hb7.below hB6 (by omega) (by have := hB6.size; omega)
    have hR47 : At 64 w7 w.heap.size (tok5 0 ⟨#[]⟩ 0 0 0) := hb7.at hR4 (by omega)
    have hR57 : At 29 w7 (w.heap.size + 1) (fa2 0 0) := hb7.at hR5 (by omega)
    have hA7 : At 64 w7 (w.heap.size + 1 + 1) (tok5 2 S k 1 nx) := hA7'
    clear hA7'
    go_wp2_with (first | ((with_reducible show wpList _ _ _ _ _ _); refine wpList_build_at rfl 64 #[] rfl (tok5 0 ⟨#[]⟩ 0 0 0) (by kernel_rfl) ?_) | ((with_reducible show wpList _ _ _ _ _ _); refine wpList_build_at rfl 29 _ rfl (fa2 4 k) (by kernel_rfl) ?_) | ((with_reducible show wpList _ _ _ _ _ _); refine wpList_store_at (P := Tryz.prog) rfl 64 (.tmp 4) (.tmp 72) rfl w.heap.size (tok5 0 ⟨#[]⟩ 0 0 0) rfl rfl 64 (tok5 0 ⟨#[]⟩ 0 0 0) hR47 i34 rfl (one5T _ _ _ _ _) ?_; intro w8 hA8 hb8 hs8) | ((with_reducible show wpList _ _ _ _ _ _); refine wpList_store_at (P := Tryz.prog) rfl 29 (.tmp 5) (.tmp 74) rfl (w.heap.size + 1) (fa2 4 k) rfl rfl 29 (fa2 0 0) (hb8.at hR57 (by omega)) i25 rfl (one2f _ _) ?_; intro w9 hA9 hb9 hs9))
    refine bodyPost_ret (results_at_at rfl _ _ w.heap.size (w.heap.size + 1) 64 29 (tok5 0 ⟨#[]⟩ 0 0 0) (fa2 4 k) _ _ rfl (hb9.at hA8 (by omega)) Tryz.underlying64 rfl i34 rfl hA9 Tryz.underlying29 rfl i25) rfl ?_
    exact ⟨(HPost.out _).2 (by rw [hfin.out]; rfl), hb9.below (hb8.below hB7 (Nat.le_refl _) hB7.size) (by omega) (by have := hB7.size; omega)⟩

end Go.Proofs.YtjgggmjjikopeaaGreatDoor
