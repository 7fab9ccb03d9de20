/- The document's own Print, walked. -/
import Derived.Test.YthemfblckliclaaRefPrint
namespace Go.Proofs.Ythemfblckliclaa
open Ieee Go.RowKit
set_option linter.unusedVariables false

theorem pad_len (f : Nat) : ∀ n k, (padF f n k).length ≤ f := by
  induction f with
  | zero => intro n k; simp [padF]
  | succ f ih =>
    intro n k
    rw [padF]
    split
    · have := ih (n / 10) (k - 1); simp; omega
    · simp

theorem rdec_lit (N K : Nat) (hN : N ≤ 10000000000000000) (hK : K ≤ 6) (d : List UInt8) (hd : Hid (d = padF 20 N K)) (w : World) : Calls Try.prog 51 #[.int .i64 (N : Int), .int .i64 (K : Int)] w fun e w' => e = .returned (.string ⟨d.toArray⟩) ∧ w' = w := by
  rw [hd.out]; exact rdec_any N K hN hK w

set_option maxRecDepth 100000 in
set_option maxHeartbeats 1600000 in
theorem refPrint_no (a h : Nat) (hh : h = home a) (hl : h < 18446744073709551616) (hb : h = NAN ∨ 9223372036854775808 ≤ h ∨ val E15 ≤ val h) (w : World) :
    Calls Try.prog 34 #[.int .u64 (a : Int)] w fun e w' => e = .returned (.tuple #[.string ⟨#[]⟩, .int .i64 2]) ∧ w' = w := by
  have k0 : ∀ w, Calls Try.prog 24 #[.int .u64 (a : Int)] w fun e w' => e = .returned (.int .u64 (h : Int)) ∧ w' = w := fun w => by rw [hh]; exact refCanon_any a w
  clear hh
  by_cases c1 : h = NAN
  · subst c1
    go_enter Try.func34, Try.ntmps34
    go_wp2_with fail
    refine (k0 _).mono ?_
    rintro e w' ⟨rfl, rfl⟩
    go_wp2_with fail
    refine (of_any NAN _).mono ?_
    rintro e w' ⟨rfl, rfl⟩
    go_wp2
    go_ret2
    exact ⟨rfl, rfl⟩
  have b1 : ((h : Int) == 9221120237041090560) = false := by rw [beq_eq_false_iff_ne]; intro hx; apply c1; unfold NAN; omega
  by_cases c2 : 9223372036854775808 ≤ h
  · have b2 : ((h : Int) / 9223372036854775808 == 1) = true := by rw [beq_iff_eq]; omega
    go_enter Try.func34, Try.ntmps34
    go_wp2_with fail
    refine (k0 _).mono ?_
    rintro e w' ⟨rfl, rfl⟩
    go_wp2_with fail
    refine (of_any h _).mono ?_
    rintro e w' ⟨rfl, rfl⟩
    go_wp2
    go_ret2
    exact ⟨rfl, rfl⟩
  have b2 : ((h : Int) / 9223372036854775808 == 1) = false := by rw [beq_eq_false_iff_ne]; omega
  have c3 : val E15 ≤ val h := by
    rcases hb with h1 | h1 | h1
    · exact absurd h1 c1
    · exact absurd h1 c2
    · exact h1
  have hn : isNan h = false := by
    cases hx : isNan h
    · rfl
    · exfalso
      obtain ⟨s, t, hr⟩ := read_nan hx
      have hv : val h = 0 := by unfold val; rw [hr]; rfl
      rw [hv, val_E15] at c3
      have := pw_pos 1074
      omega
  have b3 : (FloatKind.f64.format.order h 4831355200913801216 == some .gt || FloatKind.f64.format.order h 4831355200913801216 == some .eq) = true := (ge_val (c := E15) hn (by decide)).trans (decide_eq_true c3)
  go_enter Try.func34, Try.ntmps34
  go_wp2_with fail
  refine (k0 _).mono ?_
  rintro e w' ⟨rfl, rfl⟩
  go_wp2_with fail
  refine (of_any h _).mono ?_
  rintro e w' ⟨rfl, rfl⟩
  go_wp2
  go_ret2
  exact ⟨rfl, rfl⟩

set_option maxRecDepth 100000 in
set_option maxHeartbeats 3200000 in
theorem refPrint_yes (a bt : Nat) (hh : bt = home a) (hn : isNan bt = false) (hp : bt < 9223372036854775808) (hlt : val bt < val E15) (w : World) :
    Calls Try.prog 34 #[.int .u64 (a : Int)] w fun e w' => PrintPost bt e ∧ ∃ q, w' = w.drewN q := by
  have k0 : ∀ w, Calls Try.prog 24 #[.int .u64 (a : Int)] w fun e w' => e = .returned (.int .u64 (bt : Int)) ∧ w' = w := fun w => by rw [hh]; exact refCanon_any a w
  have hhh : Hid (home bt = bt) := by show _ = _; rw [hh, home_home]
  have b1 : ((bt : Int) == 9221120237041090560) = false := by
    rw [beq_eq_false_iff_ne]; intro hx
    have : bt = NAN := by unfold NAN; omega
    rw [this, isNan_NAN] at hn; cases hn
  have b2 : ((bt : Int) / 9223372036854775808 == 1) = false := by rw [beq_eq_false_iff_ne]; omega
  have b3 : (FloatKind.f64.format.order bt 4831355200913801216 == some .gt || FloatKind.f64.format.order bt 4831355200913801216 == some .eq) = false := (ge_val (c := E15) hn (by decide)).trans (decide_eq_false (by omega))
  have HN : Hid (isNan bt = false) := hn
  have HLT : Hid (val bt < val E15) := hlt
  clear hh hn hlt
  go_enter Try.func34, Try.ntmps34
  go_wp2_with fail
  refine (k0 _).mono ?_
  rintro e w' ⟨rfl, hw'⟩
  rw [hw']
  clear hw' w' k0
  go_wp2_with fail
  refine (of_any bt _).mono ?_
  rintro e w' ⟨rfl, hw'⟩
  rw [hw']
  clear hw' w'
  go_wp2
  go_loopw [5, 6] (fun pp kk wr => ∃ k f P : Nat, 1 ≤ k ∧ k + f = 7 ∧ P ≤ 1000000 ∧ kk = .int .i64 (k : Int) ∧ pp = .int .i64 (P : Int) ∧ Hid (10 * P = 10 ^ k) ∧ Hid (pr bt 1 6 = pr bt k f) ∧ ∃ q, wr = w.drewN q) (fun _ kk _ => 8 - (intOf kk).toNat)
  case atStart => exact ⟨1, 6, 1, by omega, rfl, by omega, rfl, rfl, (rfl : 10 * 1 = 10 ^ 1), (rfl : pr bt 1 6 = pr bt 1 6), 0, rfl⟩
  case round =>
    obtain ⟨k, f, P, hk1, hkf, hP6, rfl, rfl, hPk, hpr, q, rfl⟩ := hrel
    by_cases hc : k ≤ 6
    · obtain ⟨f, rfl⟩ : ∃ g, f = g + 1 := ⟨f - 1, by omega⟩
      obtain ⟨p, F, g1, g2, g3, g4, g5, g6, g7⟩ := guess bt k hhh.out HN.out hp HLT.out hk1 hc
      have hS6 : 10 ^ k ≤ 10 ^ 6 := Nat.pow_le_pow_right (by decide) hc
      obtain ⟨S, hS⟩ : ∃ S, S = 10 * P := ⟨_, rfl⟩
      have HSk : Hid (S = 10 ^ k) := by show _ = _; rw [hS]; exact hPk.out
      have hSi : (10 : Int) * (P : Int) = (S : Int) := by omega
      have hSb : S ≤ 1000000 := by rw [HSk.out]; exact hS6
      have hS1 : 10 ≤ S := by rw [HSk.out]; exact Nat.pow_le_pow_right (show 0 < 10 by decide) hk1
      rw [← HSk.out] at g1 g7
      have G7 : Hid (∀ n, digitsOf bt S = some n → n ≤ F + 2 ∧ F ≤ n + 2) := g7
      clear g7 hS hS6 hPk
      have hop := fun t => run_float_arith (P := Try.prog) (w.drewN q) .mul t .f64 bt _ p g1
      have hmin := fun ts t w => least_run (P := Try.prog) p g2 ts t w
      have hcv : ∀ w, (convert 42 3 (.float .f64 (ofInt (F : Int)))).run Try.prog w = .ok (.int .i64 (F : Int)) w := fun w => run_convert_float_int w 42 3 .f64 .i64 _ _ (by rw [Try.underlying42]; rfl) Try.underlying3 g6
      clear g1 g2 g6
      go_wp2_with fail
      refine (floor_any (least p) F g4 g5 _).mono ?_
      rintro e w' ⟨rfl, hw'⟩
      rw [hw']
      clear hw' w' hop hmin g4 g5
      have HD : Hid (∀ n, n < 1000000000000000 → quo n S = bt → digitsOf bt S = some n) := by
        show ∀ n, n < 1000000000000000 → quo n S = bt → digitsOf bt S = some n
        intro n hn15 hqn
        have := digits_complete n k hk1 hc hn15
        rw [← HSk.out, hqn] at this
        exact this
      have HS2 : Hid (∀ n, digitsOf bt S = some n → n < 1000000000000000 ∧ quo n S = bt) := by
        show ∀ n, digitsOf bt S = some n → n < 1000000000000000 ∧ quo n S = bt
        intro n hd
        have := digits_sound hd
        rw [hhh.out] at this
        exact ⟨this.2, this.1⟩
      go_wp2
      all_goals
        go_loopw [8] (fun nn wr => ∃ n : Nat, F ≤ n + 2 ∧ n ≤ F + 3 ∧ nn = .int .i64 (n : Int) ∧ Hid (∀ n', F ≤ n' + 2 → n' < n → ¬ (n' < 1000000000000000 ∧ quo n' S = bt)) ∧ ∃ q, wr = w.drewN q) (fun nn _ => F + 4 - (intOf nn).toNat)
        case atStart => exact ⟨F - 2, by omega, by omega, by go_num, (fun n' h1 h2 => by omega : ∀ n', F ≤ n' + 2 → n' < F - 2 → ¬ (n' < 1000000000000000 ∧ quo n' S = bt)), _, rfl⟩
        case round =>
          obtain ⟨n, hn1, hn2, rfl, hno, q2, rfl⟩ := hrel
          by_cases hin : n ≤ F + 2
          · obtain ⟨N1, hN1⟩ : ∃ N1, N1 = n / S := ⟨_, rfl⟩
            obtain ⟨N2, hN2⟩ : ∃ N2, N2 = n % S := ⟨_, rfl⟩
            have hS0 : ¬ S = 0 := by omega
            have hS0i : ¬ (S : Int) = 0 := by omega
            have c1 : N1 ≤ 2000000000000005 := by rw [hN1]; exact Nat.le_trans (Nat.div_le_self _ _) (by omega)
            have c2 : N2 ≤ 1000000 := by have := Nat.mod_lt n (show 0 < S by omega); omega
            have f1 : IntKind.i64.wrap ((n : Int) / (S : Int)) = (N1 : Int) := by
              have e : (n : Int) / (S : Int) = (N1 : Int) := by rw [hN1]; simp
              rw [e]; rw [IntKind.wrap_i64]; omega
            have f2 : (n : Int) % (S : Int) = (N2 : Int) := by rw [hN2]; simp
            have f2' : (n : Int).tmod (S : Int) = (N2 : Int) := by rw [Int.tmod_eq_emod_of_nonneg (by omega)]; exact f2
            obtain ⟨d1, hd1⟩ : ∃ d, Hid (d = padF 20 N1 1) := ⟨padF 20 N1 1, (rfl : padF 20 N1 1 = _)⟩
            obtain ⟨d2, hd2⟩ : ∃ d, Hid (d = padF 20 N2 k) := ⟨padF 20 N2 k, (rfl : padF 20 N2 k = _)⟩
            have l1 : d1.length ≤ 20 := by rw [hd1.out]; exact pad_len 20 _ _
            have l2 : d2.length ≤ 20 := by rw [hd2.out]; exact pad_len 20 _ _
            have hc1 : ¬ 9223372036854775807 < d1.length + 1 := by omega
            have hc2 : ¬ 9223372036854775807 < d1.length + 1 + d2.length := by omega
            have hsz1 : (⟨d1.toArray⟩ : ByteArray).size = d1.length := size_mk d1
            have hsz2 : (⟨d2.toArray⟩ : ByteArray).size = d2.length := size_mk d2
            obtain ⟨L, hL⟩ : ∃ L, L = litOf k n := ⟨_, rfl⟩
            have HL : Hid ((({ data := d1.toArray } : ByteArray) ++ ({ data := #[46] } : ByteArray)) ++ ({ data := d2.toArray } : ByteArray) = ⟨L.toArray⟩) := by
              show _ = _
              rw [hL, ← pad_lit k n hc (by omega), ← List.append_assoc, ← cat_list, ← cat_list, hd1.out, hd2.out, hN1, hN2, HSk.out]
            have HP := refParse_cand k n bt hk1 hc (by omega) L hL
            clear hN1 hN2
            have hL' : Hid (L = litOf k n) := hL
            clear hL
            go_wp2_with fail
            go_region_held3 (fun _ => True) (trivial) (first | (go_at_call_of 51 (Value.int IntKind.i64 (N1 : Int)); refine (rdec_lit N1 1 (by omega) (by omega) d1 hd1 _).mono ?_; rintro e w3 ⟨rfl, hw3⟩; have hw3' := hw3.symm; subst hw3') | (go_at_call_of 51 (Value.int IntKind.i64 (N2 : Int)); refine (rdec_lit N2 k (by omega) hc d2 hd2 _).mono ?_; rintro e w4 ⟨rfl, hw4⟩; have hw4' := hw4.symm; subst hw4'))
            rw [HL.out]
            go_wp2_with fail
            refine (HP _).mono ?_
            rintro e w5 ⟨⟨y, E, rfl, hyE, hE⟩, q5, rfl⟩
            clear HP HL hd1 hd2 l1 l2 hc1 hc2 hsz1 hsz2 f1 f2 f2' c1 c2
            by_cases hm : n < 1000000000000000 ∧ quo n S = bt
            · have hm' := hm
              rw [HSk.out] at hm'
              obtain ⟨rfl, rfl⟩ := hyE.out.2 hm'
              have HR : Hid (pr y 1 6 = some (k, n)) := by
                show _ = _
                rw [hpr.out]
                simp only [pr]
                rw [← HSk.out, HD.out n hm.1 hm.2]
              have HLL := hL'
              clear hm hm' hyE hno hpr
              go_wp2
              go_ret2
              exact ⟨.inl ⟨k, n, HR.out, by rw [← HLL.out]; rfl⟩, _, rfl⟩
            · have hne : ¬ (E = 0 ∧ y = bt) := fun hx => hm (by
                have := hyE.out.1 hx
                rw [← HSk.out] at this
                exact this)
              have HNO : Hid (∀ n', F ≤ n' + 2 → n' < n + 1 → ¬ (n' < 1000000000000000 ∧ quo n' S = bt)) := by
                show ∀ n', F ≤ n' + 2 → n' < n + 1 → ¬ (n' < 1000000000000000 ∧ quo n' S = bt)
                intro n' h1 h2
                rcases Nat.lt_or_ge n' n with h3 | h3
                · exact hno.out n' h1 h3
                · obtain rfl : n' = n := by omega
                  exact hm
              clear hno hyE hm
              rcases hE with rfl | rfl
              · have hyb : ((y : Int) == (bt : Int)) = false := by
                  rw [beq_eq_false_iff_ne]
                  intro hx
                  exact hne ⟨rfl, by omega⟩
                go_wp2
                go_roundw
                case rel => exact ⟨n + 1, by omega, by omega, by go_num, HNO, _, rfl⟩
                case measure => simp [intOf]; omega
              · go_wp2
                go_roundw
                case rel => exact ⟨n + 1, by omega, by omega, by go_num, HNO, _, rfl⟩
                case measure => simp [intOf]; omega
          · have HDN : Hid (pr bt 1 6 = pr bt (k + 1) f) := by
              show _ = _
              rw [hpr.out]
              simp only [pr]
              rw [← HSk.out]
              cases hd : digitsOf bt S with
              | none => rfl
              | some n0 =>
                exfalso
                obtain ⟨e1, e2⟩ := G7.out n0 hd
                exact hno.out n0 (by omega) (by omega) (HS2.out n0 hd)
            clear hno hpr
            go_wp2
            go_roundw
            case rel => exact ⟨k + 1, f, S, by omega, by omega, hSb, by go_num, rfl, (by show _ = _; rw [HSk.out, Nat.pow_succ, Nat.mul_comm]), HDN, _, rfl⟩
            case measure => simp [intOf]; omega
    · obtain rfl : f = 0 := by omega
      go_wp2
      go_ret2
      exact ⟨.inr ⟨hpr.out, rfl⟩, _, rfl⟩

end Go.Proofs.Ythemfblckliclaa
