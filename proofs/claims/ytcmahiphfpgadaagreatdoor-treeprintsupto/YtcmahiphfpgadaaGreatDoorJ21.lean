/- Joined texts of the proof. -/
import Derived.Test.YtcmahiphfpgadaaGreatDoorJ20
import Derived.Test.YtcmahiphfpgadaaGreatDoorJ16
import Derived.Test.YtcmahiphfpgadaaGreatDoorJ10
import Derived.Test.YtcmahiphfpgadaaGreatDoorJ13
import Derived.Test.YtcmahiphfpgadaaGreatDoorJ1
import Derived.Test.YtcmahiphfpgadaaGreatDoorJ14
import Derived.Lib.ItoaMem

/- The document's own Print, walked. -/
namespace Go.Proofs.YtcmahiphfpgadaaGreatDoor
open Ieee Go.RowKit
set_option linter.unusedVariables false
theorem pad_len (f : Nat) : ∀ n k, (padF f n k).length ≤ f := by
 induction f with
 | zero => intro n k; simp [padF]
 | succ f ih =>
  intro n k
  rw [padF]
  split
  ·have := ih (n / 10) (k - 1); simp; omega
  ·simp

theorem rdec_lit (N K : Nat) (hN : N ≤ 10000000000000000) (hK : K ≤ 6) (d : List UInt8) (hd : Hid (d = padF 20 N K)) (w : World) : Calls Tryz.prog 115 #[.int .i64 (N : Int), .int .i64 (K : Int)] w fun e w' => e = .returned (.string ⟨d.toArray⟩) ∧ w' = w := by
 rw [hd.out]; exact rdec_any N K hN hK w

set_option maxRecDepth 100000 in
set_option maxHeartbeats 1600000 in
theorem refPrint_no (a h : Nat) (hh : h = home a) (hl : h < 18446744073709551616) (hb : h = NAN ∨ 9223372036854775808 ≤ h ∨ val E15 ≤ val h) (w : World) :
  Calls Tryz.prog 88 #[.int .u64 (a : Int)] w fun e w' => e = .returned (.tuple #[.string ⟨#[]⟩, .int .i64 2]) ∧ w' = w := by
 have k0 : ∀ w, Calls Tryz.prog 112 #[.int .u64 (a : Int)] w fun e w' => e = .returned (.int .u64 (h : Int)) ∧ w' = w := fun w => by rw [hh]; exact refCanon_any a w
 clear hh
 by_cases c1 : h = NAN
 ·subst c1
  go_enter Tryz.func88, Tryz.ntmps88
  go_wp2_with fail
  refine (k0 _).mono ?_
  rintro e w' ⟨rfl, rfl⟩
  go_wp2_with fail
  refine (of_any NAN _).mono ?_
  rintro e w' ⟨rfl, rfl⟩
  go_wp2
  go_ret2
  exact ⟨rfl, rfl⟩
 have b1 : ((h : Int) == 9221120237041090560) = false := by rw [beq_eq_false_iff_ne]; intro hx; apply c1; unfold NAN; omega
 by_cases c2 : 9223372036854775808 ≤ h
 ·have b2 : ((h : Int) / 9223372036854775808 == 1) = true := by rw [beq_iff_eq]; omega
  go_enter Tryz.func88, Tryz.ntmps88
  go_wp2_with fail
  refine (k0 _).mono ?_
  rintro e w' ⟨rfl, rfl⟩
  go_wp2_with fail
  refine (of_any h _).mono ?_
  rintro e w' ⟨rfl, rfl⟩
  go_wp2
  go_ret2
  exact ⟨rfl, rfl⟩
 have b2 : ((h : Int) / 9223372036854775808 == 1) = false := by rw [beq_eq_false_iff_ne]; omega
 have c3 : val E15 ≤ val h := by
  rcases hb with h1 | h1 | h1
  ·exact absurd h1 c1
  ·exact absurd h1 c2
  ·exact h1
 have hn : isNan h = false := by
  cases hx : isNan h
  ·rfl
  ·exfalso
   obtain ⟨s, t, hr⟩ := read_nan hx
   have hv : val h = 0 := by unfold val; rw [hr]; rfl
   rw [hv, val_E15] at c3
   have := pw_pos 1074
   omega
 have b3 : (FloatKind.f64.format.order h 4831355200913801216 == some .gt || FloatKind.f64.format.order h 4831355200913801216 == some .eq) = true := (ge_val (c := E15) hn (by decide)).trans (decide_eq_true c3)
 go_enter Tryz.func88, Tryz.ntmps88
 go_wp2_with fail
 refine (k0 _).mono ?_
 rintro e w' ⟨rfl, rfl⟩
 go_wp2_with fail
 refine (of_any h _).mono ?_
 rintro e w' ⟨rfl, rfl⟩
 go_wp2
 go_ret2
 exact ⟨rfl, rfl⟩

set_option maxRecDepth 100000 in
set_option maxHeartbeats 3200000 in
theorem refPrint_yes (a bt : Nat) (hh : bt = home a) (hn : isNan bt = false) (hp : bt < 9223372036854775808) (hlt : val bt < val E15) (w : World) :
  Calls Tryz.prog 88 #[.int .u64 (a : Int)] w fun e w' => PrintPost bt e ∧ ∃ q, w' = w.drewN q := by
 have k0 : ∀ w, Calls Tryz.prog 112 #[.int .u64 (a : Int)] w fun e w' => e = .returned (.int .u64 (bt : Int)) ∧ w' = w := fun w => by rw [hh]; exact refCanon_any a w
 have hhh : Hid (home bt = bt) := by show _ = _; rw [hh, home_home]
 have b1 : ((bt : Int) == 9221120237041090560) = false := by
  rw [beq_eq_false_iff_ne]; intro hx
  have : bt = NAN := by unfold NAN; omega
  rw [this, isNan_NAN] at hn; cases hn
 have b2 : ((bt : Int) / 9223372036854775808 == 1) = false := by rw [beq_eq_false_iff_ne]; omega
 have b3 : (FloatKind.f64.format.order bt 4831355200913801216 == some .gt || FloatKind.f64.format.order bt 4831355200913801216 == some .eq) = false := (ge_val (c := E15) hn (by decide)).trans (decide_eq_false (by omega))
 have HN : Hid (isNan bt = false) := hn
 have HLT : Hid (val bt < val E15) := hlt
 clear hh hn hlt
 go_enter Tryz.func88, Tryz.ntmps88
 go_wp2_with fail
 refine (k0 _).mono ?_
 rintro e w' ⟨rfl, hw'⟩
 rw [hw']
 clear hw' w' k0
 go_wp2_with fail
 refine (of_any bt _).mono ?_
 rintro e w' ⟨rfl, hw'⟩
 rw [hw']
 clear hw' w'
 go_wp2
 go_loopw [5, 6] (fun pp kk wr => ∃ k f P : Nat, 1 ≤ k ∧ k + f = 7 ∧ P ≤ 1000000 ∧ kk = .int .i64 (k : Int) ∧ pp = .int .i64 (P : Int) ∧ Hid (10 * P = 10 ^ k) ∧ Hid (pr bt 1 6 = pr bt k f) ∧ ∃ q, wr = w.drewN q) (fun _ kk _ => 8 - (intOf kk).toNat)
 case atStart => exact ⟨1, 6, 1, by omega, rfl, by omega, rfl, rfl, (rfl : 10 * 1 = 10 ^ 1), (rfl : pr bt 1 6 = pr bt 1 6), 0, rfl⟩
 case round =>
  obtain ⟨k, f, P, hk1, hkf, hP6, rfl, rfl, hPk, hpr, q, rfl⟩ := hrel
  by_cases hc : k ≤ 6
  ·obtain ⟨f, rfl⟩ : ∃ g, f = g + 1 := ⟨f - 1, by omega⟩
   obtain ⟨p, F, g1, g2, g3, g4, g5, g6, g7⟩ := guess bt k hhh.out HN.out hp HLT.out hk1 hc
   have hS6 : 10 ^ k ≤ 10 ^ 6 := Nat.pow_le_pow_right (by decide) hc
   obtain ⟨S, hS⟩ : ∃ S, S = 10 * P := ⟨_, rfl⟩
   have HSk : Hid (S = 10 ^ k) := by show _ = _; rw [hS]; exact hPk.out
   have hSi : (10 : Int) * (P : Int) = (S : Int) := by omega
   have hSb : S ≤ 1000000 := by rw [HSk.out]; exact hS6
   have hS1 : 10 ≤ S := by rw [HSk.out]; exact Nat.pow_le_pow_right (show 0 < 10 by decide) hk1
   rw [← HSk.out] at g1 g7
   have G7 : Hid (∀ n, digitsOf bt S = some n → n ≤ F + 2 ∧ F ≤ n + 2) := g7
   clear g7 hS hS6 hPk
   have hop := fun t => run_float_arith (P := Tryz.prog) (w.drewN q) .mul t .f64 bt _ p g1
   have hmin := fun ts t w => least_run (P := Tryz.prog) p g2 ts t w
   have hcv : ∀ w, (convert 142 3 (.float .f64 (ofInt (F : Int)))).run Tryz.prog w = .ok (.int .i64 (F : Int)) w := fun w => run_convert_float_int w 142 3 .f64 .i64 _ _ (by rw [Tryz.underlying142]; rfl) Tryz.underlying3 g6
   clear g1 g2 g6
   go_wp2_with fail
   refine (floor_any (least p) F g4 g5 _).mono ?_
   rintro e w' ⟨rfl, hw'⟩
   rw [hw']
   clear hw' w' hop hmin g4 g5
   have HD : Hid (∀ n, n < 1000000000000000 → quo n S = bt → digitsOf bt S = some n) := by
    show ∀ n, n < 1000000000000000 → quo n S = bt → digitsOf bt S = some n
    intro n hn15 hqn
    have := digits_complete n k hk1 hc hn15
    rw [← HSk.out, hqn] at this
    exact this
   have HS2 : Hid (∀ n, digitsOf bt S = some n → n < 1000000000000000 ∧ quo n S = bt) := by
    show ∀ n, digitsOf bt S = some n → n < 1000000000000000 ∧ quo n S = bt
    intro n hd
    have := digits_sound hd
    rw [hhh.out] at this
    exact ⟨this.2, this.1⟩
   go_wp2
   all_goals
    go_loopw [8] (fun nn wr => ∃ n : Nat, F ≤ n + 2 ∧ n ≤ F + 3 ∧ nn = .int .i64 (n : Int) ∧ Hid (∀ n', F ≤ n' + 2 → n' < n → ¬ (n' < 1000000000000000 ∧ quo n' S = bt)) ∧ ∃ q, wr = w.drewN q) (fun nn _ => F + 4 - (intOf nn).toNat)
    case atStart => exact ⟨F - 2, by omega, by omega, by go_num, (fun n' h1 h2 => by omega : ∀ n', F ≤ n' + 2 → n' < F - 2 → ¬ (n' < 1000000000000000 ∧ quo n' S = bt)), _, rfl⟩
    case round =>
     obtain ⟨n, hn1, hn2, rfl, hno, q2, rfl⟩ := hrel
     by_cases hin : n ≤ F + 2
     ·obtain ⟨N1, hN1⟩ : ∃ N1, N1 = n / S := ⟨_, rfl⟩
      obtain ⟨N2, hN2⟩ : ∃ N2, N2 = n % S := ⟨_, rfl⟩
      have hS0 : ¬ S = 0 := by omega
      have hS0i : ¬ (S : Int) = 0 := by omega
      have c1 : N1 ≤ 2000000000000005 := by rw [hN1]; exact Nat.le_trans (Nat.div_le_self _ _) (by omega)
      have c2 : N2 ≤ 1000000 := by have := Nat.mod_lt n (show 0 < S by omega); omega
      have f1 : IntKind.i64.wrap ((n : Int) / (S : Int)) = (N1 : Int) := by
       have e : (n : Int) / (S : Int) = (N1 : Int) := by rw [hN1]; simp
       rw [e]; rw [IntKind.wrap_i64]; omega
      have f2 : (n : Int) % (S : Int) = (N2 : Int) := by rw [hN2]; simp
      have f2' : (n : Int).tmod (S : Int) = (N2 : Int) := by rw [Int.tmod_eq_emod_of_nonneg (by omega)]; exact f2
      obtain ⟨d1, hd1⟩ : ∃ d, Hid (d = padF 20 N1 1) := ⟨padF 20 N1 1, (rfl : padF 20 N1 1 = _)⟩
      obtain ⟨d2, hd2⟩ : ∃ d, Hid (d = padF 20 N2 k) := ⟨padF 20 N2 k, (rfl : padF 20 N2 k = _)⟩
      have l1 : d1.length ≤ 20 := by rw [hd1.out]; exact pad_len 20 _ _
      have l2 : d2.length ≤ 20 := by rw [hd2.out]; exact pad_len 20 _ _
      have hc1 : ¬ 9223372036854775807 < d1.length + 1 := by omega
      have hc2 : ¬ 9223372036854775807 < d1.length + 1 + d2.length := by omega
      have hsz1 : (⟨d1.toArray⟩ : ByteArray).size = d1.length := size_mk d1
      have hsz2 : (⟨d2.toArray⟩ : ByteArray).size = d2.length := size_mk d2
      obtain ⟨L, hL⟩ : ∃ L, L = litOf k n := ⟨_, rfl⟩
      have HL : Hid ((({ data := d1.toArray } : ByteArray) ++ ({ data := #[46] } : ByteArray)) ++ ({ data := d2.toArray } : ByteArray) = ⟨L.toArray⟩) := by
       show _ = _
       rw [hL, ← pad_lit k n hc (by omega), ← List.append_assoc, ← cat_list, ← cat_list, hd1.out, hd2.out, hN1, hN2, HSk.out]
      have HP := refParse_cand k n bt hk1 hc (by omega) L hL
      clear hN1 hN2
      have hL' : Hid (L = litOf k n) := hL
      clear hL
      go_wp2_with fail
      go_region_held3 (fun _ => True) (trivial) (first | (go_at_call_of 115 (Value.int IntKind.i64 (N1 : Int)); refine (rdec_lit N1 1 (by omega) (by omega) d1 hd1 _).mono ?_; rintro e w3 ⟨rfl, hw3⟩; have hw3' := hw3.symm; subst hw3') | (go_at_call_of 115 (Value.int IntKind.i64 (N2 : Int)); refine (rdec_lit N2 k (by omega) hc d2 hd2 _).mono ?_; rintro e w4 ⟨rfl, hw4⟩; have hw4' := hw4.symm; subst hw4'))
      rw [HL.out]
      go_wp2_with fail
      refine (HP _).mono ?_
      rintro e w5 ⟨⟨y, E, rfl, hyE, hE⟩, q5, rfl⟩
      clear HP HL hd1 hd2 l1 l2 hc1 hc2 hsz1 hsz2 f1 f2 f2' c1 c2
      by_cases hm : n < 1000000000000000 ∧ quo n S = bt
      ·have hm' := hm
       rw [HSk.out] at hm'
       obtain ⟨rfl, rfl⟩ := hyE.out.2 hm'
       have HR : Hid (pr y 1 6 = some (k, n)) := by
        show _ = _
        rw [hpr.out]
        simp only [pr]
        rw [← HSk.out, HD.out n hm.1 hm.2]
       have HLL := hL'
       clear hm hm' hyE hno hpr
       go_wp2
       go_ret2
       exact ⟨.inl ⟨k, n, HR.out, by rw [← HLL.out]; rfl⟩, _, rfl⟩
      ·have hne : ¬ (E = 0 ∧ y = bt) := fun hx => hm (by
        have := hyE.out.1 hx
        rw [← HSk.out] at this
        exact this)
       have HNO : Hid (∀ n', F ≤ n' + 2 → n' < n + 1 → ¬ (n' < 1000000000000000 ∧ quo n' S = bt)) := by
        show ∀ n', F ≤ n' + 2 → n' < n + 1 → ¬ (n' < 1000000000000000 ∧ quo n' S = bt)
        intro n' h1 h2
        rcases Nat.lt_or_ge n' n with h3 | h3
        ·exact hno.out n' h1 h3
        ·obtain rfl : n' = n := by omega
         exact hm
       clear hno hyE hm
       rcases hE with rfl | rfl
       ·have hyb : ((y : Int) == (bt : Int)) = false := by
         rw [beq_eq_false_iff_ne]
         intro hx
         exact hne ⟨rfl, by omega⟩
        go_wp2
        go_roundw
        case rel => exact ⟨n + 1, by omega, by omega, by go_num, HNO, _, rfl⟩
        case measure => simp [intOf]; omega
       ·go_wp2
        go_roundw
        case rel => exact ⟨n + 1, by omega, by omega, by go_num, HNO, _, rfl⟩
        case measure => simp [intOf]; omega
     ·have HDN : Hid (pr bt 1 6 = pr bt (k + 1) f) := by
       show _ = _
       rw [hpr.out]
       simp only [pr]
       rw [← HSk.out]
       cases hd : digitsOf bt S with
       | none => rfl
       | some n0 =>
        exfalso
        obtain ⟨e1, e2⟩ := G7.out n0 hd
        exact hno.out n0 (by omega) (by omega) (HS2.out n0 hd)
      clear hno hpr
      go_wp2
      go_roundw
      case rel => exact ⟨k + 1, f, S, by omega, by omega, hSb, by go_num, rfl, (by show _ = _; rw [HSk.out, Nat.pow_succ, Nat.mul_comm]), HDN, _, rfl⟩
      case measure => simp [intOf]; omega
  ·obtain rfl : f = 0 := by omega
   go_wp2
   go_ret2
   exact ⟨.inr ⟨hpr.out, rfl⟩, _, rfl⟩

end Go.Proofs.YtcmahiphfpgadaaGreatDoor

/- The document's own printing: small calls. -/
namespace Go.Proofs.YtcmahiphfpgadaaGreatDoor
open Go.RowKit
set_option linter.unusedVariables false

theorem below_drewN (w : World) (q : Nat) : Below w.heap.size w (w.drewN q) := below_drN (Below.refl _ _) q

theorem wrap64 (n : Nat) (h : n < 18446744073709551616) : IntKind.u64.wrap ((n : Int) / 10) = ((n / 10 : Nat) : Int) := by
 rw [IntKind.wrap_u64]
 omega

set_option maxRecDepth 100000 in
set_option maxHeartbeats 1600000 in
theorem refDec5 (f : Nat) (hf : f ≤ 19) : ∀ n : Nat, n < 10 ^ (f + 1) → n < 18446744073709551616 → ∀ w, Calls Tryz.prog 41 #[.int .u64 (n : Int)] w fun e w' => e = .returned (.string ⟨(digs f n).toArray⟩) ∧ Below w.heap.size w w' := by
 induction f with
 | zero =>
  intro n hn h64 w
  have hn : n < 10 := by simpa using hn
  have hcut := cut10b ⟨n, hn⟩
  simp only at hcut
  have HD : Hid (digs 0 n = [ub (48 + n)]) := by show _ = _; rw [digs, Nat.mod_eq_of_lt hn]
  go_enter Tryz.func41, Tryz.ntmps41
  go_wp2
  go_ret
  exact ⟨by rw [HD.out]; rfl, Below.refl _ _⟩
 | succ f ih =>
  intro n hn h64 w
  by_cases hs : n < 10
  ·have hcut := cut10b ⟨n, hs⟩
   simp only at hcut
   have HD : Hid (digs (f + 1) n = [ub (48 + n)]) := by show _ = _; rw [digs_small _ _ hs, Nat.mod_eq_of_lt hs]
   clear ih
   go_enter Tryz.func41, Tryz.ntmps41
   go_wp2
   go_ret
   exact ⟨by rw [HD.out]; rfl, Below.refl _ _⟩
  ·have hcut := cut10b ⟨n % 10, by omega⟩
   simp only at hcut
   have HD : Hid (digs (f + 1) n = digs f (n / 10) ++ [ub (48 + n % 10)]) := digs_big f n (by omega)
   have hlen : (digs f (n / 10)).length ≤ f + 1 := digs_len f _
   obtain ⟨d, hd⟩ : ∃ d, d = digs f (n / 10) := ⟨_, rfl⟩
   have hC : ∀ w, Calls Tryz.prog 41 #[.int .u64 ((n / 10 : Nat) : Int)] w fun e w' => e = .returned (.string ⟨d.toArray⟩) ∧ Below w.heap.size w w' := fun w => by
    rw [hd]
    exact ih (by omega) (n / 10) (by rw [Nat.div_lt_iff_lt_mul (by decide)]; rwa [Nat.pow_succ] at hn) (by omega) w
   rw [← hd] at HD hlen
   have hsz : (⟨d.toArray⟩ : ByteArray).size = d.length := size_mk d
   have HC : Hid (∀ (z : Int), z = ((n / 10 : Nat) : Int) → ∀ w, Calls Tryz.prog 41 #[.int .u64 z] w fun e w' => e = .returned (.string ⟨d.toArray⟩) ∧ Below w.heap.size w w') := fun z hz w => by
    rw [hz]
    exact hC w
   clear ih hC hd hn
   obtain ⟨r, hr⟩ : ∃ r, r = n % 10 := ⟨_, rfl⟩
   have ht : (n : Int).tmod 10 = (r : Int) := by rw [Int.tmod_eq_emod_of_nonneg (by omega)]; omega
   rw [← hr] at HD hcut
   have hm10 : r < 10 := by omega
   clear hr
   have hwr : IntKind.u64.wrap ((r : Int) + 1) = (r : Int) + 1 := by rw [IntKind.wrap_u64]; omega
   go_enter Tryz.func41, Tryz.ntmps41
   go_wp2_with fail
   refine wp_region_held_drew (S := fun _ => True) (by kernel_rfl) trivial (fun _ => ?_)
   refine wpAnyH_take (i := 0) (oi := { dst := some 9, op := .move (.tmp 0), guard := none, .. }) (v := .int .u64 (n : Int)) rfl (by kernel_rfl) (by kernel_rfl) (by kernel_rfl) (fun _ _ _ h => h) (Or.inl ⟨by rfl, ?_⟩) trivial ?_
   ·intro w hSw
    go_simp
   simp only [Act.put, sA, sB, sC]
   refine wpAnyH_take (i := 1) (oi := { dst := some 10, op := .binOp .quo 29 (.tmp 9) (.const (.int .u64 10)) 29, guard := none, .. }) (v := .int .u64 (IntKind.u64.wrap ((n : Int) / 10))) rfl (by kernel_rfl) (by kernel_rfl) (by kernel_rfl) (fun _ _ _ h => h) (Or.inl ⟨by rfl, ?_⟩) trivial ?_
   ·intro w hSw
    go_simp
   simp only [Act.put, sA, sB, sC]
   refine wpAnyH_take (i := 3) (oi := { dst := some 12, op := .move (.tmp 0), guard := none, .. }) (v := .int .u64 (n : Int)) rfl (by kernel_rfl) (by kernel_rfl) (by kernel_rfl) (fun _ _ _ h => h) (Or.inl ⟨by rfl, ?_⟩) trivial ?_
   ·intro w hSw
    go_simp
   simp only [Act.put, sA, sB, sC]
   refine wpAnyH_take (i := 4) (oi := { dst := some 13, op := .binOp .rem 29 (.tmp 12) (.const (.int .u64 10)) 29, guard := none, .. }) (v := .int .u64 (r : Int)) rfl (by kernel_rfl) (by kernel_rfl) (by kernel_rfl) (fun _ _ _ h => h) (Or.inl ⟨by rfl, ?_⟩) trivial ?_
   ·intro w hSw
    go_simp
   simp only [Act.put, sA, sB, sC]
   refine wpAnyH_take (i := 5) (oi := { dst := some 14, op := .move (.tmp 0), guard := none, .. }) (v := .int .u64 (n : Int)) rfl (by kernel_rfl) (by kernel_rfl) (by kernel_rfl) (fun _ _ _ h => h) (Or.inl ⟨by rfl, ?_⟩) trivial ?_
   ·intro w hSw
    go_simp
   simp only [Act.put, sA, sB, sC]
   refine wpAnyH_take (i := 6) (oi := { dst := some 15, op := .binOp .rem 29 (.tmp 14) (.const (.int .u64 10)) 29, guard := none, .. }) (v := .int .u64 (r : Int)) rfl (by kernel_rfl) (by kernel_rfl) (by kernel_rfl) (fun _ _ _ h => h) (Or.inl ⟨by rfl, ?_⟩) trivial ?_
   ·intro w hSw
    go_simp
   simp only [Act.put, sA, sB, sC]
   refine wpAnyH_take (i := 7) (oi := { dst := some 16, op := .binOp .add 29 (.tmp 15) (.const (.int .u64 1)) 29, guard := none, .. }) (v := .int .u64 ((r : Int) + 1)) rfl (by kernel_rfl) (by kernel_rfl) (by kernel_rfl) (fun _ _ _ h => h) (Or.inl ⟨by rfl, ?_⟩) trivial ?_
   ·intro w hSw
    go_simp
   simp only [Act.put, sA, sB, sC]
   refine wpAnyH_take (i := 8) (oi := { dst := some 17, op := .slice 9 (.const (.string ⟨#[48, 49, 50, 51, 52, 53, 54, 55, 56, 57]⟩)) (some (.tmp 13)) (some (.tmp 16)) none, guard := none, .. }) (v := .string ⟨#[ub (48 + r)]⟩) rfl (by kernel_rfl) (by kernel_rfl) (by kernel_rfl) (fun _ _ _ h => h) (Or.inl ⟨by rfl, ?_⟩) trivial ?_
   ·intro w hSw
    go_simp
    rw [if_pos ⟨by omega, by omega⟩, if_pos (by omega)]
   simp only [Act.put, sA, sB, sC]
   refine wpAnyH_ready (rs := [2]) (by kernel_rfl) (by simp) ?_
   refine AllReadyH.cons (o := { dst := some 11, op := .call { callee := .value (.func 41), args := #[.tmp 10], argTypes := #[29] }, guard := none, .. }) rfl (fun K hK => ?_) AllReadyH.nil
   rw [if_pos (by rfl)]
   go_wp2_with (go_at_call 41; refine (HC.out _ (by first | omega | exact wrap64 n h64) _).mono ?_; rintro e x ⟨rfl, hb⟩)
   refine hK.out _ _ trivial (fun _ => ?_)
   refine wpAnyH_take (i := 9) (oi := { dst := some 18, op := .binOp .add 9 (.tmp 11) (.tmp 17) 9, guard := none, .. }) (v := .string (⟨d.toArray⟩ ++ ⟨#[ub (48 + r)]⟩)) rfl (by kernel_rfl) (by kernel_rfl) (by kernel_rfl) (fun _ _ _ h => h) (Or.inl ⟨by rfl, ?_⟩) trivial ?_
   ·intro w hSw
    go_simp
    omega
   simp only [Act.put, sA, sB, sC]
   refine wpAnyH_take (i := 10) (oi := { dst := some 2, op := .assign (.tmp 18), guard := none, .. }) (v := .string (⟨d.toArray⟩ ++ ⟨#[ub (48 + r)]⟩)) rfl (by kernel_rfl) (by kernel_rfl) (by kernel_rfl) (fun _ _ _ h => h) (Or.inl ⟨by rfl, ?_⟩) trivial ?_
   ·intro w hSw
    go_simp
   simp only [Act.put, sA, sB, sC]
   refine wpAnyH_done (by kernel_rfl) ?_ _
   have hw := (Below.drew (Below.refl w.heap.size w)).trans hb
   clear hb
   go_wp2
   go_ret
   exact ⟨by rw [HD.out, ← ByteArray.mk_append_mk]; rfl, hw⟩

theorem dd_digs : ∀ f n, n < 10 ^ (f + 1) → digs f n = Lib.decDigits n := by
 intro f
 induction f with
 | zero =>
  intro n hn
  have hn : n < 10 := by simpa using hn
  rw [digs, Lib.decDigits, dif_pos hn, Nat.mod_eq_of_lt hn]
  rfl
 | succ f ih =>
  intro n hn
  by_cases hs : n < 10
  ·rw [digs_small _ _ hs, Lib.decDigits, dif_pos hs, Nat.mod_eq_of_lt hs]
   rfl
  ·rw [digs_big _ _ (by omega), Lib.decDigits, dif_neg hs, ih (n / 10) (by rw [Nat.div_lt_iff_lt_mul (by decide)]; rwa [Nat.pow_succ] at hn)]
   rfl
theorem dd_len (n : Nat) (h : n < 18446744073709551616) : (Lib.decDigits n).length ≤ 20 := by
 rw [← dd_digs 19 n (by omega)]
 exact digs_len 19 n
theorem refDec_dd (n : Nat) (h : n < 18446744073709551616) (w : World) : Calls Tryz.prog 41 #[.int .u64 (n : Int)] w fun e w' => e = .returned (.string ⟨(Lib.decDigits n).toArray⟩) ∧ Below w.heap.size w w' := by
 have := refDec5 19 (Nat.le_refl _) n (by omega) h w
 rw [dd_digs 19 n (by omega)] at this
 exact this

end Go.Proofs.YtcmahiphfpgadaaGreatDoor

/- The document's own printing: signs and margins. -/
namespace Go.Proofs.YtcmahiphfpgadaaGreatDoor
open Go.RowKit
set_option linter.unusedVariables false

set_option maxRecDepth 100000 in
set_option maxHeartbeats 3200000 in
theorem refSign_any (op : Nat) (w : World) : Calls Tryz.prog 82 #[.int .u8 (op : Int)] w fun e w' => e = .returned (.string ⟨(sgT op).toArray⟩) ∧ w' = w := by
  by_cases h : 3 ≤ op ∧ op ≤ 15
  · obtain ⟨h1, h2⟩ := h
    have : op = 3 ∨ op = 4 ∨ op = 5 ∨ op = 6 ∨ op = 7 ∨ op = 8 ∨ op = 9 ∨ op = 10 ∨ op = 11 ∨ op = 12 ∨ op = 13 ∨ op = 14 ∨ op = 15 := by omega
    clear h1 h2
    rcases this with rfl | rfl | rfl | rfl | rfl | rfl | rfl | rfl | rfl | rfl | rfl | rfl | rfl
    all_goals
      (go_enter Tryz.func82, Tryz.ntmps82
       go_wp2
       go_ret
       exact ⟨rfl, rfl⟩)
  · have h3 : ¬ (op : Int) = 3 := by omega
    have h4 : ¬ (op : Int) = 4 := by omega
    have h5 : ¬ (op : Int) = 5 := by omega
    have h6 : ¬ (op : Int) = 6 := by omega
    have h7 : ¬ (op : Int) = 7 := by omega
    have h8 : ¬ (op : Int) = 8 := by omega
    have h9 : ¬ (op : Int) = 9 := by omega
    have h10 : ¬ (op : Int) = 10 := by omega
    have h11 : ¬ (op : Int) = 11 := by omega
    have h12 : ¬ (op : Int) = 12 := by omega
    have h13 : ¬ (op : Int) = 13 := by omega
    have h14 : ¬ (op : Int) = 14 := by omega
    have h15 : ¬ (op : Int) = 15 := by omega
    have HS : Hid (sgT op = []) := by
      show sgT op = []
      unfold sgT
      split <;> first | rfl | omega
    clear h
    go_enter Tryz.func82, Tryz.ntmps82
    go_wp2
    go_ret
    exact ⟨by rw [HS.out]; rfl, rfl⟩

/-- So many blanks. -/
def blk (n : Nat) : List UInt8 := List.replicate n 32
theorem blk_add (n : Nat) : blk n ++ [32, 32] = blk (n + 2) := by
  unfold blk
  rw [List.replicate_succ', List.replicate_succ', List.append_assoc]
  rfl

set_option maxRecDepth 100000 in
set_option maxHeartbeats 1600000 in
theorem margin_any (d : Nat) (hd : d ≤ 1000) (w : World) : Calls Tryz.prog 102 #[.int .i64 (d : Int)] w fun e w' => e = .returned (.string ⟨(blk (2 * d + 2)).toArray⟩) ∧ w' = w := by
  go_enter Tryz.func102, Tryz.ntmps102
  go_wp2
  go_loop [3, 4] (fun s j => ∃ i : Nat, j = .int .i64 (i : Int) ∧ i ≤ d ∧ ∃ l : List UInt8, s = .string ⟨l.toArray⟩ ∧ l.length ≤ 4000 ∧ Hid (l = blk (2 * i + 2))) (fun s j => d - (intOf j).toNat)
  case atStart => exact ⟨0, rfl, Nat.zero_le _, [32, 32], rfl, by simp, (rfl : _ = blk 2)⟩
  case round =>
    obtain ⟨i, rfl, hi, l, rfl, hl, HL⟩ := hrel
    have hsz : (⟨l.toArray⟩ : ByteArray).size = l.length := size_mk l
    by_cases hc : i < d
    · have HL2 : Hid (l ++ [32, 32] = blk (2 * (i + 1) + 2)) := by
        show _ = _
        rw [HL.out, blk_add]
        rfl
      have hl2 : (l ++ [32, 32]).length ≤ 4000 := by
        rw [HL2.out]
        unfold blk
        rw [List.length_replicate]
        omega
      clear HL
      go_wp2
      go_round
      case rel => exact ⟨i + 1, by go_num, by omega, l ++ [32, 32], congrArg Value.string (ByteArray.mk_append_mk l [32, 32]), hl2, HL2⟩
      case measure => simp [intOf]; omega
    · have hin : i = d := by omega
      subst hin
      go_wp2
      go_ret
      exact ⟨by rw [HL.out]; rfl, rfl⟩

set_option maxRecDepth 100000 in
set_option maxHeartbeats 1600000 in
theorem refNone_any (B : Nat) (x : ET) (w : World) (hx : x.In B w) (hBw : B ≤ w.heap.size) : Calls Tryz.prog 103 #[.agg x.cells.toArray] w fun r w' => r = .returned (.bool (samX x.ex (.mk 0 0 0 [] []))) ∧ Below w.heap.size w w' := by
  obtain ⟨op, t, b, nm, a, c, ks⟩ := x
  obtain ⟨Z, hZ⟩ : ∃ Z, Hid (Z = samX (ET.mk op t b nm a c ks).ex (.mk 0 0 0 [] [])) := ⟨_, (rfl : _ = samX (ET.mk op t b nm a c ks).ex (.mk 0 0 0 [] []))⟩
  rw [← hZ.out]
  have HC : Hid (∀ u, Below w.heap.size w u → Calls Tryz.prog 17 #[.agg #[.int .u8 (op : Int), .int .u8 (t : Int), .int .u64 (b : Int), .string nm, .slice a ks.length c], .agg #[.int .u8 0, .int .u8 0, .int .u64 0, .string ⟨#[]⟩, .slice none 0 0]] u fun r w' => r = .returned (.bool Z) ∧ Below u.heap.size u w') := fun u hu => by
    have h0 : (ET.mk 0 0 0 ⟨#[]⟩ none 0 []).In B u := leaf_in 0 0 0 ⟨#[]⟩ B u (by decide) (by decide) (by decide)
    have := kitExpr_any B _ (ET.mk op t b nm a c ks) (Nat.lt_succ_self _) (ET.mk 0 0 0 ⟨#[]⟩ none 0 []) u (hx.old (Old.of_below hu hBw)) h0 (by have := hu.size; omega)
    rw [hZ.out]
    exact this
  clear hZ hx
  show Calls Tryz.prog 103 #[.agg (ex5 op t b nm (.slice a ks.length c)).toArray] w _
  go_enter Tryz.func103, Tryz.ntmps103
  go_wp2_with (first
    | ((with_reducible show wpList _ _ _ _ _ _); refine wpList_box_at rfl 34 (.tmp 0) rfl (ex5 op t b nm (.slice a ks.length c)) rfl ?_; intro w1 hA1 hb1 hs1; clear hs1; refine Hid.out ?_))
  refine hidU ?_
  obtain ⟨p0, p1, p2, p3, p4⟩ := ex_cells hA1
  have hC := HC.out w1 hb1
  clear hA1 HC
  go_wp2_with (go_at_call 17; refine hC.mono ?_; rintro r w2 ⟨rfl, hb2⟩)
  have hw2 := hb1.trans (hb2.mono hb1.size)
  clear hC hb1 hb2 p0 p1 p2 p3 p4
  go_wp2
  go_ret
  exact ⟨rfl, hw2⟩

end Go.Proofs.YtcmahiphfpgadaaGreatDoor

/- The document's own literals. -/
namespace Go.Proofs.YtcmahiphfpgadaaGreatDoor
open Ieee Go.RowKit
set_option linter.unusedVariables false

theorem vl_cells {w : World} {g : Nat} {s1 s2 : Value} (h : At 31 w g [s1, s2]) : w.cell? ⟨g, 0, none⟩ = some s1 ∧ w.cell? ⟨g, 1, none⟩ = some s2 := by
 refine ⟨?_, ?_⟩ <;> (rw [h.cell]; rfl)
theorem np45 (l : List UInt8) (h : ∀ c ∈ l, 48 ≤ c.toNat ∧ c.toNat ≤ 57) : Lib.hasPrefix l [45] = false := by
 cases l with
 | nil => rfl
 | cons c r =>
  have hc := h c (by simp)
  have h45 : c ≠ 45 := by rintro rfl; revert hc; decide
  show ((45 : UInt8) == c && ([] : List UInt8).isPrefixOf r) = false
  rw [show ((45 : UInt8) == c) = false from beq_eq_false_iff_ne.2 (Ne.symm h45)]
  rfl
theorem np_head (c x : UInt8) (r : List UInt8) (h : 48 ≤ c.toNat ∧ c.toNat ≤ 57) (hx : x.toNat < 48) : Lib.hasPrefix (c :: r) [x] = false := by
 have hne : c ≠ x := by rintro rfl; omega
 show (x == c && ([] : List UInt8).isPrefixOf r) = false
 rw [show (x == c) = false from beq_eq_false_iff_ne.2 (Ne.symm hne)]
 rfl
theorem lit1_yes (b : Nat) (h : b < 9223372036854775808) : litOk 1 b = true ∧ valTx 1 b = Lib.decDigits b := by
 have hv : valTx 1 b = Lib.decDigits b := by
  show Lib.itoa (sgn b) = _
  unfold sgn
  rw [if_pos h, Lib.itoa_nonneg]
 refine ⟨?_, hv⟩
 unfold litOk
 rw [hv, np45 _ (dd_dig b)]
 show (decide (b ≠ 9223372036854775808) && !false) = true
 rw [decide_eq_true (by omega)]
 rfl
theorem lit1_neg (b : Nat) (h : 9223372036854775808 < b) (hb : b < 18446744073709551616) : valTx 1 b = 45 :: Lib.decDigits (18446744073709551616 - b) := by
 show Lib.itoa (sgn b) = _
 unfold sgn
 rw [if_neg (by omega), show (b : Int) - 18446744073709551616 = -((18446744073709551616 - b : Nat) : Int) by omega, Lib.itoa_neg _ (by omega)]
theorem lit1_no (b : Nat) (h : 9223372036854775808 ≤ b) (hb : b < 18446744073709551616) : litOk 1 b = false := by
 unfold litOk
 by_cases h2 : b = 9223372036854775808
 ·subst h2
  rfl
 ·rw [lit1_neg b (by omega) hb]
  show (_ && !((45 : UInt8) == 45 && true)) = false
  simp
theorem lit2_tx (b : Nat) : valTx 2 b = if b = 1 then [116, 114, 117, 101] else [102, 97, 108, 115, 101] := by
 show Lib.formatBool (decide (b = 1)) = _
 by_cases h : b = 1
 ·subst h
  rfl
 ·rw [decide_eq_false h, if_neg h]
  rfl
theorem lit2_ok (b : Nat) : litOk 2 b = decide (b ≤ 1) := by
 unfold litOk
 rw [lit2_tx]
 show (decide (b ≤ 1) && _) = _
 by_cases h : b = 1
 ·subst h
  rfl
 ·rw [if_neg h]
  show (decide (b ≤ 1) && true) = _
  rw [Bool.and_true]
theorem home_or (b : Nat) : home b = NAN ∨ home b = b := by
 unfold home
 split
 ·exact .inl rfl
 ·exact .inr rfl
theorem lit3_some (b k n : Nat) (h1 : b ≠ NAN) (h2 : b ≠ 9218868437227405312) (hP : pr (home b) 1 6 = some (k, n)) : b < 9223372036854775808 ∧ litOk 3 b = true ∧ valTx 3 b = litOf k n ∧ (litOf k n).length ≤ 44 := by
 have hno : ¬ (home b = NAN ∨ 9223372036854775808 ≤ home b ∨ val E15 ≤ val (home b)) := fun q => by
  rw [pr_none (home_home b) q] at hP
  cases hP
 have hh : home b = b := by
  rcases home_or b with q | q
  ·exact absurd (.inl q) hno
  ·exact q
 rw [hh] at hP hno
 have hlt : b < 9223372036854775808 := by
  rcases Nat.lt_or_ge b 9223372036854775808 with q | q
  ·exact q
  ·exact absurd (.inr (.inl q)) hno
 have hv : valTx 3 b = litOf k n := by
  show textOf (home b) = _
  rw [hh]
  unfold textOf
  rw [if_neg h1, if_neg h2, if_neg (by omega), hP]
 obtain ⟨p1, p2, p3⟩ := pr_sound 6 1 k n b hP
 obtain ⟨p4, p5⟩ := digits_sound p3
 obtain ⟨⟨c, r, hcr, hc⟩, -, -⟩ := litOf_chars k n p1 (by omega) p5
 have hlen := textOf_len b
 have hvt : textOf b = litOf k n := by rw [← hv]; show _ = textOf (home b); rw [hh]
 rw [hvt] at hlen
 refine ⟨hlt, ?_, hv, hlen⟩
 unfold litOk
 rw [hv]
 show (((home b == b) && !(Lib.hasPrefix (textOf (home b)) [35])) && _) = true
 rw [hh, hvt, hcr, np_head c 35 r hc (by decide), np_head c 45 r hc (by decide)]
 simp
theorem lit3_none (b : Nat) (h1 : b ≠ NAN) (h2 : b ≠ 9218868437227405312) (hP : pr (home b) 1 6 = none) : litOk 3 b = false := by
 unfold litOk
 show (((home b == b) && !(Lib.hasPrefix (textOf (home b)) [35])) && !(Lib.hasPrefix (textOf (home b)) [45])) = false
 rcases home_or b with q | q
 ·have : (home b == b) = false := beq_eq_false_iff_ne.2 (by rw [q]; exact Ne.symm h1)
  rw [this]
  rfl
 ·rw [q] at hP ⊢
  unfold textOf
  rw [if_neg h1, if_neg h2]
  split
  ·simp [Lib.hasPrefix]
  ·rw [hP]
   cases hq : pr (fneg b) 1 6 with
   | some kn => simp [Lib.hasPrefix]
   | none => simp [Lib.hasPrefix]
theorem lit3_nan : litOk 3 NAN = true ∧ valTx 3 NAN = [110, 97, 110] := by decide +kernel
theorem lit3_inf : litOk 3 9218868437227405312 = true ∧ valTx 3 9218868437227405312 = [105, 110, 102] := by decide +kernel
theorem litO (t b : Nat) (h1 : t ≠ 1) (h2 : t ≠ 2) (h3 : t ≠ 3) : litOk t b = false := by
 unfold litOk valOk
 rw [if_neg h1, if_neg h2, if_neg h3]
 rfl

theorem refPrint_any (a : Nat) (ha : a < 18446744073709551616) (w : World) : Calls Tryz.prog 88 #[.int .u64 (a : Int)] w fun e w' => PrintPost (home a) e ∧ Below w.heap.size w w' := by
 by_cases hb : home a = NAN ∨ 9223372036854775808 ≤ home a ∨ val E15 ≤ val (home a)
 ·refine (refPrint_no a (home a) rfl (home_lt ha) hb w).mono ?_
  rintro e w' ⟨rfl, rfl⟩
  exact ⟨.inr ⟨pr_none (home_home a) hb, rfl⟩, Below.refl _ _⟩
 ·have hn : isNan (home a) = false := by
   cases hx : isNan (home a)
   ·rfl
   ·exfalso
    apply hb; left
    rw [← home_home, home_nan hx]
  refine (refPrint_yes a (home a) rfl hn (by omega) (by omega) w).mono ?_
  rintro e w' ⟨h, q, rfl⟩
  exact ⟨h, below_drewN w q⟩

theorem refPrint_lit (a k n : Nat) (ha : a < 18446744073709551616) (l : List UInt8) (h : pr (home a) 1 6 = some (k, n)) (hl : litOf k n = l) (w : World) :
  Calls Tryz.prog 88 #[.int .u64 (a : Int)] w fun e w' => e = .returned (.tuple #[.string ⟨l.toArray⟩, .int .i64 0]) ∧ Below w.heap.size w w' := by
 refine (refPrint_any a ha w).mono ?_
 rintro e w' ⟨⟨k', n', h', rfl⟩ | ⟨h', _⟩, hb⟩
 ·rw [h] at h'
  cases h'
  exact ⟨by rw [hl], hb⟩
 ·rw [h] at h'; cases h'
theorem refPrint_not (a : Nat) (ha : a < 18446744073709551616) (h : pr (home a) 1 6 = none) (w : World) :
  Calls Tryz.prog 88 #[.int .u64 (a : Int)] w fun e w' => e = .returned (.tuple #[.string ⟨#[]⟩, .int .i64 2]) ∧ Below w.heap.size w w' := by
 refine (refPrint_any a ha w).mono ?_
 rintro e w' ⟨⟨k', n', h', rfl⟩ | ⟨h', rfl⟩, hb⟩
 ·rw [h] at h'; cases h'
 ·exact ⟨rfl, hb⟩

set_option maxRecDepth 100000 in
set_option maxHeartbeats 6400000 in
theorem refLit_any (t b : Nat) (ht : t < 256) (hb : b < 18446744073709551616) (w : World) :
  Calls Tryz.prog 42 #[.agg #[.int .u8 (t : Int), .int .u64 (b : Int)]] w fun r w' => Hid (∃ s : List UInt8, r = .returned (.tuple #[.string ⟨s.toArray⟩, .bool (litOk t b)]) ∧ (litOk t b = true → s = valTx t b) ∧ s.length ≤ 44) ∧ Below w.heap.size w w' := by
 go_enter Tryz.func42, Tryz.ntmps42
 go_wp2_with (first
  | ((with_reducible show wpList _ _ _ _ _ _); refine wpList_box_at rfl 31 (.tmp 0) rfl [.int .u8 (t : Int), .int .u64 (b : Int)] rfl ?_; intro w1 hA1 hb1 hs1; clear hs1; refine Hid.out ?_))
 refine hidU ?_
 obtain ⟨c0, c1⟩ := vl_cells hA1
 by_cases h1 : t = 1
 ·subst h1
  go_wp2_with fail
  have hB0 : Below w1.heap.size w1 w1.drew := Below.drew (Below.refl _ _)
  have hS0 := hA1.below hB0
  refine wp_region_held_drew (S := fun x => At 31 x w.heap.size [.int .u8 (1 : Int), .int .u64 (b : Int)]) (by kernel_rfl) hS0 (fun _ => ?_)
  refine wpAnyH_take (i := 0) (oi := { dst := some 10, op := .fieldAddr 31 (.tmp 1) 1, guard := none, .. }) (v := .pointer (some ⟨w.heap.size, 1, none⟩)) rfl (by kernel_rfl) (by kernel_rfl) (by kernel_rfl) (fun _ _ _ h => h) (Or.inl ⟨by rfl, ?_⟩) hS0 ?_
  ·intro w hSw
   go_simp
  simp only [Act.put, sA, sB, sC]
  refine wpAnyH_take (i := 1) (oi := { dst := some 11, op := .load 29 (.tmp 10), guard := none, .. }) (v := .int .u64 (b : Int)) rfl (by kernel_rfl) (by kernel_rfl) (by kernel_rfl) (fun _ _ _ h => h) (Or.inl ⟨by rfl, ?_⟩) hS0 ?_
  ·intro w hSw
   obtain ⟨z0, z1⟩ := vl_cells hSw
   go_simp
  simp only [Act.put, sA, sB, sC]
  refine wpAnyH_take (i := 3) (oi := { dst := some 13, op := .fieldAddr 31 (.tmp 1) 1, guard := none, .. }) (v := .pointer (some ⟨w.heap.size, 1, none⟩)) rfl (by kernel_rfl) (by kernel_rfl) (by kernel_rfl) (fun _ _ _ h => h) (Or.inl ⟨by rfl, ?_⟩) hS0 ?_
  ·intro w hSw
   go_simp
  simp only [Act.put, sA, sB, sC]
  refine wpAnyH_take (i := 4) (oi := { dst := some 14, op := .load 29 (.tmp 13), guard := none, .. }) (v := .int .u64 (b : Int)) rfl (by kernel_rfl) (by kernel_rfl) (by kernel_rfl) (fun _ _ _ h => h) (Or.inl ⟨by rfl, ?_⟩) hS0 ?_
  ·intro w hSw
   obtain ⟨z0, z1⟩ := vl_cells hSw
   go_simp
  simp only [Act.put, sA, sB, sC]
  refine wpAnyH_take (i := 5) (oi := { dst := some 15, op := .binOp .lss 29 (.tmp 14) (.const (.int .u64 9223372036854775808)) 29, guard := none, .. }) (v := .bool (decide ((b : Int) < 9223372036854775808))) rfl (by kernel_rfl) (by kernel_rfl) (by kernel_rfl) (fun _ _ _ h => h) (Or.inl ⟨by rfl, ?_⟩) hS0 ?_
  ·intro w hSw
   go_simp
  simp only [Act.put, sA, sB, sC]
  refine wpAnyH_ready (rs := [2]) (by kernel_rfl) (by simp) ?_
  refine AllReadyH.cons (o := { dst := some 12, op := .call { callee := .value (.func 41), args := #[.tmp 11], argTypes := #[29] }, guard := none, .. }) rfl (fun K hK => ?_) AllReadyH.nil
  rw [if_pos (by rfl)]
  go_wp2_with (go_at_call 41; refine (refDec_dd b hb _).mono ?_; rintro e x ⟨rfl, hb2⟩)
  have hB1 := hB0.trans (hb2.mono hB0.size)
  have hS1 := hA1.below hB1
  refine hK.out _ _ hS1 (fun _ => ?_)
  refine wpAnyH_take (i := 6) (oi := { dst := some 2, op := .assign (.tmp 12), guard := none, .. }) (v := .string ⟨(Lib.decDigits b).toArray⟩) rfl (by kernel_rfl) (by kernel_rfl) (by kernel_rfl) (fun _ _ _ h => h) (Or.inl ⟨by rfl, ?_⟩) hS1 ?_
  ·intro w hSw
   go_simp
  simp only [Act.put, sA, sB, sC]
  refine wpAnyH_take (i := 7) (oi := { dst := some 3, op := .assign (.tmp 15), guard := none, .. }) (v := .bool (decide ((b : Int) < 9223372036854775808))) rfl (by kernel_rfl) (by kernel_rfl) (by kernel_rfl) (fun _ _ _ h => h) (Or.inl ⟨by rfl, ?_⟩) hS1 ?_
  ·intro w hSw
   go_simp
  simp only [Act.put, sA, sB, sC]
  refine wpAnyH_done (by kernel_rfl) ?_ _
  have hwf := hb1.trans (hB1.mono hb1.size)
  have HD : Hid (decide ((b : Int) < 9223372036854775808) = litOk 1 b ∧ (litOk 1 b = true → Lib.decDigits b = valTx 1 b)) := by
   by_cases hl : b < 9223372036854775808
   ·rw [(lit1_yes b hl).1, (lit1_yes b hl).2]
    exact ⟨decide_eq_true (by omega), fun _ => rfl⟩
   ·rw [lit1_no b (by omega) hb]
    exact ⟨decide_eq_false (by omega), fun h => by cases h⟩
  have hlen := dd_len b hb
  clear hA1 hS0 hS1 hB0 hB1 hb2 c0 c1 hb1
  go_wp2
  go_ret2
  refine ⟨hidU ⟨Lib.decDigits b, ?_, HD.out.2, by omega⟩, hwf⟩
  rw [← HD.out.1]
  rfl
 by_cases h2 : t = 2
 ·subst h2
  by_cases hb1' : b = 1
  ·subst hb1'
   have HL : Hid (litOk 2 1 = true ∧ valTx 2 1 = [116, 114, 117, 101]) := ⟨by rw [lit2_ok]; rfl, by rw [lit2_tx]; rfl⟩
   go_wp2
   go_ret2
   exact ⟨hidU ⟨[116, 114, 117, 101], by rw [HL.out.1]; rfl, fun _ => HL.out.2.symm, by decide⟩, hb1⟩
  ·have hbi : ¬ (b : Int) = 1 := by omega
   go_wp2_with fail
   have hB0 : Below w1.heap.size w1 w1.drew := Below.drew (Below.refl _ _)
   have hS0 := hA1.below hB0
   refine wp_region_held_drew (S := fun x => At 31 x w.heap.size [.int .u8 (2 : Int), .int .u64 (b : Int)]) (by kernel_rfl) hS0 (fun _ => ?_)
   refine wpAnyH_take (i := 0) (oi := { dst := some 21, op := .fieldAddr 31 (.tmp 1) 1, guard := none, .. }) (v := .pointer (some ⟨w.heap.size, 1, none⟩)) rfl (by kernel_rfl) (by kernel_rfl) (by kernel_rfl) (fun _ _ _ h => h) (Or.inl ⟨by rfl, ?_⟩) hS0 ?_
   ·intro w hSw
    go_simp
   simp only [Act.put, sA, sB, sC]
   refine wpAnyH_take (i := 1) (oi := { dst := some 22, op := .load 29 (.tmp 21), guard := none, .. }) (v := .int .u64 (b : Int)) rfl (by kernel_rfl) (by kernel_rfl) (by kernel_rfl) (fun _ _ _ h => h) (Or.inl ⟨by rfl, ?_⟩) hS0 ?_
   ·intro w hSw
    obtain ⟨z0, z1⟩ := vl_cells hSw
    go_simp
   simp only [Act.put, sA, sB, sC]
   refine wpAnyH_take (i := 2) (oi := { dst := some 23, op := .binOp .eql 29 (.tmp 22) (.const (.int .u64 0)) 29, guard := none, .. }) (v := .bool ((b : Int) == 0)) rfl (by kernel_rfl) (by kernel_rfl) (by kernel_rfl) (fun _ _ _ h => h) (Or.inl ⟨by rfl, ?_⟩) hS0 ?_
   ·intro w hSw
    go_simp
   simp only [Act.put, sA, sB, sC]
   refine wpAnyH_take (i := 3) (oi := { dst := some 2, op := .assign (.const (.string ⟨#[102, 97, 108, 115, 101]⟩)), guard := none, .. }) (v := .string ⟨#[102, 97, 108, 115, 101]⟩) rfl (by kernel_rfl) (by kernel_rfl) (by kernel_rfl) (fun _ _ _ h => h) (Or.inl ⟨by rfl, ?_⟩) hS0 ?_
   ·intro w hSw
    go_simp
   simp only [Act.put, sA, sB, sC]
   refine wpAnyH_take (i := 4) (oi := { dst := some 3, op := .assign (.tmp 23), guard := none, .. }) (v := .bool ((b : Int) == 0)) rfl (by kernel_rfl) (by kernel_rfl) (by kernel_rfl) (fun _ _ _ h => h) (Or.inl ⟨by rfl, ?_⟩) hS0 ?_
   ·intro w hSw
    go_simp
   simp only [Act.put, sA, sB, sC]
   refine wpAnyH_done (by kernel_rfl) ?_ _
   have hwf := hb1.trans (hB0.mono hb1.size)
   have HL : Hid (((b : Int) == 0) = litOk 2 b ∧ valTx 2 b = [102, 97, 108, 115, 101]) := by
    refine ⟨?_, by rw [lit2_tx, if_neg hb1']⟩
    rw [lit2_ok]
    by_cases h0 : b = 0
    ·subst h0
     rfl
    ·rw [decide_eq_false (by omega), beq_eq_false_iff_ne.2 (by omega)]
   clear hA1 hS0 hB0 c0 c1 hb1
   go_wp2
   go_ret2
   refine ⟨hidU ⟨[102, 97, 108, 115, 101], ?_, fun _ => HL.out.2.symm, by decide⟩, hwf⟩
   rw [← HL.out.1]
   rfl
 have t1 : ¬ (t : Int) = 1 := by omega
 have t2 : ¬ (t : Int) = 2 := by omega
 by_cases h3 : t = 3
 ·subst h3
  by_cases hn : b = NAN
  ·subst hn
   have HL : Hid (litOk 3 NAN = true ∧ valTx 3 NAN = [110, 97, 110]) := lit3_nan
   have hN : ((NAN : Nat) : Int) = 9221120237041090560 := by decide
   go_wp2
   go_ret2
   exact ⟨hidU ⟨[110, 97, 110], by rw [HL.out.1]; rfl, fun _ => HL.out.2.symm, by decide⟩, hb1⟩
  ·have hni : ¬ (b : Int) = 9221120237041090560 := by
    intro h
    apply hn
    show b = 9221120237041090560
    omega
   by_cases hi : b = 9218868437227405312
   ·subst hi
    have HL : Hid (litOk 3 9218868437227405312 = true ∧ valTx 3 9218868437227405312 = [105, 110, 102]) := lit3_inf
    go_wp2
    go_ret2
    exact ⟨hidU ⟨[105, 110, 102], by rw [HL.out.1]; rfl, fun _ => HL.out.2.symm, by decide⟩, hb1⟩
   ·have hii : ¬ (b : Int) = 9218868437227405312 := by omega
    cases hP : pr (home b) 1 6 with
    | some kn =>
     obtain ⟨k, n⟩ := kn
     obtain ⟨q1, q2, q3, q4⟩ := lit3_some b k n hn hi hP
     obtain ⟨L, hL⟩ : ∃ L, L = litOf k n := ⟨_, rfl⟩
     have hC := refPrint_lit b k n hb L hP hL.symm w1
     rw [← hL] at q3 q4
     have HL : Hid (litOk 3 b = true ∧ valTx 3 b = L) := ⟨q2, q3⟩
     have HQ : Hid (b < 9223372036854775808 ∧ L.length ≤ 44) := ⟨q1, q4⟩
     clear hP hL q1 q2 q3 q4
     go_wp2_with (go_at_call 88; refine hC.mono ?_; rintro r x0 ⟨rfl, hbx⟩; refine Hid.out ?_)
     refine hidU ?_
     have hAx := hA1.below hbx
     have hwx := hb1.trans (hbx.mono hb1.size)
     clear hA1 c0 c1 hC hbx hb1
     obtain ⟨c0, c1⟩ := vl_cells hAx
     have hB0 : Below x0.heap.size x0 x0.drew := Below.drew (Below.refl _ _)
     have hS0 := hAx.below hB0
     have hwf := hwx.trans (hB0.mono hwx.size)
     go_wp2_with fail
     refine wp_region_held_drew (S := fun x => At 31 x w.heap.size [.int .u8 (3 : Int), .int .u64 (b : Int)]) (by kernel_rfl) hS0 (fun _ => ?_)
     refine wpAnyH_take (i := 0) (oi := { dst := some 38, op := .move (.tmp 4), guard := none, .. }) (v := .string ⟨L.toArray⟩) rfl (by kernel_rfl) (by kernel_rfl) (by kernel_rfl) (fun _ _ _ h => h) (Or.inl ⟨by rfl, ?_⟩) hS0 ?_
     ·intro w hSw
      go_simp
     simp only [Act.put, sA, sB, sC]
     refine wpAnyH_take (i := 1) (oi := { dst := some 39, op := .move (.tmp 5), guard := none, .. }) (v := .int .i64 0) rfl (by kernel_rfl) (by kernel_rfl) (by kernel_rfl) (fun _ _ _ h => h) (Or.inl ⟨by rfl, ?_⟩) hS0 ?_
     ·intro w hSw
      go_simp
     simp only [Act.put, sA, sB, sC]
     refine wpAnyH_take (i := 2) (oi := { dst := some 40, op := .binOp .eql 39 (.tmp 39) (.const (.int .i64 0)) 39, guard := none, .. }) (v := .bool true) rfl (by kernel_rfl) (by kernel_rfl) (by kernel_rfl) (fun _ _ _ h => h) (Or.inl ⟨by rfl, ?_⟩) hS0 ?_
     ·intro w hSw
      go_simp
     simp only [Act.put, sA, sB, sC]
     refine wpAnyH_take (i := 3) (oi := { dst := some 41, op := .move (.tmp 40), guard := none, .. }) (v := .bool true) rfl (by kernel_rfl) (by kernel_rfl) (by kernel_rfl) (fun _ _ _ h => h) (Or.inl ⟨by rfl, ?_⟩) hS0 ?_
     ·intro w hSw
      go_simp
     simp only [Act.put, sA, sB, sC]
     refine wpAnyH_take (i := 4) (oi := { dst := some 42, op := .fieldAddr 31 (.tmp 1) 1, guard := some (3, true), .. }) (v := .pointer (some ⟨w.heap.size, 1, none⟩)) rfl (by kernel_rfl) (by kernel_rfl) (by kernel_rfl) (fun _ _ _ h => h) (Or.inl ⟨by rfl, ?_⟩) hS0 ?_
     ·intro w hSw
      go_simp
     simp only [Act.put, sA, sB, sC]
     refine wpAnyH_take (i := 5) (oi := { dst := some 43, op := .load 29 (.tmp 42), guard := some (3, true), .. }) (v := .int .u64 (b : Int)) rfl (by kernel_rfl) (by kernel_rfl) (by kernel_rfl) (fun _ _ _ h => h) (Or.inl ⟨by rfl, ?_⟩) hS0 ?_
     ·intro w hSw
      obtain ⟨z0, z1⟩ := vl_cells hSw
      go_simp
     simp only [Act.put, sA, sB, sC]
     refine wpAnyH_take (i := 6) (oi := { dst := some 44, op := .binOp .lss 29 (.tmp 43) (.const (.int .u64 9223372036854775808)) 29, guard := some (3, true), .. }) (v := .bool true) rfl (by kernel_rfl) (by kernel_rfl) (by kernel_rfl) (fun _ _ _ h => h) (Or.inl ⟨by rfl, ?_⟩) hS0 ?_
     ·intro w hSw
      have hbd : (b : Int) < 9223372036854775808 := by have := HQ.out.1; omega
      go_simp
     simp only [Act.put, sA, sB, sC]
     refine wpAnyH_take (i := 7) (oi := { dst := some 45, op := .pick (.tmp 41) (.tmp 44) (.const (.bool false)), guard := none, .. }) (v := .bool true) rfl (by kernel_rfl) (by kernel_rfl) (by kernel_rfl) (fun _ _ _ h => h) (Or.inl ⟨by rfl, ?_⟩) hS0 ?_
     ·intro w hSw
      go_simp
     simp only [Act.put, sA, sB, sC]
     refine wpAnyH_take (i := 8) (oi := { dst := some 2, op := .assign (.tmp 38), guard := none, .. }) (v := .string ⟨L.toArray⟩) rfl (by kernel_rfl) (by kernel_rfl) (by kernel_rfl) (fun _ _ _ h => h) (Or.inl ⟨by rfl, ?_⟩) hS0 ?_
     ·intro w hSw
      go_simp
     simp only [Act.put, sA, sB, sC]
     refine wpAnyH_take (i := 9) (oi := { dst := some 3, op := .assign (.tmp 45), guard := none, .. }) (v := .bool true) rfl (by kernel_rfl) (by kernel_rfl) (by kernel_rfl) (fun _ _ _ h => h) (Or.inl ⟨by rfl, ?_⟩) hS0 ?_
     ·intro w hSw
      go_simp
     simp only [Act.put, sA, sB, sC]
     refine wpAnyH_done (by kernel_rfl) ?_ _
     clear hAx hS0 hB0 c0 c1 hwx
     go_wp2
     go_ret2
     exact ⟨hidU ⟨L, by rw [HL.out.1]; rfl, fun _ => HL.out.2.symm, HQ.out.2⟩, hwf⟩
    | none =>
     have HL : Hid (litOk 3 b = false) := lit3_none b hn hi hP
     have hC := refPrint_not b hb hP w1
     clear hP
     go_wp2_with (go_at_call 88; refine hC.mono ?_; rintro r x0 ⟨rfl, hbx⟩; refine Hid.out ?_)
     refine hidU ?_
     have hAx := hA1.below hbx
     have hwx := hb1.trans (hbx.mono hb1.size)
     clear hA1 c0 c1 hC hbx hb1
     obtain ⟨c0, c1⟩ := vl_cells hAx
     have hB0 : Below x0.heap.size x0 x0.drew := Below.drew (Below.refl _ _)
     have hS0 := hAx.below hB0
     have hwf := hwx.trans (hB0.mono hwx.size)
     go_wp2_with fail
     refine wp_region_held_drew (S := fun x => At 31 x w.heap.size [.int .u8 (3 : Int), .int .u64 (b : Int)]) (by kernel_rfl) hS0 (fun _ => ?_)
     refine wpAnyH_take (i := 0) (oi := { dst := some 38, op := .move (.tmp 4), guard := none, .. }) (v := .string ⟨#[]⟩) rfl (by kernel_rfl) (by kernel_rfl) (by kernel_rfl) (fun _ _ _ h => h) (Or.inl ⟨by rfl, ?_⟩) hS0 ?_
     ·intro w hSw
      go_simp
     simp only [Act.put, sA, sB, sC]
     refine wpAnyH_take (i := 1) (oi := { dst := some 39, op := .move (.tmp 5), guard := none, .. }) (v := .int .i64 2) rfl (by kernel_rfl) (by kernel_rfl) (by kernel_rfl) (fun _ _ _ h => h) (Or.inl ⟨by rfl, ?_⟩) hS0 ?_
     ·intro w hSw
      go_simp
     simp only [Act.put, sA, sB, sC]
     refine wpAnyH_take (i := 2) (oi := { dst := some 40, op := .binOp .eql 39 (.tmp 39) (.const (.int .i64 0)) 39, guard := none, .. }) (v := .bool false) rfl (by kernel_rfl) (by kernel_rfl) (by kernel_rfl) (fun _ _ _ h => h) (Or.inl ⟨by rfl, ?_⟩) hS0 ?_
     ·intro w hSw
      go_simp
     simp only [Act.put, sA, sB, sC]
     refine wpAnyH_take (i := 3) (oi := { dst := some 41, op := .move (.tmp 40), guard := none, .. }) (v := .bool false) rfl (by kernel_rfl) (by kernel_rfl) (by kernel_rfl) (fun _ _ _ h => h) (Or.inl ⟨by rfl, ?_⟩) hS0 ?_
     ·intro w hSw
      go_simp
     simp only [Act.put, sA, sB, sC]
     refine wpAnyH_take (i := 4) (oi := { dst := some 42, op := .fieldAddr 31 (.tmp 1) 1, guard := some (3, true), .. }) (v := undef) rfl (by kernel_rfl) (by kernel_rfl) (by kernel_rfl) (fun _ _ _ h => h) (Or.inr ⟨by rfl, rfl⟩) hS0 ?_
     simp only [Act.put, sA, sB, sC]
     refine wpAnyH_take (i := 5) (oi := { dst := some 43, op := .load 29 (.tmp 42), guard := some (3, true), .. }) (v := undef) rfl (by kernel_rfl) (by kernel_rfl) (by kernel_rfl) (fun _ _ _ h => h) (Or.inr ⟨by rfl, rfl⟩) hS0 ?_
     simp only [Act.put, sA, sB, sC]
     refine wpAnyH_take (i := 6) (oi := { dst := some 44, op := .binOp .lss 29 (.tmp 43) (.const (.int .u64 9223372036854775808)) 29, guard := some (3, true), .. }) (v := undef) rfl (by kernel_rfl) (by kernel_rfl) (by kernel_rfl) (fun _ _ _ h => h) (Or.inr ⟨by rfl, rfl⟩) hS0 ?_
     simp only [Act.put, sA, sB, sC]
     refine wpAnyH_take (i := 7) (oi := { dst := some 45, op := .pick (.tmp 41) (.tmp 44) (.const (.bool false)), guard := none, .. }) (v := .bool false) rfl (by kernel_rfl) (by kernel_rfl) (by kernel_rfl) (fun _ _ _ h => h) (Or.inl ⟨by rfl, ?_⟩) hS0 ?_
     ·intro w hSw
      go_simp
     simp only [Act.put, sA, sB, sC]
     refine wpAnyH_take (i := 8) (oi := { dst := some 2, op := .assign (.tmp 38), guard := none, .. }) (v := .string ⟨#[]⟩) rfl (by kernel_rfl) (by kernel_rfl) (by kernel_rfl) (fun _ _ _ h => h) (Or.inl ⟨by rfl, ?_⟩) hS0 ?_
     ·intro w hSw
      go_simp
     simp only [Act.put, sA, sB, sC]
     refine wpAnyH_take (i := 9) (oi := { dst := some 3, op := .assign (.tmp 45), guard := none, .. }) (v := .bool false) rfl (by kernel_rfl) (by kernel_rfl) (by kernel_rfl) (fun _ _ _ h => h) (Or.inl ⟨by rfl, ?_⟩) hS0 ?_
     ·intro w hSw
      go_simp
     simp only [Act.put, sA, sB, sC]
     refine wpAnyH_done (by kernel_rfl) ?_ _
     clear hAx hS0 hB0 c0 c1 hwx
     go_wp2
     go_ret2
     exact ⟨hidU ⟨[], by rw [HL.out]; rfl, (fun h => by rw [HL.out] at h; cases h), by decide⟩, hwf⟩
 ·have t3 : ¬ (t : Int) = 3 := by omega
  have HL : Hid (litOk t b = false) := litO t b h1 h2 h3
  go_wp2
  go_ret2
  exact ⟨hidU ⟨[], by rw [HL.out]; rfl, (fun h => by rw [HL.out] at h; cases h), by decide⟩, hb1⟩

end Go.Proofs.YtcmahiphfpgadaaGreatDoor
