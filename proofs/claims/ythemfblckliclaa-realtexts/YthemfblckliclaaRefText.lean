/- The document's own Text: it answers as the code's does. -/
import Derived.Test.YthemfblckliclaaRefPrint2
import Derived.Laws.Bits64b
namespace Go.Proofs.Ythemfblckliclaa
open Ieee Go.RowKit
set_option linter.unusedVariables false

theorem refPrint_any (a : Nat) (ha : a < 18446744073709551616) (w : World) : Calls Try.prog 34 #[.int .u64 (a : Int)] w fun e w' => PrintPost (home a) e ∧ ∃ q, w' = w.drewN q := by
  by_cases hb : home a = NAN ∨ 9223372036854775808 ≤ home a ∨ val E15 ≤ val (home a)
  · refine (refPrint_no a (home a) rfl (home_lt ha) hb w).mono ?_
    rintro e w' ⟨rfl, rfl⟩
    exact ⟨.inr ⟨pr_none (home_home a) hb, rfl⟩, 0, rfl⟩
  · have hn : isNan (home a) = false := by
      cases hx : isNan (home a)
      · rfl
      · exfalso
        apply hb; left
        rw [← home_home, home_nan hx]
    exact refPrint_yes a (home a) rfl hn (by omega) (by omega) w

theorem refPrint_lit (a k n : Nat) (ha : a < 18446744073709551616) (l : List UInt8) (h : pr (home a) 1 6 = some (k, n)) (hl : litOf k n = l) (w : World) :
    Calls Try.prog 34 #[.int .u64 (a : Int)] w fun e w' => e = .returned (.tuple #[.string ⟨l.toArray⟩, .int .i64 0]) ∧ ∃ q, w' = w.drewN q := by
  refine (refPrint_any a ha w).mono ?_
  rintro e w' ⟨⟨k', n', h', rfl⟩ | ⟨h', _⟩, hb⟩
  · rw [h] at h'
    cases h'
    exact ⟨by rw [hl], hb⟩
  · rw [h] at h'; cases h'

theorem refPrint_not (a : Nat) (ha : a < 18446744073709551616) (h : pr (home a) 1 6 = none) (w : World) :
    Calls Try.prog 34 #[.int .u64 (a : Int)] w fun e w' => e = .returned (.tuple #[.string ⟨#[]⟩, .int .i64 2]) ∧ ∃ q, w' = w.drewN q := by
  refine (refPrint_any a ha w).mono ?_
  rintro e w' ⟨⟨k', n', h', rfl⟩ | ⟨h', rfl⟩, hb⟩
  · rw [h] at h'; cases h'
  · exact ⟨rfl, hb⟩

/-- A number's digits to the base 16, so many. -/
def hexN : Nat → Nat → List UInt8
  | 0, _ => []
  | j + 1, h => ub (hdN (h / 16 ^ j % 16)) :: hexN j h

theorem hexN_bytes (s h : Nat) : hexN (2 * s) h = hexOf (bytesOf s h) := by
  induction s with
  | zero => rfl
  | succ s ih =>
    rw [show 2 * (s + 1) = 2 * s + 1 + 1 by omega, hexN, hexN, bytesOf, hexOf, ih]
    have e : 256 ^ s = 16 ^ (2 * s) := by rw [Nat.pow_mul]
    have hx : h / 256 ^ s % 256 < 256 := Nat.mod_lt _ (by decide)
    rw [ub_toNat _ hx, e]
    have h1 : h / 16 ^ (2 * s + 1) = h / 16 ^ (2 * s) / 16 := by rw [Nat.pow_succ, Nat.div_div_eq_div_mul]
    rw [h1]
    generalize h / 16 ^ (2 * s) = y
    rw [show y / 16 % 16 = y % 256 / 16 by omega, show y % 16 = y % 256 % 16 by omega]

theorem shr4 (n k : Nat) : (n : Int) / 2 ^ (4 * k) = ((n / 16 ^ k : Nat) : Int) := by
  rw [Int.natCast_ediv, Int.natCast_pow, Int.pow_mul]
  rfl

theorem and15 (n : Nat) (hn : n < 18446744073709551616) : bits .and .u64 (n : Int) 15 = ((n % 16 : Nat) : Int) := by
  have := bits_and_u64_nat n 15 hn (by decide)
  rw [show (15 : Nat) = 2 ^ 4 - 1 from rfl, Nat.and_two_pow_sub_one_eq_mod] at this
  exact this

set_option maxRecDepth 100000 in
set_option maxHeartbeats 1600000 in
theorem refText_home (a h : Nat) (hh : h = home a) (hl : h < 18446744073709551616) (w : World) : Calls Try.prog 36 #[.int .u64 (a : Int)] w fun e w' => e = .returned (.string ⟨(textOf h).toArray⟩) ∧ ∃ q, w' = w.drewN q := by
  have hhh : home h = h := by rw [hh, home_home]
  have k0 : ∀ w, Calls Try.prog 24 #[.int .u64 (a : Int)] w fun e w' => e = .returned (.int .u64 (h : Int)) ∧ w' = w := fun w => by rw [hh]; exact refCanon_any a w
  clear hh
  by_cases c1 : h = NAN
  · have ht : textOf h = [110, 97, 110] := by unfold textOf; rw [if_pos c1]
    rw [ht]
    subst c1
    go_enter Try.func36, Try.ntmps36
    go_wp2_with fail
    refine (k0 _).mono ?_
    rintro e w' ⟨rfl, rfl⟩
    go_wp2
    go_ret
    exact ⟨rfl, 0, rfl⟩
  have b1 : ((h : Int) == 9221120237041090560) = false := by rw [beq_eq_false_iff_ne]; intro hx; apply c1; unfold NAN; omega
  by_cases c2 : h = 9218868437227405312
  · have ht : textOf h = [105, 110, 102] := by unfold textOf; rw [if_neg c1, if_pos c2]
    rw [ht]
    subst c2
    go_enter Try.func36, Try.ntmps36
    go_wp2_with fail
    refine (k0 _).mono ?_
    rintro e w' ⟨rfl, rfl⟩
    go_wp2
    go_ret
    exact ⟨rfl, 0, rfl⟩
  have b2 : ((h : Int) == 9218868437227405312) = false := by rw [beq_eq_false_iff_ne]; omega
  by_cases c3 : h = 18442240474082181120
  · have ht : textOf h = [45, 105, 110, 102] := by unfold textOf; rw [if_neg c1, if_neg c2, if_pos c3]
    rw [ht]
    subst c3
    go_enter Try.func36, Try.ntmps36
    go_wp2_with fail
    refine (k0 _).mono ?_
    rintro e w' ⟨rfl, rfl⟩
    go_wp2
    go_ret
    exact ⟨rfl, 0, rfl⟩
  have b3 : ((h : Int) == 18442240474082181120) = false := by rw [beq_eq_false_iff_ne]; omega
  have ht : textOf h = match pr h 1 6 with
    | some (k, n) => litOf k n
    | none => match pr (fneg h) 1 6 with
      | some (k, n) => 45 :: litOf k n
      | none => 35 :: hexOf (bytesOf 8 h) := by unfold textOf; rw [if_neg c1, if_neg c2, if_neg c3]; rfl
  cases hp : pr h 1 6 with
  | some kn =>
    obtain ⟨k, n⟩ := kn
    rw [hp] at ht
    simp only at ht
    have p1 := refPrint_lit h k n hl (textOf h) (by rw [hhh]; exact hp) ht.symm
    clear ht
    go_enter Try.func36, Try.ntmps36
    go_wp2_with fail
    refine (k0 _).mono ?_
    rintro e w' ⟨rfl, rfl⟩
    go_wp2_with fail
    refine (p1 _).mono ?_
    rintro e w2 ⟨rfl, q2, rfl⟩
    go_wp2
    go_ret
    exact ⟨rfl, _, rfl⟩
  | none =>
    rw [hp] at ht
    simp only at ht
    have p1 := refPrint_not h hl (by rw [hhh]; exact hp)
    obtain ⟨g, hg⟩ : ∃ g, g = fneg h := ⟨_, rfl⟩
    have hgl : g < 18446744073709551616 := by rw [hg]; exact fneg_lt hl
    have k1 : ∀ w, Calls Try.prog 20 #[.int .u64 (h : Int)] w fun e w' => e = .returned (.int .u64 (g : Int)) ∧ w' = w := fun w => by rw [hg]; exact refNeg_any h hl w
    have hgh : home g = g := by rw [hg]; exact home_fneg h hl
    cases hq : pr (fneg h) 1 6 with
    | some kn =>
      obtain ⟨k, n⟩ := kn
      rw [hq] at ht
      simp only at ht
      obtain ⟨L, hL⟩ : ∃ L, L = litOf k n := ⟨_, rfl⟩
      have hLl : L.length ≤ 43 := by rw [hL]; exact litOf_len k n
      have p2 := refPrint_lit g k n hgl L (by rw [hgh, hg]; exact hq) hL.symm
      have ht' : textOf h = 45 :: L := by rw [ht, hL]
      rw [ht']
      clear ht ht' hL hp hq hg
      have hsz : (⟨L.toArray⟩ : ByteArray).size = L.length := size_mk L
      go_enter Try.func36, Try.ntmps36
      go_wp2_with fail
      refine (k0 _).mono ?_
      rintro e w' ⟨rfl, rfl⟩
      go_wp2_with fail
      refine (p1 _).mono ?_
      rintro e w2 ⟨rfl, q2, rfl⟩
      go_wp2_with fail
      refine (k1 _).mono ?_
      rintro e w' ⟨rfl, rfl⟩
      go_wp2_with fail
      refine (p2 _).mono ?_
      rintro e w3 ⟨rfl, q3, rfl⟩
      go_wp2
      go_ret
      exact ⟨congrArg (fun x => Ending.returned (.string x)) (cat_list [45] L), _, rfl⟩
    | none =>
      rw [hq] at ht
      simp only at ht
      have p2 := refPrint_not g hgl (by rw [hgh, hg]; exact hq)
      have HT : Hid (textOf h = 35 :: hexN 16 h) := by show _ = _; rw [ht, ← hexN_bytes]
      clear ht hp hq hg
      go_enter Try.func36, Try.ntmps36
      go_wp2_with fail
      refine (k0 _).mono ?_
      rintro e w' ⟨rfl, hw'⟩
      rw [hw']
      clear hw' w' k0
      go_wp2_with fail
      refine (p1 _).mono ?_
      rintro e w2 ⟨rfl, q2, rfl⟩
      go_wp2_with fail
      refine (k1 _).mono ?_
      rintro e w' ⟨rfl, hw'⟩
      rw [hw']
      clear hw' w'
      go_wp2_with fail
      refine (p2 _).mono ?_
      rintro e w3 ⟨rfl, q3, rfl⟩
      clear p1 k1 p2
      go_wp2
      go_loop [3, 5] (fun v t => ∃ (j : Nat) (out : List UInt8), j ≤ 16 ∧ out.length ≤ 17 ∧ t = .int .i64 (4 * (j : Int) - 4) ∧ out.length + j = 17 ∧ v = .string ⟨out.toArray⟩ ∧ Hid (out ++ hexN j h = 35 :: hexN 16 h)) (fun _ t => (intOf t + 4).toNat)
      case atStart => exact ⟨16, [35], by omega, by simp, rfl, rfl, rfl, (rfl : [35] ++ hexN 16 h = 35 :: hexN 16 h)⟩
      case round =>
        obtain ⟨j, out, hj, hol, rfl, holj, rfl, hsh⟩ := hrel
        cases j with
        | zero =>
          have HO : Hid (out = textOf h) := by
            show _ = _
            rw [HT.out, ← hsh.out]; simp [hexN]
          clear hsh
          go_wp2
          go_ret
          exact ⟨by rw [← HO.out]; rfl, _, rfl⟩
        | succ j =>
          rw [show 4 * ((j + 1 : Nat) : Int) - 4 = ((4 * j : Nat) : Int) by omega]
          obtain ⟨Y, hY⟩ : ∃ Y, Y = h / 16 ^ j := ⟨_, rfl⟩
          have hYl : Y < 18446744073709551616 := by rw [hY]; exact Nat.lt_of_le_of_lt (Nat.div_le_self _ _) hl
          have hs4 : (h : Int) / 2 ^ (4 * j) = (Y : Int) := by rw [shr4, hY]
          obtain ⟨d, hd⟩ : ∃ d, d = Y % 16 := ⟨_, rfl⟩
          have hdl : d < 16 := by rw [hd]; exact Nat.mod_lt _ (by decide)
          have ha15 : bits .and .u64 (Y : Int) 15 = (d : Int) := by rw [and15 Y hYl, hd]
          have hcut := cut16 ⟨d, hdl⟩
          simp only at hcut
          have HO : Hid ((out ++ [ub (hdN d)]) ++ hexN j h = 35 :: hexN 16 h) := by
            show _ = _
            rw [← hsh.out, hexN, hd, hY]; simp
          have hsz : (⟨out.toArray⟩ : ByteArray).size = out.length := size_mk out
          clear hsh hY hd
          go_wp2
          go_round
          case rel => exact ⟨j, out ++ [ub (hdN d)], by omega, by simp; omega, by go_num, by simp; omega, by rw [← cat_list], HO⟩
          case measure => simp [intOf]; omega

end Go.Proofs.Ythemfblckliclaa
