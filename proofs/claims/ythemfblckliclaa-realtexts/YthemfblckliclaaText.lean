/- real.Text. -/
import Derived.Test.YthemfblckliclaaLitText
import Derived.Test.YthemfblckliclaaRingWalk
namespace Go.Proofs.Ythemfblckliclaa
open Go.RowKit
set_option linter.unusedVariables false

/-- The text of a real that was brought home. -/
def textOf (h : Nat) : List UInt8 :=
  if h = NAN then [110, 97, 110]
  else if h = 9218868437227405312 then [105, 110, 102]
  else if h = 18442240474082181120 then [45, 105, 110, 102]
  else match pr h 1 6 with
    | some (k, n) => litOf k n
    | none => match pr (fneg h) 1 6 with
      | some (k, n) => 45 :: litOf k n
      | none => 35 :: hexOf (bytesOf 8 h)

theorem litOf_len (k n : Nat) : (litOf k n).length ≤ 43 := by
  unfold litOf
  have h1 := decOf_len ((n / 10 ^ k : Nat) : Int)
  have h2 := decOf_len ((10 ^ k + n % 10 ^ k : Nat) : Int)
  rw [List.length_append, List.length_append, List.length_drop]
  simp only [List.length_singleton]
  omega

theorem hex8_len (h : Nat) : (hexOf (bytesOf 8 h)).length = 16 := by
  rw [hexOf_length, bytesOf_length]

theorem bytes8 (h : Nat) (hh : h < 18446744073709551616) (w : World) : Calls Try.prog 52 #[.int .u64 (h : Int), .int .i64 8] w fun e w' => ∃ (a : Option Addr) (c : Nat), e = .returned (.tuple #[.slice a 8 c, .int .i64 0]) ∧ Row w' a (bytesOf 8 h) ∧ Below w.heap.size w w' := by
  refine (show Calls Try.prog 52 #[.int .u64 (h : Int), .int .i64 8] w _ from bytes_ok h 8 hh (by omega) (by omega) (Nat.div_eq_of_lt hh) w).mono ?_
  rintro e w' ⟨v, rfl, hown, hb⟩
  obtain ⟨a, c, rfl, _, _, hrow⟩ := hown.row
  rw [bytesOf_length]
  exact ⟨a, c, rfl, hrow, hb⟩

theorem hex8 (a : Option Addr) (c h : Nat) (w : World) (hrow : Row w a (bytesOf 8 h)) (d : List UInt8) (hd : Hid (d = hexOf (bytesOf 8 h))) : Calls Try.prog 53 #[.slice a 8 c] w fun e w' => e = .returned (.string ⟨d.toArray⟩) ∧ Below w.heap.size w w' := by
  have := hex_any a c (bytesOf 8 h) w hrow (by rw [bytesOf_length]; omega)
  rw [bytesOf_length, ← hd.out] at this
  exact this

set_option maxRecDepth 100000 in
set_option maxHeartbeats 1600000 in
theorem text_home (a h : Nat) (hh : h = home a) (hl : h < 18446744073709551616) (w : World) : Calls Try.prog 35 #[.int .u64 (a : Int)] w fun e w' => e = .returned (.string ⟨(textOf h).toArray⟩) ∧ Below w.heap.size w w' := by
  have hhh : home h = h := by rw [hh, home_home]
  have k0 : ∀ w, Calls Try.prog 23 #[.int .u64 (a : Int)] w fun e w' => e = .returned (.int .u64 (h : Int)) ∧ w' = w := fun w => by rw [hh]; exact canon_any a w
  clear hh
  by_cases c1 : h = NAN
  · have ht : textOf h = [110, 97, 110] := by unfold textOf; rw [if_pos c1]
    rw [ht]
    subst c1
    go_enter Try.func35, Try.ntmps35
    go_wp2_with fail
    refine (k0 _).mono ?_
    rintro e w' ⟨rfl, rfl⟩
    go_wp2
    go_ret
    exact ⟨rfl, Below.refl _ _⟩
  have b1 : ((h : Int) == 9221120237041090560) = false := by rw [beq_eq_false_iff_ne]; intro hx; apply c1; unfold NAN; omega
  by_cases c2 : h = 9218868437227405312
  · have ht : textOf h = [105, 110, 102] := by unfold textOf; rw [if_neg c1, if_pos c2]
    rw [ht]
    subst c2
    go_enter Try.func35, Try.ntmps35
    go_wp2_with fail
    refine (k0 _).mono ?_
    rintro e w' ⟨rfl, rfl⟩
    go_wp2
    go_ret
    exact ⟨rfl, Below.refl _ _⟩
  have b2 : ((h : Int) == 9218868437227405312) = false := by rw [beq_eq_false_iff_ne]; omega
  by_cases c3 : h = 18442240474082181120
  · have ht : textOf h = [45, 105, 110, 102] := by unfold textOf; rw [if_neg c1, if_neg c2, if_pos c3]
    rw [ht]
    subst c3
    go_enter Try.func35, Try.ntmps35
    go_wp2_with fail
    refine (k0 _).mono ?_
    rintro e w' ⟨rfl, rfl⟩
    go_wp2
    go_ret
    exact ⟨rfl, Below.refl _ _⟩
  have b3 : ((h : Int) == 18442240474082181120) = false := by rw [beq_eq_false_iff_ne]; omega
  have ht : textOf h = match pr h 1 6 with
    | some (k, n) => litOf k n
    | none => match pr (fneg h) 1 6 with
      | some (k, n) => 45 :: litOf k n
      | none => 35 :: hexOf (bytesOf 8 h) := by unfold textOf; rw [if_neg c1, if_neg c2, if_neg c3]
  cases hp : pr h 1 6 with
  | some kn =>
    obtain ⟨k, n⟩ := kn
    rw [hp] at ht
    simp only at ht
    have p1 := print_lit h k n (textOf h) (by rw [hhh]; exact hp) ht.symm
    clear ht
    go_enter Try.func35, Try.ntmps35
    go_wp2_with fail
    refine (k0 _).mono ?_
    rintro e w' ⟨rfl, rfl⟩
    go_wp2_with fail
    refine (p1 _).mono ?_
    rintro e w2 ⟨rfl, hb2⟩
    go_wp2
    go_ret
    exact ⟨rfl, hb2⟩
  | none =>
    rw [hp] at ht
    simp only at ht
    have p1 := print_not h (by rw [hhh]; exact hp)
    obtain ⟨g, hg⟩ : ∃ g, g = fneg h := ⟨_, rfl⟩
    have k1 : ∀ w, Calls Try.prog 19 #[.int .u64 (h : Int)] w fun e w' => e = .returned (.int .u64 (g : Int)) ∧ w' = w := fun w => by rw [hg]; exact neg_any h hl w
    have hgh : home g = g := by rw [hg]; exact home_fneg h hl
    cases hq : pr (fneg h) 1 6 with
    | some kn =>
      obtain ⟨k, n⟩ := kn
      rw [hq] at ht
      simp only at ht
      obtain ⟨L, hL⟩ : ∃ L, L = litOf k n := ⟨_, rfl⟩
      have hLl : L.length ≤ 43 := by rw [hL]; exact litOf_len k n
      have p2 := print_lit g k n L (by rw [hgh, hg]; exact hq) hL.symm
      have ht' : textOf h = 45 :: L := by rw [ht, hL]
      rw [ht']
      clear ht ht' hL hp hq hg
      have hsz : (⟨L.toArray⟩ : ByteArray).size = L.length := size_mk L
      go_enter Try.func35, Try.ntmps35
      go_wp2_with fail
      refine (k0 _).mono ?_
      rintro e w' ⟨rfl, rfl⟩
      go_wp2_with fail
      refine (p1 _).mono ?_
      rintro e w2 ⟨rfl, hb2⟩
      go_wp2_with fail
      refine (k1 _).mono ?_
      rintro e w' ⟨rfl, rfl⟩
      go_wp2_with fail
      refine (p2 _).mono ?_
      rintro e w3 ⟨rfl, hb3⟩
      go_wp2
      go_ret
      exact ⟨congrArg (fun x => Ending.returned (.string x)) (cat_list [45] L), hb2.trans (hb3.mono hb2.size)⟩
    | none =>
      rw [hq] at ht
      simp only at ht
      have p2 := print_not g (by rw [hgh, hg]; exact hq)
      obtain ⟨L, hL⟩ : ∃ L, Hid (L = hexOf (bytesOf 8 h)) := ⟨_, (rfl : hexOf (bytesOf 8 h) = _)⟩
      have hLl : L.length = 16 := by rw [hL.out]; exact hex8_len h
      rw [← hL.out] at ht
      rw [ht]
      have hsz : (⟨L.toArray⟩ : ByteArray).size = L.length := size_mk L
      clear ht hp hq hg
      go_enter Try.func35, Try.ntmps35
      go_wp2_with fail
      refine (k0 _).mono ?_
      rintro e w' ⟨rfl, rfl⟩
      go_wp2_with fail
      refine (p1 _).mono ?_
      rintro e w2 ⟨rfl, hb2⟩
      go_wp2_with fail
      refine (k1 _).mono ?_
      rintro e w' ⟨rfl, rfl⟩
      go_wp2_with fail
      refine (p2 _).mono ?_
      rintro e w3 ⟨rfl, hb3⟩
      have hC3 := hb2.trans (hb3.mono hb2.size)
      clear hb2 hb3
      go_wp2_with fail
      refine (bytes8 h hl _).mono ?_
      rintro e w4 ⟨a4, c4, rfl, hrow, hb4⟩
      have hC4 := hC3.trans (hb4.mono hC3.size)
      clear hC3 hb4
      go_wp2_with fail
      refine (hex8 a4 c4 h _ hrow L hL).mono ?_
      rintro e w5 ⟨rfl, hb5⟩
      go_wp2
      go_ret
      exact ⟨congrArg (fun x => Ending.returned (.string x)) (cat_list [35] L), hC4.trans (hb5.mono hC4.size)⟩

theorem text_any (a : Nat) (ha : a < 18446744073709551616) (w : World) : Calls Try.prog 35 #[.int .u64 (a : Int)] w fun e w' => e = .returned (.string ⟨(textOf (home a)).toArray⟩) ∧ Below w.heap.size w w' := text_home a (home a) rfl (home_lt ha) w

end Go.Proofs.Ythemfblckliclaa
