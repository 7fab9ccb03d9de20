/- Joined texts of the proof. -/
import Derived.Test.YtjgggmjjikopeaaGreatDoorJ5
import Derived.Test.YtjgggmjjikopeaaGreatDoorJ6
import Derived.Test.YtjgggmjjikopeaaGreatDoorJ8

/- awake: the document's examples are answered as it says. -/
namespace Go.Proofs.YtjgggmjjikopeaaGreatDoor
open Go.RowKit
set_option linter.unusedVariables false

theorem print_lit (a k n : Nat) (l : List UInt8) (h : pr (home a) 1 6 = some (k, n)) (hl : litOf k n = l) (w : World) :
    Calls Tryz.prog 174 #[.int .u64 (a : Int)] w fun e w' => e = .returned (.tuple #[.string ⟨l.toArray⟩, .int .i64 0]) ∧ Below w.heap.size w w' := by
  refine (print_any a w).mono ?_
  rintro e w' ⟨⟨k', n', h', rfl⟩ | ⟨h', _⟩, hb⟩
  · rw [h] at h'
    cases h'
    exact ⟨by rw [hl], hb⟩
  · rw [h] at h'; cases h'

theorem print_not (a : Nat) (h : pr (home a) 1 6 = none) (w : World) :
    Calls Tryz.prog 174 #[.int .u64 (a : Int)] w fun e w' => e = .returned (.tuple #[.string ⟨#[]⟩, .int .i64 2]) ∧ Below w.heap.size w w' := by
  refine (print_any a w).mono ?_
  rintro e w' ⟨⟨k', n', h', rfl⟩ | ⟨h', rfl⟩, hb⟩
  · rw [h] at h'; cases h'
  · exact ⟨rfl, hb⟩

end Go.Proofs.YtjgggmjjikopeaaGreatDoor

/- Sums and products turned about; and the law RealRing, walked. -/
namespace Go.Proofs.YtjgggmjjikopeaaGreatDoor
open Ieee Go.RowKit
set_option linter.unusedVariables false

theorem home_fneg (a : Nat) (ha : a < 18446744073709551616) : home (fneg a) = fneg a := by
  cases hn : isNan a
  · exact home_real (by rw [isNan_fneg ha, hn])
  · rw [show fneg a = NAN by simp only [fneg, hn, if_true]]; decide

end Go.Proofs.YtjgggmjjikopeaaGreatDoor

/- real.Text. -/
namespace Go.Proofs.YtjgggmjjikopeaaGreatDoor
open Go.RowKit
set_option linter.unusedVariables false

/-- The text of a real that was brought home. -/
def textOf (h : Nat) : List UInt8 :=
  if h = NAN then [110, 97, 110]
  else if h = 9218868437227405312 then [105, 110, 102]
  else if h = 18442240474082181120 then [45, 105, 110, 102]
  else match pr h 1 6 with
    | some (k, n) => litOf k n
    | none => match pr (fneg h) 1 6 with
      | some (k, n) => 45 :: litOf k n
      | none => 35 :: hexOf (bytesOf 8 h)

theorem litOf_len (k n : Nat) : (litOf k n).length ≤ 43 := by
  unfold litOf
  have h1 := decOf_len ((n / 10 ^ k : Nat) : Int)
  have h2 := decOf_len ((10 ^ k + n % 10 ^ k : Nat) : Int)
  rw [List.length_append, List.length_append, List.length_drop]
  simp only [List.length_singleton]
  omega

theorem hex8_len (h : Nat) : (hexOf (bytesOf 8 h)).length = 16 := by
  rw [hexOf_length, bytesOf_length]

theorem bytes8 (h : Nat) (hh : h < 18446744073709551616) (w : World) : Calls Tryz.prog 175 #[.int .u64 (h : Int), .int .i64 8] w fun e w' => ∃ (a : Option Addr) (c : Nat), e = .returned (.tuple #[.slice a 8 c, .int .i64 0]) ∧ Row w' a (bytesOf 8 h) ∧ Below w.heap.size w w' := by
  refine (show Calls Tryz.prog 175 #[.int .u64 (h : Int), .int .i64 8] w _ from bytes_ok h 8 hh (by omega) (by omega) (Nat.div_eq_of_lt hh) w).mono ?_
  rintro e w' ⟨v, rfl, hown, hb⟩
  obtain ⟨a, c, rfl, _, _, hrow⟩ := hown.row
  rw [bytesOf_length]
  exact ⟨a, c, rfl, hrow, hb⟩

theorem hex8 (a : Option Addr) (c h : Nat) (w : World) (hrow : Row w a (bytesOf 8 h)) (d : List UInt8) (hd : Hid (d = hexOf (bytesOf 8 h))) : Calls Tryz.prog 176 #[.slice a 8 c] w fun e w' => e = .returned (.string ⟨d.toArray⟩) ∧ Below w.heap.size w w' := by
  have := hex_any a c (bytesOf 8 h) w hrow (by rw [bytesOf_length]; omega)
  rw [bytesOf_length, ← hd.out] at this
  exact this

set_option maxRecDepth 100000 in
set_option maxHeartbeats 1600000 in
theorem text_home (a h : Nat) (hh : h = home a) (hl : h < 18446744073709551616) (w : World) : Calls Tryz.prog 148 #[.int .u64 (a : Int)] w fun e w' => e = .returned (.string ⟨(textOf h).toArray⟩) ∧ Below w.heap.size w w' := by
  have hhh : home h = h := by rw [hh, home_home]
  have k0 : ∀ w, Calls Tryz.prog 173 #[.int .u64 (a : Int)] w fun e w' => e = .returned (.int .u64 (h : Int)) ∧ w' = w := fun w => by rw [hh]; exact canon_any a w
  clear hh
  by_cases c1 : h = NAN
  · have ht : textOf h = [110, 97, 110] := by unfold textOf; rw [if_pos c1]
    rw [ht]
    subst c1
    go_enter Tryz.func148, Tryz.ntmps148
    go_wp2_with fail
    refine (k0 _).mono ?_
    rintro e w' ⟨rfl, rfl⟩
    go_wp2
    go_ret
    exact ⟨rfl, Below.refl _ _⟩
  have b1 : ((h : Int) == 9221120237041090560) = false := by rw [beq_eq_false_iff_ne]; intro hx; apply c1; unfold NAN; omega
  by_cases c2 : h = 9218868437227405312
  · have ht : textOf h = [105, 110, 102] := by unfold textOf; rw [if_neg c1, if_pos c2]
    rw [ht]
    subst c2
    go_enter Tryz.func148, Tryz.ntmps148
    go_wp2_with fail
    refine (k0 _).mono ?_
    rintro e w' ⟨rfl, rfl⟩
    go_wp2
    go_ret
    exact ⟨rfl, Below.refl _ _⟩
  have b2 : ((h : Int) == 9218868437227405312) = false := by rw [beq_eq_false_iff_ne]; omega
  by_cases c3 : h = 18442240474082181120
  · have ht : textOf h = [45, 105, 110, 102] := by unfold textOf; rw [if_neg c1, if_neg c2, if_pos c3]
    rw [ht]
    subst c3
    go_enter Tryz.func148, Tryz.ntmps148
    go_wp2_with fail
    refine (k0 _).mono ?_
    rintro e w' ⟨rfl, rfl⟩
    go_wp2
    go_ret
    exact ⟨rfl, Below.refl _ _⟩
  have b3 : ((h : Int) == 18442240474082181120) = false := by rw [beq_eq_false_iff_ne]; omega
  have ht : textOf h = match pr h 1 6 with
    | some (k, n) => litOf k n
    | none => match pr (fneg h) 1 6 with
      | some (k, n) => 45 :: litOf k n
      | none => 35 :: hexOf (bytesOf 8 h) := by unfold textOf; rw [if_neg c1, if_neg c2, if_neg c3]
  cases hp : pr h 1 6 with
  | some kn =>
    obtain ⟨k, n⟩ := kn
    rw [hp] at ht
    simp only at ht
    have p1 := print_lit h k n (textOf h) (by rw [hhh]; exact hp) ht.symm
    clear ht
    go_enter Tryz.func148, Tryz.ntmps148
    go_wp2_with fail
    refine (k0 _).mono ?_
    rintro e w' ⟨rfl, rfl⟩
    go_wp2_with fail
    refine (p1 _).mono ?_
    rintro e w2 ⟨rfl, hb2⟩
    go_wp2
    go_ret
    exact ⟨rfl, hb2⟩
  | none =>
    rw [hp] at ht
    simp only at ht
    have p1 := print_not h (by rw [hhh]; exact hp)
    obtain ⟨g, hg⟩ : ∃ g, g = fneg h := ⟨_, rfl⟩
    have k1 : ∀ w, Calls Tryz.prog 161 #[.int .u64 (h : Int)] w fun e w' => e = .returned (.int .u64 (g : Int)) ∧ w' = w := fun w => by rw [hg]; exact neg_any h hl w
    have hgh : home g = g := by rw [hg]; exact home_fneg h hl
    cases hq : pr (fneg h) 1 6
    focus
      rw [hq] at ht
      simp only at ht
      have p2 := print_not g (by rw [hgh, hg]; exact hq)
      obtain ⟨L, hL⟩ : ∃ L, Hid (L = hexOf (bytesOf 8 h)) := ⟨_, (rfl : hexOf (bytesOf 8 h) = _)⟩
      have hLl : L.length = 16 := by rw [hL.out]; exact hex8_len h
      rw [← hL.out] at ht
      rw [ht]
    rotate_left
    focus
      rename_i kn
      obtain ⟨k, n⟩ := kn
      rw [hq] at ht
      simp only at ht
      obtain ⟨L, hL⟩ : ∃ L, L = litOf k n := ⟨_, rfl⟩
      have hLl : L.length ≤ 43 := by rw [hL]; exact litOf_len k n
      have p2 := print_lit g k n L (by rw [hgh, hg]; exact hq) hL.symm
      have ht' : textOf h = 45 :: L := by rw [ht, hL]
      rw [ht']
      clear ht ht' hL hp hq hg
    rotate_left
    all_goals
      have hsz : (⟨L.toArray⟩ : ByteArray).size = L.length := size_mk L
    focus
      clear ht hp hq hg
    all_goals
      go_enter Tryz.func148, Tryz.ntmps148
      go_wp2_with fail
      refine (k0 _).mono ?_
      rintro e w' ⟨rfl, rfl⟩
      go_wp2_with fail
      refine (p1 _).mono ?_
      rintro e w2 ⟨rfl, hb2⟩
      go_wp2_with fail
      refine (k1 _).mono ?_
      rintro e w' ⟨rfl, rfl⟩
      go_wp2_with fail
      refine (p2 _).mono ?_
      rintro e w3 ⟨rfl, hb3⟩
    · have hC3 := hb2.trans (hb3.mono hb2.size)
      clear hb2 hb3
      go_wp2_with fail
      refine (bytes8 h hl _).mono ?_
      rintro e w4 ⟨a4, c4, rfl, hrow, hb4⟩
      have hC4 := hC3.trans (hb4.mono hC3.size)
      clear hC3 hb4
      go_wp2_with fail
      refine (hex8 a4 c4 h _ hrow L hL).mono ?_
      rintro e w5 ⟨rfl, hb5⟩
      go_wp2
      go_ret
      exact ⟨congrArg (fun x => Ending.returned (.string x)) (cat_list [35] L), hC4.trans (hb5.mono hC4.size)⟩
    · go_wp2
      go_ret
      exact ⟨congrArg (fun x => Ending.returned (.string x)) (cat_list [45] L), hb2.trans (hb3.mono hb2.size)⟩
theorem text_any (a : Nat) (ha : a < 18446744073709551616) (w : World) : Calls Tryz.prog 148 #[.int .u64 (a : Int)] w fun e w' => e = .returned (.string ⟨(textOf (home a)).toArray⟩) ∧ Below w.heap.size w w' := text_home a (home a) rfl (home_lt ha) w

end Go.Proofs.YtjgggmjjikopeaaGreatDoor

/- Values' texts. -/
namespace Go.Proofs.YtjgggmjjikopeaaGreatDoor
open Go.RowKit
set_option linter.unusedVariables false

/-- The table of powers is laid. -/
def Tab (w : World) : Prop := Lib.TabIs Tryz.prog w "internal/strconv.uint64pow10" .u64 Lib.pow10Tab

/-- The package variables lie in the first blocks. -/
def gB : Nat := 7

theorem Tab.below {B : Nat} {w w' : World} (h : Tab w) (hb : Below B w w') (hB : gB ≤ B) : Tab w' := by
  unfold Tab Lib.TabIs World.var? at *
  obtain ⟨g, hg, hx⟩ := Option.bind_eq_some_iff.1 h
  have hgl : g < gB := by
    have : Tryz.prog.globalNamed "internal/strconv.uint64pow10" = some g := hg
    have h2 : (Tryz.prog.globalNamed "internal/strconv.uint64pow10").all (fun g => decide (g < gB)) = true := by kernel_rfl
    rw [this] at h2
    simpa using h2
  rw [hg, Option.bind_some, hb.block g (by omega)]
  exact hx

theorem below_grow (w : World) (k : Nat) (os : Array Obj) : Below w.heap.size w (Sort.grow (w.drewN k) os) :=
  ⟨rfl, rfl, rfl, by simp [Sort.grow], fun i hi => by simp [Sort.grow, Array.getElem?_append_left hi]⟩

/-- A word as a number with a sign. -/
def sgn (b : Nat) : Int := if b < 9223372036854775808 then (b : Int) else (b : Int) - 18446744073709551616

/-- A value's text. -/
def valTx (t b : Nat) : List UInt8 := if t = 1 then Lib.itoa (sgn b) else if t = 2 then Lib.formatBool (decide (b = 1)) else if t = 3 then textOf (home b) else []
/-- Whether it may be told. -/
def valOk (t b : Nat) : Bool := if t = 1 then decide (b ≠ 9223372036854775808) else if t = 2 then decide (b ≤ 1) else if t = 3 then ((home b == b) && !(Lib.hasPrefix (textOf (home b)) [35])) else false

theorem formatInt_any (b : Nat) (hb : b < 18446744073709551616) (w : World) (hT : Tab w) :
    Calls Tryz.prog 146 #[.int .i64 (sgn b), .int .i64 10] w fun e w' => e = .returned (.string ⟨(Lib.itoa (sgn b)).toArray⟩) ∧ Below w.heap.size w w' := by
  refine (Tryz.strconv_FormatInt_10 (sgn b) (by unfold sgn; split <;> omega) (by unfold sgn; split <;> omega) w hT).mono ?_
  rintro e w' ⟨rfl, k, os, rfl⟩
  exact ⟨rfl, below_grow w k os⟩

theorem conv64 (b : Nat) (hb : b < 18446744073709551616) : IntKind.i64.wrap (b : Int) = sgn b := by
  rw [IntKind.wrap_i64]
  unfold sgn
  split <;> omega

set_option maxRecDepth 100000 in
set_option maxHeartbeats 1600000 in
theorem valueText_any (t b : Nat) (ht : t < 256) (hb : b < 18446744073709551616) (w : World) (hT : Tab w) (h16 : gB ≤ w.heap.size) :
    Calls Tryz.prog 112 #[.agg [.int .u8 (t : Int), .int .u64 (b : Int)].toArray] w fun e w' => e = .returned (.tuple #[.string ⟨(valTx t b).toArray⟩, .bool (valOk t b)]) ∧ Below w.heap.size w w' := by
  by_cases h1 : t = 1
  · subst h1
    have hv : valTx 1 b = Lib.itoa (sgn b) := rfl
    have ho : valOk 1 b = decide (b ≠ 9223372036854775808) := rfl
    have hcv := conv64 b hb
    have hgt : decide (sgn b > -9223372036854775808) = decide (b ≠ 9223372036854775808) := by
      congr 1
      unfold sgn
      apply propext
      constructor
      · intro h; split at h <;> omega
      · intro h; split <;> omega
    have hF : ∀ w, Tab w → Calls Tryz.prog 146 #[.int .i64 (sgn b), .int .i64 10] w fun e w' => e = .returned (.string ⟨(Lib.itoa (sgn b)).toArray⟩) ∧ Below w.heap.size w w' := fun w h => formatInt_any b hb w h
    rw [hv, ho]
    obtain ⟨x, hx⟩ : ∃ x, x = sgn b := ⟨_, rfl⟩
    rw [← hx] at hcv hF hgt ⊢
    obtain ⟨L, hL⟩ : ∃ L, L = Lib.itoa x := ⟨_, rfl⟩
    rw [← hL] at hF ⊢
    clear hL hv ho hx
    go_enter Tryz.func112, Tryz.ntmps112
    go_wp2_with fail
    refine (hF _ (hT.below ((Below.refl _ w).alloc (Nat.le_refl _) _) h16)).mono ?_
    rintro e w2 ⟨rfl, hb2⟩
    have hgt' : decide (-9223372036854775808 < x) = decide (b ≠ 9223372036854775808) := hgt
    clear hgt hF hcv
    go_wp2
    go_ret2
    exact ⟨by simp, ((Below.refl _ w).alloc (Nat.le_refl _) _).trans (hb2.mono (by simp))⟩
  by_cases h2 : t = 2
  · subst h2
    have hv : valTx 2 b = Lib.formatBool (decide (b = 1)) := rfl
    have ho : valOk 2 b = decide (b ≤ 1) := rfl
    have hbe : ((b : Int) == 1) = decide (b = 1) := by rw [Bool.eq_iff_iff]; simp; omega
    have hbl : decide ((b : Int) ≤ 1) = decide (b ≤ 1) := by congr 1; apply propext; omega
    rw [hv, ho]
    obtain ⟨B, hB⟩ : ∃ B, B = decide (b = 1) := ⟨_, rfl⟩
    rw [← hB] at hbe ⊢
    have hF : ∀ w, Calls Tryz.prog 147 #[.bool B] w fun e w' => e = .returned (.string ⟨(Lib.formatBool B).toArray⟩) ∧ w' = w := fun w => Tryz.strconv_FormatBool B w
    obtain ⟨L, hL⟩ : ∃ L, L = Lib.formatBool B := ⟨_, rfl⟩
    rw [← hL] at hF ⊢
    rw [← hbl]
    clear hL hv ho hB hbl
    go_enter Tryz.func112, Tryz.ntmps112
    go_wp2_with fail
    go_quiet (first | (go_at_call 147; exact Calls.quiet_of_same (hF _)))
    go_wp2
    go_ret2
    have hx := (Below.refl _ w).alloc (Nat.le_refl _) (.cells #[.int .u8 2, .int .u64 (b : Int)] 40)
    exact ⟨rfl, hx.os, hx.tape, hx.output, hx.size, hx.block⟩
  by_cases h3 : t = 3
  · subst h3
    have hv : valTx 3 b = textOf (home b) := rfl
    have ho : valOk 3 b = ((home b == b) && !(Lib.hasPrefix (textOf (home b)) [35])) := rfl
    have hX : ∀ w, Calls Tryz.prog 148 #[.int .u64 (b : Int)] w fun e w' => e = .returned (.string ⟨(textOf (home b)).toArray⟩) ∧ Below w.heap.size w w' := fun w => text_any b hb w
    have hM : ∀ w, Calls Tryz.prog 149 #[.int .u64 (b : Int)] w fun e w' => e = .returned (.bool (home b == b)) ∧ w' = w := fun w => may_any b w hb
    rw [hv, ho]
    obtain ⟨L, hL⟩ : ∃ L, L = textOf (home b) := ⟨_, rfl⟩
    rw [← hL] at hX ⊢
    obtain ⟨M, hMM⟩ : ∃ M, M = (home b == b) := ⟨_, rfl⟩
    rw [← hMM] at hM ⊢
    clear hL hv ho hMM
    have hP : ∀ w, Calls Tryz.prog 150 #[.string ⟨L.toArray⟩, .string ⟨#[35]⟩] w fun e w' => e = .returned (.bool (Lib.hasPrefix L [35])) ∧ w' = w := fun w => Tryz.strings_HasPrefix ⟨L.toArray⟩ ⟨#[35]⟩ w
    go_enter Tryz.func112, Tryz.ntmps112
    go_wp2_with fail
    refine (hX _).mono ?_
    rintro e w2 ⟨rfl, hb2⟩
    have c1 : w2.cell? ⟨w.heap.size, 1, none⟩ = some (.int .u64 (b : Int)) := by
      rw [World.cell?_of_block (hb2.block _ (by simp))]
      simp
    have hbb : Below w.heap.size w w2 := ((Below.refl _ w).alloc (Nat.le_refl _) _).trans (hb2.mono (by simp))
    clear hb2 hX
    cases M with
    | false =>
      go_wp2_with fail
      refine (hM _).mono ?_
      rintro e w' ⟨rfl, rfl⟩
      go_wp2
      go_ret2
      exact ⟨rfl, hbb⟩
    | true =>
      go_wp2_with fail
      refine (hM _).mono ?_
      rintro e w' ⟨rfl, rfl⟩
      go_wp2_with fail
      refine (hP _).mono ?_
      rintro e w' ⟨rfl, rfl⟩
      go_wp2
      go_ret2
      exact ⟨rfl, hbb⟩
  · have hv : valTx t b = [] := by unfold valTx; rw [if_neg h1, if_neg h2, if_neg h3]
    have ho : valOk t b = false := by unfold valOk; rw [if_neg h1, if_neg h2, if_neg h3]
    rw [hv, ho]
    have e1 : ((t : Int) == 1) = false := by rw [beq_eq_false_iff_ne]; omega
    have e2 : ((t : Int) == 2) = false := by rw [beq_eq_false_iff_ne]; omega
    have e3 : ((t : Int) == 3) = false := by rw [beq_eq_false_iff_ne]; omega
    go_enter Tryz.func112, Tryz.ntmps112
    go_wp2
    go_ret2
    exact ⟨rfl, (Below.refl _ w).alloc (Nat.le_refl _) _⟩

/-- Whether a value may be a literal. -/
def litOk (t b : Nat) : Bool := valOk t b && !(Lib.hasPrefix (valTx t b) [45])

set_option maxRecDepth 100000 in
set_option maxHeartbeats 1600000 in
theorem mayLit_any (t b : Nat) (ht : t < 256) (hb : b < 18446744073709551616) (w : World) (hT : Tab w) (h16 : gB ≤ w.heap.size) :
    Calls Tryz.prog 136 #[.agg [.int .u8 (t : Int), .int .u64 (b : Int)].toArray] w fun e w' => e = .returned (.bool (litOk t b)) ∧ Below w.heap.size w w' := by
  have hV := fun w hT h16 => valueText_any t b ht hb w hT h16
  unfold litOk
  obtain ⟨L, hL⟩ : ∃ L, L = valTx t b := ⟨_, rfl⟩
  obtain ⟨M, hM⟩ : ∃ M, M = valOk t b := ⟨_, rfl⟩
  rw [← hL, ← hM] at hV ⊢
  clear hL hM
  have hP : ∀ w, Calls Tryz.prog 150 #[.string ⟨L.toArray⟩, .string ⟨#[45]⟩] w fun e w' => e = .returned (.bool (Lib.hasPrefix L [45])) ∧ w' = w := fun w => Tryz.strings_HasPrefix ⟨L.toArray⟩ ⟨#[45]⟩ w
  go_enter Tryz.func136, Tryz.ntmps136
  go_wp2_with fail
  refine (hV _ (hT.below ((Below.refl _ w).alloc (Nat.le_refl _) _) h16) (by simp; omega)).mono ?_
  rintro e w2 ⟨rfl, hb2⟩
  have hbb : Below w.heap.size w w2 := ((Below.refl _ w).alloc (Nat.le_refl _) _).trans (hb2.mono (by simp))
  clear hV hb2
  cases M with
  | false =>
    go_wp2
    go_ret
    exact ⟨rfl, hbb⟩
  | true =>
    go_wp2_with fail
    refine (hP _).mono ?_
    rintro e w' ⟨rfl, rfl⟩
    go_wp2
    go_ret
    exact ⟨rfl, hbb⟩

end Go.Proofs.YtjgggmjjikopeaaGreatDoor

/- Expressions in memory. -/
namespace Go.Proofs.YtjgggmjjikopeaaGreatDoor
open Go.RowKit
set_option linter.unusedVariables false

/-- An expression, with where its operands lie. -/
inductive ET where
  | mk (op t b : Nat) (nm : ByteArray) (a : Option Addr) (c : Nat) (kids : List ET)

/-- Its cells. -/
def ET.cells : ET → List Value
  | .mk op t b nm a c ks => [.int .u8 (op : Int), .int .u8 (t : Int), .int .u64 (b : Int), .string nm, .slice a ks.length c]

mutual
/-- As data. -/
def ET.ex : ET → Ex
  | .mk op t b nm _ _ ks => .mk op t b nm.data.toList (ET.exs ks)
def ET.exs : List ET → List Ex
  | [] => []
  | e :: r => e.ex :: ET.exs r
end

mutual
/-- It lies in blocks below B. -/
def ET.In (B : Nat) (w : World) : ET → Prop
  | .mk op t b nm a c ks => op < 256 ∧ t < 256 ∧ b < 18446744073709551616 ∧ ks.length ≤ 1048576 ∧ ks.length ≤ c ∧ (ks = [] ∨ ∃ g o, a = some ⟨g, o, none⟩ ∧ g < B ∧ ET.Row B w g ks o)
def ET.Row (B : Nat) (w : World) (g : Nat) : List ET → Nat → Prop
  | [], _ => True
  | e :: r, o => w.rangeAt g o e.cells ∧ e.In B w ∧ ET.Row B w g r (o + 5)
end

theorem ET.exs_eq : ∀ ks : List ET, ET.exs ks = ks.map ET.ex
  | [] => rfl
  | e :: r => by rw [ET.exs, ET.exs_eq r]; rfl

theorem ET.cells_len (e : ET) : e.cells.length = 5 := by cases e; rfl

/-- Blocks below B stand. -/
def Old (B : Nat) (w w' : World) : Prop := ∀ k, k < B → w'.heap[k]? = w.heap[k]?

theorem Old.of_below {B C : Nat} {w w' : World} (h : Below C w w') (hB : B ≤ C) : Old B w w' := fun k hk => h.block k (by omega)
theorem Old.of_wr {B g : Nat} {w w' : World} (h : Wr B g w w') (hB : B ≤ g) (hw : B ≤ w.heap.size) : Old B w w' := fun k hk => h.block k (by omega) (by omega) (.inl hk)
theorem Old.trans {B : Nat} {a b c : World} (h : Old B a b) (k : Old B b c) : Old B a c := fun i hi => (k i hi).trans (h i hi)
theorem Old.range {B g o : Nat} {w w' : World} {cs : List Value} (h : Old B w w') (hg : g < B) (hr : w.rangeAt g o cs) : w'.rangeAt g o cs := fun j v hj => by
  rw [World.cell?_of_block (w := w) (w' := w') (h _ hg)]
  exact hr j v hj

mutual
theorem ET.In.old {B : Nat} {w w' : World} (hO : Old B w w') : ∀ {e : ET}, e.In B w → e.In B w'
  | .mk op t b nm a c ks, h => by
    unfold ET.In at h ⊢
    obtain ⟨h1, h2, h3, h4, h5, h6⟩ := h
    refine ⟨h1, h2, h3, h4, h5, ?_⟩
    rcases h6 with h6 | ⟨g, o, ha, hg, hr⟩
    · exact .inl h6
    · exact .inr ⟨g, o, ha, hg, ET.Row.old hO hg hr⟩
theorem ET.Row.old {B : Nat} {w w' : World} (hO : Old B w w') {g : Nat} (hg : g < B) : ∀ {ks : List ET} {o : Nat}, ET.Row B w g ks o → ET.Row B w' g ks o
  | [], o, _ => trivial
  | e :: r, o, h => by
    unfold ET.Row at h ⊢
    exact ⟨hO.range hg h.1, ET.In.old hO h.2.1, ET.Row.old hO hg h.2.2⟩
end

mutual
theorem ET.In.up {B C : Nat} {w : World} (hBC : B ≤ C) : ∀ {e : ET}, e.In B w → e.In C w
  | .mk op t b nm a c ks, h => by
    unfold ET.In at h ⊢
    obtain ⟨h1, h2, h3, h4, h5, h6⟩ := h
    refine ⟨h1, h2, h3, h4, h5, ?_⟩
    rcases h6 with h6 | ⟨g, o, ha, hg, hr⟩
    · exact .inl h6
    · exact .inr ⟨g, o, ha, by omega, ET.Row.up hBC hr⟩
theorem ET.Row.up {B C : Nat} {w : World} (hBC : B ≤ C) {g : Nat} : ∀ {ks : List ET} {o : Nat}, ET.Row B w g ks o → ET.Row C w g ks o
  | [], o, _ => trivial
  | e :: r, o, h => by
    unfold ET.Row at h ⊢
    exact ⟨h.1, ET.In.up hBC h.2.1, ET.Row.up hBC h.2.2⟩
end

theorem ET.Row.at {B g : Nat} {w : World} : ∀ {ks : List ET} {o : Nat}, ET.Row B w g ks o → ∀ (i : Nat) (e : ET), ks[i]? = some e → w.rangeAt g (o + i * 5) e.cells ∧ e.In B w
  | [], o, _, i, e, h => by simp at h
  | x :: r, o, hr, 0, e, h => by
    unfold ET.Row at hr
    simp at h
    subst h
    exact ⟨by simpa using hr.1, hr.2.1⟩
  | x :: r, o, hr, i + 1, e, h => by
    unfold ET.Row at hr
    have := ET.Row.at hr.2.2 i e (by simpa using h)
    rw [show o + (i + 1) * 5 = o + 5 + i * 5 by omega]
    exact this

/-- Whether an expression may be printed, so high at most. -/
def mayE : Nat → Ex → Bool
  | 0, _ => false
  | h + 1, .mk op t b nm ks => decide ((ks.length : Int) = opnds op) && (if op = 1 then litOk t b && decide (nm = []) else if op = 2 then isNm nm && decide (t = 0 ∧ b = 0) else ks.all (mayE h) && (decide (nm = []) && decide (t = 0 ∧ b = 0)))

/-- An expression's text, if it may be printed. -/
def exT : Ex → List UInt8
  | .mk op t b nm ks => if op = 1 then valTx t b else if op = 2 then nm else
    match ks with
    | [] => []
    | [x] => if op = 16 then 45 :: exT x else if op = 17 then 33 :: exT x else if op = 18 then [105, 110, 116, 40] ++ (exT x ++ [41]) else if op = 19 then [114, 101, 97, 108, 40] ++ (exT x ++ [41]) else []
    | x :: y :: _ => 40 :: (exT x ++ 32 :: (sgT op ++ 32 :: (exT y ++ [41])))

theorem z29 : (Tryz.prog.info? 43).map (fun i => (i.zero, i.size)) = some (some (.agg [.int .u8 0, .int .u8 0, .int .u64 0, .string ⟨#[]⟩, .slice none 0 0].toArray), 5) := by kernel_rfl
theorem i29 : (Tryz.prog.info? 43).map (·.size) = some 5 := by kernel_rfl

theorem ET.one (e : ET) : ∀ v ∈ e.cells, v.oneCell' = true := by
  cases e
  intro v hv
  simp [ET.cells] at hv
  rcases hv with rfl | rfl | rfl | rfl | rfl <;> rfl

end Go.Proofs.YtjgggmjjikopeaaGreatDoor

/- tree.mayExpr. -/
namespace Go.Proofs.YtjgggmjjikopeaaGreatDoor
open Go.RowKit
set_option linter.unusedVariables false

def ex5 (op t b : Nat) (nm : ByteArray) (sl : Value) : List Value := [.int .u8 (op : Int), .int .u8 (t : Int), .int .u64 (b : Int), .string nm, sl]

theorem below_drN {B : Nat} {w w' : World} (h : Below B w w') (n : Nat) : Below B w (w'.drewN n) := ⟨h.os, h.tape, h.output, h.size, h.block⟩

theorem eq26 (t b : Nat) (u : World) : (Op.equalIn 10000 40 (.agg #[.int .u8 (t : Int), .int .u64 (b : Int)]) (.agg #[.int .u8 0, .int .u64 0])).run Tryz.prog u = .ok (decide (t = 0 ∧ b = 0)) u := by
  by_cases h1 : t = 0
  · subst h1
    by_cases h2 : b = 0
    · subst h2
      go_simp
    · have e2 : ((b : Int) == 0) = false := by rw [beq_eq_false_iff_ne]; omega
      go_simp
  · have e1 : ((t : Int) == 0) = false := by rw [beq_eq_false_iff_ne]; omega
    go_simp

theorem hidU {p : Prop} (h : p) : Hid p := h

theorem emp (nm : ByteArray) : nm.toList.isEmpty = decide (nm.data.toList = []) := by
  by_cases h : nm.size = 0
  · rw [is_empty h]
    have : nm.data.toList = [] := List.length_eq_zero_iff.1 (by rw [Array.length_toList]; exact h)
    simp [this]
  · rw [not_empty (Nat.pos_of_ne_zero h)]
    have : ¬ nm.data.toList = [] := fun he => h (by have := congrArg List.length he; rw [Array.length_toList] at this; exact this)
    simp [this]

set_option maxRecDepth 100000 in
set_option maxHeartbeats 3200000 in
theorem mayExpr_any (h : Nat) : ∀ (e : ET) (w : World) (B : Nat), h ≤ 32 → e.In B w → B ≤ w.heap.size → Tab w → gB ≤ w.heap.size →
    Calls Tryz.prog 105 #[.agg e.cells.toArray, .int .i64 (h : Int)] w fun r w' => r = .returned (.bool (mayE h e.ex)) ∧ Below w.heap.size w w' := by
  induction h with
  | zero =>
    rintro ⟨op, t, b, nm, a, c, ks⟩ w B hh hin hBw hT h16
    have hm : mayE 0 (ET.mk op t b nm a c ks).ex = false := rfl
    rw [hm]
    clear hm hin
    go_enter Tryz.func105, Tryz.ntmps105
    go_wp2_with (first | ((with_reducible show wpList _ _ _ _ _ _); refine wpList_box_at rfl 43 (.tmp 0) rfl (ex5 op t b nm (.slice a ks.length c)) rfl ?_; intro w1 hA1 hb1 hs1))
    go_quiet (fail)
    go_wp2
    go_ret
    exact ⟨rfl, below_drN hb1 _⟩
  | succ h ih =>
    rintro ⟨op, t, b, nm, a, c, ks⟩ w B hh hin hBw hT h16
    unfold ET.In at hin
    obtain ⟨h1, h2, h3, h4, h5, h6⟩ := hin
    have hO := operands_any op
    obtain ⟨n, hn⟩ : ∃ n, Hid (n = ks.length) := ⟨_, (rfl : ks.length = _)⟩
    obtain ⟨K, hK⟩ : ∃ K, Hid (K = opnds op) := ⟨_, (rfl : opnds op = _)⟩
    rw [← hK.out] at hO
    show Calls Tryz.prog 105 #[.agg (ex5 op t b nm (.slice a ks.length c)).toArray, .int .i64 ((h + 1 : Nat) : Int)] w _
    rw [← hn.out] at h4 h5 ⊢
    have hh1 : (((h + 1 : Nat) : Int) == 0) = false := by rw [beq_eq_false_iff_ne]; omega
    obtain ⟨H, hH⟩ : ∃ H : Int, H = ((h + 1 : Nat) : Int) := ⟨_, rfl⟩
    rw [← hH] at hh1 ⊢
    have hH1 : IntKind.i64.wrap (H - 1) = (h : Int) := by rw [IntKind.wrap_i64]; omega
    have hm : mayE (h + 1) (ET.mk op t b nm a c ks).ex = (decide ((n : Int) = K) && (if op = 1 then litOk t b && decide (nm.data.toList = []) else if op = 2 then isNm nm.data.toList && decide (t = 0 ∧ b = 0) else (ks.map ET.ex).all (mayE h) && (decide (nm.data.toList = []) && decide (t = 0 ∧ b = 0)))) := by
      show mayE (h + 1) (.mk op t b nm.data.toList (ET.exs ks)) = _
      rw [mayE, ET.exs_eq, List.length_map, ← hn.out, ← hK.out]
    obtain ⟨R, hR⟩ : ∃ R, Hid (R = (decide ((n : Int) = K) && (if op = 1 then litOk t b && decide (nm.data.toList = []) else if op = 2 then isNm nm.data.toList && decide (t = 0 ∧ b = 0) else (ks.map ET.ex).all (mayE h) && (decide (nm.data.toList = []) && decide (t = 0 ∧ b = 0))))) := ⟨_, (rfl : _ = _)⟩
    rw [hm, ← hR.out]
    clear hm hH
    go_enter Tryz.func105, Tryz.ntmps105
    go_wp2_with (first | ((with_reducible show wpList _ _ _ _ _ _); refine wpList_box_at rfl 43 (.tmp 0) rfl (ex5 op t b nm (.slice a n c)) rfl ?_; intro w1 hA1 hb1 hs1))
    have c0 : w1.cell? ⟨w.heap.size, 0, none⟩ = some (.int .u8 (op : Int)) := by rw [hA1.cell]; rfl
    have c1 : w1.cell? ⟨w.heap.size, 1, none⟩ = some (.int .u8 (t : Int)) := by rw [hA1.cell]; rfl
    have c2 : w1.cell? ⟨w.heap.size, 2, none⟩ = some (.int .u64 (b : Int)) := by rw [hA1.cell]; rfl
    have c3 : w1.cell? ⟨w.heap.size, 3, none⟩ = some (.string nm) := by rw [hA1.cell]; rfl
    have c4 : w1.cell? ⟨w.heap.size, 4, none⟩ = some (.slice a n c) := by rw [hA1.cell]; rfl
    have hq := eq26 t b
    by_cases hk : (n : Int) = K
    · subst hk
      have hd : decide ((n : Int) = (n : Int)) = true := by simp
      rw [hd, Bool.true_and] at hR
      clear hd
      go_quiet (first | (go_at_call 135; exact Calls.quiet_of_same (hO _)))
      clear hO
      by_cases ho1 : op = 1
      · rw [if_pos ho1] at hR
        subst ho1
        have hL := fun w hT h16 => mayLit_any t b h2 h3 w hT h16
        clear hq ih h6
        go_wp2_with fail
        refine (hL _ (hT.below (below_drN hb1 _) h16) (by show gB ≤ w1.heap.size; omega)).mono ?_
        rintro e w2 ⟨rfl, hb2⟩
        have c3' : w2.cell? ⟨w.heap.size, 3, none⟩ = some (.string nm) := by rw [((hA1.drewN nq).below hb2).cell]; rfl
        have hbb : Below w.heap.size w w2 := (below_drN hb1 _).trans (hb2.mono (by show w.heap.size ≤ w1.heap.size; omega))
        clear hb2 hA1 hb1 hL c0 c1 c2 c3 c4
        cases hM : litOk t b with
        | false =>
          rw [hM, Bool.false_and] at hR
          go_wp2
          go_ret
          exact ⟨by rw [hR.out]; rfl, hbb⟩
        | true =>
          rw [hM, Bool.true_and] at hR
          clear hM
          have hem := emp nm
          rw [← hR.out] at hem
          go_wp2
          go_ret
          exact ⟨rfl, hbb⟩
      by_cases ho2 : op = 2
      · rw [if_neg ho1, if_pos ho2] at hR
        subst ho2
        have hN := fun w => name_any nm w
        clear ih h6
        go_wp2_with fail
        refine (hN _).mono ?_
        rintro e w2 ⟨rfl, hw2⟩
        have hw2' := hw2.symm
        subst hw2'
        clear hN c0 c3 c4
        have hbb := below_drN hb1 nq
        unfold bytes
        cases hM : isNm nm.data.toList with
        | false =>
          rw [hM, Bool.false_and] at hR
          go_wp2
          go_ret
          exact ⟨by rw [hR.out]; rfl, hbb⟩
        | true =>
          rw [hM, Bool.true_and] at hR
          clear hM
          go_wp2
          go_ret
          exact ⟨by rw [hR.out, Bool.decide_and]; rfl, hbb⟩
      · rw [if_neg ho1, if_neg ho2] at hR
        have e1 : ((op : Int) == 1) = false := by rw [beq_eq_false_iff_ne]; omega
        have e2 : ((op : Int) == 2) = false := by rw [beq_eq_false_iff_ne]; omega
        have hem := emp nm
        go_wp2_with fail
        have H6 : Hid (ks = [] ∨ ∃ g o, a = some ⟨g, o, none⟩ ∧ g < B ∧ ET.Row B w g ks o) := h6
        have HB0 : Hid (Below w.heap.size w (w1.drewN nq) ∧ At 43 (w1.drewN nq) w.heap.size (ex5 op t b nm (.slice a n c))) := ⟨below_drN hb1 _, hA1.drewN _⟩
        clear h6 hb1 hA1 c0 c1 c2 c3 c4 e1 e2 ho1 ho2
        go_loopw [44] (fun j wr => ∃ i : Nat, j = .int .i64 (i : Int) ∧ i ≤ n ∧ Hid (Below w.heap.size w wr ∧ At 43 wr w.heap.size (ex5 op t b nm (.slice a n c)) ∧ ∀ x ∈ (ks.take i).map ET.ex, mayE h x = true)) (fun j _ => n - (intOf j).toNat)
        case atStart => exact ⟨0, rfl, by omega, HB0.out.1, HB0.out.2, by simp⟩
        case round =>
          obtain ⟨i, rfl, hi, hX⟩ := hrel
          by_cases hc : i < n
          · obtain ⟨k, hk⟩ : ∃ k, ks[i]? = some k := ⟨ks[i]'(by rw [← hn.out]; exact hc), by rw [List.getElem?_eq_getElem]⟩
            obtain ⟨hbw, hAr, hall⟩ := hX.out
            obtain ⟨g, o, ha, hg, hrow⟩ : ∃ g o, a = some ⟨g, o, none⟩ ∧ g < B ∧ ET.Row B w g ks o := by
              rcases H6.out with h | h
              · rw [h] at hk; simp at hk
              · exact h
            subst ha
            have hold : Old B w wr := Old.of_below hbw hBw
            obtain ⟨hrg, hkin⟩ := (ET.Row.old hold hg hrow).at i k hk
            have hb16 : gB ≤ wr.heap.size := by have := hbw.size; omega
            have HK : Hid (k.In B wr ∧ B ≤ wr.heap.size ∧ Tab wr) := ⟨hkin, by have := hbw.size; omega, hT.below hbw h16⟩
            have HY : Hid (Below w.heap.size w wr ∧ At 43 wr w.heap.size (ex5 op t b nm (.slice (some ⟨g, o, none⟩) n c)) ∧ ∀ x ∈ (ks.take i).map ET.ex, mayE h x = true) := ⟨hbw, hAr, hall⟩
            clear hX hkin hall hrow hold hbw hAr H6 HB0 hem hq
            go_wp2_with (first
              | ((with_reducible show wpList _ _ _ _ _ _); refine wpList_load_mid (P := Tryz.prog) rfl 43 (.tmp 46) rfl g (o + i * 5) (by first | rfl | (simp; done)) k.cells _ hrg Tryz.underlying43 rfl (by rw [ET.cells_len]; exact i29) ?_)
              | ((with_reducible show wpList _ _ _ _ _ _); refine wpList_alloc_at rfl 43 rfl (ex5 0 0 0 ⟨#[]⟩ (.slice none 0 0)) 5 z29 ?_; intro w2 hA2 hb2 hs2)
              | ((with_reducible show wpList _ _ _ _ _ _); refine wpList_store_at (P := Tryz.prog) rfl 43 (.tmp 6) (.tmp 47) rfl wr.heap.size k.cells rfl rfl 43 _ hA2 (by rw [ET.cells_len]; exact i29) (by rw [ET.cells_len]; rfl) k.one ?_; intro w3 hA3 hb3 hs3; refine Hid.out ?_))
            refine hidU ?_
            have hB3 : Below wr.heap.size wr w3 := hb3.below hb2 (Nat.le_refl _) (by omega)
            obtain ⟨hkin, hBwr, hTwr⟩ := HK.out
            have hk3 : k.In B w3 := hkin.old (Old.of_below hB3 hBwr)
            have hI := ih k w3 B (by omega) hk3 (by omega) (hTwr.below hB3 hb16) (by omega)
            clear hb3 hb2 hA2 HK hkin hk3 ih hTwr
            go_wp2_with (first | ((with_reducible show wpList _ _ _ _ _ _); refine wpList_load_at (P := Tryz.prog) rfl 43 (.tmp 6) rfl wr.heap.size rfl 43 k.cells hA3 _ Tryz.underlying43 rfl (by rw [ET.cells_len]; exact i29) ?_))
            refine hI.mono ?_
            rintro e w4 ⟨rfl, hb4⟩
            have HZ : Hid (Below w.heap.size w w4 ∧ At 43 w4 w.heap.size (ex5 op t b nm (.slice (some ⟨g, o, none⟩) n c)) ∧ ∀ x ∈ (ks.take i).map ET.ex, mayE h x = true) := by
              obtain ⟨q1, q2, q3⟩ := HY.out
              have hb5 : Below wr.heap.size wr w4 := hB3.trans (hb4.mono hB3.size)
              exact ⟨q1.trans (hb5.mono q1.size), q2.below hb5, q3⟩
            clear hI hb4 hB3 HY hA3 hrg
            cases hM : mayE h k.ex with
            | false =>
              have hRf : R = false := by
                rw [hR.out]
                have : (ks.map ET.ex).all (mayE h) = false := by
                  rw [List.all_eq_false]
                  exact ⟨k.ex, List.mem_map.2 ⟨k, List.mem_of_getElem? hk, rfl⟩, by rw [hM]; simp⟩
                rw [this, Bool.false_and]
              clear hM
              go_wp2
              go_ret
              exact ⟨by rw [hRf]; rfl, HZ.out.1⟩
            | true =>
              go_wp2
              go_roundw
              case rel =>
                refine ⟨i + 1, by go_num, by omega, ?_⟩
                obtain ⟨q1, q2, q3⟩ := HZ.out
                refine ⟨q1, q2, fun x hx => ?_⟩
                rw [List.take_add_one, hk, List.map_append, List.mem_append] at hx
                rcases hx with hx | hx
                · exact q3 x hx
                · simp at hx; rw [hx]; exact hM
              case measure => simp [intOf]; omega
          · have hin : i = n := by omega
            obtain ⟨q1, q2, q3⟩ := hX.out
            have hall : (ks.map ET.ex).all (mayE h) = true := by
              rw [List.all_eq_true]
              intro x hx
              apply q3 x
              rw [hin, hn.out, List.take_length]
              exact hx
            rw [hall, Bool.true_and] at hR
            have c1 : wr.cell? ⟨w.heap.size, 1, none⟩ = some (.int .u8 (t : Int)) := by rw [q2.cell]; rfl
            have c2 : wr.cell? ⟨w.heap.size, 2, none⟩ = some (.int .u64 (b : Int)) := by rw [q2.cell]; rfl
            have c3 : wr.cell? ⟨w.heap.size, 3, none⟩ = some (.string nm) := by rw [q2.cell]; rfl
            have HQ : Hid (Below w.heap.size w wr) := q1
            clear q1 q2 q3 hX hall hin H6 HB0 ih
            cases hM : decide (nm.data.toList = []) with
            | false =>
              rw [hM] at hR hem
              clear hM
              go_wp2
              go_ret
              exact ⟨by rw [hR.out]; rfl, HQ.out⟩
            | true =>
              rw [hM] at hR hem
              clear hM
              go_wp2
              go_ret
              exact ⟨by rw [hR.out, Bool.decide_and]; rfl, HQ.out⟩
    · have hk' : ((n : Int) == K) = false := by rw [beq_eq_false_iff_ne]; exact hk
      have hd : decide ((n : Int) = K) = false := by simpa using hk
      rw [hd, Bool.false_and] at hR
      clear hk hd
      go_quiet (first | (go_at_call 135; exact Calls.quiet_of_same (hO _)))
      go_wp2
      go_ret
      exact ⟨by rw [hR.out]; rfl, below_drN hb1 _⟩

end Go.Proofs.YtjgggmjjikopeaaGreatDoor

/- An expression's text is written. -/
namespace Go.Proofs.YtjgggmjjikopeaaGreatDoor
open Go.RowKit
set_option linter.unusedVariables false

section
variable {ops : Array Oper} {rest : List Oper} {o : Oper} {a : Act} {w : World} {Q : Exit → Act → World → Prop}
/-- Texts are laid as a row. -/
theorem wpList_strs (hgd : o.guard = none) (n : Nat) (parts : Array (Nat × Operand)) (ho : o.op = .buildSlice 23 n parts) (ss : List ByteArray) (hn : n = ss.length) (h0 : 0 < n) (h1 : n ≤ 1000)
    (hf : Instr.fill (fun i => some (i * 1, 1)) ((Array.range (n * 1)).map ((Value.string ⟨#[]⟩).cells[· % (Value.string ⟨#[]⟩).cells.size]!)) (parts.map fun (i, x) => (i, a.eval x)).toList = some (ss.map Value.string).toArray)
    (h : ∀ w', At 9 w' w.heap.size (ss.map .string) → Below w.heap.size w w' → w'.heap.size = w.heap.size + 1 → wpList Tryz.prog ops Q rest (a.put o.dst (.slice (some ⟨w.heap.size, 0, none⟩) ss.length ss.length)) w') :
    wpList Tryz.prog ops Q (o :: rest) a w := by
  obtain ⟨ie, hi, hz0, hz1, hz2⟩ := info_parts i9s
  refine wpList_buildSlice hgd 23 9 n parts ho (ss.map Value.string).toArray ie (.string ⟨#[]⟩) Tryz.underlying23 hi hz0 (by rw [hz1]; omega) (by rw [hz1]; omega) (by rw [hz1]; exact hf) ?_
  rw [hn]
  exact h _ (_root_.Go.heap_alloc_new w _) ((Below.refl _ w).alloc (Nat.le_refl _) _) (by show (w.heap.push _).size = _; simp)
end

/-- What writing an expression does. -/
def ExprW (B g m : Nat) (e : ET) : Prop := ∀ (w : World) (F : List UInt8), e.In B w → Txt B w g m F → B ≤ w.heap.size → Tab w → (F ++ exT e.ex).length ≤ 70368744177664 →
    Calls Tryz.prog 106 #[.pointer (some ⟨g, 0, none⟩), .agg e.cells.toArray] w fun r w' => r = .returned (.tuple #[]) ∧ Txt B w' g m (F ++ exT e.ex) ∧ Wr B g w w'

theorem Tab.wr {B g : Nat} {w w' : World} (h : Tab w) (hw : Wr B g w w') (hB : B ≤ g) (hBw : B ≤ w.heap.size) (h16 : gB ≤ B) : Tab w' := h.below (hw.below hB hBw) h16

set_option maxRecDepth 100000 in
set_option maxHeartbeats 1600000 in
theorem around_of (B g m : Nat) (e : ET) (hm : m ≤ 9223372036854775807) (h16 : gB ≤ B) (hE : ExprW B g m e) (s1 s2 : ByteArray) (w : World) (F : List UInt8) (hin : e.In B w) (hT : Txt B w g m F) (hBw : B ≤ w.heap.size) (hTab : Tab w)
    (hlen : (F ++ (s1.data.toList ++ (exT e.ex ++ s2.data.toList))).length ≤ 70368744177664) :
    Calls Tryz.prog 137 #[.pointer (some ⟨g, 0, none⟩), .string s1, .agg e.cells.toArray, .string s2] w fun r w' => r = .returned (.tuple #[]) ∧ Txt B w' g m (F ++ (s1.data.toList ++ (exT e.ex ++ s2.data.toList))) ∧ Wr B g w w' := by
  have hBg := hT.base
  have hgw := hT.lt
  obtain ⟨X, hX⟩ : ∃ X, Hid (X = exT e.ex) := ⟨_, (rfl : exT e.ex = _)⟩
  have HE : Hid (∀ (w : World) (F : List UInt8), e.In B w → Txt B w g m F → B ≤ w.heap.size → Tab w → (F ++ X).length ≤ 70368744177664 → Calls Tryz.prog 106 #[.pointer (some ⟨g, 0, none⟩), .agg e.cells.toArray] w fun r w' => r = .returned (.tuple #[]) ∧ Txt B w' g m (F ++ X) ∧ Wr B g w w') := by
    rw [hX.out]; exact hE
  rw [← hX.out] at hlen ⊢
  simp only [List.length_append] at hlen
  have HI : Hid (e.In B w ∧ Tab w ∧ Txt B w g m F) := ⟨hin, hTab, hT⟩
  clear hE hin hTab hT
  go_enter Tryz.func137, Tryz.ntmps137
  go_wp2_with (first
    | ((with_reducible show wpList _ _ _ _ _ _); refine wpList_box_at rfl 43 (.tmp 2) rfl e.cells rfl ?_; intro w1 hA1 hb1 hs1; clear hs1)
    | ((with_reducible show wpList _ _ _ _ _ _); refine wpList_strs rfl 1 #[(0, .tmp 9)] rfl [s1] rfl (by decide) (by decide) (by kernel_rfl) ?_; intro w2 hA2 hb2 hs2; clear hs2))
  have hT2 : Txt B w2 g m F := (HI.out.2.2.below hb1).below hb2
  have hA12 := hA1.below hb2
  have hbw2 : Below w.heap.size w w2 := hb1.trans (hb2.mono hb1.size)
  refine (put_any B g m _ [s1] F _ hm hT2 hA2 (by simp only [cat, List.map_cons, List.map_nil, List.flatten_cons, List.flatten_nil, List.append_nil, List.length_append]; omega) (by simp)).mono ?_
  rintro r w3 ⟨rfl, hT3, hW3⟩
  have hA3 := hW3.at hA12 (by omega) (by decide)
  have e3 : F ++ cat [s1] = F ++ s1.data.toList := by simp [cat]
  rw [e3] at hT3
  have hw3 : Wr B g w w3 := (Wr.of_below hbw2).trans hW3
  have hI3 := HE.out w3 _ (HI.out.1.old (Old.of_wr hw3 hBg hBw)) hT3 (by have := hw3.size; omega) (HI.out.2.1.wr hw3 hBg hBw h16) (by simp only [List.length_append]; omega)
  clear hT2 hA12 hW3 hA1 hA2 hb1 hb2 hbw2 e3 HE
  go_wp2_with (first
    | ((with_reducible show wpList _ _ _ _ _ _); refine wpList_load_at (P := Tryz.prog) rfl 43 (.tmp 6) rfl w.heap.size rfl 43 e.cells hA3 _ Tryz.underlying43 rfl (by rw [ET.cells_len]; exact i29) ?_))
  refine hI3.mono ?_
  rintro r w4 ⟨rfl, hT4, hW4⟩
  have hw4 := hw3.trans hW4
  clear hI3 hA3 hT3 hw3 hW4
  go_wp2_with (first
    | ((with_reducible show wpList _ _ _ _ _ _); refine wpList_strs rfl 1 #[(0, .tmp 16)] rfl [s2] rfl (by decide) (by decide) (by kernel_rfl) ?_; intro w5 hA5 hb5 hs5; clear hs5))
  refine (put_any B g m _ [s2] _ _ hm (hT4.below hb5) hA5 (by simp only [cat, List.map_cons, List.map_nil, List.flatten_cons, List.flatten_nil, List.append_nil, List.length_append]; omega) (by simp)).mono ?_
  rintro r w6 ⟨rfl, hT6, hW6⟩
  have HF : Hid (Txt B w6 g m (F ++ (s1.data.toList ++ (X ++ s2.data.toList))) ∧ Wr B g w w6) := by
    refine ⟨?_, hw4.trans ((Wr.of_below hb5).trans hW6)⟩
    have e : F ++ s1.data.toList ++ X ++ cat [s2] = F ++ (s1.data.toList ++ (X ++ s2.data.toList)) := by simp [cat]
    rw [← e]
    exact hT6
  clear hT6 hW6 hw4 hT4 hA5 hb5
  go_wp2
  go_end0
  exact ⟨rfl, HF.out⟩

theorem mayE_len {h op t b : Nat} {nm : List UInt8} {ks : List Ex} (hm : mayE (h + 1) (.mk op t b nm ks) = true) : (ks.length : Int) = opnds op := by
  rw [mayE, Bool.and_eq_true] at hm
  exact of_decide_eq_true hm.1

theorem mayE_kids {h op t b : Nat} {nm : List UInt8} {ks : List Ex} (hm : mayE (h + 1) (.mk op t b nm ks) = true) (h1 : op ≠ 1) (h2 : op ≠ 2) : ∀ x ∈ ks, mayE h x = true := by
  rw [mayE, if_neg h1, if_neg h2, Bool.and_eq_true, Bool.and_eq_true] at hm
  exact List.all_eq_true.1 hm.2.1

/-- Operands of an expression that lies in memory. -/
theorem ET.kid1 {B : Nat} {w : World} {op t b c : Nat} {nm : ByteArray} {a : Option Addr} {x : ET} (h : (ET.mk op t b nm a c [x]).In B w) : ∃ g o, a = some ⟨g, o, none⟩ ∧ g < B ∧ w.rangeAt g o x.cells ∧ x.In B w ∧ 1 ≤ c := by
  unfold ET.In at h
  obtain ⟨_, _, _, _, hc, h | ⟨g, o, ha, hg, hr⟩⟩ := h
  · cases h
  · unfold ET.Row at hr
    exact ⟨g, o, ha, hg, hr.1, hr.2.1, hc⟩
theorem ET.kid2 {B : Nat} {w : World} {op t b c : Nat} {nm : ByteArray} {a : Option Addr} {x y : ET} (h : (ET.mk op t b nm a c [x, y]).In B w) : ∃ g o, a = some ⟨g, o, none⟩ ∧ g < B ∧ w.rangeAt g o x.cells ∧ w.rangeAt g (o + 5) y.cells ∧ x.In B w ∧ y.In B w ∧ 2 ≤ c := by
  unfold ET.In at h
  obtain ⟨_, _, _, _, hc, h | ⟨g, o, ha, hg, hr⟩⟩ := h
  · cases h
  · unfold ET.Row at hr
    obtain ⟨h1, h2, h3⟩ := hr
    unfold ET.Row at h3
    exact ⟨g, o, ha, hg, h1, h3.1, h2, h3.2.1, hc⟩

set_option maxRecDepth 100000 in
set_option maxHeartbeats 1600000 in
theorem expr_un16 (B g m : Nat) (hm : m ≤ 9223372036854775807) (h16 : gB ≤ B) (nm : ByteArray) (a : Option Addr) (c : Nat) (x : ET) (hE : ExprW B g m x) (t b : Nat) : ExprW B g m (.mk 16 t b nm a c [x]) := by
  intro w F hin hT hBw hTab hlen
  obtain ⟨gk, o, rfl, hgk, hrg, hx, hc⟩ := ET.kid1 hin
  have hBg := hT.base
  have hgw := hT.lt
  have hX : exT (ET.mk 16 t b nm (some ⟨gk, o, none⟩) c [x]).ex = [45] ++ (exT x.ex ++ []) := by
    show exT (.mk 16 t b nm.data.toList [x.ex]) = _
    simp [exT]
  rw [hX] at hlen ⊢
  have hA := fun w hin hT hBw hTab => around_of B g m x hm h16 hE ⟨#[45]⟩ ⟨#[]⟩ w F hin hT hBw hTab hlen
  have HI : Hid (x.In B w ∧ Tab w ∧ Txt B w g m F ∧ w.rangeAt gk o x.cells) := ⟨hx, hTab, hT, hrg⟩
  show Calls Tryz.prog 106 #[.pointer (some ⟨g, 0, none⟩), .agg (ex5 16 t b nm (.slice (some ⟨gk, o, none⟩) 1 c)).toArray] w _
  clear hin hX hE hT hTab hx hrg
  go_enter Tryz.func106, Tryz.ntmps106
  go_wp2_with (first
    | ((with_reducible show wpList _ _ _ _ _ _); refine wpList_box_at rfl 43 (.tmp 1) rfl (ex5 16 t b nm (.slice (some ⟨gk, o, none⟩) 1 c)) rfl ?_; intro w1 hA1 hb1 hs1; clear hs1; refine Hid.out ?_))
  refine hidU ?_
  have c0 : w1.cell? ⟨w.heap.size, 0, none⟩ = some (.int .u8 16) := by rw [hA1.cell]; rfl
  have c4 : w1.cell? ⟨w.heap.size, 4, none⟩ = some (.slice (some ⟨gk, o, none⟩) 1 c) := by rw [hA1.cell]; rfl
  obtain ⟨q1, q2, q3, q4⟩ := HI.out
  have hr1 : w1.rangeAt gk o x.cells := Old.range (Old.of_below hb1 hBw) hgk q4
  have hA' := hA w1 (q1.old (Old.of_below hb1 hBw)) (q3.below hb1) (by have := hb1.size; omega) (q2.below hb1 (by omega))
  clear hA q1 q2 q3 q4 HI hA1
  go_wp2_with (first
    | ((with_reducible show wpList _ _ _ _ _ _); refine wpList_load_mid (P := Tryz.prog) rfl 43 (.tmp 50) rfl gk o (by first | rfl | (simp; done)) x.cells _ hr1 Tryz.underlying43 rfl (by rw [ET.cells_len]; exact i29) ?_))
  refine hA'.mono ?_
  rintro r w2 ⟨rfl, hT2, hW2⟩
  have HF : Hid (Txt B w2 g m (F ++ ([45] ++ (exT x.ex ++ []))) ∧ Wr B g w w2) := ⟨hT2, (Wr.of_below hb1).trans hW2⟩
  clear hA' hT2 hW2 hr1
  go_wp2
  go_end0
  exact ⟨rfl, HF.out⟩

set_option maxRecDepth 100000 in
set_option maxHeartbeats 1600000 in
theorem expr_un17 (B g m : Nat) (hm : m ≤ 9223372036854775807) (h16 : gB ≤ B) (nm : ByteArray) (a : Option Addr) (c : Nat) (x : ET) (hE : ExprW B g m x) (t b : Nat) : ExprW B g m (.mk 17 t b nm a c [x]) := by
  intro w F hin hT hBw hTab hlen
  obtain ⟨gk, o, rfl, hgk, hrg, hx, hc⟩ := ET.kid1 hin
  have hBg := hT.base
  have hgw := hT.lt
  have hX : exT (ET.mk 17 t b nm (some ⟨gk, o, none⟩) c [x]).ex = [33] ++ (exT x.ex ++ []) := by
    show exT (.mk 17 t b nm.data.toList [x.ex]) = _
    simp [exT]
  rw [hX] at hlen ⊢
  have hA := fun w hin hT hBw hTab => around_of B g m x hm h16 hE ⟨#[33]⟩ ⟨#[]⟩ w F hin hT hBw hTab hlen
  have HI : Hid (x.In B w ∧ Tab w ∧ Txt B w g m F ∧ w.rangeAt gk o x.cells) := ⟨hx, hTab, hT, hrg⟩
  show Calls Tryz.prog 106 #[.pointer (some ⟨g, 0, none⟩), .agg (ex5 17 t b nm (.slice (some ⟨gk, o, none⟩) 1 c)).toArray] w _
  clear hin hX hE hT hTab hx hrg
  go_enter Tryz.func106, Tryz.ntmps106
  go_wp2_with (first
    | ((with_reducible show wpList _ _ _ _ _ _); refine wpList_box_at rfl 43 (.tmp 1) rfl (ex5 17 t b nm (.slice (some ⟨gk, o, none⟩) 1 c)) rfl ?_; intro w1 hA1 hb1 hs1; clear hs1; refine Hid.out ?_))
  refine hidU ?_
  have c0 : w1.cell? ⟨w.heap.size, 0, none⟩ = some (.int .u8 17) := by rw [hA1.cell]; rfl
  have c4 : w1.cell? ⟨w.heap.size, 4, none⟩ = some (.slice (some ⟨gk, o, none⟩) 1 c) := by rw [hA1.cell]; rfl
  obtain ⟨q1, q2, q3, q4⟩ := HI.out
  have hr1 : w1.rangeAt gk o x.cells := Old.range (Old.of_below hb1 hBw) hgk q4
  have hA' := hA w1 (q1.old (Old.of_below hb1 hBw)) (q3.below hb1) (by have := hb1.size; omega) (q2.below hb1 (by omega))
  clear hA q1 q2 q3 q4 HI hA1
  go_wp2_with (first
    | ((with_reducible show wpList _ _ _ _ _ _); refine wpList_load_mid (P := Tryz.prog) rfl 43 (.tmp 58) rfl gk o (by first | rfl | (simp; done)) x.cells _ hr1 Tryz.underlying43 rfl (by rw [ET.cells_len]; exact i29) ?_))
  refine hA'.mono ?_
  rintro r w2 ⟨rfl, hT2, hW2⟩
  have HF : Hid (Txt B w2 g m (F ++ ([33] ++ (exT x.ex ++ []))) ∧ Wr B g w w2) := ⟨hT2, (Wr.of_below hb1).trans hW2⟩
  clear hA' hT2 hW2 hr1
  go_wp2
  go_end0
  exact ⟨rfl, HF.out⟩

set_option maxRecDepth 100000 in
set_option maxHeartbeats 1600000 in
theorem expr_un18 (B g m : Nat) (hm : m ≤ 9223372036854775807) (h16 : gB ≤ B) (nm : ByteArray) (a : Option Addr) (c : Nat) (x : ET) (hE : ExprW B g m x) (t b : Nat) : ExprW B g m (.mk 18 t b nm a c [x]) := by
  intro w F hin hT hBw hTab hlen
  obtain ⟨gk, o, rfl, hgk, hrg, hx, hc⟩ := ET.kid1 hin
  have hBg := hT.base
  have hgw := hT.lt
  have hX : exT (ET.mk 18 t b nm (some ⟨gk, o, none⟩) c [x]).ex = [105, 110, 116, 40] ++ (exT x.ex ++ [41]) := by
    show exT (.mk 18 t b nm.data.toList [x.ex]) = _
    simp [exT]
  rw [hX] at hlen ⊢
  have hA := fun w hin hT hBw hTab => around_of B g m x hm h16 hE ⟨#[105, 110, 116, 40]⟩ ⟨#[41]⟩ w F hin hT hBw hTab hlen
  have HI : Hid (x.In B w ∧ Tab w ∧ Txt B w g m F ∧ w.rangeAt gk o x.cells) := ⟨hx, hTab, hT, hrg⟩
  show Calls Tryz.prog 106 #[.pointer (some ⟨g, 0, none⟩), .agg (ex5 18 t b nm (.slice (some ⟨gk, o, none⟩) 1 c)).toArray] w _
  clear hin hX hE hT hTab hx hrg
  go_enter Tryz.func106, Tryz.ntmps106
  go_wp2_with (first
    | ((with_reducible show wpList _ _ _ _ _ _); refine wpList_box_at rfl 43 (.tmp 1) rfl (ex5 18 t b nm (.slice (some ⟨gk, o, none⟩) 1 c)) rfl ?_; intro w1 hA1 hb1 hs1; clear hs1; refine Hid.out ?_))
  refine hidU ?_
  have c0 : w1.cell? ⟨w.heap.size, 0, none⟩ = some (.int .u8 18) := by rw [hA1.cell]; rfl
  have c4 : w1.cell? ⟨w.heap.size, 4, none⟩ = some (.slice (some ⟨gk, o, none⟩) 1 c) := by rw [hA1.cell]; rfl
  obtain ⟨q1, q2, q3, q4⟩ := HI.out
  have hr1 : w1.rangeAt gk o x.cells := Old.range (Old.of_below hb1 hBw) hgk q4
  have hA' := hA w1 (q1.old (Old.of_below hb1 hBw)) (q3.below hb1) (by have := hb1.size; omega) (q2.below hb1 (by omega))
  clear hA q1 q2 q3 q4 HI hA1
  go_wp2_with (first
    | ((with_reducible show wpList _ _ _ _ _ _); refine wpList_load_mid (P := Tryz.prog) rfl 43 (.tmp 66) rfl gk o (by first | rfl | (simp; done)) x.cells _ hr1 Tryz.underlying43 rfl (by rw [ET.cells_len]; exact i29) ?_))
  refine hA'.mono ?_
  rintro r w2 ⟨rfl, hT2, hW2⟩
  have HF : Hid (Txt B w2 g m (F ++ ([105, 110, 116, 40] ++ (exT x.ex ++ [41]))) ∧ Wr B g w w2) := ⟨hT2, (Wr.of_below hb1).trans hW2⟩
  clear hA' hT2 hW2 hr1
  go_wp2
  go_end0
  exact ⟨rfl, HF.out⟩

set_option maxRecDepth 100000 in
set_option maxHeartbeats 1600000 in
theorem expr_un19 (B g m : Nat) (hm : m ≤ 9223372036854775807) (h16 : gB ≤ B) (nm : ByteArray) (a : Option Addr) (c : Nat) (x : ET) (hE : ExprW B g m x) (t b : Nat) : ExprW B g m (.mk 19 t b nm a c [x]) := by
  intro w F hin hT hBw hTab hlen
  obtain ⟨gk, o, rfl, hgk, hrg, hx, hc⟩ := ET.kid1 hin
  have hBg := hT.base
  have hgw := hT.lt
  have hX : exT (ET.mk 19 t b nm (some ⟨gk, o, none⟩) c [x]).ex = [114, 101, 97, 108, 40] ++ (exT x.ex ++ [41]) := by
    show exT (.mk 19 t b nm.data.toList [x.ex]) = _
    simp [exT]
  rw [hX] at hlen ⊢
  have hA := fun w hin hT hBw hTab => around_of B g m x hm h16 hE ⟨#[114, 101, 97, 108, 40]⟩ ⟨#[41]⟩ w F hin hT hBw hTab hlen
  have HI : Hid (x.In B w ∧ Tab w ∧ Txt B w g m F ∧ w.rangeAt gk o x.cells) := ⟨hx, hTab, hT, hrg⟩
  show Calls Tryz.prog 106 #[.pointer (some ⟨g, 0, none⟩), .agg (ex5 19 t b nm (.slice (some ⟨gk, o, none⟩) 1 c)).toArray] w _
  clear hin hX hE hT hTab hx hrg
  go_enter Tryz.func106, Tryz.ntmps106
  go_wp2_with (first
    | ((with_reducible show wpList _ _ _ _ _ _); refine wpList_box_at rfl 43 (.tmp 1) rfl (ex5 19 t b nm (.slice (some ⟨gk, o, none⟩) 1 c)) rfl ?_; intro w1 hA1 hb1 hs1; clear hs1; refine Hid.out ?_))
  refine hidU ?_
  have c0 : w1.cell? ⟨w.heap.size, 0, none⟩ = some (.int .u8 19) := by rw [hA1.cell]; rfl
  have c4 : w1.cell? ⟨w.heap.size, 4, none⟩ = some (.slice (some ⟨gk, o, none⟩) 1 c) := by rw [hA1.cell]; rfl
  obtain ⟨q1, q2, q3, q4⟩ := HI.out
  have hr1 : w1.rangeAt gk o x.cells := Old.range (Old.of_below hb1 hBw) hgk q4
  have hA' := hA w1 (q1.old (Old.of_below hb1 hBw)) (q3.below hb1) (by have := hb1.size; omega) (q2.below hb1 (by omega))
  clear hA q1 q2 q3 q4 HI hA1
  go_wp2_with (first
    | ((with_reducible show wpList _ _ _ _ _ _); refine wpList_load_mid (P := Tryz.prog) rfl 43 (.tmp 74) rfl gk o (by first | rfl | (simp; done)) x.cells _ hr1 Tryz.underlying43 rfl (by rw [ET.cells_len]; exact i29) ?_))
  refine hA'.mono ?_
  rintro r w2 ⟨rfl, hT2, hW2⟩
  have HF : Hid (Txt B w2 g m (F ++ ([114, 101, 97, 108, 40] ++ (exT x.ex ++ [41]))) ∧ Wr B g w w2) := ⟨hT2, (Wr.of_below hb1).trans hW2⟩
  clear hA' hT2 hW2 hr1
  go_wp2
  go_end0
  exact ⟨rfl, HF.out⟩

end Go.Proofs.YtjgggmjjikopeaaGreatDoor

/- tree.sameExpr. -/
namespace Go.Proofs.YtjgggmjjikopeaaGreatDoor
open Go.RowKit
set_option linter.unusedVariables false

mutual
/-- Whether two expressions are the same. -/
def samX : Ex → Ex → Bool
  | .mk op t b nm ks, .mk op' t' b' nm' ks' => decide (op = op') && (decide (t = t' ∧ b = b') && (decide (nm = nm') && samL ks ks'))
def samL : List Ex → List Ex → Bool
  | [], [] => true
  | x :: r, y :: s => samX x y && samL r s
  | _, _ => false
end

theorem samL_iff : ∀ (xs ys : List Ex), samL xs ys = true ↔ xs.length = ys.length ∧ ∀ (i : Nat) (x y : Ex), xs[i]? = some x → ys[i]? = some y → samX x y = true
  | [], [] => by simp [samL]
  | [], y :: s => by simp [samL]
  | x :: r, [] => by simp [samL]
  | x :: r, y :: s => by
    rw [samL, Bool.and_eq_true, samL_iff r s]
    constructor
    · rintro ⟨h1, h2, h3⟩
      refine ⟨by simp [h2], fun i a b ha hb => ?_⟩
      cases i with
      | zero => simp at ha hb; subst ha hb; exact h1
      | succ i => exact h3 i a b (by simpa using ha) (by simpa using hb)
    · rintro ⟨h1, h2⟩
      exact ⟨h2 0 x y rfl rfl, by simpa using h1, fun i a b ha hb => h2 (i + 1) a b (by simpa using ha) (by simpa using hb)⟩

/-- A row of expressions in memory. -/
def RowE (B : Nat) (w : World) (a : Option Addr) (c : Nat) (ks : List ET) : Prop := ks.length ≤ 1048576 ∧ ks.length ≤ c ∧ (ks = [] ∨ ∃ g o, a = some ⟨g, o, none⟩ ∧ g < B ∧ ET.Row B w g ks o)

theorem RowE.old {B c : Nat} {w w' : World} {a : Option Addr} {ks : List ET} (h : RowE B w a c ks) (hO : Old B w w') : RowE B w' a c ks := by
  obtain ⟨h1, h2, h | ⟨g, o, ha, hg, hr⟩⟩ := h
  · exact ⟨h1, h2, .inl h⟩
  · exact ⟨h1, h2, .inr ⟨g, o, ha, hg, ET.Row.old hO hg hr⟩⟩

/-- One element of it. -/
theorem RowE.at {B c : Nat} {w : World} {a : Option Addr} {ks : List ET} (h : RowE B w a c ks) (i : Nat) (k : ET) (hk : ks[i]? = some k) : ∃ g o, a = some ⟨g, o, none⟩ ∧ g < B ∧ w.rangeAt g (o + i * 5) k.cells ∧ k.In B w := by
  obtain ⟨_, _, h | ⟨g, o, ha, hg, hr⟩⟩ := h
  · rw [h] at hk; simp at hk
  · obtain ⟨h1, h2⟩ := hr.at i k hk
    exact ⟨g, o, ha, hg, h1, h2⟩

/-- What telling two expressions apart does. -/
def SameW (B : Nat) (x : ET) : Prop := ∀ (y : ET) (w : World), x.In B w → y.In B w → B ≤ w.heap.size → Calls Tryz.prog 118 #[.agg x.cells.toArray, .agg y.cells.toArray] w fun r w' => r = .returned (.bool (samX x.ex y.ex)) ∧ Below w.heap.size w w'

set_option maxRecDepth 100000 in
set_option maxHeartbeats 3200000 in
theorem equalE_of (B : Nat) (xs ys : List ET) (hS : ∀ x ∈ xs, SameW B x) (a1 a2 : Option Addr) (c1 c2 : Nat) (w : World) (h1 : RowE B w a1 c1 xs) (h2 : RowE B w a2 c2 ys) (hBw : B ≤ w.heap.size) :
    Calls Tryz.prog 153 #[.slice a1 xs.length c1, .slice a2 ys.length c2, .func (.func 118) #[] #[]] w fun r w' => r = .returned (.bool (samL (xs.map ET.ex) (ys.map ET.ex))) ∧ Below w.heap.size w w' := by
  obtain ⟨R, hR⟩ : ∃ R, Hid (R = samL (xs.map ET.ex) (ys.map ET.ex)) := ⟨_, (rfl : _ = samL _ _)⟩
  rw [← hR.out]
  obtain ⟨n, hn⟩ : ∃ n, Hid (n = xs.length) := ⟨_, (rfl : xs.length = _)⟩
  obtain ⟨n2, hn2⟩ : ∃ n, Hid (n = ys.length) := ⟨_, (rfl : ys.length = _)⟩
  have hl1 := h1.1
  have hl2 := h2.1
  have hk1 := h1.2.1
  have hk2 := h2.2.1
  rw [← hn.out] at hl1 hk1 ⊢
  rw [← hn2.out] at hl2 hk2 ⊢
  have HS : Hid (∀ x ∈ xs, SameW B x) := hS
  have HR : Hid (RowE B w a1 c1 xs ∧ RowE B w a2 c2 ys) := ⟨h1, h2⟩
  clear hS h1 h2
  by_cases hnn : n = n2
  · subst hnn
    go_enter Tryz.func153, Tryz.ntmps153
    go_wp2_with fail
    go_loopw [17] (fun j wr => ∃ i : Nat, j = .int .i64 (i : Int) ∧ i ≤ n ∧ Hid (Below w.heap.size w wr ∧ ∀ (q : Nat) (x y : Ex), q < i → (xs.map ET.ex)[q]? = some x → (ys.map ET.ex)[q]? = some y → samX x y = true)) (fun j _ => n - (intOf j).toNat)
    case atStart => exact ⟨0, rfl, by omega, Below.refl _ _, fun q x y hq => by omega⟩
    case round =>
      obtain ⟨i, rfl, hi, hX⟩ := hrel
      by_cases hc : i < n
      · obtain ⟨x, hx⟩ : ∃ k, xs[i]? = some k := ⟨xs[i]'(by rw [← hn.out]; exact hc), by rw [List.getElem?_eq_getElem]⟩
        obtain ⟨y, hy⟩ : ∃ k, ys[i]? = some k := ⟨ys[i]'(by rw [← hn2.out]; exact hc), by rw [List.getElem?_eq_getElem]⟩
        obtain ⟨hbw, hall⟩ := hX.out
        have hold : Old B w wr := Old.of_below hbw hBw
        obtain ⟨g1, o1, rfl, hg1, hr1, hx1⟩ := (HR.out.1.old hold).at i x hx
        obtain ⟨g2, o2, rfl, hg2, hr2, hy1⟩ := (HR.out.2.old hold).at i y hy
        have HK : Hid (x.In B wr ∧ y.In B wr ∧ B ≤ wr.heap.size ∧ wr.rangeAt g2 (o2 + i * 5) y.cells) := ⟨hx1, hy1, by have := hbw.size; omega, hr2⟩
        clear hX hx1 hy1 hr2 hold HR
        go_wp2_with (first
          | ((with_reducible show wpList _ _ _ _ _ _); refine wpList_load_mid (P := Tryz.prog) rfl 43 (.tmp 20) rfl g1 (o1 + i * 5) (by first | rfl | (simp; done)) x.cells _ hr1 Tryz.underlying43 rfl (by rw [ET.cells_len]; exact i29) ?_)
          | ((with_reducible show wpList _ _ _ _ _ _); refine wpList_alloc_at rfl 43 rfl (ex5 0 0 0 ⟨#[]⟩ (.slice none 0 0)) 5 z29 ?_; intro w2 hA2 hb2 hs2)
          | ((with_reducible show wpList _ _ _ _ _ _); refine wpList_store_at (P := Tryz.prog) rfl 43 (.tmp 8) (.tmp 21) rfl wr.heap.size x.cells rfl rfl 43 _ hA2 (by rw [ET.cells_len]; exact i29) (by rw [ET.cells_len]; rfl) x.one ?_; intro w3 hA3 hb3 hs3; refine Hid.out ?_))
        refine hidU ?_
        have hB3 : Below wr.heap.size wr w3 := hb3.below hb2 (Nat.le_refl _) (by omega)
        obtain ⟨q1, q2, q3, q4⟩ := HK.out
        have hold3 : Old B wr w3 := Old.of_below hB3 q3
        have hr3 : w3.rangeAt g2 (o2 + i * 5) y.cells := Old.range hold3 hg2 q4
        have hw3 : Below w.heap.size w w3 := hbw.trans (hB3.mono hbw.size)
        have hA3' := hA3
        clear hb3 hb2 hA2 hr1 hs2 hs3 q4 hA3
        go_wp2_with (first
          | ((with_reducible show wpList _ _ _ _ _ _); refine wpList_load_mid (P := Tryz.prog) rfl 43 (.tmp 24) rfl g2 (o2 + i * 5) (by first | rfl | (simp; done)) y.cells _ hr3 Tryz.underlying43 rfl (by rw [ET.cells_len]; exact i29) ?_)
          | ((with_reducible show wpList _ _ _ _ _ _); refine wpList_alloc_at rfl 43 rfl (ex5 0 0 0 ⟨#[]⟩ (.slice none 0 0)) 5 z29 ?_; intro w4 hA4 hb4 hs4)
          | ((with_reducible show wpList _ _ _ _ _ _); refine wpList_store_at (P := Tryz.prog) rfl 43 (.tmp 9) (.tmp 25) rfl w3.heap.size y.cells rfl rfl 43 _ hA4 (by rw [ET.cells_len]; exact i29) (by rw [ET.cells_len]; rfl) y.one ?_; intro w5 hA5 hb5 hs5; refine Hid.out ?_))
        refine hidU ?_
        have hB5 : Below w3.heap.size w3 w5 := hb5.below hb4 (Nat.le_refl _) (by omega)
        have hA35 := hA3'.below hB5
        have hw5 : Below w.heap.size w w5 := hw3.trans (hB5.mono hw3.size)
        have hold5 : Old B wr w5 := hold3.trans (Old.of_below hB5 (by have := hB3.size; omega))
        have hI := HS.out x (List.mem_of_getElem? hx) y w5 (q1.old hold5) (q2.old hold5) (by have := hw5.size; omega)
        clear hb5 hb4 hA4 hr3 hs4 hs5 hA3' q1 q2 hold3 hold5 HK HS
        go_wp2_with (first
          | ((with_reducible show wpList _ _ _ _ _ _); refine wpList_load_at (P := Tryz.prog) rfl 43 (.tmp 8) rfl wr.heap.size rfl 43 x.cells hA35 _ Tryz.underlying43 rfl (by rw [ET.cells_len]; exact i29) ?_)
          | ((with_reducible show wpList _ _ _ _ _ _); refine wpList_load_at (P := Tryz.prog) rfl 43 (.tmp 9) rfl w3.heap.size rfl 43 y.cells hA5 _ Tryz.underlying43 rfl (by rw [ET.cells_len]; exact i29) ?_))
        refine hI.mono ?_
        rintro r w6 ⟨rfl, hb6⟩
        have hw6 : Below w.heap.size w w6 := hw5.trans (hb6.mono hw5.size)
        clear hI hb6 hw5 hw3 hB3 hB5 hA35 hA5
        cases hM : samX x.ex y.ex with
        | false =>
          have hRf : R = false := by
            rw [hR.out, Bool.eq_false_iff]
            intro h
            have := ((samL_iff _ _).1 h).2 i x.ex y.ex (by rw [List.getElem?_map, hx]; rfl) (by rw [List.getElem?_map, hy]; rfl)
            rw [hM] at this
            cases this
          clear hM
          go_wp2
          go_ret
          exact ⟨by rw [hRf]; rfl, hw6⟩
        | true =>
          go_wp2
          go_roundw
          case rel =>
            refine ⟨i + 1, by go_num, by omega, hw6, fun q u v hq hu hv => ?_⟩
            by_cases hqi : q = i
            · subst hqi
              rw [List.getElem?_map, hx] at hu
              rw [List.getElem?_map, hy] at hv
              simp at hu hv
              subst hu hv
              exact hM
            · exact hall q u v (by omega) hu hv
          case measure => simp [intOf]; omega
      · have hin : i = n := by omega
        obtain ⟨hbw, hall⟩ := hX.out
        have hRt : R = true := by
          rw [hR.out, samL_iff, List.length_map, List.length_map, ← hn.out, ← hn2.out]
          refine ⟨rfl, fun q u v hu hv => hall q u v ?_ hu hv⟩
          have := (List.getElem?_eq_some_iff.1 hu).1
          rw [List.length_map, ← hn.out] at this
          omega
        clear hX hall hin HR HS
        go_wp2
        go_ret
        exact ⟨by rw [hRt]; rfl, hbw⟩
  · have hne : ((n : Int) == (n2 : Int)) = false := by rw [beq_eq_false_iff_ne]; omega
    have hRf : R = false := by
      rw [hR.out, Bool.eq_false_iff]
      intro h
      have := (samL_iff _ _).1 h
      rw [List.length_map, List.length_map, ← hn.out, ← hn2.out] at this
      exact hnn this.1
    clear hnn
    go_enter Tryz.func153, Tryz.ntmps153
    go_wp2_with fail
    go_ret
    exact ⟨by rw [hRf]; rfl, Below.refl _ _⟩

theorem eq26g (t b t' b' : Nat) (u : World) : (Op.equalIn 10000 40 (.agg #[.int .u8 (t : Int), .int .u64 (b : Int)]) (.agg #[.int .u8 (t' : Int), .int .u64 (b' : Int)])).run Tryz.prog u = .ok (decide (t = t' ∧ b = b')) u := by
  by_cases h1 : t = t'
  · subst h1
    by_cases h2 : b = b'
    · subst h2
      go_simp
    · have e2 : ((b : Int) == (b' : Int)) = false := by rw [beq_eq_false_iff_ne]; omega
      go_simp
  · have e1 : ((t : Int) == (t' : Int)) = false := by rw [beq_eq_false_iff_ne]; omega
    go_simp

theorem ET.sz {op t b c : Nat} {nm : ByteArray} {a : Option Addr} {ks : List ET} {x : ET} (h : x ∈ ks) : SizeOf.sizeOf x < SizeOf.sizeOf (ET.mk op t b nm a c ks) := by
  have := List.sizeOf_lt_of_mem h
  simp only [ET.mk.sizeOf_spec]
  omega

set_option maxRecDepth 100000 in
set_option maxHeartbeats 3200000 in
theorem sameExpr_any (B : Nat) (N : Nat) : ∀ x : ET, SizeOf.sizeOf x < N → SameW B x := by
  induction N with
  | zero => intro x h; omega
  | succ N ih =>
    rintro ⟨op, t, b, nm, a, c, ks⟩ hN ⟨op', t', b', nm', a', c', ks'⟩ w hx hy hBw
    have hS : ∀ k ∈ ks, SameW B k := fun k hk => ih k (by have := ET.sz (op := op) (t := t) (b := b) (c := c) (nm := nm) (a := a) hk; omega)
    unfold ET.In at hx hy
    obtain ⟨_, _, _, x1, x2, x3⟩ := hx
    obtain ⟨_, _, _, y1, y2, y3⟩ := hy
    have hF := fun w h1 h2 hB => equalE_of B ks ks' hS a a' c c' w h1 h2 hB
    have HR : Hid (RowE B w a c ks ∧ RowE B w a' c' ks') := ⟨⟨x1, x2, x3⟩, ⟨y1, y2, y3⟩⟩
    obtain ⟨R, hR⟩ : ∃ R, Hid (R = samX (ET.mk op t b nm a c ks).ex (ET.mk op' t' b' nm' a' c' ks').ex) := ⟨_, (rfl : _ = samX _ _)⟩
    rw [← hR.out]
    have hR2 : Hid (R = (decide (op = op') && (decide (t = t' ∧ b = b') && (decide (nm.data.toList = nm'.data.toList) && samL (ks.map ET.ex) (ks'.map ET.ex))))) := by
      have := hR.out
      show R = _
      rw [this]
      show samX (.mk op t b nm.data.toList (ET.exs ks)) (.mk op' t' b' nm'.data.toList (ET.exs ks')) = _
      rw [samX, ET.exs_eq, ET.exs_eq]
    obtain ⟨Z, hZ⟩ : ∃ Z, Hid (Z = samL (ks.map ET.ex) (ks'.map ET.ex)) := ⟨_, (rfl : _ = samL _ _)⟩
    rw [← hZ.out] at hR2 hF
    obtain ⟨n, hn⟩ : ∃ n, Hid (n = ks.length) := ⟨_, (rfl : ks.length = _)⟩
    obtain ⟨n', hn'⟩ : ∃ n, Hid (n = ks'.length) := ⟨_, (rfl : ks'.length = _)⟩
    show Calls Tryz.prog 118 #[.agg (ex5 op t b nm (.slice a ks.length c)).toArray, .agg (ex5 op' t' b' nm' (.slice a' ks'.length c')).toArray] w _
    rw [← hn.out, ← hn'.out] at hF ⊢
    have hq := eq26g t b t' b'
    clear x1 x2 x3 y1 y2 y3 hR hS ih hN
    go_enter Tryz.func118, Tryz.ntmps118
    go_wp2_with (first
      | ((with_reducible show wpList _ _ _ _ _ _); refine wpList_box_at rfl 43 (.tmp 0) rfl (ex5 op t b nm (.slice a n c)) rfl ?_; intro w1 hA1 hb1 hs1; clear hs1)
      | ((with_reducible show wpList _ _ _ _ _ _); refine wpList_box_at rfl 43 (.tmp 1) rfl (ex5 op' t' b' nm' (.slice a' n' c')) rfl ?_; intro w2 hA2 hb2 hs2; clear hs2; refine Hid.out ?_))
    refine hidU ?_
    have hA12 := hA1.below hb2
    have hbw : Below w.heap.size w w2 := hb1.trans (hb2.mono hb1.size)
    have c0 : w2.cell? ⟨w.heap.size, 0, none⟩ = some (.int .u8 (op : Int)) := by rw [hA12.cell]; rfl
    have c1 : w2.cell? ⟨w.heap.size, 1, none⟩ = some (.int .u8 (t : Int)) := by rw [hA12.cell]; rfl
    have c2 : w2.cell? ⟨w.heap.size, 2, none⟩ = some (.int .u64 (b : Int)) := by rw [hA12.cell]; rfl
    have c3 : w2.cell? ⟨w.heap.size, 3, none⟩ = some (.string nm) := by rw [hA12.cell]; rfl
    have c4 : w2.cell? ⟨w.heap.size, 4, none⟩ = some (.slice a n c) := by rw [hA12.cell]; rfl
    have d0 : w2.cell? ⟨w1.heap.size, 0, none⟩ = some (.int .u8 (op' : Int)) := by rw [hA2.cell]; rfl
    have d1 : w2.cell? ⟨w1.heap.size, 1, none⟩ = some (.int .u8 (t' : Int)) := by rw [hA2.cell]; rfl
    have d2 : w2.cell? ⟨w1.heap.size, 2, none⟩ = some (.int .u64 (b' : Int)) := by rw [hA2.cell]; rfl
    have d3 : w2.cell? ⟨w1.heap.size, 3, none⟩ = some (.string nm') := by rw [hA2.cell]; rfl
    have d4 : w2.cell? ⟨w1.heap.size, 4, none⟩ = some (.slice a' n' c') := by rw [hA2.cell]; rfl
    have hold : Old B w w2 := Old.of_below hbw hBw
    have hF' := hF w2 (HR.out.1.old hold) (HR.out.2.old hold) (by have := hbw.size; omega)
    clear hA12 hA1 hA2 hb1 hb2 hold HR hF
    by_cases ho : op = op'
    · subst ho
      have hd : decide (op = op) = true := by simp
      rw [hd, Bool.true_and] at hR2
      cases hV : decide (t = t' ∧ b = b') with
      | true =>
        rw [hV, Bool.true_and] at hR2
        have hq' : ∀ u, (Op.equalIn 10000 40 (.agg #[.int .u8 (t : Int), .int .u64 (b : Int)]) (.agg #[.int .u8 (t' : Int), .int .u64 (b' : Int)])).run Tryz.prog u = .ok true u := fun u => by rw [hq, hV]
        clear hq hd hV
        go_wp2_with fail
        · have hs : nm.toList = nm'.toList := by assumption
          rw [toList_bytes, toList_bytes] at hs
          have hs' : decide (nm.data.toList = nm'.data.toList) = true := decide_eq_true hs
          rw [hs', Bool.true_and] at hR2
          rw [← hR2.out] at hF'
          clear hs hs'
          refine hF'.mono ?_
          rintro r w3 ⟨rfl, hb3⟩
          go_wp2
          go_ret
          exact ⟨rfl, hbw.trans (hb3.mono hbw.size)⟩
        · have hs : ¬ nm.toList = nm'.toList := by assumption
          rw [toList_bytes, toList_bytes] at hs
          have hs' : decide (nm.data.toList = nm'.data.toList) = false := decide_eq_false hs
          rw [hs', Bool.false_and] at hR2
          clear hs hs'
          go_ret
          exact ⟨by rw [hR2.out]; rfl, hbw⟩
      | false =>
        rw [hV, Bool.false_and] at hR2
        have hq' : ∀ u, (Op.equalIn 10000 40 (.agg #[.int .u8 (t : Int), .int .u64 (b : Int)]) (.agg #[.int .u8 (t' : Int), .int .u64 (b' : Int)])).run Tryz.prog u = .ok false u := fun u => by rw [hq, hV]
        clear hq hd hV
        go_wp2_with fail
        go_ret
        exact ⟨by rw [hR2.out]; rfl, hbw⟩
    · have e0 : ((op : Int) == (op' : Int)) = false := by rw [beq_eq_false_iff_ne]; omega
      have hd : decide (op = op') = false := by simpa using ho
      rw [hd, Bool.false_and] at hR2
      clear ho hd hq
      go_wp2_with fail
      go_ret
      exact ⟨by rw [hR2.out]; rfl, hbw⟩

end Go.Proofs.YtjgggmjjikopeaaGreatDoor

/- An expression's text is written: literals, names, two operands; all. -/
namespace Go.Proofs.YtjgggmjjikopeaaGreatDoor
open Go.RowKit
set_option linter.unusedVariables false

set_option maxRecDepth 100000 in
set_option maxHeartbeats 1600000 in
theorem expr_lit (B g m : Nat) (hm : m ≤ 9223372036854775807) (h16 : gB ≤ B) (nm : ByteArray) (a : Option Addr) (c : Nat) (ks : List ET) (t b : Nat) : ExprW B g m (.mk 1 t b nm a c ks) := by
  intro w F hin hT hBw hTab hlen
  have hBg := hT.base
  have hgw := hT.lt
  have hX : exT (ET.mk 1 t b nm a c ks).ex = valTx t b := by
    show exT (.mk 1 t b nm.data.toList _) = _
    unfold exT
    rw [if_pos rfl]
  rw [hX] at hlen ⊢
  unfold ET.In at hin
  obtain ⟨_, ht, hb, _⟩ := hin
  have hV := fun w hT h => valueText_any t b ht hb w hT h
  obtain ⟨L, hL⟩ : ∃ L, Hid (L = valTx t b) := ⟨_, (rfl : valTx t b = _)⟩
  rw [← hL.out] at hV hlen ⊢
  have HI : Hid (Tab w ∧ Txt B w g m F) := ⟨hTab, hT⟩
  obtain ⟨n, hn⟩ : ∃ n, Hid (n = ks.length) := ⟨_, (rfl : ks.length = _)⟩
  show Calls Tryz.prog 106 #[.pointer (some ⟨g, 0, none⟩), .agg (ex5 1 t b nm (.slice a ks.length c)).toArray] w _
  rw [← hn.out]
  clear hX hT hTab
  go_enter Tryz.func106, Tryz.ntmps106
  go_wp2_with (first
    | ((with_reducible show wpList _ _ _ _ _ _); refine wpList_box_at rfl 43 (.tmp 1) rfl (ex5 1 t b nm (.slice a n c)) rfl ?_; intro w1 hA1 hb1 hs1; clear hs1; refine Hid.out ?_))
  refine hidU ?_
  have c0 : w1.cell? ⟨w.heap.size, 0, none⟩ = some (.int .u8 1) := by rw [hA1.cell]; rfl
  have c1 : w1.cell? ⟨w.heap.size, 1, none⟩ = some (.int .u8 (t : Int)) := by rw [hA1.cell]; rfl
  have c2 : w1.cell? ⟨w.heap.size, 2, none⟩ = some (.int .u64 (b : Int)) := by rw [hA1.cell]; rfl
  have hV' := hV w1 (HI.out.1.below hb1 (by omega)) (by have := hb1.size; omega)
  clear hV
  go_wp2_with fail
  refine hV'.mono ?_
  rintro r w2 ⟨rfl, hb2⟩
  have hT2 : Txt B w2 g m F := (HI.out.2.below hb1).below hb2
  have hbb : Below w.heap.size w w2 := hb1.trans (hb2.mono hb1.size)
  clear hV' hb1 hb2 hA1 HI c0 c1 c2
  go_wp2_with (first
    | ((with_reducible show wpList _ _ _ _ _ _); refine wpList_strs rfl 1 #[(0, .tmp 35)] rfl [⟨L.toArray⟩] rfl (by decide) (by decide) (by kernel_rfl) ?_; intro w3 hA3 hb3 hs3; clear hs3))
  refine (put_any B g m _ [⟨L.toArray⟩] F _ hm (hT2.below hb3) hA3 (by simpa [cat] using hlen) (by simp)).mono ?_
  rintro r w4 ⟨rfl, hT4, hW4⟩
  have HF : Hid (Txt B w4 g m (F ++ L) ∧ Wr B g w w4) := ⟨by simpa [cat] using hT4, (Wr.of_below (hbb.trans (hb3.mono hbb.size))).trans hW4⟩
  clear hT4 hW4 hT2 hbb hA3 hb3
  go_wp2
  go_end0
  exact ⟨rfl, HF.out⟩

set_option maxRecDepth 100000 in
set_option maxHeartbeats 1600000 in
theorem expr_name (B g m : Nat) (hm : m ≤ 9223372036854775807) (h16 : gB ≤ B) (nm : ByteArray) (a : Option Addr) (c : Nat) (ks : List ET) (t b : Nat) : ExprW B g m (.mk 2 t b nm a c ks) := by
  intro w F hin hT hBw hTab hlen
  have hBg := hT.base
  have hgw := hT.lt
  have hX : exT (ET.mk 2 t b nm a c ks).ex = nm.data.toList := by
    show exT (.mk 2 t b nm.data.toList _) = _
    unfold exT
    rw [if_neg (by decide), if_pos rfl]
  rw [hX] at hlen ⊢
  have HI : Hid (Txt B w g m F) := hT
  obtain ⟨n, hn⟩ : ∃ n, Hid (n = ks.length) := ⟨_, (rfl : ks.length = _)⟩
  show Calls Tryz.prog 106 #[.pointer (some ⟨g, 0, none⟩), .agg (ex5 2 t b nm (.slice a ks.length c)).toArray] w _
  rw [← hn.out]
  clear hX hT hTab hin
  go_enter Tryz.func106, Tryz.ntmps106
  go_wp2_with (first
    | ((with_reducible show wpList _ _ _ _ _ _); refine wpList_box_at rfl 43 (.tmp 1) rfl (ex5 2 t b nm (.slice a n c)) rfl ?_; intro w1 hA1 hb1 hs1; clear hs1; refine Hid.out ?_))
  refine hidU ?_
  have c0 : w1.cell? ⟨w.heap.size, 0, none⟩ = some (.int .u8 2) := by rw [hA1.cell]; rfl
  have c3 : w1.cell? ⟨w.heap.size, 3, none⟩ = some (.string nm) := by rw [hA1.cell]; rfl
  go_wp2_with (first
    | ((with_reducible show wpList _ _ _ _ _ _); refine wpList_strs rfl 1 #[(0, .tmp 42)] rfl [nm] rfl (by decide) (by decide) (by kernel_rfl) ?_; intro w3 hA3 hb3 hs3; clear hs3))
  refine (put_any B g m _ [nm] F _ hm ((HI.out.below hb1).below hb3) hA3 (by simpa [cat] using hlen) (by simp)).mono ?_
  rintro r w4 ⟨rfl, hT4, hW4⟩
  have HF : Hid (Txt B w4 g m (F ++ nm.data.toList) ∧ Wr B g w w4) := ⟨by simpa [cat] using hT4, (Wr.of_below (hb1.trans (hb3.mono hb1.size))).trans hW4⟩
  clear hT4 hW4 hA3 hb3 hA1 hb1 c0 c3
  go_wp2
  go_end0
  exact ⟨rfl, HF.out⟩

set_option maxRecDepth 100000 in
set_option maxHeartbeats 1600000 in
theorem expr_two (B g m : Nat) (hm : m ≤ 9223372036854775807) (h16 : gB ≤ B) (nm : ByteArray) (a : Option Addr) (c : Nat) (x y : ET) (hE : ExprW B g m x) (hE2 : ExprW B g m y) (op t b : Nat) (h3 : 3 ≤ op) (ho : op < 16) : ExprW B g m (.mk op t b nm a c [x, y]) := by
  intro w F hin hT hBw hTab hlen
  obtain ⟨gk, o, rfl, hgk, hrx, hry, hx, hy, hc⟩ := ET.kid2 hin
  have hBg := hT.base
  have hgw := hT.lt
  have hX : exT (ET.mk op t b nm (some ⟨gk, o, none⟩) c [x, y]).ex = [40] ++ (exT x.ex ++ [32]) ++ sgT op ++ ([32] ++ (exT y.ex ++ [41])) := by
    show exT (.mk op t b nm.data.toList [x.ex, y.ex]) = _
    rw [exT, if_neg (by omega), if_neg (by omega)]
    simp
  rw [hX] at hlen ⊢
  have hS := sign_any op
  obtain ⟨S, hSS⟩ : ∃ S, Hid (S = sgT op) := ⟨_, (rfl : sgT op = _)⟩
  obtain ⟨X, hXX⟩ : ∃ X, Hid (X = exT x.ex) := ⟨_, (rfl : exT x.ex = _)⟩
  obtain ⟨Y, hYY⟩ : ∃ Y, Hid (Y = exT y.ex) := ⟨_, (rfl : exT y.ex = _)⟩
  rw [← hSS.out] at hS hlen ⊢
  rw [← hXX.out, ← hYY.out] at hlen ⊢
  have hA := fun w hin hT hBw hTab => around_of B g m x hm h16 hE ⟨#[40]⟩ ⟨#[32]⟩ w F hin hT hBw hTab (by rw [← hXX.out]; simp at hlen ⊢; omega)
  have hA2 := fun w hin hT hBw hTab => around_of B g m y hm h16 hE2 ⟨#[32]⟩ ⟨#[41]⟩ w (F ++ ([40] ++ (X ++ [32])) ++ S) hin hT hBw hTab (by rw [← hYY.out]; simp at hlen ⊢; omega)
  rw [← hXX.out] at hA
  rw [← hYY.out] at hA2
  have HI : Hid (x.In B w ∧ Tab w ∧ Txt B w g m F ∧ w.rangeAt gk o x.cells) := ⟨hx, hTab, hT, hrx⟩
  have HJ : Hid (y.In B w ∧ w.rangeAt gk (o + 5) y.cells) := ⟨hy, hry⟩
  have HL : Hid ((F ++ ([40] ++ (X ++ [32]) ++ S ++ ([32] ++ (Y ++ [41])))).length ≤ 70368744177664) := hlen
  have e1 : ((op : Int) == 1) = false := by rw [beq_eq_false_iff_ne]; omega
  have e2 : ((op : Int) == 2) = false := by rw [beq_eq_false_iff_ne]; omega
  have e16 : ((op : Int) == 16) = false := by rw [beq_eq_false_iff_ne]; omega
  have e17 : ((op : Int) == 17) = false := by rw [beq_eq_false_iff_ne]; omega
  have e18 : ((op : Int) == 18) = false := by rw [beq_eq_false_iff_ne]; omega
  have e19 : ((op : Int) == 19) = false := by rw [beq_eq_false_iff_ne]; omega
  show Calls Tryz.prog 106 #[.pointer (some ⟨g, 0, none⟩), .agg (ex5 op t b nm (.slice (some ⟨gk, o, none⟩) 2 c)).toArray] w _
  clear hin hX hE hE2 hT hTab hx hy hrx hry hlen
  go_enter Tryz.func106, Tryz.ntmps106
  go_wp2_with (first
    | ((with_reducible show wpList _ _ _ _ _ _); refine wpList_box_at rfl 43 (.tmp 1) rfl (ex5 op t b nm (.slice (some ⟨gk, o, none⟩) 2 c)) rfl ?_; intro w1 hA1 hb1 hs1; clear hs1; refine Hid.out ?_))
  refine hidU ?_
  have c0 : w1.cell? ⟨w.heap.size, 0, none⟩ = some (.int .u8 (op : Int)) := by rw [hA1.cell]; rfl
  have c4 : w1.cell? ⟨w.heap.size, 4, none⟩ = some (.slice (some ⟨gk, o, none⟩) 2 c) := by rw [hA1.cell]; rfl
  obtain ⟨q1, q2, q3, q4⟩ := HI.out
  have hr1 : w1.rangeAt gk o x.cells := Old.range (Old.of_below hb1 hBw) hgk q4
  have hA' := hA w1 (q1.old (Old.of_below hb1 hBw)) (q3.below hb1) (by have := hb1.size; omega) (q2.below hb1 (by omega))
  clear hA q1 q3 q4 HI
  go_wp2_with (first
    | ((with_reducible show wpList _ _ _ _ _ _); refine wpList_load_mid (P := Tryz.prog) rfl 43 (.tmp 11) rfl gk o (by first | rfl | (simp; done)) x.cells _ hr1 Tryz.underlying43 rfl (by rw [ET.cells_len]; exact i29) ?_))
  refine hA'.mono ?_
  rintro r w2 ⟨rfl, hT2, hW2⟩
  have hw2 : Wr B g w w2 := (Wr.of_below hb1).trans hW2
  have hA2b := hW2.at hA1 (by omega) (by decide)
  clear hA' hW2 hr1 c0 c4 hA1 hb1
  have c0 : w2.cell? ⟨w.heap.size, 0, none⟩ = some (.int .u8 (op : Int)) := by rw [hA2b.cell]; rfl
  go_wp2_with fail
  refine (hS _).mono ?_
  rintro r w2' ⟨rfl, hw2'⟩
  have hw2'' := hw2'.symm
  subst hw2''
  clear hw2' hS
  go_wp2_with (first
    | ((with_reducible show wpList _ _ _ _ _ _); refine wpList_strs rfl 1 #[(0, .tmp 17)] rfl [⟨S.toArray⟩] rfl (by decide) (by decide) (by kernel_rfl) ?_; intro w3 hA3 hb3 hs3; clear hs3))
  refine (put_any B g m _ [⟨S.toArray⟩] _ _ hm (hT2.below hb3) hA3 (by have := HL.out; simp [cat] at this ⊢; omega) (by simp)).mono ?_
  rintro r w4 ⟨rfl, hT4, hW4⟩
  have hT4' : Txt B w4 g m (F ++ ([40] ++ (X ++ [32])) ++ S) := by simpa [cat] using hT4
  have hA4 := hW4.at (hA2b.below hb3) (by omega) (by decide)
  have hw4 : Wr B g w w4 := hw2.trans ((Wr.of_below hb3).trans hW4)
  have hold : Old B w w4 := Old.of_wr hw4 hBg hBw
  have hr4 : w4.rangeAt gk (o + 5) y.cells := Old.range hold hgk HJ.out.2
  have hA5 := hA2 w4 (HJ.out.1.old hold) hT4' (by have := hw4.size; omega) (q2.wr hw4 hBg hBw h16)
  clear hA2 hT4 hT4' hW4 hA3 hb3 hA2b hw2 hT2 hold HJ q2 c0
  have c4 : w4.cell? ⟨w.heap.size, 4, none⟩ = some (.slice (some ⟨gk, o, none⟩) 2 c) := by rw [hA4.cell]; rfl
  go_wp2_with (first
    | ((with_reducible show wpList _ _ _ _ _ _); refine wpList_load_mid (P := Tryz.prog) rfl 43 (.tmp 23) rfl gk (o + 5) (by first | rfl | (simp; done)) y.cells _ hr4 Tryz.underlying43 rfl (by rw [ET.cells_len]; exact i29) ?_))
  refine hA5.mono ?_
  rintro r w6 ⟨rfl, hT6, hW6⟩
  have HF : Hid (Txt B w6 g m (F ++ ([40] ++ (X ++ [32]) ++ S ++ ([32] ++ (Y ++ [41])))) ∧ Wr B g w w6) := ⟨by simpa using hT6, hw4.trans hW6⟩
  clear hA5 hT6 hW6 hr4 hA4 hw4
  go_wp2
  go_end0
  exact ⟨rfl, HF.out⟩

/-- An expression that may be printed is written as its text. -/
theorem expr_any (B g m : Nat) (hm : m ≤ 9223372036854775807) (h16 : gB ≤ B) (h : Nat) : ∀ e : ET, mayE h e.ex = true → ExprW B g m e := by
  induction h with
  | zero => intro e he; simp [mayE] at he
  | succ h ih =>
    rintro ⟨op, t, b, nm, a, c, ks⟩ he
    have hl := mayE_len (show mayE (h + 1) (.mk op t b nm.data.toList (ET.exs ks)) = true from he)
    rw [ET.exs_eq, List.length_map] at hl
    by_cases h1 : op = 1
    · subst h1; exact expr_lit B g m hm h16 nm a c ks t b
    by_cases h2 : op = 2
    · subst h2; exact expr_name B g m hm h16 nm a c ks t b
    have hk := mayE_kids (show mayE (h + 1) (.mk op t b nm.data.toList (ET.exs ks)) = true from he) h1 h2
    rw [ET.exs_eq] at hk
    unfold opnds at hl
    rw [if_neg (by omega)] at hl
    by_cases h3 : 16 ≤ op ∧ op < 20
    · rw [if_pos h3] at hl
      match ks, hl, hk with
      | [x], _, hk =>
        have hx := ih x (hk x.ex (by simp))
        have : op = 16 ∨ op = 17 ∨ op = 18 ∨ op = 19 := by omega
        rcases this with rfl | rfl | rfl | rfl
        · exact expr_un16 B g m hm h16 nm a c x hx t b
        · exact expr_un17 B g m hm h16 nm a c x hx t b
        · exact expr_un18 B g m hm h16 nm a c x hx t b
        · exact expr_un19 B g m hm h16 nm a c x hx t b
    · rw [if_neg h3] at hl
      by_cases h4 : 3 ≤ op ∧ op < 16
      · rw [if_pos h4] at hl
        match ks, hl, hk with
        | [x, y], _, hk => exact expr_two B g m hm h16 nm a c x y (ih x (hk x.ex (by simp))) (ih y (hk y.ex (by simp))) op t b h4.1 h4.2
      · rw [if_neg h4] at hl
        omega

end Go.Proofs.YtjgggmjjikopeaaGreatDoor

/- tree.Expr. -/
namespace Go.Proofs.YtjgggmjjikopeaaGreatDoor
open Go.RowKit
set_option linter.unusedVariables false

theorem z54 : (Tryz.prog.info? 88).map (fun i => (i.zero, i.size)) = some (some (.agg [.pointer none, .slice none 0 0, .int .i64 0].toArray), 3) := by kernel_rfl
theorem i54 : (Tryz.prog.info? 88).map (·.size) = some 3 := by kernel_rfl
theorem one54 (m : Int) : ∀ v ∈ [Value.pointer none, .slice none 0 0, .int .i64 m], v.oneCell' = true := by
  intro v hv
  simp at hv
  rcases hv with rfl | rfl | rfl <;> rfl

theorem Txt.new {w : World} {g m B : Nat} (hB : B ≤ g) (h : At 88 w g [.pointer none, .slice none 0 0, .int .i64 (m : Int)]) : Txt B w g m [] :=
  ⟨[], .inl rfl, Nat.le_refl _, Raw.new hB h⟩

set_option maxRecDepth 100000 in
set_option maxHeartbeats 1600000 in
theorem expr4_any (e : ET) (B : Nat) (w : World) (h : e.In B w) (hBw : B ≤ w.heap.size) (hT : Tab w) (h16 : gB ≤ w.heap.size) (hlen : (exT e.ex).length ≤ 70368744177664) :
    Calls Tryz.prog 70 #[.agg e.cells.toArray] w fun r w' => r = .returned (.tuple #[.string ⟨(if mayE 32 e.ex then exT e.ex else []).toArray⟩, .int .i64 (if mayE 32 e.ex then 0 else 2)]) ∧ Below w.heap.size w w' := by
  have hM := fun w h hB hT h16 => mayExpr_any 32 e w B (by decide) h hB hT h16
  have hW : ∀ C g, gB ≤ C → mayE 32 e.ex = true → ExprW C g 9223372036854775807 e := fun C g hC hm => expr_any C g 9223372036854775807 (by decide) hC 32 e hm
  obtain ⟨M, hMM⟩ : ∃ M, Hid (M = mayE 32 e.ex) := ⟨_, (rfl : _ = mayE 32 e.ex)⟩
  rw [← hMM.out] at hM hW ⊢
  have HI : Hid (e.In B w ∧ Tab w) := ⟨h, hT⟩
  obtain ⟨X, hX⟩ : ∃ X, Hid (X = exT e.ex) := ⟨_, (rfl : exT e.ex = _)⟩
  rw [← hX.out] at hlen ⊢
  have HW : Hid (∀ C g, gB ≤ C → M = true → ExprW C g 9223372036854775807 e) := hW
  clear h hT hW
  go_enter Tryz.func70, Tryz.ntmps70
  go_wp2_with (first
    | ((with_reducible show wpList _ _ _ _ _ _); refine wpList_box_at rfl 43 (.tmp 0) rfl e.cells rfl ?_; intro w1 hA1 hb1 hs1; clear hs1)
    | ((with_reducible show wpList _ _ _ _ _ _); refine wpList_load_at (P := Tryz.prog) rfl 43 (.tmp 1) rfl w.heap.size rfl 43 e.cells hA1 _ Tryz.underlying43 rfl (by rw [ET.cells_len]; exact i29) ?_))
  refine (hM w1 (HI.out.1.old (Old.of_below hb1 hBw)) (by have := hb1.size; omega) (HI.out.2.below hb1 h16) (by have := hb1.size; omega)).mono ?_
  rintro r w2 ⟨rfl, hb2⟩
  have hA2 := hA1.below hb2
  have hw2 := hb1.trans (hb2.mono hb1.size)
  clear hM hA1 hb2 hb1
  cases M with
  | false =>
    go_wp2_with fail
    go_ret2
    exact ⟨rfl, hw2⟩
  | true =>
    go_wp2_with (first
      | ((with_reducible show wpList _ _ _ _ _ _); refine wpList_build_at (P := Tryz.prog) rfl 88 #[(1, .const (.int .i64 9223372036854775807))] rfl [.pointer none, .slice none 0 0, .int .i64 9223372036854775807] (by kernel_rfl) ?_)
      | ((with_reducible show wpList _ _ _ _ _ _); refine wpList_alloc_at rfl 88 rfl _ 3 z54 ?_; intro w3 hA3 hb3 hs3)
      | ((with_reducible show wpList _ _ _ _ _ _); refine wpList_store_at (P := Tryz.prog) rfl 88 (.tmp 4) (.tmp 8) rfl w2.heap.size [.pointer none, .slice none 0 0, .int .i64 9223372036854775807] rfl rfl 88 _ hA3 i54 rfl (one54 _) ?_; intro w4 hA4 hb4 hs4; refine Hid.out ?_))
    refine hidU ?_
    have hB4 : Below w2.heap.size w2 w4 := hb4.below hb3 (Nat.le_refl _) (by omega)
    have hw4 := hw2.trans (hB4.mono hw2.size)
    have hA24 := hA2.below hB4
    have hBw2 : w.heap.size ≤ w2.heap.size := hw2.size
    have hE := HW.out w2.heap.size w2.heap.size (by omega) trivial w4 [] ((HI.out.1.old (Old.of_below hw4 hBw)).up (by omega)) (Txt.new (Nat.le_refl _) hA4) (by have := hB4.size; omega) (HI.out.2.below hw4 h16) (by rw [← hX.out]; simpa using hlen)
    rw [← hX.out, List.nil_append] at hE
    clear HW hA3 hb3 hb4 hs3 hs4 hA2 hA4
    go_wp2_with (first
      | ((with_reducible show wpList _ _ _ _ _ _); refine wpList_load_at (P := Tryz.prog) rfl 43 (.tmp 1) rfl w.heap.size rfl 43 e.cells hA24 _ Tryz.underlying43 rfl (by rw [ET.cells_len]; exact i29) ?_))
    refine hE.mono ?_
    rintro r w5 ⟨rfl, hT5, hW5⟩
    obtain ⟨bs, hbs, hbl, hraw⟩ := hT5
    have hbX : bs = X := by
      rcases hbs with h | ⟨h, _⟩
      · exact h
      · omega
    subst hbX
    have hs5 : w2.heap.size ≤ w5.heap.size := by have := hB4.size; have := hW5.size; omega
    have hS := string_any w2.heap.size w2.heap.size _ bs w5 hraw hs5
    have hw5 : Below w.heap.size w w5 := hw4.trans ((hW5.below (Nat.le_refl _) (by have := hB4.size; omega)).mono hBw2)
    clear hE hW5 hraw hbs hA24 hw4 hB4
    go_wp2_with fail
    refine hS.mono ?_
    rintro r w6 ⟨rfl, hb6⟩
    go_wp2_with fail
    go_ret2
    exact ⟨rfl, hw5.trans (hb6.mono hBw2)⟩

end Go.Proofs.YtjgggmjjikopeaaGreatDoor

/- The document's own comparison of expressions. -/
namespace Go.Proofs.YtjgggmjjikopeaaGreatDoor
open Go.RowKit
set_option linter.unusedVariables false

/-- What the document's own telling two expressions apart does. -/
def KitEW (B : Nat) (x : ET) : Prop := ∀ (y : ET) (w : World), x.In B w → y.In B w → B ≤ w.heap.size → Calls Tryz.prog 15 #[.agg x.cells.toArray, .agg y.cells.toArray] w fun r w' => r = .returned (.bool (samX x.ex y.ex)) ∧ Below w.heap.size w w'

theorem Old.from {B : Nat} {a b c : World} (h : Old B a b) (k : Old B a c) : Old B b c := fun i hi => (k i hi).trans (h i hi).symm

theorem ex_cells {w : World} {g : Nat} {op t b : Nat} {nm : ByteArray} {s : Value} (h : At 43 w g (ex5 op t b nm s)) : w.cell? ⟨g, 0, none⟩ = some (.int .u8 (op : Int)) ∧ w.cell? ⟨g, 1, none⟩ = some (.int .u8 (t : Int)) ∧ w.cell? ⟨g, 2, none⟩ = some (.int .u64 (b : Int)) ∧ w.cell? ⟨g, 3, none⟩ = some (.string nm) ∧ w.cell? ⟨g, 4, none⟩ = some s := by
  refine ⟨?_, ?_, ?_, ?_, ?_⟩ <;> (rw [h.cell]; rfl)
theorem ex_mid {w : World} {g o : Nat} {op t b : Nat} {nm : ByteArray} {s : Value} (h : w.rangeAt g o (ex5 op t b nm s)) : w.cell? ⟨g, o, none⟩ = some (.int .u8 (op : Int)) ∧ w.cell? ⟨g, o + 1, none⟩ = some (.int .u8 (t : Int)) ∧ w.cell? ⟨g, o + 2, none⟩ = some (.int .u64 (b : Int)) ∧ w.cell? ⟨g, o + 3, none⟩ = some (.string nm) ∧ w.cell? ⟨g, o + 4, none⟩ = some s :=
  ⟨h 0 _ rfl, h 1 _ rfl, h 2 _ rfl, h 3 _ rfl, h 4 _ rfl⟩

set_option maxRecDepth 100000 in
set_option maxHeartbeats 6400000 in
theorem kitExpr_of (B : Nat) (op t b : Nat) (nm : ByteArray) (a : Option Addr) (c : Nat) (ks : List ET) (hS : ∀ k ∈ ks, KitEW B k) : KitEW B (.mk op t b nm a c ks) := by
  rintro ⟨op', t', b', nm', a', c', ks'⟩ w hx hy hBw
  unfold ET.In at hx hy
  obtain ⟨_, _, _, x1, x2, x3⟩ := hx
  obtain ⟨_, _, _, y1, y2, y3⟩ := hy
  have HR : Hid (RowE B w a c ks ∧ RowE B w a' c' ks') := ⟨⟨x1, x2, x3⟩, ⟨y1, y2, y3⟩⟩
  obtain ⟨R, hR⟩ : ∃ R, Hid (R = samX (ET.mk op t b nm a c ks).ex (ET.mk op' t' b' nm' a' c' ks').ex) := ⟨_, (rfl : _ = samX _ _)⟩
  rw [← hR.out]
  have hR2 : Hid (R = (decide (op = op') && (decide (t = t' ∧ b = b') && (decide (nm.data.toList = nm'.data.toList) && samL (ks.map ET.ex) (ks'.map ET.ex))))) := by
    have := hR.out
    show R = _
    rw [this]
    show samX (.mk op t b nm.data.toList (ET.exs ks)) (.mk op' t' b' nm'.data.toList (ET.exs ks')) = _
    rw [samX, ET.exs_eq, ET.exs_eq]
  obtain ⟨n, hn⟩ : ∃ n, Hid (n = ks.length) := ⟨_, (rfl : ks.length = _)⟩
  obtain ⟨n', hn'⟩ : ∃ n, Hid (n = ks'.length) := ⟨_, (rfl : ks'.length = _)⟩
  show Calls Tryz.prog 15 #[.agg (ex5 op t b nm (.slice a ks.length c)).toArray, .agg (ex5 op' t' b' nm' (.slice a' ks'.length c')).toArray] w _
  rw [← hn.out] at x1 x2 ⊢
  rw [← hn'.out] at y1 y2 ⊢
  have hq := eq26g t b t' b'
  have HS : Hid (∀ k ∈ ks, KitEW B k) := hS
  clear x3 y3 hR hS
  go_enter Tryz.func15, Tryz.ntmps15
  go_wp2_with (first
    | ((with_reducible show wpList _ _ _ _ _ _); refine wpList_box_at rfl 43 (.tmp 0) rfl (ex5 op t b nm (.slice a n c)) rfl ?_; intro w1 hA1 hb1 hs1; clear hs1)
    | ((with_reducible show wpList _ _ _ _ _ _); refine wpList_box_at rfl 43 (.tmp 1) rfl (ex5 op' t' b' nm' (.slice a' n' c')) rfl ?_; intro w2 hA2 hb2 hs2; clear hs2; refine Hid.out ?_))
  refine hidU ?_
  have hA12 := hA1.below hb2
  have hbw : Below w.heap.size w w2 := hb1.trans (hb2.mono hb1.size)
  obtain ⟨q0, q1, q2, q3, q4⟩ := ex_cells hA12
  obtain ⟨u0, u1, u2, u3, u4⟩ := ex_cells hA2
  have hl12 : w1.heap.size < w2.heap.size := hA2.lt
  have HB : Hid (At 43 w2 w.heap.size (ex5 op t b nm (.slice a n c)) ∧ At 43 w2 w1.heap.size (ex5 op' t' b' nm' (.slice a' n' c'))) := ⟨hA12, hA2⟩
  clear hA12 hA1 hA2 hb1 hb2
  by_cases ho : op = op'
  · subst ho
    have hd : decide (op = op) = true := by simp
    rw [hd, Bool.true_and] at hR2
    cases hV : decide (t = t' ∧ b = b') with
    | true =>
      rw [hV, Bool.true_and] at hR2
      have hq' : ∀ u, (Op.equalIn 10000 40 (.agg #[.int .u8 (t : Int), .int .u64 (b : Int)]) (.agg #[.int .u8 (t' : Int), .int .u64 (b' : Int)])).run Tryz.prog u = .ok true u := fun u => by rw [hq, hV]
      clear hq hd hV
      by_cases hs : nm.toList = nm'.toList
      · have hs0 : (nm.toList == nm'.toList) = true := by rw [beq_iff_eq]; exact hs
        rw [toList_bytes, toList_bytes] at hs
        have hs' : decide (nm.data.toList = nm'.data.toList) = true := decide_eq_true hs
        rw [hs', Bool.true_and] at hR2
        clear hs hs'
        by_cases hnn : n = n'
        · subst hnn
          go_wp2_with fail
          clear q0 q1 q2 q3 q4 u0 u1 u2 u3 u4 hs0 hq'
          go_loopw [5] (fun j wr => ∃ i : Nat, j = .int .i64 (i : Int) ∧ i ≤ n ∧ Hid (Below w2.heap.size w2 wr ∧ ∀ (q : Nat) (x y : Ex), q < i → (ks.map ET.ex)[q]? = some x → (ks'.map ET.ex)[q]? = some y → samX x y = true)) (fun j _ => n - (intOf j).toNat)
          case atStart => exact ⟨0, rfl, by omega, Below.refl _ _, fun q x y hq => by omega⟩
          case round =>
            obtain ⟨i, rfl, hi, hX⟩ := hrel
            obtain ⟨hb2r, hall⟩ := hX.out
            obtain ⟨-, -, -, -, q4⟩ := ex_cells (HB.out.1.below hb2r)
            obtain ⟨-, -, -, -, u4⟩ := ex_cells (HB.out.2.below hb2r)
            have hwr : Below w.heap.size w wr := hbw.trans (hb2r.mono hbw.size)
            by_cases hc : i < n
            · obtain ⟨x, hx⟩ : ∃ k, ks[i]? = some k := ⟨ks[i]'(by rw [← hn.out]; exact hc), by rw [List.getElem?_eq_getElem]⟩
              obtain ⟨y, hy⟩ : ∃ k, ks'[i]? = some k := ⟨ks'[i]'(by rw [← hn'.out]; exact hc), by rw [List.getElem?_eq_getElem]⟩
              have hold : Old B w wr := Old.of_below hwr hBw
              obtain ⟨g1, o1, rfl, hg1, hr1, hx1⟩ := (HR.out.1.old hold).at i x hx
              obtain ⟨g2, o2, rfl, hg2, hr2, hy1⟩ := (HR.out.2.old hold).at i y hy
              have HI : Hid (∀ wz, Below w.heap.size w wz → Calls Tryz.prog 15 #[.agg x.cells.toArray, .agg y.cells.toArray] wz fun r w' => r = .returned (.bool (samX x.ex y.ex)) ∧ Below wz.heap.size wz w') := fun wz hz => HS.out x (List.mem_of_getElem? hx) y wz (hx1.old (Old.from hold (Old.of_below hz hBw))) (hy1.old (Old.from hold (Old.of_below hz hBw))) (by have := hz.size; omega)
              have HX : Hid ((ks.map ET.ex)[i]? = some x.ex ∧ (ks'.map ET.ex)[i]? = some y.ex) := ⟨by rw [List.getElem?_map, hx]; rfl, by rw [List.getElem?_map, hy]; rfl⟩
              have HA : Hid (∀ (q : Nat) (x y : Ex), q < i → (ks.map ET.ex)[q]? = some x → (ks'.map ET.ex)[q]? = some y → samX x y = true) := hall
              obtain ⟨Z, hZ⟩ : ∃ Z, Hid (Z = samX x.ex y.ex) := ⟨_, (rfl : _ = samX _ _)⟩
              rw [← hZ.out] at HI
              obtain ⟨xop, xt, xb, xnm, xa, xc, xk⟩ := x
              obtain ⟨yop, yt, yb, ynm, ya, yc, yk⟩ := y
              obtain ⟨x0, x1', x2', x3', x4'⟩ := ex_mid (s := .slice xa xk.length xc) hr1
              obtain ⟨y0, y1', y2', y3', y4'⟩ := ex_mid (s := .slice ya yk.length yc) hr2
              clear hX hall hx hy hx1 hy1 hold hr1 hr2
              go_wp2_with fail
              go_region_with (first
                | (go_at_call 15; refine (HI.out _ (by first | exact hwr | exact below_drN hwr _ | exact Below.drew hwr)).mono ?_; rintro r w3 ⟨rfl, hb3⟩))
              all_goals
                (have hw3 : Below w2.heap.size w2 w3 := by
                  first
                    | exact hb2r.trans (hb3.mono hb2r.size)
                    | exact (below_drN hb2r _).trans (hb3.mono hb2r.size)
                    | exact (Below.drew hb2r).trans (hb3.mono hb2r.size)
                 clear hb3 q4 u4 x0 x1' x2' x3' x4' y0 y1' y2' y3' y4' HI
                 cases Z with
                 | false =>
                   have hRf : R = false := by
                     rw [hR2.out, Bool.eq_false_iff]
                     intro h
                     have := ((samL_iff _ _).1 h).2 i _ _ HX.out.1 HX.out.2
                     rw [← hZ.out] at this
                     cases this
                   clear hZ HX HA HR HB HS
                   go_wp2
                   go_ret
                   exact ⟨by rw [hRf]; rfl, hbw.trans (hw3.mono hbw.size)⟩
                 | true =>
                   go_wp2
                   go_roundw
                   case rel =>
                     refine ⟨i + 1, by go_num, by omega, hw3, fun q u v hq hu hv => ?_⟩
                     by_cases hqi : q = i
                     · subst hqi
                       rw [HX.out.1] at hu
                       rw [HX.out.2] at hv
                       cases hu
                       cases hv
                       exact hZ.out.symm
                     · exact HA.out q u v (by omega) hu hv
                   case measure => simp [intOf]; omega)
            · have hin : i = n := by omega
              have hRt : R = true := by
                rw [hR2.out, samL_iff, List.length_map, List.length_map, ← hn.out, ← hn'.out]
                refine ⟨rfl, fun q u v hu hv => hall q u v ?_ hu hv⟩
                have := (List.getElem?_eq_some_iff.1 hu).1
                rw [List.length_map, ← hn.out] at this
                omega
              clear hX hall hin HR HS HB
              go_wp2
              go_ret
              exact ⟨by rw [hRt]; rfl, hwr⟩
        · have hne : ((n : Int) == (n' : Int)) = false := by rw [beq_eq_false_iff_ne]; omega
          have hRf : R = false := by
            rw [hR2.out, Bool.eq_false_iff]
            intro h
            have := (samL_iff _ _).1 h
            rw [List.length_map, List.length_map, ← hn.out, ← hn'.out] at this
            exact hnn this.1
          clear hnn HR HS HB
          go_wp2_with fail
          go_ret
          exact ⟨by rw [hRf]; rfl, hbw⟩
      · have hs0 : (nm.toList == nm'.toList) = false := by rw [beq_eq_false_iff_ne]; exact hs
        rw [toList_bytes, toList_bytes] at hs
        have hs' : decide (nm.data.toList = nm'.data.toList) = false := decide_eq_false hs
        rw [hs', Bool.false_and] at hR2
        clear hs hs' HR HS HB
        go_wp2_with fail
        go_ret
        exact ⟨by rw [hR2.out]; rfl, hbw⟩
    | false =>
      rw [hV, Bool.false_and] at hR2
      have hq' : ∀ u, (Op.equalIn 10000 40 (.agg #[.int .u8 (t : Int), .int .u64 (b : Int)]) (.agg #[.int .u8 (t' : Int), .int .u64 (b' : Int)])).run Tryz.prog u = .ok false u := fun u => by rw [hq, hV]
      clear hq hd hV HR HS HB
      go_wp2_with fail
      go_ret
      exact ⟨by rw [hR2.out]; rfl, hbw⟩
  · have e0 : ((op : Int) == (op' : Int)) = false := by rw [beq_eq_false_iff_ne]; omega
    have hd : decide (op = op') = false := by simpa using ho
    rw [hd, Bool.false_and] at hR2
    have e1 : ¬ (op : Int) = (op' : Int) := by omega
    clear ho hd hq HR HS HB
    go_wp2_with fail
    all_goals first | (exfalso; apply e1; assumption) | (go_ret; exact ⟨by rw [hR2.out]; rfl, hbw⟩)

theorem kitExpr_any (B : Nat) (M : Nat) : ∀ x : ET, SizeOf.sizeOf x < M → KitEW B x := by
  induction M with
  | zero => intro x h; omega
  | succ M ih =>
    rintro ⟨op, t, b, nm, a, c, ks⟩ hN
    exact kitExpr_of B op t b nm a c ks fun k hk => ih k (by have := ET.sz (op := op) (t := t) (b := b) (c := c) (nm := nm) (a := a) hk; omega)

end Go.Proofs.YtjgggmjjikopeaaGreatDoor

/- How high an expression is: tree.Height and the document's own. -/
namespace Go.Proofs.YtjgggmjjikopeaaGreatDoor
open Go.RowKit
set_option linter.unusedVariables false

mutual
def htX : Ex → Nat
  | .mk _ _ _ _ ks => htL ks + 1
def htL : List Ex → Nat
  | [] => 0
  | e :: r => max (htX e) (htL r)
end
theorem htL_mem : ∀ {l : List Ex} {e : Ex}, e ∈ l → htX e ≤ htL l
  | x :: r, e, h => by
    rw [htL]
    rcases List.mem_cons.1 h with rfl | h
    · omega
    · have := htL_mem h; omega
theorem htL_snoc : ∀ (l : List Ex) (e : Ex), htL (l ++ [e]) = max (htL l) (htX e)
  | [], e => by simp [htL]
  | x :: r, e => by rw [List.cons_append, htL, htL, htL_snoc r e]; omega
theorem htL_take_le : ∀ (l : List Ex) (i : Nat), htL (l.take i) ≤ htL l
  | [], i => by simp
  | x :: r, 0 => by simp [htL]
  | x :: r, i + 1 => by rw [List.take_succ_cons, htL, htL]; have := htL_take_le r i; omega

def HtW (F B : Nat) (x : ET) : Prop := ∀ (w : World), x.In B w → B ≤ w.heap.size → Calls Tryz.prog F #[.agg x.cells.toArray] w fun r w' => r = .returned (.int .i64 (htX x.ex : Int)) ∧ Below w.heap.size w w'

end Go.Proofs.YtjgggmjjikopeaaGreatDoor

/- How high an expression is: tree.Height. -/
namespace Go.Proofs.YtjgggmjjikopeaaGreatDoor
open Go.RowKit
set_option linter.unusedVariables false

set_option maxRecDepth 100000 in
set_option maxHeartbeats 3200000 in
theorem height20_of (B : Nat) (op t b : Nat) (nm : ByteArray) (a : Option Addr) (c : Nat) (ks : List ET) (hS : ∀ k ∈ ks, HtW 142 B k) (hW : htL (ks.map ET.ex) ≤ 1048576) : HtW 142 B (.mk op t b nm a c ks) := by
  intro w hx hBw
  unfold ET.In at hx
  obtain ⟨_, _, _, x1, x2, x3⟩ := hx
  have HR : Hid (RowE B w a c ks) := ⟨x1, x2, x3⟩
  obtain ⟨n, hn⟩ : ∃ n, Hid (n = ks.length) := ⟨_, (rfl : ks.length = _)⟩
  obtain ⟨T, hT⟩ : ∃ T : Nat, Hid (T = htL (ks.map ET.ex)) := ⟨_, (rfl : _ = htL (ks.map ET.ex))⟩
  have hTx : htX (ET.mk op t b nm a c ks).ex = T + 1 := by
    show htX (.mk op t b nm.data.toList (ET.exs ks)) = _
    rw [htX, ET.exs_eq, hT.out]
  rw [hTx]
  have hTl : T ≤ 1048576 := by rw [hT.out]; exact hW
  show Calls Tryz.prog 142 #[.agg (ex5 op t b nm (.slice a ks.length c)).toArray] w _
  rw [← hn.out] at x1 x2 ⊢
  have HS : Hid (∀ k ∈ ks, HtW 142 B k) := hS
  clear x3 hS hTx hW
  go_enter Tryz.func142, Tryz.ntmps142
  go_wp2_with (first
    | ((with_reducible show wpList _ _ _ _ _ _); refine wpList_box_at rfl 43 (.tmp 0) rfl (ex5 op t b nm (.slice a n c)) rfl ?_; intro w1 hA1 hb1 hs1; clear hs1; refine Hid.out ?_))
  refine hidU ?_
  obtain ⟨-, -, -, -, q4⟩ := ex_cells hA1
  clear hA1
  go_wp2_with fail
  clear q4
  go_loopw [3, 9] (fun u j wr => ∃ i : Nat, j = .int .i64 (i : Int) ∧ i ≤ n ∧ Hid ((∃ z : Nat, u = .int .i64 (z : Int) ∧ z = htL ((ks.map ET.ex).take i)) ∧ Below w1.heap.size w1 wr)) (fun u j _ => n - (intOf j).toNat)
  case atStart => exact ⟨0, rfl, by omega, ⟨0, rfl, by simp [htL]⟩, Below.refl _ _⟩
  case round =>
    obtain ⟨i, rfl, hi, hX⟩ := hrel
    obtain ⟨⟨z, rfl, hz⟩, hbr⟩ := hX.out
    have hwr : Below w.heap.size w wr := hb1.trans (hbr.mono hb1.size)
    have hzl : z ≤ 1048576 := by rw [hz]; exact Nat.le_trans (htL_take_le _ _) (by rw [← hT.out]; exact hTl)
    by_cases hc : i < n
    · obtain ⟨x, hx⟩ : ∃ k, ks[i]? = some k := ⟨ks[i]'(by rw [← hn.out]; exact hc), by rw [List.getElem?_eq_getElem]⟩
      have hold : Old B w wr := Old.of_below hwr hBw
      obtain ⟨g1, o1, rfl, hg1, hr1, hx1⟩ := (HR.out.old hold).at i x hx
      have hI := HS.out x (List.mem_of_getElem? hx) wr hx1 (by have := hwr.size; omega)
      obtain ⟨Y, hY⟩ : ∃ Y : Nat, Hid (Y = htX x.ex) := ⟨_, (rfl : _ = htX x.ex)⟩
      have HT1 : Hid (max z Y = htL ((ks.map ET.ex).take (i + 1))) := by
        show _ = _
        rw [List.take_add_one, List.getElem?_map, hx, hz, hY.out]
        exact (htL_snoc _ _).symm
      have HI : Hid (∀ wz, Below wr.heap.size wr wz → Calls Tryz.prog 142 #[.agg x.cells.toArray] wz fun r w' => r = .returned (.int .i64 (Y : Int)) ∧ Below wz.heap.size wz w') := fun wz hz => by
        rw [hY.out]
        exact HS.out x (List.mem_of_getElem? hx) wz (hx1.old (Old.of_below hz (by have := hwr.size; omega))) (by have := hwr.size; have := hz.size; omega)
      clear hX hx hx1 hold hY hI
      go_wp2_with (first
        | ((with_reducible show wpList _ _ _ _ _ _); refine wpList_load_mid (P := Tryz.prog) rfl 43 (.tmp 11) rfl g1 (o1 + i * 5) (by first | rfl | (simp; done)) x.cells _ hr1 Tryz.underlying43 rfl (by rw [ET.cells_len]; exact i29) ?_)
        | ((with_reducible show wpList _ _ _ _ _ _); refine wpList_alloc_at rfl 43 rfl _ 5 z29 ?_; intro w2 hA2 hb2 hs2)
        | ((with_reducible show wpList _ _ _ _ _ _); refine wpList_store_at (P := Tryz.prog) rfl 43 (.tmp 5) (.tmp 12) rfl wr.heap.size x.cells rfl rfl 43 _ hA2 (by rw [ET.cells_len]; exact i29) (by rw [ET.cells_len]; rfl) x.one ?_; intro w4 hA4 hb4 hs4; refine Hid.out ?_))
      refine hidU ?_
      have hB4 : Below wr.heap.size wr w4 := hb4.below hb2 (Nat.le_refl _) (by omega)
      have hI := HI.out w4 hB4
      clear hb4 hb2 hA2 hr1 hs2 hs4 HI
      go_wp2_with (first
        | ((with_reducible show wpList _ _ _ _ _ _); refine wpList_load_at (P := Tryz.prog) rfl 43 (.tmp 5) rfl wr.heap.size rfl 43 x.cells hA4 _ Tryz.underlying43 rfl (by rw [ET.cells_len]; exact i29) ?_))
      refine hI.mono ?_
      rintro r w3 ⟨rfl, hb3⟩
      have hw3 : Below w1.heap.size w1 w3 := hbr.trans ((hB4.trans (hb3.mono hB4.size)).mono hbr.size)
      clear hI hA4 hB4
      go_wp2
      go_roundw
      case rel => exact ⟨i + 1, by go_num, by omega, ⟨max z Y, by first | rfl | (congr 1; omega) | simp, HT1.out⟩, hw3⟩
      case measure => simp [intOf]; omega
    · have hin : i = n := by omega
      have hzT : z = T := by rw [hz, hin, hn.out, hT.out, List.take_of_length_le (by simp)]
      clear hX hz
      go_wp2
      go_ret
      exact ⟨by rw [hzT]; rfl, hwr⟩

theorem height20_any (B : Nat) (M : Nat) : ∀ x : ET, SizeOf.sizeOf x < M → htX x.ex ≤ 1048576 → HtW 142 B x := by
  induction M with
  | zero => intro x h; omega
  | succ M ih =>
    rintro ⟨op, t, b, nm, a, c, ks⟩ hN hW
    have e : (ET.mk op t b nm a c ks).ex = .mk op t b nm.data.toList (ET.exs ks) := rfl
    rw [e, ET.exs_eq, htX] at hW
    refine height20_of B op t b nm a c ks (fun k hk => ih k (by have := ET.sz (op := op) (t := t) (b := b) (c := c) (nm := nm) (a := a) hk; omega) ?_) (by omega)
    have := htL_mem (List.mem_map_of_mem (f := ET.ex) hk)
    omega
end Go.Proofs.YtjgggmjjikopeaaGreatDoor

/- Where expressions lie. -/
namespace Go.Proofs.YtjgggmjjikopeaaGreatDoor
open Go.RowKit
set_option linter.unusedVariables false

mutual
/-- All rows lie in blocks of S. -/
def ET.Lies (S : Nat → Prop) : ET → Prop
  | .mk _ _ _ _ a _ ks => (ks = [] ∨ ∃ g o, a = some ⟨g, o, none⟩ ∧ S g) ∧ ET.LiesL S ks
def ET.LiesL (S : Nat → Prop) : List ET → Prop
  | [] => True
  | e :: r => e.Lies S ∧ ET.LiesL S r
end
mutual
theorem ET.Lies.mono {S S' : Nat → Prop} (hS : ∀ k, S k → S' k) : ∀ {e : ET}, e.Lies S → e.Lies S'
  | .mk _ _ _ _ a _ ks, h => by
    unfold ET.Lies at h ⊢
    refine ⟨?_, ET.LiesL.mono hS h.2⟩
    rcases h.1 with h | ⟨g, o, ha, hg⟩
    · exact .inl h
    · exact .inr ⟨g, o, ha, hS g hg⟩
theorem ET.LiesL.mono {S S' : Nat → Prop} (hS : ∀ k, S k → S' k) : ∀ {l : List ET}, ET.LiesL S l → ET.LiesL S' l
  | [], _ => trivial
  | e :: r, h => by
    unfold ET.LiesL at h ⊢
    exact ⟨ET.Lies.mono hS h.1, ET.LiesL.mono hS h.2⟩
end
mutual
theorem ET.In.stay {B : Nat} {S : Nat → Prop} {w w' : World} (hM : ∀ k, S k → k < B → w'.heap[k]? = w.heap[k]?) : ∀ {e : ET}, e.In B w → e.Lies S → e.In B w'
  | .mk op t b nm a c ks, h, u => by
    unfold ET.In at h ⊢
    unfold ET.Lies at u
    obtain ⟨h1, h2, h3, h4, h5, h6⟩ := h
    refine ⟨h1, h2, h3, h4, h5, ?_⟩
    rcases h6 with h6 | ⟨g, o, ha, hg, hr⟩
    · exact .inl h6
    · rcases u.1 with hk | ⟨g', o', ha', hg'⟩
      · exact .inl hk
      · rw [ha] at ha'
        cases ha'
        exact .inr ⟨g, o, ha, hg, ET.Row.stay hM hg' hg hr u.2⟩
theorem ET.Row.stay {B : Nat} {S : Nat → Prop} {w w' : World} (hM : ∀ k, S k → k < B → w'.heap[k]? = w.heap[k]?) {g : Nat} (hA : S g) (hg : g < B) : ∀ {ks : List ET} {o : Nat}, ET.Row B w g ks o → ET.LiesL S ks → ET.Row B w' g ks o
  | [], o, _, _ => trivial
  | e :: r, o, h, u => by
    unfold ET.Row at h ⊢
    unfold ET.LiesL at u
    refine ⟨fun j v hj => ?_, ET.In.stay hM h.2.1 u.1, ET.Row.stay hM hA hg h.2.2 u.2⟩
    rw [World.cell?_of_block (w := w) (w' := w') (hM g hA hg)]
    exact h.1 j v hj
end
mutual
theorem ET.In.lies {B : Nat} {S : Nat → Prop} {w : World} : ∀ {e : ET}, e.In B w → e.Lies S → e.Lies (fun k => S k ∧ k < B)
  | .mk op t b nm a c ks, h, u => by
    unfold ET.In at h
    unfold ET.Lies at u ⊢
    obtain ⟨h1, h2, h3, h4, h5, h6⟩ := h
    rcases h6 with h6 | ⟨g, o, ha, hg, hr⟩
    · subst h6
      exact ⟨.inl rfl, trivial⟩
    · rcases u.1 with hk | ⟨g', o', ha', hg'⟩
      · subst hk
        exact ⟨.inl rfl, trivial⟩
      · rw [ha] at ha'
        cases ha'
        exact ⟨.inr ⟨g, o, ha, hg', hg⟩, ET.Row.lies hr u.2⟩
theorem ET.Row.lies {B : Nat} {S : Nat → Prop} {w : World} {g : Nat} : ∀ {ks : List ET} {o : Nat}, ET.Row B w g ks o → ET.LiesL S ks → ET.LiesL (fun k => S k ∧ k < B) ks
  | [], o, _, _ => trivial
  | e :: r, o, h, u => by
    unfold ET.Row at h
    unfold ET.LiesL at u ⊢
    exact ⟨ET.In.lies h.2.1 u.1, ET.Row.lies h.2.2 u.2⟩
end
theorem ET.LiesL.of {S : Nat → Prop} : ∀ {l : List ET}, (∀ e ∈ l, e.Lies S) → ET.LiesL S l
  | [], _ => trivial
  | e :: r, h => by unfold ET.LiesL; exact ⟨h e List.mem_cons_self, ET.LiesL.of fun x hx => h x (List.mem_cons_of_mem _ hx)⟩

end Go.Proofs.YtjgggmjjikopeaaGreatDoor

/- Blocks that may be written. -/
namespace Go.Proofs.YtjgggmjjikopeaaGreatDoor
open Go.RowKit
set_option linter.unusedVariables false

/-- A block of cells that may be written, and that is no row of texts. -/
def Soft (w : World) (g : Nat) : Prop := ∃ t cs, At t w g cs ∧ t ≠ 9
theorem Soft.keep {w w' : World} {g : Nat} (h : w'.heap[g]? = w.heap[g]?) (s : Soft w g) : Soft w' g := by
  obtain ⟨t, cs, hA, ht⟩ := s
  exact ⟨t, cs, h.trans hA, ht⟩
theorem at_and {S T : Nat → Prop} {α : Type} {l : List α} {a : Option Addr} (h : l = [] ∨ ∃ g o, a = some ⟨g, o, none⟩ ∧ S g) (k : l = [] ∨ ∃ g o, a = some ⟨g, o, none⟩ ∧ T g) : l = [] ∨ ∃ g o, a = some ⟨g, o, none⟩ ∧ S g ∧ T g := by
  rcases h with h | ⟨g, o, ha, hS⟩
  · exact .inl h
  · rcases k with k | ⟨g', o', ha', hT⟩
    · exact .inl k
    · rw [ha] at ha'
      cases ha'
      exact .inr ⟨g, o, ha, hS, hT⟩
mutual
theorem ET.Lies.and {S T : Nat → Prop} : ∀ {e : ET}, e.Lies S → e.Lies T → e.Lies (fun k => S k ∧ T k)
  | .mk _ _ _ _ a _ ks, h, k => by
    unfold ET.Lies at h k ⊢
    exact ⟨at_and h.1 k.1, ET.LiesL.and h.2 k.2⟩
theorem ET.LiesL.and {S T : Nat → Prop} : ∀ {l : List ET}, ET.LiesL S l → ET.LiesL T l → ET.LiesL (fun k => S k ∧ T k) l
  | [], _, _ => trivial
  | e :: r, h, k => by
    unfold ET.LiesL at h k ⊢
    exact ⟨ET.Lies.and h.1 k.1, ET.LiesL.and h.2 k.2⟩
end
/-- An expression whose rows lie in blocks that may be written. -/
def ET.Sn (B : Nat) (w : World) (y : ET) : Prop := y.In B w ∧ y.Lies (Soft w)
theorem ET.Sn.stay {B : Nat} {S : Nat → Prop} {w w' : World} {e : ET} (hM : ∀ k, S k → k < B → w'.heap[k]? = w.heap[k]?) (h : e.Sn B w) (u : e.Lies S) : e.Sn B w' :=
  ⟨ET.In.stay hM h.1 u, (ET.In.lies h.1 (u.and h.2)).mono fun k hk => hk.1.2.keep (hM k hk.1.1 hk.2)⟩
theorem ET.Sn.up {B C : Nat} {w : World} {e : ET} (hBC : B ≤ C) (h : e.Sn B w) : e.Sn C w := ⟨ET.In.up hBC h.1, h.2⟩
theorem ET.Sn.old {B : Nat} {w w' : World} {e : ET} (hO : Old B w w') (h : e.Sn B w) : e.Sn B w' :=
  ⟨ET.In.old hO h.1, (ET.In.lies h.1 h.2).mono fun k hk => hk.1.keep (hO k hk.2)⟩

end Go.Proofs.YtjgggmjjikopeaaGreatDoor

/- Reading expressions, as plain functions on lists of tokens: by how tight signs bind (the code), by rules (the document); both are one. -/
namespace Go.Proofs.YtjgggmjjikopeaaGreatDoor
set_option linter.unusedVariables false

/-- The token that is next. -/
def hdT : List Tk → Tk
  | [] => ⟨0, [], 0, 0⟩
  | t :: _ => t

/-- What a part of the reader tells: a value and the tokens left, or an error and its place. -/
inductive Rs (α : Type) where
  | ok (v : α) (r : List Tk)
  | bad (e p : Nat)

/-- What a sign of two operands does, and how tight it binds. -/
def bindOf (x : List UInt8) : Nat × Nat :=
  if x = [124, 124] then (3, 1) else if x = [38, 38] then (4, 2)
  else if x = [61, 61] then (5, 3) else if x = [33, 61] then (6, 3) else if x = [60] then (7, 3) else if x = [60, 61] then (8, 3) else if x = [62] then (9, 3) else if x = [62, 61] then (10, 3)
  else if x = [43] then (11, 4) else if x = [45] then (12, 4)
  else if x = [42] then (13, 5) else if x = [47] then (14, 5) else if x = [37] then (15, 5) else (0, 0)

/-- What a sign or word ahead of its one operand does. -/
def openOf (x : List UInt8) : Nat :=
  if x = [45] then 16 else if x = [33] then 17 else if x = [105, 110, 116] then 18 else if x = [114, 101, 97, 108] then 19 else 0

/-- A literal's type and bits. -/
def litTk (t : Tk) : Option (Nat × Nat) :=
  if t.text = [116, 114, 117, 101] then some (2, 1) else if t.text = [102, 97, 108, 115, 101] then some (2, 0)
  else if t.text = [110, 97, 110] then some (3, 9221120237041090560) else if t.text = [105, 110, 102] then some (3, 9218868437227405312)
  else if t.kind = 2 ∨ t.kind = 3 then some (valT t.kind, t.bits) else none

/-- A literal or a name. -/
def leafR (l : List Tk) : Rs Ex :=
  match litTk (hdT l) with
  | some v => .ok (.mk 1 v.1 v.2 [] []) l.tail
  | none => if isNm (hdT l).text then .ok (.mk 2 0 0 (hdT l).text []) l.tail else .bad 4 (hdT l).place

/-- An expression of its operands, refused at its sign, if it is too high. -/
def nodeR (p op : Nat) (ks : List Ex) (r : List Tk) : Rs Ex := if 32 < htX (.mk op 0 0 [] ks) then .bad 160 p else .ok (.mk op 0 0 [] ks) r

/-- This word or sign. -/
def mustR (x : List UInt8) (l : List Tk) : Rs Unit := if (hdT l).text = x then .ok () l.tail else .bad 4 (hdT l).place

/-- How tight the next sign may bind. -/
def mostOf (t : Nat) : Nat := if t = 3 then 2 else t

mutual
/-- Operands and the signs between them that bind at least so tight. -/
def rowF : Nat → Nat → Nat → List Tk → Option (Rs Ex)
  | 0, _, _, _ => none
  | f + 1, least, d, l => match operF f d l with
    | none => none
    | some (.bad e p) => some (.bad e p)
    | some (.ok x r) => loopF f least 5 d x r
def loopF : Nat → Nat → Nat → Nat → Ex → List Tk → Option (Rs Ex)
  | 0, _, _, _, _, _ => none
  | f + 1, least, most, d, x, l =>
    if (bindOf (hdT l).text).2 < least ∨ most < (bindOf (hdT l).text).2 then some (.ok x l)
    else match rowF f ((bindOf (hdT l).text).2 + 1) d l.tail with
      | none => none
      | some (.bad e p) => some (.bad e p)
      | some (.ok y r) => match nodeR (hdT l).place (bindOf (hdT l).text).1 [x, y] r with
        | .bad e p => some (.bad e p)
        | .ok z r => loopF f least (mostOf (bindOf (hdT l).text).2) d z r
/-- What stands between signs of two operands. -/
def operF : Nat → Nat → List Tk → Option (Rs Ex)
  | 0, _, _ => none
  | f + 1, d, l =>
    if openOf (hdT l).text = 0 ∧ (hdT l).text ≠ [40] then some (leafR l)
    else if 32 ≤ d then some (.bad 160 (hdT l).place)
    else if openOf (hdT l).text = 16 ∨ openOf (hdT l).text = 17 then
      match operF f (d + 1) l.tail with
      | none => none
      | some (.bad e p) => some (.bad e p)
      | some (.ok y r) => some (nodeR (hdT l).place (openOf (hdT l).text) [y] r)
    else if openOf (hdT l).text = 0 then brkF f d l
    else match brkF f d l.tail with
      | none => none
      | some (.bad e p) => some (.bad e p)
      | some (.ok y r) => some (nodeR (hdT l).place (openOf (hdT l).text) [y] r)
/-- An expression in round brackets. -/
def brkF : Nat → Nat → List Tk → Option (Rs Ex)
  | 0, _, _ => none
  | f + 1, d, l => match mustR [40] l with
    | .bad e p => some (.bad e p)
    | .ok _ r => match rowF f 1 (d + 1) r with
      | none => none
      | some (.bad e p) => some (.bad e p)
      | some (.ok y r) => match mustR [41] r with
        | .bad e p => some (.bad e p)
        | .ok _ r => some (.ok y r)
end

/-- More rounds tell the same. -/
theorem more (f : Nat) :
    (∀ n d l r, rowF f n d l = some r → rowF (f + 1) n d l = some r) ∧
    (∀ n m d x l r, loopF f n m d x l = some r → loopF (f + 1) n m d x l = some r) ∧
    (∀ d l r, operF f d l = some r → operF (f + 1) d l = some r) ∧
    (∀ d l r, brkF f d l = some r → brkF (f + 1) d l = some r) := by
  induction f with
  | zero => exact ⟨fun n d l r h => by simp [rowF] at h, fun n m d x l r h => by simp [loopF] at h, fun d l r h => by simp [operF] at h, fun d l r h => by simp [brkF] at h⟩
  | succ f ih =>
    obtain ⟨ih1, ih2, ih3, ih4⟩ := ih
    refine ⟨fun n d l r h => ?_, fun n m d x l r h => ?_, fun d l r h => ?_, fun d l r h => ?_⟩
    · rw [rowF] at h ⊢
      cases hc : operF f d l with
      | none => rw [hc] at h; cases h
      | some y =>
        rw [hc] at h
        rw [ih3 d l y hc]
        cases y with
        | bad e p => exact h
        | ok y r' => exact ih2 _ _ _ _ _ _ h
    · rw [loopF] at h ⊢
      split at h
      · next hc => rw [if_pos hc]; exact h
      · next hc =>
        rw [if_neg hc]
        cases hc : rowF f ((bindOf (hdT l).text).2 + 1) d l.tail with
        | none => rw [hc] at h; cases h
        | some y =>
          rw [hc] at h
          rw [ih1 _ _ _ y hc]
          cases y with
          | bad e p => exact h
          | ok y r' =>
            dsimp only at h ⊢
            cases hn : nodeR (hdT l).place (bindOf (hdT l).text).1 [x, y] r' with
            | bad e p => rw [hn] at h; exact h
            | ok z r'' => rw [hn] at h; exact ih2 _ _ _ _ _ _ h
    · rw [operF] at h ⊢
      split at h
      · next hc => rw [if_pos hc]; exact h
      · next hc =>
        rw [if_neg hc]
        split at h
        · next hc => rw [if_pos hc]; exact h
        · next hc =>
          rw [if_neg hc]
          split at h
          · next hc =>
            rw [if_pos hc]
            cases hc : operF f (d + 1) l.tail with
            | none => rw [hc] at h; cases h
            | some y => rw [hc] at h; rw [ih3 _ _ y hc]; exact h
          · next hc =>
            rw [if_neg hc]
            split at h
            · next hc => rw [if_pos hc]; exact ih4 _ _ _ h
            · next hc =>
              rw [if_neg hc]
              cases hc : brkF f d l.tail with
              | none => rw [hc] at h; cases h
              | some y => rw [hc] at h; rw [ih4 _ _ y hc]; exact h
    · rw [brkF] at h ⊢
      cases hm : mustR [40] l with
      | bad e p => rw [hm] at h; exact h
      | ok u r' =>
        rw [hm] at h
        dsimp only at h ⊢
        cases hc : rowF f 1 (d + 1) r' with
        | none => rw [hc] at h; cases h
        | some y => rw [hc] at h; rw [ih1 _ _ _ y hc]; exact h
theorem rowF_le {f g n d l r} (h : rowF f n d l = some r) (hfg : f ≤ g) : rowF g n d l = some r := by
  induction hfg with
  | refl => exact h
  | step _ ih => exact (more _).1 _ _ _ _ ih
theorem loopF_le {f g n m d x l r} (h : loopF f n m d x l = some r) (hfg : f ≤ g) : loopF g n m d x l = some r := by
  induction hfg with
  | refl => exact h
  | step _ ih => exact (more _).2.1 _ _ _ _ _ _ ih
theorem operF_le {f g d l r} (h : operF f d l = some r) (hfg : f ≤ g) : operF g d l = some r := by
  induction hfg with
  | refl => exact h
  | step _ ih => exact (more _).2.2.1 _ _ _ ih
theorem brkF_le {f g d l r} (h : brkF f d l = some r) (hfg : f ≤ g) : brkF g d l = some r := by
  induction hfg with
  | refl => exact h
  | step _ ih => exact (more _).2.2.2 _ _ _ ih

/-- What is told leaves fewer than so many tokens. -/
def Rs.Left {α : Type} (n : Nat) : Rs α → Prop
  | .ok _ r => r.length < n
  | .bad _ _ => True

theorem tail_lt {l : List Tk} (h : (hdT l).text ≠ []) : l.tail.length < l.length := by
  cases l with
  | nil => exact absurd rfl h
  | cons t r => simp

theorem nodeR_left {p op : Nat} {ks : List Ex} {r : List Tk} {n : Nat} (h : r.length < n) : (nodeR p op ks r).Left n := by
  unfold nodeR
  split
  · trivial
  · exact h
theorem leafR_left (l : List Tk) : (leafR l).Left l.length := by
  cases l with
  | nil =>
    have h1 : litTk (hdT []) = none := rfl
    have h2 : isNm (hdT []).text = false := rfl
    unfold leafR
    rw [h1, h2]
    trivial
  | cons t r =>
    unfold leafR
    split
    · simp [Rs.Left]
    · split
      · simp [Rs.Left]
      · trivial
theorem mustR_left {x : List UInt8} {l : List Tk} (hx : x ≠ []) : (mustR x l).Left l.length := by
  unfold mustR
  split
  · next h => exact tail_lt (by rw [h]; exact hx)
  · trivial
theorem bind_nil {l : List Tk} (h : 1 ≤ (bindOf (hdT l).text).2) : (hdT l).text ≠ [] := by
  intro e
  rw [e] at h
  exact absurd h (by decide)
theorem open_nil {l : List Tk} (h : ¬ (openOf (hdT l).text = 0 ∧ (hdT l).text ≠ [40])) : (hdT l).text ≠ [] := by
  intro e
  rw [e] at h
  exact h ⟨by decide, by decide⟩

/-- The reader comes to an end. -/
theorem total (N : Nat) : ∀ l : List Tk, l.length ≤ N →
    (∀ d, ∃ f r, operF f d l = some r ∧ r.Left l.length) ∧
    (∀ d, ∃ f r, brkF f d l = some r ∧ r.Left l.length) ∧
    (∀ n d, 1 ≤ n → ∃ f r, rowF f n d l = some r ∧ r.Left l.length) ∧
    (∀ n m d x, 1 ≤ n → ∃ f r, loopF f n m d x l = some r ∧ r.Left (l.length + 1)) := by
  induction N with
  | zero =>
    intro l hl
    obtain rfl : l = [] := List.eq_nil_of_length_eq_zero (by omega)
    have ho : ∀ d, operF 1 d [] = some (.bad 4 0) := fun d => by rw [operF, if_pos ⟨by decide, by decide⟩]; rfl
    refine ⟨fun d => ⟨1, _, ho d, trivial⟩, fun d => ⟨1, .bad 4 0, by rw [brkF]; rfl, trivial⟩, fun n d _ => ⟨2, .bad 4 0, ?_, trivial⟩, fun n m d x hn => ⟨1, .ok x [], ?_, by simp [Rs.Left]⟩⟩
    · rw [rowF, ho]
    · rw [loopF, if_pos (.inl (by show 0 < n; omega))]
  | succ N ih =>
    intro l hl
    have hB : ∀ d, ∃ f r, brkF f d l = some r ∧ r.Left l.length := by
      intro d
      have hm := mustR_left (x := [40]) (l := l) (by decide)
      cases h1 : mustR [40] l with
      | bad e p => exact ⟨1, .bad e p, by rw [brkF, h1], trivial⟩
      | ok u r =>
        rw [h1] at hm
        have hm : r.length < l.length := hm
        obtain ⟨f, y, hy, hl2⟩ := (ih r (by omega)).2.2.1 1 (d + 1) (Nat.le_refl _)
        cases y with
        | bad e p => exact ⟨f + 1, .bad e p, by rw [brkF, h1]; dsimp only; rw [hy], trivial⟩
        | ok y r2 =>
          have hl2 : r2.length < r.length := hl2
          have hm2 := mustR_left (x := [41]) (l := r2) (by decide)
          cases h2 : mustR [41] r2 with
          | bad e p => exact ⟨f + 1, .bad e p, by rw [brkF, h1]; dsimp only; rw [hy]; dsimp only; rw [h2], trivial⟩
          | ok u r3 =>
            rw [h2] at hm2
            have hm2 : r3.length < r2.length := hm2
            exact ⟨f + 1, .ok y r3, by rw [brkF, h1]; dsimp only; rw [hy]; dsimp only; rw [h2], by show r3.length < _; omega⟩
    have hO : ∀ d, ∃ f r, operF f d l = some r ∧ r.Left l.length := by
      intro d
      by_cases c1 : openOf (hdT l).text = 0 ∧ (hdT l).text ≠ [40]
      · exact ⟨1, leafR l, by rw [operF, if_pos c1], leafR_left l⟩
      · have ht := tail_lt (open_nil c1)
        by_cases c2 : 32 ≤ d
        · exact ⟨1, .bad 160 (hdT l).place, by rw [operF, if_neg c1, if_pos c2], trivial⟩
        · by_cases c3 : openOf (hdT l).text = 16 ∨ openOf (hdT l).text = 17
          · obtain ⟨f, y, hy, hl2⟩ := (ih l.tail (by omega)).1 (d + 1)
            cases y with
            | bad e p => exact ⟨f + 1, .bad e p, by rw [operF, if_neg c1, if_neg c2, if_pos c3, hy], trivial⟩
            | ok y r2 => exact ⟨f + 1, _, by rw [operF, if_neg c1, if_neg c2, if_pos c3, hy], nodeR_left (by have : r2.length < l.tail.length := hl2; omega)⟩
          · by_cases c4 : openOf (hdT l).text = 0
            · obtain ⟨f, y, hy, hl2⟩ := hB d
              exact ⟨f + 1, y, by rw [operF, if_neg c1, if_neg c2, if_neg c3, if_pos c4, hy], hl2⟩
            · obtain ⟨f, y, hy, hl2⟩ := (ih l.tail (by omega)).2.1 d
              cases y with
              | bad e p => exact ⟨f + 1, .bad e p, by rw [operF, if_neg c1, if_neg c2, if_neg c3, if_neg c4, hy], trivial⟩
              | ok y r2 => exact ⟨f + 1, _, by rw [operF, if_neg c1, if_neg c2, if_neg c3, if_neg c4, hy], nodeR_left (by have : r2.length < l.tail.length := hl2; omega)⟩
    refine ⟨hO, hB, fun n d hn => ?_, fun n m d x hn => ?_⟩
    · obtain ⟨f, y, hy, hl2⟩ := hO d
      cases y with
      | bad e p => exact ⟨f + 1, .bad e p, by rw [rowF, hy], trivial⟩
      | ok y r2 =>
        have hl2 : r2.length < l.length := hl2
        obtain ⟨f2, z, hz, hl3⟩ := (ih r2 (by omega)).2.2.2 n 5 d y hn
        refine ⟨max f f2 + 1, z, ?_, ?_⟩
        · rw [rowF, operF_le hy (by omega)]
          exact loopF_le hz (by omega)
        · cases z with
          | bad e p => trivial
          | ok z r3 => show r3.length < _; have : r3.length < r2.length + 1 := hl3; omega
    · by_cases c1 : (bindOf (hdT l).text).2 < n ∨ m < (bindOf (hdT l).text).2
      · exact ⟨1, .ok x l, by rw [loopF, if_pos c1], by simp [Rs.Left]⟩
      · have ht := tail_lt (bind_nil (l := l) (by omega))
        obtain ⟨f, y, hy, hl2⟩ := (ih l.tail (by omega)).2.2.1 ((bindOf (hdT l).text).2 + 1) d (by omega)
        cases y with
        | bad e p => exact ⟨f + 1, .bad e p, by rw [loopF, if_neg c1, hy], trivial⟩
        | ok y r2 =>
          have hl2 : r2.length < l.tail.length := hl2
          cases hn2 : nodeR (hdT l).place (bindOf (hdT l).text).1 [x, y] r2 with
          | bad e p => exact ⟨f + 1, .bad e p, by rw [loopF, if_neg c1, hy]; dsimp only; rw [hn2], trivial⟩
          | ok z r3 =>
            have h3 : r3 = r2 := by
              unfold nodeR at hn2
              split at hn2
              · cases hn2
              · cases hn2; rfl
            subst h3
            obtain ⟨f2, u, hu, hl4⟩ := (ih r3 (by omega)).2.2.2 n (mostOf (bindOf (hdT l).text).2) d z hn
            refine ⟨max f f2 + 1, u, ?_, ?_⟩
            · rw [loopF, if_neg c1, rowF_le hy (show f ≤ max f f2 by omega)]
              dsimp only
              rw [hn2]
              exact loopF_le hu (by omega)
            · cases u with
              | bad e p => trivial
              | ok u r5 => show r5.length < _; have : r5.length < r3.length + 1 := hl4; omega

theorem row_one {f g n d l r s} (h : rowF f n d l = some r) (k : rowF g n d l = some s) : r = s := by
  have h1 := rowF_le h (show f ≤ max f g by omega)
  have h2 := rowF_le k (show g ≤ max f g by omega)
  rw [h1] at h2
  exact Option.some.inj h2
mutual
/-- An expression of a rule of the document (0: or .. 4: product; above: unary). -/
def ruleF : Nat → Nat → Nat → List Tk → Option (Rs Ex)
  | 0, _, _, _ => none
  | f + 1, n, d, l => if 4 < n then unF f d l else match ruleF f (n + 1) d l with
    | none => none
    | some (.bad e p) => some (.bad e p)
    | some (.ok x r) => lpF f n d x r
def lpF : Nat → Nat → Nat → Ex → List Tk → Option (Rs Ex)
  | 0, _, _, _, _ => none
  | f + 1, n, d, x, l =>
    if (bindOf (hdT l).text).2 ≠ n + 1 then some (.ok x l)
    else match ruleF f (n + 1) d l.tail with
      | none => none
      | some (.bad e p) => some (.bad e p)
      | some (.ok y r) => match nodeR (hdT l).place (bindOf (hdT l).text).1 [x, y] r with
        | .bad e p => some (.bad e p)
        | .ok z r => if n = 2 then some (.ok z r) else lpF f n d z r
def unF : Nat → Nat → List Tk → Option (Rs Ex)
  | 0, _, _ => none
  | f + 1, d, l =>
    if openOf (hdT l).text = 0 ∧ (hdT l).text ≠ [40] then some (leafR l)
    else if 32 ≤ d then some (.bad 160 (hdT l).place)
    else if openOf (hdT l).text = 16 ∨ openOf (hdT l).text = 17 then
      match unF f (d + 1) l.tail with
      | none => none
      | some (.bad e p) => some (.bad e p)
      | some (.ok y r) => some (nodeR (hdT l).place (openOf (hdT l).text) [y] r)
    else if openOf (hdT l).text = 0 then bkF f d l
    else match bkF f d l.tail with
      | none => none
      | some (.bad e p) => some (.bad e p)
      | some (.ok y r) => some (nodeR (hdT l).place (openOf (hdT l).text) [y] r)
def bkF : Nat → Nat → List Tk → Option (Rs Ex)
  | 0, _, _ => none
  | f + 1, d, l => match mustR [40] l with
    | .bad e p => some (.bad e p)
    | .ok _ r => match ruleF f 0 (d + 1) r with
      | none => none
      | some (.bad e p) => some (.bad e p)
      | some (.ok y r) => match mustR [41] r with
        | .bad e p => some (.bad e p)
        | .ok _ r => some (.ok y r)
end

theorem more2 (f : Nat) :
    (∀ n d l r, ruleF f n d l = some r → ruleF (f + 1) n d l = some r) ∧
    (∀ n d x l r, lpF f n d x l = some r → lpF (f + 1) n d x l = some r) ∧
    (∀ d l r, unF f d l = some r → unF (f + 1) d l = some r) ∧
    (∀ d l r, bkF f d l = some r → bkF (f + 1) d l = some r) := by
  induction f with
  | zero => exact ⟨fun n d l r h => by simp [ruleF] at h, fun n d x l r h => by simp [lpF] at h, fun d l r h => by simp [unF] at h, fun d l r h => by simp [bkF] at h⟩
  | succ f ih =>
    obtain ⟨ih1, ih2, ih3, ih4⟩ := ih
    refine ⟨fun n d l r h => ?_, fun n d x l r h => ?_, fun d l r h => ?_, fun d l r h => ?_⟩
    · rw [ruleF] at h ⊢
      split at h
      · next hc => rw [if_pos hc]; exact ih3 _ _ _ h
      · next hc =>
        rw [if_neg hc]
        cases hc : ruleF f (n + 1) d l with
        | none => rw [hc] at h; cases h
        | some y =>
          rw [hc] at h
          rw [ih1 _ _ _ y hc]
          cases y with
          | bad e p => exact h
          | ok y r' => exact ih2 _ _ _ _ _ h
    · rw [lpF] at h ⊢
      split at h
      · next hc => rw [if_pos hc]; exact h
      · next hc =>
        rw [if_neg hc]
        cases hc : ruleF f (n + 1) d l.tail with
        | none => rw [hc] at h; cases h
        | some y =>
          rw [hc] at h
          rw [ih1 _ _ _ y hc]
          cases y with
          | bad e p => exact h
          | ok y r' =>
            dsimp only at h ⊢
            cases hn : nodeR (hdT l).place (bindOf (hdT l).text).1 [x, y] r' with
            | bad e p => rw [hn] at h; exact h
            | ok z r'' =>
              rw [hn] at h
              dsimp only at h ⊢
              split at h
              · next hc => rw [if_pos hc]; exact h
              · next hc => rw [if_neg hc]; exact ih2 _ _ _ _ _ h
    · rw [unF] at h ⊢
      split at h
      · next hc => rw [if_pos hc]; exact h
      · next hc =>
        rw [if_neg hc]
        split at h
        · next hc => rw [if_pos hc]; exact h
        · next hc =>
          rw [if_neg hc]
          split at h
          · next hc =>
            rw [if_pos hc]
            cases hc : unF f (d + 1) l.tail with
            | none => rw [hc] at h; cases h
            | some y => rw [hc] at h; rw [ih3 _ _ y hc]; exact h
          · next hc =>
            rw [if_neg hc]
            split at h
            · next hc => rw [if_pos hc]; exact ih4 _ _ _ h
            · next hc =>
              rw [if_neg hc]
              cases hc : bkF f d l.tail with
              | none => rw [hc] at h; cases h
              | some y => rw [hc] at h; rw [ih4 _ _ y hc]; exact h
    · rw [bkF] at h ⊢
      cases hm : mustR [40] l with
      | bad e p => rw [hm] at h; exact h
      | ok u r' =>
        rw [hm] at h
        dsimp only at h ⊢
        cases hc : ruleF f 0 (d + 1) r' with
        | none => rw [hc] at h; cases h
        | some y => rw [hc] at h; rw [ih1 _ _ _ y hc]; exact h
theorem ruleF_le {f g n d l r} (h : ruleF f n d l = some r) (hfg : f ≤ g) : ruleF g n d l = some r := by
  induction hfg with
  | refl => exact h
  | step _ ih => exact (more2 _).1 _ _ _ _ ih
theorem lpF_le {f g n d x l r} (h : lpF f n d x l = some r) (hfg : f ≤ g) : lpF g n d x l = some r := by
  induction hfg with
  | refl => exact h
  | step _ ih => exact (more2 _).2.1 _ _ _ _ _ ih

def RU (n d : Nat) (l : List Tk) (r : Rs Ex) : Prop := ∃ f, ruleF f n d l = some r
def LP (n d : Nat) (x : Ex) (l : List Tk) (r : Rs Ex) : Prop := ∃ f, lpF f n d x l = some r
theorem RU.of {n d : Nat} {l : List Tk} {r1 r : Rs Ex} (hn : n ≤ 4) (h : RU (n + 1) d l r1) (k : match r1 with | .bad e p => r = .bad e p | .ok y k => LP n d y k r) : RU n d l r := by
  obtain ⟨f, h⟩ := h
  cases r1 with
  | bad e p =>
    cases k
    exact ⟨f + 1, by rw [ruleF, if_neg (by omega), h]⟩
  | ok y k' =>
    obtain ⟨g, k⟩ := k
    refine ⟨max f g + 1, ?_⟩
    rw [ruleF, if_neg (by omega), ruleF_le h (by omega)]
    exact lpF_le k (by omega)
theorem LP.step {n d : Nat} {x : Ex} {l : List Tk} {r1 r : Rs Ex} (ht : (bindOf (hdT l).text).2 = n + 1) (h : RU (n + 1) d l.tail r1)
    (k : match r1 with
      | .bad e p => r = .bad e p
      | .ok y k => match nodeR (hdT l).place (bindOf (hdT l).text).1 [x, y] k with
        | .bad e p => r = .bad e p
        | .ok z k => if n = 2 then r = .ok z k else LP n d z k r) : LP n d x l r := by
  obtain ⟨f, h⟩ := h
  cases r1 with
  | bad e p =>
    cases k
    exact ⟨f + 1, by rw [lpF, if_neg (by omega), h]⟩
  | ok y k' =>
    dsimp only at k
    cases hn : nodeR (hdT l).place (bindOf (hdT l).text).1 [x, y] k' with
    | bad e p =>
      rw [hn] at k
      cases k
      exact ⟨f + 1, by rw [lpF, if_neg (by omega), h]; dsimp only; rw [hn]⟩
    | ok z k2 =>
      rw [hn] at k
      dsimp only at k
      split at k
      · next h2 =>
        cases k
        exact ⟨f + 1, by rw [lpF, if_neg (by omega), h]; dsimp only; rw [hn]; dsimp only; rw [if_pos h2]⟩
      · next h2 =>
        obtain ⟨g, k⟩ := k
        refine ⟨max f g + 1, ?_⟩
        rw [lpF, if_neg (by omega), ruleF_le h (show f ≤ max f g by omega)]
        dsimp only
        rw [hn]
        dsimp only
        rw [if_neg h2]
        exact lpF_le k (by omega)
theorem bind_le (x : List UInt8) : (bindOf x).2 ≤ 5 := by
  have go : ∀ (c : Prop) [Decidable c] (a b : Nat × Nat), a.2 ≤ 5 → b.2 ≤ 5 → (if c then a else b).2 ≤ 5 := fun c _ a b h1 h2 => by
    by_cases h : c
    · rw [if_pos h]; exact h1
    · rw [if_neg h]; exact h2
  unfold bindOf
  repeat' (first | exact (by decide : (5 : Nat) ≤ 5) | apply go)
  all_goals exact Nat.le_of_ble_eq_true rfl

end Go.Proofs.YtjgggmjjikopeaaGreatDoor

/- What a sign or a word does. -/
namespace Go.Proofs.YtjgggmjjikopeaaGreatDoor
open Go.RowKit
set_option linter.unusedVariables false

theorem ne_bytes {s : ByteArray} {l : List UInt8} (h : ¬ bytes s = l) : (s.toList == l) = false := by rw [toList_bytes, beq_eq_false_iff_ne]; exact h
set_option maxRecDepth 100000 in
set_option maxHeartbeats 3200000 in
theorem binds_any (s : ByteArray) (w : World) : Calls Tryz.prog 108 #[.string s] w fun r w' => r = .returned (.tuple #[.int .u8 ((bindOf (bytes s)).1 : Int), .int .i64 ((bindOf (bytes s)).2 : Int)]) ∧ w' = w := by
  by_cases h0 : bytes s = [124, 124]
  · have hs : s = ⟨#[124, 124]⟩ := by rw [mk_bytes s, h0]
    clear h0
    subst hs
    go_enter Tryz.func108, Tryz.ntmps108
    go_wp2
    go_ret2
    exact ⟨rfl, rfl⟩
  have n0 := ne_bytes h0
  by_cases h1 : bytes s = [38, 38]
  · have hs : s = ⟨#[38, 38]⟩ := by rw [mk_bytes s, h1]
    clear n0 h0
    clear h1
    subst hs
    go_enter Tryz.func108, Tryz.ntmps108
    go_wp2
    go_ret2
    exact ⟨rfl, rfl⟩
  have n1 := ne_bytes h1
  by_cases h2 : bytes s = [61, 61]
  · have hs : s = ⟨#[61, 61]⟩ := by rw [mk_bytes s, h2]
    clear n0 h0
    clear n1 h1
    clear h2
    subst hs
    go_enter Tryz.func108, Tryz.ntmps108
    go_wp2
    go_ret2
    exact ⟨rfl, rfl⟩
  have n2 := ne_bytes h2
  by_cases h3 : bytes s = [33, 61]
  · have hs : s = ⟨#[33, 61]⟩ := by rw [mk_bytes s, h3]
    clear n0 h0
    clear n1 h1
    clear n2 h2
    clear h3
    subst hs
    go_enter Tryz.func108, Tryz.ntmps108
    go_wp2
    go_ret2
    exact ⟨rfl, rfl⟩
  have n3 := ne_bytes h3
  by_cases h4 : bytes s = [60]
  · have hs : s = ⟨#[60]⟩ := by rw [mk_bytes s, h4]
    clear n0 h0
    clear n1 h1
    clear n2 h2
    clear n3 h3
    clear h4
    subst hs
    go_enter Tryz.func108, Tryz.ntmps108
    go_wp2
    go_ret2
    exact ⟨rfl, rfl⟩
  have n4 := ne_bytes h4
  by_cases h5 : bytes s = [60, 61]
  · have hs : s = ⟨#[60, 61]⟩ := by rw [mk_bytes s, h5]
    clear n0 h0
    clear n1 h1
    clear n2 h2
    clear n3 h3
    clear n4 h4
    clear h5
    subst hs
    go_enter Tryz.func108, Tryz.ntmps108
    go_wp2
    go_ret2
    exact ⟨rfl, rfl⟩
  have n5 := ne_bytes h5
  by_cases h6 : bytes s = [62]
  · have hs : s = ⟨#[62]⟩ := by rw [mk_bytes s, h6]
    clear n0 h0
    clear n1 h1
    clear n2 h2
    clear n3 h3
    clear n4 h4
    clear n5 h5
    clear h6
    subst hs
    go_enter Tryz.func108, Tryz.ntmps108
    go_wp2
    go_ret2
    exact ⟨rfl, rfl⟩
  have n6 := ne_bytes h6
  by_cases h7 : bytes s = [62, 61]
  · have hs : s = ⟨#[62, 61]⟩ := by rw [mk_bytes s, h7]
    clear n0 h0
    clear n1 h1
    clear n2 h2
    clear n3 h3
    clear n4 h4
    clear n5 h5
    clear n6 h6
    clear h7
    subst hs
    go_enter Tryz.func108, Tryz.ntmps108
    go_wp2
    go_ret2
    exact ⟨rfl, rfl⟩
  have n7 := ne_bytes h7
  by_cases h8 : bytes s = [43]
  · have hs : s = ⟨#[43]⟩ := by rw [mk_bytes s, h8]
    clear n0 h0
    clear n1 h1
    clear n2 h2
    clear n3 h3
    clear n4 h4
    clear n5 h5
    clear n6 h6
    clear n7 h7
    clear h8
    subst hs
    go_enter Tryz.func108, Tryz.ntmps108
    go_wp2
    go_ret2
    exact ⟨rfl, rfl⟩
  have n8 := ne_bytes h8
  by_cases h9 : bytes s = [45]
  · have hs : s = ⟨#[45]⟩ := by rw [mk_bytes s, h9]
    clear n0 h0
    clear n1 h1
    clear n2 h2
    clear n3 h3
    clear n4 h4
    clear n5 h5
    clear n6 h6
    clear n7 h7
    clear n8 h8
    clear h9
    subst hs
    go_enter Tryz.func108, Tryz.ntmps108
    go_wp2
    go_ret2
    exact ⟨rfl, rfl⟩
  have n9 := ne_bytes h9
  by_cases h10 : bytes s = [42]
  · have hs : s = ⟨#[42]⟩ := by rw [mk_bytes s, h10]
    clear n0 h0
    clear n1 h1
    clear n2 h2
    clear n3 h3
    clear n4 h4
    clear n5 h5
    clear n6 h6
    clear n7 h7
    clear n8 h8
    clear n9 h9
    clear h10
    subst hs
    go_enter Tryz.func108, Tryz.ntmps108
    go_wp2
    go_ret2
    exact ⟨rfl, rfl⟩
  have n10 := ne_bytes h10
  by_cases h11 : bytes s = [47]
  · have hs : s = ⟨#[47]⟩ := by rw [mk_bytes s, h11]
    clear n0 h0
    clear n1 h1
    clear n2 h2
    clear n3 h3
    clear n4 h4
    clear n5 h5
    clear n6 h6
    clear n7 h7
    clear n8 h8
    clear n9 h9
    clear n10 h10
    clear h11
    subst hs
    go_enter Tryz.func108, Tryz.ntmps108
    go_wp2
    go_ret2
    exact ⟨rfl, rfl⟩
  have n11 := ne_bytes h11
  by_cases h12 : bytes s = [37]
  · have hs : s = ⟨#[37]⟩ := by rw [mk_bytes s, h12]
    clear n0 h0
    clear n1 h1
    clear n2 h2
    clear n3 h3
    clear n4 h4
    clear n5 h5
    clear n6 h6
    clear n7 h7
    clear n8 h8
    clear n9 h9
    clear n10 h10
    clear n11 h11
    clear h12
    subst hs
    go_enter Tryz.func108, Tryz.ntmps108
    go_wp2
    go_ret2
    exact ⟨rfl, rfl⟩
  have n12 := ne_bytes h12
  have e : bindOf (bytes s) = (0, 0) := by unfold bindOf; rw [if_neg h0, if_neg h1, if_neg h2, if_neg h3, if_neg h4, if_neg h5, if_neg h6, if_neg h7, if_neg h8, if_neg h9, if_neg h10, if_neg h11, if_neg h12]
  rw [e]
  clear h0 h1 h2 h3 h4 h5 h6 h7 h8 h9 h10 h11 h12 e
  go_enter Tryz.func108, Tryz.ntmps108
  go_wp2
  go_ret2
  exact ⟨rfl, rfl⟩

set_option maxRecDepth 100000 in
set_option maxHeartbeats 3200000 in
theorem opens_any (s : ByteArray) (w : World) : Calls Tryz.prog 139 #[.string s] w fun r w' => r = .returned (.int .u8 (openOf (bytes s) : Int)) ∧ w' = w := by
  by_cases h0 : bytes s = [45]
  · have hs : s = ⟨#[45]⟩ := by rw [mk_bytes s, h0]
    clear h0
    subst hs
    go_enter Tryz.func139, Tryz.ntmps139
    go_wp2
    go_ret
    exact ⟨rfl, rfl⟩
  have n0 := ne_bytes h0
  by_cases h1 : bytes s = [33]
  · have hs : s = ⟨#[33]⟩ := by rw [mk_bytes s, h1]
    clear n0 h0
    clear h1
    subst hs
    go_enter Tryz.func139, Tryz.ntmps139
    go_wp2
    go_ret
    exact ⟨rfl, rfl⟩
  have n1 := ne_bytes h1
  by_cases h2 : bytes s = [105, 110, 116]
  · have hs : s = ⟨#[105, 110, 116]⟩ := by rw [mk_bytes s, h2]
    clear n0 h0
    clear n1 h1
    clear h2
    subst hs
    go_enter Tryz.func139, Tryz.ntmps139
    go_wp2
    go_ret
    exact ⟨rfl, rfl⟩
  have n2 := ne_bytes h2
  by_cases h3 : bytes s = [114, 101, 97, 108]
  · have hs : s = ⟨#[114, 101, 97, 108]⟩ := by rw [mk_bytes s, h3]
    clear n0 h0
    clear n1 h1
    clear n2 h2
    clear h3
    subst hs
    go_enter Tryz.func139, Tryz.ntmps139
    go_wp2
    go_ret
    exact ⟨rfl, rfl⟩
  have n3 := ne_bytes h3
  have e : openOf (bytes s) = 0 := by unfold openOf; rw [if_neg h0, if_neg h1, if_neg h2, if_neg h3]
  rw [e]
  clear h0 h1 h2 h3 e
  go_enter Tryz.func139, Tryz.ntmps139
  go_wp2
  go_ret
  exact ⟨rfl, rfl⟩

end Go.Proofs.YtjgggmjjikopeaaGreatDoor
