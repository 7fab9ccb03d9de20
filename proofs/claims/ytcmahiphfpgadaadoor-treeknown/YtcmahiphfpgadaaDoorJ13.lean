/- Joined texts of the proof. -/
import Derived.Shelf.Small.Wraps
import Derived.Shelf.Strconv.Itoa0
import Derived.Shelf.Strconv.Itoa1
import Derived.Shelf.LaysM
import Derived.Shelf.Strconv.Itoa2
import Derived.Shelf.Strconv.Itoa3
import Derived.Shelf.Strconv.Itoa4
import Derived.Shelf.Strings.Prefix
import Derived.Test.YtcmahiphfpgadaaDoorProg
import Derived.Test.YtcmahiphfpgadaaDoorJ11
import Derived.Test.YtcmahiphfpgadaaDoorJ12
import Derived.Test.YtcmahiphfpgadaaDoorJ2

/-
  DERIVED: THE SHELF's CONTRACTS AT THIS DUMP, IN PLAIN WORDS (tools/lay-plain.mjs out of 'YtcmahiphfpgadaaDoorShelf.lean', which tools/lay-shelf.mjs wrote): THE SAME DECLARATIONS UNDER THE SAME NAMES: 'import', 'namespace', 'open', 'def', 'theorem' AND NOTHING ELSE: no command of the shelf's: FOR A HAND-IN. Each laying: the table of numbers ('.._ren') and one theorem, a field a fact of the dump's own or the kernel's comparison; each contract: ONE APPLICATION.
-/
namespace Go.Proofs
open Go.Shelf
def Tryd.lays121_ren : Go.Shelf.Ren := ⟨fun | 121 => 26 | 214 => 41 | n => n, fun | 4 => 4 | 9 => 9 | n => n, fun | n => n⟩
theorem Tryd.lays121 : Go.Proofs.Lays.n121 Tryd.prog Tryd.lays121_ren := {
  mixed := by kernel_rfl
  f121 := Tryd.func26.trans (congrArg some (by kernel_rfl))
  f214 := Tryd.func41.trans (congrArg some (by kernel_rfl))
  t4 := Tryd.underlying4
  a4 := Tryd.isAgg4
  z4 := Tryd.sizeOf4
  v4 := Tryd.zeroValue4
  t9 := Tryd.underlying9
  a9 := Tryd.isAgg9
  z9 := Tryd.sizeOf9
  v9 := Tryd.zeroValue9 }
open Go.RowKit in
/-- strconv.FormatBool: "FormatBool returns "true" or "false" according to the value of b.": IT RETURNS 'Lib.formatBool b'; the world is as it was. (LAID: no walk: one application.) -/
theorem Tryd.strconv_FormatBool (b : Bool) (w : World) :
    Calls Tryd.prog 26 #[.bool b] w fun e w' => e = .returned (.string ⟨(Lib.formatBool b).toArray⟩) ∧ w' = w := Any.strconv_FormatBool Tryd.lays121 b w
def Tryd.laysM173_ren : Go.Shelf.Ren := ⟨fun | 173 => 25 | 246 => 40 | 283 => 57 | 284 => 58 | 285 => 59 | 286 => 60 | 129 => 70 | 317 => 69 | 318 => 71 | 319 => 72 | 320 => 73 | 337 => 78 | 338 => 79 | n => n, fun | 2 => 2 | 3 => 3 | 9 => 9 | 4 => 4 | 171 => 103 | 0 => 0 | 53 => 24 | 37 => 50 | 5 => 5 | 173 => 106 | 212 => 119 | 51 => 120 | 20 => 20 | 213 => 121 | 46 => 114 | 232 => 129 | 233 => 130 | n => n, fun | 17 => 0 | 18 => 2 | 19 => 3 | n => n⟩
theorem Tryd.laysM173 : Go.Proofs.LaysM.n173 Tryd.prog Tryd.laysM173_ren := {
  mixed := by kernel_rfl
  f129 := Tryd.func70.trans (congrArg some (by kernel_rfl))
  f173 := Tryd.func25.trans (congrArg some (by kernel_rfl))
  f246 := Tryd.func40.trans (congrArg some (by kernel_rfl))
  f283 := Tryd.func57.trans (congrArg some (by kernel_rfl))
  f284 := Tryd.func58.trans (congrArg some (by kernel_rfl))
  f285 := Tryd.func59.trans (congrArg some (by kernel_rfl))
  f286 := Tryd.func60.trans (congrArg some (by kernel_rfl))
  f317 := Tryd.func69.trans (congrArg some (by kernel_rfl))
  f318 := Tryd.func71.trans (congrArg some (by kernel_rfl))
  f319 := Tryd.func72.trans (congrArg some (by kernel_rfl))
  f320 := Tryd.func73.trans (congrArg some (by kernel_rfl))
  f337 := Tryd.func78.trans (congrArg some (by kernel_rfl))
  f338 := Tryd.func79.trans (congrArg some (by kernel_rfl))
  t0 := Tryd.underlying0
  a0 := Tryd.isAgg0
  z0 := Tryd.sizeOf0
  v0 := Tryd.zeroValue0
  t2 := Tryd.underlying2
  a2 := Tryd.isAgg2
  z2 := Tryd.sizeOf2
  v2 := Tryd.zeroValue2
  t3 := Tryd.underlying3
  a3 := Tryd.isAgg3
  z3 := Tryd.sizeOf3
  v3 := Tryd.zeroValue3
  t4 := Tryd.underlying4
  a4 := Tryd.isAgg4
  z4 := Tryd.sizeOf4
  v4 := Tryd.zeroValue4
  t5 := Tryd.underlying5
  a5 := Tryd.isAgg5
  z5 := Tryd.sizeOf5
  v5 := Tryd.zeroValue5
  t9 := Tryd.underlying9
  a9 := Tryd.isAgg9
  z9 := Tryd.sizeOf9
  v9 := Tryd.zeroValue9
  t20 := Tryd.underlying20
  a20 := Tryd.isAgg20
  z20 := Tryd.sizeOf20
  v20 := Tryd.zeroValue20
  t37 := Tryd.underlying50
  a37 := Tryd.isAgg50
  z37 := Tryd.sizeOf50
  v37 := Tryd.zeroValue50
  t46 := Tryd.underlying114
  a46 := Tryd.isAgg114
  z46 := Tryd.sizeOf114
  v46 := Tryd.zeroValue114
  t51 := Tryd.underlying120
  a51 := Tryd.isAgg120
  z51 := Tryd.sizeOf120
  v51 := Tryd.zeroValue120
  t53 := Tryd.underlying24
  a53 := Tryd.isAgg24
  z53 := Tryd.sizeOf24
  v53 := Tryd.zeroValue24
  t171 := Tryd.underlying103
  a171 := Tryd.isAgg103
  z171 := Tryd.sizeOf103
  v171 := Tryd.zeroValue103
  t173 := Tryd.underlying106
  a173 := Tryd.isAgg106
  z173 := Tryd.sizeOf106
  v173 := Tryd.zeroValue106
  t212 := Tryd.underlying119
  a212 := Tryd.isAgg119
  z212 := Tryd.sizeOf119
  v212 := Tryd.zeroValue119
  t213 := Tryd.underlying121
  a213 := Tryd.isAgg121
  z213 := Tryd.sizeOf121
  t232 := Tryd.underlying129
  a232 := Tryd.isAgg129
  z232 := Tryd.sizeOf129
  v232 := Tryd.zeroValue129
  t233 := Tryd.underlying130
  a233 := Tryd.isAgg130
  z233 := Tryd.sizeOf130
  v233 := Tryd.zeroValue130
  g17 := by kernel_rfl
  g18 := by kernel_rfl
  g19 := by kernel_rfl
  i0 := by kernel_rfl
  i2 := by kernel_rfl
  i3 := by kernel_rfl
  i4 := by kernel_rfl
  i5 := by kernel_rfl
  i9 := by kernel_rfl
  i20 := by kernel_rfl
  i37 := by kernel_rfl
  i46 := by kernel_rfl
  i51 := by kernel_rfl
  i53 := by kernel_rfl
  i171 := by kernel_rfl
  i173 := by kernel_rfl
  i212 := by kernel_rfl
  i232 := by kernel_rfl
  i233 := by kernel_rfl
  m17 := by kernel_rfl
  m18 := by kernel_rfl
  m19 := by kernel_rfl }
open Go.RowKit Go.Sort Go.Lib in
/-- strconv.FormatInt: "FormatInt returns the string representation of i in the given base": AT BASE 10: i's decimal numeral, for every int64. (LAID: no walk: one application.) -/
theorem Tryd.strconv_FormatInt_10 (n : Int) (h0 : -9223372036854775808 ≤ n) (h1 : n ≤ 9223372036854775807) (w : World) (htab : Lib.TabIs Tryd.prog w "internal/strconv.uint64pow10" .u64 Lib.pow10Tab) :
    Calls Tryd.prog 25 #[.int .i64 n, .int .i64 10] w fun e w' => e = .returned (.string ⟨(Lib.itoa n).toArray⟩) ∧ ∃ k os, w' = grow (w.drewN k) os := Any.strconv_FormatInt_10 Tryd.laysM173 n h0 h1 w htab
def Tryd.lays99_ren : Go.Shelf.Ren := ⟨fun | 99 => 29 | 206 => 47 | n => n, fun | 9 => 9 | 4 => 4 | 3 => 3 | n => n, fun | n => n⟩
theorem Tryd.lays99 : Go.Proofs.Lays.n99 Tryd.prog Tryd.lays99_ren := {
  mixed := by kernel_rfl
  f99 := Tryd.func29.trans (congrArg some (by kernel_rfl))
  f206 := Tryd.func47.trans (congrArg some (by kernel_rfl))
  t3 := Tryd.underlying3
  a3 := Tryd.isAgg3
  z3 := Tryd.sizeOf3
  v3 := Tryd.zeroValue3
  t4 := Tryd.underlying4
  a4 := Tryd.isAgg4
  z4 := Tryd.sizeOf4
  v4 := Tryd.zeroValue4
  t9 := Tryd.underlying9
  a9 := Tryd.isAgg9
  z9 := Tryd.sizeOf9
  v9 := Tryd.zeroValue9 }
open Go.RowKit Go.Lib in
/-- strings.HasPrefix: "HasPrefix reports whether the string s begins with prefix.": IT RETURNS 'Lib.hasPrefix s prefix'; the world is as it was. (LAID: no walk: one application.) -/
theorem Tryd.strings_HasPrefix (s p : ByteArray) (w : World) :
    Calls Tryd.prog 29 #[.string s, .string p] w fun e w' => e = .returned (.bool (Lib.hasPrefix s.data.toList p.data.toList)) ∧ w' = w := Any.strings_HasPrefix Tryd.lays99 s p w
end Go.Proofs

/- Values' texts. -/
namespace Go.Proofs.YtcmahiphfpgadaaDoor
open Go.RowKit
set_option linter.unusedVariables false

/-- The table of powers is laid. -/
def Tab (w : World) : Prop := Lib.TabIs Tryd.prog w "internal/strconv.uint64pow10" .u64 Lib.pow10Tab

/-- The package variables lie in the first blocks. -/
def gB : Nat := 4

theorem Tab.below {B : Nat} {w w' : World} (h : Tab w) (hb : Below B w w') (hB : gB ≤ B) : Tab w' := by
  unfold Tab Lib.TabIs World.var? at *
  obtain ⟨g, hg, hx⟩ := Option.bind_eq_some_iff.1 h
  have hgl : g < gB := by
    have : Tryd.prog.globalNamed "internal/strconv.uint64pow10" = some g := hg
    have h2 : (Tryd.prog.globalNamed "internal/strconv.uint64pow10").all (fun g => decide (g < gB)) = true := by kernel_rfl
    rw [this] at h2
    simpa using h2
  rw [hg, Option.bind_some, hb.block g (by omega)]
  exact hx

theorem below_grow (w : World) (k : Nat) (os : Array Obj) : Below w.heap.size w (Sort.grow (w.drewN k) os) :=
  ⟨rfl, rfl, rfl, by simp [Sort.grow], fun i hi => by simp [Sort.grow, Array.getElem?_append_left hi]⟩

/-- A word as a number with a sign. -/
def sgn (b : Nat) : Int := if b < 9223372036854775808 then (b : Int) else (b : Int) - 18446744073709551616

/-- A value's text. -/
def valTx (t b : Nat) : List UInt8 := if t = 1 then Lib.itoa (sgn b) else if t = 2 then Lib.formatBool (decide (b = 1)) else if t = 3 then textOf (home b) else []
/-- Whether it may be told. -/
def valOk (t b : Nat) : Bool := if t = 1 then decide (b ≠ 9223372036854775808) else if t = 2 then decide (b ≤ 1) else if t = 3 then ((home b == b) && !(Lib.hasPrefix (textOf (home b)) [35])) else false

theorem formatInt_any (b : Nat) (hb : b < 18446744073709551616) (w : World) (hT : Tab w) :
    Calls Tryd.prog 25 #[.int .i64 (sgn b), .int .i64 10] w fun e w' => e = .returned (.string ⟨(Lib.itoa (sgn b)).toArray⟩) ∧ Below w.heap.size w w' := by
  refine (Tryd.strconv_FormatInt_10 (sgn b) (by unfold sgn; split <;> omega) (by unfold sgn; split <;> omega) w hT).mono ?_
  rintro e w' ⟨rfl, k, os, rfl⟩
  exact ⟨rfl, below_grow w k os⟩

theorem conv64 (b : Nat) (hb : b < 18446744073709551616) : IntKind.i64.wrap (b : Int) = sgn b := by
  rw [IntKind.wrap_i64]
  unfold sgn
  split <;> omega

theorem z26 : (Tryd.prog.info? 26).map (fun i => (i.zero, i.size)) = some (some (.agg [.int .u8 0, .int .u64 0].toArray), 2) := by kernel_rfl

set_option maxRecDepth 100000 in
set_option maxHeartbeats 1600000 in
theorem valueText_any (t b : Nat) (ht : t < 256) (hb : b < 18446744073709551616) (w : World) (hT : Tab w) (h16 : gB ≤ w.heap.size) :
    Calls Tryd.prog 13 #[.agg [.int .u8 (t : Int), .int .u64 (b : Int)].toArray] w fun e w' => e = .returned (.tuple #[.string ⟨(valTx t b).toArray⟩, .bool (valOk t b)]) ∧ Below w.heap.size w w' := by
  by_cases h1 : t = 1
  · subst h1
    have hv : valTx 1 b = Lib.itoa (sgn b) := rfl
    have ho : valOk 1 b = decide (b ≠ 9223372036854775808) := rfl
    have hcv := conv64 b hb
    have hgt : decide (sgn b > -9223372036854775808) = decide (b ≠ 9223372036854775808) := by
      congr 1
      unfold sgn
      apply propext
      constructor
      · intro h; split at h <;> omega
      · intro h; split <;> omega
    have hF : ∀ w, Tab w → Calls Tryd.prog 25 #[.int .i64 (sgn b), .int .i64 10] w fun e w' => e = .returned (.string ⟨(Lib.itoa (sgn b)).toArray⟩) ∧ Below w.heap.size w w' := fun w h => formatInt_any b hb w h
    rw [hv, ho]
    obtain ⟨x, hx⟩ : ∃ x, x = sgn b := ⟨_, rfl⟩
    rw [← hx] at hcv hF hgt ⊢
    obtain ⟨L, hL⟩ : ∃ L, L = Lib.itoa x := ⟨_, rfl⟩
    rw [← hL] at hF ⊢
    clear hL hv ho hx
    go_enter Tryd.func13, Tryd.ntmps13
    go_wp2_with fail
    refine (hF _ (hT.below ((Below.refl _ w).alloc (Nat.le_refl _) _) h16)).mono ?_
    rintro e w2 ⟨rfl, hb2⟩
    have hgt' : decide (-9223372036854775808 < x) = decide (b ≠ 9223372036854775808) := hgt
    clear hgt hF hcv
    go_wp2
    go_ret2
    exact ⟨by simp, ((Below.refl _ w).alloc (Nat.le_refl _) _).trans (hb2.mono (by simp))⟩
  by_cases h2 : t = 2
  · subst h2
    have hv : valTx 2 b = Lib.formatBool (decide (b = 1)) := rfl
    have ho : valOk 2 b = decide (b ≤ 1) := rfl
    have hbe : ((b : Int) == 1) = decide (b = 1) := by rw [Bool.eq_iff_iff]; simp; omega
    have hbl : decide ((b : Int) ≤ 1) = decide (b ≤ 1) := by congr 1; apply propext; omega
    rw [hv, ho]
    obtain ⟨B, hB⟩ : ∃ B, B = decide (b = 1) := ⟨_, rfl⟩
    rw [← hB] at hbe ⊢
    have hF : ∀ w, Calls Tryd.prog 26 #[.bool B] w fun e w' => e = .returned (.string ⟨(Lib.formatBool B).toArray⟩) ∧ w' = w := fun w => Tryd.strconv_FormatBool B w
    obtain ⟨L, hL⟩ : ∃ L, L = Lib.formatBool B := ⟨_, rfl⟩
    rw [← hL] at hF ⊢
    rw [← hbl]
    clear hL hv ho hB hbl
    go_enter Tryd.func13, Tryd.ntmps13
    go_wp2_with fail
    go_quiet (first | (go_at_call 26; exact Calls.quiet_of_same (hF _)))
    go_wp2
    go_ret2
    have hx := (Below.refl _ w).alloc (Nat.le_refl _) (.cells #[.int .u8 2, .int .u64 (b : Int)] 26)
    exact ⟨rfl, hx.os, hx.tape, hx.output, hx.size, hx.block⟩
  by_cases h3 : t = 3
  · subst h3
    have hv : valTx 3 b = textOf (home b) := rfl
    have ho : valOk 3 b = ((home b == b) && !(Lib.hasPrefix (textOf (home b)) [35])) := rfl
    have hX : ∀ w, Calls Tryd.prog 27 #[.int .u64 (b : Int)] w fun e w' => e = .returned (.string ⟨(textOf (home b)).toArray⟩) ∧ Below w.heap.size w w' := fun w => text_any b hb w
    have hM : ∀ w, Calls Tryd.prog 28 #[.int .u64 (b : Int)] w fun e w' => e = .returned (.bool (home b == b)) ∧ w' = w := fun w => may_any b w hb
    rw [hv, ho]
    obtain ⟨L, hL⟩ : ∃ L, L = textOf (home b) := ⟨_, rfl⟩
    rw [← hL] at hX ⊢
    obtain ⟨M, hMM⟩ : ∃ M, M = (home b == b) := ⟨_, rfl⟩
    rw [← hMM] at hM ⊢
    clear hL hv ho hMM
    have hP : ∀ w, Calls Tryd.prog 29 #[.string ⟨L.toArray⟩, .string ⟨#[35]⟩] w fun e w' => e = .returned (.bool (Lib.hasPrefix L [35])) ∧ w' = w := fun w => Tryd.strings_HasPrefix ⟨L.toArray⟩ ⟨#[35]⟩ w
    go_enter Tryd.func13, Tryd.ntmps13
    go_wp2_with fail
    refine (hX _).mono ?_
    rintro e w2 ⟨rfl, hb2⟩
    have c1 : w2.cell? ⟨w.heap.size, 1, none⟩ = some (.int .u64 (b : Int)) := by
      rw [World.cell?_of_block (hb2.block _ (by simp))]
      simp
    have hbb : Below w.heap.size w w2 := ((Below.refl _ w).alloc (Nat.le_refl _) _).trans (hb2.mono (by simp))
    clear hb2 hX
    cases M with
    | false =>
      go_wp2_with fail
      refine (hM _).mono ?_
      rintro e w' ⟨rfl, rfl⟩
      go_wp2
      go_ret2
      exact ⟨rfl, hbb⟩
    | true =>
      go_wp2_with fail
      refine (hM _).mono ?_
      rintro e w' ⟨rfl, rfl⟩
      go_wp2_with fail
      refine (hP _).mono ?_
      rintro e w' ⟨rfl, rfl⟩
      go_wp2
      go_ret2
      exact ⟨rfl, hbb⟩
  · have hv : valTx t b = [] := by unfold valTx; rw [if_neg h1, if_neg h2, if_neg h3]
    have ho : valOk t b = false := by unfold valOk; rw [if_neg h1, if_neg h2, if_neg h3]
    rw [hv, ho]
    have e1 : ((t : Int) == 1) = false := by rw [beq_eq_false_iff_ne]; omega
    have e2 : ((t : Int) == 2) = false := by rw [beq_eq_false_iff_ne]; omega
    have e3 : ((t : Int) == 3) = false := by rw [beq_eq_false_iff_ne]; omega
    go_enter Tryd.func13, Tryd.ntmps13
    go_wp2
    go_ret2
    exact ⟨rfl, (Below.refl _ w).alloc (Nat.le_refl _) _⟩

/-- Whether a value may be a literal. -/
def litOk (t b : Nat) : Bool := valOk t b && !(Lib.hasPrefix (valTx t b) [45])

set_option maxRecDepth 100000 in
set_option maxHeartbeats 1600000 in
theorem mayLit_any (t b : Nat) (ht : t < 256) (hb : b < 18446744073709551616) (w : World) (hT : Tab w) (h16 : gB ≤ w.heap.size) :
    Calls Tryd.prog 20 #[.agg [.int .u8 (t : Int), .int .u64 (b : Int)].toArray] w fun e w' => e = .returned (.bool (litOk t b)) ∧ Below w.heap.size w w' := by
  have hV := fun w hT h16 => valueText_any t b ht hb w hT h16
  unfold litOk
  obtain ⟨L, hL⟩ : ∃ L, L = valTx t b := ⟨_, rfl⟩
  obtain ⟨M, hM⟩ : ∃ M, M = valOk t b := ⟨_, rfl⟩
  rw [← hL, ← hM] at hV ⊢
  clear hL hM
  have hP : ∀ w, Calls Tryd.prog 29 #[.string ⟨L.toArray⟩, .string ⟨#[45]⟩] w fun e w' => e = .returned (.bool (Lib.hasPrefix L [45])) ∧ w' = w := fun w => Tryd.strings_HasPrefix ⟨L.toArray⟩ ⟨#[45]⟩ w
  go_enter Tryd.func20, Tryd.ntmps20
  go_wp2_with fail
  refine (hV _ (hT.below ((Below.refl _ w).alloc (Nat.le_refl _) _) h16) (by simp; omega)).mono ?_
  rintro e w2 ⟨rfl, hb2⟩
  have hbb : Below w.heap.size w w2 := ((Below.refl _ w).alloc (Nat.le_refl _) _).trans (hb2.mono (by simp))
  clear hV hb2
  cases M with
  | false =>
    go_wp2
    go_ret
    exact ⟨rfl, hbb⟩
  | true =>
    go_wp2_with fail
    refine (hP _).mono ?_
    rintro e w' ⟨rfl, rfl⟩
    go_wp2
    go_ret
    exact ⟨rfl, hbb⟩

set_option maxRecDepth 100000 in
set_option maxHeartbeats 1600000 in
/-- tree.Value. -/
theorem value_any (t b : Nat) (ht : t < 256) (hb : b < 18446744073709551616) (w : World) (hT : Tab w) (h16 : gB ≤ w.heap.size) :
    Calls Tryd.prog 7 #[.agg [.int .u8 (t : Int), .int .u64 (b : Int)].toArray] w fun e w' => e = .returned (.tuple #[.string ⟨(if valOk t b then valTx t b else []).toArray⟩, .int .i64 (if valOk t b then 0 else 2)]) ∧ Below w.heap.size w w' := by
  have hV := fun w hT h16 => valueText_any t b ht hb w hT h16
  obtain ⟨L, hL⟩ : ∃ L, L = valTx t b := ⟨_, rfl⟩
  obtain ⟨M, hM⟩ : ∃ M, M = valOk t b := ⟨_, rfl⟩
  rw [← hL, ← hM] at hV ⊢
  clear hL hM
  go_enter Tryd.func7, Tryd.ntmps7
  go_wp2_with fail
  refine (hV _ (hT.below ((Below.refl _ w).alloc (Nat.le_refl _) _) h16) (by simp; omega)).mono ?_
  rintro e w2 ⟨rfl, hb2⟩
  have hbb : Below w.heap.size w w2 := ((Below.refl _ w).alloc (Nat.le_refl _) _).trans (hb2.mono (by simp))
  clear hV hb2
  cases M with
  | false =>
    go_wp2
    go_ret2
    exact ⟨rfl, hbb⟩
  | true =>
    go_wp2
    go_ret2
    exact ⟨rfl, hbb⟩

end Go.Proofs.YtcmahiphfpgadaaDoor
