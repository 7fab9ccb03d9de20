/- Joined texts of the proof. -/
import Derived.Laws.FloatArith
import Derived.Shelf.Strings.Builder1
import Derived.Shelf.Small.Strs
import Derived.Shelf.Small.Wraps
import Derived.Shelf.Strconv.Itoa0
import Derived.Shelf.Strconv.Itoa1
import Derived.Shelf.LaysM
import Derived.Shelf.Strconv.Itoa2
import Derived.Shelf.Strconv.Itoa3
import Derived.Shelf.Strconv.Itoa4
import Derived.Shelf.Strconv.ParseIntEmpty
import Derived.Shelf.Strconv.Clone
import Derived.Shelf.Strconv.SyntaxError
import Derived.Shelf.LaysC
import Derived.Shelf.Strconv.ToError
import Derived.Shelf.Strconv.Lower
import Derived.Shelf.Strconv.ParseUint10
import Derived.Shelf.Strconv.ParseUint10Empty
import Derived.Shelf.Strconv.ParseUint10Any
import Derived.Shelf.Strconv.ParseInt10
import Derived.Shelf.Strconv.RangeError
import Derived.Shelf.Strconv.ToErrorRange
import Derived.Shelf.Strconv.ParseUintEmpty
import Derived.Shelf.Strconv.ParseUint10b64
import Derived.Shelf.Strconv.ParseUint10b32
import Derived.Shelf.Strconv.ParseUint10b16
import Derived.Shelf.Strconv.ParseUint10b8
import Derived.Shelf.Strconv.ParseUint10At
import Derived.Shelf.Strconv.ParseInt10At64
import Derived.Shelf.Strconv.ParseInt10At32
import Derived.Shelf.Strconv.ParseInt10At16
import Derived.Shelf.Strconv.ParseInt10At8
import Derived.Shelf.Strconv.ParseInt10All
import Derived.Shelf.Strconv.ParseIntPublic10
import Derived.Shelf.Strings.Search1
import Derived.Shelf.Strings.Search2
import Derived.Shelf.Strings.Cut
import Derived.Shelf.Strings.Shaped
import Derived.Shelf.Strings.Prefix
import Derived.Test.YtjgggmjjikopeaaGreatDoorProg
import Derived.WalkLawsBesides
import Derived.WalkSmall
import Derived.Test.YtjgggmjjikopeaaGreatDoorJ1
import Derived.BigQuiet
import Derived.Deep.QuietTactic
import Derived.Deep.WholeRow
import Derived.Deep.RegionHeld3
import Derived.Deep.MidRow
import Derived.Laws.Bits64

/- Reals by their bits: what a float64's word stands for, and what the four operations and the comparisons tell, as plain functions of words: no program is named here. -/
namespace Go.Proofs.YtjgggmjjikopeaaGreatDoor
open Ieee
set_option linter.unusedVariables false

/-- float64. -/
abbrev D : Format := Ieee.double

/-- The one NaN's bits. -/
def NAN : Nat := 9221120237041090560

/-- A word that is a NaN. -/
def isNan (b : Nat) : Bool := decide (9218868437227405312 < b % 9223372036854775808)

/-- Bits brought home. -/
def home (b : Nat) : Nat := if isNan b then NAN else b

theorem D_inf : D.infRung = 9218868437227405312 := rfl
theorem read_eq (b : Nat) : D.read b =
    if b % 9223372036854775808 < 4503599627370496 then .number (b / 9223372036854775808 % 2 == 1) (b % 9223372036854775808) (-1074)
    else if b % 9223372036854775808 < 9218868437227405312 then .number (b / 9223372036854775808 % 2 == 1) (4503599627370496 + b % 9223372036854775808 % 4503599627370496) (-1074 + (b % 9223372036854775808 / 4503599627370496 - 1 : Nat))
    else if b % 9223372036854775808 = 9218868437227405312 then .infinity (b / 9223372036854775808 % 2 == 1)
    else .nan (b / 9223372036854775808 % 2 == 1) (b % 9223372036854775808 - 9218868437227405312) := rfl

theorem read_nan {b : Nat} (h : isNan b = true) : ∃ s t, D.read b = .nan s t := by
  simp only [isNan, decide_eq_true_eq] at h
  rw [read_eq, if_neg (by omega), if_neg (by omega), if_neg (by omega)]
  exact ⟨_, _, rfl⟩

theorem read_real {b : Nat} (h : isNan b = false) : (∃ s m e, D.read b = .number s m e) ∨ (∃ s, D.read b = .infinity s) := by
  simp only [isNan, decide_eq_false_iff_not] at h
  rw [read_eq]
  split
  · exact .inl ⟨_, _, _, rfl⟩
  · split
    · exact .inl ⟨_, _, _, rfl⟩
    · rw [if_pos (by omega)]; exact .inr ⟨_, rfl⟩

theorem order_self (b : Nat) : D.order b b = if isNan b then none else some .eq := by
  cases h : isNan b
  · rcases read_real h with ⟨s, m, e, hr⟩ | ⟨s, hr⟩
    · simp [Format.order, hr, Datum.order]
    · simp [Format.order, hr, Datum.order]
  · obtain ⟨s, t, hr⟩ := read_nan h
    simp [Format.order, hr, Datum.order]

/-- 'x != x'. -/
theorem neq_self (b : Nat) : (D.order b b != some .eq) = isNan b := by
  rw [order_self]; cases isNan b <;> rfl
theorem isNan_NAN : isNan NAN = true := by decide
theorem home_nan {b : Nat} (h : isNan b = true) : home b = NAN := by simp [home, h]
theorem home_real {b : Nat} (h : isNan b = false) : home b = b := by simp [home, h]
theorem home_home (b : Nat) : home (home b) = home b := by
  cases h : isNan b
  · rw [home_real h, home_real h]
  · rw [home_nan h, home_nan isNan_NAN]
theorem home_lt {b : Nat} (h : b < 18446744073709551616) : home b < 18446744073709551616 := by
  unfold home; split
  · decide
  · exact h

/-- What is done with the words of two numbers, a NaN among them told as none, hangs on what they are brought home as. -/
theorem add_nan {a b : Nat} (h : isNan a = true ∨ isNan b = true) : D.add a b = none := by
  unfold Format.add
  rcases h with h | h
  · obtain ⟨s, t, hr⟩ := read_nan h
    rw [hr]; rfl
  · obtain ⟨s, t, hr⟩ := read_nan h
    rw [hr]
    cases ha : D.read a <;> rfl
theorem order_nan {a b : Nat} (h : isNan a = true ∨ isNan b = true) : D.order a b = none := by
  unfold Format.order
  rcases h with h | h
  · obtain ⟨s, t, hr⟩ := read_nan h
    rw [hr]; rfl
  · obtain ⟨s, t, hr⟩ := read_nan h
    rw [hr]
    cases ha : D.read a <;> rfl

/-- What is told where an operation has an answer, and the one NaN where it has none. -/
def told (r : Option Nat) : Nat := match r with
  | some x => home x
  | none => NAN

def fdiv (a b : Nat) : Nat := told (D.div a b)

/-- The other sign. -/
def fneg (a : Nat) : Nat := if isNan a then NAN else if a < 9223372036854775808 then a + 9223372036854775808 else a - 9223372036854775808

/-- The nearest real of a whole number. -/
def ofInt (n : Int) : Nat := FloatKind.nearest .f64 n

theorem told_lt {r : Option Nat} (h : ∀ x, r = some x → x < 18446744073709551616) : told r < 18446744073709551616 := by
  unfold told
  split
  · rename_i x; exact home_lt (h x rfl)
  · decide

theorem isNan_told (r : Option Nat) : home (told r) = told r := by
  unfold told
  split
  · exact home_home _
  · decide

theorem word_eq (neg : Bool) (r : Nat) : D.word neg r = if neg then 9223372036854775808 + r else r := rfl

theorem isNan_nearest (neg : Bool) (mag : Nat) (place : Int) : isNan (D.nearest neg mag place) = false := by
  simp only [isNan, decide_eq_false_iff_not, Nat.not_lt]
  unfold Format.nearest
  dsimp only
  split
  · rw [word_eq]; cases neg <;> simp
  · rw [word_eq, D_inf]
    have := Nat.min_le_right ((max (place + ↑mag.log2 - ↑D.fractionBits) D.leastPlace - D.leastPlace).toNat * D.binade + Toward.even.cut neg (mag <<< (place - max (place + ↑mag.log2 - ↑D.fractionBits) D.leastPlace).toNat) (max (place + ↑mag.log2 - ↑D.fractionBits) D.leastPlace - place).toNat) 9218868437227405312
    generalize min _ 9218868437227405312 = k at this ⊢
    cases neg
    · simp; omega
    · simp; omega

end Go.Proofs.YtjgggmjjikopeaaGreatDoor

/-
  DERIVED: THE SHELF's CONTRACTS AT THIS DUMP, IN PLAIN WORDS (tools/lay-plain.mjs out of 'YtjgggmjjikopeaaGreatDoorShelf.lean', which tools/lay-shelf.mjs wrote): THE SAME DECLARATIONS UNDER THE SAME NAMES: 'import', 'namespace', 'open', 'def', 'theorem' AND NOTHING ELSE: no command of the shelf's: FOR A HAND-IN. Each laying: the table of numbers ('.._ren') and one theorem, a field a fact of the dump's own or the kernel's comparison; each contract: ONE APPLICATION.
-/
namespace Go.Proofs
open Go.Shelf
def Tryz.lays121_ren : Go.Shelf.Ren := ⟨fun | 121 => 147 | 214 => 172 | n => n, fun | 4 => 4 | 9 => 9 | n => n, fun | n => n⟩
theorem Tryz.lays121 : Go.Proofs.Lays.n121 Tryz.prog Tryz.lays121_ren := {
  mixed := by kernel_rfl
  f121 := Tryz.func147.trans (congrArg some (by kernel_rfl))
  f214 := Tryz.func172.trans (congrArg some (by kernel_rfl))
  t4 := Tryz.underlying4
  a4 := Tryz.isAgg4
  z4 := Tryz.sizeOf4
  v4 := Tryz.zeroValue4
  t9 := Tryz.underlying9
  a9 := Tryz.isAgg9
  z9 := Tryz.sizeOf9
  v9 := Tryz.zeroValue9 }
open Go.RowKit in
/-- strconv.FormatBool: "FormatBool returns "true" or "false" according to the value of b.": IT RETURNS 'Lib.formatBool b'; the world is as it was. (LAID: no walk: one application.) -/
theorem Tryz.strconv_FormatBool (b : Bool) (w : World) :
    Calls Tryz.prog 147 #[.bool b] w fun e w' => e = .returned (.string ⟨(Lib.formatBool b).toArray⟩) ∧ w' = w := Any.strconv_FormatBool Tryz.lays121 b w
def Tryz.laysM173_ren : Go.Shelf.Ren := ⟨fun | 173 => 146 | 246 => 171 | 283 => 192 | 284 => 193 | 285 => 194 | 286 => 195 | 129 => 205 | 317 => 204 | 318 => 206 | 319 => 207 | 320 => 208 | 337 => 213 | 338 => 214 | n => n, fun | 2 => 2 | 3 => 3 | 9 => 9 | 4 => 4 | 171 => 205 | 0 => 0 | 53 => 38 | 37 => 84 | 5 => 5 | 173 => 208 | 212 => 218 | 51 => 219 | 20 => 20 | 213 => 220 | 46 => 199 | 232 => 229 | 233 => 230 | n => n, fun | 17 => 4 | 18 => 5 | 19 => 6 | n => n⟩
theorem Tryz.laysM173 : Go.Proofs.LaysM.n173 Tryz.prog Tryz.laysM173_ren := {
  mixed := by kernel_rfl
  f129 := Tryz.func205.trans (congrArg some (by kernel_rfl))
  f173 := Tryz.func146.trans (congrArg some (by kernel_rfl))
  f246 := Tryz.func171.trans (congrArg some (by kernel_rfl))
  f283 := Tryz.func192.trans (congrArg some (by kernel_rfl))
  f284 := Tryz.func193.trans (congrArg some (by kernel_rfl))
  f285 := Tryz.func194.trans (congrArg some (by kernel_rfl))
  f286 := Tryz.func195.trans (congrArg some (by kernel_rfl))
  f317 := Tryz.func204.trans (congrArg some (by kernel_rfl))
  f318 := Tryz.func206.trans (congrArg some (by kernel_rfl))
  f319 := Tryz.func207.trans (congrArg some (by kernel_rfl))
  f320 := Tryz.func208.trans (congrArg some (by kernel_rfl))
  f337 := Tryz.func213.trans (congrArg some (by kernel_rfl))
  f338 := Tryz.func214.trans (congrArg some (by kernel_rfl))
  t0 := Tryz.underlying0
  a0 := Tryz.isAgg0
  z0 := Tryz.sizeOf0
  v0 := Tryz.zeroValue0
  t2 := Tryz.underlying2
  a2 := Tryz.isAgg2
  z2 := Tryz.sizeOf2
  v2 := Tryz.zeroValue2
  t3 := Tryz.underlying3
  a3 := Tryz.isAgg3
  z3 := Tryz.sizeOf3
  v3 := Tryz.zeroValue3
  t4 := Tryz.underlying4
  a4 := Tryz.isAgg4
  z4 := Tryz.sizeOf4
  v4 := Tryz.zeroValue4
  t5 := Tryz.underlying5
  a5 := Tryz.isAgg5
  z5 := Tryz.sizeOf5
  v5 := Tryz.zeroValue5
  t9 := Tryz.underlying9
  a9 := Tryz.isAgg9
  z9 := Tryz.sizeOf9
  v9 := Tryz.zeroValue9
  t20 := Tryz.underlying20
  a20 := Tryz.isAgg20
  z20 := Tryz.sizeOf20
  v20 := Tryz.zeroValue20
  t37 := Tryz.underlying84
  a37 := Tryz.isAgg84
  z37 := Tryz.sizeOf84
  v37 := Tryz.zeroValue84
  t46 := Tryz.underlying199
  a46 := Tryz.isAgg199
  z46 := Tryz.sizeOf199
  v46 := Tryz.zeroValue199
  t51 := Tryz.underlying219
  a51 := Tryz.isAgg219
  z51 := Tryz.sizeOf219
  v51 := Tryz.zeroValue219
  t53 := Tryz.underlying38
  a53 := Tryz.isAgg38
  z53 := Tryz.sizeOf38
  v53 := Tryz.zeroValue38
  t171 := Tryz.underlying205
  a171 := Tryz.isAgg205
  z171 := Tryz.sizeOf205
  v171 := Tryz.zeroValue205
  t173 := Tryz.underlying208
  a173 := Tryz.isAgg208
  z173 := Tryz.sizeOf208
  v173 := Tryz.zeroValue208
  t212 := Tryz.underlying218
  a212 := Tryz.isAgg218
  z212 := Tryz.sizeOf218
  v212 := Tryz.zeroValue218
  t213 := Tryz.underlying220
  a213 := Tryz.isAgg220
  z213 := Tryz.sizeOf220
  t232 := Tryz.underlying229
  a232 := Tryz.isAgg229
  z232 := Tryz.sizeOf229
  v232 := Tryz.zeroValue229
  t233 := Tryz.underlying230
  a233 := Tryz.isAgg230
  z233 := Tryz.sizeOf230
  v233 := Tryz.zeroValue230
  g17 := by kernel_rfl
  g18 := by kernel_rfl
  g19 := by kernel_rfl
  i0 := by kernel_rfl
  i2 := by kernel_rfl
  i3 := by kernel_rfl
  i4 := by kernel_rfl
  i5 := by kernel_rfl
  i9 := by kernel_rfl
  i20 := by kernel_rfl
  i37 := by kernel_rfl
  i46 := by kernel_rfl
  i51 := by kernel_rfl
  i53 := by kernel_rfl
  i171 := by kernel_rfl
  i173 := by kernel_rfl
  i212 := by kernel_rfl
  i232 := by kernel_rfl
  i233 := by kernel_rfl
  m17 := by kernel_rfl
  m18 := by kernel_rfl
  m19 := by kernel_rfl }
open Go.RowKit Go.Sort Go.Lib in
/-- strconv.FormatInt: "FormatInt returns the string representation of i in the given base": AT BASE 10: i's decimal numeral, for every int64. (LAID: no walk: one application.) -/
theorem Tryz.strconv_FormatInt_10 (n : Int) (h0 : -9223372036854775808 ≤ n) (h1 : n ≤ 9223372036854775807) (w : World) (htab : Lib.TabIs Tryz.prog w "internal/strconv.uint64pow10" .u64 Lib.pow10Tab) :
    Calls Tryz.prog 146 #[.int .i64 n, .int .i64 10] w fun e w' => e = .returned (.string ⟨(Lib.itoa n).toArray⟩) ∧ ∃ k os, w' = grow (w.drewN k) os := Any.strconv_FormatInt_10 Tryz.laysM173 n h0 h1 w htab
def Tryz.laysM316_ren : Go.Shelf.Ren := ⟨fun | 316 => 123 | n => n, fun | 9 => 9 | 3 => 3 | 4 => 4 | 37 => 84 | 0 => 0 | 127 => 119 | 5 => 5 | n => n, fun | n => n⟩
theorem Tryz.laysM316 : Go.Proofs.LaysM.n316 Tryz.prog Tryz.laysM316_ren := {
  mixed := by kernel_rfl
  f316 := Tryz.func123.trans (congrArg some (by kernel_rfl))
  t0 := Tryz.underlying0
  a0 := Tryz.isAgg0
  z0 := Tryz.sizeOf0
  v0 := Tryz.zeroValue0
  t3 := Tryz.underlying3
  a3 := Tryz.isAgg3
  z3 := Tryz.sizeOf3
  v3 := Tryz.zeroValue3
  t4 := Tryz.underlying4
  a4 := Tryz.isAgg4
  z4 := Tryz.sizeOf4
  v4 := Tryz.zeroValue4
  t9 := Tryz.underlying9
  a9 := Tryz.isAgg9
  z9 := Tryz.sizeOf9
  v9 := Tryz.zeroValue9
  t37 := Tryz.underlying84
  a37 := Tryz.isAgg84
  z37 := Tryz.sizeOf84
  v37 := Tryz.zeroValue84
  t127 := Tryz.underlying119
  a127 := Tryz.isAgg119
  z127 := Tryz.sizeOf119
  v127 := Tryz.zeroValue119
  t5 := Tryz.underlying5
  a5 := Tryz.isAgg5
  z5 := Tryz.sizeOf5
  v5 := Tryz.zeroValue5
  i0 := by kernel_rfl
  i3 := by kernel_rfl
  i4 := by kernel_rfl
  i5 := by kernel_rfl
  i9 := by kernel_rfl
  i37 := by kernel_rfl
  i127 := by kernel_rfl }
open Go.RowKit in
/-- internal/stringslite.Clone (what strings.Clone calls): "Clone returns a fresh copy of s.": THE SAME BYTES. Of what was there nothing has turned (a new row is laid, and frozen, where s is not empty). (LAID: no walk: one application.) -/
theorem Tryz.stringslite_Clone (s : ByteArray) (w : World) (hlim : s.size ≤ 281474976710656) :
    Calls Tryz.prog 123 #[.string s] w fun e w' => e = .returned (.string s) ∧ Below w.heap.size w w' := Any.stringslite_Clone Tryz.laysM316 s w hlim
def Tryz.laysC174_ren : Go.Shelf.Ren := ⟨fun | 174 => 124 | 247 => 155 | 245 => 156 | 287 => 182 | 279 => 183 | 280 => 184 | 281 => 185 | 282 => 186 | 321 => 199 | 322 => 200 | 316 => 123 | 171 => 202 | 205 => 201 | 243 => 209 | 246 => 171 | 283 => 192 | 284 => 193 | 285 => 194 | 286 => 195 | 129 => 205 | 317 => 204 | 318 => 206 | 319 => 207 | 320 => 208 | 337 => 213 | 338 => 214 | n => n, fun | 9 => 9 | 3 => 3 | 2 => 2 | 75 => 143 | 85 => 149 | 4 => 4 | 167 => 196 | 5 => 5 | 53 => 38 | 175 => 197 | 46 => 199 | 168 => 200 | 37 => 84 | 0 => 0 | 210 => 214 | 21 => 21 | 127 => 119 | 145 => 225 | 143 => 223 | 171 => 205 | 173 => 208 | 212 => 218 | 51 => 219 | 20 => 20 | 213 => 220 | 232 => 229 | 233 => 230 | 80 => 89 | n => n, fun | 15 => 1 | 16 => 2 | 17 => 4 | 18 => 5 | 19 => 6 | n => n⟩
theorem Tryz.laysC174 : Go.Proofs.LaysC.n174 Tryz.prog Tryz.laysC174_ren := {
  mixed := by kernel_rfl
  f129 := Tryz.func205.trans (congrArg some (by kernel_rfl))
  f171 := Tryz.func202.trans (congrArg some (by kernel_rfl))
  f174 := Tryz.func124.trans (congrArg some (by kernel_rfl))
  f205 := Tryz.func201.trans (congrArg some (by kernel_rfl))
  f243 := Tryz.func209.trans (congrArg some (by kernel_rfl))
  f245 := Tryz.func156.trans (congrArg some (by kernel_rfl))
  f246 := Tryz.func171.trans (congrArg some (by kernel_rfl))
  f247 := Tryz.func155.trans (congrArg some (by kernel_rfl))
  f279 := Tryz.func183.trans (congrArg some (by kernel_rfl))
  f280 := Tryz.func184.trans (congrArg some (by kernel_rfl))
  f281 := Tryz.func185.trans (congrArg some (by kernel_rfl))
  f282 := Tryz.func186.trans (congrArg some (by kernel_rfl))
  f283 := Tryz.func192.trans (congrArg some (by kernel_rfl))
  f284 := Tryz.func193.trans (congrArg some (by kernel_rfl))
  f285 := Tryz.func194.trans (congrArg some (by kernel_rfl))
  f286 := Tryz.func195.trans (congrArg some (by kernel_rfl))
  f287 := Tryz.func182.trans (congrArg some (by kernel_rfl))
  f316 := Tryz.func123.trans (congrArg some (by kernel_rfl))
  f317 := Tryz.func204.trans (congrArg some (by kernel_rfl))
  f318 := Tryz.func206.trans (congrArg some (by kernel_rfl))
  f319 := Tryz.func207.trans (congrArg some (by kernel_rfl))
  f320 := Tryz.func208.trans (congrArg some (by kernel_rfl))
  f321 := Tryz.func199.trans (congrArg some (by kernel_rfl))
  f322 := Tryz.func200.trans (congrArg some (by kernel_rfl))
  f337 := Tryz.func213.trans (congrArg some (by kernel_rfl))
  f338 := Tryz.func214.trans (congrArg some (by kernel_rfl))
  t0 := Tryz.underlying0
  a0 := Tryz.isAgg0
  z0 := Tryz.sizeOf0
  v0 := Tryz.zeroValue0
  t2 := Tryz.underlying2
  a2 := Tryz.isAgg2
  z2 := Tryz.sizeOf2
  v2 := Tryz.zeroValue2
  t3 := Tryz.underlying3
  a3 := Tryz.isAgg3
  z3 := Tryz.sizeOf3
  v3 := Tryz.zeroValue3
  t4 := Tryz.underlying4
  a4 := Tryz.isAgg4
  z4 := Tryz.sizeOf4
  v4 := Tryz.zeroValue4
  t5 := Tryz.underlying5
  a5 := Tryz.isAgg5
  z5 := Tryz.sizeOf5
  v5 := Tryz.zeroValue5
  t9 := Tryz.underlying9
  a9 := Tryz.isAgg9
  z9 := Tryz.sizeOf9
  v9 := Tryz.zeroValue9
  t20 := Tryz.underlying20
  a20 := Tryz.isAgg20
  z20 := Tryz.sizeOf20
  v20 := Tryz.zeroValue20
  t21 := Tryz.underlying21
  a21 := Tryz.isAgg21
  z21 := Tryz.sizeOf21
  v21 := Tryz.zeroValue21
  t37 := Tryz.underlying84
  a37 := Tryz.isAgg84
  z37 := Tryz.sizeOf84
  v37 := Tryz.zeroValue84
  t46 := Tryz.underlying199
  a46 := Tryz.isAgg199
  z46 := Tryz.sizeOf199
  v46 := Tryz.zeroValue199
  t51 := Tryz.underlying219
  a51 := Tryz.isAgg219
  z51 := Tryz.sizeOf219
  v51 := Tryz.zeroValue219
  t53 := Tryz.underlying38
  a53 := Tryz.isAgg38
  z53 := Tryz.sizeOf38
  v53 := Tryz.zeroValue38
  t75 := Tryz.underlying143
  a75 := Tryz.isAgg143
  z75 := Tryz.sizeOf143
  v75 := Tryz.zeroValue143
  t85 := Tryz.underlying149
  a85 := Tryz.isAgg149
  z85 := Tryz.sizeOf149
  v85 := Tryz.zeroValue149
  t127 := Tryz.underlying119
  a127 := Tryz.isAgg119
  z127 := Tryz.sizeOf119
  v127 := Tryz.zeroValue119
  t143 := Tryz.underlying223
  a143 := Tryz.isAgg223
  z143 := Tryz.sizeOf223
  v143 := Tryz.zeroValue223
  t145 := Tryz.underlying225
  a145 := Tryz.isAgg225
  z145 := Tryz.sizeOf225
  v145 := Tryz.zeroValue225
  t167 := Tryz.underlying196
  a167 := Tryz.isAgg196
  z167 := Tryz.sizeOf196
  v167 := Tryz.zeroValue196
  t168 := Tryz.underlying200
  a168 := Tryz.isAgg200
  z168 := Tryz.sizeOf200
  v168 := Tryz.zeroValue200
  t171 := Tryz.underlying205
  a171 := Tryz.isAgg205
  z171 := Tryz.sizeOf205
  v171 := Tryz.zeroValue205
  t173 := Tryz.underlying208
  a173 := Tryz.isAgg208
  z173 := Tryz.sizeOf208
  v173 := Tryz.zeroValue208
  t175 := Tryz.underlying197
  a175 := Tryz.isAgg197
  z175 := Tryz.sizeOf197
  v175 := Tryz.zeroValue197
  t210 := Tryz.underlying214
  a210 := Tryz.isAgg214
  z210 := Tryz.sizeOf214
  v210 := Tryz.zeroValue214
  t212 := Tryz.underlying218
  a212 := Tryz.isAgg218
  z212 := Tryz.sizeOf218
  v212 := Tryz.zeroValue218
  t213 := Tryz.underlying220
  a213 := Tryz.isAgg220
  z213 := Tryz.sizeOf220
  t232 := Tryz.underlying229
  a232 := Tryz.isAgg229
  z232 := Tryz.sizeOf229
  v232 := Tryz.zeroValue229
  t233 := Tryz.underlying230
  a233 := Tryz.isAgg230
  z233 := Tryz.sizeOf230
  v233 := Tryz.zeroValue230
  g15 := by kernel_rfl
  g16 := by kernel_rfl
  g17 := by kernel_rfl
  g18 := by kernel_rfl
  g19 := by kernel_rfl
  t80 := Tryz.underlying89
  a80 := Tryz.isAgg89
  z80 := Tryz.sizeOf89
  v80 := Tryz.zeroValue89
  i0 := by kernel_rfl
  i2 := by kernel_rfl
  i3 := by kernel_rfl
  i4 := by kernel_rfl
  i5 := by kernel_rfl
  i9 := by kernel_rfl
  i20 := by kernel_rfl
  i21 := by kernel_rfl
  i37 := by kernel_rfl
  i46 := by kernel_rfl
  i51 := by kernel_rfl
  i53 := by kernel_rfl
  i75 := by kernel_rfl
  i80 := by kernel_rfl
  i85 := by kernel_rfl
  i127 := by kernel_rfl
  i143 := by kernel_rfl
  i145 := by kernel_rfl
  i167 := by kernel_rfl
  i168 := by kernel_rfl
  i171 := by kernel_rfl
  i173 := by kernel_rfl
  i175 := by kernel_rfl
  i210 := by kernel_rfl
  i212 := by kernel_rfl
  i232 := by kernel_rfl
  i233 := by kernel_rfl
  m15 := by kernel_rfl
  m16 := by kernel_rfl
  m17 := by kernel_rfl
  m18 := by kernel_rfl
  m19 := by kernel_rfl
  c0 := by kernel_rfl
  c2 := by kernel_rfl
  c3 := by kernel_rfl
  c4 := by kernel_rfl
  c5 := by kernel_rfl
  c9 := by kernel_rfl
  c20 := by kernel_rfl
  c21 := by kernel_rfl
  c37 := by kernel_rfl
  c46 := by kernel_rfl
  c51 := by kernel_rfl
  c53 := by kernel_rfl
  c75 := by kernel_rfl
  c80 := by kernel_rfl
  c85 := by kernel_rfl
  c127 := by kernel_rfl
  c143 := by kernel_rfl
  c145 := by kernel_rfl
  c167 := by kernel_rfl
  c168 := by kernel_rfl
  c171 := by kernel_rfl
  c173 := by kernel_rfl
  c175 := by kernel_rfl
  c210 := by kernel_rfl
  c212 := by kernel_rfl
  c213 := by kernel_rfl
  c232 := by kernel_rfl
  c233 := by kernel_rfl }
open Go.RowKit in
/-- strconv.ParseInt(s, 10, 64), AT EVERY STRING THAT SPELLS AN int64 ('Lib.parseIntB 64 s.data.toList = .ok v'): v, AND NO ERROR. (LAID: no walk: one application.) -/
theorem Tryz.strconv_ParseInt_10_at64_ok (s : ByteArray) (hmax : s.size ≤ 9223372036854775806) (v : Int) (h : Lib.parseIntB 64 s.data.toList = .ok v) (w : World) :
    Calls Tryz.prog 124 #[.string s, .int .i64 10, .int .i64 64] w fun e w' => e = .returned (.tuple #[.int .i64 v, .nilIface]) ∧ (w' = w ∨ ∃ t, w' = Lib.bytesWorld w 5 t) := Any.strconv_ParseInt_10_at64_ok Tryz.laysC174 s hmax v h w
open Go.RowKit in
/-- strconv.ParseInt(s, 10, 64), AT EVERY NUMERAL THAT NO int64 HOLDS: THE GREATEST OR THE LEAST int64, BY THE SIGN ('Lib.intSat 64'), AND AN ERROR THAT IS NOT nil: a *NumError in a new block N: {Func: "ParseInt", Num: s's bytes, Err: what the variable ErrRange holds}. Of what was there nothing has turned. (LAID: no walk: one application.) -/
theorem Tryz.strconv_ParseInt_10_at64_range (s : ByteArray) (hlim : s.size ≤ 281474976710656) (h : Lib.parseIntB 64 s.data.toList = .range) (ev : Value) (w : World) (hv : w.cell? ⟨2, 0, none⟩ = some ev) (hev : ev = .nilIface ∨ ∃ te pe, ev = .iface te pe) :
    Calls Tryz.prog 124 #[.string s, .int .i64 10, .int .i64 64] w fun e w' => ∃ N, e = .returned (.tuple #[.int .i64 (Lib.intSat 64 s.data.toList), .iface 200 (.pointer (some ⟨N, 0, none⟩))]) ∧ w.heap.size ≤ N ∧ w'.heap[N]? = some (.cells #[.string ⟨#[80, 97, 114, 115, 101, 73, 110, 116]⟩, .string s, ev] 214 (0, 0)) ∧ Below w.heap.size w w' := Any.strconv_ParseInt_10_at64_range Tryz.laysC174 s hlim h ev w hv hev
def Tryz.lays99_ren : Go.Shelf.Ren := ⟨fun | 99 => 150 | 206 => 177 | n => n, fun | 9 => 9 | 4 => 4 | 3 => 3 | n => n, fun | n => n⟩
theorem Tryz.lays99 : Go.Proofs.Lays.n99 Tryz.prog Tryz.lays99_ren := {
  mixed := by kernel_rfl
  f99 := Tryz.func150.trans (congrArg some (by kernel_rfl))
  f206 := Tryz.func177.trans (congrArg some (by kernel_rfl))
  t3 := Tryz.underlying3
  a3 := Tryz.isAgg3
  z3 := Tryz.sizeOf3
  v3 := Tryz.zeroValue3
  t4 := Tryz.underlying4
  a4 := Tryz.isAgg4
  z4 := Tryz.sizeOf4
  v4 := Tryz.zeroValue4
  t9 := Tryz.underlying9
  a9 := Tryz.isAgg9
  z9 := Tryz.sizeOf9
  v9 := Tryz.zeroValue9 }
open Go.RowKit Go.Lib in
/-- strings.HasPrefix: "HasPrefix reports whether the string s begins with prefix.": IT RETURNS 'Lib.hasPrefix s prefix'; the world is as it was. (LAID: no walk: one application.) -/
theorem Tryz.strings_HasPrefix (s p : ByteArray) (w : World) :
    Calls Tryz.prog 150 #[.string s, .string p] w fun e w' => e = .returned (.bool (Lib.hasPrefix s.data.toList p.data.toList)) ∧ w' = w := Any.strings_HasPrefix Tryz.lays99 s p w
end Go.Proofs

/- What a real is worth, as a whole number of units of 2^-1074; that reals compare as these do; and its whole part: no program is named here. -/
namespace Go.Proofs.YtjgggmjjikopeaaGreatDoor
open Ieee
set_option linter.unusedVariables false

/-- A power of two, by a name of its own. -/
def pw (k : Nat) : Nat := 2 ^ k
theorem pw_def (k : Nat) : pw k = 2 ^ k := rfl
theorem pw_pos (k : Nat) : 0 < pw k := Nat.two_pow_pos k
theorem pw_add (a b : Nat) : pw (a + b) = pw a * pw b := Nat.pow_add 2 a b
theorem pw_le {a b : Nat} (h : a ≤ b) : pw a ≤ pw b := Nat.pow_le_pow_right (by decide) h
theorem pw_lt {a b : Nat} (h : a < b) : pw a < pw b := Nat.pow_lt_pow_right (by decide) h

theorem signed_eq (s : Bool) (m k : Nat) : signed s m k = if s then -((m * pw k : Nat) : Int) else ((m * pw k : Nat) : Int) := by
  simp [signed, Nat.shiftLeft_eq, pw_def]

theorem signed_add (s : Bool) (m i k : Nat) : signed s m (i + k) = signed s m i * ((pw k : Nat) : Int) := by
  rw [signed_eq, signed_eq, pw_add, ← Nat.mul_assoc]
  cases s <;> simp [Int.neg_mul]

theorem compare_int (x y : Int) : compare x y = if x < y then .lt else if x = y then .eq else .gt := rfl

theorem compare_scale (x y : Int) (k : Nat) (hk : 0 < k) : compare (x * (k : Int)) (y * (k : Int)) = compare x y := by
  rw [compare_int, compare_int]
  have h : (0 : Int) < (k : Int) := by omega
  by_cases h1 : x < y
  · rw [if_pos h1, if_pos (Int.mul_lt_mul_of_pos_right h1 h)]
  · rw [if_neg h1, if_neg (fun hh => h1 (Int.lt_of_mul_lt_mul_right hh (Int.le_of_lt h)))]
    by_cases h2 : x = y
    · rw [if_pos h2, if_pos (by rw [h2])]
    · rw [if_neg h2, if_neg (fun hh => h2 (Int.eq_of_mul_eq_mul_right (by omega) hh))]

theorem compare_lt {x y : Int} (h : x < y) : compare x y = .lt := by rw [compare_int, if_pos h]
theorem compare_gt {x y : Int} (h : y < x) : compare x y = .gt := by rw [compare_int, if_neg (by omega), if_neg (by omega)]
theorem compare_same {x y : Int} (h : x = y) : compare x y = .eq := by rw [compare_int, if_neg (by omega), if_pos h]

/-- More than any finite real is worth. -/
def TOP : Nat := pw 2200

/-- What a datum is worth. -/
def worth : Datum → Int
  | .number s m e => signed s m (e + 1074).toNat
  | .infinity s => if s then -(TOP : Int) else (TOP : Int)
  | .nan .. => 0

/-- What a word is worth. -/
def val (b : Nat) : Int := worth (D.read b)

/-- The shape of a word's number. -/
theorem read_shape {b : Nat} {s : Bool} {m : Nat} {e : Int} (h : D.read b = .number s m e) : s = (b / 9223372036854775808 % 2 == 1) ∧ m < 9007199254740992 ∧ -1074 ≤ e ∧ e ≤ 971 := by
  rw [read_eq] at h
  split at h
  · cases h
    refine ⟨rfl, by omega, by omega, by omega⟩
  · split at h
    · cases h
      refine ⟨rfl, by omega, by omega, by omega⟩
    · split at h <;> cases h

theorem number_small {b : Nat} {s : Bool} {m : Nat} {e : Int} (h : D.read b = .number s m e) : m * pw (e + 1074).toNat < TOP := by
  obtain ⟨_, h1, h2, h3⟩ := read_shape h
  have h4 : pw (e + 1074).toNat ≤ pw 2045 := pw_le (by omega)
  have h5 : m * pw (e + 1074).toNat ≤ pw 53 * pw 2045 := Nat.mul_le_mul (Nat.le_of_lt (show m < 2 ^ 53 from h1)) h4
  rw [← pw_add] at h5
  exact Nat.lt_of_le_of_lt h5 (pw_lt (by decide))

theorem TOP_pos : 0 < TOP := pw_pos _

theorem order_numbers (s t : Bool) (m n : Nat) (i j : Int) (hi : -1074 ≤ i) (hj : -1074 ≤ j) :
    Datum.order (.number s m i) (.number t n j) = some (compare (signed s m (i + 1074).toNat) (signed t n (j + 1074).toNat)) := by
  have e1 : (i + 1074).toNat = (i - min i j).toNat + (min i j + 1074).toNat := by omega
  have e2 : (j + 1074).toNat = (j - min i j).toNat + (min i j + 1074).toNat := by omega
  rw [e1, e2, signed_add, signed_add, compare_scale _ _ _ (pw_pos _)]
  rfl

theorem order_val {b c : Nat} (hb : isNan b = false) (hc : isNan c = false) : D.order b c = some (compare (val b) (val c)) := by
  unfold Format.order val
  have hT := TOP_pos
  rcases read_real hb with ⟨s, m, i, h1⟩ | ⟨s, h1⟩ <;> rcases read_real hc with ⟨t, n, j, h2⟩ | ⟨t, h2⟩
  · rw [h1, h2, order_numbers _ _ _ _ _ _ (read_shape h1).2.2.1 (read_shape h2).2.2.1]
    rfl
  · have := number_small h1
    rw [h1, h2]
    simp only [Datum.order, worth, signed_eq]
    generalize m * pw (i + 1074).toNat = x at this ⊢
    cases t
    · rw [compare_lt (by cases s <;> simp only [Bool.false_eq_true, if_false, if_true] <;> omega)]; rfl
    · rw [compare_gt (by cases s <;> simp only [Bool.false_eq_true, if_false, if_true] <;> omega)]; rfl
  · have := number_small h2
    rw [h1, h2]
    simp only [Datum.order, worth, signed_eq]
    generalize n * pw (j + 1074).toNat = x at this ⊢
    cases s
    · rw [compare_gt (by cases t <;> simp only [Bool.false_eq_true, if_false, if_true] <;> omega)]; rfl
    · rw [compare_lt (by cases t <;> simp only [Bool.false_eq_true, if_false, if_true] <;> omega)]; rfl
  · rw [h1, h2]
    simp only [Datum.order, worth]
    cases s <;> cases t <;> simp only [Bool.false_eq_true, if_false, if_true]
    · rw [compare_same rfl]; rfl
    · rw [compare_gt (by omega)]; rfl
    · rw [compare_lt (by omega)]; rfl
    · rw [compare_same rfl]; rfl

theorem lt_val {b c : Nat} (hb : isNan b = false) (hc : isNan c = false) : (D.order b c == some .lt) = decide (val b < val c) := by
  rw [order_val hb hc, compare_int]
  by_cases h1 : val b < val c
  · simp [h1]
  · by_cases h2 : val b = val c <;> simp [h1, h2]

theorem ge_val {b c : Nat} (hb : isNan b = false) (hc : isNan c = false) : (D.order b c == some .gt || D.order b c == some .eq) = decide (val c ≤ val b) := by
  rw [order_val hb hc, compare_int]
  by_cases h1 : val b < val c
  · simp [h1]
  · by_cases h2 : val b = val c <;> simp [h1, h2] <;> omega

theorem nan_ge {b c : Nat} (h : isNan b = true ∨ isNan c = true) : (D.order b c == some .gt || D.order b c == some .eq) = false := by rw [order_nan h]; rfl

/-! The other sign. -/
theorem xor_up (r : Nat) (h : r < 9223372036854775808) : r ^^^ 9223372036854775808 = 9223372036854775808 + r := by
  apply Nat.eq_of_testBit_eq
  intro j
  have e := Nat.testBit_two_pow_mul_add 1 (show r < 2 ^ 63 from h) j
  rw [Nat.mul_one] at e
  rw [show 9223372036854775808 + r = 2 ^ 63 + r from rfl, e, Nat.testBit_xor, show (9223372036854775808 : Nat) = 2 ^ 63 from rfl, Nat.testBit_two_pow]
  by_cases hj : j < 63
  · simp [hj, show ¬ 63 = j by omega]
  · have : r.testBit j = false := Nat.testBit_lt_two_pow (Nat.lt_of_lt_of_le h (show 2 ^ 63 ≤ 2 ^ j from Nat.pow_le_pow_right (by decide) (by omega)))
    rw [this, if_neg hj]
    by_cases h63 : 63 = j
    · subst h63; rfl
    · have : (1 : Nat).testBit (j - 63) = false := by
        apply Nat.testBit_lt_two_pow
        exact Nat.one_lt_two_pow (by omega)
      simp [this, h63]

theorem xor_flip (x : Nat) (h : x < 18446744073709551616) : x ^^^ 9223372036854775808 = if x < 9223372036854775808 then x + 9223372036854775808 else x - 9223372036854775808 := by
  split
  · rename_i h1
    rw [xor_up x h1]; omega
  · rename_i h1
    have h2 := xor_up (x - 9223372036854775808) (by omega)
    have h3 : x = (x - 9223372036854775808) ^^^ 9223372036854775808 := by rw [h2]; omega
    have h4 : x ^^^ 9223372036854775808 = ((x - 9223372036854775808) ^^^ 9223372036854775808) ^^^ 9223372036854775808 := by rw [← h3]
    rw [h4, Nat.xor_assoc, Nat.xor_self, Nat.xor_zero]

theorem flip_nan (x : Nat) (h : x < 18446744073709551616) : isNan (if x < 9223372036854775808 then x + 9223372036854775808 else x - 9223372036854775808) = isNan x := by
  unfold isNan
  have e : (if x < 9223372036854775808 then x + 9223372036854775808 else x - 9223372036854775808) % 9223372036854775808 = x % 9223372036854775808 := by split <;> omega
  rw [e]

theorem home_flip (a : Nat) (h : a < 18446744073709551616) : home (home a ^^^ 9223372036854775808) = fneg a := by
  rw [xor_flip _ (home_lt h)]
  unfold fneg
  cases hn : isNan a
  · rw [home_real hn, home_real (by rw [flip_nan a h, hn])]
    simp
  · rw [home_nan hn]
    show home (if NAN < 9223372036854775808 then NAN + 9223372036854775808 else NAN - 9223372036854775808) = NAN
    decide

theorem fneg_lt {a : Nat} (h : a < 18446744073709551616) : fneg a < 18446744073709551616 := by
  unfold fneg; split
  · decide
  · split <;> omega

theorem isNan_fneg {a : Nat} (h : a < 18446744073709551616) : isNan (fneg a) = isNan a := by
  unfold fneg
  cases hn : isNan a
  · simp only [Bool.false_eq_true, if_false]
    rw [flip_nan a h, hn]
  · rfl

theorem fneg_fneg {a : Nat} (h : a < 18446744073709551616) : fneg (fneg a) = home a := by
  cases hn : isNan a
  · rw [home_real hn]
    have h1 : isNan (fneg a) = false := by rw [isNan_fneg h, hn]
    have e : fneg a = if a < 9223372036854775808 then a + 9223372036854775808 else a - 9223372036854775808 := by unfold fneg; simp [hn]
    have e2 : fneg (fneg a) = if fneg a < 9223372036854775808 then fneg a + 9223372036854775808 else fneg a - 9223372036854775808 := by rw [fneg, h1]; simp
    rw [e2]
    split at e <;> split <;> omega
  · rw [home_nan hn]
    have : fneg a = NAN := by simp [fneg, hn]
    rw [this]; decide

/-! The whole part. -/
theorem cut_zero (s : Bool) (n d : Nat) : Toward.cut .zero s n d = n / 2 ^ d := by
  simp only [Toward.cut, Bool.toNat_false, Nat.add_zero, Nat.shiftLeft_eq, Nat.one_mul]
  by_cases h : d ≤ n.log2 + 2
  · rw [Nat.min_eq_left h]
  · rw [Nat.min_eq_right (by omega)]
    have h0 : n < 2 ^ (n.log2 + 1) := Nat.lt_log2_self
    have h1 : n < 2 ^ (n.log2 + 2) := Nat.lt_of_lt_of_le h0 (Nat.pow_le_pow_right (by decide) (by omega))
    have h2 : n < 2 ^ d := Nat.lt_of_lt_of_le h0 (Nat.pow_le_pow_right (by decide) (by omega))
    rw [Nat.div_eq_of_lt h1, Nat.div_eq_of_lt h2]

/-- The whole part of what a datum is worth. -/
theorem toInt_number (s : Bool) (m : Nat) (e : Int) (he : -1074 ≤ e) : Datum.toInt .zero (.number s m e) = some (if s then -((m * pw (e + 1074).toNat / pw 1074 : Nat) : Int) else ((m * pw (e + 1074).toNat / pw 1074 : Nat) : Int)) := by
  have key : (m <<< e.toNat) / 2 ^ (-e).toNat = m * pw (e + 1074).toNat / pw 1074 := by
    rw [Nat.shiftLeft_eq]
    by_cases h : 0 ≤ e
    · have h1 : pw (e + 1074).toNat = 2 ^ e.toNat * pw 1074 := by rw [← pw_def, ← pw_add]; congr 1; omega
      rw [show (-e).toNat = 0 by omega, h1, ← Nat.mul_assoc, Nat.mul_div_cancel _ (pw_pos _)]
      simp
    · have h1 : (e + 1074).toNat + (-e).toNat = 1074 := by omega
      have h2 : pw 1074 = pw (e + 1074).toNat * 2 ^ (-e).toNat := by rw [← pw_def, ← pw_add, h1]
      rw [h2, Nat.mul_comm m (pw (e + 1074).toNat), Nat.mul_div_mul_left _ _ (pw_pos _), show e.toNat = 0 by omega]
      simp
  simp only [Datum.toInt, Datum.integral, cut_zero, key, signed_eq, pw, Nat.pow_zero, Nat.mul_one]

/-- 2^63 and -2^63 as reals. -/
def B63 : Nat := 4890909195324358656
def N63 : Nat := 14114281232179134464
theorem val_B63 : val B63 = ((9223372036854775808 * pw 1074 : Nat) : Int) := by
  have : D.read B63 = .number false 4503599627370496 11 := by decide
  unfold val
  rw [this]
  simp only [worth, signed_eq, Bool.false_eq_true, if_false]
  rw [show ((11 : Int) + 1074).toNat = 11 + 1074 from rfl, pw_add, ← Nat.mul_assoc, show 4503599627370496 * pw 11 = 9223372036854775808 from rfl]
theorem val_N63 : val N63 = -((9223372036854775808 * pw 1074 : Nat) : Int) := by
  have : D.read N63 = .number true 4503599627370496 11 := by decide
  unfold val
  rw [this]
  simp only [worth, signed_eq, if_true]
  rw [show ((11 : Int) + 1074).toNat = 11 + 1074 from rfl, pw_add, ← Nat.mul_assoc, show 4503599627370496 * pw 11 = 9223372036854775808 from rfl]

/-- The whole part towards 0. -/
def trunc (v : Int) : Int := if v < 0 then -((v.natAbs / pw 1074 : Nat) : Int) else ((v.natAbs / pw 1074 : Nat) : Int)

theorem whole_val {b : Nat} (hb : isNan b = false) (h1 : val b < val B63) (h2 : val N63 ≤ val b) : floatToIntVal .f64 b .i64 = some (trunc (val b)) := by
  have hp : 0 < pw 1074 := pw_pos _
  rcases read_real hb with ⟨s, m, e, hr⟩ | ⟨s, hr⟩
  · obtain ⟨_, _, he, _⟩ := read_shape hr
    have hv : val b = signed s m (e + 1074).toNat := by unfold val; rw [hr]; rfl
    rw [val_B63, hv] at h1
    rw [val_N63, hv] at h2
    have ht : Datum.toInt .zero (FloatKind.f64.decode b) = _ := (congrArg _ hr).trans (toInt_number s m e he)
    unfold floatToIntVal
    rw [ht, hv]
    rw [signed_eq] at h1 h2 ⊢
    simp only [trunc]
    generalize m * pw (e + 1074).toNat = x at h1 h2 ⊢
    generalize pw 1074 = K at h1 h2 hp ⊢
    cases s
    · simp only [Bool.false_eq_true, if_false] at h1 h2 ⊢
      have hx : x / K < 9223372036854775808 := (Nat.div_lt_iff_lt_mul hp).2 (by omega)
      have hm : IntKind.i64.min = -9223372036854775808 := rfl
      have hM : IntKind.i64.max = 9223372036854775807 := rfl
      rw [Int.natAbs_natCast]
      generalize x / K = y at hx ⊢
      rw [hm, hM, if_pos ⟨by omega, by omega⟩, if_neg (by omega)]
    · simp only [if_true] at h1 h2 ⊢
      have hx : x / K ≤ 9223372036854775808 := (Nat.div_le_iff_le_mul_add_pred hp).2 (by rw [Nat.mul_comm]; omega)
      have hm : IntKind.i64.min = -9223372036854775808 := rfl
      have hM : IntKind.i64.max = 9223372036854775807 := rfl
      rw [Int.natAbs_neg, Int.natAbs_natCast]
      have h0 : x = 0 → x / K = 0 := fun h => by rw [h]; exact Nat.zero_div _
      generalize x / K = y at hx h0 ⊢
      rw [hm, hM, if_pos ⟨by omega, by omega⟩]
      by_cases h00 : x = 0
      · rw [if_neg (by omega), h0 h00]; rfl
      · rw [if_pos (by omega)]
  · exfalso
    have hT : 9223372036854775808 * pw 1074 < TOP := by
      rw [show (9223372036854775808 : Nat) = pw 63 from rfl, ← pw_add]
      exact pw_lt (by decide)
    have hv : val b = if s then -(TOP : Int) else (TOP : Int) := by unfold val; rw [hr]; rfl
    rw [val_B63, hv] at h1
    rw [val_N63, hv] at h2
    cases s <;> simp only [Bool.false_eq_true, if_false, if_true] at h1 h2 <;> omega

end Go.Proofs.YtjgggmjjikopeaaGreatDoor

/- real's small functions, and the document's own: what they tell, as plain functions of words. -/
namespace Go.Proofs.YtjgggmjjikopeaaGreatDoor
open Go.RowKit
set_option linter.unusedVariables false

theorem nat_beq (a b : Nat) : ((a : Int) == (b : Int)) = (a == b) := by
  rw [Bool.eq_iff_iff]
  simp only [beq_iff_eq]
  omega

theorem cut_nan (x y t : Nat) : isNan (Question.cut (.nanBits .f64 x y) t) = true ∧ Question.cut (.nanBits .f64 x y) t < 18446744073709551616 := by
  have h1 : t % 2 < 2 := Nat.mod_lt _ (by decide)
  have h2 : t / 2 % (2 ^ 52 - 1) < 2 ^ 52 - 1 := Nat.mod_lt _ (by decide)
  have e : Question.cut (.nanBits .f64 x y) t = (t % 2) * 2 ^ 63 + 0x7ff0000000000000 + 1 + (t / 2) % (2 ^ 52 - 1) := rfl
  rw [e]
  generalize t / 2 % (2 ^ 52 - 1) = r at h2 ⊢
  generalize t % 2 = s at h1 ⊢
  refine ⟨?_, by omega⟩
  simp only [isNan, decide_eq_true_eq]
  omega

/-- An operation that has no answer: a NaN whose bits the tape gives. -/
theorem run_float_none {P : Program} (w : World) (op : BinOp) (hop : op = .add ∨ op = .sub ∨ op = .mul ∨ op = .quo) (x y : Nat) (h : floatBits op .f64 x y = none) :
    ∃ b, isNan b = true ∧ b < 18446744073709551616 ∧ ∀ t, (binOp op t (.float .f64 x) (.float .f64 y)).run P w = .ok (.float .f64 b) w.drew := by
  refine ⟨Question.cut (.nanBits .f64 x y) (w.tape w.drawn (.nanBits .f64 x y)), (cut_nan x y _).1, (cut_nan x y _).2, fun t => ?_⟩
  unfold floatBits at h
  rcases hop with rfl | rfl | rfl | rfl <;> simp only at h <;> simp [binOp, Op.floatArith, h, Question.forced]

/-- Whatever it is: what is told of it, and that at most the tape was asked. -/
theorem run_float_any {P : Program} (w : World) (op : BinOp) (hop : op = .add ∨ op = .sub ∨ op = .mul ∨ op = .quo) (x y : Nat) :
    ∃ b q, home b = told (floatBits op .f64 x y) ∧ ∀ t, (binOp op t (.float .f64 x) (.float .f64 y)).run P w = .ok (.float .f64 b) (w.drewN q) := by
  cases h : floatBits op .f64 x y with
  | some r => exact ⟨r, 0, rfl, fun t => by rw [run_float_arith w op t .f64 x y r h]; rfl⟩
  | none =>
    obtain ⟨b, h1, h2, h3⟩ := run_float_none (P := P) w op hop x y h
    exact ⟨b, 1, home_nan h1, fun t => by rw [h3]; rfl⟩

theorem cf_bits (b : Nat) : ∀ w, Sem.run Tryz.prog (callFunc 191 #[.float .f64 b]) w = .ok (.value (.int .u64 b)) w := fun w => by
  rw [run_callFunc_extern Tryz.func191 (by kernel_rfl) (by kernel_rfl) (by kernel_rfl) (e := Extern.MathFloatBits.float64bits) (by kernel_rfl)]
  rfl

theorem cf_from (b : Nat) : ∀ w, Sem.run Tryz.prog (callFunc 196 #[.int .u64 (b : Int)]) w = .ok (.value (.float .f64 b)) w := fun w => by
  rw [run_callFunc_extern Tryz.func196 (by kernel_rfl) (by kernel_rfl) (by kernel_rfl) (e := Extern.MathFloatBits.float64frombits) (by kernel_rfl)]
  rfl

theorem bitsOf_any (b : Nat) (w : World) : Calls Tryz.prog 189 #[.float .f64 b] w fun e w' => e = .returned (.int .u64 (home b : Nat)) ∧ w' = w := by
  have hcf := cf_bits b
  have hneq : (FloatKind.f64.format.order b b != some .eq) = isNan b := neq_self b
  cases h : isNan b
  · rw [home_real h]
    rw [h] at hneq
    go_enter Tryz.func189, Tryz.ntmps189
    go_wp2
    go_ret
    exact ⟨rfl, rfl⟩
  · rw [home_nan h]
    rw [h] at hneq
    go_enter Tryz.func189, Tryz.ntmps189
    go_wp2
    go_ret
    exact ⟨rfl, rfl⟩

theorem canon_any (b : Nat) (w : World) : Calls Tryz.prog 173 #[.int .u64 (b : Int)] w fun e w' => e = .returned (.int .u64 (home b : Nat)) ∧ w' = w := by
  have hcf := cf_from b
  go_enter Tryz.func173, Tryz.ntmps173
  go_wp2_with fail
  refine (bitsOf_any b _).mono ?_
  rintro e w1 ⟨rfl, rfl⟩
  go_wp2
  go_ret
  exact ⟨rfl, rfl⟩

theorem number_any (b : Nat) (w : World) : Calls Tryz.prog 190 #[.int .u64 (b : Int)] w fun e w' => e = .returned (.float .f64 (home b)) ∧ w' = w := by
  have hcf := cf_from (home b)
  go_enter Tryz.func190, Tryz.ntmps190
  go_wp2_with fail
  refine (canon_any b _).mono ?_
  rintro e w1 ⟨rfl, rfl⟩
  go_wp2
  go_ret
  exact ⟨rfl, rfl⟩

theorem may_any (b : Nat) (w : World) (h : b < 18446744073709551616) : Calls Tryz.prog 149 #[.int .u64 (b : Int)] w fun e w' => e = .returned (.bool (home b == b)) ∧ w' = w := by
  have hh := home_lt h
  go_enter Tryz.func149, Tryz.ntmps149
  go_wp2_with fail
  refine (canon_any b _).mono ?_
  rintro e w1 ⟨rfl, rfl⟩
  go_wp2
  go_ret
  exact ⟨by rw [← nat_beq]; rfl, rfl⟩

end Go.Proofs.YtjgggmjjikopeaaGreatDoor

/- Blocks of arrays and structs as lists of cells, and steps of a walk over whole ones: the world behind a step is a letter, with what is known of it. -/
namespace Go.Proofs.YtjgggmjjikopeaaGreatDoor
open Go.RowKit
set_option linter.unusedVariables false

/-- A block of any type, its cells known. -/
def At (t : TypeId) (w : World) (g : Nat) (cs : List Value) : Prop := w.heap[g]? = some (.cells cs.toArray t (0, 0))

section
variable {t : TypeId} {w : World} {g : Nat} {cs : List Value}
theorem At.cell (h : At t w g cs) (i : Nat) : w.cell? ⟨g, i, none⟩ = cs[i]? := by
  simp [World.cell?, show w.heap[g]? = _ from h]
theorem At.frozen (h : At t w g cs) (i : Nat) : w.frozen? ⟨g, i, none⟩ = false := by
  simp [World.frozen?, show w.heap[g]? = _ from h]
theorem At.lt (h : At t w g cs) : g < w.heap.size := by
  rcases Nat.lt_or_ge g w.heap.size with hlt | hge
  · exact hlt
  · unfold At at h; rw [Array.getElem?_eq_none hge] at h; simp at h
theorem At.set (h : At t w g cs) (i : Nat) (v : Value) : At t (w.setCell ⟨g, i, none⟩ v) g (cs.set i v) := by
  have := heap_setCell_same w g i cs.toArray t v h
  unfold At
  rw [this]
  simp
theorem At.below {w' : World} (h : At t w g cs) (hb : Below w.heap.size w w') : At t w' g cs := by
  unfold At
  rw [hb.block g h.lt]
  exact h
theorem At.drewN (h : At t w g cs) (n : Nat) : At t (w.drewN n) g cs := h
theorem At.drew (h : At t w g cs) : At t w.drew g cs := h
end

/-- All blocks but one are as they were. -/
structure But (g : Nat) (w w' : World) : Prop where
  os : w'.os = w.os
  tape : w'.tape = w.tape
  output : w'.output = w.output
  size : w.heap.size ≤ w'.heap.size
  block : ∀ k, k < w.heap.size → k ≠ g → w'.heap[k]? = w.heap[k]?

theorem But.refl (g : Nat) (w : World) : But g w w := ⟨rfl, rfl, rfl, Nat.le_refl _, fun _ _ _ => rfl⟩
theorem But.trans {g : Nat} {a b c : World} (h : But g a b) (k : But g b c) : But g a c :=
  ⟨k.os.trans h.os, k.tape.trans h.tape, k.output.trans h.output, Nat.le_trans h.size k.size, fun i hi hn => (k.block i (Nat.lt_of_lt_of_le hi h.size) hn).trans (h.block i hi hn)⟩
theorem But.of_below {g : Nat} {w w' : World} (h : Below w.heap.size w w') : But g w w' := ⟨h.os, h.tape, h.output, h.size, fun k hk _ => h.block k hk⟩
theorem But.below {g B : Nat} {w0 w w' : World} (h : But g w w') (hb : Below B w0 w) (hB : B ≤ g) (hs : B ≤ w.heap.size) : Below B w0 w' :=
  ⟨h.os.trans hb.os, h.tape.trans hb.tape, h.output.trans hb.output, Nat.le_trans hb.size h.size, fun k hk => (h.block k (by omega) (by omega)).trans (hb.block k hk)⟩
theorem But.at {t : TypeId} {g k : Nat} {w w' : World} {cs : List Value} (h : But g w w') (ha : At t w k cs) (hn : k ≠ g) : At t w' k cs := by
  unfold At
  rw [h.block k ha.lt hn]
  exact ha
theorem But.drewN {g : Nat} {a w : World} (h : But g a w) (n : Nat) : But g a (w.drewN n) := ⟨h.os, h.tape, h.output, h.size, h.block⟩
theorem But.setCell {g : Nat} {a w : World} (h : But g a w) (i : Nat) (v : Value) : But g a (w.setCell ⟨g, i, none⟩ v) :=
  ⟨h.os, h.tape, h.output, by simpa using h.size, fun k hk hn => by rw [heap_setCell_other w ⟨g, i, none⟩ k v hn]; exact h.block k hk hn⟩
theorem But.row {g : Nat} {w w' : World} (h : But g w w') {a : Option Addr} {bs : List UInt8} (hr : Row w a bs) (hn : ∀ b off, a = some ⟨b, off, none⟩ → b ≠ g) : Row w' a bs := by
  rcases hr with hr | ⟨b, off, rfl, hc⟩
  · exact .inl hr
  · exact .inr ⟨b, off, rfl, fun j hj => by rw [World.cell?_of_block (w := w) (h.block b (lt_of_cell (hc j hj)) (hn b off rfl))]; exact hc j hj⟩
section
variable {P : Program} {ops : Array Oper} {rest : List Oper} {o : Oper} {a : Act} {w : World} {Q : Exit → Act → World → Prop}

/-- A whole array or struct is laid into a new block. -/
theorem wpList_box_at (hgd : o.guard = none) (t : TypeId) (x : Operand) (ho : o.op = .box t x) (cs : List Value) (hx : a.eval x = .agg cs.toArray)
    (h : ∀ w', At t w' w.heap.size cs → Below w.heap.size w w' → w'.heap.size = w.heap.size + 1 → wpList P ops Q rest (a.put o.dst (.pointer (some ⟨w.heap.size, 0, none⟩))) w') :
    wpList P ops Q (o :: rest) a w := by
  refine wpList_plain hgd fun K hK => ?_
  have := hK _ _ (h (w.alloc (.cells cs.toArray t)) (_root_.Go.heap_alloc_new w _) ((Below.refl _ w).alloc (Nat.le_refl _) _) (by show (w.heap.push _).size = _; simp))
  unfold Oper.wp execOp
  simp only [ho, hx, Instr.box, Sem.run_bind]
  simpa [newVar, go_sem, Value.cells] using this

/-- A new block with the zero value of its type. -/
theorem wpList_alloc_at (hgd : o.guard = none) (t : TypeId) (ho : o.op = .alloc t) (cs : List Value) (n : Nat) (hz : (P.info? t).map (fun i => (i.zero, i.size)) = some (some (.agg cs.toArray), n))
    (h : ∀ w', At t w' w.heap.size cs → Below w.heap.size w w' → w'.heap.size = w.heap.size + 1 → wpList P ops Q rest (a.put o.dst (.pointer (some ⟨w.heap.size, 0, none⟩))) w') :
    wpList P ops Q (o :: rest) a w := by
  refine wpList_plain hgd fun K hK => ?_
  have := hK _ _ (h (w.alloc (.cells cs.toArray t)) (_root_.Go.heap_alloc_new w _) ((Below.refl _ w).alloc (Nat.le_refl _) _) (by show (w.heap.push _).size = _; simp))
  have h0 := (zero_of_info hz).1
  unfold Oper.wp execOp
  simp only [ho, Instr.alloc, Sem.run_bind, h0]
  simpa [newVar, go_sem, Value.cells] using this

/-- A whole array or struct is stored into a block that holds one. -/
theorem wpList_store_at (hgd : o.guard = none) (ty : TypeId) (x y : Operand) (ho : o.op = .store ty x y)
    (g : Nat) (cs : List Value) (hx : a.eval x = .pointer (some ⟨g, 0, none⟩)) (hy : a.eval y = .agg cs.toArray)
    (t : TypeId) (old : List Value) (hg : At t w g old) (hi : (P.info? ty).map (·.size) = some cs.length) (hold : old.length = cs.length) (h1 : ∀ v ∈ cs, v.oneCell' = true)
    (h : ∀ w', At t w' g cs → But g w w' → w'.heap.size = w.heap.size → wpList P ops Q rest (a.put o.dst undef) w') : wpList P ops Q (o :: rest) a w := by
  refine wpList_store_row hgd ty x y ho g cs.toArray hx hy t old.toArray hg (by simpa using hi) (by simpa using hold) (by simpa using h1) ?_
  refine h _ (setRow_heap w g _ _ t _ hg) ⟨rfl, rfl, rfl, by simp, fun k _ hn => setRow_other w g k _ hn⟩ (by simp)

/-- A whole array or struct is made. -/
theorem wpList_build_at (hgd : o.guard = none) (t : TypeId) (parts : Array (Nat × Operand)) (ho : o.op = .build t parts) (cs : List Value)
    (hb : P.built t (parts.map fun (i, x) => (i, a.eval x)).toList = some cs.toArray)
    (h : wpList P ops Q rest (a.put o.dst (.agg cs.toArray)) w) : wpList P ops Q (o :: rest) a w :=
  wpList_build hgd t parts ho (by rw [hb]; rfl) (by rw [hb]; exact h)

/-- A whole array or struct is read. -/
theorem wpList_load_at (hgd : o.guard = none) (ty : TypeId) (x : Operand) (ho : o.op = .load ty x)
    (g : Nat) (hx : a.eval x = .pointer (some ⟨g, 0, none⟩)) (t : TypeId) (cs : List Value) (hg : At t w g cs) (d : TypeDesc)
    (hu : P.underlying ty = some d) (hd : (match d with | .struct _ | .array _ _ => true | _ => false) = true) (hi : (P.info? ty).map (·.size) = some cs.length)
    (h : wpList P ops Q rest (a.put o.dst (.agg cs.toArray)) w) : wpList P ops Q (o :: rest) a w :=
  wpList_load_row hgd ty x ho g hx t cs.toArray (0, 0) d hg hu hd (by simpa using hi) h
end

theorem At.range {t : TypeId} {w : World} {g : Nat} {cs : List Value} (h : At t w g cs) (o n : Nat) : w.rangeAt g o ((cs.drop o).take n) := by
  intro j v hj
  rw [h.cell]
  rw [List.getElem?_take] at hj
  split at hj
  · rw [List.getElem?_drop] at hj; exact hj
  · simp at hj

theorem At.there {t : TypeId} {w : World} {g : Nat} {cs : List Value} (h : At t w g cs) (o n : Nat) (hn : o + n ≤ cs.length) : w.there g o n := by
  intro j hj
  rw [h.cell, h.frozen]
  simp
  omega

/-- A struct of two cells is stored into the middle of a block. -/
theorem wpList_store_two {P : Program} {ops : Array Oper} {rest : List Oper} {o : Oper} {a : Act} {w : World} {Q : Exit → Act → World → Prop} (hgd : o.guard = none) (ty : TypeId) (x y : Operand) (ho : o.op = .store ty x y)
    (g off : Nat) (v0 v1 : Value) (hx : a.eval x = .pointer (some ⟨g, off, none⟩)) (hy : a.eval y = .agg [v0, v1].toArray)
    (t : TypeId) (old : List Value) (hg : At t w g old) (hold : off + 2 ≤ old.length) (hi : (P.info? ty).map (·.size) = some 2) (h1 : ∀ v ∈ [v0, v1], v.oneCell' = true)
    (h : ∀ w', At t w' g ((old.set off v0).set (off + 1) v1) → But g w w' → w'.heap.size = w.heap.size → wpList P ops Q rest (a.put o.dst undef) w') : wpList P ops Q (o :: rest) a w := by
  refine wpList_store_mid hgd ty x y ho g off [v0, v1].toArray hx hy (hg.there off 2 hold) (by simpa using hi) (all_oneCell_toArray h1) ?_
  refine h _ ((hg.set off v0).set (off + 1) v1) (((But.refl g w).setCell off v0).setCell (off + 1) v1) ?_
  show ((w.setCell ⟨g, off, none⟩ v0).setCell ⟨g, off + 1, none⟩ v1).heap.size = _
  simp

theorem results_at {P : Program} {fn : Func} {p : Tmp} {ty : TypeId} (h : fn.results = #[.cell p ty]) (tmps : Array Value) (w : World) (g : Nat) (t : TypeId) (cs : List Value) (d : TypeDesc)
    (hp : tmps.getD p undef = .pointer (some ⟨g, 0, none⟩)) (hg : At t w g cs)
    (hu : P.underlying ty = some d) (hd : (match d with | .struct _ | .array _ _ => true | _ => false) = true) (hi : (P.info? ty).map (·.size) = some cs.length) :
    (results fn tmps).run P w = .ok (.agg cs.toArray) w :=
  results_cell_row h tmps w g t cs.toArray (0, 0) d hp hg hu hd (by simpa using hi)
end Go.Proofs.YtjgggmjjikopeaaGreatDoor

/- Rounding: which word is nearest to a number, what it is worth, and where it is exact: no program is named here. -/
namespace Go.Proofs.YtjgggmjjikopeaaGreatDoor
open Ieee
set_option linter.unusedVariables false

/-- 'n / 2^d', to the nearest whole number, of two as near the even one. -/
def rne (n d : Nat) : Nat := n / pw d + if pw d < 2 * (n % pw d) ∨ (pw d = 2 * (n % pw d) ∧ n / pw d % 2 = 1) then 1 else 0

theorem gap_eq (n d : Nat) : ((1 <<< min d (n.log2 + 2)) = pw d) ∨ (n / pw d = 0 ∧ n % pw d = n ∧ 2 * n < pw d ∧ n / (1 <<< min d (n.log2 + 2)) = 0 ∧ n % (1 <<< min d (n.log2 + 2)) = n ∧ 2 * n < (1 <<< min d (n.log2 + 2))) := by
  rw [Nat.shiftLeft_eq, Nat.one_mul]
  by_cases h : d ≤ n.log2 + 2
  · left; rw [Nat.min_eq_left h]; rfl
  · right
    rw [Nat.min_eq_right (by omega)]
    have h0 : n < 2 ^ (n.log2 + 1) := Nat.lt_log2_self
    have e2 : 2 ^ (n.log2 + 2) = 2 ^ (n.log2 + 1) * 2 := Nat.pow_succ 2 _
    have h2 : 2 ^ (n.log2 + 2) ≤ pw d := Nat.pow_le_pow_right (by decide) (by omega)
    refine ⟨Nat.div_eq_of_lt (by omega), Nat.mod_eq_of_lt (by omega), by omega, Nat.div_eq_of_lt (by omega), Nat.mod_eq_of_lt (by omega), by omega⟩

theorem cut_even (s : Bool) (n d : Nat) : Toward.cut .even s n d = rne n d := by
  have key : ∀ g : Nat, (g = pw d) ∨ (n / pw d = 0 ∧ n % pw d = n ∧ 2 * n < pw d ∧ n / g = 0 ∧ n % g = n ∧ 2 * n < g) →
      n / g + (decide (g < 2 * (n % g)) || (g == 2 * (n % g) && n / g % 2 == 1)).toNat = rne n d := by
    intro g hg
    rcases hg with rfl | ⟨h1, h2, h3, h4, h5, h6⟩
    · unfold rne
      by_cases c1 : pw d < 2 * (n % pw d)
      · simp [c1]
      · by_cases c2 : pw d = 2 * (n % pw d)
        · by_cases c3 : n / pw d % 2 = 1
          · rw [if_pos (.inr ⟨c2, c3⟩), decide_eq_false c1, show (pw d == 2 * (n % pw d)) = true by simpa using c2, show (n / pw d % 2 == 1) = true by simpa using c3]; rfl
          · rw [if_neg (by rintro (h | ⟨_, h⟩); exact c1 h; exact c3 h), decide_eq_false c1, show (n / pw d % 2 == 1) = false by simpa using c3, Bool.and_false]; rfl
        · rw [if_neg (by rintro (h | ⟨h, _⟩); exact c1 h; exact c2 h), decide_eq_false c1, show (pw d == 2 * (n % pw d)) = false by simpa using c2, Bool.false_and]; rfl
    · unfold rne
      rw [h1, h2, h4, h5, if_neg (by rintro (h | ⟨h, _⟩) <;> omega), decide_eq_false (by omega), show (g == 2 * n) = false by rw [beq_eq_false_iff_ne]; omega]
      rfl
  exact key _ (gap_eq n d)

theorem rne_zero (n : Nat) : rne n 0 = n := by
  unfold rne
  have : pw 0 = 1 := rfl
  rw [this, Nat.div_one, Nat.mod_one, if_neg (by omega)]; rfl

/-- It is off by half at most. -/
theorem rne_near (n d : Nat) : 2 * (rne n d * pw d) ≤ 2 * n + pw d ∧ 2 * n ≤ 2 * (rne n d * pw d) + pw d := by
  unfold rne
  have h := Nat.div_add_mod n (pw d)
  have hp := pw_pos d
  have hm := Nat.mod_lt n hp
  generalize n / pw d = q at h ⊢
  generalize n % pw d = r at h hm ⊢
  generalize pw d = P at h hp hm ⊢
  have e : (q + 1) * P = P * q + P := by rw [Nat.add_mul, Nat.mul_comm q]; omega
  have e0 : (q + 0) * P = P * q := by rw [Nat.add_zero, Nat.mul_comm]
  split
  · rw [e]; omega
  · rename_i hc
    rw [e0]
    have : 2 * r ≤ P := by omega
    omega

/-- The place of the last digit that is kept, and what is kept. -/
def lastOf (m : Nat) (p : Int) : Int := max (p + m.log2 - 52) (-1074)
def keptOf (m : Nat) (p : Int) : Nat := rne (m * pw (p - lastOf m p).toNat) (lastOf m p - p).toNat

theorem nearest_eq (s : Bool) (m : Nat) (p : Int) (hm : m ≠ 0) : D.nearest s m p = D.word s (min ((lastOf m p + 1074).toNat * 4503599627370496 + keptOf m p) 9218868437227405312) := by
  unfold Format.nearest
  rw [if_neg hm]
  simp only [cut_even, Nat.shiftLeft_eq]
  rfl

theorem log2_bounds (m : Nat) (hm : m ≠ 0) : pw m.log2 ≤ m ∧ m < pw (m.log2 + 1) := ⟨Nat.log2_self_le hm, Nat.lt_log2_self⟩

theorem last_ge (m : Nat) (p : Int) : -1074 ≤ lastOf m p := by unfold lastOf; omega

/-- What is kept has at most 53 digits, or is 2^53; and 53 of them where the place is not the least. -/
theorem kept_bounds (m : Nat) (p : Int) (hm : m ≠ 0) : keptOf m p ≤ 9007199254740992 ∧ (lastOf m p = -1074 ∨ 4503599627370496 ≤ keptOf m p) := by
  obtain ⟨h1, h2⟩ := log2_bounds m hm
  have hl : p + m.log2 - 52 ≤ lastOf m p := by unfold lastOf; omega
  have hl2 : lastOf m p = -1074 ∨ lastOf m p = p + m.log2 - 52 := by unfold lastOf; omega
  unfold keptOf
  by_cases ht : lastOf m p ≤ p
  · rw [show (lastOf m p - p).toNat = 0 by omega, rne_zero]
    have e1 : m * pw (p - lastOf m p).toNat < pw (m.log2 + 1) * pw (p - lastOf m p).toNat := Nat.mul_lt_mul_of_pos_right h2 (pw_pos _)
    rw [← pw_add] at e1
    have e2 : pw (m.log2 + 1 + (p - lastOf m p).toNat) ≤ pw 53 := pw_le (by omega)
    have e3 : pw 53 = 9007199254740992 := rfl
    refine ⟨by omega, ?_⟩
    rcases hl2 with h | h
    · exact .inl h
    · right
      have e4 : pw m.log2 * pw (p - lastOf m p).toNat ≤ m * pw (p - lastOf m p).toNat := Nat.mul_le_mul_right _ h1
      rw [← pw_add, show m.log2 + (p - lastOf m p).toNat = 52 by omega] at e4
      exact e4
  · rw [show (p - lastOf m p).toNat = 0 by omega]
    obtain ⟨d, hd⟩ : ∃ d, d = (lastOf m p - p).toNat := ⟨_, rfl⟩
    rw [← hd, show pw 0 = 1 from rfl, Nat.mul_one]
    have hq : m / pw d < 9007199254740992 := by
      rw [Nat.div_lt_iff_lt_mul (pw_pos d)]
      refine Nat.lt_of_lt_of_le h2 ?_
      rw [show (9007199254740992 : Nat) = pw 53 from rfl, ← pw_add]
      exact pw_le (by omega)
    refine ⟨?_, ?_⟩
    · unfold rne; split <;> omega
    · rcases hl2 with h | h
      · exact .inl h
      · right
        have : 4503599627370496 ≤ m / pw d := by
          rw [Nat.le_div_iff_mul_le (pw_pos d), show (4503599627370496 : Nat) = pw 52 from rfl, ← pw_add]
          exact Nat.le_trans (pw_le (by omega)) h1
        unfold rne; omega

/-- What a word is worth by its rung. -/
theorem read_rung (s : Bool) (E k : Nat) (hk : k ≤ 9007199254740992) (hE : E = 0 ∨ 4503599627370496 ≤ k) (hr : E * 4503599627370496 + k < 9218868437227405312) :
    ∃ m e, D.read (D.word s (E * 4503599627370496 + k)) = .number s m e ∧ m * pw (e + 1074).toNat = k * pw E := by
  have hw : (D.word s (E * 4503599627370496 + k)) % 9223372036854775808 = E * 4503599627370496 + k := by rw [word_eq]; cases s <;> simp <;> omega
  have hs : ((D.word s (E * 4503599627370496 + k)) / 9223372036854775808 % 2 == 1) = s := by
    rw [word_eq]
    cases s
    · simp; omega
    · simp; omega
  rw [read_eq, hw, hs]
  by_cases c0 : E * 4503599627370496 + k < 4503599627370496
  · rw [if_pos c0]
    refine ⟨_, _, rfl, ?_⟩
    obtain rfl : E = 0 := by omega
    simp
  · rw [if_neg c0, if_pos hr]
    refine ⟨_, _, rfl, ?_⟩
    rw [show (-1074 + (((E * 4503599627370496 + k) / 4503599627370496 - 1 : Nat) : Int) + 1074).toNat = (E * 4503599627370496 + k) / 4503599627370496 - 1 by omega]
    by_cases c1 : k < 9007199254740992
    · have hk2 : 4503599627370496 ≤ k := by omega
      rw [show (E * 4503599627370496 + k) / 4503599627370496 - 1 = E by omega, show 4503599627370496 + (E * 4503599627370496 + k) % 4503599627370496 = k by omega]
    · obtain rfl : k = 9007199254740992 := by omega
      rw [show (E * 4503599627370496 + 9007199254740992) / 4503599627370496 - 1 = E + 1 by omega, show 4503599627370496 + (E * 4503599627370496 + 9007199254740992) % 4503599627370496 = 4503599627370496 by omega]
      rw [pw_add, ← Nat.mul_assoc, Nat.mul_right_comm]
      rfl

/-- What the nearest word reads as, where it is finite. -/
theorem nearest_read (s : Bool) (m : Nat) (p : Int) (hm : m ≠ 0) (hp : p + m.log2 ≤ 1022) :
    ∃ m' e', D.read (D.nearest s m p) = .number s m' e' ∧ m' * pw (e' + 1074).toNat = keptOf m p * pw (lastOf m p + 1074).toNat := by
  obtain ⟨h1, h2⟩ := kept_bounds m p hm
  have hl := last_ge m p
  have hlu : lastOf m p ≤ 970 := by unfold lastOf; omega
  rw [nearest_eq s m p hm]
  have hr : (lastOf m p + 1074).toNat * 4503599627370496 + keptOf m p < 9218868437227405312 := by omega
  rw [Nat.min_eq_left (by omega)]
  exact read_rung s _ _ h1 (by rcases h2 with h | h; left; omega; right; exact h) hr

end Go.Proofs.YtjgggmjjikopeaaGreatDoor

/- real.Neg and real.ToInt, and the document's own. -/
namespace Go.Proofs.YtjgggmjjikopeaaGreatDoor
open Go.RowKit
set_option linter.unusedVariables false

theorem neg_any (a : Nat) (h : a < 18446744073709551616) (w : World) : Calls Tryz.prog 161 #[.int .u64 (a : Int)] w fun e w' => e = .returned (.int .u64 (fneg a : Nat)) ∧ w' = w := by
  have hun : ∀ w, (Op.unary .neg (.float .f64 (home a))).run Tryz.prog w = .ok (.float .f64 (home a ^^^ 9223372036854775808)) w := fun w => rfl
  go_enter Tryz.func161, Tryz.ntmps161
  go_wp2_with fail
  refine (number_any a _).mono ?_
  rintro e w1 ⟨rfl, rfl⟩
  go_wp2_with fail
  refine (bitsOf_any (home a ^^^ 9223372036854775808) _).mono ?_
  rintro e w1 ⟨rfl, rfl⟩
  rw [home_flip a h]
  go_wp2
  go_ret
  exact ⟨rfl, rfl⟩

end Go.Proofs.YtjgggmjjikopeaaGreatDoor

/- Whole numbers as reals: exact up to 2^53 in size, with their sums, differences and products: no program is named here. -/
namespace Go.Proofs.YtjgggmjjikopeaaGreatDoor
open Ieee
set_option linter.unusedVariables false

/-- A finite real. -/
theorem read_fin {b : Nat} (hn : isNan b = false) (h : (val b).natAbs < TOP) : ∃ s m e, D.read b = .number s m e ∧ -1074 ≤ e ∧ val b = signed s m (e + 1074).toNat ∧ (val b).natAbs = m * pw (e + 1074).toNat := by
  rcases read_real hn with ⟨s, m, e, hr⟩ | ⟨s, hr⟩
  · have hv : val b = signed s m (e + 1074).toNat := by unfold val; rw [hr]; rfl
    refine ⟨s, m, e, hr, (read_shape hr).2.2.1, hv, ?_⟩
    rw [hv, signed_eq]
    cases s
    · simp only [Bool.false_eq_true, if_false, Int.natAbs_natCast]
    · simp only [if_true, Int.natAbs_neg, Int.natAbs_natCast]
  · exfalso
    have hv : val b = if s then -(TOP : Int) else (TOP : Int) := by unfold val; rw [hr]; rfl
    rw [hv] at h
    cases s <;> simp only [Bool.false_eq_true, if_false, if_true] at h <;> omega

/-- A sum of two finite reals is the nearest word of the exact one. -/
theorem add_fin {a b : Nat} (ha : isNan a = false) (hb : isNan b = false) (ha' : (val a).natAbs < TOP) (hb' : (val b).natAbs < TOP) :
    ∃ sg T base, D.add a b = some (D.nearest sg T base) ∧ -1074 ≤ base ∧ T * pw (base + 1074).toNat = (val a + val b).natAbs ∧ (val a + val b ≠ 0 → sg = decide (val a + val b < 0)) := by
  obtain ⟨s, m, i, hr1, hi, hv1, _⟩ := read_fin ha ha'
  obtain ⟨t, n, j, hr2, hj, hv2, _⟩ := read_fin hb hb'
  unfold Format.add
  rw [hr1, hr2]
  have hv : (signed s m (i - min i j).toNat + signed t n (j - min i j).toNat) * (pw (min i j + 1074).toNat : Int) = val a + val b := by
    rw [Int.add_mul, ← signed_add, ← signed_add, hv1, hv2]
    congr 2 <;> congr 1 <;> omega
  have hp := pw_pos (min i j + 1074).toNat
  refine ⟨_, _, min i j, rfl, by omega, ?_, ?_⟩
  · rw [← hv, Int.natAbs_mul, Int.natAbs_natCast]
  · intro h0
    have hne : signed s m (i - min i j).toNat + signed t n (j - min i j).toNat ≠ 0 := by
      intro hz; rw [hz, Int.zero_mul] at hv; exact h0 hv.symm
    show (if signed s m (i - min i j).toNat + signed t n (j - min i j).toNat = 0 then _ else _) = _
    rw [if_neg hne]
    generalize signed s m (i - min i j).toNat + signed t n (j - min i j).toNat = T at hv hne
    generalize pw (min i j + 1074).toNat = P at hv hp
    rw [← hv]
    congr 1
    apply propext
    constructor
    · intro h; exact Int.mul_neg_of_neg_of_pos h (by omega)
    · intro h
      by_cases hT : T < 0
      · exact hT
      · exfalso
        have := Int.mul_nonneg (show 0 ≤ T by omega) (show (0 : Int) ≤ (P : Int) by omega)
        omega

/-- A product of two finite reals likewise. -/
theorem mul_fin {a b : Nat} (ha : isNan a = false) (hb : isNan b = false) (ha' : (val a).natAbs < TOP) (hb' : (val b).natAbs < TOP) :
    ∃ sg T base, D.mul a b = some (D.nearest sg T base) ∧ -2148 ≤ base ∧ T * pw (base + 2148).toNat = (val a).natAbs * (val b).natAbs ∧ (val a * val b ≠ 0 → sg = decide (val a * val b < 0)) := by
  obtain ⟨s, m, i, hr1, hi, hv1, hm1⟩ := read_fin ha ha'
  obtain ⟨t, n, j, hr2, hj, hv2, hm2⟩ := read_fin hb hb'
  unfold Format.mul
  rw [hr1, hr2]
  refine ⟨_, _, i + j, rfl, by omega, ?_, ?_⟩
  · rw [hm1, hm2, show (i + j + 2148).toNat = (i + 1074).toNat + (j + 1074).toNat by omega, pw_add]
    simp only [Nat.mul_assoc, Nat.mul_left_comm]
  · rw [hv1, hv2, signed_eq, signed_eq]
    generalize m * pw (i + 1074).toNat = X
    generalize n * pw (j + 1074).toNat = Y
    intro h0
    have hXY : (0 : Int) ≤ (X : Int) * (Y : Int) := Int.mul_nonneg (by omega) (by omega)
    cases s <;> cases t <;> simp only [Bool.false_eq_true, if_false, if_true, Int.mul_neg, Int.neg_mul, Int.neg_neg, ne_eq] at h0 ⊢
    · rw [decide_eq_false (by omega)]; rfl
    · rw [decide_eq_true (by omega)]; rfl
    · rw [decide_eq_true (by omega)]; rfl
    · rw [decide_eq_false (by omega)]; rfl

/-- One, in units. -/
def U : Nat := pw 1074
theorem U_pos : 0 < U := pw_pos _
theorem U_top (z : Nat) (hz : z ≤ 18446744073709551616) : z * U < TOP := by
  have h64 : (18446744073709551616 : Nat) = pw 64 := rfl
  have h1 : z * pw 1074 ≤ pw 64 * pw 1074 := Nat.mul_le_mul_right _ (by rw [← h64]; exact hz)
  rw [← pw_add] at h1
  have h2 : pw (64 + 1074) < pw 2200 := pw_lt (by decide)
  have h3 : U = pw 1074 := rfl
  have h4 : TOP = pw 2200 := rfl
  rw [h3, h4]
  generalize pw (64 + 1074) = A at h1 h2
  generalize pw 2200 = B at h2 ⊢
  generalize z * pw 1074 = C at h1 ⊢
  clear h3 h4 h64
  omega

/-- A word that is worth a whole number. -/
def Whole (b : Nat) (z : Int) : Prop := isNan b = false ∧ val b = z * (U : Int)

theorem Whole.abs {b : Nat} {z : Int} (h : Whole b z) : (val b).natAbs = z.natAbs * U := by rw [h.2, Int.natAbs_mul, Int.natAbs_natCast]
theorem Whole.top {b : Nat} {z : Int} (h : Whole b z) (hz : z.natAbs ≤ 18446744073709551616) : (val b).natAbs < TOP := by rw [h.abs]; exact U_top _ hz

theorem signed_whole (s : Bool) (z : Int) (X : Nat) (hX : X = z.natAbs * U) (hs : z ≠ 0 → s = decide (z < 0)) : (if s then -(X : Int) else (X : Int)) = z * (U : Int) := by
  rw [hX]
  clear hX
  generalize U = K
  by_cases hz : z = 0
  · rw [hz]; cases s <;> simp
  · rw [hs hz]
    have e : ((z.natAbs * K : Nat) : Int) = (z.natAbs : Int) * (K : Int) := by simp
    by_cases h : z < 0
    · rw [decide_eq_true h, if_pos rfl, e, show (z.natAbs : Int) = -z by omega, Int.neg_mul, Int.neg_neg]
    · rw [decide_eq_false h, e, show (z.natAbs : Int) = z by omega]; simp

/-- A whole number of at most 2^53 in size is a real. -/
theorem nearest_whole (s : Bool) (z : Int) (hz : z.natAbs ≤ 9007199254740992) (hs : z ≠ 0 → s = decide (z < 0)) : Whole (D.nearest s z.natAbs 0) z := by
  refine ⟨isNan_nearest _ _ _, ?_⟩
  by_cases h0 : z.natAbs = 0
  · have hz0 : z = 0 := by omega
    rw [h0, hz0]
    have : D.nearest s 0 0 = D.word s 0 := by unfold Format.nearest; rw [if_pos rfl]
    rw [this, Int.zero_mul]
    cases s
    · decide +kernel
    · decide +kernel
  · have hlog : z.natAbs.log2 ≤ 53 := by
      have := (Nat.log2_lt h0 (k := 54)).2 (by omega)
      omega
    obtain ⟨m, e, hr, hm⟩ := nearest_read s z.natAbs 0 h0 (by omega)
    have hv : val (D.nearest s z.natAbs 0) = signed s m (e + 1074).toNat := by unfold val; rw [hr]; rfl
    rw [hv, signed_eq, hm]
    apply signed_whole s z _ _ hs
    by_cases h53 : z.natAbs.log2 = 53
    · have hz2 : z.natAbs = 9007199254740992 := by
        have := (log2_bounds _ h0).1
        rw [h53] at this
        have e53 : pw 53 = 9007199254740992 := rfl
        omega
      have hl : lastOf z.natAbs 0 = 1 := by unfold lastOf; omega
      unfold keptOf
      rw [hl, hz2]
      have e1 : rne (9007199254740992 * pw (0 - 1 : Int).toNat) (1 - 0 : Int).toNat = 4503599627370496 := by decide
      rw [e1, show ((1 : Int) + 1074).toNat = 1 + 1074 from rfl, pw_add, ← Nat.mul_assoc, show 4503599627370496 * pw 1 = 9007199254740992 from rfl]
      unfold U
      rfl
    · have hl : lastOf z.natAbs 0 ≤ 0 ∧ -1074 ≤ lastOf z.natAbs 0 := by unfold lastOf; omega
      unfold keptOf
      rw [show (lastOf z.natAbs 0 - 0).toNat = 0 by omega, rne_zero, Nat.mul_assoc, ← pw_add]
      unfold U
      congr 2
      omega

theorem ofInt_whole (z : Int) (hz : z.natAbs ≤ 9007199254740992) : Whole (ofInt z) z := nearest_whole _ z hz (fun _ => rfl)

end Go.Proofs.YtjgggmjjikopeaaGreatDoor

/- The real of a literal, and its digits found again: no program is named here. -/
namespace Go.Proofs.YtjgggmjjikopeaaGreatDoor
open Ieee
set_option linter.unusedVariables false

theorem pw_congr {a b : Nat} (h : a = b) : pw a = pw b := by rw [h]
theorem U_def : U = pw 1074 := rfl

/-- The nearest word of a number below 2^50 is off by a sixteenth at most. -/
theorem near_err (m : Nat) (p : Int) (C : Nat) (hm : m ≠ 0) (hC : 1074 ≤ C) (hp : -(C : Int) ≤ p) (hB : m * pw (p + C).toNat < pw (50 + C)) :
    ∃ v : Nat, val (D.nearest false m p) = (v : Int) ∧ 16 * (v * pw (C - 1074)) ≤ 16 * (m * pw (p + C).toNat) + pw C ∧ 16 * (m * pw (p + C).toNat) ≤ 16 * (v * pw (C - 1074)) + pw C := by
  obtain ⟨b1, b2⟩ := log2_bounds m hm
  have hlog : (m.log2 : Int) + p < 50 := by
    have h1 : pw m.log2 * pw (p + C).toNat < pw (50 + C) := Nat.lt_of_le_of_lt (Nat.mul_le_mul_right _ b1) hB
    rw [← pw_add] at h1
    have h2 : m.log2 + (p + C).toNat < 50 + C := (Nat.pow_lt_pow_iff_right (show 1 < 2 by decide)).1 h1
    omega
  obtain ⟨m', e', hr, hm'⟩ := nearest_read false m p hm (by omega)
  have hl1 := last_ge m p
  have hl2 : lastOf m p ≤ -3 := by unfold lastOf; omega
  refine ⟨keptOf m p * pw (lastOf m p + 1074).toNat, ?_, ?_⟩
  · unfold val; rw [hr]
    show signed false m' (e' + 1074).toNat = _
    rw [signed_eq, hm']; rfl
  · have e1 : pw (lastOf m p + 1074).toNat * pw (C - 1074) = pw (lastOf m p + C).toNat := by rw [← pw_add]; exact pw_congr (by omega)
    rw [Nat.mul_assoc, e1]
    have hpC : pw C = 8 * pw (C - 3) := by
      have : pw C = pw (3 + (C - 3)) := pw_congr (by omega)
      rw [this, pw_add]; rfl
    by_cases ht : lastOf m p ≤ p
    · have e2 : keptOf m p * pw (lastOf m p + C).toNat = m * pw (p + C).toNat := by
        unfold keptOf
        rw [show (lastOf m p - p).toNat = 0 by omega, rne_zero, Nat.mul_assoc, ← pw_add, pw_congr (show (p - lastOf m p).toNat + (lastOf m p + (C : Int)).toNat = (p + (C : Int)).toNat by omega)]
      rw [e2]
      omega
    · obtain ⟨r1, r2⟩ := rne_near m (lastOf m p - p).toNat
      have hk : keptOf m p = rne m (lastOf m p - p).toNat := by
        unfold keptOf
        rw [show (p - lastOf m p).toNat = 0 by omega, show pw 0 = 1 from rfl, Nat.mul_one]
      rw [← hk] at r1 r2
      have e3 : pw (lastOf m p + C).toNat = pw (lastOf m p - p).toNat * pw (p + C).toNat := by rw [← pw_add]; exact pw_congr (by omega)
      have e4 : pw (lastOf m p + C).toNat ≤ pw (C - 3) := pw_le (by omega)
      have s1 := Nat.mul_le_mul_right (pw (p + C).toNat) r1
      have s2 := Nat.mul_le_mul_right (pw (p + C).toNat) r2
      have f1 : 2 * (keptOf m p * pw (lastOf m p - p).toNat) * pw (p + C).toNat = 2 * (keptOf m p * pw (lastOf m p + C).toNat) := by rw [e3]; simp only [Nat.mul_assoc]
      have f2 : (2 * m + pw (lastOf m p - p).toNat) * pw (p + C).toNat = 2 * (m * pw (p + C).toNat) + pw (lastOf m p + C).toNat := by rw [e3, Nat.add_mul, Nat.mul_assoc]
      have f3 : (2 * (keptOf m p * pw (lastOf m p - p).toNat) + pw (lastOf m p - p).toNat) * pw (p + C).toNat = 2 * (keptOf m p * pw (lastOf m p + C).toNat) + pw (lastOf m p + C).toNat := by rw [Nat.add_mul, f1, e3]
      have f4 : 2 * m * pw (p + C).toNat = 2 * (m * pw (p + C).toNat) := by rw [Nat.mul_assoc]
      rw [f1, f2] at s1
      rw [f3, f4] at s2
      generalize keptOf m p * pw (lastOf m p + C).toNat = X at *
      generalize m * pw (p + C).toNat = Y at *
      generalize pw (lastOf m p + C).toNat = Z at *
      generalize pw (C - 3) = A at *
      generalize pw C = B at *
      omega

/-- The quotient to 54 digits, and one that tells whether anything is left. -/
theorem quot_bounds (m c : Nat) (hm : m ≠ 0) (hc : c ≠ 0) (g : Nat) (hg : m.log2 + g = 54 + c.log2) :
    ∃ Q, Q = 2 * (m * pw g / c) + (m * pw g % c != 0).toNat ∧ pw 54 ≤ Q ∧ Q < pw 56 ∧ Q * c ≤ 2 * (m * pw g) + c ∧ 2 * (m * pw g) ≤ Q * c + c := by
  refine ⟨_, rfl, ?_⟩
  obtain ⟨b1, b2⟩ := log2_bounds m hm
  obtain ⟨c1, c2⟩ := log2_bounds c hc
  have h1 : pw (54 + c.log2) ≤ m * pw g := by rw [← hg, pw_add]; exact Nat.mul_le_mul_right _ b1
  have h2 : m * pw g < pw (55 + c.log2) := by
    rw [show 55 + c.log2 = m.log2 + 1 + g by omega, pw_add]
    exact Nat.mul_lt_mul_of_pos_right b2 (pw_pos _)
  generalize m * pw g = Dv at h1 h2 ⊢
  have hcp : 0 < c := Nat.pos_of_ne_zero hc
  have q1 : pw 53 ≤ Dv / c := by
    rw [Nat.le_div_iff_mul_le hcp]
    refine Nat.le_trans (Nat.mul_le_mul_left _ (Nat.le_of_lt c2)) ?_
    rw [← pw_add]
    exact Nat.le_trans (pw_le (by omega)) h1
  have q2 : Dv / c < pw 55 := by
    rw [Nat.div_lt_iff_lt_mul hcp]
    refine Nat.lt_of_lt_of_le h2 ?_
    rw [pw_add]
    exact Nat.mul_le_mul_left _ c1
  have hdm := Nat.div_add_mod Dv c
  have hml := Nat.mod_lt Dv hcp
  have e54 : pw 54 = 2 * pw 53 := rfl
  have e56 : pw 56 = 2 * pw 55 := rfl
  have hst : (Dv % c != 0).toNat = 0 ∧ Dv % c = 0 ∨ (Dv % c != 0).toNat = 1 ∧ Dv % c ≠ 0 := by
    by_cases h : Dv % c = 0
    · left; rw [h]; exact ⟨rfl, rfl⟩
    · right; exact ⟨by rw [show (Dv % c != 0) = true by simpa using h]; rfl, h⟩
  generalize (Dv % c != 0).toNat = st at hst ⊢
  generalize Dv % c = r at hdm hml hst
  have e : (2 * (Dv / c) + st) * c = 2 * (c * (Dv / c)) + st * c := by rw [Nat.add_mul, Nat.mul_comm c, Nat.mul_assoc]
  rw [e]
  generalize c * (Dv / c) = F at hdm ⊢
  rw [e54, e56]
  generalize pw 53 = A at q1 ⊢
  generalize pw 55 = B at q2 ⊢
  generalize Dv / c = q at q1 q2 ⊢
  rcases hst with ⟨rfl, hr⟩ | ⟨rfl, hr⟩ <;> omega

theorem div_eq {a b : Nat} {m c : Nat} {i j : Int} (ha : D.read a = .number false m i) (hb : D.read b = .number false c j) (hc : c ≠ 0) :
    D.div a b = some (D.nearest false (2 * (m * pw (54 + c.log2 - m.log2) / c) + (m * pw (54 + c.log2 - m.log2) % c != 0).toNat) (i - j - ((54 + c.log2 - m.log2 : Nat) : Int) - 1)) := by
  unfold Format.div
  rw [ha, hb]
  simp only [Datum.quotient]
  rw [if_neg hc]
  simp only [Option.map_some, Format.write, Nat.shiftLeft_eq]
  rfl

/-- The real of a quotient of whole numbers is off by three quarters of its last digit at most. -/
theorem quo_err (n s : Nat) (hn : 1 ≤ n) (hn2 : n ≤ 9007199254740992) (hs : 1 ≤ s) (hs2 : s ≤ 9007199254740992) :
    ∃ X x : Nat, fdiv (ofInt (n : Int)) (ofInt (s : Int)) = X ∧ isNan X = false ∧ val X = (x : Int) ∧ pw 54 * (x * s) ≤ pw 54 * (n * U) + 3 * (x * s) ∧ pw 54 * (n * U) ≤ pw 54 * (x * s) + 3 * (x * s) := by
  have wn := ofInt_whole (n : Int) (by omega)
  have ws := ofInt_whole (s : Int) (by omega)
  obtain ⟨s1, m, i, hr1, hi, hv1, hm1⟩ := read_fin wn.1 (wn.top (by omega))
  obtain ⟨s2, c, j, hr2, hj, hv2, hm2⟩ := read_fin ws.1 (ws.top (by omega))
  rw [wn.abs, Int.natAbs_natCast] at hm1
  rw [ws.abs, Int.natAbs_natCast] at hm2
  have hU := U_pos
  have hm0 : m ≠ 0 := by
    rintro rfl
    rw [Nat.zero_mul] at hm1
    have := Nat.mul_pos (show 0 < n by omega) hU
    omega
  have hc0 : c ≠ 0 := by
    rintro rfl
    rw [Nat.zero_mul] at hm2
    have := Nat.mul_pos (show 0 < s by omega) hU
    omega
  have hpos : ∀ (b : Nat) (k : Nat) (sg : Bool) (mm : Nat) (ee : Int), 1 ≤ k → Whole b (k : Int) → D.read b = .number sg mm ee → val b = signed sg mm (ee + 1074).toNat → mm ≠ 0 → sg = false := by
    intro b k sg mm ee hk hw hr hv h0
    cases sg
    · rfl
    · exfalso
      rw [hw.2, signed_eq, if_pos rfl] at hv
      have h1 : 0 < (k : Int) * (U : Int) := Int.mul_pos (by omega) (by omega)
      have h2 := Nat.mul_pos (Nat.pos_of_ne_zero h0) (pw_pos (ee + 1074).toNat)
      omega
  obtain rfl := hpos _ n s1 m i hn wn hr1 hv1 hm0
  obtain rfl := hpos _ s s2 c j hs ws hr2 hv2 hc0
  have sh1 := (read_shape hr1).2.1
  have sh2 := (read_shape hr2).2.1
  -- the places are near nought
  have hplace : ∀ (k mm : Nat) (ee : Int), -1074 ≤ ee → 1 ≤ k → k ≤ 9007199254740992 → mm < 9007199254740992 → mm ≠ 0 → k * U = mm * pw (ee + 1074).toNat → -53 ≤ ee ∧ ee ≤ 53 := by
    intro k mm ee h1 hk hk2 hmm h0 he
    refine ⟨?_, ?_⟩
    · have a1 : U ≤ pw 53 * pw (ee + 1074).toNat := by
        have b1 : 1 * U ≤ k * U := Nat.mul_le_mul_right _ hk
        have b2 : mm * pw (ee + 1074).toNat ≤ pw 53 * pw (ee + 1074).toNat := Nat.mul_le_mul_right _ (Nat.le_of_lt hmm)
        rw [Nat.one_mul, he] at b1
        exact Nat.le_trans b1 b2
      rw [U_def, ← pw_add] at a1
      have := (Nat.pow_le_pow_iff_right (show 1 < 2 by decide)).1 a1
      omega
    · have a1 : pw (ee + 1074).toNat ≤ pw 53 * U := by
        have b1 : 1 * pw (ee + 1074).toNat ≤ mm * pw (ee + 1074).toNat := Nat.mul_le_mul_right _ (by omega)
        have b2 : k * U ≤ pw 53 * U := Nat.mul_le_mul_right _ hk2
        rw [Nat.one_mul, ← he] at b1
        exact Nat.le_trans b1 b2
      rw [U_def, ← pw_add] at a1
      have := (Nat.pow_le_pow_iff_right (show 1 < 2 by decide)).1 a1
      omega
  obtain ⟨i1, i2⟩ := hplace n m i hi hn hn2 sh1 hm0 hm1
  obtain ⟨j1, j2⟩ := hplace s c j hj hs hs2 sh2 hc0 hm2
  have lm : m.log2 < 53 := (Nat.log2_lt hm0).2 sh1
  have lc : c.log2 < 53 := (Nat.log2_lt hc0).2 sh2
  obtain ⟨g, hg⟩ : ∃ g, g = 54 + c.log2 - m.log2 := ⟨_, rfl⟩
  obtain ⟨Q, hQ, Q1, Q2, Q3, Q4⟩ := quot_bounds m c hm0 hc0 g (by omega)
  have hdiv := div_eq hr1 hr2 hc0
  rw [← hg, ← hQ] at hdiv
  have hQ0 : Q ≠ 0 := by have := pw_pos 54; omega
  have lQ1 : 54 ≤ Q.log2 := (Nat.le_log2 hQ0).2 Q1
  have lQ2 : Q.log2 < 56 := (Nat.log2_lt hQ0).2 Q2
  obtain ⟨P, hP⟩ : ∃ P : Int, P = i - j - (g : Int) - 1 := ⟨_, rfl⟩
  rw [← hP] at hdiv
  have hlast : lastOf Q P = P + ((Q.log2 - 52 : Nat) : Int) := by unfold lastOf; omega
  obtain ⟨d, hd⟩ : ∃ d, d = Q.log2 - 52 := ⟨_, rfl⟩
  rw [← hd] at hlast
  have hkept : keptOf Q P = rne Q d := by
    unfold keptOf
    rw [hlast, show (P - (P + (d : Int))).toNat = 0 by omega, show (P + (d : Int) - P).toNat = d by omega, show pw 0 = 1 from rfl, Nat.mul_one]
  obtain ⟨kb1, kb2⟩ := kept_bounds Q P hQ0
  have kb3 : 4503599627370496 ≤ rne Q d := by rcases kb2 with h | h; omega; rw [← hkept]; exact h
  obtain ⟨m', e', hr, hm'⟩ := nearest_read false Q P hQ0 (by omega)
  rw [hkept, hlast] at hm'
  obtain ⟨r1, r2⟩ := rne_near Q d
  refine ⟨D.nearest false Q P, rne Q d * pw (P + (d : Int) + 1074).toNat, ?_, isNan_nearest _ _ _, ?_, ?_⟩
  · unfold fdiv; rw [hdiv]; exact home_real (isNan_nearest _ _ _)
  · unfold val; rw [hr]
    show signed false m' (e' + 1074).toNat = _
    rw [signed_eq, hm']; rfl
  · -- the error
    have hW : pw (P + (d : Int) + 1074).toNat = pw d * pw (P + 1074).toNat := by rw [← pw_add]; exact pw_congr (by omega)
    rw [hW]
    obtain ⟨W, hWd⟩ : ∃ W, W = pw (P + 1074).toNat := ⟨_, rfl⟩
    obtain ⟨J, hJd⟩ : ∃ W, W = pw (j + 1074).toNat := ⟨_, rfl⟩
    obtain ⟨I, hId⟩ : ∃ W, W = pw (i + 1074).toNat := ⟨_, rfl⟩
    have hWJ : pw (g + 1) * (W * J) = I * U := by
      rw [hWd, hJd, hId]
      rw [U_def, ← pw_add, ← pw_add, ← pw_add]
      exact pw_congr (by omega)
    rw [← hId] at hm1
    rw [← hJd] at hm2
    rw [← hWd]
    have hdd : d = 2 ∨ d = 3 := by omega
    generalize rne Q d = K at *
    obtain ⟨Dd, hDd⟩ : ∃ x, x = pw d := ⟨_, rfl⟩
    have hD4 : 4 ≤ Dd := by rw [hDd]; rcases hdd with h | h <;> rw [h] <;> decide
    rw [← hDd] at r1 r2 ⊢
    -- times c, times W J
    have a1 := Nat.mul_le_mul_right c r1
    have a2 := Nat.mul_le_mul_right c r2
    have x1 : 2 * (K * Dd) * c = 2 * (K * Dd * c) := by rw [Nat.mul_assoc]
    have x2 : (2 * Q + Dd) * c = 2 * (Q * c) + Dd * c := by rw [Nat.add_mul, Nat.mul_assoc]
    have x3 : 2 * Q * c = 2 * (Q * c) := by rw [Nat.mul_assoc]
    have x4 : (2 * (K * Dd) + Dd) * c = 2 * (K * Dd * c) + Dd * c := by rw [Nat.add_mul, Nat.mul_assoc]
    rw [x1, x2] at a1
    rw [x3, x4] at a2
    have b1 : 2 * (K * Dd * c) ≤ 2 * (2 * (m * pw g)) + (Dd * c + 2 * c) := by omega
    have b2 : 2 * (2 * (m * pw g)) ≤ 2 * (K * Dd * c) + (Dd * c + 2 * c) := by omega
    have c1 := Nat.mul_le_mul_right (W * J) b1
    have c2 := Nat.mul_le_mul_right (W * J) b2
    have y1 : 2 * (K * Dd * c) * (W * J) = 2 * (K * (Dd * W) * s) * U := by
      have : 2 * (K * Dd * c) * (W * J) = 2 * (K * (Dd * W)) * (c * J) := by simp only [Nat.mul_assoc, Nat.mul_left_comm, Nat.mul_comm]
      rw [this, ← hm2]; simp only [Nat.mul_assoc]
    have y2 : 2 * (2 * (m * pw g)) * (W * J) = 2 * (n * U) * U := by
      have e1 : 2 * (2 * (m * pw g)) * (W * J) = 2 * (m * (pw (g + 1) * (W * J))) := by
        rw [show pw (g + 1) = pw g * 2 from rfl]
        simp only [Nat.mul_assoc, Nat.mul_left_comm, Nat.mul_comm]
      rw [e1, hWJ, ← Nat.mul_assoc m I U, ← hm1]
      simp only [Nat.mul_assoc]
    have y3 : (Dd * c + 2 * c) * (W * J) = ((Dd + 2) * W * s) * U := by
      rw [← Nat.add_mul]
      have : (Dd + 2) * c * (W * J) = (Dd + 2) * W * (c * J) := by simp only [Nat.mul_assoc, Nat.mul_left_comm]
      rw [this, ← hm2]; simp only [Nat.mul_assoc]
    rw [y1, Nat.add_mul, y2, y3, ← Nat.add_mul] at c1
    rw [y2, Nat.add_mul, y1, y3, ← Nat.add_mul] at c2
    have d1 := Nat.le_of_mul_le_mul_right c1 hU
    have d2 := Nat.le_of_mul_le_mul_right c2 hU
    -- the last digit against the whole
    have e1 : pw 52 * (2 * ((Dd + 2) * W * s)) ≤ 3 * (K * (Dd * W) * s) := by
      have f1 : 2 * (Dd + 2) ≤ 3 * Dd := by omega
      have f2 : pw 52 * (2 * (Dd + 2)) ≤ K * (3 * Dd) := Nat.mul_le_mul kb3 f1
      have f3 := Nat.mul_le_mul_right (W * s) f2
      have g1 : pw 52 * (2 * (Dd + 2)) * (W * s) = pw 52 * (2 * ((Dd + 2) * W * s)) := by simp only [Nat.mul_assoc]
      have g2 : K * (3 * Dd) * (W * s) = 3 * (K * (Dd * W) * s) := by simp only [Nat.mul_assoc, Nat.mul_left_comm]
      rwa [g1, g2] at f3
    have e54 : pw 54 = 4 * pw 52 := rfl
    have e52 : pw 52 = 4503599627370496 := rfl
    rw [e54, e52]
    rw [e52] at e1
    generalize K * (Dd * W) * s = A at *
    generalize (Dd + 2) * W * s = B at *
    generalize n * U = C at *
    clear hWJ hWd hJd hId x1 x2 x3 x4 y1 y2 y3 e54 e52 hW hD4 hdiv hm'
    omega

end Go.Proofs.YtjgggmjjikopeaaGreatDoor

/- The plain functions of letters, digits, signs and words that the contracts of lex speak of: no program is named here. -/
namespace Go.Proofs.YtjgggmjjikopeaaGreatDoor

/-- A letter. -/
def isLet (n : Nat) : Bool := (decide (97 ≤ n) && decide (n ≤ 122)) || (decide (65 ≤ n) && decide (n ≤ 90)) || decide (n = 95)

/-- A digit. -/
def isDig (n : Nat) : Bool := decide (48 ≤ n) && decide (n ≤ 57)

/-- What a byte begins: a word 1, a number 2, a sign 4. -/
def kindN (n : Nat) : Nat := if isLet n then 1 else if isDig n then 2 else 4

/-- The signs. -/
def signs : List (List UInt8) := [[59], [123], [125], [40], [41], [61], [61, 61], [33, 61], [60], [60, 61], [62], [62, 61], [43], [45], [42], [47], [37], [33], [38, 38], [124, 124]]

/-- A sign. -/
def isSg (l : List UInt8) : Bool := decide (l ∈ signs)

/-- The words of the language. -/
def words : List (List UInt8) := [[115, 104, 97, 114, 101, 100], [109, 117, 116, 101, 120], [116, 104, 114, 101, 97, 100], [108, 111, 99, 97, 108], [105, 110, 116], [98, 111, 111, 108], [114, 101, 97, 108], [108, 111, 99, 107], [117, 110, 108, 111, 99, 107], [97, 115, 115, 101, 114, 116], [105, 102], [101, 108, 115, 101], [119, 104, 105, 108, 101], [115, 107, 105, 112], [116, 114, 117, 101], [102, 97, 108, 115, 101], [110, 97, 110], [105, 110, 102]]

/-- A word of the language. -/
def isWd (l : List UInt8) : Bool := decide (l ∈ words)

theorem toList_bytes (s : ByteArray) : s.toList = bytes s := Lib.toList_data s

theorem mk_bytes (s : ByteArray) : s = ⟨(bytes s).toArray⟩ := by
  apply ByteArray.ext
  simp [bytes]

/-- A point and a digit come next. -/
def isPt : List UInt8 → Bool
  | c :: d :: _ => decide (c = 46) && isDig d.toNat
  | _ => false

theorem isPt_two (l : List UInt8) (h : 1 < l.length) : isPt l = (decide ((l.getD 0 0).toNat = 46) && isDig (l.getD 1 0).toNat) := by
  match l, h with
  | c :: d :: r, _ =>
    simp only [isPt, List.getD_cons_zero, List.getD_cons_succ]
    congr 1
    rw [Bool.eq_iff_iff]
    simp only [decide_eq_true_eq]
    constructor
    · rintro rfl; rfl
    · intro h; exact UInt8.toNat_inj.1 h

theorem isPt_short (l : List UInt8) (h : ¬ 1 < l.length) : isPt l = false := by
  match l, h with
  | [], _ => rfl
  | [_], _ => rfl
  | _ :: _ :: _, h => exact absurd (by simp) h

theorem isPt_str (s : ByteArray) (h : 1 < s.size) : isPt (bytes s) = (decide (s[0].toNat = 46) && isDig s[1].toNat) := by
  rw [isPt_two _ (by rw [bytes_length]; exact h), bytes_at s 0 (by omega), bytes_at s 1 h]

end Go.Proofs.YtjgggmjjikopeaaGreatDoor

/- lex: the small functions of bytes, signs and words. -/
namespace Go.Proofs.YtjgggmjjikopeaaGreatDoor
open Go.RowKit
set_option linter.unusedVariables false
theorem isDigit_any (n : Nat) (w : World) : Calls Tryz.prog 121 #[.int .u8 (n : Int)] w fun e w' => e = .returned (.bool (isDig n)) ∧ w' = w := by
  go_enter Tryz.func121, Tryz.ntmps121
  go_wp2
  all_goals
    go_ret
    refine ⟨?_, rfl⟩
    simp [isDig]
    try (rw [Bool.eq_iff_iff]; simp)
    try omega
theorem isLetter_any (n : Nat) (w : World) : Calls Tryz.prog 91 #[.int .u8 (n : Int)] w fun e w' => e = .returned (.bool (isLet n)) ∧ w' = w := by
  go_enter Tryz.func91, Tryz.ntmps91
  go_wp2
  all_goals
    go_ret
    refine ⟨?_, rfl⟩
    simp [isLet]
    try (rw [Bool.eq_iff_iff]; simp)
    try omega
theorem kindOf_any (n : Nat) (w : World) : Calls Tryz.prog 120 #[.int .u8 (n : Int)] w fun e w' => e = .returned (.int .i64 (kindN n : Nat)) ∧ w' = w := by
  go_enter Tryz.func120, Tryz.ntmps120
  go_wp2_with fail
  refine (isLetter_any n _).mono ?_
  rintro e w1 ⟨rfl, rfl⟩
  cases h1 : isLet n
  · go_wp2_with fail
    refine (isDigit_any n _).mono ?_
    rintro e w1 ⟨rfl, rfl⟩
    cases h2 : isDig n
    · go_wp2
      go_ret
      simp [kindN, h1, h2]
    · go_wp2
      go_ret
      simp [kindN, h1, h2]
  · go_wp2
    go_ret
    simp [kindN, h1]

set_option maxRecDepth 100000 in
set_option maxHeartbeats 800000 in
theorem isSign_yes : ∀ x ∈ signs, ∀ w : World, Calls Tryz.prog 90 #[.string ⟨x.toArray⟩] w fun e w' => e = .returned (.bool true) ∧ w' = w := by
  intro x hx w
  simp only [signs, List.mem_cons, List.not_mem_nil, or_false] at hx
  rcases hx with rfl | rfl | rfl | rfl | rfl | rfl | rfl | rfl | rfl | rfl | rfl | rfl | rfl | rfl | rfl | rfl | rfl | rfl | rfl | rfl
  all_goals
    go_enter Tryz.func90, Tryz.ntmps90
    go_wp2
    go_ret
    exact ⟨rfl, rfl⟩

set_option maxRecDepth 100000 in
set_option maxHeartbeats 800000 in
theorem isSign_any (s : ByteArray) (w : World) : Calls Tryz.prog 90 #[.string s] w fun e w' => e = .returned (.bool (isSg (bytes s))) ∧ w' = w := by
  by_cases hx : bytes s ∈ signs
  · have h := isSign_yes _ hx w
    rw [← mk_bytes s] at h
    simpa only [isSg, hx, decide_true] using h
  · have hn : ¬ bytes s ∈ signs := hx
    simp only [isSg, hx, decide_false]
    clear hx
    have n0 : (s.toList == [59]) = false := by rw [toList_bytes]; simp only [beq_eq_false_iff_ne]; intro h0; exact hn (by rw [h0]; decide)
    have n1 : (s.toList == [123]) = false := by rw [toList_bytes]; simp only [beq_eq_false_iff_ne]; intro h0; exact hn (by rw [h0]; decide)
    have n2 : (s.toList == [125]) = false := by rw [toList_bytes]; simp only [beq_eq_false_iff_ne]; intro h0; exact hn (by rw [h0]; decide)
    have n3 : (s.toList == [40]) = false := by rw [toList_bytes]; simp only [beq_eq_false_iff_ne]; intro h0; exact hn (by rw [h0]; decide)
    have n4 : (s.toList == [41]) = false := by rw [toList_bytes]; simp only [beq_eq_false_iff_ne]; intro h0; exact hn (by rw [h0]; decide)
    have n5 : (s.toList == [61]) = false := by rw [toList_bytes]; simp only [beq_eq_false_iff_ne]; intro h0; exact hn (by rw [h0]; decide)
    have n6 : (s.toList == [61, 61]) = false := by rw [toList_bytes]; simp only [beq_eq_false_iff_ne]; intro h0; exact hn (by rw [h0]; decide)
    have n7 : (s.toList == [33, 61]) = false := by rw [toList_bytes]; simp only [beq_eq_false_iff_ne]; intro h0; exact hn (by rw [h0]; decide)
    have n8 : (s.toList == [60]) = false := by rw [toList_bytes]; simp only [beq_eq_false_iff_ne]; intro h0; exact hn (by rw [h0]; decide)
    have n9 : (s.toList == [60, 61]) = false := by rw [toList_bytes]; simp only [beq_eq_false_iff_ne]; intro h0; exact hn (by rw [h0]; decide)
    have n10 : (s.toList == [62]) = false := by rw [toList_bytes]; simp only [beq_eq_false_iff_ne]; intro h0; exact hn (by rw [h0]; decide)
    have n11 : (s.toList == [62, 61]) = false := by rw [toList_bytes]; simp only [beq_eq_false_iff_ne]; intro h0; exact hn (by rw [h0]; decide)
    have n12 : (s.toList == [43]) = false := by rw [toList_bytes]; simp only [beq_eq_false_iff_ne]; intro h0; exact hn (by rw [h0]; decide)
    have n13 : (s.toList == [45]) = false := by rw [toList_bytes]; simp only [beq_eq_false_iff_ne]; intro h0; exact hn (by rw [h0]; decide)
    have n14 : (s.toList == [42]) = false := by rw [toList_bytes]; simp only [beq_eq_false_iff_ne]; intro h0; exact hn (by rw [h0]; decide)
    have n15 : (s.toList == [47]) = false := by rw [toList_bytes]; simp only [beq_eq_false_iff_ne]; intro h0; exact hn (by rw [h0]; decide)
    have n16 : (s.toList == [37]) = false := by rw [toList_bytes]; simp only [beq_eq_false_iff_ne]; intro h0; exact hn (by rw [h0]; decide)
    have n17 : (s.toList == [33]) = false := by rw [toList_bytes]; simp only [beq_eq_false_iff_ne]; intro h0; exact hn (by rw [h0]; decide)
    have n18 : (s.toList == [38, 38]) = false := by rw [toList_bytes]; simp only [beq_eq_false_iff_ne]; intro h0; exact hn (by rw [h0]; decide)
    have n19 : (s.toList == [124, 124]) = false := by rw [toList_bytes]; simp only [beq_eq_false_iff_ne]; intro h0; exact hn (by rw [h0]; decide)
    clear hn
    go_enter Tryz.func90, Tryz.ntmps90
    go_wp2
    go_ret
    exact ⟨rfl, rfl⟩

set_option maxRecDepth 100000 in
set_option maxHeartbeats 800000 in
theorem word_yes : ∀ x ∈ words, ∀ w : World, Calls Tryz.prog 113 #[.string ⟨x.toArray⟩] w fun e w' => e = .returned (.bool true) ∧ w' = w := by
  intro x hx w
  simp only [words, List.mem_cons, List.not_mem_nil, or_false] at hx
  rcases hx with rfl | rfl | rfl | rfl | rfl | rfl | rfl | rfl | rfl | rfl | rfl | rfl | rfl | rfl | rfl | rfl | rfl | rfl
  all_goals
    go_enter Tryz.func113, Tryz.ntmps113
    go_wp2
    go_ret
    exact ⟨rfl, rfl⟩

set_option maxRecDepth 100000 in
set_option maxHeartbeats 800000 in
theorem word_any (s : ByteArray) (w : World) : Calls Tryz.prog 113 #[.string s] w fun e w' => e = .returned (.bool (isWd (bytes s))) ∧ w' = w := by
  by_cases hx : bytes s ∈ words
  · have h := word_yes _ hx w
    rw [← mk_bytes s] at h
    simpa only [isWd, hx, decide_true] using h
  · have hn : ¬ bytes s ∈ words := hx
    simp only [isWd, hx, decide_false]
    clear hx
    have n0 : (s.toList == [115, 104, 97, 114, 101, 100]) = false := by rw [toList_bytes]; simp only [beq_eq_false_iff_ne]; intro h0; exact hn (by rw [h0]; decide)
    have n1 : (s.toList == [109, 117, 116, 101, 120]) = false := by rw [toList_bytes]; simp only [beq_eq_false_iff_ne]; intro h0; exact hn (by rw [h0]; decide)
    have n2 : (s.toList == [116, 104, 114, 101, 97, 100]) = false := by rw [toList_bytes]; simp only [beq_eq_false_iff_ne]; intro h0; exact hn (by rw [h0]; decide)
    have n3 : (s.toList == [108, 111, 99, 97, 108]) = false := by rw [toList_bytes]; simp only [beq_eq_false_iff_ne]; intro h0; exact hn (by rw [h0]; decide)
    have n4 : (s.toList == [105, 110, 116]) = false := by rw [toList_bytes]; simp only [beq_eq_false_iff_ne]; intro h0; exact hn (by rw [h0]; decide)
    have n5 : (s.toList == [98, 111, 111, 108]) = false := by rw [toList_bytes]; simp only [beq_eq_false_iff_ne]; intro h0; exact hn (by rw [h0]; decide)
    have n6 : (s.toList == [114, 101, 97, 108]) = false := by rw [toList_bytes]; simp only [beq_eq_false_iff_ne]; intro h0; exact hn (by rw [h0]; decide)
    have n7 : (s.toList == [108, 111, 99, 107]) = false := by rw [toList_bytes]; simp only [beq_eq_false_iff_ne]; intro h0; exact hn (by rw [h0]; decide)
    have n8 : (s.toList == [117, 110, 108, 111, 99, 107]) = false := by rw [toList_bytes]; simp only [beq_eq_false_iff_ne]; intro h0; exact hn (by rw [h0]; decide)
    have n9 : (s.toList == [97, 115, 115, 101, 114, 116]) = false := by rw [toList_bytes]; simp only [beq_eq_false_iff_ne]; intro h0; exact hn (by rw [h0]; decide)
    have n10 : (s.toList == [105, 102]) = false := by rw [toList_bytes]; simp only [beq_eq_false_iff_ne]; intro h0; exact hn (by rw [h0]; decide)
    have n11 : (s.toList == [101, 108, 115, 101]) = false := by rw [toList_bytes]; simp only [beq_eq_false_iff_ne]; intro h0; exact hn (by rw [h0]; decide)
    have n12 : (s.toList == [119, 104, 105, 108, 101]) = false := by rw [toList_bytes]; simp only [beq_eq_false_iff_ne]; intro h0; exact hn (by rw [h0]; decide)
    have n13 : (s.toList == [115, 107, 105, 112]) = false := by rw [toList_bytes]; simp only [beq_eq_false_iff_ne]; intro h0; exact hn (by rw [h0]; decide)
    have n14 : (s.toList == [116, 114, 117, 101]) = false := by rw [toList_bytes]; simp only [beq_eq_false_iff_ne]; intro h0; exact hn (by rw [h0]; decide)
    have n15 : (s.toList == [102, 97, 108, 115, 101]) = false := by rw [toList_bytes]; simp only [beq_eq_false_iff_ne]; intro h0; exact hn (by rw [h0]; decide)
    have n16 : (s.toList == [110, 97, 110]) = false := by rw [toList_bytes]; simp only [beq_eq_false_iff_ne]; intro h0; exact hn (by rw [h0]; decide)
    have n17 : (s.toList == [105, 110, 102]) = false := by rw [toList_bytes]; simp only [beq_eq_false_iff_ne]; intro h0; exact hn (by rw [h0]; decide)
    clear hn
    go_enter Tryz.func113, Tryz.ntmps113
    go_wp2
    go_ret
    exact ⟨rfl, rfl⟩

theorem isPoint_any (s : ByteArray) (w : World) : Calls Tryz.prog 122 #[.string s] w fun e w' => e = .returned (.bool (isPt (bytes s))) ∧ w' = w := by
  by_cases h : 1 < s.size
  · rw [isPt_str s h]
    go_enter Tryz.func122, Tryz.ntmps122
    go_wp2
    all_goals
      go_ret
      refine ⟨?_, rfl⟩
      simp [isDig]
      try (rw [Bool.eq_iff_iff]; simp)
      try omega
  · rw [isPt_short _ (by rw [bytes_length]; exact h)]
    go_enter Tryz.func122, Tryz.ntmps122
    go_wp2
    go_ret
    exact ⟨rfl, rfl⟩

end Go.Proofs.YtjgggmjjikopeaaGreatDoor

/- How far a token goes: plain functions on lists of bytes. -/
namespace Go.Proofs.YtjgggmjjikopeaaGreatDoor

/-- How many letters and digits stand ahead. -/
def alN : List UInt8 → Nat
  | [] => 0
  | c :: r => if isLet c.toNat || isDig c.toNat then alN r + 1 else 0

/-- How many digits stand ahead. -/
def dgN : List UInt8 → Nat
  | [] => 0
  | c :: r => if isDig c.toNat then dgN r + 1 else 0

/-- How many digits, or digits with one point and digits, stand ahead; 3 with the point, 2 without. -/
def nmN : List UInt8 → Nat × Nat
  | [] => (2, 0)
  | c :: r => if isPt (c :: r) then (3, dgN r + 1) else if isDig c.toNat then ((nmN r).1, (nmN r).2 + 1) else (2, 0)

/-- One, if a sign of two goes on. -/
def sgN (c : UInt8) : List UInt8 → Nat
  | [] => 0
  | d :: _ => if isSg [c, d] then 1 else 0

/-- A token's kind and length. -/
def endOf : List UInt8 → Nat × Nat
  | [] => (4, 0)
  | c :: r => if isLet c.toNat then (1, alN r + 1) else if isDig c.toNat then ((nmN r).1, (nmN r).2 + 1) else (4, sgN c r + 1)

theorem drop_at (s : ByteArray) (k : Nat) (h : k < s.size) : (bytes s).drop k = s[k] :: (bytes s).drop (k + 1) := by
  rw [← bytes_at s k h]
  have h' : k < (bytes s).length := by rw [bytes_length]; exact h
  rw [List.drop_eq_getElem_cons h']
  simp [List.getD, h']

theorem drop_end (s : ByteArray) (k : Nat) (h : ¬ k < s.size) : (bytes s).drop k = [] := by
  apply List.drop_eq_nil_of_le
  rw [bytes_length]
  omega

theorem bytes_extract (s : ByteArray) (i j : Nat) : bytes (s.extract i j) = ((bytes s).drop i).take (j - i) := Lib.extract_data s i j

theorem bytes_from (s : ByteArray) (i : Nat) : bytes (s.extract i s.size) = (bytes s).drop i := by
  rw [bytes_extract, List.take_of_length_le]
  rw [List.length_drop, bytes_length]; exact Nat.le_refl _

/-- No sign has three bytes. -/
theorem isSg_three (l : List UInt8) (h : 3 ≤ l.length) : isSg l = false := by
  simp only [isSg, decide_eq_false_iff_not]
  intro hm
  simp only [signs, List.mem_cons, List.not_mem_nil, or_false] at hm
  rcases hm with rfl | rfl | rfl | rfl | rfl | rfl | rfl | rfl | rfl | rfl | rfl | rfl | rfl | rfl | rfl | rfl | rfl | rfl | rfl | rfl <;> simp at h

end Go.Proofs.YtjgggmjjikopeaaGreatDoor
