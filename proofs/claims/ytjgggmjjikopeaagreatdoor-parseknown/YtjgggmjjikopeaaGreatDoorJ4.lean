/- Joined texts of the proof. -/
import Derived.Shelf.Strings.Builder1
import Derived.Shelf.Small.Strs
import Derived.Shelf.Small.Wraps
import Derived.Shelf.Strconv.Itoa0
import Derived.Shelf.Strconv.Itoa1
import Derived.Shelf.LaysM
import Derived.Shelf.Strconv.Itoa2
import Derived.Shelf.Strconv.Itoa3
import Derived.Shelf.Strconv.Itoa4
import Derived.Shelf.Strconv.ParseIntEmpty
import Derived.Shelf.Strconv.Clone
import Derived.Shelf.Strconv.SyntaxError
import Derived.Shelf.LaysC
import Derived.Shelf.Strconv.ToError
import Derived.Shelf.Strconv.Lower
import Derived.Shelf.Strconv.ParseUint10
import Derived.Shelf.Strconv.ParseUint10Empty
import Derived.Shelf.Strconv.ParseUint10Any
import Derived.Shelf.Strconv.ParseInt10
import Derived.Shelf.Strconv.RangeError
import Derived.Shelf.Strconv.ToErrorRange
import Derived.Shelf.Strconv.ParseUintEmpty
import Derived.Shelf.Strconv.ParseUint10b64
import Derived.Shelf.Strconv.ParseUint10b32
import Derived.Shelf.Strconv.ParseUint10b16
import Derived.Shelf.Strconv.ParseUint10b8
import Derived.Shelf.Strconv.ParseUint10At
import Derived.Shelf.Strconv.ParseInt10At64
import Derived.Shelf.Strconv.ParseInt10At32
import Derived.Shelf.Strconv.ParseInt10At16
import Derived.Shelf.Strconv.ParseInt10At8
import Derived.Shelf.Strconv.ParseInt10All
import Derived.Shelf.Strconv.ParseIntPublic10
import Derived.Shelf.Strings.Search1
import Derived.Shelf.Strings.Search2
import Derived.Shelf.Strings.Cut
import Derived.Shelf.Strings.Shaped
import Derived.Shelf.Strings.Prefix
import Derived.Test.YtjgggmjjikopeaaGreatDoorProg
import Derived.Test.YtjgggmjjikopeaaGreatDoorJ3
import Derived.Test.YtjgggmjjikopeaaGreatDoorJ1
import Derived.Lib.Builder
import Derived.Lib.AppendStr
import Derived.Lib.UnsafeStr
import Derived.Lib.Walk
import Derived.Laws.Externs
import Derived.Great.BuildSlice

/-
  DERIVED: THE SHELF's CONTRACTS AT THIS DUMP, IN PLAIN WORDS (tools/lay-plain.mjs out of 'YtjgggmjjikopeaaGreatDoorShelf.lean', which tools/lay-shelf.mjs wrote): THE SAME DECLARATIONS UNDER THE SAME NAMES: 'import', 'namespace', 'open', 'def', 'theorem' AND NOTHING ELSE: no command of the shelf's: FOR A HAND-IN. Each laying: the table of numbers ('.._ren') and one theorem, a field a fact of the dump's own or the kernel's comparison; each contract: ONE APPLICATION.
-/
namespace Go.Proofs
open Go.Shelf
def Tryz.lays121_ren : Go.Shelf.Ren := ⟨fun | 121 => 147 | 214 => 172 | n => n, fun | 4 => 4 | 9 => 9 | n => n, fun | n => n⟩
theorem Tryz.lays121 : Go.Proofs.Lays.n121 Tryz.prog Tryz.lays121_ren := {
  mixed := by kernel_rfl
  f121 := Tryz.func147.trans (congrArg some (by kernel_rfl))
  f214 := Tryz.func172.trans (congrArg some (by kernel_rfl))
  t4 := Tryz.underlying4
  a4 := Tryz.isAgg4
  z4 := Tryz.sizeOf4
  v4 := Tryz.zeroValue4
  t9 := Tryz.underlying9
  a9 := Tryz.isAgg9
  z9 := Tryz.sizeOf9
  v9 := Tryz.zeroValue9 }
open Go.RowKit in
/-- strconv.FormatBool: "FormatBool returns "true" or "false" according to the value of b.": IT RETURNS 'Lib.formatBool b'; the world is as it was. (LAID: no walk: one application.) -/
theorem Tryz.strconv_FormatBool (b : Bool) (w : World) :
    Calls Tryz.prog 147 #[.bool b] w fun e w' => e = .returned (.string ⟨(Lib.formatBool b).toArray⟩) ∧ w' = w := Any.strconv_FormatBool Tryz.lays121 b w
def Tryz.laysM173_ren : Go.Shelf.Ren := ⟨fun | 173 => 146 | 246 => 171 | 283 => 192 | 284 => 193 | 285 => 194 | 286 => 195 | 129 => 205 | 317 => 204 | 318 => 206 | 319 => 207 | 320 => 208 | 337 => 213 | 338 => 214 | n => n, fun | 2 => 2 | 3 => 3 | 9 => 9 | 4 => 4 | 171 => 205 | 0 => 0 | 53 => 38 | 37 => 84 | 5 => 5 | 173 => 208 | 212 => 218 | 51 => 219 | 20 => 20 | 213 => 220 | 46 => 199 | 232 => 229 | 233 => 230 | n => n, fun | 17 => 4 | 18 => 5 | 19 => 6 | n => n⟩
theorem Tryz.laysM173 : Go.Proofs.LaysM.n173 Tryz.prog Tryz.laysM173_ren := {
  mixed := by kernel_rfl
  f129 := Tryz.func205.trans (congrArg some (by kernel_rfl))
  f173 := Tryz.func146.trans (congrArg some (by kernel_rfl))
  f246 := Tryz.func171.trans (congrArg some (by kernel_rfl))
  f283 := Tryz.func192.trans (congrArg some (by kernel_rfl))
  f284 := Tryz.func193.trans (congrArg some (by kernel_rfl))
  f285 := Tryz.func194.trans (congrArg some (by kernel_rfl))
  f286 := Tryz.func195.trans (congrArg some (by kernel_rfl))
  f317 := Tryz.func204.trans (congrArg some (by kernel_rfl))
  f318 := Tryz.func206.trans (congrArg some (by kernel_rfl))
  f319 := Tryz.func207.trans (congrArg some (by kernel_rfl))
  f320 := Tryz.func208.trans (congrArg some (by kernel_rfl))
  f337 := Tryz.func213.trans (congrArg some (by kernel_rfl))
  f338 := Tryz.func214.trans (congrArg some (by kernel_rfl))
  t0 := Tryz.underlying0
  a0 := Tryz.isAgg0
  z0 := Tryz.sizeOf0
  v0 := Tryz.zeroValue0
  t2 := Tryz.underlying2
  a2 := Tryz.isAgg2
  z2 := Tryz.sizeOf2
  v2 := Tryz.zeroValue2
  t3 := Tryz.underlying3
  a3 := Tryz.isAgg3
  z3 := Tryz.sizeOf3
  v3 := Tryz.zeroValue3
  t4 := Tryz.underlying4
  a4 := Tryz.isAgg4
  z4 := Tryz.sizeOf4
  v4 := Tryz.zeroValue4
  t5 := Tryz.underlying5
  a5 := Tryz.isAgg5
  z5 := Tryz.sizeOf5
  v5 := Tryz.zeroValue5
  t9 := Tryz.underlying9
  a9 := Tryz.isAgg9
  z9 := Tryz.sizeOf9
  v9 := Tryz.zeroValue9
  t20 := Tryz.underlying20
  a20 := Tryz.isAgg20
  z20 := Tryz.sizeOf20
  v20 := Tryz.zeroValue20
  t37 := Tryz.underlying84
  a37 := Tryz.isAgg84
  z37 := Tryz.sizeOf84
  v37 := Tryz.zeroValue84
  t46 := Tryz.underlying199
  a46 := Tryz.isAgg199
  z46 := Tryz.sizeOf199
  v46 := Tryz.zeroValue199
  t51 := Tryz.underlying219
  a51 := Tryz.isAgg219
  z51 := Tryz.sizeOf219
  v51 := Tryz.zeroValue219
  t53 := Tryz.underlying38
  a53 := Tryz.isAgg38
  z53 := Tryz.sizeOf38
  v53 := Tryz.zeroValue38
  t171 := Tryz.underlying205
  a171 := Tryz.isAgg205
  z171 := Tryz.sizeOf205
  v171 := Tryz.zeroValue205
  t173 := Tryz.underlying208
  a173 := Tryz.isAgg208
  z173 := Tryz.sizeOf208
  v173 := Tryz.zeroValue208
  t212 := Tryz.underlying218
  a212 := Tryz.isAgg218
  z212 := Tryz.sizeOf218
  v212 := Tryz.zeroValue218
  t213 := Tryz.underlying220
  a213 := Tryz.isAgg220
  z213 := Tryz.sizeOf220
  t232 := Tryz.underlying229
  a232 := Tryz.isAgg229
  z232 := Tryz.sizeOf229
  v232 := Tryz.zeroValue229
  t233 := Tryz.underlying230
  a233 := Tryz.isAgg230
  z233 := Tryz.sizeOf230
  v233 := Tryz.zeroValue230
  g17 := by kernel_rfl
  g18 := by kernel_rfl
  g19 := by kernel_rfl
  i0 := by kernel_rfl
  i2 := by kernel_rfl
  i3 := by kernel_rfl
  i4 := by kernel_rfl
  i5 := by kernel_rfl
  i9 := by kernel_rfl
  i20 := by kernel_rfl
  i37 := by kernel_rfl
  i46 := by kernel_rfl
  i51 := by kernel_rfl
  i53 := by kernel_rfl
  i171 := by kernel_rfl
  i173 := by kernel_rfl
  i212 := by kernel_rfl
  i232 := by kernel_rfl
  i233 := by kernel_rfl
  m17 := by kernel_rfl
  m18 := by kernel_rfl
  m19 := by kernel_rfl }
open Go.RowKit Go.Sort Go.Lib in
/-- strconv.FormatInt: "FormatInt returns the string representation of i in the given base": AT BASE 10: i's decimal numeral, for every int64. (LAID: no walk: one application.) -/
theorem Tryz.strconv_FormatInt_10 (n : Int) (h0 : -9223372036854775808 ≤ n) (h1 : n ≤ 9223372036854775807) (w : World) (htab : Lib.TabIs Tryz.prog w "internal/strconv.uint64pow10" .u64 Lib.pow10Tab) :
    Calls Tryz.prog 146 #[.int .i64 n, .int .i64 10] w fun e w' => e = .returned (.string ⟨(Lib.itoa n).toArray⟩) ∧ ∃ k os, w' = grow (w.drewN k) os := Any.strconv_FormatInt_10 Tryz.laysM173 n h0 h1 w htab
def Tryz.laysM316_ren : Go.Shelf.Ren := ⟨fun | 316 => 123 | n => n, fun | 9 => 9 | 3 => 3 | 4 => 4 | 37 => 84 | 0 => 0 | 127 => 119 | 5 => 5 | n => n, fun | n => n⟩
theorem Tryz.laysM316 : Go.Proofs.LaysM.n316 Tryz.prog Tryz.laysM316_ren := {
  mixed := by kernel_rfl
  f316 := Tryz.func123.trans (congrArg some (by kernel_rfl))
  t0 := Tryz.underlying0
  a0 := Tryz.isAgg0
  z0 := Tryz.sizeOf0
  v0 := Tryz.zeroValue0
  t3 := Tryz.underlying3
  a3 := Tryz.isAgg3
  z3 := Tryz.sizeOf3
  v3 := Tryz.zeroValue3
  t4 := Tryz.underlying4
  a4 := Tryz.isAgg4
  z4 := Tryz.sizeOf4
  v4 := Tryz.zeroValue4
  t9 := Tryz.underlying9
  a9 := Tryz.isAgg9
  z9 := Tryz.sizeOf9
  v9 := Tryz.zeroValue9
  t37 := Tryz.underlying84
  a37 := Tryz.isAgg84
  z37 := Tryz.sizeOf84
  v37 := Tryz.zeroValue84
  t127 := Tryz.underlying119
  a127 := Tryz.isAgg119
  z127 := Tryz.sizeOf119
  v127 := Tryz.zeroValue119
  t5 := Tryz.underlying5
  a5 := Tryz.isAgg5
  z5 := Tryz.sizeOf5
  v5 := Tryz.zeroValue5
  i0 := by kernel_rfl
  i3 := by kernel_rfl
  i4 := by kernel_rfl
  i5 := by kernel_rfl
  i9 := by kernel_rfl
  i37 := by kernel_rfl
  i127 := by kernel_rfl }
open Go.RowKit in
/-- internal/stringslite.Clone (what strings.Clone calls): "Clone returns a fresh copy of s.": THE SAME BYTES. Of what was there nothing has turned (a new row is laid, and frozen, where s is not empty). (LAID: no walk: one application.) -/
theorem Tryz.stringslite_Clone (s : ByteArray) (w : World) (hlim : s.size ≤ 281474976710656) :
    Calls Tryz.prog 123 #[.string s] w fun e w' => e = .returned (.string s) ∧ Below w.heap.size w w' := Any.stringslite_Clone Tryz.laysM316 s w hlim
def Tryz.laysC174_ren : Go.Shelf.Ren := ⟨fun | 174 => 124 | 247 => 155 | 245 => 156 | 287 => 182 | 279 => 183 | 280 => 184 | 281 => 185 | 282 => 186 | 321 => 199 | 322 => 200 | 316 => 123 | 171 => 202 | 205 => 201 | 243 => 209 | 246 => 171 | 283 => 192 | 284 => 193 | 285 => 194 | 286 => 195 | 129 => 205 | 317 => 204 | 318 => 206 | 319 => 207 | 320 => 208 | 337 => 213 | 338 => 214 | n => n, fun | 9 => 9 | 3 => 3 | 2 => 2 | 75 => 143 | 85 => 149 | 4 => 4 | 167 => 196 | 5 => 5 | 53 => 38 | 175 => 197 | 46 => 199 | 168 => 200 | 37 => 84 | 0 => 0 | 210 => 214 | 21 => 21 | 127 => 119 | 145 => 225 | 143 => 223 | 171 => 205 | 173 => 208 | 212 => 218 | 51 => 219 | 20 => 20 | 213 => 220 | 232 => 229 | 233 => 230 | 80 => 89 | n => n, fun | 15 => 1 | 16 => 2 | 17 => 4 | 18 => 5 | 19 => 6 | n => n⟩
theorem Tryz.laysC174 : Go.Proofs.LaysC.n174 Tryz.prog Tryz.laysC174_ren := {
  mixed := by kernel_rfl
  f129 := Tryz.func205.trans (congrArg some (by kernel_rfl))
  f171 := Tryz.func202.trans (congrArg some (by kernel_rfl))
  f174 := Tryz.func124.trans (congrArg some (by kernel_rfl))
  f205 := Tryz.func201.trans (congrArg some (by kernel_rfl))
  f243 := Tryz.func209.trans (congrArg some (by kernel_rfl))
  f245 := Tryz.func156.trans (congrArg some (by kernel_rfl))
  f246 := Tryz.func171.trans (congrArg some (by kernel_rfl))
  f247 := Tryz.func155.trans (congrArg some (by kernel_rfl))
  f279 := Tryz.func183.trans (congrArg some (by kernel_rfl))
  f280 := Tryz.func184.trans (congrArg some (by kernel_rfl))
  f281 := Tryz.func185.trans (congrArg some (by kernel_rfl))
  f282 := Tryz.func186.trans (congrArg some (by kernel_rfl))
  f283 := Tryz.func192.trans (congrArg some (by kernel_rfl))
  f284 := Tryz.func193.trans (congrArg some (by kernel_rfl))
  f285 := Tryz.func194.trans (congrArg some (by kernel_rfl))
  f286 := Tryz.func195.trans (congrArg some (by kernel_rfl))
  f287 := Tryz.func182.trans (congrArg some (by kernel_rfl))
  f316 := Tryz.func123.trans (congrArg some (by kernel_rfl))
  f317 := Tryz.func204.trans (congrArg some (by kernel_rfl))
  f318 := Tryz.func206.trans (congrArg some (by kernel_rfl))
  f319 := Tryz.func207.trans (congrArg some (by kernel_rfl))
  f320 := Tryz.func208.trans (congrArg some (by kernel_rfl))
  f321 := Tryz.func199.trans (congrArg some (by kernel_rfl))
  f322 := Tryz.func200.trans (congrArg some (by kernel_rfl))
  f337 := Tryz.func213.trans (congrArg some (by kernel_rfl))
  f338 := Tryz.func214.trans (congrArg some (by kernel_rfl))
  t0 := Tryz.underlying0
  a0 := Tryz.isAgg0
  z0 := Tryz.sizeOf0
  v0 := Tryz.zeroValue0
  t2 := Tryz.underlying2
  a2 := Tryz.isAgg2
  z2 := Tryz.sizeOf2
  v2 := Tryz.zeroValue2
  t3 := Tryz.underlying3
  a3 := Tryz.isAgg3
  z3 := Tryz.sizeOf3
  v3 := Tryz.zeroValue3
  t4 := Tryz.underlying4
  a4 := Tryz.isAgg4
  z4 := Tryz.sizeOf4
  v4 := Tryz.zeroValue4
  t5 := Tryz.underlying5
  a5 := Tryz.isAgg5
  z5 := Tryz.sizeOf5
  v5 := Tryz.zeroValue5
  t9 := Tryz.underlying9
  a9 := Tryz.isAgg9
  z9 := Tryz.sizeOf9
  v9 := Tryz.zeroValue9
  t20 := Tryz.underlying20
  a20 := Tryz.isAgg20
  z20 := Tryz.sizeOf20
  v20 := Tryz.zeroValue20
  t21 := Tryz.underlying21
  a21 := Tryz.isAgg21
  z21 := Tryz.sizeOf21
  v21 := Tryz.zeroValue21
  t37 := Tryz.underlying84
  a37 := Tryz.isAgg84
  z37 := Tryz.sizeOf84
  v37 := Tryz.zeroValue84
  t46 := Tryz.underlying199
  a46 := Tryz.isAgg199
  z46 := Tryz.sizeOf199
  v46 := Tryz.zeroValue199
  t51 := Tryz.underlying219
  a51 := Tryz.isAgg219
  z51 := Tryz.sizeOf219
  v51 := Tryz.zeroValue219
  t53 := Tryz.underlying38
  a53 := Tryz.isAgg38
  z53 := Tryz.sizeOf38
  v53 := Tryz.zeroValue38
  t75 := Tryz.underlying143
  a75 := Tryz.isAgg143
  z75 := Tryz.sizeOf143
  v75 := Tryz.zeroValue143
  t85 := Tryz.underlying149
  a85 := Tryz.isAgg149
  z85 := Tryz.sizeOf149
  v85 := Tryz.zeroValue149
  t127 := Tryz.underlying119
  a127 := Tryz.isAgg119
  z127 := Tryz.sizeOf119
  v127 := Tryz.zeroValue119
  t143 := Tryz.underlying223
  a143 := Tryz.isAgg223
  z143 := Tryz.sizeOf223
  v143 := Tryz.zeroValue223
  t145 := Tryz.underlying225
  a145 := Tryz.isAgg225
  z145 := Tryz.sizeOf225
  v145 := Tryz.zeroValue225
  t167 := Tryz.underlying196
  a167 := Tryz.isAgg196
  z167 := Tryz.sizeOf196
  v167 := Tryz.zeroValue196
  t168 := Tryz.underlying200
  a168 := Tryz.isAgg200
  z168 := Tryz.sizeOf200
  v168 := Tryz.zeroValue200
  t171 := Tryz.underlying205
  a171 := Tryz.isAgg205
  z171 := Tryz.sizeOf205
  v171 := Tryz.zeroValue205
  t173 := Tryz.underlying208
  a173 := Tryz.isAgg208
  z173 := Tryz.sizeOf208
  v173 := Tryz.zeroValue208
  t175 := Tryz.underlying197
  a175 := Tryz.isAgg197
  z175 := Tryz.sizeOf197
  v175 := Tryz.zeroValue197
  t210 := Tryz.underlying214
  a210 := Tryz.isAgg214
  z210 := Tryz.sizeOf214
  v210 := Tryz.zeroValue214
  t212 := Tryz.underlying218
  a212 := Tryz.isAgg218
  z212 := Tryz.sizeOf218
  v212 := Tryz.zeroValue218
  t213 := Tryz.underlying220
  a213 := Tryz.isAgg220
  z213 := Tryz.sizeOf220
  t232 := Tryz.underlying229
  a232 := Tryz.isAgg229
  z232 := Tryz.sizeOf229
  v232 := Tryz.zeroValue229
  t233 := Tryz.underlying230
  a233 := Tryz.isAgg230
  z233 := Tryz.sizeOf230
  v233 := Tryz.zeroValue230
  g15 := by kernel_rfl
  g16 := by kernel_rfl
  g17 := by kernel_rfl
  g18 := by kernel_rfl
  g19 := by kernel_rfl
  t80 := Tryz.underlying89
  a80 := Tryz.isAgg89
  z80 := Tryz.sizeOf89
  v80 := Tryz.zeroValue89
  i0 := by kernel_rfl
  i2 := by kernel_rfl
  i3 := by kernel_rfl
  i4 := by kernel_rfl
  i5 := by kernel_rfl
  i9 := by kernel_rfl
  i20 := by kernel_rfl
  i21 := by kernel_rfl
  i37 := by kernel_rfl
  i46 := by kernel_rfl
  i51 := by kernel_rfl
  i53 := by kernel_rfl
  i75 := by kernel_rfl
  i80 := by kernel_rfl
  i85 := by kernel_rfl
  i127 := by kernel_rfl
  i143 := by kernel_rfl
  i145 := by kernel_rfl
  i167 := by kernel_rfl
  i168 := by kernel_rfl
  i171 := by kernel_rfl
  i173 := by kernel_rfl
  i175 := by kernel_rfl
  i210 := by kernel_rfl
  i212 := by kernel_rfl
  i232 := by kernel_rfl
  i233 := by kernel_rfl
  m15 := by kernel_rfl
  m16 := by kernel_rfl
  m17 := by kernel_rfl
  m18 := by kernel_rfl
  m19 := by kernel_rfl
  c0 := by kernel_rfl
  c2 := by kernel_rfl
  c3 := by kernel_rfl
  c4 := by kernel_rfl
  c5 := by kernel_rfl
  c9 := by kernel_rfl
  c20 := by kernel_rfl
  c21 := by kernel_rfl
  c37 := by kernel_rfl
  c46 := by kernel_rfl
  c51 := by kernel_rfl
  c53 := by kernel_rfl
  c75 := by kernel_rfl
  c80 := by kernel_rfl
  c85 := by kernel_rfl
  c127 := by kernel_rfl
  c143 := by kernel_rfl
  c145 := by kernel_rfl
  c167 := by kernel_rfl
  c168 := by kernel_rfl
  c171 := by kernel_rfl
  c173 := by kernel_rfl
  c175 := by kernel_rfl
  c210 := by kernel_rfl
  c212 := by kernel_rfl
  c213 := by kernel_rfl
  c232 := by kernel_rfl
  c233 := by kernel_rfl }
open Go.RowKit in
/-- strconv.ParseInt(s, 10, 64), AT EVERY STRING THAT SPELLS AN int64 ('Lib.parseIntB 64 s.data.toList = .ok v'): v, AND NO ERROR. (LAID: no walk: one application.) -/
theorem Tryz.strconv_ParseInt_10_at64_ok (s : ByteArray) (hmax : s.size ≤ 9223372036854775806) (v : Int) (h : Lib.parseIntB 64 s.data.toList = .ok v) (w : World) :
    Calls Tryz.prog 124 #[.string s, .int .i64 10, .int .i64 64] w fun e w' => e = .returned (.tuple #[.int .i64 v, .nilIface]) ∧ (w' = w ∨ ∃ t, w' = Lib.bytesWorld w 5 t) := Any.strconv_ParseInt_10_at64_ok Tryz.laysC174 s hmax v h w
open Go.RowKit in
/-- strconv.ParseInt(s, 10, 64), AT EVERY NUMERAL THAT NO int64 HOLDS: THE GREATEST OR THE LEAST int64, BY THE SIGN ('Lib.intSat 64'), AND AN ERROR THAT IS NOT nil: a *NumError in a new block N: {Func: "ParseInt", Num: s's bytes, Err: what the variable ErrRange holds}. Of what was there nothing has turned. (LAID: no walk: one application.) -/
theorem Tryz.strconv_ParseInt_10_at64_range (s : ByteArray) (hlim : s.size ≤ 281474976710656) (h : Lib.parseIntB 64 s.data.toList = .range) (ev : Value) (w : World) (hv : w.cell? ⟨2, 0, none⟩ = some ev) (hev : ev = .nilIface ∨ ∃ te pe, ev = .iface te pe) :
    Calls Tryz.prog 124 #[.string s, .int .i64 10, .int .i64 64] w fun e w' => ∃ N, e = .returned (.tuple #[.int .i64 (Lib.intSat 64 s.data.toList), .iface 200 (.pointer (some ⟨N, 0, none⟩))]) ∧ w.heap.size ≤ N ∧ w'.heap[N]? = some (.cells #[.string ⟨#[80, 97, 114, 115, 101, 73, 110, 116]⟩, .string s, ev] 214 (0, 0)) ∧ Below w.heap.size w w' := Any.strconv_ParseInt_10_at64_range Tryz.laysC174 s hlim h ev w hv hev
def Tryz.lays99_ren : Go.Shelf.Ren := ⟨fun | 99 => 150 | 206 => 177 | n => n, fun | 9 => 9 | 4 => 4 | 3 => 3 | n => n, fun | n => n⟩
theorem Tryz.lays99 : Go.Proofs.Lays.n99 Tryz.prog Tryz.lays99_ren := {
  mixed := by kernel_rfl
  f99 := Tryz.func150.trans (congrArg some (by kernel_rfl))
  f206 := Tryz.func177.trans (congrArg some (by kernel_rfl))
  t3 := Tryz.underlying3
  a3 := Tryz.isAgg3
  z3 := Tryz.sizeOf3
  v3 := Tryz.zeroValue3
  t4 := Tryz.underlying4
  a4 := Tryz.isAgg4
  z4 := Tryz.sizeOf4
  v4 := Tryz.zeroValue4
  t9 := Tryz.underlying9
  a9 := Tryz.isAgg9
  z9 := Tryz.sizeOf9
  v9 := Tryz.zeroValue9 }
open Go.RowKit Go.Lib in
/-- strings.HasPrefix: "HasPrefix reports whether the string s begins with prefix.": IT RETURNS 'Lib.hasPrefix s prefix'; the world is as it was. (LAID: no walk: one application.) -/
theorem Tryz.strings_HasPrefix (s p : ByteArray) (w : World) :
    Calls Tryz.prog 150 #[.string s, .string p] w fun e w' => e = .returned (.bool (Lib.hasPrefix s.data.toList p.data.toList)) ∧ w' = w := Any.strings_HasPrefix Tryz.lays99 s p w
end Go.Proofs

/- Values' texts. -/
namespace Go.Proofs.YtjgggmjjikopeaaGreatDoor
open Go.RowKit
set_option linter.unusedVariables false

/-- The table of powers is laid. -/
def Tab (w : World) : Prop := Lib.TabIs Tryz.prog w "internal/strconv.uint64pow10" .u64 Lib.pow10Tab

/-- The package variables lie in the first blocks. -/
def gB : Nat := 7

theorem Tab.below {B : Nat} {w w' : World} (h : Tab w) (hb : Below B w w') (hB : gB ≤ B) : Tab w' := by
  unfold Tab Lib.TabIs World.var? at *
  obtain ⟨g, hg, hx⟩ := Option.bind_eq_some_iff.1 h
  have hgl : g < gB := by
    have : Tryz.prog.globalNamed "internal/strconv.uint64pow10" = some g := hg
    have h2 : (Tryz.prog.globalNamed "internal/strconv.uint64pow10").all (fun g => decide (g < gB)) = true := by kernel_rfl
    rw [this] at h2
    simpa using h2
  rw [hg, Option.bind_some, hb.block g (by omega)]
  exact hx

theorem below_grow (w : World) (k : Nat) (os : Array Obj) : Below w.heap.size w (Sort.grow (w.drewN k) os) :=
  ⟨rfl, rfl, rfl, by simp [Sort.grow], fun i hi => by simp [Sort.grow, Array.getElem?_append_left hi]⟩

/-- A word as a number with a sign. -/
def sgn (b : Nat) : Int := if b < 9223372036854775808 then (b : Int) else (b : Int) - 18446744073709551616

/-- A value's text. -/
def valTx (t b : Nat) : List UInt8 := if t = 1 then Lib.itoa (sgn b) else if t = 2 then Lib.formatBool (decide (b = 1)) else if t = 3 then textOf (home b) else []
/-- Whether it may be told. -/
def valOk (t b : Nat) : Bool := if t = 1 then decide (b ≠ 9223372036854775808) else if t = 2 then decide (b ≤ 1) else if t = 3 then ((home b == b) && !(Lib.hasPrefix (textOf (home b)) [35])) else false

theorem formatInt_any (b : Nat) (hb : b < 18446744073709551616) (w : World) (hT : Tab w) :
    Calls Tryz.prog 146 #[.int .i64 (sgn b), .int .i64 10] w fun e w' => e = .returned (.string ⟨(Lib.itoa (sgn b)).toArray⟩) ∧ Below w.heap.size w w' := by
  refine (Tryz.strconv_FormatInt_10 (sgn b) (by unfold sgn; split <;> omega) (by unfold sgn; split <;> omega) w hT).mono ?_
  rintro e w' ⟨rfl, k, os, rfl⟩
  exact ⟨rfl, below_grow w k os⟩

theorem conv64 (b : Nat) (hb : b < 18446744073709551616) : IntKind.i64.wrap (b : Int) = sgn b := by
  rw [IntKind.wrap_i64]
  unfold sgn
  split <;> omega

set_option maxRecDepth 100000 in
set_option maxHeartbeats 1600000 in
theorem valueText_any (t b : Nat) (ht : t < 256) (hb : b < 18446744073709551616) (w : World) (hT : Tab w) (h16 : gB ≤ w.heap.size) :
    Calls Tryz.prog 112 #[.agg [.int .u8 (t : Int), .int .u64 (b : Int)].toArray] w fun e w' => e = .returned (.tuple #[.string ⟨(valTx t b).toArray⟩, .bool (valOk t b)]) ∧ Below w.heap.size w w' := by
  by_cases h1 : t = 1
  · subst h1
    have hv : valTx 1 b = Lib.itoa (sgn b) := rfl
    have ho : valOk 1 b = decide (b ≠ 9223372036854775808) := rfl
    have hcv := conv64 b hb
    have hgt : decide (sgn b > -9223372036854775808) = decide (b ≠ 9223372036854775808) := by
      congr 1
      unfold sgn
      apply propext
      constructor
      · intro h; split at h <;> omega
      · intro h; split <;> omega
    have hF : ∀ w, Tab w → Calls Tryz.prog 146 #[.int .i64 (sgn b), .int .i64 10] w fun e w' => e = .returned (.string ⟨(Lib.itoa (sgn b)).toArray⟩) ∧ Below w.heap.size w w' := fun w h => formatInt_any b hb w h
    rw [hv, ho]
    obtain ⟨x, hx⟩ : ∃ x, x = sgn b := ⟨_, rfl⟩
    rw [← hx] at hcv hF hgt ⊢
    obtain ⟨L, hL⟩ : ∃ L, L = Lib.itoa x := ⟨_, rfl⟩
    rw [← hL] at hF ⊢
    clear hL hv ho hx
    go_enter Tryz.func112, Tryz.ntmps112
    go_wp2_with fail
    refine (hF _ (hT.below ((Below.refl _ w).alloc (Nat.le_refl _) _) h16)).mono ?_
    rintro e w2 ⟨rfl, hb2⟩
    have hgt' : decide (-9223372036854775808 < x) = decide (b ≠ 9223372036854775808) := hgt
    clear hgt hF hcv
    go_wp2
    go_ret2
    exact ⟨by simp, ((Below.refl _ w).alloc (Nat.le_refl _) _).trans (hb2.mono (by simp))⟩
  by_cases h2 : t = 2
  · subst h2
    have hv : valTx 2 b = Lib.formatBool (decide (b = 1)) := rfl
    have ho : valOk 2 b = decide (b ≤ 1) := rfl
    have hbe : ((b : Int) == 1) = decide (b = 1) := by rw [Bool.eq_iff_iff]; simp; omega
    have hbl : decide ((b : Int) ≤ 1) = decide (b ≤ 1) := by congr 1; apply propext; omega
    rw [hv, ho]
    obtain ⟨B, hB⟩ : ∃ B, B = decide (b = 1) := ⟨_, rfl⟩
    rw [← hB] at hbe ⊢
    have hF : ∀ w, Calls Tryz.prog 147 #[.bool B] w fun e w' => e = .returned (.string ⟨(Lib.formatBool B).toArray⟩) ∧ w' = w := fun w => Tryz.strconv_FormatBool B w
    obtain ⟨L, hL⟩ : ∃ L, L = Lib.formatBool B := ⟨_, rfl⟩
    rw [← hL] at hF ⊢
    rw [← hbl]
    clear hL hv ho hB hbl
    go_enter Tryz.func112, Tryz.ntmps112
    go_wp2_with fail
    go_quiet (first | (go_at_call 147; exact Calls.quiet_of_same (hF _)))
    go_wp2
    go_ret2
    have hx := (Below.refl _ w).alloc (Nat.le_refl _) (.cells #[.int .u8 2, .int .u64 (b : Int)] 40)
    exact ⟨rfl, hx.os, hx.tape, hx.output, hx.size, hx.block⟩
  by_cases h3 : t = 3
  · subst h3
    have hv : valTx 3 b = textOf (home b) := rfl
    have ho : valOk 3 b = ((home b == b) && !(Lib.hasPrefix (textOf (home b)) [35])) := rfl
    have hX : ∀ w, Calls Tryz.prog 148 #[.int .u64 (b : Int)] w fun e w' => e = .returned (.string ⟨(textOf (home b)).toArray⟩) ∧ Below w.heap.size w w' := fun w => text_any b hb w
    have hM : ∀ w, Calls Tryz.prog 149 #[.int .u64 (b : Int)] w fun e w' => e = .returned (.bool (home b == b)) ∧ w' = w := fun w => may_any b w hb
    rw [hv, ho]
    obtain ⟨L, hL⟩ : ∃ L, L = textOf (home b) := ⟨_, rfl⟩
    rw [← hL] at hX ⊢
    obtain ⟨M, hMM⟩ : ∃ M, M = (home b == b) := ⟨_, rfl⟩
    rw [← hMM] at hM ⊢
    clear hL hv ho hMM
    have hP : ∀ w, Calls Tryz.prog 150 #[.string ⟨L.toArray⟩, .string ⟨#[35]⟩] w fun e w' => e = .returned (.bool (Lib.hasPrefix L [35])) ∧ w' = w := fun w => Tryz.strings_HasPrefix ⟨L.toArray⟩ ⟨#[35]⟩ w
    go_enter Tryz.func112, Tryz.ntmps112
    go_wp2_with fail
    refine (hX _).mono ?_
    rintro e w2 ⟨rfl, hb2⟩
    have c1 : w2.cell? ⟨w.heap.size, 1, none⟩ = some (.int .u64 (b : Int)) := by
      rw [World.cell?_of_block (hb2.block _ (by simp))]
      simp
    have hbb : Below w.heap.size w w2 := ((Below.refl _ w).alloc (Nat.le_refl _) _).trans (hb2.mono (by simp))
    clear hb2 hX
    cases M with
    | false =>
      go_wp2_with fail
      refine (hM _).mono ?_
      rintro e w' ⟨rfl, rfl⟩
      go_wp2
      go_ret2
      exact ⟨rfl, hbb⟩
    | true =>
      go_wp2_with fail
      refine (hM _).mono ?_
      rintro e w' ⟨rfl, rfl⟩
      go_wp2_with fail
      refine (hP _).mono ?_
      rintro e w' ⟨rfl, rfl⟩
      go_wp2
      go_ret2
      exact ⟨rfl, hbb⟩
  · have hv : valTx t b = [] := by unfold valTx; rw [if_neg h1, if_neg h2, if_neg h3]
    have ho : valOk t b = false := by unfold valOk; rw [if_neg h1, if_neg h2, if_neg h3]
    rw [hv, ho]
    have e1 : ((t : Int) == 1) = false := by rw [beq_eq_false_iff_ne]; omega
    have e2 : ((t : Int) == 2) = false := by rw [beq_eq_false_iff_ne]; omega
    have e3 : ((t : Int) == 3) = false := by rw [beq_eq_false_iff_ne]; omega
    go_enter Tryz.func112, Tryz.ntmps112
    go_wp2
    go_ret2
    exact ⟨rfl, (Below.refl _ w).alloc (Nat.le_refl _) _⟩

/-- Whether a value may be a literal. -/
def litOk (t b : Nat) : Bool := valOk t b && !(Lib.hasPrefix (valTx t b) [45])

set_option maxRecDepth 100000 in
set_option maxHeartbeats 1600000 in
theorem mayLit_any (t b : Nat) (ht : t < 256) (hb : b < 18446744073709551616) (w : World) (hT : Tab w) (h16 : gB ≤ w.heap.size) :
    Calls Tryz.prog 136 #[.agg [.int .u8 (t : Int), .int .u64 (b : Int)].toArray] w fun e w' => e = .returned (.bool (litOk t b)) ∧ Below w.heap.size w w' := by
  have hV := fun w hT h16 => valueText_any t b ht hb w hT h16
  unfold litOk
  obtain ⟨L, hL⟩ : ∃ L, L = valTx t b := ⟨_, rfl⟩
  obtain ⟨M, hM⟩ : ∃ M, M = valOk t b := ⟨_, rfl⟩
  rw [← hL, ← hM] at hV ⊢
  clear hL hM
  have hP : ∀ w, Calls Tryz.prog 150 #[.string ⟨L.toArray⟩, .string ⟨#[45]⟩] w fun e w' => e = .returned (.bool (Lib.hasPrefix L [45])) ∧ w' = w := fun w => Tryz.strings_HasPrefix ⟨L.toArray⟩ ⟨#[45]⟩ w
  go_enter Tryz.func136, Tryz.ntmps136
  go_wp2_with fail
  refine (hV _ (hT.below ((Below.refl _ w).alloc (Nat.le_refl _) _) h16) (by simp; omega)).mono ?_
  rintro e w2 ⟨rfl, hb2⟩
  have hbb : Below w.heap.size w w2 := ((Below.refl _ w).alloc (Nat.le_refl _) _).trans (hb2.mono (by simp))
  clear hV hb2
  cases M with
  | false =>
    go_wp2
    go_ret
    exact ⟨rfl, hbb⟩
  | true =>
    go_wp2_with fail
    refine (hP _).mono ?_
    rintro e w' ⟨rfl, rfl⟩
    go_wp2
    go_ret
    exact ⟨rfl, hbb⟩

end Go.Proofs.YtjgggmjjikopeaaGreatDoor

/- The text that is put together: a struct with a builder in it, and what writing to it leaves as it was. -/
namespace Go.Proofs.YtjgggmjjikopeaaGreatDoor
open Go.RowKit
set_option linter.unusedVariables false

/-- A writing to the text at block g, made from block B on: all other blocks are as they were, but rows of bytes from B on. -/
structure Wr (B g : Nat) (w w' : World) : Prop where
  os : w'.os = w.os
  tape : w'.tape = w.tape
  output : w'.output = w.output
  size : w.heap.size ≤ w'.heap.size
  block : ∀ k, k < w.heap.size → k ≠ g → (k < B ∨ ∀ cs fr, w.heap[k]? ≠ some (.cells cs 5 fr)) → w'.heap[k]? = w.heap[k]?

theorem Wr.refl (B g : Nat) (w : World) : Wr B g w w := ⟨rfl, rfl, rfl, Nat.le_refl _, fun _ _ _ _ => rfl⟩
theorem Wr.trans {B g : Nat} {a b c : World} (h : Wr B g a b) (k : Wr B g b c) : Wr B g a c :=
  ⟨k.os.trans h.os, k.tape.trans h.tape, k.output.trans h.output, Nat.le_trans h.size k.size, fun i hi hn ht => by
    have e := h.block i hi hn ht
    rw [k.block i (Nat.lt_of_lt_of_le hi h.size) hn ?_, e]
    rcases ht with ht | ht
    · exact .inl ht
    · exact .inr fun cs fr hx => ht cs fr (by rw [← e]; exact hx)⟩
theorem Wr.of_below {B g : Nat} {w w' : World} (h : Below w.heap.size w w') : Wr B g w w' := ⟨h.os, h.tape, h.output, h.size, fun k hk _ _ => h.block k hk⟩
theorem Wr.at {B g t k : Nat} {w w' : World} {cs : List Value} (h : Wr B g w w') (ha : At t w k cs) (hn : k ≠ g) (ht : t ≠ 5) : At t w' k cs := by
  have hx : w.heap[k]? = _ := ha
  unfold At
  rw [h.block k ha.lt hn (.inr fun cs fr he => by rw [hx] at he; injection he with he; injection he with _ h2; exact ht h2)]
  exact ha
theorem Wr.below {B g : Nat} {w w' : World} (h : Wr B g w w') (hB : B ≤ g) (hw : B ≤ w.heap.size) : Below B w w' :=
  ⟨h.os, h.tape, h.output, h.size, fun k hk => h.block k (by omega) (by omega) (.inl hk)⟩

/-- The text's block: the builder's own address, its buffer, the most. -/
def Raw (B : Nat) (w : World) (g : Nat) (m : Nat) (bs : List UInt8) : Prop :=
  B ≤ g ∧ ∃ p v, (p = .pointer none ∨ p = .pointer (some ⟨g, 0, none⟩)) ∧ At 88 w g [p, v, .int .i64 (m : Int)] ∧ w.ownsRow B 5 1 v bs.length (Lib.byteCells bs) ∧ v.ownBlock ≠ some g

theorem ownBlock_ne5 {B g t n : Nat} {w : World} {v : Value} {xs cs : List Value} (h : w.ownsRow B 5 1 v n xs) (hg : At t w g cs) (ht : t ≠ 5) : v.ownBlock ≠ some g := by
  obtain ⟨_, ⟨rfl, _⟩ | ⟨k, cap, cur, rfl, _, hk, _⟩⟩ := h
  · simp [Value.ownBlock]
  · simp only [Value.ownBlock]
    intro e
    injection e with e
    subst e
    have hx : w.heap[k]? = _ := hg
    rw [hk] at hx
    injection hx with hx
    injection hx with _ h2
    exact ht h2.symm

theorem Raw.new {w : World} {g m B : Nat} (hB : B ≤ g) (h : At 88 w g [.pointer none, .slice none 0 0, .int .i64 (m : Int)]) : Raw B w g m [] :=
  ⟨hB, .pointer none, .slice none 0 0, .inl rfl, h, ⟨rfl, .inl ⟨rfl, rfl⟩⟩, by simp [Value.ownBlock]⟩

theorem Raw.lt {B g m : Nat} {w : World} {bs : List UInt8} (h : Raw B w g m bs) : g < w.heap.size := by
  obtain ⟨_, p, v, _, ha, _⟩ := h
  exact ha.lt

theorem Raw.below {B g m : Nat} {w w' : World} {bs : List UInt8} (h : Raw B w g m bs) (hb : Below w.heap.size w w') : Raw B w' g m bs := by
  obtain ⟨hB, p, v, hp, ha, hown, hne⟩ := h
  refine ⟨hB, p, v, hp, ha.below hb, ?_, hne⟩
  obtain ⟨h1, h2 | ⟨k, cap, cur, rfl, hk, hh, hr⟩⟩ := hown
  · exact ⟨h1, .inl h2⟩
  · have hlt : k < w.heap.size := by
      rcases Nat.lt_or_ge k w.heap.size with hlt | hge
      · exact hlt
      · rw [Array.getElem?_eq_none hge] at hh; simp at hh
    exact ⟨h1, .inr ⟨k, cap, cur, rfl, hk, by rw [hb.block k hlt]; exact hh, hr⟩⟩

theorem sz52 : (Tryz.prog.info? 86).map (·.size) = some 2 := by kernel_rfl
theorem lies52 : liesAt Tryz.prog Tryz.prog.depth 88 (3 / Tryz.prog.cellsOf 88) 0 86 1 = true := by kernel_rfl

theorem At.shape {t : TypeId} {w : World} {g : Nat} {cs : List Value} (h : At t w g cs) : w.shape? g = some (t, cs.length) := by
  simp [World.shape?, show w.heap[g]? = _ from h]

set_option maxHeartbeats 1000000 in
set_option maxRecDepth 100000 in
theorem copyCheck_used (b : Nat) (w : World) (h0 : w.cell? ⟨b, 0, none⟩ = some (.pointer (some ⟨b, 0, none⟩))) :
    Calls Tryz.prog 152 #[.pointer (some ⟨b, 0, none⟩)] w fun e w' => e = .returned (.tuple #[]) ∧ w' = w := by
  obtain ⟨j, hj, _⟩ := Option.map_eq_some_iff.1 sz52
  go_enter Tryz.func152, Tryz.ntmps152
  go_wp2
  rw [Lib.run_neq_ptr_same w _ Tryz.underlying83 hj]
  go_wp2
  go_end0
  exact ⟨rfl, rfl⟩

set_option maxHeartbeats 1000000 in
set_option maxRecDepth 100000 in
theorem copyCheck_fresh (b : Nat) (v x : Value) (w : World) (hA : At 88 w b [.pointer none, v, x]) :
    Calls Tryz.prog 152 #[.pointer (some ⟨b, 0, none⟩)] w fun e w' => e = .returned (.tuple #[]) ∧ At 88 w' b [.pointer (some ⟨b, 0, none⟩), v, x] ∧ But b w w' ∧ w'.heap.size = w.heap.size := by
  obtain ⟨j, hj, hjs⟩ := Option.map_eq_some_iff.1 sz52
  have h0 : w.cell? ⟨b, 0, none⟩ = some (.pointer none) := by rw [hA.cell]; rfl
  have hsh := hA.shape
  have hfz := hA.frozen 0
  go_enter Tryz.func152, Tryz.ntmps152
  go_wp2
  rw [Lib.run_to_unsafe w ⟨b, 0, none⟩ Tryz.underlying83 Tryz.underlying194 hj (by rw [hjs]; decide) hsh (Nat.zero_lt_succ 2)]
  simp only [Result.andThen]
  rw [Oper.upon_value]
  go_wp2
  rw [run_callFunc_extern Tryz.func180 (by kernel_rfl) (by kernel_rfl) (by kernel_rfl) (e := Extern.AbiNoEscape.same) (by kernel_rfl)]
  rw [Lib.run_noEscape]
  simp only [Result.andThen]
  rw [Oper.upon_value]
  go_wp2
  rw [Lib.run_from_unsafe w ⟨b, 0, none⟩ Tryz.underlying194 Tryz.underlying83 hj hsh lies52]
  simp only [Result.andThen]
  rw [Oper.upon_value]
  go_wp2
  go_end0
  exact ⟨rfl, hA.set 0 _, (But.refl b w).setCell 0 _, by simp⟩

theorem owns_but {B g n : Nat} {w w' : World} {v : Value} {xs : List Value} (h : w.ownsRow B 5 1 v n xs) (hb : But g w w') (hn : v.ownBlock ≠ some g) : w'.ownsRow B 5 1 v n xs := by
  obtain ⟨h1, h2 | ⟨k, cap, cur, rfl, hk, hh, hr⟩⟩ := h
  · exact ⟨h1, .inl h2⟩
  · have hlt : k < w.heap.size := by
      rcases Nat.lt_or_ge k w.heap.size with hlt | hge
      · exact hlt
      · rw [Array.getElem?_eq_none hge] at hh; simp at hh
    exact ⟨h1, .inr ⟨k, cap, cur, rfl, hk, by rw [hb.block k hlt (by intro e; apply hn; simp [Value.ownBlock, e])]; exact hh, hr⟩⟩

theorem Wr.of_but {B g : Nat} {w w' : World} (h : But g w w') : Wr B g w w' := ⟨h.os, h.tape, h.output, h.size, fun k hk hn _ => h.block k hk hn⟩

theorem copyCheck_any (B g m : Nat) (bs : List UInt8) (w : World) (h : Raw B w g m bs) :
    Calls Tryz.prog 152 #[.pointer (some ⟨g, 0, none⟩)] w fun e w' => e = .returned (.tuple #[]) ∧ (∃ v, At 88 w' g [.pointer (some ⟨g, 0, none⟩), v, .int .i64 (m : Int)] ∧ w'.ownsRow B 5 1 v bs.length (Lib.byteCells bs) ∧ v.ownBlock ≠ some g) ∧ Wr B g w w' ∧ w'.heap.size = w.heap.size := by
  obtain ⟨hB, p, v, rfl | rfl, ha, hown, hne⟩ := h
  · refine (copyCheck_fresh g v _ w ha).mono ?_
    rintro e w' ⟨rfl, h1, h2, h3⟩
    exact ⟨rfl, ⟨v, h1, owns_but hown h2 hne, hne⟩, Wr.of_but h2, h3⟩
  · refine (copyCheck_used g w (by rw [ha.cell]; rfl)).mono ?_
    rintro e w' ⟨rfl, rfl⟩
    exact ⟨rfl, ⟨v, ha, hown, hne⟩, Wr.refl _ _ _, rfl⟩

set_option maxHeartbeats 1000000 in
set_option maxRecDepth 100000 in
theorem len_any (B g m : Nat) (bs : List UInt8) (w : World) (h : Raw B w g m bs) :
    Calls Tryz.prog 45 #[.pointer (some ⟨g, 0, none⟩)] w fun e w' => e = .returned (.int .i64 (bs.length : Int)) ∧ w' = w := by
  obtain ⟨hB, p, v, hp, ha, hown, hne⟩ := h
  obtain ⟨ao, cap, rfl⟩ : ∃ ao cap, v = .slice ao bs.length cap := by
    rcases hown.2 with ⟨hv, h0⟩ | ⟨k, cap, cur, hv, _⟩
    · exact ⟨none, 0, by rw [hv, h0]⟩
    · exact ⟨_, _, hv⟩
  have c1 : w.cell? ⟨g, 1, none⟩ = some (.slice ao bs.length cap) := by rw [ha.cell]; rfl
  clear hown ha hne
  go_enter Tryz.func45, Tryz.ntmps45
  go_wp2
  go_ret
  exact ⟨rfl, rfl⟩

set_option maxHeartbeats 2000000 in
set_option maxRecDepth 100000 in
theorem write_any (B g m : Nat) (bs : List UInt8) (s : ByteArray) (w : World) (h : Raw B w g m bs) (hlen : bs.length + s.size ≤ 140737488355328) (hBw : B ≤ w.heap.size) :
    Calls Tryz.prog 116 #[.pointer (some ⟨g, 0, none⟩), .string s] w fun e w' => e = .returned (.tuple #[.int .i64 s.size, .nilIface]) ∧ Raw B w' g m (bs ++ s.data.toList) ∧ Wr B g w w' := by
  obtain ⟨i0, hi, hz0, hz1, hz2⟩ := info_parts Tryz.info5
  have hB := h.1
  have hck := copyCheck_any B g m bs w h
  go_enter Tryz.func116, Tryz.ntmps116
  go_wp2_with fail
  refine hck.mono ?_
  rintro e w1 ⟨rfl, ⟨v, ha, hown, hne⟩, hwr, hsz⟩
  have c0 : w1.cell? ⟨g, 0, none⟩ = some (.pointer (some ⟨g, 0, none⟩)) := by rw [ha.cell]; rfl
  have c1 : w1.cell? ⟨g, 1, none⟩ = some v := by rw [ha.cell]; rfl
  go_wp2_with (at_builtin; refine Lib.wpList_append_own_string _ rfl _ _ 84 9 rfl B 5 i0 Tryz.underlying84 Tryz.underlying9 hi hz0 hz1 hz2 _ _ _ rfl hown s rfl ?c3 ?c4 ?c5 ?_)
  case c3 => unfold maxLen; omega
  case c4 => omega
  case c5 => omega
  intro v' w2 hown' hgrow _
  have hlt : g < w1.heap.size := ha.lt
  have hb2 : At 88 w2 g [.pointer (some ⟨g, 0, none⟩), v, .int .i64 (m : Int)] := by
    unfold At
    rw [hgrow.block g hlt (fun e => hne e.symm)]
    exact ha
  have d0 : w2.cell? ⟨g, 0, none⟩ = some (.pointer (some ⟨g, 0, none⟩)) := by rw [hb2.cell]; rfl
  have d1 : w2.cell? ⟨g, 1, none⟩ = some v := by rw [hb2.cell]; rfl
  have f1 : w2.frozen? ⟨g, 1, none⟩ = false := hb2.frozen 1
  have hne' := ownBlock_ne5 hown' hb2 (by decide)
  have hw2 : Wr B g w1 w2 := ⟨hgrow.os, hgrow.tape, hgrow.output, hgrow.size, fun k hk hn ht => hgrow.block k hk (by
    intro e
    obtain ⟨_, ⟨rfl, _⟩ | ⟨q, cap, cur, rfl, hq, hh, _⟩⟩ := hown
    · simp [Value.ownBlock] at e
    · simp only [Value.ownBlock] at e
      injection e with e
      subst e
      rcases ht with ht | ht
      · omega
      · exact ht _ _ hh)⟩
  have hfin : ∀ v'', v'' = v' → Raw B (w2.setCell ⟨g, 1, none⟩ v'') g m (bs ++ s.data.toList) ∧ Wr B g w (w2.setCell ⟨g, 1, none⟩ v'') := by
    rintro v'' rfl
    have hbut : But g w2 (w2.setCell ⟨g, 1, none⟩ v'') := (But.refl g w2).setCell 1 _
    refine ⟨⟨hB, .pointer (some ⟨g, 0, none⟩), v'', .inr rfl, hb2.set 1 v'', ?_, hne'⟩, (hwr.trans hw2).trans (Wr.of_but hbut)⟩
    have := owns_but hown' hbut hne'
    rw [Lib.byteCells_append, List.length_append, ← Lib.strCells_eq]
    simpa using this
  obtain ⟨ao, n', cap, rfl⟩ : ∃ ao n' cap, v' = .slice ao n' cap := by
    rcases hown'.2 with ⟨hv, _⟩ | ⟨q, cap, cur, hv, _⟩
    · exact ⟨_, _, _, hv⟩
    · exact ⟨_, _, _, hv⟩
  have HF : Hid (∀ v'', v'' = .slice ao n' cap → Raw B (w2.setCell ⟨g, 1, none⟩ v'') g m (bs ++ s.data.toList) ∧ Wr B g w (w2.setCell ⟨g, 1, none⟩ v'')) := hfin
  clear hfin hown hown' hgrow hb2 ha hwr hw2 hne hne'
  go_wp2
  go_ret2
  exact ⟨rfl, HF.out _ rfl⟩

theorem us_none (W : World) (q : Option Addr) : (Builtin.unsafeString_ #[119, 3] 9 #[.pointer q, .int .i64 0]).run Tryz.prog W = .ok (.string .empty) W :=
  Lib.run_unsafeString_none W _ _ _ q

set_option maxHeartbeats 2000000 in
set_option maxRecDepth 100000 in
theorem string_nil (B g : Nat) (p x : Value) (w : World) (ha : At 88 w g [p, .slice none 0 0, x]) :
    Calls Tryz.prog 46 #[.pointer (some ⟨g, 0, none⟩)] w fun e w' => e = .returned (.string ⟨#[]⟩) ∧ Below B w w' := by
  have hUS := us_none
  have c1 : w.drew.cell? ⟨g, 1, none⟩ = some (.slice none 0 0) := by rw [ha.drew.cell]; rfl
  have hSD : (Builtin.unsafeSliceData_ #[84] 119 #[.slice none 0 0]).run Tryz.prog w.drew = .ok (.pointer none) w.drew := Lib.run_unsafeSliceData_nil _ _ _ _ _
  clear ha
  go_enter Tryz.func46, Tryz.ntmps46
  go_wp2
  go_region
  all_goals (go_wp2; go_ret; exact ⟨rfl, Below.drew (Below.refl B w)⟩)

set_option maxHeartbeats 2000000 in
set_option maxRecDepth 100000 in
theorem string_room (B g k cap : Nat) (p x : Value) (w : World) (hc0 : cap ≠ 0) (ha : At 88 w g [p, .slice (some ⟨k, 0, none⟩) 0 cap, x]) :
    Calls Tryz.prog 46 #[.pointer (some ⟨g, 0, none⟩)] w fun e w' => e = .returned (.string ⟨#[]⟩) ∧ Below B w w' := by
  have hUS := us_none
  have c1 : w.drew.cell? ⟨g, 1, none⟩ = some (.slice (some ⟨k, 0, none⟩) 0 cap) := by rw [ha.drew.cell]; rfl
  have hSD : (Builtin.unsafeSliceData_ #[84] 119 #[.slice (some ⟨k, 0, none⟩) 0 cap]).run Tryz.prog w.drew = .ok (.pointer (some ⟨k, 0, none⟩)) w.drew := Lib.run_unsafeSliceData_row _ _ _ _ _ _ hc0
  clear ha hc0
  go_enter Tryz.func46, Tryz.ntmps46
  go_wp2
  go_region
  all_goals (go_wp2; go_ret; exact ⟨rfl, Below.drew (Below.refl B w)⟩)

set_option maxHeartbeats 2000000 in
set_option maxRecDepth 100000 in
theorem string_noroom (B g k : Nat) (p x : Value) (cur : Array Value) (w : World) (hBw : B ≤ w.heap.size) (ha : At 88 w g [p, .slice (some ⟨k, 0, none⟩) 0 0, x]) (hg : w.heap[k]? = some (.cells cur 5 (0, 0))) :
    Calls Tryz.prog 46 #[.pointer (some ⟨g, 0, none⟩)] w fun e w' => e = .returned (.string ⟨#[]⟩) ∧ Below B w w' := by
  have hUS := us_none
  have hlt : g < w.heap.size := ha.lt
  have c1 : w.drew.cell? ⟨g, 1, none⟩ = some (.slice (some ⟨k, 0, none⟩) 0 0) := by rw [ha.drew.cell]; rfl
  have hSD : (Builtin.unsafeSliceData_ #[84] 119 #[.slice (some ⟨k, 0, none⟩) 0 0]).run Tryz.prog w.drew = .ok (.pointer (some ⟨w.drew.heap.size, 0, none⟩)) (w.drew.alloc (.view ⟨k, 0, none⟩ 5)) :=
    Lib.run_unsafeSliceData_zero w.drew _ _ 5 Tryz.underlying119 ⟨k, 0, none⟩ 0 (5, cur.size) (by have hg' : w.drew.heap[k]? = some (.cells cur 5 (0, 0)) := hg; simp [World.shape?, hg'])
  have c2 : (w.drew.alloc (.view ⟨k, 0, none⟩ 5)).cell? ⟨g, 1, none⟩ = some (.slice (some ⟨k, 0, none⟩) 0 0) := by
    have : (w.drew.alloc (.view ⟨k, 0, none⟩ 5)).heap[g]? = _ := (Lib.alloc_old w.drew _ g hlt).trans ha
    rw [Lib.cell_of_heap this]; rfl
  have c3 : (w.alloc (.view ⟨k, 0, none⟩ 5)).drew.cell? ⟨g, 1, none⟩ = some (.slice (some ⟨k, 0, none⟩) 0 0) := c2
  have c0 : w.cell? ⟨g, 1, none⟩ = some (.slice (some ⟨k, 0, none⟩) 0 0) := c1
  clear ha hg hlt
  go_enter Tryz.func46, Tryz.ntmps46
  go_wp2
  go_region
  all_goals (go_wp2; go_ret; exact ⟨rfl, (Below.drew (Below.refl B w)).alloc hBw _⟩)

set_option maxHeartbeats 1000000 in
set_option maxRecDepth 100000 in
theorem string_some (B g m : Nat) (l : List UInt8) (w : World) (h : Raw B w g m l) (h0 : l ≠ []) :
    Calls Tryz.prog 46 #[.pointer (some ⟨g, 0, none⟩)] w fun e w' => e = .returned (.string ⟨l.toArray⟩) ∧ Below B w w' := by
  obtain ⟨hB, p, v, _, ha, hown, hne⟩ := h
  have hl0 : l.length ≠ 0 := by simpa using h0
  obtain ⟨k, cap, cur, rfl, hbg, hg, hnc, hcm, hcs, htake⟩ : ∃ k cap cur, v = .slice (some ⟨k, 0, none⟩) l.length cap ∧ B ≤ k ∧ w.heap[k]? = some (.cells cur 5 (0, 0)) ∧ l.length ≤ cap ∧ cap ≤ maxLen ∧ cur.size = cap * 1 ∧ cur.toList.take (l.length * 1) = Lib.byteCells l := by
    rcases hown.2 with ⟨_, hz⟩ | ⟨k, cap, cur, hv, r⟩
    · exact absurd hz hl0
    · exact ⟨k, cap, cur, hv, r⟩
  have c1 : w.drew.cell? ⟨g, 1, none⟩ = some (.slice (some ⟨k, 0, none⟩) l.length cap) := by rw [ha.drew.cell]; rfl
  have hSD : (Builtin.unsafeSliceData_ #[84] 119 #[.slice (some ⟨k, 0, none⟩) l.length cap]).run Tryz.prog w.drew = .ok (.pointer (some ⟨k, 0, none⟩)) w.drew :=
    Lib.run_unsafeSliceData_row _ _ _ _ _ _ (by omega)
  have hUS : (Builtin.unsafeString_ #[119, 3] 9 #[.pointer (some ⟨k, 0, none⟩), .int .i64 l.length]).run Tryz.prog w.drew = .ok (.string ⟨l.toArray⟩) (w.drew.freeze ⟨k, 0, none⟩ l.length) := by
    refine Lib.run_unsafeString_row w.drew 119 3 9 5 Tryz.underlying119 (by kernel_rfl) k cur.size (by have hg' : w.drew.heap[k]? = some (.cells cur 5 (0, 0)) := hg; simp [World.shape?, hg']) l h0 (by omega) (by unfold maxLen at hcm; omega) ?_
    intro j x hx
    exact hown.cells (g := k) rfl j (.int .u8 x.toNat) (by simp [Lib.byteCells, hx])
  clear hown ha hg htake hcs
  go_enter Tryz.func46, Tryz.ntmps46
  go_wp2
  go_region
  all_goals (go_wp2; go_ret; exact ⟨rfl, Lib.below_freeze (Below.drew (Below.refl B w)) (p := ⟨k, 0, none⟩) hbg _⟩)

theorem string_any (B g m : Nat) (l : List UInt8) (w : World) (h : Raw B w g m l) (hBw : B ≤ w.heap.size) :
    Calls Tryz.prog 46 #[.pointer (some ⟨g, 0, none⟩)] w fun e w' => e = .returned (.string ⟨l.toArray⟩) ∧ Below B w w' := by
  cases l with
  | cons x r => exact string_some B g m (x :: r) w h (by simp)
  | nil =>
    obtain ⟨hB, p, v, _, ha, hown, hne⟩ := h
    rcases hown.2 with ⟨rfl, _⟩ | ⟨k, cap, cur, rfl, hbg, hg, _, _, _, _⟩
    · exact string_nil B g p _ w ha
    · by_cases hc0 : cap = 0
      · subst hc0
        exact string_noroom B g k p _ cur w hBw ha hg
      · exact string_room B g k cap p _ w hc0 ha

end Go.Proofs.YtjgggmjjikopeaaGreatDoor

/- The text's writing of pieces. -/
namespace Go.Proofs.YtjgggmjjikopeaaGreatDoor
open Go.RowKit
set_option linter.unusedVariables false

/-- The text holds F, or is longer than the most, as F is. -/
def Txt (B : Nat) (w : World) (g m : Nat) (F : List UInt8) : Prop := ∃ bs, (bs = F ∨ (m < bs.length ∧ m < F.length)) ∧ bs.length ≤ F.length ∧ Raw B w g m bs

theorem Txt.lt {B g m : Nat} {w : World} {F : List UInt8} (h : Txt B w g m F) : g < w.heap.size := by
  obtain ⟨_, _, _, h⟩ := h
  exact h.lt
theorem Txt.base {B g m : Nat} {w : World} {F : List UInt8} (h : Txt B w g m F) : B ≤ g := by
  obtain ⟨_, _, _, h⟩ := h
  exact h.1
theorem Txt.below {B g m : Nat} {w w' : World} {F : List UInt8} (h : Txt B w g m F) (hb : Below w.heap.size w w') : Txt B w' g m F := by
  obtain ⟨bs, h1, h2, h3⟩ := h
  exact ⟨bs, h1, h2, h3.below hb⟩

/-- Pieces one behind the other. -/
def cat (ps : List ByteArray) : List UInt8 := (ps.map (·.data.toList)).flatten

theorem i9s : (Tryz.prog.info? 9).map (fun i => (i.zero, i.size, i.bytes)) = some (some (.string ⟨#[]⟩), 1, 16) := by kernel_rfl

set_option maxHeartbeats 1600000 in
set_option maxRecDepth 100000 in
theorem put_any (B g m k : Nat) (ps : List ByteArray) (F : List UInt8) (w : World) (hm : m ≤ 9223372036854775807) (h : Txt B w g m F) (hA : At 9 w k (ps.map .string)) (hlen : (F ++ cat ps).length ≤ 70368744177664) (hps : ps.length ≤ 1000) :
    Calls Tryz.prog 81 #[.pointer (some ⟨g, 0, none⟩), .slice (some ⟨k, 0, none⟩) ps.length ps.length] w fun e w' => e = .returned (.tuple #[]) ∧ Txt B w' g m (F ++ cat ps) ∧ Wr B g w w' := by
  have hBg := h.base
  have hgw := h.lt
  have hkg : k ≠ g := by
    rintro rfl
    obtain ⟨bs, _, _, _, p, v, _, ha, _⟩ := h
    have h1 : w.heap[k]? = _ := hA
    have h2 : w.heap[k]? = _ := ha
    rw [h1] at h2
    injection h2 with h2
    injection h2 with _ h3
    cases h3
  obtain ⟨n, hn⟩ : ∃ n, Hid (n = ps.length) := ⟨_, (rfl : ps.length = _)⟩
  rw [← hn.out] at hps ⊢
  have HA : Hid (At 9 w k (ps.map .string)) := hA
  have HT : Hid (Txt B w g m F) := h
  have HL : Hid ((F ++ cat ps).length ≤ 70368744177664) := hlen
  clear hA h hlen
  go_enter Tryz.func81, Tryz.ntmps81
  go_wp2_with fail
  go_loopw [8] (fun j wr => ∃ i : Nat, j = .int .i64 (i : Int) ∧ i ≤ n ∧ Hid (Txt B wr g m (F ++ cat (ps.take i)) ∧ Wr B g w wr)) (fun j _ => n - (intOf j).toNat)
  case atStart => exact ⟨0, rfl, by omega, by simpa [cat] using HT.out, Wr.refl _ _ _⟩
  case round =>
    obtain ⟨i, rfl, hi, hR⟩ := hrel
    by_cases hc : i < n
    · obtain ⟨s, hs⟩ : ∃ s, ps[i]? = some s := ⟨ps[i]'(by rw [← hn.out]; exact hc), by rw [List.getElem?_eq_getElem]⟩
      obtain ⟨hT, hW⟩ := hR.out
      have hAr : At 9 wr k (ps.map .string) := hW.at HA.out hkg (by decide)
      have ci : wr.cell? ⟨k, i, none⟩ = some (.string s) := by rw [hAr.cell, List.getElem?_map, hs]; rfl
      have htake : ps.take (i + 1) = ps.take i ++ [s] := by rw [List.take_add_one, hs]; rfl
      have hcat : F ++ cat (ps.take (i + 1)) = (F ++ cat (ps.take i)) ++ s.data.toList := by rw [htake]; simp [cat]
      have hle : (F ++ cat (ps.take (i + 1))).length ≤ (F ++ cat ps).length := by
        have e : cat ps = cat (ps.take (i + 1)) ++ cat (ps.drop (i + 1)) := by
          unfold cat
          rw [← List.flatten_append, ← List.map_append, List.take_append_drop]
        rw [e]
        simp only [List.length_append]
        omega
      have hle2 := HL.out
      obtain ⟨bs, hbs, hbl, hraw⟩ := hT
      have hBw : B ≤ wr.heap.size := by have := hW.size; omega
      have hsl : (F ++ cat (ps.take i)).length + s.size ≤ 70368744177664 := by
        have e : s.size = s.data.toList.length := Array.length_toList.symm
        rw [hcat, List.length_append] at hle
        omega
      have h63 : bs.length ≤ 9223372036854775807 := by omega
      have cm : wr.cell? ⟨g, 2, none⟩ = some (.int .i64 (m : Int)) := by
        obtain ⟨_, p, v, _, ha, _⟩ := hraw
        rw [ha.cell]; rfl
      have hlen : ∀ q, Calls Tryz.prog 45 #[.pointer (some ⟨g, 0, none⟩)] (wr.drewN q) fun e w' => e = .returned (.int .i64 (bs.length : Int)) ∧ w' = wr.drewN q := fun q => len_any B g m bs _ hraw
      by_cases hlm : bs.length ≤ m
      · have hbF : bs = F ++ cat (ps.take i) := by
          rcases hbs with h | ⟨h, _⟩
          · exact h
          · omega
        have hcm : (bs.length : Int) ≤ (m : Int) := by omega
        have hwr : ∀ q, Calls Tryz.prog 116 #[.pointer (some ⟨g, 0, none⟩), .string s] (wr.drewN q) fun e w' => e = .returned (.tuple #[.int .i64 s.size, .nilIface]) ∧ Raw B w' g m (bs ++ s.data.toList) ∧ Wr B g (wr.drewN q) w' := fun q => write_any B g m bs s _ hraw (by omega) hBw
        have HX : Hid ((F ++ cat (ps.take (i + 1)) = bs ++ s.data.toList) ∧ Wr B g w wr) := ⟨by rw [hcat, hbF], hW⟩
        clear hbs hbl hraw hW hAr htake hcat hle hle2 hR hsl hbF
        go_wp2_with fail
        go_quiet (first | (go_at_call 45; exact Calls.quiet_of_same (hlen _)))
        go_wp2_with fail
        refine (hwr _).mono ?_
        rintro e w2 ⟨rfl, hr2, hw2⟩
        have HY : Hid (Txt B w2 g m (F ++ cat (ps.take (i + 1))) ∧ Wr B g w w2) := by
          obtain ⟨h1, h2⟩ := HX.out
          rw [h1]
          exact ⟨⟨_, .inl rfl, Nat.le_refl _, hr2⟩, h2.trans ((Wr.mk rfl rfl rfl (Nat.le_refl _) fun _ _ _ _ => rfl : Wr B g wr (wr.drewN nq)).trans hw2)⟩
        clear HX hr2 hw2 hwr hlen
        go_wp2
        go_roundw
        case rel => exact ⟨i + 1, by go_num, by omega, HY⟩
        case measure => simp [intOf]; omega
      · have hcm : ¬ (bs.length : Int) ≤ (m : Int) := by omega
        have HY : ∀ q, Hid (Txt B (wr.drewN q) g m (F ++ cat (ps.take (i + 1))) ∧ Wr B g w (wr.drewN q)) := fun q => ⟨⟨bs, .inr ⟨by omega, by rw [hcat, List.length_append]; rcases hbs with h | ⟨_, h⟩ <;> omega⟩, by rw [hcat, List.length_append]; omega, hraw⟩, hW.trans (Wr.mk rfl rfl rfl (Nat.le_refl _) fun _ _ _ _ => rfl : Wr B g wr (wr.drewN q))⟩
        clear hbs hbl hraw hW hAr htake hcat hle hle2 hR hsl
        go_wp2_with fail
        go_quiet (first | (go_at_call 45; exact Calls.quiet_of_same (hlen _)))
        go_wp2_with fail
        go_roundw
        case rel => exact ⟨i + 1, by go_num, by omega, HY _⟩
        case measure => simp [intOf]; omega
    · have hin : i = n := by omega
      have HY : Hid (Txt B wr g m (F ++ cat ps) ∧ Wr B g w wr) := by
        have := hR.out
        rw [hin, hn.out, List.take_length] at this
        exact this
      clear hR hin
      go_wp2
      go_end0
      exact ⟨rfl, HY.out⟩

end Go.Proofs.YtjgggmjjikopeaaGreatDoor

/- Expressions in memory. -/
namespace Go.Proofs.YtjgggmjjikopeaaGreatDoor
open Go.RowKit
set_option linter.unusedVariables false

/-- An expression, with where its operands lie. -/
inductive ET where
  | mk (op t b : Nat) (nm : ByteArray) (a : Option Addr) (c : Nat) (kids : List ET)

/-- Its cells. -/
def ET.cells : ET → List Value
  | .mk op t b nm a c ks => [.int .u8 (op : Int), .int .u8 (t : Int), .int .u64 (b : Int), .string nm, .slice a ks.length c]

mutual
/-- As data. -/
def ET.ex : ET → Ex
  | .mk op t b nm _ _ ks => .mk op t b nm.data.toList (ET.exs ks)
def ET.exs : List ET → List Ex
  | [] => []
  | e :: r => e.ex :: ET.exs r
end

mutual
/-- It lies in blocks below B. -/
def ET.In (B : Nat) (w : World) : ET → Prop
  | .mk op t b nm a c ks => op < 256 ∧ t < 256 ∧ b < 18446744073709551616 ∧ ks.length ≤ 1048576 ∧ ks.length ≤ c ∧ (ks = [] ∨ ∃ g o, a = some ⟨g, o, none⟩ ∧ g < B ∧ ET.Row B w g ks o)
def ET.Row (B : Nat) (w : World) (g : Nat) : List ET → Nat → Prop
  | [], _ => True
  | e :: r, o => w.rangeAt g o e.cells ∧ e.In B w ∧ ET.Row B w g r (o + 5)
end

theorem ET.exs_eq : ∀ ks : List ET, ET.exs ks = ks.map ET.ex
  | [] => rfl
  | e :: r => by rw [ET.exs, ET.exs_eq r]; rfl

theorem ET.cells_len (e : ET) : e.cells.length = 5 := by cases e; rfl

/-- Blocks below B stand. -/
def Old (B : Nat) (w w' : World) : Prop := ∀ k, k < B → w'.heap[k]? = w.heap[k]?

theorem Old.of_below {B C : Nat} {w w' : World} (h : Below C w w') (hB : B ≤ C) : Old B w w' := fun k hk => h.block k (by omega)
theorem Old.of_wr {B g : Nat} {w w' : World} (h : Wr B g w w') (hB : B ≤ g) (hw : B ≤ w.heap.size) : Old B w w' := fun k hk => h.block k (by omega) (by omega) (.inl hk)
theorem Old.trans {B : Nat} {a b c : World} (h : Old B a b) (k : Old B b c) : Old B a c := fun i hi => (k i hi).trans (h i hi)
theorem Old.range {B g o : Nat} {w w' : World} {cs : List Value} (h : Old B w w') (hg : g < B) (hr : w.rangeAt g o cs) : w'.rangeAt g o cs := fun j v hj => by
  rw [World.cell?_of_block (w := w) (w' := w') (h _ hg)]
  exact hr j v hj

mutual
theorem ET.In.old {B : Nat} {w w' : World} (hO : Old B w w') : ∀ {e : ET}, e.In B w → e.In B w'
  | .mk op t b nm a c ks, h => by
    unfold ET.In at h ⊢
    obtain ⟨h1, h2, h3, h4, h5, h6⟩ := h
    refine ⟨h1, h2, h3, h4, h5, ?_⟩
    rcases h6 with h6 | ⟨g, o, ha, hg, hr⟩
    · exact .inl h6
    · exact .inr ⟨g, o, ha, hg, ET.Row.old hO hg hr⟩
theorem ET.Row.old {B : Nat} {w w' : World} (hO : Old B w w') {g : Nat} (hg : g < B) : ∀ {ks : List ET} {o : Nat}, ET.Row B w g ks o → ET.Row B w' g ks o
  | [], o, _ => trivial
  | e :: r, o, h => by
    unfold ET.Row at h ⊢
    exact ⟨hO.range hg h.1, ET.In.old hO h.2.1, ET.Row.old hO hg h.2.2⟩
end

mutual
theorem ET.In.up {B C : Nat} {w : World} (hBC : B ≤ C) : ∀ {e : ET}, e.In B w → e.In C w
  | .mk op t b nm a c ks, h => by
    unfold ET.In at h ⊢
    obtain ⟨h1, h2, h3, h4, h5, h6⟩ := h
    refine ⟨h1, h2, h3, h4, h5, ?_⟩
    rcases h6 with h6 | ⟨g, o, ha, hg, hr⟩
    · exact .inl h6
    · exact .inr ⟨g, o, ha, by omega, ET.Row.up hBC hr⟩
theorem ET.Row.up {B C : Nat} {w : World} (hBC : B ≤ C) {g : Nat} : ∀ {ks : List ET} {o : Nat}, ET.Row B w g ks o → ET.Row C w g ks o
  | [], o, _ => trivial
  | e :: r, o, h => by
    unfold ET.Row at h ⊢
    exact ⟨h.1, ET.In.up hBC h.2.1, ET.Row.up hBC h.2.2⟩
end

theorem ET.Row.at {B g : Nat} {w : World} : ∀ {ks : List ET} {o : Nat}, ET.Row B w g ks o → ∀ (i : Nat) (e : ET), ks[i]? = some e → w.rangeAt g (o + i * 5) e.cells ∧ e.In B w
  | [], o, _, i, e, h => by simp at h
  | x :: r, o, hr, 0, e, h => by
    unfold ET.Row at hr
    simp at h
    subst h
    exact ⟨by simpa using hr.1, hr.2.1⟩
  | x :: r, o, hr, i + 1, e, h => by
    unfold ET.Row at hr
    have := ET.Row.at hr.2.2 i e (by simpa using h)
    rw [show o + (i + 1) * 5 = o + 5 + i * 5 by omega]
    exact this

/-- Whether an expression may be printed, so high at most. -/
def mayE : Nat → Ex → Bool
  | 0, _ => false
  | h + 1, .mk op t b nm ks => decide ((ks.length : Int) = opnds op) && (if op = 1 then litOk t b && decide (nm = []) else if op = 2 then isNm nm && decide (t = 0 ∧ b = 0) else ks.all (mayE h) && (decide (nm = []) && decide (t = 0 ∧ b = 0)))

/-- An expression's text, if it may be printed. -/
def exT : Ex → List UInt8
  | .mk op t b nm ks => if op = 1 then valTx t b else if op = 2 then nm else
    match ks with
    | [] => []
    | [x] => if op = 16 then 45 :: exT x else if op = 17 then 33 :: exT x else if op = 18 then [105, 110, 116, 40] ++ (exT x ++ [41]) else if op = 19 then [114, 101, 97, 108, 40] ++ (exT x ++ [41]) else []
    | x :: y :: _ => 40 :: (exT x ++ 32 :: (sgT op ++ 32 :: (exT y ++ [41])))

theorem z29 : (Tryz.prog.info? 43).map (fun i => (i.zero, i.size)) = some (some (.agg [.int .u8 0, .int .u8 0, .int .u64 0, .string ⟨#[]⟩, .slice none 0 0].toArray), 5) := by kernel_rfl
theorem i29 : (Tryz.prog.info? 43).map (·.size) = some 5 := by kernel_rfl

theorem ET.one (e : ET) : ∀ v ∈ e.cells, v.oneCell' = true := by
  cases e
  intro v hv
  simp [ET.cells] at hv
  rcases hv with rfl | rfl | rfl | rfl | rfl <;> rfl

end Go.Proofs.YtjgggmjjikopeaaGreatDoor
