/- J -/
import Derived.Shelf.Strings.Builder1
import Derived.Shelf.Small.Strs
import Derived.Shelf.Small.Wraps
import Derived.Shelf.Strconv.Itoa0
import Derived.Shelf.Strconv.Itoa1
import Derived.Shelf.LaysM
import Derived.Shelf.Strconv.Itoa2
import Derived.Shelf.Strconv.Itoa3
import Derived.Shelf.Strconv.Itoa4
import Derived.Shelf.Strconv.ParseIntEmpty
import Derived.Shelf.Strconv.Clone
import Derived.Shelf.Strconv.SyntaxError
import Derived.Shelf.LaysC
import Derived.Shelf.Strconv.ToError
import Derived.Shelf.Strconv.Lower
import Derived.Shelf.Strconv.ParseUint10
import Derived.Shelf.Strconv.ParseUint10Empty
import Derived.Shelf.Strconv.ParseUint10Any
import Derived.Shelf.Strconv.ParseInt10
import Derived.Shelf.Strconv.RangeError
import Derived.Shelf.Strconv.ToErrorRange
import Derived.Shelf.Strconv.ParseUintEmpty
import Derived.Shelf.Strconv.ParseUint10b64
import Derived.Shelf.Strconv.ParseUint10b32
import Derived.Shelf.Strconv.ParseUint10b16
import Derived.Shelf.Strconv.ParseUint10b8
import Derived.Shelf.Strconv.ParseUint10At
import Derived.Shelf.Strconv.ParseInt10At64
import Derived.Shelf.Strconv.ParseInt10At32
import Derived.Shelf.Strconv.ParseInt10At16
import Derived.Shelf.Strconv.ParseInt10At8
import Derived.Shelf.Strconv.ParseInt10All
import Derived.Shelf.Strconv.ParseIntPublic10
import Derived.Shelf.Strings.Search1
import Derived.Shelf.Strings.Search2
import Derived.Shelf.Strings.Cut
import Derived.Shelf.Strings.Shaped
import Derived.Shelf.Strings.Prefix
import Derived.Test.YtjgggmjjikopeaaGreatDoorProg
import Derived.Laws.FloatArith
import Derived.WalkLawsBesides
import Derived.WalkSmall
import Derived.Test.YtjgggmjjikopeaaGreatDoorJ3
import Derived.Deep.WholeRow
import Derived.Deep.RegionHeld3
import Derived.Deep.MidRow
import Derived.Laws.Bits64
import Derived.Lib.Builder
import Derived.Lib.AppendStr
import Derived.Lib.UnsafeStr
import Derived.Lib.Walk
import Derived.Laws.Externs
import Derived.Great.BuildSlice
import Derived.WalkMore
set_option linter.unusedVariables false
set_option maxRecDepth 100000
set_option maxHeartbeats 6400000
open Go.RowKit
namespace Go.Proofs.YtjgggmjjikopeaaGreatDoor
inductive Ex where
 | mk (op t b : Nat) (nm : List UInt8) (kids : List Ex)
def sgT : Nat -> List UInt8
 | 3 => [124, 124]
 | 4 => [38, 38]
 | 5 => [61, 61]
 | 6 => [33, 61]
 | 7 => [60]
 | 8 => [60, 61]
 | 9 => [62]
 | 10 => [62, 61]
 | 11 => [43]
 | 12 => [45]
 | 13 => [42]
 | 14 => [47]
 | 15 => [37]
 | _ => []
section
variable (lit : Nat -> Nat -> Option (List UInt8)) (isName : List UInt8 -> Bool)
variable {lit isName}
end
end Go.Proofs.YtjgggmjjikopeaaGreatDoor
namespace Go.Proofs
open Go.Shelf
def Tryz.lays121_ren : Go.Shelf.Ren := ⟨fun | 121 => 147 | 214 => 172 | n => n, fun | 4 => 4 | 9 => 9 | n => n, fun | n => n⟩
theorem Tryz.lays121 : Go.Proofs.Lays.n121 Tryz.prog Tryz.lays121_ren := {
 mixed := by kernel_rfl
 f121 := Tryz.func147.trans (congrArg some (by kernel_rfl))
 f214 := Tryz.func172.trans (congrArg some (by kernel_rfl))
 t4 := Tryz.underlying4
 a4 := Tryz.isAgg4
 z4 := Tryz.sizeOf4
 v4 := Tryz.zeroValue4
 t9 := Tryz.underlying9
 a9 := Tryz.isAgg9
 z9 := Tryz.sizeOf9
 v9 := Tryz.zeroValue9 }
open Go.RowKit in
theorem Tryz.strconv_FormatBool (b : Bool) (w : World) :
  Calls Tryz.prog 147 #[.bool b] w fun e w' => e = .returned (.string ⟨(Lib.formatBool b).toArray⟩) /\ w' = w := Any.strconv_FormatBool Tryz.lays121 b w
def Tryz.laysM173_ren : Go.Shelf.Ren := ⟨fun | 173 => 146 | 246 => 171 | 283 => 192 | 284 => 193 | 285 => 194 | 286 => 195 | 129 => 205 | 317 => 204 | 318 => 206 | 319 => 207 | 320 => 208 | 337 => 213 | 338 => 214 | n => n, fun | 2 => 2 | 3 => 3 | 9 => 9 | 4 => 4 | 171 => 205 | 0 => 0 | 53 => 38 | 37 => 84 | 5 => 5 | 173 => 208 | 212 => 218 | 51 => 219 | 20 => 20 | 213 => 220 | 46 => 199 | 232 => 229 | 233 => 230 | n => n, fun | 17 => 4 | 18 => 5 | 19 => 6 | n => n⟩
theorem Tryz.laysM173 : Go.Proofs.LaysM.n173 Tryz.prog Tryz.laysM173_ren := {
 mixed := by kernel_rfl
 f129 := Tryz.func205.trans (congrArg some (by kernel_rfl))
 f173 := Tryz.func146.trans (congrArg some (by kernel_rfl))
 f246 := Tryz.func171.trans (congrArg some (by kernel_rfl))
 f283 := Tryz.func192.trans (congrArg some (by kernel_rfl))
 f284 := Tryz.func193.trans (congrArg some (by kernel_rfl))
 f285 := Tryz.func194.trans (congrArg some (by kernel_rfl))
 f286 := Tryz.func195.trans (congrArg some (by kernel_rfl))
 f317 := Tryz.func204.trans (congrArg some (by kernel_rfl))
 f318 := Tryz.func206.trans (congrArg some (by kernel_rfl))
 f319 := Tryz.func207.trans (congrArg some (by kernel_rfl))
 f320 := Tryz.func208.trans (congrArg some (by kernel_rfl))
 f337 := Tryz.func213.trans (congrArg some (by kernel_rfl))
 f338 := Tryz.func214.trans (congrArg some (by kernel_rfl))
 t0 := Tryz.underlying0
 a0 := Tryz.isAgg0
 z0 := Tryz.sizeOf0
 v0 := Tryz.zeroValue0
 t2 := Tryz.underlying2
 a2 := Tryz.isAgg2
 z2 := Tryz.sizeOf2
 v2 := Tryz.zeroValue2
 t3 := Tryz.underlying3
 a3 := Tryz.isAgg3
 z3 := Tryz.sizeOf3
 v3 := Tryz.zeroValue3
 t4 := Tryz.underlying4
 a4 := Tryz.isAgg4
 z4 := Tryz.sizeOf4
 v4 := Tryz.zeroValue4
 t5 := Tryz.underlying5
 a5 := Tryz.isAgg5
 z5 := Tryz.sizeOf5
 v5 := Tryz.zeroValue5
 t9 := Tryz.underlying9
 a9 := Tryz.isAgg9
 z9 := Tryz.sizeOf9
 v9 := Tryz.zeroValue9
 t20 := Tryz.underlying20
 a20 := Tryz.isAgg20
 z20 := Tryz.sizeOf20
 v20 := Tryz.zeroValue20
 t37 := Tryz.underlying84
 a37 := Tryz.isAgg84
 z37 := Tryz.sizeOf84
 v37 := Tryz.zeroValue84
 t46 := Tryz.underlying199
 a46 := Tryz.isAgg199
 z46 := Tryz.sizeOf199
 v46 := Tryz.zeroValue199
 t51 := Tryz.underlying219
 a51 := Tryz.isAgg219
 z51 := Tryz.sizeOf219
 v51 := Tryz.zeroValue219
 t53 := Tryz.underlying38
 a53 := Tryz.isAgg38
 z53 := Tryz.sizeOf38
 v53 := Tryz.zeroValue38
 t171 := Tryz.underlying205
 a171 := Tryz.isAgg205
 z171 := Tryz.sizeOf205
 v171 := Tryz.zeroValue205
 t173 := Tryz.underlying208
 a173 := Tryz.isAgg208
 z173 := Tryz.sizeOf208
 v173 := Tryz.zeroValue208
 t212 := Tryz.underlying218
 a212 := Tryz.isAgg218
 z212 := Tryz.sizeOf218
 v212 := Tryz.zeroValue218
 t213 := Tryz.underlying220
 a213 := Tryz.isAgg220
 z213 := Tryz.sizeOf220
 t232 := Tryz.underlying229
 a232 := Tryz.isAgg229
 z232 := Tryz.sizeOf229
 v232 := Tryz.zeroValue229
 t233 := Tryz.underlying230
 a233 := Tryz.isAgg230
 z233 := Tryz.sizeOf230
 v233 := Tryz.zeroValue230
 g17 := by kernel_rfl
 g18 := by kernel_rfl
 g19 := by kernel_rfl
 i0 := by kernel_rfl
 i2 := by kernel_rfl
 i3 := by kernel_rfl
 i4 := by kernel_rfl
 i5 := by kernel_rfl
 i9 := by kernel_rfl
 i20 := by kernel_rfl
 i37 := by kernel_rfl
 i46 := by kernel_rfl
 i51 := by kernel_rfl
 i53 := by kernel_rfl
 i171 := by kernel_rfl
 i173 := by kernel_rfl
 i212 := by kernel_rfl
 i232 := by kernel_rfl
 i233 := by kernel_rfl
 m17 := by kernel_rfl
 m18 := by kernel_rfl
 m19 := by kernel_rfl }
open Go.RowKit Go.Sort Go.Lib in
theorem Tryz.strconv_FormatInt_10 (n : Int) (h0 : -9223372036854775808 <= n) (h1 : n <= 9223372036854775807) (w : World) (htab : Lib.TabIs Tryz.prog w "internal/strconv.uint64pow10" .u64 Lib.pow10Tab) :
  Calls Tryz.prog 146 #[.int .i64 n, .int .i64 10] w fun e w' => e = .returned (.string ⟨(Lib.itoa n).toArray⟩) /\ ∃ k os, w' = grow (w.drewN k) os := Any.strconv_FormatInt_10 Tryz.laysM173 n h0 h1 w htab
def Tryz.laysM316_ren : Go.Shelf.Ren := ⟨fun | 316 => 123 | n => n, fun | 9 => 9 | 3 => 3 | 4 => 4 | 37 => 84 | 0 => 0 | 127 => 119 | 5 => 5 | n => n, fun | n => n⟩
theorem Tryz.laysM316 : Go.Proofs.LaysM.n316 Tryz.prog Tryz.laysM316_ren := {
 mixed := by kernel_rfl
 f316 := Tryz.func123.trans (congrArg some (by kernel_rfl))
 t0 := Tryz.underlying0
 a0 := Tryz.isAgg0
 z0 := Tryz.sizeOf0
 v0 := Tryz.zeroValue0
 t3 := Tryz.underlying3
 a3 := Tryz.isAgg3
 z3 := Tryz.sizeOf3
 v3 := Tryz.zeroValue3
 t4 := Tryz.underlying4
 a4 := Tryz.isAgg4
 z4 := Tryz.sizeOf4
 v4 := Tryz.zeroValue4
 t9 := Tryz.underlying9
 a9 := Tryz.isAgg9
 z9 := Tryz.sizeOf9
 v9 := Tryz.zeroValue9
 t37 := Tryz.underlying84
 a37 := Tryz.isAgg84
 z37 := Tryz.sizeOf84
 v37 := Tryz.zeroValue84
 t127 := Tryz.underlying119
 a127 := Tryz.isAgg119
 z127 := Tryz.sizeOf119
 v127 := Tryz.zeroValue119
 t5 := Tryz.underlying5
 a5 := Tryz.isAgg5
 z5 := Tryz.sizeOf5
 v5 := Tryz.zeroValue5
 i0 := by kernel_rfl
 i3 := by kernel_rfl
 i4 := by kernel_rfl
 i5 := by kernel_rfl
 i9 := by kernel_rfl
 i37 := by kernel_rfl
 i127 := by kernel_rfl }
open Go.RowKit in
theorem Tryz.stringslite_Clone (s : ByteArray) (w : World) (hlim : s.size <= 281474976710656) :
  Calls Tryz.prog 123 #[.string s] w fun e w' => e = .returned (.string s) /\ Below w.heap.size w w' := Any.stringslite_Clone Tryz.laysM316 s w hlim
def Tryz.laysC174_ren : Go.Shelf.Ren := ⟨fun | 174 => 124 | 247 => 155 | 245 => 156 | 287 => 182 | 279 => 183 | 280 => 184 | 281 => 185 | 282 => 186 | 321 => 199 | 322 => 200 | 316 => 123 | 171 => 202 | 205 => 201 | 243 => 209 | 246 => 171 | 283 => 192 | 284 => 193 | 285 => 194 | 286 => 195 | 129 => 205 | 317 => 204 | 318 => 206 | 319 => 207 | 320 => 208 | 337 => 213 | 338 => 214 | n => n, fun | 9 => 9 | 3 => 3 | 2 => 2 | 75 => 143 | 85 => 149 | 4 => 4 | 167 => 196 | 5 => 5 | 53 => 38 | 175 => 197 | 46 => 199 | 168 => 200 | 37 => 84 | 0 => 0 | 210 => 214 | 21 => 21 | 127 => 119 | 145 => 225 | 143 => 223 | 171 => 205 | 173 => 208 | 212 => 218 | 51 => 219 | 20 => 20 | 213 => 220 | 232 => 229 | 233 => 230 | 80 => 89 | n => n, fun | 15 => 1 | 16 => 2 | 17 => 4 | 18 => 5 | 19 => 6 | n => n⟩
theorem Tryz.laysC174 : Go.Proofs.LaysC.n174 Tryz.prog Tryz.laysC174_ren := {
 mixed := by kernel_rfl
 f129 := Tryz.func205.trans (congrArg some (by kernel_rfl))
 f171 := Tryz.func202.trans (congrArg some (by kernel_rfl))
 f174 := Tryz.func124.trans (congrArg some (by kernel_rfl))
 f205 := Tryz.func201.trans (congrArg some (by kernel_rfl))
 f243 := Tryz.func209.trans (congrArg some (by kernel_rfl))
 f245 := Tryz.func156.trans (congrArg some (by kernel_rfl))
 f246 := Tryz.func171.trans (congrArg some (by kernel_rfl))
 f247 := Tryz.func155.trans (congrArg some (by kernel_rfl))
 f279 := Tryz.func183.trans (congrArg some (by kernel_rfl))
 f280 := Tryz.func184.trans (congrArg some (by kernel_rfl))
 f281 := Tryz.func185.trans (congrArg some (by kernel_rfl))
 f282 := Tryz.func186.trans (congrArg some (by kernel_rfl))
 f283 := Tryz.func192.trans (congrArg some (by kernel_rfl))
 f284 := Tryz.func193.trans (congrArg some (by kernel_rfl))
 f285 := Tryz.func194.trans (congrArg some (by kernel_rfl))
 f286 := Tryz.func195.trans (congrArg some (by kernel_rfl))
 f287 := Tryz.func182.trans (congrArg some (by kernel_rfl))
 f316 := Tryz.func123.trans (congrArg some (by kernel_rfl))
 f317 := Tryz.func204.trans (congrArg some (by kernel_rfl))
 f318 := Tryz.func206.trans (congrArg some (by kernel_rfl))
 f319 := Tryz.func207.trans (congrArg some (by kernel_rfl))
 f320 := Tryz.func208.trans (congrArg some (by kernel_rfl))
 f321 := Tryz.func199.trans (congrArg some (by kernel_rfl))
 f322 := Tryz.func200.trans (congrArg some (by kernel_rfl))
 f337 := Tryz.func213.trans (congrArg some (by kernel_rfl))
 f338 := Tryz.func214.trans (congrArg some (by kernel_rfl))
 t0 := Tryz.underlying0
 a0 := Tryz.isAgg0
 z0 := Tryz.sizeOf0
 v0 := Tryz.zeroValue0
 t2 := Tryz.underlying2
 a2 := Tryz.isAgg2
 z2 := Tryz.sizeOf2
 v2 := Tryz.zeroValue2
 t3 := Tryz.underlying3
 a3 := Tryz.isAgg3
 z3 := Tryz.sizeOf3
 v3 := Tryz.zeroValue3
 t4 := Tryz.underlying4
 a4 := Tryz.isAgg4
 z4 := Tryz.sizeOf4
 v4 := Tryz.zeroValue4
 t5 := Tryz.underlying5
 a5 := Tryz.isAgg5
 z5 := Tryz.sizeOf5
 v5 := Tryz.zeroValue5
 t9 := Tryz.underlying9
 a9 := Tryz.isAgg9
 z9 := Tryz.sizeOf9
 v9 := Tryz.zeroValue9
 t20 := Tryz.underlying20
 a20 := Tryz.isAgg20
 z20 := Tryz.sizeOf20
 v20 := Tryz.zeroValue20
 t21 := Tryz.underlying21
 a21 := Tryz.isAgg21
 z21 := Tryz.sizeOf21
 v21 := Tryz.zeroValue21
 t37 := Tryz.underlying84
 a37 := Tryz.isAgg84
 z37 := Tryz.sizeOf84
 v37 := Tryz.zeroValue84
 t46 := Tryz.underlying199
 a46 := Tryz.isAgg199
 z46 := Tryz.sizeOf199
 v46 := Tryz.zeroValue199
 t51 := Tryz.underlying219
 a51 := Tryz.isAgg219
 z51 := Tryz.sizeOf219
 v51 := Tryz.zeroValue219
 t53 := Tryz.underlying38
 a53 := Tryz.isAgg38
 z53 := Tryz.sizeOf38
 v53 := Tryz.zeroValue38
 t75 := Tryz.underlying143
 a75 := Tryz.isAgg143
 z75 := Tryz.sizeOf143
 v75 := Tryz.zeroValue143
 t85 := Tryz.underlying149
 a85 := Tryz.isAgg149
 z85 := Tryz.sizeOf149
 v85 := Tryz.zeroValue149
 t127 := Tryz.underlying119
 a127 := Tryz.isAgg119
 z127 := Tryz.sizeOf119
 v127 := Tryz.zeroValue119
 t143 := Tryz.underlying223
 a143 := Tryz.isAgg223
 z143 := Tryz.sizeOf223
 v143 := Tryz.zeroValue223
 t145 := Tryz.underlying225
 a145 := Tryz.isAgg225
 z145 := Tryz.sizeOf225
 v145 := Tryz.zeroValue225
 t167 := Tryz.underlying196
 a167 := Tryz.isAgg196
 z167 := Tryz.sizeOf196
 v167 := Tryz.zeroValue196
 t168 := Tryz.underlying200
 a168 := Tryz.isAgg200
 z168 := Tryz.sizeOf200
 v168 := Tryz.zeroValue200
 t171 := Tryz.underlying205
 a171 := Tryz.isAgg205
 z171 := Tryz.sizeOf205
 v171 := Tryz.zeroValue205
 t173 := Tryz.underlying208
 a173 := Tryz.isAgg208
 z173 := Tryz.sizeOf208
 v173 := Tryz.zeroValue208
 t175 := Tryz.underlying197
 a175 := Tryz.isAgg197
 z175 := Tryz.sizeOf197
 v175 := Tryz.zeroValue197
 t210 := Tryz.underlying214
 a210 := Tryz.isAgg214
 z210 := Tryz.sizeOf214
 v210 := Tryz.zeroValue214
 t212 := Tryz.underlying218
 a212 := Tryz.isAgg218
 z212 := Tryz.sizeOf218
 v212 := Tryz.zeroValue218
 t213 := Tryz.underlying220
 a213 := Tryz.isAgg220
 z213 := Tryz.sizeOf220
 t232 := Tryz.underlying229
 a232 := Tryz.isAgg229
 z232 := Tryz.sizeOf229
 v232 := Tryz.zeroValue229
 t233 := Tryz.underlying230
 a233 := Tryz.isAgg230
 z233 := Tryz.sizeOf230
 v233 := Tryz.zeroValue230
 g15 := by kernel_rfl
 g16 := by kernel_rfl
 g17 := by kernel_rfl
 g18 := by kernel_rfl
 g19 := by kernel_rfl
 t80 := Tryz.underlying89
 a80 := Tryz.isAgg89
 z80 := Tryz.sizeOf89
 v80 := Tryz.zeroValue89
 i0 := by kernel_rfl
 i2 := by kernel_rfl
 i3 := by kernel_rfl
 i4 := by kernel_rfl
 i5 := by kernel_rfl
 i9 := by kernel_rfl
 i20 := by kernel_rfl
 i21 := by kernel_rfl
 i37 := by kernel_rfl
 i46 := by kernel_rfl
 i51 := by kernel_rfl
 i53 := by kernel_rfl
 i75 := by kernel_rfl
 i80 := by kernel_rfl
 i85 := by kernel_rfl
 i127 := by kernel_rfl
 i143 := by kernel_rfl
 i145 := by kernel_rfl
 i167 := by kernel_rfl
 i168 := by kernel_rfl
 i171 := by kernel_rfl
 i173 := by kernel_rfl
 i175 := by kernel_rfl
 i210 := by kernel_rfl
 i212 := by kernel_rfl
 i232 := by kernel_rfl
 i233 := by kernel_rfl
 m15 := by kernel_rfl
 m16 := by kernel_rfl
 m17 := by kernel_rfl
 m18 := by kernel_rfl
 m19 := by kernel_rfl
 c0 := by kernel_rfl
 c2 := by kernel_rfl
 c3 := by kernel_rfl
 c4 := by kernel_rfl
 c5 := by kernel_rfl
 c9 := by kernel_rfl
 c20 := by kernel_rfl
 c21 := by kernel_rfl
 c37 := by kernel_rfl
 c46 := by kernel_rfl
 c51 := by kernel_rfl
 c53 := by kernel_rfl
 c75 := by kernel_rfl
 c80 := by kernel_rfl
 c85 := by kernel_rfl
 c127 := by kernel_rfl
 c143 := by kernel_rfl
 c145 := by kernel_rfl
 c167 := by kernel_rfl
 c168 := by kernel_rfl
 c171 := by kernel_rfl
 c173 := by kernel_rfl
 c175 := by kernel_rfl
 c210 := by kernel_rfl
 c212 := by kernel_rfl
 c213 := by kernel_rfl
 c232 := by kernel_rfl
 c233 := by kernel_rfl }
open Go.RowKit in
theorem Tryz.strconv_ParseInt_10_at64_ok (s : ByteArray) (hmax : s.size <= 9223372036854775806) (v : Int) (h : Lib.parseIntB 64 s.data.toList = .ok v) (w : World) :
  Calls Tryz.prog 124 #[.string s, .int .i64 10, .int .i64 64] w fun e w' => e = .returned (.tuple #[.int .i64 v, .nilIface]) /\ (w' = w \/ ∃ t, w' = Lib.bytesWorld w 5 t) := Any.strconv_ParseInt_10_at64_ok Tryz.laysC174 s hmax v h w
open Go.RowKit in
theorem Tryz.strconv_ParseInt_10_at64_range (s : ByteArray) (hlim : s.size <= 281474976710656) (h : Lib.parseIntB 64 s.data.toList = .range) (ev : Value) (w : World) (hv : w.cell? ⟨2, 0, none⟩ = some ev) (hev : ev = .nilIface \/ ∃ te pe, ev = .iface te pe) :
  Calls Tryz.prog 124 #[.string s, .int .i64 10, .int .i64 64] w fun e w' => ∃ N, e = .returned (.tuple #[.int .i64 (Lib.intSat 64 s.data.toList), .iface 200 (.pointer (some ⟨N, 0, none⟩))]) /\ w.heap.size <= N /\ w'.heap[N]? = some (.cells #[.string ⟨#[80, 97, 114, 115, 101, 73, 110, 116]⟩, .string s, ev] 214 (0, 0)) /\ Below w.heap.size w w' := Any.strconv_ParseInt_10_at64_range Tryz.laysC174 s hlim h ev w hv hev
def Tryz.lays99_ren : Go.Shelf.Ren := ⟨fun | 99 => 150 | 206 => 177 | n => n, fun | 9 => 9 | 4 => 4 | 3 => 3 | n => n, fun | n => n⟩
theorem Tryz.lays99 : Go.Proofs.Lays.n99 Tryz.prog Tryz.lays99_ren := {
 mixed := by kernel_rfl
 f99 := Tryz.func150.trans (congrArg some (by kernel_rfl))
 f206 := Tryz.func177.trans (congrArg some (by kernel_rfl))
 t3 := Tryz.underlying3
 a3 := Tryz.isAgg3
 z3 := Tryz.sizeOf3
 v3 := Tryz.zeroValue3
 t4 := Tryz.underlying4
 a4 := Tryz.isAgg4
 z4 := Tryz.sizeOf4
 v4 := Tryz.zeroValue4
 t9 := Tryz.underlying9
 a9 := Tryz.isAgg9
 z9 := Tryz.sizeOf9
 v9 := Tryz.zeroValue9 }
open Go.RowKit Go.Lib in
theorem Tryz.strings_HasPrefix (s p : ByteArray) (w : World) :
  Calls Tryz.prog 150 #[.string s, .string p] w fun e w' => e = .returned (.bool (Lib.hasPrefix s.data.toList p.data.toList)) /\ w' = w := Any.strings_HasPrefix Tryz.lays99 s p w
end Go.Proofs
namespace Go.Proofs.YtjgggmjjikopeaaGreatDoor
section
open Ieee
abbrev D : Format := Ieee.double
def NAN : Nat := 9221120237041090560
def zX (b : Nat) : Bool := decide (9218868437227405312 < b % 9223372036854775808)
def yT (b : Nat) : Nat := if zX b then NAN else b
theorem zhj : D.infRung = 9218868437227405312 := rfl
theorem J0 (b : Nat) : D.read b =
  if b % 9223372036854775808 < 4503599627370496 then .number (b / 9223372036854775808 % 2 == 1) (b % 9223372036854775808) (-1074)
  else if b % 9223372036854775808 < 9218868437227405312 then .number (b / 9223372036854775808 % 2 == 1) (4503599627370496 + b % 9223372036854775808 % 4503599627370496) (-1074 + (b % 9223372036854775808 / 4503599627370496 - 1 : Nat))
  else if b % 9223372036854775808 = 9218868437227405312 then .infinity (b / 9223372036854775808 % 2 == 1)
  else .nan (b / 9223372036854775808 % 2 == 1) (b % 9223372036854775808 - 9218868437227405312) := rfl
theorem XN {b : Nat} (h : zX b = true) : ∃ s t, D.read b = .nan s t := by
 simp only [zX, Yz] at h
 rw [J0, ze (by omega), ze (by omega), ze (by omega)]
 exact ⟨_, _, rfl⟩
theorem Xh {b : Nat} (h : zX b = false) : (∃ s m e, D.read b = .number s m e) \/ (∃ s, D.read b = .infinity s) := by
 simp only [zX, decide_eq_false_iff_not] at h
 rw [J0]
 split
 ·exact .inl ⟨_, _, _, rfl⟩
 ·split
  ·exact .inl ⟨_, _, _, rfl⟩
  ·rw [zi (by omega)]; exact .inr ⟨_, rfl⟩
theorem zbq (b : Nat) : D.order b b = if zX b then none else some .eq := by
 cases h : zX b
 ·rcases Xh h with ⟨s, m, e, hr⟩ | ⟨s, hr⟩
  ·simp [Format.order, hr, Datum.order]
  ·simp [Format.order, hr, Datum.order]
 ·obtain ⟨s, t, hr⟩ := XN h
  simp [Format.order, hr, Datum.order]
theorem zav (b : Nat) : (D.order b b != some .eq) = zX b := by
 rw [zbq]; cases zX b <;> rfl
theorem zc3 : zX NAN = true := by decide
theorem Xl {b : Nat} (h : zX b = true) : yT b = NAN := by simp [yT, h]
theorem Z4 {b : Nat} (h : zX b = false) : yT b = b := by simp [yT, h]
theorem zc5 (b : Nat) : yT (yT b) = yT b := by
 cases h : zX b
 ·rw [Z4 h, Z4 h]
 ·rw [Xl h, Xl zc3]
theorem J1 {b : Nat} (h : b < 18446744073709551616) : yT b < 18446744073709551616 := by
 unfold yT; split
 ·decide
 ·exact h
theorem zfZ {a b : Nat} (h : zX a = true \/ zX b = true) : D.add a b = none := by
 unfold Format.add
 rcases h with h | h
 ·obtain ⟨s, t, hr⟩ := XN h
  rw [hr]; rfl
 ·obtain ⟨s, t, hr⟩ := XN h
  rw [hr]
  cases ha : D.read a <;> rfl
theorem zcW {a b : Nat} (h : zX a = true \/ zX b = true) : D.order a b = none := by
 unfold Format.order
 rcases h with h | h
 ·obtain ⟨s, t, hr⟩ := XN h
  rw [hr]; rfl
 ·obtain ⟨s, t, hr⟩ := XN h
  rw [hr]
  cases ha : D.read a <;> rfl
def zfc (r : Option Nat) : Nat := match r with
 | some x => yT x
 | none => NAN
def zgJ (a b : Nat) : Nat := zfc (D.div a b)
def YI (a : Nat) : Nat := if zX a then NAN else if a < 9223372036854775808 then a + 9223372036854775808 else a - 9223372036854775808
def JC (n : Int) : Nat := FloatKind.nearest .f64 n
theorem zfb {r : Option Nat} (h : ∀ x, r = some x -> x < 18446744073709551616) : zfc r < 18446744073709551616 := by
 unfold zfc
 split
 ·rename_i x; exact J1 (h x rfl)
 ·decide
theorem JX (neg : Bool) (r : Nat) : D.word neg r = if neg then 9223372036854775808 + r else r := rfl
theorem Xa (neg : Bool) (mag : Nat) (place : Int) : zX (D.nearest neg mag place) = false := by
 simp only [zX, decide_eq_false_iff_not, Nat.not_lt]
 unfold Format.nearest
 dsimp only
 split
 ·rw [JX]; cases neg <;> simp
 ·rw [JX, zhj]
  have := Nat.min_le_right ((max (place + ↑mag.log2 - ↑D.fractionBits) D.leastPlace - D.leastPlace).toNat * D.binade + Toward.even.cut neg (mag <<< (place - max (place + ↑mag.log2 - ↑D.fractionBits) D.leastPlace).toNat) (max (place + ↑mag.log2 - ↑D.fractionBits) D.leastPlace - place).toNat) 9218868437227405312
  generalize min _ 9218868437227405312 = k at this ⊢
  cases neg
  ·simp; omega
  ·simp; omega
end
theorem zfu (a b : Nat) : ((a : Int) == (b : Int)) = (a == b) := by
 rw [Bool.eq_iff_iff]
 simp only [beq_iff_eq]
 omega
theorem zcl (x y t : Nat) : zX (Question.cut (.nanBits .f64 x y) t) = true /\ Question.cut (.nanBits .f64 x y) t < 18446744073709551616 := by
 have h1 : t % 2 < 2 := Nat.mod_lt _ (by decide)
 have h2 : t / 2 % (2 ^ 52 - 1) < 2 ^ 52 - 1 := Nat.mod_lt _ (by decide)
 have e : Question.cut (.nanBits .f64 x y) t = (t % 2) * 2 ^ 63 + 0x7ff0000000000000 + 1 + (t / 2) % (2 ^ 52 - 1) := rfl
 rw [e]
 generalize t / 2 % (2 ^ 52 - 1) = r at h2 ⊢
 generalize t % 2 = s at h1 ⊢
 refine ⟨?_, by omega⟩
 simp only [zX, Yz]
 omega
theorem Z9 {P : Program} (w : World) (op : BinOp) (hop : op = .add \/ op = .sub \/ op = .mul \/ op = .quo) (x y : Nat) (h : floatBits op .f64 x y = none) :
  ∃ b, zX b = true /\ b < 18446744073709551616 /\ ∀ t, (binOp op t (.float .f64 x) (.float .f64 y)).run P w = .ok (.float .f64 b) w.drew := by
 refine ⟨Question.cut (.nanBits .f64 x y) (w.tape w.drawn (.nanBits .f64 x y)), (zcl x y _).1, (zcl x y _).2, fun t => ?_⟩
 unfold floatBits at h
 rcases hop with rfl | rfl | rfl | rfl <;> simp only at h <;> simp [binOp, Op.floatArith, h, Question.forced]
theorem Vg {P : Program} (w : World) (op : BinOp) (hop : op = .add \/ op = .sub \/ op = .mul \/ op = .quo) (x y : Nat) :
  ∃ b q, yT b = zfc (floatBits op .f64 x y) /\ ∀ t, (binOp op t (.float .f64 x) (.float .f64 y)).run P w = .ok (.float .f64 b) (w.drewN q) := by
 cases h : floatBits op .f64 x y with
 | some r => exact ⟨r, 0, rfl, fun t => by rw [run_float_arith w op t .f64 x y r h]; rfl⟩
 | none =>
  obtain ⟨b, h1, h2, h3⟩ := Z9 (P := P) w op hop x y h
  exact ⟨b, 1, Xl h1, fun t => by rw [h3]; rfl⟩
theorem zcp (b : Nat) : ∀ w, Sem.run Tryz.prog (callFunc 191 #[.float .f64 b]) w = .ok (.value (.int .u64 b)) w := fun w => by
 rw [run_callFunc_extern Tryz.func191 (by kernel_rfl) (by kernel_rfl) (by kernel_rfl) (e := Extern.MathFloatBits.float64bits) (by kernel_rfl)]
 rfl
theorem zco (b : Nat) : ∀ w, Sem.run Tryz.prog (callFunc 196 #[.int .u64 (b : Int)]) w = .ok (.value (.float .f64 b)) w := fun w => by
 rw [run_callFunc_extern Tryz.func196 (by kernel_rfl) (by kernel_rfl) (by kernel_rfl) (e := Extern.MathFloatBits.float64frombits) (by kernel_rfl)]
 rfl
theorem Xx (b : Nat) (w : World) : Calls Tryz.prog 189 #[.float .f64 b] w fun e w' => e = .returned (.int .u64 (yT b : Nat)) /\ w' = w := by
 have hcf := zcp b
 have hneq : (FloatKind.f64.format.order b b != some .eq) = zX b := zav b
 cases h : zX b
 ·rw [Z4 h]
  rw [h] at hneq
  go_enter Tryz.func189, Tryz.ntmps189
  go_wp2
  go_ret
  exact ⟨rfl, rfl⟩
 ·rw [Xl h]
  rw [h] at hneq
  go_enter Tryz.func189, Tryz.ntmps189
  go_wp2
  go_ret
  exact ⟨rfl, rfl⟩
theorem Jk (b : Nat) (w : World) : Calls Tryz.prog 173 #[.int .u64 (b : Int)] w fun e w' => e = .returned (.int .u64 (yT b : Nat)) /\ w' = w := by
 have hcf := zco b
 go_enter Tryz.func173, Tryz.ntmps173
 go_wp2_with fail
 refine (Xx b _).mono ?_
 rintro e w1 ⟨rfl, rfl⟩
 go_wp2
 go_ret
 exact ⟨rfl, rfl⟩
theorem Kj (b : Nat) (w : World) : Calls Tryz.prog 190 #[.int .u64 (b : Int)] w fun e w' => e = .returned (.float .f64 (yT b)) /\ w' = w := by
 have hcf := zco (yT b)
 go_enter Tryz.func190, Tryz.ntmps190
 go_wp2_with fail
 refine (Jk b _).mono ?_
 rintro e w1 ⟨rfl, rfl⟩
 go_wp2
 go_ret
 exact ⟨rfl, rfl⟩
theorem zfv (b : Nat) (w : World) (h : b < 18446744073709551616) : Calls Tryz.prog 149 #[.int .u64 (b : Int)] w fun e w' => e = .returned (.bool (yT b == b)) /\ w' = w := by
 have hh := J1 h
 go_enter Tryz.func149, Tryz.ntmps149
 go_wp2_with fail
 refine (Jk b _).mono ?_
 rintro e w1 ⟨rfl, rfl⟩
 go_wp2
 go_ret
 exact ⟨by rw [<- zfu]; rfl, rfl⟩
section
open Ieee
def pw (k : Nat) : Nat := 2 ^ k
theorem zbm (k : Nat) : pw k = 2 ^ k := rfl
theorem ZZ (k : Nat) : 0 < pw k := Nat.two_pow_pos k
theorem yQ (a b : Nat) : pw (a + b) = pw a * pw b := Nat.pow_add 2 a b
theorem zaj {a b : Nat} (h : a <= b) : pw a <= pw b := Nat.pow_le_pow_right (by decide) h
theorem zd6 {a b : Nat} (h : a < b) : pw a < pw b := Nat.pow_lt_pow_right (by decide) h
theorem Za (s : Bool) (m k : Nat) : signed s m k = if s then -((m * pw k : Nat) : Int) else ((m * pw k : Nat) : Int) := by
 simp [signed, Nat.shiftLeft_eq, zbm]
theorem Ka (s : Bool) (m i k : Nat) : signed s m (i + k) = signed s m i * ((pw k : Nat) : Int) := by
 rw [Za, Za, yQ, <- Nat.mul_assoc]
 cases s <;> simp [Int.neg_mul]
theorem ZO (x y : Int) : compare x y = if x < y then .lt else if x = y then .eq else .gt := rfl
theorem je (x y : Int) (k : Nat) (hk : 0 < k) : compare (x * (k : Int)) (y * (k : Int)) = compare x y := by
 rw [ZO, ZO]
 have h : (0 : Int) < (k : Int) := by omega
 by_cases h1 : x < y
 ·rw [zi h1, zi (Int.mul_lt_mul_of_pos_right h1 h)]
 ·rw [ze h1, ze (fun hh => h1 (Int.lt_of_mul_lt_mul_right hh (Int.le_of_lt h)))]
  by_cases h2 : x = y
  ·rw [zi h2, zi (by rw [h2])]
  ·rw [ze h2, ze (fun hh => h2 (Int.eq_of_mul_eq_mul_right (by omega) hh))]
theorem Vx {x y : Int} (h : x < y) : compare x y = .lt := by rw [ZO, zi h]
theorem Vy {x y : Int} (h : y < x) : compare x y = .gt := by rw [ZO, ze (by omega), ze (by omega)]
theorem V3 {x y : Int} (h : x = y) : compare x y = .eq := by rw [ZO, ze (by omega), zi h]
def TOP : Nat := pw 2200
def worth : Datum -> Int
 | .number s m e => signed s m (e + 1074).toNat
 | .infinity s => if s then -(TOP : Int) else (TOP : Int)
 | .nan .. => 0
def val (b : Nat) : Int := worth (D.read b)
theorem ZY {b : Nat} {s : Bool} {m : Nat} {e : Int} (h : D.read b = .number s m e) : s = (b / 9223372036854775808 % 2 == 1) /\ m < 9007199254740992 /\ -1074 <= e /\ e <= 971 := by
 rw [J0] at h
 split at h
 ·cases h
  refine ⟨rfl, by omega, by omega, by omega⟩
 ·split at h
  ·cases h
   refine ⟨rfl, by omega, by omega, by omega⟩
  ·split at h <;> cases h
theorem VU {b : Nat} {s : Bool} {m : Nat} {e : Int} (h : D.read b = .number s m e) : m * pw (e + 1074).toNat < TOP := by
 obtain ⟨_, h1, h2, h3⟩ := ZY h
 have h4 : pw (e + 1074).toNat <= pw 2045 := zaj (by omega)
 have h5 : m * pw (e + 1074).toNat <= pw 53 * pw 2045 := Nat.mul_le_mul (Y1 (show m < 2 ^ 53 from h1)) h4
 rw [<- yQ] at h5
 exact Nat.lt_of_le_of_lt h5 (zd6 (by decide))
theorem zf0 : 0 < TOP := ZZ _
theorem K7 (s t : Bool) (m n : Nat) (i j : Int) (hi : -1074 <= i) (hj : -1074 <= j) :
  Datum.order (.number s m i) (.number t n j) = some (compare (signed s m (i + 1074).toNat) (signed t n (j + 1074).toNat)) := by
 have e1 : (i + 1074).toNat = (i - min i j).toNat + (min i j + 1074).toNat := by omega
 have e2 : (j + 1074).toNat = (j - min i j).toNat + (min i j + 1074).toNat := by omega
 rw [e1, e2, Ka, Ka, je _ _ _ (ZZ _)]
 rfl
theorem js {b c : Nat} (hb : zX b = false) (hc : zX c = false) : D.order b c = some (compare (val b) (val c)) := by
 unfold Format.order val
 have hT := zf0
 rcases Xh hb with ⟨s, m, i, h1⟩ | ⟨s, h1⟩ <;> rcases Xh hc with ⟨t, n, j, h2⟩ | ⟨t, h2⟩
 ·rw [h1, h2, K7 _ _ _ _ _ _ (ZY h1).2.2.1 (ZY h2).2.2.1]
  rfl
 ·have := VU h1
  rw [h1, h2]
  simp only [Datum.order, worth, Za]
  generalize m * pw (i + 1074).toNat = x at this ⊢
  cases t
  ·rw [Vx (by cases s <;> simp only [ZV, if_false, if_true] <;> omega)]; rfl
  ·rw [Vy (by cases s <;> simp only [ZV, if_false, if_true] <;> omega)]; rfl
 ·have := VU h2
  rw [h1, h2]
  simp only [Datum.order, worth, Za]
  generalize n * pw (j + 1074).toNat = x at this ⊢
  cases s
  ·rw [Vy (by cases t <;> simp only [ZV, if_false, if_true] <;> omega)]; rfl
  ·rw [Vx (by cases t <;> simp only [ZV, if_false, if_true] <;> omega)]; rfl
 ·rw [h1, h2]
  simp only [Datum.order, worth]
  cases s <;> cases t <;> simp only [ZV, if_false, if_true]
  ·rw [V3 rfl]; rfl
  ·rw [Vy (by omega)]; rfl
  ·rw [Vx (by omega)]; rfl
  ·rw [V3 rfl]; rfl
theorem zgx {b c : Nat} (hb : zX b = false) (hc : zX c = false) : (D.order b c == some .lt) = decide (val b < val c) := by
 rw [js hb hc, ZO]
 by_cases h1 : val b < val c
 ·simp [h1]
 ·by_cases h2 : val b = val c <;> simp [h1, h2]
theorem zgF {b c : Nat} (hb : zX b = false) (hc : zX c = false) : (D.order b c == some .gt || D.order b c == some .eq) = decide (val c <= val b) := by
 rw [js hb hc, ZO]
 by_cases h1 : val b < val c
 ·simp [h1]
 ·by_cases h2 : val b = val c <;> simp [h1, h2] <;> omega
theorem zgw {b c : Nat} (h : zX b = true \/ zX c = true) : (D.order b c == some .gt || D.order b c == some .eq) = false := by rw [zcW h]; rfl
/-! The other sign. -/
theorem zdB (r : Nat) (h : r < 9223372036854775808) : r ^^^ 9223372036854775808 = 9223372036854775808 + r := by
 apply Nat.eq_of_testBit_eq
 intro j
 have e := Nat.testBit_two_pow_mul_add 1 (show r < 2 ^ 63 from h) j
 rw [Nat.mul_one] at e
 rw [show 9223372036854775808 + r = 2 ^ 63 + r from rfl, e, Nat.testBit_xor, show (9223372036854775808 : Nat) = 2 ^ 63 from rfl, Nat.testBit_two_pow]
 by_cases hj : j < 63
 ·simp [hj, show ¬ 63 = j by omega]
 ·have : r.testBit j = false := Nat.testBit_lt_two_pow (Zy h (show 2 ^ 63 <= 2 ^ j from Nat.pow_le_pow_right (by decide) (by omega)))
  rw [this, ze hj]
  by_cases h63 : 63 = j
  ·subst h63; rfl
  ·have : (1 : Nat).testBit (j - 63) = false := by
    apply Nat.testBit_lt_two_pow
    exact Nat.one_lt_two_pow (by omega)
   simp [this, h63]
theorem qH (x : Nat) (h : x < 18446744073709551616) : x ^^^ 9223372036854775808 = if x < 9223372036854775808 then x + 9223372036854775808 else x - 9223372036854775808 := by
 split
 ·rename_i h1
  rw [zdB x h1]; omega
 ·rename_i h1
  have h2 := zdB (x - 9223372036854775808) (by omega)
  have h3 : x = (x - 9223372036854775808) ^^^ 9223372036854775808 := by rw [h2]; omega
  have h4 : x ^^^ 9223372036854775808 = ((x - 9223372036854775808) ^^^ 9223372036854775808) ^^^ 9223372036854775808 := by rw [<- h3]
  rw [h4, Nat.xor_assoc, Nat.xor_self, Nat.xor_zero]
theorem zaO (x : Nat) (h : x < 18446744073709551616) : zX (if x < 9223372036854775808 then x + 9223372036854775808 else x - 9223372036854775808) = zX x := by
 unfold zX
 have e : (if x < 9223372036854775808 then x + 9223372036854775808 else x - 9223372036854775808) % 9223372036854775808 = x % 9223372036854775808 := by split <;> omega
 rw [e]
theorem zc7 (a : Nat) (h : a < 18446744073709551616) : yT (yT a ^^^ 9223372036854775808) = YI a := by
 rw [qH _ (J1 h)]
 unfold YI
 cases hn : zX a
 ·rw [Z4 hn, Z4 (by rw [zaO a h, hn])]
  simp
 ·rw [Xl hn]
  show yT (if NAN < 9223372036854775808 then NAN + 9223372036854775808 else NAN - 9223372036854775808) = NAN
  decide
theorem qu {a : Nat} (h : a < 18446744073709551616) : YI a < 18446744073709551616 := by
 unfold YI; split
 ·decide
 ·split <;> omega
theorem zbC {a : Nat} (h : a < 18446744073709551616) : zX (YI a) = zX a := by
 unfold YI
 cases hn : zX a
 ·simp only [ZV, if_false]
  rw [zaO a h, hn]
 ·rfl
/-! The whole part. -/
theorem zeM (s : Bool) (n d : Nat) : Toward.cut .zero s n d = n / 2 ^ d := by
 simp only [Toward.cut, Bool.toNat_false, Nat.add_zero, Nat.shiftLeft_eq, Nat.one_mul]
 by_cases h : d <= n.log2 + 2
 ·rw [Nat.min_eq_left h]
 ·rw [Nat.min_eq_right (by omega)]
  have h0 : n < 2 ^ (n.log2 + 1) := Nat.lt_log2_self
  have h1 : n < 2 ^ (n.log2 + 2) := Zy h0 (Nat.pow_le_pow_right (by decide) (by omega))
  have h2 : n < 2 ^ d := Zy h0 (Nat.pow_le_pow_right (by decide) (by omega))
  rw [Nat.div_eq_of_lt h1, Nat.div_eq_of_lt h2]
theorem jS (s : Bool) (m : Nat) (e : Int) (he : -1074 <= e) : Datum.toInt .zero (.number s m e) = some (if s then -((m * pw (e + 1074).toNat / pw 1074 : Nat) : Int) else ((m * pw (e + 1074).toNat / pw 1074 : Nat) : Int)) := by
 have key : (m <<< e.toNat) / 2 ^ (-e).toNat = m * pw (e + 1074).toNat / pw 1074 := by
  rw [Nat.shiftLeft_eq]
  by_cases h : 0 <= e
  ·have h1 : pw (e + 1074).toNat = 2 ^ e.toNat * pw 1074 := by rw [<- zbm, <- yQ]; congr 1; omega
   rw [show (-e).toNat = 0 by omega, h1, <- Nat.mul_assoc, Nat.mul_div_cancel _ (ZZ _)]
   simp
  ·have h1 : (e + 1074).toNat + (-e).toNat = 1074 := by omega
   have h2 : pw 1074 = pw (e + 1074).toNat * 2 ^ (-e).toNat := by rw [<- zbm, <- yQ, h1]
   rw [h2, Nat.mul_comm m (pw (e + 1074).toNat), Nat.mul_div_mul_left _ _ (ZZ _), show e.toNat = 0 by omega]
   simp
 simp only [Datum.toInt, Datum.integral, zeM, key, Za, pw, Nat.pow_zero, Nat.mul_one]
def B63 : Nat := 4890909195324358656
def N63 : Nat := 14114281232179134464
theorem jO : val B63 = ((9223372036854775808 * pw 1074 : Nat) : Int) := by
 have : D.read B63 = .number false 4503599627370496 11 := by decide
 unfold val
 rw [this]
 simp only [worth, Za, ZV, if_false]
 rw [show ((11 : Int) + 1074).toNat = 11 + 1074 from rfl, yQ, <- Nat.mul_assoc, show 4503599627370496 * pw 11 = 9223372036854775808 from rfl]
theorem jN : val N63 = -((9223372036854775808 * pw 1074 : Nat) : Int) := by
 have : D.read N63 = .number true 4503599627370496 11 := by decide
 unfold val
 rw [this]
 simp only [worth, Za, if_true]
 rw [show ((11 : Int) + 1074).toNat = 11 + 1074 from rfl, yQ, <- Nat.mul_assoc, show 4503599627370496 * pw 11 = 9223372036854775808 from rfl]
def VG (v : Int) : Int := if v < 0 then -((v.natAbs / pw 1074 : Nat) : Int) else ((v.natAbs / pw 1074 : Nat) : Int)
theorem zcB {b : Nat} (hb : zX b = false) (h1 : val b < val B63) (h2 : val N63 <= val b) : floatToIntVal .f64 b .i64 = some (VG (val b)) := by
 have hp : 0 < pw 1074 := ZZ _
 rcases Xh hb with ⟨s, m, e, hr⟩ | ⟨s, hr⟩
 ·obtain ⟨_, _, he, _⟩ := ZY hr
  have hv : val b = signed s m (e + 1074).toNat := by unfold val; rw [hr]; rfl
  rw [jO, hv] at h1
  rw [jN, hv] at h2
  have ht : Datum.toInt .zero (FloatKind.f64.decode b) = _ := (congrArg _ hr).trans (jS s m e he)
  unfold floatToIntVal
  rw [ht, hv]
  rw [Za] at h1 h2 ⊢
  simp only [VG]
  generalize m * pw (e + 1074).toNat = x at h1 h2 ⊢
  generalize pw 1074 = K at h1 h2 hp ⊢
  cases s
  ·simp only [ZV, if_false] at h1 h2 ⊢
   have hx : x / K < 9223372036854775808 := (Nat.div_lt_iff_lt_mul hp).2 (by omega)
   have hm : IntKind.i64.min = -9223372036854775808 := rfl
   have hM : IntKind.i64.max = 9223372036854775807 := rfl
   rw [Int.natAbs_natCast]
   generalize x / K = y at hx ⊢
   rw [hm, hM, zi ⟨by omega, by omega⟩, ze (by omega)]
  ·simp only [if_true] at h1 h2 ⊢
   have hx : x / K <= 9223372036854775808 := (Nat.div_le_iff_le_mul_add_pred hp).2 (by rw [Nat.mul_comm]; omega)
   have hm : IntKind.i64.min = -9223372036854775808 := rfl
   have hM : IntKind.i64.max = 9223372036854775807 := rfl
   rw [Int.natAbs_neg, Int.natAbs_natCast]
   have h0 : x = 0 -> x / K = 0 := fun h => by rw [h]; exact Nat.zero_div _
   generalize x / K = y at hx h0 ⊢
   rw [hm, hM, zi ⟨by omega, by omega⟩]
   by_cases h00 : x = 0
   ·rw [ze (by omega), h0 h00]; rfl
   ·rw [zi (by omega)]
 ·exfalso
  have hT : 9223372036854775808 * pw 1074 < TOP := by
   rw [show (9223372036854775808 : Nat) = pw 63 from rfl, <- yQ]
   exact zd6 (by decide)
  have hv : val b = if s then -(TOP : Int) else (TOP : Int) := by unfold val; rw [hr]; rfl
  rw [jO, hv] at h1
  rw [jN, hv] at h2
  cases s <;> simp only [ZV, if_false, if_true] at h1 h2 <;> omega
end
section
open Ieee
def rne (n d : Nat) : Nat := n / pw d + if pw d < 2 * (n % pw d) \/ (pw d = 2 * (n % pw d) /\ n / pw d % 2 = 1) then 1 else 0
theorem zgG (n d : Nat) : ((1 <<< min d (n.log2 + 2)) = pw d) \/ (n / pw d = 0 /\ n % pw d = n /\ 2 * n < pw d /\ n / (1 <<< min d (n.log2 + 2)) = 0 /\ n % (1 <<< min d (n.log2 + 2)) = n /\ 2 * n < (1 <<< min d (n.log2 + 2))) := by
 rw [Nat.shiftLeft_eq, Nat.one_mul]
 by_cases h : d <= n.log2 + 2
 ·left; rw [Nat.min_eq_left h]; rfl
 ·right
  rw [Nat.min_eq_right (by omega)]
  have h0 : n < 2 ^ (n.log2 + 1) := Nat.lt_log2_self
  have e2 : 2 ^ (n.log2 + 2) = 2 ^ (n.log2 + 1) * 2 := Nat.pow_succ 2 _
  have h2 : 2 ^ (n.log2 + 2) <= pw d := Nat.pow_le_pow_right (by decide) (by omega)
  refine ⟨Nat.div_eq_of_lt (by omega), Nat.mod_eq_of_lt (by omega), by omega, Nat.div_eq_of_lt (by omega), Nat.mod_eq_of_lt (by omega), by omega⟩
theorem zeN (s : Bool) (n d : Nat) : Toward.cut .even s n d = rne n d := by
 have key : ∀ g : Nat, (g = pw d) \/ (n / pw d = 0 /\ n % pw d = n /\ 2 * n < pw d /\ n / g = 0 /\ n % g = n /\ 2 * n < g) ->
   n / g + (decide (g < 2 * (n % g)) || (g == 2 * (n % g) && n / g % 2 == 1)).toNat = rne n d := by
  intro g hg
  rcases hg with rfl | ⟨h1, h2, h3, h4, h5, h6⟩
  ·unfold rne
   by_cases c1 : pw d < 2 * (n % pw d)
   ·simp [c1]
   ·by_cases c2 : pw d = 2 * (n % pw d)
    ·by_cases c3 : n / pw d % 2 = 1
     ·rw [zi (.inr ⟨c2, c3⟩), zN c1, show (pw d == 2 * (n % pw d)) = true by simpa using c2, show (n / pw d % 2 == 1) = true by simpa using c3]; rfl
     ·rw [ze (by rintro (h | ⟨_, h⟩); exact c1 h; exact c3 h), zN c1, show (n / pw d % 2 == 1) = false by simpa using c3, Bool.and_false]; rfl
    ·rw [ze (by rintro (h | ⟨h, _⟩); exact c1 h; exact c2 h), zN c1, show (pw d == 2 * (n % pw d)) = false by simpa using c2, Bool.false_and]; rfl
  ·unfold rne
   rw [h1, h2, h4, h5, ze (by rintro (h | ⟨h, _⟩) <;> omega), zN (by omega), show (g == 2 * n) = false by rw [zt]; omega]
   rfl
 exact key _ (zgG n d)
theorem zad (n : Nat) : rne n 0 = n := by
 unfold rne
 have : pw 0 = 1 := rfl
 rw [this, Nat.div_one, Nat.mod_one, ze (by omega)]; rfl
theorem zd3 (n d : Nat) : 2 * (rne n d * pw d) <= 2 * n + pw d /\ 2 * n <= 2 * (rne n d * pw d) + pw d := by
 unfold rne
 have h := Nat.div_add_mod n (pw d)
 have hp := ZZ d
 have hm := Nat.mod_lt n hp
 generalize n / pw d = q at h ⊢
 generalize n % pw d = r at h hm ⊢
 generalize pw d = P at h hp hm ⊢
 have e : (q + 1) * P = P * q + P := by rw [Nat.add_mul, Nat.mul_comm q]; omega
 have e0 : (q + 0) * P = P * q := by rw [Nat.add_zero, Nat.mul_comm]
 split
 ·rw [e]; omega
 ·rename_i hc
  rw [e0]
  have : 2 * r <= P := by omega
  omega
def yw (m : Nat) (p : Int) : Int := max (p + m.log2 - 52) (-1074)
def Y9 (m : Nat) (p : Int) : Nat := rne (m * pw (p - yw m p).toNat) (yw m p - p).toNat
theorem zbv (s : Bool) (m : Nat) (p : Int) (hm : m ≠ 0) : D.nearest s m p = D.word s (min ((yw m p + 1074).toNat * 4503599627370496 + Y9 m p) 9218868437227405312) := by
 unfold Format.nearest
 rw [ze hm]
 simp only [zeN, Nat.shiftLeft_eq]
 rfl
theorem Y2 (m : Nat) (hm : m ≠ 0) : pw m.log2 <= m /\ m < pw (m.log2 + 1) := ⟨Nat.log2_self_le hm, Nat.lt_log2_self⟩
theorem zfD (m : Nat) (p : Int) : -1074 <= yw m p := by unfold yw; omega
theorem JH (m : Nat) (p : Int) (hm : m ≠ 0) : Y9 m p <= 9007199254740992 /\ (yw m p = -1074 \/ 4503599627370496 <= Y9 m p) := by
 obtain ⟨h1, h2⟩ := Y2 m hm
 have hl : p + m.log2 - 52 <= yw m p := by unfold yw; omega
 have hl2 : yw m p = -1074 \/ yw m p = p + m.log2 - 52 := by unfold yw; omega
 unfold Y9
 by_cases ht : yw m p <= p
 ·rw [show (yw m p - p).toNat = 0 by omega, zad]
  have e1 : m * pw (p - yw m p).toNat < pw (m.log2 + 1) * pw (p - yw m p).toNat := Nat.mul_lt_mul_of_pos_right h2 (ZZ _)
  rw [<- yQ] at e1
  have e2 : pw (m.log2 + 1 + (p - yw m p).toNat) <= pw 53 := zaj (by omega)
  have e3 : pw 53 = 9007199254740992 := rfl
  refine ⟨by omega, ?_⟩
  rcases hl2 with h | h
  ·exact .inl h
  ·right
   have e4 : pw m.log2 * pw (p - yw m p).toNat <= m * pw (p - yw m p).toNat := Nat.mul_le_mul_right _ h1
   rw [<- yQ, show m.log2 + (p - yw m p).toNat = 52 by omega] at e4
   exact e4
 ·rw [show (p - yw m p).toNat = 0 by omega]
  obtain ⟨d, hd⟩ : ∃ d, d = (yw m p - p).toNat := ⟨_, rfl⟩
  rw [<- hd, show pw 0 = 1 from rfl, Nat.mul_one]
  have hq : m / pw d < 9007199254740992 := by
   rw [Nat.div_lt_iff_lt_mul (ZZ d)]
   refine Zy h2 ?_
   rw [show (9007199254740992 : Nat) = pw 53 from rfl, <- yQ]
   exact zaj (by omega)
  refine ⟨?_, ?_⟩
  ·unfold rne; split <;> omega
  ·rcases hl2 with h | h
   ·exact .inl h
   ·right
    have : 4503599627370496 <= m / pw d := by
     rw [Nat.le_div_iff_mul_le (ZZ d), show (4503599627370496 : Nat) = pw 52 from rfl, <- yQ]
     exact zQ (zaj (by omega)) h1
    unfold rne; omega
theorem zcR (s : Bool) (E k : Nat) (hk : k <= 9007199254740992) (hE : E = 0 \/ 4503599627370496 <= k) (hr : E * 4503599627370496 + k < 9218868437227405312) :
  ∃ m e, D.read (D.word s (E * 4503599627370496 + k)) = .number s m e /\ m * pw (e + 1074).toNat = k * pw E := by
 have hw : (D.word s (E * 4503599627370496 + k)) % 9223372036854775808 = E * 4503599627370496 + k := by rw [JX]; cases s <;> simp <;> omega
 have hs : ((D.word s (E * 4503599627370496 + k)) / 9223372036854775808 % 2 == 1) = s := by
  rw [JX]
  cases s
  ·simp; omega
  ·simp; omega
 rw [J0, hw, hs]
 by_cases c0 : E * 4503599627370496 + k < 4503599627370496
 ·rw [zi c0]
  refine ⟨_, _, rfl, ?_⟩
  obtain rfl : E = 0 := by omega
  simp
 ·rw [ze c0, zi hr]
  refine ⟨_, _, rfl, ?_⟩
  rw [show (-1074 + (((E * 4503599627370496 + k) / 4503599627370496 - 1 : Nat) : Int) + 1074).toNat = (E * 4503599627370496 + k) / 4503599627370496 - 1 by omega]
  by_cases c1 : k < 9007199254740992
  ·have hk2 : 4503599627370496 <= k := by omega
   rw [show (E * 4503599627370496 + k) / 4503599627370496 - 1 = E by omega, show 4503599627370496 + (E * 4503599627370496 + k) % 4503599627370496 = k by omega]
  ·obtain rfl : k = 9007199254740992 := by omega
   rw [show (E * 4503599627370496 + 9007199254740992) / 4503599627370496 - 1 = E + 1 by omega, show 4503599627370496 + (E * 4503599627370496 + 9007199254740992) % 4503599627370496 = 4503599627370496 by omega]
   rw [yQ, <- Nat.mul_assoc, Nat.mul_right_comm]
   rfl
theorem VV (s : Bool) (m : Nat) (p : Int) (hm : m ≠ 0) (hp : p + m.log2 <= 1022) :
  ∃ m' e', D.read (D.nearest s m p) = .number s m' e' /\ m' * pw (e' + 1074).toNat = Y9 m p * pw (yw m p + 1074).toNat := by
 obtain ⟨h1, h2⟩ := JH m p hm
 have hl := zfD m p
 have hlu : yw m p <= 970 := by unfold yw; omega
 rw [zbv s m p hm]
 have hr : (yw m p + 1074).toNat * 4503599627370496 + Y9 m p < 9218868437227405312 := by omega
 rw [Nat.min_eq_left (by omega)]
 exact zcR s _ _ h1 (by rcases h2 with h | h; left; omega; right; exact h) hr
end
def At (t : TypeId) (w : World) (g : Nat) (cs : List Value) : Prop := w.heap[g]? = some (.cells cs.toArray t (0, 0))
section
variable {t : TypeId} {w : World} {g : Nat} {cs : List Value}
theorem At.cell (h : At t w g cs) (i : Nat) : w.cell? ⟨g, i, none⟩ = cs[i]? := by
 simp [World.cell?, show w.heap[g]? = _ from h]
theorem At.frozen (h : At t w g cs) (i : Nat) : w.frozen? ⟨g, i, none⟩ = false := by
 simp [World.frozen?, show w.heap[g]? = _ from h]
theorem At.lt (h : At t w g cs) : g < w.heap.size := by
 rcases Nat.lt_or_ge g w.heap.size with hlt | hge
 ·exact hlt
 ·unfold At at h; rw [Array.getElem?_eq_none hge] at h; simp at h
theorem At.set (h : At t w g cs) (i : Nat) (v : Value) : At t (w.setCell ⟨g, i, none⟩ v) g (cs.set i v) := by
 have := heap_setCell_same w g i cs.toArray t v h
 unfold At
 rw [this]
 simp
theorem At.below {w' : World} (h : At t w g cs) (hb : Below w.heap.size w w') : At t w' g cs := by
 unfold At
 rw [hb.block g h.lt]
 exact h
theorem At.drewN (h : At t w g cs) (n : Nat) : At t (w.drewN n) g cs := h
theorem At.drew (h : At t w g cs) : At t w.drew g cs := h
end
structure But (g : Nat) (w w' : World) : Prop where
 os : w'.os = w.os
 tape : w'.tape = w.tape
 output : w'.output = w.output
 size : w.heap.size <= w'.heap.size
 block : ∀ k, k < w.heap.size -> k ≠ g -> w'.heap[k]? = w.heap[k]?
theorem But.refl (g : Nat) (w : World) : But g w w := ⟨rfl, rfl, rfl, zj _, fun _ _ _ => rfl⟩
theorem But.trans {g : Nat} {a b c : World} (h : But g a b) (k : But g b c) : But g a c :=
 ⟨k.os.trans h.os, k.tape.trans h.tape, k.output.trans h.output, zQ h.size k.size, fun i hi hn => (k.block i (Zy hi h.size) hn).trans (h.block i hi hn)⟩
theorem But.of_below {g : Nat} {w w' : World} (h : Below w.heap.size w w') : But g w w' := ⟨h.os, h.tape, h.output, h.size, fun k hk _ => h.block k hk⟩
theorem But.below {g B : Nat} {w0 w w' : World} (h : But g w w') (hb : Below B w0 w) (hB : B <= g) (hs : B <= w.heap.size) : Below B w0 w' :=
 ⟨h.os.trans hb.os, h.tape.trans hb.tape, h.output.trans hb.output, zQ hb.size h.size, fun k hk => (h.block k (by omega) (by omega)).trans (hb.block k hk)⟩
theorem But.at {t : TypeId} {g k : Nat} {w w' : World} {cs : List Value} (h : But g w w') (ha : At t w k cs) (hn : k ≠ g) : At t w' k cs := by
 unfold At
 rw [h.block k ha.lt hn]
 exact ha
theorem But.drewN {g : Nat} {a w : World} (h : But g a w) (n : Nat) : But g a (w.drewN n) := ⟨h.os, h.tape, h.output, h.size, h.block⟩
theorem But.setCell {g : Nat} {a w : World} (h : But g a w) (i : Nat) (v : Value) : But g a (w.setCell ⟨g, i, none⟩ v) :=
 ⟨h.os, h.tape, h.output, by simpa using h.size, fun k hk hn => by rw [heap_setCell_other w ⟨g, i, none⟩ k v hn]; exact h.block k hk hn⟩
theorem But.row {g : Nat} {w w' : World} (h : But g w w') {a : Option Addr} {bs : List UInt8} (hr : Row w a bs) (hn : ∀ b off, a = some ⟨b, off, none⟩ -> b ≠ g) : Row w' a bs := by
 rcases hr with hr | ⟨b, off, rfl, hc⟩
 ·exact .inl hr
 ·exact .inr ⟨b, off, rfl, fun j hj => by rw [World.cell?_of_block (w := w) (h.block b (Yn (hc j hj)) (hn b off rfl))]; exact hc j hj⟩
section
variable {P : Program} {ops : Array Oper} {rest : List Oper} {o : Oper} {a : Act} {w : World} {Q : Exit -> Act -> World -> Prop}
theorem Vd (hgd : o.guard = none) (t : TypeId) (x : Operand) (ho : o.op = .box t x) (cs : List Value) (hx : a.eval x = .agg cs.toArray)
  (h : ∀ w', At t w' w.heap.size cs -> Below w.heap.size w w' -> w'.heap.size = w.heap.size + 1 -> wpList P ops Q rest (a.put o.dst (.pointer (some ⟨w.heap.size, 0, none⟩))) w') :
  wpList P ops Q (o :: rest) a w := by
 refine wpList_plain hgd fun K hK => ?_
 have := hK _ _ (h (w.alloc (.cells cs.toArray t)) (_root_.Go.heap_alloc_new w _) ((Below.refl _ w).alloc (zj _) _) (by show (w.heap.push _).size = _; simp))
 unfold Oper.wp execOp
 simp only [ho, hx, Instr.box, Sem.run_bind]
 simpa [newVar, go_sem, Value.cells] using this
theorem Xz (hgd : o.guard = none) (t : TypeId) (ho : o.op = .alloc t) (cs : List Value) (n : Nat) (hz : (P.info? t).map (fun i => (i.zero, i.size)) = some (some (.agg cs.toArray), n))
  (h : ∀ w', At t w' w.heap.size cs -> Below w.heap.size w w' -> w'.heap.size = w.heap.size + 1 -> wpList P ops Q rest (a.put o.dst (.pointer (some ⟨w.heap.size, 0, none⟩))) w') :
  wpList P ops Q (o :: rest) a w := by
 refine wpList_plain hgd fun K hK => ?_
 have := hK _ _ (h (w.alloc (.cells cs.toArray t)) (_root_.Go.heap_alloc_new w _) ((Below.refl _ w).alloc (zj _) _) (by show (w.heap.push _).size = _; simp))
 have h0 := (zero_of_info hz).1
 unfold Oper.wp execOp
 simp only [ho, Instr.alloc, Sem.run_bind, h0]
 simpa [newVar, go_sem, Value.cells] using this
theorem Zw (hgd : o.guard = none) (ty : TypeId) (x y : Operand) (ho : o.op = .store ty x y)
  (g : Nat) (cs : List Value) (hx : a.eval x = .pointer (some ⟨g, 0, none⟩)) (hy : a.eval y = .agg cs.toArray)
  (t : TypeId) (old : List Value) (hg : At t w g old) (hi : (P.info? ty).map (·.size) = some cs.length) (hold : old.length = cs.length) (h1 : ∀ v ∈ cs, v.oneCell' = true)
  (h : ∀ w', At t w' g cs -> But g w w' -> w'.heap.size = w.heap.size -> wpList P ops Q rest (a.put o.dst undef) w') : wpList P ops Q (o :: rest) a w := by
 refine wpList_store_row hgd ty x y ho g cs.toArray hx hy t old.toArray hg (by simpa using hi) (by simpa using hold) (by simpa using h1) ?_
 refine h _ (setRow_heap w g _ _ t _ hg) ⟨rfl, rfl, rfl, by simp, fun k _ hn => setRow_other w g k _ hn⟩ (by simp)
theorem zg (hgd : o.guard = none) (t : TypeId) (parts : Array (Nat × Operand)) (ho : o.op = .build t parts) (cs : List Value)
  (hb : P.built t (parts.map fun (i, x) => (i, a.eval x)).toList = some cs.toArray)
  (h : wpList P ops Q rest (a.put o.dst (.agg cs.toArray)) w) : wpList P ops Q (o :: rest) a w :=
 wpList_build hgd t parts ho (by rw [hb]; rfl) (by rw [hb]; exact h)
theorem J6 (hgd : o.guard = none) (ty : TypeId) (x : Operand) (ho : o.op = .load ty x)
  (g : Nat) (hx : a.eval x = .pointer (some ⟨g, 0, none⟩)) (t : TypeId) (cs : List Value) (hg : At t w g cs) (d : TypeDesc)
  (hu : P.underlying ty = some d) (hd : (match d with | .struct _ | .array _ _ => true | _ => false) = true) (hi : (P.info? ty).map (·.size) = some cs.length)
  (h : wpList P ops Q rest (a.put o.dst (.agg cs.toArray)) w) : wpList P ops Q (o :: rest) a w :=
 wpList_load_row hgd ty x ho g hx t cs.toArray (0, 0) d hg hu hd (by simpa using hi) h
end
theorem At.range {t : TypeId} {w : World} {g : Nat} {cs : List Value} (h : At t w g cs) (o n : Nat) : w.rangeAt g o ((cs.drop o).take n) := by
 intro j v hj
 rw [h.cell]
 rw [List.getElem?_take] at hj
 split at hj
 ·rw [List.getElem?_drop] at hj; exact hj
 ·simp at hj
theorem At.there {t : TypeId} {w : World} {g : Nat} {cs : List Value} (h : At t w g cs) (o n : Nat) (hn : o + n <= cs.length) : w.there g o n := by
 intro j hj
 rw [h.cell, h.frozen]
 simp
 omega
theorem V7 {P : Program} {ops : Array Oper} {rest : List Oper} {o : Oper} {a : Act} {w : World} {Q : Exit -> Act -> World -> Prop} (hgd : o.guard = none) (ty : TypeId) (x y : Operand) (ho : o.op = .store ty x y)
  (g off : Nat) (v0 v1 : Value) (hx : a.eval x = .pointer (some ⟨g, off, none⟩)) (hy : a.eval y = .agg [v0, v1].toArray)
  (t : TypeId) (old : List Value) (hg : At t w g old) (hold : off + 2 <= old.length) (hi : (P.info? ty).map (·.size) = some 2) (h1 : ∀ v ∈ [v0, v1], v.oneCell' = true)
  (h : ∀ w', At t w' g ((old.set off v0).set (off + 1) v1) -> But g w w' -> w'.heap.size = w.heap.size -> wpList P ops Q rest (a.put o.dst undef) w') : wpList P ops Q (o :: rest) a w := by
 refine wpList_store_mid hgd ty x y ho g off [v0, v1].toArray hx hy (hg.there off 2 hold) (by simpa using hi) (all_oneCell_toArray h1) ?_
 refine h _ ((hg.set off v0).set (off + 1) v1) (((But.refl g w).setCell off v0).setCell (off + 1) v1) ?_
 show ((w.setCell ⟨g, off, none⟩ v0).setCell ⟨g, off + 1, none⟩ v1).heap.size = _
 simp
theorem zh {P : Program} {fn : Func} {p : Tmp} {ty : TypeId} (h : fn.results = #[.cell p ty]) (tmps : Array Value) (w : World) (g : Nat) (t : TypeId) (cs : List Value) (d : TypeDesc)
  (hp : tmps.getD p undef = .pointer (some ⟨g, 0, none⟩)) (hg : At t w g cs)
  (hu : P.underlying ty = some d) (hd : (match d with | .struct _ | .array _ _ => true | _ => false) = true) (hi : (P.info? ty).map (·.size) = some cs.length) :
  (results fn tmps).run P w = .ok (.agg cs.toArray) w :=
 results_cell_row h tmps w g t cs.toArray (0, 0) d hp hg hu hd (by simpa using hi)
theorem zb9 (a : Nat) (h : a < 18446744073709551616) (w : World) : Calls Tryz.prog 161 #[.int .u64 (a : Int)] w fun e w' => e = .returned (.int .u64 (YI a : Nat)) /\ w' = w := by
 have hun : ∀ w, (Op.unary .neg (.float .f64 (yT a))).run Tryz.prog w = .ok (.float .f64 (yT a ^^^ 9223372036854775808)) w := fun w => rfl
 go_enter Tryz.func161, Tryz.ntmps161
 go_wp2_with fail
 refine (Kj a _).mono ?_
 rintro e w1 ⟨rfl, rfl⟩
 go_wp2_with fail
 refine (Xx (yT a ^^^ 9223372036854775808) _).mono ?_
 rintro e w1 ⟨rfl, rfl⟩
 rw [zc7 a h]
 go_wp2
 go_ret
 exact ⟨rfl, rfl⟩
section
open Ieee
theorem zah {b : Nat} (hn : zX b = false) (h : (val b).natAbs < TOP) : ∃ s m e, D.read b = .number s m e /\ -1074 <= e /\ val b = signed s m (e + 1074).toNat /\ (val b).natAbs = m * pw (e + 1074).toNat := by
 rcases Xh hn with ⟨s, m, e, hr⟩ | ⟨s, hr⟩
 ·have hv : val b = signed s m (e + 1074).toNat := by unfold val; rw [hr]; rfl
  refine ⟨s, m, e, hr, (ZY hr).2.2.1, hv, ?_⟩
  rw [hv, Za]
  cases s
  ·simp only [ZV, if_false, Int.natAbs_natCast]
  ·simp only [if_true, Int.natAbs_neg, Int.natAbs_natCast]
 ·exfalso
  have hv : val b = if s then -(TOP : Int) else (TOP : Int) := by unfold val; rw [hr]; rfl
  rw [hv] at h
  cases s <;> simp only [ZV, if_false, if_true] at h <;> omega
def U : Nat := pw 1074
theorem zhd : 0 < U := ZZ _
theorem zhc (z : Nat) (hz : z <= 18446744073709551616) : z * U < TOP := by
 have h64 : (18446744073709551616 : Nat) = pw 64 := rfl
 have h1 : z * pw 1074 <= pw 64 * pw 1074 := Nat.mul_le_mul_right _ (by rw [<- h64]; exact hz)
 rw [<- yQ] at h1
 have h2 : pw (64 + 1074) < pw 2200 := zd6 (by decide)
 have h3 : U = pw 1074 := rfl
 have h4 : TOP = pw 2200 := rfl
 rw [h3, h4]
 generalize pw (64 + 1074) = A at h1 h2
 generalize pw 2200 = B at h2 ⊢
 generalize z * pw 1074 = C at h1 ⊢
 clear h3 h4 h64
 omega
def Whole (b : Nat) (z : Int) : Prop := zX b = false /\ val b = z * (U : Int)
theorem Whole.abs {b : Nat} {z : Int} (h : Whole b z) : (val b).natAbs = z.natAbs * U := by rw [h.2, Int.natAbs_mul, Int.natAbs_natCast]
theorem Whole.top {b : Nat} {z : Int} (h : Whole b z) (hz : z.natAbs <= 18446744073709551616) : (val b).natAbs < TOP := by rw [h.abs]; exact zhc _ hz
theorem jY (s : Bool) (z : Int) (X : Nat) (hX : X = z.natAbs * U) (hs : z ≠ 0 -> s = decide (z < 0)) : (if s then -(X : Int) else (X : Int)) = z * (U : Int) := by
 rw [hX]
 clear hX
 generalize U = K
 by_cases hz : z = 0
 ·rw [hz]; cases s <;> simp
 ·rw [hs hz]
  have e : ((z.natAbs * K : Nat) : Int) = (z.natAbs : Int) * (K : Int) := by simp
  by_cases h : z < 0
  ·rw [yy h, zi rfl, e, show (z.natAbs : Int) = -z by omega, Int.neg_mul, Int.neg_neg]
  ·rw [zN h, e, show (z.natAbs : Int) = z by omega]; simp
theorem K8 (s : Bool) (z : Int) (hz : z.natAbs <= 9007199254740992) (hs : z ≠ 0 -> s = decide (z < 0)) : Whole (D.nearest s z.natAbs 0) z := by
 refine ⟨Xa _ _ _, ?_⟩
 by_cases h0 : z.natAbs = 0
 ·have hz0 : z = 0 := by omega
  rw [h0, hz0]
  have : D.nearest s 0 0 = D.word s 0 := by unfold Format.nearest; rw [zi rfl]
  rw [this, Int.zero_mul]
  cases s
  ·decide +kernel
  ·decide +kernel
 ·have hlog : z.natAbs.log2 <= 53 := by
   have := (Nat.log2_lt h0 (k := 54)).2 (by omega)
   omega
  obtain ⟨m, e, hr, hm⟩ := VV s z.natAbs 0 h0 (by omega)
  have hv : val (D.nearest s z.natAbs 0) = signed s m (e + 1074).toNat := by unfold val; rw [hr]; rfl
  rw [hv, Za, hm]
  apply jY s z _ _ hs
  by_cases h53 : z.natAbs.log2 = 53
  ·have hz2 : z.natAbs = 9007199254740992 := by
    have := (Y2 _ h0).1
    rw [h53] at this
    have e53 : pw 53 = 9007199254740992 := rfl
    omega
   have hl : yw z.natAbs 0 = 1 := by unfold yw; omega
   unfold Y9
   rw [hl, hz2]
   have e1 : rne (9007199254740992 * pw (0 - 1 : Int).toNat) (1 - 0 : Int).toNat = 4503599627370496 := by decide
   rw [e1, show ((1 : Int) + 1074).toNat = 1 + 1074 from rfl, yQ, <- Nat.mul_assoc, show 4503599627370496 * pw 1 = 9007199254740992 from rfl]
   unfold U
   rfl
  ·have hl : yw z.natAbs 0 <= 0 /\ -1074 <= yw z.natAbs 0 := by unfold yw; omega
   unfold Y9
   rw [show (yw z.natAbs 0 - 0).toNat = 0 by omega, zad, Nat.mul_assoc, <- yQ]
   unfold U
   congr 2
   omega
theorem JB (z : Int) (hz : z.natAbs <= 9007199254740992) : Whole (JC z) z := K8 _ z hz (fun _ => rfl)
end
theorem sA {α : Type} (l : List α) (i : Nat) (a : α) : l.toArray.setIfInBounds i a = (l.set i a).toArray := List.setIfInBounds_toArray ..
theorem sB {α : Type} (x : α) (l : List α) (a : α) : (x :: l).set 0 a = a :: l := rfl
theorem sC {α : Type} (x : α) (l : List α) (n : Nat) (a : α) : (x :: l).set (n + 1) a = x :: l.set n a := rfl
section
variable {P : Program} {ops : Array Oper} {Q : Exit -> Act -> World -> Prop} {md : Region.Mode} {S : World -> Prop}
/-- One that is wanted comes first. -/
theorem tY (i : Nat) (v : Value) {oi : Oper} {fuel : Nat} {listed : Array Bool} {a : Act} {w : World} (hi : ops[i]? = some oi) (hS : S w) (hy : ∀ w, S w -> (execOp a.eval oi).run P w = .ok (.value v) w)
    (h : wpAnyH P md ops Q S fuel (listed.setIfInBounds i true) (a.put oi.dst v) w) (hs : Region.noSelect ops = true := by kernel_rfl) (hf : Region.free md ops listed i = true := by kernel_rfl) (hr : (Region.ready md ops listed).contains i = true := by kernel_rfl)
    (hQ : ∀ c a w, Q (.panic c) (a.put oi.dst v) w -> Q (.panic c) a w := by exact fun _ _ _ h => h) (hw : Region.wanted oi (yielded ops a.tmps) = true := by rfl) : wpAnyH P md ops Q S (fuel + 1) listed a w :=
  wpAnyH_take hi hs hf hr hQ (.inl ⟨hw, hy⟩) hS h
/-- One that is not wanted. -/
theorem tN (i : Nat) {oi : Oper} {fuel : Nat} {listed : Array Bool} {a : Act} {w : World} (hi : ops[i]? = some oi) (hS : S w)
    (h : wpAnyH P md ops Q S fuel (listed.setIfInBounds i true) (a.put oi.dst undef) w) (hs : Region.noSelect ops = true := by kernel_rfl) (hf : Region.free md ops listed i = true := by kernel_rfl) (hr : (Region.ready md ops listed).contains i = true := by kernel_rfl)
    (hQ : ∀ c a w, Q (.panic c) (a.put oi.dst undef) w -> Q (.panic c) a w := by exact fun _ _ _ h => h) (hw : Region.wanted oi (yielded ops a.tmps) = false := by rfl) : wpAnyH P md ops Q S (fuel + 1) listed a w :=
  wpAnyH_take hi hs hf hr hQ (.inr ⟨hw, rfl⟩) hS h
/-- May so many be passed by, one behind the other? -/
def zgj (md : Region.Mode) (ops : Array Oper) : List (Nat × Nat) -> Array Bool -> Act -> Bool
  | [], _, _ => true
  | p :: r, L, a => match ops[p.1]? with
    | none => false
    | some oi => decide (oi.dst = some p.2) && (Region.free md ops L p.1 && ((Region.ready md ops L).contains p.1 && (!(Region.wanted oi (yielded ops a.tmps)) && zgj md ops r (L.setIfInBounds p.1 true) (a.put (some p.2) undef))))
theorem tNs (n : Nat) (l : List (Nat × Nat)) {fuel : Nat} {L : Array Bool} {a : Act} {w : World} (hS : S w)
    (h : wpAnyH P md ops Q S fuel (l.foldl (fun L p => L.setIfInBounds p.1 true) L) (l.foldl (fun a p => a.put (some p.2) undef) a) w) (hs : Region.noSelect ops = true := by kernel_rfl) (hk : zgj md ops l L a = true := by kernel_rfl) (hn : l.length = n := by rfl)
    (hQ : ∀ (d : Nat) c a w, Q (.panic c) (a.put (some d) undef) w -> Q (.panic c) a w := by exact fun _ _ _ _ h => h) : wpAnyH P md ops Q S (fuel + n) L a w := by
  subst hn
  induction l generalizing L a with
  | nil => exact h
  | cons p r ih =>
    unfold zgj at hk
    split at hk
    · cases hk
    · next oi hi =>
      simp only [yX, Yz, Bool.not_eq_true'] at hk
      obtain ⟨h1, h2, h3, h4, h5⟩ := hk
      refine wpAnyH_take (i := p.1) (v := undef) hi hs h2 h3 (by rw [h1]; exact hQ p.2) (.inr ⟨h4, rfl⟩) hS ?_
      rw [h1]
      exact ih h h5
end
section
variable {P : Program} {ops : Array Oper} {rest : List Oper} {o : Oper} {a : Act} {w : World} {Q : Exit -> Act -> World -> Prop}
/-- A variable is made. -/
theorem aL {t : TypeId} {cs : List Value} {n : Nat} (hgd : o.guard = none) (ho : o.op = .alloc t) (hz : (P.info? t).map (fun i => (i.zero, i.size)) = some (some (.agg cs.toArray), n))
    (h : ∀ w', At t w' w.heap.size cs -> Below w.heap.size w w' -> wpList P ops Q rest (a.put o.dst (.pointer (some ⟨w.heap.size, 0, none⟩))) w') : wpList P ops Q (o :: rest) a w :=
  Xz hgd t ho cs n hz fun w' h1 h2 _ => h w' h1 h2
/-- A whole block is stored. -/
theorem sL {ty t : TypeId} {x y : Operand} {g : Nat} {old : List Value} (hgd : o.guard = none) (ho : o.op = .store ty x y) (hg : At t w g old) (cs : List Value) (hx : a.eval x = .pointer (some ⟨g, 0, none⟩)) (hy : a.eval y = .agg cs.toArray)
    (hi : (P.info? ty).map (·.size) = some cs.length) (hold : old.length = cs.length) (h1 : ∀ v ∈ cs, v.oneCell' = true) (h : ∀ w', At t w' g cs -> But g w w' -> wpList P ops Q rest (a.put o.dst undef) w') : wpList P ops Q (o :: rest) a w :=
  Zw hgd ty x y ho g cs hx hy t old hg hi hold h1 fun w' h2 h3 _ => h w' h2 h3
/-- A whole block is read. -/
theorem lL {ty t : TypeId} {x : Operand} {g : Nat} {cs : List Value} {d : TypeDesc} (hgd : o.guard = none) (ho : o.op = .load ty x) (hg : At t w g cs) (hx : a.eval x = .pointer (some ⟨g, 0, none⟩))
    (hu : P.underlying ty = some d) (hd : (match d with | .struct _ | .array _ _ => true | _ => false) = true) (hi : (P.info? ty).map (·.size) = some cs.length)
    (h : wpList P ops Q rest (a.put o.dst (.agg cs.toArray)) w) : wpList P ops Q (o :: rest) a w :=
  J6 hgd ty x ho g hx t cs hg d hu hd hi h
end
section
variable {P : Program} {ops : Array Oper} {rest : List Oper} {o : Oper} {a : Act} {w : World} {Q : Exit -> Act -> World -> Prop}
theorem zl {ty t : TypeId} {x y : Operand} {g : Nat} {old : List Value} (hgd : o.guard = none) (ho : o.op = .store ty x y) (hg : At t w g old) (cs : List Value) (hx : a.eval x = .pointer (some ⟨g, 0, none⟩)) (hy : a.eval y = .agg cs.toArray)
    (hi : (P.info? ty).map (·.size) = some cs.length) (hold : old.length = cs.length) (h1 : ∀ v ∈ cs, v.oneCell' = true) (h : ∀ w', At t w' g cs -> But g w w' -> w'.heap.size = w.heap.size -> wpList P ops Q rest (a.put o.dst undef) w') : wpList P ops Q (o :: rest) a w :=
  Zw hgd ty x y ho g cs hx hy t old hg hi hold h1 h
theorem yV {ty t : TypeId} {x y : Operand} {g : Nat} {old : List Value} (hgd : o.guard = none) (ho : o.op = .store ty x y) (hg : At t w g old) (off : Nat) (v0 v1 : Value) (hx : a.eval x = .pointer (some ⟨g, off, none⟩)) (hy : a.eval y = .agg [v0, v1].toArray)
    (hi : (P.info? ty).map (·.size) = some 2) (h1 : ∀ v ∈ [v0, v1], v.oneCell' = true) (h : ∀ w', At t w' g ((old.set off v0).set (off + 1) v1) -> But g w w' -> w'.heap.size = w.heap.size -> wpList P ops Q rest (a.put o.dst undef) w') (hl : Nat.ble (off + 2) old.length = true := by rfl) : wpList P ops Q (o :: rest) a w :=
  V7 hgd ty x y ho g off v0 v1 hx hy t old hg (Nat.le_of_ble_eq_true hl) hi h1 h
theorem zeS {t : TypeId} {x : Operand} (hgd : o.guard = none) (ho : o.op = .box t x) (cs : List Value) (hx : a.eval x = .agg cs.toArray)
    (h : ∀ w', At t w' w.heap.size cs -> Below w.heap.size w w' -> w'.heap.size = w.heap.size + 1 -> wpList P ops Q rest (a.put o.dst (.pointer (some ⟨w.heap.size, 0, none⟩))) w') : wpList P ops Q (o :: rest) a w :=
  Vd hgd t x ho cs hx h
theorem yF {t : TypeId} {x : Operand} (hgd : o.guard = none) (ho : o.op = .box t x) (cs : List Value) (hx : a.eval x = .agg cs.toArray)
    (h : ∀ w', At t w' w.heap.size cs -> Below w.heap.size w w' -> wpList P ops Q rest (a.put o.dst (.pointer (some ⟨w.heap.size, 0, none⟩))) w') : wpList P ops Q (o :: rest) a w :=
  Vd hgd t x ho cs hx fun w' h1 h2 _ => h w' h1 h2
theorem zD {t : TypeId} {cs : List Value} {n : Nat} (hgd : o.guard = none) (ho : o.op = .alloc t) (hz : (P.info? t).map (fun i => (i.zero, i.size)) = some (some (.agg cs.toArray), n))
    (h : ∀ w', At t w' w.heap.size cs -> Below w.heap.size w w' -> w'.heap.size = w.heap.size + 1 -> wpList P ops Q rest (a.put o.dst (.pointer (some ⟨w.heap.size, 0, none⟩))) w') : wpList P ops Q (o :: rest) a w :=
  Xz hgd t ho cs n hz h
theorem zF {t : TypeId} {parts : Array (Nat × Operand)} (hgd : o.guard = none) (ho : o.op = .build t parts) (cs : List Value)
    (h : wpList P ops Q rest (a.put o.dst (.agg cs.toArray)) w) (hb : P.built t (parts.map fun (i, x) => (i, a.eval x)).toList = some cs.toArray := by kernel_rfl) : wpList P ops Q (o :: rest) a w :=
  zg hgd t parts ho cs hb h
end
structure Wr (B g : Nat) (w w' : World) : Prop where
 os : w'.os = w.os
 tape : w'.tape = w.tape
 output : w'.output = w.output
 size : w.heap.size <= w'.heap.size
 block : ∀ k, k < w.heap.size -> k ≠ g -> (k < B \/ ∀ cs fr, w.heap[k]? ≠ some (.cells cs 5 fr)) -> w'.heap[k]? = w.heap[k]?
theorem Wr.refl (B g : Nat) (w : World) : Wr B g w w := ⟨rfl, rfl, rfl, zj _, fun _ _ _ _ => rfl⟩
theorem Wr.trans {B g : Nat} {a b c : World} (h : Wr B g a b) (k : Wr B g b c) : Wr B g a c :=
 ⟨k.os.trans h.os, k.tape.trans h.tape, k.output.trans h.output, zQ h.size k.size, fun i hi hn ht => by
  have e := h.block i hi hn ht
  rw [k.block i (Zy hi h.size) hn ?_, e]
  rcases ht with ht | ht
  ·exact .inl ht
  ·exact .inr fun cs fr hx => ht cs fr (by rw [<- e]; exact hx)⟩
theorem Wr.of_below {B g : Nat} {w w' : World} (h : Below w.heap.size w w') : Wr B g w w' := ⟨h.os, h.tape, h.output, h.size, fun k hk _ _ => h.block k hk⟩
theorem Wr.at {B g t k : Nat} {w w' : World} {cs : List Value} (h : Wr B g w w') (ha : At t w k cs) (hn : k ≠ g) (ht : t ≠ 5) : At t w' k cs := by
 have hx : w.heap[k]? = _ := ha
 unfold At
 rw [h.block k ha.lt hn (.inr fun cs fr he => by rw [hx] at he; injection he with he; injection he with _ h2; exact ht h2)]
 exact ha
theorem Wr.below {B g : Nat} {w w' : World} (h : Wr B g w w') (hB : B <= g) (hw : B <= w.heap.size) : Below B w w' :=
 ⟨h.os, h.tape, h.output, h.size, fun k hk => h.block k (by omega) (by omega) (.inl hk)⟩
def Raw (B : Nat) (w : World) (g : Nat) (m : Nat) (bs : List UInt8) : Prop :=
 B <= g /\ ∃ p v, (p = .pointer none \/ p = .pointer (some ⟨g, 0, none⟩)) /\ At 88 w g [p, v, .int .i64 (m : Int)] /\ w.ownsRow B 5 1 v bs.length (Lib.byteCells bs) /\ v.ownBlock ≠ some g
theorem qe {B g t n : Nat} {w : World} {v : Value} {xs cs : List Value} (h : w.ownsRow B 5 1 v n xs) (hg : At t w g cs) (ht : t ≠ 5) : v.ownBlock ≠ some g := by
 obtain ⟨_, ⟨rfl, _⟩ | ⟨k, cap, cur, rfl, _, hk, _⟩⟩ := h
 ·simp [Value.ownBlock]
 ·simp only [Value.ownBlock]
  intro e
  injection e with e
  subst e
  have hx : w.heap[k]? = _ := hg
  rw [hk] at hx
  injection hx with hx
  injection hx with _ h2
  exact ht h2.symm
theorem Raw.new {w : World} {g m B : Nat} (hB : B <= g) (h : At 88 w g [.pointer none, .slice none 0 0, .int .i64 (m : Int)]) : Raw B w g m [] :=
 ⟨hB, .pointer none, .slice none 0 0, .inl rfl, h, ⟨rfl, .inl ⟨rfl, rfl⟩⟩, by simp [Value.ownBlock]⟩
theorem Raw.lt {B g m : Nat} {w : World} {bs : List UInt8} (h : Raw B w g m bs) : g < w.heap.size := by
 obtain ⟨_, p, v, _, ha, _⟩ := h
 exact ha.lt
theorem Raw.below {B g m : Nat} {w w' : World} {bs : List UInt8} (h : Raw B w g m bs) (hb : Below w.heap.size w w') : Raw B w' g m bs := by
 obtain ⟨hB, p, v, hp, ha, hown, hne⟩ := h
 refine ⟨hB, p, v, hp, ha.below hb, ?_, hne⟩
 obtain ⟨h1, h2 | ⟨k, cap, cur, rfl, hk, hh, hr⟩⟩ := hown
 ·exact ⟨h1, .inl h2⟩
 ·have hlt : k < w.heap.size := by
   rcases Nat.lt_or_ge k w.heap.size with hlt | hge
   ·exact hlt
   ·rw [Array.getElem?_eq_none hge] at hh; simp at hh
  exact ⟨h1, .inr ⟨k, cap, cur, rfl, hk, by rw [hb.block k hlt]; exact hh, hr⟩⟩
theorem zgY : (Tryz.prog.info? 86).map (·.size) = some 2 := by kernel_rfl
theorem zgA : liesAt Tryz.prog Tryz.prog.depth 88 (3 / Tryz.prog.cellsOf 88) 0 86 1 = true := by kernel_rfl
theorem At.shape {t : TypeId} {w : World} {g : Nat} {cs : List Value} (h : At t w g cs) : w.shape? g = some (t, cs.length) := by
 simp [World.shape?, show w.heap[g]? = _ from h]
theorem KH (b : Nat) (w : World) (h0 : w.cell? ⟨b, 0, none⟩ = some (.pointer (some ⟨b, 0, none⟩))) :
  Calls Tryz.prog 152 #[.pointer (some ⟨b, 0, none⟩)] w fun e w' => e = .returned (.tuple #[]) /\ w' = w := by
 obtain ⟨j, hj, _⟩ := Option.map_eq_some_iff.1 zgY
 go_enter Tryz.func152, Tryz.ntmps152
 go_wp2
 rw [Lib.run_neq_ptr_same w _ Tryz.underlying83 hj]
 go_wp2
 go_end0
 exact ⟨rfl, rfl⟩
theorem JV (b : Nat) (v x : Value) (w : World) (hA : At 88 w b [.pointer none, v, x]) :
  Calls Tryz.prog 152 #[.pointer (some ⟨b, 0, none⟩)] w fun e w' => e = .returned (.tuple #[]) /\ At 88 w' b [.pointer (some ⟨b, 0, none⟩), v, x] /\ But b w w' /\ w'.heap.size = w.heap.size := by
 obtain ⟨j, hj, hjs⟩ := Option.map_eq_some_iff.1 zgY
 have h0 : w.cell? ⟨b, 0, none⟩ = some (.pointer none) := by rw [hA.cell]; rfl
 have hsh := hA.shape
 have hfz := hA.frozen 0
 go_enter Tryz.func152, Tryz.ntmps152
 go_wp2
 rw [Lib.run_to_unsafe w ⟨b, 0, none⟩ Tryz.underlying83 Tryz.underlying194 hj (by rw [hjs]; decide) hsh (Nat.zero_lt_succ 2)]
 simp only [Result.andThen]
 rw [Oper.upon_value]
 go_wp2
 rw [run_callFunc_extern Tryz.func180 (by kernel_rfl) (by kernel_rfl) (by kernel_rfl) (e := Extern.AbiNoEscape.same) (by kernel_rfl)]
 rw [Lib.run_noEscape]
 simp only [Result.andThen]
 rw [Oper.upon_value]
 go_wp2
 rw [Lib.run_from_unsafe w ⟨b, 0, none⟩ Tryz.underlying194 Tryz.underlying83 hj hsh zgA]
 simp only [Result.andThen]
 rw [Oper.upon_value]
 go_wp2
 go_end0
 exact ⟨rfl, hA.set 0 _, (But.refl b w).setCell 0 _, by simp⟩
theorem zao {B g n : Nat} {w w' : World} {v : Value} {xs : List Value} (h : w.ownsRow B 5 1 v n xs) (hb : But g w w') (hn : v.ownBlock ≠ some g) : w'.ownsRow B 5 1 v n xs := by
 obtain ⟨h1, h2 | ⟨k, cap, cur, rfl, hk, hh, hr⟩⟩ := h
 ·exact ⟨h1, .inl h2⟩
 ·have hlt : k < w.heap.size := by
   rcases Nat.lt_or_ge k w.heap.size with hlt | hge
   ·exact hlt
   ·rw [Array.getElem?_eq_none hge] at hh; simp at hh
  exact ⟨h1, .inr ⟨k, cap, cur, rfl, hk, by rw [hb.block k hlt (by intro e; apply hn; simp [Value.ownBlock, e])]; exact hh, hr⟩⟩
theorem Wr.of_but {B g : Nat} {w w' : World} (h : But g w w') : Wr B g w w' := ⟨h.os, h.tape, h.output, h.size, fun k hk hn _ => h.block k hk hn⟩
theorem jd (B g m : Nat) (bs : List UInt8) (w : World) (h : Raw B w g m bs) :
  Calls Tryz.prog 152 #[.pointer (some ⟨g, 0, none⟩)] w fun e w' => e = .returned (.tuple #[]) /\ (∃ v, At 88 w' g [.pointer (some ⟨g, 0, none⟩), v, .int .i64 (m : Int)] /\ w'.ownsRow B 5 1 v bs.length (Lib.byteCells bs) /\ v.ownBlock ≠ some g) /\ Wr B g w w' /\ w'.heap.size = w.heap.size := by
 obtain ⟨hB, p, v, rfl | rfl, ha, hown, hne⟩ := h
 ·refine (JV g v _ w ha).mono ?_
  rintro e w' ⟨rfl, h1, h2, h3⟩
  exact ⟨rfl, ⟨v, h1, zao hown h2 hne, hne⟩, Wr.of_but h2, h3⟩
 ·refine (KH g w (by rw [ha.cell]; rfl)).mono ?_
  rintro e w' ⟨rfl, rfl⟩
  exact ⟨rfl, ⟨v, ha, hown, hne⟩, Wr.refl _ _ _, rfl⟩
theorem zfB (B g m : Nat) (bs : List UInt8) (w : World) (h : Raw B w g m bs) :
  Calls Tryz.prog 45 #[.pointer (some ⟨g, 0, none⟩)] w fun e w' => e = .returned (.int .i64 (bs.length : Int)) /\ w' = w := by
 obtain ⟨hB, p, v, hp, ha, hown, hne⟩ := h
 obtain ⟨ao, cap, rfl⟩ : ∃ ao cap, v = .slice ao bs.length cap := by
  rcases hown.2 with ⟨hv, h0⟩ | ⟨k, cap, cur, hv, _⟩
  ·exact ⟨none, 0, by rw [hv, h0]⟩
  ·exact ⟨_, _, hv⟩
 have c1 : w.cell? ⟨g, 1, none⟩ = some (.slice ao bs.length cap) := by rw [ha.cell]; rfl
 clear hown ha hne
 go_enter Tryz.func45, Tryz.ntmps45
 go_wp2
 go_ret
 exact ⟨rfl, rfl⟩
theorem zcA (B g m : Nat) (bs : List UInt8) (s : ByteArray) (w : World) (h : Raw B w g m bs) (hlen : bs.length + s.size <= 140737488355328) (hBw : B <= w.heap.size) :
  Calls Tryz.prog 116 #[.pointer (some ⟨g, 0, none⟩), .string s] w fun e w' => e = .returned (.tuple #[.int .i64 s.size, .nilIface]) /\ Raw B w' g m (bs ++ s.data.toList) /\ Wr B g w w' := by
 obtain ⟨i0, hi, hz0, hz1, hz2⟩ := info_parts Tryz.info5
 have hB := h.1
 have hck := jd B g m bs w h
 go_enter Tryz.func116, Tryz.ntmps116
 go_wp2_with fail
 refine hck.mono ?_
 rintro e w1 ⟨rfl, ⟨v, ha, hown, hne⟩, hwr, hsz⟩
 have c0 : w1.cell? ⟨g, 0, none⟩ = some (.pointer (some ⟨g, 0, none⟩)) := by rw [ha.cell]; rfl
 have c1 : w1.cell? ⟨g, 1, none⟩ = some v := by rw [ha.cell]; rfl
 go_wp2_with (at_builtin; refine Lib.wpList_append_own_string _ rfl _ _ 84 9 rfl B 5 i0 Tryz.underlying84 Tryz.underlying9 hi hz0 hz1 hz2 _ _ _ rfl hown s rfl ?c3 ?c4 ?c5 ?_)
 case c3 => unfold maxLen; omega
 case c4 => omega
 case c5 => omega
 intro v' w2 hown' hgrow _
 have hlt : g < w1.heap.size := ha.lt
 have hb2 : At 88 w2 g [.pointer (some ⟨g, 0, none⟩), v, .int .i64 (m : Int)] := by
  unfold At
  rw [hgrow.block g hlt (fun e => hne e.symm)]
  exact ha
 have d0 : w2.cell? ⟨g, 0, none⟩ = some (.pointer (some ⟨g, 0, none⟩)) := by rw [hb2.cell]; rfl
 have d1 : w2.cell? ⟨g, 1, none⟩ = some v := by rw [hb2.cell]; rfl
 have f1 : w2.frozen? ⟨g, 1, none⟩ = false := hb2.frozen 1
 have hne' := qe hown' hb2 (by decide)
 have hw2 : Wr B g w1 w2 := ⟨hgrow.os, hgrow.tape, hgrow.output, hgrow.size, fun k hk hn ht => hgrow.block k hk (by
  intro e
  obtain ⟨_, ⟨rfl, _⟩ | ⟨q, cap, cur, rfl, hq, hh, _⟩⟩ := hown
  ·simp [Value.ownBlock] at e
  ·simp only [Value.ownBlock] at e
   injection e with e
   subst e
   rcases ht with ht | ht
   ·omega
   ·exact ht _ _ hh)⟩
 have hfin : ∀ v'', v'' = v' -> Raw B (w2.setCell ⟨g, 1, none⟩ v'') g m (bs ++ s.data.toList) /\ Wr B g w (w2.setCell ⟨g, 1, none⟩ v'') := by
  rintro v'' rfl
  have hbut : But g w2 (w2.setCell ⟨g, 1, none⟩ v'') := (But.refl g w2).setCell 1 _
  refine ⟨⟨hB, .pointer (some ⟨g, 0, none⟩), v'', .inr rfl, hb2.set 1 v'', ?_, hne'⟩, (hwr.trans hw2).trans (Wr.of_but hbut)⟩
  have := zao hown' hbut hne'
  rw [Lib.byteCells_append, yN, <- Lib.strCells_eq]
  simpa using this
 obtain ⟨ao, n', cap, rfl⟩ : ∃ ao n' cap, v' = .slice ao n' cap := by
  rcases hown'.2 with ⟨hv, _⟩ | ⟨q, cap, cur, hv, _⟩
  ·exact ⟨_, _, _, hv⟩
  ·exact ⟨_, _, _, hv⟩
 have HF : Hid (∀ v'', v'' = .slice ao n' cap -> Raw B (w2.setCell ⟨g, 1, none⟩ v'') g m (bs ++ s.data.toList) /\ Wr B g w (w2.setCell ⟨g, 1, none⟩ v'')) := hfin
 clear hfin hown hown' hgrow hb2 ha hwr hw2 hne hne'
 go_wp2
 go_ret2
 exact ⟨rfl, HF.out _ rfl⟩
theorem jP (W : World) (q : Option Addr) : (Builtin.unsafeString_ #[119, 3] 9 #[.pointer q, .int .i64 0]).run Tryz.prog W = .ok (.string .empty) W :=
 Lib.run_unsafeString_none W _ _ _ q
theorem zbb (B g : Nat) (p x : Value) (w : World) (ha : At 88 w g [p, .slice none 0 0, x]) :
  Calls Tryz.prog 46 #[.pointer (some ⟨g, 0, none⟩)] w fun e w' => e = .returned (.string ⟨#[]⟩) /\ Below B w w' := by
 have hUS := jP
 have c1 : w.drew.cell? ⟨g, 1, none⟩ = some (.slice none 0 0) := by rw [ha.drew.cell]; rfl
 have hSD : (Builtin.unsafeSliceData_ #[84] 119 #[.slice none 0 0]).run Tryz.prog w.drew = .ok (.pointer none) w.drew := Lib.run_unsafeSliceData_nil _ _ _ _ _
 clear ha
 go_enter Tryz.func46, Tryz.ntmps46
 go_wp2
 go_region
 all_goals (go_wp2; go_ret; exact ⟨rfl, Below.drew (Below.refl B w)⟩)
theorem qV (B g k cap : Nat) (p x : Value) (w : World) (hc0 : cap ≠ 0) (ha : At 88 w g [p, .slice (some ⟨k, 0, none⟩) 0 cap, x]) :
  Calls Tryz.prog 46 #[.pointer (some ⟨g, 0, none⟩)] w fun e w' => e = .returned (.string ⟨#[]⟩) /\ Below B w w' := by
 have hUS := jP
 have c1 : w.drew.cell? ⟨g, 1, none⟩ = some (.slice (some ⟨k, 0, none⟩) 0 cap) := by rw [ha.drew.cell]; rfl
 have hSD : (Builtin.unsafeSliceData_ #[84] 119 #[.slice (some ⟨k, 0, none⟩) 0 cap]).run Tryz.prog w.drew = .ok (.pointer (some ⟨k, 0, none⟩)) w.drew := Lib.run_unsafeSliceData_row _ _ _ _ _ _ hc0
 clear ha hc0
 go_enter Tryz.func46, Tryz.ntmps46
 go_wp2
 go_region
 all_goals (go_wp2; go_ret; exact ⟨rfl, Below.drew (Below.refl B w)⟩)
theorem KT (B g k : Nat) (p x : Value) (cur : Array Value) (w : World) (hBw : B <= w.heap.size) (ha : At 88 w g [p, .slice (some ⟨k, 0, none⟩) 0 0, x]) (hg : w.heap[k]? = some (.cells cur 5 (0, 0))) :
  Calls Tryz.prog 46 #[.pointer (some ⟨g, 0, none⟩)] w fun e w' => e = .returned (.string ⟨#[]⟩) /\ Below B w w' := by
 have hUS := jP
 have hlt : g < w.heap.size := ha.lt
 have c1 : w.drew.cell? ⟨g, 1, none⟩ = some (.slice (some ⟨k, 0, none⟩) 0 0) := by rw [ha.drew.cell]; rfl
 have hSD : (Builtin.unsafeSliceData_ #[84] 119 #[.slice (some ⟨k, 0, none⟩) 0 0]).run Tryz.prog w.drew = .ok (.pointer (some ⟨w.drew.heap.size, 0, none⟩)) (w.drew.alloc (.view ⟨k, 0, none⟩ 5)) :=
  Lib.run_unsafeSliceData_zero w.drew _ _ 5 Tryz.underlying119 ⟨k, 0, none⟩ 0 (5, cur.size) (by have hg' : w.drew.heap[k]? = some (.cells cur 5 (0, 0)) := hg; simp [World.shape?, hg'])
 have c2 : (w.drew.alloc (.view ⟨k, 0, none⟩ 5)).cell? ⟨g, 1, none⟩ = some (.slice (some ⟨k, 0, none⟩) 0 0) := by
  have : (w.drew.alloc (.view ⟨k, 0, none⟩ 5)).heap[g]? = _ := (Lib.alloc_old w.drew _ g hlt).trans ha
  rw [Lib.cell_of_heap this]; rfl
 have c3 : (w.alloc (.view ⟨k, 0, none⟩ 5)).drew.cell? ⟨g, 1, none⟩ = some (.slice (some ⟨k, 0, none⟩) 0 0) := c2
 have c0 : w.cell? ⟨g, 1, none⟩ = some (.slice (some ⟨k, 0, none⟩) 0 0) := c1
 clear ha hg hlt
 go_enter Tryz.func46, Tryz.ntmps46
 go_wp2
 go_region
 all_goals (go_wp2; go_ret; exact ⟨rfl, (Below.drew (Below.refl B w)).alloc hBw _⟩)
theorem qU (B g m : Nat) (l : List UInt8) (w : World) (h : Raw B w g m l) (h0 : l ≠ []) :
  Calls Tryz.prog 46 #[.pointer (some ⟨g, 0, none⟩)] w fun e w' => e = .returned (.string ⟨l.toArray⟩) /\ Below B w w' := by
 obtain ⟨hB, p, v, _, ha, hown, hne⟩ := h
 have hl0 : l.length ≠ 0 := by simpa using h0
 obtain ⟨k, cap, cur, rfl, hbg, hg, hnc, hcm, hcs, htake⟩ : ∃ k cap cur, v = .slice (some ⟨k, 0, none⟩) l.length cap /\ B <= k /\ w.heap[k]? = some (.cells cur 5 (0, 0)) /\ l.length <= cap /\ cap <= maxLen /\ cur.size = cap * 1 /\ cur.toList.take (l.length * 1) = Lib.byteCells l := by
  rcases hown.2 with ⟨_, hz⟩ | ⟨k, cap, cur, hv, r⟩
  ·exact absurd hz hl0
  ·exact ⟨k, cap, cur, hv, r⟩
 have c1 : w.drew.cell? ⟨g, 1, none⟩ = some (.slice (some ⟨k, 0, none⟩) l.length cap) := by rw [ha.drew.cell]; rfl
 have hSD : (Builtin.unsafeSliceData_ #[84] 119 #[.slice (some ⟨k, 0, none⟩) l.length cap]).run Tryz.prog w.drew = .ok (.pointer (some ⟨k, 0, none⟩)) w.drew :=
  Lib.run_unsafeSliceData_row _ _ _ _ _ _ (by omega)
 have hUS : (Builtin.unsafeString_ #[119, 3] 9 #[.pointer (some ⟨k, 0, none⟩), .int .i64 l.length]).run Tryz.prog w.drew = .ok (.string ⟨l.toArray⟩) (w.drew.freeze ⟨k, 0, none⟩ l.length) := by
  refine Lib.run_unsafeString_row w.drew 119 3 9 5 Tryz.underlying119 (by kernel_rfl) k cur.size (by have hg' : w.drew.heap[k]? = some (.cells cur 5 (0, 0)) := hg; simp [World.shape?, hg']) l h0 (by omega) (by unfold maxLen at hcm; omega) ?_
  intro j x hx
  exact hown.cells (g := k) rfl j (.int .u8 x.toNat) (by simp [Lib.byteCells, hx])
 clear hown ha hg htake hcs
 go_enter Tryz.func46, Tryz.ntmps46
 go_wp2
 go_region
 all_goals (go_wp2; go_ret; exact ⟨rfl, Lib.below_freeze (Below.drew (Below.refl B w)) (p := ⟨k, 0, none⟩) hbg _⟩)
theorem zbc (B g m : Nat) (l : List UInt8) (w : World) (h : Raw B w g m l) (hBw : B <= w.heap.size) :
  Calls Tryz.prog 46 #[.pointer (some ⟨g, 0, none⟩)] w fun e w' => e = .returned (.string ⟨l.toArray⟩) /\ Below B w w' := by
 cases l with
 | cons x r => exact qU B g m (x :: r) w h (by simp)
 | nil =>
  obtain ⟨hB, p, v, _, ha, hown, hne⟩ := h
  rcases hown.2 with ⟨rfl, _⟩ | ⟨k, cap, cur, rfl, hbg, hg, _, _, _, _⟩
  ·exact zbb B g p _ w ha
  ·by_cases hc0 : cap = 0
   ·subst hc0
    exact KT B g k p _ cur w hBw ha hg
   ·exact qV B g k cap p _ w hc0 ha
section
open Ieee
theorem zak {a b : Nat} (h : a = b) : pw a = pw b := by rw [h]
theorem zeZ : U = pw 1074 := rfl
theorem zai (m c : Nat) (hm : m ≠ 0) (hc : c ≠ 0) (g : Nat) (hg : m.log2 + g = 54 + c.log2) :
  ∃ Q, Q = 2 * (m * pw g / c) + (m * pw g % c != 0).toNat /\ pw 54 <= Q /\ Q < pw 56 /\ Q * c <= 2 * (m * pw g) + c /\ 2 * (m * pw g) <= Q * c + c := by
 refine ⟨_, rfl, ?_⟩
 obtain ⟨b1, b2⟩ := Y2 m hm
 obtain ⟨c1, c2⟩ := Y2 c hc
 have h1 : pw (54 + c.log2) <= m * pw g := by rw [<- hg, yQ]; exact Nat.mul_le_mul_right _ b1
 have h2 : m * pw g < pw (55 + c.log2) := by
  rw [show 55 + c.log2 = m.log2 + 1 + g by omega, yQ]
  exact Nat.mul_lt_mul_of_pos_right b2 (ZZ _)
 generalize m * pw g = Dv at h1 h2 ⊢
 have hcp : 0 < c := Nat.pos_of_ne_zero hc
 have q1 : pw 53 <= Dv / c := by
  rw [Nat.le_div_iff_mul_le hcp]
  refine zQ (Nat.mul_le_mul_left _ (Y1 c2)) ?_
  rw [<- yQ]
  exact zQ (zaj (by omega)) h1
 have q2 : Dv / c < pw 55 := by
  rw [Nat.div_lt_iff_lt_mul hcp]
  refine Zy h2 ?_
  rw [yQ]
  exact Nat.mul_le_mul_left _ c1
 have hdm := Nat.div_add_mod Dv c
 have hml := Nat.mod_lt Dv hcp
 have e54 : pw 54 = 2 * pw 53 := rfl
 have e56 : pw 56 = 2 * pw 55 := rfl
 have hst : (Dv % c != 0).toNat = 0 /\ Dv % c = 0 \/ (Dv % c != 0).toNat = 1 /\ Dv % c ≠ 0 := by
  by_cases h : Dv % c = 0
  ·left; rw [h]; exact ⟨rfl, rfl⟩
  ·right; exact ⟨by rw [show (Dv % c != 0) = true by simpa using h]; rfl, h⟩
 generalize (Dv % c != 0).toNat = st at hst ⊢
 generalize Dv % c = r at hdm hml hst
 have e : (2 * (Dv / c) + st) * c = 2 * (c * (Dv / c)) + st * c := by rw [Nat.add_mul, Nat.mul_comm c, Nat.mul_assoc]
 rw [e]
 generalize c * (Dv / c) = F at hdm ⊢
 rw [e54, e56]
 generalize pw 53 = A at q1 ⊢
 generalize pw 55 = B at q2 ⊢
 generalize Dv / c = q at q1 q2 ⊢
 rcases hst with ⟨rfl, hr⟩ | ⟨rfl, hr⟩ <;> omega
theorem zgO {a b : Nat} {m c : Nat} {i j : Int} (ha : D.read a = .number false m i) (hb : D.read b = .number false c j) (hc : c ≠ 0) :
  D.div a b = some (D.nearest false (2 * (m * pw (54 + c.log2 - m.log2) / c) + (m * pw (54 + c.log2 - m.log2) % c != 0).toNat) (i - j - ((54 + c.log2 - m.log2 : Nat) : Int) - 1)) := by
 unfold Format.div
 rw [ha, hb]
 simp only [Datum.quotient]
 rw [ze hc]
 simp only [Option.map_some, Format.write, Nat.shiftLeft_eq]
 rfl
theorem zfn (n s : Nat) (hn : 1 <= n) (hn2 : n <= 9007199254740992) (hs : 1 <= s) (hs2 : s <= 9007199254740992) :
  ∃ X x : Nat, zgJ (JC (n : Int)) (JC (s : Int)) = X /\ zX X = false /\ val X = (x : Int) /\ pw 54 * (x * s) <= pw 54 * (n * U) + 3 * (x * s) /\ pw 54 * (n * U) <= pw 54 * (x * s) + 3 * (x * s) := by
 have wn := JB (n : Int) (by omega)
 have ws := JB (s : Int) (by omega)
 obtain ⟨s1, m, i, hr1, hi, hv1, hm1⟩ := zah wn.1 (wn.top (by omega))
 obtain ⟨s2, c, j, hr2, hj, hv2, hm2⟩ := zah ws.1 (ws.top (by omega))
 rw [wn.abs, Int.natAbs_natCast] at hm1
 rw [ws.abs, Int.natAbs_natCast] at hm2
 have hU := zhd
 have hm0 : m ≠ 0 := by
  rintro rfl
  rw [Nat.zero_mul] at hm1
  have := Nat.mul_pos (show 0 < n by omega) hU
  omega
 have hc0 : c ≠ 0 := by
  rintro rfl
  rw [Nat.zero_mul] at hm2
  have := Nat.mul_pos (show 0 < s by omega) hU
  omega
 have hpos : ∀ (b : Nat) (k : Nat) (sg : Bool) (mm : Nat) (ee : Int), 1 <= k -> Whole b (k : Int) -> D.read b = .number sg mm ee -> val b = signed sg mm (ee + 1074).toNat -> mm ≠ 0 -> sg = false := by
  intro b k sg mm ee hk hw hr hv h0
  cases sg
  ·rfl
  ·exfalso
   rw [hw.2, Za, zi rfl] at hv
   have h1 : 0 < (k : Int) * (U : Int) := Int.mul_pos (by omega) (by omega)
   have h2 := Nat.mul_pos (Nat.pos_of_ne_zero h0) (ZZ (ee + 1074).toNat)
   omega
 obtain rfl := hpos _ n s1 m i hn wn hr1 hv1 hm0
 obtain rfl := hpos _ s s2 c j hs ws hr2 hv2 hc0
 have sh1 := (ZY hr1).2.1
 have sh2 := (ZY hr2).2.1
 -- the places are near nought
 have hplace : ∀ (k mm : Nat) (ee : Int), -1074 <= ee -> 1 <= k -> k <= 9007199254740992 -> mm < 9007199254740992 -> mm ≠ 0 -> k * U = mm * pw (ee + 1074).toNat -> -53 <= ee /\ ee <= 53 := by
  intro k mm ee h1 hk hk2 hmm h0 he
  refine ⟨?_, ?_⟩
  ·have a1 : U <= pw 53 * pw (ee + 1074).toNat := by
    have b1 : 1 * U <= k * U := Nat.mul_le_mul_right _ hk
    have b2 : mm * pw (ee + 1074).toNat <= pw 53 * pw (ee + 1074).toNat := Nat.mul_le_mul_right _ (Y1 hmm)
    rw [Nat.one_mul, he] at b1
    exact zQ b1 b2
   rw [zeZ, <- yQ] at a1
   have := (Nat.pow_le_pow_iff_right (show 1 < 2 by decide)).1 a1
   omega
  ·have a1 : pw (ee + 1074).toNat <= pw 53 * U := by
    have b1 : 1 * pw (ee + 1074).toNat <= mm * pw (ee + 1074).toNat := Nat.mul_le_mul_right _ (by omega)
    have b2 : k * U <= pw 53 * U := Nat.mul_le_mul_right _ hk2
    rw [Nat.one_mul, <- he] at b1
    exact zQ b1 b2
   rw [zeZ, <- yQ] at a1
   have := (Nat.pow_le_pow_iff_right (show 1 < 2 by decide)).1 a1
   omega
 obtain ⟨i1, i2⟩ := hplace n m i hi hn hn2 sh1 hm0 hm1
 obtain ⟨j1, j2⟩ := hplace s c j hj hs hs2 sh2 hc0 hm2
 have lm : m.log2 < 53 := (Nat.log2_lt hm0).2 sh1
 have lc : c.log2 < 53 := (Nat.log2_lt hc0).2 sh2
 obtain ⟨g, hg⟩ : ∃ g, g = 54 + c.log2 - m.log2 := ⟨_, rfl⟩
 obtain ⟨Q, hQ, Q1, Q2, Q3, Q4⟩ := zai m c hm0 hc0 g (by omega)
 have hdiv := zgO hr1 hr2 hc0
 rw [<- hg, <- hQ] at hdiv
 have hQ0 : Q ≠ 0 := by have := ZZ 54; omega
 have lQ1 : 54 <= Q.log2 := (Nat.le_log2 hQ0).2 Q1
 have lQ2 : Q.log2 < 56 := (Nat.log2_lt hQ0).2 Q2
 obtain ⟨P, hP⟩ : ∃ P : Int, P = i - j - (g : Int) - 1 := ⟨_, rfl⟩
 rw [<- hP] at hdiv
 have hlast : yw Q P = P + ((Q.log2 - 52 : Nat) : Int) := by unfold yw; omega
 obtain ⟨d, hd⟩ : ∃ d, d = Q.log2 - 52 := ⟨_, rfl⟩
 rw [<- hd] at hlast
 have hkept : Y9 Q P = rne Q d := by
  unfold Y9
  rw [hlast, show (P - (P + (d : Int))).toNat = 0 by omega, show (P + (d : Int) - P).toNat = d by omega, show pw 0 = 1 from rfl, Nat.mul_one]
 obtain ⟨kb1, kb2⟩ := JH Q P hQ0
 have kb3 : 4503599627370496 <= rne Q d := by rcases kb2 with h | h; omega; rw [<- hkept]; exact h
 obtain ⟨m', e', hr, hm'⟩ := VV false Q P hQ0 (by omega)
 rw [hkept, hlast] at hm'
 obtain ⟨r1, r2⟩ := zd3 Q d
 refine ⟨D.nearest false Q P, rne Q d * pw (P + (d : Int) + 1074).toNat, ?_, Xa _ _ _, ?_, ?_⟩
 ·unfold zgJ; rw [hdiv]; exact Z4 (Xa _ _ _)
 ·unfold val; rw [hr]
  show signed false m' (e' + 1074).toNat = _
  rw [Za, hm']; rfl
 ·-- the error
  have hW : pw (P + (d : Int) + 1074).toNat = pw d * pw (P + 1074).toNat := by rw [<- yQ]; exact zak (by omega)
  rw [hW]
  obtain ⟨W, hWd⟩ : ∃ W, W = pw (P + 1074).toNat := ⟨_, rfl⟩
  obtain ⟨J, hJd⟩ : ∃ W, W = pw (j + 1074).toNat := ⟨_, rfl⟩
  obtain ⟨I, hId⟩ : ∃ W, W = pw (i + 1074).toNat := ⟨_, rfl⟩
  have hWJ : pw (g + 1) * (W * J) = I * U := by
   rw [hWd, hJd, hId]
   rw [zeZ, <- yQ, <- yQ, <- yQ]
   exact zak (by omega)
  rw [<- hId] at hm1
  rw [<- hJd] at hm2
  rw [<- hWd]
  have hdd : d = 2 \/ d = 3 := by omega
  generalize rne Q d = K at *
  obtain ⟨Dd, hDd⟩ : ∃ x, x = pw d := ⟨_, rfl⟩
  have hD4 : 4 <= Dd := by rw [hDd]; rcases hdd with h | h <;> rw [h] <;> decide
  rw [<- hDd] at r1 r2 ⊢
  -- times c, times W J
  have a1 := Nat.mul_le_mul_right c r1
  have a2 := Nat.mul_le_mul_right c r2
  have x1 : 2 * (K * Dd) * c = 2 * (K * Dd * c) := by rw [Nat.mul_assoc]
  have x2 : (2 * Q + Dd) * c = 2 * (Q * c) + Dd * c := by rw [Nat.add_mul, Nat.mul_assoc]
  have x3 : 2 * Q * c = 2 * (Q * c) := by rw [Nat.mul_assoc]
  have x4 : (2 * (K * Dd) + Dd) * c = 2 * (K * Dd * c) + Dd * c := by rw [Nat.add_mul, Nat.mul_assoc]
  rw [x1, x2] at a1
  rw [x3, x4] at a2
  have b1 : 2 * (K * Dd * c) <= 2 * (2 * (m * pw g)) + (Dd * c + 2 * c) := by omega
  have b2 : 2 * (2 * (m * pw g)) <= 2 * (K * Dd * c) + (Dd * c + 2 * c) := by omega
  have c1 := Nat.mul_le_mul_right (W * J) b1
  have c2 := Nat.mul_le_mul_right (W * J) b2
  have y1 : 2 * (K * Dd * c) * (W * J) = 2 * (K * (Dd * W) * s) * U := by
   have : 2 * (K * Dd * c) * (W * J) = 2 * (K * (Dd * W)) * (c * J) := by simp only [Nat.mul_assoc, Nat.mul_left_comm, Nat.mul_comm]
   rw [this, <- hm2]; simp only [Nat.mul_assoc]
  have y2 : 2 * (2 * (m * pw g)) * (W * J) = 2 * (n * U) * U := by
   have e1 : 2 * (2 * (m * pw g)) * (W * J) = 2 * (m * (pw (g + 1) * (W * J))) := by
    rw [show pw (g + 1) = pw g * 2 from rfl]
    simp only [Nat.mul_assoc, Nat.mul_left_comm, Nat.mul_comm]
   rw [e1, hWJ, <- Nat.mul_assoc m I U, <- hm1]
   simp only [Nat.mul_assoc]
  have y3 : (Dd * c + 2 * c) * (W * J) = ((Dd + 2) * W * s) * U := by
   rw [<- Nat.add_mul]
   have : (Dd + 2) * c * (W * J) = (Dd + 2) * W * (c * J) := by simp only [Nat.mul_assoc, Nat.mul_left_comm]
   rw [this, <- hm2]; simp only [Nat.mul_assoc]
  rw [y1, Nat.add_mul, y2, y3, <- Nat.add_mul] at c1
  rw [y2, Nat.add_mul, y1, y3, <- Nat.add_mul] at c2
  have d1 := Nat.le_of_mul_le_mul_right c1 hU
  have d2 := Nat.le_of_mul_le_mul_right c2 hU
  -- the last digit against the whole
  have e1 : pw 52 * (2 * ((Dd + 2) * W * s)) <= 3 * (K * (Dd * W) * s) := by
   have f1 : 2 * (Dd + 2) <= 3 * Dd := by omega
   have f2 : pw 52 * (2 * (Dd + 2)) <= K * (3 * Dd) := Nat.mul_le_mul kb3 f1
   have f3 := Nat.mul_le_mul_right (W * s) f2
   have g1 : pw 52 * (2 * (Dd + 2)) * (W * s) = pw 52 * (2 * ((Dd + 2) * W * s)) := by simp only [Nat.mul_assoc]
   have g2 : K * (3 * Dd) * (W * s) = 3 * (K * (Dd * W) * s) := by simp only [Nat.mul_assoc, Nat.mul_left_comm]
   rwa [g1, g2] at f3
  have e54 : pw 54 = 4 * pw 52 := rfl
  have e52 : pw 52 = 4503599627370496 := rfl
  rw [e54, e52]
  rw [e52] at e1
  generalize K * (Dd * W) * s = A at *
  generalize (Dd + 2) * W * s = B at *
  generalize n * U = C at *
  clear hWJ hWd hJd hId x1 x2 x3 x4 y1 y2 y3 e54 e52 hW hD4 hdiv hm'
  omega
end
theorem zab (op : Nat) (h : ¬ (3 <= op /\ op < 16)) : sgT op = [] := by
 unfold sgT
 split <;> first | rfl | (exfalso; omega)
theorem zd1 (w : World) : ∀ op : Nat, op < 16 -> 3 <= op -> Calls Tryz.prog 138 #[.int .u8 (op : Int)] w fun e w' => e = .returned (.string ⟨(sgT op).toArray⟩) /\ w' = w := by
 intro op h1 h2
 have : op = 3 \/ op = 4 \/ op = 5 \/ op = 6 \/ op = 7 \/ op = 8 \/ op = 9 \/ op = 10 \/ op = 11 \/ op = 12 \/ op = 13 \/ op = 14 \/ op = 15 := by omega
 rcases this with rfl | rfl | rfl | rfl | rfl | rfl | rfl | rfl | rfl | rfl | rfl | rfl | rfl <;>
  (go_enter Tryz.func138, Tryz.ntmps138
   go_wp2
   go_ret
   exact ⟨rfl, rfl⟩)
theorem q9 (op : Nat) (w : World) : Calls Tryz.prog 138 #[.int .u8 (op : Int)] w fun e w' => e = .returned (.string ⟨(sgT op).toArray⟩) /\ w' = w := by
 by_cases h : 3 <= op /\ op < 16
 ·exact zd1 w op h.2 h.1
 ·rw [zab op h]
  have e3 : ((op : Int) == 3) = false := by rw [zt]; omega
  have e4 : ((op : Int) == 4) = false := by rw [zt]; omega
  have e5 : ((op : Int) == 5) = false := by rw [zt]; omega
  have e6 : ((op : Int) == 6) = false := by rw [zt]; omega
  have e7 : ((op : Int) == 7) = false := by rw [zt]; omega
  have e8 : ((op : Int) == 8) = false := by rw [zt]; omega
  have e9 : ((op : Int) == 9) = false := by rw [zt]; omega
  have e10 : ((op : Int) == 10) = false := by rw [zt]; omega
  have e11 : ((op : Int) == 11) = false := by rw [zt]; omega
  have e12 : ((op : Int) == 12) = false := by rw [zt]; omega
  have e13 : ((op : Int) == 13) = false := by rw [zt]; omega
  have e14 : ((op : Int) == 14) = false := by rw [zt]; omega
  have e15 : ((op : Int) == 15) = false := by rw [zt]; omega
  clear h
  go_enter Tryz.func138, Tryz.ntmps138
  go_wp2
  go_ret
  exact ⟨rfl, rfl⟩
def Vi (op : Nat) : Int := if op = 1 \/ op = 2 then 0 else if 16 <= op /\ op < 20 then 1 else if 3 <= op /\ op < 16 then 2 else -1
theorem qh (op : Nat) (w : World) : Calls Tryz.prog 135 #[.int .u8 (op : Int)] w fun e w' => e = .returned (.int .i64 (Vi op)) /\ w' = w := by
 have hs := q9 op
 by_cases h0 : op = 1 \/ op = 2
 ·rcases h0 with rfl | rfl <;>
  (go_enter Tryz.func135, Tryz.ntmps135
   go_wp2_with fail
   go_ret
   exact ⟨rfl, rfl⟩)
 by_cases h1 : 16 <= op /\ op < 20
 ·have : op = 16 \/ op = 17 \/ op = 18 \/ op = 19 := by omega
  rcases this with rfl | rfl | rfl | rfl <;>
  (go_enter Tryz.func135, Tryz.ntmps135
   go_wp2_with fail
   go_ret
   exact ⟨rfl, rfl⟩)
 have e1 : ((op : Int) == 1) = false := by rw [zt]; omega
 have e2 : ((op : Int) == 2) = false := by rw [zt]; omega
 have e16 : ((op : Int) == 16) = false := by rw [zt]; omega
 have e17 : ((op : Int) == 17) = false := by rw [zt]; omega
 have e18 : ((op : Int) == 18) = false := by rw [zt]; omega
 have e19 : ((op : Int) == 19) = false := by rw [zt]; omega
 by_cases h2 : 3 <= op /\ op < 16
 ·have he : Vi op = 2 := by unfold Vi; rw [ze h0, ze h1, zi h2]
  have hne : ((sgT op) == []) = false := by
   have : ∀ op, op < 16 -> 3 <= op -> ((sgT op) == []) = false := by decide
   exact this op h2.2 h2.1
  rw [he]
  obtain ⟨L, hL⟩ : ∃ L, L = sgT op := ⟨_, rfl⟩
  rw [<- hL] at hs hne
  clear hL he h0 h1 h2
  go_enter Tryz.func135, Tryz.ntmps135
  go_wp2_with fail
  refine (hs _).mono ?_
  rintro e w' ⟨rfl, rfl⟩
  go_wp2
  go_ret
  exact ⟨rfl, rfl⟩
 ·have he : Vi op = -1 := by unfold Vi; rw [ze h0, ze h1, ze h2]
  rw [he]
  rw [zab op h2] at hs
  clear he h0 h1 h2
  go_enter Tryz.func135, Tryz.ntmps135
  go_wp2_with fail
  refine (hs _).mono ?_
  rintro e w' ⟨rfl, rfl⟩
  go_wp2
  go_ret
  exact ⟨rfl, rfl⟩
def Txt (B : Nat) (w : World) (g m : Nat) (F : List UInt8) : Prop := ∃ bs, (bs = F \/ (m < bs.length /\ m < F.length)) /\ bs.length <= F.length /\ Raw B w g m bs
theorem Txt.lt {B g m : Nat} {w : World} {F : List UInt8} (h : Txt B w g m F) : g < w.heap.size := by
 obtain ⟨_, _, _, h⟩ := h
 exact h.lt
theorem Txt.base {B g m : Nat} {w : World} {F : List UInt8} (h : Txt B w g m F) : B <= g := by
 obtain ⟨_, _, _, h⟩ := h
 exact h.1
theorem Txt.below {B g m : Nat} {w w' : World} {F : List UInt8} (h : Txt B w g m F) (hb : Below w.heap.size w w') : Txt B w' g m F := by
 obtain ⟨bs, h1, h2, h3⟩ := h
 exact ⟨bs, h1, h2, h3.below hb⟩
def cat (ps : List ByteArray) : List UInt8 := (ps.map (·.data.toList)).flatten
theorem i9s : (Tryz.prog.info? 9).map (fun i => (i.zero, i.size, i.bytes)) = some (some (.string ⟨#[]⟩), 1, 16) := by kernel_rfl
theorem VS (B g m k : Nat) (ps : List ByteArray) (F : List UInt8) (w : World) (hm : m <= 9223372036854775807) (h : Txt B w g m F) (hA : At 9 w k (ps.map .string)) (hlen : (F ++ cat ps).length <= 70368744177664) (hps : ps.length <= 1000) :
  Calls Tryz.prog 81 #[.pointer (some ⟨g, 0, none⟩), .slice (some ⟨k, 0, none⟩) ps.length ps.length] w fun e w' => e = .returned (.tuple #[]) /\ Txt B w' g m (F ++ cat ps) /\ Wr B g w w' := by
 have hBg := h.base
 have hgw := h.lt
 have hkg : k ≠ g := by
  rintro rfl
  obtain ⟨bs, _, _, _, p, v, _, ha, _⟩ := h
  have h1 : w.heap[k]? = _ := hA
  have h2 : w.heap[k]? = _ := ha
  rw [h1] at h2
  injection h2 with h2
  injection h2 with _ h3
  cases h3
 obtain ⟨n, hn⟩ : ∃ n, Hid (n = ps.length) := ⟨_, (rfl : ps.length = _)⟩
 rw [<- hn.out] at hps ⊢
 have HA : Hid (At 9 w k (ps.map .string)) := hA
 have HT : Hid (Txt B w g m F) := h
 have HL : Hid ((F ++ cat ps).length <= 70368744177664) := hlen
 clear hA h hlen
 go_enter Tryz.func81, Tryz.ntmps81
 go_wp2_with fail
 go_loopw [8] (fun j wr => ∃ i : Nat, j = .int .i64 (i : Int) /\ i <= n /\ Hid (Txt B wr g m (F ++ cat (ps.take i)) /\ Wr B g w wr)) (fun j _ => n - (intOf j).toNat)
 case atStart => exact ⟨0, rfl, by omega, by simpa [cat] using HT.out, Wr.refl _ _ _⟩
 case round =>
  obtain ⟨i, rfl, hi, hR⟩ := hrel
  by_cases hc : i < n
  ·obtain ⟨s, hs⟩ : ∃ s, ps[i]? = some s := ⟨ps[i]'(by rw [<- hn.out]; exact hc), by rw [yD]⟩
   obtain ⟨hT, hW⟩ := hR.out
   have hAr : At 9 wr k (ps.map .string) := hW.at HA.out hkg (by decide)
   have ci : wr.cell? ⟨k, i, none⟩ = some (.string s) := by rw [hAr.cell, List.getElem?_map, hs]; rfl
   have htake : ps.take (i + 1) = ps.take i ++ [s] := by rw [List.take_add_one, hs]; rfl
   have hcat : F ++ cat (ps.take (i + 1)) = (F ++ cat (ps.take i)) ++ s.data.toList := by rw [htake]; simp [cat]
   have hle : (F ++ cat (ps.take (i + 1))).length <= (F ++ cat ps).length := by
    have e : cat ps = cat (ps.take (i + 1)) ++ cat (ps.drop (i + 1)) := by
     unfold cat
     rw [<- List.flatten_append, <- List.map_append, List.take_append_drop]
    rw [e]
    simp only [yN]
    omega
   have hle2 := HL.out
   obtain ⟨bs, hbs, hbl, hraw⟩ := hT
   have hBw : B <= wr.heap.size := by have := hW.size; omega
   have hsl : (F ++ cat (ps.take i)).length + s.size <= 70368744177664 := by
    have e : s.size = s.data.toList.length := Array.length_toList.symm
    rw [hcat, yN] at hle
    omega
   have h63 : bs.length <= 9223372036854775807 := by omega
   have cm : wr.cell? ⟨g, 2, none⟩ = some (.int .i64 (m : Int)) := by
    obtain ⟨_, p, v, _, ha, _⟩ := hraw
    rw [ha.cell]; rfl
   have hlen : ∀ q, Calls Tryz.prog 45 #[.pointer (some ⟨g, 0, none⟩)] (wr.drewN q) fun e w' => e = .returned (.int .i64 (bs.length : Int)) /\ w' = wr.drewN q := fun q => zfB B g m bs _ hraw
   by_cases hlm : bs.length <= m
   ·have hbF : bs = F ++ cat (ps.take i) := by
     rcases hbs with h | ⟨h, _⟩
     ·exact h
     ·omega
    have hcm : (bs.length : Int) <= (m : Int) := by omega
    have hwr : ∀ q, Calls Tryz.prog 116 #[.pointer (some ⟨g, 0, none⟩), .string s] (wr.drewN q) fun e w' => e = .returned (.tuple #[.int .i64 s.size, .nilIface]) /\ Raw B w' g m (bs ++ s.data.toList) /\ Wr B g (wr.drewN q) w' := fun q => zcA B g m bs s _ hraw (by omega) hBw
    have HX : Hid ((F ++ cat (ps.take (i + 1)) = bs ++ s.data.toList) /\ Wr B g w wr) := ⟨by rw [hcat, hbF], hW⟩
    clear hbs hbl hraw hW hAr htake hcat hle hle2 hR hsl hbF
    go_wp2_with fail
    go_quiet (first | (go_at_call 45; exact Calls.quiet_of_same (hlen _)))
    go_wp2_with fail
    refine (hwr _).mono ?_
    rintro e w2 ⟨rfl, hr2, hw2⟩
    have HY : Hid (Txt B w2 g m (F ++ cat (ps.take (i + 1))) /\ Wr B g w w2) := by
     obtain ⟨h1, h2⟩ := HX.out
     rw [h1]
     exact ⟨⟨_, .inl rfl, zj _, hr2⟩, h2.trans ((Wr.mk rfl rfl rfl (zj _) fun _ _ _ _ => rfl : Wr B g wr (wr.drewN nq)).trans hw2)⟩
    clear HX hr2 hw2 hwr hlen
    go_wp2
    go_roundw
    case rel => exact ⟨i + 1, by go_num, by omega, HY⟩
    case measure => simp [intOf]; omega
   ·have hcm : ¬ (bs.length : Int) <= (m : Int) := by omega
    have HY : ∀ q, Hid (Txt B (wr.drewN q) g m (F ++ cat (ps.take (i + 1))) /\ Wr B g w (wr.drewN q)) := fun q => ⟨⟨bs, .inr ⟨by omega, by rw [hcat, yN]; rcases hbs with h | ⟨_, h⟩ <;> omega⟩, by rw [hcat, yN]; omega, hraw⟩, hW.trans (Wr.mk rfl rfl rfl (zj _) fun _ _ _ _ => rfl : Wr B g wr (wr.drewN q))⟩
    clear hbs hbl hraw hW hAr htake hcat hle hle2 hR hsl
    go_wp2_with fail
    go_quiet (first | (go_at_call 45; exact Calls.quiet_of_same (hlen _)))
    go_wp2_with fail
    go_roundw
    case rel => exact ⟨i + 1, by go_num, by omega, HY _⟩
    case measure => simp [intOf]; omega
  ·have hin : i = n := by omega
   have HY : Hid (Txt B wr g m (F ++ cat ps) /\ Wr B g w wr) := by
    have := hR.out
    rw [hin, hn.out, List.take_length] at this
    exact this
   clear hR hin
   go_wp2
   go_end0
   exact ⟨rfl, HY.out⟩
def z7 (n : Nat) : Bool := (decide (97 <= n) && decide (n <= 122)) || (decide (65 <= n) && decide (n <= 90)) || decide (n = 95)
def zY (n : Nat) : Bool := decide (48 <= n) && decide (n <= 57)
def Vj (n : Nat) : Nat := if z7 n then 1 else if zY n then 2 else 4
def Jv : List (List UInt8) := [[59], [123], [125], [40], [41], [61], [61, 61], [33, 61], [60], [60, 61], [62], [62, 61], [43], [45], [42], [47], [37], [33], [38, 38], [124, 124]]
def YX (l : List UInt8) : Bool := decide (l ∈ Jv)
def words : List (List UInt8) := [[115, 104, 97, 114, 101, 100], [109, 117, 116, 101, 120], [116, 104, 114, 101, 97, 100], [108, 111, 99, 97, 108], [105, 110, 116], [98, 111, 111, 108], [114, 101, 97, 108], [108, 111, 99, 107], [117, 110, 108, 111, 99, 107], [97, 115, 115, 101, 114, 116], [105, 102], [101, 108, 115, 101], [119, 104, 105, 108, 101], [115, 107, 105, 112], [116, 114, 117, 101], [102, 97, 108, 115, 101], [110, 97, 110], [105, 110, 102]]
def XU (l : List UInt8) : Bool := decide (l ∈ words)
theorem zf (s : ByteArray) : s.toList = bytes s := Lib.toList_data s
theorem yv (s : ByteArray) : s = ⟨(bytes s).toArray⟩ := by
 apply ByteArray.ext
 simp [bytes]
def Z0 : List UInt8 -> Bool
 | c :: d :: _ => decide (c = 46) && zY d.toNat
 | _ => false
theorem zep (l : List UInt8) (h : 1 < l.length) : Z0 l = (decide ((l.getD 0 0).toNat = 46) && zY (l.getD 1 0).toNat) := by
 match l, h with
 | c :: d :: r, _ =>
  simp only [Z0, List.getD_cons_zero, List.getD_cons_succ]
  congr 1
  rw [Bool.eq_iff_iff]
  simp only [Yz]
  constructor
  ·rintro rfl; rfl
  ·intro h; exact UInt8.toNat_inj.1 h
theorem Kv (l : List UInt8) (h : ¬ 1 < l.length) : Z0 l = false := by
 match l, h with
 | [], _ => rfl
 | [_], _ => rfl
 | _ :: _ :: _, h => exact absurd (by simp) h
theorem zeq (s : ByteArray) (h : 1 < s.size) : Z0 (bytes s) = (decide (s[0].toNat = 46) && zY s[1].toNat) := by
 rw [zep _ (by rw [zc]; exact h), yH s 0 (by omega), yH s 1 h]
theorem JI (n : Nat) (w : World) : Calls Tryz.prog 121 #[.int .u8 (n : Int)] w fun e w' => e = .returned (.bool (zY n)) /\ w' = w := by
 go_enter Tryz.func121, Tryz.ntmps121
 go_wp2
 all_goals
  go_ret
  refine ⟨?_, rfl⟩
  simp [zY]
  try (rw [Bool.eq_iff_iff]; simp)
  try omega
theorem VZ (n : Nat) (w : World) : Calls Tryz.prog 91 #[.int .u8 (n : Int)] w fun e w' => e = .returned (.bool (z7 n)) /\ w' = w := by
 go_enter Tryz.func91, Tryz.ntmps91
 go_wp2
 all_goals
  go_ret
  refine ⟨?_, rfl⟩
  simp [z7]
  try (rw [Bool.eq_iff_iff]; simp)
  try omega
theorem Vp (n : Nat) (w : World) : Calls Tryz.prog 120 #[.int .u8 (n : Int)] w fun e w' => e = .returned (.int .i64 (Vj n : Nat)) /\ w' = w := by
 go_enter Tryz.func120, Tryz.ntmps120
 go_wp2_with fail
 refine (VZ n _).mono ?_
 rintro e w1 ⟨rfl, rfl⟩
 cases h1 : z7 n
 ·go_wp2_with fail
  refine (JI n _).mono ?_
  rintro e w1 ⟨rfl, rfl⟩
  cases h2 : zY n
  ·go_wp2
   go_ret
   simp [Vj, h1, h2]
  ·go_wp2
   go_ret
   simp [Vj, h1, h2]
 ·go_wp2
  go_ret
  simp [Vj, h1]
theorem zbA : ∀ x ∈ Jv, ∀ w : World, Calls Tryz.prog 90 #[.string ⟨x.toArray⟩] w fun e w' => e = .returned (.bool true) /\ w' = w := by
 intro x hx w
 simp only [Jv, Kp, List.not_mem_nil, or_false] at hx
 rcases hx with rfl | rfl | rfl | rfl | rfl | rfl | rfl | rfl | rfl | rfl | rfl | rfl | rfl | rfl | rfl | rfl | rfl | rfl | rfl | rfl
 all_goals
  go_enter Tryz.func90, Tryz.ntmps90
  go_wp2
  go_ret
  exact ⟨rfl, rfl⟩
theorem Vq (s : ByteArray) (w : World) : Calls Tryz.prog 90 #[.string s] w fun e w' => e = .returned (.bool (YX (bytes s))) /\ w' = w := by
 by_cases hx : bytes s ∈ Jv
 ·have h := zbA _ hx w
  rw [<- yv s] at h
  simpa only [YX, hx, decide_true] using h
 ·have hn : ¬ bytes s ∈ Jv := hx
  simp only [YX, hx, decide_false]
  clear hx
  have n0 : (s.toList == [59]) = false := by rw [zf]; simp only [zt]; intro h0; exact hn (by rw [h0]; decide)
  have n1 : (s.toList == [123]) = false := by rw [zf]; simp only [zt]; intro h0; exact hn (by rw [h0]; decide)
  have n2 : (s.toList == [125]) = false := by rw [zf]; simp only [zt]; intro h0; exact hn (by rw [h0]; decide)
  have n3 : (s.toList == [40]) = false := by rw [zf]; simp only [zt]; intro h0; exact hn (by rw [h0]; decide)
  have n4 : (s.toList == [41]) = false := by rw [zf]; simp only [zt]; intro h0; exact hn (by rw [h0]; decide)
  have n5 : (s.toList == [61]) = false := by rw [zf]; simp only [zt]; intro h0; exact hn (by rw [h0]; decide)
  have n6 : (s.toList == [61, 61]) = false := by rw [zf]; simp only [zt]; intro h0; exact hn (by rw [h0]; decide)
  have n7 : (s.toList == [33, 61]) = false := by rw [zf]; simp only [zt]; intro h0; exact hn (by rw [h0]; decide)
  have n8 : (s.toList == [60]) = false := by rw [zf]; simp only [zt]; intro h0; exact hn (by rw [h0]; decide)
  have n9 : (s.toList == [60, 61]) = false := by rw [zf]; simp only [zt]; intro h0; exact hn (by rw [h0]; decide)
  have n10 : (s.toList == [62]) = false := by rw [zf]; simp only [zt]; intro h0; exact hn (by rw [h0]; decide)
  have n11 : (s.toList == [62, 61]) = false := by rw [zf]; simp only [zt]; intro h0; exact hn (by rw [h0]; decide)
  have n12 : (s.toList == [43]) = false := by rw [zf]; simp only [zt]; intro h0; exact hn (by rw [h0]; decide)
  have n13 : (s.toList == [45]) = false := by rw [zf]; simp only [zt]; intro h0; exact hn (by rw [h0]; decide)
  have n14 : (s.toList == [42]) = false := by rw [zf]; simp only [zt]; intro h0; exact hn (by rw [h0]; decide)
  have n15 : (s.toList == [47]) = false := by rw [zf]; simp only [zt]; intro h0; exact hn (by rw [h0]; decide)
  have n16 : (s.toList == [37]) = false := by rw [zf]; simp only [zt]; intro h0; exact hn (by rw [h0]; decide)
  have n17 : (s.toList == [33]) = false := by rw [zf]; simp only [zt]; intro h0; exact hn (by rw [h0]; decide)
  have n18 : (s.toList == [38, 38]) = false := by rw [zf]; simp only [zt]; intro h0; exact hn (by rw [h0]; decide)
  have n19 : (s.toList == [124, 124]) = false := by rw [zf]; simp only [zt]; intro h0; exact hn (by rw [h0]; decide)
  clear hn
  go_enter Tryz.func90, Tryz.ntmps90
  go_wp2
  go_ret
  exact ⟨rfl, rfl⟩
theorem zdC : ∀ x ∈ words, ∀ w : World, Calls Tryz.prog 113 #[.string ⟨x.toArray⟩] w fun e w' => e = .returned (.bool true) /\ w' = w := by
 intro x hx w
 simp only [words, Kp, List.not_mem_nil, or_false] at hx
 rcases hx with rfl | rfl | rfl | rfl | rfl | rfl | rfl | rfl | rfl | rfl | rfl | rfl | rfl | rfl | rfl | rfl | rfl | rfl
 all_goals
  go_enter Tryz.func113, Tryz.ntmps113
  go_wp2
  go_ret
  exact ⟨rfl, rfl⟩
theorem qL (s : ByteArray) (w : World) : Calls Tryz.prog 113 #[.string s] w fun e w' => e = .returned (.bool (XU (bytes s))) /\ w' = w := by
 by_cases hx : bytes s ∈ words
 ·have h := zdC _ hx w
  rw [<- yv s] at h
  simpa only [XU, hx, decide_true] using h
 ·have hn : ¬ bytes s ∈ words := hx
  simp only [XU, hx, decide_false]
  clear hx
  have n0 : (s.toList == [115, 104, 97, 114, 101, 100]) = false := by rw [zf]; simp only [zt]; intro h0; exact hn (by rw [h0]; decide)
  have n1 : (s.toList == [109, 117, 116, 101, 120]) = false := by rw [zf]; simp only [zt]; intro h0; exact hn (by rw [h0]; decide)
  have n2 : (s.toList == [116, 104, 114, 101, 97, 100]) = false := by rw [zf]; simp only [zt]; intro h0; exact hn (by rw [h0]; decide)
  have n3 : (s.toList == [108, 111, 99, 97, 108]) = false := by rw [zf]; simp only [zt]; intro h0; exact hn (by rw [h0]; decide)
  have n4 : (s.toList == [105, 110, 116]) = false := by rw [zf]; simp only [zt]; intro h0; exact hn (by rw [h0]; decide)
  have n5 : (s.toList == [98, 111, 111, 108]) = false := by rw [zf]; simp only [zt]; intro h0; exact hn (by rw [h0]; decide)
  have n6 : (s.toList == [114, 101, 97, 108]) = false := by rw [zf]; simp only [zt]; intro h0; exact hn (by rw [h0]; decide)
  have n7 : (s.toList == [108, 111, 99, 107]) = false := by rw [zf]; simp only [zt]; intro h0; exact hn (by rw [h0]; decide)
  have n8 : (s.toList == [117, 110, 108, 111, 99, 107]) = false := by rw [zf]; simp only [zt]; intro h0; exact hn (by rw [h0]; decide)
  have n9 : (s.toList == [97, 115, 115, 101, 114, 116]) = false := by rw [zf]; simp only [zt]; intro h0; exact hn (by rw [h0]; decide)
  have n10 : (s.toList == [105, 102]) = false := by rw [zf]; simp only [zt]; intro h0; exact hn (by rw [h0]; decide)
  have n11 : (s.toList == [101, 108, 115, 101]) = false := by rw [zf]; simp only [zt]; intro h0; exact hn (by rw [h0]; decide)
  have n12 : (s.toList == [119, 104, 105, 108, 101]) = false := by rw [zf]; simp only [zt]; intro h0; exact hn (by rw [h0]; decide)
  have n13 : (s.toList == [115, 107, 105, 112]) = false := by rw [zf]; simp only [zt]; intro h0; exact hn (by rw [h0]; decide)
  have n14 : (s.toList == [116, 114, 117, 101]) = false := by rw [zf]; simp only [zt]; intro h0; exact hn (by rw [h0]; decide)
  have n15 : (s.toList == [102, 97, 108, 115, 101]) = false := by rw [zf]; simp only [zt]; intro h0; exact hn (by rw [h0]; decide)
  have n16 : (s.toList == [110, 97, 110]) = false := by rw [zf]; simp only [zt]; intro h0; exact hn (by rw [h0]; decide)
  have n17 : (s.toList == [105, 110, 102]) = false := by rw [zf]; simp only [zt]; intro h0; exact hn (by rw [h0]; decide)
  clear hn
  go_enter Tryz.func113, Tryz.ntmps113
  go_wp2
  go_ret
  exact ⟨rfl, rfl⟩
theorem zaI (s : ByteArray) (w : World) : Calls Tryz.prog 122 #[.string s] w fun e w' => e = .returned (.bool (Z0 (bytes s))) /\ w' = w := by
 by_cases h : 1 < s.size
 ·rw [zeq s h]
  go_enter Tryz.func122, Tryz.ntmps122
  go_wp2
  all_goals
   go_ret
   refine ⟨?_, rfl⟩
   simp [zY]
   try (rw [Bool.eq_iff_iff]; simp)
   try omega
 ·rw [Kv _ (by rw [zc]; exact h)]
  go_enter Tryz.func122, Tryz.ntmps122
  go_wp2
  go_ret
  exact ⟨rfl, rfl⟩
def alN : List UInt8 -> Nat
 | [] => 0
 | c :: r => if z7 c.toNat || zY c.toNat then alN r + 1 else 0
def dgN : List UInt8 -> Nat
 | [] => 0
 | c :: r => if zY c.toNat then dgN r + 1 else 0
def nmN : List UInt8 -> Nat × Nat
 | [] => (2, 0)
 | c :: r => if Z0 (c :: r) then (3, dgN r + 1) else if zY c.toNat then ((nmN r).1, (nmN r).2 + 1) else (2, 0)
def sgN (c : UInt8) : List UInt8 -> Nat
 | [] => 0
 | d :: _ => if YX [c, d] then 1 else 0
def zI : List UInt8 -> Nat × Nat
 | [] => (4, 0)
 | c :: r => if z7 c.toNat then (1, alN r + 1) else if zY c.toNat then ((nmN r).1, (nmN r).2 + 1) else (4, sgN c r + 1)
theorem z8 (s : ByteArray) (k : Nat) (h : k < s.size) : (bytes s).drop k = s[k] :: (bytes s).drop (k + 1) := by
 rw [<- yH s k h]
 have h' : k < (bytes s).length := by rw [zc]; exact h
 rw [List.drop_eq_getElem_cons h']
 simp [List.getD, h']
theorem Yy (s : ByteArray) (k : Nat) (h : ¬ k < s.size) : (bytes s).drop k = [] := by
 apply List.drop_eq_nil_of_le
 rw [zc]
 omega
theorem yp (s : ByteArray) (i j : Nat) : bytes (s.extract i j) = ((bytes s).drop i).take (j - i) := Lib.extract_data s i j
theorem VA (s : ByteArray) (i : Nat) : bytes (s.extract i s.size) = (bytes s).drop i := by
 rw [yp, List.take_of_length_le]
 rw [yC, zc]; exact zj _
theorem zbB (l : List UInt8) (h : 3 <= l.length) : YX l = false := by
 simp only [YX, decide_eq_false_iff_not]
 intro hm
 simp only [Jv, Kp, List.not_mem_nil, or_false] at hm
 rcases hm with rfl | rfl | rfl | rfl | rfl | rfl | rfl | rfl | rfl | rfl | rfl | rfl | rfl | rfl | rfl | rfl | rfl | rfl | rfl | rfl <;> simp at h
def Yg (l : List UInt8) : Bool := decide (1 <= l.length) && decide (l.length <= 24) && !XU l && decide (zI l = (1, l.length))
def YC (l : List UInt8) : Bool := l.all (fun c => z7 c.toNat || zY c.toNat)
theorem zfX (l : List UInt8) : alN l = l.length ↔ YC l = true := by
 induction l with
 | nil => simp [alN, YC]
 | cons c r ih =>
  simp only [alN, YC, List.all_cons, VX] at ih ⊢
  cases z7 c.toNat || zY c.toNat
  ·simp
  ·simp only [if_true, Nat.add_right_cancel_iff, Bool.true_and]; exact ih
theorem zeF (c : UInt8) (r : List UInt8) : zI (c :: r) = (1, (c :: r).length) ↔ z7 c.toNat = true /\ YC (c :: r) = true := by
 rw [<- zfX]
 simp only [zI]
 cases h : z7 c.toNat
 ·simp only [ZV, if_false, false_and, iff_false]
  split
  ·intro h2
   have h3 := congrArg Prod.fst h2
   simp only [] at h3
   have : ∀ l : List UInt8, (nmN l).1 = 2 \/ (nmN l).1 = 3 := by
    intro l
    induction l with
    | nil => exact .inl rfl
    | cons d q ih => simp only [nmN]; split; exact .inr rfl; split; exact ih; exact .inl rfl
   rcases this r with h4 | h4 <;> omega
  ·intro h2
   have h3 := congrArg Prod.fst h2
   simp at h3
 ·simp [alN, h]
theorem zfE (c : UInt8) (r : List UInt8) : Yg (c :: r) = (decide ((c :: r).length <= 24) && z7 c.toNat && !XU (c :: r) && YC (c :: r)) := by
 rw [Bool.eq_iff_iff]
 simp only [Yg, yX, Yz, zeF]
 constructor
 ·rintro ⟨⟨⟨_, a⟩, b⟩, c, d⟩; exact ⟨⟨⟨a, c⟩, b⟩, d⟩
 ·rintro ⟨⟨⟨a, c⟩, b⟩, d⟩; exact ⟨⟨⟨by simp, a⟩, b⟩, c, d⟩
theorem X5 (s : ByteArray) (j : Nat) (h : j < s.size) (hc : (z7 s[j].toNat || zY s[j].toNat) = true) : YC ((bytes s).drop j) = YC ((bytes s).drop (j + 1)) := by
 rw [z8 s j h]; simp only [YC, List.all_cons, hc, Bool.true_and]
theorem jg (s : ByteArray) (j : Nat) (h : j < s.size) (hc : (z7 s[j].toNat || zY s[j].toNat) = false) : YC ((bytes s).drop j) = false := by
 rw [z8 s j h]; simp only [YC, List.all_cons, hc, Bool.false_and]
theorem zbu {s : ByteArray} (h : 0 < s.size) : s.toList.isEmpty = false := by
 rw [List.isEmpty_eq_false_iff, zf]
 intro h0
 have : s.size = 0 := by rw [<- zc s, h0]; rfl
 omega
theorem zc2 {s : ByteArray} (h : s.size = 0) : s.toList.isEmpty = true := by
 rw [List.isEmpty_iff, zf]
 apply List.eq_nil_of_length_eq_zero
 rw [zc]; exact h
theorem Yo (n : Nat) (w : World) (b : Bool) (hb : zY n = b) : Calls Tryz.prog 121 #[.int .u8 (n : Int)] w fun e w' => e = .returned (.bool b) /\ w' = w := by subst hb; exact JI n w
theorem Yx (n : Nat) (w : World) (b : Bool) (hb : z7 n = b) : Calls Tryz.prog 91 #[.int .u8 (n : Int)] w fun e w' => e = .returned (.bool b) /\ w' = w := by subst hb; exact VZ n w
theorem Vt (s : ByteArray) (i : Nat) (w : World) : Calls Tryz.prog 122 #[.string (s.extract i s.size)] w fun e w' => e = .returned (.bool (Z0 ((bytes s).drop i))) /\ w' = w := by
 rw [<- VA]; exact zaI _ w
theorem jz (s : ByteArray) (i j : Nat) (w : World) : Calls Tryz.prog 90 #[.string (s.extract i j)] w fun e w' => e = .returned (.bool (YX (((bytes s).drop i).take (j - i)))) /\ w' = w := by
 rw [<- yp]; exact Vq _ w
theorem J4 (s : ByteArray) (j : Nat) (h : j < s.size) (hc : (z7 s[j].toNat || zY s[j].toNat) = true) : alN ((bytes s).drop j) = alN ((bytes s).drop (j + 1)) + 1 := by
 rw [z8 s j h]; simp only [alN, hc, if_true]
theorem zeX (s : ByteArray) (j : Nat) (h : j < s.size) (hc : (z7 s[j].toNat || zY s[j].toNat) = false) : alN ((bytes s).drop j) = 0 := by
 rw [z8 s j h]; simp only [alN, hc]; rfl
theorem zct (s : ByteArray) (j : Nat) (h : ¬ j < s.size) : alN ((bytes s).drop j) = 0 := by
 rw [Yy s j h]; rfl
theorem KR (s : ByteArray) (k : Nat) (w : World) (hk : k < s.size) (hs : s.size <= 1099511627776) (h1 : z7 s[k].toNat = true) :
  Calls Tryz.prog 86 #[.string s, .int .i64 (k : Int)] w fun e w' => e = .returned (.tuple #[.int .i64 1, .int .i64 ((k + (alN ((bytes s).drop (k + 1)) + 1) : Nat) : Int)]) /\ w' = w := by
 obtain ⟨T, hT⟩ : ∃ T, Hid (T = k + (alN ((bytes s).drop (k + 1)) + 1)) := ⟨_, (rfl : k + (alN ((bytes s).drop (k + 1)) + 1) = _)⟩
 have hkind : Hid (Vj s[k].toNat = 1) := by simp [Hid, Vj, h1]
 rw [<- hT.out]
 go_enter Tryz.func86, Tryz.ntmps86
 go_wp2_with fail
 go_step3
 go_wp2_with fail
 refine (Vp s[k].toNat _).mono ?_
 rintro e w1 ⟨rfl, rfl⟩
 rw [hkind.out]
 clear h1
 go_wp2
 go_step3
 go_wp2
 go_loopw [6, 7] (fun K j wr => ∃ i : Nat, K = .int .i64 1 /\ j = .int .i64 (i : Int) /\ k + 1 <= i /\ i <= s.size /\ Hid (i + alN ((bytes s).drop i) = T) /\ wr = w1) (fun _ j _ => s.size - (intOf j).toNat)
 case atStart => exact ⟨k + 1, rfl, by go_num, by omega, by omega, by show _ = _; rw [hT.out]; omega, rfl⟩
 case round =>
  obtain ⟨i, rfl, rfl, hi1, hi2, hi3, rfl⟩ := hrel
  by_cases hc : i < s.size
  ·cases a1 : z7 s[i].toNat
   ·cases a2 : zY s[i].toNat
    ·have hN := zeX s i hc (by rw [a1, a2]; rfl)
     go_wp2_with (first | (go_at_call 91; refine (Yx _ _ false a1).mono ?_; rintro e w2 ⟨rfl, rfl⟩) | (go_at_call 121; refine (Yo _ _ false a2).mono ?_; rintro e w2 ⟨rfl, rfl⟩))
     rw [Exit.noGoto_ret]
     go_ret2
     exact ⟨by rw [<- hi3.out, hN]; rfl, rfl⟩
    ·have hN := J4 s i hc (by rw [a1, a2]; rfl)
     have hi3' : Hid (i + 1 + alN ((bytes s).drop (i + 1)) = T) := by have := hi3.out; show _ = _; omega
     clear hi3 hN
     go_wp2_with (first | (go_at_call 91; refine (Yx _ _ false a1).mono ?_; rintro e w2 ⟨rfl, rfl⟩) | (go_at_call 121; refine (Yo _ _ true a2).mono ?_; rintro e w2 ⟨rfl, rfl⟩))
     go_roundw
     case rel => exact ⟨i + 1, rfl, by go_num, by omega, by omega, hi3', trivial⟩
     case measure => simp [intOf]; omega
   ·have hN := J4 s i hc (by rw [a1]; rfl)
    have hi3' : Hid (i + 1 + alN ((bytes s).drop (i + 1)) = T) := by have := hi3.out; show _ = _; omega
    clear hi3 hN
    go_wp2_with (first | (go_at_call 91; refine (Yx _ _ true a1).mono ?_; rintro e w2 ⟨rfl, rfl⟩))
    go_roundw
    case rel => exact ⟨i + 1, rfl, by go_num, by omega, by omega, hi3', trivial⟩
    case measure => simp [intOf]; omega
  ·have hN := zct s i hc
   go_wp2
   rw [Exit.noGoto_ret]
   go_ret2
   exact ⟨by rw [<- hi3.out, hN]; rfl, rfl⟩
theorem Xv (s : ByteArray) (j : Nat) (h : j < s.size) (hc : zY s[j].toNat = true) : dgN ((bytes s).drop j) = dgN ((bytes s).drop (j + 1)) + 1 := by
 rw [z8 s j h]; simp only [dgN, hc, if_true]
theorem zeK (s : ByteArray) (j : Nat) (h : j < s.size) (hc : zY s[j].toNat = false) : dgN ((bytes s).drop j) = 0 := by
 rw [z8 s j h]; simp only [dgN, hc]; rfl
theorem zcj (s : ByteArray) (j : Nat) (h : ¬ j < s.size) : dgN ((bytes s).drop j) = 0 := by
 rw [Yy s j h]; rfl
theorem zgt (s : ByteArray) (j : Nat) (h : j < s.size) (hp : Z0 ((bytes s).drop j) = true) : nmN ((bytes s).drop j) = (3, dgN ((bytes s).drop (j + 1)) + 1) := by
 rw [z8 s j h] at hp ⊢; simp only [nmN, hp, if_true]
theorem zfr (s : ByteArray) (j : Nat) (h : j < s.size) (hp : Z0 ((bytes s).drop j) = false) (hc : zY s[j].toNat = true) : nmN ((bytes s).drop j) = ((nmN ((bytes s).drop (j + 1))).1, (nmN ((bytes s).drop (j + 1))).2 + 1) := by
 rw [z8 s j h] at hp ⊢; simp only [nmN, hp, hc, if_true]; rfl
theorem zgu (s : ByteArray) (j : Nat) (h : j < s.size) (hp : Z0 ((bytes s).drop j) = false) (hc : zY s[j].toNat = false) : nmN ((bytes s).drop j) = (2, 0) := by
 rw [z8 s j h] at hp ⊢; simp only [nmN, hp, hc]; rfl
theorem zfs (s : ByteArray) (j : Nat) (h : ¬ j < s.size) : nmN ((bytes s).drop j) = (2, 0) := by
 rw [Yy s j h]; rfl
def zhh (s : ByteArray) (P T K i : Nat) : Prop :=
 (K = 2 /\ (nmN ((bytes s).drop i)).1 = P /\ i + (nmN ((bytes s).drop i)).2 = T) \/ (K = 3 /\ P = 3 /\ i + dgN ((bytes s).drop i) = T)
theorem jR (s : ByteArray) (k : Nat) (w : World) (hk : k < s.size) (hs : s.size <= 1099511627776) (h0 : z7 s[k].toNat = false) (h1 : zY s[k].toNat = true) :
  Calls Tryz.prog 86 #[.string s, .int .i64 (k : Int)] w fun e w' => e = .returned (.tuple #[.int .i64 ((nmN ((bytes s).drop (k + 1))).1 : Nat), .int .i64 ((k + ((nmN ((bytes s).drop (k + 1))).2 + 1) : Nat) : Int)]) /\ w' = w := by
 obtain ⟨T, hT⟩ : ∃ T, Hid (T = k + ((nmN ((bytes s).drop (k + 1))).2 + 1)) := ⟨_, (rfl : k + ((nmN ((bytes s).drop (k + 1))).2 + 1) = _)⟩
 obtain ⟨P, hP⟩ : ∃ P, Hid (P = (nmN ((bytes s).drop (k + 1))).1) := ⟨_, (rfl : (nmN ((bytes s).drop (k + 1))).1 = _)⟩
 have hkind : Hid (Vj s[k].toNat = 2) := by simp [Hid, Vj, h0, h1]
 rw [<- hT.out, <- hP.out]
 go_enter Tryz.func86, Tryz.ntmps86
 go_wp2_with fail
 go_step3
 go_wp2_with fail
 refine (Vp s[k].toNat _).mono ?_
 rintro e w1 ⟨rfl, rfl⟩
 rw [hkind.out]
 clear h1 h0
 go_wp2
 go_step3
 go_wp2
 go_loopw [6, 7] (fun K j wr => ∃ Kn i : Nat, K = .int .i64 (Kn : Int) /\ j = .int .i64 (i : Int) /\ k + 1 <= i /\ i <= s.size /\ Hid (zhh s P T Kn i) /\ wr = w1) (fun _ j _ => s.size - (intOf j).toNat)
 case atStart => exact ⟨2, k + 1, rfl, by go_num, by omega, by omega, .inl ⟨rfl, hP.out.symm, by rw [hT.out]; omega⟩, rfl⟩
 case round =>
  obtain ⟨Kn, i, rfl, rfl, hi1, hi2, hi3, rfl⟩ := hrel
  by_cases hc : i < s.size
  ·rcases hi3.out with ⟨rfl, hp, ht⟩ | ⟨rfl, rfl, ht⟩
   ·have HP : Hid ((nmN ((bytes s).drop i)).1 = P) := hp
    have HT : Hid (i + (nmN ((bytes s).drop i)).2 = T) := ht
    clear hp ht hi3
    cases a1 : Z0 ((bytes s).drop i)
    ·cases a2 : zY s[i].toNat
     ·have hN : Hid (nmN ((bytes s).drop i) = (2, 0)) := zgu s i hc a1 a2
      have a1' : Hid (Z0 ((bytes s).drop i) = false) := a1
      clear a1
      go_wp2_with (first | (go_at_call 122; refine (Vt s i _).mono ?_; rw [a1'.out]; rintro e w2 ⟨rfl, rfl⟩) | (go_at_call 121; refine (Yo _ _ false a2).mono ?_; rintro e w2 ⟨rfl, rfl⟩))
      rw [Exit.noGoto_ret]
      go_ret2
      have h2 := HP.out
      have h3 := HT.out
      rw [hN.out] at h2 h3
      exact ⟨by rw [<- h2, <- h3]; rfl, rfl⟩
     ·have hN : Hid (nmN ((bytes s).drop i) = ((nmN ((bytes s).drop (i + 1))).1, (nmN ((bytes s).drop (i + 1))).2 + 1)) := zfr s i hc a1 a2
      have a1' : Hid (Z0 ((bytes s).drop i) = false) := a1
      clear a1
      go_wp2_with (first | (go_at_call 122; refine (Vt s i _).mono ?_; rw [a1'.out]; rintro e w2 ⟨rfl, rfl⟩) | (go_at_call 121; refine (Yo _ _ true a2).mono ?_; rintro e w2 ⟨rfl, rfl⟩))
      go_roundw
      case rel =>
       have h2 := HP.out
       have h3 := HT.out
       rw [hN.out] at h2 h3
       exact ⟨2, i + 1, rfl, by go_num, by omega, by omega, .inl ⟨rfl, h2, by rw [<- h3]; simp only []; omega⟩, trivial⟩
      case measure => simp [intOf]; omega
    ·have hN : Hid (nmN ((bytes s).drop i) = (3, dgN ((bytes s).drop (i + 1)) + 1)) := zgt s i hc a1
     have a1' : Hid (Z0 ((bytes s).drop i) = true) := a1
     clear a1
     go_wp2_with (first | (go_at_call 122; refine (Vt s i _).mono ?_; rw [a1'.out]; rintro e w2 ⟨rfl, rfl⟩))
     go_roundw
     case rel =>
      have h2 := HP.out
      have h3 := HT.out
      rw [hN.out] at h2 h3
      exact ⟨3, i + 1, rfl, by go_num, by omega, by omega, .inr ⟨rfl, h2.symm, by rw [<- h3]; simp only []; omega⟩, trivial⟩
     case measure => simp [intOf]; omega
   ·have HT : Hid (i + dgN ((bytes s).drop i) = T) := ht
    clear ht hi3
    cases a2 : zY s[i].toNat
    ·have hN : Hid (dgN ((bytes s).drop i) = 0) := zeK s i hc a2
     go_wp2_with (first | (go_at_call 121; refine (Yo _ _ false a2).mono ?_; rintro e w2 ⟨rfl, rfl⟩))
     rw [Exit.noGoto_ret]
     go_ret2
     exact ⟨by rw [<- HT.out, hN.out]; rfl, rfl⟩
    ·have hN : Hid (dgN ((bytes s).drop i) = dgN ((bytes s).drop (i + 1)) + 1) := Xv s i hc a2
     go_wp2_with (first | (go_at_call 121; refine (Yo _ _ true a2).mono ?_; rintro e w2 ⟨rfl, rfl⟩))
     go_roundw
     case rel => exact ⟨3, i + 1, rfl, by go_num, by omega, by omega, .inr ⟨rfl, rfl, by have := HT.out; have := hN.out; omega⟩, trivial⟩
     case measure => simp [intOf]; omega
  ·have hfin : Kn = P /\ i = T := by
    rcases hi3.out with ⟨rfl, hp, ht⟩ | ⟨rfl, rfl, ht⟩
    ·rw [zfs s i hc] at hp ht; exact ⟨hp, ht⟩
    ·rw [zcj s i hc] at ht; exact ⟨rfl, ht⟩
   obtain ⟨rfl, rfl⟩ := hfin
   clear hi3 hP hT
   go_wp2
   rw [Exit.noGoto_ret]
   go_ret2
   exact ⟨rfl, rfl⟩
theorem zgk (s : ByteArray) (k : Nat) (h : k + 1 < s.size) : ((bytes s).drop k).take 2 = [s[k], s[k + 1]] := by
 rw [z8 s k (by omega), z8 s (k + 1) h]; rfl
theorem KS (s : ByteArray) (k : Nat) (w : World) (hk : k < s.size) (hs : s.size <= 1099511627776) (h0 : z7 s[k].toNat = false) (h1 : zY s[k].toNat = false) :
  Calls Tryz.prog 86 #[.string s, .int .i64 (k : Int)] w fun e w' => e = .returned (.tuple #[.int .i64 4, .int .i64 ((k + (sgN s[k] ((bytes s).drop (k + 1)) + 1) : Nat) : Int)]) /\ w' = w := by
 obtain ⟨T, hT⟩ : ∃ T, Hid (T = k + (sgN s[k] ((bytes s).drop (k + 1)) + 1)) := ⟨_, (rfl : k + (sgN s[k] ((bytes s).drop (k + 1)) + 1) = _)⟩
 have hkind : Hid (Vj s[k].toNat = 4) := by simp [Hid, Vj, h0, h1]
 rw [<- hT.out]
 go_enter Tryz.func86, Tryz.ntmps86
 go_wp2_with fail
 go_step3
 go_wp2_with fail
 refine (Vp s[k].toNat _).mono ?_
 rintro e w1 ⟨rfl, rfl⟩
 rw [hkind.out]
 clear h1 h0
 go_wp2
 go_step3
 go_wp2
 go_loopw [6, 7] (fun K j wr => ∃ i : Nat, K = .int .i64 4 /\ j = .int .i64 (i : Int) /\ i <= s.size /\ (i = k + 1 \/ (i = k + 2 /\ T = k + 2)) /\ wr = w1) (fun _ j _ => s.size - (intOf j).toNat)
 case atStart => exact ⟨k + 1, rfl, by go_num, by omega, .inl rfl, rfl⟩
 case round =>
  obtain ⟨i, rfl, rfl, hi2, hi3, rfl⟩ := hrel
  by_cases hc : i < s.size
  ·have hsg : Hid (YX (((bytes s).drop k).take (i + 1 - k)) = decide (i = k + 1 /\ T = k + 2)) := by
    show _ = _
    rcases hi3 with rfl | ⟨rfl, h⟩
    ·rw [show k + 1 + 1 - k = 2 by omega, zgk s k hc, hT.out, z8 s (k + 1) hc]
     simp only [sgN]
     cases YX [s[k], s[k + 1]] <;> simp
    ·rw [zbB _ (by rw [Yj, yC, zc]; omega)]
     simp
   by_cases hT2 : i = k + 1 /\ T = k + 2
   ·obtain ⟨rfl, hT3⟩ := hT2
    have hsg' : Hid (YX (((bytes s).drop k).take (k + 1 + 1 - k)) = true) := by show _ = _; rw [hsg.out]; simp [hT3]
    clear hsg
    go_wp2_with (first | (go_at_call 90; refine (jz s k (k + 1 + 1) _).mono ?_; rw [hsg'.out]; rintro e w2 ⟨rfl, rfl⟩))
    go_roundw
    case rel => exact ⟨k + 2, rfl, by go_num, by omega, .inr ⟨rfl, hT3⟩, trivial⟩
    case measure => simp [intOf]; omega
   ·have hsg' : Hid (YX (((bytes s).drop k).take (i + 1 - k)) = false) := by show _ = _; rw [hsg.out]; simp [hT2]
    have hfin : Hid (i = T) := by
     show i = T
     have := hT.out
     rcases hi3 with rfl | ⟨rfl, h⟩
     ·rw [z8 s (k + 1) hc] at this
      simp only [sgN] at this
      split at this <;> omega
     ·exact h.symm
    have hki : k <= i := by omega
    clear hsg
    go_wp2_with (first | (go_at_call 90; refine (jz s k (i + 1) _).mono ?_; rw [hsg'.out]; rintro e w2 ⟨rfl, rfl⟩))
    rw [Exit.noGoto_ret]
    go_ret2
    exact ⟨by rw [hfin.out]; rfl, rfl⟩
  ·have hfin : Hid (i = T) := by
    show i = T
    have := hT.out
    rcases hi3 with rfl | ⟨rfl, h⟩
    ·rw [Yy s (k + 1) hc] at this
     simp only [sgN] at this
     omega
    ·exact h.symm
   go_wp2
   rw [Exit.noGoto_ret]
   go_ret2
   exact ⟨by rw [hfin.out]; rfl, rfl⟩
theorem VH (s : ByteArray) (k : Nat) (w : World) (hk : k < s.size) (hs : s.size <= 1099511627776) :
  Calls Tryz.prog 86 #[.string s, .int .i64 (k : Int)] w fun e w' => e = .returned (.tuple #[.int .i64 ((zI ((bytes s).drop k)).1 : Nat), .int .i64 ((k + (zI ((bytes s).drop k)).2 : Nat) : Int)]) /\ w' = w := by
 have hd := z8 s k hk
 cases a1 : z7 s[k].toNat
 ·cases a2 : zY s[k].toNat
  ·have h := KS s k w hk hs a1 a2
   have he : zI ((bytes s).drop k) = (4, sgN s[k] ((bytes s).drop (k + 1)) + 1) := by rw [hd]; simp only [zI, a1, a2]; rfl
   rw [he]; exact h
  ·have h := jR s k w hk hs a1 a2
   have he : zI ((bytes s).drop k) = ((nmN ((bytes s).drop (k + 1))).1, (nmN ((bytes s).drop (k + 1))).2 + 1) := by rw [hd]; simp only [zI, a1, a2, if_true]; rfl
   rw [he]; exact h
 ·have h := KR s k w hk hs a1
  have he : zI ((bytes s).drop k) = (1, alN ((bytes s).drop (k + 1)) + 1) := by rw [hd]; simp only [zI, a1, if_true]
  rw [he]; exact h
theorem zer (s : ByteArray) (hp : 0 < s.size) (hl : s.size <= 24) (hw : XU (bytes s) = false) : Yg (bytes s) = decide (zI (bytes s) = (1, s.size)) := by
 rw [Yg, zc, hw]
 simp [show 1 <= s.size by omega, hl]
theorem Xk (s : ByteArray) (h : s.size = 0 \/ 24 < s.size \/ XU (bytes s) = true) : Yg (bytes s) = false := by
 rw [Yg, zc]
 rcases h with h | h | h
 ·simp [h]
 ·simp [show ¬ s.size <= 24 by omega]
 ·simp [h]
theorem KQ (s : ByteArray) (w : World) (hk : 0 < s.size) (hs : s.size <= 1099511627776) (K E : Nat) (h : zI (bytes s) = (K, E)) :
  Calls Tryz.prog 86 #[.string s, .int .i64 0] w fun e w' => e = .returned (.tuple #[.int .i64 (K : Nat), .int .i64 (E : Nat)]) /\ w' = w := by
 have := VH s 0 w hk hs
 rw [List.drop_zero, h] at this
 simpa using this
theorem Ko (s : ByteArray) (w : World) : Calls Tryz.prog 77 #[.string s] w fun e w' => e = .returned (.bool (Yg (bytes s))) /\ w' = w := by
 by_cases h0 : s.size = 0
 ·rw [Xk s (.inl h0)]
  have he := zc2 h0
  go_enter Tryz.func77, Tryz.ntmps77
  go_wp2
  go_ret
  exact ⟨rfl, rfl⟩
 have hp : 0 < s.size := by omega
 have he := zbu hp
 by_cases h1 : 24 < s.size
 ·rw [Xk s (.inr (.inl h1))]
  go_enter Tryz.func77, Tryz.ntmps77
  go_wp2
  go_ret
  exact ⟨rfl, rfl⟩
 cases hw : XU (bytes s)
 ·rw [zer s hp (by omega) hw]
  obtain ⟨K, E, hKE⟩ : ∃ K E, zI (bytes s) = (K, E) := ⟨_, _, rfl⟩
  rw [hKE]
  have HKE : Hid (zI (bytes s) = (K, E)) := hKE
  have HW : Hid (XU (bytes s) = false) := hw
  clear hKE hw
  go_enter Tryz.func77, Tryz.ntmps77
  go_wp2_with (first | (go_at_call 113; refine (qL s _).mono ?_; rw [HW.out]; rintro e w1 ⟨rfl, rfl⟩) | (go_at_call 86; refine (KQ s _ hp (by omega) K E HKE.out).mono ?_; rintro e w1 ⟨rfl, rfl⟩))
  all_goals
   go_ret
   refine ⟨?_, rfl⟩
   simp
   try (rw [Bool.eq_iff_iff]; simp)
   try omega
 ·rw [Xk s (.inr (.inr hw))]
  have HW : Hid (XU (bytes s) = true) := hw
  clear hw
  go_enter Tryz.func77, Tryz.ntmps77
  go_wp2_with (first | (go_at_call 113; refine (qL s _).mono ?_; rw [HW.out]; rintro e w1 ⟨rfl, rfl⟩))
  go_ret
  exact ⟨rfl, rfl⟩
def wordCells : List Value := words.map fun x => .string ⟨x.toArray⟩
def XJ (i : Nat) (l : List UInt8) : Bool := decide (l ∈ words.drop i)
theorem za2 (i : Nat) (l : List UInt8) (hi : i < 18) (h : words.getD i [] = l) : XJ i l = true := by
 simp only [XJ, Yz]
 rw [List.drop_eq_getElem_cons (show i < words.length from hi)]
 have h2 : i < words.length := hi
 simp [List.getD, h2] at h
 rw [<- h]
 exact List.mem_cons_self
theorem zcE (i : Nat) (l : List UInt8) (hi : i < 18) (h : ¬ words.getD i [] = l) : XJ i l = XJ (i + 1) l := by
 simp only [XJ]
 rw [List.drop_eq_getElem_cons (show i < words.length from hi)]
 have h2 : i < words.length := hi
 simp [List.getD, h2] at h
 rw [Bool.eq_iff_iff]
 simp only [Yz, Kp]
 constructor
 ·rintro (h3 | h3)
  ·exact absurd h3.symm h
  ·exact h3
 ·exact .inr
theorem zdD (w : World) (i : Nat) (hi : i < 18) : (w.alloc (.cells wordCells.toArray 9)).cell? ⟨w.heap.size, i, none⟩ = some (.string ⟨(words.getD i []).toArray⟩) := by
 have h2 : i < words.length := hi
 simp [wordCells, List.getD, h2]
theorem zes (s : ByteArray) (hp : 0 < s.size) : Yg (bytes s) = (decide (s.size <= 24) && z7 s[0].toNat && !XU (bytes s) && YC (bytes s)) := by
 have h := z8 s 0 hp
 rw [List.drop_zero] at h
 have h2 := zfE s[0] ((bytes s).drop (0 + 1))
 rw [<- h, zc] at h2
 exact h2
