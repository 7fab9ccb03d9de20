/- Joined texts of the proof. -/
import Derived.Shelf.Strings.SlTrimAscii
import Derived.Shelf.LaysM
import Derived.Shelf.Strconv.Clone
import Derived.Shelf.SlIter.Nil
import Derived.Shelf.SortM.Plain
import Derived.Shelf.SortM.SortNone
import Derived.Test.YtcmkjjlchljffaaDoorProg
import Derived.Test.YtcmkjjlchljffaaDoorJ2
import Derived.Lib.SliceRun
import Derived.Maps.RangeWalk
import Derived.Sort.Walk0
import Derived.Test.YtcmkjjlchljffaaDoorJ1

/-
  DERIVED: THE SHELF's CONTRACTS AT THIS DUMP, IN PLAIN WORDS (tools/lay-plain.mjs out of 'YtcmkjjlchljffaaDoorShelf.lean', which tools/lay-shelf.mjs wrote): THE SAME DECLARATIONS UNDER THE SAME NAMES: 'import', 'namespace', 'open', 'def', 'theorem' AND NOTHING ELSE: no command of the shelf's: FOR A HAND-IN. Each laying: the table of numbers ('.._ren') and one theorem, a field a fact of the dump's own or the kernel's comparison; each contract: ONE APPLICATION.
-/
namespace Go.Proofs
open Go.Shelf
def Tryd.lays160_ren : Go.Shelf.Ren := ⟨fun | 160 => 62 | 232 => 68 | 231 => 67 | 227 => 69 | 234 => 71 | 233 => 70 | 236 => 73 | 235 => 72 | 228 => 77 | 271 => 80 | 151 => 79 | 197 => 78 | 120 => 94 | 152 => 93 | 260 => 92 | 137 => 101 | 119 => 102 | 224 => 103 | 225 => 104 | 217 => 106 | 266 => 107 | n => n, fun | 9 => 9 | 4 => 4 | 3 => 3 | 5 => 5 | 117 => 89 | 116 => 88 | 0 => 0 | 124 => 92 | 21 => 21 | 105 => 99 | 46 => 96 | 119 => 122 | 139 => 125 | 138 => 124 | n => n, fun | 3 => 0 | 4 => 1 | n => n⟩
theorem Tryd.lays160 : Go.Proofs.Lays.n160 Tryd.prog Tryd.lays160_ren := {
  mixed := by kernel_rfl
  f119 := Tryd.func102.trans (congrArg some (by kernel_rfl))
  f120 := Tryd.func94.trans (congrArg some (by kernel_rfl))
  f137 := Tryd.func101.trans (congrArg some (by kernel_rfl))
  f151 := Tryd.func79.trans (congrArg some (by kernel_rfl))
  f152 := Tryd.func93.trans (congrArg some (by kernel_rfl))
  f160 := Tryd.func62.trans (congrArg some (by kernel_rfl))
  f197 := Tryd.func78.trans (congrArg some (by kernel_rfl))
  f217 := Tryd.func106.trans (congrArg some (by kernel_rfl))
  f224 := Tryd.func103.trans (congrArg some (by kernel_rfl))
  f225 := Tryd.func104.trans (congrArg some (by kernel_rfl))
  f227 := Tryd.func69.trans (congrArg some (by kernel_rfl))
  f228 := Tryd.func77.trans (congrArg some (by kernel_rfl))
  f231 := Tryd.func67.trans (congrArg some (by kernel_rfl))
  f232 := Tryd.func68.trans (congrArg some (by kernel_rfl))
  f233 := Tryd.func70.trans (congrArg some (by kernel_rfl))
  f234 := Tryd.func71.trans (congrArg some (by kernel_rfl))
  f235 := Tryd.func72.trans (congrArg some (by kernel_rfl))
  f236 := Tryd.func73.trans (congrArg some (by kernel_rfl))
  f260 := Tryd.func92.trans (congrArg some (by kernel_rfl))
  f266 := Tryd.func107.trans (congrArg some (by kernel_rfl))
  f271 := Tryd.func80.trans (congrArg some (by kernel_rfl))
  t0 := Tryd.underlying0
  a0 := Tryd.isAgg0
  z0 := Tryd.sizeOf0
  v0 := Tryd.zeroValue0
  t3 := Tryd.underlying3
  a3 := Tryd.isAgg3
  z3 := Tryd.sizeOf3
  v3 := Tryd.zeroValue3
  t4 := Tryd.underlying4
  a4 := Tryd.isAgg4
  z4 := Tryd.sizeOf4
  v4 := Tryd.zeroValue4
  t5 := Tryd.underlying5
  a5 := Tryd.isAgg5
  z5 := Tryd.sizeOf5
  v5 := Tryd.zeroValue5
  t9 := Tryd.underlying9
  a9 := Tryd.isAgg9
  z9 := Tryd.sizeOf9
  v9 := Tryd.zeroValue9
  t21 := Tryd.underlying21
  a21 := Tryd.isAgg21
  z21 := Tryd.sizeOf21
  v21 := Tryd.zeroValue21
  t46 := Tryd.underlying96
  a46 := Tryd.isAgg96
  z46 := Tryd.sizeOf96
  v46 := Tryd.zeroValue96
  t105 := Tryd.underlying99
  a105 := Tryd.isAgg99
  z105 := Tryd.sizeOf99
  v105 := Tryd.zeroValue99
  t116 := Tryd.underlying88
  a116 := Tryd.isAgg88
  z116 := Tryd.sizeOf88
  t117 := Tryd.underlying89
  a117 := Tryd.isAgg89
  z117 := Tryd.sizeOf89
  v117 := Tryd.zeroValue89
  t119 := Tryd.underlying122
  a119 := Tryd.isAgg122
  z119 := Tryd.sizeOf122
  t124 := Tryd.underlying92
  a124 := Tryd.isAgg92
  z124 := Tryd.sizeOf92
  v124 := Tryd.zeroValue92
  t138 := Tryd.underlying124
  a138 := Tryd.isAgg124
  z138 := Tryd.sizeOf124
  v138 := Tryd.zeroValue124
  t139 := Tryd.underlying125
  a139 := Tryd.isAgg125
  z139 := Tryd.sizeOf125
  v139 := Tryd.zeroValue125
  g3 := by kernel_rfl
  g4 := by kernel_rfl }
open Go.RowKit in
/-- strings.Trim by a set of letters below 128. -/
theorem Tryd.trim_any (s cutset : ByteArray) (w : World) (hs : s.size ≤ 9223372036854775807) (hcs : cutset.size < 4294967281) (hascii : ∀ (j : Nat) b, cutset.data.toList[j]? = some b → b.toNat < 128) :
    Calls Tryd.prog 62 #[.string s, .string cutset] w fun e w' => e = .returned (.string ⟨(Lib.trimS s.data.toList cutset.data.toList).toArray⟩) ∧ Below w.heap.size w w' := Any.strings_Trim_laid Tryd.lays160 (by kernel_rfl) s cutset w hs hcs hascii
def Tryd.laysM316_ren : Go.Shelf.Ren := ⟨fun | 316 => 66 | n => n, fun | 9 => 9 | 3 => 3 | 4 => 4 | 37 => 29 | 0 => 0 | 127 => 97 | 5 => 5 | n => n, fun | n => n⟩
theorem Tryd.laysM316 : Go.Proofs.LaysM.n316 Tryd.prog Tryd.laysM316_ren := {
  mixed := by kernel_rfl
  f316 := Tryd.func66.trans (congrArg some (by kernel_rfl))
  t0 := Tryd.underlying0
  a0 := Tryd.isAgg0
  z0 := Tryd.sizeOf0
  v0 := Tryd.zeroValue0
  t3 := Tryd.underlying3
  a3 := Tryd.isAgg3
  z3 := Tryd.sizeOf3
  v3 := Tryd.zeroValue3
  t4 := Tryd.underlying4
  a4 := Tryd.isAgg4
  z4 := Tryd.sizeOf4
  v4 := Tryd.zeroValue4
  t9 := Tryd.underlying9
  a9 := Tryd.isAgg9
  z9 := Tryd.sizeOf9
  v9 := Tryd.zeroValue9
  t37 := Tryd.underlying29
  a37 := Tryd.isAgg29
  z37 := Tryd.sizeOf29
  v37 := Tryd.zeroValue29
  t127 := Tryd.underlying97
  a127 := Tryd.isAgg97
  z127 := Tryd.sizeOf97
  v127 := Tryd.zeroValue97
  t5 := Tryd.underlying5
  a5 := Tryd.isAgg5
  z5 := Tryd.sizeOf5
  v5 := Tryd.zeroValue5
  i0 := by kernel_rfl
  i3 := by kernel_rfl
  i4 := by kernel_rfl
  i5 := by kernel_rfl
  i9 := by kernel_rfl
  i37 := by kernel_rfl
  i127 := by kernel_rfl }
open Go.RowKit in
/-- strings.Clone's inner call. -/
theorem Tryd.stringslite_Clone (s : ByteArray) (w : World) (hlim : s.size ≤ 281474976710656) :
    Calls Tryd.prog 66 #[.string s] w fun e w' => e = .returned (.string s) ∧ Below w.heap.size w w' := Any.stringslite_Clone Tryd.laysM316 s w hlim
def Tryd.keys59_ren : Go.Shelf.Ren := ⟨fun | 7 => 59 | 10 => 65 | n => n, fun | 23 => 33 | 26 => 9 | 3 => 66 | 28 => 79 | 0 => 0 | 27 => 78 | 33 => 62 | 4 => 4 | n => n, fun | n => n⟩
theorem Tryd.keys59 : Go.Proofs.SlLaysZ.n7 Tryd.prog Tryd.keys59_ren := {
  mixed := by kernel_rfl
  f7 := ⟨Tryd.f59.name, by decide, Tryd.func59.trans (congrArg some (by kernel_rfl))⟩
  f10 := ⟨Tryd.f65.name, by decide, Tryd.func65.trans (congrArg some (by kernel_rfl))⟩
  t0 := Tryd.underlying0
  a0 := Tryd.isAgg0
  z0 := Tryd.sizeOf0
  v0 := Tryd.zeroValue0
  t4 := Tryd.underlying4
  a4 := Tryd.isAgg4
  z4 := Tryd.sizeOf4
  v4 := Tryd.zeroValue4
  t23 := Tryd.underlying33
  a23 := Tryd.isAgg33
  z23 := Tryd.sizeOf33
  v23 := Tryd.zeroValue33
  t26 := Tryd.underlying9
  a26 := Tryd.isAgg9
  z26 := Tryd.sizeOf9
  v26 := Tryd.zeroValue9
  t27 := Tryd.underlying78
  a27 := Tryd.isAgg78
  z27 := Tryd.sizeOf78
  v27 := Tryd.zeroValue78
  t28 := Tryd.underlying79
  a28 := Tryd.isAgg79
  z28 := Tryd.sizeOf79
  v28 := Tryd.zeroValue79
  t33 := Tryd.underlying62
  a33 := Tryd.isAgg62
  z33 := Tryd.sizeOf62
  v33 := Tryd.zeroValue62 }
def Tryd.sorted58_ren : Go.Shelf.Ren := ⟨fun | 6 => 58 | 8 => 63 | 9 => 64 | 11 => 74 | 13 => 76 | 12 => 75 | 23 => 90 | 24 => 91 | 14 => 81 | 15 => 82 | 16 => 83 | 17 => 84 | 18 => 85 | 19 => 86 | 20 => 87 | 21 => 88 | 22 => 89 | 25 => 95 | 26 => 96 | 27 => 97 | 28 => 98 | 29 => 99 | 30 => 100 | 31 => 105 | n => n, fun | 26 => 9 | 28 => 79 | 24 => 44 | 0 => 0 | 3 => 3 | 37 => 96 | 48 => 112 | 50 => 114 | 4 => 4 | 40 => 104 | 39 => 103 | 45 => 109 | 5 => 5 | 9 => 9 | 51 => 116 | 55 => 120 | 57 => 130 | 58 => 131 | 33 => 62 | n => n, fun | n => n⟩
theorem Tryd.sorted58 : Go.Proofs.SlLaysZ.n6 Tryd.prog Tryd.sorted58_ren := {
  mixed := by kernel_rfl
  f6 := ⟨Tryd.f58.name, by decide, Tryd.func58.trans (congrArg some (by kernel_rfl))⟩
  f8 := ⟨Tryd.f63.name, by decide, Tryd.func63.trans (congrArg some (by kernel_rfl))⟩
  f11 := ⟨Tryd.f74.name, by decide, Tryd.func74.trans (congrArg some (by kernel_rfl))⟩
  t0 := Tryd.underlying0
  a0 := Tryd.isAgg0
  z0 := Tryd.sizeOf0
  v0 := Tryd.zeroValue0
  t24 := Tryd.underlying44
  a24 := Tryd.isAgg44
  z24 := Tryd.sizeOf44
  v24 := Tryd.zeroValue44
  t26 := Tryd.underlying9
  a26 := Tryd.isAgg9
  z26 := Tryd.sizeOf9
  v26 := Tryd.zeroValue9
  t28 := Tryd.underlying79
  a28 := Tryd.isAgg79
  z28 := Tryd.sizeOf79
  v28 := Tryd.zeroValue79
  i26 := by kernel_rfl }
def Tryd.sort64_ren : Go.Shelf.Ren := ⟨fun | 6 => 64 | 8 => 76 | 9 => 75 | 19 => 90 | 20 => 91 | 21 => 81 | 22 => 82 | 23 => 83 | 24 => 84 | 25 => 85 | 26 => 86 | 27 => 87 | 28 => 88 | 29 => 89 | 36 => 95 | 31 => 96 | 32 => 97 | 37 => 98 | 38 => 99 | 39 => 100 | 41 => 105 | n => n, fun | 27 => 44 | 29 => 9 | 3 => 3 | 32 => 96 | 26 => 44 | 0 => 0 | 44 => 112 | 46 => 114 | 4 => 4 | 36 => 104 | 35 => 103 | 41 => 109 | 5 => 5 | 9 => 9 | 53 => 116 | 57 => 120 | 63 => 130 | 64 => 131 | n => n, fun | n => n⟩
theorem Tryd.sort64 : Go.Proofs.SlLaysM.n6 Tryd.prog Tryd.sort64_ren := {
  mixed := by kernel_rfl
  f6 := ⟨Tryd.f64.name, by decide, Tryd.func64.trans (congrArg some (by kernel_rfl))⟩
  f8 := Tryd.func76.trans (congrArg some (by kernel_rfl))
  f9 := ⟨Tryd.f75.name, by decide, Tryd.func75.trans (congrArg some (by kernel_rfl))⟩
  f19 := Tryd.func90.trans (congrArg some (by kernel_rfl))
  f20 := Tryd.func91.trans (congrArg some (by kernel_rfl))
  f21 := ⟨Tryd.f81.name, by decide, Tryd.func81.trans (congrArg some (by kernel_rfl))⟩
  f22 := ⟨Tryd.f82.name, by decide, Tryd.func82.trans (congrArg some (by kernel_rfl))⟩
  f23 := ⟨Tryd.f83.name, by decide, Tryd.func83.trans (congrArg some (by kernel_rfl))⟩
  f24 := ⟨Tryd.f84.name, by decide, Tryd.func84.trans (congrArg some (by kernel_rfl))⟩
  f25 := ⟨Tryd.f85.name, by decide, Tryd.func85.trans (congrArg some (by kernel_rfl))⟩
  f26 := ⟨Tryd.f86.name, by decide, Tryd.func86.trans (congrArg some (by kernel_rfl))⟩
  f27 := ⟨Tryd.f87.name, by decide, Tryd.func87.trans (congrArg some (by kernel_rfl))⟩
  f28 := ⟨Tryd.f88.name, by decide, Tryd.func88.trans (congrArg some (by kernel_rfl))⟩
  f29 := ⟨Tryd.f89.name, by decide, Tryd.func89.trans (congrArg some (by kernel_rfl))⟩
  f31 := Tryd.func96.trans (congrArg some (by kernel_rfl))
  f32 := Tryd.func97.trans (congrArg some (by kernel_rfl))
  f36 := ⟨Tryd.f95.name, by decide, Tryd.func95.trans (congrArg some (by kernel_rfl))⟩
  f37 := ⟨Tryd.f98.name, by decide, Tryd.func98.trans (congrArg some (by kernel_rfl))⟩
  f38 := ⟨Tryd.f99.name, by decide, Tryd.func99.trans (congrArg some (by kernel_rfl))⟩
  f39 := ⟨Tryd.f100.name, by decide, Tryd.func100.trans (congrArg some (by kernel_rfl))⟩
  f41 := ⟨Tryd.f105.name, by decide, Tryd.func105.trans (congrArg some (by kernel_rfl))⟩
  t0 := Tryd.underlying0
  a0 := Tryd.isAgg0
  z0 := Tryd.sizeOf0
  v0 := Tryd.zeroValue0
  t3 := Tryd.underlying3
  a3 := Tryd.isAgg3
  z3 := Tryd.sizeOf3
  v3 := Tryd.zeroValue3
  t4 := Tryd.underlying4
  a4 := Tryd.isAgg4
  z4 := Tryd.sizeOf4
  v4 := Tryd.zeroValue4
  t5 := Tryd.underlying5
  a5 := Tryd.isAgg5
  z5 := Tryd.sizeOf5
  v5 := Tryd.zeroValue5
  t9 := Tryd.underlying9
  a9 := Tryd.isAgg9
  z9 := Tryd.sizeOf9
  v9 := Tryd.zeroValue9
  t26 := Tryd.underlying44
  a26 := Tryd.isAgg44
  z26 := Tryd.sizeOf44
  v26 := Tryd.zeroValue44
  t27 := Tryd.underlying44
  a27 := Tryd.isAgg44
  z27 := Tryd.sizeOf44
  v27 := Tryd.zeroValue44
  t29 := Tryd.underlying9
  a29 := Tryd.isAgg9
  z29 := Tryd.sizeOf9
  v29 := Tryd.zeroValue9
  t32 := Tryd.underlying96
  a32 := Tryd.isAgg96
  z32 := Tryd.sizeOf96
  v32 := Tryd.zeroValue96
  t35 := Tryd.underlying103
  a35 := Tryd.isAgg103
  z35 := Tryd.sizeOf103
  v35 := Tryd.zeroValue103
  t36 := Tryd.underlying104
  a36 := Tryd.isAgg104
  z36 := Tryd.sizeOf104
  v36 := Tryd.zeroValue104
  t41 := Tryd.underlying109
  a41 := Tryd.isAgg109
  z41 := Tryd.sizeOf109
  v41 := Tryd.zeroValue109
  t44 := Tryd.underlying112
  a44 := Tryd.isAgg112
  z44 := Tryd.sizeOf112
  v44 := Tryd.zeroValue112
  t46 := Tryd.underlying114
  a46 := Tryd.isAgg114
  z46 := Tryd.sizeOf114
  v46 := Tryd.zeroValue114
  t53 := Tryd.underlying116
  a53 := Tryd.isAgg116
  z53 := Tryd.sizeOf116
  v53 := Tryd.zeroValue116
  t57 := Tryd.underlying120
  a57 := Tryd.isAgg120
  z57 := Tryd.sizeOf120
  v57 := Tryd.zeroValue120
  t63 := Tryd.underlying130
  a63 := Tryd.isAgg130
  z63 := Tryd.sizeOf130
  v63 := Tryd.zeroValue130
  t64 := Tryd.underlying131
  a64 := Tryd.isAgg131
  z64 := Tryd.sizeOf131
  v64 := Tryd.zeroValue131 }
end Go.Proofs

/- The landed disk: copies of texts and of bytes; the map's laws at a single step. -/
namespace Go.Proofs.YtcmkjjlchljffaaDoor
open Go.RowKit
set_option linter.unusedVariables false
set_option maxRecDepth 100000
set_option maxHeartbeats 3200000

theorem str_clone (s : ByteArray) (w : World) (hs : s.size ≤ 281474976710656) : Calls Tryd.prog 61 #[.string s] w fun r w' => r = .returned (.string s) ∧ Below w.heap.size w w' := by
  have HC := hidU (Tryd.stringslite_Clone s w hs)
  go_enter Tryd.func61, Tryd.ntmps61
  go_wp2_with (go_at_call 66; refine HC.out.mono ?_; rintro _ w1 ⟨rfl, hb⟩)
  go_ret
  exact ⟨rfl, hb⟩
theorem clone_nil (n c : Nat) (w : World) : Calls Tryd.prog 50 #[.slice none n c] w fun r w' => r = .returned (.slice none 0 0) ∧ w' = w := by
  have hq : (binOp .eql 29 (.slice none n c) (.slice none 0 0)).run Tryd.prog w = .ok (.bool true) w := Lib.run_eql_slice_nil w 29 _ none n c 0 0 Tryd.underlying29
  go_enter Tryd.func50, Tryd.ntmps50
  go_wp2
  go_ret
  exact ⟨rfl, rfl⟩
theorem clone_some (ad : Addr) (n c : Nat) (bs : List UInt8) (w : World) (h : Row w (some ad) bs) (hn : bs.length = n) (hc : n ≤ c) (hm : n ≤ 140737488355328) :
    Calls Tryd.prog 50 #[.slice (some ad) n c] w fun r w' => ∃ v, r = .returned v ∧ OwnX eB w.heap.size w' v bs ∧ Below w.heap.size w w' := by
  have HR := hidU (rowB.2 h)
  have hq : (binOp .eql 29 (.slice (some ad) n c) (.slice none 0 0)).run Tryd.prog w = .ok (.bool false) w := Lib.run_eql_slice_nil w 29 _ (some ad) n c 0 0 Tryd.underlying29
  clear h
  go_enter Tryd.func50, Tryd.ntmps50
  go_wp2_with (refine wpList_layB0 rfl rfl ?_; intro w1 hO hb hs; refine Hid.out ?_)
  have HR1 := hidU (HR.out.below hb)
  have HO := hidU hO
  have HB := hidU hb
  have hbase : w.heap.size ≤ w1.heap.size := hb.size
  refine hidU ?_
  clear hs hO hb
  go_wp2_with (refine wpList_appX eB rfl (.tmp 5) (.tmp 6) rfl w.heap.size _ _ n c rfl rfl HO.out hn (fun h => by cases h) hc HR1.out (by unfold maxLen; simp; omega) (by show (_ + n) * 1 ≤ _; simp; omega) hbase ?_; intro v' w2 hO2 hg; refine Hid.out ?_)
  have HB2 : Hid (Below w.heap.size w w2) := by
    refine HB.out.trans ?_
    exact (Chg.of_grown (K := fun k => w.heap.size ≤ k) hg (fun k hk => (HO.out.block k hk).1)).below hbase (fun k hk => hk)
  rw [List.nil_append] at hO2
  refine hidU ?_
  clear hg
  go_wp2
  go_ret
  exact ⟨_, rfl, hO2, HB2.out⟩
end Go.Proofs.YtcmkjjlchljffaaDoor

/- The sorted keys of a map, at this seat. -/
namespace Go.Proofs
open Go.RowKit Go.Maps Go.Sort Go.Shelf

/-- slices.Sort's two contracts at this dump, at the fence that asks nothing. -/
theorem Tryd.sorts58 (m : Nat) : AnyZ.SortsIn Tryd.prog Tryd.sorted58_ren Fence.wide m :=
  ⟨fun blk off cap ss W hH hblk hsz => callsIn_wide.2 (AnyM.slices_Sort_string Tryd.sort64 blk off cap ss W hH hblk hsz),
   fun p cap W => callsIn_wide.2 (AnyM.slices_Sort_string_none Tryd.sort64 p cap W)⟩

/-- maps.Keys[map[string]assize/disk.file,string,assize/disk.file], at whatever map, the nil one too: a function value over ONE NEW BLOCK, which holds the map. -/
theorem Tryd.maps_Keys_59 (mb : Option Nat) (W : World) : CallsIn Fence.wide 5 Tryd.prog 59 #[.map mb] W fun e w' => e = .returned (.func (.func 65) #[] #[.pointer (some ⟨W.heap.size, 0, none⟩)]) ∧ w' = W.alloc (.cells #[.map mb] 33) :=
  AnyZ.keys_in Tryd.keys59 Fence.wide 5 trivial rfl mb W

set_option maxHeartbeats 1000000 in
/-- slices.Sorted[string] AT WHAT maps.Keys[map[string]assize/disk.file,string,assize/disk.file] HANDED BACK FOR A MAP THAT IS NOT nil ('w': the world AHEAD of maps.Keys' call): A NEW SLICE THAT HOLDS THE MAP's KEYS, SORTED; nil just where it has none; nothing that lay before has turned. -/
theorem Tryd.slices_Sorted_keys_58_59 {H : Type} (b nn : Nat) (D0 : DataW H) (R : Value → Option (DataW H × List MemPlace)) (w : World) (hown : w.ownsMap Tryd.prog 9 R b nn D0) (hmax : Maps.size D0 ≤ maxLen) (hbytes : Maps.size D0 * 16 ≤ 140737488355328) :
    CallsIn Fence.wide 5 Tryd.prog 58 #[.func (.func 65) #[] #[.pointer (some ⟨w.heap.size, 0, none⟩)]] (w.alloc (.cells #[.map (some b)] 33)) fun e w' => ∃ (v : Value) (ss : List (List UInt8)), e = .returned v ∧ ss.Perm (strKeys D0) ∧
      w'.ownsRow (w.alloc (.cells #[.map (some b)] 33)).heap.size 9 1 v ss.length ((ss.mergeSort (fun x y => decide (x ≤ y))).map encStr) ∧ (v = .slice none 0 0 ↔ ss = []) ∧ Below (w.alloc (.cells #[.map (some b)] 33)).heap.size (w.alloc (.cells #[.map (some b)] 33)) w' := by
  have hbl := hown.lt
  have hseq : SeqGives Fence.wide 2 Tryd.prog 65 #[.pointer (some ⟨w.heap.size, 0, none⟩)] encStr (fun ss => ss.Perm (strKeys D0)) (Maps.size D0) (w.alloc (.cells #[.map (some b)] 33)) :=
    AnyZ.keys_gives (ρ := Tryd.keys59_ren) { Tryd.keys59 with } Fence.wide _ trivial rfl (by omega) w.heap.size b nn D0 _ (by simp) (by simp) (by
      obtain ⟨es, clock, hb, Ft, hs, hD⟩ := hown
      exact ⟨es, clock, (Below.heap_alloc _ _ b hbl).trans hb, Ft, hs, hD⟩)
  exact AnyZ.sorted_in Tryd.sorted58 Fence.wide 5 trivial trivial trivial trivial rfl (by omega) (Tryd.sorts58 _) (enters_of Tryd.func64 (by kernel_rfl) rfl) 65 #[.pointer (some ⟨w.heap.size, 0, none⟩)] trivial (enters_of Tryd.func65 (by kernel_rfl) rfl) _ _ hmax hbytes _ hseq

end Go.Proofs

/- Ranging over a map of texts; the sorted names of a map. -/
namespace Go.Proofs.YtcmkjjlchljffaaDoor
open Go.RowKit Go.Maps Go.MapKept Go.WideMaps
set_option linter.unusedVariables false
set_option maxRecDepth 100000

section
variable {α : Type} {t : Mt α} {w w' : World} {b r : Nat} {m : List (ByteArray × α)}
/-- A range over a map under way: what was told, what is left. -/
def Rg (t : Mt α) (w : World) (b r : Nat) (m dn lf : List (ByteArray × α)) : Prop :=
  ∃ es clock since seen c0, w.heap[b]? = some (.map es clock) ∧ Stamped es clock ∧ es.toList.map (fun e => (e.key, e.val)) = m.map (fun p => (Value.string p.1, t.val p.2)) ∧
    w.heap[r]? = some (.mapIter (some b) since seen c0) ∧ (∀ x ∈ es.toList, x.born < since) ∧ since ≤ c0 ∧ since ≤ clock ∧
    (es.toList.filter fun e => !seen.contains e.born).map (fun e => (e.key, e.val)) = lf.map (fun p => (Value.string p.1, t.val p.2)) ∧ (dn ++ lf).Perm m
theorem Rg.same {dn lf : List (ByteArray × α)} (h : Rg t w b r m dn lf) (e1 : w'.heap[b]? = w.heap[b]?) (e2 : w'.heap[r]? = w.heap[r]?) : Rg t w' b r m dn lf := by
  obtain ⟨es, clock, since, seen, c0, h1, h2, h3, h4, h5⟩ := h
  exact ⟨es, clock, since, seen, c0, e1.trans h1, h2, h3, e2.trans h4, h5⟩
theorem Rg.lt {dn lf : List (ByteArray × α)} (h : Rg t w b r m dn lf) : b < w.heap.size ∧ r < w.heap.size := by
  obtain ⟨es, clock, since, seen, c0, h1, h2, h3, h4, h5⟩ := h
  exact ⟨heapLt h1, heapLt h4⟩
theorem Rg.below {dn lf : List (ByteArray × α)} (h : Rg t w b r m dn lf) (hb : Below w.heap.size w w') : Rg t w' b r m dn lf := h.same (hb.block b h.lt.1) (hb.block r h.lt.2)
theorem Rg.perm {dn lf : List (ByteArray × α)} (h : Rg t w b r m dn lf) : (dn ++ lf).Perm m := by
  obtain ⟨es, clock, since, seen, c0, h1, h2, h3, h4, h5, h6, h7, h8, h9⟩ := h
  exact h9
theorem Rg.left {dn lf : List (ByteArray × α)} (h : Rg t w b r m dn lf) : w.rangeLeft b r = lf.length := by
  obtain ⟨es, clock, since, seen, c0, h1, h2, h3, h4, h5, h6, h7, h8, h9⟩ := h
  have := congrArg List.length h8
  simp only [List.length_map] at this
  simp only [World.rangeLeft, h1, h4, leftOf]
  rw [← this, ← Array.toList_filter, Array.length_toList]
theorem MapS.range (h : MapS t w b m) : ∃ w', (Instr.range t.T (.map (some b))).run Tryd.prog w = .ok (.pointer (some ⟨w.heap.size, 0, none⟩)) w' ∧ Rg t w' b w.heap.size m [] m ∧ Below w.heap.size w w' ∧ w'.heap.size = w.heap.size + 1 := by
  have hlt := h.lt
  obtain ⟨es, clock, h1, h2, h3, h4⟩ := h
  refine ⟨_, run_range_map w t.T 9 t.E b es clock t.und h1, ⟨es, clock, clock, #[], clock, ((MapKept.heap_alloc w _).2 b hlt).trans h1, h2, h3, (MapKept.heap_alloc w _).1, h2.1, Nat.le_refl _, Nat.le_refl _, ?_, by simp⟩, (Below.refl _ w).alloc (Nat.le_refl _) _, by simp⟩
  rw [List.filter_eq_self.2 (fun x _ => by simp)]
  exact h3
theorem filter_split {α : Type} (f g : α → Bool) (l1 l2 : List α) (e : α) (he : g e = false) (h1 : ∀ x ∈ l1 ++ l2, g x = f x) (hf : f e = true) : (l1 ++ e :: l2).filter f = l1.filter f ++ e :: l2.filter f ∧ (l1 ++ e :: l2).filter g = l1.filter f ++ l2.filter f := by
  constructor
  · rw [List.filter_append, List.filter_cons_of_pos hf]
  · rw [List.filter_append, List.filter_cons_of_neg (by rw [he]; simp)]
    congr 1
    · exact List.filter_congr fun x hx => h1 x (List.mem_append.2 (.inl hx))
    · exact List.filter_congr fun x hx => h1 x (List.mem_append.2 (.inr hx))
theorem Rg.next {dn lf : List (ByteArray × α)} (h : Rg t w b r m dn lf) (ty : TypeId) :
    (lf = [] ∧ (Instr.next (.pointer (some ⟨r, 0, none⟩)) false ty).run Tryd.prog w = .ok (.tuple #[.bool false]) w) ∨
    ∃ p lf' w', (Instr.next (.pointer (some ⟨r, 0, none⟩)) false ty).run Tryd.prog w = .ok (.tuple #[.bool true, .string p.1, t.val p.2]) w' ∧ lf.Perm (p :: lf') ∧ Rg t w' b r m (dn ++ [p]) lf' ∧ But r w w' ∧ w'.heap.size = w.heap.size ∧
      (Instr.entry (.pointer (some ⟨r, 0, none⟩))).run Tryd.prog w' = .ok (.tuple #[.string p.1, t.val p.2]) w' := by
  obtain ⟨es, clock, since, seen, c0, h1, h2, h3, h4, h5, h6, h7, h8, h9⟩ := h
  have hst := (stamped_iff es clock).1 h2
  rcases run_next_at (P := Tryd.prog) w ty r b since c0 seen es clock h4 h1 h5 h6 with ⟨h0, hrun⟩ | ⟨e, he, w1, hal, hrun⟩
  · refine .inl ⟨?_, hrun⟩
    have e1 : (es.toList.filter fun e => !seen.contains e.born) = [] := by
      unfold leftOf at h0
      rw [← Array.toList_filter]
      rw [Array.eq_empty_of_size_eq_zero h0]
    rw [e1] at h8
    cases lf with
    | nil => rfl
    | cons a l => cases h8
  · obtain ⟨hem, hes⟩ := mem_left he
    obtain ⟨l1, l2, hl⟩ := List.append_of_mem hem
    have hnd : (es.toList.map (·.born)).Nodup := h2.2.1
    have hne : ∀ x ∈ l1 ++ l2, (x.born == e.born) = false := by
      rw [hl, List.map_append, List.map_cons, List.nodup_append] at hnd
      obtain ⟨n1, n2, n3⟩ := hnd
      rw [List.nodup_cons] at n2
      intro x hx
      rw [beq_eq_false_iff_ne]
      rcases List.mem_append.1 hx with q | q
      · exact n3 _ (List.mem_map.2 ⟨x, q, rfl⟩) _ (.head _)
      · intro e1
        exact n2.1 (e1 ▸ List.mem_map.2 ⟨x, q, rfl⟩)
    obtain ⟨f1, f2⟩ := filter_split (fun x : MapEntry => !seen.contains x.born) (fun x => !(seen.push e.born).contains x.born) l1 l2 e (by rw [contains_push]; simp) (fun x hx => by rw [contains_push, hne x hx, Bool.or_false]) (by rw [hes]; rfl)
    rw [← hl] at f1 f2
    rw [f1, List.map_append, List.map_cons] at h8
    obtain ⟨a1, a2, rfl, b1, b2⟩ := List.map_eq_append_iff.1 h8.symm
    cases a2 with
    | nil => cases b2
    | cons p a2 =>
      rw [List.map_cons] at b2
      injection b2 with b2 b3
      injection b2 with k1 k2
      have hr1 : w1.heap[r]? = some (.mapIter (some b) since seen c0) := by rcases hal with rfl | rfl <;> exact h4
      have hb1 : w1.heap[b]? = some (.map es clock) := by rcases hal with rfl | rfl <;> exact h1
      have hset := heap_set (o' := .mapIter (some b) since (seen.push e.born) clock) hr1
      have hbr : b ≠ r := by rintro rfl; rw [h1] at h4; cases h4
      have hb' := (hset.2 b hbr).trans hb1
      have hen := run_entry_at (P := Tryd.prog) (ChangeMaps.setBlock w1 r (.mapIter (some b) since (seen.push e.born) clock)) r b since seen es clock e hset.1 hb' hem hnd
      rw [← k1, ← k2] at hrun hen
      refine .inr ⟨p, a1 ++ a2, _, hrun, List.perm_middle, ⟨es, clock, since, seen.push e.born, clock, hb', h2, h3, hset.1, h5, h7, h7, ?_, ?_⟩, ?_, ?_, hen⟩
      · rw [f2, List.map_append, List.map_append, b1, b3]
      · rw [List.append_assoc]
        exact (show (dn ++ p :: (a1 ++ a2)).Perm m from (List.Perm.append_left dn (List.perm_middle (l₁ := a1) (l₂ := a2) (a := p)).symm).trans h9)
      · rcases hal with rfl | rfl <;> exact ⟨rfl, rfl, rfl, by simp [ChangeMaps.setBlock], fun i _ hi => hset.2 i hi⟩
      · rcases hal with rfl | rfl <;> simp [ChangeMaps.setBlock]
end
section
variable {α : Type} (t : Mt α) {o : Oper} {a : Act} {w : World} {Q : Exit → Act → World → Prop} {ops : Array Oper} {rest : List Oper} {b r : Nat} {m dn lf : List (ByteArray × α)}
theorem wpList_range (hg : o.guard = none) (mo : Operand) (hop : o.op = Op.range t.T mo) (hm : a.eval mo = .map (some b)) (h : MapS t w b m)
    (hK : ∀ w', Rg t w' b w.heap.size m [] m → Below w.heap.size w w' → w'.heap.size = w.heap.size + 1 → wpList Tryd.prog ops Q rest (a.put o.dst (.pointer (some ⟨w.heap.size, 0, none⟩))) w') : wpList Tryd.prog ops Q (o :: rest) a w := by
  refine wpList_plain hg fun K' hK' => ?_
  obtain ⟨w', hrun, r1, r2, r3⟩ := h.range
  unfold Oper.wp
  simp [execOp, hop, hm, hrun, Result.andThen]
  exact hK' _ _ (hK w' r1 r2 r3)
theorem wpList_next (hg : o.guard = none) (it : Operand) (hop : o.op = Op.next it false) (hit : a.eval it = .pointer (some ⟨r, 0, none⟩)) (h : Rg t w b r m dn lf)
    (hDone : lf = [] → wpList Tryd.prog ops Q rest (a.put o.dst (.tuple #[.bool false])) w)
    (hMore : ∀ p lf' w', lf.Perm (p :: lf') → Rg t w' b r m (dn ++ [p]) lf' → But r w w' → w'.heap.size = w.heap.size →
      (Instr.entry (.pointer (some ⟨r, 0, none⟩))).run Tryd.prog w' = .ok (.tuple #[.string p.1, t.val p.2]) w' → wpList Tryd.prog ops Q rest (a.put o.dst (.tuple #[.bool true, .string p.1, t.val p.2])) w') : wpList Tryd.prog ops Q (o :: rest) a w := by
  refine wpList_plain hg fun K' hK' => ?_
  unfold Oper.wp
  rcases h.next o.type with ⟨h0, hrun⟩ | ⟨p, lf', w', hrun, r1, r2, r3, r4, r5⟩
  · simp [execOp, hop, hit, hrun, Result.andThen]
    exact hK' _ _ (hDone h0)
  · simp [execOp, hop, hit, hrun, Result.andThen]
    exact hK' _ _ (hMore p lf' w' r1 r2 r3 r4 r5)
/-- An update as one step of a region that draws its order. -/
theorem wp_upd {K : Act → World → Prop} (mo xo vo : Operand) (hop : o.op = Op.mapUpdate t.T mo xo vo) (s : ByteArray) (x : α) (hm : a.eval mo = .map (some b)) (hx : a.eval xo = .string s) (hv : a.eval vo = t.val x) (h : MapS t w b m) (hs : s.size ≤ maxLen)
    (hK : ∀ w', MapS t w' b (updM m s x) → But b w w' → w'.heap.size = w.heap.size → K (a.put o.dst undef) w') : o.wp Tryd.prog a w K Q := by
  obtain ⟨w', hrun, r1, r2, r3⟩ := h.update hs x
  unfold Oper.wp
  simp [execOp, hop, hm, hx, hv, hrun, Result.andThen]
  exact hK w' r1 r2 r3
theorem wp_del {K : Act → World → Prop} (mo xo : Operand) (hop : o.op = Op.call { callee := Callee.builtin Builtin.delete, args := #[mo, xo], argTypes := #[t.T, 9] }) (s : ByteArray) (hm : a.eval mo = .map (some b)) (hx : a.eval xo = .string s) (h : MapS t w b m) (hs : s.size ≤ maxLen)
    (hK : ∀ w', MapS t w' b (delM m s) → But b w w' → w'.heap.size = w.heap.size → K (a.put o.dst (.tuple #[])) w') : o.wp Tryd.prog a w K Q := by
  obtain ⟨w', hrun, r1, r2, r3⟩ := h.delete hs o.type
  unfold Oper.wp
  simp [execOp, hop, resolve, invoke, builtin, hm, hx, hrun, Result.andThen]
  exact hK w' r1 r2 r3
end
end Go.Proofs.YtcmkjjlchljffaaDoor

/- The landed disk: a file is put into the map; a file is cut, or made safe. -/
namespace Go.Proofs.YtcmkjjlchljffaaDoor
open Go.RowKit
set_option linter.unusedVariables false
set_option maxRecDepth 100000
set_option maxHeartbeats 6400000

theorem size66 (w : World) : (sizeOf 66).run Tryd.prog w = .ok 3 w := by kernel_rfl
/-- put: the map has the file; nothing else has changed. -/
theorem put_any (g mb : Nat) (m : FMap) (a : Option Addr) (n c : Nat) (bs : List UInt8) (sf : Nat) (hd : Bool) (nm : ByteArray) (w : World) (q : w.cell? ⟨g, 2, none⟩ = some (.map (some mb))) (hp : MapS mF w mb m) (hs40 : nm.size ≤ 281474976710656) :
    Calls Tryd.prog 38 #[.pointer (some ⟨g, 0, none⟩), .string nm, .agg #[.slice a n c, .int .i64 (sf : Int), .bool hd]] w fun r w' => r = .returned (.tuple #[]) ∧ MapS mF w' mb (updM m nm ⟨.slice a n c, bs, sf, hd⟩) ∧ ∃ y, Below w.heap.size w y ∧ But mb y w' := by
  have hsz : nm.size ≤ maxLen := by unfold maxLen; omega
  go_enter Tryd.func38, Tryd.ntmps38
  go_wp2
  obtain ⟨y, hx⟩ : ∃ x, x = w.alloc (.cells #[.slice a n c, .int .i64 (sf : Int), .bool hd] 66) := ⟨_, rfl⟩
  have hA : At 66 y w.heap.size [.slice a n c, .int .i64 (sf : Int), .bool hd] := by rw [hx]; exact _root_.Go.heap_alloc_new w _
  have hBx : Hid (Below w.heap.size w y) := by rw [hx]; exact (Below.refl _ w).alloc (Nat.le_refl _) _
  have HP := hidU (hp.below hBx.out)
  have q := (hBx.out.cell (lt_of_cell q)).trans q
  have c0 : y.cell? ⟨w.heap.size, 0, none⟩ = some (.slice a n c) := by rw [hA.cell]; rfl
  have c1 : y.cell? ⟨w.heap.size, 1, none⟩ = some (.int .i64 (sf : Int)) := by rw [hA.cell]; rfl
  have c2 : y.cell? ⟨w.heap.size, 2, none⟩ = some (.bool hd) := by rw [hA.cell]; rfl
  try rw [← hx]
  clear hx hp hA
  have hS0 : Below y.heap.size y y.drew := Below.drew (Below.refl _ _)
  refine wp_region_S (S := fun xS => Below y.heap.size y xS) (St := [7]) (by kernel_rfl) hS0 ?_
  obtain ⟨x0, hx0⟩ : ∃ x, x = y.drew := ⟨_, rfl⟩
  rw [← hx0] at hS0  ⊢
  clear hx0
  intro hH
  refine wpAnyS_pure (i := 0) (oi := { dst := some 6, op := .move (.tmp 0), type := _, pos := _, after := _, guard := none }) (v := .pointer (some ⟨g, 0, none⟩)) rfl (by kernel_rfl) (by kernel_rfl) (by kernel_rfl) (by kernel_rfl) (fun _ _ _ h => h) (Or.inl ⟨by rfl, ?_⟩) hH (fun hH => ?_)
  · intro wS hSw
    go_simp
  simp only [Act.put, List.setIfInBounds_toArray, List.set_cons_zero, List.set_cons_succ]
  refine wpAnyS_pure (i := 1) (oi := { dst := some 7, op := .nilCheck (.tmp 6), type := _, pos := _, after := _, guard := none }) (v := .pointer (some ⟨g, 0, none⟩)) rfl (by kernel_rfl) (by kernel_rfl) (by kernel_rfl) (by kernel_rfl) (fun _ _ _ h => h) (Or.inl ⟨by rfl, ?_⟩) hH (fun hH => ?_)
  · intro wS hSw
    go_simp
  simp only [Act.put, List.setIfInBounds_toArray, List.set_cons_zero, List.set_cons_succ]
  refine wpAnyS_pure (i := 2) (oi := { dst := some 8, op := .fieldAddr 35 (.tmp 7) 2, type := _, pos := _, after := _, guard := none }) (v := .pointer (some ⟨g, 2, none⟩)) rfl (by kernel_rfl) (by kernel_rfl) (by kernel_rfl) (by kernel_rfl) (fun _ _ _ h => h) (Or.inl ⟨by rfl, ?_⟩) hH (fun hH => ?_)
  · intro wS hSw
    go_simp
  simp only [Act.put, List.setIfInBounds_toArray, List.set_cons_zero, List.set_cons_succ]
  refine wpAnyS_take [7] (i := 3) (oi := { dst := some 9, op := .load 33 (.tmp 8), type := _, pos := _, after := _, guard := none }) (v := .map (some mb)) rfl (by kernel_rfl) (by kernel_rfl) (by kernel_rfl) (by kernel_rfl) (by kernel_rfl) (by kernel_rfl) (by kernel_rfl) (fun _ _ _ h => h) (Or.inl ⟨by rfl, ?_⟩) hH (fun hH => ?_)
  · intro wS hSw
    have z0 := (hSw.cell (lt_of_cell q)).trans q
    go_simp
  simp only [Act.put, List.setIfInBounds_toArray, List.set_cons_zero, List.set_cons_succ]
  refine wpAnyS_pure (i := 4) (oi := { dst := some 10, op := .move (.tmp 1), type := _, pos := _, after := _, guard := none }) (v := .string nm) rfl (by kernel_rfl) (by kernel_rfl) (by kernel_rfl) (by kernel_rfl) (fun _ _ _ h => h) (Or.inl ⟨by rfl, ?_⟩) hH (fun hH => ?_)
  · intro wS hSw
    go_simp
  simp only [Act.put, List.setIfInBounds_toArray, List.set_cons_zero, List.set_cons_succ]
  refine wpAnyS_take [7] (i := 6) (oi := { dst := some 12, op := .load 66 (.tmp 5), type := _, pos := _, after := _, guard := none }) (v := .agg #[.slice a n c, .int .i64 (sf : Int), .bool hd]) rfl (by kernel_rfl) (by kernel_rfl) (by kernel_rfl) (by kernel_rfl) (by kernel_rfl) (by kernel_rfl) (by kernel_rfl) (fun _ _ _ h => h) (Or.inl ⟨by rfl, ?_⟩) hH (fun hH => ?_)
  · intro wS hSw
    have z0 := (hSw.cell (lt_of_cell c0)).trans c0
    have z1 := (hSw.cell (lt_of_cell c1)).trans c1
    have z2 := (hSw.cell (lt_of_cell c2)).trans c2
    go_simp
  simp only [Act.put, List.setIfInBounds_toArray, List.set_cons_zero, List.set_cons_succ]
  refine wpAnyS_ready (rs := [5]) (by kernel_rfl) (by simp) ?_
  refine AllReadyS.cons (o := { dst := some 11, op := .call { callee := .value (.func 61), args := #[.tmp 10], argTypes := #[9] }, type := _, pos := _, after := _, guard := none }) rfl (fun K hK => ?_) AllReadyS.nil
  rw [if_pos (by rfl)]
  go_wp2_with (go_at_call 61; refine (str_clone nm x0 hs40).mono ?_; rintro e x1 ⟨rfl, hb1⟩)
  have hS1 := hS0.trans (hb1.mono hS0.size)
  refine hK.out _ _ (Hold.of hS1) (fun hH => ?_)
  clear hK K
  refine wpAnyS_ready (rs := [7]) (by kernel_rfl) (by simp) ?_
  refine AllReadyS.cons (o := { dst := none, op := .mapUpdate 33 (.tmp 9) (.tmp 11) (.tmp 12), type := _, pos := _, after := _, guard := none }) rfl (fun K hK => ?_) AllReadyS.nil
  rw [if_pos (by rfl)]
  refine wp_upd mF (.tmp 9) (.tmp 11) (.tmp 12) rfl nm ⟨.slice a n c, bs, sf, hd⟩ rfl rfl rfl (HP.out.below hS1) hsz ?_
  intro x2 hM2 hb2 hs2
  refine hK.out _ _ (Hold.over (s := 7) (by decide) (by rfl)) (fun hH => ?_)
  clear hK K
  refine wpAnyS_done (by kernel_rfl) ?_ _
  go_end0
  exact ⟨rfl, hM2, _, (hBx.out.trans (hS1.mono hBx.out.size)), hb2⟩
end Go.Proofs.YtcmkjjlchljffaaDoor

/- The landed disk: a file is cut, or made safe. -/
namespace Go.Proofs.YtcmkjjlchljffaaDoor
open Go.RowKit
set_option linter.unusedVariables false
set_option maxRecDepth 100000
set_option maxHeartbeats 3200000

theorem z66 : (Tryd.prog.info? 66).map (fun i => (i.zero, i.size)) = some (some (.agg [Value.slice none 0 0, .int .i64 0, .bool false].toArray), 3) := by kernel_rfl
theorem i66 : (Tryd.prog.info? 66).map (·.size) = some 3 := by kernel_rfl
theorem one3 {a : Option Addr} {n c : Nat} {x : Int} {b : Bool} : ∀ v ∈ [Value.slice a n c, .int .i64 x, .bool b], v.oneCell' = true := by
  intro v hv
  simp at hv
  rcases hv with rfl | rfl | rfl <;> rfl
/-- safely: all of a file's bytes are safe. -/
theorem safely_any (a : Option Addr) (n c : Nat) (sf : Nat) (hd : Bool) (w : World) : Calls Tryd.prog 55 #[.agg #[.slice a n c, .int .i64 (sf : Int), .bool hd]] w fun r w' => r = .returned (.agg #[.slice a n c, .int .i64 (n : Int), .bool hd]) ∧ Below w.heap.size w w' := by
  go_enter Tryd.func55, Tryd.ntmps55
  go_wp2_with (first
    | (refine wpList_box_at rfl 66 (.tmp 0) rfl [.slice a n c, .int .i64 (sf : Int), .bool hd] rfl ?_; intro w1 hA1 hb1 hs1)
    | (refine wpList_alloc_at rfl 66 rfl [.slice none 0 0, .int .i64 0, .bool false] 3 z66 ?_; intro w2 hA2 hb2 hs2; refine Hid.out ?_))
  obtain ⟨g1, hg1⟩ : ∃ g, g = w.heap.size := ⟨_, rfl⟩
  obtain ⟨g2, hg2⟩ : ∃ g, g = w.heap.size + 1 := ⟨_, rfl⟩
  have hA1 := hA1.below hb2
  rw [← hg1] at hA1
  rw [hs1, ← hg2] at hA2
  have hne : g1 ≠ g2 := by omega
  have HB := hidU (hb1.trans (hb2.mono hb1.size))
  have hl2 : w.heap.size ≤ g2 := by omega
  have hl1 : w.heap.size ≤ g1 := by omega
  refine hidU ?_
  rw [← hg2, ← hg1]
  have HG := hidU hg1
  clear hg1 hg2 hb1 hb2 hs1 hs2
  have c0 : w2.cell? ⟨g1, 0, none⟩ = some (.slice a n c) := by rw [hA1.cell]; rfl
  go_wp2_with (refine wpList_store1 rfl 3 (.tmp 6) (.tmp 5) rfl g1 1 (.int .i64 (n : Int)) rfl rfl 66 _ hA1 (by simp) i3 rfl rfl ?_; intro w3 hA3 hb3 hs3; refine Hid.out ?_)
  simp only [List.set] at hA3
  have hA2 := hb3.at hA2 hne.symm
  refine hidU ?_
  clear c0
  go_wp2_with (first
    | (refine wpList_load_at rfl 66 (.tmp 1) rfl g1 rfl 66 _ hA3 _ Tryd.underlying66 rfl i66 ?_)
    | (refine wpList_store_at rfl 66 (.tmp 2) (.tmp 7) rfl g2 [.slice a n c, .int .i64 (n : Int), .bool hd] rfl rfl 66 _ hA2 i66 rfl one3 ?_; intro w4 hA4 hb4 hs4))
  refine bodyPost_ret (results_at rfl _ _ g2 66 [.slice a n c, .int .i64 (n : Int), .bool hd] _ rfl hA4 Tryd.underlying66 rfl i66) rfl ?_
  have B3 := hb3.below HB.out hl1 HB.out.size
  exact ⟨rfl, hb4.below B3 hl2 B3.size⟩
theorem clone_any (a : Option Addr) (n c : Nat) (bs : List UInt8) (w : World) (h : Row w a bs) (hn : bs.length = n) (hc : n ≤ c) (h0 : a = none → c = 0) (hm : n ≤ 140737488355328) :
    Calls Tryd.prog 50 #[.slice a n c] w fun r w' => ∃ v, r = .returned v ∧ OwnX eB w.heap.size w' v bs ∧ Below w.heap.size w w' := by
  cases a with
  | some ad => exact clone_some ad n c bs w h hn hc hm
  | none =>
    have := h0 rfl
    have hb : bs = [] := List.length_eq_zero_iff.1 (by omega)
    refine (clone_nil n c w).mono ?_
    rintro r w' ⟨rfl, rfl⟩
    exact ⟨_, rfl, by rw [hb]; exact OwnX.nil _ _ _, Below.refl _ _⟩
theorem one3' {v : Value} {x : Int} {b : Bool} (hv : v.oneCell' = true) : ∀ u ∈ [v, .int .i64 x, .bool b], u.oneCell' = true := by
  intro u hu
  simp at hu
  rcases hu with rfl | rfl | rfl
  · exact hv
  · rfl
  · rfl
theorem own_slice {α : Type} {e : El α} {base : Nat} {w : World} {v : Value} {xs : List α} (h : OwnX e base w v xs) : ∃ a c, v = .slice a xs.length c := by
  obtain ⟨a, c, e, _⟩ := h.row
  exact ⟨a, c, e⟩
/-- cut: a file with the first so many of its bytes, in memory of its own. -/
theorem cut_any (a : Option Addr) (n c : Nat) (bs : List UInt8) (sf : Nat) (hd : Bool) (z : Nat) (w : World) (h : Row w a bs) (hn : bs.length = n) (hc : n ≤ c) (h0 : a = none → c = 0) (hz : z ≤ n) (hm : n ≤ 67108864) (hsf : sf ≤ n) :
    Calls Tryd.prog 53 #[.agg #[.slice a n c, .int .i64 (sf : Int), .bool hd], .int .i64 (z : Int)] w fun r w' => ∃ v, r = .returned (.agg #[v, .int .i64 ((min sf z : Nat) : Int), .bool hd]) ∧ OwnX eB w.heap.size w' v (bs.take z) ∧ Below w.heap.size w w' := by
  have HR := hidU h
  obtain ⟨M, hM⟩ : ∃ M : Nat, Hid (M = min sf z) := ⟨_, (rfl : _ = min sf z)⟩
  rw [← hM.out]
  clear h
  go_enter Tryd.func53, Tryd.ntmps53
  go_wp2_with (first
    | (refine wpList_box_at rfl 66 (.tmp 0) rfl [.slice a n c, .int .i64 (sf : Int), .bool hd] rfl ?_; intro w1 hA1 hb1 hs1)
    | (refine wpList_alloc_at rfl 66 rfl [.slice none 0 0, .int .i64 0, .bool false] 3 z66 ?_; intro w2 hA2 hb2 hs2; refine Hid.out ?_))
  obtain ⟨g1, hg1⟩ : ∃ g, g = w.heap.size := ⟨_, rfl⟩
  obtain ⟨g2, hg2⟩ : ∃ g, g = w.heap.size + 1 := ⟨_, rfl⟩
  have hA1 := hA1.below hb2
  rw [← hg1] at hA1
  rw [hs1, ← hg2] at hA2
  have hne : g1 ≠ g2 := by omega
  have HB := hidU (hb1.trans (hb2.mono hb1.size))
  have hl2 : w.heap.size ≤ g2 := by omega
  have hl1 : w.heap.size ≤ g1 := by omega
  refine hidU ?_
  rw [← hg2, ← hg1]
  clear hg1 hg2 hb1 hb2 hs1 hs2
  have c0 : w2.cell? ⟨g1, 0, none⟩ = some (.slice a n c) := by rw [hA1.cell]; rfl
  have HC := hidU (clone_any a z c (bs.take z) w2 ((HR.out.below HB.out).take z) (by rw [List.length_take]; omega) (by omega) h0 (by omega))
  have hlz : (bs.take z).length = z := by rw [List.length_take]; omega
  have hsl := fun w => run_slice_to w a n c z (z : Int) rfl (by omega)
  go_wp2_with (first
    | (go_at_call 50; refine HC.out.mono ?_; rintro _ w3 ⟨v, rfl, hO, hb3⟩; have hA13 := hA1.below hb3; have hA23 := hA2.below hb3; obtain ⟨av, cv, rfl⟩ := own_slice hO; rw [hlz] at hO)
    | (refine wpList_store1 rfl 29 (.tmp 10) (.tmp 9) rfl g1 0 (.slice av z cv) rfl rfl 66 _ hA13 (by simp) i30 rfl rfl ?_; intro w4 hA4 hb4 hs4; refine Hid.out ?_))
  simp only [List.set] at hA4
  have hA24 := hb4.at hA23 hne.symm
  have lO : w2.heap.size ≤ w3.heap.size := hb3.size
  have lw2 := hA2.lt
  have lg1 := hA1.lt
  have HO4 : Hid (OwnX eB w2.heap.size w4 (.slice av z cv) (bs.take z)) := hO.same fun k hk => hb4.block k (hO.block k hk).2.1 (by have := (hO.block k hk).1; omega)
  have HB3 := hidU (HB.out.trans (hb3.mono HB.out.size))
  have HB4 := hidU (hb4.below HB3.out hl1 HB3.out.size)
  refine hidU ?_
  clear hA13 hA23 hO hb3 hb4 hs4 c0 hA1 hA2 HC hsl lO
  have c1 : w4.cell? ⟨g1, 1, none⟩ = some (.int .i64 (sf : Int)) := by rw [hA4.cell]; rfl
  by_cases hlt : (z : Int) < (sf : Int)
  · have e : M = z := by rw [hM.out]; omega
    subst e
    go_wp2_with (refine wpList_store1 rfl 3 (.tmp 15) (.tmp 14) rfl g1 1 (.int .i64 (min (sf : Int) (M : Int))) rfl rfl 66 _ hA4 (by simp) i3 rfl rfl ?_; intro w5 hA5 hb5 hs5; refine Hid.out ?_)
    simp only [List.set] at hA5
    rw [show min (sf : Int) (M : Int) = (M : Int) by omega] at hA5
    rw [show min (sf : Int) (M : Int) = (M : Int) by omega]
    have hA25 := hb5.at hA24 hne.symm
    refine hidU ?_
    have HO5 : Hid (OwnX eB w2.heap.size w5 (.slice av M cv) (bs.take M)) := HO4.out.same fun k hk => hb5.block k (HO4.out.block k hk).2.1 (by have := (HO4.out.block k hk).1; omega)
    have HB5 := hidU (hb5.below HB4.out hl1 HB4.out.size)
    clear hb5 hs5 c1 hA4 hA24 HO4
    go_wp2_with (first
      | (refine wpList_load_at rfl 66 (.tmp 2) rfl g1 rfl 66 _ hA5 _ Tryd.underlying66 rfl i66 ?_)
      | (refine wpList_store_at rfl 66 (.tmp 4) (.tmp 16) rfl g2 _ rfl rfl 66 _ hA25 i66 rfl one3 ?_; intro w6 hA6 hb6 hs6))
    refine bodyPost_ret (results_at rfl _ _ g2 66 _ _ rfl hA6 Tryd.underlying66 rfl i66) rfl ?_
    refine ⟨_, rfl, (HO5.out.same fun k hk => hb6.block k (HO5.out.block k hk).2.1 (by have := (HO5.out.block k hk).1; omega)).less HB.out.size, hb6.below HB5.out hl2 HB5.out.size⟩
  · have e : M = sf := by rw [hM.out]; omega
    subst e
    go_wp2_with (refine wpList_store1 rfl 3 (.tmp 15) (.tmp 14) rfl g1 1 (.int .i64 (min (M : Int) (z : Int))) rfl rfl 66 _ hA4 (by simp) i3 rfl rfl ?_; intro w5 hA5 hb5 hs5; refine Hid.out ?_)
    simp only [List.set] at hA5
    rw [show min (M : Int) (z : Int) = (M : Int) by omega] at hA5
    rw [show min (M : Int) (z : Int) = (M : Int) by omega]
    have hA25 := hb5.at hA24 hne.symm
    refine hidU ?_
    have HO5 : Hid (OwnX eB w2.heap.size w5 (.slice av z cv) (bs.take z)) := HO4.out.same fun k hk => hb5.block k (HO4.out.block k hk).2.1 (by have := (HO4.out.block k hk).1; omega)
    have HB5 := hidU (hb5.below HB4.out hl1 HB4.out.size)
    clear hb5 hs5 c1 hA4 hA24 HO4
    go_wp2_with (first
      | (refine wpList_load_at rfl 66 (.tmp 2) rfl g1 rfl 66 _ hA5 _ Tryd.underlying66 rfl i66 ?_)
      | (refine wpList_store_at rfl 66 (.tmp 4) (.tmp 16) rfl g2 _ rfl rfl 66 _ hA25 i66 rfl one3 ?_; intro w6 hA6 hb6 hs6))
    refine bodyPost_ret (results_at rfl _ _ g2 66 _ _ rfl hA6 Tryd.underlying66 rfl i66) rfl ?_
    refine ⟨_, rfl, (HO5.out.same fun k hk => hb6.block k (HO5.out.block k hk).2.1 (by have := (HO5.out.block k hk).1; omega)).less HB.out.size, hb6.below HB5.out hl2 HB5.out.size⟩
end Go.Proofs.YtcmkjjlchljffaaDoor

/- told: what both disks tell of themselves is the same. -/
namespace Go.Proofs.YtcmkjjlchljffaaDoor
open Go.RowKit
set_option linter.unusedVariables false

def rdZ (d : Dk) (nm : ByteArray) : Int := if (d.fs.find? (isN nm)).isNone then 6 else 0
def rdB (d : Dk) (nm : ByteArray) : List UInt8 := match d.fs.find? (isN nm) with | none => [] | some f => f.bs
theorem rdB_len {d : Dk} (hd : Fine d) (nm : ByteArray) : (rdB d nm).length ≤ 67108864 := by
  unfold rdB
  split
  · exact Nat.zero_le _
  · rename_i f hf
    have := mem_used (List.mem_of_find?_eq_some hf)
    have := hd.us
    have := hd.sz
    omega
theorem Face.read {U : Prop} {CD : CDT} (h : Face U CD) {B g : Nat} {w : World} {W F : Nat → Prop} {d : Dk} {nm : ByteArray} (hc : CD B w g W F d) (hd : Fine d) (hn : nm.size ≤ 9223372036854775807) :
    Calls Tryd.prog 13 #[ptr g, .string nm] w fun r w' => ∃ v, r = .returned (.tuple #[v, .int .i64 (rdZ d nm)]) ∧ RoomB U w.heap.size w' v (rdB d nm) ∧ Below w.heap.size w w' := by
  cases hf : d.fs.find? (isN nm) with
  | none =>
    refine (h.readNo hc hd hn hf).mono ?_
    rintro r w' ⟨rfl, hb⟩
    exact ⟨_, by rw [rdZ, hf]; rfl, .inl ⟨by rw [rdB, hf], none, rfl⟩, hb⟩
  | some f =>
    refine (h.readYes hc hd hn hf).mono ?_
    rintro r w' ⟨v, rfl, hr, hb⟩
    exact ⟨v, by rw [rdZ, hf]; rfl, by rw [rdB, hf]; exact hr, hb⟩
theorem refRead_any {B g : Nat} {w : World} {W F : Nat → Prop} {d : Dk} {nm : ByteArray} (h : RD B w g W F d) (hd : Fine d) :
    Calls Tryd.prog 44 #[ptr g, .string nm] w fun r w' => ∃ a c, r = .returned (.tuple #[.slice a (rdB d nm).length c, .int .i64 (rdZ d nm)]) ∧ Row w' a (rdB d nm) ∧ (rdB d nm).length ≤ c ∧ Below w.heap.size w w' := by
  have hl : d.fs.length ≤ 1048576 := by have := hd.ln; omega
  cases hf : d.fs.find? (isN nm) with
  | none =>
    refine (refRead_no B g W F d nm w h hl hf).mono ?_
    rintro r w' ⟨rfl, rfl⟩
    have e : rdB d nm = [] := by rw [rdB, hf]
    refine ⟨none, 0, ?_, by rw [e]; exact .inl rfl, by rw [e]; exact Nat.le_refl _, Below.refl _ _⟩
    rw [e, rdZ, hf]
    rfl
  | some f =>
    have e : rdB d nm = f.bs := by rw [rdB, hf]
    have hb := rdB_len hd nm
    rw [e] at hb ⊢
    refine (refRead_yes B g W F d nm f w h hl hf (by omega)).mono ?_
    rintro r w' ⟨v, rfl, ho, hb⟩
    obtain ⟨a, c, rfl, c1, _, _, _, r⟩ := ho.row
    exact ⟨a, c, by rw [rdZ, hf]; rfl, rowB.1 r, c1, hb⟩
set_option maxRecDepth 100000 in
set_option maxHeartbeats 6400000 in
theorem told_ok {CD : CDT} (Fc : Face True CD) (B gc gr : Nat) (Wc Fcs Wr Fr : Nat → Prop) (d : Dk) (nm : ByteArray) (w : World) (hc : CD B w gc Wc Fcs d) (hr : RD B w gr Wr Fr d) (hd : Fine d) (hs : Sorted d.fs) (hn : nm.size ≤ 9223372036854775807) :
    Calls Tryd.prog 12 #[ptr gc, ptr gr, .string nm] w fun r w' => r = .returned (.bool true) ∧ Below w.heap.size w w' := by
  have hl : d.fs.length ≤ 1048576 := by have := hd.ln; omega
  have hcb : ∀ u, Below w.heap.size w u → CD B u gc Wc Fcs d := fun u hu => Fc.below hc hu
  have hrb : ∀ u, Below w.heap.size w u → RD B u gr Wr Fr d := fun u hu => hr.below hu
  have HNm := hidU (Fc.names hc hd hs)
  have HRd : Hid (∀ u, Below w.heap.size w u → Calls Tryd.prog 13 #[ptr gc, .string nm] u fun r w' => ∃ v, r = .returned (.tuple #[v, .int .i64 (rdZ d nm)]) ∧ RoomB True u.heap.size w' v (rdB d nm) ∧ Below u.heap.size u w') := fun u hu => Fc.read (hcb u hu) hd hn
  have HRr : Hid (∀ u, Below w.heap.size w u → Calls Tryd.prog 44 #[ptr gr, .string nm] u fun r w' => ∃ a c, r = .returned (.tuple #[.slice a (rdB d nm).length c, .int .i64 (rdZ d nm)]) ∧ Row w' a (rdB d nm) ∧ (rdB d nm).length ≤ c ∧ Below u.heap.size u w') := fun u hu => refRead_any (hrb u hu) hd
  have HNr : Hid (∀ u, Below w.heap.size w u → Calls Tryd.prog 45 #[ptr gr] u fun r w' => ∃ v, r = .returned v ∧ OwnX eS u.heap.size w' v (d.fs.map Fi.nm) ∧ Below u.heap.size u w') := fun u hu => refNames_any B gr Wr Fr d u (hrb u hu) hl
  obtain ⟨u, hu⟩ : ∃ x, x = usedL d.fs := ⟨_, rfl⟩
  obtain ⟨S, hS⟩ : ∃ x, x = d.sz := ⟨_, rfl⟩
  obtain ⟨L, hL⟩ : ∃ x, x = d.lf := ⟨_, rfl⟩
  obtain ⟨N, hN⟩ : ∃ x, x = d.wr := ⟨_, rfl⟩
  obtain ⟨Z, hZ⟩ : ∃ x, x = lsD d.fs nm := ⟨_, rfl⟩
  have HU : Hid (∀ x, Below w.heap.size w x → Calls Tryd.prog 21 #[ptr gc] x fun r w' => r = .returned (.int .i64 (u : Int)) ∧ Below x.heap.size x w') := fun x hx => by rw [hu]; exact Fc.used (hcb x hx) hd
  have HRU : Hid (∀ x, Below w.heap.size w x → Calls Tryd.prog 41 #[ptr gr] x fun r w' => r = .returned (.int .i64 (u : Int)) ∧ Below x.heap.size x w') := fun x hx => by
    rw [hu]
    refine (refUsed_any B gr Wr Fr d x (hrb x hx) hl (by have := hd.us; have := hd.sz; omega)).mono ?_
    rintro r w' ⟨rfl, rfl⟩
    exact ⟨rfl, Below.refl _ _⟩
  have HSz : Hid (∀ x, Below w.heap.size w x → Calls Tryd.prog 22 #[ptr gc] x fun r w' => r = .returned (.int .i64 (S : Int)) ∧ Below x.heap.size x w') := fun x hx => by rw [hS]; exact Fc.size (hcb x hx)
  have HLs : Hid (∀ x, Below w.heap.size w x → Calls Tryd.prog 23 #[ptr gc, .string nm] x fun r w' => r = .returned (.int .i64 Z) ∧ Below x.heap.size x w') := fun x hx => by rw [hZ]; exact Fc.loose (hcb x hx) hd hn
  have HRL : Hid (∀ x, Below w.heap.size w x → Calls Tryd.prog 48 #[ptr gr, .string nm] x fun r w' => r = .returned (.int .i64 Z) ∧ Below x.heap.size x w') := fun x hx => by
    rw [hZ]
    refine (refLoose_any B gr Wr Fr d nm x (hrb x hx) hl (fun f hf => ⟨hd.sf f hf, by have := mem_used hf; have := hd.us; have := hd.sz; omega⟩)).mono ?_
    rintro r w' ⟨rfl, _, hb⟩
    exact ⟨rfl, hb⟩
  have HSt : Hid (∀ x, Below w.heap.size w x → Calls Tryd.prog 24 #[ptr gc] x fun r w' => r = .returned (.bool (L == 0)) ∧ Below x.heap.size x w') := fun x hx => by rw [hL]; exact Fc.stopped (hcb x hx)
  have HWr : Hid (∀ x, Below w.heap.size w x → Calls Tryd.prog 25 #[ptr gc] x fun r w' => r = .returned (.int .i64 (N : Int)) ∧ Below x.heap.size x w') := fun x hx => by rw [hN]; exact Fc.writes (hcb x hx)
  have HCells : Hid (∀ x, Below w.heap.size w x → x.cell? ⟨gr, 0, none⟩ = some (.int .i64 (S : Int)) ∧ x.cell? ⟨gr, 2, none⟩ = some (.int .i64 L) ∧ x.cell? ⟨gr, 3, none⟩ = some (.int .i64 (N : Int))) := fun x hx => by
    obtain ⟨v, ts, h⟩ := hrb x hx
    rw [hS, hL, hN]
    refine ⟨?_, ?_, ?_⟩ <;> rw [h.at_.cell] <;> rfl
  obtain ⟨ns, hns⟩ : ∃ x, x = d.fs.map Fi.nm := ⟨_, rfl⟩
  obtain ⟨bs, hbs⟩ : ∃ x, x = rdB d nm := ⟨_, rfl⟩
  obtain ⟨ez, hez⟩ : ∃ x, x = rdZ d nm := ⟨_, rfl⟩
  have hnl : ns.length ≤ 1048576 := by rw [hns, List.length_map]; exact hl
  rw [← hns] at HNm HNr
  rw [← hbs, ← hez] at HRd HRr
  clear hc hr hd hs hn hl hcb hrb hu hS hL hN hZ hns hbs hez
  go_enter Tryd.func12, Tryd.ntmps12
  go_wp2_with (go_at_call 20; refine HNm.out.mono ?_; rintro _ w1 ⟨v1, rfl, hr1, hb1⟩; refine Hid.out ?_)
  refine hidU ?_
  have HB1 := hidU hb1
  have H1 := hidU (HRd.out w1 hb1)
  have HR1 := hidU hr1
  clear hb1 hr1 HNm HRd
  go_wp2_with (go_at_call 13; refine H1.out.mono ?_; rintro _ w2 ⟨v2, rfl, hr2, hb2⟩; refine Hid.out ?_)
  refine hidU ?_
  have HB2 := hidU (HB1.out.trans (hb2.mono HB1.out.size))
  have H2 := hidU (HRr.out w2 HB2.out)
  have HR2 := hidU hr2
  have HR12 := hidU (HR1.out.below hb2)
  have hbase := HB1.out.size
  have hz2 := hb2.size
  clear hb2 hr2 H1 HRr HR1
  go_wp2_with (go_at_call 44; refine H2.out.mono ?_; rintro _ w3 ⟨a3, c3', rfl, hr3, hc3, hb3⟩; refine Hid.out ?_)
  refine hidU ?_
  have HB3 := hidU (HB2.out.trans (hb3.mono HB2.out.size))
  have H3 := hidU (HNr.out w3 HB3.out)
  have HR13 := hidU (HR12.out.below hb3)
  have HR23 := hidU (HR2.out.below hb3)
  have HR33 := hidU hr3
  have hz3 := hb3.size
  clear hb3 hr3 H2 HNr HR12 HR2
  go_wp2_with (go_at_call 45; refine H3.out.mono ?_; rintro _ w4 ⟨v4, rfl, ho4, hb4⟩; refine Hid.out ?_)
  refine hidU ?_
  have HB4 := hidU (HB3.out.trans (hb4.mono HB3.out.size))
  have HR14 := hidU (HR13.out.below hb4)
  have HR24 := hidU (HR23.out.below hb4)
  have HR34 := hidU (HR33.out.below hb4)
  have hz4 := hb4.size
  obtain ⟨a4, c4, rfl, k4, _, _, _, row4⟩ := ho4.row
  obtain ⟨a1, c1, hv1, k1, row1⟩ := HR14.out.row
  have H4 := hidU (sameTexts_any ns ns a1 a4 c1 c4 w4 row1 row4 k1 k4 (by omega) (by omega))
  rw [show sameS ns ns = true by simp [sameS], ← hv1] at H4
  have HV1 := hidU hv1
  clear hb4 ho4 row4 row1 H3 HR13 HR23 HR33 hv1
  go_wp2_with (go_at_call 30; refine H4.out.mono ?_; rintro _ w5 ⟨rfl, hb5, _⟩; refine Hid.out ?_)
  refine hidU ?_
  have HB5 := hidU (HB4.out.trans (hb5.mono HB4.out.size))
  have HR15 := hidU (HR14.out.below hb5)
  have HR25 := hidU (HR24.out.below hb5)
  have HR35 := hidU (HR34.out.below hb5)
  have hz5 := hb5.size
  obtain ⟨a2, c2, hv2, k2, row2⟩ := HR25.out.row
  have H5 := hidU (same_any a2 a3 c2 c3' bs bs w5 row2 HR35.out)
  rw [← hv2] at H5
  have HV2 := hidU hv2
  clear hb5 row2 H4 HR14 HR24 HR34 hv2
  go_wp2_with (first | (go_at_call 31; refine H5.out.mono ?_; rintro _ w6 ⟨rfl, hw6⟩; obtain rfl : w5 = w6 := hw6.symm; clear hw6; refine Hid.out ?_))
  refine hidU ?_
  have H6 := hidU (roomS_over HR15.out)
  clear H5 HR15 HR35
  go_wp2_with (go_at_call 46; refine H6.out.mono ?_; rintro _ w7 ⟨rfl, K, hb7, hK⟩; refine Hid.out ?_)
  refine hidU ?_
  have HB7 := hidU (HB5.out.trans (hb7.below HB5.out.size fun k hk => (hK k hk).1))
  have HR27 := hidU (HR25.out.chg hb7 fun k hk => (hK k hk).2)
  have H7 := hidU (roomB_over HR27.out (by have := hb7.size; omega))
  clear hb7 hK H6 HR25
  go_wp2_with (go_at_call 47; refine H7.out.mono ?_; rintro _ w9 ⟨rfl, hb9⟩; refine Hid.out ?_)
  refine hidU ?_
  have HB9 := hidU (HB7.out.trans (hb9.mono hbase))
  obtain ⟨c0, c2', c3⟩ := HCells.out w9 HB9.out
  have c2 := c2'
  clear c2' hb9 H7 HR27 HCells
  have hcar : ∀ {f : Nat} {args : Array Value} {v : Value}, Hid (∀ x, Below w.heap.size w x → Calls Tryd.prog f args x fun r w' => r = .returned v ∧ Below x.heap.size x w') → Hid (∀ x, Below w9.heap.size w9 x → Calls Tryd.prog f args x fun r w' => r = .returned v ∧ Below x.heap.size x w') := fun h x hx => h.out x (HB9.out.trans (hx.mono HB9.out.size))
  have HU := hcar HU
  have HRU := hcar HRU
  have HSz := hcar HSz
  have HLs := hcar HLs
  have HRL := hcar HRL
  have HSt := hcar HSt
  have HWr := hcar HWr
  clear hcar
  go_wp2
  have hS0a : Below w9.heap.size w9 w9.drew := Below.drew (Below.refl _ _)
  refine wp_region_held_drew (S := fun xS => Below w9.heap.size w9 xS) (by kernel_rfl) hS0a ?_
  obtain ⟨x0a, hx0⟩ : ∃ x, x = w9.drew := ⟨_, rfl⟩
  rw [← hx0] at hS0a  ⊢
  clear hx0
  intro _
  refine wpAnyH_take (i := 0) (oi := { dst := some 46, op := .move (.tmp 0), type := _, pos := _, after := _, guard := none }) (v := .pointer (some ⟨gc, 0, none⟩)) rfl (by kernel_rfl) (by kernel_rfl) (by kernel_rfl) (fun _ _ _ h => h) (Or.inl ⟨by rfl, ?_⟩) hS0a ?_
  · intro wS hSw
    go_simp
  simp only [Act.put, List.setIfInBounds_toArray, List.set_cons_zero, List.set_cons_succ]
  refine wpAnyH_take (i := 2) (oi := { dst := some 48, op := .move (.tmp 1), type := _, pos := _, after := _, guard := none }) (v := .pointer (some ⟨gr, 0, none⟩)) rfl (by kernel_rfl) (by kernel_rfl) (by kernel_rfl) (fun _ _ _ h => h) (Or.inl ⟨by rfl, ?_⟩) hS0a ?_
  · intro wS hSw
    go_simp
  simp only [Act.put, List.setIfInBounds_toArray, List.set_cons_zero, List.set_cons_succ]
  refine wpAnyH_ready (rs := [1]) (by kernel_rfl) (by simp) ?_
  refine AllReadyH.cons (o := { dst := some 47, op := .call { callee := .value (.func 21), args := #[.tmp 46], argTypes := #[22] }, type := _, pos := _, after := _, guard := none }) rfl (fun K hK => ?_) AllReadyH.nil
  rw [if_pos (by rfl)]
  have sv1a := hS0a.size
  go_wp2_with (go_at_call 21; refine (HU.out x0a hS0a).mono ?_; rintro e x1a ⟨rfl, hb1a⟩)
  have sz1a := hb1a.size
  have hS1a := hS0a.trans (hb1a.mono hS0a.size)
  refine hK.out _ _ hS1a (fun _ => ?_)
  clear hK K
  refine wpAnyH_ready (rs := [3]) (by kernel_rfl) (by simp) ?_
  refine AllReadyH.cons (o := { dst := some 49, op := .call { callee := .value (.func 41), args := #[.tmp 48], argTypes := #[26] }, type := _, pos := _, after := _, guard := none }) rfl (fun K hK => ?_) AllReadyH.nil
  rw [if_pos (by rfl)]
  have sv2a := hS1a.size
  go_wp2_with (go_at_call 41; refine (HRU.out x1a hS1a).mono ?_; rintro e x2a ⟨rfl, hb2a⟩)
  have sz2a := hb2a.size
  have hS2a := hS1a.trans (hb2a.mono hS1a.size)
  refine hK.out _ _ hS2a (fun _ => ?_)
  clear hK K
  refine wpAnyH_take (i := 4) (oi := { dst := some 50, op := .binOp .eql 3 (.tmp 47) (.tmp 49) 3, type := _, pos := _, after := _, guard := none }) (v := .bool true) rfl (by kernel_rfl) (by kernel_rfl) (by kernel_rfl) (fun _ _ _ h => h) (Or.inl ⟨by rfl, ?_⟩) hS2a ?_
  · intro wS hSw
    go_simp
  simp only [Act.put, List.setIfInBounds_toArray, List.set_cons_zero, List.set_cons_succ]
  refine wpAnyH_take (i := 5) (oi := { dst := some 51, op := .move (.tmp 50), type := _, pos := _, after := _, guard := none }) (v := .bool true) rfl (by kernel_rfl) (by kernel_rfl) (by kernel_rfl) (fun _ _ _ h => h) (Or.inl ⟨by rfl, ?_⟩) hS2a ?_
  · intro wS hSw
    go_simp
  simp only [Act.put, List.setIfInBounds_toArray, List.set_cons_zero, List.set_cons_succ]
  refine wpAnyH_take (i := 6) (oi := { dst := some 52, op := .move (.tmp 0), type := _, pos := _, after := _, guard := some (5, true) }) (v := .pointer (some ⟨gc, 0, none⟩)) rfl (by kernel_rfl) (by kernel_rfl) (by kernel_rfl) (fun _ _ _ h => h) (Or.inl ⟨by rfl, ?_⟩) hS2a ?_
  · intro wS hSw
    go_simp
  simp only [Act.put, List.setIfInBounds_toArray, List.set_cons_zero, List.set_cons_succ]
  refine wpAnyH_take (i := 8) (oi := { dst := some 54, op := .move (.tmp 1), type := _, pos := _, after := _, guard := some (5, true) }) (v := .pointer (some ⟨gr, 0, none⟩)) rfl (by kernel_rfl) (by kernel_rfl) (by kernel_rfl) (fun _ _ _ h => h) (Or.inl ⟨by rfl, ?_⟩) hS2a ?_
  · intro wS hSw
    go_simp
  simp only [Act.put, List.setIfInBounds_toArray, List.set_cons_zero, List.set_cons_succ]
  refine wpAnyH_take (i := 9) (oi := { dst := some 55, op := .nilCheck (.tmp 54), type := _, pos := _, after := _, guard := some (5, true) }) (v := .pointer (some ⟨gr, 0, none⟩)) rfl (by kernel_rfl) (by kernel_rfl) (by kernel_rfl) (fun _ _ _ h => h) (Or.inl ⟨by rfl, ?_⟩) hS2a ?_
  · intro wS hSw
    go_simp
  simp only [Act.put, List.setIfInBounds_toArray, List.set_cons_zero, List.set_cons_succ]
  refine wpAnyH_take (i := 10) (oi := { dst := some 56, op := .fieldAddr 61 (.tmp 55) 0, type := _, pos := _, after := _, guard := some (5, true) }) (v := .pointer (some ⟨gr, 0, none⟩)) rfl (by kernel_rfl) (by kernel_rfl) (by kernel_rfl) (fun _ _ _ h => h) (Or.inl ⟨by rfl, ?_⟩) hS2a ?_
  · intro wS hSw
    go_simp
  simp only [Act.put, List.setIfInBounds_toArray, List.set_cons_zero, List.set_cons_succ]
  refine wpAnyH_take (i := 11) (oi := { dst := some 57, op := .load 3 (.tmp 56), type := _, pos := _, after := _, guard := some (5, true) }) (v := .int .i64 (S : Int)) rfl (by kernel_rfl) (by kernel_rfl) (by kernel_rfl) (fun _ _ _ h => h) (Or.inl ⟨by rfl, ?_⟩) hS2a ?_
  · intro wS hSw
    have z0 := (hSw.cell (lt_of_cell c0)).trans c0
    go_simp
  simp only [Act.put, List.setIfInBounds_toArray, List.set_cons_zero, List.set_cons_succ]
  refine wpAnyH_ready (rs := [7]) (by kernel_rfl) (by simp) ?_
  refine AllReadyH.cons (o := { dst := some 53, op := .call { callee := .value (.func 22), args := #[.tmp 52], argTypes := #[22] }, type := _, pos := _, after := _, guard := some (5, true) }) rfl (fun K hK => ?_) AllReadyH.nil
  rw [if_pos (by rfl)]
  have sv3a := hS2a.size
  go_wp2_with (go_at_call 22; refine (HSz.out x2a hS2a).mono ?_; rintro e x3a ⟨rfl, hb3a⟩)
  have sz3a := hb3a.size
  have hS3a := hS2a.trans (hb3a.mono hS2a.size)
  refine hK.out _ _ hS3a (fun _ => ?_)
  clear hK K
  refine wpAnyH_take (i := 12) (oi := { dst := some 58, op := .binOp .eql 3 (.tmp 53) (.tmp 57) 3, type := _, pos := _, after := _, guard := some (5, true) }) (v := .bool true) rfl (by kernel_rfl) (by kernel_rfl) (by kernel_rfl) (fun _ _ _ h => h) (Or.inl ⟨by rfl, ?_⟩) hS3a ?_
  · intro wS hSw
    go_simp
  simp only [Act.put, List.setIfInBounds_toArray, List.set_cons_zero, List.set_cons_succ]
  refine wpAnyH_take (i := 13) (oi := { dst := some 59, op := .pick (.tmp 51) (.tmp 58) (.const (.bool false)), type := _, pos := _, after := _, guard := none }) (v := .bool true) rfl (by kernel_rfl) (by kernel_rfl) (by kernel_rfl) (fun _ _ _ h => h) (Or.inl ⟨by rfl, ?_⟩) hS3a ?_
  · intro wS hSw
    go_simp
  simp only [Act.put, List.setIfInBounds_toArray, List.set_cons_zero, List.set_cons_succ]
  refine wpAnyH_take (i := 14) (oi := { dst := some 60, op := .move (.tmp 59), type := _, pos := _, after := _, guard := none }) (v := .bool true) rfl (by kernel_rfl) (by kernel_rfl) (by kernel_rfl) (fun _ _ _ h => h) (Or.inl ⟨by rfl, ?_⟩) hS3a ?_
  · intro wS hSw
    go_simp
  simp only [Act.put, List.setIfInBounds_toArray, List.set_cons_zero, List.set_cons_succ]
  refine wpAnyH_take (i := 15) (oi := { dst := some 61, op := .move (.tmp 0), type := _, pos := _, after := _, guard := some (14, true) }) (v := .pointer (some ⟨gc, 0, none⟩)) rfl (by kernel_rfl) (by kernel_rfl) (by kernel_rfl) (fun _ _ _ h => h) (Or.inl ⟨by rfl, ?_⟩) hS3a ?_
  · intro wS hSw
    go_simp
  simp only [Act.put, List.setIfInBounds_toArray, List.set_cons_zero, List.set_cons_succ]
  refine wpAnyH_take (i := 16) (oi := { dst := some 62, op := .move (.tmp 2), type := _, pos := _, after := _, guard := some (14, true) }) (v := .string nm) rfl (by kernel_rfl) (by kernel_rfl) (by kernel_rfl) (fun _ _ _ h => h) (Or.inl ⟨by rfl, ?_⟩) hS3a ?_
  · intro wS hSw
    go_simp
  simp only [Act.put, List.setIfInBounds_toArray, List.set_cons_zero, List.set_cons_succ]
  refine wpAnyH_take (i := 18) (oi := { dst := some 64, op := .move (.tmp 1), type := _, pos := _, after := _, guard := some (14, true) }) (v := .pointer (some ⟨gr, 0, none⟩)) rfl (by kernel_rfl) (by kernel_rfl) (by kernel_rfl) (fun _ _ _ h => h) (Or.inl ⟨by rfl, ?_⟩) hS3a ?_
  · intro wS hSw
    go_simp
  simp only [Act.put, List.setIfInBounds_toArray, List.set_cons_zero, List.set_cons_succ]
  refine wpAnyH_take (i := 19) (oi := { dst := some 65, op := .move (.tmp 2), type := _, pos := _, after := _, guard := some (14, true) }) (v := .string nm) rfl (by kernel_rfl) (by kernel_rfl) (by kernel_rfl) (fun _ _ _ h => h) (Or.inl ⟨by rfl, ?_⟩) hS3a ?_
  · intro wS hSw
    go_simp
  simp only [Act.put, List.setIfInBounds_toArray, List.set_cons_zero, List.set_cons_succ]
  refine wpAnyH_ready (rs := [17]) (by kernel_rfl) (by simp) ?_
  refine AllReadyH.cons (o := { dst := some 63, op := .call { callee := .value (.func 23), args := #[.tmp 61, .tmp 62], argTypes := #[22, 9] }, type := _, pos := _, after := _, guard := some (14, true) }) rfl (fun K hK => ?_) AllReadyH.nil
  rw [if_pos (by rfl)]
  have sv4a := hS3a.size
  go_wp2_with (go_at_call 23; refine (HLs.out x3a hS3a).mono ?_; rintro e x4a ⟨rfl, hb4a⟩)
  have sz4a := hb4a.size
  have hS4a := hS3a.trans (hb4a.mono hS3a.size)
  refine hK.out _ _ hS4a (fun _ => ?_)
  clear hK K
  refine wpAnyH_ready (rs := [20]) (by kernel_rfl) (by simp) ?_
  refine AllReadyH.cons (o := { dst := some 66, op := .call { callee := .value (.func 48), args := #[.tmp 64, .tmp 65], argTypes := #[26, 9] }, type := _, pos := _, after := _, guard := some (14, true) }) rfl (fun K hK => ?_) AllReadyH.nil
  rw [if_pos (by rfl)]
  have sv5a := hS4a.size
  go_wp2_with (go_at_call 48; refine (HRL.out x4a hS4a).mono ?_; rintro e x5a ⟨rfl, hb5a⟩)
  have sz5a := hb5a.size
  have hS5a := hS4a.trans (hb5a.mono hS4a.size)
  refine hK.out _ _ hS5a (fun _ => ?_)
  clear hK K
  refine wpAnyH_take (i := 21) (oi := { dst := some 67, op := .binOp .eql 3 (.tmp 63) (.tmp 66) 3, type := _, pos := _, after := _, guard := some (14, true) }) (v := .bool true) rfl (by kernel_rfl) (by kernel_rfl) (by kernel_rfl) (fun _ _ _ h => h) (Or.inl ⟨by rfl, ?_⟩) hS5a ?_
  · intro wS hSw
    go_simp
  simp only [Act.put, List.setIfInBounds_toArray, List.set_cons_zero, List.set_cons_succ]
  refine wpAnyH_take (i := 22) (oi := { dst := some 68, op := .pick (.tmp 60) (.tmp 67) (.const (.bool false)), type := _, pos := _, after := _, guard := none }) (v := .bool true) rfl (by kernel_rfl) (by kernel_rfl) (by kernel_rfl) (fun _ _ _ h => h) (Or.inl ⟨by rfl, ?_⟩) hS5a ?_
  · intro wS hSw
    go_simp
  simp only [Act.put, List.setIfInBounds_toArray, List.set_cons_zero, List.set_cons_succ]
  refine wpAnyH_take (i := 23) (oi := { dst := some 69, op := .move (.tmp 68), type := _, pos := _, after := _, guard := none }) (v := .bool true) rfl (by kernel_rfl) (by kernel_rfl) (by kernel_rfl) (fun _ _ _ h => h) (Or.inl ⟨by rfl, ?_⟩) hS5a ?_
  · intro wS hSw
    go_simp
  simp only [Act.put, List.setIfInBounds_toArray, List.set_cons_zero, List.set_cons_succ]
  refine wpAnyH_take (i := 24) (oi := { dst := some 70, op := .move (.tmp 0), type := _, pos := _, after := _, guard := some (23, true) }) (v := .pointer (some ⟨gc, 0, none⟩)) rfl (by kernel_rfl) (by kernel_rfl) (by kernel_rfl) (fun _ _ _ h => h) (Or.inl ⟨by rfl, ?_⟩) hS5a ?_
  · intro wS hSw
    go_simp
  simp only [Act.put, List.setIfInBounds_toArray, List.set_cons_zero, List.set_cons_succ]
  refine wpAnyH_take (i := 26) (oi := { dst := some 72, op := .move (.tmp 1), type := _, pos := _, after := _, guard := some (23, true) }) (v := .pointer (some ⟨gr, 0, none⟩)) rfl (by kernel_rfl) (by kernel_rfl) (by kernel_rfl) (fun _ _ _ h => h) (Or.inl ⟨by rfl, ?_⟩) hS5a ?_
  · intro wS hSw
    go_simp
  simp only [Act.put, List.setIfInBounds_toArray, List.set_cons_zero, List.set_cons_succ]
  refine wpAnyH_take (i := 27) (oi := { dst := some 73, op := .nilCheck (.tmp 72), type := _, pos := _, after := _, guard := some (23, true) }) (v := .pointer (some ⟨gr, 0, none⟩)) rfl (by kernel_rfl) (by kernel_rfl) (by kernel_rfl) (fun _ _ _ h => h) (Or.inl ⟨by rfl, ?_⟩) hS5a ?_
  · intro wS hSw
    go_simp
  simp only [Act.put, List.setIfInBounds_toArray, List.set_cons_zero, List.set_cons_succ]
  refine wpAnyH_take (i := 28) (oi := { dst := some 74, op := .fieldAddr 61 (.tmp 73) 2, type := _, pos := _, after := _, guard := some (23, true) }) (v := .pointer (some ⟨gr, 2, none⟩)) rfl (by kernel_rfl) (by kernel_rfl) (by kernel_rfl) (fun _ _ _ h => h) (Or.inl ⟨by rfl, ?_⟩) hS5a ?_
  · intro wS hSw
    go_simp
  simp only [Act.put, List.setIfInBounds_toArray, List.set_cons_zero, List.set_cons_succ]
  refine wpAnyH_take (i := 29) (oi := { dst := some 75, op := .load 3 (.tmp 74), type := _, pos := _, after := _, guard := some (23, true) }) (v := .int .i64 L) rfl (by kernel_rfl) (by kernel_rfl) (by kernel_rfl) (fun _ _ _ h => h) (Or.inl ⟨by rfl, ?_⟩) hS5a ?_
  · intro wS hSw
    have z0 := (hSw.cell (lt_of_cell c2)).trans c2
    go_simp
  simp only [Act.put, List.setIfInBounds_toArray, List.set_cons_zero, List.set_cons_succ]
  refine wpAnyH_take (i := 30) (oi := { dst := some 76, op := .binOp .eql 3 (.tmp 75) (.const (.int .i64 0)) 3, type := _, pos := _, after := _, guard := some (23, true) }) (v := .bool (L == 0)) rfl (by kernel_rfl) (by kernel_rfl) (by kernel_rfl) (fun _ _ _ h => h) (Or.inl ⟨by rfl, ?_⟩) hS5a ?_
  · intro wS hSw
    go_simp
  simp only [Act.put, List.setIfInBounds_toArray, List.set_cons_zero, List.set_cons_succ]
  refine wpAnyH_ready (rs := [25]) (by kernel_rfl) (by simp) ?_
  refine AllReadyH.cons (o := { dst := some 71, op := .call { callee := .value (.func 24), args := #[.tmp 70], argTypes := #[22] }, type := _, pos := _, after := _, guard := some (23, true) }) rfl (fun K hK => ?_) AllReadyH.nil
  rw [if_pos (by rfl)]
  have sv6a := hS5a.size
  go_wp2_with (go_at_call 24; refine (HSt.out x5a hS5a).mono ?_; rintro e x6a ⟨rfl, hb6a⟩)
  have sz6a := hb6a.size
  have hS6a := hS5a.trans (hb6a.mono hS5a.size)
  refine hK.out _ _ hS6a (fun _ => ?_)
  clear hK K
  refine wpAnyH_take (i := 31) (oi := { dst := some 77, op := .binOp .eql 4 (.tmp 71) (.tmp 76) 4, type := _, pos := _, after := _, guard := some (23, true) }) (v := .bool true) rfl (by kernel_rfl) (by kernel_rfl) (by kernel_rfl) (fun _ _ _ h => h) (Or.inl ⟨by rfl, ?_⟩) hS6a ?_
  · intro wS hSw
    go_simp
  simp only [Act.put, List.setIfInBounds_toArray, List.set_cons_zero, List.set_cons_succ]
  refine wpAnyH_take (i := 32) (oi := { dst := some 78, op := .pick (.tmp 69) (.tmp 77) (.const (.bool false)), type := _, pos := _, after := _, guard := none }) (v := .bool true) rfl (by kernel_rfl) (by kernel_rfl) (by kernel_rfl) (fun _ _ _ h => h) (Or.inl ⟨by rfl, ?_⟩) hS6a ?_
  · intro wS hSw
    go_simp
  simp only [Act.put, List.setIfInBounds_toArray, List.set_cons_zero, List.set_cons_succ]
  refine wpAnyH_take (i := 33) (oi := { dst := some 79, op := .move (.tmp 78), type := _, pos := _, after := _, guard := none }) (v := .bool true) rfl (by kernel_rfl) (by kernel_rfl) (by kernel_rfl) (fun _ _ _ h => h) (Or.inl ⟨by rfl, ?_⟩) hS6a ?_
  · intro wS hSw
    go_simp
  simp only [Act.put, List.setIfInBounds_toArray, List.set_cons_zero, List.set_cons_succ]
  refine wpAnyH_take (i := 34) (oi := { dst := some 80, op := .move (.tmp 0), type := _, pos := _, after := _, guard := some (33, true) }) (v := .pointer (some ⟨gc, 0, none⟩)) rfl (by kernel_rfl) (by kernel_rfl) (by kernel_rfl) (fun _ _ _ h => h) (Or.inl ⟨by rfl, ?_⟩) hS6a ?_
  · intro wS hSw
    go_simp
  simp only [Act.put, List.setIfInBounds_toArray, List.set_cons_zero, List.set_cons_succ]
  refine wpAnyH_take (i := 36) (oi := { dst := some 82, op := .move (.tmp 1), type := _, pos := _, after := _, guard := some (33, true) }) (v := .pointer (some ⟨gr, 0, none⟩)) rfl (by kernel_rfl) (by kernel_rfl) (by kernel_rfl) (fun _ _ _ h => h) (Or.inl ⟨by rfl, ?_⟩) hS6a ?_
  · intro wS hSw
    go_simp
  simp only [Act.put, List.setIfInBounds_toArray, List.set_cons_zero, List.set_cons_succ]
  refine wpAnyH_take (i := 37) (oi := { dst := some 83, op := .nilCheck (.tmp 82), type := _, pos := _, after := _, guard := some (33, true) }) (v := .pointer (some ⟨gr, 0, none⟩)) rfl (by kernel_rfl) (by kernel_rfl) (by kernel_rfl) (fun _ _ _ h => h) (Or.inl ⟨by rfl, ?_⟩) hS6a ?_
  · intro wS hSw
    go_simp
  simp only [Act.put, List.setIfInBounds_toArray, List.set_cons_zero, List.set_cons_succ]
  refine wpAnyH_take (i := 38) (oi := { dst := some 84, op := .fieldAddr 61 (.tmp 83) 3, type := _, pos := _, after := _, guard := some (33, true) }) (v := .pointer (some ⟨gr, 3, none⟩)) rfl (by kernel_rfl) (by kernel_rfl) (by kernel_rfl) (fun _ _ _ h => h) (Or.inl ⟨by rfl, ?_⟩) hS6a ?_
  · intro wS hSw
    go_simp
  simp only [Act.put, List.setIfInBounds_toArray, List.set_cons_zero, List.set_cons_succ]
  refine wpAnyH_take (i := 39) (oi := { dst := some 85, op := .load 3 (.tmp 84), type := _, pos := _, after := _, guard := some (33, true) }) (v := .int .i64 (N : Int)) rfl (by kernel_rfl) (by kernel_rfl) (by kernel_rfl) (fun _ _ _ h => h) (Or.inl ⟨by rfl, ?_⟩) hS6a ?_
  · intro wS hSw
    have z0 := (hSw.cell (lt_of_cell c3)).trans c3
    go_simp
  simp only [Act.put, List.setIfInBounds_toArray, List.set_cons_zero, List.set_cons_succ]
  refine wpAnyH_ready (rs := [35]) (by kernel_rfl) (by simp) ?_
  refine AllReadyH.cons (o := { dst := some 81, op := .call { callee := .value (.func 25), args := #[.tmp 80], argTypes := #[22] }, type := _, pos := _, after := _, guard := some (33, true) }) rfl (fun K hK => ?_) AllReadyH.nil
  rw [if_pos (by rfl)]
  have sv7a := hS6a.size
  go_wp2_with (go_at_call 25; refine (HWr.out x6a hS6a).mono ?_; rintro e x7a ⟨rfl, hb7a⟩)
  have sz7a := hb7a.size
  have hS7a := hS6a.trans (hb7a.mono hS6a.size)
  refine hK.out _ _ hS7a (fun _ => ?_)
  clear hK K
  refine wpAnyH_take (i := 40) (oi := { dst := some 86, op := .binOp .eql 3 (.tmp 81) (.tmp 85) 3, type := _, pos := _, after := _, guard := some (33, true) }) (v := .bool true) rfl (by kernel_rfl) (by kernel_rfl) (by kernel_rfl) (fun _ _ _ h => h) (Or.inl ⟨by rfl, ?_⟩) hS7a ?_
  · intro wS hSw
    go_simp
  simp only [Act.put, List.setIfInBounds_toArray, List.set_cons_zero, List.set_cons_succ]
  refine wpAnyH_take (i := 41) (oi := { dst := some 87, op := .pick (.tmp 79) (.tmp 86) (.const (.bool false)), type := _, pos := _, after := _, guard := none }) (v := .bool true) rfl (by kernel_rfl) (by kernel_rfl) (by kernel_rfl) (fun _ _ _ h => h) (Or.inl ⟨by rfl, ?_⟩) hS7a ?_
  · intro wS hSw
    go_simp
  simp only [Act.put, List.setIfInBounds_toArray, List.set_cons_zero, List.set_cons_succ]
  refine wpAnyH_take (i := 42) (oi := { dst := some 6, op := .assign (.tmp 87), type := _, pos := _, after := _, guard := none }) (v := .bool true) rfl (by kernel_rfl) (by kernel_rfl) (by kernel_rfl) (fun _ _ _ h => h) (Or.inl ⟨by rfl, ?_⟩) hS7a ?_
  · intro wS hSw
    go_simp
  simp only [Act.put, List.setIfInBounds_toArray, List.set_cons_zero, List.set_cons_succ]
  refine wpAnyH_done (by kernel_rfl) ?_ _
  have HBf := hidU (HB9.out.trans (hS7a.mono HB9.out.size))
  go_wp2
  go_ret
  exact ⟨rfl, HBf.out⟩
end Go.Proofs.YtcmkjjlchljffaaDoor

/- act: a call of both disks. -/
namespace Go.Proofs.YtcmkjjlchljffaaDoor
open Go.RowKit
set_option linter.unusedVariables false

/-- A call. -/
structure Ac where
  kd : Int
  nm : ByteArray
  to : ByteArray
  z : Int
  b : List UInt8
  torn : List Int
/-- .. and where its rows lie. -/
structure AT where
  ac : Ac
  ba : Option Addr
  bc : Nat
  ta : Option Addr
  tc : Nat
def AT.cells (a : AT) : List Value := [.int .i64 a.ac.kd, .string a.ac.nm, .string a.ac.to, .int .i64 a.ac.z, .slice a.ba a.ac.b.length a.bc, .slice a.ta a.ac.torn.length a.tc]
/-- A call that came in: its rows lie below B. -/
structure AT.In (B : Nat) (w : World) (a : AT) : Prop where
  rb : Row w a.ba a.ac.b
  lb : a.ac.b.length ≤ a.bc
  nb : a.ba = none → a.bc = 0
  bb : a.ac.b ≠ [] → ∀ ad, a.ba = some ad → ad.block < B
  rt : RowX eI w a.ta a.ac.torn
  lt : a.ac.torn.length ≤ a.tc
  nt : a.ta = none → a.tc = 0
  tt : a.ac.torn ≠ [] → ∀ ad, a.ta = some ad → ad.block < B
  l1 : a.ac.b.length ≤ 1099511627776
  l2 : a.ac.torn.length ≤ 1099511627776
  l3 : a.ac.nm.size ≤ 9223372036854775807
  l4 : a.ac.to.size ≤ 9223372036854775807
theorem AT.In.below {B : Nat} {w w' : World} {a : AT} (h : a.In B w) (hb : Below B w w') : a.In B w' :=
  ⟨h.rb.same0 fun q ad ha => hb.block _ (h.bb q ad ha), h.lb, h.nb, h.bb, h.rt.same0 fun q ad ha => hb.block _ (h.tt q ad ha), h.lt, h.nt, h.tt, h.l1, h.l2, h.l3, h.l4⟩
def acD (d : Dk) (a : Ac) : Dk :=
  if a.kd = 0 then (apO d a.nm a.b).1 else if a.kd = 1 then (ctO d a.nm a.z).1 else if a.kd = 2 then (syO d a.nm).1 else if a.kd = 3 then (rnO d a.nm a.to).1 else if a.kd = 4 then (rmO d a.nm).1 else if a.kd = 5 then stD d a.z else if a.kd = 6 then crD d a.torn else d
section
variable {U : Prop} {CD : CDT} {B gc gr : Nat} {w x0 x1 x2 x3 : World} {Wc Fc Wr Fr W1 F1 W2 F2 : Nat → Prop} {d d' : Dk}
end
theorem u33 : ∃ d, Tryd.prog.underlying 84 = some d ∧ d.isRow = true := by
  have h : (Tryd.prog.underlying 84).map (·.isRow) = some true := by kernel_rfl
  cases hq : Tryd.prog.underlying 84 with
  | none => rw [hq] at h; cases h
  | some d => rw [hq] at h; simp at h; exact ⟨d, rfl, h⟩
section
variable {w : World} {gb : Nat} {a : AT}
end
theorem ac0 {w : World} {gb : Nat} {a : AT} (h : At 84 w gb a.cells) : w.cell? ⟨gb, 0, none⟩ = some (.int .i64 a.ac.kd) := by rw [h.cell]; rfl
theorem ac1 {w : World} {gb : Nat} {a : AT} (h : At 84 w gb a.cells) : w.cell? ⟨gb, 1, none⟩ = some (.string a.ac.nm) := by rw [h.cell]; rfl
theorem ac2 {w : World} {gb : Nat} {a : AT} (h : At 84 w gb a.cells) : w.cell? ⟨gb, 2, none⟩ = some (.string a.ac.to) := by rw [h.cell]; rfl
theorem ac3 {w : World} {gb : Nat} {a : AT} (h : At 84 w gb a.cells) : w.cell? ⟨gb, 3, none⟩ = some (.int .i64 a.ac.z) := by rw [h.cell]; rfl
theorem ac4 {w : World} {gb : Nat} {a : AT} (h : At 84 w gb a.cells) : w.cell? ⟨gb, 4, none⟩ = some (.slice a.ba a.ac.b.length a.bc) := by rw [h.cell]; rfl
theorem ac5 {w : World} {gb : Nat} {a : AT} (h : At 84 w gb a.cells) : w.cell? ⟨gb, 5, none⟩ = some (.slice a.ta a.ac.torn.length a.tc) := by rw [h.cell]; rfl
section
variable {U : Prop} {CD : CDT} {B gc gr : Nat} {w w1 w2 w' : World} {Wc Fc Wr Fr W F : Nat → Prop} {d : Dk}
theorem RD.lt {B g : Nat} {w : World} {W F : Nat → Prop} {d : Dk} (h : RD B w g W F d) : ∀ k, F k → k < w.heap.size := by
  obtain ⟨_, _, h⟩ := h
  exact h.lt
theorem RD.wf {B g : Nat} {w : World} {W F : Nat → Prop} {d : Dk} (h : RD B w g W F d) : ∀ k, W k → F k ∧ B ≤ k := by
  obtain ⟨_, _, h⟩ := h
  exact h.wf
end
end Go.Proofs.YtcmkjjlchljffaaDoor

/- act: Append, Crash, and what is none. -/
namespace Go.Proofs.YtcmkjjlchljffaaDoor
open Go.RowKit
set_option linter.unusedVariables false

theorem wpList_layI0 {o : Oper} {a : Act} {w : World} {Q : Exit → Act → World → Prop} {ops : Array Oper} {rest : List Oper} (hgd : o.guard = none) (ho : o.op = .buildSlice 52 0 #[])
    (h : ∀ w', OwnX eI w.heap.size w' (.slice (some ⟨w.heap.size, 0, none⟩) 0 0) [] → Below w.heap.size w w' → w'.heap.size = w.heap.size + 1 → wpList Tryd.prog ops Q rest (a.put o.dst (.slice (some ⟨w.heap.size, 0, none⟩) 0 0)) w') : wpList Tryd.prog ops Q (o :: rest) a w := by
  refine wpList_plain hgd fun K hK => ?_
  have := hK _ _ (h _ (own_lay0 eI w) ((Below.refl _ w).alloc (Nat.le_refl _) _) (by simp))
  unfold Oper.wp execOp
  rw [ho]
  go_simp
  exact this
theorem blk_at {w : World} {g : Nat} {cs : List Value} : Blk w g cs ↔ At 5 w g cs := Iff.rfl
theorem allU_map (bs : List UInt8) : AllU (bs.map B8) := fun i v hv => by
  rw [List.getElem?_map] at hv
  cases hb : bs[i]? with
  | none => rw [hb] at hv; cases hv
  | some c => rw [hb] at hv; cases hv; exact ⟨c, rfl⟩
end Go.Proofs.YtcmkjjlchljffaaDoor

/- Disks stay fine: the mathematics of the calls. -/
namespace Go.Proofs.YtcmkjjlchljffaaDoor
open Go.RowKit
set_option linter.unusedVariables false

theorem bl_irr : ∀ x : List UInt8, Op.bytesLess x x = false
  | [] => rfl
  | a :: x => by simp [Op.bytesLess, bl_irr x]
theorem bl_trans : ∀ {x y z : List UInt8}, Op.bytesLess x y = true → Op.bytesLess y z = true → Op.bytesLess x z = true
  | x, [], z, h, _ => by cases x <;> simp [Op.bytesLess] at h
  | x, _ :: _, [], _, h => by simp [Op.bytesLess] at h
  | [], _ :: _, _ :: _, _, _ => rfl
  | a :: x, b :: y, c :: z, h1, h2 => by
    simp only [Op.bytesLess, Bool.or_eq_true, decide_eq_true_eq, Bool.and_eq_true, beq_iff_eq] at h1 h2 ⊢
    rcases h1 with h1 | ⟨rfl, h1⟩
    · rcases h2 with h2 | ⟨rfl, h2⟩
      · exact .inl (UInt8.lt_trans h1 h2)
      · exact .inl h1
    · rcases h2 with h2 | ⟨rfl, h2⟩
      · exact .inl h2
      · exact .inr ⟨rfl, bl_trans h1 h2⟩
theorem bl_total : ∀ {x y : List UInt8}, Op.bytesLess x y = false → x ≠ y → Op.bytesLess y x = true
  | [], [], _, h => absurd rfl h
  | [], _ :: _, h, _ => by simp [Op.bytesLess] at h
  | _ :: _, [], _, _ => rfl
  | a :: x, b :: y, h, hne => by
    simp only [Op.bytesLess, Bool.or_eq_false_iff, decide_eq_false_iff_not, Bool.and_eq_false_imp, beq_iff_eq] at h
    simp only [Op.bytesLess, Bool.or_eq_true, decide_eq_true_eq, Bool.and_eq_true, beq_iff_eq]
    by_cases hab : a = b
    · subst hab
      exact .inr ⟨rfl, bl_total (h.2 rfl) fun e => hne (by rw [e])⟩
    · left
      rcases UInt8.lt_or_lt_of_ne hab with q | q
      · exact absurd q h.1
      · exact q
theorem ltN_irr (a : ByteArray) : ltN a a = false := bl_irr _
theorem ltN_trans {a b c : ByteArray} (h1 : ltN a b = true) (h2 : ltN b c = true) : ltN a c = true := bl_trans h1 h2
theorem insL_mem {f : Fi} : ∀ {fs : List Fi} {x : Fi}, x ∈ insL f fs → x = f ∨ x ∈ fs
  | [], x, h => by simp [insL] at h; exact .inl h
  | a :: fs, x, h => by
    unfold insL at h
    split at h
    · rcases List.mem_cons.1 h with h | h
      · exact .inl h
      · exact .inr h
    · rcases List.mem_cons.1 h with h | h
      · exact .inr (h ▸ List.mem_cons_self)
      · exact (insL_mem h).imp id (List.mem_cons_of_mem _)
theorem insL_sorted {f : Fi} : ∀ {fs : List Fi}, Sorted fs → (∀ x ∈ fs, isN f.nm x = false) → Sorted (insL f fs)
  | [], _, _ => List.pairwise_singleton _ _
  | a :: fs, hs, hn => by
    have hs' := List.pairwise_cons.1 hs
    unfold insL
    split
    · rename_i hl
      refine List.pairwise_cons.2 ⟨fun x hx => ?_, hs⟩
      rcases List.mem_cons.1 hx with rfl | hx
      · exact hl
      · exact ltN_trans hl (hs'.1 x hx)
    · rename_i hl
      refine List.pairwise_cons.2 ⟨fun x hx => ?_, insL_sorted hs'.2 fun x hx => hn x (List.mem_cons_of_mem _ hx)⟩
      rcases insL_mem hx with rfl | hx
      · refine bl_total (Bool.eq_false_iff.2 hl) fun e => ?_
        have := hn a List.mem_cons_self
        simp [isN, e] at this
      · exact hs'.1 x hx
theorem setL_nm {nm : ByteArray} {u : Fi → Fi} (hu : ∀ f, (u f).nm = f.nm) : ∀ fs : List Fi, (setL nm u fs).map Fi.nm = fs.map Fi.nm
  | [] => rfl
  | a :: fs => by
    unfold setL
    split
    · simp [hu]
    · simp [setL_nm hu fs]
theorem sorted_nm {fs gs : List Fi} (h : gs.map Fi.nm = fs.map Fi.nm) (hs : Sorted fs) : Sorted gs := by
  have e : ∀ l : List Fi, Sorted l ↔ (l.map Fi.nm).Pairwise fun a b => ltN a b = true := fun l => by unfold Sorted; rw [List.pairwise_map]
  rw [e] at hs ⊢
  rw [h]
  exact hs
theorem setL_sorted {nm : ByteArray} {u : Fi → Fi} (hu : ∀ f, (u f).nm = f.nm) {fs : List Fi} (h : Sorted fs) : Sorted (setL nm u fs) := sorted_nm (setL_nm hu fs) h
theorem filter_sorted {p : Fi → Bool} {fs : List Fi} (h : Sorted fs) : Sorted (fs.filter p) := h.filter p
theorem usedL_cons (a : Fi) (fs : List Fi) : usedL (a :: fs) = a.bs.length + usedL fs := by simp [usedL]
theorem insL_used (f : Fi) : ∀ fs : List Fi, usedL (insL f fs) = f.bs.length + usedL fs
  | [] => by simp [insL, usedL]
  | a :: fs => by
    unfold insL
    split
    · rw [usedL_cons]
    · rw [usedL_cons, usedL_cons, insL_used f fs]; omega
theorem insL_len (f : Fi) : ∀ fs : List Fi, (insL f fs).length = fs.length + 1
  | [] => rfl
  | a :: fs => by
    unfold insL
    split
    · rfl
    · simp [insL_len f fs]
theorem setL_used {nm : ByteArray} {u : Fi → Fi} : ∀ {fs : List Fi} {f : Fi}, fs.find? (isN nm) = some f → usedL (setL nm u fs) + f.bs.length = usedL fs + (u f).bs.length
  | a :: fs, f, h => by
    unfold setL
    cases hb : isN nm a with
    | true =>
      rw [List.find?_cons_of_pos hb] at h
      cases h
      simp only [if_true]
      rw [usedL_cons, usedL_cons]
      omega
    | false =>
      rw [List.find?_cons_of_neg (by rw [hb]; simp)] at h
      have := setL_used (u := u) h
      simp only [Bool.false_eq_true, if_false]
      rw [usedL_cons, usedL_cons]
      omega
theorem setL_len {nm : ByteArray} {u : Fi → Fi} : ∀ fs : List Fi, (setL nm u fs).length = fs.length
  | [] => rfl
  | a :: fs => by unfold setL; split <;> simp [setL_len fs]
theorem setL_mem {nm : ByteArray} {u : Fi → Fi} : ∀ {fs : List Fi} {x : Fi}, x ∈ setL nm u fs → x ∈ fs ∨ ∃ f, fs.find? (isN nm) = some f ∧ x = u f
  | a :: fs, x, h => by
    unfold setL at h
    cases hb : isN nm a with
    | true =>
      rw [hb] at h
      simp only [if_true] at h
      rcases List.mem_cons.1 h with h | h
      · exact .inr ⟨a, List.find?_cons_of_pos hb, h⟩
      · exact .inl (List.mem_cons_of_mem _ h)
    | false =>
      rw [hb] at h
      simp only [Bool.false_eq_true, if_false] at h
      rcases List.mem_cons.1 h with h | h
      · exact .inl (h ▸ List.mem_cons_self)
      · rcases setL_mem h with h | ⟨f, h1, h2⟩
        · exact .inl (List.mem_cons_of_mem _ h)
        · exact .inr ⟨f, by rw [List.find?_cons_of_neg (by rw [hb]; simp)]; exact h1, h2⟩
theorem filter_used (p : Fi → Bool) : ∀ fs : List Fi, usedL (fs.filter p) ≤ usedL fs
  | [] => Nat.le_refl _
  | a :: fs => by
    have := filter_used p fs
    by_cases h : p a = true
    · rw [List.filter_cons_of_pos h, usedL_cons, usedL_cons]; omega
    · rw [List.filter_cons_of_neg h, usedL_cons]; omega
theorem filter_used2 {p : Fi → Bool} {f : Fi} : ∀ {fs : List Fi}, f ∈ fs → p f = false → usedL (fs.filter p) + f.bs.length ≤ usedL fs ∧ (fs.filter p).length + 1 ≤ fs.length
  | a :: fs, hm, hf => by
    by_cases h : p a = true
    · rcases List.mem_cons.1 hm with rfl | hm
      · rw [hf] at h; cases h
      · obtain ⟨h1, h2⟩ := filter_used2 hm hf
        rw [List.filter_cons_of_pos h, usedL_cons, usedL_cons, List.length_cons, List.length_cons]
        exact ⟨by omega, by omega⟩
    · rw [List.filter_cons_of_neg h, usedL_cons, List.length_cons]
      have h3 := filter_used p fs
      have h4 := List.length_filter_le p fs
      rcases List.mem_cons.1 hm with rfl | hm
      · exact ⟨by omega, by omega⟩
      · obtain ⟨h1, h2⟩ := filter_used2 hm hf
        exact ⟨by omega, by omega⟩
/-- A disk that is fine, and whose names rise; so many writes at most were done. -/
structure Gd (n : Nat) (d : Dk) : Prop where
  sz : d.sz ≤ 67108864
  us : usedL d.fs ≤ d.sz
  ln : d.fs.length ≤ 256
  lf : -1 ≤ d.lf
  lg : d.lf ≤ 9223372036854775807
  wr : d.wr ≤ n
  sf : ∀ f ∈ d.fs, f.sf ≤ f.bs.length
  so : Sorted d.fs
theorem Gd.fine {n : Nat} {d : Dk} (h : Gd n d) (hn : n ≤ 4611686018427387904) : Fine d := ⟨h.sz, h.us, h.ln, h.lf, h.lg, by have := h.wr; omega, h.sf⟩
theorem Gd.more {n m : Nat} {d : Dk} (h : Gd n d) (hn : n ≤ m) : Gd m d := ⟨h.sz, h.us, h.ln, h.lf, h.lg, Nat.le_trans h.wr hn, h.sf, h.so⟩
theorem Gd.pw {n : Nat} {d : Dk} (h : Gd n d) {fs : List Fi} (h1 : usedL fs ≤ d.sz) (h2 : fs.length ≤ 256) (h3 : ∀ f ∈ fs, f.sf ≤ f.bs.length) (h4 : Sorted fs) : Gd (n + 1) { pwD d with fs := fs } := by
  have h5 := h.lf
  have h6 := h.lg
  have h7 := h.wr
  refine ⟨h.sz, h1, h2, ?_, ?_, ?_, h3, h4⟩
  · show -1 ≤ (if 0 < d.lf then d.lf - 1 else d.lf)
    split <;> omega
  · show (if 0 < d.lf then d.lf - 1 else d.lf) ≤ _
    split <;> omega
  · show d.wr + 1 ≤ n + 1
    omega
section
variable {n : Nat} {d : Dk} {nm to : ByteArray} {z : Int} {b : List UInt8} {torn : List Int}
theorem find_mem {fs : List Fi} {f : Fi} (h : fs.find? (isN nm) = some f) : f ∈ fs ∧ isN nm f = true := ⟨List.mem_of_find?_eq_some h, List.find?_some h⟩
theorem gd_ap (h : Gd n d) : Gd (n + 1) (apO d nm b).1 := by
  unfold apO
  split
  · exact h.more (Nat.le_succ _)
  split
  · exact h.more (Nat.le_succ _)
  rename_i hnb
  split
  · exact h.more (Nat.le_succ _)
  have hu : usedL d.fs + b.length ≤ d.sz := Nat.le_of_not_lt fun q => hnb (.inr q)
  cases hf : d.fs.find? (isN nm) with
  | none =>
    have hl : d.fs.length < 256 := Nat.lt_of_not_le fun q => hnb (.inl ⟨hf, q⟩)
    have e : hasL nm d.fs = insL (fil0 nm) d.fs := by rw [hasL, hf]; rfl
    have hfi := insL_find hf
    rw [e]
    refine h.pw ?_ ?_ ?_ ?_
    · have := setL_used (u := fun f => { f with bs := f.bs ++ b }) hfi
      have e2 : usedL (insL (fil0 nm) d.fs) = usedL d.fs := by rw [insL_used]; exact Nat.zero_add _
      simp only [List.length_append] at this
      omega
    · rw [setL_len, insL_len]; omega
    · intro x hx
      rcases setL_mem hx with hx | ⟨f, h1, rfl⟩
      · rcases insL_mem hx with rfl | hx
        · exact Nat.le_refl _
        · exact h.sf x hx
      · rw [hfi] at h1
        cases h1
        exact Nat.zero_le _
    · refine setL_sorted ?_ (insL_sorted h.so fun x hx => ?_)
      · intro f; rfl
      have := List.find?_eq_none.1 hf x hx
      exact Bool.eq_false_iff.2 this
  | some f =>
    have e : hasL nm d.fs = d.fs := by rw [hasL, hf]; rfl
    rw [e]
    refine h.pw ?_ (by rw [setL_len]; exact h.ln) ?_ (by refine setL_sorted ?_ h.so; intro f; rfl)
    · have := setL_used (u := fun f => { f with bs := f.bs ++ b }) hf
      simp only [List.length_append] at this
      omega
    · intro x hx
      rcases setL_mem hx with hx | ⟨g, h1, rfl⟩
      · exact h.sf x hx
      · have := h.sf g (find_mem h1).1
        simp only [List.length_append]
        omega
theorem gd_ct (h : Gd n d) : Gd (n + 1) (ctO d nm z).1 := by
  unfold ctO
  split
  · exact h.more (Nat.le_succ _)
  rename_i f hf
  split
  · exact h.more (Nat.le_succ _)
  rename_i hz
  split
  · exact h.more (Nat.le_succ _)
  split
  · exact h.more (Nat.le_succ _)
  refine h.pw ?_ (by rw [setL_len]; exact h.ln) ?_ (by refine setL_sorted ?_ h.so; intro f; rfl)
  · have := setL_used (u := fun f => { f with bs := f.bs.take z.toNat, sf := z.toNat, hd := true }) hf
    have h1 := h.us
    simp only [List.length_take] at this
    omega
  · intro x hx
    rcases setL_mem hx with hx | ⟨g, h1, rfl⟩
    · exact h.sf x hx
    · rw [hf] at h1
      cases h1
      simp only [List.length_take]
      omega
theorem gd_sy (h : Gd n d) : Gd (n + 1) (syO d nm).1 := by
  unfold syO
  split
  · exact h.more (Nat.le_succ _)
  rename_i hf0
  split
  · exact h.more (Nat.le_succ _)
  cases hf : d.fs.find? (isN nm) with
  | none => rw [hf] at hf0; exact absurd rfl hf0
  | some f =>
    refine h.pw ?_ (by rw [setL_len]; exact h.ln) ?_ (by refine setL_sorted ?_ h.so; intro f; rfl)
    · have := setL_used (u := fun f => { f with sf := f.bs.length, hd := true }) hf
      have h1 := h.us
      simp only at this
      omega
    · intro x hx
      rcases setL_mem hx with hx | ⟨g, h1, rfl⟩
      · exact h.sf x hx
      · exact Nat.le_refl _
theorem gd_rm (h : Gd n d) : Gd (n + 1) (rmO d nm).1 := by
  unfold rmO
  split
  · exact h.more (Nat.le_succ _)
  split
  · exact h.more (Nat.le_succ _)
  exact h.pw (Nat.le_trans (filter_used _ _) h.us) (Nat.le_trans (List.length_filter_le _ _) h.ln) (fun x hx => h.sf x (List.mem_filter.1 hx).1) (filter_sorted h.so)
theorem gd_rn (h : Gd n d) : Gd (n + 1) (rnO d nm to).1 := by
  unfold rnO
  split
  · exact h.more (Nat.le_succ _)
  split
  · exact h.more (Nat.le_succ _)
  rename_i f hf
  split
  · exact h.more (Nat.le_succ _)
  split
  · exact h.more (Nat.le_succ _)
  split
  · exact h.pw h.us h.ln h.sf h.so
  obtain ⟨hm, hn⟩ := find_mem hf
  obtain ⟨u1, u2⟩ := filter_used2 (p := fun f => !isN nm f) hm (by rw [hn]; rfl)
  have u3 := filter_used (fun f => !isN to f) (d.fs.filter fun f => !isN nm f)
  have u4 := List.length_filter_le (fun f => !isN to f) (d.fs.filter fun f => !isN nm f)
  have h1 := h.us
  have h2 := h.ln
  refine h.pw (fs := insL { f with nm := to, hd := true } ((d.fs.filter fun f => !isN nm f).filter fun f => !isN to f)) ?_ ?_ ?_ ?_
  · rw [insL_used]
    show f.bs.length + _ ≤ _
    omega
  · rw [insL_len]
    omega
  · intro x hx
    rcases insL_mem hx with rfl | hx
    · exact h.sf f hm
    · exact h.sf x (List.mem_filter.1 (List.mem_filter.1 hx).1).1
  · refine insL_sorted (filter_sorted (filter_sorted h.so)) fun x hx => ?_
    have := (List.mem_filter.1 hx).2
    simpa using this
theorem gd_st (h : Gd n d) (hz : z ≤ 9223372036854775807) : Gd (n + 1) (stD d z) := by
  unfold stD
  split
  · exact h.more (Nat.le_succ _)
  refine ⟨h.sz, h.us, h.ln, ?_, ?_, Nat.le_succ_of_le h.wr, h.sf, h.so⟩
  · show -1 ≤ (if d.lf = 0 then 0 else z)
    split <;> omega
  · show (if d.lf = 0 then 0 else z) ≤ _
    split <;> omega
theorem crOne_ok (torn : List Int) (k : Nat) (f : Fi) (hf : f.sf ≤ f.bs.length) : (crOne torn k f).1.sf ≤ (crOne torn k f).1.bs.length ∧ (crOne torn k f).1.bs.length ≤ f.bs.length ∧ (crOne torn k f).1.nm = f.nm := by
  unfold crOne
  split
  · exact ⟨Nat.le_refl _, by simp only [List.length_take]; omega, rfl⟩
  · exact ⟨hf, Nat.le_refl _, rfl⟩
theorem crL_ok (torn : List Int) : ∀ (fs : List Fi) (k : Nat), (∀ f ∈ fs, f.sf ≤ f.bs.length) → Sorted fs → usedL (crL torn k fs) ≤ usedL fs ∧ (crL torn k fs).length ≤ fs.length ∧ (∀ x ∈ crL torn k fs, x.sf ≤ x.bs.length ∧ ∃ f ∈ fs, x.nm = f.nm) ∧ Sorted (crL torn k fs)
  | [], _, _, _ => ⟨Nat.le_refl _, Nat.le_refl _, fun x h => (by cases h), List.Pairwise.nil⟩
  | f :: fs, k, hf, hs => by
    have hs' := List.pairwise_cons.1 hs
    obtain ⟨q1, q2, q3⟩ := crOne_ok torn k f (hf f List.mem_cons_self)
    obtain ⟨i1, i2, i3, i4⟩ := crL_ok torn fs (crOne torn k f).2 (fun x hx => hf x (List.mem_cons_of_mem _ hx)) hs'.2
    unfold crL
    split
    · rw [List.singleton_append]
      refine ⟨?_, ?_, ?_, ?_⟩
      · rw [usedL_cons, usedL_cons]
        show (crOne torn k f).1.bs.length + _ ≤ _
        omega
      · rw [List.length_cons, List.length_cons]; omega
      · intro x hx
        rcases List.mem_cons.1 hx with rfl | hx
        · exact ⟨q1, f, List.mem_cons_self, q3⟩
        · obtain ⟨j1, g, j2, j3⟩ := i3 x hx
          exact ⟨j1, g, List.mem_cons_of_mem _ j2, j3⟩
      · refine List.pairwise_cons.2 ⟨fun x hx => ?_, i4⟩
        obtain ⟨_, g, j2, j3⟩ := i3 x hx
        show ltN (crOne torn k f).1.nm x.nm = true
        rw [q3, j3]
        exact hs'.1 g j2
    · rw [List.nil_append]
      refine ⟨by rw [usedL_cons]; omega, by rw [List.length_cons]; omega, fun x hx => ?_, i4⟩
      obtain ⟨j1, g, j2, j3⟩ := i3 x hx
      exact ⟨j1, g, List.mem_cons_of_mem _ j2, j3⟩
theorem gd_cr (h : Gd n d) : Gd (n + 1) (crD d torn) := by
  obtain ⟨q1, q2, q3, q4⟩ := crL_ok torn d.fs 0 h.sf h.so
  exact ⟨h.sz, Nat.le_trans q1 h.us, Nat.le_trans q2 h.ln, Int.le_refl _, by show (-1 : Int) ≤ _; omega, Nat.le_succ_of_le h.wr, fun x hx => (q3 x hx).1, q4⟩
theorem gd_ac (h : Gd n d) (a : Ac) (hz : a.z ≤ 9223372036854775807) : Gd (n + 1) (acD d a) := by
  unfold acD
  split
  · exact gd_ap h
  split
  · exact gd_ct h
  split
  · exact gd_sy h
  split
  · exact gd_rn h
  split
  · exact gd_rm h
  split
  · exact gd_st h hz
  split
  · exact gd_cr h
  · exact h.more (Nat.le_succ _)
end
end Go.Proofs.YtcmkjjlchljffaaDoor

/- The landed disk: what its map comes to when a file is put or taken away, beside the list of files. -/
namespace Go.Proofs.YtcmkjjlchljffaaDoor
open Go.RowKit
set_option linter.unusedVariables false

section
variable {α : Type} {m : List (ByteArray × α)} {s : ByteArray} {x y : α}
theorem find_split {α : Type} {p : α → Bool} : ∀ {l : List α} {a : α}, l.find? p = some a → ∃ l1 l2, l = l1 ++ a :: l2 ∧ (∀ x ∈ l1, p x = false) ∧ p a = true
  | b :: l, a, h => by
    cases hb : p b with
    | true =>
      rw [List.find?_cons_of_pos hb] at h
      cases h
      exact ⟨[], l, rfl, fun x hx => (by cases hx), hb⟩
    | false =>
      rw [List.find?_cons_of_neg (by rw [hb]; simp)] at h
      obtain ⟨l1, l2, rfl, h1, h2⟩ := find_split h
      exact ⟨b :: l1, l2, rfl, fun x hx => by
        rcases List.mem_cons.1 hx with e | e
        · rw [e]; exact hb
        · exact h1 x e, h2⟩
theorem keyB_self (s : ByteArray) (x : α) : keyB s (s, x) = true := keyB_iff.2 rfl
theorem look_split (hn : (m.map (·.1)).Nodup) (h : lookM m s = some x) : ∃ l1 l2, m = l1 ++ (s, x) :: l2 ∧ (∀ p ∈ l1 ++ l2, keyB s p = false) := by
  unfold lookM at h
  cases hf : m.find? (keyB s) with
  | none => rw [hf] at h; cases h
  | some p =>
    rw [hf] at h
    obtain ⟨l1, l2, rfl, h1, h2⟩ := find_split hf
    have e1 := keyB_iff.1 h2
    injection h with h
    obtain ⟨p1, p2⟩ := p
    simp only at e1 h
    subst e1 h
    refine ⟨l1, l2, rfl, fun q hq => ?_⟩
    rcases List.mem_append.1 hq with e | e
    · exact h1 q e
    · rw [keyB_not]
      intro e2
      rw [List.map_append, List.map_cons, List.nodup_append] at hn
      have := (List.nodup_cons.1 hn.2.1).1
      exact this (e2 ▸ List.mem_map.2 ⟨q, e, rfl⟩)
theorem del_split {l1 l2 : List (ByteArray × α)} (h : ∀ p ∈ l1 ++ l2, keyB s p = false) : delM (l1 ++ (s, x) :: l2) s = l1 ++ l2 := by
  unfold delM
  rw [List.filter_append, List.filter_cons_of_neg (by rw [keyB_self]; simp)]
  congr 1
  · exact List.filter_eq_self.2 fun p hp => by rw [h p (List.mem_append.2 (.inl hp))]; rfl
  · exact List.filter_eq_self.2 fun p hp => by rw [h p (List.mem_append.2 (.inr hp))]; rfl
theorem look_none (h : lookM m s = none) : ∀ p ∈ m, keyB s p = false := by
  unfold lookM at h
  rw [Option.map_eq_none_iff, List.find?_eq_none] at h
  intro p hp
  simpa using h p hp
theorem updM_perm (hn : (m.map (·.1)).Nodup) : (updM m s x).Perm ((s, x) :: delM m s) := by
  unfold updM
  cases hl : lookM m s with
  | none =>
    simp only [Option.isSome_none, Bool.false_eq_true, if_false]
    have : delM m s = m := List.filter_eq_self.2 fun p hp => by rw [look_none hl p hp]; rfl
    rw [this]
    exact List.perm_append_comm (l₂ := [(s, x)])
  | some y =>
    simp only [Option.isSome_some, if_true]
    obtain ⟨l1, l2, rfl, h⟩ := look_split hn hl
    rw [del_split h, List.map_append, List.map_cons]
    rw [if_pos (keyB_self s y)]
    have e : ∀ l : List (ByteArray × α), (∀ p ∈ l, keyB s p = false) → l.map (fun p => if keyB s p then (s, x) else p) = l := fun l hl => by
      rw [List.map_congr_left (g := id) (fun p hp => by rw [hl p hp]; rfl), List.map_id]
    rw [e l1 fun p hp => h p (List.mem_append.2 (.inl hp)), e l2 fun p hp => h p (List.mem_append.2 (.inr hp))]
    exact List.perm_middle
theorem mem_del {p : ByteArray × α} (h : p ∈ delM m s) : p ∈ m ∧ p.1 ≠ s := by
  unfold delM at h
  obtain ⟨h1, h2⟩ := List.mem_filter.1 h
  exact ⟨h1, keyB_not.1 (by simpa using h2)⟩
theorem mem_upd (hn : (m.map (·.1)).Nodup) {p : ByteArray × α} (h : p ∈ updM m s x) : p = (s, x) ∨ (p ∈ m ∧ p.1 ≠ s) := by
  rcases List.mem_cons.1 ((updM_perm hn).mem_iff.1 h) with e | e
  · exact .inl e
  · exact .inr (mem_del e)
theorem nodup_upd (hn : (m.map (·.1)).Nodup) : ((updM m s x).map (·.1)).Nodup := by
  refine ((updM_perm hn).map (·.1)).nodup_iff.2 ?_
  rw [List.map_cons, List.nodup_cons]
  refine ⟨fun h => ?_, ?_⟩
  · obtain ⟨p, hp, e⟩ := List.mem_map.1 h
    exact (mem_del hp).2 e
  · exact hn.sublist (List.Sublist.map _ List.filter_sublist)
end
section
variable {m : FMap} {fs : List Fi} {nm : ByteArray} {f : Fi} {g : FM} {u : Fi → Fi}
theorem del_fi : ∀ (m : FMap) (nm : ByteArray), (delM m nm).map toFi = (m.map toFi).filter fun x => !isN nm x
  | [], _ => rfl
  | p :: m, nm => by
    have ih := del_fi m nm
    unfold delM at ih ⊢
    have e : isN nm (toFi p) = keyB nm p := rfl
    rw [List.map_cons]
    cases hk : keyB nm p with
    | true => rw [List.filter_cons_of_neg (by rw [hk]; simp), List.filter_cons_of_neg (by rw [e, hk]; simp), ih]
    | false => rw [List.filter_cons_of_pos (by rw [hk]; simp), List.filter_cons_of_pos (by rw [e, hk]; simp), List.map_cons, ih]
theorem upd_fs (hp : (m.map toFi).Perm fs) (hn : (m.map (·.1)).Nodup) : ((updM m nm g).map toFi).Perm (toFi (nm, g) :: fs.filter fun x => !isN nm x) := by
  refine ((updM_perm hn).map toFi).trans ?_
  rw [List.map_cons, del_fi]
  exact (hp.filter _).cons _
theorem insL_perm (f : Fi) : ∀ fs : List Fi, (insL f fs).Perm (f :: fs)
  | [] => List.Perm.refl _
  | t :: ts => by
    unfold insL
    split
    · exact List.Perm.refl _
    · exact ((insL_perm f ts).cons t).trans (List.Perm.swap f t ts)
theorem setL_perm : ∀ {fs : List Fi}, (fs.map Fi.nm).Nodup → fs.find? (isN nm) = some f → (setL nm u fs).Perm (u f :: fs.filter fun x => !isN nm x)
  | t :: ts, hn, h => by
    rw [List.map_cons, List.nodup_cons] at hn
    unfold setL
    cases ht : isN nm t with
    | true =>
      rw [List.find?_cons_of_pos ht] at h
      cases h
      rw [if_pos rfl, List.filter_cons_of_neg (by rw [ht]; simp)]
      rw [List.filter_eq_self.2 fun x hx => ?_]
      · have e1 : f.nm = nm := toL_inj (beq_iff_eq.1 ht)
        rw [(isN_inj (a := nm) (b := x.nm) rfl).2 fun e => hn.1 (by rw [e1, e]; exact List.mem_map.2 ⟨x, hx, rfl⟩)]
        rfl
    | false =>
      rw [List.find?_cons_of_neg (by rw [ht]; simp)] at h
      rw [if_neg (by simp), List.filter_cons_of_pos (by rw [ht]; rfl)]
      exact ((setL_perm hn.2 h).cons t).trans (List.Perm.swap _ _ _)
end
/-- What a write leaves of the map's blocks. -/
structure Wrt (B : Nat) (w w' : World) (mb : Nat) (m m' : FMap) : Prop where
  mp : MapS mF w' mb m'
  own : ∀ p ∈ m', OwnX eB B w' p.2.v p.2.bs
  apart : ∀ p ∈ m', ∀ q ∈ m', p.1 ≠ q.1 → ∀ k, p.2.v.ownBlock = some k → q.2.v.ownBlock ≠ some k
  ns : ∀ p ∈ m', p.1.size ≤ 40
  chg : Chg (fun k => k = mb ∨ ∃ p ∈ m, p.2.v.ownBlock = some k) w w'
  new : ∀ p ∈ m', ∀ k, p.2.v.ownBlock = some k → (∃ q ∈ m, q.2.v.ownBlock = some k) ∨ w.heap.size ≤ k
section
variable {B g mb : Nat} {w w' : World} {m m' : FMap} {sz wr : Nat} {lf : Int} {nm : ByteArray} {f : FM}
/-- A file is put, whose bytes lie where those of the file of that name lay, or in a new block. -/
theorem Wrt.upd (h : Ds B w g mb m sz lf wr) (hm : MapS mF w' mb (updM m nm f)) (ho : OwnX eB B w' f.v f.bs) (hk : nm.size ≤ 40) (hc : Chg (fun k => k = mb ∨ ∃ p, lookM m nm = some p ∧ p.v.ownBlock = some k) w w')
    (hv : ∀ k, f.v.ownBlock = some k → (∃ p, lookM m nm = some p ∧ p.v.ownBlock = some k) ∨ w.heap.size ≤ k) : Wrt B w w' mb m (updM m nm f) := by
  have hn := h.mp.nodup
  have other : ∀ p ∈ m, p.1 ≠ nm → ∀ k, p.2.v.ownBlock = some k → w'.heap[k]? = w.heap[k]? := fun p hp hne k hk => by
    refine hc.block k ((h.own p hp).block k hk).2.1 ?_
    rintro (e | ⟨q, hq, e⟩)
    · exact h.neM hp (e ▸ hk)
    · exact h.apart p hp (nm, q) (look_mem hq) hne k hk e
  refine ⟨hm, fun p hp => ?_, fun p hp q hq hne k h1 h2 => ?_, fun p hp => ?_, hc.mono fun k hlt e => ?_, fun p hp k hk => ?_⟩
  · rcases mem_upd hn hp with rfl | ⟨h1, h2⟩
    · exact ho
    · exact (h.own p h1).same (other p h1 h2)
  · rcases mem_upd hn hp with rfl | ⟨p1, p2⟩ <;> rcases mem_upd hn hq with rfl | ⟨q1, q2⟩
    · exact hne rfl
    · rcases hv k h1 with ⟨o, e1, e2⟩ | e
      · exact h.apart (nm, o) (look_mem e1) q q1 (fun e => q2 e.symm) k e2 h2
      · have := ((h.own q q1).block k h2).2.1; omega
    · rcases hv k h2 with ⟨o, e1, e2⟩ | e
      · exact h.apart (nm, o) (look_mem e1) p p1 (fun e => p2 e.symm) k e2 h1
      · have := ((h.own p p1).block k h1).2.1; omega
    · exact h.apart p p1 q q1 hne k h1 h2
  · rcases mem_upd hn hp with rfl | ⟨h1, _⟩
    · exact hk
    · exact h.ns p h1
  · rcases e with e | ⟨q, h1, h2⟩
    · exact .inl e
    · exact .inr ⟨(nm, q), look_mem h1, h2⟩
  · rcases mem_upd hn hp with rfl | ⟨h1, _⟩
    · rcases hv k hk with ⟨q, e1, e2⟩ | e
      · exact .inl ⟨(nm, q), look_mem e1, e2⟩
      · exact .inr e
    · exact .inl ⟨p, h1, hk⟩
theorem Wrt.del (h : Ds B w g mb m sz lf wr) (hm : MapS mF w' mb (delM m nm)) (hc : But mb w w') : Wrt B w w' mb m (delM m nm) := by
  refine ⟨hm, fun p hp => ?_, fun p hp q hq => h.apart p (mem_del hp).1 q (mem_del hq).1, fun p hp => h.ns p (mem_del hp).1, Chg.of_but hc (.inl rfl), fun p hp k hk => .inl ⟨p, (mem_del hp).1, hk⟩⟩
  exact (h.own p (mem_del hp).1).same fun k hk => hc.block k ((h.own p (mem_del hp).1).block k hk).2.1 fun e => h.neM (mem_del hp).1 (e ▸ hk)
/-- A file takes another one's name. -/
theorem Wrt.ren {to : ByteArray} (h : Ds B w g mb m sz lf wr) (hl : lookM m nm = some f) (hne : nm ≠ to) (hd : Bool) (hto : to.size ≤ 40) (hm : MapS mF w' mb (delM (updM m to { f with hd := hd }) nm)) (hc : But mb w w') : Wrt B w w' mb m (delM (updM m to { f with hd := hd }) nm) := by
  have hn := h.mp.nodup
  have hf := look_mem hl
  have mem : ∀ p ∈ delM (updM m to { f with hd := hd }) nm, p = (to, { f with hd := hd }) ∨ (p ∈ m ∧ p.1 ≠ to ∧ p.1 ≠ nm) := fun p hp => by
    obtain ⟨h1, h2⟩ := mem_del hp
    rcases mem_upd hn h1 with e | ⟨e1, e2⟩
    · exact .inl e
    · exact .inr ⟨e1, e2, h2⟩
  have st : ∀ p ∈ m, OwnX eB B w' p.2.v p.2.bs := fun p hp => (h.own p hp).same fun k hk => hc.block k ((h.own p hp).block k hk).2.1 fun e => h.neM hp (e ▸ hk)
  refine ⟨hm, fun p hp => ?_, fun p hp q hq hpq k h1 h2 => ?_, fun p hp => ?_, Chg.of_but hc (.inl rfl), fun p hp k hk => ?_⟩
  · rcases mem p hp with rfl | ⟨h1, _⟩
    · exact (st (nm, f) hf : OwnX eB B w' f.v f.bs)
    · exact st p h1
  · rcases mem p hp with rfl | ⟨p1, p2, p3⟩ <;> rcases mem q hq with rfl | ⟨q1, q2, q3⟩
    · exact hpq rfl
    · exact h.apart (nm, f) hf q q1 (fun e => q3 e.symm) k h1 h2
    · exact h.apart (nm, f) hf p p1 (fun e => p3 e.symm) k h2 h1
    · exact h.apart p p1 q q1 hpq k h1 h2
  · rcases mem p hp with rfl | ⟨h1, _⟩
    · exact hto
    · exact h.ns p h1
  · rcases mem p hp with rfl | ⟨h1, _⟩
    · exact .inl ⟨(nm, f), hf, hk⟩
    · exact .inl ⟨p, h1, hk⟩
/-- The disk behind a write. -/
theorem Wrt.ds {w2 : World} {lf' : Int} {wr' : Nat} (h : Ds B w g mb m sz lf wr) (k : Wrt B w w' mb m m') (hb : But g w' w2) (hA : At 35 w2 g [.pointer (some ⟨g, 0, none⟩), .int .i64 (sz : Int), .map (some mb), .int .i64 lf', .int .i64 (wr' : Int)]) : Ds B w2 g mb m' sz lf' wr' := by
  have hg : ∀ p ∈ m', p.2.v.ownBlock ≠ some g := fun p hp e => by
    rcases k.new p hp g e with ⟨q, hq, e⟩ | e
    · exact h.neG hq e
    · have := heapLt h.at_; omega
  exact ⟨hA, k.mp.same (hb.block _ k.mp.lt h.ne.symm), fun p hp => (k.own p hp).same fun i hi => hb.block i ((k.own p hp).block i hi).2.1 (fun e => hg p hp (e ▸ hi)), k.apart, h.bg, h.bm, k.ns⟩
theorem Wrt.at_ {cs : List Value} (h : Ds B w g mb m sz lf wr) (k : Wrt B w w' mb m m') (hA : At 35 w g cs) : At 35 w' g cs := by
  refine hA.same (k.chg.block g hA.lt ?_)
  rintro (e | ⟨p, hp, e⟩)
  · exact h.ne e
  · exact h.neG hp e
end
end Go.Proofs.YtcmkjjlchljffaaDoor

/- The landed disk: names that may be; how many bytes all files have. -/
namespace Go.Proofs.YtcmkjjlchljffaaDoor
open Go.RowKit
set_option linter.unusedVariables false
set_option maxRecDepth 100000
set_option maxHeartbeats 3200000

def lettersB : ByteArray := ⟨#[97, 98, 99, 100, 101, 102, 103, 104, 105, 106, 107, 108, 109, 110, 111, 112, 113, 114, 115, 116, 117, 118, 119, 120, 121, 122, 48, 49, 50, 51, 52, 53, 54, 55, 56, 57, 46, 45]⟩
theorem ch_letters : ∀ n : Nat, n < 256 → chOk (UInt8.ofNat n) = lettersB.data.toList.contains (UInt8.ofNat n) := by decide +kernel
theorem ch_letter (b : UInt8) : chOk b = lettersB.data.toList.contains b := by
  have := ch_letters b.toNat b.toNat_lt
  rwa [UInt8.ofNat_toNat] at this
theorem dropWhile_nil {α : Type} {p : α → Bool} : ∀ {l : List α}, l.dropWhile p = [] ↔ ∀ x ∈ l, p x = true
  | [] => by simp
  | a :: l => by
    cases h : p a with
    | true => rw [List.dropWhile_cons_of_pos h, dropWhile_nil]; simp [h]
    | false => rw [List.dropWhile_cons_of_neg (by rw [h]; simp)]; simp [h]
theorem trim_nil (l cs : List UInt8) : Lib.trimS l cs = [] ↔ ∀ x ∈ l, cs.contains x = true := by
  unfold Lib.trimS Lib.trimLeftS Lib.trimRightS
  rw [dropWhile_nil]
  constructor
  · intro h x hx
    by_cases q : ∀ y ∈ l.reverse, cs.contains y = true
    · exact q x (List.mem_reverse.2 hx)
    · exfalso
      have : (l.reverse.dropWhile (cs.contains ·)) ≠ [] := fun e => q (dropWhile_nil.1 e)
      obtain ⟨a, t, e⟩ := List.exists_cons_of_ne_nil this
      have h1 := h a (by rw [e]; simp)
      have h2 := List.head_dropWhile_not (p := (cs.contains ·)) (l := l.reverse) this
      simp only [e, List.head_cons] at h2
      rw [h1] at h2
      cases h2
  · intro h x hx
    refine h x ?_
    have := List.mem_reverse.1 hx
    exact List.mem_reverse.1 ((List.dropWhile_sublist _).subset this)
theorem isName_any (s : ByteArray) (w : World) (hs : s.size ≤ 9223372036854775807) : Calls Tryd.prog 34 #[.string s] w fun r w' => r = .returned (.bool (nmOk s)) ∧ Below w.heap.size w w' := by
  obtain ⟨R, hR⟩ : ∃ R, Hid (R = nmOk s) := ⟨_, (rfl : _ = nmOk _)⟩
  rw [← hR.out]
  have hl : s.data.toList.length = s.size := Array.length_toList
  have hlen : s.toList.length = s.size := by rw [ByteArray.toList_eq]; exact Array.length_toList
  by_cases h0 : s.size = 0
  · have e : R = false := by rw [hR.out, nmOk, decide_eq_false (by omega : ¬ 1 ≤ s.size)]; simp
    have h1 : s.toList = [] := List.length_eq_zero_iff.1 (by omega)
    subst e
    clear hl hlen hR h0
    go_enter Tryd.func34, Tryd.ntmps34
    go_wp2
    go_ret
    exact ⟨rfl, Below.refl _ _⟩
  · have h1 : ¬ s.toList = [] := fun e => by rw [e] at hlen; exact h0 hlen.symm
    have h2 : s.toList.isEmpty = false := by rw [List.isEmpty_eq_false_iff]; exact h1
    by_cases h40 : 40 < s.size
    · have e : R = false := by rw [hR.out, nmOk, decide_eq_false (by omega : ¬ s.size ≤ 40)]; simp
      have c1 : ¬ (s.size : Int) ≤ 40 := by omega
      subst e
      clear hl hlen hR h0
      go_enter Tryd.func34, Tryd.ntmps34
      go_wp2
      go_ret
      exact ⟨rfl, Below.refl _ _⟩
    · have c1 : (s.size : Int) ≤ 40 := by omega
      have HT := hidU (Tryd.trim_any s lettersB w hs (by decide +kernel) (ascii_of_all (by decide +kernel)))
      obtain ⟨T, hT⟩ : ∃ T, Hid (T = (⟨(Lib.trimS s.data.toList lettersB.data.toList).toArray⟩ : ByteArray)) := ⟨_, (rfl : _ = (⟨(Lib.trimS s.data.toList lettersB.data.toList).toArray⟩ : ByteArray))⟩
      rw [← hT.out] at HT
      have hTl : Hid (T.toList.isEmpty = R) := by
        have e1 : T.toList = Lib.trimS s.data.toList lettersB.data.toList := by rw [hT.out, ByteArray.toList_eq]
        show _ = _
        rw [e1, hR.out, nmOk, decide_eq_true (by omega : s.size ≤ 40), decide_eq_true (by omega : 1 ≤ s.size)]
        rw [Bool.and_self, Bool.and_true]
        rw [Bool.eq_iff_iff, List.isEmpty_iff, trim_nil, List.all_eq_true]
        exact ⟨fun q x hx => by rw [ch_letter]; exact q x hx, fun q x hx => by rw [← ch_letter]; exact q x hx⟩
      have hTl := hTl.out
      clear hl hlen hR h0 hT
      go_enter Tryd.func34, Tryd.ntmps34
      go_wp2_with (go_at_call 62; refine HT.out.mono ?_; rintro _ w1 ⟨rfl, hb⟩)
      go_ret
      exact ⟨by first | rfl | rw [hTl], hb⟩
end Go.Proofs.YtcmkjjlchljffaaDoor

/- The landed disk: how many bytes all files have; whether there is room. -/
namespace Go.Proofs.YtcmkjjlchljffaaDoor
open Go.RowKit
set_option linter.unusedVariables false
set_option maxRecDepth 100000
set_option maxHeartbeats 3200000

def sumM (m : FMap) : Nat := (m.map fun p => p.2.bs.length).sum
theorem sumM_app (a b : FMap) : sumM (a ++ b) = sumM a + sumM b := by simp [sumM]
theorem sumM_perm {a b : FMap} (h : a.Perm b) : sumM a = sumM b := (h.map _).sum_nat
section
variable {B g mb : Nat} {w : World} {m : FMap} {sz wr : Nat} {lf : Int} {nm : ByteArray}
theorem used_p (h : Ds B w g mb m sz lf wr) (hb : sumM m ≤ 67108864) : Calls Tryd.prog 21 #[.pointer (some ⟨g, 0, none⟩)] w fun r w' => r = .returned (.int .i64 (sumM m : Int)) ∧ Below w.heap.size w w' := by
  have HM := hidU (made_yes h.at_)
  have q := h.files
  have HP := hidU h.mp
  have HV := hidU (fun (p : ByteArray × FM) (hp : p ∈ m) => (h.own p hp).row)
  obtain ⟨r0, hr0⟩ : ∃ r, Hid (r = w.heap.size) := ⟨_, (rfl : _ = w.heap.size)⟩
  clear h
  go_enter Tryd.func21, Tryd.ntmps21
  go_wp2_with (first
    | (go_at_call 33; refine HM.out.mono ?_; rintro _ w1 ⟨rfl, hw⟩; obtain rfl : w = w1 := hw.symm; clear hw)
    | (refine wpList_range mF rfl (.tmp 12) rfl rfl HP.out ?_; intro w0 hrg hbw hsw; have HR := hidU hrg; have HB := hidU hbw; clear hrg hbw hsw))
  go_frame
  rw [← hr0.out] at HR ⊢
  clear q
  go_loopw [3] (fun U x => ∃ (u : Nat) (dn lf : FMap), U = .int .i64 (u : Int) ∧ Hid (Rg mF x mb r0 m dn lf) ∧ Hid (u = sumM dn) ∧ Hid (Below w.heap.size w x)) (fun _ x => x.rangeLeft mb r0)
  case atStart => exact ⟨0, [], m, rfl, HR, rfl, HB⟩
  case round =>
    obtain ⟨u, dn, lf, rfl, HRg, hu, HBx⟩ := hrel
    go_wp2_with (first
      | (at_next; refine wpList_next mF rfl (.tmp 13) rfl rfl HRg.out ?_ ?_)
      | go_in)
    · intro h0
      go_wp2
      go_ret
      refine ⟨?_, HBx.out⟩
      have := sumM_perm HRg.out.perm
      rw [h0, List.append_nil] at this
      rw [hu.out, this]
      rfl
    · intro nm fm lf' x1 hp hrg1 hb1 hs1 hen
      obtain ⟨v, bs, sf, hd⟩ := fm
      obtain ⟨a, c, hv, _⟩ := HV.out (nm, ⟨v, bs, sf, hd⟩) (HRg.out.perm.mem_iff.1 (List.mem_append.2 (.inr (hp.mem_iff.2 (.head _)))))
      simp only at hv
      subst hv
      obtain ⟨n, hn⟩ : ∃ n, Hid (bs.length = n) := ⟨_, (rfl : bs.length = _)⟩
      simp only [mF, FM.val, hn.out] at hen ⊢
      have HRg1 := hidU hrg1
      have HB1 : Hid (Below w.heap.size w x1) := hidU (hb1.below HBx.out (by rw [hr0.out]; exact Nat.le_refl _) HBx.out.size)
      have HL1 : Hid (x1.rangeLeft mb r0 < wr.rangeLeft mb r0) := hidU (by rw [hrg1.left, HRg.out.left, hp.length_eq]; simp)
      have hu1 : Hid (u + n = sumM (dn ++ [(nm, ⟨.slice a bs.length c, bs, sf, hd⟩)])) := hidU (by rw [sumM_app, ← hu.out, ← hn.out]; simp [sumM])
      have hle : Hid (u + n ≤ 67108864) := hidU (by
        have h1 := sumM_perm hrg1.perm
        rw [sumM_app] at h1
        have h2 := hu1.out
        omega)
      clear hrg1 hb1 hs1 hp
      go_wp2_with (first
        | (refine wpList_alloc_at rfl 66 rfl [.slice none 0 0, .int .i64 0, .bool false] 3 z66 ?_; intro x2 hA2 hb2 hs2; refine Hid.out ?_))
      refine hidU ?_
      obtain ⟨gb, hgb⟩ : ∃ gb, gb = x1.heap.size := ⟨_, rfl⟩
      rw [← hgb] at hA2 ⊢
      have HB2 := hidU (HB1.out.trans (hb2.mono HB1.out.size))
      have HRg2 := hidU (HRg1.out.below hb2)
      have hgl : w.heap.size ≤ gb := by rw [hgb]; exact HB1.out.size
      have hgr : mb ≠ gb ∧ r0 ≠ gb := by have := HRg1.out.lt; omega
      have HL2 : Hid (x2.rangeLeft mb r0 < wr.rangeLeft mb r0) := hidU (by rw [HRg2.out.left]; have := HL1.out; rwa [HRg1.out.left] at this)
      clear hb2 hs2 HB1 HRg1 HL1 hgb hen
      go_wp2_with (first
        | (refine wpList_store_at rfl 66 (.tmp 5) (.tmp 17) rfl gb [.slice a n c, .int .i64 (sf : Int), .bool hd] rfl rfl 66 _ hA2 i66 rfl one3 ?_; intro x3 hA3 hb3 hs3; refine Hid.out ?_))
      refine hidU ?_
      have HRg3 := hidU (HRg2.out.same (hb3.block mb HRg2.out.lt.1 hgr.1) (hb3.block r0 HRg2.out.lt.2 hgr.2))
      have HB3 := hidU (hb3.below HB2.out hgl HB2.out.size)
      have HL3 : Hid (x3.rangeLeft mb r0 < wr.rangeLeft mb r0) := hidU (by rw [HRg3.out.left]; have := HL2.out; rwa [HRg2.out.left] at this)
      have c0 : x3.cell? ⟨gb, 0, none⟩ = some (.slice a n c) := by rw [hA3.cell]; rfl
      have hw : IntKind.i64.wrap ((u : Int) + (n : Int)) = (u : Int) + n := by rw [IntKind.wrap_i64]; have := hle.out; omega
      clear hA2 hA3 hb3 hs3 HB2 HRg2 HL2 hgr hgl
      go_wp2
      go_roundw
      · exact ⟨u + n, _, lf', by simp, HRg3, hu1, HB3⟩
      · exact HL3.out
end
end Go.Proofs.YtcmkjjlchljffaaDoor
