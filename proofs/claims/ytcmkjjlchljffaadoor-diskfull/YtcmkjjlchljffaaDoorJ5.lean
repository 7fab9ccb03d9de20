/- Joined texts of the proof. -/
import Derived.Test.YtcmkjjlchljffaaDoorJ4
import Derived.Shelf.Strings.SlTrimAscii
import Derived.Shelf.LaysM
import Derived.Shelf.Strconv.Clone
import Derived.Shelf.SlIter.Nil
import Derived.Shelf.SortM.Plain
import Derived.Shelf.SortM.SortNone
import Derived.Test.YtcmkjjlchljffaaDoorProg
import Derived.Lib.SliceRun
import Derived.Maps.RangeWalk
import Derived.Sort.Walk0
import Derived.Test.YtcmkjjlchljffaaDoorJ3
import Derived.Test.YtcmkjjlchljffaaDoorJ1

/- The landed disk: Loose, Stop, made, New. -/
namespace Go.Proofs.YtcmkjjlchljffaaDoor
open Go.RowKit
set_option linter.unusedVariables false
set_option maxRecDepth 100000
set_option maxHeartbeats 3200000

section
variable {B g mb : Nat} {w : World} {m : FMap} {sz wr : Nat} {lf : Int} {nm : ByteArray}
theorem look_parts {f : FM} (h : Ds B w g mb m sz lf wr) (hl : lookM m nm = some f) : ∃ a n c bs sf hd, f = ⟨.slice a n c, bs, sf, hd⟩ ∧ bs.length = n ∧ n ≤ c ∧ c ≤ maxLen ∧ (a = none → c = 0) ∧ Row w a bs ∧ OwnX eB B w (.slice a n c) bs := by
  have ho := h.own _ (look_mem hl)
  obtain ⟨a, c, hv, h1, h2, h3, _, h4⟩ := ho.row
  obtain ⟨v, bs, sf, hd⟩ := f
  simp only at hv
  subst hv
  exact ⟨a, bs.length, c, bs, sf, hd, rfl, rfl, h1, h2, h3, rowB.1 h4, ho⟩
def lsM (m : FMap) (nm : ByteArray) : Int := match lookM m nm with | some f => (f.bs.length : Int) - f.sf | none => 0
theorem loose_p (h : Ds B w g mb m sz lf wr) (hs : nm.size ≤ 9223372036854775807) (hb : ∀ p ∈ m, p.2.bs.length ≤ 4611686018427387904 ∧ p.2.sf ≤ 4611686018427387904) : Calls Tryd.prog 23 #[.pointer (some ⟨g, 0, none⟩), .string nm] w fun r w' => r = .returned (.int .i64 (lsM m nm)) ∧ Below w.heap.size w w' := by
  have HM := hidU (made_yes h.at_)
  have q := h.files
  have HP := hidU h.mp
  obtain ⟨R, hR⟩ : ∃ R, Hid (R = lsM m nm) := ⟨_, (rfl : _ = lsM _ _)⟩
  rw [← hR.out]
  cases hl : lookM m nm with
  | none =>
    have e : R = 0 := by rw [hR.out, lsM, hl]
    subst e
    have HL := hidU hl
    have HC := hidU (loose_any ⟨.slice none 0 0, [], 0, false⟩ 0 0 none w rfl (by decide) (by decide))
    clear h hR hl
    go_enter Tryd.func23, Tryd.ntmps23
    go_wp2_with (first
      | (go_at_call 33; refine HM.out.mono ?_; rintro _ w1 ⟨rfl, hw⟩; obtain rfl : w = w1 := hw.symm; clear hw)
      | (refine wpList_look mF rfl (.tmp 11) (.tmp 12) false rfl nm rfl rfl HP.out hs (.agg #[.slice none 0 0, .int .i64 0, .bool false]) (by rw [HL.out]; rfl) ?_)
      | (go_at_call 51; refine HC.out.mono ?_; rintro _ w1 ⟨rfl, hw⟩))
    go_ret
    exact ⟨rfl, hw⟩
  | some f =>
    obtain ⟨a, n, c, bs, sf, hd, rfl, hn, _, _, _, _, _⟩ := look_parts h hl
    have e : R = (n : Int) - sf := by rw [hR.out, lsM, hl]; simp only; rw [hn]
    subst e
    have HL := hidU hl
    have hbb := hb _ (look_mem hl)
    simp only [hn] at hbb
    have HC := hidU (loose_any ⟨.slice a n c, bs, sf, hd⟩ n c a w rfl hbb.2 hbb.1)
    clear h hR hl hn hb hbb
    go_enter Tryd.func23, Tryd.ntmps23
    go_wp2_with (first
      | (go_at_call 33; refine HM.out.mono ?_; rintro _ w1 ⟨rfl, hw⟩; obtain rfl : w = w1 := hw.symm; clear hw)
      | (refine wpList_look mF rfl (.tmp 11) (.tmp 12) false rfl nm rfl rfl HP.out hs (.agg #[.slice a n c, .int .i64 (sf : Int), .bool hd]) (by rw [HL.out]; rfl) ?_)
      | (go_at_call 51; refine HC.out.mono ?_; rintro _ w1 ⟨rfl, hw⟩))
    go_ret
    exact ⟨rfl, hw⟩
theorem stop_p (z : Int) (h : Ds B w g mb m sz lf wr) : Calls Tryd.prog 18 #[.pointer (some ⟨g, 0, none⟩), .int .i64 z] w fun r w' => r = .returned (.int .i64 (stZ z)) ∧ Ds B w' g mb m sz (if z < 0 then lf else if lf = 0 then 0 else z) wr ∧ But g w w' := by
  have HM := hidU (made_yes h.at_)
  have HS := hidU (stopped_p h)
  have HA := hidU h.at_
  have q := h.at_.cell 3
  simp only [List.getElem?_cons_zero, List.getElem?_cons_succ] at q
  have HK := hidU (fun (w' : World) (y : Int) (hb : But g w w') (hA : At 35 w' g [.pointer (some ⟨g, 0, none⟩), .int .i64 (sz : Int), .map (some mb), .int .i64 y, .int .i64 (wr : Int)]) =>
    (⟨hA, h.mp.same (hb.block _ h.mp.lt fun e => h.ne e.symm), fun p hp => (h.own p hp).same fun i hi => hb.block i ((h.own p hp).block i hi).2.1 (fun e => h.neG hp (e ▸ hi)), h.apart, h.bg, h.bm, h.ns⟩ : Ds B w' g mb m sz y wr))
  have H0 := hidU h
  clear h
  obtain ⟨Z, hZ⟩ : ∃ Z, Hid (Z = stZ z) := ⟨_, (rfl : _ = stZ _)⟩
  rw [← hZ.out]
  by_cases hz : z < 0
  · have e : Z = 2 := by rw [hZ.out, stZ, if_pos hz]
    subst e
    rw [if_pos hz]
    go_enter Tryd.func18, Tryd.ntmps18
    go_wp2_with (first
      | (go_at_call 33; refine HM.out.mono ?_; rintro _ w1 ⟨rfl, hw⟩; obtain rfl : w = w1 := hw.symm; clear hw))
    go_ret
    exact ⟨rfl, H0.out, But.refl _ _⟩
  · have e : Z = 0 := by rw [hZ.out, stZ, if_neg hz]
    subst e
    rw [if_neg hz]
    by_cases hl : lf = 0
    · subst hl
      rw [if_pos rfl]
      go_enter Tryd.func18, Tryd.ntmps18
      go_wp2_with (first
        | (go_at_call 33; refine HM.out.mono ?_; rintro _ w1 ⟨rfl, hw⟩; obtain rfl : w = w1 := hw.symm; clear hw)
        | (go_at_call 24; refine HS.out.mono ?_; rintro _ w1 ⟨rfl, hw⟩; obtain rfl : w = w1 := hw.symm; clear hw))
      go_ret
      exact ⟨rfl, H0.out, But.refl _ _⟩
    · rw [if_neg hl]
      have HS2 : Hid (Calls Tryd.prog 24 #[.pointer (some ⟨g, 0, none⟩)] w fun r w' => r = .returned (.bool false) ∧ w' = w) := by
        refine hidU (HS.out.mono ?_)
        rintro r w' ⟨rfl, h⟩
        exact ⟨by rw [beq_eq_false_iff_ne.2 hl], h⟩
      clear HS
      go_enter Tryd.func18, Tryd.ntmps18
      go_wp2_with (first
        | (go_at_call 33; refine HM.out.mono ?_; rintro _ w1 ⟨rfl, hw⟩; obtain rfl : w = w1 := hw.symm; clear hw)
        | (go_at_call 24; refine HS2.out.mono ?_; rintro _ w1 ⟨rfl, hw⟩; obtain rfl : w = w1 := hw.symm; clear hw)
        | (refine wpList_store1 rfl 3 (.tmp 19) (.tmp 17) rfl g 3 (.int .i64 z) rfl rfl 35 _ HA.out (by simp) i3 rfl rfl ?_; intro w2 hA2 hb2 hs2; simp only [List.set] at hA2))
      go_ret
      exact ⟨rfl, HK.out _ _ hb2 hA2, hb2⟩
end
theorem made_any (p : Option Addr) (x y z : Int) (mb : Nat) (w : World) : Calls Tryd.prog 32 #[.agg #[.pointer p, .int .i64 x, .map (some mb), .int .i64 y, .int .i64 z]] w fun r w' => r = .returned (.pointer (some ⟨w.heap.size, 0, none⟩)) ∧ At 35 w' w.heap.size [.pointer (some ⟨w.heap.size, 0, none⟩), .int .i64 x, .map (some mb), .int .i64 y, .int .i64 z] ∧ Below w.heap.size w w' ∧ w'.heap.size = w.heap.size + 1 := by
  go_enter Tryd.func32, Tryd.ntmps32
  go_wp2
  go_ret
  exact ⟨rfl, _root_.Go.heap_alloc_new w _, (Below.refl _ w).alloc (Nat.le_refl _) _, by simp⟩
theorem new_bad (n : Int) (w : World) (h : n < 1 ∨ 67108864 < n) : Calls Tryd.prog 8 #[.int .i64 n] w fun r w' => r = .returned (.tuple #[.pointer none, .int .i64 2]) ∧ Below w.heap.size w w' := by
  by_cases h1 : n < 1
  · clear h
    go_enter Tryd.func8, Tryd.ntmps8
    go_wp2
    go_ret2
    exact ⟨rfl, Below.refl _ _⟩
  · have h2 : 67108864 < n := h.resolve_left h1
    clear h
    go_enter Tryd.func8, Tryd.ntmps8
    go_wp2
    go_ret2
    exact ⟨rfl, Below.refl _ _⟩
theorem new_ok (n : Nat) (w : World) (h1 : 1 ≤ n) (h2 : n ≤ 67108864) : Calls Tryd.prog 8 #[.int .i64 (n : Int)] w fun r w' => ∃ g mb, r = .returned (.tuple #[.pointer (some ⟨g, 0, none⟩), .int .i64 0]) ∧ Ds w.heap.size w' g mb [] n (-1) 0 ∧ Below w.heap.size w w' := by
  have h1' : ¬ (n : Int) < 1 := by omega
  have h2' : ¬ (67108864 : Int) < n := by omega
  have hM := hidU (MapS.made mF w)
  have hB1 := hidU ((Below.refl w.heap.size w).alloc (Nat.le_refl _) (.map #[] 0))
  have hs1 : (w.alloc (.map #[] 0)).heap.size = w.heap.size + 1 := by simp
  have hmm := @run_makeMap Tryd.prog
  go_enter Tryd.func8, Tryd.ntmps8
  go_wp2_with (go_at_call 32; refine (made_any none n (-1) 0 w.heap.size (w.alloc (.map #[] 0))).mono ?_; rintro _ w1 ⟨rfl, hA, hb, hs⟩)
  go_ret2
  rw [hs1] at hA
  refine ⟨_, w.heap.size, rfl, ⟨hA, hM.out.below hb, fun p hp => (by cases hp), fun p hp => (by cases hp), by omega, Nat.le_refl _, fun p hp => (by cases hp)⟩, hB1.out.trans (hb.mono hB1.out.size)⟩
end Go.Proofs.YtcmkjjlchljffaaDoor

/-
  DERIVED: THE SHELF's CONTRACTS AT THIS DUMP, IN PLAIN WORDS (tools/lay-plain.mjs out of 'YtcmkjjlchljffaaDoorShelf.lean', which tools/lay-shelf.mjs wrote): THE SAME DECLARATIONS UNDER THE SAME NAMES: 'import', 'namespace', 'open', 'def', 'theorem' AND NOTHING ELSE: no command of the shelf's: FOR A HAND-IN. Each laying: the table of numbers ('.._ren') and one theorem, a field a fact of the dump's own or the kernel's comparison; each contract: ONE APPLICATION.
-/
namespace Go.Proofs
open Go.Shelf
def Tryd.lays160_ren : Go.Shelf.Ren := ⟨fun | 160 => 62 | 232 => 68 | 231 => 67 | 227 => 69 | 234 => 71 | 233 => 70 | 236 => 73 | 235 => 72 | 228 => 77 | 271 => 80 | 151 => 79 | 197 => 78 | 120 => 94 | 152 => 93 | 260 => 92 | 137 => 101 | 119 => 102 | 224 => 103 | 225 => 104 | 217 => 106 | 266 => 107 | n => n, fun | 9 => 9 | 4 => 4 | 3 => 3 | 5 => 5 | 117 => 89 | 116 => 88 | 0 => 0 | 124 => 92 | 21 => 21 | 105 => 99 | 46 => 96 | 119 => 122 | 139 => 125 | 138 => 124 | n => n, fun | 3 => 0 | 4 => 1 | n => n⟩
theorem Tryd.lays160 : Go.Proofs.Lays.n160 Tryd.prog Tryd.lays160_ren := {
  mixed := by kernel_rfl
  f119 := Tryd.func102.trans (congrArg some (by kernel_rfl))
  f120 := Tryd.func94.trans (congrArg some (by kernel_rfl))
  f137 := Tryd.func101.trans (congrArg some (by kernel_rfl))
  f151 := Tryd.func79.trans (congrArg some (by kernel_rfl))
  f152 := Tryd.func93.trans (congrArg some (by kernel_rfl))
  f160 := Tryd.func62.trans (congrArg some (by kernel_rfl))
  f197 := Tryd.func78.trans (congrArg some (by kernel_rfl))
  f217 := Tryd.func106.trans (congrArg some (by kernel_rfl))
  f224 := Tryd.func103.trans (congrArg some (by kernel_rfl))
  f225 := Tryd.func104.trans (congrArg some (by kernel_rfl))
  f227 := Tryd.func69.trans (congrArg some (by kernel_rfl))
  f228 := Tryd.func77.trans (congrArg some (by kernel_rfl))
  f231 := Tryd.func67.trans (congrArg some (by kernel_rfl))
  f232 := Tryd.func68.trans (congrArg some (by kernel_rfl))
  f233 := Tryd.func70.trans (congrArg some (by kernel_rfl))
  f234 := Tryd.func71.trans (congrArg some (by kernel_rfl))
  f235 := Tryd.func72.trans (congrArg some (by kernel_rfl))
  f236 := Tryd.func73.trans (congrArg some (by kernel_rfl))
  f260 := Tryd.func92.trans (congrArg some (by kernel_rfl))
  f266 := Tryd.func107.trans (congrArg some (by kernel_rfl))
  f271 := Tryd.func80.trans (congrArg some (by kernel_rfl))
  t0 := Tryd.underlying0
  a0 := Tryd.isAgg0
  z0 := Tryd.sizeOf0
  v0 := Tryd.zeroValue0
  t3 := Tryd.underlying3
  a3 := Tryd.isAgg3
  z3 := Tryd.sizeOf3
  v3 := Tryd.zeroValue3
  t4 := Tryd.underlying4
  a4 := Tryd.isAgg4
  z4 := Tryd.sizeOf4
  v4 := Tryd.zeroValue4
  t5 := Tryd.underlying5
  a5 := Tryd.isAgg5
  z5 := Tryd.sizeOf5
  v5 := Tryd.zeroValue5
  t9 := Tryd.underlying9
  a9 := Tryd.isAgg9
  z9 := Tryd.sizeOf9
  v9 := Tryd.zeroValue9
  t21 := Tryd.underlying21
  a21 := Tryd.isAgg21
  z21 := Tryd.sizeOf21
  v21 := Tryd.zeroValue21
  t46 := Tryd.underlying96
  a46 := Tryd.isAgg96
  z46 := Tryd.sizeOf96
  v46 := Tryd.zeroValue96
  t105 := Tryd.underlying99
  a105 := Tryd.isAgg99
  z105 := Tryd.sizeOf99
  v105 := Tryd.zeroValue99
  t116 := Tryd.underlying88
  a116 := Tryd.isAgg88
  z116 := Tryd.sizeOf88
  t117 := Tryd.underlying89
  a117 := Tryd.isAgg89
  z117 := Tryd.sizeOf89
  v117 := Tryd.zeroValue89
  t119 := Tryd.underlying122
  a119 := Tryd.isAgg122
  z119 := Tryd.sizeOf122
  t124 := Tryd.underlying92
  a124 := Tryd.isAgg92
  z124 := Tryd.sizeOf92
  v124 := Tryd.zeroValue92
  t138 := Tryd.underlying124
  a138 := Tryd.isAgg124
  z138 := Tryd.sizeOf124
  v138 := Tryd.zeroValue124
  t139 := Tryd.underlying125
  a139 := Tryd.isAgg125
  z139 := Tryd.sizeOf125
  v139 := Tryd.zeroValue125
  g3 := by kernel_rfl
  g4 := by kernel_rfl }
open Go.RowKit in
/-- strings.Trim by a set of letters below 128. -/
theorem Tryd.trim_any (s cutset : ByteArray) (w : World) (hs : s.size ≤ 9223372036854775807) (hcs : cutset.size < 4294967281) (hascii : ∀ (j : Nat) b, cutset.data.toList[j]? = some b → b.toNat < 128) :
    Calls Tryd.prog 62 #[.string s, .string cutset] w fun e w' => e = .returned (.string ⟨(Lib.trimS s.data.toList cutset.data.toList).toArray⟩) ∧ Below w.heap.size w w' := Any.strings_Trim_laid Tryd.lays160 (by kernel_rfl) s cutset w hs hcs hascii
def Tryd.laysM316_ren : Go.Shelf.Ren := ⟨fun | 316 => 66 | n => n, fun | 9 => 9 | 3 => 3 | 4 => 4 | 37 => 29 | 0 => 0 | 127 => 97 | 5 => 5 | n => n, fun | n => n⟩
theorem Tryd.laysM316 : Go.Proofs.LaysM.n316 Tryd.prog Tryd.laysM316_ren := {
  mixed := by kernel_rfl
  f316 := Tryd.func66.trans (congrArg some (by kernel_rfl))
  t0 := Tryd.underlying0
  a0 := Tryd.isAgg0
  z0 := Tryd.sizeOf0
  v0 := Tryd.zeroValue0
  t3 := Tryd.underlying3
  a3 := Tryd.isAgg3
  z3 := Tryd.sizeOf3
  v3 := Tryd.zeroValue3
  t4 := Tryd.underlying4
  a4 := Tryd.isAgg4
  z4 := Tryd.sizeOf4
  v4 := Tryd.zeroValue4
  t9 := Tryd.underlying9
  a9 := Tryd.isAgg9
  z9 := Tryd.sizeOf9
  v9 := Tryd.zeroValue9
  t37 := Tryd.underlying29
  a37 := Tryd.isAgg29
  z37 := Tryd.sizeOf29
  v37 := Tryd.zeroValue29
  t127 := Tryd.underlying97
  a127 := Tryd.isAgg97
  z127 := Tryd.sizeOf97
  v127 := Tryd.zeroValue97
  t5 := Tryd.underlying5
  a5 := Tryd.isAgg5
  z5 := Tryd.sizeOf5
  v5 := Tryd.zeroValue5
  i0 := by kernel_rfl
  i3 := by kernel_rfl
  i4 := by kernel_rfl
  i5 := by kernel_rfl
  i9 := by kernel_rfl
  i37 := by kernel_rfl
  i127 := by kernel_rfl }
open Go.RowKit in
/-- strings.Clone's inner call. -/
theorem Tryd.stringslite_Clone (s : ByteArray) (w : World) (hlim : s.size ≤ 281474976710656) :
    Calls Tryd.prog 66 #[.string s] w fun e w' => e = .returned (.string s) ∧ Below w.heap.size w w' := Any.stringslite_Clone Tryd.laysM316 s w hlim
def Tryd.keys59_ren : Go.Shelf.Ren := ⟨fun | 7 => 59 | 10 => 65 | n => n, fun | 23 => 33 | 26 => 9 | 3 => 66 | 28 => 79 | 0 => 0 | 27 => 78 | 33 => 62 | 4 => 4 | n => n, fun | n => n⟩
theorem Tryd.keys59 : Go.Proofs.SlLaysZ.n7 Tryd.prog Tryd.keys59_ren := {
  mixed := by kernel_rfl
  f7 := ⟨Tryd.f59.name, by decide, Tryd.func59.trans (congrArg some (by kernel_rfl))⟩
  f10 := ⟨Tryd.f65.name, by decide, Tryd.func65.trans (congrArg some (by kernel_rfl))⟩
  t0 := Tryd.underlying0
  a0 := Tryd.isAgg0
  z0 := Tryd.sizeOf0
  v0 := Tryd.zeroValue0
  t4 := Tryd.underlying4
  a4 := Tryd.isAgg4
  z4 := Tryd.sizeOf4
  v4 := Tryd.zeroValue4
  t23 := Tryd.underlying33
  a23 := Tryd.isAgg33
  z23 := Tryd.sizeOf33
  v23 := Tryd.zeroValue33
  t26 := Tryd.underlying9
  a26 := Tryd.isAgg9
  z26 := Tryd.sizeOf9
  v26 := Tryd.zeroValue9
  t27 := Tryd.underlying78
  a27 := Tryd.isAgg78
  z27 := Tryd.sizeOf78
  v27 := Tryd.zeroValue78
  t28 := Tryd.underlying79
  a28 := Tryd.isAgg79
  z28 := Tryd.sizeOf79
  v28 := Tryd.zeroValue79
  t33 := Tryd.underlying62
  a33 := Tryd.isAgg62
  z33 := Tryd.sizeOf62
  v33 := Tryd.zeroValue62 }
def Tryd.sorted58_ren : Go.Shelf.Ren := ⟨fun | 6 => 58 | 8 => 63 | 9 => 64 | 11 => 74 | 13 => 76 | 12 => 75 | 23 => 90 | 24 => 91 | 14 => 81 | 15 => 82 | 16 => 83 | 17 => 84 | 18 => 85 | 19 => 86 | 20 => 87 | 21 => 88 | 22 => 89 | 25 => 95 | 26 => 96 | 27 => 97 | 28 => 98 | 29 => 99 | 30 => 100 | 31 => 105 | n => n, fun | 26 => 9 | 28 => 79 | 24 => 44 | 0 => 0 | 3 => 3 | 37 => 96 | 48 => 112 | 50 => 114 | 4 => 4 | 40 => 104 | 39 => 103 | 45 => 109 | 5 => 5 | 9 => 9 | 51 => 116 | 55 => 120 | 57 => 130 | 58 => 131 | 33 => 62 | n => n, fun | n => n⟩
theorem Tryd.sorted58 : Go.Proofs.SlLaysZ.n6 Tryd.prog Tryd.sorted58_ren := {
  mixed := by kernel_rfl
  f6 := ⟨Tryd.f58.name, by decide, Tryd.func58.trans (congrArg some (by kernel_rfl))⟩
  f8 := ⟨Tryd.f63.name, by decide, Tryd.func63.trans (congrArg some (by kernel_rfl))⟩
  f11 := ⟨Tryd.f74.name, by decide, Tryd.func74.trans (congrArg some (by kernel_rfl))⟩
  t0 := Tryd.underlying0
  a0 := Tryd.isAgg0
  z0 := Tryd.sizeOf0
  v0 := Tryd.zeroValue0
  t24 := Tryd.underlying44
  a24 := Tryd.isAgg44
  z24 := Tryd.sizeOf44
  v24 := Tryd.zeroValue44
  t26 := Tryd.underlying9
  a26 := Tryd.isAgg9
  z26 := Tryd.sizeOf9
  v26 := Tryd.zeroValue9
  t28 := Tryd.underlying79
  a28 := Tryd.isAgg79
  z28 := Tryd.sizeOf79
  v28 := Tryd.zeroValue79
  i26 := by kernel_rfl }
def Tryd.sort64_ren : Go.Shelf.Ren := ⟨fun | 6 => 64 | 8 => 76 | 9 => 75 | 19 => 90 | 20 => 91 | 21 => 81 | 22 => 82 | 23 => 83 | 24 => 84 | 25 => 85 | 26 => 86 | 27 => 87 | 28 => 88 | 29 => 89 | 36 => 95 | 31 => 96 | 32 => 97 | 37 => 98 | 38 => 99 | 39 => 100 | 41 => 105 | n => n, fun | 27 => 44 | 29 => 9 | 3 => 3 | 32 => 96 | 26 => 44 | 0 => 0 | 44 => 112 | 46 => 114 | 4 => 4 | 36 => 104 | 35 => 103 | 41 => 109 | 5 => 5 | 9 => 9 | 53 => 116 | 57 => 120 | 63 => 130 | 64 => 131 | n => n, fun | n => n⟩
theorem Tryd.sort64 : Go.Proofs.SlLaysM.n6 Tryd.prog Tryd.sort64_ren := {
  mixed := by kernel_rfl
  f6 := ⟨Tryd.f64.name, by decide, Tryd.func64.trans (congrArg some (by kernel_rfl))⟩
  f8 := Tryd.func76.trans (congrArg some (by kernel_rfl))
  f9 := ⟨Tryd.f75.name, by decide, Tryd.func75.trans (congrArg some (by kernel_rfl))⟩
  f19 := Tryd.func90.trans (congrArg some (by kernel_rfl))
  f20 := Tryd.func91.trans (congrArg some (by kernel_rfl))
  f21 := ⟨Tryd.f81.name, by decide, Tryd.func81.trans (congrArg some (by kernel_rfl))⟩
  f22 := ⟨Tryd.f82.name, by decide, Tryd.func82.trans (congrArg some (by kernel_rfl))⟩
  f23 := ⟨Tryd.f83.name, by decide, Tryd.func83.trans (congrArg some (by kernel_rfl))⟩
  f24 := ⟨Tryd.f84.name, by decide, Tryd.func84.trans (congrArg some (by kernel_rfl))⟩
  f25 := ⟨Tryd.f85.name, by decide, Tryd.func85.trans (congrArg some (by kernel_rfl))⟩
  f26 := ⟨Tryd.f86.name, by decide, Tryd.func86.trans (congrArg some (by kernel_rfl))⟩
  f27 := ⟨Tryd.f87.name, by decide, Tryd.func87.trans (congrArg some (by kernel_rfl))⟩
  f28 := ⟨Tryd.f88.name, by decide, Tryd.func88.trans (congrArg some (by kernel_rfl))⟩
  f29 := ⟨Tryd.f89.name, by decide, Tryd.func89.trans (congrArg some (by kernel_rfl))⟩
  f31 := Tryd.func96.trans (congrArg some (by kernel_rfl))
  f32 := Tryd.func97.trans (congrArg some (by kernel_rfl))
  f36 := ⟨Tryd.f95.name, by decide, Tryd.func95.trans (congrArg some (by kernel_rfl))⟩
  f37 := ⟨Tryd.f98.name, by decide, Tryd.func98.trans (congrArg some (by kernel_rfl))⟩
  f38 := ⟨Tryd.f99.name, by decide, Tryd.func99.trans (congrArg some (by kernel_rfl))⟩
  f39 := ⟨Tryd.f100.name, by decide, Tryd.func100.trans (congrArg some (by kernel_rfl))⟩
  f41 := ⟨Tryd.f105.name, by decide, Tryd.func105.trans (congrArg some (by kernel_rfl))⟩
  t0 := Tryd.underlying0
  a0 := Tryd.isAgg0
  z0 := Tryd.sizeOf0
  v0 := Tryd.zeroValue0
  t3 := Tryd.underlying3
  a3 := Tryd.isAgg3
  z3 := Tryd.sizeOf3
  v3 := Tryd.zeroValue3
  t4 := Tryd.underlying4
  a4 := Tryd.isAgg4
  z4 := Tryd.sizeOf4
  v4 := Tryd.zeroValue4
  t5 := Tryd.underlying5
  a5 := Tryd.isAgg5
  z5 := Tryd.sizeOf5
  v5 := Tryd.zeroValue5
  t9 := Tryd.underlying9
  a9 := Tryd.isAgg9
  z9 := Tryd.sizeOf9
  v9 := Tryd.zeroValue9
  t26 := Tryd.underlying44
  a26 := Tryd.isAgg44
  z26 := Tryd.sizeOf44
  v26 := Tryd.zeroValue44
  t27 := Tryd.underlying44
  a27 := Tryd.isAgg44
  z27 := Tryd.sizeOf44
  v27 := Tryd.zeroValue44
  t29 := Tryd.underlying9
  a29 := Tryd.isAgg9
  z29 := Tryd.sizeOf9
  v29 := Tryd.zeroValue9
  t32 := Tryd.underlying96
  a32 := Tryd.isAgg96
  z32 := Tryd.sizeOf96
  v32 := Tryd.zeroValue96
  t35 := Tryd.underlying103
  a35 := Tryd.isAgg103
  z35 := Tryd.sizeOf103
  v35 := Tryd.zeroValue103
  t36 := Tryd.underlying104
  a36 := Tryd.isAgg104
  z36 := Tryd.sizeOf104
  v36 := Tryd.zeroValue104
  t41 := Tryd.underlying109
  a41 := Tryd.isAgg109
  z41 := Tryd.sizeOf109
  v41 := Tryd.zeroValue109
  t44 := Tryd.underlying112
  a44 := Tryd.isAgg112
  z44 := Tryd.sizeOf112
  v44 := Tryd.zeroValue112
  t46 := Tryd.underlying114
  a46 := Tryd.isAgg114
  z46 := Tryd.sizeOf114
  v46 := Tryd.zeroValue114
  t53 := Tryd.underlying116
  a53 := Tryd.isAgg116
  z53 := Tryd.sizeOf116
  v53 := Tryd.zeroValue116
  t57 := Tryd.underlying120
  a57 := Tryd.isAgg120
  z57 := Tryd.sizeOf120
  v57 := Tryd.zeroValue120
  t63 := Tryd.underlying130
  a63 := Tryd.isAgg130
  z63 := Tryd.sizeOf130
  v63 := Tryd.zeroValue130
  t64 := Tryd.underlying131
  a64 := Tryd.isAgg131
  z64 := Tryd.sizeOf131
  v64 := Tryd.zeroValue131 }
end Go.Proofs

/- The landed disk: copies of texts and of bytes; the map's laws at a single step. -/
namespace Go.Proofs.YtcmkjjlchljffaaDoor
open Go.RowKit
set_option linter.unusedVariables false
set_option maxRecDepth 100000
set_option maxHeartbeats 3200000

theorem str_clone (s : ByteArray) (w : World) (hs : s.size ≤ 281474976710656) : Calls Tryd.prog 61 #[.string s] w fun r w' => r = .returned (.string s) ∧ Below w.heap.size w w' := by
  have HC := hidU (Tryd.stringslite_Clone s w hs)
  go_enter Tryd.func61, Tryd.ntmps61
  go_wp2_with (go_at_call 66; refine HC.out.mono ?_; rintro _ w1 ⟨rfl, hb⟩)
  go_ret
  exact ⟨rfl, hb⟩
theorem clone_nil (n c : Nat) (w : World) : Calls Tryd.prog 50 #[.slice none n c] w fun r w' => r = .returned (.slice none 0 0) ∧ w' = w := by
  have hq : (binOp .eql 29 (.slice none n c) (.slice none 0 0)).run Tryd.prog w = .ok (.bool true) w := Lib.run_eql_slice_nil w 29 _ none n c 0 0 Tryd.underlying29
  go_enter Tryd.func50, Tryd.ntmps50
  go_wp2
  go_ret
  exact ⟨rfl, rfl⟩
theorem clone_some (ad : Addr) (n c : Nat) (bs : List UInt8) (w : World) (h : Row w (some ad) bs) (hn : bs.length = n) (hc : n ≤ c) (hm : n ≤ 140737488355328) :
    Calls Tryd.prog 50 #[.slice (some ad) n c] w fun r w' => ∃ v, r = .returned v ∧ OwnX eB w.heap.size w' v bs ∧ Below w.heap.size w w' := by
  have HR := hidU (rowB.2 h)
  have hq : (binOp .eql 29 (.slice (some ad) n c) (.slice none 0 0)).run Tryd.prog w = .ok (.bool false) w := Lib.run_eql_slice_nil w 29 _ (some ad) n c 0 0 Tryd.underlying29
  clear h
  go_enter Tryd.func50, Tryd.ntmps50
  go_wp2_with (refine wpList_layB0 rfl rfl ?_; intro w1 hO hb hs; refine Hid.out ?_)
  have HR1 := hidU (HR.out.below hb)
  have HO := hidU hO
  have HB := hidU hb
  have hbase : w.heap.size ≤ w1.heap.size := hb.size
  refine hidU ?_
  clear hs hO hb
  go_wp2_with (refine wpList_appX eB rfl (.tmp 5) (.tmp 6) rfl w.heap.size _ _ n c rfl rfl HO.out hn (fun h => by cases h) hc HR1.out (by unfold maxLen; simp; omega) (by show (_ + n) * 1 ≤ _; simp; omega) hbase ?_; intro v' w2 hO2 hg; refine Hid.out ?_)
  have HB2 : Hid (Below w.heap.size w w2) := by
    refine HB.out.trans ?_
    exact (Chg.of_grown (K := fun k => w.heap.size ≤ k) hg (fun k hk => (HO.out.block k hk).1)).below hbase (fun k hk => hk)
  rw [List.nil_append] at hO2
  refine hidU ?_
  clear hg
  go_wp2
  go_ret
  exact ⟨_, rfl, hO2, HB2.out⟩
end Go.Proofs.YtcmkjjlchljffaaDoor

/- The sorted keys of a map, at this seat. -/
namespace Go.Proofs
open Go.RowKit Go.Maps Go.Sort Go.Shelf

/-- slices.Sort's two contracts at this dump, at the fence that asks nothing. -/
theorem Tryd.sorts58 (m : Nat) : AnyZ.SortsIn Tryd.prog Tryd.sorted58_ren Fence.wide m :=
  ⟨fun blk off cap ss W hH hblk hsz => callsIn_wide.2 (AnyM.slices_Sort_string Tryd.sort64 blk off cap ss W hH hblk hsz),
   fun p cap W => callsIn_wide.2 (AnyM.slices_Sort_string_none Tryd.sort64 p cap W)⟩

/-- maps.Keys[map[string]assize/disk.file,string,assize/disk.file], at whatever map, the nil one too: a function value over ONE NEW BLOCK, which holds the map. -/
theorem Tryd.maps_Keys_59 (mb : Option Nat) (W : World) : CallsIn Fence.wide 5 Tryd.prog 59 #[.map mb] W fun e w' => e = .returned (.func (.func 65) #[] #[.pointer (some ⟨W.heap.size, 0, none⟩)]) ∧ w' = W.alloc (.cells #[.map mb] 33) :=
  AnyZ.keys_in Tryd.keys59 Fence.wide 5 trivial rfl mb W

set_option maxHeartbeats 1000000 in
/-- slices.Sorted[string] AT WHAT maps.Keys[map[string]assize/disk.file,string,assize/disk.file] HANDED BACK FOR A MAP THAT IS NOT nil ('w': the world AHEAD of maps.Keys' call): A NEW SLICE THAT HOLDS THE MAP's KEYS, SORTED; nil just where it has none; nothing that lay before has turned. -/
theorem Tryd.slices_Sorted_keys_58_59 {H : Type} (b nn : Nat) (D0 : DataW H) (R : Value → Option (DataW H × List MemPlace)) (w : World) (hown : w.ownsMap Tryd.prog 9 R b nn D0) (hmax : Maps.size D0 ≤ maxLen) (hbytes : Maps.size D0 * 16 ≤ 140737488355328) :
    CallsIn Fence.wide 5 Tryd.prog 58 #[.func (.func 65) #[] #[.pointer (some ⟨w.heap.size, 0, none⟩)]] (w.alloc (.cells #[.map (some b)] 33)) fun e w' => ∃ (v : Value) (ss : List (List UInt8)), e = .returned v ∧ ss.Perm (strKeys D0) ∧
      w'.ownsRow (w.alloc (.cells #[.map (some b)] 33)).heap.size 9 1 v ss.length ((ss.mergeSort (fun x y => decide (x ≤ y))).map encStr) ∧ (v = .slice none 0 0 ↔ ss = []) ∧ Below (w.alloc (.cells #[.map (some b)] 33)).heap.size (w.alloc (.cells #[.map (some b)] 33)) w' := by
  have hbl := hown.lt
  have hseq : SeqGives Fence.wide 2 Tryd.prog 65 #[.pointer (some ⟨w.heap.size, 0, none⟩)] encStr (fun ss => ss.Perm (strKeys D0)) (Maps.size D0) (w.alloc (.cells #[.map (some b)] 33)) :=
    AnyZ.keys_gives (ρ := Tryd.keys59_ren) { Tryd.keys59 with } Fence.wide _ trivial rfl (by omega) w.heap.size b nn D0 _ (by simp) (by simp) (by
      obtain ⟨es, clock, hb, Ft, hs, hD⟩ := hown
      exact ⟨es, clock, (Below.heap_alloc _ _ b hbl).trans hb, Ft, hs, hD⟩)
  exact AnyZ.sorted_in Tryd.sorted58 Fence.wide 5 trivial trivial trivial trivial rfl (by omega) (Tryd.sorts58 _) (enters_of Tryd.func64 (by kernel_rfl) rfl) 65 #[.pointer (some ⟨w.heap.size, 0, none⟩)] trivial (enters_of Tryd.func65 (by kernel_rfl) rfl) _ _ hmax hbytes _ hseq

end Go.Proofs

/- Ranging over a map of texts; the sorted names of a map. -/
namespace Go.Proofs.YtcmkjjlchljffaaDoor
open Go.RowKit Go.Maps Go.MapKept Go.WideMaps
set_option linter.unusedVariables false
set_option maxRecDepth 100000

section
variable {α : Type} {t : Mt α} {w w' : World} {b r : Nat} {m : List (ByteArray × α)}
/-- A range over a map under way: what was told, what is left. -/
def Rg (t : Mt α) (w : World) (b r : Nat) (m dn lf : List (ByteArray × α)) : Prop :=
  ∃ es clock since seen c0, w.heap[b]? = some (.map es clock) ∧ Stamped es clock ∧ es.toList.map (fun e => (e.key, e.val)) = m.map (fun p => (Value.string p.1, t.val p.2)) ∧
    w.heap[r]? = some (.mapIter (some b) since seen c0) ∧ (∀ x ∈ es.toList, x.born < since) ∧ since ≤ c0 ∧ since ≤ clock ∧
    (es.toList.filter fun e => !seen.contains e.born).map (fun e => (e.key, e.val)) = lf.map (fun p => (Value.string p.1, t.val p.2)) ∧ (dn ++ lf).Perm m
theorem Rg.same {dn lf : List (ByteArray × α)} (h : Rg t w b r m dn lf) (e1 : w'.heap[b]? = w.heap[b]?) (e2 : w'.heap[r]? = w.heap[r]?) : Rg t w' b r m dn lf := by
  obtain ⟨es, clock, since, seen, c0, h1, h2, h3, h4, h5⟩ := h
  exact ⟨es, clock, since, seen, c0, e1.trans h1, h2, h3, e2.trans h4, h5⟩
theorem Rg.lt {dn lf : List (ByteArray × α)} (h : Rg t w b r m dn lf) : b < w.heap.size ∧ r < w.heap.size := by
  obtain ⟨es, clock, since, seen, c0, h1, h2, h3, h4, h5⟩ := h
  exact ⟨heapLt h1, heapLt h4⟩
theorem Rg.below {dn lf : List (ByteArray × α)} (h : Rg t w b r m dn lf) (hb : Below w.heap.size w w') : Rg t w' b r m dn lf := h.same (hb.block b h.lt.1) (hb.block r h.lt.2)
theorem Rg.perm {dn lf : List (ByteArray × α)} (h : Rg t w b r m dn lf) : (dn ++ lf).Perm m := by
  obtain ⟨es, clock, since, seen, c0, h1, h2, h3, h4, h5, h6, h7, h8, h9⟩ := h
  exact h9
theorem Rg.left {dn lf : List (ByteArray × α)} (h : Rg t w b r m dn lf) : w.rangeLeft b r = lf.length := by
  obtain ⟨es, clock, since, seen, c0, h1, h2, h3, h4, h5, h6, h7, h8, h9⟩ := h
  have := congrArg List.length h8
  simp only [List.length_map] at this
  simp only [World.rangeLeft, h1, h4, leftOf]
  rw [← this, ← Array.toList_filter, Array.length_toList]
theorem MapS.range (h : MapS t w b m) : ∃ w', (Instr.range t.T (.map (some b))).run Tryd.prog w = .ok (.pointer (some ⟨w.heap.size, 0, none⟩)) w' ∧ Rg t w' b w.heap.size m [] m ∧ Below w.heap.size w w' ∧ w'.heap.size = w.heap.size + 1 := by
  have hlt := h.lt
  obtain ⟨es, clock, h1, h2, h3, h4⟩ := h
  refine ⟨_, run_range_map w t.T 9 t.E b es clock t.und h1, ⟨es, clock, clock, #[], clock, ((MapKept.heap_alloc w _).2 b hlt).trans h1, h2, h3, (MapKept.heap_alloc w _).1, h2.1, Nat.le_refl _, Nat.le_refl _, ?_, by simp⟩, (Below.refl _ w).alloc (Nat.le_refl _) _, by simp⟩
  rw [List.filter_eq_self.2 (fun x _ => by simp)]
  exact h3
theorem filter_split {α : Type} (f g : α → Bool) (l1 l2 : List α) (e : α) (he : g e = false) (h1 : ∀ x ∈ l1 ++ l2, g x = f x) (hf : f e = true) : (l1 ++ e :: l2).filter f = l1.filter f ++ e :: l2.filter f ∧ (l1 ++ e :: l2).filter g = l1.filter f ++ l2.filter f := by
  constructor
  · rw [List.filter_append, List.filter_cons_of_pos hf]
  · rw [List.filter_append, List.filter_cons_of_neg (by rw [he]; simp)]
    congr 1
    · exact List.filter_congr fun x hx => h1 x (List.mem_append.2 (.inl hx))
    · exact List.filter_congr fun x hx => h1 x (List.mem_append.2 (.inr hx))
theorem Rg.next {dn lf : List (ByteArray × α)} (h : Rg t w b r m dn lf) (ty : TypeId) :
    (lf = [] ∧ (Instr.next (.pointer (some ⟨r, 0, none⟩)) false ty).run Tryd.prog w = .ok (.tuple #[.bool false]) w) ∨
    ∃ p lf' w', (Instr.next (.pointer (some ⟨r, 0, none⟩)) false ty).run Tryd.prog w = .ok (.tuple #[.bool true, .string p.1, t.val p.2]) w' ∧ lf.Perm (p :: lf') ∧ Rg t w' b r m (dn ++ [p]) lf' ∧ But r w w' ∧ w'.heap.size = w.heap.size ∧
      (Instr.entry (.pointer (some ⟨r, 0, none⟩))).run Tryd.prog w' = .ok (.tuple #[.string p.1, t.val p.2]) w' := by
  obtain ⟨es, clock, since, seen, c0, h1, h2, h3, h4, h5, h6, h7, h8, h9⟩ := h
  have hst := (stamped_iff es clock).1 h2
  rcases run_next_at (P := Tryd.prog) w ty r b since c0 seen es clock h4 h1 h5 h6 with ⟨h0, hrun⟩ | ⟨e, he, w1, hal, hrun⟩
  · refine .inl ⟨?_, hrun⟩
    have e1 : (es.toList.filter fun e => !seen.contains e.born) = [] := by
      unfold leftOf at h0
      rw [← Array.toList_filter]
      rw [Array.eq_empty_of_size_eq_zero h0]
    rw [e1] at h8
    cases lf with
    | nil => rfl
    | cons a l => cases h8
  · obtain ⟨hem, hes⟩ := mem_left he
    obtain ⟨l1, l2, hl⟩ := List.append_of_mem hem
    have hnd : (es.toList.map (·.born)).Nodup := h2.2.1
    have hne : ∀ x ∈ l1 ++ l2, (x.born == e.born) = false := by
      rw [hl, List.map_append, List.map_cons, List.nodup_append] at hnd
      obtain ⟨n1, n2, n3⟩ := hnd
      rw [List.nodup_cons] at n2
      intro x hx
      rw [beq_eq_false_iff_ne]
      rcases List.mem_append.1 hx with q | q
      · exact n3 _ (List.mem_map.2 ⟨x, q, rfl⟩) _ (.head _)
      · intro e1
        exact n2.1 (e1 ▸ List.mem_map.2 ⟨x, q, rfl⟩)
    obtain ⟨f1, f2⟩ := filter_split (fun x : MapEntry => !seen.contains x.born) (fun x => !(seen.push e.born).contains x.born) l1 l2 e (by rw [contains_push]; simp) (fun x hx => by rw [contains_push, hne x hx, Bool.or_false]) (by rw [hes]; rfl)
    rw [← hl] at f1 f2
    rw [f1, List.map_append, List.map_cons] at h8
    obtain ⟨a1, a2, rfl, b1, b2⟩ := List.map_eq_append_iff.1 h8.symm
    cases a2 with
    | nil => cases b2
    | cons p a2 =>
      rw [List.map_cons] at b2
      injection b2 with b2 b3
      injection b2 with k1 k2
      have hr1 : w1.heap[r]? = some (.mapIter (some b) since seen c0) := by rcases hal with rfl | rfl <;> exact h4
      have hb1 : w1.heap[b]? = some (.map es clock) := by rcases hal with rfl | rfl <;> exact h1
      have hset := heap_set (o' := .mapIter (some b) since (seen.push e.born) clock) hr1
      have hbr : b ≠ r := by rintro rfl; rw [h1] at h4; cases h4
      have hb' := (hset.2 b hbr).trans hb1
      have hen := run_entry_at (P := Tryd.prog) (ChangeMaps.setBlock w1 r (.mapIter (some b) since (seen.push e.born) clock)) r b since seen es clock e hset.1 hb' hem hnd
      rw [← k1, ← k2] at hrun hen
      refine .inr ⟨p, a1 ++ a2, _, hrun, List.perm_middle, ⟨es, clock, since, seen.push e.born, clock, hb', h2, h3, hset.1, h5, h7, h7, ?_, ?_⟩, ?_, ?_, hen⟩
      · rw [f2, List.map_append, List.map_append, b1, b3]
      · rw [List.append_assoc]
        exact (show (dn ++ p :: (a1 ++ a2)).Perm m from (List.Perm.append_left dn (List.perm_middle (l₁ := a1) (l₂ := a2) (a := p)).symm).trans h9)
      · rcases hal with rfl | rfl <;> exact ⟨rfl, rfl, rfl, by simp [ChangeMaps.setBlock], fun i _ hi => hset.2 i hi⟩
      · rcases hal with rfl | rfl <;> simp [ChangeMaps.setBlock]
end
section
variable {α : Type} (t : Mt α) {o : Oper} {a : Act} {w : World} {Q : Exit → Act → World → Prop} {ops : Array Oper} {rest : List Oper} {b r : Nat} {m dn lf : List (ByteArray × α)}
theorem wpList_range (hg : o.guard = none) (mo : Operand) (hop : o.op = Op.range t.T mo) (hm : a.eval mo = .map (some b)) (h : MapS t w b m)
    (hK : ∀ w', Rg t w' b w.heap.size m [] m → Below w.heap.size w w' → w'.heap.size = w.heap.size + 1 → wpList Tryd.prog ops Q rest (a.put o.dst (.pointer (some ⟨w.heap.size, 0, none⟩))) w') : wpList Tryd.prog ops Q (o :: rest) a w := by
  refine wpList_plain hg fun K' hK' => ?_
  obtain ⟨w', hrun, r1, r2, r3⟩ := h.range
  unfold Oper.wp
  simp [execOp, hop, hm, hrun, Result.andThen]
  exact hK' _ _ (hK w' r1 r2 r3)
theorem wpList_next (hg : o.guard = none) (it : Operand) (hop : o.op = Op.next it false) (hit : a.eval it = .pointer (some ⟨r, 0, none⟩)) (h : Rg t w b r m dn lf)
    (hDone : lf = [] → wpList Tryd.prog ops Q rest (a.put o.dst (.tuple #[.bool false])) w)
    (hMore : ∀ p lf' w', lf.Perm (p :: lf') → Rg t w' b r m (dn ++ [p]) lf' → But r w w' → w'.heap.size = w.heap.size →
      (Instr.entry (.pointer (some ⟨r, 0, none⟩))).run Tryd.prog w' = .ok (.tuple #[.string p.1, t.val p.2]) w' → wpList Tryd.prog ops Q rest (a.put o.dst (.tuple #[.bool true, .string p.1, t.val p.2])) w') : wpList Tryd.prog ops Q (o :: rest) a w := by
  refine wpList_plain hg fun K' hK' => ?_
  unfold Oper.wp
  rcases h.next o.type with ⟨h0, hrun⟩ | ⟨p, lf', w', hrun, r1, r2, r3, r4, r5⟩
  · simp [execOp, hop, hit, hrun, Result.andThen]
    exact hK' _ _ (hDone h0)
  · simp [execOp, hop, hit, hrun, Result.andThen]
    exact hK' _ _ (hMore p lf' w' r1 r2 r3 r4 r5)
/-- An update as one step of a region that draws its order. -/
theorem wp_upd {K : Act → World → Prop} (mo xo vo : Operand) (hop : o.op = Op.mapUpdate t.T mo xo vo) (s : ByteArray) (x : α) (hm : a.eval mo = .map (some b)) (hx : a.eval xo = .string s) (hv : a.eval vo = t.val x) (h : MapS t w b m) (hs : s.size ≤ maxLen)
    (hK : ∀ w', MapS t w' b (updM m s x) → But b w w' → w'.heap.size = w.heap.size → K (a.put o.dst undef) w') : o.wp Tryd.prog a w K Q := by
  obtain ⟨w', hrun, r1, r2, r3⟩ := h.update hs x
  unfold Oper.wp
  simp [execOp, hop, hm, hx, hv, hrun, Result.andThen]
  exact hK w' r1 r2 r3
theorem wp_del {K : Act → World → Prop} (mo xo : Operand) (hop : o.op = Op.call { callee := Callee.builtin Builtin.delete, args := #[mo, xo], argTypes := #[t.T, 9] }) (s : ByteArray) (hm : a.eval mo = .map (some b)) (hx : a.eval xo = .string s) (h : MapS t w b m) (hs : s.size ≤ maxLen)
    (hK : ∀ w', MapS t w' b (delM m s) → But b w w' → w'.heap.size = w.heap.size → K (a.put o.dst (.tuple #[])) w') : o.wp Tryd.prog a w K Q := by
  obtain ⟨w', hrun, r1, r2, r3⟩ := h.delete hs o.type
  unfold Oper.wp
  simp [execOp, hop, resolve, invoke, builtin, hm, hx, hrun, Result.andThen]
  exact hK w' r1 r2 r3
end
end Go.Proofs.YtcmkjjlchljffaaDoor

/- The landed disk: a file is put into the map; a file is cut, or made safe. -/
namespace Go.Proofs.YtcmkjjlchljffaaDoor
open Go.RowKit
set_option linter.unusedVariables false
set_option maxRecDepth 100000
set_option maxHeartbeats 6400000

theorem size66 (w : World) : (sizeOf 66).run Tryd.prog w = .ok 3 w := by kernel_rfl
/-- put: the map has the file; nothing else has changed. -/
theorem put_any (g mb : Nat) (m : FMap) (a : Option Addr) (n c : Nat) (bs : List UInt8) (sf : Nat) (hd : Bool) (nm : ByteArray) (w : World) (q : w.cell? ⟨g, 2, none⟩ = some (.map (some mb))) (hp : MapS mF w mb m) (hs40 : nm.size ≤ 281474976710656) :
    Calls Tryd.prog 38 #[.pointer (some ⟨g, 0, none⟩), .string nm, .agg #[.slice a n c, .int .i64 (sf : Int), .bool hd]] w fun r w' => r = .returned (.tuple #[]) ∧ MapS mF w' mb (updM m nm ⟨.slice a n c, bs, sf, hd⟩) ∧ ∃ y, Below w.heap.size w y ∧ But mb y w' := by
  have hsz : nm.size ≤ maxLen := by unfold maxLen; omega
  go_enter Tryd.func38, Tryd.ntmps38
  go_wp2
  obtain ⟨y, hx⟩ : ∃ x, x = w.alloc (.cells #[.slice a n c, .int .i64 (sf : Int), .bool hd] 66) := ⟨_, rfl⟩
  have hA : At 66 y w.heap.size [.slice a n c, .int .i64 (sf : Int), .bool hd] := by rw [hx]; exact _root_.Go.heap_alloc_new w _
  have hBx : Hid (Below w.heap.size w y) := by rw [hx]; exact (Below.refl _ w).alloc (Nat.le_refl _) _
  have HP := hidU (hp.below hBx.out)
  have q := (hBx.out.cell (lt_of_cell q)).trans q
  have c0 : y.cell? ⟨w.heap.size, 0, none⟩ = some (.slice a n c) := by rw [hA.cell]; rfl
  have c1 : y.cell? ⟨w.heap.size, 1, none⟩ = some (.int .i64 (sf : Int)) := by rw [hA.cell]; rfl
  have c2 : y.cell? ⟨w.heap.size, 2, none⟩ = some (.bool hd) := by rw [hA.cell]; rfl
  try rw [← hx]
  clear hx hp hA
  have hS0 : Below y.heap.size y y.drew := Below.drew (Below.refl _ _)
  refine wp_region_S (S := fun xS => Below y.heap.size y xS) (St := [7]) (by kernel_rfl) hS0 ?_
  obtain ⟨x0, hx0⟩ : ∃ x, x = y.drew := ⟨_, rfl⟩
  rw [← hx0] at hS0  ⊢
  clear hx0
  intro hH
  refine wpAnyS_pure (i := 0) (oi := { dst := some 6, op := .move (.tmp 0), type := _, pos := _, after := _, guard := none }) (v := .pointer (some ⟨g, 0, none⟩)) rfl (by kernel_rfl) (by kernel_rfl) (by kernel_rfl) (by kernel_rfl) (fun _ _ _ h => h) (Or.inl ⟨by rfl, ?_⟩) hH (fun hH => ?_)
  · intro wS hSw
    go_simp
  simp only [Act.put, List.setIfInBounds_toArray, List.set_cons_zero, List.set_cons_succ]
  refine wpAnyS_pure (i := 1) (oi := { dst := some 7, op := .nilCheck (.tmp 6), type := _, pos := _, after := _, guard := none }) (v := .pointer (some ⟨g, 0, none⟩)) rfl (by kernel_rfl) (by kernel_rfl) (by kernel_rfl) (by kernel_rfl) (fun _ _ _ h => h) (Or.inl ⟨by rfl, ?_⟩) hH (fun hH => ?_)
  · intro wS hSw
    go_simp
  simp only [Act.put, List.setIfInBounds_toArray, List.set_cons_zero, List.set_cons_succ]
  refine wpAnyS_pure (i := 2) (oi := { dst := some 8, op := .fieldAddr 35 (.tmp 7) 2, type := _, pos := _, after := _, guard := none }) (v := .pointer (some ⟨g, 2, none⟩)) rfl (by kernel_rfl) (by kernel_rfl) (by kernel_rfl) (by kernel_rfl) (fun _ _ _ h => h) (Or.inl ⟨by rfl, ?_⟩) hH (fun hH => ?_)
  · intro wS hSw
    go_simp
  simp only [Act.put, List.setIfInBounds_toArray, List.set_cons_zero, List.set_cons_succ]
  refine wpAnyS_take [7] (i := 3) (oi := { dst := some 9, op := .load 33 (.tmp 8), type := _, pos := _, after := _, guard := none }) (v := .map (some mb)) rfl (by kernel_rfl) (by kernel_rfl) (by kernel_rfl) (by kernel_rfl) (by kernel_rfl) (by kernel_rfl) (by kernel_rfl) (fun _ _ _ h => h) (Or.inl ⟨by rfl, ?_⟩) hH (fun hH => ?_)
  · intro wS hSw
    have z0 := (hSw.cell (lt_of_cell q)).trans q
    go_simp
  simp only [Act.put, List.setIfInBounds_toArray, List.set_cons_zero, List.set_cons_succ]
  refine wpAnyS_pure (i := 4) (oi := { dst := some 10, op := .move (.tmp 1), type := _, pos := _, after := _, guard := none }) (v := .string nm) rfl (by kernel_rfl) (by kernel_rfl) (by kernel_rfl) (by kernel_rfl) (fun _ _ _ h => h) (Or.inl ⟨by rfl, ?_⟩) hH (fun hH => ?_)
  · intro wS hSw
    go_simp
  simp only [Act.put, List.setIfInBounds_toArray, List.set_cons_zero, List.set_cons_succ]
  refine wpAnyS_take [7] (i := 6) (oi := { dst := some 12, op := .load 66 (.tmp 5), type := _, pos := _, after := _, guard := none }) (v := .agg #[.slice a n c, .int .i64 (sf : Int), .bool hd]) rfl (by kernel_rfl) (by kernel_rfl) (by kernel_rfl) (by kernel_rfl) (by kernel_rfl) (by kernel_rfl) (by kernel_rfl) (fun _ _ _ h => h) (Or.inl ⟨by rfl, ?_⟩) hH (fun hH => ?_)
  · intro wS hSw
    have z0 := (hSw.cell (lt_of_cell c0)).trans c0
    have z1 := (hSw.cell (lt_of_cell c1)).trans c1
    have z2 := (hSw.cell (lt_of_cell c2)).trans c2
    go_simp
  simp only [Act.put, List.setIfInBounds_toArray, List.set_cons_zero, List.set_cons_succ]
  refine wpAnyS_ready (rs := [5]) (by kernel_rfl) (by simp) ?_
  refine AllReadyS.cons (o := { dst := some 11, op := .call { callee := .value (.func 61), args := #[.tmp 10], argTypes := #[9] }, type := _, pos := _, after := _, guard := none }) rfl (fun K hK => ?_) AllReadyS.nil
  rw [if_pos (by rfl)]
  go_wp2_with (go_at_call 61; refine (str_clone nm x0 hs40).mono ?_; rintro e x1 ⟨rfl, hb1⟩)
  have hS1 := hS0.trans (hb1.mono hS0.size)
  refine hK.out _ _ (Hold.of hS1) (fun hH => ?_)
  clear hK K
  refine wpAnyS_ready (rs := [7]) (by kernel_rfl) (by simp) ?_
  refine AllReadyS.cons (o := { dst := none, op := .mapUpdate 33 (.tmp 9) (.tmp 11) (.tmp 12), type := _, pos := _, after := _, guard := none }) rfl (fun K hK => ?_) AllReadyS.nil
  rw [if_pos (by rfl)]
  refine wp_upd mF (.tmp 9) (.tmp 11) (.tmp 12) rfl nm ⟨.slice a n c, bs, sf, hd⟩ rfl rfl rfl (HP.out.below hS1) hsz ?_
  intro x2 hM2 hb2 hs2
  refine hK.out _ _ (Hold.over (s := 7) (by decide) (by rfl)) (fun hH => ?_)
  clear hK K
  refine wpAnyS_done (by kernel_rfl) ?_ _
  go_end0
  exact ⟨rfl, hM2, _, (hBx.out.trans (hS1.mono hBx.out.size)), hb2⟩
end Go.Proofs.YtcmkjjlchljffaaDoor

/- The landed disk: a file is cut, or made safe. -/
namespace Go.Proofs.YtcmkjjlchljffaaDoor
open Go.RowKit
set_option linter.unusedVariables false
set_option maxRecDepth 100000
set_option maxHeartbeats 3200000

theorem z66 : (Tryd.prog.info? 66).map (fun i => (i.zero, i.size)) = some (some (.agg [Value.slice none 0 0, .int .i64 0, .bool false].toArray), 3) := by kernel_rfl
theorem i66 : (Tryd.prog.info? 66).map (·.size) = some 3 := by kernel_rfl
theorem one3 {a : Option Addr} {n c : Nat} {x : Int} {b : Bool} : ∀ v ∈ [Value.slice a n c, .int .i64 x, .bool b], v.oneCell' = true := by
  intro v hv
  simp at hv
  rcases hv with rfl | rfl | rfl <;> rfl
/-- safely: all of a file's bytes are safe. -/
theorem safely_any (a : Option Addr) (n c : Nat) (sf : Nat) (hd : Bool) (w : World) : Calls Tryd.prog 55 #[.agg #[.slice a n c, .int .i64 (sf : Int), .bool hd]] w fun r w' => r = .returned (.agg #[.slice a n c, .int .i64 (n : Int), .bool hd]) ∧ Below w.heap.size w w' := by
  go_enter Tryd.func55, Tryd.ntmps55
  go_wp2_with (first
    | (refine wpList_box_at rfl 66 (.tmp 0) rfl [.slice a n c, .int .i64 (sf : Int), .bool hd] rfl ?_; intro w1 hA1 hb1 hs1)
    | (refine wpList_alloc_at rfl 66 rfl [.slice none 0 0, .int .i64 0, .bool false] 3 z66 ?_; intro w2 hA2 hb2 hs2; refine Hid.out ?_))
  obtain ⟨g1, hg1⟩ : ∃ g, g = w.heap.size := ⟨_, rfl⟩
  obtain ⟨g2, hg2⟩ : ∃ g, g = w.heap.size + 1 := ⟨_, rfl⟩
  have hA1 := hA1.below hb2
  rw [← hg1] at hA1
  rw [hs1, ← hg2] at hA2
  have hne : g1 ≠ g2 := by omega
  have HB := hidU (hb1.trans (hb2.mono hb1.size))
  have hl2 : w.heap.size ≤ g2 := by omega
  have hl1 : w.heap.size ≤ g1 := by omega
  refine hidU ?_
  rw [← hg2, ← hg1]
  have HG := hidU hg1
  clear hg1 hg2 hb1 hb2 hs1 hs2
  have c0 : w2.cell? ⟨g1, 0, none⟩ = some (.slice a n c) := by rw [hA1.cell]; rfl
  go_wp2_with (refine wpList_store1 rfl 3 (.tmp 6) (.tmp 5) rfl g1 1 (.int .i64 (n : Int)) rfl rfl 66 _ hA1 (by simp) i3 rfl rfl ?_; intro w3 hA3 hb3 hs3; refine Hid.out ?_)
  simp only [List.set] at hA3
  have hA2 := hb3.at hA2 hne.symm
  refine hidU ?_
  clear c0
  go_wp2_with (first
    | (refine wpList_load_at rfl 66 (.tmp 1) rfl g1 rfl 66 _ hA3 _ Tryd.underlying66 rfl i66 ?_)
    | (refine wpList_store_at rfl 66 (.tmp 2) (.tmp 7) rfl g2 [.slice a n c, .int .i64 (n : Int), .bool hd] rfl rfl 66 _ hA2 i66 rfl one3 ?_; intro w4 hA4 hb4 hs4))
  refine bodyPost_ret (results_at rfl _ _ g2 66 [.slice a n c, .int .i64 (n : Int), .bool hd] _ rfl hA4 Tryd.underlying66 rfl i66) rfl ?_
  have B3 := hb3.below HB.out hl1 HB.out.size
  exact ⟨rfl, hb4.below B3 hl2 B3.size⟩
theorem clone_any (a : Option Addr) (n c : Nat) (bs : List UInt8) (w : World) (h : Row w a bs) (hn : bs.length = n) (hc : n ≤ c) (h0 : a = none → c = 0) (hm : n ≤ 140737488355328) :
    Calls Tryd.prog 50 #[.slice a n c] w fun r w' => ∃ v, r = .returned v ∧ OwnX eB w.heap.size w' v bs ∧ Below w.heap.size w w' := by
  cases a with
  | some ad => exact clone_some ad n c bs w h hn hc hm
  | none =>
    have := h0 rfl
    have hb : bs = [] := List.length_eq_zero_iff.1 (by omega)
    refine (clone_nil n c w).mono ?_
    rintro r w' ⟨rfl, rfl⟩
    exact ⟨_, rfl, by rw [hb]; exact OwnX.nil _ _ _, Below.refl _ _⟩
theorem one3' {v : Value} {x : Int} {b : Bool} (hv : v.oneCell' = true) : ∀ u ∈ [v, .int .i64 x, .bool b], u.oneCell' = true := by
  intro u hu
  simp at hu
  rcases hu with rfl | rfl | rfl
  · exact hv
  · rfl
  · rfl
theorem own_slice {α : Type} {e : El α} {base : Nat} {w : World} {v : Value} {xs : List α} (h : OwnX e base w v xs) : ∃ a c, v = .slice a xs.length c := by
  obtain ⟨a, c, e, _⟩ := h.row
  exact ⟨a, c, e⟩
/-- cut: a file with the first so many of its bytes, in memory of its own. -/
theorem cut_any (a : Option Addr) (n c : Nat) (bs : List UInt8) (sf : Nat) (hd : Bool) (z : Nat) (w : World) (h : Row w a bs) (hn : bs.length = n) (hc : n ≤ c) (h0 : a = none → c = 0) (hz : z ≤ n) (hm : n ≤ 67108864) (hsf : sf ≤ n) :
    Calls Tryd.prog 53 #[.agg #[.slice a n c, .int .i64 (sf : Int), .bool hd], .int .i64 (z : Int)] w fun r w' => ∃ v, r = .returned (.agg #[v, .int .i64 ((min sf z : Nat) : Int), .bool hd]) ∧ OwnX eB w.heap.size w' v (bs.take z) ∧ Below w.heap.size w w' := by
  have HR := hidU h
  obtain ⟨M, hM⟩ : ∃ M : Nat, Hid (M = min sf z) := ⟨_, (rfl : _ = min sf z)⟩
  rw [← hM.out]
  clear h
  go_enter Tryd.func53, Tryd.ntmps53
  go_wp2_with (first
    | (refine wpList_box_at rfl 66 (.tmp 0) rfl [.slice a n c, .int .i64 (sf : Int), .bool hd] rfl ?_; intro w1 hA1 hb1 hs1)
    | (refine wpList_alloc_at rfl 66 rfl [.slice none 0 0, .int .i64 0, .bool false] 3 z66 ?_; intro w2 hA2 hb2 hs2; refine Hid.out ?_))
  obtain ⟨g1, hg1⟩ : ∃ g, g = w.heap.size := ⟨_, rfl⟩
  obtain ⟨g2, hg2⟩ : ∃ g, g = w.heap.size + 1 := ⟨_, rfl⟩
  have hA1 := hA1.below hb2
  rw [← hg1] at hA1
  rw [hs1, ← hg2] at hA2
  have hne : g1 ≠ g2 := by omega
  have HB := hidU (hb1.trans (hb2.mono hb1.size))
  have hl2 : w.heap.size ≤ g2 := by omega
  have hl1 : w.heap.size ≤ g1 := by omega
  refine hidU ?_
  rw [← hg2, ← hg1]
  clear hg1 hg2 hb1 hb2 hs1 hs2
  have c0 : w2.cell? ⟨g1, 0, none⟩ = some (.slice a n c) := by rw [hA1.cell]; rfl
  have HC := hidU (clone_any a z c (bs.take z) w2 ((HR.out.below HB.out).take z) (by rw [List.length_take]; omega) (by omega) h0 (by omega))
  have hlz : (bs.take z).length = z := by rw [List.length_take]; omega
  have hsl := fun w => run_slice_to w a n c z (z : Int) rfl (by omega)
  go_wp2_with (first
    | (go_at_call 50; refine HC.out.mono ?_; rintro _ w3 ⟨v, rfl, hO, hb3⟩; have hA13 := hA1.below hb3; have hA23 := hA2.below hb3; obtain ⟨av, cv, rfl⟩ := own_slice hO; rw [hlz] at hO)
    | (refine wpList_store1 rfl 29 (.tmp 10) (.tmp 9) rfl g1 0 (.slice av z cv) rfl rfl 66 _ hA13 (by simp) i30 rfl rfl ?_; intro w4 hA4 hb4 hs4; refine Hid.out ?_))
  simp only [List.set] at hA4
  have hA24 := hb4.at hA23 hne.symm
  have lO : w2.heap.size ≤ w3.heap.size := hb3.size
  have lw2 := hA2.lt
  have lg1 := hA1.lt
  have HO4 : Hid (OwnX eB w2.heap.size w4 (.slice av z cv) (bs.take z)) := hO.same fun k hk => hb4.block k (hO.block k hk).2.1 (by have := (hO.block k hk).1; omega)
  have HB3 := hidU (HB.out.trans (hb3.mono HB.out.size))
  have HB4 := hidU (hb4.below HB3.out hl1 HB3.out.size)
  refine hidU ?_
  clear hA13 hA23 hO hb3 hb4 hs4 c0 hA1 hA2 HC hsl lO
  have c1 : w4.cell? ⟨g1, 1, none⟩ = some (.int .i64 (sf : Int)) := by rw [hA4.cell]; rfl
  by_cases hlt : (z : Int) < (sf : Int)
  · have e : M = z := by rw [hM.out]; omega
    subst e
    go_wp2_with (refine wpList_store1 rfl 3 (.tmp 15) (.tmp 14) rfl g1 1 (.int .i64 (min (sf : Int) (M : Int))) rfl rfl 66 _ hA4 (by simp) i3 rfl rfl ?_; intro w5 hA5 hb5 hs5; refine Hid.out ?_)
    simp only [List.set] at hA5
    rw [show min (sf : Int) (M : Int) = (M : Int) by omega] at hA5
    rw [show min (sf : Int) (M : Int) = (M : Int) by omega]
    have hA25 := hb5.at hA24 hne.symm
    refine hidU ?_
    have HO5 : Hid (OwnX eB w2.heap.size w5 (.slice av M cv) (bs.take M)) := HO4.out.same fun k hk => hb5.block k (HO4.out.block k hk).2.1 (by have := (HO4.out.block k hk).1; omega)
    have HB5 := hidU (hb5.below HB4.out hl1 HB4.out.size)
    clear hb5 hs5 c1 hA4 hA24 HO4
    go_wp2_with (first
      | (refine wpList_load_at rfl 66 (.tmp 2) rfl g1 rfl 66 _ hA5 _ Tryd.underlying66 rfl i66 ?_)
      | (refine wpList_store_at rfl 66 (.tmp 4) (.tmp 16) rfl g2 _ rfl rfl 66 _ hA25 i66 rfl one3 ?_; intro w6 hA6 hb6 hs6))
    refine bodyPost_ret (results_at rfl _ _ g2 66 _ _ rfl hA6 Tryd.underlying66 rfl i66) rfl ?_
    refine ⟨_, rfl, (HO5.out.same fun k hk => hb6.block k (HO5.out.block k hk).2.1 (by have := (HO5.out.block k hk).1; omega)).less HB.out.size, hb6.below HB5.out hl2 HB5.out.size⟩
  · have e : M = sf := by rw [hM.out]; omega
    subst e
    go_wp2_with (refine wpList_store1 rfl 3 (.tmp 15) (.tmp 14) rfl g1 1 (.int .i64 (min (M : Int) (z : Int))) rfl rfl 66 _ hA4 (by simp) i3 rfl rfl ?_; intro w5 hA5 hb5 hs5; refine Hid.out ?_)
    simp only [List.set] at hA5
    rw [show min (M : Int) (z : Int) = (M : Int) by omega] at hA5
    rw [show min (M : Int) (z : Int) = (M : Int) by omega]
    have hA25 := hb5.at hA24 hne.symm
    refine hidU ?_
    have HO5 : Hid (OwnX eB w2.heap.size w5 (.slice av z cv) (bs.take z)) := HO4.out.same fun k hk => hb5.block k (HO4.out.block k hk).2.1 (by have := (HO4.out.block k hk).1; omega)
    have HB5 := hidU (hb5.below HB4.out hl1 HB4.out.size)
    clear hb5 hs5 c1 hA4 hA24 HO4
    go_wp2_with (first
      | (refine wpList_load_at rfl 66 (.tmp 2) rfl g1 rfl 66 _ hA5 _ Tryd.underlying66 rfl i66 ?_)
      | (refine wpList_store_at rfl 66 (.tmp 4) (.tmp 16) rfl g2 _ rfl rfl 66 _ hA25 i66 rfl one3 ?_; intro w6 hA6 hb6 hs6))
    refine bodyPost_ret (results_at rfl _ _ g2 66 _ _ rfl hA6 Tryd.underlying66 rfl i66) rfl ?_
    refine ⟨_, rfl, (HO5.out.same fun k hk => hb6.block k (HO5.out.block k hk).2.1 (by have := (HO5.out.block k hk).1; omega)).less HB.out.size, hb6.below HB5.out hl2 HB5.out.size⟩
end Go.Proofs.YtcmkjjlchljffaaDoor

/- The landed disk: what its map comes to when a file is put or taken away, beside the list of files. -/
namespace Go.Proofs.YtcmkjjlchljffaaDoor
open Go.RowKit
set_option linter.unusedVariables false

section
variable {α : Type} {m : List (ByteArray × α)} {s : ByteArray} {x y : α}
theorem find_split {α : Type} {p : α → Bool} : ∀ {l : List α} {a : α}, l.find? p = some a → ∃ l1 l2, l = l1 ++ a :: l2 ∧ (∀ x ∈ l1, p x = false) ∧ p a = true
  | b :: l, a, h => by
    cases hb : p b with
    | true =>
      rw [List.find?_cons_of_pos hb] at h
      cases h
      exact ⟨[], l, rfl, fun x hx => (by cases hx), hb⟩
    | false =>
      rw [List.find?_cons_of_neg (by rw [hb]; simp)] at h
      obtain ⟨l1, l2, rfl, h1, h2⟩ := find_split h
      exact ⟨b :: l1, l2, rfl, fun x hx => by
        rcases List.mem_cons.1 hx with e | e
        · rw [e]; exact hb
        · exact h1 x e, h2⟩
theorem keyB_self (s : ByteArray) (x : α) : keyB s (s, x) = true := keyB_iff.2 rfl
theorem look_split (hn : (m.map (·.1)).Nodup) (h : lookM m s = some x) : ∃ l1 l2, m = l1 ++ (s, x) :: l2 ∧ (∀ p ∈ l1 ++ l2, keyB s p = false) := by
  unfold lookM at h
  cases hf : m.find? (keyB s) with
  | none => rw [hf] at h; cases h
  | some p =>
    rw [hf] at h
    obtain ⟨l1, l2, rfl, h1, h2⟩ := find_split hf
    have e1 := keyB_iff.1 h2
    injection h with h
    obtain ⟨p1, p2⟩ := p
    simp only at e1 h
    subst e1 h
    refine ⟨l1, l2, rfl, fun q hq => ?_⟩
    rcases List.mem_append.1 hq with e | e
    · exact h1 q e
    · rw [keyB_not]
      intro e2
      rw [List.map_append, List.map_cons, List.nodup_append] at hn
      have := (List.nodup_cons.1 hn.2.1).1
      exact this (e2 ▸ List.mem_map.2 ⟨q, e, rfl⟩)
theorem del_split {l1 l2 : List (ByteArray × α)} (h : ∀ p ∈ l1 ++ l2, keyB s p = false) : delM (l1 ++ (s, x) :: l2) s = l1 ++ l2 := by
  unfold delM
  rw [List.filter_append, List.filter_cons_of_neg (by rw [keyB_self]; simp)]
  congr 1
  · exact List.filter_eq_self.2 fun p hp => by rw [h p (List.mem_append.2 (.inl hp))]; rfl
  · exact List.filter_eq_self.2 fun p hp => by rw [h p (List.mem_append.2 (.inr hp))]; rfl
theorem look_none (h : lookM m s = none) : ∀ p ∈ m, keyB s p = false := by
  unfold lookM at h
  rw [Option.map_eq_none_iff, List.find?_eq_none] at h
  intro p hp
  simpa using h p hp
theorem updM_perm (hn : (m.map (·.1)).Nodup) : (updM m s x).Perm ((s, x) :: delM m s) := by
  unfold updM
  cases hl : lookM m s with
  | none =>
    simp only [Option.isSome_none, Bool.false_eq_true, if_false]
    have : delM m s = m := List.filter_eq_self.2 fun p hp => by rw [look_none hl p hp]; rfl
    rw [this]
    exact List.perm_append_comm (l₂ := [(s, x)])
  | some y =>
    simp only [Option.isSome_some, if_true]
    obtain ⟨l1, l2, rfl, h⟩ := look_split hn hl
    rw [del_split h, List.map_append, List.map_cons]
    rw [if_pos (keyB_self s y)]
    have e : ∀ l : List (ByteArray × α), (∀ p ∈ l, keyB s p = false) → l.map (fun p => if keyB s p then (s, x) else p) = l := fun l hl => by
      rw [List.map_congr_left (g := id) (fun p hp => by rw [hl p hp]; rfl), List.map_id]
    rw [e l1 fun p hp => h p (List.mem_append.2 (.inl hp)), e l2 fun p hp => h p (List.mem_append.2 (.inr hp))]
    exact List.perm_middle
theorem mem_del {p : ByteArray × α} (h : p ∈ delM m s) : p ∈ m ∧ p.1 ≠ s := by
  unfold delM at h
  obtain ⟨h1, h2⟩ := List.mem_filter.1 h
  exact ⟨h1, keyB_not.1 (by simpa using h2)⟩
theorem mem_upd (hn : (m.map (·.1)).Nodup) {p : ByteArray × α} (h : p ∈ updM m s x) : p = (s, x) ∨ (p ∈ m ∧ p.1 ≠ s) := by
  rcases List.mem_cons.1 ((updM_perm hn).mem_iff.1 h) with e | e
  · exact .inl e
  · exact .inr (mem_del e)
theorem nodup_upd (hn : (m.map (·.1)).Nodup) : ((updM m s x).map (·.1)).Nodup := by
  refine ((updM_perm hn).map (·.1)).nodup_iff.2 ?_
  rw [List.map_cons, List.nodup_cons]
  refine ⟨fun h => ?_, ?_⟩
  · obtain ⟨p, hp, e⟩ := List.mem_map.1 h
    exact (mem_del hp).2 e
  · exact hn.sublist (List.Sublist.map _ List.filter_sublist)
end
section
variable {m : FMap} {fs : List Fi} {nm : ByteArray} {f : Fi} {g : FM} {u : Fi → Fi}
theorem del_fi : ∀ (m : FMap) (nm : ByteArray), (delM m nm).map toFi = (m.map toFi).filter fun x => !isN nm x
  | [], _ => rfl
  | p :: m, nm => by
    have ih := del_fi m nm
    unfold delM at ih ⊢
    have e : isN nm (toFi p) = keyB nm p := rfl
    rw [List.map_cons]
    cases hk : keyB nm p with
    | true => rw [List.filter_cons_of_neg (by rw [hk]; simp), List.filter_cons_of_neg (by rw [e, hk]; simp), ih]
    | false => rw [List.filter_cons_of_pos (by rw [hk]; simp), List.filter_cons_of_pos (by rw [e, hk]; simp), List.map_cons, ih]
theorem upd_fs (hp : (m.map toFi).Perm fs) (hn : (m.map (·.1)).Nodup) : ((updM m nm g).map toFi).Perm (toFi (nm, g) :: fs.filter fun x => !isN nm x) := by
  refine ((updM_perm hn).map toFi).trans ?_
  rw [List.map_cons, del_fi]
  exact (hp.filter _).cons _
theorem insL_perm (f : Fi) : ∀ fs : List Fi, (insL f fs).Perm (f :: fs)
  | [] => List.Perm.refl _
  | t :: ts => by
    unfold insL
    split
    · exact List.Perm.refl _
    · exact ((insL_perm f ts).cons t).trans (List.Perm.swap f t ts)
theorem setL_perm : ∀ {fs : List Fi}, (fs.map Fi.nm).Nodup → fs.find? (isN nm) = some f → (setL nm u fs).Perm (u f :: fs.filter fun x => !isN nm x)
  | t :: ts, hn, h => by
    rw [List.map_cons, List.nodup_cons] at hn
    unfold setL
    cases ht : isN nm t with
    | true =>
      rw [List.find?_cons_of_pos ht] at h
      cases h
      rw [if_pos rfl, List.filter_cons_of_neg (by rw [ht]; simp)]
      rw [List.filter_eq_self.2 fun x hx => ?_]
      · have e1 : f.nm = nm := toL_inj (beq_iff_eq.1 ht)
        rw [(isN_inj (a := nm) (b := x.nm) rfl).2 fun e => hn.1 (by rw [e1, e]; exact List.mem_map.2 ⟨x, hx, rfl⟩)]
        rfl
    | false =>
      rw [List.find?_cons_of_neg (by rw [ht]; simp)] at h
      rw [if_neg (by simp), List.filter_cons_of_pos (by rw [ht]; rfl)]
      exact ((setL_perm hn.2 h).cons t).trans (List.Perm.swap _ _ _)
end
/-- What a write leaves of the map's blocks. -/
structure Wrt (B : Nat) (w w' : World) (mb : Nat) (m m' : FMap) : Prop where
  mp : MapS mF w' mb m'
  own : ∀ p ∈ m', OwnX eB B w' p.2.v p.2.bs
  apart : ∀ p ∈ m', ∀ q ∈ m', p.1 ≠ q.1 → ∀ k, p.2.v.ownBlock = some k → q.2.v.ownBlock ≠ some k
  ns : ∀ p ∈ m', p.1.size ≤ 40
  chg : Chg (fun k => k = mb ∨ ∃ p ∈ m, p.2.v.ownBlock = some k) w w'
  new : ∀ p ∈ m', ∀ k, p.2.v.ownBlock = some k → (∃ q ∈ m, q.2.v.ownBlock = some k) ∨ w.heap.size ≤ k
section
variable {B g mb : Nat} {w w' : World} {m m' : FMap} {sz wr : Nat} {lf : Int} {nm : ByteArray} {f : FM}
/-- A file is put, whose bytes lie where those of the file of that name lay, or in a new block. -/
theorem Wrt.upd (h : Ds B w g mb m sz lf wr) (hm : MapS mF w' mb (updM m nm f)) (ho : OwnX eB B w' f.v f.bs) (hk : nm.size ≤ 40) (hc : Chg (fun k => k = mb ∨ ∃ p, lookM m nm = some p ∧ p.v.ownBlock = some k) w w')
    (hv : ∀ k, f.v.ownBlock = some k → (∃ p, lookM m nm = some p ∧ p.v.ownBlock = some k) ∨ w.heap.size ≤ k) : Wrt B w w' mb m (updM m nm f) := by
  have hn := h.mp.nodup
  have other : ∀ p ∈ m, p.1 ≠ nm → ∀ k, p.2.v.ownBlock = some k → w'.heap[k]? = w.heap[k]? := fun p hp hne k hk => by
    refine hc.block k ((h.own p hp).block k hk).2.1 ?_
    rintro (e | ⟨q, hq, e⟩)
    · exact h.neM hp (e ▸ hk)
    · exact h.apart p hp (nm, q) (look_mem hq) hne k hk e
  refine ⟨hm, fun p hp => ?_, fun p hp q hq hne k h1 h2 => ?_, fun p hp => ?_, hc.mono fun k hlt e => ?_, fun p hp k hk => ?_⟩
  · rcases mem_upd hn hp with rfl | ⟨h1, h2⟩
    · exact ho
    · exact (h.own p h1).same (other p h1 h2)
  · rcases mem_upd hn hp with rfl | ⟨p1, p2⟩ <;> rcases mem_upd hn hq with rfl | ⟨q1, q2⟩
    · exact hne rfl
    · rcases hv k h1 with ⟨o, e1, e2⟩ | e
      · exact h.apart (nm, o) (look_mem e1) q q1 (fun e => q2 e.symm) k e2 h2
      · have := ((h.own q q1).block k h2).2.1; omega
    · rcases hv k h2 with ⟨o, e1, e2⟩ | e
      · exact h.apart (nm, o) (look_mem e1) p p1 (fun e => p2 e.symm) k e2 h1
      · have := ((h.own p p1).block k h1).2.1; omega
    · exact h.apart p p1 q q1 hne k h1 h2
  · rcases mem_upd hn hp with rfl | ⟨h1, _⟩
    · exact hk
    · exact h.ns p h1
  · rcases e with e | ⟨q, h1, h2⟩
    · exact .inl e
    · exact .inr ⟨(nm, q), look_mem h1, h2⟩
  · rcases mem_upd hn hp with rfl | ⟨h1, _⟩
    · rcases hv k hk with ⟨q, e1, e2⟩ | e
      · exact .inl ⟨(nm, q), look_mem e1, e2⟩
      · exact .inr e
    · exact .inl ⟨p, h1, hk⟩
theorem Wrt.del (h : Ds B w g mb m sz lf wr) (hm : MapS mF w' mb (delM m nm)) (hc : But mb w w') : Wrt B w w' mb m (delM m nm) := by
  refine ⟨hm, fun p hp => ?_, fun p hp q hq => h.apart p (mem_del hp).1 q (mem_del hq).1, fun p hp => h.ns p (mem_del hp).1, Chg.of_but hc (.inl rfl), fun p hp k hk => .inl ⟨p, (mem_del hp).1, hk⟩⟩
  exact (h.own p (mem_del hp).1).same fun k hk => hc.block k ((h.own p (mem_del hp).1).block k hk).2.1 fun e => h.neM (mem_del hp).1 (e ▸ hk)
/-- A file takes another one's name. -/
theorem Wrt.ren {to : ByteArray} (h : Ds B w g mb m sz lf wr) (hl : lookM m nm = some f) (hne : nm ≠ to) (hd : Bool) (hto : to.size ≤ 40) (hm : MapS mF w' mb (delM (updM m to { f with hd := hd }) nm)) (hc : But mb w w') : Wrt B w w' mb m (delM (updM m to { f with hd := hd }) nm) := by
  have hn := h.mp.nodup
  have hf := look_mem hl
  have mem : ∀ p ∈ delM (updM m to { f with hd := hd }) nm, p = (to, { f with hd := hd }) ∨ (p ∈ m ∧ p.1 ≠ to ∧ p.1 ≠ nm) := fun p hp => by
    obtain ⟨h1, h2⟩ := mem_del hp
    rcases mem_upd hn h1 with e | ⟨e1, e2⟩
    · exact .inl e
    · exact .inr ⟨e1, e2, h2⟩
  have st : ∀ p ∈ m, OwnX eB B w' p.2.v p.2.bs := fun p hp => (h.own p hp).same fun k hk => hc.block k ((h.own p hp).block k hk).2.1 fun e => h.neM hp (e ▸ hk)
  refine ⟨hm, fun p hp => ?_, fun p hp q hq hpq k h1 h2 => ?_, fun p hp => ?_, Chg.of_but hc (.inl rfl), fun p hp k hk => ?_⟩
  · rcases mem p hp with rfl | ⟨h1, _⟩
    · exact (st (nm, f) hf : OwnX eB B w' f.v f.bs)
    · exact st p h1
  · rcases mem p hp with rfl | ⟨p1, p2, p3⟩ <;> rcases mem q hq with rfl | ⟨q1, q2, q3⟩
    · exact hpq rfl
    · exact h.apart (nm, f) hf q q1 (fun e => q3 e.symm) k h1 h2
    · exact h.apart (nm, f) hf p p1 (fun e => p3 e.symm) k h2 h1
    · exact h.apart p p1 q q1 hpq k h1 h2
  · rcases mem p hp with rfl | ⟨h1, _⟩
    · exact hto
    · exact h.ns p h1
  · rcases mem p hp with rfl | ⟨h1, _⟩
    · exact .inl ⟨(nm, f), hf, hk⟩
    · exact .inl ⟨p, h1, hk⟩
/-- The disk behind a write. -/
theorem Wrt.ds {w2 : World} {lf' : Int} {wr' : Nat} (h : Ds B w g mb m sz lf wr) (k : Wrt B w w' mb m m') (hb : But g w' w2) (hA : At 35 w2 g [.pointer (some ⟨g, 0, none⟩), .int .i64 (sz : Int), .map (some mb), .int .i64 lf', .int .i64 (wr' : Int)]) : Ds B w2 g mb m' sz lf' wr' := by
  have hg : ∀ p ∈ m', p.2.v.ownBlock ≠ some g := fun p hp e => by
    rcases k.new p hp g e with ⟨q, hq, e⟩ | e
    · exact h.neG hq e
    · have := heapLt h.at_; omega
  exact ⟨hA, k.mp.same (hb.block _ k.mp.lt h.ne.symm), fun p hp => (k.own p hp).same fun i hi => hb.block i ((k.own p hp).block i hi).2.1 (fun e => hg p hp (e ▸ hi)), k.apart, h.bg, h.bm, k.ns⟩
theorem Wrt.at_ {cs : List Value} (h : Ds B w g mb m sz lf wr) (k : Wrt B w w' mb m m') (hA : At 35 w g cs) : At 35 w' g cs := by
  refine hA.same (k.chg.block g hA.lt ?_)
  rintro (e | ⟨p, hp, e⟩)
  · exact h.ne e
  · exact h.neG hp e
end
end Go.Proofs.YtcmkjjlchljffaaDoor

/- The landed disk: names that may be; how many bytes all files have. -/
namespace Go.Proofs.YtcmkjjlchljffaaDoor
open Go.RowKit
set_option linter.unusedVariables false
set_option maxRecDepth 100000
set_option maxHeartbeats 3200000

def lettersB : ByteArray := ⟨#[97, 98, 99, 100, 101, 102, 103, 104, 105, 106, 107, 108, 109, 110, 111, 112, 113, 114, 115, 116, 117, 118, 119, 120, 121, 122, 48, 49, 50, 51, 52, 53, 54, 55, 56, 57, 46, 45]⟩
theorem ch_letters : ∀ n : Nat, n < 256 → chOk (UInt8.ofNat n) = lettersB.data.toList.contains (UInt8.ofNat n) := by decide +kernel
theorem ch_letter (b : UInt8) : chOk b = lettersB.data.toList.contains b := by
  have := ch_letters b.toNat b.toNat_lt
  rwa [UInt8.ofNat_toNat] at this
theorem dropWhile_nil {α : Type} {p : α → Bool} : ∀ {l : List α}, l.dropWhile p = [] ↔ ∀ x ∈ l, p x = true
  | [] => by simp
  | a :: l => by
    cases h : p a with
    | true => rw [List.dropWhile_cons_of_pos h, dropWhile_nil]; simp [h]
    | false => rw [List.dropWhile_cons_of_neg (by rw [h]; simp)]; simp [h]
theorem trim_nil (l cs : List UInt8) : Lib.trimS l cs = [] ↔ ∀ x ∈ l, cs.contains x = true := by
  unfold Lib.trimS Lib.trimLeftS Lib.trimRightS
  rw [dropWhile_nil]
  constructor
  · intro h x hx
    by_cases q : ∀ y ∈ l.reverse, cs.contains y = true
    · exact q x (List.mem_reverse.2 hx)
    · exfalso
      have : (l.reverse.dropWhile (cs.contains ·)) ≠ [] := fun e => q (dropWhile_nil.1 e)
      obtain ⟨a, t, e⟩ := List.exists_cons_of_ne_nil this
      have h1 := h a (by rw [e]; simp)
      have h2 := List.head_dropWhile_not (p := (cs.contains ·)) (l := l.reverse) this
      simp only [e, List.head_cons] at h2
      rw [h1] at h2
      cases h2
  · intro h x hx
    refine h x ?_
    have := List.mem_reverse.1 hx
    exact List.mem_reverse.1 ((List.dropWhile_sublist _).subset this)
theorem isName_any (s : ByteArray) (w : World) (hs : s.size ≤ 9223372036854775807) : Calls Tryd.prog 34 #[.string s] w fun r w' => r = .returned (.bool (nmOk s)) ∧ Below w.heap.size w w' := by
  obtain ⟨R, hR⟩ : ∃ R, Hid (R = nmOk s) := ⟨_, (rfl : _ = nmOk _)⟩
  rw [← hR.out]
  have hl : s.data.toList.length = s.size := Array.length_toList
  have hlen : s.toList.length = s.size := by rw [ByteArray.toList_eq]; exact Array.length_toList
  by_cases h0 : s.size = 0
  · have e : R = false := by rw [hR.out, nmOk, decide_eq_false (by omega : ¬ 1 ≤ s.size)]; simp
    have h1 : s.toList = [] := List.length_eq_zero_iff.1 (by omega)
    subst e
    clear hl hlen hR h0
    go_enter Tryd.func34, Tryd.ntmps34
    go_wp2
    go_ret
    exact ⟨rfl, Below.refl _ _⟩
  · have h1 : ¬ s.toList = [] := fun e => by rw [e] at hlen; exact h0 hlen.symm
    have h2 : s.toList.isEmpty = false := by rw [List.isEmpty_eq_false_iff]; exact h1
    by_cases h40 : 40 < s.size
    · have e : R = false := by rw [hR.out, nmOk, decide_eq_false (by omega : ¬ s.size ≤ 40)]; simp
      have c1 : ¬ (s.size : Int) ≤ 40 := by omega
      subst e
      clear hl hlen hR h0
      go_enter Tryd.func34, Tryd.ntmps34
      go_wp2
      go_ret
      exact ⟨rfl, Below.refl _ _⟩
    · have c1 : (s.size : Int) ≤ 40 := by omega
      have HT := hidU (Tryd.trim_any s lettersB w hs (by decide +kernel) (ascii_of_all (by decide +kernel)))
      obtain ⟨T, hT⟩ : ∃ T, Hid (T = (⟨(Lib.trimS s.data.toList lettersB.data.toList).toArray⟩ : ByteArray)) := ⟨_, (rfl : _ = (⟨(Lib.trimS s.data.toList lettersB.data.toList).toArray⟩ : ByteArray))⟩
      rw [← hT.out] at HT
      have hTl : Hid (T.toList.isEmpty = R) := by
        have e1 : T.toList = Lib.trimS s.data.toList lettersB.data.toList := by rw [hT.out, ByteArray.toList_eq]
        show _ = _
        rw [e1, hR.out, nmOk, decide_eq_true (by omega : s.size ≤ 40), decide_eq_true (by omega : 1 ≤ s.size)]
        rw [Bool.and_self, Bool.and_true]
        rw [Bool.eq_iff_iff, List.isEmpty_iff, trim_nil, List.all_eq_true]
        exact ⟨fun q x hx => by rw [ch_letter]; exact q x hx, fun q x hx => by rw [← ch_letter]; exact q x hx⟩
      have hTl := hTl.out
      clear hl hlen hR h0 hT
      go_enter Tryd.func34, Tryd.ntmps34
      go_wp2_with (go_at_call 62; refine HT.out.mono ?_; rintro _ w1 ⟨rfl, hb⟩)
      go_ret
      exact ⟨by first | rfl | rw [hTl], hb⟩
end Go.Proofs.YtcmkjjlchljffaaDoor

/- The landed disk: how many bytes all files have; whether there is room. -/
namespace Go.Proofs.YtcmkjjlchljffaaDoor
open Go.RowKit
set_option linter.unusedVariables false
set_option maxRecDepth 100000
set_option maxHeartbeats 3200000

def sumM (m : FMap) : Nat := (m.map fun p => p.2.bs.length).sum
theorem sumM_app (a b : FMap) : sumM (a ++ b) = sumM a + sumM b := by simp [sumM]
theorem sumM_perm {a b : FMap} (h : a.Perm b) : sumM a = sumM b := (h.map _).sum_nat
section
variable {B g mb : Nat} {w : World} {m : FMap} {sz wr : Nat} {lf : Int} {nm : ByteArray}
theorem used_p (h : Ds B w g mb m sz lf wr) (hb : sumM m ≤ 67108864) : Calls Tryd.prog 21 #[.pointer (some ⟨g, 0, none⟩)] w fun r w' => r = .returned (.int .i64 (sumM m : Int)) ∧ Below w.heap.size w w' := by
  have HM := hidU (made_yes h.at_)
  have q := h.files
  have HP := hidU h.mp
  have HV := hidU (fun (p : ByteArray × FM) (hp : p ∈ m) => (h.own p hp).row)
  obtain ⟨r0, hr0⟩ : ∃ r, Hid (r = w.heap.size) := ⟨_, (rfl : _ = w.heap.size)⟩
  clear h
  go_enter Tryd.func21, Tryd.ntmps21
  go_wp2_with (first
    | (go_at_call 33; refine HM.out.mono ?_; rintro _ w1 ⟨rfl, hw⟩; obtain rfl : w = w1 := hw.symm; clear hw)
    | (refine wpList_range mF rfl (.tmp 12) rfl rfl HP.out ?_; intro w0 hrg hbw hsw; have HR := hidU hrg; have HB := hidU hbw; clear hrg hbw hsw))
  go_frame
  rw [← hr0.out] at HR ⊢
  clear q
  go_loopw [3] (fun U x => ∃ (u : Nat) (dn lf : FMap), U = .int .i64 (u : Int) ∧ Hid (Rg mF x mb r0 m dn lf) ∧ Hid (u = sumM dn) ∧ Hid (Below w.heap.size w x)) (fun _ x => x.rangeLeft mb r0)
  case atStart => exact ⟨0, [], m, rfl, HR, rfl, HB⟩
  case round =>
    obtain ⟨u, dn, lf, rfl, HRg, hu, HBx⟩ := hrel
    go_wp2_with (first
      | (at_next; refine wpList_next mF rfl (.tmp 13) rfl rfl HRg.out ?_ ?_)
      | go_in)
    · intro h0
      go_wp2
      go_ret
      refine ⟨?_, HBx.out⟩
      have := sumM_perm HRg.out.perm
      rw [h0, List.append_nil] at this
      rw [hu.out, this]
      rfl
    · intro nm fm lf' x1 hp hrg1 hb1 hs1 hen
      obtain ⟨v, bs, sf, hd⟩ := fm
      obtain ⟨a, c, hv, _⟩ := HV.out (nm, ⟨v, bs, sf, hd⟩) (HRg.out.perm.mem_iff.1 (List.mem_append.2 (.inr (hp.mem_iff.2 (.head _)))))
      simp only at hv
      subst hv
      obtain ⟨n, hn⟩ : ∃ n, Hid (bs.length = n) := ⟨_, (rfl : bs.length = _)⟩
      simp only [mF, FM.val, hn.out] at hen ⊢
      have HRg1 := hidU hrg1
      have HB1 : Hid (Below w.heap.size w x1) := hidU (hb1.below HBx.out (by rw [hr0.out]; exact Nat.le_refl _) HBx.out.size)
      have HL1 : Hid (x1.rangeLeft mb r0 < wr.rangeLeft mb r0) := hidU (by rw [hrg1.left, HRg.out.left, hp.length_eq]; simp)
      have hu1 : Hid (u + n = sumM (dn ++ [(nm, ⟨.slice a bs.length c, bs, sf, hd⟩)])) := hidU (by rw [sumM_app, ← hu.out, ← hn.out]; simp [sumM])
      have hle : Hid (u + n ≤ 67108864) := hidU (by
        have h1 := sumM_perm hrg1.perm
        rw [sumM_app] at h1
        have h2 := hu1.out
        omega)
      clear hrg1 hb1 hs1 hp
      go_wp2_with (first
        | (refine wpList_alloc_at rfl 66 rfl [.slice none 0 0, .int .i64 0, .bool false] 3 z66 ?_; intro x2 hA2 hb2 hs2; refine Hid.out ?_))
      refine hidU ?_
      obtain ⟨gb, hgb⟩ : ∃ gb, gb = x1.heap.size := ⟨_, rfl⟩
      rw [← hgb] at hA2 ⊢
      have HB2 := hidU (HB1.out.trans (hb2.mono HB1.out.size))
      have HRg2 := hidU (HRg1.out.below hb2)
      have hgl : w.heap.size ≤ gb := by rw [hgb]; exact HB1.out.size
      have hgr : mb ≠ gb ∧ r0 ≠ gb := by have := HRg1.out.lt; omega
      have HL2 : Hid (x2.rangeLeft mb r0 < wr.rangeLeft mb r0) := hidU (by rw [HRg2.out.left]; have := HL1.out; rwa [HRg1.out.left] at this)
      clear hb2 hs2 HB1 HRg1 HL1 hgb hen
      go_wp2_with (first
        | (refine wpList_store_at rfl 66 (.tmp 5) (.tmp 17) rfl gb [.slice a n c, .int .i64 (sf : Int), .bool hd] rfl rfl 66 _ hA2 i66 rfl one3 ?_; intro x3 hA3 hb3 hs3; refine Hid.out ?_))
      refine hidU ?_
      have HRg3 := hidU (HRg2.out.same (hb3.block mb HRg2.out.lt.1 hgr.1) (hb3.block r0 HRg2.out.lt.2 hgr.2))
      have HB3 := hidU (hb3.below HB2.out hgl HB2.out.size)
      have HL3 : Hid (x3.rangeLeft mb r0 < wr.rangeLeft mb r0) := hidU (by rw [HRg3.out.left]; have := HL2.out; rwa [HRg2.out.left] at this)
      have c0 : x3.cell? ⟨gb, 0, none⟩ = some (.slice a n c) := by rw [hA3.cell]; rfl
      have hw : IntKind.i64.wrap ((u : Int) + (n : Int)) = (u : Int) + n := by rw [IntKind.wrap_i64]; have := hle.out; omega
      clear hA2 hA3 hb3 hs3 HB2 HRg2 HL2 hgr hgl
      go_wp2
      go_roundw
      · exact ⟨u + n, _, lf', by simp, HRg3, hu1, HB3⟩
      · exact HL3.out
end
end Go.Proofs.YtcmkjjlchljffaaDoor
