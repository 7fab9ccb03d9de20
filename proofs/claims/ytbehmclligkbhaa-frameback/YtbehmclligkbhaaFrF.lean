/- awake, given what the program's frames tell. -/
import Derived.Test.YtbehmclligkbhaaFrE
import Derived.Lib.SlBytesConst
namespace Go.Proofs.Ytbehmclligkbhaa
open Go.RowKit
set_option linter.unusedVariables false

/-- A block that is laid, marked or not. -/
theorem row_new (w : World) (bs : List UInt8) (cs : List Value) (fr : Nat × Nat) (hc : cs = bs.map B8) : Row (w.alloc (.cells cs.toArray 5 fr)) (some ⟨w.heap.size, 0, none⟩) bs := by
  refine .inr ⟨_, _, rfl, fun j hj => ?_⟩
  subst hc
  unfold World.cell?
  rw [_root_.Go.heap_alloc_new]
  simp [B8, hj, List.getD]
section
variable {w : World} {bs : List UInt8} {cs : List Value} {n : Nat}
theorem Face.frameN (Fa : Face) (w : World) (hc : cs = bs.map B8) (hn : n = bs.length) (hl : n ≤ 65536) :
    Calls Try.prog 9 #[.slice (some ⟨w.heap.size, 0, none⟩) n n] (w.alloc (.cells cs.toArray 5)) fun r w' => ∃ v, r = .returned (.tuple #[v, .int .i64 0]) ∧ OwnX eB w.heap.size w' v (frameL bs) ∧ Below w.heap.size w w' := by
  have hb : Below w.heap.size w (w.alloc (.cells cs.toArray 5)) := (Below.refl _ w).alloc (Nat.le_refl _) _
  refine (Fa.frame (row_new w bs cs (0, 0) hc) hn (Nat.le_refl _) (fun q => by cases q) hl).mono ?_
  rintro r w' ⟨v, rfl, q1, q2⟩
  exact ⟨v, rfl, q1.less hb.size, hb.trans (q2.mono hb.size)⟩
theorem Face.checkN (Fa : Face) (w : World) (fr : Nat × Nat) (hc : cs = bs.map B8) (hn : n = bs.length) (hl : n ≤ 65536) (v : Nat) (hv : crc bs = v) :
    Calls Try.prog 13 #[.slice (some ⟨w.heap.size, 0, none⟩) n n] (w.alloc (.cells cs.toArray 5 fr)) fun r w' => r = .returned (.int .u32 (v : Int)) ∧ Below w.heap.size w w' := by
  have hb : Below w.heap.size w (w.alloc (.cells cs.toArray 5 fr)) := (Below.refl _ w).alloc (Nat.le_refl _) _
  refine (Fa.check (row_new w bs cs fr hc) hn (by omega) (Nat.le_refl _)).mono ?_
  rintro r w' ⟨rfl, q2⟩
  exact ⟨by rw [hv], hb.trans (q2.mono hb.size)⟩
end
theorem sc7 : (scanL (frameL [7])).1 = [[7]] ∧ (scanL (frameL [7])).2.1 = 13 ∧ (scanL (frameL [7])).2.2 = 0 := by decide +kernel
theorem crc_nine : crc [49, 50, 51, 52, 53, 54, 55, 56, 57] = 3808858755 := by decide +kernel
theorem OwnX.rowB {base : Nat} {w : World} {v : Value} {bs : List UInt8} (h : OwnX eB base w v bs) : ∃ a c, v = .slice a bs.length c ∧ Row w a bs ∧ bs.length ≤ c ∧ (a = none → c = 0) := by
  obtain ⟨a, c, e, h1, _, h3, _, h5⟩ := h.row
  exact ⟨a, c, e, Ytbehmclligkbhaa.rowB.1 h5, h1, h3⟩
set_option maxRecDepth 100000 in
set_option maxHeartbeats 3200000 in
theorem awake_of (Fa : Face) (w : World) : Calls Try.prog 23 #[] w fun r w' => r = .returned (.bool true) ∧ Below w.heap.size w w' := by
  have hconv := fun (u : World) (C : Array Value) (n c : Nat) => Lib.run_convert_bytes_const u 22 5 C n c Try.underlying22 Try.underlying5
  have H1 := hidU (Fa.frameN (cs := [.int .u8 7]) (bs := [7]) (n := 1) w rfl rfl (by decide))
  go_enter Try.func23, Try.ntmps23
  go_wp2_with (go_at_call 9; refine H1.out.mono ?_; rintro _ w1 ⟨v1, rfl, ho1, hb1⟩; refine Hid.out ?_)
  refine hidU ?_
  obtain ⟨a1, c1, rfl, hr1, hc1, hz1⟩ := ho1.rowB
  rw [show (frameL [7]).length = 13 from rfl] at hc1 ⊢
  have HB1 := hidU hb1
  have H2 := hidU (Fa.oneYes (n := 13) (c := c1) (r := [7]) hr1 rfl hc1 hz1 (by decide) sc7.1 sc7.2.2)
  clear ho1 hb1 hr1 hc1 hz1 H1
  go_wp2_with (go_at_call 11; refine H2.out.mono ?_; rintro _ w2 ⟨a2, c2, rfl, hr2, hc2, hb2⟩; refine Hid.out ?_)
  refine hidU ?_
  have HB2 := hidU (HB1.out.trans (hb2.mono HB1.out.size))
  have HR2 := hidU hr2
  have H3 := hidU (Fa.checkN (cs := [.int .u8 49, .int .u8 50, .int .u8 51, .int .u8 52, .int .u8 53, .int .u8 54, .int .u8 55, .int .u8 56, .int .u8 57]) (bs := [49, 50, 51, 52, 53, 54, 55, 56, 57]) (n := 9) w2 (9, 10) rfl rfl (by decide) 3808858755 crc_nine)
  clear hr2 hb2 H2 HB1
  go_wp2_with (go_at_call 13; refine H3.out.mono ?_; rintro _ w3 ⟨rfl, hb3⟩; refine Hid.out ?_)
  refine hidU ?_
  have HB3 := hidU (HB2.out.trans (hb3.mono HB2.out.size))
  have hb4 : Below w3.heap.size w3 (w3.alloc (.cells #[.int .u8 7] 5)) := (Below.refl _ w3).alloc (Nat.le_refl _) _
  have H4 := hidU (same_len a2 (some ⟨w3.heap.size, 0, none⟩) 1 1 c2 1 [7] [7] (w3.alloc (.cells #[.int .u8 7] 5)) ((HR2.out.below (hb3)).below hb4) (row_new w3 [7] [.int .u8 7] (0, 0) rfl) rfl rfl)
  rw [show (([7] : List UInt8) == [7]) = true from rfl] at H4
  have HB4 := hidU (HB3.out.trans (hb4.mono HB3.out.size))
  clear hb3 hb4 H3 HB2
  go_wp2_with (go_at_call 17; refine H4.out.mono ?_; rintro _ w5 ⟨rfl, hw5⟩; subst hw5; refine Hid.out ?_)
  refine hidU ?_
  clear H4
  go_wp2
  go_ret
  exact ⟨rfl, HB4.out⟩
end Go.Proofs.Ytbehmclligkbhaa
