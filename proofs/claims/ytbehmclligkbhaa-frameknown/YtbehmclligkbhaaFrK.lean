/- FrameKnown, given what the program's frames tell. -/
import Derived.Test.YtbehmclligkbhaaFrJ
import Derived.Laws.MakeOwn
namespace Go.Proofs.Ytbehmclligkbhaa
open Go.RowKit
set_option linter.unusedVariables false

section
variable {w : World} {bs : List UInt8} {cs : List Value} {n : Nat}
theorem Face.scanN (Fa : Face) (w : World) (hc : cs = bs.map B8) (hn : n = bs.length) (hl : n ≤ 65536) (l : List (List UInt8)) (s e : Nat) (hv : scanL bs = (l, s, e)) :
    Calls Try.prog 10 #[.slice (some ⟨w.heap.size, 0, none⟩) n n] (w.alloc (.cells cs.toArray 5)) fun r w' => ∃ a2 c2 xs, r = .returned (.tuple #[.slice a2 xs.length c2, .int .i64 (s : Int), .int .i64 (e : Int)]) ∧ LB w' a2 xs ∧ bss xs = l ∧ xs.length ≤ c2 ∧ Below w.heap.size w w' := by
  have hb : Below w.heap.size w (w.alloc (.cells cs.toArray 5)) := (Below.refl _ w).alloc (Nat.le_refl _) _
  have := Fa.scan (row_new w bs cs (0, 0) hc) hn (Nat.le_refl _) (fun q => by cases q) (by omega)
  rw [hv] at this
  refine this.mono ?_
  rintro r w' ⟨a2, c2, xs, q1, q2, q3, q4, q5⟩
  exact ⟨a2, c2, xs, q1, q2, q3, q4, hb.trans (q5.mono hb.size)⟩
theorem sameN (w : World) (a : Option Addr) (c : Nat) (hr : Row w a bs) (hc : cs = bs.map B8) (hn : n = bs.length) :
    Calls Try.prog 17 #[.slice a n c, .slice (some ⟨w.heap.size, 0, none⟩) n n] (w.alloc (.cells cs.toArray 5)) fun r w' => r = .returned (.bool true) ∧ Below w.heap.size w w' := by
  have hb : Below w.heap.size w (w.alloc (.cells cs.toArray 5)) := (Below.refl _ w).alloc (Nat.le_refl _) _
  refine (same_len a (some ⟨w.heap.size, 0, none⟩) n n c n bs bs _ (hr.below hb) (row_new w bs cs (0, 0) hc) hn.symm hn.symm).mono ?_
  rintro r w' ⟨rfl, rfl⟩
  exact ⟨by rw [show (bs == bs) = true from beq_self_eq_true _], hb⟩
end
theorem wpList_makeL {ops : Array Oper} {rest : List Oper} {o : Oper} {a : Act} {w : World} {Q : Exit → Act → World → Prop} (hgd : o.guard = none) (l c : Operand) (ho : o.op = .makeSlice 22 l c)
    (n : Nat) (hl : a.eval l = .int .i64 (n : Int)) (hc : a.eval c = .int .i64 (n : Int)) (hb : n ≤ 1048576)
    (h : ∀ w', Below w.heap.size w w' → ∀ g, wpList Try.prog ops Q rest (a.put o.dst (.slice (some ⟨g, 0, none⟩) n n)) w') : wpList Try.prog ops Q (o :: rest) a w := by
  refine wpList_plain hgd fun K hK => ?_
  have hinfo : (Try.prog.info? 5).map (fun i => (i.zero, i.size, i.bytes)) = some (some (.int .u8 0), 1, 1) := by kernel_rfl
  obtain ⟨i, hi, hzz⟩ := Option.map_eq_some_iff.1 hinfo
  simp only [Prod.mk.injEq] at hzz
  obtain ⟨hz, hs, hbb⟩ := hzz
  have hb' : (i.bytes : Int) * (n : Int) ≤ 281474976710656 := by rw [hbb]; omega
  have hr := run_make (P := Try.prog) w 22 5 i (.int .u8 0) Try.underlying22 hi hz .i64 .i64 n n (by omega) (Int.le_refl _) hb' (by omega)
  unfold Oper.wp
  simp [execOp, ho, hl, hc, hr, Result.andThen]
  exact hK _ _ (h _ ((Below.refl _ w).alloc (Nat.le_refl _) _) _)
theorem fk_nine : (frameL [7]).take 9 = [0, 0, 0, 1, 255, 255, 255, 254, 7] := by decide +kernel
theorem fk_two : scanL (frameL [7] ++ [0, 0]) = ([[7]], 13, 1) := by decide +kernel
theorem fk_one : (scanL (frameL [7] ++ [0])).2.2 ≠ 0 := by decide +kernel
theorem fk_bad : scanL [0, 0, 0, 1, 255, 255, 255, 255] = ([], 0, 2) := by decide +kernel
theorem fk_nil : scanL [] = ([], 0, 0) := rfl
theorem bss_one {ys : List BT} (h : bss ys = [[7]]) : ∃ t, ys = [t] ∧ t.bs = [7] := by
  match ys, h with
  | [t], h => exact ⟨t, rfl, by simpa [bss] using h⟩
  | [], h => simp [bss] at h
  | _ :: _ :: _, h => simp [bss] at h
theorem bss_none {ys : List BT} (h : bss ys = []) : ys = [] := by simpa [bss] using h
set_option maxRecDepth 100000 in
set_option maxHeartbeats 12800000 in
theorem known_of (Fa : Face) (w : World) : Calls Try.prog 7 #[] w fun r w' => r = .returned (.bool true) ∧ Below w.heap.size w w' := by
  have H1 := hidU (Fa.frameN (cs := [.int .u8 7]) (bs := [7]) (n := 1) w rfl rfl (by decide))
  go_enter Try.func7, Try.ntmps7
  go_wp2_with (go_at_call 9; refine H1.out.mono ?_; rintro _ w1 ⟨v1, rfl, ho1, hb1⟩; refine Hid.out ?_)
  refine hidU ?_
  obtain ⟨a1, c1, rfl, hr1, hc1, hz1⟩ := ho1.rowB
  rw [show (frameL [7]).length = 13 from rfl] at hc1 ⊢
  have HB1 := hidU hb1
  have HR1 := hidU hr1
  have H2 := hidU (awake_of Fa w1)
  clear ho1 hb1 hr1 H1
  go_wp2_with (go_at_call 23; refine H2.out.mono ?_; rintro _ w2 ⟨rfl, hb2⟩; refine Hid.out ?_)
  refine hidU ?_
  have HB2 := hidU (HB1.out.trans (hb2.mono HB1.out.size))
  have HR2 := hidU (HR1.out.below hb2)
  have hs9 := fun w => run_slice_to w a1 13 c1 9 9 rfl (by omega)
  have H3 := hidU (sameN (n := 9) (cs := [.int .u8 0, .int .u8 0, .int .u8 0, .int .u8 1, .int .u8 255, .int .u8 255, .int .u8 255, .int .u8 254, .int .u8 7]) (bs := [0, 0, 0, 1, 255, 255, 255, 254, 7]) w2 a1 c1 (by rw [← fk_nine]; exact Row.take HR2.out 9) rfl rfl)
  clear hb2 H2 HB1 HR1
  go_wp2_with (go_at_call 17; refine H3.out.mono ?_; rintro _ w3 ⟨rfl, hb3⟩; refine Hid.out ?_)
  refine hidU ?_
  have HB3 := hidU (HB2.out.trans (hb3.mono HB2.out.size))
  have HR3 := hidU (HR2.out.below hb3)
  have H4 := hidU (copy_any a1 13 c1 (frameL [7]) w3 HR3.out rfl hc1 hz1 (by decide))
  clear hb3 H3 HB2 HR2 hs9
  go_wp2_with (go_at_call 26; refine H4.out.mono ?_; rintro _ w4 ⟨v4, rfl, ho4, hb4⟩; refine Hid.out ?_)
  refine hidU ?_
  have HB4 := hidU (HB3.out.trans (hb4.mono HB3.out.size))
  have HR4 := hidU (HR3.out.below hb4)
  have HBa : Hid (Below w4.heap.size w4 (w4.alloc (.cells #[.int .u8 0, .int .u8 0] 5))) := (Below.refl _ w4).alloc (Nat.le_refl _) _
  have HO4 := hidU (ho4.below HBa.out)
  have HR4a := hidU (HR4.out.below HBa.out)
  have HB34 := hidU hb4.size
  have HB3w := hidU hb4
  have HB3x := HB3
  have HR3x := HR3
  clear ho4 hb4 H4 HB3 HR3
  go_wp2_with (refine wpList_appX eB rfl (.tmp 38) (.tmp 39) rfl w3.heap.size _ (some ⟨w4.heap.size, 0, none⟩) 2 2 rfl rfl HO4.out rfl (fun q => by cases q) (Nat.le_refl _) (rowB.2 (row_new w4 [0, 0] [.int .u8 0, .int .u8 0] (0, 0) rfl)) (by show 13 + 2 ≤ maxLen; decide) (by decide) (Nat.le_trans HB34.out HBa.out.size) ?_; intro v5 w5 ho5 hg5; refine Hid.out ?_)
  refine hidU ?_
  have HO5 := hidU ho5
  have HB5 : Hid (Below w3.heap.size w3 w5) := ((HB3w.out.trans (HBa.out.mono HB3w.out.size))).grown hg5 (Nat.le_trans HB34.out HBa.out.size) fun k hk => (HO4.out.block k hk).1
  have HBw5 := hidU (HB3x.out.trans (HB5.out.mono HB3x.out.size))
  have HR5 := hidU (HR3x.out.below HB5.out)
  clear ho5 hg5 HO4 HBa HR4a HB4 HR4
  obtain ⟨a5, c5, rfl, hr5, hc5, hz5⟩ := HO5.out.rowB
  rw [show (frameL [7] ++ ([0, 0] : List UInt8)).length = 15 from rfl] at hc5 ⊢
  have H6 := hidU (Fa.scan hr5 (n := 15) rfl hc5 hz5 (by decide))
  rw [fk_two] at H6
  clear hr5 HO5 hc5 hz5
  go_wp2_with (go_at_call 10; refine H6.out.mono ?_; rintro _ w6 ⟨a6, c6, ys6, rfl, hly6, hys6, hyc6, hb6⟩; refine Hid.out ?_)
  refine hidU ?_
  obtain ⟨t6, rfl, ht6⟩ := bss_one hys6
  have HB6 := hidU (HBw5.out.trans (hb6.mono HBw5.out.size))
  have HR6 := hidU (HR5.out.below hb6)
  have HL6 := hidU hly6
  rw [show ([t6] : List BT).length = 1 from rfl] at hyc6 ⊢
  have H7 := hidU (Fa.scanN (n := 8) (cs := [.int .u8 0, .int .u8 0, .int .u8 0, .int .u8 1, .int .u8 255, .int .u8 255, .int .u8 255, .int .u8 255]) (bs := [0, 0, 0, 1, 255, 255, 255, 255]) w6 rfl rfl (by decide) [] 0 2 fk_bad)
  clear hb6 hly6 hys6 H6 HB5 HBw5 HR5
  go_wp2_with (go_at_call 10; refine H7.out.mono ?_; rintro _ w7 ⟨a7, c7, ys7, rfl, _, hys7, _, hb7⟩; refine Hid.out ?_)
  refine hidU ?_
  obtain rfl := bss_none hys7
  have HB7 := hidU (HB6.out.trans (hb7.mono HB6.out.size))
  have HR7 := hidU (HR6.out.below hb7)
  have HL7 := hidU (HL6.out.below hb7)
  have H8 := hidU (Fa.scan (a := none) (n := 0) (c := 0) (bs := []) (w := w7) (.inl rfl) rfl (Nat.le_refl _) (fun _ => rfl) (by decide))
  rw [fk_nil] at H8
  clear hb7 hys7 H7 HB6 HR6 HL6
  go_wp2_with (go_at_call 10; refine H8.out.mono ?_; rintro _ w8 ⟨a8, c8, ys8, rfl, _, hys8, _, hb8⟩; refine Hid.out ?_)
  refine hidU ?_
  obtain rfl := bss_none hys8
  have HB8 := hidU (HB7.out.trans (hb8.mono HB7.out.size))
  have HR8 := hidU (HR7.out.below hb8)
  have HL8 := hidU (HL7.out.below hb8)
  have H9 := hidU (copy_any a1 13 c1 (frameL [7]) w8 HR8.out rfl hc1 hz1 (by decide))
  clear hb8 hys8 H8 HB7 HR7 HL7
  go_wp2_with (go_at_call 26; refine H9.out.mono ?_; rintro _ w9 ⟨v9, rfl, ho9, hb9⟩; refine Hid.out ?_)
  refine hidU ?_
  have HB9 := hidU (HB8.out.trans (hb9.mono HB8.out.size))
  have HL9 := hidU (HL8.out.below hb9)
  have HB89 := hidU hb9
  have HBb : Hid (Below w9.heap.size w9 (w9.alloc (.cells #[.int .u8 0] 5))) := (Below.refl _ w9).alloc (Nat.le_refl _) _
  have HO9 := hidU (ho9.below HBb.out)
  have hsz := Nat.le_trans hb9.size HBb.out.size
  clear ho9 hb9 H9 HR8
  go_wp2_with (refine wpList_appX eB rfl (.tmp 58) (.tmp 59) rfl w8.heap.size _ (some ⟨w9.heap.size, 0, none⟩) 1 1 rfl rfl HO9.out rfl (fun q => by cases q) (Nat.le_refl _) (rowB.2 (row_new w9 [0] [.int .u8 0] (0, 0) rfl)) (by show 13 + 1 ≤ maxLen; decide) (by decide) hsz ?_; intro v10 w10 ho10 hg10; refine Hid.out ?_)
  refine hidU ?_
  have HB10 : Hid (Below w8.heap.size w8 w10) := (HB89.out.trans (HBb.out.mono HB89.out.size)).grown hg10 hsz fun k hk => (HO9.out.block k hk).1
  have HBw10 := hidU (HB8.out.trans (HB10.out.mono HB8.out.size))
  have HL10 := hidU (HL8.out.below HB10.out)
  obtain ⟨a10, c10, rfl, hr10, hc10, hz10⟩ := ho10.rowB
  rw [show (frameL [7] ++ ([0] : List UInt8)).length = 14 from rfl] at hc10 ⊢
  have H11 := hidU (Fa.oneNo hr10 (n := 14) rfl hc10 hz10 (by decide) (.inr fk_one))
  clear ho10 hg10 HO9 HBb HB89 HB9 HL9 hsz HL8 HB8 hr10 hc10 hz10
  go_wp2_with (go_at_call 11; refine H11.out.mono ?_; rintro _ w11 ⟨rfl, hb11⟩; refine Hid.out ?_)
  refine hidU ?_
  have HB11 := hidU (HBw10.out.trans (hb11.mono HBw10.out.size))
  have HL11 := hidU (HL10.out.below hb11)
  clear hb11 H11 HBw10 HL10 HB10
  go_wp2_with (refine wpList_makeL rfl (.const (.int .i64 65537)) (.const (.int .i64 65537)) rfl 65537 rfl rfl (by decide) ?_; intro w12 hb12 g12; refine Hid.out ?_)
  refine hidU ?_
  have HB12 := hidU (HB11.out.trans (hb12.mono HB11.out.size))
  have HL12 := hidU (HL11.out.below hb12)
  have H13 := hidU (Fa.long (a := some ⟨g12, 0, none⟩) (n := 65537) (c := 65537) (w := w12) (by decide) (Nat.le_refl _))
  clear hb12 HB11 HL11
  go_wp2_with (go_at_call 9; refine H13.out.mono ?_; rintro _ w13 ⟨rfl, hb13⟩; refine Hid.out ?_)
  refine hidU ?_
  have HB13 := hidU (HB12.out.trans (hb13.mono HB12.out.size))
  have HL13 := hidU (HL12.out.below hb13)
  have HSz : Hid (∀ (z v : Int) (x : World), sizeZ z = v → Calls Try.prog 15 #[.int .i64 z] x fun r w' => r = .returned (.int .i64 v) ∧ Below x.heap.size x w') := fun z v x h => by rw [← h]; exact Fa.size
  clear hb13 H13 HB12 HL12
  have H14 := hidU (HSz.out 1 13 w13 rfl)
  go_wp2_with (go_at_call 15; refine H14.out.mono ?_; rintro _ w14 ⟨rfl, hb14⟩; refine Hid.out ?_)
  refine hidU ?_
  have HB14 := hidU (HB13.out.trans (hb14.mono HB13.out.size))
  have HL14 := hidU (HL13.out.below hb14)
  have H15 := hidU (HSz.out 65536 65548 w14 rfl)
  clear hb14 H14 HB13 HL13
  go_wp2_with (go_at_call 15; refine H15.out.mono ?_; rintro _ w15 ⟨rfl, hb15⟩; refine Hid.out ?_)
  refine hidU ?_
  have HB15 := hidU (HB14.out.trans (hb15.mono HB14.out.size))
  have HL15 := hidU (HL14.out.below hb15)
  have H16 := hidU (HSz.out 65537 0 w15 rfl)
  clear hb15 H15 HB14 HL14
  go_wp2_with (go_at_call 15; refine H16.out.mono ?_; rintro _ w16 ⟨rfl, hb16⟩; refine Hid.out ?_)
  refine hidU ?_
  have HB16 := hidU (HB15.out.trans (hb16.mono HB15.out.size))
  have HL16 := hidU (HL15.out.below hb16)
  have H17 := hidU (HSz.out (-1) 0 w16 rfl)
  clear hb16 H16 HB15 HL15
  go_wp2_with (go_at_call 15; refine H17.out.mono ?_; rintro _ w17 ⟨rfl, hb17⟩; refine Hid.out ?_)
  refine hidU ?_
  have HB17 := hidU (HB16.out.trans (hb17.mono HB16.out.size))
  have HL17 := hidU (HL16.out.below hb17)
  have H18 := hidU (Fa.check (a := none) (n := 0) (c := 0) (bs := []) (w := w17) (.inl rfl) rfl (by decide) (Nat.le_refl _))
  rw [show (crc [] : Nat) = 0 from by decide +kernel] at H18
  clear hb17 H17 HB16 HL16 HSz
  go_wp2_with (go_at_call 13; refine H18.out.mono ?_; rintro _ w18 ⟨rfl, hb18⟩; refine Hid.out ?_)
  refine hidU ?_
  have HB18 := hidU (HB17.out.trans (hb18.mono HB17.out.size))
  have HL18 := hidU (HL17.out.below hb18)
  obtain ⟨g6, o6, rfl, cl6, it6⟩ := HL18.out.at (i := 0) (t := t6) rfl
  rw [ht6] at cl6
  rw [Nat.add_zero] at cl6
  have hrow6 := it6.1
  rw [ht6] at hrow6
  have H19 := hidU (sameN (n := 1) (cs := [.int .u8 7]) (bs := [7]) w18 t6.ad t6.cp hrow6 rfl rfl)
  have cl7 : (w18.alloc (.cells #[.int .u8 7] 5)).cell? ⟨g6, o6, none⟩ = some (.slice t6.ad 1 t6.cp) := (((Below.refl w18.heap.size w18).alloc (Nat.le_refl _) _).cell (lt_of_cell cl6)).trans cl6
  clear hb18 H18 HB17 HL17 it6 hrow6
  go_wp2_with (go_at_call 17; refine H19.out.mono ?_; rintro _ w19 ⟨rfl, hb19⟩; refine Hid.out ?_)
  refine hidU ?_
  have HB19 := hidU (HB18.out.trans (hb19.mono HB18.out.size))
  clear hb19 H19 HB18 HL18 cl6 cl7
  go_wp2
  go_ret
  exact ⟨rfl, HB19.out⟩
end Go.Proofs.Ytbehmclligkbhaa
