/- ClockKnown: the chapter's examples are answered as it says. -/
import Derived.Test.YtjedkfohmedmaaaCkO
namespace Go.Proofs.Ytjedkfohmedmaaa
open Go.RowKit
set_option linter.unusedVariables false
attribute [local go_sem ↓] Go.wp_at_zero Go.wp_at_succ

/-- The example, its clocks. -/
def ExT (w : World) (G E : Nat) : Prop := Tr w (some ⟨G, 0, none⟩) (some ⟨E, 0, none⟩) exEs 2
theorem ExT.below {w w' : World} {G E : Nat} (h : ExT w G E) (hb : Below w.heap.size w w') : ExT w' G E := Tr.below h hb
def ExE (w : World) (E : Nat) : Prop := RowEv w (some ⟨E, 0, none⟩) exEs
theorem ex8 (w : World) (E : Nat) (hE : ExE w E) : Calls Try.prog 8 #[.slice (some ⟨E, 0, none⟩) 5 5, .int .i64 2] w fun r w' => ∃ G, r = .returned (.tuple #[.slice (some ⟨G, 0, none⟩) 5 5, .int .i64 0]) ∧ ExT w' G E ∧ Below w.heap.size w w' :=
  (clocks_ok (some ⟨E, 0, none⟩) 5 2 exEs w hE ex_ok (by decide) ex_wrong2).mono fun r w' ⟨G, M, h1, h2, h3⟩ => ⟨G, h1, ⟨h2.row (by omega), RowEv.below hE h3, by decide, by decide, by decide, ex_ok, ex_th⟩, h3⟩
theorem ex8b (w : World) (E : Nat) (hE : ExE w E) : Calls Try.prog 8 #[.slice (some ⟨E, 0, none⟩) 5 5, .int .i64 1] w fun r w' => r = .returned (.tuple #[.slice none 0 0, .int .i64 2]) ∧ Below w.heap.size w w' :=
  (clocks_bad (some ⟨E, 0, none⟩) 5 1 exEs w hE (by decide) (by decide) (by decide)).mono fun r w' ⟨h1, h3⟩ => ⟨h1, h3⟩
theorem ex10 (w : World) (G E : Nat) (hT : ExT w G E) : Calls Try.prog 10 #[.slice (some ⟨E, 0, none⟩) 5 5, .int .i64 2, .int .i64 4] w fun r w' => ∃ a c, r = .returned (.tuple #[.slice a 4 c, .int .i64 0]) ∧ 4 ≤ c ∧ RowI w' a [0, 1, 2, 3] ∧ Below w.heap.size w w' :=
  (past_ok (some ⟨E, 0, none⟩) 5 2 4 exEs w hT.evs ex_ok (by decide) ex_wrong2 (by decide)).mono fun r w' ⟨v, h1, h2, h3⟩ => by
    rw [ex_past] at h2
    obtain ⟨a, c, rfl, h5, h6⟩ := h2.row
    exact ⟨a, c, h1, h5, h6, h3⟩
theorem ex23_01 (w : World) (G E : Nat) (hT : ExT w G E) : Calls Try.prog 23 #[.slice (some ⟨G, 0, none⟩) 5 5, .slice (some ⟨E, 0, none⟩) 5 5, .int .i64 0, .int .i64 1] w fun r w' => r = .returned (.bool true) ∧ Below w.heap.size w w' :=
  (aheadL_ok exEs 2 0 1 _ _ 5 5 w hT (by decide) (by decide) (by decide) (by decide)).mono fun r w' ⟨h1, h3⟩ => ⟨by rw [h1, ex_01], h3⟩
theorem ex23_23 (w : World) (G E : Nat) (hT : ExT w G E) : Calls Try.prog 23 #[.slice (some ⟨G, 0, none⟩) 5 5, .slice (some ⟨E, 0, none⟩) 5 5, .int .i64 2, .int .i64 3] w fun r w' => r = .returned (.bool false) ∧ Below w.heap.size w w' :=
  (aheadL_ok exEs 2 2 3 _ _ 5 5 w hT (by decide) (by decide) (by decide) (by decide)).mono fun r w' ⟨h1, h3⟩ => ⟨by rw [h1, ex_23], h3⟩
theorem ex23_34 (w : World) (G E : Nat) (hT : ExT w G E) : Calls Try.prog 23 #[.slice (some ⟨G, 0, none⟩) 5 5, .slice (some ⟨E, 0, none⟩) 5 5, .int .i64 3, .int .i64 4] w fun r w' => r = .returned (.bool true) ∧ Below w.heap.size w w' :=
  (aheadL_ok exEs 2 3 4 _ _ 5 5 w hT (by decide) (by decide) (by decide) (by decide)).mono fun r w' ⟨h1, h3⟩ => ⟨by rw [h1, ex_34], h3⟩
theorem ex23_10 (w : World) (G E : Nat) (hT : ExT w G E) : Calls Try.prog 23 #[.slice (some ⟨G, 0, none⟩) 5 5, .slice (some ⟨E, 0, none⟩) 5 5, .int .i64 1, .int .i64 0] w fun r w' => r = .returned (.bool false) ∧ Below w.heap.size w w' :=
  (aheadL_ok exEs 2 1 0 _ _ 5 5 w hT (by decide) (by decide) (by decide) (by decide)).mono fun r w' ⟨h1, h3⟩ => ⟨by rw [h1, ex_10], h3⟩
theorem ex17 (w : World) (a : Option Addr) (c g : Nat) (hr : RowI w a [0, 1, 2, 3]) (hc : 4 ≤ c) (hs : RowI w (some ⟨g, 0, none⟩) [0, 1, 2, 3]) : Calls Try.prog 17 #[.slice a 4 c, .slice (some ⟨g, 0, none⟩) 4 4] w fun r w' => r = .returned (.bool true) ∧ Below w.heap.size w w' :=
  (sameInts_any [0, 1, 2, 3] [0, 1, 2, 3] a (some ⟨g, 0, none⟩) c 4 w hr hs (by decide) (by decide) hc (by decide)).mono fun r w' ⟨h1, h3⟩ => ⟨h1, h3⟩
theorem row_new4 (w : World) : RowI (w.alloc (.cells #[.int .i64 0, .int .i64 1, .int .i64 2, .int .i64 3] 3)) (some ⟨w.heap.size, 0, none⟩) [0, 1, 2, 3] := by
  have : BlkI (w.alloc (.cells #[.int .i64 0, .int .i64 1, .int .i64 2, .int .i64 3] 3)) w.heap.size ([0, 1, 2, 3].map I64) := heap_new _ _
  exact this.row_all

set_option maxRecDepth 100000 in
set_option maxHeartbeats 3200000 in
theorem known_ok (w : World) : Calls Try.prog 4 #[] w fun r w' => r = .returned (.bool true) ∧ Below w.heap.size w w' := by
  have HX := example_ok w
  obtain ⟨E, hE⟩ : ∃ E, Hid (E = w.heap.size) := ⟨_, (rfl : _ = w.heap.size)⟩
  rw [← hE.out] at HX
  go_enter Try.func4, Try.ntmps4
  go_wp2_with (first | (go_at_call 22; refine HX.mono ?_; rintro _ w1 ⟨rfl, hE1, hb1⟩; refine Hid.out ?_))
  refine hidU ?_
  have HB1 : Hid (Below E w w1) := hb1
  have HE1 : Hid (ExE w1 E) := hE1
  clear hE1 hb1 HX
  go_wp2_with (first | (go_at_call 8; refine (ex8 w1 E HE1.out).mono ?_; rintro _ w2 ⟨G, rfl, hT2, hb2⟩; refine Hid.out ?_))
  refine hidU ?_
  have hs1 : E ≤ w1.heap.size := by rw [hE.out]; exact HB1.out.size
  have HB2 : Hid (Below E w w2) := HB1.out.trans (hb2.mono hs1)
  have HE2 : Hid (E ≤ w2.heap.size) := show E ≤ w2.heap.size from Nat.le_trans hs1 hb2.size
  have HT2 : Hid (ExT w2 G E) := hT2
  clear hT2 hb2 HE1 HB1 hs1
  go_wp2_with (first | (go_at_call 10; refine (ex10 w2 G E HT2.out).mono ?_; rintro _ w3 ⟨a3, c3, rfl, hc3, hr3, hb3⟩; refine Hid.out ?_))
  refine hidU ?_
  have HR3 : Hid (RowI w3 a3 [0, 1, 2, 3]) := hr3
  have HB3 : Hid (Below w2.heap.size w2 w3) := hb3
  have HT3 : Hid (ExT w3 G E) := HT2.out.below hb3
  clear hr3 hb3 HT2
  go_wp2_with (first | (go_at_call 8; refine (ex8b w3 E HT3.out.evs).mono ?_; rintro _ w4 ⟨rfl, hb4⟩; refine Hid.out ?_))
  refine hidU ?_
  have HB4 : Hid (Below w2.heap.size w2 w4) := HB3.out.trans (hb4.mono HB3.out.size)
  have HR4 : Hid (RowI w4 a3 [0, 1, 2, 3]) := HR3.out.below hb4
  have HT4 : Hid (ExT w4 G E) := HT3.out.below hb4
  clear hb4 HB3 HR3 HT3
  go_wp2_with (first | (go_at_call 21; refine (awake_ok w4).mono ?_; rintro _ w5 ⟨rfl, hb5⟩; refine Hid.out ?_))
  refine hidU ?_
  have HB5 : Hid (Below w2.heap.size w2 w5) := HB4.out.trans (hb5.mono HB4.out.size)
  have HR5 : Hid (RowI w5 a3 [0, 1, 2, 3]) := HR4.out.below hb5
  have HT5 : Hid (ExT w5 G E) := HT4.out.below hb5
  clear hb5 HB4 HR4 HT4
  go_wp2_with (first | (go_at_call 23; refine (ex23_01 w5 G E HT5.out).mono ?_; rintro _ w6 ⟨rfl, hb6⟩; refine Hid.out ?_))
  refine hidU ?_
  have HB6 : Hid (Below w2.heap.size w2 w6) := HB5.out.trans (hb6.mono HB5.out.size)
  have HR6 : Hid (RowI w6 a3 [0, 1, 2, 3]) := HR5.out.below hb6
  have HT6 : Hid (ExT w6 G E) := HT5.out.below hb6
  clear hb6 HB5 HR5 HT5
  go_wp2_with (first | (go_at_call 23; refine (ex23_23 w6 G E HT6.out).mono ?_; rintro _ w7 ⟨rfl, hb7⟩; refine Hid.out ?_))
  refine hidU ?_
  have HB7 : Hid (Below w2.heap.size w2 w7) := HB6.out.trans (hb7.mono HB6.out.size)
  have HR7 : Hid (RowI w7 a3 [0, 1, 2, 3]) := HR6.out.below hb7
  have HT7 : Hid (ExT w7 G E) := HT6.out.below hb7
  clear hb7 HB6 HR6 HT6
  go_wp2_with (first | (go_at_call 23; refine (ex23_34 w7 G E HT7.out).mono ?_; rintro _ w8 ⟨rfl, hb8⟩; refine Hid.out ?_))
  refine hidU ?_
  have HB8 : Hid (Below w2.heap.size w2 w8) := HB7.out.trans (hb8.mono HB7.out.size)
  have HR8 : Hid (RowI w8 a3 [0, 1, 2, 3]) := HR7.out.below hb8
  have HT8 : Hid (ExT w8 G E) := HT7.out.below hb8
  clear hb8 HB7 HR7 HT7
  go_wp2_with (first | (go_at_call 23; refine (ex23_10 w8 G E HT8.out).mono ?_; rintro _ w9 ⟨rfl, hb9⟩; refine Hid.out ?_))
  refine hidU ?_
  have HB9 : Hid (Below w2.heap.size w2 w9) := HB8.out.trans (hb9.mono HB8.out.size)
  have HR9 : Hid (RowI w9 a3 [0, 1, 2, 3]) := HR8.out.below hb9
  have HT9 : Hid (ExT w9 G E) := HT8.out.below hb9
  clear hb9 HB8 HR8 HT8
  have hb10 : Below w9.heap.size w9 (w9.alloc (.cells #[.int .i64 0, .int .i64 1, .int .i64 2, .int .i64 3] 3)) := (Below.refl _ w9).alloc (Nat.le_refl _) _
  have HC : Hid (Calls Try.prog 17 #[.slice a3 4 c3, .slice (some ⟨w9.heap.size, 0, none⟩) 4 4] (w9.alloc (.cells #[.int .i64 0, .int .i64 1, .int .i64 2, .int .i64 3] 3)) fun r w' => r = .returned (.bool true) ∧ Below w2.heap.size w2 w') := (ex17 _ a3 c3 w9.heap.size (HR9.out.below hb10) hc3 (row_new4 w9)).mono fun r w' ⟨h1, h2⟩ => ⟨h1, (HB9.out.trans (hb10.mono HB9.out.size)).trans (h2.mono (Nat.le_trans HB9.out.size hb10.size))⟩
  clear hb10
  go_wp2_with (first | (go_at_call 17; refine HC.out.mono ?_; rintro _ w11 ⟨rfl, hb11⟩))
  go_ret
  refine ⟨rfl, ?_⟩
  have := HB2.out.trans (hb11.mono HE2.out)
  rwa [hE.out] at this
end Go.Proofs.Ytjedkfohmedmaaa
