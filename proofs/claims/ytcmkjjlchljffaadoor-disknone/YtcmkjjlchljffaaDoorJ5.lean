/- Joined texts of the proof. -/
import Derived.Test.YtcmkjjlchljffaaDoorJ4
import Derived.Test.YtcmkjjlchljffaaDoorJ3

/- The landed disk: a write is done, if there is power. -/
namespace Go.Proofs.YtcmkjjlchljffaaDoor
open Go.RowKit
set_option linter.unusedVariables false
set_option maxRecDepth 100000
set_option maxHeartbeats 6400000

/-- A write was done. -/
structure Dn (B : Nat) (w w' : World) (g mb : Nat) (m m' : FMap) (sz : Nat) (lf : Int) (wr : Nat) : Prop where
  ds : Ds B w' g mb m' sz lf wr
  chg : Chg (FW g mb m) w w'
  new : ∀ k, FW g mb m' k → FW g mb m k ∨ w.heap.size ≤ k
theorem Wrt.dn {B g mb sz wr wr' : Nat} {lf lf' : Int} {w w' w2 : World} {m m' : FMap} (h : Ds B w g mb m sz lf wr) (k : Wrt B w w' mb m m') (hb : But g w' w2) (hA : At 35 w2 g [.pointer (some ⟨g, 0, none⟩), .int .i64 (sz : Int), .map (some mb), .int .i64 lf', .int .i64 (wr' : Int)]) : Dn B w w2 g mb m m' sz lf' wr' :=
  ⟨k.ds h hb hA, (k.chg.mono fun i _ e => .inr e).trans (Chg.of_but hb (.inl rfl)), fun i hi => by
    rcases hi with e | e | ⟨p, hp, e⟩
    · exact .inl (.inl e)
    · exact .inl (.inr (.inl e))
    · exact (k.new p hp i e).imp (fun q => .inr (.inr q)) id⟩
/-- How much power is left behind a write. -/
def lfD (lf : Int) : Int := if 0 < lf then lf - 1 else lf
theorem write_37 (B g mb : Nat) (w0 w : World) (m : FMap) (sz wr : Nat) (lf : Int) (k1 k2 k3 : Nat) (P : FMap → Prop) (h : Ds B w0 g mb m sz lf wr) (hb0 : Below w0.heap.size w0 w) (hwr : wr ≤ 4611686018427387904) (hlf : -1 ≤ lf) (hlg : lf ≤ 9223372036854775807)
    (HC : Calls Tryd.prog 37 #[.pointer (some ⟨k1, 0, none⟩), .pointer (some ⟨k2, 0, none⟩), .pointer (some ⟨k3, 0, none⟩)] w fun r w' => r = .returned (.tuple #[]) ∧ ∃ m', P m' ∧ Wrt B w0 w' mb m m') :
    Calls Tryd.prog 36 #[.pointer (some ⟨g, 0, none⟩), .func (.func 37) #[] #[.pointer (some ⟨k1, 0, none⟩), .pointer (some ⟨k2, 0, none⟩), .pointer (some ⟨k3, 0, none⟩)]] w fun r w' => (lf = 0 ∧ r = .returned (.int .i64 13) ∧ w' = w) ∨ (lf ≠ 0 ∧ r = .returned (.int .i64 0) ∧ ∃ m', P m' ∧ Dn B w0 w' g mb m m' sz (lfD lf) (wr + 1)) := by
  have HS := hidU (stopped_p (h.below hb0))
  have H := hidU h
  have HC := hidU HC
  clear h hb0
  by_cases hl : lf = 0
  · subst hl
    go_enter Tryd.func36, Tryd.ntmps36
    go_wp2_with (go_at_call 24; refine HS.out.mono ?_; rintro _ w1 ⟨rfl, hw⟩; obtain rfl : w = w1 := hw.symm; clear hw)
    go_ret
    exact .inl ⟨by first | rfl | trivial, rfl, rfl⟩
  · have HS2 : Hid (Calls Tryd.prog 24 #[.pointer (some ⟨g, 0, none⟩)] w fun r w' => r = .returned (.bool false) ∧ w' = w) := by
      refine hidU (HS.out.mono ?_)
      rintro r w' ⟨rfl, h⟩
      exact ⟨by rw [beq_eq_false_iff_ne.2 hl], h⟩
    clear HS
    obtain ⟨L, hL⟩ : ∃ L, Hid (L = lfD lf) := ⟨_, (rfl : _ = lfD lf)⟩
    rw [← hL.out]
    have hww : IntKind.i64.wrap ((wr : Int) + 1) = (wr : Int) + 1 := by rw [IntKind.wrap_i64]; omega
    go_enter Tryd.func36, Tryd.ntmps36
    go_wp2_with (first
      | (go_at_call 24; refine HS2.out.mono ?_; rintro _ w1 ⟨rfl, hw⟩; obtain rfl : w = w1 := hw.symm; clear hw)
      | (go_at_call 37; refine HC.out.mono ?_; rintro _ w1 ⟨rfl, m', hP, hW⟩; refine Hid.out ?_))
    refine hidU ?_
    have hA := hW.at_ H.out H.out.at_
    have HW := hidU hW
    clear hW HC HS2
    have q := hA.cell 4
    simp only [List.getElem?_cons_zero, List.getElem?_cons_succ] at q
    go_wp2_with (refine wpList_store1 rfl 3 (.tmp 15) (.tmp 13) rfl g 4 (.int .i64 ((wr : Int) + 1)) rfl rfl 35 _ hA (by simp) i3 rfl rfl ?_; intro w2 hA2 hb2 hs2; simp only [List.set] at hA2; refine Hid.out ?_)
    refine hidU ?_
    have HB2 := hidU hb2
    clear q hs2 hb2 hA
    have q := hA2.cell 3
    simp only [List.getElem?_cons_zero, List.getElem?_cons_succ] at q
    by_cases hm1 : lf = -1
    · subst hm1
      have hL2 : L = -1 := hL.out
      subst hL2
      go_wp2
      go_ret
      exact .inr ⟨hl, rfl, m', hP, HW.out.dn H.out HB2.out (by simpa using hA2)⟩
    · have hpos : 0 < lf := by omega
      have hwl : IntKind.i64.wrap (lf - 1) = lf - 1 := by rw [IntKind.wrap_i64]; omega
      have hL2 : L = lf - 1 := by rw [hL.out]; unfold lfD; rw [if_pos hpos]
      subst hL2
      have HN := hidU (show lf ≠ 0 from hl)
      clear hpos hlf hlg hL
      go_wp2_with (refine wpList_store1 rfl 3 (.tmp 27) (.tmp 25) rfl g 3 (.int .i64 (lf - 1)) rfl rfl 35 _ hA2 (by simp) i3 rfl rfl ?_; intro w3 hA3 hb3 hs3; simp only [List.set] at hA3; refine Hid.out ?_)
      refine hidU ?_
      have HB3 := hidU (HB2.out.trans hb3)
      clear q hs3 hb3 hA2
      go_wp2
      go_ret
      exact .inr ⟨HN.out, rfl, m', hP, HW.out.dn H.out HB3.out (by simpa using hA3)⟩
theorem write_52 (B g mb : Nat) (w0 w : World) (m : FMap) (sz wr : Nat) (lf : Int) (k1 k2 k3 k4 : Nat) (P : FMap → Prop) (h : Ds B w0 g mb m sz lf wr) (hb0 : Below w0.heap.size w0 w) (hwr : wr ≤ 4611686018427387904) (hlf : -1 ≤ lf) (hlg : lf ≤ 9223372036854775807)
    (HC : Calls Tryd.prog 52 #[.pointer (some ⟨k1, 0, none⟩), .pointer (some ⟨k2, 0, none⟩), .pointer (some ⟨k3, 0, none⟩), .pointer (some ⟨k4, 0, none⟩)] w fun r w' => r = .returned (.tuple #[]) ∧ ∃ m', P m' ∧ Wrt B w0 w' mb m m') :
    Calls Tryd.prog 36 #[.pointer (some ⟨g, 0, none⟩), .func (.func 52) #[] #[.pointer (some ⟨k1, 0, none⟩), .pointer (some ⟨k2, 0, none⟩), .pointer (some ⟨k3, 0, none⟩), .pointer (some ⟨k4, 0, none⟩)]] w fun r w' => (lf = 0 ∧ r = .returned (.int .i64 13) ∧ w' = w) ∨ (lf ≠ 0 ∧ r = .returned (.int .i64 0) ∧ ∃ m', P m' ∧ Dn B w0 w' g mb m m' sz (lfD lf) (wr + 1)) := by
  have HS := hidU (stopped_p (h.below hb0))
  have H := hidU h
  have HC := hidU HC
  clear h hb0
  by_cases hl : lf = 0
  · subst hl
    go_enter Tryd.func36, Tryd.ntmps36
    go_wp2_with (go_at_call 24; refine HS.out.mono ?_; rintro _ w1 ⟨rfl, hw⟩; obtain rfl : w = w1 := hw.symm; clear hw)
    go_ret
    exact .inl ⟨by first | rfl | trivial, rfl, rfl⟩
  · have HS2 : Hid (Calls Tryd.prog 24 #[.pointer (some ⟨g, 0, none⟩)] w fun r w' => r = .returned (.bool false) ∧ w' = w) := by
      refine hidU (HS.out.mono ?_)
      rintro r w' ⟨rfl, h⟩
      exact ⟨by rw [beq_eq_false_iff_ne.2 hl], h⟩
    clear HS
    obtain ⟨L, hL⟩ : ∃ L, Hid (L = lfD lf) := ⟨_, (rfl : _ = lfD lf)⟩
    rw [← hL.out]
    have hww : IntKind.i64.wrap ((wr : Int) + 1) = (wr : Int) + 1 := by rw [IntKind.wrap_i64]; omega
    go_enter Tryd.func36, Tryd.ntmps36
    go_wp2_with (first
      | (go_at_call 24; refine HS2.out.mono ?_; rintro _ w1 ⟨rfl, hw⟩; obtain rfl : w = w1 := hw.symm; clear hw)
      | (go_at_call 52; refine HC.out.mono ?_; rintro _ w1 ⟨rfl, m', hP, hW⟩; refine Hid.out ?_))
    refine hidU ?_
    have hA := hW.at_ H.out H.out.at_
    have HW := hidU hW
    clear hW HC HS2
    have q := hA.cell 4
    simp only [List.getElem?_cons_zero, List.getElem?_cons_succ] at q
    go_wp2_with (refine wpList_store1 rfl 3 (.tmp 15) (.tmp 13) rfl g 4 (.int .i64 ((wr : Int) + 1)) rfl rfl 35 _ hA (by simp) i3 rfl rfl ?_; intro w2 hA2 hb2 hs2; simp only [List.set] at hA2; refine Hid.out ?_)
    refine hidU ?_
    have HB2 := hidU hb2
    clear q hs2 hb2 hA
    have q := hA2.cell 3
    simp only [List.getElem?_cons_zero, List.getElem?_cons_succ] at q
    by_cases hm1 : lf = -1
    · subst hm1
      have hL2 : L = -1 := hL.out
      subst hL2
      go_wp2
      go_ret
      exact .inr ⟨hl, rfl, m', hP, HW.out.dn H.out HB2.out (by simpa using hA2)⟩
    · have hpos : 0 < lf := by omega
      have hwl : IntKind.i64.wrap (lf - 1) = lf - 1 := by rw [IntKind.wrap_i64]; omega
      have hL2 : L = lf - 1 := by rw [hL.out]; unfold lfD; rw [if_pos hpos]
      subst hL2
      have HN := hidU (show lf ≠ 0 from hl)
      clear hpos hlf hlg hL
      go_wp2_with (refine wpList_store1 rfl 3 (.tmp 27) (.tmp 25) rfl g 3 (.int .i64 (lf - 1)) rfl rfl 35 _ hA2 (by simp) i3 rfl rfl ?_; intro w3 hA3 hb3 hs3; simp only [List.set] at hA3; refine Hid.out ?_)
      refine hidU ?_
      have HB3 := hidU (HB2.out.trans hb3)
      clear q hs3 hb3 hA2
      go_wp2
      go_ret
      exact .inr ⟨HN.out, rfl, m', hP, HW.out.dn H.out HB3.out (by simpa using hA3)⟩
theorem write_54 (B g mb : Nat) (w0 w : World) (m : FMap) (sz wr : Nat) (lf : Int) (k1 k2 : Nat) (P : FMap → Prop) (h : Ds B w0 g mb m sz lf wr) (hb0 : Below w0.heap.size w0 w) (hwr : wr ≤ 4611686018427387904) (hlf : -1 ≤ lf) (hlg : lf ≤ 9223372036854775807)
    (HC : Calls Tryd.prog 54 #[.pointer (some ⟨k1, 0, none⟩), .pointer (some ⟨k2, 0, none⟩)] w fun r w' => r = .returned (.tuple #[]) ∧ ∃ m', P m' ∧ Wrt B w0 w' mb m m') :
    Calls Tryd.prog 36 #[.pointer (some ⟨g, 0, none⟩), .func (.func 54) #[] #[.pointer (some ⟨k1, 0, none⟩), .pointer (some ⟨k2, 0, none⟩)]] w fun r w' => (lf = 0 ∧ r = .returned (.int .i64 13) ∧ w' = w) ∨ (lf ≠ 0 ∧ r = .returned (.int .i64 0) ∧ ∃ m', P m' ∧ Dn B w0 w' g mb m m' sz (lfD lf) (wr + 1)) := by
  have HS := hidU (stopped_p (h.below hb0))
  have H := hidU h
  have HC := hidU HC
  clear h hb0
  by_cases hl : lf = 0
  · subst hl
    go_enter Tryd.func36, Tryd.ntmps36
    go_wp2_with (go_at_call 24; refine HS.out.mono ?_; rintro _ w1 ⟨rfl, hw⟩; obtain rfl : w = w1 := hw.symm; clear hw)
    go_ret
    exact .inl ⟨by first | rfl | trivial, rfl, rfl⟩
  · have HS2 : Hid (Calls Tryd.prog 24 #[.pointer (some ⟨g, 0, none⟩)] w fun r w' => r = .returned (.bool false) ∧ w' = w) := by
      refine hidU (HS.out.mono ?_)
      rintro r w' ⟨rfl, h⟩
      exact ⟨by rw [beq_eq_false_iff_ne.2 hl], h⟩
    clear HS
    obtain ⟨L, hL⟩ : ∃ L, Hid (L = lfD lf) := ⟨_, (rfl : _ = lfD lf)⟩
    rw [← hL.out]
    have hww : IntKind.i64.wrap ((wr : Int) + 1) = (wr : Int) + 1 := by rw [IntKind.wrap_i64]; omega
    go_enter Tryd.func36, Tryd.ntmps36
    go_wp2_with (first
      | (go_at_call 24; refine HS2.out.mono ?_; rintro _ w1 ⟨rfl, hw⟩; obtain rfl : w = w1 := hw.symm; clear hw)
      | (go_at_call 54; refine HC.out.mono ?_; rintro _ w1 ⟨rfl, m', hP, hW⟩; refine Hid.out ?_))
    refine hidU ?_
    have hA := hW.at_ H.out H.out.at_
    have HW := hidU hW
    clear hW HC HS2
    have q := hA.cell 4
    simp only [List.getElem?_cons_zero, List.getElem?_cons_succ] at q
    go_wp2_with (refine wpList_store1 rfl 3 (.tmp 15) (.tmp 13) rfl g 4 (.int .i64 ((wr : Int) + 1)) rfl rfl 35 _ hA (by simp) i3 rfl rfl ?_; intro w2 hA2 hb2 hs2; simp only [List.set] at hA2; refine Hid.out ?_)
    refine hidU ?_
    have HB2 := hidU hb2
    clear q hs2 hb2 hA
    have q := hA2.cell 3
    simp only [List.getElem?_cons_zero, List.getElem?_cons_succ] at q
    by_cases hm1 : lf = -1
    · subst hm1
      have hL2 : L = -1 := hL.out
      subst hL2
      go_wp2
      go_ret
      exact .inr ⟨hl, rfl, m', hP, HW.out.dn H.out HB2.out (by simpa using hA2)⟩
    · have hpos : 0 < lf := by omega
      have hwl : IntKind.i64.wrap (lf - 1) = lf - 1 := by rw [IntKind.wrap_i64]; omega
      have hL2 : L = lf - 1 := by rw [hL.out]; unfold lfD; rw [if_pos hpos]
      subst hL2
      have HN := hidU (show lf ≠ 0 from hl)
      clear hpos hlf hlg hL
      go_wp2_with (refine wpList_store1 rfl 3 (.tmp 27) (.tmp 25) rfl g 3 (.int .i64 (lf - 1)) rfl rfl 35 _ hA2 (by simp) i3 rfl rfl ?_; intro w3 hA3 hb3 hs3; simp only [List.set] at hA3; refine Hid.out ?_)
      refine hidU ?_
      have HB3 := hidU (HB2.out.trans hb3)
      clear q hs3 hb3 hA2
      go_wp2
      go_ret
      exact .inr ⟨HN.out, rfl, m', hP, HW.out.dn H.out HB3.out (by simpa using hA3)⟩
theorem write_56 (B g mb : Nat) (w0 w : World) (m : FMap) (sz wr : Nat) (lf : Int) (k1 k2 k3 k4 : Nat) (P : FMap → Prop) (h : Ds B w0 g mb m sz lf wr) (hb0 : Below w0.heap.size w0 w) (hwr : wr ≤ 4611686018427387904) (hlf : -1 ≤ lf) (hlg : lf ≤ 9223372036854775807)
    (HC : Calls Tryd.prog 56 #[.pointer (some ⟨k1, 0, none⟩), .pointer (some ⟨k2, 0, none⟩), .pointer (some ⟨k3, 0, none⟩), .pointer (some ⟨k4, 0, none⟩)] w fun r w' => r = .returned (.tuple #[]) ∧ ∃ m', P m' ∧ Wrt B w0 w' mb m m') :
    Calls Tryd.prog 36 #[.pointer (some ⟨g, 0, none⟩), .func (.func 56) #[] #[.pointer (some ⟨k1, 0, none⟩), .pointer (some ⟨k2, 0, none⟩), .pointer (some ⟨k3, 0, none⟩), .pointer (some ⟨k4, 0, none⟩)]] w fun r w' => (lf = 0 ∧ r = .returned (.int .i64 13) ∧ w' = w) ∨ (lf ≠ 0 ∧ r = .returned (.int .i64 0) ∧ ∃ m', P m' ∧ Dn B w0 w' g mb m m' sz (lfD lf) (wr + 1)) := by
  have HS := hidU (stopped_p (h.below hb0))
  have H := hidU h
  have HC := hidU HC
  clear h hb0
  by_cases hl : lf = 0
  · subst hl
    go_enter Tryd.func36, Tryd.ntmps36
    go_wp2_with (go_at_call 24; refine HS.out.mono ?_; rintro _ w1 ⟨rfl, hw⟩; obtain rfl : w = w1 := hw.symm; clear hw)
    go_ret
    exact .inl ⟨by first | rfl | trivial, rfl, rfl⟩
  · have HS2 : Hid (Calls Tryd.prog 24 #[.pointer (some ⟨g, 0, none⟩)] w fun r w' => r = .returned (.bool false) ∧ w' = w) := by
      refine hidU (HS.out.mono ?_)
      rintro r w' ⟨rfl, h⟩
      exact ⟨by rw [beq_eq_false_iff_ne.2 hl], h⟩
    clear HS
    obtain ⟨L, hL⟩ : ∃ L, Hid (L = lfD lf) := ⟨_, (rfl : _ = lfD lf)⟩
    rw [← hL.out]
    have hww : IntKind.i64.wrap ((wr : Int) + 1) = (wr : Int) + 1 := by rw [IntKind.wrap_i64]; omega
    go_enter Tryd.func36, Tryd.ntmps36
    go_wp2_with (first
      | (go_at_call 24; refine HS2.out.mono ?_; rintro _ w1 ⟨rfl, hw⟩; obtain rfl : w = w1 := hw.symm; clear hw)
      | (go_at_call 56; refine HC.out.mono ?_; rintro _ w1 ⟨rfl, m', hP, hW⟩; refine Hid.out ?_))
    refine hidU ?_
    have hA := hW.at_ H.out H.out.at_
    have HW := hidU hW
    clear hW HC HS2
    have q := hA.cell 4
    simp only [List.getElem?_cons_zero, List.getElem?_cons_succ] at q
    go_wp2_with (refine wpList_store1 rfl 3 (.tmp 15) (.tmp 13) rfl g 4 (.int .i64 ((wr : Int) + 1)) rfl rfl 35 _ hA (by simp) i3 rfl rfl ?_; intro w2 hA2 hb2 hs2; simp only [List.set] at hA2; refine Hid.out ?_)
    refine hidU ?_
    have HB2 := hidU hb2
    clear q hs2 hb2 hA
    have q := hA2.cell 3
    simp only [List.getElem?_cons_zero, List.getElem?_cons_succ] at q
    by_cases hm1 : lf = -1
    · subst hm1
      have hL2 : L = -1 := hL.out
      subst hL2
      go_wp2
      go_ret
      exact .inr ⟨hl, rfl, m', hP, HW.out.dn H.out HB2.out (by simpa using hA2)⟩
    · have hpos : 0 < lf := by omega
      have hwl : IntKind.i64.wrap (lf - 1) = lf - 1 := by rw [IntKind.wrap_i64]; omega
      have hL2 : L = lf - 1 := by rw [hL.out]; unfold lfD; rw [if_pos hpos]
      subst hL2
      have HN := hidU (show lf ≠ 0 from hl)
      clear hpos hlf hlg hL
      go_wp2_with (refine wpList_store1 rfl 3 (.tmp 27) (.tmp 25) rfl g 3 (.int .i64 (lf - 1)) rfl rfl 35 _ hA2 (by simp) i3 rfl rfl ?_; intro w3 hA3 hb3 hs3; simp only [List.set] at hA3; refine Hid.out ?_)
      refine hidU ?_
      have HB3 := hidU (HB2.out.trans hb3)
      clear q hs3 hb3 hA2
      go_wp2
      go_ret
      exact .inr ⟨HN.out, rfl, m', hP, HW.out.dn H.out HB3.out (by simpa using hA3)⟩
theorem write_57 (B g mb : Nat) (w0 w : World) (m : FMap) (sz wr : Nat) (lf : Int) (k1 k2 : Nat) (P : FMap → Prop) (h : Ds B w0 g mb m sz lf wr) (hb0 : Below w0.heap.size w0 w) (hwr : wr ≤ 4611686018427387904) (hlf : -1 ≤ lf) (hlg : lf ≤ 9223372036854775807)
    (HC : Calls Tryd.prog 57 #[.pointer (some ⟨k1, 0, none⟩), .pointer (some ⟨k2, 0, none⟩)] w fun r w' => r = .returned (.tuple #[]) ∧ ∃ m', P m' ∧ Wrt B w0 w' mb m m') :
    Calls Tryd.prog 36 #[.pointer (some ⟨g, 0, none⟩), .func (.func 57) #[] #[.pointer (some ⟨k1, 0, none⟩), .pointer (some ⟨k2, 0, none⟩)]] w fun r w' => (lf = 0 ∧ r = .returned (.int .i64 13) ∧ w' = w) ∨ (lf ≠ 0 ∧ r = .returned (.int .i64 0) ∧ ∃ m', P m' ∧ Dn B w0 w' g mb m m' sz (lfD lf) (wr + 1)) := by
  have HS := hidU (stopped_p (h.below hb0))
  have H := hidU h
  have HC := hidU HC
  clear h hb0
  by_cases hl : lf = 0
  · subst hl
    go_enter Tryd.func36, Tryd.ntmps36
    go_wp2_with (go_at_call 24; refine HS.out.mono ?_; rintro _ w1 ⟨rfl, hw⟩; obtain rfl : w = w1 := hw.symm; clear hw)
    go_ret
    exact .inl ⟨by first | rfl | trivial, rfl, rfl⟩
  · have HS2 : Hid (Calls Tryd.prog 24 #[.pointer (some ⟨g, 0, none⟩)] w fun r w' => r = .returned (.bool false) ∧ w' = w) := by
      refine hidU (HS.out.mono ?_)
      rintro r w' ⟨rfl, h⟩
      exact ⟨by rw [beq_eq_false_iff_ne.2 hl], h⟩
    clear HS
    obtain ⟨L, hL⟩ : ∃ L, Hid (L = lfD lf) := ⟨_, (rfl : _ = lfD lf)⟩
    rw [← hL.out]
    have hww : IntKind.i64.wrap ((wr : Int) + 1) = (wr : Int) + 1 := by rw [IntKind.wrap_i64]; omega
    go_enter Tryd.func36, Tryd.ntmps36
    go_wp2_with (first
      | (go_at_call 24; refine HS2.out.mono ?_; rintro _ w1 ⟨rfl, hw⟩; obtain rfl : w = w1 := hw.symm; clear hw)
      | (go_at_call 57; refine HC.out.mono ?_; rintro _ w1 ⟨rfl, m', hP, hW⟩; refine Hid.out ?_))
    refine hidU ?_
    have hA := hW.at_ H.out H.out.at_
    have HW := hidU hW
    clear hW HC HS2
    have q := hA.cell 4
    simp only [List.getElem?_cons_zero, List.getElem?_cons_succ] at q
    go_wp2_with (refine wpList_store1 rfl 3 (.tmp 15) (.tmp 13) rfl g 4 (.int .i64 ((wr : Int) + 1)) rfl rfl 35 _ hA (by simp) i3 rfl rfl ?_; intro w2 hA2 hb2 hs2; simp only [List.set] at hA2; refine Hid.out ?_)
    refine hidU ?_
    have HB2 := hidU hb2
    clear q hs2 hb2 hA
    have q := hA2.cell 3
    simp only [List.getElem?_cons_zero, List.getElem?_cons_succ] at q
    by_cases hm1 : lf = -1
    · subst hm1
      have hL2 : L = -1 := hL.out
      subst hL2
      go_wp2
      go_ret
      exact .inr ⟨hl, rfl, m', hP, HW.out.dn H.out HB2.out (by simpa using hA2)⟩
    · have hpos : 0 < lf := by omega
      have hwl : IntKind.i64.wrap (lf - 1) = lf - 1 := by rw [IntKind.wrap_i64]; omega
      have hL2 : L = lf - 1 := by rw [hL.out]; unfold lfD; rw [if_pos hpos]
      subst hL2
      have HN := hidU (show lf ≠ 0 from hl)
      clear hpos hlf hlg hL
      go_wp2_with (refine wpList_store1 rfl 3 (.tmp 27) (.tmp 25) rfl g 3 (.int .i64 (lf - 1)) rfl rfl 35 _ hA2 (by simp) i3 rfl rfl ?_; intro w3 hA3 hb3 hs3; simp only [List.set] at hA3; refine Hid.out ?_)
      refine hidU ?_
      have HB3 := hidU (HB2.out.trans hb3)
      clear q hs3 hb3 hA2
      go_wp2
      go_ret
      exact .inr ⟨HN.out, rfl, m', hP, HW.out.dn H.out HB3.out (by simpa using hA3)⟩
end Go.Proofs.YtcmkjjlchljffaaDoor

/- The landed disk: Sync and Remove. -/
namespace Go.Proofs.YtcmkjjlchljffaaDoor
open Go.RowKit
set_option linter.unusedVariables false
set_option maxRecDepth 100000
set_option maxHeartbeats 6400000

theorem wpList_box1 {P : Program} {ops : Array Oper} {rest : List Oper} {o : Oper} {a : Act} {w : World} {Q : Exit → Act → World → Prop} (hgd : o.guard = none) (t : TypeId) (x : Operand) (ho : o.op = .box t x) (v : Value) (hx : a.eval x = v) (hc : ∀ cs, v ≠ .agg cs)
    (h : ∀ w', At t w' w.heap.size [v] → Below w.heap.size w w' → w'.heap.size = w.heap.size + 1 → wpList P ops Q rest (a.put o.dst (.pointer (some ⟨w.heap.size, 0, none⟩))) w') :
    wpList P ops Q (o :: rest) a w := by
  refine wpList_plain hgd fun K hK => ?_
  have := hK _ _ (h (w.alloc (.cells #[v] t)) (_root_.Go.heap_alloc_new w _) ((Below.refl _ w).alloc (Nat.le_refl _) _) (by show (w.heap.push _).size = _; simp))
  unfold Oper.wp execOp
  simp only [ho, hx, Instr.box, Sem.run_bind]
  cases v <;> first | exact absurd rfl (hc _) | simpa [newVar, go_sem] using this
/-- What a write tells: whether there is power. -/
def pwE (lf : Int) : Int := if lf = 0 then 13 else 0
/-- What a call that may write tells and leaves. -/
def OpP (B : Nat) (w : World) (g mb : Nat) (m : FMap) (sz : Nat) (lf : Int) (wr : Nat) (e : Int) (P : FMap → Prop) (r : Ending) (w' : World) : Prop :=
  r = .returned (.int .i64 e) ∧ (e ≠ 0 → Below w.heap.size w w') ∧ (e = 0 → ∃ m', P m' ∧ Dn B w w' g mb m m' sz (lfD lf) (wr + 1))
theorem writ_37 (B g mb : Nat) (w0 w : World) (m : FMap) (sz wr : Nat) (lf : Int) (k1 k2 k3 : Nat) (P : FMap → Prop) (h : Ds B w0 g mb m sz lf wr) (hb0 : Below w0.heap.size w0 w) (hwr : wr ≤ 4611686018427387904) (hlf : -1 ≤ lf) (hlg : lf ≤ 9223372036854775807)
    (HC : Calls Tryd.prog 37 #[.pointer (some ⟨k1, 0, none⟩), .pointer (some ⟨k2, 0, none⟩), .pointer (some ⟨k3, 0, none⟩)] w fun r w' => r = .returned (.tuple #[]) ∧ ∃ m', P m' ∧ Wrt B w0 w' mb m m') :
    Calls Tryd.prog 36 #[.pointer (some ⟨g, 0, none⟩), .func (.func 37) #[] #[.pointer (some ⟨k1, 0, none⟩), .pointer (some ⟨k2, 0, none⟩), .pointer (some ⟨k3, 0, none⟩)]] w (OpP B w0 g mb m sz lf wr (pwE lf) P) := by
  refine (write_37 B g mb w0 w m sz wr lf k1 k2 k3 P h hb0 hwr hlf hlg HC).mono ?_
  rintro r w' (⟨h1, rfl, rfl⟩ | ⟨h1, rfl, q⟩)
  · exact ⟨by rw [pwE, if_pos h1], fun _ => hb0, fun e => by rw [pwE, if_pos h1] at e; cases e⟩
  · exact ⟨by rw [pwE, if_neg h1], fun e => absurd (by rw [pwE, if_neg h1]) e, fun _ => q⟩
theorem writ_52 (B g mb : Nat) (w0 w : World) (m : FMap) (sz wr : Nat) (lf : Int) (k1 k2 k3 k4 : Nat) (P : FMap → Prop) (h : Ds B w0 g mb m sz lf wr) (hb0 : Below w0.heap.size w0 w) (hwr : wr ≤ 4611686018427387904) (hlf : -1 ≤ lf) (hlg : lf ≤ 9223372036854775807)
    (HC : Calls Tryd.prog 52 #[.pointer (some ⟨k1, 0, none⟩), .pointer (some ⟨k2, 0, none⟩), .pointer (some ⟨k3, 0, none⟩), .pointer (some ⟨k4, 0, none⟩)] w fun r w' => r = .returned (.tuple #[]) ∧ ∃ m', P m' ∧ Wrt B w0 w' mb m m') :
    Calls Tryd.prog 36 #[.pointer (some ⟨g, 0, none⟩), .func (.func 52) #[] #[.pointer (some ⟨k1, 0, none⟩), .pointer (some ⟨k2, 0, none⟩), .pointer (some ⟨k3, 0, none⟩), .pointer (some ⟨k4, 0, none⟩)]] w (OpP B w0 g mb m sz lf wr (pwE lf) P) := by
  refine (write_52 B g mb w0 w m sz wr lf k1 k2 k3 k4 P h hb0 hwr hlf hlg HC).mono ?_
  rintro r w' (⟨h1, rfl, rfl⟩ | ⟨h1, rfl, q⟩)
  · exact ⟨by rw [pwE, if_pos h1], fun _ => hb0, fun e => by rw [pwE, if_pos h1] at e; cases e⟩
  · exact ⟨by rw [pwE, if_neg h1], fun e => absurd (by rw [pwE, if_neg h1]) e, fun _ => q⟩
theorem writ_54 (B g mb : Nat) (w0 w : World) (m : FMap) (sz wr : Nat) (lf : Int) (k1 k2 : Nat) (P : FMap → Prop) (h : Ds B w0 g mb m sz lf wr) (hb0 : Below w0.heap.size w0 w) (hwr : wr ≤ 4611686018427387904) (hlf : -1 ≤ lf) (hlg : lf ≤ 9223372036854775807)
    (HC : Calls Tryd.prog 54 #[.pointer (some ⟨k1, 0, none⟩), .pointer (some ⟨k2, 0, none⟩)] w fun r w' => r = .returned (.tuple #[]) ∧ ∃ m', P m' ∧ Wrt B w0 w' mb m m') :
    Calls Tryd.prog 36 #[.pointer (some ⟨g, 0, none⟩), .func (.func 54) #[] #[.pointer (some ⟨k1, 0, none⟩), .pointer (some ⟨k2, 0, none⟩)]] w (OpP B w0 g mb m sz lf wr (pwE lf) P) := by
  refine (write_54 B g mb w0 w m sz wr lf k1 k2 P h hb0 hwr hlf hlg HC).mono ?_
  rintro r w' (⟨h1, rfl, rfl⟩ | ⟨h1, rfl, q⟩)
  · exact ⟨by rw [pwE, if_pos h1], fun _ => hb0, fun e => by rw [pwE, if_pos h1] at e; cases e⟩
  · exact ⟨by rw [pwE, if_neg h1], fun e => absurd (by rw [pwE, if_neg h1]) e, fun _ => q⟩
theorem writ_56 (B g mb : Nat) (w0 w : World) (m : FMap) (sz wr : Nat) (lf : Int) (k1 k2 k3 k4 : Nat) (P : FMap → Prop) (h : Ds B w0 g mb m sz lf wr) (hb0 : Below w0.heap.size w0 w) (hwr : wr ≤ 4611686018427387904) (hlf : -1 ≤ lf) (hlg : lf ≤ 9223372036854775807)
    (HC : Calls Tryd.prog 56 #[.pointer (some ⟨k1, 0, none⟩), .pointer (some ⟨k2, 0, none⟩), .pointer (some ⟨k3, 0, none⟩), .pointer (some ⟨k4, 0, none⟩)] w fun r w' => r = .returned (.tuple #[]) ∧ ∃ m', P m' ∧ Wrt B w0 w' mb m m') :
    Calls Tryd.prog 36 #[.pointer (some ⟨g, 0, none⟩), .func (.func 56) #[] #[.pointer (some ⟨k1, 0, none⟩), .pointer (some ⟨k2, 0, none⟩), .pointer (some ⟨k3, 0, none⟩), .pointer (some ⟨k4, 0, none⟩)]] w (OpP B w0 g mb m sz lf wr (pwE lf) P) := by
  refine (write_56 B g mb w0 w m sz wr lf k1 k2 k3 k4 P h hb0 hwr hlf hlg HC).mono ?_
  rintro r w' (⟨h1, rfl, rfl⟩ | ⟨h1, rfl, q⟩)
  · exact ⟨by rw [pwE, if_pos h1], fun _ => hb0, fun e => by rw [pwE, if_pos h1] at e; cases e⟩
  · exact ⟨by rw [pwE, if_neg h1], fun e => absurd (by rw [pwE, if_neg h1]) e, fun _ => q⟩
theorem writ_57 (B g mb : Nat) (w0 w : World) (m : FMap) (sz wr : Nat) (lf : Int) (k1 k2 : Nat) (P : FMap → Prop) (h : Ds B w0 g mb m sz lf wr) (hb0 : Below w0.heap.size w0 w) (hwr : wr ≤ 4611686018427387904) (hlf : -1 ≤ lf) (hlg : lf ≤ 9223372036854775807)
    (HC : Calls Tryd.prog 57 #[.pointer (some ⟨k1, 0, none⟩), .pointer (some ⟨k2, 0, none⟩)] w fun r w' => r = .returned (.tuple #[]) ∧ ∃ m', P m' ∧ Wrt B w0 w' mb m m') :
    Calls Tryd.prog 36 #[.pointer (some ⟨g, 0, none⟩), .func (.func 57) #[] #[.pointer (some ⟨k1, 0, none⟩), .pointer (some ⟨k2, 0, none⟩)]] w (OpP B w0 g mb m sz lf wr (pwE lf) P) := by
  refine (write_57 B g mb w0 w m sz wr lf k1 k2 P h hb0 hwr hlf hlg HC).mono ?_
  rintro r w' (⟨h1, rfl, rfl⟩ | ⟨h1, rfl, q⟩)
  · exact ⟨by rw [pwE, if_pos h1], fun _ => hb0, fun e => by rw [pwE, if_pos h1] at e; cases e⟩
  · exact ⟨by rw [pwE, if_neg h1], fun e => absurd (by rw [pwE, if_neg h1]) e, fun _ => q⟩
theorem sync_p {B g mb : Nat} {w : World} {m : FMap} {sz wr : Nat} {lf : Int} {nm : ByteArray} (h : Ds B w g mb m sz lf wr) (hsf : ∀ p ∈ m, p.2.sf ≤ p.2.bs.length) (hsum : sumM m ≤ 67108864) (hwr : wr ≤ 4611686018427387904) (hlf : -1 ≤ lf) (hlg : lf ≤ 9223372036854775807) (hs : nm.size ≤ 9223372036854775807) :
    Calls Tryd.prog 15 #[.pointer (some ⟨g, 0, none⟩), .string nm] w (OpP B w g mb m sz lf wr (if (lookM m nm).isSome then pwE lf else 6) (fun m' => m' = updM m nm { fileM m nm with sf := (fileM m nm).bs.length, hd := true })) := by
  have H := hidU h
  obtain ⟨E, hE⟩ : ∃ E, Hid (E = if (lookM m nm).isSome then pwE lf else 6) := ⟨_, (rfl : _ = if (lookM m nm).isSome then pwE lf else 6)⟩
  rw [← hE.out]
  have HL0 := hidU (fun x (hx : Below w.heap.size w x) => lacks_p (h.below hx) hs)
  clear h
  obtain ⟨PP, hPP⟩ : ∃ PP : Ending → World → Prop, Hid (PP = OpP B w g mb m sz lf wr E (fun m' => m' = updM m nm { fileM m nm with sf := (fileM m nm).bs.length, hd := true })) := ⟨_, (rfl : _ = OpP B w g mb m sz lf wr E (fun m' => m' = updM m nm { fileM m nm with sf := (fileM m nm).bs.length, hd := true }))⟩
  rw [← hPP.out]
  go_enter Tryd.func15, Tryd.ntmps15
  go_wp2_with (first
    | (refine wpList_box1 rfl 22 (.tmp 0) rfl (.pointer (some ⟨g, 0, none⟩)) rfl (fun _ q => by cases q) ?_; intro w1 hA1 hb1 hs1; refine Hid.out ?_))
  refine hidU ?_
  obtain ⟨k1, hk1⟩ : ∃ k, k = w.heap.size := ⟨_, rfl⟩
  rw [← hk1] at hA1 ⊢
  have HB1 := hidU hb1
  clear hb1 hs1 hk1
  go_wp2_with (first
    | (refine wpList_box1 rfl 9 (.tmp 1) rfl (.string nm) rfl (fun _ q => by cases q) ?_; intro w2 hA2 hb2 hs2; refine Hid.out ?_))
  refine hidU ?_
  obtain ⟨k2, hk2⟩ : ∃ k, k = w1.heap.size := ⟨_, rfl⟩
  rw [← hk2] at hA2 ⊢
  have HB2 := hidU (HB1.out.trans (hb2.mono HB1.out.size))
  have HD := hidU (hA1.below hb2)
  have HN := hidU hA2
  have c1 : w2.cell? ⟨k1, 0, none⟩ = some (.pointer (some ⟨g, 0, none⟩)) := by rw [HD.out.cell]; rfl
  have c2 : w2.cell? ⟨k2, 0, none⟩ = some (.string nm) := by rw [HN.out.cell]; rfl
  have HL := hidU (HL0.out w2 HB2.out)
  clear hb2 hs2 hA1 hA2 HL0 HB1 hk2
  cases hl : lookM m nm with
  | none =>
    have e1 : E = 6 := by rw [hE.out, hl]; rfl
    subst e1
    rw [show lkZ m nm = 6 by unfold lkZ; rw [hl]; rfl] at HL
    clear hl
    go_wp2_with (go_at_call 49; refine HL.out.mono ?_; rintro _ w3 ⟨rfl, hb3⟩; have HB3 := hidU (HB2.out.trans (hb3.mono HB2.out.size)); clear hb3)
    rw [hPP.out]
    exact ⟨rfl, fun _ => HB3.out, fun e => by cases e⟩
  | some f =>
    have h40 : nm.size ≤ 40 := H.out.ns _ (look_mem hl)
    have e1 : E = pwE lf := by rw [hE.out, hl]; rfl
    rw [show lkZ m nm = 0 by unfold lkZ; rw [hl]; rfl] at HL
    go_wp2_with (go_at_call 49; refine HL.out.mono ?_; rintro _ w3 ⟨rfl, hb3⟩; refine Hid.out ?_)
    refine hidU ?_
    have HB3 := hidU (HB2.out.trans (hb3.mono HB2.out.size))
    have c3 : w3.cell? ⟨k1, 0, none⟩ = some (.pointer (some ⟨g, 0, none⟩)) := by rw [(HD.out.below hb3).cell]; rfl
    have HW := hidU (writ_54 B g mb w w3 m sz wr lf k1 k2 (fun m' => m' = updM m nm { fileM m nm with sf := (fileM m nm).bs.length, hd := true }) H.out HB3.out hwr hlf hlg ((sync_c B g mb w3 m sz wr lf nm k1 k2 (H.out.below HB3.out) hsf (HD.out.below hb3) (HN.out.below hb3) hsum h40).mono (by
      rintro r w' ⟨rfl, hW⟩
      exact ⟨rfl, _, rfl, hW.from HB3.out⟩)))
    rw [← e1] at HW
    rw [← hPP.out] at HW
    have hPX : ∀ r w', PP r w' → r = .returned (.int .i64 E) := fun r w' q => by rw [hPP.out] at q; exact q.1
    clear c1 c2 hb3 e1 hl
    go_wp2_with (go_at_call 36; refine HW.out.mono ?_; rintro e w4 q; obtain rfl := hPX _ _ q)
    exact q
theorem remove_p {B g mb : Nat} {w : World} {m : FMap} {sz wr : Nat} {lf : Int} {nm : ByteArray} (h : Ds B w g mb m sz lf wr) (hsf : ∀ p ∈ m, p.2.sf ≤ p.2.bs.length) (hsum : sumM m ≤ 67108864) (hwr : wr ≤ 4611686018427387904) (hlf : -1 ≤ lf) (hlg : lf ≤ 9223372036854775807) (hs : nm.size ≤ 9223372036854775807) :
    Calls Tryd.prog 17 #[.pointer (some ⟨g, 0, none⟩), .string nm] w (OpP B w g mb m sz lf wr (if (lookM m nm).isSome then pwE lf else 6) (fun m' => m' = delM m nm)) := by
  have H := hidU h
  obtain ⟨E, hE⟩ : ∃ E, Hid (E = if (lookM m nm).isSome then pwE lf else 6) := ⟨_, (rfl : _ = if (lookM m nm).isSome then pwE lf else 6)⟩
  rw [← hE.out]
  have HL0 := hidU (fun x (hx : Below w.heap.size w x) => lacks_p (h.below hx) hs)
  clear h
  obtain ⟨PP, hPP⟩ : ∃ PP : Ending → World → Prop, Hid (PP = OpP B w g mb m sz lf wr E (fun m' => m' = delM m nm)) := ⟨_, (rfl : _ = OpP B w g mb m sz lf wr E (fun m' => m' = delM m nm))⟩
  rw [← hPP.out]
  go_enter Tryd.func17, Tryd.ntmps17
  go_wp2_with (first
    | (refine wpList_box1 rfl 22 (.tmp 0) rfl (.pointer (some ⟨g, 0, none⟩)) rfl (fun _ q => by cases q) ?_; intro w1 hA1 hb1 hs1; refine Hid.out ?_))
  refine hidU ?_
  obtain ⟨k1, hk1⟩ : ∃ k, k = w.heap.size := ⟨_, rfl⟩
  rw [← hk1] at hA1 ⊢
  have HB1 := hidU hb1
  clear hb1 hs1 hk1
  go_wp2_with (first
    | (refine wpList_box1 rfl 9 (.tmp 1) rfl (.string nm) rfl (fun _ q => by cases q) ?_; intro w2 hA2 hb2 hs2; refine Hid.out ?_))
  refine hidU ?_
  obtain ⟨k2, hk2⟩ : ∃ k, k = w1.heap.size := ⟨_, rfl⟩
  rw [← hk2] at hA2 ⊢
  have HB2 := hidU (HB1.out.trans (hb2.mono HB1.out.size))
  have HD := hidU (hA1.below hb2)
  have HN := hidU hA2
  have c1 : w2.cell? ⟨k1, 0, none⟩ = some (.pointer (some ⟨g, 0, none⟩)) := by rw [HD.out.cell]; rfl
  have c2 : w2.cell? ⟨k2, 0, none⟩ = some (.string nm) := by rw [HN.out.cell]; rfl
  have HL := hidU (HL0.out w2 HB2.out)
  clear hb2 hs2 hA1 hA2 HL0 HB1 hk2
  cases hl : lookM m nm with
  | none =>
    have e1 : E = 6 := by rw [hE.out, hl]; rfl
    subst e1
    rw [show lkZ m nm = 6 by unfold lkZ; rw [hl]; rfl] at HL
    clear hl
    go_wp2_with (go_at_call 49; refine HL.out.mono ?_; rintro _ w3 ⟨rfl, hb3⟩; have HB3 := hidU (HB2.out.trans (hb3.mono HB2.out.size)); clear hb3)
    rw [hPP.out]
    exact ⟨rfl, fun _ => HB3.out, fun e => by cases e⟩
  | some f =>
    have h40 : nm.size ≤ 40 := H.out.ns _ (look_mem hl)
    have e1 : E = pwE lf := by rw [hE.out, hl]; rfl
    rw [show lkZ m nm = 0 by unfold lkZ; rw [hl]; rfl] at HL
    go_wp2_with (go_at_call 49; refine HL.out.mono ?_; rintro _ w3 ⟨rfl, hb3⟩; refine Hid.out ?_)
    refine hidU ?_
    have HB3 := hidU (HB2.out.trans (hb3.mono HB2.out.size))
    have c3 : w3.cell? ⟨k1, 0, none⟩ = some (.pointer (some ⟨g, 0, none⟩)) := by rw [(HD.out.below hb3).cell]; rfl
    have HW := hidU (writ_57 B g mb w w3 m sz wr lf k1 k2 (fun m' => m' = delM m nm) H.out HB3.out hwr hlf hlg ((remove_c B g mb w3 m sz wr lf nm k1 k2 (H.out.below HB3.out) (HD.out.below hb3) (HN.out.below hb3) (by unfold maxLen; omega)).mono (by
      rintro r w' ⟨rfl, hW⟩
      exact ⟨rfl, _, rfl, hW.from HB3.out⟩)))
    rw [← e1] at HW
    rw [← hPP.out] at HW
    have hPX : ∀ r w', PP r w' → r = .returned (.int .i64 E) := fun r w' q => by rw [hPP.out] at q; exact q.1
    clear c1 c2 hb3 e1 hl
    go_wp2_with (go_at_call 36; refine HW.out.mono ?_; rintro e w4 q; obtain rfl := hPX _ _ q)
    exact q
end Go.Proofs.YtcmkjjlchljffaaDoor

/- What every call of a disk that no function of the package made answers. -/
namespace Go.Proofs.YtcmkjjlchljffaaDoor
open Go.RowKit
set_option linter.unusedVariables false
set_option maxRecDepth 100000
set_option maxHeartbeats 3200000

/-- No disk: nil, or one that does not know itself. -/
def NoD (w : World) (o : Option Addr) : Prop := o = none ∨ ∃ g c1 c2 c3 c4, o = some ⟨g, 0, none⟩ ∧ At 35 w g [.pointer none, c1, c2, c3, c4]
theorem NoD.below {w w' : World} {o : Option Addr} (h : NoD w o) (b : Below w.heap.size w w') : NoD w' o := by
  rcases h with rfl | ⟨g, c1, c2, c3, c4, rfl, h⟩
  · exact .inl rfl
  · exact .inr ⟨g, c1, c2, c3, c4, rfl, h.below b⟩
section
variable {w : World} {o : Option Addr}
theorem no_made (h : NoD w o) : Calls Tryd.prog 33 #[.pointer o] w fun r w' => r = .returned (.bool false) ∧ w' = w := by
  rcases h with rfl | ⟨g, c1, c2, c3, c4, rfl, h⟩
  · exact made_nil w
  · exact made_no h
theorem no_lacks (h : NoD w o) (nm : ByteArray) : Calls Tryd.prog 49 #[.pointer o, .string nm] w fun r w' => r = .returned (.int .i64 1) ∧ w' = w := by
  have HM := hidU (no_made h)
  clear h
  go_enter Tryd.func49, Tryd.ntmps49
  go_wp2_with (go_at_call 33; refine HM.out.mono ?_; rintro _ x ⟨rfl, hw⟩; obtain rfl : w = x := hw.symm; clear hw)
  go_ret
  exact ⟨rfl, rfl⟩
theorem no_names (h : NoD w o) : Calls Tryd.prog 20 #[.pointer o] w fun r w' => r = .returned (.slice none 0 0) ∧ w' = w := by
  have HM := hidU (no_made h)
  clear h
  go_enter Tryd.func20, Tryd.ntmps20
  go_wp2_with (go_at_call 33; refine HM.out.mono ?_; rintro _ x ⟨rfl, hw⟩; obtain rfl : w = x := hw.symm; clear hw)
  go_ret
  exact ⟨rfl, rfl⟩
theorem no_used (h : NoD w o) : Calls Tryd.prog 21 #[.pointer o] w fun r w' => r = .returned (.int .i64 0) ∧ w' = w := by
  have HM := hidU (no_made h)
  clear h
  go_enter Tryd.func21, Tryd.ntmps21
  go_wp2_with (go_at_call 33; refine HM.out.mono ?_; rintro _ x ⟨rfl, hw⟩; obtain rfl : w = x := hw.symm; clear hw)
  go_ret
  exact ⟨rfl, rfl⟩
theorem no_size (h : NoD w o) : Calls Tryd.prog 22 #[.pointer o] w fun r w' => r = .returned (.int .i64 0) ∧ w' = w := by
  have HM := hidU (no_made h)
  clear h
  go_enter Tryd.func22, Tryd.ntmps22
  go_wp2_with (go_at_call 33; refine HM.out.mono ?_; rintro _ x ⟨rfl, hw⟩; obtain rfl : w = x := hw.symm; clear hw)
  go_ret
  exact ⟨rfl, rfl⟩
theorem no_loose (h : NoD w o) (nm : ByteArray) : Calls Tryd.prog 23 #[.pointer o, .string nm] w fun r w' => r = .returned (.int .i64 0) ∧ w' = w := by
  have HM := hidU (no_made h)
  clear h
  go_enter Tryd.func23, Tryd.ntmps23
  go_wp2_with (go_at_call 33; refine HM.out.mono ?_; rintro _ x ⟨rfl, hw⟩; obtain rfl : w = x := hw.symm; clear hw)
  go_ret
  exact ⟨rfl, rfl⟩
theorem no_stopped (h : NoD w o) : Calls Tryd.prog 24 #[.pointer o] w fun r w' => r = .returned (.bool false) ∧ w' = w := by
  have HM := hidU (no_made h)
  clear h
  go_enter Tryd.func24, Tryd.ntmps24
  go_wp2_with (go_at_call 33; refine HM.out.mono ?_; rintro _ x ⟨rfl, hw⟩; obtain rfl : w = x := hw.symm; clear hw)
  go_ret
  exact ⟨rfl, rfl⟩
theorem no_writes (h : NoD w o) : Calls Tryd.prog 25 #[.pointer o] w fun r w' => r = .returned (.int .i64 0) ∧ w' = w := by
  have HM := hidU (no_made h)
  clear h
  go_enter Tryd.func25, Tryd.ntmps25
  go_wp2_with (go_at_call 33; refine HM.out.mono ?_; rintro _ x ⟨rfl, hw⟩; obtain rfl : w = x := hw.symm; clear hw)
  go_ret
  exact ⟨rfl, rfl⟩
theorem no_clone (h : NoD w o) : Calls Tryd.prog 26 #[.pointer o] w fun r w' => r = .returned (.pointer none) ∧ w' = w := by
  have HM := hidU (no_made h)
  clear h
  go_enter Tryd.func26, Tryd.ntmps26
  go_wp2_with (go_at_call 33; refine HM.out.mono ?_; rintro _ x ⟨rfl, hw⟩; obtain rfl : w = x := hw.symm; clear hw)
  go_ret
  exact ⟨rfl, rfl⟩
theorem no_stop (h : NoD w o) (n : Int) : Calls Tryd.prog 18 #[.pointer o, .int .i64 n] w fun r w' => r = .returned (.int .i64 1) ∧ w' = w := by
  have HM := hidU (no_made h)
  clear h
  go_enter Tryd.func18, Tryd.ntmps18
  go_wp2_with (go_at_call 33; refine HM.out.mono ?_; rintro _ x ⟨rfl, hw⟩; obtain rfl : w = x := hw.symm; clear hw)
  go_ret
  exact ⟨rfl, rfl⟩
theorem no_crash (h : NoD w o) : Calls Tryd.prog 19 #[.pointer o, .slice none 0 0] w fun r w' => r = .returned (.int .i64 1) ∧ w' = w := by
  have HM := hidU (no_made h)
  clear h
  go_enter Tryd.func19, Tryd.ntmps19
  go_wp2_with (go_at_call 33; refine HM.out.mono ?_; rintro _ x ⟨rfl, hw⟩; obtain rfl : w = x := hw.symm; clear hw)
  go_ret
  exact ⟨rfl, rfl⟩
theorem no_read (h : NoD w o) (nm : ByteArray) : Calls Tryd.prog 13 #[.pointer o, .string nm] w fun r w' => r = .returned (.tuple #[.slice none 0 0, .int .i64 1]) ∧ w' = w := by
  have HM := hidU (no_lacks h nm)
  clear h
  go_enter Tryd.func13, Tryd.ntmps13
  go_wp2_with (go_at_call 49; refine HM.out.mono ?_; rintro _ x ⟨rfl, hw⟩; obtain rfl : w = x := hw.symm; clear hw)
  go_ret2
  exact ⟨rfl, rfl⟩
theorem no_append (h : NoD w o) (nm : ByteArray) (ba : Option Addr) (lb bc : Nat) : Calls Tryd.prog 10 #[.pointer o, .string nm, .slice ba lb bc] w fun r w' => r = .returned (.int .i64 1) ∧ Below w.heap.size w w' := by
  have H := hidU h
  clear h
  go_enter Tryd.func10, Tryd.ntmps10
  go_wp2_with (first
    | (refine wpList_box1 rfl 22 (.tmp 0) rfl (.pointer o) rfl (fun _ q => by cases q) ?_; intro w1 hA1 hb1 hs1; refine Hid.out ?_))
  refine hidU ?_
  obtain ⟨k1, hk1⟩ : ∃ k, k = w.heap.size := ⟨_, rfl⟩
  rw [← hk1] at hA1 ⊢
  have HB1 := hidU hb1
  have HA1 := hidU hA1
  clear hb1 hs1 hA1 hk1
  go_wp2_with (first
    | (refine wpList_box1 rfl 9 (.tmp 1) rfl (.string nm) rfl (fun _ q => by cases q) ?_; intro w2 hA2 hb2 hs2; refine Hid.out ?_))
  refine hidU ?_
  obtain ⟨k2, hk2⟩ : ∃ k, k = w1.heap.size := ⟨_, rfl⟩
  rw [← hk2] at hA2 ⊢
  have HB2 := hidU (HB1.out.trans (hb2.mono HB1.out.size))
  have HA1 := hidU (HA1.out.below hb2)
  have HA2 := hidU hA2
  clear hb2 hs2 hA2 hk2
  go_wp2_with (first
    | (refine wpList_box1 rfl 29 (.tmp 2) rfl (.slice ba lb bc) rfl (fun _ q => by cases q) ?_; intro w3 hA3 hb3 hs3; refine Hid.out ?_))
  refine hidU ?_
  obtain ⟨k3, hk3⟩ : ∃ k, k = w2.heap.size := ⟨_, rfl⟩
  rw [← hk3] at hA3 ⊢
  have HB3 := hidU (HB2.out.trans (hb3.mono HB2.out.size))
  have HA1 := hidU (HA1.out.below hb3)
  have HA2 := hidU (HA2.out.below hb3)
  have HA3 := hidU hA3
  clear hb3 hs3 hA3 hk3
  have c1 : w3.cell? ⟨k1, 0, none⟩ = some (.pointer o) := by rw [HA1.out.cell]; rfl
  have HM := hidU (no_made (H.out.below HB3.out))
  go_wp2_with (go_at_call 33; refine HM.out.mono ?_; rintro _ x ⟨rfl, hw⟩; obtain rfl : w3 = x := hw.symm; clear hw)
  go_ret
  exact ⟨rfl, HB3.out⟩
theorem no_cut (h : NoD w o) (nm : ByteArray) (z : Int) : Calls Tryd.prog 14 #[.pointer o, .string nm, .int .i64 z] w fun r w' => r = .returned (.int .i64 1) ∧ Below w.heap.size w w' := by
  have H := hidU h
  clear h
  go_enter Tryd.func14, Tryd.ntmps14
  go_wp2_with (first
    | (refine wpList_box1 rfl 22 (.tmp 0) rfl (.pointer o) rfl (fun _ q => by cases q) ?_; intro w1 hA1 hb1 hs1; refine Hid.out ?_))
  refine hidU ?_
  obtain ⟨k1, hk1⟩ : ∃ k, k = w.heap.size := ⟨_, rfl⟩
  rw [← hk1] at hA1 ⊢
  have HB1 := hidU hb1
  have HA1 := hidU hA1
  clear hb1 hs1 hA1 hk1
  go_wp2_with (first
    | (refine wpList_box1 rfl 9 (.tmp 1) rfl (.string nm) rfl (fun _ q => by cases q) ?_; intro w2 hA2 hb2 hs2; refine Hid.out ?_))
  refine hidU ?_
  obtain ⟨k2, hk2⟩ : ∃ k, k = w1.heap.size := ⟨_, rfl⟩
  rw [← hk2] at hA2 ⊢
  have HB2 := hidU (HB1.out.trans (hb2.mono HB1.out.size))
  have HA1 := hidU (HA1.out.below hb2)
  have HA2 := hidU hA2
  clear hb2 hs2 hA2 hk2
  go_wp2_with (first
    | (refine wpList_box1 rfl 3 (.tmp 2) rfl (.int .i64 z) rfl (fun _ q => by cases q) ?_; intro w3 hA3 hb3 hs3; refine Hid.out ?_))
  refine hidU ?_
  obtain ⟨k3, hk3⟩ : ∃ k, k = w2.heap.size := ⟨_, rfl⟩
  rw [← hk3] at hA3 ⊢
  have HB3 := hidU (HB2.out.trans (hb3.mono HB2.out.size))
  have HA1 := hidU (HA1.out.below hb3)
  have HA2 := hidU (HA2.out.below hb3)
  have HA3 := hidU hA3
  clear hb3 hs3 hA3 hk3
  have c1 : w3.cell? ⟨k1, 0, none⟩ = some (.pointer o) := by rw [HA1.out.cell]; rfl
  have HM := hidU (no_made (H.out.below HB3.out))
  go_wp2_with (go_at_call 33; refine HM.out.mono ?_; rintro _ x ⟨rfl, hw⟩; obtain rfl : w3 = x := hw.symm; clear hw)
  go_ret
  exact ⟨rfl, HB3.out⟩
theorem no_rename (h : NoD w o) (nm to : ByteArray) : Calls Tryd.prog 16 #[.pointer o, .string nm, .string to] w fun r w' => r = .returned (.int .i64 1) ∧ Below w.heap.size w w' := by
  have H := hidU h
  clear h
  go_enter Tryd.func16, Tryd.ntmps16
  go_wp2_with (first
    | (refine wpList_box1 rfl 22 (.tmp 0) rfl (.pointer o) rfl (fun _ q => by cases q) ?_; intro w1 hA1 hb1 hs1; refine Hid.out ?_))
  refine hidU ?_
  obtain ⟨k1, hk1⟩ : ∃ k, k = w.heap.size := ⟨_, rfl⟩
  rw [← hk1] at hA1 ⊢
  have HB1 := hidU hb1
  have HA1 := hidU hA1
  clear hb1 hs1 hA1 hk1
  go_wp2_with (first
    | (refine wpList_box1 rfl 9 (.tmp 1) rfl (.string nm) rfl (fun _ q => by cases q) ?_; intro w2 hA2 hb2 hs2; refine Hid.out ?_))
  refine hidU ?_
  obtain ⟨k2, hk2⟩ : ∃ k, k = w1.heap.size := ⟨_, rfl⟩
  rw [← hk2] at hA2 ⊢
  have HB2 := hidU (HB1.out.trans (hb2.mono HB1.out.size))
  have HA1 := hidU (HA1.out.below hb2)
  have HA2 := hidU hA2
  clear hb2 hs2 hA2 hk2
  go_wp2_with (first
    | (refine wpList_box1 rfl 9 (.tmp 2) rfl (.string to) rfl (fun _ q => by cases q) ?_; intro w3 hA3 hb3 hs3; refine Hid.out ?_))
  refine hidU ?_
  obtain ⟨k3, hk3⟩ : ∃ k, k = w2.heap.size := ⟨_, rfl⟩
  rw [← hk3] at hA3 ⊢
  have HB3 := hidU (HB2.out.trans (hb3.mono HB2.out.size))
  have HA1 := hidU (HA1.out.below hb3)
  have HA2 := hidU (HA2.out.below hb3)
  have HA3 := hidU hA3
  clear hb3 hs3 hA3 hk3
  have c1 : w3.cell? ⟨k1, 0, none⟩ = some (.pointer o) := by rw [HA1.out.cell]; rfl
  have HM := hidU (no_made (H.out.below HB3.out))
  go_wp2_with (go_at_call 33; refine HM.out.mono ?_; rintro _ x ⟨rfl, hw⟩; obtain rfl : w3 = x := hw.symm; clear hw)
  go_ret
  exact ⟨rfl, HB3.out⟩
theorem no_sync (h : NoD w o) (nm : ByteArray) : Calls Tryd.prog 15 #[.pointer o, .string nm] w fun r w' => r = .returned (.int .i64 1) ∧ Below w.heap.size w w' := by
  have H := hidU h
  clear h
  go_enter Tryd.func15, Tryd.ntmps15
  go_wp2_with (first
    | (refine wpList_box1 rfl 22 (.tmp 0) rfl (.pointer o) rfl (fun _ q => by cases q) ?_; intro w1 hA1 hb1 hs1; refine Hid.out ?_))
  refine hidU ?_
  obtain ⟨k1, hk1⟩ : ∃ k, k = w.heap.size := ⟨_, rfl⟩
  rw [← hk1] at hA1 ⊢
  have HB1 := hidU hb1
  have HA1 := hidU hA1
  clear hb1 hs1 hA1 hk1
  go_wp2_with (first
    | (refine wpList_box1 rfl 9 (.tmp 1) rfl (.string nm) rfl (fun _ q => by cases q) ?_; intro w2 hA2 hb2 hs2; refine Hid.out ?_))
  refine hidU ?_
  obtain ⟨k2, hk2⟩ : ∃ k, k = w1.heap.size := ⟨_, rfl⟩
  rw [← hk2] at hA2 ⊢
  have HB2 := hidU (HB1.out.trans (hb2.mono HB1.out.size))
  have HA1 := hidU (HA1.out.below hb2)
  have HA2 := hidU hA2
  clear hb2 hs2 hA2 hk2
  have c1 : w2.cell? ⟨k1, 0, none⟩ = some (.pointer o) := by rw [HA1.out.cell]; rfl
  have c2 : w2.cell? ⟨k2, 0, none⟩ = some (.string nm) := by rw [HA2.out.cell]; rfl
  have HM := hidU (no_lacks (H.out.below HB2.out) nm)
  go_wp2_with (go_at_call 49; refine HM.out.mono ?_; rintro _ x ⟨rfl, hw⟩; obtain rfl : w2 = x := hw.symm; clear hw)
  go_ret
  exact ⟨rfl, HB2.out⟩
theorem no_remove (h : NoD w o) (nm : ByteArray) : Calls Tryd.prog 17 #[.pointer o, .string nm] w fun r w' => r = .returned (.int .i64 1) ∧ Below w.heap.size w w' := by
  have H := hidU h
  clear h
  go_enter Tryd.func17, Tryd.ntmps17
  go_wp2_with (first
    | (refine wpList_box1 rfl 22 (.tmp 0) rfl (.pointer o) rfl (fun _ q => by cases q) ?_; intro w1 hA1 hb1 hs1; refine Hid.out ?_))
  refine hidU ?_
  obtain ⟨k1, hk1⟩ : ∃ k, k = w.heap.size := ⟨_, rfl⟩
  rw [← hk1] at hA1 ⊢
  have HB1 := hidU hb1
  have HA1 := hidU hA1
  clear hb1 hs1 hA1 hk1
  go_wp2_with (first
    | (refine wpList_box1 rfl 9 (.tmp 1) rfl (.string nm) rfl (fun _ q => by cases q) ?_; intro w2 hA2 hb2 hs2; refine Hid.out ?_))
  refine hidU ?_
  obtain ⟨k2, hk2⟩ : ∃ k, k = w1.heap.size := ⟨_, rfl⟩
  rw [← hk2] at hA2 ⊢
  have HB2 := hidU (HB1.out.trans (hb2.mono HB1.out.size))
  have HA1 := hidU (HA1.out.below hb2)
  have HA2 := hidU hA2
  clear hb2 hs2 hA2 hk2
  have c1 : w2.cell? ⟨k1, 0, none⟩ = some (.pointer o) := by rw [HA1.out.cell]; rfl
  have c2 : w2.cell? ⟨k2, 0, none⟩ = some (.string nm) := by rw [HA2.out.cell]; rfl
  have HM := hidU (no_lacks (H.out.below HB2.out) nm)
  go_wp2_with (go_at_call 49; refine HM.out.mono ?_; rintro _ x ⟨rfl, hw⟩; obtain rfl : w2 = x := hw.symm; clear hw)
  go_ret
  exact ⟨rfl, HB2.out⟩
end
end Go.Proofs.YtcmkjjlchljffaaDoor

/- Pairs of disks, the program's and the given answer's; two pairs, of which one may be the other. -/
namespace Go.Proofs.YtcmkjjlchljffaaDoor
open Go.RowKit
set_option linter.unusedVariables false

section
variable {U : Prop} {CD : CDT} {B gc gr oc og n m : Nat} {w w' : World} {W F W' F' S : Nat → Prop} {D : Dk}
/-- A new disk of the given answer's. -/
theorem RD.new {g z : Nat} (hB : B ≤ g) (hA : At 61 w g [.int .i64 (z : Int), .slice none 0 0, .int .i64 (-1), .int .i64 0]) : RD B w g (fun k => k = g) (fun k => k = g) ⟨z, [], -1, 0⟩ :=
  ⟨.slice none 0 0, [], hA, OwnX.nil _ _ _, rfl, fun f h => (by cases h), rfl, fun k h => (by cases h), fun k h => ⟨h, by omega⟩, fun k h => by rw [h]; exact hA.lt⟩
end
end Go.Proofs.YtcmkjjlchljffaaDoor

/- DiskScript, given what the program's disk tells. -/
namespace Go.Proofs.YtcmkjjlchljffaaDoor
open Go.RowKit
set_option linter.unusedVariables false

theorem AT.one (a : AT) : ∀ v ∈ a.cells, v.oneCell' = true := by
  intro v hv
  simp [AT.cells] at hv
  rcases hv with rfl | rfl | rfl | rfl | rfl | rfl <;> rfl
def eA : El AT := ⟨51, 84, 6, 96, .agg #[.int .i64 0, .string ⟨#[]⟩, .string ⟨#[]⟩, .int .i64 0, .slice none 0 0, .slice none 0 0], AT.cells, fun _ => rfl, AT.one, by kernel_rfl, by kernel_rfl, rfl, by decide⟩
theorem i33 : (Tryd.prog.info? 84).map (·.size) = some 6 := by kernel_rfl
theorem z33 : (Tryd.prog.info? 84).map (fun i => (i.zero, i.size)) = some (some (.agg [Value.int .i64 0, .string ⟨#[]⟩, .string ⟨#[]⟩, .int .i64 0, .slice none 0 0, .slice none 0 0].toArray), 6) := by kernel_rfl
theorem wpList_loadA {ops : Array Oper} {rest : List Oper} {o : Oper} {a : Act} {w : World} {Q : Exit → Act → World → Prop} (hgd : o.guard = none) (x : Operand) (ho : o.op = .load 84 x)
    (k off : Nat) (t : AT) (hx : a.eval x = .pointer (some ⟨k, off, none⟩)) (hr : w.rangeAt k off t.cells)
    (h : wpList Tryd.prog ops Q rest (a.put o.dst (.agg t.cells.toArray)) w) : wpList Tryd.prog ops Q (o :: rest) a w := by
  obtain ⟨d, h1, h2⟩ := u33
  exact wpList_load_mid hgd 84 x ho k off hx t.cells d hr h1 h2 i33 h
/-- A call that came in, however long its rows are. -/
structure AT.In0 (B : Nat) (w : World) (a : AT) : Prop where
  rb : Row w a.ba a.ac.b
  lb : a.ac.b.length ≤ a.bc
  nb : a.ba = none → a.bc = 0
  bb : a.ac.b ≠ [] → ∀ ad, a.ba = some ad → ad.block < B
  rt : RowX eI w a.ta a.ac.torn
  lt : a.ac.torn.length ≤ a.tc
  nt : a.ta = none → a.tc = 0
  tt : a.ac.torn ≠ [] → ∀ ad, a.ta = some ad → ad.block < B
  l3 : a.ac.nm.size ≤ 9223372036854775807
  l4 : a.ac.to.size ≤ 9223372036854775807
theorem AT.In0.to {B : Nat} {w : World} {a : AT} (h : a.In0 B w) (h1 : a.ac.b.length ≤ 1099511627776) (h2 : a.ac.torn.length ≤ 1099511627776) : a.In B w :=
  ⟨h.rb, h.lb, h.nb, h.bb, h.rt, h.lt, h.nt, h.tt, h1, h2, h.l3, h.l4⟩
theorem AT.In0.below {B : Nat} {w w' : World} {a : AT} (h : a.In0 B w) (hb : Below B w w') : a.In0 B w' :=
  ⟨h.rb.same0 fun q ad ha => hb.block _ (h.bb q ad ha), h.lb, h.nb, h.bb, h.rt.same0 fun q ad ha => hb.block _ (h.tt q ad ha), h.lt, h.nt, h.tt, h.l3, h.l4⟩
/-- Calls that came in. -/
structure ActsIn (w : World) (aa : Option Addr) (al : List AT) : Prop where
  row : RowX eA w aa al
  bb : ∀ ad, aa = some ad → ad.block < w.heap.size
  ins : ∀ a ∈ al, a.In0 w.heap.size w ∧ a.ac.z ≤ 9223372036854775807
end Go.Proofs.YtcmkjjlchljffaaDoor

/- One disk of the program's, call by call; awake. -/
namespace Go.Proofs.YtcmkjjlchljffaaDoor
open Go.RowKit
set_option linter.unusedVariables false

/-- The program's disk is D. -/
def Sta (CD : CDT) (B : Nat) (w : World) (g n : Nat) (D : Dk) (S : Nat → Prop) : Prop := ∃ W F, CD B w g W F D ∧ Gd n D ∧ ∀ k, S k → ¬ F k ∧ k < w.heap.size
/-- Blocks that stand. -/
def Std (S : Nat → Prop) (x x' : World) : Prop := ∀ k, S k → x'.heap[k]? = x.heap[k]?
/-- The block of a row that is not empty. -/
def blkS (a : Option Addr) (b : List UInt8) : Nat → Prop := fun k => b ≠ [] ∧ ∃ ad, a = some ad ∧ ad.block = k
theorem Row.std {x x' : World} {a : Option Addr} {b : List UInt8} {S : Nat → Prop} (h : Row x a b) (hs : Std S x x') (hS : ∀ k, blkS a b k → S k) : Row x' a b := by
  by_cases hb : b = []
  · exact .inl hb
  · exact h.same fun ad ha => hs _ (hS _ ⟨hb, ad, ha, rfl⟩)
section
variable {U : Prop} {CD : CDT} {B g n e : Nat} {x x' : World} {D D' : Dk} {nm to : ByteArray} {z : Int} {S : Nat → Prop}
theorem Sta.below (Fa : Face U CD) (h : Sta CD B x g n D S) (hb : Below x.heap.size x x') : Sta CD B x' g n D S := by
  obtain ⟨W, F, h1, h2, h3⟩ := h
  exact ⟨W, F, Fa.below h1 hb, h2, fun k hk => ⟨(h3 k hk).1, Nat.lt_of_lt_of_le (h3 k hk).2 hb.size⟩⟩
theorem Sta.std (h : Sta CD B x g n D S) (hb : Below x.heap.size x x') : Std S x x' := by
  obtain ⟨W, F, h1, h2, h3⟩ := h
  exact fun k hk => hb.block k (h3 k hk).2
theorem sta_of {W F : Nat → Prop} {o : Dk × Int} {r : Ending} (Fa : Face U CD) (h1 : CD B x g W F D) (hB : B ≤ x.heap.size) (hS : ∀ k, S k → ¬ F k ∧ k < x.heap.size) (hg : Gd (n + 1) o.1) (h : PostC CD B g W F x o r x') : r = .returned (.int .i64 o.2) ∧ Sta CD B x' g (n + 1) o.1 S ∧ Below B x x' ∧ Std S x x' := by
  obtain ⟨rfl, W', F', q1, q2⟩ := h
  exact ⟨rfl, ⟨W', F', q1, hg, fun k hk => ⟨fun q => (q2.rd k q).elim (hS k hk).1 (by have := (hS k hk).2; omega), Nat.lt_of_lt_of_le (hS k hk).2 q2.chg.size⟩⟩, q2.chg.below hB fun k hk => (Fa.wf h1 k hk).2, fun k hk => q2.chg.block k (hS k hk).2 fun q => (hS k hk).1 (Fa.wf h1 k q).1⟩
theorem Sta.app (Fa : Face U CD) {W : Nat → Prop} {cs : List Value} {b : List UInt8} {o : Dk × Int} (h : Sta CD B x g n D S) (hB : B ≤ x.heap.size) (hn : n ≤ 1048576) (hs : nm.size ≤ 9223372036854775807) (hc : cs = b.map B8) (hl : b.length ≤ 1048576) (ho : apO D nm b = o) :
    Calls Tryd.prog 10 #[.pointer (some ⟨g, 0, none⟩), .string nm, .slice (some ⟨x.heap.size, 0, none⟩) b.length b.length] (x.alloc (.cells cs.toArray 5)) fun r w' => r = .returned (.int .i64 o.2) ∧ Sta CD B w' g (n + 1) o.1 S ∧ Below B x w' ∧ Std S x w' := by
  obtain ⟨W, F, h1, h2, h3⟩ := h
  have hb : Below x.heap.size x (x.alloc (.cells cs.toArray 5)) := (Below.refl _ x).alloc (Nat.le_refl _) _
  have hA : At 5 (x.alloc (.cells cs.toArray 5)) x.heap.size (b.map B8) := by rw [← hc]; exact _root_.Go.heap_alloc_new x _
  have hc1 := Fa.below h1 hb
  have hrow : Row (x.alloc (.cells cs.toArray 5)) (some ⟨x.heap.size, 0, none⟩) b := Blk.row_all (blk_at.2 hA)
  have hB' := Nat.le_trans hB hb.size
  have hS' : ∀ k, S k → ¬ F k ∧ k < _ := fun k hk => ⟨(h3 k hk).1, Nat.lt_of_lt_of_le (h3 k hk).2 hb.size⟩
  refine (Fa.append (nm := nm) hc1 (h2.fine (by omega)) h2.so hB' hs hrow rfl (Nat.le_refl _) (fun h => by cases h) (by omega) (fun _ ad ha => by cases ha; exact ⟨fun q => by have h9 := Fa.lt h1 _ (Fa.wf h1 _ q).1; exact absurd h9 (Nat.lt_irrefl _), hA.lt⟩)).mono ?_
  rintro r w' hp
  rw [ho] at hp
  obtain ⟨q1, q2, q3, q4⟩ := sta_of (n := n) Fa hc1 hB' hS' (by rw [← ho]; exact gd_ap h2) hp
  exact ⟨q1, q2, (hb.mono hB).trans q3, fun k hk => (q4 k hk).trans (hb.block k (h3 k hk).2)⟩
theorem Sta.sync (Fa : Face U CD) {o : Dk × Int} (h : Sta CD B x g n D S) (hB : B ≤ x.heap.size) (hn : n ≤ 1048576) (hs : nm.size ≤ 9223372036854775807) (ho : syO D nm = o) :
    Calls Tryd.prog 15 #[.pointer (some ⟨g, 0, none⟩), .string nm] x fun r w' => r = .returned (.int .i64 o.2) ∧ Sta CD B w' g (n + 1) o.1 S ∧ Below B x w' ∧ Std S x w' := by
  obtain ⟨W, F, h1, h2, h3⟩ := h
  refine (Fa.sync (nm := nm) h1 (h2.fine (by omega)) h2.so hB hs).mono ?_
  rintro r w' hp
  rw [ho] at hp
  exact sta_of Fa h1 hB h3 (by rw [← ho]; exact gd_sy h2) hp
theorem Sta.cut (Fa : Face U CD) {o : Dk × Int} (h : Sta CD B x g n D S) (hB : B ≤ x.heap.size) (hn : n ≤ 1048576) (hs : nm.size ≤ 9223372036854775807) (ho : ctO D nm z = o) :
    Calls Tryd.prog 14 #[.pointer (some ⟨g, 0, none⟩), .string nm, .int .i64 z] x fun r w' => r = .returned (.int .i64 o.2) ∧ Sta CD B w' g (n + 1) o.1 S ∧ Below B x w' ∧ Std S x w' := by
  obtain ⟨W, F, h1, h2, h3⟩ := h
  refine (Fa.cut (nm := nm) (z := z) h1 (h2.fine (by omega)) h2.so hB hs).mono ?_
  rintro r w' hp
  rw [ho] at hp
  exact sta_of Fa h1 hB h3 (by rw [← ho]; exact gd_ct h2) hp
theorem Sta.rename (Fa : Face U CD) {o : Dk × Int} (h : Sta CD B x g n D S) (hB : B ≤ x.heap.size) (hn : n ≤ 1048576) (hs : nm.size ≤ 9223372036854775807) (ht : to.size ≤ 9223372036854775807) (ho : rnO D nm to = o) :
    Calls Tryd.prog 16 #[.pointer (some ⟨g, 0, none⟩), .string nm, .string to] x fun r w' => r = .returned (.int .i64 o.2) ∧ Sta CD B w' g (n + 1) o.1 S ∧ Below B x w' ∧ Std S x w' := by
  obtain ⟨W, F, h1, h2, h3⟩ := h
  refine (Fa.rename (nm := nm) (to := to) h1 (h2.fine (by omega)) h2.so hB hs ht).mono ?_
  rintro r w' hp
  rw [ho] at hp
  exact sta_of Fa h1 hB h3 (by rw [← ho]; exact gd_rn h2) hp
theorem Sta.stop (Fa : Face U CD) {o : Dk × Int} (h : Sta CD B x g n D S) (hB : B ≤ x.heap.size) (hz : z ≤ 9223372036854775807) (ho : (stD D z, stZ z) = o) :
    Calls Tryd.prog 18 #[.pointer (some ⟨g, 0, none⟩), .int .i64 z] x fun r w' => r = .returned (.int .i64 o.2) ∧ Sta CD B w' g (n + 1) o.1 S ∧ Below B x w' ∧ Std S x w' := by
  obtain ⟨W, F, h1, h2, h3⟩ := h
  refine (Fa.stop (z := z) h1 hB).mono ?_
  rintro r w' hp
  rw [ho] at hp
  exact sta_of Fa h1 hB h3 (by rw [← ho]; exact gd_st h2 hz) hp
theorem Sta.crash (Fa : Face U CD) {cs : List Value} {torn : List Int} {d' : Dk} (h : Sta CD B x g n D S) (hB : B ≤ x.heap.size) (hn : n ≤ 1048576) (hc : cs = eI.flat torn) (hl : torn.length ≤ 1048576) (ho : crD D torn = d') :
    Calls Tryd.prog 19 #[.pointer (some ⟨g, 0, none⟩), .slice (some ⟨x.heap.size, 0, none⟩) torn.length torn.length] (x.alloc (.cells cs.toArray 3)) fun r w' => r = .returned (.int .i64 0) ∧ Sta CD B w' g (n + 1) d' S ∧ Below B x w' ∧ Std S x w' := by
  obtain ⟨W, F, h1, h2, h3⟩ := h
  have hb : Below x.heap.size x (x.alloc (.cells cs.toArray 3)) := (Below.refl _ x).alloc (Nat.le_refl _) _
  have hA : At 3 (x.alloc (.cells cs.toArray 3)) x.heap.size (eI.flat torn) := by rw [← hc]; exact _root_.Go.heap_alloc_new x _
  have hc1 := Fa.below h1 hb
  have hrow : RowX eI (x.alloc (.cells cs.toArray 3)) (some ⟨x.heap.size, 0, none⟩) torn := .inr ⟨_, 0, rfl, hA.rng⟩
  have hB' := Nat.le_trans hB hb.size
  have hS' : ∀ k, S k → ¬ F k ∧ k < _ := fun k hk => ⟨(h3 k hk).1, Nat.lt_of_lt_of_le (h3 k hk).2 hb.size⟩
  refine (Fa.crash hc1 (h2.fine (by omega)) h2.so hB' hrow rfl (Nat.le_refl _) (by omega) (fun ad ha => by cases ha; exact ⟨fun q => by have h9 := Fa.lt h1 _ (Fa.wf h1 _ q).1; exact absurd h9 (Nat.lt_irrefl _), hA.lt⟩)).mono ?_
  rintro r w' hp
  obtain ⟨q1, q2, q3, q4⟩ := sta_of (n := n) Fa hc1 hB' hS' (gd_cr h2) hp
  rw [ho] at q2
  exact ⟨q1, q2, (hb.mono hB).trans q3, fun k hk => (q4 k hk).trans (hb.block k (h3 k hk).2)⟩
theorem Sta.crashNil (Fa : Face U CD) {d' : Dk} (h : Sta CD B x g n D S) (hB : B ≤ x.heap.size) (hn : n ≤ 1048576) (ho : crD D [] = d') :
    Calls Tryd.prog 19 #[.pointer (some ⟨g, 0, none⟩), .slice none 0 0] x fun r w' => r = .returned (.int .i64 0) ∧ Sta CD B w' g (n + 1) d' S ∧ Below B x w' ∧ Std S x w' := by
  obtain ⟨W, F, h1, h2, h3⟩ := h
  refine (Fa.crash (torn := []) h1 (h2.fine (by omega)) h2.so hB (.inl rfl) rfl (Nat.le_refl _) (Nat.zero_le _) (fun ad ha => by cases ha)).mono ?_
  rintro r w' hp
  obtain ⟨q1, q2, q3, q4⟩ := sta_of (n := n) Fa h1 hB h3 (gd_cr h2) hp
  rw [ho] at q2
  exact ⟨q1, q2, q3, q4⟩
theorem Sta.loose (Fa : Face U CD) {v : Int} (h : Sta CD B x g n D S) (hn : n ≤ 1048576) (hs : nm.size ≤ 9223372036854775807) (hv : lsD D.fs nm = v) :
    Calls Tryd.prog 23 #[.pointer (some ⟨g, 0, none⟩), .string nm] x fun r w' => r = .returned (.int .i64 v) ∧ Below x.heap.size x w' := by
  obtain ⟨W, F, h1, h2, h3⟩ := h
  rw [← hv]
  exact Fa.loose h1 (h2.fine (by omega)) hs
theorem Sta.used (Fa : Face U CD) {v : Int} (h : Sta CD B x g n D S) (hn : n ≤ 1048576) (hv : (usedL D.fs : Int) = v) :
    Calls Tryd.prog 21 #[.pointer (some ⟨g, 0, none⟩)] x fun r w' => r = .returned (.int .i64 v) ∧ Below x.heap.size x w' := by
  obtain ⟨W, F, h1, h2, h3⟩ := h
  rw [← hv]
  exact Fa.used h1 (h2.fine (by omega))
theorem Sta.stopped (Fa : Face U CD) {v : Bool} (h : Sta CD B x g n D S) (hv : (D.lf == 0) = v) : Calls Tryd.prog 24 #[.pointer (some ⟨g, 0, none⟩)] x fun r w' => r = .returned (.bool v) ∧ Below x.heap.size x w' := by
  obtain ⟨W, F, h1, h2, h3⟩ := h
  rw [← hv]
  exact Fa.stopped h1
theorem Sta.names (Fa : Face U CD) {ns : List ByteArray} (h : Sta CD B x g n D S) (hn : n ≤ 1048576) (hv : D.fs.map Fi.nm = ns) : Calls Tryd.prog 20 #[.pointer (some ⟨g, 0, none⟩)] x fun r w' => ∃ a c, r = .returned (.slice a ns.length c) ∧ RowX eS w' a ns ∧ ns.length ≤ c ∧ Below x.heap.size x w' := by
  obtain ⟨W, F, h1, h2, h3⟩ := h
  refine (Fa.names h1 (h2.fine (by omega)) h2.so).mono ?_
  rintro r w' ⟨v, rfl, q1, q2⟩
  rw [hv] at q1
  obtain ⟨a, c, rfl, q3, q4⟩ := q1.row
  exact ⟨a, c, rfl, q4, q3, q2⟩
theorem Sta.read (Fa : Face U CD) {v : Int} {b : List UInt8} (h : Sta CD B x g n D S) (hn : n ≤ 1048576) (hs : nm.size ≤ 9223372036854775807) (hv : rdZ D nm = v) (hb : rdB D nm = b) :
    Calls Tryd.prog 13 #[.pointer (some ⟨g, 0, none⟩), .string nm] x fun r w' => ∃ a c, r = .returned (.tuple #[.slice a b.length c, .int .i64 v]) ∧ Row w' a b ∧ b.length ≤ c ∧ Below x.heap.size x w' ∧ Sta CD B w' g n D (fun k => S k ∨ blkS a b k) := by
  obtain ⟨W, F, h1, h2, h3⟩ := h
  refine (Fa.read (nm := nm) h1 (h2.fine (by omega)) hs).mono ?_
  rintro r w' ⟨u, rfl, q1, q2⟩
  rw [hb] at q1
  have hblk : ∀ a c, u = .slice a b.length c → ∀ k, blkS a b k → x.heap.size ≤ k ∧ k < w'.heap.size := by
    rintro a c e k ⟨hne, ad, rfl, rfl⟩
    rcases q1 with ⟨h0, _⟩ | ⟨h0, _⟩
    · exact absurd h0 hne
    · have := h0.block ad.block (by rw [e]; rfl)
      exact ⟨this.1, this.2.1⟩
  obtain ⟨a, c, e, q3, q4⟩ := q1.row
  have hk := hblk a c e
  subst e
  refine ⟨a, c, by rw [hv], q4, q3, q2, W, F, Fa.below h1 q2, h2, ?_⟩
  rintro k (q | q)
  · exact ⟨(h3 k q).1, Nat.lt_of_lt_of_le (h3 k q).2 q2.size⟩
  · exact ⟨fun p => by have := Fa.lt h1 k p; have := (hk k q).1; omega, (hk k q).2⟩
/-- Append of whatever row is new. -/
theorem Sta.appRow (Fa : Face U CD) {gb : Nat} {b : List UInt8} {o : Dk × Int} (h : Sta CD B x g n D S) (hb : Below x.heap.size x x') (hB : B ≤ x.heap.size) (hn : n ≤ 1048576) (hs : nm.size ≤ 9223372036854775807) (hrow : Row x' (some ⟨gb, 0, none⟩) b) (hg : x.heap.size ≤ gb) (hg2 : gb < x'.heap.size) (hl : b.length ≤ 1048576) (ho : apO D nm b = o) :
    Calls Tryd.prog 10 #[.pointer (some ⟨g, 0, none⟩), .string nm, .slice (some ⟨gb, 0, none⟩) b.length b.length] x' fun r w' => r = .returned (.int .i64 o.2) ∧ Sta CD B w' g (n + 1) o.1 S ∧ Below B x w' ∧ Std S x w' := by
  obtain ⟨W, F, h1, h2, h3⟩ := h
  have hc1 := Fa.below h1 hb
  have hB' := Nat.le_trans hB hb.size
  have hS' : ∀ k, S k → ¬ F k ∧ k < _ := fun k hk => ⟨(h3 k hk).1, Nat.lt_of_lt_of_le (h3 k hk).2 hb.size⟩
  refine (Fa.append (nm := nm) hc1 (h2.fine (by omega)) h2.so hB' hs hrow rfl (Nat.le_refl _) (fun h => by cases h) (by omega) (fun _ ad ha => by cases ha; exact ⟨fun q => by have h9 : gb < x.heap.size := Fa.lt h1 _ (Fa.wf h1 _ q).1; omega, hg2⟩)).mono ?_
  rintro r w' hp
  rw [ho] at hp
  obtain ⟨q1, q2, q3, q4⟩ := sta_of (n := n) Fa hc1 hB' hS' (by rw [← ho]; exact gd_ap h2) hp
  exact ⟨q1, q2, (hb.mono hB).trans q3, fun k hk => (q4 k hk).trans (hb.block k (h3 k hk).2)⟩
end
def nA : ByteArray := ⟨#[97]⟩
theorem size_a : (ByteArray.mk #[97]).size ≤ 9223372036854775807 := by decide
theorem w1_ap : apO ⟨10, [], -1, 0⟩ ⟨#[97]⟩ [1, 2] = (⟨10, [⟨⟨#[97]⟩, [1, 2], 0, false⟩], -1, 1⟩, 0) := by kernel_rfl
theorem w2_sy : syO ⟨10, [⟨⟨#[97]⟩, [1, 2], 0, false⟩], -1, 1⟩ ⟨#[97]⟩ = (⟨10, [⟨⟨#[97]⟩, [1, 2], 2, true⟩], -1, 2⟩, 0) := by kernel_rfl
theorem w3_ap : apO ⟨10, [⟨⟨#[97]⟩, [1, 2], 2, true⟩], -1, 2⟩ ⟨#[97]⟩ [3, 4] = (⟨10, [⟨⟨#[97]⟩, [1, 2, 3, 4], 2, true⟩], -1, 3⟩, 0) := by kernel_rfl
theorem w4_cr : crD ⟨10, [⟨⟨#[97]⟩, [1, 2, 3, 4], 2, true⟩], -1, 3⟩ [1] = ⟨10, [⟨⟨#[97]⟩, [1, 2, 3], 3, true⟩], -1, 3⟩ := by kernel_rfl
set_option maxRecDepth 100000 in
set_option maxHeartbeats 6400000 in
theorem awake_of {U : Prop} {CD : CDT} (Fa : Face U CD) (w : World) : Calls Tryd.prog 27 #[] w fun r w' => r = .returned (.bool true) ∧ Below w.heap.size w w' := by
  have H1 := hidU (Fa.newOk (n := 10) (w := w) w.heap.size (by decide) (by decide) (Nat.le_refl _))
  go_enter Tryd.func27, Tryd.ntmps27
  go_wp2_with (go_at_call 8; refine H1.out.mono ?_; rintro _ w1 ⟨g, W1, F1, rfl, hc1, hb1, _⟩; refine Hid.out ?_)
  refine hidU ?_
  have hs1 : Sta CD w.heap.size w1 g 0 ⟨10, [], -1, 0⟩ (fun _ => False) := ⟨W1, F1, hc1, ⟨by decide, Nat.zero_le _, Nat.zero_le _, Int.le_refl _, by show (-1 : Int) ≤ _; omega, Nat.le_refl _, fun f h => (by cases h), List.Pairwise.nil⟩, fun _ h => h.elim⟩
  have HB1 := hidU hb1
  have H2 := hidU (hs1.app Fa (W := W1) (cs := [.int .u8 1, .int .u8 2]) hb1.size (by omega) size_a (by kernel_rfl) (by decide) w1_ap)
  clear hc1 hb1 hs1 H1
  go_wp2_with (go_at_call 10; refine H2.out.mono ?_; rintro _ w2 ⟨rfl, hs2, hb2, _⟩; refine Hid.out ?_)
  refine hidU ?_
  have HB2 := hidU (HB1.out.trans hb2)
  have H3 := hidU (hs2.sync Fa HB2.out.size (by omega) size_a w2_sy)
  clear hs2 hb2 H2
  go_wp2_with (go_at_call 15; refine H3.out.mono ?_; rintro _ w3 ⟨rfl, hs3, hb3, _⟩; refine Hid.out ?_)
  refine hidU ?_
  have HB3 := hidU (HB2.out.trans hb3)
  have H4 := hidU (hs3.app Fa (W := W1) (cs := [.int .u8 3, .int .u8 4]) HB3.out.size (by omega) size_a (by kernel_rfl) (by decide) w3_ap)
  clear hs3 hb3 H3
  go_wp2_with (go_at_call 10; refine H4.out.mono ?_; rintro _ w4 ⟨rfl, hs4, hb4, _⟩; refine Hid.out ?_)
  refine hidU ?_
  have HB4 := hidU (HB3.out.trans hb4)
  have HS4 := hidU hs4
  have H5 := hidU (hs4.loose Fa (v := 2) (by omega) size_a (by kernel_rfl))
  clear hs4 hb4 H4
  go_wp2_with (go_at_call 23; refine H5.out.mono ?_; rintro _ w5 ⟨rfl, hb5⟩; refine Hid.out ?_)
  refine hidU ?_
  have HB5 := hidU (HB4.out.trans (hb5.mono HB4.out.size))
  have HS5 := hidU (HS4.out.below Fa hb5)
  have H6 := hidU (HS5.out.used Fa (v := 4) (by omega) (by kernel_rfl))
  clear hb5 H5 HS4
  go_wp2_with (go_at_call 21; refine H6.out.mono ?_; rintro _ w6 ⟨rfl, hb6⟩; refine Hid.out ?_)
  refine hidU ?_
  have HB6 := hidU (HB5.out.trans (hb6.mono HB5.out.size))
  have HS6 := hidU (HS5.out.below Fa hb6)
  have H7 := hidU (HS6.out.crash Fa (cs := [.int .i64 1]) HB6.out.size (by omega) (by kernel_rfl) (by decide) w4_cr)
  clear hb6 H6 HS5
  go_wp2_with (go_at_call 19; refine H7.out.mono ?_; rintro _ w7 ⟨rfl, hs7, hb7, _⟩; refine Hid.out ?_)
  refine hidU ?_
  have HB7 := hidU (HB6.out.trans hb7)
  have HS7 := hidU hs7
  have H8 := hidU (hs7.read Fa (v := 0) (b := [1, 2, 3]) (by omega) size_a (by kernel_rfl) (by kernel_rfl))
  clear hs7 hb7 H7
  go_wp2_with (go_at_call 13; refine H8.out.mono ?_; rintro _ w8 ⟨a8, c8, rfl, hr8, _, hb8, _⟩; refine Hid.out ?_)
  refine hidU ?_
  have HB8 := hidU (HB7.out.trans (hb8.mono HB7.out.size))
  have HS8 := hidU (HS7.out.below Fa hb8)
  have hbn : Below w8.heap.size w8 (w8.alloc (.cells #[.int .u8 1, .int .u8 2, .int .u8 3] 5)) := (Below.refl _ w8).alloc (Nat.le_refl _) _
  have hA8 : At 5 (w8.alloc (.cells #[.int .u8 1, .int .u8 2, .int .u8 3] 5)) w8.heap.size (([1, 2, 3] : List UInt8).map B8) := _root_.Go.heap_alloc_new w8 _
  have H9 := hidU (same_any a8 (some ⟨w8.heap.size, 0, none⟩) c8 3 [1, 2, 3] [1, 2, 3] _ (hr8.below hbn) (Blk.row_all (blk_at.2 hA8)))
  have HS9 := hidU (HS8.out.below Fa hbn)
  have HB9 := hidU (HB8.out.trans (hbn.mono HB8.out.size))
  have H10 := hidU (HS9.out.loose Fa (nm := ⟨#[97]⟩) (v := 0) (by omega) size_a (by kernel_rfl))
  clear hr8 hb8 H8 hbn hA8
  go_wp2_with (first | (go_at_call 31; refine H9.out.mono ?_; rintro _ w9 ⟨rfl, hw9⟩; subst hw9) | (go_at_call 23; refine H10.out.mono ?_; rintro _ w10 ⟨rfl, hb10⟩; refine Hid.out ?_))
  refine hidU ?_
  have HBf := hidU (HB9.out.trans (hb10.mono HB9.out.size))
  clear hb10
  go_wp2
  go_ret
  exact ⟨rfl, HBf.out⟩
end Go.Proofs.YtcmkjjlchljffaaDoor

/- DiskNone. -/
namespace Go.Proofs.YtcmkjjlchljffaaDoor
open Go.RowKit
set_option linter.unusedVariables false
set_option maxRecDepth 100000
set_option maxHeartbeats 3200000
/-- What the loop keeps: nil and a disk of nothing. -/
structure Two (w : World) (wr : World) (g k : Nat) : Prop where
  bel : Below w.heap.size w wr
  z : At 35 wr g [.pointer none, .int .i64 0, .map none, .int .i64 0, .int .i64 0]
  p : At 22 wr k [.pointer none, .pointer (some ⟨g, 0, none⟩)]
theorem Two.at {w wr : World} {g k i : Nat} (h : Two w wr g k) (hi : i < 2) : ∃ o, wr.cell? ⟨k, i, none⟩ = some (.pointer o) ∧ NoD wr o := by
  have : i = 0 ∨ i = 1 := by omega
  rcases this with rfl | rfl
  · exact ⟨none, by rw [h.p.cell]; rfl, .inl rfl⟩
  · exact ⟨some ⟨g, 0, none⟩, by rw [h.p.cell]; rfl, .inr ⟨g, _, _, _, _, rfl, h.z⟩⟩
theorem Two.below {w wr x : World} {g k : Nat} (h : Two w wr g k) (hb : Below wr.heap.size wr x) : Two w x g k := ⟨h.bel.trans (hb.mono h.bel.size), h.z.below hb, h.p.below hb⟩
theorem two_start (w : World) : Two w ((w.alloc (.cells #[.pointer none, .int .i64 0, .map none, .int .i64 0, .int .i64 0] 35)).alloc (.cells #[.pointer none, .pointer (some ⟨w.heap.size, 0, none⟩)] 22)) w.heap.size (w.heap.size + 1) := by
  have b1 : Below w.heap.size w (w.alloc (.cells #[.pointer none, .int .i64 0, .map none, .int .i64 0, .int .i64 0] 35)) := (Below.refl _ w).alloc (Nat.le_refl _) _
  have hz : (w.alloc (.cells #[.pointer none, .int .i64 0, .map none, .int .i64 0, .int .i64 0] 35)).heap.size = w.heap.size + 1 := by show (w.heap.push _).size = _; simp
  have a1 : At 35 (w.alloc (.cells #[.pointer none, .int .i64 0, .map none, .int .i64 0, .int .i64 0] 35)) w.heap.size [.pointer none, .int .i64 0, .map none, .int .i64 0, .int .i64 0] := _root_.Go.heap_alloc_new w _
  have b2 := (Below.refl _ (w.alloc (.cells #[.pointer none, .int .i64 0, .map none, .int .i64 0, .int .i64 0] 35))).alloc (Nat.le_refl _) (.cells #[.pointer none, .pointer (some ⟨w.heap.size, 0, none⟩)] 22)
  have a2 := _root_.Go.heap_alloc_new (w.alloc (.cells #[.pointer none, .int .i64 0, .map none, .int .i64 0, .int .i64 0] 35)) (.cells #[.pointer none, .pointer (some ⟨w.heap.size, 0, none⟩)] 22)
  rw [hz] at a2
  exact ⟨b1.trans (b2.mono b1.size), a1.below b2, a2⟩
theorem none_of (nm : ByteArray) (ba : Option Addr) (lb bc : Nat) (n : Int) (w : World) (HK : ∀ x, Calls Tryd.prog 27 #[] x fun r w' => r = .returned (.bool true) ∧ Below x.heap.size x w') :
    Calls Tryd.prog 4 #[.string nm, .slice ba lb bc, .int .i64 n] w fun r w' => r = .returned (.bool true) ∧ Below w.heap.size w w' := by
  have HT := hidU (two_start w)
  go_enter Tryd.func4, Tryd.ntmps4
  go_wp2
  obtain ⟨g, hg⟩ : ∃ g, Hid (g = w.heap.size) := ⟨_, rfl⟩
  obtain ⟨k, hk⟩ : ∃ k, Hid (k = w.heap.size + 1) := ⟨_, rfl⟩
  rw [← hk.out, ← hg.out] at HT
  rw [← hk.out, ← hg.out]
  go_loopw [8] (fun j wr => ∃ i : Nat, j = .int .i64 (i : Int) ∧ i ≤ 2 ∧ Hid (Two w wr g k)) (fun j _ => 2 - (intOf j).toNat)
  case atStart => exact ⟨0, rfl, by omega, HT.out⟩
  case round =>
    obtain ⟨i, rfl, hi, H⟩ := hrel
    by_cases hc : i < 2
    · obtain ⟨o, c, hno⟩ := H.out.at hc
      have HN := hidU (fun x (hx : Below wr.heap.size wr x) => hno.below hx)
      have HB0 := hidU (Below.refl wr.heap.size wr)
      clear hno
      go_wp2_with (first
        | (go_at_call 13; refine (no_read (HN.out _ HB0.out) nm).mono ?_; rintro _ y ⟨rfl, hw⟩; obtain rfl : wr = y := hw.symm; clear hw)
        | (go_at_call 10; refine (no_append (HN.out _ HB0.out) nm ba lb bc).mono ?_; rintro _ y1 ⟨rfl, hb⟩; have HB1 := hidU (HB0.out.trans (hb.mono HB0.out.size)); clear hb)
        | (go_at_call 14; refine (no_cut (HN.out _ HB1.out) nm n).mono ?_; rintro _ y2 ⟨rfl, hb⟩; have HB2 := hidU (HB1.out.trans (hb.mono HB1.out.size)); clear hb)
        | (go_at_call 15; refine (no_sync (HN.out _ HB2.out) nm).mono ?_; rintro _ y3 ⟨rfl, hb⟩; have HB3 := hidU (HB2.out.trans (hb.mono HB2.out.size)); clear hb)
        | (go_at_call 16; refine (no_rename (HN.out _ HB3.out) nm nm).mono ?_; rintro _ y4 ⟨rfl, hb⟩; have HB4 := hidU (HB3.out.trans (hb.mono HB3.out.size)); clear hb)
        | (go_at_call 17; refine (no_remove (HN.out _ HB4.out) nm).mono ?_; rintro _ y5 ⟨rfl, hb⟩; have HB5 := hidU (HB4.out.trans (hb.mono HB4.out.size)); clear hb)
        | (go_at_call 18; refine (no_stop (HN.out _ HB5.out) n).mono ?_; rintro _ y ⟨rfl, hw⟩; obtain rfl : y5 = y := hw.symm; clear hw)
        | (go_at_call 19; refine (no_crash (HN.out _ HB5.out)).mono ?_; rintro _ y ⟨rfl, hw⟩; obtain rfl : y5 = y := hw.symm; clear hw)
        | (go_at_call 20; refine (no_names (HN.out _ HB5.out)).mono ?_; rintro _ y ⟨rfl, hw⟩; obtain rfl : y5 = y := hw.symm; clear hw)
        | (go_at_call 21; refine (no_used (HN.out _ HB5.out)).mono ?_; rintro _ y ⟨rfl, hw⟩; obtain rfl : y5 = y := hw.symm; clear hw)
        | (go_at_call 22; refine (no_size (HN.out _ HB5.out)).mono ?_; rintro _ y ⟨rfl, hw⟩; obtain rfl : y5 = y := hw.symm; clear hw)
        | (go_at_call 23; refine (no_loose (HN.out _ HB5.out) nm).mono ?_; rintro _ y ⟨rfl, hw⟩; obtain rfl : y5 = y := hw.symm; clear hw)
        | (go_at_call 24; refine (no_stopped (HN.out _ HB5.out)).mono ?_; rintro _ y ⟨rfl, hw⟩; obtain rfl : y5 = y := hw.symm; clear hw)
        | (go_at_call 25; refine (no_writes (HN.out _ HB5.out)).mono ?_; rintro _ y ⟨rfl, hw⟩; obtain rfl : y5 = y := hw.symm; clear hw)
        | (go_at_call 26; refine (no_clone (HN.out _ HB5.out)).mono ?_; rintro _ y ⟨rfl, hw⟩; obtain rfl : y5 = y := hw.symm; clear hw))
      refine ⟨⟨i + 1, rfl, by omega, H.out.below HB5.out⟩, ?_⟩
      show 2 - ((i : Int) + 1).toNat < 2 - (i : Int).toNat
      omega
    · have hb := H.out.bel
      have hi2 : i = 2 := by omega
      subst hi2
      have HB := hidU hb
      clear hb
      go_wp2_with (go_at_call 27; refine (HK _).mono ?_; rintro _ y ⟨rfl, hb⟩; have HB2 := hidU (HB.out.trans (hb.mono HB.out.size)); clear hb)
      go_ret
      exact ⟨rfl, HB2.out⟩
end Go.Proofs.YtcmkjjlchljffaaDoor

/- The landed disk: Append, Cut and Rename. -/
namespace Go.Proofs.YtcmkjjlchljffaaDoor
open Go.RowKit
set_option linter.unusedVariables false
set_option maxRecDepth 100000
set_option maxHeartbeats 6400000

theorem append_p {B g mb : Nat} {w : World} {m : FMap} {sz wr : Nat} {lf : Int} {nm : ByteArray} (h : Ds B w g mb m sz lf wr) (hsf : ∀ p ∈ m, p.2.sf ≤ p.2.bs.length) (hsum : sumM m ≤ 67108864) (hwr : wr ≤ 4611686018427387904) (hlf : -1 ≤ lf) (hlg : lf ≤ 9223372036854775807) {ba : Option Addr} {lb bc : Nat} {b : List UInt8} (hs : nm.size ≤ 9223372036854775807) (hsz : sz ≤ 67108864) (hrow : Row w ba b) (hlb : b.length = lb) (hbc : lb ≤ bc) (hnil : ba = none → bc = 0) :
    Calls Tryd.prog 10 #[.pointer (some ⟨g, 0, none⟩), .string nm, .slice ba lb bc] w (OpP B w g mb m sz lf wr (if nmOk nm = false then 2 else if roomB m nm sz lb = false then 8 else pwE lf) (fun m' => ∃ v, m' = updM m nm { fileM m nm with v := v, bs := (fileM m nm).bs ++ b })) := by
  have H := hidU h
  have HR := hidU hrow
  obtain ⟨E, hE⟩ : ∃ E, Hid (E = if nmOk nm = false then 2 else if roomB m nm sz lb = false then 8 else pwE lf) := ⟨_, (rfl : _ = if nmOk nm = false then 2 else if roomB m nm sz lb = false then 8 else pwE lf)⟩
  rw [← hE.out]
  obtain ⟨PP, hPP⟩ : ∃ PP : Ending → World → Prop, Hid (PP = OpP B w g mb m sz lf wr E (fun m' => ∃ v, m' = updM m nm { fileM m nm with v := v, bs := (fileM m nm).bs ++ b })) := ⟨_, (rfl : _ = OpP B w g mb m sz lf wr E _)⟩
  rw [← hPP.out]
  clear h hrow
  go_enter Tryd.func10, Tryd.ntmps10
  go_wp2_with (first
    | (refine wpList_box1 rfl 22 (.tmp 0) rfl (.pointer (some ⟨g, 0, none⟩)) rfl (fun _ q => by cases q) ?_; intro w1 hA1 hb1 hs1; refine Hid.out ?_))
  refine hidU ?_
  obtain ⟨k1, hk1⟩ : ∃ k, k = w.heap.size := ⟨_, rfl⟩
  rw [← hk1] at hA1 ⊢
  have HB1 := hidU (hb1)
  have HA1 := hidU hA1
  clear hb1 hs1 hA1 hk1
  go_wp2_with (first
    | (refine wpList_box1 rfl 9 (.tmp 1) rfl (.string nm) rfl (fun _ q => by cases q) ?_; intro w2 hA2 hb2 hs2; refine Hid.out ?_))
  refine hidU ?_
  obtain ⟨k2, hk2⟩ : ∃ k, k = w1.heap.size := ⟨_, rfl⟩
  rw [← hk2] at hA2 ⊢
  have HB2 := hidU (HB1.out.trans (hb2.mono HB1.out.size))
  have HA2 := hidU hA2
  have HA1 := hidU (HA1.out.below hb2)
  clear hb2 hs2 hA2 hk2
  go_wp2_with (first
    | (refine wpList_box1 rfl 29 (.tmp 2) rfl (.slice ba lb bc) rfl (fun _ q => by cases q) ?_; intro w3 hA3 hb3 hs3; refine Hid.out ?_))
  refine hidU ?_
  obtain ⟨k3, hk3⟩ : ∃ k, k = w2.heap.size := ⟨_, rfl⟩
  rw [← hk3] at hA3 ⊢
  have HB3 := hidU (HB2.out.trans (hb3.mono HB2.out.size))
  have HA3 := hidU hA3
  have HA1 := hidU (HA1.out.below hb3)
  have HA2 := hidU (HA2.out.below hb3)
  clear hb3 hs3 hA3 hk3
  have HM := hidU (made_yes (H.out.below HB3.out).at_)
  have HN := hidU (fun x => isName_any nm x hs)
  have HRm := hidU (fun x (hx : Below w.heap.size w x) => room_any (nm := nm) lb (H.out.below hx) hsum hsz hs)
  have c1 : w3.cell? ⟨k1, 0, none⟩ = some (.pointer (some ⟨g, 0, none⟩)) := by rw [HA1.out.cell]; rfl
  have c2 : w3.cell? ⟨k2, 0, none⟩ = some (.string nm) := by rw [HA2.out.cell]; rfl
  clear HB1 HB2
  cases hq : nmOk nm with
  | false =>
    have e1 : E = 2 := by rw [hE.out, hq]; rfl
    subst e1
    rw [hq] at HN
    clear hq
    go_wp2_with (first
      | (go_at_call 33; refine HM.out.mono ?_; rintro _ x ⟨rfl, hw⟩; obtain rfl : w3 = x := hw.symm; clear hw)
      | (go_at_call 34; refine (HN.out _).mono ?_; rintro _ x4 ⟨rfl, hb4⟩; have HB4 := hidU (HB3.out.trans (hb4.mono HB3.out.size)); clear hb4))
    rw [hPP.out]
    exact ⟨rfl, fun _ => HB4.out, fun e => by cases e⟩
  | true =>
    have h40 : nm.size ≤ 40 := by
      unfold nmOk at hq
      simp at hq
      exact hq.2.2
    rw [hq] at HN
    go_wp2_with (first
      | (go_at_call 33; refine HM.out.mono ?_; rintro _ x ⟨rfl, hw⟩; obtain rfl : w3 = x := hw.symm; clear hw)
      | (go_at_call 34; refine (HN.out _).mono ?_; rintro _ w4 ⟨rfl, hb4⟩; refine Hid.out ?_))
    refine hidU ?_
    have HB4 := hidU (HB3.out.trans (hb4.mono HB3.out.size))
    have HA1 := hidU (HA1.out.below hb4)
    have HA2 := hidU (HA2.out.below hb4)
    have HA3 := hidU (HA3.out.below hb4)
    have HRm := hidU (HRm.out _ HB4.out)
    clear hb4 c1 c2 HM HN
    have c1 : w4.cell? ⟨k1, 0, none⟩ = some (.pointer (some ⟨g, 0, none⟩)) := by rw [HA1.out.cell]; rfl
    have c2 : w4.cell? ⟨k2, 0, none⟩ = some (.string nm) := by rw [HA2.out.cell]; rfl
    have c3 : w4.cell? ⟨k3, 0, none⟩ = some (.slice ba lb bc) := by rw [HA3.out.cell]; rfl
    cases hr : roomB m nm sz lb with
    | false =>
      have e1 : E = 8 := by rw [hE.out, hq, hr]; rfl
      subst e1
      rw [hr] at HRm
      clear hq hr
      go_wp2_with (go_at_call 35; refine HRm.out.mono ?_; rintro _ w5 ⟨rfl, hb5⟩; have HB5 := hidU (HB4.out.trans (hb5.mono HB4.out.size)); clear hb5)
      rw [hPP.out]
      exact ⟨rfl, fun _ => HB5.out, fun e => by cases e⟩
    | true =>
      have e1 : E = pwE lf := by rw [hE.out, hq, hr]; rfl
      have hroom : sumM m + lb ≤ 67108864 := by
        unfold roomB at hr
        rw [Bool.and_eq_true, decide_eq_true_eq] at hr
        omega
      rw [hr] at HRm
      go_wp2_with (go_at_call 35; refine HRm.out.mono ?_; rintro _ w5 ⟨rfl, hb5⟩; refine Hid.out ?_)
      refine hidU ?_
      have HB5 := hidU (HB4.out.trans (hb5.mono HB4.out.size))
      have d1 : w5.cell? ⟨k1, 0, none⟩ = some (.pointer (some ⟨g, 0, none⟩)) := by rw [(HA1.out.below hb5).cell]; rfl
      have HW := hidU (writ_37 B g mb w w5 m sz wr lf k1 k2 k3 (fun m' => ∃ v, m' = updM m nm { fileM m nm with v := v, bs := (fileM m nm).bs ++ b }) H.out HB5.out hwr hlf hlg ((append_c B g mb w5 m sz wr lf nm k1 k2 k3 ba lb bc b (H.out.below HB5.out) hsf (Nat.le_trans H.out.bg (Nat.le_of_lt (heapLt (H.out.below HB5.out).at_))) (HA1.out.below hb5) (HA2.out.below hb5) (HA3.out.below hb5) (HR.out.below HB5.out) hlb hbc hnil hroom h40).mono (by
        rintro r w' ⟨rfl, v, hW⟩
        exact ⟨rfl, _, ⟨v, rfl⟩, hW.from HB5.out⟩)))
      rw [← e1] at HW
      rw [← hPP.out] at HW
      have hPX : ∀ r w', PP r w' → r = .returned (.int .i64 E) := fun r w' q => by rw [hPP.out] at q; exact q.1
      clear c1 c2 c3 hb5 e1 hq hr
      go_wp2_with (go_at_call 36; refine HW.out.mono ?_; rintro e w6 q; obtain rfl := hPX _ _ q)
      exact q
end Go.Proofs.YtcmkjjlchljffaaDoor
