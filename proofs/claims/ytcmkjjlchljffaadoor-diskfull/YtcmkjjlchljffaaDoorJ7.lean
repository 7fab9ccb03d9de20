/- Joined texts of the proof. -/
import Derived.Test.YtcmkjjlchljffaaDoorJ6

/- The landed disk: a write is done, if there is power. -/
namespace Go.Proofs.YtcmkjjlchljffaaDoor
open Go.RowKit
set_option linter.unusedVariables false
set_option maxRecDepth 100000
set_option maxHeartbeats 6400000

/-- A write was done. -/
structure Dn (B : Nat) (w w' : World) (g mb : Nat) (m m' : FMap) (sz : Nat) (lf : Int) (wr : Nat) : Prop where
  ds : Ds B w' g mb m' sz lf wr
  chg : Chg (FW g mb m) w w'
  new : ∀ k, FW g mb m' k → FW g mb m k ∨ w.heap.size ≤ k
theorem Wrt.dn {B g mb sz wr wr' : Nat} {lf lf' : Int} {w w' w2 : World} {m m' : FMap} (h : Ds B w g mb m sz lf wr) (k : Wrt B w w' mb m m') (hb : But g w' w2) (hA : At 35 w2 g [.pointer (some ⟨g, 0, none⟩), .int .i64 (sz : Int), .map (some mb), .int .i64 lf', .int .i64 (wr' : Int)]) : Dn B w w2 g mb m m' sz lf' wr' :=
  ⟨k.ds h hb hA, (k.chg.mono fun i _ e => .inr e).trans (Chg.of_but hb (.inl rfl)), fun i hi => by
    rcases hi with e | e | ⟨p, hp, e⟩
    · exact .inl (.inl e)
    · exact .inl (.inr (.inl e))
    · exact (k.new p hp i e).imp (fun q => .inr (.inr q)) id⟩
/-- How much power is left behind a write. -/
def lfD (lf : Int) : Int := if 0 < lf then lf - 1 else lf
theorem write_37 (B g mb : Nat) (w0 w : World) (m : FMap) (sz wr : Nat) (lf : Int) (k1 k2 k3 : Nat) (P : FMap → Prop) (h : Ds B w0 g mb m sz lf wr) (hb0 : Below w0.heap.size w0 w) (hwr : wr ≤ 4611686018427387904) (hlf : -1 ≤ lf) (hlg : lf ≤ 9223372036854775807)
    (HC : Calls Tryd.prog 37 #[.pointer (some ⟨k1, 0, none⟩), .pointer (some ⟨k2, 0, none⟩), .pointer (some ⟨k3, 0, none⟩)] w fun r w' => r = .returned (.tuple #[]) ∧ ∃ m', P m' ∧ Wrt B w0 w' mb m m') :
    Calls Tryd.prog 36 #[.pointer (some ⟨g, 0, none⟩), .func (.func 37) #[] #[.pointer (some ⟨k1, 0, none⟩), .pointer (some ⟨k2, 0, none⟩), .pointer (some ⟨k3, 0, none⟩)]] w fun r w' => (lf = 0 ∧ r = .returned (.int .i64 13) ∧ w' = w) ∨ (lf ≠ 0 ∧ r = .returned (.int .i64 0) ∧ ∃ m', P m' ∧ Dn B w0 w' g mb m m' sz (lfD lf) (wr + 1)) := by
  have HS := hidU (stopped_p (h.below hb0))
  have H := hidU h
  have HC := hidU HC
  clear h hb0
  by_cases hl : lf = 0
  · subst hl
    go_enter Tryd.func36, Tryd.ntmps36
    go_wp2_with (go_at_call 24; refine HS.out.mono ?_; rintro _ w1 ⟨rfl, hw⟩; obtain rfl : w = w1 := hw.symm; clear hw)
    go_ret
    exact .inl ⟨by first | rfl | trivial, rfl, rfl⟩
  · have HS2 : Hid (Calls Tryd.prog 24 #[.pointer (some ⟨g, 0, none⟩)] w fun r w' => r = .returned (.bool false) ∧ w' = w) := by
      refine hidU (HS.out.mono ?_)
      rintro r w' ⟨rfl, h⟩
      exact ⟨by rw [beq_eq_false_iff_ne.2 hl], h⟩
    clear HS
    obtain ⟨L, hL⟩ : ∃ L, Hid (L = lfD lf) := ⟨_, (rfl : _ = lfD lf)⟩
    rw [← hL.out]
    have hww : IntKind.i64.wrap ((wr : Int) + 1) = (wr : Int) + 1 := by rw [IntKind.wrap_i64]; omega
    go_enter Tryd.func36, Tryd.ntmps36
    go_wp2_with (first
      | (go_at_call 24; refine HS2.out.mono ?_; rintro _ w1 ⟨rfl, hw⟩; obtain rfl : w = w1 := hw.symm; clear hw)
      | (go_at_call 37; refine HC.out.mono ?_; rintro _ w1 ⟨rfl, m', hP, hW⟩; refine Hid.out ?_))
    refine hidU ?_
    have hA := hW.at_ H.out H.out.at_
    have HW := hidU hW
    clear hW HC HS2
    have q := hA.cell 4
    simp only [List.getElem?_cons_zero, List.getElem?_cons_succ] at q
    go_wp2_with (refine wpList_store1 rfl 3 (.tmp 15) (.tmp 13) rfl g 4 (.int .i64 ((wr : Int) + 1)) rfl rfl 35 _ hA (by simp) i3 rfl rfl ?_; intro w2 hA2 hb2 hs2; simp only [List.set] at hA2; refine Hid.out ?_)
    refine hidU ?_
    have HB2 := hidU hb2
    clear q hs2 hb2 hA
    have q := hA2.cell 3
    simp only [List.getElem?_cons_zero, List.getElem?_cons_succ] at q
    by_cases hm1 : lf = -1
    · subst hm1
      have hL2 : L = -1 := hL.out
      subst hL2
      go_wp2
      go_ret
      exact .inr ⟨hl, rfl, m', hP, HW.out.dn H.out HB2.out (by simpa using hA2)⟩
    · have hpos : 0 < lf := by omega
      have hwl : IntKind.i64.wrap (lf - 1) = lf - 1 := by rw [IntKind.wrap_i64]; omega
      have hL2 : L = lf - 1 := by rw [hL.out]; unfold lfD; rw [if_pos hpos]
      subst hL2
      have HN := hidU (show lf ≠ 0 from hl)
      clear hpos hlf hlg hL
      go_wp2_with (refine wpList_store1 rfl 3 (.tmp 27) (.tmp 25) rfl g 3 (.int .i64 (lf - 1)) rfl rfl 35 _ hA2 (by simp) i3 rfl rfl ?_; intro w3 hA3 hb3 hs3; simp only [List.set] at hA3; refine Hid.out ?_)
      refine hidU ?_
      have HB3 := hidU (HB2.out.trans hb3)
      clear q hs3 hb3 hA2
      go_wp2
      go_ret
      exact .inr ⟨HN.out, rfl, m', hP, HW.out.dn H.out HB3.out (by simpa using hA3)⟩
theorem write_52 (B g mb : Nat) (w0 w : World) (m : FMap) (sz wr : Nat) (lf : Int) (k1 k2 k3 k4 : Nat) (P : FMap → Prop) (h : Ds B w0 g mb m sz lf wr) (hb0 : Below w0.heap.size w0 w) (hwr : wr ≤ 4611686018427387904) (hlf : -1 ≤ lf) (hlg : lf ≤ 9223372036854775807)
    (HC : Calls Tryd.prog 52 #[.pointer (some ⟨k1, 0, none⟩), .pointer (some ⟨k2, 0, none⟩), .pointer (some ⟨k3, 0, none⟩), .pointer (some ⟨k4, 0, none⟩)] w fun r w' => r = .returned (.tuple #[]) ∧ ∃ m', P m' ∧ Wrt B w0 w' mb m m') :
    Calls Tryd.prog 36 #[.pointer (some ⟨g, 0, none⟩), .func (.func 52) #[] #[.pointer (some ⟨k1, 0, none⟩), .pointer (some ⟨k2, 0, none⟩), .pointer (some ⟨k3, 0, none⟩), .pointer (some ⟨k4, 0, none⟩)]] w fun r w' => (lf = 0 ∧ r = .returned (.int .i64 13) ∧ w' = w) ∨ (lf ≠ 0 ∧ r = .returned (.int .i64 0) ∧ ∃ m', P m' ∧ Dn B w0 w' g mb m m' sz (lfD lf) (wr + 1)) := by
  have HS := hidU (stopped_p (h.below hb0))
  have H := hidU h
  have HC := hidU HC
  clear h hb0
  by_cases hl : lf = 0
  · subst hl
    go_enter Tryd.func36, Tryd.ntmps36
    go_wp2_with (go_at_call 24; refine HS.out.mono ?_; rintro _ w1 ⟨rfl, hw⟩; obtain rfl : w = w1 := hw.symm; clear hw)
    go_ret
    exact .inl ⟨by first | rfl | trivial, rfl, rfl⟩
  · have HS2 : Hid (Calls Tryd.prog 24 #[.pointer (some ⟨g, 0, none⟩)] w fun r w' => r = .returned (.bool false) ∧ w' = w) := by
      refine hidU (HS.out.mono ?_)
      rintro r w' ⟨rfl, h⟩
      exact ⟨by rw [beq_eq_false_iff_ne.2 hl], h⟩
    clear HS
    obtain ⟨L, hL⟩ : ∃ L, Hid (L = lfD lf) := ⟨_, (rfl : _ = lfD lf)⟩
    rw [← hL.out]
    have hww : IntKind.i64.wrap ((wr : Int) + 1) = (wr : Int) + 1 := by rw [IntKind.wrap_i64]; omega
    go_enter Tryd.func36, Tryd.ntmps36
    go_wp2_with (first
      | (go_at_call 24; refine HS2.out.mono ?_; rintro _ w1 ⟨rfl, hw⟩; obtain rfl : w = w1 := hw.symm; clear hw)
      | (go_at_call 52; refine HC.out.mono ?_; rintro _ w1 ⟨rfl, m', hP, hW⟩; refine Hid.out ?_))
    refine hidU ?_
    have hA := hW.at_ H.out H.out.at_
    have HW := hidU hW
    clear hW HC HS2
    have q := hA.cell 4
    simp only [List.getElem?_cons_zero, List.getElem?_cons_succ] at q
    go_wp2_with (refine wpList_store1 rfl 3 (.tmp 15) (.tmp 13) rfl g 4 (.int .i64 ((wr : Int) + 1)) rfl rfl 35 _ hA (by simp) i3 rfl rfl ?_; intro w2 hA2 hb2 hs2; simp only [List.set] at hA2; refine Hid.out ?_)
    refine hidU ?_
    have HB2 := hidU hb2
    clear q hs2 hb2 hA
    have q := hA2.cell 3
    simp only [List.getElem?_cons_zero, List.getElem?_cons_succ] at q
    by_cases hm1 : lf = -1
    · subst hm1
      have hL2 : L = -1 := hL.out
      subst hL2
      go_wp2
      go_ret
      exact .inr ⟨hl, rfl, m', hP, HW.out.dn H.out HB2.out (by simpa using hA2)⟩
    · have hpos : 0 < lf := by omega
      have hwl : IntKind.i64.wrap (lf - 1) = lf - 1 := by rw [IntKind.wrap_i64]; omega
      have hL2 : L = lf - 1 := by rw [hL.out]; unfold lfD; rw [if_pos hpos]
      subst hL2
      have HN := hidU (show lf ≠ 0 from hl)
      clear hpos hlf hlg hL
      go_wp2_with (refine wpList_store1 rfl 3 (.tmp 27) (.tmp 25) rfl g 3 (.int .i64 (lf - 1)) rfl rfl 35 _ hA2 (by simp) i3 rfl rfl ?_; intro w3 hA3 hb3 hs3; simp only [List.set] at hA3; refine Hid.out ?_)
      refine hidU ?_
      have HB3 := hidU (HB2.out.trans hb3)
      clear q hs3 hb3 hA2
      go_wp2
      go_ret
      exact .inr ⟨HN.out, rfl, m', hP, HW.out.dn H.out HB3.out (by simpa using hA3)⟩
theorem write_54 (B g mb : Nat) (w0 w : World) (m : FMap) (sz wr : Nat) (lf : Int) (k1 k2 : Nat) (P : FMap → Prop) (h : Ds B w0 g mb m sz lf wr) (hb0 : Below w0.heap.size w0 w) (hwr : wr ≤ 4611686018427387904) (hlf : -1 ≤ lf) (hlg : lf ≤ 9223372036854775807)
    (HC : Calls Tryd.prog 54 #[.pointer (some ⟨k1, 0, none⟩), .pointer (some ⟨k2, 0, none⟩)] w fun r w' => r = .returned (.tuple #[]) ∧ ∃ m', P m' ∧ Wrt B w0 w' mb m m') :
    Calls Tryd.prog 36 #[.pointer (some ⟨g, 0, none⟩), .func (.func 54) #[] #[.pointer (some ⟨k1, 0, none⟩), .pointer (some ⟨k2, 0, none⟩)]] w fun r w' => (lf = 0 ∧ r = .returned (.int .i64 13) ∧ w' = w) ∨ (lf ≠ 0 ∧ r = .returned (.int .i64 0) ∧ ∃ m', P m' ∧ Dn B w0 w' g mb m m' sz (lfD lf) (wr + 1)) := by
  have HS := hidU (stopped_p (h.below hb0))
  have H := hidU h
  have HC := hidU HC
  clear h hb0
  by_cases hl : lf = 0
  · subst hl
    go_enter Tryd.func36, Tryd.ntmps36
    go_wp2_with (go_at_call 24; refine HS.out.mono ?_; rintro _ w1 ⟨rfl, hw⟩; obtain rfl : w = w1 := hw.symm; clear hw)
    go_ret
    exact .inl ⟨by first | rfl | trivial, rfl, rfl⟩
  · have HS2 : Hid (Calls Tryd.prog 24 #[.pointer (some ⟨g, 0, none⟩)] w fun r w' => r = .returned (.bool false) ∧ w' = w) := by
      refine hidU (HS.out.mono ?_)
      rintro r w' ⟨rfl, h⟩
      exact ⟨by rw [beq_eq_false_iff_ne.2 hl], h⟩
    clear HS
    obtain ⟨L, hL⟩ : ∃ L, Hid (L = lfD lf) := ⟨_, (rfl : _ = lfD lf)⟩
    rw [← hL.out]
    have hww : IntKind.i64.wrap ((wr : Int) + 1) = (wr : Int) + 1 := by rw [IntKind.wrap_i64]; omega
    go_enter Tryd.func36, Tryd.ntmps36
    go_wp2_with (first
      | (go_at_call 24; refine HS2.out.mono ?_; rintro _ w1 ⟨rfl, hw⟩; obtain rfl : w = w1 := hw.symm; clear hw)
      | (go_at_call 54; refine HC.out.mono ?_; rintro _ w1 ⟨rfl, m', hP, hW⟩; refine Hid.out ?_))
    refine hidU ?_
    have hA := hW.at_ H.out H.out.at_
    have HW := hidU hW
    clear hW HC HS2
    have q := hA.cell 4
    simp only [List.getElem?_cons_zero, List.getElem?_cons_succ] at q
    go_wp2_with (refine wpList_store1 rfl 3 (.tmp 15) (.tmp 13) rfl g 4 (.int .i64 ((wr : Int) + 1)) rfl rfl 35 _ hA (by simp) i3 rfl rfl ?_; intro w2 hA2 hb2 hs2; simp only [List.set] at hA2; refine Hid.out ?_)
    refine hidU ?_
    have HB2 := hidU hb2
    clear q hs2 hb2 hA
    have q := hA2.cell 3
    simp only [List.getElem?_cons_zero, List.getElem?_cons_succ] at q
    by_cases hm1 : lf = -1
    · subst hm1
      have hL2 : L = -1 := hL.out
      subst hL2
      go_wp2
      go_ret
      exact .inr ⟨hl, rfl, m', hP, HW.out.dn H.out HB2.out (by simpa using hA2)⟩
    · have hpos : 0 < lf := by omega
      have hwl : IntKind.i64.wrap (lf - 1) = lf - 1 := by rw [IntKind.wrap_i64]; omega
      have hL2 : L = lf - 1 := by rw [hL.out]; unfold lfD; rw [if_pos hpos]
      subst hL2
      have HN := hidU (show lf ≠ 0 from hl)
      clear hpos hlf hlg hL
      go_wp2_with (refine wpList_store1 rfl 3 (.tmp 27) (.tmp 25) rfl g 3 (.int .i64 (lf - 1)) rfl rfl 35 _ hA2 (by simp) i3 rfl rfl ?_; intro w3 hA3 hb3 hs3; simp only [List.set] at hA3; refine Hid.out ?_)
      refine hidU ?_
      have HB3 := hidU (HB2.out.trans hb3)
      clear q hs3 hb3 hA2
      go_wp2
      go_ret
      exact .inr ⟨HN.out, rfl, m', hP, HW.out.dn H.out HB3.out (by simpa using hA3)⟩
theorem write_56 (B g mb : Nat) (w0 w : World) (m : FMap) (sz wr : Nat) (lf : Int) (k1 k2 k3 k4 : Nat) (P : FMap → Prop) (h : Ds B w0 g mb m sz lf wr) (hb0 : Below w0.heap.size w0 w) (hwr : wr ≤ 4611686018427387904) (hlf : -1 ≤ lf) (hlg : lf ≤ 9223372036854775807)
    (HC : Calls Tryd.prog 56 #[.pointer (some ⟨k1, 0, none⟩), .pointer (some ⟨k2, 0, none⟩), .pointer (some ⟨k3, 0, none⟩), .pointer (some ⟨k4, 0, none⟩)] w fun r w' => r = .returned (.tuple #[]) ∧ ∃ m', P m' ∧ Wrt B w0 w' mb m m') :
    Calls Tryd.prog 36 #[.pointer (some ⟨g, 0, none⟩), .func (.func 56) #[] #[.pointer (some ⟨k1, 0, none⟩), .pointer (some ⟨k2, 0, none⟩), .pointer (some ⟨k3, 0, none⟩), .pointer (some ⟨k4, 0, none⟩)]] w fun r w' => (lf = 0 ∧ r = .returned (.int .i64 13) ∧ w' = w) ∨ (lf ≠ 0 ∧ r = .returned (.int .i64 0) ∧ ∃ m', P m' ∧ Dn B w0 w' g mb m m' sz (lfD lf) (wr + 1)) := by
  have HS := hidU (stopped_p (h.below hb0))
  have H := hidU h
  have HC := hidU HC
  clear h hb0
  by_cases hl : lf = 0
  · subst hl
    go_enter Tryd.func36, Tryd.ntmps36
    go_wp2_with (go_at_call 24; refine HS.out.mono ?_; rintro _ w1 ⟨rfl, hw⟩; obtain rfl : w = w1 := hw.symm; clear hw)
    go_ret
    exact .inl ⟨by first | rfl | trivial, rfl, rfl⟩
  · have HS2 : Hid (Calls Tryd.prog 24 #[.pointer (some ⟨g, 0, none⟩)] w fun r w' => r = .returned (.bool false) ∧ w' = w) := by
      refine hidU (HS.out.mono ?_)
      rintro r w' ⟨rfl, h⟩
      exact ⟨by rw [beq_eq_false_iff_ne.2 hl], h⟩
    clear HS
    obtain ⟨L, hL⟩ : ∃ L, Hid (L = lfD lf) := ⟨_, (rfl : _ = lfD lf)⟩
    rw [← hL.out]
    have hww : IntKind.i64.wrap ((wr : Int) + 1) = (wr : Int) + 1 := by rw [IntKind.wrap_i64]; omega
    go_enter Tryd.func36, Tryd.ntmps36
    go_wp2_with (first
      | (go_at_call 24; refine HS2.out.mono ?_; rintro _ w1 ⟨rfl, hw⟩; obtain rfl : w = w1 := hw.symm; clear hw)
      | (go_at_call 56; refine HC.out.mono ?_; rintro _ w1 ⟨rfl, m', hP, hW⟩; refine Hid.out ?_))
    refine hidU ?_
    have hA := hW.at_ H.out H.out.at_
    have HW := hidU hW
    clear hW HC HS2
    have q := hA.cell 4
    simp only [List.getElem?_cons_zero, List.getElem?_cons_succ] at q
    go_wp2_with (refine wpList_store1 rfl 3 (.tmp 15) (.tmp 13) rfl g 4 (.int .i64 ((wr : Int) + 1)) rfl rfl 35 _ hA (by simp) i3 rfl rfl ?_; intro w2 hA2 hb2 hs2; simp only [List.set] at hA2; refine Hid.out ?_)
    refine hidU ?_
    have HB2 := hidU hb2
    clear q hs2 hb2 hA
    have q := hA2.cell 3
    simp only [List.getElem?_cons_zero, List.getElem?_cons_succ] at q
    by_cases hm1 : lf = -1
    · subst hm1
      have hL2 : L = -1 := hL.out
      subst hL2
      go_wp2
      go_ret
      exact .inr ⟨hl, rfl, m', hP, HW.out.dn H.out HB2.out (by simpa using hA2)⟩
    · have hpos : 0 < lf := by omega
      have hwl : IntKind.i64.wrap (lf - 1) = lf - 1 := by rw [IntKind.wrap_i64]; omega
      have hL2 : L = lf - 1 := by rw [hL.out]; unfold lfD; rw [if_pos hpos]
      subst hL2
      have HN := hidU (show lf ≠ 0 from hl)
      clear hpos hlf hlg hL
      go_wp2_with (refine wpList_store1 rfl 3 (.tmp 27) (.tmp 25) rfl g 3 (.int .i64 (lf - 1)) rfl rfl 35 _ hA2 (by simp) i3 rfl rfl ?_; intro w3 hA3 hb3 hs3; simp only [List.set] at hA3; refine Hid.out ?_)
      refine hidU ?_
      have HB3 := hidU (HB2.out.trans hb3)
      clear q hs3 hb3 hA2
      go_wp2
      go_ret
      exact .inr ⟨HN.out, rfl, m', hP, HW.out.dn H.out HB3.out (by simpa using hA3)⟩
theorem write_57 (B g mb : Nat) (w0 w : World) (m : FMap) (sz wr : Nat) (lf : Int) (k1 k2 : Nat) (P : FMap → Prop) (h : Ds B w0 g mb m sz lf wr) (hb0 : Below w0.heap.size w0 w) (hwr : wr ≤ 4611686018427387904) (hlf : -1 ≤ lf) (hlg : lf ≤ 9223372036854775807)
    (HC : Calls Tryd.prog 57 #[.pointer (some ⟨k1, 0, none⟩), .pointer (some ⟨k2, 0, none⟩)] w fun r w' => r = .returned (.tuple #[]) ∧ ∃ m', P m' ∧ Wrt B w0 w' mb m m') :
    Calls Tryd.prog 36 #[.pointer (some ⟨g, 0, none⟩), .func (.func 57) #[] #[.pointer (some ⟨k1, 0, none⟩), .pointer (some ⟨k2, 0, none⟩)]] w fun r w' => (lf = 0 ∧ r = .returned (.int .i64 13) ∧ w' = w) ∨ (lf ≠ 0 ∧ r = .returned (.int .i64 0) ∧ ∃ m', P m' ∧ Dn B w0 w' g mb m m' sz (lfD lf) (wr + 1)) := by
  have HS := hidU (stopped_p (h.below hb0))
  have H := hidU h
  have HC := hidU HC
  clear h hb0
  by_cases hl : lf = 0
  · subst hl
    go_enter Tryd.func36, Tryd.ntmps36
    go_wp2_with (go_at_call 24; refine HS.out.mono ?_; rintro _ w1 ⟨rfl, hw⟩; obtain rfl : w = w1 := hw.symm; clear hw)
    go_ret
    exact .inl ⟨by first | rfl | trivial, rfl, rfl⟩
  · have HS2 : Hid (Calls Tryd.prog 24 #[.pointer (some ⟨g, 0, none⟩)] w fun r w' => r = .returned (.bool false) ∧ w' = w) := by
      refine hidU (HS.out.mono ?_)
      rintro r w' ⟨rfl, h⟩
      exact ⟨by rw [beq_eq_false_iff_ne.2 hl], h⟩
    clear HS
    obtain ⟨L, hL⟩ : ∃ L, Hid (L = lfD lf) := ⟨_, (rfl : _ = lfD lf)⟩
    rw [← hL.out]
    have hww : IntKind.i64.wrap ((wr : Int) + 1) = (wr : Int) + 1 := by rw [IntKind.wrap_i64]; omega
    go_enter Tryd.func36, Tryd.ntmps36
    go_wp2_with (first
      | (go_at_call 24; refine HS2.out.mono ?_; rintro _ w1 ⟨rfl, hw⟩; obtain rfl : w = w1 := hw.symm; clear hw)
      | (go_at_call 57; refine HC.out.mono ?_; rintro _ w1 ⟨rfl, m', hP, hW⟩; refine Hid.out ?_))
    refine hidU ?_
    have hA := hW.at_ H.out H.out.at_
    have HW := hidU hW
    clear hW HC HS2
    have q := hA.cell 4
    simp only [List.getElem?_cons_zero, List.getElem?_cons_succ] at q
    go_wp2_with (refine wpList_store1 rfl 3 (.tmp 15) (.tmp 13) rfl g 4 (.int .i64 ((wr : Int) + 1)) rfl rfl 35 _ hA (by simp) i3 rfl rfl ?_; intro w2 hA2 hb2 hs2; simp only [List.set] at hA2; refine Hid.out ?_)
    refine hidU ?_
    have HB2 := hidU hb2
    clear q hs2 hb2 hA
    have q := hA2.cell 3
    simp only [List.getElem?_cons_zero, List.getElem?_cons_succ] at q
    by_cases hm1 : lf = -1
    · subst hm1
      have hL2 : L = -1 := hL.out
      subst hL2
      go_wp2
      go_ret
      exact .inr ⟨hl, rfl, m', hP, HW.out.dn H.out HB2.out (by simpa using hA2)⟩
    · have hpos : 0 < lf := by omega
      have hwl : IntKind.i64.wrap (lf - 1) = lf - 1 := by rw [IntKind.wrap_i64]; omega
      have hL2 : L = lf - 1 := by rw [hL.out]; unfold lfD; rw [if_pos hpos]
      subst hL2
      have HN := hidU (show lf ≠ 0 from hl)
      clear hpos hlf hlg hL
      go_wp2_with (refine wpList_store1 rfl 3 (.tmp 27) (.tmp 25) rfl g 3 (.int .i64 (lf - 1)) rfl rfl 35 _ hA2 (by simp) i3 rfl rfl ?_; intro w3 hA3 hb3 hs3; simp only [List.set] at hA3; refine Hid.out ?_)
      refine hidU ?_
      have HB3 := hidU (HB2.out.trans hb3)
      clear q hs3 hb3 hA2
      go_wp2
      go_ret
      exact .inr ⟨HN.out, rfl, m', hP, HW.out.dn H.out HB3.out (by simpa using hA3)⟩
end Go.Proofs.YtcmkjjlchljffaaDoor

/- The landed disk: Sync and Remove. -/
namespace Go.Proofs.YtcmkjjlchljffaaDoor
open Go.RowKit
set_option linter.unusedVariables false
set_option maxRecDepth 100000
set_option maxHeartbeats 6400000

theorem wpList_box1 {P : Program} {ops : Array Oper} {rest : List Oper} {o : Oper} {a : Act} {w : World} {Q : Exit → Act → World → Prop} (hgd : o.guard = none) (t : TypeId) (x : Operand) (ho : o.op = .box t x) (v : Value) (hx : a.eval x = v) (hc : ∀ cs, v ≠ .agg cs)
    (h : ∀ w', At t w' w.heap.size [v] → Below w.heap.size w w' → w'.heap.size = w.heap.size + 1 → wpList P ops Q rest (a.put o.dst (.pointer (some ⟨w.heap.size, 0, none⟩))) w') :
    wpList P ops Q (o :: rest) a w := by
  refine wpList_plain hgd fun K hK => ?_
  have := hK _ _ (h (w.alloc (.cells #[v] t)) (_root_.Go.heap_alloc_new w _) ((Below.refl _ w).alloc (Nat.le_refl _) _) (by show (w.heap.push _).size = _; simp))
  unfold Oper.wp execOp
  simp only [ho, hx, Instr.box, Sem.run_bind]
  cases v <;> first | exact absurd rfl (hc _) | simpa [newVar, go_sem] using this
/-- What a write tells: whether there is power. -/
def pwE (lf : Int) : Int := if lf = 0 then 13 else 0
/-- What a call that may write tells and leaves. -/
def OpP (B : Nat) (w : World) (g mb : Nat) (m : FMap) (sz : Nat) (lf : Int) (wr : Nat) (e : Int) (P : FMap → Prop) (r : Ending) (w' : World) : Prop :=
  r = .returned (.int .i64 e) ∧ (e ≠ 0 → Below w.heap.size w w') ∧ (e = 0 → ∃ m', P m' ∧ Dn B w w' g mb m m' sz (lfD lf) (wr + 1))
theorem writ_37 (B g mb : Nat) (w0 w : World) (m : FMap) (sz wr : Nat) (lf : Int) (k1 k2 k3 : Nat) (P : FMap → Prop) (h : Ds B w0 g mb m sz lf wr) (hb0 : Below w0.heap.size w0 w) (hwr : wr ≤ 4611686018427387904) (hlf : -1 ≤ lf) (hlg : lf ≤ 9223372036854775807)
    (HC : Calls Tryd.prog 37 #[.pointer (some ⟨k1, 0, none⟩), .pointer (some ⟨k2, 0, none⟩), .pointer (some ⟨k3, 0, none⟩)] w fun r w' => r = .returned (.tuple #[]) ∧ ∃ m', P m' ∧ Wrt B w0 w' mb m m') :
    Calls Tryd.prog 36 #[.pointer (some ⟨g, 0, none⟩), .func (.func 37) #[] #[.pointer (some ⟨k1, 0, none⟩), .pointer (some ⟨k2, 0, none⟩), .pointer (some ⟨k3, 0, none⟩)]] w (OpP B w0 g mb m sz lf wr (pwE lf) P) := by
  refine (write_37 B g mb w0 w m sz wr lf k1 k2 k3 P h hb0 hwr hlf hlg HC).mono ?_
  rintro r w' (⟨h1, rfl, rfl⟩ | ⟨h1, rfl, q⟩)
  · exact ⟨by rw [pwE, if_pos h1], fun _ => hb0, fun e => by rw [pwE, if_pos h1] at e; cases e⟩
  · exact ⟨by rw [pwE, if_neg h1], fun e => absurd (by rw [pwE, if_neg h1]) e, fun _ => q⟩
theorem writ_52 (B g mb : Nat) (w0 w : World) (m : FMap) (sz wr : Nat) (lf : Int) (k1 k2 k3 k4 : Nat) (P : FMap → Prop) (h : Ds B w0 g mb m sz lf wr) (hb0 : Below w0.heap.size w0 w) (hwr : wr ≤ 4611686018427387904) (hlf : -1 ≤ lf) (hlg : lf ≤ 9223372036854775807)
    (HC : Calls Tryd.prog 52 #[.pointer (some ⟨k1, 0, none⟩), .pointer (some ⟨k2, 0, none⟩), .pointer (some ⟨k3, 0, none⟩), .pointer (some ⟨k4, 0, none⟩)] w fun r w' => r = .returned (.tuple #[]) ∧ ∃ m', P m' ∧ Wrt B w0 w' mb m m') :
    Calls Tryd.prog 36 #[.pointer (some ⟨g, 0, none⟩), .func (.func 52) #[] #[.pointer (some ⟨k1, 0, none⟩), .pointer (some ⟨k2, 0, none⟩), .pointer (some ⟨k3, 0, none⟩), .pointer (some ⟨k4, 0, none⟩)]] w (OpP B w0 g mb m sz lf wr (pwE lf) P) := by
  refine (write_52 B g mb w0 w m sz wr lf k1 k2 k3 k4 P h hb0 hwr hlf hlg HC).mono ?_
  rintro r w' (⟨h1, rfl, rfl⟩ | ⟨h1, rfl, q⟩)
  · exact ⟨by rw [pwE, if_pos h1], fun _ => hb0, fun e => by rw [pwE, if_pos h1] at e; cases e⟩
  · exact ⟨by rw [pwE, if_neg h1], fun e => absurd (by rw [pwE, if_neg h1]) e, fun _ => q⟩
theorem writ_54 (B g mb : Nat) (w0 w : World) (m : FMap) (sz wr : Nat) (lf : Int) (k1 k2 : Nat) (P : FMap → Prop) (h : Ds B w0 g mb m sz lf wr) (hb0 : Below w0.heap.size w0 w) (hwr : wr ≤ 4611686018427387904) (hlf : -1 ≤ lf) (hlg : lf ≤ 9223372036854775807)
    (HC : Calls Tryd.prog 54 #[.pointer (some ⟨k1, 0, none⟩), .pointer (some ⟨k2, 0, none⟩)] w fun r w' => r = .returned (.tuple #[]) ∧ ∃ m', P m' ∧ Wrt B w0 w' mb m m') :
    Calls Tryd.prog 36 #[.pointer (some ⟨g, 0, none⟩), .func (.func 54) #[] #[.pointer (some ⟨k1, 0, none⟩), .pointer (some ⟨k2, 0, none⟩)]] w (OpP B w0 g mb m sz lf wr (pwE lf) P) := by
  refine (write_54 B g mb w0 w m sz wr lf k1 k2 P h hb0 hwr hlf hlg HC).mono ?_
  rintro r w' (⟨h1, rfl, rfl⟩ | ⟨h1, rfl, q⟩)
  · exact ⟨by rw [pwE, if_pos h1], fun _ => hb0, fun e => by rw [pwE, if_pos h1] at e; cases e⟩
  · exact ⟨by rw [pwE, if_neg h1], fun e => absurd (by rw [pwE, if_neg h1]) e, fun _ => q⟩
theorem writ_56 (B g mb : Nat) (w0 w : World) (m : FMap) (sz wr : Nat) (lf : Int) (k1 k2 k3 k4 : Nat) (P : FMap → Prop) (h : Ds B w0 g mb m sz lf wr) (hb0 : Below w0.heap.size w0 w) (hwr : wr ≤ 4611686018427387904) (hlf : -1 ≤ lf) (hlg : lf ≤ 9223372036854775807)
    (HC : Calls Tryd.prog 56 #[.pointer (some ⟨k1, 0, none⟩), .pointer (some ⟨k2, 0, none⟩), .pointer (some ⟨k3, 0, none⟩), .pointer (some ⟨k4, 0, none⟩)] w fun r w' => r = .returned (.tuple #[]) ∧ ∃ m', P m' ∧ Wrt B w0 w' mb m m') :
    Calls Tryd.prog 36 #[.pointer (some ⟨g, 0, none⟩), .func (.func 56) #[] #[.pointer (some ⟨k1, 0, none⟩), .pointer (some ⟨k2, 0, none⟩), .pointer (some ⟨k3, 0, none⟩), .pointer (some ⟨k4, 0, none⟩)]] w (OpP B w0 g mb m sz lf wr (pwE lf) P) := by
  refine (write_56 B g mb w0 w m sz wr lf k1 k2 k3 k4 P h hb0 hwr hlf hlg HC).mono ?_
  rintro r w' (⟨h1, rfl, rfl⟩ | ⟨h1, rfl, q⟩)
  · exact ⟨by rw [pwE, if_pos h1], fun _ => hb0, fun e => by rw [pwE, if_pos h1] at e; cases e⟩
  · exact ⟨by rw [pwE, if_neg h1], fun e => absurd (by rw [pwE, if_neg h1]) e, fun _ => q⟩
theorem writ_57 (B g mb : Nat) (w0 w : World) (m : FMap) (sz wr : Nat) (lf : Int) (k1 k2 : Nat) (P : FMap → Prop) (h : Ds B w0 g mb m sz lf wr) (hb0 : Below w0.heap.size w0 w) (hwr : wr ≤ 4611686018427387904) (hlf : -1 ≤ lf) (hlg : lf ≤ 9223372036854775807)
    (HC : Calls Tryd.prog 57 #[.pointer (some ⟨k1, 0, none⟩), .pointer (some ⟨k2, 0, none⟩)] w fun r w' => r = .returned (.tuple #[]) ∧ ∃ m', P m' ∧ Wrt B w0 w' mb m m') :
    Calls Tryd.prog 36 #[.pointer (some ⟨g, 0, none⟩), .func (.func 57) #[] #[.pointer (some ⟨k1, 0, none⟩), .pointer (some ⟨k2, 0, none⟩)]] w (OpP B w0 g mb m sz lf wr (pwE lf) P) := by
  refine (write_57 B g mb w0 w m sz wr lf k1 k2 P h hb0 hwr hlf hlg HC).mono ?_
  rintro r w' (⟨h1, rfl, rfl⟩ | ⟨h1, rfl, q⟩)
  · exact ⟨by rw [pwE, if_pos h1], fun _ => hb0, fun e => by rw [pwE, if_pos h1] at e; cases e⟩
  · exact ⟨by rw [pwE, if_neg h1], fun e => absurd (by rw [pwE, if_neg h1]) e, fun _ => q⟩
theorem sync_p {B g mb : Nat} {w : World} {m : FMap} {sz wr : Nat} {lf : Int} {nm : ByteArray} (h : Ds B w g mb m sz lf wr) (hsf : ∀ p ∈ m, p.2.sf ≤ p.2.bs.length) (hsum : sumM m ≤ 67108864) (hwr : wr ≤ 4611686018427387904) (hlf : -1 ≤ lf) (hlg : lf ≤ 9223372036854775807) (hs : nm.size ≤ 9223372036854775807) :
    Calls Tryd.prog 15 #[.pointer (some ⟨g, 0, none⟩), .string nm] w (OpP B w g mb m sz lf wr (if (lookM m nm).isSome then pwE lf else 6) (fun m' => m' = updM m nm { fileM m nm with sf := (fileM m nm).bs.length, hd := true })) := by
  have H := hidU h
  obtain ⟨E, hE⟩ : ∃ E, Hid (E = if (lookM m nm).isSome then pwE lf else 6) := ⟨_, (rfl : _ = if (lookM m nm).isSome then pwE lf else 6)⟩
  rw [← hE.out]
  have HL0 := hidU (fun x (hx : Below w.heap.size w x) => lacks_p (h.below hx) hs)
  clear h
  obtain ⟨PP, hPP⟩ : ∃ PP : Ending → World → Prop, Hid (PP = OpP B w g mb m sz lf wr E (fun m' => m' = updM m nm { fileM m nm with sf := (fileM m nm).bs.length, hd := true })) := ⟨_, (rfl : _ = OpP B w g mb m sz lf wr E (fun m' => m' = updM m nm { fileM m nm with sf := (fileM m nm).bs.length, hd := true }))⟩
  rw [← hPP.out]
  go_enter Tryd.func15, Tryd.ntmps15
  go_wp2_with (first
    | (refine wpList_box1 rfl 22 (.tmp 0) rfl (.pointer (some ⟨g, 0, none⟩)) rfl (fun _ q => by cases q) ?_; intro w1 hA1 hb1 hs1; refine Hid.out ?_))
  refine hidU ?_
  obtain ⟨k1, hk1⟩ : ∃ k, k = w.heap.size := ⟨_, rfl⟩
  rw [← hk1] at hA1 ⊢
  have HB1 := hidU hb1
  clear hb1 hs1 hk1
  go_wp2_with (first
    | (refine wpList_box1 rfl 9 (.tmp 1) rfl (.string nm) rfl (fun _ q => by cases q) ?_; intro w2 hA2 hb2 hs2; refine Hid.out ?_))
  refine hidU ?_
  obtain ⟨k2, hk2⟩ : ∃ k, k = w1.heap.size := ⟨_, rfl⟩
  rw [← hk2] at hA2 ⊢
  have HB2 := hidU (HB1.out.trans (hb2.mono HB1.out.size))
  have HD := hidU (hA1.below hb2)
  have HN := hidU hA2
  have c1 : w2.cell? ⟨k1, 0, none⟩ = some (.pointer (some ⟨g, 0, none⟩)) := by rw [HD.out.cell]; rfl
  have c2 : w2.cell? ⟨k2, 0, none⟩ = some (.string nm) := by rw [HN.out.cell]; rfl
  have HL := hidU (HL0.out w2 HB2.out)
  clear hb2 hs2 hA1 hA2 HL0 HB1 hk2
  cases hl : lookM m nm with
  | none =>
    have e1 : E = 6 := by rw [hE.out, hl]; rfl
    subst e1
    rw [show lkZ m nm = 6 by unfold lkZ; rw [hl]; rfl] at HL
    clear hl
    go_wp2_with (go_at_call 49; refine HL.out.mono ?_; rintro _ w3 ⟨rfl, hb3⟩; have HB3 := hidU (HB2.out.trans (hb3.mono HB2.out.size)); clear hb3)
    rw [hPP.out]
    exact ⟨rfl, fun _ => HB3.out, fun e => by cases e⟩
  | some f =>
    have h40 : nm.size ≤ 40 := H.out.ns _ (look_mem hl)
    have e1 : E = pwE lf := by rw [hE.out, hl]; rfl
    rw [show lkZ m nm = 0 by unfold lkZ; rw [hl]; rfl] at HL
    go_wp2_with (go_at_call 49; refine HL.out.mono ?_; rintro _ w3 ⟨rfl, hb3⟩; refine Hid.out ?_)
    refine hidU ?_
    have HB3 := hidU (HB2.out.trans (hb3.mono HB2.out.size))
    have c3 : w3.cell? ⟨k1, 0, none⟩ = some (.pointer (some ⟨g, 0, none⟩)) := by rw [(HD.out.below hb3).cell]; rfl
    have HW := hidU (writ_54 B g mb w w3 m sz wr lf k1 k2 (fun m' => m' = updM m nm { fileM m nm with sf := (fileM m nm).bs.length, hd := true }) H.out HB3.out hwr hlf hlg ((sync_c B g mb w3 m sz wr lf nm k1 k2 (H.out.below HB3.out) hsf (HD.out.below hb3) (HN.out.below hb3) hsum h40).mono (by
      rintro r w' ⟨rfl, hW⟩
      exact ⟨rfl, _, rfl, hW.from HB3.out⟩)))
    rw [← e1] at HW
    rw [← hPP.out] at HW
    have hPX : ∀ r w', PP r w' → r = .returned (.int .i64 E) := fun r w' q => by rw [hPP.out] at q; exact q.1
    clear c1 c2 hb3 e1 hl
    go_wp2_with (go_at_call 36; refine HW.out.mono ?_; rintro e w4 q; obtain rfl := hPX _ _ q)
    exact q
theorem remove_p {B g mb : Nat} {w : World} {m : FMap} {sz wr : Nat} {lf : Int} {nm : ByteArray} (h : Ds B w g mb m sz lf wr) (hsf : ∀ p ∈ m, p.2.sf ≤ p.2.bs.length) (hsum : sumM m ≤ 67108864) (hwr : wr ≤ 4611686018427387904) (hlf : -1 ≤ lf) (hlg : lf ≤ 9223372036854775807) (hs : nm.size ≤ 9223372036854775807) :
    Calls Tryd.prog 17 #[.pointer (some ⟨g, 0, none⟩), .string nm] w (OpP B w g mb m sz lf wr (if (lookM m nm).isSome then pwE lf else 6) (fun m' => m' = delM m nm)) := by
  have H := hidU h
  obtain ⟨E, hE⟩ : ∃ E, Hid (E = if (lookM m nm).isSome then pwE lf else 6) := ⟨_, (rfl : _ = if (lookM m nm).isSome then pwE lf else 6)⟩
  rw [← hE.out]
  have HL0 := hidU (fun x (hx : Below w.heap.size w x) => lacks_p (h.below hx) hs)
  clear h
  obtain ⟨PP, hPP⟩ : ∃ PP : Ending → World → Prop, Hid (PP = OpP B w g mb m sz lf wr E (fun m' => m' = delM m nm)) := ⟨_, (rfl : _ = OpP B w g mb m sz lf wr E (fun m' => m' = delM m nm))⟩
  rw [← hPP.out]
  go_enter Tryd.func17, Tryd.ntmps17
  go_wp2_with (first
    | (refine wpList_box1 rfl 22 (.tmp 0) rfl (.pointer (some ⟨g, 0, none⟩)) rfl (fun _ q => by cases q) ?_; intro w1 hA1 hb1 hs1; refine Hid.out ?_))
  refine hidU ?_
  obtain ⟨k1, hk1⟩ : ∃ k, k = w.heap.size := ⟨_, rfl⟩
  rw [← hk1] at hA1 ⊢
  have HB1 := hidU hb1
  clear hb1 hs1 hk1
  go_wp2_with (first
    | (refine wpList_box1 rfl 9 (.tmp 1) rfl (.string nm) rfl (fun _ q => by cases q) ?_; intro w2 hA2 hb2 hs2; refine Hid.out ?_))
  refine hidU ?_
  obtain ⟨k2, hk2⟩ : ∃ k, k = w1.heap.size := ⟨_, rfl⟩
  rw [← hk2] at hA2 ⊢
  have HB2 := hidU (HB1.out.trans (hb2.mono HB1.out.size))
  have HD := hidU (hA1.below hb2)
  have HN := hidU hA2
  have c1 : w2.cell? ⟨k1, 0, none⟩ = some (.pointer (some ⟨g, 0, none⟩)) := by rw [HD.out.cell]; rfl
  have c2 : w2.cell? ⟨k2, 0, none⟩ = some (.string nm) := by rw [HN.out.cell]; rfl
  have HL := hidU (HL0.out w2 HB2.out)
  clear hb2 hs2 hA1 hA2 HL0 HB1 hk2
  cases hl : lookM m nm with
  | none =>
    have e1 : E = 6 := by rw [hE.out, hl]; rfl
    subst e1
    rw [show lkZ m nm = 6 by unfold lkZ; rw [hl]; rfl] at HL
    clear hl
    go_wp2_with (go_at_call 49; refine HL.out.mono ?_; rintro _ w3 ⟨rfl, hb3⟩; have HB3 := hidU (HB2.out.trans (hb3.mono HB2.out.size)); clear hb3)
    rw [hPP.out]
    exact ⟨rfl, fun _ => HB3.out, fun e => by cases e⟩
  | some f =>
    have h40 : nm.size ≤ 40 := H.out.ns _ (look_mem hl)
    have e1 : E = pwE lf := by rw [hE.out, hl]; rfl
    rw [show lkZ m nm = 0 by unfold lkZ; rw [hl]; rfl] at HL
    go_wp2_with (go_at_call 49; refine HL.out.mono ?_; rintro _ w3 ⟨rfl, hb3⟩; refine Hid.out ?_)
    refine hidU ?_
    have HB3 := hidU (HB2.out.trans (hb3.mono HB2.out.size))
    have c3 : w3.cell? ⟨k1, 0, none⟩ = some (.pointer (some ⟨g, 0, none⟩)) := by rw [(HD.out.below hb3).cell]; rfl
    have HW := hidU (writ_57 B g mb w w3 m sz wr lf k1 k2 (fun m' => m' = delM m nm) H.out HB3.out hwr hlf hlg ((remove_c B g mb w3 m sz wr lf nm k1 k2 (H.out.below HB3.out) (HD.out.below hb3) (HN.out.below hb3) (by unfold maxLen; omega)).mono (by
      rintro r w' ⟨rfl, hW⟩
      exact ⟨rfl, _, rfl, hW.from HB3.out⟩)))
    rw [← e1] at HW
    rw [← hPP.out] at HW
    have hPX : ∀ r w', PP r w' → r = .returned (.int .i64 E) := fun r w' q => by rw [hPP.out] at q; exact q.1
    clear c1 c2 hb3 e1 hl
    go_wp2_with (go_at_call 36; refine HW.out.mono ?_; rintro e w4 q; obtain rfl := hPX _ _ q)
    exact q
end Go.Proofs.YtcmkjjlchljffaaDoor

/- The landed disk: Append, Cut and Rename. -/
namespace Go.Proofs.YtcmkjjlchljffaaDoor
open Go.RowKit
set_option linter.unusedVariables false
set_option maxRecDepth 100000
set_option maxHeartbeats 6400000

theorem append_p {B g mb : Nat} {w : World} {m : FMap} {sz wr : Nat} {lf : Int} {nm : ByteArray} (h : Ds B w g mb m sz lf wr) (hsf : ∀ p ∈ m, p.2.sf ≤ p.2.bs.length) (hsum : sumM m ≤ 67108864) (hwr : wr ≤ 4611686018427387904) (hlf : -1 ≤ lf) (hlg : lf ≤ 9223372036854775807) {ba : Option Addr} {lb bc : Nat} {b : List UInt8} (hs : nm.size ≤ 9223372036854775807) (hsz : sz ≤ 67108864) (hrow : Row w ba b) (hlb : b.length = lb) (hbc : lb ≤ bc) (hnil : ba = none → bc = 0) :
    Calls Tryd.prog 10 #[.pointer (some ⟨g, 0, none⟩), .string nm, .slice ba lb bc] w (OpP B w g mb m sz lf wr (if nmOk nm = false then 2 else if roomB m nm sz lb = false then 8 else pwE lf) (fun m' => ∃ v, m' = updM m nm { fileM m nm with v := v, bs := (fileM m nm).bs ++ b })) := by
  have H := hidU h
  have HR := hidU hrow
  obtain ⟨E, hE⟩ : ∃ E, Hid (E = if nmOk nm = false then 2 else if roomB m nm sz lb = false then 8 else pwE lf) := ⟨_, (rfl : _ = if nmOk nm = false then 2 else if roomB m nm sz lb = false then 8 else pwE lf)⟩
  rw [← hE.out]
  obtain ⟨PP, hPP⟩ : ∃ PP : Ending → World → Prop, Hid (PP = OpP B w g mb m sz lf wr E (fun m' => ∃ v, m' = updM m nm { fileM m nm with v := v, bs := (fileM m nm).bs ++ b })) := ⟨_, (rfl : _ = OpP B w g mb m sz lf wr E _)⟩
  rw [← hPP.out]
  clear h hrow
  go_enter Tryd.func10, Tryd.ntmps10
  go_wp2_with (first
    | (refine wpList_box1 rfl 22 (.tmp 0) rfl (.pointer (some ⟨g, 0, none⟩)) rfl (fun _ q => by cases q) ?_; intro w1 hA1 hb1 hs1; refine Hid.out ?_))
  refine hidU ?_
  obtain ⟨k1, hk1⟩ : ∃ k, k = w.heap.size := ⟨_, rfl⟩
  rw [← hk1] at hA1 ⊢
  have HB1 := hidU (hb1)
  have HA1 := hidU hA1
  clear hb1 hs1 hA1 hk1
  go_wp2_with (first
    | (refine wpList_box1 rfl 9 (.tmp 1) rfl (.string nm) rfl (fun _ q => by cases q) ?_; intro w2 hA2 hb2 hs2; refine Hid.out ?_))
  refine hidU ?_
  obtain ⟨k2, hk2⟩ : ∃ k, k = w1.heap.size := ⟨_, rfl⟩
  rw [← hk2] at hA2 ⊢
  have HB2 := hidU (HB1.out.trans (hb2.mono HB1.out.size))
  have HA2 := hidU hA2
  have HA1 := hidU (HA1.out.below hb2)
  clear hb2 hs2 hA2 hk2
  go_wp2_with (first
    | (refine wpList_box1 rfl 29 (.tmp 2) rfl (.slice ba lb bc) rfl (fun _ q => by cases q) ?_; intro w3 hA3 hb3 hs3; refine Hid.out ?_))
  refine hidU ?_
  obtain ⟨k3, hk3⟩ : ∃ k, k = w2.heap.size := ⟨_, rfl⟩
  rw [← hk3] at hA3 ⊢
  have HB3 := hidU (HB2.out.trans (hb3.mono HB2.out.size))
  have HA3 := hidU hA3
  have HA1 := hidU (HA1.out.below hb3)
  have HA2 := hidU (HA2.out.below hb3)
  clear hb3 hs3 hA3 hk3
  have HM := hidU (made_yes (H.out.below HB3.out).at_)
  have HN := hidU (fun x => isName_any nm x hs)
  have HRm := hidU (fun x (hx : Below w.heap.size w x) => room_any (nm := nm) lb (H.out.below hx) hsum hsz hs)
  have c1 : w3.cell? ⟨k1, 0, none⟩ = some (.pointer (some ⟨g, 0, none⟩)) := by rw [HA1.out.cell]; rfl
  have c2 : w3.cell? ⟨k2, 0, none⟩ = some (.string nm) := by rw [HA2.out.cell]; rfl
  clear HB1 HB2
  cases hq : nmOk nm with
  | false =>
    have e1 : E = 2 := by rw [hE.out, hq]; rfl
    subst e1
    rw [hq] at HN
    clear hq
    go_wp2_with (first
      | (go_at_call 33; refine HM.out.mono ?_; rintro _ x ⟨rfl, hw⟩; obtain rfl : w3 = x := hw.symm; clear hw)
      | (go_at_call 34; refine (HN.out _).mono ?_; rintro _ x4 ⟨rfl, hb4⟩; have HB4 := hidU (HB3.out.trans (hb4.mono HB3.out.size)); clear hb4))
    rw [hPP.out]
    exact ⟨rfl, fun _ => HB4.out, fun e => by cases e⟩
  | true =>
    have h40 : nm.size ≤ 40 := by
      unfold nmOk at hq
      simp at hq
      exact hq.2.2
    rw [hq] at HN
    go_wp2_with (first
      | (go_at_call 33; refine HM.out.mono ?_; rintro _ x ⟨rfl, hw⟩; obtain rfl : w3 = x := hw.symm; clear hw)
      | (go_at_call 34; refine (HN.out _).mono ?_; rintro _ w4 ⟨rfl, hb4⟩; refine Hid.out ?_))
    refine hidU ?_
    have HB4 := hidU (HB3.out.trans (hb4.mono HB3.out.size))
    have HA1 := hidU (HA1.out.below hb4)
    have HA2 := hidU (HA2.out.below hb4)
    have HA3 := hidU (HA3.out.below hb4)
    have HRm := hidU (HRm.out _ HB4.out)
    clear hb4 c1 c2 HM HN
    have c1 : w4.cell? ⟨k1, 0, none⟩ = some (.pointer (some ⟨g, 0, none⟩)) := by rw [HA1.out.cell]; rfl
    have c2 : w4.cell? ⟨k2, 0, none⟩ = some (.string nm) := by rw [HA2.out.cell]; rfl
    have c3 : w4.cell? ⟨k3, 0, none⟩ = some (.slice ba lb bc) := by rw [HA3.out.cell]; rfl
    cases hr : roomB m nm sz lb with
    | false =>
      have e1 : E = 8 := by rw [hE.out, hq, hr]; rfl
      subst e1
      rw [hr] at HRm
      clear hq hr
      go_wp2_with (go_at_call 35; refine HRm.out.mono ?_; rintro _ w5 ⟨rfl, hb5⟩; have HB5 := hidU (HB4.out.trans (hb5.mono HB4.out.size)); clear hb5)
      rw [hPP.out]
      exact ⟨rfl, fun _ => HB5.out, fun e => by cases e⟩
    | true =>
      have e1 : E = pwE lf := by rw [hE.out, hq, hr]; rfl
      have hroom : sumM m + lb ≤ 67108864 := by
        unfold roomB at hr
        rw [Bool.and_eq_true, decide_eq_true_eq] at hr
        omega
      rw [hr] at HRm
      go_wp2_with (go_at_call 35; refine HRm.out.mono ?_; rintro _ w5 ⟨rfl, hb5⟩; refine Hid.out ?_)
      refine hidU ?_
      have HB5 := hidU (HB4.out.trans (hb5.mono HB4.out.size))
      have d1 : w5.cell? ⟨k1, 0, none⟩ = some (.pointer (some ⟨g, 0, none⟩)) := by rw [(HA1.out.below hb5).cell]; rfl
      have HW := hidU (writ_37 B g mb w w5 m sz wr lf k1 k2 k3 (fun m' => ∃ v, m' = updM m nm { fileM m nm with v := v, bs := (fileM m nm).bs ++ b }) H.out HB5.out hwr hlf hlg ((append_c B g mb w5 m sz wr lf nm k1 k2 k3 ba lb bc b (H.out.below HB5.out) hsf (Nat.le_trans H.out.bg (Nat.le_of_lt (heapLt (H.out.below HB5.out).at_))) (HA1.out.below hb5) (HA2.out.below hb5) (HA3.out.below hb5) (HR.out.below HB5.out) hlb hbc hnil hroom h40).mono (by
        rintro r w' ⟨rfl, v, hW⟩
        exact ⟨rfl, _, ⟨v, rfl⟩, hW.from HB5.out⟩)))
      rw [← e1] at HW
      rw [← hPP.out] at HW
      have hPX : ∀ r w', PP r w' → r = .returned (.int .i64 E) := fun r w' q => by rw [hPP.out] at q; exact q.1
      clear c1 c2 c3 hb5 e1 hq hr
      go_wp2_with (go_at_call 36; refine HW.out.mono ?_; rintro e w6 q; obtain rfl := hPX _ _ q)
      exact q
end Go.Proofs.YtcmkjjlchljffaaDoor

/- The landed disk: Cut and Rename. -/
namespace Go.Proofs.YtcmkjjlchljffaaDoor
open Go.RowKit
set_option linter.unusedVariables false
set_option maxRecDepth 100000
set_option maxHeartbeats 6400000

theorem cut_p {B g mb : Nat} {w : World} {m : FMap} {sz wr : Nat} {lf : Int} {nm : ByteArray} (h : Ds B w g mb m sz lf wr) (hsf : ∀ p ∈ m, p.2.sf ≤ p.2.bs.length) (hsum : sumM m ≤ 67108864) (hwr : wr ≤ 4611686018427387904) (hlf : -1 ≤ lf) (hlg : lf ≤ 9223372036854775807) {z : Int} (hs : nm.size ≤ 9223372036854775807) :
    Calls Tryd.prog 14 #[.pointer (some ⟨g, 0, none⟩), .string nm, .int .i64 z] w (OpP B w g mb m sz lf wr (if (lookM m nm).isSome then (if z < 0 ∨ ((fileM m nm).bs.length : Int) < z then 2 else if (fileM m nm).sf < (fileM m nm).bs.length then 10 else pwE lf) else 6) (fun m' => ∃ v, m' = updM m nm ⟨v, (fileM m nm).bs.take z.toNat, min (fileM m nm).sf z.toNat, true⟩)) := by
  have H := hidU h
  obtain ⟨E, hE⟩ : ∃ E, Hid (E = if (lookM m nm).isSome then (if z < 0 ∨ ((fileM m nm).bs.length : Int) < z then 2 else if (fileM m nm).sf < (fileM m nm).bs.length then 10 else pwE lf) else 6) := ⟨_, (rfl : _ = if (lookM m nm).isSome then (if z < 0 ∨ ((fileM m nm).bs.length : Int) < z then 2 else if (fileM m nm).sf < (fileM m nm).bs.length then 10 else pwE lf) else 6)⟩
  rw [← hE.out]
  obtain ⟨PP, hPP⟩ : ∃ PP : Ending → World → Prop, Hid (PP = OpP B w g mb m sz lf wr E (fun m' => ∃ v, m' = updM m nm ⟨v, (fileM m nm).bs.take z.toNat, min (fileM m nm).sf z.toNat, true⟩)) := ⟨_, (rfl : _ = OpP B w g mb m sz lf wr E _)⟩
  rw [← hPP.out]
  have HLT := hidU (fun x (hx : Below w.heap.size w x) => (h.mp.below hx).lookT (nm := nm) (by unfold maxLen; omega))
  clear h
  go_enter Tryd.func14, Tryd.ntmps14
  go_wp2_with (first
    | (refine wpList_box1 rfl 22 (.tmp 0) rfl (.pointer (some ⟨g, 0, none⟩)) rfl (fun _ q => by cases q) ?_; intro w1 hA1 hb1 hs1; refine Hid.out ?_))
  refine hidU ?_
  obtain ⟨k1, hk1⟩ : ∃ k, k = w.heap.size := ⟨_, rfl⟩
  rw [← hk1] at hA1 ⊢
  have HB1 := hidU (hb1)
  have HA1 := hidU hA1
  clear hb1 hs1 hA1 hk1
  go_wp2_with (first
    | (refine wpList_box1 rfl 9 (.tmp 1) rfl (.string nm) rfl (fun _ q => by cases q) ?_; intro w2 hA2 hb2 hs2; refine Hid.out ?_))
  refine hidU ?_
  obtain ⟨k2, hk2⟩ : ∃ k, k = w1.heap.size := ⟨_, rfl⟩
  rw [← hk2] at hA2 ⊢
  have HB2 := hidU (HB1.out.trans (hb2.mono HB1.out.size))
  have HA2 := hidU hA2
  have HA1 := hidU (HA1.out.below hb2)
  clear hb2 hs2 hA2 hk2
  go_wp2_with (first
    | (refine wpList_box1 rfl 3 (.tmp 2) rfl (.int .i64 z) rfl (fun _ q => by cases q) ?_; intro w3 hA3 hb3 hs3; refine Hid.out ?_))
  refine hidU ?_
  obtain ⟨k3, hk3⟩ : ∃ k, k = w2.heap.size := ⟨_, rfl⟩
  rw [← hk3] at hA3 ⊢
  have HB3 := hidU (HB2.out.trans (hb3.mono HB2.out.size))
  have HA3 := hidU hA3
  have HA1 := hidU (HA1.out.below hb3)
  have HA2 := hidU (HA2.out.below hb3)
  clear hb3 hs3 hA3 hk3
  have HM := hidU (made_yes (H.out.below HB3.out).at_)
  have c1 : w3.cell? ⟨k1, 0, none⟩ = some (.pointer (some ⟨g, 0, none⟩)) := by rw [HA1.out.cell]; rfl
  have c2 : w3.cell? ⟨k2, 0, none⟩ = some (.string nm) := by rw [HA2.out.cell]; rfl
  have q3 := (H.out.below HB3.out).files
  clear HB1 HB2
  cases hl : lookM m nm with
  | none =>
    have HLk : Hid (∀ x, Below w3.heap.size w3 x → (Instr.lookup 33 (.map (some mb)) (.string nm) true).run Tryd.prog x = .ok (.tuple #[.agg #[.slice none 0 0, .int .i64 0, .bool false], .bool false]) x) := hidU (fun x hx => by
      have := HLT.out x (HB3.out.trans (hx.mono HB3.out.size))
      rw [file_none hl, hl] at this
      exact this)
    have e1 : E = 6 := by rw [hE.out, hl]; rfl
    subst e1
    clear hl hE
    go_wp2_with (go_at_call 33; refine HM.out.mono ?_; rintro _ x ⟨rfl, hw⟩; obtain rfl : w3 = x := hw.symm; clear hw)
    have hS0 : Below w3.heap.size w3 w3.drew := Below.drew (Below.refl _ _)
    refine wp_region_held_drew (S := fun xS => Below w3.heap.size w3 xS) (by kernel_rfl) hS0 ?_
    obtain ⟨x0, hx0⟩ : ∃ x, x = w3.drew := ⟨_, rfl⟩
    rw [← hx0] at hS0  ⊢
    clear hx0
    intro _
    refine wpAnyH_take (i := 0) (oi := { dst := some 13, op := .load 22 (.tmp 3), type := _, pos := _, after := _, guard := none }) (v := .pointer (some ⟨g, 0, none⟩)) rfl (by kernel_rfl) (by kernel_rfl) (by kernel_rfl) (fun _ _ _ h => h) (Or.inl ⟨by rfl, ?_⟩) hS0 ?_
    · intro wS hSw
      have z0 := (hSw.cell (lt_of_cell c1)).trans c1
      go_simp
    simp only [Act.put, List.setIfInBounds_toArray, List.set_cons_zero, List.set_cons_succ]
    refine wpAnyH_take (i := 1) (oi := { dst := some 14, op := .nilCheck (.tmp 13), type := _, pos := _, after := _, guard := none }) (v := .pointer (some ⟨g, 0, none⟩)) rfl (by kernel_rfl) (by kernel_rfl) (by kernel_rfl) (fun _ _ _ h => h) (Or.inl ⟨by rfl, ?_⟩) hS0 ?_
    · intro wS hSw
      go_simp
    simp only [Act.put, List.setIfInBounds_toArray, List.set_cons_zero, List.set_cons_succ]
    refine wpAnyH_take (i := 2) (oi := { dst := some 15, op := .fieldAddr 35 (.tmp 14) 2, type := _, pos := _, after := _, guard := none }) (v := .pointer (some ⟨g, 2, none⟩)) rfl (by kernel_rfl) (by kernel_rfl) (by kernel_rfl) (fun _ _ _ h => h) (Or.inl ⟨by rfl, ?_⟩) hS0 ?_
    · intro wS hSw
      go_simp
    simp only [Act.put, List.setIfInBounds_toArray, List.set_cons_zero, List.set_cons_succ]
    refine wpAnyH_take (i := 3) (oi := { dst := some 16, op := .load 33 (.tmp 15), type := _, pos := _, after := _, guard := none }) (v := .map (some mb)) rfl (by kernel_rfl) (by kernel_rfl) (by kernel_rfl) (fun _ _ _ h => h) (Or.inl ⟨by rfl, ?_⟩) hS0 ?_
    · intro wS hSw
      have z0 := (hSw.cell (lt_of_cell q3)).trans q3
      go_simp
    simp only [Act.put, List.setIfInBounds_toArray, List.set_cons_zero, List.set_cons_succ]
    refine wpAnyH_take (i := 4) (oi := { dst := some 17, op := .load 9 (.tmp 4), type := _, pos := _, after := _, guard := none }) (v := .string nm) rfl (by kernel_rfl) (by kernel_rfl) (by kernel_rfl) (fun _ _ _ h => h) (Or.inl ⟨by rfl, ?_⟩) hS0 ?_
    · intro wS hSw
      have z0 := (hSw.cell (lt_of_cell c2)).trans c2
      go_simp
    simp only [Act.put, List.setIfInBounds_toArray, List.set_cons_zero, List.set_cons_succ]
    refine wpAnyH_take (i := 5) (oi := { dst := some 18, op := .lookup 33 (.tmp 16) (.tmp 17) true, type := _, pos := _, after := _, guard := none }) (v := .tuple #[.agg #[.slice none 0 0, .int .i64 0, .bool false], .bool false]) rfl (by kernel_rfl) (by kernel_rfl) (by kernel_rfl) (fun _ _ _ h => h) (Or.inl ⟨by rfl, ?_⟩) hS0 ?_
    · intro wS hSw
      have hz := HLk.out _ hSw
      go_simp
      try rw [hz]
      try rfl
    simp only [Act.put, List.setIfInBounds_toArray, List.set_cons_zero, List.set_cons_succ]
    refine wpAnyH_take (i := 6) (oi := { dst := some 12, op := .move (.tmp 18), type := _, pos := _, after := _, guard := none }) (v := .tuple #[.agg #[.slice none 0 0, .int .i64 0, .bool false], .bool false]) rfl (by kernel_rfl) (by kernel_rfl) (by kernel_rfl) (fun _ _ _ h => h) (Or.inl ⟨by rfl, ?_⟩) hS0 ?_
    · intro wS hSw
      go_simp
    simp only [Act.put, List.setIfInBounds_toArray, List.set_cons_zero, List.set_cons_succ]
    refine wpAnyH_take (i := 7) (oi := { dst := some 19, op := .extract (.tmp 12) 0, type := _, pos := _, after := _, guard := none }) (v := .agg #[.slice none 0 0, .int .i64 0, .bool false]) rfl (by kernel_rfl) (by kernel_rfl) (by kernel_rfl) (fun _ _ _ h => h) (Or.inl ⟨by rfl, ?_⟩) hS0 ?_
    · intro wS hSw
      go_simp
    simp only [Act.put, List.setIfInBounds_toArray, List.set_cons_zero, List.set_cons_succ]
    refine wpAnyH_take (i := 8) (oi := { dst := some 20, op := .extract (.tmp 12) 1, type := _, pos := _, after := _, guard := none }) (v := .bool false) rfl (by kernel_rfl) (by kernel_rfl) (by kernel_rfl) (fun _ _ _ h => h) (Or.inl ⟨by rfl, ?_⟩) hS0 ?_
    · intro wS hSw
      go_simp
    simp only [Act.put, List.setIfInBounds_toArray, List.set_cons_zero, List.set_cons_succ]
    refine wpAnyH_ready (rs := [9]) (by kernel_rfl) (by simp) ?_
    refine AllReadyH.cons (o := { dst := some 7, op := .alloc 66, type := _, pos := _, after := _, guard := none }) rfl (fun K hK => ?_) AllReadyH.nil
    rw [if_pos (by rfl)]
    have sv1 := hS0.size
    refine wp_alloc_at 66 rfl [Value.slice none 0 0, .int .i64 0, .bool false] _ z66 ?_
    intro x1 hA1 hb1 hs1
    have lt1 : x0.heap.size < x1.heap.size := hA1.lt
    clear hs1
    have sz1 := hb1.size
    have hS1 := hS0.trans (hb1.mono hS0.size)
    refine hK.out _ _ hS1 (fun _ => ?_)
    clear hK K
    refine wpAnyH_ready (rs := [10]) (by kernel_rfl) (by simp) ?_
    refine AllReadyH.cons (o := { dst := none, op := .store 66 (.tmp 7) (.tmp 19), type := _, pos := _, after := _, guard := none }) rfl (fun K hK => ?_) AllReadyH.nil
    rw [if_pos (by rfl)]
    have sv2 := hS1.size
    refine wp_store3 (.tmp 7) (.tmp 19) rfl (x0.heap.size) [.slice none 0 0, .int .i64 0, .bool false] rfl rfl _ hA1 rfl rfl one3 ?_
    intro x2 hA2 hb2 hs2
    clear hA1
    have sz2 := hb2.size
    have hS2 := hb2.below hS1 sv1 hS1.size
    refine hK.out _ _ hS2 (fun _ => ?_)
    clear hK K
    refine wpAnyH_take (i := 11) (oi := { dst := some 8, op := .assign (.tmp 20), type := _, pos := _, after := _, guard := none }) (v := .bool false) rfl (by kernel_rfl) (by kernel_rfl) (by kernel_rfl) (fun _ _ _ h => h) (Or.inl ⟨by rfl, ?_⟩) hS2 ?_
    · intro wS hSw
      go_simp
    simp only [Act.put, List.setIfInBounds_toArray, List.set_cons_zero, List.set_cons_succ]
    refine wpAnyH_done (by kernel_rfl) ?_ _
    have hAG := hA2
    have HBx := hidU (hS2)
    have hGl : w3.heap.size ≤ x0.heap.size := sv1
    obtain ⟨G, hG⟩ : ∃ G, G = x0.heap.size := ⟨_, rfl⟩
    rw [← hG] at hAG hGl ⊢
    clear hG
    clear hS0 hb1 sv1 sz1 hS1 lt1 hb2 sv2 sz2 hS2 hs2 hA2
    have HB4 := hidU (HB3.out.trans (HBx.out.mono HB3.out.size))
    clear c1 c2 q3 HM HLk
    go_wp2
    rw [hPP.out]
    exact ⟨rfl, fun _ => HB4.out, fun e => by cases e⟩

  | some f =>
    obtain ⟨a, n, c, bs, sf, hd, rfl, hn, hnc, hcm, hn0, hR, hO⟩ := look_parts H.out hl
    have h40 : nm.size ≤ 40 := H.out.ns _ (look_mem hl)
    have hns := sum_mem (look_mem hl)
    have hsn := hsf _ (look_mem hl)
    simp only [hn] at hns hsn
    have HLk : Hid (∀ x, Below w3.heap.size w3 x → (Instr.lookup 33 (.map (some mb)) (.string nm) true).run Tryd.prog x = .ok (.tuple #[.agg #[.slice a n c, .int .i64 (sf : Int), .bool hd], .bool true]) x) := hidU (fun x hx => by
      have := HLT.out x (HB3.out.trans (hx.mono HB3.out.size))
      rw [file_some hl, hl] at this
      exact this)
    have HLO := hidU (fun x => loose_any ⟨.slice a n c, bs, sf, hd⟩ n c a x rfl (show sf ≤ _ by omega) (by omega))
    go_wp2_with (go_at_call 33; refine HM.out.mono ?_; rintro _ x ⟨rfl, hw⟩; obtain rfl : w3 = x := hw.symm; clear hw)
    have hS0 : Below w3.heap.size w3 w3.drew := Below.drew (Below.refl _ _)
    refine wp_region_held_drew (S := fun xS => Below w3.heap.size w3 xS) (by kernel_rfl) hS0 ?_
    obtain ⟨x0, hx0⟩ : ∃ x, x = w3.drew := ⟨_, rfl⟩
    rw [← hx0] at hS0  ⊢
    clear hx0
    intro _
    refine wpAnyH_take (i := 0) (oi := { dst := some 13, op := .load 22 (.tmp 3), type := _, pos := _, after := _, guard := none }) (v := .pointer (some ⟨g, 0, none⟩)) rfl (by kernel_rfl) (by kernel_rfl) (by kernel_rfl) (fun _ _ _ h => h) (Or.inl ⟨by rfl, ?_⟩) hS0 ?_
    · intro wS hSw
      have z0 := (hSw.cell (lt_of_cell c1)).trans c1
      go_simp
    simp only [Act.put, List.setIfInBounds_toArray, List.set_cons_zero, List.set_cons_succ]
    refine wpAnyH_take (i := 1) (oi := { dst := some 14, op := .nilCheck (.tmp 13), type := _, pos := _, after := _, guard := none }) (v := .pointer (some ⟨g, 0, none⟩)) rfl (by kernel_rfl) (by kernel_rfl) (by kernel_rfl) (fun _ _ _ h => h) (Or.inl ⟨by rfl, ?_⟩) hS0 ?_
    · intro wS hSw
      go_simp
    simp only [Act.put, List.setIfInBounds_toArray, List.set_cons_zero, List.set_cons_succ]
    refine wpAnyH_take (i := 2) (oi := { dst := some 15, op := .fieldAddr 35 (.tmp 14) 2, type := _, pos := _, after := _, guard := none }) (v := .pointer (some ⟨g, 2, none⟩)) rfl (by kernel_rfl) (by kernel_rfl) (by kernel_rfl) (fun _ _ _ h => h) (Or.inl ⟨by rfl, ?_⟩) hS0 ?_
    · intro wS hSw
      go_simp
    simp only [Act.put, List.setIfInBounds_toArray, List.set_cons_zero, List.set_cons_succ]
    refine wpAnyH_take (i := 3) (oi := { dst := some 16, op := .load 33 (.tmp 15), type := _, pos := _, after := _, guard := none }) (v := .map (some mb)) rfl (by kernel_rfl) (by kernel_rfl) (by kernel_rfl) (fun _ _ _ h => h) (Or.inl ⟨by rfl, ?_⟩) hS0 ?_
    · intro wS hSw
      have z0 := (hSw.cell (lt_of_cell q3)).trans q3
      go_simp
    simp only [Act.put, List.setIfInBounds_toArray, List.set_cons_zero, List.set_cons_succ]
    refine wpAnyH_take (i := 4) (oi := { dst := some 17, op := .load 9 (.tmp 4), type := _, pos := _, after := _, guard := none }) (v := .string nm) rfl (by kernel_rfl) (by kernel_rfl) (by kernel_rfl) (fun _ _ _ h => h) (Or.inl ⟨by rfl, ?_⟩) hS0 ?_
    · intro wS hSw
      have z0 := (hSw.cell (lt_of_cell c2)).trans c2
      go_simp
    simp only [Act.put, List.setIfInBounds_toArray, List.set_cons_zero, List.set_cons_succ]
    refine wpAnyH_take (i := 5) (oi := { dst := some 18, op := .lookup 33 (.tmp 16) (.tmp 17) true, type := _, pos := _, after := _, guard := none }) (v := .tuple #[.agg #[.slice a n c, .int .i64 (sf : Int), .bool hd], .bool true]) rfl (by kernel_rfl) (by kernel_rfl) (by kernel_rfl) (fun _ _ _ h => h) (Or.inl ⟨by rfl, ?_⟩) hS0 ?_
    · intro wS hSw
      have hz := HLk.out _ hSw
      go_simp
      try rw [hz]
      try rfl
    simp only [Act.put, List.setIfInBounds_toArray, List.set_cons_zero, List.set_cons_succ]
    refine wpAnyH_take (i := 6) (oi := { dst := some 12, op := .move (.tmp 18), type := _, pos := _, after := _, guard := none }) (v := .tuple #[.agg #[.slice a n c, .int .i64 (sf : Int), .bool hd], .bool true]) rfl (by kernel_rfl) (by kernel_rfl) (by kernel_rfl) (fun _ _ _ h => h) (Or.inl ⟨by rfl, ?_⟩) hS0 ?_
    · intro wS hSw
      go_simp
    simp only [Act.put, List.setIfInBounds_toArray, List.set_cons_zero, List.set_cons_succ]
    refine wpAnyH_take (i := 7) (oi := { dst := some 19, op := .extract (.tmp 12) 0, type := _, pos := _, after := _, guard := none }) (v := .agg #[.slice a n c, .int .i64 (sf : Int), .bool hd]) rfl (by kernel_rfl) (by kernel_rfl) (by kernel_rfl) (fun _ _ _ h => h) (Or.inl ⟨by rfl, ?_⟩) hS0 ?_
    · intro wS hSw
      go_simp
    simp only [Act.put, List.setIfInBounds_toArray, List.set_cons_zero, List.set_cons_succ]
    refine wpAnyH_take (i := 8) (oi := { dst := some 20, op := .extract (.tmp 12) 1, type := _, pos := _, after := _, guard := none }) (v := .bool true) rfl (by kernel_rfl) (by kernel_rfl) (by kernel_rfl) (fun _ _ _ h => h) (Or.inl ⟨by rfl, ?_⟩) hS0 ?_
    · intro wS hSw
      go_simp
    simp only [Act.put, List.setIfInBounds_toArray, List.set_cons_zero, List.set_cons_succ]
    refine wpAnyH_ready (rs := [9]) (by kernel_rfl) (by simp) ?_
    refine AllReadyH.cons (o := { dst := some 7, op := .alloc 66, type := _, pos := _, after := _, guard := none }) rfl (fun K hK => ?_) AllReadyH.nil
    rw [if_pos (by rfl)]
    have sv1 := hS0.size
    refine wp_alloc_at 66 rfl [Value.slice none 0 0, .int .i64 0, .bool false] _ z66 ?_
    intro x1 hA1 hb1 hs1
    have lt1 : x0.heap.size < x1.heap.size := hA1.lt
    clear hs1
    have sz1 := hb1.size
    have hS1 := hS0.trans (hb1.mono hS0.size)
    refine hK.out _ _ hS1 (fun _ => ?_)
    clear hK K
    refine wpAnyH_ready (rs := [10]) (by kernel_rfl) (by simp) ?_
    refine AllReadyH.cons (o := { dst := none, op := .store 66 (.tmp 7) (.tmp 19), type := _, pos := _, after := _, guard := none }) rfl (fun K hK => ?_) AllReadyH.nil
    rw [if_pos (by rfl)]
    have sv2 := hS1.size
    refine wp_store3 (.tmp 7) (.tmp 19) rfl (x0.heap.size) [.slice a n c, .int .i64 (sf : Int), .bool hd] rfl rfl _ hA1 rfl rfl one3 ?_
    intro x2 hA2 hb2 hs2
    clear hA1
    have sz2 := hb2.size
    have hS2 := hb2.below hS1 sv1 hS1.size
    refine hK.out _ _ hS2 (fun _ => ?_)
    clear hK K
    refine wpAnyH_take (i := 11) (oi := { dst := some 8, op := .assign (.tmp 20), type := _, pos := _, after := _, guard := none }) (v := .bool true) rfl (by kernel_rfl) (by kernel_rfl) (by kernel_rfl) (fun _ _ _ h => h) (Or.inl ⟨by rfl, ?_⟩) hS2 ?_
    · intro wS hSw
      go_simp
    simp only [Act.put, List.setIfInBounds_toArray, List.set_cons_zero, List.set_cons_succ]
    refine wpAnyH_done (by kernel_rfl) ?_ _
    have hAG := hA2
    have HBx := hidU (hS2)
    have hGl : w3.heap.size ≤ x0.heap.size := sv1
    obtain ⟨G, hG⟩ : ∃ G, G = x0.heap.size := ⟨_, rfl⟩
    rw [← hG] at hAG hGl ⊢
    clear hG
    clear hS0 hb1 sv1 sz1 hS1 lt1 hb2 sv2 sz2 hS2 hs2 hA2
    have HB4 := hidU (HB3.out.trans (HBx.out.mono HB3.out.size))
    have HA1 := hidU (HA1.out.below HBx.out)
    have HA2 := hidU (HA2.out.below HBx.out)
    have HA3 := hidU (HA3.out.below HBx.out)
    have hGw : w.heap.size ≤ G := Nat.le_trans HB3.out.size hGl
    have e0 : fileM m nm = ⟨.slice a n c, bs, sf, hd⟩ := file_some hl
    clear c1 c2 q3 HM HLk HBx hGl
    have c3 : x2.cell? ⟨k3, 0, none⟩ = some (.int .i64 z) := by rw [HA3.out.cell]; rfl
    have g0 : x2.cell? ⟨G, 0, none⟩ = some (.slice a n c) := by rw [hAG.cell]; rfl
    have hw1 : IntKind.i64.wrap ((n : Int) - (sf : Int)) = (n : Int) - (sf : Int) := by rw [IntKind.wrap_i64]; omega
    by_cases hz0 : z < 0
    · have e1 : E = 2 := by rw [hE.out, hl, if_pos Option.isSome_some, if_pos (.inl hz0)]
      subst e1
      clear hl hE e0
      go_wp2
      rw [hPP.out]
      exact ⟨rfl, fun _ => HB4.out, fun e => by cases e⟩
    · by_cases hzn : (n : Int) < z
      · have e1 : E = 2 := by rw [hE.out, hl, if_pos Option.isSome_some, if_pos (.inr (by rw [e0]; simp only [hn]; exact hzn))]
        subst e1
        clear hl hE e0
        go_wp2
        rw [hPP.out]
        exact ⟨rfl, fun _ => HB4.out, fun e => by cases e⟩
      · by_cases hlo : sf < n
        · have e1 : E = 10 := by rw [hE.out, hl, if_pos Option.isSome_some, if_neg (by rw [e0]; simp only [hn]; omega), if_pos (by rw [e0]; simp only [hn]; exact hlo)]
          subst e1
          have hp1 : (0 : Int) < (n : Int) - (sf : Int) := by omega
          clear hl hE e0
          go_wp2_with (first
            | (refine wpList_load_at rfl 66 (.tmp 7) rfl G rfl 66 _ hAG _ Tryd.underlying66 rfl i66 ?_)
            | (go_at_call 51; refine (HLO.out _).mono ?_; rintro _ x5 ⟨rfl, hb5⟩; have HB5 := hidU (HB4.out.trans (hb5.mono HB4.out.size)); clear hb5))
          rw [hPP.out]
          exact ⟨rfl, fun _ => HB5.out, fun e => by cases e⟩
        · have e1 : E = pwE lf := by rw [hE.out, hl, if_pos Option.isSome_some, if_neg (by rw [e0]; simp only [hn]; omega), if_neg (by rw [e0]; simp only [hn]; omega)]
          have hp1 : ¬ (0 : Int) < (n : Int) - (sf : Int) := by omega
          obtain ⟨zn, hzn2⟩ : ∃ zn : Nat, Hid (z = (zn : Int)) := ⟨z.toNat, (show z = (z.toNat : Int) by omega)⟩
          have hzle : zn ≤ n := by have := hzn2.out; omega
          have HZ := hidU (show z.toNat = zn by have := hzn2.out; omega)
          go_wp2_with (first
            | (refine wpList_load_at rfl 66 (.tmp 7) rfl G rfl 66 _ hAG _ Tryd.underlying66 rfl i66 ?_)
            | (go_at_call 51; refine (HLO.out _).mono ?_; rintro _ w5 ⟨rfl, hb5⟩; refine Hid.out ?_))
          refine hidU ?_
          have HB5 := hidU (HB4.out.trans (hb5.mono HB4.out.size))
          have d1 : w5.cell? ⟨k1, 0, none⟩ = some (.pointer (some ⟨g, 0, none⟩)) := by rw [(HA1.out.below hb5).cell]; rfl
          have HZ3 := hidU ((HA3.out.below hb5))
          rw [hzn2.out] at HZ3
          have HW := hidU (writ_52 B g mb w w5 m sz wr lf G k3 k1 k2 (fun m' => ∃ v, m' = updM m nm ⟨v, (fileM m nm).bs.take z.toNat, min (fileM m nm).sf z.toNat, true⟩) H.out HB5.out hwr hlf hlg ((cut_c B g mb w w5 m sz wr lf nm G k3 k1 k2 zn a n c bs sf hd H.out HB5.out hsf hl (hAG.below hb5) HZ3.out (HA1.out.below hb5) (HA2.out.below hb5) hGw hzle hsum).mono (by
            rintro r w' ⟨rfl, v, hW⟩
            refine ⟨rfl, _, ⟨v, rfl⟩, ?_⟩
            rw [e0, HZ.out]
            exact hW)))
          rw [← e1] at HW
          rw [← hPP.out] at HW
          have hPX : ∀ r w', PP r w' → r = .returned (.int .i64 E) := fun r w' q => by rw [hPP.out] at q; exact q.1
          clear c3 g0 hb5 e1 hl e0 hE hp1 hw1 hAG
          go_wp2_with (go_at_call 36; refine HW.out.mono ?_; rintro e w6 q; obtain rfl := hPX _ _ q)
          exact q


theorem rename_s (w : World) (nm : ByteArray) (kn kt kf kd : Nat) (hn_ : At 9 w kn [.string nm]) (ht_ : At 9 w kt [.string nm]) :
    Calls Tryd.prog 56 #[.pointer (some ⟨kn, 0, none⟩), .pointer (some ⟨kt, 0, none⟩), .pointer (some ⟨kf, 0, none⟩), .pointer (some ⟨kd, 0, none⟩)] w fun r w' => r = .returned (.tuple #[]) ∧ w' = w := by
  have c1 : w.cell? ⟨kn, 0, none⟩ = some (.string nm) := by rw [hn_.cell]; rfl
  have c2 : w.cell? ⟨kt, 0, none⟩ = some (.string nm) := by rw [ht_.cell]; rfl
  clear hn_ ht_
  go_enter Tryd.func56, Tryd.ntmps56
  go_wp2
  refine bodyPost_ret (results_none rfl _ _ _) rfl ?_
  exact ⟨rfl, rfl⟩
theorem rename_p {B g mb : Nat} {w : World} {m : FMap} {sz wr : Nat} {lf : Int} {nm : ByteArray} (h : Ds B w g mb m sz lf wr) (hsf : ∀ p ∈ m, p.2.sf ≤ p.2.bs.length) (hsum : sumM m ≤ 67108864) (hwr : wr ≤ 4611686018427387904) (hlf : -1 ≤ lf) (hlg : lf ≤ 9223372036854775807) {to : ByteArray} (hs : nm.size ≤ 9223372036854775807) (hs2 : to.size ≤ 9223372036854775807) :
    Calls Tryd.prog 16 #[.pointer (some ⟨g, 0, none⟩), .string nm, .string to] w (OpP B w g mb m sz lf wr (if nmOk to = false then 2 else if (lookM m nm).isSome then (if (fileM m nm).sf < (fileM m nm).bs.length then 10 else pwE lf) else 6) (fun m' => if nm = to then m' = m else m' = delM (updM m to { fileM m nm with hd := true }) nm)) := by
  have H := hidU h
  obtain ⟨E, hE⟩ : ∃ E, Hid (E = if nmOk to = false then 2 else if (lookM m nm).isSome then (if (fileM m nm).sf < (fileM m nm).bs.length then 10 else pwE lf) else 6) := ⟨_, (rfl : _ = if nmOk to = false then 2 else if (lookM m nm).isSome then (if (fileM m nm).sf < (fileM m nm).bs.length then 10 else pwE lf) else 6)⟩
  rw [← hE.out]
  obtain ⟨PP, hPP⟩ : ∃ PP : Ending → World → Prop, Hid (PP = OpP B w g mb m sz lf wr E (fun m' => if nm = to then m' = m else m' = delM (updM m to { fileM m nm with hd := true }) nm)) := ⟨_, (rfl : _ = OpP B w g mb m sz lf wr E _)⟩
  rw [← hPP.out]
  have HLT := hidU (fun x (hx : Below w.heap.size w x) => (h.mp.below hx).lookT (nm := nm) (by unfold maxLen; omega))
  clear h
  go_enter Tryd.func16, Tryd.ntmps16
  go_wp2_with (first
    | (refine wpList_box1 rfl 22 (.tmp 0) rfl (.pointer (some ⟨g, 0, none⟩)) rfl (fun _ q => by cases q) ?_; intro w1 hA1 hb1 hs1; refine Hid.out ?_))
  refine hidU ?_
  obtain ⟨k1, hk1⟩ : ∃ k, k = w.heap.size := ⟨_, rfl⟩
  rw [← hk1] at hA1 ⊢
  have HB1 := hidU (hb1)
  have HA1 := hidU hA1
  clear hb1 hs1 hA1 hk1
  go_wp2_with (first
    | (refine wpList_box1 rfl 9 (.tmp 1) rfl (.string nm) rfl (fun _ q => by cases q) ?_; intro w2 hA2 hb2 hs2; refine Hid.out ?_))
  refine hidU ?_
  obtain ⟨k2, hk2⟩ : ∃ k, k = w1.heap.size := ⟨_, rfl⟩
  rw [← hk2] at hA2 ⊢
  have HB2 := hidU (HB1.out.trans (hb2.mono HB1.out.size))
  have HA2 := hidU hA2
  have HA1 := hidU (HA1.out.below hb2)
  clear hb2 hs2 hA2 hk2
  go_wp2_with (first
    | (refine wpList_box1 rfl 9 (.tmp 2) rfl (.string to) rfl (fun _ q => by cases q) ?_; intro w3 hA3 hb3 hs3; refine Hid.out ?_))
  refine hidU ?_
  obtain ⟨k3, hk3⟩ : ∃ k, k = w2.heap.size := ⟨_, rfl⟩
  rw [← hk3] at hA3 ⊢
  have HB3 := hidU (HB2.out.trans (hb3.mono HB2.out.size))
  have HA3 := hidU hA3
  have HA1 := hidU (HA1.out.below hb3)
  have HA2 := hidU (HA2.out.below hb3)
  clear hb3 hs3 hA3 hk3
  have HM := hidU (made_yes (H.out.below HB3.out).at_)
  have c1 : w3.cell? ⟨k1, 0, none⟩ = some (.pointer (some ⟨g, 0, none⟩)) := by rw [HA1.out.cell]; rfl
  have c2 : w3.cell? ⟨k2, 0, none⟩ = some (.string nm) := by rw [HA2.out.cell]; rfl
  have q3 := (H.out.below HB3.out).files
  clear HB1 HB2
  cases hl : lookM m nm with
  | none =>
    have HLk : Hid (∀ x, Below w3.heap.size w3 x → (Instr.lookup 33 (.map (some mb)) (.string nm) true).run Tryd.prog x = .ok (.tuple #[.agg #[.slice none 0 0, .int .i64 0, .bool false], .bool false]) x) := hidU (fun x hx => by
      have := HLT.out x (HB3.out.trans (hx.mono HB3.out.size))
      rw [file_none hl, hl] at this
      exact this)
    go_wp2_with (go_at_call 33; refine HM.out.mono ?_; rintro _ x ⟨rfl, hw⟩; obtain rfl : w3 = x := hw.symm; clear hw)
    have hS0 : Below w3.heap.size w3 w3.drew := Below.drew (Below.refl _ _)
    refine wp_region_held_drew (S := fun xS => Below w3.heap.size w3 xS) (by kernel_rfl) hS0 ?_
    obtain ⟨x0, hx0⟩ : ∃ x, x = w3.drew := ⟨_, rfl⟩
    rw [← hx0] at hS0  ⊢
    clear hx0
    intro _
    refine wpAnyH_take (i := 0) (oi := { dst := some 13, op := .load 22 (.tmp 3), type := _, pos := _, after := _, guard := none }) (v := .pointer (some ⟨g, 0, none⟩)) rfl (by kernel_rfl) (by kernel_rfl) (by kernel_rfl) (fun _ _ _ h => h) (Or.inl ⟨by rfl, ?_⟩) hS0 ?_
    · intro wS hSw
      have z0 := (hSw.cell (lt_of_cell c1)).trans c1
      go_simp
    simp only [Act.put, List.setIfInBounds_toArray, List.set_cons_zero, List.set_cons_succ]
    refine wpAnyH_take (i := 1) (oi := { dst := some 14, op := .nilCheck (.tmp 13), type := _, pos := _, after := _, guard := none }) (v := .pointer (some ⟨g, 0, none⟩)) rfl (by kernel_rfl) (by kernel_rfl) (by kernel_rfl) (fun _ _ _ h => h) (Or.inl ⟨by rfl, ?_⟩) hS0 ?_
    · intro wS hSw
      go_simp
    simp only [Act.put, List.setIfInBounds_toArray, List.set_cons_zero, List.set_cons_succ]
    refine wpAnyH_take (i := 2) (oi := { dst := some 15, op := .fieldAddr 35 (.tmp 14) 2, type := _, pos := _, after := _, guard := none }) (v := .pointer (some ⟨g, 2, none⟩)) rfl (by kernel_rfl) (by kernel_rfl) (by kernel_rfl) (fun _ _ _ h => h) (Or.inl ⟨by rfl, ?_⟩) hS0 ?_
    · intro wS hSw
      go_simp
    simp only [Act.put, List.setIfInBounds_toArray, List.set_cons_zero, List.set_cons_succ]
    refine wpAnyH_take (i := 3) (oi := { dst := some 16, op := .load 33 (.tmp 15), type := _, pos := _, after := _, guard := none }) (v := .map (some mb)) rfl (by kernel_rfl) (by kernel_rfl) (by kernel_rfl) (fun _ _ _ h => h) (Or.inl ⟨by rfl, ?_⟩) hS0 ?_
    · intro wS hSw
      have z0 := (hSw.cell (lt_of_cell q3)).trans q3
      go_simp
    simp only [Act.put, List.setIfInBounds_toArray, List.set_cons_zero, List.set_cons_succ]
    refine wpAnyH_take (i := 4) (oi := { dst := some 17, op := .load 9 (.tmp 4), type := _, pos := _, after := _, guard := none }) (v := .string nm) rfl (by kernel_rfl) (by kernel_rfl) (by kernel_rfl) (fun _ _ _ h => h) (Or.inl ⟨by rfl, ?_⟩) hS0 ?_
    · intro wS hSw
      have z0 := (hSw.cell (lt_of_cell c2)).trans c2
      go_simp
    simp only [Act.put, List.setIfInBounds_toArray, List.set_cons_zero, List.set_cons_succ]
    refine wpAnyH_take (i := 5) (oi := { dst := some 18, op := .lookup 33 (.tmp 16) (.tmp 17) true, type := _, pos := _, after := _, guard := none }) (v := .tuple #[.agg #[.slice none 0 0, .int .i64 0, .bool false], .bool false]) rfl (by kernel_rfl) (by kernel_rfl) (by kernel_rfl) (fun _ _ _ h => h) (Or.inl ⟨by rfl, ?_⟩) hS0 ?_
    · intro wS hSw
      have hz := HLk.out _ hSw
      go_simp
      try rw [hz]
      try rfl
    simp only [Act.put, List.setIfInBounds_toArray, List.set_cons_zero, List.set_cons_succ]
    refine wpAnyH_take (i := 6) (oi := { dst := some 12, op := .move (.tmp 18), type := _, pos := _, after := _, guard := none }) (v := .tuple #[.agg #[.slice none 0 0, .int .i64 0, .bool false], .bool false]) rfl (by kernel_rfl) (by kernel_rfl) (by kernel_rfl) (fun _ _ _ h => h) (Or.inl ⟨by rfl, ?_⟩) hS0 ?_
    · intro wS hSw
      go_simp
    simp only [Act.put, List.setIfInBounds_toArray, List.set_cons_zero, List.set_cons_succ]
    refine wpAnyH_take (i := 7) (oi := { dst := some 19, op := .extract (.tmp 12) 0, type := _, pos := _, after := _, guard := none }) (v := .agg #[.slice none 0 0, .int .i64 0, .bool false]) rfl (by kernel_rfl) (by kernel_rfl) (by kernel_rfl) (fun _ _ _ h => h) (Or.inl ⟨by rfl, ?_⟩) hS0 ?_
    · intro wS hSw
      go_simp
    simp only [Act.put, List.setIfInBounds_toArray, List.set_cons_zero, List.set_cons_succ]
    refine wpAnyH_take (i := 8) (oi := { dst := some 20, op := .extract (.tmp 12) 1, type := _, pos := _, after := _, guard := none }) (v := .bool false) rfl (by kernel_rfl) (by kernel_rfl) (by kernel_rfl) (fun _ _ _ h => h) (Or.inl ⟨by rfl, ?_⟩) hS0 ?_
    · intro wS hSw
      go_simp
    simp only [Act.put, List.setIfInBounds_toArray, List.set_cons_zero, List.set_cons_succ]
    refine wpAnyH_ready (rs := [9]) (by kernel_rfl) (by simp) ?_
    refine AllReadyH.cons (o := { dst := some 7, op := .alloc 66, type := _, pos := _, after := _, guard := none }) rfl (fun K hK => ?_) AllReadyH.nil
    rw [if_pos (by rfl)]
    have sv1 := hS0.size
    refine wp_alloc_at 66 rfl [Value.slice none 0 0, .int .i64 0, .bool false] _ z66 ?_
    intro x1 hA1 hb1 hs1
    have lt1 : x0.heap.size < x1.heap.size := hA1.lt
    clear hs1
    have sz1 := hb1.size
    have hS1 := hS0.trans (hb1.mono hS0.size)
    refine hK.out _ _ hS1 (fun _ => ?_)
    clear hK K
    refine wpAnyH_ready (rs := [10]) (by kernel_rfl) (by simp) ?_
    refine AllReadyH.cons (o := { dst := none, op := .store 66 (.tmp 7) (.tmp 19), type := _, pos := _, after := _, guard := none }) rfl (fun K hK => ?_) AllReadyH.nil
    rw [if_pos (by rfl)]
    have sv2 := hS1.size
    refine wp_store3 (.tmp 7) (.tmp 19) rfl (x0.heap.size) [.slice none 0 0, .int .i64 0, .bool false] rfl rfl _ hA1 rfl rfl one3 ?_
    intro x2 hA2 hb2 hs2
    clear hA1
    have sz2 := hb2.size
    have hS2 := hb2.below hS1 sv1 hS1.size
    refine hK.out _ _ hS2 (fun _ => ?_)
    clear hK K
    refine wpAnyH_take (i := 11) (oi := { dst := some 8, op := .assign (.tmp 20), type := _, pos := _, after := _, guard := none }) (v := .bool false) rfl (by kernel_rfl) (by kernel_rfl) (by kernel_rfl) (fun _ _ _ h => h) (Or.inl ⟨by rfl, ?_⟩) hS2 ?_
    · intro wS hSw
      go_simp
    simp only [Act.put, List.setIfInBounds_toArray, List.set_cons_zero, List.set_cons_succ]
    refine wpAnyH_done (by kernel_rfl) ?_ _
    have hAG := hA2
    have HBx := hidU (hS2)
    have hGl : w3.heap.size ≤ x0.heap.size := sv1
    obtain ⟨G, hG⟩ : ∃ G, G = x0.heap.size := ⟨_, rfl⟩
    rw [← hG] at hAG hGl ⊢
    clear hG
    clear hS0 hb1 sv1 sz1 hS1 lt1 hb2 sv2 sz2 hS2 hs2 hA2
    have HB4 := hidU (HB3.out.trans (HBx.out.mono HB3.out.size))
    have HA1 := hidU (HA1.out.below HBx.out)
    have HA2 := hidU (HA2.out.below HBx.out)
    have HA3 := hidU (HA3.out.below HBx.out)
    have hGw : w.heap.size ≤ G := Nat.le_trans HB3.out.size hGl
    clear c1 c2 q3 HM HLk HBx hGl
    have c3 : x2.cell? ⟨k3, 0, none⟩ = some (.string to) := by rw [HA3.out.cell]; rfl
    cases hq : nmOk to with
    | false =>
      have e1 : E = 2 := by rw [hE.out, hq]; rfl
      subst e1
      have HN := hidU (isName_any to x2 hs2)
      rw [hq] at HN
      clear hl hE hq
      go_wp2_with (go_at_call 34; refine HN.out.mono ?_; rintro _ x5 ⟨rfl, hb5⟩; have HB5 := hidU (HB4.out.trans (hb5.mono HB4.out.size)); clear hb5)
      rw [hPP.out]
      exact ⟨rfl, fun _ => HB5.out, fun e => by cases e⟩
    | true =>
      have HN := hidU (isName_any to x2 hs2)
      rw [hq] at HN
      have e1 : E = 6 := by rw [hE.out, hq, hl]; rfl
      subst e1
      clear hl hE hq
      go_wp2_with (go_at_call 34; refine HN.out.mono ?_; rintro _ x5 ⟨rfl, hb5⟩; have HB5 := hidU (HB4.out.trans (hb5.mono HB4.out.size)); clear hb5)
      rw [hPP.out]
      exact ⟨rfl, fun _ => HB5.out, fun e => by cases e⟩

  | some f =>
    obtain ⟨a, n, c, bs, sf, hd, rfl, hn, hnc, hcm, hn0, hR, hO⟩ := look_parts H.out hl
    have h40 : nm.size ≤ 40 := H.out.ns _ (look_mem hl)
    have hns := sum_mem (look_mem hl)
    have hsn := hsf _ (look_mem hl)
    simp only [hn] at hns hsn
    have HLk : Hid (∀ x, Below w3.heap.size w3 x → (Instr.lookup 33 (.map (some mb)) (.string nm) true).run Tryd.prog x = .ok (.tuple #[.agg #[.slice a n c, .int .i64 (sf : Int), .bool hd], .bool true]) x) := hidU (fun x hx => by
      have := HLT.out x (HB3.out.trans (hx.mono HB3.out.size))
      rw [file_some hl, hl] at this
      exact this)
    have HLO := hidU (fun x => loose_any ⟨.slice a n c, bs, sf, hd⟩ n c a x rfl (show sf ≤ _ by omega) (by omega))
    go_wp2_with (go_at_call 33; refine HM.out.mono ?_; rintro _ x ⟨rfl, hw⟩; obtain rfl : w3 = x := hw.symm; clear hw)
    have hS0 : Below w3.heap.size w3 w3.drew := Below.drew (Below.refl _ _)
    refine wp_region_held_drew (S := fun xS => Below w3.heap.size w3 xS) (by kernel_rfl) hS0 ?_
    obtain ⟨x0, hx0⟩ : ∃ x, x = w3.drew := ⟨_, rfl⟩
    rw [← hx0] at hS0  ⊢
    clear hx0
    intro _
    refine wpAnyH_take (i := 0) (oi := { dst := some 13, op := .load 22 (.tmp 3), type := _, pos := _, after := _, guard := none }) (v := .pointer (some ⟨g, 0, none⟩)) rfl (by kernel_rfl) (by kernel_rfl) (by kernel_rfl) (fun _ _ _ h => h) (Or.inl ⟨by rfl, ?_⟩) hS0 ?_
    · intro wS hSw
      have z0 := (hSw.cell (lt_of_cell c1)).trans c1
      go_simp
    simp only [Act.put, List.setIfInBounds_toArray, List.set_cons_zero, List.set_cons_succ]
    refine wpAnyH_take (i := 1) (oi := { dst := some 14, op := .nilCheck (.tmp 13), type := _, pos := _, after := _, guard := none }) (v := .pointer (some ⟨g, 0, none⟩)) rfl (by kernel_rfl) (by kernel_rfl) (by kernel_rfl) (fun _ _ _ h => h) (Or.inl ⟨by rfl, ?_⟩) hS0 ?_
    · intro wS hSw
      go_simp
    simp only [Act.put, List.setIfInBounds_toArray, List.set_cons_zero, List.set_cons_succ]
    refine wpAnyH_take (i := 2) (oi := { dst := some 15, op := .fieldAddr 35 (.tmp 14) 2, type := _, pos := _, after := _, guard := none }) (v := .pointer (some ⟨g, 2, none⟩)) rfl (by kernel_rfl) (by kernel_rfl) (by kernel_rfl) (fun _ _ _ h => h) (Or.inl ⟨by rfl, ?_⟩) hS0 ?_
    · intro wS hSw
      go_simp
    simp only [Act.put, List.setIfInBounds_toArray, List.set_cons_zero, List.set_cons_succ]
    refine wpAnyH_take (i := 3) (oi := { dst := some 16, op := .load 33 (.tmp 15), type := _, pos := _, after := _, guard := none }) (v := .map (some mb)) rfl (by kernel_rfl) (by kernel_rfl) (by kernel_rfl) (fun _ _ _ h => h) (Or.inl ⟨by rfl, ?_⟩) hS0 ?_
    · intro wS hSw
      have z0 := (hSw.cell (lt_of_cell q3)).trans q3
      go_simp
    simp only [Act.put, List.setIfInBounds_toArray, List.set_cons_zero, List.set_cons_succ]
    refine wpAnyH_take (i := 4) (oi := { dst := some 17, op := .load 9 (.tmp 4), type := _, pos := _, after := _, guard := none }) (v := .string nm) rfl (by kernel_rfl) (by kernel_rfl) (by kernel_rfl) (fun _ _ _ h => h) (Or.inl ⟨by rfl, ?_⟩) hS0 ?_
    · intro wS hSw
      have z0 := (hSw.cell (lt_of_cell c2)).trans c2
      go_simp
    simp only [Act.put, List.setIfInBounds_toArray, List.set_cons_zero, List.set_cons_succ]
    refine wpAnyH_take (i := 5) (oi := { dst := some 18, op := .lookup 33 (.tmp 16) (.tmp 17) true, type := _, pos := _, after := _, guard := none }) (v := .tuple #[.agg #[.slice a n c, .int .i64 (sf : Int), .bool hd], .bool true]) rfl (by kernel_rfl) (by kernel_rfl) (by kernel_rfl) (fun _ _ _ h => h) (Or.inl ⟨by rfl, ?_⟩) hS0 ?_
    · intro wS hSw
      have hz := HLk.out _ hSw
      go_simp
      try rw [hz]
      try rfl
    simp only [Act.put, List.setIfInBounds_toArray, List.set_cons_zero, List.set_cons_succ]
    refine wpAnyH_take (i := 6) (oi := { dst := some 12, op := .move (.tmp 18), type := _, pos := _, after := _, guard := none }) (v := .tuple #[.agg #[.slice a n c, .int .i64 (sf : Int), .bool hd], .bool true]) rfl (by kernel_rfl) (by kernel_rfl) (by kernel_rfl) (fun _ _ _ h => h) (Or.inl ⟨by rfl, ?_⟩) hS0 ?_
    · intro wS hSw
      go_simp
    simp only [Act.put, List.setIfInBounds_toArray, List.set_cons_zero, List.set_cons_succ]
    refine wpAnyH_take (i := 7) (oi := { dst := some 19, op := .extract (.tmp 12) 0, type := _, pos := _, after := _, guard := none }) (v := .agg #[.slice a n c, .int .i64 (sf : Int), .bool hd]) rfl (by kernel_rfl) (by kernel_rfl) (by kernel_rfl) (fun _ _ _ h => h) (Or.inl ⟨by rfl, ?_⟩) hS0 ?_
    · intro wS hSw
      go_simp
    simp only [Act.put, List.setIfInBounds_toArray, List.set_cons_zero, List.set_cons_succ]
    refine wpAnyH_take (i := 8) (oi := { dst := some 20, op := .extract (.tmp 12) 1, type := _, pos := _, after := _, guard := none }) (v := .bool true) rfl (by kernel_rfl) (by kernel_rfl) (by kernel_rfl) (fun _ _ _ h => h) (Or.inl ⟨by rfl, ?_⟩) hS0 ?_
    · intro wS hSw
      go_simp
    simp only [Act.put, List.setIfInBounds_toArray, List.set_cons_zero, List.set_cons_succ]
    refine wpAnyH_ready (rs := [9]) (by kernel_rfl) (by simp) ?_
    refine AllReadyH.cons (o := { dst := some 7, op := .alloc 66, type := _, pos := _, after := _, guard := none }) rfl (fun K hK => ?_) AllReadyH.nil
    rw [if_pos (by rfl)]
    have sv1 := hS0.size
    refine wp_alloc_at 66 rfl [Value.slice none 0 0, .int .i64 0, .bool false] _ z66 ?_
    intro x1 hA1 hb1 hs1
    have lt1 : x0.heap.size < x1.heap.size := hA1.lt
    clear hs1
    have sz1 := hb1.size
    have hS1 := hS0.trans (hb1.mono hS0.size)
    refine hK.out _ _ hS1 (fun _ => ?_)
    clear hK K
    refine wpAnyH_ready (rs := [10]) (by kernel_rfl) (by simp) ?_
    refine AllReadyH.cons (o := { dst := none, op := .store 66 (.tmp 7) (.tmp 19), type := _, pos := _, after := _, guard := none }) rfl (fun K hK => ?_) AllReadyH.nil
    rw [if_pos (by rfl)]
    have sv2 := hS1.size
    refine wp_store3 (.tmp 7) (.tmp 19) rfl (x0.heap.size) [.slice a n c, .int .i64 (sf : Int), .bool hd] rfl rfl _ hA1 rfl rfl one3 ?_
    intro x2 hA2 hb2 hs2
    clear hA1
    have sz2 := hb2.size
    have hS2 := hb2.below hS1 sv1 hS1.size
    refine hK.out _ _ hS2 (fun _ => ?_)
    clear hK K
    refine wpAnyH_take (i := 11) (oi := { dst := some 8, op := .assign (.tmp 20), type := _, pos := _, after := _, guard := none }) (v := .bool true) rfl (by kernel_rfl) (by kernel_rfl) (by kernel_rfl) (fun _ _ _ h => h) (Or.inl ⟨by rfl, ?_⟩) hS2 ?_
    · intro wS hSw
      go_simp
    simp only [Act.put, List.setIfInBounds_toArray, List.set_cons_zero, List.set_cons_succ]
    refine wpAnyH_done (by kernel_rfl) ?_ _
    have hAG := hA2
    have HBx := hidU (hS2)
    have hGl : w3.heap.size ≤ x0.heap.size := sv1
    obtain ⟨G, hG⟩ : ∃ G, G = x0.heap.size := ⟨_, rfl⟩
    rw [← hG] at hAG hGl ⊢
    clear hG
    clear hS0 hb1 sv1 sz1 hS1 lt1 hb2 sv2 sz2 hS2 hs2 hA2
    have HB4 := hidU (HB3.out.trans (HBx.out.mono HB3.out.size))
    have HA1 := hidU (HA1.out.below HBx.out)
    have HA2 := hidU (HA2.out.below HBx.out)
    have HA3 := hidU (HA3.out.below HBx.out)
    have hGw : w.heap.size ≤ G := Nat.le_trans HB3.out.size hGl
    clear c1 c2 q3 HM HLk HBx hGl
    have c3 : x2.cell? ⟨k3, 0, none⟩ = some (.string to) := by rw [HA3.out.cell]; rfl
    cases hq : nmOk to with
    | false =>
      have e1 : E = 2 := by rw [hE.out, hq]; rfl
      subst e1
      have HN := hidU (isName_any to x2 hs2)
      rw [hq] at HN
      clear hl hE hq
      go_wp2_with (go_at_call 34; refine HN.out.mono ?_; rintro _ x5 ⟨rfl, hb5⟩; have HB5 := hidU (HB4.out.trans (hb5.mono HB4.out.size)); clear hb5)
      rw [hPP.out]
      exact ⟨rfl, fun _ => HB5.out, fun e => by cases e⟩
    | true =>
      have HN := hidU (isName_any to x2 hs2)
      rw [hq] at HN
      have hto : to.size ≤ 40 := by
        unfold nmOk at hq
        simp at hq
        exact hq.2.2
      have e0 : fileM m nm = ⟨.slice a n c, bs, sf, hd⟩ := file_some hl
      go_wp2_with (go_at_call 34; refine HN.out.mono ?_; rintro _ w5 ⟨rfl, hb5⟩; refine Hid.out ?_)
      refine hidU ?_
      have HB5 := hidU (HB4.out.trans (hb5.mono HB4.out.size))
      have HA1 := hidU (HA1.out.below hb5)
      have HA2 := hidU (HA2.out.below hb5)
      have HA3 := hidU (HA3.out.below hb5)
      have hAG := hAG.below hb5
      clear hb5 c3 HN HB4
      have hw1 : IntKind.i64.wrap ((n : Int) - (sf : Int)) = (n : Int) - (sf : Int) := by rw [IntKind.wrap_i64]; omega
      by_cases hlo : sf < n
      · have e1 : E = 10 := by rw [hE.out, hq, if_neg (by simp), hl, if_pos Option.isSome_some, if_pos (by rw [e0]; simp only [hn]; exact hlo)]
        subst e1
        have hp1 : (0 : Int) < (n : Int) - (sf : Int) := by omega
        clear hl hE e0 hq
        go_wp2_with (first
          | (refine wpList_load_at rfl 66 (.tmp 7) rfl G rfl 66 _ hAG _ Tryd.underlying66 rfl i66 ?_)
          | (go_at_call 51; refine (HLO.out _).mono ?_; rintro _ x6 ⟨rfl, hb6⟩; have HB6 := hidU (HB5.out.trans (hb6.mono HB5.out.size)); clear hb6))
        rw [hPP.out]
        exact ⟨rfl, fun _ => HB6.out, fun e => by cases e⟩
      · have e1 : E = pwE lf := by rw [hE.out, hq, if_neg (by simp), hl, if_pos Option.isSome_some, if_neg (by rw [e0]; simp only [hn]; omega)]
        have hp1 : ¬ (0 : Int) < (n : Int) - (sf : Int) := by omega
        go_wp2_with (first
          | (refine wpList_load_at rfl 66 (.tmp 7) rfl G rfl 66 _ hAG _ Tryd.underlying66 rfl i66 ?_)
          | (go_at_call 51; refine (HLO.out _).mono ?_; rintro _ w6 ⟨rfl, hb6⟩; refine Hid.out ?_))
        refine hidU ?_
        have HB6 := hidU (HB5.out.trans (hb6.mono HB5.out.size))
        have d1 : w6.cell? ⟨k1, 0, none⟩ = some (.pointer (some ⟨g, 0, none⟩)) := by rw [(HA1.out.below hb6).cell]; rfl
        have HW := hidU (writ_56 B g mb w w6 m sz wr lf k2 k3 G k1 (fun m' => if nm = to then m' = m else m' = delM (updM m to { fileM m nm with hd := true }) nm) H.out HB6.out hwr hlf hlg (by
          by_cases hne : nm = to
          · subst hne
            refine (rename_s w6 nm k2 k3 G k1 (HA2.out.below hb6) (HA3.out.below hb6)).mono ?_
            rintro r w' ⟨rfl, rfl⟩
            exact ⟨rfl, m, by rw [if_pos rfl], Wrt.same H.out HB6.out⟩
          · refine (rename_c B g mb w w6 m sz wr lf nm to G k3 k1 k2 a n c bs sf hd H.out HB6.out hl (hAG.below hb6) (HA3.out.below hb6) (HA1.out.below hb6) (HA2.out.below hb6) hGw hne hto).mono ?_
            rintro r w' ⟨rfl, hW⟩
            exact ⟨rfl, _, by rw [if_neg hne, e0], hW⟩))
        rw [← e1] at HW
        rw [← hPP.out] at HW
        have hPX : ∀ r w', PP r w' → r = .returned (.int .i64 E) := fun r w' q => by rw [hPP.out] at q; exact q.1
        clear hb6 e1 hl e0 hE hp1 hw1 hAG hq
        go_wp2_with (go_at_call 36; refine HW.out.mono ?_; rintro e w7 q; obtain rfl := hPX _ _ q)
        exact q


end Go.Proofs.YtcmkjjlchljffaaDoor

/- The landed disk: the sorted names of its files. -/
namespace Go.Proofs.YtcmkjjlchljffaaDoor
open Go.RowKit Go.Maps Go.MapKept Go.WideElems Go.Sort
set_option linter.unusedVariables false
set_option maxRecDepth 100000
set_option maxHeartbeats 3200000

/-- An element as it is: nothing is read of it. -/
def asIs : Value → Option (DataW Value × List MemPlace) := fun v => some (.held v, [])
section
variable {w : World} {mb : Nat} {m : FMap}
theorem key_lit (s : ByteArray) (h : s.size ≤ maxLen) : keyOf Tryd.prog 9 (.string s) = some (.string s.data.toList) := Go.WideMaps.keyOf_string_mk u9 h
def keyBytes : Value × Value → List UInt8 := fun q => match q.1 with | .string s => s.data.toList | _ => []
theorem MapS.owns (h : MapS mF w mb m) (hl : m.length ≤ maxLen) : ∃ D : DataW Value, w.ownsMap Tryd.prog 9 asIs mb m.length D ∧ (strKeys D).Perm (m.map fun p => p.1.data.toList) ∧ Maps.size D = m.length := by
  obtain ⟨es, clock, h1, h2, h3, h4⟩ := h
  have hlen : es.toList.length = m.length := by have := congrArg List.length h3; simpa using this
  have keys : ∀ e ∈ es.toList, ∃ s : ByteArray, e.key = .string s ∧ s.size ≤ maxLen := fun e he => by
    have : (e.key, e.val) ∈ es.toList.map (fun e => (e.key, e.val)) := List.mem_map.2 ⟨e, he, rfl⟩
    rw [h3] at this
    obtain ⟨p, hp, hq⟩ := List.mem_map.1 this
    injection hq with hq _
    exact ⟨p.1, hq.symm, h4 p hp⟩
  have hrd : ∀ e ∈ es.toList, ∀ s : ByteArray, e.key = .string s → s.size ≤ maxLen → Go.WideElems.rd Tryd.prog 9 asIs e = some (.string s.data.toList, .held e.val) := fun e he s hk hs => by
    simp [Go.WideElems.rd, hk, key_lit s hs, asIs]
  refine ⟨_, ⟨es, clock, h1, ⟨by rw [← Array.length_toList, hlen]; exact hl, h2, fun e he => ?_⟩, by rw [← Array.length_toList, hlen]; exact Nat.le_refl _, rfl⟩, ?_, ?_⟩
  · obtain ⟨s, hk, hs⟩ := keys e he
    exact ⟨_, hrd e he s hk hs⟩
  · show (List.map (fun p => strOf p.1) (List.foldr DataW.insert [] (es.toList.map (Go.WideElems.rg Tryd.prog 9 asIs)))).Perm _
    refine ((WideShapes.sorted_perm _).map _).trans ?_
    rw [List.map_map]
    have e1 : es.toList.map ((fun p => strOf p.1) ∘ Go.WideElems.rg Tryd.prog 9 asIs) = es.toList.map (keyBytes ∘ fun e => (e.key, e.val)) := by
      refine List.map_congr_left fun e he => ?_
      obtain ⟨s, hk, hs⟩ := keys e he
      simp only [Function.comp_apply, Go.WideElems.rg_of (hrd e he s hk hs), keyBytes, hk, strOf]
    rw [e1, ← List.map_map, h3, List.map_map]
    exact List.Perm.of_eq (List.map_congr_left fun p _ => rfl)
  · show (List.foldr DataW.insert [] (es.toList.map (Go.WideElems.rg Tryd.prog 9 asIs))).length = _
    rw [length_sorted, List.length_map, hlen]
theorem leB_of (a b : ByteArray) (h : ltN a b = true) : decide (a.data.toList ≤ b.data.toList) = true := by
  unfold ltN at h
  rw [bytesLess_eq, decide_eq_true_eq, ByteArray.toList_eq, ByteArray.toList_eq] at h
  exact decide_eq_true (List.le_of_lt h)
theorem enc_flat (fs : List Fi) : (fs.map fun f => f.nm.data.toList).map encStr = eS.flat (fs.map Fi.nm) := by
  induction fs with
  | nil => rfl
  | cons f fs ih =>
    simp only [List.map_cons, El.flat, List.flatMap_cons] at ih ⊢
    rw [ih]
    rfl
/-- slices.Sorted(maps.Keys(m)): the names, rising. -/
theorem sorted_names {fs : List Fi} (h : MapS mF w mb m) (hp : (m.map toFi).Perm fs) (hso : Sorted fs) (hl : fs.length ≤ 256) :
    Calls Tryd.prog 58 #[.func (.func 65) #[] #[.pointer (some ⟨w.heap.size, 0, none⟩)]] (w.alloc (.cells #[.map (some mb)] 33)) fun e w' => ∃ v, e = .returned v ∧ OwnX eS w.heap.size w' v (fs.map Fi.nm) ∧ Below w.heap.size w w' := by
  have hml : m.length = fs.length := by have := hp.length_eq; simpa using this
  obtain ⟨D, h1, h2, h3⟩ := h.owns (by unfold maxLen; omega)
  refine (callsIn_wide.1 (Tryd.slices_Sorted_keys_58_59 mb m.length D asIs w h1 (by rw [h3]; unfold maxLen; omega) (by rw [h3]; omega))).mono ?_
  rintro e w' ⟨v, ss, rfl, q1, q2, _, q3⟩
  have hB : Below w.heap.size w w' := ((Below.refl _ w).alloc (Nat.le_refl _) (.cells #[.map (some mb)] 33)).trans (q3.mono (by simp))
  have e1 : ss.mergeSort (fun x y => decide (x ≤ y)) = fs.map fun f => f.nm.data.toList := by
    have hq : ss.Perm (fs.map fun f => f.nm.data.toList) := by
      refine q1.trans (h2.trans ?_)
      have := hp.map fun f : Fi => f.nm.data.toList
      rw [List.map_map] at this
      exact this
    rw [mergeSort_of_perm hq]
    refine List.mergeSort_of_pairwise ?_
    rw [List.pairwise_map]
    exact hso.imp fun {a b} q => leB_of a.nm b.nm q
  have e2 : ss.length = (fs.map Fi.nm).length := by
    have := congrArg List.length e1
    simpa using this
  rw [e1, enc_flat, e2] at q2
  refine ⟨v, rfl, ?_, hB⟩
  exact OwnX.less (b' := w.heap.size) (e := eS) q2 (by simp)
end
end Go.Proofs.YtcmkjjlchljffaaDoor

/- The landed disk: Names and Read. -/
namespace Go.Proofs.YtcmkjjlchljffaaDoor
open Go.RowKit
set_option linter.unusedVariables false
set_option maxRecDepth 100000
set_option maxHeartbeats 6400000

section
variable {B g mb : Nat} {w : World} {m : FMap} {sz wr : Nat} {lf : Int} {nm : ByteArray} {fs : List Fi}
theorem names_p (h : Ds B w g mb m sz lf wr) (hp : (m.map toFi).Perm fs) (hso : Sorted fs) (hl : fs.length ≤ 256) :
    Calls Tryd.prog 20 #[.pointer (some ⟨g, 0, none⟩)] w fun r w' => ∃ v, r = .returned v ∧ OwnX eS w.heap.size w' v (fs.map Fi.nm) ∧ Below w.heap.size w w' := by
  have HM := hidU (made_yes h.at_)
  have q := h.files
  have HSrt := hidU (sorted_names h.mp hp hso hl)
  have HKs := hidU (callsIn_wide.1 (Tryd.maps_Keys_59 (some mb) w))
  obtain ⟨N, hN⟩ : ∃ N, Hid (N = fs.map Fi.nm) := ⟨_, (rfl : _ = fs.map Fi.nm)⟩
  have HN40 : Hid (∀ x ∈ N, x.size ≤ 40) := hidU (fun x hx => by
    rw [hN.out] at hx
    obtain ⟨f, hf, rfl⟩ := List.mem_map.1 hx
    obtain ⟨p, hp', rfl⟩ := List.mem_map.1 (hp.mem_iff.2 hf)
    exact h.ns p hp')
  have hNl : Hid (N.length ≤ 256) := hidU (by rw [hN.out, List.length_map]; exact hl)
  rw [← hN.out] at HSrt ⊢
  clear h hp hso hl
  go_enter Tryd.func20, Tryd.ntmps20
  go_wp2_with (first
    | (go_at_call 33; refine HM.out.mono ?_; rintro _ w1 ⟨rfl, hw⟩; obtain rfl : w = w1 := hw.symm; clear hw)
    | (go_at_call 59; refine HKs.out.mono ?_; rintro _ w1 ⟨rfl, rfl⟩)
    | (go_at_call 58; refine HSrt.out.mono ?_; rintro _ w1 ⟨v, rfl, hO, hb⟩; refine Hid.out ?_))
  refine hidU ?_
  have HB := hidU hb
  have HO0 := hidU hO
  clear hb HSrt HKs q
  obtain ⟨hlen, ⟨rfl, h0⟩ | ⟨gk, cap, cur, rfl, hg, hh, hc, hm, hs, ht⟩⟩ := hO
  · have hN0 : N = [] := List.length_eq_zero_iff.1 h0
    subst hN0
    clear h0 hlen
    go_wp2
    go_loopw [17] (fun j x => j = .int .i64 0 ∧ Hid (x = w1)) (fun _ _ => 0)
    case atStart => exact ⟨rfl, rfl⟩
    case round =>
      obtain ⟨rfl, hx⟩ := hrel
      go_wp2
      go_ret
      rw [hx.out]
      exact ⟨_, rfl, OwnX.nil _ _ _, HB.out⟩
  · obtain ⟨n, hn⟩ : ∃ n, Hid (n = N.length) := ⟨_, (rfl : _ = N.length)⟩
    have hA0 := hidU (show At 9 w1 gk cur.toList from (show w1.heap[gk]? = some (.cells cur.toList.toArray 9 (0, 0)) from hh))
    have hcells : Hid (∀ i x, N[i]? = some x → cur.toList[i]? = some (Value.string x)) := hidU (fun i x hx => by
      have hil := (List.getElem?_eq_some_iff.1 hx).1
      have h1 := flat_at eS N i x hx 0 (Value.string x) rfl
      rw [← ht] at h1
      rw [show i * eS.n + 0 = i from Nat.mul_one i] at h1
      have hlt := (List.getElem?_eq_some_iff.1 h1).1
      rw [List.length_take] at hlt
      rwa [List.getElem?_take_of_lt (by omega)] at h1)
    have hcl : Hid (n ≤ cur.toList.length) := hidU (by
      have h9 : cur.toList.length = cap * 1 := by rw [Array.length_toList]; exact hs
      have := hn.out
      omega)
    rw [← hn.out]
    obtain ⟨cs, hcs⟩ : ∃ cs, cs = cur.toList := ⟨_, rfl⟩
    rw [← hcs] at hA0 hcells hcl
    have HOk : Hid (∀ x, At 9 x gk cs → OwnX eS w.heap.size x (.slice (some ⟨gk, 0, none⟩) n cap) N) := hidU (fun x hx => by
      rw [hn.out]
      refine ⟨hlen, .inr ⟨gk, cap, cur, rfl, hg, ?_, hc, hm, hs, ht⟩⟩
      rw [hcs] at hx
      have h1 : x.heap[gk]? = some (.cells cur.toList.toArray 9 (0, 0)) := hx
      rw [Array.toArray_toList] at h1
      exact h1)
    clear hcs hlen hg hh hc hm hs ht HO0
    go_wp2
    go_loopw [17] (fun j x => ∃ i : Nat, j = .int .i64 (i : Int) ∧ i ≤ n ∧ Hid (At 9 x gk cs) ∧ Hid (Below w.heap.size w x)) (fun j _ => n - (intOf j).toNat)
    case atStart => exact ⟨0, rfl, by omega, hA0, HB⟩
    case round =>
      obtain ⟨i, rfl, hi, hA, HBx⟩ := hrel
      by_cases hc : i < n
      · obtain ⟨x, hx⟩ : ∃ x, Hid (N[i]? = some x) := ⟨N[i]'(by rw [← hn.out]; exact hc), hidU (List.getElem?_eq_getElem _)⟩
        have q1 : wr.cell? ⟨gk, i, none⟩ = some (.string x) := by rw [hA.out.cell]; exact hcells.out i x hx.out
        have HC := hidU (str_clone x wr (by have := HN40.out x (List.mem_of_getElem? hx.out); omega))
        have hw : IntKind.i64.wrap ((i : Int) + 1) = (i : Int) + 1 := by rw [IntKind.wrap_i64]; have := hNl.out; have := hn.out; omega
        go_wp2_with (first
          | (go_at_call 61; refine HC.out.mono ?_; rintro _ x1 ⟨rfl, hb1⟩; have hA1 := hA.out.below hb1)
          | (refine wpList_store1 rfl 9 (.tmp 26) (.tmp 25) rfl gk i (.string x) rfl rfl 9 _ hA1 (by have := hcl.out; omega) i9 rfl rfl ?_; intro x2 hA2 hb2 hs2; refine Hid.out ?_))
        refine hidU ?_
        have hset : cs.set i (Value.string x) = cs := by
          refine List.ext_getElem? fun j => ?_
          rw [List.getElem?_set]
          split
          · rename_i hj
            subst hj
            have := hcells.out i x hx.out
            rw [this]
            simp [(List.getElem?_eq_some_iff.1 this).1]
          · rfl
        rw [hset] at hA2
        have HA2 := hidU hA2
        have HB2 : Hid (Below w.heap.size w x2) := hidU (hb2.below (HBx.out.trans (hb1.mono HBx.out.size)) (by have := (HOk.out _ hA.out).block gk rfl; exact this.1) (HBx.out.trans (hb1.mono HBx.out.size)).size)
        clear hA1 hA2 hb1 hb2 hs2 hset q1
        go_wp2
        go_roundw
        · exact ⟨i + 1, by go_num, by omega, HA2, HB2⟩
        · simp [intOf]; omega
      · have hin : Hid (i = n) := hidU (by omega)
        go_wp2
        go_ret
        exact ⟨_, rfl, HOk.out _ hA.out, HBx.out⟩
theorem read_none (h : Ds B w g mb m sz lf wr) (hl : lookM m nm = none) (hs : nm.size ≤ 9223372036854775807) : Calls Tryd.prog 13 #[.pointer (some ⟨g, 0, none⟩), .string nm] w fun r w' => r = .returned (.tuple #[.slice none 0 0, .int .i64 6]) ∧ Below w.heap.size w w' := by
  have HL := hidU (lacks_p h hs)
  rw [show lkZ m nm = 6 by unfold lkZ; rw [hl]; rfl] at HL
  clear h hl
  go_enter Tryd.func13, Tryd.ntmps13
  go_wp2_with (go_at_call 49; refine HL.out.mono ?_; rintro _ w1 ⟨rfl, hb1⟩; have HB1 := hidU hb1; clear hb1)
  go_ret2
  exact ⟨rfl, HB1.out⟩
theorem read_some {f : FM} (h : Ds B w g mb m sz lf wr) (hl : lookM m nm = some f) (hb : f.bs.length ≤ 67108864) (hs : nm.size ≤ 9223372036854775807) : Calls Tryd.prog 13 #[.pointer (some ⟨g, 0, none⟩), .string nm] w fun r w' => ∃ v, r = .returned (.tuple #[v, .int .i64 0]) ∧ OwnX eB w.heap.size w' v f.bs ∧ Below w.heap.size w w' := by
  have HL := hidU (lacks_p h hs)
  rw [show lkZ m nm = 0 by unfold lkZ; rw [hl]; rfl] at HL
  obtain ⟨a, n, c, bs, sf, hd, rfl, hn, hnc, hcm, hn0, hR, hO⟩ := look_parts h hl
  have q := h.files
  have HP := hidU h.mp
  have H := hidU h
  have HRr := hidU hR
  have HLk := hidU hl
  simp only at hb
  clear h hl hR hO
  go_enter Tryd.func13, Tryd.ntmps13
  go_wp2_with (go_at_call 49; refine HL.out.mono ?_; rintro _ w1 ⟨rfl, hb1⟩; refine Hid.out ?_)
  refine hidU ?_
  have HB1 := hidU hb1
  have q1 := (hb1.cell (lt_of_cell q)).trans q
  have HC := hidU (clone_any a n c bs w1 (HRr.out.below HB1.out) hn hnc hn0 (by omega))
  have HP1 := hidU (HP.out.below HB1.out)
  clear hb1 q HL
  have hfi : (Instr.field 66 (.agg #[.slice a n c, .int .i64 (sf : Int), .bool hd]) 0).run Tryd.prog w1 = .ok (.slice a n c) w1 := by kernel_rfl
  go_wp2_with (first
    | (refine wpList_look mF rfl (.tmp 16) (.tmp 17) false rfl nm rfl rfl HP1.out hs (.agg #[.slice a n c, .int .i64 (sf : Int), .bool hd]) (by rw [HLk.out]; rfl) ?_)
    | (go_at_call 50; refine HC.out.mono ?_; rintro _ w2 ⟨v, rfl, hO2, hb2⟩))
  go_ret2
  exact ⟨v, rfl, hO2.less HB1.out.size, HB1.out.trans (hb2.mono HB1.out.size)⟩
end
end Go.Proofs.YtcmkjjlchljffaaDoor

/- The landed disk: Clone. -/
namespace Go.Proofs.YtcmkjjlchljffaaDoor
open Go.RowKit
set_option linter.unusedVariables false
set_option maxRecDepth 100000
set_option maxHeartbeats 6400000

theorem z35 : (Tryd.prog.info? 35).map (fun i => (i.zero, i.size)) = some (some (.agg [Value.pointer none, .int .i64 0, .map none, .int .i64 0, .int .i64 0].toArray), 5) := by kernel_rfl
theorem i35s : (Tryd.prog.info? 35).map (·.size) = some 5 := by kernel_rfl
theorem i33s : (Tryd.prog.info? 33).map (·.size) = some 1 := by kernel_rfl
theorem one5 {a : Option Addr} {b : Option Nat} {x y z : Int} : ∀ v ∈ [Value.pointer a, .int .i64 x, .map b, .int .i64 y, .int .i64 z], v.oneCell' = true := by
  intro v hv
  simp at hv
  rcases hv with rfl | rfl | rfl | rfl | rfl <;> rfl
theorem wpList_makeMapN {ops : Array Oper} {rest : List Oper} {o : Oper} {a : Act} {w : World} {Q : Exit → Act → World → Prop} (hgd : o.guard = none) (x : Operand) (ho : o.op = .makeMap 33 (some x)) (n : Nat) (hx : a.eval x = .int .i64 (n : Int))
    (h : ∀ w', MapS mF w' w.heap.size [] → Below w.heap.size w w' → w'.heap.size = w.heap.size + 1 → wpList Tryd.prog ops Q rest (a.put o.dst (.map (some w.heap.size))) w') : wpList Tryd.prog ops Q (o :: rest) a w := by
  refine wpList_plain hgd fun K hK => ?_
  have := hK _ _ (h (w.alloc (.map #[] 0)) (MapS.made mF w) ((Below.refl _ w).alloc (Nat.le_refl _) _) (by simp))
  have hr : (Instr.makeMap 33 (some (.int .i64 (n : Int)))).run Tryd.prog w = .ok (.map (some w.heap.size)) (w.alloc (.map #[] 0)) := by
    simp [Instr.makeMap, run_underlying Tryd.underlying33, asInt]
    rfl
  unfold Oper.wp
  simp [execOp, ho, hx, hr, Result.andThen]
  exact this
/-- The files of a map under way. -/
structure Mf (B : Nat) (w : World) (mb : Nat) (m : FMap) : Prop where
  mp : MapS mF w mb m
  own : ∀ p ∈ m, OwnX eB B w p.2.v p.2.bs
  apart : ∀ p ∈ m, ∀ q ∈ m, p.1 ≠ q.1 → ∀ k, p.2.v.ownBlock = some k → q.2.v.ownBlock ≠ some k
  ns : ∀ p ∈ m, p.1.size ≤ 40
theorem Mf.neM {B mb : Nat} {w : World} {m : FMap} (h : Mf B w mb m) {p : ByteArray × FM} (hp : p ∈ m) : p.2.v.ownBlock ≠ some mb := fun e => by
  obtain ⟨_, _, cs, hA⟩ := (h.own p hp).block mb e
  obtain ⟨arr, clock, h1, _⟩ := h.mp
  have h2 : w.heap[mb]? = some (.cells cs.toArray 5 (0, 0)) := hA
  rw [h1] at h2
  cases h2
theorem Mf.below {B mb : Nat} {w w' : World} {m : FMap} (h : Mf B w mb m) (hb : Below w.heap.size w w') : Mf B w' mb m := ⟨h.mp.below hb, fun p hp => (h.own p hp).below hb, h.apart, h.ns⟩
theorem Mf.but {B mb g : Nat} {w w' : World} {m : FMap} (h : Mf B w mb m) (hb : But g w w') {cs : List Value} {t : TypeId} (hA : At t w g cs) (ht : t ≠ 5) : Mf B w' mb m := by
  refine ⟨h.mp.same (hb.block _ h.mp.lt fun e => ?_), fun p hp => (h.own p hp).same fun k hk => hb.block k ((h.own p hp).block k hk).2.1 fun e => ?_, h.apart, h.ns⟩
  · obtain ⟨arr, clock, h1, _⟩ := h.mp
    have h2 : w.heap[g]? = some (.cells cs.toArray t (0, 0)) := hA
    rw [← e, h1] at h2
    cases h2
  · subst e
    obtain ⟨_, _, cs', hA'⟩ := (h.own p hp).block _ hk
    exact hA.ne hA' ht rfl
theorem Mf.iter {B mb r : Nat} {w w' : World} {m : FMap} (h : Mf B w mb m) (hb : But r w w') {b : Option Nat} {s c : Nat} {seen : Array Nat} (hr : w.heap[r]? = some (.mapIter b s seen c)) : Mf B w' mb m := by
  refine ⟨h.mp.same (hb.block _ h.mp.lt fun e => ?_), fun p hp => (h.own p hp).same fun k hk => hb.block k ((h.own p hp).block k hk).2.1 fun e => ?_, h.apart, h.ns⟩
  · obtain ⟨arr, clock, h1, _⟩ := h.mp
    rw [← e, h1] at hr
    cases hr
  · subst e
    obtain ⟨_, _, cs', hA'⟩ := (h.own p hp).block _ hk
    have h2 : w.heap[k]? = some (.cells cs'.toArray 5 (0, 0)) := hA'
    rw [h2] at hr
    cases hr
theorem Rg.iter {b r : Nat} {w : World} {m dn lf : FMap} (h : Rg mF w b r m dn lf) : ∃ b s seen c, w.heap[r]? = some (.mapIter b s seen c) := by
  obtain ⟨es, clock, since, seen, c0, h1, h2, h3, h4, h5⟩ := h
  exact ⟨_, _, _, _, h4⟩
theorem At.iter {r : Nat} {w w' : World} {t : TypeId} {g : Nat} {cs : List Value} (h : At t w g cs) (hb : But r w w') {b : Option Nat} {s c : Nat} {seen : Array Nat} (hr : w.heap[r]? = some (.mapIter b s seen c)) : At t w' g cs := by
  refine hb.at h fun e => ?_
  have h2 : w.heap[g]? = some (.cells cs.toArray t (0, 0)) := h
  rw [e, hr] at h2
  cases h2
theorem At.neMap {mb : Nat} {w : World} {m : FMap} {t : TypeId} {g : Nat} {cs : List Value} (h : At t w g cs) (hM : MapS mF w mb m) : g ≠ mb := fun e => by
  obtain ⟨arr, clock, h1, _⟩ := hM
  have h2 : w.heap[g]? = some (.cells cs.toArray t (0, 0)) := h
  rw [e, h1] at h2
  cases h2
theorem Mf.add {B B' mb : Nat} {w w1 w' : World} {m : FMap} {nm : ByteArray} {f : FM} (h : Mf B w mb m) (hl : lookM m nm = none) (hb1 : Below w.heap.size w w1) (hb : But mb w1 w') (hM : MapS mF w' mb (updM m nm f)) (ho : OwnX eB w.heap.size w1 f.v f.bs) (hB : B ≤ w.heap.size) (hk : nm.size ≤ 40) : Mf B w' mb (updM m nm f) := by
  have hn := h.mp.nodup
  have nf : ∀ k, f.v.ownBlock = some k → w.heap.size ≤ k := fun k hk => (ho.block k hk).1
  refine ⟨hM, fun p hp => ?_, fun p hp q hq hne k h1 h2 => ?_, fun p hp => ?_⟩
  · rcases mem_upd hn hp with rfl | ⟨h1, h2⟩
    · exact (ho.same fun k hk => hb.block k (ho.block k hk).2.1 (by have := nf k hk; have := h.mp.lt; omega)).less hB
    · exact ((h.own p h1).below hb1).same fun k hk => hb.block k (((h.own p h1).below hb1).block k hk).2.1 (fun e => h.neM h1 (e ▸ hk))
  · rcases mem_upd hn hp with rfl | ⟨p1, p2⟩ <;> rcases mem_upd hn hq with rfl | ⟨q1, q2⟩
    · exact hne rfl
    · have := nf k h1; have := ((h.own q q1).block k h2).2.1; omega
    · have := nf k h2; have := ((h.own p p1).block k h1).2.1; omega
    · exact h.apart p p1 q q1 hne k h1 h2
  · rcases mem_upd hn hp with rfl | ⟨h1, _⟩
    · exact hk
    · exact h.ns p h1
theorem upd_new {m : FMap} {nm : ByteArray} {f : FM} (hl : lookM m nm = none) : updM m nm f = m ++ [(nm, f)] := by unfold updM; rw [hl]; rfl
theorem look_nm {m : FMap} {nm : ByteArray} (h : ∀ p ∈ m, p.1 ≠ nm) : lookM m nm = none := by
  unfold lookM
  rw [Option.map_eq_none_iff, List.find?_eq_none]
  intro p hp
  rw [Bool.not_eq_true, keyB_not]
  exact h p hp
section
variable {B g mb : Nat} {w : World} {m : FMap} {sz wr : Nat} {lf : Int}
theorem clone_p (h : Ds B w g mb m sz lf wr) (hsf : ∀ p ∈ m, p.2.sf ≤ p.2.bs.length) (hsum : sumM m ≤ 67108864) :
    Calls Tryd.prog 26 #[.pointer (some ⟨g, 0, none⟩)] w fun r w' => ∃ gc mc m', r = .returned (.pointer (some ⟨gc, 0, none⟩)) ∧ Ds w.heap.size w' gc mc m' sz lf wr ∧ (m'.map toFi).Perm (m.map toFi) ∧ Below w.heap.size w w' := by
  have HM := hidU (made_yes h.at_)
  have hAg := h.at_
  have H := hidU h
  have HSF := hidU hsf
  have HP := hidU h.mp
  clear h hsf
  go_enter Tryd.func26, Tryd.ntmps26
  go_wp2_with (first
    | (go_at_call 33; refine HM.out.mono ?_; rintro _ w1 ⟨rfl, hw⟩; obtain rfl : w = w1 := hw.symm; clear hw)
    | (refine wpList_load_at rfl 35 (.tmp 10) rfl g rfl 35 _ hAg _ Tryd.underlying35 rfl i35s ?_)
    | (refine wpList_alloc_at rfl 35 rfl [.pointer none, .int .i64 0, .map none, .int .i64 0, .int .i64 0] 5 z35 ?_; intro w1 hA1 hb1 hs1)
    | (refine wpList_store_at rfl 35 (.tmp 3) (.tmp 11) rfl w.heap.size [.pointer (some ⟨g, 0, none⟩), .int .i64 (sz : Int), .map (some mb), .int .i64 lf, .int .i64 (wr : Int)] rfl rfl 35 _ hA1 i35s rfl one5 ?_; intro w2 hA2 hb2 hs2; refine Hid.out ?_))
  refine hidU ?_
  obtain ⟨c, hc⟩ : ∃ c, c = w.heap.size := ⟨_, rfl⟩
  have HB2 := hidU (hb2.below hb1 (Nat.le_refl _) hb1.size)
  rw [← hc] at hA2 ⊢
  have Hc := hidU hc
  have hcl : Hid (w.heap.size ≤ c) := hidU (Nat.le_of_eq hc.symm)
  clear hA1 hb1 hb2 hs1 hs2 hc
  have q2 := (H.out.below HB2.out).files
  have hlen : (Builtin.len_ #[33] 3 #[.map (some mb)]).run Tryd.prog w2 = .ok (.int .i64 (m.length : Int)) w2 := (HP.out.below HB2.out).len 3
  go_wp2_with (first
    | (refine wpList_makeMapN rfl (.tmp 16) rfl m.length rfl ?_; intro w3 hM3 hb3 hs3; have hA3 := hA2.below hb3; refine Hid.out ?_))
  refine hidU ?_
  obtain ⟨mc, hmc⟩ : ∃ k, k = w2.heap.size := ⟨_, rfl⟩
  rw [← hmc] at hM3 ⊢
  have HM3 := hidU hM3
  have HB3 := hidU (HB2.out.trans (hb3.mono HB2.out.size))
  have hmcl : Hid (w.heap.size ≤ mc) := hidU (by rw [hmc]; exact HB2.out.size)
  clear hA2 hb3 hs3 hM3 hlen q2 hmc
  go_wp2_with (refine wpList_store1 rfl 33 (.tmp 18) (.tmp 17) rfl c 2 (.map (some mc)) rfl rfl 35 _ hA3 (by simp) i33s rfl rfl ?_; intro w4 hA4 hb4 hs4; refine Hid.out ?_)
  simp only [List.set] at hA4
  refine hidU ?_
  have HA4 := hidU hA4
  have HB4 := hidU (hb4.below HB3.out hcl.out HB3.out.size)
  have HF4 : Hid (Mf w.heap.size w4 mc []) := hidU ((⟨HM3.out, fun p hp => (by cases hp), fun p hp => (by cases hp), fun p hp => (by cases hp)⟩ : Mf w.heap.size w3 mc []).but hb4 hA3 (by decide))
  have q4 := (H.out.below HB4.out).files
  have HP4 := hidU (H.out.below HB4.out).mp
  clear hA3 hA4 hb4 hs4 HM3
  obtain ⟨r0, hr0⟩ : ∃ r, Hid (r = w4.heap.size) := ⟨_, (rfl : _ = w4.heap.size)⟩
  go_wp2_with (refine wpList_range mF rfl (.tmp 22) rfl rfl HP4.out ?_; intro w5 hrg hbw hsw; have HR := hidU hrg; have HB5 := hidU (HB4.out.trans (hbw.mono HB4.out.size)); have HA5 := hidU (HA4.out.below hbw); have HF5 := hidU (HF4.out.below hbw); clear hrg hbw hsw)
  go_frame
  rw [← hr0.out] at HR ⊢
  clear q4 HA4 HF4
  go_loopw [] (fun x => ∃ (dn lft m' : FMap), Hid (Rg mF x mb r0 m dn lft) ∧ Hid (At 35 x c [.pointer (some ⟨g, 0, none⟩), .int .i64 (sz : Int), .map (some mc), .int .i64 lf, .int .i64 (wr : Int)]) ∧ Hid (Mf w.heap.size x mc m') ∧ Hid (m'.map toFi = dn.map toFi) ∧ Hid (Below w.heap.size w x)) (fun x => x.rangeLeft mb r0)
  case atStart => exact ⟨[], m, [], HR, HA5, HF5, rfl, HB5⟩
  case round =>
    obtain ⟨dn, lft, m', HRg, HA, HF, hmm, HBx⟩ := hrel
    go_wp2_with (first
      | (at_next; refine wpList_next mF rfl (.tmp 23) rfl rfl HRg.out ?_ ?_)
      | go_in)
    · intro h0
      have hA := HA.out
      go_wp2_with (first
        | (refine wpList_load_at rfl 35 (.tmp 3) rfl c rfl 35 _ hA _ Tryd.underlying35 rfl i35s ?_)
        | (go_at_call 32; refine (made_any (some ⟨g, 0, none⟩) _ _ _ mc _).mono ?_; rintro _ y ⟨rfl, hAy, hby, hsy⟩))
      go_ret
      have F := HF.out.below hby
      have hpm := HRg.out.perm
      rw [h0, List.append_nil] at hpm
      refine ⟨_, mc, m', rfl, ⟨hAy, F.mp, F.own, F.apart, HBx.out.size, hmcl.out, F.ns⟩, ?_, HBx.out.trans (hby.mono HBx.out.size)⟩
      rw [hmm.out]
      exact hpm.map toFi
    · intro nm fm lf' x1 hp hrg1 hb1 hs1 hen
      obtain ⟨v, bs, sf, hd⟩ := fm
      have hpm : (nm, (⟨v, bs, sf, hd⟩ : FM)) ∈ m := HRg.out.perm.mem_iff.1 (List.mem_append.2 (.inr (hp.mem_iff.2 (.head _))))
      have HN40 := hidU (H.out.ns _ hpm)
      have HSFn := hidU (HSF.out _ hpm)
      have HSm := hidU (sum_mem hpm)
      obtain ⟨a, c', hv, hnc, _, hn0, _, hrw⟩ := (H.out.own _ hpm).row
      simp only at hv hnc hn0 hrw
      subst hv
      obtain ⟨b0, s0, seen0, c0, hit⟩ := HRg.out.iter
      have HA1 := hidU (HA.out.iter hb1 hit)
      have HF1 := hidU (HF.out.iter hb1 hit)
      have HRg1 := hidU hrg1
      have HL1 : Hid (x1.rangeLeft mb r0 < wr.rangeLeft mb r0) := hidU (by rw [hrg1.left, HRg.out.left, hp.length_eq]; simp)
      have hrb : Hid (w.heap.size ≤ r0) := hidU (by rw [hr0.out]; exact HB4.out.size)
      have HBx1 := hidU (hb1.below HBx.out hrb.out HBx.out.size)
      have hnn : Hid (lookM m' nm = none) := hidU (look_nm fun p hp' e => by
        have hn := ((hrg1.perm.map (·.1)).nodup_iff).2 HP.out.nodup
        rw [List.map_append, List.map_append, List.nodup_append] at hn
        have hn2 := (List.nodup_append.1 hn.1).2.2
        have h3 : nm ∈ dn.map (·.1) := by
          have h4 := congrArg (List.map Fi.nm) hmm.out
          rw [List.map_map, List.map_map] at h4
          have h5 : nm ∈ m'.map (Fi.nm ∘ toFi) := List.mem_map.2 ⟨p, hp', e⟩
          rw [h4] at h5
          exact h5
        exact hn2 nm h3 nm (by simp) rfl)
      have HRw := hidU (rowB.1 (hrw.below (HBx1.out)))
      obtain ⟨n, hn⟩ : ∃ n, Hid (bs.length = n) := ⟨_, (rfl : bs.length = _)⟩
      simp only [mF, FM.val, hn.out] at hen ⊢
      rw [hn.out] at hnc
      simp only [hn.out] at HSFn HSm
      clear hrg1 hb1 hs1 hp hit hrw hpm
      go_wp2_with (first
        | (refine wpList_alloc_at rfl 66 rfl [.slice none 0 0, .int .i64 0, .bool false] 3 z66 ?_; intro x2 hA2 hb2 hs2; refine Hid.out ?_))
      refine hidU ?_
      obtain ⟨gb, hgb⟩ : ∃ gb, gb = x1.heap.size := ⟨_, rfl⟩
      rw [← hgb] at hA2 ⊢
      have HB2 := hidU hb2
      have hgl : Hid (x1.heap.size ≤ gb) := hidU (Nat.le_of_eq hgb.symm)
      clear hb2 hs2 hgb hen
      go_wp2_with (first
        | (refine wpList_store_at rfl 66 (.tmp 5) (.tmp 28) rfl gb [.slice a n c', .int .i64 (sf : Int), .bool hd] rfl rfl 66 _ hA2 i66 rfl one3 ?_; intro x3 hA3 hb3 hs3; refine Hid.out ?_))
      refine hidU ?_
      have HB3' := hidU (hb3.below HB2.out hgl.out HB2.out.size)
      have c0 : x3.cell? ⟨gb, 0, none⟩ = some (.slice a n c') := by rw [hA3.cell]; rfl
      have HC := hidU (cut_any a n c' bs sf hd n x3 (HRw.out.below HB3'.out) hn.out hnc hn0 (Nat.le_refl _) (by have := HSm.out; omega) HSFn.out)
      clear hA2 hb3 hs3 HB2
      go_wp2_with (first
        | (refine wpList_load_at rfl 66 (.tmp 5) rfl gb rfl 66 _ hA3 _ Tryd.underlying66 rfl i66 ?_)
        | (go_at_call 53; refine HC.out.mono ?_; rintro _ x4 ⟨v', rfl, hO4, hb4⟩; refine Hid.out ?_))
      refine hidU ?_
      rw [show bs.take n = bs by rw [← hn.out]; exact List.take_length] at hO4
      rw [show min sf n = sf by have := HSFn.out; omega]
      obtain ⟨a4, n4, c4, rfl⟩ := own_slice' hO4
      have HB4' := hidU (HB3'.out.trans (hb4.mono HB3'.out.size))
      have HO4 := hidU (hO4.less HB3'.out.size)
      have HPt := hidU (put_any c mc m' a4 n4 c4 bs sf hd nm x4 (by rw [(HA1.out.below HB4'.out).cell]; rfl) (HF1.out.mp.below HB4'.out) (by have h9 : nm.size ≤ 40 := HN40.out; omega))
      clear hO4 hb4 hA3 c0 HC
      go_wp2_with (go_at_call 38; refine HPt.out.mono ?_; rintro _ x5 ⟨rfl, hM5, y, hy, hb5⟩; refine Hid.out ?_)
      refine hidU ?_
      have HBy := HB4'.out.trans (hy.mono HB4'.out.size)
      have HF5 : Hid (Mf w.heap.size x5 mc (updM m' nm ⟨.slice a4 n4 c4, bs, sf, hd⟩)) := hidU (HF1.out.add (B' := 0) hnn.out HBy hb5 hM5 (HO4.out.below hy) HBx1.out.size HN40.out)
      have HRy := HRg1.out.below HBy
      have HMy := HF1.out.mp.below HBy
      have hbm : mb ≠ mc := by have := HP.out.lt; have := hmcl.out; omega
      have hrm : r0 ≠ mc := fun e => by
        obtain ⟨b1, s1, seen1, c1, hit1⟩ := HRy.iter
        obtain ⟨arr, clock, h1, _⟩ := HMy
        rw [e, h1] at hit1
        cases hit1
      have HRg5 := hidU (HRy.same (hb5.block mb HRy.lt.1 hbm) (hb5.block r0 HRy.lt.2 hrm))
      have HA5 := hidU (hb5.at (HA1.out.below HBy) ((HA1.out.below HBy).neMap HMy))
      have HB5 := hidU (hb5.below (HBx1.out.trans (HBy.mono HBx1.out.size)) hmcl.out (HBx1.out.trans (HBy.mono HBx1.out.size)).size)
      have HL5 : Hid (x5.rangeLeft mb r0 < wr.rangeLeft mb r0) := hidU (by rw [HRg5.out.left]; have := HL1.out; rwa [HRg1.out.left] at this)
      have HM5 : Hid ((updM m' nm ⟨.slice a4 n4 c4, bs, sf, hd⟩).map toFi = (dn ++ [(nm, (⟨.slice a bs.length c', bs, sf, hd⟩ : FM))]).map toFi) := hidU (by
        rw [upd_new hnn.out, List.map_append, List.map_append, hmm.out]
        rfl)
      clear hM5 hy hb5 HBy HRy HMy hbm hrm
      go_wp2
      go_roundw
      · exact ⟨_, lf', _, HRg5, HA5, HF5, HM5, HB5⟩
      · exact HL5.out
end
end Go.Proofs.YtcmkjjlchljffaaDoor
