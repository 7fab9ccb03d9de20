/- Whether a statement may be printed: all kinds. -/
import Derived.Test.YtcmahiphfpgadaaDoorJ17
namespace Go.Proofs.YtcmahiphfpgadaaDoor
open Go.RowKit
set_option linter.unusedVariables false

theorem ST.sz1 {k : Int} {nm : ByteArray} {e : ET} {a1 a2 : Option Addr} {c1 c2 : Nat} {body els : List ST} {x : ST} (h : x ∈ body) : SizeOf.sizeOf x < SizeOf.sizeOf (ST.mk k nm e a1 c1 body a2 c2 els) := by
  have := List.sizeOf_lt_of_mem h
  simp only [ST.mk.sizeOf_spec]
  omega
theorem ST.sz2 {k : Int} {nm : ByteArray} {e : ET} {a1 a2 : Option Addr} {c1 c2 : Nat} {body els : List ST} {x : ST} (h : x ∈ els) : SizeOf.sizeOf x < SizeOf.sizeOf (ST.mk k nm e a1 c1 body a2 c2 els) := by
  have := List.sizeOf_lt_of_mem h
  simp only [ST.mk.sizeOf_spec]
  omega

section
variable (B : Nat) (w : World) (k : Int) (nm : ByteArray) (op t b : Nat) (enm : ByteArray) (ea a1 a2 : Option Addr) (n1 n2 n3 c1 c2 ec : Nat) (d : Nat) (R : Bool)

/-- What the parts of a statement are asked. -/
def AskB (C : Nat) (args : Array Value) (p : Bool) : Prop := ∀ w', Below w.heap.size w w' → Calls Tryd.prog C args w' fun r w'' => r = .returned (.bool p) ∧ Below w'.heap.size w' w''

set_option maxRecDepth 100000 in
set_option maxHeartbeats 3200000 in
theorem mayS_1 (p1 p2 p3 : Bool) (hp1 : AskB w 21 #[.string nm] p1) (hp2 : AskB w 10 #[.agg (ex5 op t b enm (.slice ea n3 ec)).toArray, .int .i64 32] p2) (hp3 : AskB w 76 #[.agg (st9 1 nm (ex5 op t b enm (.slice ea n3 ec)) (.slice a1 n1 c1) (.slice a2 n2 c2)).toArray] p3) (hd : d ≤ 32) :
    Calls Tryd.prog 67 #[.agg (st9 1 nm (ex5 op t b enm (.slice ea n3 ec)) (.slice a1 n1 c1) (.slice a2 n2 c2)).toArray, .int .i64 (d : Int)] w fun r w' => r = .returned (.bool (p1 && (p2 && p3))) ∧ Below w.heap.size w w' := by
  obtain ⟨R, hR⟩ : ∃ R, Hid (R = (p1 && (p2 && p3))) := ⟨_, (rfl : _ = (p1 && (p2 && p3)))⟩
  rw [← hR.out]
  have Hp1 : Hid (AskB w 21 #[.string nm] p1) := hp1
  clear hp1
  have Hp2 : Hid (AskB w 10 #[.agg (ex5 op t b enm (.slice ea n3 ec)).toArray, .int .i64 32] p2) := hp2
  clear hp2
  have Hp3 : Hid (AskB w 76 #[.agg (st9 1 nm (ex5 op t b enm (.slice ea n3 ec)) (.slice a1 n1 c1) (.slice a2 n2 c2)).toArray] p3) := hp3
  clear hp3
  go_enter Tryd.func67, Tryd.ntmps67
  go_wp2_with (first
    | ((with_reducible show wpList _ _ _ _ _ _); refine wpList_box_at rfl 38 (.tmp 0) rfl (st9 1 nm (ex5 op t b enm (.slice ea n3 ec)) (.slice a1 n1 c1) (.slice a2 n2 c2)) rfl ?_; intro w1 hA hbb hs1; clear hs1; refine Hid.out ?_))
  refine hidU ?_
  obtain ⟨q0, q1, q2, q3, q4, q5, q6, q7, q8⟩ := st_cells hA
  go_wp2_with fail
  refine (Hp1.out _ hbb).mono ?_
  rintro r w2 ⟨rfl, hb2⟩
  have hA2 := hA.below hb2
  have hbb2 := hbb.trans (hb2.mono hbb.size)
  clear hA hbb hb2 q0 q1 q2 q3 q4 q5 q6 q7 q8
  obtain ⟨q0, q1, q2, q3, q4, q5, q6, q7, q8⟩ := st_cells hA2
  have hA := hA2
  have hbb := hbb2
  clear hA2 hbb2
  cases p1 with
  | false =>
    go_wp2_with fail
    go_ret
    exact ⟨by rw [hR.out]; rfl, hbb⟩
  | true =>
    go_wp2_with fail
    refine (Hp2.out _ hbb).mono ?_
    rintro r w3 ⟨rfl, hb3⟩
    have hA3 := hA.below hb3
    have hbb3 := hbb.trans (hb3.mono hbb.size)
    clear hA hbb hb3 q0 q1 q2 q3 q4 q5 q6 q7 q8
    obtain ⟨q0, q1, q2, q3, q4, q5, q6, q7, q8⟩ := st_cells hA3
    have hA := hA3
    have hbb := hbb3
    clear hA3 hbb3
    cases p2 with
    | false =>
      go_wp2_with fail
      go_ret
      exact ⟨by rw [hR.out]; rfl, hbb⟩
    | true =>
      go_wp2_with fail
      refine (Hp3.out _ hbb).mono ?_
      rintro r w4 ⟨rfl, hb4⟩
      have hA4 := hA.below hb4
      have hbb4 := hbb.trans (hb4.mono hbb.size)
      clear hA hbb hb4 q0 q1 q2 q3 q4 q5 q6 q7 q8
      obtain ⟨q0, q1, q2, q3, q4, q5, q6, q7, q8⟩ := st_cells hA4
      have hA := hA4
      have hbb := hbb4
      clear hA4 hbb4
      go_wp2_with fail
      go_ret
      exact ⟨by rw [hR.out]; rfl, hbb⟩

set_option maxRecDepth 100000 in
set_option maxHeartbeats 3200000 in
theorem mayS_2 (p1 p2 p3 : Bool) (hp1 : AskB w 21 #[.string nm] p1) (hp2 : AskB w 77 #[.agg (ex5 op t b enm (.slice ea n3 ec)).toArray] p2) (hp3 : AskB w 76 #[.agg (st9 2 nm (ex5 op t b enm (.slice ea n3 ec)) (.slice a1 n1 c1) (.slice a2 n2 c2)).toArray] p3) (hd : d ≤ 32) :
    Calls Tryd.prog 67 #[.agg (st9 2 nm (ex5 op t b enm (.slice ea n3 ec)) (.slice a1 n1 c1) (.slice a2 n2 c2)).toArray, .int .i64 (d : Int)] w fun r w' => r = .returned (.bool (p1 && (p2 && p3))) ∧ Below w.heap.size w w' := by
  obtain ⟨R, hR⟩ : ∃ R, Hid (R = (p1 && (p2 && p3))) := ⟨_, (rfl : _ = (p1 && (p2 && p3)))⟩
  rw [← hR.out]
  have Hp1 : Hid (AskB w 21 #[.string nm] p1) := hp1
  clear hp1
  have Hp2 : Hid (AskB w 77 #[.agg (ex5 op t b enm (.slice ea n3 ec)).toArray] p2) := hp2
  clear hp2
  have Hp3 : Hid (AskB w 76 #[.agg (st9 2 nm (ex5 op t b enm (.slice ea n3 ec)) (.slice a1 n1 c1) (.slice a2 n2 c2)).toArray] p3) := hp3
  clear hp3
  go_enter Tryd.func67, Tryd.ntmps67
  go_wp2_with (first
    | ((with_reducible show wpList _ _ _ _ _ _); refine wpList_box_at rfl 38 (.tmp 0) rfl (st9 2 nm (ex5 op t b enm (.slice ea n3 ec)) (.slice a1 n1 c1) (.slice a2 n2 c2)) rfl ?_; intro w1 hA hbb hs1; clear hs1; refine Hid.out ?_))
  refine hidU ?_
  obtain ⟨q0, q1, q2, q3, q4, q5, q6, q7, q8⟩ := st_cells hA
  go_wp2_with fail
  refine (Hp1.out _ hbb).mono ?_
  rintro r w2 ⟨rfl, hb2⟩
  have hA2 := hA.below hb2
  have hbb2 := hbb.trans (hb2.mono hbb.size)
  clear hA hbb hb2 q0 q1 q2 q3 q4 q5 q6 q7 q8
  obtain ⟨q0, q1, q2, q3, q4, q5, q6, q7, q8⟩ := st_cells hA2
  have hA := hA2
  have hbb := hbb2
  clear hA2 hbb2
  cases p1 with
  | false =>
    go_wp2_with fail
    go_ret
    exact ⟨by rw [hR.out]; rfl, hbb⟩
  | true =>
    go_wp2_with fail
    refine (Hp2.out _ hbb).mono ?_
    rintro r w3 ⟨rfl, hb3⟩
    have hA3 := hA.below hb3
    have hbb3 := hbb.trans (hb3.mono hbb.size)
    clear hA hbb hb3 q0 q1 q2 q3 q4 q5 q6 q7 q8
    obtain ⟨q0, q1, q2, q3, q4, q5, q6, q7, q8⟩ := st_cells hA3
    have hA := hA3
    have hbb := hbb3
    clear hA3 hbb3
    cases p2 with
    | false =>
      go_wp2_with fail
      go_ret
      exact ⟨by rw [hR.out]; rfl, hbb⟩
    | true =>
      go_wp2_with fail
      refine (Hp3.out _ hbb).mono ?_
      rintro r w4 ⟨rfl, hb4⟩
      have hA4 := hA.below hb4
      have hbb4 := hbb.trans (hb4.mono hbb.size)
      clear hA hbb hb4 q0 q1 q2 q3 q4 q5 q6 q7 q8
      obtain ⟨q0, q1, q2, q3, q4, q5, q6, q7, q8⟩ := st_cells hA4
      have hA := hA4
      have hbb := hbb4
      clear hA4 hbb4
      go_wp2_with fail
      go_ret
      exact ⟨by rw [hR.out]; rfl, hbb⟩

set_option maxRecDepth 100000 in
set_option maxHeartbeats 3200000 in
theorem mayS_3 (p1 p2 p3 : Bool) (hp1 : AskB w 21 #[.string nm] p1) (hp2 : AskB w 77 #[.agg (ex5 op t b enm (.slice ea n3 ec)).toArray] p2) (hp3 : AskB w 76 #[.agg (st9 3 nm (ex5 op t b enm (.slice ea n3 ec)) (.slice a1 n1 c1) (.slice a2 n2 c2)).toArray] p3) (hd : d ≤ 32) :
    Calls Tryd.prog 67 #[.agg (st9 3 nm (ex5 op t b enm (.slice ea n3 ec)) (.slice a1 n1 c1) (.slice a2 n2 c2)).toArray, .int .i64 (d : Int)] w fun r w' => r = .returned (.bool (p1 && (p2 && p3))) ∧ Below w.heap.size w w' := by
  obtain ⟨R, hR⟩ : ∃ R, Hid (R = (p1 && (p2 && p3))) := ⟨_, (rfl : _ = (p1 && (p2 && p3)))⟩
  rw [← hR.out]
  have Hp1 : Hid (AskB w 21 #[.string nm] p1) := hp1
  clear hp1
  have Hp2 : Hid (AskB w 77 #[.agg (ex5 op t b enm (.slice ea n3 ec)).toArray] p2) := hp2
  clear hp2
  have Hp3 : Hid (AskB w 76 #[.agg (st9 3 nm (ex5 op t b enm (.slice ea n3 ec)) (.slice a1 n1 c1) (.slice a2 n2 c2)).toArray] p3) := hp3
  clear hp3
  go_enter Tryd.func67, Tryd.ntmps67
  go_wp2_with (first
    | ((with_reducible show wpList _ _ _ _ _ _); refine wpList_box_at rfl 38 (.tmp 0) rfl (st9 3 nm (ex5 op t b enm (.slice ea n3 ec)) (.slice a1 n1 c1) (.slice a2 n2 c2)) rfl ?_; intro w1 hA hbb hs1; clear hs1; refine Hid.out ?_))
  refine hidU ?_
  obtain ⟨q0, q1, q2, q3, q4, q5, q6, q7, q8⟩ := st_cells hA
  go_wp2_with fail
  refine (Hp1.out _ hbb).mono ?_
  rintro r w2 ⟨rfl, hb2⟩
  have hA2 := hA.below hb2
  have hbb2 := hbb.trans (hb2.mono hbb.size)
  clear hA hbb hb2 q0 q1 q2 q3 q4 q5 q6 q7 q8
  obtain ⟨q0, q1, q2, q3, q4, q5, q6, q7, q8⟩ := st_cells hA2
  have hA := hA2
  have hbb := hbb2
  clear hA2 hbb2
  cases p1 with
  | false =>
    go_wp2_with fail
    go_ret
    exact ⟨by rw [hR.out]; rfl, hbb⟩
  | true =>
    go_wp2_with fail
    refine (Hp2.out _ hbb).mono ?_
    rintro r w3 ⟨rfl, hb3⟩
    have hA3 := hA.below hb3
    have hbb3 := hbb.trans (hb3.mono hbb.size)
    clear hA hbb hb3 q0 q1 q2 q3 q4 q5 q6 q7 q8
    obtain ⟨q0, q1, q2, q3, q4, q5, q6, q7, q8⟩ := st_cells hA3
    have hA := hA3
    have hbb := hbb3
    clear hA3 hbb3
    cases p2 with
    | false =>
      go_wp2_with fail
      go_ret
      exact ⟨by rw [hR.out]; rfl, hbb⟩
    | true =>
      go_wp2_with fail
      refine (Hp3.out _ hbb).mono ?_
      rintro r w4 ⟨rfl, hb4⟩
      have hA4 := hA.below hb4
      have hbb4 := hbb.trans (hb4.mono hbb.size)
      clear hA hbb hb4 q0 q1 q2 q3 q4 q5 q6 q7 q8
      obtain ⟨q0, q1, q2, q3, q4, q5, q6, q7, q8⟩ := st_cells hA4
      have hA := hA4
      have hbb := hbb4
      clear hA4 hbb4
      go_wp2_with fail
      go_ret
      exact ⟨by rw [hR.out]; rfl, hbb⟩

set_option maxRecDepth 100000 in
set_option maxHeartbeats 3200000 in
theorem mayS_4 (p1 p2 p3 : Bool) (hp1 : nm.toList.isEmpty = p1) (hp2 : AskB w 10 #[.agg (ex5 op t b enm (.slice ea n3 ec)).toArray, .int .i64 32] p2) (hp3 : AskB w 76 #[.agg (st9 4 nm (ex5 op t b enm (.slice ea n3 ec)) (.slice a1 n1 c1) (.slice a2 n2 c2)).toArray] p3) (hd : d ≤ 32) :
    Calls Tryd.prog 67 #[.agg (st9 4 nm (ex5 op t b enm (.slice ea n3 ec)) (.slice a1 n1 c1) (.slice a2 n2 c2)).toArray, .int .i64 (d : Int)] w fun r w' => r = .returned (.bool (p1 && (p2 && p3))) ∧ Below w.heap.size w w' := by
  obtain ⟨R, hR⟩ : ∃ R, Hid (R = (p1 && (p2 && p3))) := ⟨_, (rfl : _ = (p1 && (p2 && p3)))⟩
  rw [← hR.out]
  have Hp2 : Hid (AskB w 10 #[.agg (ex5 op t b enm (.slice ea n3 ec)).toArray, .int .i64 32] p2) := hp2
  clear hp2
  have Hp3 : Hid (AskB w 76 #[.agg (st9 4 nm (ex5 op t b enm (.slice ea n3 ec)) (.slice a1 n1 c1) (.slice a2 n2 c2)).toArray] p3) := hp3
  clear hp3
  go_enter Tryd.func67, Tryd.ntmps67
  go_wp2_with (first
    | ((with_reducible show wpList _ _ _ _ _ _); refine wpList_box_at rfl 38 (.tmp 0) rfl (st9 4 nm (ex5 op t b enm (.slice ea n3 ec)) (.slice a1 n1 c1) (.slice a2 n2 c2)) rfl ?_; intro w1 hA hbb hs1; clear hs1; refine Hid.out ?_))
  refine hidU ?_
  obtain ⟨q0, q1, q2, q3, q4, q5, q6, q7, q8⟩ := st_cells hA
  cases p1 with
  | false =>
    go_wp2_with fail
    go_ret
    exact ⟨by rw [hR.out]; rfl, hbb⟩
  | true =>
    go_wp2_with fail
    refine (Hp2.out _ hbb).mono ?_
    rintro r w2 ⟨rfl, hb2⟩
    have hA2 := hA.below hb2
    have hbb2 := hbb.trans (hb2.mono hbb.size)
    clear hA hbb hb2 q0 q1 q2 q3 q4 q5 q6 q7 q8
    obtain ⟨q0, q1, q2, q3, q4, q5, q6, q7, q8⟩ := st_cells hA2
    have hA := hA2
    have hbb := hbb2
    clear hA2 hbb2
    cases p2 with
    | false =>
      go_wp2_with fail
      go_ret
      exact ⟨by rw [hR.out]; rfl, hbb⟩
    | true =>
      go_wp2_with fail
      refine (Hp3.out _ hbb).mono ?_
      rintro r w3 ⟨rfl, hb3⟩
      have hA3 := hA.below hb3
      have hbb3 := hbb.trans (hb3.mono hbb.size)
      clear hA hbb hb3 q0 q1 q2 q3 q4 q5 q6 q7 q8
      obtain ⟨q0, q1, q2, q3, q4, q5, q6, q7, q8⟩ := st_cells hA3
      have hA := hA3
      have hbb := hbb3
      clear hA3 hbb3
      go_wp2_with fail
      go_ret
      exact ⟨by rw [hR.out]; rfl, hbb⟩

set_option maxRecDepth 100000 in
set_option maxHeartbeats 3200000 in
theorem mayS_5 (p1 p2 p3 p4 : Bool) (hp1 : nm.toList.isEmpty = p1) (hp2 : AskB w 10 #[.agg (ex5 op t b enm (.slice ea n3 ec)).toArray, .int .i64 32] p2) (hp3 : AskB w 48 #[.slice a1 n1 c1, .int .i64 ((d : Int) + 1)] p3) (hp4 : AskB w 48 #[.slice a2 n2 c2, .int .i64 ((d : Int) + 1)] p4) (hd : d ≤ 32) :
    Calls Tryd.prog 67 #[.agg (st9 5 nm (ex5 op t b enm (.slice ea n3 ec)) (.slice a1 n1 c1) (.slice a2 n2 c2)).toArray, .int .i64 (d : Int)] w fun r w' => r = .returned (.bool (p1 && (p2 && (p3 && p4)))) ∧ Below w.heap.size w w' := by
  obtain ⟨R, hR⟩ : ∃ R, Hid (R = (p1 && (p2 && (p3 && p4)))) := ⟨_, (rfl : _ = (p1 && (p2 && (p3 && p4))))⟩
  rw [← hR.out]
  have Hp2 : Hid (AskB w 10 #[.agg (ex5 op t b enm (.slice ea n3 ec)).toArray, .int .i64 32] p2) := hp2
  clear hp2
  have Hp3 : Hid (AskB w 48 #[.slice a1 n1 c1, .int .i64 ((d : Int) + 1)] p3) := hp3
  clear hp3
  have Hp4 : Hid (AskB w 48 #[.slice a2 n2 c2, .int .i64 ((d : Int) + 1)] p4) := hp4
  clear hp4
  go_enter Tryd.func67, Tryd.ntmps67
  go_wp2_with (first
    | ((with_reducible show wpList _ _ _ _ _ _); refine wpList_box_at rfl 38 (.tmp 0) rfl (st9 5 nm (ex5 op t b enm (.slice ea n3 ec)) (.slice a1 n1 c1) (.slice a2 n2 c2)) rfl ?_; intro w1 hA hbb hs1; clear hs1; refine Hid.out ?_))
  refine hidU ?_
  obtain ⟨q0, q1, q2, q3, q4, q5, q6, q7, q8⟩ := st_cells hA
  cases p1 with
  | false =>
    go_wp2_with fail
    go_ret
    exact ⟨by rw [hR.out]; rfl, hbb⟩
  | true =>
    go_wp2_with fail
    refine (Hp2.out _ hbb).mono ?_
    rintro r w2 ⟨rfl, hb2⟩
    have hA2 := hA.below hb2
    have hbb2 := hbb.trans (hb2.mono hbb.size)
    clear hA hbb hb2 q0 q1 q2 q3 q4 q5 q6 q7 q8
    obtain ⟨q0, q1, q2, q3, q4, q5, q6, q7, q8⟩ := st_cells hA2
    have hA := hA2
    have hbb := hbb2
    clear hA2 hbb2
    cases p2 with
    | false =>
      go_wp2_with fail
      go_ret
      exact ⟨by rw [hR.out]; rfl, hbb⟩
    | true =>
      go_wp2_with fail
      refine (Hp3.out _ hbb).mono ?_
      rintro r w3 ⟨rfl, hb3⟩
      have hA3 := hA.below hb3
      have hbb3 := hbb.trans (hb3.mono hbb.size)
      clear hA hbb hb3 q0 q1 q2 q3 q4 q5 q6 q7 q8
      obtain ⟨q0, q1, q2, q3, q4, q5, q6, q7, q8⟩ := st_cells hA3
      have hA := hA3
      have hbb := hbb3
      clear hA3 hbb3
      cases p3 with
      | false =>
        go_wp2_with fail
        go_ret
        exact ⟨by rw [hR.out]; rfl, hbb⟩
      | true =>
        go_wp2_with fail
        refine (Hp4.out _ hbb).mono ?_
        rintro r w4 ⟨rfl, hb4⟩
        have hA4 := hA.below hb4
        have hbb4 := hbb.trans (hb4.mono hbb.size)
        clear hA hbb hb4 q0 q1 q2 q3 q4 q5 q6 q7 q8
        obtain ⟨q0, q1, q2, q3, q4, q5, q6, q7, q8⟩ := st_cells hA4
        have hA := hA4
        have hbb := hbb4
        clear hA4 hbb4
        go_wp2_with fail
        go_ret
        exact ⟨by rw [hR.out]; rfl, hbb⟩

set_option maxRecDepth 100000 in
set_option maxHeartbeats 3200000 in
theorem mayS_6 (p1 p2 p3 p4 : Bool) (hp1 : nm.toList.isEmpty = p1) (hp2 : AskB w 10 #[.agg (ex5 op t b enm (.slice ea n3 ec)).toArray, .int .i64 32] p2) (hp3 : AskB w 48 #[.slice a1 n1 c1, .int .i64 ((d : Int) + 1)] p3) (hp4 : decide (n2 = 0) = p4) (hd : d ≤ 32) :
    Calls Tryd.prog 67 #[.agg (st9 6 nm (ex5 op t b enm (.slice ea n3 ec)) (.slice a1 n1 c1) (.slice a2 n2 c2)).toArray, .int .i64 (d : Int)] w fun r w' => r = .returned (.bool (p1 && (p2 && (p3 && p4)))) ∧ Below w.heap.size w w' := by
  obtain ⟨R, hR⟩ : ∃ R, Hid (R = (p1 && (p2 && (p3 && p4)))) := ⟨_, (rfl : _ = (p1 && (p2 && (p3 && p4))))⟩
  rw [← hR.out]
  have Hp2 : Hid (AskB w 10 #[.agg (ex5 op t b enm (.slice ea n3 ec)).toArray, .int .i64 32] p2) := hp2
  clear hp2
  have Hp3 : Hid (AskB w 48 #[.slice a1 n1 c1, .int .i64 ((d : Int) + 1)] p3) := hp3
  clear hp3
  go_enter Tryd.func67, Tryd.ntmps67
  go_wp2_with (first
    | ((with_reducible show wpList _ _ _ _ _ _); refine wpList_box_at rfl 38 (.tmp 0) rfl (st9 6 nm (ex5 op t b enm (.slice ea n3 ec)) (.slice a1 n1 c1) (.slice a2 n2 c2)) rfl ?_; intro w1 hA hbb hs1; clear hs1; refine Hid.out ?_))
  refine hidU ?_
  obtain ⟨q0, q1, q2, q3, q4, q5, q6, q7, q8⟩ := st_cells hA
  cases p1 with
  | false =>
    go_wp2_with fail
    go_ret
    exact ⟨by rw [hR.out]; rfl, hbb⟩
  | true =>
    go_wp2_with fail
    refine (Hp2.out _ hbb).mono ?_
    rintro r w2 ⟨rfl, hb2⟩
    have hA2 := hA.below hb2
    have hbb2 := hbb.trans (hb2.mono hbb.size)
    clear hA hbb hb2 q0 q1 q2 q3 q4 q5 q6 q7 q8
    obtain ⟨q0, q1, q2, q3, q4, q5, q6, q7, q8⟩ := st_cells hA2
    have hA := hA2
    have hbb := hbb2
    clear hA2 hbb2
    cases p2 with
    | false =>
      go_wp2_with fail
      go_ret
      exact ⟨by rw [hR.out]; rfl, hbb⟩
    | true =>
      go_wp2_with fail
      refine (Hp3.out _ hbb).mono ?_
      rintro r w3 ⟨rfl, hb3⟩
      have hA3 := hA.below hb3
      have hbb3 := hbb.trans (hb3.mono hbb.size)
      clear hA hbb hb3 q0 q1 q2 q3 q4 q5 q6 q7 q8
      obtain ⟨q0, q1, q2, q3, q4, q5, q6, q7, q8⟩ := st_cells hA3
      have hA := hA3
      have hbb := hbb3
      clear hA3 hbb3
      cases p3 with
      | false =>
        go_wp2_with fail
        go_ret
        exact ⟨by rw [hR.out]; rfl, hbb⟩
      | true =>
        by_cases hn2 : n2 = 0
        · subst hn2
          have : p4 = true := by rw [← hp4]; rfl
          subst this
          clear hp4
          go_wp2_with fail
          go_ret
          exact ⟨by rw [hR.out]; rfl, hbb⟩
        · have e2 : ((n2 : Int) == 0) = false := by rw [beq_eq_false_iff_ne]; omega
          have : p4 = false := by rw [← hp4]; exact decide_eq_false hn2
          subst this
          clear hp4 hn2
          go_wp2_with fail
          go_ret
          exact ⟨by rw [hR.out]; rfl, hbb⟩

set_option maxRecDepth 100000 in
set_option maxHeartbeats 3200000 in
theorem mayS_7 (p1 p2 p3 : Bool) (hp1 : nm.toList.isEmpty = p1) (hp2 : AskB w 77 #[.agg (ex5 op t b enm (.slice ea n3 ec)).toArray] p2) (hp3 : AskB w 76 #[.agg (st9 7 nm (ex5 op t b enm (.slice ea n3 ec)) (.slice a1 n1 c1) (.slice a2 n2 c2)).toArray] p3) (hd : d ≤ 32) :
    Calls Tryd.prog 67 #[.agg (st9 7 nm (ex5 op t b enm (.slice ea n3 ec)) (.slice a1 n1 c1) (.slice a2 n2 c2)).toArray, .int .i64 (d : Int)] w fun r w' => r = .returned (.bool (p1 && (p2 && p3))) ∧ Below w.heap.size w w' := by
  obtain ⟨R, hR⟩ : ∃ R, Hid (R = (p1 && (p2 && p3))) := ⟨_, (rfl : _ = (p1 && (p2 && p3)))⟩
  rw [← hR.out]
  have Hp2 : Hid (AskB w 77 #[.agg (ex5 op t b enm (.slice ea n3 ec)).toArray] p2) := hp2
  clear hp2
  have Hp3 : Hid (AskB w 76 #[.agg (st9 7 nm (ex5 op t b enm (.slice ea n3 ec)) (.slice a1 n1 c1) (.slice a2 n2 c2)).toArray] p3) := hp3
  clear hp3
  go_enter Tryd.func67, Tryd.ntmps67
  go_wp2_with (first
    | ((with_reducible show wpList _ _ _ _ _ _); refine wpList_box_at rfl 38 (.tmp 0) rfl (st9 7 nm (ex5 op t b enm (.slice ea n3 ec)) (.slice a1 n1 c1) (.slice a2 n2 c2)) rfl ?_; intro w1 hA hbb hs1; clear hs1; refine Hid.out ?_))
  refine hidU ?_
  obtain ⟨q0, q1, q2, q3, q4, q5, q6, q7, q8⟩ := st_cells hA
  cases p1 with
  | false =>
    go_wp2_with fail
    go_ret
    exact ⟨by rw [hR.out]; rfl, hbb⟩
  | true =>
    go_wp2_with fail
    refine (Hp2.out _ hbb).mono ?_
    rintro r w2 ⟨rfl, hb2⟩
    have hA2 := hA.below hb2
    have hbb2 := hbb.trans (hb2.mono hbb.size)
    clear hA hbb hb2 q0 q1 q2 q3 q4 q5 q6 q7 q8
    obtain ⟨q0, q1, q2, q3, q4, q5, q6, q7, q8⟩ := st_cells hA2
    have hA := hA2
    have hbb := hbb2
    clear hA2 hbb2
    cases p2 with
    | false =>
      go_wp2_with fail
      go_ret
      exact ⟨by rw [hR.out]; rfl, hbb⟩
    | true =>
      go_wp2_with fail
      refine (Hp3.out _ hbb).mono ?_
      rintro r w3 ⟨rfl, hb3⟩
      have hA3 := hA.below hb3
      have hbb3 := hbb.trans (hb3.mono hbb.size)
      clear hA hbb hb3 q0 q1 q2 q3 q4 q5 q6 q7 q8
      obtain ⟨q0, q1, q2, q3, q4, q5, q6, q7, q8⟩ := st_cells hA3
      have hA := hA3
      have hbb := hbb3
      clear hA3 hbb3
      go_wp2_with fail
      go_ret
      exact ⟨by rw [hR.out]; rfl, hbb⟩

set_option maxRecDepth 100000 in
set_option maxHeartbeats 3200000 in
theorem mayS_no (h : ¬ (1 ≤ k ∧ k ≤ 7)) :
    Calls Tryd.prog 67 #[.agg (st9 k nm (ex5 op t b enm (.slice ea n3 ec)) (.slice a1 n1 c1) (.slice a2 n2 c2)).toArray, .int .i64 (d : Int)] w fun r w' => r = .returned (.bool false) ∧ Below w.heap.size w w' := by
  have e1 : (k == 1) = false := by rw [beq_eq_false_iff_ne]; omega
  have e2 : (k == 2) = false := by rw [beq_eq_false_iff_ne]; omega
  have e3 : (k == 3) = false := by rw [beq_eq_false_iff_ne]; omega
  have e4 : (k == 4) = false := by rw [beq_eq_false_iff_ne]; omega
  have e5 : (k == 5) = false := by rw [beq_eq_false_iff_ne]; omega
  have e6 : (k == 6) = false := by rw [beq_eq_false_iff_ne]; omega
  have e7 : (k == 7) = false := by rw [beq_eq_false_iff_ne]; omega
  clear h
  go_enter Tryd.func67, Tryd.ntmps67
  go_wp2_with (first
    | ((with_reducible show wpList _ _ _ _ _ _); refine wpList_box_at rfl 38 (.tmp 0) rfl (st9 k nm (ex5 op t b enm (.slice ea n3 ec)) (.slice a1 n1 c1) (.slice a2 n2 c2)) rfl ?_; intro w1 hA hbb hs1; clear hs1; refine Hid.out ?_))
  refine hidU ?_
  obtain ⟨q0, q1, q2, q3, q4, q5, q6, q7, q8⟩ := st_cells hA
  go_wp2_with fail
  go_ret
  exact ⟨rfl, hbb⟩
end

end Go.Proofs.YtcmahiphfpgadaaDoor
