/- Joined texts of the proof. -/
import Derived.Test.YtcmahiphfpgadaaGreatDoorJ10

/- Whether a statement may be printed: all kinds. -/
namespace Go.Proofs.YtcmahiphfpgadaaGreatDoor
open Go.RowKit
set_option linter.unusedVariables false

theorem ST.sz1 {k : Int} {nm : ByteArray} {e : ET} {a1 a2 : Option Addr} {c1 c2 : Nat} {body els : List ST} {x : ST} (h : x ∈ body) : SizeOf.sizeOf x < SizeOf.sizeOf (ST.mk k nm e a1 c1 body a2 c2 els) := by
  have := List.sizeOf_lt_of_mem h
  simp only [ST.mk.sizeOf_spec]
  omega
theorem ST.sz2 {k : Int} {nm : ByteArray} {e : ET} {a1 a2 : Option Addr} {c1 c2 : Nat} {body els : List ST} {x : ST} (h : x ∈ els) : SizeOf.sizeOf x < SizeOf.sizeOf (ST.mk k nm e a1 c1 body a2 c2 els) := by
  have := List.sizeOf_lt_of_mem h
  simp only [ST.mk.sizeOf_spec]
  omega

section
variable (B : Nat) (w : World) (k : Int) (nm : ByteArray) (op t b : Nat) (enm : ByteArray) (ea a1 a2 : Option Addr) (n1 n2 n3 c1 c2 ec : Nat) (d : Nat) (R : Bool)

/-- What the parts of a statement are asked. -/
def AskB (C : Nat) (args : Array Value) (p : Bool) : Prop := ∀ w', Below w.heap.size w w' → Calls Tryz.prog C args w' fun r w'' => r = .returned (.bool p) ∧ Below w'.heap.size w' w''

set_option maxRecDepth 100000 in
set_option maxHeartbeats 3200000 in
theorem mayS_1 (p1 p2 p3 : Bool) (hp1 : AskB w 68 #[.string nm] p1) (hp2 : AskB w 37 #[.agg (ex5 op t b enm (.slice ea n3 ec)).toArray, .int .i64 32] p2) (hp3 : AskB w 142 #[.agg (st9 1 nm (ex5 op t b enm (.slice ea n3 ec)) (.slice a1 n1 c1) (.slice a2 n2 c2)).toArray] p3) (hd : d ≤ 32) :
    Calls Tryz.prog 124 #[.agg (st9 1 nm (ex5 op t b enm (.slice ea n3 ec)) (.slice a1 n1 c1) (.slice a2 n2 c2)).toArray, .int .i64 (d : Int)] w fun r w' => r = .returned (.bool (p1 && (p2 && p3))) ∧ Below w.heap.size w w' := by
  obtain ⟨R, hR⟩ : ∃ R, Hid (R = (p1 && (p2 && p3))) := ⟨_, (rfl : _ = (p1 && (p2 && p3)))⟩
  rw [← hR.out]
  have Hp1 : Hid (AskB w 68 #[.string nm] p1) := hp1
  clear hp1
  have Hp2 : Hid (AskB w 37 #[.agg (ex5 op t b enm (.slice ea n3 ec)).toArray, .int .i64 32] p2) := hp2
  clear hp2
  have Hp3 : Hid (AskB w 142 #[.agg (st9 1 nm (ex5 op t b enm (.slice ea n3 ec)) (.slice a1 n1 c1) (.slice a2 n2 c2)).toArray] p3) := hp3
  clear hp3
  go_enter Tryz.func124, Tryz.ntmps124
  go_wp2_with (first
    | ((with_reducible show wpList _ _ _ _ _ _); refine wpList_box_at rfl 87 (.tmp 0) rfl (st9 1 nm (ex5 op t b enm (.slice ea n3 ec)) (.slice a1 n1 c1) (.slice a2 n2 c2)) rfl ?_; intro w1 hA hbb hs1; clear hs1; refine Hid.out ?_))
  refine hidU ?_
  obtain ⟨q0, q1, q2, q3, q4, q5, q6, q7, q8⟩ := st_cells hA
  go_wp2_with fail
  refine (Hp1.out _ hbb).mono ?_
  rintro r w2 ⟨rfl, hb2⟩
  have hA2 := hA.below hb2
  have hbb2 := hbb.trans (hb2.mono hbb.size)
  clear hA hbb hb2 q0 q1 q2 q3 q4 q5 q6 q7 q8
  obtain ⟨q0, q1, q2, q3, q4, q5, q6, q7, q8⟩ := st_cells hA2
  have hA := hA2
  have hbb := hbb2
  clear hA2 hbb2
  cases p1 with
  | false =>
    go_wp2_with fail
    go_ret
    exact ⟨by rw [hR.out]; rfl, hbb⟩
  | true =>
    go_wp2_with fail
    refine (Hp2.out _ hbb).mono ?_
    rintro r w3 ⟨rfl, hb3⟩
    have hA3 := hA.below hb3
    have hbb3 := hbb.trans (hb3.mono hbb.size)
    clear hA hbb hb3 q0 q1 q2 q3 q4 q5 q6 q7 q8
    obtain ⟨q0, q1, q2, q3, q4, q5, q6, q7, q8⟩ := st_cells hA3
    have hA := hA3
    have hbb := hbb3
    clear hA3 hbb3
    cases p2 with
    | false =>
      go_wp2_with fail
      go_ret
      exact ⟨by rw [hR.out]; rfl, hbb⟩
    | true =>
      go_wp2_with fail
      refine (Hp3.out _ hbb).mono ?_
      rintro r w4 ⟨rfl, hb4⟩
      have hA4 := hA.below hb4
      have hbb4 := hbb.trans (hb4.mono hbb.size)
      clear hA hbb hb4 q0 q1 q2 q3 q4 q5 q6 q7 q8
      obtain ⟨q0, q1, q2, q3, q4, q5, q6, q7, q8⟩ := st_cells hA4
      have hA := hA4
      have hbb := hbb4
      clear hA4 hbb4
      go_wp2_with fail
      go_ret
      exact ⟨by rw [hR.out]; rfl, hbb⟩

set_option maxRecDepth 100000 in
set_option maxHeartbeats 3200000 in
theorem mayS_2 (p1 p2 p3 : Bool) (hp1 : AskB w 68 #[.string nm] p1) (hp2 : AskB w 143 #[.agg (ex5 op t b enm (.slice ea n3 ec)).toArray] p2) (hp3 : AskB w 142 #[.agg (st9 2 nm (ex5 op t b enm (.slice ea n3 ec)) (.slice a1 n1 c1) (.slice a2 n2 c2)).toArray] p3) (hd : d ≤ 32) :
    Calls Tryz.prog 124 #[.agg (st9 2 nm (ex5 op t b enm (.slice ea n3 ec)) (.slice a1 n1 c1) (.slice a2 n2 c2)).toArray, .int .i64 (d : Int)] w fun r w' => r = .returned (.bool (p1 && (p2 && p3))) ∧ Below w.heap.size w w' := by
  obtain ⟨R, hR⟩ : ∃ R, Hid (R = (p1 && (p2 && p3))) := ⟨_, (rfl : _ = (p1 && (p2 && p3)))⟩
  rw [← hR.out]
  have Hp1 : Hid (AskB w 68 #[.string nm] p1) := hp1
  clear hp1
  have Hp2 : Hid (AskB w 143 #[.agg (ex5 op t b enm (.slice ea n3 ec)).toArray] p2) := hp2
  clear hp2
  have Hp3 : Hid (AskB w 142 #[.agg (st9 2 nm (ex5 op t b enm (.slice ea n3 ec)) (.slice a1 n1 c1) (.slice a2 n2 c2)).toArray] p3) := hp3
  clear hp3
  go_enter Tryz.func124, Tryz.ntmps124
  go_wp2_with (first
    | ((with_reducible show wpList _ _ _ _ _ _); refine wpList_box_at rfl 87 (.tmp 0) rfl (st9 2 nm (ex5 op t b enm (.slice ea n3 ec)) (.slice a1 n1 c1) (.slice a2 n2 c2)) rfl ?_; intro w1 hA hbb hs1; clear hs1; refine Hid.out ?_))
  refine hidU ?_
  obtain ⟨q0, q1, q2, q3, q4, q5, q6, q7, q8⟩ := st_cells hA
  go_wp2_with fail
  refine (Hp1.out _ hbb).mono ?_
  rintro r w2 ⟨rfl, hb2⟩
  have hA2 := hA.below hb2
  have hbb2 := hbb.trans (hb2.mono hbb.size)
  clear hA hbb hb2 q0 q1 q2 q3 q4 q5 q6 q7 q8
  obtain ⟨q0, q1, q2, q3, q4, q5, q6, q7, q8⟩ := st_cells hA2
  have hA := hA2
  have hbb := hbb2
  clear hA2 hbb2
  cases p1 with
  | false =>
    go_wp2_with fail
    go_ret
    exact ⟨by rw [hR.out]; rfl, hbb⟩
  | true =>
    go_wp2_with fail
    refine (Hp2.out _ hbb).mono ?_
    rintro r w3 ⟨rfl, hb3⟩
    have hA3 := hA.below hb3
    have hbb3 := hbb.trans (hb3.mono hbb.size)
    clear hA hbb hb3 q0 q1 q2 q3 q4 q5 q6 q7 q8
    obtain ⟨q0, q1, q2, q3, q4, q5, q6, q7, q8⟩ := st_cells hA3
    have hA := hA3
    have hbb := hbb3
    clear hA3 hbb3
    cases p2 with
    | false =>
      go_wp2_with fail
      go_ret
      exact ⟨by rw [hR.out]; rfl, hbb⟩
    | true =>
      go_wp2_with fail
      refine (Hp3.out _ hbb).mono ?_
      rintro r w4 ⟨rfl, hb4⟩
      have hA4 := hA.below hb4
      have hbb4 := hbb.trans (hb4.mono hbb.size)
      clear hA hbb hb4 q0 q1 q2 q3 q4 q5 q6 q7 q8
      obtain ⟨q0, q1, q2, q3, q4, q5, q6, q7, q8⟩ := st_cells hA4
      have hA := hA4
      have hbb := hbb4
      clear hA4 hbb4
      go_wp2_with fail
      go_ret
      exact ⟨by rw [hR.out]; rfl, hbb⟩

set_option maxRecDepth 100000 in
set_option maxHeartbeats 3200000 in
theorem mayS_3 (p1 p2 p3 : Bool) (hp1 : AskB w 68 #[.string nm] p1) (hp2 : AskB w 143 #[.agg (ex5 op t b enm (.slice ea n3 ec)).toArray] p2) (hp3 : AskB w 142 #[.agg (st9 3 nm (ex5 op t b enm (.slice ea n3 ec)) (.slice a1 n1 c1) (.slice a2 n2 c2)).toArray] p3) (hd : d ≤ 32) :
    Calls Tryz.prog 124 #[.agg (st9 3 nm (ex5 op t b enm (.slice ea n3 ec)) (.slice a1 n1 c1) (.slice a2 n2 c2)).toArray, .int .i64 (d : Int)] w fun r w' => r = .returned (.bool (p1 && (p2 && p3))) ∧ Below w.heap.size w w' := by
  obtain ⟨R, hR⟩ : ∃ R, Hid (R = (p1 && (p2 && p3))) := ⟨_, (rfl : _ = (p1 && (p2 && p3)))⟩
  rw [← hR.out]
  have Hp1 : Hid (AskB w 68 #[.string nm] p1) := hp1
  clear hp1
  have Hp2 : Hid (AskB w 143 #[.agg (ex5 op t b enm (.slice ea n3 ec)).toArray] p2) := hp2
  clear hp2
  have Hp3 : Hid (AskB w 142 #[.agg (st9 3 nm (ex5 op t b enm (.slice ea n3 ec)) (.slice a1 n1 c1) (.slice a2 n2 c2)).toArray] p3) := hp3
  clear hp3
  go_enter Tryz.func124, Tryz.ntmps124
  go_wp2_with (first
    | ((with_reducible show wpList _ _ _ _ _ _); refine wpList_box_at rfl 87 (.tmp 0) rfl (st9 3 nm (ex5 op t b enm (.slice ea n3 ec)) (.slice a1 n1 c1) (.slice a2 n2 c2)) rfl ?_; intro w1 hA hbb hs1; clear hs1; refine Hid.out ?_))
  refine hidU ?_
  obtain ⟨q0, q1, q2, q3, q4, q5, q6, q7, q8⟩ := st_cells hA
  go_wp2_with fail
  refine (Hp1.out _ hbb).mono ?_
  rintro r w2 ⟨rfl, hb2⟩
  have hA2 := hA.below hb2
  have hbb2 := hbb.trans (hb2.mono hbb.size)
  clear hA hbb hb2 q0 q1 q2 q3 q4 q5 q6 q7 q8
  obtain ⟨q0, q1, q2, q3, q4, q5, q6, q7, q8⟩ := st_cells hA2
  have hA := hA2
  have hbb := hbb2
  clear hA2 hbb2
  cases p1 with
  | false =>
    go_wp2_with fail
    go_ret
    exact ⟨by rw [hR.out]; rfl, hbb⟩
  | true =>
    go_wp2_with fail
    refine (Hp2.out _ hbb).mono ?_
    rintro r w3 ⟨rfl, hb3⟩
    have hA3 := hA.below hb3
    have hbb3 := hbb.trans (hb3.mono hbb.size)
    clear hA hbb hb3 q0 q1 q2 q3 q4 q5 q6 q7 q8
    obtain ⟨q0, q1, q2, q3, q4, q5, q6, q7, q8⟩ := st_cells hA3
    have hA := hA3
    have hbb := hbb3
    clear hA3 hbb3
    cases p2 with
    | false =>
      go_wp2_with fail
      go_ret
      exact ⟨by rw [hR.out]; rfl, hbb⟩
    | true =>
      go_wp2_with fail
      refine (Hp3.out _ hbb).mono ?_
      rintro r w4 ⟨rfl, hb4⟩
      have hA4 := hA.below hb4
      have hbb4 := hbb.trans (hb4.mono hbb.size)
      clear hA hbb hb4 q0 q1 q2 q3 q4 q5 q6 q7 q8
      obtain ⟨q0, q1, q2, q3, q4, q5, q6, q7, q8⟩ := st_cells hA4
      have hA := hA4
      have hbb := hbb4
      clear hA4 hbb4
      go_wp2_with fail
      go_ret
      exact ⟨by rw [hR.out]; rfl, hbb⟩

set_option maxRecDepth 100000 in
set_option maxHeartbeats 3200000 in
theorem mayS_4 (p1 p2 p3 : Bool) (hp1 : nm.toList.isEmpty = p1) (hp2 : AskB w 37 #[.agg (ex5 op t b enm (.slice ea n3 ec)).toArray, .int .i64 32] p2) (hp3 : AskB w 142 #[.agg (st9 4 nm (ex5 op t b enm (.slice ea n3 ec)) (.slice a1 n1 c1) (.slice a2 n2 c2)).toArray] p3) (hd : d ≤ 32) :
    Calls Tryz.prog 124 #[.agg (st9 4 nm (ex5 op t b enm (.slice ea n3 ec)) (.slice a1 n1 c1) (.slice a2 n2 c2)).toArray, .int .i64 (d : Int)] w fun r w' => r = .returned (.bool (p1 && (p2 && p3))) ∧ Below w.heap.size w w' := by
  obtain ⟨R, hR⟩ : ∃ R, Hid (R = (p1 && (p2 && p3))) := ⟨_, (rfl : _ = (p1 && (p2 && p3)))⟩
  rw [← hR.out]
  have Hp2 : Hid (AskB w 37 #[.agg (ex5 op t b enm (.slice ea n3 ec)).toArray, .int .i64 32] p2) := hp2
  clear hp2
  have Hp3 : Hid (AskB w 142 #[.agg (st9 4 nm (ex5 op t b enm (.slice ea n3 ec)) (.slice a1 n1 c1) (.slice a2 n2 c2)).toArray] p3) := hp3
  clear hp3
  go_enter Tryz.func124, Tryz.ntmps124
  go_wp2_with (first
    | ((with_reducible show wpList _ _ _ _ _ _); refine wpList_box_at rfl 87 (.tmp 0) rfl (st9 4 nm (ex5 op t b enm (.slice ea n3 ec)) (.slice a1 n1 c1) (.slice a2 n2 c2)) rfl ?_; intro w1 hA hbb hs1; clear hs1; refine Hid.out ?_))
  refine hidU ?_
  obtain ⟨q0, q1, q2, q3, q4, q5, q6, q7, q8⟩ := st_cells hA
  cases p1 with
  | false =>
    go_wp2_with fail
    go_ret
    exact ⟨by rw [hR.out]; rfl, hbb⟩
  | true =>
    go_wp2_with fail
    refine (Hp2.out _ hbb).mono ?_
    rintro r w2 ⟨rfl, hb2⟩
    have hA2 := hA.below hb2
    have hbb2 := hbb.trans (hb2.mono hbb.size)
    clear hA hbb hb2 q0 q1 q2 q3 q4 q5 q6 q7 q8
    obtain ⟨q0, q1, q2, q3, q4, q5, q6, q7, q8⟩ := st_cells hA2
    have hA := hA2
    have hbb := hbb2
    clear hA2 hbb2
    cases p2 with
    | false =>
      go_wp2_with fail
      go_ret
      exact ⟨by rw [hR.out]; rfl, hbb⟩
    | true =>
      go_wp2_with fail
      refine (Hp3.out _ hbb).mono ?_
      rintro r w3 ⟨rfl, hb3⟩
      have hA3 := hA.below hb3
      have hbb3 := hbb.trans (hb3.mono hbb.size)
      clear hA hbb hb3 q0 q1 q2 q3 q4 q5 q6 q7 q8
      obtain ⟨q0, q1, q2, q3, q4, q5, q6, q7, q8⟩ := st_cells hA3
      have hA := hA3
      have hbb := hbb3
      clear hA3 hbb3
      go_wp2_with fail
      go_ret
      exact ⟨by rw [hR.out]; rfl, hbb⟩

set_option maxRecDepth 100000 in
set_option maxHeartbeats 3200000 in
theorem mayS_5 (p1 p2 p3 p4 : Bool) (hp1 : nm.toList.isEmpty = p1) (hp2 : AskB w 37 #[.agg (ex5 op t b enm (.slice ea n3 ec)).toArray, .int .i64 32] p2) (hp3 : AskB w 97 #[.slice a1 n1 c1, .int .i64 ((d : Int) + 1)] p3) (hp4 : AskB w 97 #[.slice a2 n2 c2, .int .i64 ((d : Int) + 1)] p4) (hd : d ≤ 32) :
    Calls Tryz.prog 124 #[.agg (st9 5 nm (ex5 op t b enm (.slice ea n3 ec)) (.slice a1 n1 c1) (.slice a2 n2 c2)).toArray, .int .i64 (d : Int)] w fun r w' => r = .returned (.bool (p1 && (p2 && (p3 && p4)))) ∧ Below w.heap.size w w' := by
  obtain ⟨R, hR⟩ : ∃ R, Hid (R = (p1 && (p2 && (p3 && p4)))) := ⟨_, (rfl : _ = (p1 && (p2 && (p3 && p4))))⟩
  rw [← hR.out]
  have Hp2 : Hid (AskB w 37 #[.agg (ex5 op t b enm (.slice ea n3 ec)).toArray, .int .i64 32] p2) := hp2
  clear hp2
  have Hp3 : Hid (AskB w 97 #[.slice a1 n1 c1, .int .i64 ((d : Int) + 1)] p3) := hp3
  clear hp3
  have Hp4 : Hid (AskB w 97 #[.slice a2 n2 c2, .int .i64 ((d : Int) + 1)] p4) := hp4
  clear hp4
  go_enter Tryz.func124, Tryz.ntmps124
  go_wp2_with (first
    | ((with_reducible show wpList _ _ _ _ _ _); refine wpList_box_at rfl 87 (.tmp 0) rfl (st9 5 nm (ex5 op t b enm (.slice ea n3 ec)) (.slice a1 n1 c1) (.slice a2 n2 c2)) rfl ?_; intro w1 hA hbb hs1; clear hs1; refine Hid.out ?_))
  refine hidU ?_
  obtain ⟨q0, q1, q2, q3, q4, q5, q6, q7, q8⟩ := st_cells hA
  cases p1 with
  | false =>
    go_wp2_with fail
    go_ret
    exact ⟨by rw [hR.out]; rfl, hbb⟩
  | true =>
    go_wp2_with fail
    refine (Hp2.out _ hbb).mono ?_
    rintro r w2 ⟨rfl, hb2⟩
    have hA2 := hA.below hb2
    have hbb2 := hbb.trans (hb2.mono hbb.size)
    clear hA hbb hb2 q0 q1 q2 q3 q4 q5 q6 q7 q8
    obtain ⟨q0, q1, q2, q3, q4, q5, q6, q7, q8⟩ := st_cells hA2
    have hA := hA2
    have hbb := hbb2
    clear hA2 hbb2
    cases p2 with
    | false =>
      go_wp2_with fail
      go_ret
      exact ⟨by rw [hR.out]; rfl, hbb⟩
    | true =>
      go_wp2_with fail
      refine (Hp3.out _ hbb).mono ?_
      rintro r w3 ⟨rfl, hb3⟩
      have hA3 := hA.below hb3
      have hbb3 := hbb.trans (hb3.mono hbb.size)
      clear hA hbb hb3 q0 q1 q2 q3 q4 q5 q6 q7 q8
      obtain ⟨q0, q1, q2, q3, q4, q5, q6, q7, q8⟩ := st_cells hA3
      have hA := hA3
      have hbb := hbb3
      clear hA3 hbb3
      cases p3 with
      | false =>
        go_wp2_with fail
        go_ret
        exact ⟨by rw [hR.out]; rfl, hbb⟩
      | true =>
        go_wp2_with fail
        refine (Hp4.out _ hbb).mono ?_
        rintro r w4 ⟨rfl, hb4⟩
        have hA4 := hA.below hb4
        have hbb4 := hbb.trans (hb4.mono hbb.size)
        clear hA hbb hb4 q0 q1 q2 q3 q4 q5 q6 q7 q8
        obtain ⟨q0, q1, q2, q3, q4, q5, q6, q7, q8⟩ := st_cells hA4
        have hA := hA4
        have hbb := hbb4
        clear hA4 hbb4
        go_wp2_with fail
        go_ret
        exact ⟨by rw [hR.out]; rfl, hbb⟩

set_option maxRecDepth 100000 in
set_option maxHeartbeats 3200000 in
theorem mayS_6 (p1 p2 p3 p4 : Bool) (hp1 : nm.toList.isEmpty = p1) (hp2 : AskB w 37 #[.agg (ex5 op t b enm (.slice ea n3 ec)).toArray, .int .i64 32] p2) (hp3 : AskB w 97 #[.slice a1 n1 c1, .int .i64 ((d : Int) + 1)] p3) (hp4 : decide (n2 = 0) = p4) (hd : d ≤ 32) :
    Calls Tryz.prog 124 #[.agg (st9 6 nm (ex5 op t b enm (.slice ea n3 ec)) (.slice a1 n1 c1) (.slice a2 n2 c2)).toArray, .int .i64 (d : Int)] w fun r w' => r = .returned (.bool (p1 && (p2 && (p3 && p4)))) ∧ Below w.heap.size w w' := by
  obtain ⟨R, hR⟩ : ∃ R, Hid (R = (p1 && (p2 && (p3 && p4)))) := ⟨_, (rfl : _ = (p1 && (p2 && (p3 && p4))))⟩
  rw [← hR.out]
  have Hp2 : Hid (AskB w 37 #[.agg (ex5 op t b enm (.slice ea n3 ec)).toArray, .int .i64 32] p2) := hp2
  clear hp2
  have Hp3 : Hid (AskB w 97 #[.slice a1 n1 c1, .int .i64 ((d : Int) + 1)] p3) := hp3
  clear hp3
  go_enter Tryz.func124, Tryz.ntmps124
  go_wp2_with (first
    | ((with_reducible show wpList _ _ _ _ _ _); refine wpList_box_at rfl 87 (.tmp 0) rfl (st9 6 nm (ex5 op t b enm (.slice ea n3 ec)) (.slice a1 n1 c1) (.slice a2 n2 c2)) rfl ?_; intro w1 hA hbb hs1; clear hs1; refine Hid.out ?_))
  refine hidU ?_
  obtain ⟨q0, q1, q2, q3, q4, q5, q6, q7, q8⟩ := st_cells hA
  cases p1 with
  | false =>
    go_wp2_with fail
    go_ret
    exact ⟨by rw [hR.out]; rfl, hbb⟩
  | true =>
    go_wp2_with fail
    refine (Hp2.out _ hbb).mono ?_
    rintro r w2 ⟨rfl, hb2⟩
    have hA2 := hA.below hb2
    have hbb2 := hbb.trans (hb2.mono hbb.size)
    clear hA hbb hb2 q0 q1 q2 q3 q4 q5 q6 q7 q8
    obtain ⟨q0, q1, q2, q3, q4, q5, q6, q7, q8⟩ := st_cells hA2
    have hA := hA2
    have hbb := hbb2
    clear hA2 hbb2
    cases p2 with
    | false =>
      go_wp2_with fail
      go_ret
      exact ⟨by rw [hR.out]; rfl, hbb⟩
    | true =>
      go_wp2_with fail
      refine (Hp3.out _ hbb).mono ?_
      rintro r w3 ⟨rfl, hb3⟩
      have hA3 := hA.below hb3
      have hbb3 := hbb.trans (hb3.mono hbb.size)
      clear hA hbb hb3 q0 q1 q2 q3 q4 q5 q6 q7 q8
      obtain ⟨q0, q1, q2, q3, q4, q5, q6, q7, q8⟩ := st_cells hA3
      have hA := hA3
      have hbb := hbb3
      clear hA3 hbb3
      cases p3 with
      | false =>
        go_wp2_with fail
        go_ret
        exact ⟨by rw [hR.out]; rfl, hbb⟩
      | true =>
        by_cases hn2 : n2 = 0
        · subst hn2
          have : p4 = true := by rw [← hp4]; rfl
          subst this
          clear hp4
          go_wp2_with fail
          go_ret
          exact ⟨by rw [hR.out]; rfl, hbb⟩
        · have e2 : ((n2 : Int) == 0) = false := by rw [beq_eq_false_iff_ne]; omega
          have : p4 = false := by rw [← hp4]; exact decide_eq_false hn2
          subst this
          clear hp4 hn2
          go_wp2_with fail
          go_ret
          exact ⟨by rw [hR.out]; rfl, hbb⟩

set_option maxRecDepth 100000 in
set_option maxHeartbeats 3200000 in
theorem mayS_7 (p1 p2 p3 : Bool) (hp1 : nm.toList.isEmpty = p1) (hp2 : AskB w 143 #[.agg (ex5 op t b enm (.slice ea n3 ec)).toArray] p2) (hp3 : AskB w 142 #[.agg (st9 7 nm (ex5 op t b enm (.slice ea n3 ec)) (.slice a1 n1 c1) (.slice a2 n2 c2)).toArray] p3) (hd : d ≤ 32) :
    Calls Tryz.prog 124 #[.agg (st9 7 nm (ex5 op t b enm (.slice ea n3 ec)) (.slice a1 n1 c1) (.slice a2 n2 c2)).toArray, .int .i64 (d : Int)] w fun r w' => r = .returned (.bool (p1 && (p2 && p3))) ∧ Below w.heap.size w w' := by
  obtain ⟨R, hR⟩ : ∃ R, Hid (R = (p1 && (p2 && p3))) := ⟨_, (rfl : _ = (p1 && (p2 && p3)))⟩
  rw [← hR.out]
  have Hp2 : Hid (AskB w 143 #[.agg (ex5 op t b enm (.slice ea n3 ec)).toArray] p2) := hp2
  clear hp2
  have Hp3 : Hid (AskB w 142 #[.agg (st9 7 nm (ex5 op t b enm (.slice ea n3 ec)) (.slice a1 n1 c1) (.slice a2 n2 c2)).toArray] p3) := hp3
  clear hp3
  go_enter Tryz.func124, Tryz.ntmps124
  go_wp2_with (first
    | ((with_reducible show wpList _ _ _ _ _ _); refine wpList_box_at rfl 87 (.tmp 0) rfl (st9 7 nm (ex5 op t b enm (.slice ea n3 ec)) (.slice a1 n1 c1) (.slice a2 n2 c2)) rfl ?_; intro w1 hA hbb hs1; clear hs1; refine Hid.out ?_))
  refine hidU ?_
  obtain ⟨q0, q1, q2, q3, q4, q5, q6, q7, q8⟩ := st_cells hA
  cases p1 with
  | false =>
    go_wp2_with fail
    go_ret
    exact ⟨by rw [hR.out]; rfl, hbb⟩
  | true =>
    go_wp2_with fail
    refine (Hp2.out _ hbb).mono ?_
    rintro r w2 ⟨rfl, hb2⟩
    have hA2 := hA.below hb2
    have hbb2 := hbb.trans (hb2.mono hbb.size)
    clear hA hbb hb2 q0 q1 q2 q3 q4 q5 q6 q7 q8
    obtain ⟨q0, q1, q2, q3, q4, q5, q6, q7, q8⟩ := st_cells hA2
    have hA := hA2
    have hbb := hbb2
    clear hA2 hbb2
    cases p2 with
    | false =>
      go_wp2_with fail
      go_ret
      exact ⟨by rw [hR.out]; rfl, hbb⟩
    | true =>
      go_wp2_with fail
      refine (Hp3.out _ hbb).mono ?_
      rintro r w3 ⟨rfl, hb3⟩
      have hA3 := hA.below hb3
      have hbb3 := hbb.trans (hb3.mono hbb.size)
      clear hA hbb hb3 q0 q1 q2 q3 q4 q5 q6 q7 q8
      obtain ⟨q0, q1, q2, q3, q4, q5, q6, q7, q8⟩ := st_cells hA3
      have hA := hA3
      have hbb := hbb3
      clear hA3 hbb3
      go_wp2_with fail
      go_ret
      exact ⟨by rw [hR.out]; rfl, hbb⟩

set_option maxRecDepth 100000 in
set_option maxHeartbeats 3200000 in
theorem mayS_no (h : ¬ (1 ≤ k ∧ k ≤ 7)) :
    Calls Tryz.prog 124 #[.agg (st9 k nm (ex5 op t b enm (.slice ea n3 ec)) (.slice a1 n1 c1) (.slice a2 n2 c2)).toArray, .int .i64 (d : Int)] w fun r w' => r = .returned (.bool false) ∧ Below w.heap.size w w' := by
  have e1 : (k == 1) = false := by rw [beq_eq_false_iff_ne]; omega
  have e2 : (k == 2) = false := by rw [beq_eq_false_iff_ne]; omega
  have e3 : (k == 3) = false := by rw [beq_eq_false_iff_ne]; omega
  have e4 : (k == 4) = false := by rw [beq_eq_false_iff_ne]; omega
  have e5 : (k == 5) = false := by rw [beq_eq_false_iff_ne]; omega
  have e6 : (k == 6) = false := by rw [beq_eq_false_iff_ne]; omega
  have e7 : (k == 7) = false := by rw [beq_eq_false_iff_ne]; omega
  clear h
  go_enter Tryz.func124, Tryz.ntmps124
  go_wp2_with (first
    | ((with_reducible show wpList _ _ _ _ _ _); refine wpList_box_at rfl 87 (.tmp 0) rfl (st9 k nm (ex5 op t b enm (.slice ea n3 ec)) (.slice a1 n1 c1) (.slice a2 n2 c2)) rfl ?_; intro w1 hA hbb hs1; clear hs1; refine Hid.out ?_))
  refine hidU ?_
  obtain ⟨q0, q1, q2, q3, q4, q5, q6, q7, q8⟩ := st_cells hA
  go_wp2_with fail
  go_ret
  exact ⟨rfl, hbb⟩
end

end Go.Proofs.YtcmahiphfpgadaaGreatDoor

/- Whether a statement may be printed. -/
namespace Go.Proofs.YtcmahiphfpgadaaGreatDoor
open Go.RowKit
set_option linter.unusedVariables false

theorem sts_empty (l : List ST) : (ST.sts l).isEmpty = decide (l.length = 0) := by
  cases l with
  | nil => rfl
  | cons x r => simp [ST.sts]

theorem mayStmt_any (B : Nat) (N : Nat) : ∀ s : ST, SizeOf.sizeOf s < N → MayW B s := by
  induction N with
  | zero => intro s h; omega
  | succ N ih =>
    rintro ⟨k, nm, ⟨op, t, b, enm, ea, ec, eks⟩, a1, c1, body, a2, c2, els⟩ hN d w hd hin hBw hT h16
    have i1 : ∀ s ∈ body, MayW B s := fun s hs => ih s (by have := ST.sz1 (k := k) (nm := nm) (e := .mk op t b enm ea ec eks) (a1 := a1) (a2 := a2) (c1 := c1) (c2 := c2) (els := els) hs; omega)
    have i2 : ∀ s ∈ els, MayW B s := fun s hs => ih s (by have := ST.sz2 (k := k) (nm := nm) (e := .mk op t b enm ea ec eks) (a1 := a1) (a2 := a2) (c1 := c1) (c2 := c2) (body := body) hs; omega)
    unfold ST.In at hin
    obtain ⟨hk, he, hb1, hb2⟩ := hin
    have hsz : ∀ w', Below w.heap.size w w' → B ≤ w'.heap.size ∧ gB ≤ w'.heap.size ∧ Tab w' ∧ Old B w w' := fun w' h => ⟨by have := h.size; omega, by have := h.size; omega, hT.below h h16, Old.of_below h hBw⟩
    have pN : AskB w 68 #[.string nm] (isNm nm.data.toList) := fun w' h => (name_any nm w').mono (by rintro r w2 ⟨rfl, rfl⟩; exact ⟨rfl, Below.refl _ _⟩)
    have pE : AskB w 37 #[.agg (ex5 op t b enm (.slice ea eks.length ec)).toArray, .int .i64 32] (mayE 32 (ET.mk op t b enm ea ec eks).ex) := fun w' h => mayExpr_any 32 (.mk op t b enm ea ec eks) w' B (by decide) (he.old (hsz w' h).2.2.2) (hsz w' h).1 (hsz w' h).2.2.1 (hsz w' h).2.1
    have pX : AskB w 143 #[.agg (ex5 op t b enm (.slice ea eks.length ec)).toArray] (samX (ET.mk op t b enm ea ec eks).ex noE) := fun w' h => noExpr_any B (.mk op t b enm ea ec eks) w' (he.old (hsz w' h).2.2.2) (hsz w' h).1
    have pQ : ∀ k, AskB w 142 #[.agg (st9 k nm (ex5 op t b enm (.slice ea eks.length ec)) (.slice a1 body.length c1) (.slice a2 els.length c2)).toArray] ((ST.sts body).isEmpty && (ST.sts els).isEmpty) := fun k w' h => by
      rw [sts_empty, sts_empty]
      exact noBlocks_any k nm op t b enm _ a1 a2 _ _ c1 c2 w'
    have p1 : AskB w 97 #[.slice a1 body.length c1, .int .i64 ((d : Int) + 1)] (mayB (d + 1) (ST.sts body)) := fun w' h => by
      rw [ST.sts_eq]
      exact mayBlock_of B body i1 (d + 1) (by omega) a1 c1 w' (RowS.old hb1 (hsz w' h).2.2.2) (hsz w' h).1 (hsz w' h).2.2.1 (hsz w' h).2.1
    have p2 : AskB w 97 #[.slice a2 els.length c2, .int .i64 ((d : Int) + 1)] (mayB (d + 1) (ST.sts els)) := fun w' h => by
      rw [ST.sts_eq]
      exact mayBlock_of B els i2 (d + 1) (by omega) a2 c2 w' (RowS.old hb2 (hsz w' h).2.2.2) (hsz w' h).1 (hsz w' h).2.2.1 (hsz w' h).2.1
    show Calls Tryz.prog 124 #[.agg (st9 k nm (ex5 op t b enm (.slice ea eks.length ec)) (.slice a1 body.length c1) (.slice a2 els.length c2)).toArray, .int .i64 (d : Int)] w fun r w' => r = .returned (.bool (mayS d (.mk k nm.data.toList (ET.mk op t b enm ea ec eks).ex (ST.sts body) (ST.sts els)))) ∧ Below w.heap.size w w'
    rw [mayS]
    by_cases h1 : k = 1
    · rw [if_pos h1]; subst h1
      exact mayS_1 w nm op t b enm ea a1 a2 _ _ _ c1 c2 ec d _ _ _ pN pE (pQ 1) hd
    rw [if_neg h1]
    by_cases h2 : k = 2
    · rw [if_pos (.inl h2)]; subst h2
      exact mayS_2 w nm op t b enm ea a1 a2 _ _ _ c1 c2 ec d _ _ _ pN pX (pQ 2) hd
    by_cases h3 : k = 3
    · rw [if_pos (.inr h3)]; subst h3
      exact mayS_3 w nm op t b enm ea a1 a2 _ _ _ c1 c2 ec d _ _ _ pN pX (pQ 3) hd
    rw [if_neg (by rintro (h | h); exact h2 h; exact h3 h)]
    by_cases h4 : k = 4
    · rw [if_pos h4]; subst h4
      exact mayS_4 w nm op t b enm ea a1 a2 _ _ _ c1 c2 ec d _ _ _ (emp nm) pE (pQ 4) hd
    rw [if_neg h4]
    by_cases h5 : k = 5
    · rw [if_pos h5]; subst h5
      exact mayS_5 w nm op t b enm ea a1 a2 _ _ _ c1 c2 ec d _ _ _ _ (emp nm) pE p1 p2 hd
    rw [if_neg h5]
    by_cases h6 : k = 6
    · rw [if_pos h6]; subst h6
      exact mayS_6 w nm op t b enm ea a1 a2 _ _ _ c1 c2 ec d _ _ _ _ (emp nm) pE p1 (sts_empty els).symm hd
    rw [if_neg h6]
    by_cases h7 : k = 7
    · rw [if_pos h7]; subst h7
      exact mayS_7 w nm op t b enm ea a1 a2 _ _ _ c1 c2 ec d _ _ _ (emp nm) pX (pQ 7) hd
    rw [if_neg h7]
    exact mayS_no w k nm op t b enm ea a1 a2 _ _ _ c1 c2 ec d (by omega)

/-- Whether a block may be printed. -/
theorem mayBlock_any (B : Nat) (ss : List ST) (d : Nat) (hd : d ≤ 33) (a : Option Addr) (c : Nat) (w : World) (hr : RowS B w a c ss) (hBw : B ≤ w.heap.size) (hT : Tab w) (h16 : gB ≤ w.heap.size) :
    Calls Tryz.prog 97 #[.slice a ss.length c, .int .i64 (d : Int)] w fun r w' => r = .returned (.bool (mayB d (ss.map ST.st))) ∧ Below w.heap.size w w' :=
  mayBlock_of B ss (fun s _ => mayStmt_any B (SizeOf.sizeOf s + 1) s (by omega)) d hd a c w hr hBw hT h16

end Go.Proofs.YtcmahiphfpgadaaGreatDoor
