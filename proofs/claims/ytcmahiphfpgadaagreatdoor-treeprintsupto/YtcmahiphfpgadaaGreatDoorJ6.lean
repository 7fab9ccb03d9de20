/- Joined texts of the proof. -/
import Derived.Test.YtcmahiphfpgadaaGreatDoorJ5

/- Whether a statement may be printed: all kinds. -/
namespace Go.Proofs.YtcmahiphfpgadaaGreatDoor
open Go.RowKit
set_option linter.unusedVariables false

theorem ST.sz1 {k : Int} {nm : ByteArray} {e : ET} {a1 a2 : Option Addr} {c1 c2 : Nat} {body els : List ST} {x : ST} (h : x ∈ body) : SizeOf.sizeOf x < SizeOf.sizeOf (ST.mk k nm e a1 c1 body a2 c2 els) := by
 have := List.sizeOf_lt_of_mem h
 simp only [ST.mk.sizeOf_spec]
 omega
theorem ST.sz2 {k : Int} {nm : ByteArray} {e : ET} {a1 a2 : Option Addr} {c1 c2 : Nat} {body els : List ST} {x : ST} (h : x ∈ els) : SizeOf.sizeOf x < SizeOf.sizeOf (ST.mk k nm e a1 c1 body a2 c2 els) := by
 have := List.sizeOf_lt_of_mem h
 simp only [ST.mk.sizeOf_spec]
 omega

section
variable (B : Nat) (w : World) (k : Int) (nm : ByteArray) (op t b : Nat) (enm : ByteArray) (ea a1 a2 : Option Addr) (n1 n2 n3 c1 c2 ec : Nat) (d : Nat) (R : Bool)

/-- What the parts of a statement are asked. -/
def AskB (C : Nat) (args : Array Value) (p : Bool) : Prop := ∀ w', Below w.heap.size w w' → Calls Tryz.prog C args w' fun r w'' => r = .returned (.bool p) ∧ Below w'.heap.size w' w''

set_option maxRecDepth 100000 in
set_option maxHeartbeats 3200000 in
theorem mayS_1 (p1 p2 p3 : Bool) (hp1 : AskB w 68 #[.string nm] p1) (hp2 : AskB w 37 #[.agg (ex5 op t b enm (.slice ea n3 ec)).toArray, .int .i64 32] p2) (hp3 : AskB w 142 #[.agg (st9 1 nm (ex5 op t b enm (.slice ea n3 ec)) (.slice a1 n1 c1) (.slice a2 n2 c2)).toArray] p3) (hd : d ≤ 32) :
  Calls Tryz.prog 124 #[.agg (st9 1 nm (ex5 op t b enm (.slice ea n3 ec)) (.slice a1 n1 c1) (.slice a2 n2 c2)).toArray, .int .i64 (d : Int)] w fun r w' => r = .returned (.bool (p1 && (p2 && p3))) ∧ Below w.heap.size w w' := by
 obtain ⟨R, hR⟩ : ∃ R, Hid (R = (p1 && (p2 && p3))) := ⟨_, (rfl : _ = (p1 && (p2 && p3)))⟩
 rw [← hR.out]
 have Hp1 : Hid (AskB w 68 #[.string nm] p1) := hp1
 clear hp1
 have Hp2 : Hid (AskB w 37 #[.agg (ex5 op t b enm (.slice ea n3 ec)).toArray, .int .i64 32] p2) := hp2
 clear hp2
 have Hp3 : Hid (AskB w 142 #[.agg (st9 1 nm (ex5 op t b enm (.slice ea n3 ec)) (.slice a1 n1 c1) (.slice a2 n2 c2)).toArray] p3) := hp3
 clear hp3
 go_enter Tryz.func124, Tryz.ntmps124
 go_wp2_with (first
  | ((with_reducible show wpList _ _ _ _ _ _); refine wpList_box_at rfl 87 (.tmp 0) rfl (st9 1 nm (ex5 op t b enm (.slice ea n3 ec)) (.slice a1 n1 c1) (.slice a2 n2 c2)) rfl ?_; intro w1 hA hbb hs1; clear hs1; refine Hid.out ?_))
 refine hidU ?_
 obtain ⟨q0, q1, q2, q3, q4, q5, q6, q7, q8⟩ := st_cells hA
 go_wp2_with fail
 refine (Hp1.out _ hbb).mono ?_
 rintro r w2 ⟨rfl, hb2⟩
 have hA2 := hA.below hb2
 have hbb2 := hbb.trans (hb2.mono hbb.size)
 clear hA hbb hb2 q0 q1 q2 q3 q4 q5 q6 q7 q8
 obtain ⟨q0, q1, q2, q3, q4, q5, q6, q7, q8⟩ := st_cells hA2
 have hA := hA2
 have hbb := hbb2
 clear hA2 hbb2
 cases p1 with
 | false =>
  go_wp2_with fail
  go_ret
  exact ⟨by rw [hR.out]; rfl, hbb⟩
 | true =>
  go_wp2_with fail
  refine (Hp2.out _ hbb).mono ?_
  rintro r w3 ⟨rfl, hb3⟩
  have hA3 := hA.below hb3
  have hbb3 := hbb.trans (hb3.mono hbb.size)
  clear hA hbb hb3 q0 q1 q2 q3 q4 q5 q6 q7 q8
  obtain ⟨q0, q1, q2, q3, q4, q5, q6, q7, q8⟩ := st_cells hA3
  have hA := hA3
  have hbb := hbb3
  clear hA3 hbb3
  cases p2 with
  | false =>
   go_wp2_with fail
   go_ret
   exact ⟨by rw [hR.out]; rfl, hbb⟩
  | true =>
   go_wp2_with fail
   refine (Hp3.out _ hbb).mono ?_
   rintro r w4 ⟨rfl, hb4⟩
   have hA4 := hA.below hb4
   have hbb4 := hbb.trans (hb4.mono hbb.size)
   clear hA hbb hb4 q0 q1 q2 q3 q4 q5 q6 q7 q8
   obtain ⟨q0, q1, q2, q3, q4, q5, q6, q7, q8⟩ := st_cells hA4
   have hA := hA4
   have hbb := hbb4
   clear hA4 hbb4
   go_wp2_with fail
   go_ret
   exact ⟨by rw [hR.out]; rfl, hbb⟩

set_option maxRecDepth 100000 in
set_option maxHeartbeats 3200000 in
theorem mayS_2 (p1 p2 p3 : Bool) (hp1 : AskB w 68 #[.string nm] p1) (hp2 : AskB w 143 #[.agg (ex5 op t b enm (.slice ea n3 ec)).toArray] p2) (hp3 : AskB w 142 #[.agg (st9 2 nm (ex5 op t b enm (.slice ea n3 ec)) (.slice a1 n1 c1) (.slice a2 n2 c2)).toArray] p3) (hd : d ≤ 32) :
  Calls Tryz.prog 124 #[.agg (st9 2 nm (ex5 op t b enm (.slice ea n3 ec)) (.slice a1 n1 c1) (.slice a2 n2 c2)).toArray, .int .i64 (d : Int)] w fun r w' => r = .returned (.bool (p1 && (p2 && p3))) ∧ Below w.heap.size w w' := by
 obtain ⟨R, hR⟩ : ∃ R, Hid (R = (p1 && (p2 && p3))) := ⟨_, (rfl : _ = (p1 && (p2 && p3)))⟩
 rw [← hR.out]
 have Hp1 : Hid (AskB w 68 #[.string nm] p1) := hp1
 clear hp1
 have Hp2 : Hid (AskB w 143 #[.agg (ex5 op t b enm (.slice ea n3 ec)).toArray] p2) := hp2
 clear hp2
 have Hp3 : Hid (AskB w 142 #[.agg (st9 2 nm (ex5 op t b enm (.slice ea n3 ec)) (.slice a1 n1 c1) (.slice a2 n2 c2)).toArray] p3) := hp3
 clear hp3
 go_enter Tryz.func124, Tryz.ntmps124
 go_wp2_with (first
  | ((with_reducible show wpList _ _ _ _ _ _); refine wpList_box_at rfl 87 (.tmp 0) rfl (st9 2 nm (ex5 op t b enm (.slice ea n3 ec)) (.slice a1 n1 c1) (.slice a2 n2 c2)) rfl ?_; intro w1 hA hbb hs1; clear hs1; refine Hid.out ?_))
 refine hidU ?_
 obtain ⟨q0, q1, q2, q3, q4, q5, q6, q7, q8⟩ := st_cells hA
 go_wp2_with fail
 refine (Hp1.out _ hbb).mono ?_
 rintro r w2 ⟨rfl, hb2⟩
 have hA2 := hA.below hb2
 have hbb2 := hbb.trans (hb2.mono hbb.size)
 clear hA hbb hb2 q0 q1 q2 q3 q4 q5 q6 q7 q8
 obtain ⟨q0, q1, q2, q3, q4, q5, q6, q7, q8⟩ := st_cells hA2
 have hA := hA2
 have hbb := hbb2
 clear hA2 hbb2
 cases p1 with
 | false =>
  go_wp2_with fail
  go_ret
  exact ⟨by rw [hR.out]; rfl, hbb⟩
 | true =>
  go_wp2_with fail
  refine (Hp2.out _ hbb).mono ?_
  rintro r w3 ⟨rfl, hb3⟩
  have hA3 := hA.below hb3
  have hbb3 := hbb.trans (hb3.mono hbb.size)
  clear hA hbb hb3 q0 q1 q2 q3 q4 q5 q6 q7 q8
  obtain ⟨q0, q1, q2, q3, q4, q5, q6, q7, q8⟩ := st_cells hA3
  have hA := hA3
  have hbb := hbb3
  clear hA3 hbb3
  cases p2 with
  | false =>
   go_wp2_with fail
   go_ret
   exact ⟨by rw [hR.out]; rfl, hbb⟩
  | true =>
   go_wp2_with fail
   refine (Hp3.out _ hbb).mono ?_
   rintro r w4 ⟨rfl, hb4⟩
   have hA4 := hA.below hb4
   have hbb4 := hbb.trans (hb4.mono hbb.size)
   clear hA hbb hb4 q0 q1 q2 q3 q4 q5 q6 q7 q8
   obtain ⟨q0, q1, q2, q3, q4, q5, q6, q7, q8⟩ := st_cells hA4
   have hA := hA4
   have hbb := hbb4
   clear hA4 hbb4
   go_wp2_with fail
   go_ret
   exact ⟨by rw [hR.out]; rfl, hbb⟩

set_option maxRecDepth 100000 in
set_option maxHeartbeats 3200000 in
theorem mayS_3 (p1 p2 p3 : Bool) (hp1 : AskB w 68 #[.string nm] p1) (hp2 : AskB w 143 #[.agg (ex5 op t b enm (.slice ea n3 ec)).toArray] p2) (hp3 : AskB w 142 #[.agg (st9 3 nm (ex5 op t b enm (.slice ea n3 ec)) (.slice a1 n1 c1) (.slice a2 n2 c2)).toArray] p3) (hd : d ≤ 32) :
  Calls Tryz.prog 124 #[.agg (st9 3 nm (ex5 op t b enm (.slice ea n3 ec)) (.slice a1 n1 c1) (.slice a2 n2 c2)).toArray, .int .i64 (d : Int)] w fun r w' => r = .returned (.bool (p1 && (p2 && p3))) ∧ Below w.heap.size w w' := by
 obtain ⟨R, hR⟩ : ∃ R, Hid (R = (p1 && (p2 && p3))) := ⟨_, (rfl : _ = (p1 && (p2 && p3)))⟩
 rw [← hR.out]
 have Hp1 : Hid (AskB w 68 #[.string nm] p1) := hp1
 clear hp1
 have Hp2 : Hid (AskB w 143 #[.agg (ex5 op t b enm (.slice ea n3 ec)).toArray] p2) := hp2
 clear hp2
 have Hp3 : Hid (AskB w 142 #[.agg (st9 3 nm (ex5 op t b enm (.slice ea n3 ec)) (.slice a1 n1 c1) (.slice a2 n2 c2)).toArray] p3) := hp3
 clear hp3
 go_enter Tryz.func124, Tryz.ntmps124
 go_wp2_with (first
  | ((with_reducible show wpList _ _ _ _ _ _); refine wpList_box_at rfl 87 (.tmp 0) rfl (st9 3 nm (ex5 op t b enm (.slice ea n3 ec)) (.slice a1 n1 c1) (.slice a2 n2 c2)) rfl ?_; intro w1 hA hbb hs1; clear hs1; refine Hid.out ?_))
 refine hidU ?_
 obtain ⟨q0, q1, q2, q3, q4, q5, q6, q7, q8⟩ := st_cells hA
 go_wp2_with fail
 refine (Hp1.out _ hbb).mono ?_
 rintro r w2 ⟨rfl, hb2⟩
 have hA2 := hA.below hb2
 have hbb2 := hbb.trans (hb2.mono hbb.size)
 clear hA hbb hb2 q0 q1 q2 q3 q4 q5 q6 q7 q8
 obtain ⟨q0, q1, q2, q3, q4, q5, q6, q7, q8⟩ := st_cells hA2
 have hA := hA2
 have hbb := hbb2
 clear hA2 hbb2
 cases p1 with
 | false =>
  go_wp2_with fail
  go_ret
  exact ⟨by rw [hR.out]; rfl, hbb⟩
 | true =>
  go_wp2_with fail
  refine (Hp2.out _ hbb).mono ?_
  rintro r w3 ⟨rfl, hb3⟩
  have hA3 := hA.below hb3
  have hbb3 := hbb.trans (hb3.mono hbb.size)
  clear hA hbb hb3 q0 q1 q2 q3 q4 q5 q6 q7 q8
  obtain ⟨q0, q1, q2, q3, q4, q5, q6, q7, q8⟩ := st_cells hA3
  have hA := hA3
  have hbb := hbb3
  clear hA3 hbb3
  cases p2 with
  | false =>
   go_wp2_with fail
   go_ret
   exact ⟨by rw [hR.out]; rfl, hbb⟩
  | true =>
   go_wp2_with fail
   refine (Hp3.out _ hbb).mono ?_
   rintro r w4 ⟨rfl, hb4⟩
   have hA4 := hA.below hb4
   have hbb4 := hbb.trans (hb4.mono hbb.size)
   clear hA hbb hb4 q0 q1 q2 q3 q4 q5 q6 q7 q8
   obtain ⟨q0, q1, q2, q3, q4, q5, q6, q7, q8⟩ := st_cells hA4
   have hA := hA4
   have hbb := hbb4
   clear hA4 hbb4
   go_wp2_with fail
   go_ret
   exact ⟨by rw [hR.out]; rfl, hbb⟩

set_option maxRecDepth 100000 in
set_option maxHeartbeats 3200000 in
theorem mayS_4 (p1 p2 p3 : Bool) (hp1 : nm.toList.isEmpty = p1) (hp2 : AskB w 37 #[.agg (ex5 op t b enm (.slice ea n3 ec)).toArray, .int .i64 32] p2) (hp3 : AskB w 142 #[.agg (st9 4 nm (ex5 op t b enm (.slice ea n3 ec)) (.slice a1 n1 c1) (.slice a2 n2 c2)).toArray] p3) (hd : d ≤ 32) :
  Calls Tryz.prog 124 #[.agg (st9 4 nm (ex5 op t b enm (.slice ea n3 ec)) (.slice a1 n1 c1) (.slice a2 n2 c2)).toArray, .int .i64 (d : Int)] w fun r w' => r = .returned (.bool (p1 && (p2 && p3))) ∧ Below w.heap.size w w' := by
 obtain ⟨R, hR⟩ : ∃ R, Hid (R = (p1 && (p2 && p3))) := ⟨_, (rfl : _ = (p1 && (p2 && p3)))⟩
 rw [← hR.out]
 have Hp2 : Hid (AskB w 37 #[.agg (ex5 op t b enm (.slice ea n3 ec)).toArray, .int .i64 32] p2) := hp2
 clear hp2
 have Hp3 : Hid (AskB w 142 #[.agg (st9 4 nm (ex5 op t b enm (.slice ea n3 ec)) (.slice a1 n1 c1) (.slice a2 n2 c2)).toArray] p3) := hp3
 clear hp3
 go_enter Tryz.func124, Tryz.ntmps124
 go_wp2_with (first
  | ((with_reducible show wpList _ _ _ _ _ _); refine wpList_box_at rfl 87 (.tmp 0) rfl (st9 4 nm (ex5 op t b enm (.slice ea n3 ec)) (.slice a1 n1 c1) (.slice a2 n2 c2)) rfl ?_; intro w1 hA hbb hs1; clear hs1; refine Hid.out ?_))
 refine hidU ?_
 obtain ⟨q0, q1, q2, q3, q4, q5, q6, q7, q8⟩ := st_cells hA
 cases p1 with
 | false =>
  go_wp2_with fail
  go_ret
  exact ⟨by rw [hR.out]; rfl, hbb⟩
 | true =>
  go_wp2_with fail
  refine (Hp2.out _ hbb).mono ?_
  rintro r w2 ⟨rfl, hb2⟩
  have hA2 := hA.below hb2
  have hbb2 := hbb.trans (hb2.mono hbb.size)
  clear hA hbb hb2 q0 q1 q2 q3 q4 q5 q6 q7 q8
  obtain ⟨q0, q1, q2, q3, q4, q5, q6, q7, q8⟩ := st_cells hA2
  have hA := hA2
  have hbb := hbb2
  clear hA2 hbb2
  cases p2 with
  | false =>
   go_wp2_with fail
   go_ret
   exact ⟨by rw [hR.out]; rfl, hbb⟩
  | true =>
   go_wp2_with fail
   refine (Hp3.out _ hbb).mono ?_
   rintro r w3 ⟨rfl, hb3⟩
   have hA3 := hA.below hb3
   have hbb3 := hbb.trans (hb3.mono hbb.size)
   clear hA hbb hb3 q0 q1 q2 q3 q4 q5 q6 q7 q8
   obtain ⟨q0, q1, q2, q3, q4, q5, q6, q7, q8⟩ := st_cells hA3
   have hA := hA3
   have hbb := hbb3
   clear hA3 hbb3
   go_wp2_with fail
   go_ret
   exact ⟨by rw [hR.out]; rfl, hbb⟩

set_option maxRecDepth 100000 in
set_option maxHeartbeats 3200000 in
theorem mayS_5 (p1 p2 p3 p4 : Bool) (hp1 : nm.toList.isEmpty = p1) (hp2 : AskB w 37 #[.agg (ex5 op t b enm (.slice ea n3 ec)).toArray, .int .i64 32] p2) (hp3 : AskB w 97 #[.slice a1 n1 c1, .int .i64 ((d : Int) + 1)] p3) (hp4 : AskB w 97 #[.slice a2 n2 c2, .int .i64 ((d : Int) + 1)] p4) (hd : d ≤ 32) :
  Calls Tryz.prog 124 #[.agg (st9 5 nm (ex5 op t b enm (.slice ea n3 ec)) (.slice a1 n1 c1) (.slice a2 n2 c2)).toArray, .int .i64 (d : Int)] w fun r w' => r = .returned (.bool (p1 && (p2 && (p3 && p4)))) ∧ Below w.heap.size w w' := by
 obtain ⟨R, hR⟩ : ∃ R, Hid (R = (p1 && (p2 && (p3 && p4)))) := ⟨_, (rfl : _ = (p1 && (p2 && (p3 && p4))))⟩
 rw [← hR.out]
 have Hp2 : Hid (AskB w 37 #[.agg (ex5 op t b enm (.slice ea n3 ec)).toArray, .int .i64 32] p2) := hp2
 clear hp2
 have Hp3 : Hid (AskB w 97 #[.slice a1 n1 c1, .int .i64 ((d : Int) + 1)] p3) := hp3
 clear hp3
 have Hp4 : Hid (AskB w 97 #[.slice a2 n2 c2, .int .i64 ((d : Int) + 1)] p4) := hp4
 clear hp4
 go_enter Tryz.func124, Tryz.ntmps124
 go_wp2_with (first
  | ((with_reducible show wpList _ _ _ _ _ _); refine wpList_box_at rfl 87 (.tmp 0) rfl (st9 5 nm (ex5 op t b enm (.slice ea n3 ec)) (.slice a1 n1 c1) (.slice a2 n2 c2)) rfl ?_; intro w1 hA hbb hs1; clear hs1; refine Hid.out ?_))
 refine hidU ?_
 obtain ⟨q0, q1, q2, q3, q4, q5, q6, q7, q8⟩ := st_cells hA
 cases p1 with
 | false =>
  go_wp2_with fail
  go_ret
  exact ⟨by rw [hR.out]; rfl, hbb⟩
 | true =>
  go_wp2_with fail
  refine (Hp2.out _ hbb).mono ?_
  rintro r w2 ⟨rfl, hb2⟩
  have hA2 := hA.below hb2
  have hbb2 := hbb.trans (hb2.mono hbb.size)
  clear hA hbb hb2 q0 q1 q2 q3 q4 q5 q6 q7 q8
  obtain ⟨q0, q1, q2, q3, q4, q5, q6, q7, q8⟩ := st_cells hA2
  have hA := hA2
  have hbb := hbb2
  clear hA2 hbb2
  cases p2 with
  | false =>
   go_wp2_with fail
   go_ret
   exact ⟨by rw [hR.out]; rfl, hbb⟩
  | true =>
   go_wp2_with fail
   refine (Hp3.out _ hbb).mono ?_
   rintro r w3 ⟨rfl, hb3⟩
   have hA3 := hA.below hb3
   have hbb3 := hbb.trans (hb3.mono hbb.size)
   clear hA hbb hb3 q0 q1 q2 q3 q4 q5 q6 q7 q8
   obtain ⟨q0, q1, q2, q3, q4, q5, q6, q7, q8⟩ := st_cells hA3
   have hA := hA3
   have hbb := hbb3
   clear hA3 hbb3
   cases p3 with
   | false =>
    go_wp2_with fail
    go_ret
    exact ⟨by rw [hR.out]; rfl, hbb⟩
   | true =>
    go_wp2_with fail
    refine (Hp4.out _ hbb).mono ?_
    rintro r w4 ⟨rfl, hb4⟩
    have hA4 := hA.below hb4
    have hbb4 := hbb.trans (hb4.mono hbb.size)
    clear hA hbb hb4 q0 q1 q2 q3 q4 q5 q6 q7 q8
    obtain ⟨q0, q1, q2, q3, q4, q5, q6, q7, q8⟩ := st_cells hA4
    have hA := hA4
    have hbb := hbb4
    clear hA4 hbb4
    go_wp2_with fail
    go_ret
    exact ⟨by rw [hR.out]; rfl, hbb⟩

set_option maxRecDepth 100000 in
set_option maxHeartbeats 3200000 in
theorem mayS_6 (p1 p2 p3 p4 : Bool) (hp1 : nm.toList.isEmpty = p1) (hp2 : AskB w 37 #[.agg (ex5 op t b enm (.slice ea n3 ec)).toArray, .int .i64 32] p2) (hp3 : AskB w 97 #[.slice a1 n1 c1, .int .i64 ((d : Int) + 1)] p3) (hp4 : decide (n2 = 0) = p4) (hd : d ≤ 32) :
  Calls Tryz.prog 124 #[.agg (st9 6 nm (ex5 op t b enm (.slice ea n3 ec)) (.slice a1 n1 c1) (.slice a2 n2 c2)).toArray, .int .i64 (d : Int)] w fun r w' => r = .returned (.bool (p1 && (p2 && (p3 && p4)))) ∧ Below w.heap.size w w' := by
 obtain ⟨R, hR⟩ : ∃ R, Hid (R = (p1 && (p2 && (p3 && p4)))) := ⟨_, (rfl : _ = (p1 && (p2 && (p3 && p4))))⟩
 rw [← hR.out]
 have Hp2 : Hid (AskB w 37 #[.agg (ex5 op t b enm (.slice ea n3 ec)).toArray, .int .i64 32] p2) := hp2
 clear hp2
 have Hp3 : Hid (AskB w 97 #[.slice a1 n1 c1, .int .i64 ((d : Int) + 1)] p3) := hp3
 clear hp3
 go_enter Tryz.func124, Tryz.ntmps124
 go_wp2_with (first
  | ((with_reducible show wpList _ _ _ _ _ _); refine wpList_box_at rfl 87 (.tmp 0) rfl (st9 6 nm (ex5 op t b enm (.slice ea n3 ec)) (.slice a1 n1 c1) (.slice a2 n2 c2)) rfl ?_; intro w1 hA hbb hs1; clear hs1; refine Hid.out ?_))
 refine hidU ?_
 obtain ⟨q0, q1, q2, q3, q4, q5, q6, q7, q8⟩ := st_cells hA
 cases p1 with
 | false =>
  go_wp2_with fail
  go_ret
  exact ⟨by rw [hR.out]; rfl, hbb⟩
 | true =>
  go_wp2_with fail
  refine (Hp2.out _ hbb).mono ?_
  rintro r w2 ⟨rfl, hb2⟩
  have hA2 := hA.below hb2
  have hbb2 := hbb.trans (hb2.mono hbb.size)
  clear hA hbb hb2 q0 q1 q2 q3 q4 q5 q6 q7 q8
  obtain ⟨q0, q1, q2, q3, q4, q5, q6, q7, q8⟩ := st_cells hA2
  have hA := hA2
  have hbb := hbb2
  clear hA2 hbb2
  cases p2 with
  | false =>
   go_wp2_with fail
   go_ret
   exact ⟨by rw [hR.out]; rfl, hbb⟩
  | true =>
   go_wp2_with fail
   refine (Hp3.out _ hbb).mono ?_
   rintro r w3 ⟨rfl, hb3⟩
   have hA3 := hA.below hb3
   have hbb3 := hbb.trans (hb3.mono hbb.size)
   clear hA hbb hb3 q0 q1 q2 q3 q4 q5 q6 q7 q8
   obtain ⟨q0, q1, q2, q3, q4, q5, q6, q7, q8⟩ := st_cells hA3
   have hA := hA3
   have hbb := hbb3
   clear hA3 hbb3
   cases p3 with
   | false =>
    go_wp2_with fail
    go_ret
    exact ⟨by rw [hR.out]; rfl, hbb⟩
   | true =>
    by_cases hn2 : n2 = 0
    ·subst hn2
     have : p4 = true := by rw [← hp4]; rfl
     subst this
     clear hp4
     go_wp2_with fail
     go_ret
     exact ⟨by rw [hR.out]; rfl, hbb⟩
    ·have e2 : ((n2 : Int) == 0) = false := by rw [beq_eq_false_iff_ne]; omega
     have : p4 = false := by rw [← hp4]; exact decide_eq_false hn2
     subst this
     clear hp4 hn2
     go_wp2_with fail
     go_ret
     exact ⟨by rw [hR.out]; rfl, hbb⟩

set_option maxRecDepth 100000 in
set_option maxHeartbeats 3200000 in
theorem mayS_7 (p1 p2 p3 : Bool) (hp1 : nm.toList.isEmpty = p1) (hp2 : AskB w 143 #[.agg (ex5 op t b enm (.slice ea n3 ec)).toArray] p2) (hp3 : AskB w 142 #[.agg (st9 7 nm (ex5 op t b enm (.slice ea n3 ec)) (.slice a1 n1 c1) (.slice a2 n2 c2)).toArray] p3) (hd : d ≤ 32) :
  Calls Tryz.prog 124 #[.agg (st9 7 nm (ex5 op t b enm (.slice ea n3 ec)) (.slice a1 n1 c1) (.slice a2 n2 c2)).toArray, .int .i64 (d : Int)] w fun r w' => r = .returned (.bool (p1 && (p2 && p3))) ∧ Below w.heap.size w w' := by
 obtain ⟨R, hR⟩ : ∃ R, Hid (R = (p1 && (p2 && p3))) := ⟨_, (rfl : _ = (p1 && (p2 && p3)))⟩
 rw [← hR.out]
 have Hp2 : Hid (AskB w 143 #[.agg (ex5 op t b enm (.slice ea n3 ec)).toArray] p2) := hp2
 clear hp2
 have Hp3 : Hid (AskB w 142 #[.agg (st9 7 nm (ex5 op t b enm (.slice ea n3 ec)) (.slice a1 n1 c1) (.slice a2 n2 c2)).toArray] p3) := hp3
 clear hp3
 go_enter Tryz.func124, Tryz.ntmps124
 go_wp2_with (first
  | ((with_reducible show wpList _ _ _ _ _ _); refine wpList_box_at rfl 87 (.tmp 0) rfl (st9 7 nm (ex5 op t b enm (.slice ea n3 ec)) (.slice a1 n1 c1) (.slice a2 n2 c2)) rfl ?_; intro w1 hA hbb hs1; clear hs1; refine Hid.out ?_))
 refine hidU ?_
 obtain ⟨q0, q1, q2, q3, q4, q5, q6, q7, q8⟩ := st_cells hA
 cases p1 with
 | false =>
  go_wp2_with fail
  go_ret
  exact ⟨by rw [hR.out]; rfl, hbb⟩
 | true =>
  go_wp2_with fail
  refine (Hp2.out _ hbb).mono ?_
  rintro r w2 ⟨rfl, hb2⟩
  have hA2 := hA.below hb2
  have hbb2 := hbb.trans (hb2.mono hbb.size)
  clear hA hbb hb2 q0 q1 q2 q3 q4 q5 q6 q7 q8
  obtain ⟨q0, q1, q2, q3, q4, q5, q6, q7, q8⟩ := st_cells hA2
  have hA := hA2
  have hbb := hbb2
  clear hA2 hbb2
  cases p2 with
  | false =>
   go_wp2_with fail
   go_ret
   exact ⟨by rw [hR.out]; rfl, hbb⟩
  | true =>
   go_wp2_with fail
   refine (Hp3.out _ hbb).mono ?_
   rintro r w3 ⟨rfl, hb3⟩
   have hA3 := hA.below hb3
   have hbb3 := hbb.trans (hb3.mono hbb.size)
   clear hA hbb hb3 q0 q1 q2 q3 q4 q5 q6 q7 q8
   obtain ⟨q0, q1, q2, q3, q4, q5, q6, q7, q8⟩ := st_cells hA3
   have hA := hA3
   have hbb := hbb3
   clear hA3 hbb3
   go_wp2_with fail
   go_ret
   exact ⟨by rw [hR.out]; rfl, hbb⟩

set_option maxRecDepth 100000 in
set_option maxHeartbeats 3200000 in
theorem mayS_no (h : ¬ (1 ≤ k ∧ k ≤ 7)) :
  Calls Tryz.prog 124 #[.agg (st9 k nm (ex5 op t b enm (.slice ea n3 ec)) (.slice a1 n1 c1) (.slice a2 n2 c2)).toArray, .int .i64 (d : Int)] w fun r w' => r = .returned (.bool false) ∧ Below w.heap.size w w' := by
 have e1 : (k == 1) = false := by rw [beq_eq_false_iff_ne]; omega
 have e2 : (k == 2) = false := by rw [beq_eq_false_iff_ne]; omega
 have e3 : (k == 3) = false := by rw [beq_eq_false_iff_ne]; omega
 have e4 : (k == 4) = false := by rw [beq_eq_false_iff_ne]; omega
 have e5 : (k == 5) = false := by rw [beq_eq_false_iff_ne]; omega
 have e6 : (k == 6) = false := by rw [beq_eq_false_iff_ne]; omega
 have e7 : (k == 7) = false := by rw [beq_eq_false_iff_ne]; omega
 clear h
 go_enter Tryz.func124, Tryz.ntmps124
 go_wp2_with (first
  | ((with_reducible show wpList _ _ _ _ _ _); refine wpList_box_at rfl 87 (.tmp 0) rfl (st9 k nm (ex5 op t b enm (.slice ea n3 ec)) (.slice a1 n1 c1) (.slice a2 n2 c2)) rfl ?_; intro w1 hA hbb hs1; clear hs1; refine Hid.out ?_))
 refine hidU ?_
 obtain ⟨q0, q1, q2, q3, q4, q5, q6, q7, q8⟩ := st_cells hA
 go_wp2_with fail
 go_ret
 exact ⟨rfl, hbb⟩
end

end Go.Proofs.YtcmahiphfpgadaaGreatDoor

/- Whether a statement may be printed. -/
namespace Go.Proofs.YtcmahiphfpgadaaGreatDoor
open Go.RowKit
set_option linter.unusedVariables false

theorem sts_empty (l : List ST) : (ST.sts l).isEmpty = decide (l.length = 0) := by
 cases l with
 | nil => rfl
 | cons x r => simp [ST.sts]

theorem mayStmt_any (B : Nat) (N : Nat) : ∀ s : ST, SizeOf.sizeOf s < N → MayW B s := by
 induction N with
 | zero => intro s h; omega
 | succ N ih =>
  rintro ⟨k, nm, ⟨op, t, b, enm, ea, ec, eks⟩, a1, c1, body, a2, c2, els⟩ hN d w hd hin hBw hT h16
  have i1 : ∀ s ∈ body, MayW B s := fun s hs => ih s (by have := ST.sz1 (k := k) (nm := nm) (e := .mk op t b enm ea ec eks) (a1 := a1) (a2 := a2) (c1 := c1) (c2 := c2) (els := els) hs; omega)
  have i2 : ∀ s ∈ els, MayW B s := fun s hs => ih s (by have := ST.sz2 (k := k) (nm := nm) (e := .mk op t b enm ea ec eks) (a1 := a1) (a2 := a2) (c1 := c1) (c2 := c2) (body := body) hs; omega)
  unfold ST.In at hin
  obtain ⟨hk, he, hb1, hb2⟩ := hin
  have hsz : ∀ w', Below w.heap.size w w' → B ≤ w'.heap.size ∧ gB ≤ w'.heap.size ∧ Tab w' ∧ Old B w w' := fun w' h => ⟨by have := h.size; omega, by have := h.size; omega, hT.below h h16, Old.of_below h hBw⟩
  have pN : AskB w 68 #[.string nm] (isNm nm.data.toList) := fun w' h => (name_any nm w').mono (by rintro r w2 ⟨rfl, rfl⟩; exact ⟨rfl, Below.refl _ _⟩)
  have pE : AskB w 37 #[.agg (ex5 op t b enm (.slice ea eks.length ec)).toArray, .int .i64 32] (mayE 32 (ET.mk op t b enm ea ec eks).ex) := fun w' h => mayExpr_any 32 (.mk op t b enm ea ec eks) w' B (by decide) (he.old (hsz w' h).2.2.2) (hsz w' h).1 (hsz w' h).2.2.1 (hsz w' h).2.1
  have pX : AskB w 143 #[.agg (ex5 op t b enm (.slice ea eks.length ec)).toArray] (samX (ET.mk op t b enm ea ec eks).ex noE) := fun w' h => noExpr_any B (.mk op t b enm ea ec eks) w' (he.old (hsz w' h).2.2.2) (hsz w' h).1
  have pQ : ∀ k, AskB w 142 #[.agg (st9 k nm (ex5 op t b enm (.slice ea eks.length ec)) (.slice a1 body.length c1) (.slice a2 els.length c2)).toArray] ((ST.sts body).isEmpty && (ST.sts els).isEmpty) := fun k w' h => by
   rw [sts_empty, sts_empty]
   exact noBlocks_any k nm op t b enm _ a1 a2 _ _ c1 c2 w'
  have p1 : AskB w 97 #[.slice a1 body.length c1, .int .i64 ((d : Int) + 1)] (mayB (d + 1) (ST.sts body)) := fun w' h => by
   rw [ST.sts_eq]
   exact mayBlock_of B body i1 (d + 1) (by omega) a1 c1 w' (RowS.old hb1 (hsz w' h).2.2.2) (hsz w' h).1 (hsz w' h).2.2.1 (hsz w' h).2.1
  have p2 : AskB w 97 #[.slice a2 els.length c2, .int .i64 ((d : Int) + 1)] (mayB (d + 1) (ST.sts els)) := fun w' h => by
   rw [ST.sts_eq]
   exact mayBlock_of B els i2 (d + 1) (by omega) a2 c2 w' (RowS.old hb2 (hsz w' h).2.2.2) (hsz w' h).1 (hsz w' h).2.2.1 (hsz w' h).2.1
  show Calls Tryz.prog 124 #[.agg (st9 k nm (ex5 op t b enm (.slice ea eks.length ec)) (.slice a1 body.length c1) (.slice a2 els.length c2)).toArray, .int .i64 (d : Int)] w fun r w' => r = .returned (.bool (mayS d (.mk k nm.data.toList (ET.mk op t b enm ea ec eks).ex (ST.sts body) (ST.sts els)))) ∧ Below w.heap.size w w'
  rw [mayS]
  by_cases h1 : k = 1
  ·rw [if_pos h1]; subst h1
   exact mayS_1 w nm op t b enm ea a1 a2 _ _ _ c1 c2 ec d _ _ _ pN pE (pQ 1) hd
  rw [if_neg h1]
  by_cases h2 : k = 2
  ·rw [if_pos (.inl h2)]; subst h2
   exact mayS_2 w nm op t b enm ea a1 a2 _ _ _ c1 c2 ec d _ _ _ pN pX (pQ 2) hd
  by_cases h3 : k = 3
  ·rw [if_pos (.inr h3)]; subst h3
   exact mayS_3 w nm op t b enm ea a1 a2 _ _ _ c1 c2 ec d _ _ _ pN pX (pQ 3) hd
  rw [if_neg (by rintro (h | h); exact h2 h; exact h3 h)]
  by_cases h4 : k = 4
  ·rw [if_pos h4]; subst h4
   exact mayS_4 w nm op t b enm ea a1 a2 _ _ _ c1 c2 ec d _ _ _ (emp nm) pE (pQ 4) hd
  rw [if_neg h4]
  by_cases h5 : k = 5
  ·rw [if_pos h5]; subst h5
   exact mayS_5 w nm op t b enm ea a1 a2 _ _ _ c1 c2 ec d _ _ _ _ (emp nm) pE p1 p2 hd
  rw [if_neg h5]
  by_cases h6 : k = 6
  ·rw [if_pos h6]; subst h6
   exact mayS_6 w nm op t b enm ea a1 a2 _ _ _ c1 c2 ec d _ _ _ _ (emp nm) pE p1 (sts_empty els).symm hd
  rw [if_neg h6]
  by_cases h7 : k = 7
  ·rw [if_pos h7]; subst h7
   exact mayS_7 w nm op t b enm ea a1 a2 _ _ _ c1 c2 ec d _ _ _ (emp nm) pX (pQ 7) hd
  rw [if_neg h7]
  exact mayS_no w k nm op t b enm ea a1 a2 _ _ _ c1 c2 ec d (by omega)

/-- Whether a block may be printed. -/
theorem mayBlock_any (B : Nat) (ss : List ST) (d : Nat) (hd : d ≤ 33) (a : Option Addr) (c : Nat) (w : World) (hr : RowS B w a c ss) (hBw : B ≤ w.heap.size) (hT : Tab w) (h16 : gB ≤ w.heap.size) :
  Calls Tryz.prog 97 #[.slice a ss.length c, .int .i64 (d : Int)] w fun r w' => r = .returned (.bool (mayB d (ss.map ST.st))) ∧ Below w.heap.size w w' :=
 mayBlock_of B ss (fun s _ => mayStmt_any B (SizeOf.sizeOf s + 1) s (by omega)) d hd a c w hr hBw hT h16

end Go.Proofs.YtcmahiphfpgadaaGreatDoor

/- Prepared for layer 5, no program is named: statements' lines tell them apart. -/
namespace Go.Proofs.YtcmahiphfpgadaaGreatDoor
set_option linter.unusedVariables false
section
variable {prX : Ex → Option (List UInt8)} {isName : List UInt8 → Bool} {isNo : Ex → Bool}

end
end Go.Proofs.YtcmahiphfpgadaaGreatDoor

/- Prepared for layer 5, no program is named: a program's text tells it apart from any other. -/
namespace Go.Proofs.YtcmahiphfpgadaaGreatDoor
set_option linter.unusedVariables false

/-- A variable, a thread, a program, as data. -/
structure Vr where
 nm : List UInt8
 t : Nat
 b : Nat
structure Th where
 nm : List UInt8
 locals : List Vr
 body : List St
structure Pg where
 shared : List Vr
 mutexes : List (List UInt8)
 threads : List Th

section
variable (prX : Ex → Option (List UInt8)) (isName : List UInt8 → Bool) (isNo : Ex → Bool) (vtx : Nat → Nat → Option (List UInt8))

variable {prX isName isNo vtx}

end
end Go.Proofs.YtcmahiphfpgadaaGreatDoor

/- Variables, threads, programs in memory; whether they may be printed. -/
namespace Go.Proofs.YtcmahiphfpgadaaGreatDoor
open Go.RowKit
set_option linter.unusedVariables false

/-- A variable. -/
structure VT where
 nm : ByteArray
 t : Nat
 b : Nat
def VT.cells (v : VT) : List Value := [.string v.nm, .int .u8 (v.t : Int), .int .u64 (v.b : Int)]
def VT.vr (v : VT) : Vr := ⟨v.nm.data.toList, v.t, v.b⟩
def VT.In (_B : Nat) (_w : World) (v : VT) : Prop := v.t < 256 ∧ v.b < 18446744073709551616

/-- A row of variables in memory. -/
def RowV (B : Nat) (w : World) (a : Option Addr) (c : Nat) (ks : List VT) : Prop := ks.length ≤ 1048576 ∧ ks.length ≤ c ∧ (ks = [] ∨ ∃ g o, a = some ⟨g, o, none⟩ ∧ g < B ∧ ∀ i v, ks[i]? = some v → w.rangeAt g (o + i * 3) v.cells ∧ v.In B w)

/-- A row of names in memory. -/
def RowN (B : Nat) (w : World) (a : Option Addr) (c : Nat) (ks : List ByteArray) : Prop := ks.length ≤ 1048576 ∧ ks.length ≤ c ∧ (ks = [] ∨ ∃ g o, a = some ⟨g, o, none⟩ ∧ g < B ∧ ∀ i v, ks[i]? = some v → w.cell? ⟨g, o + i, none⟩ = some (.string v))

theorem VT.In.old {B : Nat} {w w' : World} (hO : Old B w w') {v : VT} (h : v.In B w) : v.In B w' := h

/-- A thread, with where its lists lie. -/
structure TT where
 nm : ByteArray
 a1 : Option Addr
 c1 : Nat
 locals : List VT
 a2 : Option Addr
 c2 : Nat
 body : List ST
def TT.cells (v : TT) : List Value := [.string v.nm, .slice v.a1 v.locals.length v.c1, .slice v.a2 v.body.length v.c2]
def TT.th (v : TT) : Th := ⟨v.nm.data.toList, v.locals.map VT.vr, v.body.map ST.st⟩
def TT.In (B : Nat) (w : World) (v : TT) : Prop := RowV B w v.a1 v.c1 v.locals ∧ RowS B w v.a2 v.c2 v.body

/-- A row of threads in memory. -/
def RowT (B : Nat) (w : World) (a : Option Addr) (c : Nat) (ks : List TT) : Prop := ks.length ≤ 1048576 ∧ ks.length ≤ c ∧ (ks = [] ∨ ∃ g o, a = some ⟨g, o, none⟩ ∧ g < B ∧ ∀ i v, ks[i]? = some v → w.rangeAt g (o + i * 3) v.cells ∧ v.In B w)

theorem RowV.old {B c : Nat} {w w' : World} {a : Option Addr} {ks : List VT} (h : RowV B w a c ks) (hO : Old B w w') : RowV B w' a c ks := by
 obtain ⟨h1, h2, h | ⟨g, o, ha, hg, hr⟩⟩ := h
 ·exact ⟨h1, h2, .inl h⟩
 ·exact ⟨h1, h2, .inr ⟨g, o, ha, hg, fun i v hv => ⟨hO.range hg (hr i v hv).1, (hr i v hv).2⟩⟩⟩
theorem RowN.old {B c : Nat} {w w' : World} {a : Option Addr} {ks : List ByteArray} (h : RowN B w a c ks) (hO : Old B w w') : RowN B w' a c ks := by
 obtain ⟨h1, h2, h | ⟨g, o, ha, hg, hr⟩⟩ := h
 ·exact ⟨h1, h2, .inl h⟩
 ·exact ⟨h1, h2, .inr ⟨g, o, ha, hg, fun i v hv => by rw [World.cell?_of_block (w := w) (w' := w') (hO _ hg)]; exact hr i v hv⟩⟩
theorem TT.In.old {B : Nat} {w w' : World} (hO : Old B w w') {v : TT} (h : v.In B w) : v.In B w' := ⟨h.1.old hO, h.2.old hO⟩
theorem RowT.old {B c : Nat} {w w' : World} {a : Option Addr} {ks : List TT} (h : RowT B w a c ks) (hO : Old B w w') : RowT B w' a c ks := by
 obtain ⟨h1, h2, h | ⟨g, o, ha, hg, hr⟩⟩ := h
 ·exact ⟨h1, h2, .inl h⟩
 ·exact ⟨h1, h2, .inr ⟨g, o, ha, hg, fun i v hv => ⟨hO.range hg (hr i v hv).1, (hr i v hv).2.old hO⟩⟩⟩

theorem RowV.at {B c : Nat} {w : World} {a : Option Addr} {ks : List VT} (h : RowV B w a c ks) (i : Nat) (k : VT) (hk : ks[i]? = some k) : ∃ g o, a = some ⟨g, o, none⟩ ∧ g < B ∧ w.rangeAt g (o + i * 3) k.cells ∧ k.In B w := by
 obtain ⟨_, _, h | ⟨g, o, ha, hg, hr⟩⟩ := h
 ·rw [h] at hk; simp at hk
 ·exact ⟨g, o, ha, hg, (hr i k hk).1, (hr i k hk).2⟩
theorem RowT.at {B c : Nat} {w : World} {a : Option Addr} {ks : List TT} (h : RowT B w a c ks) (i : Nat) (k : TT) (hk : ks[i]? = some k) : ∃ g o, a = some ⟨g, o, none⟩ ∧ g < B ∧ w.rangeAt g (o + i * 3) k.cells ∧ k.In B w := by
 obtain ⟨_, _, h | ⟨g, o, ha, hg, hr⟩⟩ := h
 ·rw [h] at hk; simp at hk
 ·exact ⟨g, o, ha, hg, (hr i k hk).1, (hr i k hk).2⟩
theorem RowN.at {B c : Nat} {w : World} {a : Option Addr} {ks : List ByteArray} (h : RowN B w a c ks) (i : Nat) (k : ByteArray) (hk : ks[i]? = some k) : ∃ g o, a = some ⟨g, o, none⟩ ∧ g < B ∧ w.cell? ⟨g, o + i, none⟩ = some (.string k) := by
 obtain ⟨_, _, h | ⟨g, o, ha, hg, hr⟩⟩ := h
 ·rw [h] at hk; simp at hk
 ·exact ⟨g, o, ha, hg, hr i k hk⟩

theorem VT.one (v : VT) : ∀ x ∈ v.cells, x.oneCell' = true := by
 intro x hx
 simp [VT.cells] at hx
 rcases hx with rfl | rfl | rfl <;> rfl
theorem TT.one (v : TT) : ∀ x ∈ v.cells, x.oneCell' = true := by
 intro x hx
 simp [TT.cells] at hx
 rcases hx with rfl | rfl | rfl <;> rfl

theorem i79 : (Tryz.prog.info? 56).map (·.size) = some 3 := by kernel_rfl
theorem z79 : (Tryz.prog.info? 56).map (fun i => (i.zero, i.size)) = some (some (.agg [.string ⟨#[]⟩, .int .u8 0, .int .u64 0].toArray), 3) := by kernel_rfl
theorem i42 : (Tryz.prog.info? 59).map (·.size) = some 3 := by kernel_rfl
theorem z42 : (Tryz.prog.info? 59).map (fun i => (i.zero, i.size)) = some (some (.agg [.string ⟨#[]⟩, .slice none 0 0, .slice none 0 0].toArray), 3) := by kernel_rfl

/-- Whether a variable, a thread, a program may be printed. -/
def mayV (v : Vr) : Bool := valOk v.t v.b && isNm v.nm
def mayT (t : Th) : Bool := isNm t.nm && (t.locals.all mayV && mayB 0 t.body)
def mayP (p : Pg) : Bool := p.shared.all mayV && (p.mutexes.all isNm && p.threads.all mayT)

set_option maxRecDepth 100000 in
set_option maxHeartbeats 1600000 in
theorem mayVar_at (nm : ByteArray) (t b : Nat) (M N : Bool) (L : List UInt8) (w : World) (hT : Tab w) (h16 : gB ≤ w.heap.size)
  (hV : ∀ w, Tab w → gB ≤ w.heap.size → Calls Tryz.prog 40 #[.agg [.int .u8 (t : Int), .int .u64 (b : Int)].toArray] w fun e w' => e = .returned (.tuple #[.string ⟨L.toArray⟩, .bool M]) ∧ Below w.heap.size w w')
  (hN' : ∀ w, Calls Tryz.prog 68 #[.string nm] w fun e w' => e = .returned (.bool N) ∧ w' = w) :
  Calls Tryz.prog 66 #[.agg [.string nm, .int .u8 (t : Int), .int .u64 (b : Int)].toArray] w fun r w' => r = .returned (.bool (M && N)) ∧ Below w.heap.size w w' := by
 go_enter Tryz.func66, Tryz.ntmps66
 go_wp2_with (first
  | ((with_reducible show wpList _ _ _ _ _ _); refine wpList_box_at rfl 56 (.tmp 0) rfl [.string nm, .int .u8 (t : Int), .int .u64 (b : Int)] rfl ?_; intro w1 hA1 hb1 hs1; clear hs1; refine Hid.out ?_))
 refine hidU ?_
 have c1 : w1.cell? ⟨w.heap.size, 1, none⟩ = some (.int .u8 (t : Int)) := by rw [hA1.cell]; rfl
 have c2 : w1.cell? ⟨w.heap.size, 2, none⟩ = some (.int .u64 (b : Int)) := by rw [hA1.cell]; rfl
 go_wp2_with fail
 refine (hV w1 (hT.below hb1 h16) (by have := hb1.size; omega)).mono ?_
 rintro r w2 ⟨rfl, hb2⟩
 have c0 : w2.cell? ⟨w.heap.size, 0, none⟩ = some (.string nm) := by rw [(hA1.below hb2).cell]; rfl
 have hbb := hb1.trans (hb2.mono hb1.size)
 clear hV hb2 hA1 c1 c2 hb1
 cases M with
 | false =>
  go_wp2_with fail
  go_ret
  exact ⟨rfl, hbb⟩
 | true =>
  go_wp2_with fail
  refine (hN' _).mono ?_
  rintro r w' ⟨rfl, rfl⟩
  clear hN'
  go_wp2_with fail
  go_ret
  exact ⟨rfl, hbb⟩

theorem mayVar_any (v : VT) (B : Nat) (w : World) (h : v.In B w) (hT : Tab w) (h16 : gB ≤ w.heap.size) :
  Calls Tryz.prog 66 #[.agg v.cells.toArray] w fun r w' => r = .returned (.bool (mayV v.vr)) ∧ Below w.heap.size w w' :=
 mayVar_at v.nm v.t v.b (valOk v.t v.b) (isNm v.nm.data.toList) (valTx v.t v.b) w hT h16 (fun w hT h16 => valueText_any v.t v.b h.1 h.2 w hT h16) (fun w => name_any v.nm w)

set_option maxRecDepth 100000 in
set_option maxHeartbeats 3200000 in
theorem allV_any (B : Nat) (ks : List VT) (a : Option Addr) (c : Nat) (w : World) (hr : RowV B w a c ks) (hBw : B ≤ w.heap.size) (hT : Tab w) (h16 : gB ≤ w.heap.size) :
  Calls Tryz.prog 65 #[.slice a ks.length c, .func (.func 66) #[] #[]] w fun r w' => r = .returned (.bool ((ks.map VT.vr).all mayV)) ∧ Below w.heap.size w w' := by
 obtain ⟨R, hR⟩ : ∃ R, Hid (R = (ks.map VT.vr).all mayV) := ⟨_, (rfl : _ = (ks.map VT.vr).all mayV)⟩
 rw [← hR.out]
 obtain ⟨n, hn⟩ : ∃ n, Hid (n = ks.length) := ⟨_, (rfl : ks.length = _)⟩
 have hl := hr.1
 have hk := hr.2.1
 rw [← hn.out] at hl hk ⊢
 have HR : Hid (RowV B w a c ks) := hr
 clear hr
 go_enter Tryz.func65, Tryz.ntmps65
 go_wp2_with fail
 go_loopw [9] (fun j wr => ∃ i : Nat, j = .int .i64 (i : Int) ∧ i ≤ n ∧ Hid (Below w.heap.size w wr ∧ ∀ s ∈ (ks.take i).map VT.vr, mayV s = true)) (fun j _ => n - (intOf j).toNat)
 case atStart => exact ⟨0, rfl, by omega, Below.refl _ _, by simp⟩
 case round =>
  obtain ⟨i, rfl, hi, hX⟩ := hrel
  by_cases hc : i < n
  ·obtain ⟨s, hs⟩ : ∃ k, ks[i]? = some k := ⟨ks[i]'(by rw [← hn.out]; exact hc), by rw [List.getElem?_eq_getElem]⟩
   obtain ⟨hbw, hall⟩ := hX.out
   have hold : Old B w wr := Old.of_below hbw hBw
   have hBr : B ≤ wr.heap.size := by have := hbw.size; omega
   have h16r : gB ≤ wr.heap.size := by have := hbw.size; omega
   have hTr := hT.below hbw h16
   obtain ⟨g1, o1, rfl, hg1, hr1, hs1⟩ := (HR.out.old hold).at i s hs
   clear hX hold HR
   go_wp2_with (first
    | ((with_reducible show wpList _ _ _ _ _ _); refine wpList_load_mid (P := Tryz.prog) rfl 56 (.tmp 11) rfl g1 (o1 + i * 3) (by first | rfl | (simp; done)) s.cells _ hr1 Tryz.underlying56 rfl i79 ?_)
    | ((with_reducible show wpList _ _ _ _ _ _); refine wpList_alloc_at rfl 56 rfl _ 3 z79 ?_; intro w2 hA2 hb2 hs2)
    | ((with_reducible show wpList _ _ _ _ _ _); refine wpList_store_at (P := Tryz.prog) rfl 56 (.tmp 6) (.tmp 12) rfl wr.heap.size s.cells rfl rfl 56 _ hA2 i79 rfl s.one ?_; intro w3 hA3 hb3 hs3; refine Hid.out ?_))
   refine hidU ?_
   have hB3 : Below wr.heap.size wr w3 := hb3.below hb2 (Nat.le_refl _) (by omega)
   have hw3 : Below w.heap.size w w3 := hbw.trans (hB3.mono hbw.size)
   have hI := mayVar_any s B w3 hs1 (hTr.below hB3 h16r) (by have := hB3.size; omega)
   obtain ⟨M, hM⟩ : ∃ M, Hid (M = mayV (VT.vr s)) := ⟨_, (rfl : _ = mayV (VT.vr s))⟩
   rw [← hM.out] at hI
   have hA3' := hA3
   clear hb3 hb2 hA2 hr1 hs2 hs3 hA3 hB3 hbw hs1
   go_wp2_with (first
    | ((with_reducible show wpList _ _ _ _ _ _); refine wpList_load_at (P := Tryz.prog) rfl 56 (.tmp 6) rfl wr.heap.size rfl 56 s.cells hA3' _ Tryz.underlying56 rfl i79 ?_))
   refine hI.mono ?_
   rintro r w6 ⟨rfl, hb6⟩
   have hw6 : Below w.heap.size w w6 := hw3.trans (hb6.mono hw3.size)
   clear hI hb6 hw3 hA3'
   cases M with
   | false =>
    have hRf : R = false := by
     rw [hR.out, List.all_eq_false]
     exact ⟨VT.vr s, List.mem_map.2 ⟨s, List.mem_of_getElem? hs, rfl⟩, by rw [← hM.out]; simp⟩
    go_wp2
    go_ret
    exact ⟨by rw [hRf]; rfl, hw6⟩
   | true =>
    go_wp2
    go_roundw
    case rel =>
     refine ⟨i + 1, by go_num, by omega, hw6, fun x hx => ?_⟩
     rw [List.take_add_one, hs, List.map_append, List.mem_append] at hx
     rcases hx with hx | hx
     ·exact hall x hx
     ·simp at hx; rw [hx]; exact hM.out.symm
    case measure => simp [intOf]; omega
  ·have hin : i = n := by omega
   obtain ⟨hbw, hall⟩ := hX.out
   have hRt : R = true := by
    rw [hR.out, List.all_eq_true]
    intro s hs
    exact hall s (by rw [hin, hn.out, List.take_length]; exact hs)
   clear hX hall hin HR
   go_wp2
   go_ret
   exact ⟨by rw [hRt]; rfl, hbw⟩

set_option maxRecDepth 100000 in
set_option maxHeartbeats 3200000 in
theorem allN_any (B : Nat) (ks : List ByteArray) (a : Option Addr) (c : Nat) (w : World) (hr : RowN B w a c ks) (hBw : B ≤ w.heap.size) (hT : Tab w) (h16 : gB ≤ w.heap.size) :
  Calls Tryz.prog 67 #[.slice a ks.length c, .func (.func 68) #[] #[]] w fun r w' => r = .returned (.bool ((ks.map (fun s : ByteArray => s.data.toList)).all isNm)) ∧ Below w.heap.size w w' := by
 obtain ⟨R, hR⟩ : ∃ R, Hid (R = (ks.map (fun s : ByteArray => s.data.toList)).all isNm) := ⟨_, (rfl : _ = (ks.map (fun s : ByteArray => s.data.toList)).all isNm)⟩
 rw [← hR.out]
 obtain ⟨n, hn⟩ : ∃ n, Hid (n = ks.length) := ⟨_, (rfl : ks.length = _)⟩
 have hl := hr.1
 have hk := hr.2.1
 rw [← hn.out] at hl hk ⊢
 have HR : Hid (RowN B w a c ks) := hr
 clear hr
 go_enter Tryz.func67, Tryz.ntmps67
 go_wp2_with fail
 go_loopw [9] (fun j wr => ∃ i : Nat, j = .int .i64 (i : Int) ∧ i ≤ n ∧ Hid (Below w.heap.size w wr ∧ ∀ s ∈ (ks.take i).map (fun s : ByteArray => s.data.toList), isNm s = true)) (fun j _ => n - (intOf j).toNat)
 case atStart => exact ⟨0, rfl, by omega, Below.refl _ _, by simp⟩
 case round =>
  obtain ⟨i, rfl, hi, hX⟩ := hrel
  by_cases hc : i < n
  ·obtain ⟨s, hs⟩ : ∃ k, ks[i]? = some k := ⟨ks[i]'(by rw [← hn.out]; exact hc), by rw [List.getElem?_eq_getElem]⟩
   obtain ⟨hbw, hall⟩ := hX.out
   have hold : Old B w wr := Old.of_below hbw hBw
   have hBr : B ≤ wr.heap.size := by have := hbw.size; omega
   have h16r : gB ≤ wr.heap.size := by have := hbw.size; omega
   have hTr := hT.below hbw h16
   obtain ⟨g1, o1, rfl, hg1, hr1⟩ := (HR.out.old hold).at i s hs
   have hI : ∀ w, Calls Tryz.prog 68 #[.string s] w fun r w' => r = .returned (.bool (isNm s.data.toList)) ∧ w' = w := fun w => name_any s w
   obtain ⟨M, hM⟩ : ∃ M, Hid (M = isNm s.data.toList) := ⟨_, (rfl : _ = isNm s.data.toList)⟩
   rw [← hM.out] at hI
   clear hX hold HR
   go_wp2_with fail
   refine (hI _).mono ?_
   rintro r w6 ⟨rfl, hq⟩
   have hq' := hq.symm
   subst hq'
   clear hq
   have hw6 := hbw
   clear hI hr1
   cases M with
   | false =>
    have hRf : R = false := by
     rw [hR.out, List.all_eq_false]
     exact ⟨(fun s : ByteArray => s.data.toList) s, List.mem_map.2 ⟨s, List.mem_of_getElem? hs, rfl⟩, by rw [← hM.out]; simp⟩
    go_wp2
    go_ret
    exact ⟨by rw [hRf]; rfl, hw6⟩
   | true =>
    go_wp2
    go_roundw
    case rel =>
     refine ⟨i + 1, by go_num, by omega, hw6, fun x hx => ?_⟩
     rw [List.take_add_one, hs, List.map_append, List.mem_append] at hx
     rcases hx with hx | hx
     ·exact hall x hx
     ·simp at hx; rw [hx]; exact hM.out.symm
    case measure => simp [intOf]; omega
  ·have hin : i = n := by omega
   obtain ⟨hbw, hall⟩ := hX.out
   have hRt : R = true := by
    rw [hR.out, List.all_eq_true]
    intro s hs
    exact hall s (by rw [hin, hn.out, List.take_length]; exact hs)
   clear hX hall hin HR
   go_wp2
   go_ret
   exact ⟨by rw [hRt]; rfl, hbw⟩

set_option maxRecDepth 100000 in
set_option maxHeartbeats 3200000 in
theorem allT_of (B : Nat) (ks : List TT) (a : Option Addr) (c : Nat) (w : World) (hr : RowT B w a c ks) (hBw : B ≤ w.heap.size) (hT : Tab w) (h16 : gB ≤ w.heap.size) (hS : ∀ s ∈ ks, ∀ w, s.In B w → B ≤ w.heap.size → Tab w → gB ≤ w.heap.size → Calls Tryz.prog 70 #[.agg s.cells.toArray] w fun r w' => r = .returned (.bool (mayT s.th)) ∧ Below w.heap.size w w') :
  Calls Tryz.prog 69 #[.slice a ks.length c, .func (.func 70) #[] #[]] w fun r w' => r = .returned (.bool ((ks.map TT.th).all mayT)) ∧ Below w.heap.size w w' := by
 obtain ⟨R, hR⟩ : ∃ R, Hid (R = (ks.map TT.th).all mayT) := ⟨_, (rfl : _ = (ks.map TT.th).all mayT)⟩
 rw [← hR.out]
 obtain ⟨n, hn⟩ : ∃ n, Hid (n = ks.length) := ⟨_, (rfl : ks.length = _)⟩
 have hl := hr.1
 have hk := hr.2.1
 rw [← hn.out] at hl hk ⊢
 have HR : Hid (RowT B w a c ks) := hr
 have HS : Hid (∀ s ∈ ks, ∀ w, s.In B w → B ≤ w.heap.size → Tab w → gB ≤ w.heap.size → Calls Tryz.prog 70 #[.agg s.cells.toArray] w fun r w' => r = .returned (.bool (mayT s.th)) ∧ Below w.heap.size w w') := hS
 clear hS
 clear hr
 go_enter Tryz.func69, Tryz.ntmps69
 go_wp2_with fail
 go_loopw [9] (fun j wr => ∃ i : Nat, j = .int .i64 (i : Int) ∧ i ≤ n ∧ Hid (Below w.heap.size w wr ∧ ∀ s ∈ (ks.take i).map TT.th, mayT s = true)) (fun j _ => n - (intOf j).toNat)
 case atStart => exact ⟨0, rfl, by omega, Below.refl _ _, by simp⟩
 case round =>
  obtain ⟨i, rfl, hi, hX⟩ := hrel
  by_cases hc : i < n
  ·obtain ⟨s, hs⟩ : ∃ k, ks[i]? = some k := ⟨ks[i]'(by rw [← hn.out]; exact hc), by rw [List.getElem?_eq_getElem]⟩
   obtain ⟨hbw, hall⟩ := hX.out
   have hold : Old B w wr := Old.of_below hbw hBw
   have hBr : B ≤ wr.heap.size := by have := hbw.size; omega
   have h16r : gB ≤ wr.heap.size := by have := hbw.size; omega
   have hTr := hT.below hbw h16
   obtain ⟨g1, o1, rfl, hg1, hr1, hs1⟩ := (HR.out.old hold).at i s hs
   clear hX hold HR
   go_wp2_with (first
    | ((with_reducible show wpList _ _ _ _ _ _); refine wpList_load_mid (P := Tryz.prog) rfl 59 (.tmp 11) rfl g1 (o1 + i * 3) (by first | rfl | (simp; done)) s.cells _ hr1 Tryz.underlying59 rfl i42 ?_)
    | ((with_reducible show wpList _ _ _ _ _ _); refine wpList_alloc_at rfl 59 rfl _ 3 z42 ?_; intro w2 hA2 hb2 hs2)
    | ((with_reducible show wpList _ _ _ _ _ _); refine wpList_store_at (P := Tryz.prog) rfl 59 (.tmp 6) (.tmp 12) rfl wr.heap.size s.cells rfl rfl 59 _ hA2 i42 rfl s.one ?_; intro w3 hA3 hb3 hs3; refine Hid.out ?_))
   refine hidU ?_
   have hB3 : Below wr.heap.size wr w3 := hb3.below hb2 (Nat.le_refl _) (by omega)
   have hw3 : Below w.heap.size w w3 := hbw.trans (hB3.mono hbw.size)
   have hI := HS.out s (List.mem_of_getElem? hs) w3 (hs1.old (Old.of_below hB3 hBr)) (by have := hB3.size; omega) (hTr.below hB3 h16r) (by have := hB3.size; omega)
   obtain ⟨M, hM⟩ : ∃ M, Hid (M = mayT (TT.th s)) := ⟨_, (rfl : _ = mayT (TT.th s))⟩
   rw [← hM.out] at hI
   have hA3' := hA3
   clear hb3 hb2 hA2 hr1 hs2 hs3 hA3 hB3 hbw hs1
   go_wp2_with (first
    | ((with_reducible show wpList _ _ _ _ _ _); refine wpList_load_at (P := Tryz.prog) rfl 59 (.tmp 6) rfl wr.heap.size rfl 59 s.cells hA3' _ Tryz.underlying59 rfl i42 ?_))
   refine hI.mono ?_
   rintro r w6 ⟨rfl, hb6⟩
   have hw6 : Below w.heap.size w w6 := hw3.trans (hb6.mono hw3.size)
   clear hI hb6 hw3 hA3'
   cases M with
   | false =>
    have hRf : R = false := by
     rw [hR.out, List.all_eq_false]
     exact ⟨TT.th s, List.mem_map.2 ⟨s, List.mem_of_getElem? hs, rfl⟩, by rw [← hM.out]; simp⟩
    go_wp2
    go_ret
    exact ⟨by rw [hRf]; rfl, hw6⟩
   | true =>
    go_wp2
    go_roundw
    case rel =>
     refine ⟨i + 1, by go_num, by omega, hw6, fun x hx => ?_⟩
     rw [List.take_add_one, hs, List.map_append, List.mem_append] at hx
     rcases hx with hx | hx
     ·exact hall x hx
     ·simp at hx; rw [hx]; exact hM.out.symm
    case measure => simp [intOf]; omega
  ·have hin : i = n := by omega
   obtain ⟨hbw, hall⟩ := hX.out
   have hRt : R = true := by
    rw [hR.out, List.all_eq_true]
    intro s hs
    exact hall s (by rw [hin, hn.out, List.take_length]; exact hs)
   clear hX hall hin HR
   go_wp2
   go_ret
   exact ⟨by rw [hRt]; rfl, hbw⟩

end Go.Proofs.YtcmahiphfpgadaaGreatDoor

/- Whether threads and programs may be printed. -/
namespace Go.Proofs.YtcmahiphfpgadaaGreatDoor
open Go.RowKit
set_option linter.unusedVariables false

set_option maxRecDepth 100000 in
set_option maxHeartbeats 1600000 in
theorem mayThread_at (nm : ByteArray) (s1 s2 : Value) (p1 p2 p3 : Bool) (w : World) (h1 : AskB w 68 #[.string nm] p1) (h2 : AskB w 65 #[s1, .func (.func 66) #[] #[]] p2) (h3 : AskB w 97 #[s2, .int .i64 0] p3) :
  Calls Tryz.prog 70 #[.agg [.string nm, s1, s2].toArray] w fun r w' => r = .returned (.bool (p1 && (p2 && p3))) ∧ Below w.heap.size w w' := by
 obtain ⟨R, hR⟩ : ∃ R, Hid (R = (p1 && (p2 && p3))) := ⟨_, (rfl : _ = (p1 && (p2 && p3)))⟩
 rw [← hR.out]
 have H1 : Hid (AskB w 68 #[.string nm] p1) := h1
 have H2 : Hid (AskB w 65 #[s1, .func (.func 66) #[] #[]] p2) := h2
 have H3 : Hid (AskB w 97 #[s2, .int .i64 0] p3) := h3
 clear h1 h2 h3
 go_enter Tryz.func70, Tryz.ntmps70
 go_wp2_with (first
  | ((with_reducible show wpList _ _ _ _ _ _); refine wpList_box_at rfl 59 (.tmp 0) rfl [.string nm, s1, s2] rfl ?_; intro w1 hA1 hb1 hs1; clear hs1; refine Hid.out ?_))
 refine hidU ?_
 have c0 : w1.cell? ⟨w.heap.size, 0, none⟩ = some (.string nm) := by rw [hA1.cell]; rfl
 go_wp2_with fail
 refine (H1.out _ hb1).mono ?_
 rintro r w2 ⟨rfl, hb2⟩
 have hA2 := hA1.below hb2
 have hw2 := hb1.trans (hb2.mono hb1.size)
 clear hA1 hb2 hb1 c0
 have c1 : w2.cell? ⟨w.heap.size, 1, none⟩ = some s1 := by rw [hA2.cell]; rfl
 cases p1 with
 | false =>
  go_wp2_with fail
  go_ret
  exact ⟨by rw [hR.out]; rfl, hw2⟩
 | true =>
  go_wp2_with fail
  refine (H2.out _ hw2).mono ?_
  rintro r w3 ⟨rfl, hb3⟩
  have hA3 := hA2.below hb3
  have hw3 := hw2.trans (hb3.mono hw2.size)
  clear hA2 hb3 hw2 c1
  have c2 : w3.cell? ⟨w.heap.size, 2, none⟩ = some s2 := by rw [hA3.cell]; rfl
  cases p2 with
  | false =>
   go_wp2_with fail
   go_ret
   exact ⟨by rw [hR.out]; rfl, hw3⟩
  | true =>
   go_wp2_with fail
   refine (H3.out _ hw3).mono ?_
   rintro r w4 ⟨rfl, hb4⟩
   have hw4 := hw3.trans (hb4.mono hw3.size)
   clear hA3 hb4 hw3 c2
   go_wp2_with fail
   go_ret
   exact ⟨by rw [hR.out]; rfl, hw4⟩

theorem mayThread_any (v : TT) (B : Nat) (w : World) (h : v.In B w) (hBw : B ≤ w.heap.size) (hT : Tab w) (h16 : gB ≤ w.heap.size) :
  Calls Tryz.prog 70 #[.agg v.cells.toArray] w fun r w' => r = .returned (.bool (mayT v.th)) ∧ Below w.heap.size w w' := by
 have hsz : ∀ w', Below w.heap.size w w' → B ≤ w'.heap.size ∧ gB ≤ w'.heap.size ∧ Tab w' ∧ Old B w w' := fun w' h => ⟨by have := h.size; omega, by have := h.size; omega, hT.below h h16, Old.of_below h hBw⟩
 exact mayThread_at v.nm (.slice v.a1 v.locals.length v.c1) (.slice v.a2 v.body.length v.c2) (isNm v.nm.data.toList) ((v.locals.map VT.vr).all mayV) (mayB 0 (v.body.map ST.st)) w
  (fun w' h => (name_any v.nm w').mono (by rintro r w2 ⟨rfl, rfl⟩; exact ⟨rfl, Below.refl _ _⟩))
  (fun w' hb => allV_any B v.locals v.a1 v.c1 w' (h.1.old (hsz w' hb).2.2.2) (hsz w' hb).1 (hsz w' hb).2.2.1 (hsz w' hb).2.1)
  (fun w' hb => mayBlock_any B v.body 0 (by decide) v.a2 v.c2 w' (h.2.old (hsz w' hb).2.2.2) (hsz w' hb).1 (hsz w' hb).2.2.1 (hsz w' hb).2.1)

/-- A program, with where its lists lie. -/
structure PT where
 a1 : Option Addr
 c1 : Nat
 shared : List VT
 a2 : Option Addr
 c2 : Nat
 mutexes : List ByteArray
 a3 : Option Addr
 c3 : Nat
 threads : List TT
def PT.cells (p : PT) : List Value := [.slice p.a1 p.shared.length p.c1, .slice p.a2 p.mutexes.length p.c2, .slice p.a3 p.threads.length p.c3]
def PT.pg (p : PT) : Pg := ⟨p.shared.map VT.vr, p.mutexes.map (fun s => s.data.toList), p.threads.map TT.th⟩
def PT.In (B : Nat) (w : World) (p : PT) : Prop := RowV B w p.a1 p.c1 p.shared ∧ RowN B w p.a2 p.c2 p.mutexes ∧ RowT B w p.a3 p.c3 p.threads

set_option maxRecDepth 100000 in
set_option maxHeartbeats 1600000 in
theorem mayProgram_at (s1 s2 s3 : Value) (p1 p2 p3 : Bool) (w : World) (h1 : AskB w 65 #[s1, .func (.func 66) #[] #[]] p1) (h2 : AskB w 67 #[s2, .func (.func 68) #[] #[]] p2) (h3 : AskB w 69 #[s3, .func (.func 70) #[] #[]] p3) :
  Calls Tryz.prog 30 #[.agg [s1, s2, s3].toArray] w fun r w' => r = .returned (.bool (p1 && (p2 && p3))) ∧ Below w.heap.size w w' := by
 obtain ⟨R, hR⟩ : ∃ R, Hid (R = (p1 && (p2 && p3))) := ⟨_, (rfl : _ = (p1 && (p2 && p3)))⟩
 rw [← hR.out]
 have H1 : Hid (AskB w 65 #[s1, .func (.func 66) #[] #[]] p1) := h1
 have H2 : Hid (AskB w 67 #[s2, .func (.func 68) #[] #[]] p2) := h2
 have H3 : Hid (AskB w 69 #[s3, .func (.func 70) #[] #[]] p3) := h3
 clear h1 h2 h3
 go_enter Tryz.func30, Tryz.ntmps30
 go_wp2_with (first
  | ((with_reducible show wpList _ _ _ _ _ _); refine wpList_box_at rfl 26 (.tmp 0) rfl [s1, s2, s3] rfl ?_; intro w1 hA1 hb1 hs1; clear hs1; refine Hid.out ?_))
 refine hidU ?_
 have c0 : w1.cell? ⟨w.heap.size, 0, none⟩ = some s1 := by rw [hA1.cell]; rfl
 go_wp2_with fail
 refine (H1.out _ hb1).mono ?_
 rintro r w2 ⟨rfl, hb2⟩
 have hA2 := hA1.below hb2
 have hw2 := hb1.trans (hb2.mono hb1.size)
 clear hA1 hb2 hb1 c0
 have c1 : w2.cell? ⟨w.heap.size, 1, none⟩ = some s2 := by rw [hA2.cell]; rfl
 cases p1 with
 | false =>
  go_wp2_with fail
  go_ret
  exact ⟨by rw [hR.out]; rfl, hw2⟩
 | true =>
  go_wp2_with fail
  refine (H2.out _ hw2).mono ?_
  rintro r w3 ⟨rfl, hb3⟩
  have hA3 := hA2.below hb3
  have hw3 := hw2.trans (hb3.mono hw2.size)
  clear hA2 hb3 hw2 c1
  have c2 : w3.cell? ⟨w.heap.size, 2, none⟩ = some s3 := by rw [hA3.cell]; rfl
  cases p2 with
  | false =>
   go_wp2_with fail
   go_ret
   exact ⟨by rw [hR.out]; rfl, hw3⟩
  | true =>
   go_wp2_with fail
   refine (H3.out _ hw3).mono ?_
   rintro r w4 ⟨rfl, hb4⟩
   have hw4 := hw3.trans (hb4.mono hw3.size)
   clear hA3 hb4 hw3 c2
   go_wp2_with fail
   go_ret
   exact ⟨by rw [hR.out]; rfl, hw4⟩

theorem mayProgram_any (p : PT) (B : Nat) (w : World) (h : p.In B w) (hBw : B ≤ w.heap.size) (hT : Tab w) (h16 : gB ≤ w.heap.size) :
  Calls Tryz.prog 30 #[.agg p.cells.toArray] w fun r w' => r = .returned (.bool (mayP p.pg)) ∧ Below w.heap.size w w' := by
 have hsz : ∀ w', Below w.heap.size w w' → B ≤ w'.heap.size ∧ gB ≤ w'.heap.size ∧ Tab w' ∧ Old B w w' := fun w' h => ⟨by have := h.size; omega, by have := h.size; omega, hT.below h h16, Old.of_below h hBw⟩
 exact mayProgram_at (.slice p.a1 p.shared.length p.c1) (.slice p.a2 p.mutexes.length p.c2) (.slice p.a3 p.threads.length p.c3) ((p.shared.map VT.vr).all mayV) ((p.mutexes.map (fun s => s.data.toList)).all isNm) ((p.threads.map TT.th).all mayT) w
  (fun w' hb => allV_any B p.shared p.a1 p.c1 w' (h.1.old (hsz w' hb).2.2.2) (hsz w' hb).1 (hsz w' hb).2.2.1 (hsz w' hb).2.1)
  (fun w' hb => allN_any B p.mutexes p.a2 p.c2 w' (h.2.1.old (hsz w' hb).2.2.2) (hsz w' hb).1 (hsz w' hb).2.2.1 (hsz w' hb).2.1)
  (fun w' hb => allT_of B p.threads p.a3 p.c3 w' (h.2.2.old (hsz w' hb).2.2.2) (hsz w' hb).1 (hsz w' hb).2.2.1 (hsz w' hb).2.1 (fun s _ w hs hB hT h16 => mayThread_any s B w hs hB hT h16))

end Go.Proofs.YtcmahiphfpgadaaGreatDoor
