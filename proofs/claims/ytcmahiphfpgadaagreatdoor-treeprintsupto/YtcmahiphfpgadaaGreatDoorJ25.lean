/- The document's own line of a statement: a body of some lines. -/
import Derived.Test.YtcmahiphfpgadaaGreatDoorJ24
namespace Go.Proofs.YtcmahiphfpgadaaGreatDoor
open Go.RowKit
set_option linter.unusedVariables false

set_option maxRecDepth 100000 in
set_option maxHeartbeats 12800000 in
theorem refStmt_pos (B d : Nat) (hd : d ≤ 32) (k : Int) (nm : ByteArray) (op t b : Nat) (enm : ByteArray) (ea : Option Addr) (ec : Nat) (eks : List ET) (a1 : Option Addr) (c1 : Nat) (b1 : List ST) (a2 : Option Addr) (c2 : Nat) (b2 : List ST) (hS1 : RbW B (d + 1) b1) (hS2 : RbW B (d + 1) b2) (hk : exOk (ET.mk op t b enm ea ec eks).ex) (hpos : Hid (0 < b1.length)) (hW : stW (ST.mk k nm (.mk op t b enm ea ec eks) a1 c1 b1 a2 c2 b2).st ≤ 1048576) : RsW B d (.mk k nm (.mk op t b enm ea ec eks) a1 c1 b1 a2 c2 b2) := by
  intro w hin hBw
  unfold ST.In at hin
  obtain ⟨⟨k1, k2⟩, z2, z3, z4⟩ := hin
  obtain ⟨en, hen⟩ : ∃ n, Hid (n = eks.length) := ⟨_, (rfl : eks.length = _)⟩
  obtain ⟨n1, hn1⟩ : ∃ n, Hid (n = b1.length) := ⟨_, (rfl : b1.length = _)⟩
  obtain ⟨n2, hn2⟩ : ∃ n, Hid (n = b2.length) := ⟨_, (rfl : b2.length = _)⟩
  have eS : (ST.mk k nm (.mk op t b enm ea ec eks) a1 c1 b1 a2 c2 b2).st = .mk k nm.data.toList (ET.mk op t b enm ea ec eks).ex (b1.map ST.st) (b2.map ST.st) := by
    rw [ST.st, ST.sts_eq, ST.sts_eq]
  rw [eS] at hW
  have eW : stW (.mk k nm.data.toList (ET.mk op t b enm ea ec eks).ex (b1.map ST.st) (b2.map ST.st)) = nm.data.toList.length + 1 + exW (ET.mk op t b enm ea ec eks).ex + stWs (b1.map ST.st) + stWs (b2.map ST.st) := by rw [stW]
  obtain ⟨V, hV⟩ : ∃ V, Hid (V = mayS d (.mk k nm.data.toList (ET.mk op t b enm ea ec eks).ex (b1.map ST.st) (b2.map ST.st))) := ⟨_, (rfl : _ = mayS d (.mk k nm.data.toList (ET.mk op t b enm ea ec eks).ex (b1.map ST.st) (b2.map ST.st)))⟩
  obtain ⟨X, hX⟩ : ∃ X, Hid (X = blT (blk (2 * d + 2)) [.mk k nm.data.toList (ET.mk op t b enm ea ec eks).ex (b1.map ST.st) (b2.map ST.st)]) := ⟨_, (rfl : _ = blT (blk (2 * d + 2)) [.mk k nm.data.toList (ET.mk op t b enm ea ec eks).ex (b1.map ST.st) (b2.map ST.st)])⟩
  obtain ⟨N, hN⟩ : ∃ N, Hid (N = stW (.mk k nm.data.toList (ET.mk op t b enm ea ec eks).ex (b1.map ST.st) (b2.map ST.st))) := ⟨_, (rfl : _ = stW (.mk k nm.data.toList (ET.mk op t b enm ea ec eks).ex (b1.map ST.st) (b2.map ST.st)))⟩
  obtain ⟨T, hT⟩ : ∃ T, Hid (T = rxT (ET.mk op t b enm ea ec eks).ex) := ⟨_, (rfl : _ = rxT (ET.mk op t b enm ea ec eks).ex)⟩
  obtain ⟨E, hE⟩ : ∃ E, Hid (E = rxE (ET.mk op t b enm ea ec eks).ex) := ⟨_, (rfl : _ = rxE (ET.mk op t b enm ea ec eks).ex)⟩
  obtain ⟨Z, hZ⟩ : ∃ Z, Hid (Z = samX (ET.mk op t b enm ea ec eks).ex (.mk 0 0 0 [] [])) := ⟨_, (rfl : _ = samX (ET.mk op t b enm ea ec eks).ex (.mk 0 0 0 [] []))⟩
  obtain ⟨M, hM⟩ : ∃ M, Hid (M = isNm (bytes nm)) := ⟨_, (rfl : _ = isNm (bytes nm))⟩
  obtain ⟨m, hm⟩ : ∃ m, Hid (m = blk (2 * d + 2)) := ⟨_, (rfl : _ = blk (2 * d + 2))⟩
  have hO : ∀ x, Below w.heap.size w x → Old B w x ∧ B ≤ x.heap.size := fun x hx => ⟨Old.of_below hx hBw, by have := hx.size; omega⟩
  have hNe : exW (ET.mk op t b enm ea ec eks).ex ≤ 1048576 := by omega
  have HTL : Hid (T.length ≤ 60 * exW (ET.mk op t b enm ea ec eks).ex) := by
    show _ ≤ _
    rw [hT.out, rxT]
    split
    · exact exT_len _ hk
    · simp
  have HC : Hid (∀ x, Below w.heap.size w x → Calls Tryz.prog 102 #[.int .i64 (d : Int)] x fun e w' => e = .returned (.string ⟨m.toArray⟩) ∧ w' = x) := fun x _ => by rw [hm.out]; exact margin_any d (by omega) x
  have HE : Hid (∀ x, Below w.heap.size w x → Calls Tryz.prog 13 #[.agg #[.int .u8 (op : Int), .int .u8 (t : Int), .int .u64 (b : Int), .string enm, .slice ea en ec]] x fun r w' => r = .returned (.tuple #[.string ⟨T.toArray⟩, .int .i64 E]) ∧ Below x.heap.size x w') := fun x hx => by
    rw [hT.out, hE.out, hen.out]
    exact refExprP_any B (.mk op t b enm ea ec eks) hNe x (z2.old (hO x hx).1) (hO x hx).2
  have HZ : Hid (∀ x, Below w.heap.size w x → Calls Tryz.prog 103 #[.agg #[.int .u8 (op : Int), .int .u8 (t : Int), .int .u64 (b : Int), .string enm, .slice ea en ec]] x fun r w' => r = .returned (.bool Z) ∧ Below x.heap.size x w') := fun x hx => by
    rw [hZ.out, hen.out]
    exact refNone_any B (.mk op t b enm ea ec eks) x (z2.old (hO x hx).1) (hO x hx).2
  have HM : Hid (∀ x, Calls Tryz.prog 35 #[.string nm] x fun e w' => e = .returned (.bool M) ∧ Below x.heap.size x w') := fun x => by rw [hM.out]; exact refName_any nm x
  have H1 : Hid (∀ x, Below w.heap.size w x → Calls Tryz.prog 36 #[.slice a1 n1 c1, .int .i64 ((d : Int) + 1)] x fun r w' => Hid (∃ s : List UInt8, r = .returned (.tuple #[.string ⟨s.toArray⟩, .bool (mayB (d + 1) (b1.map ST.st))]) ∧ (mayB (d + 1) (b1.map ST.st) = true → s = blT (blk (2 * (d + 1) + 2)) (b1.map ST.st)) ∧ s.length ≤ 1000 * stWs (b1.map ST.st)) ∧ Below x.heap.size x w') := fun x hx => by
    rw [hn1.out]
    exact hS1 a1 c1 x (RowS.old z3 (hO x hx).1) (hO x hx).2
  have H2 : Hid (∀ x, Below w.heap.size w x → Calls Tryz.prog 36 #[.slice a2 n2 c2, .int .i64 ((d : Int) + 1)] x fun r w' => Hid (∃ s : List UInt8, r = .returned (.tuple #[.string ⟨s.toArray⟩, .bool (mayB (d + 1) (b2.map ST.st))]) ∧ (mayB (d + 1) (b2.map ST.st) = true → s = blT (blk (2 * (d + 1) + 2)) (b2.map ST.st)) ∧ s.length ≤ 1000 * stWs (b2.map ST.st)) ∧ Below x.heap.size x w') := fun x hx => by
    rw [hn2.out]
    exact hS2 a2 c2 x (RowS.old z4 (hO x hx).1) (hO x hx).2
  have hnm := ba_nil nm
  have hl1 : n1 ≤ 1048576 := by rw [hn1.out]; exact z3.1
  have hl2 : n2 ≤ 1048576 := by rw [hn2.out]; exact z4.1
  have hN1 : N ≤ 1048576 := by rw [hN.out]; exact hW
  have HW : Hid (N = nm.data.toList.length + 1 + exW (ET.mk op t b enm ea ec eks).ex + stWs (b1.map ST.st) + stWs (b2.map ST.st)) := by show _ = _; rw [hN.out, eW]
  show Calls Tryz.prog 77 #[.agg (st9 k nm (ex5 op t b enm (.slice ea eks.length ec)) (.slice a1 b1.length c1) (.slice a2 b2.length c2)).toArray, .int .i64 (d : Int)] w _
  rw [eS, ← hV.out, ← hX.out, ← hN.out, ← hen.out, ← hn1.out, ← hn2.out]
  clear z2 z3 z4 hS1 hS2 hW eW eS hO hNe
  go_enter Tryz.func77, Tryz.ntmps77
  go_wp2_with (first
    | ((with_reducible show wpList _ _ _ _ _ _); refine wpList_box_at rfl 87 (.tmp 0) rfl (st9 k nm (ex5 op t b enm (.slice ea en ec)) (.slice a1 n1 c1) (.slice a2 n2 c2)) rfl ?_; intro w1 hA1 hb1 hs1; clear hs1; refine Hid.out ?_))
  refine hidU ?_
  obtain ⟨p0, p1, p2, p3, p4, p5, p6, p7, p8⟩ := st_cells hA1
  have hlt : w.heap.size < w1.heap.size := hA1.lt
  have hC := HC.out w1 hb1
  have hC13 := HE.out w1 hb1
  go_wp2_with (first
    | (go_at_call 102; refine hC.mono ?_; rintro r z ⟨rfl, rfl⟩)
    | (go_at_call 13; refine hC13.mono ?_; rintro r w2 ⟨rfl, hb2⟩; refine Hid.out ?_))
  refine hidU ?_
  have hA2 := hA1.below hb2
  have hw2 := hb1.trans (hb2.mono hb1.size)
  clear p0 p1 p2 p3 p4 p5 p6 p7 p8 hC hC13 HC HE hb1 hb2
  obtain ⟨p0, p1, p2, p3, p4, p5, p6, p7, p8⟩ := st_cells hA2
  have hlt2 : w.heap.size < w2.heap.size := hA2.lt
  have hC35 := HM.out w2
  go_wp2_with (go_at_call 35; refine hC35.mono ?_; rintro r w3 ⟨rfl, hb3⟩; refine Hid.out ?_)
  refine hidU ?_
  have hA3 := hA2.below hb3
  have hw3 := hw2.trans (hb3.mono hw2.size)
  clear p0 p1 p2 p3 p4 p5 p6 p7 p8 hC35 HM hb3 hA2 hw2 hA1 hlt hlt2
  obtain ⟨p0, p1, p2, p3, p4, p5, p6, p7, p8⟩ := st_cells hA3
  have hlt3 : w.heap.size < w3.heap.size := hA3.lt
  obtain ⟨Q, hQ⟩ : ∃ Q, Hid (Q = decide (nm.data.toList = [])) := ⟨_, (rfl : _ = decide (nm.data.toList = []))⟩
  rw [← hQ.out] at hnm
  have hL : ∃ L, Hid (L = (decide (n1 = 0) && decide (n2 = 0))) := ⟨_, (rfl : _ = (decide (n1 = 0) && decide (n2 = 0)))⟩
  obtain ⟨L, hL⟩ := hL
  have hms : (⟨m.toArray⟩ : ByteArray).size = m.length := size_mk m
  have hml : m.length ≤ 100 := by rw [hm.out]; simp [blk]; omega
  have hTs : (⟨T.toArray⟩ : ByteArray).size = T.length := size_mk T
  have hTl : T.length ≤ 62914560 := by have := HTL.out; have := HW.out; omega
  have hns : nm.size ≤ 1048576 := by have := HW.out; have : nm.size = nm.data.toList.length := rfl; omega
  have HB : Hid (((b1.map ST.st).isEmpty && (b2.map ST.st).isEmpty) = L) := by
    show _ = _
    rw [hL.out, hn1.out, hn2.out]
    cases b1 <;> cases b2 <;> simp
  have HME : Hid (mayE 32 (ET.mk op t b enm ea ec eks).ex = decide (E = 0)) := by
    show _ = _
    rw [hE.out, rxE]
    cases mayE 32 (ET.mk op t b enm ea ec eks).ex <;> simp
  have HTX : Hid (mayE 32 (ET.mk op t b enm ea ec eks).ex = true → T = exT (ET.mk op t b enm ea ec eks).ex) := fun h => by
    rw [hT.out, rxT, if_pos h]
  have HMN : Hid (isNm nm.data.toList = M) := by
    show _ = _
    rw [hM.out]
    congr 1
  clear hT hE hM hen
  have HI2 : Hid ((b2.map ST.st).isEmpty = decide (n2 = 0)) := by show _ = _; rw [hn2.out]; cases b2 <;> simp
  have HY2 : Hid (mayB (d + 1) (b2.map ST.st) = false → (b2.map ST.st).isEmpty = false) := fun h => by
    cases b2 with
    | nil => rw [List.map_nil, mayB] at h; cases h
    | cons x r => rfl
  have hbk : blk (2 * d + 2) ++ [32, 32] = blk (2 * (d + 1) + 2) := by
    show List.replicate (2 * d + 2) (32 : UInt8) ++ List.replicate 2 32 = List.replicate (2 * (d + 1) + 2) 32
    rw [List.replicate_append_replicate]
    congr 1
  by_cases hm0 : 0 < n1
  · have HL : Hid (L = false) := by show _ = _; rw [hL.out, decide_eq_false (by omega)]; rfl
    clear hL hn1 hn2
    by_cases hk1 : k = 1
    · subst hk1
      have HVV : Hid (V = (M && (decide (E = 0) && L))) := by
        show _ = _
        rw [hV.out, mayS, if_pos rfl, HME.out, HB.out, HMN.out]
      have HXX : Hid (V = true → m ++ nm.data.toList ++ [32, 61, 32] ++ T ++ [59, 10] = X) := fun h => by
        have h2 : mayE 32 (ET.mk op t b enm ea ec eks).ex = true := by
          rw [HVV.out] at h
          rw [HME.out]
          simp at h ⊢
          exact h.2.1
        rw [hX.out, HTX.out h2, hm.out, blT, blT, stT]
        simp
      have HLN : Hid ((m ++ nm.data.toList ++ [32, 61, 32] ++ T ++ [59, 10]).length ≤ 1000 * N) := by
        have q1 := HTL.out
        have q2 := HW.out
        show _ ≤ _
        simp only [List.length_append, List.length_cons, List.length_nil]
        omega
      have HCT : Hid ((⟨m.toArray⟩ ++ nm ++ ⟨#[32, 61, 32]⟩ ++ ⟨T.toArray⟩ ++ ⟨#[59, 10]⟩ : ByteArray) = ⟨(m ++ nm.data.toList ++ [32, 61, 32] ++ T ++ [59, 10]).toArray⟩) := by
        apply ByteArray.ext
        simp
      clear HB HME HTX HMN H1 H2 HZ HTL HW hX hV hN hQ
      cases M with
      | false =>
        go_wp2
        go_ret2
        exact ⟨hidU ⟨_, by rw [HVV.out, ← HCT.out]; rfl, HXX.out, HLN.out⟩, hw3⟩
      | true =>
        by_cases hE0 : E = 0
        · subst hE0
          go_wp2
          go_ret2
          exact ⟨hidU ⟨_, by rw [HVV.out, HL.out, ← HCT.out]; rfl, HXX.out, HLN.out⟩, hw3⟩
        · go_wp2
          go_ret2
          exact ⟨hidU ⟨_, by rw [HVV.out, decide_eq_false hE0, ← HCT.out]; rfl, HXX.out, HLN.out⟩, hw3⟩
    · skip
      by_cases hk2 : k = 2
      · subst hk2
        have HVV : Hid (V = (M && (Z && L))) := by
          show _ = _
          rw [hV.out, mayS, if_neg (by decide), if_pos (.inl rfl), HB.out, HMN.out, hZ.out]
          rfl
        have HXX : Hid (V = true → m ++ [108, 111, 99, 107, 32] ++ nm.data.toList ++ [59, 10] = X) := fun _ => by
          rw [hX.out, hm.out, blT, blT, stT]
          simp
        have HLN : Hid ((m ++ [108, 111, 99, 107, 32] ++ nm.data.toList ++ [59, 10]).length ≤ 1000 * N) := by
          have q2 := HW.out
          show _ ≤ _
          simp only [List.length_append, List.length_cons, List.length_nil]
          omega
        have HCT : Hid ((⟨m.toArray⟩ ++ ⟨#[108, 111, 99, 107, 32]⟩ ++ nm ++ ⟨#[59, 10]⟩ : ByteArray) = ⟨(m ++ [108, 111, 99, 107, 32] ++ nm.data.toList ++ [59, 10]).toArray⟩) := by
          apply ByteArray.ext
          simp
        have hB0 : Below w3.heap.size w3 w3.drew := Below.drew (Below.refl _ _)
        have hS0 := hA3.below hB0
        have hC := HZ.out w3.drew (hw3.trans (hB0.mono hw3.size))
        clear HB HME HTX HMN H1 H2 HZ HTL HW hX hV hN hQ hZ HI2 HY2
        cases M with
        | false =>
          go_wp2_with fail
          refine wp_region_held_drew (S := fun x => At 87 x w.heap.size (st9 2 nm (ex5 op t b enm (.slice ea en ec)) (.slice a1 n1 c1) (.slice a2 n2 c2))) (by kernel_rfl) hS0 (fun _ => ?_)
          refine wpAnyH_take (i := 0) (oi := { dst := some 62, op := .move (.tmp 6), guard := none, .. }) (v := .string ⟨m.toArray⟩) rfl (by kernel_rfl) (by kernel_rfl) (by kernel_rfl) (fun _ _ _ h => h) (Or.inl ⟨by rfl, ?_⟩) hS0 ?_
          · intro w hSw
            go_simp
            all_goals first | omega | skip
          simp only [Act.put, sA, sB, sC]
          refine wpAnyH_take (i := 1) (oi := { dst := some 63, op := .binOp .add 9 (.tmp 62) (.const (.string ⟨#[108, 111, 99, 107, 32]⟩)) 9, guard := none, .. }) (v := .string (⟨m.toArray⟩ ++ ⟨#[108, 111, 99, 107, 32]⟩)) rfl (by kernel_rfl) (by kernel_rfl) (by kernel_rfl) (fun _ _ _ h => h) (Or.inl ⟨by rfl, ?_⟩) hS0 ?_
          · intro w hSw
            go_simp
            all_goals first | omega | skip
          simp only [Act.put, sA, sB, sC]
          refine wpAnyH_take (i := 2) (oi := { dst := some 64, op := .fieldAddr 87 (.tmp 2) 1, guard := none, .. }) (v := .pointer (some ⟨w.heap.size, 1, none⟩)) rfl (by kernel_rfl) (by kernel_rfl) (by kernel_rfl) (fun _ _ _ h => h) (Or.inl ⟨by rfl, ?_⟩) hS0 ?_
          · intro w hSw
            go_simp
            all_goals first | omega | skip
          simp only [Act.put, sA, sB, sC]
          refine wpAnyH_take (i := 3) (oi := { dst := some 65, op := .load 9 (.tmp 64), guard := none, .. }) (v := .string nm) rfl (by kernel_rfl) (by kernel_rfl) (by kernel_rfl) (fun _ _ _ h => h) (Or.inl ⟨by rfl, ?_⟩) hS0 ?_
          · intro w hSw
            obtain ⟨z0, z1, z2, z3, z4, z5, z6, z7, z8⟩ := st_cells hSw
            go_simp
            all_goals first | omega | skip
          simp only [Act.put, sA, sB, sC]
          refine wpAnyH_take (i := 4) (oi := { dst := some 66, op := .binOp .add 9 (.tmp 63) (.tmp 65) 9, guard := none, .. }) (v := .string (⟨m.toArray⟩ ++ ⟨#[108, 111, 99, 107, 32]⟩ ++ nm)) rfl (by kernel_rfl) (by kernel_rfl) (by kernel_rfl) (fun _ _ _ h => h) (Or.inl ⟨by rfl, ?_⟩) hS0 ?_
          · intro w hSw
            go_simp
            all_goals first | omega | skip
          simp only [Act.put, sA, sB, sC]
          refine wpAnyH_take (i := 5) (oi := { dst := some 67, op := .binOp .add 9 (.tmp 66) (.const (.string ⟨#[59, 10]⟩)) 9, guard := none, .. }) (v := .string (⟨m.toArray⟩ ++ ⟨#[108, 111, 99, 107, 32]⟩ ++ nm ++ ⟨#[59, 10]⟩)) rfl (by kernel_rfl) (by kernel_rfl) (by kernel_rfl) (fun _ _ _ h => h) (Or.inl ⟨by rfl, ?_⟩) hS0 ?_
          · intro w hSw
            go_simp
            all_goals first | omega | skip
          simp only [Act.put, sA, sB, sC]
          refine wpAnyH_take (i := 6) (oi := { dst := some 68, op := .move (.tmp 9), guard := none, .. }) (v := .bool false) rfl (by kernel_rfl) (by kernel_rfl) (by kernel_rfl) (fun _ _ _ h => h) (Or.inl ⟨by rfl, ?_⟩) hS0 ?_
          · intro w hSw
            go_simp
            all_goals first | omega | skip
          simp only [Act.put, sA, sB, sC]
          refine wpAnyH_take (i := 7) (oi := { dst := some 69, op := .move (.tmp 68), guard := none, .. }) (v := .bool false) rfl (by kernel_rfl) (by kernel_rfl) (by kernel_rfl) (fun _ _ _ h => h) (Or.inl ⟨by rfl, ?_⟩) hS0 ?_
          · intro w hSw
            go_simp
            all_goals first | omega | skip
          simp only [Act.put, sA, sB, sC]
          refine wpAnyH_take (i := 8) (oi := { dst := some 70, op := .fieldAddr 87 (.tmp 2) 2, guard := some (7, true), .. }) (v := undef) rfl (by kernel_rfl) (by kernel_rfl) (by kernel_rfl) (fun _ _ _ h => h) (Or.inr ⟨by rfl, rfl⟩) hS0 ?_
          simp only [Act.put, sA, sB, sC]
          refine wpAnyH_take (i := 9) (oi := { dst := some 71, op := .load 34 (.tmp 70), guard := some (7, true), .. }) (v := undef) rfl (by kernel_rfl) (by kernel_rfl) (by kernel_rfl) (fun _ _ _ h => h) (Or.inr ⟨by rfl, rfl⟩) hS0 ?_
          simp only [Act.put, sA, sB, sC]
          refine wpAnyH_take (i := 10) (oi := { dst := some 72, op := .call { callee := .value (.func 103), args := #[.tmp 71], argTypes := #[34] }, guard := some (7, true), .. }) (v := undef) rfl (by kernel_rfl) (by kernel_rfl) (by kernel_rfl) (fun _ _ _ h => h) (Or.inr ⟨by rfl, rfl⟩) hS0 ?_
          simp only [Act.put, sA, sB, sC]
          refine wpAnyH_take (i := 11) (oi := { dst := some 73, op := .pick (.tmp 69) (.tmp 72) (.const (.bool false)), guard := none, .. }) (v := .bool false) rfl (by kernel_rfl) (by kernel_rfl) (by kernel_rfl) (fun _ _ _ h => h) (Or.inl ⟨by rfl, ?_⟩) hS0 ?_
          · intro w hSw
            go_simp
            all_goals first | omega | skip
          simp only [Act.put, sA, sB, sC]
          refine wpAnyH_take (i := 12) (oi := { dst := some 74, op := .move (.tmp 73), guard := none, .. }) (v := .bool false) rfl (by kernel_rfl) (by kernel_rfl) (by kernel_rfl) (fun _ _ _ h => h) (Or.inl ⟨by rfl, ?_⟩) hS0 ?_
          · intro w hSw
            go_simp
            all_goals first | omega | skip
          simp only [Act.put, sA, sB, sC]
          refine wpAnyH_take (i := 13) (oi := { dst := some 75, op := .move (.tmp 11), guard := some (12, true), .. }) (v := undef) rfl (by kernel_rfl) (by kernel_rfl) (by kernel_rfl) (fun _ _ _ h => h) (Or.inr ⟨by rfl, rfl⟩) hS0 ?_
          simp only [Act.put, sA, sB, sC]
          refine wpAnyH_take (i := 14) (oi := { dst := some 76, op := .pick (.tmp 74) (.tmp 75) (.const (.bool false)), guard := none, .. }) (v := .bool false) rfl (by kernel_rfl) (by kernel_rfl) (by kernel_rfl) (fun _ _ _ h => h) (Or.inl ⟨by rfl, ?_⟩) hS0 ?_
          · intro w hSw
            go_simp
            all_goals first | omega | skip
          simp only [Act.put, sA, sB, sC]
          refine wpAnyH_take (i := 15) (oi := { dst := some 4, op := .assign (.tmp 67), guard := none, .. }) (v := .string (⟨m.toArray⟩ ++ ⟨#[108, 111, 99, 107, 32]⟩ ++ nm ++ ⟨#[59, 10]⟩)) rfl (by kernel_rfl) (by kernel_rfl) (by kernel_rfl) (fun _ _ _ h => h) (Or.inl ⟨by rfl, ?_⟩) hS0 ?_
          · intro w hSw
            go_simp
            all_goals first | omega | skip
          simp only [Act.put, sA, sB, sC]
          refine wpAnyH_take (i := 16) (oi := { dst := some 5, op := .assign (.tmp 76), guard := none, .. }) (v := .bool false) rfl (by kernel_rfl) (by kernel_rfl) (by kernel_rfl) (fun _ _ _ h => h) (Or.inl ⟨by rfl, ?_⟩) hS0 ?_
          · intro w hSw
            go_simp
            all_goals first | omega | skip
          simp only [Act.put, sA, sB, sC]
          refine wpAnyH_done (by kernel_rfl) ?_ _
          have hwf := hw3.trans (hB0.mono hw3.size)
          go_wp2
          go_ret2
          exact ⟨hidU ⟨_, by rw [HVV.out, ← HCT.out]; rfl, HXX.out, HLN.out⟩, hwf⟩
        | true =>
          cases Z with
          | false =>
            go_wp2_with fail
            refine wp_region_held_drew (S := fun x => At 87 x w.heap.size (st9 2 nm (ex5 op t b enm (.slice ea en ec)) (.slice a1 n1 c1) (.slice a2 n2 c2))) (by kernel_rfl) hS0 (fun _ => ?_)
            refine wpAnyH_take (i := 0) (oi := { dst := some 62, op := .move (.tmp 6), guard := none, .. }) (v := .string ⟨m.toArray⟩) rfl (by kernel_rfl) (by kernel_rfl) (by kernel_rfl) (fun _ _ _ h => h) (Or.inl ⟨by rfl, ?_⟩) hS0 ?_
            · intro w hSw
              go_simp
              all_goals first | omega | skip
            simp only [Act.put, sA, sB, sC]
            refine wpAnyH_take (i := 1) (oi := { dst := some 63, op := .binOp .add 9 (.tmp 62) (.const (.string ⟨#[108, 111, 99, 107, 32]⟩)) 9, guard := none, .. }) (v := .string (⟨m.toArray⟩ ++ ⟨#[108, 111, 99, 107, 32]⟩)) rfl (by kernel_rfl) (by kernel_rfl) (by kernel_rfl) (fun _ _ _ h => h) (Or.inl ⟨by rfl, ?_⟩) hS0 ?_
            · intro w hSw
              go_simp
              all_goals first | omega | skip
            simp only [Act.put, sA, sB, sC]
            refine wpAnyH_take (i := 2) (oi := { dst := some 64, op := .fieldAddr 87 (.tmp 2) 1, guard := none, .. }) (v := .pointer (some ⟨w.heap.size, 1, none⟩)) rfl (by kernel_rfl) (by kernel_rfl) (by kernel_rfl) (fun _ _ _ h => h) (Or.inl ⟨by rfl, ?_⟩) hS0 ?_
            · intro w hSw
              go_simp
              all_goals first | omega | skip
            simp only [Act.put, sA, sB, sC]
            refine wpAnyH_take (i := 3) (oi := { dst := some 65, op := .load 9 (.tmp 64), guard := none, .. }) (v := .string nm) rfl (by kernel_rfl) (by kernel_rfl) (by kernel_rfl) (fun _ _ _ h => h) (Or.inl ⟨by rfl, ?_⟩) hS0 ?_
            · intro w hSw
              obtain ⟨z0, z1, z2, z3, z4, z5, z6, z7, z8⟩ := st_cells hSw
              go_simp
              all_goals first | omega | skip
            simp only [Act.put, sA, sB, sC]
            refine wpAnyH_take (i := 4) (oi := { dst := some 66, op := .binOp .add 9 (.tmp 63) (.tmp 65) 9, guard := none, .. }) (v := .string (⟨m.toArray⟩ ++ ⟨#[108, 111, 99, 107, 32]⟩ ++ nm)) rfl (by kernel_rfl) (by kernel_rfl) (by kernel_rfl) (fun _ _ _ h => h) (Or.inl ⟨by rfl, ?_⟩) hS0 ?_
            · intro w hSw
              go_simp
              all_goals first | omega | skip
            simp only [Act.put, sA, sB, sC]
            refine wpAnyH_take (i := 5) (oi := { dst := some 67, op := .binOp .add 9 (.tmp 66) (.const (.string ⟨#[59, 10]⟩)) 9, guard := none, .. }) (v := .string (⟨m.toArray⟩ ++ ⟨#[108, 111, 99, 107, 32]⟩ ++ nm ++ ⟨#[59, 10]⟩)) rfl (by kernel_rfl) (by kernel_rfl) (by kernel_rfl) (fun _ _ _ h => h) (Or.inl ⟨by rfl, ?_⟩) hS0 ?_
            · intro w hSw
              go_simp
              all_goals first | omega | skip
            simp only [Act.put, sA, sB, sC]
            refine wpAnyH_take (i := 6) (oi := { dst := some 68, op := .move (.tmp 9), guard := none, .. }) (v := .bool true) rfl (by kernel_rfl) (by kernel_rfl) (by kernel_rfl) (fun _ _ _ h => h) (Or.inl ⟨by rfl, ?_⟩) hS0 ?_
            · intro w hSw
              go_simp
              all_goals first | omega | skip
            simp only [Act.put, sA, sB, sC]
            refine wpAnyH_take (i := 7) (oi := { dst := some 69, op := .move (.tmp 68), guard := none, .. }) (v := .bool true) rfl (by kernel_rfl) (by kernel_rfl) (by kernel_rfl) (fun _ _ _ h => h) (Or.inl ⟨by rfl, ?_⟩) hS0 ?_
            · intro w hSw
              go_simp
              all_goals first | omega | skip
            simp only [Act.put, sA, sB, sC]
            refine wpAnyH_take (i := 8) (oi := { dst := some 70, op := .fieldAddr 87 (.tmp 2) 2, guard := some (7, true), .. }) (v := .pointer (some ⟨w.heap.size, 2, none⟩)) rfl (by kernel_rfl) (by kernel_rfl) (by kernel_rfl) (fun _ _ _ h => h) (Or.inl ⟨by rfl, ?_⟩) hS0 ?_
            · intro w hSw
              go_simp
              all_goals first | omega | skip
            simp only [Act.put, sA, sB, sC]
            refine wpAnyH_take (i := 9) (oi := { dst := some 71, op := .load 34 (.tmp 70), guard := some (7, true), .. }) (v := .agg #[.int .u8 (op : Int), .int .u8 (t : Int), .int .u64 (b : Int), .string enm, .slice ea en ec]) rfl (by kernel_rfl) (by kernel_rfl) (by kernel_rfl) (fun _ _ _ h => h) (Or.inl ⟨by rfl, ?_⟩) hS0 ?_
            · intro w hSw
              obtain ⟨z0, z1, z2, z3, z4, z5, z6, z7, z8⟩ := st_cells hSw
              go_simp
              all_goals first | omega | skip
            simp only [Act.put, sA, sB, sC]
            refine wpAnyH_ready (rs := [10]) (by kernel_rfl) (by simp) ?_
            refine AllReadyH.cons (o := { dst := some 72, op := .call { callee := .value (.func 103), args := #[.tmp 71], argTypes := #[34] }, guard := some (7, true), .. }) rfl (fun K hK => ?_) AllReadyH.nil
            rw [if_pos (by rfl)]
            go_wp2_with (go_at_call 103; refine hC.mono ?_; rintro e x ⟨rfl, hb4⟩)
            have hB1 := hB0.trans (hb4.mono hB0.size)
            have hS1 := hA3.below hB1
            refine hK.out _ _ hS1 (fun _ => ?_)
            refine wpAnyH_take (i := 11) (oi := { dst := some 73, op := .pick (.tmp 69) (.tmp 72) (.const (.bool false)), guard := none, .. }) (v := .bool false) rfl (by kernel_rfl) (by kernel_rfl) (by kernel_rfl) (fun _ _ _ h => h) (Or.inl ⟨by rfl, ?_⟩) hS1 ?_
            · intro w hSw
              go_simp
              all_goals first | omega | skip
            simp only [Act.put, sA, sB, sC]
            refine wpAnyH_take (i := 12) (oi := { dst := some 74, op := .move (.tmp 73), guard := none, .. }) (v := .bool false) rfl (by kernel_rfl) (by kernel_rfl) (by kernel_rfl) (fun _ _ _ h => h) (Or.inl ⟨by rfl, ?_⟩) hS1 ?_
            · intro w hSw
              go_simp
              all_goals first | omega | skip
            simp only [Act.put, sA, sB, sC]
            refine wpAnyH_take (i := 13) (oi := { dst := some 75, op := .move (.tmp 11), guard := some (12, true), .. }) (v := undef) rfl (by kernel_rfl) (by kernel_rfl) (by kernel_rfl) (fun _ _ _ h => h) (Or.inr ⟨by rfl, rfl⟩) hS1 ?_
            simp only [Act.put, sA, sB, sC]
            refine wpAnyH_take (i := 14) (oi := { dst := some 76, op := .pick (.tmp 74) (.tmp 75) (.const (.bool false)), guard := none, .. }) (v := .bool false) rfl (by kernel_rfl) (by kernel_rfl) (by kernel_rfl) (fun _ _ _ h => h) (Or.inl ⟨by rfl, ?_⟩) hS1 ?_
            · intro w hSw
              go_simp
              all_goals first | omega | skip
            simp only [Act.put, sA, sB, sC]
            refine wpAnyH_take (i := 15) (oi := { dst := some 4, op := .assign (.tmp 67), guard := none, .. }) (v := .string (⟨m.toArray⟩ ++ ⟨#[108, 111, 99, 107, 32]⟩ ++ nm ++ ⟨#[59, 10]⟩)) rfl (by kernel_rfl) (by kernel_rfl) (by kernel_rfl) (fun _ _ _ h => h) (Or.inl ⟨by rfl, ?_⟩) hS1 ?_
            · intro w hSw
              go_simp
              all_goals first | omega | skip
            simp only [Act.put, sA, sB, sC]
            refine wpAnyH_take (i := 16) (oi := { dst := some 5, op := .assign (.tmp 76), guard := none, .. }) (v := .bool false) rfl (by kernel_rfl) (by kernel_rfl) (by kernel_rfl) (fun _ _ _ h => h) (Or.inl ⟨by rfl, ?_⟩) hS1 ?_
            · intro w hSw
              go_simp
              all_goals first | omega | skip
            simp only [Act.put, sA, sB, sC]
            refine wpAnyH_done (by kernel_rfl) ?_ _
            have hwf := hw3.trans (hB1.mono hw3.size)
            go_wp2
            go_ret2
            exact ⟨hidU ⟨_, by rw [HVV.out, ← HCT.out]; rfl, HXX.out, HLN.out⟩, hwf⟩
          | true =>
            go_wp2_with fail
            refine wp_region_held_drew (S := fun x => At 87 x w.heap.size (st9 2 nm (ex5 op t b enm (.slice ea en ec)) (.slice a1 n1 c1) (.slice a2 n2 c2))) (by kernel_rfl) hS0 (fun _ => ?_)
            refine wpAnyH_take (i := 0) (oi := { dst := some 62, op := .move (.tmp 6), guard := none, .. }) (v := .string ⟨m.toArray⟩) rfl (by kernel_rfl) (by kernel_rfl) (by kernel_rfl) (fun _ _ _ h => h) (Or.inl ⟨by rfl, ?_⟩) hS0 ?_
            · intro w hSw
              go_simp
              all_goals first | omega | skip
            simp only [Act.put, sA, sB, sC]
            refine wpAnyH_take (i := 1) (oi := { dst := some 63, op := .binOp .add 9 (.tmp 62) (.const (.string ⟨#[108, 111, 99, 107, 32]⟩)) 9, guard := none, .. }) (v := .string (⟨m.toArray⟩ ++ ⟨#[108, 111, 99, 107, 32]⟩)) rfl (by kernel_rfl) (by kernel_rfl) (by kernel_rfl) (fun _ _ _ h => h) (Or.inl ⟨by rfl, ?_⟩) hS0 ?_
            · intro w hSw
              go_simp
              all_goals first | omega | skip
            simp only [Act.put, sA, sB, sC]
            refine wpAnyH_take (i := 2) (oi := { dst := some 64, op := .fieldAddr 87 (.tmp 2) 1, guard := none, .. }) (v := .pointer (some ⟨w.heap.size, 1, none⟩)) rfl (by kernel_rfl) (by kernel_rfl) (by kernel_rfl) (fun _ _ _ h => h) (Or.inl ⟨by rfl, ?_⟩) hS0 ?_
            · intro w hSw
              go_simp
              all_goals first | omega | skip
            simp only [Act.put, sA, sB, sC]
            refine wpAnyH_take (i := 3) (oi := { dst := some 65, op := .load 9 (.tmp 64), guard := none, .. }) (v := .string nm) rfl (by kernel_rfl) (by kernel_rfl) (by kernel_rfl) (fun _ _ _ h => h) (Or.inl ⟨by rfl, ?_⟩) hS0 ?_
            · intro w hSw
              obtain ⟨z0, z1, z2, z3, z4, z5, z6, z7, z8⟩ := st_cells hSw
              go_simp
              all_goals first | omega | skip
            simp only [Act.put, sA, sB, sC]
            refine wpAnyH_take (i := 4) (oi := { dst := some 66, op := .binOp .add 9 (.tmp 63) (.tmp 65) 9, guard := none, .. }) (v := .string (⟨m.toArray⟩ ++ ⟨#[108, 111, 99, 107, 32]⟩ ++ nm)) rfl (by kernel_rfl) (by kernel_rfl) (by kernel_rfl) (fun _ _ _ h => h) (Or.inl ⟨by rfl, ?_⟩) hS0 ?_
            · intro w hSw
              go_simp
              all_goals first | omega | skip
            simp only [Act.put, sA, sB, sC]
            refine wpAnyH_take (i := 5) (oi := { dst := some 67, op := .binOp .add 9 (.tmp 66) (.const (.string ⟨#[59, 10]⟩)) 9, guard := none, .. }) (v := .string (⟨m.toArray⟩ ++ ⟨#[108, 111, 99, 107, 32]⟩ ++ nm ++ ⟨#[59, 10]⟩)) rfl (by kernel_rfl) (by kernel_rfl) (by kernel_rfl) (fun _ _ _ h => h) (Or.inl ⟨by rfl, ?_⟩) hS0 ?_
            · intro w hSw
              go_simp
              all_goals first | omega | skip
            simp only [Act.put, sA, sB, sC]
            refine wpAnyH_take (i := 6) (oi := { dst := some 68, op := .move (.tmp 9), guard := none, .. }) (v := .bool true) rfl (by kernel_rfl) (by kernel_rfl) (by kernel_rfl) (fun _ _ _ h => h) (Or.inl ⟨by rfl, ?_⟩) hS0 ?_
            · intro w hSw
              go_simp
              all_goals first | omega | skip
            simp only [Act.put, sA, sB, sC]
            refine wpAnyH_take (i := 7) (oi := { dst := some 69, op := .move (.tmp 68), guard := none, .. }) (v := .bool true) rfl (by kernel_rfl) (by kernel_rfl) (by kernel_rfl) (fun _ _ _ h => h) (Or.inl ⟨by rfl, ?_⟩) hS0 ?_
            · intro w hSw
              go_simp
              all_goals first | omega | skip
            simp only [Act.put, sA, sB, sC]
            refine wpAnyH_take (i := 8) (oi := { dst := some 70, op := .fieldAddr 87 (.tmp 2) 2, guard := some (7, true), .. }) (v := .pointer (some ⟨w.heap.size, 2, none⟩)) rfl (by kernel_rfl) (by kernel_rfl) (by kernel_rfl) (fun _ _ _ h => h) (Or.inl ⟨by rfl, ?_⟩) hS0 ?_
            · intro w hSw
              go_simp
              all_goals first | omega | skip
            simp only [Act.put, sA, sB, sC]
            refine wpAnyH_take (i := 9) (oi := { dst := some 71, op := .load 34 (.tmp 70), guard := some (7, true), .. }) (v := .agg #[.int .u8 (op : Int), .int .u8 (t : Int), .int .u64 (b : Int), .string enm, .slice ea en ec]) rfl (by kernel_rfl) (by kernel_rfl) (by kernel_rfl) (fun _ _ _ h => h) (Or.inl ⟨by rfl, ?_⟩) hS0 ?_
            · intro w hSw
              obtain ⟨z0, z1, z2, z3, z4, z5, z6, z7, z8⟩ := st_cells hSw
              go_simp
              all_goals first | omega | skip
            simp only [Act.put, sA, sB, sC]
            refine wpAnyH_ready (rs := [10]) (by kernel_rfl) (by simp) ?_
            refine AllReadyH.cons (o := { dst := some 72, op := .call { callee := .value (.func 103), args := #[.tmp 71], argTypes := #[34] }, guard := some (7, true), .. }) rfl (fun K hK => ?_) AllReadyH.nil
            rw [if_pos (by rfl)]
            go_wp2_with (go_at_call 103; refine hC.mono ?_; rintro e x ⟨rfl, hb4⟩)
            have hB1 := hB0.trans (hb4.mono hB0.size)
            have hS1 := hA3.below hB1
            refine hK.out _ _ hS1 (fun _ => ?_)
            refine wpAnyH_take (i := 11) (oi := { dst := some 73, op := .pick (.tmp 69) (.tmp 72) (.const (.bool false)), guard := none, .. }) (v := .bool true) rfl (by kernel_rfl) (by kernel_rfl) (by kernel_rfl) (fun _ _ _ h => h) (Or.inl ⟨by rfl, ?_⟩) hS1 ?_
            · intro w hSw
              go_simp
              all_goals first | omega | skip
            simp only [Act.put, sA, sB, sC]
            refine wpAnyH_take (i := 12) (oi := { dst := some 74, op := .move (.tmp 73), guard := none, .. }) (v := .bool true) rfl (by kernel_rfl) (by kernel_rfl) (by kernel_rfl) (fun _ _ _ h => h) (Or.inl ⟨by rfl, ?_⟩) hS1 ?_
            · intro w hSw
              go_simp
              all_goals first | omega | skip
            simp only [Act.put, sA, sB, sC]
            refine wpAnyH_take (i := 13) (oi := { dst := some 75, op := .move (.tmp 11), guard := some (12, true), .. }) (v := .bool false) rfl (by kernel_rfl) (by kernel_rfl) (by kernel_rfl) (fun _ _ _ h => h) (Or.inl ⟨by rfl, ?_⟩) hS1 ?_
            · intro w hSw
              go_simp
              all_goals first | omega | skip
            simp only [Act.put, sA, sB, sC]
            refine wpAnyH_take (i := 14) (oi := { dst := some 76, op := .pick (.tmp 74) (.tmp 75) (.const (.bool false)), guard := none, .. }) (v := .bool false) rfl (by kernel_rfl) (by kernel_rfl) (by kernel_rfl) (fun _ _ _ h => h) (Or.inl ⟨by rfl, ?_⟩) hS1 ?_
            · intro w hSw
              go_simp
              all_goals first | omega | skip
            simp only [Act.put, sA, sB, sC]
            refine wpAnyH_take (i := 15) (oi := { dst := some 4, op := .assign (.tmp 67), guard := none, .. }) (v := .string (⟨m.toArray⟩ ++ ⟨#[108, 111, 99, 107, 32]⟩ ++ nm ++ ⟨#[59, 10]⟩)) rfl (by kernel_rfl) (by kernel_rfl) (by kernel_rfl) (fun _ _ _ h => h) (Or.inl ⟨by rfl, ?_⟩) hS1 ?_
            · intro w hSw
              go_simp
              all_goals first | omega | skip
            simp only [Act.put, sA, sB, sC]
            refine wpAnyH_take (i := 16) (oi := { dst := some 5, op := .assign (.tmp 76), guard := none, .. }) (v := .bool false) rfl (by kernel_rfl) (by kernel_rfl) (by kernel_rfl) (fun _ _ _ h => h) (Or.inl ⟨by rfl, ?_⟩) hS1 ?_
            · intro w hSw
              go_simp
              all_goals first | omega | skip
            simp only [Act.put, sA, sB, sC]
            refine wpAnyH_done (by kernel_rfl) ?_ _
            have hwf := hw3.trans (hB1.mono hw3.size)
            go_wp2
            go_ret2
            exact ⟨hidU ⟨_, by rw [HVV.out, HL.out, ← HCT.out]; rfl, HXX.out, HLN.out⟩, hwf⟩
      · skip
        by_cases hk3 : k = 3
        · subst hk3
          have HVV : Hid (V = (M && (Z && L))) := by
            show _ = _
            rw [hV.out, mayS, if_neg (by decide), if_pos (.inr rfl), HB.out, HMN.out, hZ.out]
            rfl
          have HXX : Hid (V = true → m ++ [117, 110, 108, 111, 99, 107, 32] ++ nm.data.toList ++ [59, 10] = X) := fun _ => by
            rw [hX.out, hm.out, blT, blT, stT]
            simp
          have HLN : Hid ((m ++ [117, 110, 108, 111, 99, 107, 32] ++ nm.data.toList ++ [59, 10]).length ≤ 1000 * N) := by
            have q2 := HW.out
            show _ ≤ _
            simp only [List.length_append, List.length_cons, List.length_nil]
            omega
          have HCT : Hid ((⟨m.toArray⟩ ++ ⟨#[117, 110, 108, 111, 99, 107, 32]⟩ ++ nm ++ ⟨#[59, 10]⟩ : ByteArray) = ⟨(m ++ [117, 110, 108, 111, 99, 107, 32] ++ nm.data.toList ++ [59, 10]).toArray⟩) := by
            apply ByteArray.ext
            simp
          have hB0 : Below w3.heap.size w3 w3.drew := Below.drew (Below.refl _ _)
          have hS0 := hA3.below hB0
          have hC := HZ.out w3.drew (hw3.trans (hB0.mono hw3.size))
          clear HB HME HTX HMN H1 H2 HZ HTL HW hX hV hN hQ hZ HI2 HY2
          cases M with
          | false =>
            go_wp2_with fail
            refine wp_region_held_drew (S := fun x => At 87 x w.heap.size (st9 3 nm (ex5 op t b enm (.slice ea en ec)) (.slice a1 n1 c1) (.slice a2 n2 c2))) (by kernel_rfl) hS0 (fun _ => ?_)
            refine wpAnyH_take (i := 0) (oi := { dst := some 79, op := .move (.tmp 6), guard := none, .. }) (v := .string ⟨m.toArray⟩) rfl (by kernel_rfl) (by kernel_rfl) (by kernel_rfl) (fun _ _ _ h => h) (Or.inl ⟨by rfl, ?_⟩) hS0 ?_
            · intro w hSw
              go_simp
              all_goals first | omega | skip
            simp only [Act.put, sA, sB, sC]
            refine wpAnyH_take (i := 1) (oi := { dst := some 80, op := .binOp .add 9 (.tmp 79) (.const (.string ⟨#[117, 110, 108, 111, 99, 107, 32]⟩)) 9, guard := none, .. }) (v := .string (⟨m.toArray⟩ ++ ⟨#[117, 110, 108, 111, 99, 107, 32]⟩)) rfl (by kernel_rfl) (by kernel_rfl) (by kernel_rfl) (fun _ _ _ h => h) (Or.inl ⟨by rfl, ?_⟩) hS0 ?_
            · intro w hSw
              go_simp
              all_goals first | omega | skip
            simp only [Act.put, sA, sB, sC]
            refine wpAnyH_take (i := 2) (oi := { dst := some 81, op := .fieldAddr 87 (.tmp 2) 1, guard := none, .. }) (v := .pointer (some ⟨w.heap.size, 1, none⟩)) rfl (by kernel_rfl) (by kernel_rfl) (by kernel_rfl) (fun _ _ _ h => h) (Or.inl ⟨by rfl, ?_⟩) hS0 ?_
            · intro w hSw
              go_simp
              all_goals first | omega | skip
            simp only [Act.put, sA, sB, sC]
            refine wpAnyH_take (i := 3) (oi := { dst := some 82, op := .load 9 (.tmp 81), guard := none, .. }) (v := .string nm) rfl (by kernel_rfl) (by kernel_rfl) (by kernel_rfl) (fun _ _ _ h => h) (Or.inl ⟨by rfl, ?_⟩) hS0 ?_
            · intro w hSw
              obtain ⟨z0, z1, z2, z3, z4, z5, z6, z7, z8⟩ := st_cells hSw
              go_simp
              all_goals first | omega | skip
            simp only [Act.put, sA, sB, sC]
            refine wpAnyH_take (i := 4) (oi := { dst := some 83, op := .binOp .add 9 (.tmp 80) (.tmp 82) 9, guard := none, .. }) (v := .string (⟨m.toArray⟩ ++ ⟨#[117, 110, 108, 111, 99, 107, 32]⟩ ++ nm)) rfl (by kernel_rfl) (by kernel_rfl) (by kernel_rfl) (fun _ _ _ h => h) (Or.inl ⟨by rfl, ?_⟩) hS0 ?_
            · intro w hSw
              go_simp
              all_goals first | omega | skip
            simp only [Act.put, sA, sB, sC]
            refine wpAnyH_take (i := 5) (oi := { dst := some 84, op := .binOp .add 9 (.tmp 83) (.const (.string ⟨#[59, 10]⟩)) 9, guard := none, .. }) (v := .string (⟨m.toArray⟩ ++ ⟨#[117, 110, 108, 111, 99, 107, 32]⟩ ++ nm ++ ⟨#[59, 10]⟩)) rfl (by kernel_rfl) (by kernel_rfl) (by kernel_rfl) (fun _ _ _ h => h) (Or.inl ⟨by rfl, ?_⟩) hS0 ?_
            · intro w hSw
              go_simp
              all_goals first | omega | skip
            simp only [Act.put, sA, sB, sC]
            refine wpAnyH_take (i := 6) (oi := { dst := some 85, op := .move (.tmp 9), guard := none, .. }) (v := .bool false) rfl (by kernel_rfl) (by kernel_rfl) (by kernel_rfl) (fun _ _ _ h => h) (Or.inl ⟨by rfl, ?_⟩) hS0 ?_
            · intro w hSw
              go_simp
              all_goals first | omega | skip
            simp only [Act.put, sA, sB, sC]
            refine wpAnyH_take (i := 7) (oi := { dst := some 86, op := .move (.tmp 85), guard := none, .. }) (v := .bool false) rfl (by kernel_rfl) (by kernel_rfl) (by kernel_rfl) (fun _ _ _ h => h) (Or.inl ⟨by rfl, ?_⟩) hS0 ?_
            · intro w hSw
              go_simp
              all_goals first | omega | skip
            simp only [Act.put, sA, sB, sC]
            refine wpAnyH_take (i := 8) (oi := { dst := some 87, op := .fieldAddr 87 (.tmp 2) 2, guard := some (7, true), .. }) (v := undef) rfl (by kernel_rfl) (by kernel_rfl) (by kernel_rfl) (fun _ _ _ h => h) (Or.inr ⟨by rfl, rfl⟩) hS0 ?_
            simp only [Act.put, sA, sB, sC]
            refine wpAnyH_take (i := 9) (oi := { dst := some 88, op := .load 34 (.tmp 87), guard := some (7, true), .. }) (v := undef) rfl (by kernel_rfl) (by kernel_rfl) (by kernel_rfl) (fun _ _ _ h => h) (Or.inr ⟨by rfl, rfl⟩) hS0 ?_
            simp only [Act.put, sA, sB, sC]
            refine wpAnyH_take (i := 10) (oi := { dst := some 89, op := .call { callee := .value (.func 103), args := #[.tmp 88], argTypes := #[34] }, guard := some (7, true), .. }) (v := undef) rfl (by kernel_rfl) (by kernel_rfl) (by kernel_rfl) (fun _ _ _ h => h) (Or.inr ⟨by rfl, rfl⟩) hS0 ?_
            simp only [Act.put, sA, sB, sC]
            refine wpAnyH_take (i := 11) (oi := { dst := some 90, op := .pick (.tmp 86) (.tmp 89) (.const (.bool false)), guard := none, .. }) (v := .bool false) rfl (by kernel_rfl) (by kernel_rfl) (by kernel_rfl) (fun _ _ _ h => h) (Or.inl ⟨by rfl, ?_⟩) hS0 ?_
            · intro w hSw
              go_simp
              all_goals first | omega | skip
            simp only [Act.put, sA, sB, sC]
            refine wpAnyH_take (i := 12) (oi := { dst := some 91, op := .move (.tmp 90), guard := none, .. }) (v := .bool false) rfl (by kernel_rfl) (by kernel_rfl) (by kernel_rfl) (fun _ _ _ h => h) (Or.inl ⟨by rfl, ?_⟩) hS0 ?_
            · intro w hSw
              go_simp
              all_goals first | omega | skip
            simp only [Act.put, sA, sB, sC]
            refine wpAnyH_take (i := 13) (oi := { dst := some 92, op := .move (.tmp 11), guard := some (12, true), .. }) (v := undef) rfl (by kernel_rfl) (by kernel_rfl) (by kernel_rfl) (fun _ _ _ h => h) (Or.inr ⟨by rfl, rfl⟩) hS0 ?_
            simp only [Act.put, sA, sB, sC]
            refine wpAnyH_take (i := 14) (oi := { dst := some 93, op := .pick (.tmp 91) (.tmp 92) (.const (.bool false)), guard := none, .. }) (v := .bool false) rfl (by kernel_rfl) (by kernel_rfl) (by kernel_rfl) (fun _ _ _ h => h) (Or.inl ⟨by rfl, ?_⟩) hS0 ?_
            · intro w hSw
              go_simp
              all_goals first | omega | skip
            simp only [Act.put, sA, sB, sC]
            refine wpAnyH_take (i := 15) (oi := { dst := some 4, op := .assign (.tmp 84), guard := none, .. }) (v := .string (⟨m.toArray⟩ ++ ⟨#[117, 110, 108, 111, 99, 107, 32]⟩ ++ nm ++ ⟨#[59, 10]⟩)) rfl (by kernel_rfl) (by kernel_rfl) (by kernel_rfl) (fun _ _ _ h => h) (Or.inl ⟨by rfl, ?_⟩) hS0 ?_
            · intro w hSw
              go_simp
              all_goals first | omega | skip
            simp only [Act.put, sA, sB, sC]
            refine wpAnyH_take (i := 16) (oi := { dst := some 5, op := .assign (.tmp 93), guard := none, .. }) (v := .bool false) rfl (by kernel_rfl) (by kernel_rfl) (by kernel_rfl) (fun _ _ _ h => h) (Or.inl ⟨by rfl, ?_⟩) hS0 ?_
            · intro w hSw
              go_simp
              all_goals first | omega | skip
            simp only [Act.put, sA, sB, sC]
            refine wpAnyH_done (by kernel_rfl) ?_ _
            have hwf := hw3.trans (hB0.mono hw3.size)
            go_wp2
            go_ret2
            exact ⟨hidU ⟨_, by rw [HVV.out, ← HCT.out]; rfl, HXX.out, HLN.out⟩, hwf⟩
          | true =>
            cases Z with
            | false =>
              go_wp2_with fail
              refine wp_region_held_drew (S := fun x => At 87 x w.heap.size (st9 3 nm (ex5 op t b enm (.slice ea en ec)) (.slice a1 n1 c1) (.slice a2 n2 c2))) (by kernel_rfl) hS0 (fun _ => ?_)
              refine wpAnyH_take (i := 0) (oi := { dst := some 79, op := .move (.tmp 6), guard := none, .. }) (v := .string ⟨m.toArray⟩) rfl (by kernel_rfl) (by kernel_rfl) (by kernel_rfl) (fun _ _ _ h => h) (Or.inl ⟨by rfl, ?_⟩) hS0 ?_
              · intro w hSw
                go_simp
                all_goals first | omega | skip
              simp only [Act.put, sA, sB, sC]
              refine wpAnyH_take (i := 1) (oi := { dst := some 80, op := .binOp .add 9 (.tmp 79) (.const (.string ⟨#[117, 110, 108, 111, 99, 107, 32]⟩)) 9, guard := none, .. }) (v := .string (⟨m.toArray⟩ ++ ⟨#[117, 110, 108, 111, 99, 107, 32]⟩)) rfl (by kernel_rfl) (by kernel_rfl) (by kernel_rfl) (fun _ _ _ h => h) (Or.inl ⟨by rfl, ?_⟩) hS0 ?_
              · intro w hSw
                go_simp
                all_goals first | omega | skip
              simp only [Act.put, sA, sB, sC]
              refine wpAnyH_take (i := 2) (oi := { dst := some 81, op := .fieldAddr 87 (.tmp 2) 1, guard := none, .. }) (v := .pointer (some ⟨w.heap.size, 1, none⟩)) rfl (by kernel_rfl) (by kernel_rfl) (by kernel_rfl) (fun _ _ _ h => h) (Or.inl ⟨by rfl, ?_⟩) hS0 ?_
              · intro w hSw
                go_simp
                all_goals first | omega | skip
              simp only [Act.put, sA, sB, sC]
              refine wpAnyH_take (i := 3) (oi := { dst := some 82, op := .load 9 (.tmp 81), guard := none, .. }) (v := .string nm) rfl (by kernel_rfl) (by kernel_rfl) (by kernel_rfl) (fun _ _ _ h => h) (Or.inl ⟨by rfl, ?_⟩) hS0 ?_
              · intro w hSw
                obtain ⟨z0, z1, z2, z3, z4, z5, z6, z7, z8⟩ := st_cells hSw
                go_simp
                all_goals first | omega | skip
              simp only [Act.put, sA, sB, sC]
              refine wpAnyH_take (i := 4) (oi := { dst := some 83, op := .binOp .add 9 (.tmp 80) (.tmp 82) 9, guard := none, .. }) (v := .string (⟨m.toArray⟩ ++ ⟨#[117, 110, 108, 111, 99, 107, 32]⟩ ++ nm)) rfl (by kernel_rfl) (by kernel_rfl) (by kernel_rfl) (fun _ _ _ h => h) (Or.inl ⟨by rfl, ?_⟩) hS0 ?_
              · intro w hSw
                go_simp
                all_goals first | omega | skip
              simp only [Act.put, sA, sB, sC]
              refine wpAnyH_take (i := 5) (oi := { dst := some 84, op := .binOp .add 9 (.tmp 83) (.const (.string ⟨#[59, 10]⟩)) 9, guard := none, .. }) (v := .string (⟨m.toArray⟩ ++ ⟨#[117, 110, 108, 111, 99, 107, 32]⟩ ++ nm ++ ⟨#[59, 10]⟩)) rfl (by kernel_rfl) (by kernel_rfl) (by kernel_rfl) (fun _ _ _ h => h) (Or.inl ⟨by rfl, ?_⟩) hS0 ?_
              · intro w hSw
                go_simp
                all_goals first | omega | skip
              simp only [Act.put, sA, sB, sC]
              refine wpAnyH_take (i := 6) (oi := { dst := some 85, op := .move (.tmp 9), guard := none, .. }) (v := .bool true) rfl (by kernel_rfl) (by kernel_rfl) (by kernel_rfl) (fun _ _ _ h => h) (Or.inl ⟨by rfl, ?_⟩) hS0 ?_
              · intro w hSw
                go_simp
                all_goals first | omega | skip
              simp only [Act.put, sA, sB, sC]
              refine wpAnyH_take (i := 7) (oi := { dst := some 86, op := .move (.tmp 85), guard := none, .. }) (v := .bool true) rfl (by kernel_rfl) (by kernel_rfl) (by kernel_rfl) (fun _ _ _ h => h) (Or.inl ⟨by rfl, ?_⟩) hS0 ?_
              · intro w hSw
                go_simp
                all_goals first | omega | skip
              simp only [Act.put, sA, sB, sC]
              refine wpAnyH_take (i := 8) (oi := { dst := some 87, op := .fieldAddr 87 (.tmp 2) 2, guard := some (7, true), .. }) (v := .pointer (some ⟨w.heap.size, 2, none⟩)) rfl (by kernel_rfl) (by kernel_rfl) (by kernel_rfl) (fun _ _ _ h => h) (Or.inl ⟨by rfl, ?_⟩) hS0 ?_
              · intro w hSw
                go_simp
                all_goals first | omega | skip
              simp only [Act.put, sA, sB, sC]
              refine wpAnyH_take (i := 9) (oi := { dst := some 88, op := .load 34 (.tmp 87), guard := some (7, true), .. }) (v := .agg #[.int .u8 (op : Int), .int .u8 (t : Int), .int .u64 (b : Int), .string enm, .slice ea en ec]) rfl (by kernel_rfl) (by kernel_rfl) (by kernel_rfl) (fun _ _ _ h => h) (Or.inl ⟨by rfl, ?_⟩) hS0 ?_
              · intro w hSw
                obtain ⟨z0, z1, z2, z3, z4, z5, z6, z7, z8⟩ := st_cells hSw
                go_simp
                all_goals first | omega | skip
              simp only [Act.put, sA, sB, sC]
              refine wpAnyH_ready (rs := [10]) (by kernel_rfl) (by simp) ?_
              refine AllReadyH.cons (o := { dst := some 89, op := .call { callee := .value (.func 103), args := #[.tmp 88], argTypes := #[34] }, guard := some (7, true), .. }) rfl (fun K hK => ?_) AllReadyH.nil
              rw [if_pos (by rfl)]
              go_wp2_with (go_at_call 103; refine hC.mono ?_; rintro e x ⟨rfl, hb4⟩)
              have hB1 := hB0.trans (hb4.mono hB0.size)
              have hS1 := hA3.below hB1
              refine hK.out _ _ hS1 (fun _ => ?_)
              refine wpAnyH_take (i := 11) (oi := { dst := some 90, op := .pick (.tmp 86) (.tmp 89) (.const (.bool false)), guard := none, .. }) (v := .bool false) rfl (by kernel_rfl) (by kernel_rfl) (by kernel_rfl) (fun _ _ _ h => h) (Or.inl ⟨by rfl, ?_⟩) hS1 ?_
              · intro w hSw
                go_simp
                all_goals first | omega | skip
              simp only [Act.put, sA, sB, sC]
              refine wpAnyH_take (i := 12) (oi := { dst := some 91, op := .move (.tmp 90), guard := none, .. }) (v := .bool false) rfl (by kernel_rfl) (by kernel_rfl) (by kernel_rfl) (fun _ _ _ h => h) (Or.inl ⟨by rfl, ?_⟩) hS1 ?_
              · intro w hSw
                go_simp
                all_goals first | omega | skip
              simp only [Act.put, sA, sB, sC]
              refine wpAnyH_take (i := 13) (oi := { dst := some 92, op := .move (.tmp 11), guard := some (12, true), .. }) (v := undef) rfl (by kernel_rfl) (by kernel_rfl) (by kernel_rfl) (fun _ _ _ h => h) (Or.inr ⟨by rfl, rfl⟩) hS1 ?_
              simp only [Act.put, sA, sB, sC]
              refine wpAnyH_take (i := 14) (oi := { dst := some 93, op := .pick (.tmp 91) (.tmp 92) (.const (.bool false)), guard := none, .. }) (v := .bool false) rfl (by kernel_rfl) (by kernel_rfl) (by kernel_rfl) (fun _ _ _ h => h) (Or.inl ⟨by rfl, ?_⟩) hS1 ?_
              · intro w hSw
                go_simp
                all_goals first | omega | skip
              simp only [Act.put, sA, sB, sC]
              refine wpAnyH_take (i := 15) (oi := { dst := some 4, op := .assign (.tmp 84), guard := none, .. }) (v := .string (⟨m.toArray⟩ ++ ⟨#[117, 110, 108, 111, 99, 107, 32]⟩ ++ nm ++ ⟨#[59, 10]⟩)) rfl (by kernel_rfl) (by kernel_rfl) (by kernel_rfl) (fun _ _ _ h => h) (Or.inl ⟨by rfl, ?_⟩) hS1 ?_
              · intro w hSw
                go_simp
                all_goals first | omega | skip
              simp only [Act.put, sA, sB, sC]
              refine wpAnyH_take (i := 16) (oi := { dst := some 5, op := .assign (.tmp 93), guard := none, .. }) (v := .bool false) rfl (by kernel_rfl) (by kernel_rfl) (by kernel_rfl) (fun _ _ _ h => h) (Or.inl ⟨by rfl, ?_⟩) hS1 ?_
              · intro w hSw
                go_simp
                all_goals first | omega | skip
              simp only [Act.put, sA, sB, sC]
              refine wpAnyH_done (by kernel_rfl) ?_ _
              have hwf := hw3.trans (hB1.mono hw3.size)
              go_wp2
              go_ret2
              exact ⟨hidU ⟨_, by rw [HVV.out, ← HCT.out]; rfl, HXX.out, HLN.out⟩, hwf⟩
            | true =>
              go_wp2_with fail
              refine wp_region_held_drew (S := fun x => At 87 x w.heap.size (st9 3 nm (ex5 op t b enm (.slice ea en ec)) (.slice a1 n1 c1) (.slice a2 n2 c2))) (by kernel_rfl) hS0 (fun _ => ?_)
              refine wpAnyH_take (i := 0) (oi := { dst := some 79, op := .move (.tmp 6), guard := none, .. }) (v := .string ⟨m.toArray⟩) rfl (by kernel_rfl) (by kernel_rfl) (by kernel_rfl) (fun _ _ _ h => h) (Or.inl ⟨by rfl, ?_⟩) hS0 ?_
              · intro w hSw
                go_simp
                all_goals first | omega | skip
              simp only [Act.put, sA, sB, sC]
              refine wpAnyH_take (i := 1) (oi := { dst := some 80, op := .binOp .add 9 (.tmp 79) (.const (.string ⟨#[117, 110, 108, 111, 99, 107, 32]⟩)) 9, guard := none, .. }) (v := .string (⟨m.toArray⟩ ++ ⟨#[117, 110, 108, 111, 99, 107, 32]⟩)) rfl (by kernel_rfl) (by kernel_rfl) (by kernel_rfl) (fun _ _ _ h => h) (Or.inl ⟨by rfl, ?_⟩) hS0 ?_
              · intro w hSw
                go_simp
                all_goals first | omega | skip
              simp only [Act.put, sA, sB, sC]
              refine wpAnyH_take (i := 2) (oi := { dst := some 81, op := .fieldAddr 87 (.tmp 2) 1, guard := none, .. }) (v := .pointer (some ⟨w.heap.size, 1, none⟩)) rfl (by kernel_rfl) (by kernel_rfl) (by kernel_rfl) (fun _ _ _ h => h) (Or.inl ⟨by rfl, ?_⟩) hS0 ?_
              · intro w hSw
                go_simp
                all_goals first | omega | skip
              simp only [Act.put, sA, sB, sC]
              refine wpAnyH_take (i := 3) (oi := { dst := some 82, op := .load 9 (.tmp 81), guard := none, .. }) (v := .string nm) rfl (by kernel_rfl) (by kernel_rfl) (by kernel_rfl) (fun _ _ _ h => h) (Or.inl ⟨by rfl, ?_⟩) hS0 ?_
              · intro w hSw
                obtain ⟨z0, z1, z2, z3, z4, z5, z6, z7, z8⟩ := st_cells hSw
                go_simp
                all_goals first | omega | skip
              simp only [Act.put, sA, sB, sC]
              refine wpAnyH_take (i := 4) (oi := { dst := some 83, op := .binOp .add 9 (.tmp 80) (.tmp 82) 9, guard := none, .. }) (v := .string (⟨m.toArray⟩ ++ ⟨#[117, 110, 108, 111, 99, 107, 32]⟩ ++ nm)) rfl (by kernel_rfl) (by kernel_rfl) (by kernel_rfl) (fun _ _ _ h => h) (Or.inl ⟨by rfl, ?_⟩) hS0 ?_
              · intro w hSw
                go_simp
                all_goals first | omega | skip
              simp only [Act.put, sA, sB, sC]
              refine wpAnyH_take (i := 5) (oi := { dst := some 84, op := .binOp .add 9 (.tmp 83) (.const (.string ⟨#[59, 10]⟩)) 9, guard := none, .. }) (v := .string (⟨m.toArray⟩ ++ ⟨#[117, 110, 108, 111, 99, 107, 32]⟩ ++ nm ++ ⟨#[59, 10]⟩)) rfl (by kernel_rfl) (by kernel_rfl) (by kernel_rfl) (fun _ _ _ h => h) (Or.inl ⟨by rfl, ?_⟩) hS0 ?_
              · intro w hSw
                go_simp
                all_goals first | omega | skip
              simp only [Act.put, sA, sB, sC]
              refine wpAnyH_take (i := 6) (oi := { dst := some 85, op := .move (.tmp 9), guard := none, .. }) (v := .bool true) rfl (by kernel_rfl) (by kernel_rfl) (by kernel_rfl) (fun _ _ _ h => h) (Or.inl ⟨by rfl, ?_⟩) hS0 ?_
              · intro w hSw
                go_simp
                all_goals first | omega | skip
              simp only [Act.put, sA, sB, sC]
              refine wpAnyH_take (i := 7) (oi := { dst := some 86, op := .move (.tmp 85), guard := none, .. }) (v := .bool true) rfl (by kernel_rfl) (by kernel_rfl) (by kernel_rfl) (fun _ _ _ h => h) (Or.inl ⟨by rfl, ?_⟩) hS0 ?_
              · intro w hSw
                go_simp
                all_goals first | omega | skip
              simp only [Act.put, sA, sB, sC]
              refine wpAnyH_take (i := 8) (oi := { dst := some 87, op := .fieldAddr 87 (.tmp 2) 2, guard := some (7, true), .. }) (v := .pointer (some ⟨w.heap.size, 2, none⟩)) rfl (by kernel_rfl) (by kernel_rfl) (by kernel_rfl) (fun _ _ _ h => h) (Or.inl ⟨by rfl, ?_⟩) hS0 ?_
              · intro w hSw
                go_simp
                all_goals first | omega | skip
              simp only [Act.put, sA, sB, sC]
              refine wpAnyH_take (i := 9) (oi := { dst := some 88, op := .load 34 (.tmp 87), guard := some (7, true), .. }) (v := .agg #[.int .u8 (op : Int), .int .u8 (t : Int), .int .u64 (b : Int), .string enm, .slice ea en ec]) rfl (by kernel_rfl) (by kernel_rfl) (by kernel_rfl) (fun _ _ _ h => h) (Or.inl ⟨by rfl, ?_⟩) hS0 ?_
              · intro w hSw
                obtain ⟨z0, z1, z2, z3, z4, z5, z6, z7, z8⟩ := st_cells hSw
                go_simp
                all_goals first | omega | skip
              simp only [Act.put, sA, sB, sC]
              refine wpAnyH_ready (rs := [10]) (by kernel_rfl) (by simp) ?_
              refine AllReadyH.cons (o := { dst := some 89, op := .call { callee := .value (.func 103), args := #[.tmp 88], argTypes := #[34] }, guard := some (7, true), .. }) rfl (fun K hK => ?_) AllReadyH.nil
              rw [if_pos (by rfl)]
              go_wp2_with (go_at_call 103; refine hC.mono ?_; rintro e x ⟨rfl, hb4⟩)
              have hB1 := hB0.trans (hb4.mono hB0.size)
              have hS1 := hA3.below hB1
              refine hK.out _ _ hS1 (fun _ => ?_)
              refine wpAnyH_take (i := 11) (oi := { dst := some 90, op := .pick (.tmp 86) (.tmp 89) (.const (.bool false)), guard := none, .. }) (v := .bool true) rfl (by kernel_rfl) (by kernel_rfl) (by kernel_rfl) (fun _ _ _ h => h) (Or.inl ⟨by rfl, ?_⟩) hS1 ?_
              · intro w hSw
                go_simp
                all_goals first | omega | skip
              simp only [Act.put, sA, sB, sC]
              refine wpAnyH_take (i := 12) (oi := { dst := some 91, op := .move (.tmp 90), guard := none, .. }) (v := .bool true) rfl (by kernel_rfl) (by kernel_rfl) (by kernel_rfl) (fun _ _ _ h => h) (Or.inl ⟨by rfl, ?_⟩) hS1 ?_
              · intro w hSw
                go_simp
                all_goals first | omega | skip
              simp only [Act.put, sA, sB, sC]
              refine wpAnyH_take (i := 13) (oi := { dst := some 92, op := .move (.tmp 11), guard := some (12, true), .. }) (v := .bool false) rfl (by kernel_rfl) (by kernel_rfl) (by kernel_rfl) (fun _ _ _ h => h) (Or.inl ⟨by rfl, ?_⟩) hS1 ?_
              · intro w hSw
                go_simp
                all_goals first | omega | skip
              simp only [Act.put, sA, sB, sC]
              refine wpAnyH_take (i := 14) (oi := { dst := some 93, op := .pick (.tmp 91) (.tmp 92) (.const (.bool false)), guard := none, .. }) (v := .bool false) rfl (by kernel_rfl) (by kernel_rfl) (by kernel_rfl) (fun _ _ _ h => h) (Or.inl ⟨by rfl, ?_⟩) hS1 ?_
              · intro w hSw
                go_simp
                all_goals first | omega | skip
              simp only [Act.put, sA, sB, sC]
              refine wpAnyH_take (i := 15) (oi := { dst := some 4, op := .assign (.tmp 84), guard := none, .. }) (v := .string (⟨m.toArray⟩ ++ ⟨#[117, 110, 108, 111, 99, 107, 32]⟩ ++ nm ++ ⟨#[59, 10]⟩)) rfl (by kernel_rfl) (by kernel_rfl) (by kernel_rfl) (fun _ _ _ h => h) (Or.inl ⟨by rfl, ?_⟩) hS1 ?_
              · intro w hSw
                go_simp
                all_goals first | omega | skip
              simp only [Act.put, sA, sB, sC]
              refine wpAnyH_take (i := 16) (oi := { dst := some 5, op := .assign (.tmp 93), guard := none, .. }) (v := .bool false) rfl (by kernel_rfl) (by kernel_rfl) (by kernel_rfl) (fun _ _ _ h => h) (Or.inl ⟨by rfl, ?_⟩) hS1 ?_
              · intro w hSw
                go_simp
                all_goals first | omega | skip
              simp only [Act.put, sA, sB, sC]
              refine wpAnyH_done (by kernel_rfl) ?_ _
              have hwf := hw3.trans (hB1.mono hw3.size)
              go_wp2
              go_ret2
              exact ⟨hidU ⟨_, by rw [HVV.out, HL.out, ← HCT.out]; rfl, HXX.out, HLN.out⟩, hwf⟩
        · skip
          by_cases hk4 : k = 4
          · subst hk4
            have HVV : Hid (V = (Q && (decide (E = 0) && L))) := by
              show _ = _
              rw [hV.out, mayS, if_neg (by decide), if_neg (by decide), if_pos rfl, HME.out, HB.out, hQ.out]
            have HXX : Hid (V = true → m ++ [97, 115, 115, 101, 114, 116, 32] ++ T ++ [59, 10] = X) := fun h => by
              have h2 : mayE 32 (ET.mk op t b enm ea ec eks).ex = true := by
                rw [HVV.out] at h
                rw [HME.out]
                simp at h ⊢
                exact h.2.1
              rw [hX.out, HTX.out h2, hm.out, blT, blT, stT]
              simp
            have HLN : Hid ((m ++ [97, 115, 115, 101, 114, 116, 32] ++ T ++ [59, 10]).length ≤ 1000 * N) := by
              have q1 := HTL.out
              have q2 := HW.out
              show _ ≤ _
              simp only [List.length_append, List.length_cons, List.length_nil]
              omega
            have HCT : Hid ((⟨m.toArray⟩ ++ ⟨#[97, 115, 115, 101, 114, 116, 32]⟩ ++ ⟨T.toArray⟩ ++ ⟨#[59, 10]⟩ : ByteArray) = ⟨(m ++ [97, 115, 115, 101, 114, 116, 32] ++ T ++ [59, 10]).toArray⟩) := by
              apply ByteArray.ext
              simp
            clear HB HME HTX HMN H1 H2 HZ HTL HW hX hV hN hQ
            cases Q with
            | false =>
              go_wp2
              go_ret2
              exact ⟨hidU ⟨_, by rw [HVV.out, ← HCT.out]; rfl, HXX.out, HLN.out⟩, hw3⟩
            | true =>
              by_cases hE0 : E = 0
              · subst hE0
                go_wp2
                go_ret2
                exact ⟨hidU ⟨_, by rw [HVV.out, HL.out, ← HCT.out]; rfl, HXX.out, HLN.out⟩, hw3⟩
              · go_wp2
                go_ret2
                exact ⟨hidU ⟨_, by rw [HVV.out, decide_eq_false hE0, ← HCT.out]; rfl, HXX.out, HLN.out⟩, hw3⟩
          · skip
            by_cases hk7 : k = 7
            · subst hk7
              have HVV : Hid (V = (Q && (Z && L))) := by
                show _ = _
                rw [hV.out, mayS, if_neg (by decide), if_neg (by decide), if_neg (by decide), if_neg (by decide), if_neg (by decide), if_pos rfl, HB.out, hQ.out, hZ.out]
                rfl
              have HXX : Hid (V = true → m ++ [115, 107, 105, 112, 59, 10] = X) := fun h => by
                rw [hX.out, hm.out, blT, blT, stT]
                simp
              have HLN : Hid ((m ++ [115, 107, 105, 112, 59, 10]).length ≤ 1000 * N) := by
                have q2 := HW.out
                show _ ≤ _
                simp only [List.length_append, List.length_cons, List.length_nil]
                omega
              have HCT : Hid ((⟨m.toArray⟩ ++ ⟨#[115, 107, 105, 112, 59, 10]⟩ : ByteArray) = ⟨(m ++ [115, 107, 105, 112, 59, 10]).toArray⟩) := by
                apply ByteArray.ext
                simp
              have hC := HZ.out w3 hw3
              clear HB HME HTX HMN H1 H2 HZ HTL HW hX hV hN hQ
              cases Q with
              | false =>
                go_wp2
                go_ret2
                exact ⟨hidU ⟨_, by rw [HVV.out, ← HCT.out]; rfl, HXX.out, HLN.out⟩, hw3⟩
              | true =>
                cases Z with
                | false =>
                  go_wp2_with (go_at_call 103; refine hC.mono ?_; rintro r w4 ⟨rfl, hb4⟩)
                  have hw4 := hw3.trans (hb4.mono hw3.size)
                  go_wp2
                  go_ret2
                  exact ⟨hidU ⟨_, by rw [HVV.out, ← HCT.out]; rfl, HXX.out, HLN.out⟩, hw4⟩
                | true =>
                  go_wp2_with (go_at_call 103; refine hC.mono ?_; rintro r w4 ⟨rfl, hb4⟩)
                  have hw4 := hw3.trans (hb4.mono hw3.size)
                  go_wp2
                  go_ret2
                  exact ⟨hidU ⟨_, by rw [HVV.out, HL.out, ← HCT.out]; rfl, HXX.out, HLN.out⟩, hw4⟩
            · skip
              by_cases hk5 : k = 5
              · subst hk5
                have hC1 := H1.out w3 hw3
                obtain ⟨Y1, hY1⟩ : ∃ Y, Hid (Y = mayB (d + 1) (b1.map ST.st)) := ⟨_, (rfl : _ = mayB (d + 1) (b1.map ST.st))⟩
                obtain ⟨Y2, hY2⟩ : ∃ Y, Hid (Y = mayB (d + 1) (b2.map ST.st)) := ⟨_, (rfl : _ = mayB (d + 1) (b2.map ST.st))⟩
                have HVV : Hid (V = (Q && (decide (E = 0) && (Y1 && Y2)))) := by
                  show _ = _
                  rw [hV.out, mayS, if_neg (by decide), if_neg (by decide), if_neg (by decide), if_pos rfl, HME.out, hQ.out, hY1.out, hY2.out]
                rw [← hY1.out] at hC1
                go_wp2_with (go_at_call 36; refine hC1.mono ?_; rintro r w4 ⟨hq1, hb4⟩; obtain ⟨s1, rfl, hs1, hs1l⟩ := hq1.out; refine Hid.out ?_)
                refine hidU ?_
                have hw4 := hw3.trans (hb4.mono hw3.size)
                have hA4 := hA3.below hb4
                have HS1 : Hid (Y1 = true → s1 = blT (blk (2 * (d + 1) + 2)) (b1.map ST.st)) := hs1
                have HS1L : Hid (s1.length ≤ 1000 * stWs (b1.map ST.st)) := hs1l
                clear p0 p1 p2 p3 p4 p5 p6 p7 p8 hC1 hq1 hb4 hA3 hs1 hs1l hlt3
                obtain ⟨p0, p1, p2, p3, p4, p5, p6, p7, p8⟩ := st_cells hA4
                have hlt4 : w.heap.size < w4.heap.size := hA4.lt
                have hC2 := H2.out w4 hw4
                rw [← hY2.out] at hC2
                go_wp2_with (go_at_call 36; refine hC2.mono ?_; rintro r w5 ⟨hq2, hb5⟩; obtain ⟨s2, rfl, hs2, hs2l⟩ := hq2.out; refine Hid.out ?_)
                refine hidU ?_
                have hw5 := hw4.trans (hb5.mono hw4.size)
                have hA5 := hA4.below hb5
                have HS2 : Hid (Y2 = true → s2 = blT (blk (2 * (d + 1) + 2)) (b2.map ST.st)) := hs2
                have HS2L : Hid (s2.length ≤ 1000 * stWs (b2.map ST.st)) := hs2l
                clear p0 p1 p2 p3 p4 p5 p6 p7 p8 hC2 hq2 hb5 hA4 hs2 hs2l hlt4
                obtain ⟨p0, p1, p2, p3, p4, p5, p6, p7, p8⟩ := st_cells hA5
                have hlt5 : w.heap.size < w5.heap.size := hA5.lt
                have hs1z : (⟨s1.toArray⟩ : ByteArray).size = s1.length := size_mk s1
                have hs2z : (⟨s2.toArray⟩ : ByteArray).size = s2.length := size_mk s2
                have hs1b : s1.length ≤ 1100000000 := by have := HS1L.out; have := HW.out; omega
                have hs2b : s2.length ≤ 1100000000 := by have := HS2L.out; have := HW.out; omega
                cases Y1 with
                | false =>
                  have HVf : Hid (V = false) := by show _ = _; rw [HVV.out]; simp
                  go_wp2
                  all_goals
                    (go_ret2
                     exact ⟨hidU ⟨[], by rw [HVf.out]; rfl, (fun h => by rw [HVf.out] at h; cases h), by simp⟩, hw5⟩)
                | true =>
                  cases Y2 with
                  | false =>
                    have HVf : Hid (V = false) := by show _ = _; rw [HVV.out]; simp
                    go_wp2
                    all_goals
                      (go_ret2
                       exact ⟨hidU ⟨[], by rw [HVf.out]; rfl, (fun h => by rw [HVf.out] at h; cases h), by simp⟩, hw5⟩)
                  | true =>
                    by_cases hE0 : E = 0
                    · subst hE0
                      cases Q with
                      | false =>
                        have HVf : Hid (V = false) := by show _ = _; rw [HVV.out]; simp
                        go_wp2
                        all_goals
                          (go_ret2
                           exact ⟨hidU ⟨[], by rw [HVf.out]; rfl, (fun h => by rw [HVf.out] at h; cases h), by simp⟩, hw5⟩)
                      | true =>
                        by_cases hn0 : 0 < n2
                        · have hem : (b2.map ST.st).isEmpty = false := by rw [HI2.out]; exact decide_eq_false (by omega)
                          have HXX : Hid (V = true → m ++ [105, 102, 32] ++ T ++ [32, 123, 10] ++ s1 ++ m ++ [125, 32, 101, 108, 115, 101, 32, 123, 10] ++ s2 ++ m ++ [125, 10] = X) := fun _ => by
                            have h2 : mayE 32 (ET.mk op t b enm ea ec eks).ex = true := by rw [HME.out]; rfl
                            rw [hX.out, HTX.out h2, hm.out, HS1.out rfl, blT, blT, stT, HS2.out rfl, hbk, hem]
                            simp
                          have HLN : Hid ((m ++ [105, 102, 32] ++ T ++ [32, 123, 10] ++ s1 ++ m ++ [125, 32, 101, 108, 115, 101, 32, 123, 10] ++ s2 ++ m ++ [125, 10]).length ≤ 1000 * N) := by
                            have q1 := HTL.out
                            have q2 := HW.out
                            have q3 := HS1L.out
                            have q4 := HS2L.out
                            show _ ≤ _
                            simp only [List.length_append, List.length_cons, List.length_nil]
                            omega
                          have HCT : Hid ((⟨m.toArray⟩ ++ ⟨#[105, 102, 32]⟩ ++ ⟨T.toArray⟩ ++ ⟨#[32, 123, 10]⟩ ++ ⟨s1.toArray⟩ ++ ⟨m.toArray⟩ ++ ⟨#[125, 32, 101, 108, 115, 101, 32, 123, 10]⟩ ++ ⟨s2.toArray⟩ ++ ⟨m.toArray⟩ ++ ⟨#[125, 10]⟩ : ByteArray) = ⟨(m ++ [105, 102, 32] ++ T ++ [32, 123, 10] ++ s1 ++ m ++ [125, 32, 101, 108, 115, 101, 32, 123, 10] ++ s2 ++ m ++ [125, 10]).toArray⟩) := by
                            apply ByteArray.ext
                            simp
                          have HVt : Hid (V = true) := by show _ = _; rw [HVV.out]; rfl
                          clear HB HME HTX HMN H1 H2 HZ HTL HW hX hV hN hQ HS1 HS2 HS1L HS2L HVV hY1 hY2
                          go_wp2
                          go_ret2
                          exact ⟨hidU ⟨_, by rw [HVt.out, ← HCT.out]; rfl, HXX.out, HLN.out⟩, hw5⟩
                        · obtain rfl : n2 = 0 := by omega
                          have hem : (b2.map ST.st).isEmpty = true := by rw [HI2.out]; rfl
                          have HXX : Hid (V = true → m ++ [105, 102, 32] ++ T ++ [32, 123, 10] ++ s1 ++ m ++ [125, 10] = X) := fun _ => by
                            have h2 : mayE 32 (ET.mk op t b enm ea ec eks).ex = true := by rw [HME.out]; rfl
                            rw [hX.out, HTX.out h2, hm.out, HS1.out rfl, blT, blT, stT, hbk, hem]
                            simp
                          have HLN : Hid ((m ++ [105, 102, 32] ++ T ++ [32, 123, 10] ++ s1 ++ m ++ [125, 10]).length ≤ 1000 * N) := by
                            have q1 := HTL.out
                            have q2 := HW.out
                            have q3 := HS1L.out
                            have q4 := HS2L.out
                            show _ ≤ _
                            simp only [List.length_append, List.length_cons, List.length_nil]
                            omega
                          have HCT : Hid ((⟨m.toArray⟩ ++ ⟨#[105, 102, 32]⟩ ++ ⟨T.toArray⟩ ++ ⟨#[32, 123, 10]⟩ ++ ⟨s1.toArray⟩ ++ ⟨m.toArray⟩ ++ ⟨#[125, 10]⟩ : ByteArray) = ⟨(m ++ [105, 102, 32] ++ T ++ [32, 123, 10] ++ s1 ++ m ++ [125, 10]).toArray⟩) := by
                            apply ByteArray.ext
                            simp
                          have HVt : Hid (V = true) := by show _ = _; rw [HVV.out]; rfl
                          clear HB HME HTX HMN H1 H2 HZ HTL HW hX hV hN hQ HS1 HS2 HS1L HS2L HVV hY1 hY2
                          go_wp2
                          go_ret2
                          exact ⟨hidU ⟨_, by rw [HVt.out, ← HCT.out]; rfl, HXX.out, HLN.out⟩, hw5⟩
                    · have HVf : Hid (V = false) := by show _ = _; rw [HVV.out]; rw [decide_eq_false hE0]; simp
                      go_wp2
                      all_goals
                        (go_ret2
                         exact ⟨hidU ⟨[], by rw [HVf.out]; rfl, (fun h => by rw [HVf.out] at h; cases h), by simp⟩, hw5⟩)
              · skip
                by_cases hk6 : k = 6
                · subst hk6
                  have hC1 := H1.out w3 hw3
                  obtain ⟨Y1, hY1⟩ : ∃ Y, Hid (Y = mayB (d + 1) (b1.map ST.st)) := ⟨_, (rfl : _ = mayB (d + 1) (b1.map ST.st))⟩
                  obtain ⟨Y2, hY2⟩ : ∃ Y, Hid (Y = mayB (d + 1) (b2.map ST.st)) := ⟨_, (rfl : _ = mayB (d + 1) (b2.map ST.st))⟩
                  have HVV : Hid (V = (Q && (decide (E = 0) && (Y1 && decide (n2 = 0))))) := by
                    show _ = _
                    rw [hV.out, mayS, if_neg (by decide), if_neg (by decide), if_neg (by decide), if_neg (by decide), if_pos rfl, HME.out, HI2.out, hQ.out, hY1.out]
                  rw [← hY1.out] at hC1
                  go_wp2_with (go_at_call 36; refine hC1.mono ?_; rintro r w4 ⟨hq1, hb4⟩; obtain ⟨s1, rfl, hs1, hs1l⟩ := hq1.out; refine Hid.out ?_)
                  refine hidU ?_
                  have hw4 := hw3.trans (hb4.mono hw3.size)
                  have hA4 := hA3.below hb4
                  have HS1 : Hid (Y1 = true → s1 = blT (blk (2 * (d + 1) + 2)) (b1.map ST.st)) := hs1
                  have HS1L : Hid (s1.length ≤ 1000 * stWs (b1.map ST.st)) := hs1l
                  clear p0 p1 p2 p3 p4 p5 p6 p7 p8 hC1 hq1 hb4 hA3 hs1 hs1l hlt3
                  obtain ⟨p0, p1, p2, p3, p4, p5, p6, p7, p8⟩ := st_cells hA4
                  have hlt4 : w.heap.size < w4.heap.size := hA4.lt
                  have hC2 := H2.out w4 hw4
                  rw [← hY2.out] at hC2
                  go_wp2_with (go_at_call 36; refine hC2.mono ?_; rintro r w5 ⟨hq2, hb5⟩; obtain ⟨s2, rfl, hs2, hs2l⟩ := hq2.out; refine Hid.out ?_)
                  refine hidU ?_
                  have hw5 := hw4.trans (hb5.mono hw4.size)
                  have hA5 := hA4.below hb5
                  have HS2 : Hid (Y2 = true → s2 = blT (blk (2 * (d + 1) + 2)) (b2.map ST.st)) := hs2
                  have HS2L : Hid (s2.length ≤ 1000 * stWs (b2.map ST.st)) := hs2l
                  clear p0 p1 p2 p3 p4 p5 p6 p7 p8 hC2 hq2 hb5 hA4 hs2 hs2l hlt4
                  obtain ⟨p0, p1, p2, p3, p4, p5, p6, p7, p8⟩ := st_cells hA5
                  have hlt5 : w.heap.size < w5.heap.size := hA5.lt
                  have hs1z : (⟨s1.toArray⟩ : ByteArray).size = s1.length := size_mk s1
                  have hs2z : (⟨s2.toArray⟩ : ByteArray).size = s2.length := size_mk s2
                  have hs1b : s1.length ≤ 1100000000 := by have := HS1L.out; have := HW.out; omega
                  have hs2b : s2.length ≤ 1100000000 := by have := HS2L.out; have := HW.out; omega
                  cases Y1 with
                  | false =>
                    have HVf : Hid (V = false) := by show _ = _; rw [HVV.out]; simp
                    go_wp2
                    all_goals
                      (go_ret2
                       exact ⟨hidU ⟨[], by rw [HVf.out]; rfl, (fun h => by rw [HVf.out] at h; cases h), by simp⟩, hw5⟩)
                  | true =>
                    cases Y2 with
                    | false =>
                      have HVf : Hid (V = false) := by show _ = _; rw [HVV.out]; rw [← HI2.out, HY2.out hY2.out.symm]; simp
                      go_wp2
                      all_goals
                        (go_ret2
                         exact ⟨hidU ⟨[], by rw [HVf.out]; rfl, (fun h => by rw [HVf.out] at h; cases h), by simp⟩, hw5⟩)
                    | true =>
                      by_cases hE0 : E = 0
                      · subst hE0
                        cases Q with
                        | false =>
                          have HVf : Hid (V = false) := by show _ = _; rw [HVV.out]; simp
                          go_wp2
                          all_goals
                            (go_ret2
                             exact ⟨hidU ⟨[], by rw [HVf.out]; rfl, (fun h => by rw [HVf.out] at h; cases h), by simp⟩, hw5⟩)
                        | true =>
                          by_cases hn0 : 0 < n2
                          · have hnz : ¬ n2 = 0 := by omega
                            have HVf : Hid (V = false) := by show _ = _; rw [HVV.out]; rw [decide_eq_false hnz]; simp
                            go_wp2
                            all_goals
                              (go_ret2
                               exact ⟨hidU ⟨[], by rw [HVf.out]; rfl, (fun h => by rw [HVf.out] at h; cases h), by simp⟩, hw5⟩)
                          · obtain rfl : n2 = 0 := by omega
                            have HXX : Hid (V = true → m ++ [119, 104, 105, 108, 101, 32] ++ T ++ [32, 123, 10] ++ s1 ++ m ++ [125, 10] = X) := fun _ => by
                              have h2 : mayE 32 (ET.mk op t b enm ea ec eks).ex = true := by rw [HME.out]; rfl
                              rw [hX.out, HTX.out h2, hm.out, HS1.out rfl, blT, blT, stT, hbk]
                              simp
                            have HLN : Hid ((m ++ [119, 104, 105, 108, 101, 32] ++ T ++ [32, 123, 10] ++ s1 ++ m ++ [125, 10]).length ≤ 1000 * N) := by
                              have q1 := HTL.out
                              have q2 := HW.out
                              have q3 := HS1L.out
                              have q4 := HS2L.out
                              show _ ≤ _
                              simp only [List.length_append, List.length_cons, List.length_nil]
                              omega
                            have HCT : Hid ((⟨m.toArray⟩ ++ ⟨#[119, 104, 105, 108, 101, 32]⟩ ++ ⟨T.toArray⟩ ++ ⟨#[32, 123, 10]⟩ ++ ⟨s1.toArray⟩ ++ ⟨m.toArray⟩ ++ ⟨#[125, 10]⟩ : ByteArray) = ⟨(m ++ [119, 104, 105, 108, 101, 32] ++ T ++ [32, 123, 10] ++ s1 ++ m ++ [125, 10]).toArray⟩) := by
                              apply ByteArray.ext
                              simp
                            have HVt : Hid (V = true) := by show _ = _; rw [HVV.out]; rfl
                            clear HB HME HTX HMN H1 H2 HZ HTL HW hX hV hN hQ HS1 HS2 HS1L HS2L HVV hY1 hY2
                            go_wp2
                            go_ret2
                            exact ⟨hidU ⟨_, by rw [HVt.out, ← HCT.out]; rfl, HXX.out, HLN.out⟩, hw5⟩
                      · have HVf : Hid (V = false) := by show _ = _; rw [HVV.out]; rw [decide_eq_false hE0]; simp
                        go_wp2
                        all_goals
                          (go_ret2
                           exact ⟨hidU ⟨[], by rw [HVf.out]; rfl, (fun h => by rw [HVf.out] at h; cases h), by simp⟩, hw5⟩)
                · skip
                  go_wp2
                  go_ret2
                  have HVf : Hid (V = false) := by show _ = _; rw [hV.out, mayS]; simp [hk1, hk2, hk3, hk4, hk5, hk6, hk7]
                  exact ⟨hidU ⟨[], by rw [HVf.out]; rfl, (fun h => by rw [HVf.out] at h; cases h), by simp⟩, hw3⟩
  · exact absurd (show 0 < n1 by rw [hn1.out]; exact hpos.out) hm0

end Go.Proofs.YtcmahiphfpgadaaGreatDoor
