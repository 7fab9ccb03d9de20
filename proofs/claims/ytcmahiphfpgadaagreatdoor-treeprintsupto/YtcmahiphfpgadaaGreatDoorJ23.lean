/- The document's own text of an expression. -/
import Derived.Test.YtcmahiphfpgadaaGreatDoorJ22
import Derived.Test.YtcmahiphfpgadaaGreatDoorJ17
namespace Go.Proofs.YtcmahiphfpgadaaGreatDoor
open Go.RowKit
set_option linter.unusedVariables false

theorem ba_nil (nm : ByteArray) : nm.toList.isEmpty = decide (nm.data.toList = []) := by
  rw [toList_bytes nm]
  unfold bytes
  cases nm.data.toList with
  | nil => rfl
  | cons x r => rfl

theorem exT_16 (t b : Nat) (nm : List UInt8) (k : Ex) : exT (.mk 16 t b nm [k]) = 45 :: exT k := by rw [exT.eq_def]; rfl
theorem exT_17 (t b : Nat) (nm : List UInt8) (k : Ex) : exT (.mk 17 t b nm [k]) = 33 :: exT k := by rw [exT.eq_def]; rfl
theorem exT_18 (t b : Nat) (nm : List UInt8) (k : Ex) : exT (.mk 18 t b nm [k]) = [105, 110, 116, 40] ++ (exT k ++ [41]) := by rw [exT.eq_def]; rfl
theorem exT_19 (t b : Nat) (nm : List UInt8) (k : Ex) : exT (.mk 19 t b nm [k]) = [114, 101, 97, 108, 40] ++ (exT k ++ [41]) := by rw [exT.eq_def]; rfl
theorem exT_two (op t b : Nat) (nm : List UInt8) (k0 k1 : Ex) (h1 : ¬ op = 1) (h2 : ¬ op = 2) : exT (.mk op t b nm [k0, k1]) = 40 :: (exT k0 ++ 32 :: (sgT op ++ 32 :: (exT k1 ++ [41]))) := by
  rw [exT.eq_def]
  show (if op = 1 then _ else if op = 2 then _ else _) = _
  rw [if_neg h1, if_neg h2]
theorem cat_un (A s : List UInt8) : (⟨A.toArray⟩ ++ ⟨s.toArray⟩ ++ ⟨#[41]⟩ : ByteArray) = ⟨(A ++ (s ++ [41])).toArray⟩ := by
  apply ByteArray.ext
  simp
theorem one_of {α β : Type} (f : α → β) (ks : List α) (n : Nat) (hn : n = ks.length) (h1 : n = 1) : ∃ k0, ks.map f = [k0] := by
  match ks, (show ks.length = 1 by omega) with
  | [k0], _ => exact ⟨f k0, rfl⟩
theorem two_of {α β : Type} (f : α → β) (ks : List α) (n : Nat) (hn : n = ks.length) (h1 : n = 2) : ∃ k0 k1, ks.map f = [k0, k1] := by
  match ks, (show ks.length = 2 by omega) with
  | [k0, k1], _ => exact ⟨f k0, f k1, rfl⟩
theorem list1 {α : Type} (l : List α) (h : l.length = 1) : ∃ s0, l = [s0] := by
  match l, h with
  | [s0], _ => exact ⟨s0, rfl⟩
theorem list2 {α : Type} (l : List α) (h : l.length = 2) : ∃ s0 s1, l = [s0, s1] := by
  match l, h with
  | [s0, s1], _ => exact ⟨s0, s1, rfl⟩

set_option maxRecDepth 100000 in
set_option maxHeartbeats 12800000 in
theorem refExpr_of (B : Nat) (op t b : Nat) (nm : ByteArray) (a : Option Addr) (c : Nat) (ks : List ET) (hW : exW (ET.mk op t b nm a c ks).ex ≤ 1048576) (hS : ∀ k ∈ ks, RxW B k) : RxW B (.mk op t b nm a c ks) := by
  intro w hin hBw
  unfold ET.In at hin
  obtain ⟨o256, t256, b64, x1, x2, x3⟩ := hin
  have HR : Hid (RowE B w a c ks) := ⟨x1, x2, x3⟩
  obtain ⟨n, hn⟩ : ∃ n, Hid (n = ks.length) := ⟨_, (rfl : ks.length = _)⟩
  have eW : exW (ET.mk op t b nm a c ks).ex = nm.data.toList.length + 1 + exWs (ks.map ET.ex) := by
    show exW (Ex.mk op t b nm.data.toList (ET.exs ks)) = _
    rw [exW, ET.exs_eq]
  have eX : (ET.mk op t b nm a c ks).ex = .mk op t b nm.data.toList (ks.map ET.ex) := by
    show Ex.mk op t b nm.data.toList (ET.exs ks) = _
    rw [ET.exs_eq]
  obtain ⟨V, hV⟩ : ∃ V, Hid (V = mayX (.mk op t b nm.data.toList (ks.map ET.ex))) := ⟨_, (rfl : mayX (.mk op t b nm.data.toList (ks.map ET.ex)) = _)⟩
  obtain ⟨X, hX⟩ : ∃ X, Hid (X = exT (.mk op t b nm.data.toList (ks.map ET.ex))) := ⟨_, (rfl : exT (.mk op t b nm.data.toList (ks.map ET.ex)) = _)⟩
  obtain ⟨N, hN⟩ : ∃ N, Hid (N = exW (ET.mk op t b nm a c ks).ex) := ⟨_, (rfl : exW (ET.mk op t b nm a c ks).ex = _)⟩
  have hN1 : N ≤ 1048576 := by rw [hN.out]; exact hW
  show Calls Tryz.prog 39 #[.agg (ex5 op t b nm (.slice a ks.length c)).toArray] w _
  rw [eX, ← hV.out, ← hX.out, ← eX, ← hN.out, ← hn.out]
  rw [← hn.out] at x1 x2
  have HNW : Hid (N = nm.data.toList.length + 1 + exWs (ks.map ET.ex)) := by show _ = _; rw [hN.out, eW]
  have HS : Hid (∀ k ∈ ks, RxW B k) := hS
  clear x3 hS hW eW eX hN
  have hnm := ba_nil nm
  have hBo : Hid (∀ h : bareX op t b nm.data.toList = false, V = false) := fun h => by rw [hV.out]; exact mayX_bare _ _ _ _ _ h
  go_enter Tryz.func39, Tryz.ntmps39
  go_wp2_with (first
    | ((with_reducible show wpList _ _ _ _ _ _); refine wpList_box_at rfl 34 (.tmp 0) rfl (ex5 op t b nm (.slice a n c)) rfl ?_; intro x hA1 hb1 hs1; clear hs1; refine Hid.out ?_))
  refine hidU ?_
  obtain ⟨c0, c1, c2, c3, c4⟩ := ex_cells hA1
  have hlt : w.heap.size < x.heap.size := hA1.lt
  have hq := eq26 t b x
  by_cases h1 : op = 1
  · subst h1
    by_cases hz : nm.data.toList = []
    · rw [decide_eq_true hz] at hnm
      go_wp2_with fail
      go_loopw [4, 5] (fun v j wr => ∃ i : Nat, j = .int .i64 (i : Int) ∧ i ≤ n ∧ Hid (∃ l : List (List UInt8), l.length = i ∧ l = ((ks.map ET.ex).take i).map exT ∧ mayXs ((ks.map ET.ex).take i) = true ∧ ((∀ s ∈ l, s.length ≤ 67108864) ∧ (l.map List.length).sum ≤ 64 * exWs ((ks.map ET.ex).take i)) ∧ wr.ownsRow x.heap.size 9 1 v i (l.map fun s : List UInt8 => Value.string ⟨s.toArray⟩) ∧ Below x.heap.size x wr)) (fun v j _ => n - (intOf j).toNat)
      case atStart => exact ⟨0, rfl, Nat.zero_le _, [], rfl, rfl, rfl, ⟨(fun s h => by cases h), by simp⟩, World.ownsRow_nil x _ 9 1, Below.refl _ _⟩
      case round =>
        obtain ⟨i, rfl, hi, hXX⟩ := hrel
        obtain ⟨l, hll, hlx, hlm, hls, hown, hbr⟩ := hXX.out
        clear hXX c0 c1 c2 c3 c4
        have hAr := hA1.below hbr
        obtain ⟨c0, c1, c2, c3, c4⟩ := ex_cells hAr
        have hwr := hb1.trans (hbr.mono hb1.size)
        by_cases hc : i < n
        · obtain ⟨y, hy⟩ : ∃ k, ks[i]? = some k := ⟨ks[i]'(by rw [← hn.out]; exact hc), by rw [List.getElem?_eq_getElem]⟩
          obtain ⟨g1, o1, rfl, hg1, hr1, hy1⟩ := (HR.out.old (Old.of_below hwr hBw)).at i y hy
          have hm := List.mem_of_getElem? hy
          have hyw := exWs_mem (ks.map ET.ex) y.ex (List.mem_map_of_mem hm)
          have hC := HS.out y hm wr hy1 (by have := hwr.size; omega)
          obtain ⟨Y, hY⟩ : ∃ Y, Hid (Y = mayX y.ex) := ⟨_, (rfl : mayX y.ex = _)⟩
          rw [← hY.out] at hC
          have HT : Hid ((ks.map ET.ex)[i]? = some y.ex) := by show _ = _; rw [List.getElem?_map, hy]; rfl
          obtain ⟨yop, yt, yb, ynm, ya, yc, yk⟩ := y
          obtain ⟨q0, q1, q2, q3, q4⟩ := ex_mid (s := .slice ya yk.length yc) hr1
          have HYW : Hid (exW (ET.mk yop yt yb ynm ya yc yk).ex ≤ 1048576) := by
            have := HNW.out
            show _ ≤ _
            omega
          have HL : Hid (l.length = i ∧ l = ((ks.map ET.ex).take i).map exT ∧ mayXs ((ks.map ET.ex).take i) = true ∧ ((∀ s ∈ l, s.length ≤ 67108864) ∧ (l.map List.length).sum ≤ 64 * exWs ((ks.map ET.ex).take i)) ∧ wr.ownsRow x.heap.size 9 1 _ i (l.map fun s : List UInt8 => Value.string ⟨s.toArray⟩) ∧ Below x.heap.size x wr) := ⟨hll, hlx, hlm, hls, hown, hbr⟩
          clear hr1 hy1 hy hll hlx hlm hls hown hbr hyw
          go_wp2_with (go_at_call 39; refine hC.mono ?_; rintro r z ⟨hq, hbz⟩; obtain ⟨s, rfl, hs, hsl⟩ := hq.out; refine Hid.out ?_)
          refine hidU ?_
          have hwz := hwr.trans (hbz.mono hwr.size)
          clear hC hq q0 q1 q2 q3 q4 c0 c1 c2 c3 c4 hAr
          cases Y with
          | false =>
            have hVf : V = false := by
              rw [hV.out]
              exact mayX_kids _ _ _ _ _ (mayXs_no _ _ (List.mem_map_of_mem hm) hY.out.symm)
            subst hVf
            clear HR HS hV hX hn HNW hBo HL HT HYW hY
            go_wp2
            go_ret2
            exact ⟨hidU ⟨[], rfl, (fun h => by cases h), by simp⟩, hwz⟩
          | true =>
            have hs1 : Hid (s = exT (ET.mk yop yt yb ynm ya yc yk).ex) := hs rfl
            clear hs
            have hsL : s.length ≤ 67108864 := by have := HYW.out; omega
            have HO := own_below HL.out.2.2.2.2.1 hbz
            obtain ⟨ie, hie, hz0, hz1, hz2⟩ := info_parts f9
            go_wp2_with (first
              | ((with_reducible show wpList _ _ _ _ _ _); refine wpList_buildSlice rfl 23 9 1 #[(0, .tmp 49)] rfl #[.string ⟨s.toArray⟩] ie _ Tryz.underlying23 hie hz0 (by rw [hz1]; decide) (by rw [hz1]; decide) (by rw [hz1]; kernel_rfl) ?_; refine Hid.out ?_))
            refine hidU ?_
            obtain ⟨z2, hz2'⟩ : ∃ u, u = z.alloc (.cells #[.string ⟨s.toArray⟩] 9) := ⟨_, rfl⟩
            have hb9 : Below z.heap.size z z2 := by rw [hz2']; exact (Below.refl _ _).alloc (Nat.le_refl _) _
            have hA9 : At 9 z2 z.heap.size [.string ⟨s.toArray⟩] := by rw [hz2']; exact _root_.Go.heap_alloc_new _ _
            rw [← hz2']
            clear hz2' hie hz0 hz1 hz2
            have HO2 := own_below HO hb9
            have hbx2 : Below x.heap.size x z2 := HL.out.2.2.2.2.2.trans ((hbz.trans (hb9.mono hbz.size)).mono HL.out.2.2.2.2.2.size)
            have G1 : Hid (∀ ad, some (⟨z.heap.size, 0, none⟩ : Addr) = some ad → ∀ (j : Nat) (u : Value), [Value.string ⟨s.toArray⟩][j]? = some u → z2.cell? (ad.add j) = some u) := by
              intro ad he j u hj
              cases he
              rw [Addr.add_mid, hA9.cell, Nat.zero_add]
              exact hj
            have G2 : Hid (∀ u ∈ [Value.string ⟨s.toArray⟩], u.oneCell' = true) := by
              intro u hu
              rw [List.mem_singleton] at hu
              subst hu
              rfl
            go_wp2_with (first
              | ((with_reducible show wpList _ _ _ _ _ _); refine appAny (.tmp 48) (.tmp 50) 23 9 _ 1 16 x.heap.size _ i (l.map fun s : List UInt8 => Value.string ⟨s.toArray⟩) (some ⟨z.heap.size, 0, none⟩) 1 1 [.string ⟨s.toArray⟩] rfl rfl Tryz.underlying23 f9 rfl (by decide) rfl rfl HO2 rfl (fun e => by cases e) G1.out G2.out (by unfold maxLen; omega) (by omega) hbx2.size ?_; intro v' z3 hown3 hgr3 hnil3; refine Hid.out ?_))
            refine hidU ?_
            have HF : Hid (∃ l : List (List UInt8), l.length = i + 1 ∧ l = ((ks.map ET.ex).take (i + 1)).map exT ∧ mayXs ((ks.map ET.ex).take (i + 1)) = true ∧ ((∀ s ∈ l, s.length ≤ 67108864) ∧ (l.map List.length).sum ≤ 64 * exWs ((ks.map ET.ex).take (i + 1))) ∧ z3.ownsRow x.heap.size 9 1 v' (i + 1) (l.map fun s : List UInt8 => Value.string ⟨s.toArray⟩) ∧ Below x.heap.size x z3) := by
              refine ⟨l ++ [s], by rw [List.length_append, HL.out.1]; rfl, ?_, ?_, ?_, ?_, ?_⟩
              · rw [List.take_add_one, HT.out, List.map_append, ← HL.out.2.1, hs1.out]
                rfl
              · rw [mayXs_take _ _ _ HT.out, HL.out.2.2.1, ← hY.out]
                rfl
              · refine ⟨?_, ?_⟩
                · intro s' hs'
                  rcases List.mem_append.1 hs' with q | q
                  · exact HL.out.2.2.2.1.1 s' q
                  · rw [List.mem_singleton.1 q]
                    exact hsL
                · have h5 := HL.out.2.2.2.1.2
                  rw [List.map_append, List.sum_append, exWs_take_succ _ _ _ HT.out]
                  simp only [List.map_cons, List.map_nil, List.sum_cons, List.sum_nil]
                  omega
              · rw [List.map_append]
                exact hown3
              · exact hbx2.grown hgr3 hbx2.size (fun k hk => (HO2.lt k hk).1)
            clear HL HO HO2 hown3 hgr3 hnil3 hA9 hb9 hbz hbx2 hs1 HT hY HYW G1 G2
            go_wp2
            go_roundw
            case rel => exact ⟨i + 1, by go_num, by omega, HF⟩
            case measure => simp [intOf]; omega
        · have hin : i = n := by omega
          obtain ⟨sa, cap, hvv⟩ : ∃ sa cap, u4 = Value.slice sa n cap := by
            obtain ⟨-, ⟨e, h0⟩ | ⟨g, cap, cur, e, -⟩⟩ := id hown
            · exact ⟨none, 0, by rw [e, ← hin, h0]⟩
            · exact ⟨_, _, by rw [e, hin]⟩
          subst hvv
          rw [hin, hn.out, List.take_of_length_le (by simp)] at hlx hlm hls
          have HM : Hid (mayXs (ks.map ET.ex) = true) := hlm
          clear hlm HS HR
          have HZ : Hid (V = (decide (n = 0) && litOk t b) ∧ X = valTx t b) := by
            refine ⟨?_, by rw [hX.out]; unfold exT; simp⟩
            rw [hV.out, mayX, HM.out]
            have e0 : opnds 1 = 0 := rfl
            rw [e0, List.length_map, ← hn.out, decide_eq_true hz]
            simp
          have hC := refLit_any t b t256 b64 wr
          obtain ⟨L, hL⟩ : ∃ L, Hid (L = litOk t b) := ⟨_, (rfl : litOk t b = _)⟩
          rw [← hL.out] at hC HZ
          clear hown hlx hls hll HM hV hX hn
          go_wp2_with (go_at_call 42; refine hC.mono ?_; rintro r z ⟨hq2, hbz⟩; obtain ⟨s, rfl, hs, hsl⟩ := hq2.out; refine Hid.out ?_)
          refine hidU ?_
          have hwz := hwr.trans (hbz.mono hwr.size)
          have HQ : Hid ((V = true → s = X) ∧ s.length ≤ 64 * N) := by
            refine ⟨fun h => ?_, by have := HNW.out; omega⟩
            rw [HZ.out.2]
            refine hs ?_
            have := HZ.out.1
            rw [h] at this
            cases L
            · simp at this
            · rfl
          have HV2 : Hid (V = (decide (n = 0) && L)) := HZ.out.1
          clear hC hq2 hs hL HZ hbz hAr c0 c1 c2 c3 c4 hbr hA1 hb1
          cases L with
          | false =>
            have HVf : Hid (V = false) := by show _ = _; rw [HV2.out]; simp
            clear HV2
            go_wp2
            go_ret2
            exact ⟨hidU ⟨s, by rw [HVf.out]; rfl, HQ.out.1, HQ.out.2⟩, hwz⟩
          | true =>
            by_cases hn0 : n = 0
            · have HVf : Hid (V = true) := by show _ = _; rw [HV2.out, decide_eq_true hn0]; rfl
              have hni : ((n : Int) == 0) = true := by subst hn0; rfl
              clear HV2 hn0
              go_wp2
              go_ret2
              exact ⟨hidU ⟨s, by rw [HVf.out]; rfl, HQ.out.1, HQ.out.2⟩, hwz⟩
            · have HVf : Hid (V = false) := by show _ = _; rw [HV2.out, decide_eq_false hn0]; rfl
              have hni : ((n : Int) == 0) = false := beq_eq_false_iff_ne.2 (by omega)
              clear HV2 hn0
              go_wp2
              go_ret2
              exact ⟨hidU ⟨s, by rw [HVf.out]; rfl, HQ.out.1, HQ.out.2⟩, hwz⟩
    · have hbare : bareX 1 t b nm.data.toList = false := by unfold bareX; rw [decide_eq_false hz]; rfl
      rw [decide_eq_false hz] at hnm
      have hVf : V = false := hBo.out hbare
      subst hVf
      clear HR HS hV hX hn HNW hBo hbare
      go_wp2
      all_goals
        (go_ret2
         exact ⟨hidU ⟨[], rfl, (fun h => by cases h), by simp⟩, hb1⟩)
  · have o1i : ¬ (op : Int) = 1 := by omega
    by_cases hz : t = 0 ∧ b = 0
    · rw [decide_eq_true hz] at hq
      by_cases h2 : op = 2
      · have o2 : (op : Int) = 2 := by omega
        have H2 : Hid (op = 2) := h2
        have H0 : Hid (t = 0 ∧ b = 0) := hz
        have zt : (t : Int) = 0 := by omega
        have zb : (b : Int) = 0 := by omega
        clear h2 hz h1
        go_wp2_with fail
        go_loopw [4, 5] (fun v j wr => ∃ i : Nat, j = .int .i64 (i : Int) ∧ i ≤ n ∧ Hid (∃ l : List (List UInt8), l.length = i ∧ l = ((ks.map ET.ex).take i).map exT ∧ mayXs ((ks.map ET.ex).take i) = true ∧ ((∀ s ∈ l, s.length ≤ 67108864) ∧ (l.map List.length).sum ≤ 64 * exWs ((ks.map ET.ex).take i)) ∧ wr.ownsRow x.heap.size 9 1 v i (l.map fun s : List UInt8 => Value.string ⟨s.toArray⟩) ∧ Below x.heap.size x wr)) (fun v j _ => n - (intOf j).toNat)
        case atStart => exact ⟨0, rfl, Nat.zero_le _, [], rfl, rfl, rfl, ⟨(fun s h => by cases h), by simp⟩, World.ownsRow_nil x _ 9 1, Below.refl _ _⟩
        case round =>
          obtain ⟨i, rfl, hi, hXX⟩ := hrel
          obtain ⟨l, hll, hlx, hlm, hls, hown, hbr⟩ := hXX.out
          clear hXX c0 c1 c2 c3 c4
          have hAr := hA1.below hbr
          obtain ⟨c0, c1, c2, c3, c4⟩ := ex_cells hAr
          have hwr := hb1.trans (hbr.mono hb1.size)
          by_cases hc : i < n
          · obtain ⟨y, hy⟩ : ∃ k, ks[i]? = some k := ⟨ks[i]'(by rw [← hn.out]; exact hc), by rw [List.getElem?_eq_getElem]⟩
            obtain ⟨g1, o1, rfl, hg1, hr1, hy1⟩ := (HR.out.old (Old.of_below hwr hBw)).at i y hy
            have hm := List.mem_of_getElem? hy
            have hyw := exWs_mem (ks.map ET.ex) y.ex (List.mem_map_of_mem hm)
            have hC := HS.out y hm wr hy1 (by have := hwr.size; omega)
            obtain ⟨Y, hY⟩ : ∃ Y, Hid (Y = mayX y.ex) := ⟨_, (rfl : mayX y.ex = _)⟩
            rw [← hY.out] at hC
            have HT : Hid ((ks.map ET.ex)[i]? = some y.ex) := by show _ = _; rw [List.getElem?_map, hy]; rfl
            obtain ⟨yop, yt, yb, ynm, ya, yc, yk⟩ := y
            obtain ⟨q0, q1, q2, q3, q4⟩ := ex_mid (s := .slice ya yk.length yc) hr1
            have HYW : Hid (exW (ET.mk yop yt yb ynm ya yc yk).ex ≤ 1048576) := by
              have := HNW.out
              show _ ≤ _
              omega
            have HL : Hid (l.length = i ∧ l = ((ks.map ET.ex).take i).map exT ∧ mayXs ((ks.map ET.ex).take i) = true ∧ ((∀ s ∈ l, s.length ≤ 67108864) ∧ (l.map List.length).sum ≤ 64 * exWs ((ks.map ET.ex).take i)) ∧ wr.ownsRow x.heap.size 9 1 _ i (l.map fun s : List UInt8 => Value.string ⟨s.toArray⟩) ∧ Below x.heap.size x wr) := ⟨hll, hlx, hlm, hls, hown, hbr⟩
            clear hr1 hy1 hy hll hlx hlm hls hown hbr hyw
            go_wp2_with (go_at_call 39; refine hC.mono ?_; rintro r z ⟨hq, hbz⟩; obtain ⟨s, rfl, hs, hsl⟩ := hq.out; refine Hid.out ?_)
            refine hidU ?_
            have hwz := hwr.trans (hbz.mono hwr.size)
            clear hC hq q0 q1 q2 q3 q4 c0 c1 c2 c3 c4 hAr
            cases Y with
            | false =>
              have hVf : V = false := by
                rw [hV.out]
                exact mayX_kids _ _ _ _ _ (mayXs_no _ _ (List.mem_map_of_mem hm) hY.out.symm)
              subst hVf
              clear HR HS hV hX hn HNW hBo HL HT HYW hY
              go_wp2
              go_ret2
              exact ⟨hidU ⟨[], rfl, (fun h => by cases h), by simp⟩, hwz⟩
            | true =>
              have hs1 : Hid (s = exT (ET.mk yop yt yb ynm ya yc yk).ex) := hs rfl
              clear hs
              have hsL : s.length ≤ 67108864 := by have := HYW.out; omega
              have HO := own_below HL.out.2.2.2.2.1 hbz
              obtain ⟨ie, hie, hz0, hz1, hz2⟩ := info_parts f9
              go_wp2_with (first
                | ((with_reducible show wpList _ _ _ _ _ _); refine wpList_buildSlice rfl 23 9 1 #[(0, .tmp 49)] rfl #[.string ⟨s.toArray⟩] ie _ Tryz.underlying23 hie hz0 (by rw [hz1]; decide) (by rw [hz1]; decide) (by rw [hz1]; kernel_rfl) ?_; refine Hid.out ?_))
              refine hidU ?_
              obtain ⟨z2, hz2'⟩ : ∃ u, u = z.alloc (.cells #[.string ⟨s.toArray⟩] 9) := ⟨_, rfl⟩
              have hb9 : Below z.heap.size z z2 := by rw [hz2']; exact (Below.refl _ _).alloc (Nat.le_refl _) _
              have hA9 : At 9 z2 z.heap.size [.string ⟨s.toArray⟩] := by rw [hz2']; exact _root_.Go.heap_alloc_new _ _
              rw [← hz2']
              clear hz2' hie hz0 hz1 hz2
              have HO2 := own_below HO hb9
              have hbx2 : Below x.heap.size x z2 := HL.out.2.2.2.2.2.trans ((hbz.trans (hb9.mono hbz.size)).mono HL.out.2.2.2.2.2.size)
              have G1 : Hid (∀ ad, some (⟨z.heap.size, 0, none⟩ : Addr) = some ad → ∀ (j : Nat) (u : Value), [Value.string ⟨s.toArray⟩][j]? = some u → z2.cell? (ad.add j) = some u) := by
                intro ad he j u hj
                cases he
                rw [Addr.add_mid, hA9.cell, Nat.zero_add]
                exact hj
              have G2 : Hid (∀ u ∈ [Value.string ⟨s.toArray⟩], u.oneCell' = true) := by
                intro u hu
                rw [List.mem_singleton] at hu
                subst hu
                rfl
              go_wp2_with (first
                | ((with_reducible show wpList _ _ _ _ _ _); refine appAny (.tmp 48) (.tmp 50) 23 9 _ 1 16 x.heap.size _ i (l.map fun s : List UInt8 => Value.string ⟨s.toArray⟩) (some ⟨z.heap.size, 0, none⟩) 1 1 [.string ⟨s.toArray⟩] rfl rfl Tryz.underlying23 f9 rfl (by decide) rfl rfl HO2 rfl (fun e => by cases e) G1.out G2.out (by unfold maxLen; omega) (by omega) hbx2.size ?_; intro v' z3 hown3 hgr3 hnil3; refine Hid.out ?_))
              refine hidU ?_
              have HF : Hid (∃ l : List (List UInt8), l.length = i + 1 ∧ l = ((ks.map ET.ex).take (i + 1)).map exT ∧ mayXs ((ks.map ET.ex).take (i + 1)) = true ∧ ((∀ s ∈ l, s.length ≤ 67108864) ∧ (l.map List.length).sum ≤ 64 * exWs ((ks.map ET.ex).take (i + 1))) ∧ z3.ownsRow x.heap.size 9 1 v' (i + 1) (l.map fun s : List UInt8 => Value.string ⟨s.toArray⟩) ∧ Below x.heap.size x z3) := by
                refine ⟨l ++ [s], by rw [List.length_append, HL.out.1]; rfl, ?_, ?_, ?_, ?_, ?_⟩
                · rw [List.take_add_one, HT.out, List.map_append, ← HL.out.2.1, hs1.out]
                  rfl
                · rw [mayXs_take _ _ _ HT.out, HL.out.2.2.1, ← hY.out]
                  rfl
                · refine ⟨?_, ?_⟩
                  · intro s' hs'
                    rcases List.mem_append.1 hs' with q | q
                    · exact HL.out.2.2.2.1.1 s' q
                    · rw [List.mem_singleton.1 q]
                      exact hsL
                  · have h5 := HL.out.2.2.2.1.2
                    rw [List.map_append, List.sum_append, exWs_take_succ _ _ _ HT.out]
                    simp only [List.map_cons, List.map_nil, List.sum_cons, List.sum_nil]
                    omega
                · rw [List.map_append]
                  exact hown3
                · exact hbx2.grown hgr3 hbx2.size (fun k hk => (HO2.lt k hk).1)
              clear HL HO HO2 hown3 hgr3 hnil3 hA9 hb9 hbz hbx2 hs1 HT hY HYW G1 G2
              go_wp2
              go_roundw
              case rel => exact ⟨i + 1, by go_num, by omega, HF⟩
              case measure => simp [intOf]; omega
          · have hin : i = n := by omega
            obtain ⟨sa, cap, hvv⟩ : ∃ sa cap, u4 = Value.slice sa n cap := by
              obtain ⟨-, ⟨e, h0⟩ | ⟨g, cap, cur, e, -⟩⟩ := id hown
              · exact ⟨none, 0, by rw [e, ← hin, h0]⟩
              · exact ⟨_, _, by rw [e, hin]⟩
            subst hvv
            rw [hin, hn.out, List.take_of_length_le (by simp)] at hlx hlm hls
            have HM : Hid (mayXs (ks.map ET.ex) = true) := hlm
            clear hlm HS HR
            have HZ : Hid (V = (decide (n = 0) && isNm nm.data.toList) ∧ X = nm.data.toList ∧ nm.data.toList.length ≤ 64 * N) := by
              refine ⟨?_, by rw [hX.out, H2.out]; unfold exT; simp, by have := HNW.out; omega⟩
              rw [hV.out, mayX, HM.out, H2.out]
              have e0 : opnds 2 = 0 := rfl
              rw [e0, List.length_map, ← hn.out, decide_eq_true H0.out, if_neg (by decide), if_pos rfl]
              simp
            have hB0 : Below wr.heap.size wr wr.drew := Below.drew (Below.refl _ _)
            have hS0 := hAr.below hB0
            have hby : Hid (bytes nm = nm.data.toList) := rfl
            clear hown hlx hls hll HM hV hX hn HNW hBo hA1
            by_cases hn0 : n = 0
            · have hni : ((n : Int) == 0) = true := by subst hn0; rfl
              go_wp2_with fail
              refine wp_region_held_drew (S := fun x => At 34 x w.heap.size (ex5 op t b nm (.slice a n c))) (by kernel_rfl) hS0 (fun _ => ?_)
              refine wpAnyH_take (i := 0) (oi := { dst := some 74, op := .fieldAddr 34 (.tmp 1) 2, guard := none, .. }) (v := .pointer (some ⟨w.heap.size, 3, none⟩)) rfl (by kernel_rfl) (by kernel_rfl) (by kernel_rfl) (fun _ _ _ h => h) (Or.inl ⟨by rfl, ?_⟩) hS0 ?_
              · intro w hSw
                go_simp
              simp only [Act.put, sA, sB, sC]
              refine wpAnyH_take (i := 1) (oi := { dst := some 75, op := .load 9 (.tmp 74), guard := none, .. }) (v := .string nm) rfl (by kernel_rfl) (by kernel_rfl) (by kernel_rfl) (fun _ _ _ h => h) (Or.inl ⟨by rfl, ?_⟩) hS0 ?_
              · intro w hSw
                obtain ⟨z0, z1, z2, z3, z4⟩ := ex_cells hSw
                go_simp
              simp only [Act.put, sA, sB, sC]
              refine wpAnyH_take (i := 2) (oi := { dst := some 76, op := .move (.tmp 8), guard := none, .. }) (v := .int .i64 (n : Int)) rfl (by kernel_rfl) (by kernel_rfl) (by kernel_rfl) (fun _ _ _ h => h) (Or.inl ⟨by rfl, ?_⟩) hS0 ?_
              · intro w hSw
                go_simp
              simp only [Act.put, sA, sB, sC]
              refine wpAnyH_take (i := 3) (oi := { dst := some 77, op := .binOp .eql 3 (.tmp 76) (.const (.int .i64 0)) 3, guard := none, .. }) (v := .bool true) rfl (by kernel_rfl) (by kernel_rfl) (by kernel_rfl) (fun _ _ _ h => h) (Or.inl ⟨by rfl, ?_⟩) hS0 ?_
              · intro w hSw
                go_simp
              simp only [Act.put, sA, sB, sC]
              refine wpAnyH_take (i := 4) (oi := { dst := some 78, op := .move (.tmp 77), guard := none, .. }) (v := .bool true) rfl (by kernel_rfl) (by kernel_rfl) (by kernel_rfl) (fun _ _ _ h => h) (Or.inl ⟨by rfl, ?_⟩) hS0 ?_
              · intro w hSw
                go_simp
              simp only [Act.put, sA, sB, sC]
              refine wpAnyH_take (i := 5) (oi := { dst := some 79, op := .fieldAddr 34 (.tmp 1) 2, guard := some (4, true), .. }) (v := .pointer (some ⟨w.heap.size, 3, none⟩)) rfl (by kernel_rfl) (by kernel_rfl) (by kernel_rfl) (fun _ _ _ h => h) (Or.inl ⟨by rfl, ?_⟩) hS0 ?_
              · intro w hSw
                go_simp
              simp only [Act.put, sA, sB, sC]
              refine wpAnyH_take (i := 6) (oi := { dst := some 80, op := .load 9 (.tmp 79), guard := some (4, true), .. }) (v := .string nm) rfl (by kernel_rfl) (by kernel_rfl) (by kernel_rfl) (fun _ _ _ h => h) (Or.inl ⟨by rfl, ?_⟩) hS0 ?_
              · intro w hSw
                obtain ⟨z0, z1, z2, z3, z4⟩ := ex_cells hSw
                go_simp
              simp only [Act.put, sA, sB, sC]
              refine wpAnyH_ready (rs := [7]) (by kernel_rfl) (by simp) ?_
              refine AllReadyH.cons (o := { dst := some 81, op := .call { callee := .value (.func 35), args := #[.tmp 80], argTypes := #[9] }, guard := some (4, true), .. }) rfl (fun K hK => ?_) AllReadyH.nil
              rw [if_pos (by rfl)]
              go_wp2_with (go_at_call 35; refine (refName_any nm _).mono ?_; rintro e x ⟨rfl, hb2⟩)
              have hB1 := hB0.trans (hb2.mono hB0.size)
              have hS1 := hAr.below hB1
              refine hK.out _ _ hS1 (fun _ => ?_)
              refine wpAnyH_take (i := 8) (oi := { dst := some 82, op := .pick (.tmp 78) (.tmp 81) (.const (.bool false)), guard := none, .. }) (v := .bool (isNm (bytes nm))) rfl (by kernel_rfl) (by kernel_rfl) (by kernel_rfl) (fun _ _ _ h => h) (Or.inl ⟨by rfl, ?_⟩) hS1 ?_
              · intro w hSw
                go_simp
              simp only [Act.put, sA, sB, sC]
              refine wpAnyH_take (i := 9) (oi := { dst := some 2, op := .assign (.tmp 75), guard := none, .. }) (v := .string nm) rfl (by kernel_rfl) (by kernel_rfl) (by kernel_rfl) (fun _ _ _ h => h) (Or.inl ⟨by rfl, ?_⟩) hS1 ?_
              · intro w hSw
                go_simp
              simp only [Act.put, sA, sB, sC]
              refine wpAnyH_take (i := 10) (oi := { dst := some 3, op := .assign (.tmp 82), guard := none, .. }) (v := .bool (isNm (bytes nm))) rfl (by kernel_rfl) (by kernel_rfl) (by kernel_rfl) (fun _ _ _ h => h) (Or.inl ⟨by rfl, ?_⟩) hS1 ?_
              · intro w hSw
                go_simp
              simp only [Act.put, sA, sB, sC]
              refine wpAnyH_done (by kernel_rfl) ?_ _
              have hwf := hwr.trans (hB1.mono hwr.size)
              have HV2 : Hid (isNm (bytes nm) = V) := by show _ = _; rw [HZ.out.1, decide_eq_true hn0, hby.out]; rfl
              clear hAr c0 c1 c2 c3 c4 hB0 hS0 hB1 hS1 hb2 hwr hb1 hbr
              go_wp2
              go_ret2
              refine ⟨hidU ⟨nm.data.toList, ?_, fun _ => HZ.out.2.1.symm, HZ.out.2.2⟩, hwf⟩
              rw [← HV2.out]
              rfl
            · have hni : ((n : Int) == 0) = false := beq_eq_false_iff_ne.2 (by omega)
              go_wp2_with fail
              refine wp_region_held_drew (S := fun x => At 34 x w.heap.size (ex5 op t b nm (.slice a n c))) (by kernel_rfl) hS0 (fun _ => ?_)
              refine wpAnyH_take (i := 0) (oi := { dst := some 74, op := .fieldAddr 34 (.tmp 1) 2, guard := none, .. }) (v := .pointer (some ⟨w.heap.size, 3, none⟩)) rfl (by kernel_rfl) (by kernel_rfl) (by kernel_rfl) (fun _ _ _ h => h) (Or.inl ⟨by rfl, ?_⟩) hS0 ?_
              · intro w hSw
                go_simp
              simp only [Act.put, sA, sB, sC]
              refine wpAnyH_take (i := 1) (oi := { dst := some 75, op := .load 9 (.tmp 74), guard := none, .. }) (v := .string nm) rfl (by kernel_rfl) (by kernel_rfl) (by kernel_rfl) (fun _ _ _ h => h) (Or.inl ⟨by rfl, ?_⟩) hS0 ?_
              · intro w hSw
                obtain ⟨z0, z1, z2, z3, z4⟩ := ex_cells hSw
                go_simp
              simp only [Act.put, sA, sB, sC]
              refine wpAnyH_take (i := 2) (oi := { dst := some 76, op := .move (.tmp 8), guard := none, .. }) (v := .int .i64 (n : Int)) rfl (by kernel_rfl) (by kernel_rfl) (by kernel_rfl) (fun _ _ _ h => h) (Or.inl ⟨by rfl, ?_⟩) hS0 ?_
              · intro w hSw
                go_simp
              simp only [Act.put, sA, sB, sC]
              refine wpAnyH_take (i := 3) (oi := { dst := some 77, op := .binOp .eql 3 (.tmp 76) (.const (.int .i64 0)) 3, guard := none, .. }) (v := .bool false) rfl (by kernel_rfl) (by kernel_rfl) (by kernel_rfl) (fun _ _ _ h => h) (Or.inl ⟨by rfl, ?_⟩) hS0 ?_
              · intro w hSw
                go_simp
              simp only [Act.put, sA, sB, sC]
              refine wpAnyH_take (i := 4) (oi := { dst := some 78, op := .move (.tmp 77), guard := none, .. }) (v := .bool false) rfl (by kernel_rfl) (by kernel_rfl) (by kernel_rfl) (fun _ _ _ h => h) (Or.inl ⟨by rfl, ?_⟩) hS0 ?_
              · intro w hSw
                go_simp
              simp only [Act.put, sA, sB, sC]
              refine wpAnyH_take (i := 5) (oi := { dst := some 79, op := .fieldAddr 34 (.tmp 1) 2, guard := some (4, true), .. }) (v := undef) rfl (by kernel_rfl) (by kernel_rfl) (by kernel_rfl) (fun _ _ _ h => h) (Or.inr ⟨by rfl, rfl⟩) hS0 ?_
              simp only [Act.put, sA, sB, sC]
              refine wpAnyH_take (i := 6) (oi := { dst := some 80, op := .load 9 (.tmp 79), guard := some (4, true), .. }) (v := undef) rfl (by kernel_rfl) (by kernel_rfl) (by kernel_rfl) (fun _ _ _ h => h) (Or.inr ⟨by rfl, rfl⟩) hS0 ?_
              simp only [Act.put, sA, sB, sC]
              refine wpAnyH_take (i := 7) (oi := { dst := some 81, op := .call { callee := .value (.func 35), args := #[.tmp 80], argTypes := #[9] }, guard := some (4, true), .. }) (v := undef) rfl (by kernel_rfl) (by kernel_rfl) (by kernel_rfl) (fun _ _ _ h => h) (Or.inr ⟨by rfl, rfl⟩) hS0 ?_
              simp only [Act.put, sA, sB, sC]
              refine wpAnyH_take (i := 8) (oi := { dst := some 82, op := .pick (.tmp 78) (.tmp 81) (.const (.bool false)), guard := none, .. }) (v := .bool false) rfl (by kernel_rfl) (by kernel_rfl) (by kernel_rfl) (fun _ _ _ h => h) (Or.inl ⟨by rfl, ?_⟩) hS0 ?_
              · intro w hSw
                go_simp
              simp only [Act.put, sA, sB, sC]
              refine wpAnyH_take (i := 9) (oi := { dst := some 2, op := .assign (.tmp 75), guard := none, .. }) (v := .string nm) rfl (by kernel_rfl) (by kernel_rfl) (by kernel_rfl) (fun _ _ _ h => h) (Or.inl ⟨by rfl, ?_⟩) hS0 ?_
              · intro w hSw
                go_simp
              simp only [Act.put, sA, sB, sC]
              refine wpAnyH_take (i := 10) (oi := { dst := some 3, op := .assign (.tmp 82), guard := none, .. }) (v := .bool false) rfl (by kernel_rfl) (by kernel_rfl) (by kernel_rfl) (fun _ _ _ h => h) (Or.inl ⟨by rfl, ?_⟩) hS0 ?_
              · intro w hSw
                go_simp
              simp only [Act.put, sA, sB, sC]
              refine wpAnyH_done (by kernel_rfl) ?_ _
              have hwf := hwr.trans (hB0.mono hwr.size)
              have HV2 : Hid (V = false) := by show _ = _; rw [HZ.out.1, decide_eq_false hn0]; rfl
              clear hAr c0 c1 c2 c3 c4 hB0 hS0 hwr hb1 hbr
              go_wp2
              go_ret2
              refine ⟨hidU ⟨nm.data.toList, ?_, fun _ => HZ.out.2.1.symm, HZ.out.2.2⟩, hwf⟩
              rw [HV2.out]
              rfl
      · have o2i : ¬ (op : Int) = 2 := by omega
        by_cases hz2 : nm.data.toList = []
        · rw [decide_eq_true hz2] at hnm
          have H0 : Hid ((t = 0 ∧ b = 0) ∧ nm.data.toList = []) := ⟨hz, hz2⟩
          have zt : (t : Int) = 0 := by omega
          have zb : (b : Int) = 0 := by omega
          clear hz hz2
          go_wp2_with fail
          go_loopw [4, 5] (fun v j wr => ∃ i : Nat, j = .int .i64 (i : Int) ∧ i ≤ n ∧ Hid (∃ l : List (List UInt8), l.length = i ∧ l = ((ks.map ET.ex).take i).map exT ∧ mayXs ((ks.map ET.ex).take i) = true ∧ ((∀ s ∈ l, s.length ≤ 67108864) ∧ (l.map List.length).sum ≤ 64 * exWs ((ks.map ET.ex).take i)) ∧ wr.ownsRow x.heap.size 9 1 v i (l.map fun s : List UInt8 => Value.string ⟨s.toArray⟩) ∧ Below x.heap.size x wr)) (fun v j _ => n - (intOf j).toNat)
          case atStart => exact ⟨0, rfl, Nat.zero_le _, [], rfl, rfl, rfl, ⟨(fun s h => by cases h), by simp⟩, World.ownsRow_nil x _ 9 1, Below.refl _ _⟩
          case round =>
            obtain ⟨i, rfl, hi, hXX⟩ := hrel
            obtain ⟨l, hll, hlx, hlm, hls, hown, hbr⟩ := hXX.out
            clear hXX c0 c1 c2 c3 c4
            have hAr := hA1.below hbr
            obtain ⟨c0, c1, c2, c3, c4⟩ := ex_cells hAr
            have hwr := hb1.trans (hbr.mono hb1.size)
            by_cases hc : i < n
            · obtain ⟨y, hy⟩ : ∃ k, ks[i]? = some k := ⟨ks[i]'(by rw [← hn.out]; exact hc), by rw [List.getElem?_eq_getElem]⟩
              obtain ⟨g1, o1, rfl, hg1, hr1, hy1⟩ := (HR.out.old (Old.of_below hwr hBw)).at i y hy
              have hm := List.mem_of_getElem? hy
              have hyw := exWs_mem (ks.map ET.ex) y.ex (List.mem_map_of_mem hm)
              have hC := HS.out y hm wr hy1 (by have := hwr.size; omega)
              obtain ⟨Y, hY⟩ : ∃ Y, Hid (Y = mayX y.ex) := ⟨_, (rfl : mayX y.ex = _)⟩
              rw [← hY.out] at hC
              have HT : Hid ((ks.map ET.ex)[i]? = some y.ex) := by show _ = _; rw [List.getElem?_map, hy]; rfl
              obtain ⟨yop, yt, yb, ynm, ya, yc, yk⟩ := y
              obtain ⟨q0, q1, q2, q3, q4⟩ := ex_mid (s := .slice ya yk.length yc) hr1
              have HYW : Hid (exW (ET.mk yop yt yb ynm ya yc yk).ex ≤ 1048576) := by
                have := HNW.out
                show _ ≤ _
                omega
              have HL : Hid (l.length = i ∧ l = ((ks.map ET.ex).take i).map exT ∧ mayXs ((ks.map ET.ex).take i) = true ∧ ((∀ s ∈ l, s.length ≤ 67108864) ∧ (l.map List.length).sum ≤ 64 * exWs ((ks.map ET.ex).take i)) ∧ wr.ownsRow x.heap.size 9 1 _ i (l.map fun s : List UInt8 => Value.string ⟨s.toArray⟩) ∧ Below x.heap.size x wr) := ⟨hll, hlx, hlm, hls, hown, hbr⟩
              clear hr1 hy1 hy hll hlx hlm hls hown hbr hyw
              go_wp2_with (go_at_call 39; refine hC.mono ?_; rintro r z ⟨hq, hbz⟩; obtain ⟨s, rfl, hs, hsl⟩ := hq.out; refine Hid.out ?_)
              refine hidU ?_
              have hwz := hwr.trans (hbz.mono hwr.size)
              clear hC hq q0 q1 q2 q3 q4 c0 c1 c2 c3 c4 hAr
              cases Y with
              | false =>
                have hVf : V = false := by
                  rw [hV.out]
                  exact mayX_kids _ _ _ _ _ (mayXs_no _ _ (List.mem_map_of_mem hm) hY.out.symm)
                subst hVf
                clear HR HS hV hX hn HNW hBo HL HT HYW hY
                go_wp2
                go_ret2
                exact ⟨hidU ⟨[], rfl, (fun h => by cases h), by simp⟩, hwz⟩
              | true =>
                have hs1 : Hid (s = exT (ET.mk yop yt yb ynm ya yc yk).ex) := hs rfl
                clear hs
                have hsL : s.length ≤ 67108864 := by have := HYW.out; omega
                have HO := own_below HL.out.2.2.2.2.1 hbz
                obtain ⟨ie, hie, hz0, hz1, hz2⟩ := info_parts f9
                go_wp2_with (first
                  | ((with_reducible show wpList _ _ _ _ _ _); refine wpList_buildSlice rfl 23 9 1 #[(0, .tmp 49)] rfl #[.string ⟨s.toArray⟩] ie _ Tryz.underlying23 hie hz0 (by rw [hz1]; decide) (by rw [hz1]; decide) (by rw [hz1]; kernel_rfl) ?_; refine Hid.out ?_))
                refine hidU ?_
                obtain ⟨z2, hz2'⟩ : ∃ u, u = z.alloc (.cells #[.string ⟨s.toArray⟩] 9) := ⟨_, rfl⟩
                have hb9 : Below z.heap.size z z2 := by rw [hz2']; exact (Below.refl _ _).alloc (Nat.le_refl _) _
                have hA9 : At 9 z2 z.heap.size [.string ⟨s.toArray⟩] := by rw [hz2']; exact _root_.Go.heap_alloc_new _ _
                rw [← hz2']
                clear hz2' hie hz0 hz1 hz2
                have HO2 := own_below HO hb9
                have hbx2 : Below x.heap.size x z2 := HL.out.2.2.2.2.2.trans ((hbz.trans (hb9.mono hbz.size)).mono HL.out.2.2.2.2.2.size)
                have G1 : Hid (∀ ad, some (⟨z.heap.size, 0, none⟩ : Addr) = some ad → ∀ (j : Nat) (u : Value), [Value.string ⟨s.toArray⟩][j]? = some u → z2.cell? (ad.add j) = some u) := by
                  intro ad he j u hj
                  cases he
                  rw [Addr.add_mid, hA9.cell, Nat.zero_add]
                  exact hj
                have G2 : Hid (∀ u ∈ [Value.string ⟨s.toArray⟩], u.oneCell' = true) := by
                  intro u hu
                  rw [List.mem_singleton] at hu
                  subst hu
                  rfl
                go_wp2_with (first
                  | ((with_reducible show wpList _ _ _ _ _ _); refine appAny (.tmp 48) (.tmp 50) 23 9 _ 1 16 x.heap.size _ i (l.map fun s : List UInt8 => Value.string ⟨s.toArray⟩) (some ⟨z.heap.size, 0, none⟩) 1 1 [.string ⟨s.toArray⟩] rfl rfl Tryz.underlying23 f9 rfl (by decide) rfl rfl HO2 rfl (fun e => by cases e) G1.out G2.out (by unfold maxLen; omega) (by omega) hbx2.size ?_; intro v' z3 hown3 hgr3 hnil3; refine Hid.out ?_))
                refine hidU ?_
                have HF : Hid (∃ l : List (List UInt8), l.length = i + 1 ∧ l = ((ks.map ET.ex).take (i + 1)).map exT ∧ mayXs ((ks.map ET.ex).take (i + 1)) = true ∧ ((∀ s ∈ l, s.length ≤ 67108864) ∧ (l.map List.length).sum ≤ 64 * exWs ((ks.map ET.ex).take (i + 1))) ∧ z3.ownsRow x.heap.size 9 1 v' (i + 1) (l.map fun s : List UInt8 => Value.string ⟨s.toArray⟩) ∧ Below x.heap.size x z3) := by
                  refine ⟨l ++ [s], by rw [List.length_append, HL.out.1]; rfl, ?_, ?_, ?_, ?_, ?_⟩
                  · rw [List.take_add_one, HT.out, List.map_append, ← HL.out.2.1, hs1.out]
                    rfl
                  · rw [mayXs_take _ _ _ HT.out, HL.out.2.2.1, ← hY.out]
                    rfl
                  · refine ⟨?_, ?_⟩
                    · intro s' hs'
                      rcases List.mem_append.1 hs' with q | q
                      · exact HL.out.2.2.2.1.1 s' q
                      · rw [List.mem_singleton.1 q]
                        exact hsL
                    · have h5 := HL.out.2.2.2.1.2
                      rw [List.map_append, List.sum_append, exWs_take_succ _ _ _ HT.out]
                      simp only [List.map_cons, List.map_nil, List.sum_cons, List.sum_nil]
                      omega
                  · rw [List.map_append]
                    exact hown3
                  · exact hbx2.grown hgr3 hbx2.size (fun k hk => (HO2.lt k hk).1)
                clear HL HO HO2 hown3 hgr3 hnil3 hA9 hb9 hbz hbx2 hs1 HT hY HYW G1 G2
                go_wp2
                go_roundw
                case rel => exact ⟨i + 1, by go_num, by omega, HF⟩
                case measure => simp [intOf]; omega
            · have hin : i = n := by omega
              obtain ⟨sa, cap, hvv⟩ : ∃ sa cap, u4 = Value.slice sa n cap := by
                obtain ⟨-, ⟨e, h0⟩ | ⟨g, cap, cur, e, -⟩⟩ := id hown
                · exact ⟨none, 0, by rw [e, ← hin, h0]⟩
                · exact ⟨_, _, by rw [e, hin]⟩
              subst hvv
              rw [hin, hn.out, List.take_of_length_le (by simp)] at hlx hlm hls
              have HM : Hid (mayXs (ks.map ET.ex) = true) := hlm
              clear hlm HS HR
              have HVV : Hid (V = decide ((n : Int) = opnds op)) := by
                show _ = _
                rw [hV.out, mayX, HM.out, if_neg h1, if_neg h2, decide_eq_true H0.out.1, decide_eq_true H0.out.2, List.length_map, ← hn.out]
                simp
              have hC : ∀ w, Calls Tryz.prog 82 #[.int .u8 (op : Int)] w fun e w' => e = .returned (.string ⟨(sgT op).toArray⟩) ∧ w' = w := fun w => refSign_any op w
              by_cases hA : 3 ≤ op ∧ op ≤ 15
              · have hop : opnds op = 2 := by
                  unfold opnds
                  rw [if_neg (by omega), if_neg (by omega), if_pos (by omega)]
                obtain ⟨G, hG⟩ : ∃ G, Hid (G = sgT op) := ⟨_, (rfl : sgT op = _)⟩
                have hGl : G ≠ [] ∧ G.length ≤ 2 := by
                  rw [hG.out]
                  have : op = 3 ∨ op = 4 ∨ op = 5 ∨ op = 6 ∨ op = 7 ∨ op = 8 ∨ op = 9 ∨ op = 10 ∨ op = 11 ∨ op = 12 ∨ op = 13 ∨ op = 14 ∨ op = 15 := by omega
                  rcases this with rfl | rfl | rfl | rfl | rfl | rfl | rfl | rfl | rfl | rfl | rfl | rfl | rfl <;> decide
                rw [← hG.out] at hC
                have hGe : (⟨G.toArray⟩ : ByteArray).toList.isEmpty = false := by
                  rw [ba_nil]
                  exact decide_eq_false hGl.1
                have hGz : (⟨G.toArray⟩ : ByteArray).size = G.length := size_mk G
                have hG2 := hGl.2
                have hGe2 : G.isEmpty = false := by
                  cases hg : G with
                  | nil => exact absurd hg hGl.1
                  | cons x r => rfl
                have p16 : ¬ (op : Int) = 16 := by omega
                have p17 : ¬ (op : Int) = 17 := by omega
                have p18 : ¬ (op : Int) = 18 := by omega
                have p19 : ¬ (op : Int) = 19 := by omega
                clear hGl hA
                by_cases hn2 : n = 2
                · obtain ⟨g, hsa⟩ : ∃ g, sa = some ⟨g, 0, none⟩ := by
                    obtain ⟨-, ⟨e, h0⟩ | ⟨g, cap', cur, e, -⟩⟩ := id hown
                    · omega
                    · cases e
                      exact ⟨g, rfl⟩
                  subst hsa
                  obtain ⟨s0, s1, rfl⟩ := list2 l (by omega)
                  have r0 : wr.cell? ⟨g, 0, none⟩ = some (.string ⟨s0.toArray⟩) := by
                    have z := hown.cells (g := g) rfl 0 _ rfl
                    rw [Addr.add_mid] at z
                    exact z
                  have r1 : wr.cell? ⟨g, 1, none⟩ = some (.string ⟨s1.toArray⟩) := by
                    have z := hown.cells (g := g) rfl 1 _ rfl
                    rw [Addr.add_mid] at z
                    exact z
                  have hl0 := hls.1 s0 (by simp)
                  have hl1 := hls.1 s1 (by simp)
                  have hz0 : (⟨s0.toArray⟩ : ByteArray).size = s0.length := size_mk s0
                  have hz1 : (⟨s1.toArray⟩ : ByteArray).size = s1.length := size_mk s1
                  obtain ⟨k0, k1, hk0⟩ := two_of ET.ex ks n hn.out hn2
                  have HXX : Hid (V = true ∧ X = 40 :: (s0 ++ 32 :: (G ++ 32 :: (s1 ++ [41]))) ∧ (40 :: (s0 ++ 32 :: (G ++ 32 :: (s1 ++ [41])))).length ≤ 64 * N) := by
                    rw [hk0] at hlx
                    have e0 : s0 = exT k0 ∧ s1 = exT k1 := by simpa using hlx
                    refine ⟨?_, ?_, ?_⟩
                    · rw [HVV.out, hop, hn2]
                      rfl
                    · rw [hX.out, hk0, e0.1, e0.2, hG.out, exT_two _ _ _ _ _ _ h1 h2]
                    · have h6 := HNW.out
                      have h7 := hls.2
                      simp only [List.map_cons, List.map_nil, List.sum_cons, List.sum_nil] at h7
                      simp only [List.length_cons, List.length_append, List.length_nil]
                      omega
                  have hni : ((n : Int) == 2) = true := by subst hn2; rfl
                  have hn2c : 2 ≤ cap := by
                    obtain ⟨-, ⟨e, h0⟩ | ⟨g', cap', cur, e, -, -, h5, -⟩⟩ := id hown
                    · omega
                    · cases e
                      omega
                  have hn0' : 0 < n := by omega
                  have hn1' : 1 < n := by omega
                  clear hown hlx hls hll HM hV hX hn HNW hBo hA1 HVV hk0 hG hn2
                  go_wp2_with (go_at_call 82; refine (hC _).mono ?_; rintro r z ⟨rfl, rfl⟩)
                  go_wp2_with fail
                  have hB0 : Below z.heap.size z z.drew := Below.drew (Below.refl _ _)
                  have hS0 : At 34 z.drew w.heap.size (ex5 op t b nm (.slice a n c)) ∧ z.drew.cell? ⟨g, 0, none⟩ = some (.string ⟨s0.toArray⟩) ∧ z.drew.cell? ⟨g, 1, none⟩ = some (.string ⟨s1.toArray⟩) := ⟨hAr.below hB0, r0, r1⟩
                  refine wp_region_held_drew (S := fun x => At 34 x w.heap.size (ex5 op t b nm (.slice a n c)) ∧ x.cell? ⟨g, 0, none⟩ = some (.string ⟨s0.toArray⟩) ∧ x.cell? ⟨g, 1, none⟩ = some (.string ⟨s1.toArray⟩)) (by kernel_rfl) hS0 (fun _ => ?_)
                  refine wpAnyH_take (i := 0) (oi := { dst := some 92, op := .move (.tmp 4), guard := none, .. }) (v := .slice (some ⟨g, 0, none⟩) n cap) rfl (by kernel_rfl) (by kernel_rfl) (by kernel_rfl) (fun _ _ _ h => h) (Or.inl ⟨by rfl, ?_⟩) hS0 ?_
                  · intro w hSw
                    go_simp
                  simp only [Act.put, sA, sB, sC]
                  refine wpAnyH_take (i := 1) (oi := { dst := some 93, op := .indexAddr 23 (.tmp 92) (.const (.int .i64 0)), guard := none, .. }) (v := .pointer (some ⟨g, 0, none⟩)) rfl (by kernel_rfl) (by kernel_rfl) (by kernel_rfl) (fun _ _ _ h => h) (Or.inl ⟨by rfl, ?_⟩) hS0 ?_
                  · intro w hSw
                    go_simp
                  simp only [Act.put, sA, sB, sC]
                  refine wpAnyH_take (i := 2) (oi := { dst := some 94, op := .load 9 (.tmp 93), guard := none, .. }) (v := .string ⟨s0.toArray⟩) rfl (by kernel_rfl) (by kernel_rfl) (by kernel_rfl) (fun _ _ _ h => h) (Or.inl ⟨by rfl, ?_⟩) hS0 ?_
                  · intro w hSw
                    have z0 := hSw.2.1
                    go_simp
                  simp only [Act.put, sA, sB, sC]
                  refine wpAnyH_take (i := 3) (oi := { dst := some 95, op := .binOp .add 9 (.const (.string ⟨#[40]⟩)) (.tmp 94) 9, guard := none, .. }) (v := .string (⟨#[40]⟩ ++ ⟨s0.toArray⟩)) rfl (by kernel_rfl) (by kernel_rfl) (by kernel_rfl) (fun _ _ _ h => h) (Or.inl ⟨by rfl, ?_⟩) hS0 ?_
                  · intro w hSw
                    go_simp
                    all_goals first | omega | skip
                  simp only [Act.put, sA, sB, sC]
                  refine wpAnyH_take (i := 4) (oi := { dst := some 96, op := .binOp .add 9 (.tmp 95) (.const (.string ⟨#[32]⟩)) 9, guard := none, .. }) (v := .string (⟨#[40]⟩ ++ ⟨s0.toArray⟩ ++ ⟨#[32]⟩)) rfl (by kernel_rfl) (by kernel_rfl) (by kernel_rfl) (fun _ _ _ h => h) (Or.inl ⟨by rfl, ?_⟩) hS0 ?_
                  · intro w hSw
                    go_simp
                    all_goals first | omega | skip
                  simp only [Act.put, sA, sB, sC]
                  refine wpAnyH_take (i := 5) (oi := { dst := some 97, op := .fieldAddr 34 (.tmp 1) 0, guard := none, .. }) (v := .pointer (some ⟨w.heap.size, 0, none⟩)) rfl (by kernel_rfl) (by kernel_rfl) (by kernel_rfl) (fun _ _ _ h => h) (Or.inl ⟨by rfl, ?_⟩) hS0 ?_
                  · intro w hSw
                    go_simp
                  simp only [Act.put, sA, sB, sC]
                  refine wpAnyH_take (i := 6) (oi := { dst := some 98, op := .load 27 (.tmp 97), guard := none, .. }) (v := .int .u8 (op : Int)) rfl (by kernel_rfl) (by kernel_rfl) (by kernel_rfl) (fun _ _ _ h => h) (Or.inl ⟨by rfl, ?_⟩) hS0 ?_
                  · intro w hSw
                    obtain ⟨z0, z1, z2, z3, z4⟩ := ex_cells hSw.1
                    go_simp
                  simp only [Act.put, sA, sB, sC]
                  refine wpAnyH_take (i := 10) (oi := { dst := some 102, op := .move (.tmp 4), guard := none, .. }) (v := .slice (some ⟨g, 0, none⟩) n cap) rfl (by kernel_rfl) (by kernel_rfl) (by kernel_rfl) (fun _ _ _ h => h) (Or.inl ⟨by rfl, ?_⟩) hS0 ?_
                  · intro w hSw
                    go_simp
                  simp only [Act.put, sA, sB, sC]
                  refine wpAnyH_take (i := 11) (oi := { dst := some 103, op := .indexAddr 23 (.tmp 102) (.const (.int .i64 1)), guard := none, .. }) (v := .pointer (some ⟨g, 1, none⟩)) rfl (by kernel_rfl) (by kernel_rfl) (by kernel_rfl) (fun _ _ _ h => h) (Or.inl ⟨by rfl, ?_⟩) hS0 ?_
                  · intro w hSw
                    go_simp
                    intro hq
                    omega
                  simp only [Act.put, sA, sB, sC]
                  refine wpAnyH_take (i := 12) (oi := { dst := some 104, op := .load 9 (.tmp 103), guard := none, .. }) (v := .string ⟨s1.toArray⟩) rfl (by kernel_rfl) (by kernel_rfl) (by kernel_rfl) (fun _ _ _ h => h) (Or.inl ⟨by rfl, ?_⟩) hS0 ?_
                  · intro w hSw
                    have z0 := hSw.2.2
                    go_simp
                  simp only [Act.put, sA, sB, sC]
                  refine wpAnyH_ready (rs := [7]) (by kernel_rfl) (by simp) ?_
                  refine AllReadyH.cons (o := { dst := some 99, op := .call { callee := .value (.func 82), args := #[.tmp 98], argTypes := #[27] }, guard := none, .. }) rfl (fun K hK => ?_) AllReadyH.nil
                  rw [if_pos (by rfl)]
                  go_wp2_with (go_at_call 82; refine (hC _).mono ?_; rintro e x ⟨rfl, rfl⟩)
                  refine hK.out _ _ hS0 (fun _ => ?_)
                  refine wpAnyH_take (i := 8) (oi := { dst := some 100, op := .binOp .add 9 (.tmp 96) (.tmp 99) 9, guard := none, .. }) (v := .string (⟨#[40]⟩ ++ ⟨s0.toArray⟩ ++ ⟨#[32]⟩ ++ ⟨G.toArray⟩)) rfl (by kernel_rfl) (by kernel_rfl) (by kernel_rfl) (fun _ _ _ h => h) (Or.inl ⟨by rfl, ?_⟩) hS0 ?_
                  · intro w hSw
                    go_simp
                    all_goals first | omega | skip
                  simp only [Act.put, sA, sB, sC]
                  refine wpAnyH_take (i := 9) (oi := { dst := some 101, op := .binOp .add 9 (.tmp 100) (.const (.string ⟨#[32]⟩)) 9, guard := none, .. }) (v := .string (⟨#[40]⟩ ++ ⟨s0.toArray⟩ ++ ⟨#[32]⟩ ++ ⟨G.toArray⟩ ++ ⟨#[32]⟩)) rfl (by kernel_rfl) (by kernel_rfl) (by kernel_rfl) (fun _ _ _ h => h) (Or.inl ⟨by rfl, ?_⟩) hS0 ?_
                  · intro w hSw
                    go_simp
                    all_goals first | omega | skip
                  simp only [Act.put, sA, sB, sC]
                  refine wpAnyH_take (i := 13) (oi := { dst := some 105, op := .binOp .add 9 (.tmp 101) (.tmp 104) 9, guard := none, .. }) (v := .string (⟨#[40]⟩ ++ ⟨s0.toArray⟩ ++ ⟨#[32]⟩ ++ ⟨G.toArray⟩ ++ ⟨#[32]⟩ ++ ⟨s1.toArray⟩)) rfl (by kernel_rfl) (by kernel_rfl) (by kernel_rfl) (fun _ _ _ h => h) (Or.inl ⟨by rfl, ?_⟩) hS0 ?_
                  · intro w hSw
                    go_simp
                    all_goals first | omega | skip
                  simp only [Act.put, sA, sB, sC]
                  refine wpAnyH_take (i := 14) (oi := { dst := some 106, op := .binOp .add 9 (.tmp 105) (.const (.string ⟨#[41]⟩)) 9, guard := none, .. }) (v := .string (⟨#[40]⟩ ++ ⟨s0.toArray⟩ ++ ⟨#[32]⟩ ++ ⟨G.toArray⟩ ++ ⟨#[32]⟩ ++ ⟨s1.toArray⟩ ++ ⟨#[41]⟩)) rfl (by kernel_rfl) (by kernel_rfl) (by kernel_rfl) (fun _ _ _ h => h) (Or.inl ⟨by rfl, ?_⟩) hS0 ?_
                  · intro w hSw
                    go_simp
                    all_goals first | omega | skip
                  simp only [Act.put, sA, sB, sC]
                  refine wpAnyH_take (i := 15) (oi := { dst := some 2, op := .assign (.tmp 106), guard := none, .. }) (v := .string (⟨#[40]⟩ ++ ⟨s0.toArray⟩ ++ ⟨#[32]⟩ ++ ⟨G.toArray⟩ ++ ⟨#[32]⟩ ++ ⟨s1.toArray⟩ ++ ⟨#[41]⟩)) rfl (by kernel_rfl) (by kernel_rfl) (by kernel_rfl) (fun _ _ _ h => h) (Or.inl ⟨by rfl, ?_⟩) hS0 ?_
                  · intro w hSw
                    go_simp
                  simp only [Act.put, sA, sB, sC]
                  refine wpAnyH_take (i := 16) (oi := { dst := some 3, op := .assign (.const (.bool true)), guard := none, .. }) (v := .bool true) rfl (by kernel_rfl) (by kernel_rfl) (by kernel_rfl) (fun _ _ _ h => h) (Or.inl ⟨by rfl, ?_⟩) hS0 ?_
                  · intro w hSw
                    go_simp
                  simp only [Act.put, sA, sB, sC]
                  refine wpAnyH_done (by kernel_rfl) ?_ _
                  have hwf := hwr.trans (hB0.mono hwr.size)
                  have HBA : Hid ((⟨#[40]⟩ ++ ⟨s0.toArray⟩ ++ ⟨#[32]⟩ ++ ⟨G.toArray⟩ ++ ⟨#[32]⟩ ++ ⟨s1.toArray⟩ ++ ⟨#[41]⟩ : ByteArray) = (⟨(40 :: (s0 ++ 32 :: (G ++ 32 :: (s1 ++ [41])))).toArray⟩ : ByteArray)) := by
                    show _ = _
                    apply ByteArray.ext
                    simp
                  clear hAr c0 c1 c2 c3 c4 hB0 hS0 hwr hb1 hbr r0 r1
                  go_wp2
                  go_ret2
                  refine ⟨hidU ⟨40 :: (s0 ++ 32 :: (G ++ 32 :: (s1 ++ [41]))), ?_, fun _ => HXX.out.2.1.symm, HXX.out.2.2⟩, hwf⟩
                  rw [HXX.out.1, ← HBA.out]
                  rfl
                · have hni : ((n : Int) == 2) = false := beq_eq_false_iff_ne.2 (by omega)
                  have HVf : Hid (V = false) := by show _ = _; rw [HVV.out, hop]; exact decide_eq_false (by omega)
                  clear hown hlx hls hll HM hV hX hn HNW hBo hA1 HVV hG
                  go_wp2_with (go_at_call 82; refine (hC _).mono ?_; rintro r z ⟨rfl, rfl⟩)
                  go_wp2
                  all_goals
                    (go_ret2
                     exact ⟨hidU ⟨[], by rw [HVf.out]; rfl, (fun h => by rw [HVf.out] at h; cases h), by simp⟩, hwr⟩)
              · have hG0 : sgT op = [] := by
                  unfold sgT
                  split <;> first | rfl | omega
                rw [hG0] at hC
                have hGe : (⟨#[]⟩ : ByteArray).toList.isEmpty = true := by rw [ba_nil]; rfl
                have HC82 : Hid (∀ z : Int, z = (op : Int) → ∀ w, Calls Tryz.prog 82 #[.int .u8 z] w fun e w' => e = .returned (.string ⟨#[]⟩) ∧ w' = w) := fun z hz w => by rw [hz]; exact hC w
                clear hC hG0
                by_cases h16 : op = 16
                · have p16 : (op : Int) = 16 := by omega
                  have hop' : Hid (op = 16) := h16
                  have hop : Hid (opnds op = 1) := by show opnds op = 1; rw [h16]; rfl
                  clear h16 hA h1 h2 o1i o2i
                  by_cases hn1 : n = 1
                  · obtain ⟨g, hsa⟩ : ∃ g, sa = some ⟨g, 0, none⟩ := by
                      obtain ⟨-, ⟨e, h0⟩ | ⟨g, cap', cur, e, -⟩⟩ := id hown
                      · omega
                      · cases e
                        exact ⟨g, rfl⟩
                    subst hsa
                    obtain ⟨s0, rfl⟩ := list1 l (by omega)
                    have r0 : wr.cell? ⟨g, 0, none⟩ = some (.string ⟨s0.toArray⟩) := by
                      have z := hown.cells (g := g) rfl 0 _ rfl
                      rw [Addr.add_mid] at z
                      exact z
                    have hl0 := hls.1 s0 (by simp)
                    have hz0 : (⟨s0.toArray⟩ : ByteArray).size = s0.length := size_mk s0
                    obtain ⟨k0, hk0⟩ := one_of ET.ex ks n hn.out hn1
                    have HXX : Hid (V = true ∧ X = 45 :: s0 ∧ (45 :: s0).length ≤ 64 * N) := by
                      rw [hk0] at hlx
                      have e0 : s0 = exT k0 := by simpa using hlx
                      refine ⟨?_, ?_, ?_⟩
                      · rw [HVV.out, hop.out, hn1]
                        rfl
                      · rw [hX.out, hk0, hop'.out, e0, exT_16]
                      · have h6 := HNW.out
                        have h7 := hls.2
                        simp only [List.map_cons, List.map_nil, List.sum_cons, List.sum_nil] at h7
                        simp only [List.length_cons]
                        omega
                    have hni : ((n : Int) == 1) = true := by subst hn1; rfl
                    clear hown hlx hls hll HM hV hX hn HNW hBo hA1 HVV hk0
                    go_wp2_with (go_at_call 82; refine (HC82.out _ (by omega) _).mono ?_; rintro r z ⟨rfl, rfl⟩)
                    have HBA : Hid ((⟨#[45]⟩ ++ ⟨s0.toArray⟩ : ByteArray) = (⟨(45 :: s0).toArray⟩ : ByteArray)) := by
                      show _ = _
                      exact cat_one _ _
                    go_wp2
                    all_goals first
                      | (exfalso; omega)
                      | skip
                    all_goals
                      (go_ret2
                       refine ⟨hidU ⟨45 :: s0, ?_, fun _ => HXX.out.2.1.symm, HXX.out.2.2⟩, hwr⟩
                       rw [HXX.out.1, ← HBA.out]
                       rfl)
                  · have hni : ((n : Int) == 1) = false := beq_eq_false_iff_ne.2 (by omega)
                    have HVf : Hid (V = false) := by show _ = _; rw [HVV.out, hop.out]; exact decide_eq_false (by omega)
                    clear hown hlx hls hll HM hV hX hn HNW hBo hA1 HVV
                    go_wp2_with (go_at_call 82; refine (HC82.out _ (by omega) _).mono ?_; rintro r z ⟨rfl, rfl⟩)
                    go_wp2
                    all_goals
                      (go_ret2
                       exact ⟨hidU ⟨[], by rw [HVf.out]; rfl, (fun h => by rw [HVf.out] at h; cases h), by simp⟩, hwr⟩)
                have p16 : ¬ (op : Int) = 16 := by omega
                by_cases h17 : op = 17
                · have p17 : (op : Int) = 17 := by omega
                  have hop' : Hid (op = 17) := h17
                  have hop : Hid (opnds op = 1) := by show opnds op = 1; rw [h17]; rfl
                  clear h17 hA h1 h2 o1i o2i h16 p16
                  by_cases hn1 : n = 1
                  · obtain ⟨g, hsa⟩ : ∃ g, sa = some ⟨g, 0, none⟩ := by
                      obtain ⟨-, ⟨e, h0⟩ | ⟨g, cap', cur, e, -⟩⟩ := id hown
                      · omega
                      · cases e
                        exact ⟨g, rfl⟩
                    subst hsa
                    obtain ⟨s0, rfl⟩ := list1 l (by omega)
                    have r0 : wr.cell? ⟨g, 0, none⟩ = some (.string ⟨s0.toArray⟩) := by
                      have z := hown.cells (g := g) rfl 0 _ rfl
                      rw [Addr.add_mid] at z
                      exact z
                    have hl0 := hls.1 s0 (by simp)
                    have hz0 : (⟨s0.toArray⟩ : ByteArray).size = s0.length := size_mk s0
                    obtain ⟨k0, hk0⟩ := one_of ET.ex ks n hn.out hn1
                    have HXX : Hid (V = true ∧ X = 33 :: s0 ∧ (33 :: s0).length ≤ 64 * N) := by
                      rw [hk0] at hlx
                      have e0 : s0 = exT k0 := by simpa using hlx
                      refine ⟨?_, ?_, ?_⟩
                      · rw [HVV.out, hop.out, hn1]
                        rfl
                      · rw [hX.out, hk0, hop'.out, e0, exT_17]
                      · have h6 := HNW.out
                        have h7 := hls.2
                        simp only [List.map_cons, List.map_nil, List.sum_cons, List.sum_nil] at h7
                        simp only [List.length_cons]
                        omega
                    have hni : ((n : Int) == 1) = true := by subst hn1; rfl
                    clear hown hlx hls hll HM hV hX hn HNW hBo hA1 HVV hk0
                    go_wp2_with (go_at_call 82; refine (HC82.out _ (by omega) _).mono ?_; rintro r z ⟨rfl, rfl⟩)
                    have HBA : Hid ((⟨#[33]⟩ ++ ⟨s0.toArray⟩ : ByteArray) = (⟨(33 :: s0).toArray⟩ : ByteArray)) := by
                      show _ = _
                      exact cat_one _ _
                    go_wp2
                    all_goals first
                      | (exfalso; omega)
                      | skip
                    all_goals
                      (go_ret2
                       refine ⟨hidU ⟨33 :: s0, ?_, fun _ => HXX.out.2.1.symm, HXX.out.2.2⟩, hwr⟩
                       rw [HXX.out.1, ← HBA.out]
                       rfl)
                  · have hni : ((n : Int) == 1) = false := beq_eq_false_iff_ne.2 (by omega)
                    have HVf : Hid (V = false) := by show _ = _; rw [HVV.out, hop.out]; exact decide_eq_false (by omega)
                    clear hown hlx hls hll HM hV hX hn HNW hBo hA1 HVV
                    go_wp2_with (go_at_call 82; refine (HC82.out _ (by omega) _).mono ?_; rintro r z ⟨rfl, rfl⟩)
                    go_wp2
                    all_goals
                      (go_ret2
                       exact ⟨hidU ⟨[], by rw [HVf.out]; rfl, (fun h => by rw [HVf.out] at h; cases h), by simp⟩, hwr⟩)
                have p17 : ¬ (op : Int) = 17 := by omega
                by_cases h18 : op = 18
                · have p18 : (op : Int) = 18 := by omega
                  have hop' : Hid (op = 18) := h18
                  have hop : Hid (opnds op = 1) := by show opnds op = 1; rw [h18]; rfl
                  clear h18 hA h1 h2 o1i o2i h16 p16 h17 p17
                  by_cases hn1 : n = 1
                  · obtain ⟨g, hsa⟩ : ∃ g, sa = some ⟨g, 0, none⟩ := by
                      obtain ⟨-, ⟨e, h0⟩ | ⟨g, cap', cur, e, -⟩⟩ := id hown
                      · omega
                      · cases e
                        exact ⟨g, rfl⟩
                    subst hsa
                    obtain ⟨s0, rfl⟩ := list1 l (by omega)
                    have r0 : wr.cell? ⟨g, 0, none⟩ = some (.string ⟨s0.toArray⟩) := by
                      have z := hown.cells (g := g) rfl 0 _ rfl
                      rw [Addr.add_mid] at z
                      exact z
                    have hl0 := hls.1 s0 (by simp)
                    have hz0 : (⟨s0.toArray⟩ : ByteArray).size = s0.length := size_mk s0
                    obtain ⟨k0, hk0⟩ := one_of ET.ex ks n hn.out hn1
                    have HXX : Hid (V = true ∧ X = [105, 110, 116, 40] ++ (s0 ++ [41]) ∧ ([105, 110, 116, 40] ++ (s0 ++ [41])).length ≤ 64 * N) := by
                      rw [hk0] at hlx
                      have e0 : s0 = exT k0 := by simpa using hlx
                      refine ⟨?_, ?_, ?_⟩
                      · rw [HVV.out, hop.out, hn1]
                        rfl
                      · rw [hX.out, hk0, hop'.out, e0, exT_18]
                      · have h6 := HNW.out
                        have h7 := hls.2
                        simp only [List.map_cons, List.map_nil, List.sum_cons, List.sum_nil] at h7
                        simp only [List.length_cons, List.length_append, List.length_nil]
                        omega
                    have hni : ((n : Int) == 1) = true := by subst hn1; rfl
                    clear hown hlx hls hll HM hV hX hn HNW hBo hA1 HVV hk0
                    go_wp2_with (go_at_call 82; refine (HC82.out _ (by omega) _).mono ?_; rintro r z ⟨rfl, rfl⟩)
                    have HBA : Hid ((⟨#[105, 110, 116, 40]⟩ ++ ⟨s0.toArray⟩ ++ ⟨#[41]⟩ : ByteArray) = (⟨([105, 110, 116, 40] ++ (s0 ++ [41])).toArray⟩ : ByteArray)) := by
                      show _ = _
                      exact cat_un _ _
                    go_wp2
                    all_goals first
                      | (exfalso; omega)
                      | skip
                    all_goals
                      (go_ret2
                       refine ⟨hidU ⟨[105, 110, 116, 40] ++ (s0 ++ [41]), ?_, fun _ => HXX.out.2.1.symm, HXX.out.2.2⟩, hwr⟩
                       rw [HXX.out.1, ← HBA.out]
                       rfl)
                  · have hni : ((n : Int) == 1) = false := beq_eq_false_iff_ne.2 (by omega)
                    have HVf : Hid (V = false) := by show _ = _; rw [HVV.out, hop.out]; exact decide_eq_false (by omega)
                    clear hown hlx hls hll HM hV hX hn HNW hBo hA1 HVV
                    go_wp2_with (go_at_call 82; refine (HC82.out _ (by omega) _).mono ?_; rintro r z ⟨rfl, rfl⟩)
                    go_wp2
                    all_goals
                      (go_ret2
                       exact ⟨hidU ⟨[], by rw [HVf.out]; rfl, (fun h => by rw [HVf.out] at h; cases h), by simp⟩, hwr⟩)
                have p18 : ¬ (op : Int) = 18 := by omega
                by_cases h19 : op = 19
                · have p19 : (op : Int) = 19 := by omega
                  have hop' : Hid (op = 19) := h19
                  have hop : Hid (opnds op = 1) := by show opnds op = 1; rw [h19]; rfl
                  clear h19 hA h1 h2 o1i o2i h16 p16 h17 p17 h18 p18
                  by_cases hn1 : n = 1
                  · obtain ⟨g, hsa⟩ : ∃ g, sa = some ⟨g, 0, none⟩ := by
                      obtain ⟨-, ⟨e, h0⟩ | ⟨g, cap', cur, e, -⟩⟩ := id hown
                      · omega
                      · cases e
                        exact ⟨g, rfl⟩
                    subst hsa
                    obtain ⟨s0, rfl⟩ := list1 l (by omega)
                    have r0 : wr.cell? ⟨g, 0, none⟩ = some (.string ⟨s0.toArray⟩) := by
                      have z := hown.cells (g := g) rfl 0 _ rfl
                      rw [Addr.add_mid] at z
                      exact z
                    have hl0 := hls.1 s0 (by simp)
                    have hz0 : (⟨s0.toArray⟩ : ByteArray).size = s0.length := size_mk s0
                    obtain ⟨k0, hk0⟩ := one_of ET.ex ks n hn.out hn1
                    have HXX : Hid (V = true ∧ X = [114, 101, 97, 108, 40] ++ (s0 ++ [41]) ∧ ([114, 101, 97, 108, 40] ++ (s0 ++ [41])).length ≤ 64 * N) := by
                      rw [hk0] at hlx
                      have e0 : s0 = exT k0 := by simpa using hlx
                      refine ⟨?_, ?_, ?_⟩
                      · rw [HVV.out, hop.out, hn1]
                        rfl
                      · rw [hX.out, hk0, hop'.out, e0, exT_19]
                      · have h6 := HNW.out
                        have h7 := hls.2
                        simp only [List.map_cons, List.map_nil, List.sum_cons, List.sum_nil] at h7
                        simp only [List.length_cons, List.length_append, List.length_nil]
                        omega
                    have hni : ((n : Int) == 1) = true := by subst hn1; rfl
                    clear hown hlx hls hll HM hV hX hn HNW hBo hA1 HVV hk0
                    go_wp2_with (go_at_call 82; refine (HC82.out _ (by omega) _).mono ?_; rintro r z ⟨rfl, rfl⟩)
                    have HBA : Hid ((⟨#[114, 101, 97, 108, 40]⟩ ++ ⟨s0.toArray⟩ ++ ⟨#[41]⟩ : ByteArray) = (⟨([114, 101, 97, 108, 40] ++ (s0 ++ [41])).toArray⟩ : ByteArray)) := by
                      show _ = _
                      exact cat_un _ _
                    go_wp2
                    all_goals first
                      | (exfalso; omega)
                      | skip
                    all_goals
                      (go_ret2
                       refine ⟨hidU ⟨[114, 101, 97, 108, 40] ++ (s0 ++ [41]), ?_, fun _ => HXX.out.2.1.symm, HXX.out.2.2⟩, hwr⟩
                       rw [HXX.out.1, ← HBA.out]
                       rfl)
                  · have hni : ((n : Int) == 1) = false := beq_eq_false_iff_ne.2 (by omega)
                    have HVf : Hid (V = false) := by show _ = _; rw [HVV.out, hop.out]; exact decide_eq_false (by omega)
                    clear hown hlx hls hll HM hV hX hn HNW hBo hA1 HVV
                    go_wp2_with (go_at_call 82; refine (HC82.out _ (by omega) _).mono ?_; rintro r z ⟨rfl, rfl⟩)
                    go_wp2
                    all_goals
                      (go_ret2
                       exact ⟨hidU ⟨[], by rw [HVf.out]; rfl, (fun h => by rw [HVf.out] at h; cases h), by simp⟩, hwr⟩)
                have p19 : ¬ (op : Int) = 19 := by omega
                have hop : opnds op = -1 := by
                  unfold opnds
                  rw [if_neg (by omega), if_neg (by omega), if_neg (by omega)]
                have HVf : Hid (V = false) := by show _ = _; rw [HVV.out, hop]; exact decide_eq_false (by omega)
                clear hown hlx hls hll HM hV hX hn HNW hBo hA1 HVV
                go_wp2_with (go_at_call 82; refine (HC82.out _ (by omega) _).mono ?_; rintro r z ⟨rfl, rfl⟩)
                go_wp2
                all_goals
                  (go_ret2
                   exact ⟨hidU ⟨[], by rw [HVf.out]; rfl, (fun h => by rw [HVf.out] at h; cases h), by simp⟩, hwr⟩)
        · have hbare : bareX op t b nm.data.toList = false := by unfold bareX; rw [decide_eq_false hz2, decide_eq_false h2]; simp
          rw [decide_eq_false hz2] at hnm
          have hVf : V = false := hBo.out hbare
          subst hVf
          clear HR HS hV hX hn HNW hBo hbare
          go_wp2
          all_goals
            (go_ret2
             exact ⟨hidU ⟨[], rfl, (fun h => by cases h), by simp⟩, hb1⟩)
    · have hbare : bareX op t b nm.data.toList = false := by unfold bareX; rw [decide_eq_false hz, decide_eq_false h1]; rfl
      rw [decide_eq_false hz] at hq
      have hVf : V = false := hBo.out hbare
      subst hVf
      clear HR HS hV hX hn HNW hBo hbare
      go_wp2
      all_goals
        (go_ret2
         exact ⟨hidU ⟨[], rfl, (fun h => by cases h), by simp⟩, hb1⟩)

end Go.Proofs.YtcmahiphfpgadaaGreatDoor
