/- FrameAgain, given what the program's frames tell. -/
import Derived.Test.YtbehmclligkbhaaFrI
namespace Go.Proofs.Ytbehmclligkbhaa
open Go.RowKit
set_option linter.unusedVariables false

theorem flatF_take_le (l : List (List UInt8)) (i : Nat) : (flatF (l.take i)).length ≤ (flatF l).length := by
  have e : flatF l = flatF (l.take i) ++ flatF (l.drop i) := by unfold flatF; rw [← List.flatMap_append, List.take_append_drop]
  rw [e, List.length_append]; omega
set_option maxRecDepth 100000 in
set_option maxHeartbeats 12800000 in
theorem again_of (Fa : Face) (a : Option Addr) (n c : Nat) (bs : List UInt8) (w : World) (hr : Row w a bs) (hn : n = bs.length) (hc : n ≤ c) (hz : a = none → c = 0) (hl : n ≤ 9223372036854775807) :
    Calls Try.prog 6 #[.slice a n c] w fun r w' => r = .returned (.bool true) ∧ Below w.heap.size w w' := by
  have HR := hidU hr
  have HN := hidU hn
  have H1 := hidU (awake_of Fa w)
  clear hr hn
  go_enter Try.func6, Try.ntmps6
  go_wp2_with (go_at_call 23; refine H1.out.mono ?_; rintro _ w1 ⟨rfl, hb1⟩; refine Hid.out ?_)
  refine hidU ?_
  have HB1 := hidU hb1
  have HR1 := hidU (HR.out.below hb1)
  clear hb1 H1
  by_cases h3 : 3000 < n
  · go_wp2
    go_ret
    exact ⟨rfl, HB1.out⟩
  have H2 := hidU (Fa.scan HR1.out HN.out hc hz (by omega))
  obtain ⟨q1, q2, q3, q4, q5⟩ := scan_again bs.length bs (Nat.le_refl _)
  have q1 : flatF (scanL bs).1 = bs.take (scanL bs).2.1 := q1
  obtain ⟨S, hS⟩ : ∃ x, Hid (x = (scanL bs).2.1) := ⟨_, (rfl : (scanL bs).2.1 = _)⟩
  obtain ⟨E, hE⟩ : ∃ x, Hid (x = (scanL bs).2.2) := ⟨_, (rfl : (scanL bs).2.2 = _)⟩
  have hSn : S ≤ n := by rw [hS.out, HN.out]; exact q2
  have hE2 : E ≤ 2 := by rw [hE.out]; exact q3
  have HE0 : Hid (E = 0 ↔ S = n) := by show E = 0 ↔ S = n; rw [hE.out, hS.out, HN.out]; exact q4
  have HQ1 : Hid (flatF (scanL bs).1 = bs.take S) := by show _ = _; rw [hS.out]; exact q1
  have HQ5 := hidU q5
  rw [← hS.out, ← hE.out] at H2
  clear q1 q2 q3 q4 q5
  go_wp2_with (go_at_call 10; refine H2.out.mono ?_; rintro _ w2 ⟨a2, c2, ys, rfl, hly, hys, hyc, hb2⟩; refine Hid.out ?_)
  refine hidU ?_
  have HB2 := hidU (HB1.out.trans (hb2.mono HB1.out.size))
  have HL := hidU hly
  have HF : Hid (flatF (bss ys) = bs.take S) := by show _ = _; rw [hys]; exact HQ1.out
  have HX : Hid (∀ r ∈ bss ys, r.length ≤ 65536) := by rw [hys]; exact HQ5.out
  have HFl : Hid ((flatF (bss ys)).length = S) := by show _ = _; rw [HF.out, List.length_take, ← HN.out]; omega
  obtain ⟨k, hk⟩ : ∃ x, Hid (x = ys.length) := ⟨_, (rfl : ys.length = _)⟩
  rw [← hk.out] at hyc ⊢
  have hkS : k ≤ S := by
    have : ∀ l : List (List UInt8), l.length ≤ (flatF l).length := fun l => by
      induction l with
      | nil => simp
      | cons r l ih =>
        have e : (flatF (r :: l)).length = r.length + 12 + (flatF l).length := by simp [flatF, frameL_len]
        rw [e, List.length_cons]; omega
    have h := this (bss ys)
    rw [HFl.out, bss, List.length_map, ← hk.out] at h
    exact h
  clear hly hys hb2 H2 HQ1 HQ5 HB1 HR1
  go_wp2
  go_loopw [7, 8] (fun v7 j wr => ∃ i : Nat, j = .int .i64 (i : Int) ∧ i ≤ k ∧ Hid (Below w2.heap.size w2 wr) ∧ Hid (OwnX eB w2.heap.size wr v7 (flatF ((bss ys).take i)))) (fun _ j _ => k - (intOf j).toNat)
  case atStart => exact ⟨0, rfl, by omega, Below.refl _ _, OwnX.nil _ _ _⟩
  case round =>
    obtain ⟨i, rfl, hi, hB, hO⟩ := hrel
    have hfl := flatF_take_le (bss ys) i
    rw [HFl.out] at hfl
    by_cases hc2 : i < k
    · obtain ⟨t, ht⟩ : ∃ t, ys[i]? = some t := ⟨_, List.getElem?_eq_getElem (by rw [← hk.out]; exact hc2)⟩
      have hbi : (bss ys)[i]? = some t.bs := by simp [bss, ht]
      obtain ⟨lg, lo, rfl, cl, it⟩ := (HL.out.below hB.out).at ht
      have hti : t.bs.length ≤ 65536 := HX.out t.bs (List.mem_of_getElem? hbi)
      have hf2 := flatF_take_le (bss ys) (i + 1)
      rw [HFl.out, flatF_snoc _ _ _ hbi, List.length_append, frameL_len] at hf2
      have HI := hidU it
      obtain ⟨tl, htl⟩ : ∃ x, Hid (x = t.bs.length) := ⟨_, (rfl : t.bs.length = _)⟩
      rw [← htl.out] at cl hti hf2
      have HBi := hidU hbi
      have H3 := hidU (Fa.frame (a := t.ad) (c := t.cp) (w := wr) HI.out.1 htl.out (by rw [htl.out]; exact HI.out.2.1) HI.out.2.2 hti)
      clear ht it hbi
      go_wp2_with (go_at_call 9; refine H3.out.mono ?_; rintro _ w3 ⟨vf, rfl, hof, hb3⟩; refine Hid.out ?_)
      refine hidU ?_
      have HB3 := hidU (hB.out.trans (hb3.mono hB.out.size))
      have HF3 := hidU (hof.less hB.out.size)
      have HO3 := hidU (hO.out.below hb3)
      clear hof hb3 H3 cl hB hO
      obtain ⟨a7, c7, rfl, row7, hc7, hz7⟩ := HO3.out.rowB
      obtain ⟨af, cf, rfl, rowf, hcf, hzf⟩ := HF3.out.rowB
      obtain ⟨L, hL⟩ : ∃ x, Hid (x = (flatF ((bss ys).take i)).length) := ⟨_, (rfl : _ = _)⟩
      obtain ⟨M, hM⟩ : ∃ x, Hid (x = (frameL t.bs).length) := ⟨_, (rfl : _ = _)⟩
      have hMt : Hid (M = tl + 12) := by show M = _; rw [hM.out, frameL_len, htl.out]
      rw [← hL.out] at hfl hf2 HO3 ⊢
      rw [← hM.out] at hcf ⊢
      have hrf := hidU rowf
      clear row7 rowf hc7 hz7
      go_wp2_with (refine wpList_appX eB rfl (.tmp 38) (.tmp 39) rfl w2.heap.size _ af M cf rfl rfl HO3.out hM.out.symm hzf hcf (rowB.2 hrf.out) (by rw [← hL.out, hMt.out]; unfold maxLen; omega) (by rw [← hL.out, hMt.out]; show (L + (tl + 12)) * 1 ≤ _; omega) HB3.out.size ?_; intro v7' w4 ho4 hg4; refine Hid.out ?_)
      refine hidU ?_
      have HO4 : Hid (OwnX eB w2.heap.size w4 v7' (flatF ((bss ys).take (i + 1)))) := by show OwnX _ _ _ _ _; rw [flatF_snoc _ _ _ HBi.out]; exact ho4
      have HB4 : Hid (Below w2.heap.size w2 w4) := HB3.out.grown hg4 HB3.out.size fun q hq => (HO3.out.block q hq).1
      clear ho4 hg4 HO3 HF3 hrf HB3 hcf hzf
      go_wp2
      go_roundw
      · exact ⟨i + 1, by go_num, by omega, HB4, HO4⟩
      · simp [intOf]; omega
    · have him : i = k := by omega
      have hall : (bss ys).take i = bss ys := List.take_of_length_le (by simp only [bss, List.length_map]; rw [← hk.out]; omega)
      have HO := hidU hO.out
      rw [hall] at HO
      obtain ⟨a7, c7, rfl, row7, hc7, hz7⟩ := HO.out.rowB
      rw [HFl.out]
      have HBf := hidU (HB2.out.trans (hB.out.mono HB2.out.size))
      have H5 := hidU (same_len a7 a S S c7 c (flatF (bss ys)) (bs.take S) wr row7 (Row.take (HR.out.below HBf.out) S) HFl.out (by rw [List.length_take, ← HN.out]; omega))
      rw [HF.out, show (bs.take S == bs.take S) = true from beq_self_eq_true _] at H5
      have hs0 := fun w => run_slice_to w a n c S (S : Int) rfl (by omega)
      clear hall row7 hc7 hz7 hO hB HO him
      go_wp2_with (go_at_call 17; refine H5.out.mono ?_; rintro _ w6 ⟨rfl, hw6⟩; obtain rfl : wr = w6 := hw6.symm; clear hw6; refine Hid.out ?_)
      refine hidU ?_
      clear H5
      have hE2d : decide ((E : Int) ≤ 2) = true := decide_eq_true (by omega)
      by_cases hq : S = n
      · have he0 : E = 0 := HE0.out.2 hq
        have hee : ((E : Int) == 0) = true := by rw [he0]; rfl
        have hss : ((S : Int) == (n : Int)) = true := by rw [hq]; exact beq_self_eq_true _
        clear hq he0
        go_wp2
        go_ret
        exact ⟨rfl, HBf.out⟩
      · have hee : ((E : Int) == 0) = false := by
          rw [beq_eq_false_iff_ne]
          intro q
          exact hq (HE0.out.1 (by omega))
        have hss : ((S : Int) == (n : Int)) = false := by rw [beq_eq_false_iff_ne]; omega
        clear hq
        go_wp2
        go_ret
        exact ⟨rfl, HBf.out⟩
end Go.Proofs.Ytbehmclligkbhaa
