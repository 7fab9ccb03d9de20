/- FrameBack, given what the program's frames tell. -/
import Derived.Test.YtbehmclligkbhaaFrG
namespace Go.Proofs.Ytbehmclligkbhaa
open Go.RowKit
set_option linter.unusedVariables false

theorem Row.take {w : World} {a : Option Addr} {bs : List UInt8} (h : Row w a bs) (k : Nat) : Row w a (bs.take k) := by
  rcases h with rfl | ⟨b, off, rfl, hc⟩
  · exact .inl (by simp)
  · refine .inr ⟨b, off, rfl, fun j hj => ?_⟩
    rw [List.length_take] at hj
    rw [hc j (by omega)]
    congr 3
    simp only [List.getD, List.getElem?_take_of_lt (by omega : j < k)]
theorem row_int {x : World} {a : Option Addr} {zs : List Int} {i : Nat} {z : Int} (h : RowX eI x a zs) (hi : zs[i]? = some z) : ∃ g o, a = some ⟨g, o, none⟩ ∧ x.cell? ⟨g, o + i, none⟩ = some (.int .i64 z) := by
  obtain ⟨g, o, e, hr⟩ := h.at hi
  refine ⟨g, o, e, ?_⟩
  have := hr 0 _ rfl
  rwa [show o + i * eI.n + 0 = o + i from (by show o + i * 1 + 0 = _; omega)] at this
theorem ats_at (l : List (List UInt8)) (k i : Nat) (h : i < k) : (ats l k)[i]? = some ((flatF (l.take i)).length : Int) := by
  unfold ats
  rw [List.getElem?_map, List.getElem?_range h]; rfl
theorem runOk_len {xs : List BT} (h : runOk xs = true) : xs.length ≤ 20 ∧ ∀ r ∈ bss xs, r.length ≤ 300 := by
  unfold runOk at h
  rw [Bool.and_eq_true, decide_eq_true_eq, List.all_eq_true] at h
  refine ⟨h.1, fun r hr => ?_⟩
  obtain ⟨t, ht, rfl⟩ := List.mem_map.1 hr
  exact of_decide_eq_true (h.2 t ht)
set_option maxRecDepth 100000 in
set_option maxHeartbeats 12800000 in
theorem back_of (Fa : Face) (a : Option Addr) (n c : Nat) (xs : List BT) (am : Option Addr) (m cm : Nat) (bm : List UInt8) (z : Int) (w : World) (hL : LB w a xs) (hn : n = xs.length) (hc : n ≤ c) (hl : n ≤ 9223372036854775807)
    (hm : Row w am bm) (em : m = bm.length) (hcm : m ≤ cm) (hzm : am = none → cm = 0) (hlm : m ≤ 9223372036854775807) (hz1 : -9223372036854775808 ≤ z) (hz2 : z < 9223372036854775808) :
    Calls Try.prog 4 #[.slice a n c, .slice am m cm, .int .i64 z] w fun r w' => r = .returned (.bool true) ∧ Below w.heap.size w w' := by
  have HL := hidU hL
  have HN := hidU hn
  have HM := hidU hm
  have HE := hidU em
  have HZ := hidU (And.intro hz1 hz2)
  have H1 := hidU (awake_of Fa w)
  clear hL hn hm em hz1 hz2
  go_enter Try.func4, Try.ntmps4
  go_wp2_with (go_at_call 23; refine H1.out.mono ?_; rintro _ w1 ⟨rfl, hb1⟩; refine Hid.out ?_)
  refine hidU ?_
  have HB1 := hidU hb1
  have H2 := hidU (run_any Fa a n c xs w1 (HL.out.below hb1) HN.out hc hl)
  clear hb1 H1
  cases hR : runOk xs with
  | false =>
    rw [hR] at H2
    go_wp2_with (go_at_call 24; refine H2.out.mono ?_; rintro _ w2 ⟨hb2, _, hr2⟩; obtain rfl := hr2 rfl; refine Hid.out ?_)
    refine hidU ?_
    have HB2 := hidU (HB1.out.trans (hb2.mono HB1.out.size))
    have HM2 := hidU (HM.out.below HB2.out)
    clear hb2 hr2 H2 HB1
    by_cases h65 : 65536 < m
    · have H3 := hidU (Fa.long (a := am) (c := cm) (w := w2) h65 hcm)
      go_wp2_with (go_at_call 9; refine H3.out.mono ?_; rintro _ w3 ⟨rfl, hb3⟩; refine Hid.out ?_)
      refine hidU ?_
      have HB3 := hidU (HB2.out.trans (hb3.mono HB2.out.size))
      clear hb3 H3
      go_wp2
      go_ret
      exact ⟨rfl, HB3.out⟩
    · have H3 := hidU (Fa.frame HM2.out HE.out hcm hzm (by omega))
      go_wp2_with (go_at_call 9; refine H3.out.mono ?_; rintro _ w3 ⟨v3, rfl, _, hb3⟩; refine Hid.out ?_)
      refine hidU ?_
      have HB3 := hidU (HB2.out.trans (hb3.mono HB2.out.size))
      clear hb3 H3
      go_wp2
      go_ret
      exact ⟨rfl, HB3.out⟩
  | true =>
    obtain ⟨hx20, hx300⟩ := runOk_len hR
    rw [← HN.out] at hx20
    have HX := hidU hx300
    rw [hR] at H2
    clear hx300 hR
    go_wp2_with (go_at_call 24; refine H2.out.mono ?_; rintro _ w2 ⟨hb2, hr2, _⟩; obtain ⟨v5, v6, rfl, ho5, ho6⟩ := hr2 rfl; refine Hid.out ?_)
    refine hidU ?_
    have HB2 := hidU (HB1.out.trans (hb2.mono HB1.out.size))
    have HM2 := hidU (HM.out.below HB2.out)
    have hL6 : (flatF (bss xs)).length ≤ 6240 := by
      have := flatF_le (bss xs) HX.out
      have e : (bss xs).length = n := by rw [bss, List.length_map, HN.out]
      rw [e] at this; omega
    obtain ⟨a5, c5, rfl, row5, hc5, hz5⟩ := ho5.rowB
    obtain ⟨a6, c6, rfl, _, _, _, _, row6⟩ := ho6.row
    rw [ats_len]
    obtain ⟨L, hL⟩ : ∃ x, Hid (x = (flatF (bss xs)).length) := ⟨_, (rfl : (flatF (bss xs)).length = _)⟩
    rw [← hL.out] at hc5 hL6 ⊢
    have H6 : Hid ((ats (bss xs) (n + 1))[n]? = some (L : Int)) := by
      show _ = _
      rw [ats_at _ _ _ (Nat.lt_succ_self n), hL.out, List.take_of_length_le (by rw [bss, List.length_map, HN.out]; exact Nat.le_refl _)]
    obtain ⟨g6, o6, rfl, _⟩ := row_int row6 H6.out
    have HR5 := hidU row5
    have HR6 := hidU row6
    clear hb2 hr2 H2 HB1 ho5 ho6 row5 row6
    by_cases h65 : 65536 < m
    · have H3 := hidU (Fa.long (a := am) (c := cm) (w := w2) h65 hcm)
      go_wp2_with (go_at_call 9; refine H3.out.mono ?_; rintro _ w3 ⟨rfl, hb3⟩; refine Hid.out ?_)
      refine hidU ?_
      have HB3 := hidU (HB2.out.trans (hb3.mono HB2.out.size))
      clear hb3 H3 H6 HR5 HR6
      go_wp2
      go_ret
      exact ⟨rfl, HB3.out⟩
    have H3 := hidU (Fa.frame HM2.out HE.out hcm hzm (by omega))
    go_wp2_with (go_at_call 9; refine H3.out.mono ?_; rintro _ w3 ⟨v3, rfl, ho3, hb3⟩; refine Hid.out ?_)
    refine hidU ?_
    have HB3 := hidU (HB2.out.trans (hb3.mono HB2.out.size))
    have HR53 := hidU (HR5.out.below hb3)
    have HR63 := hidU (HR6.out.below hb3)
    by_cases h300 : 300 < m
    · clear hb3 H3 H6 HR5 HR6 ho3
      go_wp2
      go_ret
      exact ⟨rfl, HB3.out⟩
    obtain ⟨af, cf, rfl, rowf, hcf, hzf⟩ := ho3.rowB
    obtain ⟨M, hM⟩ : ∃ x, Hid (x = (frameL bm).length) := ⟨_, (rfl : (frameL bm).length = _)⟩
    have hMm : Hid (M = m + 12) := by show M = _; rw [hM.out, frameL_len, HE.out]
    rw [← hM.out] at hcf ⊢
    have HRf3 := hidU rowf
    have hM312 : M ≤ 312 := by rw [hMm.out]; omega
    have hM1 : 1 ≤ M := by rw [hMm.out]; omega
    have H4 := hidU (pick_any z (M : Int) w3 HZ.out.1 HZ.out.2 (by omega))
    clear hb3 H3 ho3 rowf HR5 HR6 HB2 HM2
    go_wp2_with (go_at_call 25; refine H4.out.mono ?_; rintro _ w5 ⟨⟨cut, rfl, hk1, _⟩, hw5⟩; subst hw5; refine Hid.out ?_)
    refine hidU ?_
    have hcut : cut < M := by have := hk1 (by omega); omega
    have hcutc : cut ≤ cf := by omega
    have hcutl : Hid (((frameL bm).take cut).length = cut) := by show _ = _; rw [List.length_take, ← hM.out]; omega
    have hlen : Hid ((flatF (bss xs) ++ (frameL bm).take cut).length = L + cut) := by show _ = _; rw [List.length_append, hcutl.out, hL.out]
    obtain ⟨tw, htw⟩ : ∃ t : Nat, Hid (t = if cut = 0 then 0 else 1) := ⟨_, (rfl : (if cut = 0 then 0 else 1) = _)⟩
    have hsc : Hid (scanL (flatF (bss xs) ++ (frameL bm).take cut) = (bss xs, L, tw)) := by
      show _ = _
      rw [scan_frames _ _ (fun r hr => Nat.le_trans (HX.out r hr) (by decide)), scan_cut bm cut (by rw [← HE.out]; omega) (by have := hMm.out; rw [← HE.out]; omega), List.append_nil, ← hL.out, ← htw.out]; rfl
    have HR5 := HR53
    have HRf := HRf3
    have hs1 := fun w => run_slice_to w af M cf cut (cut : Int) rfl (by omega)
    clear hk1 H4 HR53 HRf3
    go_wp2
    have hS0a : Below w5.heap.size w5 w5.drew := Below.drew (Below.refl _ _)
    refine wp_region_held_drew (S := fun xS => Below w5.heap.size w5 xS) (by kernel_rfl) hS0a ?_
    obtain ⟨x0a, hx0⟩ : ∃ x, x = w5.drew := ⟨_, rfl⟩
    rw [← hx0] at hS0a  ⊢
    clear hx0
    intro _
    refine wpAnyH_take (i := 0) (oi := { dst := some 46, op := .move (.tmp 8), type := _, pos := _, after := _, guard := none }) (v := .slice a5 L c5) rfl (by kernel_rfl) (by kernel_rfl) (by kernel_rfl) (fun _ _ _ h => h) (Or.inl ⟨by rfl, ?_⟩) hS0a ?_
    · intro wS hSw
      go_simp
    simp only [Act.put, List.setIfInBounds_toArray, List.set_cons_zero, List.set_cons_succ]
    refine wpAnyH_take (i := 2) (oi := { dst := some 48, op := .move (.tmp 11), type := _, pos := _, after := _, guard := none }) (v := .slice af M cf) rfl (by kernel_rfl) (by kernel_rfl) (by kernel_rfl) (fun _ _ _ h => h) (Or.inl ⟨by rfl, ?_⟩) hS0a ?_
    · intro wS hSw
      go_simp
    simp only [Act.put, List.setIfInBounds_toArray, List.set_cons_zero, List.set_cons_succ]
    refine wpAnyH_take (i := 3) (oi := { dst := some 49, op := .move (.tmp 2), type := _, pos := _, after := _, guard := none }) (v := .int .i64 (cut : Int)) rfl (by kernel_rfl) (by kernel_rfl) (by kernel_rfl) (fun _ _ _ h => h) (Or.inl ⟨by rfl, ?_⟩) hS0a ?_
    · intro wS hSw
      go_simp
    simp only [Act.put, List.setIfInBounds_toArray, List.set_cons_zero, List.set_cons_succ]
    refine wpAnyH_take (i := 4) (oi := { dst := some 50, op := .slice 22 (.tmp 48) none (some (.tmp 49)) none, type := _, pos := _, after := _, guard := none }) (v := .slice af cut cf) rfl (by kernel_rfl) (by kernel_rfl) (by kernel_rfl) (fun _ _ _ h => h) (Or.inl ⟨by rfl, ?_⟩) hS0a ?_
    · intro wS hSw
      go_simp
    simp only [Act.put, List.setIfInBounds_toArray, List.set_cons_zero, List.set_cons_succ]
    refine wpAnyH_ready (rs := [1]) (by kernel_rfl) (by simp) ?_
    refine AllReadyH.cons (o := { dst := some 47, op := .call { callee := .value (.func 26), args := #[.tmp 46], argTypes := #[22] }, type := _, pos := _, after := _, guard := none }) rfl (fun K hK => ?_) AllReadyH.nil
    rw [if_pos (by rfl)]
    have HC1a := hidU (copy_any a5 L c5 (flatF (bss xs)) x0a (HR5.out.below hS0a) hL.out hc5 hz5 (by omega))
    go_wp2_with (go_at_call 26; refine HC1a.out.mono ?_; rintro _ x1a ⟨vc, rfl, hoc, hb1a⟩)
    have HOc := hidU (hoc.less hS0a.size)
    clear hoc HC1a
    have hS1a := (hS0a.trans (hb1a.mono hS0a.size))
    refine hK.out _ _ hS1a (fun _ => ?_)
    clear hK K
    refine wpAnyH_ready (rs := [5]) (by kernel_rfl) (by simp) ?_
    refine AllReadyH.cons (o := { dst := some 51, op := .call { callee := .builtin .append, args := #[.tmp 47, .tmp 50], argTypes := #[22, 22] }, type := _, pos := _, after := _, guard := none }) rfl (fun K hK => ?_) AllReadyH.nil
    rw [if_pos (by rfl)]
    refine wp_appX eB (.tmp 47) (.tmp 50) rfl w5.heap.size _ af cut cf rfl rfl HOc.out hcutl.out (fun q => hzf q) hcutc (rowB.2 ((HRf.out.below hS1a).take cut)) (by rw [← hL.out]; unfold maxLen; omega) (by rw [← hL.out]; show (L + cut) * 1 ≤ _; omega) hS1a.size ?_
    intro va x2a hoa hga
    have HOa := hidU hoa
    have HSa := hidU (hS1a.grown hga hS1a.size fun k hk => (HOc.out.block k hk).1)
    clear hoa hga
    have hS2a := HSa.out
    refine hK.out _ _ hS2a (fun _ => ?_)
    clear hK K
    refine wpAnyH_ready (rs := [6]) (by kernel_rfl) (by simp) ?_
    refine AllReadyH.cons (o := { dst := some 52, op := .call { callee := .value (.func 10), args := #[.tmp 51], argTypes := #[22] }, type := _, pos := _, after := _, guard := none }) rfl (fun K hK => ?_) AllReadyH.nil
    rw [if_pos (by rfl)]
    obtain ⟨aa, ca, ea, rowa, hca, hza⟩ := HOa.out.rowB
    rw [hlen.out] at ea
    subst ea
    have HC3a := hidU (Fa.scan rowa (n := L + cut) hlen.out.symm (by rw [← hlen.out]; exact hca) hza (by omega))
    rw [hsc.out] at HC3a
    clear rowa hca hza
    go_wp2_with (go_at_call 10; refine HC3a.out.mono ?_; rintro _ x3a ⟨a2, c2, ys, rfl, hly, hys, hyc, hb3a⟩)
    have HLy := hidU hly
    have HYs := hidU hys
    clear hly hys HC3a
    have hS3a := (hS2a.trans (hb3a.mono hS2a.size))
    refine hK.out _ _ hS3a (fun _ => ?_)
    clear hK K
    refine wpAnyH_take (i := 7) (oi := { dst := some 45, op := .move (.tmp 52), type := _, pos := _, after := _, guard := none }) (v := .tuple #[.slice a2 ys.length c2, .int .i64 (L : Int), .int .i64 (tw : Int)]) rfl (by kernel_rfl) (by kernel_rfl) (by kernel_rfl) (fun _ _ _ h => h) (Or.inl ⟨by rfl, ?_⟩) hS3a ?_
    · intro wS hSw
      go_simp
    simp only [Act.put, List.setIfInBounds_toArray, List.set_cons_zero, List.set_cons_succ]
    refine wpAnyH_take (i := 8) (oi := { dst := some 53, op := .extract (.tmp 45) 0, type := _, pos := _, after := _, guard := none }) (v := .slice a2 ys.length c2) rfl (by kernel_rfl) (by kernel_rfl) (by kernel_rfl) (fun _ _ _ h => h) (Or.inl ⟨by rfl, ?_⟩) hS3a ?_
    · intro wS hSw
      go_simp
    simp only [Act.put, List.setIfInBounds_toArray, List.set_cons_zero, List.set_cons_succ]
    refine wpAnyH_take (i := 9) (oi := { dst := some 54, op := .extract (.tmp 45) 1, type := _, pos := _, after := _, guard := none }) (v := .int .i64 (L : Int)) rfl (by kernel_rfl) (by kernel_rfl) (by kernel_rfl) (fun _ _ _ h => h) (Or.inl ⟨by rfl, ?_⟩) hS3a ?_
    · intro wS hSw
      go_simp
    simp only [Act.put, List.setIfInBounds_toArray, List.set_cons_zero, List.set_cons_succ]
    refine wpAnyH_take (i := 10) (oi := { dst := some 55, op := .extract (.tmp 45) 2, type := _, pos := _, after := _, guard := none }) (v := .int .i64 (tw : Int)) rfl (by kernel_rfl) (by kernel_rfl) (by kernel_rfl) (fun _ _ _ h => h) (Or.inl ⟨by rfl, ?_⟩) hS3a ?_
    · intro wS hSw
      go_simp
    simp only [Act.put, List.setIfInBounds_toArray, List.set_cons_zero, List.set_cons_succ]
    refine wpAnyH_take (i := 11) (oi := { dst := some 13, op := .assign (.tmp 53), type := _, pos := _, after := _, guard := none }) (v := .slice a2 ys.length c2) rfl (by kernel_rfl) (by kernel_rfl) (by kernel_rfl) (fun _ _ _ h => h) (Or.inl ⟨by rfl, ?_⟩) hS3a ?_
    · intro wS hSw
      go_simp
    simp only [Act.put, List.setIfInBounds_toArray, List.set_cons_zero, List.set_cons_succ]
    refine wpAnyH_take (i := 12) (oi := { dst := some 14, op := .assign (.tmp 54), type := _, pos := _, after := _, guard := none }) (v := .int .i64 (L : Int)) rfl (by kernel_rfl) (by kernel_rfl) (by kernel_rfl) (fun _ _ _ h => h) (Or.inl ⟨by rfl, ?_⟩) hS3a ?_
    · intro wS hSw
      go_simp
    simp only [Act.put, List.setIfInBounds_toArray, List.set_cons_zero, List.set_cons_succ]
    refine wpAnyH_take (i := 13) (oi := { dst := some 15, op := .assign (.tmp 55), type := _, pos := _, after := _, guard := none }) (v := .int .i64 (tw : Int)) rfl (by kernel_rfl) (by kernel_rfl) (by kernel_rfl) (fun _ _ _ h => h) (Or.inl ⟨by rfl, ?_⟩) hS3a ?_
    · intro wS hSw
      go_simp
    simp only [Act.put, List.setIfInBounds_toArray, List.set_cons_zero, List.set_cons_succ]
    refine wpAnyH_done (by kernel_rfl) ?_ _
    have HBx := hidU (HB3.out.trans (hS3a.mono HB3.out.size))
    have HLx := hidU (HL.out.below HBx.out)
    have HR6x := hidU (HR63.out.below hS3a)
    have H8 := hidU (lists_any ys xs a2 a c2 c _ HLy.out HLx.out hyc (by rw [← HN.out]; exact hc) (by have := congrArg List.length HYs.out; simp only [bss, List.length_map] at this; rw [this, ← HN.out]; omega) (by rw [← HN.out]; omega))
    rw [HYs.out, show (bss xs == bss xs) = true from beq_self_eq_true _, ← HN.out] at H8
    have HFin : ∀ (cut : Nat), tw = (if cut = 0 then 0 else 1) → True := fun _ _ => trivial
    by_cases hcz : cut = 0
    · have htz : tw = 0 := by rw [htw.out, if_pos hcz]
      subst hcz
      subst htz
      clear HFin hs1
      go_wp2_with (go_at_call 21; refine H8.out.mono ?_; rintro _ y1 ⟨rfl, hby⟩; refine Hid.out ?_)
      refine hidU ?_
      have HBy := hidU (HBx.out.trans (hby.mono HBx.out.size))
      have hcell : y1.cell? ⟨g6, o6 + n, none⟩ = some (.int .i64 (L : Int)) := by
        obtain ⟨g', o', e, q⟩ := row_int (HR6x.out.below hby) H6.out
        cases e
        exact q
      have H9 := hidU (Fa.size (z := (m : Int)) (w := y1))
      rw [show sizeZ (m : Int) = (M : Int) by unfold sizeZ; rw [if_neg (by omega), hMm.out]; rfl] at H9
      clear hby H8
      go_wp2_with (go_at_call 15; refine H9.out.mono ?_; rintro _ y2 ⟨rfl, hbz⟩; refine Hid.out ?_)
      refine hidU ?_
      have HBz := hidU (HBy.out.trans (hbz.mono HBy.out.size))
      clear hbz H9 hcell
      go_wp2
      go_ret
      exact ⟨rfl, HBz.out⟩
    · have htz : tw = 1 := by rw [htw.out, if_neg hcz]
      subst htz
      clear HFin hs1
      go_wp2_with (go_at_call 21; refine H8.out.mono ?_; rintro _ y1 ⟨rfl, hby⟩; refine Hid.out ?_)
      refine hidU ?_
      have HBy := hidU (HBx.out.trans (hby.mono HBx.out.size))
      have hcell : y1.cell? ⟨g6, o6 + n, none⟩ = some (.int .i64 (L : Int)) := by
        obtain ⟨g', o', e, q⟩ := row_int (HR6x.out.below hby) H6.out
        cases e
        exact q
      have H9 := hidU (Fa.size (z := (m : Int)) (w := y1))
      rw [show sizeZ (m : Int) = (M : Int) by unfold sizeZ; rw [if_neg (by omega), hMm.out]; rfl] at H9
      clear hby H8
      go_wp2_with (go_at_call 15; refine H9.out.mono ?_; rintro _ y2 ⟨rfl, hbz⟩; refine Hid.out ?_)
      refine hidU ?_
      have HBz := hidU (HBy.out.trans (hbz.mono HBy.out.size))
      clear hbz H9 hcell
      go_wp2
      go_ret
      exact ⟨rfl, HBz.out⟩
end Go.Proofs.Ytbehmclligkbhaa
