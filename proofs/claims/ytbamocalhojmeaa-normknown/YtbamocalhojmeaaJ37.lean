/- Joined texts of the proof. -/
import Derived.Test.YtbamocalhojmeaaJ36
import Derived.Test.YtbamocalhojmeaaJ34

/- norm.leastOrder: the walk. -/
namespace Go.Proofs.Ytbamocalhojmeaa
open Go.RowKit
set_option linter.unusedVariables false
attribute [local go_sem ↓] Go.wp_at_zero Go.wp_at_succ
attribute [local go_sem] Oper.semAt_some

set_option maxRecDepth 100000 in
set_option maxHeartbeats 12800000 in
theorem leastOrder_any (es : List Ev) (nn : Nat) (a1 a2 : Option Addr) (c1 c2 : Nat) (w : World) (hT : Tr w a1 a2 es nn) (hc1 : es.length ≤ c1) (hc2 : es.length ≤ c2) :
    Calls Try.prog 35 #[.slice a1 es.length c1, .slice a2 es.length c2] w fun r w' => ∃ g, r = .returned (.slice (some ⟨g, 0, none⟩) es.length es.length) ∧ At 3 w' g (ordV (leastL (evAt es) es.length) es.length) ∧ w.heap.size ≤ g ∧ Below w.heap.size w w' := by
  obtain ⟨i0, hi0, hz0, hz1, hz2⟩ := info_parts Try.info3
  have HT := hidU hT
  have HC := hidU (counts_any a1 a2 c1 nn es w hT hc1)
  have hlen := hT.len
  obtain ⟨m, hm⟩ : ∃ m, Hid (m = es.length) := ⟨_, (rfl : _ = es.length)⟩
  rw [← hm.out] at HC hc1 hc2 hlen ⊢
  clear hT
  refine (callsIn_wide (n := 6)).1 ?_
  refine callsIn_of_wp_marks Try.func35 rfl trivial ?_ rfl
  simp only [Try.ntmps35, List.size_toArray, List.length_cons, List.length_nil, Nat.reduceAdd, Nat.reduceSub, Array.replicate_succ, Array.replicate_zero, List.push_toArray, List.append_toArray, List.nil_append, List.cons_append]
  gi_wp2_with (refine ⟨trivial, ?_⟩; gi_at_call 52; refine (callsIn_wide.2 HC.out).mono ?_; rintro e w1 ⟨gM, rfl, hA1, hgM, hb1⟩; have HA1 := hidU hA1; have HB1 := hidU hb1; clear hA1 hb1)
  obtain ⟨bM, hbM⟩ : ∃ b, Hid (b = w1.heap.size) := ⟨_, (rfl : _ = w1.heap.size)⟩
  obtain ⟨ev, hev⟩ : ∃ e, Hid (e = evAt es) := ⟨_, (rfl : _ = evAt es)⟩
  obtain ⟨f0, hf0⟩ : ∃ f : Nat → Int, Hid (f = fun x => ((aheadN ev x : Nat) : Int)) := ⟨_, (rfl : _ = fun x => ((aheadN ev x : Nat) : Int))⟩
  have H0 : Hid (LoS w es bM (bM + 1 + 1) gM (bM + 1) a2 c2 (((w1.alloc (.cells #[.slice (some ⟨gM, 0, none⟩) m m] 23)).alloc (.cells #[.slice a2 m c2, .slice none 0 0] 81)).alloc (.cells #[.pointer (some ⟨bM + 1, 0, none⟩)] 79)) f0 [] (.slice none 0 0)) := by
    have e1 := hbM.out
    have hlt := HA1.out.lt
    have q1 := Boxed.new w1 23 (.slice (some ⟨gM, 0, none⟩) m m)
    have q2 : At 81 ((w1.alloc (.cells #[.slice (some ⟨gM, 0, none⟩) m m] 23)).alloc (.cells #[.slice a2 m c2, .slice none 0 0] 81)) (bM + 1) [.slice a2 m c2, .slice none 0 0] := by
      have := World.alloc_heap_new (w1.alloc (.cells #[.slice (some ⟨gM, 0, none⟩) m m] 23)) (.cells #[.slice a2 m c2, .slice none 0 0] 81)
      rw [World.size_alloc, ← e1] at this
      exact this
    have q3 := Boxed.new ((w1.alloc (.cells #[.slice (some ⟨gM, 0, none⟩) m m] 23)).alloc (.cells #[.slice a2 m c2, .slice none 0 0] 81)) 79 (.pointer (some ⟨bM + 1, 0, none⟩))
    rw [World.size_alloc, World.size_alloc, ← e1] at q3
    rw [← e1] at q1
    have hb0 : Below w1.heap.size w1 (((w1.alloc (.cells #[.slice (some ⟨gM, 0, none⟩) m m] 23)).alloc (.cells #[.slice a2 m c2, .slice none 0 0] 81)).alloc (.cells #[.pointer (some ⟨bM + 1, 0, none⟩)] 79)) := (((Below.refl _ w1).alloc (Nat.le_refl _) _).alloc (by simp) _).alloc (by simp; omega) _
    have hbs := HB1.out.size
    refine ⟨by rw [← hm.out]; exact (q1.alloc _).alloc _, q3, ?_, ⟨⟨?_, by omega, World.ownsRow_nil _ _ _ _⟩, HB1.out.trans (hb0.mono hbs), HT.out.evs, by omega, by simp, by simp; omega, by simp⟩, Hp.nil _, hgM, by omega, by omega, by omega⟩
    · rw [← hm.out, hf0.out, hev.out]
      exact HA1.out.below hb0
    · rw [← hm.out]
      exact At.below q2 ((Below.refl _ _).alloc (Nat.le_refl _) _)
  rw [← hbM.out]
  obtain ⟨W0, hW0⟩ : ∃ W, Hid (W = (((w1.alloc (.cells #[.slice (some ⟨gM, 0, none⟩) m m] 23)).alloc (.cells #[.slice a2 m c2, .slice none 0 0] 81)).alloc (.cells #[.pointer (some ⟨bM + 1, 0, none⟩)] 79))) := ⟨_, (rfl : _ = _)⟩
  rw [← hW0.out] at H0 ⊢
  clear HA1 HB1 hW0 hbM HC
  gi_loopw [19] (fun s wr => ∃ i : Nat, s = .int .i64 (i : Int) ∧ i ≤ m ∧ Hid (∃ N v, LoS w es bM (bM + 1 + 1) gM (bM + 1) a2 c2 wr f0 N v ∧ N.Perm ((List.range i).filter fun j => decide (aheadN ev j = 0)))) (fun s _ => m - (intOf s).toNat)
  case atStart => exact ⟨0, rfl, Nat.zero_le _, [], _, H0.out, by simp⟩
  case round =>
    obtain ⟨i, rfl, hi, hL⟩ := hrel
    clear H0
    obtain ⟨N, v, hL, hN⟩ := hL.out
    have HL := hidU hL
    have HN := hidU hN
    clear hN
    have cH := hL.hv.cell
    by_cases him : i < m
    · have i1 : (i : Int) < (m : Int) := by omega
      obtain ⟨X, hX⟩ : ∃ X, Hid (X = aheadN ev i) := ⟨_, (rfl : _ = aheadN _ _)⟩
      have cM : wr.cell? ⟨gM, i, none⟩ = some (.int .i64 (X : Nat)) := by
        rw [hL.ms.cell, cellsZ_at (by rw [← hm.out]; exact him), hf0.out, hX.out]
      clear hL
      by_cases hX0 : X = 0
      · subst hX0
        have HP : Hid (Calls Try.prog 53 #[.iface 79 (.pointer (some ⟨bM + 1, 0, none⟩)), .iface 3 (.int .i64 (i : Int))] wr fun r w' => r = .returned (.tuple #[]) ∧ ∃ N v, LoS w es bM (bM + 1 + 1) gM (bM + 1) a2 c2 w' f0 N v ∧ N.Perm ((List.range (i + 1)).filter fun j => decide (aheadN ev j = 0))) := by
          have hNl : N.length ≤ 1024 := by
            rw [HN.out.length_eq]
            have := List.length_filter_le (fun j => decide (aheadN ev j = 0)) (List.range i)
            simp at this
            omega
          refine (heapPush_any w es _ wr _ a2 c2 N v i HL.out.hp HL.out.heap (by rw [← hm.out]; exact him) (by omega)).mono ?_
          rintro r w' ⟨rfl, N', v', k1, k2, k3, k4⟩
          refine ⟨rfl, N', v', HL.out.chg k3 k2 k4, k1.trans ?_⟩
          rw [List.range_succ, List.filter_append, List.filter_cons, if_pos (by rw [← hX.out]; rfl)]
          exact HN.out.append_right _
        gi_wp2_with (refine ⟨trivial, ?_⟩; gi_at_call 53; refine (callsIn_wide.2 HP.out).mono ?_; rintro e w2 ⟨rfl, hE⟩; have HE := hidU hE; clear hE)
        go_roundw
        case rel => exact ⟨i + 1, by go_num, by omega, HE.out⟩
        case measure => simp [intOf]; omega
      · have HE : Hid (∃ N v, LoS w es bM (bM + 1 + 1) gM (bM + 1) a2 c2 wr f0 N v ∧ N.Perm ((List.range (i + 1)).filter fun j => decide (aheadN ev j = 0))) := by
          refine ⟨N, v, HL.out, ?_⟩
          rw [List.range_succ, List.filter_append, List.filter_cons, if_neg (by rw [← hX.out]; simpa using hX0)]
          simpa using HN.out
        have hb0 : ((X : Int) == 0) = false := beq_eq_false_iff_ne.2 (by omega)
        gi_wp2_with fail
        go_roundw
        case rel => exact ⟨i + 1, by go_num, by omega, HE.out⟩
        case measure => simp [intOf]; omega
    · have eim : m = i := by omega
      subst eim
      clear hL
      obtain ⟨gO, hgO⟩ : ∃ g, Hid (g = wr.heap.size) := ⟨_, (rfl : _ = _)⟩
      have hmk : (Instr.makeSlice 23 (.int .i64 0) (.int .i64 (m : Int))).run Try.prog wr = .ok (.slice (some ⟨gO, 0, none⟩) 0 m) (wr.alloc (.cells (madeCells #[.int .i64 0] m) 3)) := by
        have := run_make (P := Try.prog) wr 23 3 i0 (.int .i64 0) Try.underlying23 hi0 hz0 .i64 .i64 0 (m : Int) (by omega) (by omega) (by rw [hz2]; omega) (by omega)
        rw [hz1, Nat.mul_one, Int.toNat_natCast, ← hgO.out] at this
        exact this
      have H1 : Hid (Lp w es bM gM gO a2 c2 (wr.alloc (.cells (madeCells #[.int .i64 0] m) 3)) [] 0 f0 N v) := by
        have hb := (Below.refl _ wr).alloc (Nat.le_refl _) (.cells (madeCells #[Value.int .i64 0] m) 3)
        refine ⟨Nat.zero_le _, HL.out.keep (Cel.of_below hb HL.out.lt), ?_, ?_, ?_, ?_, ?_, .nil, by simp⟩
        · rw [hgO.out]
          have := World.alloc_heap_new wr (.cells (madeCells #[Value.int .i64 0] m) 3)
          unfold At
          rw [this, ← hm.out]
          congr 2
          apply Array.toList_inj.1
          rw [toList_madeCells_one]
          simp [ordV, leastN, natI, I64]
        · rw [hgO.out]
          exact HL.out.hv.lt
        · intro k hk e
          simp only [List.mem_cons, List.not_mem_nil, or_false] at hk
          obtain ⟨o, h1, _⟩ := own_cells HL.out.hp.rdo.own e.symm
          have := (Array.getElem?_eq_some_iff.1 h1).1
          rw [hk, hgO.out] at this
          omega
        · refine (rdy_start (gen_hb (evAt es) es.length)).perm ?_
          rw [← hm.out]
          refine List.Perm.trans (List.Perm.of_eq (List.filter_congr fun j hj => ?_)) HN.out.symm
          rw [ahead_lft (evAt es) (by exact List.mem_range.1 hj), hev.out]
        · intro j hj
          rw [hf0.out]
          show ((aheadN ev j : Nat) : Int) = _
          rw [show leastN (evAt es) es.length 0 = [] from rfl, ahead_lft (evAt es) hj, hev.out]
      clear HL HN cH
      obtain ⟨W1, hW1⟩ : ∃ W, Hid (W = wr.alloc (.cells (madeCells #[.int .i64 0] m) 3)) := ⟨_, (rfl : _ = _)⟩
      rw [← hW1.out] at hmk H1
      clear hW1 hf0
      gi_wp2_with fail
      clear hmk
      refine wpIn_loop (fun a' W => ∃ (Ds : List Nat) (k : Nat) (u2 u3 u4 u7 u8 u10 u11 u12 u13 u14 u15 u16 u17 u18 u19 u20 u21 u22 u23 u24 u25 u26 u27 u28 u29 u30 u31 u32 u33 u34 u35 u36 u37 u38 u39 u40 u41 u42 u43 u44 u45 u46 u47 u48 u49 u50 u51 u52 u53 u54 u55 u56 u57 u58 u59 u60 u61 u62 u63 u64 u65 u66 u67 : Value), a' = { tmps := #[.slice a1 m c1, .slice a2 m c2, u2, u3, u4, .pointer (some ⟨bM, 0, none⟩), .pointer (some ⟨bM + 1 + 1, 0, none⟩), u7, u8, .slice (some ⟨gO, 0, none⟩) k m, u10, u11, u12, u13, u14, u15, u16, u17, u18, u19, u20, u21, u22, u23, u24, u25, u26, u27, u28, u29, u30, u31, u32, u33, u34, u35, u36, u37, u38, u39, u40, u41, u42, u43, u44, u45, u46, u47, u48, u49, u50, u51, u52, u53, u54, u55, u56, u57, u58, u59, u60, u61, u62, u63, u64, u65, u66, u67], defers := Ds.map mkD } ∧ Hid (∃ f N v, Lp w es bM gM gO a2 c2 W Ds k f N v)) (fun a' _ => m + 1 - slen (a'.tmps.getD 9 undef)) ?_ ?_
      · exact ⟨[], 0, _, _, _, _, _, _, _, _, _, _, _, _, _, _, _, _, _, _, _, _, _, _, _, _, _, _, _, _, _, _, _, _, _, _, _, _, _, _, _, _, _, _, _, _, _, _, _, _, _, _, _, _, _, _, _, _, _, _, _, _, _, _, _, rfl, f0, N, v, H1.out⟩
      rintro a' W ⟨Ds, k, u2, u3, u4, u7, u8, u10, u11, u12, u13, u14, u15, u16, u17, u18, u19, u20, u21, u22, u23, u24, u25, u26, u27, u28, u29, u30, u31, u32, u33, u34, u35, u36, u37, u38, u39, u40, u41, u42, u43, u44, u45, u46, u47, u48, u49, u50, u51, u52, u53, u54, u55, u56, u57, u58, u59, u60, u61, u62, u63, u64, u65, u66, u67, rfl, hLp⟩
      clear H1
      obtain ⟨f, N, v, hLp⟩ := hLp.out
      have HLp := hidU hLp
      have cH := hLp.lo.hv.cell
      have hkm : k ≤ m := by rw [hm.out]; exact hLp.le
      have HLen := hidU (hpLen hLp.lo.hp)
      clear hLp
      cases N with
      | nil =>
        simp only [List.length_nil] at HLen
        gi_wp2_with (refine ⟨trivial, ?_⟩; gi_at_call 54; refine (callsIn_wide.2 HLen.out).mono ?_; rintro e W2 ⟨rfl, rfl⟩)
        have hkk := HLp.out.last
        have HE : Hid (Ds.Nodup ∧ (∀ D ∈ Ds, w.heap.size ≤ D ∧ W2.heap[D]? = some (.deferred (some []))) ∧ (∀ W', Cel w.heap.size W2 W' → At 3 W' gO (ordV (leastL (evAt es) m) m) ∧ w.heap.size ≤ gO ∧ Below w.heap.size w W')) := by
          have o1 := HLp.out.lo.o1; have o2 := HLp.out.lo.o2; have og := HLp.out.og
          refine ⟨HLp.out.nod, fun D hD => ⟨?_, (HLp.out.mks D hD).2⟩, fun W' hC => ⟨?_, by omega, HLp.out.lo.hp.bel.trans hC.bel⟩⟩
          · have := (HLp.out.mks D hD).1
            omega
          · have := hC.at HLp.out.ord
            rw [hkk, ← hm.out] at this
            exact this
        rw [← hm.out] at hkk
        refine leaves_marks (b := w.heap.size) Ds W2 HE.out.1 HE.out.2.1 (fun W' hC => ?_)
        subst hkk
        exact ⟨_, results_tmp rfl _ _ _, gO, rfl, HE.out.2.2 W' hC⟩
      | cons x t =>
        simp only [List.length_cons] at HLen
        obtain ⟨hk1, hx1, ht1⟩ := HLp.out.more
        rw [← hm.out] at hk1 hx1 ht1
        have hg0 : decide ((0 : Int) < (t.length : Int) + 1) = true := decide_eq_true (by omega)
        have hta := tassert3 (x : Int)
        have HPop := hidU (heapPop_any w es _ W _ a2 c2 x t v HLp.out.lo.hp HLp.out.lo.heap)
        have HX : Hid (∀ (W2 : World) (v' : Value), Chg (bM + 1) v.ownBlock v'.ownBlock W W2 → At 3 (W2.alloc (.cells #[.int .i64 (x : Int)] 3)) gO (ordV (leastN (evAt es) es.length k) es.length)) := fun W2 v' hC => by
          have og := HLp.out.og
          have h1 := hC.at HLp.out.ord (by omega) (HLp.out.avd gO (by simp))
          exact h1.below ((Below.refl _ _).alloc (Nat.le_refl _) _)
        have hol : (ordV (leastN (evAt es) es.length k) es.length).length = m := by
          rw [ordV_length _ _ (by rw [leastN_length, ← hm.out]; omega), ← hm.out]
        have HBH := hidU (behind_any a1 a2 m m c1 c2 (x : Int))
        gi_wp2_with (first | (refine ⟨trivial, ?_⟩; gi_at_call 54; refine (callsIn_wide.2 HLen.out).mono ?_; rintro e Wl ⟨rfl, hWl⟩; have hWl2 := hWl.symm; clear hWl; subst hWl2) | (refine ⟨trivial, ?_⟩; gi_at_call 55; refine (callsIn_wide.2 HPop.out).mono ?_; rintro e W2 ⟨rfl, N2, v2, k1, k2, k3, k4⟩; have hA3 := HX.out W2 v2 k4; have K1 := hidU k1; have K2 := hidU k2; have K3 := hidU k3; have K4 := hidU k4; clear k1 k2 k3 k4) | (gi_at_builtin; refine wpListIn_app_at rfl (.tmp 42) (.tmp 44) rfl gO k m _ W2.heap.size (x : Int) rfl hA3 hol hk1 rfl (by simp) ?_; intro W3 hA4 hb4; have HA4 := hidU hA4; have HB4 := hidU hb4; clear hA4 hb4 hA3) | (refine ⟨trivial, ?_⟩; gi_at_call 56; refine (callsIn_wide.2 (HBH.out W3)).mono ?_; rintro e W4 ⟨rfl, rfl⟩))
        obtain ⟨s, hs⟩ : ∃ s, Hid (s = W3.heap.size) := ⟨_, (rfl : _ = W3.heap.size)⟩
        obtain ⟨g1, hg1⟩ : ∃ g, Hid (g = W2.heap.size) := ⟨_, (rfl : _ = W2.heap.size)⟩
        rw [← hs.out, ← hg1.out]
        obtain ⟨W4, hW4⟩ : ∃ W, Hid (W = ((W3.alloc (.cells #[.slice a1 m c1] 32)).alloc (.cells #[.slice a2 m c2] 22)).alloc (.cells #[.int .i64 (x : Int)] 3)) := ⟨_, (rfl : _ = _)⟩
        rw [← hW4.out]
        have hb34 : Below W3.heap.size W3 W4 := by rw [hW4.out]; exact (((Below.refl _ W3).alloc (Nat.le_refl _) _).alloc (by simp) _).alloc (by simp; omega) _
        have hz4 : W4.heap.size = s + 3 := by rw [hW4.out, hs.out]; simp
        have HQ : Hid (Lq w es bM gM gO s x a2 c2 Ds (leastN (evAt es) es.length k) t f [] W4 N2 v2) := Lq.start HLp.out K1.out K2.out K3.out K4.out HA4.out HB4.out hs.out hb34 (by omega)
        have hbx : Boxed W4 s 32 (.slice a1 es.length c1) ∧ Boxed W4 (s + 1) 22 (.slice a2 es.length c2) ∧ Boxed W4 (s + 2) 3 (.int .i64 (x : Int)) := by
          rw [← hm.out, hW4.out]
          have q1 := Boxed.new W3 32 (.slice a1 m c1)
          have q2 := Boxed.new (W3.alloc (.cells #[.slice a1 m c1] 32)) 22 (.slice a2 m c2)
          have q3 := Boxed.new ((W3.alloc (.cells #[.slice a1 m c1] 32)).alloc (.cells #[.slice a2 m c2] 22)) 3 (.int .i64 (x : Int))
          rw [World.size_alloc] at q2
          rw [World.size_alloc, World.size_alloc] at q3
          rw [← hs.out] at q1 q2 q3
          exact ⟨(q1.alloc _).alloc _, q2.alloc _, q3⟩
        have hwb : Below w.heap.size w W4 := HQ.out.lo.hp.bel
        have hws : w.heap.size ≤ s := by
          have o1 := HQ.out.lo.o1; have o2 := HQ.out.lo.o2; have og := HQ.out.og; have gs := HQ.out.gs
          omega
        have HS : Hid (SeqStopsK Fence.wide (6 - 1) Try.prog 68 #[.pointer (some ⟨s + 2, 0, none⟩), .pointer (some ⟨s + 1, 0, none⟩), .pointer (some ⟨s, 0, none⟩)] (fun y : BhA es.length x (evAt es) => #[Value.int .i64 (y.1 : Int)]) (Kpt w.heap.size s) (fun ys => ys.map (·.1) = bhTo (evAt es) x es.length) (fun _ => True) (bhTo (evAt es) x es.length).length W4) := fun l J Jx W5 hW5 hJ hJx hY hj0 =>
          behind1_any 5 (by omega) l s x nn a1 a2 c1 c2 es w HT.out (by rw [← hm.out]; exact hx1) (by rw [← hm.out]; exact hc1) (by rw [← hm.out]; exact hc2) J Jx W5 (hwb.trans (hW5.mono hwb.size)) (by have := hW5.size; omega) hJ ((hW5.block _ hbx.1.lt).trans hbx.1) ((hW5.block _ hbx.2.1.lt).trans hbx.2.1) ((hW5.block _ hbx.2.2.lt).trans hbx.2.2) hY hj0
        have hN4 : (bhTo (evAt es) x es.length).length ≤ m := by
          unfold bhTo
          have := List.length_filter_le (fun j => hbB (evAt es) j x) (List.range es.length)
          rw [List.length_range, ← hm.out] at this
          rw [← hm.out]
          exact this
        have HMIN : Hid (∀ y ∈ x :: t, thK es x ≤ thK es y) := HLp.out.lo.heap.min
        have HF : Hid (∀ j, j < m → 0 ≤ f j ∧ f j ≤ 1024) := fun j hj => by
          rw [HLp.out.cnt j (by rw [← hm.out]; exact hj)]
          have h1 := countN_le (fun i => hbRel (evAt es) i j && !memB (leastN (evAt es) es.length k) i) es.length
          rw [← hm.out] at h1
          unfold lft
          rw [← hm.out]
          omega
        clear K1 K2 K3 K4 HA4 HB4 hW4 hb34 HPop HX HBH hbx hta hol HLen
        refine wpIn_rangeFunc_ownH (F := Fence.wide) (n := 6) rfl (by omega) (gf := 68) (lb := #[.pointer (some ⟨s + 2, 0, none⟩), .pointer (some ⟨s + 1, 0, none⟩), .pointer (some ⟨s, 0, none⟩)]) rfl trivial (enters_of Try.func68 (by kernel_rfl) rfl)
          HS.out (fun h1 h2 => h1.trans h2) (fun W l o o' hl ho _ _ => Kpt.put (n := W4.heap.size) (by omega) (by omega) W l o o' hl ho) (Below.refl _ _) (fun _ => rfl)
          (fun pre W => ∃ N v, Lq w es bM gM gO s x a2 c2 Ds (leastN (evAt es) es.length k) t f (pre.map (·.1)) W N v)
          (fun _ _ _ => False)
          (fun pre A B row hI hg hr => by obtain ⟨N, v, h⟩ := hI; exact ⟨N, v, h.keep (by omega) hg hr⟩)
          (fun _ _ _ _ _ hs _ _ => hs)
          ⟨N2, v2, HQ.out⟩
          (fun y a' _ => a' = { tmps := #[.slice a1 m c1, .slice a2 m c2, u2, u3, u4, .pointer (some ⟨bM, 0, none⟩), .pointer (some ⟨bM + 1 + 1, 0, none⟩), u7, u8, .slice (some ⟨gO, 0, none⟩) (k + 1) m, .int .i64 (x : Int), .int .i64 (y.1 : Int), u12, u13, u14, u15, u16, u17, u18, u19, u20, u21, u22, u23, u24, u25, u26, u27, u28, u29, u30, u31, u32, u33, u34, .pointer (some ⟨bM + 1, 0, none⟩), .int .i64 ((t.length : Int) + 1), .bool true, .pointer (some ⟨bM + 1, 0, none⟩), .iface 79 (.pointer (some ⟨bM + 1, 0, none⟩)), .iface 3 (.int .i64 (x : Int)), .int .i64 (x : Int), .slice (some ⟨gO, 0, none⟩) k m, .int .i64 (x : Int), .slice (some ⟨g1, 0, none⟩) 1 1, .slice (some ⟨gO, 0, none⟩) (k + 1) m, .slice a1 m c1, .slice a2 m c2, .int .i64 (x : Int), .func (.func 68) #[] #[.pointer (some ⟨s + 2, 0, none⟩), .pointer (some ⟨s + 1, 0, none⟩), .pointer (some ⟨s, 0, none⟩)], .int .i64 (y.1 : Int), u51, u52, u53, u54, u55, u56, u57, u58, u59, u60, u61, u62, u63, u64, u65, u66, u67], defers := [] })
          (fun _ _ _ _ _ _ hs _ _ => hs)
          ?assign ?body ?done ?stop
        case assign =>
          rintro l pre y W5 K hI hK
          gi_wp2
          exact hK _ _ (KeepsFrom.refl _ _) ⟨Below.refl _ _, fun _ _ _ => rfl⟩ hI rfl
        case stop =>
          rintro D c pre W5 _ _ h _
          exact h.elim
        case done =>
          rintro D ys W5 hD hS ⟨N3, v3, hq⟩ hd
          rw [hS] at hq
          obtain ⟨_, hLp2⟩ := Lq.done HLp.out HMIN.out hq (by omega) hd
          exact ⟨⟨D :: Ds, k + 1, _, _, _, _, _, _, _, _, _, _, _, _, _, _, _, _, _, _, _, _, _, _, _, _, _, _, _, _, _, _, _, _, _, _, _, _, _, _, _, _, _, _, _, _, _, _, _, _, _, _, _, _, _, _, _, _, _, _, _, _, _, _, _, rfl, _, N3, v3, hLp2⟩, by show m + 1 - (k + 1) < m + 1 - k; omega⟩
        case body =>
          rintro l pre y a' W5 hl ⟨r, hr⟩ ⟨N3, v3, hq⟩ rfl hlt
          have HZ4 := hidU hz4
          clear hz4
          have hy1 : y.1 < es.length := y.2.2.1
          have hy2 : y.1 < m := by rw [hm.out]; exact hy1
          obtain ⟨j, hj⟩ : ∃ j, Hid (j = y.1) := ⟨_, (rfl : _ = y.1)⟩
          have HPS : Hid ((pre ++ [y]).map (·.1) = pre.map (·.1) ++ [j]) := by rw [hj.out]; show _ = _; simp
          rw [← hj.out] at hy1 hy2 ⊢
          have hlp : pre.length < m := by omega
          have hbd := runS_bound f j (pre.map (·.1))
          rw [List.length_map] at hbd
          have hbf := HF.out j hy2
          obtain ⟨FF, hFF⟩ : ∃ z, Hid (z = (runS f (pre.map (·.1))).1 j) := ⟨_, (rfl : _ = (runS f (pre.map (·.1))).1 j)⟩
          rw [← hFF.out] at hbd
          have hb1 : -2048 ≤ FF := by omega
          have hb2 : FF ≤ 1024 := by omega
          have hN3 : N3.length < 1048576 := by
            have := hq.per.length_eq
            rw [List.length_append] at this
            omega
          have cM := hq.lo.mv.cell
          rw [← hm.out] at cM
          have cj : W5.cell? ⟨gM, j, none⟩ = some (.int .i64 FF) := by rw [hq.lo.ms.cell, cellsZ_at hy1, hFF.out]
          have fj := hq.lo.ms.frozen j
          have j1 : (j : Int) < (m : Int) := by omega
          have ob := hq.lo.o2
          have cM2 : (W5.setCell ⟨gM, j, none⟩ (.int .i64 (FF - 1))).cell? ⟨bM, 0, none⟩ = some (.slice (some ⟨gM, 0, none⟩) m m) := by
            rw [World.cell?_setCell_other _ _ _ _ (by intro e; cases e; omega)]
            exact cM
          have cj2 : (W5.setCell ⟨gM, j, none⟩ (.int .i64 (FF - 1))).cell? ⟨gM, j, none⟩ = some (.int .i64 (FF - 1)) := World.cell?_setCell_same _ _ _ cj
          by_cases hF1 : FF = 1
          · have cH2 : (W5.setCell ⟨gM, j, none⟩ (.int .i64 0)).cell? ⟨bM + 1 + 1, 0, none⟩ = some (.pointer (some ⟨bM + 1, 0, none⟩)) := by
              rw [World.cell?_setCell_other _ _ _ _ (by intro e; cases e; omega)]
              exact hq.lo.hv.cell
            have HP := hidU (hq.push (B := W4.heap.size) hy1 (by rw [← hFF.out, hF1]; rfl) hN3)
            rw [← hFF.out, hF1] at HP
            subst hF1
            have HPS2 := HPS
            clear hq hFF hbd
            gi_wp2_with (refine ⟨trivial, ?_⟩; gi_at_call 53; refine (CallsIn.inRound l (callsIn_wide.2 HP.out)).mono ?_; rintro e W6 ⟨rfl, q1, q2, q3⟩; have Q1 := hidU q1; have Q2 := hidU q2; have Q3 := hidU q3; clear q1 q2 q3)
            exact ⟨Q1.out, Q2.out, by show ∃ N v, Lq w es bM gM gO s x a2 c2 Ds (leastN (evAt es) es.length k) t f ((pre ++ [y]).map (·.1)) _ N v; rw [HPS.out]; exact Q3.out⟩
          · have HN : Hid (KeepsFrom W4.heap.size W5 (W5.setCell ⟨gM, j, none⟩ (.int .i64 (FF - 1))) ∧ Kpt w.heap.size s W5 (W5.setCell ⟨gM, j, none⟩ (.int .i64 (FF - 1))) ∧ ∃ N v, Lq w es bM gM gO s x a2 c2 Ds (leastN (evAt es) es.length k) t f (pre.map (·.1) ++ [j]) (W5.setCell ⟨gM, j, none⟩ (.int .i64 (FF - 1))) N v) := by
              refine ⟨keeps_set _ hq.lo.ms, hq.kset _, N3, v3, ?_⟩
              rw [hFF.out]
              exact hq.set hy1 (by rw [← hFF.out]; omega)
            have hz : (FF - 1 == 0) = false := beq_eq_false_iff_ne.2 (by omega)
            clear hq hFF hbd
            gi_wp2_with fail
            exact ⟨HN.out.1, HN.out.2.1, by show ∃ N v, Lq w es bM gM gO s x a2 c2 Ds (leastN (evAt es) es.length k) t f ((pre ++ [y]).map (·.1)) _ N v; rw [HPS.out]; exact HN.out.2.2⟩
end Go.Proofs.Ytbamocalhojmeaa

/- norm.Least. -/
namespace Go.Proofs.Ytbamocalhojmeaa
open Go.RowKit
set_option linter.unusedVariables false
attribute [local go_sem ↓] Go.wp_at_zero Go.wp_at_succ

theorem ordV_full {out : List Nat} {m : Nat} (h : out.length = m) : ordV out m = (natI out).map I64 := by simp [ordV, h]
theorem wrZ_at {D : Nat → Prop} {w : World} {g m : Nat} {zs : List Int} (hA : At 3 w g (zs.map I64)) (hl : zs.length = m) (hm : m ≤ 9223372036854775807) (hD : D g) : WrZ D w (some ⟨g, 0, none⟩) m := by
  refine ⟨hm, .inr ⟨g, 0, _, rfl, hD, hA, fun i hi => ?_⟩⟩
  refine ⟨zs[i]'(by omega), ?_⟩
  rw [Nat.zero_add, List.getElem?_map, List.getElem?_eq_getElem (by omega)]
  rfl
theorem rowI_at {w : World} {g : Nat} {zs : List Int} (hA : At 3 w g (zs.map I64)) : RowI w (some ⟨g, 0, none⟩) zs := .inr ⟨g, 0, rfl, fun i z hz => by rw [Nat.zero_add, hA.cell, List.getElem?_map, hz]; rfl⟩

set_option maxRecDepth 100000 in
set_option maxHeartbeats 1600000 in
theorem least_s : LeS 10 := fun es n a c w hE hok hl hc => by
  unfold leastZ
  by_cases hw : wrongZ es n = 0
  · obtain ⟨h1, h2, h3, h4⟩ := wrongZ_ok hw
    obtain ⟨nn, hnn⟩ : ∃ k : Nat, n = (k : Int) := ⟨n.toNat, by omega⟩
    subst hnn
    rw [if_pos hw, hw]
    have HC := hidU (clocks_ok a c nn es w hE hok hc hw)
    have HO : Hid (∀ u G M, ClkAt w.heap.size u G M nn (clksL (evAt es) nn es.length) → Below w.heap.size w u → Calls Try.prog 35 #[.slice (some ⟨G, 0, none⟩) es.length es.length, .slice a es.length c] u fun r w' => ∃ g, r = .returned (.slice (some ⟨g, 0, none⟩) es.length es.length) ∧ RowI w' (some ⟨g, 0, none⟩) (natI (leastL (evAt es) es.length)) ∧ WrZ (fun k => w.heap.size ≤ k) w' (some ⟨g, 0, none⟩) es.length ∧ Below w.heap.size w w') := fun u G M hK hb => by
      refine (leastOrder_any es nn (some ⟨G, 0, none⟩) a es.length c u ⟨hK.row (by omega), hE.below hb, by omega, by omega, h3, hok, h4⟩ (Nat.le_refl _) hc).mono ?_
      rintro r w' ⟨g, rfl, k1, k2, k3⟩
      rw [ordV_full (show (leastL (evAt es) es.length).length = es.length from leastN_length _ _ _)] at k1
      have hs := hb.size
      exact ⟨g, rfl, rowI_at k1, wrZ_at k1 (by rw [natI_length]; exact leastN_length _ _ _) (by omega) (by omega), hb.trans (k3.mono hs)⟩
    have hlen : (natI (leastL (evAt es) es.length)).length = es.length := by rw [natI_length]; exact leastN_length _ _ _
    rw [hlen]
    obtain ⟨Z, hZ⟩ : ∃ Z, Hid (Z = natI (leastL (evAt es) es.length)) := ⟨_, (rfl : _ = _)⟩
    rw [← hZ.out] at HO ⊢
    obtain ⟨m, hm⟩ : ∃ m, Hid (m = es.length) := ⟨_, (rfl : _ = es.length)⟩
    rw [← hm.out] at HC HO ⊢
    clear hE hok hl hc hw h1 h2 h3 h4 hlen
    go_enter Try.func10, Try.ntmps10
    go_wp2_with (first | (go_at_call 34; refine HC.out.mono ?_; rintro e w1 ⟨G, M, rfl, hk, hb⟩; have HO1 := hidU (HO.out w1 G M (by rw [hm.out] at hk; rw [hm.out]; exact hk) hb); clear hk hb) | (go_at_call 35; refine HO1.out.mono ?_; rintro e w2 ⟨g, rfl, q1, q2, q3⟩; have Q := hidU (And.intro q1 (And.intro q2 q3)); clear q1 q2 q3))
    go_ret2
    exact ⟨_, _, rfl, Nat.le_refl _, Q.out.1, Q.out.2.1, Q.out.2.2⟩
  · rw [if_neg hw]
    have HC := hidU (clocks_bad a c n es w hE hl hc hw)
    obtain ⟨R, hR⟩ : ∃ R, Hid (R = wrongZ es n) := ⟨_, (rfl : _ = wrongZ es n)⟩
    rw [← hR.out] at HC hw ⊢
    have hw2 : (R == 0) = false := beq_eq_false_iff_ne.2 hw
    obtain ⟨m, hm⟩ : ∃ m, Hid (m = es.length) := ⟨_, (rfl : _ = es.length)⟩
    rw [← hm.out] at HC ⊢
    clear hE hok hl hc
    go_enter Try.func10, Try.ntmps10
    go_wp2_with (go_at_call 34; refine HC.out.mono ?_; rintro e w1 ⟨rfl, hb⟩; have HB := hidU hb; clear hb)
    go_ret2
    exact ⟨none, 0, rfl, Nat.le_refl _, .inl rfl, ⟨by omega, .inl rfl⟩, HB.out⟩
end Go.Proofs.Ytbamocalhojmeaa
