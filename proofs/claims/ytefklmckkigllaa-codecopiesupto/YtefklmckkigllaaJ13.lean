/- The kit's SameCode. -/
import Derived.Test.YtefklmckkigllaaJ12
import Derived.Test.YtefklmckkigllaaJ11
namespace Go.Proofs.Ytefklmckkigllaa
open Go.RowKit
set_option linter.unusedVariables false

theorem wp_alloc_at {P : Program} {o : Oper} {a : Act} {w : World} {K : Act → World → Prop} {Q : Exit → Act → World → Prop} (t : TypeId) (ho : o.op = .alloc t) (cs : List Value) (n : Nat) (hz : (P.info? t).map (fun i => (i.zero, i.size)) = some (some (.agg cs.toArray), n))
    (h : ∀ w', At t w' w.heap.size cs → Below w.heap.size w w' → w'.heap.size = w.heap.size + 1 → K (a.put o.dst (.pointer (some ⟨w.heap.size, 0, none⟩))) w') : o.wp P a w K Q := by
  have := h (w.alloc (.cells cs.toArray t)) (_root_.Go.heap_alloc_new w _) ((Below.refl _ w).alloc (Nat.le_refl _) _) (by show (w.heap.push _).size = _; simp)
  have h0 := (zero_of_info hz).1
  unfold Oper.wp execOp
  simp only [ho, Instr.alloc, Sem.run_bind, h0]
  simpa [newVar, go_sem, Value.cells] using this

set_option maxRecDepth 100000 in
set_option maxHeartbeats 12800000 in
theorem kitC_any (B : Nat) (x y : CT) (w : World) (hx : x.In B w) (hy : y.In B w) (hBw : B ≤ w.heap.size) :
    Calls Try.prog 10 #[.agg x.cells.toArray, .agg y.cells.toArray] w fun e w' => e = .returned (.bool (decide (x.cd = y.cd))) ∧ Below w.heap.size w w' := by
  have Q27 : Hid (∀ u, Below w.heap.size w u → Calls Try.prog 27 #[.slice x.a1 x.shared.length x.c1, .slice y.a1 y.shared.length y.c1] u fun e w' => e = .returned (.bool (decide (x.shared = y.shared))) ∧ Below u.heap.size u w') := fun u hu => equal27_any B _ _ _ _ _ _ u (RowVl.old hx.1 (Old.of_below hu hBw)) (RowVl.old hy.1 (Old.of_below hu hBw)) (by have := hu.size; omega)
  obtain ⟨R, hR⟩ : ∃ R, Hid (R = decide (x.cd = y.cd)) := ⟨_, (rfl : decide _ = _)⟩
  rw [← hR.out]
  have h1 := hx.2.2
  have h2 := hy.2.2
  clear hx hy
  obtain ⟨a, c, ls, k, d, f, zs⟩ := x
  obtain ⟨a', c', ls', k', d', f', zs'⟩ := y
  dsimp only at h1 h2
  simp only [CT.cells] at Q27 ⊢
  obtain ⟨b1, hb1⟩ : ∃ b, Hid (b = decide (ls = ls')) := ⟨_, (rfl : decide _ = _)⟩
  rw [← hb1.out] at Q27
  obtain ⟨nl, hnl⟩ : ∃ q, Hid (q = ls.length) := ⟨_, (rfl : ls.length = _)⟩
  obtain ⟨nl', hnl2⟩ : ∃ q, Hid (q = ls'.length) := ⟨_, (rfl : ls'.length = _)⟩
  obtain ⟨n, hn⟩ : ∃ q, Hid (q = zs.length) := ⟨_, (rfl : zs.length = _)⟩
  obtain ⟨n', hn2⟩ : ∃ q, Hid (q = zs'.length) := ⟨_, (rfl : zs'.length = _)⟩
  rw [← hnl.out, ← hnl2.out] at Q27
  rw [← hnl.out, ← hnl2.out, ← hn.out, ← hn2.out]
  have hl1 := h1.1
  have hl2 := h2.1
  have hk1 := h1.2.1
  have hk2 := h2.2.1
  rw [← hn.out] at hl1 hk1
  rw [← hn2.out] at hl2 hk2
  have HR : Hid (RowBT B w d f zs ∧ RowBT B w d' f' zs') := ⟨h1, h2⟩
  clear h1 h2
  cases b1 with
  | false =>
    have hRf : R = false := by
      rw [hR.out, decide_eq_false_iff_not]
      intro h
      injection h with h1 h2 h3
      exact of_decide_eq_false hb1.out.symm h1
    clear hR hb1
    go_enter Try.func10, Try.ntmps10
    go_wp2_with (first
      | ((with_reducible show wpList _ _ _ _ _ _); refine wpList_box_at rfl 25 (.tmp 0) rfl [.slice a nl c, .int .i64 k, .slice d n f] rfl ?_; intro w1 hA1 hb1 hs1; clear hs1)
      | ((with_reducible show wpList _ _ _ _ _ _); refine wpList_box_at rfl 25 (.tmp 1) rfl [.slice a' nl' c', .int .i64 k', .slice d' n' f'] rfl ?_; intro w2 hA2 hb2 hs2; clear hs2; refine Hid.out ?_))
    refine hidU ?_
    have x0 : w2.cell? ⟨w.heap.size, 0, none⟩ = some (.slice a nl c) := by rw [(hA1.below hb2).cell]; rfl
    have y0 : w2.cell? ⟨w1.heap.size, 0, none⟩ = some (.slice a' nl' c') := by rw [hA2.cell]; rfl
    have x1 : w2.cell? ⟨w.heap.size, 1, none⟩ = some (.int .i64 k) := by rw [(hA1.below hb2).cell]; rfl
    have y1 : w2.cell? ⟨w1.heap.size, 1, none⟩ = some (.int .i64 k') := by rw [hA2.cell]; rfl
    have x2 : w2.cell? ⟨w.heap.size, 2, none⟩ = some (.slice d n f) := by rw [(hA1.below hb2).cell]; rfl
    have y2 : w2.cell? ⟨w1.heap.size, 2, none⟩ = some (.slice d' n' f') := by rw [hA2.cell]; rfl
    have hB2 : Below w.heap.size w w2 := hb1.trans (hb2.mono hb1.size)
    go_wp2_with (first
      | (go_at_call 27; refine (Q27.out _ hB2).mono ?_; rintro _ w3 ⟨rfl, hb3⟩; refine Hid.out ?_))
    refine hidU ?_
    have HA : Hid (At 25 w3 w.heap.size [.slice a nl c, .int .i64 k, .slice d n f] ∧ At 25 w3 w1.heap.size [.slice a' nl' c', .int .i64 k', .slice d' n' f']) := ⟨(hA1.below hb2).below hb3, hA2.below hb3⟩
    have hB3 : Below w.heap.size w w3 := hB2.trans (hb3.mono hB2.size)
    have l01 : w.heap.size < w3.heap.size := HA.out.1.lt
    have l11 : w1.heap.size < w3.heap.size := HA.out.2.lt
    clear hA1 hA2 hb1 hb2 hb3 hB2 x0 x1 x2 y0 y1 y2 Q27
    have x1 : w3.cell? ⟨w.heap.size, 1, none⟩ = some (.int .i64 k) := by rw [HA.out.1.cell]; rfl
    have y1 : w3.cell? ⟨w1.heap.size, 1, none⟩ = some (.int .i64 k') := by rw [HA.out.2.cell]; rfl
    have x2 : w3.cell? ⟨w.heap.size, 2, none⟩ = some (.slice d n f) := by rw [HA.out.1.cell]; rfl
    have y2 : w3.cell? ⟨w1.heap.size, 2, none⟩ = some (.slice d' n' f') := by rw [HA.out.2.cell]; rfl

    go_wp2
    go_ret
    exact ⟨by first | (rw [hRf]; rfl) | rfl, hB3⟩

  | true =>
    by_cases h_k : k = k'
    · subst h_k
      by_cases hnn : n = n'
      · subst hnn
        have HRd : Hid (zs.map BT.bd ≠ zs'.map BT.bd → R = false) := fun h => by
          rw [hR.out, decide_eq_false_iff_not]
          intro hh
          injection hh with h1 h2 h3
          exact h h3
        have HRt : Hid (zs.map BT.bd = zs'.map BT.bd → R = true) := fun h => by
          rw [hR.out, decide_eq_true_iff]
          show (⟨ls, k, zs.map BT.bd⟩ : Cd) = ⟨ls', k, zs'.map BT.bd⟩
          rw [h, of_decide_eq_true hb1.out.symm]
        clear hR hb1
        go_enter Try.func10, Try.ntmps10
        go_wp2_with (first
          | ((with_reducible show wpList _ _ _ _ _ _); refine wpList_box_at rfl 25 (.tmp 0) rfl [.slice a nl c, .int .i64 k, .slice d n f] rfl ?_; intro w1 hA1 hb1 hs1; clear hs1)
          | ((with_reducible show wpList _ _ _ _ _ _); refine wpList_box_at rfl 25 (.tmp 1) rfl [.slice a' nl' c', .int .i64 k, .slice d' n f'] rfl ?_; intro w2 hA2 hb2 hs2; clear hs2; refine Hid.out ?_))
        refine hidU ?_
        have x0 : w2.cell? ⟨w.heap.size, 0, none⟩ = some (.slice a nl c) := by rw [(hA1.below hb2).cell]; rfl
        have y0 : w2.cell? ⟨w1.heap.size, 0, none⟩ = some (.slice a' nl' c') := by rw [hA2.cell]; rfl
        have x1 : w2.cell? ⟨w.heap.size, 1, none⟩ = some (.int .i64 k) := by rw [(hA1.below hb2).cell]; rfl
        have y1 : w2.cell? ⟨w1.heap.size, 1, none⟩ = some (.int .i64 k) := by rw [hA2.cell]; rfl
        have x2 : w2.cell? ⟨w.heap.size, 2, none⟩ = some (.slice d n f) := by rw [(hA1.below hb2).cell]; rfl
        have y2 : w2.cell? ⟨w1.heap.size, 2, none⟩ = some (.slice d' n f') := by rw [hA2.cell]; rfl
        have hB2 : Below w.heap.size w w2 := hb1.trans (hb2.mono hb1.size)
        go_wp2_with (first
          | (go_at_call 27; refine (Q27.out _ hB2).mono ?_; rintro _ w3 ⟨rfl, hb3⟩; refine Hid.out ?_))
        refine hidU ?_
        have HA : Hid (At 25 w3 w.heap.size [.slice a nl c, .int .i64 k, .slice d n f] ∧ At 25 w3 w1.heap.size [.slice a' nl' c', .int .i64 k, .slice d' n f']) := ⟨(hA1.below hb2).below hb3, hA2.below hb3⟩
        have hB3 : Below w.heap.size w w3 := hB2.trans (hb3.mono hB2.size)
        have l01 : w.heap.size < w3.heap.size := HA.out.1.lt
        have l11 : w1.heap.size < w3.heap.size := HA.out.2.lt
        clear hA1 hA2 hb1 hb2 hb3 hB2 x0 x1 x2 y0 y1 y2 Q27
        have x1 : w3.cell? ⟨w.heap.size, 1, none⟩ = some (.int .i64 k) := by rw [HA.out.1.cell]; rfl
        have y1 : w3.cell? ⟨w1.heap.size, 1, none⟩ = some (.int .i64 k) := by rw [HA.out.2.cell]; rfl
        have x2 : w3.cell? ⟨w.heap.size, 2, none⟩ = some (.slice d n f) := by rw [HA.out.1.cell]; rfl
        have y2 : w3.cell? ⟨w1.heap.size, 2, none⟩ = some (.slice d' n f') := by rw [HA.out.2.cell]; rfl

        go_wp2_with fail
        clear x1 x2 y1 y2
        go_loopw [5] (fun j wr => ∃ i : Nat, j = .int .i64 (i : Int) ∧ i ≤ n ∧ Hid (Below w3.heap.size w3 wr ∧ ∀ q, q < i → (zs.map BT.bd)[q]? = (zs'.map BT.bd)[q]?)) (fun j _ => n - (intOf j).toNat)
        case atStart => exact ⟨0, rfl, by omega, Below.refl _ _, fun q hq => by omega⟩
        case round =>
          obtain ⟨i, rfl, hi, hX⟩ := hrel
          obtain ⟨wo, hwo⟩ : ∃ x, x = wr := ⟨_, rfl⟩
          subst hwo
          obtain ⟨hwr3, hall⟩ := hX.out
          have hwo : Below w.heap.size w wo := hB3.trans (hwr3.mono hB3.size)
          have u2 : wo.cell? ⟨w.heap.size, 2, none⟩ = some (.slice d n f) := by rw [(HA.out.1.below hwr3).cell]; rfl
          have v2 : wo.cell? ⟨w1.heap.size, 2, none⟩ = some (.slice d' n f') := by rw [(HA.out.2.below hwr3).cell]; rfl
          by_cases hc : i < n
          · obtain ⟨X, hX1⟩ : ∃ k, zs[i]? = some k := ⟨zs[i]'(by rw [← hn.out]; exact hc), by rw [List.getElem?_eq_getElem]⟩
            obtain ⟨Y, hY1⟩ : ∃ k, zs'[i]? = some k := ⟨zs'[i]'(by rw [← hn2.out]; exact hc), by rw [List.getElem?_eq_getElem]⟩
            have hold : Old B w wo := Old.of_below hwo hBw
            obtain ⟨g1, o1, rfl, hg1, hr1, hi1⟩ := (RowBT.old HR.out.1 hold).at i X hX1
            obtain ⟨g2, o2, rfl, hg2, hr2, hi2⟩ := (RowBT.old HR.out.2 hold).at i Y hY1
            have one1' := X.one
            have one2' := Y.one
            have HXY : Hid ((zs.map BT.bd)[i]? = some X.bd ∧ (zs'.map BT.bd)[i]? = some Y.bd) := ⟨by rw [List.getElem?_map, hX1]; rfl, by rw [List.getElem?_map, hY1]; rfl⟩
            have HAl : Hid (∀ q, q < i → (zs.map BT.bd)[q]? = (zs'.map BT.bd)[q]?) := hall
            have QV' : Hid (∀ u, Below wo.heap.size wo u → Calls Try.prog 27 #[.slice X.a1 X.locals.length X.c1, .slice Y.a1 Y.locals.length Y.c1] u fun e w' => e = .returned (.bool (decide (X.locals = Y.locals))) ∧ Below u.heap.size u w') := fun u hu => equal27_any B _ _ _ _ _ _ u (RowVl.old hi1.1 (Old.of_below hu (by have := hwo.size; omega))) (RowVl.old hi2.1 (Old.of_below hu (by have := hwo.size; omega))) (by have := hu.size; have := hwo.size; omega)
            have HN : Hid (RowNT B wo X.a2 X.c2 X.nodes ∧ RowNT B wo Y.a2 Y.c2 Y.nodes) := ⟨hi1.2.2, hi2.2.2⟩
            have hlm1 := hi1.2.2.1
            have hlm2 := hi2.2.2.1
            have hcm1 := hi1.2.2.2.1
            have hcm2 := hi2.2.2.2.1
            clear hX hall hold HR hi1 hi2 hX1 hY1
            have HRf : Hid (X.bd ≠ Y.bd → R = false) := fun h => HRd.out fun hh => by
              have h1 := HXY.out.1
              rw [hh, HXY.out.2] at h1
              exact h (Option.some.inj h1).symm
            obtain ⟨p, pc, vs, s, e, ec, ns⟩ := X
            obtain ⟨p', pc', vs', s', e', ec', ns'⟩ := Y
            have HRV : Hid (vs ≠ vs' → R = false) := fun h => HRf.out fun hh => by injection hh with h1 h2 h3; exact h h1
            have HRS : Hid (s ≠ s' → R = false) := fun h => HRf.out fun hh => by injection hh with h1 h2 h3; exact h h2
            have HRN : Hid (ns.map NT.nd ≠ ns'.map NT.nd → R = false) := fun h => HRf.out fun hh => by injection hh with h1 h2 h3; exact h h3
            have HRA : Hid (vs = vs' → s = s' → ns.map NT.nd = ns'.map NT.nd → ∀ q, q < i + 1 → (zs.map BT.bd)[q]? = (zs'.map BT.bd)[q]?) := fun h1 h2 h3 q hq => by
              by_cases hqi : q = i
              · subst hqi
                rw [HXY.out.1, HXY.out.2]
                show some (⟨vs, s, ns.map NT.nd⟩ : Bd) = some ⟨vs', s', ns'.map NT.nd⟩
                rw [h1, h2, h3]
              · exact HAl.out q (by omega)
            clear HRf HAl HXY
            simp only [BT.cells] at hr1 hr2 one1' one2'
            dsimp only at QV' HN hlm1 hlm2 hcm1 hcm2
            obtain ⟨z1, hz1⟩ : ∃ b, Hid (b = decide (vs = vs')) := ⟨_, (rfl : decide _ = _)⟩
            rw [← hz1.out] at QV'
            obtain ⟨lv, hlv⟩ : ∃ q, Hid (q = vs.length) := ⟨_, (rfl : vs.length = _)⟩
            obtain ⟨lv', hlv2⟩ : ∃ q, Hid (q = vs'.length) := ⟨_, (rfl : vs'.length = _)⟩
            obtain ⟨m, hm⟩ : ∃ q, Hid (q = ns.length) := ⟨_, (rfl : ns.length = _)⟩
            obtain ⟨m', hm2⟩ : ∃ q, Hid (q = ns'.length) := ⟨_, (rfl : ns'.length = _)⟩
            rw [← hlv.out, ← hlv2.out] at QV'
            rw [← hlv.out, ← hm.out] at hr1 one1'
            rw [← hlv2.out, ← hm2.out] at hr2 one2'
            rw [← hm.out] at hlm1 hcm1
            rw [← hm2.out] at hlm2 hcm2
            have one1 : ∀ x ∈ ([.slice p lv pc, .int .i64 s, .slice e m ec] : List Value), x.oneCell' = true := one1'
            have one2 : ∀ x ∈ ([.slice p' lv' pc', .int .i64 s', .slice e' m' ec'] : List Value), x.oneCell' = true := one2'
            have QV : Hid (∀ u, Below wo.heap.size wo u → Calls Try.prog 27 #[.slice p lv pc, .slice p' lv' pc'] u fun e w' => e = .returned (.bool z1) ∧ Below u.heap.size u w') := QV'
            have p0 : wo.cell? ⟨g1, o1 + i * 3, none⟩ = some (.slice p lv pc) := by have := hr1 0 _ rfl; simpa using this
            have p1 : wo.cell? ⟨g1, o1 + i * 3 + 1, none⟩ = some (.int .i64 s) := hr1 1 _ rfl
            have p2 : wo.cell? ⟨g1, o1 + i * 3 + 2, none⟩ = some (.slice e m ec) := hr1 2 _ rfl
            have q0 : wo.cell? ⟨g2, o2 + i * 3, none⟩ = some (.slice p' lv' pc') := by have := hr2 0 _ rfl; simpa using this
            have q1 : wo.cell? ⟨g2, o2 + i * 3 + 1, none⟩ = some (.int .i64 s') := hr2 1 _ rfl
            have q2 : wo.cell? ⟨g2, o2 + i * 3 + 2, none⟩ = some (.slice e' m' ec') := hr2 2 _ rfl
            clear hr1 hr2 QV' one1' one2'
            go_wp2_with fail
            have hS0 : Below wo.heap.size wo wo.drew := Below.drew (Below.refl _ _)
            refine wp_region_held_drew (S := fun x => Below wo.heap.size wo x) (by kernel_rfl) hS0 (fun _ => ?_)
            refine wpAnyH_take (i := 0) (oi := { dst := some 38, op := .fieldAddr 25 (.tmp 2) 2, type := _, pos := _, after := _, guard := none }) (v := .pointer (some ⟨w.heap.size, 2, none⟩)) rfl (by kernel_rfl) (by kernel_rfl) (by kernel_rfl) (fun _ _ _ h => h) (Or.inl ⟨by rfl, ?_⟩) hS0 ?_
            · intro wS hSw
              go_simp
            simp only [Act.put, List.setIfInBounds_toArray, List.set_cons_zero, List.set_cons_succ]
            refine wpAnyH_take (i := 1) (oi := { dst := some 39, op := .load 23 (.tmp 38), type := _, pos := _, after := _, guard := none }) (v := .slice (some ⟨g1, o1, none⟩) n f) rfl (by kernel_rfl) (by kernel_rfl) (by kernel_rfl) (fun _ _ _ h => h) (Or.inl ⟨by rfl, ?_⟩) hS0 ?_
            · intro wS hSw
              have z0 := (hSw.cell (lt_of_cell u2)).trans u2
              go_simp
            simp only [Act.put, List.setIfInBounds_toArray, List.set_cons_zero, List.set_cons_succ]
            refine wpAnyH_take (i := 2) (oi := { dst := some 40, op := .move (.tmp 5), type := _, pos := _, after := _, guard := none }) (v := .int .i64 (i : Int)) rfl (by kernel_rfl) (by kernel_rfl) (by kernel_rfl) (fun _ _ _ h => h) (Or.inl ⟨by rfl, ?_⟩) hS0 ?_
            · intro wS hSw
              go_simp
            simp only [Act.put, List.setIfInBounds_toArray, List.set_cons_zero, List.set_cons_succ]
            refine wpAnyH_take (i := 3) (oi := { dst := some 41, op := .indexAddr 23 (.tmp 39) (.tmp 40), type := _, pos := _, after := _, guard := none }) (v := .pointer (some ⟨g1, o1 + i * 3, none⟩)) rfl (by kernel_rfl) (by kernel_rfl) (by kernel_rfl) (fun _ _ _ h => h) (Or.inl ⟨by rfl, ?_⟩) hS0 ?_
            · intro wS hSw
              go_simp
            simp only [Act.put, List.setIfInBounds_toArray, List.set_cons_zero, List.set_cons_succ]
            refine wpAnyH_take (i := 4) (oi := { dst := some 42, op := .load 45 (.tmp 41), type := _, pos := _, after := _, guard := none }) (v := .agg #[.slice p lv pc, .int .i64 s, .slice e m ec]) rfl (by kernel_rfl) (by kernel_rfl) (by kernel_rfl) (fun _ _ _ h => h) (Or.inl ⟨by rfl, ?_⟩) hS0 ?_
            · intro wS hSw
              have z0 := (hSw.cell (lt_of_cell p0)).trans p0
              have z1 := (hSw.cell (lt_of_cell p1)).trans p1
              have z2 := (hSw.cell (lt_of_cell p2)).trans p2
              go_simp
            simp only [Act.put, List.setIfInBounds_toArray, List.set_cons_zero, List.set_cons_succ]
            refine wpAnyH_take (i := 5) (oi := { dst := some 43, op := .fieldAddr 25 (.tmp 3) 2, type := _, pos := _, after := _, guard := none }) (v := .pointer (some ⟨w1.heap.size, 2, none⟩)) rfl (by kernel_rfl) (by kernel_rfl) (by kernel_rfl) (fun _ _ _ h => h) (Or.inl ⟨by rfl, ?_⟩) hS0 ?_
            · intro wS hSw
              go_simp
            simp only [Act.put, List.setIfInBounds_toArray, List.set_cons_zero, List.set_cons_succ]
            refine wpAnyH_take (i := 6) (oi := { dst := some 44, op := .load 23 (.tmp 43), type := _, pos := _, after := _, guard := none }) (v := .slice (some ⟨g2, o2, none⟩) n f') rfl (by kernel_rfl) (by kernel_rfl) (by kernel_rfl) (fun _ _ _ h => h) (Or.inl ⟨by rfl, ?_⟩) hS0 ?_
            · intro wS hSw
              have z0 := (hSw.cell (lt_of_cell v2)).trans v2
              go_simp
            simp only [Act.put, List.setIfInBounds_toArray, List.set_cons_zero, List.set_cons_succ]
            refine wpAnyH_take (i := 7) (oi := { dst := some 45, op := .move (.tmp 5), type := _, pos := _, after := _, guard := none }) (v := .int .i64 (i : Int)) rfl (by kernel_rfl) (by kernel_rfl) (by kernel_rfl) (fun _ _ _ h => h) (Or.inl ⟨by rfl, ?_⟩) hS0 ?_
            · intro wS hSw
              go_simp
            simp only [Act.put, List.setIfInBounds_toArray, List.set_cons_zero, List.set_cons_succ]
            refine wpAnyH_take (i := 8) (oi := { dst := some 46, op := .indexAddr 23 (.tmp 44) (.tmp 45), type := _, pos := _, after := _, guard := none }) (v := .pointer (some ⟨g2, o2 + i * 3, none⟩)) rfl (by kernel_rfl) (by kernel_rfl) (by kernel_rfl) (fun _ _ _ h => h) (Or.inl ⟨by rfl, ?_⟩) hS0 ?_
            · intro wS hSw
              go_simp
            simp only [Act.put, List.setIfInBounds_toArray, List.set_cons_zero, List.set_cons_succ]
            refine wpAnyH_take (i := 9) (oi := { dst := some 47, op := .load 45 (.tmp 46), type := _, pos := _, after := _, guard := none }) (v := .agg #[.slice p' lv' pc', .int .i64 s', .slice e' m' ec']) rfl (by kernel_rfl) (by kernel_rfl) (by kernel_rfl) (fun _ _ _ h => h) (Or.inl ⟨by rfl, ?_⟩) hS0 ?_
            · intro wS hSw
              have z0 := (hSw.cell (lt_of_cell q0)).trans q0
              have z1 := (hSw.cell (lt_of_cell q1)).trans q1
              have z2 := (hSw.cell (lt_of_cell q2)).trans q2
              go_simp
            simp only [Act.put, List.setIfInBounds_toArray, List.set_cons_zero, List.set_cons_succ]

            clear p0 p1 p2 q0 q1 q2 u2 v2
            refine wpAnyH_ready (rs := [10, 11]) (by kernel_rfl) (by simp) ?_
            refine AllReadyH.cons (o := { dst := some 6, op := .alloc 45, type := _, pos := _, after := _, guard := none }) rfl (fun K hK => ?_) (AllReadyH.cons (o := { dst := some 7, op := .alloc 45, type := _, pos := _, after := _, guard := none }) rfl (fun K hK => ?_) AllReadyH.nil)
            · skip
              rw [if_pos (by rfl)]
              refine wp_alloc_at (P := Try.prog) 45 rfl _ 3 z45 ?_
              intro v1 hV1 hbv1 hsv1
              have hS1 := hS0.trans (hbv1.mono hS0.size)
              refine hK.out _ _ hS1 (fun _ => ?_)
              clear hK K
              refine wpAnyH_ready (rs := [11]) (by kernel_rfl) (by simp) ?_
              refine AllReadyH.cons (o := { dst := some 7, op := .alloc 45, type := _, pos := _, after := _, guard := none }) rfl (fun K hK => ?_) AllReadyH.nil
              rw [if_pos (by rfl)]
              refine wp_alloc_at (P := Try.prog) 45 rfl _ 3 z45 ?_
              intro v2 hV2 hbv2 hsv2
              have hS2 := hS1.trans (hbv2.mono hS1.size)
              refine hK.out _ _ hS2 (fun _ => ?_)
              clear hK K
              have hd : wo.drew.heap.size = wo.heap.size := rfl
              have hV1 : At 45 v1 wo.heap.size _ := hV1
              have hX2 := (hV1.below hbv2)
              have hY2 := hV2
              refine wpAnyH_ready (rs := [12]) (by kernel_rfl) (by simp) ?_
              refine AllReadyH.cons (o := { dst := none, op := .store 45 (.tmp 6) (.tmp 42), type := _, pos := _, after := _, guard := none }) rfl (fun K hK => ?_) AllReadyH.nil
              rw [if_pos (by rfl)]
              refine wp_store_mid (P := Try.prog) 45 (.tmp 6) (.tmp 42) rfl (wo.heap.size) 0 ([.slice p lv pc, .int .i64 s, .slice e m ec] : List Value).toArray rfl rfl (hX2.there 0 _ (Nat.le_refl _)) i45 (all_oneCell_toArray one1) ?_
              obtain ⟨v3, hv3⟩ : ∃ v, v = v2.setCells (wo.heap.size) 0 ([.slice p lv pc, .int .i64 s, .slice e m ec] : List Value).toArray.toList := ⟨_, rfl⟩
              have hBu3 : But (wo.heap.size) v2 v3 := by rw [hv3]; exact But.setCells _ _ _ (But.refl _ _)
              have hX3 : At 45 v3 (wo.heap.size) [.slice p lv pc, .int .i64 s, .slice e m ec] := by rw [hv3]; exact At.setCells [.slice p lv pc, .int .i64 s, .slice e m ec] 0 _ _ hX2 (Nat.le_refl _)
              have hsz3 : v3.heap.size = v2.heap.size := by rw [hv3]; exact setCells_hs _ _ _ _
              have hY3 := hBu3.at hY2 (by omega)
              have hS3 : Below wo.heap.size wo v3 := hBu3.below hS2 (by omega) hS2.size
              rw [← hv3]
              clear hv3
              refine hK.out _ _ hS3 (fun _ => ?_)
              clear hK K
              refine wpAnyH_ready (rs := [13]) (by kernel_rfl) (by simp) ?_
              refine AllReadyH.cons (o := { dst := none, op := .store 45 (.tmp 7) (.tmp 47), type := _, pos := _, after := _, guard := none }) rfl (fun K hK => ?_) AllReadyH.nil
              rw [if_pos (by rfl)]
              refine wp_store_mid (P := Try.prog) 45 (.tmp 7) (.tmp 47) rfl (v1.heap.size) 0 ([.slice p' lv' pc', .int .i64 s', .slice e' m' ec'] : List Value).toArray rfl rfl (hY3.there 0 _ (Nat.le_refl _)) i45 (all_oneCell_toArray one2) ?_
              obtain ⟨v4, hv4⟩ : ∃ v, v = v3.setCells (v1.heap.size) 0 ([.slice p' lv' pc', .int .i64 s', .slice e' m' ec'] : List Value).toArray.toList := ⟨_, rfl⟩
              have hBu4 : But (v1.heap.size) v3 v4 := by rw [hv4]; exact But.setCells _ _ _ (But.refl _ _)
              have hY4 : At 45 v4 (v1.heap.size) [.slice p' lv' pc', .int .i64 s', .slice e' m' ec'] := by rw [hv4]; exact At.setCells [.slice p' lv' pc', .int .i64 s', .slice e' m' ec'] 0 _ _ hY3 (Nat.le_refl _)
              have hX4 := hBu4.at hX3 (by omega)
              have hS4 : Below wo.heap.size wo v4 := hBu4.below hS3 (by omega) hS3.size
              rw [← hv4]
              clear hv4 hBu3 hBu4 hX3 hY3 hX2 hY2 hV1 hV2 hbv1 hbv2 hsv1 hsv2 hsz3 hd
              refine hK.out _ _ hS4 (fun _ => ?_)
              clear hK K
              refine wpAnyH_done (by kernel_rfl) ?_ _
              have r0_ : v4.cell? ⟨wo.heap.size, 0, none⟩ = some (.slice p lv pc) := by rw [hX4.cell]; rfl
              have s0_ : v4.cell? ⟨v1.heap.size, 0, none⟩ = some (.slice p' lv' pc') := by rw [hY4.cell]; rfl
              have r1_ : v4.cell? ⟨wo.heap.size, 1, none⟩ = some (.int .i64 s) := by rw [hX4.cell]; rfl
              have s1_ : v4.cell? ⟨v1.heap.size, 1, none⟩ = some (.int .i64 s') := by rw [hY4.cell]; rfl
              have r2_ : v4.cell? ⟨wo.heap.size, 2, none⟩ = some (.slice e m ec) := by rw [hX4.cell]; rfl
              have s2_ : v4.cell? ⟨v1.heap.size, 2, none⟩ = some (.slice e' m' ec') := by rw [hY4.cell]; rfl
              go_wp2_with (first
                | (go_at_call 27; refine (QV.out _ hS4).mono ?_; rintro _ v5 ⟨rfl, hb5⟩; refine Hid.out ?_))
              refine hidU ?_
              have HG5 : Hid (At 45 v5 (wo.heap.size) [.slice p lv pc, .int .i64 s, .slice e m ec] ∧ At 45 v5 (v1.heap.size) [.slice p' lv' pc', .int .i64 s', .slice e' m' ec']) := ⟨hX4.below hb5, hY4.below hb5⟩
              have hS5 : Below wo.heap.size wo v5 := hS4.trans (hb5.mono hS4.size)
              clear hX4 hY4 hb5 hS4 r0_ r1_ r2_ s0_ s1_ s2_ QV
              have r1_ : v5.cell? ⟨wo.heap.size, 1, none⟩ = some (.int .i64 s) := by rw [HG5.out.1.cell]; rfl
              have s1_ : v5.cell? ⟨v1.heap.size, 1, none⟩ = some (.int .i64 s') := by rw [HG5.out.2.cell]; rfl
              have r2_ : v5.cell? ⟨wo.heap.size, 2, none⟩ = some (.slice e m ec) := by rw [HG5.out.1.cell]; rfl
              have s2_ : v5.cell? ⟨v1.heap.size, 2, none⟩ = some (.slice e' m' ec') := by rw [HG5.out.2.cell]; rfl
              cases z1 with
              | false =>
                have hRf : R = false := HRV.out (of_decide_eq_false hz1.out.symm)
                go_wp2
                go_ret
                exact ⟨by first | (rw [hRf]; rfl) | rfl, hwo.trans (hS5.mono hwo.size)⟩
              | true =>
                by_cases hss : s = s'
                · subst hss
                  by_cases hmm : m = m'
                  · subst hmm
                    have HRF : Hid (ns.map NT.nd ≠ ns'.map NT.nd → R = false) := fun h => HRN.out h
                    have HRT : Hid (ns.map NT.nd = ns'.map NT.nd → ∀ q, q < i + 1 → (zs.map BT.bd)[q]? = (zs'.map BT.bd)[q]?) := fun h => HRA.out (of_decide_eq_true hz1.out.symm) rfl h
                    clear HRV HRS HRN HRA
                    go_wp2_with fail
                    clear r1_ r2_ s1_ s2_
                    go_loopw [8] (fun j wr => ∃ t : Nat, j = .int .i64 (t : Int) ∧ t ≤ m ∧ Hid (Below v5.heap.size v5 wr ∧ ∀ q, q < t → (ns.map NT.nd)[q]? = (ns'.map NT.nd)[q]?)) (fun j _ => m - (intOf j).toNat)
                    case atStart => exact ⟨0, rfl, by omega, Below.refl _ _, fun q hq => by omega⟩
                    case round =>
                      obtain ⟨t, rfl, ht, hY⟩ := hrel
                      obtain ⟨hbr, hal⟩ := hY.out
                      have rr : wr.cell? ⟨wo.heap.size, 2, none⟩ = some (.slice e m ec) := by rw [(HG5.out.1.below hbr).cell]; rfl
                      have ss : wr.cell? ⟨v1.heap.size, 2, none⟩ = some (.slice e' m ec') := by rw [(HG5.out.2.below hbr).cell]; rfl
                      have hSr : Below wo.heap.size wo wr := hS5.trans (hbr.mono hS5.size)
                      by_cases hct : t < m
                      · obtain ⟨U, hU⟩ : ∃ k, ns[t]? = some k := ⟨ns[t]'(by rw [← hm.out]; exact hct), by rw [List.getElem?_eq_getElem]⟩
                        obtain ⟨V, hV⟩ : ∃ k, ns'[t]? = some k := ⟨ns'[t]'(by rw [← hm2.out]; exact hct), by rw [List.getElem?_eq_getElem]⟩
                        have hold : Old B wo wr := Old.of_below hSr (by have := hwo.size; omega)
                        obtain ⟨h1, r1, rfl, hh1, hr1, hi1⟩ := (RowNT.old HN.out.1 hold).at t U hU
                        obtain ⟨h2, r2, rfl, hh2, hr2, hi2⟩ := (RowNT.old HN.out.2 hold).at t V hV
                        obtain ⟨Z, hZ⟩ : ∃ Z, Hid (Z = decide (U.nd = V.nd)) := ⟨_, (rfl : decide _ = _)⟩
                        have HC : Hid (∀ u, Below wr.heap.size wr u → Calls Try.prog 28 #[.agg U.cells.toArray, .agg V.cells.toArray] u fun e w' => e = .returned (.bool Z) ∧ Below u.heap.size u w') := fun u hu => by
                          rw [hZ.out]
                          exact kitNode_any B U V u (hi1.old (Old.of_below hu (by have := hSr.size; have := hwo.size; omega))) (hi2.old (Old.of_below hu (by have := hSr.size; have := hwo.size; omega))) (by have := hu.size; have := hSr.size; have := hwo.size; omega)
                        obtain ⟨U0, U1, U2, U3, U4, hUc⟩ : ∃ U0 U1 U2 U3 U4, Hid (U.cells = [U0, U1, U2, U3, U4]) := ⟨_, _, _, _, _, (rfl : U.cells = _)⟩
                        obtain ⟨V0, V1, V2, V3, V4, hVc⟩ : ∃ V0 V1 V2 V3 V4, Hid (V.cells = [V0, V1, V2, V3, V4]) := ⟨_, _, _, _, _, (rfl : V.cells = _)⟩
                        rw [hUc.out] at HC hr1
                        rw [hVc.out] at HC hr2
                        have a0 : wr.cell? ⟨h1, r1 + t * 5, none⟩ = some U0 := by have := hr1 0 _ rfl; simpa using this
                        have a1 : wr.cell? ⟨h1, r1 + t * 5 + 1, none⟩ = some U1 := hr1 1 _ rfl
                        have a2 : wr.cell? ⟨h1, r1 + t * 5 + 2, none⟩ = some U2 := hr1 2 _ rfl
                        have a3 : wr.cell? ⟨h1, r1 + t * 5 + 3, none⟩ = some U3 := hr1 3 _ rfl
                        have a4 : wr.cell? ⟨h1, r1 + t * 5 + 4, none⟩ = some U4 := hr1 4 _ rfl
                        have b0 : wr.cell? ⟨h2, r2 + t * 5, none⟩ = some V0 := by have := hr2 0 _ rfl; simpa using this
                        have b1 : wr.cell? ⟨h2, r2 + t * 5 + 1, none⟩ = some V1 := hr2 1 _ rfl
                        have b2 : wr.cell? ⟨h2, r2 + t * 5 + 2, none⟩ = some V2 := hr2 2 _ rfl
                        have b3 : wr.cell? ⟨h2, r2 + t * 5 + 3, none⟩ = some V3 := hr2 3 _ rfl
                        have b4 : wr.cell? ⟨h2, r2 + t * 5 + 4, none⟩ = some V4 := hr2 4 _ rfl
                        have HUV : Hid ((ns.map NT.nd)[t]? = some U.nd ∧ (ns'.map NT.nd)[t]? = some V.nd) := ⟨by rw [List.getElem?_map, hU]; rfl, by rw [List.getElem?_map, hV]; rfl⟩
                        have HAl2 : Hid (∀ q, q < t → (ns.map NT.nd)[q]? = (ns'.map NT.nd)[q]?) := hal
                        clear hY hal hold hr1 hr2 hi1 hi2 hU hV HN HG5
                        cases Z with
                        | false =>
                          have hRf : R = false := HRF.out fun h => by
                            have h1 := HUV.out.1
                            rw [h, HUV.out.2] at h1
                            exact of_decide_eq_false hZ.out.symm (Option.some.inj h1).symm
                          go_wp2_with fail
                          have hS0 : Below wr.heap.size wr wr.drew := Below.drew (Below.refl _ _)
                          refine wp_region_held_drew (S := fun x => Below wr.heap.size wr x) (by kernel_rfl) hS0 (fun _ => ?_)
                          refine wpAnyH_take (i := 0) (oi := { dst := some 77, op := .fieldAddr 45 (.tmp 6) 2, type := _, pos := _, after := _, guard := none }) (v := .pointer (some ⟨wo.heap.size, 2, none⟩)) rfl (by kernel_rfl) (by kernel_rfl) (by kernel_rfl) (fun _ _ _ h => h) (Or.inl ⟨by rfl, ?_⟩) hS0 ?_
                          · intro wS hSw
                            go_simp
                          simp only [Act.put, List.setIfInBounds_toArray, List.set_cons_zero, List.set_cons_succ]
                          refine wpAnyH_take (i := 1) (oi := { dst := some 78, op := .load 43 (.tmp 77), type := _, pos := _, after := _, guard := none }) (v := .slice (some ⟨h1, r1, none⟩) m ec) rfl (by kernel_rfl) (by kernel_rfl) (by kernel_rfl) (fun _ _ _ h => h) (Or.inl ⟨by rfl, ?_⟩) hS0 ?_
                          · intro wS hSw
                            have z0 := (hSw.cell (lt_of_cell rr)).trans rr
                            go_simp
                          simp only [Act.put, List.setIfInBounds_toArray, List.set_cons_zero, List.set_cons_succ]
                          refine wpAnyH_take (i := 2) (oi := { dst := some 79, op := .move (.tmp 8), type := _, pos := _, after := _, guard := none }) (v := .int .i64 (t : Int)) rfl (by kernel_rfl) (by kernel_rfl) (by kernel_rfl) (fun _ _ _ h => h) (Or.inl ⟨by rfl, ?_⟩) hS0 ?_
                          · intro wS hSw
                            go_simp
                          simp only [Act.put, List.setIfInBounds_toArray, List.set_cons_zero, List.set_cons_succ]
                          refine wpAnyH_take (i := 3) (oi := { dst := some 80, op := .indexAddr 43 (.tmp 78) (.tmp 79), type := _, pos := _, after := _, guard := none }) (v := .pointer (some ⟨h1, r1 + t * 5, none⟩)) rfl (by kernel_rfl) (by kernel_rfl) (by kernel_rfl) (fun _ _ _ h => h) (Or.inl ⟨by rfl, ?_⟩) hS0 ?_
                          · intro wS hSw
                            go_simp
                          simp only [Act.put, List.setIfInBounds_toArray, List.set_cons_zero, List.set_cons_succ]
                          refine wpAnyH_take (i := 4) (oi := { dst := some 81, op := .load 49 (.tmp 80), type := _, pos := _, after := _, guard := none }) (v := .agg #[U0, U1, U2, U3, U4]) rfl (by kernel_rfl) (by kernel_rfl) (by kernel_rfl) (fun _ _ _ h => h) (Or.inl ⟨by rfl, ?_⟩) hS0 ?_
                          · intro wS hSw
                            have z0 := (hSw.cell (lt_of_cell a0)).trans a0
                            have z1 := (hSw.cell (lt_of_cell a1)).trans a1
                            have z2 := (hSw.cell (lt_of_cell a2)).trans a2
                            have z3 := (hSw.cell (lt_of_cell a3)).trans a3
                            have z4 := (hSw.cell (lt_of_cell a4)).trans a4
                            go_simp
                          simp only [Act.put, List.setIfInBounds_toArray, List.set_cons_zero, List.set_cons_succ]
                          refine wpAnyH_take (i := 5) (oi := { dst := some 82, op := .fieldAddr 45 (.tmp 7) 2, type := _, pos := _, after := _, guard := none }) (v := .pointer (some ⟨v1.heap.size, 2, none⟩)) rfl (by kernel_rfl) (by kernel_rfl) (by kernel_rfl) (fun _ _ _ h => h) (Or.inl ⟨by rfl, ?_⟩) hS0 ?_
                          · intro wS hSw
                            go_simp
                          simp only [Act.put, List.setIfInBounds_toArray, List.set_cons_zero, List.set_cons_succ]
                          refine wpAnyH_take (i := 6) (oi := { dst := some 83, op := .load 43 (.tmp 82), type := _, pos := _, after := _, guard := none }) (v := .slice (some ⟨h2, r2, none⟩) m ec') rfl (by kernel_rfl) (by kernel_rfl) (by kernel_rfl) (fun _ _ _ h => h) (Or.inl ⟨by rfl, ?_⟩) hS0 ?_
                          · intro wS hSw
                            have z0 := (hSw.cell (lt_of_cell ss)).trans ss
                            go_simp
                          simp only [Act.put, List.setIfInBounds_toArray, List.set_cons_zero, List.set_cons_succ]
                          refine wpAnyH_take (i := 7) (oi := { dst := some 84, op := .move (.tmp 8), type := _, pos := _, after := _, guard := none }) (v := .int .i64 (t : Int)) rfl (by kernel_rfl) (by kernel_rfl) (by kernel_rfl) (fun _ _ _ h => h) (Or.inl ⟨by rfl, ?_⟩) hS0 ?_
                          · intro wS hSw
                            go_simp
                          simp only [Act.put, List.setIfInBounds_toArray, List.set_cons_zero, List.set_cons_succ]
                          refine wpAnyH_take (i := 8) (oi := { dst := some 85, op := .indexAddr 43 (.tmp 83) (.tmp 84), type := _, pos := _, after := _, guard := none }) (v := .pointer (some ⟨h2, r2 + t * 5, none⟩)) rfl (by kernel_rfl) (by kernel_rfl) (by kernel_rfl) (fun _ _ _ h => h) (Or.inl ⟨by rfl, ?_⟩) hS0 ?_
                          · intro wS hSw
                            go_simp
                          simp only [Act.put, List.setIfInBounds_toArray, List.set_cons_zero, List.set_cons_succ]
                          refine wpAnyH_take (i := 9) (oi := { dst := some 86, op := .load 49 (.tmp 85), type := _, pos := _, after := _, guard := none }) (v := .agg #[V0, V1, V2, V3, V4]) rfl (by kernel_rfl) (by kernel_rfl) (by kernel_rfl) (fun _ _ _ h => h) (Or.inl ⟨by rfl, ?_⟩) hS0 ?_
                          · intro wS hSw
                            have z0 := (hSw.cell (lt_of_cell b0)).trans b0
                            have z1 := (hSw.cell (lt_of_cell b1)).trans b1
                            have z2 := (hSw.cell (lt_of_cell b2)).trans b2
                            have z3 := (hSw.cell (lt_of_cell b3)).trans b3
                            have z4 := (hSw.cell (lt_of_cell b4)).trans b4
                            go_simp
                          simp only [Act.put, List.setIfInBounds_toArray, List.set_cons_zero, List.set_cons_succ]
                          refine wpAnyH_ready (rs := [10]) (by kernel_rfl) (by simp) ?_
                          refine AllReadyH.cons (o := { dst := some 87, op := .call { callee := .value (.func 28), args := #[.tmp 81, .tmp 86], argTypes := #[49, 49] }, type := _, pos := _, after := _, guard := none }) rfl (fun K hK => ?_) AllReadyH.nil
                          rw [if_pos (by rfl)]
                          go_wp2_with (go_at_call 28; refine (HC.out _ hS0).mono ?_; rintro e x1 ⟨rfl, hb1⟩)
                          have hS1 := hS0.trans (hb1.mono hS0.size)
                          refine hK.out _ _ hS1 (fun _ => ?_)
                          clear hK K
                          refine wpAnyH_take (i := 11) (oi := { dst := some 88, op := .unOp .not 4 (.tmp 87), type := _, pos := _, after := _, guard := none }) (v := .bool true) rfl (by kernel_rfl) (by kernel_rfl) (by kernel_rfl) (fun _ _ _ h => h) (Or.inl ⟨by rfl, ?_⟩) hS1 ?_
                          · intro wS hSw
                            go_simp
                          simp only [Act.put, List.setIfInBounds_toArray, List.set_cons_zero, List.set_cons_succ]
                          refine wpAnyH_done (by kernel_rfl) ?_ _

                          go_wp2
                          go_ret
                          exact ⟨by first | (rw [hRf]; rfl) | rfl, hwo.trans ((hSr.trans (hS1.mono hSr.size)).mono hwo.size)⟩
                        | true =>
                          have HM : Hid ((ns.map NT.nd)[t]? = (ns'.map NT.nd)[t]?) := by show _ = _; rw [HUV.out.1, HUV.out.2, of_decide_eq_true hZ.out.symm]
                          go_wp2_with fail
                          have hS0 : Below wr.heap.size wr wr.drew := Below.drew (Below.refl _ _)
                          refine wp_region_held_drew (S := fun x => Below wr.heap.size wr x) (by kernel_rfl) hS0 (fun _ => ?_)
                          refine wpAnyH_take (i := 0) (oi := { dst := some 77, op := .fieldAddr 45 (.tmp 6) 2, type := _, pos := _, after := _, guard := none }) (v := .pointer (some ⟨wo.heap.size, 2, none⟩)) rfl (by kernel_rfl) (by kernel_rfl) (by kernel_rfl) (fun _ _ _ h => h) (Or.inl ⟨by rfl, ?_⟩) hS0 ?_
                          · intro wS hSw
                            go_simp
                          simp only [Act.put, List.setIfInBounds_toArray, List.set_cons_zero, List.set_cons_succ]
                          refine wpAnyH_take (i := 1) (oi := { dst := some 78, op := .load 43 (.tmp 77), type := _, pos := _, after := _, guard := none }) (v := .slice (some ⟨h1, r1, none⟩) m ec) rfl (by kernel_rfl) (by kernel_rfl) (by kernel_rfl) (fun _ _ _ h => h) (Or.inl ⟨by rfl, ?_⟩) hS0 ?_
                          · intro wS hSw
                            have z0 := (hSw.cell (lt_of_cell rr)).trans rr
                            go_simp
                          simp only [Act.put, List.setIfInBounds_toArray, List.set_cons_zero, List.set_cons_succ]
                          refine wpAnyH_take (i := 2) (oi := { dst := some 79, op := .move (.tmp 8), type := _, pos := _, after := _, guard := none }) (v := .int .i64 (t : Int)) rfl (by kernel_rfl) (by kernel_rfl) (by kernel_rfl) (fun _ _ _ h => h) (Or.inl ⟨by rfl, ?_⟩) hS0 ?_
                          · intro wS hSw
                            go_simp
                          simp only [Act.put, List.setIfInBounds_toArray, List.set_cons_zero, List.set_cons_succ]
                          refine wpAnyH_take (i := 3) (oi := { dst := some 80, op := .indexAddr 43 (.tmp 78) (.tmp 79), type := _, pos := _, after := _, guard := none }) (v := .pointer (some ⟨h1, r1 + t * 5, none⟩)) rfl (by kernel_rfl) (by kernel_rfl) (by kernel_rfl) (fun _ _ _ h => h) (Or.inl ⟨by rfl, ?_⟩) hS0 ?_
                          · intro wS hSw
                            go_simp
                          simp only [Act.put, List.setIfInBounds_toArray, List.set_cons_zero, List.set_cons_succ]
                          refine wpAnyH_take (i := 4) (oi := { dst := some 81, op := .load 49 (.tmp 80), type := _, pos := _, after := _, guard := none }) (v := .agg #[U0, U1, U2, U3, U4]) rfl (by kernel_rfl) (by kernel_rfl) (by kernel_rfl) (fun _ _ _ h => h) (Or.inl ⟨by rfl, ?_⟩) hS0 ?_
                          · intro wS hSw
                            have z0 := (hSw.cell (lt_of_cell a0)).trans a0
                            have z1 := (hSw.cell (lt_of_cell a1)).trans a1
                            have z2 := (hSw.cell (lt_of_cell a2)).trans a2
                            have z3 := (hSw.cell (lt_of_cell a3)).trans a3
                            have z4 := (hSw.cell (lt_of_cell a4)).trans a4
                            go_simp
                          simp only [Act.put, List.setIfInBounds_toArray, List.set_cons_zero, List.set_cons_succ]
                          refine wpAnyH_take (i := 5) (oi := { dst := some 82, op := .fieldAddr 45 (.tmp 7) 2, type := _, pos := _, after := _, guard := none }) (v := .pointer (some ⟨v1.heap.size, 2, none⟩)) rfl (by kernel_rfl) (by kernel_rfl) (by kernel_rfl) (fun _ _ _ h => h) (Or.inl ⟨by rfl, ?_⟩) hS0 ?_
                          · intro wS hSw
                            go_simp
                          simp only [Act.put, List.setIfInBounds_toArray, List.set_cons_zero, List.set_cons_succ]
                          refine wpAnyH_take (i := 6) (oi := { dst := some 83, op := .load 43 (.tmp 82), type := _, pos := _, after := _, guard := none }) (v := .slice (some ⟨h2, r2, none⟩) m ec') rfl (by kernel_rfl) (by kernel_rfl) (by kernel_rfl) (fun _ _ _ h => h) (Or.inl ⟨by rfl, ?_⟩) hS0 ?_
                          · intro wS hSw
                            have z0 := (hSw.cell (lt_of_cell ss)).trans ss
                            go_simp
                          simp only [Act.put, List.setIfInBounds_toArray, List.set_cons_zero, List.set_cons_succ]
                          refine wpAnyH_take (i := 7) (oi := { dst := some 84, op := .move (.tmp 8), type := _, pos := _, after := _, guard := none }) (v := .int .i64 (t : Int)) rfl (by kernel_rfl) (by kernel_rfl) (by kernel_rfl) (fun _ _ _ h => h) (Or.inl ⟨by rfl, ?_⟩) hS0 ?_
                          · intro wS hSw
                            go_simp
                          simp only [Act.put, List.setIfInBounds_toArray, List.set_cons_zero, List.set_cons_succ]
                          refine wpAnyH_take (i := 8) (oi := { dst := some 85, op := .indexAddr 43 (.tmp 83) (.tmp 84), type := _, pos := _, after := _, guard := none }) (v := .pointer (some ⟨h2, r2 + t * 5, none⟩)) rfl (by kernel_rfl) (by kernel_rfl) (by kernel_rfl) (fun _ _ _ h => h) (Or.inl ⟨by rfl, ?_⟩) hS0 ?_
                          · intro wS hSw
                            go_simp
                          simp only [Act.put, List.setIfInBounds_toArray, List.set_cons_zero, List.set_cons_succ]
                          refine wpAnyH_take (i := 9) (oi := { dst := some 86, op := .load 49 (.tmp 85), type := _, pos := _, after := _, guard := none }) (v := .agg #[V0, V1, V2, V3, V4]) rfl (by kernel_rfl) (by kernel_rfl) (by kernel_rfl) (fun _ _ _ h => h) (Or.inl ⟨by rfl, ?_⟩) hS0 ?_
                          · intro wS hSw
                            have z0 := (hSw.cell (lt_of_cell b0)).trans b0
                            have z1 := (hSw.cell (lt_of_cell b1)).trans b1
                            have z2 := (hSw.cell (lt_of_cell b2)).trans b2
                            have z3 := (hSw.cell (lt_of_cell b3)).trans b3
                            have z4 := (hSw.cell (lt_of_cell b4)).trans b4
                            go_simp
                          simp only [Act.put, List.setIfInBounds_toArray, List.set_cons_zero, List.set_cons_succ]
                          refine wpAnyH_ready (rs := [10]) (by kernel_rfl) (by simp) ?_
                          refine AllReadyH.cons (o := { dst := some 87, op := .call { callee := .value (.func 28), args := #[.tmp 81, .tmp 86], argTypes := #[49, 49] }, type := _, pos := _, after := _, guard := none }) rfl (fun K hK => ?_) AllReadyH.nil
                          rw [if_pos (by rfl)]
                          go_wp2_with (go_at_call 28; refine (HC.out _ hS0).mono ?_; rintro e x1 ⟨rfl, hb1⟩)
                          have hS1 := hS0.trans (hb1.mono hS0.size)
                          refine hK.out _ _ hS1 (fun _ => ?_)
                          clear hK K
                          refine wpAnyH_take (i := 11) (oi := { dst := some 88, op := .unOp .not 4 (.tmp 87), type := _, pos := _, after := _, guard := none }) (v := .bool false) rfl (by kernel_rfl) (by kernel_rfl) (by kernel_rfl) (fun _ _ _ h => h) (Or.inl ⟨by rfl, ?_⟩) hS1 ?_
                          · intro wS hSw
                            go_simp
                          simp only [Act.put, List.setIfInBounds_toArray, List.set_cons_zero, List.set_cons_succ]
                          refine wpAnyH_done (by kernel_rfl) ?_ _

                          go_wp2
                          go_roundw
                          case rel =>
                            refine ⟨t + 1, by go_num, by omega, hbr.trans (hS1.mono hbr.size), fun q hq => ?_⟩
                            by_cases hqi : q = t
                            · subst hqi
                              exact HM.out
                            · exact HAl2.out q (by omega)
                          case measure => simp [intOf]; omega
                      · have htm : t = m := by omega
                        have HFin : Hid (∀ q, q < i + 1 → (zs.map BT.bd)[q]? = (zs'.map BT.bd)[q]?) := HRT.out (list_ext (n := m) (by rw [List.length_map]; exact hm.out.symm) (by rw [List.length_map]; exact hm2.out.symm) (fun q hq => hal q (by omega)))
                        clear hY HN HG5 HRF HRT
                        go_wp2
                        go_roundw
                        case rel => exact ⟨i + 1, by go_num, by omega, hwr3.trans (hSr.mono hwr3.size), HFin.out⟩
                        case measure => simp [intOf]; omega

                  · have hRf : R = false := HRN.out fun h => by
                      have := congrArg List.length h
                      rw [List.length_map, List.length_map] at this
                      exact hmm (by rw [hm.out, hm2.out, this])
                    have e1 : ((m : Int) != (m' : Int)) = true := by rw [bne_iff_ne]; omega
                    clear hmm
                    go_wp2
                    go_ret
                    exact ⟨by first | (rw [hRf]; rfl) | rfl, hwo.trans (hS5.mono hwo.size)⟩
                · have hRf : R = false := HRS.out hss
                  have e1 : (s != s') = true := by rw [bne_iff_ne]; exact hss
                  clear hss
                  go_wp2
                  go_ret
                  exact ⟨by first | (rw [hRf]; rfl) | rfl, hwo.trans (hS5.mono hwo.size)⟩

            · skip
              rw [if_pos (by rfl)]
              refine wp_alloc_at (P := Try.prog) 45 rfl _ 3 z45 ?_
              intro v1 hV1 hbv1 hsv1
              have hS1 := hS0.trans (hbv1.mono hS0.size)
              refine hK.out _ _ hS1 (fun _ => ?_)
              clear hK K
              refine wpAnyH_ready (rs := [10]) (by kernel_rfl) (by simp) ?_
              refine AllReadyH.cons (o := { dst := some 6, op := .alloc 45, type := _, pos := _, after := _, guard := none }) rfl (fun K hK => ?_) AllReadyH.nil
              rw [if_pos (by rfl)]
              refine wp_alloc_at (P := Try.prog) 45 rfl _ 3 z45 ?_
              intro v2 hV2 hbv2 hsv2
              have hS2 := hS1.trans (hbv2.mono hS1.size)
              refine hK.out _ _ hS2 (fun _ => ?_)
              clear hK K
              have hd : wo.drew.heap.size = wo.heap.size := rfl
              have hV1 : At 45 v1 wo.heap.size _ := hV1
              have hX2 := hV2
              have hY2 := (hV1.below hbv2)
              refine wpAnyH_ready (rs := [12]) (by kernel_rfl) (by simp) ?_
              refine AllReadyH.cons (o := { dst := none, op := .store 45 (.tmp 6) (.tmp 42), type := _, pos := _, after := _, guard := none }) rfl (fun K hK => ?_) AllReadyH.nil
              rw [if_pos (by rfl)]
              refine wp_store_mid (P := Try.prog) 45 (.tmp 6) (.tmp 42) rfl (v1.heap.size) 0 ([.slice p lv pc, .int .i64 s, .slice e m ec] : List Value).toArray rfl rfl (hX2.there 0 _ (Nat.le_refl _)) i45 (all_oneCell_toArray one1) ?_
              obtain ⟨v3, hv3⟩ : ∃ v, v = v2.setCells (v1.heap.size) 0 ([.slice p lv pc, .int .i64 s, .slice e m ec] : List Value).toArray.toList := ⟨_, rfl⟩
              have hBu3 : But (v1.heap.size) v2 v3 := by rw [hv3]; exact But.setCells _ _ _ (But.refl _ _)
              have hX3 : At 45 v3 (v1.heap.size) [.slice p lv pc, .int .i64 s, .slice e m ec] := by rw [hv3]; exact At.setCells [.slice p lv pc, .int .i64 s, .slice e m ec] 0 _ _ hX2 (Nat.le_refl _)
              have hsz3 : v3.heap.size = v2.heap.size := by rw [hv3]; exact setCells_hs _ _ _ _
              have hY3 := hBu3.at hY2 (by omega)
              have hS3 : Below wo.heap.size wo v3 := hBu3.below hS2 (by omega) hS2.size
              rw [← hv3]
              clear hv3
              refine hK.out _ _ hS3 (fun _ => ?_)
              clear hK K
              refine wpAnyH_ready (rs := [13]) (by kernel_rfl) (by simp) ?_
              refine AllReadyH.cons (o := { dst := none, op := .store 45 (.tmp 7) (.tmp 47), type := _, pos := _, after := _, guard := none }) rfl (fun K hK => ?_) AllReadyH.nil
              rw [if_pos (by rfl)]
              refine wp_store_mid (P := Try.prog) 45 (.tmp 7) (.tmp 47) rfl (wo.heap.size) 0 ([.slice p' lv' pc', .int .i64 s', .slice e' m' ec'] : List Value).toArray rfl rfl (hY3.there 0 _ (Nat.le_refl _)) i45 (all_oneCell_toArray one2) ?_
              obtain ⟨v4, hv4⟩ : ∃ v, v = v3.setCells (wo.heap.size) 0 ([.slice p' lv' pc', .int .i64 s', .slice e' m' ec'] : List Value).toArray.toList := ⟨_, rfl⟩
              have hBu4 : But (wo.heap.size) v3 v4 := by rw [hv4]; exact But.setCells _ _ _ (But.refl _ _)
              have hY4 : At 45 v4 (wo.heap.size) [.slice p' lv' pc', .int .i64 s', .slice e' m' ec'] := by rw [hv4]; exact At.setCells [.slice p' lv' pc', .int .i64 s', .slice e' m' ec'] 0 _ _ hY3 (Nat.le_refl _)
              have hX4 := hBu4.at hX3 (by omega)
              have hS4 : Below wo.heap.size wo v4 := hBu4.below hS3 (by omega) hS3.size
              rw [← hv4]
              clear hv4 hBu3 hBu4 hX3 hY3 hX2 hY2 hV1 hV2 hbv1 hbv2 hsv1 hsv2 hsz3 hd
              refine hK.out _ _ hS4 (fun _ => ?_)
              clear hK K
              refine wpAnyH_done (by kernel_rfl) ?_ _
              have r0_ : v4.cell? ⟨v1.heap.size, 0, none⟩ = some (.slice p lv pc) := by rw [hX4.cell]; rfl
              have s0_ : v4.cell? ⟨wo.heap.size, 0, none⟩ = some (.slice p' lv' pc') := by rw [hY4.cell]; rfl
              have r1_ : v4.cell? ⟨v1.heap.size, 1, none⟩ = some (.int .i64 s) := by rw [hX4.cell]; rfl
              have s1_ : v4.cell? ⟨wo.heap.size, 1, none⟩ = some (.int .i64 s') := by rw [hY4.cell]; rfl
              have r2_ : v4.cell? ⟨v1.heap.size, 2, none⟩ = some (.slice e m ec) := by rw [hX4.cell]; rfl
              have s2_ : v4.cell? ⟨wo.heap.size, 2, none⟩ = some (.slice e' m' ec') := by rw [hY4.cell]; rfl
              go_wp2_with (first
                | (go_at_call 27; refine (QV.out _ hS4).mono ?_; rintro _ v5 ⟨rfl, hb5⟩; refine Hid.out ?_))
              refine hidU ?_
              have HG5 : Hid (At 45 v5 (v1.heap.size) [.slice p lv pc, .int .i64 s, .slice e m ec] ∧ At 45 v5 (wo.heap.size) [.slice p' lv' pc', .int .i64 s', .slice e' m' ec']) := ⟨hX4.below hb5, hY4.below hb5⟩
              have hS5 : Below wo.heap.size wo v5 := hS4.trans (hb5.mono hS4.size)
              clear hX4 hY4 hb5 hS4 r0_ r1_ r2_ s0_ s1_ s2_ QV
              have r1_ : v5.cell? ⟨v1.heap.size, 1, none⟩ = some (.int .i64 s) := by rw [HG5.out.1.cell]; rfl
              have s1_ : v5.cell? ⟨wo.heap.size, 1, none⟩ = some (.int .i64 s') := by rw [HG5.out.2.cell]; rfl
              have r2_ : v5.cell? ⟨v1.heap.size, 2, none⟩ = some (.slice e m ec) := by rw [HG5.out.1.cell]; rfl
              have s2_ : v5.cell? ⟨wo.heap.size, 2, none⟩ = some (.slice e' m' ec') := by rw [HG5.out.2.cell]; rfl
              cases z1 with
              | false =>
                have hRf : R = false := HRV.out (of_decide_eq_false hz1.out.symm)
                go_wp2
                go_ret
                exact ⟨by first | (rw [hRf]; rfl) | rfl, hwo.trans (hS5.mono hwo.size)⟩
              | true =>
                by_cases hss : s = s'
                · subst hss
                  by_cases hmm : m = m'
                  · subst hmm
                    have HRF : Hid (ns.map NT.nd ≠ ns'.map NT.nd → R = false) := fun h => HRN.out h
                    have HRT : Hid (ns.map NT.nd = ns'.map NT.nd → ∀ q, q < i + 1 → (zs.map BT.bd)[q]? = (zs'.map BT.bd)[q]?) := fun h => HRA.out (of_decide_eq_true hz1.out.symm) rfl h
                    clear HRV HRS HRN HRA
                    go_wp2_with fail
                    clear r1_ r2_ s1_ s2_
                    go_loopw [8] (fun j wr => ∃ t : Nat, j = .int .i64 (t : Int) ∧ t ≤ m ∧ Hid (Below v5.heap.size v5 wr ∧ ∀ q, q < t → (ns.map NT.nd)[q]? = (ns'.map NT.nd)[q]?)) (fun j _ => m - (intOf j).toNat)
                    case atStart => exact ⟨0, rfl, by omega, Below.refl _ _, fun q hq => by omega⟩
                    case round =>
                      obtain ⟨t, rfl, ht, hY⟩ := hrel
                      obtain ⟨hbr, hal⟩ := hY.out
                      have rr : wr.cell? ⟨v1.heap.size, 2, none⟩ = some (.slice e m ec) := by rw [(HG5.out.1.below hbr).cell]; rfl
                      have ss : wr.cell? ⟨wo.heap.size, 2, none⟩ = some (.slice e' m ec') := by rw [(HG5.out.2.below hbr).cell]; rfl
                      have hSr : Below wo.heap.size wo wr := hS5.trans (hbr.mono hS5.size)
                      by_cases hct : t < m
                      · obtain ⟨U, hU⟩ : ∃ k, ns[t]? = some k := ⟨ns[t]'(by rw [← hm.out]; exact hct), by rw [List.getElem?_eq_getElem]⟩
                        obtain ⟨V, hV⟩ : ∃ k, ns'[t]? = some k := ⟨ns'[t]'(by rw [← hm2.out]; exact hct), by rw [List.getElem?_eq_getElem]⟩
                        have hold : Old B wo wr := Old.of_below hSr (by have := hwo.size; omega)
                        obtain ⟨h1, r1, rfl, hh1, hr1, hi1⟩ := (RowNT.old HN.out.1 hold).at t U hU
                        obtain ⟨h2, r2, rfl, hh2, hr2, hi2⟩ := (RowNT.old HN.out.2 hold).at t V hV
                        obtain ⟨Z, hZ⟩ : ∃ Z, Hid (Z = decide (U.nd = V.nd)) := ⟨_, (rfl : decide _ = _)⟩
                        have HC : Hid (∀ u, Below wr.heap.size wr u → Calls Try.prog 28 #[.agg U.cells.toArray, .agg V.cells.toArray] u fun e w' => e = .returned (.bool Z) ∧ Below u.heap.size u w') := fun u hu => by
                          rw [hZ.out]
                          exact kitNode_any B U V u (hi1.old (Old.of_below hu (by have := hSr.size; have := hwo.size; omega))) (hi2.old (Old.of_below hu (by have := hSr.size; have := hwo.size; omega))) (by have := hu.size; have := hSr.size; have := hwo.size; omega)
                        obtain ⟨U0, U1, U2, U3, U4, hUc⟩ : ∃ U0 U1 U2 U3 U4, Hid (U.cells = [U0, U1, U2, U3, U4]) := ⟨_, _, _, _, _, (rfl : U.cells = _)⟩
                        obtain ⟨V0, V1, V2, V3, V4, hVc⟩ : ∃ V0 V1 V2 V3 V4, Hid (V.cells = [V0, V1, V2, V3, V4]) := ⟨_, _, _, _, _, (rfl : V.cells = _)⟩
                        rw [hUc.out] at HC hr1
                        rw [hVc.out] at HC hr2
                        have a0 : wr.cell? ⟨h1, r1 + t * 5, none⟩ = some U0 := by have := hr1 0 _ rfl; simpa using this
                        have a1 : wr.cell? ⟨h1, r1 + t * 5 + 1, none⟩ = some U1 := hr1 1 _ rfl
                        have a2 : wr.cell? ⟨h1, r1 + t * 5 + 2, none⟩ = some U2 := hr1 2 _ rfl
                        have a3 : wr.cell? ⟨h1, r1 + t * 5 + 3, none⟩ = some U3 := hr1 3 _ rfl
                        have a4 : wr.cell? ⟨h1, r1 + t * 5 + 4, none⟩ = some U4 := hr1 4 _ rfl
                        have b0 : wr.cell? ⟨h2, r2 + t * 5, none⟩ = some V0 := by have := hr2 0 _ rfl; simpa using this
                        have b1 : wr.cell? ⟨h2, r2 + t * 5 + 1, none⟩ = some V1 := hr2 1 _ rfl
                        have b2 : wr.cell? ⟨h2, r2 + t * 5 + 2, none⟩ = some V2 := hr2 2 _ rfl
                        have b3 : wr.cell? ⟨h2, r2 + t * 5 + 3, none⟩ = some V3 := hr2 3 _ rfl
                        have b4 : wr.cell? ⟨h2, r2 + t * 5 + 4, none⟩ = some V4 := hr2 4 _ rfl
                        have HUV : Hid ((ns.map NT.nd)[t]? = some U.nd ∧ (ns'.map NT.nd)[t]? = some V.nd) := ⟨by rw [List.getElem?_map, hU]; rfl, by rw [List.getElem?_map, hV]; rfl⟩
                        have HAl2 : Hid (∀ q, q < t → (ns.map NT.nd)[q]? = (ns'.map NT.nd)[q]?) := hal
                        clear hY hal hold hr1 hr2 hi1 hi2 hU hV HN HG5
                        cases Z with
                        | false =>
                          have hRf : R = false := HRF.out fun h => by
                            have h1 := HUV.out.1
                            rw [h, HUV.out.2] at h1
                            exact of_decide_eq_false hZ.out.symm (Option.some.inj h1).symm
                          go_wp2_with fail
                          have hS0 : Below wr.heap.size wr wr.drew := Below.drew (Below.refl _ _)
                          refine wp_region_held_drew (S := fun x => Below wr.heap.size wr x) (by kernel_rfl) hS0 (fun _ => ?_)
                          refine wpAnyH_take (i := 0) (oi := { dst := some 77, op := .fieldAddr 45 (.tmp 6) 2, type := _, pos := _, after := _, guard := none }) (v := .pointer (some ⟨v1.heap.size, 2, none⟩)) rfl (by kernel_rfl) (by kernel_rfl) (by kernel_rfl) (fun _ _ _ h => h) (Or.inl ⟨by rfl, ?_⟩) hS0 ?_
                          · intro wS hSw
                            go_simp
                          simp only [Act.put, List.setIfInBounds_toArray, List.set_cons_zero, List.set_cons_succ]
                          refine wpAnyH_take (i := 1) (oi := { dst := some 78, op := .load 43 (.tmp 77), type := _, pos := _, after := _, guard := none }) (v := .slice (some ⟨h1, r1, none⟩) m ec) rfl (by kernel_rfl) (by kernel_rfl) (by kernel_rfl) (fun _ _ _ h => h) (Or.inl ⟨by rfl, ?_⟩) hS0 ?_
                          · intro wS hSw
                            have z0 := (hSw.cell (lt_of_cell rr)).trans rr
                            go_simp
                          simp only [Act.put, List.setIfInBounds_toArray, List.set_cons_zero, List.set_cons_succ]
                          refine wpAnyH_take (i := 2) (oi := { dst := some 79, op := .move (.tmp 8), type := _, pos := _, after := _, guard := none }) (v := .int .i64 (t : Int)) rfl (by kernel_rfl) (by kernel_rfl) (by kernel_rfl) (fun _ _ _ h => h) (Or.inl ⟨by rfl, ?_⟩) hS0 ?_
                          · intro wS hSw
                            go_simp
                          simp only [Act.put, List.setIfInBounds_toArray, List.set_cons_zero, List.set_cons_succ]
                          refine wpAnyH_take (i := 3) (oi := { dst := some 80, op := .indexAddr 43 (.tmp 78) (.tmp 79), type := _, pos := _, after := _, guard := none }) (v := .pointer (some ⟨h1, r1 + t * 5, none⟩)) rfl (by kernel_rfl) (by kernel_rfl) (by kernel_rfl) (fun _ _ _ h => h) (Or.inl ⟨by rfl, ?_⟩) hS0 ?_
                          · intro wS hSw
                            go_simp
                          simp only [Act.put, List.setIfInBounds_toArray, List.set_cons_zero, List.set_cons_succ]
                          refine wpAnyH_take (i := 4) (oi := { dst := some 81, op := .load 49 (.tmp 80), type := _, pos := _, after := _, guard := none }) (v := .agg #[U0, U1, U2, U3, U4]) rfl (by kernel_rfl) (by kernel_rfl) (by kernel_rfl) (fun _ _ _ h => h) (Or.inl ⟨by rfl, ?_⟩) hS0 ?_
                          · intro wS hSw
                            have z0 := (hSw.cell (lt_of_cell a0)).trans a0
                            have z1 := (hSw.cell (lt_of_cell a1)).trans a1
                            have z2 := (hSw.cell (lt_of_cell a2)).trans a2
                            have z3 := (hSw.cell (lt_of_cell a3)).trans a3
                            have z4 := (hSw.cell (lt_of_cell a4)).trans a4
                            go_simp
                          simp only [Act.put, List.setIfInBounds_toArray, List.set_cons_zero, List.set_cons_succ]
                          refine wpAnyH_take (i := 5) (oi := { dst := some 82, op := .fieldAddr 45 (.tmp 7) 2, type := _, pos := _, after := _, guard := none }) (v := .pointer (some ⟨wo.heap.size, 2, none⟩)) rfl (by kernel_rfl) (by kernel_rfl) (by kernel_rfl) (fun _ _ _ h => h) (Or.inl ⟨by rfl, ?_⟩) hS0 ?_
                          · intro wS hSw
                            go_simp
                          simp only [Act.put, List.setIfInBounds_toArray, List.set_cons_zero, List.set_cons_succ]
                          refine wpAnyH_take (i := 6) (oi := { dst := some 83, op := .load 43 (.tmp 82), type := _, pos := _, after := _, guard := none }) (v := .slice (some ⟨h2, r2, none⟩) m ec') rfl (by kernel_rfl) (by kernel_rfl) (by kernel_rfl) (fun _ _ _ h => h) (Or.inl ⟨by rfl, ?_⟩) hS0 ?_
                          · intro wS hSw
                            have z0 := (hSw.cell (lt_of_cell ss)).trans ss
                            go_simp
                          simp only [Act.put, List.setIfInBounds_toArray, List.set_cons_zero, List.set_cons_succ]
                          refine wpAnyH_take (i := 7) (oi := { dst := some 84, op := .move (.tmp 8), type := _, pos := _, after := _, guard := none }) (v := .int .i64 (t : Int)) rfl (by kernel_rfl) (by kernel_rfl) (by kernel_rfl) (fun _ _ _ h => h) (Or.inl ⟨by rfl, ?_⟩) hS0 ?_
                          · intro wS hSw
                            go_simp
                          simp only [Act.put, List.setIfInBounds_toArray, List.set_cons_zero, List.set_cons_succ]
                          refine wpAnyH_take (i := 8) (oi := { dst := some 85, op := .indexAddr 43 (.tmp 83) (.tmp 84), type := _, pos := _, after := _, guard := none }) (v := .pointer (some ⟨h2, r2 + t * 5, none⟩)) rfl (by kernel_rfl) (by kernel_rfl) (by kernel_rfl) (fun _ _ _ h => h) (Or.inl ⟨by rfl, ?_⟩) hS0 ?_
                          · intro wS hSw
                            go_simp
                          simp only [Act.put, List.setIfInBounds_toArray, List.set_cons_zero, List.set_cons_succ]
                          refine wpAnyH_take (i := 9) (oi := { dst := some 86, op := .load 49 (.tmp 85), type := _, pos := _, after := _, guard := none }) (v := .agg #[V0, V1, V2, V3, V4]) rfl (by kernel_rfl) (by kernel_rfl) (by kernel_rfl) (fun _ _ _ h => h) (Or.inl ⟨by rfl, ?_⟩) hS0 ?_
                          · intro wS hSw
                            have z0 := (hSw.cell (lt_of_cell b0)).trans b0
                            have z1 := (hSw.cell (lt_of_cell b1)).trans b1
                            have z2 := (hSw.cell (lt_of_cell b2)).trans b2
                            have z3 := (hSw.cell (lt_of_cell b3)).trans b3
                            have z4 := (hSw.cell (lt_of_cell b4)).trans b4
                            go_simp
                          simp only [Act.put, List.setIfInBounds_toArray, List.set_cons_zero, List.set_cons_succ]
                          refine wpAnyH_ready (rs := [10]) (by kernel_rfl) (by simp) ?_
                          refine AllReadyH.cons (o := { dst := some 87, op := .call { callee := .value (.func 28), args := #[.tmp 81, .tmp 86], argTypes := #[49, 49] }, type := _, pos := _, after := _, guard := none }) rfl (fun K hK => ?_) AllReadyH.nil
                          rw [if_pos (by rfl)]
                          go_wp2_with (go_at_call 28; refine (HC.out _ hS0).mono ?_; rintro e x1 ⟨rfl, hb1⟩)
                          have hS1 := hS0.trans (hb1.mono hS0.size)
                          refine hK.out _ _ hS1 (fun _ => ?_)
                          clear hK K
                          refine wpAnyH_take (i := 11) (oi := { dst := some 88, op := .unOp .not 4 (.tmp 87), type := _, pos := _, after := _, guard := none }) (v := .bool true) rfl (by kernel_rfl) (by kernel_rfl) (by kernel_rfl) (fun _ _ _ h => h) (Or.inl ⟨by rfl, ?_⟩) hS1 ?_
                          · intro wS hSw
                            go_simp
                          simp only [Act.put, List.setIfInBounds_toArray, List.set_cons_zero, List.set_cons_succ]
                          refine wpAnyH_done (by kernel_rfl) ?_ _

                          go_wp2
                          go_ret
                          exact ⟨by first | (rw [hRf]; rfl) | rfl, hwo.trans ((hSr.trans (hS1.mono hSr.size)).mono hwo.size)⟩
                        | true =>
                          have HM : Hid ((ns.map NT.nd)[t]? = (ns'.map NT.nd)[t]?) := by show _ = _; rw [HUV.out.1, HUV.out.2, of_decide_eq_true hZ.out.symm]
                          go_wp2_with fail
                          have hS0 : Below wr.heap.size wr wr.drew := Below.drew (Below.refl _ _)
                          refine wp_region_held_drew (S := fun x => Below wr.heap.size wr x) (by kernel_rfl) hS0 (fun _ => ?_)
                          refine wpAnyH_take (i := 0) (oi := { dst := some 77, op := .fieldAddr 45 (.tmp 6) 2, type := _, pos := _, after := _, guard := none }) (v := .pointer (some ⟨v1.heap.size, 2, none⟩)) rfl (by kernel_rfl) (by kernel_rfl) (by kernel_rfl) (fun _ _ _ h => h) (Or.inl ⟨by rfl, ?_⟩) hS0 ?_
                          · intro wS hSw
                            go_simp
                          simp only [Act.put, List.setIfInBounds_toArray, List.set_cons_zero, List.set_cons_succ]
                          refine wpAnyH_take (i := 1) (oi := { dst := some 78, op := .load 43 (.tmp 77), type := _, pos := _, after := _, guard := none }) (v := .slice (some ⟨h1, r1, none⟩) m ec) rfl (by kernel_rfl) (by kernel_rfl) (by kernel_rfl) (fun _ _ _ h => h) (Or.inl ⟨by rfl, ?_⟩) hS0 ?_
                          · intro wS hSw
                            have z0 := (hSw.cell (lt_of_cell rr)).trans rr
                            go_simp
                          simp only [Act.put, List.setIfInBounds_toArray, List.set_cons_zero, List.set_cons_succ]
                          refine wpAnyH_take (i := 2) (oi := { dst := some 79, op := .move (.tmp 8), type := _, pos := _, after := _, guard := none }) (v := .int .i64 (t : Int)) rfl (by kernel_rfl) (by kernel_rfl) (by kernel_rfl) (fun _ _ _ h => h) (Or.inl ⟨by rfl, ?_⟩) hS0 ?_
                          · intro wS hSw
                            go_simp
                          simp only [Act.put, List.setIfInBounds_toArray, List.set_cons_zero, List.set_cons_succ]
                          refine wpAnyH_take (i := 3) (oi := { dst := some 80, op := .indexAddr 43 (.tmp 78) (.tmp 79), type := _, pos := _, after := _, guard := none }) (v := .pointer (some ⟨h1, r1 + t * 5, none⟩)) rfl (by kernel_rfl) (by kernel_rfl) (by kernel_rfl) (fun _ _ _ h => h) (Or.inl ⟨by rfl, ?_⟩) hS0 ?_
                          · intro wS hSw
                            go_simp
                          simp only [Act.put, List.setIfInBounds_toArray, List.set_cons_zero, List.set_cons_succ]
                          refine wpAnyH_take (i := 4) (oi := { dst := some 81, op := .load 49 (.tmp 80), type := _, pos := _, after := _, guard := none }) (v := .agg #[U0, U1, U2, U3, U4]) rfl (by kernel_rfl) (by kernel_rfl) (by kernel_rfl) (fun _ _ _ h => h) (Or.inl ⟨by rfl, ?_⟩) hS0 ?_
                          · intro wS hSw
                            have z0 := (hSw.cell (lt_of_cell a0)).trans a0
                            have z1 := (hSw.cell (lt_of_cell a1)).trans a1
                            have z2 := (hSw.cell (lt_of_cell a2)).trans a2
                            have z3 := (hSw.cell (lt_of_cell a3)).trans a3
                            have z4 := (hSw.cell (lt_of_cell a4)).trans a4
                            go_simp
                          simp only [Act.put, List.setIfInBounds_toArray, List.set_cons_zero, List.set_cons_succ]
                          refine wpAnyH_take (i := 5) (oi := { dst := some 82, op := .fieldAddr 45 (.tmp 7) 2, type := _, pos := _, after := _, guard := none }) (v := .pointer (some ⟨wo.heap.size, 2, none⟩)) rfl (by kernel_rfl) (by kernel_rfl) (by kernel_rfl) (fun _ _ _ h => h) (Or.inl ⟨by rfl, ?_⟩) hS0 ?_
                          · intro wS hSw
                            go_simp
                          simp only [Act.put, List.setIfInBounds_toArray, List.set_cons_zero, List.set_cons_succ]
                          refine wpAnyH_take (i := 6) (oi := { dst := some 83, op := .load 43 (.tmp 82), type := _, pos := _, after := _, guard := none }) (v := .slice (some ⟨h2, r2, none⟩) m ec') rfl (by kernel_rfl) (by kernel_rfl) (by kernel_rfl) (fun _ _ _ h => h) (Or.inl ⟨by rfl, ?_⟩) hS0 ?_
                          · intro wS hSw
                            have z0 := (hSw.cell (lt_of_cell ss)).trans ss
                            go_simp
                          simp only [Act.put, List.setIfInBounds_toArray, List.set_cons_zero, List.set_cons_succ]
                          refine wpAnyH_take (i := 7) (oi := { dst := some 84, op := .move (.tmp 8), type := _, pos := _, after := _, guard := none }) (v := .int .i64 (t : Int)) rfl (by kernel_rfl) (by kernel_rfl) (by kernel_rfl) (fun _ _ _ h => h) (Or.inl ⟨by rfl, ?_⟩) hS0 ?_
                          · intro wS hSw
                            go_simp
                          simp only [Act.put, List.setIfInBounds_toArray, List.set_cons_zero, List.set_cons_succ]
                          refine wpAnyH_take (i := 8) (oi := { dst := some 85, op := .indexAddr 43 (.tmp 83) (.tmp 84), type := _, pos := _, after := _, guard := none }) (v := .pointer (some ⟨h2, r2 + t * 5, none⟩)) rfl (by kernel_rfl) (by kernel_rfl) (by kernel_rfl) (fun _ _ _ h => h) (Or.inl ⟨by rfl, ?_⟩) hS0 ?_
                          · intro wS hSw
                            go_simp
                          simp only [Act.put, List.setIfInBounds_toArray, List.set_cons_zero, List.set_cons_succ]
                          refine wpAnyH_take (i := 9) (oi := { dst := some 86, op := .load 49 (.tmp 85), type := _, pos := _, after := _, guard := none }) (v := .agg #[V0, V1, V2, V3, V4]) rfl (by kernel_rfl) (by kernel_rfl) (by kernel_rfl) (fun _ _ _ h => h) (Or.inl ⟨by rfl, ?_⟩) hS0 ?_
                          · intro wS hSw
                            have z0 := (hSw.cell (lt_of_cell b0)).trans b0
                            have z1 := (hSw.cell (lt_of_cell b1)).trans b1
                            have z2 := (hSw.cell (lt_of_cell b2)).trans b2
                            have z3 := (hSw.cell (lt_of_cell b3)).trans b3
                            have z4 := (hSw.cell (lt_of_cell b4)).trans b4
                            go_simp
                          simp only [Act.put, List.setIfInBounds_toArray, List.set_cons_zero, List.set_cons_succ]
                          refine wpAnyH_ready (rs := [10]) (by kernel_rfl) (by simp) ?_
                          refine AllReadyH.cons (o := { dst := some 87, op := .call { callee := .value (.func 28), args := #[.tmp 81, .tmp 86], argTypes := #[49, 49] }, type := _, pos := _, after := _, guard := none }) rfl (fun K hK => ?_) AllReadyH.nil
                          rw [if_pos (by rfl)]
                          go_wp2_with (go_at_call 28; refine (HC.out _ hS0).mono ?_; rintro e x1 ⟨rfl, hb1⟩)
                          have hS1 := hS0.trans (hb1.mono hS0.size)
                          refine hK.out _ _ hS1 (fun _ => ?_)
                          clear hK K
                          refine wpAnyH_take (i := 11) (oi := { dst := some 88, op := .unOp .not 4 (.tmp 87), type := _, pos := _, after := _, guard := none }) (v := .bool false) rfl (by kernel_rfl) (by kernel_rfl) (by kernel_rfl) (fun _ _ _ h => h) (Or.inl ⟨by rfl, ?_⟩) hS1 ?_
                          · intro wS hSw
                            go_simp
                          simp only [Act.put, List.setIfInBounds_toArray, List.set_cons_zero, List.set_cons_succ]
                          refine wpAnyH_done (by kernel_rfl) ?_ _

                          go_wp2
                          go_roundw
                          case rel =>
                            refine ⟨t + 1, by go_num, by omega, hbr.trans (hS1.mono hbr.size), fun q hq => ?_⟩
                            by_cases hqi : q = t
                            · subst hqi
                              exact HM.out
                            · exact HAl2.out q (by omega)
                          case measure => simp [intOf]; omega
                      · have htm : t = m := by omega
                        have HFin : Hid (∀ q, q < i + 1 → (zs.map BT.bd)[q]? = (zs'.map BT.bd)[q]?) := HRT.out (list_ext (n := m) (by rw [List.length_map]; exact hm.out.symm) (by rw [List.length_map]; exact hm2.out.symm) (fun q hq => hal q (by omega)))
                        clear hY HN HG5 HRF HRT
                        go_wp2
                        go_roundw
                        case rel => exact ⟨i + 1, by go_num, by omega, hwr3.trans (hSr.mono hwr3.size), HFin.out⟩
                        case measure => simp [intOf]; omega

                  · have hRf : R = false := HRN.out fun h => by
                      have := congrArg List.length h
                      rw [List.length_map, List.length_map] at this
                      exact hmm (by rw [hm.out, hm2.out, this])
                    have e1 : ((m : Int) != (m' : Int)) = true := by rw [bne_iff_ne]; omega
                    clear hmm
                    go_wp2
                    go_ret
                    exact ⟨by first | (rw [hRf]; rfl) | rfl, hwo.trans (hS5.mono hwo.size)⟩
                · have hRf : R = false := HRS.out hss
                  have e1 : (s != s') = true := by rw [bne_iff_ne]; exact hss
                  clear hss
                  go_wp2
                  go_ret
                  exact ⟨by first | (rw [hRf]; rfl) | rfl, hwo.trans (hS5.mono hwo.size)⟩

          · have hin : i = n := by omega
            have hRt : R = true := HRt.out (list_ext (n := n) (by rw [List.length_map]; exact hn.out.symm) (by rw [List.length_map]; exact hn2.out.symm) (fun q hq => hall q (by omega)))
            clear hX hall hin HR
            go_wp2
            go_ret
            exact ⟨by rw [hRt]; rfl, hwo⟩

      · have hRf : R = false := by
          rw [hR.out, decide_eq_false_iff_not]
          intro h
          injection h with h1 h2 h3
          have := congrArg List.length h3
          rw [List.length_map, List.length_map] at this
          exact hnn (by rw [hn.out, hn2.out, this])
        have e1 : ((n : Int) != (n' : Int)) = true := by rw [bne_iff_ne]; omega
        clear hR hb1 hnn
        go_enter Try.func10, Try.ntmps10
        go_wp2_with (first
          | ((with_reducible show wpList _ _ _ _ _ _); refine wpList_box_at rfl 25 (.tmp 0) rfl [.slice a nl c, .int .i64 k, .slice d n f] rfl ?_; intro w1 hA1 hb1 hs1; clear hs1)
          | ((with_reducible show wpList _ _ _ _ _ _); refine wpList_box_at rfl 25 (.tmp 1) rfl [.slice a' nl' c', .int .i64 k, .slice d' n' f'] rfl ?_; intro w2 hA2 hb2 hs2; clear hs2; refine Hid.out ?_))
        refine hidU ?_
        have x0 : w2.cell? ⟨w.heap.size, 0, none⟩ = some (.slice a nl c) := by rw [(hA1.below hb2).cell]; rfl
        have y0 : w2.cell? ⟨w1.heap.size, 0, none⟩ = some (.slice a' nl' c') := by rw [hA2.cell]; rfl
        have x1 : w2.cell? ⟨w.heap.size, 1, none⟩ = some (.int .i64 k) := by rw [(hA1.below hb2).cell]; rfl
        have y1 : w2.cell? ⟨w1.heap.size, 1, none⟩ = some (.int .i64 k) := by rw [hA2.cell]; rfl
        have x2 : w2.cell? ⟨w.heap.size, 2, none⟩ = some (.slice d n f) := by rw [(hA1.below hb2).cell]; rfl
        have y2 : w2.cell? ⟨w1.heap.size, 2, none⟩ = some (.slice d' n' f') := by rw [hA2.cell]; rfl
        have hB2 : Below w.heap.size w w2 := hb1.trans (hb2.mono hb1.size)
        go_wp2_with (first
          | (go_at_call 27; refine (Q27.out _ hB2).mono ?_; rintro _ w3 ⟨rfl, hb3⟩; refine Hid.out ?_))
        refine hidU ?_
        have HA : Hid (At 25 w3 w.heap.size [.slice a nl c, .int .i64 k, .slice d n f] ∧ At 25 w3 w1.heap.size [.slice a' nl' c', .int .i64 k, .slice d' n' f']) := ⟨(hA1.below hb2).below hb3, hA2.below hb3⟩
        have hB3 : Below w.heap.size w w3 := hB2.trans (hb3.mono hB2.size)
        have l01 : w.heap.size < w3.heap.size := HA.out.1.lt
        have l11 : w1.heap.size < w3.heap.size := HA.out.2.lt
        clear hA1 hA2 hb1 hb2 hb3 hB2 x0 x1 x2 y0 y1 y2 Q27
        have x1 : w3.cell? ⟨w.heap.size, 1, none⟩ = some (.int .i64 k) := by rw [HA.out.1.cell]; rfl
        have y1 : w3.cell? ⟨w1.heap.size, 1, none⟩ = some (.int .i64 k) := by rw [HA.out.2.cell]; rfl
        have x2 : w3.cell? ⟨w.heap.size, 2, none⟩ = some (.slice d n f) := by rw [HA.out.1.cell]; rfl
        have y2 : w3.cell? ⟨w1.heap.size, 2, none⟩ = some (.slice d' n' f') := by rw [HA.out.2.cell]; rfl

        go_wp2
        go_ret
        exact ⟨by first | (rw [hRf]; rfl) | rfl, hB3⟩

    · have hRf : R = false := by
        rw [hR.out, decide_eq_false_iff_not]
        intro h
        injection h with h1 h2 h3
        exact h_k h2
      have e1 : (k != k') = true := by rw [bne_iff_ne]; exact h_k
      clear hR hb1 h_k
      go_enter Try.func10, Try.ntmps10
      go_wp2_with (first
        | ((with_reducible show wpList _ _ _ _ _ _); refine wpList_box_at rfl 25 (.tmp 0) rfl [.slice a nl c, .int .i64 k, .slice d n f] rfl ?_; intro w1 hA1 hb1 hs1; clear hs1)
        | ((with_reducible show wpList _ _ _ _ _ _); refine wpList_box_at rfl 25 (.tmp 1) rfl [.slice a' nl' c', .int .i64 k', .slice d' n' f'] rfl ?_; intro w2 hA2 hb2 hs2; clear hs2; refine Hid.out ?_))
      refine hidU ?_
      have x0 : w2.cell? ⟨w.heap.size, 0, none⟩ = some (.slice a nl c) := by rw [(hA1.below hb2).cell]; rfl
      have y0 : w2.cell? ⟨w1.heap.size, 0, none⟩ = some (.slice a' nl' c') := by rw [hA2.cell]; rfl
      have x1 : w2.cell? ⟨w.heap.size, 1, none⟩ = some (.int .i64 k) := by rw [(hA1.below hb2).cell]; rfl
      have y1 : w2.cell? ⟨w1.heap.size, 1, none⟩ = some (.int .i64 k') := by rw [hA2.cell]; rfl
      have x2 : w2.cell? ⟨w.heap.size, 2, none⟩ = some (.slice d n f) := by rw [(hA1.below hb2).cell]; rfl
      have y2 : w2.cell? ⟨w1.heap.size, 2, none⟩ = some (.slice d' n' f') := by rw [hA2.cell]; rfl
      have hB2 : Below w.heap.size w w2 := hb1.trans (hb2.mono hb1.size)
      go_wp2_with (first
        | (go_at_call 27; refine (Q27.out _ hB2).mono ?_; rintro _ w3 ⟨rfl, hb3⟩; refine Hid.out ?_))
      refine hidU ?_
      have HA : Hid (At 25 w3 w.heap.size [.slice a nl c, .int .i64 k, .slice d n f] ∧ At 25 w3 w1.heap.size [.slice a' nl' c', .int .i64 k', .slice d' n' f']) := ⟨(hA1.below hb2).below hb3, hA2.below hb3⟩
      have hB3 : Below w.heap.size w w3 := hB2.trans (hb3.mono hB2.size)
      have l01 : w.heap.size < w3.heap.size := HA.out.1.lt
      have l11 : w1.heap.size < w3.heap.size := HA.out.2.lt
      clear hA1 hA2 hb1 hb2 hb3 hB2 x0 x1 x2 y0 y1 y2 Q27
      have x1 : w3.cell? ⟨w.heap.size, 1, none⟩ = some (.int .i64 k) := by rw [HA.out.1.cell]; rfl
      have y1 : w3.cell? ⟨w1.heap.size, 1, none⟩ = some (.int .i64 k') := by rw [HA.out.2.cell]; rfl
      have x2 : w3.cell? ⟨w.heap.size, 2, none⟩ = some (.slice d n f) := by rw [HA.out.1.cell]; rfl
      have y2 : w3.cell? ⟨w1.heap.size, 2, none⟩ = some (.slice d' n' f') := by rw [HA.out.2.cell]; rfl

      go_wp2
      go_ret
      exact ⟨by first | (rw [hRf]; rfl) | rfl, hB3⟩

end Go.Proofs.Ytefklmckkigllaa
