/- The given answer's locks: of each event which are by locks ahead of it. -/
import Derived.Test.YtmkhobaclpiceaaJ14
namespace Go.Proofs.Ytmkhobaclpiceaa
open Go.RowKit
set_option linter.unusedVariables false
attribute [local go_sem ↓] Go.wp_at_zero Go.wp_at_succ

set_option maxRecDepth 100000 in
set_option maxHeartbeats 6400000 in
theorem refLocks_any (a : Option Addr) (cap : Nat) (es : List Ev) (w : World) (hrow : RowEv w a es) (hmax : es.length ≤ 1048576) (hcap : es.length ≤ cap) :
    Calls Try.prog 35 #[.slice a es.length cap] w fun e w' => ∃ v L, e = .returned v ∧ L.map (·.2) = headsR (lockR (evAt es)) es.length ∧ OwnH w.heap.size w' v (L.map rowV) ∧ RowsIn w' L ∧ Below w.heap.size w w' := by
  obtain ⟨i0, hi, hz0, hz1, hz2⟩ := info_parts Try.info4
  obtain ⟨n, hn⟩ : ∃ n, Hid (n = es.length) := ⟨_, (rfl : es.length = _)⟩
  rw [← hn.out] at hmax hcap ⊢
  have HR : Hid (RowEv w a es) := hrow
  clear hrow
  obtain ⟨ev, hev⟩ : ∃ ev, Hid (ev = evAt es) := ⟨_, (rfl : evAt es = _)⟩
  rw [← hev.out]
  obtain ⟨R, hRR⟩ : ∃ R, Hid (R = lockR ev) := ⟨_, (rfl : _ = lockR _)⟩
  rw [← hRR.out]
  go_enter Try.func35, Try.ntmps35
  go_wp2_with fail
  go_loopw [3, 4] (fun v t wr => ∃ (j : Nat) (L : List (Nat × List Bool)), j ≤ n ∧ t = .int .i64 j ∧ Hid (L.length = j) ∧ Hid (L.map (·.2) = headsR R j) ∧ Hid (OwnH w.heap.size wr v (L.map rowV)) ∧ Hid (RowsIn wr L) ∧ Hid (Below w.heap.size w wr)) (fun _ t _ => n - (intOf t).toNat)
  case atStart => exact ⟨0, [], Nat.zero_le _, rfl, rfl, rfl, World.ownsRow_nil _ _ _ _, (fun x hx => by cases hx), Below.refl _ _⟩
  case round =>
    obtain ⟨j, L, hj, rfl, hL, hmap, hown, hin, hbel⟩ := hrel
    obtain ⟨wo, rfl⟩ : ∃ x, x = wr := ⟨wr, rfl⟩
    by_cases hlt : j < n
    · obtain ⟨ej, hej⟩ : ∃ k, es[j]? = some k := ⟨es[j]'(by rw [← hn.out]; exact hlt), by rw [List.getElem?_eq_getElem]⟩
      obtain ⟨ga, oa, rfl, hr0⟩ := HR.out.at j ej hej
      clear hr0
      have HJ : Hid (es[j]? = some ej) := hej
      clear hej
      go_wp2_with (at_make; refine wpList_make_full _ rfl (.tmp 15) (.tmp 15) 53 rfl wo.heap.size 4 i0 (.bool false) 1 Try.underlying53 hi hz0 hz1 .i64 .i64 _ _ j rfl rfl rfl rfl (by rw [hz2]; omega) (by unfold maxLen; omega) (Nat.le_refl _) ?_)
      intro w1 hown1 hgrow1
      have hb1 : Hid (Below wo.heap.size wo w1) := (Below.refl _ wo).grown hgrow1 (Nat.le_refl _) (by intro k hk; cases hk)
      have hA1 : Hid (At 4 w1 wo.heap.size (cellsB j (rowR R j j))) := by
        obtain ⟨_, ⟨h, _⟩ | ⟨g, cp, cur, h, hg, hh, _, _, hs, ht⟩⟩ := hown1
        · cases h
        · cases h
          show At _ _ _ _
          rw [rowR_startq, ← toList_madeCells_one]
          unfold At
          rw [hh]
          have e : cur.toList = (madeCells #[Value.bool false] j).toList := by
            rw [← ht, List.take_of_length_le (by simp [hs])]
          rw [← e]
      clear hown1 hgrow1
      go_wp2_with fail
      go_loopw [6] (fun t wq => ∃ (i : Nat) (z : Int), i ≤ j ∧ z = (i : Int) - 1 ∧ t = .int .i64 z ∧ Hid (At 4 wq wo.heap.size (cellsB j (rowR R j i))) ∧ Hid (Below wo.heap.size wo wq)) (fun t _ => (intOf t + 1).toNat)
      case atStart => exact ⟨j, (j : Int) - 1, Nat.le_refl _, rfl, by go_num, hA1.out, hb1.out⟩
      case round =>
        obtain ⟨i, z, hij, hz, rfl, hA, hB⟩ := hrel
        obtain ⟨wm, rfl⟩ : ∃ x, x = wr := ⟨wr, rfl⟩
        clear hA1 hb1
        have hBw : Hid (Below w.heap.size w wm) := hbel.out.trans (hB.out.mono hbel.out.size)
        by_cases hi0 : i = 0
        · subst hi0
          have hzn : z < 0 := by omega
          have hzn2 : ¬ (0 ≤ z) := by omega
          obtain ⟨row, hrow⟩ : ∃ row, Hid (row = (List.range j).map (hrB R j)) := ⟨_, (rfl : _ = (List.range j).map (hrB R j))⟩
          have hlen : row.length = j := by rw [hrow.out]; simp
          have hA2 : Hid (At 4 wm wo.heap.size (row.map Value.bool)) := by
            show At _ _ _ _
            rw [hrow.out, ← rowR_doneq]
            exact hA.out
          have hLl : (L.map rowV).length ≤ 1048576 := by rw [List.length_map, hL.out]; omega
          have hmap2 : Hid ((L ++ [(wo.heap.size, row)]).map (·.2) = headsR R (j + 1)) := by
            show _ = _
            rw [List.map_append, hmap.out, headsR_succ, hrow.out]
            rfl
          have hL2 : Hid ((L ++ [(wo.heap.size, row)]).length = j + 1) := by show _ = _; simp [hL.out]
          have hzz : Hid (Value.slice (some ⟨wo.heap.size, 0, none⟩) j j = rowV (wo.heap.size, row)) := by show _ = _; simp [rowV, hlen]
          go_wp2_with (at_builtin; refine appH (.tmp 89) (.tmp 91) _ (wo.heap.size, row) w.heap.size _ (L.map rowV) rfl rfl rfl rfl (hown.out.below hB.out) hzz.out hLl hBw.out.size ?_; intro v6 w6 hown6 hbel6 hk6)
          go_roundw
          case rel =>
            refine ⟨j + 1, L ++ [(wo.heap.size, row)], by omega, by go_num, hL2.out, hmap2.out, (show OwnH _ _ _ _ by rw [List.map_append]; exact hown6), ?_, hBw.out.trans hbel6⟩
            intro x hx
            rcases List.mem_append.1 hx with h1 | h1
            · exact hk6 _ _ ((hin.out x h1).below hB.out)
            · simp at h1; subst h1; exact hk6 _ _ hA2.out
          case measure => first | (simp [intOf]; done) | (simp [intOf]; omega)
        · obtain ⟨p, rfl⟩ : ∃ p, i = p + 1 := ⟨i - 1, by omega⟩
          obtain rfl : z = (p : Int) := by omega
          have hpj : p < j := by omega
          have i1 : (0 : Int) ≤ (p : Int) := by omega
          have i2 : (p : Int) < (n : Int) := by omega
          have i3 : (j : Int) < (n : Int) := by omega
          have i4 : p < n := by omega
          clear hz hi0
          obtain ⟨ei, hei⟩ : ∃ k, es[p]? = some k := ⟨es[p]'(by rw [← hn.out]; omega), by rw [List.getElem?_eq_getElem]⟩
          obtain ⟨g1, o1, hg1, hr1⟩ := (HR.out.below hBw.out).at p ei hei
          cases hg1
          obtain ⟨g2, o2, hg2, hr2⟩ := (HR.out.below hBw.out).at j ej HJ.out
          cases hg2
          obtain ⟨q1, q2, q3⟩ := range_cells hr1
          obtain ⟨r1, r2, r3⟩ := range_cells hr2
          have e1 : ev p = ei := by rw [hev.out]; exact evAt_eq hei
          have e2 : ev j = ej := by rw [hev.out]; exact evAt_eq HJ.out
          obtain ⟨D, hD⟩ : ∃ D, Hid (D = R p j) := ⟨_, (rfl : _ = R _ _)⟩
          have HD : Hid (D = (decide (ei.th = ej.th) || (decide (ei.kd = 4) && (decide (ej.kd = 3) && decide (ei.ob = ej.ob))))) := by show _ = _; rw [hD.out, hRR.out, lockR, e1, e2]
          clear hr1 hr2 e1 e2 hei
          obtain ⟨xt, xk, xo⟩ := ei
          obtain ⟨yt, yk, yo⟩ := ej
          dsimp only at q1 q2 q3 r1 r2 r3 HD
          by_cases h4 : xk = 4
          · have h4 : Hid (xk = 4) := h4
            by_cases h3 : yk = 3
            · have h3 : Hid (yk = 3) := h3
              by_cases ho : xo = yo
              · have ho : Hid (xo = yo) := ho
                go_wp2_with fail
                have hS0a : Below wm.heap.size wm wm.drew := Below.drew (Below.refl _ _)
                refine wp_region_held_drew (S := fun xS => Below wm.heap.size wm xS) (by kernel_rfl) hS0a ?_
                obtain ⟨x0a, hx0⟩ : ∃ x, x = wm.drew := ⟨_, rfl⟩
                rw [← hx0] at hS0a  ⊢
                clear hx0
                intro _
                refine wpAnyH_take (i := 0) (oi := { dst := some 23, op := .move (.tmp 0), type := _, pos := _, after := _, guard := none }) (v := .slice (some ⟨ga, oa, none⟩) n cap) rfl (by kernel_rfl) (by kernel_rfl) (by kernel_rfl) (fun _ _ _ h => h) (Or.inl ⟨by rfl, ?_⟩) hS0a ?_
                · intro wS hSw
                  go_simp
                simp only [Act.put, List.setIfInBounds_toArray, List.set_cons_zero, List.set_cons_succ]
                refine wpAnyH_take (i := 1) (oi := { dst := some 24, op := .move (.tmp 6), type := _, pos := _, after := _, guard := none }) (v := .int .i64 (p : Int)) rfl (by kernel_rfl) (by kernel_rfl) (by kernel_rfl) (fun _ _ _ h => h) (Or.inl ⟨by rfl, ?_⟩) hS0a ?_
                · intro wS hSw
                  go_simp
                simp only [Act.put, List.setIfInBounds_toArray, List.set_cons_zero, List.set_cons_succ]
                refine wpAnyH_take (i := 2) (oi := { dst := some 25, op := .indexAddr 22 (.tmp 23) (.tmp 24), type := _, pos := _, after := _, guard := none }) (v := .pointer (some ⟨ga, oa + p * 3, none⟩)) rfl (by kernel_rfl) (by kernel_rfl) (by kernel_rfl) (fun _ _ _ h => h) (Or.inl ⟨by rfl, ?_⟩) hS0a ?_
                · intro wS hSw
                  go_simp
                simp only [Act.put, List.setIfInBounds_toArray, List.set_cons_zero, List.set_cons_succ]
                refine wpAnyH_take (i := 3) (oi := { dst := some 26, op := .fieldAddr 24 (.tmp 25) 1, type := _, pos := _, after := _, guard := none }) (v := .pointer (some ⟨ga, oa + p * 3 + 1, none⟩)) rfl (by kernel_rfl) (by kernel_rfl) (by kernel_rfl) (fun _ _ _ h => h) (Or.inl ⟨by rfl, ?_⟩) hS0a ?_
                · intro wS hSw
                  go_simp
                simp only [Act.put, List.setIfInBounds_toArray, List.set_cons_zero, List.set_cons_succ]
                refine wpAnyH_take (i := 4) (oi := { dst := some 27, op := .load 3 (.tmp 26), type := _, pos := _, after := _, guard := none }) (v := .int .i64 xk) rfl (by kernel_rfl) (by kernel_rfl) (by kernel_rfl) (fun _ _ _ h => h) (Or.inl ⟨by rfl, ?_⟩) hS0a ?_
                · intro wS hSw
                  have z0 := (hSw.cell (lt_of_cell q2)).trans q2
                  go_simp
                simp only [Act.put, List.setIfInBounds_toArray, List.set_cons_zero, List.set_cons_succ]
                refine wpAnyH_take (i := 5) (oi := { dst := some 28, op := .binOp .eql 3 (.tmp 27) (.const (.int .i64 4)) 3, type := _, pos := _, after := _, guard := none }) (v := .bool true) rfl (by kernel_rfl) (by kernel_rfl) (by kernel_rfl) (fun _ _ _ h => h) (Or.inl ⟨by rfl, ?_⟩) hS0a ?_
                · intro wS hSw
                  (go_simp; try exact h4.out)
                simp only [Act.put, List.setIfInBounds_toArray, List.set_cons_zero, List.set_cons_succ]
                refine wpAnyH_take (i := 6) (oi := { dst := some 29, op := .move (.tmp 28), type := _, pos := _, after := _, guard := none }) (v := .bool true) rfl (by kernel_rfl) (by kernel_rfl) (by kernel_rfl) (fun _ _ _ h => h) (Or.inl ⟨by rfl, ?_⟩) hS0a ?_
                · intro wS hSw
                  go_simp
                simp only [Act.put, List.setIfInBounds_toArray, List.set_cons_zero, List.set_cons_succ]
                refine wpAnyH_take (i := 7) (oi := { dst := some 30, op := .move (.tmp 0), type := _, pos := _, after := _, guard := some (6, true) }) (v := .slice (some ⟨ga, oa, none⟩) n cap) rfl (by kernel_rfl) (by kernel_rfl) (by kernel_rfl) (fun _ _ _ h => h) (Or.inl ⟨by rfl, ?_⟩) hS0a ?_
                · intro wS hSw
                  go_simp
                simp only [Act.put, List.setIfInBounds_toArray, List.set_cons_zero, List.set_cons_succ]
                refine wpAnyH_take (i := 8) (oi := { dst := some 31, op := .move (.tmp 4), type := _, pos := _, after := _, guard := some (6, true) }) (v := .int .i64 (j : Int)) rfl (by kernel_rfl) (by kernel_rfl) (by kernel_rfl) (fun _ _ _ h => h) (Or.inl ⟨by rfl, ?_⟩) hS0a ?_
                · intro wS hSw
                  go_simp
                simp only [Act.put, List.setIfInBounds_toArray, List.set_cons_zero, List.set_cons_succ]
                refine wpAnyH_take (i := 9) (oi := { dst := some 32, op := .indexAddr 22 (.tmp 30) (.tmp 31), type := _, pos := _, after := _, guard := some (6, true) }) (v := .pointer (some ⟨ga, oa + j * 3, none⟩)) rfl (by kernel_rfl) (by kernel_rfl) (by kernel_rfl) (fun _ _ _ h => h) (Or.inl ⟨by rfl, ?_⟩) hS0a ?_
                · intro wS hSw
                  go_simp
                simp only [Act.put, List.setIfInBounds_toArray, List.set_cons_zero, List.set_cons_succ]
                refine wpAnyH_take (i := 10) (oi := { dst := some 33, op := .fieldAddr 24 (.tmp 32) 1, type := _, pos := _, after := _, guard := some (6, true) }) (v := .pointer (some ⟨ga, oa + j * 3 + 1, none⟩)) rfl (by kernel_rfl) (by kernel_rfl) (by kernel_rfl) (fun _ _ _ h => h) (Or.inl ⟨by rfl, ?_⟩) hS0a ?_
                · intro wS hSw
                  go_simp
                simp only [Act.put, List.setIfInBounds_toArray, List.set_cons_zero, List.set_cons_succ]
                refine wpAnyH_take (i := 11) (oi := { dst := some 34, op := .load 3 (.tmp 33), type := _, pos := _, after := _, guard := some (6, true) }) (v := .int .i64 yk) rfl (by kernel_rfl) (by kernel_rfl) (by kernel_rfl) (fun _ _ _ h => h) (Or.inl ⟨by rfl, ?_⟩) hS0a ?_
                · intro wS hSw
                  have z0 := (hSw.cell (lt_of_cell r2)).trans r2
                  go_simp
                simp only [Act.put, List.setIfInBounds_toArray, List.set_cons_zero, List.set_cons_succ]
                refine wpAnyH_take (i := 12) (oi := { dst := some 35, op := .binOp .eql 3 (.tmp 34) (.const (.int .i64 3)) 3, type := _, pos := _, after := _, guard := some (6, true) }) (v := .bool true) rfl (by kernel_rfl) (by kernel_rfl) (by kernel_rfl) (fun _ _ _ h => h) (Or.inl ⟨by rfl, ?_⟩) hS0a ?_
                · intro wS hSw
                  (go_simp; try exact h3.out)
                simp only [Act.put, List.setIfInBounds_toArray, List.set_cons_zero, List.set_cons_succ]
                refine wpAnyH_take (i := 13) (oi := { dst := some 36, op := .pick (.tmp 29) (.tmp 35) (.const (.bool false)), type := _, pos := _, after := _, guard := none }) (v := .bool true) rfl (by kernel_rfl) (by kernel_rfl) (by kernel_rfl) (fun _ _ _ h => h) (Or.inl ⟨by rfl, ?_⟩) hS0a ?_
                · intro wS hSw
                  go_simp
                simp only [Act.put, List.setIfInBounds_toArray, List.set_cons_zero, List.set_cons_succ]
                refine wpAnyH_take (i := 14) (oi := { dst := some 37, op := .move (.tmp 36), type := _, pos := _, after := _, guard := none }) (v := .bool true) rfl (by kernel_rfl) (by kernel_rfl) (by kernel_rfl) (fun _ _ _ h => h) (Or.inl ⟨by rfl, ?_⟩) hS0a ?_
                · intro wS hSw
                  go_simp
                simp only [Act.put, List.setIfInBounds_toArray, List.set_cons_zero, List.set_cons_succ]
                refine wpAnyH_take (i := 15) (oi := { dst := some 38, op := .move (.tmp 0), type := _, pos := _, after := _, guard := some (14, true) }) (v := .slice (some ⟨ga, oa, none⟩) n cap) rfl (by kernel_rfl) (by kernel_rfl) (by kernel_rfl) (fun _ _ _ h => h) (Or.inl ⟨by rfl, ?_⟩) hS0a ?_
                · intro wS hSw
                  go_simp
                simp only [Act.put, List.setIfInBounds_toArray, List.set_cons_zero, List.set_cons_succ]
                refine wpAnyH_take (i := 16) (oi := { dst := some 39, op := .move (.tmp 6), type := _, pos := _, after := _, guard := some (14, true) }) (v := .int .i64 (p : Int)) rfl (by kernel_rfl) (by kernel_rfl) (by kernel_rfl) (fun _ _ _ h => h) (Or.inl ⟨by rfl, ?_⟩) hS0a ?_
                · intro wS hSw
                  go_simp
                simp only [Act.put, List.setIfInBounds_toArray, List.set_cons_zero, List.set_cons_succ]
                refine wpAnyH_take (i := 17) (oi := { dst := some 40, op := .indexAddr 22 (.tmp 38) (.tmp 39), type := _, pos := _, after := _, guard := some (14, true) }) (v := .pointer (some ⟨ga, oa + p * 3, none⟩)) rfl (by kernel_rfl) (by kernel_rfl) (by kernel_rfl) (fun _ _ _ h => h) (Or.inl ⟨by rfl, ?_⟩) hS0a ?_
                · intro wS hSw
                  go_simp
                simp only [Act.put, List.setIfInBounds_toArray, List.set_cons_zero, List.set_cons_succ]
                refine wpAnyH_take (i := 18) (oi := { dst := some 41, op := .fieldAddr 24 (.tmp 40) 2, type := _, pos := _, after := _, guard := some (14, true) }) (v := .pointer (some ⟨ga, oa + p * 3 + 2, none⟩)) rfl (by kernel_rfl) (by kernel_rfl) (by kernel_rfl) (fun _ _ _ h => h) (Or.inl ⟨by rfl, ?_⟩) hS0a ?_
                · intro wS hSw
                  go_simp
                simp only [Act.put, List.setIfInBounds_toArray, List.set_cons_zero, List.set_cons_succ]
                refine wpAnyH_take (i := 19) (oi := { dst := some 42, op := .load 3 (.tmp 41), type := _, pos := _, after := _, guard := some (14, true) }) (v := .int .i64 xo) rfl (by kernel_rfl) (by kernel_rfl) (by kernel_rfl) (fun _ _ _ h => h) (Or.inl ⟨by rfl, ?_⟩) hS0a ?_
                · intro wS hSw
                  have z0 := (hSw.cell (lt_of_cell q3)).trans q3
                  go_simp
                simp only [Act.put, List.setIfInBounds_toArray, List.set_cons_zero, List.set_cons_succ]
                refine wpAnyH_take (i := 20) (oi := { dst := some 43, op := .move (.tmp 0), type := _, pos := _, after := _, guard := some (14, true) }) (v := .slice (some ⟨ga, oa, none⟩) n cap) rfl (by kernel_rfl) (by kernel_rfl) (by kernel_rfl) (fun _ _ _ h => h) (Or.inl ⟨by rfl, ?_⟩) hS0a ?_
                · intro wS hSw
                  go_simp
                simp only [Act.put, List.setIfInBounds_toArray, List.set_cons_zero, List.set_cons_succ]
                refine wpAnyH_take (i := 21) (oi := { dst := some 44, op := .move (.tmp 4), type := _, pos := _, after := _, guard := some (14, true) }) (v := .int .i64 (j : Int)) rfl (by kernel_rfl) (by kernel_rfl) (by kernel_rfl) (fun _ _ _ h => h) (Or.inl ⟨by rfl, ?_⟩) hS0a ?_
                · intro wS hSw
                  go_simp
                simp only [Act.put, List.setIfInBounds_toArray, List.set_cons_zero, List.set_cons_succ]
                refine wpAnyH_take (i := 22) (oi := { dst := some 45, op := .indexAddr 22 (.tmp 43) (.tmp 44), type := _, pos := _, after := _, guard := some (14, true) }) (v := .pointer (some ⟨ga, oa + j * 3, none⟩)) rfl (by kernel_rfl) (by kernel_rfl) (by kernel_rfl) (fun _ _ _ h => h) (Or.inl ⟨by rfl, ?_⟩) hS0a ?_
                · intro wS hSw
                  go_simp
                simp only [Act.put, List.setIfInBounds_toArray, List.set_cons_zero, List.set_cons_succ]
                refine wpAnyH_take (i := 23) (oi := { dst := some 46, op := .fieldAddr 24 (.tmp 45) 2, type := _, pos := _, after := _, guard := some (14, true) }) (v := .pointer (some ⟨ga, oa + j * 3 + 2, none⟩)) rfl (by kernel_rfl) (by kernel_rfl) (by kernel_rfl) (fun _ _ _ h => h) (Or.inl ⟨by rfl, ?_⟩) hS0a ?_
                · intro wS hSw
                  go_simp
                simp only [Act.put, List.setIfInBounds_toArray, List.set_cons_zero, List.set_cons_succ]
                refine wpAnyH_take (i := 24) (oi := { dst := some 47, op := .load 3 (.tmp 46), type := _, pos := _, after := _, guard := some (14, true) }) (v := .int .i64 yo) rfl (by kernel_rfl) (by kernel_rfl) (by kernel_rfl) (fun _ _ _ h => h) (Or.inl ⟨by rfl, ?_⟩) hS0a ?_
                · intro wS hSw
                  have z0 := (hSw.cell (lt_of_cell r3)).trans r3
                  go_simp
                simp only [Act.put, List.setIfInBounds_toArray, List.set_cons_zero, List.set_cons_succ]
                refine wpAnyH_take (i := 25) (oi := { dst := some 48, op := .binOp .eql 3 (.tmp 42) (.tmp 47) 3, type := _, pos := _, after := _, guard := some (14, true) }) (v := .bool true) rfl (by kernel_rfl) (by kernel_rfl) (by kernel_rfl) (fun _ _ _ h => h) (Or.inl ⟨by rfl, ?_⟩) hS0a ?_
                · intro wS hSw
                  (go_simp; try exact ho.out)
                simp only [Act.put, List.setIfInBounds_toArray, List.set_cons_zero, List.set_cons_succ]
                refine wpAnyH_take (i := 26) (oi := { dst := some 49, op := .pick (.tmp 37) (.tmp 48) (.const (.bool false)), type := _, pos := _, after := _, guard := none }) (v := .bool true) rfl (by kernel_rfl) (by kernel_rfl) (by kernel_rfl) (fun _ _ _ h => h) (Or.inl ⟨by rfl, ?_⟩) hS0a ?_
                · intro wS hSw
                  go_simp
                simp only [Act.put, List.setIfInBounds_toArray, List.set_cons_zero, List.set_cons_succ]
                refine wpAnyH_take (i := 27) (oi := { dst := some 7, op := .assign (.tmp 49), type := _, pos := _, after := _, guard := none }) (v := .bool true) rfl (by kernel_rfl) (by kernel_rfl) (by kernel_rfl) (fun _ _ _ h => h) (Or.inl ⟨by rfl, ?_⟩) hS0a ?_
                · intro wS hSw
                  go_simp
                simp only [Act.put, List.setIfInBounds_toArray, List.set_cons_zero, List.set_cons_succ]
                refine wpAnyH_done (by kernel_rfl) ?_ _
                have q1a := (hS0a.cell (lt_of_cell q1)).trans q1
                have q2a := (hS0a.cell (lt_of_cell q2)).trans q2
                have q3a := (hS0a.cell (lt_of_cell q3)).trans q3
                have r1a := (hS0a.cell (lt_of_cell r1)).trans r1
                have r2a := (hS0a.cell (lt_of_cell r2)).trans r2
                have r3a := (hS0a.cell (lt_of_cell r3)).trans r3
                by_cases ht : xt = yt
                · have ht : Hid (xt = yt) := ht
                  obtain rfl : D = true := by rw [HD.out]; simp [ht.out, h4.out, h3.out, ho.out]
                  clear HD
                  go_wp2_with fail
                  have hS0b : Below x0a.heap.size x0a x0a.drew := Below.drew (Below.refl _ _)
                  refine wp_region_held_drew (S := fun xS => Below x0a.heap.size x0a xS) (by kernel_rfl) hS0b ?_
                  obtain ⟨x0b, hx0⟩ : ∃ x, x = x0a.drew := ⟨_, rfl⟩
                  rw [← hx0] at hS0b  ⊢
                  clear hx0
                  intro _
                  refine wpAnyH_take (i := 0) (oi := { dst := some 50, op := .move (.tmp 0), type := _, pos := _, after := _, guard := none }) (v := .slice (some ⟨ga, oa, none⟩) n cap) rfl (by kernel_rfl) (by kernel_rfl) (by kernel_rfl) (fun _ _ _ h => h) (Or.inl ⟨by rfl, ?_⟩) hS0b ?_
                  · intro wS hSw
                    go_simp
                  simp only [Act.put, List.setIfInBounds_toArray, List.set_cons_zero, List.set_cons_succ]
                  refine wpAnyH_take (i := 1) (oi := { dst := some 51, op := .move (.tmp 6), type := _, pos := _, after := _, guard := none }) (v := .int .i64 (p : Int)) rfl (by kernel_rfl) (by kernel_rfl) (by kernel_rfl) (fun _ _ _ h => h) (Or.inl ⟨by rfl, ?_⟩) hS0b ?_
                  · intro wS hSw
                    go_simp
                  simp only [Act.put, List.setIfInBounds_toArray, List.set_cons_zero, List.set_cons_succ]
                  refine wpAnyH_take (i := 2) (oi := { dst := some 52, op := .indexAddr 22 (.tmp 50) (.tmp 51), type := _, pos := _, after := _, guard := none }) (v := .pointer (some ⟨ga, oa + p * 3, none⟩)) rfl (by kernel_rfl) (by kernel_rfl) (by kernel_rfl) (fun _ _ _ h => h) (Or.inl ⟨by rfl, ?_⟩) hS0b ?_
                  · intro wS hSw
                    go_simp
                  simp only [Act.put, List.setIfInBounds_toArray, List.set_cons_zero, List.set_cons_succ]
                  refine wpAnyH_take (i := 3) (oi := { dst := some 53, op := .fieldAddr 24 (.tmp 52) 0, type := _, pos := _, after := _, guard := none }) (v := .pointer (some ⟨ga, oa + p * 3, none⟩)) rfl (by kernel_rfl) (by kernel_rfl) (by kernel_rfl) (fun _ _ _ h => h) (Or.inl ⟨by rfl, ?_⟩) hS0b ?_
                  · intro wS hSw
                    go_simp
                  simp only [Act.put, List.setIfInBounds_toArray, List.set_cons_zero, List.set_cons_succ]
                  refine wpAnyH_take (i := 4) (oi := { dst := some 54, op := .load 3 (.tmp 53), type := _, pos := _, after := _, guard := none }) (v := .int .i64 xt) rfl (by kernel_rfl) (by kernel_rfl) (by kernel_rfl) (fun _ _ _ h => h) (Or.inl ⟨by rfl, ?_⟩) hS0b ?_
                  · intro wS hSw
                    have z0 := (hSw.cell (lt_of_cell q1a)).trans q1a
                    go_simp
                  simp only [Act.put, List.setIfInBounds_toArray, List.set_cons_zero, List.set_cons_succ]
                  refine wpAnyH_take (i := 5) (oi := { dst := some 55, op := .move (.tmp 0), type := _, pos := _, after := _, guard := none }) (v := .slice (some ⟨ga, oa, none⟩) n cap) rfl (by kernel_rfl) (by kernel_rfl) (by kernel_rfl) (fun _ _ _ h => h) (Or.inl ⟨by rfl, ?_⟩) hS0b ?_
                  · intro wS hSw
                    go_simp
                  simp only [Act.put, List.setIfInBounds_toArray, List.set_cons_zero, List.set_cons_succ]
                  refine wpAnyH_take (i := 6) (oi := { dst := some 56, op := .move (.tmp 4), type := _, pos := _, after := _, guard := none }) (v := .int .i64 (j : Int)) rfl (by kernel_rfl) (by kernel_rfl) (by kernel_rfl) (fun _ _ _ h => h) (Or.inl ⟨by rfl, ?_⟩) hS0b ?_
                  · intro wS hSw
                    go_simp
                  simp only [Act.put, List.setIfInBounds_toArray, List.set_cons_zero, List.set_cons_succ]
                  refine wpAnyH_take (i := 7) (oi := { dst := some 57, op := .indexAddr 22 (.tmp 55) (.tmp 56), type := _, pos := _, after := _, guard := none }) (v := .pointer (some ⟨ga, oa + j * 3, none⟩)) rfl (by kernel_rfl) (by kernel_rfl) (by kernel_rfl) (fun _ _ _ h => h) (Or.inl ⟨by rfl, ?_⟩) hS0b ?_
                  · intro wS hSw
                    go_simp
                  simp only [Act.put, List.setIfInBounds_toArray, List.set_cons_zero, List.set_cons_succ]
                  refine wpAnyH_take (i := 8) (oi := { dst := some 58, op := .fieldAddr 24 (.tmp 57) 0, type := _, pos := _, after := _, guard := none }) (v := .pointer (some ⟨ga, oa + j * 3, none⟩)) rfl (by kernel_rfl) (by kernel_rfl) (by kernel_rfl) (fun _ _ _ h => h) (Or.inl ⟨by rfl, ?_⟩) hS0b ?_
                  · intro wS hSw
                    go_simp
                  simp only [Act.put, List.setIfInBounds_toArray, List.set_cons_zero, List.set_cons_succ]
                  refine wpAnyH_take (i := 9) (oi := { dst := some 59, op := .load 3 (.tmp 58), type := _, pos := _, after := _, guard := none }) (v := .int .i64 yt) rfl (by kernel_rfl) (by kernel_rfl) (by kernel_rfl) (fun _ _ _ h => h) (Or.inl ⟨by rfl, ?_⟩) hS0b ?_
                  · intro wS hSw
                    have z0 := (hSw.cell (lt_of_cell r1a)).trans r1a
                    go_simp
                  simp only [Act.put, List.setIfInBounds_toArray, List.set_cons_zero, List.set_cons_succ]
                  refine wpAnyH_take (i := 10) (oi := { dst := some 60, op := .binOp .neq 3 (.tmp 54) (.tmp 59) 3, type := _, pos := _, after := _, guard := none }) (v := .bool false) rfl (by kernel_rfl) (by kernel_rfl) (by kernel_rfl) (fun _ _ _ h => h) (Or.inl ⟨by rfl, ?_⟩) hS0b ?_
                  · intro wS hSw
                    (go_simp; try exact ht.out)
                  simp only [Act.put, List.setIfInBounds_toArray, List.set_cons_zero, List.set_cons_succ]
                  refine wpAnyH_take (i := 11) (oi := { dst := some 61, op := .move (.tmp 60), type := _, pos := _, after := _, guard := none }) (v := .bool false) rfl (by kernel_rfl) (by kernel_rfl) (by kernel_rfl) (fun _ _ _ h => h) (Or.inl ⟨by rfl, ?_⟩) hS0b ?_
                  · intro wS hSw
                    go_simp
                  simp only [Act.put, List.setIfInBounds_toArray, List.set_cons_zero, List.set_cons_succ]
                  refine wpAnyH_take (i := 12) (oi := { dst := some 62, op := .move (.tmp 7), type := _, pos := _, after := _, guard := some (11, true) }) (v := undef) rfl (by kernel_rfl) (by kernel_rfl) (by kernel_rfl) (fun _ _ _ h => h) (Or.inr ⟨by rfl, rfl⟩) hS0b ?_
                  simp only [Act.put, List.setIfInBounds_toArray, List.set_cons_zero, List.set_cons_succ]
                  refine wpAnyH_take (i := 13) (oi := { dst := some 63, op := .unOp .not 4 (.tmp 62), type := _, pos := _, after := _, guard := some (11, true) }) (v := undef) rfl (by kernel_rfl) (by kernel_rfl) (by kernel_rfl) (fun _ _ _ h => h) (Or.inr ⟨by rfl, rfl⟩) hS0b ?_
                  simp only [Act.put, List.setIfInBounds_toArray, List.set_cons_zero, List.set_cons_succ]
                  refine wpAnyH_take (i := 14) (oi := { dst := some 64, op := .pick (.tmp 61) (.tmp 63) (.const (.bool false)), type := _, pos := _, after := _, guard := none }) (v := .bool false) rfl (by kernel_rfl) (by kernel_rfl) (by kernel_rfl) (fun _ _ _ h => h) (Or.inl ⟨by rfl, ?_⟩) hS0b ?_
                  · intro wS hSw
                    go_simp
                  simp only [Act.put, List.setIfInBounds_toArray, List.set_cons_zero, List.set_cons_succ]
                  refine wpAnyH_done (by kernel_rfl) ?_ _
                  have hA2 : Hid (At 4 x0b wo.heap.size (cellsB j (rowR R j (p + 1)))) := (hA.out.below hS0a).below hS0b
                  have hB2 : Hid (Below wo.heap.size wo x0b) := (hB.out.trans (hS0a.mono hB.out.size)).trans (hS0b.mono (Nat.le_trans hB.out.size hS0a.size))
                  obtain ⟨w2, hw2⟩ : ∃ x, x = x0b := ⟨_, rfl⟩
                  rw [← hw2] at hA2 hB2 ⊢
                  clear hw2 hS0a hS0b q1a q2a q3a r1a r2a r3a q1 q2 q3 r1 r2 r3 hA hB hBw
                  have hcell : w2.cell? ⟨wo.heap.size, p, none⟩ = some (.bool (rowR R j (p + 1) p)) := by rw [hA2.out.cell]; exact cellsB_at hpj
                  have hfr := hA2.out.frozen p
                  have hA3 : Hid (At 4 (w2.setCell ⟨wo.heap.size, p, none⟩ (.bool true)) wo.heap.size (cellsB j (midR R j p 0))) := by
                    show At _ _ _ _
                    rw [← midR_first R j p hpj hD.out.symm]
                    exact hA2.out.set p _
                  have hB3 : Hid (Below wo.heap.size wo (w2.setCell ⟨wo.heap.size, p, none⟩ (.bool true))) := hB2.out.setCell (Nat.le_refl _) _
                  clear hA2
                  go_wp2_with fail
                  go_loopw [8] (fun t wk => ∃ (k : Nat), k ≤ p ∧ t = .int .i64 k ∧ Hid (At 4 wk wo.heap.size (cellsB j (midR R j p k))) ∧ Hid (Below wo.heap.size wo wk)) (fun t _ => p - (intOf t).toNat)
                  case atStart => exact ⟨0, Nat.zero_le _, rfl, hA3.out, hB3.out⟩
                  case round =>
                    obtain ⟨k, hkp, rfl, hA4, hB4⟩ := hrel
                    clear hcell hfr hA3 hB3 hB2
                    by_cases hk : k < p
                    · obtain ⟨x, hx⟩ : ∃ k, L[p]? = some k := ⟨L[p]'(by rw [hL.out]; exact hpj), by rw [List.getElem?_eq_getElem]⟩
                      have hx2 : x.2 = (List.range p).map (hrB R p) := by
                        have e := congrArg (·[p]?) hmap.out
                        simp [headsR, hx, hpj] at e
                        exact e
                      have hcl := (hown.out.below hB4.out).cell hx
                      rw [hL.out] at hcl
                      obtain ⟨g3, c3, rfl, hc3, hcell3⟩ := hcl
                      have hckx : wr.cell? ⟨x.1, k, none⟩ = some (.bool (hrB R p k)) := by
                        rw [((hin.out x (List.mem_of_getElem? hx)).below hB4.out).cell, hx2]
                        simp [hk]
                      have hrv : rowV x = .slice (some ⟨x.1, 0, none⟩) p p := by simp [rowV, hx2]
                      rw [hrv] at hcell3
                      have hcG : wr.cell? ⟨wo.heap.size, k, none⟩ = some (.bool (midR R j p k k)) := by rw [hA4.out.cell]; exact cellsB_at (by omega)
                      have hfG := hA4.out.frozen k
                      have hA5 : Hid (At 4 (wr.setCell ⟨wo.heap.size, k, none⟩ (.bool (midR R j p k k || hrB R p k))) wo.heap.size (cellsB j (midR R j p (k + 1)))) := by
                        show At _ _ _ _
                        rw [← midR_next R j p k hpj hk hD.out.symm]
                        exact hA4.out.set k _
                      have hB5 : Hid (∀ v, Below wo.heap.size wo (wr.setCell ⟨wo.heap.size, k, none⟩ v)) := fun v => hB4.out.setCell (Nat.le_refl _) _
                      obtain ⟨X, hX⟩ : ∃ X, X = x.1 := ⟨_, rfl⟩
                      rw [← hX] at hckx hcell3
                      generalize midR R j p k k = M at *
                      generalize hrB R p k = H at *
                      clear hrv hx2 hX hx hA4 hB4
                      have k1 : (k : Int) < (p : Int) := by omega
                      have k2 : (k : Int) < (j : Int) := by omega
                      have k3 : (p : Int) < (j : Int) := by omega
                      have k4 : k < j := by omega
                      cases M <;> cases H <;>
                      · go_wp2_with fail
                        go_roundw
                        case rel => exact ⟨k + 1, by omega, by go_num, hA5.out, hB5.out _⟩
                        case measure => first | (simp [intOf]; done) | (simp [intOf]; omega)
                    · have hA5 : Hid (At 4 wr wo.heap.size (cellsB j (rowR R j p))) := by
                        show At _ _ _ _
                        rw [← midR_last, show p = k by omega]
                        have := hA4.out
                        rwa [show k = p by omega] at this ⊢
                      clear hA4
                      go_wp2_with fail
                      go_roundw
                      case rel => exact ⟨p, (p : Int) - 1, by omega, rfl, by go_num, hA5.out, hB4.out⟩
                      case measure => first | (simp [intOf]; done) | (simp [intOf]; omega)
                · have ht : Hid (¬ xt = yt) := ht
                  obtain rfl : D = true := by rw [HD.out]; simp [ht.out, h4.out, h3.out, ho.out]
                  clear HD
                  go_wp2_with fail
                  have hS0b : Below x0a.heap.size x0a x0a.drew := Below.drew (Below.refl _ _)
                  refine wp_region_held_drew (S := fun xS => Below x0a.heap.size x0a xS) (by kernel_rfl) hS0b ?_
                  obtain ⟨x0b, hx0⟩ : ∃ x, x = x0a.drew := ⟨_, rfl⟩
                  rw [← hx0] at hS0b  ⊢
                  clear hx0
                  intro _
                  refine wpAnyH_take (i := 0) (oi := { dst := some 50, op := .move (.tmp 0), type := _, pos := _, after := _, guard := none }) (v := .slice (some ⟨ga, oa, none⟩) n cap) rfl (by kernel_rfl) (by kernel_rfl) (by kernel_rfl) (fun _ _ _ h => h) (Or.inl ⟨by rfl, ?_⟩) hS0b ?_
                  · intro wS hSw
                    go_simp
                  simp only [Act.put, List.setIfInBounds_toArray, List.set_cons_zero, List.set_cons_succ]
                  refine wpAnyH_take (i := 1) (oi := { dst := some 51, op := .move (.tmp 6), type := _, pos := _, after := _, guard := none }) (v := .int .i64 (p : Int)) rfl (by kernel_rfl) (by kernel_rfl) (by kernel_rfl) (fun _ _ _ h => h) (Or.inl ⟨by rfl, ?_⟩) hS0b ?_
                  · intro wS hSw
                    go_simp
                  simp only [Act.put, List.setIfInBounds_toArray, List.set_cons_zero, List.set_cons_succ]
                  refine wpAnyH_take (i := 2) (oi := { dst := some 52, op := .indexAddr 22 (.tmp 50) (.tmp 51), type := _, pos := _, after := _, guard := none }) (v := .pointer (some ⟨ga, oa + p * 3, none⟩)) rfl (by kernel_rfl) (by kernel_rfl) (by kernel_rfl) (fun _ _ _ h => h) (Or.inl ⟨by rfl, ?_⟩) hS0b ?_
                  · intro wS hSw
                    go_simp
                  simp only [Act.put, List.setIfInBounds_toArray, List.set_cons_zero, List.set_cons_succ]
                  refine wpAnyH_take (i := 3) (oi := { dst := some 53, op := .fieldAddr 24 (.tmp 52) 0, type := _, pos := _, after := _, guard := none }) (v := .pointer (some ⟨ga, oa + p * 3, none⟩)) rfl (by kernel_rfl) (by kernel_rfl) (by kernel_rfl) (fun _ _ _ h => h) (Or.inl ⟨by rfl, ?_⟩) hS0b ?_
                  · intro wS hSw
                    go_simp
                  simp only [Act.put, List.setIfInBounds_toArray, List.set_cons_zero, List.set_cons_succ]
                  refine wpAnyH_take (i := 4) (oi := { dst := some 54, op := .load 3 (.tmp 53), type := _, pos := _, after := _, guard := none }) (v := .int .i64 xt) rfl (by kernel_rfl) (by kernel_rfl) (by kernel_rfl) (fun _ _ _ h => h) (Or.inl ⟨by rfl, ?_⟩) hS0b ?_
                  · intro wS hSw
                    have z0 := (hSw.cell (lt_of_cell q1a)).trans q1a
                    go_simp
                  simp only [Act.put, List.setIfInBounds_toArray, List.set_cons_zero, List.set_cons_succ]
                  refine wpAnyH_take (i := 5) (oi := { dst := some 55, op := .move (.tmp 0), type := _, pos := _, after := _, guard := none }) (v := .slice (some ⟨ga, oa, none⟩) n cap) rfl (by kernel_rfl) (by kernel_rfl) (by kernel_rfl) (fun _ _ _ h => h) (Or.inl ⟨by rfl, ?_⟩) hS0b ?_
                  · intro wS hSw
                    go_simp
                  simp only [Act.put, List.setIfInBounds_toArray, List.set_cons_zero, List.set_cons_succ]
                  refine wpAnyH_take (i := 6) (oi := { dst := some 56, op := .move (.tmp 4), type := _, pos := _, after := _, guard := none }) (v := .int .i64 (j : Int)) rfl (by kernel_rfl) (by kernel_rfl) (by kernel_rfl) (fun _ _ _ h => h) (Or.inl ⟨by rfl, ?_⟩) hS0b ?_
                  · intro wS hSw
                    go_simp
                  simp only [Act.put, List.setIfInBounds_toArray, List.set_cons_zero, List.set_cons_succ]
                  refine wpAnyH_take (i := 7) (oi := { dst := some 57, op := .indexAddr 22 (.tmp 55) (.tmp 56), type := _, pos := _, after := _, guard := none }) (v := .pointer (some ⟨ga, oa + j * 3, none⟩)) rfl (by kernel_rfl) (by kernel_rfl) (by kernel_rfl) (fun _ _ _ h => h) (Or.inl ⟨by rfl, ?_⟩) hS0b ?_
                  · intro wS hSw
                    go_simp
                  simp only [Act.put, List.setIfInBounds_toArray, List.set_cons_zero, List.set_cons_succ]
                  refine wpAnyH_take (i := 8) (oi := { dst := some 58, op := .fieldAddr 24 (.tmp 57) 0, type := _, pos := _, after := _, guard := none }) (v := .pointer (some ⟨ga, oa + j * 3, none⟩)) rfl (by kernel_rfl) (by kernel_rfl) (by kernel_rfl) (fun _ _ _ h => h) (Or.inl ⟨by rfl, ?_⟩) hS0b ?_
                  · intro wS hSw
                    go_simp
                  simp only [Act.put, List.setIfInBounds_toArray, List.set_cons_zero, List.set_cons_succ]
                  refine wpAnyH_take (i := 9) (oi := { dst := some 59, op := .load 3 (.tmp 58), type := _, pos := _, after := _, guard := none }) (v := .int .i64 yt) rfl (by kernel_rfl) (by kernel_rfl) (by kernel_rfl) (fun _ _ _ h => h) (Or.inl ⟨by rfl, ?_⟩) hS0b ?_
                  · intro wS hSw
                    have z0 := (hSw.cell (lt_of_cell r1a)).trans r1a
                    go_simp
                  simp only [Act.put, List.setIfInBounds_toArray, List.set_cons_zero, List.set_cons_succ]
                  refine wpAnyH_take (i := 10) (oi := { dst := some 60, op := .binOp .neq 3 (.tmp 54) (.tmp 59) 3, type := _, pos := _, after := _, guard := none }) (v := .bool true) rfl (by kernel_rfl) (by kernel_rfl) (by kernel_rfl) (fun _ _ _ h => h) (Or.inl ⟨by rfl, ?_⟩) hS0b ?_
                  · intro wS hSw
                    (go_simp; try exact ht.out)
                  simp only [Act.put, List.setIfInBounds_toArray, List.set_cons_zero, List.set_cons_succ]
                  refine wpAnyH_take (i := 11) (oi := { dst := some 61, op := .move (.tmp 60), type := _, pos := _, after := _, guard := none }) (v := .bool true) rfl (by kernel_rfl) (by kernel_rfl) (by kernel_rfl) (fun _ _ _ h => h) (Or.inl ⟨by rfl, ?_⟩) hS0b ?_
                  · intro wS hSw
                    go_simp
                  simp only [Act.put, List.setIfInBounds_toArray, List.set_cons_zero, List.set_cons_succ]
                  refine wpAnyH_take (i := 12) (oi := { dst := some 62, op := .move (.tmp 7), type := _, pos := _, after := _, guard := some (11, true) }) (v := .bool true) rfl (by kernel_rfl) (by kernel_rfl) (by kernel_rfl) (fun _ _ _ h => h) (Or.inl ⟨by rfl, ?_⟩) hS0b ?_
                  · intro wS hSw
                    go_simp
                  simp only [Act.put, List.setIfInBounds_toArray, List.set_cons_zero, List.set_cons_succ]
                  refine wpAnyH_take (i := 13) (oi := { dst := some 63, op := .unOp .not 4 (.tmp 62), type := _, pos := _, after := _, guard := some (11, true) }) (v := .bool false) rfl (by kernel_rfl) (by kernel_rfl) (by kernel_rfl) (fun _ _ _ h => h) (Or.inl ⟨by rfl, ?_⟩) hS0b ?_
                  · intro wS hSw
                    go_simp
                  simp only [Act.put, List.setIfInBounds_toArray, List.set_cons_zero, List.set_cons_succ]
                  refine wpAnyH_take (i := 14) (oi := { dst := some 64, op := .pick (.tmp 61) (.tmp 63) (.const (.bool false)), type := _, pos := _, after := _, guard := none }) (v := .bool false) rfl (by kernel_rfl) (by kernel_rfl) (by kernel_rfl) (fun _ _ _ h => h) (Or.inl ⟨by rfl, ?_⟩) hS0b ?_
                  · intro wS hSw
                    go_simp
                  simp only [Act.put, List.setIfInBounds_toArray, List.set_cons_zero, List.set_cons_succ]
                  refine wpAnyH_done (by kernel_rfl) ?_ _
                  have hA2 : Hid (At 4 x0b wo.heap.size (cellsB j (rowR R j (p + 1)))) := (hA.out.below hS0a).below hS0b
                  have hB2 : Hid (Below wo.heap.size wo x0b) := (hB.out.trans (hS0a.mono hB.out.size)).trans (hS0b.mono (Nat.le_trans hB.out.size hS0a.size))
                  obtain ⟨w2, hw2⟩ : ∃ x, x = x0b := ⟨_, rfl⟩
                  rw [← hw2] at hA2 hB2 ⊢
                  clear hw2 hS0a hS0b q1a q2a q3a r1a r2a r3a q1 q2 q3 r1 r2 r3 hA hB hBw
                  have hcell : w2.cell? ⟨wo.heap.size, p, none⟩ = some (.bool (rowR R j (p + 1) p)) := by rw [hA2.out.cell]; exact cellsB_at hpj
                  have hfr := hA2.out.frozen p
                  have hA3 : Hid (At 4 (w2.setCell ⟨wo.heap.size, p, none⟩ (.bool true)) wo.heap.size (cellsB j (midR R j p 0))) := by
                    show At _ _ _ _
                    rw [← midR_first R j p hpj hD.out.symm]
                    exact hA2.out.set p _
                  have hB3 : Hid (Below wo.heap.size wo (w2.setCell ⟨wo.heap.size, p, none⟩ (.bool true))) := hB2.out.setCell (Nat.le_refl _) _
                  clear hA2
                  go_wp2_with fail
                  go_loopw [8] (fun t wk => ∃ (k : Nat), k ≤ p ∧ t = .int .i64 k ∧ Hid (At 4 wk wo.heap.size (cellsB j (midR R j p k))) ∧ Hid (Below wo.heap.size wo wk)) (fun t _ => p - (intOf t).toNat)
                  case atStart => exact ⟨0, Nat.zero_le _, rfl, hA3.out, hB3.out⟩
                  case round =>
                    obtain ⟨k, hkp, rfl, hA4, hB4⟩ := hrel
                    clear hcell hfr hA3 hB3 hB2
                    by_cases hk : k < p
                    · obtain ⟨x, hx⟩ : ∃ k, L[p]? = some k := ⟨L[p]'(by rw [hL.out]; exact hpj), by rw [List.getElem?_eq_getElem]⟩
                      have hx2 : x.2 = (List.range p).map (hrB R p) := by
                        have e := congrArg (·[p]?) hmap.out
                        simp [headsR, hx, hpj] at e
                        exact e
                      have hcl := (hown.out.below hB4.out).cell hx
                      rw [hL.out] at hcl
                      obtain ⟨g3, c3, rfl, hc3, hcell3⟩ := hcl
                      have hckx : wr.cell? ⟨x.1, k, none⟩ = some (.bool (hrB R p k)) := by
                        rw [((hin.out x (List.mem_of_getElem? hx)).below hB4.out).cell, hx2]
                        simp [hk]
                      have hrv : rowV x = .slice (some ⟨x.1, 0, none⟩) p p := by simp [rowV, hx2]
                      rw [hrv] at hcell3
                      have hcG : wr.cell? ⟨wo.heap.size, k, none⟩ = some (.bool (midR R j p k k)) := by rw [hA4.out.cell]; exact cellsB_at (by omega)
                      have hfG := hA4.out.frozen k
                      have hA5 : Hid (At 4 (wr.setCell ⟨wo.heap.size, k, none⟩ (.bool (midR R j p k k || hrB R p k))) wo.heap.size (cellsB j (midR R j p (k + 1)))) := by
                        show At _ _ _ _
                        rw [← midR_next R j p k hpj hk hD.out.symm]
                        exact hA4.out.set k _
                      have hB5 : Hid (∀ v, Below wo.heap.size wo (wr.setCell ⟨wo.heap.size, k, none⟩ v)) := fun v => hB4.out.setCell (Nat.le_refl _) _
                      obtain ⟨X, hX⟩ : ∃ X, X = x.1 := ⟨_, rfl⟩
                      rw [← hX] at hckx hcell3
                      generalize midR R j p k k = M at *
                      generalize hrB R p k = H at *
                      clear hrv hx2 hX hx hA4 hB4
                      have k1 : (k : Int) < (p : Int) := by omega
                      have k2 : (k : Int) < (j : Int) := by omega
                      have k3 : (p : Int) < (j : Int) := by omega
                      have k4 : k < j := by omega
                      cases M <;> cases H <;>
                      · go_wp2_with fail
                        go_roundw
                        case rel => exact ⟨k + 1, by omega, by go_num, hA5.out, hB5.out _⟩
                        case measure => first | (simp [intOf]; done) | (simp [intOf]; omega)
                    · have hA5 : Hid (At 4 wr wo.heap.size (cellsB j (rowR R j p))) := by
                        show At _ _ _ _
                        rw [← midR_last, show p = k by omega]
                        have := hA4.out
                        rwa [show k = p by omega] at this ⊢
                      clear hA4
                      go_wp2_with fail
                      go_roundw
                      case rel => exact ⟨p, (p : Int) - 1, by omega, rfl, by go_num, hA5.out, hB4.out⟩
                      case measure => first | (simp [intOf]; done) | (simp [intOf]; omega)
              · have ho : Hid (¬ xo = yo) := ho
                go_wp2_with fail
                have hS0a : Below wm.heap.size wm wm.drew := Below.drew (Below.refl _ _)
                refine wp_region_held_drew (S := fun xS => Below wm.heap.size wm xS) (by kernel_rfl) hS0a ?_
                obtain ⟨x0a, hx0⟩ : ∃ x, x = wm.drew := ⟨_, rfl⟩
                rw [← hx0] at hS0a  ⊢
                clear hx0
                intro _
                refine wpAnyH_take (i := 0) (oi := { dst := some 23, op := .move (.tmp 0), type := _, pos := _, after := _, guard := none }) (v := .slice (some ⟨ga, oa, none⟩) n cap) rfl (by kernel_rfl) (by kernel_rfl) (by kernel_rfl) (fun _ _ _ h => h) (Or.inl ⟨by rfl, ?_⟩) hS0a ?_
                · intro wS hSw
                  go_simp
                simp only [Act.put, List.setIfInBounds_toArray, List.set_cons_zero, List.set_cons_succ]
                refine wpAnyH_take (i := 1) (oi := { dst := some 24, op := .move (.tmp 6), type := _, pos := _, after := _, guard := none }) (v := .int .i64 (p : Int)) rfl (by kernel_rfl) (by kernel_rfl) (by kernel_rfl) (fun _ _ _ h => h) (Or.inl ⟨by rfl, ?_⟩) hS0a ?_
                · intro wS hSw
                  go_simp
                simp only [Act.put, List.setIfInBounds_toArray, List.set_cons_zero, List.set_cons_succ]
                refine wpAnyH_take (i := 2) (oi := { dst := some 25, op := .indexAddr 22 (.tmp 23) (.tmp 24), type := _, pos := _, after := _, guard := none }) (v := .pointer (some ⟨ga, oa + p * 3, none⟩)) rfl (by kernel_rfl) (by kernel_rfl) (by kernel_rfl) (fun _ _ _ h => h) (Or.inl ⟨by rfl, ?_⟩) hS0a ?_
                · intro wS hSw
                  go_simp
                simp only [Act.put, List.setIfInBounds_toArray, List.set_cons_zero, List.set_cons_succ]
                refine wpAnyH_take (i := 3) (oi := { dst := some 26, op := .fieldAddr 24 (.tmp 25) 1, type := _, pos := _, after := _, guard := none }) (v := .pointer (some ⟨ga, oa + p * 3 + 1, none⟩)) rfl (by kernel_rfl) (by kernel_rfl) (by kernel_rfl) (fun _ _ _ h => h) (Or.inl ⟨by rfl, ?_⟩) hS0a ?_
                · intro wS hSw
                  go_simp
                simp only [Act.put, List.setIfInBounds_toArray, List.set_cons_zero, List.set_cons_succ]
                refine wpAnyH_take (i := 4) (oi := { dst := some 27, op := .load 3 (.tmp 26), type := _, pos := _, after := _, guard := none }) (v := .int .i64 xk) rfl (by kernel_rfl) (by kernel_rfl) (by kernel_rfl) (fun _ _ _ h => h) (Or.inl ⟨by rfl, ?_⟩) hS0a ?_
                · intro wS hSw
                  have z0 := (hSw.cell (lt_of_cell q2)).trans q2
                  go_simp
                simp only [Act.put, List.setIfInBounds_toArray, List.set_cons_zero, List.set_cons_succ]
                refine wpAnyH_take (i := 5) (oi := { dst := some 28, op := .binOp .eql 3 (.tmp 27) (.const (.int .i64 4)) 3, type := _, pos := _, after := _, guard := none }) (v := .bool true) rfl (by kernel_rfl) (by kernel_rfl) (by kernel_rfl) (fun _ _ _ h => h) (Or.inl ⟨by rfl, ?_⟩) hS0a ?_
                · intro wS hSw
                  (go_simp; try exact h4.out)
                simp only [Act.put, List.setIfInBounds_toArray, List.set_cons_zero, List.set_cons_succ]
                refine wpAnyH_take (i := 6) (oi := { dst := some 29, op := .move (.tmp 28), type := _, pos := _, after := _, guard := none }) (v := .bool true) rfl (by kernel_rfl) (by kernel_rfl) (by kernel_rfl) (fun _ _ _ h => h) (Or.inl ⟨by rfl, ?_⟩) hS0a ?_
                · intro wS hSw
                  go_simp
                simp only [Act.put, List.setIfInBounds_toArray, List.set_cons_zero, List.set_cons_succ]
                refine wpAnyH_take (i := 7) (oi := { dst := some 30, op := .move (.tmp 0), type := _, pos := _, after := _, guard := some (6, true) }) (v := .slice (some ⟨ga, oa, none⟩) n cap) rfl (by kernel_rfl) (by kernel_rfl) (by kernel_rfl) (fun _ _ _ h => h) (Or.inl ⟨by rfl, ?_⟩) hS0a ?_
                · intro wS hSw
                  go_simp
                simp only [Act.put, List.setIfInBounds_toArray, List.set_cons_zero, List.set_cons_succ]
                refine wpAnyH_take (i := 8) (oi := { dst := some 31, op := .move (.tmp 4), type := _, pos := _, after := _, guard := some (6, true) }) (v := .int .i64 (j : Int)) rfl (by kernel_rfl) (by kernel_rfl) (by kernel_rfl) (fun _ _ _ h => h) (Or.inl ⟨by rfl, ?_⟩) hS0a ?_
                · intro wS hSw
                  go_simp
                simp only [Act.put, List.setIfInBounds_toArray, List.set_cons_zero, List.set_cons_succ]
                refine wpAnyH_take (i := 9) (oi := { dst := some 32, op := .indexAddr 22 (.tmp 30) (.tmp 31), type := _, pos := _, after := _, guard := some (6, true) }) (v := .pointer (some ⟨ga, oa + j * 3, none⟩)) rfl (by kernel_rfl) (by kernel_rfl) (by kernel_rfl) (fun _ _ _ h => h) (Or.inl ⟨by rfl, ?_⟩) hS0a ?_
                · intro wS hSw
                  go_simp
                simp only [Act.put, List.setIfInBounds_toArray, List.set_cons_zero, List.set_cons_succ]
                refine wpAnyH_take (i := 10) (oi := { dst := some 33, op := .fieldAddr 24 (.tmp 32) 1, type := _, pos := _, after := _, guard := some (6, true) }) (v := .pointer (some ⟨ga, oa + j * 3 + 1, none⟩)) rfl (by kernel_rfl) (by kernel_rfl) (by kernel_rfl) (fun _ _ _ h => h) (Or.inl ⟨by rfl, ?_⟩) hS0a ?_
                · intro wS hSw
                  go_simp
                simp only [Act.put, List.setIfInBounds_toArray, List.set_cons_zero, List.set_cons_succ]
                refine wpAnyH_take (i := 11) (oi := { dst := some 34, op := .load 3 (.tmp 33), type := _, pos := _, after := _, guard := some (6, true) }) (v := .int .i64 yk) rfl (by kernel_rfl) (by kernel_rfl) (by kernel_rfl) (fun _ _ _ h => h) (Or.inl ⟨by rfl, ?_⟩) hS0a ?_
                · intro wS hSw
                  have z0 := (hSw.cell (lt_of_cell r2)).trans r2
                  go_simp
                simp only [Act.put, List.setIfInBounds_toArray, List.set_cons_zero, List.set_cons_succ]
                refine wpAnyH_take (i := 12) (oi := { dst := some 35, op := .binOp .eql 3 (.tmp 34) (.const (.int .i64 3)) 3, type := _, pos := _, after := _, guard := some (6, true) }) (v := .bool true) rfl (by kernel_rfl) (by kernel_rfl) (by kernel_rfl) (fun _ _ _ h => h) (Or.inl ⟨by rfl, ?_⟩) hS0a ?_
                · intro wS hSw
                  (go_simp; try exact h3.out)
                simp only [Act.put, List.setIfInBounds_toArray, List.set_cons_zero, List.set_cons_succ]
                refine wpAnyH_take (i := 13) (oi := { dst := some 36, op := .pick (.tmp 29) (.tmp 35) (.const (.bool false)), type := _, pos := _, after := _, guard := none }) (v := .bool true) rfl (by kernel_rfl) (by kernel_rfl) (by kernel_rfl) (fun _ _ _ h => h) (Or.inl ⟨by rfl, ?_⟩) hS0a ?_
                · intro wS hSw
                  go_simp
                simp only [Act.put, List.setIfInBounds_toArray, List.set_cons_zero, List.set_cons_succ]
                refine wpAnyH_take (i := 14) (oi := { dst := some 37, op := .move (.tmp 36), type := _, pos := _, after := _, guard := none }) (v := .bool true) rfl (by kernel_rfl) (by kernel_rfl) (by kernel_rfl) (fun _ _ _ h => h) (Or.inl ⟨by rfl, ?_⟩) hS0a ?_
                · intro wS hSw
                  go_simp
                simp only [Act.put, List.setIfInBounds_toArray, List.set_cons_zero, List.set_cons_succ]
                refine wpAnyH_take (i := 15) (oi := { dst := some 38, op := .move (.tmp 0), type := _, pos := _, after := _, guard := some (14, true) }) (v := .slice (some ⟨ga, oa, none⟩) n cap) rfl (by kernel_rfl) (by kernel_rfl) (by kernel_rfl) (fun _ _ _ h => h) (Or.inl ⟨by rfl, ?_⟩) hS0a ?_
                · intro wS hSw
                  go_simp
                simp only [Act.put, List.setIfInBounds_toArray, List.set_cons_zero, List.set_cons_succ]
                refine wpAnyH_take (i := 16) (oi := { dst := some 39, op := .move (.tmp 6), type := _, pos := _, after := _, guard := some (14, true) }) (v := .int .i64 (p : Int)) rfl (by kernel_rfl) (by kernel_rfl) (by kernel_rfl) (fun _ _ _ h => h) (Or.inl ⟨by rfl, ?_⟩) hS0a ?_
                · intro wS hSw
                  go_simp
                simp only [Act.put, List.setIfInBounds_toArray, List.set_cons_zero, List.set_cons_succ]
                refine wpAnyH_take (i := 17) (oi := { dst := some 40, op := .indexAddr 22 (.tmp 38) (.tmp 39), type := _, pos := _, after := _, guard := some (14, true) }) (v := .pointer (some ⟨ga, oa + p * 3, none⟩)) rfl (by kernel_rfl) (by kernel_rfl) (by kernel_rfl) (fun _ _ _ h => h) (Or.inl ⟨by rfl, ?_⟩) hS0a ?_
                · intro wS hSw
                  go_simp
                simp only [Act.put, List.setIfInBounds_toArray, List.set_cons_zero, List.set_cons_succ]
                refine wpAnyH_take (i := 18) (oi := { dst := some 41, op := .fieldAddr 24 (.tmp 40) 2, type := _, pos := _, after := _, guard := some (14, true) }) (v := .pointer (some ⟨ga, oa + p * 3 + 2, none⟩)) rfl (by kernel_rfl) (by kernel_rfl) (by kernel_rfl) (fun _ _ _ h => h) (Or.inl ⟨by rfl, ?_⟩) hS0a ?_
                · intro wS hSw
                  go_simp
                simp only [Act.put, List.setIfInBounds_toArray, List.set_cons_zero, List.set_cons_succ]
                refine wpAnyH_take (i := 19) (oi := { dst := some 42, op := .load 3 (.tmp 41), type := _, pos := _, after := _, guard := some (14, true) }) (v := .int .i64 xo) rfl (by kernel_rfl) (by kernel_rfl) (by kernel_rfl) (fun _ _ _ h => h) (Or.inl ⟨by rfl, ?_⟩) hS0a ?_
                · intro wS hSw
                  have z0 := (hSw.cell (lt_of_cell q3)).trans q3
                  go_simp
                simp only [Act.put, List.setIfInBounds_toArray, List.set_cons_zero, List.set_cons_succ]
                refine wpAnyH_take (i := 20) (oi := { dst := some 43, op := .move (.tmp 0), type := _, pos := _, after := _, guard := some (14, true) }) (v := .slice (some ⟨ga, oa, none⟩) n cap) rfl (by kernel_rfl) (by kernel_rfl) (by kernel_rfl) (fun _ _ _ h => h) (Or.inl ⟨by rfl, ?_⟩) hS0a ?_
                · intro wS hSw
                  go_simp
                simp only [Act.put, List.setIfInBounds_toArray, List.set_cons_zero, List.set_cons_succ]
                refine wpAnyH_take (i := 21) (oi := { dst := some 44, op := .move (.tmp 4), type := _, pos := _, after := _, guard := some (14, true) }) (v := .int .i64 (j : Int)) rfl (by kernel_rfl) (by kernel_rfl) (by kernel_rfl) (fun _ _ _ h => h) (Or.inl ⟨by rfl, ?_⟩) hS0a ?_
                · intro wS hSw
                  go_simp
                simp only [Act.put, List.setIfInBounds_toArray, List.set_cons_zero, List.set_cons_succ]
                refine wpAnyH_take (i := 22) (oi := { dst := some 45, op := .indexAddr 22 (.tmp 43) (.tmp 44), type := _, pos := _, after := _, guard := some (14, true) }) (v := .pointer (some ⟨ga, oa + j * 3, none⟩)) rfl (by kernel_rfl) (by kernel_rfl) (by kernel_rfl) (fun _ _ _ h => h) (Or.inl ⟨by rfl, ?_⟩) hS0a ?_
                · intro wS hSw
                  go_simp
                simp only [Act.put, List.setIfInBounds_toArray, List.set_cons_zero, List.set_cons_succ]
                refine wpAnyH_take (i := 23) (oi := { dst := some 46, op := .fieldAddr 24 (.tmp 45) 2, type := _, pos := _, after := _, guard := some (14, true) }) (v := .pointer (some ⟨ga, oa + j * 3 + 2, none⟩)) rfl (by kernel_rfl) (by kernel_rfl) (by kernel_rfl) (fun _ _ _ h => h) (Or.inl ⟨by rfl, ?_⟩) hS0a ?_
                · intro wS hSw
                  go_simp
                simp only [Act.put, List.setIfInBounds_toArray, List.set_cons_zero, List.set_cons_succ]
                refine wpAnyH_take (i := 24) (oi := { dst := some 47, op := .load 3 (.tmp 46), type := _, pos := _, after := _, guard := some (14, true) }) (v := .int .i64 yo) rfl (by kernel_rfl) (by kernel_rfl) (by kernel_rfl) (fun _ _ _ h => h) (Or.inl ⟨by rfl, ?_⟩) hS0a ?_
                · intro wS hSw
                  have z0 := (hSw.cell (lt_of_cell r3)).trans r3
                  go_simp
                simp only [Act.put, List.setIfInBounds_toArray, List.set_cons_zero, List.set_cons_succ]
                refine wpAnyH_take (i := 25) (oi := { dst := some 48, op := .binOp .eql 3 (.tmp 42) (.tmp 47) 3, type := _, pos := _, after := _, guard := some (14, true) }) (v := .bool false) rfl (by kernel_rfl) (by kernel_rfl) (by kernel_rfl) (fun _ _ _ h => h) (Or.inl ⟨by rfl, ?_⟩) hS0a ?_
                · intro wS hSw
                  (go_simp; try exact ho.out)
                simp only [Act.put, List.setIfInBounds_toArray, List.set_cons_zero, List.set_cons_succ]
                refine wpAnyH_take (i := 26) (oi := { dst := some 49, op := .pick (.tmp 37) (.tmp 48) (.const (.bool false)), type := _, pos := _, after := _, guard := none }) (v := .bool false) rfl (by kernel_rfl) (by kernel_rfl) (by kernel_rfl) (fun _ _ _ h => h) (Or.inl ⟨by rfl, ?_⟩) hS0a ?_
                · intro wS hSw
                  go_simp
                simp only [Act.put, List.setIfInBounds_toArray, List.set_cons_zero, List.set_cons_succ]
                refine wpAnyH_take (i := 27) (oi := { dst := some 7, op := .assign (.tmp 49), type := _, pos := _, after := _, guard := none }) (v := .bool false) rfl (by kernel_rfl) (by kernel_rfl) (by kernel_rfl) (fun _ _ _ h => h) (Or.inl ⟨by rfl, ?_⟩) hS0a ?_
                · intro wS hSw
                  go_simp
                simp only [Act.put, List.setIfInBounds_toArray, List.set_cons_zero, List.set_cons_succ]
                refine wpAnyH_done (by kernel_rfl) ?_ _
                have q1a := (hS0a.cell (lt_of_cell q1)).trans q1
                have q2a := (hS0a.cell (lt_of_cell q2)).trans q2
                have q3a := (hS0a.cell (lt_of_cell q3)).trans q3
                have r1a := (hS0a.cell (lt_of_cell r1)).trans r1
                have r2a := (hS0a.cell (lt_of_cell r2)).trans r2
                have r3a := (hS0a.cell (lt_of_cell r3)).trans r3
                by_cases ht : xt = yt
                · have ht : Hid (xt = yt) := ht
                  obtain rfl : D = true := by rw [HD.out]; simp [ht.out, h4.out, h3.out, ho.out]
                  clear HD
                  go_wp2_with fail
                  have hS0b : Below x0a.heap.size x0a x0a.drew := Below.drew (Below.refl _ _)
                  refine wp_region_held_drew (S := fun xS => Below x0a.heap.size x0a xS) (by kernel_rfl) hS0b ?_
                  obtain ⟨x0b, hx0⟩ : ∃ x, x = x0a.drew := ⟨_, rfl⟩
                  rw [← hx0] at hS0b  ⊢
                  clear hx0
                  intro _
                  refine wpAnyH_take (i := 0) (oi := { dst := some 50, op := .move (.tmp 0), type := _, pos := _, after := _, guard := none }) (v := .slice (some ⟨ga, oa, none⟩) n cap) rfl (by kernel_rfl) (by kernel_rfl) (by kernel_rfl) (fun _ _ _ h => h) (Or.inl ⟨by rfl, ?_⟩) hS0b ?_
                  · intro wS hSw
                    go_simp
                  simp only [Act.put, List.setIfInBounds_toArray, List.set_cons_zero, List.set_cons_succ]
                  refine wpAnyH_take (i := 1) (oi := { dst := some 51, op := .move (.tmp 6), type := _, pos := _, after := _, guard := none }) (v := .int .i64 (p : Int)) rfl (by kernel_rfl) (by kernel_rfl) (by kernel_rfl) (fun _ _ _ h => h) (Or.inl ⟨by rfl, ?_⟩) hS0b ?_
                  · intro wS hSw
                    go_simp
                  simp only [Act.put, List.setIfInBounds_toArray, List.set_cons_zero, List.set_cons_succ]
                  refine wpAnyH_take (i := 2) (oi := { dst := some 52, op := .indexAddr 22 (.tmp 50) (.tmp 51), type := _, pos := _, after := _, guard := none }) (v := .pointer (some ⟨ga, oa + p * 3, none⟩)) rfl (by kernel_rfl) (by kernel_rfl) (by kernel_rfl) (fun _ _ _ h => h) (Or.inl ⟨by rfl, ?_⟩) hS0b ?_
                  · intro wS hSw
                    go_simp
                  simp only [Act.put, List.setIfInBounds_toArray, List.set_cons_zero, List.set_cons_succ]
                  refine wpAnyH_take (i := 3) (oi := { dst := some 53, op := .fieldAddr 24 (.tmp 52) 0, type := _, pos := _, after := _, guard := none }) (v := .pointer (some ⟨ga, oa + p * 3, none⟩)) rfl (by kernel_rfl) (by kernel_rfl) (by kernel_rfl) (fun _ _ _ h => h) (Or.inl ⟨by rfl, ?_⟩) hS0b ?_
                  · intro wS hSw
                    go_simp
                  simp only [Act.put, List.setIfInBounds_toArray, List.set_cons_zero, List.set_cons_succ]
                  refine wpAnyH_take (i := 4) (oi := { dst := some 54, op := .load 3 (.tmp 53), type := _, pos := _, after := _, guard := none }) (v := .int .i64 xt) rfl (by kernel_rfl) (by kernel_rfl) (by kernel_rfl) (fun _ _ _ h => h) (Or.inl ⟨by rfl, ?_⟩) hS0b ?_
                  · intro wS hSw
                    have z0 := (hSw.cell (lt_of_cell q1a)).trans q1a
                    go_simp
                  simp only [Act.put, List.setIfInBounds_toArray, List.set_cons_zero, List.set_cons_succ]
                  refine wpAnyH_take (i := 5) (oi := { dst := some 55, op := .move (.tmp 0), type := _, pos := _, after := _, guard := none }) (v := .slice (some ⟨ga, oa, none⟩) n cap) rfl (by kernel_rfl) (by kernel_rfl) (by kernel_rfl) (fun _ _ _ h => h) (Or.inl ⟨by rfl, ?_⟩) hS0b ?_
                  · intro wS hSw
                    go_simp
                  simp only [Act.put, List.setIfInBounds_toArray, List.set_cons_zero, List.set_cons_succ]
                  refine wpAnyH_take (i := 6) (oi := { dst := some 56, op := .move (.tmp 4), type := _, pos := _, after := _, guard := none }) (v := .int .i64 (j : Int)) rfl (by kernel_rfl) (by kernel_rfl) (by kernel_rfl) (fun _ _ _ h => h) (Or.inl ⟨by rfl, ?_⟩) hS0b ?_
                  · intro wS hSw
                    go_simp
                  simp only [Act.put, List.setIfInBounds_toArray, List.set_cons_zero, List.set_cons_succ]
                  refine wpAnyH_take (i := 7) (oi := { dst := some 57, op := .indexAddr 22 (.tmp 55) (.tmp 56), type := _, pos := _, after := _, guard := none }) (v := .pointer (some ⟨ga, oa + j * 3, none⟩)) rfl (by kernel_rfl) (by kernel_rfl) (by kernel_rfl) (fun _ _ _ h => h) (Or.inl ⟨by rfl, ?_⟩) hS0b ?_
                  · intro wS hSw
                    go_simp
                  simp only [Act.put, List.setIfInBounds_toArray, List.set_cons_zero, List.set_cons_succ]
                  refine wpAnyH_take (i := 8) (oi := { dst := some 58, op := .fieldAddr 24 (.tmp 57) 0, type := _, pos := _, after := _, guard := none }) (v := .pointer (some ⟨ga, oa + j * 3, none⟩)) rfl (by kernel_rfl) (by kernel_rfl) (by kernel_rfl) (fun _ _ _ h => h) (Or.inl ⟨by rfl, ?_⟩) hS0b ?_
                  · intro wS hSw
                    go_simp
                  simp only [Act.put, List.setIfInBounds_toArray, List.set_cons_zero, List.set_cons_succ]
                  refine wpAnyH_take (i := 9) (oi := { dst := some 59, op := .load 3 (.tmp 58), type := _, pos := _, after := _, guard := none }) (v := .int .i64 yt) rfl (by kernel_rfl) (by kernel_rfl) (by kernel_rfl) (fun _ _ _ h => h) (Or.inl ⟨by rfl, ?_⟩) hS0b ?_
                  · intro wS hSw
                    have z0 := (hSw.cell (lt_of_cell r1a)).trans r1a
                    go_simp
                  simp only [Act.put, List.setIfInBounds_toArray, List.set_cons_zero, List.set_cons_succ]
                  refine wpAnyH_take (i := 10) (oi := { dst := some 60, op := .binOp .neq 3 (.tmp 54) (.tmp 59) 3, type := _, pos := _, after := _, guard := none }) (v := .bool false) rfl (by kernel_rfl) (by kernel_rfl) (by kernel_rfl) (fun _ _ _ h => h) (Or.inl ⟨by rfl, ?_⟩) hS0b ?_
                  · intro wS hSw
                    (go_simp; try exact ht.out)
                  simp only [Act.put, List.setIfInBounds_toArray, List.set_cons_zero, List.set_cons_succ]
                  refine wpAnyH_take (i := 11) (oi := { dst := some 61, op := .move (.tmp 60), type := _, pos := _, after := _, guard := none }) (v := .bool false) rfl (by kernel_rfl) (by kernel_rfl) (by kernel_rfl) (fun _ _ _ h => h) (Or.inl ⟨by rfl, ?_⟩) hS0b ?_
                  · intro wS hSw
                    go_simp
                  simp only [Act.put, List.setIfInBounds_toArray, List.set_cons_zero, List.set_cons_succ]
                  refine wpAnyH_take (i := 12) (oi := { dst := some 62, op := .move (.tmp 7), type := _, pos := _, after := _, guard := some (11, true) }) (v := undef) rfl (by kernel_rfl) (by kernel_rfl) (by kernel_rfl) (fun _ _ _ h => h) (Or.inr ⟨by rfl, rfl⟩) hS0b ?_
                  simp only [Act.put, List.setIfInBounds_toArray, List.set_cons_zero, List.set_cons_succ]
                  refine wpAnyH_take (i := 13) (oi := { dst := some 63, op := .unOp .not 4 (.tmp 62), type := _, pos := _, after := _, guard := some (11, true) }) (v := undef) rfl (by kernel_rfl) (by kernel_rfl) (by kernel_rfl) (fun _ _ _ h => h) (Or.inr ⟨by rfl, rfl⟩) hS0b ?_
                  simp only [Act.put, List.setIfInBounds_toArray, List.set_cons_zero, List.set_cons_succ]
                  refine wpAnyH_take (i := 14) (oi := { dst := some 64, op := .pick (.tmp 61) (.tmp 63) (.const (.bool false)), type := _, pos := _, after := _, guard := none }) (v := .bool false) rfl (by kernel_rfl) (by kernel_rfl) (by kernel_rfl) (fun _ _ _ h => h) (Or.inl ⟨by rfl, ?_⟩) hS0b ?_
                  · intro wS hSw
                    go_simp
                  simp only [Act.put, List.setIfInBounds_toArray, List.set_cons_zero, List.set_cons_succ]
                  refine wpAnyH_done (by kernel_rfl) ?_ _
                  have hA2 : Hid (At 4 x0b wo.heap.size (cellsB j (rowR R j (p + 1)))) := (hA.out.below hS0a).below hS0b
                  have hB2 : Hid (Below wo.heap.size wo x0b) := (hB.out.trans (hS0a.mono hB.out.size)).trans (hS0b.mono (Nat.le_trans hB.out.size hS0a.size))
                  obtain ⟨w2, hw2⟩ : ∃ x, x = x0b := ⟨_, rfl⟩
                  rw [← hw2] at hA2 hB2 ⊢
                  clear hw2 hS0a hS0b q1a q2a q3a r1a r2a r3a q1 q2 q3 r1 r2 r3 hA hB hBw
                  have hcell : w2.cell? ⟨wo.heap.size, p, none⟩ = some (.bool (rowR R j (p + 1) p)) := by rw [hA2.out.cell]; exact cellsB_at hpj
                  have hfr := hA2.out.frozen p
                  have hA3 : Hid (At 4 (w2.setCell ⟨wo.heap.size, p, none⟩ (.bool true)) wo.heap.size (cellsB j (midR R j p 0))) := by
                    show At _ _ _ _
                    rw [← midR_first R j p hpj hD.out.symm]
                    exact hA2.out.set p _
                  have hB3 : Hid (Below wo.heap.size wo (w2.setCell ⟨wo.heap.size, p, none⟩ (.bool true))) := hB2.out.setCell (Nat.le_refl _) _
                  clear hA2
                  go_wp2_with fail
                  go_loopw [8] (fun t wk => ∃ (k : Nat), k ≤ p ∧ t = .int .i64 k ∧ Hid (At 4 wk wo.heap.size (cellsB j (midR R j p k))) ∧ Hid (Below wo.heap.size wo wk)) (fun t _ => p - (intOf t).toNat)
                  case atStart => exact ⟨0, Nat.zero_le _, rfl, hA3.out, hB3.out⟩
                  case round =>
                    obtain ⟨k, hkp, rfl, hA4, hB4⟩ := hrel
                    clear hcell hfr hA3 hB3 hB2
                    by_cases hk : k < p
                    · obtain ⟨x, hx⟩ : ∃ k, L[p]? = some k := ⟨L[p]'(by rw [hL.out]; exact hpj), by rw [List.getElem?_eq_getElem]⟩
                      have hx2 : x.2 = (List.range p).map (hrB R p) := by
                        have e := congrArg (·[p]?) hmap.out
                        simp [headsR, hx, hpj] at e
                        exact e
                      have hcl := (hown.out.below hB4.out).cell hx
                      rw [hL.out] at hcl
                      obtain ⟨g3, c3, rfl, hc3, hcell3⟩ := hcl
                      have hckx : wr.cell? ⟨x.1, k, none⟩ = some (.bool (hrB R p k)) := by
                        rw [((hin.out x (List.mem_of_getElem? hx)).below hB4.out).cell, hx2]
                        simp [hk]
                      have hrv : rowV x = .slice (some ⟨x.1, 0, none⟩) p p := by simp [rowV, hx2]
                      rw [hrv] at hcell3
                      have hcG : wr.cell? ⟨wo.heap.size, k, none⟩ = some (.bool (midR R j p k k)) := by rw [hA4.out.cell]; exact cellsB_at (by omega)
                      have hfG := hA4.out.frozen k
                      have hA5 : Hid (At 4 (wr.setCell ⟨wo.heap.size, k, none⟩ (.bool (midR R j p k k || hrB R p k))) wo.heap.size (cellsB j (midR R j p (k + 1)))) := by
                        show At _ _ _ _
                        rw [← midR_next R j p k hpj hk hD.out.symm]
                        exact hA4.out.set k _
                      have hB5 : Hid (∀ v, Below wo.heap.size wo (wr.setCell ⟨wo.heap.size, k, none⟩ v)) := fun v => hB4.out.setCell (Nat.le_refl _) _
                      obtain ⟨X, hX⟩ : ∃ X, X = x.1 := ⟨_, rfl⟩
                      rw [← hX] at hckx hcell3
                      generalize midR R j p k k = M at *
                      generalize hrB R p k = H at *
                      clear hrv hx2 hX hx hA4 hB4
                      have k1 : (k : Int) < (p : Int) := by omega
                      have k2 : (k : Int) < (j : Int) := by omega
                      have k3 : (p : Int) < (j : Int) := by omega
                      have k4 : k < j := by omega
                      cases M <;> cases H <;>
                      · go_wp2_with fail
                        go_roundw
                        case rel => exact ⟨k + 1, by omega, by go_num, hA5.out, hB5.out _⟩
                        case measure => first | (simp [intOf]; done) | (simp [intOf]; omega)
                    · have hA5 : Hid (At 4 wr wo.heap.size (cellsB j (rowR R j p))) := by
                        show At _ _ _ _
                        rw [← midR_last, show p = k by omega]
                        have := hA4.out
                        rwa [show k = p by omega] at this ⊢
                      clear hA4
                      go_wp2_with fail
                      go_roundw
                      case rel => exact ⟨p, (p : Int) - 1, by omega, rfl, by go_num, hA5.out, hB4.out⟩
                      case measure => first | (simp [intOf]; done) | (simp [intOf]; omega)
                · have ht : Hid (¬ xt = yt) := ht
                  obtain rfl : D = false := by rw [HD.out]; simp [ht.out, h4.out, h3.out, ho.out]
                  clear HD
                  go_wp2_with fail
                  have hS0b : Below x0a.heap.size x0a x0a.drew := Below.drew (Below.refl _ _)
                  refine wp_region_held_drew (S := fun xS => Below x0a.heap.size x0a xS) (by kernel_rfl) hS0b ?_
                  obtain ⟨x0b, hx0⟩ : ∃ x, x = x0a.drew := ⟨_, rfl⟩
                  rw [← hx0] at hS0b  ⊢
                  clear hx0
                  intro _
                  refine wpAnyH_take (i := 0) (oi := { dst := some 50, op := .move (.tmp 0), type := _, pos := _, after := _, guard := none }) (v := .slice (some ⟨ga, oa, none⟩) n cap) rfl (by kernel_rfl) (by kernel_rfl) (by kernel_rfl) (fun _ _ _ h => h) (Or.inl ⟨by rfl, ?_⟩) hS0b ?_
                  · intro wS hSw
                    go_simp
                  simp only [Act.put, List.setIfInBounds_toArray, List.set_cons_zero, List.set_cons_succ]
                  refine wpAnyH_take (i := 1) (oi := { dst := some 51, op := .move (.tmp 6), type := _, pos := _, after := _, guard := none }) (v := .int .i64 (p : Int)) rfl (by kernel_rfl) (by kernel_rfl) (by kernel_rfl) (fun _ _ _ h => h) (Or.inl ⟨by rfl, ?_⟩) hS0b ?_
                  · intro wS hSw
                    go_simp
                  simp only [Act.put, List.setIfInBounds_toArray, List.set_cons_zero, List.set_cons_succ]
                  refine wpAnyH_take (i := 2) (oi := { dst := some 52, op := .indexAddr 22 (.tmp 50) (.tmp 51), type := _, pos := _, after := _, guard := none }) (v := .pointer (some ⟨ga, oa + p * 3, none⟩)) rfl (by kernel_rfl) (by kernel_rfl) (by kernel_rfl) (fun _ _ _ h => h) (Or.inl ⟨by rfl, ?_⟩) hS0b ?_
                  · intro wS hSw
                    go_simp
                  simp only [Act.put, List.setIfInBounds_toArray, List.set_cons_zero, List.set_cons_succ]
                  refine wpAnyH_take (i := 3) (oi := { dst := some 53, op := .fieldAddr 24 (.tmp 52) 0, type := _, pos := _, after := _, guard := none }) (v := .pointer (some ⟨ga, oa + p * 3, none⟩)) rfl (by kernel_rfl) (by kernel_rfl) (by kernel_rfl) (fun _ _ _ h => h) (Or.inl ⟨by rfl, ?_⟩) hS0b ?_
                  · intro wS hSw
                    go_simp
                  simp only [Act.put, List.setIfInBounds_toArray, List.set_cons_zero, List.set_cons_succ]
                  refine wpAnyH_take (i := 4) (oi := { dst := some 54, op := .load 3 (.tmp 53), type := _, pos := _, after := _, guard := none }) (v := .int .i64 xt) rfl (by kernel_rfl) (by kernel_rfl) (by kernel_rfl) (fun _ _ _ h => h) (Or.inl ⟨by rfl, ?_⟩) hS0b ?_
                  · intro wS hSw
                    have z0 := (hSw.cell (lt_of_cell q1a)).trans q1a
                    go_simp
                  simp only [Act.put, List.setIfInBounds_toArray, List.set_cons_zero, List.set_cons_succ]
                  refine wpAnyH_take (i := 5) (oi := { dst := some 55, op := .move (.tmp 0), type := _, pos := _, after := _, guard := none }) (v := .slice (some ⟨ga, oa, none⟩) n cap) rfl (by kernel_rfl) (by kernel_rfl) (by kernel_rfl) (fun _ _ _ h => h) (Or.inl ⟨by rfl, ?_⟩) hS0b ?_
                  · intro wS hSw
                    go_simp
                  simp only [Act.put, List.setIfInBounds_toArray, List.set_cons_zero, List.set_cons_succ]
                  refine wpAnyH_take (i := 6) (oi := { dst := some 56, op := .move (.tmp 4), type := _, pos := _, after := _, guard := none }) (v := .int .i64 (j : Int)) rfl (by kernel_rfl) (by kernel_rfl) (by kernel_rfl) (fun _ _ _ h => h) (Or.inl ⟨by rfl, ?_⟩) hS0b ?_
                  · intro wS hSw
                    go_simp
                  simp only [Act.put, List.setIfInBounds_toArray, List.set_cons_zero, List.set_cons_succ]
                  refine wpAnyH_take (i := 7) (oi := { dst := some 57, op := .indexAddr 22 (.tmp 55) (.tmp 56), type := _, pos := _, after := _, guard := none }) (v := .pointer (some ⟨ga, oa + j * 3, none⟩)) rfl (by kernel_rfl) (by kernel_rfl) (by kernel_rfl) (fun _ _ _ h => h) (Or.inl ⟨by rfl, ?_⟩) hS0b ?_
                  · intro wS hSw
                    go_simp
                  simp only [Act.put, List.setIfInBounds_toArray, List.set_cons_zero, List.set_cons_succ]
                  refine wpAnyH_take (i := 8) (oi := { dst := some 58, op := .fieldAddr 24 (.tmp 57) 0, type := _, pos := _, after := _, guard := none }) (v := .pointer (some ⟨ga, oa + j * 3, none⟩)) rfl (by kernel_rfl) (by kernel_rfl) (by kernel_rfl) (fun _ _ _ h => h) (Or.inl ⟨by rfl, ?_⟩) hS0b ?_
                  · intro wS hSw
                    go_simp
                  simp only [Act.put, List.setIfInBounds_toArray, List.set_cons_zero, List.set_cons_succ]
                  refine wpAnyH_take (i := 9) (oi := { dst := some 59, op := .load 3 (.tmp 58), type := _, pos := _, after := _, guard := none }) (v := .int .i64 yt) rfl (by kernel_rfl) (by kernel_rfl) (by kernel_rfl) (fun _ _ _ h => h) (Or.inl ⟨by rfl, ?_⟩) hS0b ?_
                  · intro wS hSw
                    have z0 := (hSw.cell (lt_of_cell r1a)).trans r1a
                    go_simp
                  simp only [Act.put, List.setIfInBounds_toArray, List.set_cons_zero, List.set_cons_succ]
                  refine wpAnyH_take (i := 10) (oi := { dst := some 60, op := .binOp .neq 3 (.tmp 54) (.tmp 59) 3, type := _, pos := _, after := _, guard := none }) (v := .bool true) rfl (by kernel_rfl) (by kernel_rfl) (by kernel_rfl) (fun _ _ _ h => h) (Or.inl ⟨by rfl, ?_⟩) hS0b ?_
                  · intro wS hSw
                    (go_simp; try exact ht.out)
                  simp only [Act.put, List.setIfInBounds_toArray, List.set_cons_zero, List.set_cons_succ]
                  refine wpAnyH_take (i := 11) (oi := { dst := some 61, op := .move (.tmp 60), type := _, pos := _, after := _, guard := none }) (v := .bool true) rfl (by kernel_rfl) (by kernel_rfl) (by kernel_rfl) (fun _ _ _ h => h) (Or.inl ⟨by rfl, ?_⟩) hS0b ?_
                  · intro wS hSw
                    go_simp
                  simp only [Act.put, List.setIfInBounds_toArray, List.set_cons_zero, List.set_cons_succ]
                  refine wpAnyH_take (i := 12) (oi := { dst := some 62, op := .move (.tmp 7), type := _, pos := _, after := _, guard := some (11, true) }) (v := .bool false) rfl (by kernel_rfl) (by kernel_rfl) (by kernel_rfl) (fun _ _ _ h => h) (Or.inl ⟨by rfl, ?_⟩) hS0b ?_
                  · intro wS hSw
                    go_simp
                  simp only [Act.put, List.setIfInBounds_toArray, List.set_cons_zero, List.set_cons_succ]
                  refine wpAnyH_take (i := 13) (oi := { dst := some 63, op := .unOp .not 4 (.tmp 62), type := _, pos := _, after := _, guard := some (11, true) }) (v := .bool true) rfl (by kernel_rfl) (by kernel_rfl) (by kernel_rfl) (fun _ _ _ h => h) (Or.inl ⟨by rfl, ?_⟩) hS0b ?_
                  · intro wS hSw
                    go_simp
                  simp only [Act.put, List.setIfInBounds_toArray, List.set_cons_zero, List.set_cons_succ]
                  refine wpAnyH_take (i := 14) (oi := { dst := some 64, op := .pick (.tmp 61) (.tmp 63) (.const (.bool false)), type := _, pos := _, after := _, guard := none }) (v := .bool true) rfl (by kernel_rfl) (by kernel_rfl) (by kernel_rfl) (fun _ _ _ h => h) (Or.inl ⟨by rfl, ?_⟩) hS0b ?_
                  · intro wS hSw
                    go_simp
                  simp only [Act.put, List.setIfInBounds_toArray, List.set_cons_zero, List.set_cons_succ]
                  refine wpAnyH_done (by kernel_rfl) ?_ _
                  have hA2 : Hid (At 4 x0b wo.heap.size (cellsB j (rowR R j (p + 1)))) := (hA.out.below hS0a).below hS0b
                  have hB2 : Hid (Below wo.heap.size wo x0b) := (hB.out.trans (hS0a.mono hB.out.size)).trans (hS0b.mono (Nat.le_trans hB.out.size hS0a.size))
                  obtain ⟨w2, hw2⟩ : ∃ x, x = x0b := ⟨_, rfl⟩
                  rw [← hw2] at hA2 hB2 ⊢
                  clear hw2 hS0a hS0b q1a q2a q3a r1a r2a r3a q1 q2 q3 r1 r2 r3 hA hB hBw
                  have hA3 : Hid (At 4 w2 wo.heap.size (cellsB j (rowR R j p))) := by
                    show At _ _ _ _
                    rw [← rowR_skipq R j p hpj hD.out.symm]
                    exact hA2.out
                  clear hA2
                  go_wp2_with fail
                  go_roundw
                  case rel => exact ⟨p, (p : Int) - 1, by omega, rfl, by go_num, hA3.out, hB2.out⟩
                  case measure => first | (simp [intOf]; done) | (simp [intOf]; omega)
            · have h3 : Hid (¬ yk = 3) := h3
              go_wp2_with fail
              have hS0a : Below wm.heap.size wm wm.drew := Below.drew (Below.refl _ _)
              refine wp_region_held_drew (S := fun xS => Below wm.heap.size wm xS) (by kernel_rfl) hS0a ?_
              obtain ⟨x0a, hx0⟩ : ∃ x, x = wm.drew := ⟨_, rfl⟩
              rw [← hx0] at hS0a  ⊢
              clear hx0
              intro _
              refine wpAnyH_take (i := 0) (oi := { dst := some 23, op := .move (.tmp 0), type := _, pos := _, after := _, guard := none }) (v := .slice (some ⟨ga, oa, none⟩) n cap) rfl (by kernel_rfl) (by kernel_rfl) (by kernel_rfl) (fun _ _ _ h => h) (Or.inl ⟨by rfl, ?_⟩) hS0a ?_
              · intro wS hSw
                go_simp
              simp only [Act.put, List.setIfInBounds_toArray, List.set_cons_zero, List.set_cons_succ]
              refine wpAnyH_take (i := 1) (oi := { dst := some 24, op := .move (.tmp 6), type := _, pos := _, after := _, guard := none }) (v := .int .i64 (p : Int)) rfl (by kernel_rfl) (by kernel_rfl) (by kernel_rfl) (fun _ _ _ h => h) (Or.inl ⟨by rfl, ?_⟩) hS0a ?_
              · intro wS hSw
                go_simp
              simp only [Act.put, List.setIfInBounds_toArray, List.set_cons_zero, List.set_cons_succ]
              refine wpAnyH_take (i := 2) (oi := { dst := some 25, op := .indexAddr 22 (.tmp 23) (.tmp 24), type := _, pos := _, after := _, guard := none }) (v := .pointer (some ⟨ga, oa + p * 3, none⟩)) rfl (by kernel_rfl) (by kernel_rfl) (by kernel_rfl) (fun _ _ _ h => h) (Or.inl ⟨by rfl, ?_⟩) hS0a ?_
              · intro wS hSw
                go_simp
              simp only [Act.put, List.setIfInBounds_toArray, List.set_cons_zero, List.set_cons_succ]
              refine wpAnyH_take (i := 3) (oi := { dst := some 26, op := .fieldAddr 24 (.tmp 25) 1, type := _, pos := _, after := _, guard := none }) (v := .pointer (some ⟨ga, oa + p * 3 + 1, none⟩)) rfl (by kernel_rfl) (by kernel_rfl) (by kernel_rfl) (fun _ _ _ h => h) (Or.inl ⟨by rfl, ?_⟩) hS0a ?_
              · intro wS hSw
                go_simp
              simp only [Act.put, List.setIfInBounds_toArray, List.set_cons_zero, List.set_cons_succ]
              refine wpAnyH_take (i := 4) (oi := { dst := some 27, op := .load 3 (.tmp 26), type := _, pos := _, after := _, guard := none }) (v := .int .i64 xk) rfl (by kernel_rfl) (by kernel_rfl) (by kernel_rfl) (fun _ _ _ h => h) (Or.inl ⟨by rfl, ?_⟩) hS0a ?_
              · intro wS hSw
                have z0 := (hSw.cell (lt_of_cell q2)).trans q2
                go_simp
              simp only [Act.put, List.setIfInBounds_toArray, List.set_cons_zero, List.set_cons_succ]
              refine wpAnyH_take (i := 5) (oi := { dst := some 28, op := .binOp .eql 3 (.tmp 27) (.const (.int .i64 4)) 3, type := _, pos := _, after := _, guard := none }) (v := .bool true) rfl (by kernel_rfl) (by kernel_rfl) (by kernel_rfl) (fun _ _ _ h => h) (Or.inl ⟨by rfl, ?_⟩) hS0a ?_
              · intro wS hSw
                (go_simp; try exact h4.out)
              simp only [Act.put, List.setIfInBounds_toArray, List.set_cons_zero, List.set_cons_succ]
              refine wpAnyH_take (i := 6) (oi := { dst := some 29, op := .move (.tmp 28), type := _, pos := _, after := _, guard := none }) (v := .bool true) rfl (by kernel_rfl) (by kernel_rfl) (by kernel_rfl) (fun _ _ _ h => h) (Or.inl ⟨by rfl, ?_⟩) hS0a ?_
              · intro wS hSw
                go_simp
              simp only [Act.put, List.setIfInBounds_toArray, List.set_cons_zero, List.set_cons_succ]
              refine wpAnyH_take (i := 7) (oi := { dst := some 30, op := .move (.tmp 0), type := _, pos := _, after := _, guard := some (6, true) }) (v := .slice (some ⟨ga, oa, none⟩) n cap) rfl (by kernel_rfl) (by kernel_rfl) (by kernel_rfl) (fun _ _ _ h => h) (Or.inl ⟨by rfl, ?_⟩) hS0a ?_
              · intro wS hSw
                go_simp
              simp only [Act.put, List.setIfInBounds_toArray, List.set_cons_zero, List.set_cons_succ]
              refine wpAnyH_take (i := 8) (oi := { dst := some 31, op := .move (.tmp 4), type := _, pos := _, after := _, guard := some (6, true) }) (v := .int .i64 (j : Int)) rfl (by kernel_rfl) (by kernel_rfl) (by kernel_rfl) (fun _ _ _ h => h) (Or.inl ⟨by rfl, ?_⟩) hS0a ?_
              · intro wS hSw
                go_simp
              simp only [Act.put, List.setIfInBounds_toArray, List.set_cons_zero, List.set_cons_succ]
              refine wpAnyH_take (i := 9) (oi := { dst := some 32, op := .indexAddr 22 (.tmp 30) (.tmp 31), type := _, pos := _, after := _, guard := some (6, true) }) (v := .pointer (some ⟨ga, oa + j * 3, none⟩)) rfl (by kernel_rfl) (by kernel_rfl) (by kernel_rfl) (fun _ _ _ h => h) (Or.inl ⟨by rfl, ?_⟩) hS0a ?_
              · intro wS hSw
                go_simp
              simp only [Act.put, List.setIfInBounds_toArray, List.set_cons_zero, List.set_cons_succ]
              refine wpAnyH_take (i := 10) (oi := { dst := some 33, op := .fieldAddr 24 (.tmp 32) 1, type := _, pos := _, after := _, guard := some (6, true) }) (v := .pointer (some ⟨ga, oa + j * 3 + 1, none⟩)) rfl (by kernel_rfl) (by kernel_rfl) (by kernel_rfl) (fun _ _ _ h => h) (Or.inl ⟨by rfl, ?_⟩) hS0a ?_
              · intro wS hSw
                go_simp
              simp only [Act.put, List.setIfInBounds_toArray, List.set_cons_zero, List.set_cons_succ]
              refine wpAnyH_take (i := 11) (oi := { dst := some 34, op := .load 3 (.tmp 33), type := _, pos := _, after := _, guard := some (6, true) }) (v := .int .i64 yk) rfl (by kernel_rfl) (by kernel_rfl) (by kernel_rfl) (fun _ _ _ h => h) (Or.inl ⟨by rfl, ?_⟩) hS0a ?_
              · intro wS hSw
                have z0 := (hSw.cell (lt_of_cell r2)).trans r2
                go_simp
              simp only [Act.put, List.setIfInBounds_toArray, List.set_cons_zero, List.set_cons_succ]
              refine wpAnyH_take (i := 12) (oi := { dst := some 35, op := .binOp .eql 3 (.tmp 34) (.const (.int .i64 3)) 3, type := _, pos := _, after := _, guard := some (6, true) }) (v := .bool false) rfl (by kernel_rfl) (by kernel_rfl) (by kernel_rfl) (fun _ _ _ h => h) (Or.inl ⟨by rfl, ?_⟩) hS0a ?_
              · intro wS hSw
                (go_simp; try exact h3.out)
              simp only [Act.put, List.setIfInBounds_toArray, List.set_cons_zero, List.set_cons_succ]
              refine wpAnyH_take (i := 13) (oi := { dst := some 36, op := .pick (.tmp 29) (.tmp 35) (.const (.bool false)), type := _, pos := _, after := _, guard := none }) (v := .bool false) rfl (by kernel_rfl) (by kernel_rfl) (by kernel_rfl) (fun _ _ _ h => h) (Or.inl ⟨by rfl, ?_⟩) hS0a ?_
              · intro wS hSw
                go_simp
              simp only [Act.put, List.setIfInBounds_toArray, List.set_cons_zero, List.set_cons_succ]
              refine wpAnyH_take (i := 14) (oi := { dst := some 37, op := .move (.tmp 36), type := _, pos := _, after := _, guard := none }) (v := .bool false) rfl (by kernel_rfl) (by kernel_rfl) (by kernel_rfl) (fun _ _ _ h => h) (Or.inl ⟨by rfl, ?_⟩) hS0a ?_
              · intro wS hSw
                go_simp
              simp only [Act.put, List.setIfInBounds_toArray, List.set_cons_zero, List.set_cons_succ]
              refine wpAnyH_take (i := 15) (oi := { dst := some 38, op := .move (.tmp 0), type := _, pos := _, after := _, guard := some (14, true) }) (v := undef) rfl (by kernel_rfl) (by kernel_rfl) (by kernel_rfl) (fun _ _ _ h => h) (Or.inr ⟨by rfl, rfl⟩) hS0a ?_
              simp only [Act.put, List.setIfInBounds_toArray, List.set_cons_zero, List.set_cons_succ]
              refine wpAnyH_take (i := 16) (oi := { dst := some 39, op := .move (.tmp 6), type := _, pos := _, after := _, guard := some (14, true) }) (v := undef) rfl (by kernel_rfl) (by kernel_rfl) (by kernel_rfl) (fun _ _ _ h => h) (Or.inr ⟨by rfl, rfl⟩) hS0a ?_
              simp only [Act.put, List.setIfInBounds_toArray, List.set_cons_zero, List.set_cons_succ]
              refine wpAnyH_take (i := 17) (oi := { dst := some 40, op := .indexAddr 22 (.tmp 38) (.tmp 39), type := _, pos := _, after := _, guard := some (14, true) }) (v := undef) rfl (by kernel_rfl) (by kernel_rfl) (by kernel_rfl) (fun _ _ _ h => h) (Or.inr ⟨by rfl, rfl⟩) hS0a ?_
              simp only [Act.put, List.setIfInBounds_toArray, List.set_cons_zero, List.set_cons_succ]
              refine wpAnyH_take (i := 18) (oi := { dst := some 41, op := .fieldAddr 24 (.tmp 40) 2, type := _, pos := _, after := _, guard := some (14, true) }) (v := undef) rfl (by kernel_rfl) (by kernel_rfl) (by kernel_rfl) (fun _ _ _ h => h) (Or.inr ⟨by rfl, rfl⟩) hS0a ?_
              simp only [Act.put, List.setIfInBounds_toArray, List.set_cons_zero, List.set_cons_succ]
              refine wpAnyH_take (i := 19) (oi := { dst := some 42, op := .load 3 (.tmp 41), type := _, pos := _, after := _, guard := some (14, true) }) (v := undef) rfl (by kernel_rfl) (by kernel_rfl) (by kernel_rfl) (fun _ _ _ h => h) (Or.inr ⟨by rfl, rfl⟩) hS0a ?_
              simp only [Act.put, List.setIfInBounds_toArray, List.set_cons_zero, List.set_cons_succ]
              refine wpAnyH_take (i := 20) (oi := { dst := some 43, op := .move (.tmp 0), type := _, pos := _, after := _, guard := some (14, true) }) (v := undef) rfl (by kernel_rfl) (by kernel_rfl) (by kernel_rfl) (fun _ _ _ h => h) (Or.inr ⟨by rfl, rfl⟩) hS0a ?_
              simp only [Act.put, List.setIfInBounds_toArray, List.set_cons_zero, List.set_cons_succ]
              refine wpAnyH_take (i := 21) (oi := { dst := some 44, op := .move (.tmp 4), type := _, pos := _, after := _, guard := some (14, true) }) (v := undef) rfl (by kernel_rfl) (by kernel_rfl) (by kernel_rfl) (fun _ _ _ h => h) (Or.inr ⟨by rfl, rfl⟩) hS0a ?_
              simp only [Act.put, List.setIfInBounds_toArray, List.set_cons_zero, List.set_cons_succ]
              refine wpAnyH_take (i := 22) (oi := { dst := some 45, op := .indexAddr 22 (.tmp 43) (.tmp 44), type := _, pos := _, after := _, guard := some (14, true) }) (v := undef) rfl (by kernel_rfl) (by kernel_rfl) (by kernel_rfl) (fun _ _ _ h => h) (Or.inr ⟨by rfl, rfl⟩) hS0a ?_
              simp only [Act.put, List.setIfInBounds_toArray, List.set_cons_zero, List.set_cons_succ]
              refine wpAnyH_take (i := 23) (oi := { dst := some 46, op := .fieldAddr 24 (.tmp 45) 2, type := _, pos := _, after := _, guard := some (14, true) }) (v := undef) rfl (by kernel_rfl) (by kernel_rfl) (by kernel_rfl) (fun _ _ _ h => h) (Or.inr ⟨by rfl, rfl⟩) hS0a ?_
              simp only [Act.put, List.setIfInBounds_toArray, List.set_cons_zero, List.set_cons_succ]
              refine wpAnyH_take (i := 24) (oi := { dst := some 47, op := .load 3 (.tmp 46), type := _, pos := _, after := _, guard := some (14, true) }) (v := undef) rfl (by kernel_rfl) (by kernel_rfl) (by kernel_rfl) (fun _ _ _ h => h) (Or.inr ⟨by rfl, rfl⟩) hS0a ?_
              simp only [Act.put, List.setIfInBounds_toArray, List.set_cons_zero, List.set_cons_succ]
              refine wpAnyH_take (i := 25) (oi := { dst := some 48, op := .binOp .eql 3 (.tmp 42) (.tmp 47) 3, type := _, pos := _, after := _, guard := some (14, true) }) (v := undef) rfl (by kernel_rfl) (by kernel_rfl) (by kernel_rfl) (fun _ _ _ h => h) (Or.inr ⟨by rfl, rfl⟩) hS0a ?_
              simp only [Act.put, List.setIfInBounds_toArray, List.set_cons_zero, List.set_cons_succ]
              refine wpAnyH_take (i := 26) (oi := { dst := some 49, op := .pick (.tmp 37) (.tmp 48) (.const (.bool false)), type := _, pos := _, after := _, guard := none }) (v := .bool false) rfl (by kernel_rfl) (by kernel_rfl) (by kernel_rfl) (fun _ _ _ h => h) (Or.inl ⟨by rfl, ?_⟩) hS0a ?_
              · intro wS hSw
                go_simp
              simp only [Act.put, List.setIfInBounds_toArray, List.set_cons_zero, List.set_cons_succ]
              refine wpAnyH_take (i := 27) (oi := { dst := some 7, op := .assign (.tmp 49), type := _, pos := _, after := _, guard := none }) (v := .bool false) rfl (by kernel_rfl) (by kernel_rfl) (by kernel_rfl) (fun _ _ _ h => h) (Or.inl ⟨by rfl, ?_⟩) hS0a ?_
              · intro wS hSw
                go_simp
              simp only [Act.put, List.setIfInBounds_toArray, List.set_cons_zero, List.set_cons_succ]
              refine wpAnyH_done (by kernel_rfl) ?_ _
              have q1a := (hS0a.cell (lt_of_cell q1)).trans q1
              have q2a := (hS0a.cell (lt_of_cell q2)).trans q2
              have q3a := (hS0a.cell (lt_of_cell q3)).trans q3
              have r1a := (hS0a.cell (lt_of_cell r1)).trans r1
              have r2a := (hS0a.cell (lt_of_cell r2)).trans r2
              have r3a := (hS0a.cell (lt_of_cell r3)).trans r3
              by_cases ht : xt = yt
              · have ht : Hid (xt = yt) := ht
                obtain rfl : D = true := by rw [HD.out]; simp [ht.out, h4.out, h3.out]
                clear HD
                go_wp2_with fail
                have hS0b : Below x0a.heap.size x0a x0a.drew := Below.drew (Below.refl _ _)
                refine wp_region_held_drew (S := fun xS => Below x0a.heap.size x0a xS) (by kernel_rfl) hS0b ?_
                obtain ⟨x0b, hx0⟩ : ∃ x, x = x0a.drew := ⟨_, rfl⟩
                rw [← hx0] at hS0b  ⊢
                clear hx0
                intro _
                refine wpAnyH_take (i := 0) (oi := { dst := some 50, op := .move (.tmp 0), type := _, pos := _, after := _, guard := none }) (v := .slice (some ⟨ga, oa, none⟩) n cap) rfl (by kernel_rfl) (by kernel_rfl) (by kernel_rfl) (fun _ _ _ h => h) (Or.inl ⟨by rfl, ?_⟩) hS0b ?_
                · intro wS hSw
                  go_simp
                simp only [Act.put, List.setIfInBounds_toArray, List.set_cons_zero, List.set_cons_succ]
                refine wpAnyH_take (i := 1) (oi := { dst := some 51, op := .move (.tmp 6), type := _, pos := _, after := _, guard := none }) (v := .int .i64 (p : Int)) rfl (by kernel_rfl) (by kernel_rfl) (by kernel_rfl) (fun _ _ _ h => h) (Or.inl ⟨by rfl, ?_⟩) hS0b ?_
                · intro wS hSw
                  go_simp
                simp only [Act.put, List.setIfInBounds_toArray, List.set_cons_zero, List.set_cons_succ]
                refine wpAnyH_take (i := 2) (oi := { dst := some 52, op := .indexAddr 22 (.tmp 50) (.tmp 51), type := _, pos := _, after := _, guard := none }) (v := .pointer (some ⟨ga, oa + p * 3, none⟩)) rfl (by kernel_rfl) (by kernel_rfl) (by kernel_rfl) (fun _ _ _ h => h) (Or.inl ⟨by rfl, ?_⟩) hS0b ?_
                · intro wS hSw
                  go_simp
                simp only [Act.put, List.setIfInBounds_toArray, List.set_cons_zero, List.set_cons_succ]
                refine wpAnyH_take (i := 3) (oi := { dst := some 53, op := .fieldAddr 24 (.tmp 52) 0, type := _, pos := _, after := _, guard := none }) (v := .pointer (some ⟨ga, oa + p * 3, none⟩)) rfl (by kernel_rfl) (by kernel_rfl) (by kernel_rfl) (fun _ _ _ h => h) (Or.inl ⟨by rfl, ?_⟩) hS0b ?_
                · intro wS hSw
                  go_simp
                simp only [Act.put, List.setIfInBounds_toArray, List.set_cons_zero, List.set_cons_succ]
                refine wpAnyH_take (i := 4) (oi := { dst := some 54, op := .load 3 (.tmp 53), type := _, pos := _, after := _, guard := none }) (v := .int .i64 xt) rfl (by kernel_rfl) (by kernel_rfl) (by kernel_rfl) (fun _ _ _ h => h) (Or.inl ⟨by rfl, ?_⟩) hS0b ?_
                · intro wS hSw
                  have z0 := (hSw.cell (lt_of_cell q1a)).trans q1a
                  go_simp
                simp only [Act.put, List.setIfInBounds_toArray, List.set_cons_zero, List.set_cons_succ]
                refine wpAnyH_take (i := 5) (oi := { dst := some 55, op := .move (.tmp 0), type := _, pos := _, after := _, guard := none }) (v := .slice (some ⟨ga, oa, none⟩) n cap) rfl (by kernel_rfl) (by kernel_rfl) (by kernel_rfl) (fun _ _ _ h => h) (Or.inl ⟨by rfl, ?_⟩) hS0b ?_
                · intro wS hSw
                  go_simp
                simp only [Act.put, List.setIfInBounds_toArray, List.set_cons_zero, List.set_cons_succ]
                refine wpAnyH_take (i := 6) (oi := { dst := some 56, op := .move (.tmp 4), type := _, pos := _, after := _, guard := none }) (v := .int .i64 (j : Int)) rfl (by kernel_rfl) (by kernel_rfl) (by kernel_rfl) (fun _ _ _ h => h) (Or.inl ⟨by rfl, ?_⟩) hS0b ?_
                · intro wS hSw
                  go_simp
                simp only [Act.put, List.setIfInBounds_toArray, List.set_cons_zero, List.set_cons_succ]
                refine wpAnyH_take (i := 7) (oi := { dst := some 57, op := .indexAddr 22 (.tmp 55) (.tmp 56), type := _, pos := _, after := _, guard := none }) (v := .pointer (some ⟨ga, oa + j * 3, none⟩)) rfl (by kernel_rfl) (by kernel_rfl) (by kernel_rfl) (fun _ _ _ h => h) (Or.inl ⟨by rfl, ?_⟩) hS0b ?_
                · intro wS hSw
                  go_simp
                simp only [Act.put, List.setIfInBounds_toArray, List.set_cons_zero, List.set_cons_succ]
                refine wpAnyH_take (i := 8) (oi := { dst := some 58, op := .fieldAddr 24 (.tmp 57) 0, type := _, pos := _, after := _, guard := none }) (v := .pointer (some ⟨ga, oa + j * 3, none⟩)) rfl (by kernel_rfl) (by kernel_rfl) (by kernel_rfl) (fun _ _ _ h => h) (Or.inl ⟨by rfl, ?_⟩) hS0b ?_
                · intro wS hSw
                  go_simp
                simp only [Act.put, List.setIfInBounds_toArray, List.set_cons_zero, List.set_cons_succ]
                refine wpAnyH_take (i := 9) (oi := { dst := some 59, op := .load 3 (.tmp 58), type := _, pos := _, after := _, guard := none }) (v := .int .i64 yt) rfl (by kernel_rfl) (by kernel_rfl) (by kernel_rfl) (fun _ _ _ h => h) (Or.inl ⟨by rfl, ?_⟩) hS0b ?_
                · intro wS hSw
                  have z0 := (hSw.cell (lt_of_cell r1a)).trans r1a
                  go_simp
                simp only [Act.put, List.setIfInBounds_toArray, List.set_cons_zero, List.set_cons_succ]
                refine wpAnyH_take (i := 10) (oi := { dst := some 60, op := .binOp .neq 3 (.tmp 54) (.tmp 59) 3, type := _, pos := _, after := _, guard := none }) (v := .bool false) rfl (by kernel_rfl) (by kernel_rfl) (by kernel_rfl) (fun _ _ _ h => h) (Or.inl ⟨by rfl, ?_⟩) hS0b ?_
                · intro wS hSw
                  (go_simp; try exact ht.out)
                simp only [Act.put, List.setIfInBounds_toArray, List.set_cons_zero, List.set_cons_succ]
                refine wpAnyH_take (i := 11) (oi := { dst := some 61, op := .move (.tmp 60), type := _, pos := _, after := _, guard := none }) (v := .bool false) rfl (by kernel_rfl) (by kernel_rfl) (by kernel_rfl) (fun _ _ _ h => h) (Or.inl ⟨by rfl, ?_⟩) hS0b ?_
                · intro wS hSw
                  go_simp
                simp only [Act.put, List.setIfInBounds_toArray, List.set_cons_zero, List.set_cons_succ]
                refine wpAnyH_take (i := 12) (oi := { dst := some 62, op := .move (.tmp 7), type := _, pos := _, after := _, guard := some (11, true) }) (v := undef) rfl (by kernel_rfl) (by kernel_rfl) (by kernel_rfl) (fun _ _ _ h => h) (Or.inr ⟨by rfl, rfl⟩) hS0b ?_
                simp only [Act.put, List.setIfInBounds_toArray, List.set_cons_zero, List.set_cons_succ]
                refine wpAnyH_take (i := 13) (oi := { dst := some 63, op := .unOp .not 4 (.tmp 62), type := _, pos := _, after := _, guard := some (11, true) }) (v := undef) rfl (by kernel_rfl) (by kernel_rfl) (by kernel_rfl) (fun _ _ _ h => h) (Or.inr ⟨by rfl, rfl⟩) hS0b ?_
                simp only [Act.put, List.setIfInBounds_toArray, List.set_cons_zero, List.set_cons_succ]
                refine wpAnyH_take (i := 14) (oi := { dst := some 64, op := .pick (.tmp 61) (.tmp 63) (.const (.bool false)), type := _, pos := _, after := _, guard := none }) (v := .bool false) rfl (by kernel_rfl) (by kernel_rfl) (by kernel_rfl) (fun _ _ _ h => h) (Or.inl ⟨by rfl, ?_⟩) hS0b ?_
                · intro wS hSw
                  go_simp
                simp only [Act.put, List.setIfInBounds_toArray, List.set_cons_zero, List.set_cons_succ]
                refine wpAnyH_done (by kernel_rfl) ?_ _
                have hA2 : Hid (At 4 x0b wo.heap.size (cellsB j (rowR R j (p + 1)))) := (hA.out.below hS0a).below hS0b
                have hB2 : Hid (Below wo.heap.size wo x0b) := (hB.out.trans (hS0a.mono hB.out.size)).trans (hS0b.mono (Nat.le_trans hB.out.size hS0a.size))
                obtain ⟨w2, hw2⟩ : ∃ x, x = x0b := ⟨_, rfl⟩
                rw [← hw2] at hA2 hB2 ⊢
                clear hw2 hS0a hS0b q1a q2a q3a r1a r2a r3a q1 q2 q3 r1 r2 r3 hA hB hBw
                have hcell : w2.cell? ⟨wo.heap.size, p, none⟩ = some (.bool (rowR R j (p + 1) p)) := by rw [hA2.out.cell]; exact cellsB_at hpj
                have hfr := hA2.out.frozen p
                have hA3 : Hid (At 4 (w2.setCell ⟨wo.heap.size, p, none⟩ (.bool true)) wo.heap.size (cellsB j (midR R j p 0))) := by
                  show At _ _ _ _
                  rw [← midR_first R j p hpj hD.out.symm]
                  exact hA2.out.set p _
                have hB3 : Hid (Below wo.heap.size wo (w2.setCell ⟨wo.heap.size, p, none⟩ (.bool true))) := hB2.out.setCell (Nat.le_refl _) _
                clear hA2
                go_wp2_with fail
                go_loopw [8] (fun t wk => ∃ (k : Nat), k ≤ p ∧ t = .int .i64 k ∧ Hid (At 4 wk wo.heap.size (cellsB j (midR R j p k))) ∧ Hid (Below wo.heap.size wo wk)) (fun t _ => p - (intOf t).toNat)
                case atStart => exact ⟨0, Nat.zero_le _, rfl, hA3.out, hB3.out⟩
                case round =>
                  obtain ⟨k, hkp, rfl, hA4, hB4⟩ := hrel
                  clear hcell hfr hA3 hB3 hB2
                  by_cases hk : k < p
                  · obtain ⟨x, hx⟩ : ∃ k, L[p]? = some k := ⟨L[p]'(by rw [hL.out]; exact hpj), by rw [List.getElem?_eq_getElem]⟩
                    have hx2 : x.2 = (List.range p).map (hrB R p) := by
                      have e := congrArg (·[p]?) hmap.out
                      simp [headsR, hx, hpj] at e
                      exact e
                    have hcl := (hown.out.below hB4.out).cell hx
                    rw [hL.out] at hcl
                    obtain ⟨g3, c3, rfl, hc3, hcell3⟩ := hcl
                    have hckx : wr.cell? ⟨x.1, k, none⟩ = some (.bool (hrB R p k)) := by
                      rw [((hin.out x (List.mem_of_getElem? hx)).below hB4.out).cell, hx2]
                      simp [hk]
                    have hrv : rowV x = .slice (some ⟨x.1, 0, none⟩) p p := by simp [rowV, hx2]
                    rw [hrv] at hcell3
                    have hcG : wr.cell? ⟨wo.heap.size, k, none⟩ = some (.bool (midR R j p k k)) := by rw [hA4.out.cell]; exact cellsB_at (by omega)
                    have hfG := hA4.out.frozen k
                    have hA5 : Hid (At 4 (wr.setCell ⟨wo.heap.size, k, none⟩ (.bool (midR R j p k k || hrB R p k))) wo.heap.size (cellsB j (midR R j p (k + 1)))) := by
                      show At _ _ _ _
                      rw [← midR_next R j p k hpj hk hD.out.symm]
                      exact hA4.out.set k _
                    have hB5 : Hid (∀ v, Below wo.heap.size wo (wr.setCell ⟨wo.heap.size, k, none⟩ v)) := fun v => hB4.out.setCell (Nat.le_refl _) _
                    obtain ⟨X, hX⟩ : ∃ X, X = x.1 := ⟨_, rfl⟩
                    rw [← hX] at hckx hcell3
                    generalize midR R j p k k = M at *
                    generalize hrB R p k = H at *
                    clear hrv hx2 hX hx hA4 hB4
                    have k1 : (k : Int) < (p : Int) := by omega
                    have k2 : (k : Int) < (j : Int) := by omega
                    have k3 : (p : Int) < (j : Int) := by omega
                    have k4 : k < j := by omega
                    cases M <;> cases H <;>
                    · go_wp2_with fail
                      go_roundw
                      case rel => exact ⟨k + 1, by omega, by go_num, hA5.out, hB5.out _⟩
                      case measure => first | (simp [intOf]; done) | (simp [intOf]; omega)
                  · have hA5 : Hid (At 4 wr wo.heap.size (cellsB j (rowR R j p))) := by
                      show At _ _ _ _
                      rw [← midR_last, show p = k by omega]
                      have := hA4.out
                      rwa [show k = p by omega] at this ⊢
                    clear hA4
                    go_wp2_with fail
                    go_roundw
                    case rel => exact ⟨p, (p : Int) - 1, by omega, rfl, by go_num, hA5.out, hB4.out⟩
                    case measure => first | (simp [intOf]; done) | (simp [intOf]; omega)
              · have ht : Hid (¬ xt = yt) := ht
                obtain rfl : D = false := by rw [HD.out]; simp [ht.out, h4.out, h3.out]
                clear HD
                go_wp2_with fail
                have hS0b : Below x0a.heap.size x0a x0a.drew := Below.drew (Below.refl _ _)
                refine wp_region_held_drew (S := fun xS => Below x0a.heap.size x0a xS) (by kernel_rfl) hS0b ?_
                obtain ⟨x0b, hx0⟩ : ∃ x, x = x0a.drew := ⟨_, rfl⟩
                rw [← hx0] at hS0b  ⊢
                clear hx0
                intro _
                refine wpAnyH_take (i := 0) (oi := { dst := some 50, op := .move (.tmp 0), type := _, pos := _, after := _, guard := none }) (v := .slice (some ⟨ga, oa, none⟩) n cap) rfl (by kernel_rfl) (by kernel_rfl) (by kernel_rfl) (fun _ _ _ h => h) (Or.inl ⟨by rfl, ?_⟩) hS0b ?_
                · intro wS hSw
                  go_simp
                simp only [Act.put, List.setIfInBounds_toArray, List.set_cons_zero, List.set_cons_succ]
                refine wpAnyH_take (i := 1) (oi := { dst := some 51, op := .move (.tmp 6), type := _, pos := _, after := _, guard := none }) (v := .int .i64 (p : Int)) rfl (by kernel_rfl) (by kernel_rfl) (by kernel_rfl) (fun _ _ _ h => h) (Or.inl ⟨by rfl, ?_⟩) hS0b ?_
                · intro wS hSw
                  go_simp
                simp only [Act.put, List.setIfInBounds_toArray, List.set_cons_zero, List.set_cons_succ]
                refine wpAnyH_take (i := 2) (oi := { dst := some 52, op := .indexAddr 22 (.tmp 50) (.tmp 51), type := _, pos := _, after := _, guard := none }) (v := .pointer (some ⟨ga, oa + p * 3, none⟩)) rfl (by kernel_rfl) (by kernel_rfl) (by kernel_rfl) (fun _ _ _ h => h) (Or.inl ⟨by rfl, ?_⟩) hS0b ?_
                · intro wS hSw
                  go_simp
                simp only [Act.put, List.setIfInBounds_toArray, List.set_cons_zero, List.set_cons_succ]
                refine wpAnyH_take (i := 3) (oi := { dst := some 53, op := .fieldAddr 24 (.tmp 52) 0, type := _, pos := _, after := _, guard := none }) (v := .pointer (some ⟨ga, oa + p * 3, none⟩)) rfl (by kernel_rfl) (by kernel_rfl) (by kernel_rfl) (fun _ _ _ h => h) (Or.inl ⟨by rfl, ?_⟩) hS0b ?_
                · intro wS hSw
                  go_simp
                simp only [Act.put, List.setIfInBounds_toArray, List.set_cons_zero, List.set_cons_succ]
                refine wpAnyH_take (i := 4) (oi := { dst := some 54, op := .load 3 (.tmp 53), type := _, pos := _, after := _, guard := none }) (v := .int .i64 xt) rfl (by kernel_rfl) (by kernel_rfl) (by kernel_rfl) (fun _ _ _ h => h) (Or.inl ⟨by rfl, ?_⟩) hS0b ?_
                · intro wS hSw
                  have z0 := (hSw.cell (lt_of_cell q1a)).trans q1a
                  go_simp
                simp only [Act.put, List.setIfInBounds_toArray, List.set_cons_zero, List.set_cons_succ]
                refine wpAnyH_take (i := 5) (oi := { dst := some 55, op := .move (.tmp 0), type := _, pos := _, after := _, guard := none }) (v := .slice (some ⟨ga, oa, none⟩) n cap) rfl (by kernel_rfl) (by kernel_rfl) (by kernel_rfl) (fun _ _ _ h => h) (Or.inl ⟨by rfl, ?_⟩) hS0b ?_
                · intro wS hSw
                  go_simp
                simp only [Act.put, List.setIfInBounds_toArray, List.set_cons_zero, List.set_cons_succ]
                refine wpAnyH_take (i := 6) (oi := { dst := some 56, op := .move (.tmp 4), type := _, pos := _, after := _, guard := none }) (v := .int .i64 (j : Int)) rfl (by kernel_rfl) (by kernel_rfl) (by kernel_rfl) (fun _ _ _ h => h) (Or.inl ⟨by rfl, ?_⟩) hS0b ?_
                · intro wS hSw
                  go_simp
                simp only [Act.put, List.setIfInBounds_toArray, List.set_cons_zero, List.set_cons_succ]
                refine wpAnyH_take (i := 7) (oi := { dst := some 57, op := .indexAddr 22 (.tmp 55) (.tmp 56), type := _, pos := _, after := _, guard := none }) (v := .pointer (some ⟨ga, oa + j * 3, none⟩)) rfl (by kernel_rfl) (by kernel_rfl) (by kernel_rfl) (fun _ _ _ h => h) (Or.inl ⟨by rfl, ?_⟩) hS0b ?_
                · intro wS hSw
                  go_simp
                simp only [Act.put, List.setIfInBounds_toArray, List.set_cons_zero, List.set_cons_succ]
                refine wpAnyH_take (i := 8) (oi := { dst := some 58, op := .fieldAddr 24 (.tmp 57) 0, type := _, pos := _, after := _, guard := none }) (v := .pointer (some ⟨ga, oa + j * 3, none⟩)) rfl (by kernel_rfl) (by kernel_rfl) (by kernel_rfl) (fun _ _ _ h => h) (Or.inl ⟨by rfl, ?_⟩) hS0b ?_
                · intro wS hSw
                  go_simp
                simp only [Act.put, List.setIfInBounds_toArray, List.set_cons_zero, List.set_cons_succ]
                refine wpAnyH_take (i := 9) (oi := { dst := some 59, op := .load 3 (.tmp 58), type := _, pos := _, after := _, guard := none }) (v := .int .i64 yt) rfl (by kernel_rfl) (by kernel_rfl) (by kernel_rfl) (fun _ _ _ h => h) (Or.inl ⟨by rfl, ?_⟩) hS0b ?_
                · intro wS hSw
                  have z0 := (hSw.cell (lt_of_cell r1a)).trans r1a
                  go_simp
                simp only [Act.put, List.setIfInBounds_toArray, List.set_cons_zero, List.set_cons_succ]
                refine wpAnyH_take (i := 10) (oi := { dst := some 60, op := .binOp .neq 3 (.tmp 54) (.tmp 59) 3, type := _, pos := _, after := _, guard := none }) (v := .bool true) rfl (by kernel_rfl) (by kernel_rfl) (by kernel_rfl) (fun _ _ _ h => h) (Or.inl ⟨by rfl, ?_⟩) hS0b ?_
                · intro wS hSw
                  (go_simp; try exact ht.out)
                simp only [Act.put, List.setIfInBounds_toArray, List.set_cons_zero, List.set_cons_succ]
                refine wpAnyH_take (i := 11) (oi := { dst := some 61, op := .move (.tmp 60), type := _, pos := _, after := _, guard := none }) (v := .bool true) rfl (by kernel_rfl) (by kernel_rfl) (by kernel_rfl) (fun _ _ _ h => h) (Or.inl ⟨by rfl, ?_⟩) hS0b ?_
                · intro wS hSw
                  go_simp
                simp only [Act.put, List.setIfInBounds_toArray, List.set_cons_zero, List.set_cons_succ]
                refine wpAnyH_take (i := 12) (oi := { dst := some 62, op := .move (.tmp 7), type := _, pos := _, after := _, guard := some (11, true) }) (v := .bool false) rfl (by kernel_rfl) (by kernel_rfl) (by kernel_rfl) (fun _ _ _ h => h) (Or.inl ⟨by rfl, ?_⟩) hS0b ?_
                · intro wS hSw
                  go_simp
                simp only [Act.put, List.setIfInBounds_toArray, List.set_cons_zero, List.set_cons_succ]
                refine wpAnyH_take (i := 13) (oi := { dst := some 63, op := .unOp .not 4 (.tmp 62), type := _, pos := _, after := _, guard := some (11, true) }) (v := .bool true) rfl (by kernel_rfl) (by kernel_rfl) (by kernel_rfl) (fun _ _ _ h => h) (Or.inl ⟨by rfl, ?_⟩) hS0b ?_
                · intro wS hSw
                  go_simp
                simp only [Act.put, List.setIfInBounds_toArray, List.set_cons_zero, List.set_cons_succ]
                refine wpAnyH_take (i := 14) (oi := { dst := some 64, op := .pick (.tmp 61) (.tmp 63) (.const (.bool false)), type := _, pos := _, after := _, guard := none }) (v := .bool true) rfl (by kernel_rfl) (by kernel_rfl) (by kernel_rfl) (fun _ _ _ h => h) (Or.inl ⟨by rfl, ?_⟩) hS0b ?_
                · intro wS hSw
                  go_simp
                simp only [Act.put, List.setIfInBounds_toArray, List.set_cons_zero, List.set_cons_succ]
                refine wpAnyH_done (by kernel_rfl) ?_ _
                have hA2 : Hid (At 4 x0b wo.heap.size (cellsB j (rowR R j (p + 1)))) := (hA.out.below hS0a).below hS0b
                have hB2 : Hid (Below wo.heap.size wo x0b) := (hB.out.trans (hS0a.mono hB.out.size)).trans (hS0b.mono (Nat.le_trans hB.out.size hS0a.size))
                obtain ⟨w2, hw2⟩ : ∃ x, x = x0b := ⟨_, rfl⟩
                rw [← hw2] at hA2 hB2 ⊢
                clear hw2 hS0a hS0b q1a q2a q3a r1a r2a r3a q1 q2 q3 r1 r2 r3 hA hB hBw
                have hA3 : Hid (At 4 w2 wo.heap.size (cellsB j (rowR R j p))) := by
                  show At _ _ _ _
                  rw [← rowR_skipq R j p hpj hD.out.symm]
                  exact hA2.out
                clear hA2
                go_wp2_with fail
                go_roundw
                case rel => exact ⟨p, (p : Int) - 1, by omega, rfl, by go_num, hA3.out, hB2.out⟩
                case measure => first | (simp [intOf]; done) | (simp [intOf]; omega)
          · have h4 : Hid (¬ xk = 4) := h4
            go_wp2_with fail
            have hS0a : Below wm.heap.size wm wm.drew := Below.drew (Below.refl _ _)
            refine wp_region_held_drew (S := fun xS => Below wm.heap.size wm xS) (by kernel_rfl) hS0a ?_
            obtain ⟨x0a, hx0⟩ : ∃ x, x = wm.drew := ⟨_, rfl⟩
            rw [← hx0] at hS0a  ⊢
            clear hx0
            intro _
            refine wpAnyH_take (i := 0) (oi := { dst := some 23, op := .move (.tmp 0), type := _, pos := _, after := _, guard := none }) (v := .slice (some ⟨ga, oa, none⟩) n cap) rfl (by kernel_rfl) (by kernel_rfl) (by kernel_rfl) (fun _ _ _ h => h) (Or.inl ⟨by rfl, ?_⟩) hS0a ?_
            · intro wS hSw
              go_simp
            simp only [Act.put, List.setIfInBounds_toArray, List.set_cons_zero, List.set_cons_succ]
            refine wpAnyH_take (i := 1) (oi := { dst := some 24, op := .move (.tmp 6), type := _, pos := _, after := _, guard := none }) (v := .int .i64 (p : Int)) rfl (by kernel_rfl) (by kernel_rfl) (by kernel_rfl) (fun _ _ _ h => h) (Or.inl ⟨by rfl, ?_⟩) hS0a ?_
            · intro wS hSw
              go_simp
            simp only [Act.put, List.setIfInBounds_toArray, List.set_cons_zero, List.set_cons_succ]
            refine wpAnyH_take (i := 2) (oi := { dst := some 25, op := .indexAddr 22 (.tmp 23) (.tmp 24), type := _, pos := _, after := _, guard := none }) (v := .pointer (some ⟨ga, oa + p * 3, none⟩)) rfl (by kernel_rfl) (by kernel_rfl) (by kernel_rfl) (fun _ _ _ h => h) (Or.inl ⟨by rfl, ?_⟩) hS0a ?_
            · intro wS hSw
              go_simp
            simp only [Act.put, List.setIfInBounds_toArray, List.set_cons_zero, List.set_cons_succ]
            refine wpAnyH_take (i := 3) (oi := { dst := some 26, op := .fieldAddr 24 (.tmp 25) 1, type := _, pos := _, after := _, guard := none }) (v := .pointer (some ⟨ga, oa + p * 3 + 1, none⟩)) rfl (by kernel_rfl) (by kernel_rfl) (by kernel_rfl) (fun _ _ _ h => h) (Or.inl ⟨by rfl, ?_⟩) hS0a ?_
            · intro wS hSw
              go_simp
            simp only [Act.put, List.setIfInBounds_toArray, List.set_cons_zero, List.set_cons_succ]
            refine wpAnyH_take (i := 4) (oi := { dst := some 27, op := .load 3 (.tmp 26), type := _, pos := _, after := _, guard := none }) (v := .int .i64 xk) rfl (by kernel_rfl) (by kernel_rfl) (by kernel_rfl) (fun _ _ _ h => h) (Or.inl ⟨by rfl, ?_⟩) hS0a ?_
            · intro wS hSw
              have z0 := (hSw.cell (lt_of_cell q2)).trans q2
              go_simp
            simp only [Act.put, List.setIfInBounds_toArray, List.set_cons_zero, List.set_cons_succ]
            refine wpAnyH_take (i := 5) (oi := { dst := some 28, op := .binOp .eql 3 (.tmp 27) (.const (.int .i64 4)) 3, type := _, pos := _, after := _, guard := none }) (v := .bool false) rfl (by kernel_rfl) (by kernel_rfl) (by kernel_rfl) (fun _ _ _ h => h) (Or.inl ⟨by rfl, ?_⟩) hS0a ?_
            · intro wS hSw
              (go_simp; try exact h4.out)
            simp only [Act.put, List.setIfInBounds_toArray, List.set_cons_zero, List.set_cons_succ]
            refine wpAnyH_take (i := 6) (oi := { dst := some 29, op := .move (.tmp 28), type := _, pos := _, after := _, guard := none }) (v := .bool false) rfl (by kernel_rfl) (by kernel_rfl) (by kernel_rfl) (fun _ _ _ h => h) (Or.inl ⟨by rfl, ?_⟩) hS0a ?_
            · intro wS hSw
              go_simp
            simp only [Act.put, List.setIfInBounds_toArray, List.set_cons_zero, List.set_cons_succ]
            refine wpAnyH_take (i := 7) (oi := { dst := some 30, op := .move (.tmp 0), type := _, pos := _, after := _, guard := some (6, true) }) (v := undef) rfl (by kernel_rfl) (by kernel_rfl) (by kernel_rfl) (fun _ _ _ h => h) (Or.inr ⟨by rfl, rfl⟩) hS0a ?_
            simp only [Act.put, List.setIfInBounds_toArray, List.set_cons_zero, List.set_cons_succ]
            refine wpAnyH_take (i := 8) (oi := { dst := some 31, op := .move (.tmp 4), type := _, pos := _, after := _, guard := some (6, true) }) (v := undef) rfl (by kernel_rfl) (by kernel_rfl) (by kernel_rfl) (fun _ _ _ h => h) (Or.inr ⟨by rfl, rfl⟩) hS0a ?_
            simp only [Act.put, List.setIfInBounds_toArray, List.set_cons_zero, List.set_cons_succ]
            refine wpAnyH_take (i := 9) (oi := { dst := some 32, op := .indexAddr 22 (.tmp 30) (.tmp 31), type := _, pos := _, after := _, guard := some (6, true) }) (v := undef) rfl (by kernel_rfl) (by kernel_rfl) (by kernel_rfl) (fun _ _ _ h => h) (Or.inr ⟨by rfl, rfl⟩) hS0a ?_
            simp only [Act.put, List.setIfInBounds_toArray, List.set_cons_zero, List.set_cons_succ]
            refine wpAnyH_take (i := 10) (oi := { dst := some 33, op := .fieldAddr 24 (.tmp 32) 1, type := _, pos := _, after := _, guard := some (6, true) }) (v := undef) rfl (by kernel_rfl) (by kernel_rfl) (by kernel_rfl) (fun _ _ _ h => h) (Or.inr ⟨by rfl, rfl⟩) hS0a ?_
            simp only [Act.put, List.setIfInBounds_toArray, List.set_cons_zero, List.set_cons_succ]
            refine wpAnyH_take (i := 11) (oi := { dst := some 34, op := .load 3 (.tmp 33), type := _, pos := _, after := _, guard := some (6, true) }) (v := undef) rfl (by kernel_rfl) (by kernel_rfl) (by kernel_rfl) (fun _ _ _ h => h) (Or.inr ⟨by rfl, rfl⟩) hS0a ?_
            simp only [Act.put, List.setIfInBounds_toArray, List.set_cons_zero, List.set_cons_succ]
            refine wpAnyH_take (i := 12) (oi := { dst := some 35, op := .binOp .eql 3 (.tmp 34) (.const (.int .i64 3)) 3, type := _, pos := _, after := _, guard := some (6, true) }) (v := undef) rfl (by kernel_rfl) (by kernel_rfl) (by kernel_rfl) (fun _ _ _ h => h) (Or.inr ⟨by rfl, rfl⟩) hS0a ?_
            simp only [Act.put, List.setIfInBounds_toArray, List.set_cons_zero, List.set_cons_succ]
            refine wpAnyH_take (i := 13) (oi := { dst := some 36, op := .pick (.tmp 29) (.tmp 35) (.const (.bool false)), type := _, pos := _, after := _, guard := none }) (v := .bool false) rfl (by kernel_rfl) (by kernel_rfl) (by kernel_rfl) (fun _ _ _ h => h) (Or.inl ⟨by rfl, ?_⟩) hS0a ?_
            · intro wS hSw
              go_simp
            simp only [Act.put, List.setIfInBounds_toArray, List.set_cons_zero, List.set_cons_succ]
            refine wpAnyH_take (i := 14) (oi := { dst := some 37, op := .move (.tmp 36), type := _, pos := _, after := _, guard := none }) (v := .bool false) rfl (by kernel_rfl) (by kernel_rfl) (by kernel_rfl) (fun _ _ _ h => h) (Or.inl ⟨by rfl, ?_⟩) hS0a ?_
            · intro wS hSw
              go_simp
            simp only [Act.put, List.setIfInBounds_toArray, List.set_cons_zero, List.set_cons_succ]
            refine wpAnyH_take (i := 15) (oi := { dst := some 38, op := .move (.tmp 0), type := _, pos := _, after := _, guard := some (14, true) }) (v := undef) rfl (by kernel_rfl) (by kernel_rfl) (by kernel_rfl) (fun _ _ _ h => h) (Or.inr ⟨by rfl, rfl⟩) hS0a ?_
            simp only [Act.put, List.setIfInBounds_toArray, List.set_cons_zero, List.set_cons_succ]
            refine wpAnyH_take (i := 16) (oi := { dst := some 39, op := .move (.tmp 6), type := _, pos := _, after := _, guard := some (14, true) }) (v := undef) rfl (by kernel_rfl) (by kernel_rfl) (by kernel_rfl) (fun _ _ _ h => h) (Or.inr ⟨by rfl, rfl⟩) hS0a ?_
            simp only [Act.put, List.setIfInBounds_toArray, List.set_cons_zero, List.set_cons_succ]
            refine wpAnyH_take (i := 17) (oi := { dst := some 40, op := .indexAddr 22 (.tmp 38) (.tmp 39), type := _, pos := _, after := _, guard := some (14, true) }) (v := undef) rfl (by kernel_rfl) (by kernel_rfl) (by kernel_rfl) (fun _ _ _ h => h) (Or.inr ⟨by rfl, rfl⟩) hS0a ?_
            simp only [Act.put, List.setIfInBounds_toArray, List.set_cons_zero, List.set_cons_succ]
            refine wpAnyH_take (i := 18) (oi := { dst := some 41, op := .fieldAddr 24 (.tmp 40) 2, type := _, pos := _, after := _, guard := some (14, true) }) (v := undef) rfl (by kernel_rfl) (by kernel_rfl) (by kernel_rfl) (fun _ _ _ h => h) (Or.inr ⟨by rfl, rfl⟩) hS0a ?_
            simp only [Act.put, List.setIfInBounds_toArray, List.set_cons_zero, List.set_cons_succ]
            refine wpAnyH_take (i := 19) (oi := { dst := some 42, op := .load 3 (.tmp 41), type := _, pos := _, after := _, guard := some (14, true) }) (v := undef) rfl (by kernel_rfl) (by kernel_rfl) (by kernel_rfl) (fun _ _ _ h => h) (Or.inr ⟨by rfl, rfl⟩) hS0a ?_
            simp only [Act.put, List.setIfInBounds_toArray, List.set_cons_zero, List.set_cons_succ]
            refine wpAnyH_take (i := 20) (oi := { dst := some 43, op := .move (.tmp 0), type := _, pos := _, after := _, guard := some (14, true) }) (v := undef) rfl (by kernel_rfl) (by kernel_rfl) (by kernel_rfl) (fun _ _ _ h => h) (Or.inr ⟨by rfl, rfl⟩) hS0a ?_
            simp only [Act.put, List.setIfInBounds_toArray, List.set_cons_zero, List.set_cons_succ]
            refine wpAnyH_take (i := 21) (oi := { dst := some 44, op := .move (.tmp 4), type := _, pos := _, after := _, guard := some (14, true) }) (v := undef) rfl (by kernel_rfl) (by kernel_rfl) (by kernel_rfl) (fun _ _ _ h => h) (Or.inr ⟨by rfl, rfl⟩) hS0a ?_
            simp only [Act.put, List.setIfInBounds_toArray, List.set_cons_zero, List.set_cons_succ]
            refine wpAnyH_take (i := 22) (oi := { dst := some 45, op := .indexAddr 22 (.tmp 43) (.tmp 44), type := _, pos := _, after := _, guard := some (14, true) }) (v := undef) rfl (by kernel_rfl) (by kernel_rfl) (by kernel_rfl) (fun _ _ _ h => h) (Or.inr ⟨by rfl, rfl⟩) hS0a ?_
            simp only [Act.put, List.setIfInBounds_toArray, List.set_cons_zero, List.set_cons_succ]
            refine wpAnyH_take (i := 23) (oi := { dst := some 46, op := .fieldAddr 24 (.tmp 45) 2, type := _, pos := _, after := _, guard := some (14, true) }) (v := undef) rfl (by kernel_rfl) (by kernel_rfl) (by kernel_rfl) (fun _ _ _ h => h) (Or.inr ⟨by rfl, rfl⟩) hS0a ?_
            simp only [Act.put, List.setIfInBounds_toArray, List.set_cons_zero, List.set_cons_succ]
            refine wpAnyH_take (i := 24) (oi := { dst := some 47, op := .load 3 (.tmp 46), type := _, pos := _, after := _, guard := some (14, true) }) (v := undef) rfl (by kernel_rfl) (by kernel_rfl) (by kernel_rfl) (fun _ _ _ h => h) (Or.inr ⟨by rfl, rfl⟩) hS0a ?_
            simp only [Act.put, List.setIfInBounds_toArray, List.set_cons_zero, List.set_cons_succ]
            refine wpAnyH_take (i := 25) (oi := { dst := some 48, op := .binOp .eql 3 (.tmp 42) (.tmp 47) 3, type := _, pos := _, after := _, guard := some (14, true) }) (v := undef) rfl (by kernel_rfl) (by kernel_rfl) (by kernel_rfl) (fun _ _ _ h => h) (Or.inr ⟨by rfl, rfl⟩) hS0a ?_
            simp only [Act.put, List.setIfInBounds_toArray, List.set_cons_zero, List.set_cons_succ]
            refine wpAnyH_take (i := 26) (oi := { dst := some 49, op := .pick (.tmp 37) (.tmp 48) (.const (.bool false)), type := _, pos := _, after := _, guard := none }) (v := .bool false) rfl (by kernel_rfl) (by kernel_rfl) (by kernel_rfl) (fun _ _ _ h => h) (Or.inl ⟨by rfl, ?_⟩) hS0a ?_
            · intro wS hSw
              go_simp
            simp only [Act.put, List.setIfInBounds_toArray, List.set_cons_zero, List.set_cons_succ]
            refine wpAnyH_take (i := 27) (oi := { dst := some 7, op := .assign (.tmp 49), type := _, pos := _, after := _, guard := none }) (v := .bool false) rfl (by kernel_rfl) (by kernel_rfl) (by kernel_rfl) (fun _ _ _ h => h) (Or.inl ⟨by rfl, ?_⟩) hS0a ?_
            · intro wS hSw
              go_simp
            simp only [Act.put, List.setIfInBounds_toArray, List.set_cons_zero, List.set_cons_succ]
            refine wpAnyH_done (by kernel_rfl) ?_ _
            have q1a := (hS0a.cell (lt_of_cell q1)).trans q1
            have q2a := (hS0a.cell (lt_of_cell q2)).trans q2
            have q3a := (hS0a.cell (lt_of_cell q3)).trans q3
            have r1a := (hS0a.cell (lt_of_cell r1)).trans r1
            have r2a := (hS0a.cell (lt_of_cell r2)).trans r2
            have r3a := (hS0a.cell (lt_of_cell r3)).trans r3
            by_cases ht : xt = yt
            · have ht : Hid (xt = yt) := ht
              obtain rfl : D = true := by rw [HD.out]; simp [ht.out, h4.out]
              clear HD
              go_wp2_with fail
              have hS0b : Below x0a.heap.size x0a x0a.drew := Below.drew (Below.refl _ _)
              refine wp_region_held_drew (S := fun xS => Below x0a.heap.size x0a xS) (by kernel_rfl) hS0b ?_
              obtain ⟨x0b, hx0⟩ : ∃ x, x = x0a.drew := ⟨_, rfl⟩
              rw [← hx0] at hS0b  ⊢
              clear hx0
              intro _
              refine wpAnyH_take (i := 0) (oi := { dst := some 50, op := .move (.tmp 0), type := _, pos := _, after := _, guard := none }) (v := .slice (some ⟨ga, oa, none⟩) n cap) rfl (by kernel_rfl) (by kernel_rfl) (by kernel_rfl) (fun _ _ _ h => h) (Or.inl ⟨by rfl, ?_⟩) hS0b ?_
              · intro wS hSw
                go_simp
              simp only [Act.put, List.setIfInBounds_toArray, List.set_cons_zero, List.set_cons_succ]
              refine wpAnyH_take (i := 1) (oi := { dst := some 51, op := .move (.tmp 6), type := _, pos := _, after := _, guard := none }) (v := .int .i64 (p : Int)) rfl (by kernel_rfl) (by kernel_rfl) (by kernel_rfl) (fun _ _ _ h => h) (Or.inl ⟨by rfl, ?_⟩) hS0b ?_
              · intro wS hSw
                go_simp
              simp only [Act.put, List.setIfInBounds_toArray, List.set_cons_zero, List.set_cons_succ]
              refine wpAnyH_take (i := 2) (oi := { dst := some 52, op := .indexAddr 22 (.tmp 50) (.tmp 51), type := _, pos := _, after := _, guard := none }) (v := .pointer (some ⟨ga, oa + p * 3, none⟩)) rfl (by kernel_rfl) (by kernel_rfl) (by kernel_rfl) (fun _ _ _ h => h) (Or.inl ⟨by rfl, ?_⟩) hS0b ?_
              · intro wS hSw
                go_simp
              simp only [Act.put, List.setIfInBounds_toArray, List.set_cons_zero, List.set_cons_succ]
              refine wpAnyH_take (i := 3) (oi := { dst := some 53, op := .fieldAddr 24 (.tmp 52) 0, type := _, pos := _, after := _, guard := none }) (v := .pointer (some ⟨ga, oa + p * 3, none⟩)) rfl (by kernel_rfl) (by kernel_rfl) (by kernel_rfl) (fun _ _ _ h => h) (Or.inl ⟨by rfl, ?_⟩) hS0b ?_
              · intro wS hSw
                go_simp
              simp only [Act.put, List.setIfInBounds_toArray, List.set_cons_zero, List.set_cons_succ]
              refine wpAnyH_take (i := 4) (oi := { dst := some 54, op := .load 3 (.tmp 53), type := _, pos := _, after := _, guard := none }) (v := .int .i64 xt) rfl (by kernel_rfl) (by kernel_rfl) (by kernel_rfl) (fun _ _ _ h => h) (Or.inl ⟨by rfl, ?_⟩) hS0b ?_
              · intro wS hSw
                have z0 := (hSw.cell (lt_of_cell q1a)).trans q1a
                go_simp
              simp only [Act.put, List.setIfInBounds_toArray, List.set_cons_zero, List.set_cons_succ]
              refine wpAnyH_take (i := 5) (oi := { dst := some 55, op := .move (.tmp 0), type := _, pos := _, after := _, guard := none }) (v := .slice (some ⟨ga, oa, none⟩) n cap) rfl (by kernel_rfl) (by kernel_rfl) (by kernel_rfl) (fun _ _ _ h => h) (Or.inl ⟨by rfl, ?_⟩) hS0b ?_
              · intro wS hSw
                go_simp
              simp only [Act.put, List.setIfInBounds_toArray, List.set_cons_zero, List.set_cons_succ]
              refine wpAnyH_take (i := 6) (oi := { dst := some 56, op := .move (.tmp 4), type := _, pos := _, after := _, guard := none }) (v := .int .i64 (j : Int)) rfl (by kernel_rfl) (by kernel_rfl) (by kernel_rfl) (fun _ _ _ h => h) (Or.inl ⟨by rfl, ?_⟩) hS0b ?_
              · intro wS hSw
                go_simp
              simp only [Act.put, List.setIfInBounds_toArray, List.set_cons_zero, List.set_cons_succ]
              refine wpAnyH_take (i := 7) (oi := { dst := some 57, op := .indexAddr 22 (.tmp 55) (.tmp 56), type := _, pos := _, after := _, guard := none }) (v := .pointer (some ⟨ga, oa + j * 3, none⟩)) rfl (by kernel_rfl) (by kernel_rfl) (by kernel_rfl) (fun _ _ _ h => h) (Or.inl ⟨by rfl, ?_⟩) hS0b ?_
              · intro wS hSw
                go_simp
              simp only [Act.put, List.setIfInBounds_toArray, List.set_cons_zero, List.set_cons_succ]
              refine wpAnyH_take (i := 8) (oi := { dst := some 58, op := .fieldAddr 24 (.tmp 57) 0, type := _, pos := _, after := _, guard := none }) (v := .pointer (some ⟨ga, oa + j * 3, none⟩)) rfl (by kernel_rfl) (by kernel_rfl) (by kernel_rfl) (fun _ _ _ h => h) (Or.inl ⟨by rfl, ?_⟩) hS0b ?_
              · intro wS hSw
                go_simp
              simp only [Act.put, List.setIfInBounds_toArray, List.set_cons_zero, List.set_cons_succ]
              refine wpAnyH_take (i := 9) (oi := { dst := some 59, op := .load 3 (.tmp 58), type := _, pos := _, after := _, guard := none }) (v := .int .i64 yt) rfl (by kernel_rfl) (by kernel_rfl) (by kernel_rfl) (fun _ _ _ h => h) (Or.inl ⟨by rfl, ?_⟩) hS0b ?_
              · intro wS hSw
                have z0 := (hSw.cell (lt_of_cell r1a)).trans r1a
                go_simp
              simp only [Act.put, List.setIfInBounds_toArray, List.set_cons_zero, List.set_cons_succ]
              refine wpAnyH_take (i := 10) (oi := { dst := some 60, op := .binOp .neq 3 (.tmp 54) (.tmp 59) 3, type := _, pos := _, after := _, guard := none }) (v := .bool false) rfl (by kernel_rfl) (by kernel_rfl) (by kernel_rfl) (fun _ _ _ h => h) (Or.inl ⟨by rfl, ?_⟩) hS0b ?_
              · intro wS hSw
                (go_simp; try exact ht.out)
              simp only [Act.put, List.setIfInBounds_toArray, List.set_cons_zero, List.set_cons_succ]
              refine wpAnyH_take (i := 11) (oi := { dst := some 61, op := .move (.tmp 60), type := _, pos := _, after := _, guard := none }) (v := .bool false) rfl (by kernel_rfl) (by kernel_rfl) (by kernel_rfl) (fun _ _ _ h => h) (Or.inl ⟨by rfl, ?_⟩) hS0b ?_
              · intro wS hSw
                go_simp
              simp only [Act.put, List.setIfInBounds_toArray, List.set_cons_zero, List.set_cons_succ]
              refine wpAnyH_take (i := 12) (oi := { dst := some 62, op := .move (.tmp 7), type := _, pos := _, after := _, guard := some (11, true) }) (v := undef) rfl (by kernel_rfl) (by kernel_rfl) (by kernel_rfl) (fun _ _ _ h => h) (Or.inr ⟨by rfl, rfl⟩) hS0b ?_
              simp only [Act.put, List.setIfInBounds_toArray, List.set_cons_zero, List.set_cons_succ]
              refine wpAnyH_take (i := 13) (oi := { dst := some 63, op := .unOp .not 4 (.tmp 62), type := _, pos := _, after := _, guard := some (11, true) }) (v := undef) rfl (by kernel_rfl) (by kernel_rfl) (by kernel_rfl) (fun _ _ _ h => h) (Or.inr ⟨by rfl, rfl⟩) hS0b ?_
              simp only [Act.put, List.setIfInBounds_toArray, List.set_cons_zero, List.set_cons_succ]
              refine wpAnyH_take (i := 14) (oi := { dst := some 64, op := .pick (.tmp 61) (.tmp 63) (.const (.bool false)), type := _, pos := _, after := _, guard := none }) (v := .bool false) rfl (by kernel_rfl) (by kernel_rfl) (by kernel_rfl) (fun _ _ _ h => h) (Or.inl ⟨by rfl, ?_⟩) hS0b ?_
              · intro wS hSw
                go_simp
              simp only [Act.put, List.setIfInBounds_toArray, List.set_cons_zero, List.set_cons_succ]
              refine wpAnyH_done (by kernel_rfl) ?_ _
              have hA2 : Hid (At 4 x0b wo.heap.size (cellsB j (rowR R j (p + 1)))) := (hA.out.below hS0a).below hS0b
              have hB2 : Hid (Below wo.heap.size wo x0b) := (hB.out.trans (hS0a.mono hB.out.size)).trans (hS0b.mono (Nat.le_trans hB.out.size hS0a.size))
              obtain ⟨w2, hw2⟩ : ∃ x, x = x0b := ⟨_, rfl⟩
              rw [← hw2] at hA2 hB2 ⊢
              clear hw2 hS0a hS0b q1a q2a q3a r1a r2a r3a q1 q2 q3 r1 r2 r3 hA hB hBw
              have hcell : w2.cell? ⟨wo.heap.size, p, none⟩ = some (.bool (rowR R j (p + 1) p)) := by rw [hA2.out.cell]; exact cellsB_at hpj
              have hfr := hA2.out.frozen p
              have hA3 : Hid (At 4 (w2.setCell ⟨wo.heap.size, p, none⟩ (.bool true)) wo.heap.size (cellsB j (midR R j p 0))) := by
                show At _ _ _ _
                rw [← midR_first R j p hpj hD.out.symm]
                exact hA2.out.set p _
              have hB3 : Hid (Below wo.heap.size wo (w2.setCell ⟨wo.heap.size, p, none⟩ (.bool true))) := hB2.out.setCell (Nat.le_refl _) _
              clear hA2
              go_wp2_with fail
              go_loopw [8] (fun t wk => ∃ (k : Nat), k ≤ p ∧ t = .int .i64 k ∧ Hid (At 4 wk wo.heap.size (cellsB j (midR R j p k))) ∧ Hid (Below wo.heap.size wo wk)) (fun t _ => p - (intOf t).toNat)
              case atStart => exact ⟨0, Nat.zero_le _, rfl, hA3.out, hB3.out⟩
              case round =>
                obtain ⟨k, hkp, rfl, hA4, hB4⟩ := hrel
                clear hcell hfr hA3 hB3 hB2
                by_cases hk : k < p
                · obtain ⟨x, hx⟩ : ∃ k, L[p]? = some k := ⟨L[p]'(by rw [hL.out]; exact hpj), by rw [List.getElem?_eq_getElem]⟩
                  have hx2 : x.2 = (List.range p).map (hrB R p) := by
                    have e := congrArg (·[p]?) hmap.out
                    simp [headsR, hx, hpj] at e
                    exact e
                  have hcl := (hown.out.below hB4.out).cell hx
                  rw [hL.out] at hcl
                  obtain ⟨g3, c3, rfl, hc3, hcell3⟩ := hcl
                  have hckx : wr.cell? ⟨x.1, k, none⟩ = some (.bool (hrB R p k)) := by
                    rw [((hin.out x (List.mem_of_getElem? hx)).below hB4.out).cell, hx2]
                    simp [hk]
                  have hrv : rowV x = .slice (some ⟨x.1, 0, none⟩) p p := by simp [rowV, hx2]
                  rw [hrv] at hcell3
                  have hcG : wr.cell? ⟨wo.heap.size, k, none⟩ = some (.bool (midR R j p k k)) := by rw [hA4.out.cell]; exact cellsB_at (by omega)
                  have hfG := hA4.out.frozen k
                  have hA5 : Hid (At 4 (wr.setCell ⟨wo.heap.size, k, none⟩ (.bool (midR R j p k k || hrB R p k))) wo.heap.size (cellsB j (midR R j p (k + 1)))) := by
                    show At _ _ _ _
                    rw [← midR_next R j p k hpj hk hD.out.symm]
                    exact hA4.out.set k _
                  have hB5 : Hid (∀ v, Below wo.heap.size wo (wr.setCell ⟨wo.heap.size, k, none⟩ v)) := fun v => hB4.out.setCell (Nat.le_refl _) _
                  obtain ⟨X, hX⟩ : ∃ X, X = x.1 := ⟨_, rfl⟩
                  rw [← hX] at hckx hcell3
                  generalize midR R j p k k = M at *
                  generalize hrB R p k = H at *
                  clear hrv hx2 hX hx hA4 hB4
                  have k1 : (k : Int) < (p : Int) := by omega
                  have k2 : (k : Int) < (j : Int) := by omega
                  have k3 : (p : Int) < (j : Int) := by omega
                  have k4 : k < j := by omega
                  cases M <;> cases H <;>
                  · go_wp2_with fail
                    go_roundw
                    case rel => exact ⟨k + 1, by omega, by go_num, hA5.out, hB5.out _⟩
                    case measure => first | (simp [intOf]; done) | (simp [intOf]; omega)
                · have hA5 : Hid (At 4 wr wo.heap.size (cellsB j (rowR R j p))) := by
                    show At _ _ _ _
                    rw [← midR_last, show p = k by omega]
                    have := hA4.out
                    rwa [show k = p by omega] at this ⊢
                  clear hA4
                  go_wp2_with fail
                  go_roundw
                  case rel => exact ⟨p, (p : Int) - 1, by omega, rfl, by go_num, hA5.out, hB4.out⟩
                  case measure => first | (simp [intOf]; done) | (simp [intOf]; omega)
            · have ht : Hid (¬ xt = yt) := ht
              obtain rfl : D = false := by rw [HD.out]; simp [ht.out, h4.out]
              clear HD
              go_wp2_with fail
              have hS0b : Below x0a.heap.size x0a x0a.drew := Below.drew (Below.refl _ _)
              refine wp_region_held_drew (S := fun xS => Below x0a.heap.size x0a xS) (by kernel_rfl) hS0b ?_
              obtain ⟨x0b, hx0⟩ : ∃ x, x = x0a.drew := ⟨_, rfl⟩
              rw [← hx0] at hS0b  ⊢
              clear hx0
              intro _
              refine wpAnyH_take (i := 0) (oi := { dst := some 50, op := .move (.tmp 0), type := _, pos := _, after := _, guard := none }) (v := .slice (some ⟨ga, oa, none⟩) n cap) rfl (by kernel_rfl) (by kernel_rfl) (by kernel_rfl) (fun _ _ _ h => h) (Or.inl ⟨by rfl, ?_⟩) hS0b ?_
              · intro wS hSw
                go_simp
              simp only [Act.put, List.setIfInBounds_toArray, List.set_cons_zero, List.set_cons_succ]
              refine wpAnyH_take (i := 1) (oi := { dst := some 51, op := .move (.tmp 6), type := _, pos := _, after := _, guard := none }) (v := .int .i64 (p : Int)) rfl (by kernel_rfl) (by kernel_rfl) (by kernel_rfl) (fun _ _ _ h => h) (Or.inl ⟨by rfl, ?_⟩) hS0b ?_
              · intro wS hSw
                go_simp
              simp only [Act.put, List.setIfInBounds_toArray, List.set_cons_zero, List.set_cons_succ]
              refine wpAnyH_take (i := 2) (oi := { dst := some 52, op := .indexAddr 22 (.tmp 50) (.tmp 51), type := _, pos := _, after := _, guard := none }) (v := .pointer (some ⟨ga, oa + p * 3, none⟩)) rfl (by kernel_rfl) (by kernel_rfl) (by kernel_rfl) (fun _ _ _ h => h) (Or.inl ⟨by rfl, ?_⟩) hS0b ?_
              · intro wS hSw
                go_simp
              simp only [Act.put, List.setIfInBounds_toArray, List.set_cons_zero, List.set_cons_succ]
              refine wpAnyH_take (i := 3) (oi := { dst := some 53, op := .fieldAddr 24 (.tmp 52) 0, type := _, pos := _, after := _, guard := none }) (v := .pointer (some ⟨ga, oa + p * 3, none⟩)) rfl (by kernel_rfl) (by kernel_rfl) (by kernel_rfl) (fun _ _ _ h => h) (Or.inl ⟨by rfl, ?_⟩) hS0b ?_
              · intro wS hSw
                go_simp
              simp only [Act.put, List.setIfInBounds_toArray, List.set_cons_zero, List.set_cons_succ]
              refine wpAnyH_take (i := 4) (oi := { dst := some 54, op := .load 3 (.tmp 53), type := _, pos := _, after := _, guard := none }) (v := .int .i64 xt) rfl (by kernel_rfl) (by kernel_rfl) (by kernel_rfl) (fun _ _ _ h => h) (Or.inl ⟨by rfl, ?_⟩) hS0b ?_
              · intro wS hSw
                have z0 := (hSw.cell (lt_of_cell q1a)).trans q1a
                go_simp
              simp only [Act.put, List.setIfInBounds_toArray, List.set_cons_zero, List.set_cons_succ]
              refine wpAnyH_take (i := 5) (oi := { dst := some 55, op := .move (.tmp 0), type := _, pos := _, after := _, guard := none }) (v := .slice (some ⟨ga, oa, none⟩) n cap) rfl (by kernel_rfl) (by kernel_rfl) (by kernel_rfl) (fun _ _ _ h => h) (Or.inl ⟨by rfl, ?_⟩) hS0b ?_
              · intro wS hSw
                go_simp
              simp only [Act.put, List.setIfInBounds_toArray, List.set_cons_zero, List.set_cons_succ]
              refine wpAnyH_take (i := 6) (oi := { dst := some 56, op := .move (.tmp 4), type := _, pos := _, after := _, guard := none }) (v := .int .i64 (j : Int)) rfl (by kernel_rfl) (by kernel_rfl) (by kernel_rfl) (fun _ _ _ h => h) (Or.inl ⟨by rfl, ?_⟩) hS0b ?_
              · intro wS hSw
                go_simp
              simp only [Act.put, List.setIfInBounds_toArray, List.set_cons_zero, List.set_cons_succ]
              refine wpAnyH_take (i := 7) (oi := { dst := some 57, op := .indexAddr 22 (.tmp 55) (.tmp 56), type := _, pos := _, after := _, guard := none }) (v := .pointer (some ⟨ga, oa + j * 3, none⟩)) rfl (by kernel_rfl) (by kernel_rfl) (by kernel_rfl) (fun _ _ _ h => h) (Or.inl ⟨by rfl, ?_⟩) hS0b ?_
              · intro wS hSw
                go_simp
              simp only [Act.put, List.setIfInBounds_toArray, List.set_cons_zero, List.set_cons_succ]
              refine wpAnyH_take (i := 8) (oi := { dst := some 58, op := .fieldAddr 24 (.tmp 57) 0, type := _, pos := _, after := _, guard := none }) (v := .pointer (some ⟨ga, oa + j * 3, none⟩)) rfl (by kernel_rfl) (by kernel_rfl) (by kernel_rfl) (fun _ _ _ h => h) (Or.inl ⟨by rfl, ?_⟩) hS0b ?_
              · intro wS hSw
                go_simp
              simp only [Act.put, List.setIfInBounds_toArray, List.set_cons_zero, List.set_cons_succ]
              refine wpAnyH_take (i := 9) (oi := { dst := some 59, op := .load 3 (.tmp 58), type := _, pos := _, after := _, guard := none }) (v := .int .i64 yt) rfl (by kernel_rfl) (by kernel_rfl) (by kernel_rfl) (fun _ _ _ h => h) (Or.inl ⟨by rfl, ?_⟩) hS0b ?_
              · intro wS hSw
                have z0 := (hSw.cell (lt_of_cell r1a)).trans r1a
                go_simp
              simp only [Act.put, List.setIfInBounds_toArray, List.set_cons_zero, List.set_cons_succ]
              refine wpAnyH_take (i := 10) (oi := { dst := some 60, op := .binOp .neq 3 (.tmp 54) (.tmp 59) 3, type := _, pos := _, after := _, guard := none }) (v := .bool true) rfl (by kernel_rfl) (by kernel_rfl) (by kernel_rfl) (fun _ _ _ h => h) (Or.inl ⟨by rfl, ?_⟩) hS0b ?_
              · intro wS hSw
                (go_simp; try exact ht.out)
              simp only [Act.put, List.setIfInBounds_toArray, List.set_cons_zero, List.set_cons_succ]
              refine wpAnyH_take (i := 11) (oi := { dst := some 61, op := .move (.tmp 60), type := _, pos := _, after := _, guard := none }) (v := .bool true) rfl (by kernel_rfl) (by kernel_rfl) (by kernel_rfl) (fun _ _ _ h => h) (Or.inl ⟨by rfl, ?_⟩) hS0b ?_
              · intro wS hSw
                go_simp
              simp only [Act.put, List.setIfInBounds_toArray, List.set_cons_zero, List.set_cons_succ]
              refine wpAnyH_take (i := 12) (oi := { dst := some 62, op := .move (.tmp 7), type := _, pos := _, after := _, guard := some (11, true) }) (v := .bool false) rfl (by kernel_rfl) (by kernel_rfl) (by kernel_rfl) (fun _ _ _ h => h) (Or.inl ⟨by rfl, ?_⟩) hS0b ?_
              · intro wS hSw
                go_simp
              simp only [Act.put, List.setIfInBounds_toArray, List.set_cons_zero, List.set_cons_succ]
              refine wpAnyH_take (i := 13) (oi := { dst := some 63, op := .unOp .not 4 (.tmp 62), type := _, pos := _, after := _, guard := some (11, true) }) (v := .bool true) rfl (by kernel_rfl) (by kernel_rfl) (by kernel_rfl) (fun _ _ _ h => h) (Or.inl ⟨by rfl, ?_⟩) hS0b ?_
              · intro wS hSw
                go_simp
              simp only [Act.put, List.setIfInBounds_toArray, List.set_cons_zero, List.set_cons_succ]
              refine wpAnyH_take (i := 14) (oi := { dst := some 64, op := .pick (.tmp 61) (.tmp 63) (.const (.bool false)), type := _, pos := _, after := _, guard := none }) (v := .bool true) rfl (by kernel_rfl) (by kernel_rfl) (by kernel_rfl) (fun _ _ _ h => h) (Or.inl ⟨by rfl, ?_⟩) hS0b ?_
              · intro wS hSw
                go_simp
              simp only [Act.put, List.setIfInBounds_toArray, List.set_cons_zero, List.set_cons_succ]
              refine wpAnyH_done (by kernel_rfl) ?_ _
              have hA2 : Hid (At 4 x0b wo.heap.size (cellsB j (rowR R j (p + 1)))) := (hA.out.below hS0a).below hS0b
              have hB2 : Hid (Below wo.heap.size wo x0b) := (hB.out.trans (hS0a.mono hB.out.size)).trans (hS0b.mono (Nat.le_trans hB.out.size hS0a.size))
              obtain ⟨w2, hw2⟩ : ∃ x, x = x0b := ⟨_, rfl⟩
              rw [← hw2] at hA2 hB2 ⊢
              clear hw2 hS0a hS0b q1a q2a q3a r1a r2a r3a q1 q2 q3 r1 r2 r3 hA hB hBw
              have hA3 : Hid (At 4 w2 wo.heap.size (cellsB j (rowR R j p))) := by
                show At _ _ _ _
                rw [← rowR_skipq R j p hpj hD.out.symm]
                exact hA2.out
              clear hA2
              go_wp2_with fail
              go_roundw
              case rel => exact ⟨p, (p : Int) - 1, by omega, rfl, by go_num, hA3.out, hB2.out⟩
              case measure => first | (simp [intOf]; done) | (simp [intOf]; omega)
    · have hmm : Hid (L.map (·.2) = headsR R n) := by show _ = _; rw [hmap.out, show j = n by omega]
      go_wp2
      go_ret
      exact ⟨_, L, rfl, hmm.out, hown.out, hin.out, hbel.out⟩
end Go.Proofs.Ytmkhobaclpiceaa
