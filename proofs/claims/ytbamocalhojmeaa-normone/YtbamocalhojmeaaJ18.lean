/- The given answer's Levels. -/
import Derived.Test.YtbamocalhojmeaaJ17
namespace Go.Proofs.Ytbamocalhojmeaa
open Go.RowKit
set_option linter.unusedVariables false
attribute [local go_sem ↓] Go.wp_at_zero Go.wp_at_succ

theorem wp_storeI {o : Oper} {a : Act} {w : World} {K : Act → World → Prop} {Q : Exit → Act → World → Prop} (x y : Operand) (ho : o.op = .store 3 x y) (g off : Nat) (z : Int) (hx : a.eval x = .pointer (some ⟨g, off, none⟩)) (hy : a.eval y = .int .i64 z)
    (old : List Value) (hg : At 3 w g old) (hold : off + 1 ≤ old.length)
    (h : ∀ w', At 3 w' g (old.set off (.int .i64 z)) → But g w w' → w'.heap.size = w.heap.size → K (a.put o.dst undef) w') : o.wp Try.prog a w K Q := by
  have := h _ (hg.set off _) ((But.refl g w).setCell off _) (by simp)
  unfold Oper.wp execOp
  simp only [ho, hx, hy, Instr.storeAt, Instr.sureAddr, Sem.run_bind, Sem.run_pure, Result.andThen_ok, run_storeVar_cell (P := Try.prog) w g off 3 (.int .i64 z) (hg.there off 1 hold) (by kernel_rfl) rfl rfl]
  exact this
theorem OwnL.down {base base' : Nat} {w : World} {v : Value} {vs : List Value} (h : OwnL base w v vs) (hb : base' ≤ base) : OwnL base' w v vs := by
  obtain ⟨h0, h1 | ⟨g, cap, cur, h2, hg, hh⟩⟩ := h
  · exact ⟨h0, .inl h1⟩
  · exact ⟨h0, .inr ⟨g, cap, cur, h2, Nat.le_trans hb hg, hh⟩⟩
/-- All levels. -/
def levelsE (ev : Nat → Ev) (m n : Nat) : List (List Nat) := levelsL ev m n (mostTo ev m + 1).toNat

set_option maxRecDepth 100000 in
set_option maxHeartbeats 12800000 in
theorem refLevels_ok (es : List Ev) (n : Nat) (a : Option Addr) (c : Nat) (w : World) (hE : RowEv w a es) (hc : es.length ≤ c) (hw : wrongZ es n = 0) :
    Calls Try.prog 13 #[.slice a es.length c, .int .i64 n] w fun r w' => ∃ v vs, r = .returned (.tuple #[v, .int .i64 0]) ∧ OwnL w.heap.size w' v vs ∧ RowsV w.heap.size w' vs (levelsE (evAt es) es.length n) ∧ Below w.heap.size w w' := by
  obtain ⟨i0, hi0, hz0, hz1, hz2⟩ := info_parts Try.info3
  obtain ⟨hn1, hn2, h3, -⟩ := wrongZ_ok hw
  have HW := refWrongU_any es n a c w hE (by omega) hc
  rw [hw] at HW
  have HH := refHeads_any a c es w hE (by omega) hc
  obtain ⟨ev, hev⟩ : ∃ ev, Hid (ev = evAt es) := ⟨_, (rfl : _ = evAt _)⟩
  obtain ⟨m, hm⟩ : ∃ m, Hid (m = es.length) := ⟨_, (rfl : _ = es.length)⟩
  rw [← hev.out, ← hm.out] at HH
  rw [← hm.out] at HW hc h3
  rw [← hev.out, ← hm.out]
  have HE : Hid (RowEv w a es) := hE
  clear hE hw
  go_enter Try.func13, Try.ntmps13
  go_wp2_with (first | (go_at_call 36; refine HW.mono ?_; rintro _ w1 ⟨rfl, hw⟩; obtain rfl : w = w1 := hw.symm; clear hw) | (go_at_call 37; refine HH.mono ?_; rintro _ w3 ⟨vh, L, rfl, hmap, hownH, hin, hb3⟩; refine Hid.out ?_))
  refine hidU ?_
  obtain ⟨ah, ch, rfl, hch, hds⟩ := Hds.of (f := hbB ev) hownH hmap hin
  have HDS : Hid (0 < m → ∃ g, ah = some ⟨g, 0, none⟩ ∧ Hds w3 g m (hbB ev)) := hds
  have HB3 : Hid (Below w.heap.size w w3) := hb3
  clear hownH hmap hin hb3 hds HH HW
  go_wp2_with (at_make; refine wpList_make_full _ rfl (.tmp 26) (.tmp 26) 23 rfl w3.heap.size 3 i0 (.int .i64 0) 1 Try.underlying23 hi0 hz0 hz1 .i64 .i64 _ _ m rfl rfl rfl rfl (by rw [hz2]; omega) (by unfold maxLen; omega) (Nat.le_refl _) ?_)
  intro w4 hown4 hgrow4
  obtain ⟨gl, hgl⟩ : ∃ g, Hid (g = w3.heap.size) := ⟨_, (rfl : _ = w3.heap.size)⟩
  have HB4 : Hid (Below w3.heap.size w3 w4) := (Below.refl _ w3).grown hgrow4 (Nat.le_refl _) (by intro k hk; cases hk)
  have HA4 : Hid (At 3 w4 gl (cellsN m (curL ev 0 0))) := by
    obtain ⟨_, ⟨h, _⟩ | ⟨g, cp, cur, h, hg, hh, _, _, hs, ht⟩⟩ := hown4
    · cases h
    · cases h
      show At _ _ _ _
      rw [hgl.out, cells_zero, ← toList_madeCells_one]
      unfold At
      rw [hh]
      have e : cur.toList = (madeCells #[Value.int .i64 0] m).toList := by rw [← ht, List.take_of_length_le (by simp [hs])]
      rw [← e]
  rw [← hgl.out]
  clear hown4 hgrow4
  go_wp2_with fail
  go_loopw [9, 10] (fun t u wr => ∃ j : Nat, j ≤ m ∧ u = .int .i64 j ∧ Hid (t = .int .i64 (mostTo ev j)) ∧ Hid (At 3 wr gl (cellsN m (curL ev j 0))) ∧ Hid (Below w3.heap.size w3 wr)) (fun _ u _ => m - (intOf u).toNat)
  case atStart => exact ⟨0, Nat.zero_le _, rfl, (show _ = _ from rfl), HA4.out, HB4.out⟩
  case round =>
    obtain ⟨j, hj, rfl, hmost, hA, hB⟩ := hrel
    obtain ⟨wo, rfl⟩ : ∃ x, x = wr := ⟨wr, rfl⟩
    clear HA4 HB4
    by_cases hjm : j < m
    · obtain ⟨gh, rfl, HD0⟩ := HDS.out (by omega)
      have HD2 : Hid (Hds w3 gh m (hbB ev)) := HD0
      clear HD0 HDS
      go_wp2_with fail
      go_loopw [11] (fun u wr => ∃ i : Nat, i ≤ j ∧ u = .int .i64 i ∧ Hid (At 3 wr gl (cellsN m (curL ev j i))) ∧ Hid (Below w3.heap.size w3 wr)) (fun u _ => j - (intOf u).toNat)
      case atStart => exact ⟨0, Nat.zero_le _, rfl, hA.out, hB.out⟩
      case round =>
        obtain ⟨i, hi, rfl, HAi, hBi⟩ := hrel
        obtain ⟨wi, rfl⟩ : ∃ x, x = wr := ⟨wr, rfl⟩
        clear hA hB
        by_cases hij : i < j
        · obtain ⟨X0, k1, kk⟩ := (HD2.out.below hBi.out) j hjm
          have k2 := kk i hij
          obtain ⟨H, hH⟩ : ∃ H, H = hbB ev j i := ⟨_, rfl⟩
          rw [← hH] at k2
          have z1 : (j : Int) < (m : Int) := by omega
          have z2 : (i : Int) < (j : Int) := by omega
          have z3 : (i : Int) < (m : Int) := by omega
          clear kk
          cases H
          · have HA2 : Hid (At 3 wi gl (cellsN m (curL ev j (i + 1)))) := by show At _ _ _ _; rw [curL_skip hH.symm]; exact HAi.out
            clear hH
            go_wp2_with fail
            go_roundw
            case rel => exact ⟨i + 1, by omega, by go_num, HA2.out, hBi.out⟩
            case measure => simp [intOf]; omega
          · have c1 : wi.cell? ⟨gl, j, none⟩ = some (.int .i64 ((curL ev j i j : Nat) : Int)) := by rw [HAi.out.cell]; exact cellsN_at hjm
            have c2 : wi.cell? ⟨gl, i, none⟩ = some (.int .i64 ((curL ev j i i : Nat) : Int)) := by rw [HAi.out.cell]; exact cellsN_at (by omega)
            have hci : curL ev j i i = lev ev i := by unfold curL; rw [if_pos hij]
            rw [hci] at c2
            have hst := curL_step (ev := ev) (m := m) hjm hH.symm
            have hAb := curL_le ev j i j (by omega)
            have hBb := lev_le ev i
            obtain ⟨A, hA0⟩ : ∃ x, x = curL ev j i j := ⟨_, rfl⟩
            obtain ⟨B, hB0⟩ : ∃ x, x = lev ev i := ⟨_, rfl⟩
            rw [← hA0] at c1 hst hAb
            rw [← hB0] at c2 hst hBb
            obtain ⟨B1, hB1⟩ : ∃ x, x = B + 1 := ⟨_, rfl⟩
            obtain ⟨Mx, hMx⟩ : ∃ x, x = max A (B + 1) := ⟨_, rfl⟩
            rw [← hMx] at hst
            have HST : Hid ((cellsN m (curL ev j i)).set j (.int .i64 (Mx : Int)) = cellsN m (curL ev j (i + 1))) := hst
            have hwb : IntKind.i64.wrap ((B : Int) + 1) = (B1 : Int) := by rw [hB1, IntKind.wrap_i64]; omega
            have hmx : (if (A : Int) < (B1 : Int) then (B1 : Int) else (A : Int)) = (Mx : Int) := by rw [hMx, hB1]; split <;> omega
            have hmn : Hid ((if A < B1 then (B1 : Int) else (A : Int)) = (Mx : Int)) := by show _ = _; rw [hMx, hB1]; split <;> omega
            clear hst hA0 hB0 hci hH hB1 hMx hAb hBb
            go_wp2_with fail
            have hS0a : Below wi.heap.size wi wi.drew := Below.drew (Below.refl _ _)
            refine wp_region_S (S := fun xS => Below wi.heap.size wi xS) (St := [13]) (by kernel_rfl) hS0a ?_
            obtain ⟨x0a, hx0⟩ : ∃ x, x = wi.drew := ⟨_, rfl⟩
            rw [← hx0] at hS0a  ⊢
            clear hx0
            intro hH
            refine wpAnyS_pure (i := 0) (oi := { dst := some 46, op := .move (.tmp 8), type := _, pos := _, after := _, guard := none }) (v := .slice (some ⟨gl, 0, none⟩) m m) rfl (by kernel_rfl) (by kernel_rfl) (by kernel_rfl) (by kernel_rfl) (fun _ _ _ h => h) (Or.inl ⟨by rfl, ?_⟩) hH (fun hH => ?_)
            · intro wS hSw
              go_simp
            simp only [Act.put, List.setIfInBounds_toArray, List.set_cons_zero, List.set_cons_succ]
            refine wpAnyS_pure (i := 1) (oi := { dst := some 47, op := .move (.tmp 10), type := _, pos := _, after := _, guard := none }) (v := .int .i64 (j : Int)) rfl (by kernel_rfl) (by kernel_rfl) (by kernel_rfl) (by kernel_rfl) (fun _ _ _ h => h) (Or.inl ⟨by rfl, ?_⟩) hH (fun hH => ?_)
            · intro wS hSw
              go_simp
            simp only [Act.put, List.setIfInBounds_toArray, List.set_cons_zero, List.set_cons_succ]
            refine wpAnyS_pure (i := 2) (oi := { dst := some 48, op := .move (.tmp 8), type := _, pos := _, after := _, guard := none }) (v := .slice (some ⟨gl, 0, none⟩) m m) rfl (by kernel_rfl) (by kernel_rfl) (by kernel_rfl) (by kernel_rfl) (fun _ _ _ h => h) (Or.inl ⟨by rfl, ?_⟩) hH (fun hH => ?_)
            · intro wS hSw
              go_simp
            simp only [Act.put, List.setIfInBounds_toArray, List.set_cons_zero, List.set_cons_succ]
            refine wpAnyS_pure (i := 3) (oi := { dst := some 49, op := .move (.tmp 10), type := _, pos := _, after := _, guard := none }) (v := .int .i64 (j : Int)) rfl (by kernel_rfl) (by kernel_rfl) (by kernel_rfl) (by kernel_rfl) (fun _ _ _ h => h) (Or.inl ⟨by rfl, ?_⟩) hH (fun hH => ?_)
            · intro wS hSw
              go_simp
            simp only [Act.put, List.setIfInBounds_toArray, List.set_cons_zero, List.set_cons_succ]
            refine wpAnyS_pure (i := 4) (oi := { dst := some 50, op := .indexAddr 23 (.tmp 48) (.tmp 49), type := _, pos := _, after := _, guard := none }) (v := .pointer (some ⟨gl, j, none⟩)) rfl (by kernel_rfl) (by kernel_rfl) (by kernel_rfl) (by kernel_rfl) (fun _ _ _ h => h) (Or.inl ⟨by rfl, ?_⟩) hH (fun hH => ?_)
            · intro wS hSw
              go_simp
            simp only [Act.put, List.setIfInBounds_toArray, List.set_cons_zero, List.set_cons_succ]
            refine wpAnyS_take [11, 12, 13] (i := 5) (oi := { dst := some 51, op := .load 3 (.tmp 50), type := _, pos := _, after := _, guard := none }) (v := .int .i64 (A : Int)) rfl (by kernel_rfl) (by kernel_rfl) (by kernel_rfl) (by kernel_rfl) (by kernel_rfl) (by kernel_rfl) (by kernel_rfl) (fun _ _ _ h => h) (Or.inl ⟨by rfl, ?_⟩) hH (fun hH => ?_)
            · intro wS hSw
              have z0 := (hSw.cell (lt_of_cell c1)).trans c1
              go_simp
            simp only [Act.put, List.setIfInBounds_toArray, List.set_cons_zero, List.set_cons_succ]
            refine wpAnyS_pure (i := 6) (oi := { dst := some 52, op := .move (.tmp 8), type := _, pos := _, after := _, guard := none }) (v := .slice (some ⟨gl, 0, none⟩) m m) rfl (by kernel_rfl) (by kernel_rfl) (by kernel_rfl) (by kernel_rfl) (fun _ _ _ h => h) (Or.inl ⟨by rfl, ?_⟩) hH (fun hH => ?_)
            · intro wS hSw
              go_simp
            simp only [Act.put, List.setIfInBounds_toArray, List.set_cons_zero, List.set_cons_succ]
            refine wpAnyS_pure (i := 7) (oi := { dst := some 53, op := .move (.tmp 11), type := _, pos := _, after := _, guard := none }) (v := .int .i64 (i : Int)) rfl (by kernel_rfl) (by kernel_rfl) (by kernel_rfl) (by kernel_rfl) (fun _ _ _ h => h) (Or.inl ⟨by rfl, ?_⟩) hH (fun hH => ?_)
            · intro wS hSw
              go_simp
            simp only [Act.put, List.setIfInBounds_toArray, List.set_cons_zero, List.set_cons_succ]
            refine wpAnyS_pure (i := 8) (oi := { dst := some 54, op := .indexAddr 23 (.tmp 52) (.tmp 53), type := _, pos := _, after := _, guard := none }) (v := .pointer (some ⟨gl, i, none⟩)) rfl (by kernel_rfl) (by kernel_rfl) (by kernel_rfl) (by kernel_rfl) (fun _ _ _ h => h) (Or.inl ⟨by rfl, ?_⟩) hH (fun hH => ?_)
            · intro wS hSw
              go_simp
            simp only [Act.put, List.setIfInBounds_toArray, List.set_cons_zero, List.set_cons_succ]
            refine wpAnyS_take [10, 11, 12, 13] (i := 9) (oi := { dst := some 55, op := .load 3 (.tmp 54), type := _, pos := _, after := _, guard := none }) (v := .int .i64 (B : Int)) rfl (by kernel_rfl) (by kernel_rfl) (by kernel_rfl) (by kernel_rfl) (by kernel_rfl) (by kernel_rfl) (by kernel_rfl) (fun _ _ _ h => h) (Or.inl ⟨by rfl, ?_⟩) hH (fun hH => ?_)
            · intro wS hSw
              have z0 := (hSw.cell (lt_of_cell c2)).trans c2
              go_simp
            simp only [Act.put, List.setIfInBounds_toArray, List.set_cons_zero, List.set_cons_succ]
            refine wpAnyS_pure (i := 10) (oi := { dst := some 56, op := .binOp .add 3 (.tmp 55) (.const (.int .i64 1)) 3, type := _, pos := _, after := _, guard := none }) (v := .int .i64 (B1 : Int)) rfl (by kernel_rfl) (by kernel_rfl) (by kernel_rfl) (by kernel_rfl) (fun _ _ _ h => h) (Or.inl ⟨by rfl, ?_⟩) hH (fun hH => ?_)
            · intro wS hSw
              go_simp
            simp only [Act.put, List.setIfInBounds_toArray, List.set_cons_zero, List.set_cons_succ]
            refine wpAnyS_pure (i := 11) (oi := { dst := some 57, op := .call { callee := .builtin .max, args := #[.tmp 51, .tmp 56], argTypes := #[3, 3] }, type := _, pos := _, after := _, guard := none }) (v := .int .i64 (Mx : Int)) rfl (by kernel_rfl) (by kernel_rfl) (by kernel_rfl) (by kernel_rfl) (fun _ _ _ h => h) (Or.inl ⟨by rfl, ?_⟩) hH (fun hH => ?_)
            · intro wS hSw
              (go_simp; try exact hmn.out)
            simp only [Act.put, List.setIfInBounds_toArray, List.set_cons_zero, List.set_cons_succ]
            refine wpAnyS_pure (i := 12) (oi := { dst := some 58, op := .indexAddr 23 (.tmp 46) (.tmp 47), type := _, pos := _, after := _, guard := none }) (v := .pointer (some ⟨gl, j, none⟩)) rfl (by kernel_rfl) (by kernel_rfl) (by kernel_rfl) (by kernel_rfl) (fun _ _ _ h => h) (Or.inl ⟨by rfl, ?_⟩) hH (fun hH => ?_)
            · intro wS hSw
              go_simp
            simp only [Act.put, List.setIfInBounds_toArray, List.set_cons_zero, List.set_cons_succ]
            refine wpAnyS_ready (rs := [13]) (by kernel_rfl) (by simp) ?_
            refine AllReadyS.cons (o := { dst := none, op := .store 3 (.tmp 58) (.tmp 57), type := _, pos := _, after := _, guard := none }) rfl (fun K hK => ?_) AllReadyS.nil
            rw [if_pos (by rfl)]
            refine wp_storeI (.tmp 58) (.tmp 57) rfl gl j (Mx : Int) rfl rfl _ (HAi.out.below hS0a) (by rw [cellsN_length]; omega) ?_
            intro x1a hA1a hb1a hs1a
            refine hK.out _ _ (Hold.over (s := 13) (by decide) (by rfl)) (fun hH => ?_)
            clear hK K
            refine wpAnyS_done (by kernel_rfl) ?_ _
            have HA2 : Hid (At 3 x1a gl (cellsN m (curL ev j (i + 1)))) := by
              show At _ _ _ _
              rw [← HST.out]
              exact hA1a
            have HB2 : Hid (Below w3.heap.size w3 x1a) := hb1a.below (hBi.out.trans (hS0a.mono hBi.out.size)) (by rw [hgl.out]; exact Nat.le_refl _) (Nat.le_trans hBi.out.size hS0a.size)
            clear hA1a hb1a hs1a hS0a c1 c2 HST
            go_wp2_with fail
            go_roundw
            case rel => exact ⟨i + 1, by omega, by go_num, HA2.out, HB2.out⟩
            case measure => simp [intOf]; omega
        · have hij2 : Hid (i = j) := show i = j by omega
          have HA2 : Hid (At 3 wi gl (cellsN m (curL ev (j + 1) 0))) := by
            show At _ _ _ _
            rw [← curL_next]
            have := HAi.out
            rwa [hij2.out] at this
          have c1 : wi.cell? ⟨gl, j, none⟩ = some (.int .i64 ((lev ev j : Nat) : Int)) := by
            rw [HA2.out.cell, cellsN_at hjm]
            unfold curL
            rw [if_pos (Nat.lt_succ_self j)]
          obtain ⟨B, hB0⟩ : ∃ x, x = lev ev j := ⟨_, rfl⟩
          obtain ⟨Mo, hMo⟩ : ∃ x, x = mostTo ev j := ⟨_, rfl⟩
          obtain ⟨Mx, hMx⟩ : ∃ x, x = mostTo ev (j + 1) := ⟨_, rfl⟩
          have hm2 := hmost.out
          rw [← hMo] at hm2
          rw [← hB0] at c1
          have hmx : (if Mo < (B : Int) then (B : Int) else Mo) = Mx := by
            rw [hMx, hMo, hB0, mostTo]
            split <;> omega
          have HMX : Hid (Mx = mostTo ev (j + 1)) := hMx
          rw [hm2]
          have z1 : (j : Int) < (m : Int) := by omega
          have z2 : ¬ (i : Int) < (j : Int) := by omega
          clear hB0 hMo hMx hm2 hmost HAi hij hi
          go_wp2_with fail
          go_roundw
          case rel => exact ⟨j + 1, by omega, by go_num, (show _ = _ by rw [← HMX.out]), HA2.out, hBi.out⟩
          case measure => simp [intOf]; omega
    · have hjm2 : Hid (j = m) := show j = m by omega
      obtain ⟨Mo, hMo⟩ : ∃ x, Hid (x = mostTo ev m) := ⟨_, (rfl : _ = mostTo _ _)⟩
      have hm2 := hmost.out
      rw [hjm2.out, ← hMo.out] at hm2
      rw [hm2]
      obtain ⟨q1, q2⟩ := mostTo_le ev m
      rw [← hMo.out] at q1 q2
      have HAm : Hid (At 3 wo gl (cellsN m (lev ev))) := by
        have := hA.out
        rw [hjm2.out] at this
        have e : cellsN m (curL ev m 0) = cellsN m (lev ev) := by
          unfold cellsN
          refine List.map_congr_left fun x hx => ?_
          unfold curL
          rw [if_pos (List.mem_range.1 hx)]
        rw [e] at this
        exact this
      have z0 : ¬ (j : Int) < (m : Int) := by omega
      clear hm2 hmost hA hjm hj
      go_wp2_with fail
      go_loopw [12, 13] (fun v u wr => ∃ (k : Nat) (vs : List Value), (k : Int) ≤ Mo + 1 ∧ u = .int .i64 k ∧ Hid (OwnL wo.heap.size wr v vs) ∧ Hid (RowsV w.heap.size wr vs (levelsL ev m n k)) ∧ Hid (Below wo.heap.size wo wr)) (fun _ u _ => (Mo + 1 - intOf u).toNat)
      case atStart => exact ⟨0, [], by omega, rfl, World.ownsRow_nil _ _ _ _, ⟨rfl, fun i v r h => by simp at h⟩, Below.refl _ _⟩
      case round =>
        obtain ⟨k, vs, hk, rfl, hown, hrows, hBk⟩ := hrel
        obtain ⟨wk, rfl⟩ : ∃ x, x = wr := ⟨wr, rfl⟩
        by_cases hkM : (k : Int) ≤ Mo
        · go_wp2_with fail
          go_loopw [14, 15] (fun v u wr => ∃ t : Nat, t ≤ n ∧ u = .int .i64 t ∧ Hid (OwnI wk.heap.size wr v (natI (lvRows ev m k t))) ∧ Hid (Below wk.heap.size wk wr)) (fun _ u _ => n - (intOf u).toNat)
          case atStart => exact ⟨0, Nat.zero_le _, rfl, World.ownsRow_nil _ _ _ _, Below.refl _ _⟩
          case round =>
            obtain ⟨t, ht, rfl, hrow, hBt⟩ := hrel
            obtain ⟨wt, rfl⟩ : ∃ x, x = wr := ⟨wr, rfl⟩
            by_cases htn : t < n
            · have z1 : (t : Int) < (n : Int) := by omega
              go_wp2_with fail
              go_loopw [14, 16] (fun v u wr => ∃ x : Nat, x ≤ m ∧ u = .int .i64 x ∧ Hid (OwnI wk.heap.size wr v (natI (lvRows ev m k t ++ lvRow ev k t x))) ∧ Hid (Below wk.heap.size wk wr)) (fun _ u _ => m - (intOf u).toNat)
              case atStart => exact ⟨0, Nat.zero_le _, rfl, (show OwnI _ _ _ _ by rw [show lvRow ev k t 0 = [] from rfl, List.append_nil]; exact hrow.out), hBt.out⟩
              case round =>
                obtain ⟨x, hx, rfl, hrw, hBx⟩ := hrel
                clear hrow hBt
                by_cases hxm : x < m
                · have hBw : Below wo.heap.size wo wr := hBk.out.trans (hBx.out.mono hBk.out.size)
                  have c1 : wr.cell? ⟨gl, x, none⟩ = some (.int .i64 ((lev ev x : Nat) : Int)) := by rw [(HAm.out.below hBw).cell]; exact cellsN_at hxm
                  have hBw0 : Below w.heap.size w wr := HB3.out.trans ((hB.out.trans (hBw.mono hB.out.size)).mono HB3.out.size)
                  obtain ⟨y, hy⟩ : ∃ e, es[x]? = some e := ⟨es[x]'(by rw [← hm.out]; exact hxm), by rw [List.getElem?_eq_getElem]⟩
                  obtain ⟨ga, oa, rfl, hre⟩ := (HE.out.below hBw0).at x y hy
                  obtain ⟨r1, -, -⟩ := range_cells hre
                  have e1 : ev x = y := by rw [hev.out]; exact evAt_eq hy
                  have hlen : (natI (lvRows ev m k t ++ lvRow ev k t x)).length ≤ 1048576 := by
                    rw [natI_length, List.length_append]
                    have h1 := lvRows_length ev m k t
                    have h2 := lvRow_length ev k t x
                    have h3 := Nat.mul_le_mul (show t ≤ 16 by omega) (show m ≤ 1024 by omega)
                    omega
                  have hsz := hBx.out.size
                  have z3 : (x : Int) < (m : Int) := by omega
                  by_cases hl : lev ev x = k
                  · rw [hl] at c1
                    by_cases hth : y.th = (t : Int)
                    · have HN : Hid (natI (lvRows ev m k t ++ lvRow ev k t (x + 1)) = natI (lvRows ev m k t ++ lvRow ev k t x) ++ [(x : Int)]) := by
                        show _ = _
                        rw [lvRow_yes hl (by rw [e1]; exact hth), ← List.append_assoc, natI_snoc]
                      rw [hth] at r1
                      clear hl hth e1 hy hre hBw hBw0
                      go_wp2_with (first | (at_builtin; refine appI (.tmp 96) (.tmp 98) (x : Int) wk.heap.size _ _ rfl rfl rfl rfl hrw.out hlen hsz ?_; intro v6 w6 hown6 hb6))
                      go_roundw
                      case rel => exact ⟨x + 1, by omega, by go_num, (show OwnI _ _ _ _ by rw [HN.out]; exact hown6), hBx.out.trans hb6⟩
                      case measure => simp [intOf]; omega
                    · have HN : Hid (lvRow ev k t (x + 1) = lvRow ev k t x) := lvRow_no (by rw [e1]; exact fun h => hth h.2)
                      obtain ⟨yt, hyt⟩ : ∃ z, z = y.th := ⟨_, rfl⟩
                      rw [← hyt] at r1 hth
                      have hth2 : (yt == (t : Int)) = false := by rw [beq_eq_false_iff_ne]; exact hth
                      clear hl e1 hy hre hBw hBw0 hyt
                      go_wp2_with fail
                      go_roundw
                      case rel => exact ⟨x + 1, by omega, by go_num, (show OwnI _ _ _ _ by rw [HN.out]; exact hrw.out), hBx.out⟩
                      case measure => simp [intOf]; omega
                  · have HN : Hid (lvRow ev k t (x + 1) = lvRow ev k t x) := lvRow_no (fun h => hl h.1)
                    obtain ⟨lx, hlx⟩ : ∃ z, z = lev ev x := ⟨_, rfl⟩
                    rw [← hlx] at c1 hl
                    have hl2 : ¬ (lx : Int) = (k : Int) := by omega
                    have hl3 : ((lx : Int) == (k : Int)) = false := by rw [beq_eq_false_iff_ne]; exact hl2
                    clear e1 hy hre hBw hBw0 hlx hl
                    go_wp2_with fail
                    go_roundw
                    case rel => exact ⟨x + 1, by omega, by go_num, (show OwnI _ _ _ _ by rw [HN.out]; exact hrw.out), hBx.out⟩
                    case measure => simp [intOf]; omega
                · have hxm2 : Hid (x = m) := show x = m by omega
                  have z3 : ¬ (x : Int) < (m : Int) := by omega
                  have HN : Hid (lvRows ev m k (t + 1) = lvRows ev m k t ++ lvRow ev k t x) := by show _ = _; rw [lvRows_succ, hxm2.out]
                  go_wp2_with fail
                  go_roundw
                  case rel => exact ⟨t + 1, by omega, by go_num, (show OwnI _ _ _ _ by rw [HN.out]; exact hrw.out), hBx.out⟩
                  case measure => simp [intOf]; omega
            · have htn2 : Hid (t = n) := show t = n by omega
              have z1 : ¬ (t : Int) < (n : Int) := by omega
              obtain ⟨ar, cr, rfl, hcr, -⟩ := hrow.out.row
              have HRW : Hid (OwnI w.heap.size wt (.slice ar (natI (lvRows ev m k t)).length cr) (natI (lvRows ev m k n))) := by
                have := OwnI.down hrow.out (Nat.le_trans (Nat.le_trans HB3.out.size hB.out.size) hBk.out.size)
                show OwnI _ _ _ _
                rwa [← htn2.out]
              obtain ⟨lr, hlr⟩ : ∃ x, x = (natI (lvRows ev m k t)).length := ⟨_, rfl⟩
              rw [← hlr] at HRW ⊢
              have hvl : vs.length ≤ 1048576 := by
                rw [hrows.out.1]
                simp [levelsL]
                omega
              have hBo : Hid (Below wo.heap.size wo wt) := hBk.out.trans (hBt.out.mono hBk.out.size)
              have HO3 : Hid _ := hown.out.below hBt.out
              have hsz := hBo.out.size
              have HRV : Hid (RowsV w.heap.size wt vs (levelsL ev m n k)) := hrows.out.below hBt.out
              clear hrow hBt hown hrows hBk hlr hcr ht htn
              go_wp2_with (first | (at_builtin; refine appR (.tmp 100) (.tmp 102) (.slice ar lr cr) wo.heap.size _ vs rfl rfl rfl rfl rfl HO3.out hvl hsz ?_; intro v6 w6 hown6 hb6 hkeep6))
              go_roundw
              case rel =>
                refine ⟨k + 1, vs ++ [Value.slice ar lr cr], by omega, by go_num, (show OwnL _ _ _ _ from hown6), ?_, hBo.out.trans hb6⟩
                show RowsV _ _ _ _
                refine ⟨by rw [List.length_append, HRV.out.1]; simp [levelsL], fun i v r h1 h2 => ?_⟩
                rw [levelsL_succ] at h2
                have hlen := HRV.out.1
                rcases Nat.lt_or_ge i vs.length with h | h
                · rw [List.getElem?_append_left h] at h1
                  rw [List.getElem?_append_left (by omega)] at h2
                  exact hkeep6 _ _ _ (HRV.out.2 i v r h1 h2)
                · have hi2 : i = vs.length := by
                    have := (List.getElem?_eq_some_iff.1 h1).1
                    simp at this
                    omega
                  rw [List.getElem?_append_right h, hi2, Nat.sub_self] at h1
                  rw [List.getElem?_append_right (by omega), hi2, hlen, Nat.sub_self] at h2
                  cases h1
                  cases h2
                  exact hkeep6 _ _ _ HRW.out
              case measure => simp [intOf]; omega
        · have hkM2 : Hid ((Mo + 1).toNat = k) := show (Mo + 1).toNat = k by omega
          have HF : Hid (RowsV w.heap.size wk vs (levelsE ev m n)) := by
            show RowsV _ _ _ _
            unfold levelsE
            rw [← hMo.out, hkM2.out]
            exact hrows.out
          clear hrows
          go_wp2_with fail
          go_ret2
          refine ⟨_, rfl, vs, OwnL.down hown.out (Nat.le_trans HB3.out.size hB.out.size), HF.out, HB3.out.trans ((hB.out.trans (hBk.out.mono hB.out.size)).mono HB3.out.size)⟩
end Go.Proofs.Ytbamocalhojmeaa
