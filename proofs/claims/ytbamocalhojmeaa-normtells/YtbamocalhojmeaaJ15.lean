/- The given answer's Least. -/
import Derived.Test.YtbamocalhojmeaaJ13
namespace Go.Proofs.Ytbamocalhojmeaa
open Go.RowKit
set_option linter.unusedVariables false
attribute [local go_sem ↓] Go.wp_at_zero Go.wp_at_succ

def lenV : Value → Nat
  | .slice _ n _ => n
  | _ => 0
def natI (out : List Nat) : List Int := out.map fun (i : Nat) => (i : Int)
theorem natI_length (out : List Nat) : (natI out).length = out.length := by simp [natI]
theorem natI_snoc (out : List Nat) (b : Nat) : natI (out ++ [b]) = natI out ++ [(b : Int)] := by simp [natI]
def optI : Option Nat → Int
  | none => -1
  | some b => (b : Int)
theorem OwnI.but {base : Nat} {w w' : World} {v : Value} {zs : List Int} {g : Nat} (h : OwnI base w v zs) (hb : But g w w') (hg : g < base) : OwnI base w' v zs := by
  obtain ⟨h0, ⟨h1, h2⟩ | ⟨k, cap, cur, rfl, hk, hh, hr⟩⟩ := h
  · exact ⟨h0, .inl ⟨h1, h2⟩⟩
  · refine ⟨h0, .inr ⟨k, cap, cur, rfl, hk, ?_, hr⟩⟩
    rw [hb.block k (heapLt hh) (by omega)]
    exact hh
theorem OwnI.down {base base' : Nat} {w : World} {v : Value} {zs : List Int} (h : OwnI base w v zs) (hb : base' ≤ base) : OwnI base' w v zs := by
  obtain ⟨h0, h1 | ⟨g, cap, cur, h2, hg, hh⟩⟩ := h
  · exact ⟨h0, .inl h1⟩
  · exact ⟨h0, .inr ⟨g, cap, cur, h2, Nat.le_trans hb hg, hh⟩⟩
theorem run_storeVar_cell {P : Program} (w : World) (b o : Nat) (ty : TypeId) (v : Value) (ht : w.there b o 1) (hi : (P.info? ty).map (·.size) = some 1) (hc : v.cells = #[v]) (h1 : v.oneCell' = true) :
    (storeVar ty ⟨b, o, none⟩ v).run P w = .ok () (w.setCell ⟨b, o, none⟩ v) := by
  have := run_storeCells_cells (P := P) b o [v] 0 w (fun j hj => by simpa using (ht j (by simpa using hj)).1) (fun j hj => by simpa using (ht j (by simpa using hj)).2) (fun u hu => by simp at hu; subst hu; exact h1)
  cases hq : P.info? ty with
  | none => simp [hq] at hi
  | some i =>
    have hs : i.size = 1 := by simp [hq] at hi; omega
    simp only [Nat.add_zero] at this
    simp [storeVar, sizeOf, typeInfo, hq, hc, hs, this, World.setCells]
theorem wpList_store1 {ops : Array Oper} {rest : List Oper} {o : Oper} {a : Act} {w : World} {Q : Exit → Act → World → Prop} (hgd : o.guard = none) (ty : TypeId) (x y : Operand) (ho : o.op = .store ty x y)
    (g off : Nat) (v : Value) (hx : a.eval x = .pointer (some ⟨g, off, none⟩)) (hy : a.eval y = v)
    (t : TypeId) (old : List Value) (hg : At t w g old) (hold : off + 1 ≤ old.length) (hi : (Try.prog.info? ty).map (·.size) = some 1) (hc : v.cells = #[v]) (h1 : v.oneCell' = true)
    (h : ∀ w', At t w' g (old.set off v) → But g w w' → w'.heap.size = w.heap.size → wpList Try.prog ops Q rest (a.put o.dst undef) w') : wpList Try.prog ops Q (o :: rest) a w := by
  refine wpList_plain hgd fun K hK => ?_
  have := hK _ _ (h _ (hg.set off v) ((But.refl g w).setCell off v) (by simp))
  unfold Oper.wp execOp
  simp only [ho, hx, hy, Instr.storeAt, Instr.sureAddr, Sem.run_bind, Sem.run_pure, Result.andThen_ok, run_storeVar_cell w g off ty v (hg.there off 1 hold) hi hc h1]
  exact this
theorem cells_in {m : Nat} {out : List Nat} {b : Nat} (h : b < m) : (cellsB m (memB out)).set b (.bool true) = cellsB m (memB (out ++ [b])) := by
  have e : true = memB (out ++ [b]) b := by simp [memB]
  rw [e]
  exact cellsB_set h fun x _ hx => by rw [memB_snoc, decide_eq_false hx, Bool.or_false]
theorem cells_none (m : Nat) : cellsB m (memB []) = List.replicate m (.bool false) := by
  apply List.ext_getElem?
  intro x
  rcases Nat.lt_or_ge x m with hx | hx
  · rw [cellsB_at hx, List.getElem?_replicate, if_pos hx]
    rfl
  · rw [List.getElem?_eq_none (by rw [cellsB_length]; exact hx), List.getElem?_eq_none (by simp; exact hx)]

set_option maxRecDepth 100000 in
set_option maxHeartbeats 12800000 in
theorem refLeast_ok (es : List Ev) (n : Int) (a : Option Addr) (c : Nat) (w : World) (hE : RowEv w a es) (hc : es.length ≤ c) (hw : wrongZ es n = 0) :
    Calls Try.prog 11 #[.slice a es.length c, .int .i64 n] w fun r w' => ∃ v, r = .returned (.tuple #[v, .int .i64 0]) ∧ OwnI w.heap.size w' v (natI (leastL (evAt es) es.length)) ∧ Below w.heap.size w w' := by
  obtain ⟨i0, hi0, hz0, hz1, hz2⟩ := info_parts Try.info4
  obtain ⟨-, -, h3, -⟩ := wrongZ_ok hw
  have HW := refWrongU_any es n a c w hE (by omega) hc
  rw [hw] at HW
  have HH := refHeads_any a c es w hE (by omega) hc
  obtain ⟨ev, hev⟩ : ∃ ev, Hid (ev = evAt es) := ⟨_, (rfl : _ = evAt _)⟩
  obtain ⟨m, hm⟩ : ∃ m, Hid (m = es.length) := ⟨_, (rfl : _ = es.length)⟩
  rw [← hev.out, ← hm.out] at HH
  rw [← hm.out] at HW hc h3
  rw [← hev.out, ← hm.out]
  have HE : Hid (RowEv w a es) := hE
  clear hE hw
  go_enter Try.func11, Try.ntmps11
  go_wp2_with (first | (go_at_call 36; refine HW.mono ?_; rintro _ w1 ⟨rfl, hw⟩; obtain rfl : w = w1 := hw.symm; clear hw) | (go_at_call 37; refine HH.mono ?_; rintro _ w3 ⟨vh, L, rfl, hmap, hownH, hin, hb3⟩; refine Hid.out ?_))
  refine hidU ?_
  obtain ⟨ah, ch, rfl, hch, hds⟩ := Hds.of (f := hbB ev) hownH hmap hin
  have HDS : Hid (0 < m → ∃ g, ah = some ⟨g, 0, none⟩ ∧ Hds w3 g m (hbB ev)) := hds
  have HB3 : Hid (Below w.heap.size w w3) := hb3
  clear hownH hmap hin hb3 hds HH HW
  go_wp2_with (at_make; refine wpList_make_full _ rfl (.tmp 23) (.tmp 23) 65 rfl w3.heap.size 4 i0 (.bool false) 1 Try.underlying65 hi0 hz0 hz1 .i64 .i64 _ _ m rfl rfl rfl rfl (by rw [hz2]; omega) (by unfold maxLen; omega) (Nat.le_refl _) ?_)
  intro w4 hown4 hgrow4
  obtain ⟨gi, hgi⟩ : ∃ g, Hid (g = w3.heap.size) := ⟨_, (rfl : _ = w3.heap.size)⟩
  have HB4 : Hid (Below w3.heap.size w3 w4) := (Below.refl _ w3).grown hgrow4 (Nat.le_refl _) (by intro k hk; cases hk)
  have HA4 : Hid (At 4 w4 gi (cellsB m (memB []))) := by
    obtain ⟨_, ⟨h, _⟩ | ⟨g, cp, cur, h, hg, hh, _, _, hs, ht⟩⟩ := hown4
    · cases h
    · cases h
      show At _ _ _ _
      rw [hgi.out, cells_none, ← toList_madeCells_one]
      unfold At
      rw [hh]
      have e : cur.toList = (madeCells #[Value.bool false] m).toList := by rw [← ht, List.take_of_length_le (by simp [hs])]
      rw [← e]
  rw [← hgi.out]
  have hgb : gi < w4.heap.size := HA4.out.lt
  obtain ⟨base, hbase⟩ : ∃ b, Hid (b = w4.heap.size) := ⟨_, (rfl : _ = w4.heap.size)⟩
  have hgb2 : gi < base := by rw [hbase.out]; exact hgb
  clear hown4 hgrow4 hgb
  go_wp2_with fail
  go_loopw [9] (fun v wr => ∃ s : Nat, s ≤ m ∧ Hid (OwnI base wr v (natI (leastN ev m s))) ∧ Hid (At 4 wr gi (cellsB m (memB (leastN ev m s)))) ∧ Hid (Below w3.heap.size w3 wr) ∧ Hid (base ≤ wr.heap.size)) (fun v _ => m - lenV v)
  case atStart => exact ⟨0, Nat.zero_le _, World.ownsRow_nil _ _ _ _, HA4.out, HB4.out, (by show _ ≤ _; rw [hbase.out]; exact Nat.le_refl _)⟩
  case round =>
    obtain ⟨s, hs, hown, hA, hB, hbs⟩ := hrel
    obtain ⟨wo, rfl⟩ : ∃ x, x = wr := ⟨wr, rfl⟩
    obtain ⟨ao, co, rfl, hco, hro⟩ := hown.out.row
    rw [natI_length, leastN_length] at hco hown ⊢
    clear hro
    by_cases hsm : s < m
    · obtain ⟨gh, rfl, HD0⟩ := HDS.out (by omega)
      have HD2 : Hid (Hds w3 gh m (hbB ev)) := HD0
      clear HD0 HDS
      obtain ⟨out, hout⟩ : ∃ o, Hid (o = leastN ev m s) := ⟨_, (rfl : _ = leastN _ _ _)⟩
      rw [← hout.out] at hA hown
      go_wp2_with fail
      go_loopw [10, 11] (fun t u wr => ∃ j : Nat, j ≤ m ∧ u = .int .i64 j ∧ Hid (t = .int .i64 (optI (bestN ev out j))) ∧ Hid (Below wo.heap.size wo wr)) (fun _ u _ => m - (intOf u).toNat)
      case atStart => exact ⟨0, Nat.zero_le _, rfl, (show _ = _ from rfl), Below.refl _ _⟩
      case round =>
        obtain ⟨j, hj, rfl, hbest, hBj⟩ := hrel
        obtain ⟨wj, rfl⟩ : ∃ x, x = wr := ⟨wr, rfl⟩
        by_cases hjm : j < m
        · have hin : wj.cell? ⟨gi, j, none⟩ = some (.bool (memB out j)) := by rw [(hA.out.below hBj.out).cell]; exact cellsB_at hjm
          obtain ⟨M0, hM0⟩ : ∃ M, Hid (M = mayN ev out j 0) := ⟨_, (rfl : _ = mayN _ _ _ _)⟩
          have hM1 : (!memB out j) = M0 := by rw [hM0.out, mayN_zero]
          obtain ⟨Mj, hMj⟩ : ∃ x, x = memB out j := ⟨_, rfl⟩
          rw [← hMj] at hin hM1
          clear hMj
          have z1 : (j : Int) < (m : Int) := by omega
          go_wp2_with fail
          go_loopw [12, 13] (fun t u wr => ∃ (i : Nat) (W : Bool), i ≤ j ∧ u = .int .i64 i ∧ t = .bool W ∧ Hid (W = mayN ev out j i) ∧ wr = wj) (fun _ u _ => j - (intOf u).toNat)
          case atStart => exact ⟨0, _, Nat.zero_le _, rfl, rfl, hM0.out, rfl⟩
          case round =>
            obtain ⟨i, W, hij, rfl, rfl, hW, rfl⟩ := hrel
            clear hM0 hM1 hin
            by_cases hlt : i < j
            · have hin2 : wr.cell? ⟨gi, i, none⟩ = some (.bool (memB out i)) := by rw [(hA.out.below hBj.out).cell]; exact cellsB_at (by omega)
              obtain ⟨X0, k1, kk⟩ := ((HD2.out.below hB.out).below hBj.out) j hjm
              have k2 := kk i hlt
              have hst := mayN_step ev out j i
              obtain ⟨A, hA2⟩ : ∃ x, x = memB out i := ⟨_, rfl⟩
              obtain ⟨Hh, hH2⟩ : ∃ x, x = hbB ev j i := ⟨_, rfl⟩
              rw [← hA2] at hin2 hst
              rw [← hH2] at k2 hst
              rw [← hW.out] at hst
              have HST : Hid (mayN ev out j (i + 1) = (W && (A || !Hh))) := hst
              have z2 : (i : Int) < (m : Int) := by omega
              have z3 : (i : Int) < (j : Int) := by omega
              clear hst hA2 hH2 kk hW
              cases W
              · have HS2 : Hid (false = mayN ev out j (i + 1)) := by show _ = _; rw [HST.out]; rfl
                clear HST
                go_wp2_with fail
                go_roundw
                case rel => exact ⟨i + 1, false, by omega, by go_num, rfl, HS2.out, by trivial⟩
                case measure => simp [intOf]; omega
              · cases A
                · have HS2 : Hid ((!Hh) = mayN ev out j (i + 1)) := by show _ = _; rw [HST.out]; rfl
                  clear HST
                  go_wp2_with fail
                  go_roundw
                  case rel => exact ⟨i + 1, !Hh, by omega, by go_num, by first | rfl | simp, HS2.out, by trivial⟩
                  case measure => simp [intOf]; omega
                · have HS2 : Hid (true = mayN ev out j (i + 1)) := by show _ = _; rw [HST.out]; rfl
                  clear HST
                  go_wp2_with fail
                  go_roundw
                  case rel => exact ⟨i + 1, true, by omega, by go_num, rfl, HS2.out, by trivial⟩
                  case measure => simp [intOf]; omega
            · have hWE : Hid (W = mayE ev out j) := by show _ = _; rw [hW.out, mayE, show i = j by omega]
              obtain ⟨wi, hwi⟩ : ∃ x, x = wr := ⟨_, rfl⟩
              have hBi : Hid (Below wo.heap.size wo wi) := by show Below _ _ _; rw [hwi]; exact hBj.out
              rw [← hwi]
              have hBw : Below w.heap.size w wi := HB3.out.trans (((hB.out).trans (hBi.out.mono hB.out.size)).mono HB3.out.size)
              obtain ⟨y, hy⟩ : ∃ x, es[j]? = some x := ⟨es[j]'(by rw [← hm.out]; exact hjm), by rw [List.getElem?_eq_getElem]⟩
              obtain ⟨ga, oa, rfl, hr2⟩ := (HE.out.below hBw).at j y hy
              obtain ⟨r1, -, -⟩ := range_cells hr2
              have e2 : ev j = y := by rw [hev.out]; exact evAt_eq hy
              obtain ⟨yt, hyt⟩ : ∃ x, x = y.th := ⟨_, rfl⟩
              rw [← hyt] at r1
              have hBS0 : bestN ev out (j + 1) = if W && beats ev j (bestN ev out j) then some j else bestN ev out j := by rw [hWE.out]; rfl
              have z9 : ¬ (i : Int) < (j : Int) := by omega
              clear hBj hwi hW hij hlt hr2 hy
              cases W
              · have HBS : Hid (bestN ev out (j + 1) = bestN ev out j) := hBS0
                clear hyt
                rw [hbest.out]
                go_wp2_with fail
                have hS0a : Below wi.heap.size wi wi.drew := Below.drew (Below.refl _ _)
                refine wp_region_held_drew (S := fun xS => Below wi.heap.size wi xS) (by kernel_rfl) hS0a ?_
                obtain ⟨x0a, hx0⟩ : ∃ x, x = wi.drew := ⟨_, rfl⟩
                rw [← hx0] at hS0a  ⊢
                clear hx0
                intro _
                refine wpAnyH_take (i := 0) (oi := { dst := some 63, op := .move (.tmp 12), type := _, pos := _, after := _, guard := none }) (v := .bool false) rfl (by kernel_rfl) (by kernel_rfl) (by kernel_rfl) (fun _ _ _ h => h) (Or.inl ⟨by rfl, ?_⟩) hS0a ?_
                · intro wS hSw
                  go_simp
                simp only [Act.put, List.setIfInBounds_toArray, List.set_cons_zero, List.set_cons_succ]
                refine wpAnyH_take (i := 1) (oi := { dst := some 64, op := .move (.tmp 63), type := _, pos := _, after := _, guard := none }) (v := .bool false) rfl (by kernel_rfl) (by kernel_rfl) (by kernel_rfl) (fun _ _ _ h => h) (Or.inl ⟨by rfl, ?_⟩) hS0a ?_
                · intro wS hSw
                  go_simp
                simp only [Act.put, List.setIfInBounds_toArray, List.set_cons_zero, List.set_cons_succ]
                refine wpAnyH_take (i := 2) (oi := { dst := some 65, op := .move (.tmp 10), type := _, pos := _, after := _, guard := some (1, true) }) (v := undef) rfl (by kernel_rfl) (by kernel_rfl) (by kernel_rfl) (fun _ _ _ h => h) (Or.inr ⟨by rfl, rfl⟩) hS0a ?_
                simp only [Act.put, List.setIfInBounds_toArray, List.set_cons_zero, List.set_cons_succ]
                refine wpAnyH_take (i := 3) (oi := { dst := some 66, op := .binOp .lss 3 (.tmp 65) (.const (.int .i64 0)) 3, type := _, pos := _, after := _, guard := some (1, true) }) (v := undef) rfl (by kernel_rfl) (by kernel_rfl) (by kernel_rfl) (fun _ _ _ h => h) (Or.inr ⟨by rfl, rfl⟩) hS0a ?_
                simp only [Act.put, List.setIfInBounds_toArray, List.set_cons_zero, List.set_cons_succ]
                refine wpAnyH_take (i := 4) (oi := { dst := some 67, op := .move (.tmp 66), type := _, pos := _, after := _, guard := some (1, true) }) (v := undef) rfl (by kernel_rfl) (by kernel_rfl) (by kernel_rfl) (fun _ _ _ h => h) (Or.inr ⟨by rfl, rfl⟩) hS0a ?_
                simp only [Act.put, List.setIfInBounds_toArray, List.set_cons_zero, List.set_cons_succ]
                refine wpAnyH_take (i := 5) (oi := { dst := some 68, op := .move (.tmp 0), type := _, pos := _, after := _, guard := some (4, false) }) (v := undef) rfl (by kernel_rfl) (by kernel_rfl) (by kernel_rfl) (fun _ _ _ h => h) (Or.inr ⟨by rfl, rfl⟩) hS0a ?_
                simp only [Act.put, List.setIfInBounds_toArray, List.set_cons_zero, List.set_cons_succ]
                refine wpAnyH_take (i := 6) (oi := { dst := some 69, op := .move (.tmp 11), type := _, pos := _, after := _, guard := some (4, false) }) (v := undef) rfl (by kernel_rfl) (by kernel_rfl) (by kernel_rfl) (fun _ _ _ h => h) (Or.inr ⟨by rfl, rfl⟩) hS0a ?_
                simp only [Act.put, List.setIfInBounds_toArray, List.set_cons_zero, List.set_cons_succ]
                refine wpAnyH_take (i := 7) (oi := { dst := some 70, op := .indexAddr 22 (.tmp 68) (.tmp 69), type := _, pos := _, after := _, guard := some (4, false) }) (v := undef) rfl (by kernel_rfl) (by kernel_rfl) (by kernel_rfl) (fun _ _ _ h => h) (Or.inr ⟨by rfl, rfl⟩) hS0a ?_
                simp only [Act.put, List.setIfInBounds_toArray, List.set_cons_zero, List.set_cons_succ]
                refine wpAnyH_take (i := 8) (oi := { dst := some 71, op := .fieldAddr 50 (.tmp 70) 0, type := _, pos := _, after := _, guard := some (4, false) }) (v := undef) rfl (by kernel_rfl) (by kernel_rfl) (by kernel_rfl) (fun _ _ _ h => h) (Or.inr ⟨by rfl, rfl⟩) hS0a ?_
                simp only [Act.put, List.setIfInBounds_toArray, List.set_cons_zero, List.set_cons_succ]
                refine wpAnyH_take (i := 9) (oi := { dst := some 72, op := .load 3 (.tmp 71), type := _, pos := _, after := _, guard := some (4, false) }) (v := undef) rfl (by kernel_rfl) (by kernel_rfl) (by kernel_rfl) (fun _ _ _ h => h) (Or.inr ⟨by rfl, rfl⟩) hS0a ?_
                simp only [Act.put, List.setIfInBounds_toArray, List.set_cons_zero, List.set_cons_succ]
                refine wpAnyH_take (i := 10) (oi := { dst := some 73, op := .move (.tmp 0), type := _, pos := _, after := _, guard := some (4, false) }) (v := undef) rfl (by kernel_rfl) (by kernel_rfl) (by kernel_rfl) (fun _ _ _ h => h) (Or.inr ⟨by rfl, rfl⟩) hS0a ?_
                simp only [Act.put, List.setIfInBounds_toArray, List.set_cons_zero, List.set_cons_succ]
                refine wpAnyH_take (i := 11) (oi := { dst := some 74, op := .move (.tmp 10), type := _, pos := _, after := _, guard := some (4, false) }) (v := undef) rfl (by kernel_rfl) (by kernel_rfl) (by kernel_rfl) (fun _ _ _ h => h) (Or.inr ⟨by rfl, rfl⟩) hS0a ?_
                simp only [Act.put, List.setIfInBounds_toArray, List.set_cons_zero, List.set_cons_succ]
                refine wpAnyH_take (i := 12) (oi := { dst := some 75, op := .indexAddr 22 (.tmp 73) (.tmp 74), type := _, pos := _, after := _, guard := some (4, false) }) (v := undef) rfl (by kernel_rfl) (by kernel_rfl) (by kernel_rfl) (fun _ _ _ h => h) (Or.inr ⟨by rfl, rfl⟩) hS0a ?_
                simp only [Act.put, List.setIfInBounds_toArray, List.set_cons_zero, List.set_cons_succ]
                refine wpAnyH_take (i := 13) (oi := { dst := some 76, op := .fieldAddr 50 (.tmp 75) 0, type := _, pos := _, after := _, guard := some (4, false) }) (v := undef) rfl (by kernel_rfl) (by kernel_rfl) (by kernel_rfl) (fun _ _ _ h => h) (Or.inr ⟨by rfl, rfl⟩) hS0a ?_
                simp only [Act.put, List.setIfInBounds_toArray, List.set_cons_zero, List.set_cons_succ]
                refine wpAnyH_take (i := 14) (oi := { dst := some 77, op := .load 3 (.tmp 76), type := _, pos := _, after := _, guard := some (4, false) }) (v := undef) rfl (by kernel_rfl) (by kernel_rfl) (by kernel_rfl) (fun _ _ _ h => h) (Or.inr ⟨by rfl, rfl⟩) hS0a ?_
                simp only [Act.put, List.setIfInBounds_toArray, List.set_cons_zero, List.set_cons_succ]
                refine wpAnyH_take (i := 15) (oi := { dst := some 78, op := .binOp .lss 3 (.tmp 72) (.tmp 77) 3, type := _, pos := _, after := _, guard := some (4, false) }) (v := undef) rfl (by kernel_rfl) (by kernel_rfl) (by kernel_rfl) (fun _ _ _ h => h) (Or.inr ⟨by rfl, rfl⟩) hS0a ?_
                simp only [Act.put, List.setIfInBounds_toArray, List.set_cons_zero, List.set_cons_succ]
                refine wpAnyH_take (i := 16) (oi := { dst := some 79, op := .pick (.tmp 67) (.const (.bool true)) (.tmp 78), type := _, pos := _, after := _, guard := some (1, true) }) (v := undef) rfl (by kernel_rfl) (by kernel_rfl) (by kernel_rfl) (fun _ _ _ h => h) (Or.inr ⟨by rfl, rfl⟩) hS0a ?_
                simp only [Act.put, List.setIfInBounds_toArray, List.set_cons_zero, List.set_cons_succ]
                refine wpAnyH_take (i := 17) (oi := { dst := some 80, op := .pick (.tmp 64) (.tmp 79) (.const (.bool false)), type := _, pos := _, after := _, guard := none }) (v := .bool false) rfl (by kernel_rfl) (by kernel_rfl) (by kernel_rfl) (fun _ _ _ h => h) (Or.inl ⟨by rfl, ?_⟩) hS0a ?_
                · intro wS hSw
                  go_simp
                simp only [Act.put, List.setIfInBounds_toArray, List.set_cons_zero, List.set_cons_succ]
                refine wpAnyH_done (by kernel_rfl) ?_ _
                have hBn : Hid (Below wo.heap.size wo x0a) := hBi.out.trans (hS0a.mono hBi.out.size)
                clear hS0a r1
                go_wp2_with fail
                go_roundw
                case rel => exact ⟨j + 1, by omega, by go_num, (show _ = _ by rw [HBS.out]; first | done | rfl), hBn.out⟩
                case measure => simp [intOf]; omega
              · cases hbv : bestN ev out j with
                | none =>
                  rw [hbv] at hBS0
                  have HBS : Hid (bestN ev out (j + 1) = some j) := hBS0
                  have hb2 := hbest.out
                  rw [hbv] at hb2
                  have hb3 : optI none = -1 := rfl
                  rw [hb3] at hb2
                  rw [hb2]
                  clear hb2 hb3 hBS0 hyt
                  go_wp2_with fail
                  have hS0b : Below wi.heap.size wi wi.drew := Below.drew (Below.refl _ _)
                  refine wp_region_held_drew (S := fun xS => Below wi.heap.size wi xS) (by kernel_rfl) hS0b ?_
                  obtain ⟨x0b, hx0⟩ : ∃ x, x = wi.drew := ⟨_, rfl⟩
                  rw [← hx0] at hS0b  ⊢
                  clear hx0
                  intro _
                  refine wpAnyH_take (i := 0) (oi := { dst := some 63, op := .move (.tmp 12), type := _, pos := _, after := _, guard := none }) (v := .bool true) rfl (by kernel_rfl) (by kernel_rfl) (by kernel_rfl) (fun _ _ _ h => h) (Or.inl ⟨by rfl, ?_⟩) hS0b ?_
                  · intro wS hSw
                    go_simp
                  simp only [Act.put, List.setIfInBounds_toArray, List.set_cons_zero, List.set_cons_succ]
                  refine wpAnyH_take (i := 1) (oi := { dst := some 64, op := .move (.tmp 63), type := _, pos := _, after := _, guard := none }) (v := .bool true) rfl (by kernel_rfl) (by kernel_rfl) (by kernel_rfl) (fun _ _ _ h => h) (Or.inl ⟨by rfl, ?_⟩) hS0b ?_
                  · intro wS hSw
                    go_simp
                  simp only [Act.put, List.setIfInBounds_toArray, List.set_cons_zero, List.set_cons_succ]
                  refine wpAnyH_take (i := 2) (oi := { dst := some 65, op := .move (.tmp 10), type := _, pos := _, after := _, guard := some (1, true) }) (v := .int .i64 (-1)) rfl (by kernel_rfl) (by kernel_rfl) (by kernel_rfl) (fun _ _ _ h => h) (Or.inl ⟨by rfl, ?_⟩) hS0b ?_
                  · intro wS hSw
                    go_simp
                  simp only [Act.put, List.setIfInBounds_toArray, List.set_cons_zero, List.set_cons_succ]
                  refine wpAnyH_take (i := 3) (oi := { dst := some 66, op := .binOp .lss 3 (.tmp 65) (.const (.int .i64 0)) 3, type := _, pos := _, after := _, guard := some (1, true) }) (v := .bool true) rfl (by kernel_rfl) (by kernel_rfl) (by kernel_rfl) (fun _ _ _ h => h) (Or.inl ⟨by rfl, ?_⟩) hS0b ?_
                  · intro wS hSw
                    go_simp
                  simp only [Act.put, List.setIfInBounds_toArray, List.set_cons_zero, List.set_cons_succ]
                  refine wpAnyH_take (i := 4) (oi := { dst := some 67, op := .move (.tmp 66), type := _, pos := _, after := _, guard := some (1, true) }) (v := .bool true) rfl (by kernel_rfl) (by kernel_rfl) (by kernel_rfl) (fun _ _ _ h => h) (Or.inl ⟨by rfl, ?_⟩) hS0b ?_
                  · intro wS hSw
                    go_simp
                  simp only [Act.put, List.setIfInBounds_toArray, List.set_cons_zero, List.set_cons_succ]
                  refine wpAnyH_take (i := 5) (oi := { dst := some 68, op := .move (.tmp 0), type := _, pos := _, after := _, guard := some (4, false) }) (v := undef) rfl (by kernel_rfl) (by kernel_rfl) (by kernel_rfl) (fun _ _ _ h => h) (Or.inr ⟨by rfl, rfl⟩) hS0b ?_
                  simp only [Act.put, List.setIfInBounds_toArray, List.set_cons_zero, List.set_cons_succ]
                  refine wpAnyH_take (i := 6) (oi := { dst := some 69, op := .move (.tmp 11), type := _, pos := _, after := _, guard := some (4, false) }) (v := undef) rfl (by kernel_rfl) (by kernel_rfl) (by kernel_rfl) (fun _ _ _ h => h) (Or.inr ⟨by rfl, rfl⟩) hS0b ?_
                  simp only [Act.put, List.setIfInBounds_toArray, List.set_cons_zero, List.set_cons_succ]
                  refine wpAnyH_take (i := 7) (oi := { dst := some 70, op := .indexAddr 22 (.tmp 68) (.tmp 69), type := _, pos := _, after := _, guard := some (4, false) }) (v := undef) rfl (by kernel_rfl) (by kernel_rfl) (by kernel_rfl) (fun _ _ _ h => h) (Or.inr ⟨by rfl, rfl⟩) hS0b ?_
                  simp only [Act.put, List.setIfInBounds_toArray, List.set_cons_zero, List.set_cons_succ]
                  refine wpAnyH_take (i := 8) (oi := { dst := some 71, op := .fieldAddr 50 (.tmp 70) 0, type := _, pos := _, after := _, guard := some (4, false) }) (v := undef) rfl (by kernel_rfl) (by kernel_rfl) (by kernel_rfl) (fun _ _ _ h => h) (Or.inr ⟨by rfl, rfl⟩) hS0b ?_
                  simp only [Act.put, List.setIfInBounds_toArray, List.set_cons_zero, List.set_cons_succ]
                  refine wpAnyH_take (i := 9) (oi := { dst := some 72, op := .load 3 (.tmp 71), type := _, pos := _, after := _, guard := some (4, false) }) (v := undef) rfl (by kernel_rfl) (by kernel_rfl) (by kernel_rfl) (fun _ _ _ h => h) (Or.inr ⟨by rfl, rfl⟩) hS0b ?_
                  simp only [Act.put, List.setIfInBounds_toArray, List.set_cons_zero, List.set_cons_succ]
                  refine wpAnyH_take (i := 10) (oi := { dst := some 73, op := .move (.tmp 0), type := _, pos := _, after := _, guard := some (4, false) }) (v := undef) rfl (by kernel_rfl) (by kernel_rfl) (by kernel_rfl) (fun _ _ _ h => h) (Or.inr ⟨by rfl, rfl⟩) hS0b ?_
                  simp only [Act.put, List.setIfInBounds_toArray, List.set_cons_zero, List.set_cons_succ]
                  refine wpAnyH_take (i := 11) (oi := { dst := some 74, op := .move (.tmp 10), type := _, pos := _, after := _, guard := some (4, false) }) (v := undef) rfl (by kernel_rfl) (by kernel_rfl) (by kernel_rfl) (fun _ _ _ h => h) (Or.inr ⟨by rfl, rfl⟩) hS0b ?_
                  simp only [Act.put, List.setIfInBounds_toArray, List.set_cons_zero, List.set_cons_succ]
                  refine wpAnyH_take (i := 12) (oi := { dst := some 75, op := .indexAddr 22 (.tmp 73) (.tmp 74), type := _, pos := _, after := _, guard := some (4, false) }) (v := undef) rfl (by kernel_rfl) (by kernel_rfl) (by kernel_rfl) (fun _ _ _ h => h) (Or.inr ⟨by rfl, rfl⟩) hS0b ?_
                  simp only [Act.put, List.setIfInBounds_toArray, List.set_cons_zero, List.set_cons_succ]
                  refine wpAnyH_take (i := 13) (oi := { dst := some 76, op := .fieldAddr 50 (.tmp 75) 0, type := _, pos := _, after := _, guard := some (4, false) }) (v := undef) rfl (by kernel_rfl) (by kernel_rfl) (by kernel_rfl) (fun _ _ _ h => h) (Or.inr ⟨by rfl, rfl⟩) hS0b ?_
                  simp only [Act.put, List.setIfInBounds_toArray, List.set_cons_zero, List.set_cons_succ]
                  refine wpAnyH_take (i := 14) (oi := { dst := some 77, op := .load 3 (.tmp 76), type := _, pos := _, after := _, guard := some (4, false) }) (v := undef) rfl (by kernel_rfl) (by kernel_rfl) (by kernel_rfl) (fun _ _ _ h => h) (Or.inr ⟨by rfl, rfl⟩) hS0b ?_
                  simp only [Act.put, List.setIfInBounds_toArray, List.set_cons_zero, List.set_cons_succ]
                  refine wpAnyH_take (i := 15) (oi := { dst := some 78, op := .binOp .lss 3 (.tmp 72) (.tmp 77) 3, type := _, pos := _, after := _, guard := some (4, false) }) (v := undef) rfl (by kernel_rfl) (by kernel_rfl) (by kernel_rfl) (fun _ _ _ h => h) (Or.inr ⟨by rfl, rfl⟩) hS0b ?_
                  simp only [Act.put, List.setIfInBounds_toArray, List.set_cons_zero, List.set_cons_succ]
                  refine wpAnyH_take (i := 16) (oi := { dst := some 79, op := .pick (.tmp 67) (.const (.bool true)) (.tmp 78), type := _, pos := _, after := _, guard := some (1, true) }) (v := .bool true) rfl (by kernel_rfl) (by kernel_rfl) (by kernel_rfl) (fun _ _ _ h => h) (Or.inl ⟨by rfl, ?_⟩) hS0b ?_
                  · intro wS hSw
                    go_simp
                  simp only [Act.put, List.setIfInBounds_toArray, List.set_cons_zero, List.set_cons_succ]
                  refine wpAnyH_take (i := 17) (oi := { dst := some 80, op := .pick (.tmp 64) (.tmp 79) (.const (.bool false)), type := _, pos := _, after := _, guard := none }) (v := .bool true) rfl (by kernel_rfl) (by kernel_rfl) (by kernel_rfl) (fun _ _ _ h => h) (Or.inl ⟨by rfl, ?_⟩) hS0b ?_
                  · intro wS hSw
                    go_simp
                  simp only [Act.put, List.setIfInBounds_toArray, List.set_cons_zero, List.set_cons_succ]
                  refine wpAnyH_done (by kernel_rfl) ?_ _
                  have hBn : Hid (Below wo.heap.size wo x0b) := hBi.out.trans (hS0b.mono hBi.out.size)
                  clear hS0b r1
                  go_wp2_with fail
                  go_roundw
                  case rel => exact ⟨j + 1, by omega, by go_num, (show _ = _ by rw [HBS.out]; first | done | rfl), hBn.out⟩
                  case measure => simp [intOf]; omega
                | some b =>
                  have hbl := (bestN_lt hbv).1
                  obtain ⟨x, hx⟩ : ∃ x, es[b]? = some x := ⟨es[b]'(by rw [← hm.out]; omega), by rw [List.getElem?_eq_getElem]⟩
                  obtain ⟨g5, o5, hg5, hr1⟩ := (HE.out.below hBw).at b x hx
                  cases hg5
                  obtain ⟨q1, -, -⟩ := range_cells hr1
                  have e1 : ev b = x := by rw [hev.out]; exact evAt_eq hx
                  obtain ⟨xt, hxt⟩ : ∃ z, z = x.th := ⟨_, rfl⟩
                  rw [← hxt] at q1
                  rw [hbv] at hBS0
                  have hbeat : beats ev j (some b) = decide (yt < xt) := by rw [hyt, hxt, ← e1, ← e2]; rfl
                  rw [hbeat] at hBS0
                  have hb2 := hbest.out
                  rw [hbv] at hb2
                  have hb3 : optI (some b) = (b : Int) := rfl
                  rw [hb3] at hb2
                  rw [hb2]
                  have z5 : (b : Int) < (m : Int) := by omega
                  have z6 : ¬ (b : Int) < 0 := by omega
                  clear hb2 hb3 hx hr1 e1 hxt hbeat hyt
                  by_cases hlt : yt < xt
                  · rw [decide_eq_true hlt] at hBS0
                    have HBS : Hid (bestN ev out (j + 1) = some j) := hBS0
                    have hlt : Hid (yt < xt) := hlt
                    clear hBS0
                    go_wp2_with fail
                    have hS0c : Below wi.heap.size wi wi.drew := Below.drew (Below.refl _ _)
                    refine wp_region_held_drew (S := fun xS => Below wi.heap.size wi xS) (by kernel_rfl) hS0c ?_
                    obtain ⟨x0c, hx0⟩ : ∃ x, x = wi.drew := ⟨_, rfl⟩
                    rw [← hx0] at hS0c  ⊢
                    clear hx0
                    intro _
                    refine wpAnyH_take (i := 0) (oi := { dst := some 63, op := .move (.tmp 12), type := _, pos := _, after := _, guard := none }) (v := .bool true) rfl (by kernel_rfl) (by kernel_rfl) (by kernel_rfl) (fun _ _ _ h => h) (Or.inl ⟨by rfl, ?_⟩) hS0c ?_
                    · intro wS hSw
                      go_simp
                    simp only [Act.put, List.setIfInBounds_toArray, List.set_cons_zero, List.set_cons_succ]
                    refine wpAnyH_take (i := 1) (oi := { dst := some 64, op := .move (.tmp 63), type := _, pos := _, after := _, guard := none }) (v := .bool true) rfl (by kernel_rfl) (by kernel_rfl) (by kernel_rfl) (fun _ _ _ h => h) (Or.inl ⟨by rfl, ?_⟩) hS0c ?_
                    · intro wS hSw
                      go_simp
                    simp only [Act.put, List.setIfInBounds_toArray, List.set_cons_zero, List.set_cons_succ]
                    refine wpAnyH_take (i := 2) (oi := { dst := some 65, op := .move (.tmp 10), type := _, pos := _, after := _, guard := some (1, true) }) (v := .int .i64 (b : Int)) rfl (by kernel_rfl) (by kernel_rfl) (by kernel_rfl) (fun _ _ _ h => h) (Or.inl ⟨by rfl, ?_⟩) hS0c ?_
                    · intro wS hSw
                      go_simp
                    simp only [Act.put, List.setIfInBounds_toArray, List.set_cons_zero, List.set_cons_succ]
                    refine wpAnyH_take (i := 3) (oi := { dst := some 66, op := .binOp .lss 3 (.tmp 65) (.const (.int .i64 0)) 3, type := _, pos := _, after := _, guard := some (1, true) }) (v := .bool false) rfl (by kernel_rfl) (by kernel_rfl) (by kernel_rfl) (fun _ _ _ h => h) (Or.inl ⟨by rfl, ?_⟩) hS0c ?_
                    · intro wS hSw
                      go_simp
                    simp only [Act.put, List.setIfInBounds_toArray, List.set_cons_zero, List.set_cons_succ]
                    refine wpAnyH_take (i := 4) (oi := { dst := some 67, op := .move (.tmp 66), type := _, pos := _, after := _, guard := some (1, true) }) (v := .bool false) rfl (by kernel_rfl) (by kernel_rfl) (by kernel_rfl) (fun _ _ _ h => h) (Or.inl ⟨by rfl, ?_⟩) hS0c ?_
                    · intro wS hSw
                      go_simp
                    simp only [Act.put, List.setIfInBounds_toArray, List.set_cons_zero, List.set_cons_succ]
                    refine wpAnyH_take (i := 5) (oi := { dst := some 68, op := .move (.tmp 0), type := _, pos := _, after := _, guard := some (4, false) }) (v := .slice (some ⟨ga, oa, none⟩) m c) rfl (by kernel_rfl) (by kernel_rfl) (by kernel_rfl) (fun _ _ _ h => h) (Or.inl ⟨by rfl, ?_⟩) hS0c ?_
                    · intro wS hSw
                      go_simp
                    simp only [Act.put, List.setIfInBounds_toArray, List.set_cons_zero, List.set_cons_succ]
                    refine wpAnyH_take (i := 6) (oi := { dst := some 69, op := .move (.tmp 11), type := _, pos := _, after := _, guard := some (4, false) }) (v := .int .i64 (j : Int)) rfl (by kernel_rfl) (by kernel_rfl) (by kernel_rfl) (fun _ _ _ h => h) (Or.inl ⟨by rfl, ?_⟩) hS0c ?_
                    · intro wS hSw
                      go_simp
                    simp only [Act.put, List.setIfInBounds_toArray, List.set_cons_zero, List.set_cons_succ]
                    refine wpAnyH_take (i := 7) (oi := { dst := some 70, op := .indexAddr 22 (.tmp 68) (.tmp 69), type := _, pos := _, after := _, guard := some (4, false) }) (v := .pointer (some ⟨ga, oa + j * 3, none⟩)) rfl (by kernel_rfl) (by kernel_rfl) (by kernel_rfl) (fun _ _ _ h => h) (Or.inl ⟨by rfl, ?_⟩) hS0c ?_
                    · intro wS hSw
                      go_simp
                    simp only [Act.put, List.setIfInBounds_toArray, List.set_cons_zero, List.set_cons_succ]
                    refine wpAnyH_take (i := 8) (oi := { dst := some 71, op := .fieldAddr 50 (.tmp 70) 0, type := _, pos := _, after := _, guard := some (4, false) }) (v := .pointer (some ⟨ga, oa + j * 3, none⟩)) rfl (by kernel_rfl) (by kernel_rfl) (by kernel_rfl) (fun _ _ _ h => h) (Or.inl ⟨by rfl, ?_⟩) hS0c ?_
                    · intro wS hSw
                      go_simp
                    simp only [Act.put, List.setIfInBounds_toArray, List.set_cons_zero, List.set_cons_succ]
                    refine wpAnyH_take (i := 9) (oi := { dst := some 72, op := .load 3 (.tmp 71), type := _, pos := _, after := _, guard := some (4, false) }) (v := .int .i64 yt) rfl (by kernel_rfl) (by kernel_rfl) (by kernel_rfl) (fun _ _ _ h => h) (Or.inl ⟨by rfl, ?_⟩) hS0c ?_
                    · intro wS hSw
                      have z0 := (hSw.cell (lt_of_cell r1)).trans r1
                      go_simp
                    simp only [Act.put, List.setIfInBounds_toArray, List.set_cons_zero, List.set_cons_succ]
                    refine wpAnyH_take (i := 10) (oi := { dst := some 73, op := .move (.tmp 0), type := _, pos := _, after := _, guard := some (4, false) }) (v := .slice (some ⟨ga, oa, none⟩) m c) rfl (by kernel_rfl) (by kernel_rfl) (by kernel_rfl) (fun _ _ _ h => h) (Or.inl ⟨by rfl, ?_⟩) hS0c ?_
                    · intro wS hSw
                      go_simp
                    simp only [Act.put, List.setIfInBounds_toArray, List.set_cons_zero, List.set_cons_succ]
                    refine wpAnyH_take (i := 11) (oi := { dst := some 74, op := .move (.tmp 10), type := _, pos := _, after := _, guard := some (4, false) }) (v := .int .i64 (b : Int)) rfl (by kernel_rfl) (by kernel_rfl) (by kernel_rfl) (fun _ _ _ h => h) (Or.inl ⟨by rfl, ?_⟩) hS0c ?_
                    · intro wS hSw
                      go_simp
                    simp only [Act.put, List.setIfInBounds_toArray, List.set_cons_zero, List.set_cons_succ]
                    refine wpAnyH_take (i := 12) (oi := { dst := some 75, op := .indexAddr 22 (.tmp 73) (.tmp 74), type := _, pos := _, after := _, guard := some (4, false) }) (v := .pointer (some ⟨ga, oa + b * 3, none⟩)) rfl (by kernel_rfl) (by kernel_rfl) (by kernel_rfl) (fun _ _ _ h => h) (Or.inl ⟨by rfl, ?_⟩) hS0c ?_
                    · intro wS hSw
                      go_simp
                    simp only [Act.put, List.setIfInBounds_toArray, List.set_cons_zero, List.set_cons_succ]
                    refine wpAnyH_take (i := 13) (oi := { dst := some 76, op := .fieldAddr 50 (.tmp 75) 0, type := _, pos := _, after := _, guard := some (4, false) }) (v := .pointer (some ⟨ga, oa + b * 3, none⟩)) rfl (by kernel_rfl) (by kernel_rfl) (by kernel_rfl) (fun _ _ _ h => h) (Or.inl ⟨by rfl, ?_⟩) hS0c ?_
                    · intro wS hSw
                      go_simp
                    simp only [Act.put, List.setIfInBounds_toArray, List.set_cons_zero, List.set_cons_succ]
                    refine wpAnyH_take (i := 14) (oi := { dst := some 77, op := .load 3 (.tmp 76), type := _, pos := _, after := _, guard := some (4, false) }) (v := .int .i64 xt) rfl (by kernel_rfl) (by kernel_rfl) (by kernel_rfl) (fun _ _ _ h => h) (Or.inl ⟨by rfl, ?_⟩) hS0c ?_
                    · intro wS hSw
                      have z0 := (hSw.cell (lt_of_cell q1)).trans q1
                      go_simp
                    simp only [Act.put, List.setIfInBounds_toArray, List.set_cons_zero, List.set_cons_succ]
                    refine wpAnyH_take (i := 15) (oi := { dst := some 78, op := .binOp .lss 3 (.tmp 72) (.tmp 77) 3, type := _, pos := _, after := _, guard := some (4, false) }) (v := .bool true) rfl (by kernel_rfl) (by kernel_rfl) (by kernel_rfl) (fun _ _ _ h => h) (Or.inl ⟨by rfl, ?_⟩) hS0c ?_
                    · intro wS hSw
                      (go_simp; try (first | exact hlt.out | exact Int.not_lt.1 hlt.out))
                    simp only [Act.put, List.setIfInBounds_toArray, List.set_cons_zero, List.set_cons_succ]
                    refine wpAnyH_take (i := 16) (oi := { dst := some 79, op := .pick (.tmp 67) (.const (.bool true)) (.tmp 78), type := _, pos := _, after := _, guard := some (1, true) }) (v := .bool true) rfl (by kernel_rfl) (by kernel_rfl) (by kernel_rfl) (fun _ _ _ h => h) (Or.inl ⟨by rfl, ?_⟩) hS0c ?_
                    · intro wS hSw
                      go_simp
                    simp only [Act.put, List.setIfInBounds_toArray, List.set_cons_zero, List.set_cons_succ]
                    refine wpAnyH_take (i := 17) (oi := { dst := some 80, op := .pick (.tmp 64) (.tmp 79) (.const (.bool false)), type := _, pos := _, after := _, guard := none }) (v := .bool true) rfl (by kernel_rfl) (by kernel_rfl) (by kernel_rfl) (fun _ _ _ h => h) (Or.inl ⟨by rfl, ?_⟩) hS0c ?_
                    · intro wS hSw
                      go_simp
                    simp only [Act.put, List.setIfInBounds_toArray, List.set_cons_zero, List.set_cons_succ]
                    refine wpAnyH_done (by kernel_rfl) ?_ _
                    have hBn : Hid (Below wo.heap.size wo x0c) := hBi.out.trans (hS0c.mono hBi.out.size)
                    clear hS0c r1 q1
                    go_wp2_with fail
                    go_roundw
                    case rel => exact ⟨j + 1, by omega, by go_num, (show _ = _ by rw [HBS.out]; first | done | rfl), hBn.out⟩
                    case measure => simp [intOf]; omega
                  · rw [decide_eq_false hlt] at hBS0
                    have HBS : Hid (bestN ev out (j + 1) = some b) := hBS0
                    have hlt : Hid (¬ yt < xt) := hlt
                    clear hBS0
                    go_wp2_with fail
                    have hS0d : Below wi.heap.size wi wi.drew := Below.drew (Below.refl _ _)
                    refine wp_region_held_drew (S := fun xS => Below wi.heap.size wi xS) (by kernel_rfl) hS0d ?_
                    obtain ⟨x0d, hx0⟩ : ∃ x, x = wi.drew := ⟨_, rfl⟩
                    rw [← hx0] at hS0d  ⊢
                    clear hx0
                    intro _
                    refine wpAnyH_take (i := 0) (oi := { dst := some 63, op := .move (.tmp 12), type := _, pos := _, after := _, guard := none }) (v := .bool true) rfl (by kernel_rfl) (by kernel_rfl) (by kernel_rfl) (fun _ _ _ h => h) (Or.inl ⟨by rfl, ?_⟩) hS0d ?_
                    · intro wS hSw
                      go_simp
                    simp only [Act.put, List.setIfInBounds_toArray, List.set_cons_zero, List.set_cons_succ]
                    refine wpAnyH_take (i := 1) (oi := { dst := some 64, op := .move (.tmp 63), type := _, pos := _, after := _, guard := none }) (v := .bool true) rfl (by kernel_rfl) (by kernel_rfl) (by kernel_rfl) (fun _ _ _ h => h) (Or.inl ⟨by rfl, ?_⟩) hS0d ?_
                    · intro wS hSw
                      go_simp
                    simp only [Act.put, List.setIfInBounds_toArray, List.set_cons_zero, List.set_cons_succ]
                    refine wpAnyH_take (i := 2) (oi := { dst := some 65, op := .move (.tmp 10), type := _, pos := _, after := _, guard := some (1, true) }) (v := .int .i64 (b : Int)) rfl (by kernel_rfl) (by kernel_rfl) (by kernel_rfl) (fun _ _ _ h => h) (Or.inl ⟨by rfl, ?_⟩) hS0d ?_
                    · intro wS hSw
                      go_simp
                    simp only [Act.put, List.setIfInBounds_toArray, List.set_cons_zero, List.set_cons_succ]
                    refine wpAnyH_take (i := 3) (oi := { dst := some 66, op := .binOp .lss 3 (.tmp 65) (.const (.int .i64 0)) 3, type := _, pos := _, after := _, guard := some (1, true) }) (v := .bool false) rfl (by kernel_rfl) (by kernel_rfl) (by kernel_rfl) (fun _ _ _ h => h) (Or.inl ⟨by rfl, ?_⟩) hS0d ?_
                    · intro wS hSw
                      go_simp
                    simp only [Act.put, List.setIfInBounds_toArray, List.set_cons_zero, List.set_cons_succ]
                    refine wpAnyH_take (i := 4) (oi := { dst := some 67, op := .move (.tmp 66), type := _, pos := _, after := _, guard := some (1, true) }) (v := .bool false) rfl (by kernel_rfl) (by kernel_rfl) (by kernel_rfl) (fun _ _ _ h => h) (Or.inl ⟨by rfl, ?_⟩) hS0d ?_
                    · intro wS hSw
                      go_simp
                    simp only [Act.put, List.setIfInBounds_toArray, List.set_cons_zero, List.set_cons_succ]
                    refine wpAnyH_take (i := 5) (oi := { dst := some 68, op := .move (.tmp 0), type := _, pos := _, after := _, guard := some (4, false) }) (v := .slice (some ⟨ga, oa, none⟩) m c) rfl (by kernel_rfl) (by kernel_rfl) (by kernel_rfl) (fun _ _ _ h => h) (Or.inl ⟨by rfl, ?_⟩) hS0d ?_
                    · intro wS hSw
                      go_simp
                    simp only [Act.put, List.setIfInBounds_toArray, List.set_cons_zero, List.set_cons_succ]
                    refine wpAnyH_take (i := 6) (oi := { dst := some 69, op := .move (.tmp 11), type := _, pos := _, after := _, guard := some (4, false) }) (v := .int .i64 (j : Int)) rfl (by kernel_rfl) (by kernel_rfl) (by kernel_rfl) (fun _ _ _ h => h) (Or.inl ⟨by rfl, ?_⟩) hS0d ?_
                    · intro wS hSw
                      go_simp
                    simp only [Act.put, List.setIfInBounds_toArray, List.set_cons_zero, List.set_cons_succ]
                    refine wpAnyH_take (i := 7) (oi := { dst := some 70, op := .indexAddr 22 (.tmp 68) (.tmp 69), type := _, pos := _, after := _, guard := some (4, false) }) (v := .pointer (some ⟨ga, oa + j * 3, none⟩)) rfl (by kernel_rfl) (by kernel_rfl) (by kernel_rfl) (fun _ _ _ h => h) (Or.inl ⟨by rfl, ?_⟩) hS0d ?_
                    · intro wS hSw
                      go_simp
                    simp only [Act.put, List.setIfInBounds_toArray, List.set_cons_zero, List.set_cons_succ]
                    refine wpAnyH_take (i := 8) (oi := { dst := some 71, op := .fieldAddr 50 (.tmp 70) 0, type := _, pos := _, after := _, guard := some (4, false) }) (v := .pointer (some ⟨ga, oa + j * 3, none⟩)) rfl (by kernel_rfl) (by kernel_rfl) (by kernel_rfl) (fun _ _ _ h => h) (Or.inl ⟨by rfl, ?_⟩) hS0d ?_
                    · intro wS hSw
                      go_simp
                    simp only [Act.put, List.setIfInBounds_toArray, List.set_cons_zero, List.set_cons_succ]
                    refine wpAnyH_take (i := 9) (oi := { dst := some 72, op := .load 3 (.tmp 71), type := _, pos := _, after := _, guard := some (4, false) }) (v := .int .i64 yt) rfl (by kernel_rfl) (by kernel_rfl) (by kernel_rfl) (fun _ _ _ h => h) (Or.inl ⟨by rfl, ?_⟩) hS0d ?_
                    · intro wS hSw
                      have z0 := (hSw.cell (lt_of_cell r1)).trans r1
                      go_simp
                    simp only [Act.put, List.setIfInBounds_toArray, List.set_cons_zero, List.set_cons_succ]
                    refine wpAnyH_take (i := 10) (oi := { dst := some 73, op := .move (.tmp 0), type := _, pos := _, after := _, guard := some (4, false) }) (v := .slice (some ⟨ga, oa, none⟩) m c) rfl (by kernel_rfl) (by kernel_rfl) (by kernel_rfl) (fun _ _ _ h => h) (Or.inl ⟨by rfl, ?_⟩) hS0d ?_
                    · intro wS hSw
                      go_simp
                    simp only [Act.put, List.setIfInBounds_toArray, List.set_cons_zero, List.set_cons_succ]
                    refine wpAnyH_take (i := 11) (oi := { dst := some 74, op := .move (.tmp 10), type := _, pos := _, after := _, guard := some (4, false) }) (v := .int .i64 (b : Int)) rfl (by kernel_rfl) (by kernel_rfl) (by kernel_rfl) (fun _ _ _ h => h) (Or.inl ⟨by rfl, ?_⟩) hS0d ?_
                    · intro wS hSw
                      go_simp
                    simp only [Act.put, List.setIfInBounds_toArray, List.set_cons_zero, List.set_cons_succ]
                    refine wpAnyH_take (i := 12) (oi := { dst := some 75, op := .indexAddr 22 (.tmp 73) (.tmp 74), type := _, pos := _, after := _, guard := some (4, false) }) (v := .pointer (some ⟨ga, oa + b * 3, none⟩)) rfl (by kernel_rfl) (by kernel_rfl) (by kernel_rfl) (fun _ _ _ h => h) (Or.inl ⟨by rfl, ?_⟩) hS0d ?_
                    · intro wS hSw
                      go_simp
                    simp only [Act.put, List.setIfInBounds_toArray, List.set_cons_zero, List.set_cons_succ]
                    refine wpAnyH_take (i := 13) (oi := { dst := some 76, op := .fieldAddr 50 (.tmp 75) 0, type := _, pos := _, after := _, guard := some (4, false) }) (v := .pointer (some ⟨ga, oa + b * 3, none⟩)) rfl (by kernel_rfl) (by kernel_rfl) (by kernel_rfl) (fun _ _ _ h => h) (Or.inl ⟨by rfl, ?_⟩) hS0d ?_
                    · intro wS hSw
                      go_simp
                    simp only [Act.put, List.setIfInBounds_toArray, List.set_cons_zero, List.set_cons_succ]
                    refine wpAnyH_take (i := 14) (oi := { dst := some 77, op := .load 3 (.tmp 76), type := _, pos := _, after := _, guard := some (4, false) }) (v := .int .i64 xt) rfl (by kernel_rfl) (by kernel_rfl) (by kernel_rfl) (fun _ _ _ h => h) (Or.inl ⟨by rfl, ?_⟩) hS0d ?_
                    · intro wS hSw
                      have z0 := (hSw.cell (lt_of_cell q1)).trans q1
                      go_simp
                    simp only [Act.put, List.setIfInBounds_toArray, List.set_cons_zero, List.set_cons_succ]
                    refine wpAnyH_take (i := 15) (oi := { dst := some 78, op := .binOp .lss 3 (.tmp 72) (.tmp 77) 3, type := _, pos := _, after := _, guard := some (4, false) }) (v := .bool false) rfl (by kernel_rfl) (by kernel_rfl) (by kernel_rfl) (fun _ _ _ h => h) (Or.inl ⟨by rfl, ?_⟩) hS0d ?_
                    · intro wS hSw
                      (go_simp; try (first | exact hlt.out | exact Int.not_lt.1 hlt.out))
                    simp only [Act.put, List.setIfInBounds_toArray, List.set_cons_zero, List.set_cons_succ]
                    refine wpAnyH_take (i := 16) (oi := { dst := some 79, op := .pick (.tmp 67) (.const (.bool true)) (.tmp 78), type := _, pos := _, after := _, guard := some (1, true) }) (v := .bool false) rfl (by kernel_rfl) (by kernel_rfl) (by kernel_rfl) (fun _ _ _ h => h) (Or.inl ⟨by rfl, ?_⟩) hS0d ?_
                    · intro wS hSw
                      go_simp
                    simp only [Act.put, List.setIfInBounds_toArray, List.set_cons_zero, List.set_cons_succ]
                    refine wpAnyH_take (i := 17) (oi := { dst := some 80, op := .pick (.tmp 64) (.tmp 79) (.const (.bool false)), type := _, pos := _, after := _, guard := none }) (v := .bool false) rfl (by kernel_rfl) (by kernel_rfl) (by kernel_rfl) (fun _ _ _ h => h) (Or.inl ⟨by rfl, ?_⟩) hS0d ?_
                    · intro wS hSw
                      go_simp
                    simp only [Act.put, List.setIfInBounds_toArray, List.set_cons_zero, List.set_cons_succ]
                    refine wpAnyH_done (by kernel_rfl) ?_ _
                    have hBn : Hid (Below wo.heap.size wo x0d) := hBi.out.trans (hS0d.mono hBi.out.size)
                    clear hS0d r1 q1
                    go_wp2_with fail
                    go_roundw
                    case rel => exact ⟨j + 1, by omega, by go_num, (show _ = _ by rw [HBS.out]; first | done | rfl), hBn.out⟩
                    case measure => simp [intOf]; omega
        · have hjm2 : Hid (j = m) := show j = m by omega
          obtain ⟨b, hb1, hb2, hb3⟩ := best_is (ev := ev) hsm
          rw [← hout.out] at hb1
          have hbest2 := hbest.out
          rw [hjm2.out, hb1] at hbest2
          have hbo : optI (some b) = (b : Int) := rfl
          rw [hbo] at hbest2
          rw [hbest2]
          have HNX : Hid (leastN ev m (s + 1) = out ++ [b]) := by show _ = _; rw [hout.out]; exact leastN_next (by rw [← hout.out]; exact hb1)
          obtain ⟨wk, hwk⟩ : ∃ x, x = wj := ⟨_, rfl⟩
          have hAk : At 4 wk gi (cellsB m (memB out)) := by rw [hwk]; exact hA.out.below hBj.out
          have HAk : Hid (At 4 wk gi (cellsB m (memB out))) := hAk
          have HOk : Hid (OwnI base wk (.slice ao s co) (natI out)) := by show OwnI _ _ _ _; rw [hwk]; exact hown.out.below hBj.out
          have HBk : Hid (Below w3.heap.size w3 wk) := by show Below _ _ _; rw [hwk]; exact hB.out.trans (hBj.out.mono hB.out.size)
          have hbk : base ≤ wk.heap.size := by rw [hwk]; exact Nat.le_trans hbs.out hBj.out.size
          have hlo : (natI out).length ≤ 1048576 := by rw [natI_length, hout.out, leastN_length]; omega
          have z5 : (b : Int) < (m : Int) := by omega
          have z6 : ¬ (b : Int) < 0 := by omega
          have z7 : ¬ (j : Int) < (m : Int) := by omega
          rw [← hwk]
          clear hwk hb1 hb3 hbest hbest2 hbo hAk hBj hjm2 hjm hj
          go_wp2_with (first | (refine wpList_store1 rfl 4 (.tmp 84) (.const (.bool true)) rfl gi b (.bool true) rfl rfl 4 _ HAk.out (by rw [cellsB_length]; omega) (by kernel_rfl) rfl rfl ?_; intro w5 hA5 hb5 hs5; refine Hid.out ?_))
          refine hidU ?_
          have HA5 : Hid (At 4 w5 gi (cellsB m (memB (out ++ [b])))) := by
            show At _ _ _ _
            rw [← cells_in hb2]
            exact hA5
          have HO5 : Hid (OwnI base w5 (.slice ao s co) (natI out)) := HOk.out.but hb5 hgb2
          have HB5 : Hid (Below w3.heap.size w3 w5) := hb5.below HBk.out (by rw [hgi.out]; exact Nat.le_refl _) HBk.out.size
          have hsz : base ≤ w5.heap.size := by rw [hs5]; exact hbk
          clear hA5 hb5 hs5 HAk HOk HBk hbk
          go_wp2_with (first | (at_builtin; refine appI (.tmp 85) (.tmp 87) (b : Int) base _ (natI out) rfl rfl rfl rfl HO5.out hlo hsz ?_; intro v6 w6 hown6 hb6))
          go_roundw
          case rel =>
            refine ⟨s + 1, by omega, (show OwnI _ _ _ _ by rw [HNX.out, natI_snoc]; exact hown6), ?_, ?_, (show _ ≤ _ from Nat.le_trans hsz hb6.size)⟩
            · show At _ _ _ _
              rw [HNX.out]
              unfold At
              rw [hb6.block gi hgb2]
              exact HA5.out
            · exact HB5.out.trans (hb6.mono (by rw [← hgi.out]; omega))
          case measure =>
            obtain ⟨a6, c6, rfl, _, _⟩ := hown6.row
            simp [lenV, natI_length, leastN_length, hout.out]
            omega
    · have hsm2 : Hid (s = m) := show s = m by omega
      have hfin : Hid (OwnI base wo (.slice ao s co) (natI (leastL ev m))) := by
        have := hown.out
        rwa [hsm2.out] at this ⊢
      have z7 : ¬ (s : Int) < (m : Int) := by omega
      clear hown
      go_wp2_with fail
      go_ret2
      refine ⟨_, rfl, OwnI.down hfin.out ?_, HB3.out.trans (hB.out.mono HB3.out.size)⟩
      have h1 := HB3.out.size
      have h2 := hgi.out
      omega
end Go.Proofs.Ytbamocalhojmeaa
