/- norm.levelNumbers: the walk. -/
import Derived.Test.YtbamocalhojmeaaJ23
namespace Go.Proofs.Ytbamocalhojmeaa
open Go.RowKit
set_option linter.unusedVariables false
attribute [local go_sem ↓] Go.wp_at_zero Go.wp_at_succ
attribute [local go_sem] Oper.semAt_some

def noDef (ops : Array Oper) : Bool := ops.all fun o => match o.op with
  | .defer _ => false
  | _ => true
theorem noDef_spec {ops : Array Oper} (h : noDef ops = true) : ∀ (j : Nat) (o : Oper), ops[j]? = some o → ∀ c, o.op ≠ .defer c := fun j o ho c e => by
  obtain ⟨hj, h1⟩ := Array.getElem?_eq_some_iff.1 ho
  have h2 := Array.all_eq_true.1 h j hj
  rw [h1] at h2
  simp [e] at h2

set_option maxRecDepth 100000 in
set_option maxHeartbeats 12800000 in
theorem levelNumbers_any (es : List Ev) (nn : Nat) (a1 a2 : Option Addr) (c1 c2 : Nat) (w : World) (hT : Tr w a1 a2 es nn) (hc1 : es.length ≤ c1) (hc2 : es.length ≤ c2) :
    Calls Try.prog 41 #[.slice a1 es.length c1, .slice a2 es.length c2] w fun r w' => ∃ g, r = .returned (.slice (some ⟨g, 0, none⟩) es.length es.length) ∧ At 3 w' g (cellsN es.length (lev (evAt es))) ∧ w.heap.size ≤ g ∧ Below w.heap.size w w' := by
  obtain ⟨i0, hi0, hz0, hz1, hz2⟩ := info_parts Try.info3
  have HT := hidU hT
  have hlen := hT.len
  obtain ⟨m, hm⟩ : ∃ m, Hid (m = es.length) := ⟨_, (rfl : _ = es.length)⟩
  rw [← hm.out] at hc1 hc2 hlen ⊢
  clear hT
  obtain ⟨gL, hgL⟩ : ∃ g, Hid (g = w.heap.size) := ⟨_, (rfl : _ = w.heap.size)⟩
  have hmk : (Instr.makeSlice 23 (.int .i64 (m : Int)) (.int .i64 (m : Int))).run Try.prog w = .ok (.slice (some ⟨gL, 0, none⟩) m m) (w.alloc (.cells (madeCells #[.int .i64 0] m) 3)) := by
    have := run_make (P := Try.prog) w 23 3 i0 (.int .i64 0) Try.underlying23 hi0 hz0 .i64 .i64 (m : Int) (m : Int) (by omega) (by omega) (by rw [hz2]; omega) (by omega)
    rw [hz1, Nat.mul_one, Int.toNat_natCast, ← hgL.out] at this
    exact this
  refine (callsIn_wide (n := 6)).1 ?_
  refine callsIn_of_wp_marks Try.func41 rfl trivial ?_ rfl
  simp only [Try.ntmps41, List.size_toArray, List.length_cons, List.length_nil, Nat.reduceAdd, Nat.reduceSub, Array.replicate_succ, Array.replicate_zero, List.push_toArray, List.append_toArray, List.nil_append, List.cons_append]
  gi_wp2_with fail
  clear hmk
  obtain ⟨bL, hbL⟩ : ∃ b, Hid (b = w.heap.size + 1) := ⟨_, (rfl : _ = w.heap.size + 1)⟩
  have H0 : Hid (LvN w m gL bL ((w.alloc (.cells (madeCells #[.int .i64 0] m) 3)).alloc (.cells #[.slice (some ⟨gL, 0, none⟩) m m] 23)) (fLv (evAt es) 0)) := by
    have q1 := Boxed.new (w.alloc (.cells (madeCells #[.int .i64 0] m) 3)) 23 (.slice (some ⟨gL, 0, none⟩) m m)
    rw [World.size_alloc, ← hbL.out] at q1
    refine ⟨q1, ?_, ((Below.refl _ w).alloc (Nat.le_refl _) _).alloc (by simp) _, by rw [hgL.out]; exact Nat.le_refl _, by rw [hgL.out, hbL.out]; omega⟩
    rw [hgL.out]
    unfold At
    rw [Below.heap_alloc _ _ _ (by simp), World.alloc_heap_new]
    congr 2
    apply Array.toList_inj.1
    rw [toList_madeCells_one]
    simp [cellsZ, fLv, lvTo, List.map_const']
  try rw [← hbL.out]
  obtain ⟨W0, hW0⟩ : ∃ W, Hid (W = ((w.alloc (.cells (madeCells #[.int .i64 0] m) 3)).alloc (.cells #[.slice (some ⟨gL, 0, none⟩) m m] 23))) := ⟨_, (rfl : _ = _)⟩
  rw [← hW0.out] at H0 ⊢
  clear hW0
  refine wpIn_loop (fun a' W => ∃ (Ds : List Nat) (k : Nat) (u2 u3 u4 u6 u7 u8 u9 u10 u11 u14 u15 u16 u17 u18 u19 u20 u21 u22 u23 u24 u25 u26 u27 u28 u29 u30 u31 u32 u33 u34 u35 : Value), a' = { tmps := #[.slice a1 m c1, .slice a2 m c2, u2, u3, u4, .pointer (some ⟨bL, 0, none⟩), u6, u7, u8, u9, u10, u11, .int .i64 (m : Int), .int .i64 (k : Int), u14, u15, u16, u17, u18, u19, u20, u21, u22, u23, u24, u25, u26, u27, u28, u29, u30, u31, u32, u33, u34, u35], defers := Ds.map mkD } ∧ k ≤ m ∧ Hid (LvN w m gL bL W (fLv (evAt es) k) ∧ Ds.Nodup ∧ ∀ D ∈ Ds, bL < D ∧ W.heap[D]? = some (.deferred (some [])))) (fun a' _ => m - (intOf (a'.tmps.getD 13 undef)).toNat) ?_ ?_
  · exact ⟨[], 0, _, _, _, _, _, _, _, _, _, _, _, _, _, _, _, _, _, _, _, _, _, _, _, _, _, _, _, _, _, _, _, rfl, Nat.zero_le _, H0.out, .nil, by simp⟩
  rintro a' W ⟨Ds, k, u2, u3, u4, u6, u7, u8, u9, u10, u11, u14, u15, u16, u17, u18, u19, u20, u21, u22, u23, u24, u25, u26, u27, u28, u29, u30, u31, u32, u33, u34, u35, rfl, hkm, hI⟩
  clear H0
  by_cases hk : k < m
  · have HBH := hidU (behind_any a1 a2 m m c1 c2 (k : Int))
    have k1 : (k : Int) < (m : Int) := by omega
    gi_wp2_with (refine ⟨trivial, ?_⟩; gi_at_call 56; refine (callsIn_wide.2 (HBH.out _)).mono ?_; rintro e W4 ⟨rfl, rfl⟩)
    obtain ⟨bI, hbI⟩ : ∃ b, Hid (b = W.heap.size) := ⟨_, (rfl : _ = W.heap.size)⟩
    obtain ⟨s, hs⟩ : ∃ s, Hid (s = W.heap.size + 1) := ⟨_, (rfl : _ = W.heap.size + 1)⟩
    obtain ⟨W4, hW4⟩ : ∃ X, Hid (X = (((W.alloc (.cells #[.int .i64 (k : Int)] 3)).alloc (.cells #[.slice a1 m c1] 32)).alloc (.cells #[.slice a2 m c2] 22)).alloc (.cells #[.int .i64 (k : Int)] 3)) := ⟨_, (rfl : _ = _)⟩
    rw [← hW4.out, ← hs.out, ← hbI.out]
    have hb4 : Below W.heap.size W W4 := by rw [hW4.out]; exact ((((Below.refl _ W).alloc (Nat.le_refl _) _).alloc (by simp) _).alloc (by simp; omega) _).alloc (by simp; omega) _
    have hz4 : W4.heap.size = s + 3 := by rw [hW4.out, hs.out]; simp
    have hbx : Boxed W4 bI 3 (.int .i64 (k : Int)) ∧ Boxed W4 s 32 (.slice a1 m c1) ∧ Boxed W4 (s + 1) 22 (.slice a2 m c2) ∧ Boxed W4 (s + 2) 3 (.int .i64 (k : Int)) := by
      rw [hW4.out]
      have q0 := Boxed.new W 3 (.int .i64 (k : Int))
      have q1 := Boxed.new (W.alloc (.cells #[.int .i64 (k : Int)] 3)) 32 (.slice a1 m c1)
      have q2 := Boxed.new ((W.alloc (.cells #[.int .i64 (k : Int)] 3)).alloc (.cells #[.slice a1 m c1] 32)) 22 (.slice a2 m c2)
      have q3 := Boxed.new (((W.alloc (.cells #[.int .i64 (k : Int)] 3)).alloc (.cells #[.slice a1 m c1] 32)).alloc (.cells #[.slice a2 m c2] 22)) 3 (.int .i64 (k : Int))
      rw [World.size_alloc, ← hs.out] at q1
      rw [World.size_alloc, World.size_alloc, ← hs.out] at q2
      rw [World.size_alloc, World.size_alloc, World.size_alloc, ← hs.out] at q3
      rw [← hbI.out] at q0
      exact ⟨((q0.alloc _).alloc _).alloc _, (q1.alloc _).alloc _, q2.alloc _, q3⟩
    have hvl := hI.out.1.var.lt
    have HQ : Hid (LvQ w m gL bL bI s k Ds (fLv (evAt es) k) [] W4) := by
      refine ⟨hI.out.1.keep (Cel.of_below hb4 hI.out.1.bel.size), hbx.1, by rw [hbI.out]; exact hvl, by rw [hbI.out, hs.out]; omega, by omega, fun D hD => ?_⟩
      obtain ⟨_, h2⟩ := hI.out.2.2 D hD
      have hlt := (Array.getElem?_eq_some_iff.1 h2).1
      exact ⟨by rw [hs.out]; omega, (hb4.block D hlt).trans h2⟩
    have hwb : Below w.heap.size w W4 := HQ.out.n.bel
    have hws : w.heap.size ≤ s := by rw [hs.out]; have := hI.out.1.bel.size; omega
    have hb1 : Boxed W4 s 32 (.slice a1 es.length c1) := by rw [← hm.out]; exact hbx.2.1
    have hb2 : Boxed W4 (s + 1) 22 (.slice a2 es.length c2) := by rw [← hm.out]; exact hbx.2.2.1
    have hb3 := hbx.2.2.2
    have HS : Hid (SeqStopsK Fence.wide (6 - 1) Try.prog 68 #[.pointer (some ⟨s + 2, 0, none⟩), .pointer (some ⟨s + 1, 0, none⟩), .pointer (some ⟨s, 0, none⟩)] (fun y : BhA es.length k (evAt es) => #[Value.int .i64 (y.1 : Int)]) (Kpt w.heap.size s) (fun ys => ys.map (·.1) = bhTo (evAt es) k es.length) (fun _ => True) (bhTo (evAt es) k es.length).length W4) := fun l J Jx W5 hW5 hJ hJx hY hj0 =>
      behind1_any 5 (by omega) l s k nn a1 a2 c1 c2 es w HT.out (by rw [← hm.out]; exact hk) (by rw [← hm.out]; exact hc1) (by rw [← hm.out]; exact hc2) J Jx W5 (hwb.trans (hW5.mono hwb.size)) (by have := hW5.size; omega) hJ ((hW5.block _ hb1.lt).trans hb1) ((hW5.block _ hb2.lt).trans hb2) ((hW5.block _ hb3.lt).trans hb3) hY hj0
    clear hbx hb1 hb2 hb3 hb4 HBH hW4
    refine wpIn_rangeFunc_ownH (F := Fence.wide) (n := 6) rfl (by omega) (gf := 68) (lb := #[.pointer (some ⟨s + 2, 0, none⟩), .pointer (some ⟨s + 1, 0, none⟩), .pointer (some ⟨s, 0, none⟩)]) rfl trivial (enters_of Try.func68 (by kernel_rfl) rfl)
      HS.out (fun h1 h2 => h1.trans h2) (fun W l o o' hl ho _ _ => Kpt.put (n := W4.heap.size) (by omega) (by omega) W l o o' hl ho) (Below.refl _ _) (fun _ => rfl)
      (fun (pre : List (BhA es.length k (evAt es))) W => LvQ w m gL bL bI s k Ds (fLv (evAt es) k) (pre.map (·.1)) W)
      (fun _ _ _ => False)
      (fun pre A B row h hg hr => LvQ.keep (L := pre.map (·.1)) h (by omega) hg hr)
      (fun _ _ _ _ _ hs _ _ => hs)
      HQ.out
      (fun y a' _ => a' = { tmps := #[.slice a1 m c1, .slice a2 m c2, u2, u3, u4, .pointer (some ⟨bL, 0, none⟩), .pointer (some ⟨bI, 0, none⟩), .int .i64 (y.1 : Int), u8, u9, u10, u11, .int .i64 (m : Int), .int .i64 (k : Int), .bool true, .int .i64 (k : Int), .slice a1 m c1, .slice a2 m c2, .int .i64 (k : Int), .func (.func 68) #[] #[.pointer (some ⟨s + 2, 0, none⟩), .pointer (some ⟨s + 1, 0, none⟩), .pointer (some ⟨s, 0, none⟩)], .int .i64 (y.1 : Int), u21, u22, u23, u24, u25, u26, u27, u28, u29, u30, u31, u32, u33, u34, u35], defers := [] })
      (fun _ _ _ _ _ _ hs _ _ => hs)
      ?assign ?body ?done ?stop
    case assign =>
      rintro l pre y W5 K hI hK
      gi_wp2
      exact hK _ _ (KeepsFrom.refl _ _) ⟨Below.refl _ _, fun _ _ _ => rfl⟩ hI rfl
    case stop =>
      rintro D c pre W5 _ _ h _
      exact h.elim
    case done =>
      rintro D ys W5 hD hS hq hd
      rw [hS] at hq
      have HE : Hid (LvN w m gL bL W5 (fLv (evAt es) (k + 1)) ∧ (D :: Ds).Nodup ∧ ∀ E ∈ D :: Ds, bL < E ∧ W5.heap[E]? = some (.deferred (some []))) := by
        have o3 := hq.o3; have o4 := hq.o4
        refine ⟨⟨hq.n.var, ?_, hq.n.bel, hq.n.o1, hq.n.o2⟩, List.nodup_cons.2 ⟨fun hmm => ?_, hI.out.2.1⟩, fun E hE => ?_⟩
        · have := hq.n.row
          rw [cellsZ_congr (fun j hj => fLv_step (evAt es) (k := k) (m := es.length) (by rw [← hm.out]; exact hj))] at this
          exact this
        · have := (hq.mks D hmm).1
          omega
        · rcases List.mem_cons.1 hE with rfl | hE
          · exact ⟨by omega, hd⟩
          · exact ⟨(hI.out.2.2 E hE).1, (hq.mks E hE).2⟩
      clear hq hd hS
      gi_wp2_with fail
      exact ⟨⟨D :: Ds, k + 1, _, _, _, _, _, _, _, _, _, _, _, _, _, _, _, _, _, _, _, _, _, _, _, _, _, _, _, _, _, _, _, rfl, by omega, HE.out⟩, by simp [intOf]; omega⟩
    case body =>
      rintro l pre y a' W5 hl ⟨r, hr⟩ hq rfl hlt
      have hy1 : y.1 < m := by rw [hm.out]; exact y.2.2.1
      obtain ⟨j, hj⟩ : ∃ j, Hid (j = y.1) := ⟨_, (rfl : _ = y.1)⟩
      have HPS : Hid ((pre ++ [y]).map (·.1) = pre.map (·.1) ++ [j]) := by rw [hj.out]; show _ = _; simp
      have hne : k ∉ pre.map (·.1) := fun h => by
        obtain ⟨z, _, hz⟩ := List.mem_map.1 h
        have := z.2.1
        omega
      rw [← hj.out] at hy1 ⊢
      have hA0 := fLv_le (evAt es) k j (by omega)
      have hC0 := fLv_le (evAt es) k k (by omega)
      obtain ⟨C, hC⟩ : ∃ z, Hid (z = fLv (evAt es) k k) := ⟨_, (rfl : _ = fLv (evAt es) k k)⟩
      obtain ⟨A, hA⟩ : ∃ z, Hid (z = runL (fLv (evAt es) k k) (fLv (evAt es) k) (pre.map (·.1)) j) := ⟨_, (rfl : _ = runL _ _ _ j)⟩
      rw [← hC.out] at hC0
      have cL := hq.n.var.cell
      have cI := hq.i.cell
      have cj : W5.cell? ⟨gL, j, none⟩ = some (.int .i64 A) := by rw [hq.n.row.cell, cellsZ_at hy1, hA.out]
      have ck : W5.cell? ⟨gL, k, none⟩ = some (.int .i64 C) := by rw [hq.n.row.cell, cellsZ_at hk, runL_at, if_neg hne, hC.out]
      have fj := hq.n.row.frozen j
      have HN := hidU (hq.step (B := W4.heap.size) hy1 1)
      rw [← hA.out, ← hC.out] at HN
      have j1 : (j : Int) < (m : Int) := by omega
      have hwC : IntKind.i64.wrap (C + 1) = C + 1 := by rw [IntKind.wrap_i64]; omega
      clear hq
      gi_wp2_with fail
      refine wp_region_R _ (S := fun xS => xS = W5.drew) (St := [13]) (by kernel_rfl) rfl ?_
      intro hH
      refine wpAnyR_take (noDef_spec (by kernel_rfl)) [13] (i := 0) (oi := { dst := some 21, op := .load 23 (.tmp 5), type := _, pos := _, after := _, guard := none }) (v := .slice (some ⟨gL, 0, none⟩) m m) rfl (by kernel_rfl) (by kernel_rfl) (by kernel_rfl) (by kernel_rfl) (by kernel_rfl) (by kernel_rfl) (by kernel_rfl) (fun _ _ _ h => h) (Or.inl ⟨by rfl, ?_⟩) hH (fun hH => ?_)
      · intro wS hSw
        subst hSw
        go_simp
      simp only [Act.put, List.setIfInBounds_toArray, List.set_cons_zero, List.set_cons_succ]
      refine wpAnyR_pure (noDef_spec (by kernel_rfl)) (i := 1) (oi := { dst := some 22, op := .move (.tmp 7), type := _, pos := _, after := _, guard := none }) (v := .int .i64 (j : Int)) rfl (by kernel_rfl) (by kernel_rfl) (by kernel_rfl) (by kernel_rfl) (fun _ _ _ h => h) (Or.inl ⟨by rfl, ?_⟩) hH (fun hH => ?_)
      · intro wS hSw
        go_simp
        all_goals first | exact hwC | (split <;> omega)
      simp only [Act.put, List.setIfInBounds_toArray, List.set_cons_zero, List.set_cons_succ]
      refine wpAnyR_take (noDef_spec (by kernel_rfl)) [13] (i := 2) (oi := { dst := some 23, op := .load 23 (.tmp 5), type := _, pos := _, after := _, guard := none }) (v := .slice (some ⟨gL, 0, none⟩) m m) rfl (by kernel_rfl) (by kernel_rfl) (by kernel_rfl) (by kernel_rfl) (by kernel_rfl) (by kernel_rfl) (by kernel_rfl) (fun _ _ _ h => h) (Or.inl ⟨by rfl, ?_⟩) hH (fun hH => ?_)
      · intro wS hSw
        subst hSw
        go_simp
      simp only [Act.put, List.setIfInBounds_toArray, List.set_cons_zero, List.set_cons_succ]
      refine wpAnyR_pure (noDef_spec (by kernel_rfl)) (i := 3) (oi := { dst := some 24, op := .move (.tmp 7), type := _, pos := _, after := _, guard := none }) (v := .int .i64 (j : Int)) rfl (by kernel_rfl) (by kernel_rfl) (by kernel_rfl) (by kernel_rfl) (fun _ _ _ h => h) (Or.inl ⟨by rfl, ?_⟩) hH (fun hH => ?_)
      · intro wS hSw
        go_simp
        all_goals first | exact hwC | (split <;> omega)
      simp only [Act.put, List.setIfInBounds_toArray, List.set_cons_zero, List.set_cons_succ]
      refine wpAnyR_pure (noDef_spec (by kernel_rfl)) (i := 4) (oi := { dst := some 25, op := .indexAddr 23 (.tmp 23) (.tmp 24), type := _, pos := _, after := _, guard := none }) (v := .pointer (some ⟨gL, j, none⟩)) rfl (by kernel_rfl) (by kernel_rfl) (by kernel_rfl) (by kernel_rfl) (fun _ _ _ h => h) (Or.inl ⟨by rfl, ?_⟩) hH (fun hH => ?_)
      · intro wS hSw
        go_simp
        all_goals first | exact hwC | (split <;> omega)
      simp only [Act.put, List.setIfInBounds_toArray, List.set_cons_zero, List.set_cons_succ]
      refine wpAnyR_take (noDef_spec (by kernel_rfl)) [13] (i := 5) (oi := { dst := some 26, op := .load 3 (.tmp 25), type := _, pos := _, after := _, guard := none }) (v := .int .i64 A) rfl (by kernel_rfl) (by kernel_rfl) (by kernel_rfl) (by kernel_rfl) (by kernel_rfl) (by kernel_rfl) (by kernel_rfl) (fun _ _ _ h => h) (Or.inl ⟨by rfl, ?_⟩) hH (fun hH => ?_)
      · intro wS hSw
        subst hSw
        go_simp
      simp only [Act.put, List.setIfInBounds_toArray, List.set_cons_zero, List.set_cons_succ]
      refine wpAnyR_take (noDef_spec (by kernel_rfl)) [13] (i := 6) (oi := { dst := some 27, op := .load 23 (.tmp 5), type := _, pos := _, after := _, guard := none }) (v := .slice (some ⟨gL, 0, none⟩) m m) rfl (by kernel_rfl) (by kernel_rfl) (by kernel_rfl) (by kernel_rfl) (by kernel_rfl) (by kernel_rfl) (by kernel_rfl) (fun _ _ _ h => h) (Or.inl ⟨by rfl, ?_⟩) hH (fun hH => ?_)
      · intro wS hSw
        subst hSw
        go_simp
      simp only [Act.put, List.setIfInBounds_toArray, List.set_cons_zero, List.set_cons_succ]
      refine wpAnyR_take (noDef_spec (by kernel_rfl)) [13] (i := 7) (oi := { dst := some 28, op := .load 3 (.tmp 6), type := _, pos := _, after := _, guard := none }) (v := .int .i64 (k : Int)) rfl (by kernel_rfl) (by kernel_rfl) (by kernel_rfl) (by kernel_rfl) (by kernel_rfl) (by kernel_rfl) (by kernel_rfl) (fun _ _ _ h => h) (Or.inl ⟨by rfl, ?_⟩) hH (fun hH => ?_)
      · intro wS hSw
        subst hSw
        go_simp
      simp only [Act.put, List.setIfInBounds_toArray, List.set_cons_zero, List.set_cons_succ]
      refine wpAnyR_pure (noDef_spec (by kernel_rfl)) (i := 8) (oi := { dst := some 29, op := .indexAddr 23 (.tmp 27) (.tmp 28), type := _, pos := _, after := _, guard := none }) (v := .pointer (some ⟨gL, k, none⟩)) rfl (by kernel_rfl) (by kernel_rfl) (by kernel_rfl) (by kernel_rfl) (fun _ _ _ h => h) (Or.inl ⟨by rfl, ?_⟩) hH (fun hH => ?_)
      · intro wS hSw
        go_simp
        all_goals first | exact hwC | (split <;> omega)
      simp only [Act.put, List.setIfInBounds_toArray, List.set_cons_zero, List.set_cons_succ]
      refine wpAnyR_take (noDef_spec (by kernel_rfl)) [13] (i := 9) (oi := { dst := some 30, op := .load 3 (.tmp 29), type := _, pos := _, after := _, guard := none }) (v := .int .i64 C) rfl (by kernel_rfl) (by kernel_rfl) (by kernel_rfl) (by kernel_rfl) (by kernel_rfl) (by kernel_rfl) (by kernel_rfl) (fun _ _ _ h => h) (Or.inl ⟨by rfl, ?_⟩) hH (fun hH => ?_)
      · intro wS hSw
        subst hSw
        go_simp
      simp only [Act.put, List.setIfInBounds_toArray, List.set_cons_zero, List.set_cons_succ]
      refine wpAnyR_pure (noDef_spec (by kernel_rfl)) (i := 10) (oi := { dst := some 31, op := .binOp .add 3 (.tmp 30) (.const (.int .i64 1)) 3, type := _, pos := _, after := _, guard := none }) (v := .int .i64 (C + 1)) rfl (by kernel_rfl) (by kernel_rfl) (by kernel_rfl) (by kernel_rfl) (fun _ _ _ h => h) (Or.inl ⟨by rfl, ?_⟩) hH (fun hH => ?_)
      · intro wS hSw
        go_simp
        all_goals first | exact hwC | (split <;> omega)
      simp only [Act.put, List.setIfInBounds_toArray, List.set_cons_zero, List.set_cons_succ]
      refine wpAnyR_pure (noDef_spec (by kernel_rfl)) (i := 11) (oi := { dst := some 32, op := .call { callee := .builtin .max, args := #[.tmp 26, .tmp 31], argTypes := #[3, 3] }, type := _, pos := _, after := _, guard := none }) (v := .int .i64 (max A (C + 1))) rfl (by kernel_rfl) (by kernel_rfl) (by kernel_rfl) (by kernel_rfl) (fun _ _ _ h => h) (Or.inl ⟨by rfl, ?_⟩) hH (fun hH => ?_)
      · intro wS hSw
        go_simp
        all_goals first | exact hwC | (split <;> omega)
      simp only [Act.put, List.setIfInBounds_toArray, List.set_cons_zero, List.set_cons_succ]
      refine wpAnyR_pure (noDef_spec (by kernel_rfl)) (i := 12) (oi := { dst := some 33, op := .indexAddr 23 (.tmp 21) (.tmp 22), type := _, pos := _, after := _, guard := none }) (v := .pointer (some ⟨gL, j, none⟩)) rfl (by kernel_rfl) (by kernel_rfl) (by kernel_rfl) (by kernel_rfl) (fun _ _ _ h => h) (Or.inl ⟨by rfl, ?_⟩) hH (fun hH => ?_)
      · intro wS hSw
        go_simp
        all_goals first | exact hwC | (split <;> omega)
      simp only [Act.put, List.setIfInBounds_toArray, List.set_cons_zero, List.set_cons_succ]
      refine wpAnyR_ready (rs := [13]) (by kernel_rfl) (by simp) ?_
      refine AllReadyR.cons (o := { dst := none, op := .store 3 (.tmp 33) (.tmp 32), type := _, pos := _, after := _, guard := none }) rfl (fun K hK => ?_) AllReadyR.nil
      rw [if_pos (by rfl)]
      gi_wp2_with fail
      refine hK.out _ _ (Hold.over (s := 13) (by decide) (by rfl)) (fun hH => ?_)
      clear hK K
      refine wpAnyR_done (by kernel_rfl) ?_ _
      exact ⟨HN.out.1, HN.out.2.1, by show LvQ w m gL bL bI s k Ds (fLv (evAt es) k) ((pre ++ [y]).map (·.1)) _; rw [HPS.out]; exact HN.out.2.2⟩
  · have hke : k = m := by omega
    have cL := hI.out.1.var.cell
    have HE : Hid (Ds.Nodup ∧ (∀ D ∈ Ds, w.heap.size ≤ D ∧ W.heap[D]? = some (.deferred (some []))) ∧ (∀ W', Cel w.heap.size W W' → At 3 W' gL (cellsN m (lev (evAt es))) ∧ w.heap.size ≤ gL ∧ Below w.heap.size w W')) := by
      have o1 := hI.out.1.o1; have o2 := hI.out.1.o2
      refine ⟨hI.out.2.1, fun D hD => ⟨?_, (hI.out.2.2 D hD).2⟩, fun W' hC => ⟨?_, o1, hI.out.1.bel.trans hC.bel⟩⟩
      · have := (hI.out.2.2 D hD).1
        omega
      · have := hC.at hI.out.1.row
        rw [hke, cellsZ_congr (g := fun j => ((lev (evAt es) j : Nat) : Int)) (fun j hj => by show ((lvTo (lev (evAt es)) (evAt es) j m : Nat) : Int) = _; rw [lvTo_lev (evAt es) (by omega)])] at this
        exact this
    gi_wp2_with fail
    refine leaves_marks (b := w.heap.size) Ds W HE.out.1 HE.out.2.1 (fun W' hC => ?_)
    exact ⟨_, results_tmp rfl _ _ _, gL, rfl, HE.out.2.2 W' hC⟩
end Go.Proofs.Ytbamocalhojmeaa
