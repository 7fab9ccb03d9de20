/- Joined texts of the proof. -/
import Derived.Test.YtcmahiphfpgadaaGreatDoorJ12
import Derived.Test.YtcmahiphfpgadaaGreatDoorJ14
import Derived.Test.YtcmahiphfpgadaaGreatDoorJ9

/- The document's own comparison of programs. -/
namespace Go.Proofs.YtcmahiphfpgadaaGreatDoor
open Go.RowKit
set_option linter.unusedVariables false

theorem wp_alloc_at {P : Program} {o : Oper} {a : Act} {w : World} {K : Act → World → Prop} {Q : Exit → Act → World → Prop} (t : TypeId) (ho : o.op = .alloc t) (cs : List Value) (n : Nat) (hz : (P.info? t).map (fun i => (i.zero, i.size)) = some (some (.agg cs.toArray), n))
  (h : ∀ w', At t w' w.heap.size cs → Below w.heap.size w w' → w'.heap.size = w.heap.size + 1 → K (a.put o.dst (.pointer (some ⟨w.heap.size, 0, none⟩))) w') : o.wp P a w K Q := by
 have := h (w.alloc (.cells cs.toArray t)) (_root_.Go.heap_alloc_new w _) ((Below.refl _ w).alloc (Nat.le_refl _) _) (by show (w.heap.push _).size = _; simp)
 have h0 := (zero_of_info hz).1
 unfold Oper.wp execOp
 simp only [ho, Instr.alloc, Sem.run_bind, h0]
 simpa [newVar, go_sem, Value.cells] using this

theorem th_mid {w : World} {g o : Nat} {nm : ByteArray} {s1 s2 : Value} (h : w.rangeAt g o [.string nm, s1, s2]) : w.cell? ⟨g, o, none⟩ = some (.string nm) ∧ w.cell? ⟨g, o + 1, none⟩ = some s1 ∧ w.cell? ⟨g, o + 2, none⟩ = some s2 := ⟨h 0 _ rfl, h 1 _ rfl, h 2 _ rfl⟩

theorem kitStmts_any (B : Nat) (M : Nat) : ∀ x : ST, SizeOf.sizeOf x < M → KitSW B x := by
 induction M with
 | zero => intro x h; omega
 | succ M ih =>
  rintro ⟨k, nm, e, a1, c1, b1, a2, c2, b2⟩ hN
  exact ⟨kitStmts_of B b1 fun s hs => ih s (by have := ST.sz1 (k := k) (nm := nm) (e := e) (a1 := a1) (a2 := a2) (c1 := c1) (c2 := c2) (els := b2) hs; omega), kitStmts_of B b2 fun s hs => ih s (by have := ST.sz2 (k := k) (nm := nm) (e := e) (a1 := a1) (a2 := a2) (c1 := c1) (c2 := c2) (body := b1) hs; omega)⟩
theorem kitBlock_any (B : Nat) (l : List ST) : KitLW B l := kitStmts_of B l fun s _ => kitStmts_any B _ s (Nat.lt_succ_self _)

set_option maxRecDepth 100000 in
set_option maxHeartbeats 12800000 in
theorem kitThreads_at (B : Nat) (s1 s2 s1' s2' : Value) (a3_ a3_' : Option Addr) (cc1 cc2 : Nat) (xs ys : List TT) (p1 p2_ : Bool) (w : World) (h1 : AskB w 43 #[s1, s1'] p1) (h2 : AskB w 44 #[s2, s2'] p2_) (hx : RowT B w a3_ cc1 xs) (hy : RowT B w a3_' cc2 ys) (hBw : B ≤ w.heap.size) :
  Calls Tryz.prog 16 #[.agg [s1, s2, .slice a3_ xs.length cc1].toArray, .agg [s1', s2', .slice a3_' ys.length cc2].toArray] w fun r w' => r = .returned (.bool (p1 && (p2_ && eqL samT (xs.map TT.th) (ys.map TT.th)))) ∧ Below w.heap.size w w' := by
 obtain ⟨R, hR⟩ : ∃ R, Hid (R = (p1 && (p2_ && eqL samT (xs.map TT.th) (ys.map TT.th)))) := ⟨_, (rfl : _ = (p1 && (p2_ && eqL samT _ _)))⟩
 rw [← hR.out]
 have H1 : Hid (AskB w 43 #[s1, s1'] p1) := h1
 have H2 : Hid (AskB w 44 #[s2, s2'] p2_) := h2
 obtain ⟨n, hn⟩ : ∃ n, Hid (n = xs.length) := ⟨_, (rfl : xs.length = _)⟩
 obtain ⟨n', hn'⟩ : ∃ n, Hid (n = ys.length) := ⟨_, (rfl : ys.length = _)⟩
 have hl1 := hx.1
 have hl2 := hy.1
 have hk1 := hx.2.1
 have hk2 := hy.2.1
 rw [← hn.out] at hl1 hk1 ⊢
 rw [← hn'.out] at hl2 hk2 ⊢
 have HR : Hid (RowT B w a3_ cc1 xs ∧ RowT B w a3_' cc2 ys) := ⟨hx, hy⟩
 clear h1 h2 hx hy
 go_enter Tryz.func16, Tryz.ntmps16
 go_wp2_with (first
  | ((with_reducible show wpList _ _ _ _ _ _); refine wpList_box_at rfl 26 (.tmp 0) rfl [s1, s2, .slice a3_ n cc1] rfl ?_; intro w1 hA1 hb1 hs1; clear hs1)
  | ((with_reducible show wpList _ _ _ _ _ _); refine wpList_box_at rfl 26 (.tmp 1) rfl [s1', s2', .slice a3_' n' cc2] rfl ?_; intro w2_ hA2 hb2 hs2; clear hs2; refine Hid.out ?_))
 refine hidU ?_
 have hA12 := hA1.below hb2
 have hbw_ : Below w.heap.size w w2_ := hb1.trans (hb2.mono hb1.size)
 have hl12 : w1.heap.size < w2_.heap.size := hA2.lt
 clear hA1 hb1 hb2
 obtain ⟨q0, q1, q2⟩ := pg_cells hA12
 obtain ⟨u0, u1, u2⟩ := pg_cells hA2
 go_wp2_with fail
 refine (H1.out _ hbw_).mono ?_
 rintro r w3_ ⟨rfl, hb3⟩
 have hA3 := hA12.below hb3
 have hA3' := hA2.below hb3
 have hw3 := hbw_.trans (hb3.mono hbw_.size)
 have hl13 : w1.heap.size < w3_.heap.size := hA3'.lt
 clear hA12 hA2 hbw_ hb3 q0 q1 q2 u0 u1 u2 hl12
 obtain ⟨q0, q1, q2⟩ := pg_cells hA3
 obtain ⟨u0, u1, u2⟩ := pg_cells hA3'
 cases p1 with
 | false =>
  go_wp2_with fail
  go_ret
  exact ⟨by rw [hR.out]; rfl, hw3⟩
 | true =>
  go_wp2_with fail
  refine (H2.out _ hw3).mono ?_
  rintro r w2 ⟨rfl, hb4⟩
  have hA4 := hA3.below hb4
  have hA4' := hA3'.below hb4
  have hbw := hw3.trans (hb4.mono hw3.size)
  have hl14 : w1.heap.size < w2.heap.size := hA4'.lt
  clear hA3 hA3' hw3 hb4 q0 q1 q2 u0 u1 u2 hl13
  obtain ⟨q0, q1, q2⟩ := pg_cells hA4
  obtain ⟨u0, u1, u2⟩ := pg_cells hA4'
  cases p2_ with
  | false =>
   go_wp2_with fail
   go_ret
   exact ⟨by rw [hR.out]; rfl, hbw⟩
  | true =>
   rw [Bool.true_and, Bool.true_and] at hR
   by_cases hnn : n = n'
   ·subst hnn
    have HBX : Hid (At 26 w2 w.heap.size [s1, s2, .slice a3_ n cc1] ∧ At 26 w2 w1.heap.size [s1', s2', .slice a3_' n cc2]) := ⟨hA4, hA4'⟩
    clear hA4 hA4'
    go_wp2_with fail
    clear q0 q1 q2 u0 u1 u2
    go_loopw [5] (fun j wr => ∃ i : Nat, j = .int .i64 (i : Int) ∧ i ≤ n ∧ Hid (Below w2.heap.size w2 wr ∧ ∀ (q : Nat) (x y : Th), q < i → (xs.map TT.th)[q]? = some x → (ys.map TT.th)[q]? = some y → samT x y = true)) (fun j _ => n - (intOf j).toNat)
    case atStart => exact ⟨0, rfl, by omega, Below.refl _ _, fun q x y hq => by omega⟩
    case round =>
     obtain ⟨i, rfl, hi, hX⟩ := hrel
     obtain ⟨hb2r, hall⟩ := hX.out
     obtain ⟨-, -, q2⟩ := pg_cells (HBX.out.1.below hb2r)
     obtain ⟨-, -, u2⟩ := pg_cells (HBX.out.2.below hb2r)
     have hwr : Below w.heap.size w wr := hbw.trans (hb2r.mono hbw.size)
     by_cases hc : i < n
     ·obtain ⟨x, hx⟩ : ∃ k, xs[i]? = some k := ⟨xs[i]'(by rw [← hn.out]; exact hc), by rw [List.getElem?_eq_getElem]⟩
      obtain ⟨y, hy⟩ : ∃ k, ys[i]? = some k := ⟨ys[i]'(by rw [← hn'.out]; exact hc), by rw [List.getElem?_eq_getElem]⟩
      have hold : Old B w wr := Old.of_below hwr hBw
      obtain ⟨g1, o1, rfl, hg1, hr1, hx1⟩ := (HR.out.1.old hold).at i x hx
      obtain ⟨g2, o2, rfl, hg2, hr2, hy1⟩ := (HR.out.2.old hold).at i y hy
      have HX : Hid ((xs.map TT.th)[i]? = some x.th ∧ (ys.map TT.th)[i]? = some y.th) := ⟨by rw [List.getElem?_map, hx]; rfl, by rw [List.getElem?_map, hy]; rfl⟩
      have HA : Hid (∀ (q : Nat) (x y : Th), q < i → (xs.map TT.th)[q]? = some x → (ys.map TT.th)[q]? = some y → samT x y = true) := hall
      obtain ⟨Z, hZ⟩ : ∃ Z, Hid (Z = samT x.th y.th) := ⟨_, (rfl : _ = samT _ _)⟩
      have hRf : Hid (Z = false → R = false) := fun hz => by
       rw [hR.out, Bool.eq_false_iff]
       intro h
       have := ((eqL_iff _ _ _).1 h).2 i _ _ HX.out.1 HX.out.2
       rw [← hZ.out, hz] at this
       cases this
      have hZS : Hid (Z = samT x.th y.th) := hZ.out
      obtain ⟨nm, a1, c1, ls, a2, c2, bs⟩ := x
      obtain ⟨nm', a1', c1', ls', a2', c2', bs'⟩ := y
      have hZ2 : Hid (Z = (decide (nm.data.toList = nm'.data.toList) && (eqL samV (ls.map VT.vr) (ls'.map VT.vr) && samSL (bs.map ST.st) (bs'.map ST.st)))) := hZ.out
      have hsz : B ≤ wr.heap.size := by have := hwr.size; omega
      have k2 : AskB wr 43 #[.slice a1 ls.length c1, .slice a1' ls'.length c1'] (eqL samV (ls.map VT.vr) (ls'.map VT.vr)) := fun w' h => kitV_any B ls ls' a1 a1' c1 c1' w' (hx1.1.old (Old.of_below h hsz)) (hy1.1.old (Old.of_below h hsz)) (by have := h.size; omega)
      have k3 : AskB wr 45 #[.slice a2 bs.length c2, .slice a2' bs'.length c2'] (samSL (bs.map ST.st) (bs'.map ST.st)) := fun w' h => kitBlock_any B bs bs' a2 a2' c2 c2' w' (hx1.2.old (Old.of_below h hsz)) (hy1.2.old (Old.of_below h hsz)) (by have := h.size; omega)
      generalize eqL samV (ls.map VT.vr) (ls'.map VT.vr) = p2 at k2 hZ2
      generalize samSL (bs.map ST.st) (bs'.map ST.st) = p3 at k3 hZ2
      simp only [TT.cells] at hr1 hr2
      generalize ls.length = n1 at k2 hr1
      generalize ls'.length = n1' at k2 hr2
      generalize bs.length = n2 at k3 hr1
      generalize bs'.length = n2' at k3 hr2
      have HE : Hid (∀ w', Below wr.heap.size wr w' → (w'.cell? ⟨g1, o1 + i * 3, none⟩ = some (.string nm) ∧ w'.cell? ⟨g1, o1 + i * 3 + 1, none⟩ = some (.slice a1 n1 c1) ∧ w'.cell? ⟨g1, o1 + i * 3 + 2, none⟩ = some (.slice a2 n2 c2)) ∧ (w'.cell? ⟨g2, o2 + i * 3, none⟩ = some (.string nm') ∧ w'.cell? ⟨g2, o2 + i * 3 + 1, none⟩ = some (.slice a1' n1' c1') ∧ w'.cell? ⟨g2, o2 + i * 3 + 2, none⟩ = some (.slice a2' n2' c2'))) := fun w' h => ⟨th_mid ((Old.of_below (B := B) h hsz).range hg1 hr1), th_mid ((Old.of_below (B := B) h hsz).range hg2 hr2)⟩
      have HB : Hid (∀ w', Below wr.heap.size wr w' → w'.cell? ⟨w.heap.size, 2, none⟩ = some (.slice (some ⟨g1, o1, none⟩) n cc1) ∧ w'.cell? ⟨w1.heap.size, 2, none⟩ = some (.slice (some ⟨g2, o2, none⟩) n cc2)) := fun w' h => ⟨(pg_cells ((HBX.out.1.below hb2r).below h)).2.2, (pg_cells ((HBX.out.2.below hb2r).below h)).2.2⟩
      have Q2 : Hid (AskB wr 43 #[.slice a1 n1 c1, .slice a1' n1' c1'] p2) := k2
      have Q3 : Hid (AskB wr 45 #[.slice a2 n2 c2, .slice a2' n2' c2'] p3) := k3
      have hS0 : Below wr.heap.size wr wr.drew := Below.drew (Below.refl _ _)
      clear hX hall hx hy hold hr1 hr2 hx1 hy1 k2 k3 HR hZ HBX
      go_wp2_with fail
      refine wp_region_held_drew (S := fun x => Below wr.heap.size wr x) (by kernel_rfl) hS0 (fun _ => ?_)
      refine wpAnyH_take (i := 0) (oi := { dst := some 38, op := .fieldAddr 26 (.tmp 2) 2, guard := none, .. }) (v := .pointer (some ⟨w.heap.size, 2, none⟩)) rfl (by kernel_rfl) (by kernel_rfl) (by kernel_rfl) (fun _ _ _ h => h) (Or.inl ⟨by rfl, ?_⟩) hS0 ?_
      ·intro w hSw
       go_simp
      simp only [Act.put, sA, sB, sC]
      refine wpAnyH_take (i := 1) (oi := { dst := some 39, op := .load 24 (.tmp 38), guard := none, .. }) (v := .slice (some ⟨g1, o1, none⟩) n cc1) rfl (by kernel_rfl) (by kernel_rfl) (by kernel_rfl) (fun _ _ _ h => h) (Or.inl ⟨by rfl, ?_⟩) hS0 ?_
      ·intro w hSw
       have z := (HB.out w hSw).1
       go_simp
      simp only [Act.put, sA, sB, sC]
      refine wpAnyH_take (i := 2) (oi := { dst := some 40, op := .move (.tmp 5), guard := none, .. }) (v := .int .i64 (i : Int)) rfl (by kernel_rfl) (by kernel_rfl) (by kernel_rfl) (fun _ _ _ h => h) (Or.inl ⟨by rfl, ?_⟩) hS0 ?_
      ·intro w hSw
       go_simp
      simp only [Act.put, sA, sB, sC]
      refine wpAnyH_take (i := 3) (oi := { dst := some 41, op := .indexAddr 24 (.tmp 39) (.tmp 40), guard := none, .. }) (v := .pointer (some ⟨g1, o1 + i * 3, none⟩)) rfl (by kernel_rfl) (by kernel_rfl) (by kernel_rfl) (fun _ _ _ h => h) (Or.inl ⟨by rfl, ?_⟩) hS0 ?_
      ·intro w hSw
       go_simp
      simp only [Act.put, sA, sB, sC]
      refine wpAnyH_take (i := 4) (oi := { dst := some 42, op := .load 59 (.tmp 41), guard := none, .. }) (v := .agg #[.string nm, .slice a1 n1 c1, .slice a2 n2 c2]) rfl (by kernel_rfl) (by kernel_rfl) (by kernel_rfl) (fun _ _ _ h => h) (Or.inl ⟨by rfl, ?_⟩) hS0 ?_
      ·intro w hSw
       obtain ⟨z0, z1, z2⟩ := (HE.out w hSw).1
       go_simp
      simp only [Act.put, sA, sB, sC]
      refine wpAnyH_take (i := 5) (oi := { dst := some 43, op := .fieldAddr 26 (.tmp 3) 2, guard := none, .. }) (v := .pointer (some ⟨w1.heap.size, 2, none⟩)) rfl (by kernel_rfl) (by kernel_rfl) (by kernel_rfl) (fun _ _ _ h => h) (Or.inl ⟨by rfl, ?_⟩) hS0 ?_
      ·intro w hSw
       go_simp
      simp only [Act.put, sA, sB, sC]
      refine wpAnyH_take (i := 6) (oi := { dst := some 44, op := .load 24 (.tmp 43), guard := none, .. }) (v := .slice (some ⟨g2, o2, none⟩) n cc2) rfl (by kernel_rfl) (by kernel_rfl) (by kernel_rfl) (fun _ _ _ h => h) (Or.inl ⟨by rfl, ?_⟩) hS0 ?_
      ·intro w hSw
       have z := (HB.out w hSw).2
       go_simp
      simp only [Act.put, sA, sB, sC]
      refine wpAnyH_take (i := 7) (oi := { dst := some 45, op := .move (.tmp 5), guard := none, .. }) (v := .int .i64 (i : Int)) rfl (by kernel_rfl) (by kernel_rfl) (by kernel_rfl) (fun _ _ _ h => h) (Or.inl ⟨by rfl, ?_⟩) hS0 ?_
      ·intro w hSw
       go_simp
      simp only [Act.put, sA, sB, sC]
      refine wpAnyH_take (i := 8) (oi := { dst := some 46, op := .indexAddr 24 (.tmp 44) (.tmp 45), guard := none, .. }) (v := .pointer (some ⟨g2, o2 + i * 3, none⟩)) rfl (by kernel_rfl) (by kernel_rfl) (by kernel_rfl) (fun _ _ _ h => h) (Or.inl ⟨by rfl, ?_⟩) hS0 ?_
      ·intro w hSw
       go_simp
      simp only [Act.put, sA, sB, sC]
      refine wpAnyH_take (i := 9) (oi := { dst := some 47, op := .load 59 (.tmp 46), guard := none, .. }) (v := .agg #[.string nm', .slice a1' n1' c1', .slice a2' n2' c2']) rfl (by kernel_rfl) (by kernel_rfl) (by kernel_rfl) (fun _ _ _ h => h) (Or.inl ⟨by rfl, ?_⟩) hS0 ?_
      ·intro w hSw
       obtain ⟨z0, z1, z2⟩ := (HE.out w hSw).2
       go_simp
      simp only [Act.put, sA, sB, sC]
      refine wpAnyH_ready (rs := [10, 11]) (by kernel_rfl) (by simp) ?_
      refine AllReadyH.cons (o := { dst := some 6, op := .alloc 59, guard := none, .. }) rfl (fun K hK => ?_) (AllReadyH.cons (o := { dst := some 7, op := .alloc 59, guard := none, .. }) rfl (fun K hK => ?_) AllReadyH.nil)
      ·skip
       rw [if_pos (by rfl)]
       refine wp_alloc_at (P := Tryz.prog) 59 rfl _ 3 z42 ?_
       intro v1 hV1 hbv1 hsv1
       have hS1 := hS0.trans (hbv1.mono hS0.size)
       refine hK.out _ _ hS1 (fun _ => ?_)
       refine wpAnyH_ready (rs := [11]) (by kernel_rfl) (by simp) ?_
       refine AllReadyH.cons (o := { dst := some 7, op := .alloc 59, guard := none, .. }) rfl (fun K hK => ?_) AllReadyH.nil
       rw [if_pos (by rfl)]
       refine wp_alloc_at (P := Tryz.prog) 59 rfl _ 3 z42 ?_
       intro v2 hV2 hbv2 hsv2
       have hS2 := hS1.trans (hbv2.mono hS1.size)
       refine hK.out _ _ hS2 (fun _ => ?_)
       have hsv1' : v1.heap.size = wr.heap.size + 1 := hsv1
       have hV1 : At 59 v1 wr.heap.size _ := hV1
       have hX2 := (hV1.below hbv2)
       have hY2 := hV2
       refine wpAnyH_ready (rs := [12]) (by kernel_rfl) (by simp) ?_
       refine AllReadyH.cons (o := { dst := none, op := .store 59 (.tmp 6) (.tmp 42), guard := none, .. }) rfl (fun K hK => ?_) AllReadyH.nil
       rw [if_pos (by rfl)]
       refine wp_store_mid (P := Tryz.prog) 59 (.tmp 6) (.tmp 42) rfl (wr.heap.size) 0 [.string nm, .slice a1 n1 c1, .slice a2 n2 c2].toArray rfl rfl (hX2.there 0 _ (Nat.le_refl _)) i42 (all_oneCell_toArray (one59 _ _ _ _ _ _ _)) ?_
       obtain ⟨v3, hv3⟩ : ∃ v, v = v2.setCells (wr.heap.size) 0 [.string nm, .slice a1 n1 c1, .slice a2 n2 c2].toArray.toList := ⟨_, rfl⟩
       have hBu3 : But (wr.heap.size) v2 v3 := by rw [hv3]; exact But.setCells _ _ _ (But.refl _ _)
       have hX3 : At 59 v3 (wr.heap.size) [.string nm, .slice a1 n1 c1, .slice a2 n2 c2] := by rw [hv3]; exact At.setCells _ 0 _ _ hX2
       have hsz3 : v3.heap.size = v2.heap.size := by rw [hv3]; exact size_setCells _ _ _ _
       have hY3 := hBu3.at hY2 (by show _ ≠ _; first | (have hd : wr.drew.heap.size = wr.heap.size := rfl; omega))
       have hS3 : Below wr.heap.size wr v3 := hBu3.below hS2 (by have hd : wr.drew.heap.size = wr.heap.size := rfl; omega) hS2.size
       rw [← hv3]
       clear hv3
       refine hK.out _ _ hS3 (fun _ => ?_)
       refine wpAnyH_ready (rs := [13]) (by kernel_rfl) (by simp) ?_
       refine AllReadyH.cons (o := { dst := none, op := .store 59 (.tmp 7) (.tmp 47), guard := none, .. }) rfl (fun K hK => ?_) AllReadyH.nil
       rw [if_pos (by rfl)]
       refine wp_store_mid (P := Tryz.prog) 59 (.tmp 7) (.tmp 47) rfl (v1.heap.size) 0 [.string nm', .slice a1' n1' c1', .slice a2' n2' c2'].toArray rfl rfl (hY3.there 0 _ (Nat.le_refl _)) i42 (all_oneCell_toArray (one59 _ _ _ _ _ _ _)) ?_
       obtain ⟨v4, hv4⟩ : ∃ v, v = v3.setCells (v1.heap.size) 0 [.string nm', .slice a1' n1' c1', .slice a2' n2' c2'].toArray.toList := ⟨_, rfl⟩
       have hBu4 : But (v1.heap.size) v3 v4 := by rw [hv4]; exact But.setCells _ _ _ (But.refl _ _)
       have hY4 : At 59 v4 (v1.heap.size) [.string nm', .slice a1' n1' c1', .slice a2' n2' c2'] := by rw [hv4]; exact At.setCells _ 0 _ _ hY3
       have hX4 := hBu4.at hX3 (by show _ ≠ _; first | (have hd : wr.drew.heap.size = wr.heap.size := rfl; omega))
       have hS4 : Below wr.heap.size wr v4 := hBu4.below hS3 (by have hd : wr.drew.heap.size = wr.heap.size := rfl; omega) hS3.size
       rw [← hv4]
       clear hv4 hBu3 hBu4 hX3 hY3 hX2 hY2 hV1 hV2 hbv1 hbv2 hsv1 hsv1' hsv2 hsz3
       refine hK.out _ _ hS4 (fun _ => ?_)
       refine wpAnyH_done (by kernel_rfl) ?_ _
       obtain ⟨r0, r1, r2⟩ := th_cells hX4
       obtain ⟨s0, s1, s2⟩ := th_cells hY4
       by_cases hs : nm.toList = nm'.toList
       ·have hs0 : (nm.toList == nm'.toList) = true := by rw [beq_iff_eq]; exact hs
        rw [toList_bytes, toList_bytes] at hs
        have hs' : decide (nm.data.toList = nm'.data.toList) = true := decide_eq_true hs
        rw [hs', Bool.true_and] at hZ2
        clear hs hs'
        go_wp2_with fail
        refine (Q2.out _ hS4).mono ?_
        rintro r v5 ⟨rfl, hb5⟩
        have hX5 := hX4.below hb5
        have hY5 := hY4.below hb5
        have hS5 := hS4.trans (hb5.mono hS4.size)
        clear hX4 hY4 r0 r1 r2 s0 s1 s2
        obtain ⟨r0, r1, r2⟩ := th_cells hX5
        obtain ⟨s0, s1, s2⟩ := th_cells hY5
        cases p2 with
        | false =>
         go_wp2_with fail
         go_ret
         exact ⟨by rw [hRf.out (by first | (rw [hZ2.out]; done) | (rw [hZ2.out]; simp))]; rfl, hwr.trans (hS5.mono hwr.size)⟩
        | true =>
         go_wp2_with fail
         refine (Q3.out _ hS5).mono ?_
         rintro r v6 ⟨rfl, hb6⟩
         have hS6 := hS5.trans (hb6.mono hS5.size)
         clear hX5 hY5 r0 r1 r2 s0 s1 s2
         cases p3 with
         | false =>
          go_wp2_with fail
          go_ret
          exact ⟨by rw [hRf.out (by first | (rw [hZ2.out]; done) | (rw [hZ2.out]; simp))]; rfl, hwr.trans (hS6.mono hwr.size)⟩
         | true =>
          have hw6 : Below w2.heap.size w2 v6 := hb2r.trans (hS6.mono hb2r.size)
          go_wp2_with fail
          go_roundw
          case rel =>
           refine ⟨i + 1, by go_num, by omega, hw6, fun q u v hq hu hv => ?_⟩
           by_cases hqi : q = i
           ·subst hqi
            rw [HX.out.1] at hu
            rw [HX.out.2] at hv
            cases hu
            cases hv
            have := hZS.out
            rw [hZ2.out] at this
            simpa using this.symm
           ·exact HA.out q u v (by omega) hu hv
          case measure => simp [intOf]; omega
       ·have hs0 : (nm.toList == nm'.toList) = false := by rw [beq_eq_false_iff_ne]; exact hs
        rw [toList_bytes, toList_bytes] at hs
        have hs' : decide (nm.data.toList = nm'.data.toList) = false := decide_eq_false hs
        rw [hs', Bool.false_and] at hZ2
        clear hs hs'
        go_wp2_with fail
        go_ret
        exact ⟨by rw [hRf.out hZ2.out]; rfl, hwr.trans (hS4.mono hwr.size)⟩
      ·skip
       rw [if_pos (by rfl)]
       refine wp_alloc_at (P := Tryz.prog) 59 rfl _ 3 z42 ?_
       intro v1 hV1 hbv1 hsv1
       have hS1 := hS0.trans (hbv1.mono hS0.size)
       refine hK.out _ _ hS1 (fun _ => ?_)
       refine wpAnyH_ready (rs := [10]) (by kernel_rfl) (by simp) ?_
       refine AllReadyH.cons (o := { dst := some 6, op := .alloc 59, guard := none, .. }) rfl (fun K hK => ?_) AllReadyH.nil
       rw [if_pos (by rfl)]
       refine wp_alloc_at (P := Tryz.prog) 59 rfl _ 3 z42 ?_
       intro v2 hV2 hbv2 hsv2
       have hS2 := hS1.trans (hbv2.mono hS1.size)
       refine hK.out _ _ hS2 (fun _ => ?_)
       have hsv1' : v1.heap.size = wr.heap.size + 1 := hsv1
       have hV1 : At 59 v1 wr.heap.size _ := hV1
       have hX2 := hV2
       have hY2 := (hV1.below hbv2)
       refine wpAnyH_ready (rs := [12]) (by kernel_rfl) (by simp) ?_
       refine AllReadyH.cons (o := { dst := none, op := .store 59 (.tmp 6) (.tmp 42), guard := none, .. }) rfl (fun K hK => ?_) AllReadyH.nil
       rw [if_pos (by rfl)]
       refine wp_store_mid (P := Tryz.prog) 59 (.tmp 6) (.tmp 42) rfl (v1.heap.size) 0 [.string nm, .slice a1 n1 c1, .slice a2 n2 c2].toArray rfl rfl (hX2.there 0 _ (Nat.le_refl _)) i42 (all_oneCell_toArray (one59 _ _ _ _ _ _ _)) ?_
       obtain ⟨v3, hv3⟩ : ∃ v, v = v2.setCells (v1.heap.size) 0 [.string nm, .slice a1 n1 c1, .slice a2 n2 c2].toArray.toList := ⟨_, rfl⟩
       have hBu3 : But (v1.heap.size) v2 v3 := by rw [hv3]; exact But.setCells _ _ _ (But.refl _ _)
       have hX3 : At 59 v3 (v1.heap.size) [.string nm, .slice a1 n1 c1, .slice a2 n2 c2] := by rw [hv3]; exact At.setCells _ 0 _ _ hX2
       have hsz3 : v3.heap.size = v2.heap.size := by rw [hv3]; exact size_setCells _ _ _ _
       have hY3 := hBu3.at hY2 (by show _ ≠ _; first | (have hd : wr.drew.heap.size = wr.heap.size := rfl; omega))
       have hS3 : Below wr.heap.size wr v3 := hBu3.below hS2 (by have hd : wr.drew.heap.size = wr.heap.size := rfl; omega) hS2.size
       rw [← hv3]
       clear hv3
       refine hK.out _ _ hS3 (fun _ => ?_)
       refine wpAnyH_ready (rs := [13]) (by kernel_rfl) (by simp) ?_
       refine AllReadyH.cons (o := { dst := none, op := .store 59 (.tmp 7) (.tmp 47), guard := none, .. }) rfl (fun K hK => ?_) AllReadyH.nil
       rw [if_pos (by rfl)]
       refine wp_store_mid (P := Tryz.prog) 59 (.tmp 7) (.tmp 47) rfl (wr.heap.size) 0 [.string nm', .slice a1' n1' c1', .slice a2' n2' c2'].toArray rfl rfl (hY3.there 0 _ (Nat.le_refl _)) i42 (all_oneCell_toArray (one59 _ _ _ _ _ _ _)) ?_
       obtain ⟨v4, hv4⟩ : ∃ v, v = v3.setCells (wr.heap.size) 0 [.string nm', .slice a1' n1' c1', .slice a2' n2' c2'].toArray.toList := ⟨_, rfl⟩
       have hBu4 : But (wr.heap.size) v3 v4 := by rw [hv4]; exact But.setCells _ _ _ (But.refl _ _)
       have hY4 : At 59 v4 (wr.heap.size) [.string nm', .slice a1' n1' c1', .slice a2' n2' c2'] := by rw [hv4]; exact At.setCells _ 0 _ _ hY3
       have hX4 := hBu4.at hX3 (by show _ ≠ _; first | (have hd : wr.drew.heap.size = wr.heap.size := rfl; omega))
       have hS4 : Below wr.heap.size wr v4 := hBu4.below hS3 (by have hd : wr.drew.heap.size = wr.heap.size := rfl; omega) hS3.size
       rw [← hv4]
       clear hv4 hBu3 hBu4 hX3 hY3 hX2 hY2 hV1 hV2 hbv1 hbv2 hsv1 hsv1' hsv2 hsz3
       refine hK.out _ _ hS4 (fun _ => ?_)
       refine wpAnyH_done (by kernel_rfl) ?_ _
       obtain ⟨r0, r1, r2⟩ := th_cells hX4
       obtain ⟨s0, s1, s2⟩ := th_cells hY4
       by_cases hs : nm.toList = nm'.toList
       ·have hs0 : (nm.toList == nm'.toList) = true := by rw [beq_iff_eq]; exact hs
        rw [toList_bytes, toList_bytes] at hs
        have hs' : decide (nm.data.toList = nm'.data.toList) = true := decide_eq_true hs
        rw [hs', Bool.true_and] at hZ2
        clear hs hs'
        go_wp2_with fail
        refine (Q2.out _ hS4).mono ?_
        rintro r v5 ⟨rfl, hb5⟩
        have hX5 := hX4.below hb5
        have hY5 := hY4.below hb5
        have hS5 := hS4.trans (hb5.mono hS4.size)
        clear hX4 hY4 r0 r1 r2 s0 s1 s2
        obtain ⟨r0, r1, r2⟩ := th_cells hX5
        obtain ⟨s0, s1, s2⟩ := th_cells hY5
        cases p2 with
        | false =>
         go_wp2_with fail
         go_ret
         exact ⟨by rw [hRf.out (by first | (rw [hZ2.out]; done) | (rw [hZ2.out]; simp))]; rfl, hwr.trans (hS5.mono hwr.size)⟩
        | true =>
         go_wp2_with fail
         refine (Q3.out _ hS5).mono ?_
         rintro r v6 ⟨rfl, hb6⟩
         have hS6 := hS5.trans (hb6.mono hS5.size)
         clear hX5 hY5 r0 r1 r2 s0 s1 s2
         cases p3 with
         | false =>
          go_wp2_with fail
          go_ret
          exact ⟨by rw [hRf.out (by first | (rw [hZ2.out]; done) | (rw [hZ2.out]; simp))]; rfl, hwr.trans (hS6.mono hwr.size)⟩
         | true =>
          have hw6 : Below w2.heap.size w2 v6 := hb2r.trans (hS6.mono hb2r.size)
          go_wp2_with fail
          go_roundw
          case rel =>
           refine ⟨i + 1, by go_num, by omega, hw6, fun q u v hq hu hv => ?_⟩
           by_cases hqi : q = i
           ·subst hqi
            rw [HX.out.1] at hu
            rw [HX.out.2] at hv
            cases hu
            cases hv
            have := hZS.out
            rw [hZ2.out] at this
            simpa using this.symm
           ·exact HA.out q u v (by omega) hu hv
          case measure => simp [intOf]; omega
       ·have hs0 : (nm.toList == nm'.toList) = false := by rw [beq_eq_false_iff_ne]; exact hs
        rw [toList_bytes, toList_bytes] at hs
        have hs' : decide (nm.data.toList = nm'.data.toList) = false := decide_eq_false hs
        rw [hs', Bool.false_and] at hZ2
        clear hs hs'
        go_wp2_with fail
        go_ret
        exact ⟨by rw [hRf.out hZ2.out]; rfl, hwr.trans (hS4.mono hwr.size)⟩
     ·have hin : i = n := by omega
      have hRt : R = true := by
       rw [hR.out, eqL_iff, List.length_map, List.length_map, ← hn.out, ← hn'.out]
       refine ⟨rfl, fun q u v hu hv => hall q u v ?_ hu hv⟩
       have := (List.getElem?_eq_some_iff.1 hu).1
       rw [List.length_map, ← hn.out] at this
       omega
      clear hX hall hin HR HBX
      go_wp2
      go_ret
      exact ⟨by rw [hRt]; rfl, hwr⟩
   ·have hne : ((n : Int) == (n' : Int)) = false := by rw [beq_eq_false_iff_ne]; omega
    have hRf : R = false := by
     rw [hR.out, Bool.eq_false_iff]
     intro h
     have := (eqL_iff _ _ _).1 h
     rw [List.length_map, List.length_map, ← hn.out, ← hn'.out] at this
     exact hnn this.1
    clear hnn
    go_wp2_with fail
    go_ret
    exact ⟨by rw [hRf]; rfl, hbw⟩

theorem kitProgram_any (B : Nat) (x y : PT) (w : World) (hx : x.In B w) (hy : y.In B w) (hBw : B ≤ w.heap.size) :
  Calls Tryz.prog 16 #[.agg x.cells.toArray, .agg y.cells.toArray] w fun r w' => r = .returned (.bool (samP x.pg y.pg)) ∧ Below w.heap.size w w' := by
 have hO : ∀ w', Below w.heap.size w w' → Old B w w' ∧ B ≤ w'.heap.size := fun w' h => ⟨Old.of_below h hBw, by have := h.size; omega⟩
 exact kitThreads_at B (.slice x.a1 x.shared.length x.c1) (.slice x.a2 x.mutexes.length x.c2) (.slice y.a1 y.shared.length y.c1) (.slice y.a2 y.mutexes.length y.c2) x.a3 y.a3 x.c3 y.c3 x.threads y.threads _ _ w
  (fun w' h => kitV_any B x.shared y.shared x.a1 y.a1 x.c1 y.c1 w' (hx.1.old (hO w' h).1) (hy.1.old (hO w' h).1) (hO w' h).2)
  (fun w' h => kitN_any B x.mutexes y.mutexes x.a2 y.a2 x.c2 y.c2 w' (hx.2.1.old (hO w' h).1) (hy.2.1.old (hO w' h).1) (hO w' h).2)
  hx.2.2 hy.2.2 hBw

end Go.Proofs.YtcmahiphfpgadaaGreatDoor

/- The document's own weight of an expression: it is told, whatever it is. -/
namespace Go.Proofs.YtcmahiphfpgadaaGreatDoor
open Go.RowKit
set_option linter.unusedVariables false

def IsI (r : Ending) : Prop := ∃ z : Int, r = .returned (.int .i64 z)
def WtW (B : Nat) (x : ET) : Prop := ∀ (w : World), x.In B w → B ≤ w.heap.size → Calls Tryz.prog 7 #[.agg x.cells.toArray] w fun r w' => IsI r ∧ Below w.heap.size w w'

set_option maxRecDepth 100000 in
set_option maxHeartbeats 3200000 in
theorem weight_of (B : Nat) (op t b : Nat) (nm : ByteArray) (a : Option Addr) (c : Nat) (ks : List ET) (hS : ∀ k ∈ ks, WtW B k) : WtW B (.mk op t b nm a c ks) := by
 intro w hx hBw
 unfold ET.In at hx
 obtain ⟨_, _, _, x1, x2, x3⟩ := hx
 have HR : Hid (RowE B w a c ks) := ⟨x1, x2, x3⟩
 obtain ⟨n, hn⟩ : ∃ n, Hid (n = ks.length) := ⟨_, (rfl : ks.length = _)⟩
 show Calls Tryz.prog 7 #[.agg (ex5 op t b nm (.slice a ks.length c)).toArray] w _
 rw [← hn.out] at x1 x2 ⊢
 have HS : Hid (∀ k ∈ ks, WtW B k) := hS
 clear x3 hS
 go_enter Tryz.func7, Tryz.ntmps7
 go_wp2_with (first
  | ((with_reducible show wpList _ _ _ _ _ _); refine wpList_box_at rfl 34 (.tmp 0) rfl (ex5 op t b nm (.slice a n c)) rfl ?_; intro w1 hA1 hb1 hs1; clear hs1; refine Hid.out ?_))
 refine hidU ?_
 have HB : Hid (At 34 w1 w.heap.size (ex5 op t b nm (.slice a n c))) := hA1
 clear hA1
 go_wp2_with fail
 go_loopw [3, 4] (fun u j wr => ∃ i : Nat, j = .int .i64 (i : Int) ∧ i ≤ n ∧ Hid ((∃ z : Int, u = .int .i64 z) ∧ Below w1.heap.size w1 wr)) (fun u j _ => n - (intOf j).toNat)
 case atStart => exact ⟨0, rfl, by omega, ⟨1, rfl⟩, Below.refl _ _⟩
 case round =>
  obtain ⟨i, rfl, hi, hX⟩ := hrel
  obtain ⟨⟨z, rfl⟩, hbr⟩ := hX.out
  have hwr : Below w.heap.size w wr := hb1.trans (hbr.mono hb1.size)
  obtain ⟨-, -, -, -, q4⟩ := ex_cells (HB.out.below hbr)
  by_cases hc : i < n
  ·obtain ⟨x, hx⟩ : ∃ k, ks[i]? = some k := ⟨ks[i]'(by rw [← hn.out]; exact hc), by rw [List.getElem?_eq_getElem]⟩
   have hold : Old B w wr := Old.of_below hwr hBw
   obtain ⟨g1, o1, rfl, hg1, hr1, hx1⟩ := (HR.out.old hold).at i x hx
   have hI := HS.out x (List.mem_of_getElem? hx) wr hx1 (by have := hwr.size; omega)
   obtain ⟨xop, xt, xb, xnm, xa, xc, xk⟩ := x
   have hI : Calls Tryz.prog 7 #[.agg #[.int .u8 (xop : Int), .int .u8 (xt : Int), .int .u64 (xb : Int), .string xnm, .slice xa xk.length xc]] wr fun r w' => IsI r ∧ Below wr.heap.size wr w' := hI
   obtain ⟨x0, x1', x2', x3', x4'⟩ := ex_mid (s := .slice xa xk.length xc) hr1
   clear hX hx hx1 hold hr1
   go_wp2_with fail
   refine hI.mono ?_
   rintro r w3 ⟨⟨y, rfl⟩, hb3⟩
   have hw3 : Below w1.heap.size w1 w3 := hbr.trans (hb3.mono hbr.size)
   clear hI q4 x0 x1' x2' x3' x4'
   go_wp2
   go_roundw
   case rel => exact ⟨i + 1, by go_num, by omega, ⟨_, rfl⟩, hw3⟩
   case measure => simp [intOf]; omega
  ·go_wp2
   go_ret
   exact ⟨⟨z, rfl⟩, hwr⟩

theorem weight_any (B : Nat) (M : Nat) : ∀ x : ET, SizeOf.sizeOf x < M → WtW B x := by
 induction M with
 | zero => intro x h; omega
 | succ M ih =>
  rintro ⟨op, t, b, nm, a, c, ks⟩ hN
  exact weight_of B op t b nm a c ks fun k hk => ih k (by have := ET.sz (op := op) (t := t) (b := b) (c := c) (nm := nm) (a := a) hk; omega)
end Go.Proofs.YtcmahiphfpgadaaGreatDoor

/- The document's own weight of statements: it is told, whatever it is. -/
namespace Go.Proofs.YtcmahiphfpgadaaGreatDoor
open Go.RowKit
set_option linter.unusedVariables false

def WtLW (B : Nat) (xs : List ST) : Prop := ∀ (a : Option Addr) (c : Nat) (w : World), RowS B w a c xs → B ≤ w.heap.size → Calls Tryz.prog 64 #[.slice a xs.length c] w fun r w' => IsI r ∧ Below w.heap.size w w'
def WtSW (B : Nat) : ST → Prop
 | .mk _ _ _ _ _ body _ _ els => WtLW B body ∧ WtLW B els

set_option maxRecDepth 100000 in
set_option maxHeartbeats 6400000 in
theorem weightStmts_of (B : Nat) (xs : List ST) (hS : ∀ x ∈ xs, WtSW B x) : WtLW B xs := by
 intro a c w h1 hBw
 obtain ⟨n, hn⟩ : ∃ n, Hid (n = xs.length) := ⟨_, (rfl : xs.length = _)⟩
 have hl1 := h1.1
 have hk1 := h1.2.1
 rw [← hn.out] at hl1 hk1 ⊢
 have HR : Hid (RowS B w a c xs) := h1
 have HS : Hid (∀ x ∈ xs, WtSW B x) := hS
 clear h1 hS
 go_enter Tryz.func64, Tryz.ntmps64
 go_wp2_with fail
 go_loopw [3, 4] (fun u j wr => ∃ i : Nat, j = .int .i64 (i : Int) ∧ i ≤ n ∧ Hid ((∃ z : Int, u = .int .i64 z) ∧ Below w.heap.size w wr)) (fun u j _ => n - (intOf j).toNat)
 case atStart => exact ⟨0, rfl, by omega, ⟨0, rfl⟩, Below.refl _ _⟩
 case round =>
  obtain ⟨i, rfl, hi, hX⟩ := hrel
  obtain ⟨⟨z, rfl⟩, hbw⟩ := hX.out
  by_cases hc : i < n
  ·obtain ⟨x, hx⟩ : ∃ k, xs[i]? = some k := ⟨xs[i]'(by rw [← hn.out]; exact hc), by rw [List.getElem?_eq_getElem]⟩
   have hold : Old B w wr := Old.of_below hbw hBw
   obtain ⟨g1, o1, rfl, hg1, hr1, hx1⟩ := (HR.out.old hold).at i x hx
   have hKS := HS.out x (List.mem_of_getElem? hx)
   obtain ⟨k, nm, ⟨op, t, b, enm, ea, ec, eks⟩, a1, c1, b1, a2, c2, b2⟩ := x
   obtain ⟨hKb, hKe⟩ := hKS
   unfold ST.In at hx1
   obtain ⟨_, xe, x1, x2⟩ := hx1
   have hsz : B ≤ wr.heap.size := by have := hbw.size; omega
   have q1 : ∀ w', Below wr.heap.size wr w' → Calls Tryz.prog 7 #[.agg #[.int .u8 (op : Int), .int .u8 (t : Int), .int .u64 (b : Int), .string enm, .slice ea eks.length ec]] w' fun r w'' => IsI r ∧ Below w'.heap.size w' w'' := fun w' h => weight_any B _ (.mk op t b enm ea ec eks) (Nat.lt_succ_self _) w' (xe.old (Old.of_below h hsz)) (by have := h.size; omega)
   have q2 : ∀ w', Below wr.heap.size wr w' → Calls Tryz.prog 64 #[.slice a1 b1.length c1] w' fun r w'' => IsI r ∧ Below w'.heap.size w' w'' := fun w' h => hKb a1 c1 w' (RowS.old x1 (Old.of_below h hsz)) (by have := h.size; omega)
   have q3 : ∀ w', Below wr.heap.size wr w' → Calls Tryz.prog 64 #[.slice a2 b2.length c2] w' fun r w'' => IsI r ∧ Below w'.heap.size w' w'' := fun w' h => hKe a2 c2 w' (RowS.old x2 (Old.of_below h hsz)) (by have := h.size; omega)
   simp only [ST.cells, ET.cells] at hr1
   generalize eks.length = en at q1 hr1
   generalize b1.length = n1 at q2 hr1
   generalize b2.length = n2 at q3 hr1
   have hr1 : wr.rangeAt g1 (o1 + i * 9) (st9 k nm (ex5 op t b enm (.slice ea en ec)) (.slice a1 n1 c1) (.slice a2 n2 c2)) := hr1
   have HE : Hid (∀ w', Below wr.heap.size wr w' → w'.cell? ⟨g1, o1 + i * 9, none⟩ = some (.int .i64 k) ∧ w'.cell? ⟨g1, o1 + i * 9 + 1, none⟩ = some (.string nm) ∧ w'.cell? ⟨g1, o1 + i * 9 + 2, none⟩ = some (.int .u8 (op : Int)) ∧ w'.cell? ⟨g1, o1 + i * 9 + 3, none⟩ = some (.int .u8 (t : Int)) ∧ w'.cell? ⟨g1, o1 + i * 9 + 4, none⟩ = some (.int .u64 (b : Int)) ∧ w'.cell? ⟨g1, o1 + i * 9 + 5, none⟩ = some (.string enm) ∧ w'.cell? ⟨g1, o1 + i * 9 + 6, none⟩ = some (.slice ea en ec) ∧ w'.cell? ⟨g1, o1 + i * 9 + 7, none⟩ = some (.slice a1 n1 c1) ∧ w'.cell? ⟨g1, o1 + i * 9 + 8, none⟩ = some (.slice a2 n2 c2)) := fun w' h => st_mid ((Old.of_below (B := B) h hsz).range hg1 hr1)
   have Q1 : Hid _ := q1
   have Q2 : Hid _ := q2
   have Q3 : Hid _ := q3
   have hS0 : Below wr.heap.size wr wr.drew := Below.drew (Below.refl _ _)
   clear hX hx hold hr1 xe x1 x2 q1 q2 q3 hKb hKe HR HS
   go_wp2_with fail
   refine wp_region_held_drew (S := fun x => Below wr.heap.size wr x) (by kernel_rfl) hS0 (fun _ => ?_)
   refine wpAnyH_take (i := 0) (oi := { dst := some 11, op := .move (.tmp 3), guard := none, .. }) (v := .int .i64 z) rfl (by kernel_rfl) (by kernel_rfl) (by kernel_rfl) (fun _ _ _ h => h) (Or.inl ⟨by rfl, ?_⟩) hS0 ?_
   ·intro w hSw
    go_simp
   simp only [Act.put, sA, sB, sC]
   refine wpAnyH_take (i := 1) (oi := { dst := some 12, op := .binOp .add 3 (.tmp 11) (.const (.int .i64 1)) 3, guard := none, .. }) (v := .int .i64 (IntKind.i64.wrap (z + 1))) rfl (by kernel_rfl) (by kernel_rfl) (by kernel_rfl) (fun _ _ _ h => h) (Or.inl ⟨by rfl, ?_⟩) hS0 ?_
   ·intro w hSw
    go_simp
   simp only [Act.put, sA, sB, sC]
   refine wpAnyH_take (i := 2) (oi := { dst := some 13, op := .move (.tmp 0), guard := none, .. }) (v := .slice (some ⟨g1, o1, none⟩) n c) rfl (by kernel_rfl) (by kernel_rfl) (by kernel_rfl) (fun _ _ _ h => h) (Or.inl ⟨by rfl, ?_⟩) hS0 ?_
   ·intro w hSw
    go_simp
   simp only [Act.put, sA, sB, sC]
   refine wpAnyH_take (i := 3) (oi := { dst := some 14, op := .move (.tmp 4), guard := none, .. }) (v := .int .i64 (i : Int)) rfl (by kernel_rfl) (by kernel_rfl) (by kernel_rfl) (fun _ _ _ h => h) (Or.inl ⟨by rfl, ?_⟩) hS0 ?_
   ·intro w hSw
    go_simp
   simp only [Act.put, sA, sB, sC]
   refine wpAnyH_take (i := 4) (oi := { dst := some 15, op := .indexAddr 57 (.tmp 13) (.tmp 14), guard := none, .. }) (v := .pointer (some ⟨g1, o1 + i * 9, none⟩)) rfl (by kernel_rfl) (by kernel_rfl) (by kernel_rfl) (fun _ _ _ h => h) (Or.inl ⟨by rfl, ?_⟩) hS0 ?_
   ·intro w hSw
    go_simp
   simp only [Act.put, sA, sB, sC]
   refine wpAnyH_take (i := 5) (oi := { dst := some 16, op := .fieldAddr 87 (.tmp 15) 2, guard := none, .. }) (v := .pointer (some ⟨g1, o1 + i * 9 + 2, none⟩)) rfl (by kernel_rfl) (by kernel_rfl) (by kernel_rfl) (fun _ _ _ h => h) (Or.inl ⟨by rfl, ?_⟩) hS0 ?_
   ·intro w hSw
    go_simp
   simp only [Act.put, sA, sB, sC]
   refine wpAnyH_take (i := 6) (oi := { dst := some 17, op := .load 34 (.tmp 16), guard := none, .. }) (v := .agg #[.int .u8 (op : Int), .int .u8 (t : Int), .int .u64 (b : Int), .string enm, .slice ea en ec]) rfl (by kernel_rfl) (by kernel_rfl) (by kernel_rfl) (fun _ _ _ h => h) (Or.inl ⟨by rfl, ?_⟩) hS0 ?_
   ·intro w hSw
    obtain ⟨-, -, z2, z3, z4, z5, z6, -, -⟩ := HE.out w hSw
    go_simp
   simp only [Act.put, sA, sB, sC]
   refine wpAnyH_take (i := 9) (oi := { dst := some 20, op := .move (.tmp 0), guard := none, .. }) (v := .slice (some ⟨g1, o1, none⟩) n c) rfl (by kernel_rfl) (by kernel_rfl) (by kernel_rfl) (fun _ _ _ h => h) (Or.inl ⟨by rfl, ?_⟩) hS0 ?_
   ·intro w hSw
    go_simp
   simp only [Act.put, sA, sB, sC]
   refine wpAnyH_take (i := 10) (oi := { dst := some 21, op := .move (.tmp 4), guard := none, .. }) (v := .int .i64 (i : Int)) rfl (by kernel_rfl) (by kernel_rfl) (by kernel_rfl) (fun _ _ _ h => h) (Or.inl ⟨by rfl, ?_⟩) hS0 ?_
   ·intro w hSw
    go_simp
   simp only [Act.put, sA, sB, sC]
   refine wpAnyH_take (i := 11) (oi := { dst := some 22, op := .indexAddr 57 (.tmp 20) (.tmp 21), guard := none, .. }) (v := .pointer (some ⟨g1, o1 + i * 9, none⟩)) rfl (by kernel_rfl) (by kernel_rfl) (by kernel_rfl) (fun _ _ _ h => h) (Or.inl ⟨by rfl, ?_⟩) hS0 ?_
   ·intro w hSw
    go_simp
   simp only [Act.put, sA, sB, sC]
   refine wpAnyH_take (i := 12) (oi := { dst := some 23, op := .fieldAddr 87 (.tmp 22) 3, guard := none, .. }) (v := .pointer (some ⟨g1, o1 + i * 9 + 7, none⟩)) rfl (by kernel_rfl) (by kernel_rfl) (by kernel_rfl) (fun _ _ _ h => h) (Or.inl ⟨by rfl, ?_⟩) hS0 ?_
   ·intro w hSw
    go_simp
   simp only [Act.put, sA, sB, sC]
   refine wpAnyH_take (i := 13) (oi := { dst := some 24, op := .load 57 (.tmp 23), guard := none, .. }) (v := .slice a1 n1 c1) rfl (by kernel_rfl) (by kernel_rfl) (by kernel_rfl) (fun _ _ _ h => h) (Or.inl ⟨by rfl, ?_⟩) hS0 ?_
   ·intro w hSw
    have z7 := (HE.out w hSw).2.2.2.2.2.2.2.1
    go_simp
   simp only [Act.put, sA, sB, sC]
   refine wpAnyH_take (i := 16) (oi := { dst := some 27, op := .move (.tmp 0), guard := none, .. }) (v := .slice (some ⟨g1, o1, none⟩) n c) rfl (by kernel_rfl) (by kernel_rfl) (by kernel_rfl) (fun _ _ _ h => h) (Or.inl ⟨by rfl, ?_⟩) hS0 ?_
   ·intro w hSw
    go_simp
   simp only [Act.put, sA, sB, sC]
   refine wpAnyH_take (i := 17) (oi := { dst := some 28, op := .move (.tmp 4), guard := none, .. }) (v := .int .i64 (i : Int)) rfl (by kernel_rfl) (by kernel_rfl) (by kernel_rfl) (fun _ _ _ h => h) (Or.inl ⟨by rfl, ?_⟩) hS0 ?_
   ·intro w hSw
    go_simp
   simp only [Act.put, sA, sB, sC]
   refine wpAnyH_take (i := 18) (oi := { dst := some 29, op := .indexAddr 57 (.tmp 27) (.tmp 28), guard := none, .. }) (v := .pointer (some ⟨g1, o1 + i * 9, none⟩)) rfl (by kernel_rfl) (by kernel_rfl) (by kernel_rfl) (fun _ _ _ h => h) (Or.inl ⟨by rfl, ?_⟩) hS0 ?_
   ·intro w hSw
    go_simp
   simp only [Act.put, sA, sB, sC]
   refine wpAnyH_take (i := 19) (oi := { dst := some 30, op := .fieldAddr 87 (.tmp 29) 4, guard := none, .. }) (v := .pointer (some ⟨g1, o1 + i * 9 + 8, none⟩)) rfl (by kernel_rfl) (by kernel_rfl) (by kernel_rfl) (fun _ _ _ h => h) (Or.inl ⟨by rfl, ?_⟩) hS0 ?_
   ·intro w hSw
    go_simp
   simp only [Act.put, sA, sB, sC]
   refine wpAnyH_take (i := 20) (oi := { dst := some 31, op := .load 57 (.tmp 30), guard := none, .. }) (v := .slice a2 n2 c2) rfl (by kernel_rfl) (by kernel_rfl) (by kernel_rfl) (fun _ _ _ h => h) (Or.inl ⟨by rfl, ?_⟩) hS0 ?_
   ·intro w hSw
    have z7 := (HE.out w hSw).2.2.2.2.2.2.2.2
    go_simp
   simp only [Act.put, sA, sB, sC]
   refine wpAnyH_ready (rs := [7]) (by kernel_rfl) (by simp) ?_
   refine AllReadyH.cons (o := { dst := some 18, op := .call { callee := .value (.func 7), args := #[.tmp 17], argTypes := #[34] }, guard := none, .. }) rfl (fun K hK => ?_) AllReadyH.nil
   rw [if_pos (by rfl)]
   go_wp2_with (go_at_call 7; refine (Q1.out _ hS0).mono ?_; rintro e x1 ⟨⟨y1, rfl⟩, hb1⟩)
   have hS1 := hS0.trans (hb1.mono hS0.size)
   refine hK.out _ _ hS1 (fun _ => ?_)
   refine wpAnyH_take (i := 8) (oi := { dst := some 19, op := .binOp .add 3 (.tmp 12) (.tmp 18) 3, guard := none, .. }) (v := .int .i64 (IntKind.i64.wrap (IntKind.i64.wrap (z + 1) + y1))) rfl (by kernel_rfl) (by kernel_rfl) (by kernel_rfl) (fun _ _ _ h => h) (Or.inl ⟨by rfl, ?_⟩) hS1 ?_
   ·intro w hSw
    go_simp
   simp only [Act.put, sA, sB, sC]
   refine wpAnyH_ready (rs := [14]) (by kernel_rfl) (by simp) ?_
   refine AllReadyH.cons (o := { dst := some 25, op := .call { callee := .value (.func 64), args := #[.tmp 24], argTypes := #[57] }, guard := none, .. }) rfl (fun K hK => ?_) AllReadyH.nil
   rw [if_pos (by rfl)]
   go_wp2_with (go_at_call 64; refine (Q2.out _ hS1).mono ?_; rintro e x2 ⟨⟨y2, rfl⟩, hb2⟩)
   have hS2 := hS1.trans (hb2.mono hS1.size)
   refine hK.out _ _ hS2 (fun _ => ?_)
   refine wpAnyH_take (i := 15) (oi := { dst := some 26, op := .binOp .add 3 (.tmp 19) (.tmp 25) 3, guard := none, .. }) (v := .int .i64 (IntKind.i64.wrap (IntKind.i64.wrap (IntKind.i64.wrap (z + 1) + y1) + y2))) rfl (by kernel_rfl) (by kernel_rfl) (by kernel_rfl) (fun _ _ _ h => h) (Or.inl ⟨by rfl, ?_⟩) hS2 ?_
   ·intro w hSw
    go_simp
   simp only [Act.put, sA, sB, sC]
   refine wpAnyH_ready (rs := [21]) (by kernel_rfl) (by simp) ?_
   refine AllReadyH.cons (o := { dst := some 32, op := .call { callee := .value (.func 64), args := #[.tmp 31], argTypes := #[57] }, guard := none, .. }) rfl (fun K hK => ?_) AllReadyH.nil
   rw [if_pos (by rfl)]
   go_wp2_with (go_at_call 64; refine (Q3.out _ hS2).mono ?_; rintro e x3 ⟨⟨y3, rfl⟩, hb3⟩)
   have hS3 := hS2.trans (hb3.mono hS2.size)
   refine hK.out _ _ hS3 (fun _ => ?_)
   refine wpAnyH_take (i := 22) (oi := { dst := some 33, op := .binOp .add 3 (.tmp 26) (.tmp 32) 3, guard := none, .. }) (v := .int .i64 (IntKind.i64.wrap (IntKind.i64.wrap (IntKind.i64.wrap (IntKind.i64.wrap (z + 1) + y1) + y2) + y3))) rfl (by kernel_rfl) (by kernel_rfl) (by kernel_rfl) (fun _ _ _ h => h) (Or.inl ⟨by rfl, ?_⟩) hS3 ?_
   ·intro w hSw
    go_simp
   simp only [Act.put, sA, sB, sC]
   refine wpAnyH_take (i := 23) (oi := { dst := some 3, op := .assign (.tmp 33), guard := none, .. }) (v := .int .i64 (IntKind.i64.wrap (IntKind.i64.wrap (IntKind.i64.wrap (IntKind.i64.wrap (z + 1) + y1) + y2) + y3))) rfl (by kernel_rfl) (by kernel_rfl) (by kernel_rfl) (fun _ _ _ h => h) (Or.inl ⟨by rfl, ?_⟩) hS3 ?_
   ·intro w hSw
    go_simp
   simp only [Act.put, sA, sB, sC]
   refine wpAnyH_done (by kernel_rfl) ?_ _
   have hw3 : Below w.heap.size w x3 := hbw.trans (hS3.mono hbw.size)
   go_wp2
   go_roundw
   case rel => exact ⟨i + 1, by go_num, by omega, ⟨_, rfl⟩, hw3⟩
   case measure => simp [intOf]; omega
  ·go_wp2
   go_ret
   exact ⟨⟨z, rfl⟩, hbw⟩

theorem weightStmts_any (B : Nat) (M : Nat) : ∀ x : ST, SizeOf.sizeOf x < M → WtSW B x := by
 induction M with
 | zero => intro x h; omega
 | succ M ih =>
  rintro ⟨k, nm, e, a1, c1, b1, a2, c2, b2⟩ hN
  exact ⟨weightStmts_of B b1 fun s hs => ih s (by have := ST.sz1 (k := k) (nm := nm) (e := e) (a1 := a1) (a2 := a2) (c1 := c1) (c2 := c2) (els := b2) hs; omega), weightStmts_of B b2 fun s hs => ih s (by have := ST.sz2 (k := k) (nm := nm) (e := e) (a1 := a1) (a2 := a2) (c1 := c1) (c2 := c2) (body := b1) hs; omega)⟩
theorem weightBlock_any (B : Nat) (l : List ST) : WtLW B l := weightStmts_of B l fun s _ => weightStmts_any B _ s (Nat.lt_succ_self _)

set_option maxRecDepth 100000 in
set_option maxHeartbeats 6400000 in
theorem weightProgram_at (B : Nat) (a1_ : Option Addr) (n1_ c1_ : Nat) (a2_ : Option Addr) (n2_ c2_ : Nat) (a3 : Option Addr) (c3 : Nat) (xs : List TT) (w : World) (h1 : RowT B w a3 c3 xs) (hl : n1_ ≤ 1048576) (hl2 : n2_ ≤ 1048576) (hBw : B ≤ w.heap.size) :
  Calls Tryz.prog 27 #[.agg [.slice a1_ n1_ c1_, .slice a2_ n2_ c2_, .slice a3 xs.length c3].toArray] w fun r w' => IsI r ∧ Below w.heap.size w w' := by
 obtain ⟨n, hn⟩ : ∃ n, Hid (n = xs.length) := ⟨_, (rfl : xs.length = _)⟩
 have hl1 := h1.1
 have hk1 := h1.2.1
 rw [← hn.out] at hl1 hk1 ⊢
 have HR : Hid (RowT B w a3 c3 xs) := h1
 clear h1
 go_enter Tryz.func27, Tryz.ntmps27
 go_wp2_with (first
  | ((with_reducible show wpList _ _ _ _ _ _); refine wpList_box_at rfl 26 (.tmp 0) rfl [.slice a1_ n1_ c1_, .slice a2_ n2_ c2_, .slice a3 n c3] rfl ?_; intro w1 hA1 hb1 hs1; clear hs1; refine Hid.out ?_))
 refine hidU ?_
 obtain ⟨q0, q1, q2⟩ := pg_cells hA1
 have HA : Hid (At 26 w1 w.heap.size [.slice a1_ n1_ c1_, .slice a2_ n2_ c2_, .slice a3 n c3]) := hA1
 clear hA1
 go_wp2_with fail
 clear q0 q1 q2
 go_loopw [3, 4] (fun u j wr => ∃ i : Nat, j = .int .i64 (i : Int) ∧ i ≤ n ∧ Hid ((∃ z : Int, u = .int .i64 z) ∧ Below w1.heap.size w1 wr)) (fun u j _ => n - (intOf j).toNat)
 case atStart => exact ⟨0, rfl, by omega, ⟨_, rfl⟩, Below.refl _ _⟩
 case round =>
  obtain ⟨i, rfl, hi, hX⟩ := hrel
  obtain ⟨⟨z, rfl⟩, hbr⟩ := hX.out
  have hwr : Below w.heap.size w wr := hb1.trans (hbr.mono hb1.size)
  obtain ⟨-, -, q2⟩ := pg_cells (HA.out.below hbr)
  by_cases hc : i < n
  ·obtain ⟨x, hx⟩ : ∃ k, xs[i]? = some k := ⟨xs[i]'(by rw [← hn.out]; exact hc), by rw [List.getElem?_eq_getElem]⟩
   have hold : Old B w wr := Old.of_below hwr hBw
   obtain ⟨g1, o1, rfl, hg1, hr1, hx1⟩ := (HR.out.old hold).at i x hx
   obtain ⟨nm, a1, c1, ls, a2, c2, bs⟩ := x
   have hsz : B ≤ wr.heap.size := by have := hwr.size; omega
   have k1 : ∀ w', Below wr.heap.size wr w' → Calls Tryz.prog 64 #[.slice a2 bs.length c2] w' fun r w'' => IsI r ∧ Below w'.heap.size w' w'' := fun w' h => weightBlock_any B bs a2 c2 w' (hx1.2.old (Old.of_below h hsz)) (by have := h.size; omega)
   have hls : ls.length ≤ 1048576 := hx1.1.1
   simp only [TT.cells] at hr1
   generalize ls.length = n1 at hr1 hls
   generalize bs.length = n2 at k1 hr1
   have HE : Hid (∀ w', Below wr.heap.size wr w' → w'.cell? ⟨g1, o1 + i * 3 + 1, none⟩ = some (.slice a1 n1 c1) ∧ w'.cell? ⟨g1, o1 + i * 3 + 2, none⟩ = some (.slice a2 n2 c2)) := fun w' h => (th_mid ((Old.of_below (B := B) h hsz).range hg1 hr1)).2
   have HB : Hid (∀ w', Below wr.heap.size wr w' → w'.cell? ⟨w.heap.size, 2, none⟩ = some (.slice (some ⟨g1, o1, none⟩) n c3)) := fun w' h => (pg_cells ((HA.out.below hbr).below h)).2.2
   have Q1 : Hid _ := k1
   have hS0 : Below wr.heap.size wr wr.drew := Below.drew (Below.refl _ _)
   clear hX hx hold hr1 hx1 k1 HR HA
   go_wp2_with fail
   refine wp_region_held_drew (S := fun x => Below wr.heap.size wr x) (by kernel_rfl) hS0 (fun _ => ?_)
   refine wpAnyH_take (i := 0) (oi := { dst := some 19, op := .move (.tmp 3), guard := none, .. }) (v := .int .i64 z) rfl (by kernel_rfl) (by kernel_rfl) (by kernel_rfl) (fun _ _ _ h => h) (Or.inl ⟨by rfl, ?_⟩) hS0 ?_
   ·intro w hSw
    go_simp
   simp only [Act.put, sA, sB, sC]
   refine wpAnyH_take (i := 1) (oi := { dst := some 20, op := .binOp .add 3 (.tmp 19) (.const (.int .i64 1)) 3, guard := none, .. }) (v := .int .i64 (IntKind.i64.wrap (z + 1))) rfl (by kernel_rfl) (by kernel_rfl) (by kernel_rfl) (fun _ _ _ h => h) (Or.inl ⟨by rfl, ?_⟩) hS0 ?_
   ·intro w hSw
    go_simp
   simp only [Act.put, sA, sB, sC]
   refine wpAnyH_take (i := 2) (oi := { dst := some 21, op := .fieldAddr 26 (.tmp 1) 2, guard := none, .. }) (v := .pointer (some ⟨w.heap.size, 2, none⟩)) rfl (by kernel_rfl) (by kernel_rfl) (by kernel_rfl) (fun _ _ _ h => h) (Or.inl ⟨by rfl, ?_⟩) hS0 ?_
   ·intro w hSw
    go_simp
   simp only [Act.put, sA, sB, sC]
   refine wpAnyH_take (i := 3) (oi := { dst := some 22, op := .load 24 (.tmp 21), guard := none, .. }) (v := .slice (some ⟨g1, o1, none⟩) n c3) rfl (by kernel_rfl) (by kernel_rfl) (by kernel_rfl) (fun _ _ _ h => h) (Or.inl ⟨by rfl, ?_⟩) hS0 ?_
   ·intro w hSw
    have z1 := HB.out w hSw
    go_simp
   simp only [Act.put, sA, sB, sC]
   refine wpAnyH_take (i := 4) (oi := { dst := some 23, op := .move (.tmp 4), guard := none, .. }) (v := .int .i64 (i : Int)) rfl (by kernel_rfl) (by kernel_rfl) (by kernel_rfl) (fun _ _ _ h => h) (Or.inl ⟨by rfl, ?_⟩) hS0 ?_
   ·intro w hSw
    go_simp
   simp only [Act.put, sA, sB, sC]
   refine wpAnyH_take (i := 5) (oi := { dst := some 24, op := .indexAddr 24 (.tmp 22) (.tmp 23), guard := none, .. }) (v := .pointer (some ⟨g1, o1 + i * 3, none⟩)) rfl (by kernel_rfl) (by kernel_rfl) (by kernel_rfl) (fun _ _ _ h => h) (Or.inl ⟨by rfl, ?_⟩) hS0 ?_
   ·intro w hSw
    go_simp
   simp only [Act.put, sA, sB, sC]
   refine wpAnyH_take (i := 6) (oi := { dst := some 25, op := .fieldAddr 59 (.tmp 24) 1, guard := none, .. }) (v := .pointer (some ⟨g1, o1 + i * 3 + 1, none⟩)) rfl (by kernel_rfl) (by kernel_rfl) (by kernel_rfl) (fun _ _ _ h => h) (Or.inl ⟨by rfl, ?_⟩) hS0 ?_
   ·intro w hSw
    go_simp
   simp only [Act.put, sA, sB, sC]
   refine wpAnyH_take (i := 7) (oi := { dst := some 26, op := .load 22 (.tmp 25), guard := none, .. }) (v := .slice a1 n1 c1) rfl (by kernel_rfl) (by kernel_rfl) (by kernel_rfl) (fun _ _ _ h => h) (Or.inl ⟨by rfl, ?_⟩) hS0 ?_
   ·intro w hSw
    have z1 := (HE.out w hSw).1
    go_simp
   simp only [Act.put, sA, sB, sC]
   refine wpAnyH_take (i := 8) (oi := { dst := some 27, op := .call { callee := .builtin .len, args := #[.tmp 26], argTypes := #[22] }, guard := none, .. }) (v := .int .i64 (n1 : Int)) rfl (by kernel_rfl) (by kernel_rfl) (by kernel_rfl) (fun _ _ _ h => h) (Or.inl ⟨by rfl, ?_⟩) hS0 ?_
   ·intro w hSw
    go_simp
   simp only [Act.put, sA, sB, sC]
   refine wpAnyH_take (i := 9) (oi := { dst := some 28, op := .binOp .add 3 (.tmp 20) (.tmp 27) 3, guard := none, .. }) (v := .int .i64 (IntKind.i64.wrap (IntKind.i64.wrap (z + 1) + (n1 : Int)))) rfl (by kernel_rfl) (by kernel_rfl) (by kernel_rfl) (fun _ _ _ h => h) (Or.inl ⟨by rfl, ?_⟩) hS0 ?_
   ·intro w hSw
    go_simp
   simp only [Act.put, sA, sB, sC]
   refine wpAnyH_take (i := 10) (oi := { dst := some 29, op := .fieldAddr 26 (.tmp 1) 2, guard := none, .. }) (v := .pointer (some ⟨w.heap.size, 2, none⟩)) rfl (by kernel_rfl) (by kernel_rfl) (by kernel_rfl) (fun _ _ _ h => h) (Or.inl ⟨by rfl, ?_⟩) hS0 ?_
   ·intro w hSw
    go_simp
   simp only [Act.put, sA, sB, sC]
   refine wpAnyH_take (i := 11) (oi := { dst := some 30, op := .load 24 (.tmp 29), guard := none, .. }) (v := .slice (some ⟨g1, o1, none⟩) n c3) rfl (by kernel_rfl) (by kernel_rfl) (by kernel_rfl) (fun _ _ _ h => h) (Or.inl ⟨by rfl, ?_⟩) hS0 ?_
   ·intro w hSw
    have z1 := HB.out w hSw
    go_simp
   simp only [Act.put, sA, sB, sC]
   refine wpAnyH_take (i := 12) (oi := { dst := some 31, op := .move (.tmp 4), guard := none, .. }) (v := .int .i64 (i : Int)) rfl (by kernel_rfl) (by kernel_rfl) (by kernel_rfl) (fun _ _ _ h => h) (Or.inl ⟨by rfl, ?_⟩) hS0 ?_
   ·intro w hSw
    go_simp
   simp only [Act.put, sA, sB, sC]
   refine wpAnyH_take (i := 13) (oi := { dst := some 32, op := .indexAddr 24 (.tmp 30) (.tmp 31), guard := none, .. }) (v := .pointer (some ⟨g1, o1 + i * 3, none⟩)) rfl (by kernel_rfl) (by kernel_rfl) (by kernel_rfl) (fun _ _ _ h => h) (Or.inl ⟨by rfl, ?_⟩) hS0 ?_
   ·intro w hSw
    go_simp
   simp only [Act.put, sA, sB, sC]
   refine wpAnyH_take (i := 14) (oi := { dst := some 33, op := .fieldAddr 59 (.tmp 32) 2, guard := none, .. }) (v := .pointer (some ⟨g1, o1 + i * 3 + 2, none⟩)) rfl (by kernel_rfl) (by kernel_rfl) (by kernel_rfl) (fun _ _ _ h => h) (Or.inl ⟨by rfl, ?_⟩) hS0 ?_
   ·intro w hSw
    go_simp
   simp only [Act.put, sA, sB, sC]
   refine wpAnyH_take (i := 15) (oi := { dst := some 34, op := .load 57 (.tmp 33), guard := none, .. }) (v := .slice a2 n2 c2) rfl (by kernel_rfl) (by kernel_rfl) (by kernel_rfl) (fun _ _ _ h => h) (Or.inl ⟨by rfl, ?_⟩) hS0 ?_
   ·intro w hSw
    have z1 := (HE.out w hSw).2
    go_simp
   simp only [Act.put, sA, sB, sC]
   refine wpAnyH_ready (rs := [16]) (by kernel_rfl) (by simp) ?_
   refine AllReadyH.cons (o := { dst := some 35, op := .call { callee := .value (.func 64), args := #[.tmp 34], argTypes := #[57] }, guard := none, .. }) rfl (fun K hK => ?_) AllReadyH.nil
   rw [if_pos (by rfl)]
   go_wp2_with (go_at_call 64; refine (Q1.out _ hS0).mono ?_; rintro e x1 ⟨⟨y1, rfl⟩, hb1⟩)
   have hS1 := hS0.trans (hb1.mono hS0.size)
   refine hK.out _ _ hS1 (fun _ => ?_)
   refine wpAnyH_take (i := 17) (oi := { dst := some 36, op := .binOp .add 3 (.tmp 28) (.tmp 35) 3, guard := none, .. }) (v := .int .i64 (IntKind.i64.wrap (IntKind.i64.wrap (IntKind.i64.wrap (z + 1) + (n1 : Int)) + y1))) rfl (by kernel_rfl) (by kernel_rfl) (by kernel_rfl) (fun _ _ _ h => h) (Or.inl ⟨by rfl, ?_⟩) hS1 ?_
   ·intro w hSw
    go_simp
   simp only [Act.put, sA, sB, sC]
   refine wpAnyH_take (i := 18) (oi := { dst := some 3, op := .assign (.tmp 36), guard := none, .. }) (v := .int .i64 (IntKind.i64.wrap (IntKind.i64.wrap (IntKind.i64.wrap (z + 1) + (n1 : Int)) + y1))) rfl (by kernel_rfl) (by kernel_rfl) (by kernel_rfl) (fun _ _ _ h => h) (Or.inl ⟨by rfl, ?_⟩) hS1 ?_
   ·intro w hSw
    go_simp
   simp only [Act.put, sA, sB, sC]
   refine wpAnyH_done (by kernel_rfl) ?_ _
   have hw3 : Below w1.heap.size w1 x1 := hbr.trans (hS1.mono hbr.size)
   go_wp2
   go_roundw
   case rel => exact ⟨i + 1, by go_num, by omega, ⟨_, rfl⟩, hw3⟩
   case measure => simp [intOf]; omega
  ·go_wp2
   go_ret
   exact ⟨⟨z, rfl⟩, hwr⟩

theorem weightProgram_any (B : Nat) (p : PT) (w : World) (h : p.In B w) (hBw : B ≤ w.heap.size) : Calls Tryz.prog 27 #[.agg p.cells.toArray] w fun r w' => IsI r ∧ Below w.heap.size w w' :=
 weightProgram_at B p.a1 p.shared.length p.c1 p.a2 p.mutexes.length p.c2 p.a3 p.c3 p.threads w h.2.2 h.1.1 h.2.1.1 hBw

end Go.Proofs.YtcmahiphfpgadaaGreatDoor
