/- Joined texts of the proof. -/
import Derived.Test.YtjgggmjjikopeaaGreatDoorJ25
import Derived.Deep.Slices
import Derived.Test.YtjgggmjjikopeaaGreatDoorJ49
import Derived.Lib.ItoaLen
import Derived.Test.YtjgggmjjikopeaaGreatDoorJ39

/- The document's own comparison of programs. -/
namespace Go.Proofs.YtjgggmjjikopeaaGreatDoor
open Go.RowKit
set_option linter.unusedVariables false

theorem But.setCells5 {g : Nat} {a : World} : ∀ (vs : List Value) (o : Nat) (w : World), But g a w → But g a (w.setCells g o vs)
  | [], o, w, h => h
  | v :: vs, o, w, h => But.setCells5 vs (o + 1) _ (h.setCell o v)
theorem size_setCells5 (g : Nat) : ∀ (vs : List Value) (o : Nat) (w : World), (w.setCells g o vs).heap.size = w.heap.size
  | [], o, w => rfl
  | v :: vs, o, w => by
    show ((w.setCell ⟨g, o, none⟩ v).setCells g (o + 1) vs).heap.size = _
    rw [size_setCells5]
    simp
def setAll5 : List Value → Nat → List Value → List Value
  | old, _, [] => old
  | old, o, v :: vs => setAll5 (old.set o v) (o + 1) vs
theorem At.setCells5 {t : TypeId} {g : Nat} : ∀ (vs : List Value) (o : Nat) (old : List Value) (w : World), At t w g old → At t (w.setCells g o vs) g (setAll5 old o vs)
  | [], o, old, w, h => h
  | v :: vs, o, old, w, h => At.setCells5 vs (o + 1) _ _ (h.set o v)
theorem th_cells5 {w : World} {g : Nat} {nm : ByteArray} {s1 s2 : Value} (h : At 53 w g [.string nm, s1, s2]) : w.cell? ⟨g, 0, none⟩ = some (.string nm) ∧ w.cell? ⟨g, 1, none⟩ = some s1 ∧ w.cell? ⟨g, 2, none⟩ = some s2 := by
  refine ⟨?_, ?_, ?_⟩ <;> (rw [h.cell]; rfl)

theorem one59 (nm : ByteArray) (a1 : Option Addr) (n1 c1 : Nat) (a2 : Option Addr) (n2 c2 : Nat) : ∀ v ∈ [Value.string nm, .slice a1 n1 c1, .slice a2 n2 c2], v.oneCell' = true := by
  intro v hv
  simp at hv
  rcases hv with rfl | rfl | rfl <;> rfl
theorem wp_alloc_at5 {P : Program} {o : Oper} {a : Act} {w : World} {K : Act → World → Prop} {Q : Exit → Act → World → Prop} (t : TypeId) (ho : o.op = .alloc t) (cs : List Value) (n : Nat) (hz : (P.info? t).map (fun i => (i.zero, i.size)) = some (some (.agg cs.toArray), n))
    (h : ∀ w', At t w' w.heap.size cs → Below w.heap.size w w' → w'.heap.size = w.heap.size + 1 → K (a.put o.dst (.pointer (some ⟨w.heap.size, 0, none⟩))) w') : o.wp P a w K Q := by
  have := h (w.alloc (.cells cs.toArray t)) (_root_.Go.heap_alloc_new w _) ((Below.refl _ w).alloc (Nat.le_refl _) _) (by show (w.heap.push _).size = _; simp)
  have h0 := (zero_of_info hz).1
  unfold Oper.wp execOp
  simp only [ho, Instr.alloc, Sem.run_bind, h0]
  simpa [newVar, go_sem, Value.cells] using this

theorem th_mid {w : World} {g o : Nat} {nm : ByteArray} {s1 s2 : Value} (h : w.rangeAt g o [.string nm, s1, s2]) : w.cell? ⟨g, o, none⟩ = some (.string nm) ∧ w.cell? ⟨g, o + 1, none⟩ = some s1 ∧ w.cell? ⟨g, o + 2, none⟩ = some s2 := ⟨h 0 _ rfl, h 1 _ rfl, h 2 _ rfl⟩

theorem kitStmts_any (B : Nat) (M : Nat) : ∀ x : ST, SizeOf.sizeOf x < M → KitSW B x := by
  induction M with
  | zero => intro x h; omega
  | succ M ih =>
    rintro ⟨k, nm, e, a1, c1, b1, a2, c2, b2⟩ hN
    exact ⟨kitStmts_of B b1 fun s hs => ih s (by have := ST.sz1 (k := k) (nm := nm) (e := e) (a1 := a1) (a2 := a2) (c1 := c1) (c2 := c2) (els := b2) hs; omega), kitStmts_of B b2 fun s hs => ih s (by have := ST.sz2 (k := k) (nm := nm) (e := e) (a1 := a1) (a2 := a2) (c1 := c1) (c2 := c2) (body := b1) hs; omega)⟩
theorem kitBlock_any (B : Nat) (l : List ST) : KitLW B l := kitStmts_of B l fun s _ => kitStmts_any B _ s (Nat.lt_succ_self _)

set_option maxRecDepth 100000 in
set_option maxHeartbeats 12800000 in
theorem kitThreads_at (B : Nat) (s1 s2 s1' s2' : Value) (a3_ a3_' : Option Addr) (cc1 cc2 : Nat) (xs ys : List TT) (p1 p2_ : Bool) (w : World) (h1 : AskB w 31 #[s1, s1'] p1) (h2 : AskB w 32 #[s2, s2'] p2_) (hx : RowT B w a3_ cc1 xs) (hy : RowT B w a3_' cc2 ys) (hBw : B ≤ w.heap.size) :
    Calls Tryz.prog 10 #[.agg [s1, s2, .slice a3_ xs.length cc1].toArray, .agg [s1', s2', .slice a3_' ys.length cc2].toArray] w fun r w' => r = .returned (.bool (p1 && (p2_ && eqL samT (xs.map TT.th) (ys.map TT.th)))) ∧ Below w.heap.size w w' := by
  obtain ⟨R, hR⟩ : ∃ R, Hid (R = (p1 && (p2_ && eqL samT (xs.map TT.th) (ys.map TT.th)))) := ⟨_, (rfl : _ = (p1 && (p2_ && eqL samT _ _)))⟩
  rw [← hR.out]
  have H1 : Hid (AskB w 31 #[s1, s1'] p1) := h1
  have H2 : Hid (AskB w 32 #[s2, s2'] p2_) := h2
  obtain ⟨n, hn⟩ : ∃ n, Hid (n = xs.length) := ⟨_, (rfl : xs.length = _)⟩
  obtain ⟨n', hn'⟩ : ∃ n, Hid (n = ys.length) := ⟨_, (rfl : ys.length = _)⟩
  have hl1 := hx.1
  have hl2 := hy.1
  have hk1 := hx.2.1
  have hk2 := hy.2.1
  rw [← hn.out] at hl1 hk1 ⊢
  rw [← hn'.out] at hl2 hk2 ⊢
  have HR : Hid (RowT B w a3_ cc1 xs ∧ RowT B w a3_' cc2 ys) := ⟨hx, hy⟩
  clear h1 h2 hx hy
  go_enter Tryz.func10, Tryz.ntmps10
  go_wp2_with (first
    | ((with_reducible show wpList _ _ _ _ _ _); refine wpList_box_at rfl 26 (.tmp 0) rfl [s1, s2, .slice a3_ n cc1] rfl ?_; intro w1 hA1 hb1 hs1; clear hs1)
    | ((with_reducible show wpList _ _ _ _ _ _); refine wpList_box_at rfl 26 (.tmp 1) rfl [s1', s2', .slice a3_' n' cc2] rfl ?_; intro w2_ hA2 hb2 hs2; clear hs2; refine Hid.out ?_))
  refine hidU ?_
  have hA12 := hA1.below hb2
  have hbw_ : Below w.heap.size w w2_ := hb1.trans (hb2.mono hb1.size)
  have hl12 : w1.heap.size < w2_.heap.size := hA2.lt
  clear hA1 hb1 hb2
  obtain ⟨q0, q1, q2⟩ := pg_cells hA12
  obtain ⟨u0, u1, u2⟩ := pg_cells hA2
  go_wp2_with fail
  refine (H1.out _ hbw_).mono ?_
  rintro r w3_ ⟨rfl, hb3⟩
  have hA3 := hA12.below hb3
  have hA3' := hA2.below hb3
  have hw3 := hbw_.trans (hb3.mono hbw_.size)
  have hl13 : w1.heap.size < w3_.heap.size := hA3'.lt
  clear hA12 hA2 hbw_ hb3 q0 q1 q2 u0 u1 u2 hl12
  obtain ⟨q0, q1, q2⟩ := pg_cells hA3
  obtain ⟨u0, u1, u2⟩ := pg_cells hA3'
  cases p1 with
  | false =>
    go_wp2_with fail
    go_ret
    exact ⟨by rw [hR.out]; rfl, hw3⟩
  | true =>
    go_wp2_with fail
    refine (H2.out _ hw3).mono ?_
    rintro r w2 ⟨rfl, hb4⟩
    have hA4 := hA3.below hb4
    have hA4' := hA3'.below hb4
    have hbw := hw3.trans (hb4.mono hw3.size)
    have hl14 : w1.heap.size < w2.heap.size := hA4'.lt
    clear hA3 hA3' hw3 hb4 q0 q1 q2 u0 u1 u2 hl13
    obtain ⟨q0, q1, q2⟩ := pg_cells hA4
    obtain ⟨u0, u1, u2⟩ := pg_cells hA4'
    cases p2_ with
    | false =>
      go_wp2_with fail
      go_ret
      exact ⟨by rw [hR.out]; rfl, hbw⟩
    | true =>
      rw [Bool.true_and, Bool.true_and] at hR
      by_cases hnn : n = n'
      · subst hnn
        have HBX : Hid (At 26 w2 w.heap.size [s1, s2, .slice a3_ n cc1] ∧ At 26 w2 w1.heap.size [s1', s2', .slice a3_' n cc2]) := ⟨hA4, hA4'⟩
        clear hA4 hA4'
        go_wp2_with fail
        clear q0 q1 q2 u0 u1 u2
        go_loopw [5] (fun j wr => ∃ i : Nat, j = .int .i64 (i : Int) ∧ i ≤ n ∧ Hid (Below w2.heap.size w2 wr ∧ ∀ (q : Nat) (x y : Th), q < i → (xs.map TT.th)[q]? = some x → (ys.map TT.th)[q]? = some y → samT x y = true)) (fun j _ => n - (intOf j).toNat)
        case atStart => exact ⟨0, rfl, by omega, Below.refl _ _, fun q x y hq => by omega⟩
        case round =>
          obtain ⟨i, rfl, hi, hX⟩ := hrel
          obtain ⟨hb2r, hall⟩ := hX.out
          obtain ⟨-, -, q2⟩ := pg_cells (HBX.out.1.below hb2r)
          obtain ⟨-, -, u2⟩ := pg_cells (HBX.out.2.below hb2r)
          have hwr : Below w.heap.size w wr := hbw.trans (hb2r.mono hbw.size)
          by_cases hc : i < n
          · obtain ⟨x, hx⟩ : ∃ k, xs[i]? = some k := ⟨xs[i]'(by rw [← hn.out]; exact hc), by rw [List.getElem?_eq_getElem]⟩
            obtain ⟨y, hy⟩ : ∃ k, ys[i]? = some k := ⟨ys[i]'(by rw [← hn'.out]; exact hc), by rw [List.getElem?_eq_getElem]⟩
            have hold : Old B w wr := Old.of_below hwr hBw
            obtain ⟨g1, o1, rfl, hg1, hr1, hx1⟩ := (HR.out.1.old hold).at i x hx
            obtain ⟨g2, o2, rfl, hg2, hr2, hy1⟩ := (HR.out.2.old hold).at i y hy
            have HX : Hid ((xs.map TT.th)[i]? = some x.th ∧ (ys.map TT.th)[i]? = some y.th) := ⟨by rw [List.getElem?_map, hx]; rfl, by rw [List.getElem?_map, hy]; rfl⟩
            have HA : Hid (∀ (q : Nat) (x y : Th), q < i → (xs.map TT.th)[q]? = some x → (ys.map TT.th)[q]? = some y → samT x y = true) := hall
            obtain ⟨Z, hZ⟩ : ∃ Z, Hid (Z = samT x.th y.th) := ⟨_, (rfl : _ = samT _ _)⟩
            have hRf : Hid (Z = false → R = false) := fun hz => by
              rw [hR.out, Bool.eq_false_iff]
              intro h
              have := ((eqL_iff _ _ _).1 h).2 i _ _ HX.out.1 HX.out.2
              rw [← hZ.out, hz] at this
              cases this
            have hZS : Hid (Z = samT x.th y.th) := hZ.out
            obtain ⟨nm, a1, c1, ls, a2, c2, bs⟩ := x
            obtain ⟨nm', a1', c1', ls', a2', c2', bs'⟩ := y
            have hZ2 : Hid (Z = (decide (nm.data.toList = nm'.data.toList) && (eqL samV (ls.map VT.vr) (ls'.map VT.vr) && samSL (bs.map ST.st) (bs'.map ST.st)))) := hZ.out
            have hsz : B ≤ wr.heap.size := by have := hwr.size; omega
            have k2 : AskB wr 31 #[.slice a1 ls.length c1, .slice a1' ls'.length c1'] (eqL samV (ls.map VT.vr) (ls'.map VT.vr)) := fun w' h => kitV_any B ls ls' a1 a1' c1 c1' w' (hx1.1.old (Old.of_below h hsz)) (hy1.1.old (Old.of_below h hsz)) (by have := h.size; omega)
            have k3 : AskB wr 33 #[.slice a2 bs.length c2, .slice a2' bs'.length c2'] (samSL (bs.map ST.st) (bs'.map ST.st)) := fun w' h => kitBlock_any B bs bs' a2 a2' c2 c2' w' (hx1.2.old (Old.of_below h hsz)) (hy1.2.old (Old.of_below h hsz)) (by have := h.size; omega)
            generalize eqL samV (ls.map VT.vr) (ls'.map VT.vr) = p2 at k2 hZ2
            generalize samSL (bs.map ST.st) (bs'.map ST.st) = p3 at k3 hZ2
            simp only [TT.cells] at hr1 hr2
            generalize ls.length = n1 at k2 hr1
            generalize ls'.length = n1' at k2 hr2
            generalize bs.length = n2 at k3 hr1
            generalize bs'.length = n2' at k3 hr2
            have HE : Hid (∀ w', Below wr.heap.size wr w' → (w'.cell? ⟨g1, o1 + i * 3, none⟩ = some (.string nm) ∧ w'.cell? ⟨g1, o1 + i * 3 + 1, none⟩ = some (.slice a1 n1 c1) ∧ w'.cell? ⟨g1, o1 + i * 3 + 2, none⟩ = some (.slice a2 n2 c2)) ∧ (w'.cell? ⟨g2, o2 + i * 3, none⟩ = some (.string nm') ∧ w'.cell? ⟨g2, o2 + i * 3 + 1, none⟩ = some (.slice a1' n1' c1') ∧ w'.cell? ⟨g2, o2 + i * 3 + 2, none⟩ = some (.slice a2' n2' c2'))) := fun w' h => ⟨th_mid ((Old.of_below (B := B) h hsz).range hg1 hr1), th_mid ((Old.of_below (B := B) h hsz).range hg2 hr2)⟩
            have HB : Hid (∀ w', Below wr.heap.size wr w' → w'.cell? ⟨w.heap.size, 2, none⟩ = some (.slice (some ⟨g1, o1, none⟩) n cc1) ∧ w'.cell? ⟨w1.heap.size, 2, none⟩ = some (.slice (some ⟨g2, o2, none⟩) n cc2)) := fun w' h => ⟨(pg_cells ((HBX.out.1.below hb2r).below h)).2.2, (pg_cells ((HBX.out.2.below hb2r).below h)).2.2⟩
            have Q2 : Hid (AskB wr 31 #[.slice a1 n1 c1, .slice a1' n1' c1'] p2) := k2
            have Q3 : Hid (AskB wr 33 #[.slice a2 n2 c2, .slice a2' n2' c2'] p3) := k3
            have hS0 : Below wr.heap.size wr wr.drew := Below.drew (Below.refl _ _)
            clear hX hall hx hy hold hr1 hr2 hx1 hy1 k2 k3 HR hZ HBX
            go_wp2_with fail
            refine wp_region_held_drew (S := fun x => Below wr.heap.size wr x) (by kernel_rfl) hS0 (fun _ => ?_)
            refine wpAnyH_take (i := 0) (oi := { dst := some 38, op := .fieldAddr 26 (.tmp 2) 2, type := _, pos := _, after := _, guard := none }) (v := .pointer (some ⟨w.heap.size, 2, none⟩)) rfl (by kernel_rfl) (by kernel_rfl) (by kernel_rfl) (fun _ _ _ h => h) (Or.inl ⟨by rfl, ?_⟩) hS0 ?_
            · intro w hSw
              go_simp
            simp only [Act.put, List.setIfInBounds_toArray, List.set_cons_zero, List.set_cons_succ]
            refine wpAnyH_take (i := 1) (oi := { dst := some 39, op := .load 24 (.tmp 38), type := _, pos := _, after := _, guard := none }) (v := .slice (some ⟨g1, o1, none⟩) n cc1) rfl (by kernel_rfl) (by kernel_rfl) (by kernel_rfl) (fun _ _ _ h => h) (Or.inl ⟨by rfl, ?_⟩) hS0 ?_
            · intro w hSw
              have z := (HB.out w hSw).1
              go_simp
            simp only [Act.put, List.setIfInBounds_toArray, List.set_cons_zero, List.set_cons_succ]
            refine wpAnyH_take (i := 2) (oi := { dst := some 40, op := .move (.tmp 5), type := _, pos := _, after := _, guard := none }) (v := .int .i64 (i : Int)) rfl (by kernel_rfl) (by kernel_rfl) (by kernel_rfl) (fun _ _ _ h => h) (Or.inl ⟨by rfl, ?_⟩) hS0 ?_
            · intro w hSw
              go_simp
            simp only [Act.put, List.setIfInBounds_toArray, List.set_cons_zero, List.set_cons_succ]
            refine wpAnyH_take (i := 3) (oi := { dst := some 41, op := .indexAddr 24 (.tmp 39) (.tmp 40), type := _, pos := _, after := _, guard := none }) (v := .pointer (some ⟨g1, o1 + i * 3, none⟩)) rfl (by kernel_rfl) (by kernel_rfl) (by kernel_rfl) (fun _ _ _ h => h) (Or.inl ⟨by rfl, ?_⟩) hS0 ?_
            · intro w hSw
              go_simp
            simp only [Act.put, List.setIfInBounds_toArray, List.set_cons_zero, List.set_cons_succ]
            refine wpAnyH_take (i := 4) (oi := { dst := some 42, op := .load 53 (.tmp 41), type := _, pos := _, after := _, guard := none }) (v := .agg #[.string nm, .slice a1 n1 c1, .slice a2 n2 c2]) rfl (by kernel_rfl) (by kernel_rfl) (by kernel_rfl) (fun _ _ _ h => h) (Or.inl ⟨by rfl, ?_⟩) hS0 ?_
            · intro w hSw
              obtain ⟨z0, z1, z2⟩ := (HE.out w hSw).1
              go_simp
            simp only [Act.put, List.setIfInBounds_toArray, List.set_cons_zero, List.set_cons_succ]
            refine wpAnyH_take (i := 5) (oi := { dst := some 43, op := .fieldAddr 26 (.tmp 3) 2, type := _, pos := _, after := _, guard := none }) (v := .pointer (some ⟨w1.heap.size, 2, none⟩)) rfl (by kernel_rfl) (by kernel_rfl) (by kernel_rfl) (fun _ _ _ h => h) (Or.inl ⟨by rfl, ?_⟩) hS0 ?_
            · intro w hSw
              go_simp
            simp only [Act.put, List.setIfInBounds_toArray, List.set_cons_zero, List.set_cons_succ]
            refine wpAnyH_take (i := 6) (oi := { dst := some 44, op := .load 24 (.tmp 43), type := _, pos := _, after := _, guard := none }) (v := .slice (some ⟨g2, o2, none⟩) n cc2) rfl (by kernel_rfl) (by kernel_rfl) (by kernel_rfl) (fun _ _ _ h => h) (Or.inl ⟨by rfl, ?_⟩) hS0 ?_
            · intro w hSw
              have z := (HB.out w hSw).2
              go_simp
            simp only [Act.put, List.setIfInBounds_toArray, List.set_cons_zero, List.set_cons_succ]
            refine wpAnyH_take (i := 7) (oi := { dst := some 45, op := .move (.tmp 5), type := _, pos := _, after := _, guard := none }) (v := .int .i64 (i : Int)) rfl (by kernel_rfl) (by kernel_rfl) (by kernel_rfl) (fun _ _ _ h => h) (Or.inl ⟨by rfl, ?_⟩) hS0 ?_
            · intro w hSw
              go_simp
            simp only [Act.put, List.setIfInBounds_toArray, List.set_cons_zero, List.set_cons_succ]
            refine wpAnyH_take (i := 8) (oi := { dst := some 46, op := .indexAddr 24 (.tmp 44) (.tmp 45), type := _, pos := _, after := _, guard := none }) (v := .pointer (some ⟨g2, o2 + i * 3, none⟩)) rfl (by kernel_rfl) (by kernel_rfl) (by kernel_rfl) (fun _ _ _ h => h) (Or.inl ⟨by rfl, ?_⟩) hS0 ?_
            · intro w hSw
              go_simp
            simp only [Act.put, List.setIfInBounds_toArray, List.set_cons_zero, List.set_cons_succ]
            refine wpAnyH_take (i := 9) (oi := { dst := some 47, op := .load 53 (.tmp 46), type := _, pos := _, after := _, guard := none }) (v := .agg #[.string nm', .slice a1' n1' c1', .slice a2' n2' c2']) rfl (by kernel_rfl) (by kernel_rfl) (by kernel_rfl) (fun _ _ _ h => h) (Or.inl ⟨by rfl, ?_⟩) hS0 ?_
            · intro w hSw
              obtain ⟨z0, z1, z2⟩ := (HE.out w hSw).2
              go_simp
            simp only [Act.put, List.setIfInBounds_toArray, List.set_cons_zero, List.set_cons_succ]
            refine wpAnyH_ready (rs := [10, 11]) (by kernel_rfl) (by simp) ?_
            refine AllReadyH.cons (o := { dst := some 6, op := .alloc 53, type := _, pos := _, after := _, guard := none }) rfl (fun K hK => ?_) (AllReadyH.cons (o := { dst := some 7, op := .alloc 53, type := _, pos := _, after := _, guard := none }) rfl (fun K hK => ?_) AllReadyH.nil)
            · skip
              rw [if_pos (by rfl)]
              refine wp_alloc_at5 (P := Tryz.prog) 53 rfl _ 3 z42 ?_
              intro v1 hV1 hbv1 hsv1
              have hS1 := hS0.trans (hbv1.mono hS0.size)
              refine hK.out _ _ hS1 (fun _ => ?_)
              refine wpAnyH_ready (rs := [11]) (by kernel_rfl) (by simp) ?_
              refine AllReadyH.cons (o := { dst := some 7, op := .alloc 53, type := _, pos := _, after := _, guard := none }) rfl (fun K hK => ?_) AllReadyH.nil
              rw [if_pos (by rfl)]
              refine wp_alloc_at5 (P := Tryz.prog) 53 rfl _ 3 z42 ?_
              intro v2 hV2 hbv2 hsv2
              have hS2 := hS1.trans (hbv2.mono hS1.size)
              refine hK.out _ _ hS2 (fun _ => ?_)
              have hsv1' : v1.heap.size = wr.heap.size + 1 := hsv1
              have hV1 : At 53 v1 wr.heap.size _ := hV1
              have hX2 := (hV1.below hbv2)
              have hY2 := hV2
              refine wpAnyH_ready (rs := [12]) (by kernel_rfl) (by simp) ?_
              refine AllReadyH.cons (o := { dst := none, op := .store 53 (.tmp 6) (.tmp 42), type := _, pos := _, after := _, guard := none }) rfl (fun K hK => ?_) AllReadyH.nil
              rw [if_pos (by rfl)]
              refine wp_store_mid (P := Tryz.prog) 53 (.tmp 6) (.tmp 42) rfl (wr.heap.size) 0 [.string nm, .slice a1 n1 c1, .slice a2 n2 c2].toArray rfl rfl (hX2.there 0 _ (Nat.le_refl _)) i42 (all_oneCell_toArray (one59 _ _ _ _ _ _ _)) ?_
              obtain ⟨v3, hv3⟩ : ∃ v, v = v2.setCells (wr.heap.size) 0 [.string nm, .slice a1 n1 c1, .slice a2 n2 c2].toArray.toList := ⟨_, rfl⟩
              have hBu3 : But (wr.heap.size) v2 v3 := by rw [hv3]; exact But.setCells5 _ _ _ (But.refl _ _)
              have hX3 : At 53 v3 (wr.heap.size) [.string nm, .slice a1 n1 c1, .slice a2 n2 c2] := by rw [hv3]; exact At.setCells5 _ 0 _ _ hX2
              have hsz3 : v3.heap.size = v2.heap.size := by rw [hv3]; exact size_setCells5 _ _ _ _
              have hY3 := hBu3.at hY2 (by show _ ≠ _; first | (have hd : wr.drew.heap.size = wr.heap.size := rfl; omega))
              have hS3 : Below wr.heap.size wr v3 := hBu3.below hS2 (by have hd : wr.drew.heap.size = wr.heap.size := rfl; omega) hS2.size
              rw [← hv3]
              clear hv3
              refine hK.out _ _ hS3 (fun _ => ?_)
              refine wpAnyH_ready (rs := [13]) (by kernel_rfl) (by simp) ?_
              refine AllReadyH.cons (o := { dst := none, op := .store 53 (.tmp 7) (.tmp 47), type := _, pos := _, after := _, guard := none }) rfl (fun K hK => ?_) AllReadyH.nil
              rw [if_pos (by rfl)]
              refine wp_store_mid (P := Tryz.prog) 53 (.tmp 7) (.tmp 47) rfl (v1.heap.size) 0 [.string nm', .slice a1' n1' c1', .slice a2' n2' c2'].toArray rfl rfl (hY3.there 0 _ (Nat.le_refl _)) i42 (all_oneCell_toArray (one59 _ _ _ _ _ _ _)) ?_
              obtain ⟨v4, hv4⟩ : ∃ v, v = v3.setCells (v1.heap.size) 0 [.string nm', .slice a1' n1' c1', .slice a2' n2' c2'].toArray.toList := ⟨_, rfl⟩
              have hBu4 : But (v1.heap.size) v3 v4 := by rw [hv4]; exact But.setCells5 _ _ _ (But.refl _ _)
              have hY4 : At 53 v4 (v1.heap.size) [.string nm', .slice a1' n1' c1', .slice a2' n2' c2'] := by rw [hv4]; exact At.setCells5 _ 0 _ _ hY3
              have hX4 := hBu4.at hX3 (by show _ ≠ _; first | (have hd : wr.drew.heap.size = wr.heap.size := rfl; omega))
              have hS4 : Below wr.heap.size wr v4 := hBu4.below hS3 (by have hd : wr.drew.heap.size = wr.heap.size := rfl; omega) hS3.size
              rw [← hv4]
              clear hv4 hBu3 hBu4 hX3 hY3 hX2 hY2 hV1 hV2 hbv1 hbv2 hsv1 hsv1' hsv2 hsz3
              refine hK.out _ _ hS4 (fun _ => ?_)
              refine wpAnyH_done (by kernel_rfl) ?_ _
              obtain ⟨r0, r1, r2⟩ := th_cells5 hX4
              obtain ⟨s0, s1, s2⟩ := th_cells5 hY4
              by_cases hs : nm.toList = nm'.toList
              · have hs0 : (nm.toList == nm'.toList) = true := by rw [beq_iff_eq]; exact hs
                rw [toList_bytes, toList_bytes] at hs
                have hs' : decide (nm.data.toList = nm'.data.toList) = true := decide_eq_true hs
                rw [hs', Bool.true_and] at hZ2
                clear hs hs'
                go_wp2_with fail
                refine (Q2.out _ hS4).mono ?_
                rintro r v5 ⟨rfl, hb5⟩
                have hX5 := hX4.below hb5
                have hY5 := hY4.below hb5
                have hS5 := hS4.trans (hb5.mono hS4.size)
                clear hX4 hY4 r0 r1 r2 s0 s1 s2
                obtain ⟨r0, r1, r2⟩ := th_cells5 hX5
                obtain ⟨s0, s1, s2⟩ := th_cells5 hY5
                cases p2 with
                | false =>
                  go_wp2_with fail
                  go_ret
                  exact ⟨by rw [hRf.out (by first | (rw [hZ2.out]; done) | (rw [hZ2.out]; simp))]; rfl, hwr.trans (hS5.mono hwr.size)⟩
                | true =>
                  go_wp2_with fail
                  refine (Q3.out _ hS5).mono ?_
                  rintro r v6 ⟨rfl, hb6⟩
                  have hS6 := hS5.trans (hb6.mono hS5.size)
                  clear hX5 hY5 r0 r1 r2 s0 s1 s2
                  cases p3 with
                  | false =>
                    go_wp2_with fail
                    go_ret
                    exact ⟨by rw [hRf.out (by first | (rw [hZ2.out]; done) | (rw [hZ2.out]; simp))]; rfl, hwr.trans (hS6.mono hwr.size)⟩
                  | true =>
                    have hw6 : Below w2.heap.size w2 v6 := hb2r.trans (hS6.mono hb2r.size)
                    go_wp2_with fail
                    go_roundw
                    case rel =>
                      refine ⟨i + 1, by go_num, by omega, hw6, fun q u v hq hu hv => ?_⟩
                      by_cases hqi : q = i
                      · subst hqi
                        rw [HX.out.1] at hu
                        rw [HX.out.2] at hv
                        cases hu
                        cases hv
                        have := hZS.out
                        rw [hZ2.out] at this
                        simpa using this.symm
                      · exact HA.out q u v (by omega) hu hv
                    case measure => simp [intOf]; omega
              · have hs0 : (nm.toList == nm'.toList) = false := by rw [beq_eq_false_iff_ne]; exact hs
                rw [toList_bytes, toList_bytes] at hs
                have hs' : decide (nm.data.toList = nm'.data.toList) = false := decide_eq_false hs
                rw [hs', Bool.false_and] at hZ2
                clear hs hs'
                go_wp2_with fail
                go_ret
                exact ⟨by rw [hRf.out hZ2.out]; rfl, hwr.trans (hS4.mono hwr.size)⟩
            · skip
              rw [if_pos (by rfl)]
              refine wp_alloc_at5 (P := Tryz.prog) 53 rfl _ 3 z42 ?_
              intro v1 hV1 hbv1 hsv1
              have hS1 := hS0.trans (hbv1.mono hS0.size)
              refine hK.out _ _ hS1 (fun _ => ?_)
              refine wpAnyH_ready (rs := [10]) (by kernel_rfl) (by simp) ?_
              refine AllReadyH.cons (o := { dst := some 6, op := .alloc 53, type := _, pos := _, after := _, guard := none }) rfl (fun K hK => ?_) AllReadyH.nil
              rw [if_pos (by rfl)]
              refine wp_alloc_at5 (P := Tryz.prog) 53 rfl _ 3 z42 ?_
              intro v2 hV2 hbv2 hsv2
              have hS2 := hS1.trans (hbv2.mono hS1.size)
              refine hK.out _ _ hS2 (fun _ => ?_)
              have hsv1' : v1.heap.size = wr.heap.size + 1 := hsv1
              have hV1 : At 53 v1 wr.heap.size _ := hV1
              have hX2 := hV2
              have hY2 := (hV1.below hbv2)
              refine wpAnyH_ready (rs := [12]) (by kernel_rfl) (by simp) ?_
              refine AllReadyH.cons (o := { dst := none, op := .store 53 (.tmp 6) (.tmp 42), type := _, pos := _, after := _, guard := none }) rfl (fun K hK => ?_) AllReadyH.nil
              rw [if_pos (by rfl)]
              refine wp_store_mid (P := Tryz.prog) 53 (.tmp 6) (.tmp 42) rfl (v1.heap.size) 0 [.string nm, .slice a1 n1 c1, .slice a2 n2 c2].toArray rfl rfl (hX2.there 0 _ (Nat.le_refl _)) i42 (all_oneCell_toArray (one59 _ _ _ _ _ _ _)) ?_
              obtain ⟨v3, hv3⟩ : ∃ v, v = v2.setCells (v1.heap.size) 0 [.string nm, .slice a1 n1 c1, .slice a2 n2 c2].toArray.toList := ⟨_, rfl⟩
              have hBu3 : But (v1.heap.size) v2 v3 := by rw [hv3]; exact But.setCells5 _ _ _ (But.refl _ _)
              have hX3 : At 53 v3 (v1.heap.size) [.string nm, .slice a1 n1 c1, .slice a2 n2 c2] := by rw [hv3]; exact At.setCells5 _ 0 _ _ hX2
              have hsz3 : v3.heap.size = v2.heap.size := by rw [hv3]; exact size_setCells5 _ _ _ _
              have hY3 := hBu3.at hY2 (by show _ ≠ _; first | (have hd : wr.drew.heap.size = wr.heap.size := rfl; omega))
              have hS3 : Below wr.heap.size wr v3 := hBu3.below hS2 (by have hd : wr.drew.heap.size = wr.heap.size := rfl; omega) hS2.size
              rw [← hv3]
              clear hv3
              refine hK.out _ _ hS3 (fun _ => ?_)
              refine wpAnyH_ready (rs := [13]) (by kernel_rfl) (by simp) ?_
              refine AllReadyH.cons (o := { dst := none, op := .store 53 (.tmp 7) (.tmp 47), type := _, pos := _, after := _, guard := none }) rfl (fun K hK => ?_) AllReadyH.nil
              rw [if_pos (by rfl)]
              refine wp_store_mid (P := Tryz.prog) 53 (.tmp 7) (.tmp 47) rfl (wr.heap.size) 0 [.string nm', .slice a1' n1' c1', .slice a2' n2' c2'].toArray rfl rfl (hY3.there 0 _ (Nat.le_refl _)) i42 (all_oneCell_toArray (one59 _ _ _ _ _ _ _)) ?_
              obtain ⟨v4, hv4⟩ : ∃ v, v = v3.setCells (wr.heap.size) 0 [.string nm', .slice a1' n1' c1', .slice a2' n2' c2'].toArray.toList := ⟨_, rfl⟩
              have hBu4 : But (wr.heap.size) v3 v4 := by rw [hv4]; exact But.setCells5 _ _ _ (But.refl _ _)
              have hY4 : At 53 v4 (wr.heap.size) [.string nm', .slice a1' n1' c1', .slice a2' n2' c2'] := by rw [hv4]; exact At.setCells5 _ 0 _ _ hY3
              have hX4 := hBu4.at hX3 (by show _ ≠ _; first | (have hd : wr.drew.heap.size = wr.heap.size := rfl; omega))
              have hS4 : Below wr.heap.size wr v4 := hBu4.below hS3 (by have hd : wr.drew.heap.size = wr.heap.size := rfl; omega) hS3.size
              rw [← hv4]
              clear hv4 hBu3 hBu4 hX3 hY3 hX2 hY2 hV1 hV2 hbv1 hbv2 hsv1 hsv1' hsv2 hsz3
              refine hK.out _ _ hS4 (fun _ => ?_)
              refine wpAnyH_done (by kernel_rfl) ?_ _
              obtain ⟨r0, r1, r2⟩ := th_cells5 hX4
              obtain ⟨s0, s1, s2⟩ := th_cells5 hY4
              by_cases hs : nm.toList = nm'.toList
              · have hs0 : (nm.toList == nm'.toList) = true := by rw [beq_iff_eq]; exact hs
                rw [toList_bytes, toList_bytes] at hs
                have hs' : decide (nm.data.toList = nm'.data.toList) = true := decide_eq_true hs
                rw [hs', Bool.true_and] at hZ2
                clear hs hs'
                go_wp2_with fail
                refine (Q2.out _ hS4).mono ?_
                rintro r v5 ⟨rfl, hb5⟩
                have hX5 := hX4.below hb5
                have hY5 := hY4.below hb5
                have hS5 := hS4.trans (hb5.mono hS4.size)
                clear hX4 hY4 r0 r1 r2 s0 s1 s2
                obtain ⟨r0, r1, r2⟩ := th_cells5 hX5
                obtain ⟨s0, s1, s2⟩ := th_cells5 hY5
                cases p2 with
                | false =>
                  go_wp2_with fail
                  go_ret
                  exact ⟨by rw [hRf.out (by first | (rw [hZ2.out]; done) | (rw [hZ2.out]; simp))]; rfl, hwr.trans (hS5.mono hwr.size)⟩
                | true =>
                  go_wp2_with fail
                  refine (Q3.out _ hS5).mono ?_
                  rintro r v6 ⟨rfl, hb6⟩
                  have hS6 := hS5.trans (hb6.mono hS5.size)
                  clear hX5 hY5 r0 r1 r2 s0 s1 s2
                  cases p3 with
                  | false =>
                    go_wp2_with fail
                    go_ret
                    exact ⟨by rw [hRf.out (by first | (rw [hZ2.out]; done) | (rw [hZ2.out]; simp))]; rfl, hwr.trans (hS6.mono hwr.size)⟩
                  | true =>
                    have hw6 : Below w2.heap.size w2 v6 := hb2r.trans (hS6.mono hb2r.size)
                    go_wp2_with fail
                    go_roundw
                    case rel =>
                      refine ⟨i + 1, by go_num, by omega, hw6, fun q u v hq hu hv => ?_⟩
                      by_cases hqi : q = i
                      · subst hqi
                        rw [HX.out.1] at hu
                        rw [HX.out.2] at hv
                        cases hu
                        cases hv
                        have := hZS.out
                        rw [hZ2.out] at this
                        simpa using this.symm
                      · exact HA.out q u v (by omega) hu hv
                    case measure => simp [intOf]; omega
              · have hs0 : (nm.toList == nm'.toList) = false := by rw [beq_eq_false_iff_ne]; exact hs
                rw [toList_bytes, toList_bytes] at hs
                have hs' : decide (nm.data.toList = nm'.data.toList) = false := decide_eq_false hs
                rw [hs', Bool.false_and] at hZ2
                clear hs hs'
                go_wp2_with fail
                go_ret
                exact ⟨by rw [hRf.out hZ2.out]; rfl, hwr.trans (hS4.mono hwr.size)⟩
          · have hin : i = n := by omega
            have hRt : R = true := by
              rw [hR.out, eqL_iff, List.length_map, List.length_map, ← hn.out, ← hn'.out]
              refine ⟨rfl, fun q u v hu hv => hall q u v ?_ hu hv⟩
              have := (List.getElem?_eq_some_iff.1 hu).1
              rw [List.length_map, ← hn.out] at this
              omega
            clear hX hall hin HR HBX
            go_wp2
            go_ret
            exact ⟨by rw [hRt]; rfl, hwr⟩
      · have hne : ((n : Int) == (n' : Int)) = false := by rw [beq_eq_false_iff_ne]; omega
        have hRf : R = false := by
          rw [hR.out, Bool.eq_false_iff]
          intro h
          have := (eqL_iff _ _ _).1 h
          rw [List.length_map, List.length_map, ← hn.out, ← hn'.out] at this
          exact hnn this.1
        clear hnn
        go_wp2_with fail
        go_ret
        exact ⟨by rw [hRf]; rfl, hbw⟩

theorem kitProgram_any (B : Nat) (x y : PT) (w : World) (hx : x.In B w) (hy : y.In B w) (hBw : B ≤ w.heap.size) :
    Calls Tryz.prog 10 #[.agg x.cells.toArray, .agg y.cells.toArray] w fun r w' => r = .returned (.bool (samP x.pg y.pg)) ∧ Below w.heap.size w w' := by
  have hO : ∀ w', Below w.heap.size w w' → Old B w w' ∧ B ≤ w'.heap.size := fun w' h => ⟨Old.of_below h hBw, by have := h.size; omega⟩
  exact kitThreads_at B (.slice x.a1 x.shared.length x.c1) (.slice x.a2 x.mutexes.length x.c2) (.slice y.a1 y.shared.length y.c1) (.slice y.a2 y.mutexes.length y.c2) x.a3 y.a3 x.c3 y.c3 x.threads y.threads _ _ w
    (fun w' h => kitV_any B x.shared y.shared x.a1 y.a1 x.c1 y.c1 w' (hx.1.old (hO w' h).1) (hy.1.old (hO w' h).1) (hO w' h).2)
    (fun w' h => kitN_any B x.mutexes y.mutexes x.a2 y.a2 x.c2 y.c2 w' (hx.2.1.old (hO w' h).1) (hy.2.1.old (hO w' h).1) (hO w' h).2)
    hx.2.2 hy.2.2 hBw

end Go.Proofs.YtjgggmjjikopeaaGreatDoor

/- The document's own weight of an expression: it is told, whatever it is. -/
namespace Go.Proofs.YtjgggmjjikopeaaGreatDoor
open Go.RowKit
set_option linter.unusedVariables false

def IsI (r : Ending) : Prop := ∃ z : Int, r = .returned (.int .i64 z)
def WtW (B : Nat) (x : ET) : Prop := ∀ (w : World), x.In B w → B ≤ w.heap.size → Calls Tryz.prog 111 #[.agg x.cells.toArray] w fun r w' => IsI r ∧ Below w.heap.size w w'

set_option maxRecDepth 100000 in
set_option maxHeartbeats 3200000 in
theorem weight_of (B : Nat) (op t b : Nat) (nm : ByteArray) (a : Option Addr) (c : Nat) (ks : List ET) (hS : ∀ k ∈ ks, WtW B k) : WtW B (.mk op t b nm a c ks) := by
  intro w hx hBw
  unfold ET.In at hx
  obtain ⟨_, _, _, x1, x2, x3⟩ := hx
  have HR : Hid (RowE B w a c ks) := ⟨x1, x2, x3⟩
  obtain ⟨n, hn⟩ : ∃ n, Hid (n = ks.length) := ⟨_, (rfl : ks.length = _)⟩
  show Calls Tryz.prog 111 #[.agg (ex5 op t b nm (.slice a ks.length c)).toArray] w _
  rw [← hn.out] at x1 x2 ⊢
  have HS : Hid (∀ k ∈ ks, WtW B k) := hS
  clear x3 hS
  go_enter Tryz.func111, Tryz.ntmps111
  go_wp2_with (first
    | ((with_reducible show wpList _ _ _ _ _ _); refine wpList_box_at rfl 43 (.tmp 0) rfl (ex5 op t b nm (.slice a n c)) rfl ?_; intro w1 hA1 hb1 hs1; clear hs1; refine Hid.out ?_))
  refine hidU ?_
  have HB : Hid (At 43 w1 w.heap.size (ex5 op t b nm (.slice a n c))) := hA1
  clear hA1
  go_wp2_with fail
  go_loopw [3, 4] (fun u j wr => ∃ i : Nat, j = .int .i64 (i : Int) ∧ i ≤ n ∧ Hid ((∃ z : Int, u = .int .i64 z) ∧ Below w1.heap.size w1 wr)) (fun u j _ => n - (intOf j).toNat)
  case atStart => exact ⟨0, rfl, by omega, ⟨1, rfl⟩, Below.refl _ _⟩
  case round =>
    obtain ⟨i, rfl, hi, hX⟩ := hrel
    obtain ⟨⟨z, rfl⟩, hbr⟩ := hX.out
    have hwr : Below w.heap.size w wr := hb1.trans (hbr.mono hb1.size)
    obtain ⟨-, -, -, -, q4⟩ := ex_cells (HB.out.below hbr)
    by_cases hc : i < n
    · obtain ⟨x, hx⟩ : ∃ k, ks[i]? = some k := ⟨ks[i]'(by rw [← hn.out]; exact hc), by rw [List.getElem?_eq_getElem]⟩
      have hold : Old B w wr := Old.of_below hwr hBw
      obtain ⟨g1, o1, rfl, hg1, hr1, hx1⟩ := (HR.out.old hold).at i x hx
      have hI := HS.out x (List.mem_of_getElem? hx) wr hx1 (by have := hwr.size; omega)
      obtain ⟨xop, xt, xb, xnm, xa, xc, xk⟩ := x
      have hI : Calls Tryz.prog 111 #[.agg #[.int .u8 (xop : Int), .int .u8 (xt : Int), .int .u64 (xb : Int), .string xnm, .slice xa xk.length xc]] wr fun r w' => IsI r ∧ Below wr.heap.size wr w' := hI
      obtain ⟨x0, x1', x2', x3', x4'⟩ := ex_mid (s := .slice xa xk.length xc) hr1
      clear hX hx hx1 hold hr1
      go_wp2_with fail
      refine hI.mono ?_
      rintro r w3 ⟨⟨y, rfl⟩, hb3⟩
      have hw3 : Below w1.heap.size w1 w3 := hbr.trans (hb3.mono hbr.size)
      clear hI q4 x0 x1' x2' x3' x4'
      go_wp2
      go_roundw
      case rel => exact ⟨i + 1, by go_num, by omega, ⟨_, rfl⟩, hw3⟩
      case measure => simp [intOf]; omega
    · go_wp2
      go_ret
      exact ⟨⟨z, rfl⟩, hwr⟩

theorem weight_any (B : Nat) (M : Nat) : ∀ x : ET, SizeOf.sizeOf x < M → WtW B x := by
  induction M with
  | zero => intro x h; omega
  | succ M ih =>
    rintro ⟨op, t, b, nm, a, c, ks⟩ hN
    exact weight_of B op t b nm a c ks fun k hk => ih k (by have := ET.sz (op := op) (t := t) (b := b) (c := c) (nm := nm) (a := a) hk; omega)
end Go.Proofs.YtjgggmjjikopeaaGreatDoor

/- The document's own weight of statements: it is told, whatever it is. -/
namespace Go.Proofs.YtjgggmjjikopeaaGreatDoor
open Go.RowKit
set_option linter.unusedVariables false

def WtLW (B : Nat) (xs : List ST) : Prop := ∀ (a : Option Addr) (c : Nat) (w : World), RowS B w a c xs → B ≤ w.heap.size → Calls Tryz.prog 73 #[.slice a xs.length c] w fun r w' => IsI r ∧ Below w.heap.size w w'
def WtSW (B : Nat) : ST → Prop
  | .mk _ _ _ _ _ body _ _ els => WtLW B body ∧ WtLW B els

set_option maxRecDepth 100000 in
set_option maxHeartbeats 6400000 in
theorem weightStmts_of (B : Nat) (xs : List ST) (hS : ∀ x ∈ xs, WtSW B x) : WtLW B xs := by
  intro a c w h1 hBw
  obtain ⟨n, hn⟩ : ∃ n, Hid (n = xs.length) := ⟨_, (rfl : xs.length = _)⟩
  have hl1 := h1.1
  have hk1 := h1.2.1
  rw [← hn.out] at hl1 hk1 ⊢
  have HR : Hid (RowS B w a c xs) := h1
  have HS : Hid (∀ x ∈ xs, WtSW B x) := hS
  clear h1 hS
  go_enter Tryz.func73, Tryz.ntmps73
  go_wp2_with fail
  go_loopw [3, 4] (fun u j wr => ∃ i : Nat, j = .int .i64 (i : Int) ∧ i ≤ n ∧ Hid ((∃ z : Int, u = .int .i64 z) ∧ Below w.heap.size w wr)) (fun u j _ => n - (intOf j).toNat)
  case atStart => exact ⟨0, rfl, by omega, ⟨0, rfl⟩, Below.refl _ _⟩
  case round =>
    obtain ⟨i, rfl, hi, hX⟩ := hrel
    obtain ⟨⟨z, rfl⟩, hbw⟩ := hX.out
    by_cases hc : i < n
    · obtain ⟨x, hx⟩ : ∃ k, xs[i]? = some k := ⟨xs[i]'(by rw [← hn.out]; exact hc), by rw [List.getElem?_eq_getElem]⟩
      have hold : Old B w wr := Old.of_below hbw hBw
      obtain ⟨g1, o1, rfl, hg1, hr1, hx1⟩ := (HR.out.old hold).at i x hx
      have hKS := HS.out x (List.mem_of_getElem? hx)
      obtain ⟨k, nm, ⟨op, t, b, enm, ea, ec, eks⟩, a1, c1, b1, a2, c2, b2⟩ := x
      obtain ⟨hKb, hKe⟩ := hKS
      unfold ST.In at hx1
      obtain ⟨_, xe, x1, x2⟩ := hx1
      have hsz : B ≤ wr.heap.size := by have := hbw.size; omega
      have q1 : ∀ w', Below wr.heap.size wr w' → Calls Tryz.prog 111 #[.agg #[.int .u8 (op : Int), .int .u8 (t : Int), .int .u64 (b : Int), .string enm, .slice ea eks.length ec]] w' fun r w'' => IsI r ∧ Below w'.heap.size w' w'' := fun w' h => weight_any B _ (.mk op t b enm ea ec eks) (Nat.lt_succ_self _) w' (xe.old (Old.of_below h hsz)) (by have := h.size; omega)
      have q2 : ∀ w', Below wr.heap.size wr w' → Calls Tryz.prog 73 #[.slice a1 b1.length c1] w' fun r w'' => IsI r ∧ Below w'.heap.size w' w'' := fun w' h => hKb a1 c1 w' (RowS.old x1 (Old.of_below h hsz)) (by have := h.size; omega)
      have q3 : ∀ w', Below wr.heap.size wr w' → Calls Tryz.prog 73 #[.slice a2 b2.length c2] w' fun r w'' => IsI r ∧ Below w'.heap.size w' w'' := fun w' h => hKe a2 c2 w' (RowS.old x2 (Old.of_below h hsz)) (by have := h.size; omega)
      simp only [ST.cells, ET.cells] at hr1
      generalize eks.length = en at q1 hr1
      generalize b1.length = n1 at q2 hr1
      generalize b2.length = n2 at q3 hr1
      have hr1 : wr.rangeAt g1 (o1 + i * 9) (st9 k nm (ex5 op t b enm (.slice ea en ec)) (.slice a1 n1 c1) (.slice a2 n2 c2)) := hr1
      have HE : Hid (∀ w', Below wr.heap.size wr w' → w'.cell? ⟨g1, o1 + i * 9, none⟩ = some (.int .i64 k) ∧ w'.cell? ⟨g1, o1 + i * 9 + 1, none⟩ = some (.string nm) ∧ w'.cell? ⟨g1, o1 + i * 9 + 2, none⟩ = some (.int .u8 (op : Int)) ∧ w'.cell? ⟨g1, o1 + i * 9 + 3, none⟩ = some (.int .u8 (t : Int)) ∧ w'.cell? ⟨g1, o1 + i * 9 + 4, none⟩ = some (.int .u64 (b : Int)) ∧ w'.cell? ⟨g1, o1 + i * 9 + 5, none⟩ = some (.string enm) ∧ w'.cell? ⟨g1, o1 + i * 9 + 6, none⟩ = some (.slice ea en ec) ∧ w'.cell? ⟨g1, o1 + i * 9 + 7, none⟩ = some (.slice a1 n1 c1) ∧ w'.cell? ⟨g1, o1 + i * 9 + 8, none⟩ = some (.slice a2 n2 c2)) := fun w' h => st_mid ((Old.of_below (B := B) h hsz).range hg1 hr1)
      have Q1 : Hid _ := q1
      have Q2 : Hid _ := q2
      have Q3 : Hid _ := q3
      have hS0 : Below wr.heap.size wr wr.drew := Below.drew (Below.refl _ _)
      clear hX hx hold hr1 xe x1 x2 q1 q2 q3 hKb hKe HR HS
      go_wp2_with fail
      refine wp_region_held_drew (S := fun x => Below wr.heap.size wr x) (by kernel_rfl) hS0 (fun _ => ?_)
      refine wpAnyH_take (i := 0) (oi := { dst := some 11, op := .move (.tmp 3), type := _, pos := _, after := _, guard := none }) (v := .int .i64 z) rfl (by kernel_rfl) (by kernel_rfl) (by kernel_rfl) (fun _ _ _ h => h) (Or.inl ⟨by rfl, ?_⟩) hS0 ?_
      · intro w hSw
        go_simp
      simp only [Act.put, List.setIfInBounds_toArray, List.set_cons_zero, List.set_cons_succ]
      refine wpAnyH_take (i := 1) (oi := { dst := some 12, op := .binOp .add 3 (.tmp 11) (.const (.int .i64 1)) 3, type := _, pos := _, after := _, guard := none }) (v := .int .i64 (IntKind.i64.wrap (z + 1))) rfl (by kernel_rfl) (by kernel_rfl) (by kernel_rfl) (fun _ _ _ h => h) (Or.inl ⟨by rfl, ?_⟩) hS0 ?_
      · intro w hSw
        go_simp
      simp only [Act.put, List.setIfInBounds_toArray, List.set_cons_zero, List.set_cons_succ]
      refine wpAnyH_take (i := 2) (oi := { dst := some 13, op := .move (.tmp 0), type := _, pos := _, after := _, guard := none }) (v := .slice (some ⟨g1, o1, none⟩) n c) rfl (by kernel_rfl) (by kernel_rfl) (by kernel_rfl) (fun _ _ _ h => h) (Or.inl ⟨by rfl, ?_⟩) hS0 ?_
      · intro w hSw
        go_simp
      simp only [Act.put, List.setIfInBounds_toArray, List.set_cons_zero, List.set_cons_succ]
      refine wpAnyH_take (i := 3) (oi := { dst := some 14, op := .move (.tmp 4), type := _, pos := _, after := _, guard := none }) (v := .int .i64 (i : Int)) rfl (by kernel_rfl) (by kernel_rfl) (by kernel_rfl) (fun _ _ _ h => h) (Or.inl ⟨by rfl, ?_⟩) hS0 ?_
      · intro w hSw
        go_simp
      simp only [Act.put, List.setIfInBounds_toArray, List.set_cons_zero, List.set_cons_succ]
      refine wpAnyH_take (i := 4) (oi := { dst := some 15, op := .indexAddr 49 (.tmp 13) (.tmp 14), type := _, pos := _, after := _, guard := none }) (v := .pointer (some ⟨g1, o1 + i * 9, none⟩)) rfl (by kernel_rfl) (by kernel_rfl) (by kernel_rfl) (fun _ _ _ h => h) (Or.inl ⟨by rfl, ?_⟩) hS0 ?_
      · intro w hSw
        go_simp
      simp only [Act.put, List.setIfInBounds_toArray, List.set_cons_zero, List.set_cons_succ]
      refine wpAnyH_take (i := 5) (oi := { dst := some 16, op := .fieldAddr 51 (.tmp 15) 2, type := _, pos := _, after := _, guard := none }) (v := .pointer (some ⟨g1, o1 + i * 9 + 2, none⟩)) rfl (by kernel_rfl) (by kernel_rfl) (by kernel_rfl) (fun _ _ _ h => h) (Or.inl ⟨by rfl, ?_⟩) hS0 ?_
      · intro w hSw
        go_simp
      simp only [Act.put, List.setIfInBounds_toArray, List.set_cons_zero, List.set_cons_succ]
      refine wpAnyH_take (i := 6) (oi := { dst := some 17, op := .load 43 (.tmp 16), type := _, pos := _, after := _, guard := none }) (v := .agg #[.int .u8 (op : Int), .int .u8 (t : Int), .int .u64 (b : Int), .string enm, .slice ea en ec]) rfl (by kernel_rfl) (by kernel_rfl) (by kernel_rfl) (fun _ _ _ h => h) (Or.inl ⟨by rfl, ?_⟩) hS0 ?_
      · intro w hSw
        obtain ⟨-, -, z2, z3, z4, z5, z6, -, -⟩ := HE.out w hSw
        go_simp
      simp only [Act.put, List.setIfInBounds_toArray, List.set_cons_zero, List.set_cons_succ]
      refine wpAnyH_take (i := 9) (oi := { dst := some 20, op := .move (.tmp 0), type := _, pos := _, after := _, guard := none }) (v := .slice (some ⟨g1, o1, none⟩) n c) rfl (by kernel_rfl) (by kernel_rfl) (by kernel_rfl) (fun _ _ _ h => h) (Or.inl ⟨by rfl, ?_⟩) hS0 ?_
      · intro w hSw
        go_simp
      simp only [Act.put, List.setIfInBounds_toArray, List.set_cons_zero, List.set_cons_succ]
      refine wpAnyH_take (i := 10) (oi := { dst := some 21, op := .move (.tmp 4), type := _, pos := _, after := _, guard := none }) (v := .int .i64 (i : Int)) rfl (by kernel_rfl) (by kernel_rfl) (by kernel_rfl) (fun _ _ _ h => h) (Or.inl ⟨by rfl, ?_⟩) hS0 ?_
      · intro w hSw
        go_simp
      simp only [Act.put, List.setIfInBounds_toArray, List.set_cons_zero, List.set_cons_succ]
      refine wpAnyH_take (i := 11) (oi := { dst := some 22, op := .indexAddr 49 (.tmp 20) (.tmp 21), type := _, pos := _, after := _, guard := none }) (v := .pointer (some ⟨g1, o1 + i * 9, none⟩)) rfl (by kernel_rfl) (by kernel_rfl) (by kernel_rfl) (fun _ _ _ h => h) (Or.inl ⟨by rfl, ?_⟩) hS0 ?_
      · intro w hSw
        go_simp
      simp only [Act.put, List.setIfInBounds_toArray, List.set_cons_zero, List.set_cons_succ]
      refine wpAnyH_take (i := 12) (oi := { dst := some 23, op := .fieldAddr 51 (.tmp 22) 3, type := _, pos := _, after := _, guard := none }) (v := .pointer (some ⟨g1, o1 + i * 9 + 7, none⟩)) rfl (by kernel_rfl) (by kernel_rfl) (by kernel_rfl) (fun _ _ _ h => h) (Or.inl ⟨by rfl, ?_⟩) hS0 ?_
      · intro w hSw
        go_simp
      simp only [Act.put, List.setIfInBounds_toArray, List.set_cons_zero, List.set_cons_succ]
      refine wpAnyH_take (i := 13) (oi := { dst := some 24, op := .load 49 (.tmp 23), type := _, pos := _, after := _, guard := none }) (v := .slice a1 n1 c1) rfl (by kernel_rfl) (by kernel_rfl) (by kernel_rfl) (fun _ _ _ h => h) (Or.inl ⟨by rfl, ?_⟩) hS0 ?_
      · intro w hSw
        have z7 := (HE.out w hSw).2.2.2.2.2.2.2.1
        go_simp
      simp only [Act.put, List.setIfInBounds_toArray, List.set_cons_zero, List.set_cons_succ]
      refine wpAnyH_take (i := 16) (oi := { dst := some 27, op := .move (.tmp 0), type := _, pos := _, after := _, guard := none }) (v := .slice (some ⟨g1, o1, none⟩) n c) rfl (by kernel_rfl) (by kernel_rfl) (by kernel_rfl) (fun _ _ _ h => h) (Or.inl ⟨by rfl, ?_⟩) hS0 ?_
      · intro w hSw
        go_simp
      simp only [Act.put, List.setIfInBounds_toArray, List.set_cons_zero, List.set_cons_succ]
      refine wpAnyH_take (i := 17) (oi := { dst := some 28, op := .move (.tmp 4), type := _, pos := _, after := _, guard := none }) (v := .int .i64 (i : Int)) rfl (by kernel_rfl) (by kernel_rfl) (by kernel_rfl) (fun _ _ _ h => h) (Or.inl ⟨by rfl, ?_⟩) hS0 ?_
      · intro w hSw
        go_simp
      simp only [Act.put, List.setIfInBounds_toArray, List.set_cons_zero, List.set_cons_succ]
      refine wpAnyH_take (i := 18) (oi := { dst := some 29, op := .indexAddr 49 (.tmp 27) (.tmp 28), type := _, pos := _, after := _, guard := none }) (v := .pointer (some ⟨g1, o1 + i * 9, none⟩)) rfl (by kernel_rfl) (by kernel_rfl) (by kernel_rfl) (fun _ _ _ h => h) (Or.inl ⟨by rfl, ?_⟩) hS0 ?_
      · intro w hSw
        go_simp
      simp only [Act.put, List.setIfInBounds_toArray, List.set_cons_zero, List.set_cons_succ]
      refine wpAnyH_take (i := 19) (oi := { dst := some 30, op := .fieldAddr 51 (.tmp 29) 4, type := _, pos := _, after := _, guard := none }) (v := .pointer (some ⟨g1, o1 + i * 9 + 8, none⟩)) rfl (by kernel_rfl) (by kernel_rfl) (by kernel_rfl) (fun _ _ _ h => h) (Or.inl ⟨by rfl, ?_⟩) hS0 ?_
      · intro w hSw
        go_simp
      simp only [Act.put, List.setIfInBounds_toArray, List.set_cons_zero, List.set_cons_succ]
      refine wpAnyH_take (i := 20) (oi := { dst := some 31, op := .load 49 (.tmp 30), type := _, pos := _, after := _, guard := none }) (v := .slice a2 n2 c2) rfl (by kernel_rfl) (by kernel_rfl) (by kernel_rfl) (fun _ _ _ h => h) (Or.inl ⟨by rfl, ?_⟩) hS0 ?_
      · intro w hSw
        have z7 := (HE.out w hSw).2.2.2.2.2.2.2.2
        go_simp
      simp only [Act.put, List.setIfInBounds_toArray, List.set_cons_zero, List.set_cons_succ]
      refine wpAnyH_ready (rs := [7]) (by kernel_rfl) (by simp) ?_
      refine AllReadyH.cons (o := { dst := some 18, op := .call { callee := .value (.func 111), args := #[.tmp 17], argTypes := #[43] }, type := _, pos := _, after := _, guard := none }) rfl (fun K hK => ?_) AllReadyH.nil
      rw [if_pos (by rfl)]
      go_wp2_with (go_at_call 111; refine (Q1.out _ hS0).mono ?_; rintro e x1 ⟨⟨y1, rfl⟩, hb1⟩)
      have hS1 := hS0.trans (hb1.mono hS0.size)
      refine hK.out _ _ hS1 (fun _ => ?_)
      refine wpAnyH_take (i := 8) (oi := { dst := some 19, op := .binOp .add 3 (.tmp 12) (.tmp 18) 3, type := _, pos := _, after := _, guard := none }) (v := .int .i64 (IntKind.i64.wrap (IntKind.i64.wrap (z + 1) + y1))) rfl (by kernel_rfl) (by kernel_rfl) (by kernel_rfl) (fun _ _ _ h => h) (Or.inl ⟨by rfl, ?_⟩) hS1 ?_
      · intro w hSw
        go_simp
      simp only [Act.put, List.setIfInBounds_toArray, List.set_cons_zero, List.set_cons_succ]
      refine wpAnyH_ready (rs := [14]) (by kernel_rfl) (by simp) ?_
      refine AllReadyH.cons (o := { dst := some 25, op := .call { callee := .value (.func 73), args := #[.tmp 24], argTypes := #[49] }, type := _, pos := _, after := _, guard := none }) rfl (fun K hK => ?_) AllReadyH.nil
      rw [if_pos (by rfl)]
      go_wp2_with (go_at_call 73; refine (Q2.out _ hS1).mono ?_; rintro e x2 ⟨⟨y2, rfl⟩, hb2⟩)
      have hS2 := hS1.trans (hb2.mono hS1.size)
      refine hK.out _ _ hS2 (fun _ => ?_)
      refine wpAnyH_take (i := 15) (oi := { dst := some 26, op := .binOp .add 3 (.tmp 19) (.tmp 25) 3, type := _, pos := _, after := _, guard := none }) (v := .int .i64 (IntKind.i64.wrap (IntKind.i64.wrap (IntKind.i64.wrap (z + 1) + y1) + y2))) rfl (by kernel_rfl) (by kernel_rfl) (by kernel_rfl) (fun _ _ _ h => h) (Or.inl ⟨by rfl, ?_⟩) hS2 ?_
      · intro w hSw
        go_simp
      simp only [Act.put, List.setIfInBounds_toArray, List.set_cons_zero, List.set_cons_succ]
      refine wpAnyH_ready (rs := [21]) (by kernel_rfl) (by simp) ?_
      refine AllReadyH.cons (o := { dst := some 32, op := .call { callee := .value (.func 73), args := #[.tmp 31], argTypes := #[49] }, type := _, pos := _, after := _, guard := none }) rfl (fun K hK => ?_) AllReadyH.nil
      rw [if_pos (by rfl)]
      go_wp2_with (go_at_call 73; refine (Q3.out _ hS2).mono ?_; rintro e x3 ⟨⟨y3, rfl⟩, hb3⟩)
      have hS3 := hS2.trans (hb3.mono hS2.size)
      refine hK.out _ _ hS3 (fun _ => ?_)
      refine wpAnyH_take (i := 22) (oi := { dst := some 33, op := .binOp .add 3 (.tmp 26) (.tmp 32) 3, type := _, pos := _, after := _, guard := none }) (v := .int .i64 (IntKind.i64.wrap (IntKind.i64.wrap (IntKind.i64.wrap (IntKind.i64.wrap (z + 1) + y1) + y2) + y3))) rfl (by kernel_rfl) (by kernel_rfl) (by kernel_rfl) (fun _ _ _ h => h) (Or.inl ⟨by rfl, ?_⟩) hS3 ?_
      · intro w hSw
        go_simp
      simp only [Act.put, List.setIfInBounds_toArray, List.set_cons_zero, List.set_cons_succ]
      refine wpAnyH_take (i := 23) (oi := { dst := some 3, op := .assign (.tmp 33), type := _, pos := _, after := _, guard := none }) (v := .int .i64 (IntKind.i64.wrap (IntKind.i64.wrap (IntKind.i64.wrap (IntKind.i64.wrap (z + 1) + y1) + y2) + y3))) rfl (by kernel_rfl) (by kernel_rfl) (by kernel_rfl) (fun _ _ _ h => h) (Or.inl ⟨by rfl, ?_⟩) hS3 ?_
      · intro w hSw
        go_simp
      simp only [Act.put, List.setIfInBounds_toArray, List.set_cons_zero, List.set_cons_succ]
      refine wpAnyH_done (by kernel_rfl) ?_ _
      have hw3 : Below w.heap.size w x3 := hbw.trans (hS3.mono hbw.size)
      go_wp2
      go_roundw
      case rel => exact ⟨i + 1, by go_num, by omega, ⟨_, rfl⟩, hw3⟩
      case measure => simp [intOf]; omega
    · go_wp2
      go_ret
      exact ⟨⟨z, rfl⟩, hbw⟩

theorem weightStmts_any (B : Nat) (M : Nat) : ∀ x : ST, SizeOf.sizeOf x < M → WtSW B x := by
  induction M with
  | zero => intro x h; omega
  | succ M ih =>
    rintro ⟨k, nm, e, a1, c1, b1, a2, c2, b2⟩ hN
    exact ⟨weightStmts_of B b1 fun s hs => ih s (by have := ST.sz1 (k := k) (nm := nm) (e := e) (a1 := a1) (a2 := a2) (c1 := c1) (c2 := c2) (els := b2) hs; omega), weightStmts_of B b2 fun s hs => ih s (by have := ST.sz2 (k := k) (nm := nm) (e := e) (a1 := a1) (a2 := a2) (c1 := c1) (c2 := c2) (body := b1) hs; omega)⟩
theorem weightBlock_any (B : Nat) (l : List ST) : WtLW B l := weightStmts_of B l fun s _ => weightStmts_any B _ s (Nat.lt_succ_self _)

set_option maxRecDepth 100000 in
set_option maxHeartbeats 6400000 in
theorem weightProgram_at (B : Nat) (a1_ : Option Addr) (n1_ c1_ : Nat) (a2_ : Option Addr) (n2_ c2_ : Nat) (a3 : Option Addr) (c3 : Nat) (xs : List TT) (w : World) (h1 : RowT B w a3 c3 xs) (hl : n1_ ≤ 1048576) (hl2 : n2_ ≤ 1048576) (hBw : B ≤ w.heap.size) :
    Calls Tryz.prog 42 #[.agg [.slice a1_ n1_ c1_, .slice a2_ n2_ c2_, .slice a3 xs.length c3].toArray] w fun r w' => IsI r ∧ Below w.heap.size w w' := by
  obtain ⟨n, hn⟩ : ∃ n, Hid (n = xs.length) := ⟨_, (rfl : xs.length = _)⟩
  have hl1 := h1.1
  have hk1 := h1.2.1
  rw [← hn.out] at hl1 hk1 ⊢
  have HR : Hid (RowT B w a3 c3 xs) := h1
  clear h1
  go_enter Tryz.func42, Tryz.ntmps42
  go_wp2_with (first
    | ((with_reducible show wpList _ _ _ _ _ _); refine wpList_box_at rfl 26 (.tmp 0) rfl [.slice a1_ n1_ c1_, .slice a2_ n2_ c2_, .slice a3 n c3] rfl ?_; intro w1 hA1 hb1 hs1; clear hs1; refine Hid.out ?_))
  refine hidU ?_
  obtain ⟨q0, q1, q2⟩ := pg_cells hA1
  have HA : Hid (At 26 w1 w.heap.size [.slice a1_ n1_ c1_, .slice a2_ n2_ c2_, .slice a3 n c3]) := hA1
  clear hA1
  go_wp2_with fail
  clear q0 q1 q2
  go_loopw [3, 4] (fun u j wr => ∃ i : Nat, j = .int .i64 (i : Int) ∧ i ≤ n ∧ Hid ((∃ z : Int, u = .int .i64 z) ∧ Below w1.heap.size w1 wr)) (fun u j _ => n - (intOf j).toNat)
  case atStart => exact ⟨0, rfl, by omega, ⟨_, rfl⟩, Below.refl _ _⟩
  case round =>
    obtain ⟨i, rfl, hi, hX⟩ := hrel
    obtain ⟨⟨z, rfl⟩, hbr⟩ := hX.out
    have hwr : Below w.heap.size w wr := hb1.trans (hbr.mono hb1.size)
    obtain ⟨-, -, q2⟩ := pg_cells (HA.out.below hbr)
    by_cases hc : i < n
    · obtain ⟨x, hx⟩ : ∃ k, xs[i]? = some k := ⟨xs[i]'(by rw [← hn.out]; exact hc), by rw [List.getElem?_eq_getElem]⟩
      have hold : Old B w wr := Old.of_below hwr hBw
      obtain ⟨g1, o1, rfl, hg1, hr1, hx1⟩ := (HR.out.old hold).at i x hx
      obtain ⟨nm, a1, c1, ls, a2, c2, bs⟩ := x
      have hsz : B ≤ wr.heap.size := by have := hwr.size; omega
      have k1 : ∀ w', Below wr.heap.size wr w' → Calls Tryz.prog 73 #[.slice a2 bs.length c2] w' fun r w'' => IsI r ∧ Below w'.heap.size w' w'' := fun w' h => weightBlock_any B bs a2 c2 w' (hx1.2.old (Old.of_below h hsz)) (by have := h.size; omega)
      have hls : ls.length ≤ 1048576 := hx1.1.1
      simp only [TT.cells] at hr1
      generalize ls.length = n1 at hr1 hls
      generalize bs.length = n2 at k1 hr1
      have HE : Hid (∀ w', Below wr.heap.size wr w' → w'.cell? ⟨g1, o1 + i * 3 + 1, none⟩ = some (.slice a1 n1 c1) ∧ w'.cell? ⟨g1, o1 + i * 3 + 2, none⟩ = some (.slice a2 n2 c2)) := fun w' h => (th_mid ((Old.of_below (B := B) h hsz).range hg1 hr1)).2
      have HB : Hid (∀ w', Below wr.heap.size wr w' → w'.cell? ⟨w.heap.size, 2, none⟩ = some (.slice (some ⟨g1, o1, none⟩) n c3)) := fun w' h => (pg_cells ((HA.out.below hbr).below h)).2.2
      have Q1 : Hid _ := k1
      have hS0 : Below wr.heap.size wr wr.drew := Below.drew (Below.refl _ _)
      clear hX hx hold hr1 hx1 k1 HR HA
      go_wp2_with fail
      refine wp_region_held_drew (S := fun x => Below wr.heap.size wr x) (by kernel_rfl) hS0 (fun _ => ?_)
      refine wpAnyH_take (i := 0) (oi := { dst := some 19, op := .move (.tmp 3), type := _, pos := _, after := _, guard := none }) (v := .int .i64 z) rfl (by kernel_rfl) (by kernel_rfl) (by kernel_rfl) (fun _ _ _ h => h) (Or.inl ⟨by rfl, ?_⟩) hS0 ?_
      · intro w hSw
        go_simp
      simp only [Act.put, List.setIfInBounds_toArray, List.set_cons_zero, List.set_cons_succ]
      refine wpAnyH_take (i := 1) (oi := { dst := some 20, op := .binOp .add 3 (.tmp 19) (.const (.int .i64 1)) 3, type := _, pos := _, after := _, guard := none }) (v := .int .i64 (IntKind.i64.wrap (z + 1))) rfl (by kernel_rfl) (by kernel_rfl) (by kernel_rfl) (fun _ _ _ h => h) (Or.inl ⟨by rfl, ?_⟩) hS0 ?_
      · intro w hSw
        go_simp
      simp only [Act.put, List.setIfInBounds_toArray, List.set_cons_zero, List.set_cons_succ]
      refine wpAnyH_take (i := 2) (oi := { dst := some 21, op := .fieldAddr 26 (.tmp 1) 2, type := _, pos := _, after := _, guard := none }) (v := .pointer (some ⟨w.heap.size, 2, none⟩)) rfl (by kernel_rfl) (by kernel_rfl) (by kernel_rfl) (fun _ _ _ h => h) (Or.inl ⟨by rfl, ?_⟩) hS0 ?_
      · intro w hSw
        go_simp
      simp only [Act.put, List.setIfInBounds_toArray, List.set_cons_zero, List.set_cons_succ]
      refine wpAnyH_take (i := 3) (oi := { dst := some 22, op := .load 24 (.tmp 21), type := _, pos := _, after := _, guard := none }) (v := .slice (some ⟨g1, o1, none⟩) n c3) rfl (by kernel_rfl) (by kernel_rfl) (by kernel_rfl) (fun _ _ _ h => h) (Or.inl ⟨by rfl, ?_⟩) hS0 ?_
      · intro w hSw
        have z1 := HB.out w hSw
        go_simp
      simp only [Act.put, List.setIfInBounds_toArray, List.set_cons_zero, List.set_cons_succ]
      refine wpAnyH_take (i := 4) (oi := { dst := some 23, op := .move (.tmp 4), type := _, pos := _, after := _, guard := none }) (v := .int .i64 (i : Int)) rfl (by kernel_rfl) (by kernel_rfl) (by kernel_rfl) (fun _ _ _ h => h) (Or.inl ⟨by rfl, ?_⟩) hS0 ?_
      · intro w hSw
        go_simp
      simp only [Act.put, List.setIfInBounds_toArray, List.set_cons_zero, List.set_cons_succ]
      refine wpAnyH_take (i := 5) (oi := { dst := some 24, op := .indexAddr 24 (.tmp 22) (.tmp 23), type := _, pos := _, after := _, guard := none }) (v := .pointer (some ⟨g1, o1 + i * 3, none⟩)) rfl (by kernel_rfl) (by kernel_rfl) (by kernel_rfl) (fun _ _ _ h => h) (Or.inl ⟨by rfl, ?_⟩) hS0 ?_
      · intro w hSw
        go_simp
      simp only [Act.put, List.setIfInBounds_toArray, List.set_cons_zero, List.set_cons_succ]
      refine wpAnyH_take (i := 6) (oi := { dst := some 25, op := .fieldAddr 53 (.tmp 24) 1, type := _, pos := _, after := _, guard := none }) (v := .pointer (some ⟨g1, o1 + i * 3 + 1, none⟩)) rfl (by kernel_rfl) (by kernel_rfl) (by kernel_rfl) (fun _ _ _ h => h) (Or.inl ⟨by rfl, ?_⟩) hS0 ?_
      · intro w hSw
        go_simp
      simp only [Act.put, List.setIfInBounds_toArray, List.set_cons_zero, List.set_cons_succ]
      refine wpAnyH_take (i := 7) (oi := { dst := some 26, op := .load 22 (.tmp 25), type := _, pos := _, after := _, guard := none }) (v := .slice a1 n1 c1) rfl (by kernel_rfl) (by kernel_rfl) (by kernel_rfl) (fun _ _ _ h => h) (Or.inl ⟨by rfl, ?_⟩) hS0 ?_
      · intro w hSw
        have z1 := (HE.out w hSw).1
        go_simp
      simp only [Act.put, List.setIfInBounds_toArray, List.set_cons_zero, List.set_cons_succ]
      refine wpAnyH_take (i := 8) (oi := { dst := some 27, op := .call { callee := .builtin .len, args := #[.tmp 26], argTypes := #[22] }, type := _, pos := _, after := _, guard := none }) (v := .int .i64 (n1 : Int)) rfl (by kernel_rfl) (by kernel_rfl) (by kernel_rfl) (fun _ _ _ h => h) (Or.inl ⟨by rfl, ?_⟩) hS0 ?_
      · intro w hSw
        go_simp
      simp only [Act.put, List.setIfInBounds_toArray, List.set_cons_zero, List.set_cons_succ]
      refine wpAnyH_take (i := 9) (oi := { dst := some 28, op := .binOp .add 3 (.tmp 20) (.tmp 27) 3, type := _, pos := _, after := _, guard := none }) (v := .int .i64 (IntKind.i64.wrap (IntKind.i64.wrap (z + 1) + (n1 : Int)))) rfl (by kernel_rfl) (by kernel_rfl) (by kernel_rfl) (fun _ _ _ h => h) (Or.inl ⟨by rfl, ?_⟩) hS0 ?_
      · intro w hSw
        go_simp
      simp only [Act.put, List.setIfInBounds_toArray, List.set_cons_zero, List.set_cons_succ]
      refine wpAnyH_take (i := 10) (oi := { dst := some 29, op := .fieldAddr 26 (.tmp 1) 2, type := _, pos := _, after := _, guard := none }) (v := .pointer (some ⟨w.heap.size, 2, none⟩)) rfl (by kernel_rfl) (by kernel_rfl) (by kernel_rfl) (fun _ _ _ h => h) (Or.inl ⟨by rfl, ?_⟩) hS0 ?_
      · intro w hSw
        go_simp
      simp only [Act.put, List.setIfInBounds_toArray, List.set_cons_zero, List.set_cons_succ]
      refine wpAnyH_take (i := 11) (oi := { dst := some 30, op := .load 24 (.tmp 29), type := _, pos := _, after := _, guard := none }) (v := .slice (some ⟨g1, o1, none⟩) n c3) rfl (by kernel_rfl) (by kernel_rfl) (by kernel_rfl) (fun _ _ _ h => h) (Or.inl ⟨by rfl, ?_⟩) hS0 ?_
      · intro w hSw
        have z1 := HB.out w hSw
        go_simp
      simp only [Act.put, List.setIfInBounds_toArray, List.set_cons_zero, List.set_cons_succ]
      refine wpAnyH_take (i := 12) (oi := { dst := some 31, op := .move (.tmp 4), type := _, pos := _, after := _, guard := none }) (v := .int .i64 (i : Int)) rfl (by kernel_rfl) (by kernel_rfl) (by kernel_rfl) (fun _ _ _ h => h) (Or.inl ⟨by rfl, ?_⟩) hS0 ?_
      · intro w hSw
        go_simp
      simp only [Act.put, List.setIfInBounds_toArray, List.set_cons_zero, List.set_cons_succ]
      refine wpAnyH_take (i := 13) (oi := { dst := some 32, op := .indexAddr 24 (.tmp 30) (.tmp 31), type := _, pos := _, after := _, guard := none }) (v := .pointer (some ⟨g1, o1 + i * 3, none⟩)) rfl (by kernel_rfl) (by kernel_rfl) (by kernel_rfl) (fun _ _ _ h => h) (Or.inl ⟨by rfl, ?_⟩) hS0 ?_
      · intro w hSw
        go_simp
      simp only [Act.put, List.setIfInBounds_toArray, List.set_cons_zero, List.set_cons_succ]
      refine wpAnyH_take (i := 14) (oi := { dst := some 33, op := .fieldAddr 53 (.tmp 32) 2, type := _, pos := _, after := _, guard := none }) (v := .pointer (some ⟨g1, o1 + i * 3 + 2, none⟩)) rfl (by kernel_rfl) (by kernel_rfl) (by kernel_rfl) (fun _ _ _ h => h) (Or.inl ⟨by rfl, ?_⟩) hS0 ?_
      · intro w hSw
        go_simp
      simp only [Act.put, List.setIfInBounds_toArray, List.set_cons_zero, List.set_cons_succ]
      refine wpAnyH_take (i := 15) (oi := { dst := some 34, op := .load 49 (.tmp 33), type := _, pos := _, after := _, guard := none }) (v := .slice a2 n2 c2) rfl (by kernel_rfl) (by kernel_rfl) (by kernel_rfl) (fun _ _ _ h => h) (Or.inl ⟨by rfl, ?_⟩) hS0 ?_
      · intro w hSw
        have z1 := (HE.out w hSw).2
        go_simp
      simp only [Act.put, List.setIfInBounds_toArray, List.set_cons_zero, List.set_cons_succ]
      refine wpAnyH_ready (rs := [16]) (by kernel_rfl) (by simp) ?_
      refine AllReadyH.cons (o := { dst := some 35, op := .call { callee := .value (.func 73), args := #[.tmp 34], argTypes := #[49] }, type := _, pos := _, after := _, guard := none }) rfl (fun K hK => ?_) AllReadyH.nil
      rw [if_pos (by rfl)]
      go_wp2_with (go_at_call 73; refine (Q1.out _ hS0).mono ?_; rintro e x1 ⟨⟨y1, rfl⟩, hb1⟩)
      have hS1 := hS0.trans (hb1.mono hS0.size)
      refine hK.out _ _ hS1 (fun _ => ?_)
      refine wpAnyH_take (i := 17) (oi := { dst := some 36, op := .binOp .add 3 (.tmp 28) (.tmp 35) 3, type := _, pos := _, after := _, guard := none }) (v := .int .i64 (IntKind.i64.wrap (IntKind.i64.wrap (IntKind.i64.wrap (z + 1) + (n1 : Int)) + y1))) rfl (by kernel_rfl) (by kernel_rfl) (by kernel_rfl) (fun _ _ _ h => h) (Or.inl ⟨by rfl, ?_⟩) hS1 ?_
      · intro w hSw
        go_simp
      simp only [Act.put, List.setIfInBounds_toArray, List.set_cons_zero, List.set_cons_succ]
      refine wpAnyH_take (i := 18) (oi := { dst := some 3, op := .assign (.tmp 36), type := _, pos := _, after := _, guard := none }) (v := .int .i64 (IntKind.i64.wrap (IntKind.i64.wrap (IntKind.i64.wrap (z + 1) + (n1 : Int)) + y1))) rfl (by kernel_rfl) (by kernel_rfl) (by kernel_rfl) (fun _ _ _ h => h) (Or.inl ⟨by rfl, ?_⟩) hS1 ?_
      · intro w hSw
        go_simp
      simp only [Act.put, List.setIfInBounds_toArray, List.set_cons_zero, List.set_cons_succ]
      refine wpAnyH_done (by kernel_rfl) ?_ _
      have hw3 : Below w1.heap.size w1 x1 := hbr.trans (hS1.mono hbr.size)
      go_wp2
      go_roundw
      case rel => exact ⟨i + 1, by go_num, by omega, ⟨_, rfl⟩, hw3⟩
      case measure => simp [intOf]; omega
    · go_wp2
      go_ret
      exact ⟨⟨z, rfl⟩, hwr⟩

theorem weightProgram_any (B : Nat) (p : PT) (w : World) (h : p.In B w) (hBw : B ≤ w.heap.size) : Calls Tryz.prog 42 #[.agg p.cells.toArray] w fun r w' => IsI r ∧ Below w.heap.size w w' :=
  weightProgram_at B p.a1 p.shared.length p.c1 p.a2 p.mutexes.length p.c2 p.a3 p.c3 p.threads w h.2.2 h.1.1 h.2.1.1 hBw

end Go.Proofs.YtjgggmjjikopeaaGreatDoor

/- Whether a program is large is told. -/
namespace Go.Proofs.YtjgggmjjikopeaaGreatDoor
open Go.RowKit
set_option linter.unusedVariables false

def IsB (r : Ending) : Prop := ∃ b : Bool, r = .returned (.bool b)

theorem vr_mid {w : World} {g o : Nat} {v : VT} (h : w.rangeAt g o v.cells) : w.cell? ⟨g, o, none⟩ = some (.string v.nm) := by
  have := h 0 _ rfl
  simpa using this

set_option maxRecDepth 100000 in
set_option maxHeartbeats 6400000 in
theorem large_any (B : Nat) (p : PT) (w : World) (h : p.In B w) (hBw : B ≤ w.heap.size) : Calls Tryz.prog 18 #[.agg p.cells.toArray] w fun r w' => IsB r ∧ Below w.heap.size w w' := by
  have hWt := fun w' h' hB' => weightProgram_any B p w' h' hB'
  obtain ⟨a1, c1, vs, a2, c2, ms, a3, c3, ts⟩ := p
  obtain ⟨hr1, hr2, hr3⟩ := h
  obtain ⟨n1, hn1⟩ : ∃ n, Hid (n = vs.length) := ⟨_, (rfl : vs.length = _)⟩
  obtain ⟨n2, hn2⟩ : ∃ n, Hid (n = ms.length) := ⟨_, (rfl : ms.length = _)⟩
  obtain ⟨n3, hn3⟩ : ∃ n, Hid (n = ts.length) := ⟨_, (rfl : ts.length = _)⟩
  have hl1 := hr1.1
  have hk1 := hr1.2.1
  have hl2 := hr2.1
  have hk2 := hr2.2.1
  have hl3 := hr3.1
  have hk3 := hr3.2.1
  have HR : Hid (RowV B w a1 c1 vs ∧ RowN B w a2 c2 ms ∧ RowT B w a3 c3 ts) := ⟨hr1, hr2, hr3⟩
  have HW : Hid (∀ w', Below w.heap.size w w' → Calls Tryz.prog 42 #[.agg [.slice a1 n1 c1, .slice a2 n2 c2, .slice a3 n3 c3].toArray] w' fun r w'' => IsI r ∧ Below w'.heap.size w' w'') := fun w' hb => by
    rw [hn1.out, hn2.out, hn3.out]
    exact hWt w' ⟨hr1.old (Old.of_below hb hBw), hr2.old (Old.of_below hb hBw), hr3.old (Old.of_below hb hBw)⟩ (by have := hb.size; omega)
  rw [← hn1.out] at hl1 hk1
  rw [← hn2.out] at hl2 hk2
  rw [← hn3.out] at hl3 hk3
  simp only [PT.cells]
  rw [← hn1.out, ← hn2.out, ← hn3.out]
  clear hr1 hr2 hr3 hWt
  go_enter Tryz.func18, Tryz.ntmps18
  go_wp2_with (first
    | ((with_reducible show wpList _ _ _ _ _ _); refine wpList_box_at rfl 26 (.tmp 0) rfl [.slice a1 n1 c1, .slice a2 n2 c2, .slice a3 n3 c3] rfl ?_; intro w1 hA1 hb1 hs1; clear hs1; refine Hid.out ?_))
  refine hidU ?_
  have HA : Hid (At 26 w1 w.heap.size [.slice a1 n1 c1, .slice a2 n2 c2, .slice a3 n3 c3]) := hA1
  clear hA1
  go_wp2_with fail
  go_loopw [3, 4] (fun u j wr => ∃ i : Nat, j = .int .i64 (i : Int) ∧ i ≤ n2 ∧ Hid ((∃ z : Int, u = .int .i64 z) ∧ Below w1.heap.size w1 wr)) (fun u j _ => n2 - (intOf j).toNat)
  case atStart => exact ⟨0, rfl, by omega, ⟨0, rfl⟩, Below.refl _ _⟩
  case round =>
    obtain ⟨i, rfl, hi, hX⟩ := hrel
    obtain ⟨⟨z, rfl⟩, hbr⟩ := hX.out
    have hwr : Below w.heap.size w wr := hb1.trans (hbr.mono hb1.size)
    obtain ⟨q0, q1, q2⟩ := pg_cells (HA.out.below hbr)
    by_cases hc : i < n2
    · obtain ⟨x, hx⟩ : ∃ k, ms[i]? = some k := ⟨ms[i]'(by rw [← hn2.out]; exact hc), by rw [List.getElem?_eq_getElem]⟩
      obtain ⟨g1, o1, rfl, hg1, hr1⟩ := (HR.out.2.1.old (Old.of_below hwr hBw)).at i x hx
      clear hX hx
      go_wp2
      go_roundw
      case rel => exact ⟨i + 1, by go_num, by omega, ⟨_, rfl⟩, hbr⟩
      case measure => simp [intOf]; omega
    · clear hX
      go_wp2_with fail
      go_loopw [3, 5] (fun u j wr => ∃ i : Nat, j = .int .i64 (i : Int) ∧ i ≤ n1 ∧ Hid ((∃ z : Int, u = .int .i64 z) ∧ Below w1.heap.size w1 wr)) (fun u j _ => n1 - (intOf j).toNat)
      case atStart => exact ⟨0, rfl, by omega, ⟨_, rfl⟩, hbr⟩
      case round =>
        clear q0 q1 q2 hbr hwr
        obtain ⟨i, rfl, hi, hX⟩ := hrel
        obtain ⟨⟨z, rfl⟩, hbr⟩ := hX.out
        have hwr : Below w.heap.size w wr := hb1.trans (hbr.mono hb1.size)
        obtain ⟨q0, q1, q2⟩ := pg_cells (HA.out.below hbr)
        by_cases hc : i < n1
        · obtain ⟨x, hx⟩ : ∃ k, vs[i]? = some k := ⟨vs[i]'(by rw [← hn1.out]; exact hc), by rw [List.getElem?_eq_getElem]⟩
          obtain ⟨g1, o1, rfl, hg1, hr1, -⟩ := (HR.out.1.old (Old.of_below hwr hBw)).at i x hx
          have hv := vr_mid hr1
          clear hX hx hr1
          go_wp2
          go_roundw
          case rel => exact ⟨i + 1, by go_num, by omega, ⟨_, rfl⟩, hbr⟩
          case measure => simp [intOf]; omega
        · clear hX
          by_cases hbig : 40 < n3 ∨ 40 < n1 ∨ 40 < n2
          · have hbig' : ¬ (¬ 40 < n3 ∧ ¬ 40 < n1 ∧ ¬ 40 < n2) := by omega
            go_wp2_with fail
            all_goals first
              | (go_ret; exact ⟨⟨true, rfl⟩, hwr⟩)
              | (exfalso; omega)
          · have h1' : ¬ 40 < n3 := by omega
            have h2' : ¬ 40 < n1 := by omega
            have h3' : ¬ 40 < n2 := by omega
            go_wp2_with fail
            go_loopw [3, 6] (fun u j wr => ∃ i : Nat, j = .int .i64 (i : Int) ∧ i ≤ n3 ∧ Hid ((∃ z : Int, u = .int .i64 z) ∧ Below w1.heap.size w1 wr)) (fun u j _ => n3 - (intOf j).toNat)
            case atStart => exact ⟨0, rfl, by omega, ⟨_, rfl⟩, hbr⟩
            case round =>
              clear q0 q1 q2 hbr hwr
              obtain ⟨i, rfl, hi, hX⟩ := hrel
              obtain ⟨⟨z, rfl⟩, hbr⟩ := hX.out
              have hwr : Below w.heap.size w wr := hb1.trans (hbr.mono hb1.size)
              obtain ⟨q0, q1, q2⟩ := pg_cells (HA.out.below hbr)
              by_cases hc : i < n3
              · obtain ⟨x, hx⟩ : ∃ k, ts[i]? = some k := ⟨ts[i]'(by rw [← hn3.out]; exact hc), by rw [List.getElem?_eq_getElem]⟩
                obtain ⟨g1, o1, rfl, hg1, hr1, hin1⟩ := (HR.out.2.2.old (Old.of_below hwr hBw)).at i x hx
                obtain ⟨nm, b1, d1, ls, b2, d2, bs⟩ := x
                obtain ⟨m, hm⟩ : ∃ n, Hid (n = ls.length) := ⟨_, (rfl : ls.length = _)⟩
                obtain ⟨m2, hm2⟩ : ∃ n, Hid (n = bs.length) := ⟨_, (rfl : bs.length = _)⟩
                have hml := hin1.1.1
                have hmk := hin1.1.2.1
                have HV : Hid (RowV B wr b1 d1 ls) := hin1.1
                have hszr : B ≤ wr.heap.size := by have := hwr.size; omega
                simp only [TT.cells] at hr1
                rw [← hm.out, ← hm2.out] at hr1
                have hml : m ≤ 1048576 := by rw [hm.out]; exact hml
                have hmk : m ≤ d1 := by rw [hm.out]; exact hmk
                clear hX hx hin1
                go_wp2_with (first
                  | ((with_reducible show wpList _ _ _ _ _ _); refine wpList_load_mid (P := Tryz.prog) rfl 53 (.tmp 66) rfl g1 (o1 + i * 3) (by first | rfl | (simp; done)) [.string nm, .slice b1 m d1, .slice b2 m2 d2] _ hr1 Tryz.underlying53 rfl i42 ?_)
                  | ((with_reducible show wpList _ _ _ _ _ _); refine wpList_alloc_at rfl 53 rfl _ 3 z42 ?_; intro w2 hA2 hb2 hs2)
                  | ((with_reducible show wpList _ _ _ _ _ _); refine wpList_store_at (P := Tryz.prog) rfl 53 (.tmp 7) (.tmp 67) rfl wr.heap.size [.string nm, .slice b1 m d1, .slice b2 m2 d2] rfl rfl 53 _ hA2 i42 rfl (one59 _ _ _ _ _ _ _) ?_; intro w3 hA3 hb3 hs3; refine Hid.out ?_))
                refine hidU ?_
                have hB3 : Below wr.heap.size wr w3 := hb3.below hb2 (Nat.le_refl _) (by omega)
                have hw13 : Below w1.heap.size w1 w3 := hbr.trans (hB3.mono hbr.size)
                have hlt3 : wr.heap.size < w3.heap.size := hA3.lt
                have HT : Hid (At 53 w3 wr.heap.size [.string nm, .slice b1 m d1, .slice b2 m2 d2] ∧ Below wr.heap.size wr w3) := ⟨hA3, hB3⟩
                obtain ⟨u0, u1, u2⟩ := th_cells hA3
                clear hb3 hb2 hA2 hr1 hs2 hs3 hA3 hB3 q0 q1 q2
                by_cases hmb : 40 < m
                · go_wp2_with fail
                  all_goals first
                    | (go_ret; exact ⟨⟨true, rfl⟩, hb1.trans (hw13.mono hb1.size)⟩)
                    | (exfalso; omega)
                · go_wp2_with fail
                  go_loopw [3, 8] (fun u j wq => ∃ q : Nat, j = .int .i64 (q : Int) ∧ q ≤ m ∧ Hid ((∃ z : Int, u = .int .i64 z) ∧ Below w3.heap.size w3 wq)) (fun u j _ => m - (intOf j).toNat)
                  case atStart => exact ⟨0, rfl, by omega, ⟨_, rfl⟩, Below.refl _ _⟩
                  case round =>
                    clear u0 u1 u2
                    obtain ⟨q, rfl, hq, hX⟩ := hrel
                    obtain ⟨⟨z', rfl⟩, hbq⟩ := hX.out
                    obtain ⟨u0, u1, u2⟩ := th_cells (HT.out.1.below hbq)
                    by_cases hcq : q < m
                    · obtain ⟨x, hx⟩ : ∃ k, ls[q]? = some k := ⟨ls[q]'(by rw [← hm.out]; exact hcq), by rw [List.getElem?_eq_getElem]⟩
                      obtain ⟨g2, o2, rfl, hg2, hr2, -⟩ := (HV.out.old (Old.of_below (HT.out.2.trans (hbq.mono HT.out.2.size)) hszr)).at q x hx
                      have hv := vr_mid hr2
                      clear hX hx hr2
                      go_wp2
                      go_roundw
                      case rel => exact ⟨q + 1, by go_num, by omega, ⟨_, rfl⟩, hbq⟩
                      case measure => simp [intOf]; omega
                    · clear hX
                      have hw1q : Below w1.heap.size w1 wr := hw13.trans (hbq.mono hw13.size)
                      clear HT HV
                      go_wp2
                      go_roundw
                      case rel => exact ⟨i + 1, by go_num, by omega, ⟨_, rfl⟩, hw1q⟩
                      case measure => simp [intOf]; omega
              · have hW := HW.out wr hwr
                clear hX
                by_cases hz : 4000 < z
                · go_wp2_with fail
                  go_ret
                  exact ⟨⟨_, rfl⟩, hwr⟩
                · go_wp2_with fail
                  refine hW.mono ?_
                  rintro r w5 ⟨⟨y, rfl⟩, hb5⟩
                  go_wp2_with fail
                  all_goals
                    (go_ret
                     exact ⟨⟨_, rfl⟩, hwr.trans (hb5.mono hwr.size)⟩)
end Go.Proofs.YtjgggmjjikopeaaGreatDoor

/- What is read weighs no more than its tokens. -/
namespace Go.Proofs.YtjgggmjjikopeaaGreatDoor
set_option linter.unusedVariables false

mutual
def exW : Ex → Nat
  | .mk _ _ _ nm ks => nm.length + 1 + exWs ks
def exWs : List Ex → Nat
  | [] => 0
  | e :: r => exW e + exWs r
end
mutual
def stW : St → Nat
  | .mk _ nm e b c => nm.length + 1 + exW e + stWs b + stWs c
def stWs : List St → Nat
  | [] => 0
  | e :: r => stW e + stWs r
end
def vrW (v : Vr) : Nat := v.nm.length + 1
def thW (t : Th) : Nat := t.nm.length + 1 + (t.locals.map vrW).sum + stWs t.body
def pgW (p : Pg) : Nat := (p.shared.map vrW).sum + (p.mutexes.map fun m => m.length + 1).sum + (p.threads.map thW).sum
/-- What tokens weigh. -/
def tkW : List Tk → Nat
  | [] => 0
  | t :: r => t.text.length + 1 + tkW r
/-- What is read and what is left weigh at most so much. -/
def Rs.Lw {α : Type} (f : α → Nat) (R : Rs α) (n : Nat) : Prop := match R with
  | .ok v r => f v + tkW r ≤ n
  | .bad _ _ => True
theorem Rs.Lw.bind {α β : Type} {R : Rs α} {k : α → List Tk → Rs β} {f : α → Nat} {g : β → Nat} {m n : Nat} (h : R.Lw f m) (hk : ∀ v r, f v + tkW r ≤ m → (k v r).Lw g n) : (R.bind k).Lw g n := by
  cases R with
  | ok v r => exact hk v r h
  | bad e p => trivial
theorem Rs.Lw.mono {α : Type} {R : Rs α} {f : α → Nat} {m n : Nat} (h : R.Lw f m) (hm : m ≤ n) : R.Lw f n := by
  cases R with
  | ok v r => exact Nat.le_trans h hm
  | bad e p => trivial
end Go.Proofs.YtjgggmjjikopeaaGreatDoor

/- What is printed is read: values and expressions. -/
namespace Go.Proofs.YtjgggmjjikopeaaGreatDoor
set_option linter.unusedVariables false

theorem dd_all : ∀ (N u : Nat), u < N → ∀ c ∈ Lib.decDigits u, 48 ≤ c.toNat ∧ c.toNat ≤ 57 := by
  intro N
  induction N with
  | zero => intro u h; omega
  | succ N ih =>
    intro u h c hc
    rw [Lib.decDigits] at hc
    split at hc
    · rw [List.mem_singleton] at hc
      subst hc
      have : (UInt8.ofNat (48 + u)).toNat = 48 + u := by simp; omega
      omega
    · rcases List.mem_append.1 hc with hc | hc
      · exact ih (u / 10) (by omega) c hc
      · rw [List.mem_singleton] at hc
        subst hc
        have : (UInt8.ofNat (48 + u % 10)).toNat = 48 + u % 10 := by simp; omega
        omega
theorem dd_dig (u : Nat) : ∀ c ∈ Lib.decDigits u, 48 ≤ c.toNat ∧ c.toNat ≤ 57 := dd_all (u + 1) u (by omega)
theorem dd_ne (u : Nat) : Lib.decDigits u ≠ [] := by
  rw [Lib.decDigits]
  split <;> simp
theorem dd_val : ∀ (N u : Nat), u < N → decVal (Lib.decDigits u) = u := by
  intro N
  induction N with
  | zero => intro u h; omega
  | succ N ih =>
    intro u h
    rw [Lib.decDigits]
    split
    · have : (UInt8.ofNat (48 + u)).toNat = 48 + u := by simp; omega
      simp only [decVal, List.foldl_cons, List.foldl_nil]
      omega
    · have : (UInt8.ofNat (48 + u % 10)).toNat = 48 + u % 10 := by simp; omega
      rw [val_snoc, ih (u / 10) (by omega), this]
      omega
theorem textOf_cases (h : Nat) (hp : Lib.hasPrefix (textOf h) [35] = false) : (h = NAN ∧ textOf h = [110, 97, 110]) ∨ (h = 9218868437227405312 ∧ textOf h = [105, 110, 102]) ∨ (h = 18442240474082181120 ∧ textOf h = [45, 105, 110, 102]) ∨
    (∃ k n, 1 ≤ k ∧ k ≤ 6 ∧ n < 1000000000000000 ∧ quo n (10 ^ k) = home h ∧ textOf h = litOf k n) ∨ (∃ k n, 1 ≤ k ∧ k ≤ 6 ∧ n < 1000000000000000 ∧ quo n (10 ^ k) = home (fneg h) ∧ textOf h = 45 :: litOf k n) := by
  unfold textOf at hp ⊢
  split
  · exact .inl ⟨by assumption, rfl⟩
  · rename_i h1
    rw [if_neg h1] at hp
    split
    · exact .inr (.inl ⟨by assumption, rfl⟩)
    · rename_i h2
      rw [if_neg h2] at hp
      split
      · exact .inr (.inr (.inl ⟨by assumption, rfl⟩))
      · rename_i h3
        rw [if_neg h3] at hp
        cases hq : pr h 1 6 with
        | some kn =>
          obtain ⟨k, n⟩ := kn
          obtain ⟨p1, p2, p3⟩ := pr_sound 6 1 k n h hq
          obtain ⟨p4, p5⟩ := digits_sound p3
          exact .inr (.inr (.inr (.inl ⟨k, n, p1, by omega, p5, p4, rfl⟩)))
        | none =>
          rw [hq] at hp
          cases hq2 : pr (fneg h) 1 6 with
          | some kn =>
            obtain ⟨k, n⟩ := kn
            obtain ⟨p1, p2, p3⟩ := pr_sound 6 1 k n (fneg h) hq2
            obtain ⟨p4, p5⟩ := digits_sound p3
            exact .inr (.inr (.inr (.inr ⟨k, n, p1, by omega, p5, p4, rfl⟩)))
          | none =>
            rw [hq2] at hp
            simp [Lib.hasPrefix] at hp
theorem valOk_type {t b : Nat} (h : valOk t b = true) : t = 1 ∨ t = 2 ∨ t = 3 := by
  unfold valOk at h
  split at h
  · exact .inl (by assumption)
  · split at h
    · exact .inr (.inl (by assumption))
    · split at h
      · exact .inr (.inr (by assumption))
      · cases h
theorem valOk3 {b : Nat} (h : valOk 3 b = true) : home b = b ∧ Lib.hasPrefix (textOf (home b)) [35] = false := by
  unfold valOk at h
  simp at h
  exact h
mutual
/-- All values are words of 64 bits. -/
def exOk : Ex → Prop
  | .mk _ _ b _ ks => b < 18446744073709551616 ∧ exOks ks
def exOks : List Ex → Prop
  | [] => True
  | e :: r => exOk e ∧ exOks r
end
mutual
def stOk : St → Prop
  | .mk _ _ e b c => exOk e ∧ stOks b ∧ stOks c
def stOks : List St → Prop
  | [] => True
  | e :: r => stOk e ∧ stOks r
end
def vrOk (v : Vr) : Prop := v.b < 18446744073709551616
def thOk (t : Th) : Prop := (∀ v ∈ t.locals, vrOk v) ∧ stOks t.body
def pgOk (p : Pg) : Prop := (∀ v ∈ p.shared, vrOk v) ∧ ∀ t ∈ p.threads, thOk t
theorem opnds_eq (op : Nat) (n : Nat) (h : (n : Int) = opnds op) : (n = 0 ∧ (op = 1 ∨ op = 2)) ∨ (n = 1 ∧ 16 ≤ op ∧ op < 20) ∨ (n = 2 ∧ 3 ≤ op ∧ op < 16) := by
  unfold opnds at h
  split at h
  · exact .inl ⟨by omega, by assumption⟩
  · split at h
    · exact .inr (.inl ⟨by omega, by omega⟩)
    · split at h
      · exact .inr (.inr ⟨by omega, by omega⟩)
      · omega

theorem dd_head : ∀ (N u : Nat), u < N → 1 ≤ u → ((Lib.decDigits u).getD 0 0).toNat ≠ 48 := by
  intro N
  induction N with
  | zero => intro u h; omega
  | succ N ih =>
    intro u h h1
    rw [Lib.decDigits]
    split
    · have : (UInt8.ofNat (48 + u)).toNat = 48 + u := by simp; omega
      show (UInt8.ofNat (48 + u)).toNat ≠ 48
      omega
    · have := ih (u / 10) (by omega) (by omega)
      cases h2 : Lib.decDigits (u / 10) with
      | nil => exact absurd h2 (dd_ne _)
      | cons c r => rw [h2] at this; exact this
theorem dd_good (u : Nat) (h : u ≤ 9223372036854775807) : GoodDec (Lib.decDigits u) := by
  have hv := dd_val (u + 1) u (Nat.lt_succ_self _)
  refine ⟨List.length_pos_iff.2 (dd_ne u), fun h0 => ?_, fun j hj => ?_, by omega⟩
  · by_cases h1 : 1 ≤ u
    · exact absurd h0 (dd_head (u + 1) u (Nat.lt_succ_self _) h1)
    · obtain rfl : u = 0 := by omega
      rw [Lib.decDigits]
      rfl
  · rw [List.getD_eq_getElem?_getD, List.getElem?_eq_getElem hj]
    exact dd_dig u _ (List.getElem_mem hj)

/-- No word of the language, no bracket. -/
theorem dig_head {c : UInt8} {q : List UInt8} (h : isDig c.toNat = true) : openOf (c :: q) = 0 ∧ c :: q ≠ [40] ∧ c :: q ≠ [45] ∧ (c ≠ 61 ∧ c ≠ 38 ∧ c ≠ 124) := by
  have e : ∀ (d : UInt8) (p : List UInt8), isDig d.toNat = false → c :: q ≠ d :: p := by
    intro d p hd e
    cases e
    rw [h] at hd
    cases hd
  refine ⟨?_, e _ _ (by decide), e _ _ (by decide), ?_⟩
  · unfold openOf
    rw [if_neg (e _ _ (by decide)), if_neg (e _ _ (by decide)), if_neg (e _ _ (by decide)), if_neg (e _ _ (by decide))]
  · refine ⟨?_, ?_, ?_⟩ <;> (rintro rfl; exact absurd h (by decide))
theorem dig_lit {tk : Tk} {c : UInt8} {q : List UInt8} (h : isDig c.toNat = true) (hx : tk.text = c :: q) (hk : tk.kind = 2 ∨ tk.kind = 3) : litTk tk = some (valT tk.kind, tk.bits) := by
  have e : ∀ (d : UInt8) (p : List UInt8), isDig d.toNat = false → tk.text ≠ d :: p := by
    intro d p hd e
    rw [hx] at e
    cases e
    rw [h] at hd
    cases hd
  unfold litTk
  rw [if_neg (e _ _ (by decide)), if_neg (e _ _ (by decide)), if_neg (e _ _ (by decide)), if_neg (e _ _ (by decide)), if_pos hk]
theorem good_head {x : List UInt8} (h : GoodDec x) : ∃ c q, x = c :: q ∧ isDig c.toNat = true := by
  cases x with
  | nil => exact absurd h.1 (by simp)
  | cons c q => exact ⟨c, q, rfl, good_dig h c List.mem_cons_self⟩
theorem lit_head {x : List UInt8} (h : IsLit x) : ∃ c q, x = c :: q ∧ isDig c.toNat = true := by
  have hs := lit_split h
  obtain ⟨c, q, e, hc⟩ := good_head h.2.2.2.1
  rw [e] at hs
  exact ⟨c, _, hs, hc⟩

/-- A text that is one token, a literal. -/
def OneLit (x : List UInt8) (v : Nat × Nat) : Prop := ∃ K, (∀ r kr, Sp r → LexTo r kr → LexTo (x ++ r) ((K, x) :: kr)) ∧
  (∀ tk : Tk, tk.kind = K → tk.text = x → tk.bits = valB K x → litTk tk = some v ∧ (signlessT tk = false ∨ v.1 = 2 ∨ v = (3, 9221120237041090560))) ∧ (openOf x = 0 ∧ x ≠ [40] ∧ x ≠ [45]) ∧ ∃ c q, x = c :: q ∧ c ≠ 61 ∧ c ≠ 38 ∧ c ≠ 124
theorem one_dec {x : List UInt8} (h : GoodDec x) : OneLit x (1, decVal x) := by
  obtain ⟨c, q, rfl, hc⟩ := good_head h
  obtain ⟨a, b, d, e⟩ := dig_head (q := q) hc
  refine ⟨2, fun r kr hr k => .num2 h hr k, fun tk h1 h2 h3 => ⟨?_, .inl ?_⟩, ⟨a, b, d⟩, c, q, rfl, e⟩
  · rw [dig_lit hc h2 (.inl h1), h1, h3]; rfl
  · simp [signlessT, h1]
theorem one_real {x : List UInt8} (h : IsLit x) : OneLit x (3, quo (litNum x) (10 ^ (behindOf x).length)) := by
  obtain ⟨c, q, e0, hc⟩ := lit_head h
  obtain ⟨a, b, d, e⟩ := dig_head (q := q) hc
  refine ⟨3, fun r kr hr k => .num3 h hr k, fun tk h1 h2 h3 => ⟨?_, .inl ?_⟩, by rw [e0]; exact ⟨a, b, d⟩, c, q, e0, e⟩
  · rw [dig_lit hc (h2.trans e0) (.inr h1), h1, h3]; rfl
  · simp [signlessT, h1]
theorem one_word {x : List UInt8} {v : Nat × Nat} (hx : (x = [116, 114, 117, 101] ∧ v = (2, 1)) ∨ (x = [102, 97, 108, 115, 101] ∧ v = (2, 0)) ∨ (x = [110, 97, 110] ∧ v = (3, 9221120237041090560)) ∨ (x = [105, 110, 102] ∧ v = (3, 9218868437227405312))) : OneLit x v := by
  rcases hx with ⟨rfl, rfl⟩ | ⟨rfl, rfl⟩ | ⟨rfl, rfl⟩ | ⟨rfl, rfl⟩
  all_goals refine ⟨1, fun r kr hr k => .word (by decide) (by decide) (by decide) hr k, fun tk h1 h2 h3 => ⟨by unfold litTk; rw [h2]; rfl, ?_⟩, by decide, _, _, rfl, by decide⟩
  · exact .inr (.inl rfl)
  · exact .inr (.inl rfl)
  · exact .inr (.inr rfl)
  · exact .inl (by simp [signlessT, h2])

/-- A value's text: a literal, or a sign and a literal. -/
theorem val_two {t b : Nat} (h : valOk t b = true) (hb : b < 18446744073709551616) : OneLit (valTx t b) (t, b) ∨ ∃ y v, valTx t b = 45 :: y ∧ OneLit y v ∧ v.1 = t ∧ negV v = (t, b) ∧ ¬ (v.1 = 2 ∨ v = (3, 9221120237041090560)) := by
  rcases valOk_type h with rfl | rfl | rfl
  · have e : valTx 1 b = Lib.itoa (sgn b) := rfl
    have hn : b ≠ 9223372036854775808 := by simpa [valOk] using h
    rw [e]
    unfold Lib.itoa sgn
    split
    · rename_i hlt
      rw [if_neg (by omega)]
      left
      have := one_dec (dd_good b (by omega))
      rw [dd_val (b + 1) b (Nat.lt_succ_self _)] at this
      simpa using this
    · rename_i hlt
      rw [if_pos (by omega)]
      right
      have hu : ((b : Int) - 18446744073709551616).natAbs = 18446744073709551616 - b := by omega
      rw [hu]
      have := one_dec (dd_good (18446744073709551616 - b) (by omega))
      rw [dd_val _ _ (Nat.lt_succ_self _)] at this
      refine ⟨_, _, rfl, this, rfl, ?_, by simp⟩
      unfold negV
      rw [if_pos rfl]
      dsimp only
      rw [show 18446744073709551616 - (18446744073709551616 - b) = b by omega, Nat.mod_eq_of_lt hb]
  · have e : valTx 2 b = Lib.formatBool (decide (b = 1)) := rfl
    have h1 : b ≤ 1 := by simpa [valOk] using h
    left
    rw [e]
    obtain rfl | rfl : b = 0 ∨ b = 1 := by omega
    · exact one_word (.inr (.inl ⟨by decide, rfl⟩))
    · exact one_word (.inl ⟨by decide, rfl⟩)
  · obtain ⟨a1, a2⟩ := valOk3 h
    have e : valTx 3 b = textOf (home b) := rfl
    rw [e]
    rw [a1] at a2 ⊢
    rcases textOf_cases b a2 with ⟨e1, ht⟩ | ⟨e1, ht⟩ | ⟨e1, ht⟩ | ⟨k, n, h1, h6, hn, hq, ht⟩ | ⟨k, n, h1, h6, hn, hq, ht⟩
    · left; rw [ht, e1]; exact one_word (.inr (.inr (.inl ⟨rfl, rfl⟩)))
    · left; rw [ht, e1]; exact one_word (.inr (.inr (.inr ⟨rfl, rfl⟩)))
    · right; rw [ht, e1]; exact ⟨_, _, rfl, one_word (.inr (.inr (.inr ⟨rfl, rfl⟩))), rfl, by decide, by decide⟩
    · left
      obtain ⟨l1, l2, l3, -⟩ := litOf_lit k n h1 h6 hn
      have := one_real l1
      rw [l2, l3, hq, a1] at this
      rw [ht]
      exact this
    · right
      obtain ⟨l1, l2, l3, -⟩ := litOf_lit k n h1 h6 hn
      have := one_real l1
      rw [l2, l3, hq] at this
      rw [ht]
      have ef : fneg (home (fneg b)) = b := by rw [home_fneg b hb, fneg_fneg hb, a1]
      refine ⟨_, _, rfl, this, rfl, ?_, ?_⟩
      · show (3, fneg (home (fneg b))) = (3, b)
        rw [ef]
      · rintro (h | h)
        · cases h
        · have h : home (fneg b) = 9221120237041090560 := congrArg Prod.snd h
          rw [h] at ef
          rw [← ef] at ht
          exact absurd ht (by
            rw [show textOf (fneg 9221120237041090560) = [110, 97, 110] by decide]
            intro h
            cases h)
theorem neg_pre {y : List UInt8} : Lib.hasPrefix (45 :: y) [45] = true := by simp [Lib.hasPrefix]
theorem lit_one {t b : Nat} (h : litOk t b = true) (hb : b < 18446744073709551616) : OneLit (valTx t b) (t, b) := by
  unfold litOk at h
  rw [Bool.and_eq_true] at h
  rcases val_two h.1 hb with h1 | ⟨y, v, e, -⟩
  · exact h1
  · have := h.2
    rw [e, neg_pre] at this
    cases this
/-- A value's text is read as it. -/
theorem val_one {t b : Nat} (h : valOk t b = true) (hb : b < 18446744073709551616) : ∃ ks, (∀ r kr, Sp r → LexTo r kr → LexTo (valTx t b ++ r) (ks ++ kr)) ∧ ∀ ts rest, Are ts ks → valueR t (ts ++ rest) = .ok (t, b) rest := by
  rcases val_two h hb with ⟨K, h1, h2, ⟨-, -, h3⟩, -⟩ | ⟨y, v, e, ⟨K, h1, h2, -, c, q, e2, hc⟩, hv, hn, hx⟩
  · refine ⟨[(K, valTx t b)], h1, fun ts rest ha => ?_⟩
    obtain ⟨tk, r, rfl, a1, a2, a3, a4⟩ := ha.cons
    rw [a4.nil]
    show valueR t (tk :: rest) = _
    unfold valueR
    rw [if_neg (show ¬ (hdT (tk :: rest)).text = [45] from a2 ▸ h3)]
    unfold valueM
    show (match litTk tk with | none => _ | some v => _) = _
    rw [(h2 tk a1 a2 a3).1]
    simp
  · refine ⟨[(4, [45]), (K, y)], fun r kr hr k => ?_, fun ts rest ha => ?_⟩
    · rw [e]
      exact .sign1 (by decide) (by rw [e2]; exact nq.of hc) (h1 r kr hr k)
    · obtain ⟨t0, r, rfl, b1, b2, b3, b4⟩ := ha.cons
      obtain ⟨tk, r, rfl, a1, a2, a3, a4⟩ := b4.cons
      rw [a4.nil]
      show valueR t (t0 :: tk :: rest) = _
      unfold valueR
      rw [if_pos (show (hdT (t0 :: tk :: rest)).text = [45] from b2)]
      unfold valueM
      obtain ⟨c1, c2⟩ := h2 tk a1 a2 a3
      have c2 : signlessT tk = false := by
        rcases c2 with c2 | c2
        · exact c2
        · exact absurd c2 hx
      show (match litTk tk with | none => _ | some v => if true && signlessT tk then _ else _) = _
      rw [c1]
      simp [c2, hv, hn]

theorem htL_le {l : List Ex} {n : Nat} (h : ∀ e ∈ l, htX e ≤ n) : htL l ≤ n := by
  induction l with
  | nil => exact Nat.zero_le _
  | cons e r ih =>
    rw [htL]
    have := h e List.mem_cons_self
    have := ih fun x hx => h x (List.mem_cons_of_mem _ hx)
    omega
theorem mayE_ht : ∀ (h : Nat) (e : Ex), mayE h e = true → htX e ≤ h := by
  intro h
  induction h with
  | zero => intro e hm; cases hm
  | succ h ih =>
    rintro ⟨op, t, b, nm, ks⟩ hm
    rw [mayE, Bool.and_eq_true, decide_eq_true_eq] at hm
    obtain ⟨ho, hm⟩ := hm
    rw [htX]
    rcases opnds_eq op ks.length ho with ⟨h0, hop⟩ | ⟨h1, hop⟩ | ⟨h2, hop⟩
    · rw [List.length_eq_zero_iff.1 h0]
      show 0 + 1 ≤ _
      omega
    all_goals
      rw [if_neg (by omega), if_neg (by omega), Bool.and_eq_true] at hm
      have := htL_le fun e he => ih e (List.all_eq_true.1 hm.1 e he)
      omega

theorem rowF_of {d n : Nat} {l r : List Tk} {x : Ex} {R : Rs Ex} (h : ∃ f, operF f d l = some (.ok x r)) (k : ∃ f, loopF f n 5 d x r = some R) : ∃ f, rowF f n d l = some R := by
  obtain ⟨f, h⟩ := h
  obtain ⟨g, k⟩ := k
  refine ⟨max f g + 1, ?_⟩
  rw [rowF, operF_le h (by omega)]
  exact loopF_le k (by omega)
theorem loop_stop {d n m : Nat} {l : List Tk} {x : Ex} (hn : 1 ≤ n) (h : (bindOf (hdT l).text).2 = 0) : ∃ f, loopF f n m d x l = some (.ok x l) := ⟨1, by rw [loopF, if_pos (.inl (by omega))]⟩
theorem loop_step {d n m op lv : Nat} {t : Tk} {l r : List Tk} {x y : Ex} {R : Rs Ex} (hb : bindOf t.text = (op, lv)) (h1 : n ≤ lv) (h2 : lv ≤ m) (h : ∃ f, rowF f (lv + 1) d l = some (.ok y r)) (hh : htX (.mk op 0 0 [] [x, y]) ≤ 32) (k : ∃ f, loopF f n (mostOf lv) d (.mk op 0 0 [] [x, y]) r = some R) : ∃ f, loopF f n m d x (t :: l) = some R := by
  obtain ⟨f, h⟩ := h
  obtain ⟨g, k⟩ := k
  refine ⟨max f g + 1, ?_⟩
  rw [loopF]
  show (if (bindOf t.text).2 < n ∨ m < (bindOf t.text).2 then _ else match rowF (max f g) ((bindOf t.text).2 + 1) d l with | none => _ | some (.bad e p) => _ | some (.ok y r) => match nodeR t.place (bindOf t.text).1 [x, y] r with | .bad e p => _ | .ok z r => loopF (max f g) n (mostOf (bindOf t.text).2) d z r) = _
  rw [hb]
  dsimp only
  rw [if_neg (by omega), rowF_le h (by omega)]
  dsimp only
  unfold nodeR
  rw [if_neg (by omega)]
  exact loopF_le k (by omega)
/-- An expression between brackets. -/
theorem brk_of {d : Nat} {t u : Tk} {l r : List Tk} {x : Ex} (h1 : t.text = [40]) (h2 : u.text = [41]) (h : ∃ f, rowF f 1 (d + 1) l = some (.ok x (u :: r))) : ∃ f, brkF f d (t :: l) = some (.ok x r) := by
  obtain ⟨f, h⟩ := h
  refine ⟨f + 1, ?_⟩
  rw [brkF, show mustR [40] (t :: l) = .ok () l by unfold mustR; exact if_pos h1]
  dsimp only
  rw [h]
  dsimp only
  rw [show mustR [41] (u :: r) = .ok () r by unfold mustR; exact if_pos h2]
theorem sg_facts : ∀ op, op < 16 → 3 ≤ op → sgT op ∈ signs ∧ ((sgT op).length = 1 ∨ (sgT op).length = 2) ∧ (bindOf (sgT op)).1 = op ∧ 1 ≤ (bindOf (sgT op)).2 ∧ (bindOf (sgT op)).2 ≤ 5 := by decide
theorem LexTo.sg {op : Nat} {r : List UInt8} {ks : List (Nat × List UInt8)} (h3 : 3 ≤ op) (h16 : op < 16) (k : LexTo (32 :: r) ks) : LexTo (sgT op ++ 32 :: r) ((4, sgT op) :: ks) := by
  obtain ⟨h, hl, -⟩ := sg_facts op h16 h3
  match hx : sgT op, hl with
  | [c], _ => exact .sign1 (hx ▸ h) (Sp.mk32 r).nq k
  | [c, d], _ => exact .sign2 (hx ▸ h) k

/-- What is printed of an expression is read as it. -/
theorem ex_both : ∀ (h : Nat) (e : Ex), mayE h e = true → exOk e → h ≤ 32 → ∃ ks, (∀ r kr, Sp r → LexTo r kr → LexTo (exT e ++ r) (ks ++ kr)) ∧
    (∀ d ts rest, d + h ≤ 33 → Are ts ks → ∃ f, operF f d (ts ++ rest) = some (.ok e rest)) ∧ ∃ c q, exT e = c :: q ∧ c ≠ 61 ∧ c ≠ 38 ∧ c ≠ 124 := by
  intro h
  induction h with
  | zero => intro e hm; cases hm
  | succ h ih =>
    rintro ⟨op, t, b, nm, ks⟩ hm hk h32
    have hht := mayE_ht _ _ hm
    rw [mayE, Bool.and_eq_true, decide_eq_true_eq] at hm
    obtain ⟨ho, hm⟩ := hm
    unfold exOk at hk
    have hne : ∀ x, mayE h x = true → 1 ≤ h := by
      intro x hx
      cases h with
      | zero => cases hx
      | succ h => omega
    rcases opnds_eq op ks.length ho with ⟨h0, hop⟩ | ⟨h1, hop⟩ | ⟨h2, hop⟩
    · have hks : ks = [] := List.length_eq_zero_iff.1 h0
      subst hks
      rcases hop with rfl | rfl
      · simp only [if_true, Bool.and_eq_true, decide_eq_true_eq] at hm
        obtain ⟨hl, rfl⟩ := hm
        obtain ⟨K, a1, a2, ⟨a3, a4, a5⟩, a6⟩ := lit_one hl hk.1
        refine ⟨[(K, valTx t b)], a1, fun d ts rest hd ha => ⟨1, ?_⟩, a6⟩
        obtain ⟨tk, r, rfl, b1, b2, b3, b4⟩ := ha.cons
        rw [b4.nil]
        show operF 1 d (tk :: rest) = _
        rw [operF, if_pos (show openOf (hdT (tk :: rest)).text = 0 ∧ (hdT (tk :: rest)).text ≠ [40] from b2.symm ▸ ⟨a3, a4⟩)]
        unfold leafR
        show some (match litTk tk with | some v => _ | none => _) = _
        rw [(a2 tk b1 b2 b3).1]
        rfl
      · simp only [show ¬ (2 : Nat) = 1 by decide, if_false, if_true, Bool.and_eq_true, decide_eq_true_eq] at hm
        obtain ⟨hn, rfl, rfl⟩ := hm
        have nw : ∀ x, x ∈ words → nm ≠ x := by
          rintro x hx rfl
          cases nm with
          | nil => exact absurd hn (by decide)
          | cons c r =>
            rw [isNm_eq] at hn
            simp [isWd, hx] at hn
        have ns : ∀ x, isNm x = false → nm ≠ x := by
          rintro x hx rfl
          rw [hx] at hn
          cases hn
        refine ⟨[(1, nm)], fun r kr hr k => .name hn hr k, fun d ts rest hd ha => ⟨1, ?_⟩, ?_⟩
        · obtain ⟨tk, r, rfl, b1, b2, b3, b4⟩ := ha.cons
          rw [b4.nil]
          have b2 : tk.text = nm := b2
          have b1 : tk.kind = 1 := b1
          show operF 1 d (tk :: rest) = _
          have o0 : openOf nm = 0 := by
            unfold openOf
            rw [if_neg (ns _ (by decide)), if_neg (ns _ (by decide)), if_neg (ns _ (by decide)), if_neg (ns _ (by decide))]
          rw [operF, if_pos (show openOf (hdT (tk :: rest)).text = 0 ∧ (hdT (tk :: rest)).text ≠ [40] from b2.symm ▸ ⟨o0, ns _ (by decide)⟩)]
          unfold leafR
          show some (match litTk tk with | some v => _ | none => if isNm tk.text then _ else _) = _
          have l0 : litTk tk = none := by
            unfold litTk
            rw [b2, if_neg (ns _ (by decide)), if_neg (ns _ (by decide)), if_neg (ns _ (by decide)), if_neg (ns _ (by decide)), if_neg (by omega)]
          rw [l0, b2, hn]
          show some (Rs.ok (Ex.mk 2 0 0 tk.text []) rest) = _
          rw [b2]
        · cases nm with
          | nil => exact absurd hn (by decide)
          | cons c r =>
            refine ⟨c, r, rfl, ?_⟩
            rw [isNm_eq] at hn
            simp only [Bool.and_eq_true] at hn
            have := hn.1.1.2
            refine ⟨?_, ?_, ?_⟩ <;> (rintro rfl; exact absurd this (by decide))
    · obtain ⟨x, rfl⟩ : ∃ x, ks = [x] := List.length_eq_one_iff.1 h1
      rw [if_neg (by omega), if_neg (by omega)] at hm
      simp only [List.all_cons, List.all_nil, Bool.and_true, Bool.and_eq_true, decide_eq_true_eq] at hm
      obtain ⟨hx, rfl, rfl, rfl⟩ := hm
      unfold exOks at hk
      obtain ⟨ks, a1, a2, c, q, a3, a4⟩ := ih x hx hk.2.1 (by omega)
      have h1 := hne x hx
      have hnq : ∀ r, nq (exT x ++ r) := fun r => by rw [a3]; exact nq.of a4
      have ho' : (∃ p : UInt8, (op = 16 ∨ op = 17) ∧ exT (.mk op 0 0 [] [x]) = p :: exT x ∧ [p] ∈ signs ∧ openOf [p] = op ∧ p ≠ 61 ∧ p ≠ 38 ∧ p ≠ 124) ∨ ∃ w : List UInt8, exT (.mk op 0 0 [] [x]) = w ++ (40 :: (exT x ++ [41])) ∧ w ∈ words ∧ openOf w = op ∧ (op = 18 ∨ op = 19) := by
        obtain rfl | rfl | rfl | rfl : op = 16 ∨ op = 17 ∨ op = 18 ∨ op = 19 := by omega
        · exact .inl ⟨45, .inl rfl, rfl, by decide, by decide, by decide⟩
        · exact .inl ⟨33, .inr rfl, rfl, by decide, by decide, by decide⟩
        · exact .inr ⟨[105, 110, 116], rfl, by decide, by decide, .inl rfl⟩
        · exact .inr ⟨[114, 101, 97, 108], rfl, by decide, by decide, .inr rfl⟩
      rcases ho' with ⟨p, hp, e, hs, hq, hne⟩ | ⟨w, e, hw, hq, hp⟩
      · refine ⟨(4, [p]) :: ks, fun r kr hr k => ?_, fun d ts rest hd ha => ?_, p, exT x, e, hne⟩
        · rw [e]
          exact .sign1 hs (hnq r) (a1 r kr hr k)
        · obtain ⟨tk, r, rfl, b1, b2, b3, b4⟩ := ha.cons
          obtain ⟨f, hf⟩ := a2 (d + 1) r rest (by omega) b4
          refine ⟨f + 1, ?_⟩
          have b2 : tk.text = [p] := b2
          show operF (f + 1) d (tk :: (r ++ rest)) = _
          rw [operF]
          show (if openOf tk.text = 0 ∧ tk.text ≠ [40] then _ else if 32 ≤ d then _ else if openOf tk.text = 16 ∨ openOf tk.text = 17 then match operF f (d + 1) (r ++ rest) with | none => _ | some (.bad e p) => _ | some (.ok y r) => some (nodeR tk.place (openOf tk.text) [y] r) else _) = _
          rw [b2, hq, if_neg (by omega), if_neg (by omega), if_pos hp, hf]
          dsimp only
          unfold nodeR
          rw [if_neg (by omega)]
      · refine ⟨(1, w) :: (4, [40]) :: (ks ++ [(4, [41])]), fun r kr hr k => ?_, fun d ts rest hd ha => ?_, ?_⟩
        · rw [e]
          have k2 := a1 (41 :: r) _ (Sp.mk41 r) (.sign1 (by decide) hr.nq k)
          have k3 := LexTo.sign1 (c := 40) (by decide) (hnq (41 :: r)) k2
          have hw2 : ∀ w ∈ words, w.length ≤ 24 ∧ isLet (w.headD 0).toNat = true ∧ allAl w = true := by decide
          obtain ⟨w1, w2, w3⟩ := hw2 w hw
          have k4 := LexTo.word w1 w2 w3 ⟨40, _, rfl, .inr (.inl rfl)⟩ k3
          simpa using k4
        · obtain ⟨t0, r, rfl, b1, b2, b3, b4⟩ := ha.cons
          obtain ⟨t1, r, rfl, c1, c2, c3, c4⟩ := b4.cons
          obtain ⟨xs, y, rfl, d1, d2⟩ := c4.app
          obtain ⟨t2, r, rfl, e1, e2, e3, e4⟩ := d2.cons
          rw [e4.nil]
          have b2 : t0.text = w := b2
          obtain ⟨f, hf⟩ := brk_of (d := d) (t := t1) (u := t2) (l := xs ++ t2 :: rest) (r := rest) c2 e2 (rowF_of (a2 (d + 1) xs (t2 :: rest) (by omega) d1) (loop_stop (Nat.le_refl _) (by rw [show (hdT (t2 :: rest)).text = [41] from e2]; rfl)))
          refine ⟨f + 1, ?_⟩
          have el : (t0 :: t1 :: (xs ++ [t2])) ++ rest = t0 :: t1 :: (xs ++ t2 :: rest) := by simp
          rw [el, operF]
          show (if openOf t0.text = 0 ∧ t0.text ≠ [40] then _ else if 32 ≤ d then _ else if openOf t0.text = 16 ∨ openOf t0.text = 17 then _ else if openOf t0.text = 0 then _ else match brkF f d (t1 :: (xs ++ t2 :: rest)) with | none => _ | some (.bad e p) => _ | some (.ok y r) => some (nodeR t0.place (openOf t0.text) [y] r)) = _
          rw [b2, hq, if_neg (by omega), if_neg (by omega), if_neg (by omega), if_neg (by omega), hf]
          dsimp only
          unfold nodeR
          rw [if_neg (by omega)]
        · have hw3 : ∀ w ∈ words, ∃ c q, w = c :: q ∧ c ≠ 61 ∧ c ≠ 38 ∧ c ≠ 124 := by
            intro w hw
            simp only [words, List.mem_cons, List.not_mem_nil, or_false] at hw
            rcases hw with rfl | rfl | rfl | rfl | rfl | rfl | rfl | rfl | rfl | rfl | rfl | rfl | rfl | rfl | rfl | rfl | rfl | rfl <;> exact ⟨_, _, rfl, by decide⟩
          obtain ⟨c, q, rfl, h⟩ := hw3 w hw
          exact ⟨c, _, e, h⟩
    · obtain ⟨x, y, rfl⟩ : ∃ x y, ks = [x, y] := by
        match ks, h2 with
        | [x, y], _ => exact ⟨x, y, rfl⟩
      rw [if_neg (by omega), if_neg (by omega)] at hm
      simp only [List.all_cons, List.all_nil, Bool.and_true, Bool.and_eq_true, decide_eq_true_eq] at hm
      obtain ⟨⟨hx, hy⟩, rfl, rfl, rfl⟩ := hm
      unfold exOks exOks at hk
      obtain ⟨ka, a1, a2, c, q, a3, a4⟩ := ih x hx hk.2.1 (by omega)
      obtain ⟨kb, b1, b2, -⟩ := ih y hy hk.2.2.1 (by omega)
      have h1 := hne x hx
      have e : exT (.mk op 0 0 [] [x, y]) = 40 :: (exT x ++ 32 :: (sgT op ++ 32 :: (exT y ++ [41]))) := by rw [exT, if_neg (by omega), if_neg (by omega)]
      obtain ⟨s1, s2, s3, s4, s5⟩ := sg_facts op hop.2 hop.1
      refine ⟨(4, [40]) :: (ka ++ (4, sgT op) :: (kb ++ [(4, [41])])), fun r kr hr k => ?_, fun d ts rest hd ha => ?_, 40, _, e, by decide⟩
      · rw [e]
        have k2 := b1 (41 :: r) _ (Sp.mk41 r) (.sign1 (by decide) hr.nq k)
        have k3 := LexTo.sg (op := op) hop.1 hop.2 (LexTo.bl (c := 32) (by decide) k2)
        have k4 := a1 _ _ (Sp.mk32 _) (LexTo.bl (c := 32) (by decide) k3)
        have k5 := LexTo.sign1 (c := 40) (by decide) (by rw [a3]; exact nq.of a4) k4
        simpa using k5
      · obtain ⟨t0, r, rfl, u1, u2, u3, u4⟩ := ha.cons
        obtain ⟨xs, r, rfl, v1, v2⟩ := u4.app
        obtain ⟨t1, r, rfl, w1, w2, w3, w4⟩ := v2.cons
        obtain ⟨ys, r, rfl, x1, x2⟩ := w4.app
        obtain ⟨t2, r, rfl, y1, y2, y3, y4⟩ := x2.cons
        rw [y4.nil]
        have y2 : t2.text = [41] := y2
        have w2 : t1.text = sgT op := w2
        have z : (bindOf (hdT (t2 :: rest)).text).2 = 0 := by show (bindOf t2.text).2 = 0; rw [y2]; rfl
        have hb : bindOf t1.text = (op, (bindOf (sgT op)).2) := by rw [w2]; exact Prod.ext s3 rfl
        have r1 := rowF_of (n := (bindOf (sgT op)).2 + 1) (b2 (d + 1) ys (t2 :: rest) (by omega) x1) (loop_stop (by omega) z)
        have r2 := loop_step (n := 1) (m := 5) hb s4 s5 r1 (x := x) (by omega) (loop_stop (Nat.le_refl _) z)
        have r3 := rowF_of (n := 1) (a2 (d + 1) xs (t1 :: (ys ++ t2 :: rest)) (by omega) v1) r2
        obtain ⟨f, hf⟩ := brk_of (d := d) (t := t0) (u := t2) (r := rest) u2 y2 r3
        refine ⟨f + 1, ?_⟩
        have el : (t0 :: (xs ++ t1 :: (ys ++ [t2]))) ++ rest = t0 :: (xs ++ t1 :: (ys ++ t2 :: rest)) := by simp
        rw [el, operF]
        have u2 : t0.text = [40] := u2
        show (if openOf t0.text = 0 ∧ t0.text ≠ [40] then _ else if 32 ≤ d then _ else if openOf t0.text = 16 ∨ openOf t0.text = 17 then _ else if openOf t0.text = 0 then brkF f d (t0 :: (xs ++ t1 :: (ys ++ t2 :: rest))) else _) = _
        rw [u2, if_neg (by decide), if_neg (by omega), if_neg (by decide), if_pos (by decide), hf]

/-- An expression of a statement. -/
theorem expr_both {e : Ex} (hm : mayE 32 e = true) (hk : exOk e) : ∃ ks, (∀ r kr, Sp r → LexTo r kr → LexTo (exT e ++ r) (ks ++ kr)) ∧
    (∀ ts rest, Are ts ks → (bindOf (hdT rest).text).2 = 0 → exprR (ts ++ rest) = .ok e rest) ∧ ∀ r, nq (exT e ++ r) := by
  obtain ⟨ks, h1, h2, c, q, e1, e2⟩ := ex_both 32 e hm hk (Nat.le_refl _)
  refine ⟨ks, h1, fun ts rest ha hb => ?_, fun r => by rw [e1]; exact nq.of e2⟩
  obtain ⟨f, hf⟩ := rowF_of (n := 1) (h2 0 ts rest (by omega) ha) (loop_stop (Nat.le_refl _) hb)
  exact row_one (exprR_row _) hf

end Go.Proofs.YtjgggmjjikopeaaGreatDoor

/- Trees that came in are opened. -/
namespace Go.Proofs.YtjgggmjjikopeaaGreatDoor
open Go.ChangeShapes Go.WideShapes Go.ChangeAt Go.RowKit
set_option linter.unusedVariables false

theorem bulk_one {H : Type} (d : DataW H) : 1 ≤ Rows.uptoBulk d := by
  cases d with
  | lit l => cases l <;> simp [Rows.uptoBulk]
  | nil => simp [Rows.uptoBulk]
  | ptr d => simp [Rows.uptoBulk]
  | slice elems spare => simp [Rows.uptoBulk]
  | agg parts => simp [Rows.uptoBulk]
  | iface t d => simp [Rows.uptoBulk]
  | map entries => simp [Rows.uptoBulk]
  | held h => simp [Rows.uptoBulk]
theorem bulk_mem {H : Type} {d : DataW H} {l : List (DataW H)} (h : d ∈ l) : Rows.uptoBulk d ≤ Rows.uptoBulkAll l := by
  induction l with
  | nil => cases h
  | cons x r ih =>
    simp only [Rows.uptoBulkAll]
    rcases List.mem_cons.1 h with rfl | h
    · omega
    · have := ih h; omega
theorem bulk_len {H : Type} (l : List (DataW H)) : l.length ≤ Rows.uptoBulkAll l := by
  induction l with
  | nil => simp
  | cons x r ih => have := bulk_one x; simp only [Rows.uptoBulkAll, List.length_cons]; omega

/-- For each of a list one that fits. -/
theorem choose_list {α β : Type} : ∀ (l : List β) (R : Nat → β → α → Prop), (∀ i b, l[i]? = some b → ∃ a, R i b a) → ∃ vs : List α, vs.length = l.length ∧ ∀ i b a, l[i]? = some b → vs[i]? = some a → R i b a
  | [], R, h => ⟨[], rfl, fun i b a hb => by simp at hb⟩
  | x :: r, R, h => by
    obtain ⟨a, ha⟩ := h 0 x rfl
    obtain ⟨vs, hl, hv⟩ := choose_list r (fun i => R (i + 1)) (fun i b hb => h (i + 1) b (by simpa using hb))
    refine ⟨a :: vs, by simp [hl], fun i b c hb hc => ?_⟩
    cases i with
    | zero => simp at hb hc; subst hb hc; exact ha
    | succ i => exact hv i b c (by simpa using hb) (by simpa using hc)

theorem sum_bulk {α H : Type} (wt : α → Nat) : ∀ (vs : List α) (l : List (DataW H)), vs.length = l.length → (∀ (i : Nat) (v : α) (d : DataW H), vs[i]? = some v → l[i]? = some d → wt v ≤ Rows.uptoBulk d) → (vs.map wt).sum ≤ Rows.uptoBulkAll l
  | [], [], _, _ => by simp
  | [], d :: r, h, _ => by simp at h
  | v :: vs, [], h, _ => by simp at h
  | v :: vs, d :: r, h, hw => by
    have h0 := hw 0 v d rfl rfl
    have := sum_bulk wt vs r (by simpa using h) (fun i a b ha hb => hw (i + 1) a b (by simpa using ha) (by simpa using hb))
    simp only [List.map_cons, List.sum_cons, Rows.uptoBulkAll]
    omega

section
variable {H : Type} {enc : TypeId × Value → H} {w : World} {sp : Nat → Bool} {held : Bool}

/-- A row that came in. -/
theorem open_row {α : Type} (t e k : Nat) (hk : 0 < k) (ht : Tryz.prog.underlying t = some (.slice e)) (hc : Tryz.prog.cellsOf e = k) (wt : α → Nat) (G : α → List Value → Prop)
    (fuel : Nat) (cs : List Value) (x : DataW H × List MemPlace) (h : DataW.trod enc Tryz.prog w 0 sp held fuel t cs = some x) (N : Nat) (hN : Rows.uptoBulk x.1 ≤ N)
    (ho : ∀ n, n < fuel → ∀ (cs' : List Value) (y : DataW H × List MemPlace), DataW.trod enc Tryz.prog w 0 sp held n e cs' = some y → Rows.uptoBulk y.1 ≤ N → ∃ v : α, G v cs' ∧ wt v ≤ Rows.uptoBulk y.1) :
    ∃ (a : Option Addr) (c : Nat) (vs : List α), cs = [.slice a vs.length c] ∧ vs.length ≤ N ∧ vs.length ≤ c ∧ (vs.map wt).sum + 1 ≤ Rows.uptoBulk x.1 ∧ (vs = [] ∨ ∃ g o, a = some ⟨g, o, none⟩ ∧ g < w.heap.size ∧ ∀ (i : Nat) (v : α), vs[i]? = some v → ∃ cs', w.rangeAt g (o + i * k) cs' ∧ G v cs') := by
  rcases DataW.trod_slice ht h with ⟨rfl, rfl⟩ | ⟨ad, len, cap, elems, rest, n, hf, rfl, rfl, hb, hl, hm, hlen, hel, -, -⟩
  · exact ⟨none, 0, [], rfl, by simp, by simp, by simp [Rows.uptoBulk], .inl rfl⟩
  · have hbk : Rows.uptoBulkAll (elems.map (·.1)) + 1 ≤ Rows.uptoBulk (DataW.slice (elems.map (·.1)) (rest.map (·.1))) := by
      simp only [Rows.uptoBulk]
      omega
    rw [hc] at hel
    obtain ⟨vs, hvl, hv⟩ := choose_list elems (fun i b (v : α) => ∃ cs', w.cells? 0 (ad.add (i * k)) k = some cs' ∧ G v cs' ∧ wt v ≤ Rows.uptoBulk b.1) (fun i b hib => by
      have hi : i < len := by
        have := (List.getElem?_eq_some_iff.1 hib).1
        omega
      have h0 := hel i hi
      rw [hib] at h0
      obtain ⟨cs', h1, h2⟩ := Option.bind_eq_some_iff.1 h0
      have hbb : Rows.uptoBulk b.1 ≤ N := by
        have := bulk_mem (List.mem_map_of_mem (f := (·.1)) (List.mem_of_getElem? hib))
        simp only at hN
        omega
      obtain ⟨v, g1, g2⟩ := ho n (by omega) cs' b h2 hbb
      exact ⟨v, cs', h1, g1, g2⟩)
    have hlv : vs.length = len := by rw [hvl, hlen]
    have hsum : (vs.map wt).sum ≤ Rows.uptoBulkAll (elems.map (·.1)) := sum_bulk wt vs _ (by simp [hvl]) (fun i v d h1 h2 => by
      rw [List.getElem?_map] at h2
      obtain ⟨b, hb1, rfl⟩ := Option.map_eq_some_iff.1 h2
      exact (hv i b v hb1 h1).choose_spec.2.2)
    have hln := bulk_len (elems.map (·.1))
    rw [List.length_map] at hln
    refine ⟨some ad, cap, vs, by rw [hlv], by simp only at hN; omega, by omega, Nat.le_trans (Nat.add_le_add_right hsum 1) hbk, ?_⟩
    cases vs with
    | nil => exact .inl rfl
    | cons v0 vr =>
      right
      obtain ⟨g, o, spot⟩ := ad
      have hcell : ∀ (i : Nat) (v : α), (v0 :: vr)[i]? = some v → ∃ cs', w.cells? 0 ((⟨g, o, spot⟩ : Addr).add (i * k)) k = some cs' ∧ G v cs' := fun i v hi => by
        have hlt := (List.getElem?_eq_some_iff.1 hi).1
        obtain ⟨cs', h1, h2, -⟩ := hv i (elems[i]'(by omega)) v (List.getElem?_eq_getElem _) hi
        exact ⟨cs', h1, h2⟩
      obtain ⟨cs0, hc0, -⟩ := hcell 0 v0 rfl
      obtain ⟨_, hl0, hcc⟩ := World.cells?_some hc0
      have hv0 : ∃ z, w.cell? ⟨g, o, spot⟩ = some z := by
        have := hcc 0 hk
        rw [Nat.zero_mul] at this
        have hcs : 0 < cs0.length := by omega
        rw [List.getElem?_eq_getElem hcs] at this
        exact ⟨_, by simpa [Addr.add] using this⟩
      obtain ⟨z, hz⟩ := hv0
      have hspot : spot = none := World.cell?_spot hz
      subst hspot
      refine ⟨g, o, rfl, lt_of_cell hz, fun i v hi => ?_⟩
      obtain ⟨cs', h1, h2⟩ := hcell i v hi
      refine ⟨cs', fun j u hj => ?_, h2⟩
      obtain ⟨_, hl1, hcc1⟩ := World.cells?_some h1
      have hjl := (List.getElem?_eq_some_iff.1 hj).1
      have := hcc1 j (by omega)
      rw [hj, Addr.add_mid, Addr.add_mid] at this
      exact this
end
end Go.Proofs.YtjgggmjjikopeaaGreatDoor

/- Expressions, statements and programs that came in are opened. -/
namespace Go.Proofs.YtjgggmjjikopeaaGreatDoor
open Go.ChangeShapes Go.WideShapes Go.ChangeAt Go.RowKit
set_option linter.unusedVariables false

theorem ET.Row.of {B g : Nat} {w : World} : ∀ {ks : List ET} {o : Nat}, (∀ (i : Nat) (e : ET), ks[i]? = some e → w.rangeAt g (o + i * 5) e.cells ∧ e.In B w) → ET.Row B w g ks o
  | [], o, _ => trivial
  | e :: r, o, h => by
    unfold ET.Row
    refine ⟨by simpa using (h 0 e rfl).1, (h 0 e rfl).2, ET.Row.of fun i x hx => ?_⟩
    have := h (i + 1) x (by simpa using hx)
    rwa [show o + (i + 1) * 5 = o + 5 + i * 5 by omega] at this
theorem ST.Row.of {B g : Nat} {w : World} : ∀ {ks : List ST} {o : Nat}, (∀ (i : Nat) (e : ST), ks[i]? = some e → w.rangeAt g (o + i * 9) e.cells ∧ e.In B w) → ST.Row B w g ks o
  | [], o, _ => trivial
  | e :: r, o, h => by
    unfold ST.Row
    refine ⟨by simpa using (h 0 e rfl).1, (h 0 e rfl).2, ST.Row.of fun i x hx => ?_⟩
    have := h (i + 1) x (by simpa using hx)
    rwa [show o + (i + 1) * 9 = o + 9 + i * 9 by omega] at this

theorem c27 : Tryz.prog.cellsOf 36 = 1 := by kernel_rfl
theorem c28 : Tryz.prog.cellsOf 37 = 1 := by kernel_rfl
theorem c29 : Tryz.prog.cellsOf 38 = 1 := by kernel_rfl
theorem c31 : Tryz.prog.cellsOf 40 = 2 := by kernel_rfl
theorem c9 : Tryz.prog.cellsOf 9 = 1 := by kernel_rfl
theorem c3 : Tryz.prog.cellsOf 3 = 1 := by kernel_rfl
theorem c32 : Tryz.prog.cellsOf 41 = 1 := by kernel_rfl
theorem c34 : Tryz.prog.cellsOf 43 = 5 := by kernel_rfl
theorem c57 : Tryz.prog.cellsOf 49 = 1 := by kernel_rfl
theorem c87 : Tryz.prog.cellsOf 51 = 9 := by kernel_rfl
theorem c22 : Tryz.prog.cellsOf 22 = 1 := by kernel_rfl
theorem c23 : Tryz.prog.cellsOf 23 = 1 := by kernel_rfl
theorem c24 : Tryz.prog.cellsOf 24 = 1 := by kernel_rfl
theorem c56 : Tryz.prog.cellsOf 48 = 3 := by kernel_rfl
theorem c59 : Tryz.prog.cellsOf 53 = 3 := by kernel_rfl
theorem c26 : Tryz.prog.cellsOf 26 = 3 := by kernel_rfl

theorem u8_of {x : Int} (h : (Lit.int .u8 x).wf = true) : ∃ n : Nat, x = (n : Int) ∧ n < 256 := by
  have : 0 ≤ x ∧ x ≤ 255 := by simpa [Lit.wf, IntKind.min, IntKind.max, IntKind.signed, IntKind.bits] using h
  exact ⟨x.toNat, by omega, by omega⟩
theorem u64_of {x : Int} (h : (Lit.int .u64 x).wf = true) : ∃ n : Nat, x = (n : Int) ∧ n < 18446744073709551616 := by
  have : 0 ≤ x ∧ x ≤ 18446744073709551615 := by simpa [Lit.wf, IntKind.min, IntKind.max, IntKind.signed, IntKind.bits] using h
  exact ⟨x.toNat, by omega, by omega⟩
theorem i64_of {x : Int} (h : (Lit.int .i64 x).wf = true) : -9223372036854775808 ≤ x ∧ x ≤ 9223372036854775807 := by
  simpa [Lit.wf, IntKind.min, IntKind.max, IntKind.signed, IntKind.bits] using h

theorem len2 {α : Type} : ∀ {l : List α}, l.length = 2 → ∃ a b, l = [a, b]
  | [a, b], _ => ⟨a, b, rfl⟩
theorem len3 {α : Type} : ∀ {l : List α}, l.length = 3 → ∃ a b c, l = [a, b, c]
  | [a, b, c], _ => ⟨a, b, c, rfl⟩
theorem len4 {α : Type} : ∀ {l : List α}, l.length = 4 → ∃ a b c d, l = [a, b, c, d]
  | [a, b, c, d], _ => ⟨a, b, c, d, rfl⟩
theorem len5 {α : Type} : ∀ {l : List α}, l.length = 5 → ∃ a b c d e, l = [a, b, c, d, e]
  | [a, b, c, d, e], _ => ⟨a, b, c, d, e, rfl⟩
theorem len9 {α : Type} : ∀ {l : List α}, l.length = 9 → ∃ a b c d e f g h i, l = [a, b, c, d, e, f, g, h, i]
  | [a, b, c, d, e, f, g, h, i], _ => ⟨a, b, c, d, e, f, g, h, i, rfl⟩

section
variable {H : Type} {enc : TypeId × Value → H} {w : World} {sp : Nat → Bool} {held : Bool}

theorem open_val (fuel : Nat) (cs : List Value) (x : DataW H × List MemPlace) (h : DataW.trod enc Tryz.prog w 0 sp held fuel 40 cs = some x) : ∃ t b : Nat, cs = [.int .u8 (t : Int), .int .u64 (b : Int)] ∧ t < 256 ∧ b < 18446744073709551616 := by
  obtain ⟨xs, n, hf, rfl, hl, hlen, hx⟩ := DataW.trod_struct Tryz.underlying40 h
  rw [c31] at hl
  obtain ⟨a, b, rfl⟩ := len2 hl
  obtain ⟨y0, y1, rfl⟩ := len2 (show xs.length = 2 from hlen)
  have f0 := hx 0 { name := "T", type := 37, offset := 0, embedded := false, tag := "", pkgPath := "", byteOffset := 0 } rfl
  dsimp only at f0
  rw [c28] at f0
  have f0 : DataW.trod enc Tryz.prog w 0 sp held n 37 [a] = some y0 := f0
  have f1 := hx 1 { name := "Bits", type := 38, offset := 1, embedded := false, tag := "", pkgPath := "", byteOffset := 8 } rfl
  dsimp only at f1
  rw [c29] at f1
  have f1 : DataW.trod enc Tryz.prog w 0 sp held n 38 [b] = some y1 := f1
  obtain ⟨t, e0, -, hw0⟩ := DataW.trod_int Tryz.underlying37 f0
  obtain ⟨b', e1, -, hw1⟩ := DataW.trod_int Tryz.underlying38 f1
  simp at e0 e1
  subst e0 e1
  obtain ⟨tn, rfl, ht⟩ := u8_of hw0
  obtain ⟨bn, rfl, hb⟩ := u64_of hw1
  exact ⟨tn, bn, rfl, ht, hb⟩

theorem exWs_sum : ∀ l : List ET, exWs (ET.exs l) = (l.map fun e => exW e.ex).sum
  | [] => rfl
  | e :: r => by
    rw [ET.exs, exWs, exWs_sum r]
    rfl
theorem exOks_of : ∀ l : List ET, (∀ e ∈ l, exOk e.ex) → exOks (ET.exs l)
  | [], _ => trivial
  | e :: r, h => by
    rw [ET.exs]
    unfold exOks
    exact ⟨h e List.mem_cons_self, exOks_of r fun x hx => h x (List.mem_cons_of_mem _ hx)⟩

/-- An expression that came in. -/
theorem open_expr : ∀ (F fuel : Nat), fuel < F → ∀ (cs : List Value) (x : DataW H × List MemPlace), DataW.trod enc Tryz.prog w 0 sp held fuel 43 cs = some x → Rows.uptoBulk x.1 ≤ 1048576 →
    ∃ e : ET, (cs = e.cells ∧ e.In w.heap.size w ∧ exOk e.ex) ∧ exW e.ex ≤ Rows.uptoBulk x.1 := by
  intro F
  induction F with
  | zero => intro fuel h; omega
  | succ F ih =>
    intro fuel hF cs x h hN
    obtain ⟨xs, n, hf, rfl, hl, hlen, hx⟩ := DataW.trod_struct Tryz.underlying43 h
    rw [c34] at hl
    obtain ⟨a0, a1, a2, a3, a4, rfl⟩ := len5 hl
    obtain ⟨y0, y1, y2, y3, rfl⟩ := len4 (show xs.length = 4 from hlen)
    have f0 := hx 0 { name := "Op", type := 36, offset := 0, embedded := false, tag := "", pkgPath := "", byteOffset := 0 } rfl
    dsimp only at f0
    rw [c27] at f0
    have f0 : DataW.trod enc Tryz.prog w 0 sp held n 36 [a0] = some y0 := f0
    have f1 := hx 1 { name := "Lit", type := 40, offset := 1, embedded := false, tag := "", pkgPath := "", byteOffset := 8 } rfl
    dsimp only at f1
    rw [c31] at f1
    have f1 : DataW.trod enc Tryz.prog w 0 sp held n 40 [a1, a2] = some y1 := f1
    have f2 := hx 2 { name := "Name", type := 9, offset := 3, embedded := false, tag := "", pkgPath := "", byteOffset := 24 } rfl
    dsimp only at f2
    rw [c9] at f2
    have f2 : DataW.trod enc Tryz.prog w 0 sp held n 9 [a3] = some y2 := f2
    have f3 := hx 3 { name := "Kids", type := 41, offset := 4, embedded := false, tag := "", pkgPath := "", byteOffset := 40 } rfl
    dsimp only at f3
    rw [c32] at f3
    have f3 : DataW.trod enc Tryz.prog w 0 sp held n 41 [a4] = some y3 := f3
    obtain ⟨op, e0, -, hw0⟩ := DataW.trod_int Tryz.underlying36 f0
    obtain ⟨t, b, e1, ht, hb⟩ := open_val _ _ _ f1
    obtain ⟨nm, e2, e2', -⟩ := DataW.trod_string Tryz.underlying9 f2
    simp at e0 e1 e2
    subst e0 e2
    obtain ⟨rfl, rfl⟩ := e1
    obtain ⟨opn, rfl, hop⟩ := u8_of hw0
    have hbk : Rows.uptoBulk y0.1 + (Rows.uptoBulk y1.1 + (Rows.uptoBulk y2.1 + Rows.uptoBulk y3.1)) + 1 ≤ 1048576 := by
      simpa [Rows.uptoBulk, Rows.uptoBulkAll] using hN
    have hy2 : Rows.uptoBulk y2.1 = nm.data.toList.length + 1 := by rw [e2']; simp [Rows.uptoBulk]
    obtain ⟨a, c, ks, e3, k1, k2, k3, k4⟩ := open_row 41 43 5 (by decide) Tryz.underlying41 c34 (fun e : ET => exW e.ex) (fun (e : ET) cs' => cs' = e.cells ∧ e.In w.heap.size w ∧ exOk e.ex) n _ _ f3 1048576 (by omega) (fun m hm cs' y hy hby => ih m (by omega) cs' y hy hby)
    simp at e3
    subst e3
    refine ⟨.mk opn t b nm a c ks, ⟨rfl, ?_, ?_⟩, ?_⟩
    · unfold ET.In
      refine ⟨hop, ht, hb, k1, k2, ?_⟩
      rcases k4 with k4 | ⟨g, o, ha, hg, hr⟩
      · exact .inl k4
      · refine .inr ⟨g, o, ha, hg, ET.Row.of fun i e he => ?_⟩
        obtain ⟨cs', h1, rfl, h3, -⟩ := hr i e he
        exact ⟨h1, h3⟩
    · show exOk (.mk opn t b nm.data.toList (ET.exs ks))
      unfold exOk
      refine ⟨hb, exOks_of ks fun e he => ?_⟩
      obtain ⟨i, hi⟩ := List.mem_iff_getElem?.1 he
      rcases k4 with k4 | ⟨g, o, ha, hg, hr⟩
      · rw [k4] at he; cases he
      · obtain ⟨cs', -, -, -, h4⟩ := hr i e hi
        exact h4
    · show exW (.mk opn t b nm.data.toList (ET.exs ks)) ≤ _
      rw [exW, exWs_sum]
      have := bulk_one y0.1
      have := bulk_one y1.1
      simp only [List.map_cons, List.map_nil, Rows.uptoBulk, Rows.uptoBulkAll]
      omega

theorem stWs_sum : ∀ l : List ST, stWs (ST.sts l) = (l.map fun e => stW e.st).sum
  | [] => rfl
  | e :: r => by
    rw [ST.sts, stWs, stWs_sum r]
    rfl
theorem stOks_of : ∀ l : List ST, (∀ e ∈ l, stOk e.st) → stOks (ST.sts l)
  | [], _ => trivial
  | e :: r, h => by
    rw [ST.sts]
    unfold stOks
    exact ⟨h e List.mem_cons_self, stOks_of r fun x hx => h x (List.mem_cons_of_mem _ hx)⟩

theorem rowS_open {N : Nat} {a : Option Addr} {c : Nat} {ks : List ST} (k1 : ks.length ≤ 1048576) (k2 : ks.length ≤ c) (k4 : ks = [] ∨ ∃ g o, a = some ⟨g, o, none⟩ ∧ g < w.heap.size ∧ ∀ (i : Nat) (v : ST), ks[i]? = some v → ∃ cs', w.rangeAt g (o + i * 9) cs' ∧ (cs' = v.cells ∧ v.In w.heap.size w ∧ stOk v.st)) : RowS w.heap.size w a c ks ∧ ∀ e ∈ ks, stOk e.st := by
  refine ⟨⟨k1, k2, ?_⟩, fun e he => ?_⟩
  · rcases k4 with k4 | ⟨g, o, ha, hg, hr⟩
    · exact .inl k4
    · refine .inr ⟨g, o, ha, hg, ST.Row.of fun i e he => ?_⟩
      obtain ⟨cs', h1, rfl, h3, -⟩ := hr i e he
      exact ⟨h1, h3⟩
  · obtain ⟨i, hi⟩ := List.mem_iff_getElem?.1 he
    rcases k4 with k4 | ⟨g, o, ha, hg, hr⟩
    · rw [k4] at he; cases he
    · obtain ⟨cs', -, -, -, h4⟩ := hr i e hi
      exact h4

/-- A statement that came in. -/
theorem open_stmt : ∀ (F fuel : Nat), fuel < F → ∀ (cs : List Value) (x : DataW H × List MemPlace), DataW.trod enc Tryz.prog w 0 sp held fuel 51 cs = some x → Rows.uptoBulk x.1 ≤ 1048576 →
    ∃ e : ST, (cs = e.cells ∧ e.In w.heap.size w ∧ stOk e.st) ∧ stW e.st ≤ Rows.uptoBulk x.1 := by
  intro F
  induction F with
  | zero => intro fuel h; omega
  | succ F ih =>
    intro fuel hF cs x h hN
    obtain ⟨xs, n, hf, rfl, hl, hlen, hx⟩ := DataW.trod_struct Tryz.underlying51 h
    rw [c87] at hl
    obtain ⟨a0, a1, a2, a3, a4, a5, a6, a7, a8, rfl⟩ := len9 hl
    obtain ⟨y0, y1, y2, y3, y4, rfl⟩ := len5 (show xs.length = 5 from hlen)
    have f0 := hx 0 { name := "Kind", type := 3, offset := 0, embedded := false, tag := "", pkgPath := "", byteOffset := 0 } rfl
    dsimp only at f0
    rw [c3] at f0
    have f0 : DataW.trod enc Tryz.prog w 0 sp held n 3 [a0] = some y0 := f0
    have f1 := hx 1 { name := "Name", type := 9, offset := 1, embedded := false, tag := "", pkgPath := "", byteOffset := 8 } rfl
    dsimp only at f1
    rw [c9] at f1
    have f1 : DataW.trod enc Tryz.prog w 0 sp held n 9 [a1] = some y1 := f1
    have f2 := hx 2 { name := "E", type := 43, offset := 2, embedded := false, tag := "", pkgPath := "", byteOffset := 24 } rfl
    dsimp only at f2
    rw [c34] at f2
    have f2 : DataW.trod enc Tryz.prog w 0 sp held n 43 [a2, a3, a4, a5, a6] = some y2 := f2
    have f3 := hx 3 { name := "Body", type := 49, offset := 7, embedded := false, tag := "", pkgPath := "", byteOffset := 88 } rfl
    dsimp only at f3
    rw [c57] at f3
    have f3 : DataW.trod enc Tryz.prog w 0 sp held n 49 [a7] = some y3 := f3
    have f4 := hx 4 { name := "Else", type := 49, offset := 8, embedded := false, tag := "", pkgPath := "", byteOffset := 112 } rfl
    dsimp only at f4
    rw [c57] at f4
    have f4 : DataW.trod enc Tryz.prog w 0 sp held n 49 [a8] = some y4 := f4
    obtain ⟨k, e0, -, hw0⟩ := DataW.trod_int Tryz.underlying3 f0
    obtain ⟨nm, e1, e1', -⟩ := DataW.trod_string Tryz.underlying9 f1
    simp at e0 e1
    subst e0 e1
    have hbk : Rows.uptoBulk y0.1 + (Rows.uptoBulk y1.1 + (Rows.uptoBulk y2.1 + (Rows.uptoBulk y3.1 + Rows.uptoBulk y4.1))) + 1 ≤ 1048576 := by
      simpa [Rows.uptoBulk, Rows.uptoBulkAll] using hN
    have hy1 : Rows.uptoBulk y1.1 = nm.data.toList.length + 1 := by rw [e1']; simp [Rows.uptoBulk]
    obtain ⟨e, ⟨ee, hei, hek⟩, hew⟩ := open_expr (n + 1) n (by omega) _ _ f2 (by omega)
    obtain ⟨b1, d1, ks, e3, k1, k2, k3, k4⟩ := open_row 49 51 9 (by decide) Tryz.underlying49 c87 (fun e : ST => stW e.st) (fun (e : ST) cs' => cs' = e.cells ∧ e.In w.heap.size w ∧ stOk e.st) n _ _ f3 1048576 (by omega) (fun m hm cs' y hy hby => ih m (by omega) cs' y hy hby)
    obtain ⟨b2, d2, ls, e4, l1, l2, l3, l4⟩ := open_row 49 51 9 (by decide) Tryz.underlying49 c87 (fun e : ST => stW e.st) (fun (e : ST) cs' => cs' = e.cells ∧ e.In w.heap.size w ∧ stOk e.st) n _ _ f4 1048576 (by omega) (fun m hm cs' y hy hby => ih m (by omega) cs' y hy hby)
    simp at e3 e4
    subst e3 e4
    obtain ⟨r1, o1⟩ := rowS_open (N := 0) k1 k2 k4
    obtain ⟨r2, o2⟩ := rowS_open (N := 0) l1 l2 l4
    refine ⟨.mk k nm e b1 d1 ks b2 d2 ls, ⟨?_, ?_, ?_⟩, ?_⟩
    · show _ = st9 k nm e.cells (.slice b1 ks.length d1) (.slice b2 ls.length d2)
      rw [← ee]
      rfl
    · unfold ST.In
      exact ⟨i64_of hw0, hei, r1, r2⟩
    · show stOk (.mk k nm.data.toList e.ex (ST.sts ks) (ST.sts ls))
      unfold stOk
      exact ⟨hek, stOks_of ks o1, stOks_of ls o2⟩
    · show stW (.mk k nm.data.toList e.ex (ST.sts ks) (ST.sts ls)) ≤ _
      rw [stW, stWs_sum, stWs_sum]
      have := bulk_one y0.1
      simp only [List.map_cons, List.map_nil, Rows.uptoBulk, Rows.uptoBulkAll]
      omega
end
end Go.Proofs.YtjgggmjjikopeaaGreatDoor

/- Programs that came in are opened. -/
namespace Go.Proofs.YtjgggmjjikopeaaGreatDoor
open Go.ChangeShapes Go.WideShapes Go.ChangeAt Go.RowKit
set_option linter.unusedVariables false

section
variable {H : Type} {enc : TypeId × Value → H} {w : World} {sp : Nat → Bool} {held : Bool}

theorem open_vr (fuel : Nat) (cs : List Value) (x : DataW H × List MemPlace) (h : DataW.trod enc Tryz.prog w 0 sp held fuel 48 cs = some x) : ∃ v : VT, (cs = v.cells ∧ v.In w.heap.size w ∧ vrOk v.vr) ∧ vrW v.vr ≤ Rows.uptoBulk x.1 := by
  obtain ⟨xs, n, hf, rfl, hl, hlen, hx⟩ := DataW.trod_struct Tryz.underlying48 h
  rw [c56] at hl
  obtain ⟨a, b, c, rfl⟩ := len3 hl
  obtain ⟨y0, y1, rfl⟩ := len2 (show xs.length = 2 from hlen)
  have f0 := hx 0 { name := "Name", type := 9, offset := 0, embedded := false, tag := "", pkgPath := "", byteOffset := 0 } rfl
  dsimp only at f0
  rw [c9] at f0
  have f0 : DataW.trod enc Tryz.prog w 0 sp held n 9 [a] = some y0 := f0
  have f1 := hx 1 { name := "First", type := 40, offset := 1, embedded := false, tag := "", pkgPath := "", byteOffset := 16 } rfl
  dsimp only at f1
  rw [c31] at f1
  have f1 : DataW.trod enc Tryz.prog w 0 sp held n 40 [b, c] = some y1 := f1
  obtain ⟨nm, e0, e0', -⟩ := DataW.trod_string Tryz.underlying9 f0
  obtain ⟨t, b', e1, ht, hb⟩ := open_val _ _ _ f1
  simp at e0 e1
  subst e0
  obtain ⟨rfl, rfl⟩ := e1
  refine ⟨⟨nm, t, b'⟩, ⟨rfl, ⟨ht, hb⟩, hb⟩, ?_⟩
  have hy : Rows.uptoBulk y0.1 = nm.data.toList.length + 1 := by rw [e0']; simp [Rows.uptoBulk]
  show nm.data.toList.length + 1 ≤ _
  simp only [List.map_cons, List.map_nil, Rows.uptoBulk, Rows.uptoBulkAll]
  omega

theorem open_nm (fuel : Nat) (cs : List Value) (x : DataW H × List MemPlace) (h : DataW.trod enc Tryz.prog w 0 sp held fuel 9 cs = some x) : ∃ s : ByteArray, cs = [.string s] ∧ s.data.toList.length + 1 ≤ Rows.uptoBulk x.1 := by
  obtain ⟨s, e, e', -⟩ := DataW.trod_string Tryz.underlying9 h
  exact ⟨s, e, by rw [e']; simp [Rows.uptoBulk]⟩

theorem rowV_open {a : Option Addr} {c : Nat} {ks : List VT} (k1 : ks.length ≤ 1048576) (k2 : ks.length ≤ c) (k4 : ks = [] ∨ ∃ g o, a = some ⟨g, o, none⟩ ∧ g < w.heap.size ∧ ∀ (i : Nat) (v : VT), ks[i]? = some v → ∃ cs', w.rangeAt g (o + i * 3) cs' ∧ (cs' = v.cells ∧ v.In w.heap.size w ∧ vrOk v.vr)) : RowV w.heap.size w a c ks ∧ ∀ v ∈ ks.map VT.vr, vrOk v := by
  refine ⟨⟨k1, k2, ?_⟩, fun v hv => ?_⟩
  · rcases k4 with k4 | ⟨g, o, ha, hg, hr⟩
    · exact .inl k4
    · refine .inr ⟨g, o, ha, hg, fun i e he => ?_⟩
      obtain ⟨cs', h1, rfl, h3, -⟩ := hr i e he
      exact ⟨h1, h3⟩
  · obtain ⟨e, he, rfl⟩ := List.mem_map.1 hv
    obtain ⟨i, hi⟩ := List.mem_iff_getElem?.1 he
    rcases k4 with k4 | ⟨g, o, ha, hg, hr⟩
    · rw [k4] at he; cases he
    · obtain ⟨cs', -, -, -, h4⟩ := hr i e hi
      exact h4

theorem open_th (fuel : Nat) (cs : List Value) (x : DataW H × List MemPlace) (h : DataW.trod enc Tryz.prog w 0 sp held fuel 53 cs = some x) (hN : Rows.uptoBulk x.1 ≤ 1048576) : ∃ v : TT, (cs = v.cells ∧ v.In w.heap.size w ∧ thOk v.th) ∧ thW v.th ≤ Rows.uptoBulk x.1 := by
  obtain ⟨xs, n, hf, rfl, hl, hlen, hx⟩ := DataW.trod_struct Tryz.underlying53 h
  rw [c59] at hl
  obtain ⟨a, b, c, rfl⟩ := len3 hl
  obtain ⟨y0, y1, y2, rfl⟩ := len3 (show xs.length = 3 from hlen)
  have f0 := hx 0 { name := "Name", type := 9, offset := 0, embedded := false, tag := "", pkgPath := "", byteOffset := 0 } rfl
  dsimp only at f0
  rw [c9] at f0
  have f0 : DataW.trod enc Tryz.prog w 0 sp held n 9 [a] = some y0 := f0
  have f1 := hx 1 { name := "Locals", type := 22, offset := 1, embedded := false, tag := "", pkgPath := "", byteOffset := 16 } rfl
  dsimp only at f1
  rw [c22] at f1
  have f1 : DataW.trod enc Tryz.prog w 0 sp held n 22 [b] = some y1 := f1
  have f2 := hx 2 { name := "Body", type := 49, offset := 2, embedded := false, tag := "", pkgPath := "", byteOffset := 40 } rfl
  dsimp only at f2
  rw [c57] at f2
  have f2 : DataW.trod enc Tryz.prog w 0 sp held n 49 [c] = some y2 := f2
  obtain ⟨nm, e0, e0', -⟩ := DataW.trod_string Tryz.underlying9 f0
  have hbk : Rows.uptoBulk y0.1 + (Rows.uptoBulk y1.1 + Rows.uptoBulk y2.1) + 1 ≤ 1048576 := by
    simpa [Rows.uptoBulk, Rows.uptoBulkAll] using hN
  have hy : Rows.uptoBulk y0.1 = nm.data.toList.length + 1 := by rw [e0']; simp [Rows.uptoBulk]
  obtain ⟨a1, c1', ks, e1, k1, k2, k3, k4⟩ := open_row 22 48 3 (by decide) Tryz.underlying22 c56 (fun v : VT => vrW v.vr) (fun (e : VT) cs' => cs' = e.cells ∧ e.In w.heap.size w ∧ vrOk e.vr) n _ _ f1 1048576 (by omega) (fun m hm cs' y hy hby => open_vr m cs' y hy)
  obtain ⟨a2, c2', ls, e2, l1, l2, l3, l4⟩ := open_row 49 51 9 (by decide) Tryz.underlying49 c87 (fun e : ST => stW e.st) (fun (e : ST) cs' => cs' = e.cells ∧ e.In w.heap.size w ∧ stOk e.st) n _ _ f2 1048576 (by omega) (fun m hm cs' y hy hby => open_stmt (m + 1) m (by omega) cs' y hy hby)
  simp at e0 e1 e2
  subst e0 e1 e2
  obtain ⟨r1, o1⟩ := rowV_open k1 k2 k4
  obtain ⟨r2, o2⟩ := rowS_open (N := 0) l1 l2 l4
  refine ⟨⟨nm, a1, c1', ks, a2, c2', ls⟩, ⟨rfl, ⟨r1, r2⟩, o1, ?_⟩, ?_⟩
  · show stOks (ls.map ST.st)
    rw [← ST.sts_eq]
    exact stOks_of ls o2
  · show nm.data.toList.length + 1 + ((ks.map VT.vr).map vrW).sum + stWs (ls.map ST.st) ≤ _
    rw [← ST.sts_eq, stWs_sum, List.map_map]
    have e : (ks.map (vrW ∘ VT.vr)).sum = (ks.map fun v : VT => vrW v.vr).sum := rfl
    rw [e]
    simp only [List.map_cons, List.map_nil, Rows.uptoBulk, Rows.uptoBulkAll]
    omega

/-- A program that came in. -/
theorem open_pg (fuel : Nat) (cs : List Value) (x : DataW H × List MemPlace) (h : DataW.trod enc Tryz.prog w 0 sp held fuel 26 cs = some x) (hN : Rows.uptoBulk x.1 ≤ 1048576) : ∃ p : PT, (cs = p.cells ∧ p.In w.heap.size w ∧ pgOk p.pg) ∧ pgW p.pg ≤ 1048576 := by
  obtain ⟨xs, n, hf, rfl, hl, hlen, hx⟩ := DataW.trod_struct Tryz.underlying26 h
  rw [c26] at hl
  obtain ⟨a, b, c, rfl⟩ := len3 hl
  obtain ⟨y0, y1, y2, rfl⟩ := len3 (show xs.length = 3 from hlen)
  have f0 := hx 0 { name := "Shared", type := 22, offset := 0, embedded := false, tag := "", pkgPath := "", byteOffset := 0 } rfl
  dsimp only at f0
  rw [c22] at f0
  have f0 : DataW.trod enc Tryz.prog w 0 sp held n 22 [a] = some y0 := f0
  have f1 := hx 1 { name := "Mutexes", type := 23, offset := 1, embedded := false, tag := "", pkgPath := "", byteOffset := 24 } rfl
  dsimp only at f1
  rw [c23] at f1
  have f1 : DataW.trod enc Tryz.prog w 0 sp held n 23 [b] = some y1 := f1
  have f2 := hx 2 { name := "Threads", type := 24, offset := 2, embedded := false, tag := "", pkgPath := "", byteOffset := 48 } rfl
  dsimp only at f2
  rw [c24] at f2
  have f2 : DataW.trod enc Tryz.prog w 0 sp held n 24 [c] = some y2 := f2
  have hbk : Rows.uptoBulk y0.1 + (Rows.uptoBulk y1.1 + Rows.uptoBulk y2.1) + 1 ≤ 1048576 := by
    simpa [Rows.uptoBulk, Rows.uptoBulkAll] using hN
  obtain ⟨a1, c1', ks, e0, k1, k2, k3, k4⟩ := open_row 22 48 3 (by decide) Tryz.underlying22 c56 (fun v : VT => vrW v.vr) (fun (e : VT) cs' => cs' = e.cells ∧ e.In w.heap.size w ∧ vrOk e.vr) n _ _ f0 1048576 (by omega) (fun m hm cs' y hy hby => open_vr m cs' y hy)
  obtain ⟨a2, c2', ms, e1, m1, m2, m3, m4⟩ := open_row 23 9 1 (by decide) Tryz.underlying23 c9 (fun s : ByteArray => s.data.toList.length + 1) (fun (s : ByteArray) cs' => cs' = [.string s]) n _ _ f1 1048576 (by omega) (fun m hm cs' y hy hby => open_nm m cs' y hy)
  obtain ⟨a3, c3', ts, e2, l1, l2, l3, l4⟩ := open_row 24 53 3 (by decide) Tryz.underlying24 c59 (fun v : TT => thW v.th) (fun (e : TT) cs' => cs' = e.cells ∧ e.In w.heap.size w ∧ thOk e.th) n _ _ f2 1048576 (by omega) (fun m hm cs' y hy hby => open_th m cs' y hy hby)
  simp at e0 e1 e2
  subst e0 e1 e2
  obtain ⟨r1, o1⟩ := rowV_open k1 k2 k4
  refine ⟨⟨a1, c1', ks, a2, c2', ms, a3, c3', ts⟩, ⟨rfl, ⟨r1, ⟨m1, m2, ?_⟩, l1, l2, ?_⟩, o1, ?_⟩, ?_⟩
  · rcases m4 with m4 | ⟨g, o, ha, hg, hr⟩
    · exact .inl m4
    · refine .inr ⟨g, o, ha, hg, fun i s hs => ?_⟩
      obtain ⟨cs', h1, rfl⟩ := hr i s hs
      have := h1 0 _ rfl
      simpa using this
  · rcases l4 with l4 | ⟨g, o, ha, hg, hr⟩
    · exact .inl l4
    · refine .inr ⟨g, o, ha, hg, fun i e he => ?_⟩
      obtain ⟨cs', h1, rfl, h3, -⟩ := hr i e he
      exact ⟨h1, h3⟩
  · intro t ht
    obtain ⟨e, he, rfl⟩ := List.mem_map.1 ht
    obtain ⟨i, hi⟩ := List.mem_iff_getElem?.1 he
    rcases l4 with l4 | ⟨g, o, ha, hg, hr⟩
    · have he' : e ∈ ts := he
      rw [l4] at he'; cases he'
    · obtain ⟨cs', -, -, -, h4⟩ := hr i e hi
      exact h4
  · show ((ks.map VT.vr).map vrW).sum + ((ms.map fun s : ByteArray => s.data.toList).map fun m => m.length + 1).sum + ((ts.map TT.th).map thW).sum ≤ _
    rw [List.map_map, List.map_map, List.map_map]
    have e1 : (ks.map (vrW ∘ VT.vr)).sum = (ks.map fun v : VT => vrW v.vr).sum := rfl
    have e2 : (ms.map ((fun m : List UInt8 => m.length + 1) ∘ fun s : ByteArray => s.data.toList)).sum = (ms.map fun s : ByteArray => s.data.toList.length + 1).sum := rfl
    have e3 : (ts.map (thW ∘ TT.th)).sum = (ts.map fun v : TT => thW v.th).sum := rfl
    rw [e1, e2, e3]
    omega
end
end Go.Proofs.YtjgggmjjikopeaaGreatDoor

/- What is printed is read: statements. -/
namespace Go.Proofs.YtjgggmjjikopeaaGreatDoor
set_option linter.unusedVariables false

mutual
/-- Whether all blocks, empty ones too, stand at most 32 deep. -/
def wiS (d : Nat) : St → Bool
  | .mk k _ _ b c => !((decide (k = 5) || decide (k = 6)) && decide (d = 32)) && (wiB (d + 1) b && wiB (d + 1) c)
def wiB (d : Nat) : List St → Bool
  | [] => true
  | s :: r => wiS d s && wiB d r
end

theorem must_ok {t : Tk} {x : List UInt8} (h : t.text = x) (r : List Tk) : mustR x (t :: r) = .ok () r := by unfold mustR; exact if_pos h
theorem name_ok {t : Tk} {x : List UInt8} (h : t.text = x) (hx : isNm x = true) (r : List Tk) : nameR (t :: r) = .ok x r := by
  unfold nameR
  show (if isNm t.text then Rs.ok t.text r else _) = _
  rw [h, hx]
  rfl
theorem nm_no {x : List UInt8} (hx : isNm x = true) {y : List UInt8} (hy : isNm y = false) : x ≠ y := by
  rintro rfl
  rw [hx] at hy
  cases hy
theorem block_ok {d f : Nat} {t u : Tk} {bs rest : List Tk} {b : List St} (hd : d < 32) (ht : t.text = [123]) (h : stmtsR f (d + 1) (bs ++ u :: rest) = .ok b rest) : blockR (f + 1) d (t :: (bs ++ u :: rest)) = .ok b rest := by
  rw [blockR, must_ok ht, Rs.bind_ok, if_neg (by omega), h]
theorem nq10 (r : List UInt8) : nq (10 :: r) := nq.of (by decide)
theorem nq32 (r : List UInt8) : nq (32 :: r) := nq.of (by decide)
theorem LexTo.bl10 {r : List UInt8} {ks : List (Nat × List UInt8)} (k : LexTo r ks) : LexTo (10 :: r) ks := .bl (by decide) k
theorem LexTo.bl32 {r : List UInt8} {ks : List (Nat × List UInt8)} (k : LexTo r ks) : LexTo (32 :: r) ks := .bl (by decide) k
/-- A sign, and a blank or a line's end behind it. -/
theorem LexTo.semi {r : List UInt8} {ks : List (Nat × List UInt8)} (k : LexTo r ks) : LexTo (59 :: 10 :: r) ((4, [59]) :: ks) := .sign1 (by decide) (nq10 r) k.bl10
theorem LexTo.opn {r : List UInt8} {ks : List (Nat × List UInt8)} (k : LexTo r ks) : LexTo (123 :: 10 :: r) ((4, [123]) :: ks) := .sign1 (by decide) (nq10 r) k.bl10
theorem LexTo.shut {r : List UInt8} {ks : List (Nat × List UInt8)} (k : LexTo r ks) : LexTo (125 :: 10 :: r) ((4, [125]) :: ks) := .sign1 (by decide) (nq10 r) k.bl10
theorem LexTo.is {r : List UInt8} {ks : List (Nat × List UInt8)} (k : LexTo r ks) : LexTo (61 :: 32 :: r) ((4, [61]) :: ks) := .sign1 (by decide) (nq32 r) k.bl32
theorem LexTo.wd {x r : List UInt8} {ks : List (Nat × List UInt8)} (hx : x ∈ words) (k : LexTo r ks) : LexTo (x ++ 32 :: r) ((1, x) :: ks) := by
  have hw : ∀ w ∈ words, w.length ≤ 24 ∧ isLet (w.headD 0).toNat = true ∧ allAl w = true := by decide
  obtain ⟨w1, w2, w3⟩ := hw x hx
  exact .word w1 w2 w3 (Sp.mk32 r) k.bl32
theorem LexTo.nm {x r : List UInt8} {ks : List (Nat × List UInt8)} (hx : isNm x = true) (k : LexTo r ks) : LexTo (x ++ 32 :: r) ((1, x) :: ks) := .name hx (Sp.mk32 r) k.bl32

/-- Which way a statement is read. -/
theorem simple_1 {l : List Tk} (h : isNm (hdT l).text = true) : simpleR l = (nameR l).bind fun x r => (mustR [61] r).bind fun _ r => (exprR r).bind fun e r => .ok (.mk 1 x e [] []) r := by
  unfold simpleR
  rw [if_neg (nm_no h (by decide)), if_neg (nm_no h (by decide)), if_neg (nm_no h (by decide)), if_neg (nm_no h (by decide))]
theorem simple_2 {l : List Tk} (h : (hdT l).text = [108, 111, 99, 107]) : simpleR l = (nameR l.tail).bind fun x r => .ok (.mk 2 x noE [] []) r := by
  unfold simpleR
  rw [if_pos h]
theorem simple_3 {l : List Tk} (h : (hdT l).text = [117, 110, 108, 111, 99, 107]) : simpleR l = (nameR l.tail).bind fun x r => .ok (.mk 3 x noE [] []) r := by
  unfold simpleR
  rw [if_neg (by rw [h]; decide), if_pos h]
theorem simple_4 {l : List Tk} (h : (hdT l).text = [97, 115, 115, 101, 114, 116]) : simpleR l = (exprR l.tail).bind fun e r => .ok (.mk 4 [] e [] []) r := by
  unfold simpleR
  rw [if_neg (by rw [h]; decide), if_neg (by rw [h]; decide), if_pos h]
theorem simple_7 {l : List Tk} (h : (hdT l).text = [115, 107, 105, 112]) : simpleR l = .ok (.mk 7 [] noE [] []) l.tail := by
  unfold simpleR
  rw [if_neg (by rw [h]; decide), if_neg (by rw [h]; decide), if_neg (by rw [h]; decide), if_pos h]
theorem stmt_if {f d : Nat} {l : List Tk} (h : (hdT l).text = [105, 102]) : stmtR (f + 1) d l = (exprR l.tail).bind fun e r => (blockR f d r).bind fun b r => (elseR f d r).bind fun c r => .ok (.mk 5 [] e b c) r := by rw [stmtR, if_pos h]
theorem stmt_while {f d : Nat} {l : List Tk} (h : (hdT l).text = [119, 104, 105, 108, 101]) : stmtR (f + 1) d l = (exprR l.tail).bind fun e r => (blockR f d r).bind fun b r => .ok (.mk 6 [] e b []) r := by rw [stmtR, if_neg (by rw [h]; decide), if_pos h]
theorem stmt_simple {f d : Nat} {l : List Tk} (h1 : (hdT l).text ≠ [105, 102]) (h2 : (hdT l).text ≠ [119, 104, 105, 108, 101]) : stmtR (f + 1) d l = (simpleR l).bind fun s r => (mustR [59] r).bind fun _ r => .ok s r := by rw [stmtR, if_neg h1, if_neg h2]
theorem else_yes {f d : Nat} {l : List Tk} (h : (hdT l).text = [101, 108, 115, 101]) : elseR (f + 1) d l = blockR f d l.tail := by rw [elseR, if_pos h]

/-- What a statement does not begin with. -/
def Odd (x : List UInt8) : Prop := x ≠ [125] ∧ x ≠ [101, 108, 115, 101] ∧ x ≠ [108, 111, 99, 97, 108]
theorem nm_odd {x : List UInt8} (h : isNm x = true) : Odd x := ⟨nm_no h (by decide), nm_no h (by decide), nm_no h (by decide)⟩

/-- What is printed of a statement is read as it. -/
def StBoth (d : Nat) (bl : List UInt8) (s : St) : Prop := ∃ k0 ks, Odd k0.2 ∧ (∀ r kr, LexTo r kr → LexTo (stT bl s ++ 10 :: r) (k0 :: (ks ++ kr))) ∧
  ∀ ts rest f, Are ts (k0 :: ks) → ts.length ≤ f → (hdT rest).text ≠ [101, 108, 115, 101] → stmtR f d (ts ++ rest) = .ok s rest
def BlBoth (d : Nat) (bl : List UInt8) (l : List St) : Prop := ∃ ks, (∀ r kr, LexTo r kr → LexTo (blT bl l ++ r) (ks ++ kr)) ∧
  (∀ ts u rest f, Are ts ks → u.text = [125] → ts.length + 1 ≤ f → stmtsR f d (ts ++ u :: rest) = .ok l rest) ∧
  ∀ ts u rest, Are ts ks → u.text = [125] → (hdT (ts ++ u :: rest)).text ≠ [101, 108, 115, 101] ∧ (hdT (ts ++ u :: rest)).text ≠ [108, 111, 99, 97, 108]

/-- Statements without blocks. -/
theorem simple_both {d : Nat} {bl : List UInt8} {s : St} {k0 : Nat × List UInt8} {ks : List (Nat × List UInt8)} (h0 : Odd k0.2) (h1 : k0.2 ≠ [105, 102]) (h2 : k0.2 ≠ [119, 104, 105, 108, 101])
    (hl : ∀ r kr, LexTo r kr → LexTo (stT bl s ++ 10 :: r) (k0 :: (ks ++ (4, [59]) :: kr)))
    (hr : ∀ ts u rest, Are ts (k0 :: ks) → u.text = [59] → simpleR (ts ++ u :: rest) = .ok s (u :: rest)) : StBoth d bl s := by
  refine ⟨k0, ks ++ [(4, [59])], h0, fun r kr k => by simpa using hl r kr k, fun ts rest f ha hf he => ?_⟩
  obtain ⟨xs, ys, rfl, a1, a2⟩ := Are.app (a := k0 :: ks) (by simpa using ha)
  obtain ⟨u, r, rfl, b1, b2, b3, b4⟩ := a2.cons
  rw [b4.nil]
  obtain ⟨t, ts, rfl, c1, c2, c3, c4⟩ := a1.cons
  obtain ⟨f, rfl⟩ : ∃ g, f = g + 1 := ⟨f - 1, by simp at hf; omega⟩
  have := hr (t :: ts) u rest a1 b2
  rw [List.append_assoc]
  show stmtR (f + 1) d (t :: ts ++ u :: rest) = _
  rw [stmt_simple (l := t :: ts ++ u :: rest) (show t.text ≠ _ by rw [c2]; exact h1) (show t.text ≠ _ by rw [c2]; exact h2), this, Rs.bind_ok, must_ok b2, Rs.bind_ok]

mutual
theorem st_both : ∀ (d : Nat) (bl : List UInt8) (s : St), (∀ c ∈ bl, c = 32) → mayS d s = true → wiS d s = true → d ≤ 32 → stOk s → StBoth d bl s
  | d, bl, .mk k nm e b c, hbl, hm, hw, hd, hk => by
    unfold stOk at hk
    rw [mayS] at hm
    rw [wiS, Bool.and_eq_true, Bool.and_eq_true] at hw
    have hbl2 : ∀ c ∈ bl ++ [32, 32], c = 32 := by
      intro c hc
      rcases List.mem_append.1 hc with h | h
      · exact hbl c h
      · simpa using h
    by_cases h1 : k = 1
    · subst h1
      rw [if_pos rfl] at hm
      simp only [Bool.and_eq_true] at hm
      obtain ⟨hn, he, hb, hc⟩ := hm
      rw [List.isEmpty_iff] at hb hc
      subst hb hc
      obtain ⟨ke, l1, r1, -⟩ := expr_both he hk.1
      refine simple_both (k0 := (1, nm)) (ks := (4, [61]) :: ke) (nm_odd hn) (nm_no hn (by decide)) (nm_no hn (by decide)) (fun r kr k => ?_) (fun ts u rest ha hu => ?_)
      · have := LexTo.nm hn (LexTo.is (l1 (59 :: 10 :: r) _ (Sp.mk59 _) k.semi))
        rw [stT, if_pos rfl]
        simpa using this
      · obtain ⟨t0, r, rfl, a1, a2, a3, a4⟩ := ha.cons
        obtain ⟨t1, r, rfl, b1, b2, b3, b4⟩ := a4.cons
        have a2 : t0.text = nm := a2
        show simpleR (t0 :: t1 :: (r ++ u :: rest)) = _
        rw [simple_1 (l := t0 :: t1 :: (r ++ u :: rest)) (show isNm t0.text = true by rw [a2]; exact hn), name_ok a2 hn, Rs.bind_ok, must_ok b2, Rs.bind_ok, r1 r (u :: rest) b4 (by show (bindOf u.text).2 = 0; rw [hu]; rfl), Rs.bind_ok]
    · rw [if_neg h1] at hm
      by_cases h23 : k = 2 ∨ k = 3
      · rw [if_pos h23] at hm
        simp only [Bool.and_eq_true] at hm
        obtain ⟨hn, he, hb, hc⟩ := hm
        rw [List.isEmpty_iff] at hb hc
        rw [samX_eq] at he
        subst hb hc he
        obtain ⟨w, hw1, hw2, hw3⟩ : ∃ w : List UInt8, stT bl (.mk k nm noE [] []) = w ++ 32 :: (nm ++ [59]) ∧ w ∈ words ∧ ((w = [108, 111, 99, 107] ∧ k = 2) ∨ (w = [117, 110, 108, 111, 99, 107] ∧ k = 3)) := by
          rcases h23 with rfl | rfl
          · exact ⟨[108, 111, 99, 107], by rw [stT, if_neg (by decide), if_pos rfl]; rfl, by decide, .inl ⟨rfl, rfl⟩⟩
          · exact ⟨[117, 110, 108, 111, 99, 107], by rw [stT, if_neg (by decide), if_neg (by decide), if_pos rfl]; rfl, by decide, .inr ⟨rfl, rfl⟩⟩
        have hne : Odd w ∧ w ≠ [105, 102] ∧ w ≠ [119, 104, 105, 108, 101] := by rcases hw3 with ⟨rfl, -⟩ | ⟨rfl, -⟩ <;> (unfold Odd; decide)
        refine simple_both (k0 := (1, w)) (ks := [(1, nm)]) hne.1 hne.2.1 hne.2.2 (fun r kr k => ?_) (fun ts u rest ha hu => ?_)
        · have := LexTo.wd hw2 (LexTo.name hn (Sp.mk59 _) k.semi)
          rw [hw1]
          simpa using this
        · obtain ⟨t0, r, rfl, a1, a2, a3, a4⟩ := ha.cons
          obtain ⟨t1, r, rfl, b1, b2, b3, b4⟩ := a4.cons
          rw [b4.nil]
          have a2 : t0.text = w := a2
          have b2 : t1.text = nm := b2
          show simpleR (t0 :: t1 :: u :: rest) = _
          rcases hw3 with ⟨rfl, rfl⟩ | ⟨rfl, rfl⟩
          · rw [simple_2 (l := t0 :: t1 :: u :: rest) a2, List.tail_cons, name_ok b2 hn, Rs.bind_ok]
          · rw [simple_3 (l := t0 :: t1 :: u :: rest) a2, List.tail_cons, name_ok b2 hn, Rs.bind_ok]
      · rw [if_neg h23] at hm
        by_cases h4 : k = 4
        · subst h4
          rw [if_pos rfl] at hm
          simp only [Bool.and_eq_true, decide_eq_true_eq] at hm
          obtain ⟨rfl, he, hb, hc⟩ := hm
          rw [List.isEmpty_iff] at hb hc
          subst hb hc
          obtain ⟨ke, l1, r1, -⟩ := expr_both he hk.1
          refine simple_both (k0 := (1, [97, 115, 115, 101, 114, 116])) (ks := ke) (by unfold Odd; decide) (by decide) (by decide) (fun r kr k => ?_) (fun ts u rest ha hu => ?_)
          · have := LexTo.wd (x := [97, 115, 115, 101, 114, 116]) (by decide) (l1 (59 :: 10 :: r) _ (Sp.mk59 _) k.semi)
            rw [stT, if_neg (by decide), if_neg (by decide), if_neg (by decide), if_pos rfl]
            simpa using this
          · obtain ⟨t0, r, rfl, a1, a2, a3, a4⟩ := ha.cons
            have a2 : t0.text = [97, 115, 115, 101, 114, 116] := a2
            show simpleR (t0 :: (r ++ u :: rest)) = _
            rw [simple_4 (l := t0 :: (r ++ u :: rest)) a2, List.tail_cons, r1 r (u :: rest) a4 (by show (bindOf u.text).2 = 0; rw [hu]; rfl), Rs.bind_ok]
        · rw [if_neg h4] at hm
          by_cases h5 : k = 5
          · subst h5
            rw [if_pos rfl] at hm
            simp only [Bool.and_eq_true, decide_eq_true_eq] at hm
            obtain ⟨rfl, he, hb, hc⟩ := hm
            have hd2 : d < 32 := by
              have := hw.1
              simp at this
              omega
            obtain ⟨ke, l1, r1, -⟩ := expr_both he hk.1
            obtain ⟨kb, l2, r2, -⟩ := bl_both (d + 1) (bl ++ [32, 32]) b hbl2 hb hw.2.1 hk.2.1
            obtain ⟨kc, l3, r3, -⟩ := bl_both (d + 1) (bl ++ [32, 32]) c hbl2 hc hw.2.2 hk.2.2
            cases hce : c.isEmpty with
            | true =>
              rw [List.isEmpty_iff] at hce
              subst hce
              refine ⟨(1, [105, 102]), ke ++ (4, [123]) :: (kb ++ [(4, [125])]), by unfold Odd; decide, fun r kr k => ?_, fun ts rest f ha hf hel => ?_⟩
              · have := LexTo.wd (x := [105, 102]) (by decide) (l1 _ _ (Sp.mk32 _) (LexTo.bl32 (LexTo.opn (l2 _ _ (LexTo.bls hbl k.shut)))))
                rw [stT, if_neg (by decide), if_neg (by decide), if_neg (by decide), if_neg (by decide), if_pos rfl]
                simpa using this
              · obtain ⟨t0, r, rfl, a1, a2, a3, a4⟩ := ha.cons
                obtain ⟨es, r, rfl, b1, b2⟩ := a4.app
                obtain ⟨t1, r, rfl, c1, c2, c3, c4⟩ := b2.cons
                obtain ⟨bs, r, rfl, e1, e2⟩ := c4.app
                obtain ⟨t2, r, rfl, g1, g2, g3, g4⟩ := e2.cons
                rw [g4.nil] at hf ⊢
                have a2 : t0.text = [105, 102] := a2
                have c2 : t1.text = [123] := c2
                have g2 : t2.text = [125] := g2
                simp only [List.length_cons, List.length_append, List.length_nil] at hf
                obtain ⟨f, rfl⟩ : ∃ g, f = g + 1 + 1 := ⟨f - 2, by omega⟩
                have el : (t0 :: (es ++ t1 :: (bs ++ [t2]))) ++ rest = t0 :: (es ++ t1 :: (bs ++ t2 :: rest)) := by simp
                rw [el, stmt_if (l := t0 :: (es ++ t1 :: (bs ++ t2 :: rest))) a2, List.tail_cons, r1 es _ b1 (by show (bindOf t1.text).2 = 0; rw [c2]; rfl), Rs.bind_ok, block_ok hd2 c2 (r2 bs t2 rest f e1 g2 (by omega)), Rs.bind_ok, elseR, if_neg hel, Rs.bind_ok]
            | false =>
              refine ⟨(1, [105, 102]), ke ++ (4, [123]) :: (kb ++ (4, [125]) :: (1, [101, 108, 115, 101]) :: (4, [123]) :: (kc ++ [(4, [125])])), by unfold Odd; decide, fun r kr k => ?_, fun ts rest f ha hf hel => ?_⟩
              · have m1 := l3 _ _ (LexTo.bls hbl k.shut)
                have m2 := LexTo.bls hbl (LexTo.sign1 (c := 125) (by decide) (nq32 _) (LexTo.bl32 (LexTo.wd (x := [101, 108, 115, 101]) (by decide) (LexTo.opn m1))))
                have := LexTo.wd (x := [105, 102]) (by decide) (l1 _ _ (Sp.mk32 _) (LexTo.bl32 (LexTo.opn (l2 _ _ m2))))
                rw [stT, if_neg (by decide), if_neg (by decide), if_neg (by decide), if_neg (by decide), if_pos rfl, hce]
                simpa using this
              · obtain ⟨t0, r, rfl, a1, a2, a3, a4⟩ := ha.cons
                obtain ⟨es, r, rfl, b1, b2⟩ := a4.app
                obtain ⟨t1, r, rfl, c1, c2, c3, c4⟩ := b2.cons
                obtain ⟨bs, r, rfl, e1, e2⟩ := c4.app
                obtain ⟨t2, r, rfl, g1, g2, g3, g4⟩ := e2.cons
                obtain ⟨t3, r, rfl, i1, i2, i3, i4⟩ := g4.cons
                obtain ⟨t4, r, rfl, j1, j2, j3, j4⟩ := i4.cons
                obtain ⟨cs, r, rfl, m1, m2⟩ := j4.app
                obtain ⟨t5, r, rfl, n1, n2, n3, n4⟩ := m2.cons
                rw [n4.nil] at hf ⊢
                have a2 : t0.text = [105, 102] := a2
                have c2 : t1.text = [123] := c2
                have g2 : t2.text = [125] := g2
                have i2 : t3.text = [101, 108, 115, 101] := i2
                have j2 : t4.text = [123] := j2
                have n2 : t5.text = [125] := n2
                simp only [List.length_cons, List.length_append, List.length_nil] at hf
                obtain ⟨f, rfl⟩ : ∃ g, f = g + 1 + 1 + 1 := ⟨f - 3, by omega⟩
                have el : (t0 :: (es ++ t1 :: (bs ++ t2 :: t3 :: t4 :: (cs ++ [t5])))) ++ rest = t0 :: (es ++ t1 :: (bs ++ t2 :: (t3 :: t4 :: (cs ++ t5 :: rest)))) := by simp
                rw [el, stmt_if (l := t0 :: (es ++ t1 :: (bs ++ t2 :: (t3 :: t4 :: (cs ++ t5 :: rest))))) a2, List.tail_cons, r1 es _ b1 (by show (bindOf t1.text).2 = 0; rw [c2]; rfl), Rs.bind_ok, block_ok hd2 c2 (r2 bs t2 _ (f + 1) e1 g2 (by omega)), Rs.bind_ok, else_yes (l := t3 :: t4 :: (cs ++ t5 :: rest)) i2, List.tail_cons, block_ok hd2 j2 (r3 cs t5 rest f m1 n2 (by omega)), Rs.bind_ok]
          · rw [if_neg h5] at hm
            by_cases h6 : k = 6
            · subst h6
              rw [if_pos rfl] at hm
              simp only [Bool.and_eq_true, decide_eq_true_eq] at hm
              obtain ⟨rfl, he, hb, hc⟩ := hm
              rw [List.isEmpty_iff] at hc
              subst hc
              have hd2 : d < 32 := by
                have := hw.1
                simp at this
                omega
              obtain ⟨ke, l1, r1, -⟩ := expr_both he hk.1
              obtain ⟨kb, l2, r2, -⟩ := bl_both (d + 1) (bl ++ [32, 32]) b hbl2 hb hw.2.1 hk.2.1
              refine ⟨(1, [119, 104, 105, 108, 101]), ke ++ (4, [123]) :: (kb ++ [(4, [125])]), by unfold Odd; decide, fun r kr k => ?_, fun ts rest f ha hf hel => ?_⟩
              · have := LexTo.wd (x := [119, 104, 105, 108, 101]) (by decide) (l1 _ _ (Sp.mk32 _) (LexTo.bl32 (LexTo.opn (l2 _ _ (LexTo.bls hbl k.shut)))))
                rw [stT, if_neg (by decide), if_neg (by decide), if_neg (by decide), if_neg (by decide), if_neg (by decide), if_pos rfl]
                simpa using this
              · obtain ⟨t0, r, rfl, a1, a2, a3, a4⟩ := ha.cons
                obtain ⟨es, r, rfl, b1, b2⟩ := a4.app
                obtain ⟨t1, r, rfl, c1, c2, c3, c4⟩ := b2.cons
                obtain ⟨bs, r, rfl, e1, e2⟩ := c4.app
                obtain ⟨t2, r, rfl, g1, g2, g3, g4⟩ := e2.cons
                rw [g4.nil] at hf ⊢
                have a2 : t0.text = [119, 104, 105, 108, 101] := a2
                have c2 : t1.text = [123] := c2
                have g2 : t2.text = [125] := g2
                simp only [List.length_cons, List.length_append, List.length_nil] at hf
                obtain ⟨f, rfl⟩ : ∃ g, f = g + 1 + 1 := ⟨f - 2, by omega⟩
                have el : (t0 :: (es ++ t1 :: (bs ++ [t2]))) ++ rest = t0 :: (es ++ t1 :: (bs ++ t2 :: rest)) := by simp
                rw [el, stmt_while (l := t0 :: (es ++ t1 :: (bs ++ t2 :: rest))) a2, List.tail_cons, r1 es _ b1 (by show (bindOf t1.text).2 = 0; rw [c2]; rfl), Rs.bind_ok, block_ok hd2 c2 (r2 bs t2 rest f e1 g2 (by omega)), Rs.bind_ok]
            · rw [if_neg h6] at hm
              by_cases h7 : k = 7
              · subst h7
                rw [if_pos rfl] at hm
                simp only [Bool.and_eq_true, decide_eq_true_eq] at hm
                obtain ⟨rfl, he, hb, hc⟩ := hm
                rw [List.isEmpty_iff] at hb hc
                rw [samX_eq] at he
                subst hb hc he
                refine simple_both (k0 := (1, [115, 107, 105, 112])) (ks := []) (by unfold Odd; decide) (by decide) (by decide) (fun r kr k => ?_) (fun ts u rest ha hu => ?_)
                · have := LexTo.word (x := [115, 107, 105, 112]) (by decide) (by decide) (by decide) (Sp.mk59 _) k.semi
                  rw [stT, if_neg (by decide), if_neg (by decide), if_neg (by decide), if_neg (by decide), if_neg (by decide), if_neg (by decide), if_pos rfl]
                  simpa using this
                · obtain ⟨t0, r, rfl, a1, a2, a3, a4⟩ := ha.cons
                  rw [a4.nil]
                  have a2 : t0.text = [115, 107, 105, 112] := a2
                  show simpleR (t0 :: u :: rest) = _
                  rw [simple_7 (l := t0 :: u :: rest) a2, List.tail_cons]
              · rw [if_neg h7] at hm
                cases hm
theorem bl_both : ∀ (d : Nat) (bl : List UInt8) (l : List St), (∀ c ∈ bl, c = 32) → mayB d l = true → wiB d l = true → stOks l → BlBoth d bl l
  | d, bl, [], hbl, hm, hw, hk => by
    refine ⟨[], fun r kr k => by simpa [blT] using k, fun ts u rest f ha hu hf => ?_, fun ts u rest ha hu => ?_⟩
    · rw [ha.nil]
      obtain ⟨f, rfl⟩ : ∃ g, f = g + 1 := ⟨f - 1, by omega⟩
      show stmtsR (f + 1) d (u :: rest) = _
      rw [stmtsR, if_pos (show (hdT (u :: rest)).text = [125] from hu)]
      rfl
    · rw [ha.nil]
      show u.text ≠ _ ∧ u.text ≠ _
      rw [hu]
      decide
  | d, bl, s :: r, hbl, hm, hw, hk => by
    unfold stOks at hk
    rw [mayB] at hm
    rw [wiB, Bool.and_eq_true] at hw
    simp only [Bool.and_eq_true, decide_eq_true_eq] at hm
    obtain ⟨hd, hs, hr⟩ := hm
    obtain ⟨k0, ks, h0, l1, r1⟩ := st_both d bl s hbl hs hw.1 hd hk.1
    obtain ⟨kr, l2, r2, n2⟩ := bl_both d bl r hbl hr hw.2 hk.2
    refine ⟨k0 :: (ks ++ kr), fun q kq k => ?_, fun ts u rest f ha hu hf => ?_, fun ts u rest ha hu => ?_⟩
    · have := LexTo.bls hbl (l1 _ _ (l2 q kq k))
      rw [blT]
      simpa using this
    · obtain ⟨xs, ys, rfl, a1, a2⟩ := Are.app (a := k0 :: ks) (by simpa using ha)
      obtain ⟨t, ts, rfl, c1, c2, c3, c4⟩ := a1.cons
      simp only [List.length_cons, List.length_append] at hf
      obtain ⟨f, rfl⟩ : ∃ g, f = g + 1 := ⟨f - 1, by omega⟩
      rw [List.append_assoc, stmtsR, if_neg (show ¬ (hdT (t :: ts ++ (ys ++ u :: rest))).text = [125] from c2 ▸ h0.1), r1 (t :: ts) _ f a1 (by simp; omega) (n2 ys u rest a2 hu).1, Rs.bind_ok, r2 ys u rest f a2 hu (by omega), Rs.bind_ok]
    · obtain ⟨t, ts, rfl, c1, c2, c3, c4⟩ := ha.cons
      show t.text ≠ _ ∧ t.text ≠ _
      rw [c2]
      exact h0.2
end

end Go.Proofs.YtjgggmjjikopeaaGreatDoor

/- Whether blocks stand at most 32 deep is told. -/
namespace Go.Proofs.YtjgggmjjikopeaaGreatDoor
open Go.RowKit
set_option linter.unusedVariables false

theorem wiB_iff (d : Nat) : ∀ ss : List St, wiB d ss = true ↔ ∀ s ∈ ss, wiS d s = true
  | [] => by simp [wiB]
  | s :: r => by rw [wiB, Bool.and_eq_true, wiB_iff d r]; simp
def ST.b1 : ST → List ST
  | .mk _ _ _ _ _ b _ _ _ => b
def ST.b2 : ST → List ST
  | .mk _ _ _ _ _ _ _ _ b => b
theorem stWs_mem : ∀ {l : List St} {s : St}, s ∈ l → stW s ≤ stWs l
  | x :: r, s, h => by
    rw [stWs]
    rcases List.mem_cons.1 h with rfl | h
    · omega
    · have := stWs_mem h; omega

/-- What asking how deep blocks stand does. -/
def WiW (B : Nat) (ss : List ST) : Prop := ∀ (d : Nat) (a : Option Addr) (c : Nat) (w : World), d + stWs (ss.map ST.st) ≤ 4611686018427387904 → RowS B w a c ss → B ≤ w.heap.size →
    Calls Tryz.prog 19 #[.slice a ss.length c, .int .i64 (d : Int)] w fun r w' => r = .returned (.bool (wiB d (ss.map ST.st))) ∧ Below w.heap.size w w'

set_option maxRecDepth 100000 in
set_option maxHeartbeats 3200000 in
theorem within_of (B : Nat) (ss : List ST) (hS : ∀ s ∈ ss, WiW B s.b1 ∧ WiW B s.b2) : WiW B ss := by
  intro d a c w hd hr hBw
  obtain ⟨R, hR⟩ : ∃ R, Hid (R = wiB d (ss.map ST.st)) := ⟨_, (rfl : _ = wiB _ _)⟩
  rw [← hR.out]
  obtain ⟨n, hn⟩ : ∃ n, Hid (n = ss.length) := ⟨_, (rfl : ss.length = _)⟩
  have hl := hr.1
  have hk := hr.2.1
  rw [← hn.out] at hl hk ⊢
  have HS : Hid (∀ s ∈ ss, (WiW B s.b1 ∧ WiW B s.b2) ∧ stW s.st ≤ stWs (ss.map ST.st)) := fun s hs => ⟨hS s hs, stWs_mem (List.mem_map_of_mem hs)⟩
  have HR : Hid (RowS B w a c ss) := hr
  have HD : Hid (d + stWs (ss.map ST.st) ≤ 4611686018427387904) := hd
  have hd0 : d ≤ 4611686018427387904 := by omega
  clear hS hr hd
  go_enter Tryz.func19, Tryz.ntmps19
  go_wp2_with fail
  go_loopw [5] (fun j wr => ∃ i : Nat, j = .int .i64 (i : Int) ∧ i ≤ n ∧ Hid (Below w.heap.size w wr ∧ ∀ s ∈ (ss.take i).map ST.st, wiS d s = true)) (fun j _ => n - (intOf j).toNat)
  case atStart => exact ⟨0, rfl, by omega, Below.refl _ _, by simp⟩
  case round =>
    obtain ⟨i, rfl, hi, hX⟩ := hrel
    by_cases hc : i < n
    · obtain ⟨s, hs⟩ : ∃ k, ss[i]? = some k := ⟨ss[i]'(by rw [← hn.out]; exact hc), by rw [List.getElem?_eq_getElem]⟩
      obtain ⟨hbw, hall⟩ := hX.out
      have hold : Old B w wr := Old.of_below hbw hBw
      obtain ⟨g1, o1, rfl, hg1, hr1, hs1⟩ := (HR.out.old hold).at i s hs
      have HN : Hid (∀ s ∈ (ss.take i).map ST.st, wiS d s = true) := hall
      have HI : Hid (ss[i]? = some s) := hs
      have HF : wiS d s.st = false → R = false := by
        intro h
        rw [hR.out, Bool.eq_false_iff]
        intro h2
        rw [(wiB_iff d _).1 h2 _ (List.mem_map_of_mem (List.mem_of_getElem? hs))] at h
        cases h
      obtain ⟨⟨W1, W2⟩, W3⟩ := HS.out s (List.mem_of_getElem? hs)
      have W4 := HD.out
      cases s with
      | mk k nm e a1 c1 body a2 c2 els =>
      cases e with
      | mk op t b enm ea ec eks =>
      obtain ⟨n1, hn1⟩ : ∃ n, Hid (n = body.length) := ⟨_, (rfl : body.length = _)⟩
      obtain ⟨n2, hn2⟩ : ∃ n, Hid (n = els.length) := ⟨_, (rfl : els.length = _)⟩
      obtain ⟨n3, hn3⟩ : ∃ n, Hid (n = eks.length) := ⟨_, (rfl : eks.length = _)⟩
      have hr2 : wr.rangeAt g1 (o1 + i * 9) (st9 k nm (ex5 op t b enm (.slice ea n3 ec)) (.slice a1 n1 c1) (.slice a2 n2 c2)) := by rw [hn1.out, hn2.out, hn3.out]; exact hr1
      unfold ST.In at hs1
      obtain ⟨-, -, hs2, hs3⟩ := hs1
      have hwS : stW (ST.mk k nm (.mk op t b enm ea ec eks) a1 c1 body a2 c2 els).st = nm.data.toList.length + 1 + exW (ET.mk op t b enm ea ec eks).ex + stWs (ST.sts body) + stWs (ST.sts els) := rfl
      rw [hwS, ST.sts_eq, ST.sts_eq] at W3
      obtain ⟨M1, hM1⟩ : ∃ M, Hid (M = wiB (d + 1) (body.map ST.st)) := ⟨_, (rfl : _ = wiB _ _)⟩
      obtain ⟨M2, hM2⟩ : ∃ M, Hid (M = wiB (d + 1) (els.map ST.st)) := ⟨_, (rfl : _ = wiB _ _)⟩
      have HB : Hid (Calls Tryz.prog 19 #[.slice a1 n1 c1, .int .i64 ((d : Int) + 1)] wr fun r w' => r = .returned (.bool M1) ∧ Below wr.heap.size wr w') := by
        have := W1 (d + 1) a1 c1 wr (by show d + 1 + stWs (body.map ST.st) ≤ _; omega) hs2 (by have := hbw.size; omega)
        rw [hn1.out, hM1.out]
        exact this
      have HC : Hid (∀ u, Below wr.heap.size wr u → Calls Tryz.prog 19 #[.slice a2 n2 c2, .int .i64 ((d : Int) + 1)] u fun r w' => r = .returned (.bool M2) ∧ Below u.heap.size u w') := fun u hu => by
        have := W2 (d + 1) a2 c2 u (by show d + 1 + stWs (els.map ST.st) ≤ _; omega) (RowS.old hs3 (Old.of_below hu (by have := hbw.size; omega))) (by have := hu.size; have := hbw.size; omega)
        rw [hn2.out, hM2.out]
        exact this
      have HQ : Hid (∀ u, Below wr.heap.size wr u → u.rangeAt g1 (o1 + i * 9) (st9 k nm (ex5 op t b enm (.slice ea n3 ec)) (.slice a1 n1 c1) (.slice a2 n2 c2))) := fun u hu => (Old.of_below hu (by have := hbw.size; omega) : Old B wr u).range hg1 hr2
      obtain ⟨b5, h5⟩ : ∃ x, (k == 5) = x := ⟨_, rfl⟩
      obtain ⟨b6, h6⟩ : ∃ x, (k == 6) = x := ⟨_, rfl⟩
      obtain ⟨b3, h3⟩ : ∃ x, ((d : Int) == 32) = x := ⟨_, rfl⟩
      have hw : wiS d (ST.mk k nm (.mk op t b enm ea ec eks) a1 c1 body a2 c2 els).st = (!((b5 || b6) && b3) && (M1 && M2)) := by
        show wiS d (.mk k _ _ (ST.sts body) (ST.sts els)) = _
        rw [wiS, ST.sts_eq, ST.sts_eq, hM1.out, hM2.out, ← h5, ← h6, ← h3]
        have e3 : decide (d = 32) = ((d : Int) == 32) := by
          rw [Bool.eq_iff_iff]
          simp
          omega
        rw [e3]
        rfl
      rw [hw] at HF
      have HF' : Hid ((!((b5 || b6) && b3) && (M1 && M2)) = false → R = false) := HF
      have HW : Hid (wiS d (ST.mk k nm (.mk op t b enm ea ec eks) a1 c1 body a2 c2 els).st = (!((b5 || b6) && b3) && (M1 && M2))) := hw
      have hwr : IntKind.i64.wrap ((d : Int) + 1) = (d : Int) + 1 := by rw [IntKind.wrap_i64]; omega
      obtain ⟨q0, q1, q2, q3, q4, q5, q6, q7, q8⟩ := st_mid hr2
      clear hr1 hr2 hs2 hs3 hs hall hX hw HF W1 W2 W3 W4 hwS hold
      cases b5 <;> cases b6 <;> cases b3
      all_goals first
        | (go_wp2_with fail
           go_ret
           exact ⟨by rw [HF'.out rfl]; rfl, hbw⟩)
        | (go_wp2_with fail
           refine HB.out.mono ?_
           rintro r u ⟨rfl, hu⟩
           have hwu := hbw.trans (hu.mono hbw.size)
           obtain ⟨q0, q1, q2, q3, q4, q5, q6, q7, q8⟩ := st_mid (HQ.out u hu)
           cases M1 with
           | false =>
             go_wp2_with fail
             go_ret
             exact ⟨by rw [HF'.out rfl]; rfl, hwu⟩
           | true =>
             go_wp2_with fail
             refine (HC.out u hu).mono ?_
             rintro r u2 ⟨rfl, hu2⟩
             have hwu2 := hwu.trans (hu2.mono hwu.size)
             cases M2 with
             | false =>
               go_wp2_with fail
               go_ret
               exact ⟨by rw [HF'.out rfl]; rfl, hwu2⟩
             | true =>
               go_wp2_with fail
               go_roundw
               case rel =>
                 refine ⟨i + 1, by go_num, by omega, hwu2, fun x hx => ?_⟩
                 rw [List.take_add_one, HI.out, List.map_append, List.mem_append] at hx
                 rcases hx with hx | hx
                 · exact HN.out x hx
                 · simp at hx; rw [hx]; exact HW.out
               case measure => simp [intOf]; omega)
    · have hin : i = n := by omega
      obtain ⟨hbw, hall⟩ := hX.out
      have hRt : R = true := by
        rw [hR.out, wiB_iff]
        exact fun s hs => hall s (by rw [hin, hn.out, List.take_length]; exact hs)
      clear hX hall hin HR HS
      go_wp2
      go_ret
      exact ⟨by rw [hRt]; rfl, hbw⟩

theorem within_any (B : Nat) : ∀ (N : Nat) (ss : List ST), SizeOf.sizeOf ss < N → WiW B ss := by
  intro N
  induction N with
  | zero => intro ss h; omega
  | succ N ih =>
    intro ss h
    refine within_of B ss fun s hs => ?_
    have := List.sizeOf_lt_of_mem hs
    cases s with
    | mk k nm e a1 c1 body a2 c2 els =>
      simp only [ST.mk.sizeOf_spec] at this
      exact ⟨ih body (by omega), ih els (by omega)⟩

end Go.Proofs.YtjgggmjjikopeaaGreatDoor

/- A text so often. -/
namespace Go.Proofs.YtjgggmjjikopeaaGreatDoor
open Go.RowKit
set_option linter.unusedVariables false

/-- A text so often. -/
def manyS (s : List UInt8) : Nat → List UInt8
  | 0 => []
  | n + 1 => manyS s n ++ s
theorem manyS_len (s : List UInt8) : ∀ n, (manyS s n).length = n * s.length
  | 0 => by simp [manyS]
  | n + 1 => by rw [manyS, List.length_append, manyS_len s n, Nat.add_mul]; omega
theorem app_ba (x y : List UInt8) : (⟨x.toArray⟩ : ByteArray) ++ (⟨y.toArray⟩ : ByteArray) = ⟨(x ++ y).toArray⟩ := by
  apply ByteArray.ext
  simp
set_option maxRecDepth 100000 in
set_option maxHeartbeats 1600000 in
theorem many_any (s : List UInt8) (n : Nat) (hn : n ≤ 1000) (hs : s.length ≤ 1000) (w : World) :
    Calls Tryz.prog 17 #[.string ⟨s.toArray⟩, .int .i64 (n : Int)] w fun r w' => r = .returned (.string ⟨(manyS s n).toArray⟩) ∧ w' = w := by
  go_enter Tryz.func17, Tryz.ntmps17
  go_wp2_with fail
  go_loopw [5, 6] (fun v j wr => ∃ i : Nat, j = .int .i64 (i : Int) ∧ i ≤ n ∧ v = .string ⟨(manyS s i).toArray⟩ ∧ wr = w) (fun _ j _ => n - (intOf j).toNat)
  case atStart => exact ⟨0, rfl, Nat.zero_le _, rfl, rfl⟩
  case round =>
    obtain ⟨i, rfl, hi, rfl, rfl⟩ := hrel
    have hl := manyS_len s i
    have hb : i * s.length ≤ 1000 * 1000 := Nat.mul_le_mul (by omega) hs
    have he := app_ba (manyS s i) s
    by_cases hc : i < n
    · have hsz : ¬ (9223372036854775807 < (⟨(manyS s i).toArray⟩ : ByteArray).size + (⟨s.toArray⟩ : ByteArray).size) := by
        show ¬ (9223372036854775807 < (manyS s i).toArray.size + s.toArray.size)
        simp
        omega
      go_wp2_with fail
      go_roundw
      case rel => exact ⟨i + 1, by go_num, by omega, by rw [manyS, ← he], trivial⟩
      case measure => simp [intOf]; omega
    · have hin : i = n := by omega
      subst hin
      go_wp2_with fail
      go_ret
      exact ⟨rfl, rfl⟩
end Go.Proofs.YtjgggmjjikopeaaGreatDoor

/- tree.Print. -/
namespace Go.Proofs.YtjgggmjjikopeaaGreatDoor
open Go.RowKit
set_option linter.unusedVariables false

theorem RowS.up {B C c : Nat} {w : World} {a : Option Addr} {ks : List ST} (hBC : B ≤ C) (h : RowS B w a c ks) : RowS C w a c ks := by
  obtain ⟨h1, h2, h | ⟨g, o, ha, hg, hr⟩⟩ := h
  · exact ⟨h1, h2, .inl h⟩
  · exact ⟨h1, h2, .inr ⟨g, o, ha, by omega, hr.up hBC⟩⟩
theorem RowV.up {B C c : Nat} {w : World} {a : Option Addr} {ks : List VT} (hBC : B ≤ C) (h : RowV B w a c ks) : RowV C w a c ks := by
  obtain ⟨h1, h2, h | ⟨g, o, ha, hg, hr⟩⟩ := h
  · exact ⟨h1, h2, .inl h⟩
  · exact ⟨h1, h2, .inr ⟨g, o, ha, by omega, hr⟩⟩
theorem RowN.up {B C c : Nat} {w : World} {a : Option Addr} {ks : List ByteArray} (hBC : B ≤ C) (h : RowN B w a c ks) : RowN C w a c ks := by
  obtain ⟨h1, h2, h | ⟨g, o, ha, hg, hr⟩⟩ := h
  · exact ⟨h1, h2, .inl h⟩
  · exact ⟨h1, h2, .inr ⟨g, o, ha, by omega, hr⟩⟩
theorem TT.In.up {B C : Nat} {w : World} (hBC : B ≤ C) {t : TT} (h : t.In B w) : t.In C w := ⟨h.1.up hBC, h.2.up hBC⟩
theorem RowT.up {B C c : Nat} {w : World} {a : Option Addr} {ks : List TT} (hBC : B ≤ C) (h : RowT B w a c ks) : RowT C w a c ks := by
  obtain ⟨h1, h2, h | ⟨g, o, ha, hg, hr⟩⟩ := h
  · exact ⟨h1, h2, .inl h⟩
  · exact ⟨h1, h2, .inr ⟨g, o, ha, by omega, fun i v hv => ⟨(hr i v hv).1, (hr i v hv).2.up hBC⟩⟩⟩
theorem PT.In.up {B C : Nat} {w : World} (hBC : B ≤ C) {p : PT} (h : p.In B w) : p.In C w := ⟨h.1.up hBC, h.2.1.up hBC, h.2.2.up hBC⟩
theorem PT.In.old {B : Nat} {w w' : World} (hO : Old B w w') {p : PT} (h : p.In B w) : p.In B w' := ⟨h.1.old hO, h.2.1.old hO, h.2.2.old hO⟩

theorem i46 : (Tryz.prog.info? 26).map (·.size) = some 3 := by kernel_rfl

set_option maxRecDepth 100000 in
set_option maxHeartbeats 1600000 in
theorem print8_any (p : PT) (B : Nat) (w : World) (h : p.In B w) (hBw : B ≤ w.heap.size) (hT : Tab w) (h16 : gB ≤ w.heap.size) (hlen : (pgT p.pg).length ≤ 70368744177664) :
    Calls Tryz.prog 20 #[.agg p.cells.toArray] w fun r w' => r = .returned (.tuple #[.string ⟨(if mayP p.pg = true ∧ (pgT p.pg).length ≤ 16384 then pgT p.pg else []).toArray⟩, .int .i64 (if mayP p.pg = true then (if (pgT p.pg).length ≤ 16384 then 0 else 3) else 2)]) ∧ Below w.heap.size w w' := by
  have hM := fun w h hB hT h16 => mayProgram_any p B w h hB hT h16
  have hW := fun C g (hC : gB ≤ C) hm w => programT_any C g 16384 (by decide) hC p hm w []
  obtain ⟨M, hMM⟩ : ∃ M, Hid (M = mayP p.pg) := ⟨_, (rfl : _ = mayP p.pg)⟩
  rw [← hMM.out] at hM hW ⊢
  have HI : Hid (p.In B w ∧ Tab w) := ⟨h, hT⟩
  obtain ⟨X, hX⟩ : ∃ X, Hid (X = pgT p.pg) := ⟨_, (rfl : pgT p.pg = _)⟩
  rw [← hX.out] at hlen hW ⊢
  simp only [List.nil_append] at hW
  have HW : Hid (∀ C g, gB ≤ C → M = true → ∀ w, p.In C w → Txt C w g 16384 [] → C ≤ w.heap.size → Tab w → X.length ≤ 70368744177664 → Calls Tryz.prog 44 #[.pointer (some ⟨g, 0, none⟩), .agg p.cells.toArray] w fun r w' => r = .returned (.tuple #[]) ∧ Txt C w' g 16384 X ∧ Wr C g w w') := hW
  obtain ⟨cs, hcs⟩ : ∃ cs, Hid (cs = p.cells ∧ cs.length = 3) := ⟨_, (⟨rfl, rfl⟩ : p.cells = p.cells ∧ _)⟩
  rw [← hcs.out.1] at hM ⊢
  have hi46 : (Tryz.prog.info? 26).map (·.size) = some cs.length := by rw [hcs.out.2]; exact i46
  clear h hT hW
  obtain ⟨R, hR⟩ : ∃ R, Hid (R = (Value.tuple #[.string ⟨(if M = true ∧ X.length ≤ 16384 then X else []).toArray⟩, .int .i64 (if M = true then (if X.length ≤ 16384 then 0 else 3) else 2)])) := ⟨_, (rfl : _ = (Value.tuple #[.string ⟨(if M = true ∧ X.length ≤ 16384 then X else []).toArray⟩, .int .i64 (if M = true then (if X.length ≤ 16384 then 0 else 3) else 2)]))⟩
  rw [← hR.out]
  go_enter Tryz.func20, Tryz.ntmps20
  go_wp2_with (first
    | ((with_reducible show wpList _ _ _ _ _ _); refine wpList_box_at rfl 26 (.tmp 0) rfl cs rfl ?_; intro w1 hA1 hb1 hs1; clear hs1)
    | ((with_reducible show wpList _ _ _ _ _ _); refine wpList_load_at (P := Tryz.prog) rfl 26 (.tmp 1) rfl w.heap.size rfl 26 cs hA1 _ Tryz.underlying26 rfl hi46 ?_))
  refine (hM w1 (HI.out.1.old (Old.of_below hb1 hBw)) (by have := hb1.size; omega) (HI.out.2.below hb1 h16) (by have := hb1.size; omega)).mono ?_
  rintro r w2 ⟨rfl, hb2⟩
  have hA2 := hA1.below hb2
  have hw2 := hb1.trans (hb2.mono hb1.size)
  clear hM hA1 hb2 hb1
  cases M with
  | false =>
    go_wp2_with fail
    go_ret2
    exact ⟨by rw [hR.out]; rfl, hw2⟩
  | true =>
    go_wp2_with (first
      | ((with_reducible show wpList _ _ _ _ _ _); refine wpList_build_at (P := Tryz.prog) rfl 88 #[(1, .const (.int .i64 16384))] rfl [.pointer none, .slice none 0 0, .int .i64 16384] (by kernel_rfl) ?_)
      | ((with_reducible show wpList _ _ _ _ _ _); refine wpList_alloc_at rfl 88 rfl _ 3 z54 ?_; intro w3 hA3 hb3 hs3)
      | ((with_reducible show wpList _ _ _ _ _ _); refine wpList_store_at (P := Tryz.prog) rfl 88 (.tmp 4) (.tmp 8) rfl w2.heap.size [.pointer none, .slice none 0 0, .int .i64 16384] rfl rfl 88 _ hA3 i54 rfl (one54 _) ?_; intro w4 hA4 hb4 hs4; refine Hid.out ?_))
    refine hidU ?_
    have hB4 : Below w2.heap.size w2 w4 := hb4.below hb3 (Nat.le_refl _) (by omega)
    have hw4 := hw2.trans (hB4.mono hw2.size)
    have hA24 := hA2.below hB4
    have hBw2 : w.heap.size ≤ w2.heap.size := hw2.size
    have hE := HW.out w2.heap.size w2.heap.size (by omega) trivial w4 ((HI.out.1.old (Old.of_below hw4 hBw)).up (by omega)) (Txt.new (Nat.le_refl _) hA4) (by have := hB4.size; omega) (HI.out.2.below hw4 h16) hlen
    rw [← hcs.out.1] at hE
    clear HW hA3 hb3 hb4 hs3 hs4 hA2 hA4
    go_wp2_with (first
      | ((with_reducible show wpList _ _ _ _ _ _); refine wpList_load_at (P := Tryz.prog) rfl 26 (.tmp 1) rfl w.heap.size rfl 26 cs hA24 _ Tryz.underlying26 rfl hi46 ?_))
    refine hE.mono ?_
    rintro r w5 ⟨rfl, hT5, hW5⟩
    obtain ⟨bs, hbs, hbl, hraw⟩ := hT5
    have hs5 : w2.heap.size ≤ w5.heap.size := by have := hB4.size; have := hW5.size; omega
    have hS := string_any w2.heap.size w2.heap.size _ bs w5 hraw hs5
    have hN := len_any w2.heap.size w2.heap.size _ bs w5 hraw
    have hw5 : Below w.heap.size w w5 := hw4.trans ((hW5.below (Nat.le_refl _) (by have := hB4.size; omega)).mono hBw2)
    have hbl' : bs.length ≤ 70368744177664 := by omega
    clear hE hW5 hraw hA24 hw4 hB4
    go_wp2_with fail
    refine hN.mono ?_
    rintro r w6 ⟨rfl, rfl⟩
    clear hN
    by_cases hc : 16384 < bs.length
    · have hXl : ¬ X.length ≤ 16384 := by omega
      go_wp2_with fail
      go_ret2
      exact ⟨by rw [hR.out]; simp [hXl], hw5⟩
    · have hbX : bs = X := by
        rcases hbs with h | ⟨h, _⟩
        · exact h
        · omega
      have hXl : X.length ≤ 16384 := by rw [← hbX]; omega
      go_wp2_with fail
      refine hS.mono ?_
      rintro r w7 ⟨rfl, hb7⟩
      go_wp2_with fail
      go_ret2
      refine ⟨?_, hw5.trans (hb7.mono hBw2)⟩
      rw [hR.out]
      simp [hXl]

end Go.Proofs.YtjgggmjjikopeaaGreatDoor

/- How long texts can be. -/
namespace Go.Proofs.YtjgggmjjikopeaaGreatDoor
set_option linter.unusedVariables false

theorem textOf_len (h : Nat) : (textOf h).length ≤ 44 := by
  unfold textOf
  split
  · simp
  · split
    · simp
    · split
      · simp
      · split
        · exact Nat.le_trans (litOf_len _ _) (by decide)
        · split
          · rename_i k n _
            have := litOf_len k n
            simp only [List.length_cons]
            omega
          · simp only [List.length_cons, hex8_len]
            omega
theorem valTx_len (t b : Nat) (hb : b < 18446744073709551616) : (valTx t b).length ≤ 44 := by
  unfold valTx
  split
  · have := Lib.itoa_length_le (sgn b) (by unfold sgn; split <;> omega) (by unfold sgn; split <;> omega)
    omega
  · split
    · cases decide (b = 1) <;> decide
    · split
      · exact textOf_len _
      · simp
theorem sgT_len (op : Nat) : (sgT op).length ≤ 2 := by
  unfold sgT
  split <;> simp

mutual
theorem exT_len : ∀ e : Ex, exOk e → (exT e).length ≤ 60 * exW e
  | .mk op t b nm [], hk => by
    unfold exOk at hk
    rw [exT, exW, exWs]
    have := valTx_len t b hk.1
    split
    · omega
    · split
      · omega
      · simp
  | .mk op t b nm [x], hk => by
    unfold exOk exOks at hk
    have h1 := exT_len x hk.2.1
    have := valTx_len t b hk.1
    rw [exT, exW, exWs, exWs]
    split
    · omega
    · split
      · omega
      · split
        · simp only [List.length_cons]; omega
        · split
          · simp only [List.length_cons]; omega
          · split
            · simp only [List.length_cons, List.length_append, List.length_nil]; omega
            · split
              · simp only [List.length_cons, List.length_append, List.length_nil]; omega
              · simp
  | .mk op t b nm (x :: y :: r), hk => by
    unfold exOk exOks exOks at hk
    have h1 := exT_len x hk.2.1
    have h2 := exT_len y hk.2.2.1
    have h3 := sgT_len op
    have := valTx_len t b hk.1
    rw [exT, exW, exWs, exWs]
    split
    · omega
    · split
      · omega
      · simp only [List.length_cons, List.length_append, List.length_nil]
        omega
end

theorem arA (bl n : Nat) (hn : 1 ≤ n) : 100 * n + 4 * bl ≤ (100 + 4 * bl + 8 * n) * n := by
  have h1 : 4 * bl ≤ 4 * bl * n := Nat.le_mul_of_pos_right _ hn
  simp only [Nat.add_mul]
  omega
theorem arB (bl x nb nc m n : Nat) (hn : n = m + nb + nc) (hm : 1 + x ≤ m) : 20 + 60 * x + 3 * bl + ((100 + 4 * (bl + 2) + 8 * nb) * nb + (100 + 4 * (bl + 2) + 8 * nc) * nc) ≤ (100 + 4 * bl + 8 * n) * n := by
  subst hn
  have h1 : bl ≤ bl * m := Nat.le_mul_of_pos_right _ (by omega)
  have h2 : nb ≤ m * nb := Nat.le_mul_of_pos_left _ (by omega)
  have h3 : nc ≤ m * nc := Nat.le_mul_of_pos_left _ (by omega)
  have e1 : nb * m = m * nb := Nat.mul_comm _ _
  have e2 : nc * m = m * nc := Nat.mul_comm _ _
  have e3 : nc * nb = nb * nc := Nat.mul_comm _ _
  simp only [Nat.add_mul, Nat.mul_add, Nat.mul_assoc]
  omega
theorem arC (bl n1 n2 : Nat) : (100 + 4 * bl + 8 * n1) * n1 + (100 + 4 * bl + 8 * n2) * n2 ≤ (100 + 4 * bl + 8 * (n1 + n2)) * (n1 + n2) := by
  have e3 : n2 * n1 = n1 * n2 := Nat.mul_comm _ _
  simp only [Nat.add_mul, Nat.mul_add, Nat.mul_assoc]
  omega

mutual
theorem stT_len : ∀ (bl : List UInt8) (s : St), stOk s → (stT bl s).length + bl.length + 1 ≤ (100 + 4 * bl.length + 8 * stW s) * stW s
  | bl, .mk k nm e b c, hk => by
    unfold stOk at hk
    have he := exT_len e hk.1
    have hb := blT_len (bl ++ [32, 32]) b hk.2.1
    have hc := blT_len (bl ++ [32, 32]) c hk.2.2
    have hbl : (bl ++ [32, 32]).length = bl.length + 2 := by simp
    rw [hbl] at hb hc
    have hA := arA bl.length (stW (.mk k nm e b c)) (by rw [stW]; omega)
    have hB := arB bl.length (exW e) (stWs b) (stWs c) (nm.length + 1 + exW e) (stW (.mk k nm e b c)) (by rw [stW]) (by omega)
    have hn : stW (.mk k nm e b c) = nm.length + 1 + exW e + stWs b + stWs c := by rw [stW]
    generalize (100 + 4 * bl.length + 8 * stW (.mk k nm e b c)) * stW (.mk k nm e b c) = R at hA hB ⊢
    rw [stT]
    split
    · simp only [List.length_append, List.length_cons, List.length_nil]; omega
    · split
      · simp only [List.length_append, List.length_cons, List.length_nil]; omega
      · split
        · simp only [List.length_append, List.length_cons, List.length_nil]; omega
        · split
          · simp only [List.length_append, List.length_cons, List.length_nil]; omega
          · split
            · cases c.isEmpty with
              | true => simp only [List.length_append, List.length_cons, List.length_nil, if_true]; omega
              | false => simp only [List.length_append, List.length_cons, List.length_nil, Bool.false_eq_true, if_false]; omega
            · split
              · simp only [List.length_append, List.length_cons, List.length_nil]; omega
              · split
                · simp only [List.length_cons, List.length_nil]; omega
                · simp only [List.length_nil]; omega
theorem blT_len : ∀ (bl : List UInt8) (l : List St), stOks l → (blT bl l).length ≤ (100 + 4 * bl.length + 8 * stWs l) * stWs l
  | bl, [], _ => by simp [blT]
  | bl, s :: r, hk => by
    unfold stOks at hk
    have h1 := stT_len bl s hk.1
    have h2 := blT_len bl r hk.2
    have h3 := arC bl.length (stW s) (stWs r)
    rw [blT, stWs]
    simp only [List.length_append, List.length_cons, List.length_nil]
    omega
end

theorem sum_len {α : Type} (f : α → List UInt8) (g : α → Nat) (C : Nat) : ∀ l : List α, (∀ a ∈ l, (f a).length ≤ C * g a) → ((l.map f).flatten).length ≤ C * (l.map g).sum
  | [], _ => by simp
  | a :: r, h => by
    have h1 := h a List.mem_cons_self
    have h2 := sum_len f g C r fun x hx => h x (List.mem_cons_of_mem _ hx)
    simp only [List.map_cons, List.flatten_cons, List.length_append, List.sum_cons, Nat.mul_add]
    omega
theorem le_sum {α : Type} (g : α → Nat) : ∀ (l : List α) (a : α), a ∈ l → g a ≤ (l.map g).sum
  | [], a, h => by cases h
  | x :: r, a, h => by
    simp only [List.map_cons, List.sum_cons]
    rcases List.mem_cons.1 h with rfl | h
    · omega
    · have := le_sum g r a h; omega

theorem vrT_len (wd : List UInt8) (hw : wd.length ≤ 8) (v : Vr) (hk : vrOk v) : (vrT wd v).length ≤ 100 * vrW v := by
  have := valTx_len v.t v.b hk
  have h2 : (tyT v.t).length ≤ 4 := by unfold tyT; split <;> (try split) <;> simp
  unfold vrT vrW
  simp only [List.length_append, List.length_cons, List.length_nil]
  omega

theorem thT_len (t : Th) (hk : thOk t) (hw : thW t ≤ 1048576) : (thT t).length ≤ 8389000 * thW t := by
  have h1 := sum_len (vrT [32, 32, 108, 111, 99, 97, 108, 32]) vrW 100 t.locals (fun v hv => vrT_len _ (by decide) v (hk.1 v hv))
  have h2 := blT_len [32, 32] t.body hk.2
  have h3 : (100 + 4 * ([32, 32] : List UInt8).length + 8 * stWs t.body) * stWs t.body ≤ 8388716 * stWs t.body := Nat.mul_le_mul_right _ (by unfold thW at hw; simp only [List.length_cons, List.length_nil]; omega)
  unfold thT thW vrsT
  unfold thW at hw
  simp only [List.length_append, List.length_cons, List.length_nil]
  omega

theorem pgT_len (p : Pg) (hk : pgOk p) (hw : pgW p ≤ 1048576) : (pgT p).length ≤ 70368744177664 := by
  have h1 := sum_len (vrT [115, 104, 97, 114, 101, 100, 32]) vrW 100 p.shared (fun v hv => vrT_len _ (by decide) v (hk.1 v hv))
  have h2 := sum_len mxT (fun m => m.length + 1) 100 p.mutexes (fun m _ => by unfold mxT; simp only [List.length_append, List.length_cons, List.length_nil]; omega)
  have h3 := sum_len thT thW 8389000 p.threads (fun t ht => thT_len t (hk.2 t ht) (by have := le_sum thW p.threads t ht; unfold pgW at hw; omega))
  unfold pgT vrsT mxsT thsT
  unfold pgW at hw
  simp only [List.length_append]
  omega

end Go.Proofs.YtjgggmjjikopeaaGreatDoor

/- What is printed is read: variables, threads, programs. -/
namespace Go.Proofs.YtjgggmjjikopeaaGreatDoor
set_option linter.unusedVariables false

theorem ty_words {t : Nat} (h : t = 1 ∨ t = 2 ∨ t = 3) : tyT t ∈ words ∧ ∀ (u : Tk) (r : List Tk), u.text = tyT t → typeR (u :: r) = .ok t r := by
  rcases h with rfl | rfl | rfl <;> (refine ⟨by decide, fun u r hu => ?_⟩; have hu : (hdT (u :: r)).text = _ := hu; unfold typeR; rw [hu]; rfl)
theorem vr_both {v : Vr} (hm : mayV v = true) (hk : vrOk v) : ∃ ks, (∀ r kr, LexTo r kr → LexTo (v.nm ++ 32 :: (tyT v.t ++ 32 :: 61 :: 32 :: (valTx v.t v.b ++ 59 :: 10 :: r))) (ks ++ kr)) ∧ ∀ ts rest, Are ts ks → variableR (ts ++ rest) = .ok v rest := by
  unfold mayV at hm
  rw [Bool.and_eq_true] at hm
  obtain ⟨hv, hn⟩ := hm
  obtain ⟨kv, l1, r1⟩ := val_one hv hk
  obtain ⟨ht1, ht2⟩ := ty_words (valOk_type hv)
  refine ⟨(1, v.nm) :: (1, tyT v.t) :: (4, [61]) :: (kv ++ [(4, [59])]), fun r kr k => ?_, fun ts rest ha => ?_⟩
  · have := LexTo.nm hn (LexTo.wd ht1 (LexTo.is (l1 _ _ (Sp.mk59 _) k.semi)))
    simpa using this
  · obtain ⟨t0, r, rfl, a1, a2, a3, a4⟩ := ha.cons
    obtain ⟨t1, r, rfl, b1, b2, b3, b4⟩ := a4.cons
    obtain ⟨t2, r, rfl, c1, c2, c3, c4⟩ := b4.cons
    obtain ⟨vs, r, rfl, d1, d2⟩ := c4.app
    obtain ⟨t3, r, rfl, e1, e2, e3, e4⟩ := d2.cons
    rw [e4.nil]
    have c2 : t2.text = [61] := c2
    have el : (t0 :: t1 :: t2 :: (vs ++ [t3])) ++ rest = t0 :: t1 :: t2 :: (vs ++ t3 :: rest) := by simp
    rw [el]
    unfold variableR
    rw [name_ok a2 hn, Rs.bind_ok, ht2 t1 _ b2, Rs.bind_ok]
    unfold initR
    rw [if_pos (show (hdT (t2 :: (vs ++ t3 :: rest))).text = [61] from c2), List.tail_cons, r1 vs _ d1, Rs.bind_ok, must_ok e2, Rs.bind_ok]

theorem locals_both : ∀ (vs : List Vr), (∀ v ∈ vs, mayV v = true ∧ vrOk v) → ∃ ks, (∀ r kr, LexTo r kr → LexTo (vrsT [32, 32, 108, 111, 99, 97, 108, 32] vs ++ r) (ks ++ kr)) ∧
    ∀ ts rest f, Are ts ks → ts.length + 1 ≤ f → (hdT rest).text ≠ [108, 111, 99, 97, 108] → localsR f (ts ++ rest) = .ok vs rest
  | [], _ => ⟨[], fun r kr k => by simpa [vrsT] using k, fun ts rest f ha hf hr => by
      rw [ha.nil]
      obtain ⟨f, rfl⟩ : ∃ g, f = g + 1 := ⟨f - 1, by omega⟩
      show localsR (f + 1) rest = _
      rw [localsR, if_neg hr]⟩
  | v :: vs, h => by
    obtain ⟨kv, l1, r1⟩ := vr_both (h v List.mem_cons_self).1 (h v List.mem_cons_self).2
    obtain ⟨ks, l2, r2⟩ := locals_both vs fun u hu => h u (List.mem_cons_of_mem _ hu)
    refine ⟨(1, [108, 111, 99, 97, 108]) :: (kv ++ ks), fun r kr k => ?_, fun ts rest f ha hf hr => ?_⟩
    · have := LexTo.bl32 (LexTo.bl32 (LexTo.wd (x := [108, 111, 99, 97, 108]) (by decide) (l1 _ _ (l2 r kr k))))
      simpa [vrsT, vrT] using this
    · obtain ⟨t0, r, rfl, a1, a2, a3, a4⟩ := ha.cons
      obtain ⟨xs, ys, rfl, b1, b2⟩ := a4.app
      simp only [List.length_cons, List.length_append] at hf
      obtain ⟨f, rfl⟩ : ∃ g, f = g + 1 := ⟨f - 1, by omega⟩
      have el : (t0 :: (xs ++ ys)) ++ rest = t0 :: (xs ++ (ys ++ rest)) := by simp
      rw [el, localsR, if_pos (show (hdT (t0 :: (xs ++ (ys ++ rest)))).text = _ from a2), List.tail_cons, r1 xs _ b1, Rs.bind_ok, r2 ys rest f b2 (by omega) hr, Rs.bind_ok]

theorem th_both {t : Th} (hm : mayT t = true) (hw : wiB 0 t.body = true) (hk : thOk t) : ∃ ks, (∀ r kr, LexTo r kr → LexTo (thT t ++ r) ((1, [116, 104, 114, 101, 97, 100]) :: (ks ++ kr))) ∧ ∀ ts rest, Are ts ks → threadR (ts ++ rest) = .ok t rest := by
  unfold mayT at hm
  simp only [Bool.and_eq_true] at hm
  obtain ⟨hn, hl, hb⟩ := hm
  obtain ⟨kl, l1, r1⟩ := locals_both t.locals fun v hv => ⟨List.all_eq_true.1 hl v hv, hk.1 v hv⟩
  obtain ⟨kb, l2, r2, n2⟩ := bl_both 0 [32, 32] t.body (by simp) hb hw hk.2
  refine ⟨(1, t.nm) :: (4, [123]) :: (kl ++ (kb ++ [(4, [125])])), fun r kr k => ?_, fun ts rest ha => ?_⟩
  · have := LexTo.wd (x := [116, 104, 114, 101, 97, 100]) (by decide) (LexTo.nm hn (LexTo.opn (l1 _ _ (l2 _ _ k.shut))))
    unfold thT
    simpa using this
  · obtain ⟨t0, r, rfl, a1, a2, a3, a4⟩ := ha.cons
    obtain ⟨t1, r, rfl, b1, b2, b3, b4⟩ := a4.cons
    obtain ⟨ls, r, rfl, c1, c2⟩ := b4.app
    obtain ⟨bs, r, rfl, d1, d2⟩ := c2.app
    obtain ⟨t2, r, rfl, e1, e2, e3, e4⟩ := d2.cons
    rw [e4.nil]
    have el : (t0 :: t1 :: (ls ++ (bs ++ [t2]))) ++ rest = t0 :: t1 :: (ls ++ (bs ++ t2 :: rest)) := by simp
    rw [el]
    unfold threadR
    rw [name_ok a2 hn, Rs.bind_ok, must_ok b2, Rs.bind_ok, r1 ls _ _ c1 (by simp) (n2 bs t2 rest d1 e2).2, Rs.bind_ok, r2 bs t2 rest _ d1 e2 (by simp; omega), Rs.bind_ok]

theorem ths_both : ∀ (l : List Th), (∀ t ∈ l, mayT t = true ∧ wiB 0 t.body = true ∧ thOk t) → ∃ ks, LexTo (thsT l) ks ∧ ∀ ts u f, Are ts ks → u.text = [] → ts.length + 1 ≤ f → threadsR f (ts ++ [u]) = .ok l [u] ∧ (hdT (ts ++ [u])).text ≠ [115, 104, 97, 114, 101, 100] ∧ (hdT (ts ++ [u])).text ≠ [109, 117, 116, 101, 120]
  | [], _ => ⟨[], .nil, fun ts u f ha hu hf => by
      rw [ha.nil]
      obtain ⟨f, rfl⟩ : ∃ g, f = g + 1 := ⟨f - 1, by omega⟩
      refine ⟨?_, ?_⟩
      · show threadsR (f + 1) [u] = _
        rw [threadsR, if_neg (show ¬ (hdT [u]).text = _ by show ¬ u.text = _; rw [hu]; decide)]
      · show u.text ≠ _ ∧ u.text ≠ _
        rw [hu]
        decide⟩
  | t :: l, h => by
    obtain ⟨h1, h2, h3⟩ := h t List.mem_cons_self
    obtain ⟨kt, l1, r1⟩ := th_both h1 h2 h3
    obtain ⟨ks, l2, r2⟩ := ths_both l fun u hu => h u (List.mem_cons_of_mem _ hu)
    refine ⟨(1, [116, 104, 114, 101, 97, 100]) :: (kt ++ ks), ?_, fun ts u f ha hu hf => ?_⟩
    · have := l1 _ _ l2
      unfold thsT at this ⊢
      simpa using this
    · obtain ⟨t0, r, rfl, a1, a2, a3, a4⟩ := ha.cons
      obtain ⟨xs, ys, rfl, b1, b2⟩ := a4.app
      simp only [List.length_cons, List.length_append] at hf
      obtain ⟨f, rfl⟩ : ∃ g, f = g + 1 := ⟨f - 1, by omega⟩
      have a2 : t0.text = [116, 104, 114, 101, 97, 100] := a2
      have el : (t0 :: (xs ++ ys)) ++ [u] = t0 :: (xs ++ (ys ++ [u])) := by simp
      rw [el]
      refine ⟨?_, ?_⟩
      · rw [threadsR, if_pos (show (hdT (t0 :: (xs ++ (ys ++ [u])))).text = _ from a2), List.tail_cons, r1 xs _ b1, Rs.bind_ok, (r2 ys u f b2 hu (by omega)).1, Rs.bind_ok]
      · show t0.text ≠ _ ∧ t0.text ≠ _
        rw [a2]
        decide

theorem mxs_both : ∀ (l : List (List UInt8)), (∀ m ∈ l, isNm m = true) → ∃ ks, (∀ r kr, LexTo r kr → LexTo (mxsT l ++ r) (ks ++ kr)) ∧
    ∀ ts rest f, Are ts ks → ts.length + 1 ≤ f → (hdT rest).text ≠ [115, 104, 97, 114, 101, 100] → (hdT rest).text ≠ [109, 117, 116, 101, 120] → declsR f (ts ++ rest) = .ok ([], l) rest
  | [], _ => ⟨[], fun r kr k => by simpa [mxsT] using k, fun ts rest f ha hf h1 h2 => by
      rw [ha.nil]
      obtain ⟨f, rfl⟩ : ∃ g, f = g + 1 := ⟨f - 1, by omega⟩
      show declsR (f + 1) rest = _
      rw [declsR, if_neg h1, if_neg h2]⟩
  | m :: l, h => by
    have hm := h m List.mem_cons_self
    obtain ⟨ks, l2, r2⟩ := mxs_both l fun u hu => h u (List.mem_cons_of_mem _ hu)
    refine ⟨(1, [109, 117, 116, 101, 120]) :: (1, m) :: (4, [59]) :: ks, fun r kr k => ?_, fun ts rest f ha hf h1 h2 => ?_⟩
    · have := LexTo.wd (x := [109, 117, 116, 101, 120]) (by decide) (LexTo.name hm (Sp.mk59 _) (LexTo.semi (l2 r kr k)))
      unfold mxsT mxT at this ⊢
      simpa using this
    · obtain ⟨t0, r, rfl, a1, a2, a3, a4⟩ := ha.cons
      obtain ⟨t1, r, rfl, b1, b2, b3, b4⟩ := a4.cons
      obtain ⟨t2, ys, rfl, c1, c2, c3, c4⟩ := b4.cons
      simp only [List.length_cons] at hf
      obtain ⟨f, rfl⟩ : ∃ g, f = g + 1 := ⟨f - 1, by omega⟩
      have a2 : t0.text = [109, 117, 116, 101, 120] := a2
      show declsR (f + 1) (t0 :: t1 :: t2 :: (ys ++ rest)) = _
      rw [declsR, if_neg (show ¬ (hdT (t0 :: t1 :: t2 :: (ys ++ rest))).text = _ by show ¬ t0.text = _; rw [a2]; decide), if_pos (show (hdT (t0 :: t1 :: t2 :: (ys ++ rest))).text = _ from a2), List.tail_cons, name_ok b2 hm, Rs.bind_ok, must_ok c2, Rs.bind_ok, r2 ys rest f c4 (by omega) h1 h2, Rs.bind_ok]

theorem vrs_both : ∀ (vs : List Vr), (∀ v ∈ vs, mayV v = true ∧ vrOk v) → ∃ ks, (∀ r kr, LexTo r kr → LexTo (vrsT [115, 104, 97, 114, 101, 100, 32] vs ++ r) (ks ++ kr)) ∧
    ∀ ts rest n x r2, Are ts ks → (∀ f, n ≤ f → declsR f rest = .ok x r2) → ∀ f, n + ts.length ≤ f → declsR f (ts ++ rest) = .ok (vs ++ x.1, x.2) r2
  | [], _ => ⟨[], fun r kr k => by simpa [vrsT] using k, fun ts rest n x r2 ha h f hf => by
      rw [ha.nil] at hf ⊢
      exact h f hf⟩
  | v :: vs, h => by
    obtain ⟨kv, l1, r1⟩ := vr_both (h v List.mem_cons_self).1 (h v List.mem_cons_self).2
    obtain ⟨ks, l2, r2⟩ := vrs_both vs fun u hu => h u (List.mem_cons_of_mem _ hu)
    refine ⟨(1, [115, 104, 97, 114, 101, 100]) :: (kv ++ ks), fun r kr k => ?_, fun ts rest n x r3 ha hr f hf => ?_⟩
    · have := LexTo.wd (x := [115, 104, 97, 114, 101, 100]) (by decide) (l1 _ _ (l2 r kr k))
      simpa [vrsT, vrT] using this
    · obtain ⟨t0, r, rfl, a1, a2, a3, a4⟩ := ha.cons
      obtain ⟨xs, ys, rfl, b1, b2⟩ := a4.app
      simp only [List.length_cons, List.length_append] at hf
      obtain ⟨f, rfl⟩ : ∃ g, f = g + 1 := ⟨f - 1, by omega⟩
      have el : (t0 :: (xs ++ ys)) ++ rest = t0 :: (xs ++ (ys ++ rest)) := by simp
      rw [el, declsR, if_pos (show (hdT (t0 :: (xs ++ (ys ++ rest)))).text = _ from a2), List.tail_cons, r1 xs _ b1, Rs.bind_ok, r2 ys rest n x r3 b2 hr f (by omega), Rs.bind_ok]
      rfl

/-- What is printed of a program is read as it. -/
theorem pg_both {p : Pg} (hm : mayP p = true) (hw : ∀ t ∈ p.threads, wiB 0 t.body = true) (hk : pgOk p) : ∃ ks, LexTo (pgT p) ks ∧ ∀ ts u, Are ts ks → u.text = [] → programR (ts ++ [u]) = .ok p [u] := by
  unfold mayP at hm
  simp only [Bool.and_eq_true] at hm
  obtain ⟨hs, hx, ht⟩ := hm
  obtain ⟨k1, l1, r1⟩ := vrs_both p.shared fun v hv => ⟨List.all_eq_true.1 hs v hv, hk.1 v hv⟩
  obtain ⟨k2, l2, r2⟩ := mxs_both p.mutexes fun m hm => List.all_eq_true.1 hx m hm
  obtain ⟨k3, l3, r3⟩ := ths_both p.threads fun t h => ⟨List.all_eq_true.1 ht t h, hw t h, hk.2 t h⟩
  refine ⟨k1 ++ (k2 ++ k3), l1 _ _ (l2 _ _ l3), fun ts u ha hu => ?_⟩
  obtain ⟨xs, r, rfl, a1, a2⟩ := ha.app
  obtain ⟨ys, zs, rfl, b1, b2⟩ := a2.app
  obtain ⟨-, c1, c2⟩ := r3 zs u _ b2 hu (Nat.le_refl _)
  have el : (xs ++ (ys ++ zs)) ++ [u] = xs ++ (ys ++ (zs ++ [u])) := by simp
  rw [el]
  unfold programR
  rw [r1 xs (ys ++ (zs ++ [u])) (ys.length + 1) ([], p.mutexes) (zs ++ [u]) a1 (fun f hf => r2 ys _ f b1 hf c1 c2) _ (by simp; omega), Rs.bind_ok, (r3 zs u _ b2 hu (by simp)).1, Rs.bind_ok]
  simp

theorem back_math {p : Pg} (hm : mayP p = true) (hw : ∀ t ∈ p.threads, wiB 0 t.body = true) (hk : pgOk p) (hl : (pgT p).length ≤ 16384) : pgO (pgT p) (programR (toksOf (pgT p))) = (p, 0, 0) := by
  obtain ⟨ks, h1, h2⟩ := pg_both hm hw hk
  obtain ⟨h3, h4⟩ := lexS_to h1 hl
  unfold pgO
  rw [if_pos h3]
  unfold toksOf
  rw [h2 _ _ h4 rfl]
  rfl

end Go.Proofs.YtjgggmjjikopeaaGreatDoor

/- The texts of the chapter's examples, reckoned. -/
namespace Go.Proofs.YtjgggmjjikopeaaGreatDoor
set_option linter.unusedVariables false

def tK1 : List UInt8 := [115, 104, 97, 114, 101, 100, 32, 120, 32, 105, 110, 116, 32, 61, 32, 45, 51, 59, 32, 109, 117, 116, 101, 120, 32, 109, 59, 32, 116, 104, 114, 101, 97, 100, 32, 116, 32, 123, 32, 120, 32, 61, 32, 49, 59, 32, 125]
def pgK1 : Pg := ⟨[⟨[120], 1, 18446744073709551613⟩], [[109]], [⟨[116], [], [.mk 1 [120] (.mk 1 1 1 [] []) [] []]⟩]⟩
set_option maxRecDepth 100000 in
theorem k1 : pgO tK1 (programR (toksOf tK1)) = (pgK1, 0, 0) := by kernel_rfl
set_option maxRecDepth 100000 in
theorem k2 : exO [40, 97] (exprR (toksOf [40, 97])) = (noX.ex, 4, 2) := by kernel_rfl
set_option maxRecDepth 100000 in
theorem k3 : exO [105, 110, 116, 32, 97] (exprR (toksOf [105, 110, 116, 32, 97])) = (noX.ex, 4, 4) := by kernel_rfl
set_option maxRecDepth 100000 in
theorem k4 : pgO [115, 104, 97, 114, 101, 100, 32, 120, 32, 105, 110, 116, 32, 61, 32, 116, 114, 117, 101, 59] (programR (toksOf [115, 104, 97, 114, 101, 100, 32, 120, 32, 105, 110, 116, 32, 61, 32, 116, 114, 117, 101, 59])) = (noP.pg, 9, 15) := by kernel_rfl
set_option maxRecDepth 100000 in
theorem k5 : pgO [116, 104, 114, 101, 97, 100, 32, 116, 32, 123, 32, 120, 32, 61, 32, 49, 32, 125] (programR (toksOf [116, 104, 114, 101, 97, 100, 32, 116, 32, 123, 32, 120, 32, 61, 32, 49, 32, 125])) = (noP.pg, 4, 17) := by kernel_rfl
set_option maxRecDepth 100000 in
theorem k6 : exO (49 :: manyS [32, 43, 32, 49] 32) (exprR (toksOf (49 :: manyS [32, 43, 32, 49] 32))) = (noX.ex, 160, 126) := by kernel_rfl
set_option maxRecDepth 100000 in
theorem k7 : exO (manyS [40] 33) (exprR (toksOf (manyS [40] 33))) = (noX.ex, 160, 32) := by kernel_rfl
end Go.Proofs.YtjgggmjjikopeaaGreatDoor
