/- Joined texts of the proof. -/
import Derived.Test.YtjgggmjjikopeaaGreatDoorJ17

/- The document's reader: a literal. -/
namespace Go.Proofs.YtjgggmjjikopeaaGreatDoor
open Go.RowKit
set_option linter.unusedVariables false

theorem wp_alloc_at {P : Program} {o : Oper} {a : Act} {w : World} {K : Act → World → Prop} {Q : Exit → Act → World → Prop} (t : TypeId) (ho : o.op = .alloc t) (cs : List Value) (n : Nat) (hz : (P.info? t).map (fun i => (i.zero, i.size)) = some (some (.agg cs.toArray), n))
    (h : ∀ w', At t w' w.heap.size cs → Below w.heap.size w w' → w'.heap.size = w.heap.size + 1 → K (a.put o.dst (.pointer (some ⟨w.heap.size, 0, none⟩))) w') : o.wp P a w K Q := by
  have := h (w.alloc (.cells cs.toArray t)) (_root_.Go.heap_alloc_new w _) ((Below.refl _ w).alloc (Nat.le_refl _) _) (by show (w.heap.push _).size = _; simp)
  have h0 := (zero_of_info hz).1
  unfold Oper.wp execOp
  simp only [ho, Instr.alloc, Sem.run_bind, h0]
  simpa [newVar, go_sem, Value.cells] using this

/-- A literal that is next, or none. -/
def litW (o : Option (Nat × Nat)) : Nat × Nat := o.getD (0, 0)
theorem digit_ne {t : Tk} (hk : t.kind = 2 ∨ t.kind = 3) (h : TkOk t) : litTk t = some (valT t.kind, t.bits) := by
  have hd := h.2 hk
  unfold litTk
  rw [if_neg (fun e => by rw [e] at hd; exact absurd hd.2 (by decide)), if_neg (fun e => by rw [e] at hd; exact absurd hd.2 (by decide)), if_neg (fun e => by rw [e] at hd; exact absurd hd.2 (by decide)), if_neg (fun e => by rw [e] at hd; exact absurd hd.2 (by decide)), if_pos hk]

set_option maxRecDepth 100000 in
set_option maxHeartbeats 12800000 in
theorem refLit_at {B : Nat} (g gt : Nat) (L : List Tk) (c k en ne bl : Nat) (t : Tk) (ht : L[k]? = some t) (hok : TkOk t) (w : World) (h : Qd B w g L (some ⟨gt, 0, none⟩) c k en 0 0 ne bl) (hBw : B ≤ w.heap.size) :
    Calls Tryz.prog 132 #[.pointer (some ⟨g, 0, none⟩)] w fun r w' => r = .returned (.tuple #[.agg (val2 (litW (litTk t)).1 (litW (litTk t)).2).toArray, .bool (litTk t).isSome]) ∧ Qd B w' g L (some ⟨gt, 0, none⟩) c (if (litTk t).isSome = true then k + 1 else k) en 0 0 ne bl ∧ But g w w' := by
  have hk : k < L.length := (List.getElem?_eq_some_iff.1 ht).1
  have hgn := rd_ne h hk
  have hdg := fun hh => digit_ne (t := t) hh hok
  obtain ⟨hr, hgB⟩ : w.rangeAt gt (k * 5) t.cells ∧ gt < B := by
    obtain ⟨gt', t', h1, h2, h3, -, h5⟩ := rd_tok h hk
    cases h1
    rw [ht] at h2
    cases h2
    exact ⟨h3, h5⟩
  have HQ : Hid (Qd B w g L (some ⟨gt, 0, none⟩) c k en 0 0 ne bl) := h
  have hA := h.cell
  have hlow := h.low
  have hlen := h.len
  obtain ⟨lv, hlv⟩ : ∃ lv, lv = litTk t := ⟨_, rfl⟩
  rw [← hlv] at hdg ⊢
  obtain ⟨K, T, p, b⟩ := t
  have hr : w.rangeAt gt (k * 5) (tok5 K ⟨T.toArray⟩ p (valT K) b) := hr
  dsimp only at hdg
  clear h hok ht
  generalize hvt : valT K = vt at *
  have HF : Hid (∀ w6 w7 w9 : World, Below w.heap.size w w6 → At 71 w7 g (q7 (some ⟨gt, 0, none⟩) L.length c (k + 1) en 0 0 ne bl) → But g w6 w7 → But w.heap.size w7 w9 → Qd B w9 g L (some ⟨gt, 0, none⟩) c (k + 1) en 0 0 ne bl ∧ But g w w9) := fun w6 w7 w9 h1 h2 h3 h4 => ⟨(((HQ.out.below h1).set h2 h3 hk)).but h4 hBw, ((But.of_below h1).trans h3).fresh h4 (Nat.le_refl _)⟩
  have HG : Hid (∀ w6 w9 : World, Below w.heap.size w w6 → But w.heap.size w6 w9 → Qd B w9 g L (some ⟨gt, 0, none⟩) c k en 0 0 ne bl ∧ But g w w9) := fun w6 w9 h1 h4 => ⟨(HQ.out.below h1).but h4 hBw, (But.of_below h1).fresh h4 (Nat.le_refl _)⟩
  generalize L.length = n at *
  go_enter Tryz.func132, Tryz.ntmps132
  go_wp2_with (first
    | ((with_reducible show wpList _ _ _ _ _ _); refine wpList_alloc_at (o := { dst := some 2, .. }) rfl 40 rfl (val2 0 0) 2 z32 ?_; intro w1 hA1 hb1 hs1; clear hs1; refine Hid.out ?_))
  refine hidU ?_
  have l1 := hA1.lt
  have hA := hA.below hb1
  have hr : w1.rangeAt gt (k * 5) (tok5 K ⟨T.toArray⟩ p vt b) := fun j v hj => by rw [World.cell?_of_block (w := w) (hb1.block gt (by omega))]; exact hr j v hj
  have hO := fun m => refOk_any g n (some ⟨gt, 0, none⟩) c k en 0 0 ne bl (w1.drewN m) (hA.drewN m)
  have hO : ∀ m, Calls Tryz.prog 30 #[.pointer (some ⟨g, 0, none⟩)] (w1.drewN m) fun r w' => r = .returned (.bool true) ∧ w' = w1.drewN m := hO
  obtain ⟨q0, q1, q2, q3, q4, q5, q6⟩ := q7_cells hA
  go_wp2_with fail
  go_quiet (first | (go_at_call 30; exact Calls.quiet_of_same (hO _)))
  clear q0 q1 q2 q3 q4 q5 q6 hO
  obtain ⟨w2, hw2⟩ : ∃ x, x = w1.drewN nq := ⟨_, rfl⟩
  have hb2 : Below w1.heap.size w1 w2 := by rw [hw2]; exact below_drewN w1 nq
  have hA : At 71 w2 g (q7 (some ⟨gt, 0, none⟩) n c k en 0 0 ne bl) := by rw [hw2]; exact hA
  have hr : w2.rangeAt gt (k * 5) (tok5 K ⟨T.toArray⟩ p vt b) := by rw [hw2]; exact hr
  have hZ2 := hA1.below hb2
  have l2 := hb2.size
  rw [← hw2]
  clear hw2
  go_wp2_with fail
  · have hgt : gt < w2.drew.heap.size := by show gt < w2.heap.size; omega
    have hS0 : At 71 w2.drew g (q7 (some ⟨gt, 0, none⟩) n c k en 0 0 ne bl) ∧ w2.drew.rangeAt gt (k * 5) (tok5 K ⟨T.toArray⟩ p vt b) := ⟨hA.drew, hr⟩
    refine wp_region_held_drew (S := fun x => At 71 x g (q7 (some ⟨gt, 0, none⟩) n c k en 0 0 ne bl) ∧ x.rangeAt gt (k * 5) (tok5 K ⟨T.toArray⟩ p vt b)) (by kernel_rfl) hS0 (fun _ => ?_)
    refine wpAnyH_take (i := 0) (oi := { dst := some 22, op := .move (.tmp 0), type := _, pos := _, after := _, guard := none }) (v := .pointer (some ⟨g, 0, none⟩)) rfl (by kernel_rfl) (by kernel_rfl) (by kernel_rfl) (fun _ _ _ h => h) (Or.inl ⟨by rfl, ?_⟩) hS0 ?_
    · intro w hSw
      go_simp
    simp only [Act.put, List.setIfInBounds_toArray, List.set_cons_zero, List.set_cons_succ]
    refine wpAnyH_take (i := 1) (oi := { dst := some 23, op := .nilCheck (.tmp 22), type := _, pos := _, after := _, guard := none }) (v := .pointer (some ⟨g, 0, none⟩)) rfl (by kernel_rfl) (by kernel_rfl) (by kernel_rfl) (fun _ _ _ h => h) (Or.inl ⟨by rfl, ?_⟩) hS0 ?_
    · intro w hSw
      go_simp
    simp only [Act.put, List.setIfInBounds_toArray, List.set_cons_zero, List.set_cons_succ]
    refine wpAnyH_take (i := 2) (oi := { dst := some 24, op := .fieldAddr 71 (.tmp 23) 0, type := _, pos := _, after := _, guard := none }) (v := .pointer (some ⟨g, 0, none⟩)) rfl (by kernel_rfl) (by kernel_rfl) (by kernel_rfl) (fun _ _ _ h => h) (Or.inl ⟨by rfl, ?_⟩) hS0 ?_
    · intro w hSw
      obtain ⟨q0, q1, q2, q3, q4, q5, q6⟩ := q7_cells hSw.1
      go_simp
    simp only [Act.put, List.setIfInBounds_toArray, List.set_cons_zero, List.set_cons_succ]
    refine wpAnyH_take (i := 3) (oi := { dst := some 25, op := .load 60 (.tmp 24), type := _, pos := _, after := _, guard := none }) (v := .slice (some ⟨gt, 0, none⟩) n c) rfl (by kernel_rfl) (by kernel_rfl) (by kernel_rfl) (fun _ _ _ h => h) (Or.inl ⟨by rfl, ?_⟩) hS0 ?_
    · intro w hSw
      obtain ⟨q0, q1, q2, q3, q4, q5, q6⟩ := q7_cells hSw.1
      go_simp
    simp only [Act.put, List.setIfInBounds_toArray, List.set_cons_zero, List.set_cons_succ]
    refine wpAnyH_take (i := 4) (oi := { dst := some 26, op := .move (.tmp 0), type := _, pos := _, after := _, guard := none }) (v := .pointer (some ⟨g, 0, none⟩)) rfl (by kernel_rfl) (by kernel_rfl) (by kernel_rfl) (fun _ _ _ h => h) (Or.inl ⟨by rfl, ?_⟩) hS0 ?_
    · intro w hSw
      go_simp
    simp only [Act.put, List.setIfInBounds_toArray, List.set_cons_zero, List.set_cons_succ]
    refine wpAnyH_take (i := 5) (oi := { dst := some 27, op := .nilCheck (.tmp 26), type := _, pos := _, after := _, guard := none }) (v := .pointer (some ⟨g, 0, none⟩)) rfl (by kernel_rfl) (by kernel_rfl) (by kernel_rfl) (fun _ _ _ h => h) (Or.inl ⟨by rfl, ?_⟩) hS0 ?_
    · intro w hSw
      go_simp
    simp only [Act.put, List.setIfInBounds_toArray, List.set_cons_zero, List.set_cons_succ]
    refine wpAnyH_take (i := 6) (oi := { dst := some 28, op := .fieldAddr 71 (.tmp 27) 1, type := _, pos := _, after := _, guard := none }) (v := .pointer (some ⟨g, 1, none⟩)) rfl (by kernel_rfl) (by kernel_rfl) (by kernel_rfl) (fun _ _ _ h => h) (Or.inl ⟨by rfl, ?_⟩) hS0 ?_
    · intro w hSw
      obtain ⟨q0, q1, q2, q3, q4, q5, q6⟩ := q7_cells hSw.1
      go_simp
    simp only [Act.put, List.setIfInBounds_toArray, List.set_cons_zero, List.set_cons_succ]
    refine wpAnyH_take (i := 7) (oi := { dst := some 29, op := .load 3 (.tmp 28), type := _, pos := _, after := _, guard := none }) (v := .int .i64 (k : Int)) rfl (by kernel_rfl) (by kernel_rfl) (by kernel_rfl) (fun _ _ _ h => h) (Or.inl ⟨by rfl, ?_⟩) hS0 ?_
    · intro w hSw
      obtain ⟨q0, q1, q2, q3, q4, q5, q6⟩ := q7_cells hSw.1
      go_simp
    simp only [Act.put, List.setIfInBounds_toArray, List.set_cons_zero, List.set_cons_succ]
    refine wpAnyH_take (i := 8) (oi := { dst := some 30, op := .indexAddr 60 (.tmp 25) (.tmp 29), type := _, pos := _, after := _, guard := none }) (v := .pointer (some ⟨gt, k * 5, none⟩)) rfl (by kernel_rfl) (by kernel_rfl) (by kernel_rfl) (fun _ _ _ h => h) (Or.inl ⟨by rfl, ?_⟩) hS0 ?_
    · intro w hSw
      go_simp
    simp only [Act.put, List.setIfInBounds_toArray, List.set_cons_zero, List.set_cons_succ]
    refine wpAnyH_take (i := 9) (oi := { dst := some 31, op := .load 64 (.tmp 30), type := _, pos := _, after := _, guard := none }) (v := .agg (tok5 K ⟨T.toArray⟩ p vt b).toArray) rfl (by kernel_rfl) (by kernel_rfl) (by kernel_rfl) (fun _ _ _ h => h) (Or.inl ⟨by rfl, ?_⟩) hS0 ?_
    · intro w hSw
      obtain ⟨q0, q1, q2, q3, q4, q5, q6⟩ := q7_cells hSw.1
      obtain ⟨t0, t1, t2, t3, t4⟩ := tk5_mid hSw.2
      go_simp
      rfl
    simp only [Act.put, List.setIfInBounds_toArray, List.set_cons_zero, List.set_cons_succ]
    refine wpAnyH_ready (rs := [10]) (by kernel_rfl) (by simp) ?_
    refine AllReadyH.cons (o := { dst := some 4, op := .alloc 64, type := _, pos := _, after := _, guard := none }) rfl (fun KK hK => ?_) AllReadyH.nil
    rw [if_pos (by rfl)]
    refine wp_alloc_at 64 rfl (tok5 0 ⟨#[]⟩ 0 0 0) 5 z34 ?_
    intro w3 hA3 hb3 hs3
    clear hs3
    have hS3 : At 71 w3 g (q7 (some ⟨gt, 0, none⟩) n c k en 0 0 ne bl) ∧ w3.rangeAt gt (k * 5) (tok5 K ⟨T.toArray⟩ p vt b) := ⟨hS0.1.below hb3, fun j v hj => by rw [World.cell?_of_block (w := w2.drew) (hb3.block gt hgt)]; exact hS0.2 j v hj⟩
    have l3 := hA3.lt
    have ed : w2.drew.heap.size = w2.heap.size := rfl
    refine hK.out _ _ hS3 (fun _ => ?_)
    refine wpAnyH_ready (rs := [11]) (by kernel_rfl) (by simp) ?_
    refine AllReadyH.cons (o := { dst := none, op := .store 64 (.tmp 4) (.tmp 31), type := _, pos := _, after := _, guard := none }) rfl (fun KK hK => ?_) AllReadyH.nil
    rw [if_pos (by rfl)]
    refine wp_store_mid (P := Tryz.prog) 64 (.tmp 4) (.tmp 31) rfl w2.drew.heap.size 0 (tok5 K ⟨T.toArray⟩ p vt b).toArray rfl rfl (hA3.there 0 5 (by decide)) i34 (all_oneCell_toArray (one5T _ _ _ _ _)) ?_
    obtain ⟨w4, hw4⟩ : ∃ x, x = w3.setCells w2.drew.heap.size 0 (tok5 K ⟨T.toArray⟩ p vt b) := ⟨_, rfl⟩
    have hb4 : But w2.drew.heap.size w3 w4 := by rw [hw4]; exact (((((But.refl _ _).setCell 0 _).setCell 1 _).setCell 2 _).setCell 3 _).setCell 4 _
    have hA4 : At 64 w4 w2.drew.heap.size (tok5 K ⟨T.toArray⟩ p vt b) := by rw [hw4]; exact ((((hA3.set 0 _).set 1 _).set 2 _).set 3 _).set 4 _
    have hS4 : At 71 w4 g (q7 (some ⟨gt, 0, none⟩) n c k en 0 0 ne bl) ∧ w4.rangeAt gt (k * 5) (tok5 K ⟨T.toArray⟩ p vt b) := ⟨hb4.at hS3.1 (by omega), fun j v hj => by rw [World.cell?_of_block (w := w3) (hb4.block gt (by omega) (by omega))]; exact hS3.2 j v hj⟩
    have l4 := hb4.size
    rw [← hw4]
    clear hw4
    refine hK.out _ _ hS4 (fun _ => ?_)
    refine wpAnyH_done (by kernel_rfl) ?_ _
    have hA4 : At 64 w4 w2.heap.size (tok5 K ⟨T.toArray⟩ p vt b) := hA4
    have hb4 : But w2.heap.size w3 w4 := hb4
    have l3 : w2.heap.size < w3.heap.size := l3
    have hgt : gt < w2.heap.size := hgt
    clear ed
    obtain ⟨q0, q1, q2, q3, q4⟩ := tk5_cells hA4
    go_wp2_with (first
      | ((with_reducible show wpList _ _ _ _ _ _); refine wpList_alloc_at (o := { dst := some 5, .. }) rfl 40 rfl (val2 0 0) 2 z32 ?_; intro w5 hA5 hb5 hs5; clear hs5)
      | ((with_reducible show wpList _ _ _ _ _ _); refine wpList_store_at (P := Tryz.prog) rfl 40 (.tmp 5) (.tmp 33) rfl w4.heap.size (val2 vt b) rfl rfl 40 _ hA5 i32 rfl (one2 _ _) ?_; intro w6 hA6 hb6 hs6; clear hs6; refine Hid.out ?_))
    refine hidU ?_
    have l5 := hA5.lt
    have l6 := hb6.size
    have hB4 : Below w.heap.size w w4 := hb4.below ((hb1.trans (hb2.mono hb1.size)).trans ((Below.drew (B := w.heap.size) (Below.refl w.heap.size w2)).trans (hb3.mono (by show w.heap.size ≤ w2.heap.size; omega)))) (by omega) (by omega)
    have hB6 : Below w.heap.size w w6 := hb6.below (hB4.trans (hb5.mono hB4.size)) (by omega) (by omega)
    have hA46 := hb6.at (hA4.below hb5) (by omega)
    have hQ6 := hb6.at (hS4.1.below hb5) (by omega)
    have hZ6 := hb6.at ((hb4.at ((hZ2.drew).below hb3) (by omega)).below hb5) (by omega)
    clear q0 q1 q2 q3 q4 hS0 hS3 hS4 hA3 hA4 hA5 hb3 hb4 hb5 hb6 hr hA hZ2 hA1 hb1 hb2 hB4
    obtain ⟨s0, s1, s2, s3, s4⟩ := tk5_cells hA46
    by_cases k2 : K = 2 ∨ K = 3
    · have e := hdg k2
      subst e
      clear hdg hlv HG
      rcases k2 with rfl | rfl
      · skip
        obtain ⟨q0, q1, q2, q3, q4, q5, q6⟩ := q7_cells hQ6
        go_wp2_with (first
          | ((with_reducible show wpList _ _ _ _ _ _); refine wpList_store_one (P := Tryz.prog) rfl 3 (.tmp 70) (.tmp 68) rfl g 1 (.int .i64 ((k : Int) + 1)) rfl rfl 71 _ hQ6 (show 1 + 1 ≤ 7 by decide) i3 rfl rfl ?_; intro w7 hA7 hb7 hs; clear hs; refine Hid.out ?_))
        refine hidU ?_
        have hA7 : At 71 w7 g (q7 (some ⟨gt, 0, none⟩) n c (k + 1) en 0 0 ne bl) := hA7
        obtain ⟨v0, v1⟩ := vl_cells (hb7.at hA6 (by omega))
        have hZ7 := hb7.at hZ6 (by omega)
        go_wp2_with (first
          | ((with_reducible show wpList _ _ _ _ _ _); refine wpList_store_at (P := Tryz.prog) rfl 40 (.tmp 2) (.tmp 71) rfl w.heap.size (val2 vt b) rfl rfl 40 _ hZ7 i32 rfl (one2 _ _) ?_; intro w9 hA9 hb9 hs; clear hs))
        refine bodyPost_ret (results_at_tmp rfl _ _ w.heap.size 40 (val2 vt b) _ rfl hA9 Tryz.underlying40 rfl i32) rfl ?_
        exact ⟨rfl, HF.out _ _ _ hB6 hA7 hb7 hb9⟩
      · skip
        obtain ⟨q0, q1, q2, q3, q4, q5, q6⟩ := q7_cells hQ6
        go_wp2_with (first
          | ((with_reducible show wpList _ _ _ _ _ _); refine wpList_store_one (P := Tryz.prog) rfl 3 (.tmp 70) (.tmp 68) rfl g 1 (.int .i64 ((k : Int) + 1)) rfl rfl 71 _ hQ6 (show 1 + 1 ≤ 7 by decide) i3 rfl rfl ?_; intro w7 hA7 hb7 hs; clear hs; refine Hid.out ?_))
        refine hidU ?_
        have hA7 : At 71 w7 g (q7 (some ⟨gt, 0, none⟩) n c (k + 1) en 0 0 ne bl) := hA7
        obtain ⟨v0, v1⟩ := vl_cells (hb7.at hA6 (by omega))
        have hZ7 := hb7.at hZ6 (by omega)
        go_wp2_with (first
          | ((with_reducible show wpList _ _ _ _ _ _); refine wpList_store_at (P := Tryz.prog) rfl 40 (.tmp 2) (.tmp 71) rfl w.heap.size (val2 vt b) rfl rfl 40 _ hZ7 i32 rfl (one2 _ _) ?_; intro w9 hA9 hb9 hs; clear hs))
        refine bodyPost_ret (results_at_tmp rfl _ _ w.heap.size 40 (val2 vt b) _ rfl hA9 Tryz.underlying40 rfl i32) rfl ?_
        exact ⟨rfl, HF.out _ _ _ hB6 hA7 hb7 hb9⟩
    · have k2' : ((K : Int) == 2) = false := by rw [beq_eq_false_iff_ne]; omega
      have k3' : ((K : Int) == 3) = false := by rw [beq_eq_false_iff_ne]; omega
      have hl2 : lv = if T = [116, 114, 117, 101] then some (2, 1) else if T = [102, 97, 108, 115, 101] then some (2, 0) else if T = [110, 97, 110] then some (3, 9221120237041090560) else if T = [105, 110, 102] then some (3, 9218868437227405312) else none := by
        rw [hlv]
        unfold litTk
        dsimp only
        rw [if_neg k2]
      clear hdg hlv
      by_cases e0 : T = [110, 97, 110]
      · subst e0
        have hl3 : lv = some (3, 9221120237041090560) := by rw [hl2]; rfl
        subst hl3
        clear hl2
        go_wp2_with (first
          | ((with_reducible show wpList _ _ _ _ _ _); refine wpList_build_at rfl 40 _ rfl (val2 3 9221120237041090560) (by kernel_rfl) ?_)
          | ((with_reducible show wpList _ _ _ _ _ _); refine wpList_store_at (P := Tryz.prog) rfl 40 (.tmp 5) (.tmp 48) rfl w4.heap.size (val2 3 9221120237041090560) rfl rfl 40 _ hA6 i32 rfl (one2 _ _) ?_; intro x6 hX6 hbx hsx; clear hsx; refine Hid.out ?_))
        refine hidU ?_
        have hQ6 := hbx.at hQ6 (by omega)
        have hZ6 := hbx.at hZ6 (by omega)
        have hB6 : Below w.heap.size w x6 := hbx.below hB6 (by omega) hB6.size
        obtain ⟨q0, q1, q2, q3, q4, q5, q6⟩ := q7_cells hQ6
        go_wp2_with (first
          | ((with_reducible show wpList _ _ _ _ _ _); refine wpList_store_one (P := Tryz.prog) rfl 3 (.tmp 70) (.tmp 68) rfl g 1 (.int .i64 ((k : Int) + 1)) rfl rfl 71 _ hQ6 (show 1 + 1 ≤ 7 by decide) i3 rfl rfl ?_; intro w7 hA7 hb7 hs; clear hs; refine Hid.out ?_))
        refine hidU ?_
        have hA7 : At 71 w7 g (q7 (some ⟨gt, 0, none⟩) n c (k + 1) en 0 0 ne bl) := hA7
        obtain ⟨v0, v1⟩ := vl_cells (hb7.at hX6 (by omega))
        have hZ7 := hb7.at hZ6 (by omega)
        go_wp2_with (first
          | ((with_reducible show wpList _ _ _ _ _ _); refine wpList_store_at (P := Tryz.prog) rfl 40 (.tmp 2) (.tmp 71) rfl w.heap.size (val2 3 9221120237041090560) rfl rfl 40 _ hZ7 i32 rfl (one2 _ _) ?_; intro w9 hA9 hb9 hs; clear hs))
        refine bodyPost_ret (results_at_tmp rfl _ _ w.heap.size 40 (val2 3 9221120237041090560) _ rfl hA9 Tryz.underlying40 rfl i32) rfl ?_
        exact ⟨rfl, HF.out _ _ _ hB6 hA7 hb7 hb9⟩
      have n0 : (T == [110, 97, 110]) = false := by rw [beq_eq_false_iff_ne]; exact e0
      by_cases e1 : T = [105, 110, 102]
      · subst e1
        have hl3 : lv = some (3, 9218868437227405312) := by rw [hl2]; rfl
        subst hl3
        clear hl2
        go_wp2_with (first
          | ((with_reducible show wpList _ _ _ _ _ _); refine wpList_build_at rfl 40 _ rfl (val2 3 9218868437227405312) (by kernel_rfl) ?_)
          | ((with_reducible show wpList _ _ _ _ _ _); refine wpList_store_at (P := Tryz.prog) rfl 40 (.tmp 5) (.tmp 53) rfl w4.heap.size (val2 3 9218868437227405312) rfl rfl 40 _ hA6 i32 rfl (one2 _ _) ?_; intro x6 hX6 hbx hsx; clear hsx; refine Hid.out ?_))
        refine hidU ?_
        have hQ6 := hbx.at hQ6 (by omega)
        have hZ6 := hbx.at hZ6 (by omega)
        have hB6 : Below w.heap.size w x6 := hbx.below hB6 (by omega) hB6.size
        obtain ⟨q0, q1, q2, q3, q4, q5, q6⟩ := q7_cells hQ6
        go_wp2_with (first
          | ((with_reducible show wpList _ _ _ _ _ _); refine wpList_store_one (P := Tryz.prog) rfl 3 (.tmp 70) (.tmp 68) rfl g 1 (.int .i64 ((k : Int) + 1)) rfl rfl 71 _ hQ6 (show 1 + 1 ≤ 7 by decide) i3 rfl rfl ?_; intro w7 hA7 hb7 hs; clear hs; refine Hid.out ?_))
        refine hidU ?_
        have hA7 : At 71 w7 g (q7 (some ⟨gt, 0, none⟩) n c (k + 1) en 0 0 ne bl) := hA7
        obtain ⟨v0, v1⟩ := vl_cells (hb7.at hX6 (by omega))
        have hZ7 := hb7.at hZ6 (by omega)
        go_wp2_with (first
          | ((with_reducible show wpList _ _ _ _ _ _); refine wpList_store_at (P := Tryz.prog) rfl 40 (.tmp 2) (.tmp 71) rfl w.heap.size (val2 3 9218868437227405312) rfl rfl 40 _ hZ7 i32 rfl (one2 _ _) ?_; intro w9 hA9 hb9 hs; clear hs))
        refine bodyPost_ret (results_at_tmp rfl _ _ w.heap.size 40 (val2 3 9218868437227405312) _ rfl hA9 Tryz.underlying40 rfl i32) rfl ?_
        exact ⟨rfl, HF.out _ _ _ hB6 hA7 hb7 hb9⟩
      have n1 : (T == [105, 110, 102]) = false := by rw [beq_eq_false_iff_ne]; exact e1
      by_cases e2 : T = [116, 114, 117, 101]
      · subst e2
        have hl3 : lv = some (2, 1) := by rw [hl2]; rfl
        subst hl3
        clear hl2
        go_wp2_with (first
          | ((with_reducible show wpList _ _ _ _ _ _); refine wpList_build_at rfl 40 _ rfl (val2 2 1) (by kernel_rfl) ?_)
          | ((with_reducible show wpList _ _ _ _ _ _); refine wpList_store_at (P := Tryz.prog) rfl 40 (.tmp 5) (.tmp 58) rfl w4.heap.size (val2 2 1) rfl rfl 40 _ hA6 i32 rfl (one2 _ _) ?_; intro x6 hX6 hbx hsx; clear hsx; refine Hid.out ?_))
        refine hidU ?_
        have hQ6 := hbx.at hQ6 (by omega)
        have hZ6 := hbx.at hZ6 (by omega)
        have hB6 : Below w.heap.size w x6 := hbx.below hB6 (by omega) hB6.size
        obtain ⟨q0, q1, q2, q3, q4, q5, q6⟩ := q7_cells hQ6
        go_wp2_with (first
          | ((with_reducible show wpList _ _ _ _ _ _); refine wpList_store_one (P := Tryz.prog) rfl 3 (.tmp 70) (.tmp 68) rfl g 1 (.int .i64 ((k : Int) + 1)) rfl rfl 71 _ hQ6 (show 1 + 1 ≤ 7 by decide) i3 rfl rfl ?_; intro w7 hA7 hb7 hs; clear hs; refine Hid.out ?_))
        refine hidU ?_
        have hA7 : At 71 w7 g (q7 (some ⟨gt, 0, none⟩) n c (k + 1) en 0 0 ne bl) := hA7
        obtain ⟨v0, v1⟩ := vl_cells (hb7.at hX6 (by omega))
        have hZ7 := hb7.at hZ6 (by omega)
        go_wp2_with (first
          | ((with_reducible show wpList _ _ _ _ _ _); refine wpList_store_at (P := Tryz.prog) rfl 40 (.tmp 2) (.tmp 71) rfl w.heap.size (val2 2 1) rfl rfl 40 _ hZ7 i32 rfl (one2 _ _) ?_; intro w9 hA9 hb9 hs; clear hs))
        refine bodyPost_ret (results_at_tmp rfl _ _ w.heap.size 40 (val2 2 1) _ rfl hA9 Tryz.underlying40 rfl i32) rfl ?_
        exact ⟨rfl, HF.out _ _ _ hB6 hA7 hb7 hb9⟩
      have n2 : (T == [116, 114, 117, 101]) = false := by rw [beq_eq_false_iff_ne]; exact e2
      by_cases e3 : T = [102, 97, 108, 115, 101]
      · subst e3
        have hl3 : lv = some (2, 0) := by rw [hl2]; rfl
        subst hl3
        clear hl2
        go_wp2_with (first
          | ((with_reducible show wpList _ _ _ _ _ _); refine wpList_build_at rfl 40 _ rfl (val2 2 0) (by kernel_rfl) ?_)
          | ((with_reducible show wpList _ _ _ _ _ _); refine wpList_store_at (P := Tryz.prog) rfl 40 (.tmp 5) (.tmp 63) rfl w4.heap.size (val2 2 0) rfl rfl 40 _ hA6 i32 rfl (one2 _ _) ?_; intro x6 hX6 hbx hsx; clear hsx; refine Hid.out ?_))
        refine hidU ?_
        have hQ6 := hbx.at hQ6 (by omega)
        have hZ6 := hbx.at hZ6 (by omega)
        have hB6 : Below w.heap.size w x6 := hbx.below hB6 (by omega) hB6.size
        obtain ⟨q0, q1, q2, q3, q4, q5, q6⟩ := q7_cells hQ6
        go_wp2_with (first
          | ((with_reducible show wpList _ _ _ _ _ _); refine wpList_store_one (P := Tryz.prog) rfl 3 (.tmp 70) (.tmp 68) rfl g 1 (.int .i64 ((k : Int) + 1)) rfl rfl 71 _ hQ6 (show 1 + 1 ≤ 7 by decide) i3 rfl rfl ?_; intro w7 hA7 hb7 hs; clear hs; refine Hid.out ?_))
        refine hidU ?_
        have hA7 : At 71 w7 g (q7 (some ⟨gt, 0, none⟩) n c (k + 1) en 0 0 ne bl) := hA7
        obtain ⟨v0, v1⟩ := vl_cells (hb7.at hX6 (by omega))
        have hZ7 := hb7.at hZ6 (by omega)
        go_wp2_with (first
          | ((with_reducible show wpList _ _ _ _ _ _); refine wpList_store_at (P := Tryz.prog) rfl 40 (.tmp 2) (.tmp 71) rfl w.heap.size (val2 2 0) rfl rfl 40 _ hZ7 i32 rfl (one2 _ _) ?_; intro w9 hA9 hb9 hs; clear hs))
        refine bodyPost_ret (results_at_tmp rfl _ _ w.heap.size 40 (val2 2 0) _ rfl hA9 Tryz.underlying40 rfl i32) rfl ?_
        exact ⟨rfl, HF.out _ _ _ hB6 hA7 hb7 hb9⟩
      have n3 : (T == [102, 97, 108, 115, 101]) = false := by rw [beq_eq_false_iff_ne]; exact e3
      have hl3 : lv = none := by rw [hl2, if_neg e2, if_neg e3, if_neg e0, if_neg e1]
      subst hl3
      clear hl2 e0 e1 e2 e3 HF
      go_wp2_with (first
        | ((with_reducible show wpList _ _ _ _ _ _); refine wpList_build_at rfl 40 _ rfl (val2 0 0) (by kernel_rfl) ?_)
        | ((with_reducible show wpList _ _ _ _ _ _); refine wpList_store_at (P := Tryz.prog) rfl 40 (.tmp 2) (.tmp 34) rfl w.heap.size (val2 0 0) rfl rfl 40 _ hZ6 i32 rfl (one2 _ _) ?_; intro w9 hA9 hb9 hs; clear hs))
      refine bodyPost_ret (results_at_tmp rfl _ _ w.heap.size 40 (val2 0 0) _ rfl hA9 Tryz.underlying40 rfl i32) rfl ?_
      exact ⟨rfl, HG.out _ _ hB6 hb9⟩

end Go.Proofs.YtjgggmjjikopeaaGreatDoor

/- The document's reader: a literal, or none. -/
namespace Go.Proofs.YtjgggmjjikopeaaGreatDoor
open Go.RowKit
set_option linter.unusedVariables false

set_option maxRecDepth 100000 in
set_option maxHeartbeats 3200000 in
theorem refLit_end {B : Nat} (g : Nat) (L : List Tk) (a : Option Addr) (c k en ne bl : Nat) (hk : ¬ k < L.length) (w : World) (h : Qd B w g L a c k en 0 0 ne bl) (hBw : B ≤ w.heap.size) :
    Calls Tryz.prog 132 #[.pointer (some ⟨g, 0, none⟩)] w fun r w' => r = .returned (.tuple #[.agg (val2 0 0).toArray, .bool false]) ∧ Qd B w' g L a c k en 0 0 ne bl ∧ But g w w' := by
  have hA := h.cell
  have HQ : Hid (Qd B w g L a c k en 0 0 ne bl) := h
  have hlen := h.len
  have hokb : (decide ((0 : Nat) = 0) && decide ((0 : Nat) = 0)) = true := rfl
  clear h
  generalize L.length = n at *
  go_enter Tryz.func132, Tryz.ntmps132
  go_wp2_with (first
    | ((with_reducible show wpList _ _ _ _ _ _); refine wpList_alloc_at (o := { dst := some 2, .. }) rfl 40 rfl (val2 0 0) 2 z32 ?_; intro w1 hA1 hb1 hs1; clear hs1; refine Hid.out ?_))
  refine hidU ?_
  have l1 := hA1.lt
  have hA := hA.below hb1
  have hO := fun m => refOk_any g n a c k en 0 0 ne bl (w1.drewN m) (hA.drewN m)
  have hO : ∀ m, Calls Tryz.prog 30 #[.pointer (some ⟨g, 0, none⟩)] (w1.drewN m) fun r w' => r = .returned (.bool true) ∧ w' = w1.drewN m := hO
  obtain ⟨q0, q1, q2, q3, q4, q5, q6⟩ := q7_cells hA
  go_wp2_with fail
  go_quiet (first | (go_at_call 30; exact Calls.quiet_of_same (hO _)))
  clear q0 q1 q2 q3 q4 q5 q6 hO
  obtain ⟨w2, hw2⟩ : ∃ x, x = w1.drewN nq := ⟨_, rfl⟩
  have hb2 : Below w1.heap.size w1 w2 := by rw [hw2]; exact below_drewN w1 nq
  have hZ2 := hA1.below hb2
  rw [← hw2]
  clear hw2
  go_wp2_with (first
    | ((with_reducible show wpList _ _ _ _ _ _); refine wpList_build_at rfl 40 _ rfl (val2 0 0) (by kernel_rfl) ?_)
    | ((with_reducible show wpList _ _ _ _ _ _); refine wpList_store_at (P := Tryz.prog) rfl 40 (.tmp 2) (.tmp 21) rfl w.heap.size (val2 0 0) rfl rfl 40 _ hZ2 i32 rfl (one2 _ _) ?_; intro w9 hA9 hb9 hs; clear hs))
  refine bodyPost_ret (results_at_tmp rfl _ _ w.heap.size 40 (val2 0 0) _ rfl hA9 Tryz.underlying40 rfl i32) rfl ?_
  have hB2 : Below w.heap.size w w2 := hb1.trans (hb2.mono hb1.size)
  exact ⟨rfl, (HQ.out.below hB2).but hb9 hBw, (But.of_below hB2).fresh hb9 (Nat.le_refl _)⟩

theorem refLit_ok {B : Nat} (g : Nat) (L : List Tk) (a : Option Addr) (c k en ne bl : Nat) (hok : ∀ t ∈ L, TkOk t) (w : World) (h : Qd B w g L a c k en 0 0 ne bl) (hBw : B ≤ w.heap.size) :
    Calls Tryz.prog 132 #[.pointer (some ⟨g, 0, none⟩)] w fun r w' => r = .returned (.tuple #[.agg (val2 (litW (litTk (hdT (aheadT L k en)))).1 (litW (litTk (hdT (aheadT L k en)))).2).toArray, .bool (litTk (hdT (aheadT L k en))).isSome]) ∧ Qd B w' g L a c (if (litTk (hdT (aheadT L k en))).isSome = true then k + 1 else k) en 0 0 ne bl ∧ But g w w' := by
  by_cases hk : k < L.length
  · obtain ⟨gt, t, rfl, ht, -, hd, -⟩ := rd_tok h hk
    rw [hd]
    exact refLit_at g gt L c k en ne bl t ht (hok t (List.mem_of_getElem? ht)) w h hBw
  · have hd : hdT (aheadT L k en) = ⟨0, [], en, 0⟩ := by rw [ahead_end (by omega)]; rfl
    rw [hd]
    exact refLit_end g L a c k en ne bl hk w h hBw

end Go.Proofs.YtjgggmjjikopeaaGreatDoor

/- The document's reader, from any state. -/
namespace Go.Proofs.YtjgggmjjikopeaaGreatDoor
open Go.RowKit
set_option linter.unusedVariables false

/-- A part behind another one. -/
def Rs.andThen {α β : Type} (S : Rs α) (f : α → List Tk → Rs β) : Rs β := match S with
  | .ok v l => f v l
  | .bad e p => .bad e p
/-- How far the document's reader is, or its fault. -/
def StOf (L : List Tk) (en k er pl : Nat) {α : Type} (S : Rs α) : Prop := match S with
  | .ok _ l => er = 0 ∧ pl = 0 ∧ aheadT L k en = l
  | .bad e p => er = e ∧ pl = p ∧ k = L.length ∧ e ≠ 0

theorem must_gen {B : Nat} (g : Nat) (L : List Tk) (a : Option Addr) (c k en er pl ne bl : Nat) (S : Rs Unit) (hS : StOf L en k er pl S) (x : ByteArray) (hx : bytes x ≠ []) (w : World) (h : Qd B w g L a c k en er pl ne bl) :
    Calls Tryz.prog 67 #[.pointer (some ⟨g, 0, none⟩), .string x] w fun r w' => r = .returned (.tuple #[]) ∧ ∃ k' er' pl', Qd B w' g L a c k' en er' pl' ne bl ∧ StOf L en k' er' pl' (S.andThen fun _ l => mustR (bytes x) l) ∧ But g w w' := by
  cases S with
  | bad e p =>
    obtain ⟨rfl, rfl, rfl, he⟩ := hS
    refine (refMust_bad g L a c _ en er pl ne bl he x hx w h).mono ?_
    rintro r w' ⟨rfl, h1, h2⟩
    exact ⟨rfl, _, _, _, h1, ⟨rfl, rfl, rfl, he⟩, h2⟩
  | ok u l =>
    obtain ⟨rfl, rfl, rfl⟩ := hS
    refine (refMust_ok g L a c k en ne bl x hx w h).mono ?_
    rintro r w' ⟨rfl, h1, h2⟩
    show _ ∧ ∃ k' er' pl', Qd B w' g L a c k' en er' pl' ne bl ∧ StOf L en k' er' pl' (mustR (bytes x) (aheadT L k en)) ∧ But g w w'
    have hne : ∀ e p, mustR (bytes x) (aheadT L k en) = .bad e p → e ≠ 0 := by
      intro e p hm
      unfold mustR at hm
      split at hm
      · cases hm
      · cases hm; decide
    cases hm : mustR (bytes x) (aheadT L k en) with
    | ok v l =>
      rw [hm] at h1
      obtain ⟨k', h3, h4⟩ := h1
      exact ⟨rfl, k', 0, 0, h4, ⟨rfl, rfl, h3.symm⟩, h2⟩
    | bad e p =>
      rw [hm] at h1
      exact ⟨rfl, _, _, _, h1, ⟨rfl, rfl, rfl, hne e p hm⟩, h2⟩

theorem deeper_gen {B : Nat} (g : Nat) (L : List Tk) (a : Option Addr) (c k en ne bl : Nat) (p : Nat) (hne : ne ≤ 1048576) (w : World) (h : Qd B w g L a c k en 0 0 ne bl) :
    Calls Tryz.prog 169 #[.pointer (some ⟨g, 0, none⟩), .int .i64 (p : Int)] w fun r w' => r = .returned (.tuple #[]) ∧ ∃ k' er' pl', Qd B w' g L a c k' en er' pl' (ne + 1) bl ∧ StOf L en k' er' pl' (if 32 ≤ ne then .bad 160 p else .ok () (aheadT L k en) : Rs Unit) ∧ But g w w' := by
  refine (deeper_any g L a c k en ne bl p hne w h).mono ?_
  rintro r w' ⟨rfl, h1, h2⟩
  by_cases hc : 32 ≤ ne
  · rw [if_pos hc] at h1 ⊢
    exact ⟨rfl, _, _, _, h1, ⟨rfl, rfl, rfl, by decide⟩, h2⟩
  · rw [if_neg hc] at h1 ⊢
    exact ⟨rfl, _, _, _, h1, ⟨rfl, rfl, rfl⟩, h2⟩

theorem made_gen {B A : Nat} (g : Nat) (L : List Tk) (a : Option Addr) (c k en er pl ne bl : Nat) (S : Rs Unit) (hS : StOf L en k er pl S) (y : ET) (p : Nat) (w : World) (h : Qd B w g L a c k en er pl ne bl) (hB : B ≤ w.heap.size) (hT : Tw A w y) (hgA : g < A) (hh : ∀ l, S = .ok () l → htX y.ex ≤ 1048576) :
    Calls Tryz.prog 145 #[.pointer (some ⟨g, 0, none⟩), .agg y.cells.toArray, .int .i64 (p : Int)] w fun r w' => r = .returned (.agg y.cells.toArray) ∧ Tw A w' y ∧ ∃ k' er' pl', Qd B w' g L a c k' en er' pl' ne bl ∧ StOf L en k' er' pl' (S.andThen fun _ l => (if 32 < htX y.ex then .bad 160 p else .ok () l : Rs Unit)) ∧ But g w w' := by
  cases S with
  | bad e q =>
    obtain ⟨rfl, rfl, rfl, he⟩ := hS
    refine (made_bad g L a c _ en er pl ne bl he y p w h hB hT).mono ?_
    rintro r w' ⟨rfl, h0, h1, h2⟩
    exact ⟨rfl, h0, _, _, _, h1, ⟨rfl, rfl, rfl, he⟩, h2⟩
  | ok u l =>
    obtain ⟨rfl, rfl, rfl⟩ := hS
    refine (made_ok g L a c k en ne bl y p w h hB hT hgA (hh _ rfl)).mono ?_
    rintro r w' ⟨rfl, h0, h1, h2⟩
    show _ ∧ _ ∧ ∃ k' er' pl', Qd B w' g L a c k' en er' pl' ne bl ∧ StOf L en k' er' pl' (if 32 < htX y.ex then .bad 160 p else .ok () (aheadT L k en) : Rs Unit) ∧ But g w w'
    by_cases hc : 32 < htX y.ex
    · rw [if_pos hc] at h1 ⊢
      exact ⟨rfl, h0, _, _, _, h1, ⟨rfl, rfl, rfl, by decide⟩, h2⟩
    · rw [if_neg hc] at h1 ⊢
      exact ⟨rfl, h0, _, _, _, h1, ⟨rfl, rfl, rfl⟩, h2⟩

/-- What a part of the document that reads an expression leaves. -/
def PostR (B g : Nat) (L : List Tk) (a : Option Addr) (c en ne bl : Nat) (w : World) (R : Rs Ex) (r : Ending) (w' : World) : Prop :=
  ∃ (y : ET) (k er pl ne' : Nat), r = .returned (.agg y.cells.toArray) ∧ Tw w.heap.size w' y ∧ But g w w' ∧ Qd B w' g L a c k en er pl ne' bl ∧ StOf L en k er pl R ∧ ne ≤ ne' ∧ ne' ≤ 33 ∧ ∀ e l, R = .ok e l → y.ex = e ∧ ne' = ne

def RuW (f : Nat) : Prop := ∀ (n : Nat) (R : Rs Ex) (B g : Nat) (L : List Tk) (a : Option Addr) (c k en d bl : Nat) (w : World), n ≤ 5 → d ≤ 32 → (∀ t ∈ L, TkOk t) → ruleF f n d (aheadT L k en) = some R → Qd B w g L a c k en 0 0 d bl → B ≤ w.heap.size →
  Calls Tryz.prog 110 #[.pointer (some ⟨g, 0, none⟩), .int .i64 (n : Int)] w fun r w' => PostR B g L a c en d bl w R r w'
def UnW (f : Nat) : Prop := ∀ (R : Rs Ex) (B g : Nat) (L : List Tk) (a : Option Addr) (c k en d bl : Nat) (w : World), d ≤ 32 → (∀ t ∈ L, TkOk t) → unF f d (aheadT L k en) = some R → Qd B w g L a c k en 0 0 d bl → B ≤ w.heap.size →
  Calls Tryz.prog 143 #[.pointer (some ⟨g, 0, none⟩)] w fun r w' => PostR B g L a c en d bl w R r w'

set_option maxRecDepth 100000 in
set_option maxHeartbeats 3200000 in
theorem refExpr_ok (f : Nat) (hR : RuW f) (R : Rs Ex) (B g : Nat) (L : List Tk) (a : Option Addr) (c k en d bl : Nat) (w : World) (hd : d ≤ 32) (hok : ∀ t ∈ L, TkOk t) (h : ruleF f 0 d (aheadT L k en) = some R) (hQ : Qd B w g L a c k en 0 0 d bl) (hB : B ≤ w.heap.size) :
    Calls Tryz.prog 72 #[.pointer (some ⟨g, 0, none⟩)] w fun r w' => PostR B g L a c en d bl w R r w' := by
  have hlt := hQ.lt
  have HO : Hid (∀ u, Below w.heap.size w u → Calls Tryz.prog 30 #[.pointer (some ⟨g, 0, none⟩)] u fun r w' => r = .returned (.bool true) ∧ w' = u) := fun u hu => refOk_any g L.length a c k en 0 0 d bl u (hQ.below hu).cell
  have HR : Hid (∀ u, Below w.heap.size w u → Calls Tryz.prog 110 #[.pointer (some ⟨g, 0, none⟩), .int .i64 0] u fun r w' => PostR B g L a c en d bl u R r w') := fun u hu => hR 0 R B g L a c k en d bl u (by omega) hd hok h (hQ.below hu) (Nat.le_trans hB hu.size)
  clear h hQ
  go_enter Tryz.func72, Tryz.ntmps72
  go_wp2_with (first
    | ((with_reducible show wpList _ _ _ _ _ _); refine wpList_alloc_at (o := { dst := some 2, .. }) rfl 43 rfl [.int .u8 0, .int .u8 0, .int .u64 0, .string ⟨#[]⟩, .slice none 0 0] 5 z29 ?_; intro w1 hA1 hb1 hs1; clear hs1)
    | (go_at_call 30; refine (HO.out _ hb1).mono ?_; rintro r u ⟨rfl, hu⟩; obtain rfl := hu.symm)
    | (go_at_call 110; refine (HR.out _ hb1).mono ?_; rintro _ w2 ⟨y, k', er', pl', ne', rfl, hT, hb2, hQ2, hS2, hn1, hn2, hy⟩; have hA12 := hb2.at hA1 (by omega))
    | ((with_reducible show wpList _ _ _ _ _ _); refine wpList_store_at (P := Tryz.prog) rfl 43 (.tmp 2) (.tmp 8) rfl w.heap.size y.cells rfl rfl 43 _ hA12 (i43 _) (len43 _) (ET.one _) ?_; intro w9 hA9 hb9 hs9; clear hs9))
  refine bodyPost_ret (results_at rfl _ _ w.heap.size 43 y.cells _ rfl hA9 Tryz.underlying43 rfl (i43 _)) rfl ?_
  have l1 := hA1.lt
  exact ⟨y, k', er', pl', ne', rfl, (hT.but hb9 (.inl l1)).low hb1.size, ((But.of_below hb1).trans hb2).fresh hb9 (Nat.le_refl _), hQ2.but hb9 hB, hS2, hn1, hn2, hy⟩

set_option maxRecDepth 100000 in
set_option maxHeartbeats 3200000 in
theorem refExpr_bad (B g : Nat) (L : List Tk) (a : Option Addr) (c k en er pl ne bl : Nat) (he : er ≠ 0) (w : World) (hQ : Qd B w g L a c k en er pl ne bl) (hB : B ≤ w.heap.size) :
    Calls Tryz.prog 72 #[.pointer (some ⟨g, 0, none⟩)] w fun r w' => r = .returned (.agg noX.cells.toArray) ∧ Qd B w' g L a c k en er pl ne bl ∧ But g w w' := by
  have HO : Hid (∀ u, Below w.heap.size w u → Calls Tryz.prog 30 #[.pointer (some ⟨g, 0, none⟩)] u fun r w' => r = .returned (.bool false) ∧ w' = u) := fun u hu => by
    have := refOk_any g L.length a c k en er pl ne bl u (hQ.below hu).cell
    rwa [decide_eq_false he, Bool.false_and] at this
  have HQ : Hid (Qd B w g L a c k en er pl ne bl) := hQ
  clear hQ he
  go_enter Tryz.func72, Tryz.ntmps72
  go_wp2_with (first
    | ((with_reducible show wpList _ _ _ _ _ _); refine wpList_alloc_at (o := { dst := some 2, .. }) rfl 43 rfl [.int .u8 0, .int .u8 0, .int .u64 0, .string ⟨#[]⟩, .slice none 0 0] 5 z29 ?_; intro w1 hA1 hb1 hs1; clear hs1)
    | (go_at_call 30; refine (HO.out _ hb1).mono ?_; rintro r u ⟨rfl, hu⟩; obtain rfl := hu.symm)
    | ((with_reducible show wpList _ _ _ _ _ _); refine wpList_build_at rfl 43 _ rfl noX.cells (by kernel_rfl) ?_)
    | ((with_reducible show wpList _ _ _ _ _ _); refine wpList_store_at (P := Tryz.prog) rfl 43 (.tmp 2) (.tmp 6) rfl w.heap.size noX.cells rfl rfl 43 _ hA1 (i43 _) (len43 _) (ET.one _) ?_; intro w9 hA9 hb9 hs9; clear hs9))
  refine bodyPost_ret (results_at rfl _ _ w.heap.size 43 noX.cells _ rfl hA9 Tryz.underlying43 rfl (i43 _)) rfl ?_
  have hB9 : Below w.heap.size w w9 := hb9.below hb1 (Nat.le_refl _) hb1.size
  exact ⟨rfl, HQ.out.below hB9, But.of_below hB9⟩

/-- An expression from any state. -/
theorem refExpr_gen (f : Nat) (hR : RuW f) (S : Rs Unit) (R : Rs Ex) (B g : Nat) (L : List Tk) (a : Option Addr) (c k en er pl d bl : Nat) (w : World) (hd : d ≤ 33) (hd2 : ∀ l, S = .ok () l → d ≤ 32) (hok : ∀ t ∈ L, TkOk t) (hS : StOf L en k er pl S) (h : ∀ l, S = .ok () l → ruleF f 0 d l = some R) (hQ : Qd B w g L a c k en er pl d bl) (hB : B ≤ w.heap.size) :
    Calls Tryz.prog 72 #[.pointer (some ⟨g, 0, none⟩)] w fun r w' => PostR B g L a c en d bl w (S.andThen fun _ _ => R) r w' := by
  cases S with
  | ok u l =>
    obtain ⟨rfl, rfl, rfl⟩ := hS
    exact refExpr_ok f hR R B g L a c k en d bl w (hd2 _ rfl) hok (h _ rfl) hQ hB
  | bad e p =>
    obtain ⟨rfl, rfl, rfl, he⟩ := hS
    refine (refExpr_bad B g L a c _ en er pl d bl he w hQ hB).mono ?_
    rintro r w' ⟨rfl, h1, h2⟩
    exact ⟨noX, _, _, _, _, rfl, noX_tw _ _, h2, h1, ⟨rfl, rfl, rfl, he⟩, Nat.le_refl _, hd, fun e l h => by cases h⟩

end Go.Proofs.YtjgggmjjikopeaaGreatDoor

/- Brackets and conversions, as the document reads them. -/
namespace Go.Proofs.YtjgggmjjikopeaaGreatDoor
open Go.RowKit
set_option linter.unusedVariables false

/-- What stands behind a literal's place in the document's reading of brackets. -/
def brS (d p : Nat) (l : List Tk) : Rs Unit := if 32 ≤ d then .bad 160 p else .ok () l
theorem bkF_spec {f d : Nat} {l : List Tk} {R : Rs Ex} (h : bkF f d l = some R) :
    ∃ (j : Nat) (Y : Rs Ex), j < f ∧ (∀ l2, mustR [40] l = .ok () l2 → ruleF j 0 (d + 1) l2 = some Y) ∧ R = ((mustR [40] l).andThen fun _ _ => Y).andThen fun e r => (mustR [41] r).andThen fun _ r2 => .ok e r2 := by
  cases f with
  | zero => simp [bkF] at h
  | succ j =>
    rw [bkF] at h
    cases hm : mustR [40] l with
    | bad e p =>
      rw [hm] at h
      cases h
      exact ⟨j, .bad 0 0, Nat.lt_succ_self _, fun l2 hl => (by cases hl), rfl⟩
    | ok u l2 =>
      rw [hm] at h
      dsimp only at h
      cases hr : ruleF j 0 (d + 1) l2 with
      | none => rw [hr] at h; cases h
      | some Y =>
        rw [hr] at h
        refine ⟨j, Y, Nat.lt_succ_self _, fun l3 hl => by cases hl; exact hr, ?_⟩
        cases Y with
        | bad e p => cases h; rfl
        | ok e r =>
          dsimp only at h
          show R = (mustR [41] r).andThen fun _ r2 => .ok e r2
          cases hm2 : mustR [41] r with
          | bad e2 p => rw [hm2] at h; cases h; rfl
          | ok u2 r2 => rw [hm2] at h; cases h; rfl

/-- What is read by rules is at most 32 high. -/
theorem rule_ht (f : Nat) :
    (∀ n d l e r, ruleF f n d l = some (.ok e r) → htX e ≤ 32) ∧
    (∀ n d x l e r, htX x ≤ 32 → lpF f n d x l = some (.ok e r) → htX e ≤ 32) ∧
    (∀ d l e r, unF f d l = some (.ok e r) → htX e ≤ 32) ∧
    (∀ d l e r, bkF f d l = some (.ok e r) → htX e ≤ 32) := by
  induction f with
  | zero => exact ⟨fun n d l e r h => by simp [ruleF] at h, fun n d x l e r _ h => by simp [lpF] at h, fun d l e r h => by simp [unF] at h, fun d l e r h => by simp [bkF] at h⟩
  | succ f ih =>
    obtain ⟨ih1, ih2, ih3, ih4⟩ := ih
    refine ⟨fun n d l e r h => ?_, fun n d x l e r hx h => ?_, fun d l e r h => ?_, fun d l e r h => ?_⟩
    · rw [ruleF] at h
      split at h
      · exact ih3 _ _ _ _ h
      · split at h
        · cases h
        · cases h
        · next hc => exact ih2 _ _ _ _ _ _ (ih1 _ _ _ _ _ hc) h
    · rw [lpF] at h
      split at h
      · cases h
        exact hx
      · split at h
        · cases h
        · cases h
        · split at h
          · cases h
          · next hn =>
            split at h
            · cases h
              exact nodeR_ht hn
            · exact ih2 _ _ _ _ _ _ (nodeR_ht hn) h
    · rw [unF] at h
      split at h
      · exact leafR_ht (Option.some.inj h)
      · split at h
        · cases h
        · split at h
          · split at h
            · cases h
            · cases h
            · exact nodeR_ht (Option.some.inj h)
          · split at h
            · exact ih4 _ _ _ _ h
            · split at h
              · cases h
              · cases h
              · exact nodeR_ht (Option.some.inj h)
    · rw [bkF] at h
      split at h
      · cases h
      · split at h
        · cases h
        · cases h
        · next hc =>
          split at h
          · cases h
          · cases h
            exact ih1 _ _ _ _ _ hc
theorem RuW.zero : RuW 0 := fun n R B g L a c k en d bl w _ _ _ h => by simp [ruleF] at h
theorem andThen_ok {α β : Type} (v : α) (l : List Tk) (f : α → List Tk → Rs β) : (Rs.ok v l : Rs α).andThen f = f v l := rfl
theorem conv_spec {f d p op : Nat} {l : List Tk} {R : Rs Ex} (hR : ∀ j, j < f → RuW j)
    (h : (if 32 ≤ d then some (.bad 160 p) else match bkF f d l with | none => none | some (.bad e p) => some (.bad e p) | some (.ok y r) => some (nodeR p op [y] r) : Option (Rs Ex)) = some R) :
    ∃ (j : Nat) (Y : Rs Ex), RuW j ∧ (∀ l2, ((brS d p l).andThen fun _ r => mustR [40] r) = .ok () l2 → d < 32 ∧ ruleF j 0 (d + 1) l2 = some Y) ∧ R = (((brS d p l).andThen fun _ r => mustR [40] r).andThen fun _ _ => Y).andThen fun e r => (mustR [41] r).andThen fun _ r2 => nodeR p op [e] r2 := by
  by_cases hd : 32 ≤ d
  · rw [if_pos hd] at h
    cases h
    have hb : brS d p l = .bad 160 p := by unfold brS; rw [if_pos hd]
    rw [hb]
    exact ⟨0, .bad 0 0, RuW.zero, fun l2 q => (by cases q), rfl⟩
  · rw [if_neg hd] at h
    have hb : brS d p l = .ok () l := by unfold brS; rw [if_neg hd]
    rw [hb]
    cases hk : bkF f d l with
    | none => rw [hk] at h; cases h
    | some X =>
      rw [hk] at h
      obtain ⟨j, Y, hj, h1, h2⟩ := bkF_spec hk
      refine ⟨j, Y, hR j hj, fun l2 q => ⟨by omega, h1 l2 q⟩, ?_⟩
      rw [andThen_ok]
      subst h2
      cases hm : mustR [40] l with
      | bad e q => rw [hm] at h; cases h; rfl
      | ok u l2 =>
        rw [hm] at h
        cases Y with
        | bad e q => cases h; rfl
        | ok e r =>
          simp only [andThen_ok] at h ⊢
          cases hm2 : mustR [41] r with
          | bad e2 q => rw [hm2] at h; cases h; rfl
          | ok u2 r2 => rw [hm2] at h; cases h; rfl
theorem brk_spec {f d p : Nat} {l : List Tk} {R : Rs Ex} (hR : ∀ j, j < f → RuW j) (hl : (hdT l).text = [40])
    (h : (if 32 ≤ d then some (.bad 160 p) else bkF f d l : Option (Rs Ex)) = some R) :
    ∃ (j : Nat) (Y : Rs Ex), RuW j ∧ (∀ l2, brS d p l.tail = .ok () l2 → d < 32 ∧ ruleF j 0 (d + 1) l2 = some Y) ∧ R = ((brS d p l.tail).andThen fun _ _ => Y).andThen fun e r => (mustR [41] r).andThen fun _ r2 => .ok e r2 := by
  by_cases hd : 32 ≤ d
  · rw [if_pos hd] at h
    cases h
    have hb : brS d p l.tail = .bad 160 p := by unfold brS; rw [if_pos hd]
    rw [hb]
    exact ⟨0, .bad 0 0, RuW.zero, fun l2 q => (by cases q), rfl⟩
  · rw [if_neg hd] at h
    have hb : brS d p l.tail = .ok () l.tail := by unfold brS; rw [if_neg hd]
    rw [hb]
    obtain ⟨j, Y, hj, h1, h2⟩ := bkF_spec h
    have hm : mustR [40] l = .ok () l.tail := by unfold mustR; rw [if_pos hl]
    rw [hm] at h1 h2
    exact ⟨j, Y, hR j hj, fun l2 q => ⟨by omega, h1 l2 q⟩, h2⟩

end Go.Proofs.YtjgggmjjikopeaaGreatDoor
