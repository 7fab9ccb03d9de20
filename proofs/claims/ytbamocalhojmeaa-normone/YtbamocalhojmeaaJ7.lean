/- Which events depend on one another: the document's own answer; a number that any number says. -/
import Derived.Test.YtbamocalhojmeaaJ5
namespace Go.Proofs.Ytbamocalhojmeaa
open Go.RowKit
set_option linter.unusedVariables false

theorem kd_cases (k : Int) : k = 1 ∨ k = 2 ∨ k = 3 ∨ k = 4 ∨ ((k == 1) = false ∧ (k == 2) = false ∧ (k == 3) = false ∧ (k == 4) = false) := by
  simp only [beq_eq_false_iff_ne]
  omega

set_option maxRecDepth 100000 in
set_option maxHeartbeats 3200000 in
theorem refDepends_any (a b : Ev) (w : World) : Calls Try.prog 49 #[.agg a.cells.toArray, .agg b.cells.toArray] w fun r w' => r = .returned (.bool (depB a b)) ∧ Below w.heap.size w w' := by
  obtain ⟨ta, ka, oa⟩ := a
  obtain ⟨tb, kb, ob⟩ := b
  simp only [Ev.cells]
  by_cases ht : ta = tb
  · have e : depB ⟨ta, ka, oa⟩ ⟨tb, kb, ob⟩ = true := by unfold depB; rw [decide_eq_true (show (⟨ta, ka, oa⟩ : Ev).th = (⟨tb, kb, ob⟩ : Ev).th from ht)]; rfl
    rw [e]
    subst ht
    clear e
    go_enter Try.func49, Try.ntmps49
    go_wp2_with (first
      | ((with_reducible show wpList _ _ _ _ _ _); refine wpList_box_at (o := { dst := some 2, .. }) rfl 50 (.tmp 0) rfl [.int .i64 ta, .int .i64 ka, .int .i64 oa] rfl ?_; intro w1 hA1 hb1 hs1; clear hs1)
      | ((with_reducible show wpList _ _ _ _ _ _); refine wpList_box_at (o := { dst := some 3, .. }) rfl 50 (.tmp 1) rfl [.int .i64 ta, .int .i64 kb, .int .i64 ob] rfl ?_; intro w2 hA2 hb2 hs2; clear hs2; refine Hid.out ?_))
    refine hidU ?_
    have hB2 := hb1.trans (hb2.mono hb1.size)
    have hA12 := hA1.below hb2
    have a0 : w2.cell? ⟨w.heap.size, 0, none⟩ = some (.int .i64 ta) := by rw [hA12.cell]; rfl
    have b0 : w2.cell? ⟨w1.heap.size, 0, none⟩ = some (.int .i64 ta) := by rw [hA2.cell]; rfl
    clear hA1 hA2 hb1 hb2 hA12
    go_wp2_with fail
    go_ret
    exact ⟨rfl, hB2⟩
  have ht2 : (ta == tb) = false := by rw [beq_eq_false_iff_ne]; exact ht
  by_cases ho : oa = ob
  · subst ho
    rcases kd_cases ka with hk | hk | hk | hk | ⟨k1, k2, k3, k4⟩
    · rcases kd_cases kb with hj | hj | hj | hj | ⟨j1, j2, j3, j4⟩
      · subst hk hj
        have e : depB ⟨ta, 1, oa⟩ ⟨tb, 1, oa⟩ = false := by
          simp [depB, ht]
        rw [e]
        clear e
        go_enter Try.func49, Try.ntmps49
        go_wp2_with (first
          | ((with_reducible show wpList _ _ _ _ _ _); refine wpList_box_at (o := { dst := some 2, .. }) rfl 50 (.tmp 0) rfl [.int .i64 ta, .int .i64 1, .int .i64 oa] rfl ?_; intro w1 hA1 hb1 hs1; clear hs1)
          | ((with_reducible show wpList _ _ _ _ _ _); refine wpList_box_at (o := { dst := some 3, .. }) rfl 50 (.tmp 1) rfl [.int .i64 tb, .int .i64 1, .int .i64 oa] rfl ?_; intro w2 hA2 hb2 hs2; clear hs2; refine Hid.out ?_))
        refine hidU ?_
        have hB2 := hb1.trans (hb2.mono hb1.size)
        have hA12 := hA1.below hb2
        have a0 : w2.cell? ⟨w.heap.size, 0, none⟩ = some (.int .i64 ta) := by rw [hA12.cell]; rfl
        have b0 : w2.cell? ⟨w1.heap.size, 0, none⟩ = some (.int .i64 tb) := by rw [hA2.cell]; rfl
        have a1 : w2.cell? ⟨w.heap.size, 1, none⟩ = some (.int .i64 1) := by rw [hA12.cell]; rfl
        have b1 : w2.cell? ⟨w1.heap.size, 1, none⟩ = some (.int .i64 1) := by rw [hA2.cell]; rfl
        have a2 : w2.cell? ⟨w.heap.size, 2, none⟩ = some (.int .i64 oa) := by rw [hA12.cell]; rfl
        have b2 : w2.cell? ⟨w1.heap.size, 2, none⟩ = some (.int .i64 oa) := by rw [hA2.cell]; rfl
        clear hA1 hA2 hb1 hb2 hA12
        go_wp2_with fail
        go_ret
        exact ⟨rfl, hB2⟩
      · subst hk hj
        have e : depB ⟨ta, 1, oa⟩ ⟨tb, 2, oa⟩ = true := by
          simp [depB, ht]
        rw [e]
        clear e
        go_enter Try.func49, Try.ntmps49
        go_wp2_with (first
          | ((with_reducible show wpList _ _ _ _ _ _); refine wpList_box_at (o := { dst := some 2, .. }) rfl 50 (.tmp 0) rfl [.int .i64 ta, .int .i64 1, .int .i64 oa] rfl ?_; intro w1 hA1 hb1 hs1; clear hs1)
          | ((with_reducible show wpList _ _ _ _ _ _); refine wpList_box_at (o := { dst := some 3, .. }) rfl 50 (.tmp 1) rfl [.int .i64 tb, .int .i64 2, .int .i64 oa] rfl ?_; intro w2 hA2 hb2 hs2; clear hs2; refine Hid.out ?_))
        refine hidU ?_
        have hB2 := hb1.trans (hb2.mono hb1.size)
        have hA12 := hA1.below hb2
        have a0 : w2.cell? ⟨w.heap.size, 0, none⟩ = some (.int .i64 ta) := by rw [hA12.cell]; rfl
        have b0 : w2.cell? ⟨w1.heap.size, 0, none⟩ = some (.int .i64 tb) := by rw [hA2.cell]; rfl
        have a1 : w2.cell? ⟨w.heap.size, 1, none⟩ = some (.int .i64 1) := by rw [hA12.cell]; rfl
        have b1 : w2.cell? ⟨w1.heap.size, 1, none⟩ = some (.int .i64 2) := by rw [hA2.cell]; rfl
        have a2 : w2.cell? ⟨w.heap.size, 2, none⟩ = some (.int .i64 oa) := by rw [hA12.cell]; rfl
        have b2 : w2.cell? ⟨w1.heap.size, 2, none⟩ = some (.int .i64 oa) := by rw [hA2.cell]; rfl
        clear hA1 hA2 hb1 hb2 hA12
        go_wp2_with fail
        go_ret
        exact ⟨rfl, hB2⟩
      · subst hk hj
        have e : depB ⟨ta, 1, oa⟩ ⟨tb, 3, oa⟩ = false := by
          simp [depB, ht]
        rw [e]
        clear e
        go_enter Try.func49, Try.ntmps49
        go_wp2_with (first
          | ((with_reducible show wpList _ _ _ _ _ _); refine wpList_box_at (o := { dst := some 2, .. }) rfl 50 (.tmp 0) rfl [.int .i64 ta, .int .i64 1, .int .i64 oa] rfl ?_; intro w1 hA1 hb1 hs1; clear hs1)
          | ((with_reducible show wpList _ _ _ _ _ _); refine wpList_box_at (o := { dst := some 3, .. }) rfl 50 (.tmp 1) rfl [.int .i64 tb, .int .i64 3, .int .i64 oa] rfl ?_; intro w2 hA2 hb2 hs2; clear hs2; refine Hid.out ?_))
        refine hidU ?_
        have hB2 := hb1.trans (hb2.mono hb1.size)
        have hA12 := hA1.below hb2
        have a0 : w2.cell? ⟨w.heap.size, 0, none⟩ = some (.int .i64 ta) := by rw [hA12.cell]; rfl
        have b0 : w2.cell? ⟨w1.heap.size, 0, none⟩ = some (.int .i64 tb) := by rw [hA2.cell]; rfl
        have a1 : w2.cell? ⟨w.heap.size, 1, none⟩ = some (.int .i64 1) := by rw [hA12.cell]; rfl
        have b1 : w2.cell? ⟨w1.heap.size, 1, none⟩ = some (.int .i64 3) := by rw [hA2.cell]; rfl
        have a2 : w2.cell? ⟨w.heap.size, 2, none⟩ = some (.int .i64 oa) := by rw [hA12.cell]; rfl
        have b2 : w2.cell? ⟨w1.heap.size, 2, none⟩ = some (.int .i64 oa) := by rw [hA2.cell]; rfl
        clear hA1 hA2 hb1 hb2 hA12
        go_wp2_with fail
        go_ret
        exact ⟨rfl, hB2⟩
      · subst hk hj
        have e : depB ⟨ta, 1, oa⟩ ⟨tb, 4, oa⟩ = false := by
          simp [depB, ht]
        rw [e]
        clear e
        go_enter Try.func49, Try.ntmps49
        go_wp2_with (first
          | ((with_reducible show wpList _ _ _ _ _ _); refine wpList_box_at (o := { dst := some 2, .. }) rfl 50 (.tmp 0) rfl [.int .i64 ta, .int .i64 1, .int .i64 oa] rfl ?_; intro w1 hA1 hb1 hs1; clear hs1)
          | ((with_reducible show wpList _ _ _ _ _ _); refine wpList_box_at (o := { dst := some 3, .. }) rfl 50 (.tmp 1) rfl [.int .i64 tb, .int .i64 4, .int .i64 oa] rfl ?_; intro w2 hA2 hb2 hs2; clear hs2; refine Hid.out ?_))
        refine hidU ?_
        have hB2 := hb1.trans (hb2.mono hb1.size)
        have hA12 := hA1.below hb2
        have a0 : w2.cell? ⟨w.heap.size, 0, none⟩ = some (.int .i64 ta) := by rw [hA12.cell]; rfl
        have b0 : w2.cell? ⟨w1.heap.size, 0, none⟩ = some (.int .i64 tb) := by rw [hA2.cell]; rfl
        have a1 : w2.cell? ⟨w.heap.size, 1, none⟩ = some (.int .i64 1) := by rw [hA12.cell]; rfl
        have b1 : w2.cell? ⟨w1.heap.size, 1, none⟩ = some (.int .i64 4) := by rw [hA2.cell]; rfl
        have a2 : w2.cell? ⟨w.heap.size, 2, none⟩ = some (.int .i64 oa) := by rw [hA12.cell]; rfl
        have b2 : w2.cell? ⟨w1.heap.size, 2, none⟩ = some (.int .i64 oa) := by rw [hA2.cell]; rfl
        clear hA1 hA2 hb1 hb2 hA12
        go_wp2_with fail
        go_ret
        exact ⟨rfl, hB2⟩
      · subst hk
        have e : depB ⟨ta, 1, oa⟩ ⟨tb, kb, oa⟩ = false := by
          simp only [beq_eq_false_iff_ne] at j1 j2 j3 j4; simp [depB, ht, j1, j2, j3, j4]
        rw [e]
        clear e
        go_enter Try.func49, Try.ntmps49
        go_wp2_with (first
          | ((with_reducible show wpList _ _ _ _ _ _); refine wpList_box_at (o := { dst := some 2, .. }) rfl 50 (.tmp 0) rfl [.int .i64 ta, .int .i64 1, .int .i64 oa] rfl ?_; intro w1 hA1 hb1 hs1; clear hs1)
          | ((with_reducible show wpList _ _ _ _ _ _); refine wpList_box_at (o := { dst := some 3, .. }) rfl 50 (.tmp 1) rfl [.int .i64 tb, .int .i64 kb, .int .i64 oa] rfl ?_; intro w2 hA2 hb2 hs2; clear hs2; refine Hid.out ?_))
        refine hidU ?_
        have hB2 := hb1.trans (hb2.mono hb1.size)
        have hA12 := hA1.below hb2
        have a0 : w2.cell? ⟨w.heap.size, 0, none⟩ = some (.int .i64 ta) := by rw [hA12.cell]; rfl
        have b0 : w2.cell? ⟨w1.heap.size, 0, none⟩ = some (.int .i64 tb) := by rw [hA2.cell]; rfl
        have a1 : w2.cell? ⟨w.heap.size, 1, none⟩ = some (.int .i64 1) := by rw [hA12.cell]; rfl
        have b1 : w2.cell? ⟨w1.heap.size, 1, none⟩ = some (.int .i64 kb) := by rw [hA2.cell]; rfl
        have a2 : w2.cell? ⟨w.heap.size, 2, none⟩ = some (.int .i64 oa) := by rw [hA12.cell]; rfl
        have b2 : w2.cell? ⟨w1.heap.size, 2, none⟩ = some (.int .i64 oa) := by rw [hA2.cell]; rfl
        clear hA1 hA2 hb1 hb2 hA12
        go_wp2_with fail
        go_ret
        exact ⟨rfl, hB2⟩
    · rcases kd_cases kb with hj | hj | hj | hj | ⟨j1, j2, j3, j4⟩
      · subst hk hj
        have e : depB ⟨ta, 2, oa⟩ ⟨tb, 1, oa⟩ = true := by
          simp [depB, ht]
        rw [e]
        clear e
        go_enter Try.func49, Try.ntmps49
        go_wp2_with (first
          | ((with_reducible show wpList _ _ _ _ _ _); refine wpList_box_at (o := { dst := some 2, .. }) rfl 50 (.tmp 0) rfl [.int .i64 ta, .int .i64 2, .int .i64 oa] rfl ?_; intro w1 hA1 hb1 hs1; clear hs1)
          | ((with_reducible show wpList _ _ _ _ _ _); refine wpList_box_at (o := { dst := some 3, .. }) rfl 50 (.tmp 1) rfl [.int .i64 tb, .int .i64 1, .int .i64 oa] rfl ?_; intro w2 hA2 hb2 hs2; clear hs2; refine Hid.out ?_))
        refine hidU ?_
        have hB2 := hb1.trans (hb2.mono hb1.size)
        have hA12 := hA1.below hb2
        have a0 : w2.cell? ⟨w.heap.size, 0, none⟩ = some (.int .i64 ta) := by rw [hA12.cell]; rfl
        have b0 : w2.cell? ⟨w1.heap.size, 0, none⟩ = some (.int .i64 tb) := by rw [hA2.cell]; rfl
        have a1 : w2.cell? ⟨w.heap.size, 1, none⟩ = some (.int .i64 2) := by rw [hA12.cell]; rfl
        have b1 : w2.cell? ⟨w1.heap.size, 1, none⟩ = some (.int .i64 1) := by rw [hA2.cell]; rfl
        have a2 : w2.cell? ⟨w.heap.size, 2, none⟩ = some (.int .i64 oa) := by rw [hA12.cell]; rfl
        have b2 : w2.cell? ⟨w1.heap.size, 2, none⟩ = some (.int .i64 oa) := by rw [hA2.cell]; rfl
        clear hA1 hA2 hb1 hb2 hA12
        go_wp2_with fail
        go_ret
        exact ⟨rfl, hB2⟩
      · subst hk hj
        have e : depB ⟨ta, 2, oa⟩ ⟨tb, 2, oa⟩ = true := by
          simp [depB, ht]
        rw [e]
        clear e
        go_enter Try.func49, Try.ntmps49
        go_wp2_with (first
          | ((with_reducible show wpList _ _ _ _ _ _); refine wpList_box_at (o := { dst := some 2, .. }) rfl 50 (.tmp 0) rfl [.int .i64 ta, .int .i64 2, .int .i64 oa] rfl ?_; intro w1 hA1 hb1 hs1; clear hs1)
          | ((with_reducible show wpList _ _ _ _ _ _); refine wpList_box_at (o := { dst := some 3, .. }) rfl 50 (.tmp 1) rfl [.int .i64 tb, .int .i64 2, .int .i64 oa] rfl ?_; intro w2 hA2 hb2 hs2; clear hs2; refine Hid.out ?_))
        refine hidU ?_
        have hB2 := hb1.trans (hb2.mono hb1.size)
        have hA12 := hA1.below hb2
        have a0 : w2.cell? ⟨w.heap.size, 0, none⟩ = some (.int .i64 ta) := by rw [hA12.cell]; rfl
        have b0 : w2.cell? ⟨w1.heap.size, 0, none⟩ = some (.int .i64 tb) := by rw [hA2.cell]; rfl
        have a1 : w2.cell? ⟨w.heap.size, 1, none⟩ = some (.int .i64 2) := by rw [hA12.cell]; rfl
        have b1 : w2.cell? ⟨w1.heap.size, 1, none⟩ = some (.int .i64 2) := by rw [hA2.cell]; rfl
        have a2 : w2.cell? ⟨w.heap.size, 2, none⟩ = some (.int .i64 oa) := by rw [hA12.cell]; rfl
        have b2 : w2.cell? ⟨w1.heap.size, 2, none⟩ = some (.int .i64 oa) := by rw [hA2.cell]; rfl
        clear hA1 hA2 hb1 hb2 hA12
        go_wp2_with fail
        go_ret
        exact ⟨rfl, hB2⟩
      · subst hk hj
        have e : depB ⟨ta, 2, oa⟩ ⟨tb, 3, oa⟩ = false := by
          simp [depB, ht]
        rw [e]
        clear e
        go_enter Try.func49, Try.ntmps49
        go_wp2_with (first
          | ((with_reducible show wpList _ _ _ _ _ _); refine wpList_box_at (o := { dst := some 2, .. }) rfl 50 (.tmp 0) rfl [.int .i64 ta, .int .i64 2, .int .i64 oa] rfl ?_; intro w1 hA1 hb1 hs1; clear hs1)
          | ((with_reducible show wpList _ _ _ _ _ _); refine wpList_box_at (o := { dst := some 3, .. }) rfl 50 (.tmp 1) rfl [.int .i64 tb, .int .i64 3, .int .i64 oa] rfl ?_; intro w2 hA2 hb2 hs2; clear hs2; refine Hid.out ?_))
        refine hidU ?_
        have hB2 := hb1.trans (hb2.mono hb1.size)
        have hA12 := hA1.below hb2
        have a0 : w2.cell? ⟨w.heap.size, 0, none⟩ = some (.int .i64 ta) := by rw [hA12.cell]; rfl
        have b0 : w2.cell? ⟨w1.heap.size, 0, none⟩ = some (.int .i64 tb) := by rw [hA2.cell]; rfl
        have a1 : w2.cell? ⟨w.heap.size, 1, none⟩ = some (.int .i64 2) := by rw [hA12.cell]; rfl
        have b1 : w2.cell? ⟨w1.heap.size, 1, none⟩ = some (.int .i64 3) := by rw [hA2.cell]; rfl
        have a2 : w2.cell? ⟨w.heap.size, 2, none⟩ = some (.int .i64 oa) := by rw [hA12.cell]; rfl
        have b2 : w2.cell? ⟨w1.heap.size, 2, none⟩ = some (.int .i64 oa) := by rw [hA2.cell]; rfl
        clear hA1 hA2 hb1 hb2 hA12
        go_wp2_with fail
        go_ret
        exact ⟨rfl, hB2⟩
      · subst hk hj
        have e : depB ⟨ta, 2, oa⟩ ⟨tb, 4, oa⟩ = false := by
          simp [depB, ht]
        rw [e]
        clear e
        go_enter Try.func49, Try.ntmps49
        go_wp2_with (first
          | ((with_reducible show wpList _ _ _ _ _ _); refine wpList_box_at (o := { dst := some 2, .. }) rfl 50 (.tmp 0) rfl [.int .i64 ta, .int .i64 2, .int .i64 oa] rfl ?_; intro w1 hA1 hb1 hs1; clear hs1)
          | ((with_reducible show wpList _ _ _ _ _ _); refine wpList_box_at (o := { dst := some 3, .. }) rfl 50 (.tmp 1) rfl [.int .i64 tb, .int .i64 4, .int .i64 oa] rfl ?_; intro w2 hA2 hb2 hs2; clear hs2; refine Hid.out ?_))
        refine hidU ?_
        have hB2 := hb1.trans (hb2.mono hb1.size)
        have hA12 := hA1.below hb2
        have a0 : w2.cell? ⟨w.heap.size, 0, none⟩ = some (.int .i64 ta) := by rw [hA12.cell]; rfl
        have b0 : w2.cell? ⟨w1.heap.size, 0, none⟩ = some (.int .i64 tb) := by rw [hA2.cell]; rfl
        have a1 : w2.cell? ⟨w.heap.size, 1, none⟩ = some (.int .i64 2) := by rw [hA12.cell]; rfl
        have b1 : w2.cell? ⟨w1.heap.size, 1, none⟩ = some (.int .i64 4) := by rw [hA2.cell]; rfl
        have a2 : w2.cell? ⟨w.heap.size, 2, none⟩ = some (.int .i64 oa) := by rw [hA12.cell]; rfl
        have b2 : w2.cell? ⟨w1.heap.size, 2, none⟩ = some (.int .i64 oa) := by rw [hA2.cell]; rfl
        clear hA1 hA2 hb1 hb2 hA12
        go_wp2_with fail
        go_ret
        exact ⟨rfl, hB2⟩
      · subst hk
        have e : depB ⟨ta, 2, oa⟩ ⟨tb, kb, oa⟩ = false := by
          simp only [beq_eq_false_iff_ne] at j1 j2 j3 j4; simp [depB, ht, j1, j2, j3, j4]
        rw [e]
        clear e
        go_enter Try.func49, Try.ntmps49
        go_wp2_with (first
          | ((with_reducible show wpList _ _ _ _ _ _); refine wpList_box_at (o := { dst := some 2, .. }) rfl 50 (.tmp 0) rfl [.int .i64 ta, .int .i64 2, .int .i64 oa] rfl ?_; intro w1 hA1 hb1 hs1; clear hs1)
          | ((with_reducible show wpList _ _ _ _ _ _); refine wpList_box_at (o := { dst := some 3, .. }) rfl 50 (.tmp 1) rfl [.int .i64 tb, .int .i64 kb, .int .i64 oa] rfl ?_; intro w2 hA2 hb2 hs2; clear hs2; refine Hid.out ?_))
        refine hidU ?_
        have hB2 := hb1.trans (hb2.mono hb1.size)
        have hA12 := hA1.below hb2
        have a0 : w2.cell? ⟨w.heap.size, 0, none⟩ = some (.int .i64 ta) := by rw [hA12.cell]; rfl
        have b0 : w2.cell? ⟨w1.heap.size, 0, none⟩ = some (.int .i64 tb) := by rw [hA2.cell]; rfl
        have a1 : w2.cell? ⟨w.heap.size, 1, none⟩ = some (.int .i64 2) := by rw [hA12.cell]; rfl
        have b1 : w2.cell? ⟨w1.heap.size, 1, none⟩ = some (.int .i64 kb) := by rw [hA2.cell]; rfl
        have a2 : w2.cell? ⟨w.heap.size, 2, none⟩ = some (.int .i64 oa) := by rw [hA12.cell]; rfl
        have b2 : w2.cell? ⟨w1.heap.size, 2, none⟩ = some (.int .i64 oa) := by rw [hA2.cell]; rfl
        clear hA1 hA2 hb1 hb2 hA12
        go_wp2_with fail
        go_ret
        exact ⟨rfl, hB2⟩
    · rcases kd_cases kb with hj | hj | hj | hj | ⟨j1, j2, j3, j4⟩
      · subst hk hj
        have e : depB ⟨ta, 3, oa⟩ ⟨tb, 1, oa⟩ = false := by
          simp [depB, ht]
        rw [e]
        clear e
        go_enter Try.func49, Try.ntmps49
        go_wp2_with (first
          | ((with_reducible show wpList _ _ _ _ _ _); refine wpList_box_at (o := { dst := some 2, .. }) rfl 50 (.tmp 0) rfl [.int .i64 ta, .int .i64 3, .int .i64 oa] rfl ?_; intro w1 hA1 hb1 hs1; clear hs1)
          | ((with_reducible show wpList _ _ _ _ _ _); refine wpList_box_at (o := { dst := some 3, .. }) rfl 50 (.tmp 1) rfl [.int .i64 tb, .int .i64 1, .int .i64 oa] rfl ?_; intro w2 hA2 hb2 hs2; clear hs2; refine Hid.out ?_))
        refine hidU ?_
        have hB2 := hb1.trans (hb2.mono hb1.size)
        have hA12 := hA1.below hb2
        have a0 : w2.cell? ⟨w.heap.size, 0, none⟩ = some (.int .i64 ta) := by rw [hA12.cell]; rfl
        have b0 : w2.cell? ⟨w1.heap.size, 0, none⟩ = some (.int .i64 tb) := by rw [hA2.cell]; rfl
        have a1 : w2.cell? ⟨w.heap.size, 1, none⟩ = some (.int .i64 3) := by rw [hA12.cell]; rfl
        have b1 : w2.cell? ⟨w1.heap.size, 1, none⟩ = some (.int .i64 1) := by rw [hA2.cell]; rfl
        have a2 : w2.cell? ⟨w.heap.size, 2, none⟩ = some (.int .i64 oa) := by rw [hA12.cell]; rfl
        have b2 : w2.cell? ⟨w1.heap.size, 2, none⟩ = some (.int .i64 oa) := by rw [hA2.cell]; rfl
        clear hA1 hA2 hb1 hb2 hA12
        go_wp2_with fail
        go_ret
        exact ⟨rfl, hB2⟩
      · subst hk hj
        have e : depB ⟨ta, 3, oa⟩ ⟨tb, 2, oa⟩ = false := by
          simp [depB, ht]
        rw [e]
        clear e
        go_enter Try.func49, Try.ntmps49
        go_wp2_with (first
          | ((with_reducible show wpList _ _ _ _ _ _); refine wpList_box_at (o := { dst := some 2, .. }) rfl 50 (.tmp 0) rfl [.int .i64 ta, .int .i64 3, .int .i64 oa] rfl ?_; intro w1 hA1 hb1 hs1; clear hs1)
          | ((with_reducible show wpList _ _ _ _ _ _); refine wpList_box_at (o := { dst := some 3, .. }) rfl 50 (.tmp 1) rfl [.int .i64 tb, .int .i64 2, .int .i64 oa] rfl ?_; intro w2 hA2 hb2 hs2; clear hs2; refine Hid.out ?_))
        refine hidU ?_
        have hB2 := hb1.trans (hb2.mono hb1.size)
        have hA12 := hA1.below hb2
        have a0 : w2.cell? ⟨w.heap.size, 0, none⟩ = some (.int .i64 ta) := by rw [hA12.cell]; rfl
        have b0 : w2.cell? ⟨w1.heap.size, 0, none⟩ = some (.int .i64 tb) := by rw [hA2.cell]; rfl
        have a1 : w2.cell? ⟨w.heap.size, 1, none⟩ = some (.int .i64 3) := by rw [hA12.cell]; rfl
        have b1 : w2.cell? ⟨w1.heap.size, 1, none⟩ = some (.int .i64 2) := by rw [hA2.cell]; rfl
        have a2 : w2.cell? ⟨w.heap.size, 2, none⟩ = some (.int .i64 oa) := by rw [hA12.cell]; rfl
        have b2 : w2.cell? ⟨w1.heap.size, 2, none⟩ = some (.int .i64 oa) := by rw [hA2.cell]; rfl
        clear hA1 hA2 hb1 hb2 hA12
        go_wp2_with fail
        go_ret
        exact ⟨rfl, hB2⟩
      · subst hk hj
        have e : depB ⟨ta, 3, oa⟩ ⟨tb, 3, oa⟩ = true := by
          simp [depB, ht]
        rw [e]
        clear e
        go_enter Try.func49, Try.ntmps49
        go_wp2_with (first
          | ((with_reducible show wpList _ _ _ _ _ _); refine wpList_box_at (o := { dst := some 2, .. }) rfl 50 (.tmp 0) rfl [.int .i64 ta, .int .i64 3, .int .i64 oa] rfl ?_; intro w1 hA1 hb1 hs1; clear hs1)
          | ((with_reducible show wpList _ _ _ _ _ _); refine wpList_box_at (o := { dst := some 3, .. }) rfl 50 (.tmp 1) rfl [.int .i64 tb, .int .i64 3, .int .i64 oa] rfl ?_; intro w2 hA2 hb2 hs2; clear hs2; refine Hid.out ?_))
        refine hidU ?_
        have hB2 := hb1.trans (hb2.mono hb1.size)
        have hA12 := hA1.below hb2
        have a0 : w2.cell? ⟨w.heap.size, 0, none⟩ = some (.int .i64 ta) := by rw [hA12.cell]; rfl
        have b0 : w2.cell? ⟨w1.heap.size, 0, none⟩ = some (.int .i64 tb) := by rw [hA2.cell]; rfl
        have a1 : w2.cell? ⟨w.heap.size, 1, none⟩ = some (.int .i64 3) := by rw [hA12.cell]; rfl
        have b1 : w2.cell? ⟨w1.heap.size, 1, none⟩ = some (.int .i64 3) := by rw [hA2.cell]; rfl
        have a2 : w2.cell? ⟨w.heap.size, 2, none⟩ = some (.int .i64 oa) := by rw [hA12.cell]; rfl
        have b2 : w2.cell? ⟨w1.heap.size, 2, none⟩ = some (.int .i64 oa) := by rw [hA2.cell]; rfl
        clear hA1 hA2 hb1 hb2 hA12
        go_wp2_with fail
        go_ret
        exact ⟨rfl, hB2⟩
      · subst hk hj
        have e : depB ⟨ta, 3, oa⟩ ⟨tb, 4, oa⟩ = true := by
          simp [depB, ht]
        rw [e]
        clear e
        go_enter Try.func49, Try.ntmps49
        go_wp2_with (first
          | ((with_reducible show wpList _ _ _ _ _ _); refine wpList_box_at (o := { dst := some 2, .. }) rfl 50 (.tmp 0) rfl [.int .i64 ta, .int .i64 3, .int .i64 oa] rfl ?_; intro w1 hA1 hb1 hs1; clear hs1)
          | ((with_reducible show wpList _ _ _ _ _ _); refine wpList_box_at (o := { dst := some 3, .. }) rfl 50 (.tmp 1) rfl [.int .i64 tb, .int .i64 4, .int .i64 oa] rfl ?_; intro w2 hA2 hb2 hs2; clear hs2; refine Hid.out ?_))
        refine hidU ?_
        have hB2 := hb1.trans (hb2.mono hb1.size)
        have hA12 := hA1.below hb2
        have a0 : w2.cell? ⟨w.heap.size, 0, none⟩ = some (.int .i64 ta) := by rw [hA12.cell]; rfl
        have b0 : w2.cell? ⟨w1.heap.size, 0, none⟩ = some (.int .i64 tb) := by rw [hA2.cell]; rfl
        have a1 : w2.cell? ⟨w.heap.size, 1, none⟩ = some (.int .i64 3) := by rw [hA12.cell]; rfl
        have b1 : w2.cell? ⟨w1.heap.size, 1, none⟩ = some (.int .i64 4) := by rw [hA2.cell]; rfl
        have a2 : w2.cell? ⟨w.heap.size, 2, none⟩ = some (.int .i64 oa) := by rw [hA12.cell]; rfl
        have b2 : w2.cell? ⟨w1.heap.size, 2, none⟩ = some (.int .i64 oa) := by rw [hA2.cell]; rfl
        clear hA1 hA2 hb1 hb2 hA12
        go_wp2_with fail
        go_ret
        exact ⟨rfl, hB2⟩
      · subst hk
        have e : depB ⟨ta, 3, oa⟩ ⟨tb, kb, oa⟩ = false := by
          simp only [beq_eq_false_iff_ne] at j1 j2 j3 j4; simp [depB, ht, j1, j2, j3, j4]
        rw [e]
        clear e
        go_enter Try.func49, Try.ntmps49
        go_wp2_with (first
          | ((with_reducible show wpList _ _ _ _ _ _); refine wpList_box_at (o := { dst := some 2, .. }) rfl 50 (.tmp 0) rfl [.int .i64 ta, .int .i64 3, .int .i64 oa] rfl ?_; intro w1 hA1 hb1 hs1; clear hs1)
          | ((with_reducible show wpList _ _ _ _ _ _); refine wpList_box_at (o := { dst := some 3, .. }) rfl 50 (.tmp 1) rfl [.int .i64 tb, .int .i64 kb, .int .i64 oa] rfl ?_; intro w2 hA2 hb2 hs2; clear hs2; refine Hid.out ?_))
        refine hidU ?_
        have hB2 := hb1.trans (hb2.mono hb1.size)
        have hA12 := hA1.below hb2
        have a0 : w2.cell? ⟨w.heap.size, 0, none⟩ = some (.int .i64 ta) := by rw [hA12.cell]; rfl
        have b0 : w2.cell? ⟨w1.heap.size, 0, none⟩ = some (.int .i64 tb) := by rw [hA2.cell]; rfl
        have a1 : w2.cell? ⟨w.heap.size, 1, none⟩ = some (.int .i64 3) := by rw [hA12.cell]; rfl
        have b1 : w2.cell? ⟨w1.heap.size, 1, none⟩ = some (.int .i64 kb) := by rw [hA2.cell]; rfl
        have a2 : w2.cell? ⟨w.heap.size, 2, none⟩ = some (.int .i64 oa) := by rw [hA12.cell]; rfl
        have b2 : w2.cell? ⟨w1.heap.size, 2, none⟩ = some (.int .i64 oa) := by rw [hA2.cell]; rfl
        clear hA1 hA2 hb1 hb2 hA12
        go_wp2_with fail
        go_ret
        exact ⟨rfl, hB2⟩
    · rcases kd_cases kb with hj | hj | hj | hj | ⟨j1, j2, j3, j4⟩
      · subst hk hj
        have e : depB ⟨ta, 4, oa⟩ ⟨tb, 1, oa⟩ = false := by
          simp [depB, ht]
        rw [e]
        clear e
        go_enter Try.func49, Try.ntmps49
        go_wp2_with (first
          | ((with_reducible show wpList _ _ _ _ _ _); refine wpList_box_at (o := { dst := some 2, .. }) rfl 50 (.tmp 0) rfl [.int .i64 ta, .int .i64 4, .int .i64 oa] rfl ?_; intro w1 hA1 hb1 hs1; clear hs1)
          | ((with_reducible show wpList _ _ _ _ _ _); refine wpList_box_at (o := { dst := some 3, .. }) rfl 50 (.tmp 1) rfl [.int .i64 tb, .int .i64 1, .int .i64 oa] rfl ?_; intro w2 hA2 hb2 hs2; clear hs2; refine Hid.out ?_))
        refine hidU ?_
        have hB2 := hb1.trans (hb2.mono hb1.size)
        have hA12 := hA1.below hb2
        have a0 : w2.cell? ⟨w.heap.size, 0, none⟩ = some (.int .i64 ta) := by rw [hA12.cell]; rfl
        have b0 : w2.cell? ⟨w1.heap.size, 0, none⟩ = some (.int .i64 tb) := by rw [hA2.cell]; rfl
        have a1 : w2.cell? ⟨w.heap.size, 1, none⟩ = some (.int .i64 4) := by rw [hA12.cell]; rfl
        have b1 : w2.cell? ⟨w1.heap.size, 1, none⟩ = some (.int .i64 1) := by rw [hA2.cell]; rfl
        have a2 : w2.cell? ⟨w.heap.size, 2, none⟩ = some (.int .i64 oa) := by rw [hA12.cell]; rfl
        have b2 : w2.cell? ⟨w1.heap.size, 2, none⟩ = some (.int .i64 oa) := by rw [hA2.cell]; rfl
        clear hA1 hA2 hb1 hb2 hA12
        go_wp2_with fail
        go_ret
        exact ⟨rfl, hB2⟩
      · subst hk hj
        have e : depB ⟨ta, 4, oa⟩ ⟨tb, 2, oa⟩ = false := by
          simp [depB, ht]
        rw [e]
        clear e
        go_enter Try.func49, Try.ntmps49
        go_wp2_with (first
          | ((with_reducible show wpList _ _ _ _ _ _); refine wpList_box_at (o := { dst := some 2, .. }) rfl 50 (.tmp 0) rfl [.int .i64 ta, .int .i64 4, .int .i64 oa] rfl ?_; intro w1 hA1 hb1 hs1; clear hs1)
          | ((with_reducible show wpList _ _ _ _ _ _); refine wpList_box_at (o := { dst := some 3, .. }) rfl 50 (.tmp 1) rfl [.int .i64 tb, .int .i64 2, .int .i64 oa] rfl ?_; intro w2 hA2 hb2 hs2; clear hs2; refine Hid.out ?_))
        refine hidU ?_
        have hB2 := hb1.trans (hb2.mono hb1.size)
        have hA12 := hA1.below hb2
        have a0 : w2.cell? ⟨w.heap.size, 0, none⟩ = some (.int .i64 ta) := by rw [hA12.cell]; rfl
        have b0 : w2.cell? ⟨w1.heap.size, 0, none⟩ = some (.int .i64 tb) := by rw [hA2.cell]; rfl
        have a1 : w2.cell? ⟨w.heap.size, 1, none⟩ = some (.int .i64 4) := by rw [hA12.cell]; rfl
        have b1 : w2.cell? ⟨w1.heap.size, 1, none⟩ = some (.int .i64 2) := by rw [hA2.cell]; rfl
        have a2 : w2.cell? ⟨w.heap.size, 2, none⟩ = some (.int .i64 oa) := by rw [hA12.cell]; rfl
        have b2 : w2.cell? ⟨w1.heap.size, 2, none⟩ = some (.int .i64 oa) := by rw [hA2.cell]; rfl
        clear hA1 hA2 hb1 hb2 hA12
        go_wp2_with fail
        go_ret
        exact ⟨rfl, hB2⟩
      · subst hk hj
        have e : depB ⟨ta, 4, oa⟩ ⟨tb, 3, oa⟩ = true := by
          simp [depB, ht]
        rw [e]
        clear e
        go_enter Try.func49, Try.ntmps49
        go_wp2_with (first
          | ((with_reducible show wpList _ _ _ _ _ _); refine wpList_box_at (o := { dst := some 2, .. }) rfl 50 (.tmp 0) rfl [.int .i64 ta, .int .i64 4, .int .i64 oa] rfl ?_; intro w1 hA1 hb1 hs1; clear hs1)
          | ((with_reducible show wpList _ _ _ _ _ _); refine wpList_box_at (o := { dst := some 3, .. }) rfl 50 (.tmp 1) rfl [.int .i64 tb, .int .i64 3, .int .i64 oa] rfl ?_; intro w2 hA2 hb2 hs2; clear hs2; refine Hid.out ?_))
        refine hidU ?_
        have hB2 := hb1.trans (hb2.mono hb1.size)
        have hA12 := hA1.below hb2
        have a0 : w2.cell? ⟨w.heap.size, 0, none⟩ = some (.int .i64 ta) := by rw [hA12.cell]; rfl
        have b0 : w2.cell? ⟨w1.heap.size, 0, none⟩ = some (.int .i64 tb) := by rw [hA2.cell]; rfl
        have a1 : w2.cell? ⟨w.heap.size, 1, none⟩ = some (.int .i64 4) := by rw [hA12.cell]; rfl
        have b1 : w2.cell? ⟨w1.heap.size, 1, none⟩ = some (.int .i64 3) := by rw [hA2.cell]; rfl
        have a2 : w2.cell? ⟨w.heap.size, 2, none⟩ = some (.int .i64 oa) := by rw [hA12.cell]; rfl
        have b2 : w2.cell? ⟨w1.heap.size, 2, none⟩ = some (.int .i64 oa) := by rw [hA2.cell]; rfl
        clear hA1 hA2 hb1 hb2 hA12
        go_wp2_with fail
        go_ret
        exact ⟨rfl, hB2⟩
      · subst hk hj
        have e : depB ⟨ta, 4, oa⟩ ⟨tb, 4, oa⟩ = true := by
          simp [depB, ht]
        rw [e]
        clear e
        go_enter Try.func49, Try.ntmps49
        go_wp2_with (first
          | ((with_reducible show wpList _ _ _ _ _ _); refine wpList_box_at (o := { dst := some 2, .. }) rfl 50 (.tmp 0) rfl [.int .i64 ta, .int .i64 4, .int .i64 oa] rfl ?_; intro w1 hA1 hb1 hs1; clear hs1)
          | ((with_reducible show wpList _ _ _ _ _ _); refine wpList_box_at (o := { dst := some 3, .. }) rfl 50 (.tmp 1) rfl [.int .i64 tb, .int .i64 4, .int .i64 oa] rfl ?_; intro w2 hA2 hb2 hs2; clear hs2; refine Hid.out ?_))
        refine hidU ?_
        have hB2 := hb1.trans (hb2.mono hb1.size)
        have hA12 := hA1.below hb2
        have a0 : w2.cell? ⟨w.heap.size, 0, none⟩ = some (.int .i64 ta) := by rw [hA12.cell]; rfl
        have b0 : w2.cell? ⟨w1.heap.size, 0, none⟩ = some (.int .i64 tb) := by rw [hA2.cell]; rfl
        have a1 : w2.cell? ⟨w.heap.size, 1, none⟩ = some (.int .i64 4) := by rw [hA12.cell]; rfl
        have b1 : w2.cell? ⟨w1.heap.size, 1, none⟩ = some (.int .i64 4) := by rw [hA2.cell]; rfl
        have a2 : w2.cell? ⟨w.heap.size, 2, none⟩ = some (.int .i64 oa) := by rw [hA12.cell]; rfl
        have b2 : w2.cell? ⟨w1.heap.size, 2, none⟩ = some (.int .i64 oa) := by rw [hA2.cell]; rfl
        clear hA1 hA2 hb1 hb2 hA12
        go_wp2_with fail
        go_ret
        exact ⟨rfl, hB2⟩
      · subst hk
        have e : depB ⟨ta, 4, oa⟩ ⟨tb, kb, oa⟩ = false := by
          simp only [beq_eq_false_iff_ne] at j1 j2 j3 j4; simp [depB, ht, j1, j2, j3, j4]
        rw [e]
        clear e
        go_enter Try.func49, Try.ntmps49
        go_wp2_with (first
          | ((with_reducible show wpList _ _ _ _ _ _); refine wpList_box_at (o := { dst := some 2, .. }) rfl 50 (.tmp 0) rfl [.int .i64 ta, .int .i64 4, .int .i64 oa] rfl ?_; intro w1 hA1 hb1 hs1; clear hs1)
          | ((with_reducible show wpList _ _ _ _ _ _); refine wpList_box_at (o := { dst := some 3, .. }) rfl 50 (.tmp 1) rfl [.int .i64 tb, .int .i64 kb, .int .i64 oa] rfl ?_; intro w2 hA2 hb2 hs2; clear hs2; refine Hid.out ?_))
        refine hidU ?_
        have hB2 := hb1.trans (hb2.mono hb1.size)
        have hA12 := hA1.below hb2
        have a0 : w2.cell? ⟨w.heap.size, 0, none⟩ = some (.int .i64 ta) := by rw [hA12.cell]; rfl
        have b0 : w2.cell? ⟨w1.heap.size, 0, none⟩ = some (.int .i64 tb) := by rw [hA2.cell]; rfl
        have a1 : w2.cell? ⟨w.heap.size, 1, none⟩ = some (.int .i64 4) := by rw [hA12.cell]; rfl
        have b1 : w2.cell? ⟨w1.heap.size, 1, none⟩ = some (.int .i64 kb) := by rw [hA2.cell]; rfl
        have a2 : w2.cell? ⟨w.heap.size, 2, none⟩ = some (.int .i64 oa) := by rw [hA12.cell]; rfl
        have b2 : w2.cell? ⟨w1.heap.size, 2, none⟩ = some (.int .i64 oa) := by rw [hA2.cell]; rfl
        clear hA1 hA2 hb1 hb2 hA12
        go_wp2_with fail
        go_ret
        exact ⟨rfl, hB2⟩
    · rcases kd_cases kb with hj | hj | hj | hj | ⟨j1, j2, j3, j4⟩
      · subst hj
        have e : depB ⟨ta, ka, oa⟩ ⟨tb, 1, oa⟩ = false := by
          simp only [beq_eq_false_iff_ne] at k1 k2 k3 k4; simp [depB, ht, k1, k2, k3, k4]
        rw [e]
        clear e
        go_enter Try.func49, Try.ntmps49
        go_wp2_with (first
          | ((with_reducible show wpList _ _ _ _ _ _); refine wpList_box_at (o := { dst := some 2, .. }) rfl 50 (.tmp 0) rfl [.int .i64 ta, .int .i64 ka, .int .i64 oa] rfl ?_; intro w1 hA1 hb1 hs1; clear hs1)
          | ((with_reducible show wpList _ _ _ _ _ _); refine wpList_box_at (o := { dst := some 3, .. }) rfl 50 (.tmp 1) rfl [.int .i64 tb, .int .i64 1, .int .i64 oa] rfl ?_; intro w2 hA2 hb2 hs2; clear hs2; refine Hid.out ?_))
        refine hidU ?_
        have hB2 := hb1.trans (hb2.mono hb1.size)
        have hA12 := hA1.below hb2
        have a0 : w2.cell? ⟨w.heap.size, 0, none⟩ = some (.int .i64 ta) := by rw [hA12.cell]; rfl
        have b0 : w2.cell? ⟨w1.heap.size, 0, none⟩ = some (.int .i64 tb) := by rw [hA2.cell]; rfl
        have a1 : w2.cell? ⟨w.heap.size, 1, none⟩ = some (.int .i64 ka) := by rw [hA12.cell]; rfl
        have b1 : w2.cell? ⟨w1.heap.size, 1, none⟩ = some (.int .i64 1) := by rw [hA2.cell]; rfl
        have a2 : w2.cell? ⟨w.heap.size, 2, none⟩ = some (.int .i64 oa) := by rw [hA12.cell]; rfl
        have b2 : w2.cell? ⟨w1.heap.size, 2, none⟩ = some (.int .i64 oa) := by rw [hA2.cell]; rfl
        clear hA1 hA2 hb1 hb2 hA12
        go_wp2_with fail
        go_ret
        exact ⟨rfl, hB2⟩
      · subst hj
        have e : depB ⟨ta, ka, oa⟩ ⟨tb, 2, oa⟩ = false := by
          simp only [beq_eq_false_iff_ne] at k1 k2 k3 k4; simp [depB, ht, k1, k2, k3, k4]
        rw [e]
        clear e
        go_enter Try.func49, Try.ntmps49
        go_wp2_with (first
          | ((with_reducible show wpList _ _ _ _ _ _); refine wpList_box_at (o := { dst := some 2, .. }) rfl 50 (.tmp 0) rfl [.int .i64 ta, .int .i64 ka, .int .i64 oa] rfl ?_; intro w1 hA1 hb1 hs1; clear hs1)
          | ((with_reducible show wpList _ _ _ _ _ _); refine wpList_box_at (o := { dst := some 3, .. }) rfl 50 (.tmp 1) rfl [.int .i64 tb, .int .i64 2, .int .i64 oa] rfl ?_; intro w2 hA2 hb2 hs2; clear hs2; refine Hid.out ?_))
        refine hidU ?_
        have hB2 := hb1.trans (hb2.mono hb1.size)
        have hA12 := hA1.below hb2
        have a0 : w2.cell? ⟨w.heap.size, 0, none⟩ = some (.int .i64 ta) := by rw [hA12.cell]; rfl
        have b0 : w2.cell? ⟨w1.heap.size, 0, none⟩ = some (.int .i64 tb) := by rw [hA2.cell]; rfl
        have a1 : w2.cell? ⟨w.heap.size, 1, none⟩ = some (.int .i64 ka) := by rw [hA12.cell]; rfl
        have b1 : w2.cell? ⟨w1.heap.size, 1, none⟩ = some (.int .i64 2) := by rw [hA2.cell]; rfl
        have a2 : w2.cell? ⟨w.heap.size, 2, none⟩ = some (.int .i64 oa) := by rw [hA12.cell]; rfl
        have b2 : w2.cell? ⟨w1.heap.size, 2, none⟩ = some (.int .i64 oa) := by rw [hA2.cell]; rfl
        clear hA1 hA2 hb1 hb2 hA12
        go_wp2_with fail
        go_ret
        exact ⟨rfl, hB2⟩
      · subst hj
        have e : depB ⟨ta, ka, oa⟩ ⟨tb, 3, oa⟩ = false := by
          simp only [beq_eq_false_iff_ne] at k1 k2 k3 k4; simp [depB, ht, k1, k2, k3, k4]
        rw [e]
        clear e
        go_enter Try.func49, Try.ntmps49
        go_wp2_with (first
          | ((with_reducible show wpList _ _ _ _ _ _); refine wpList_box_at (o := { dst := some 2, .. }) rfl 50 (.tmp 0) rfl [.int .i64 ta, .int .i64 ka, .int .i64 oa] rfl ?_; intro w1 hA1 hb1 hs1; clear hs1)
          | ((with_reducible show wpList _ _ _ _ _ _); refine wpList_box_at (o := { dst := some 3, .. }) rfl 50 (.tmp 1) rfl [.int .i64 tb, .int .i64 3, .int .i64 oa] rfl ?_; intro w2 hA2 hb2 hs2; clear hs2; refine Hid.out ?_))
        refine hidU ?_
        have hB2 := hb1.trans (hb2.mono hb1.size)
        have hA12 := hA1.below hb2
        have a0 : w2.cell? ⟨w.heap.size, 0, none⟩ = some (.int .i64 ta) := by rw [hA12.cell]; rfl
        have b0 : w2.cell? ⟨w1.heap.size, 0, none⟩ = some (.int .i64 tb) := by rw [hA2.cell]; rfl
        have a1 : w2.cell? ⟨w.heap.size, 1, none⟩ = some (.int .i64 ka) := by rw [hA12.cell]; rfl
        have b1 : w2.cell? ⟨w1.heap.size, 1, none⟩ = some (.int .i64 3) := by rw [hA2.cell]; rfl
        have a2 : w2.cell? ⟨w.heap.size, 2, none⟩ = some (.int .i64 oa) := by rw [hA12.cell]; rfl
        have b2 : w2.cell? ⟨w1.heap.size, 2, none⟩ = some (.int .i64 oa) := by rw [hA2.cell]; rfl
        clear hA1 hA2 hb1 hb2 hA12
        go_wp2_with fail
        go_ret
        exact ⟨rfl, hB2⟩
      · subst hj
        have e : depB ⟨ta, ka, oa⟩ ⟨tb, 4, oa⟩ = false := by
          simp only [beq_eq_false_iff_ne] at k1 k2 k3 k4; simp [depB, ht, k1, k2, k3, k4]
        rw [e]
        clear e
        go_enter Try.func49, Try.ntmps49
        go_wp2_with (first
          | ((with_reducible show wpList _ _ _ _ _ _); refine wpList_box_at (o := { dst := some 2, .. }) rfl 50 (.tmp 0) rfl [.int .i64 ta, .int .i64 ka, .int .i64 oa] rfl ?_; intro w1 hA1 hb1 hs1; clear hs1)
          | ((with_reducible show wpList _ _ _ _ _ _); refine wpList_box_at (o := { dst := some 3, .. }) rfl 50 (.tmp 1) rfl [.int .i64 tb, .int .i64 4, .int .i64 oa] rfl ?_; intro w2 hA2 hb2 hs2; clear hs2; refine Hid.out ?_))
        refine hidU ?_
        have hB2 := hb1.trans (hb2.mono hb1.size)
        have hA12 := hA1.below hb2
        have a0 : w2.cell? ⟨w.heap.size, 0, none⟩ = some (.int .i64 ta) := by rw [hA12.cell]; rfl
        have b0 : w2.cell? ⟨w1.heap.size, 0, none⟩ = some (.int .i64 tb) := by rw [hA2.cell]; rfl
        have a1 : w2.cell? ⟨w.heap.size, 1, none⟩ = some (.int .i64 ka) := by rw [hA12.cell]; rfl
        have b1 : w2.cell? ⟨w1.heap.size, 1, none⟩ = some (.int .i64 4) := by rw [hA2.cell]; rfl
        have a2 : w2.cell? ⟨w.heap.size, 2, none⟩ = some (.int .i64 oa) := by rw [hA12.cell]; rfl
        have b2 : w2.cell? ⟨w1.heap.size, 2, none⟩ = some (.int .i64 oa) := by rw [hA2.cell]; rfl
        clear hA1 hA2 hb1 hb2 hA12
        go_wp2_with fail
        go_ret
        exact ⟨rfl, hB2⟩
      · skip
        have e : depB ⟨ta, ka, oa⟩ ⟨tb, kb, oa⟩ = false := by
          simp only [beq_eq_false_iff_ne] at k1 k2 k3 k4; simp only [beq_eq_false_iff_ne] at j1 j2 j3 j4; simp [depB, ht, k1, k2, k3, k4, j1, j2, j3, j4]
        rw [e]
        clear e
        go_enter Try.func49, Try.ntmps49
        go_wp2_with (first
          | ((with_reducible show wpList _ _ _ _ _ _); refine wpList_box_at (o := { dst := some 2, .. }) rfl 50 (.tmp 0) rfl [.int .i64 ta, .int .i64 ka, .int .i64 oa] rfl ?_; intro w1 hA1 hb1 hs1; clear hs1)
          | ((with_reducible show wpList _ _ _ _ _ _); refine wpList_box_at (o := { dst := some 3, .. }) rfl 50 (.tmp 1) rfl [.int .i64 tb, .int .i64 kb, .int .i64 oa] rfl ?_; intro w2 hA2 hb2 hs2; clear hs2; refine Hid.out ?_))
        refine hidU ?_
        have hB2 := hb1.trans (hb2.mono hb1.size)
        have hA12 := hA1.below hb2
        have a0 : w2.cell? ⟨w.heap.size, 0, none⟩ = some (.int .i64 ta) := by rw [hA12.cell]; rfl
        have b0 : w2.cell? ⟨w1.heap.size, 0, none⟩ = some (.int .i64 tb) := by rw [hA2.cell]; rfl
        have a1 : w2.cell? ⟨w.heap.size, 1, none⟩ = some (.int .i64 ka) := by rw [hA12.cell]; rfl
        have b1 : w2.cell? ⟨w1.heap.size, 1, none⟩ = some (.int .i64 kb) := by rw [hA2.cell]; rfl
        have a2 : w2.cell? ⟨w.heap.size, 2, none⟩ = some (.int .i64 oa) := by rw [hA12.cell]; rfl
        have b2 : w2.cell? ⟨w1.heap.size, 2, none⟩ = some (.int .i64 oa) := by rw [hA2.cell]; rfl
        clear hA1 hA2 hb1 hb2 hA12
        go_wp2_with fail
        go_ret
        exact ⟨rfl, hB2⟩
  · have ho2 : (oa == ob) = false := by rw [beq_eq_false_iff_ne]; exact ho
    have e : depB ⟨ta, ka, oa⟩ ⟨tb, kb, ob⟩ = false := by simp [depB, ht, ho]
    rw [e]
    clear e
    go_enter Try.func49, Try.ntmps49
    go_wp2_with (first
      | ((with_reducible show wpList _ _ _ _ _ _); refine wpList_box_at (o := { dst := some 2, .. }) rfl 50 (.tmp 0) rfl [.int .i64 ta, .int .i64 ka, .int .i64 oa] rfl ?_; intro w1 hA1 hb1 hs1; clear hs1)
      | ((with_reducible show wpList _ _ _ _ _ _); refine wpList_box_at (o := { dst := some 3, .. }) rfl 50 (.tmp 1) rfl [.int .i64 tb, .int .i64 kb, .int .i64 ob] rfl ?_; intro w2 hA2 hb2 hs2; clear hs2; refine Hid.out ?_))
    refine hidU ?_
    have hB2 := hb1.trans (hb2.mono hb1.size)
    have hA12 := hA1.below hb2
    have a0 : w2.cell? ⟨w.heap.size, 0, none⟩ = some (.int .i64 ta) := by rw [hA12.cell]; rfl
    have b0 : w2.cell? ⟨w1.heap.size, 0, none⟩ = some (.int .i64 tb) := by rw [hA2.cell]; rfl
    have a1 : w2.cell? ⟨w.heap.size, 1, none⟩ = some (.int .i64 ka) := by rw [hA12.cell]; rfl
    have b1 : w2.cell? ⟨w1.heap.size, 1, none⟩ = some (.int .i64 kb) := by rw [hA2.cell]; rfl
    have a2 : w2.cell? ⟨w.heap.size, 2, none⟩ = some (.int .i64 oa) := by rw [hA12.cell]; rfl
    have b2 : w2.cell? ⟨w1.heap.size, 2, none⟩ = some (.int .i64 ob) := by rw [hA2.cell]; rfl
    clear hA1 hA2 hb1 hb2 hA12
    go_wp2_with fail
    go_ret
    exact ⟨rfl, hB2⟩
end Go.Proofs.Ytbamocalhojmeaa
