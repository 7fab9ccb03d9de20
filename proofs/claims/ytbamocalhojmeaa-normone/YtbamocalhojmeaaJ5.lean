/- Which events depend on one another: dep.Depends. -/
import Derived.Test.YtbamocalhojmeaaJ1
import Derived.Test.YtbamocalhojmeaaJ4
namespace Go.Proofs.Ytbamocalhojmeaa
open Go.RowKit
set_option linter.unusedVariables false

/-- Whether two events depend on one another. -/
def depB (a b : Ev) : Bool := decide (a.th = b.th) || (decide (a.ob = b.ob) && ((decide (a.kd = 3 ∨ a.kd = 4) && decide (b.kd = 3 ∨ b.kd = 4)) || ((decide (a.kd = 1 ∨ a.kd = 2) && decide (b.kd = 1 ∨ b.kd = 2)) && decide (a.kd = 2 ∨ b.kd = 2))))
theorem eq76 (a b c d : Int) (u : World) : (Op.equalIn 10000 74 (.agg #[.int .u8 a, .int .i64 b]) (.agg #[.int .u8 c, .int .i64 d])).run Try.prog u = .ok ((a == c) && (b == d)) u := by
  by_cases h1 : a = c
  · subst h1
    by_cases h2 : b = d
    · subst h2
      go_simp
    · have e2 : (b == d) = false := by rw [beq_eq_false_iff_ne]; exact h2
      go_simp
  · have e1 : (a == c) = false := by rw [beq_eq_false_iff_ne]; exact h1
    go_simp

set_option maxRecDepth 100000 in
theorem depends_same (ta ka oa tb kb ob : Int) (w : World) (ht : ta = tb) : Calls Try.prog 31 #[.agg #[.int .i64 ta, .int .i64 ka, .int .i64 oa], .agg #[.int .i64 tb, .int .i64 kb, .int .i64 ob]] w fun r w' => r = .returned (.bool true) ∧ Below w.heap.size w w' := by
  subst ht
  go_enter Try.func31, Try.ntmps31
  go_wp2_with (first
    | ((with_reducible show wpList _ _ _ _ _ _); refine wpList_box_at (o := { dst := some 2, .. }) rfl 50 (.tmp 0) rfl [.int .i64 ta, .int .i64 ka, .int .i64 oa] rfl ?_; intro w1 hA1 hb1 hs1; clear hs1)
    | ((with_reducible show wpList _ _ _ _ _ _); refine wpList_box_at (o := { dst := some 3, .. }) rfl 50 (.tmp 1) rfl [.int .i64 ta, .int .i64 kb, .int .i64 ob] rfl ?_; intro w2 hA2 hb2 hs2; clear hs2; refine Hid.out ?_))
  refine hidU ?_
  have hB2 := hb1.trans (hb2.mono hb1.size)
  have hA12 := hA1.below hb2
  have a0 : w2.cell? ⟨w.heap.size, 0, none⟩ = some (.int .i64 ta) := by rw [hA12.cell]; rfl
  have b0 : w2.cell? ⟨w1.heap.size, 0, none⟩ = some (.int .i64 ta) := by rw [hA2.cell]; rfl
  clear hA1 hA2 hb1 hb2 hA12
  go_wp2_with fail
  go_ret
  exact ⟨rfl, hB2⟩

set_option maxRecDepth 100000 in
set_option maxHeartbeats 3200000 in
theorem dependsA (ta ka oa tb kb ob : Int) (na nb xa xb : Nat) (ua ub O N : Int) (Z : Bool) (w : World) (hO : bits .or .u8 (xa : Int) (xb : Int) = O) (hN : bits .and .u8 O 28 = N) (hZ : (N != 0) = Z) (ht : (ta == tb) = false)
    (hE : ((na : Int) == (nb : Int) && ua == ub) = true)
    (HA : Hid (∀ u, Calls Try.prog 47 #[.agg #[.int .i64 ta, .int .i64 ka, .int .i64 oa]] u fun r w' => r = .returned (.agg #[.int .u8 (na : Int), .int .i64 ua]) ∧ Below u.heap.size u w'))
    (HB : Hid (∀ u, Calls Try.prog 47 #[.agg #[.int .i64 tb, .int .i64 kb, .int .i64 ob]] u fun r w' => r = .returned (.agg #[.int .u8 (nb : Int), .int .i64 ub]) ∧ Below u.heap.size u w'))
    (PA : Hid (∀ u, Calls Try.prog 48 #[.int .i64 ka] u fun r w' => r = .returned (.int .u8 (xa : Int)) ∧ Below u.heap.size u w'))
    (PB : Hid (∀ u, Calls Try.prog 48 #[.int .i64 kb] u fun r w' => r = .returned (.int .u8 (xb : Int)) ∧ Below u.heap.size u w')) :
    Calls Try.prog 31 #[.agg #[.int .i64 ta, .int .i64 ka, .int .i64 oa], .agg #[.int .i64 tb, .int .i64 kb, .int .i64 ob]] w fun r w' => r = .returned (.bool Z) ∧ Below w.heap.size w w' := by
  have hq := fun u => eq76 na ua nb ub u
  rw [hE] at hq
  clear hE
  go_enter Try.func31, Try.ntmps31
  go_wp2_with (first
    | ((with_reducible show wpList _ _ _ _ _ _); refine wpList_box_at (o := { dst := some 2, .. }) rfl 50 (.tmp 0) rfl [.int .i64 ta, .int .i64 ka, .int .i64 oa] rfl ?_; intro w1 hA1 hb1 hs1; clear hs1)
    | ((with_reducible show wpList _ _ _ _ _ _); refine wpList_box_at (o := { dst := some 3, .. }) rfl 50 (.tmp 1) rfl [.int .i64 tb, .int .i64 kb, .int .i64 ob] rfl ?_; intro w2 hA2 hb2 hs2; clear hs2; refine Hid.out ?_))
  refine hidU ?_
  have hB2 := hb1.trans (hb2.mono hb1.size)
  have hA12 := hA1.below hb2
  have a0 : w2.cell? ⟨w.heap.size, 0, none⟩ = some (.int .i64 ta) := by rw [hA12.cell]; rfl
  have a1 : w2.cell? ⟨w.heap.size, 1, none⟩ = some (.int .i64 ka) := by rw [hA12.cell]; rfl
  have a2 : w2.cell? ⟨w.heap.size, 2, none⟩ = some (.int .i64 oa) := by rw [hA12.cell]; rfl
  have b0 : w2.cell? ⟨w1.heap.size, 0, none⟩ = some (.int .i64 tb) := by rw [hA2.cell]; rfl
  have b1 : w2.cell? ⟨w1.heap.size, 1, none⟩ = some (.int .i64 kb) := by rw [hA2.cell]; rfl
  have b2 : w2.cell? ⟨w1.heap.size, 2, none⟩ = some (.int .i64 ob) := by rw [hA2.cell]; rfl
  clear hA1 hA2 hb1 hb2 hA12
  go_wp2_with fail
  · skip
    have hS0r : Below w2.heap.size w2 w2.drew := Below.drew (Below.refl _ _)
    refine wp_region_held_drew (S := fun xS => Below w2.heap.size w2 xS) (by kernel_rfl) hS0r ?_
    obtain ⟨x0r, hx0⟩ : ∃ x, x = w2.drew := ⟨_, rfl⟩
    rw [← hx0] at hS0r  ⊢
    clear hx0
    intro _
    refine wpAnyH_take (i := 0) (oi := { dst := some 10, op := .load 50 (.tmp 2), type := _, pos := _, after := _, guard := none }) (v := .agg #[.int .i64 ta, .int .i64 ka, .int .i64 oa]) rfl (by kernel_rfl) (by kernel_rfl) (by kernel_rfl) (fun _ _ _ h => h) (Or.inl ⟨by rfl, ?_⟩) hS0r ?_
    · intro wS hSw
      have z0 := (hSw.cell (lt_of_cell a0)).trans a0
      have z1 := (hSw.cell (lt_of_cell a1)).trans a1
      have z2 := (hSw.cell (lt_of_cell a2)).trans a2
      go_simp
    simp only [Act.put, List.setIfInBounds_toArray, List.set_cons_zero, List.set_cons_succ]
    refine wpAnyH_take (i := 2) (oi := { dst := some 12, op := .load 50 (.tmp 3), type := _, pos := _, after := _, guard := none }) (v := .agg #[.int .i64 tb, .int .i64 kb, .int .i64 ob]) rfl (by kernel_rfl) (by kernel_rfl) (by kernel_rfl) (fun _ _ _ h => h) (Or.inl ⟨by rfl, ?_⟩) hS0r ?_
    · intro wS hSw
      have z0 := (hSw.cell (lt_of_cell b0)).trans b0
      have z1 := (hSw.cell (lt_of_cell b1)).trans b1
      have z2 := (hSw.cell (lt_of_cell b2)).trans b2
      go_simp
    simp only [Act.put, List.setIfInBounds_toArray, List.set_cons_zero, List.set_cons_succ]
    refine wpAnyH_ready (rs := [1]) (by kernel_rfl) (by simp) ?_
    refine AllReadyH.cons (o := { dst := some 11, op := .call { callee := .value (.func 47), args := #[.tmp 10], argTypes := #[50] }, type := _, pos := _, after := _, guard := none }) rfl (fun K hK => ?_) AllReadyH.nil
    rw [if_pos (by rfl)]
    have sv1r := hS0r.size
    go_wp2_with (go_at_call 47; refine (HA.out _).mono ?_; rintro e x1r ⟨rfl, hb1r⟩)
    have sz1r := hb1r.size
    have hS1r := hS0r.trans (hb1r.mono hS0r.size)
    refine hK.out _ _ hS1r (fun _ => ?_)
    clear hK K
    refine wpAnyH_ready (rs := [3]) (by kernel_rfl) (by simp) ?_
    refine AllReadyH.cons (o := { dst := some 13, op := .call { callee := .value (.func 47), args := #[.tmp 12], argTypes := #[50] }, type := _, pos := _, after := _, guard := none }) rfl (fun K hK => ?_) AllReadyH.nil
    rw [if_pos (by rfl)]
    have sv2r := hS1r.size
    go_wp2_with (go_at_call 47; refine (HB.out _).mono ?_; rintro e x2r ⟨rfl, hb2r⟩)
    have sz2r := hb2r.size
    have hS2r := hS1r.trans (hb2r.mono hS1r.size)
    refine hK.out _ _ hS2r (fun _ => ?_)
    clear hK K
    refine wpAnyH_take (i := 4) (oi := { dst := some 14, op := .binOp .eql 74 (.tmp 11) (.tmp 13) 74, type := _, pos := _, after := _, guard := none }) (v := .bool true) rfl (by kernel_rfl) (by kernel_rfl) (by kernel_rfl) (fun _ _ _ h => h) (Or.inl ⟨by rfl, ?_⟩) hS2r ?_
    · intro wS hSw
      go_simp
    simp only [Act.put, List.setIfInBounds_toArray, List.set_cons_zero, List.set_cons_succ]
    refine wpAnyH_take (i := 5) (oi := { dst := some 15, op := .move (.tmp 14), type := _, pos := _, after := _, guard := none }) (v := .bool true) rfl (by kernel_rfl) (by kernel_rfl) (by kernel_rfl) (fun _ _ _ h => h) (Or.inl ⟨by rfl, ?_⟩) hS2r ?_
    · intro wS hSw
      go_simp
    simp only [Act.put, List.setIfInBounds_toArray, List.set_cons_zero, List.set_cons_succ]
    refine wpAnyH_take (i := 6) (oi := { dst := some 16, op := .fieldAddr 50 (.tmp 2) 1, type := _, pos := _, after := _, guard := some (5, true) }) (v := .pointer (some ⟨w.heap.size, 1, none⟩)) rfl (by kernel_rfl) (by kernel_rfl) (by kernel_rfl) (fun _ _ _ h => h) (Or.inl ⟨by rfl, ?_⟩) hS2r ?_
    · intro wS hSw
      go_simp
    simp only [Act.put, List.setIfInBounds_toArray, List.set_cons_zero, List.set_cons_succ]
    refine wpAnyH_take (i := 7) (oi := { dst := some 17, op := .load 3 (.tmp 16), type := _, pos := _, after := _, guard := some (5, true) }) (v := .int .i64 ka) rfl (by kernel_rfl) (by kernel_rfl) (by kernel_rfl) (fun _ _ _ h => h) (Or.inl ⟨by rfl, ?_⟩) hS2r ?_
    · intro wS hSw
      have z0 := (hSw.cell (lt_of_cell a1)).trans a1
      go_simp
    simp only [Act.put, List.setIfInBounds_toArray, List.set_cons_zero, List.set_cons_succ]
    refine wpAnyH_take (i := 9) (oi := { dst := some 19, op := .fieldAddr 50 (.tmp 3) 1, type := _, pos := _, after := _, guard := some (5, true) }) (v := .pointer (some ⟨w1.heap.size, 1, none⟩)) rfl (by kernel_rfl) (by kernel_rfl) (by kernel_rfl) (fun _ _ _ h => h) (Or.inl ⟨by rfl, ?_⟩) hS2r ?_
    · intro wS hSw
      go_simp
    simp only [Act.put, List.setIfInBounds_toArray, List.set_cons_zero, List.set_cons_succ]
    refine wpAnyH_take (i := 10) (oi := { dst := some 20, op := .load 3 (.tmp 19), type := _, pos := _, after := _, guard := some (5, true) }) (v := .int .i64 kb) rfl (by kernel_rfl) (by kernel_rfl) (by kernel_rfl) (fun _ _ _ h => h) (Or.inl ⟨by rfl, ?_⟩) hS2r ?_
    · intro wS hSw
      have z0 := (hSw.cell (lt_of_cell b1)).trans b1
      go_simp
    simp only [Act.put, List.setIfInBounds_toArray, List.set_cons_zero, List.set_cons_succ]
    refine wpAnyH_ready (rs := [8]) (by kernel_rfl) (by simp) ?_
    refine AllReadyH.cons (o := { dst := some 18, op := .call { callee := .value (.func 48), args := #[.tmp 17], argTypes := #[3] }, type := _, pos := _, after := _, guard := some (5, true) }) rfl (fun K hK => ?_) AllReadyH.nil
    rw [if_pos (by rfl)]
    have sv3r := hS2r.size
    go_wp2_with (go_at_call 48; refine (PA.out _).mono ?_; rintro e x3r ⟨rfl, hb3r⟩)
    have sz3r := hb3r.size
    have hS3r := hS2r.trans (hb3r.mono hS2r.size)
    refine hK.out _ _ hS3r (fun _ => ?_)
    clear hK K
    refine wpAnyH_ready (rs := [11]) (by kernel_rfl) (by simp) ?_
    refine AllReadyH.cons (o := { dst := some 21, op := .call { callee := .value (.func 48), args := #[.tmp 20], argTypes := #[3] }, type := _, pos := _, after := _, guard := some (5, true) }) rfl (fun K hK => ?_) AllReadyH.nil
    rw [if_pos (by rfl)]
    have sv4r := hS3r.size
    go_wp2_with (go_at_call 48; refine (PB.out _).mono ?_; rintro e x4r ⟨rfl, hb4r⟩)
    have sz4r := hb4r.size
    have hS4r := hS3r.trans (hb4r.mono hS3r.size)
    refine hK.out _ _ hS4r (fun _ => ?_)
    clear hK K
    refine wpAnyH_take (i := 12) (oi := { dst := some 22, op := .binOp .or 72 (.tmp 18) (.tmp 21) 72, type := _, pos := _, after := _, guard := some (5, true) }) (v := .int .u8 O) rfl (by kernel_rfl) (by kernel_rfl) (by kernel_rfl) (fun _ _ _ h => h) (Or.inl ⟨by rfl, ?_⟩) hS4r ?_
    · intro wS hSw
      go_simp
    simp only [Act.put, List.setIfInBounds_toArray, List.set_cons_zero, List.set_cons_succ]
    refine wpAnyH_take (i := 13) (oi := { dst := some 23, op := .binOp .and 72 (.tmp 22) (.const (.int .u8 28)) 72, type := _, pos := _, after := _, guard := some (5, true) }) (v := .int .u8 N) rfl (by kernel_rfl) (by kernel_rfl) (by kernel_rfl) (fun _ _ _ h => h) (Or.inl ⟨by rfl, ?_⟩) hS4r ?_
    · intro wS hSw
      go_simp
    simp only [Act.put, List.setIfInBounds_toArray, List.set_cons_zero, List.set_cons_succ]
    refine wpAnyH_take (i := 14) (oi := { dst := some 24, op := .binOp .neq 72 (.tmp 23) (.const (.int .u8 0)) 72, type := _, pos := _, after := _, guard := some (5, true) }) (v := .bool (Z)) rfl (by kernel_rfl) (by kernel_rfl) (by kernel_rfl) (fun _ _ _ h => h) (Or.inl ⟨by rfl, ?_⟩) hS4r ?_
    · intro wS hSw
      go_simp
    simp only [Act.put, List.setIfInBounds_toArray, List.set_cons_zero, List.set_cons_succ]
    refine wpAnyH_take (i := 15) (oi := { dst := some 25, op := .pick (.tmp 15) (.tmp 24) (.const (.bool false)), type := _, pos := _, after := _, guard := none }) (v := .bool (Z)) rfl (by kernel_rfl) (by kernel_rfl) (by kernel_rfl) (fun _ _ _ h => h) (Or.inl ⟨by rfl, ?_⟩) hS4r ?_
    · intro wS hSw
      go_simp
    simp only [Act.put, List.setIfInBounds_toArray, List.set_cons_zero, List.set_cons_succ]
    refine wpAnyH_take (i := 16) (oi := { dst := some 4, op := .assign (.tmp 25), type := _, pos := _, after := _, guard := none }) (v := .bool (Z)) rfl (by kernel_rfl) (by kernel_rfl) (by kernel_rfl) (fun _ _ _ h => h) (Or.inl ⟨by rfl, ?_⟩) hS4r ?_
    · intro wS hSw
      go_simp
    simp only [Act.put, List.setIfInBounds_toArray, List.set_cons_zero, List.set_cons_succ]
    refine wpAnyH_done (by kernel_rfl) ?_ _
    go_wp2_with fail
    go_ret
    exact ⟨rfl, hB2.trans (hS4r.mono hB2.size)⟩
set_option maxRecDepth 100000 in
set_option maxHeartbeats 3200000 in
theorem dependsF (ta ka oa tb kb ob : Int) (na nb xa xb : Nat) (ua ub : Int) (w : World) (ht : (ta == tb) = false)
    (hE : ((na : Int) == (nb : Int) && ua == ub) = false)
    (HA : Hid (∀ u, Calls Try.prog 47 #[.agg #[.int .i64 ta, .int .i64 ka, .int .i64 oa]] u fun r w' => r = .returned (.agg #[.int .u8 (na : Int), .int .i64 ua]) ∧ Below u.heap.size u w'))
    (HB : Hid (∀ u, Calls Try.prog 47 #[.agg #[.int .i64 tb, .int .i64 kb, .int .i64 ob]] u fun r w' => r = .returned (.agg #[.int .u8 (nb : Int), .int .i64 ub]) ∧ Below u.heap.size u w'))
    (PA : Hid (∀ u, Calls Try.prog 48 #[.int .i64 ka] u fun r w' => r = .returned (.int .u8 (xa : Int)) ∧ Below u.heap.size u w'))
    (PB : Hid (∀ u, Calls Try.prog 48 #[.int .i64 kb] u fun r w' => r = .returned (.int .u8 (xb : Int)) ∧ Below u.heap.size u w')) :
    Calls Try.prog 31 #[.agg #[.int .i64 ta, .int .i64 ka, .int .i64 oa], .agg #[.int .i64 tb, .int .i64 kb, .int .i64 ob]] w fun r w' => r = .returned (.bool false) ∧ Below w.heap.size w w' := by
  have hq := fun u => eq76 na ua nb ub u
  rw [hE] at hq
  clear hE
  go_enter Try.func31, Try.ntmps31
  go_wp2_with (first
    | ((with_reducible show wpList _ _ _ _ _ _); refine wpList_box_at (o := { dst := some 2, .. }) rfl 50 (.tmp 0) rfl [.int .i64 ta, .int .i64 ka, .int .i64 oa] rfl ?_; intro w1 hA1 hb1 hs1; clear hs1)
    | ((with_reducible show wpList _ _ _ _ _ _); refine wpList_box_at (o := { dst := some 3, .. }) rfl 50 (.tmp 1) rfl [.int .i64 tb, .int .i64 kb, .int .i64 ob] rfl ?_; intro w2 hA2 hb2 hs2; clear hs2; refine Hid.out ?_))
  refine hidU ?_
  have hB2 := hb1.trans (hb2.mono hb1.size)
  have hA12 := hA1.below hb2
  have a0 : w2.cell? ⟨w.heap.size, 0, none⟩ = some (.int .i64 ta) := by rw [hA12.cell]; rfl
  have a1 : w2.cell? ⟨w.heap.size, 1, none⟩ = some (.int .i64 ka) := by rw [hA12.cell]; rfl
  have a2 : w2.cell? ⟨w.heap.size, 2, none⟩ = some (.int .i64 oa) := by rw [hA12.cell]; rfl
  have b0 : w2.cell? ⟨w1.heap.size, 0, none⟩ = some (.int .i64 tb) := by rw [hA2.cell]; rfl
  have b1 : w2.cell? ⟨w1.heap.size, 1, none⟩ = some (.int .i64 kb) := by rw [hA2.cell]; rfl
  have b2 : w2.cell? ⟨w1.heap.size, 2, none⟩ = some (.int .i64 ob) := by rw [hA2.cell]; rfl
  clear hA1 hA2 hb1 hb2 hA12
  go_wp2_with fail
  · skip
    have hS0r : Below w2.heap.size w2 w2.drew := Below.drew (Below.refl _ _)
    refine wp_region_held_drew (S := fun xS => Below w2.heap.size w2 xS) (by kernel_rfl) hS0r ?_
    obtain ⟨x0r, hx0⟩ : ∃ x, x = w2.drew := ⟨_, rfl⟩
    rw [← hx0] at hS0r  ⊢
    clear hx0
    intro _
    refine wpAnyH_take (i := 0) (oi := { dst := some 10, op := .load 50 (.tmp 2), type := _, pos := _, after := _, guard := none }) (v := .agg #[.int .i64 ta, .int .i64 ka, .int .i64 oa]) rfl (by kernel_rfl) (by kernel_rfl) (by kernel_rfl) (fun _ _ _ h => h) (Or.inl ⟨by rfl, ?_⟩) hS0r ?_
    · intro wS hSw
      have z0 := (hSw.cell (lt_of_cell a0)).trans a0
      have z1 := (hSw.cell (lt_of_cell a1)).trans a1
      have z2 := (hSw.cell (lt_of_cell a2)).trans a2
      go_simp
    simp only [Act.put, List.setIfInBounds_toArray, List.set_cons_zero, List.set_cons_succ]
    refine wpAnyH_take (i := 2) (oi := { dst := some 12, op := .load 50 (.tmp 3), type := _, pos := _, after := _, guard := none }) (v := .agg #[.int .i64 tb, .int .i64 kb, .int .i64 ob]) rfl (by kernel_rfl) (by kernel_rfl) (by kernel_rfl) (fun _ _ _ h => h) (Or.inl ⟨by rfl, ?_⟩) hS0r ?_
    · intro wS hSw
      have z0 := (hSw.cell (lt_of_cell b0)).trans b0
      have z1 := (hSw.cell (lt_of_cell b1)).trans b1
      have z2 := (hSw.cell (lt_of_cell b2)).trans b2
      go_simp
    simp only [Act.put, List.setIfInBounds_toArray, List.set_cons_zero, List.set_cons_succ]
    refine wpAnyH_ready (rs := [1]) (by kernel_rfl) (by simp) ?_
    refine AllReadyH.cons (o := { dst := some 11, op := .call { callee := .value (.func 47), args := #[.tmp 10], argTypes := #[50] }, type := _, pos := _, after := _, guard := none }) rfl (fun K hK => ?_) AllReadyH.nil
    rw [if_pos (by rfl)]
    have sv1r := hS0r.size
    go_wp2_with (go_at_call 47; refine (HA.out _).mono ?_; rintro e x1r ⟨rfl, hb1r⟩)
    have sz1r := hb1r.size
    have hS1r := hS0r.trans (hb1r.mono hS0r.size)
    refine hK.out _ _ hS1r (fun _ => ?_)
    clear hK K
    refine wpAnyH_ready (rs := [3]) (by kernel_rfl) (by simp) ?_
    refine AllReadyH.cons (o := { dst := some 13, op := .call { callee := .value (.func 47), args := #[.tmp 12], argTypes := #[50] }, type := _, pos := _, after := _, guard := none }) rfl (fun K hK => ?_) AllReadyH.nil
    rw [if_pos (by rfl)]
    have sv2r := hS1r.size
    go_wp2_with (go_at_call 47; refine (HB.out _).mono ?_; rintro e x2r ⟨rfl, hb2r⟩)
    have sz2r := hb2r.size
    have hS2r := hS1r.trans (hb2r.mono hS1r.size)
    refine hK.out _ _ hS2r (fun _ => ?_)
    clear hK K
    refine wpAnyH_take (i := 4) (oi := { dst := some 14, op := .binOp .eql 74 (.tmp 11) (.tmp 13) 74, type := _, pos := _, after := _, guard := none }) (v := .bool false) rfl (by kernel_rfl) (by kernel_rfl) (by kernel_rfl) (fun _ _ _ h => h) (Or.inl ⟨by rfl, ?_⟩) hS2r ?_
    · intro wS hSw
      go_simp
    simp only [Act.put, List.setIfInBounds_toArray, List.set_cons_zero, List.set_cons_succ]
    refine wpAnyH_take (i := 5) (oi := { dst := some 15, op := .move (.tmp 14), type := _, pos := _, after := _, guard := none }) (v := .bool false) rfl (by kernel_rfl) (by kernel_rfl) (by kernel_rfl) (fun _ _ _ h => h) (Or.inl ⟨by rfl, ?_⟩) hS2r ?_
    · intro wS hSw
      go_simp
    simp only [Act.put, List.setIfInBounds_toArray, List.set_cons_zero, List.set_cons_succ]
    refine wpAnyH_take (i := 6) (oi := { dst := some 16, op := .fieldAddr 50 (.tmp 2) 1, type := _, pos := _, after := _, guard := some (5, true) }) (v := undef) rfl (by kernel_rfl) (by kernel_rfl) (by kernel_rfl) (fun _ _ _ h => h) (Or.inr ⟨by rfl, rfl⟩) hS2r ?_
    simp only [Act.put, List.setIfInBounds_toArray, List.set_cons_zero, List.set_cons_succ]
    refine wpAnyH_take (i := 7) (oi := { dst := some 17, op := .load 3 (.tmp 16), type := _, pos := _, after := _, guard := some (5, true) }) (v := undef) rfl (by kernel_rfl) (by kernel_rfl) (by kernel_rfl) (fun _ _ _ h => h) (Or.inr ⟨by rfl, rfl⟩) hS2r ?_
    simp only [Act.put, List.setIfInBounds_toArray, List.set_cons_zero, List.set_cons_succ]
    refine wpAnyH_take (i := 8) (oi := { dst := some 18, op := .call { callee := .value (.func 48), args := #[.tmp 17], argTypes := #[3] }, type := _, pos := _, after := _, guard := some (5, true) }) (v := undef) rfl (by kernel_rfl) (by kernel_rfl) (by kernel_rfl) (fun _ _ _ h => h) (Or.inr ⟨by rfl, rfl⟩) hS2r ?_
    simp only [Act.put, List.setIfInBounds_toArray, List.set_cons_zero, List.set_cons_succ]
    refine wpAnyH_take (i := 9) (oi := { dst := some 19, op := .fieldAddr 50 (.tmp 3) 1, type := _, pos := _, after := _, guard := some (5, true) }) (v := undef) rfl (by kernel_rfl) (by kernel_rfl) (by kernel_rfl) (fun _ _ _ h => h) (Or.inr ⟨by rfl, rfl⟩) hS2r ?_
    simp only [Act.put, List.setIfInBounds_toArray, List.set_cons_zero, List.set_cons_succ]
    refine wpAnyH_take (i := 10) (oi := { dst := some 20, op := .load 3 (.tmp 19), type := _, pos := _, after := _, guard := some (5, true) }) (v := undef) rfl (by kernel_rfl) (by kernel_rfl) (by kernel_rfl) (fun _ _ _ h => h) (Or.inr ⟨by rfl, rfl⟩) hS2r ?_
    simp only [Act.put, List.setIfInBounds_toArray, List.set_cons_zero, List.set_cons_succ]
    refine wpAnyH_take (i := 11) (oi := { dst := some 21, op := .call { callee := .value (.func 48), args := #[.tmp 20], argTypes := #[3] }, type := _, pos := _, after := _, guard := some (5, true) }) (v := undef) rfl (by kernel_rfl) (by kernel_rfl) (by kernel_rfl) (fun _ _ _ h => h) (Or.inr ⟨by rfl, rfl⟩) hS2r ?_
    simp only [Act.put, List.setIfInBounds_toArray, List.set_cons_zero, List.set_cons_succ]
    refine wpAnyH_take (i := 12) (oi := { dst := some 22, op := .binOp .or 72 (.tmp 18) (.tmp 21) 72, type := _, pos := _, after := _, guard := some (5, true) }) (v := undef) rfl (by kernel_rfl) (by kernel_rfl) (by kernel_rfl) (fun _ _ _ h => h) (Or.inr ⟨by rfl, rfl⟩) hS2r ?_
    simp only [Act.put, List.setIfInBounds_toArray, List.set_cons_zero, List.set_cons_succ]
    refine wpAnyH_take (i := 13) (oi := { dst := some 23, op := .binOp .and 72 (.tmp 22) (.const (.int .u8 28)) 72, type := _, pos := _, after := _, guard := some (5, true) }) (v := undef) rfl (by kernel_rfl) (by kernel_rfl) (by kernel_rfl) (fun _ _ _ h => h) (Or.inr ⟨by rfl, rfl⟩) hS2r ?_
    simp only [Act.put, List.setIfInBounds_toArray, List.set_cons_zero, List.set_cons_succ]
    refine wpAnyH_take (i := 14) (oi := { dst := some 24, op := .binOp .neq 72 (.tmp 23) (.const (.int .u8 0)) 72, type := _, pos := _, after := _, guard := some (5, true) }) (v := undef) rfl (by kernel_rfl) (by kernel_rfl) (by kernel_rfl) (fun _ _ _ h => h) (Or.inr ⟨by rfl, rfl⟩) hS2r ?_
    simp only [Act.put, List.setIfInBounds_toArray, List.set_cons_zero, List.set_cons_succ]
    refine wpAnyH_take (i := 15) (oi := { dst := some 25, op := .pick (.tmp 15) (.tmp 24) (.const (.bool false)), type := _, pos := _, after := _, guard := none }) (v := .bool false) rfl (by kernel_rfl) (by kernel_rfl) (by kernel_rfl) (fun _ _ _ h => h) (Or.inl ⟨by rfl, ?_⟩) hS2r ?_
    · intro wS hSw
      go_simp
    simp only [Act.put, List.setIfInBounds_toArray, List.set_cons_zero, List.set_cons_succ]
    refine wpAnyH_take (i := 16) (oi := { dst := some 4, op := .assign (.tmp 25), type := _, pos := _, after := _, guard := none }) (v := .bool false) rfl (by kernel_rfl) (by kernel_rfl) (by kernel_rfl) (fun _ _ _ h => h) (Or.inl ⟨by rfl, ?_⟩) hS2r ?_
    · intro wS hSw
      go_simp
    simp only [Act.put, List.setIfInBounds_toArray, List.set_cons_zero, List.set_cons_succ]
    refine wpAnyH_done (by kernel_rfl) ?_ _
    go_wp2_with fail
    go_ret
    exact ⟨rfl, hB2.trans (hS2r.mono hB2.size)⟩

/-- The bits of two kinds, put together. -/
theorem bits_or (k j : Int) : ∃ O N : Int, bits .or .u8 (bitN k : Int) (bitN j : Int) = O ∧ bits .and .u8 O 28 = N ∧ (N != 0) = (decide (k = 2 ∨ k = 3 ∨ k = 4) || decide (j = 2 ∨ j = 3 ∨ j = 4)) := by
  refine ⟨_, _, rfl, rfl, ?_⟩
  have dk : ∀ k : Int, ∃ b : Bool, decide (k = 2 ∨ k = 3 ∨ k = 4) = b ∧ ((b = true ∧ (bitN k = 4 ∨ bitN k = 8 ∨ bitN k = 16)) ∨ (b = false ∧ (bitN k = 0 ∨ bitN k = 1 ∨ bitN k = 2 ∨ bitN k = 32 ∨ bitN k = 64 ∨ bitN k = 128))) := by
    intro k
    rcases bit_cases k with ⟨h, rfl⟩ | ⟨h, rfl⟩ | ⟨h, rfl⟩ | ⟨h, rfl⟩ | ⟨h, h1, h2, h3, h4⟩
    · exact ⟨false, by decide, .inr ⟨rfl, by omega⟩⟩
    · exact ⟨true, by decide, .inl ⟨rfl, by omega⟩⟩
    · exact ⟨true, by decide, .inl ⟨rfl, by omega⟩⟩
    · exact ⟨true, by decide, .inl ⟨rfl, by omega⟩⟩
    · exact ⟨false, decide_eq_false (by omega), .inr ⟨rfl, by omega⟩⟩
  obtain ⟨b, hb, h⟩ := dk k
  obtain ⟨c, hc, g⟩ := dk j
  rw [hb, hc]
  generalize bitN k = x at *
  generalize bitN j = y at *
  rcases h with ⟨rfl, rfl | rfl | rfl⟩ | ⟨rfl, rfl | rfl | rfl | rfl | rfl | rfl⟩ <;> rcases g with ⟨rfl, rfl | rfl | rfl⟩ | ⟨rfl, rfl | rfl | rfl | rfl | rfl | rfl⟩ <;> decide

theorem depB_eq (a b : Ev) (ht : a.th ≠ b.th) : depB a b = ((((tchd a).1 : Int) == ((tchd b).1 : Int) && (tchd a).2 == (tchd b).2) && (decide (a.kd = 2 ∨ a.kd = 3 ∨ a.kd = 4) || decide (b.kd = 2 ∨ b.kd = 3 ∨ b.kd = 4))) := by
  obtain ⟨ta, ka, oa⟩ := a
  obtain ⟨tb, kb, ob⟩ := b
  have ht : ¬ ta = tb := ht
  have ht2 : decide (ta = tb) = false := decide_eq_false ht
  unfold depB tchd
  dsimp only
  rw [ht2]
  by_cases a1 : ka = 1 ∨ ka = 2 <;> by_cases a3 : ka = 3 ∨ ka = 4 <;> by_cases b1 : kb = 1 ∨ kb = 2 <;> by_cases b3 : kb = 3 ∨ kb = 4 <;> first
    | (exfalso; omega)
    | (rw [Bool.eq_iff_iff]; simp [a1, a3, b1, b3]; done)
    | (rw [Bool.eq_iff_iff]; simp [a1, a3, b1, b3]; omega)
    | (rw [Bool.eq_iff_iff]; simp [a1, a3, b1, b3]; intro; omega)

theorem depends_any (a b : Ev) (ha : a.ok) (hb : b.ok) (w : World) : Calls Try.prog 31 #[.agg a.cells.toArray, .agg b.cells.toArray] w fun r w' => r = .returned (.bool (depB a b)) ∧ Below w.heap.size w w' := by
  have HA := fun u => touched_any a ha u
  have HB := fun u => touched_any b hb u
  have PA := fun u => bitOf_any a.kd ha.2.1.1 ha.2.1.2 u
  have PB := fun u => bitOf_any b.kd hb.2.1.1 hb.2.1.2 u
  have PA' : ∀ u, Calls Try.prog 48 #[.int .i64 a.kd] u fun r w' => r = .returned (.int .u8 (bitN a.kd : Int)) ∧ Below u.heap.size u w' := fun u => (PA u).mono fun r w' ⟨h1, h2⟩ => ⟨h1, h2 ▸ Below.refl _ _⟩
  have PB' : ∀ u, Calls Try.prog 48 #[.int .i64 b.kd] u fun r w' => r = .returned (.int .u8 (bitN b.kd : Int)) ∧ Below u.heap.size u w' := fun u => (PB u).mono fun r w' ⟨h1, h2⟩ => ⟨h1, h2 ▸ Below.refl _ _⟩
  by_cases ht : a.th = b.th
  · have e : depB a b = true := by unfold depB; rw [decide_eq_true ht]; rfl
    rw [e]
    exact depends_same a.th a.kd a.ob b.th b.kd b.ob w ht
  · rw [depB_eq a b ht]
    have ht' : (a.th == b.th) = false := by rw [beq_eq_false_iff_ne]; exact ht
    obtain ⟨O, N, hO, hN, hZ⟩ := bits_or a.kd b.kd
    cases hE : (((tchd a).1 : Int) == ((tchd b).1 : Int) && (tchd a).2 == (tchd b).2) with
    | true =>
      rw [Bool.true_and]
      exact dependsA a.th a.kd a.ob b.th b.kd b.ob _ _ _ _ _ _ O N _ w hO hN hZ ht' hE HA HB PA' PB'
    | false =>
      rw [Bool.false_and]
      exact dependsF a.th a.kd a.ob b.th b.kd b.ob _ _ _ _ _ _ w ht' hE HA HB PA' PB'
end Go.Proofs.Ytbamocalhojmeaa
