/- Joined texts of the proof. -/
import Derived.Test.YtcmahiphfpgadaaGreatDoorJ21
import Derived.Test.YtcmahiphfpgadaaGreatDoorJ14
import Derived.Test.YtcmahiphfpgadaaGreatDoorJ15

/- What the statement's comparing does. -/
namespace Go.Proofs.YtcmahiphfpgadaaGreatDoor
open Go.RowKit
set_option linter.unusedVariables false

theorem ex_cells5 {w : World} {g : Nat} {s1 s2 s3 s4 s5 : Value} (h : At 34 w g [s1, s2, s3, s4, s5]) : w.cell? ⟨g, 0, none⟩ = some s1 ∧ w.cell? ⟨g, 1, none⟩ = some s2 ∧ w.cell? ⟨g, 2, none⟩ = some s3 ∧ w.cell? ⟨g, 3, none⟩ = some s4 ∧ w.cell? ⟨g, 4, none⟩ = some s5 := by
  refine ⟨?_, ?_, ?_, ?_, ?_⟩ <;> (rw [h.cell]; rfl)

set_option maxRecDepth 100000 in
set_option maxHeartbeats 12800000 in
theorem copies_four (p1 p2 p3 q1 q2 q3 e1 e2 e3 e4 e5 a1 a2 a3 b1 b2 b3 : Value) (w w1 w2 x0 : World) (ga gb : Nat) (Z : Bool) (h n : Nat) (u10 u11 u12 u13 u14 u15 u16 u17 u18 u19 u20 : Value) (HS : Hid (∀ u, Below x0.heap.size x0 u → At 26 u w.heap.size [p1, p2, p3] ∧ At 26 u w1.heap.size [q1, q2, q3] ∧ At 34 u w2.heap.size [e1, e2, e3, e4, e5] ∧ At 26 u ga [a1, a2, a3] ∧ At 26 u gb [b1, b2, b3]))
    (C19 : Hid (∀ u, Below x0.heap.size x0 u → Calls Tryz.prog 19 #[.agg #[a1, a2, a3], .agg #[b1, b2, b3]] u fun r w' => r = .returned (.bool Z) ∧ Below u.heap.size u w')) (C16 : Hid (∀ u, Below x0.heap.size x0 u → Calls Tryz.prog 16 #[.agg #[p1, p2, p3], .agg #[q1, q2, q3]] u fun r w' => r = .returned (.bool Z) ∧ Below u.heap.size u w'))
    (C20 : Hid (∀ u, Below x0.heap.size x0 u → Calls Tryz.prog 20 #[.agg #[e1, e2, e3, e4, e5]] u fun r w' => r = .returned (.int .i64 (h : Int)) ∧ Below u.heap.size u w')) (C21 : Hid (∀ u, Below x0.heap.size x0 u → Calls Tryz.prog 21 #[.agg #[e1, e2, e3, e4, e5]] u fun r w' => r = .returned (.int .i64 (h : Int)) ∧ Below u.heap.size u w'))
    (C22 : Hid (∀ u, Below x0.heap.size x0 u → Calls Tryz.prog 22 #[.agg #[a1, a2, a3]] u fun r w' => r = .returned (.int .i64 (n : Int)) ∧ Below u.heap.size u w')) (C23 : Hid (∀ u, Below x0.heap.size x0 u → Calls Tryz.prog 23 #[.agg #[p1, p2, p3]] u fun r w' => r = .returned (.int .i64 (n : Int)) ∧ Below u.heap.size u w')) (ops : Array Oper)
    (hops : ops = #[{ dst := some 25, op := Op.load 26 (Operand.tmp 7), type := 26, pos := "law.go:57", after := #[], guard := none }, { dst := some 26, op := Op.load 26 (Operand.tmp 8), type := 26, pos := "law.go:57", after := #[], guard := none }, { dst := some 27, op := Op.call { callee := Callee.value (Operand.func 19), args := #[Operand.tmp 25, Operand.tmp 26], argTypes := #[26, 26] }, type := 4, pos := "law.go:57", after := #[{ on := 0, ground := Ground.data }, { on := 1, ground := Ground.data }], guard := none }, { dst := some 28, op := Op.load 26 (Operand.tmp 3), type := 26, pos := "law.go:57", after := #[], guard := none }, { dst := some 29, op := Op.load 26 (Operand.tmp 4), type := 26, pos := "law.go:57", after := #[], guard := none }, { dst := some 30, op := Op.call { callee := Callee.value (Operand.func 16), args := #[Operand.tmp 28, Operand.tmp 29], argTypes := #[26, 26] }, type := 4, pos := "law.go:57", after := #[{ on := 3, ground := Ground.data }, { on := 4, ground := Ground.data }, { on := 2, ground := Ground.chain }], guard := none }, { dst := some 31, op := Op.binOp BinOp.neq 4 (Operand.tmp 27) (Operand.tmp 30) 4, type := 4, pos := "law.go:57", after := #[{ on := 2, ground := Ground.data }, { on := 5, ground := Ground.data }], guard := none }, { dst := some 32, op := Op.move (Operand.tmp 31), type := 4, pos := "law.go:57", after := #[{ on := 6, ground := Ground.data }, { on := 5, ground := Ground.chain }], guard := none }, { dst := some 33, op := Op.load 34 (Operand.tmp 5), type := 34, pos := "law.go:57", after := #[{ on := 7, ground := Ground.guard }], guard := some (7, false) }, { dst := some 34, op := Op.call { callee := Callee.value (Operand.func 20), args := #[Operand.tmp 33], argTypes := #[34] }, type := 3, pos := "law.go:57", after := #[{ on := 8, ground := Ground.data }, { on := 7, ground := Ground.chain }, { on := 7, ground := Ground.guard }], guard := some (7, false) }, { dst := some 35, op := Op.load 34 (Operand.tmp 5), type := 34, pos := "law.go:57", after := #[{ on := 7, ground := Ground.guard }], guard := some (7, false) }, { dst := some 36, op := Op.call { callee := Callee.value (Operand.func 21), args := #[Operand.tmp 35], argTypes := #[34] }, type := 3, pos := "law.go:57", after := #[{ on := 10, ground := Ground.data }, { on := 9, ground := Ground.chain }, { on := 7, ground := Ground.guard }], guard := some (7, false) }, { dst := some 37, op := Op.binOp BinOp.neq 3 (Operand.tmp 34) (Operand.tmp 36) 3, type := 4, pos := "law.go:57", after := #[{ on := 9, ground := Ground.data }, { on := 11, ground := Ground.data }, { on := 7, ground := Ground.guard }], guard := some (7, false) }, { dst := some 38, op := Op.pick (Operand.tmp 32) (Operand.const (Value.bool true)) (Operand.tmp 37), type := 4, pos := "law.go:57", after := #[{ on := 7, ground := Ground.data }, { on := 12, ground := Ground.data }], guard := none }, { dst := some 39, op := Op.move (Operand.tmp 38), type := 4, pos := "law.go:57", after := #[{ on := 13, ground := Ground.data }, { on := 11, ground := Ground.chain }], guard := none }, { dst := some 40, op := Op.load 26 (Operand.tmp 7), type := 26, pos := "law.go:57", after := #[{ on := 14, ground := Ground.guard }], guard := some (14, false) }, { dst := some 41, op := Op.call { callee := Callee.value (Operand.func 22), args := #[Operand.tmp 40], argTypes := #[26] }, type := 3, pos := "law.go:57", after := #[{ on := 15, ground := Ground.data }, { on := 14, ground := Ground.chain }, { on := 14, ground := Ground.guard }], guard := some (14, false) }, { dst := some 42, op := Op.load 26 (Operand.tmp 3), type := 26, pos := "law.go:57", after := #[{ on := 14, ground := Ground.guard }], guard := some (14, false) }, { dst := some 43, op := Op.call { callee := Callee.value (Operand.func 23), args := #[Operand.tmp 42], argTypes := #[26] }, type := 3, pos := "law.go:57", after := #[{ on := 17, ground := Ground.data }, { on := 16, ground := Ground.chain }, { on := 14, ground := Ground.guard }], guard := some (14, false) }, { dst := some 44, op := Op.binOp BinOp.neq 3 (Operand.tmp 41) (Operand.tmp 43) 3, type := 4, pos := "law.go:57", after := #[{ on := 16, ground := Ground.data }, { on := 18, ground := Ground.data }, { on := 14, ground := Ground.guard }], guard := some (14, false) }, { dst := some 45, op := Op.pick (Operand.tmp 39) (Operand.const (Value.bool true)) (Operand.tmp 44), type := 4, pos := "law.go:57", after := #[{ on := 14, ground := Ground.data }, { on := 19, ground := Ground.data }], guard := none }]) :
    (Code.region 4 ops true).wp Tryz.prog (fun e a x => e = .normal ∧ a = { tmps := #[.agg #[p1, p2, p3], .agg #[q1, q2, q3], .agg #[e1, e2, e3, e4, e5], .pointer (some ⟨w.heap.size, 0, none⟩), .pointer (some ⟨w1.heap.size, 0, none⟩), .pointer (some ⟨w2.heap.size, 0, none⟩), .bool false, .pointer (some ⟨ga, 0, none⟩), .pointer (some ⟨gb, 0, none⟩), undef, u10, u11, u12, u13, u14, u15, u16, u17, u18, u19, u20, .agg #[p1, p2, p3], .agg #[a1, a2, a3], .agg #[q1, q2, q3], .agg #[b1, b2, b3], .agg #[a1, a2, a3], .agg #[b1, b2, b3], .bool Z, .agg #[p1, p2, p3], .agg #[q1, q2, q3], .bool Z, .bool false, .bool false, .agg #[e1, e2, e3, e4, e5], .int .i64 (h : Int), .agg #[e1, e2, e3, e4, e5], .int .i64 (h : Int), .bool false, .bool false, .bool false, .agg #[a1, a2, a3], .int .i64 (n : Int), .agg #[p1, p2, p3], .int .i64 (n : Int), .bool false, .bool false, undef, undef, undef, undef, undef, undef, undef, undef, undef, undef, undef, undef, undef, undef, undef, undef, undef, undef, undef, undef, undef, undef, undef, undef, undef], defers := [] } ∧ Below x0.heap.size x0 x) { tmps := #[.agg #[p1, p2, p3], .agg #[q1, q2, q3], .agg #[e1, e2, e3, e4, e5], .pointer (some ⟨w.heap.size, 0, none⟩), .pointer (some ⟨w1.heap.size, 0, none⟩), .pointer (some ⟨w2.heap.size, 0, none⟩), .bool false, .pointer (some ⟨ga, 0, none⟩), .pointer (some ⟨gb, 0, none⟩), undef, u10, u11, u12, u13, u14, u15, u16, u17, u18, u19, u20, .agg #[p1, p2, p3], .agg #[a1, a2, a3], .agg #[q1, q2, q3], .agg #[b1, b2, b3], undef, undef, undef, undef, undef, undef, undef, undef, undef, undef, undef, undef, undef, undef, undef, undef, undef, undef, undef, undef, undef, undef, undef, undef, undef, undef, undef, undef, undef, undef, undef, undef, undef, undef, undef, undef, undef, undef, undef, undef, undef, undef, undef, undef, undef, undef], defers := [] } x0 := by
  subst hops
  have hB0 : Below x0.heap.size x0 x0.drew := Below.drew (Below.refl _ _)
  have hS0 := HS.out _ hB0
  refine wp_region_held_drew (S := fun x => At 26 x w.heap.size [p1, p2, p3] ∧ At 26 x w1.heap.size [q1, q2, q3] ∧ At 34 x w2.heap.size [e1, e2, e3, e4, e5] ∧ At 26 x ga [a1, a2, a3] ∧ At 26 x gb [b1, b2, b3]) (by kernel_rfl) hS0 (fun _ => ?_)
  obtain ⟨y0, hy0⟩ : ∃ y, y = x0.drew := ⟨_, rfl⟩
  rw [← hy0] at hB0 hS0 ⊢
  clear hy0
  refine wpAnyH_take (i := 0) (oi := { dst := some 25, op := .load 26 (.tmp 7), type := _, pos := _, after := _, guard := none }) (v := .agg #[a1, a2, a3]) rfl (by kernel_rfl) (by kernel_rfl) (by kernel_rfl) (fun _ _ _ h => nomatch h.1) (Or.inl ⟨by rfl, ?_⟩) hS0 ?_
  · intro w hSw
    obtain ⟨z0, z1, z2⟩ := pg_cells hSw.2.2.2.1
    go_simp
  simp only [Act.put, List.setIfInBounds_toArray, List.set_cons_zero, List.set_cons_succ]
  refine wpAnyH_take (i := 1) (oi := { dst := some 26, op := .load 26 (.tmp 8), type := _, pos := _, after := _, guard := none }) (v := .agg #[b1, b2, b3]) rfl (by kernel_rfl) (by kernel_rfl) (by kernel_rfl) (fun _ _ _ h => nomatch h.1) (Or.inl ⟨by rfl, ?_⟩) hS0 ?_
  · intro w hSw
    obtain ⟨z0, z1, z2⟩ := pg_cells hSw.2.2.2.2
    go_simp
  simp only [Act.put, List.setIfInBounds_toArray, List.set_cons_zero, List.set_cons_succ]
  refine wpAnyH_take (i := 3) (oi := { dst := some 28, op := .load 26 (.tmp 3), type := _, pos := _, after := _, guard := none }) (v := .agg #[p1, p2, p3]) rfl (by kernel_rfl) (by kernel_rfl) (by kernel_rfl) (fun _ _ _ h => nomatch h.1) (Or.inl ⟨by rfl, ?_⟩) hS0 ?_
  · intro w hSw
    obtain ⟨z0, z1, z2⟩ := pg_cells hSw.1
    go_simp
  simp only [Act.put, List.setIfInBounds_toArray, List.set_cons_zero, List.set_cons_succ]
  refine wpAnyH_take (i := 4) (oi := { dst := some 29, op := .load 26 (.tmp 4), type := _, pos := _, after := _, guard := none }) (v := .agg #[q1, q2, q3]) rfl (by kernel_rfl) (by kernel_rfl) (by kernel_rfl) (fun _ _ _ h => nomatch h.1) (Or.inl ⟨by rfl, ?_⟩) hS0 ?_
  · intro w hSw
    obtain ⟨z0, z1, z2⟩ := pg_cells hSw.2.1
    go_simp
  simp only [Act.put, List.setIfInBounds_toArray, List.set_cons_zero, List.set_cons_succ]
  refine wpAnyH_ready (rs := [2]) (by kernel_rfl) (by simp) ?_
  refine AllReadyH.cons (o := { dst := some 27, op := .call { callee := .value (.func 19), args := #[.tmp 25, .tmp 26], argTypes := #[26, 26] }, type := _, pos := _, after := _, guard := none }) rfl (fun K hK => ?_) AllReadyH.nil
  rw [if_pos (by rfl)]
  go_wp2_with (go_at_call 19; refine (C19.out _ hB0).mono ?_; rintro e y1 ⟨rfl, hb⟩)
  have hB1 := hB0.trans (hb.mono hB0.size)
  have hS1 := HS.out _ hB1
  clear hb
  refine hK.out _ _ hS1 (fun _ => ?_)
  refine wpAnyH_ready (rs := [5]) (by kernel_rfl) (by simp) ?_
  refine AllReadyH.cons (o := { dst := some 30, op := .call { callee := .value (.func 16), args := #[.tmp 28, .tmp 29], argTypes := #[26, 26] }, type := _, pos := _, after := _, guard := none }) rfl (fun K hK => ?_) AllReadyH.nil
  rw [if_pos (by rfl)]
  go_wp2_with (go_at_call 16; refine (C16.out _ hB1).mono ?_; rintro e y2 ⟨rfl, hb⟩)
  have hB2 := hB1.trans (hb.mono hB1.size)
  have hS2 := HS.out _ hB2
  clear hb
  refine hK.out _ _ hS2 (fun _ => ?_)
  refine wpAnyH_take (i := 6) (oi := { dst := some 31, op := .binOp .neq 4 (.tmp 27) (.tmp 30) 4, type := _, pos := _, after := _, guard := none }) (v := .bool false) rfl (by kernel_rfl) (by kernel_rfl) (by kernel_rfl) (fun _ _ _ h => nomatch h.1) (Or.inl ⟨by rfl, ?_⟩) hS2 ?_
  · intro w hSw
    cases Z <;> go_simp
  simp only [Act.put, List.setIfInBounds_toArray, List.set_cons_zero, List.set_cons_succ]
  refine wpAnyH_take (i := 7) (oi := { dst := some 32, op := .move (.tmp 31), type := _, pos := _, after := _, guard := none }) (v := .bool false) rfl (by kernel_rfl) (by kernel_rfl) (by kernel_rfl) (fun _ _ _ h => nomatch h.1) (Or.inl ⟨by rfl, ?_⟩) hS2 ?_
  · intro w hSw
    go_simp
  simp only [Act.put, List.setIfInBounds_toArray, List.set_cons_zero, List.set_cons_succ]
  refine wpAnyH_take (i := 8) (oi := { dst := some 33, op := .load 34 (.tmp 5), type := _, pos := _, after := _, guard := some (7, false) }) (v := .agg #[e1, e2, e3, e4, e5]) rfl (by kernel_rfl) (by kernel_rfl) (by kernel_rfl) (fun _ _ _ h => nomatch h.1) (Or.inl ⟨by rfl, ?_⟩) hS2 ?_
  · intro w hSw
    obtain ⟨z0, z1, z2, z3, z4⟩ := ex_cells5 hSw.2.2.1
    go_simp
  simp only [Act.put, List.setIfInBounds_toArray, List.set_cons_zero, List.set_cons_succ]
  refine wpAnyH_take (i := 10) (oi := { dst := some 35, op := .load 34 (.tmp 5), type := _, pos := _, after := _, guard := some (7, false) }) (v := .agg #[e1, e2, e3, e4, e5]) rfl (by kernel_rfl) (by kernel_rfl) (by kernel_rfl) (fun _ _ _ h => nomatch h.1) (Or.inl ⟨by rfl, ?_⟩) hS2 ?_
  · intro w hSw
    obtain ⟨z0, z1, z2, z3, z4⟩ := ex_cells5 hSw.2.2.1
    go_simp
  simp only [Act.put, List.setIfInBounds_toArray, List.set_cons_zero, List.set_cons_succ]
  refine wpAnyH_ready (rs := [9]) (by kernel_rfl) (by simp) ?_
  refine AllReadyH.cons (o := { dst := some 34, op := .call { callee := .value (.func 20), args := #[.tmp 33], argTypes := #[34] }, type := _, pos := _, after := _, guard := some (7, false) }) rfl (fun K hK => ?_) AllReadyH.nil
  rw [if_pos (by rfl)]
  go_wp2_with (go_at_call 20; refine (C20.out _ hB2).mono ?_; rintro e y3 ⟨rfl, hb⟩)
  have hB3 := hB2.trans (hb.mono hB2.size)
  have hS3 := HS.out _ hB3
  clear hb
  refine hK.out _ _ hS3 (fun _ => ?_)
  refine wpAnyH_ready (rs := [11]) (by kernel_rfl) (by simp) ?_
  refine AllReadyH.cons (o := { dst := some 36, op := .call { callee := .value (.func 21), args := #[.tmp 35], argTypes := #[34] }, type := _, pos := _, after := _, guard := some (7, false) }) rfl (fun K hK => ?_) AllReadyH.nil
  rw [if_pos (by rfl)]
  go_wp2_with (go_at_call 21; refine (C21.out _ hB3).mono ?_; rintro e y4 ⟨rfl, hb⟩)
  have hB4 := hB3.trans (hb.mono hB3.size)
  have hS4 := HS.out _ hB4
  clear hb
  refine hK.out _ _ hS4 (fun _ => ?_)
  refine wpAnyH_take (i := 12) (oi := { dst := some 37, op := .binOp .neq 3 (.tmp 34) (.tmp 36) 3, type := _, pos := _, after := _, guard := some (7, false) }) (v := .bool false) rfl (by kernel_rfl) (by kernel_rfl) (by kernel_rfl) (fun _ _ _ h => nomatch h.1) (Or.inl ⟨by rfl, ?_⟩) hS4 ?_
  · intro w hSw
    go_simp
  simp only [Act.put, List.setIfInBounds_toArray, List.set_cons_zero, List.set_cons_succ]
  refine wpAnyH_take (i := 13) (oi := { dst := some 38, op := .pick (.tmp 32) (.const (.bool true)) (.tmp 37), type := _, pos := _, after := _, guard := none }) (v := .bool false) rfl (by kernel_rfl) (by kernel_rfl) (by kernel_rfl) (fun _ _ _ h => nomatch h.1) (Or.inl ⟨by rfl, ?_⟩) hS4 ?_
  · intro w hSw
    go_simp
  simp only [Act.put, List.setIfInBounds_toArray, List.set_cons_zero, List.set_cons_succ]
  refine wpAnyH_take (i := 14) (oi := { dst := some 39, op := .move (.tmp 38), type := _, pos := _, after := _, guard := none }) (v := .bool false) rfl (by kernel_rfl) (by kernel_rfl) (by kernel_rfl) (fun _ _ _ h => nomatch h.1) (Or.inl ⟨by rfl, ?_⟩) hS4 ?_
  · intro w hSw
    go_simp
  simp only [Act.put, List.setIfInBounds_toArray, List.set_cons_zero, List.set_cons_succ]
  refine wpAnyH_take (i := 15) (oi := { dst := some 40, op := .load 26 (.tmp 7), type := _, pos := _, after := _, guard := some (14, false) }) (v := .agg #[a1, a2, a3]) rfl (by kernel_rfl) (by kernel_rfl) (by kernel_rfl) (fun _ _ _ h => nomatch h.1) (Or.inl ⟨by rfl, ?_⟩) hS4 ?_
  · intro w hSw
    obtain ⟨z0, z1, z2⟩ := pg_cells hSw.2.2.2.1
    go_simp
  simp only [Act.put, List.setIfInBounds_toArray, List.set_cons_zero, List.set_cons_succ]
  refine wpAnyH_take (i := 17) (oi := { dst := some 42, op := .load 26 (.tmp 3), type := _, pos := _, after := _, guard := some (14, false) }) (v := .agg #[p1, p2, p3]) rfl (by kernel_rfl) (by kernel_rfl) (by kernel_rfl) (fun _ _ _ h => nomatch h.1) (Or.inl ⟨by rfl, ?_⟩) hS4 ?_
  · intro w hSw
    obtain ⟨z0, z1, z2⟩ := pg_cells hSw.1
    go_simp
  simp only [Act.put, List.setIfInBounds_toArray, List.set_cons_zero, List.set_cons_succ]
  refine wpAnyH_ready (rs := [16]) (by kernel_rfl) (by simp) ?_
  refine AllReadyH.cons (o := { dst := some 41, op := .call { callee := .value (.func 22), args := #[.tmp 40], argTypes := #[26] }, type := _, pos := _, after := _, guard := some (14, false) }) rfl (fun K hK => ?_) AllReadyH.nil
  rw [if_pos (by rfl)]
  go_wp2_with (go_at_call 22; refine (C22.out _ hB4).mono ?_; rintro e y5 ⟨rfl, hb⟩)
  have hB5 := hB4.trans (hb.mono hB4.size)
  have hS5 := HS.out _ hB5
  clear hb
  refine hK.out _ _ hS5 (fun _ => ?_)
  refine wpAnyH_ready (rs := [18]) (by kernel_rfl) (by simp) ?_
  refine AllReadyH.cons (o := { dst := some 43, op := .call { callee := .value (.func 23), args := #[.tmp 42], argTypes := #[26] }, type := _, pos := _, after := _, guard := some (14, false) }) rfl (fun K hK => ?_) AllReadyH.nil
  rw [if_pos (by rfl)]
  go_wp2_with (go_at_call 23; refine (C23.out _ hB5).mono ?_; rintro e y6 ⟨rfl, hb⟩)
  have hB6 := hB5.trans (hb.mono hB5.size)
  have hS6 := HS.out _ hB6
  clear hb
  refine hK.out _ _ hS6 (fun _ => ?_)
  refine wpAnyH_take (i := 19) (oi := { dst := some 44, op := .binOp .neq 3 (.tmp 41) (.tmp 43) 3, type := _, pos := _, after := _, guard := some (14, false) }) (v := .bool false) rfl (by kernel_rfl) (by kernel_rfl) (by kernel_rfl) (fun _ _ _ h => nomatch h.1) (Or.inl ⟨by rfl, ?_⟩) hS6 ?_
  · intro w hSw
    go_simp
  simp only [Act.put, List.setIfInBounds_toArray, List.set_cons_zero, List.set_cons_succ]
  refine wpAnyH_take (i := 20) (oi := { dst := some 45, op := .pick (.tmp 39) (.const (.bool true)) (.tmp 44), type := _, pos := _, after := _, guard := none }) (v := .bool false) rfl (by kernel_rfl) (by kernel_rfl) (by kernel_rfl) (fun _ _ _ h => nomatch h.1) (Or.inl ⟨by rfl, ?_⟩) hS6 ?_
  · intro w hSw
    go_simp
  simp only [Act.put, List.setIfInBounds_toArray, List.set_cons_zero, List.set_cons_succ]
  refine wpAnyH_done (by kernel_rfl) ?_ _
  exact ⟨rfl, rfl, hB6⟩

end Go.Proofs.YtcmahiphfpgadaaGreatDoor

/- How high an expression is: tree.Height and the document's own. -/
namespace Go.Proofs.YtcmahiphfpgadaaGreatDoor
open Go.RowKit
set_option linter.unusedVariables false

mutual
def htX : Ex → Nat
  | .mk _ _ _ _ ks => htL ks + 1
def htL : List Ex → Nat
  | [] => 0
  | e :: r => max (htX e) (htL r)
end
mutual
theorem htX_le : ∀ e : Ex, htX e ≤ exW e
  | .mk _ _ _ nm ks => by rw [htX, exW]; have := htL_le ks; omega
theorem htL_le : ∀ l : List Ex, htL l ≤ exWs l
  | [] => by simp [htL]
  | e :: r => by rw [htL, exWs]; have := htX_le e; have := htL_le r; omega
end
theorem htL_snoc : ∀ (l : List Ex) (e : Ex), htL (l ++ [e]) = max (htL l) (htX e)
  | [], e => by simp [htL]
  | x :: r, e => by rw [List.cons_append, htL, htL, htL_snoc r e]; omega
theorem htL_take_le : ∀ (l : List Ex) (i : Nat), htL (l.take i) ≤ htL l
  | [], i => by simp
  | x :: r, 0 => by simp [htL]
  | x :: r, i + 1 => by rw [List.take_succ_cons, htL, htL]; have := htL_take_le r i; omega

def HtW (F B : Nat) (x : ET) : Prop := ∀ (w : World), x.In B w → B ≤ w.heap.size → Calls Tryz.prog F #[.agg x.cells.toArray] w fun r w' => r = .returned (.int .i64 (htX x.ex : Int)) ∧ Below w.heap.size w w'

set_option maxRecDepth 100000 in
set_option maxHeartbeats 3200000 in
theorem height21_of (B : Nat) (op t b : Nat) (nm : ByteArray) (a : Option Addr) (c : Nat) (ks : List ET) (hS : ∀ k ∈ ks, HtW 21 B k) (hW : htL (ks.map ET.ex) ≤ 1048576) : HtW 21 B (.mk op t b nm a c ks) := by
  intro w hx hBw
  unfold ET.In at hx
  obtain ⟨_, _, _, x1, x2, x3⟩ := hx
  have HR : Hid (RowE B w a c ks) := ⟨x1, x2, x3⟩
  obtain ⟨n, hn⟩ : ∃ n, Hid (n = ks.length) := ⟨_, (rfl : ks.length = _)⟩
  obtain ⟨T, hT⟩ : ∃ T : Nat, Hid (T = htL (ks.map ET.ex)) := ⟨_, (rfl : _ = htL (ks.map ET.ex))⟩
  have hTx : htX (ET.mk op t b nm a c ks).ex = T + 1 := by
    show htX (.mk op t b nm.data.toList (ET.exs ks)) = _
    rw [htX, ET.exs_eq, hT.out]
  rw [hTx]
  have hTl : T ≤ 1048576 := by rw [hT.out]; exact hW
  show Calls Tryz.prog 21 #[.agg (ex5 op t b nm (.slice a ks.length c)).toArray] w _
  rw [← hn.out] at x1 x2 ⊢
  have HS : Hid (∀ k ∈ ks, HtW 21 B k) := hS
  clear x3 hS hTx hW
  go_enter Tryz.func21, Tryz.ntmps21
  go_wp2_with (first
    | ((with_reducible show wpList _ _ _ _ _ _); refine wpList_box_at rfl 34 (.tmp 0) rfl (ex5 op t b nm (.slice a n c)) rfl ?_; intro w1 hA1 hb1 hs1; clear hs1; refine Hid.out ?_))
  refine hidU ?_
  have HB : Hid (At 34 w1 w.heap.size (ex5 op t b nm (.slice a n c))) := hA1
  clear hA1
  go_wp2_with fail
  go_loopw [3, 4] (fun u j wr => ∃ i : Nat, j = .int .i64 (i : Int) ∧ i ≤ n ∧ Hid ((∃ z : Nat, u = .int .i64 (z : Int) ∧ z = htL ((ks.map ET.ex).take i)) ∧ Below w1.heap.size w1 wr)) (fun u j _ => n - (intOf j).toNat)
  case atStart => exact ⟨0, rfl, by omega, ⟨0, rfl, by simp [htL]⟩, Below.refl _ _⟩
  case round =>
    obtain ⟨i, rfl, hi, hX⟩ := hrel
    obtain ⟨⟨z, rfl, hz⟩, hbr⟩ := hX.out
    have hwr : Below w.heap.size w wr := hb1.trans (hbr.mono hb1.size)
    have hzl : z ≤ 1048576 := by rw [hz]; exact Nat.le_trans (htL_take_le _ _) (by rw [← hT.out]; exact hTl)
    obtain ⟨-, -, -, -, q4⟩ := ex_cells (HB.out.below hbr)
    by_cases hc : i < n
    · obtain ⟨x, hx⟩ : ∃ k, ks[i]? = some k := ⟨ks[i]'(by rw [← hn.out]; exact hc), by rw [List.getElem?_eq_getElem]⟩
      have hold : Old B w wr := Old.of_below hwr hBw
      obtain ⟨g1, o1, rfl, hg1, hr1, hx1⟩ := (HR.out.old hold).at i x hx
      have hI := HS.out x (List.mem_of_getElem? hx) wr hx1 (by have := hwr.size; omega)
      obtain ⟨Y, hY⟩ : ∃ Y : Nat, Hid (Y = htX x.ex) := ⟨_, (rfl : _ = htX x.ex)⟩
      have HT1 : Hid (max z Y = htL ((ks.map ET.ex).take (i + 1))) := by
        show _ = _
        rw [List.take_add_one, List.getElem?_map, hx, hz, hY.out]
        exact (htL_snoc _ _).symm
      rw [← hY.out] at hI
      obtain ⟨xop, xt, xb, xnm, xa, xc, xk⟩ := x
      have hI : Calls Tryz.prog 21 #[.agg #[.int .u8 (xop : Int), .int .u8 (xt : Int), .int .u64 (xb : Int), .string xnm, .slice xa xk.length xc]] wr fun r w' => r = .returned (.int .i64 (Y : Int)) ∧ Below wr.heap.size wr w' := hI
      obtain ⟨x0, x1', x2', x3', x4'⟩ := ex_mid (s := .slice xa xk.length xc) hr1
      clear hX hx hx1 hold hr1 hY
      go_wp2_with fail
      refine hI.mono ?_
      rintro r w3 ⟨rfl, hb3⟩
      have hw3 : Below w1.heap.size w1 w3 := hbr.trans (hb3.mono hbr.size)
      clear hI q4 x0 x1' x2' x3' x4'
      go_wp2
      go_roundw
      case rel => exact ⟨i + 1, by go_num, by omega, ⟨max z Y, by first | rfl | (congr 1; omega) | simp, HT1.out⟩, hw3⟩
      case measure => simp [intOf]; omega
    · have hin : i = n := by omega
      have hzT : z = T := by rw [hz, hin, hn.out, hT.out, List.take_of_length_le (by simp)]
      clear hX hz
      go_wp2
      go_ret
      exact ⟨by rw [hzT]; rfl, hwr⟩

theorem height21_any (B : Nat) (M : Nat) : ∀ x : ET, SizeOf.sizeOf x < M → exW x.ex ≤ 1048576 → HtW 21 B x := by
  induction M with
  | zero => intro x h; omega
  | succ M ih =>
    rintro ⟨op, t, b, nm, a, c, ks⟩ hN hW
    have e : (ET.mk op t b nm a c ks).ex = .mk op t b nm.data.toList (ET.exs ks) := rfl
    rw [e, ET.exs_eq] at hW
    refine height21_of B op t b nm a c ks (fun k hk => ih k (by have := ET.sz (op := op) (t := t) (b := b) (c := c) (nm := nm) (a := a) hk; omega) ?_) ?_
    · have := exW_kid op t b nm.data.toList (ks.map ET.ex) k.ex (List.mem_map_of_mem hk)
      omega
    · rw [exW] at hW
      have := htL_le (ks.map ET.ex)
      omega
end Go.Proofs.YtcmahiphfpgadaaGreatDoor

/- How high an expression is: tree.Height. -/
namespace Go.Proofs.YtcmahiphfpgadaaGreatDoor
open Go.RowKit
set_option linter.unusedVariables false

set_option maxRecDepth 100000 in
set_option maxHeartbeats 3200000 in
theorem height20_of (B : Nat) (op t b : Nat) (nm : ByteArray) (a : Option Addr) (c : Nat) (ks : List ET) (hS : ∀ k ∈ ks, HtW 20 B k) (hW : htL (ks.map ET.ex) ≤ 1048576) : HtW 20 B (.mk op t b nm a c ks) := by
  intro w hx hBw
  unfold ET.In at hx
  obtain ⟨_, _, _, x1, x2, x3⟩ := hx
  have HR : Hid (RowE B w a c ks) := ⟨x1, x2, x3⟩
  obtain ⟨n, hn⟩ : ∃ n, Hid (n = ks.length) := ⟨_, (rfl : ks.length = _)⟩
  obtain ⟨T, hT⟩ : ∃ T : Nat, Hid (T = htL (ks.map ET.ex)) := ⟨_, (rfl : _ = htL (ks.map ET.ex))⟩
  have hTx : htX (ET.mk op t b nm a c ks).ex = T + 1 := by
    show htX (.mk op t b nm.data.toList (ET.exs ks)) = _
    rw [htX, ET.exs_eq, hT.out]
  rw [hTx]
  have hTl : T ≤ 1048576 := by rw [hT.out]; exact hW
  show Calls Tryz.prog 20 #[.agg (ex5 op t b nm (.slice a ks.length c)).toArray] w _
  rw [← hn.out] at x1 x2 ⊢
  have HS : Hid (∀ k ∈ ks, HtW 20 B k) := hS
  clear x3 hS hTx hW
  go_enter Tryz.func20, Tryz.ntmps20
  go_wp2_with (first
    | ((with_reducible show wpList _ _ _ _ _ _); refine wpList_box_at rfl 34 (.tmp 0) rfl (ex5 op t b nm (.slice a n c)) rfl ?_; intro w1 hA1 hb1 hs1; clear hs1; refine Hid.out ?_))
  refine hidU ?_
  obtain ⟨-, -, -, -, q4⟩ := ex_cells hA1
  clear hA1
  go_wp2_with fail
  clear q4
  go_loopw [3, 9] (fun u j wr => ∃ i : Nat, j = .int .i64 (i : Int) ∧ i ≤ n ∧ Hid ((∃ z : Nat, u = .int .i64 (z : Int) ∧ z = htL ((ks.map ET.ex).take i)) ∧ Below w1.heap.size w1 wr)) (fun u j _ => n - (intOf j).toNat)
  case atStart => exact ⟨0, rfl, by omega, ⟨0, rfl, by simp [htL]⟩, Below.refl _ _⟩
  case round =>
    obtain ⟨i, rfl, hi, hX⟩ := hrel
    obtain ⟨⟨z, rfl, hz⟩, hbr⟩ := hX.out
    have hwr : Below w.heap.size w wr := hb1.trans (hbr.mono hb1.size)
    have hzl : z ≤ 1048576 := by rw [hz]; exact Nat.le_trans (htL_take_le _ _) (by rw [← hT.out]; exact hTl)
    by_cases hc : i < n
    · obtain ⟨x, hx⟩ : ∃ k, ks[i]? = some k := ⟨ks[i]'(by rw [← hn.out]; exact hc), by rw [List.getElem?_eq_getElem]⟩
      have hold : Old B w wr := Old.of_below hwr hBw
      obtain ⟨g1, o1, rfl, hg1, hr1, hx1⟩ := (HR.out.old hold).at i x hx
      have hI := HS.out x (List.mem_of_getElem? hx) wr hx1 (by have := hwr.size; omega)
      obtain ⟨Y, hY⟩ : ∃ Y : Nat, Hid (Y = htX x.ex) := ⟨_, (rfl : _ = htX x.ex)⟩
      have HT1 : Hid (max z Y = htL ((ks.map ET.ex).take (i + 1))) := by
        show _ = _
        rw [List.take_add_one, List.getElem?_map, hx, hz, hY.out]
        exact (htL_snoc _ _).symm
      have HI : Hid (∀ wz, Below wr.heap.size wr wz → Calls Tryz.prog 20 #[.agg x.cells.toArray] wz fun r w' => r = .returned (.int .i64 (Y : Int)) ∧ Below wz.heap.size wz w') := fun wz hz => by
        rw [hY.out]
        exact HS.out x (List.mem_of_getElem? hx) wz (hx1.old (Old.of_below hz (by have := hwr.size; omega))) (by have := hwr.size; have := hz.size; omega)
      clear hX hx hx1 hold hY hI
      go_wp2_with (first
        | ((with_reducible show wpList _ _ _ _ _ _); refine wpList_load_mid (P := Tryz.prog) rfl 34 (.tmp 11) rfl g1 (o1 + i * 5) (by first | rfl | (simp; done)) x.cells _ hr1 Tryz.underlying34 rfl (by rw [ET.cells_len]; exact i29) ?_)
        | ((with_reducible show wpList _ _ _ _ _ _); refine wpList_alloc_at rfl 34 rfl _ 5 z29 ?_; intro w2 hA2 hb2 hs2)
        | ((with_reducible show wpList _ _ _ _ _ _); refine wpList_store_at (P := Tryz.prog) rfl 34 (.tmp 5) (.tmp 12) rfl wr.heap.size x.cells rfl rfl 34 _ hA2 (by rw [ET.cells_len]; exact i29) (by rw [ET.cells_len]; rfl) x.one ?_; intro w4 hA4 hb4 hs4; refine Hid.out ?_))
      refine hidU ?_
      have hB4 : Below wr.heap.size wr w4 := hb4.below hb2 (Nat.le_refl _) (by omega)
      have hI := HI.out w4 hB4
      clear hb4 hb2 hA2 hr1 hs2 hs4 HI
      go_wp2_with (first
        | ((with_reducible show wpList _ _ _ _ _ _); refine wpList_load_at (P := Tryz.prog) rfl 34 (.tmp 5) rfl wr.heap.size rfl 34 x.cells hA4 _ Tryz.underlying34 rfl (by rw [ET.cells_len]; exact i29) ?_))
      refine hI.mono ?_
      rintro r w3 ⟨rfl, hb3⟩
      have hw3 : Below w1.heap.size w1 w3 := hbr.trans ((hB4.trans (hb3.mono hB4.size)).mono hbr.size)
      clear hI hA4 hB4
      go_wp2
      go_roundw
      case rel => exact ⟨i + 1, by go_num, by omega, ⟨max z Y, by first | rfl | (congr 1; omega) | simp, HT1.out⟩, hw3⟩
      case measure => simp [intOf]; omega
    · have hin : i = n := by omega
      have hzT : z = T := by rw [hz, hin, hn.out, hT.out, List.take_of_length_le (by simp)]
      clear hX hz
      go_wp2
      go_ret
      exact ⟨by rw [hzT]; rfl, hwr⟩

theorem height20_any (B : Nat) (M : Nat) : ∀ x : ET, SizeOf.sizeOf x < M → exW x.ex ≤ 1048576 → HtW 20 B x := by
  induction M with
  | zero => intro x h; omega
  | succ M ih =>
    rintro ⟨op, t, b, nm, a, c, ks⟩ hN hW
    have e : (ET.mk op t b nm a c ks).ex = .mk op t b nm.data.toList (ET.exs ks) := rfl
    rw [e, ET.exs_eq] at hW
    refine height20_of B op t b nm a c ks (fun k hk => ih k (by have := ET.sz (op := op) (t := t) (b := b) (c := c) (nm := nm) (a := a) hk; omega) ?_) ?_
    · have := exW_kid op t b nm.data.toList (ks.map ET.ex) k.ex (List.mem_map_of_mem hk)
      omega
    · rw [exW] at hW
      have := htL_le (ks.map ET.ex)
      omega
end Go.Proofs.YtcmahiphfpgadaaGreatDoor

/- How many statements there are: tree's count and the document's own. -/
namespace Go.Proofs.YtcmahiphfpgadaaGreatDoor
open Go.RowKit
set_option linter.unusedVariables false

mutual
def szS : St → Nat
  | .mk _ _ _ b c => 1 + (szL b + szL c)
def szL : List St → Nat
  | [] => 0
  | s :: r => szS s + szL r
end
/-- Those that stand within. -/
def szJ : St → Nat
  | .mk _ _ _ b c => szL b + szL c
def szI (l : List St) : Nat := (l.map szJ).sum
theorem szI_snoc (l : List St) (s : St) : szI (l ++ [s]) = szI l + szJ s := by simp [szI]
theorem szS_eq (s : St) : szS s = 1 + szJ s := by cases s; rw [szS, szJ]
theorem szL_eq : ∀ l : List St, szL l = l.length + szI l
  | [] => by simp [szL, szI]
  | s :: r => by
    rw [szL, szL_eq r, szS_eq]
    simp only [szI, List.map_cons, List.sum_cons, List.length_cons]
    omega
theorem szI_take (l : List St) (i : Nat) : szI (l.take i) ≤ szI l := by
  conv => rhs; rw [← List.take_append_drop i l]
  unfold szI
  rw [List.map_append, List.sum_append]
  omega
mutual
theorem szS_le : ∀ s : St, szS s ≤ stW s
  | .mk _ nm e b c => by rw [szS, stW]; have := szL_le b; have := szL_le c; omega
theorem szL_le : ∀ l : List St, szL l ≤ stWs l
  | [] => by simp [szL]
  | s :: r => by rw [szL, stWs]; have := szS_le s; have := szL_le r; omega
end

theorem wr_add (a b : Nat) (h : a + b ≤ 1048576) : IntKind.i64.wrap ((a : Int) + (b : Int)) = ((a + b : Nat) : Int) := by
  rw [IntKind.wrap_i64]
  omega

def SzLW (F B : Nat) (xs : List ST) : Prop := ∀ (a : Option Addr) (c : Nat) (w : World), RowS B w a c xs → B ≤ w.heap.size → Calls Tryz.prog F #[.slice a xs.length c] w fun r w' => r = .returned (.int .i64 (szL (xs.map ST.st) : Int)) ∧ Below w.heap.size w w'
def SzSW (F B : Nat) : ST → Prop
  | .mk _ _ _ _ _ body _ _ els => SzLW F B body ∧ SzLW F B els

set_option maxRecDepth 100000 in
set_option maxHeartbeats 6400000 in
theorem size55_of (B : Nat) (xs : List ST) (hS : ∀ x ∈ xs, SzSW 55 B x) (hW : szL (xs.map ST.st) ≤ 1048576) : SzLW 55 B xs := by
  intro a c w h1 hBw
  obtain ⟨n, hn⟩ : ∃ n, Hid (n = xs.length) := ⟨_, (rfl : xs.length = _)⟩
  obtain ⟨T, hT⟩ : ∃ T : Nat, Hid (T = szL (xs.map ST.st) ∧ T ≤ 1048576) := ⟨_, (⟨rfl, hW⟩ : _ = szL (xs.map ST.st) ∧ _)⟩
  rw [← hT.out.1]
  have hl1 := h1.1
  have hk1 := h1.2.1
  rw [← hn.out] at hl1 hk1 ⊢
  have HR : Hid (RowS B w a c xs) := h1
  have HS : Hid (∀ x ∈ xs, SzSW 55 B x) := hS
  clear h1 hS hW
  go_enter Tryz.func55, Tryz.ntmps55
  go_wp2_with fail
  go_loopw [3, 4] (fun u j wr => ∃ i : Nat, j = .int .i64 (i : Int) ∧ i ≤ n ∧ Hid ((∃ z : Nat, u = .int .i64 (z : Int) ∧ z = n + szI (((xs.map ST.st).take i))) ∧ Below w.heap.size w wr)) (fun u j _ => n - (intOf j).toNat)
  case atStart => exact ⟨0, rfl, by omega, ⟨n, rfl, by simp [szI]⟩, Below.refl _ _⟩
  case round =>
    obtain ⟨i, rfl, hi, hX⟩ := hrel
    obtain ⟨⟨z, rfl, hz_⟩, hbw⟩ := hX.out
    have hz : Hid (z = n + szI ((xs.map ST.st).take i)) := hz_
    clear hz_
    by_cases hc : i < n
    · obtain ⟨x, hx⟩ : ∃ k, xs[i]? = some k := ⟨xs[i]'(by rw [← hn.out]; exact hc), by rw [List.getElem?_eq_getElem]⟩
      have hold : Old B w wr := Old.of_below hbw hBw
      obtain ⟨g1, o1, rfl, hg1, hr1, hx1⟩ := (HR.out.old hold).at i x hx
      have hKS := HS.out x (List.mem_of_getElem? hx)
      have HT1 : Hid (szI ((xs.map ST.st).take (i + 1)) = szI ((xs.map ST.st).take i) + szJ x.st) := by
        show _ = _
        rw [List.take_add_one, List.getElem?_map, hx]
        exact szI_snoc _ _
      have HLe : Hid (n + szI ((xs.map ST.st).take (i + 1)) ≤ 1048576) := by
        have := szI_take (xs.map ST.st) (i + 1)
        have h2 := szL_eq (xs.map ST.st)
        rw [List.length_map, ← hn.out] at h2
        have h3 := hT.out
        show _ ≤ _
        omega
      have hcl := x.cells_len
      have hon := x.one
      obtain ⟨k, nm, ⟨op, t, b, enm, ea, ec, eks⟩, a1, c1, b1, a2, c2, b2⟩ := x
      obtain ⟨hKb, hKe⟩ := hKS
      obtain ⟨Y1, hY1⟩ : ∃ Y : Nat, Hid (Y = szL (b1.map ST.st)) := ⟨_, (rfl : _ = szL (b1.map ST.st))⟩
      obtain ⟨Y2, hY2⟩ : ∃ Y : Nat, Hid (Y = szL (b2.map ST.st)) := ⟨_, (rfl : _ = szL (b2.map ST.st))⟩
      have HJ : Hid (szJ (ST.mk k nm (.mk op t b enm ea ec eks) a1 c1 b1 a2 c2 b2).st = Y1 + Y2) := by
        show szL (ST.sts b1) + szL (ST.sts b2) = _
        rw [ST.sts_eq, ST.sts_eq, hY1.out, hY2.out]
      unfold ST.In at hx1
      obtain ⟨_, xe, x1, x2⟩ := hx1
      have hsz : B ≤ wr.heap.size := by have := hbw.size; omega
      have q1 : ∀ w', Below wr.heap.size wr w' → Calls Tryz.prog 55 #[.slice a1 b1.length c1] w' fun r w'' => r = .returned (.int .i64 (Y1 : Int)) ∧ Below w'.heap.size w' w'' := fun w' h => by rw [hY1.out]; exact hKb a1 c1 w' (RowS.old x1 (Old.of_below h hsz)) (by have := h.size; omega)
      have q2 : ∀ w', Below wr.heap.size wr w' → Calls Tryz.prog 55 #[.slice a2 b2.length c2] w' fun r w'' => r = .returned (.int .i64 (Y2 : Int)) ∧ Below w'.heap.size w' w'' := fun w' h => by rw [hY2.out]; exact hKe a2 c2 w' (RowS.old x2 (Old.of_below h hsz)) (by have := h.size; omega)
      simp only [ST.cells, ET.cells] at hr1 hcl hon
      generalize eks.length = en at hr1 hcl hon
      generalize b1.length = n1 at q1 hr1 hcl hon
      generalize b2.length = n2 at q2 hr1 hcl hon
      have hr1 : wr.rangeAt g1 (o1 + i * 9) (st9 k nm (ex5 op t b enm (.slice ea en ec)) (.slice a1 n1 c1) (.slice a2 n2 c2)) := hr1
      have HE : Hid (∀ w', Below wr.heap.size wr w' → w'.cell? ⟨g1, o1 + i * 9 + 7, none⟩ = some (.slice a1 n1 c1) ∧ w'.cell? ⟨g1, o1 + i * 9 + 8, none⟩ = some (.slice a2 n2 c2)) := fun w' h => (st_mid ((Old.of_below (B := B) h hsz).range hg1 hr1)).2.2.2.2.2.2.2
      have Q1 : Hid _ := q1
      have Q2 : Hid _ := q2
      have hS0 : Below wr.heap.size wr wr.drew := Below.drew (Below.refl _ _)
      have HA : Hid (IntKind.i64.wrap (IntKind.i64.wrap ((z : Int) + (Y1 : Int)) + (Y2 : Int)) = ((n + szI ((xs.map ST.st).take (i + 1)) : Nat) : Int)) := by
        have h1 := HT1.out
        have h2 := HJ.out
        have h3 := hz.out
        have h4 := HLe.out
        show _ = _
        rw [h2] at h1
        have e1 : n + szI ((xs.map ST.st).take (i + 1)) = z + (Y1 + Y2) := by omega
        rw [e1] at h4 ⊢
        first
          | (rw [wr_add z Y1 (by omega), wr_add (z + Y1) Y2 (by omega), Nat.add_assoc])
          | (rw [wr_add Y1 Y2 (by omega), wr_add z (Y1 + Y2) (by omega)])
      clear hX hx hold hr1 xe x1 x2 q1 q2 hKb hKe HR HS hY1 hY2 HT1 HJ HLe hcl hon
      go_wp2_with fail
      refine wp_region_held_drew (S := fun x => Below wr.heap.size wr x) (by kernel_rfl) hS0 (fun _ => ?_)
      refine wpAnyH_take (i := 0) (oi := { dst := some 13, op := .move (.tmp 3), type := _, pos := _, after := _, guard := none }) (v := .int .i64 (z : Int)) rfl (by kernel_rfl) (by kernel_rfl) (by kernel_rfl) (fun _ _ _ h => h) (Or.inl ⟨by rfl, ?_⟩) hS0 ?_
      · intro w hSw
        go_simp
      simp only [Act.put, List.setIfInBounds_toArray, List.set_cons_zero, List.set_cons_succ]
      refine wpAnyH_take (i := 1) (oi := { dst := some 14, op := .move (.tmp 0), type := _, pos := _, after := _, guard := none }) (v := .slice (some ⟨g1, o1, none⟩) n c) rfl (by kernel_rfl) (by kernel_rfl) (by kernel_rfl) (fun _ _ _ h => h) (Or.inl ⟨by rfl, ?_⟩) hS0 ?_
      · intro w hSw
        go_simp
      simp only [Act.put, List.setIfInBounds_toArray, List.set_cons_zero, List.set_cons_succ]
      refine wpAnyH_take (i := 2) (oi := { dst := some 15, op := .move (.tmp 4), type := _, pos := _, after := _, guard := none }) (v := .int .i64 (i : Int)) rfl (by kernel_rfl) (by kernel_rfl) (by kernel_rfl) (fun _ _ _ h => h) (Or.inl ⟨by rfl, ?_⟩) hS0 ?_
      · intro w hSw
        go_simp
      simp only [Act.put, List.setIfInBounds_toArray, List.set_cons_zero, List.set_cons_succ]
      refine wpAnyH_take (i := 3) (oi := { dst := some 16, op := .indexAddr 57 (.tmp 14) (.tmp 15), type := _, pos := _, after := _, guard := none }) (v := .pointer (some ⟨g1, o1 + i * 9, none⟩)) rfl (by kernel_rfl) (by kernel_rfl) (by kernel_rfl) (fun _ _ _ h => h) (Or.inl ⟨by rfl, ?_⟩) hS0 ?_
      · intro w hSw
        go_simp
      simp only [Act.put, List.setIfInBounds_toArray, List.set_cons_zero, List.set_cons_succ]
      refine wpAnyH_take (i := 4) (oi := { dst := some 17, op := .fieldAddr 87 (.tmp 16) 3, type := _, pos := _, after := _, guard := none }) (v := .pointer (some ⟨g1, o1 + i * 9 + 7, none⟩)) rfl (by kernel_rfl) (by kernel_rfl) (by kernel_rfl) (fun _ _ _ h => h) (Or.inl ⟨by rfl, ?_⟩) hS0 ?_
      · intro w hSw
        go_simp
      simp only [Act.put, List.setIfInBounds_toArray, List.set_cons_zero, List.set_cons_succ]
      refine wpAnyH_take (i := 5) (oi := { dst := some 18, op := .load 57 (.tmp 17), type := _, pos := _, after := _, guard := none }) (v := .slice a1 n1 c1) rfl (by kernel_rfl) (by kernel_rfl) (by kernel_rfl) (fun _ _ _ h => h) (Or.inl ⟨by rfl, ?_⟩) hS0 ?_
      · intro w hSw
        have z7 := (HE.out w hSw).1
        go_simp
      simp only [Act.put, List.setIfInBounds_toArray, List.set_cons_zero, List.set_cons_succ]
      refine wpAnyH_take (i := 8) (oi := { dst := some 21, op := .move (.tmp 0), type := _, pos := _, after := _, guard := none }) (v := .slice (some ⟨g1, o1, none⟩) n c) rfl (by kernel_rfl) (by kernel_rfl) (by kernel_rfl) (fun _ _ _ h => h) (Or.inl ⟨by rfl, ?_⟩) hS0 ?_
      · intro w hSw
        go_simp
      simp only [Act.put, List.setIfInBounds_toArray, List.set_cons_zero, List.set_cons_succ]
      refine wpAnyH_take (i := 9) (oi := { dst := some 22, op := .move (.tmp 4), type := _, pos := _, after := _, guard := none }) (v := .int .i64 (i : Int)) rfl (by kernel_rfl) (by kernel_rfl) (by kernel_rfl) (fun _ _ _ h => h) (Or.inl ⟨by rfl, ?_⟩) hS0 ?_
      · intro w hSw
        go_simp
      simp only [Act.put, List.setIfInBounds_toArray, List.set_cons_zero, List.set_cons_succ]
      refine wpAnyH_take (i := 10) (oi := { dst := some 23, op := .indexAddr 57 (.tmp 21) (.tmp 22), type := _, pos := _, after := _, guard := none }) (v := .pointer (some ⟨g1, o1 + i * 9, none⟩)) rfl (by kernel_rfl) (by kernel_rfl) (by kernel_rfl) (fun _ _ _ h => h) (Or.inl ⟨by rfl, ?_⟩) hS0 ?_
      · intro w hSw
        go_simp
      simp only [Act.put, List.setIfInBounds_toArray, List.set_cons_zero, List.set_cons_succ]
      refine wpAnyH_take (i := 11) (oi := { dst := some 24, op := .fieldAddr 87 (.tmp 23) 4, type := _, pos := _, after := _, guard := none }) (v := .pointer (some ⟨g1, o1 + i * 9 + 8, none⟩)) rfl (by kernel_rfl) (by kernel_rfl) (by kernel_rfl) (fun _ _ _ h => h) (Or.inl ⟨by rfl, ?_⟩) hS0 ?_
      · intro w hSw
        go_simp
      simp only [Act.put, List.setIfInBounds_toArray, List.set_cons_zero, List.set_cons_succ]
      refine wpAnyH_take (i := 12) (oi := { dst := some 25, op := .load 57 (.tmp 24), type := _, pos := _, after := _, guard := none }) (v := .slice a2 n2 c2) rfl (by kernel_rfl) (by kernel_rfl) (by kernel_rfl) (fun _ _ _ h => h) (Or.inl ⟨by rfl, ?_⟩) hS0 ?_
      · intro w hSw
        have z7 := (HE.out w hSw).2
        go_simp
      simp only [Act.put, List.setIfInBounds_toArray, List.set_cons_zero, List.set_cons_succ]
      refine wpAnyH_ready (rs := [6]) (by kernel_rfl) (by simp) ?_
      refine AllReadyH.cons (o := { dst := some 19, op := .call { callee := .value (.func 55), args := #[.tmp 18], argTypes := #[57] }, type := _, pos := _, after := _, guard := none }) rfl (fun K hK => ?_) AllReadyH.nil
      rw [if_pos (by rfl)]
      go_wp2_with (go_at_call 55; refine (Q1.out _ hS0).mono ?_; rintro e x1 ⟨rfl, hb1⟩)
      have hS1 := hS0.trans (hb1.mono hS0.size)
      refine hK.out _ _ hS1 (fun _ => ?_)
      refine wpAnyH_take (i := 7) (oi := { dst := some 20, op := .binOp .add 3 (.tmp 13) (.tmp 19) 3, type := _, pos := _, after := _, guard := none }) (v := .int .i64 (IntKind.i64.wrap ((z : Int) + (Y1 : Int)))) rfl (by kernel_rfl) (by kernel_rfl) (by kernel_rfl) (fun _ _ _ h => h) (Or.inl ⟨by rfl, ?_⟩) hS1 ?_
      · intro w hSw
        go_simp
      simp only [Act.put, List.setIfInBounds_toArray, List.set_cons_zero, List.set_cons_succ]
      refine wpAnyH_ready (rs := [13]) (by kernel_rfl) (by simp) ?_
      refine AllReadyH.cons (o := { dst := some 26, op := .call { callee := .value (.func 55), args := #[.tmp 25], argTypes := #[57] }, type := _, pos := _, after := _, guard := none }) rfl (fun K hK => ?_) AllReadyH.nil
      rw [if_pos (by rfl)]
      go_wp2_with (go_at_call 55; refine (Q2.out _ hS1).mono ?_; rintro e x2 ⟨rfl, hb2⟩)
      have hS2 := hS1.trans (hb2.mono hS1.size)
      refine hK.out _ _ hS2 (fun _ => ?_)
      refine wpAnyH_take (i := 14) (oi := { dst := some 27, op := .binOp .add 3 (.tmp 20) (.tmp 26) 3, type := _, pos := _, after := _, guard := none }) (v := .int .i64 (IntKind.i64.wrap (IntKind.i64.wrap ((z : Int) + (Y1 : Int)) + (Y2 : Int)))) rfl (by kernel_rfl) (by kernel_rfl) (by kernel_rfl) (fun _ _ _ h => h) (Or.inl ⟨by rfl, ?_⟩) hS2 ?_
      · intro w hSw
        go_simp
      simp only [Act.put, List.setIfInBounds_toArray, List.set_cons_zero, List.set_cons_succ]
      refine wpAnyH_take (i := 15) (oi := { dst := some 3, op := .assign (.tmp 27), type := _, pos := _, after := _, guard := none }) (v := .int .i64 (IntKind.i64.wrap (IntKind.i64.wrap ((z : Int) + (Y1 : Int)) + (Y2 : Int)))) rfl (by kernel_rfl) (by kernel_rfl) (by kernel_rfl) (fun _ _ _ h => h) (Or.inl ⟨by rfl, ?_⟩) hS2 ?_
      · intro w hSw
        go_simp
      simp only [Act.put, List.setIfInBounds_toArray, List.set_cons_zero, List.set_cons_succ]
      refine wpAnyH_done (by kernel_rfl) ?_ _
      have hw3 : Below w.heap.size w x2 := hbw.trans (hS2.mono hbw.size)
      go_wp2
      go_roundw
      case rel => exact ⟨i + 1, by go_num, by omega, ⟨_, by rw [HA.out], rfl⟩, hw3⟩
      case measure => simp [intOf]; omega
    · have hin : i = n := by omega
      have hzT : z = T := by
        rw [hz.out, hT.out.1, szL_eq, hin, hn.out, List.take_of_length_le (by simp), List.length_map]
      clear hX hz
      go_wp2
      go_ret
      exact ⟨by rw [hzT]; rfl, hbw⟩

theorem size55_any (B : Nat) (M : Nat) : ∀ x : ST, SizeOf.sizeOf x < M → stW x.st ≤ 1048576 → SzSW 55 B x := by
  induction M with
  | zero => intro x h; omega
  | succ M ih =>
    rintro ⟨k, nm, e, a1, c1, b1, a2, c2, b2⟩ hN hW
    have ee : (ST.mk k nm e a1 c1 b1 a2 c2 b2).st = .mk k nm.data.toList e.ex (ST.sts b1) (ST.sts b2) := rfl
    rw [ee, ST.sts_eq, ST.sts_eq, stW] at hW
    have l1 := szL_le (b1.map ST.st)
    have l2 := szL_le (b2.map ST.st)
    exact ⟨size55_of B b1 (fun s hs => ih s (by have := ST.sz1 (k := k) (nm := nm) (e := e) (a1 := a1) (a2 := a2) (c1 := c1) (c2 := c2) (els := b2) hs; omega) (by have := stWs_mem (b1.map ST.st) s.st (List.mem_map_of_mem hs); omega)) (by omega), size55_of B b2 (fun s hs => ih s (by have := ST.sz2 (k := k) (nm := nm) (e := e) (a1 := a1) (a2 := a2) (c1 := c1) (c2 := c2) (body := b1) hs; omega) (by have := stWs_mem (b2.map ST.st) s.st (List.mem_map_of_mem hs); omega)) (by omega)⟩
theorem sizeB55_any (B : Nat) (l : List ST) (hW : stWs (l.map ST.st) ≤ 1048576) : SzLW 55 B l :=
  size55_of B l (fun s hs => size55_any B _ s (Nat.lt_succ_self _) (by have := stWs_mem (l.map ST.st) s.st (List.mem_map_of_mem hs); omega)) (by have := szL_le (l.map ST.st); omega)

set_option maxRecDepth 100000 in
set_option maxHeartbeats 6400000 in
theorem size54_of (B : Nat) (xs : List ST) (hS : ∀ x ∈ xs, SzSW 54 B x) (hW : szL (xs.map ST.st) ≤ 1048576) : SzLW 54 B xs := by
  intro a c w h1 hBw
  obtain ⟨n, hn⟩ : ∃ n, Hid (n = xs.length) := ⟨_, (rfl : xs.length = _)⟩
  obtain ⟨T, hT⟩ : ∃ T : Nat, Hid (T = szL (xs.map ST.st) ∧ T ≤ 1048576) := ⟨_, (⟨rfl, hW⟩ : _ = szL (xs.map ST.st) ∧ _)⟩
  rw [← hT.out.1]
  have hl1 := h1.1
  have hk1 := h1.2.1
  rw [← hn.out] at hl1 hk1 ⊢
  have HR : Hid (RowS B w a c xs) := h1
  have HS : Hid (∀ x ∈ xs, SzSW 54 B x) := hS
  clear h1 hS hW
  go_enter Tryz.func54, Tryz.ntmps54
  go_wp2_with fail
  go_loopw [3, 10] (fun u j wr => ∃ i : Nat, j = .int .i64 (i : Int) ∧ i ≤ n ∧ Hid ((∃ z : Nat, u = .int .i64 (z : Int) ∧ z = n + szI (((xs.map ST.st).take i))) ∧ Below w.heap.size w wr)) (fun u j _ => n - (intOf j).toNat)
  case atStart => exact ⟨0, rfl, by omega, ⟨n, rfl, by simp [szI]⟩, Below.refl _ _⟩
  case round =>
    obtain ⟨i, rfl, hi, hX⟩ := hrel
    obtain ⟨⟨z, rfl, hz_⟩, hbw⟩ := hX.out
    have hz : Hid (z = n + szI ((xs.map ST.st).take i)) := hz_
    clear hz_
    by_cases hc : i < n
    · obtain ⟨x, hx⟩ : ∃ k, xs[i]? = some k := ⟨xs[i]'(by rw [← hn.out]; exact hc), by rw [List.getElem?_eq_getElem]⟩
      have hold : Old B w wr := Old.of_below hbw hBw
      obtain ⟨g1, o1, rfl, hg1, hr1, hx1⟩ := (HR.out.old hold).at i x hx
      have hKS := HS.out x (List.mem_of_getElem? hx)
      have HT1 : Hid (szI ((xs.map ST.st).take (i + 1)) = szI ((xs.map ST.st).take i) + szJ x.st) := by
        show _ = _
        rw [List.take_add_one, List.getElem?_map, hx]
        exact szI_snoc _ _
      have HLe : Hid (n + szI ((xs.map ST.st).take (i + 1)) ≤ 1048576) := by
        have := szI_take (xs.map ST.st) (i + 1)
        have h2 := szL_eq (xs.map ST.st)
        rw [List.length_map, ← hn.out] at h2
        have h3 := hT.out
        show _ ≤ _
        omega
      have hcl := x.cells_len
      have hon := x.one
      obtain ⟨k, nm, ⟨op, t, b, enm, ea, ec, eks⟩, a1, c1, b1, a2, c2, b2⟩ := x
      obtain ⟨hKb, hKe⟩ := hKS
      obtain ⟨Y1, hY1⟩ : ∃ Y : Nat, Hid (Y = szL (b1.map ST.st)) := ⟨_, (rfl : _ = szL (b1.map ST.st))⟩
      obtain ⟨Y2, hY2⟩ : ∃ Y : Nat, Hid (Y = szL (b2.map ST.st)) := ⟨_, (rfl : _ = szL (b2.map ST.st))⟩
      have HJ : Hid (szJ (ST.mk k nm (.mk op t b enm ea ec eks) a1 c1 b1 a2 c2 b2).st = Y1 + Y2) := by
        show szL (ST.sts b1) + szL (ST.sts b2) = _
        rw [ST.sts_eq, ST.sts_eq, hY1.out, hY2.out]
      unfold ST.In at hx1
      obtain ⟨_, xe, x1, x2⟩ := hx1
      have hsz : B ≤ wr.heap.size := by have := hbw.size; omega
      have q1 : ∀ w', Below wr.heap.size wr w' → Calls Tryz.prog 54 #[.slice a1 b1.length c1] w' fun r w'' => r = .returned (.int .i64 (Y1 : Int)) ∧ Below w'.heap.size w' w'' := fun w' h => by rw [hY1.out]; exact hKb a1 c1 w' (RowS.old x1 (Old.of_below h hsz)) (by have := h.size; omega)
      have q2 : ∀ w', Below wr.heap.size wr w' → Calls Tryz.prog 54 #[.slice a2 b2.length c2] w' fun r w'' => r = .returned (.int .i64 (Y2 : Int)) ∧ Below w'.heap.size w' w'' := fun w' h => by rw [hY2.out]; exact hKe a2 c2 w' (RowS.old x2 (Old.of_below h hsz)) (by have := h.size; omega)
      simp only [ST.cells, ET.cells] at hr1 hcl hon
      generalize eks.length = en at hr1 hcl hon
      generalize b1.length = n1 at q1 hr1 hcl hon
      generalize b2.length = n2 at q2 hr1 hcl hon
      have hr1 : wr.rangeAt g1 (o1 + i * 9) (st9 k nm (ex5 op t b enm (.slice ea en ec)) (.slice a1 n1 c1) (.slice a2 n2 c2)) := hr1
      have Q1_ : Hid _ := q1
      have Q2_ : Hid _ := q2
      have HA : Hid (IntKind.i64.wrap ((z : Int) + IntKind.i64.wrap ((Y1 : Int) + (Y2 : Int))) = ((n + szI ((xs.map ST.st).take (i + 1)) : Nat) : Int)) := by
        have h1 := HT1.out
        have h2 := HJ.out
        have h3 := hz.out
        have h4 := HLe.out
        show _ = _
        rw [h2] at h1
        have e1 : n + szI ((xs.map ST.st).take (i + 1)) = z + (Y1 + Y2) := by omega
        rw [e1] at h4 ⊢
        first
          | (rw [wr_add z Y1 (by omega), wr_add (z + Y1) Y2 (by omega), Nat.add_assoc])
          | (rw [wr_add Y1 Y2 (by omega), wr_add z (Y1 + Y2) (by omega)])
      clear hX hx hold xe x1 x2 q1 q2 hKb hKe HR HS hY1 hY2 HT1 HJ HLe
      go_wp2_with (first
        | ((with_reducible show wpList _ _ _ _ _ _); refine wpList_load_mid (P := Tryz.prog) rfl 87 (.tmp 12) rfl g1 (o1 + i * 9) (by first | rfl | (simp; done)) (st9 k nm (ex5 op t b enm (.slice ea en ec)) (.slice a1 n1 c1) (.slice a2 n2 c2)) _ hr1 Tryz.underlying87 rfl i38 ?_)
        | ((with_reducible show wpList _ _ _ _ _ _); refine wpList_alloc_at rfl 87 rfl _ 9 z38 ?_; intro w3 hA3 hb3 hs3)
        | ((with_reducible show wpList _ _ _ _ _ _); refine wpList_store_at (P := Tryz.prog) rfl 87 (.tmp 5) (.tmp 13) rfl wr.heap.size (st9 k nm (ex5 op t b enm (.slice ea en ec)) (.slice a1 n1 c1) (.slice a2 n2 c2)) rfl rfl 87 _ hA3 i38 rfl hon ?_; intro w4 hA4 hb4 hs4; refine Hid.out ?_))
      refine hidU ?_
      have hB4 : Below wr.heap.size wr w4 := hb4.below hb3 (Nat.le_refl _) (by omega)
      have Q1 : Hid (∀ w', Below w4.heap.size w4 w' → Calls Tryz.prog 54 #[.slice a1 n1 c1] w' fun r w'' => r = .returned (.int .i64 (Y1 : Int)) ∧ Below w'.heap.size w' w'') := fun w' h => Q1_.out w' (hB4.trans (h.mono hB4.size))
      have Q2 : Hid (∀ w', Below w4.heap.size w4 w' → Calls Tryz.prog 54 #[.slice a2 n2 c2] w' fun r w'' => r = .returned (.int .i64 (Y2 : Int)) ∧ Below w'.heap.size w' w'') := fun w' h => Q2_.out w' (hB4.trans (h.mono hB4.size))
      have HE : Hid (∀ w', Below w4.heap.size w4 w' → w'.cell? ⟨wr.heap.size, 7, none⟩ = some (.slice a1 n1 c1) ∧ w'.cell? ⟨wr.heap.size, 8, none⟩ = some (.slice a2 n2 c2)) := fun w' h => (st_cells (hA4.below h)).2.2.2.2.2.2.2
      have hS0 : Below w4.heap.size w4 w4.drew := Below.drew (Below.refl _ _)
      clear hb4 hb3 hA3 hr1 hs3 hs4 hA4 Q1_ Q2_ hcl hon
      go_wp2_with fail
      refine wp_region_held_drew (S := fun x => Below w4.heap.size w4 x) (by kernel_rfl) hS0 (fun _ => ?_)
      refine wpAnyH_take (i := 0) (oi := { dst := some 14, op := .move (.tmp 3), type := _, pos := _, after := _, guard := none }) (v := .int .i64 (z : Int)) rfl (by kernel_rfl) (by kernel_rfl) (by kernel_rfl) (fun _ _ _ h => h) (Or.inl ⟨by rfl, ?_⟩) hS0 ?_
      · intro w hSw
        go_simp
      simp only [Act.put, List.setIfInBounds_toArray, List.set_cons_zero, List.set_cons_succ]
      refine wpAnyH_take (i := 1) (oi := { dst := some 15, op := .fieldAddr 87 (.tmp 5) 3, type := _, pos := _, after := _, guard := none }) (v := .pointer (some ⟨wr.heap.size, 7, none⟩)) rfl (by kernel_rfl) (by kernel_rfl) (by kernel_rfl) (fun _ _ _ h => h) (Or.inl ⟨by rfl, ?_⟩) hS0 ?_
      · intro w hSw
        go_simp
      simp only [Act.put, List.setIfInBounds_toArray, List.set_cons_zero, List.set_cons_succ]
      refine wpAnyH_take (i := 2) (oi := { dst := some 16, op := .load 57 (.tmp 15), type := _, pos := _, after := _, guard := none }) (v := .slice a1 n1 c1) rfl (by kernel_rfl) (by kernel_rfl) (by kernel_rfl) (fun _ _ _ h => h) (Or.inl ⟨by rfl, ?_⟩) hS0 ?_
      · intro w hSw
        have z7 := (HE.out w hSw).1
        go_simp
      simp only [Act.put, List.setIfInBounds_toArray, List.set_cons_zero, List.set_cons_succ]
      refine wpAnyH_take (i := 4) (oi := { dst := some 18, op := .fieldAddr 87 (.tmp 5) 4, type := _, pos := _, after := _, guard := none }) (v := .pointer (some ⟨wr.heap.size, 8, none⟩)) rfl (by kernel_rfl) (by kernel_rfl) (by kernel_rfl) (fun _ _ _ h => h) (Or.inl ⟨by rfl, ?_⟩) hS0 ?_
      · intro w hSw
        go_simp
      simp only [Act.put, List.setIfInBounds_toArray, List.set_cons_zero, List.set_cons_succ]
      refine wpAnyH_take (i := 5) (oi := { dst := some 19, op := .load 57 (.tmp 18), type := _, pos := _, after := _, guard := none }) (v := .slice a2 n2 c2) rfl (by kernel_rfl) (by kernel_rfl) (by kernel_rfl) (fun _ _ _ h => h) (Or.inl ⟨by rfl, ?_⟩) hS0 ?_
      · intro w hSw
        have z7 := (HE.out w hSw).2
        go_simp
      simp only [Act.put, List.setIfInBounds_toArray, List.set_cons_zero, List.set_cons_succ]
      refine wpAnyH_ready (rs := [3]) (by kernel_rfl) (by simp) ?_
      refine AllReadyH.cons (o := { dst := some 17, op := .call { callee := .value (.func 54), args := #[.tmp 16], argTypes := #[57] }, type := _, pos := _, after := _, guard := none }) rfl (fun K hK => ?_) AllReadyH.nil
      rw [if_pos (by rfl)]
      go_wp2_with (go_at_call 54; refine (Q1.out _ hS0).mono ?_; rintro e x1 ⟨rfl, hb1⟩)
      have hS1 := hS0.trans (hb1.mono hS0.size)
      refine hK.out _ _ hS1 (fun _ => ?_)
      refine wpAnyH_ready (rs := [6]) (by kernel_rfl) (by simp) ?_
      refine AllReadyH.cons (o := { dst := some 20, op := .call { callee := .value (.func 54), args := #[.tmp 19], argTypes := #[57] }, type := _, pos := _, after := _, guard := none }) rfl (fun K hK => ?_) AllReadyH.nil
      rw [if_pos (by rfl)]
      go_wp2_with (go_at_call 54; refine (Q2.out _ hS1).mono ?_; rintro e x2 ⟨rfl, hb2⟩)
      have hS2 := hS1.trans (hb2.mono hS1.size)
      refine hK.out _ _ hS2 (fun _ => ?_)
      refine wpAnyH_take (i := 7) (oi := { dst := some 21, op := .binOp .add 3 (.tmp 17) (.tmp 20) 3, type := _, pos := _, after := _, guard := none }) (v := .int .i64 (IntKind.i64.wrap ((Y1 : Int) + (Y2 : Int)))) rfl (by kernel_rfl) (by kernel_rfl) (by kernel_rfl) (fun _ _ _ h => h) (Or.inl ⟨by rfl, ?_⟩) hS2 ?_
      · intro w hSw
        go_simp
      simp only [Act.put, List.setIfInBounds_toArray, List.set_cons_zero, List.set_cons_succ]
      refine wpAnyH_take (i := 8) (oi := { dst := some 22, op := .binOp .add 3 (.tmp 14) (.tmp 21) 3, type := _, pos := _, after := _, guard := none }) (v := .int .i64 (IntKind.i64.wrap ((z : Int) + IntKind.i64.wrap ((Y1 : Int) + (Y2 : Int))))) rfl (by kernel_rfl) (by kernel_rfl) (by kernel_rfl) (fun _ _ _ h => h) (Or.inl ⟨by rfl, ?_⟩) hS2 ?_
      · intro w hSw
        go_simp
      simp only [Act.put, List.setIfInBounds_toArray, List.set_cons_zero, List.set_cons_succ]
      refine wpAnyH_take (i := 9) (oi := { dst := some 3, op := .assign (.tmp 22), type := _, pos := _, after := _, guard := none }) (v := .int .i64 (IntKind.i64.wrap ((z : Int) + IntKind.i64.wrap ((Y1 : Int) + (Y2 : Int))))) rfl (by kernel_rfl) (by kernel_rfl) (by kernel_rfl) (fun _ _ _ h => h) (Or.inl ⟨by rfl, ?_⟩) hS2 ?_
      · intro w hSw
        go_simp
      simp only [Act.put, List.setIfInBounds_toArray, List.set_cons_zero, List.set_cons_succ]
      refine wpAnyH_done (by kernel_rfl) ?_ _
      have hw3 : Below w.heap.size w x2 := hbw.trans ((hB4.trans (hS2.mono hB4.size)).mono hbw.size)
      go_wp2
      go_roundw
      case rel => exact ⟨i + 1, by go_num, by omega, ⟨_, by rw [HA.out], rfl⟩, hw3⟩
      case measure => simp [intOf]; omega
    · have hin : i = n := by omega
      have hzT : z = T := by
        rw [hz.out, hT.out.1, szL_eq, hin, hn.out, List.take_of_length_le (by simp), List.length_map]
      clear hX hz
      go_wp2
      go_ret
      exact ⟨by rw [hzT]; rfl, hbw⟩

theorem size54_any (B : Nat) (M : Nat) : ∀ x : ST, SizeOf.sizeOf x < M → stW x.st ≤ 1048576 → SzSW 54 B x := by
  induction M with
  | zero => intro x h; omega
  | succ M ih =>
    rintro ⟨k, nm, e, a1, c1, b1, a2, c2, b2⟩ hN hW
    have ee : (ST.mk k nm e a1 c1 b1 a2 c2 b2).st = .mk k nm.data.toList e.ex (ST.sts b1) (ST.sts b2) := rfl
    rw [ee, ST.sts_eq, ST.sts_eq, stW] at hW
    have l1 := szL_le (b1.map ST.st)
    have l2 := szL_le (b2.map ST.st)
    exact ⟨size54_of B b1 (fun s hs => ih s (by have := ST.sz1 (k := k) (nm := nm) (e := e) (a1 := a1) (a2 := a2) (c1 := c1) (c2 := c2) (els := b2) hs; omega) (by have := stWs_mem (b1.map ST.st) s.st (List.mem_map_of_mem hs); omega)) (by omega), size54_of B b2 (fun s hs => ih s (by have := ST.sz2 (k := k) (nm := nm) (e := e) (a1 := a1) (a2 := a2) (c1 := c1) (c2 := c2) (body := b1) hs; omega) (by have := stWs_mem (b2.map ST.st) s.st (List.mem_map_of_mem hs); omega)) (by omega)⟩
theorem sizeB54_any (B : Nat) (l : List ST) (hW : stWs (l.map ST.st) ≤ 1048576) : SzLW 54 B l :=
  size54_of B l (fun s hs => size54_any B _ s (Nat.lt_succ_self _) (by have := stWs_mem (l.map ST.st) s.st (List.mem_map_of_mem hs); omega)) (by have := szL_le (l.map ST.st); omega)

end Go.Proofs.YtcmahiphfpgadaaGreatDoor
