/- Whether an instruction, what a node does last, and its other road may be. -/
import Derived.Test.YtefklmckkigllaaCkB
namespace Go.Proofs.Ytefklmckkigllaa
open Go.RowKit
set_option linter.unusedVariables false

theorem eq35 (t b t' b' : Nat) (u : World) : (Op.equalIn 10000 35 (.agg #[.int .u8 (t : Int), .int .u64 (b : Int)]) (.agg #[.int .u8 (t' : Int), .int .u64 (b' : Int)])).run Try.prog u = .ok (decide (t = t' ∧ b = b')) u := by
  by_cases h1 : t = t'
  · by_cases h2 : b = b'
    · subst h1 h2
      simp only [and_self, decide_true]
      go_simp
    · have hp : ((b : Int) == (b' : Int)) = false := by rw [beq_eq_false_iff_ne]; omega
      subst h1
      simp only [h2, and_false, decide_false]
      go_simp
  · have he : ((t : Int) == (t' : Int)) = false := by rw [beq_eq_false_iff_ne]; omega
    simp only [h1, false_and, decide_false]
    go_simp

/-- Whether an instruction may be, of so many locals and shared variables. -/
def mayI (nl ns : Nat) (x : Ir) : Bool :=
  if x.op = 1 then decide (x.arg = 0) && mayV x.v
  else if x.op = 30 then isP x.arg nl && decide (x.v.t = 0 ∧ x.v.b = 0)
  else if x.op = 31 then isP x.arg ns && decide (x.v.t = 0 ∧ x.v.b = 0)
  else decide (3 ≤ x.op) && (decide (x.op ≤ 19) && (decide (x.arg = 0) && decide (x.v.t = 0 ∧ x.v.b = 0)))

theorem below_drewN (w : World) (m : Nat) : Below w.heap.size w (w.drewN m) := ⟨rfl, rfl, rfl, Nat.le_refl _, fun _ _ => rfl⟩

set_option maxRecDepth 100000 in
set_option maxHeartbeats 3200000 in
theorem mayInstr_any (g : Nat) (a1 a2 : Option Addr) (ns c1 nl c2 : Nat) (x : Ir) (hx : x.Ok) (w : World) (q0 : w.cell? ⟨g, 0, none⟩ = some (.slice a1 ns c1)) (q3 : w.cell? ⟨g, 3, none⟩ = some (.slice a2 nl c2)) :
    Calls Try.prog 82 #[.pointer (some ⟨g, 0, none⟩), .agg x.cells.toArray] w fun e w' => e = .returned (.bool (mayI nl ns x)) ∧ Below w.heap.size w w' := by
  obtain ⟨op, arg, ⟨t, b⟩⟩ := x
  obtain ⟨ho, ha, hv⟩ := hx
  have hlg : g < w.heap.size := lt_of_cell q0
  have hM : ∀ u, Calls Try.prog 47 #[.agg #[.int .u8 (t : Int), .int .u64 (b : Int)]] u fun e w' => e = .returned (.bool (mayV ⟨t, b⟩)) ∧ Below u.heap.size u w' := fun u => mayValue_any ⟨t, b⟩ hv u
  have hQ := fun u => eq35 t b 0 0 u
  have hQ : ∀ u, (Op.equalIn 10000 35 (.agg #[.int .u8 (t : Int), .int .u64 (b : Int)]) (.agg #[.int .u8 0, .int .u64 0])).run Try.prog u = .ok (decide (t = 0 ∧ b = 0)) u := hQ
  dsimp only at ho ha
  unfold mayI
  simp only [Ir.cells]
  generalize mayV ⟨t, b⟩ = MV at *
  generalize decide (t = 0 ∧ b = 0) = Z at *
  clear hv
  by_cases h1 : op = 1
  · rw [if_pos h1]
    have h1' : ((op : Int) == 1) = true := by rw [beq_iff_eq]; omega
    clear h1 hQ
    by_cases hz : arg = 0
    · rw [decide_eq_true hz, Bool.true_and]
      have hz' : (arg == 0) = true := by rw [beq_iff_eq]; exact hz
      clear hz
      go_enter Try.func82, Try.ntmps82
      go_wp2_with (first
        | ((with_reducible show wpList _ _ _ _ _ _); refine wpList_box_at rfl 37 (.tmp 1) rfl [.int .u8 (op : Int), .int .i64 arg, .int .u8 (t : Int), .int .u64 (b : Int)] rfl ?_; intro w1 hA1 hb1 hs1; clear hs1; refine Hid.out ?_))
      refine hidU ?_
      have c0 : w1.cell? ⟨w.heap.size, 0, none⟩ = some (.int .u8 (op : Int)) := by rw [hA1.cell]; rfl
      have c1 : w1.cell? ⟨w.heap.size, 1, none⟩ = some (.int .i64 arg) := by rw [hA1.cell]; rfl
      have c2 : w1.cell? ⟨w.heap.size, 2, none⟩ = some (.int .u8 (t : Int)) := by rw [hA1.cell]; rfl
      have c3 : w1.cell? ⟨w.heap.size, 3, none⟩ = some (.int .u64 (b : Int)) := by rw [hA1.cell]; rfl
      clear hA1
      rw [← hb1.cell hlg] at q0 q3
      go_wp2_with (first
        | ((with_reducible show wpList _ _ _ _ _ _); refine wpList_build_at rfl 35 _ rfl [.int .u8 0, .int .u64 0] (by kernel_rfl) ?_)
        | ((with_reducible show wpList _ _ _ _ _ _); refine wpList_alloc_at rfl 35 rfl [.int .u8 0, .int .u64 0] 2 z35 ?_; intro w2 hA2 hb2 hs2; clear hs2)
        | ((with_reducible show wpList _ _ _ _ _ _); refine wpList_store_at (P := Try.prog) rfl 35 (.tmp 5) (.tmp 6) rfl w1.heap.size [.int .u8 0, .int .u64 0] rfl rfl 35 _ hA2 i35 rfl (Vl.one ⟨0, 0⟩) ?_; intro w3 hA3 hb3 hs3; clear hs3; refine Hid.out ?_))
      refine hidU ?_
      have hl1 : w.heap.size < w1.heap.size := lt_of_cell c0
      have hB3 : Below w1.heap.size w1 w3 := hb3.below hb2 (Nat.le_refl _) hb2.size
      have hBw : Below w.heap.size w w3 := hb1.trans (hB3.mono hb1.size)
      rw [← hB3.cell hl1] at c0 c1 c2 c3
      rw [← hB3.cell (lt_of_cell q0)] at q0
      rw [← hB3.cell (lt_of_cell q3)] at q3
      have d0 : w3.cell? ⟨w1.heap.size, 0, none⟩ = some (.int .u8 0) := by rw [hA3.cell]; rfl
      have d1 : w3.cell? ⟨w1.heap.size, 1, none⟩ = some (.int .u64 0) := by rw [hA3.cell]; rfl
      clear hA2 hA3 hb1 hb2 hb3 hB3 hl1
      go_wp2_with (first
        | (go_at_call 47; refine (hM _).mono ?_; rintro r w4 ⟨rfl, hb4⟩))
      go_ret
      exact ⟨rfl, hBw.trans (hb4.mono hBw.size)⟩
    · rw [decide_eq_false hz, Bool.false_and]
      have hz' : (arg == 0) = false := by rw [beq_eq_false_iff_ne]; exact hz
      clear hz
      go_enter Try.func82, Try.ntmps82
      go_wp2_with (first
        | ((with_reducible show wpList _ _ _ _ _ _); refine wpList_box_at rfl 37 (.tmp 1) rfl [.int .u8 (op : Int), .int .i64 arg, .int .u8 (t : Int), .int .u64 (b : Int)] rfl ?_; intro w1 hA1 hb1 hs1; clear hs1; refine Hid.out ?_))
      refine hidU ?_
      have c0 : w1.cell? ⟨w.heap.size, 0, none⟩ = some (.int .u8 (op : Int)) := by rw [hA1.cell]; rfl
      have c1 : w1.cell? ⟨w.heap.size, 1, none⟩ = some (.int .i64 arg) := by rw [hA1.cell]; rfl
      have c2 : w1.cell? ⟨w.heap.size, 2, none⟩ = some (.int .u8 (t : Int)) := by rw [hA1.cell]; rfl
      have c3 : w1.cell? ⟨w.heap.size, 3, none⟩ = some (.int .u64 (b : Int)) := by rw [hA1.cell]; rfl
      clear hA1
      rw [← hb1.cell hlg] at q0 q3
      go_wp2_with (first
        | ((with_reducible show wpList _ _ _ _ _ _); refine wpList_build_at rfl 35 _ rfl [.int .u8 0, .int .u64 0] (by kernel_rfl) ?_)
        | ((with_reducible show wpList _ _ _ _ _ _); refine wpList_alloc_at rfl 35 rfl [.int .u8 0, .int .u64 0] 2 z35 ?_; intro w2 hA2 hb2 hs2; clear hs2)
        | ((with_reducible show wpList _ _ _ _ _ _); refine wpList_store_at (P := Try.prog) rfl 35 (.tmp 5) (.tmp 6) rfl w1.heap.size [.int .u8 0, .int .u64 0] rfl rfl 35 _ hA2 i35 rfl (Vl.one ⟨0, 0⟩) ?_; intro w3 hA3 hb3 hs3; clear hs3; refine Hid.out ?_))
      refine hidU ?_
      have hl1 : w.heap.size < w1.heap.size := lt_of_cell c0
      have hB3 : Below w1.heap.size w1 w3 := hb3.below hb2 (Nat.le_refl _) hb2.size
      have hBw : Below w.heap.size w w3 := hb1.trans (hB3.mono hb1.size)
      rw [← hB3.cell hl1] at c0 c1 c2 c3
      rw [← hB3.cell (lt_of_cell q0)] at q0
      rw [← hB3.cell (lt_of_cell q3)] at q3
      have d0 : w3.cell? ⟨w1.heap.size, 0, none⟩ = some (.int .u8 0) := by rw [hA3.cell]; rfl
      have d1 : w3.cell? ⟨w1.heap.size, 1, none⟩ = some (.int .u64 0) := by rw [hA3.cell]; rfl
      clear hA2 hA3 hb1 hb2 hb3 hB3 hl1
      go_wp2
      go_ret
      exact ⟨rfl, hBw⟩
  · rw [if_neg h1]
    have h1' : ((op : Int) == 1) = false := by rw [beq_eq_false_iff_ne]; omega
    clear hM
    by_cases h2 : op = 30
    · rw [if_pos h2]
      have h2' : ((op : Int) == 30) = true := by rw [beq_iff_eq]; omega
      clear h1 h2
      have hP := fun u => isPlace_any arg nl u
      generalize isP arg nl = PL at *
      cases PL with
      | true =>
        rw [Bool.true_and]
        go_enter Try.func82, Try.ntmps82
        go_wp2_with (first
          | ((with_reducible show wpList _ _ _ _ _ _); refine wpList_box_at rfl 37 (.tmp 1) rfl [.int .u8 (op : Int), .int .i64 arg, .int .u8 (t : Int), .int .u64 (b : Int)] rfl ?_; intro w1 hA1 hb1 hs1; clear hs1; refine Hid.out ?_))
        refine hidU ?_
        have c0 : w1.cell? ⟨w.heap.size, 0, none⟩ = some (.int .u8 (op : Int)) := by rw [hA1.cell]; rfl
        have c1 : w1.cell? ⟨w.heap.size, 1, none⟩ = some (.int .i64 arg) := by rw [hA1.cell]; rfl
        have c2 : w1.cell? ⟨w.heap.size, 2, none⟩ = some (.int .u8 (t : Int)) := by rw [hA1.cell]; rfl
        have c3 : w1.cell? ⟨w.heap.size, 3, none⟩ = some (.int .u64 (b : Int)) := by rw [hA1.cell]; rfl
        clear hA1
        rw [← hb1.cell hlg] at q0 q3
        go_wp2_with (first
          | ((with_reducible show wpList _ _ _ _ _ _); refine wpList_build_at rfl 35 _ rfl [.int .u8 0, .int .u64 0] (by kernel_rfl) ?_)
          | ((with_reducible show wpList _ _ _ _ _ _); refine wpList_alloc_at rfl 35 rfl [.int .u8 0, .int .u64 0] 2 z35 ?_; intro w2 hA2 hb2 hs2; clear hs2)
          | ((with_reducible show wpList _ _ _ _ _ _); refine wpList_store_at (P := Try.prog) rfl 35 (.tmp 5) (.tmp 6) rfl w1.heap.size [.int .u8 0, .int .u64 0] rfl rfl 35 _ hA2 i35 rfl (Vl.one ⟨0, 0⟩) ?_; intro w3 hA3 hb3 hs3; clear hs3; refine Hid.out ?_))
        refine hidU ?_
        have hl1 : w.heap.size < w1.heap.size := lt_of_cell c0
        have hB3 : Below w1.heap.size w1 w3 := hb3.below hb2 (Nat.le_refl _) hb2.size
        have hBw : Below w.heap.size w w3 := hb1.trans (hB3.mono hb1.size)
        rw [← hB3.cell hl1] at c0 c1 c2 c3
        rw [← hB3.cell (lt_of_cell q0)] at q0
        rw [← hB3.cell (lt_of_cell q3)] at q3
        have d0 : w3.cell? ⟨w1.heap.size, 0, none⟩ = some (.int .u8 0) := by rw [hA3.cell]; rfl
        have d1 : w3.cell? ⟨w1.heap.size, 1, none⟩ = some (.int .u64 0) := by rw [hA3.cell]; rfl
        clear hA2 hA3 hb1 hb2 hb3 hB3 hl1
        go_wp2_with fail
        go_quiet (first | (go_at_call 45; exact Calls.quiet_of_same (hP _)))
        go_wp2
        go_ret
        exact ⟨rfl, hBw.trans ((below_drewN _ _).mono hBw.size)⟩
      | false =>
        rw [Bool.false_and]
        go_enter Try.func82, Try.ntmps82
        go_wp2_with (first
          | ((with_reducible show wpList _ _ _ _ _ _); refine wpList_box_at rfl 37 (.tmp 1) rfl [.int .u8 (op : Int), .int .i64 arg, .int .u8 (t : Int), .int .u64 (b : Int)] rfl ?_; intro w1 hA1 hb1 hs1; clear hs1; refine Hid.out ?_))
        refine hidU ?_
        have c0 : w1.cell? ⟨w.heap.size, 0, none⟩ = some (.int .u8 (op : Int)) := by rw [hA1.cell]; rfl
        have c1 : w1.cell? ⟨w.heap.size, 1, none⟩ = some (.int .i64 arg) := by rw [hA1.cell]; rfl
        have c2 : w1.cell? ⟨w.heap.size, 2, none⟩ = some (.int .u8 (t : Int)) := by rw [hA1.cell]; rfl
        have c3 : w1.cell? ⟨w.heap.size, 3, none⟩ = some (.int .u64 (b : Int)) := by rw [hA1.cell]; rfl
        clear hA1
        rw [← hb1.cell hlg] at q0 q3
        go_wp2_with (first
          | ((with_reducible show wpList _ _ _ _ _ _); refine wpList_build_at rfl 35 _ rfl [.int .u8 0, .int .u64 0] (by kernel_rfl) ?_)
          | ((with_reducible show wpList _ _ _ _ _ _); refine wpList_alloc_at rfl 35 rfl [.int .u8 0, .int .u64 0] 2 z35 ?_; intro w2 hA2 hb2 hs2; clear hs2)
          | ((with_reducible show wpList _ _ _ _ _ _); refine wpList_store_at (P := Try.prog) rfl 35 (.tmp 5) (.tmp 6) rfl w1.heap.size [.int .u8 0, .int .u64 0] rfl rfl 35 _ hA2 i35 rfl (Vl.one ⟨0, 0⟩) ?_; intro w3 hA3 hb3 hs3; clear hs3; refine Hid.out ?_))
        refine hidU ?_
        have hl1 : w.heap.size < w1.heap.size := lt_of_cell c0
        have hB3 : Below w1.heap.size w1 w3 := hb3.below hb2 (Nat.le_refl _) hb2.size
        have hBw : Below w.heap.size w w3 := hb1.trans (hB3.mono hb1.size)
        rw [← hB3.cell hl1] at c0 c1 c2 c3
        rw [← hB3.cell (lt_of_cell q0)] at q0
        rw [← hB3.cell (lt_of_cell q3)] at q3
        have d0 : w3.cell? ⟨w1.heap.size, 0, none⟩ = some (.int .u8 0) := by rw [hA3.cell]; rfl
        have d1 : w3.cell? ⟨w1.heap.size, 1, none⟩ = some (.int .u64 0) := by rw [hA3.cell]; rfl
        clear hA2 hA3 hb1 hb2 hb3 hB3 hl1
        go_wp2_with fail
        go_quiet (first | (go_at_call 45; exact Calls.quiet_of_same (hP _)))
        go_wp2
        go_ret
        exact ⟨rfl, hBw.trans ((below_drewN _ _).mono hBw.size)⟩
    · rw [if_neg h2]
      have h2' : ((op : Int) == 30) = false := by rw [beq_eq_false_iff_ne]; omega
      by_cases h3 : op = 31
      · rw [if_pos h3]
        have h3' : ((op : Int) == 31) = true := by rw [beq_iff_eq]; omega
        clear h1 h2 h3
        have hP := fun u => isPlace_any arg ns u
        generalize isP arg ns = PL at *
        cases PL with
        | true =>
          rw [Bool.true_and]
          go_enter Try.func82, Try.ntmps82
          go_wp2_with (first
            | ((with_reducible show wpList _ _ _ _ _ _); refine wpList_box_at rfl 37 (.tmp 1) rfl [.int .u8 (op : Int), .int .i64 arg, .int .u8 (t : Int), .int .u64 (b : Int)] rfl ?_; intro w1 hA1 hb1 hs1; clear hs1; refine Hid.out ?_))
          refine hidU ?_
          have c0 : w1.cell? ⟨w.heap.size, 0, none⟩ = some (.int .u8 (op : Int)) := by rw [hA1.cell]; rfl
          have c1 : w1.cell? ⟨w.heap.size, 1, none⟩ = some (.int .i64 arg) := by rw [hA1.cell]; rfl
          have c2 : w1.cell? ⟨w.heap.size, 2, none⟩ = some (.int .u8 (t : Int)) := by rw [hA1.cell]; rfl
          have c3 : w1.cell? ⟨w.heap.size, 3, none⟩ = some (.int .u64 (b : Int)) := by rw [hA1.cell]; rfl
          clear hA1
          rw [← hb1.cell hlg] at q0 q3
          go_wp2_with (first
            | ((with_reducible show wpList _ _ _ _ _ _); refine wpList_build_at rfl 35 _ rfl [.int .u8 0, .int .u64 0] (by kernel_rfl) ?_)
            | ((with_reducible show wpList _ _ _ _ _ _); refine wpList_alloc_at rfl 35 rfl [.int .u8 0, .int .u64 0] 2 z35 ?_; intro w2 hA2 hb2 hs2; clear hs2)
            | ((with_reducible show wpList _ _ _ _ _ _); refine wpList_store_at (P := Try.prog) rfl 35 (.tmp 5) (.tmp 6) rfl w1.heap.size [.int .u8 0, .int .u64 0] rfl rfl 35 _ hA2 i35 rfl (Vl.one ⟨0, 0⟩) ?_; intro w3 hA3 hb3 hs3; clear hs3; refine Hid.out ?_))
          refine hidU ?_
          have hl1 : w.heap.size < w1.heap.size := lt_of_cell c0
          have hB3 : Below w1.heap.size w1 w3 := hb3.below hb2 (Nat.le_refl _) hb2.size
          have hBw : Below w.heap.size w w3 := hb1.trans (hB3.mono hb1.size)
          rw [← hB3.cell hl1] at c0 c1 c2 c3
          rw [← hB3.cell (lt_of_cell q0)] at q0
          rw [← hB3.cell (lt_of_cell q3)] at q3
          have d0 : w3.cell? ⟨w1.heap.size, 0, none⟩ = some (.int .u8 0) := by rw [hA3.cell]; rfl
          have d1 : w3.cell? ⟨w1.heap.size, 1, none⟩ = some (.int .u64 0) := by rw [hA3.cell]; rfl
          clear hA2 hA3 hb1 hb2 hb3 hB3 hl1
          go_wp2_with fail
          go_quiet (first | (go_at_call 45; exact Calls.quiet_of_same (hP _)))
          go_wp2
          go_ret
          exact ⟨rfl, hBw.trans ((below_drewN _ _).mono hBw.size)⟩
        | false =>
          rw [Bool.false_and]
          go_enter Try.func82, Try.ntmps82
          go_wp2_with (first
            | ((with_reducible show wpList _ _ _ _ _ _); refine wpList_box_at rfl 37 (.tmp 1) rfl [.int .u8 (op : Int), .int .i64 arg, .int .u8 (t : Int), .int .u64 (b : Int)] rfl ?_; intro w1 hA1 hb1 hs1; clear hs1; refine Hid.out ?_))
          refine hidU ?_
          have c0 : w1.cell? ⟨w.heap.size, 0, none⟩ = some (.int .u8 (op : Int)) := by rw [hA1.cell]; rfl
          have c1 : w1.cell? ⟨w.heap.size, 1, none⟩ = some (.int .i64 arg) := by rw [hA1.cell]; rfl
          have c2 : w1.cell? ⟨w.heap.size, 2, none⟩ = some (.int .u8 (t : Int)) := by rw [hA1.cell]; rfl
          have c3 : w1.cell? ⟨w.heap.size, 3, none⟩ = some (.int .u64 (b : Int)) := by rw [hA1.cell]; rfl
          clear hA1
          rw [← hb1.cell hlg] at q0 q3
          go_wp2_with (first
            | ((with_reducible show wpList _ _ _ _ _ _); refine wpList_build_at rfl 35 _ rfl [.int .u8 0, .int .u64 0] (by kernel_rfl) ?_)
            | ((with_reducible show wpList _ _ _ _ _ _); refine wpList_alloc_at rfl 35 rfl [.int .u8 0, .int .u64 0] 2 z35 ?_; intro w2 hA2 hb2 hs2; clear hs2)
            | ((with_reducible show wpList _ _ _ _ _ _); refine wpList_store_at (P := Try.prog) rfl 35 (.tmp 5) (.tmp 6) rfl w1.heap.size [.int .u8 0, .int .u64 0] rfl rfl 35 _ hA2 i35 rfl (Vl.one ⟨0, 0⟩) ?_; intro w3 hA3 hb3 hs3; clear hs3; refine Hid.out ?_))
          refine hidU ?_
          have hl1 : w.heap.size < w1.heap.size := lt_of_cell c0
          have hB3 : Below w1.heap.size w1 w3 := hb3.below hb2 (Nat.le_refl _) hb2.size
          have hBw : Below w.heap.size w w3 := hb1.trans (hB3.mono hb1.size)
          rw [← hB3.cell hl1] at c0 c1 c2 c3
          rw [← hB3.cell (lt_of_cell q0)] at q0
          rw [← hB3.cell (lt_of_cell q3)] at q3
          have d0 : w3.cell? ⟨w1.heap.size, 0, none⟩ = some (.int .u8 0) := by rw [hA3.cell]; rfl
          have d1 : w3.cell? ⟨w1.heap.size, 1, none⟩ = some (.int .u64 0) := by rw [hA3.cell]; rfl
          clear hA2 hA3 hb1 hb2 hb3 hB3 hl1
          go_wp2_with fail
          go_quiet (first | (go_at_call 45; exact Calls.quiet_of_same (hP _)))
          go_wp2
          go_ret
          exact ⟨rfl, hBw.trans ((below_drewN _ _).mono hBw.size)⟩
      · rw [if_neg h3]
        have h3' : ((op : Int) == 31) = false := by rw [beq_eq_false_iff_ne]; omega
        clear h1 h2 h3
        by_cases h4 : 3 ≤ op
        · rw [decide_eq_true h4, Bool.true_and]
          have h4' : decide ((3 : Int) ≤ op) = true := decide_eq_true (by omega)
          by_cases h5 : op ≤ 19
          · rw [decide_eq_true h5, Bool.true_and]
            have h5' : decide ((op : Int) ≤ 19) = true := decide_eq_true (by omega)
            by_cases hz : arg = 0
            · rw [decide_eq_true hz, Bool.true_and]
              have hz' : (arg == 0) = true := by rw [beq_iff_eq]; exact hz
              clear hz h4 h5
              go_enter Try.func82, Try.ntmps82
              go_wp2_with (first
                | ((with_reducible show wpList _ _ _ _ _ _); refine wpList_box_at rfl 37 (.tmp 1) rfl [.int .u8 (op : Int), .int .i64 arg, .int .u8 (t : Int), .int .u64 (b : Int)] rfl ?_; intro w1 hA1 hb1 hs1; clear hs1; refine Hid.out ?_))
              refine hidU ?_
              have c0 : w1.cell? ⟨w.heap.size, 0, none⟩ = some (.int .u8 (op : Int)) := by rw [hA1.cell]; rfl
              have c1 : w1.cell? ⟨w.heap.size, 1, none⟩ = some (.int .i64 arg) := by rw [hA1.cell]; rfl
              have c2 : w1.cell? ⟨w.heap.size, 2, none⟩ = some (.int .u8 (t : Int)) := by rw [hA1.cell]; rfl
              have c3 : w1.cell? ⟨w.heap.size, 3, none⟩ = some (.int .u64 (b : Int)) := by rw [hA1.cell]; rfl
              clear hA1
              rw [← hb1.cell hlg] at q0 q3
              go_wp2_with (first
                | ((with_reducible show wpList _ _ _ _ _ _); refine wpList_build_at rfl 35 _ rfl [.int .u8 0, .int .u64 0] (by kernel_rfl) ?_)
                | ((with_reducible show wpList _ _ _ _ _ _); refine wpList_alloc_at rfl 35 rfl [.int .u8 0, .int .u64 0] 2 z35 ?_; intro w2 hA2 hb2 hs2; clear hs2)
                | ((with_reducible show wpList _ _ _ _ _ _); refine wpList_store_at (P := Try.prog) rfl 35 (.tmp 5) (.tmp 6) rfl w1.heap.size [.int .u8 0, .int .u64 0] rfl rfl 35 _ hA2 i35 rfl (Vl.one ⟨0, 0⟩) ?_; intro w3 hA3 hb3 hs3; clear hs3; refine Hid.out ?_))
              refine hidU ?_
              have hl1 : w.heap.size < w1.heap.size := lt_of_cell c0
              have hB3 : Below w1.heap.size w1 w3 := hb3.below hb2 (Nat.le_refl _) hb2.size
              have hBw : Below w.heap.size w w3 := hb1.trans (hB3.mono hb1.size)
              rw [← hB3.cell hl1] at c0 c1 c2 c3
              rw [← hB3.cell (lt_of_cell q0)] at q0
              rw [← hB3.cell (lt_of_cell q3)] at q3
              have d0 : w3.cell? ⟨w1.heap.size, 0, none⟩ = some (.int .u8 0) := by rw [hA3.cell]; rfl
              have d1 : w3.cell? ⟨w1.heap.size, 1, none⟩ = some (.int .u64 0) := by rw [hA3.cell]; rfl
              clear hA2 hA3 hb1 hb2 hb3 hB3 hl1
              go_wp2
              go_ret
              exact ⟨rfl, hBw⟩
            · rw [decide_eq_false hz, Bool.false_and]
              have hz' : (arg == 0) = false := by rw [beq_eq_false_iff_ne]; exact hz
              clear hz h4 h5
              go_enter Try.func82, Try.ntmps82
              go_wp2_with (first
                | ((with_reducible show wpList _ _ _ _ _ _); refine wpList_box_at rfl 37 (.tmp 1) rfl [.int .u8 (op : Int), .int .i64 arg, .int .u8 (t : Int), .int .u64 (b : Int)] rfl ?_; intro w1 hA1 hb1 hs1; clear hs1; refine Hid.out ?_))
              refine hidU ?_
              have c0 : w1.cell? ⟨w.heap.size, 0, none⟩ = some (.int .u8 (op : Int)) := by rw [hA1.cell]; rfl
              have c1 : w1.cell? ⟨w.heap.size, 1, none⟩ = some (.int .i64 arg) := by rw [hA1.cell]; rfl
              have c2 : w1.cell? ⟨w.heap.size, 2, none⟩ = some (.int .u8 (t : Int)) := by rw [hA1.cell]; rfl
              have c3 : w1.cell? ⟨w.heap.size, 3, none⟩ = some (.int .u64 (b : Int)) := by rw [hA1.cell]; rfl
              clear hA1
              rw [← hb1.cell hlg] at q0 q3
              go_wp2_with (first
                | ((with_reducible show wpList _ _ _ _ _ _); refine wpList_build_at rfl 35 _ rfl [.int .u8 0, .int .u64 0] (by kernel_rfl) ?_)
                | ((with_reducible show wpList _ _ _ _ _ _); refine wpList_alloc_at rfl 35 rfl [.int .u8 0, .int .u64 0] 2 z35 ?_; intro w2 hA2 hb2 hs2; clear hs2)
                | ((with_reducible show wpList _ _ _ _ _ _); refine wpList_store_at (P := Try.prog) rfl 35 (.tmp 5) (.tmp 6) rfl w1.heap.size [.int .u8 0, .int .u64 0] rfl rfl 35 _ hA2 i35 rfl (Vl.one ⟨0, 0⟩) ?_; intro w3 hA3 hb3 hs3; clear hs3; refine Hid.out ?_))
              refine hidU ?_
              have hl1 : w.heap.size < w1.heap.size := lt_of_cell c0
              have hB3 : Below w1.heap.size w1 w3 := hb3.below hb2 (Nat.le_refl _) hb2.size
              have hBw : Below w.heap.size w w3 := hb1.trans (hB3.mono hb1.size)
              rw [← hB3.cell hl1] at c0 c1 c2 c3
              rw [← hB3.cell (lt_of_cell q0)] at q0
              rw [← hB3.cell (lt_of_cell q3)] at q3
              have d0 : w3.cell? ⟨w1.heap.size, 0, none⟩ = some (.int .u8 0) := by rw [hA3.cell]; rfl
              have d1 : w3.cell? ⟨w1.heap.size, 1, none⟩ = some (.int .u64 0) := by rw [hA3.cell]; rfl
              clear hA2 hA3 hb1 hb2 hb3 hB3 hl1
              go_wp2
              go_ret
              exact ⟨rfl, hBw⟩
          · rw [decide_eq_false h5, Bool.false_and]
            have h5' : decide ((op : Int) ≤ 19) = false := decide_eq_false (by omega)
            clear h4 h5
            go_enter Try.func82, Try.ntmps82
            go_wp2_with (first
              | ((with_reducible show wpList _ _ _ _ _ _); refine wpList_box_at rfl 37 (.tmp 1) rfl [.int .u8 (op : Int), .int .i64 arg, .int .u8 (t : Int), .int .u64 (b : Int)] rfl ?_; intro w1 hA1 hb1 hs1; clear hs1; refine Hid.out ?_))
            refine hidU ?_
            have c0 : w1.cell? ⟨w.heap.size, 0, none⟩ = some (.int .u8 (op : Int)) := by rw [hA1.cell]; rfl
            have c1 : w1.cell? ⟨w.heap.size, 1, none⟩ = some (.int .i64 arg) := by rw [hA1.cell]; rfl
            have c2 : w1.cell? ⟨w.heap.size, 2, none⟩ = some (.int .u8 (t : Int)) := by rw [hA1.cell]; rfl
            have c3 : w1.cell? ⟨w.heap.size, 3, none⟩ = some (.int .u64 (b : Int)) := by rw [hA1.cell]; rfl
            clear hA1
            rw [← hb1.cell hlg] at q0 q3
            go_wp2_with (first
              | ((with_reducible show wpList _ _ _ _ _ _); refine wpList_build_at rfl 35 _ rfl [.int .u8 0, .int .u64 0] (by kernel_rfl) ?_)
              | ((with_reducible show wpList _ _ _ _ _ _); refine wpList_alloc_at rfl 35 rfl [.int .u8 0, .int .u64 0] 2 z35 ?_; intro w2 hA2 hb2 hs2; clear hs2)
              | ((with_reducible show wpList _ _ _ _ _ _); refine wpList_store_at (P := Try.prog) rfl 35 (.tmp 5) (.tmp 6) rfl w1.heap.size [.int .u8 0, .int .u64 0] rfl rfl 35 _ hA2 i35 rfl (Vl.one ⟨0, 0⟩) ?_; intro w3 hA3 hb3 hs3; clear hs3; refine Hid.out ?_))
            refine hidU ?_
            have hl1 : w.heap.size < w1.heap.size := lt_of_cell c0
            have hB3 : Below w1.heap.size w1 w3 := hb3.below hb2 (Nat.le_refl _) hb2.size
            have hBw : Below w.heap.size w w3 := hb1.trans (hB3.mono hb1.size)
            rw [← hB3.cell hl1] at c0 c1 c2 c3
            rw [← hB3.cell (lt_of_cell q0)] at q0
            rw [← hB3.cell (lt_of_cell q3)] at q3
            have d0 : w3.cell? ⟨w1.heap.size, 0, none⟩ = some (.int .u8 0) := by rw [hA3.cell]; rfl
            have d1 : w3.cell? ⟨w1.heap.size, 1, none⟩ = some (.int .u64 0) := by rw [hA3.cell]; rfl
            clear hA2 hA3 hb1 hb2 hb3 hB3 hl1
            go_wp2
            go_ret
            exact ⟨rfl, hBw⟩
        · rw [decide_eq_false h4, Bool.false_and]
          have h4' : decide ((3 : Int) ≤ op) = false := decide_eq_false (by omega)
          clear h4
          go_enter Try.func82, Try.ntmps82
          go_wp2_with (first
            | ((with_reducible show wpList _ _ _ _ _ _); refine wpList_box_at rfl 37 (.tmp 1) rfl [.int .u8 (op : Int), .int .i64 arg, .int .u8 (t : Int), .int .u64 (b : Int)] rfl ?_; intro w1 hA1 hb1 hs1; clear hs1; refine Hid.out ?_))
          refine hidU ?_
          have c0 : w1.cell? ⟨w.heap.size, 0, none⟩ = some (.int .u8 (op : Int)) := by rw [hA1.cell]; rfl
          have c1 : w1.cell? ⟨w.heap.size, 1, none⟩ = some (.int .i64 arg) := by rw [hA1.cell]; rfl
          have c2 : w1.cell? ⟨w.heap.size, 2, none⟩ = some (.int .u8 (t : Int)) := by rw [hA1.cell]; rfl
          have c3 : w1.cell? ⟨w.heap.size, 3, none⟩ = some (.int .u64 (b : Int)) := by rw [hA1.cell]; rfl
          clear hA1
          rw [← hb1.cell hlg] at q0 q3
          go_wp2_with (first
            | ((with_reducible show wpList _ _ _ _ _ _); refine wpList_build_at rfl 35 _ rfl [.int .u8 0, .int .u64 0] (by kernel_rfl) ?_)
            | ((with_reducible show wpList _ _ _ _ _ _); refine wpList_alloc_at rfl 35 rfl [.int .u8 0, .int .u64 0] 2 z35 ?_; intro w2 hA2 hb2 hs2; clear hs2)
            | ((with_reducible show wpList _ _ _ _ _ _); refine wpList_store_at (P := Try.prog) rfl 35 (.tmp 5) (.tmp 6) rfl w1.heap.size [.int .u8 0, .int .u64 0] rfl rfl 35 _ hA2 i35 rfl (Vl.one ⟨0, 0⟩) ?_; intro w3 hA3 hb3 hs3; clear hs3; refine Hid.out ?_))
          refine hidU ?_
          have hl1 : w.heap.size < w1.heap.size := lt_of_cell c0
          have hB3 : Below w1.heap.size w1 w3 := hb3.below hb2 (Nat.le_refl _) hb2.size
          have hBw : Below w.heap.size w w3 := hb1.trans (hB3.mono hb1.size)
          rw [← hB3.cell hl1] at c0 c1 c2 c3
          rw [← hB3.cell (lt_of_cell q0)] at q0
          rw [← hB3.cell (lt_of_cell q3)] at q3
          have d0 : w3.cell? ⟨w1.heap.size, 0, none⟩ = some (.int .u8 0) := by rw [hA3.cell]; rfl
          have d1 : w3.cell? ⟨w1.heap.size, 1, none⟩ = some (.int .u64 0) := by rw [hA3.cell]; rfl
          clear hA2 hA3 hb1 hb2 hb3 hB3 hl1
          go_wp2
          go_ret
          exact ⟨rfl, hBw⟩

end Go.Proofs.Ytefklmckkigllaa
