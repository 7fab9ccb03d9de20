/- Small questions: places, values, fetches. -/
import Derived.Test.YtefklmckkigllaaCd
namespace Go.Proofs.Ytefklmckkigllaa
open Go.RowKit
set_option linter.unusedVariables false

/-- A number from 0 on below another one. -/
def isP (n m : Int) : Bool := decide (0 ≤ n) && decide (n < m)
theorem isPlace_any (n m : Int) (w : World) : Calls Try.prog 45 #[.int .i64 n, .int .i64 m] w fun e w' => e = .returned (.bool (isP n m)) ∧ w' = w := by
  unfold isP
  by_cases h : 0 ≤ n
  · rw [decide_eq_true h, Bool.true_and]
    go_enter Try.func45, Try.ntmps45
    go_wp2
    go_ret
    exact ⟨rfl, rfl⟩
  · rw [decide_eq_false h, Bool.false_and]
    go_enter Try.func45, Try.ntmps45
    go_wp2
    go_ret
    exact ⟨rfl, rfl⟩

/-- Whether a value may be. -/
def mayV (v : Vl) : Bool := decide (v.t = 1) || ((decide (v.t = 2) && decide (v.b ≤ 1)) || (decide (v.t = 3) && (home v.b == v.b)))

set_option maxRecDepth 100000 in
set_option maxHeartbeats 1600000 in
theorem mayValue_any (v : Vl) (hv : v.Ok) (w : World) : Calls Try.prog 47 #[.agg v.cells.toArray] w fun e w' => e = .returned (.bool (mayV v)) ∧ Below w.heap.size w w' := by
  obtain ⟨t, b⟩ := v
  obtain ⟨ht, hb⟩ := hv
  dsimp only at ht hb
  have hM := fun u => may_any b u hb
  simp only [Vl.cells]
  by_cases h1 : t = 1
  · have e : mayV ⟨t, b⟩ = true := by simp [mayV, h1]
    rw [e]
    have h1' : ((t : Int) == 1) = true := by rw [beq_iff_eq]; omega
    clear e h1 hM
    go_enter Try.func47, Try.ntmps47
    go_wp2_with (first
      | ((with_reducible show wpList _ _ _ _ _ _); refine wpList_box_at rfl 35 (.tmp 0) rfl [.int .u8 (t : Int), .int .u64 (b : Int)] rfl ?_; intro w1 hA1 hb1 hs1; clear hs1; refine Hid.out ?_))
    refine hidU ?_
    have c0 : w1.cell? ⟨w.heap.size, 0, none⟩ = some (.int .u8 (t : Int)) := by rw [hA1.cell]; rfl
    have c1 : w1.cell? ⟨w.heap.size, 1, none⟩ = some (.int .u64 (b : Int)) := by rw [hA1.cell]; rfl
    clear hA1
    go_wp2
    go_ret
    exact ⟨rfl, hb1⟩
  · have h1' : ((t : Int) == 1) = false := by rw [beq_eq_false_iff_ne]; omega
    by_cases h2 : t = 2
    · have e : mayV ⟨t, b⟩ = decide ((b : Int) ≤ 1) := by simp [mayV, h2]; omega
      rw [e]
      have h2' : ((t : Int) == 2) = true := by rw [beq_iff_eq]; omega
      have h3' : ((t : Int) == 3) = false := by rw [beq_eq_false_iff_ne]; omega
      clear e h1 h2 hM
      by_cases hle : (b : Int) ≤ 1
      · rw [decide_eq_true hle]
        go_enter Try.func47, Try.ntmps47
        go_wp2_with (first
          | ((with_reducible show wpList _ _ _ _ _ _); refine wpList_box_at rfl 35 (.tmp 0) rfl [.int .u8 (t : Int), .int .u64 (b : Int)] rfl ?_; intro w1 hA1 hb1 hs1; clear hs1; refine Hid.out ?_))
        refine hidU ?_
        have c0 : w1.cell? ⟨w.heap.size, 0, none⟩ = some (.int .u8 (t : Int)) := by rw [hA1.cell]; rfl
        have c1 : w1.cell? ⟨w.heap.size, 1, none⟩ = some (.int .u64 (b : Int)) := by rw [hA1.cell]; rfl
        clear hA1
        go_wp2
        go_ret
        exact ⟨rfl, hb1⟩
      · go_enter Try.func47, Try.ntmps47
        go_wp2_with (first
          | ((with_reducible show wpList _ _ _ _ _ _); refine wpList_box_at rfl 35 (.tmp 0) rfl [.int .u8 (t : Int), .int .u64 (b : Int)] rfl ?_; intro w1 hA1 hb1 hs1; clear hs1; refine Hid.out ?_))
        refine hidU ?_
        have c0 : w1.cell? ⟨w.heap.size, 0, none⟩ = some (.int .u8 (t : Int)) := by rw [hA1.cell]; rfl
        have c1 : w1.cell? ⟨w.heap.size, 1, none⟩ = some (.int .u64 (b : Int)) := by rw [hA1.cell]; rfl
        clear hA1
        go_wp2
        go_ret
        exact ⟨rfl, hb1⟩
    · have h2' : ((t : Int) == 2) = false := by rw [beq_eq_false_iff_ne]; omega
      by_cases h3 : t = 3
      · have e : mayV ⟨t, b⟩ = (home b == b) := by simp [mayV, h3]
        rw [e]
        have h3' : ((t : Int) == 3) = true := by rw [beq_iff_eq]; omega
        generalize (home b == b) = m at hM ⊢
        clear e h1 h2 h3
        go_enter Try.func47, Try.ntmps47
        go_wp2_with (first
          | ((with_reducible show wpList _ _ _ _ _ _); refine wpList_box_at rfl 35 (.tmp 0) rfl [.int .u8 (t : Int), .int .u64 (b : Int)] rfl ?_; intro w1 hA1 hb1 hs1; clear hs1; refine Hid.out ?_))
        refine hidU ?_
        have c0 : w1.cell? ⟨w.heap.size, 0, none⟩ = some (.int .u8 (t : Int)) := by rw [hA1.cell]; rfl
        have c1 : w1.cell? ⟨w.heap.size, 1, none⟩ = some (.int .u64 (b : Int)) := by rw [hA1.cell]; rfl
        clear hA1
        go_wp2_with (first
          | (go_at_call 68; refine (hM _).mono ?_; rintro r w2 ⟨rfl, rfl⟩))
        go_ret
        exact ⟨rfl, hb1⟩
      · have e : mayV ⟨t, b⟩ = false := by simp [mayV, h1, h2, h3]
        rw [e]
        have h3' : ((t : Int) == 3) = false := by rw [beq_eq_false_iff_ne]; omega
        clear e h1 h2 h3 hM
        go_enter Try.func47, Try.ntmps47
        go_wp2_with (first
          | ((with_reducible show wpList _ _ _ _ _ _); refine wpList_box_at rfl 35 (.tmp 0) rfl [.int .u8 (t : Int), .int .u64 (b : Int)] rfl ?_; intro w1 hA1 hb1 hs1; clear hs1; refine Hid.out ?_))
        refine hidU ?_
        have c0 : w1.cell? ⟨w.heap.size, 0, none⟩ = some (.int .u8 (t : Int)) := by rw [hA1.cell]; rfl
        have c1 : w1.cell? ⟨w.heap.size, 1, none⟩ = some (.int .u64 (b : Int)) := by rw [hA1.cell]; rfl
        clear hA1
        go_wp2
        go_ret
        exact ⟨rfl, hb1⟩

/-- An instruction that reads a shared variable. -/
def isF (x : Ir) : Bool := decide (x.op = 31)
theorem isFetch_any (x : Ir) (w : World) : Calls Try.prog 75 #[.agg x.cells.toArray] w fun e w' => e = .returned (.bool (isF x)) ∧ Below w.heap.size w w' := by
  obtain ⟨op, arg, ⟨t, b⟩⟩ := x
  have e : isF ⟨op, arg, ⟨t, b⟩⟩ = ((op : Int) == 31) := by rw [Bool.eq_iff_iff, beq_iff_eq, isF, decide_eq_true_iff]; dsimp only; omega
  rw [e]
  simp only [Ir.cells]
  go_enter Try.func75, Try.ntmps75
  go_wp2_with (first
    | ((with_reducible show wpList _ _ _ _ _ _); refine wpList_box_at rfl 37 (.tmp 0) rfl [.int .u8 (op : Int), .int .i64 arg, .int .u8 (t : Int), .int .u64 (b : Int)] rfl ?_; intro w1 hA1 hb1 hs1; clear hs1; refine Hid.out ?_))
  refine hidU ?_
  have c0 : w1.cell? ⟨w.heap.size, 0, none⟩ = some (.int .u8 (op : Int)) := by rw [hA1.cell]; rfl
  clear hA1
  go_wp2
  go_ret
  exact ⟨rfl, hb1⟩

/-- A node with too many instructions. -/
def longN (n : Nd) : Bool := decide (8192 < n.code.length)
theorem longNode_any (x : NT) (w : World) : Calls Try.prog 67 #[.agg x.cells.toArray] w fun e w' => e = .returned (.bool (longN x.nd)) ∧ Below w.heap.size w w' := by
  obtain ⟨a, c, ⟨code, kind, arg, next, alt⟩⟩ := x
  have e : longN ⟨code, kind, arg, next, alt⟩ = decide ((code.length : Int) > 8192) := by unfold longN; rw [Bool.eq_iff_iff, decide_eq_true_iff, decide_eq_true_iff]; dsimp only; omega
  simp only [NT.cells]
  rw [e]
  generalize code.length = n at *
  clear e
  go_enter Try.func67, Try.ntmps67
  go_wp2_with (first
    | ((with_reducible show wpList _ _ _ _ _ _); refine wpList_box_at rfl 49 (.tmp 0) rfl [.slice a n c, .int .i64 kind, .int .i64 arg, .int .i64 next, .int .i64 alt] rfl ?_; intro w1 hA1 hb1 hs1; clear hs1; refine Hid.out ?_))
  refine hidU ?_
  have c0 : w1.cell? ⟨w.heap.size, 0, none⟩ = some (.slice a n c) := by rw [hA1.cell]; rfl
  clear hA1
  go_wp2
  go_ret
  exact ⟨rfl, hb1⟩
end Go.Proofs.Ytefklmckkigllaa
