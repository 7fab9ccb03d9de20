/- The types on a stack: how they lie, and the table of the operators. -/
import Derived.Test.YtefklmckkigllaaCkG
import Derived.Laws.AppendOwn
namespace Go.Proofs.Ytefklmckkigllaa
open Go.RowKit
set_option linter.unusedVariables false

/-- A type as a cell holds it. -/
def tyC (t : Nat) : Value := .int .u8 (t : Int)
/-- How many operands an operator takes. -/
def opersOf (op : Nat) : Nat := if 3 ≤ op ∧ op ≤ 15 then 2 else if 16 ≤ op ∧ op ≤ 19 then 1 else 0
/-- What it makes of a type. -/
def makesOf (op t : Nat) : Nat :=
  if op = 3 ∨ op = 4 ∨ op = 17 then (if t = 2 then 2 else 0)
  else if op = 5 ∨ op = 6 then (if t = 1 ∨ t = 2 ∨ t = 3 then 2 else 0)
  else if op = 7 ∨ op = 8 ∨ op = 9 ∨ op = 10 then (if t = 1 ∨ t = 3 then 2 else 0)
  else if op = 11 ∨ op = 12 ∨ op = 13 ∨ op = 14 ∨ op = 16 then (if t = 1 then 1 else if t = 3 then 3 else 0)
  else if op = 15 then (if t = 1 then 1 else 0)
  else if op = 18 then (if t = 3 then 1 else 0)
  else if op = 19 then (if t = 1 then 3 else 0) else 0
/-- An operator's row of the table. -/
def opC (op : Nat) : List Value := [.int .i64 (opersOf op : Int), tyC (makesOf op 0), tyC (makesOf op 1), tyC (makesOf op 2), tyC (makesOf op 3)]
def opsC : List Value := (List.range 20).flatMap opC

theorem makes_lt (op t : Nat) : makesOf op t ≤ 3 := by
  unfold makesOf
  repeat' split
  all_goals omega
theorem flat5 (f : Nat → List Value) (hf : ∀ i, (f i).length = 5) (n : Nat) : ((List.range n).flatMap f).length = n * 5 ∧ ∀ i j, i < n → j < 5 → ((List.range n).flatMap f)[i * 5 + j]? = (f i)[j]? := by
  induction n with
  | zero => exact ⟨rfl, fun i j h => by omega⟩
  | succ n ih =>
    rw [List.range_succ, List.flatMap_append]
    have e : [n].flatMap f = f n := by simp
    rw [e]
    refine ⟨by rw [List.length_append, ih.1, hf]; omega, fun i j hi hj => ?_⟩
    by_cases hin : i < n
    · rw [List.getElem?_append_left (by rw [ih.1]; omega)]
      exact ih.2 i j hin hj
    · obtain rfl : i = n := by omega
      rw [List.getElem?_append_right (by rw [ih.1]; omega), ih.1, Nat.add_sub_cancel_left]
theorem opsC_at (op : Nat) (h : op < 20) (j : Nat) (hj : j < 5) : opsC[op * 5 + j]? = (opC op)[j]? := (flat5 opC (fun _ => rfl) 20).2 op j h hj
theorem opsC_len : opsC.length = 100 := (flat5 opC (fun _ => rfl) 20).1
theorem opsC_one : ∀ x ∈ opsC, x.oneCell' = true := by
  intro x hx
  unfold opsC at hx
  rw [List.mem_flatMap] at hx
  obtain ⟨op, _, hx⟩ := hx
  simp [opC, tyC] at hx
  rcases hx with rfl | rfl | rfl | rfl | rfl <;> rfl

theorem i95 : (Try.prog.info? 95).map (·.size) = some opsC.length := by rw [opsC_len]; kernel_rfl
theorem z95 : (Try.prog.info? 95).map (fun i => (i.zero, i.size)) = some (some (.agg ((List.replicate 20 [Value.int .i64 0, .int .u8 0, .int .u8 0, .int .u8 0, .int .u8 0]).flatten).toArray), 100) := by kernel_rfl

set_option maxRecDepth 100000 in
set_option maxHeartbeats 3200000 in
theorem operators_any (w : World) : Calls Try.prog 52 #[] w fun e w' => e = .returned (.agg opsC.toArray) ∧ Below w.heap.size w w' := by
  have hO := opsC_one
  have hl : ((List.replicate 20 [Value.int .i64 0, .int .u8 0, .int .u8 0, .int .u8 0, .int .u8 0]).flatten).length = opsC.length := by rw [opsC_len]; decide +kernel
  have hi := i95
  obtain ⟨O, hOe⟩ : ∃ O, Hid (O = opsC) := ⟨_, (rfl : opsC = _)⟩
  rw [← hOe.out] at hO hl hi ⊢
  go_enter Try.func52, Try.ntmps52
  go_wp2_with (first
    | ((with_reducible show wpList _ _ _ _ _ _); refine wpList_alloc_at rfl 95 rfl _ 100 z95 ?_; intro w1 hA1 hb1 hs1; clear hs1)
    | ((with_reducible show wpList _ _ _ _ _ _); refine wpList_build_at rfl 95 _ rfl O (by rw [hOe.out]; kernel_rfl) ?_)
    | ((with_reducible show wpList _ _ _ _ _ _); refine wpList_store_at (P := Try.prog) rfl 95 (.tmp 0) (.tmp 35) rfl w.heap.size O rfl rfl 95 _ hA1 hi hl hO ?_; intro w9 hA9 hb9 hs9; clear hs9))
  refine bodyPost_ret (results_at rfl _ _ w.heap.size 95 O _ rfl hA9 Try.underlying95 rfl hi) rfl ?_
  exact ⟨rfl, hb9.below hb1 (Nat.le_refl _) hb1.size⟩
end Go.Proofs.Ytefklmckkigllaa
