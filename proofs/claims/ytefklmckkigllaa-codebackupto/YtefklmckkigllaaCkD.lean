/- Whether what a node does last, its other road, and a node may be. -/
import Derived.Test.YtefklmckkigllaaCkC
import Derived.Test.YtefklmckkigllaaAlD
namespace Go.Proofs.Ytefklmckkigllaa
open Go.RowKit
set_option linter.unusedVariables false

/-- A body in its code: its cells. -/
def sc6 (a1 : Option Addr) (ns c1 : Nat) (mu : Int) (s2 : Value) (a3 : Option Addr) (nl c3 : Nat) (stk : Int) (a4 : Option Addr) (nn c4 : Nat) : List Value := [.slice a1 ns c1, .int .i64 mu, s2, .slice a3 nl c3, .int .i64 stk, .slice a4 nn c4]
/-- What is read of it. -/
structure Sc (w : World) (g : Nat) (a1 : Option Addr) (ns c1 : Nat) (mu : Int) (a3 : Option Addr) (nl c3 : Nat) (a4 : Option Addr) (nn c4 : Nat) : Prop where
  q0 : w.cell? ⟨g, 0, none⟩ = some (.slice a1 ns c1)
  q1 : w.cell? ⟨g, 1, none⟩ = some (.int .i64 mu)
  q3 : w.cell? ⟨g, 3, none⟩ = some (.slice a3 nl c3)
  q5 : w.cell? ⟨g, 5, none⟩ = some (.slice a4 nn c4)
theorem Sc.below {w w' : World} {g : Nat} {a1 : Option Addr} {ns c1 : Nat} {mu : Int} {a3 : Option Addr} {nl c3 : Nat} {a4 : Option Addr} {nn c4 : Nat} (h : Sc w g a1 ns c1 mu a3 nl c3 a4 nn c4) (hb : Below w.heap.size w w') : Sc w' g a1 ns c1 mu a3 nl c3 a4 nn c4 :=
  ⟨(hb.cell (lt_of_cell h.q0)).trans h.q0, (hb.cell (lt_of_cell h.q1)).trans h.q1, (hb.cell (lt_of_cell h.q3)).trans h.q3, (hb.cell (lt_of_cell h.q5)).trans h.q5⟩

/-- Whether what a node does last may be. -/
def mayA (nl ns : Nat) (mu : Int) (x : Nd) : Bool :=
  if x.kind = 1 then isP x.arg nl else if x.kind = 2 then isP x.arg ns else if x.kind = 3 ∨ x.kind = 4 then isP x.arg mu
  else if x.kind = 5 ∨ x.kind = 6 ∨ x.kind = 7 then decide (x.arg = 0) else false
/-- Whether its other road may be. -/
def mayL (nn : Nat) (x : Nd) : Bool := decide (x.alt = 0) || (decide (x.kind = 6) && isP x.alt ((nn : Int) + 1))

set_option maxRecDepth 100000 in
set_option maxHeartbeats 3200000 in
theorem mayArg_any (g : Nat) (a1 : Option Addr) (ns c1 : Nat) (mu : Int) (a3 : Option Addr) (nl c3 : Nat) (a4 : Option Addr) (nn c4 : Nat) (a : Option Addr) (n c : Nat) (kind arg next alt : Int) (code : List Ir) (w : World) (h : Sc w g a1 ns c1 mu a3 nl c3 a4 nn c4) :
    Calls Try.prog 83 #[.pointer (some ⟨g, 0, none⟩), .agg [.slice a n c, .int .i64 kind, .int .i64 arg, .int .i64 next, .int .i64 alt].toArray] w fun e w' => e = .returned (.bool (mayA nl ns mu ⟨code, kind, arg, next, alt⟩)) ∧ Below w.heap.size w w' := by
  have HS : Hid (Sc w g a1 ns c1 mu a3 nl c3 a4 nn c4) := h
  clear h
  unfold mayA
  dsimp only
  by_cases hk1 : kind = 1
  · rw [if_pos hk1]
    have e1 : (kind == 1) = true := by rw [beq_iff_eq]; omega
    have hP := fun u => isPlace_any arg nl u
    generalize isP arg nl = PL at *
    go_enter Try.func83, Try.ntmps83
    go_wp2_with (first
      | ((with_reducible show wpList _ _ _ _ _ _); refine wpList_box_at rfl 49 (.tmp 1) rfl [.slice a n c, .int .i64 kind, .int .i64 arg, .int .i64 next, .int .i64 alt] rfl ?_; intro w1 hA1 hb1 hs1; clear hs1; refine Hid.out ?_))
    refine hidU ?_
    have c1 : w1.cell? ⟨w.heap.size, 1, none⟩ = some (.int .i64 kind) := by rw [hA1.cell]; rfl
    have c2 : w1.cell? ⟨w.heap.size, 2, none⟩ = some (.int .i64 arg) := by rw [hA1.cell]; rfl
    obtain ⟨q0, q1, q3, q5⟩ := HS.out.below hb1
    clear hA1 HS
    go_wp2_with fail
    go_quiet (first | (go_at_call 45; exact Calls.quiet_of_same (hP _)))
    go_wp2
    go_ret
    exact ⟨rfl, hb1.trans ((below_drewN _ _).mono hb1.size)⟩
  · rw [if_neg hk1]
    have e1 : (kind == 1) = false := by rw [beq_eq_false_iff_ne]; omega
    by_cases hk2 : kind = 2
    · rw [if_pos hk2]
      have e2 : (kind == 2) = true := by rw [beq_iff_eq]; omega
      have hP := fun u => isPlace_any arg ns u
      generalize isP arg ns = PL at *
      go_enter Try.func83, Try.ntmps83
      go_wp2_with (first
        | ((with_reducible show wpList _ _ _ _ _ _); refine wpList_box_at rfl 49 (.tmp 1) rfl [.slice a n c, .int .i64 kind, .int .i64 arg, .int .i64 next, .int .i64 alt] rfl ?_; intro w1 hA1 hb1 hs1; clear hs1; refine Hid.out ?_))
      refine hidU ?_
      have c1 : w1.cell? ⟨w.heap.size, 1, none⟩ = some (.int .i64 kind) := by rw [hA1.cell]; rfl
      have c2 : w1.cell? ⟨w.heap.size, 2, none⟩ = some (.int .i64 arg) := by rw [hA1.cell]; rfl
      obtain ⟨q0, q1, q3, q5⟩ := HS.out.below hb1
      clear hA1 HS
      go_wp2_with fail
      go_quiet (first | (go_at_call 45; exact Calls.quiet_of_same (hP _)))
      go_wp2
      go_ret
      exact ⟨rfl, hb1.trans ((below_drewN _ _).mono hb1.size)⟩
    · rw [if_neg hk2]
      have e2 : (kind == 2) = false := by rw [beq_eq_false_iff_ne]; omega
      by_cases hk3 : kind = 3 ∨ kind = 4
      · rw [if_pos hk3]
        by_cases j3 : kind = 3
        · have e3 : (kind == 3) = true := by rw [beq_iff_eq]; omega
          have hP := fun u => isPlace_any arg mu u
          generalize isP arg mu = PL at *
          go_enter Try.func83, Try.ntmps83
          go_wp2_with (first
            | ((with_reducible show wpList _ _ _ _ _ _); refine wpList_box_at rfl 49 (.tmp 1) rfl [.slice a n c, .int .i64 kind, .int .i64 arg, .int .i64 next, .int .i64 alt] rfl ?_; intro w1 hA1 hb1 hs1; clear hs1; refine Hid.out ?_))
          refine hidU ?_
          have c1 : w1.cell? ⟨w.heap.size, 1, none⟩ = some (.int .i64 kind) := by rw [hA1.cell]; rfl
          have c2 : w1.cell? ⟨w.heap.size, 2, none⟩ = some (.int .i64 arg) := by rw [hA1.cell]; rfl
          obtain ⟨q0, q1, q3, q5⟩ := HS.out.below hb1
          clear hA1 HS
          go_wp2_with fail
          go_quiet (first | (go_at_call 45; exact Calls.quiet_of_same (hP _)))
          go_wp2
          go_ret
          exact ⟨rfl, hb1.trans ((below_drewN _ _).mono hb1.size)⟩
        · have e3 : (kind == 3) = false := by rw [beq_eq_false_iff_ne]; omega
          have e4 : (kind == 4) = true := by rw [beq_iff_eq]; omega
          have hP := fun u => isPlace_any arg mu u
          generalize isP arg mu = PL at *
          go_enter Try.func83, Try.ntmps83
          go_wp2_with (first
            | ((with_reducible show wpList _ _ _ _ _ _); refine wpList_box_at rfl 49 (.tmp 1) rfl [.slice a n c, .int .i64 kind, .int .i64 arg, .int .i64 next, .int .i64 alt] rfl ?_; intro w1 hA1 hb1 hs1; clear hs1; refine Hid.out ?_))
          refine hidU ?_
          have c1 : w1.cell? ⟨w.heap.size, 1, none⟩ = some (.int .i64 kind) := by rw [hA1.cell]; rfl
          have c2 : w1.cell? ⟨w.heap.size, 2, none⟩ = some (.int .i64 arg) := by rw [hA1.cell]; rfl
          obtain ⟨q0, q1, q3, q5⟩ := HS.out.below hb1
          clear hA1 HS
          go_wp2_with fail
          go_quiet (first | (go_at_call 45; exact Calls.quiet_of_same (hP _)))
          go_wp2
          go_ret
          exact ⟨rfl, hb1.trans ((below_drewN _ _).mono hb1.size)⟩
      · rw [if_neg hk3]
        have e3 : (kind == 3) = false := by rw [beq_eq_false_iff_ne]; omega
        have e4 : (kind == 4) = false := by rw [beq_eq_false_iff_ne]; omega
        by_cases hk5 : kind = 5 ∨ kind = 6 ∨ kind = 7
        · rw [if_pos hk5]
          by_cases j5 : kind = 5
          · have e5 : (kind == 5) = true := by rw [beq_iff_eq]; omega
            have eA : decide (arg = 0) = (arg == 0) := by rw [Bool.eq_iff_iff, beq_iff_eq, decide_eq_true_iff]
            rw [eA]
            clear eA
            go_enter Try.func83, Try.ntmps83
            go_wp2_with (first
              | ((with_reducible show wpList _ _ _ _ _ _); refine wpList_box_at rfl 49 (.tmp 1) rfl [.slice a n c, .int .i64 kind, .int .i64 arg, .int .i64 next, .int .i64 alt] rfl ?_; intro w1 hA1 hb1 hs1; clear hs1; refine Hid.out ?_))
            refine hidU ?_
            have c1 : w1.cell? ⟨w.heap.size, 1, none⟩ = some (.int .i64 kind) := by rw [hA1.cell]; rfl
            have c2 : w1.cell? ⟨w.heap.size, 2, none⟩ = some (.int .i64 arg) := by rw [hA1.cell]; rfl
            obtain ⟨q0, q1, q3, q5⟩ := HS.out.below hb1
            clear hA1 HS
            go_wp2
            go_ret
            exact ⟨rfl, hb1⟩
          · have e5 : (kind == 5) = false := by rw [beq_eq_false_iff_ne]; omega
            by_cases j6 : kind = 6
            · have e6 : (kind == 6) = true := by rw [beq_iff_eq]; omega
              have eA : decide (arg = 0) = (arg == 0) := by rw [Bool.eq_iff_iff, beq_iff_eq, decide_eq_true_iff]
              rw [eA]
              clear eA
              go_enter Try.func83, Try.ntmps83
              go_wp2_with (first
                | ((with_reducible show wpList _ _ _ _ _ _); refine wpList_box_at rfl 49 (.tmp 1) rfl [.slice a n c, .int .i64 kind, .int .i64 arg, .int .i64 next, .int .i64 alt] rfl ?_; intro w1 hA1 hb1 hs1; clear hs1; refine Hid.out ?_))
              refine hidU ?_
              have c1 : w1.cell? ⟨w.heap.size, 1, none⟩ = some (.int .i64 kind) := by rw [hA1.cell]; rfl
              have c2 : w1.cell? ⟨w.heap.size, 2, none⟩ = some (.int .i64 arg) := by rw [hA1.cell]; rfl
              obtain ⟨q0, q1, q3, q5⟩ := HS.out.below hb1
              clear hA1 HS
              go_wp2
              go_ret
              exact ⟨rfl, hb1⟩
            · have e6 : (kind == 6) = false := by rw [beq_eq_false_iff_ne]; omega
              have e7 : (kind == 7) = true := by rw [beq_iff_eq]; omega
              have eA : decide (arg = 0) = (arg == 0) := by rw [Bool.eq_iff_iff, beq_iff_eq, decide_eq_true_iff]
              rw [eA]
              clear eA
              go_enter Try.func83, Try.ntmps83
              go_wp2_with (first
                | ((with_reducible show wpList _ _ _ _ _ _); refine wpList_box_at rfl 49 (.tmp 1) rfl [.slice a n c, .int .i64 kind, .int .i64 arg, .int .i64 next, .int .i64 alt] rfl ?_; intro w1 hA1 hb1 hs1; clear hs1; refine Hid.out ?_))
              refine hidU ?_
              have c1 : w1.cell? ⟨w.heap.size, 1, none⟩ = some (.int .i64 kind) := by rw [hA1.cell]; rfl
              have c2 : w1.cell? ⟨w.heap.size, 2, none⟩ = some (.int .i64 arg) := by rw [hA1.cell]; rfl
              obtain ⟨q0, q1, q3, q5⟩ := HS.out.below hb1
              clear hA1 HS
              go_wp2
              go_ret
              exact ⟨rfl, hb1⟩
        · rw [if_neg hk5]
          have e5 : (kind == 5) = false := by rw [beq_eq_false_iff_ne]; omega
          have e6 : (kind == 6) = false := by rw [beq_eq_false_iff_ne]; omega
          have e7 : (kind == 7) = false := by rw [beq_eq_false_iff_ne]; omega
          go_enter Try.func83, Try.ntmps83
          go_wp2_with (first
            | ((with_reducible show wpList _ _ _ _ _ _); refine wpList_box_at rfl 49 (.tmp 1) rfl [.slice a n c, .int .i64 kind, .int .i64 arg, .int .i64 next, .int .i64 alt] rfl ?_; intro w1 hA1 hb1 hs1; clear hs1; refine Hid.out ?_))
          refine hidU ?_
          have c1 : w1.cell? ⟨w.heap.size, 1, none⟩ = some (.int .i64 kind) := by rw [hA1.cell]; rfl
          have c2 : w1.cell? ⟨w.heap.size, 2, none⟩ = some (.int .i64 arg) := by rw [hA1.cell]; rfl
          obtain ⟨q0, q1, q3, q5⟩ := HS.out.below hb1
          clear hA1 HS
          go_wp2
          go_ret
          exact ⟨rfl, hb1⟩

set_option maxRecDepth 100000 in
set_option maxHeartbeats 3200000 in
theorem mayAlt_any (g : Nat) (a1 : Option Addr) (ns c1 : Nat) (mu : Int) (a3 : Option Addr) (nl c3 : Nat) (a4 : Option Addr) (nn c4 : Nat) (hnn : nn ≤ 1048576) (a : Option Addr) (n c : Nat) (kind arg next alt : Int) (code : List Ir) (w : World) (h : Sc w g a1 ns c1 mu a3 nl c3 a4 nn c4) :
    Calls Try.prog 84 #[.pointer (some ⟨g, 0, none⟩), .agg [.slice a n c, .int .i64 kind, .int .i64 arg, .int .i64 next, .int .i64 alt].toArray] w fun e w' => e = .returned (.bool (mayL nn ⟨code, kind, arg, next, alt⟩)) ∧ Below w.heap.size w w' := by
  have HS : Hid (Sc w g a1 ns c1 mu a3 nl c3 a4 nn c4) := h
  clear h
  unfold mayL
  dsimp only
  have hP := fun u => isPlace_any alt ((nn : Int) + 1) u
  generalize isP alt ((nn : Int) + 1) = PL at *
  have hW : IntKind.i64.wrap ((nn : Int) + 1) = (nn : Int) + 1 := by rw [IntKind.wrap_i64]; omega
  by_cases h0 : alt = 0
  · rw [decide_eq_true h0, Bool.true_or]
    have e0 : (alt == 0) = true := by rw [beq_iff_eq]; exact h0
    clear h0
    go_enter Try.func84, Try.ntmps84
    go_wp2_with (first
      | ((with_reducible show wpList _ _ _ _ _ _); refine wpList_box_at rfl 49 (.tmp 1) rfl [.slice a n c, .int .i64 kind, .int .i64 arg, .int .i64 next, .int .i64 alt] rfl ?_; intro w1 hA1 hb1 hs1; clear hs1; refine Hid.out ?_))
    refine hidU ?_
    have c1 : w1.cell? ⟨w.heap.size, 1, none⟩ = some (.int .i64 kind) := by rw [hA1.cell]; rfl
    have c4 : w1.cell? ⟨w.heap.size, 4, none⟩ = some (.int .i64 alt) := by rw [hA1.cell]; rfl
    obtain ⟨q0, q1, q3, q5⟩ := HS.out.below hb1
    clear hA1 HS
    go_wp2_with fail
    go_quiet (first | (go_at_call 45; exact Calls.quiet_of_same (hP _)))
    go_wp2
    go_ret
    exact ⟨rfl, hb1.trans ((below_drewN _ _).mono hb1.size)⟩
  · rw [decide_eq_false h0, Bool.false_or]
    have e0 : (alt == 0) = false := by rw [beq_eq_false_iff_ne]; exact h0
    clear h0
    by_cases h6 : kind = 6
    · rw [decide_eq_true h6, Bool.true_and]
      have e6 : (kind == 6) = true := by rw [beq_iff_eq]; exact h6
      clear h6
      go_enter Try.func84, Try.ntmps84
      go_wp2_with (first
        | ((with_reducible show wpList _ _ _ _ _ _); refine wpList_box_at rfl 49 (.tmp 1) rfl [.slice a n c, .int .i64 kind, .int .i64 arg, .int .i64 next, .int .i64 alt] rfl ?_; intro w1 hA1 hb1 hs1; clear hs1; refine Hid.out ?_))
      refine hidU ?_
      have c1 : w1.cell? ⟨w.heap.size, 1, none⟩ = some (.int .i64 kind) := by rw [hA1.cell]; rfl
      have c4 : w1.cell? ⟨w.heap.size, 4, none⟩ = some (.int .i64 alt) := by rw [hA1.cell]; rfl
      obtain ⟨q0, q1, q3, q5⟩ := HS.out.below hb1
      clear hA1 HS
      go_wp2_with fail
      go_quiet (first | (go_at_call 45; exact Calls.quiet_of_same (hP _)))
      go_wp2
      go_ret
      exact ⟨rfl, hb1.trans ((below_drewN _ _).mono hb1.size)⟩
    · rw [decide_eq_false h6, Bool.false_and]
      have e6 : (kind == 6) = false := by rw [beq_eq_false_iff_ne]; exact h6
      clear h6
      go_enter Try.func84, Try.ntmps84
      go_wp2_with (first
        | ((with_reducible show wpList _ _ _ _ _ _); refine wpList_box_at rfl 49 (.tmp 1) rfl [.slice a n c, .int .i64 kind, .int .i64 arg, .int .i64 next, .int .i64 alt] rfl ?_; intro w1 hA1 hb1 hs1; clear hs1; refine Hid.out ?_))
      refine hidU ?_
      have c1 : w1.cell? ⟨w.heap.size, 1, none⟩ = some (.int .i64 kind) := by rw [hA1.cell]; rfl
      have c4 : w1.cell? ⟨w.heap.size, 4, none⟩ = some (.int .i64 alt) := by rw [hA1.cell]; rfl
      obtain ⟨q0, q1, q3, q5⟩ := HS.out.below hb1
      clear hA1 HS
      go_wp2_with fail
      go_quiet (first | (go_at_call 45; exact Calls.quiet_of_same (hP _)))
      go_wp2
      go_ret
      exact ⟨rfl, hb1.trans ((below_drewN _ _).mono hb1.size)⟩


end Go.Proofs.Ytefklmckkigllaa
