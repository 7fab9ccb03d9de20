/- Too much of something. -/
import Derived.Test.YtefklmckkigllaaCkA
import Derived.Test.YtefklmckkigllaaAnA
namespace Go.Proofs.Ytefklmckkigllaa
open Go.RowKit
set_option linter.unusedVariables false

theorem NT.len5 (x : NT) : x.cells.length = 5 := rfl
theorem BT.len3 (x : BT) : x.cells.length = 3 := rfl
theorem Ir.len4 (x : Ir) : x.cells.length = 4 := rfl
theorem Vl.len2 (x : Vl) : x.cells.length = 2 := rfl
theorem RowG.see {α : Type} {cells : α → List Value} {n : Nat} {P : α → Prop} {B : Nat} {w : World} {a : Option Addr} {c : Nat} {ks : List α} (h : RowG cells n P B w a c ks) (hB : B ≤ w.heap.size) :
    ∀ (i : Nat) (k : α) (u : World), ks[i]? = some k → Below w.heap.size w u → ∃ g o, a = some ⟨g, o, none⟩ ∧ u.rangeAt g (o + i * n) (cells k) := by
  intro i k u hk hu
  obtain ⟨g, o, ha, hg, hr, _⟩ := h.at i k hk
  exact ⟨g, o, ha, (Old.of_below hu hB).range hg hr⟩

/-- A body with too much of something. -/
def longB (b : Bd) : Bool := decide (16 < b.locals.length) || (decide (1024 < b.nodes.length) || b.nodes.any longN)


set_option maxRecDepth 100000 in
set_option maxHeartbeats 1600000 in
theorem longBody_any (B : Nat) (x : BT) (w : World) (h : x.In B w) (hB : B ≤ w.heap.size) : Calls Try.prog 44 #[.agg x.cells.toArray] w fun e w' => e = .returned (.bool (longB x.bd)) ∧ Below w.heap.size w w' := by
  obtain ⟨a1, c1, locals, stack, a2, c2, nodes⟩ := x
  have HA : Hid (∀ u, Below w.heap.size w u → Calls Try.prog 56 #[.slice a2 nodes.length c2, .func (.func 67) #[] #[]] u fun e w' => e = .returned (.bool (nodes.any fun y => longN y.nd)) ∧ Below u.heap.size u w') := fun u hu => by
    have hr : RowNT B u a2 c2 nodes := RowNT.old h.2.2 (Old.of_below hu hB)
    exact any56_67 NT.cells NT.len5 nodes a2 c2 hr.1 hr.2.1 u (fun y => longN y.nd) (hr.see (by have := hu.size; omega)) (fun i k v _ _ => longNode_any k v)
  have hl1 := h.1.1
  have hl2 := h.2.2.1
  have e : longB (BT.bd ⟨a1, c1, locals, stack, a2, c2, nodes⟩) = (decide (16 < locals.length) || (decide (1024 < nodes.length) || nodes.any fun y => longN y.nd)) := by
    unfold longB BT.bd; simp only [List.any_map, List.length_map]; rfl
  rw [e]
  clear e h
  simp only [BT.cells]
  dsimp only at hl1 hl2
  generalize (nodes.any fun y => longN y.nd) = A at *
  generalize locals.length = n1 at *
  generalize nodes.length = n2 at *
  by_cases h1 : 16 < n1
  · have h1' : decide ((16 : Int) < n1) = true := decide_eq_true (by omega)
    rw [decide_eq_true h1, Bool.true_or]
    go_enter Try.func44, Try.ntmps44
    go_wp2_with (first
      | ((with_reducible show wpList _ _ _ _ _ _); refine wpList_box_at rfl 45 (.tmp 0) rfl [.slice a1 n1 c1, .int .i64 stack, .slice a2 n2 c2] rfl ?_; intro w1 hA1 hb1 hs1; clear hs1; refine Hid.out ?_))
    refine hidU ?_
    have c0 : w1.cell? ⟨w.heap.size, 0, none⟩ = some (.slice a1 n1 c1) := by rw [hA1.cell]; rfl
    clear hA1
    go_wp2
    go_ret
    exact ⟨rfl, hb1⟩
  · have h1' : decide ((16 : Int) < n1) = false := decide_eq_false (by omega)
    rw [decide_eq_false h1, Bool.false_or]
    by_cases h2 : 1024 < n2
    · have h2' : decide ((1024 : Int) < n2) = true := decide_eq_true (by omega)
      rw [decide_eq_true h2, Bool.true_or]
      go_enter Try.func44, Try.ntmps44
      go_wp2_with (first
        | ((with_reducible show wpList _ _ _ _ _ _); refine wpList_box_at rfl 45 (.tmp 0) rfl [.slice a1 n1 c1, .int .i64 stack, .slice a2 n2 c2] rfl ?_; intro w1 hA1 hb1 hs1; clear hs1; refine Hid.out ?_))
      refine hidU ?_
      have c0 : w1.cell? ⟨w.heap.size, 0, none⟩ = some (.slice a1 n1 c1) := by rw [hA1.cell]; rfl
      have c2' : w1.cell? ⟨w.heap.size, 2, none⟩ = some (.slice a2 n2 c2) := by rw [hA1.cell]; rfl
      clear hA1
      go_wp2
      go_ret
      exact ⟨rfl, hb1⟩
    · have h2' : decide ((1024 : Int) < n2) = false := decide_eq_false (by omega)
      rw [decide_eq_false h2, Bool.false_or]
      go_enter Try.func44, Try.ntmps44
      go_wp2_with (first
        | ((with_reducible show wpList _ _ _ _ _ _); refine wpList_box_at rfl 45 (.tmp 0) rfl [.slice a1 n1 c1, .int .i64 stack, .slice a2 n2 c2] rfl ?_; intro w1 hA1 hb1 hs1; clear hs1; refine Hid.out ?_))
      refine hidU ?_
      have c0 : w1.cell? ⟨w.heap.size, 0, none⟩ = some (.slice a1 n1 c1) := by rw [hA1.cell]; rfl
      have c2' : w1.cell? ⟨w.heap.size, 2, none⟩ = some (.slice a2 n2 c2) := by rw [hA1.cell]; rfl
      clear hA1
      go_wp2_with (first
        | (go_at_call 56; refine (HA.out _ hb1).mono ?_; rintro r w2 ⟨rfl, hb2⟩))
      go_ret
      exact ⟨rfl, hb1.trans (hb2.mono hb1.size)⟩

/-- A code with too much of something, or without a body. -/
def longC (c : Cd) : Bool := decide (c.bodies.length = 0) || (decide (16 < c.bodies.length) || (decide (32 < c.shared.length) || c.bodies.any longB))

set_option maxRecDepth 100000 in
set_option maxHeartbeats 1600000 in
theorem tooLong_any (B : Nat) (x : CT) (w : World) (h : x.In B w) (hB : B ≤ w.heap.size) : Calls Try.prog 31 #[.agg x.cells.toArray] w fun e w' => e = .returned (.bool (longC x.cd)) ∧ Below w.heap.size w w' := by
  obtain ⟨a1, c1, shared, mu, a2, c2, bodies⟩ := x
  have HA : Hid (∀ u, Below w.heap.size w u → Calls Try.prog 43 #[.slice a2 bodies.length c2, .func (.func 44) #[] #[]] u fun e w' => e = .returned (.bool (bodies.any fun y => longB y.bd)) ∧ Below u.heap.size u w') := fun u hu => by
    have hr : RowBT B u a2 c2 bodies := RowBT.old h.2.2 (Old.of_below hu hB)
    have hBu : B ≤ u.heap.size := by have := hu.size; omega
    exact any43_44 BT.cells BT.len3 bodies a2 c2 hr.1 hr.2.1 u (fun y => longB y.bd) (hr.see hBu) (fun i k v hk hv => by
      obtain ⟨_, _, _, _, _, hp⟩ := hr.at i k hk
      exact longBody_any B k v (hp.old (Old.of_below hv hBu)) (by have := hv.size; omega))
  have hl1 := h.1.1
  have hl2 := h.2.2.1
  have e : longC (CT.cd ⟨a1, c1, shared, mu, a2, c2, bodies⟩) = (decide (bodies.length = 0) || (decide (16 < bodies.length) || (decide (32 < shared.length) || bodies.any fun y => longB y.bd))) := by
    unfold longC CT.cd; simp only [List.any_map, List.length_map]; rfl
  rw [e]
  clear e h
  simp only [CT.cells]
  dsimp only at hl1 hl2
  generalize (bodies.any fun y => longB y.bd) = A at *
  generalize shared.length = n1 at *
  generalize bodies.length = n2 at *
  by_cases h0 : n2 = 0
  · rw [decide_eq_true h0, Bool.true_or]
    have h0' : ((n2 : Int) == 0) = true := by rw [beq_iff_eq]; omega
    clear h0
    go_enter Try.func31, Try.ntmps31
    go_wp2_with (first
      | ((with_reducible show wpList _ _ _ _ _ _); refine wpList_box_at rfl 25 (.tmp 0) rfl [.slice a1 n1 c1, .int .i64 mu, .slice a2 n2 c2] rfl ?_; intro w1 hA1 hb1 hs1; clear hs1; refine Hid.out ?_))
    refine hidU ?_
    have c0 : w1.cell? ⟨w.heap.size, 0, none⟩ = some (.slice a1 n1 c1) := by rw [hA1.cell]; rfl
    have c2' : w1.cell? ⟨w.heap.size, 2, none⟩ = some (.slice a2 n2 c2) := by rw [hA1.cell]; rfl
    clear hA1
    go_wp2
    go_ret
    exact ⟨rfl, hb1⟩
  · rw [decide_eq_false h0, Bool.false_or]
    have h0' : ((n2 : Int) == 0) = false := by rw [beq_eq_false_iff_ne]; omega
    clear h0
    by_cases h1 : 16 < n2
    · have h1' : decide ((16 : Int) < n2) = true := decide_eq_true (by omega)
      rw [decide_eq_true h1, Bool.true_or]
      go_enter Try.func31, Try.ntmps31
      go_wp2_with (first
        | ((with_reducible show wpList _ _ _ _ _ _); refine wpList_box_at rfl 25 (.tmp 0) rfl [.slice a1 n1 c1, .int .i64 mu, .slice a2 n2 c2] rfl ?_; intro w1 hA1 hb1 hs1; clear hs1; refine Hid.out ?_))
      refine hidU ?_
      have c0 : w1.cell? ⟨w.heap.size, 0, none⟩ = some (.slice a1 n1 c1) := by rw [hA1.cell]; rfl
      have c2' : w1.cell? ⟨w.heap.size, 2, none⟩ = some (.slice a2 n2 c2) := by rw [hA1.cell]; rfl
      clear hA1
      go_wp2
      go_ret
      exact ⟨rfl, hb1⟩
    · have h1' : decide ((16 : Int) < n2) = false := decide_eq_false (by omega)
      rw [decide_eq_false h1, Bool.false_or]
      by_cases h2 : 32 < n1
      · have h2' : decide ((32 : Int) < n1) = true := decide_eq_true (by omega)
        rw [decide_eq_true h2, Bool.true_or]
        go_enter Try.func31, Try.ntmps31
        go_wp2_with (first
          | ((with_reducible show wpList _ _ _ _ _ _); refine wpList_box_at rfl 25 (.tmp 0) rfl [.slice a1 n1 c1, .int .i64 mu, .slice a2 n2 c2] rfl ?_; intro w1 hA1 hb1 hs1; clear hs1; refine Hid.out ?_))
        refine hidU ?_
        have c0 : w1.cell? ⟨w.heap.size, 0, none⟩ = some (.slice a1 n1 c1) := by rw [hA1.cell]; rfl
        have c2' : w1.cell? ⟨w.heap.size, 2, none⟩ = some (.slice a2 n2 c2) := by rw [hA1.cell]; rfl
        clear hA1
        go_wp2
        go_ret
        exact ⟨rfl, hb1⟩
      · have h2' : decide ((32 : Int) < n1) = false := decide_eq_false (by omega)
        rw [decide_eq_false h2, Bool.false_or]
        go_enter Try.func31, Try.ntmps31
        go_wp2_with (first
          | ((with_reducible show wpList _ _ _ _ _ _); refine wpList_box_at rfl 25 (.tmp 0) rfl [.slice a1 n1 c1, .int .i64 mu, .slice a2 n2 c2] rfl ?_; intro w1 hA1 hb1 hs1; clear hs1; refine Hid.out ?_))
        refine hidU ?_
        have c0 : w1.cell? ⟨w.heap.size, 0, none⟩ = some (.slice a1 n1 c1) := by rw [hA1.cell]; rfl
        have c2' : w1.cell? ⟨w.heap.size, 2, none⟩ = some (.slice a2 n2 c2) := by rw [hA1.cell]; rfl
        clear hA1
        go_wp2_with (first
          | (go_at_call 43; refine (HA.out _ hb1).mono ?_; rintro r w2 ⟨rfl, hb2⟩))
        go_ret
        exact ⟨rfl, hb1.trans (hb2.mono hb1.size)⟩
end Go.Proofs.Ytefklmckkigllaa
