/- Joined texts of the proof. -/
import Derived.Test.YtefklmckkigllaaJ1

/- Too much of something. -/
namespace Go.Proofs.Ytefklmckkigllaa
open Go.RowKit
set_option linter.unusedVariables false

theorem NT.len5 (x : NT) : x.cells.length = 5 := rfl
theorem BT.len3 (x : BT) : x.cells.length = 3 := rfl
theorem Ir.len4 (x : Ir) : x.cells.length = 4 := rfl
theorem Vl.len2 (x : Vl) : x.cells.length = 2 := rfl
theorem RowG.see {α : Type} {cells : α → List Value} {n : Nat} {P : α → Prop} {B : Nat} {w : World} {a : Option Addr} {c : Nat} {ks : List α} (h : RowG cells n P B w a c ks) (hB : B ≤ w.heap.size) :
    ∀ (i : Nat) (k : α) (u : World), ks[i]? = some k → Below w.heap.size w u → ∃ g o, a = some ⟨g, o, none⟩ ∧ u.rangeAt g (o + i * n) (cells k) := by
  intro i k u hk hu
  obtain ⟨g, o, ha, hg, hr, _⟩ := h.at i k hk
  exact ⟨g, o, ha, (Old.of_below hu hB).range hg hr⟩

/-- A body with too much of something. -/
def longB (b : Bd) : Bool := decide (16 < b.locals.length) || (decide (1024 < b.nodes.length) || b.nodes.any longN)

set_option maxRecDepth 100000 in
set_option maxHeartbeats 1600000 in
theorem longBody_any (B : Nat) (x : BT) (w : World) (h : x.In B w) (hB : B ≤ w.heap.size) : Calls Try.prog 44 #[.agg x.cells.toArray] w fun e w' => e = .returned (.bool (longB x.bd)) ∧ Below w.heap.size w w' := by
  obtain ⟨a1, c1, locals, stack, a2, c2, nodes⟩ := x
  have HA : Hid (∀ u, Below w.heap.size w u → Calls Try.prog 56 #[.slice a2 nodes.length c2, .func (.func 67) #[] #[]] u fun e w' => e = .returned (.bool (nodes.any fun y => longN y.nd)) ∧ Below u.heap.size u w') := fun u hu => by
    have hr : RowNT B u a2 c2 nodes := RowNT.old h.2.2 (Old.of_below hu hB)
    exact any56_67 NT.cells NT.len5 nodes a2 c2 hr.1 hr.2.1 u (fun y => longN y.nd) (hr.see (by have := hu.size; omega)) (fun i k v _ _ => longNode_any k v)
  have hl1 := h.1.1
  have hl2 := h.2.2.1
  have e : longB (BT.bd ⟨a1, c1, locals, stack, a2, c2, nodes⟩) = (decide (16 < locals.length) || (decide (1024 < nodes.length) || nodes.any fun y => longN y.nd)) := by
    unfold longB BT.bd; simp only [List.any_map, List.length_map]; rfl
  rw [e]
  clear e h
  simp only [BT.cells]
  dsimp only at hl1 hl2
  generalize (nodes.any fun y => longN y.nd) = A at *
  generalize locals.length = n1 at *
  generalize nodes.length = n2 at *
  by_cases h1 : 16 < n1
  · have h1' : decide ((16 : Int) < n1) = true := decide_eq_true (by omega)
    rw [decide_eq_true h1, Bool.true_or]
    go_enter Try.func44, Try.ntmps44
    go_wp2_with (first
      | ((with_reducible show wpList _ _ _ _ _ _); refine wpList_box_at rfl 45 (.tmp 0) rfl [.slice a1 n1 c1, .int .i64 stack, .slice a2 n2 c2] rfl ?_; intro w1 hA1 hb1 hs1; clear hs1; refine Hid.out ?_))
    refine hidU ?_
    have c0 : w1.cell? ⟨w.heap.size, 0, none⟩ = some (.slice a1 n1 c1) := by rw [hA1.cell]; rfl
    clear hA1
    go_wp2
    go_ret
    exact ⟨rfl, hb1⟩
  · have h1' : decide ((16 : Int) < n1) = false := decide_eq_false (by omega)
    rw [decide_eq_false h1, Bool.false_or]
    by_cases h2 : 1024 < n2
    · have h2' : decide ((1024 : Int) < n2) = true := decide_eq_true (by omega)
      rw [decide_eq_true h2, Bool.true_or]
      go_enter Try.func44, Try.ntmps44
      go_wp2_with (first
        | ((with_reducible show wpList _ _ _ _ _ _); refine wpList_box_at rfl 45 (.tmp 0) rfl [.slice a1 n1 c1, .int .i64 stack, .slice a2 n2 c2] rfl ?_; intro w1 hA1 hb1 hs1; clear hs1; refine Hid.out ?_))
      refine hidU ?_
      have c0 : w1.cell? ⟨w.heap.size, 0, none⟩ = some (.slice a1 n1 c1) := by rw [hA1.cell]; rfl
      have c2' : w1.cell? ⟨w.heap.size, 2, none⟩ = some (.slice a2 n2 c2) := by rw [hA1.cell]; rfl
      clear hA1
      go_wp2
      go_ret
      exact ⟨rfl, hb1⟩
    · have h2' : decide ((1024 : Int) < n2) = false := decide_eq_false (by omega)
      rw [decide_eq_false h2, Bool.false_or]
      go_enter Try.func44, Try.ntmps44
      go_wp2_with (first
        | ((with_reducible show wpList _ _ _ _ _ _); refine wpList_box_at rfl 45 (.tmp 0) rfl [.slice a1 n1 c1, .int .i64 stack, .slice a2 n2 c2] rfl ?_; intro w1 hA1 hb1 hs1; clear hs1; refine Hid.out ?_))
      refine hidU ?_
      have c0 : w1.cell? ⟨w.heap.size, 0, none⟩ = some (.slice a1 n1 c1) := by rw [hA1.cell]; rfl
      have c2' : w1.cell? ⟨w.heap.size, 2, none⟩ = some (.slice a2 n2 c2) := by rw [hA1.cell]; rfl
      clear hA1
      go_wp2_with (first
        | (go_at_call 56; refine (HA.out _ hb1).mono ?_; rintro r w2 ⟨rfl, hb2⟩))
      go_ret
      exact ⟨rfl, hb1.trans (hb2.mono hb1.size)⟩

/-- A code with too much of something, or without a body. -/
def longC (c : Cd) : Bool := decide (c.bodies.length = 0) || (decide (16 < c.bodies.length) || (decide (32 < c.shared.length) || c.bodies.any longB))

set_option maxRecDepth 100000 in
set_option maxHeartbeats 1600000 in
theorem tooLong_any (B : Nat) (x : CT) (w : World) (h : x.In B w) (hB : B ≤ w.heap.size) : Calls Try.prog 31 #[.agg x.cells.toArray] w fun e w' => e = .returned (.bool (longC x.cd)) ∧ Below w.heap.size w w' := by
  obtain ⟨a1, c1, shared, mu, a2, c2, bodies⟩ := x
  have HA : Hid (∀ u, Below w.heap.size w u → Calls Try.prog 43 #[.slice a2 bodies.length c2, .func (.func 44) #[] #[]] u fun e w' => e = .returned (.bool (bodies.any fun y => longB y.bd)) ∧ Below u.heap.size u w') := fun u hu => by
    have hr : RowBT B u a2 c2 bodies := RowBT.old h.2.2 (Old.of_below hu hB)
    have hBu : B ≤ u.heap.size := by have := hu.size; omega
    exact any43_44 BT.cells BT.len3 bodies a2 c2 hr.1 hr.2.1 u (fun y => longB y.bd) (hr.see hBu) (fun i k v hk hv => by
      obtain ⟨_, _, _, _, _, hp⟩ := hr.at i k hk
      exact longBody_any B k v (hp.old (Old.of_below hv hBu)) (by have := hv.size; omega))
  have hl1 := h.1.1
  have hl2 := h.2.2.1
  have e : longC (CT.cd ⟨a1, c1, shared, mu, a2, c2, bodies⟩) = (decide (bodies.length = 0) || (decide (16 < bodies.length) || (decide (32 < shared.length) || bodies.any fun y => longB y.bd))) := by
    unfold longC CT.cd; simp only [List.any_map, List.length_map]; rfl
  rw [e]
  clear e h
  simp only [CT.cells]
  dsimp only at hl1 hl2
  generalize (bodies.any fun y => longB y.bd) = A at *
  generalize shared.length = n1 at *
  generalize bodies.length = n2 at *
  by_cases h0 : n2 = 0
  · rw [decide_eq_true h0, Bool.true_or]
    have h0' : ((n2 : Int) == 0) = true := by rw [beq_iff_eq]; omega
    clear h0
    go_enter Try.func31, Try.ntmps31
    go_wp2_with (first
      | ((with_reducible show wpList _ _ _ _ _ _); refine wpList_box_at rfl 25 (.tmp 0) rfl [.slice a1 n1 c1, .int .i64 mu, .slice a2 n2 c2] rfl ?_; intro w1 hA1 hb1 hs1; clear hs1; refine Hid.out ?_))
    refine hidU ?_
    have c0 : w1.cell? ⟨w.heap.size, 0, none⟩ = some (.slice a1 n1 c1) := by rw [hA1.cell]; rfl
    have c2' : w1.cell? ⟨w.heap.size, 2, none⟩ = some (.slice a2 n2 c2) := by rw [hA1.cell]; rfl
    clear hA1
    go_wp2
    go_ret
    exact ⟨rfl, hb1⟩
  · rw [decide_eq_false h0, Bool.false_or]
    have h0' : ((n2 : Int) == 0) = false := by rw [beq_eq_false_iff_ne]; omega
    clear h0
    by_cases h1 : 16 < n2
    · have h1' : decide ((16 : Int) < n2) = true := decide_eq_true (by omega)
      rw [decide_eq_true h1, Bool.true_or]
      go_enter Try.func31, Try.ntmps31
      go_wp2_with (first
        | ((with_reducible show wpList _ _ _ _ _ _); refine wpList_box_at rfl 25 (.tmp 0) rfl [.slice a1 n1 c1, .int .i64 mu, .slice a2 n2 c2] rfl ?_; intro w1 hA1 hb1 hs1; clear hs1; refine Hid.out ?_))
      refine hidU ?_
      have c0 : w1.cell? ⟨w.heap.size, 0, none⟩ = some (.slice a1 n1 c1) := by rw [hA1.cell]; rfl
      have c2' : w1.cell? ⟨w.heap.size, 2, none⟩ = some (.slice a2 n2 c2) := by rw [hA1.cell]; rfl
      clear hA1
      go_wp2
      go_ret
      exact ⟨rfl, hb1⟩
    · have h1' : decide ((16 : Int) < n2) = false := decide_eq_false (by omega)
      rw [decide_eq_false h1, Bool.false_or]
      by_cases h2 : 32 < n1
      · have h2' : decide ((32 : Int) < n1) = true := decide_eq_true (by omega)
        rw [decide_eq_true h2, Bool.true_or]
        go_enter Try.func31, Try.ntmps31
        go_wp2_with (first
          | ((with_reducible show wpList _ _ _ _ _ _); refine wpList_box_at rfl 25 (.tmp 0) rfl [.slice a1 n1 c1, .int .i64 mu, .slice a2 n2 c2] rfl ?_; intro w1 hA1 hb1 hs1; clear hs1; refine Hid.out ?_))
        refine hidU ?_
        have c0 : w1.cell? ⟨w.heap.size, 0, none⟩ = some (.slice a1 n1 c1) := by rw [hA1.cell]; rfl
        have c2' : w1.cell? ⟨w.heap.size, 2, none⟩ = some (.slice a2 n2 c2) := by rw [hA1.cell]; rfl
        clear hA1
        go_wp2
        go_ret
        exact ⟨rfl, hb1⟩
      · have h2' : decide ((32 : Int) < n1) = false := decide_eq_false (by omega)
        rw [decide_eq_false h2, Bool.false_or]
        go_enter Try.func31, Try.ntmps31
        go_wp2_with (first
          | ((with_reducible show wpList _ _ _ _ _ _); refine wpList_box_at rfl 25 (.tmp 0) rfl [.slice a1 n1 c1, .int .i64 mu, .slice a2 n2 c2] rfl ?_; intro w1 hA1 hb1 hs1; clear hs1; refine Hid.out ?_))
        refine hidU ?_
        have c0 : w1.cell? ⟨w.heap.size, 0, none⟩ = some (.slice a1 n1 c1) := by rw [hA1.cell]; rfl
        have c2' : w1.cell? ⟨w.heap.size, 2, none⟩ = some (.slice a2 n2 c2) := by rw [hA1.cell]; rfl
        clear hA1
        go_wp2_with (first
          | (go_at_call 43; refine (HA.out _ hb1).mono ?_; rintro r w2 ⟨rfl, hb2⟩))
        go_ret
        exact ⟨rfl, hb1.trans (hb2.mono hb1.size)⟩
end Go.Proofs.Ytefklmckkigllaa

/- Whether an instruction, what a node does last, and its other road may be. -/
namespace Go.Proofs.Ytefklmckkigllaa
open Go.RowKit
set_option linter.unusedVariables false

theorem eq35 (t b t' b' : Nat) (u : World) : (Op.equalIn 10000 35 (.agg #[.int .u8 (t : Int), .int .u64 (b : Int)]) (.agg #[.int .u8 (t' : Int), .int .u64 (b' : Int)])).run Try.prog u = .ok (decide (t = t' ∧ b = b')) u := by
  by_cases h1 : t = t'
  · by_cases h2 : b = b'
    · subst h1 h2
      simp only [and_self, decide_true]
      go_simp
    · have hp : ((b : Int) == (b' : Int)) = false := by rw [beq_eq_false_iff_ne]; omega
      subst h1
      simp only [h2, and_false, decide_false]
      go_simp
  · have he : ((t : Int) == (t' : Int)) = false := by rw [beq_eq_false_iff_ne]; omega
    simp only [h1, false_and, decide_false]
    go_simp

/-- Whether an instruction may be, of so many locals and shared variables. -/
def mayI (nl ns : Nat) (x : Ir) : Bool :=
  if x.op = 1 then decide (x.arg = 0) && mayV x.v
  else if x.op = 30 then isP x.arg nl && decide (x.v.t = 0 ∧ x.v.b = 0)
  else if x.op = 31 then isP x.arg ns && decide (x.v.t = 0 ∧ x.v.b = 0)
  else decide (3 ≤ x.op) && (decide (x.op ≤ 19) && (decide (x.arg = 0) && decide (x.v.t = 0 ∧ x.v.b = 0)))

theorem below_drewN (w : World) (m : Nat) : Below w.heap.size w (w.drewN m) := ⟨rfl, rfl, rfl, Nat.le_refl _, fun _ _ => rfl⟩

set_option maxRecDepth 100000 in
set_option maxHeartbeats 3200000 in
theorem mayInstr_any (g : Nat) (a1 a2 : Option Addr) (ns c1 nl c2 : Nat) (x : Ir) (hx : x.Ok) (w : World) (q0 : w.cell? ⟨g, 0, none⟩ = some (.slice a1 ns c1)) (q3 : w.cell? ⟨g, 3, none⟩ = some (.slice a2 nl c2)) :
    Calls Try.prog 82 #[.pointer (some ⟨g, 0, none⟩), .agg x.cells.toArray] w fun e w' => e = .returned (.bool (mayI nl ns x)) ∧ Below w.heap.size w w' := by
  obtain ⟨op, arg, ⟨t, b⟩⟩ := x
  obtain ⟨ho, ha, hv⟩ := hx
  have hlg : g < w.heap.size := lt_of_cell q0
  have hM : ∀ u, Calls Try.prog 47 #[.agg #[.int .u8 (t : Int), .int .u64 (b : Int)]] u fun e w' => e = .returned (.bool (mayV ⟨t, b⟩)) ∧ Below u.heap.size u w' := fun u => mayValue_any ⟨t, b⟩ hv u
  have hQ := fun u => eq35 t b 0 0 u
  have hQ : ∀ u, (Op.equalIn 10000 35 (.agg #[.int .u8 (t : Int), .int .u64 (b : Int)]) (.agg #[.int .u8 0, .int .u64 0])).run Try.prog u = .ok (decide (t = 0 ∧ b = 0)) u := hQ
  dsimp only at ho ha
  unfold mayI
  simp only [Ir.cells]
  generalize mayV ⟨t, b⟩ = MV at *
  generalize decide (t = 0 ∧ b = 0) = Z at *
  clear hv
  by_cases h1 : op = 1
  · rw [if_pos h1]
    have h1' : ((op : Int) == 1) = true := by rw [beq_iff_eq]; omega
    clear h1 hQ
    by_cases hz : arg = 0
    · rw [decide_eq_true hz, Bool.true_and]
      have hz' : (arg == 0) = true := by rw [beq_iff_eq]; exact hz
      clear hz
      go_enter Try.func82, Try.ntmps82
      go_wp2_with (first
        | ((with_reducible show wpList _ _ _ _ _ _); refine wpList_box_at rfl 37 (.tmp 1) rfl [.int .u8 (op : Int), .int .i64 arg, .int .u8 (t : Int), .int .u64 (b : Int)] rfl ?_; intro w1 hA1 hb1 hs1; clear hs1; refine Hid.out ?_))
      refine hidU ?_
      have c0 : w1.cell? ⟨w.heap.size, 0, none⟩ = some (.int .u8 (op : Int)) := by rw [hA1.cell]; rfl
      have c1 : w1.cell? ⟨w.heap.size, 1, none⟩ = some (.int .i64 arg) := by rw [hA1.cell]; rfl
      have c2 : w1.cell? ⟨w.heap.size, 2, none⟩ = some (.int .u8 (t : Int)) := by rw [hA1.cell]; rfl
      have c3 : w1.cell? ⟨w.heap.size, 3, none⟩ = some (.int .u64 (b : Int)) := by rw [hA1.cell]; rfl
      clear hA1
      rw [← hb1.cell hlg] at q0 q3
      go_wp2_with (first
        | ((with_reducible show wpList _ _ _ _ _ _); refine wpList_build_at rfl 35 _ rfl [.int .u8 0, .int .u64 0] (by kernel_rfl) ?_)
        | ((with_reducible show wpList _ _ _ _ _ _); refine wpList_alloc_at rfl 35 rfl [.int .u8 0, .int .u64 0] 2 z35 ?_; intro w2 hA2 hb2 hs2; clear hs2)
        | ((with_reducible show wpList _ _ _ _ _ _); refine wpList_store_at (P := Try.prog) rfl 35 (.tmp 5) (.tmp 6) rfl w1.heap.size [.int .u8 0, .int .u64 0] rfl rfl 35 _ hA2 i35 rfl (Vl.one ⟨0, 0⟩) ?_; intro w3 hA3 hb3 hs3; clear hs3; refine Hid.out ?_))
      refine hidU ?_
      have hl1 : w.heap.size < w1.heap.size := lt_of_cell c0
      have hB3 : Below w1.heap.size w1 w3 := hb3.below hb2 (Nat.le_refl _) hb2.size
      have hBw : Below w.heap.size w w3 := hb1.trans (hB3.mono hb1.size)
      rw [← hB3.cell hl1] at c0 c1 c2 c3
      rw [← hB3.cell (lt_of_cell q0)] at q0
      rw [← hB3.cell (lt_of_cell q3)] at q3
      have d0 : w3.cell? ⟨w1.heap.size, 0, none⟩ = some (.int .u8 0) := by rw [hA3.cell]; rfl
      have d1 : w3.cell? ⟨w1.heap.size, 1, none⟩ = some (.int .u64 0) := by rw [hA3.cell]; rfl
      clear hA2 hA3 hb1 hb2 hb3 hB3 hl1
      go_wp2_with (first
        | (go_at_call 47; refine (hM _).mono ?_; rintro r w4 ⟨rfl, hb4⟩))
      go_ret
      exact ⟨rfl, hBw.trans (hb4.mono hBw.size)⟩
    · rw [decide_eq_false hz, Bool.false_and]
      have hz' : (arg == 0) = false := by rw [beq_eq_false_iff_ne]; exact hz
      clear hz
      go_enter Try.func82, Try.ntmps82
      go_wp2_with (first
        | ((with_reducible show wpList _ _ _ _ _ _); refine wpList_box_at rfl 37 (.tmp 1) rfl [.int .u8 (op : Int), .int .i64 arg, .int .u8 (t : Int), .int .u64 (b : Int)] rfl ?_; intro w1 hA1 hb1 hs1; clear hs1; refine Hid.out ?_))
      refine hidU ?_
      have c0 : w1.cell? ⟨w.heap.size, 0, none⟩ = some (.int .u8 (op : Int)) := by rw [hA1.cell]; rfl
      have c1 : w1.cell? ⟨w.heap.size, 1, none⟩ = some (.int .i64 arg) := by rw [hA1.cell]; rfl
      have c2 : w1.cell? ⟨w.heap.size, 2, none⟩ = some (.int .u8 (t : Int)) := by rw [hA1.cell]; rfl
      have c3 : w1.cell? ⟨w.heap.size, 3, none⟩ = some (.int .u64 (b : Int)) := by rw [hA1.cell]; rfl
      clear hA1
      rw [← hb1.cell hlg] at q0 q3
      go_wp2_with (first
        | ((with_reducible show wpList _ _ _ _ _ _); refine wpList_build_at rfl 35 _ rfl [.int .u8 0, .int .u64 0] (by kernel_rfl) ?_)
        | ((with_reducible show wpList _ _ _ _ _ _); refine wpList_alloc_at rfl 35 rfl [.int .u8 0, .int .u64 0] 2 z35 ?_; intro w2 hA2 hb2 hs2; clear hs2)
        | ((with_reducible show wpList _ _ _ _ _ _); refine wpList_store_at (P := Try.prog) rfl 35 (.tmp 5) (.tmp 6) rfl w1.heap.size [.int .u8 0, .int .u64 0] rfl rfl 35 _ hA2 i35 rfl (Vl.one ⟨0, 0⟩) ?_; intro w3 hA3 hb3 hs3; clear hs3; refine Hid.out ?_))
      refine hidU ?_
      have hl1 : w.heap.size < w1.heap.size := lt_of_cell c0
      have hB3 : Below w1.heap.size w1 w3 := hb3.below hb2 (Nat.le_refl _) hb2.size
      have hBw : Below w.heap.size w w3 := hb1.trans (hB3.mono hb1.size)
      rw [← hB3.cell hl1] at c0 c1 c2 c3
      rw [← hB3.cell (lt_of_cell q0)] at q0
      rw [← hB3.cell (lt_of_cell q3)] at q3
      have d0 : w3.cell? ⟨w1.heap.size, 0, none⟩ = some (.int .u8 0) := by rw [hA3.cell]; rfl
      have d1 : w3.cell? ⟨w1.heap.size, 1, none⟩ = some (.int .u64 0) := by rw [hA3.cell]; rfl
      clear hA2 hA3 hb1 hb2 hb3 hB3 hl1
      go_wp2
      go_ret
      exact ⟨rfl, hBw⟩
  · rw [if_neg h1]
    have h1' : ((op : Int) == 1) = false := by rw [beq_eq_false_iff_ne]; omega
    clear hM
    by_cases h2 : op = 30
    · rw [if_pos h2]
      have h2' : ((op : Int) == 30) = true := by rw [beq_iff_eq]; omega
      clear h1 h2
      have hP := fun u => isPlace_any arg nl u
      generalize isP arg nl = PL at *
      cases PL with
      | true =>
        rw [Bool.true_and]
        go_enter Try.func82, Try.ntmps82
        go_wp2_with (first
          | ((with_reducible show wpList _ _ _ _ _ _); refine wpList_box_at rfl 37 (.tmp 1) rfl [.int .u8 (op : Int), .int .i64 arg, .int .u8 (t : Int), .int .u64 (b : Int)] rfl ?_; intro w1 hA1 hb1 hs1; clear hs1; refine Hid.out ?_))
        refine hidU ?_
        have c0 : w1.cell? ⟨w.heap.size, 0, none⟩ = some (.int .u8 (op : Int)) := by rw [hA1.cell]; rfl
        have c1 : w1.cell? ⟨w.heap.size, 1, none⟩ = some (.int .i64 arg) := by rw [hA1.cell]; rfl
        have c2 : w1.cell? ⟨w.heap.size, 2, none⟩ = some (.int .u8 (t : Int)) := by rw [hA1.cell]; rfl
        have c3 : w1.cell? ⟨w.heap.size, 3, none⟩ = some (.int .u64 (b : Int)) := by rw [hA1.cell]; rfl
        clear hA1
        rw [← hb1.cell hlg] at q0 q3
        go_wp2_with (first
          | ((with_reducible show wpList _ _ _ _ _ _); refine wpList_build_at rfl 35 _ rfl [.int .u8 0, .int .u64 0] (by kernel_rfl) ?_)
          | ((with_reducible show wpList _ _ _ _ _ _); refine wpList_alloc_at rfl 35 rfl [.int .u8 0, .int .u64 0] 2 z35 ?_; intro w2 hA2 hb2 hs2; clear hs2)
          | ((with_reducible show wpList _ _ _ _ _ _); refine wpList_store_at (P := Try.prog) rfl 35 (.tmp 5) (.tmp 6) rfl w1.heap.size [.int .u8 0, .int .u64 0] rfl rfl 35 _ hA2 i35 rfl (Vl.one ⟨0, 0⟩) ?_; intro w3 hA3 hb3 hs3; clear hs3; refine Hid.out ?_))
        refine hidU ?_
        have hl1 : w.heap.size < w1.heap.size := lt_of_cell c0
        have hB3 : Below w1.heap.size w1 w3 := hb3.below hb2 (Nat.le_refl _) hb2.size
        have hBw : Below w.heap.size w w3 := hb1.trans (hB3.mono hb1.size)
        rw [← hB3.cell hl1] at c0 c1 c2 c3
        rw [← hB3.cell (lt_of_cell q0)] at q0
        rw [← hB3.cell (lt_of_cell q3)] at q3
        have d0 : w3.cell? ⟨w1.heap.size, 0, none⟩ = some (.int .u8 0) := by rw [hA3.cell]; rfl
        have d1 : w3.cell? ⟨w1.heap.size, 1, none⟩ = some (.int .u64 0) := by rw [hA3.cell]; rfl
        clear hA2 hA3 hb1 hb2 hb3 hB3 hl1
        go_wp2_with fail
        go_quiet (first | (go_at_call 45; exact Calls.quiet_of_same (hP _)))
        go_wp2
        go_ret
        exact ⟨rfl, hBw.trans ((below_drewN _ _).mono hBw.size)⟩
      | false =>
        rw [Bool.false_and]
        go_enter Try.func82, Try.ntmps82
        go_wp2_with (first
          | ((with_reducible show wpList _ _ _ _ _ _); refine wpList_box_at rfl 37 (.tmp 1) rfl [.int .u8 (op : Int), .int .i64 arg, .int .u8 (t : Int), .int .u64 (b : Int)] rfl ?_; intro w1 hA1 hb1 hs1; clear hs1; refine Hid.out ?_))
        refine hidU ?_
        have c0 : w1.cell? ⟨w.heap.size, 0, none⟩ = some (.int .u8 (op : Int)) := by rw [hA1.cell]; rfl
        have c1 : w1.cell? ⟨w.heap.size, 1, none⟩ = some (.int .i64 arg) := by rw [hA1.cell]; rfl
        have c2 : w1.cell? ⟨w.heap.size, 2, none⟩ = some (.int .u8 (t : Int)) := by rw [hA1.cell]; rfl
        have c3 : w1.cell? ⟨w.heap.size, 3, none⟩ = some (.int .u64 (b : Int)) := by rw [hA1.cell]; rfl
        clear hA1
        rw [← hb1.cell hlg] at q0 q3
        go_wp2_with (first
          | ((with_reducible show wpList _ _ _ _ _ _); refine wpList_build_at rfl 35 _ rfl [.int .u8 0, .int .u64 0] (by kernel_rfl) ?_)
          | ((with_reducible show wpList _ _ _ _ _ _); refine wpList_alloc_at rfl 35 rfl [.int .u8 0, .int .u64 0] 2 z35 ?_; intro w2 hA2 hb2 hs2; clear hs2)
          | ((with_reducible show wpList _ _ _ _ _ _); refine wpList_store_at (P := Try.prog) rfl 35 (.tmp 5) (.tmp 6) rfl w1.heap.size [.int .u8 0, .int .u64 0] rfl rfl 35 _ hA2 i35 rfl (Vl.one ⟨0, 0⟩) ?_; intro w3 hA3 hb3 hs3; clear hs3; refine Hid.out ?_))
        refine hidU ?_
        have hl1 : w.heap.size < w1.heap.size := lt_of_cell c0
        have hB3 : Below w1.heap.size w1 w3 := hb3.below hb2 (Nat.le_refl _) hb2.size
        have hBw : Below w.heap.size w w3 := hb1.trans (hB3.mono hb1.size)
        rw [← hB3.cell hl1] at c0 c1 c2 c3
        rw [← hB3.cell (lt_of_cell q0)] at q0
        rw [← hB3.cell (lt_of_cell q3)] at q3
        have d0 : w3.cell? ⟨w1.heap.size, 0, none⟩ = some (.int .u8 0) := by rw [hA3.cell]; rfl
        have d1 : w3.cell? ⟨w1.heap.size, 1, none⟩ = some (.int .u64 0) := by rw [hA3.cell]; rfl
        clear hA2 hA3 hb1 hb2 hb3 hB3 hl1
        go_wp2_with fail
        go_quiet (first | (go_at_call 45; exact Calls.quiet_of_same (hP _)))
        go_wp2
        go_ret
        exact ⟨rfl, hBw.trans ((below_drewN _ _).mono hBw.size)⟩
    · rw [if_neg h2]
      have h2' : ((op : Int) == 30) = false := by rw [beq_eq_false_iff_ne]; omega
      by_cases h3 : op = 31
      · rw [if_pos h3]
        have h3' : ((op : Int) == 31) = true := by rw [beq_iff_eq]; omega
        clear h1 h2 h3
        have hP := fun u => isPlace_any arg ns u
        generalize isP arg ns = PL at *
        cases PL with
        | true =>
          rw [Bool.true_and]
          go_enter Try.func82, Try.ntmps82
          go_wp2_with (first
            | ((with_reducible show wpList _ _ _ _ _ _); refine wpList_box_at rfl 37 (.tmp 1) rfl [.int .u8 (op : Int), .int .i64 arg, .int .u8 (t : Int), .int .u64 (b : Int)] rfl ?_; intro w1 hA1 hb1 hs1; clear hs1; refine Hid.out ?_))
          refine hidU ?_
          have c0 : w1.cell? ⟨w.heap.size, 0, none⟩ = some (.int .u8 (op : Int)) := by rw [hA1.cell]; rfl
          have c1 : w1.cell? ⟨w.heap.size, 1, none⟩ = some (.int .i64 arg) := by rw [hA1.cell]; rfl
          have c2 : w1.cell? ⟨w.heap.size, 2, none⟩ = some (.int .u8 (t : Int)) := by rw [hA1.cell]; rfl
          have c3 : w1.cell? ⟨w.heap.size, 3, none⟩ = some (.int .u64 (b : Int)) := by rw [hA1.cell]; rfl
          clear hA1
          rw [← hb1.cell hlg] at q0 q3
          go_wp2_with (first
            | ((with_reducible show wpList _ _ _ _ _ _); refine wpList_build_at rfl 35 _ rfl [.int .u8 0, .int .u64 0] (by kernel_rfl) ?_)
            | ((with_reducible show wpList _ _ _ _ _ _); refine wpList_alloc_at rfl 35 rfl [.int .u8 0, .int .u64 0] 2 z35 ?_; intro w2 hA2 hb2 hs2; clear hs2)
            | ((with_reducible show wpList _ _ _ _ _ _); refine wpList_store_at (P := Try.prog) rfl 35 (.tmp 5) (.tmp 6) rfl w1.heap.size [.int .u8 0, .int .u64 0] rfl rfl 35 _ hA2 i35 rfl (Vl.one ⟨0, 0⟩) ?_; intro w3 hA3 hb3 hs3; clear hs3; refine Hid.out ?_))
          refine hidU ?_
          have hl1 : w.heap.size < w1.heap.size := lt_of_cell c0
          have hB3 : Below w1.heap.size w1 w3 := hb3.below hb2 (Nat.le_refl _) hb2.size
          have hBw : Below w.heap.size w w3 := hb1.trans (hB3.mono hb1.size)
          rw [← hB3.cell hl1] at c0 c1 c2 c3
          rw [← hB3.cell (lt_of_cell q0)] at q0
          rw [← hB3.cell (lt_of_cell q3)] at q3
          have d0 : w3.cell? ⟨w1.heap.size, 0, none⟩ = some (.int .u8 0) := by rw [hA3.cell]; rfl
          have d1 : w3.cell? ⟨w1.heap.size, 1, none⟩ = some (.int .u64 0) := by rw [hA3.cell]; rfl
          clear hA2 hA3 hb1 hb2 hb3 hB3 hl1
          go_wp2_with fail
          go_quiet (first | (go_at_call 45; exact Calls.quiet_of_same (hP _)))
          go_wp2
          go_ret
          exact ⟨rfl, hBw.trans ((below_drewN _ _).mono hBw.size)⟩
        | false =>
          rw [Bool.false_and]
          go_enter Try.func82, Try.ntmps82
          go_wp2_with (first
            | ((with_reducible show wpList _ _ _ _ _ _); refine wpList_box_at rfl 37 (.tmp 1) rfl [.int .u8 (op : Int), .int .i64 arg, .int .u8 (t : Int), .int .u64 (b : Int)] rfl ?_; intro w1 hA1 hb1 hs1; clear hs1; refine Hid.out ?_))
          refine hidU ?_
          have c0 : w1.cell? ⟨w.heap.size, 0, none⟩ = some (.int .u8 (op : Int)) := by rw [hA1.cell]; rfl
          have c1 : w1.cell? ⟨w.heap.size, 1, none⟩ = some (.int .i64 arg) := by rw [hA1.cell]; rfl
          have c2 : w1.cell? ⟨w.heap.size, 2, none⟩ = some (.int .u8 (t : Int)) := by rw [hA1.cell]; rfl
          have c3 : w1.cell? ⟨w.heap.size, 3, none⟩ = some (.int .u64 (b : Int)) := by rw [hA1.cell]; rfl
          clear hA1
          rw [← hb1.cell hlg] at q0 q3
          go_wp2_with (first
            | ((with_reducible show wpList _ _ _ _ _ _); refine wpList_build_at rfl 35 _ rfl [.int .u8 0, .int .u64 0] (by kernel_rfl) ?_)
            | ((with_reducible show wpList _ _ _ _ _ _); refine wpList_alloc_at rfl 35 rfl [.int .u8 0, .int .u64 0] 2 z35 ?_; intro w2 hA2 hb2 hs2; clear hs2)
            | ((with_reducible show wpList _ _ _ _ _ _); refine wpList_store_at (P := Try.prog) rfl 35 (.tmp 5) (.tmp 6) rfl w1.heap.size [.int .u8 0, .int .u64 0] rfl rfl 35 _ hA2 i35 rfl (Vl.one ⟨0, 0⟩) ?_; intro w3 hA3 hb3 hs3; clear hs3; refine Hid.out ?_))
          refine hidU ?_
          have hl1 : w.heap.size < w1.heap.size := lt_of_cell c0
          have hB3 : Below w1.heap.size w1 w3 := hb3.below hb2 (Nat.le_refl _) hb2.size
          have hBw : Below w.heap.size w w3 := hb1.trans (hB3.mono hb1.size)
          rw [← hB3.cell hl1] at c0 c1 c2 c3
          rw [← hB3.cell (lt_of_cell q0)] at q0
          rw [← hB3.cell (lt_of_cell q3)] at q3
          have d0 : w3.cell? ⟨w1.heap.size, 0, none⟩ = some (.int .u8 0) := by rw [hA3.cell]; rfl
          have d1 : w3.cell? ⟨w1.heap.size, 1, none⟩ = some (.int .u64 0) := by rw [hA3.cell]; rfl
          clear hA2 hA3 hb1 hb2 hb3 hB3 hl1
          go_wp2_with fail
          go_quiet (first | (go_at_call 45; exact Calls.quiet_of_same (hP _)))
          go_wp2
          go_ret
          exact ⟨rfl, hBw.trans ((below_drewN _ _).mono hBw.size)⟩
      · rw [if_neg h3]
        have h3' : ((op : Int) == 31) = false := by rw [beq_eq_false_iff_ne]; omega
        clear h1 h2 h3
        by_cases h4 : 3 ≤ op
        · rw [decide_eq_true h4, Bool.true_and]
          have h4' : decide ((3 : Int) ≤ op) = true := decide_eq_true (by omega)
          by_cases h5 : op ≤ 19
          · rw [decide_eq_true h5, Bool.true_and]
            have h5' : decide ((op : Int) ≤ 19) = true := decide_eq_true (by omega)
            by_cases hz : arg = 0
            · rw [decide_eq_true hz, Bool.true_and]
              have hz' : (arg == 0) = true := by rw [beq_iff_eq]; exact hz
              clear hz h4 h5
              go_enter Try.func82, Try.ntmps82
              go_wp2_with (first
                | ((with_reducible show wpList _ _ _ _ _ _); refine wpList_box_at rfl 37 (.tmp 1) rfl [.int .u8 (op : Int), .int .i64 arg, .int .u8 (t : Int), .int .u64 (b : Int)] rfl ?_; intro w1 hA1 hb1 hs1; clear hs1; refine Hid.out ?_))
              refine hidU ?_
              have c0 : w1.cell? ⟨w.heap.size, 0, none⟩ = some (.int .u8 (op : Int)) := by rw [hA1.cell]; rfl
              have c1 : w1.cell? ⟨w.heap.size, 1, none⟩ = some (.int .i64 arg) := by rw [hA1.cell]; rfl
              have c2 : w1.cell? ⟨w.heap.size, 2, none⟩ = some (.int .u8 (t : Int)) := by rw [hA1.cell]; rfl
              have c3 : w1.cell? ⟨w.heap.size, 3, none⟩ = some (.int .u64 (b : Int)) := by rw [hA1.cell]; rfl
              clear hA1
              rw [← hb1.cell hlg] at q0 q3
              go_wp2_with (first
                | ((with_reducible show wpList _ _ _ _ _ _); refine wpList_build_at rfl 35 _ rfl [.int .u8 0, .int .u64 0] (by kernel_rfl) ?_)
                | ((with_reducible show wpList _ _ _ _ _ _); refine wpList_alloc_at rfl 35 rfl [.int .u8 0, .int .u64 0] 2 z35 ?_; intro w2 hA2 hb2 hs2; clear hs2)
                | ((with_reducible show wpList _ _ _ _ _ _); refine wpList_store_at (P := Try.prog) rfl 35 (.tmp 5) (.tmp 6) rfl w1.heap.size [.int .u8 0, .int .u64 0] rfl rfl 35 _ hA2 i35 rfl (Vl.one ⟨0, 0⟩) ?_; intro w3 hA3 hb3 hs3; clear hs3; refine Hid.out ?_))
              refine hidU ?_
              have hl1 : w.heap.size < w1.heap.size := lt_of_cell c0
              have hB3 : Below w1.heap.size w1 w3 := hb3.below hb2 (Nat.le_refl _) hb2.size
              have hBw : Below w.heap.size w w3 := hb1.trans (hB3.mono hb1.size)
              rw [← hB3.cell hl1] at c0 c1 c2 c3
              rw [← hB3.cell (lt_of_cell q0)] at q0
              rw [← hB3.cell (lt_of_cell q3)] at q3
              have d0 : w3.cell? ⟨w1.heap.size, 0, none⟩ = some (.int .u8 0) := by rw [hA3.cell]; rfl
              have d1 : w3.cell? ⟨w1.heap.size, 1, none⟩ = some (.int .u64 0) := by rw [hA3.cell]; rfl
              clear hA2 hA3 hb1 hb2 hb3 hB3 hl1
              go_wp2
              go_ret
              exact ⟨rfl, hBw⟩
            · rw [decide_eq_false hz, Bool.false_and]
              have hz' : (arg == 0) = false := by rw [beq_eq_false_iff_ne]; exact hz
              clear hz h4 h5
              go_enter Try.func82, Try.ntmps82
              go_wp2_with (first
                | ((with_reducible show wpList _ _ _ _ _ _); refine wpList_box_at rfl 37 (.tmp 1) rfl [.int .u8 (op : Int), .int .i64 arg, .int .u8 (t : Int), .int .u64 (b : Int)] rfl ?_; intro w1 hA1 hb1 hs1; clear hs1; refine Hid.out ?_))
              refine hidU ?_
              have c0 : w1.cell? ⟨w.heap.size, 0, none⟩ = some (.int .u8 (op : Int)) := by rw [hA1.cell]; rfl
              have c1 : w1.cell? ⟨w.heap.size, 1, none⟩ = some (.int .i64 arg) := by rw [hA1.cell]; rfl
              have c2 : w1.cell? ⟨w.heap.size, 2, none⟩ = some (.int .u8 (t : Int)) := by rw [hA1.cell]; rfl
              have c3 : w1.cell? ⟨w.heap.size, 3, none⟩ = some (.int .u64 (b : Int)) := by rw [hA1.cell]; rfl
              clear hA1
              rw [← hb1.cell hlg] at q0 q3
              go_wp2_with (first
                | ((with_reducible show wpList _ _ _ _ _ _); refine wpList_build_at rfl 35 _ rfl [.int .u8 0, .int .u64 0] (by kernel_rfl) ?_)
                | ((with_reducible show wpList _ _ _ _ _ _); refine wpList_alloc_at rfl 35 rfl [.int .u8 0, .int .u64 0] 2 z35 ?_; intro w2 hA2 hb2 hs2; clear hs2)
                | ((with_reducible show wpList _ _ _ _ _ _); refine wpList_store_at (P := Try.prog) rfl 35 (.tmp 5) (.tmp 6) rfl w1.heap.size [.int .u8 0, .int .u64 0] rfl rfl 35 _ hA2 i35 rfl (Vl.one ⟨0, 0⟩) ?_; intro w3 hA3 hb3 hs3; clear hs3; refine Hid.out ?_))
              refine hidU ?_
              have hl1 : w.heap.size < w1.heap.size := lt_of_cell c0
              have hB3 : Below w1.heap.size w1 w3 := hb3.below hb2 (Nat.le_refl _) hb2.size
              have hBw : Below w.heap.size w w3 := hb1.trans (hB3.mono hb1.size)
              rw [← hB3.cell hl1] at c0 c1 c2 c3
              rw [← hB3.cell (lt_of_cell q0)] at q0
              rw [← hB3.cell (lt_of_cell q3)] at q3
              have d0 : w3.cell? ⟨w1.heap.size, 0, none⟩ = some (.int .u8 0) := by rw [hA3.cell]; rfl
              have d1 : w3.cell? ⟨w1.heap.size, 1, none⟩ = some (.int .u64 0) := by rw [hA3.cell]; rfl
              clear hA2 hA3 hb1 hb2 hb3 hB3 hl1
              go_wp2
              go_ret
              exact ⟨rfl, hBw⟩
          · rw [decide_eq_false h5, Bool.false_and]
            have h5' : decide ((op : Int) ≤ 19) = false := decide_eq_false (by omega)
            clear h4 h5
            go_enter Try.func82, Try.ntmps82
            go_wp2_with (first
              | ((with_reducible show wpList _ _ _ _ _ _); refine wpList_box_at rfl 37 (.tmp 1) rfl [.int .u8 (op : Int), .int .i64 arg, .int .u8 (t : Int), .int .u64 (b : Int)] rfl ?_; intro w1 hA1 hb1 hs1; clear hs1; refine Hid.out ?_))
            refine hidU ?_
            have c0 : w1.cell? ⟨w.heap.size, 0, none⟩ = some (.int .u8 (op : Int)) := by rw [hA1.cell]; rfl
            have c1 : w1.cell? ⟨w.heap.size, 1, none⟩ = some (.int .i64 arg) := by rw [hA1.cell]; rfl
            have c2 : w1.cell? ⟨w.heap.size, 2, none⟩ = some (.int .u8 (t : Int)) := by rw [hA1.cell]; rfl
            have c3 : w1.cell? ⟨w.heap.size, 3, none⟩ = some (.int .u64 (b : Int)) := by rw [hA1.cell]; rfl
            clear hA1
            rw [← hb1.cell hlg] at q0 q3
            go_wp2_with (first
              | ((with_reducible show wpList _ _ _ _ _ _); refine wpList_build_at rfl 35 _ rfl [.int .u8 0, .int .u64 0] (by kernel_rfl) ?_)
              | ((with_reducible show wpList _ _ _ _ _ _); refine wpList_alloc_at rfl 35 rfl [.int .u8 0, .int .u64 0] 2 z35 ?_; intro w2 hA2 hb2 hs2; clear hs2)
              | ((with_reducible show wpList _ _ _ _ _ _); refine wpList_store_at (P := Try.prog) rfl 35 (.tmp 5) (.tmp 6) rfl w1.heap.size [.int .u8 0, .int .u64 0] rfl rfl 35 _ hA2 i35 rfl (Vl.one ⟨0, 0⟩) ?_; intro w3 hA3 hb3 hs3; clear hs3; refine Hid.out ?_))
            refine hidU ?_
            have hl1 : w.heap.size < w1.heap.size := lt_of_cell c0
            have hB3 : Below w1.heap.size w1 w3 := hb3.below hb2 (Nat.le_refl _) hb2.size
            have hBw : Below w.heap.size w w3 := hb1.trans (hB3.mono hb1.size)
            rw [← hB3.cell hl1] at c0 c1 c2 c3
            rw [← hB3.cell (lt_of_cell q0)] at q0
            rw [← hB3.cell (lt_of_cell q3)] at q3
            have d0 : w3.cell? ⟨w1.heap.size, 0, none⟩ = some (.int .u8 0) := by rw [hA3.cell]; rfl
            have d1 : w3.cell? ⟨w1.heap.size, 1, none⟩ = some (.int .u64 0) := by rw [hA3.cell]; rfl
            clear hA2 hA3 hb1 hb2 hb3 hB3 hl1
            go_wp2
            go_ret
            exact ⟨rfl, hBw⟩
        · rw [decide_eq_false h4, Bool.false_and]
          have h4' : decide ((3 : Int) ≤ op) = false := decide_eq_false (by omega)
          clear h4
          go_enter Try.func82, Try.ntmps82
          go_wp2_with (first
            | ((with_reducible show wpList _ _ _ _ _ _); refine wpList_box_at rfl 37 (.tmp 1) rfl [.int .u8 (op : Int), .int .i64 arg, .int .u8 (t : Int), .int .u64 (b : Int)] rfl ?_; intro w1 hA1 hb1 hs1; clear hs1; refine Hid.out ?_))
          refine hidU ?_
          have c0 : w1.cell? ⟨w.heap.size, 0, none⟩ = some (.int .u8 (op : Int)) := by rw [hA1.cell]; rfl
          have c1 : w1.cell? ⟨w.heap.size, 1, none⟩ = some (.int .i64 arg) := by rw [hA1.cell]; rfl
          have c2 : w1.cell? ⟨w.heap.size, 2, none⟩ = some (.int .u8 (t : Int)) := by rw [hA1.cell]; rfl
          have c3 : w1.cell? ⟨w.heap.size, 3, none⟩ = some (.int .u64 (b : Int)) := by rw [hA1.cell]; rfl
          clear hA1
          rw [← hb1.cell hlg] at q0 q3
          go_wp2_with (first
            | ((with_reducible show wpList _ _ _ _ _ _); refine wpList_build_at rfl 35 _ rfl [.int .u8 0, .int .u64 0] (by kernel_rfl) ?_)
            | ((with_reducible show wpList _ _ _ _ _ _); refine wpList_alloc_at rfl 35 rfl [.int .u8 0, .int .u64 0] 2 z35 ?_; intro w2 hA2 hb2 hs2; clear hs2)
            | ((with_reducible show wpList _ _ _ _ _ _); refine wpList_store_at (P := Try.prog) rfl 35 (.tmp 5) (.tmp 6) rfl w1.heap.size [.int .u8 0, .int .u64 0] rfl rfl 35 _ hA2 i35 rfl (Vl.one ⟨0, 0⟩) ?_; intro w3 hA3 hb3 hs3; clear hs3; refine Hid.out ?_))
          refine hidU ?_
          have hl1 : w.heap.size < w1.heap.size := lt_of_cell c0
          have hB3 : Below w1.heap.size w1 w3 := hb3.below hb2 (Nat.le_refl _) hb2.size
          have hBw : Below w.heap.size w w3 := hb1.trans (hB3.mono hb1.size)
          rw [← hB3.cell hl1] at c0 c1 c2 c3
          rw [← hB3.cell (lt_of_cell q0)] at q0
          rw [← hB3.cell (lt_of_cell q3)] at q3
          have d0 : w3.cell? ⟨w1.heap.size, 0, none⟩ = some (.int .u8 0) := by rw [hA3.cell]; rfl
          have d1 : w3.cell? ⟨w1.heap.size, 1, none⟩ = some (.int .u64 0) := by rw [hA3.cell]; rfl
          clear hA2 hA3 hb1 hb2 hb3 hB3 hl1
          go_wp2
          go_ret
          exact ⟨rfl, hBw⟩

end Go.Proofs.Ytefklmckkigllaa

/- 'all' of a list: each is asked in its turn, up to the first no. -/
namespace Go.Proofs.Ytefklmckkigllaa
open Go.RowKit
set_option linter.unusedVariables false

set_option maxRecDepth 100000 in
set_option maxHeartbeats 3200000 in
theorem all46_47 {α : Type} (cl : α → List Value) (hlen : ∀ k, (cl k).length = 2) (hone : ∀ k, ∀ x ∈ cl k, x.oneCell' = true) (ks : List α) (a : Option Addr) (c : Nat) (hl : ks.length ≤ 1048576) (hcap : ks.length ≤ c) (w : World) (A : Nat → α → Bool) (I : Nat → World → Prop) (J : World → Prop)
    (hgrow : ∀ i u u', I i u → Below u.heap.size u u' → I i u')
    (hrow : ∀ i k u, ks[i]? = some k → I i u → ∃ g o, a = some ⟨g, o, none⟩ ∧ u.rangeAt g (o + i * 2) (cl k))
    (hask : ∀ i k u, ks[i]? = some k → I i u → Calls Try.prog 47 #[.agg (cl k).toArray] u fun e u' => e = .returned (.bool (A i k)) ∧ (A i k = true → I (i + 1) u') ∧ (A i k = false → J u'))
    (h0 : I 0 w) :
    Calls Try.prog 46 #[.slice a ks.length c, .func (.func 47) #[] #[]] w fun e w' => (e = .returned (.bool true) ∧ (∀ i k, ks[i]? = some k → A i k = true) ∧ I ks.length w') ∨ (e = .returned (.bool false) ∧ (∃ i k, ks[i]? = some k ∧ A i k = false) ∧ J w') := by
  obtain ⟨n, hn⟩ : ∃ n, Hid (n = ks.length) := ⟨_, (rfl : ks.length = _)⟩
  rw [← hn.out] at hl hcap ⊢
  have HG : Hid (∀ i u u', I i u → Below u.heap.size u u' → I i u') := hgrow
  have HR : Hid (∀ i k u, ks[i]? = some k → I i u → ∃ g o, a = some ⟨g, o, none⟩ ∧ u.rangeAt g (o + i * 2) (cl k)) := hrow
  have HA : Hid (∀ i k u, ks[i]? = some k → I i u → Calls Try.prog 47 #[.agg (cl k).toArray] u fun e u' => e = .returned (.bool (A i k)) ∧ (A i k = true → I (i + 1) u') ∧ (A i k = false → J u')) := hask
  have H0 : Hid (I 0 w) := h0
  clear hgrow hrow hask h0
  go_enter Try.func46, Try.ntmps46
  go_wp2_with fail
  go_loopw [9] (fun j wr => ∃ i : Nat, j = .int .i64 (i : Int) ∧ i ≤ n ∧ Hid (I i wr ∧ ∀ q k, q < i → ks[q]? = some k → A q k = true)) (fun j _ => n - (intOf j).toNat)
  case atStart => exact ⟨0, rfl, by omega, H0.out, fun q k hq => by omega⟩
  case round =>
    obtain ⟨i, rfl, hi, hX⟩ := hrel
    by_cases hc : i < n
    · obtain ⟨s, hs⟩ : ∃ k, ks[i]? = some k := ⟨ks[i]'(by rw [← hn.out]; exact hc), by rw [List.getElem?_eq_getElem]⟩
      obtain ⟨hI, hall⟩ := hX.out
      obtain ⟨g1, o1, rfl, hr1⟩ := HR.out i s wr hs hI
      clear hX HR H0
      have hls := hlen s
      have hos := hone s
      have HI : Hid (I i wr) := hI
      have HL : Hid (∀ q k, q < i → ks[q]? = some k → A q k = true) := hall
      clear hI hall
      go_wp2_with (first
        | ((with_reducible show wpList _ _ _ _ _ _); refine wpList_load_mid (P := Try.prog) rfl 35 (.tmp 11) rfl g1 (o1 + i * 2) (by first | rfl | (simp; done)) (cl s) _ hr1 Try.underlying35 rfl (by rw [hls]; exact i35) ?_)
        | ((with_reducible show wpList _ _ _ _ _ _); refine wpList_alloc_at rfl 35 rfl _ 2 z35 ?_; intro w2 hA2 hb2 hs2)
        | ((with_reducible show wpList _ _ _ _ _ _); refine wpList_store_at (P := Try.prog) rfl 35 (.tmp 6) (.tmp 12) rfl wr.heap.size (cl s) rfl rfl 35 _ hA2 (by rw [hls]; exact i35) (by rw [hls]; rfl) hos ?_; intro w3 hA3 hb3 hs3; refine Hid.out ?_))
      refine hidU ?_
      have hB3 : Below wr.heap.size wr w3 := hb3.below hb2 (Nat.le_refl _) (by omega)
      have hC := HA.out i s w3 hs (HG.out i _ _ HI.out hB3)
      have hA3' := hA3
      obtain ⟨b, hb⟩ : ∃ b, Hid (b = A i s) := ⟨_, (rfl : A i s = _)⟩
      rw [← hb.out] at hC
      clear hb3 hb2 hA2 hr1 hs2 hs3 hA3 hB3 HI HA HG
      go_wp2_with (first
        | ((with_reducible show wpList _ _ _ _ _ _); refine wpList_load_at (P := Try.prog) rfl 35 (.tmp 6) rfl wr.heap.size rfl 35 (cl s) hA3' _ Try.underlying35 rfl (by rw [hls]; exact i35) ?_))
      refine hC.mono ?_
      rintro r w6 ⟨rfl, hy, hz⟩
      clear hC hA3' hos hls
      cases b with
      | false =>
        have HJ : Hid (J w6) := hz rfl
        have HB : Hid (A i s = false) := hb.out.symm
        clear hy hz hb
        go_wp2
        go_ret
        exact .inr ⟨rfl, ⟨i, s, hs, HB.out⟩, HJ.out⟩
      | true =>
        have HY : Hid (I (i + 1) w6) := hy rfl
        have HB : Hid (A i s = true) := hb.out.symm
        clear hy hz hb
        go_wp2
        go_roundw
        case rel =>
          refine ⟨i + 1, by go_num, by omega, HY.out, fun q k hq hk => ?_⟩
          by_cases hqi : q = i
          · subst hqi
            rw [hs] at hk
            cases hk
            exact HB.out
          · exact HL.out q k (by omega) hk
        case measure => simp [intOf]; omega
    · have hin : i = n := by omega
      subst hin
      have HX := hX
      clear hX HR HA HG H0
      go_wp2
      go_ret
      refine .inl ⟨rfl, fun q k hk => HX.out.2 q k ?_ hk, HX.out.1⟩
      have := (List.getElem?_eq_some_iff.1 hk).1
      rw [hn.out]
      exact this

end Go.Proofs.Ytefklmckkigllaa

/- 'all' of a list: each is asked in its turn, up to the first no. -/
namespace Go.Proofs.Ytefklmckkigllaa
open Go.RowKit
set_option linter.unusedVariables false

set_option maxRecDepth 100000 in
set_option maxHeartbeats 3200000 in
theorem all48_49 {α : Type} (cl : α → List Value) (hlen : ∀ k, (cl k).length = 3) (hone : ∀ k, ∀ x ∈ cl k, x.oneCell' = true) (p : Value)(ks : List α) (a : Option Addr) (c : Nat) (hl : ks.length ≤ 1048576) (hcap : ks.length ≤ c) (w : World) (A : Nat → α → Bool) (I : Nat → World → Prop) (J : World → Prop)
    (hgrow : ∀ i u u', I i u → Below u.heap.size u u' → I i u')
    (hrow : ∀ i k u, ks[i]? = some k → I i u → ∃ g o, a = some ⟨g, o, none⟩ ∧ u.rangeAt g (o + i * 3) (cl k))
    (hask : ∀ i k u, ks[i]? = some k → I i u → Calls Try.prog 49 #[.agg (cl k).toArray, p] u fun e u' => e = .returned (.bool (A i k)) ∧ (A i k = true → I (i + 1) u') ∧ (A i k = false → J u'))
    (h0 : I 0 w) :
    Calls Try.prog 48 #[.slice a ks.length c, .func (.func 49) #[] #[p]] w fun e w' => (e = .returned (.bool true) ∧ (∀ i k, ks[i]? = some k → A i k = true) ∧ I ks.length w') ∨ (e = .returned (.bool false) ∧ (∃ i k, ks[i]? = some k ∧ A i k = false) ∧ J w') := by
  obtain ⟨n, hn⟩ : ∃ n, Hid (n = ks.length) := ⟨_, (rfl : ks.length = _)⟩
  rw [← hn.out] at hl hcap ⊢
  have HG : Hid (∀ i u u', I i u → Below u.heap.size u u' → I i u') := hgrow
  have HR : Hid (∀ i k u, ks[i]? = some k → I i u → ∃ g o, a = some ⟨g, o, none⟩ ∧ u.rangeAt g (o + i * 3) (cl k)) := hrow
  have HA : Hid (∀ i k u, ks[i]? = some k → I i u → Calls Try.prog 49 #[.agg (cl k).toArray, p] u fun e u' => e = .returned (.bool (A i k)) ∧ (A i k = true → I (i + 1) u') ∧ (A i k = false → J u')) := hask
  have H0 : Hid (I 0 w) := h0
  clear hgrow hrow hask h0
  go_enter Try.func48, Try.ntmps48
  go_wp2_with fail
  go_loopw [9] (fun j wr => ∃ i : Nat, j = .int .i64 (i : Int) ∧ i ≤ n ∧ Hid (I i wr ∧ ∀ q k, q < i → ks[q]? = some k → A q k = true)) (fun j _ => n - (intOf j).toNat)
  case atStart => exact ⟨0, rfl, by omega, H0.out, fun q k hq => by omega⟩
  case round =>
    obtain ⟨i, rfl, hi, hX⟩ := hrel
    by_cases hc : i < n
    · obtain ⟨s, hs⟩ : ∃ k, ks[i]? = some k := ⟨ks[i]'(by rw [← hn.out]; exact hc), by rw [List.getElem?_eq_getElem]⟩
      obtain ⟨hI, hall⟩ := hX.out
      obtain ⟨g1, o1, rfl, hr1⟩ := HR.out i s wr hs hI
      clear hX HR H0
      have hls := hlen s
      have hos := hone s
      have HI : Hid (I i wr) := hI
      have HL : Hid (∀ q k, q < i → ks[q]? = some k → A q k = true) := hall
      clear hI hall
      go_wp2_with (first
        | ((with_reducible show wpList _ _ _ _ _ _); refine wpList_load_mid (P := Try.prog) rfl 45 (.tmp 11) rfl g1 (o1 + i * 3) (by first | rfl | (simp; done)) (cl s) _ hr1 Try.underlying45 rfl (by rw [hls]; exact i45) ?_)
        | ((with_reducible show wpList _ _ _ _ _ _); refine wpList_alloc_at rfl 45 rfl _ 3 z45 ?_; intro w2 hA2 hb2 hs2)
        | ((with_reducible show wpList _ _ _ _ _ _); refine wpList_store_at (P := Try.prog) rfl 45 (.tmp 6) (.tmp 12) rfl wr.heap.size (cl s) rfl rfl 45 _ hA2 (by rw [hls]; exact i45) (by rw [hls]; rfl) hos ?_; intro w3 hA3 hb3 hs3; refine Hid.out ?_))
      refine hidU ?_
      have hB3 : Below wr.heap.size wr w3 := hb3.below hb2 (Nat.le_refl _) (by omega)
      have hC := HA.out i s w3 hs (HG.out i _ _ HI.out hB3)
      have hA3' := hA3
      obtain ⟨b, hb⟩ : ∃ b, Hid (b = A i s) := ⟨_, (rfl : A i s = _)⟩
      rw [← hb.out] at hC
      clear hb3 hb2 hA2 hr1 hs2 hs3 hA3 hB3 HI HA HG
      go_wp2_with (first
        | ((with_reducible show wpList _ _ _ _ _ _); refine wpList_load_at (P := Try.prog) rfl 45 (.tmp 6) rfl wr.heap.size rfl 45 (cl s) hA3' _ Try.underlying45 rfl (by rw [hls]; exact i45) ?_))
      refine hC.mono ?_
      rintro r w6 ⟨rfl, hy, hz⟩
      clear hC hA3' hos hls
      cases b with
      | false =>
        have HJ : Hid (J w6) := hz rfl
        have HB : Hid (A i s = false) := hb.out.symm
        clear hy hz hb
        go_wp2
        go_ret
        exact .inr ⟨rfl, ⟨i, s, hs, HB.out⟩, HJ.out⟩
      | true =>
        have HY : Hid (I (i + 1) w6) := hy rfl
        have HB : Hid (A i s = true) := hb.out.symm
        clear hy hz hb
        go_wp2
        go_roundw
        case rel =>
          refine ⟨i + 1, by go_num, by omega, HY.out, fun q k hq hk => ?_⟩
          by_cases hqi : q = i
          · subst hqi
            rw [hs] at hk
            cases hk
            exact HB.out
          · exact HL.out q k (by omega) hk
        case measure => simp [intOf]; omega
    · have hin : i = n := by omega
      subst hin
      have HX := hX
      clear hX HR HA HG H0
      go_wp2
      go_ret
      refine .inl ⟨rfl, fun q k hk => HX.out.2 q k ?_ hk, HX.out.1⟩
      have := (List.getElem?_eq_some_iff.1 hk).1
      rw [hn.out]
      exact this

set_option maxRecDepth 100000 in
set_option maxHeartbeats 3200000 in
theorem all48_51 {α : Type} (cl : α → List Value) (hlen : ∀ k, (cl k).length = 3) (hone : ∀ k, ∀ x ∈ cl k, x.oneCell' = true) (p : Value)(ks : List α) (a : Option Addr) (c : Nat) (hl : ks.length ≤ 1048576) (hcap : ks.length ≤ c) (w : World) (A : Nat → α → Bool) (I : Nat → World → Prop) (J : World → Prop)
    (hgrow : ∀ i u u', I i u → Below u.heap.size u u' → I i u')
    (hrow : ∀ i k u, ks[i]? = some k → I i u → ∃ g o, a = some ⟨g, o, none⟩ ∧ u.rangeAt g (o + i * 3) (cl k))
    (hask : ∀ i k u, ks[i]? = some k → I i u → Calls Try.prog 51 #[.agg (cl k).toArray, p] u fun e u' => e = .returned (.bool (A i k)) ∧ (A i k = true → I (i + 1) u') ∧ (A i k = false → J u'))
    (h0 : I 0 w) :
    Calls Try.prog 48 #[.slice a ks.length c, .func (.func 51) #[] #[p]] w fun e w' => (e = .returned (.bool true) ∧ (∀ i k, ks[i]? = some k → A i k = true) ∧ I ks.length w') ∨ (e = .returned (.bool false) ∧ (∃ i k, ks[i]? = some k ∧ A i k = false) ∧ J w') := by
  obtain ⟨n, hn⟩ : ∃ n, Hid (n = ks.length) := ⟨_, (rfl : ks.length = _)⟩
  rw [← hn.out] at hl hcap ⊢
  have HG : Hid (∀ i u u', I i u → Below u.heap.size u u' → I i u') := hgrow
  have HR : Hid (∀ i k u, ks[i]? = some k → I i u → ∃ g o, a = some ⟨g, o, none⟩ ∧ u.rangeAt g (o + i * 3) (cl k)) := hrow
  have HA : Hid (∀ i k u, ks[i]? = some k → I i u → Calls Try.prog 51 #[.agg (cl k).toArray, p] u fun e u' => e = .returned (.bool (A i k)) ∧ (A i k = true → I (i + 1) u') ∧ (A i k = false → J u')) := hask
  have H0 : Hid (I 0 w) := h0
  clear hgrow hrow hask h0
  go_enter Try.func48, Try.ntmps48
  go_wp2_with fail
  go_loopw [9] (fun j wr => ∃ i : Nat, j = .int .i64 (i : Int) ∧ i ≤ n ∧ Hid (I i wr ∧ ∀ q k, q < i → ks[q]? = some k → A q k = true)) (fun j _ => n - (intOf j).toNat)
  case atStart => exact ⟨0, rfl, by omega, H0.out, fun q k hq => by omega⟩
  case round =>
    obtain ⟨i, rfl, hi, hX⟩ := hrel
    by_cases hc : i < n
    · obtain ⟨s, hs⟩ : ∃ k, ks[i]? = some k := ⟨ks[i]'(by rw [← hn.out]; exact hc), by rw [List.getElem?_eq_getElem]⟩
      obtain ⟨hI, hall⟩ := hX.out
      obtain ⟨g1, o1, rfl, hr1⟩ := HR.out i s wr hs hI
      clear hX HR H0
      have hls := hlen s
      have hos := hone s
      have HI : Hid (I i wr) := hI
      have HL : Hid (∀ q k, q < i → ks[q]? = some k → A q k = true) := hall
      clear hI hall
      go_wp2_with (first
        | ((with_reducible show wpList _ _ _ _ _ _); refine wpList_load_mid (P := Try.prog) rfl 45 (.tmp 11) rfl g1 (o1 + i * 3) (by first | rfl | (simp; done)) (cl s) _ hr1 Try.underlying45 rfl (by rw [hls]; exact i45) ?_)
        | ((with_reducible show wpList _ _ _ _ _ _); refine wpList_alloc_at rfl 45 rfl _ 3 z45 ?_; intro w2 hA2 hb2 hs2)
        | ((with_reducible show wpList _ _ _ _ _ _); refine wpList_store_at (P := Try.prog) rfl 45 (.tmp 6) (.tmp 12) rfl wr.heap.size (cl s) rfl rfl 45 _ hA2 (by rw [hls]; exact i45) (by rw [hls]; rfl) hos ?_; intro w3 hA3 hb3 hs3; refine Hid.out ?_))
      refine hidU ?_
      have hB3 : Below wr.heap.size wr w3 := hb3.below hb2 (Nat.le_refl _) (by omega)
      have hC := HA.out i s w3 hs (HG.out i _ _ HI.out hB3)
      have hA3' := hA3
      obtain ⟨b, hb⟩ : ∃ b, Hid (b = A i s) := ⟨_, (rfl : A i s = _)⟩
      rw [← hb.out] at hC
      clear hb3 hb2 hA2 hr1 hs2 hs3 hA3 hB3 HI HA HG
      go_wp2_with (first
        | ((with_reducible show wpList _ _ _ _ _ _); refine wpList_load_at (P := Try.prog) rfl 45 (.tmp 6) rfl wr.heap.size rfl 45 (cl s) hA3' _ Try.underlying45 rfl (by rw [hls]; exact i45) ?_))
      refine hC.mono ?_
      rintro r w6 ⟨rfl, hy, hz⟩
      clear hC hA3' hos hls
      cases b with
      | false =>
        have HJ : Hid (J w6) := hz rfl
        have HB : Hid (A i s = false) := hb.out.symm
        clear hy hz hb
        go_wp2
        go_ret
        exact .inr ⟨rfl, ⟨i, s, hs, HB.out⟩, HJ.out⟩
      | true =>
        have HY : Hid (I (i + 1) w6) := hy rfl
        have HB : Hid (A i s = true) := hb.out.symm
        clear hy hz hb
        go_wp2
        go_roundw
        case rel =>
          refine ⟨i + 1, by go_num, by omega, HY.out, fun q k hq hk => ?_⟩
          by_cases hqi : q = i
          · subst hqi
            rw [hs] at hk
            cases hk
            exact HB.out
          · exact HL.out q k (by omega) hk
        case measure => simp [intOf]; omega
    · have hin : i = n := by omega
      subst hin
      have HX := hX
      clear hX HR HA HG H0
      go_wp2
      go_ret
      refine .inl ⟨rfl, fun q k hk => HX.out.2 q k ?_ hk, HX.out.1⟩
      have := (List.getElem?_eq_some_iff.1 hk).1
      rw [hn.out]
      exact this

end Go.Proofs.Ytefklmckkigllaa
