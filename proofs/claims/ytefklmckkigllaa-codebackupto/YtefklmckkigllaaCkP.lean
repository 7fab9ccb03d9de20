/- Types of a body and of a code; Check. -/
import Derived.Test.YtefklmckkigllaaCkO
namespace Go.Proofs.Ytefklmckkigllaa
open Go.RowKit
set_option linter.unusedVariables false

theorem built99 (a1 : Option Addr) (n1 c1 : Nat) (mu : Int) (a2 : Option Addr) (n2 c2 : Nat) (a3 : Option Addr) (n3 c3 : Nat) (stack : Int) (s6 : Value) : Try.prog.built 99 [(0, .agg #[.slice a1 n1 c1, .int .i64 mu, .slice a2 n2 c2, .slice a3 n3 c3, .int .i64 stack, s6]), (1, .agg opsC.toArray)] = some (([.slice a1 n1 c1, .int .i64 mu, .slice a2 n2 c2, .slice a3 n3 c3, .int .i64 stack, s6] : List Value) ++ opsC ++ ([.slice none 0 0] : List Value)).toArray := by kernel_rfl
theorem wp_build_at {P : Program} {o : Oper} {a : Act} {w : World} {K : Act → World → Prop} {Q : Exit → Act → World → Prop} (t : TypeId) (ps : List (Nat × Operand)) (ho : o.op = .build t ps.toArray) (cs : List Value)
    (hb : P.built t (ps.map fun (i, x) => (i, a.eval x)) = some cs.toArray) (h : K (a.put o.dst (.agg cs.toArray)) w) : Oper.wp P o a w K Q := by
  have e : (ps.toArray.map fun (i, x) => (i, a.eval x)).toList = ps.map fun (i, x) => (i, a.eval x) := by simp
  exact wp_build t ps.toArray ho (by rw [e, hb]; rfl) (by rw [e, hb]; exact h)
theorem wp_box_at {P : Program} {o : Oper} {a : Act} {w : World} {K : Act → World → Prop} {Q : Exit → Act → World → Prop} (t : TypeId) (x : Operand) (ho : o.op = .box t x) (cs : List Value) (hx : a.eval x = .agg cs.toArray)
    (h : ∀ w', At t w' w.heap.size cs → Below w.heap.size w w' → K (a.put o.dst (.pointer (some ⟨w.heap.size, 0, none⟩))) w') : Oper.wp P o a w K Q := by
  have := h (w.alloc (.cells cs.toArray t)) (_root_.Go.heap_alloc_new w _) ((Below.refl _ w).alloc (Nat.le_refl _) _)
  unfold Oper.wp execOp
  simp only [ho, hx, Instr.box, Sem.run_bind]
  simpa [newVar, go_sem, Value.cells] using this

/-- All nodes fit. -/
theorem allFit_any (A g B : Nat) (a1 : Option Addr) (c1 : Nat) (mu : Int) (s2 : Value) (a3 : Option Addr) (c3 : Nat) (stk : Int) (a4 : Option Addr) (c4 : Nat) (shared locals : List Vl) (ks : List NT) (hL : ∀ v ∈ locals, mayV v = true) (hSh : ∀ v ∈ shared, mayV v = true) (hm : ∀ x ∈ ks, mayN locals.length shared.length mu ks.length x.nd = true) (v : Value) (S : List Nat) (w : World) (hT : Ty A w g (pre6 a1 shared.length c1 mu s2 a3 locals.length c3 stk a4 ks.length c4) v S) (hAw : A ≤ w.heap.size)
    (hBA : B ≤ A) (hR : RowNT B w a4 c4 ks) (hR1 : RowVl B w a1 c1 shared) (hR3 : RowVl B w a3 c3 locals) :
    Calls Try.prog 53 #[.slice a4 ks.length c4, .func (.func 54) #[.pointer (some ⟨g, 0, none⟩)] #[]] w fun e w' => e = .returned (.bool (ks.all fun x => fitsN locals shared stk x.nd)) ∧ Fw A g w w' := by
  have hg := hT.low
  refine (all53_54 NT.cells NT.len5 NT.one (.pointer (some ⟨g, 0, none⟩)) ks a4 c4 hR.1 hR.2.1 w (fun _ x => fitsN locals shared stk x.nd)
    (fun i u => (∃ v S, Ty A u g (pre6 a1 shared.length c1 mu s2 a3 locals.length c3 stk a4 ks.length c4) v S) ∧ Fw A g w u) (fun u => (∃ v S, Ty A u g (pre6 a1 shared.length c1 mu s2 a3 locals.length c3 stk a4 ks.length c4) v S) ∧ Fw A g w u) ?_ ?_ ?_ ⟨⟨v, S, hT⟩, Fw.refl _ _ _⟩).mono ?_
  · rintro i u u' ⟨⟨v, S, h1⟩, h2⟩ hb
    exact ⟨⟨v, S, h1.below hb⟩, h2.trans (Fw.of_below hb)⟩
  · rintro i k u hk ⟨_, h2⟩
    obtain ⟨gr, oo, ha, hlt, hr, _⟩ := hR.at i k hk
    exact ⟨gr, oo, ha, (h2.old hg hAw hBA).range hlt hr⟩
  · rintro i k u hk ⟨⟨v, S, h1⟩, h2⟩
    have hO := h2.old hg hAw hBA
    refine (fits_any A g B a1 c1 mu s2 a3 c3 stk a4 ks.length c4 shared locals hL hSh k (hm k (List.mem_of_getElem? hk)) v S u (NT.In.old (hR.all k (List.mem_of_getElem? hk)) hO) h1 (Nat.le_trans hAw h2.size) hBA (hR1.old hO) (hR3.old hO)).mono ?_
    rintro e u' ⟨rfl, h3, h4⟩
    exact ⟨rfl, fun _ => ⟨h3, h2.trans h4⟩, fun _ => ⟨h3, h2.trans h4⟩⟩
  · intro e w' he
    obtain ⟨he, hx⟩ := all_of he
    exact ⟨he, hx.2⟩

/-- Whether all nodes of a body fit. -/
def typeB (shared : List Vl) (b : Bd) : Bool := b.nodes.all (fitsN b.locals shared b.stack)

set_option maxRecDepth 100000 in
set_option maxHeartbeats 6400000 in
theorem typeBody_any (B gc : Nat) (x : CT) (y : BT) (w : World) (hy : y.In B w) (hR1 : RowVl B w x.a1 x.c1 x.shared) (hB : B ≤ w.heap.size) (h : At 25 w gc x.cells) (hSh : ∀ v ∈ x.shared, mayV v = true) (hmB : mayB x.shared.length x.mutexes y.bd = true) :
    Calls Try.prog 51 #[.agg y.cells.toArray, .pointer (some ⟨gc, 0, none⟩)] w fun e w' => e = .returned (.bool (typeB x.shared y.bd)) ∧ Below w.heap.size w w' := by
  unfold mayB at hmB
  rw [Bool.and_eq_true, Bool.and_eq_true] at hmB
  have hL : ∀ v ∈ y.locals, mayV v = true := List.all_eq_true.1 hmB.1
  have hmN : ∀ n ∈ y.nodes, mayN y.locals.length x.shared.length x.mutexes y.nodes.length n.nd = true := fun n hn => by
    have := List.all_eq_true.1 hmB.2.2 n.nd (List.mem_map_of_mem hn)
    have e : y.bd.nodes.length = y.nodes.length := List.length_map ..
    rw [e] at this
    exact this
  have Q1 : Hid (∀ u v S g, Fw w.heap.size g w u → Ty w.heap.size u g (x.cells ++ y.cells) v S → Calls Try.prog 53 #[.slice y.a2 y.nodes.length y.c2, .func (.func 54) #[.pointer (some ⟨g, 0, none⟩)] #[]] u fun e w' => e = .returned (.bool (typeB x.shared y.bd)) ∧ Fw w.heap.size g u w') := fun u v S g hu hT => by
    have hO := hu.old hT.low (Nat.le_refl _) hB
    have := allFit_any w.heap.size g B x.a1 x.c1 x.mutexes (.slice x.a2 x.bodies.length x.c2) y.a1 y.c1 y.stack y.a2 y.c2 x.shared y.locals y.nodes hL hSh hmN v S u hT hu.size hB (RowNT.old hy.2.2 hO) (RowVl.old hR1 hO) (RowVl.old hy.1 hO)
    have e : typeB x.shared y.bd = y.nodes.all fun n => fitsN y.locals x.shared y.stack n.nd := by unfold typeB BT.bd; rw [List.all_map]; rfl
    rw [e]
    exact this
  obtain ⟨a1, c1, shared, mu, a2, c2, bodies⟩ := x
  obtain ⟨a3, c3, locals, stack, a4, c4, nodes⟩ := y
  clear hL hmN hmB hSh hy hR1
  dsimp only at Q1
  generalize typeB shared (BT.bd ⟨a3, c3, locals, stack, a4, c4, nodes⟩) = R at *
  simp only [BT.cells, CT.cells] at *
  generalize shared.length = n1 at *
  generalize bodies.length = n2 at *
  generalize locals.length = n3 at *
  generalize nodes.length = n4 at *
  have hlg := h.lt
  obtain ⟨O, hO⟩ : ∃ O, Hid (O = opsC) := ⟨_, (rfl : opsC = _)⟩
  obtain ⟨Bg, hBg⟩ : ∃ Bg, Hid (Bg = (([.slice a1 n1 c1, .int .i64 mu, .slice a2 n2 c2, .slice a3 n3 c3, .int .i64 stack, .slice a4 n4 c4] : List Value) ++ opsC ++ ([.slice none 0 0] : List Value))) := ⟨_, (rfl : (([.slice a1 n1 c1, .int .i64 mu, .slice a2 n2 c2, .slice a3 n3 c3, .int .i64 stack, .slice a4 n4 c4] : List Value) ++ opsC ++ ([.slice none 0 0] : List Value)) = _)⟩
  have HBt : Hid (Try.prog.built 99 [(0, .agg #[.slice a1 n1 c1, .int .i64 mu, .slice a2 n2 c2, .slice a3 n3 c3, .int .i64 stack, .slice a4 n4 c4]), (1, .agg O.toArray)] = some Bg.toArray) := by show _ = _; rw [hO.out, hBg.out]; exact built99 a1 n1 c1 mu a2 n2 c2 a3 n3 c3 stack (.slice a4 n4 c4)
  have hops : ∀ u, Calls Try.prog 52 #[] u fun e w' => e = .returned (.agg O.toArray) ∧ Below u.heap.size u w' := by rw [hO.out]; exact operators_any
  clear hO
  go_enter Try.func51, Try.ntmps51
  go_wp2_with (first
    | ((with_reducible show wpList _ _ _ _ _ _); refine wpList_box_at rfl 45 (.tmp 0) rfl [.slice a3 n3 c3, .int .i64 stack, .slice a4 n4 c4] rfl ?_; intro w1 hA1 hb1 hs1; clear hs1; refine Hid.out ?_))
  refine hidU ?_
  have h1 := h.below hb1
  have e0 : w1.cell? ⟨gc, 0, none⟩ = some (.slice a1 n1 c1) := by rw [h1.cell]; rfl
  have e1 : w1.cell? ⟨gc, 1, none⟩ = some (.int .i64 mu) := by rw [h1.cell]; rfl
  have e2 : w1.cell? ⟨gc, 2, none⟩ = some (.slice a2 n2 c2) := by rw [h1.cell]; rfl
  have f0 : w1.cell? ⟨w.heap.size, 0, none⟩ = some (.slice a3 n3 c3) := by rw [hA1.cell]; rfl
  have f1 : w1.cell? ⟨w.heap.size, 1, none⟩ = some (.int .i64 stack) := by rw [hA1.cell]; rfl
  have f2 : w1.cell? ⟨w.heap.size, 2, none⟩ = some (.slice a4 n4 c4) := by rw [hA1.cell]; rfl
  have l1 := hA1.lt
  go_wp2_with fail
  have hS0 : Below w1.heap.size w1 w1.drew := Below.drew (Below.refl _ _)
  refine wp_region_held_drew (S := fun x => Below w1.heap.size w1 x) (by kernel_rfl) hS0 (fun _ => ?_)
  refine wpAnyH_take (i := 0) (oi := { dst := some 5, op := .load 25 (.tmp 1), type := _, pos := _, after := _, guard := none }) (v := .agg #[.slice a1 n1 c1, .int .i64 mu, .slice a2 n2 c2]) rfl (by kernel_rfl) (by kernel_rfl) (by kernel_rfl) (fun _ _ _ h => h) (Or.inl ⟨by rfl, ?_⟩) hS0 ?_
  · intro wS hSw
    have z0 := (hSw.cell (lt_of_cell e0)).trans e0
    have z1 := (hSw.cell (lt_of_cell e1)).trans e1
    have z2 := (hSw.cell (lt_of_cell e2)).trans e2
    go_simp
  simp only [Act.put, List.setIfInBounds_toArray, List.set_cons_zero, List.set_cons_succ]
  refine wpAnyH_take (i := 1) (oi := { dst := some 6, op := .load 45 (.tmp 2), type := _, pos := _, after := _, guard := none }) (v := .agg #[.slice a3 n3 c3, .int .i64 stack, .slice a4 n4 c4]) rfl (by kernel_rfl) (by kernel_rfl) (by kernel_rfl) (fun _ _ _ h => h) (Or.inl ⟨by rfl, ?_⟩) hS0 ?_
  · intro wS hSw
    have z0 := (hSw.cell (lt_of_cell f0)).trans f0
    have z1 := (hSw.cell (lt_of_cell f1)).trans f1
    have z2 := (hSw.cell (lt_of_cell f2)).trans f2
    go_simp
  simp only [Act.put, List.setIfInBounds_toArray, List.set_cons_zero, List.set_cons_succ]
  refine wpAnyH_take (i := 2) (oi := { dst := some 7, op := .build 89 #[(0, .tmp 5), (1, .tmp 6)], type := _, pos := _, after := _, guard := none }) (v := .agg #[.slice a1 n1 c1, .int .i64 mu, .slice a2 n2 c2, .slice a3 n3 c3, .int .i64 stack, .slice a4 n4 c4]) rfl (by kernel_rfl) (by kernel_rfl) (by kernel_rfl) (fun _ _ _ h => h) (Or.inl ⟨by rfl, ?_⟩) hS0 ?_
  · intro wS hSw
    go_simp
  simp only [Act.put, List.setIfInBounds_toArray, List.set_cons_zero, List.set_cons_succ]
  refine wpAnyH_ready (rs := [3]) (by kernel_rfl) (by simp) ?_
  refine AllReadyH.cons (o := { dst := some 8, op := .call { callee := .value (.func 52), args := #[], argTypes := #[] }, type := _, pos := _, after := _, guard := none }) rfl (fun K hK => ?_) AllReadyH.nil
  rw [if_pos (by rfl)]
  go_wp2_with (go_at_call 52; refine (hops _).mono ?_; rintro e x1 ⟨rfl, hbo1⟩)
  have hS1 := hS0.trans (hbo1.mono hS0.size)
  refine hK.out _ _ hS1 (fun _ => ?_)
  clear hK K
  refine wpAnyH_ready (rs := [4]) (by kernel_rfl) (by simp) ?_
  refine AllReadyH.cons (o := { dst := some 9, op := .build 99 #[(0, .tmp 7), (1, .tmp 8)], type := _, pos := _, after := _, guard := none }) rfl (fun K hK => ?_) AllReadyH.nil
  rw [if_pos (by rfl)]
  refine wp_build_at (P := Try.prog) 99 [(0, .tmp 7), (1, .tmp 8)] rfl Bg HBt.out ?_
  refine hK.out _ _ hS1 (fun _ => ?_)
  clear hK K
  try simp only [Act.put, List.setIfInBounds_toArray, List.set_cons_zero, List.set_cons_succ]
  refine wpAnyH_ready (rs := [5]) (by kernel_rfl) (by simp) ?_
  refine AllReadyH.cons (o := { dst := some 10, op := .box 99 (.tmp 9), type := _, pos := _, after := _, guard := none }) rfl (fun K hK => ?_) AllReadyH.nil
  rw [if_pos (by rfl)]
  refine wp_box_at (P := Try.prog) 99 (.tmp 9) rfl Bg rfl ?_
  intro wb hAb hbb
  have hSb : Below w1.heap.size w1 wb := hS1.trans (hbb.mono hS1.size)
  refine hK.out _ _ hSb (fun _ => ?_)
  clear hK K
  try simp only [Act.put, List.setIfInBounds_toArray, List.set_cons_zero, List.set_cons_succ]
  refine wpAnyH_take (i := 6) (oi := { dst := some 4, op := .assign (.tmp 10), type := _, pos := _, after := _, guard := none }) (v := .pointer (some ⟨x1.heap.size, 0, none⟩)) rfl (by kernel_rfl) (by kernel_rfl) (by kernel_rfl) (fun _ _ _ h => h) (Or.inl ⟨by rfl, ?_⟩) hSb ?_
  · intro wS hSw
    go_simp
  simp only [Act.put, List.setIfInBounds_toArray, List.set_cons_zero, List.set_cons_succ]
  refine wpAnyH_done (by kernel_rfl) ?_ _
  have hTy : Ty w.heap.size wb x1.heap.size ([.slice a1 n1 c1, .int .i64 mu, .slice a2 n2 c2] ++ [.slice a3 n3 c3, .int .i64 stack, .slice a4 n4 c4]) (.slice none 0 0) [] := by
    rw [hBg.out] at hAb
    refine ⟨hAb, World.ownsRow_nil _ _ _ _, ?_⟩
    have := hS1.size
    omega
  have hbw : Below w.heap.size w wb := hb1.trans (hSb.mono hb1.size)
  have hlw : w.heap.size ≤ x1.heap.size := by have := hS1.size; omega
  have g2 : wb.cell? ⟨w.heap.size, 2, none⟩ = some (.slice a4 n4 c4) := (hSb.cell l1).trans f2
  clear e0 e1 e2 f0 f1 f2 hA1 h1 hAb hbb hbo1 hS1 hSb hS0 hb1 h hops HBt hBg
  generalize x1.heap.size = g at *
  go_wp2_with (first
    | (go_at_call 53; refine (Q1.out _ _ _ _ (Fw.of_below hbw) hTy).mono ?_; rintro _ w9 ⟨rfl, hF9⟩))
  go_ret
  exact ⟨rfl, ((Fw.of_below hbw).trans hF9).below hlw (Nat.le_refl _)⟩

end Go.Proofs.Ytefklmckkigllaa
