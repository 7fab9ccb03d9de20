/- Whether the parts of a body, of a code may be. -/
import Derived.Test.YtefklmckkigllaaCkE
namespace Go.Proofs.Ytefklmckkigllaa
open Go.RowKit
set_option linter.unusedVariables false

/-- All values. -/
theorem allV_any (B : Nat) (ks : List Vl) (a : Option Addr) (c : Nat) (w : World) (h : RowVl B w a c ks) (hB : B ≤ w.heap.size) :
    Calls Try.prog 46 #[.slice a ks.length c, .func (.func 47) #[] #[]] w fun e w' => e = .returned (.bool (ks.all mayV)) ∧ Below w.heap.size w w' :=
  (all46_47 Vl.cells Vl.len2 Vl.one ks a c h.1 h.2.1 w (fun _ x => mayV x) (fun _ u => Below w.heap.size w u) (fun u => Below w.heap.size w u)
    (fun i u u' h1 h2 => h1.trans (h2.mono h1.size)) (fun i k u hk hu => h.see hB i k u hk hu)
    (fun i k u hk hu => (mayValue_any k (h.all k (List.mem_of_getElem? hk)) u).mono (by
      rintro e u' ⟨rfl, hb⟩
      exact ⟨rfl, fun _ => hu.trans (hb.mono hu.size), fun _ => hu.trans (hb.mono hu.size)⟩)) (Below.refl _ _)).mono fun e w' he => all_of he

/-- All nodes. -/
theorem allN_any (B : Nat) (g : Nat) (a1 : Option Addr) (ns c1 : Nat) (mu : Int) (a3 : Option Addr) (nl c3 : Nat) (a4 : Option Addr) (nn c4 : Nat) (hnn : nn ≤ 1048576) (ks : List NT) (a : Option Addr) (c : Nat) (w : World) (h : RowNT B w a c ks) (hB : B ≤ w.heap.size) (hS : Sc w g a1 ns c1 mu a3 nl c3 a4 nn c4) :
    Calls Try.prog 53 #[.slice a ks.length c, .func (.func 69) #[.pointer (some ⟨g, 0, none⟩)] #[]] w fun e w' => e = .returned (.bool (ks.all fun x => mayN nl ns mu nn x.nd)) ∧ Below w.heap.size w w' :=
  (all53_69 NT.cells NT.len5 NT.one (.pointer (some ⟨g, 0, none⟩)) ks a c h.1 h.2.1 w (fun _ x => mayN nl ns mu nn x.nd) (fun _ u => Below w.heap.size w u) (fun u => Below w.heap.size w u)
    (fun i u u' h1 h2 => h1.trans (h2.mono h1.size)) (fun i k u hk hu => h.see hB i k u hk hu)
    (fun i k u hk hu => (mayNode_any B g a1 ns c1 mu a3 nl c3 a4 nn c4 hnn k u (NT.In.old (h.all k (List.mem_of_getElem? hk)) (Old.of_below hu hB)) (by have := hu.size; omega) (hS.below hu)).mono (by
      rintro e u' ⟨rfl, hb⟩
      exact ⟨rfl, fun _ => hu.trans (hb.mono hu.size), fun _ => hu.trans (hb.mono hu.size)⟩)) (Below.refl _ _)).mono fun e w' he => all_of he

/-- Whether the parts of a body may be. -/
def mayB (ns : Nat) (mu : Int) (b : Bd) : Bool := b.locals.all mayV && (isP b.stack 65 && b.nodes.all (mayN b.locals.length ns mu b.nodes.length))

set_option maxRecDepth 100000 in
set_option maxHeartbeats 3200000 in
theorem mayBody_any (B g : Nat) (a1 : Option Addr) (ns c1 : Nat) (mu : Int) (s2 : Value) (y : BT) (w : World) (hy : y.In B w) (hB : B ≤ w.heap.size) (h : At 89 w g ([.slice a1 ns c1, .int .i64 mu, s2] ++ y.cells)) :
    Calls Try.prog 50 #[.pointer (some ⟨g, 0, none⟩)] w fun e w' => e = .returned (.bool (mayB ns mu y.bd)) ∧ Below w.heap.size w w' := by
  obtain ⟨a3, c3, locals, stack, a4, c4, nodes⟩ := y
  have q0 : w.cell? ⟨g, 0, none⟩ = some (.slice a1 ns c1) := by rw [h.cell]; rfl
  have q1 : w.cell? ⟨g, 1, none⟩ = some (.int .i64 mu) := by rw [h.cell]; rfl
  have q3 : w.cell? ⟨g, 3, none⟩ = some (.slice a3 locals.length c3) := by rw [h.cell]; rfl
  have q4 : w.cell? ⟨g, 4, none⟩ = some (.int .i64 stack) := by rw [h.cell]; rfl
  have q5 : w.cell? ⟨g, 5, none⟩ = some (.slice a4 nodes.length c4) := by rw [h.cell]; rfl
  have hS : Sc w g a1 ns c1 mu a3 locals.length c3 a4 nodes.length c4 := ⟨q0, q1, q3, q5⟩
  have Q1 : Hid (∀ u, Below w.heap.size w u → Calls Try.prog 46 #[.slice a3 locals.length c3, .func (.func 47) #[] #[]] u fun e w' => e = .returned (.bool (locals.all mayV)) ∧ Below u.heap.size u w') := fun u hu => allV_any B locals a3 c3 u (RowVl.old hy.1 (Old.of_below hu hB)) (by have := hu.size; omega)
  have hP := fun u => isPlace_any stack 65 u
  have Q3 : Hid (∀ u, Below w.heap.size w u → Calls Try.prog 53 #[.slice a4 nodes.length c4, .func (.func 69) #[.pointer (some ⟨g, 0, none⟩)] #[]] u fun e w' => e = .returned (.bool (nodes.all fun x => mayN locals.length ns mu nodes.length x.nd)) ∧ Below u.heap.size u w') := fun u hu => allN_any B g a1 ns c1 mu a3 locals.length c3 a4 nodes.length c4 hy.2.2.1 nodes a4 c4 u (RowNT.old hy.2.2 (Old.of_below hu hB)) (by have := hu.size; omega) (hS.below hu)
  have e : mayB ns mu (BT.bd ⟨a3, c3, locals, stack, a4, c4, nodes⟩) = (locals.all mayV && (isP stack 65 && nodes.all fun x => mayN locals.length ns mu nodes.length x.nd)) := by
    unfold mayB BT.bd; simp only [List.all_map, List.length_map]; rfl
  rw [e]
  clear e hS h hy
  generalize (nodes.all fun x => mayN locals.length ns mu nodes.length x.nd) = b3 at *
  generalize locals.all mayV = b1 at *
  generalize isP stack 65 = b2 at *
  generalize locals.length = nl at *
  generalize nodes.length = nn at *
  cases b1 with
  | false =>
    rw [Bool.false_and]
    go_enter Try.func50, Try.ntmps50
    go_wp2_with (first
      | (go_at_call 46; refine (Q1.out _ (Below.refl _ _)).mono ?_; rintro r w2 ⟨rfl, hb2⟩; rw [← hb2.cell (lt_of_cell q4)] at q4; rw [← hb2.cell (lt_of_cell q5)] at q5))
    go_ret
    exact ⟨rfl, hb2⟩
  | true =>
    rw [Bool.true_and]
    cases b2 with
    | false =>
      rw [Bool.false_and]
      go_enter Try.func50, Try.ntmps50
      go_wp2_with (first
        | (go_at_call 46; refine (Q1.out _ (Below.refl _ _)).mono ?_; rintro r w2 ⟨rfl, hb2⟩; rw [← hb2.cell (lt_of_cell q4)] at q4; rw [← hb2.cell (lt_of_cell q5)] at q5)
        | (go_at_call 45; refine (hP _).mono ?_; rintro r w3 ⟨rfl, rfl⟩))
      go_ret
      exact ⟨rfl, hb2⟩
    | true =>
      rw [Bool.true_and]
      go_enter Try.func50, Try.ntmps50
      go_wp2_with (first
        | (go_at_call 46; refine (Q1.out _ (Below.refl _ _)).mono ?_; rintro r w2 ⟨rfl, hb2⟩; rw [← hb2.cell (lt_of_cell q4)] at q4; rw [← hb2.cell (lt_of_cell q5)] at q5)
        | (go_at_call 45; refine (hP _).mono ?_; rintro r w3 ⟨rfl, rfl⟩)
        | (go_at_call 53; refine (Q3.out _ hb2).mono ?_; rintro r w4 ⟨rfl, hb4⟩))
      go_ret
      exact ⟨rfl, hb2.trans (hb4.mono hb2.size)⟩

theorem i89 : (Try.prog.info? 89).map (·.size) = some 6 := by kernel_rfl

set_option maxRecDepth 100000 in
set_option maxHeartbeats 3200000 in
theorem partBody_any (B gc : Nat) (x : CT) (y : BT) (w : World) (hy : y.In B w) (hB : B ≤ w.heap.size) (h : At 25 w gc x.cells) :
    Calls Try.prog 49 #[.agg y.cells.toArray, .pointer (some ⟨gc, 0, none⟩)] w fun e w' => e = .returned (.bool (mayB x.shared.length x.mutexes y.bd)) ∧ Below w.heap.size w w' := by
  have Q1 : Hid (∀ u g, Below w.heap.size w u → At 89 u g (x.cells ++ y.cells) → Calls Try.prog 50 #[.pointer (some ⟨g, 0, none⟩)] u fun e w' => e = .returned (.bool (mayB x.shared.length x.mutexes y.bd)) ∧ Below u.heap.size u w') := fun u g hu hA => mayBody_any B g x.a1 x.shared.length x.c1 x.mutexes (.slice x.a2 x.bodies.length x.c2) y u (hy.old (Old.of_below hu hB)) (by have := hu.size; omega) hA
  have hlg := h.lt
  obtain ⟨a1, c1, shared, mu, a2, c2, bodies⟩ := x
  obtain ⟨a3, c3, locals, stack, a4, c4, nodes⟩ := y
  generalize mayB (CT.mk a1 c1 shared mu a2 c2 bodies).shared.length (CT.mk a1 c1 shared mu a2 c2 bodies).mutexes (BT.bd ⟨a3, c3, locals, stack, a4, c4, nodes⟩) = R at *
  simp only [BT.cells, CT.cells] at *
  generalize shared.length = n1 at *
  generalize bodies.length = n2 at *
  generalize locals.length = n3 at *
  generalize nodes.length = n4 at *
  go_enter Try.func49, Try.ntmps49
  go_wp2_with (first
    | ((with_reducible show wpList _ _ _ _ _ _); refine wpList_box_at rfl 45 (.tmp 0) rfl [.slice a3 n3 c3, .int .i64 stack, .slice a4 n4 c4] rfl ?_; intro w1 hA1 hb1 hs1; clear hs1; refine Hid.out ?_))
  refine hidU ?_
  have h1 := h.below hb1
  clear h hy
  go_wp2_with (first
    | ((with_reducible show wpList _ _ _ _ _ _); refine wpList_load_at (P := Try.prog) rfl 25 (.tmp 1) rfl gc rfl 25 [.slice a1 n1 c1, .int .i64 mu, .slice a2 n2 c2] h1 _ Try.underlying25 rfl i25 ?_)
    | ((with_reducible show wpList _ _ _ _ _ _); refine wpList_load_at (P := Try.prog) rfl 45 (.tmp 2) rfl w.heap.size rfl 45 [.slice a3 n3 c3, .int .i64 stack, .slice a4 n4 c4] hA1 _ Try.underlying45 rfl i45 ?_)
    | ((with_reducible show wpList _ _ _ _ _ _); refine wpList_build_at rfl 89 _ rfl [.slice a1 n1 c1, .int .i64 mu, .slice a2 n2 c2, .slice a3 n3 c3, .int .i64 stack, .slice a4 n4 c4] (by kernel_rfl) ?_)
    | ((with_reducible show wpList _ _ _ _ _ _); refine wpList_box_at rfl 89 (.tmp 6) rfl [.slice a1 n1 c1, .int .i64 mu, .slice a2 n2 c2, .slice a3 n3 c3, .int .i64 stack, .slice a4 n4 c4] rfl ?_; intro w2 hA2 hb2 hs2; clear hs2; refine Hid.out ?_))
  refine hidU ?_
  have hb12 := hb1.trans (hb2.mono hb1.size)
  clear h1 hA1 hb1 hb2
  go_wp2_with (first
    | (go_at_call 50; refine (Q1.out _ _ hb12 hA2).mono ?_; rintro r w4 ⟨rfl, hb4⟩))
  go_ret
  exact ⟨rfl, hb12.trans (hb4.mono hb12.size)⟩

/-- All bodies. -/
theorem allB_any (B gc : Nat) (x : CT) (ks : List BT) (a : Option Addr) (c : Nat) (w : World) (h : RowBT B w a c ks) (hB : B ≤ w.heap.size) (hS : At 25 w gc x.cells) :
    Calls Try.prog 48 #[.slice a ks.length c, .func (.func 49) #[] #[.pointer (some ⟨gc, 0, none⟩)]] w fun e w' => e = .returned (.bool (ks.all fun y => mayB x.shared.length x.mutexes y.bd)) ∧ Below w.heap.size w w' :=
  (all48_49 BT.cells BT.len3 BT.one (.pointer (some ⟨gc, 0, none⟩)) ks a c h.1 h.2.1 w (fun _ y => mayB x.shared.length x.mutexes y.bd) (fun _ u => Below w.heap.size w u) (fun u => Below w.heap.size w u)
    (fun i u u' h1 h2 => h1.trans (h2.mono h1.size)) (fun i k u hk hu => h.see hB i k u hk hu)
    (fun i k u hk hu => (partBody_any B gc x k u (BT.In.old (h.all k (List.mem_of_getElem? hk)) (Old.of_below hu hB)) (by have := hu.size; omega) (hS.below hu)).mono (by
      rintro e u' ⟨rfl, hb⟩
      exact ⟨rfl, fun _ => hu.trans (hb.mono hu.size), fun _ => hu.trans (hb.mono hu.size)⟩)) (Below.refl _ _)).mono fun e w' he => all_of he

/-- Whether a part of a code may not be. -/
def partC (c : Cd) : Bool := !isP c.mutexes 17 || (!c.shared.all mayV || !c.bodies.all (mayB c.shared.length c.mutexes))

set_option maxRecDepth 100000 in
set_option maxHeartbeats 3200000 in
theorem wrongPart_any (B : Nat) (x : CT) (w : World) (hx : x.In B w) (hB : B ≤ w.heap.size) :
    Calls Try.prog 32 #[.agg x.cells.toArray] w fun e w' => e = .returned (.bool (partC x.cd)) ∧ Below w.heap.size w w' := by
  have Q1 : Hid (∀ u, Below w.heap.size w u → Calls Try.prog 46 #[.slice x.a1 x.shared.length x.c1, .func (.func 47) #[] #[]] u fun e w' => e = .returned (.bool (x.shared.all mayV)) ∧ Below u.heap.size u w') := fun u hu => allV_any B x.shared x.a1 x.c1 u (RowVl.old hx.1 (Old.of_below hu hB)) (by have := hu.size; omega)
  have hP := fun u => isPlace_any x.mutexes 17 u
  have Q3 : Hid (∀ u g, Below w.heap.size w u → At 25 u g x.cells → Calls Try.prog 48 #[.slice x.a2 x.bodies.length x.c2, .func (.func 49) #[] #[.pointer (some ⟨g, 0, none⟩)]] u fun e w' => e = .returned (.bool (x.bodies.all fun y => mayB x.shared.length x.mutexes y.bd)) ∧ Below u.heap.size u w') := fun u g hu hA => allB_any B g x x.bodies x.a2 x.c2 u (RowBT.old hx.2.2 (Old.of_below hu hB)) (by have := hu.size; omega) hA
  obtain ⟨a1, c1, shared, mu, a2, c2, bodies⟩ := x
  have e : partC (CT.cd ⟨a1, c1, shared, mu, a2, c2, bodies⟩) = (!isP mu 17 || (!shared.all mayV || !bodies.all fun y => mayB shared.length mu y.bd)) := by
    unfold partC CT.cd; simp only [List.all_map]; rfl
  rw [e]
  clear e hx
  simp only [CT.cells] at *
  generalize (bodies.all fun y => mayB shared.length mu y.bd) = b3 at *
  generalize shared.all mayV = b2 at *
  generalize isP mu 17 = b1 at *
  generalize shared.length = n1 at *
  generalize bodies.length = n2 at *
  have hbox : ∀ w1 : World, At 25 w1 w.heap.size [.slice a1 n1 c1, .int .i64 mu, .slice a2 n2 c2] → w1.cell? ⟨w.heap.size, 0, none⟩ = some (.slice a1 n1 c1) ∧ w1.cell? ⟨w.heap.size, 1, none⟩ = some (.int .i64 mu) ∧ w1.cell? ⟨w.heap.size, 2, none⟩ = some (.slice a2 n2 c2) := fun w1 h => by refine ⟨?_, ?_, ?_⟩ <;> (rw [h.cell]; rfl)
  cases b1 with
  | false =>
    rw [Bool.not_false, Bool.true_or]
    go_enter Try.func32, Try.ntmps32
    go_wp2_with (first
      | ((with_reducible show wpList _ _ _ _ _ _); refine wpList_box_at rfl 25 (.tmp 0) rfl [.slice a1 n1 c1, .int .i64 mu, .slice a2 n2 c2] rfl ?_; intro w1 hA1 hb1 hs1; clear hs1; refine Hid.out ?_))
    refine hidU ?_
    obtain ⟨d0, d1, d2⟩ := hbox w1 hA1
    go_wp2_with (first
      | (go_at_call 45; refine (hP _).mono ?_; rintro r w3 ⟨rfl, rfl⟩))
    go_ret
    exact ⟨rfl, hb1⟩
  | true =>
    rw [Bool.not_true, Bool.false_or]
    cases b2 with
    | false =>
      rw [Bool.not_false, Bool.true_or]
      go_enter Try.func32, Try.ntmps32
      go_wp2_with (first
        | ((with_reducible show wpList _ _ _ _ _ _); refine wpList_box_at rfl 25 (.tmp 0) rfl [.slice a1 n1 c1, .int .i64 mu, .slice a2 n2 c2] rfl ?_; intro w1 hA1 hb1 hs1; clear hs1; refine Hid.out ?_))
      refine hidU ?_
      obtain ⟨d0, d1, d2⟩ := hbox w1 hA1
      go_wp2_with (first
        | (go_at_call 45; refine (hP _).mono ?_; rintro r w3 ⟨rfl, rfl⟩)
        | (go_at_call 46; refine (Q1.out _ hb1).mono ?_; rintro r w4 ⟨rfl, hb4⟩; rw [← hb4.cell (lt_of_cell d2)] at d2))
      go_ret
      exact ⟨rfl, hb1.trans (hb4.mono hb1.size)⟩
    | true =>
      rw [Bool.not_true, Bool.false_or]
      go_enter Try.func32, Try.ntmps32
      go_wp2_with (first
        | ((with_reducible show wpList _ _ _ _ _ _); refine wpList_box_at rfl 25 (.tmp 0) rfl [.slice a1 n1 c1, .int .i64 mu, .slice a2 n2 c2] rfl ?_; intro w1 hA1 hb1 hs1; clear hs1; refine Hid.out ?_))
      refine hidU ?_
      obtain ⟨d0, d1, d2⟩ := hbox w1 hA1
      go_wp2_with (first
        | (go_at_call 45; refine (hP _).mono ?_; rintro r w3 ⟨rfl, rfl⟩)
        | (go_at_call 46; refine (Q1.out _ hb1).mono ?_; rintro r w4 ⟨rfl, hb4⟩; rw [← hb4.cell (lt_of_cell d2)] at d2; have hA4 := hA1.below hb4; have hb14 := hb1.trans (hb4.mono hb1.size); clear hA1 hb4)
        | (go_at_call 48; refine (Q3.out _ _ hb14 hA4).mono ?_; rintro r w5 ⟨rfl, hb5⟩))
      go_ret
      exact ⟨rfl, hb14.trans (hb5.mono hb14.size)⟩
end Go.Proofs.Ytefklmckkigllaa
