/- Joined texts of the proof. -/
import Derived.Test.YtefklmckkigllaaJ4
import Derived.Laws.AppendOwn

/- Whether the parts of a body, of a code may be. -/
namespace Go.Proofs.Ytefklmckkigllaa
open Go.RowKit
set_option linter.unusedVariables false

/-- All values. -/
theorem allV_any (B : Nat) (ks : List Vl) (a : Option Addr) (c : Nat) (w : World) (h : RowVl B w a c ks) (hB : B ≤ w.heap.size) :
    Calls Try.prog 46 #[.slice a ks.length c, .func (.func 47) #[] #[]] w fun e w' => e = .returned (.bool (ks.all mayV)) ∧ Below w.heap.size w w' :=
  (all46_47 Vl.cells Vl.len2 Vl.one ks a c h.1 h.2.1 w (fun _ x => mayV x) (fun _ u => Below w.heap.size w u) (fun u => Below w.heap.size w u)
    (fun i u u' h1 h2 => h1.trans (h2.mono h1.size)) (fun i k u hk hu => h.see hB i k u hk hu)
    (fun i k u hk hu => (mayValue_any k (h.all k (List.mem_of_getElem? hk)) u).mono (by
      rintro e u' ⟨rfl, hb⟩
      exact ⟨rfl, fun _ => hu.trans (hb.mono hu.size), fun _ => hu.trans (hb.mono hu.size)⟩)) (Below.refl _ _)).mono fun e w' he => all_of he

/-- All nodes. -/
theorem allN_any (B : Nat) (g : Nat) (a1 : Option Addr) (ns c1 : Nat) (mu : Int) (a3 : Option Addr) (nl c3 : Nat) (a4 : Option Addr) (nn c4 : Nat) (hnn : nn ≤ 1048576) (ks : List NT) (a : Option Addr) (c : Nat) (w : World) (h : RowNT B w a c ks) (hB : B ≤ w.heap.size) (hS : Sc w g a1 ns c1 mu a3 nl c3 a4 nn c4) :
    Calls Try.prog 53 #[.slice a ks.length c, .func (.func 69) #[.pointer (some ⟨g, 0, none⟩)] #[]] w fun e w' => e = .returned (.bool (ks.all fun x => mayN nl ns mu nn x.nd)) ∧ Below w.heap.size w w' :=
  (all53_69 NT.cells NT.len5 NT.one (.pointer (some ⟨g, 0, none⟩)) ks a c h.1 h.2.1 w (fun _ x => mayN nl ns mu nn x.nd) (fun _ u => Below w.heap.size w u) (fun u => Below w.heap.size w u)
    (fun i u u' h1 h2 => h1.trans (h2.mono h1.size)) (fun i k u hk hu => h.see hB i k u hk hu)
    (fun i k u hk hu => (mayNode_any B g a1 ns c1 mu a3 nl c3 a4 nn c4 hnn k u (NT.In.old (h.all k (List.mem_of_getElem? hk)) (Old.of_below hu hB)) (by have := hu.size; omega) (hS.below hu)).mono (by
      rintro e u' ⟨rfl, hb⟩
      exact ⟨rfl, fun _ => hu.trans (hb.mono hu.size), fun _ => hu.trans (hb.mono hu.size)⟩)) (Below.refl _ _)).mono fun e w' he => all_of he

/-- Whether the parts of a body may be. -/
def mayB (ns : Nat) (mu : Int) (b : Bd) : Bool := b.locals.all mayV && (isP b.stack 65 && b.nodes.all (mayN b.locals.length ns mu b.nodes.length))

set_option maxRecDepth 100000 in
set_option maxHeartbeats 3200000 in
theorem mayBody_any (B g : Nat) (a1 : Option Addr) (ns c1 : Nat) (mu : Int) (s2 : Value) (y : BT) (w : World) (hy : y.In B w) (hB : B ≤ w.heap.size) (h : At 89 w g ([.slice a1 ns c1, .int .i64 mu, s2] ++ y.cells)) :
    Calls Try.prog 50 #[.pointer (some ⟨g, 0, none⟩)] w fun e w' => e = .returned (.bool (mayB ns mu y.bd)) ∧ Below w.heap.size w w' := by
  obtain ⟨a3, c3, locals, stack, a4, c4, nodes⟩ := y
  have q0 : w.cell? ⟨g, 0, none⟩ = some (.slice a1 ns c1) := by rw [h.cell]; rfl
  have q1 : w.cell? ⟨g, 1, none⟩ = some (.int .i64 mu) := by rw [h.cell]; rfl
  have q3 : w.cell? ⟨g, 3, none⟩ = some (.slice a3 locals.length c3) := by rw [h.cell]; rfl
  have q4 : w.cell? ⟨g, 4, none⟩ = some (.int .i64 stack) := by rw [h.cell]; rfl
  have q5 : w.cell? ⟨g, 5, none⟩ = some (.slice a4 nodes.length c4) := by rw [h.cell]; rfl
  have hS : Sc w g a1 ns c1 mu a3 locals.length c3 a4 nodes.length c4 := ⟨q0, q1, q3, q5⟩
  have Q1 : Hid (∀ u, Below w.heap.size w u → Calls Try.prog 46 #[.slice a3 locals.length c3, .func (.func 47) #[] #[]] u fun e w' => e = .returned (.bool (locals.all mayV)) ∧ Below u.heap.size u w') := fun u hu => allV_any B locals a3 c3 u (RowVl.old hy.1 (Old.of_below hu hB)) (by have := hu.size; omega)
  have hP := fun u => isPlace_any stack 65 u
  have Q3 : Hid (∀ u, Below w.heap.size w u → Calls Try.prog 53 #[.slice a4 nodes.length c4, .func (.func 69) #[.pointer (some ⟨g, 0, none⟩)] #[]] u fun e w' => e = .returned (.bool (nodes.all fun x => mayN locals.length ns mu nodes.length x.nd)) ∧ Below u.heap.size u w') := fun u hu => allN_any B g a1 ns c1 mu a3 locals.length c3 a4 nodes.length c4 hy.2.2.1 nodes a4 c4 u (RowNT.old hy.2.2 (Old.of_below hu hB)) (by have := hu.size; omega) (hS.below hu)
  have e : mayB ns mu (BT.bd ⟨a3, c3, locals, stack, a4, c4, nodes⟩) = (locals.all mayV && (isP stack 65 && nodes.all fun x => mayN locals.length ns mu nodes.length x.nd)) := by
    unfold mayB BT.bd; simp only [List.all_map, List.length_map]; rfl
  rw [e]
  clear e hS h hy
  generalize (nodes.all fun x => mayN locals.length ns mu nodes.length x.nd) = b3 at *
  generalize locals.all mayV = b1 at *
  generalize isP stack 65 = b2 at *
  generalize locals.length = nl at *
  generalize nodes.length = nn at *
  cases b1 with
  | false =>
    rw [Bool.false_and]
    go_enter Try.func50, Try.ntmps50
    go_wp2_with (first
      | (go_at_call 46; refine (Q1.out _ (Below.refl _ _)).mono ?_; rintro r w2 ⟨rfl, hb2⟩; rw [← hb2.cell (lt_of_cell q4)] at q4; rw [← hb2.cell (lt_of_cell q5)] at q5))
    go_ret
    exact ⟨rfl, hb2⟩
  | true =>
    rw [Bool.true_and]
    cases b2 with
    | false =>
      rw [Bool.false_and]
      go_enter Try.func50, Try.ntmps50
      go_wp2_with (first
        | (go_at_call 46; refine (Q1.out _ (Below.refl _ _)).mono ?_; rintro r w2 ⟨rfl, hb2⟩; rw [← hb2.cell (lt_of_cell q4)] at q4; rw [← hb2.cell (lt_of_cell q5)] at q5)
        | (go_at_call 45; refine (hP _).mono ?_; rintro r w3 ⟨rfl, rfl⟩))
      go_ret
      exact ⟨rfl, hb2⟩
    | true =>
      rw [Bool.true_and]
      go_enter Try.func50, Try.ntmps50
      go_wp2_with (first
        | (go_at_call 46; refine (Q1.out _ (Below.refl _ _)).mono ?_; rintro r w2 ⟨rfl, hb2⟩; rw [← hb2.cell (lt_of_cell q4)] at q4; rw [← hb2.cell (lt_of_cell q5)] at q5)
        | (go_at_call 45; refine (hP _).mono ?_; rintro r w3 ⟨rfl, rfl⟩)
        | (go_at_call 53; refine (Q3.out _ hb2).mono ?_; rintro r w4 ⟨rfl, hb4⟩))
      go_ret
      exact ⟨rfl, hb2.trans (hb4.mono hb2.size)⟩

set_option maxRecDepth 100000 in
set_option maxHeartbeats 3200000 in
theorem partBody_any (B gc : Nat) (x : CT) (y : BT) (w : World) (hy : y.In B w) (hB : B ≤ w.heap.size) (h : At 25 w gc x.cells) :
    Calls Try.prog 49 #[.agg y.cells.toArray, .pointer (some ⟨gc, 0, none⟩)] w fun e w' => e = .returned (.bool (mayB x.shared.length x.mutexes y.bd)) ∧ Below w.heap.size w w' := by
  have Q1 : Hid (∀ u g, Below w.heap.size w u → At 89 u g (x.cells ++ y.cells) → Calls Try.prog 50 #[.pointer (some ⟨g, 0, none⟩)] u fun e w' => e = .returned (.bool (mayB x.shared.length x.mutexes y.bd)) ∧ Below u.heap.size u w') := fun u g hu hA => mayBody_any B g x.a1 x.shared.length x.c1 x.mutexes (.slice x.a2 x.bodies.length x.c2) y u (hy.old (Old.of_below hu hB)) (by have := hu.size; omega) hA
  have hlg := h.lt
  obtain ⟨a1, c1, shared, mu, a2, c2, bodies⟩ := x
  obtain ⟨a3, c3, locals, stack, a4, c4, nodes⟩ := y
  generalize mayB (CT.mk a1 c1 shared mu a2 c2 bodies).shared.length (CT.mk a1 c1 shared mu a2 c2 bodies).mutexes (BT.bd ⟨a3, c3, locals, stack, a4, c4, nodes⟩) = R at *
  simp only [BT.cells, CT.cells] at *
  generalize shared.length = n1 at *
  generalize bodies.length = n2 at *
  generalize locals.length = n3 at *
  generalize nodes.length = n4 at *
  go_enter Try.func49, Try.ntmps49
  go_wp2_with (first
    | ((with_reducible show wpList _ _ _ _ _ _); refine wpList_box_at rfl 45 (.tmp 0) rfl [.slice a3 n3 c3, .int .i64 stack, .slice a4 n4 c4] rfl ?_; intro w1 hA1 hb1 hs1; clear hs1; refine Hid.out ?_))
  refine hidU ?_
  have h1 := h.below hb1
  clear h hy
  go_wp2_with (first
    | ((with_reducible show wpList _ _ _ _ _ _); refine wpList_load_at (P := Try.prog) rfl 25 (.tmp 1) rfl gc rfl 25 [.slice a1 n1 c1, .int .i64 mu, .slice a2 n2 c2] h1 _ Try.underlying25 rfl i25 ?_)
    | ((with_reducible show wpList _ _ _ _ _ _); refine wpList_load_at (P := Try.prog) rfl 45 (.tmp 2) rfl w.heap.size rfl 45 [.slice a3 n3 c3, .int .i64 stack, .slice a4 n4 c4] hA1 _ Try.underlying45 rfl i45 ?_)
    | ((with_reducible show wpList _ _ _ _ _ _); refine wpList_build_at rfl 89 _ rfl [.slice a1 n1 c1, .int .i64 mu, .slice a2 n2 c2, .slice a3 n3 c3, .int .i64 stack, .slice a4 n4 c4] (by kernel_rfl) ?_)
    | ((with_reducible show wpList _ _ _ _ _ _); refine wpList_box_at rfl 89 (.tmp 6) rfl [.slice a1 n1 c1, .int .i64 mu, .slice a2 n2 c2, .slice a3 n3 c3, .int .i64 stack, .slice a4 n4 c4] rfl ?_; intro w2 hA2 hb2 hs2; clear hs2; refine Hid.out ?_))
  refine hidU ?_
  have hb12 := hb1.trans (hb2.mono hb1.size)
  clear h1 hA1 hb1 hb2
  go_wp2_with (first
    | (go_at_call 50; refine (Q1.out _ _ hb12 hA2).mono ?_; rintro r w4 ⟨rfl, hb4⟩))
  go_ret
  exact ⟨rfl, hb12.trans (hb4.mono hb12.size)⟩

/-- All bodies. -/
theorem allB_any (B gc : Nat) (x : CT) (ks : List BT) (a : Option Addr) (c : Nat) (w : World) (h : RowBT B w a c ks) (hB : B ≤ w.heap.size) (hS : At 25 w gc x.cells) :
    Calls Try.prog 48 #[.slice a ks.length c, .func (.func 49) #[] #[.pointer (some ⟨gc, 0, none⟩)]] w fun e w' => e = .returned (.bool (ks.all fun y => mayB x.shared.length x.mutexes y.bd)) ∧ Below w.heap.size w w' :=
  (all48_49 BT.cells BT.len3 BT.one (.pointer (some ⟨gc, 0, none⟩)) ks a c h.1 h.2.1 w (fun _ y => mayB x.shared.length x.mutexes y.bd) (fun _ u => Below w.heap.size w u) (fun u => Below w.heap.size w u)
    (fun i u u' h1 h2 => h1.trans (h2.mono h1.size)) (fun i k u hk hu => h.see hB i k u hk hu)
    (fun i k u hk hu => (partBody_any B gc x k u (BT.In.old (h.all k (List.mem_of_getElem? hk)) (Old.of_below hu hB)) (by have := hu.size; omega) (hS.below hu)).mono (by
      rintro e u' ⟨rfl, hb⟩
      exact ⟨rfl, fun _ => hu.trans (hb.mono hu.size), fun _ => hu.trans (hb.mono hu.size)⟩)) (Below.refl _ _)).mono fun e w' he => all_of he

/-- Whether a part of a code may not be. -/
def partC (c : Cd) : Bool := !isP c.mutexes 17 || (!c.shared.all mayV || !c.bodies.all (mayB c.shared.length c.mutexes))

set_option maxRecDepth 100000 in
set_option maxHeartbeats 3200000 in
theorem wrongPart_any (B : Nat) (x : CT) (w : World) (hx : x.In B w) (hB : B ≤ w.heap.size) :
    Calls Try.prog 32 #[.agg x.cells.toArray] w fun e w' => e = .returned (.bool (partC x.cd)) ∧ Below w.heap.size w w' := by
  have Q1 : Hid (∀ u, Below w.heap.size w u → Calls Try.prog 46 #[.slice x.a1 x.shared.length x.c1, .func (.func 47) #[] #[]] u fun e w' => e = .returned (.bool (x.shared.all mayV)) ∧ Below u.heap.size u w') := fun u hu => allV_any B x.shared x.a1 x.c1 u (RowVl.old hx.1 (Old.of_below hu hB)) (by have := hu.size; omega)
  have hP := fun u => isPlace_any x.mutexes 17 u
  have Q3 : Hid (∀ u g, Below w.heap.size w u → At 25 u g x.cells → Calls Try.prog 48 #[.slice x.a2 x.bodies.length x.c2, .func (.func 49) #[] #[.pointer (some ⟨g, 0, none⟩)]] u fun e w' => e = .returned (.bool (x.bodies.all fun y => mayB x.shared.length x.mutexes y.bd)) ∧ Below u.heap.size u w') := fun u g hu hA => allB_any B g x x.bodies x.a2 x.c2 u (RowBT.old hx.2.2 (Old.of_below hu hB)) (by have := hu.size; omega) hA
  obtain ⟨a1, c1, shared, mu, a2, c2, bodies⟩ := x
  have e : partC (CT.cd ⟨a1, c1, shared, mu, a2, c2, bodies⟩) = (!isP mu 17 || (!shared.all mayV || !bodies.all fun y => mayB shared.length mu y.bd)) := by
    unfold partC CT.cd; simp only [List.all_map]; rfl
  rw [e]
  clear e hx
  simp only [CT.cells] at *
  generalize (bodies.all fun y => mayB shared.length mu y.bd) = b3 at *
  generalize shared.all mayV = b2 at *
  generalize isP mu 17 = b1 at *
  generalize shared.length = n1 at *
  generalize bodies.length = n2 at *
  have hbox : ∀ w1 : World, At 25 w1 w.heap.size [.slice a1 n1 c1, .int .i64 mu, .slice a2 n2 c2] → w1.cell? ⟨w.heap.size, 0, none⟩ = some (.slice a1 n1 c1) ∧ w1.cell? ⟨w.heap.size, 1, none⟩ = some (.int .i64 mu) ∧ w1.cell? ⟨w.heap.size, 2, none⟩ = some (.slice a2 n2 c2) := fun w1 h => by refine ⟨?_, ?_, ?_⟩ <;> (rw [h.cell]; rfl)
  cases b1 with
  | false =>
    rw [Bool.not_false, Bool.true_or]
    go_enter Try.func32, Try.ntmps32
    go_wp2_with (first
      | ((with_reducible show wpList _ _ _ _ _ _); refine wpList_box_at rfl 25 (.tmp 0) rfl [.slice a1 n1 c1, .int .i64 mu, .slice a2 n2 c2] rfl ?_; intro w1 hA1 hb1 hs1; clear hs1; refine Hid.out ?_))
    refine hidU ?_
    obtain ⟨d0, d1, d2⟩ := hbox w1 hA1
    go_wp2_with (first
      | (go_at_call 45; refine (hP _).mono ?_; rintro r w3 ⟨rfl, rfl⟩))
    go_ret
    exact ⟨rfl, hb1⟩
  | true =>
    rw [Bool.not_true, Bool.false_or]
    cases b2 with
    | false =>
      rw [Bool.not_false, Bool.true_or]
      go_enter Try.func32, Try.ntmps32
      go_wp2_with (first
        | ((with_reducible show wpList _ _ _ _ _ _); refine wpList_box_at rfl 25 (.tmp 0) rfl [.slice a1 n1 c1, .int .i64 mu, .slice a2 n2 c2] rfl ?_; intro w1 hA1 hb1 hs1; clear hs1; refine Hid.out ?_))
      refine hidU ?_
      obtain ⟨d0, d1, d2⟩ := hbox w1 hA1
      go_wp2_with (first
        | (go_at_call 45; refine (hP _).mono ?_; rintro r w3 ⟨rfl, rfl⟩)
        | (go_at_call 46; refine (Q1.out _ hb1).mono ?_; rintro r w4 ⟨rfl, hb4⟩; rw [← hb4.cell (lt_of_cell d2)] at d2))
      go_ret
      exact ⟨rfl, hb1.trans (hb4.mono hb1.size)⟩
    | true =>
      rw [Bool.not_true, Bool.false_or]
      go_enter Try.func32, Try.ntmps32
      go_wp2_with (first
        | ((with_reducible show wpList _ _ _ _ _ _); refine wpList_box_at rfl 25 (.tmp 0) rfl [.slice a1 n1 c1, .int .i64 mu, .slice a2 n2 c2] rfl ?_; intro w1 hA1 hb1 hs1; clear hs1; refine Hid.out ?_))
      refine hidU ?_
      obtain ⟨d0, d1, d2⟩ := hbox w1 hA1
      go_wp2_with (first
        | (go_at_call 45; refine (hP _).mono ?_; rintro r w3 ⟨rfl, rfl⟩)
        | (go_at_call 46; refine (Q1.out _ hb1).mono ?_; rintro r w4 ⟨rfl, hb4⟩; rw [← hb4.cell (lt_of_cell d2)] at d2; have hA4 := hA1.below hb4; have hb14 := hb1.trans (hb4.mono hb1.size); clear hA1 hb4)
        | (go_at_call 48; refine (Q3.out _ _ hb14 hA4).mono ?_; rintro r w5 ⟨rfl, hb5⟩))
      go_ret
      exact ⟨rfl, hb14.trans (hb5.mono hb14.size)⟩
end Go.Proofs.Ytefklmckkigllaa

/- Whether a node touches two shared variables. -/
namespace Go.Proofs.Ytefklmckkigllaa
open Go.RowKit
set_option linter.unusedVariables false

/-- How often a node touches a shared variable. -/
def cntF (x : Nd) : Nat := (if x.kind = 2 then 1 else 0) + (x.code.filter isF).length
/-- More than once. -/
def tang (x : Nd) : Bool := decide (1 < cntF x)

theorem filter_take_succ (ks : List Ir) (i : Nat) (s : Ir) (hs : ks[i]? = some s) : ((ks.take (i + 1)).filter isF).length = ((ks.take i).filter isF).length + (if isF s then 1 else 0) := by
  rw [List.take_add_one, hs, List.filter_append, List.length_append]
  congr 1
  cases h : isF s <;> simp [h]
theorem filter_le (ks : List Ir) (i : Nat) : ((ks.take i).filter isF).length ≤ i := by
  have h1 := List.length_filter_le isF (ks.take i)
  have h2 := List.length_take_le i ks
  omega

set_option maxRecDepth 100000 in
set_option maxHeartbeats 3200000 in
theorem tangled_any (B : Nat) (x : NT) (w : World) (hx : x.In B w) (hB : B ≤ w.heap.size) :
    Calls Try.prog 57 #[.agg x.cells.toArray] w fun e w' => e = .returned (.bool (tang x.nd)) ∧ Below w.heap.size w w' := by
  obtain ⟨a, c, ⟨ks, kind, arg, next, alt⟩⟩ := x
  have hr : RowIr B w a c ks := hx.1
  have hl : ks.length ≤ 1048576 := hr.1
  have hcap : ks.length ≤ c := hr.2.1
  obtain ⟨n, hn⟩ : ∃ n, Hid (n = ks.length) := ⟨_, (rfl : ks.length = _)⟩
  obtain ⟨R, hR⟩ : ∃ R, Hid (R = tang ⟨ks, kind, arg, next, alt⟩) := ⟨_, (rfl : _ = tang ⟨ks, kind, arg, next, alt⟩)⟩
  obtain ⟨k0, hk0⟩ : ∃ k0 : Nat, Hid (k0 = if kind = 2 then 1 else 0) := ⟨_, (rfl : _ = if kind = 2 then 1 else 0)⟩
  have hk1 : k0 ≤ 1 := by rw [hk0.out]; split <;> omega
  show Calls Try.prog 57 #[.agg (NT.cells ⟨a, c, ⟨ks, kind, arg, next, alt⟩⟩).toArray] w fun e w' => e = .returned (.bool (tang ⟨ks, kind, arg, next, alt⟩)) ∧ Below w.heap.size w w'
  rw [← hR.out]
  simp only [NT.cells]
  rw [← hn.out] at hl hcap ⊢
  have HR : Hid (RowIr B w a c ks) := hr
  clear hr hx
  have hkind : (kind == 2) = decide (kind = 2) := by rw [Bool.eq_iff_iff, beq_iff_eq, decide_eq_true_iff]
  have hend : ∀ i : Nat, ¬ i < n → i ≤ n → decide (((k0 + ((ks.take i).filter isF).length : Nat) : Int) > 1) = R := fun i h1 h2 => by
    rw [hR.out, tang, cntF, Bool.eq_iff_iff, decide_eq_true_iff, decide_eq_true_iff]
    have e : ks.take i = ks := List.take_of_length_le (by rw [← hn.out]; omega)
    rw [e, hk0.out]
    dsimp only
    omega
  have HE : Hid (∀ i : Nat, ¬ i < n → i ≤ n → decide (((k0 + ((ks.take i).filter isF).length : Nat) : Int) > 1) = R) := hend
  clear hend
  have hgo : ∀ (w1 : World), At 49 w1 w.heap.size [.slice a n c, .int .i64 kind, .int .i64 arg, .int .i64 next, .int .i64 alt] → w1.cell? ⟨w.heap.size, 0, none⟩ = some (.slice a n c) ∧ w1.cell? ⟨w.heap.size, 1, none⟩ = some (.int .i64 kind) := fun w1 h => by refine ⟨?_, ?_⟩ <;> (rw [h.cell]; rfl)
  by_cases hk : kind = 2
  · have hk2 : (kind == 2) = true := by rw [beq_iff_eq]; exact hk
    have h01 : k0 = 1 := by rw [hk0.out, if_pos hk]
    clear hk hkind hk0
    subst h01
    go_enter Try.func57, Try.ntmps57
    go_wp2_with (first
      | ((with_reducible show wpList _ _ _ _ _ _); refine wpList_box_at rfl 49 (.tmp 0) rfl [.slice a n c, .int .i64 kind, .int .i64 arg, .int .i64 next, .int .i64 alt] rfl ?_; intro w1 hA1 hb1 hs1; clear hs1; refine Hid.out ?_))
    refine hidU ?_
    obtain ⟨d0, d1⟩ := hgo w1 hA1
    clear hA1 hgo
    go_wp2_with fail
    go_loopw [3, 14] (fun u j wr => ∃ i : Nat, j = .int .i64 (i : Int) ∧ i ≤ n ∧ Hid (u = .int .i64 ((1 + ((ks.take i).filter isF).length : Nat) : Int) ∧ Below w.heap.size w wr)) (fun _ j _ => n - (intOf j).toNat)
    case atStart => exact ⟨0, rfl, by omega, by simp, hb1⟩
    case round =>
      obtain ⟨i, rfl, hi, hX⟩ := hrel
      obtain ⟨rfl, hbw⟩ := hX.out
      clear hX
      by_cases hc : i < n
      · obtain ⟨s, hs⟩ : ∃ k, ks[i]? = some k := ⟨ks[i]'(by rw [← hn.out]; exact hc), by rw [List.getElem?_eq_getElem]⟩
        obtain ⟨g1, o1, rfl, hr1⟩ := HR.out.see hB i s wr hs hbw
        have hF := fun u => isFetch_any s u
        have hT := filter_take_succ ks i s hs
        have hle := filter_le ks i
        generalize ((ks.take i).filter isF).length = m at *
        generalize hm2 : ((ks.take (i + 1)).filter isF).length = m2 at *
        have HM2 : Hid (((ks.take (i + 1)).filter isF).length = m2) := hm2
        clear hm2
        have hls : s.cells.length = 4 := rfl
        have hos := s.one
        have HBW : Hid (Below w.heap.size w wr) := hbw
        clear hbw d0 d1 hb1 hs HR
        generalize s.cells = scs at *
        go_wp2_with (first
          | ((with_reducible show wpList _ _ _ _ _ _); refine wpList_load_mid (P := Try.prog) rfl 37 (.tmp 16) rfl g1 (o1 + i * 4) (by first | rfl | (simp; done)) scs _ hr1 Try.underlying37 rfl (by rw [hls]; exact i37) ?_)
          | ((with_reducible show wpList _ _ _ _ _ _); refine wpList_alloc_at rfl 37 rfl _ 4 z37 ?_; intro w2 hA2 hb2 hs2)
          | ((with_reducible show wpList _ _ _ _ _ _); refine wpList_store_at (P := Try.prog) rfl 37 (.tmp 5) (.tmp 17) rfl wr.heap.size scs rfl rfl 37 _ hA2 (by rw [hls]; exact i37) (by rw [hls]; rfl) hos ?_; intro w3 hA3 hb3 hs3; refine Hid.out ?_))
        refine hidU ?_
        have hB3 : Below wr.heap.size wr w3 := hb3.below hb2 (Nat.le_refl _) (by omega)
        have hw3 : Below w.heap.size w w3 := HBW.out.trans (hB3.mono HBW.out.size)
        clear hb3 hb2 hA2 hr1 hs2 hs3 hB3 HBW hos
        cases hb : isF s with
        | true =>
          rw [hb] at hF
          rw [hb, if_pos rfl] at hT
          subst hT
          clear hb
          go_wp2_with (first
            | ((with_reducible show wpList _ _ _ _ _ _); refine wpList_load_at (P := Try.prog) rfl 37 (.tmp 5) rfl wr.heap.size rfl 37 scs hA3 _ Try.underlying37 rfl (by rw [hls]; exact i37) ?_)
            | (go_at_call 75; refine (hF _).mono ?_; rintro r w6 ⟨rfl, hb6⟩))
          have HW6 : Hid (Below w.heap.size w w6) := hw3.trans (hb6.mono hw3.size)
          go_roundw
          case rel => exact ⟨i + 1, by go_num, by omega, by rw [HM2.out]; go_num, HW6.out⟩
          case measure => simp [intOf]; omega
        | false =>
          rw [hb] at hF
          rw [hb, if_neg (by decide), Nat.add_zero] at hT
          subst hT
          clear hb
          go_wp2_with (first
            | ((with_reducible show wpList _ _ _ _ _ _); refine wpList_load_at (P := Try.prog) rfl 37 (.tmp 5) rfl wr.heap.size rfl 37 scs hA3 _ Try.underlying37 rfl (by rw [hls]; exact i37) ?_)
            | (go_at_call 75; refine (hF _).mono ?_; rintro r w6 ⟨rfl, hb6⟩))
          have HW6 : Hid (Below w.heap.size w w6) := hw3.trans (hb6.mono hw3.size)
          go_roundw
          case rel => exact ⟨i + 1, by go_num, by omega, by rw [HM2.out]; go_num, HW6.out⟩
          case measure => simp [intOf]; omega
      · have hE := HE.out i hc hi
        have HBW : Hid (Below w.heap.size w wr) := hbw
        generalize ((ks.take i).filter isF).length = m at *
        clear HR HE hbw
        go_wp2
        go_ret
        exact ⟨by rw [← hE]; rfl, HBW.out⟩
  · have hk2 : (kind == 2) = false := by rw [beq_eq_false_iff_ne]; exact hk
    have h01 : k0 = 0 := by rw [hk0.out, if_neg hk]
    clear hk hkind hk0
    subst h01
    go_enter Try.func57, Try.ntmps57
    go_wp2_with (first
      | ((with_reducible show wpList _ _ _ _ _ _); refine wpList_box_at rfl 49 (.tmp 0) rfl [.slice a n c, .int .i64 kind, .int .i64 arg, .int .i64 next, .int .i64 alt] rfl ?_; intro w1 hA1 hb1 hs1; clear hs1; refine Hid.out ?_))
    refine hidU ?_
    obtain ⟨d0, d1⟩ := hgo w1 hA1
    clear hA1 hgo
    go_wp2_with fail
    go_loopw [3, 14] (fun u j wr => ∃ i : Nat, j = .int .i64 (i : Int) ∧ i ≤ n ∧ Hid (u = .int .i64 ((0 + ((ks.take i).filter isF).length : Nat) : Int) ∧ Below w.heap.size w wr)) (fun _ j _ => n - (intOf j).toNat)
    case atStart => exact ⟨0, rfl, by omega, by simp, hb1⟩
    case round =>
      obtain ⟨i, rfl, hi, hX⟩ := hrel
      obtain ⟨rfl, hbw⟩ := hX.out
      clear hX
      by_cases hc : i < n
      · obtain ⟨s, hs⟩ : ∃ k, ks[i]? = some k := ⟨ks[i]'(by rw [← hn.out]; exact hc), by rw [List.getElem?_eq_getElem]⟩
        obtain ⟨g1, o1, rfl, hr1⟩ := HR.out.see hB i s wr hs hbw
        have hF := fun u => isFetch_any s u
        have hT := filter_take_succ ks i s hs
        have hle := filter_le ks i
        generalize ((ks.take i).filter isF).length = m at *
        generalize hm2 : ((ks.take (i + 1)).filter isF).length = m2 at *
        have HM2 : Hid (((ks.take (i + 1)).filter isF).length = m2) := hm2
        clear hm2
        have hls : s.cells.length = 4 := rfl
        have hos := s.one
        have HBW : Hid (Below w.heap.size w wr) := hbw
        clear hbw d0 d1 hb1 hs HR
        generalize s.cells = scs at *
        go_wp2_with (first
          | ((with_reducible show wpList _ _ _ _ _ _); refine wpList_load_mid (P := Try.prog) rfl 37 (.tmp 16) rfl g1 (o1 + i * 4) (by first | rfl | (simp; done)) scs _ hr1 Try.underlying37 rfl (by rw [hls]; exact i37) ?_)
          | ((with_reducible show wpList _ _ _ _ _ _); refine wpList_alloc_at rfl 37 rfl _ 4 z37 ?_; intro w2 hA2 hb2 hs2)
          | ((with_reducible show wpList _ _ _ _ _ _); refine wpList_store_at (P := Try.prog) rfl 37 (.tmp 5) (.tmp 17) rfl wr.heap.size scs rfl rfl 37 _ hA2 (by rw [hls]; exact i37) (by rw [hls]; rfl) hos ?_; intro w3 hA3 hb3 hs3; refine Hid.out ?_))
        refine hidU ?_
        have hB3 : Below wr.heap.size wr w3 := hb3.below hb2 (Nat.le_refl _) (by omega)
        have hw3 : Below w.heap.size w w3 := HBW.out.trans (hB3.mono HBW.out.size)
        clear hb3 hb2 hA2 hr1 hs2 hs3 hB3 HBW hos
        cases hb : isF s with
        | true =>
          rw [hb] at hF
          rw [hb, if_pos rfl] at hT
          subst hT
          clear hb
          go_wp2_with (first
            | ((with_reducible show wpList _ _ _ _ _ _); refine wpList_load_at (P := Try.prog) rfl 37 (.tmp 5) rfl wr.heap.size rfl 37 scs hA3 _ Try.underlying37 rfl (by rw [hls]; exact i37) ?_)
            | (go_at_call 75; refine (hF _).mono ?_; rintro r w6 ⟨rfl, hb6⟩))
          have HW6 : Hid (Below w.heap.size w w6) := hw3.trans (hb6.mono hw3.size)
          go_roundw
          case rel => exact ⟨i + 1, by go_num, by omega, by rw [HM2.out]; go_num, HW6.out⟩
          case measure => simp [intOf]; omega
        | false =>
          rw [hb] at hF
          rw [hb, if_neg (by decide), Nat.add_zero] at hT
          subst hT
          clear hb
          go_wp2_with (first
            | ((with_reducible show wpList _ _ _ _ _ _); refine wpList_load_at (P := Try.prog) rfl 37 (.tmp 5) rfl wr.heap.size rfl 37 scs hA3 _ Try.underlying37 rfl (by rw [hls]; exact i37) ?_)
            | (go_at_call 75; refine (hF _).mono ?_; rintro r w6 ⟨rfl, hb6⟩))
          have HW6 : Hid (Below w.heap.size w w6) := hw3.trans (hb6.mono hw3.size)
          go_roundw
          case rel => exact ⟨i + 1, by go_num, by omega, by rw [HM2.out]; go_num, HW6.out⟩
          case measure => simp [intOf]; omega
      · have hE := HE.out i hc hi
        have HBW : Hid (Below w.heap.size w wr) := hbw
        generalize ((ks.take i).filter isF).length = m at *
        clear HR HE hbw
        go_wp2
        go_ret
        exact ⟨by rw [← hE, Nat.zero_add]; rfl, HBW.out⟩

theorem touchBody_any (B : Nat) (y : BT) (w : World) (hy : y.In B w) (hB : B ≤ w.heap.size) :
    Calls Try.prog 55 #[.agg y.cells.toArray] w fun e w' => e = .returned (.bool (y.bd.nodes.any tang)) ∧ Below w.heap.size w w' := by
  obtain ⟨a1, c1, locals, stack, a2, c2, nodes⟩ := y
  have HA : Hid (∀ u, Below w.heap.size w u → Calls Try.prog 56 #[.slice a2 nodes.length c2, .func (.func 57) #[] #[]] u fun e w' => e = .returned (.bool (nodes.any fun y => tang y.nd)) ∧ Below u.heap.size u w') := fun u hu => by
    have hr : RowNT B u a2 c2 nodes := RowNT.old hy.2.2 (Old.of_below hu hB)
    have hBu : B ≤ u.heap.size := by have := hu.size; omega
    exact any56_57 NT.cells NT.len5 nodes a2 c2 hr.1 hr.2.1 u (fun y => tang y.nd) (hr.see hBu) (fun i k v hk hv => tangled_any B k v (NT.In.old (hr.all k (List.mem_of_getElem? hk)) (Old.of_below hv hBu)) (by have := hv.size; omega))
  have e : (BT.bd ⟨a1, c1, locals, stack, a2, c2, nodes⟩).nodes.any tang = nodes.any fun y => tang y.nd := by
    unfold BT.bd; simp only [List.any_map]; rfl
  rw [e]
  clear e hy
  simp only [BT.cells]
  generalize (nodes.any fun y => tang y.nd) = A at *
  generalize locals.length = n1 at *
  generalize nodes.length = n2 at *
  go_enter Try.func55, Try.ntmps55
  go_wp2_with (first
    | ((with_reducible show wpList _ _ _ _ _ _); refine wpList_box_at rfl 45 (.tmp 0) rfl [.slice a1 n1 c1, .int .i64 stack, .slice a2 n2 c2] rfl ?_; intro w1 hA1 hb1 hs1; clear hs1; refine Hid.out ?_))
  refine hidU ?_
  have c2' : w1.cell? ⟨w.heap.size, 2, none⟩ = some (.slice a2 n2 c2) := by rw [hA1.cell]; rfl
  clear hA1
  go_wp2_with (first
    | (go_at_call 56; refine (HA.out _ hb1).mono ?_; rintro r w2 ⟨rfl, hb2⟩))
  go_ret
  exact ⟨rfl, hb1.trans (hb2.mono hb1.size)⟩

/-- Whether a node of a code touches two. -/
def touchC (c : Cd) : Bool := c.bodies.any fun b => b.nodes.any tang

theorem touchesTwo_any (B : Nat) (x : CT) (w : World) (hx : x.In B w) (hB : B ≤ w.heap.size) :
    Calls Try.prog 34 #[.agg x.cells.toArray] w fun e w' => e = .returned (.bool (touchC x.cd)) ∧ Below w.heap.size w w' := by
  obtain ⟨a1, c1, shared, mu, a2, c2, bodies⟩ := x
  have HA : Hid (∀ u, Below w.heap.size w u → Calls Try.prog 43 #[.slice a2 bodies.length c2, .func (.func 55) #[] #[]] u fun e w' => e = .returned (.bool (bodies.any fun y => y.bd.nodes.any tang)) ∧ Below u.heap.size u w') := fun u hu => by
    have hr : RowBT B u a2 c2 bodies := RowBT.old hx.2.2 (Old.of_below hu hB)
    have hBu : B ≤ u.heap.size := by have := hu.size; omega
    exact any43_55 BT.cells BT.len3 bodies a2 c2 hr.1 hr.2.1 u (fun y => y.bd.nodes.any tang) (hr.see hBu) (fun i k v hk hv => touchBody_any B k v (BT.In.old (hr.all k (List.mem_of_getElem? hk)) (Old.of_below hv hBu)) (by have := hv.size; omega))
  have e : touchC (CT.cd ⟨a1, c1, shared, mu, a2, c2, bodies⟩) = bodies.any fun y => y.bd.nodes.any tang := by
    unfold touchC CT.cd; simp only [List.any_map]; rfl
  rw [e]
  clear e hx
  simp only [CT.cells]
  generalize (bodies.any fun y => y.bd.nodes.any tang) = A at *
  generalize shared.length = n1 at *
  generalize bodies.length = n2 at *
  go_enter Try.func34, Try.ntmps34
  go_wp2_with (first
    | ((with_reducible show wpList _ _ _ _ _ _); refine wpList_box_at rfl 25 (.tmp 0) rfl [.slice a1 n1 c1, .int .i64 mu, .slice a2 n2 c2] rfl ?_; intro w1 hA1 hb1 hs1; clear hs1; refine Hid.out ?_))
  refine hidU ?_
  have c2' : w1.cell? ⟨w.heap.size, 2, none⟩ = some (.slice a2 n2 c2) := by rw [hA1.cell]; rfl
  clear hA1
  go_wp2_with (first
    | (go_at_call 43; refine (HA.out _ hb1).mono ?_; rintro r w2 ⟨rfl, hb2⟩))
  go_ret
  exact ⟨rfl, hb1.trans (hb2.mono hb1.size)⟩
end Go.Proofs.Ytefklmckkigllaa

/- The types on a stack: how they lie, and the table of the operators. -/
namespace Go.Proofs.Ytefklmckkigllaa
open Go.RowKit
set_option linter.unusedVariables false

/-- A type as a cell holds it. -/
def tyC (t : Nat) : Value := .int .u8 (t : Int)
/-- How many operands an operator takes. -/
def opersOf (op : Nat) : Nat := if 3 ≤ op ∧ op ≤ 15 then 2 else if 16 ≤ op ∧ op ≤ 19 then 1 else 0
/-- What it makes of a type. -/
def makesOf (op t : Nat) : Nat :=
  if op = 3 ∨ op = 4 ∨ op = 17 then (if t = 2 then 2 else 0)
  else if op = 5 ∨ op = 6 then (if t = 1 ∨ t = 2 ∨ t = 3 then 2 else 0)
  else if op = 7 ∨ op = 8 ∨ op = 9 ∨ op = 10 then (if t = 1 ∨ t = 3 then 2 else 0)
  else if op = 11 ∨ op = 12 ∨ op = 13 ∨ op = 14 ∨ op = 16 then (if t = 1 then 1 else if t = 3 then 3 else 0)
  else if op = 15 then (if t = 1 then 1 else 0)
  else if op = 18 then (if t = 3 then 1 else 0)
  else if op = 19 then (if t = 1 then 3 else 0) else 0
/-- An operator's row of the table. -/
def opC (op : Nat) : List Value := [.int .i64 (opersOf op : Int), tyC (makesOf op 0), tyC (makesOf op 1), tyC (makesOf op 2), tyC (makesOf op 3)]
def opsC : List Value := (List.range 20).flatMap opC

theorem makes_lt (op t : Nat) : makesOf op t ≤ 3 := by
  unfold makesOf
  repeat' split
  all_goals omega
theorem flat5 (f : Nat → List Value) (hf : ∀ i, (f i).length = 5) (n : Nat) : ((List.range n).flatMap f).length = n * 5 ∧ ∀ i j, i < n → j < 5 → ((List.range n).flatMap f)[i * 5 + j]? = (f i)[j]? := by
  induction n with
  | zero => exact ⟨rfl, fun i j h => by omega⟩
  | succ n ih =>
    rw [List.range_succ, List.flatMap_append]
    have e : [n].flatMap f = f n := by simp
    rw [e]
    refine ⟨by rw [List.length_append, ih.1, hf]; omega, fun i j hi hj => ?_⟩
    by_cases hin : i < n
    · rw [List.getElem?_append_left (by rw [ih.1]; omega)]
      exact ih.2 i j hin hj
    · obtain rfl : i = n := by omega
      rw [List.getElem?_append_right (by rw [ih.1]; omega), ih.1, Nat.add_sub_cancel_left]
theorem opsC_at (op : Nat) (h : op < 20) (j : Nat) (hj : j < 5) : opsC[op * 5 + j]? = (opC op)[j]? := (flat5 opC (fun _ => rfl) 20).2 op j h hj
theorem opsC_len : opsC.length = 100 := (flat5 opC (fun _ => rfl) 20).1
theorem opsC_one : ∀ x ∈ opsC, x.oneCell' = true := by
  intro x hx
  unfold opsC at hx
  rw [List.mem_flatMap] at hx
  obtain ⟨op, _, hx⟩ := hx
  simp [opC, tyC] at hx
  rcases hx with rfl | rfl | rfl | rfl | rfl <;> rfl

theorem i95 : (Try.prog.info? 95).map (·.size) = some opsC.length := by rw [opsC_len]; kernel_rfl
theorem z95 : (Try.prog.info? 95).map (fun i => (i.zero, i.size)) = some (some (.agg ((List.replicate 20 [Value.int .i64 0, .int .u8 0, .int .u8 0, .int .u8 0, .int .u8 0]).flatten).toArray), 100) := by kernel_rfl

set_option maxRecDepth 100000 in
set_option maxHeartbeats 3200000 in
theorem operators_any (w : World) : Calls Try.prog 52 #[] w fun e w' => e = .returned (.agg opsC.toArray) ∧ Below w.heap.size w w' := by
  have hO := opsC_one
  have hl : ((List.replicate 20 [Value.int .i64 0, .int .u8 0, .int .u8 0, .int .u8 0, .int .u8 0]).flatten).length = opsC.length := by rw [opsC_len]; decide +kernel
  have hi := i95
  obtain ⟨O, hOe⟩ : ∃ O, Hid (O = opsC) := ⟨_, (rfl : opsC = _)⟩
  rw [← hOe.out] at hO hl hi ⊢
  go_enter Try.func52, Try.ntmps52
  go_wp2_with (first
    | ((with_reducible show wpList _ _ _ _ _ _); refine wpList_alloc_at rfl 95 rfl _ 100 z95 ?_; intro w1 hA1 hb1 hs1; clear hs1)
    | ((with_reducible show wpList _ _ _ _ _ _); refine wpList_build_at rfl 95 _ rfl O (by rw [hOe.out]; kernel_rfl) ?_)
    | ((with_reducible show wpList _ _ _ _ _ _); refine wpList_store_at (P := Try.prog) rfl 95 (.tmp 0) (.tmp 35) rfl w.heap.size O rfl rfl 95 _ hA1 hi hl hO ?_; intro w9 hA9 hb9 hs9; clear hs9))
  refine bodyPost_ret (results_at rfl _ _ w.heap.size 95 O _ rfl hA9 Try.underlying95 rfl hi) rfl ?_
  exact ⟨rfl, hb9.below hb1 (Nat.le_refl _) hb1.size⟩
end Go.Proofs.Ytefklmckkigllaa

/- The typer in memory. -/
namespace Go.Proofs.Ytefklmckkigllaa
open Go.RowKit
set_option linter.unusedVariables false

/-- All blocks stand but the typer's and rows of types from A on. -/
structure Fw (A g : Nat) (w w' : World) : Prop where
  os : w'.os = w.os
  tape : w'.tape = w.tape
  output : w'.output = w.output
  size : w.heap.size ≤ w'.heap.size
  block : ∀ k, k < w.heap.size → k ≠ g → (k < A ∨ ∀ cs z, w.heap[k]? ≠ some (.cells cs 32 z)) → w'.heap[k]? = w.heap[k]?
theorem Fw.refl (A g : Nat) (w : World) : Fw A g w w := ⟨rfl, rfl, rfl, Nat.le_refl _, fun _ _ _ _ => rfl⟩
theorem Fw.trans {A g : Nat} {a b c : World} (h : Fw A g a b) (k : Fw A g b c) : Fw A g a c :=
  ⟨k.os.trans h.os, k.tape.trans h.tape, k.output.trans h.output, Nat.le_trans h.size k.size, fun i hi hn hc => by
    have e := h.block i hi hn hc
    rw [k.block i (Nat.lt_of_lt_of_le hi h.size) hn (hc.imp id fun q cs z => by rw [e]; exact q cs z), e]⟩
theorem Fw.of_below {A g : Nat} {w w' : World} (h : Below w.heap.size w w') : Fw A g w w' := ⟨h.os, h.tape, h.output, h.size, fun k hk _ _ => h.block k hk⟩
theorem Fw.of_but {A g : Nat} {w w' : World} (h : But g w w') : Fw A g w w' := ⟨h.os, h.tape, h.output, h.size, fun k hk hn _ => h.block k hk hn⟩
theorem Fw.at {A g k : Nat} {t : TypeId} {w w' : World} {cs : List Value} (h : Fw A g w w') (ha : At t w k cs) (hn : k ≠ g) (ht : t ≠ 32) : At t w' k cs := by
  unfold At
  rw [h.block k ha.lt hn (.inr fun cs' z e => by
    have : w.heap[k]? = _ := ha
    rw [this] at e
    exact ht (by cases e; rfl))]
  exact ha
theorem Fw.below {A g : Nat} {w w' : World} (h : Fw A g w w') (hg : A ≤ g) (hA : A ≤ w.heap.size) : Below A w w' :=
  ⟨h.os, h.tape, h.output, h.size, fun k hk => h.block k (by omega) (by omega) (.inl hk)⟩
theorem Fw.old {A g B : Nat} {w w' : World} (h : Fw A g w w') (hg : A ≤ g) (hA : A ≤ w.heap.size) (hB : B ≤ A) : Old B w w' := fun k hk => h.block k (by omega) (by omega) (.inl (by omega))
theorem Fw.grown {A g : Nat} {w w' : World} {v : Value} {n : Nat} {xs : List Value} (hown : w.ownsRow A 32 1 v n xs) (h : w.grownBy w' v.ownBlock) : Fw A g w w' := by
  refine ⟨h.os, h.tape, h.output, h.size, fun k hk hn hc => h.block k hk fun e => ?_⟩
  obtain ⟨_, ⟨rfl, _⟩ | ⟨b, cap, cur, rfl, hb, hcur, _⟩⟩ := hown
  · cases e
  · obtain rfl : k = b := by cases e; rfl
    rcases hc with hc | hc
    · omega
    · exact hc _ _ hcur

/-- The typer: a body in its code, the table, the types on the stack. -/
structure Ty (A : Nat) (w : World) (g : Nat) (pre : List Value) (v : Value) (S : List Nat) : Prop where
  cell : At 99 w g (pre ++ opsC ++ [v])
  own : w.ownsRow A 32 1 v S.length (S.map tyC)
  low : A ≤ g
theorem Ty.lt {A : Nat} {w : World} {g : Nat} {pre : List Value} {v : Value} {S : List Nat} (h : Ty A w g pre v S) : g < w.heap.size := h.cell.lt
theorem Ty.ne {A : Nat} {w : World} {g : Nat} {pre : List Value} {v : Value} {S : List Nat} (h : Ty A w g pre v S) : v.ownBlock ≠ some g := by
  intro e
  obtain ⟨_, ⟨rfl, _⟩ | ⟨b, cap, cur, rfl, hb, hcur, _⟩⟩ := h.own
  · cases e
  · obtain rfl : b = g := by cases e; rfl
    have := h.cell
    unfold At at this
    rw [hcur] at this
    cases this
/-- Other blocks are written. -/
theorem Ty.keep {A : Nat} {w w' : World} {g : Nat} {pre : List Value} {v : Value} {S : List Nat} (h : Ty A w g pre v S) (hs : ∀ k, k < w.heap.size → A ≤ k → w'.heap[k]? = w.heap[k]?) : Ty A w' g pre v S := by
  refine ⟨?_, ?_, h.low⟩
  · unfold At
    rw [hs g h.lt h.low]
    exact h.cell
  · obtain ⟨h1, h2 | ⟨b, cap, cur, hv, hb, hcur, h3⟩⟩ := h.own
    · exact ⟨h1, .inl h2⟩
    · have hlt : b < w.heap.size := by
        rcases Nat.lt_or_ge b w.heap.size with q | q
        · exact q
        · rw [Array.getElem?_eq_none q] at hcur; cases hcur
      exact ⟨h1, .inr ⟨b, cap, cur, hv, hb, (hs b hlt hb).trans hcur, h3⟩⟩
theorem Ty.below {A : Nat} {w w' : World} {g : Nat} {pre : List Value} {v : Value} {S : List Nat} (h : Ty A w g pre v S) (hb : Below w.heap.size w w') : Ty A w' g pre v S := h.keep fun k hk _ => hb.block k hk
theorem Ty.head {A : Nat} {w : World} {g : Nat} {pre : List Value} {v : Value} {S : List Nat} (h : Ty A w g pre v S) (hp : pre.length = 6) : w.cell? ⟨g, 106, none⟩ = some v := by
  rw [h.cell.cell, List.getElem?_append_right (by rw [List.length_append, hp, opsC_len]; omega), List.length_append, hp, opsC_len]
  rfl
theorem Ty.pre {A : Nat} {w : World} {g : Nat} {pre : List Value} {v : Value} {S : List Nat} (h : Ty A w g pre v S) (hp : pre.length = 6) (i : Nat) (hi : i < 6) : w.cell? ⟨g, i, none⟩ = pre[i]? := by
  rw [h.cell.cell, List.getElem?_append_left (by rw [List.length_append, hp, opsC_len]; omega), List.getElem?_append_left (by omega)]
theorem Ty.op {A : Nat} {w : World} {g : Nat} {pre : List Value} {v : Value} {S : List Nat} (h : Ty A w g pre v S) (hp : pre.length = 6) (op j : Nat) (ho : op < 20) (hj : j < 5) : w.cell? ⟨g, 6 + op * 5 + j, none⟩ = (opC op)[j]? := by
  rw [h.cell.cell, List.getElem?_append_left (by rw [List.length_append, hp, opsC_len]; omega), List.getElem?_append_right (by omega), hp, show 6 + op * 5 + j - 6 = op * 5 + j by omega]
  exact opsC_at op ho j hj
theorem set_last {α : Type} (l : List α) (a b : α) : (l ++ [a]).set l.length b = l ++ [b] := by
  rw [List.set_append_right _ _ (Nat.le_refl _)]
  simp
/-- The header of the types is written. -/
theorem Ty.put {A : Nat} {w w0 : World} {g : Nat} {pre : List Value} {v v' : Value} {S S' : List Nat} (h : Ty A w0 g pre v S) (hp : pre.length = 6) (hw : At 99 w g (pre ++ opsC ++ [v])) (hown : w.ownsRow A 32 1 v' S'.length (S'.map tyC)) : Ty A (w.setCell ⟨g, 106, none⟩ v') g pre v' S' := by
  have hl : (pre ++ opsC).length = 106 := by rw [List.length_append, hp, opsC_len]
  refine ⟨?_, ?_, h.low⟩
  · have := hw.set 106 v'
    rw [← hl, set_last, hl] at this
    exact this
  · obtain ⟨h1, h2 | ⟨b, cap, cur, hv, hb, hcur, h3⟩⟩ := hown
    · exact ⟨h1, .inl h2⟩
    · refine ⟨h1, .inr ⟨b, cap, cur, hv, hb, ?_, h3⟩⟩
      rw [heap_setCell_other]
      · exact hcur
      · rintro rfl
        unfold At at hw
        rw [hcur] at hw
        cases hw
theorem i32 : (Try.prog.info? 32).map (fun i => (i.zero, i.size, i.bytes)) = some (some (.int .u8 0), 1, 1) := by kernel_rfl

/-- 'append(types, t)' as one step of a region that draws. -/
theorem step_app32 {ops : Array Oper} {o : Oper} {a : Act} {K : Act → World → Prop} {Q : Exit → Act → World → Prop} {E : Prop} {w0 : World} (s x : Operand) (A : Nat) (v : Value) (S : List Nat) (t b : Nat)
    (hgd : o.guard = none) (ho : o.op = .call { callee := .builtin .append, args := #[s, x], argTypes := #[97, 97] })
    (hs : a.eval s = v) (hx : a.eval x = .slice (some ⟨b, 0, none⟩) 1 1) (hown : w0.ownsRow A 32 1 v S.length (S.map tyC)) (hb : w0.cell? ⟨b, 0, none⟩ = some (tyC t)) (hlen : S.length ≤ 1048576) (hbase : A ≤ w0.heap.size)
    (h : ∀ v' w', w'.ownsRow A 32 1 v' (S ++ [t]).length ((S ++ [t]).map tyC) → w0.grownBy w' v.ownBlock → K (a.put o.dst v') w') :
    if Region.wanted o (yielded ops a.tmps) = true then Oper.wp Try.prog o a w0 K Q else E := by
  have hw : Region.wanted o (yielded ops a.tmps) = true := by simp [Region.wanted, hgd]
  rw [if_pos hw]
  obtain ⟨i0, hi, hz0, hz1, hz2⟩ := info_parts i32
  refine wp_append_own w0 s x 97 ho A 32 i0 (.int .u8 0) 1 1 Try.underlying97 hi hz0 hz1 hz2 rfl (by decide) v S.length (S.map tyC) hs hown
      ⟨b, 0, none⟩ 1 1 [tyC t] hx rfl ?c1 ?c2 ?c3 ?c4 hbase ?_
  case c1 =>
    intro j u hj
    match j, hj with
    | 0, hj => simp at hj; subst hj; simpa [Addr.add] using hb
  case c2 => intro u hu; simp at hu; subst hu; rfl
  case c3 => unfold maxLen; omega
  case c4 => omega
  intro v' w' h1 h2 _
  exact h v' w' (by simpa using h1) h2
end Go.Proofs.Ytefklmckkigllaa

/- A type is put on the stack. -/
namespace Go.Proofs.Ytefklmckkigllaa
open Go.RowKit
set_option linter.unusedVariables false

theorem own_len {A n : Nat} {w : World} {v : Value} {xs : List Value} (h : w.ownsRow A 32 1 v n xs) : ∃ a c, v = .slice a n c := by
  obtain ⟨_, ⟨rfl, rfl⟩ | ⟨b, cap, cur, rfl, _⟩⟩ := h
  · exact ⟨none, 0, rfl⟩
  · exact ⟨_, _, rfl⟩
set_option maxRecDepth 100000 in
set_option maxHeartbeats 6400000 in
theorem put_any (A g : Nat) (pre : List Value) (hp : pre.length = 6) (stk : Int) (hstk : pre[4]? = some (.int .i64 stk)) (v : Value) (S : List Nat) (x : Vl) (hx : x.Ok) (w : World) (hT : Ty A w g pre v S) (hlen : S.length ≤ 1048576) (hAw : A ≤ w.heap.size) :
    Calls Try.prog 85 #[.pointer (some ⟨g, 0, none⟩), .agg x.cells.toArray] w fun e w' => ∃ v', e = .returned (.bool (decide ((S.length : Int) + 1 ≤ stk))) ∧ Ty A w' g pre v' (S ++ [x.t]) ∧ Fw A g w w' := by
  obtain ⟨t, b⟩ := x
  simp only [Vl.cells]
  have hgw : w.heap.size ≠ g := by have := hT.lt; omega
  have hlast : (pre ++ opsC ++ [v])[106]? = some v := by
    rw [List.getElem?_append_right (by rw [List.length_append, hp, opsC_len]; omega), List.length_append, hp, opsC_len]
    rfl
  go_enter Try.func85, Try.ntmps85
  go_wp2_with (first
    | ((with_reducible show wpList _ _ _ _ _ _); refine wpList_box_at rfl 35 (.tmp 1) rfl [.int .u8 (t : Int), .int .u64 (b : Int)] rfl ?_; intro w1 hA1 hb1 hs1; clear hs1; refine Hid.out ?_))
  refine hidU ?_
  have hT1 := hT.below hb1
  have l1 := hb1.size
  go_wp2_with fail
  have f0 : w1.drew.cell? ⟨w.heap.size, 0, none⟩ = some (.int .u8 (t : Int)) := by show w1.cell? _ = _; rw [hA1.cell]; rfl
  refine wp_region_held_drew (S := fun x => x.cell? ⟨w.heap.size, 0, none⟩ = some (.int .u8 (t : Int))) (by kernel_rfl) f0 (fun _ => ?_)
  refine wpAnyH_take (i := 0) (oi := { dst := some 5, op := .move (.tmp 0), type := _, pos := _, after := _, guard := none }) (v := .pointer (some ⟨g, 0, none⟩)) rfl (by kernel_rfl) (by kernel_rfl) (by kernel_rfl) (fun _ _ _ h => h) (Or.inl ⟨by rfl, ?_⟩) f0 ?_
  · intro w hSw
    go_simp
  simp only [Act.put, List.setIfInBounds_toArray, List.set_cons_zero, List.set_cons_succ]
  refine wpAnyH_take (i := 1) (oi := { dst := some 6, op := .move (.tmp 0), type := _, pos := _, after := _, guard := none }) (v := .pointer (some ⟨g, 0, none⟩)) rfl (by kernel_rfl) (by kernel_rfl) (by kernel_rfl) (fun _ _ _ h => h) (Or.inl ⟨by rfl, ?_⟩) f0 ?_
  · intro w hSw
    go_simp
  simp only [Act.put, List.setIfInBounds_toArray, List.set_cons_zero, List.set_cons_succ]
  refine wpAnyH_take (i := 2) (oi := { dst := some 7, op := .nilCheck (.tmp 6), type := _, pos := _, after := _, guard := none }) (v := .pointer (some ⟨g, 0, none⟩)) rfl (by kernel_rfl) (by kernel_rfl) (by kernel_rfl) (fun _ _ _ h => h) (Or.inl ⟨by rfl, ?_⟩) f0 ?_
  · intro w hSw
    go_simp
  simp only [Act.put, List.setIfInBounds_toArray, List.set_cons_zero, List.set_cons_succ]
  refine wpAnyH_take (i := 3) (oi := { dst := some 8, op := .fieldAddr 99 (.tmp 7) 2, type := _, pos := _, after := _, guard := none }) (v := .pointer (some ⟨g, 106, none⟩)) rfl (by kernel_rfl) (by kernel_rfl) (by kernel_rfl) (fun _ _ _ h => h) (Or.inl ⟨by rfl, ?_⟩) f0 ?_
  · intro w hSw
    go_simp
  simp only [Act.put, List.setIfInBounds_toArray, List.set_cons_zero, List.set_cons_succ]
  refine wpAnyH_take (i := 5) (oi := { dst := some 10, op := .fieldAddr 35 (.tmp 3) 0, type := _, pos := _, after := _, guard := none }) (v := .pointer (some ⟨w.heap.size, 0, none⟩)) rfl (by kernel_rfl) (by kernel_rfl) (by kernel_rfl) (fun _ _ _ h => h) (Or.inl ⟨by rfl, ?_⟩) f0 ?_
  · intro w hSw
    go_simp
  simp only [Act.put, List.setIfInBounds_toArray, List.set_cons_zero, List.set_cons_succ]
  refine wpAnyH_take (i := 6) (oi := { dst := some 11, op := .load 32 (.tmp 10), type := _, pos := _, after := _, guard := none }) (v := .int .u8 (t : Int)) rfl (by kernel_rfl) (by kernel_rfl) (by kernel_rfl) (fun _ _ _ h => h) (Or.inl ⟨by rfl, ?_⟩) f0 ?_
  · intro w hSw
    go_simp
  simp only [Act.put, List.setIfInBounds_toArray, List.set_cons_zero, List.set_cons_succ]
  refine wpAnyH_ready (rs := [4, 7]) (by kernel_rfl) (by simp) ?_
  refine AllReadyH.cons (o := { dst := some 9, op := .load 97 (.tmp 8), type := _, pos := _, after := _, guard := none }) rfl (fun K hK => ?_) (AllReadyH.cons (o := { dst := some 12, op := .buildSlice 97 1 #[(0, .tmp 11)], type := _, pos := _, after := _, guard := none }) rfl (fun K hK => ?_) AllReadyH.nil)
  · skip
    rw [if_pos (by rfl)]
    have k0 : w1.drew.cell? ⟨g, 106, none⟩ = some v := (show Ty A w1.drew g pre v S from hT1.below (Below.drew (Below.refl _ _))).head hp
    go_simp
    refine hK.out _ _ f0 (fun _ => ?_)
    clear hK K
    try simp only [Act.put, List.setIfInBounds_toArray, List.set_cons_zero, List.set_cons_succ]
    refine wpAnyH_ready (rs := [7]) (by kernel_rfl) (by simp) ?_
    refine AllReadyH.cons (o := { dst := some 12, op := .buildSlice 97 1 #[(0, .tmp 11)], type := _, pos := _, after := _, guard := none }) rfl (fun K hK => ?_) AllReadyH.nil
    rw [if_pos (by rfl)]
    go_simp
    obtain ⟨wa, hwa⟩ : ∃ x, x = (w1.alloc (.cells #[.int .u8 (t : Int)] 32)).drew := ⟨_, rfl⟩
    have hbA : Below w1.heap.size w1 wa := by rw [hwa]; exact Below.drew ((Below.refl _ _).alloc (Nat.le_refl _) _)
    have hnew : wa.cell? ⟨w1.heap.size, 0, none⟩ = some (tyC t) := by rw [hwa]; show (w1.alloc (.cells #[.int .u8 (t : Int)] 32)).cell? _ = _; rw [World.cell?_alloc_at _ _ _ _ rfl]; rfl
    have hTa := hT1.below hbA
    have hBa := hA1.below hbA
    have hFa : Fw A g w wa := (Fw.of_below hb1).trans (Fw.of_below hbA)
    have hAa : A ≤ wa.heap.size := by have := hbA.size; omega
    have fa : wa.cell? ⟨w.heap.size, 0, none⟩ = some (.int .u8 (t : Int)) := by rw [hBa.cell]; rfl
    rw [← hwa]
    clear hwa
    refine hK.out _ _ fa (fun _ => ?_)
    clear hK K
    try simp only [Act.put, List.setIfInBounds_toArray, List.set_cons_zero, List.set_cons_succ]
    refine wpAnyH_ready (rs := [8]) (by kernel_rfl) (by simp) ?_
    refine AllReadyH.cons (o := { dst := some 13, op := .call { callee := .builtin .append, args := #[.tmp 9, .tmp 12], argTypes := #[97, 97] }, type := _, pos := _, after := _, guard := none }) rfl (fun K hK => ?_) AllReadyH.nil
    refine step_app32 (.tmp 9) (.tmp 12) A v S t w1.heap.size rfl rfl rfl rfl hTa.own hnew hlen hAa ?_
    intro v' w5 hown5 hgr5
    have hF5 : Fw A g wa w5 := Fw.grown hTa.own hgr5
    have hA5 : At 99 w5 g (pre ++ opsC ++ [v]) := by
      unfold At
      rw [hgr5.block g hTa.lt (fun e => hTa.ne e.symm)]
      exact hTa.cell
    have f5 : w5.cell? ⟨w.heap.size, 0, none⟩ = some (.int .u8 (t : Int)) := by rw [(hF5.at hBa hgw (by decide)).cell]; rfl
    refine hK.out _ _ f5 (fun _ => ?_)
    clear hK K
    refine wpAnyH_take (i := 9) (oi := { dst := some 14, op := .nilCheck (.tmp 5), type := _, pos := _, after := _, guard := none }) (v := .pointer (some ⟨g, 0, none⟩)) rfl (by kernel_rfl) (by kernel_rfl) (by kernel_rfl) (fun _ _ _ h => h) (Or.inl ⟨by rfl, ?_⟩) f5 ?_
    · intro w hSw
      go_simp
    simp only [Act.put, List.setIfInBounds_toArray, List.set_cons_zero, List.set_cons_succ]
    refine wpAnyH_take (i := 10) (oi := { dst := some 15, op := .fieldAddr 99 (.tmp 14) 2, type := _, pos := _, after := _, guard := none }) (v := .pointer (some ⟨g, 106, none⟩)) rfl (by kernel_rfl) (by kernel_rfl) (by kernel_rfl) (fun _ _ _ h => h) (Or.inl ⟨by rfl, ?_⟩) f5 ?_
    · intro w hSw
      go_simp
    simp only [Act.put, List.setIfInBounds_toArray, List.set_cons_zero, List.set_cons_succ]
    refine wpAnyH_ready (rs := [11]) (by kernel_rfl) (by simp) ?_
    refine AllReadyH.cons (o := { dst := none, op := .store 97 (.tmp 15) (.tmp 13), type := _, pos := _, after := _, guard := none }) rfl (fun K hK => ?_) AllReadyH.nil
    obtain ⟨va, vc, rfl⟩ : ∃ a c, v' = .slice a (S.length + 1) c := own_len (n := S.length + 1) (by rwa [List.length_append] at hown5)
    have k1 : w5.cell? ⟨g, 106, none⟩ = some v := by rw [hA5.cell]; exact hlast
    have k2 : w5.frozen? ⟨g, 106, none⟩ = false := hA5.frozen 106
    have hT6 := hT.put hp hA5 hown5
    have hB6 : But g w5 (w5.setCell ⟨g, 106, none⟩ (.slice va (S.length + 1) vc)) := (But.refl g w5).setCell 106 (.slice va (S.length + 1) vc)
    have f6 : (w5.setCell ⟨g, 106, none⟩ (.slice va (S.length + 1) vc)).cell? ⟨w.heap.size, 0, none⟩ = some (.int .u8 (t : Int)) := by rw [(hB6.at (hF5.at hBa hgw (by decide)) hgw).cell]; rfl
    go_simp
    refine hK.out _ _ f6 (fun _ => ?_)
    clear hK K
    refine wpAnyH_done (by kernel_rfl) ?_ _
    have hF6 : Fw A g w (w5.setCell ⟨g, 106, none⟩ (.slice va (S.length + 1) vc)) := (hFa.trans hF5).trans (Fw.of_but hB6)
    obtain ⟨w6, hw6⟩ : ∃ x, x = w5.setCell ⟨g, 106, none⟩ (.slice va (S.length + 1) vc) := ⟨_, rfl⟩
    rw [← hw6] at hT6 hF6 ⊢
    clear hw6 k1 k2 f5 f6 hB6 hA5 hF5 hgr5 hown5
    have q106 := hT6.head hp
    have q4 : w6.cell? ⟨g, 4, none⟩ = some (.int .i64 stk) := by rw [hT6.pre hp 4 (by decide)]; exact hstk
    have HT : Hid (Ty A w6 g pre (.slice va (S.length + 1) vc) (S ++ [t])) := hT6
    have HF : Hid (Fw A g w w6) := hF6
    clear hT6 hF6 hT hTa hA1 hb1 hbA hBa hFa hnew hlast hp hstk
    go_wp2_with fail
    go_quiet (fail)
    go_wp2
    go_ret
    exact ⟨_, rfl, (HT.out).below (below_drewN _ _), HF.out.trans (Fw.of_below (below_drewN _ _))⟩
  · skip
    rw [if_pos (by rfl)]
    go_simp
    obtain ⟨wa, hwa⟩ : ∃ x, x = (w1.alloc (.cells #[.int .u8 (t : Int)] 32)).drew := ⟨_, rfl⟩
    have hbA : Below w1.heap.size w1 wa := by rw [hwa]; exact Below.drew ((Below.refl _ _).alloc (Nat.le_refl _) _)
    have hnew : wa.cell? ⟨w1.heap.size, 0, none⟩ = some (tyC t) := by rw [hwa]; show (w1.alloc (.cells #[.int .u8 (t : Int)] 32)).cell? _ = _; rw [World.cell?_alloc_at _ _ _ _ rfl]; rfl
    have hTa := hT1.below hbA
    have hBa := hA1.below hbA
    have hFa : Fw A g w wa := (Fw.of_below hb1).trans (Fw.of_below hbA)
    have hAa : A ≤ wa.heap.size := by have := hbA.size; omega
    have fa : wa.cell? ⟨w.heap.size, 0, none⟩ = some (.int .u8 (t : Int)) := by rw [hBa.cell]; rfl
    rw [← hwa]
    clear hwa
    refine hK.out _ _ fa (fun _ => ?_)
    clear hK K
    try simp only [Act.put, List.setIfInBounds_toArray, List.set_cons_zero, List.set_cons_succ]
    refine wpAnyH_ready (rs := [4]) (by kernel_rfl) (by simp) ?_
    refine AllReadyH.cons (o := { dst := some 9, op := .load 97 (.tmp 8), type := _, pos := _, after := _, guard := none }) rfl (fun K hK => ?_) AllReadyH.nil
    rw [if_pos (by rfl)]
    have k0 : wa.cell? ⟨g, 106, none⟩ = some v := hTa.head hp
    go_simp
    refine hK.out _ _ fa (fun _ => ?_)
    clear hK K
    try simp only [Act.put, List.setIfInBounds_toArray, List.set_cons_zero, List.set_cons_succ]
    refine wpAnyH_ready (rs := [8]) (by kernel_rfl) (by simp) ?_
    refine AllReadyH.cons (o := { dst := some 13, op := .call { callee := .builtin .append, args := #[.tmp 9, .tmp 12], argTypes := #[97, 97] }, type := _, pos := _, after := _, guard := none }) rfl (fun K hK => ?_) AllReadyH.nil
    refine step_app32 (.tmp 9) (.tmp 12) A v S t w1.heap.size rfl rfl rfl rfl hTa.own hnew hlen hAa ?_
    intro v' w5 hown5 hgr5
    have hF5 : Fw A g wa w5 := Fw.grown hTa.own hgr5
    have hA5 : At 99 w5 g (pre ++ opsC ++ [v]) := by
      unfold At
      rw [hgr5.block g hTa.lt (fun e => hTa.ne e.symm)]
      exact hTa.cell
    have f5 : w5.cell? ⟨w.heap.size, 0, none⟩ = some (.int .u8 (t : Int)) := by rw [(hF5.at hBa hgw (by decide)).cell]; rfl
    refine hK.out _ _ f5 (fun _ => ?_)
    clear hK K
    refine wpAnyH_take (i := 9) (oi := { dst := some 14, op := .nilCheck (.tmp 5), type := _, pos := _, after := _, guard := none }) (v := .pointer (some ⟨g, 0, none⟩)) rfl (by kernel_rfl) (by kernel_rfl) (by kernel_rfl) (fun _ _ _ h => h) (Or.inl ⟨by rfl, ?_⟩) f5 ?_
    · intro w hSw
      go_simp
    simp only [Act.put, List.setIfInBounds_toArray, List.set_cons_zero, List.set_cons_succ]
    refine wpAnyH_take (i := 10) (oi := { dst := some 15, op := .fieldAddr 99 (.tmp 14) 2, type := _, pos := _, after := _, guard := none }) (v := .pointer (some ⟨g, 106, none⟩)) rfl (by kernel_rfl) (by kernel_rfl) (by kernel_rfl) (fun _ _ _ h => h) (Or.inl ⟨by rfl, ?_⟩) f5 ?_
    · intro w hSw
      go_simp
    simp only [Act.put, List.setIfInBounds_toArray, List.set_cons_zero, List.set_cons_succ]
    refine wpAnyH_ready (rs := [11]) (by kernel_rfl) (by simp) ?_
    refine AllReadyH.cons (o := { dst := none, op := .store 97 (.tmp 15) (.tmp 13), type := _, pos := _, after := _, guard := none }) rfl (fun K hK => ?_) AllReadyH.nil
    obtain ⟨va, vc, rfl⟩ : ∃ a c, v' = .slice a (S.length + 1) c := own_len (n := S.length + 1) (by rwa [List.length_append] at hown5)
    have k1 : w5.cell? ⟨g, 106, none⟩ = some v := by rw [hA5.cell]; exact hlast
    have k2 : w5.frozen? ⟨g, 106, none⟩ = false := hA5.frozen 106
    have hT6 := hT.put hp hA5 hown5
    have hB6 : But g w5 (w5.setCell ⟨g, 106, none⟩ (.slice va (S.length + 1) vc)) := (But.refl g w5).setCell 106 (.slice va (S.length + 1) vc)
    have f6 : (w5.setCell ⟨g, 106, none⟩ (.slice va (S.length + 1) vc)).cell? ⟨w.heap.size, 0, none⟩ = some (.int .u8 (t : Int)) := by rw [(hB6.at (hF5.at hBa hgw (by decide)) hgw).cell]; rfl
    go_simp
    refine hK.out _ _ f6 (fun _ => ?_)
    clear hK K
    refine wpAnyH_done (by kernel_rfl) ?_ _
    have hF6 : Fw A g w (w5.setCell ⟨g, 106, none⟩ (.slice va (S.length + 1) vc)) := (hFa.trans hF5).trans (Fw.of_but hB6)
    obtain ⟨w6, hw6⟩ : ∃ x, x = w5.setCell ⟨g, 106, none⟩ (.slice va (S.length + 1) vc) := ⟨_, rfl⟩
    rw [← hw6] at hT6 hF6 ⊢
    clear hw6 k1 k2 f5 f6 hB6 hA5 hF5 hgr5 hown5
    have q106 := hT6.head hp
    have q4 : w6.cell? ⟨g, 4, none⟩ = some (.int .i64 stk) := by rw [hT6.pre hp 4 (by decide)]; exact hstk
    have HT : Hid (Ty A w6 g pre (.slice va (S.length + 1) vc) (S ++ [t])) := hT6
    have HF : Hid (Fw A g w w6) := hF6
    clear hT6 hF6 hT hTa hA1 hb1 hbA hBa hFa hnew hlast hp hstk
    go_wp2_with fail
    go_quiet (fail)
    go_wp2
    go_ret
    exact ⟨_, rfl, (HT.out).below (below_drewN _ _), HF.out.trans (Fw.of_below (below_drewN _ _))⟩

end Go.Proofs.Ytefklmckkigllaa
