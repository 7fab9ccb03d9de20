/- Check: which is the first error of a code. -/
import Derived.Test.YtefklmckkigllaaCkP
namespace Go.Proofs.Ytefklmckkigllaa
open Go.RowKit
set_option linter.unusedVariables false

/-- Whether a node of a code does not fit. -/
def typeC (c : Cd) : Bool := !c.bodies.all (typeB c.shared)

theorem allTypes_any (B gc : Nat) (x : CT) (w : World) (hx : x.In B w) (hB : B ≤ w.heap.size) (hS : At 25 w gc x.cells) (hSh : ∀ v ∈ x.shared, mayV v = true) (hmB : ∀ y ∈ x.bodies, mayB x.shared.length x.mutexes y.bd = true) :
    Calls Try.prog 48 #[.slice x.a2 x.bodies.length x.c2, .func (.func 51) #[] #[.pointer (some ⟨gc, 0, none⟩)]] w fun e w' => e = .returned (.bool (x.bodies.all fun y => typeB x.shared y.bd)) ∧ Below w.heap.size w w' :=
  (all48_51 BT.cells BT.len3 BT.one (.pointer (some ⟨gc, 0, none⟩)) x.bodies x.a2 x.c2 hx.2.2.1 hx.2.2.2.1 w (fun _ y => typeB x.shared y.bd) (fun _ u => Below w.heap.size w u) (fun u => Below w.heap.size w u)
    (fun i u u' h1 h2 => h1.trans (h2.mono h1.size)) (fun i k u hk hu => RowG.see hx.2.2 hB i k u hk hu)
    (fun i k u hk hu => (typeBody_any B gc x k u (BT.In.old (RowG.all hx.2.2 k (List.mem_of_getElem? hk)) (Old.of_below hu hB)) (RowVl.old hx.1 (Old.of_below hu hB)) (by have := hu.size; omega) (hS.below hu) hSh (hmB k (List.mem_of_getElem? hk))).mono (by
      rintro e u' ⟨rfl, hb⟩
      exact ⟨rfl, fun _ => hu.trans (hb.mono hu.size), fun _ => hu.trans (hb.mono hu.size)⟩)) (Below.refl _ _)).mono fun e w' he => all_of he

theorem part_ok {x : CT} (h : partC x.cd = false) : (∀ v ∈ x.shared, mayV v = true) ∧ ∀ y ∈ x.bodies, mayB x.shared.length x.mutexes y.bd = true := by
  unfold partC at h
  rw [Bool.or_eq_false_iff, Bool.or_eq_false_iff] at h
  obtain ⟨_, h1, h2⟩ := h
  refine ⟨fun v hv => ?_, fun y hy => ?_⟩
  · have := List.all_eq_true.1 (by simpa using h1 : x.cd.shared.all mayV = true)
    exact this v hv
  · have := List.all_eq_true.1 (by simpa using h2 : x.cd.bodies.all (mayB x.cd.shared.length x.cd.mutexes) = true)
    exact this y.bd (List.mem_map_of_mem hy)

set_option maxRecDepth 100000 in
set_option maxHeartbeats 3200000 in
theorem wrongType_any (B : Nat) (x : CT) (w : World) (hx : x.In B w) (hB : B ≤ w.heap.size) (hp : partC x.cd = false) :
    Calls Try.prog 33 #[.agg x.cells.toArray] w fun e w' => e = .returned (.bool (typeC x.cd)) ∧ Below w.heap.size w w' := by
  have Q3 : Hid (∀ u g, Below w.heap.size w u → At 25 u g x.cells → Calls Try.prog 48 #[.slice x.a2 x.bodies.length x.c2, .func (.func 51) #[] #[.pointer (some ⟨g, 0, none⟩)]] u fun e w' => e = .returned (.bool (x.bodies.all fun y => typeB x.shared y.bd)) ∧ Below u.heap.size u w') := fun u g hu hA => allTypes_any B g x u (hx.old (Old.of_below hu hB)) (by have := hu.size; omega) hA (part_ok hp).1 (part_ok hp).2
  obtain ⟨a1, c1, shared, mu, a2, c2, bodies⟩ := x
  have e : typeC (CT.cd ⟨a1, c1, shared, mu, a2, c2, bodies⟩) = !bodies.all fun y => typeB shared y.bd := by
    unfold typeC CT.cd; simp only [List.all_map]; rfl
  rw [e]
  clear e hx hp
  simp only [CT.cells] at *
  generalize (bodies.all fun y => typeB shared y.bd) = b3 at *
  generalize shared.length = n1 at *
  generalize bodies.length = n2 at *
  go_enter Try.func33, Try.ntmps33
  go_wp2_with (first
    | ((with_reducible show wpList _ _ _ _ _ _); refine wpList_box_at rfl 25 (.tmp 0) rfl [.slice a1 n1 c1, .int .i64 mu, .slice a2 n2 c2] rfl ?_; intro w1 hA1 hb1 hs1; clear hs1; refine Hid.out ?_))
  refine hidU ?_
  have d2 : w1.cell? ⟨w.heap.size, 2, none⟩ = some (.slice a2 n2 c2) := by rw [hA1.cell]; rfl
  go_wp2_with (first
    | (go_at_call 48; refine (Q3.out _ _ hb1 hA1).mono ?_; rintro r w5 ⟨rfl, hb5⟩))
  go_ret
  exact ⟨rfl, hb1.trans (hb5.mono hb1.size)⟩

/-- Which is the first error of a code. -/
def checkC (c : Cd) : Nat := if longC c then 3 else if partC c then 2 else if typeC c then 9 else if touchC c then 190 else 0

set_option maxRecDepth 100000 in
set_option maxHeartbeats 3200000 in
theorem check_any (B : Nat) (x : CT) (w : World) (hx : x.In B w) (hB : B ≤ w.heap.size) :
    Calls Try.prog 14 #[.agg x.cells.toArray] w fun e w' => e = .returned (.int .i64 (checkC x.cd : Int)) ∧ Below w.heap.size w w' := by
  have Q1 : Hid (∀ u, Below w.heap.size w u → Calls Try.prog 31 #[.agg x.cells.toArray] u fun e w' => e = .returned (.bool (longC x.cd)) ∧ Below u.heap.size u w') := fun u hu => tooLong_any B x u (hx.old (Old.of_below hu hB)) (by have := hu.size; omega)
  have Q2 : Hid (∀ u, Below w.heap.size w u → Calls Try.prog 32 #[.agg x.cells.toArray] u fun e w' => e = .returned (.bool (partC x.cd)) ∧ Below u.heap.size u w') := fun u hu => wrongPart_any B x u (hx.old (Old.of_below hu hB)) (by have := hu.size; omega)
  have Q3 : Hid (∀ u, Below w.heap.size w u → partC x.cd = false → Calls Try.prog 33 #[.agg x.cells.toArray] u fun e w' => e = .returned (.bool (typeC x.cd)) ∧ Below u.heap.size u w') := fun u hu hp => wrongType_any B x u (hx.old (Old.of_below hu hB)) (by have := hu.size; omega) hp
  have Q4 : Hid (∀ u, Below w.heap.size w u → Calls Try.prog 34 #[.agg x.cells.toArray] u fun e w' => e = .returned (.bool (touchC x.cd)) ∧ Below u.heap.size u w') := fun u hu => touchesTwo_any B x u (hx.old (Old.of_below hu hB)) (by have := hu.size; omega)
  unfold checkC
  generalize longC x.cd = b1 at *
  generalize partC x.cd = b2 at *
  generalize typeC x.cd = b3 at *
  generalize touchC x.cd = b4 at *
  have hone := x.one
  have hlen : x.cells.length = 3 := rfl
  generalize x.cells = cs at *
  clear hx
  have hi : (Try.prog.info? 25).map (·.size) = some cs.length := by rw [hlen]; exact i25
  cases b1 with
  | true =>
    rw [if_pos rfl]
    go_enter Try.func14, Try.ntmps14
    go_wp2_with (first
      | ((with_reducible show wpList _ _ _ _ _ _); refine wpList_box_at rfl 25 (.tmp 0) rfl cs rfl ?_; intro w1 hA1 hb1 hs1; clear hs1; refine Hid.out ?_))
    refine hidU ?_
    go_wp2_with (first
      | ((with_reducible show wpList _ _ _ _ _ _); refine wpList_load_at (P := Try.prog) rfl 25 (.tmp 1) rfl w.heap.size rfl 25 cs hA1 _ Try.underlying25 rfl hi ?_)
      | (go_at_call 31; refine (Q1.out _ hb1).mono ?_; rintro r w2 ⟨rfl, hb2⟩))
    go_ret
    exact ⟨rfl, hb1.trans (hb2.mono hb1.size)⟩
  | false =>
    rw [if_neg (by decide)]
    cases b2 with
    | true =>
      rw [if_pos rfl]
      go_enter Try.func14, Try.ntmps14
      go_wp2_with (first
        | ((with_reducible show wpList _ _ _ _ _ _); refine wpList_box_at rfl 25 (.tmp 0) rfl cs rfl ?_; intro w1 hA1 hb1 hs1; clear hs1; refine Hid.out ?_))
      refine hidU ?_
      go_wp2_with (first
        | ((with_reducible show wpList _ _ _ _ _ _); refine wpList_load_at (P := Try.prog) rfl 25 (.tmp 1) rfl w.heap.size rfl 25 cs (by first | exact hA1 | exact hA2) _ Try.underlying25 rfl hi ?_)
        | (go_at_call 31; refine (Q1.out _ hb1).mono ?_; rintro r w2 ⟨rfl, hb2⟩; have hA2 := hA1.below hb2; have hb12 := hb1.trans (hb2.mono hb1.size); clear hA1 hb2)
        | (go_at_call 32; refine (Q2.out _ hb12).mono ?_; rintro r w3 ⟨rfl, hb3⟩))
      go_ret
      exact ⟨rfl, hb12.trans (hb3.mono hb12.size)⟩
    | false =>
      rw [if_neg (by decide)]
      have Q3b : Hid (∀ u, Below w.heap.size w u → Calls Try.prog 33 #[.agg cs.toArray] u fun e w' => e = .returned (.bool b3) ∧ Below u.heap.size u w') := fun u hu => Q3.out u hu rfl
      clear Q3
      cases b3 with
      | true =>
        rw [if_pos rfl]
        go_enter Try.func14, Try.ntmps14
        go_wp2_with (first
          | ((with_reducible show wpList _ _ _ _ _ _); refine wpList_box_at rfl 25 (.tmp 0) rfl cs rfl ?_; intro w1 hA1 hb1 hs1; clear hs1; refine Hid.out ?_))
        refine hidU ?_
        go_wp2_with (first
          | ((with_reducible show wpList _ _ _ _ _ _); refine wpList_load_at (P := Try.prog) rfl 25 (.tmp 1) rfl w.heap.size rfl 25 cs (by first | exact hA1 | exact hA2 | exact hA3) _ Try.underlying25 rfl hi ?_)
          | (go_at_call 31; refine (Q1.out _ hb1).mono ?_; rintro r w2 ⟨rfl, hb2⟩; have hA2 := hA1.below hb2; have hb12 := hb1.trans (hb2.mono hb1.size); clear hA1 hb2)
          | (go_at_call 32; refine (Q2.out _ hb12).mono ?_; rintro r w3 ⟨rfl, hb3⟩; have hA3 := hA2.below hb3; have hb13 := hb12.trans (hb3.mono hb12.size); clear hA2 hb3)
          | (go_at_call 33; refine (Q3b.out _ hb13).mono ?_; rintro r w4 ⟨rfl, hb4⟩))
        go_ret
        exact ⟨rfl, hb13.trans (hb4.mono hb13.size)⟩
      | false =>
        rw [if_neg (by decide)]
        cases b4 with
        | true =>
          rw [if_pos rfl]
          go_enter Try.func14, Try.ntmps14
          go_wp2_with (first
            | ((with_reducible show wpList _ _ _ _ _ _); refine wpList_box_at rfl 25 (.tmp 0) rfl cs rfl ?_; intro w1 hA1 hb1 hs1; clear hs1; refine Hid.out ?_))
          refine hidU ?_
          go_wp2_with (first
            | ((with_reducible show wpList _ _ _ _ _ _); refine wpList_load_at (P := Try.prog) rfl 25 (.tmp 1) rfl w.heap.size rfl 25 cs (by first | exact hA1 | exact hA2 | exact hA3 | exact hA4) _ Try.underlying25 rfl hi ?_)
            | (go_at_call 31; refine (Q1.out _ hb1).mono ?_; rintro r w2 ⟨rfl, hb2⟩; have hA2 := hA1.below hb2; have hb12 := hb1.trans (hb2.mono hb1.size); clear hA1 hb2)
            | (go_at_call 32; refine (Q2.out _ hb12).mono ?_; rintro r w3 ⟨rfl, hb3⟩; have hA3 := hA2.below hb3; have hb13 := hb12.trans (hb3.mono hb12.size); clear hA2 hb3)
            | (go_at_call 33; refine (Q3b.out _ hb13).mono ?_; rintro r w4 ⟨rfl, hb4⟩; have hA4 := hA3.below hb4; have hb14 := hb13.trans (hb4.mono hb13.size); clear hA3 hb4)
            | (go_at_call 34; refine (Q4.out _ hb14).mono ?_; rintro r w5 ⟨rfl, hb5⟩))
          go_ret
          exact ⟨rfl, hb14.trans (hb5.mono hb14.size)⟩
        | false =>
          rw [if_neg (by decide)]
          go_enter Try.func14, Try.ntmps14
          go_wp2_with (first
            | ((with_reducible show wpList _ _ _ _ _ _); refine wpList_box_at rfl 25 (.tmp 0) rfl cs rfl ?_; intro w1 hA1 hb1 hs1; clear hs1; refine Hid.out ?_))
          refine hidU ?_
          go_wp2_with (first
            | ((with_reducible show wpList _ _ _ _ _ _); refine wpList_load_at (P := Try.prog) rfl 25 (.tmp 1) rfl w.heap.size rfl 25 cs (by first | exact hA1 | exact hA2 | exact hA3 | exact hA4) _ Try.underlying25 rfl hi ?_)
            | (go_at_call 31; refine (Q1.out _ hb1).mono ?_; rintro r w2 ⟨rfl, hb2⟩; have hA2 := hA1.below hb2; have hb12 := hb1.trans (hb2.mono hb1.size); clear hA1 hb2)
            | (go_at_call 32; refine (Q2.out _ hb12).mono ?_; rintro r w3 ⟨rfl, hb3⟩; have hA3 := hA2.below hb3; have hb13 := hb12.trans (hb3.mono hb12.size); clear hA2 hb3)
            | (go_at_call 33; refine (Q3b.out _ hb13).mono ?_; rintro r w4 ⟨rfl, hb4⟩; have hA4 := hA3.below hb4; have hb14 := hb13.trans (hb4.mono hb13.size); clear hA3 hb4)
            | (go_at_call 34; refine (Q4.out _ hb14).mono ?_; rintro r w5 ⟨rfl, hb5⟩))
          go_ret
          exact ⟨rfl, hb14.trans (hb5.mono hb14.size)⟩
end Go.Proofs.Ytefklmckkigllaa
