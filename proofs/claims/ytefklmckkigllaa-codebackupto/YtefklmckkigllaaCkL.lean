/- An instruction works on the stack. -/
import Derived.Test.YtefklmckkigllaaCkK
namespace Go.Proofs.Ytefklmckkigllaa
open Go.RowKit
set_option linter.unusedVariables false

/-- A type is put on the stack. -/
def putT (stk : Int) (S : List Nat) (t : Nat) : List Nat × Bool := (S ++ [t], decide ((S.length : Int) + 1 ≤ stk))
/-- What an instruction does to the types, and whether it may. -/
def stepT (locals shared : List Vl) (stk : Int) (S : List Nat) (x : Ir) : List Nat × Bool :=
  if x.op = 1 then putT stk S x.v.t else if x.op = 30 then putT stk S (locals.getD x.arg.toNat ⟨0, 0⟩).t else if x.op = 31 then putT stk S (shared.getD x.arg.toNat ⟨0, 0⟩).t else operT x.op S

/-- A body in its code, the typer's head. -/
def pre6 (a1 : Option Addr) (ns c1 : Nat) (mu : Int) (s2 : Value) (a3 : Option Addr) (nl c3 : Nat) (stk : Int) (a4 : Option Addr) (nn c4 : Nat) : List Value := [.slice a1 ns c1, .int .i64 mu, s2, .slice a3 nl c3, .int .i64 stk, .slice a4 nn c4]

theorem isP_nat {z : Int} {n : Nat} (h : isP z n = true) : ∃ k : Nat, z = (k : Int) ∧ k < n := by
  unfold isP at h
  rw [Bool.and_eq_true, decide_eq_true_iff, decide_eq_true_iff] at h
  exact ⟨z.toNat, by omega, by omega⟩

set_option maxRecDepth 100000 in
set_option maxHeartbeats 6400000 in
theorem run_any (A g B : Nat) (a1 : Option Addr) (c1 : Nat) (mu : Int) (s2 : Value) (a3 : Option Addr) (c3 : Nat) (stk : Int) (a4 : Option Addr) (nn c4 : Nat) (shared locals : List Vl) (v : Value) (S : List Nat) (hS3 : ∀ t ∈ S, t ≤ 3) (x : Ir) (hx : x.Ok) (hm : mayI locals.length shared.length x = true) (w : World) (hT : Ty A w g (pre6 a1 shared.length c1 mu s2 a3 locals.length c3 stk a4 nn c4) v S) (hlen : S.length ≤ 1048576) (hAw : A ≤ w.heap.size)
    (hBA : B ≤ A) (hR1 : RowVl B w a1 c1 shared) (hR3 : RowVl B w a3 c3 locals) :
    Calls Try.prog 71 #[.pointer (some ⟨g, 0, none⟩), .agg x.cells.toArray] w fun e w' => ∃ v', e = .returned (.bool (stepT locals shared stk S x).2) ∧ Ty A w' g (pre6 a1 shared.length c1 mu s2 a3 locals.length c3 stk a4 nn c4) v' (stepT locals shared stk S x).1 ∧ Fw A g w w' := by
  obtain ⟨op, arg, ⟨t, b⟩⟩ := x
  obtain ⟨ho, ha, hv⟩ := hx
  dsimp only at ho ha
  have hgw : w.heap.size ≠ g := by have := hT.lt; omega
  have hp : (pre6 a1 shared.length c1 mu s2 a3 locals.length c3 stk a4 nn c4).length = 6 := rfl
  have hstk : (pre6 a1 shared.length c1 mu s2 a3 locals.length c3 stk a4 nn c4)[4]? = some (.int .i64 stk) := rfl
  have h0p : (pre6 a1 shared.length c1 mu s2 a3 locals.length c3 stk a4 nn c4)[0]? = some (.slice a1 shared.length c1) := rfl
  have h3p : (pre6 a1 shared.length c1 mu s2 a3 locals.length c3 stk a4 nn c4)[3]? = some (.slice a3 locals.length c3) := rfl
  have hl1 := hR1.1
  have hl3 := hR3.1
  have HT : Hid (Ty A w g (pre6 a1 shared.length c1 mu s2 a3 locals.length c3 stk a4 nn c4) v S) := hT
  unfold stepT
  simp only [Ir.cells]
  have hPut : ∀ (y : Vl), y.Ok → ∀ u v', Ty A u g (pre6 a1 shared.length c1 mu s2 a3 locals.length c3 stk a4 nn c4) v' S → A ≤ u.heap.size → Calls Try.prog 85 #[.pointer (some ⟨g, 0, none⟩), .agg y.cells.toArray] u fun e w' => ∃ v', e = .returned (.bool (putT stk S y.t).2) ∧ Ty A w' g (pre6 a1 shared.length c1 mu s2 a3 locals.length c3 stk a4 nn c4) v' (putT stk S y.t).1 ∧ Fw A g u w' := fun y hy u v' hu hA => put_any A g _ hp stk hstk v' S y hy u hu hlen hA
  have HP : Hid _ := hPut
  clear hPut hstk
  by_cases h1 : op = 1
  · rw [if_pos h1]
    have h1' : ((op : Int) == 1) = true := by rw [beq_iff_eq]; omega
    have hC : Hid (∀ u v', Ty A u g (pre6 a1 shared.length c1 mu s2 a3 locals.length c3 stk a4 nn c4) v' S → A ≤ u.heap.size → Calls Try.prog 85 #[.pointer (some ⟨g, 0, none⟩), .agg #[.int .u8 (t : Int), .int .u64 (b : Int)]] u fun e w' => ∃ v', e = .returned (.bool (putT stk S t).2) ∧ Ty A w' g (pre6 a1 shared.length c1 mu s2 a3 locals.length c3 stk a4 nn c4) v' (putT stk S t).1 ∧ Fw A g u w') := fun u v' hu hA => HP.out ⟨t, b⟩ hv u v' hu hA
    generalize putT stk S t = Z at *
    clear h1 hm HP hR1 hR3 hT hS3 hv
    generalize (pre6 a1 shared.length c1 mu s2 a3 locals.length c3 stk a4 nn c4) = pre at *
    go_enter Try.func71, Try.ntmps71
    go_wp2_with (first
      | ((with_reducible show wpList _ _ _ _ _ _); refine wpList_box_at rfl 37 (.tmp 1) rfl [.int .u8 (op : Int), .int .i64 arg, .int .u8 (t : Int), .int .u64 (b : Int)] rfl ?_; intro w1 hA1 hb1 hs1; clear hs1; refine Hid.out ?_))
    refine hidU ?_
    have c0 : w1.cell? ⟨w.heap.size, 0, none⟩ = some (.int .u8 (op : Int)) := by rw [hA1.cell]; rfl
    have c2 : w1.cell? ⟨w.heap.size, 2, none⟩ = some (.int .u8 (t : Int)) := by rw [hA1.cell]; rfl
    have c3 : w1.cell? ⟨w.heap.size, 3, none⟩ = some (.int .u64 (b : Int)) := by rw [hA1.cell]; rfl
    have hT1 := HT.out.below hb1
    have hs1 := hb1.size
    clear hA1 HT
    go_wp2_with (first
      | (go_at_call 85; refine (hC.out _ _ hT1 (by omega)).mono ?_; rintro _ w2 ⟨v2, rfl, hT2, hF2⟩; refine Hid.out ?_))
    refine hidU ?_
    have HT2 : Hid (Ty A w2 g pre v2 Z.1) := hT2
    have HF2 : Hid (Fw A g w w2) := (Fw.of_below hb1).trans hF2
    clear hT2 hF2 c0 c2 c3
    go_wp2
    go_ret
    exact ⟨_, rfl, HT2.out, HF2.out⟩
  · rw [if_neg h1]
    have h1' : ((op : Int) == 1) = false := by rw [beq_eq_false_iff_ne]; omega
    by_cases h2 : op = 30
    · rw [if_pos h2]
      unfold mayI at hm
      rw [if_neg h1, if_pos h2] at hm
      have h2' : ((op : Int) == 30) = true := by rw [beq_iff_eq]; omega
      clear h1 h2
      obtain ⟨k, rfl, hkn⟩ := isP_nat (n := locals.length) (Bool.and_eq_true_iff.1 hm).1
      obtain ⟨y, hy⟩ : ∃ y, locals[k]? = some y := ⟨locals[k]'hkn, List.getElem?_eq_getElem hkn⟩
      have hyd : locals.getD (k : Int).toNat ⟨0, 0⟩ = y := by rw [Int.toNat_natCast, List.getD, hy]; rfl
      rw [hyd]
      obtain ⟨gr, oo, rfl, hgr, hrr, hyo⟩ := hR3.at k y hy
      obtain ⟨yt, yb⟩ := y
      have HR : Hid (w.rangeAt gr (oo + k * 2) (Vl.cells ⟨yt, yb⟩)) := hrr
      have hC : Hid (∀ u v', Ty A u g (pre6 a1 shared.length c1 mu s2 (some ⟨gr, oo, none⟩) locals.length c3 stk a4 nn c4) v' S → A ≤ u.heap.size → Calls Try.prog 85 #[.pointer (some ⟨g, 0, none⟩), .agg #[.int .u8 (yt : Int), .int .u64 (yb : Int)]] u fun e w' => ∃ v', e = .returned (.bool (putT stk S yt).2) ∧ Ty A w' g (pre6 a1 shared.length c1 mu s2 (some ⟨gr, oo, none⟩) locals.length c3 stk a4 nn c4) v' (putT stk S yt).1 ∧ Fw A g u w') := fun u v' hu hA => HP.out ⟨yt, yb⟩ hyo u v' hu hA
      dsimp only
      generalize putT stk S yt = Z at *
      have hhd := h3p
      have hln := hl3
      have hk2 := hkn
      clear hm HP hR1 hR3 hT hS3 hv hy hyd hrr hyo h0p h3p hl1 hl3 hkn
      generalize (pre6 a1 shared.length c1 mu s2 (some ⟨gr, oo, none⟩) locals.length c3 stk a4 nn c4) = pre at *
      generalize locals.length = nr at *
      generalize hcre : c3 = cr at *
      clear hcre
      go_enter Try.func71, Try.ntmps71
      go_wp2_with (first
        | ((with_reducible show wpList _ _ _ _ _ _); refine wpList_box_at rfl 37 (.tmp 1) rfl [.int .u8 (op : Int), .int .i64 (k : Int), .int .u8 (t : Int), .int .u64 (b : Int)] rfl ?_; intro w1 hA1 hb1 hs1; clear hs1; refine Hid.out ?_))
      refine hidU ?_
      have d0 : w1.cell? ⟨w.heap.size, 0, none⟩ = some (.int .u8 (op : Int)) := by rw [hA1.cell]; rfl
      have hT1 := HT.out.below hb1
      have hs1 := hb1.size
      clear HT
      have HY : Hid (∀ u, Fw A g w1 u → u.cell? ⟨gr, oo + k * 2, none⟩ = some (.int .u8 (yt : Int)) ∧ u.cell? ⟨gr, oo + k * 2 + 1, none⟩ = some (.int .u64 (yb : Int))) := fun u hu => by
        have hO := (Old.of_below hb1 hAw).trans (hu.old hT1.low (by omega) (Nat.le_refl _))
        have := hO.range (by omega) HR.out
        exact ⟨this 0 _ rfl, this 1 _ rfl⟩
      go_wp2_with fail
      have hS0 : (∃ v2 S2, Ty A w1.drew g pre v2 S2) ∧ Fw A g w1 w1.drew := ⟨⟨_, _, hT1.below (Below.drew (Below.refl _ _))⟩, Fw.of_below (Below.drew (Below.refl _ _))⟩
      refine wp_region_held_drew (S := fun x => (∃ v2 S2, Ty A x g pre v2 S2) ∧ Fw A g w1 x) (by kernel_rfl) hS0 (fun _ => ?_)
      refine wpAnyH_take (i := 0) (oi := { dst := some 15, op := .move (.tmp 0), type := _, pos := _, after := _, guard := none }) (v := .pointer (some ⟨g, 0, none⟩)) rfl (by kernel_rfl) (by kernel_rfl) (by kernel_rfl) (fun _ _ _ h => h) (Or.inl ⟨by rfl, ?_⟩) hS0 ?_
      · intro wS hSw
        go_simp
      simp only [Act.put, List.setIfInBounds_toArray, List.set_cons_zero, List.set_cons_succ]
      refine wpAnyH_take (i := 1) (oi := { dst := some 16, op := .move (.tmp 0), type := _, pos := _, after := _, guard := none }) (v := .pointer (some ⟨g, 0, none⟩)) rfl (by kernel_rfl) (by kernel_rfl) (by kernel_rfl) (fun _ _ _ h => h) (Or.inl ⟨by rfl, ?_⟩) hS0 ?_
      · intro wS hSw
        go_simp
      simp only [Act.put, List.setIfInBounds_toArray, List.set_cons_zero, List.set_cons_succ]
      refine wpAnyH_take (i := 2) (oi := { dst := some 17, op := .nilCheck (.tmp 16), type := _, pos := _, after := _, guard := none }) (v := .pointer (some ⟨g, 0, none⟩)) rfl (by kernel_rfl) (by kernel_rfl) (by kernel_rfl) (fun _ _ _ h => h) (Or.inl ⟨by rfl, ?_⟩) hS0 ?_
      · intro wS hSw
        go_simp
      simp only [Act.put, List.setIfInBounds_toArray, List.set_cons_zero, List.set_cons_succ]
      refine wpAnyH_take (i := 3) (oi := { dst := some 18, op := .fieldAddr 99 (.tmp 17) 0, type := _, pos := _, after := _, guard := none }) (v := .pointer (some ⟨g, 0, none⟩)) rfl (by kernel_rfl) (by kernel_rfl) (by kernel_rfl) (fun _ _ _ h => h) (Or.inl ⟨by rfl, ?_⟩) hS0 ?_
      · intro wS hSw
        go_simp
      simp only [Act.put, List.setIfInBounds_toArray, List.set_cons_zero, List.set_cons_succ]
      refine wpAnyH_take (i := 4) (oi := { dst := some 19, op := .fieldAddr 89 (.tmp 18) 1, type := _, pos := _, after := _, guard := none }) (v := .pointer (some ⟨g, 3, none⟩)) rfl (by kernel_rfl) (by kernel_rfl) (by kernel_rfl) (fun _ _ _ h => h) (Or.inl ⟨by rfl, ?_⟩) hS0 ?_
      · intro wS hSw
        go_simp
      simp only [Act.put, List.setIfInBounds_toArray, List.set_cons_zero, List.set_cons_succ]
      refine wpAnyH_take (i := 5) (oi := { dst := some 20, op := .fieldAddr 45 (.tmp 19) 0, type := _, pos := _, after := _, guard := none }) (v := .pointer (some ⟨g, 3, none⟩)) rfl (by kernel_rfl) (by kernel_rfl) (by kernel_rfl) (fun _ _ _ h => h) (Or.inl ⟨by rfl, ?_⟩) hS0 ?_
      · intro wS hSw
        go_simp
      simp only [Act.put, List.setIfInBounds_toArray, List.set_cons_zero, List.set_cons_succ]
      refine wpAnyH_take (i := 6) (oi := { dst := some 21, op := .load 22 (.tmp 20), type := _, pos := _, after := _, guard := none }) (v := .slice (some ⟨gr, oo, none⟩) nr cr) rfl (by kernel_rfl) (by kernel_rfl) (by kernel_rfl) (fun _ _ _ h => h) (Or.inl ⟨by rfl, ?_⟩) hS0 ?_
      · intro wS hSw
        have z0 := (show wS.cell? ⟨g, 3, none⟩ = some (.slice (some ⟨gr, oo, none⟩) nr cr) by obtain ⟨⟨v9, S9, h9⟩, _⟩ := hSw; rw [h9.pre hp 3 (by decide)]; exact hhd)
        go_simp
      simp only [Act.put, List.setIfInBounds_toArray, List.set_cons_zero, List.set_cons_succ]
      refine wpAnyH_take (i := 7) (oi := { dst := some 22, op := .fieldAddr 37 (.tmp 3) 1, type := _, pos := _, after := _, guard := none }) (v := .pointer (some ⟨w.heap.size, 1, none⟩)) rfl (by kernel_rfl) (by kernel_rfl) (by kernel_rfl) (fun _ _ _ h => h) (Or.inl ⟨by rfl, ?_⟩) hS0 ?_
      · intro wS hSw
        go_simp
      simp only [Act.put, List.setIfInBounds_toArray, List.set_cons_zero, List.set_cons_succ]
      refine wpAnyH_take (i := 8) (oi := { dst := some 23, op := .load 3 (.tmp 22), type := _, pos := _, after := _, guard := none }) (v := .int .i64 (k : Int)) rfl (by kernel_rfl) (by kernel_rfl) (by kernel_rfl) (fun _ _ _ h => h) (Or.inl ⟨by rfl, ?_⟩) hS0 ?_
      · intro wS hSw
        have z0 := (show wS.cell? ⟨w.heap.size, 1, none⟩ = some (.int .i64 (k : Int)) by rw [(hSw.2.at hA1 hgw (by decide)).cell]; rfl)
        go_simp
      simp only [Act.put, List.setIfInBounds_toArray, List.set_cons_zero, List.set_cons_succ]
      refine wpAnyH_take (i := 9) (oi := { dst := some 24, op := .indexAddr 22 (.tmp 21) (.tmp 23), type := _, pos := _, after := _, guard := none }) (v := .pointer (some ⟨gr, oo + k * 2, none⟩)) rfl (by kernel_rfl) (by kernel_rfl) (by kernel_rfl) (fun _ _ _ h => h) (Or.inl ⟨by rfl, ?_⟩) hS0 ?_
      · intro wS hSw
        go_simp
      simp only [Act.put, List.setIfInBounds_toArray, List.set_cons_zero, List.set_cons_succ]
      refine wpAnyH_take (i := 10) (oi := { dst := some 25, op := .load 35 (.tmp 24), type := _, pos := _, after := _, guard := none }) (v := .agg #[.int .u8 (yt : Int), .int .u64 (yb : Int)]) rfl (by kernel_rfl) (by kernel_rfl) (by kernel_rfl) (fun _ _ _ h => h) (Or.inl ⟨by rfl, ?_⟩) hS0 ?_
      · intro wS hSw
        have z0 := (HY.out wS hSw.2).1
        have z1 := (HY.out wS hSw.2).2
        go_simp
      simp only [Act.put, List.setIfInBounds_toArray, List.set_cons_zero, List.set_cons_succ]
      refine wpAnyH_ready (rs := [11]) (by kernel_rfl) (by simp) ?_
      refine AllReadyH.cons (o := { dst := some 26, op := .call { callee := .value (.func 85), args := #[.tmp 15, .tmp 25], argTypes := #[90, 35] }, type := _, pos := _, after := _, guard := none }) rfl (fun K hK => ?_) AllReadyH.nil
      rw [if_pos (by rfl)]
      go_wp2_with (go_at_call 85; refine (hC.out _ _ (hT1.below (Below.drew (Below.refl _ _))) (show A ≤ w1.heap.size by omega)).mono ?_; rintro e x1 ⟨v4, rfl, hT4, hF4⟩)
      have hS1 := (⟨⟨_, _, hT4⟩, hS0.2.trans hF4⟩ : (∃ v2 S2, Ty A x1 g pre v2 S2) ∧ Fw A g w1 x1)
      refine hK.out _ _ hS1 (fun _ => ?_)
      clear hK K
      refine wpAnyH_take (i := 12) (oi := { dst := some 4, op := .assign (.tmp 26), type := _, pos := _, after := _, guard := none }) (v := .bool (Z.2)) rfl (by kernel_rfl) (by kernel_rfl) (by kernel_rfl) (fun _ _ _ h => h) (Or.inl ⟨by rfl, ?_⟩) hS1 ?_
      · intro wS hSw
        go_simp
      simp only [Act.put, List.setIfInBounds_toArray, List.set_cons_zero, List.set_cons_succ]
      refine wpAnyH_done (by kernel_rfl) ?_ _
      have HT2 : Hid (Ty A x1 g pre v4 Z.1) := hT4
      have HF2 : Hid (Fw A g w x1) := (Fw.of_below hb1).trans hS1.2
      clear hT4 hF4 hS1 hS0 HY HR
      go_wp2
      go_ret
      exact ⟨_, rfl, HT2.out, HF2.out⟩
    · rw [if_neg h2]
      have h2' : ((op : Int) == 30) = false := by rw [beq_eq_false_iff_ne]; omega
      by_cases h3 : op = 31
      · rw [if_pos h3]
        unfold mayI at hm
        rw [if_neg h1, if_neg h2, if_pos h3] at hm
        have h3' : ((op : Int) == 31) = true := by rw [beq_iff_eq]; omega
        clear h1 h2 h3
        obtain ⟨k, rfl, hkn⟩ := isP_nat (n := shared.length) (Bool.and_eq_true_iff.1 hm).1
        obtain ⟨y, hy⟩ : ∃ y, shared[k]? = some y := ⟨shared[k]'hkn, List.getElem?_eq_getElem hkn⟩
        have hyd : shared.getD (k : Int).toNat ⟨0, 0⟩ = y := by rw [Int.toNat_natCast, List.getD, hy]; rfl
        rw [hyd]
        obtain ⟨gr, oo, rfl, hgr, hrr, hyo⟩ := hR1.at k y hy
        obtain ⟨yt, yb⟩ := y
        have HR : Hid (w.rangeAt gr (oo + k * 2) (Vl.cells ⟨yt, yb⟩)) := hrr
        have hC : Hid (∀ u v', Ty A u g (pre6 (some ⟨gr, oo, none⟩) shared.length c1 mu s2 a3 locals.length c3 stk a4 nn c4) v' S → A ≤ u.heap.size → Calls Try.prog 85 #[.pointer (some ⟨g, 0, none⟩), .agg #[.int .u8 (yt : Int), .int .u64 (yb : Int)]] u fun e w' => ∃ v', e = .returned (.bool (putT stk S yt).2) ∧ Ty A w' g (pre6 (some ⟨gr, oo, none⟩) shared.length c1 mu s2 a3 locals.length c3 stk a4 nn c4) v' (putT stk S yt).1 ∧ Fw A g u w') := fun u v' hu hA => HP.out ⟨yt, yb⟩ hyo u v' hu hA
        dsimp only
        generalize putT stk S yt = Z at *
        have hhd := h0p
        have hln := hl1
        have hk2 := hkn
        clear hm HP hR1 hR3 hT hS3 hv hy hyd hrr hyo h0p h3p hl1 hl3 hkn
        generalize (pre6 (some ⟨gr, oo, none⟩) shared.length c1 mu s2 a3 locals.length c3 stk a4 nn c4) = pre at *
        generalize shared.length = nr at *
        generalize hcre : c1 = cr at *
        clear hcre
        go_enter Try.func71, Try.ntmps71
        go_wp2_with (first
          | ((with_reducible show wpList _ _ _ _ _ _); refine wpList_box_at rfl 37 (.tmp 1) rfl [.int .u8 (op : Int), .int .i64 (k : Int), .int .u8 (t : Int), .int .u64 (b : Int)] rfl ?_; intro w1 hA1 hb1 hs1; clear hs1; refine Hid.out ?_))
        refine hidU ?_
        have d0 : w1.cell? ⟨w.heap.size, 0, none⟩ = some (.int .u8 (op : Int)) := by rw [hA1.cell]; rfl
        have hT1 := HT.out.below hb1
        have hs1 := hb1.size
        clear HT
        have HY : Hid (∀ u, Fw A g w1 u → u.cell? ⟨gr, oo + k * 2, none⟩ = some (.int .u8 (yt : Int)) ∧ u.cell? ⟨gr, oo + k * 2 + 1, none⟩ = some (.int .u64 (yb : Int))) := fun u hu => by
          have hO := (Old.of_below hb1 hAw).trans (hu.old hT1.low (by omega) (Nat.le_refl _))
          have := hO.range (by omega) HR.out
          exact ⟨this 0 _ rfl, this 1 _ rfl⟩
        go_wp2_with fail
        have hS0 : (∃ v2 S2, Ty A w1.drew g pre v2 S2) ∧ Fw A g w1 w1.drew := ⟨⟨_, _, hT1.below (Below.drew (Below.refl _ _))⟩, Fw.of_below (Below.drew (Below.refl _ _))⟩
        refine wp_region_held_drew (S := fun x => (∃ v2 S2, Ty A x g pre v2 S2) ∧ Fw A g w1 x) (by kernel_rfl) hS0 (fun _ => ?_)
        refine wpAnyH_take (i := 0) (oi := { dst := some 29, op := .move (.tmp 0), type := _, pos := _, after := _, guard := none }) (v := .pointer (some ⟨g, 0, none⟩)) rfl (by kernel_rfl) (by kernel_rfl) (by kernel_rfl) (fun _ _ _ h => h) (Or.inl ⟨by rfl, ?_⟩) hS0 ?_
        · intro wS hSw
          go_simp
        simp only [Act.put, List.setIfInBounds_toArray, List.set_cons_zero, List.set_cons_succ]
        refine wpAnyH_take (i := 1) (oi := { dst := some 30, op := .move (.tmp 0), type := _, pos := _, after := _, guard := none }) (v := .pointer (some ⟨g, 0, none⟩)) rfl (by kernel_rfl) (by kernel_rfl) (by kernel_rfl) (fun _ _ _ h => h) (Or.inl ⟨by rfl, ?_⟩) hS0 ?_
        · intro wS hSw
          go_simp
        simp only [Act.put, List.setIfInBounds_toArray, List.set_cons_zero, List.set_cons_succ]
        refine wpAnyH_take (i := 2) (oi := { dst := some 31, op := .nilCheck (.tmp 30), type := _, pos := _, after := _, guard := none }) (v := .pointer (some ⟨g, 0, none⟩)) rfl (by kernel_rfl) (by kernel_rfl) (by kernel_rfl) (fun _ _ _ h => h) (Or.inl ⟨by rfl, ?_⟩) hS0 ?_
        · intro wS hSw
          go_simp
        simp only [Act.put, List.setIfInBounds_toArray, List.set_cons_zero, List.set_cons_succ]
        refine wpAnyH_take (i := 3) (oi := { dst := some 32, op := .fieldAddr 99 (.tmp 31) 0, type := _, pos := _, after := _, guard := none }) (v := .pointer (some ⟨g, 0, none⟩)) rfl (by kernel_rfl) (by kernel_rfl) (by kernel_rfl) (fun _ _ _ h => h) (Or.inl ⟨by rfl, ?_⟩) hS0 ?_
        · intro wS hSw
          go_simp
        simp only [Act.put, List.setIfInBounds_toArray, List.set_cons_zero, List.set_cons_succ]
        refine wpAnyH_take (i := 4) (oi := { dst := some 33, op := .fieldAddr 89 (.tmp 32) 0, type := _, pos := _, after := _, guard := none }) (v := .pointer (some ⟨g, 0, none⟩)) rfl (by kernel_rfl) (by kernel_rfl) (by kernel_rfl) (fun _ _ _ h => h) (Or.inl ⟨by rfl, ?_⟩) hS0 ?_
        · intro wS hSw
          go_simp
        simp only [Act.put, List.setIfInBounds_toArray, List.set_cons_zero, List.set_cons_succ]
        refine wpAnyH_take (i := 5) (oi := { dst := some 34, op := .fieldAddr 25 (.tmp 33) 0, type := _, pos := _, after := _, guard := none }) (v := .pointer (some ⟨g, 0, none⟩)) rfl (by kernel_rfl) (by kernel_rfl) (by kernel_rfl) (fun _ _ _ h => h) (Or.inl ⟨by rfl, ?_⟩) hS0 ?_
        · intro wS hSw
          go_simp
        simp only [Act.put, List.setIfInBounds_toArray, List.set_cons_zero, List.set_cons_succ]
        refine wpAnyH_take (i := 6) (oi := { dst := some 35, op := .load 22 (.tmp 34), type := _, pos := _, after := _, guard := none }) (v := .slice (some ⟨gr, oo, none⟩) nr cr) rfl (by kernel_rfl) (by kernel_rfl) (by kernel_rfl) (fun _ _ _ h => h) (Or.inl ⟨by rfl, ?_⟩) hS0 ?_
        · intro wS hSw
          have z0 := (show wS.cell? ⟨g, 0, none⟩ = some (.slice (some ⟨gr, oo, none⟩) nr cr) by obtain ⟨⟨v9, S9, h9⟩, _⟩ := hSw; rw [h9.pre hp 0 (by decide)]; exact hhd)
          go_simp
        simp only [Act.put, List.setIfInBounds_toArray, List.set_cons_zero, List.set_cons_succ]
        refine wpAnyH_take (i := 7) (oi := { dst := some 36, op := .fieldAddr 37 (.tmp 3) 1, type := _, pos := _, after := _, guard := none }) (v := .pointer (some ⟨w.heap.size, 1, none⟩)) rfl (by kernel_rfl) (by kernel_rfl) (by kernel_rfl) (fun _ _ _ h => h) (Or.inl ⟨by rfl, ?_⟩) hS0 ?_
        · intro wS hSw
          go_simp
        simp only [Act.put, List.setIfInBounds_toArray, List.set_cons_zero, List.set_cons_succ]
        refine wpAnyH_take (i := 8) (oi := { dst := some 37, op := .load 3 (.tmp 36), type := _, pos := _, after := _, guard := none }) (v := .int .i64 (k : Int)) rfl (by kernel_rfl) (by kernel_rfl) (by kernel_rfl) (fun _ _ _ h => h) (Or.inl ⟨by rfl, ?_⟩) hS0 ?_
        · intro wS hSw
          have z0 := (show wS.cell? ⟨w.heap.size, 1, none⟩ = some (.int .i64 (k : Int)) by rw [(hSw.2.at hA1 hgw (by decide)).cell]; rfl)
          go_simp
        simp only [Act.put, List.setIfInBounds_toArray, List.set_cons_zero, List.set_cons_succ]
        refine wpAnyH_take (i := 9) (oi := { dst := some 38, op := .indexAddr 22 (.tmp 35) (.tmp 37), type := _, pos := _, after := _, guard := none }) (v := .pointer (some ⟨gr, oo + k * 2, none⟩)) rfl (by kernel_rfl) (by kernel_rfl) (by kernel_rfl) (fun _ _ _ h => h) (Or.inl ⟨by rfl, ?_⟩) hS0 ?_
        · intro wS hSw
          go_simp
        simp only [Act.put, List.setIfInBounds_toArray, List.set_cons_zero, List.set_cons_succ]
        refine wpAnyH_take (i := 10) (oi := { dst := some 39, op := .load 35 (.tmp 38), type := _, pos := _, after := _, guard := none }) (v := .agg #[.int .u8 (yt : Int), .int .u64 (yb : Int)]) rfl (by kernel_rfl) (by kernel_rfl) (by kernel_rfl) (fun _ _ _ h => h) (Or.inl ⟨by rfl, ?_⟩) hS0 ?_
        · intro wS hSw
          have z0 := (HY.out wS hSw.2).1
          have z1 := (HY.out wS hSw.2).2
          go_simp
        simp only [Act.put, List.setIfInBounds_toArray, List.set_cons_zero, List.set_cons_succ]
        refine wpAnyH_ready (rs := [11]) (by kernel_rfl) (by simp) ?_
        refine AllReadyH.cons (o := { dst := some 40, op := .call { callee := .value (.func 85), args := #[.tmp 29, .tmp 39], argTypes := #[90, 35] }, type := _, pos := _, after := _, guard := none }) rfl (fun K hK => ?_) AllReadyH.nil
        rw [if_pos (by rfl)]
        go_wp2_with (go_at_call 85; refine (hC.out _ _ (hT1.below (Below.drew (Below.refl _ _))) (show A ≤ w1.heap.size by omega)).mono ?_; rintro e x1 ⟨v4, rfl, hT4, hF4⟩)
        have hS1 := (⟨⟨_, _, hT4⟩, hS0.2.trans hF4⟩ : (∃ v2 S2, Ty A x1 g pre v2 S2) ∧ Fw A g w1 x1)
        refine hK.out _ _ hS1 (fun _ => ?_)
        clear hK K
        refine wpAnyH_take (i := 12) (oi := { dst := some 4, op := .assign (.tmp 40), type := _, pos := _, after := _, guard := none }) (v := .bool (Z.2)) rfl (by kernel_rfl) (by kernel_rfl) (by kernel_rfl) (fun _ _ _ h => h) (Or.inl ⟨by rfl, ?_⟩) hS1 ?_
        · intro wS hSw
          go_simp
        simp only [Act.put, List.setIfInBounds_toArray, List.set_cons_zero, List.set_cons_succ]
        refine wpAnyH_done (by kernel_rfl) ?_ _
        have HT2 : Hid (Ty A x1 g pre v4 Z.1) := hT4
        have HF2 : Hid (Fw A g w x1) := (Fw.of_below hb1).trans hS1.2
        clear hT4 hF4 hS1 hS0 HY HR
        go_wp2
        go_ret
        exact ⟨_, rfl, HT2.out, HF2.out⟩
      · rw [if_neg h3]
        unfold mayI at hm
        rw [if_neg h1, if_neg h2, if_neg h3] at hm
        have h3' : ((op : Int) == 31) = false := by rw [beq_eq_false_iff_ne]; omega
        rw [Bool.and_eq_true, Bool.and_eq_true, decide_eq_true_iff, decide_eq_true_iff] at hm
        have ho3 : 3 ≤ op := hm.1
        have ho19 : op ≤ 19 := hm.2.1
        clear h1 h2 h3 hm
        have hC : Hid (∀ u v', Ty A u g (pre6 a1 shared.length c1 mu s2 a3 locals.length c3 stk a4 nn c4) v' S → A ≤ u.heap.size → Calls Try.prog 86 #[.pointer (some ⟨g, 0, none⟩), .agg #[.int .i64 (opersOf op : Int), .int .u8 (makesOf op 0 : Int), .int .u8 (makesOf op 1 : Int), .int .u8 (makesOf op 2 : Int), .int .u8 (makesOf op 3 : Int)]] u fun e w' => ∃ v', e = .returned (.bool (operT op S).2) ∧ Ty A w' g (pre6 a1 shared.length c1 mu s2 a3 locals.length c3 stk a4 nn c4) v' (operT op S).1 ∧ Fw A g u w') := fun u v' hu hA => operate_any A g _ hp v' S hS3 op ho3 (by omega) u hu hlen hA
        have HO : Hid (∀ u, (∃ v2 S2, Ty A u g (pre6 a1 shared.length c1 mu s2 a3 locals.length c3 stk a4 nn c4) v2 S2) → u.cell? ⟨g, 6 + op * 5, none⟩ = some (.int .i64 (opersOf op : Int)) ∧ u.cell? ⟨g, 6 + op * 5 + 1, none⟩ = some (.int .u8 (makesOf op 0 : Int)) ∧ u.cell? ⟨g, 6 + op * 5 + 2, none⟩ = some (.int .u8 (makesOf op 1 : Int)) ∧ u.cell? ⟨g, 6 + op * 5 + 3, none⟩ = some (.int .u8 (makesOf op 2 : Int)) ∧ u.cell? ⟨g, 6 + op * 5 + 4, none⟩ = some (.int .u8 (makesOf op 3 : Int))) := fun u hu => by
          obtain ⟨v2, S2, hu⟩ := hu
          exact ⟨hu.op hp op 0 (by omega) (by omega), hu.op hp op 1 (by omega) (by omega), hu.op hp op 2 (by omega) (by omega), hu.op hp op 3 (by omega) (by omega), hu.op hp op 4 (by omega) (by omega)⟩
        generalize operT op S = Z at *
        generalize opersOf op = kk at *
        generalize makesOf op 0 = m0 at *
        generalize makesOf op 1 = m1 at *
        generalize makesOf op 2 = m2 at *
        generalize makesOf op 3 = m3 at *
        have ho20 : ¬ (20 : Int) ≤ (op : Int) := by omega
        clear HP hR1 hR3 hT hS3 hv h0p h3p hl1 hl3
        generalize (pre6 a1 shared.length c1 mu s2 a3 locals.length c3 stk a4 nn c4) = pre at *
        go_enter Try.func71, Try.ntmps71
        go_wp2_with (first
          | ((with_reducible show wpList _ _ _ _ _ _); refine wpList_box_at rfl 37 (.tmp 1) rfl [.int .u8 (op : Int), .int .i64 arg, .int .u8 (t : Int), .int .u64 (b : Int)] rfl ?_; intro w1 hA1 hb1 hs1; clear hs1; refine Hid.out ?_))
        refine hidU ?_
        have d0 : w1.cell? ⟨w.heap.size, 0, none⟩ = some (.int .u8 (op : Int)) := by rw [hA1.cell]; rfl
        have hT1 := HT.out.below hb1
        have hs1 := hb1.size
        clear HT
        go_wp2_with fail
        have hS0 : (∃ v2 S2, Ty A w1.drew g pre v2 S2) ∧ Fw A g w1 w1.drew := ⟨⟨_, _, hT1.below (Below.drew (Below.refl _ _))⟩, Fw.of_below (Below.drew (Below.refl _ _))⟩
        refine wp_region_held_drew (S := fun x => (∃ v2 S2, Ty A x g pre v2 S2) ∧ Fw A g w1 x) (by kernel_rfl) hS0 (fun _ => ?_)
        refine wpAnyH_take (i := 0) (oi := { dst := some 41, op := .move (.tmp 0), type := _, pos := _, after := _, guard := none }) (v := .pointer (some ⟨g, 0, none⟩)) rfl (by kernel_rfl) (by kernel_rfl) (by kernel_rfl) (fun _ _ _ h => h) (Or.inl ⟨by rfl, ?_⟩) hS0 ?_
        · intro wS hSw
          go_simp
        simp only [Act.put, List.setIfInBounds_toArray, List.set_cons_zero, List.set_cons_succ]
        refine wpAnyH_take (i := 1) (oi := { dst := some 42, op := .move (.tmp 0), type := _, pos := _, after := _, guard := none }) (v := .pointer (some ⟨g, 0, none⟩)) rfl (by kernel_rfl) (by kernel_rfl) (by kernel_rfl) (fun _ _ _ h => h) (Or.inl ⟨by rfl, ?_⟩) hS0 ?_
        · intro wS hSw
          go_simp
        simp only [Act.put, List.setIfInBounds_toArray, List.set_cons_zero, List.set_cons_succ]
        refine wpAnyH_take (i := 2) (oi := { dst := some 43, op := .fieldAddr 37 (.tmp 3) 0, type := _, pos := _, after := _, guard := none }) (v := .pointer (some ⟨w.heap.size, 0, none⟩)) rfl (by kernel_rfl) (by kernel_rfl) (by kernel_rfl) (fun _ _ _ h => h) (Or.inl ⟨by rfl, ?_⟩) hS0 ?_
        · intro wS hSw
          go_simp
        simp only [Act.put, List.setIfInBounds_toArray, List.set_cons_zero, List.set_cons_succ]
        refine wpAnyH_take (i := 3) (oi := { dst := some 44, op := .load 31 (.tmp 43), type := _, pos := _, after := _, guard := none }) (v := .int .u8 (op : Int)) rfl (by kernel_rfl) (by kernel_rfl) (by kernel_rfl) (fun _ _ _ h => h) (Or.inl ⟨by rfl, ?_⟩) hS0 ?_
        · intro wS hSw
          have z0 := (show wS.cell? ⟨w.heap.size, 0, none⟩ = some (.int .u8 (op : Int)) by rw [(hSw.2.at hA1 hgw (by decide)).cell]; rfl)
          go_simp
        simp only [Act.put, List.setIfInBounds_toArray, List.set_cons_zero, List.set_cons_succ]
        refine wpAnyH_take (i := 4) (oi := { dst := some 45, op := .nilCheck (.tmp 42), type := _, pos := _, after := _, guard := none }) (v := .pointer (some ⟨g, 0, none⟩)) rfl (by kernel_rfl) (by kernel_rfl) (by kernel_rfl) (fun _ _ _ h => h) (Or.inl ⟨by rfl, ?_⟩) hS0 ?_
        · intro wS hSw
          go_simp
        simp only [Act.put, List.setIfInBounds_toArray, List.set_cons_zero, List.set_cons_succ]
        refine wpAnyH_take (i := 5) (oi := { dst := some 46, op := .fieldAddr 99 (.tmp 45) 1, type := _, pos := _, after := _, guard := none }) (v := .pointer (some ⟨g, 6, none⟩)) rfl (by kernel_rfl) (by kernel_rfl) (by kernel_rfl) (fun _ _ _ h => h) (Or.inl ⟨by rfl, ?_⟩) hS0 ?_
        · intro wS hSw
          go_simp
        simp only [Act.put, List.setIfInBounds_toArray, List.set_cons_zero, List.set_cons_succ]
        refine wpAnyH_take (i := 6) (oi := { dst := some 47, op := .indexAddr 95 (.tmp 46) (.tmp 44), type := _, pos := _, after := _, guard := none }) (v := .pointer (some ⟨g, 6 + op * 5, none⟩)) rfl (by kernel_rfl) (by kernel_rfl) (by kernel_rfl) (fun _ _ _ h => h) (Or.inl ⟨by rfl, ?_⟩) hS0 ?_
        · intro wS hSw
          go_simp
        simp only [Act.put, List.setIfInBounds_toArray, List.set_cons_zero, List.set_cons_succ]
        refine wpAnyH_take (i := 7) (oi := { dst := some 48, op := .load 94 (.tmp 47), type := _, pos := _, after := _, guard := none }) (v := .agg #[.int .i64 (kk : Int), .int .u8 (m0 : Int), .int .u8 (m1 : Int), .int .u8 (m2 : Int), .int .u8 (m3 : Int)]) rfl (by kernel_rfl) (by kernel_rfl) (by kernel_rfl) (fun _ _ _ h => h) (Or.inl ⟨by rfl, ?_⟩) hS0 ?_
        · intro wS hSw
          have z0 := (HO.out wS hSw.1).1
          have z1 := (HO.out wS hSw.1).2.1
          have z2 := (HO.out wS hSw.1).2.2.1
          have z3 := (HO.out wS hSw.1).2.2.2.1
          have z4 := (HO.out wS hSw.1).2.2.2.2
          go_simp
        simp only [Act.put, List.setIfInBounds_toArray, List.set_cons_zero, List.set_cons_succ]
        refine wpAnyH_ready (rs := [8]) (by kernel_rfl) (by simp) ?_
        refine AllReadyH.cons (o := { dst := some 49, op := .call { callee := .value (.func 86), args := #[.tmp 41, .tmp 48], argTypes := #[90, 94] }, type := _, pos := _, after := _, guard := none }) rfl (fun K hK => ?_) AllReadyH.nil
        rw [if_pos (by rfl)]
        go_wp2_with (go_at_call 86; refine (hC.out _ _ (hT1.below (Below.drew (Below.refl _ _))) (show A ≤ w1.heap.size by omega)).mono ?_; rintro e x1 ⟨v4, rfl, hT4, hF4⟩)
        have hS1 := (⟨⟨_, _, hT4⟩, hS0.2.trans hF4⟩ : (∃ v2 S2, Ty A x1 g pre v2 S2) ∧ Fw A g w1 x1)
        refine hK.out _ _ hS1 (fun _ => ?_)
        clear hK K
        refine wpAnyH_take (i := 9) (oi := { dst := some 4, op := .assign (.tmp 49), type := _, pos := _, after := _, guard := none }) (v := .bool (Z.2)) rfl (by kernel_rfl) (by kernel_rfl) (by kernel_rfl) (fun _ _ _ h => h) (Or.inl ⟨by rfl, ?_⟩) hS1 ?_
        · intro wS hSw
          go_simp
        simp only [Act.put, List.setIfInBounds_toArray, List.set_cons_zero, List.set_cons_succ]
        refine wpAnyH_done (by kernel_rfl) ?_ _
        have HT2 : Hid (Ty A x1 g pre v4 Z.1) := hT4
        have HF2 : Hid (Fw A g w x1) := (Fw.of_below hb1).trans hS1.2
        clear hT4 hF4 hS1 hS0 HO
        go_wp2
        go_ret
        exact ⟨_, rfl, HT2.out, HF2.out⟩

end Go.Proofs.Ytefklmckkigllaa
