/- Joined texts of the proof. -/
import Derived.Test.YtefklmckkigllaaJ6

/- An instruction works on the stack. -/
namespace Go.Proofs.Ytefklmckkigllaa
open Go.RowKit
set_option linter.unusedVariables false

/-- A type is put on the stack. -/
def putT (stk : Int) (S : List Nat) (t : Nat) : List Nat × Bool := (S ++ [t], decide ((S.length : Int) + 1 ≤ stk))
/-- What an instruction does to the types, and whether it may. -/
def stepT (locals shared : List Vl) (stk : Int) (S : List Nat) (x : Ir) : List Nat × Bool :=
  if x.op = 1 then putT stk S x.v.t else if x.op = 30 then putT stk S (locals.getD x.arg.toNat ⟨0, 0⟩).t else if x.op = 31 then putT stk S (shared.getD x.arg.toNat ⟨0, 0⟩).t else operT x.op S

/-- A body in its code, the typer's head. -/
def pre6 (a1 : Option Addr) (ns c1 : Nat) (mu : Int) (s2 : Value) (a3 : Option Addr) (nl c3 : Nat) (stk : Int) (a4 : Option Addr) (nn c4 : Nat) : List Value := [.slice a1 ns c1, .int .i64 mu, s2, .slice a3 nl c3, .int .i64 stk, .slice a4 nn c4]

theorem isP_nat {z : Int} {n : Nat} (h : isP z n = true) : ∃ k : Nat, z = (k : Int) ∧ k < n := by
  unfold isP at h
  rw [Bool.and_eq_true, decide_eq_true_iff, decide_eq_true_iff] at h
  exact ⟨z.toNat, by omega, by omega⟩

set_option maxRecDepth 100000 in
set_option maxHeartbeats 6400000 in
theorem run_any (A g B : Nat) (a1 : Option Addr) (c1 : Nat) (mu : Int) (s2 : Value) (a3 : Option Addr) (c3 : Nat) (stk : Int) (a4 : Option Addr) (nn c4 : Nat) (shared locals : List Vl) (v : Value) (S : List Nat) (hS3 : ∀ t ∈ S, t ≤ 3) (x : Ir) (hx : x.Ok) (hm : mayI locals.length shared.length x = true) (w : World) (hT : Ty A w g (pre6 a1 shared.length c1 mu s2 a3 locals.length c3 stk a4 nn c4) v S) (hlen : S.length ≤ 1048576) (hAw : A ≤ w.heap.size)
    (hBA : B ≤ A) (hR1 : RowVl B w a1 c1 shared) (hR3 : RowVl B w a3 c3 locals) :
    Calls Try.prog 71 #[.pointer (some ⟨g, 0, none⟩), .agg x.cells.toArray] w fun e w' => ∃ v', e = .returned (.bool (stepT locals shared stk S x).2) ∧ Ty A w' g (pre6 a1 shared.length c1 mu s2 a3 locals.length c3 stk a4 nn c4) v' (stepT locals shared stk S x).1 ∧ Fw A g w w' := by
  obtain ⟨op, arg, ⟨t, b⟩⟩ := x
  obtain ⟨ho, ha, hv⟩ := hx
  dsimp only at ho ha
  have hgw : w.heap.size ≠ g := by have := hT.lt; omega
  have hp : (pre6 a1 shared.length c1 mu s2 a3 locals.length c3 stk a4 nn c4).length = 6 := rfl
  have hstk : (pre6 a1 shared.length c1 mu s2 a3 locals.length c3 stk a4 nn c4)[4]? = some (.int .i64 stk) := rfl
  have h0p : (pre6 a1 shared.length c1 mu s2 a3 locals.length c3 stk a4 nn c4)[0]? = some (.slice a1 shared.length c1) := rfl
  have h3p : (pre6 a1 shared.length c1 mu s2 a3 locals.length c3 stk a4 nn c4)[3]? = some (.slice a3 locals.length c3) := rfl
  have hl1 := hR1.1
  have hl3 := hR3.1
  have HT : Hid (Ty A w g (pre6 a1 shared.length c1 mu s2 a3 locals.length c3 stk a4 nn c4) v S) := hT
  unfold stepT
  simp only [Ir.cells]
  have hPut : ∀ (y : Vl), y.Ok → ∀ u v', Ty A u g (pre6 a1 shared.length c1 mu s2 a3 locals.length c3 stk a4 nn c4) v' S → A ≤ u.heap.size → Calls Try.prog 85 #[.pointer (some ⟨g, 0, none⟩), .agg y.cells.toArray] u fun e w' => ∃ v', e = .returned (.bool (putT stk S y.t).2) ∧ Ty A w' g (pre6 a1 shared.length c1 mu s2 a3 locals.length c3 stk a4 nn c4) v' (putT stk S y.t).1 ∧ Fw A g u w' := fun y hy u v' hu hA => put_any A g _ hp stk hstk v' S y hy u hu hlen hA
  have HP : Hid _ := hPut
  clear hPut hstk
  by_cases h1 : op = 1
  · rw [if_pos h1]
    have h1' : ((op : Int) == 1) = true := by rw [beq_iff_eq]; omega
    have hC : Hid (∀ u v', Ty A u g (pre6 a1 shared.length c1 mu s2 a3 locals.length c3 stk a4 nn c4) v' S → A ≤ u.heap.size → Calls Try.prog 85 #[.pointer (some ⟨g, 0, none⟩), .agg #[.int .u8 (t : Int), .int .u64 (b : Int)]] u fun e w' => ∃ v', e = .returned (.bool (putT stk S t).2) ∧ Ty A w' g (pre6 a1 shared.length c1 mu s2 a3 locals.length c3 stk a4 nn c4) v' (putT stk S t).1 ∧ Fw A g u w') := fun u v' hu hA => HP.out ⟨t, b⟩ hv u v' hu hA
    generalize putT stk S t = Z at *
    clear h1 hm HP hR1 hR3 hT hS3 hv
    generalize (pre6 a1 shared.length c1 mu s2 a3 locals.length c3 stk a4 nn c4) = pre at *
    go_enter Try.func71, Try.ntmps71
    go_wp2_with (first
      | ((with_reducible show wpList _ _ _ _ _ _); refine wpList_box_at rfl 37 (.tmp 1) rfl [.int .u8 (op : Int), .int .i64 arg, .int .u8 (t : Int), .int .u64 (b : Int)] rfl ?_; intro w1 hA1 hb1 hs1; clear hs1; refine Hid.out ?_))
    refine hidU ?_
    have c0 : w1.cell? ⟨w.heap.size, 0, none⟩ = some (.int .u8 (op : Int)) := by rw [hA1.cell]; rfl
    have c2 : w1.cell? ⟨w.heap.size, 2, none⟩ = some (.int .u8 (t : Int)) := by rw [hA1.cell]; rfl
    have c3 : w1.cell? ⟨w.heap.size, 3, none⟩ = some (.int .u64 (b : Int)) := by rw [hA1.cell]; rfl
    have hT1 := HT.out.below hb1
    have hs1 := hb1.size
    clear hA1 HT
    go_wp2_with (first
      | (go_at_call 85; refine (hC.out _ _ hT1 (by omega)).mono ?_; rintro _ w2 ⟨v2, rfl, hT2, hF2⟩; refine Hid.out ?_))
    refine hidU ?_
    have HT2 : Hid (Ty A w2 g pre v2 Z.1) := hT2
    have HF2 : Hid (Fw A g w w2) := (Fw.of_below hb1).trans hF2
    clear hT2 hF2 c0 c2 c3
    go_wp2
    go_ret
    exact ⟨_, rfl, HT2.out, HF2.out⟩
  · rw [if_neg h1]
    have h1' : ((op : Int) == 1) = false := by rw [beq_eq_false_iff_ne]; omega
    by_cases h2 : op = 30
    · rw [if_pos h2]
      unfold mayI at hm
      rw [if_neg h1, if_pos h2] at hm
      have h2' : ((op : Int) == 30) = true := by rw [beq_iff_eq]; omega
      clear h1 h2
      obtain ⟨k, rfl, hkn⟩ := isP_nat (n := locals.length) (Bool.and_eq_true_iff.1 hm).1
      obtain ⟨y, hy⟩ : ∃ y, locals[k]? = some y := ⟨locals[k]'hkn, List.getElem?_eq_getElem hkn⟩
      have hyd : locals.getD (k : Int).toNat ⟨0, 0⟩ = y := by rw [Int.toNat_natCast, List.getD, hy]; rfl
      rw [hyd]
      obtain ⟨gr, oo, rfl, hgr, hrr, hyo⟩ := hR3.at k y hy
      obtain ⟨yt, yb⟩ := y
      have HR : Hid (w.rangeAt gr (oo + k * 2) (Vl.cells ⟨yt, yb⟩)) := hrr
      have hC : Hid (∀ u v', Ty A u g (pre6 a1 shared.length c1 mu s2 (some ⟨gr, oo, none⟩) locals.length c3 stk a4 nn c4) v' S → A ≤ u.heap.size → Calls Try.prog 85 #[.pointer (some ⟨g, 0, none⟩), .agg #[.int .u8 (yt : Int), .int .u64 (yb : Int)]] u fun e w' => ∃ v', e = .returned (.bool (putT stk S yt).2) ∧ Ty A w' g (pre6 a1 shared.length c1 mu s2 (some ⟨gr, oo, none⟩) locals.length c3 stk a4 nn c4) v' (putT stk S yt).1 ∧ Fw A g u w') := fun u v' hu hA => HP.out ⟨yt, yb⟩ hyo u v' hu hA
      dsimp only
      generalize putT stk S yt = Z at *
      have hhd := h3p
      have hln := hl3
      have hk2 := hkn
      clear hm HP hR1 hR3 hT hS3 hv hy hyd hrr hyo h0p h3p hl1 hl3 hkn
      generalize (pre6 a1 shared.length c1 mu s2 (some ⟨gr, oo, none⟩) locals.length c3 stk a4 nn c4) = pre at *
      generalize locals.length = nr at *
      generalize hcre : c3 = cr at *
      clear hcre
      go_enter Try.func71, Try.ntmps71
      go_wp2_with (first
        | ((with_reducible show wpList _ _ _ _ _ _); refine wpList_box_at rfl 37 (.tmp 1) rfl [.int .u8 (op : Int), .int .i64 (k : Int), .int .u8 (t : Int), .int .u64 (b : Int)] rfl ?_; intro w1 hA1 hb1 hs1; clear hs1; refine Hid.out ?_))
      refine hidU ?_
      have d0 : w1.cell? ⟨w.heap.size, 0, none⟩ = some (.int .u8 (op : Int)) := by rw [hA1.cell]; rfl
      have hT1 := HT.out.below hb1
      have hs1 := hb1.size
      clear HT
      have HY : Hid (∀ u, Fw A g w1 u → u.cell? ⟨gr, oo + k * 2, none⟩ = some (.int .u8 (yt : Int)) ∧ u.cell? ⟨gr, oo + k * 2 + 1, none⟩ = some (.int .u64 (yb : Int))) := fun u hu => by
        have hO := (Old.of_below hb1 hAw).trans (hu.old hT1.low (by omega) (Nat.le_refl _))
        have := hO.range (by omega) HR.out
        exact ⟨this 0 _ rfl, this 1 _ rfl⟩
      go_wp2_with fail
      have hS0 : (∃ v2 S2, Ty A w1.drew g pre v2 S2) ∧ Fw A g w1 w1.drew := ⟨⟨_, _, hT1.below (Below.drew (Below.refl _ _))⟩, Fw.of_below (Below.drew (Below.refl _ _))⟩
      refine wp_region_held_drew (S := fun x => (∃ v2 S2, Ty A x g pre v2 S2) ∧ Fw A g w1 x) (by kernel_rfl) hS0 (fun _ => ?_)
      refine wpAnyH_take (i := 0) (oi := { dst := some 15, op := .move (.tmp 0), type := _, pos := _, after := _, guard := none }) (v := .pointer (some ⟨g, 0, none⟩)) rfl (by kernel_rfl) (by kernel_rfl) (by kernel_rfl) (fun _ _ _ h => h) (Or.inl ⟨by rfl, ?_⟩) hS0 ?_
      · intro wS hSw
        go_simp
      simp only [Act.put, List.setIfInBounds_toArray, List.set_cons_zero, List.set_cons_succ]
      refine wpAnyH_take (i := 1) (oi := { dst := some 16, op := .move (.tmp 0), type := _, pos := _, after := _, guard := none }) (v := .pointer (some ⟨g, 0, none⟩)) rfl (by kernel_rfl) (by kernel_rfl) (by kernel_rfl) (fun _ _ _ h => h) (Or.inl ⟨by rfl, ?_⟩) hS0 ?_
      · intro wS hSw
        go_simp
      simp only [Act.put, List.setIfInBounds_toArray, List.set_cons_zero, List.set_cons_succ]
      refine wpAnyH_take (i := 2) (oi := { dst := some 17, op := .nilCheck (.tmp 16), type := _, pos := _, after := _, guard := none }) (v := .pointer (some ⟨g, 0, none⟩)) rfl (by kernel_rfl) (by kernel_rfl) (by kernel_rfl) (fun _ _ _ h => h) (Or.inl ⟨by rfl, ?_⟩) hS0 ?_
      · intro wS hSw
        go_simp
      simp only [Act.put, List.setIfInBounds_toArray, List.set_cons_zero, List.set_cons_succ]
      refine wpAnyH_take (i := 3) (oi := { dst := some 18, op := .fieldAddr 99 (.tmp 17) 0, type := _, pos := _, after := _, guard := none }) (v := .pointer (some ⟨g, 0, none⟩)) rfl (by kernel_rfl) (by kernel_rfl) (by kernel_rfl) (fun _ _ _ h => h) (Or.inl ⟨by rfl, ?_⟩) hS0 ?_
      · intro wS hSw
        go_simp
      simp only [Act.put, List.setIfInBounds_toArray, List.set_cons_zero, List.set_cons_succ]
      refine wpAnyH_take (i := 4) (oi := { dst := some 19, op := .fieldAddr 89 (.tmp 18) 1, type := _, pos := _, after := _, guard := none }) (v := .pointer (some ⟨g, 3, none⟩)) rfl (by kernel_rfl) (by kernel_rfl) (by kernel_rfl) (fun _ _ _ h => h) (Or.inl ⟨by rfl, ?_⟩) hS0 ?_
      · intro wS hSw
        go_simp
      simp only [Act.put, List.setIfInBounds_toArray, List.set_cons_zero, List.set_cons_succ]
      refine wpAnyH_take (i := 5) (oi := { dst := some 20, op := .fieldAddr 45 (.tmp 19) 0, type := _, pos := _, after := _, guard := none }) (v := .pointer (some ⟨g, 3, none⟩)) rfl (by kernel_rfl) (by kernel_rfl) (by kernel_rfl) (fun _ _ _ h => h) (Or.inl ⟨by rfl, ?_⟩) hS0 ?_
      · intro wS hSw
        go_simp
      simp only [Act.put, List.setIfInBounds_toArray, List.set_cons_zero, List.set_cons_succ]
      refine wpAnyH_take (i := 6) (oi := { dst := some 21, op := .load 22 (.tmp 20), type := _, pos := _, after := _, guard := none }) (v := .slice (some ⟨gr, oo, none⟩) nr cr) rfl (by kernel_rfl) (by kernel_rfl) (by kernel_rfl) (fun _ _ _ h => h) (Or.inl ⟨by rfl, ?_⟩) hS0 ?_
      · intro wS hSw
        have z0 := (show wS.cell? ⟨g, 3, none⟩ = some (.slice (some ⟨gr, oo, none⟩) nr cr) by obtain ⟨⟨v9, S9, h9⟩, _⟩ := hSw; rw [h9.pre hp 3 (by decide)]; exact hhd)
        go_simp
      simp only [Act.put, List.setIfInBounds_toArray, List.set_cons_zero, List.set_cons_succ]
      refine wpAnyH_take (i := 7) (oi := { dst := some 22, op := .fieldAddr 37 (.tmp 3) 1, type := _, pos := _, after := _, guard := none }) (v := .pointer (some ⟨w.heap.size, 1, none⟩)) rfl (by kernel_rfl) (by kernel_rfl) (by kernel_rfl) (fun _ _ _ h => h) (Or.inl ⟨by rfl, ?_⟩) hS0 ?_
      · intro wS hSw
        go_simp
      simp only [Act.put, List.setIfInBounds_toArray, List.set_cons_zero, List.set_cons_succ]
      refine wpAnyH_take (i := 8) (oi := { dst := some 23, op := .load 3 (.tmp 22), type := _, pos := _, after := _, guard := none }) (v := .int .i64 (k : Int)) rfl (by kernel_rfl) (by kernel_rfl) (by kernel_rfl) (fun _ _ _ h => h) (Or.inl ⟨by rfl, ?_⟩) hS0 ?_
      · intro wS hSw
        have z0 := (show wS.cell? ⟨w.heap.size, 1, none⟩ = some (.int .i64 (k : Int)) by rw [(hSw.2.at hA1 hgw (by decide)).cell]; rfl)
        go_simp
      simp only [Act.put, List.setIfInBounds_toArray, List.set_cons_zero, List.set_cons_succ]
      refine wpAnyH_take (i := 9) (oi := { dst := some 24, op := .indexAddr 22 (.tmp 21) (.tmp 23), type := _, pos := _, after := _, guard := none }) (v := .pointer (some ⟨gr, oo + k * 2, none⟩)) rfl (by kernel_rfl) (by kernel_rfl) (by kernel_rfl) (fun _ _ _ h => h) (Or.inl ⟨by rfl, ?_⟩) hS0 ?_
      · intro wS hSw
        go_simp
      simp only [Act.put, List.setIfInBounds_toArray, List.set_cons_zero, List.set_cons_succ]
      refine wpAnyH_take (i := 10) (oi := { dst := some 25, op := .load 35 (.tmp 24), type := _, pos := _, after := _, guard := none }) (v := .agg #[.int .u8 (yt : Int), .int .u64 (yb : Int)]) rfl (by kernel_rfl) (by kernel_rfl) (by kernel_rfl) (fun _ _ _ h => h) (Or.inl ⟨by rfl, ?_⟩) hS0 ?_
      · intro wS hSw
        have z0 := (HY.out wS hSw.2).1
        have z1 := (HY.out wS hSw.2).2
        go_simp
      simp only [Act.put, List.setIfInBounds_toArray, List.set_cons_zero, List.set_cons_succ]
      refine wpAnyH_ready (rs := [11]) (by kernel_rfl) (by simp) ?_
      refine AllReadyH.cons (o := { dst := some 26, op := .call { callee := .value (.func 85), args := #[.tmp 15, .tmp 25], argTypes := #[90, 35] }, type := _, pos := _, after := _, guard := none }) rfl (fun K hK => ?_) AllReadyH.nil
      rw [if_pos (by rfl)]
      go_wp2_with (go_at_call 85; refine (hC.out _ _ (hT1.below (Below.drew (Below.refl _ _))) (show A ≤ w1.heap.size by omega)).mono ?_; rintro e x1 ⟨v4, rfl, hT4, hF4⟩)
      have hS1 := (⟨⟨_, _, hT4⟩, hS0.2.trans hF4⟩ : (∃ v2 S2, Ty A x1 g pre v2 S2) ∧ Fw A g w1 x1)
      refine hK.out _ _ hS1 (fun _ => ?_)
      clear hK K
      refine wpAnyH_take (i := 12) (oi := { dst := some 4, op := .assign (.tmp 26), type := _, pos := _, after := _, guard := none }) (v := .bool (Z.2)) rfl (by kernel_rfl) (by kernel_rfl) (by kernel_rfl) (fun _ _ _ h => h) (Or.inl ⟨by rfl, ?_⟩) hS1 ?_
      · intro wS hSw
        go_simp
      simp only [Act.put, List.setIfInBounds_toArray, List.set_cons_zero, List.set_cons_succ]
      refine wpAnyH_done (by kernel_rfl) ?_ _
      have HT2 : Hid (Ty A x1 g pre v4 Z.1) := hT4
      have HF2 : Hid (Fw A g w x1) := (Fw.of_below hb1).trans hS1.2
      clear hT4 hF4 hS1 hS0 HY HR
      go_wp2
      go_ret
      exact ⟨_, rfl, HT2.out, HF2.out⟩
    · rw [if_neg h2]
      have h2' : ((op : Int) == 30) = false := by rw [beq_eq_false_iff_ne]; omega
      by_cases h3 : op = 31
      · rw [if_pos h3]
        unfold mayI at hm
        rw [if_neg h1, if_neg h2, if_pos h3] at hm
        have h3' : ((op : Int) == 31) = true := by rw [beq_iff_eq]; omega
        clear h1 h2 h3
        obtain ⟨k, rfl, hkn⟩ := isP_nat (n := shared.length) (Bool.and_eq_true_iff.1 hm).1
        obtain ⟨y, hy⟩ : ∃ y, shared[k]? = some y := ⟨shared[k]'hkn, List.getElem?_eq_getElem hkn⟩
        have hyd : shared.getD (k : Int).toNat ⟨0, 0⟩ = y := by rw [Int.toNat_natCast, List.getD, hy]; rfl
        rw [hyd]
        obtain ⟨gr, oo, rfl, hgr, hrr, hyo⟩ := hR1.at k y hy
        obtain ⟨yt, yb⟩ := y
        have HR : Hid (w.rangeAt gr (oo + k * 2) (Vl.cells ⟨yt, yb⟩)) := hrr
        have hC : Hid (∀ u v', Ty A u g (pre6 (some ⟨gr, oo, none⟩) shared.length c1 mu s2 a3 locals.length c3 stk a4 nn c4) v' S → A ≤ u.heap.size → Calls Try.prog 85 #[.pointer (some ⟨g, 0, none⟩), .agg #[.int .u8 (yt : Int), .int .u64 (yb : Int)]] u fun e w' => ∃ v', e = .returned (.bool (putT stk S yt).2) ∧ Ty A w' g (pre6 (some ⟨gr, oo, none⟩) shared.length c1 mu s2 a3 locals.length c3 stk a4 nn c4) v' (putT stk S yt).1 ∧ Fw A g u w') := fun u v' hu hA => HP.out ⟨yt, yb⟩ hyo u v' hu hA
        dsimp only
        generalize putT stk S yt = Z at *
        have hhd := h0p
        have hln := hl1
        have hk2 := hkn
        clear hm HP hR1 hR3 hT hS3 hv hy hyd hrr hyo h0p h3p hl1 hl3 hkn
        generalize (pre6 (some ⟨gr, oo, none⟩) shared.length c1 mu s2 a3 locals.length c3 stk a4 nn c4) = pre at *
        generalize shared.length = nr at *
        generalize hcre : c1 = cr at *
        clear hcre
        go_enter Try.func71, Try.ntmps71
        go_wp2_with (first
          | ((with_reducible show wpList _ _ _ _ _ _); refine wpList_box_at rfl 37 (.tmp 1) rfl [.int .u8 (op : Int), .int .i64 (k : Int), .int .u8 (t : Int), .int .u64 (b : Int)] rfl ?_; intro w1 hA1 hb1 hs1; clear hs1; refine Hid.out ?_))
        refine hidU ?_
        have d0 : w1.cell? ⟨w.heap.size, 0, none⟩ = some (.int .u8 (op : Int)) := by rw [hA1.cell]; rfl
        have hT1 := HT.out.below hb1
        have hs1 := hb1.size
        clear HT
        have HY : Hid (∀ u, Fw A g w1 u → u.cell? ⟨gr, oo + k * 2, none⟩ = some (.int .u8 (yt : Int)) ∧ u.cell? ⟨gr, oo + k * 2 + 1, none⟩ = some (.int .u64 (yb : Int))) := fun u hu => by
          have hO := (Old.of_below hb1 hAw).trans (hu.old hT1.low (by omega) (Nat.le_refl _))
          have := hO.range (by omega) HR.out
          exact ⟨this 0 _ rfl, this 1 _ rfl⟩
        go_wp2_with fail
        have hS0 : (∃ v2 S2, Ty A w1.drew g pre v2 S2) ∧ Fw A g w1 w1.drew := ⟨⟨_, _, hT1.below (Below.drew (Below.refl _ _))⟩, Fw.of_below (Below.drew (Below.refl _ _))⟩
        refine wp_region_held_drew (S := fun x => (∃ v2 S2, Ty A x g pre v2 S2) ∧ Fw A g w1 x) (by kernel_rfl) hS0 (fun _ => ?_)
        refine wpAnyH_take (i := 0) (oi := { dst := some 29, op := .move (.tmp 0), type := _, pos := _, after := _, guard := none }) (v := .pointer (some ⟨g, 0, none⟩)) rfl (by kernel_rfl) (by kernel_rfl) (by kernel_rfl) (fun _ _ _ h => h) (Or.inl ⟨by rfl, ?_⟩) hS0 ?_
        · intro wS hSw
          go_simp
        simp only [Act.put, List.setIfInBounds_toArray, List.set_cons_zero, List.set_cons_succ]
        refine wpAnyH_take (i := 1) (oi := { dst := some 30, op := .move (.tmp 0), type := _, pos := _, after := _, guard := none }) (v := .pointer (some ⟨g, 0, none⟩)) rfl (by kernel_rfl) (by kernel_rfl) (by kernel_rfl) (fun _ _ _ h => h) (Or.inl ⟨by rfl, ?_⟩) hS0 ?_
        · intro wS hSw
          go_simp
        simp only [Act.put, List.setIfInBounds_toArray, List.set_cons_zero, List.set_cons_succ]
        refine wpAnyH_take (i := 2) (oi := { dst := some 31, op := .nilCheck (.tmp 30), type := _, pos := _, after := _, guard := none }) (v := .pointer (some ⟨g, 0, none⟩)) rfl (by kernel_rfl) (by kernel_rfl) (by kernel_rfl) (fun _ _ _ h => h) (Or.inl ⟨by rfl, ?_⟩) hS0 ?_
        · intro wS hSw
          go_simp
        simp only [Act.put, List.setIfInBounds_toArray, List.set_cons_zero, List.set_cons_succ]
        refine wpAnyH_take (i := 3) (oi := { dst := some 32, op := .fieldAddr 99 (.tmp 31) 0, type := _, pos := _, after := _, guard := none }) (v := .pointer (some ⟨g, 0, none⟩)) rfl (by kernel_rfl) (by kernel_rfl) (by kernel_rfl) (fun _ _ _ h => h) (Or.inl ⟨by rfl, ?_⟩) hS0 ?_
        · intro wS hSw
          go_simp
        simp only [Act.put, List.setIfInBounds_toArray, List.set_cons_zero, List.set_cons_succ]
        refine wpAnyH_take (i := 4) (oi := { dst := some 33, op := .fieldAddr 89 (.tmp 32) 0, type := _, pos := _, after := _, guard := none }) (v := .pointer (some ⟨g, 0, none⟩)) rfl (by kernel_rfl) (by kernel_rfl) (by kernel_rfl) (fun _ _ _ h => h) (Or.inl ⟨by rfl, ?_⟩) hS0 ?_
        · intro wS hSw
          go_simp
        simp only [Act.put, List.setIfInBounds_toArray, List.set_cons_zero, List.set_cons_succ]
        refine wpAnyH_take (i := 5) (oi := { dst := some 34, op := .fieldAddr 25 (.tmp 33) 0, type := _, pos := _, after := _, guard := none }) (v := .pointer (some ⟨g, 0, none⟩)) rfl (by kernel_rfl) (by kernel_rfl) (by kernel_rfl) (fun _ _ _ h => h) (Or.inl ⟨by rfl, ?_⟩) hS0 ?_
        · intro wS hSw
          go_simp
        simp only [Act.put, List.setIfInBounds_toArray, List.set_cons_zero, List.set_cons_succ]
        refine wpAnyH_take (i := 6) (oi := { dst := some 35, op := .load 22 (.tmp 34), type := _, pos := _, after := _, guard := none }) (v := .slice (some ⟨gr, oo, none⟩) nr cr) rfl (by kernel_rfl) (by kernel_rfl) (by kernel_rfl) (fun _ _ _ h => h) (Or.inl ⟨by rfl, ?_⟩) hS0 ?_
        · intro wS hSw
          have z0 := (show wS.cell? ⟨g, 0, none⟩ = some (.slice (some ⟨gr, oo, none⟩) nr cr) by obtain ⟨⟨v9, S9, h9⟩, _⟩ := hSw; rw [h9.pre hp 0 (by decide)]; exact hhd)
          go_simp
        simp only [Act.put, List.setIfInBounds_toArray, List.set_cons_zero, List.set_cons_succ]
        refine wpAnyH_take (i := 7) (oi := { dst := some 36, op := .fieldAddr 37 (.tmp 3) 1, type := _, pos := _, after := _, guard := none }) (v := .pointer (some ⟨w.heap.size, 1, none⟩)) rfl (by kernel_rfl) (by kernel_rfl) (by kernel_rfl) (fun _ _ _ h => h) (Or.inl ⟨by rfl, ?_⟩) hS0 ?_
        · intro wS hSw
          go_simp
        simp only [Act.put, List.setIfInBounds_toArray, List.set_cons_zero, List.set_cons_succ]
        refine wpAnyH_take (i := 8) (oi := { dst := some 37, op := .load 3 (.tmp 36), type := _, pos := _, after := _, guard := none }) (v := .int .i64 (k : Int)) rfl (by kernel_rfl) (by kernel_rfl) (by kernel_rfl) (fun _ _ _ h => h) (Or.inl ⟨by rfl, ?_⟩) hS0 ?_
        · intro wS hSw
          have z0 := (show wS.cell? ⟨w.heap.size, 1, none⟩ = some (.int .i64 (k : Int)) by rw [(hSw.2.at hA1 hgw (by decide)).cell]; rfl)
          go_simp
        simp only [Act.put, List.setIfInBounds_toArray, List.set_cons_zero, List.set_cons_succ]
        refine wpAnyH_take (i := 9) (oi := { dst := some 38, op := .indexAddr 22 (.tmp 35) (.tmp 37), type := _, pos := _, after := _, guard := none }) (v := .pointer (some ⟨gr, oo + k * 2, none⟩)) rfl (by kernel_rfl) (by kernel_rfl) (by kernel_rfl) (fun _ _ _ h => h) (Or.inl ⟨by rfl, ?_⟩) hS0 ?_
        · intro wS hSw
          go_simp
        simp only [Act.put, List.setIfInBounds_toArray, List.set_cons_zero, List.set_cons_succ]
        refine wpAnyH_take (i := 10) (oi := { dst := some 39, op := .load 35 (.tmp 38), type := _, pos := _, after := _, guard := none }) (v := .agg #[.int .u8 (yt : Int), .int .u64 (yb : Int)]) rfl (by kernel_rfl) (by kernel_rfl) (by kernel_rfl) (fun _ _ _ h => h) (Or.inl ⟨by rfl, ?_⟩) hS0 ?_
        · intro wS hSw
          have z0 := (HY.out wS hSw.2).1
          have z1 := (HY.out wS hSw.2).2
          go_simp
        simp only [Act.put, List.setIfInBounds_toArray, List.set_cons_zero, List.set_cons_succ]
        refine wpAnyH_ready (rs := [11]) (by kernel_rfl) (by simp) ?_
        refine AllReadyH.cons (o := { dst := some 40, op := .call { callee := .value (.func 85), args := #[.tmp 29, .tmp 39], argTypes := #[90, 35] }, type := _, pos := _, after := _, guard := none }) rfl (fun K hK => ?_) AllReadyH.nil
        rw [if_pos (by rfl)]
        go_wp2_with (go_at_call 85; refine (hC.out _ _ (hT1.below (Below.drew (Below.refl _ _))) (show A ≤ w1.heap.size by omega)).mono ?_; rintro e x1 ⟨v4, rfl, hT4, hF4⟩)
        have hS1 := (⟨⟨_, _, hT4⟩, hS0.2.trans hF4⟩ : (∃ v2 S2, Ty A x1 g pre v2 S2) ∧ Fw A g w1 x1)
        refine hK.out _ _ hS1 (fun _ => ?_)
        clear hK K
        refine wpAnyH_take (i := 12) (oi := { dst := some 4, op := .assign (.tmp 40), type := _, pos := _, after := _, guard := none }) (v := .bool (Z.2)) rfl (by kernel_rfl) (by kernel_rfl) (by kernel_rfl) (fun _ _ _ h => h) (Or.inl ⟨by rfl, ?_⟩) hS1 ?_
        · intro wS hSw
          go_simp
        simp only [Act.put, List.setIfInBounds_toArray, List.set_cons_zero, List.set_cons_succ]
        refine wpAnyH_done (by kernel_rfl) ?_ _
        have HT2 : Hid (Ty A x1 g pre v4 Z.1) := hT4
        have HF2 : Hid (Fw A g w x1) := (Fw.of_below hb1).trans hS1.2
        clear hT4 hF4 hS1 hS0 HY HR
        go_wp2
        go_ret
        exact ⟨_, rfl, HT2.out, HF2.out⟩
      · rw [if_neg h3]
        unfold mayI at hm
        rw [if_neg h1, if_neg h2, if_neg h3] at hm
        have h3' : ((op : Int) == 31) = false := by rw [beq_eq_false_iff_ne]; omega
        rw [Bool.and_eq_true, Bool.and_eq_true, decide_eq_true_iff, decide_eq_true_iff] at hm
        have ho3 : 3 ≤ op := hm.1
        have ho19 : op ≤ 19 := hm.2.1
        clear h1 h2 h3 hm
        have hC : Hid (∀ u v', Ty A u g (pre6 a1 shared.length c1 mu s2 a3 locals.length c3 stk a4 nn c4) v' S → A ≤ u.heap.size → Calls Try.prog 86 #[.pointer (some ⟨g, 0, none⟩), .agg #[.int .i64 (opersOf op : Int), .int .u8 (makesOf op 0 : Int), .int .u8 (makesOf op 1 : Int), .int .u8 (makesOf op 2 : Int), .int .u8 (makesOf op 3 : Int)]] u fun e w' => ∃ v', e = .returned (.bool (operT op S).2) ∧ Ty A w' g (pre6 a1 shared.length c1 mu s2 a3 locals.length c3 stk a4 nn c4) v' (operT op S).1 ∧ Fw A g u w') := fun u v' hu hA => operate_any A g _ hp v' S hS3 op ho3 (by omega) u hu hlen hA
        have HO : Hid (∀ u, (∃ v2 S2, Ty A u g (pre6 a1 shared.length c1 mu s2 a3 locals.length c3 stk a4 nn c4) v2 S2) → u.cell? ⟨g, 6 + op * 5, none⟩ = some (.int .i64 (opersOf op : Int)) ∧ u.cell? ⟨g, 6 + op * 5 + 1, none⟩ = some (.int .u8 (makesOf op 0 : Int)) ∧ u.cell? ⟨g, 6 + op * 5 + 2, none⟩ = some (.int .u8 (makesOf op 1 : Int)) ∧ u.cell? ⟨g, 6 + op * 5 + 3, none⟩ = some (.int .u8 (makesOf op 2 : Int)) ∧ u.cell? ⟨g, 6 + op * 5 + 4, none⟩ = some (.int .u8 (makesOf op 3 : Int))) := fun u hu => by
          obtain ⟨v2, S2, hu⟩ := hu
          exact ⟨hu.op hp op 0 (by omega) (by omega), hu.op hp op 1 (by omega) (by omega), hu.op hp op 2 (by omega) (by omega), hu.op hp op 3 (by omega) (by omega), hu.op hp op 4 (by omega) (by omega)⟩
        generalize operT op S = Z at *
        generalize opersOf op = kk at *
        generalize makesOf op 0 = m0 at *
        generalize makesOf op 1 = m1 at *
        generalize makesOf op 2 = m2 at *
        generalize makesOf op 3 = m3 at *
        have ho20 : ¬ (20 : Int) ≤ (op : Int) := by omega
        clear HP hR1 hR3 hT hS3 hv h0p h3p hl1 hl3
        generalize (pre6 a1 shared.length c1 mu s2 a3 locals.length c3 stk a4 nn c4) = pre at *
        go_enter Try.func71, Try.ntmps71
        go_wp2_with (first
          | ((with_reducible show wpList _ _ _ _ _ _); refine wpList_box_at rfl 37 (.tmp 1) rfl [.int .u8 (op : Int), .int .i64 arg, .int .u8 (t : Int), .int .u64 (b : Int)] rfl ?_; intro w1 hA1 hb1 hs1; clear hs1; refine Hid.out ?_))
        refine hidU ?_
        have d0 : w1.cell? ⟨w.heap.size, 0, none⟩ = some (.int .u8 (op : Int)) := by rw [hA1.cell]; rfl
        have hT1 := HT.out.below hb1
        have hs1 := hb1.size
        clear HT
        go_wp2_with fail
        have hS0 : (∃ v2 S2, Ty A w1.drew g pre v2 S2) ∧ Fw A g w1 w1.drew := ⟨⟨_, _, hT1.below (Below.drew (Below.refl _ _))⟩, Fw.of_below (Below.drew (Below.refl _ _))⟩
        refine wp_region_held_drew (S := fun x => (∃ v2 S2, Ty A x g pre v2 S2) ∧ Fw A g w1 x) (by kernel_rfl) hS0 (fun _ => ?_)
        refine wpAnyH_take (i := 0) (oi := { dst := some 41, op := .move (.tmp 0), type := _, pos := _, after := _, guard := none }) (v := .pointer (some ⟨g, 0, none⟩)) rfl (by kernel_rfl) (by kernel_rfl) (by kernel_rfl) (fun _ _ _ h => h) (Or.inl ⟨by rfl, ?_⟩) hS0 ?_
        · intro wS hSw
          go_simp
        simp only [Act.put, List.setIfInBounds_toArray, List.set_cons_zero, List.set_cons_succ]
        refine wpAnyH_take (i := 1) (oi := { dst := some 42, op := .move (.tmp 0), type := _, pos := _, after := _, guard := none }) (v := .pointer (some ⟨g, 0, none⟩)) rfl (by kernel_rfl) (by kernel_rfl) (by kernel_rfl) (fun _ _ _ h => h) (Or.inl ⟨by rfl, ?_⟩) hS0 ?_
        · intro wS hSw
          go_simp
        simp only [Act.put, List.setIfInBounds_toArray, List.set_cons_zero, List.set_cons_succ]
        refine wpAnyH_take (i := 2) (oi := { dst := some 43, op := .fieldAddr 37 (.tmp 3) 0, type := _, pos := _, after := _, guard := none }) (v := .pointer (some ⟨w.heap.size, 0, none⟩)) rfl (by kernel_rfl) (by kernel_rfl) (by kernel_rfl) (fun _ _ _ h => h) (Or.inl ⟨by rfl, ?_⟩) hS0 ?_
        · intro wS hSw
          go_simp
        simp only [Act.put, List.setIfInBounds_toArray, List.set_cons_zero, List.set_cons_succ]
        refine wpAnyH_take (i := 3) (oi := { dst := some 44, op := .load 31 (.tmp 43), type := _, pos := _, after := _, guard := none }) (v := .int .u8 (op : Int)) rfl (by kernel_rfl) (by kernel_rfl) (by kernel_rfl) (fun _ _ _ h => h) (Or.inl ⟨by rfl, ?_⟩) hS0 ?_
        · intro wS hSw
          have z0 := (show wS.cell? ⟨w.heap.size, 0, none⟩ = some (.int .u8 (op : Int)) by rw [(hSw.2.at hA1 hgw (by decide)).cell]; rfl)
          go_simp
        simp only [Act.put, List.setIfInBounds_toArray, List.set_cons_zero, List.set_cons_succ]
        refine wpAnyH_take (i := 4) (oi := { dst := some 45, op := .nilCheck (.tmp 42), type := _, pos := _, after := _, guard := none }) (v := .pointer (some ⟨g, 0, none⟩)) rfl (by kernel_rfl) (by kernel_rfl) (by kernel_rfl) (fun _ _ _ h => h) (Or.inl ⟨by rfl, ?_⟩) hS0 ?_
        · intro wS hSw
          go_simp
        simp only [Act.put, List.setIfInBounds_toArray, List.set_cons_zero, List.set_cons_succ]
        refine wpAnyH_take (i := 5) (oi := { dst := some 46, op := .fieldAddr 99 (.tmp 45) 1, type := _, pos := _, after := _, guard := none }) (v := .pointer (some ⟨g, 6, none⟩)) rfl (by kernel_rfl) (by kernel_rfl) (by kernel_rfl) (fun _ _ _ h => h) (Or.inl ⟨by rfl, ?_⟩) hS0 ?_
        · intro wS hSw
          go_simp
        simp only [Act.put, List.setIfInBounds_toArray, List.set_cons_zero, List.set_cons_succ]
        refine wpAnyH_take (i := 6) (oi := { dst := some 47, op := .indexAddr 95 (.tmp 46) (.tmp 44), type := _, pos := _, after := _, guard := none }) (v := .pointer (some ⟨g, 6 + op * 5, none⟩)) rfl (by kernel_rfl) (by kernel_rfl) (by kernel_rfl) (fun _ _ _ h => h) (Or.inl ⟨by rfl, ?_⟩) hS0 ?_
        · intro wS hSw
          go_simp
        simp only [Act.put, List.setIfInBounds_toArray, List.set_cons_zero, List.set_cons_succ]
        refine wpAnyH_take (i := 7) (oi := { dst := some 48, op := .load 94 (.tmp 47), type := _, pos := _, after := _, guard := none }) (v := .agg #[.int .i64 (kk : Int), .int .u8 (m0 : Int), .int .u8 (m1 : Int), .int .u8 (m2 : Int), .int .u8 (m3 : Int)]) rfl (by kernel_rfl) (by kernel_rfl) (by kernel_rfl) (fun _ _ _ h => h) (Or.inl ⟨by rfl, ?_⟩) hS0 ?_
        · intro wS hSw
          have z0 := (HO.out wS hSw.1).1
          have z1 := (HO.out wS hSw.1).2.1
          have z2 := (HO.out wS hSw.1).2.2.1
          have z3 := (HO.out wS hSw.1).2.2.2.1
          have z4 := (HO.out wS hSw.1).2.2.2.2
          go_simp
        simp only [Act.put, List.setIfInBounds_toArray, List.set_cons_zero, List.set_cons_succ]
        refine wpAnyH_ready (rs := [8]) (by kernel_rfl) (by simp) ?_
        refine AllReadyH.cons (o := { dst := some 49, op := .call { callee := .value (.func 86), args := #[.tmp 41, .tmp 48], argTypes := #[90, 94] }, type := _, pos := _, after := _, guard := none }) rfl (fun K hK => ?_) AllReadyH.nil
        rw [if_pos (by rfl)]
        go_wp2_with (go_at_call 86; refine (hC.out _ _ (hT1.below (Below.drew (Below.refl _ _))) (show A ≤ w1.heap.size by omega)).mono ?_; rintro e x1 ⟨v4, rfl, hT4, hF4⟩)
        have hS1 := (⟨⟨_, _, hT4⟩, hS0.2.trans hF4⟩ : (∃ v2 S2, Ty A x1 g pre v2 S2) ∧ Fw A g w1 x1)
        refine hK.out _ _ hS1 (fun _ => ?_)
        clear hK K
        refine wpAnyH_take (i := 9) (oi := { dst := some 4, op := .assign (.tmp 49), type := _, pos := _, after := _, guard := none }) (v := .bool (Z.2)) rfl (by kernel_rfl) (by kernel_rfl) (by kernel_rfl) (fun _ _ _ h => h) (Or.inl ⟨by rfl, ?_⟩) hS1 ?_
        · intro wS hSw
          go_simp
        simp only [Act.put, List.setIfInBounds_toArray, List.set_cons_zero, List.set_cons_succ]
        refine wpAnyH_done (by kernel_rfl) ?_ _
        have HT2 : Hid (Ty A x1 g pre v4 Z.1) := hT4
        have HF2 : Hid (Fw A g w x1) := (Fw.of_below hb1).trans hS1.2
        clear hT4 hF4 hS1 hS0 HO
        go_wp2
        go_ret
        exact ⟨_, rfl, HT2.out, HF2.out⟩

end Go.Proofs.Ytefklmckkigllaa

/- What must stand on the stack. -/
namespace Go.Proofs.Ytefklmckkigllaa
open Go.RowKit
set_option linter.unusedVariables false

/-- A row of types that is read. -/
def TyRow (w : World) (a : Option Addr) (S : List Nat) : Prop := S = [] ∨ ∃ b, a = some ⟨b, 0, none⟩ ∧ ∀ i, i < S.length → w.cell? ⟨b, i, none⟩ = some (.int .u8 (S.getD i 0 : Int))
theorem TyRow.below {w w' : World} {a : Option Addr} {S : List Nat} (h : TyRow w a S) (hb : Below w.heap.size w w') : TyRow w' a S := by
  rcases h with h | ⟨b, ha, h⟩
  · exact .inl h
  · exact .inr ⟨b, ha, fun i hi => (hb.cell (lt_of_cell (h i hi))).trans (h i hi)⟩
theorem TyRow.of_own {A : Nat} {w : World} {a : Option Addr} {n c : Nat} {S : List Nat} (h : w.ownsRow A 32 1 (.slice a n c) S.length (S.map tyC)) : TyRow w a S := by
  cases a with
  | none =>
    obtain ⟨_, ⟨_, h3⟩ | ⟨b', cap', cur, hv, _⟩⟩ := h
    · exact .inl (List.length_eq_zero_iff.1 h3)
    · cases hv
  | some p =>
    obtain ⟨b, rfl⟩ : ∃ b, p = ⟨b, 0, none⟩ := by
      obtain ⟨_, ⟨h2, _⟩ | ⟨b', cap', cur, hv, _⟩⟩ := h
      · cases h2
      · cases hv; exact ⟨_, rfl⟩
    exact .inr ⟨b, rfl, fun i hi => own_cell h i hi⟩

set_option maxRecDepth 100000 in
set_option maxHeartbeats 3200000 in
theorem sameTypes_any {w0 : World} (a1 a2 : Option Addr) (c1 c2 : Nat) (S W : List Nat) (h1 : TyRow w0 a1 S) (h2 : TyRow w0 a2 W) (hl1 : S.length ≤ 1048576) (hl2 : W.length ≤ 1048576) :
    Calls Try.prog 72 #[.slice a1 S.length c1, .slice a2 W.length c2] w0 fun e w' => e = .returned (.bool (decide (S = W))) ∧ Below w0.heap.size w0 w' := by
  obtain ⟨w, hw⟩ : ∃ w, w = w0 := ⟨_, rfl⟩
  subst hw
  obtain ⟨n, hn⟩ : ∃ n, Hid (n = S.length) := ⟨_, (rfl : S.length = _)⟩
  obtain ⟨m, hm⟩ : ∃ m, Hid (m = W.length) := ⟨_, (rfl : W.length = _)⟩
  rw [← hn.out] at hl1 ⊢
  rw [← hm.out] at hl2 ⊢
  obtain ⟨R, hR⟩ : ∃ R, Hid (R = decide (S = W)) := ⟨_, (rfl : decide (S = W) = _)⟩
  rw [← hR.out]
  by_cases hnm : n = m
  · subst hnm
    have H : Hid (TyRow w a1 S ∧ TyRow w a2 W) := ⟨h1, h2⟩
    clear h1 h2
    go_enter Try.func72, Try.ntmps72
    go_wp2_with fail
    go_loopw [5, 13] (fun _ j wr => ∃ i : Nat, j = .int .i64 (i : Int) ∧ i ≤ n ∧ Hid (Below w.heap.size w wr ∧ ∀ q, q < i → S.getD q 0 = W.getD q 0)) (fun _ j _ => n - (intOf j).toNat)
    case atStart => exact ⟨0, rfl, by omega, Below.refl _ _, fun q hq => by omega⟩
    case round =>
      obtain ⟨i, rfl, hi, hX⟩ := hrel
      by_cases hc : i < n
      · obtain ⟨hbw, hall⟩ := hX.out
        obtain ⟨b1, rfl, hc1⟩ : ∃ b, a1 = some ⟨b, 0, none⟩ ∧ wr.cell? ⟨b, i, none⟩ = some (.int .u8 (S.getD i 0 : Int)) := by
          rcases H.out.1.below hbw with h | ⟨b, ha, h⟩
          · rw [hn.out, h] at hc; simp at hc
          · exact ⟨b, ha, h i (by rw [← hn.out]; exact hc)⟩
        obtain ⟨b2, rfl, hc2⟩ : ∃ b, a2 = some ⟨b, 0, none⟩ ∧ wr.cell? ⟨b, i, none⟩ = some (.int .u8 (W.getD i 0 : Int)) := by
          rcases H.out.2.below hbw with h | ⟨b, ha, h⟩
          · rw [hm.out, h] at hc; simp at hc
          · exact ⟨b, ha, h i (by rw [← hm.out]; exact hc)⟩
        have HL : Hid (∀ q, q < i → S.getD q 0 = W.getD q 0) := hall
        have HBW : Hid (Below w.heap.size w wr) := hbw
        have HSi : Hid (S.getD i 0 = S.getD i 0) := rfl
        obtain ⟨x, hx⟩ : ∃ x, Hid (x = S.getD i 0) := ⟨_, (rfl : S.getD i 0 = _)⟩
        obtain ⟨y, hy⟩ : ∃ y, Hid (y = W.getD i 0) := ⟨_, (rfl : W.getD i 0 = _)⟩
        rw [← hx.out] at hc1
        rw [← hy.out] at hc2
        clear hX hall hbw H HSi
        by_cases hxy : x = y
        · have HXY : Hid (x = y) := hxy
          have e : ((x : Int) != (y : Int)) = false := by simp [hxy]
          clear hxy
          go_wp2_with fail
          go_quiet (fail)
          go_wp2
          go_roundw
          case rel =>
            refine ⟨i + 1, by go_num, by omega, HBW.out.trans ((below_drewN _ _).mono HBW.out.size), fun q hq => ?_⟩
            by_cases hqi : q = i
            · subst hqi; rw [← hx.out, ← hy.out]; exact HXY.out
            · exact HL.out q (by omega)
          case measure => simp [intOf]; omega
        · have HXY : Hid (¬ x = y) := hxy
          have e : ((x : Int) != (y : Int)) = true := by rw [bne_iff_ne]; omega
          clear hxy
          go_wp2_with fail
          go_quiet (fail)
          go_wp2
          go_ret
          refine ⟨?_, HBW.out.trans ((below_drewN _ _).mono HBW.out.size)⟩
          have : R = false := by
            rw [hR.out, decide_eq_false_iff_not]
            intro h
            exact HXY.out (by rw [hx.out, hy.out, h])
          rw [this]
          rfl
      · have hin : i = n := by omega
        subst hin
        obtain ⟨hbw, hall⟩ := hX.out
        have HBW : Hid (Below w.heap.size w wr) := hbw
        have hRt : R = true := by
          rw [hR.out, decide_eq_true_iff]
          refine List.ext_getElem (by rw [← hn.out, ← hm.out]) fun q h1 h2 => ?_
          have := hall q (by rw [hn.out]; exact h1)
          rw [List.getD, List.getD, List.getElem?_eq_getElem h1, List.getElem?_eq_getElem h2] at this
          exact this
        clear hX hall hbw H hR
        subst hRt
        go_wp2
        go_ret
        exact ⟨rfl, HBW.out⟩
  · have e : ((n : Int) != (m : Int)) = true := by rw [bne_iff_ne]; omega
    have hRf : R = false := by
      rw [hR.out, decide_eq_false_iff_not]
      intro h
      exact hnm (by rw [hn.out, hm.out, h])
    clear hR hnm h1 h2
    subst hRf
    go_enter Try.func72, Try.ntmps72
    go_wp2
    go_ret
    exact ⟨rfl, Below.refl _ _⟩

/-- What must stand on the stack behind a node's instructions. -/
def wantT (locals shared : List Vl) (x : Nd) : List Nat :=
  if x.kind = 1 then [(locals.getD x.arg.toNat ⟨0, 0⟩).t] else if x.kind = 2 then [(shared.getD x.arg.toNat ⟨0, 0⟩).t] else if x.kind = 5 ∨ x.kind = 6 then [2] else []

set_option maxRecDepth 100000 in
set_option maxHeartbeats 6400000 in
theorem wanted_any (A g B : Nat) (a1 : Option Addr) (c1 : Nat) (mu : Int) (s2 : Value) (a3 : Option Addr) (c3 : Nat) (stk : Int) (a4 : Option Addr) (nn c4 : Nat) (shared locals : List Vl) (v : Value) (S : List Nat) (a : Option Addr) (n c : Nat) (code : List Ir) (kind arg next alt : Int) (hm : mayA locals.length shared.length mu ⟨code, kind, arg, next, alt⟩ = true) (w : World) (hT : Ty A w g (pre6 a1 shared.length c1 mu s2 a3 locals.length c3 stk a4 nn c4) v S) (hAw : A ≤ w.heap.size)
    (hBA : B ≤ A) (hR1 : RowVl B w a1 c1 shared) (hR3 : RowVl B w a3 c3 locals) :
    Calls Try.prog 73 #[.pointer (some ⟨g, 0, none⟩), .agg [.slice a n c, .int .i64 kind, .int .i64 arg, .int .i64 next, .int .i64 alt].toArray] w fun e w' => ∃ ar cr, e = .returned (.slice ar (wantT locals shared ⟨code, kind, arg, next, alt⟩).length cr) ∧ TyRow w' ar (wantT locals shared ⟨code, kind, arg, next, alt⟩) ∧ Below w.heap.size w w' := by
  have hp : (pre6 a1 shared.length c1 mu s2 a3 locals.length c3 stk a4 nn c4).length = 6 := rfl
  have h0p : (pre6 a1 shared.length c1 mu s2 a3 locals.length c3 stk a4 nn c4)[0]? = some (.slice a1 shared.length c1) := rfl
  have h3p : (pre6 a1 shared.length c1 mu s2 a3 locals.length c3 stk a4 nn c4)[3]? = some (.slice a3 locals.length c3) := rfl
  have hl1 := hR1.1
  have hl3 := hR3.1
  have HT : Hid (Ty A w g (pre6 a1 shared.length c1 mu s2 a3 locals.length c3 stk a4 nn c4) v S) := hT
  unfold wantT
  unfold mayA at hm
  dsimp only at hm ⊢
  by_cases h1 : kind = 1
  · rw [if_pos h1] at hm ⊢
    have e1' : (kind == 1) = true := by rw [beq_iff_eq]; exact h1
    clear h1
    obtain ⟨k, rfl, hkn⟩ := isP_nat (n := locals.length) hm
    obtain ⟨y, hy⟩ : ∃ y, locals[k]? = some y := ⟨locals[k]'hkn, List.getElem?_eq_getElem hkn⟩
    have hyd : locals.getD (k : Int).toNat ⟨0, 0⟩ = y := by rw [Int.toNat_natCast, List.getD, hy]; rfl
    rw [hyd]
    obtain ⟨gr, oo, rfl, hgr, hrr, hyo⟩ := hR3.at k y hy
    obtain ⟨yt, yb⟩ := y
    have HR : Hid (w.rangeAt gr (oo + k * 2) (Vl.cells ⟨yt, yb⟩)) := hrr
    dsimp only
    have hhd := h3p
    have hln := hl3
    have hk2 := hkn
    clear hm hR1 hR3 hT hy hyd hrr hyo h0p h3p hl1 hl3 hkn
    generalize (pre6 a1 shared.length c1 mu s2 (some ⟨gr, oo, none⟩) locals.length c3 stk a4 nn c4) = pre at *
    generalize locals.length = nr at *
    generalize hcre : c3 = cr at *
    clear hcre
    go_enter Try.func73, Try.ntmps73
    go_wp2_with (first
      | ((with_reducible show wpList _ _ _ _ _ _); refine wpList_box_at rfl 49 (.tmp 1) rfl [.slice a n c, .int .i64 kind, .int .i64 (k : Int), .int .i64 next, .int .i64 alt] rfl ?_; intro w1 hA1 hb1 hs1; clear hs1; refine Hid.out ?_))
    refine hidU ?_
    have d1 : w1.cell? ⟨w.heap.size, 1, none⟩ = some (.int .i64 kind) := by rw [hA1.cell]; rfl
    have d2 : w1.cell? ⟨w.heap.size, 2, none⟩ = some (.int .i64 (k : Int)) := by rw [hA1.cell]; rfl
    clear hA1
    have e1 : w1.cell? ⟨g, 3, none⟩ = some (.slice (some ⟨gr, oo, none⟩) nr cr) := by rw [(HT.out.below hb1).pre hp 3 (by decide)]; exact hhd
    have e2 : w1.cell? ⟨gr, oo + k * 2, none⟩ = some (.int .u8 (yt : Int)) := ((Old.of_below hb1 hAw).range (by omega) HR.out) 0 _ rfl
    clear HT HR
    go_wp2_with fail
    have hS0 : Below w1.heap.size w1 w1.drew := Below.drew (Below.refl _ _)
    refine wp_region_held_drew (S := fun x => Below w1.heap.size w1 x) (by kernel_rfl) hS0 (fun _ => ?_)
    refine wpAnyH_take (i := 0) (oi := { dst := some 9, op := .move (.tmp 0), type := _, pos := _, after := _, guard := none }) (v := .pointer (some ⟨g, 0, none⟩)) rfl (by kernel_rfl) (by kernel_rfl) (by kernel_rfl) (fun _ _ _ h => h) (Or.inl ⟨by rfl, ?_⟩) hS0 ?_
    · intro wS hSw
      go_simp
    simp only [Act.put, List.setIfInBounds_toArray, List.set_cons_zero, List.set_cons_succ]
    refine wpAnyH_take (i := 1) (oi := { dst := some 10, op := .nilCheck (.tmp 9), type := _, pos := _, after := _, guard := none }) (v := .pointer (some ⟨g, 0, none⟩)) rfl (by kernel_rfl) (by kernel_rfl) (by kernel_rfl) (fun _ _ _ h => h) (Or.inl ⟨by rfl, ?_⟩) hS0 ?_
    · intro wS hSw
      go_simp
    simp only [Act.put, List.setIfInBounds_toArray, List.set_cons_zero, List.set_cons_succ]
    refine wpAnyH_take (i := 2) (oi := { dst := some 11, op := .fieldAddr 99 (.tmp 10) 0, type := _, pos := _, after := _, guard := none }) (v := .pointer (some ⟨g, 0, none⟩)) rfl (by kernel_rfl) (by kernel_rfl) (by kernel_rfl) (fun _ _ _ h => h) (Or.inl ⟨by rfl, ?_⟩) hS0 ?_
    · intro wS hSw
      go_simp
    simp only [Act.put, List.setIfInBounds_toArray, List.set_cons_zero, List.set_cons_succ]
    refine wpAnyH_take (i := 3) (oi := { dst := some 12, op := .fieldAddr 89 (.tmp 11) 1, type := _, pos := _, after := _, guard := none }) (v := .pointer (some ⟨g, 3, none⟩)) rfl (by kernel_rfl) (by kernel_rfl) (by kernel_rfl) (fun _ _ _ h => h) (Or.inl ⟨by rfl, ?_⟩) hS0 ?_
    · intro wS hSw
      go_simp
    simp only [Act.put, List.setIfInBounds_toArray, List.set_cons_zero, List.set_cons_succ]
    refine wpAnyH_take (i := 4) (oi := { dst := some 13, op := .fieldAddr 45 (.tmp 12) 0, type := _, pos := _, after := _, guard := none }) (v := .pointer (some ⟨g, 3, none⟩)) rfl (by kernel_rfl) (by kernel_rfl) (by kernel_rfl) (fun _ _ _ h => h) (Or.inl ⟨by rfl, ?_⟩) hS0 ?_
    · intro wS hSw
      go_simp
    simp only [Act.put, List.setIfInBounds_toArray, List.set_cons_zero, List.set_cons_succ]
    refine wpAnyH_take (i := 5) (oi := { dst := some 14, op := .load 22 (.tmp 13), type := _, pos := _, after := _, guard := none }) (v := .slice (some ⟨gr, oo, none⟩) nr cr) rfl (by kernel_rfl) (by kernel_rfl) (by kernel_rfl) (fun _ _ _ h => h) (Or.inl ⟨by rfl, ?_⟩) hS0 ?_
    · intro wS hSw
      have z0 := (hSw.cell (lt_of_cell e1)).trans e1
      go_simp
    simp only [Act.put, List.setIfInBounds_toArray, List.set_cons_zero, List.set_cons_succ]
    refine wpAnyH_take (i := 6) (oi := { dst := some 15, op := .fieldAddr 49 (.tmp 3) 2, type := _, pos := _, after := _, guard := none }) (v := .pointer (some ⟨w.heap.size, 2, none⟩)) rfl (by kernel_rfl) (by kernel_rfl) (by kernel_rfl) (fun _ _ _ h => h) (Or.inl ⟨by rfl, ?_⟩) hS0 ?_
    · intro wS hSw
      go_simp
    simp only [Act.put, List.setIfInBounds_toArray, List.set_cons_zero, List.set_cons_succ]
    refine wpAnyH_take (i := 7) (oi := { dst := some 16, op := .load 3 (.tmp 15), type := _, pos := _, after := _, guard := none }) (v := .int .i64 (k : Int)) rfl (by kernel_rfl) (by kernel_rfl) (by kernel_rfl) (fun _ _ _ h => h) (Or.inl ⟨by rfl, ?_⟩) hS0 ?_
    · intro wS hSw
      have z0 := (hSw.cell (lt_of_cell d2)).trans d2
      go_simp
    simp only [Act.put, List.setIfInBounds_toArray, List.set_cons_zero, List.set_cons_succ]
    refine wpAnyH_take (i := 8) (oi := { dst := some 17, op := .indexAddr 22 (.tmp 14) (.tmp 16), type := _, pos := _, after := _, guard := none }) (v := .pointer (some ⟨gr, oo + k * 2, none⟩)) rfl (by kernel_rfl) (by kernel_rfl) (by kernel_rfl) (fun _ _ _ h => h) (Or.inl ⟨by rfl, ?_⟩) hS0 ?_
    · intro wS hSw
      go_simp
    simp only [Act.put, List.setIfInBounds_toArray, List.set_cons_zero, List.set_cons_succ]
    refine wpAnyH_take (i := 9) (oi := { dst := some 18, op := .fieldAddr 35 (.tmp 17) 0, type := _, pos := _, after := _, guard := none }) (v := .pointer (some ⟨gr, oo + k * 2, none⟩)) rfl (by kernel_rfl) (by kernel_rfl) (by kernel_rfl) (fun _ _ _ h => h) (Or.inl ⟨by rfl, ?_⟩) hS0 ?_
    · intro wS hSw
      go_simp
    simp only [Act.put, List.setIfInBounds_toArray, List.set_cons_zero, List.set_cons_succ]
    refine wpAnyH_take (i := 10) (oi := { dst := some 19, op := .load 32 (.tmp 18), type := _, pos := _, after := _, guard := none }) (v := .int .u8 (yt : Int)) rfl (by kernel_rfl) (by kernel_rfl) (by kernel_rfl) (fun _ _ _ h => h) (Or.inl ⟨by rfl, ?_⟩) hS0 ?_
    · intro wS hSw
      have z0 := (hSw.cell (lt_of_cell e2)).trans e2
      go_simp
    simp only [Act.put, List.setIfInBounds_toArray, List.set_cons_zero, List.set_cons_succ]
    refine wpAnyH_ready (rs := [11]) (by kernel_rfl) (by simp) ?_
    refine AllReadyH.cons (o := { dst := some 20, op := .buildSlice 97 1 #[(0, .tmp 19)], type := _, pos := _, after := _, guard := none }) rfl (fun K hK => ?_) AllReadyH.nil
    rw [if_pos (by rfl)]
    go_simp
    obtain ⟨wa, hwa⟩ : ∃ x, x = (w1.alloc (.cells #[.int .u8 (yt : Int)] 32)).drew := ⟨_, rfl⟩
    have hbA : Below w1.heap.size w1 wa := by rw [hwa]; exact Below.drew ((Below.refl _ _).alloc (Nat.le_refl _) _)
    have hnew : wa.cell? ⟨w1.heap.size, 0, none⟩ = some (.int .u8 (yt : Int)) := by rw [hwa]; show (w1.alloc (.cells #[.int .u8 (yt : Int)] 32)).cell? _ = _; rw [World.cell?_alloc_at _ _ _ _ rfl]; rfl
    rw [← hwa]
    clear hwa
    refine hK.out _ _ hbA (fun _ => ?_)
    clear hK K
    try simp only [Act.put, List.setIfInBounds_toArray, List.set_cons_zero, List.set_cons_succ]
    refine wpAnyH_take (i := 12) (oi := { dst := some 4, op := .assign (.tmp 20), type := _, pos := _, after := _, guard := none }) (v := .slice (some ⟨w1.heap.size, 0, none⟩) 1 1) rfl (by kernel_rfl) (by kernel_rfl) (by kernel_rfl) (fun _ _ _ h => h) (Or.inl ⟨by rfl, ?_⟩) hbA ?_
    · intro wS hSw
      go_simp
    simp only [Act.put, List.setIfInBounds_toArray, List.set_cons_zero, List.set_cons_succ]
    refine wpAnyH_done (by kernel_rfl) ?_ _
    have HN : Hid (wa.cell? ⟨w1.heap.size, 0, none⟩ = some (.int .u8 (yt : Int))) := hnew
    have HB : Hid (Below w.heap.size w wa) := hb1.trans (hbA.mono hb1.size)
    clear hnew hbA hS0
    go_wp2
    go_ret
    refine ⟨_, _, rfl, .inr ⟨_, rfl, fun i hi => ?_⟩, HB.out⟩
    obtain rfl : i = 0 := by simp at hi; omega
    exact HN.out
  · rw [if_neg h1] at hm ⊢
    have e1' : (kind == 1) = false := by rw [beq_eq_false_iff_ne]; exact h1
    by_cases h2 : kind = 2
    · rw [if_pos h2] at hm ⊢
      have e2' : (kind == 2) = true := by rw [beq_iff_eq]; exact h2
      clear h1 h2
      obtain ⟨k, rfl, hkn⟩ := isP_nat (n := shared.length) hm
      obtain ⟨y, hy⟩ : ∃ y, shared[k]? = some y := ⟨shared[k]'hkn, List.getElem?_eq_getElem hkn⟩
      have hyd : shared.getD (k : Int).toNat ⟨0, 0⟩ = y := by rw [Int.toNat_natCast, List.getD, hy]; rfl
      rw [hyd]
      obtain ⟨gr, oo, rfl, hgr, hrr, hyo⟩ := hR1.at k y hy
      obtain ⟨yt, yb⟩ := y
      have HR : Hid (w.rangeAt gr (oo + k * 2) (Vl.cells ⟨yt, yb⟩)) := hrr
      dsimp only
      have hhd := h0p
      have hln := hl1
      have hk2 := hkn
      clear hm hR1 hR3 hT hy hyd hrr hyo h0p h3p hl1 hl3 hkn
      generalize (pre6 (some ⟨gr, oo, none⟩) shared.length c1 mu s2 a3 locals.length c3 stk a4 nn c4) = pre at *
      generalize shared.length = nr at *
      generalize hcre : c1 = cr at *
      clear hcre
      go_enter Try.func73, Try.ntmps73
      go_wp2_with (first
        | ((with_reducible show wpList _ _ _ _ _ _); refine wpList_box_at rfl 49 (.tmp 1) rfl [.slice a n c, .int .i64 kind, .int .i64 (k : Int), .int .i64 next, .int .i64 alt] rfl ?_; intro w1 hA1 hb1 hs1; clear hs1; refine Hid.out ?_))
      refine hidU ?_
      have d1 : w1.cell? ⟨w.heap.size, 1, none⟩ = some (.int .i64 kind) := by rw [hA1.cell]; rfl
      have d2 : w1.cell? ⟨w.heap.size, 2, none⟩ = some (.int .i64 (k : Int)) := by rw [hA1.cell]; rfl
      clear hA1
      have e1 : w1.cell? ⟨g, 0, none⟩ = some (.slice (some ⟨gr, oo, none⟩) nr cr) := by rw [(HT.out.below hb1).pre hp 0 (by decide)]; exact hhd
      have e2 : w1.cell? ⟨gr, oo + k * 2, none⟩ = some (.int .u8 (yt : Int)) := ((Old.of_below hb1 hAw).range (by omega) HR.out) 0 _ rfl
      clear HT HR
      go_wp2_with fail
      have hS0 : Below w1.heap.size w1 w1.drew := Below.drew (Below.refl _ _)
      refine wp_region_held_drew (S := fun x => Below w1.heap.size w1 x) (by kernel_rfl) hS0 (fun _ => ?_)
      refine wpAnyH_take (i := 0) (oi := { dst := some 23, op := .move (.tmp 0), type := _, pos := _, after := _, guard := none }) (v := .pointer (some ⟨g, 0, none⟩)) rfl (by kernel_rfl) (by kernel_rfl) (by kernel_rfl) (fun _ _ _ h => h) (Or.inl ⟨by rfl, ?_⟩) hS0 ?_
      · intro wS hSw
        go_simp
      simp only [Act.put, List.setIfInBounds_toArray, List.set_cons_zero, List.set_cons_succ]
      refine wpAnyH_take (i := 1) (oi := { dst := some 24, op := .nilCheck (.tmp 23), type := _, pos := _, after := _, guard := none }) (v := .pointer (some ⟨g, 0, none⟩)) rfl (by kernel_rfl) (by kernel_rfl) (by kernel_rfl) (fun _ _ _ h => h) (Or.inl ⟨by rfl, ?_⟩) hS0 ?_
      · intro wS hSw
        go_simp
      simp only [Act.put, List.setIfInBounds_toArray, List.set_cons_zero, List.set_cons_succ]
      refine wpAnyH_take (i := 2) (oi := { dst := some 25, op := .fieldAddr 99 (.tmp 24) 0, type := _, pos := _, after := _, guard := none }) (v := .pointer (some ⟨g, 0, none⟩)) rfl (by kernel_rfl) (by kernel_rfl) (by kernel_rfl) (fun _ _ _ h => h) (Or.inl ⟨by rfl, ?_⟩) hS0 ?_
      · intro wS hSw
        go_simp
      simp only [Act.put, List.setIfInBounds_toArray, List.set_cons_zero, List.set_cons_succ]
      refine wpAnyH_take (i := 3) (oi := { dst := some 26, op := .fieldAddr 89 (.tmp 25) 0, type := _, pos := _, after := _, guard := none }) (v := .pointer (some ⟨g, 0, none⟩)) rfl (by kernel_rfl) (by kernel_rfl) (by kernel_rfl) (fun _ _ _ h => h) (Or.inl ⟨by rfl, ?_⟩) hS0 ?_
      · intro wS hSw
        go_simp
      simp only [Act.put, List.setIfInBounds_toArray, List.set_cons_zero, List.set_cons_succ]
      refine wpAnyH_take (i := 4) (oi := { dst := some 27, op := .fieldAddr 25 (.tmp 26) 0, type := _, pos := _, after := _, guard := none }) (v := .pointer (some ⟨g, 0, none⟩)) rfl (by kernel_rfl) (by kernel_rfl) (by kernel_rfl) (fun _ _ _ h => h) (Or.inl ⟨by rfl, ?_⟩) hS0 ?_
      · intro wS hSw
        go_simp
      simp only [Act.put, List.setIfInBounds_toArray, List.set_cons_zero, List.set_cons_succ]
      refine wpAnyH_take (i := 5) (oi := { dst := some 28, op := .load 22 (.tmp 27), type := _, pos := _, after := _, guard := none }) (v := .slice (some ⟨gr, oo, none⟩) nr cr) rfl (by kernel_rfl) (by kernel_rfl) (by kernel_rfl) (fun _ _ _ h => h) (Or.inl ⟨by rfl, ?_⟩) hS0 ?_
      · intro wS hSw
        have z0 := (hSw.cell (lt_of_cell e1)).trans e1
        go_simp
      simp only [Act.put, List.setIfInBounds_toArray, List.set_cons_zero, List.set_cons_succ]
      refine wpAnyH_take (i := 6) (oi := { dst := some 29, op := .fieldAddr 49 (.tmp 3) 2, type := _, pos := _, after := _, guard := none }) (v := .pointer (some ⟨w.heap.size, 2, none⟩)) rfl (by kernel_rfl) (by kernel_rfl) (by kernel_rfl) (fun _ _ _ h => h) (Or.inl ⟨by rfl, ?_⟩) hS0 ?_
      · intro wS hSw
        go_simp
      simp only [Act.put, List.setIfInBounds_toArray, List.set_cons_zero, List.set_cons_succ]
      refine wpAnyH_take (i := 7) (oi := { dst := some 30, op := .load 3 (.tmp 29), type := _, pos := _, after := _, guard := none }) (v := .int .i64 (k : Int)) rfl (by kernel_rfl) (by kernel_rfl) (by kernel_rfl) (fun _ _ _ h => h) (Or.inl ⟨by rfl, ?_⟩) hS0 ?_
      · intro wS hSw
        have z0 := (hSw.cell (lt_of_cell d2)).trans d2
        go_simp
      simp only [Act.put, List.setIfInBounds_toArray, List.set_cons_zero, List.set_cons_succ]
      refine wpAnyH_take (i := 8) (oi := { dst := some 31, op := .indexAddr 22 (.tmp 28) (.tmp 30), type := _, pos := _, after := _, guard := none }) (v := .pointer (some ⟨gr, oo + k * 2, none⟩)) rfl (by kernel_rfl) (by kernel_rfl) (by kernel_rfl) (fun _ _ _ h => h) (Or.inl ⟨by rfl, ?_⟩) hS0 ?_
      · intro wS hSw
        go_simp
      simp only [Act.put, List.setIfInBounds_toArray, List.set_cons_zero, List.set_cons_succ]
      refine wpAnyH_take (i := 9) (oi := { dst := some 32, op := .fieldAddr 35 (.tmp 31) 0, type := _, pos := _, after := _, guard := none }) (v := .pointer (some ⟨gr, oo + k * 2, none⟩)) rfl (by kernel_rfl) (by kernel_rfl) (by kernel_rfl) (fun _ _ _ h => h) (Or.inl ⟨by rfl, ?_⟩) hS0 ?_
      · intro wS hSw
        go_simp
      simp only [Act.put, List.setIfInBounds_toArray, List.set_cons_zero, List.set_cons_succ]
      refine wpAnyH_take (i := 10) (oi := { dst := some 33, op := .load 32 (.tmp 32), type := _, pos := _, after := _, guard := none }) (v := .int .u8 (yt : Int)) rfl (by kernel_rfl) (by kernel_rfl) (by kernel_rfl) (fun _ _ _ h => h) (Or.inl ⟨by rfl, ?_⟩) hS0 ?_
      · intro wS hSw
        have z0 := (hSw.cell (lt_of_cell e2)).trans e2
        go_simp
      simp only [Act.put, List.setIfInBounds_toArray, List.set_cons_zero, List.set_cons_succ]
      refine wpAnyH_ready (rs := [11]) (by kernel_rfl) (by simp) ?_
      refine AllReadyH.cons (o := { dst := some 34, op := .buildSlice 97 1 #[(0, .tmp 33)], type := _, pos := _, after := _, guard := none }) rfl (fun K hK => ?_) AllReadyH.nil
      rw [if_pos (by rfl)]
      go_simp
      obtain ⟨wa, hwa⟩ : ∃ x, x = (w1.alloc (.cells #[.int .u8 (yt : Int)] 32)).drew := ⟨_, rfl⟩
      have hbA : Below w1.heap.size w1 wa := by rw [hwa]; exact Below.drew ((Below.refl _ _).alloc (Nat.le_refl _) _)
      have hnew : wa.cell? ⟨w1.heap.size, 0, none⟩ = some (.int .u8 (yt : Int)) := by rw [hwa]; show (w1.alloc (.cells #[.int .u8 (yt : Int)] 32)).cell? _ = _; rw [World.cell?_alloc_at _ _ _ _ rfl]; rfl
      rw [← hwa]
      clear hwa
      refine hK.out _ _ hbA (fun _ => ?_)
      clear hK K
      try simp only [Act.put, List.setIfInBounds_toArray, List.set_cons_zero, List.set_cons_succ]
      refine wpAnyH_take (i := 12) (oi := { dst := some 4, op := .assign (.tmp 34), type := _, pos := _, after := _, guard := none }) (v := .slice (some ⟨w1.heap.size, 0, none⟩) 1 1) rfl (by kernel_rfl) (by kernel_rfl) (by kernel_rfl) (fun _ _ _ h => h) (Or.inl ⟨by rfl, ?_⟩) hbA ?_
      · intro wS hSw
        go_simp
      simp only [Act.put, List.setIfInBounds_toArray, List.set_cons_zero, List.set_cons_succ]
      refine wpAnyH_done (by kernel_rfl) ?_ _
      have HN : Hid (wa.cell? ⟨w1.heap.size, 0, none⟩ = some (.int .u8 (yt : Int))) := hnew
      have HB : Hid (Below w.heap.size w wa) := hb1.trans (hbA.mono hb1.size)
      clear hnew hbA hS0
      go_wp2
      go_ret
      refine ⟨_, _, rfl, .inr ⟨_, rfl, fun i hi => ?_⟩, HB.out⟩
      obtain rfl : i = 0 := by simp at hi; omega
      exact HN.out
    · rw [if_neg h2] at hm ⊢
      have e2' : (kind == 2) = false := by rw [beq_eq_false_iff_ne]; exact h2
      clear hm hR1 hR3 hT h0p h3p hl1 hl3 HT
      by_cases h56 : kind = 5 ∨ kind = 6
      · rw [if_pos h56]
        by_cases h5 : kind = 5
        · have e5' : (kind == 5) = true := by rw [beq_iff_eq]; exact h5
          clear h1 h2 h56 h5
          go_enter Try.func73, Try.ntmps73
          go_wp2_with (first
            | ((with_reducible show wpList _ _ _ _ _ _); refine wpList_box_at rfl 49 (.tmp 1) rfl [.slice a n c, .int .i64 kind, .int .i64 arg, .int .i64 next, .int .i64 alt] rfl ?_; intro w1 hA1 hb1 hs1; clear hs1; refine Hid.out ?_))
          refine hidU ?_
          have d1 : w1.cell? ⟨w.heap.size, 1, none⟩ = some (.int .i64 kind) := by rw [hA1.cell]; rfl
          have d2 : w1.cell? ⟨w.heap.size, 2, none⟩ = some (.int .i64 arg) := by rw [hA1.cell]; rfl
          clear hA1
          go_wp2
          go_ret
          refine ⟨_, _, rfl, .inr ⟨_, rfl, fun i hi => ?_⟩, hb1.trans ((Below.refl _ _).alloc hb1.size _)⟩
          obtain rfl : i = 0 := by simp at hi; omega
          rw [World.cell?_alloc_at _ _ _ _ rfl]; rfl
        · have e5' : (kind == 5) = false := by rw [beq_eq_false_iff_ne]; exact h5
          have e6' : (kind == 6) = true := by rw [beq_iff_eq]; omega
          clear h1 h2 h56 h5
          go_enter Try.func73, Try.ntmps73
          go_wp2_with (first
            | ((with_reducible show wpList _ _ _ _ _ _); refine wpList_box_at rfl 49 (.tmp 1) rfl [.slice a n c, .int .i64 kind, .int .i64 arg, .int .i64 next, .int .i64 alt] rfl ?_; intro w1 hA1 hb1 hs1; clear hs1; refine Hid.out ?_))
          refine hidU ?_
          have d1 : w1.cell? ⟨w.heap.size, 1, none⟩ = some (.int .i64 kind) := by rw [hA1.cell]; rfl
          have d2 : w1.cell? ⟨w.heap.size, 2, none⟩ = some (.int .i64 arg) := by rw [hA1.cell]; rfl
          clear hA1
          go_wp2
          go_ret
          refine ⟨_, _, rfl, .inr ⟨_, rfl, fun i hi => ?_⟩, hb1.trans ((Below.refl _ _).alloc hb1.size _)⟩
          obtain rfl : i = 0 := by simp at hi; omega
          rw [World.cell?_alloc_at _ _ _ _ rfl]; rfl
      · rw [if_neg h56]
        have e5' : (kind == 5) = false := by rw [beq_eq_false_iff_ne]; omega
        have e6' : (kind == 6) = false := by rw [beq_eq_false_iff_ne]; omega
        clear h1 h2 h56
        go_enter Try.func73, Try.ntmps73
        go_wp2_with (first
          | ((with_reducible show wpList _ _ _ _ _ _); refine wpList_box_at rfl 49 (.tmp 1) rfl [.slice a n c, .int .i64 kind, .int .i64 arg, .int .i64 next, .int .i64 alt] rfl ?_; intro w1 hA1 hb1 hs1; clear hs1; refine Hid.out ?_))
        refine hidU ?_
        have d1 : w1.cell? ⟨w.heap.size, 1, none⟩ = some (.int .i64 kind) := by rw [hA1.cell]; rfl
        have d2 : w1.cell? ⟨w.heap.size, 2, none⟩ = some (.int .i64 arg) := by rw [hA1.cell]; rfl
        clear hA1
        go_wp2
        go_ret
        exact ⟨_, _, rfl, .inl rfl, hb1⟩

end Go.Proofs.Ytefklmckkigllaa
