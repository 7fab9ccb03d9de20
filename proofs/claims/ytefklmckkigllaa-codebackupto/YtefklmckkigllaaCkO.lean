/- Whether a node fits its types: the typer's own walk. -/
import Derived.Test.YtefklmckkigllaaCkN
import Derived.Test.YtefklmckkigllaaOne
namespace Go.Proofs.Ytefklmckkigllaa
open Go.RowKit
set_option linter.unusedVariables false


theorem i97 : (Try.prog.info? 97).map (·.size) = some 1 := by kernel_rfl
theorem node_box {w1 : World} {gb : Nat} {a : Option Addr} {n c : Nat} {kind arg next alt : Int} (h : At 49 w1 gb [.slice a n c, .int .i64 kind, .int .i64 arg, .int .i64 next, .int .i64 alt]) : w1.cell? ⟨gb, 0, none⟩ = some (.slice a n c) ∧ w1.cell? ⟨gb, 1, none⟩ = some (.int .i64 kind) ∧ w1.cell? ⟨gb, 2, none⟩ = some (.int .i64 arg) ∧ w1.cell? ⟨gb, 3, none⟩ = some (.int .i64 next) ∧ w1.cell? ⟨gb, 4, none⟩ = some (.int .i64 alt) := by
  refine ⟨?_, ?_, ?_, ?_, ?_⟩ <;> (rw [h.cell]; rfl)

set_option maxRecDepth 100000 in
set_option maxHeartbeats 6400000 in
theorem fits_any (A g B : Nat) (a1 : Option Addr) (c1 : Nat) (mu : Int) (s2 : Value) (a3 : Option Addr) (c3 : Nat) (stk : Int) (a4 : Option Addr) (nn c4 : Nat) (shared locals : List Vl) (hL : ∀ v ∈ locals, mayV v = true) (hSh : ∀ v ∈ shared, mayV v = true) (x : NT) (hm : mayN locals.length shared.length mu nn x.nd = true) (v : Value) (S : List Nat) (w : World) (hx : x.In B w) (hT : Ty A w g (pre6 a1 shared.length c1 mu s2 a3 locals.length c3 stk a4 nn c4) v S) (hAw : A ≤ w.heap.size)
    (hBA : B ≤ A) (hR1 : RowVl B w a1 c1 shared) (hR3 : RowVl B w a3 c3 locals) :
    Calls Try.prog 54 #[.pointer (some ⟨g, 0, none⟩), .agg x.cells.toArray] w fun e w' => e = .returned (.bool (fitsN locals shared stk x.nd)) ∧ (∃ v S, Ty A w' g (pre6 a1 shared.length c1 mu s2 a3 locals.length c3 stk a4 nn c4) v S) ∧ Fw A g w w' := by
  obtain ⟨a, c, ⟨code, kind, arg, next, alt⟩⟩ := x
  have hgw : w.heap.size ≠ g := by have := hT.lt; omega
  have hg := hT.low
  have hp : (pre6 a1 shared.length c1 mu s2 a3 locals.length c3 stk a4 nn c4).length = 6 := rfl
  have hRc : RowIr B w a c code := hx.1
  unfold mayN at hm
  rw [Bool.and_eq_true, Bool.and_eq_true] at hm
  have hmI : ∀ x ∈ code, mayI locals.length shared.length x = true := List.all_eq_true.1 hm.1
  have hmA := hm.2.1
  have Q1 : Hid (∀ u v', Fw A g w u → Ty A u g (pre6 a1 shared.length c1 mu s2 a3 locals.length c3 stk a4 nn c4) v' [] → Calls Try.prog 70 #[.slice a code.length c, .func (.func 71) #[.pointer (some ⟨g, 0, none⟩)] #[]] u fun e w' => e = .returned (.bool (runT locals shared stk [] code).isSome) ∧ (∃ v S, Ty A w' g (pre6 a1 shared.length c1 mu s2 a3 locals.length c3 stk a4 nn c4) v S ∧ (∀ T, runT locals shared stk [] code = some T → S = T ∧ T.length ≤ 1048576)) ∧ Fw A g u w') := fun u v' hu hTu => by
    have hO := hu.old hg hAw hBA
    exact allRun_any A g B a1 c1 mu s2 a3 c3 stk a4 nn c4 shared locals code hL hSh hmI a c v' u hTu (Nat.le_trans hAw hu.size) hBA (hRc.old hO) (hR1.old hO) (hR3.old hO)
  have Q2 : Hid (∀ u v' S', Fw A g w u → Ty A u g (pre6 a1 shared.length c1 mu s2 a3 locals.length c3 stk a4 nn c4) v' S' → Calls Try.prog 73 #[.pointer (some ⟨g, 0, none⟩), .agg #[.slice a code.length c, .int .i64 kind, .int .i64 arg, .int .i64 next, .int .i64 alt]] u fun e w' => ∃ ar cr, e = .returned (.slice ar (wantT locals shared ⟨code, kind, arg, next, alt⟩).length cr) ∧ TyRow w' ar (wantT locals shared ⟨code, kind, arg, next, alt⟩) ∧ Below u.heap.size u w') := fun u v' S' hu hTu => by
    have hO := hu.old hg hAw hBA
    exact wanted_any A g B a1 c1 mu s2 a3 c3 stk a4 nn c4 shared locals v' S' a code.length c code kind arg next alt hmA u hTu (Nat.le_trans hAw hu.size) hBA (hR1.old hO) (hR3.old hO)
  have hWl : (wantT locals shared ⟨code, kind, arg, next, alt⟩).length ≤ 1 := by
    unfold wantT
    repeat' split
    all_goals simp
  have hcl : code.length ≤ 1048576 := hRc.1
  unfold fitsN
  simp only [NT.cells]
  generalize wantT locals shared ⟨code, kind, arg, next, alt⟩ = W at *
  generalize runT locals shared stk [] code = RT at *
  generalize code.length = n at *
  generalize (pre6 a1 shared.length c1 mu s2 a3 locals.length c3 stk a4 nn c4) = pre at *
  have HT : Hid (Ty A w g pre v S) := hT
  obtain ⟨va, vn, vc, rfl⟩ : ∃ a n c, v = .slice a n c := by obtain ⟨x, y, z⟩ := own_len hT.own; exact ⟨_, _, _, z⟩
  have hsl := fun u => run_slice97 u va vn vc 0 0 rfl (Nat.zero_le _)
  clear hT hx hRc hm hmI hmA hR1 hR3 hL hSh
  go_enter Try.func54, Try.ntmps54
  go_wp2_with (first
    | ((with_reducible show wpList _ _ _ _ _ _); refine wpList_box_at rfl 49 (.tmp 1) rfl [.slice a n c, .int .i64 kind, .int .i64 arg, .int .i64 next, .int .i64 alt] rfl ?_; intro w1 hA1 hb1 hs1; clear hs1; refine Hid.out ?_))
  refine hidU ?_
  have hT1 := HT.out.below hb1
  have q1 : w1.cell? ⟨g, 106, none⟩ = some (.slice va vn vc) := hT1.head hp
  have k2 : w1.frozen? ⟨g, 106, none⟩ = false := hT1.cell.frozen 106
  go_wp2_with (first
    | ((with_reducible show wpList _ _ _ _ _ _); refine wpList_store_one (P := Try.prog) rfl 97 (.tmp 12) (.tmp 10) rfl g 106 (.slice va 0 vc) rfl rfl 99 _ hT1.cell (show 106 + 1 ≤ _ by simp [hp, opsC_len]) i97 rfl rfl ?_; intro w2 hA2 hb2 hs2; clear hs2; refine Hid.out ?_))
  refine hidU ?_
  have hT2 : Ty A w2 g pre (.slice va 0 vc) [] := by
    have hl : (pre ++ opsC).length = 106 := by rw [List.length_append, hp, opsC_len]
    refine ⟨?_, ?_, hg⟩
    · have e : (pre ++ opsC ++ [Value.slice va vn vc]).set 106 (.slice va 0 vc) = pre ++ opsC ++ [.slice va 0 vc] := by rw [← hl, set_last]
      rw [← e]
      exact hA2
    · have h0 := own_empty hT1.own
      obtain ⟨h1, h2 | ⟨b, cap, cur, hv, hb, hcur, h3⟩⟩ := h0
      · exact ⟨h1, .inl h2⟩
      · refine ⟨h1, .inr ⟨b, cap, cur, hv, hb, ?_, h3⟩⟩
        have hbl : b < w1.heap.size := by
          rcases Nat.lt_or_ge b w1.heap.size with q | q
          · exact q
          · rw [Array.getElem?_eq_none q] at hcur; cases hcur
        rw [hb2.block b hbl (by
          rintro rfl
          have := hT1.cell
          unfold At at this
          rw [hcur] at this
          cases this)]
        exact hcur
  have hF2 : Fw A g w w2 := (Fw.of_below hb1).trans (Fw.of_but hb2)
  have hB2 : At 49 w2 w.heap.size [.slice a n c, .int .i64 kind, .int .i64 arg, .int .i64 next, .int .i64 alt] := hb2.at hA1 hgw
  clear hT1 q1 k2 hA1 hb1 hb2 hA2 HT hsl
  go_wp2_with fail
  have hS0 : Fw A g w2 w2.drew := Fw.of_below (Below.drew (Below.refl _ _))
  refine wp_region_held_drew (S := fun x => Fw A g w2 x) (by kernel_rfl) hS0 (fun _ => ?_)
  refine wpAnyH_take (i := 0) (oi := { dst := some 13, op := .fieldAddr 49 (.tmp 3) 0, type := _, pos := _, after := _, guard := none }) (v := .pointer (some ⟨w.heap.size, 0, none⟩)) rfl (by kernel_rfl) (by kernel_rfl) (by kernel_rfl) (fun _ _ _ h => h) (Or.inl ⟨by rfl, ?_⟩) hS0 ?_
  · intro wS hSw
    go_simp
  simp only [Act.put, List.setIfInBounds_toArray, List.set_cons_zero, List.set_cons_succ]
  refine wpAnyH_take (i := 1) (oi := { dst := some 14, op := .load 38 (.tmp 13), type := _, pos := _, after := _, guard := none }) (v := .slice a n c) rfl (by kernel_rfl) (by kernel_rfl) (by kernel_rfl) (fun _ _ _ h => h) (Or.inl ⟨by rfl, ?_⟩) hS0 ?_
  · intro wS hSw
    obtain ⟨z0, z1, z2, z3, z4⟩ := node_box (hSw.at hB2 hgw (by decide))
    go_simp
  simp only [Act.put, List.setIfInBounds_toArray, List.set_cons_zero, List.set_cons_succ]
  refine wpAnyH_take (i := 2) (oi := { dst := some 15, op := .move (.tmp 0), type := _, pos := _, after := _, guard := none }) (v := .pointer (some ⟨g, 0, none⟩)) rfl (by kernel_rfl) (by kernel_rfl) (by kernel_rfl) (fun _ _ _ h => h) (Or.inl ⟨by rfl, ?_⟩) hS0 ?_
  · intro wS hSw
    go_simp
  simp only [Act.put, List.setIfInBounds_toArray, List.set_cons_zero, List.set_cons_succ]
  refine wpAnyH_take (i := 3) (oi := { dst := some 16, op := .makeFunc (.func 71) #[.tmp 15] #[], type := _, pos := _, after := _, guard := none }) (v := .func (.func 71) #[.pointer (some ⟨g, 0, none⟩)] #[]) rfl (by kernel_rfl) (by kernel_rfl) (by kernel_rfl) (fun _ _ _ h => h) (Or.inl ⟨by rfl, ?_⟩) hS0 ?_
  · intro wS hSw
    go_simp
  simp only [Act.put, List.setIfInBounds_toArray, List.set_cons_zero, List.set_cons_succ]
  refine wpAnyH_ready (rs := [4]) (by kernel_rfl) (by simp) ?_
  refine AllReadyH.cons (o := { dst := some 17, op := .call { callee := .value (.func 70), args := #[.tmp 14, .tmp 16], argTypes := #[38, 112] }, type := _, pos := _, after := _, guard := none }) rfl (fun K hK => ?_) AllReadyH.nil
  rw [if_pos (by rfl)]
  go_wp2_with (go_at_call 70; refine (Q1.out _ _ (hF2.trans hS0) (hT2.below (Below.drew (Below.refl _ _)))).mono ?_; rintro e x1 ⟨rfl, ⟨v3, S3, hT3, hS3⟩, hF3⟩)
  have hS1 : Fw A g w2 x1 := hS0.trans hF3
  refine hK.out _ _ hS1 (fun _ => ?_)
  clear hK K
  obtain ⟨v3a, v3n, v3c, rfl⟩ : ∃ a n c, v3 = .slice a n c := by obtain ⟨x, y, z⟩ := own_len hT3.own; exact ⟨_, _, _, z⟩
  obtain rfl : v3n = S3.length := by obtain ⟨x, y, z⟩ := own_len hT3.own; cases z; rfl
  cases RT with
  | none =>
    refine wpAnyH_take (i := 5) (oi := { dst := some 18, op := .move (.tmp 17), type := _, pos := _, after := _, guard := none }) (v := .bool false) rfl (by kernel_rfl) (by kernel_rfl) (by kernel_rfl) (fun _ _ _ h => h) (Or.inl ⟨by rfl, ?_⟩) hS1 ?_
    · intro wS hSw
      go_simp
    simp only [Act.put, List.setIfInBounds_toArray, List.set_cons_zero, List.set_cons_succ]
    refine wpAnyH_take (i := 6) (oi := { dst := some 19, op := .move (.tmp 0), type := _, pos := _, after := _, guard := some (5, true) }) (v := undef) rfl (by kernel_rfl) (by kernel_rfl) (by kernel_rfl) (fun _ _ _ h => h) (Or.inr ⟨by rfl, rfl⟩) hS1 ?_
    simp only [Act.put, List.setIfInBounds_toArray, List.set_cons_zero, List.set_cons_succ]
    refine wpAnyH_take (i := 7) (oi := { dst := some 20, op := .nilCheck (.tmp 19), type := _, pos := _, after := _, guard := some (5, true) }) (v := undef) rfl (by kernel_rfl) (by kernel_rfl) (by kernel_rfl) (fun _ _ _ h => h) (Or.inr ⟨by rfl, rfl⟩) hS1 ?_
    simp only [Act.put, List.setIfInBounds_toArray, List.set_cons_zero, List.set_cons_succ]
    refine wpAnyH_take (i := 8) (oi := { dst := some 21, op := .fieldAddr 99 (.tmp 20) 2, type := _, pos := _, after := _, guard := some (5, true) }) (v := undef) rfl (by kernel_rfl) (by kernel_rfl) (by kernel_rfl) (fun _ _ _ h => h) (Or.inr ⟨by rfl, rfl⟩) hS1 ?_
    simp only [Act.put, List.setIfInBounds_toArray, List.set_cons_zero, List.set_cons_succ]
    refine wpAnyH_take (i := 9) (oi := { dst := some 22, op := .load 97 (.tmp 21), type := _, pos := _, after := _, guard := some (5, true) }) (v := undef) rfl (by kernel_rfl) (by kernel_rfl) (by kernel_rfl) (fun _ _ _ h => h) (Or.inr ⟨by rfl, rfl⟩) hS1 ?_
    simp only [Act.put, List.setIfInBounds_toArray, List.set_cons_zero, List.set_cons_succ]
    refine wpAnyH_take (i := 10) (oi := { dst := some 23, op := .move (.tmp 0), type := _, pos := _, after := _, guard := some (5, true) }) (v := undef) rfl (by kernel_rfl) (by kernel_rfl) (by kernel_rfl) (fun _ _ _ h => h) (Or.inr ⟨by rfl, rfl⟩) hS1 ?_
    simp only [Act.put, List.setIfInBounds_toArray, List.set_cons_zero, List.set_cons_succ]
    refine wpAnyH_take (i := 11) (oi := { dst := some 24, op := .load 49 (.tmp 3), type := _, pos := _, after := _, guard := some (5, true) }) (v := undef) rfl (by kernel_rfl) (by kernel_rfl) (by kernel_rfl) (fun _ _ _ h => h) (Or.inr ⟨by rfl, rfl⟩) hS1 ?_
    simp only [Act.put, List.setIfInBounds_toArray, List.set_cons_zero, List.set_cons_succ]
    refine wpAnyH_take (i := 12) (oi := { dst := some 25, op := .call { callee := .value (.func 73), args := #[.tmp 23, .tmp 24], argTypes := #[90, 49] }, type := _, pos := _, after := _, guard := some (5, true) }) (v := undef) rfl (by kernel_rfl) (by kernel_rfl) (by kernel_rfl) (fun _ _ _ h => h) (Or.inr ⟨by rfl, rfl⟩) hS1 ?_
    simp only [Act.put, List.setIfInBounds_toArray, List.set_cons_zero, List.set_cons_succ]
    refine wpAnyH_take (i := 13) (oi := { dst := some 26, op := .call { callee := .value (.func 72), args := #[.tmp 22, .tmp 25], argTypes := #[97, 97] }, type := _, pos := _, after := _, guard := some (5, true) }) (v := undef) rfl (by kernel_rfl) (by kernel_rfl) (by kernel_rfl) (fun _ _ _ h => h) (Or.inr ⟨by rfl, rfl⟩) hS1 ?_
    simp only [Act.put, List.setIfInBounds_toArray, List.set_cons_zero, List.set_cons_succ]
    refine wpAnyH_take (i := 14) (oi := { dst := some 27, op := .pick (.tmp 18) (.tmp 26) (.const (.bool false)), type := _, pos := _, after := _, guard := none }) (v := .bool false) rfl (by kernel_rfl) (by kernel_rfl) (by kernel_rfl) (fun _ _ _ h => h) (Or.inl ⟨by rfl, ?_⟩) hS1 ?_
    · intro wS hSw
      go_simp
    simp only [Act.put, List.setIfInBounds_toArray, List.set_cons_zero, List.set_cons_succ]
    refine wpAnyH_take (i := 15) (oi := { dst := some 4, op := .assign (.tmp 27), type := _, pos := _, after := _, guard := none }) (v := .bool false) rfl (by kernel_rfl) (by kernel_rfl) (by kernel_rfl) (fun _ _ _ h => h) (Or.inl ⟨by rfl, ?_⟩) hS1 ?_
    · intro wS hSw
      go_simp
    simp only [Act.put, List.setIfInBounds_toArray, List.set_cons_zero, List.set_cons_succ]
    refine wpAnyH_done (by kernel_rfl) ?_ _
    have HT3 : Hid (Ty A x1 g pre _ S3) := hT3
    have HF3 : Hid (Fw A g w x1) := hF2.trans hS1
    clear hT3 hF3 hS1 hS0 hS3 Q1 Q2 hB2 hF2 hT2
    go_wp2
    go_ret
    exact ⟨rfl, ⟨_, _, HT3.out⟩, HF3.out⟩
  | some T =>
    obtain ⟨hSe, hTl⟩ := hS3 T rfl
    subst hSe
    refine wpAnyH_take (i := 5) (oi := { dst := some 18, op := .move (.tmp 17), type := _, pos := _, after := _, guard := none }) (v := .bool true) rfl (by kernel_rfl) (by kernel_rfl) (by kernel_rfl) (fun _ _ _ h => h) (Or.inl ⟨by rfl, ?_⟩) hS1 ?_
    · intro wS hSw
      go_simp
    simp only [Act.put, List.setIfInBounds_toArray, List.set_cons_zero, List.set_cons_succ]
    refine wpAnyH_take (i := 6) (oi := { dst := some 19, op := .move (.tmp 0), type := _, pos := _, after := _, guard := some (5, true) }) (v := .pointer (some ⟨g, 0, none⟩)) rfl (by kernel_rfl) (by kernel_rfl) (by kernel_rfl) (fun _ _ _ h => h) (Or.inl ⟨by rfl, ?_⟩) hS1 ?_
    · intro wS hSw
      go_simp
    simp only [Act.put, List.setIfInBounds_toArray, List.set_cons_zero, List.set_cons_succ]
    refine wpAnyH_take (i := 7) (oi := { dst := some 20, op := .nilCheck (.tmp 19), type := _, pos := _, after := _, guard := some (5, true) }) (v := .pointer (some ⟨g, 0, none⟩)) rfl (by kernel_rfl) (by kernel_rfl) (by kernel_rfl) (fun _ _ _ h => h) (Or.inl ⟨by rfl, ?_⟩) hS1 ?_
    · intro wS hSw
      go_simp
    simp only [Act.put, List.setIfInBounds_toArray, List.set_cons_zero, List.set_cons_succ]
    refine wpAnyH_take (i := 8) (oi := { dst := some 21, op := .fieldAddr 99 (.tmp 20) 2, type := _, pos := _, after := _, guard := some (5, true) }) (v := .pointer (some ⟨g, 106, none⟩)) rfl (by kernel_rfl) (by kernel_rfl) (by kernel_rfl) (fun _ _ _ h => h) (Or.inl ⟨by rfl, ?_⟩) hS1 ?_
    · intro wS hSw
      go_simp
    simp only [Act.put, List.setIfInBounds_toArray, List.set_cons_zero, List.set_cons_succ]
    refine wpAnyH_take (i := 10) (oi := { dst := some 23, op := .move (.tmp 0), type := _, pos := _, after := _, guard := some (5, true) }) (v := .pointer (some ⟨g, 0, none⟩)) rfl (by kernel_rfl) (by kernel_rfl) (by kernel_rfl) (fun _ _ _ h => h) (Or.inl ⟨by rfl, ?_⟩) hS1 ?_
    · intro wS hSw
      go_simp
    simp only [Act.put, List.setIfInBounds_toArray, List.set_cons_zero, List.set_cons_succ]
    refine wpAnyH_take (i := 11) (oi := { dst := some 24, op := .load 49 (.tmp 3), type := _, pos := _, after := _, guard := some (5, true) }) (v := .agg #[.slice a n c, .int .i64 kind, .int .i64 arg, .int .i64 next, .int .i64 alt]) rfl (by kernel_rfl) (by kernel_rfl) (by kernel_rfl) (fun _ _ _ h => h) (Or.inl ⟨by rfl, ?_⟩) hS1 ?_
    · intro wS hSw
      obtain ⟨z0, z1, z2, z3, z4⟩ := node_box (hSw.at hB2 hgw (by decide))
      go_simp
    simp only [Act.put, List.setIfInBounds_toArray, List.set_cons_zero, List.set_cons_succ]
    refine wpAnyH_ready (rs := [9, 12]) (by kernel_rfl) (by simp) ?_
    refine AllReadyH.cons (o := { dst := some 22, op := .load 97 (.tmp 21), type := _, pos := _, after := _, guard := some (5, true) }) rfl (fun K hK => ?_) (AllReadyH.cons (o := { dst := some 25, op := .call { callee := .value (.func 73), args := #[.tmp 23, .tmp 24], argTypes := #[90, 49] }, type := _, pos := _, after := _, guard := some (5, true) }) rfl (fun K hK => ?_) AllReadyH.nil)
    · rw [if_pos (by rfl)]
      have k0 : x1.cell? ⟨g, 106, none⟩ = some (.slice v3a S3.length v3c) := hT3.head hp
      go_simp
      refine hK.out _ _ hS1 (fun _ => ?_)
      clear hK K k0
      try simp only [Act.put, List.setIfInBounds_toArray, List.set_cons_zero, List.set_cons_succ]
      refine wpAnyH_ready (rs := [12]) (by kernel_rfl) (by simp) ?_
      refine AllReadyH.cons (o := { dst := some 25, op := .call { callee := .value (.func 73), args := #[.tmp 23, .tmp 24], argTypes := #[90, 49] }, type := _, pos := _, after := _, guard := some (5, true) }) rfl (fun K hK => ?_) AllReadyH.nil
      rw [if_pos (by rfl)]
      go_wp2_with (go_at_call 73; refine (Q2.out _ _ _ (hF2.trans hS1) hT3).mono ?_; rintro e x2 ⟨ar, cr, rfl, hRow, hb2⟩)
      have hS2 : Fw A g w2 x2 := hS1.trans (Fw.of_below hb2)
      refine hK.out _ _ hS2 (fun _ => ?_)
      clear hK K
      have hT4 := hT3.below hb2
      refine wpAnyH_ready (rs := [13]) (by kernel_rfl) (by simp) ?_
      refine AllReadyH.cons (o := { dst := some 26, op := .call { callee := .value (.func 72), args := #[.tmp 22, .tmp 25], argTypes := #[97, 97] }, type := _, pos := _, after := _, guard := some (5, true) }) rfl (fun K hK => ?_) AllReadyH.nil
      rw [if_pos (by rfl)]
      go_wp2_with (go_at_call 72; refine (sameTypes_any v3a ar v3c cr S3 W (TyRow.of_own hT4.own) hRow hTl (by omega)).mono ?_; rintro e x3 ⟨rfl, hb3⟩)
      have hS3' : Fw A g w2 x3 := hS2.trans (Fw.of_below hb3)
      refine hK.out _ _ hS3' (fun _ => ?_)
      clear hK K
      refine wpAnyH_take (i := 14) (oi := { dst := some 27, op := .pick (.tmp 18) (.tmp 26) (.const (.bool false)), type := _, pos := _, after := _, guard := none }) (v := .bool (decide (S3 = W))) rfl (by kernel_rfl) (by kernel_rfl) (by kernel_rfl) (fun _ _ _ h => h) (Or.inl ⟨by rfl, ?_⟩) hS3' ?_
      · intro wS hSw
        go_simp
      simp only [Act.put, List.setIfInBounds_toArray, List.set_cons_zero, List.set_cons_succ]
      refine wpAnyH_take (i := 15) (oi := { dst := some 4, op := .assign (.tmp 27), type := _, pos := _, after := _, guard := none }) (v := .bool (decide (S3 = W))) rfl (by kernel_rfl) (by kernel_rfl) (by kernel_rfl) (fun _ _ _ h => h) (Or.inl ⟨by rfl, ?_⟩) hS3' ?_
      · intro wS hSw
        go_simp
      simp only [Act.put, List.setIfInBounds_toArray, List.set_cons_zero, List.set_cons_succ]
      refine wpAnyH_done (by kernel_rfl) ?_ _
      have HT3 : Hid (Ty A x3 g pre _ S3) := hT4.below hb3
      have HF3 : Hid (Fw A g w x3) := hF2.trans hS3'
      clear hT3 hF3 hS1 hS0 hS3 Q1 Q2 hB2 hF2 hT2 hT4 hb3 hS3' hS2 hRow hb2
      go_wp2
      go_ret
      refine ⟨?_, ⟨_, _, HT3.out⟩, HF3.out⟩
      show Ending.returned (.bool (decide (S3 = W))) = _
      congr 2
      rw [Bool.eq_iff_iff, decide_eq_true_iff, decide_eq_true_iff]
      exact ⟨fun h => by rw [h], fun h => Option.some.inj h⟩
    · rw [if_pos (by rfl)]
      go_wp2_with (go_at_call 73; refine (Q2.out _ _ _ (hF2.trans hS1) hT3).mono ?_; rintro e x2 ⟨ar, cr, rfl, hRow, hb2⟩)
      have hS2 : Fw A g w2 x2 := hS1.trans (Fw.of_below hb2)
      refine hK.out _ _ hS2 (fun _ => ?_)
      clear hK K
      have hT4 := hT3.below hb2
      refine wpAnyH_ready (rs := [9]) (by kernel_rfl) (by simp) ?_
      refine AllReadyH.cons (o := { dst := some 22, op := .load 97 (.tmp 21), type := _, pos := _, after := _, guard := some (5, true) }) rfl (fun K hK => ?_) AllReadyH.nil
      rw [if_pos (by rfl)]
      have k0 : x2.cell? ⟨g, 106, none⟩ = some (.slice v3a S3.length v3c) := hT4.head hp
      go_simp
      refine hK.out _ _ hS2 (fun _ => ?_)
      clear hK K k0
      try simp only [Act.put, List.setIfInBounds_toArray, List.set_cons_zero, List.set_cons_succ]
      refine wpAnyH_ready (rs := [13]) (by kernel_rfl) (by simp) ?_
      refine AllReadyH.cons (o := { dst := some 26, op := .call { callee := .value (.func 72), args := #[.tmp 22, .tmp 25], argTypes := #[97, 97] }, type := _, pos := _, after := _, guard := some (5, true) }) rfl (fun K hK => ?_) AllReadyH.nil
      rw [if_pos (by rfl)]
      go_wp2_with (go_at_call 72; refine (sameTypes_any v3a ar v3c cr S3 W (TyRow.of_own hT4.own) hRow hTl (by omega)).mono ?_; rintro e x3 ⟨rfl, hb3⟩)
      have hS3' : Fw A g w2 x3 := hS2.trans (Fw.of_below hb3)
      refine hK.out _ _ hS3' (fun _ => ?_)
      clear hK K
      refine wpAnyH_take (i := 14) (oi := { dst := some 27, op := .pick (.tmp 18) (.tmp 26) (.const (.bool false)), type := _, pos := _, after := _, guard := none }) (v := .bool (decide (S3 = W))) rfl (by kernel_rfl) (by kernel_rfl) (by kernel_rfl) (fun _ _ _ h => h) (Or.inl ⟨by rfl, ?_⟩) hS3' ?_
      · intro wS hSw
        go_simp
      simp only [Act.put, List.setIfInBounds_toArray, List.set_cons_zero, List.set_cons_succ]
      refine wpAnyH_take (i := 15) (oi := { dst := some 4, op := .assign (.tmp 27), type := _, pos := _, after := _, guard := none }) (v := .bool (decide (S3 = W))) rfl (by kernel_rfl) (by kernel_rfl) (by kernel_rfl) (fun _ _ _ h => h) (Or.inl ⟨by rfl, ?_⟩) hS3' ?_
      · intro wS hSw
        go_simp
      simp only [Act.put, List.setIfInBounds_toArray, List.set_cons_zero, List.set_cons_succ]
      refine wpAnyH_done (by kernel_rfl) ?_ _
      have HT3 : Hid (Ty A x3 g pre _ S3) := hT4.below hb3
      have HF3 : Hid (Fw A g w x3) := hF2.trans hS3'
      clear hT3 hF3 hS1 hS0 hS3 Q1 Q2 hB2 hF2 hT2 hT4 hb3 hS3' hS2 hRow hb2
      go_wp2
      go_ret
      refine ⟨?_, ⟨_, _, HT3.out⟩, HF3.out⟩
      show Ending.returned (.bool (decide (S3 = W))) = _
      congr 2
      rw [Bool.eq_iff_iff, decide_eq_true_iff, decide_eq_true_iff]
      exact ⟨fun h => by rw [h], fun h => Option.some.inj h⟩

end Go.Proofs.Ytefklmckkigllaa
