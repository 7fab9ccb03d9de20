/- A type is put on the stack. -/
import Derived.Test.YtefklmckkigllaaCkI
namespace Go.Proofs.Ytefklmckkigllaa
open Go.RowKit
set_option linter.unusedVariables false

theorem own_one {A n : Nat} {w : World} {v : Value} {xs : List Value} (h : w.ownsRow A 32 1 v n xs) : v.oneCell' = true := by
  obtain ⟨_, ⟨rfl, _⟩ | ⟨b, cap, cur, rfl, _⟩⟩ := h <;> rfl
theorem own_len {A n : Nat} {w : World} {v : Value} {xs : List Value} (h : w.ownsRow A 32 1 v n xs) : ∃ a c, v = .slice a n c := by
  obtain ⟨_, ⟨rfl, rfl⟩ | ⟨b, cap, cur, rfl, _⟩⟩ := h
  · exact ⟨none, 0, rfl⟩
  · exact ⟨_, _, rfl⟩
set_option maxRecDepth 100000 in
set_option maxHeartbeats 6400000 in
theorem put_any (A g : Nat) (pre : List Value) (hp : pre.length = 6) (stk : Int) (hstk : pre[4]? = some (.int .i64 stk)) (v : Value) (S : List Nat) (x : Vl) (hx : x.Ok) (w : World) (hT : Ty A w g pre v S) (hlen : S.length ≤ 1048576) (hAw : A ≤ w.heap.size) :
    Calls Try.prog 85 #[.pointer (some ⟨g, 0, none⟩), .agg x.cells.toArray] w fun e w' => ∃ v', e = .returned (.bool (decide ((S.length : Int) + 1 ≤ stk))) ∧ Ty A w' g pre v' (S ++ [x.t]) ∧ Fw A g w w' := by
  obtain ⟨t, b⟩ := x
  simp only [Vl.cells]
  have hgw : w.heap.size ≠ g := by have := hT.lt; omega
  have hlast : (pre ++ opsC ++ [v])[106]? = some v := by
    rw [List.getElem?_append_right (by rw [List.length_append, hp, opsC_len]; omega), List.length_append, hp, opsC_len]
    rfl
  go_enter Try.func85, Try.ntmps85
  go_wp2_with (first
    | ((with_reducible show wpList _ _ _ _ _ _); refine wpList_box_at rfl 35 (.tmp 1) rfl [.int .u8 (t : Int), .int .u64 (b : Int)] rfl ?_; intro w1 hA1 hb1 hs1; clear hs1; refine Hid.out ?_))
  refine hidU ?_
  have hT1 := hT.below hb1
  have l1 := hb1.size
  go_wp2_with fail
  have f0 : w1.drew.cell? ⟨w.heap.size, 0, none⟩ = some (.int .u8 (t : Int)) := by show w1.cell? _ = _; rw [hA1.cell]; rfl
  refine wp_region_held_drew (S := fun x => x.cell? ⟨w.heap.size, 0, none⟩ = some (.int .u8 (t : Int))) (by kernel_rfl) f0 (fun _ => ?_)
  refine wpAnyH_take (i := 0) (oi := { dst := some 5, op := .move (.tmp 0), type := _, pos := _, after := _, guard := none }) (v := .pointer (some ⟨g, 0, none⟩)) rfl (by kernel_rfl) (by kernel_rfl) (by kernel_rfl) (fun _ _ _ h => h) (Or.inl ⟨by rfl, ?_⟩) f0 ?_
  · intro w hSw
    go_simp
  simp only [Act.put, List.setIfInBounds_toArray, List.set_cons_zero, List.set_cons_succ]
  refine wpAnyH_take (i := 1) (oi := { dst := some 6, op := .move (.tmp 0), type := _, pos := _, after := _, guard := none }) (v := .pointer (some ⟨g, 0, none⟩)) rfl (by kernel_rfl) (by kernel_rfl) (by kernel_rfl) (fun _ _ _ h => h) (Or.inl ⟨by rfl, ?_⟩) f0 ?_
  · intro w hSw
    go_simp
  simp only [Act.put, List.setIfInBounds_toArray, List.set_cons_zero, List.set_cons_succ]
  refine wpAnyH_take (i := 2) (oi := { dst := some 7, op := .nilCheck (.tmp 6), type := _, pos := _, after := _, guard := none }) (v := .pointer (some ⟨g, 0, none⟩)) rfl (by kernel_rfl) (by kernel_rfl) (by kernel_rfl) (fun _ _ _ h => h) (Or.inl ⟨by rfl, ?_⟩) f0 ?_
  · intro w hSw
    go_simp
  simp only [Act.put, List.setIfInBounds_toArray, List.set_cons_zero, List.set_cons_succ]
  refine wpAnyH_take (i := 3) (oi := { dst := some 8, op := .fieldAddr 99 (.tmp 7) 2, type := _, pos := _, after := _, guard := none }) (v := .pointer (some ⟨g, 106, none⟩)) rfl (by kernel_rfl) (by kernel_rfl) (by kernel_rfl) (fun _ _ _ h => h) (Or.inl ⟨by rfl, ?_⟩) f0 ?_
  · intro w hSw
    go_simp
  simp only [Act.put, List.setIfInBounds_toArray, List.set_cons_zero, List.set_cons_succ]
  refine wpAnyH_take (i := 5) (oi := { dst := some 10, op := .fieldAddr 35 (.tmp 3) 0, type := _, pos := _, after := _, guard := none }) (v := .pointer (some ⟨w.heap.size, 0, none⟩)) rfl (by kernel_rfl) (by kernel_rfl) (by kernel_rfl) (fun _ _ _ h => h) (Or.inl ⟨by rfl, ?_⟩) f0 ?_
  · intro w hSw
    go_simp
  simp only [Act.put, List.setIfInBounds_toArray, List.set_cons_zero, List.set_cons_succ]
  refine wpAnyH_take (i := 6) (oi := { dst := some 11, op := .load 32 (.tmp 10), type := _, pos := _, after := _, guard := none }) (v := .int .u8 (t : Int)) rfl (by kernel_rfl) (by kernel_rfl) (by kernel_rfl) (fun _ _ _ h => h) (Or.inl ⟨by rfl, ?_⟩) f0 ?_
  · intro w hSw
    go_simp
  simp only [Act.put, List.setIfInBounds_toArray, List.set_cons_zero, List.set_cons_succ]
  refine wpAnyH_ready (rs := [4, 7]) (by kernel_rfl) (by simp) ?_
  refine AllReadyH.cons (o := { dst := some 9, op := .load 97 (.tmp 8), type := _, pos := _, after := _, guard := none }) rfl (fun K hK => ?_) (AllReadyH.cons (o := { dst := some 12, op := .buildSlice 97 1 #[(0, .tmp 11)], type := _, pos := _, after := _, guard := none }) rfl (fun K hK => ?_) AllReadyH.nil)
  · skip
    rw [if_pos (by rfl)]
    have k0 : w1.drew.cell? ⟨g, 106, none⟩ = some v := (show Ty A w1.drew g pre v S from hT1.below (Below.drew (Below.refl _ _))).head hp
    go_simp
    refine hK.out _ _ f0 (fun _ => ?_)
    clear hK K
    try simp only [Act.put, List.setIfInBounds_toArray, List.set_cons_zero, List.set_cons_succ]
    refine wpAnyH_ready (rs := [7]) (by kernel_rfl) (by simp) ?_
    refine AllReadyH.cons (o := { dst := some 12, op := .buildSlice 97 1 #[(0, .tmp 11)], type := _, pos := _, after := _, guard := none }) rfl (fun K hK => ?_) AllReadyH.nil
    rw [if_pos (by rfl)]
    go_simp
    obtain ⟨wa, hwa⟩ : ∃ x, x = (w1.alloc (.cells #[.int .u8 (t : Int)] 32)).drew := ⟨_, rfl⟩
    have hbA : Below w1.heap.size w1 wa := by rw [hwa]; exact Below.drew ((Below.refl _ _).alloc (Nat.le_refl _) _)
    have hnew : wa.cell? ⟨w1.heap.size, 0, none⟩ = some (tyC t) := by rw [hwa]; show (w1.alloc (.cells #[.int .u8 (t : Int)] 32)).cell? _ = _; rw [World.cell?_alloc_at _ _ _ _ rfl]; rfl
    have hTa := hT1.below hbA
    have hBa := hA1.below hbA
    have hFa : Fw A g w wa := (Fw.of_below hb1).trans (Fw.of_below hbA)
    have hAa : A ≤ wa.heap.size := by have := hbA.size; omega
    have fa : wa.cell? ⟨w.heap.size, 0, none⟩ = some (.int .u8 (t : Int)) := by rw [hBa.cell]; rfl
    rw [← hwa]
    clear hwa
    refine hK.out _ _ fa (fun _ => ?_)
    clear hK K
    try simp only [Act.put, List.setIfInBounds_toArray, List.set_cons_zero, List.set_cons_succ]
    refine wpAnyH_ready (rs := [8]) (by kernel_rfl) (by simp) ?_
    refine AllReadyH.cons (o := { dst := some 13, op := .call { callee := .builtin .append, args := #[.tmp 9, .tmp 12], argTypes := #[97, 97] }, type := _, pos := _, after := _, guard := none }) rfl (fun K hK => ?_) AllReadyH.nil
    refine step_app32 (.tmp 9) (.tmp 12) A v S t w1.heap.size rfl rfl rfl rfl hTa.own hnew hlen hAa ?_
    intro v' w5 hown5 hgr5
    have hF5 : Fw A g wa w5 := Fw.grown hTa.own hgr5
    have hA5 : At 99 w5 g (pre ++ opsC ++ [v]) := by
      unfold At
      rw [hgr5.block g hTa.lt (fun e => hTa.ne e.symm)]
      exact hTa.cell
    have f5 : w5.cell? ⟨w.heap.size, 0, none⟩ = some (.int .u8 (t : Int)) := by rw [(hF5.at hBa hgw (by decide)).cell]; rfl
    refine hK.out _ _ f5 (fun _ => ?_)
    clear hK K
    refine wpAnyH_take (i := 9) (oi := { dst := some 14, op := .nilCheck (.tmp 5), type := _, pos := _, after := _, guard := none }) (v := .pointer (some ⟨g, 0, none⟩)) rfl (by kernel_rfl) (by kernel_rfl) (by kernel_rfl) (fun _ _ _ h => h) (Or.inl ⟨by rfl, ?_⟩) f5 ?_
    · intro w hSw
      go_simp
    simp only [Act.put, List.setIfInBounds_toArray, List.set_cons_zero, List.set_cons_succ]
    refine wpAnyH_take (i := 10) (oi := { dst := some 15, op := .fieldAddr 99 (.tmp 14) 2, type := _, pos := _, after := _, guard := none }) (v := .pointer (some ⟨g, 106, none⟩)) rfl (by kernel_rfl) (by kernel_rfl) (by kernel_rfl) (fun _ _ _ h => h) (Or.inl ⟨by rfl, ?_⟩) f5 ?_
    · intro w hSw
      go_simp
    simp only [Act.put, List.setIfInBounds_toArray, List.set_cons_zero, List.set_cons_succ]
    refine wpAnyH_ready (rs := [11]) (by kernel_rfl) (by simp) ?_
    refine AllReadyH.cons (o := { dst := none, op := .store 97 (.tmp 15) (.tmp 13), type := _, pos := _, after := _, guard := none }) rfl (fun K hK => ?_) AllReadyH.nil
    obtain ⟨va, vc, rfl⟩ : ∃ a c, v' = .slice a (S.length + 1) c := own_len (n := S.length + 1) (by rwa [List.length_append] at hown5)
    have k1 : w5.cell? ⟨g, 106, none⟩ = some v := by rw [hA5.cell]; exact hlast
    have k2 : w5.frozen? ⟨g, 106, none⟩ = false := hA5.frozen 106
    have hT6 := hT.put hp hA5 hown5
    have hB6 : But g w5 (w5.setCell ⟨g, 106, none⟩ (.slice va (S.length + 1) vc)) := (But.refl g w5).setCell 106 (.slice va (S.length + 1) vc)
    have f6 : (w5.setCell ⟨g, 106, none⟩ (.slice va (S.length + 1) vc)).cell? ⟨w.heap.size, 0, none⟩ = some (.int .u8 (t : Int)) := by rw [(hB6.at (hF5.at hBa hgw (by decide)) hgw).cell]; rfl
    go_simp
    refine hK.out _ _ f6 (fun _ => ?_)
    clear hK K
    refine wpAnyH_done (by kernel_rfl) ?_ _
    have hF6 : Fw A g w (w5.setCell ⟨g, 106, none⟩ (.slice va (S.length + 1) vc)) := (hFa.trans hF5).trans (Fw.of_but hB6)
    obtain ⟨w6, hw6⟩ : ∃ x, x = w5.setCell ⟨g, 106, none⟩ (.slice va (S.length + 1) vc) := ⟨_, rfl⟩
    rw [← hw6] at hT6 hF6 ⊢
    clear hw6 k1 k2 f5 f6 hB6 hA5 hF5 hgr5 hown5
    have q106 := hT6.head hp
    have q4 : w6.cell? ⟨g, 4, none⟩ = some (.int .i64 stk) := by rw [hT6.pre hp 4 (by decide)]; exact hstk
    have HT : Hid (Ty A w6 g pre (.slice va (S.length + 1) vc) (S ++ [t])) := hT6
    have HF : Hid (Fw A g w w6) := hF6
    clear hT6 hF6 hT hTa hA1 hb1 hbA hBa hFa hnew hlast hp hstk
    go_wp2_with fail
    go_quiet (fail)
    go_wp2
    go_ret
    exact ⟨_, rfl, (HT.out).below (below_drewN _ _), HF.out.trans (Fw.of_below (below_drewN _ _))⟩
  · skip
    rw [if_pos (by rfl)]
    go_simp
    obtain ⟨wa, hwa⟩ : ∃ x, x = (w1.alloc (.cells #[.int .u8 (t : Int)] 32)).drew := ⟨_, rfl⟩
    have hbA : Below w1.heap.size w1 wa := by rw [hwa]; exact Below.drew ((Below.refl _ _).alloc (Nat.le_refl _) _)
    have hnew : wa.cell? ⟨w1.heap.size, 0, none⟩ = some (tyC t) := by rw [hwa]; show (w1.alloc (.cells #[.int .u8 (t : Int)] 32)).cell? _ = _; rw [World.cell?_alloc_at _ _ _ _ rfl]; rfl
    have hTa := hT1.below hbA
    have hBa := hA1.below hbA
    have hFa : Fw A g w wa := (Fw.of_below hb1).trans (Fw.of_below hbA)
    have hAa : A ≤ wa.heap.size := by have := hbA.size; omega
    have fa : wa.cell? ⟨w.heap.size, 0, none⟩ = some (.int .u8 (t : Int)) := by rw [hBa.cell]; rfl
    rw [← hwa]
    clear hwa
    refine hK.out _ _ fa (fun _ => ?_)
    clear hK K
    try simp only [Act.put, List.setIfInBounds_toArray, List.set_cons_zero, List.set_cons_succ]
    refine wpAnyH_ready (rs := [4]) (by kernel_rfl) (by simp) ?_
    refine AllReadyH.cons (o := { dst := some 9, op := .load 97 (.tmp 8), type := _, pos := _, after := _, guard := none }) rfl (fun K hK => ?_) AllReadyH.nil
    rw [if_pos (by rfl)]
    have k0 : wa.cell? ⟨g, 106, none⟩ = some v := hTa.head hp
    go_simp
    refine hK.out _ _ fa (fun _ => ?_)
    clear hK K
    try simp only [Act.put, List.setIfInBounds_toArray, List.set_cons_zero, List.set_cons_succ]
    refine wpAnyH_ready (rs := [8]) (by kernel_rfl) (by simp) ?_
    refine AllReadyH.cons (o := { dst := some 13, op := .call { callee := .builtin .append, args := #[.tmp 9, .tmp 12], argTypes := #[97, 97] }, type := _, pos := _, after := _, guard := none }) rfl (fun K hK => ?_) AllReadyH.nil
    refine step_app32 (.tmp 9) (.tmp 12) A v S t w1.heap.size rfl rfl rfl rfl hTa.own hnew hlen hAa ?_
    intro v' w5 hown5 hgr5
    have hF5 : Fw A g wa w5 := Fw.grown hTa.own hgr5
    have hA5 : At 99 w5 g (pre ++ opsC ++ [v]) := by
      unfold At
      rw [hgr5.block g hTa.lt (fun e => hTa.ne e.symm)]
      exact hTa.cell
    have f5 : w5.cell? ⟨w.heap.size, 0, none⟩ = some (.int .u8 (t : Int)) := by rw [(hF5.at hBa hgw (by decide)).cell]; rfl
    refine hK.out _ _ f5 (fun _ => ?_)
    clear hK K
    refine wpAnyH_take (i := 9) (oi := { dst := some 14, op := .nilCheck (.tmp 5), type := _, pos := _, after := _, guard := none }) (v := .pointer (some ⟨g, 0, none⟩)) rfl (by kernel_rfl) (by kernel_rfl) (by kernel_rfl) (fun _ _ _ h => h) (Or.inl ⟨by rfl, ?_⟩) f5 ?_
    · intro w hSw
      go_simp
    simp only [Act.put, List.setIfInBounds_toArray, List.set_cons_zero, List.set_cons_succ]
    refine wpAnyH_take (i := 10) (oi := { dst := some 15, op := .fieldAddr 99 (.tmp 14) 2, type := _, pos := _, after := _, guard := none }) (v := .pointer (some ⟨g, 106, none⟩)) rfl (by kernel_rfl) (by kernel_rfl) (by kernel_rfl) (fun _ _ _ h => h) (Or.inl ⟨by rfl, ?_⟩) f5 ?_
    · intro w hSw
      go_simp
    simp only [Act.put, List.setIfInBounds_toArray, List.set_cons_zero, List.set_cons_succ]
    refine wpAnyH_ready (rs := [11]) (by kernel_rfl) (by simp) ?_
    refine AllReadyH.cons (o := { dst := none, op := .store 97 (.tmp 15) (.tmp 13), type := _, pos := _, after := _, guard := none }) rfl (fun K hK => ?_) AllReadyH.nil
    obtain ⟨va, vc, rfl⟩ : ∃ a c, v' = .slice a (S.length + 1) c := own_len (n := S.length + 1) (by rwa [List.length_append] at hown5)
    have k1 : w5.cell? ⟨g, 106, none⟩ = some v := by rw [hA5.cell]; exact hlast
    have k2 : w5.frozen? ⟨g, 106, none⟩ = false := hA5.frozen 106
    have hT6 := hT.put hp hA5 hown5
    have hB6 : But g w5 (w5.setCell ⟨g, 106, none⟩ (.slice va (S.length + 1) vc)) := (But.refl g w5).setCell 106 (.slice va (S.length + 1) vc)
    have f6 : (w5.setCell ⟨g, 106, none⟩ (.slice va (S.length + 1) vc)).cell? ⟨w.heap.size, 0, none⟩ = some (.int .u8 (t : Int)) := by rw [(hB6.at (hF5.at hBa hgw (by decide)) hgw).cell]; rfl
    go_simp
    refine hK.out _ _ f6 (fun _ => ?_)
    clear hK K
    refine wpAnyH_done (by kernel_rfl) ?_ _
    have hF6 : Fw A g w (w5.setCell ⟨g, 106, none⟩ (.slice va (S.length + 1) vc)) := (hFa.trans hF5).trans (Fw.of_but hB6)
    obtain ⟨w6, hw6⟩ : ∃ x, x = w5.setCell ⟨g, 106, none⟩ (.slice va (S.length + 1) vc) := ⟨_, rfl⟩
    rw [← hw6] at hT6 hF6 ⊢
    clear hw6 k1 k2 f5 f6 hB6 hA5 hF5 hgr5 hown5
    have q106 := hT6.head hp
    have q4 : w6.cell? ⟨g, 4, none⟩ = some (.int .i64 stk) := by rw [hT6.pre hp 4 (by decide)]; exact hstk
    have HT : Hid (Ty A w6 g pre (.slice va (S.length + 1) vc) (S ++ [t])) := hT6
    have HF : Hid (Fw A g w w6) := hF6
    clear hT6 hF6 hT hTa hA1 hb1 hbA hBa hFa hnew hlast hp hstk
    go_wp2_with fail
    go_quiet (fail)
    go_wp2
    go_ret
    exact ⟨_, rfl, (HT.out).below (below_drewN _ _), HF.out.trans (Fw.of_below (below_drewN _ _))⟩

end Go.Proofs.Ytefklmckkigllaa
