/- CodeCopies: the walk. -/
import Derived.Test.YtefklmckkigllaaJ17
import Derived.Test.YtefklmckkigllaaJ18
namespace Go.Proofs.Ytefklmckkigllaa
open Go.RowKit
set_option linter.unusedVariables false

theorem CT.keepF {A : Nat} {w w' : World} {x : CT} (h : x.In w.heap.size w ∧ x.Lies (Fr A w)) (hs : w.heap.size ≤ w'.heap.size) (hk : ∀ k, A ≤ k → k < w.heap.size → w'.heap[k]? = w.heap[k]?) : x.In w'.heap.size w' ∧ x.Lies (Fr A w') :=
  ⟨h.1.stay h.2 hs fun k hF hl => hk k hF.1 hl, h.1.lies h.2 fun k hF hl => ⟨hF.1, hF.2.keep (hk k hF.1 hl)⟩⟩
theorem ct_cells {w : World} {g : Nat} {a b c : Value} (h : At 25 w g [a, b, c]) : w.cell? ⟨g, 0, none⟩ = some a ∧ w.cell? ⟨g, 1, none⟩ = some b ∧ w.cell? ⟨g, 2, none⟩ = some c := ⟨by rw [h.cell]; rfl, by rw [h.cell]; rfl, by rw [h.cell]; rfl⟩

set_option maxRecDepth 100000 in
set_option maxHeartbeats 12800000 in
theorem copies_at (x y : CT) (p1 p2 p3 q1 q2 q3 : Value) (hp : x.cells = [p1, p2, p3]) (hq : y.cells = [q1, q2, q3]) (w : World) (hx : x.In w.heap.size w) (hy : y.In w.heap.size w) (hnx : x.Nl) (hny : y.Nl) :
    Calls Try.prog 3 #[.agg [p1, p2, p3].toArray, .agg [q1, q2, q3].toArray] w fun e w' => e = .returned (.bool true) ∧ Below w.heap.size w w' := by
  have Q6x : Hid (∀ u, Below w.heap.size w u → Calls Try.prog 6 #[.agg #[p1, p2, p3]] u fun r w' => IsB r ∧ Below u.heap.size u w') := fun u hu => by
    have := large_any w.heap.size x u (hx.old (Old.of_below hu (Nat.le_refl _))) hu.size
    rw [hp] at this
    exact this
  have Q6y : Hid (∀ u, Below w.heap.size w u → Calls Try.prog 6 #[.agg #[q1, q2, q3]] u fun r w' => IsB r ∧ Below u.heap.size u w') := fun u hu => by
    have := large_any w.heap.size y u (hy.old (Old.of_below hu (Nat.le_refl _))) hu.size
    rw [hq] at this
    exact this
  have Q7x : Hid (∀ u, Below w.heap.size w u → Calls Try.prog 7 #[.agg #[p1, p2, p3]] u fun r w' => ∃ (y1 y2 y3 : Value) (Y : CT), r = .returned (.agg #[y1, y2, y3]) ∧ (Y.cells = [y1, y2, y3] ∧ ∀ v ∈ Y.cells, v.oneCell' = true) ∧ Y.cd = x.cd ∧ Y.In w'.heap.size w' ∧ Y.Lies (fun k => u.heap.size ≤ k) ∧ Below u.heap.size u w') := fun u hu => by
    have := copy7_any w.heap.size x u (hx.old (Old.of_below hu (Nat.le_refl _))) hnx hu.size
    rw [hp] at this
    refine this.mono ?_
    rintro r w' ⟨Y, rfl, h1, h2, h3, h4⟩
    exact ⟨_, _, _, Y, rfl, ⟨rfl, Y.one⟩, h1, h2, h3, h4⟩
  have Q7y : Hid (∀ u, Below w.heap.size w u → Calls Try.prog 7 #[.agg #[q1, q2, q3]] u fun r w' => ∃ (y1 y2 y3 : Value) (Y : CT), r = .returned (.agg #[y1, y2, y3]) ∧ (Y.cells = [y1, y2, y3] ∧ ∀ v ∈ Y.cells, v.oneCell' = true) ∧ Y.cd = y.cd ∧ Y.In w'.heap.size w' ∧ Y.Lies (fun k => u.heap.size ≤ k) ∧ Below u.heap.size u w') := fun u hu => by
    have := copy7_any w.heap.size y u (hy.old (Old.of_below hu (Nat.le_refl _))) hny hu.size
    rw [hq] at this
    refine this.mono ?_
    rintro r w' ⟨Y, rfl, h1, h2, h3, h4⟩
    exact ⟨_, _, _, Y, rfl, ⟨rfl, Y.one⟩, h1, h2, h3, h4⟩
  have HI : Hid (x.In w.heap.size w ∧ y.In w.heap.size w ∧ x.cells = [p1, p2, p3] ∧ y.cells = [q1, q2, q3]) := ⟨hx, hy, hp, hq⟩
  clear hx hy hnx hny hp hq
  go_enter Try.func3, Try.ntmps3
  go_wp2_with (first
    | ((with_reducible show wpList _ _ _ _ _ _); refine wpList_box_at rfl 25 (.tmp 0) rfl [p1, p2, p3] rfl ?_; intro w1 hA1 hb1 hs1; clear hs1)
    | ((with_reducible show wpList _ _ _ _ _ _); refine wpList_box_at rfl 25 (.tmp 1) rfl [q1, q2, q3] rfl ?_; intro w2 hA2 hb2 hs2; clear hs2; refine Hid.out ?_))
  refine hidU ?_
  have l01 : w.heap.size < w1.heap.size := hA1.lt
  have l12 : w1.heap.size < w2.heap.size := hA2.lt
  have hw2 : Below w.heap.size w w2 := hb1.trans (hb2.mono hb1.size)
  have HA : Hid (∀ u, Below w2.heap.size w2 u → At 25 u w.heap.size [p1, p2, p3] ∧ At 25 u w1.heap.size [q1, q2, q3] ∧ Below w.heap.size w u) := fun u hu => ⟨(hA1.below hb2).below hu, hA2.below hu, hw2.trans (hu.mono hw2.size)⟩
  clear hA1 hA2 hb1 hb2
  obtain ⟨k1, k2, k3⟩ := ct_cells (HA.out w2 (Below.refl _ _)).1
  have C6 := Q6x.out w2 hw2
  go_wp2_with (go_at_call 6; refine C6.mono ?_; rintro r w3 ⟨⟨b1, rfl⟩, hb3⟩; refine Hid.out ?_)
  refine hidU ?_
  clear C6 k1 k2 k3 hw2
  have g3 := HA.out w3 hb3
  cases b1 with
  | true =>
    have hw3 := g3.2.2
    clear g3
    go_wp2_with fail
    go_ret
    exact ⟨rfl, hw3⟩
  | false =>
  obtain ⟨k4, k5, k6⟩ := ct_cells g3.2.1
  have C6 := Q6y.out w3 g3.2.2
  clear g3
  go_wp2_with (go_at_call 6; refine C6.mono ?_; rintro r W ⟨⟨b2, rfl⟩, hbW⟩; refine Hid.out ?_)
  refine hidU ?_
  clear C6 k4 k5 k6
  have h2W := hb3.trans (hbW.mono hb3.size)
  have gW := HA.out W h2W
  cases b2 with
  | true =>
    have hwW := gW.2.2
    clear gW
    go_wp2_with fail
    go_ret
    exact ⟨rfl, hwW⟩
  | false =>
  have hwW := gW.2.2
  obtain ⟨k1, k2, k3⟩ := ct_cells gW.1
  obtain ⟨k4, k5, k6⟩ := ct_cells gW.2.1
  have l2W := h2W.size
  clear gW hb3 hbW Q6x Q6y
  go_wp2_with fail
  refine Code.wp_mono (Q := fun e t' X' => e = .normal ∧ ∃ (ga gb : Nat) (y1 y2 y3 z1 z2 z3 : Value) (u0 u1 u4 u7 u8 u9 u10 u11 u12 u13 u14 u15 u16 u17 u18 u19 u20 u21 u22 u23 u24 u25 u26 u27 u28 u29 u30 u31 u32 u33 u34 u35 u36 u37 u38 u39 u40 u41 u42 u43 u44 u45 u46 u47 u48 u49 u50 u51 : Value), t' = { tmps := #[u0, u1, .pointer (some ⟨w.heap.size, 0, none⟩), .pointer (some ⟨w1.heap.size, 0, none⟩), u4, .pointer (some ⟨ga, 0, none⟩), .pointer (some ⟨gb, 0, none⟩), u7, u8, u9, u10, u11, u12, u13, u14, u15, u16, u17, u18, u19, u20, u21, u22, u23, u24, u25, u26, u27, u28, u29, u30, u31, u32, u33, u34, u35, u36, u37, u38, u39, u40, u41, u42, u43, u44, u45, u46, u47, u48, u49, u50, u51], defers := [] } ∧ At 25 X' ga [y1, y2, y3] ∧ At 25 X' gb [z1, z2, z3] ∧ ∃ Y Z : CT, Y.cells = [y1, y2, y3] ∧ Z.cells = [z1, z2, z3] ∧ Y.cd = x.cd ∧ Z.cd = y.cd ∧ Y.In X'.heap.size X' ∧ Z.In X'.heap.size X' ∧ Below W.heap.size W X' ∧ W.heap.size ≤ ga ∧ W.heap.size ≤ gb) ?_ ?_
  rotate_left
  · skip
    have hS0a : Below W.heap.size W W.drew := Below.drew (Below.refl _ _)
    refine wp_region_held_drew (S := fun x => Below W.heap.size W x) (by kernel_rfl) hS0a ?_
    obtain ⟨x0a, hx0⟩ : ∃ x, x = W.drew := ⟨_, rfl⟩
    rw [← hx0] at hS0a ⊢
    clear hx0
    intro _
    refine wpAnyH_take (i := 0) (oi := { dst := some 14, op := .load 25 (.tmp 2), type := _, pos := _, after := _, guard := none }) (v := .agg #[p1, p2, p3]) rfl (by kernel_rfl) (by kernel_rfl) (by kernel_rfl) (fun _ _ _ h => nomatch h.1) (Or.inl ⟨by rfl, ?_⟩) hS0a ?_
    · intro wS hSw
      have z0 := (hSw.cell (lt_of_cell k1)).trans k1
      have z1 := (hSw.cell (lt_of_cell k2)).trans k2
      have z2 := (hSw.cell (lt_of_cell k3)).trans k3
      go_simp
    simp only [Act.put, List.setIfInBounds_toArray, List.set_cons_zero, List.set_cons_succ]
    refine wpAnyH_take (i := 2) (oi := { dst := some 16, op := .load 25 (.tmp 3), type := _, pos := _, after := _, guard := none }) (v := .agg #[q1, q2, q3]) rfl (by kernel_rfl) (by kernel_rfl) (by kernel_rfl) (fun _ _ _ h => nomatch h.1) (Or.inl ⟨by rfl, ?_⟩) hS0a ?_
    · intro wS hSw
      have z0 := (hSw.cell (lt_of_cell k4)).trans k4
      have z1 := (hSw.cell (lt_of_cell k5)).trans k5
      have z2 := (hSw.cell (lt_of_cell k6)).trans k6
      go_simp
    simp only [Act.put, List.setIfInBounds_toArray, List.set_cons_zero, List.set_cons_succ]
    refine wpAnyH_ready (rs := [1, 4, 5]) (by kernel_rfl) (by simp) ?_
    refine AllReadyH.cons (o := { dst := some 15, op := .call { callee := .value (.func 7), args := #[.tmp 14], argTypes := #[25] }, type := _, pos := _, after := _, guard := none }) rfl (fun K hK => ?_) (AllReadyH.cons (o := { dst := some 5, op := .alloc 25, type := _, pos := _, after := _, guard := none }) rfl (fun K hK => ?_) (AllReadyH.cons (o := { dst := some 6, op := .alloc 25, type := _, pos := _, after := _, guard := none }) rfl (fun K hK => ?_) AllReadyH.nil))
    · skip
      rw [if_pos (by rfl)]
      have sv1a := hS0a.size
      go_wp2_with (go_at_call 7; refine (Q7x.out _ (hwW.trans (hS0a.mono hwW.size))).mono ?_; rintro e x1a ⟨y1, y2, y3, Y, rfl, hYc, hYd, hYi, hYl, hb1a⟩)
      have sz1a := hb1a.size
      have hS1a := hS0a.trans (hb1a.mono hS0a.size)
      refine hK.out _ _ hS1a (fun _ => ?_)
      clear hK K
      refine wpAnyH_ready (rs := [3, 4, 5]) (by kernel_rfl) (by simp) ?_
      refine AllReadyH.cons (o := { dst := some 17, op := .call { callee := .value (.func 7), args := #[.tmp 16], argTypes := #[25] }, type := _, pos := _, after := _, guard := none }) rfl (fun K hK => ?_) (AllReadyH.cons (o := { dst := some 5, op := .alloc 25, type := _, pos := _, after := _, guard := none }) rfl (fun K hK => ?_) (AllReadyH.cons (o := { dst := some 6, op := .alloc 25, type := _, pos := _, after := _, guard := none }) rfl (fun K hK => ?_) AllReadyH.nil))
      · skip
        rw [if_pos (by rfl)]
        have sv2a := hS1a.size
        go_wp2_with (go_at_call 7; refine (Q7y.out _ (hwW.trans (hS1a.mono hwW.size))).mono ?_; rintro e x2a ⟨z1, z2, z3, Z, rfl, hZc, hZd, hZi, hZl, hb2a⟩)
        have sz2a := hb2a.size
        have hS2a := hS1a.trans (hb2a.mono hS1a.size)
        refine hK.out _ _ hS2a (fun _ => ?_)
        clear hK K
        refine wpAnyH_ready (rs := [4, 5]) (by kernel_rfl) (by simp) ?_
        refine AllReadyH.cons (o := { dst := some 5, op := .alloc 25, type := _, pos := _, after := _, guard := none }) rfl (fun K hK => ?_) (AllReadyH.cons (o := { dst := some 6, op := .alloc 25, type := _, pos := _, after := _, guard := none }) rfl (fun K hK => ?_) AllReadyH.nil)
        · skip
          rw [if_pos (by rfl)]
          have sv3a := hS2a.size
          refine wp_alloc_at 25 rfl (CT.cells ⟨none, 0, [], 0, none, 0, []⟩) _ z25 ?_
          intro x3a hA3a hb3a hs3a
          have lt3a : x2a.heap.size < x3a.heap.size := hA3a.lt
          clear hs3a
          have sz3a := hb3a.size
          have hS3a := hS2a.trans (hb3a.mono hS2a.size)
          refine hK.out _ _ hS3a (fun _ => ?_)
          clear hK K
          refine wpAnyH_ready (rs := [5]) (by kernel_rfl) (by simp) ?_
          refine AllReadyH.cons (o := { dst := some 6, op := .alloc 25, type := _, pos := _, after := _, guard := none }) rfl (fun K hK => ?_) AllReadyH.nil
          rw [if_pos (by rfl)]
          have sv4a := hS3a.size
          refine wp_alloc_at 25 rfl (CT.cells ⟨none, 0, [], 0, none, 0, []⟩) _ z25 ?_
          intro x4a hA4a hb4a hs4a
          have lt4a : x3a.heap.size < x4a.heap.size := hA4a.lt
          clear hs4a
          have sz4a := hb4a.size
          have hS4a := hS3a.trans (hb4a.mono hS3a.size)
          refine hK.out _ _ hS4a (fun _ => ?_)
          clear hK K
          refine wpAnyH_ready (rs := [6]) (by kernel_rfl) (by simp) ?_
          refine AllReadyH.cons (o := { dst := none, op := .store 25 (.tmp 5) (.tmp 15), type := _, pos := _, after := _, guard := none }) rfl (fun K hK => ?_) AllReadyH.nil
          rw [if_pos (by rfl)]
          have sv5a := hS4a.size
          refine wp_store_at 25 (.tmp 5) (.tmp 15) rfl x2a.heap.size [y1, y2, y3] rfl rfl 25 _ (hA3a.below hb4a) i25 rfl (by rw [← hYc.1]; exact hYc.2) ?_
          intro x5a hA5a hb5a hs5a
          have sz5a := hb5a.size
          have hS5a := (hb5a.below hS4a (by omega) hS4a.size)
          refine hK.out _ _ hS5a (fun _ => ?_)
          clear hK K
          refine wpAnyH_ready (rs := [7]) (by kernel_rfl) (by simp) ?_
          refine AllReadyH.cons (o := { dst := none, op := .store 25 (.tmp 6) (.tmp 17), type := _, pos := _, after := _, guard := none }) rfl (fun K hK => ?_) AllReadyH.nil
          rw [if_pos (by rfl)]
          have sv6a := hS5a.size
          refine wp_store_at 25 (.tmp 6) (.tmp 17) rfl x3a.heap.size [z1, z2, z3] rfl rfl 25 _ (hb5a.at hA4a (by omega)) i25 rfl (by rw [← hZc.1]; exact hZc.2) ?_
          intro x6a hA6a hb6a hs6a
          have sz6a := hb6a.size
          have hS6a := (hb6a.below hS5a (by omega) hS5a.size)
          refine hK.out _ _ hS6a (fun _ => ?_)
          clear hK K
          refine wpAnyH_done (by kernel_rfl) ?_ _
          exact ⟨rfl, _, _, _, _, _, _, _, _, _, _, _, _, _, _, _, _, _, _, _, _, _, _, _, _, _, _, _, _, _, _, _, _, _, _, _, _, _, _, _, _, _, _, _, _, _, _, _, _, _, _, _, _, _, _, _, _, rfl, (hb6a.at hA5a (by omega)), hA6a, Y, Z, hYc.1, hZc.1, hYd, hZd, CT.In.stay (S := fun q => x0a.heap.size ≤ q) hYi hYl (by omega) (fun q hq hl => (hb6a.block q (by omega) (by omega)).trans ((hb5a.block q (by omega) (by omega)).trans ((hb4a.block q (by omega)).trans ((hb3a.block q (by omega)).trans (hb2a.block q (by omega)))))), CT.In.stay (S := fun q => x1a.heap.size ≤ q) hZi hZl (by omega) (fun q hq hl => (hb6a.block q (by omega) (by omega)).trans ((hb5a.block q (by omega) (by omega)).trans ((hb4a.block q (by omega)).trans (hb3a.block q (by omega))))), hS6a, by omega, by omega⟩
        · skip
          rw [if_pos (by rfl)]
          have sv3a := hS2a.size
          refine wp_alloc_at 25 rfl (CT.cells ⟨none, 0, [], 0, none, 0, []⟩) _ z25 ?_
          intro x3a hA3a hb3a hs3a
          have lt3a : x2a.heap.size < x3a.heap.size := hA3a.lt
          clear hs3a
          have sz3a := hb3a.size
          have hS3a := hS2a.trans (hb3a.mono hS2a.size)
          refine hK.out _ _ hS3a (fun _ => ?_)
          clear hK K
          refine wpAnyH_ready (rs := [4]) (by kernel_rfl) (by simp) ?_
          refine AllReadyH.cons (o := { dst := some 5, op := .alloc 25, type := _, pos := _, after := _, guard := none }) rfl (fun K hK => ?_) AllReadyH.nil
          rw [if_pos (by rfl)]
          have sv4a := hS3a.size
          refine wp_alloc_at 25 rfl (CT.cells ⟨none, 0, [], 0, none, 0, []⟩) _ z25 ?_
          intro x4a hA4a hb4a hs4a
          have lt4a : x3a.heap.size < x4a.heap.size := hA4a.lt
          clear hs4a
          have sz4a := hb4a.size
          have hS4a := hS3a.trans (hb4a.mono hS3a.size)
          refine hK.out _ _ hS4a (fun _ => ?_)
          clear hK K
          refine wpAnyH_ready (rs := [6]) (by kernel_rfl) (by simp) ?_
          refine AllReadyH.cons (o := { dst := none, op := .store 25 (.tmp 5) (.tmp 15), type := _, pos := _, after := _, guard := none }) rfl (fun K hK => ?_) AllReadyH.nil
          rw [if_pos (by rfl)]
          have sv5a := hS4a.size
          refine wp_store_at 25 (.tmp 5) (.tmp 15) rfl x3a.heap.size [y1, y2, y3] rfl rfl 25 _ hA4a i25 rfl (by rw [← hYc.1]; exact hYc.2) ?_
          intro x5a hA5a hb5a hs5a
          have sz5a := hb5a.size
          have hS5a := (hb5a.below hS4a (by omega) hS4a.size)
          refine hK.out _ _ hS5a (fun _ => ?_)
          clear hK K
          refine wpAnyH_ready (rs := [7]) (by kernel_rfl) (by simp) ?_
          refine AllReadyH.cons (o := { dst := none, op := .store 25 (.tmp 6) (.tmp 17), type := _, pos := _, after := _, guard := none }) rfl (fun K hK => ?_) AllReadyH.nil
          rw [if_pos (by rfl)]
          have sv6a := hS5a.size
          refine wp_store_at 25 (.tmp 6) (.tmp 17) rfl x2a.heap.size [z1, z2, z3] rfl rfl 25 _ (hb5a.at (hA3a.below hb4a) (by omega)) i25 rfl (by rw [← hZc.1]; exact hZc.2) ?_
          intro x6a hA6a hb6a hs6a
          have sz6a := hb6a.size
          have hS6a := (hb6a.below hS5a (by omega) hS5a.size)
          refine hK.out _ _ hS6a (fun _ => ?_)
          clear hK K
          refine wpAnyH_done (by kernel_rfl) ?_ _
          exact ⟨rfl, _, _, _, _, _, _, _, _, _, _, _, _, _, _, _, _, _, _, _, _, _, _, _, _, _, _, _, _, _, _, _, _, _, _, _, _, _, _, _, _, _, _, _, _, _, _, _, _, _, _, _, _, _, _, _, _, rfl, (hb6a.at hA5a (by omega)), hA6a, Y, Z, hYc.1, hZc.1, hYd, hZd, CT.In.stay (S := fun q => x0a.heap.size ≤ q) hYi hYl (by omega) (fun q hq hl => (hb6a.block q (by omega) (by omega)).trans ((hb5a.block q (by omega) (by omega)).trans ((hb4a.block q (by omega)).trans ((hb3a.block q (by omega)).trans (hb2a.block q (by omega)))))), CT.In.stay (S := fun q => x1a.heap.size ≤ q) hZi hZl (by omega) (fun q hq hl => (hb6a.block q (by omega) (by omega)).trans ((hb5a.block q (by omega) (by omega)).trans ((hb4a.block q (by omega)).trans (hb3a.block q (by omega))))), hS6a, by omega, by omega⟩
      · skip
        rw [if_pos (by rfl)]
        have sv2a := hS1a.size
        refine wp_alloc_at 25 rfl (CT.cells ⟨none, 0, [], 0, none, 0, []⟩) _ z25 ?_
        intro x2a hA2a hb2a hs2a
        have lt2a : x1a.heap.size < x2a.heap.size := hA2a.lt
        clear hs2a
        have sz2a := hb2a.size
        have hS2a := hS1a.trans (hb2a.mono hS1a.size)
        refine hK.out _ _ hS2a (fun _ => ?_)
        clear hK K
        refine wpAnyH_ready (rs := [3, 5]) (by kernel_rfl) (by simp) ?_
        refine AllReadyH.cons (o := { dst := some 17, op := .call { callee := .value (.func 7), args := #[.tmp 16], argTypes := #[25] }, type := _, pos := _, after := _, guard := none }) rfl (fun K hK => ?_) (AllReadyH.cons (o := { dst := some 6, op := .alloc 25, type := _, pos := _, after := _, guard := none }) rfl (fun K hK => ?_) AllReadyH.nil)
        · skip
          rw [if_pos (by rfl)]
          have sv3a := hS2a.size
          go_wp2_with (go_at_call 7; refine (Q7y.out _ (hwW.trans (hS2a.mono hwW.size))).mono ?_; rintro e x3a ⟨z1, z2, z3, Z, rfl, hZc, hZd, hZi, hZl, hb3a⟩)
          have sz3a := hb3a.size
          have hS3a := hS2a.trans (hb3a.mono hS2a.size)
          refine hK.out _ _ hS3a (fun _ => ?_)
          clear hK K
          refine wpAnyH_ready (rs := [5]) (by kernel_rfl) (by simp) ?_
          refine AllReadyH.cons (o := { dst := some 6, op := .alloc 25, type := _, pos := _, after := _, guard := none }) rfl (fun K hK => ?_) AllReadyH.nil
          rw [if_pos (by rfl)]
          have sv4a := hS3a.size
          refine wp_alloc_at 25 rfl (CT.cells ⟨none, 0, [], 0, none, 0, []⟩) _ z25 ?_
          intro x4a hA4a hb4a hs4a
          have lt4a : x3a.heap.size < x4a.heap.size := hA4a.lt
          clear hs4a
          have sz4a := hb4a.size
          have hS4a := hS3a.trans (hb4a.mono hS3a.size)
          refine hK.out _ _ hS4a (fun _ => ?_)
          clear hK K
          refine wpAnyH_ready (rs := [6]) (by kernel_rfl) (by simp) ?_
          refine AllReadyH.cons (o := { dst := none, op := .store 25 (.tmp 5) (.tmp 15), type := _, pos := _, after := _, guard := none }) rfl (fun K hK => ?_) AllReadyH.nil
          rw [if_pos (by rfl)]
          have sv5a := hS4a.size
          refine wp_store_at 25 (.tmp 5) (.tmp 15) rfl x1a.heap.size [y1, y2, y3] rfl rfl 25 _ ((hA2a.below hb3a).below hb4a) i25 rfl (by rw [← hYc.1]; exact hYc.2) ?_
          intro x5a hA5a hb5a hs5a
          have sz5a := hb5a.size
          have hS5a := (hb5a.below hS4a (by omega) hS4a.size)
          refine hK.out _ _ hS5a (fun _ => ?_)
          clear hK K
          refine wpAnyH_ready (rs := [7]) (by kernel_rfl) (by simp) ?_
          refine AllReadyH.cons (o := { dst := none, op := .store 25 (.tmp 6) (.tmp 17), type := _, pos := _, after := _, guard := none }) rfl (fun K hK => ?_) AllReadyH.nil
          rw [if_pos (by rfl)]
          have sv6a := hS5a.size
          refine wp_store_at 25 (.tmp 6) (.tmp 17) rfl x3a.heap.size [z1, z2, z3] rfl rfl 25 _ (hb5a.at hA4a (by omega)) i25 rfl (by rw [← hZc.1]; exact hZc.2) ?_
          intro x6a hA6a hb6a hs6a
          have sz6a := hb6a.size
          have hS6a := (hb6a.below hS5a (by omega) hS5a.size)
          refine hK.out _ _ hS6a (fun _ => ?_)
          clear hK K
          refine wpAnyH_done (by kernel_rfl) ?_ _
          exact ⟨rfl, _, _, _, _, _, _, _, _, _, _, _, _, _, _, _, _, _, _, _, _, _, _, _, _, _, _, _, _, _, _, _, _, _, _, _, _, _, _, _, _, _, _, _, _, _, _, _, _, _, _, _, _, _, _, _, _, rfl, (hb6a.at hA5a (by omega)), hA6a, Y, Z, hYc.1, hZc.1, hYd, hZd, CT.In.stay (S := fun q => x0a.heap.size ≤ q) hYi hYl (by omega) (fun q hq hl => (hb6a.block q (by omega) (by omega)).trans ((hb5a.block q (by omega) (by omega)).trans ((hb4a.block q (by omega)).trans ((hb3a.block q (by omega)).trans (hb2a.block q (by omega)))))), CT.In.stay (S := fun q => x2a.heap.size ≤ q) hZi hZl (by omega) (fun q hq hl => (hb6a.block q (by omega) (by omega)).trans ((hb5a.block q (by omega) (by omega)).trans (hb4a.block q (by omega)))), hS6a, by omega, by omega⟩
        · skip
          rw [if_pos (by rfl)]
          have sv3a := hS2a.size
          refine wp_alloc_at 25 rfl (CT.cells ⟨none, 0, [], 0, none, 0, []⟩) _ z25 ?_
          intro x3a hA3a hb3a hs3a
          have lt3a : x2a.heap.size < x3a.heap.size := hA3a.lt
          clear hs3a
          have sz3a := hb3a.size
          have hS3a := hS2a.trans (hb3a.mono hS2a.size)
          refine hK.out _ _ hS3a (fun _ => ?_)
          clear hK K
          refine wpAnyH_ready (rs := [3]) (by kernel_rfl) (by simp) ?_
          refine AllReadyH.cons (o := { dst := some 17, op := .call { callee := .value (.func 7), args := #[.tmp 16], argTypes := #[25] }, type := _, pos := _, after := _, guard := none }) rfl (fun K hK => ?_) AllReadyH.nil
          rw [if_pos (by rfl)]
          have sv4a := hS3a.size
          go_wp2_with (go_at_call 7; refine (Q7y.out _ (hwW.trans (hS3a.mono hwW.size))).mono ?_; rintro e x4a ⟨z1, z2, z3, Z, rfl, hZc, hZd, hZi, hZl, hb4a⟩)
          have sz4a := hb4a.size
          have hS4a := hS3a.trans (hb4a.mono hS3a.size)
          refine hK.out _ _ hS4a (fun _ => ?_)
          clear hK K
          refine wpAnyH_ready (rs := [6]) (by kernel_rfl) (by simp) ?_
          refine AllReadyH.cons (o := { dst := none, op := .store 25 (.tmp 5) (.tmp 15), type := _, pos := _, after := _, guard := none }) rfl (fun K hK => ?_) AllReadyH.nil
          rw [if_pos (by rfl)]
          have sv5a := hS4a.size
          refine wp_store_at 25 (.tmp 5) (.tmp 15) rfl x1a.heap.size [y1, y2, y3] rfl rfl 25 _ ((hA2a.below hb3a).below hb4a) i25 rfl (by rw [← hYc.1]; exact hYc.2) ?_
          intro x5a hA5a hb5a hs5a
          have sz5a := hb5a.size
          have hS5a := (hb5a.below hS4a (by omega) hS4a.size)
          refine hK.out _ _ hS5a (fun _ => ?_)
          clear hK K
          refine wpAnyH_ready (rs := [7]) (by kernel_rfl) (by simp) ?_
          refine AllReadyH.cons (o := { dst := none, op := .store 25 (.tmp 6) (.tmp 17), type := _, pos := _, after := _, guard := none }) rfl (fun K hK => ?_) AllReadyH.nil
          rw [if_pos (by rfl)]
          have sv6a := hS5a.size
          refine wp_store_at 25 (.tmp 6) (.tmp 17) rfl x2a.heap.size [z1, z2, z3] rfl rfl 25 _ (hb5a.at (hA3a.below hb4a) (by omega)) i25 rfl (by rw [← hZc.1]; exact hZc.2) ?_
          intro x6a hA6a hb6a hs6a
          have sz6a := hb6a.size
          have hS6a := (hb6a.below hS5a (by omega) hS5a.size)
          refine hK.out _ _ hS6a (fun _ => ?_)
          clear hK K
          refine wpAnyH_done (by kernel_rfl) ?_ _
          exact ⟨rfl, _, _, _, _, _, _, _, _, _, _, _, _, _, _, _, _, _, _, _, _, _, _, _, _, _, _, _, _, _, _, _, _, _, _, _, _, _, _, _, _, _, _, _, _, _, _, _, _, _, _, _, _, _, _, _, _, rfl, (hb6a.at hA5a (by omega)), hA6a, Y, Z, hYc.1, hZc.1, hYd, hZd, CT.In.stay (S := fun q => x0a.heap.size ≤ q) hYi hYl (by omega) (fun q hq hl => (hb6a.block q (by omega) (by omega)).trans ((hb5a.block q (by omega) (by omega)).trans ((hb4a.block q (by omega)).trans ((hb3a.block q (by omega)).trans (hb2a.block q (by omega)))))), CT.In.stay (S := fun q => x3a.heap.size ≤ q) hZi hZl (by omega) (fun q hq hl => (hb6a.block q (by omega) (by omega)).trans (hb5a.block q (by omega) (by omega))), hS6a, by omega, by omega⟩
      · skip
        rw [if_pos (by rfl)]
        have sv2a := hS1a.size
        refine wp_alloc_at 25 rfl (CT.cells ⟨none, 0, [], 0, none, 0, []⟩) _ z25 ?_
        intro x2a hA2a hb2a hs2a
        have lt2a : x1a.heap.size < x2a.heap.size := hA2a.lt
        clear hs2a
        have sz2a := hb2a.size
        have hS2a := hS1a.trans (hb2a.mono hS1a.size)
        refine hK.out _ _ hS2a (fun _ => ?_)
        clear hK K
        refine wpAnyH_ready (rs := [3, 4]) (by kernel_rfl) (by simp) ?_
        refine AllReadyH.cons (o := { dst := some 17, op := .call { callee := .value (.func 7), args := #[.tmp 16], argTypes := #[25] }, type := _, pos := _, after := _, guard := none }) rfl (fun K hK => ?_) (AllReadyH.cons (o := { dst := some 5, op := .alloc 25, type := _, pos := _, after := _, guard := none }) rfl (fun K hK => ?_) AllReadyH.nil)
        · skip
          rw [if_pos (by rfl)]
          have sv3a := hS2a.size
          go_wp2_with (go_at_call 7; refine (Q7y.out _ (hwW.trans (hS2a.mono hwW.size))).mono ?_; rintro e x3a ⟨z1, z2, z3, Z, rfl, hZc, hZd, hZi, hZl, hb3a⟩)
          have sz3a := hb3a.size
          have hS3a := hS2a.trans (hb3a.mono hS2a.size)
          refine hK.out _ _ hS3a (fun _ => ?_)
          clear hK K
          refine wpAnyH_ready (rs := [4]) (by kernel_rfl) (by simp) ?_
          refine AllReadyH.cons (o := { dst := some 5, op := .alloc 25, type := _, pos := _, after := _, guard := none }) rfl (fun K hK => ?_) AllReadyH.nil
          rw [if_pos (by rfl)]
          have sv4a := hS3a.size
          refine wp_alloc_at 25 rfl (CT.cells ⟨none, 0, [], 0, none, 0, []⟩) _ z25 ?_
          intro x4a hA4a hb4a hs4a
          have lt4a : x3a.heap.size < x4a.heap.size := hA4a.lt
          clear hs4a
          have sz4a := hb4a.size
          have hS4a := hS3a.trans (hb4a.mono hS3a.size)
          refine hK.out _ _ hS4a (fun _ => ?_)
          clear hK K
          refine wpAnyH_ready (rs := [6]) (by kernel_rfl) (by simp) ?_
          refine AllReadyH.cons (o := { dst := none, op := .store 25 (.tmp 5) (.tmp 15), type := _, pos := _, after := _, guard := none }) rfl (fun K hK => ?_) AllReadyH.nil
          rw [if_pos (by rfl)]
          have sv5a := hS4a.size
          refine wp_store_at 25 (.tmp 5) (.tmp 15) rfl x3a.heap.size [y1, y2, y3] rfl rfl 25 _ hA4a i25 rfl (by rw [← hYc.1]; exact hYc.2) ?_
          intro x5a hA5a hb5a hs5a
          have sz5a := hb5a.size
          have hS5a := (hb5a.below hS4a (by omega) hS4a.size)
          refine hK.out _ _ hS5a (fun _ => ?_)
          clear hK K
          refine wpAnyH_ready (rs := [7]) (by kernel_rfl) (by simp) ?_
          refine AllReadyH.cons (o := { dst := none, op := .store 25 (.tmp 6) (.tmp 17), type := _, pos := _, after := _, guard := none }) rfl (fun K hK => ?_) AllReadyH.nil
          rw [if_pos (by rfl)]
          have sv6a := hS5a.size
          refine wp_store_at 25 (.tmp 6) (.tmp 17) rfl x1a.heap.size [z1, z2, z3] rfl rfl 25 _ (hb5a.at ((hA2a.below hb3a).below hb4a) (by omega)) i25 rfl (by rw [← hZc.1]; exact hZc.2) ?_
          intro x6a hA6a hb6a hs6a
          have sz6a := hb6a.size
          have hS6a := (hb6a.below hS5a (by omega) hS5a.size)
          refine hK.out _ _ hS6a (fun _ => ?_)
          clear hK K
          refine wpAnyH_done (by kernel_rfl) ?_ _
          exact ⟨rfl, _, _, _, _, _, _, _, _, _, _, _, _, _, _, _, _, _, _, _, _, _, _, _, _, _, _, _, _, _, _, _, _, _, _, _, _, _, _, _, _, _, _, _, _, _, _, _, _, _, _, _, _, _, _, _, _, rfl, (hb6a.at hA5a (by omega)), hA6a, Y, Z, hYc.1, hZc.1, hYd, hZd, CT.In.stay (S := fun q => x0a.heap.size ≤ q) hYi hYl (by omega) (fun q hq hl => (hb6a.block q (by omega) (by omega)).trans ((hb5a.block q (by omega) (by omega)).trans ((hb4a.block q (by omega)).trans ((hb3a.block q (by omega)).trans (hb2a.block q (by omega)))))), CT.In.stay (S := fun q => x2a.heap.size ≤ q) hZi hZl (by omega) (fun q hq hl => (hb6a.block q (by omega) (by omega)).trans ((hb5a.block q (by omega) (by omega)).trans (hb4a.block q (by omega)))), hS6a, by omega, by omega⟩
        · skip
          rw [if_pos (by rfl)]
          have sv3a := hS2a.size
          refine wp_alloc_at 25 rfl (CT.cells ⟨none, 0, [], 0, none, 0, []⟩) _ z25 ?_
          intro x3a hA3a hb3a hs3a
          have lt3a : x2a.heap.size < x3a.heap.size := hA3a.lt
          clear hs3a
          have sz3a := hb3a.size
          have hS3a := hS2a.trans (hb3a.mono hS2a.size)
          refine hK.out _ _ hS3a (fun _ => ?_)
          clear hK K
          refine wpAnyH_ready (rs := [3]) (by kernel_rfl) (by simp) ?_
          refine AllReadyH.cons (o := { dst := some 17, op := .call { callee := .value (.func 7), args := #[.tmp 16], argTypes := #[25] }, type := _, pos := _, after := _, guard := none }) rfl (fun K hK => ?_) AllReadyH.nil
          rw [if_pos (by rfl)]
          have sv4a := hS3a.size
          go_wp2_with (go_at_call 7; refine (Q7y.out _ (hwW.trans (hS3a.mono hwW.size))).mono ?_; rintro e x4a ⟨z1, z2, z3, Z, rfl, hZc, hZd, hZi, hZl, hb4a⟩)
          have sz4a := hb4a.size
          have hS4a := hS3a.trans (hb4a.mono hS3a.size)
          refine hK.out _ _ hS4a (fun _ => ?_)
          clear hK K
          refine wpAnyH_ready (rs := [6]) (by kernel_rfl) (by simp) ?_
          refine AllReadyH.cons (o := { dst := none, op := .store 25 (.tmp 5) (.tmp 15), type := _, pos := _, after := _, guard := none }) rfl (fun K hK => ?_) AllReadyH.nil
          rw [if_pos (by rfl)]
          have sv5a := hS4a.size
          refine wp_store_at 25 (.tmp 5) (.tmp 15) rfl x2a.heap.size [y1, y2, y3] rfl rfl 25 _ (hA3a.below hb4a) i25 rfl (by rw [← hYc.1]; exact hYc.2) ?_
          intro x5a hA5a hb5a hs5a
          have sz5a := hb5a.size
          have hS5a := (hb5a.below hS4a (by omega) hS4a.size)
          refine hK.out _ _ hS5a (fun _ => ?_)
          clear hK K
          refine wpAnyH_ready (rs := [7]) (by kernel_rfl) (by simp) ?_
          refine AllReadyH.cons (o := { dst := none, op := .store 25 (.tmp 6) (.tmp 17), type := _, pos := _, after := _, guard := none }) rfl (fun K hK => ?_) AllReadyH.nil
          rw [if_pos (by rfl)]
          have sv6a := hS5a.size
          refine wp_store_at 25 (.tmp 6) (.tmp 17) rfl x1a.heap.size [z1, z2, z3] rfl rfl 25 _ (hb5a.at ((hA2a.below hb3a).below hb4a) (by omega)) i25 rfl (by rw [← hZc.1]; exact hZc.2) ?_
          intro x6a hA6a hb6a hs6a
          have sz6a := hb6a.size
          have hS6a := (hb6a.below hS5a (by omega) hS5a.size)
          refine hK.out _ _ hS6a (fun _ => ?_)
          clear hK K
          refine wpAnyH_done (by kernel_rfl) ?_ _
          exact ⟨rfl, _, _, _, _, _, _, _, _, _, _, _, _, _, _, _, _, _, _, _, _, _, _, _, _, _, _, _, _, _, _, _, _, _, _, _, _, _, _, _, _, _, _, _, _, _, _, _, _, _, _, _, _, _, _, _, _, rfl, (hb6a.at hA5a (by omega)), hA6a, Y, Z, hYc.1, hZc.1, hYd, hZd, CT.In.stay (S := fun q => x0a.heap.size ≤ q) hYi hYl (by omega) (fun q hq hl => (hb6a.block q (by omega) (by omega)).trans ((hb5a.block q (by omega) (by omega)).trans ((hb4a.block q (by omega)).trans ((hb3a.block q (by omega)).trans (hb2a.block q (by omega)))))), CT.In.stay (S := fun q => x3a.heap.size ≤ q) hZi hZl (by omega) (fun q hq hl => (hb6a.block q (by omega) (by omega)).trans (hb5a.block q (by omega) (by omega))), hS6a, by omega, by omega⟩
    · skip
      rw [if_pos (by rfl)]
      have sv1a := hS0a.size
      refine wp_alloc_at 25 rfl (CT.cells ⟨none, 0, [], 0, none, 0, []⟩) _ z25 ?_
      intro x1a hA1a hb1a hs1a
      have lt1a : x0a.heap.size < x1a.heap.size := hA1a.lt
      clear hs1a
      have sz1a := hb1a.size
      have hS1a := hS0a.trans (hb1a.mono hS0a.size)
      refine hK.out _ _ hS1a (fun _ => ?_)
      clear hK K
      refine wpAnyH_ready (rs := [1, 5]) (by kernel_rfl) (by simp) ?_
      refine AllReadyH.cons (o := { dst := some 15, op := .call { callee := .value (.func 7), args := #[.tmp 14], argTypes := #[25] }, type := _, pos := _, after := _, guard := none }) rfl (fun K hK => ?_) (AllReadyH.cons (o := { dst := some 6, op := .alloc 25, type := _, pos := _, after := _, guard := none }) rfl (fun K hK => ?_) AllReadyH.nil)
      · skip
        rw [if_pos (by rfl)]
        have sv2a := hS1a.size
        go_wp2_with (go_at_call 7; refine (Q7x.out _ (hwW.trans (hS1a.mono hwW.size))).mono ?_; rintro e x2a ⟨y1, y2, y3, Y, rfl, hYc, hYd, hYi, hYl, hb2a⟩)
        have sz2a := hb2a.size
        have hS2a := hS1a.trans (hb2a.mono hS1a.size)
        refine hK.out _ _ hS2a (fun _ => ?_)
        clear hK K
        refine wpAnyH_ready (rs := [3, 5]) (by kernel_rfl) (by simp) ?_
        refine AllReadyH.cons (o := { dst := some 17, op := .call { callee := .value (.func 7), args := #[.tmp 16], argTypes := #[25] }, type := _, pos := _, after := _, guard := none }) rfl (fun K hK => ?_) (AllReadyH.cons (o := { dst := some 6, op := .alloc 25, type := _, pos := _, after := _, guard := none }) rfl (fun K hK => ?_) AllReadyH.nil)
        · skip
          rw [if_pos (by rfl)]
          have sv3a := hS2a.size
          go_wp2_with (go_at_call 7; refine (Q7y.out _ (hwW.trans (hS2a.mono hwW.size))).mono ?_; rintro e x3a ⟨z1, z2, z3, Z, rfl, hZc, hZd, hZi, hZl, hb3a⟩)
          have sz3a := hb3a.size
          have hS3a := hS2a.trans (hb3a.mono hS2a.size)
          refine hK.out _ _ hS3a (fun _ => ?_)
          clear hK K
          refine wpAnyH_ready (rs := [5]) (by kernel_rfl) (by simp) ?_
          refine AllReadyH.cons (o := { dst := some 6, op := .alloc 25, type := _, pos := _, after := _, guard := none }) rfl (fun K hK => ?_) AllReadyH.nil
          rw [if_pos (by rfl)]
          have sv4a := hS3a.size
          refine wp_alloc_at 25 rfl (CT.cells ⟨none, 0, [], 0, none, 0, []⟩) _ z25 ?_
          intro x4a hA4a hb4a hs4a
          have lt4a : x3a.heap.size < x4a.heap.size := hA4a.lt
          clear hs4a
          have sz4a := hb4a.size
          have hS4a := hS3a.trans (hb4a.mono hS3a.size)
          refine hK.out _ _ hS4a (fun _ => ?_)
          clear hK K
          refine wpAnyH_ready (rs := [6]) (by kernel_rfl) (by simp) ?_
          refine AllReadyH.cons (o := { dst := none, op := .store 25 (.tmp 5) (.tmp 15), type := _, pos := _, after := _, guard := none }) rfl (fun K hK => ?_) AllReadyH.nil
          rw [if_pos (by rfl)]
          have sv5a := hS4a.size
          refine wp_store_at 25 (.tmp 5) (.tmp 15) rfl x0a.heap.size [y1, y2, y3] rfl rfl 25 _ (((hA1a.below hb2a).below hb3a).below hb4a) i25 rfl (by rw [← hYc.1]; exact hYc.2) ?_
          intro x5a hA5a hb5a hs5a
          have sz5a := hb5a.size
          have hS5a := (hb5a.below hS4a (by omega) hS4a.size)
          refine hK.out _ _ hS5a (fun _ => ?_)
          clear hK K
          refine wpAnyH_ready (rs := [7]) (by kernel_rfl) (by simp) ?_
          refine AllReadyH.cons (o := { dst := none, op := .store 25 (.tmp 6) (.tmp 17), type := _, pos := _, after := _, guard := none }) rfl (fun K hK => ?_) AllReadyH.nil
          rw [if_pos (by rfl)]
          have sv6a := hS5a.size
          refine wp_store_at 25 (.tmp 6) (.tmp 17) rfl x3a.heap.size [z1, z2, z3] rfl rfl 25 _ (hb5a.at hA4a (by omega)) i25 rfl (by rw [← hZc.1]; exact hZc.2) ?_
          intro x6a hA6a hb6a hs6a
          have sz6a := hb6a.size
          have hS6a := (hb6a.below hS5a (by omega) hS5a.size)
          refine hK.out _ _ hS6a (fun _ => ?_)
          clear hK K
          refine wpAnyH_done (by kernel_rfl) ?_ _
          exact ⟨rfl, _, _, _, _, _, _, _, _, _, _, _, _, _, _, _, _, _, _, _, _, _, _, _, _, _, _, _, _, _, _, _, _, _, _, _, _, _, _, _, _, _, _, _, _, _, _, _, _, _, _, _, _, _, _, _, _, rfl, (hb6a.at hA5a (by omega)), hA6a, Y, Z, hYc.1, hZc.1, hYd, hZd, CT.In.stay (S := fun q => x1a.heap.size ≤ q) hYi hYl (by omega) (fun q hq hl => (hb6a.block q (by omega) (by omega)).trans ((hb5a.block q (by omega) (by omega)).trans ((hb4a.block q (by omega)).trans (hb3a.block q (by omega))))), CT.In.stay (S := fun q => x2a.heap.size ≤ q) hZi hZl (by omega) (fun q hq hl => (hb6a.block q (by omega) (by omega)).trans ((hb5a.block q (by omega) (by omega)).trans (hb4a.block q (by omega)))), hS6a, by omega, by omega⟩
        · skip
          rw [if_pos (by rfl)]
          have sv3a := hS2a.size
          refine wp_alloc_at 25 rfl (CT.cells ⟨none, 0, [], 0, none, 0, []⟩) _ z25 ?_
          intro x3a hA3a hb3a hs3a
          have lt3a : x2a.heap.size < x3a.heap.size := hA3a.lt
          clear hs3a
          have sz3a := hb3a.size
          have hS3a := hS2a.trans (hb3a.mono hS2a.size)
          refine hK.out _ _ hS3a (fun _ => ?_)
          clear hK K
          refine wpAnyH_ready (rs := [3]) (by kernel_rfl) (by simp) ?_
          refine AllReadyH.cons (o := { dst := some 17, op := .call { callee := .value (.func 7), args := #[.tmp 16], argTypes := #[25] }, type := _, pos := _, after := _, guard := none }) rfl (fun K hK => ?_) AllReadyH.nil
          rw [if_pos (by rfl)]
          have sv4a := hS3a.size
          go_wp2_with (go_at_call 7; refine (Q7y.out _ (hwW.trans (hS3a.mono hwW.size))).mono ?_; rintro e x4a ⟨z1, z2, z3, Z, rfl, hZc, hZd, hZi, hZl, hb4a⟩)
          have sz4a := hb4a.size
          have hS4a := hS3a.trans (hb4a.mono hS3a.size)
          refine hK.out _ _ hS4a (fun _ => ?_)
          clear hK K
          refine wpAnyH_ready (rs := [6]) (by kernel_rfl) (by simp) ?_
          refine AllReadyH.cons (o := { dst := none, op := .store 25 (.tmp 5) (.tmp 15), type := _, pos := _, after := _, guard := none }) rfl (fun K hK => ?_) AllReadyH.nil
          rw [if_pos (by rfl)]
          have sv5a := hS4a.size
          refine wp_store_at 25 (.tmp 5) (.tmp 15) rfl x0a.heap.size [y1, y2, y3] rfl rfl 25 _ (((hA1a.below hb2a).below hb3a).below hb4a) i25 rfl (by rw [← hYc.1]; exact hYc.2) ?_
          intro x5a hA5a hb5a hs5a
          have sz5a := hb5a.size
          have hS5a := (hb5a.below hS4a (by omega) hS4a.size)
          refine hK.out _ _ hS5a (fun _ => ?_)
          clear hK K
          refine wpAnyH_ready (rs := [7]) (by kernel_rfl) (by simp) ?_
          refine AllReadyH.cons (o := { dst := none, op := .store 25 (.tmp 6) (.tmp 17), type := _, pos := _, after := _, guard := none }) rfl (fun K hK => ?_) AllReadyH.nil
          rw [if_pos (by rfl)]
          have sv6a := hS5a.size
          refine wp_store_at 25 (.tmp 6) (.tmp 17) rfl x2a.heap.size [z1, z2, z3] rfl rfl 25 _ (hb5a.at (hA3a.below hb4a) (by omega)) i25 rfl (by rw [← hZc.1]; exact hZc.2) ?_
          intro x6a hA6a hb6a hs6a
          have sz6a := hb6a.size
          have hS6a := (hb6a.below hS5a (by omega) hS5a.size)
          refine hK.out _ _ hS6a (fun _ => ?_)
          clear hK K
          refine wpAnyH_done (by kernel_rfl) ?_ _
          exact ⟨rfl, _, _, _, _, _, _, _, _, _, _, _, _, _, _, _, _, _, _, _, _, _, _, _, _, _, _, _, _, _, _, _, _, _, _, _, _, _, _, _, _, _, _, _, _, _, _, _, _, _, _, _, _, _, _, _, _, rfl, (hb6a.at hA5a (by omega)), hA6a, Y, Z, hYc.1, hZc.1, hYd, hZd, CT.In.stay (S := fun q => x1a.heap.size ≤ q) hYi hYl (by omega) (fun q hq hl => (hb6a.block q (by omega) (by omega)).trans ((hb5a.block q (by omega) (by omega)).trans ((hb4a.block q (by omega)).trans (hb3a.block q (by omega))))), CT.In.stay (S := fun q => x3a.heap.size ≤ q) hZi hZl (by omega) (fun q hq hl => (hb6a.block q (by omega) (by omega)).trans (hb5a.block q (by omega) (by omega))), hS6a, by omega, by omega⟩
      · skip
        rw [if_pos (by rfl)]
        have sv2a := hS1a.size
        refine wp_alloc_at 25 rfl (CT.cells ⟨none, 0, [], 0, none, 0, []⟩) _ z25 ?_
        intro x2a hA2a hb2a hs2a
        have lt2a : x1a.heap.size < x2a.heap.size := hA2a.lt
        clear hs2a
        have sz2a := hb2a.size
        have hS2a := hS1a.trans (hb2a.mono hS1a.size)
        refine hK.out _ _ hS2a (fun _ => ?_)
        clear hK K
        refine wpAnyH_ready (rs := [1]) (by kernel_rfl) (by simp) ?_
        refine AllReadyH.cons (o := { dst := some 15, op := .call { callee := .value (.func 7), args := #[.tmp 14], argTypes := #[25] }, type := _, pos := _, after := _, guard := none }) rfl (fun K hK => ?_) AllReadyH.nil
        rw [if_pos (by rfl)]
        have sv3a := hS2a.size
        go_wp2_with (go_at_call 7; refine (Q7x.out _ (hwW.trans (hS2a.mono hwW.size))).mono ?_; rintro e x3a ⟨y1, y2, y3, Y, rfl, hYc, hYd, hYi, hYl, hb3a⟩)
        have sz3a := hb3a.size
        have hS3a := hS2a.trans (hb3a.mono hS2a.size)
        refine hK.out _ _ hS3a (fun _ => ?_)
        clear hK K
        refine wpAnyH_ready (rs := [3]) (by kernel_rfl) (by simp) ?_
        refine AllReadyH.cons (o := { dst := some 17, op := .call { callee := .value (.func 7), args := #[.tmp 16], argTypes := #[25] }, type := _, pos := _, after := _, guard := none }) rfl (fun K hK => ?_) AllReadyH.nil
        rw [if_pos (by rfl)]
        have sv4a := hS3a.size
        go_wp2_with (go_at_call 7; refine (Q7y.out _ (hwW.trans (hS3a.mono hwW.size))).mono ?_; rintro e x4a ⟨z1, z2, z3, Z, rfl, hZc, hZd, hZi, hZl, hb4a⟩)
        have sz4a := hb4a.size
        have hS4a := hS3a.trans (hb4a.mono hS3a.size)
        refine hK.out _ _ hS4a (fun _ => ?_)
        clear hK K
        refine wpAnyH_ready (rs := [6]) (by kernel_rfl) (by simp) ?_
        refine AllReadyH.cons (o := { dst := none, op := .store 25 (.tmp 5) (.tmp 15), type := _, pos := _, after := _, guard := none }) rfl (fun K hK => ?_) AllReadyH.nil
        rw [if_pos (by rfl)]
        have sv5a := hS4a.size
        refine wp_store_at 25 (.tmp 5) (.tmp 15) rfl x0a.heap.size [y1, y2, y3] rfl rfl 25 _ (((hA1a.below hb2a).below hb3a).below hb4a) i25 rfl (by rw [← hYc.1]; exact hYc.2) ?_
        intro x5a hA5a hb5a hs5a
        have sz5a := hb5a.size
        have hS5a := (hb5a.below hS4a (by omega) hS4a.size)
        refine hK.out _ _ hS5a (fun _ => ?_)
        clear hK K
        refine wpAnyH_ready (rs := [7]) (by kernel_rfl) (by simp) ?_
        refine AllReadyH.cons (o := { dst := none, op := .store 25 (.tmp 6) (.tmp 17), type := _, pos := _, after := _, guard := none }) rfl (fun K hK => ?_) AllReadyH.nil
        rw [if_pos (by rfl)]
        have sv6a := hS5a.size
        refine wp_store_at 25 (.tmp 6) (.tmp 17) rfl x1a.heap.size [z1, z2, z3] rfl rfl 25 _ (hb5a.at ((hA2a.below hb3a).below hb4a) (by omega)) i25 rfl (by rw [← hZc.1]; exact hZc.2) ?_
        intro x6a hA6a hb6a hs6a
        have sz6a := hb6a.size
        have hS6a := (hb6a.below hS5a (by omega) hS5a.size)
        refine hK.out _ _ hS6a (fun _ => ?_)
        clear hK K
        refine wpAnyH_done (by kernel_rfl) ?_ _
        exact ⟨rfl, _, _, _, _, _, _, _, _, _, _, _, _, _, _, _, _, _, _, _, _, _, _, _, _, _, _, _, _, _, _, _, _, _, _, _, _, _, _, _, _, _, _, _, _, _, _, _, _, _, _, _, _, _, _, _, _, rfl, (hb6a.at hA5a (by omega)), hA6a, Y, Z, hYc.1, hZc.1, hYd, hZd, CT.In.stay (S := fun q => x2a.heap.size ≤ q) hYi hYl (by omega) (fun q hq hl => (hb6a.block q (by omega) (by omega)).trans ((hb5a.block q (by omega) (by omega)).trans (hb4a.block q (by omega)))), CT.In.stay (S := fun q => x3a.heap.size ≤ q) hZi hZl (by omega) (fun q hq hl => (hb6a.block q (by omega) (by omega)).trans (hb5a.block q (by omega) (by omega))), hS6a, by omega, by omega⟩
    · skip
      rw [if_pos (by rfl)]
      have sv1a := hS0a.size
      refine wp_alloc_at 25 rfl (CT.cells ⟨none, 0, [], 0, none, 0, []⟩) _ z25 ?_
      intro x1a hA1a hb1a hs1a
      have lt1a : x0a.heap.size < x1a.heap.size := hA1a.lt
      clear hs1a
      have sz1a := hb1a.size
      have hS1a := hS0a.trans (hb1a.mono hS0a.size)
      refine hK.out _ _ hS1a (fun _ => ?_)
      clear hK K
      refine wpAnyH_ready (rs := [1, 4]) (by kernel_rfl) (by simp) ?_
      refine AllReadyH.cons (o := { dst := some 15, op := .call { callee := .value (.func 7), args := #[.tmp 14], argTypes := #[25] }, type := _, pos := _, after := _, guard := none }) rfl (fun K hK => ?_) (AllReadyH.cons (o := { dst := some 5, op := .alloc 25, type := _, pos := _, after := _, guard := none }) rfl (fun K hK => ?_) AllReadyH.nil)
      · skip
        rw [if_pos (by rfl)]
        have sv2a := hS1a.size
        go_wp2_with (go_at_call 7; refine (Q7x.out _ (hwW.trans (hS1a.mono hwW.size))).mono ?_; rintro e x2a ⟨y1, y2, y3, Y, rfl, hYc, hYd, hYi, hYl, hb2a⟩)
        have sz2a := hb2a.size
        have hS2a := hS1a.trans (hb2a.mono hS1a.size)
        refine hK.out _ _ hS2a (fun _ => ?_)
        clear hK K
        refine wpAnyH_ready (rs := [3, 4]) (by kernel_rfl) (by simp) ?_
        refine AllReadyH.cons (o := { dst := some 17, op := .call { callee := .value (.func 7), args := #[.tmp 16], argTypes := #[25] }, type := _, pos := _, after := _, guard := none }) rfl (fun K hK => ?_) (AllReadyH.cons (o := { dst := some 5, op := .alloc 25, type := _, pos := _, after := _, guard := none }) rfl (fun K hK => ?_) AllReadyH.nil)
        · skip
          rw [if_pos (by rfl)]
          have sv3a := hS2a.size
          go_wp2_with (go_at_call 7; refine (Q7y.out _ (hwW.trans (hS2a.mono hwW.size))).mono ?_; rintro e x3a ⟨z1, z2, z3, Z, rfl, hZc, hZd, hZi, hZl, hb3a⟩)
          have sz3a := hb3a.size
          have hS3a := hS2a.trans (hb3a.mono hS2a.size)
          refine hK.out _ _ hS3a (fun _ => ?_)
          clear hK K
          refine wpAnyH_ready (rs := [4]) (by kernel_rfl) (by simp) ?_
          refine AllReadyH.cons (o := { dst := some 5, op := .alloc 25, type := _, pos := _, after := _, guard := none }) rfl (fun K hK => ?_) AllReadyH.nil
          rw [if_pos (by rfl)]
          have sv4a := hS3a.size
          refine wp_alloc_at 25 rfl (CT.cells ⟨none, 0, [], 0, none, 0, []⟩) _ z25 ?_
          intro x4a hA4a hb4a hs4a
          have lt4a : x3a.heap.size < x4a.heap.size := hA4a.lt
          clear hs4a
          have sz4a := hb4a.size
          have hS4a := hS3a.trans (hb4a.mono hS3a.size)
          refine hK.out _ _ hS4a (fun _ => ?_)
          clear hK K
          refine wpAnyH_ready (rs := [6]) (by kernel_rfl) (by simp) ?_
          refine AllReadyH.cons (o := { dst := none, op := .store 25 (.tmp 5) (.tmp 15), type := _, pos := _, after := _, guard := none }) rfl (fun K hK => ?_) AllReadyH.nil
          rw [if_pos (by rfl)]
          have sv5a := hS4a.size
          refine wp_store_at 25 (.tmp 5) (.tmp 15) rfl x3a.heap.size [y1, y2, y3] rfl rfl 25 _ hA4a i25 rfl (by rw [← hYc.1]; exact hYc.2) ?_
          intro x5a hA5a hb5a hs5a
          have sz5a := hb5a.size
          have hS5a := (hb5a.below hS4a (by omega) hS4a.size)
          refine hK.out _ _ hS5a (fun _ => ?_)
          clear hK K
          refine wpAnyH_ready (rs := [7]) (by kernel_rfl) (by simp) ?_
          refine AllReadyH.cons (o := { dst := none, op := .store 25 (.tmp 6) (.tmp 17), type := _, pos := _, after := _, guard := none }) rfl (fun K hK => ?_) AllReadyH.nil
          rw [if_pos (by rfl)]
          have sv6a := hS5a.size
          refine wp_store_at 25 (.tmp 6) (.tmp 17) rfl x0a.heap.size [z1, z2, z3] rfl rfl 25 _ (hb5a.at (((hA1a.below hb2a).below hb3a).below hb4a) (by omega)) i25 rfl (by rw [← hZc.1]; exact hZc.2) ?_
          intro x6a hA6a hb6a hs6a
          have sz6a := hb6a.size
          have hS6a := (hb6a.below hS5a (by omega) hS5a.size)
          refine hK.out _ _ hS6a (fun _ => ?_)
          clear hK K
          refine wpAnyH_done (by kernel_rfl) ?_ _
          exact ⟨rfl, _, _, _, _, _, _, _, _, _, _, _, _, _, _, _, _, _, _, _, _, _, _, _, _, _, _, _, _, _, _, _, _, _, _, _, _, _, _, _, _, _, _, _, _, _, _, _, _, _, _, _, _, _, _, _, _, rfl, (hb6a.at hA5a (by omega)), hA6a, Y, Z, hYc.1, hZc.1, hYd, hZd, CT.In.stay (S := fun q => x1a.heap.size ≤ q) hYi hYl (by omega) (fun q hq hl => (hb6a.block q (by omega) (by omega)).trans ((hb5a.block q (by omega) (by omega)).trans ((hb4a.block q (by omega)).trans (hb3a.block q (by omega))))), CT.In.stay (S := fun q => x2a.heap.size ≤ q) hZi hZl (by omega) (fun q hq hl => (hb6a.block q (by omega) (by omega)).trans ((hb5a.block q (by omega) (by omega)).trans (hb4a.block q (by omega)))), hS6a, by omega, by omega⟩
        · skip
          rw [if_pos (by rfl)]
          have sv3a := hS2a.size
          refine wp_alloc_at 25 rfl (CT.cells ⟨none, 0, [], 0, none, 0, []⟩) _ z25 ?_
          intro x3a hA3a hb3a hs3a
          have lt3a : x2a.heap.size < x3a.heap.size := hA3a.lt
          clear hs3a
          have sz3a := hb3a.size
          have hS3a := hS2a.trans (hb3a.mono hS2a.size)
          refine hK.out _ _ hS3a (fun _ => ?_)
          clear hK K
          refine wpAnyH_ready (rs := [3]) (by kernel_rfl) (by simp) ?_
          refine AllReadyH.cons (o := { dst := some 17, op := .call { callee := .value (.func 7), args := #[.tmp 16], argTypes := #[25] }, type := _, pos := _, after := _, guard := none }) rfl (fun K hK => ?_) AllReadyH.nil
          rw [if_pos (by rfl)]
          have sv4a := hS3a.size
          go_wp2_with (go_at_call 7; refine (Q7y.out _ (hwW.trans (hS3a.mono hwW.size))).mono ?_; rintro e x4a ⟨z1, z2, z3, Z, rfl, hZc, hZd, hZi, hZl, hb4a⟩)
          have sz4a := hb4a.size
          have hS4a := hS3a.trans (hb4a.mono hS3a.size)
          refine hK.out _ _ hS4a (fun _ => ?_)
          clear hK K
          refine wpAnyH_ready (rs := [6]) (by kernel_rfl) (by simp) ?_
          refine AllReadyH.cons (o := { dst := none, op := .store 25 (.tmp 5) (.tmp 15), type := _, pos := _, after := _, guard := none }) rfl (fun K hK => ?_) AllReadyH.nil
          rw [if_pos (by rfl)]
          have sv5a := hS4a.size
          refine wp_store_at 25 (.tmp 5) (.tmp 15) rfl x2a.heap.size [y1, y2, y3] rfl rfl 25 _ (hA3a.below hb4a) i25 rfl (by rw [← hYc.1]; exact hYc.2) ?_
          intro x5a hA5a hb5a hs5a
          have sz5a := hb5a.size
          have hS5a := (hb5a.below hS4a (by omega) hS4a.size)
          refine hK.out _ _ hS5a (fun _ => ?_)
          clear hK K
          refine wpAnyH_ready (rs := [7]) (by kernel_rfl) (by simp) ?_
          refine AllReadyH.cons (o := { dst := none, op := .store 25 (.tmp 6) (.tmp 17), type := _, pos := _, after := _, guard := none }) rfl (fun K hK => ?_) AllReadyH.nil
          rw [if_pos (by rfl)]
          have sv6a := hS5a.size
          refine wp_store_at 25 (.tmp 6) (.tmp 17) rfl x0a.heap.size [z1, z2, z3] rfl rfl 25 _ (hb5a.at (((hA1a.below hb2a).below hb3a).below hb4a) (by omega)) i25 rfl (by rw [← hZc.1]; exact hZc.2) ?_
          intro x6a hA6a hb6a hs6a
          have sz6a := hb6a.size
          have hS6a := (hb6a.below hS5a (by omega) hS5a.size)
          refine hK.out _ _ hS6a (fun _ => ?_)
          clear hK K
          refine wpAnyH_done (by kernel_rfl) ?_ _
          exact ⟨rfl, _, _, _, _, _, _, _, _, _, _, _, _, _, _, _, _, _, _, _, _, _, _, _, _, _, _, _, _, _, _, _, _, _, _, _, _, _, _, _, _, _, _, _, _, _, _, _, _, _, _, _, _, _, _, _, _, rfl, (hb6a.at hA5a (by omega)), hA6a, Y, Z, hYc.1, hZc.1, hYd, hZd, CT.In.stay (S := fun q => x1a.heap.size ≤ q) hYi hYl (by omega) (fun q hq hl => (hb6a.block q (by omega) (by omega)).trans ((hb5a.block q (by omega) (by omega)).trans ((hb4a.block q (by omega)).trans (hb3a.block q (by omega))))), CT.In.stay (S := fun q => x3a.heap.size ≤ q) hZi hZl (by omega) (fun q hq hl => (hb6a.block q (by omega) (by omega)).trans (hb5a.block q (by omega) (by omega))), hS6a, by omega, by omega⟩
      · skip
        rw [if_pos (by rfl)]
        have sv2a := hS1a.size
        refine wp_alloc_at 25 rfl (CT.cells ⟨none, 0, [], 0, none, 0, []⟩) _ z25 ?_
        intro x2a hA2a hb2a hs2a
        have lt2a : x1a.heap.size < x2a.heap.size := hA2a.lt
        clear hs2a
        have sz2a := hb2a.size
        have hS2a := hS1a.trans (hb2a.mono hS1a.size)
        refine hK.out _ _ hS2a (fun _ => ?_)
        clear hK K
        refine wpAnyH_ready (rs := [1]) (by kernel_rfl) (by simp) ?_
        refine AllReadyH.cons (o := { dst := some 15, op := .call { callee := .value (.func 7), args := #[.tmp 14], argTypes := #[25] }, type := _, pos := _, after := _, guard := none }) rfl (fun K hK => ?_) AllReadyH.nil
        rw [if_pos (by rfl)]
        have sv3a := hS2a.size
        go_wp2_with (go_at_call 7; refine (Q7x.out _ (hwW.trans (hS2a.mono hwW.size))).mono ?_; rintro e x3a ⟨y1, y2, y3, Y, rfl, hYc, hYd, hYi, hYl, hb3a⟩)
        have sz3a := hb3a.size
        have hS3a := hS2a.trans (hb3a.mono hS2a.size)
        refine hK.out _ _ hS3a (fun _ => ?_)
        clear hK K
        refine wpAnyH_ready (rs := [3]) (by kernel_rfl) (by simp) ?_
        refine AllReadyH.cons (o := { dst := some 17, op := .call { callee := .value (.func 7), args := #[.tmp 16], argTypes := #[25] }, type := _, pos := _, after := _, guard := none }) rfl (fun K hK => ?_) AllReadyH.nil
        rw [if_pos (by rfl)]
        have sv4a := hS3a.size
        go_wp2_with (go_at_call 7; refine (Q7y.out _ (hwW.trans (hS3a.mono hwW.size))).mono ?_; rintro e x4a ⟨z1, z2, z3, Z, rfl, hZc, hZd, hZi, hZl, hb4a⟩)
        have sz4a := hb4a.size
        have hS4a := hS3a.trans (hb4a.mono hS3a.size)
        refine hK.out _ _ hS4a (fun _ => ?_)
        clear hK K
        refine wpAnyH_ready (rs := [6]) (by kernel_rfl) (by simp) ?_
        refine AllReadyH.cons (o := { dst := none, op := .store 25 (.tmp 5) (.tmp 15), type := _, pos := _, after := _, guard := none }) rfl (fun K hK => ?_) AllReadyH.nil
        rw [if_pos (by rfl)]
        have sv5a := hS4a.size
        refine wp_store_at 25 (.tmp 5) (.tmp 15) rfl x1a.heap.size [y1, y2, y3] rfl rfl 25 _ ((hA2a.below hb3a).below hb4a) i25 rfl (by rw [← hYc.1]; exact hYc.2) ?_
        intro x5a hA5a hb5a hs5a
        have sz5a := hb5a.size
        have hS5a := (hb5a.below hS4a (by omega) hS4a.size)
        refine hK.out _ _ hS5a (fun _ => ?_)
        clear hK K
        refine wpAnyH_ready (rs := [7]) (by kernel_rfl) (by simp) ?_
        refine AllReadyH.cons (o := { dst := none, op := .store 25 (.tmp 6) (.tmp 17), type := _, pos := _, after := _, guard := none }) rfl (fun K hK => ?_) AllReadyH.nil
        rw [if_pos (by rfl)]
        have sv6a := hS5a.size
        refine wp_store_at 25 (.tmp 6) (.tmp 17) rfl x0a.heap.size [z1, z2, z3] rfl rfl 25 _ (hb5a.at (((hA1a.below hb2a).below hb3a).below hb4a) (by omega)) i25 rfl (by rw [← hZc.1]; exact hZc.2) ?_
        intro x6a hA6a hb6a hs6a
        have sz6a := hb6a.size
        have hS6a := (hb6a.below hS5a (by omega) hS5a.size)
        refine hK.out _ _ hS6a (fun _ => ?_)
        clear hK K
        refine wpAnyH_done (by kernel_rfl) ?_ _
        exact ⟨rfl, _, _, _, _, _, _, _, _, _, _, _, _, _, _, _, _, _, _, _, _, _, _, _, _, _, _, _, _, _, _, _, _, _, _, _, _, _, _, _, _, _, _, _, _, _, _, _, _, _, _, _, _, _, _, _, _, rfl, (hb6a.at hA5a (by omega)), hA6a, Y, Z, hYc.1, hZc.1, hYd, hZd, CT.In.stay (S := fun q => x2a.heap.size ≤ q) hYi hYl (by omega) (fun q hq hl => (hb6a.block q (by omega) (by omega)).trans ((hb5a.block q (by omega) (by omega)).trans (hb4a.block q (by omega)))), CT.In.stay (S := fun q => x3a.heap.size ≤ q) hZi hZl (by omega) (fun q hq hl => (hb6a.block q (by omega) (by omega)).trans (hb5a.block q (by omega) (by omega))), hS6a, by omega, by omega⟩
  rintro e' a' U ⟨rfl, ga, gb, y1, y2, y3, z1, z2, z3, u0, u1, u4, u7, u8, u9, u10, u11, u12, u13, u14, u15, u16, u17, u18, u19, u20, u21, u22, u23, u24, u25, u26, u27, u28, u29, u30, u31, u32, u33, u34, u35, u36, u37, u38, u39, u40, u41, u42, u43, u44, u45, u46, u47, u48, u49, u50, u51, rfl, hAa, hAb, Y, Z, hYc, hZc, hYd, hZd, hYi, hZi, hWU, lga, lgb⟩
  have h2U := h2W.trans (hWU.mono h2W.size)
  have HB : Hid (∀ u, Below U.heap.size U u → At 25 u ga [y1, y2, y3] ∧ At 25 u gb [z1, z2, z3] ∧ At 25 u w.heap.size [p1, p2, p3] ∧ At 25 u w1.heap.size [q1, q2, q3] ∧ Below w.heap.size w u ∧ Y.In U.heap.size u ∧ Z.In U.heap.size u ∧ x.In w.heap.size u ∧ y.In w.heap.size u) := fun u hu => by
    have q := HA.out u (h2U.trans (hu.mono h2U.size))
    exact ⟨hAa.below hu, hAb.below hu, q.1, q.2.1, q.2.2, hYi.old (Old.of_below hu (Nat.le_refl _)), hZi.old (Old.of_below hu (Nat.le_refl _)), HI.out.1.old (Old.of_below q.2.2 (Nat.le_refl _)), HI.out.2.1.old (Old.of_below q.2.2 (Nat.le_refl _))⟩
  have HC : Hid (Y.cells = [y1, y2, y3] ∧ Z.cells = [z1, z2, z3] ∧ Y.cd = x.cd ∧ Z.cd = y.cd) := ⟨hYc, hZc, hYd, hZd⟩
  have lgU : ga < U.heap.size := hAa.lt
  have lgU' : gb < U.heap.size := hAb.lt
  have lwU : w2.heap.size ≤ U.heap.size := h2U.size
  clear hAa hAb hYc hZc hYd hZd hYi hZi hWU h2U h2W hwW k1 k2 k3 k4 k5 k6 Q7x Q7y
  have gU := HB.out U (Below.refl _ _)
  obtain ⟨m1, m2, m3⟩ := ct_cells gU.1
  have C8 : Calls Try.prog 8 #[.agg #[y1, y2, y3]] U fun r w' => ∃ (e1 e2 e3 : Value) (E : CT), r = .returned (.agg #[e1, e2, e3]) ∧ (E.cells = [e1, e2, e3] ∧ ∀ v ∈ E.cells, v.oneCell' = true) ∧ E.cd = Y.cd ∧ E.In w'.heap.size w' ∧ E.Lies (Fr U.heap.size w') ∧ Below U.heap.size U w' := by
    have := copy8_any U.heap.size Y U gU.2.2.2.2.2.1 (Nat.le_refl _)
    rw [HC.out.1] at this
    refine this.mono ?_
    rintro r w' ⟨E, rfl, h1, h2, h3, h4⟩
    exact ⟨_, _, _, E, rfl, ⟨rfl, E.one⟩, h1, h2, h3, h4⟩
  clear gU
  go_wp2_with (go_at_call 8; refine C8.mono ?_; rintro r w6 ⟨e1, e2, e3, E, rfl, hEc, hEd, hEi, hEl, hb6⟩; refine Hid.out ?_)
  refine hidU ?_
  have HE : Hid ((E.In w6.heap.size w6 ∧ E.Lies (Fr U.heap.size w6)) ∧ E.cd = Y.cd ∧ Below U.heap.size U w6) := ⟨⟨hEi, hEl⟩, hEd, hb6⟩
  have HEc : Hid (E.cells = [e1, e2, e3] ∧ ∀ v ∈ E.cells, v.oneCell' = true) := hEc
  clear hEc hEd hEi hEl hb6 C8 m1 m2 m3
  go_wp2_with (first
    | ((with_reducible show wpList _ _ _ _ _ _); refine wpList_alloc_at rfl 25 rfl _ 3 z25 ?_; intro w7 hA7 hb7 hs7; clear hs7)
    | ((with_reducible show wpList _ _ _ _ _ _); refine wpList_store_at (P := Try.prog) rfl 25 (.tmp 7) (.tmp 19) rfl w6.heap.size [e1, e2, e3] rfl rfl 25 _ hA7 i25 rfl (by rw [← HEc.out.1]; exact HEc.out.2) ?_; intro V hAe hb8 hs8; clear hs8; refine Hid.out ?_))
  refine hidU ?_
  obtain ⟨ge, hge⟩ : ∃ g, Hid (g = w6.heap.size) := ⟨_, (rfl : w6.heap.size = _)⟩
  have h6V : Below w6.heap.size w6 V := hb8.below hb7 (Nat.le_refl _) hb7.size
  have HEV : Hid ((E.In V.heap.size V ∧ E.Lies (Fr U.heap.size V)) ∧ E.cd = Y.cd) := ⟨CT.keepF HE.out.1 h6V.size (fun k _ hl => h6V.block k hl), HE.out.2.1⟩
  have hUV : Below U.heap.size U V := HE.out.2.2.trans (h6V.mono HE.out.2.2.size)
  have lge : U.heap.size ≤ w6.heap.size := HE.out.2.2.size
  rw [← hge.out] at hAe lge ⊢
  clear hA7 hb7 hb8 h6V HE hge
  obtain ⟨R, hR⟩ : ∃ R, Hid (R = decide (x.cd = y.cd)) := ⟨_, (rfl : decide (x.cd = y.cd) = _)⟩
  have HV : Hid (∀ u, Below V.heap.size V u → Below U.heap.size U u) := fun u hu => hUV.trans (hu.mono hUV.size)
  have K9 : Hid (∀ u, Below V.heap.size V u → Calls Try.prog 9 #[.agg #[y1, y2, y3], .agg #[z1, z2, z3]] u fun r w' => r = .returned (.bool R) ∧ Below u.heap.size u w') := fun u hu => by
    have g := HB.out u (HV.out u hu)
    have := sameC_any U.heap.size Y Z u g.2.2.2.2.2.1 g.2.2.2.2.2.2.1 (HV.out u hu).size
    rw [HC.out.1, HC.out.2.1, HC.out.2.2.1, HC.out.2.2.2, ← hR.out] at this
    exact this
  have K10 : Hid (∀ u, Below V.heap.size V u → Calls Try.prog 10 #[.agg #[p1, p2, p3], .agg #[q1, q2, q3]] u fun r w' => r = .returned (.bool R) ∧ Below u.heap.size u w') := fun u hu => by
    have g := HB.out u (HV.out u hu)
    have := kitC_any w.heap.size x y u g.2.2.2.2.2.2.2.1 g.2.2.2.2.2.2.2.2 g.2.2.2.2.1.size
    rw [HI.out.2.2.1, HI.out.2.2.2, ← hR.out] at this
    exact this
  have K10e : Hid (∀ u, Below V.heap.size V u → Calls Try.prog 10 #[.agg #[e1, e2, e3], .agg #[p1, p2, p3]] u fun r w' => r = .returned (.bool true) ∧ Below u.heap.size u w') := fun u hu => by
    have g := HB.out u (HV.out u hu)
    have := kitC_any V.heap.size E x u (HEV.out.1.1.old (Old.of_below hu (Nat.le_refl _))) (g.2.2.2.2.2.2.2.1.up (by have := lgU; have := hUV.size; omega)) hu.size
    rw [HEc.out.1, HI.out.2.2.1, decide_eq_true (HEV.out.2.trans HC.out.2.2.1)] at this
    exact this
  have K9e : Hid (∀ u, Below V.heap.size V u → Calls Try.prog 9 #[.agg #[e1, e2, e3], .agg #[y1, y2, y3]] u fun r w' => r = .returned (.bool true) ∧ Below u.heap.size u w') := fun u hu => by
    have g := HB.out u (HV.out u hu)
    have := sameC_any V.heap.size E Y u (HEV.out.1.1.old (Old.of_below hu (Nat.le_refl _))) (g.2.2.2.2.2.1.up hUV.size) hu.size
    rw [HEc.out.1, HC.out.1, decide_eq_true HEV.out.2] at this
    exact this
  have gV := HB.out V hUV
  obtain ⟨m1, m2, m3⟩ := ct_cells gV.1
  obtain ⟨m4, m5, m6⟩ := ct_cells gV.2.1
  obtain ⟨k1, k2, k3⟩ := ct_cells gV.2.2.1
  obtain ⟨k4, k5, k6⟩ := ct_cells gV.2.2.2.1
  obtain ⟨m7, m8, m9⟩ := ct_cells hAe
  have hV0 := hUV.size
  clear gV
  go_wp2_with fail
  have hS0b : Below V.heap.size V V.drew := Below.drew (Below.refl _ _)
  refine wp_region_held_drew (S := fun x => Below V.heap.size V x) (by kernel_rfl) hS0b ?_
  obtain ⟨x0b, hx0⟩ : ∃ x, x = V.drew := ⟨_, rfl⟩
  rw [← hx0] at hS0b ⊢
  clear hx0
  intro _
  refine wpAnyH_take (i := 0) (oi := { dst := some 20, op := .load 25 (.tmp 5), type := _, pos := _, after := _, guard := none }) (v := .agg #[y1, y2, y3]) rfl (by kernel_rfl) (by kernel_rfl) (by kernel_rfl) (fun _ _ _ h => h) (Or.inl ⟨by rfl, ?_⟩) hS0b ?_
  · intro wS hSw
    have z0 := (hSw.cell (lt_of_cell m1)).trans m1
    have z1 := (hSw.cell (lt_of_cell m2)).trans m2
    have z2 := (hSw.cell (lt_of_cell m3)).trans m3
    go_simp
  simp only [Act.put, List.setIfInBounds_toArray, List.set_cons_zero, List.set_cons_succ]
  refine wpAnyH_take (i := 1) (oi := { dst := some 21, op := .load 25 (.tmp 6), type := _, pos := _, after := _, guard := none }) (v := .agg #[z1, z2, z3]) rfl (by kernel_rfl) (by kernel_rfl) (by kernel_rfl) (fun _ _ _ h => h) (Or.inl ⟨by rfl, ?_⟩) hS0b ?_
  · intro wS hSw
    have z0 := (hSw.cell (lt_of_cell m4)).trans m4
    have z1 := (hSw.cell (lt_of_cell m5)).trans m5
    have z2 := (hSw.cell (lt_of_cell m6)).trans m6
    go_simp
  simp only [Act.put, List.setIfInBounds_toArray, List.set_cons_zero, List.set_cons_succ]
  refine wpAnyH_take (i := 3) (oi := { dst := some 23, op := .load 25 (.tmp 2), type := _, pos := _, after := _, guard := none }) (v := .agg #[p1, p2, p3]) rfl (by kernel_rfl) (by kernel_rfl) (by kernel_rfl) (fun _ _ _ h => h) (Or.inl ⟨by rfl, ?_⟩) hS0b ?_
  · intro wS hSw
    have z0 := (hSw.cell (lt_of_cell k1)).trans k1
    have z1 := (hSw.cell (lt_of_cell k2)).trans k2
    have z2 := (hSw.cell (lt_of_cell k3)).trans k3
    go_simp
  simp only [Act.put, List.setIfInBounds_toArray, List.set_cons_zero, List.set_cons_succ]
  refine wpAnyH_take (i := 4) (oi := { dst := some 24, op := .load 25 (.tmp 3), type := _, pos := _, after := _, guard := none }) (v := .agg #[q1, q2, q3]) rfl (by kernel_rfl) (by kernel_rfl) (by kernel_rfl) (fun _ _ _ h => h) (Or.inl ⟨by rfl, ?_⟩) hS0b ?_
  · intro wS hSw
    have z0 := (hSw.cell (lt_of_cell k4)).trans k4
    have z1 := (hSw.cell (lt_of_cell k5)).trans k5
    have z2 := (hSw.cell (lt_of_cell k6)).trans k6
    go_simp
  simp only [Act.put, List.setIfInBounds_toArray, List.set_cons_zero, List.set_cons_succ]
  refine wpAnyH_ready (rs := [2]) (by kernel_rfl) (by simp) ?_
  refine AllReadyH.cons (o := { dst := some 22, op := .call { callee := .value (.func 9), args := #[.tmp 20, .tmp 21], argTypes := #[25, 25] }, type := _, pos := _, after := _, guard := none }) rfl (fun K hK => ?_) AllReadyH.nil
  rw [if_pos (by rfl)]
  have sv1b := hS0b.size
  go_wp2_with (go_at_call 9; refine (K9.out _ hS0b).mono ?_; rintro e x1b ⟨rfl, hb1b⟩)
  have sz1b := hb1b.size
  have hS1b := hS0b.trans (hb1b.mono hS0b.size)
  refine hK.out _ _ hS1b (fun _ => ?_)
  clear hK K
  refine wpAnyH_ready (rs := [5]) (by kernel_rfl) (by simp) ?_
  refine AllReadyH.cons (o := { dst := some 25, op := .call { callee := .value (.func 10), args := #[.tmp 23, .tmp 24], argTypes := #[25, 25] }, type := _, pos := _, after := _, guard := none }) rfl (fun K hK => ?_) AllReadyH.nil
  rw [if_pos (by rfl)]
  have sv2b := hS1b.size
  go_wp2_with (go_at_call 10; refine (K10.out _ hS1b).mono ?_; rintro e x2b ⟨rfl, hb2b⟩)
  have sz2b := hb2b.size
  have hS2b := hS1b.trans (hb2b.mono hS1b.size)
  refine hK.out _ _ hS2b (fun _ => ?_)
  clear hK K
  refine wpAnyH_take (i := 6) (oi := { dst := some 26, op := .binOp .neq 4 (.tmp 22) (.tmp 25) 4, type := _, pos := _, after := _, guard := none }) (v := .bool false) rfl (by kernel_rfl) (by kernel_rfl) (by kernel_rfl) (fun _ _ _ h => h) (Or.inl ⟨by rfl, ?_⟩) hS2b ?_
  · intro wS hSw
    have e6 : (R != R) = false := bne_self_eq_false R
    go_simp
  simp only [Act.put, List.setIfInBounds_toArray, List.set_cons_zero, List.set_cons_succ]
  refine wpAnyH_take (i := 7) (oi := { dst := some 27, op := .move (.tmp 26), type := _, pos := _, after := _, guard := none }) (v := .bool false) rfl (by kernel_rfl) (by kernel_rfl) (by kernel_rfl) (fun _ _ _ h => h) (Or.inl ⟨by rfl, ?_⟩) hS2b ?_
  · intro wS hSw
    go_simp
  simp only [Act.put, List.setIfInBounds_toArray, List.set_cons_zero, List.set_cons_succ]
  refine wpAnyH_take (i := 8) (oi := { dst := some 28, op := .load 25 (.tmp 7), type := _, pos := _, after := _, guard := some (7, false) }) (v := .agg #[e1, e2, e3]) rfl (by kernel_rfl) (by kernel_rfl) (by kernel_rfl) (fun _ _ _ h => h) (Or.inl ⟨by rfl, ?_⟩) hS2b ?_
  · intro wS hSw
    have z0 := (hSw.cell (lt_of_cell m7)).trans m7
    have z1 := (hSw.cell (lt_of_cell m8)).trans m8
    have z2 := (hSw.cell (lt_of_cell m9)).trans m9
    go_simp
  simp only [Act.put, List.setIfInBounds_toArray, List.set_cons_zero, List.set_cons_succ]
  refine wpAnyH_take (i := 9) (oi := { dst := some 29, op := .load 25 (.tmp 2), type := _, pos := _, after := _, guard := some (7, false) }) (v := .agg #[p1, p2, p3]) rfl (by kernel_rfl) (by kernel_rfl) (by kernel_rfl) (fun _ _ _ h => h) (Or.inl ⟨by rfl, ?_⟩) hS2b ?_
  · intro wS hSw
    have z0 := (hSw.cell (lt_of_cell k1)).trans k1
    have z1 := (hSw.cell (lt_of_cell k2)).trans k2
    have z2 := (hSw.cell (lt_of_cell k3)).trans k3
    go_simp
  simp only [Act.put, List.setIfInBounds_toArray, List.set_cons_zero, List.set_cons_succ]
  refine wpAnyH_ready (rs := [10]) (by kernel_rfl) (by simp) ?_
  refine AllReadyH.cons (o := { dst := some 30, op := .call { callee := .value (.func 10), args := #[.tmp 28, .tmp 29], argTypes := #[25, 25] }, type := _, pos := _, after := _, guard := some (7, false) }) rfl (fun K hK => ?_) AllReadyH.nil
  rw [if_pos (by rfl)]
  have sv3b := hS2b.size
  go_wp2_with (go_at_call 10; refine (K10e.out _ hS2b).mono ?_; rintro e x3b ⟨rfl, hb3b⟩)
  have sz3b := hb3b.size
  have hS3b := hS2b.trans (hb3b.mono hS2b.size)
  refine hK.out _ _ hS3b (fun _ => ?_)
  clear hK K
  refine wpAnyH_take (i := 11) (oi := { dst := some 31, op := .unOp .not 4 (.tmp 30), type := _, pos := _, after := _, guard := some (7, false) }) (v := .bool false) rfl (by kernel_rfl) (by kernel_rfl) (by kernel_rfl) (fun _ _ _ h => h) (Or.inl ⟨by rfl, ?_⟩) hS3b ?_
  · intro wS hSw
    go_simp
  simp only [Act.put, List.setIfInBounds_toArray, List.set_cons_zero, List.set_cons_succ]
  refine wpAnyH_take (i := 12) (oi := { dst := some 32, op := .pick (.tmp 27) (.const (.bool true)) (.tmp 31), type := _, pos := _, after := _, guard := none }) (v := .bool false) rfl (by kernel_rfl) (by kernel_rfl) (by kernel_rfl) (fun _ _ _ h => h) (Or.inl ⟨by rfl, ?_⟩) hS3b ?_
  · intro wS hSw
    go_simp
  simp only [Act.put, List.setIfInBounds_toArray, List.set_cons_zero, List.set_cons_succ]
  refine wpAnyH_take (i := 13) (oi := { dst := some 33, op := .move (.tmp 32), type := _, pos := _, after := _, guard := none }) (v := .bool false) rfl (by kernel_rfl) (by kernel_rfl) (by kernel_rfl) (fun _ _ _ h => h) (Or.inl ⟨by rfl, ?_⟩) hS3b ?_
  · intro wS hSw
    go_simp
  simp only [Act.put, List.setIfInBounds_toArray, List.set_cons_zero, List.set_cons_succ]
  refine wpAnyH_take (i := 14) (oi := { dst := some 34, op := .load 25 (.tmp 7), type := _, pos := _, after := _, guard := some (13, false) }) (v := .agg #[e1, e2, e3]) rfl (by kernel_rfl) (by kernel_rfl) (by kernel_rfl) (fun _ _ _ h => h) (Or.inl ⟨by rfl, ?_⟩) hS3b ?_
  · intro wS hSw
    have z0 := (hSw.cell (lt_of_cell m7)).trans m7
    have z1 := (hSw.cell (lt_of_cell m8)).trans m8
    have z2 := (hSw.cell (lt_of_cell m9)).trans m9
    go_simp
  simp only [Act.put, List.setIfInBounds_toArray, List.set_cons_zero, List.set_cons_succ]
  refine wpAnyH_take (i := 15) (oi := { dst := some 35, op := .load 25 (.tmp 5), type := _, pos := _, after := _, guard := some (13, false) }) (v := .agg #[y1, y2, y3]) rfl (by kernel_rfl) (by kernel_rfl) (by kernel_rfl) (fun _ _ _ h => h) (Or.inl ⟨by rfl, ?_⟩) hS3b ?_
  · intro wS hSw
    have z0 := (hSw.cell (lt_of_cell m1)).trans m1
    have z1 := (hSw.cell (lt_of_cell m2)).trans m2
    have z2 := (hSw.cell (lt_of_cell m3)).trans m3
    go_simp
  simp only [Act.put, List.setIfInBounds_toArray, List.set_cons_zero, List.set_cons_succ]
  refine wpAnyH_ready (rs := [16]) (by kernel_rfl) (by simp) ?_
  refine AllReadyH.cons (o := { dst := some 36, op := .call { callee := .value (.func 9), args := #[.tmp 34, .tmp 35], argTypes := #[25, 25] }, type := _, pos := _, after := _, guard := some (13, false) }) rfl (fun K hK => ?_) AllReadyH.nil
  rw [if_pos (by rfl)]
  have sv4b := hS3b.size
  go_wp2_with (go_at_call 9; refine (K9e.out _ hS3b).mono ?_; rintro e x4b ⟨rfl, hb4b⟩)
  have sz4b := hb4b.size
  have hS4b := hS3b.trans (hb4b.mono hS3b.size)
  refine hK.out _ _ hS4b (fun _ => ?_)
  clear hK K
  refine wpAnyH_take (i := 17) (oi := { dst := some 37, op := .unOp .not 4 (.tmp 36), type := _, pos := _, after := _, guard := some (13, false) }) (v := .bool false) rfl (by kernel_rfl) (by kernel_rfl) (by kernel_rfl) (fun _ _ _ h => h) (Or.inl ⟨by rfl, ?_⟩) hS4b ?_
  · intro wS hSw
    go_simp
  simp only [Act.put, List.setIfInBounds_toArray, List.set_cons_zero, List.set_cons_succ]
  refine wpAnyH_take (i := 18) (oi := { dst := some 38, op := .pick (.tmp 33) (.const (.bool true)) (.tmp 37), type := _, pos := _, after := _, guard := none }) (v := .bool false) rfl (by kernel_rfl) (by kernel_rfl) (by kernel_rfl) (fun _ _ _ h => h) (Or.inl ⟨by rfl, ?_⟩) hS4b ?_
  · intro wS hSw
    go_simp
  simp only [Act.put, List.setIfInBounds_toArray, List.set_cons_zero, List.set_cons_succ]
  refine wpAnyH_done (by kernel_rfl) ?_ _
  obtain ⟨T, hT⟩ : ∃ T, T = x4b := ⟨_, rfl⟩
  subst hT
  have HT : Hid (Below V.heap.size V T) := hS4b
  have hAe' := hAe.below hS4b
  clear hAe hS0b hS1b hS2b hS3b hS4b hb1b hb2b hb3b hb4b sv1b sv2b sv3b sv4b sz1b sz2b sz3b sz4b m1 m2 m3 m4 m5 m6 m7 m8 m9 k1 k2 k3 k4 k5 k6 K9 K10 K10e K9e
  obtain ⟨m7, m8, m9⟩ := ct_cells hAe'
  have hET := CT.keepF HEV.out.1 HT.out.size (fun k _ hl => HT.out.block k hl)
  have C11 : Calls Try.prog 11 #[.agg #[e1, e2, e3]] T fun r w' => r = .returned (.tuple #[]) ∧ Ov U.heap.size T w' ∧ Out T.heap.size T w' := by
    have := overC_any U.heap.size T.heap.size T E T hET.1 hET.2 (Ov.refl _ _) (by have := HT.out.size; omega)
    rw [HEc.out.1] at this
    exact this
  clear hAe' hET
  go_wp2_with (go_at_call 11; refine C11.mono ?_; rintro r F ⟨rfl, hov, -⟩; refine Hid.out ?_)
  refine hidU ?_
  have hUF : Below U.heap.size U F := (hUV.trans (HT.out.mono hUV.size)).trans hov.bel
  clear C11 hov m7 m8 m9 HT
  have K10a : Hid (∀ u, Below F.heap.size F u → Calls Try.prog 10 #[.agg #[y1, y2, y3], .agg #[p1, p2, p3]] u fun r w' => r = .returned (.bool true) ∧ Below u.heap.size u w') := fun u hu => by
    have hu' := hUF.trans (hu.mono hUF.size)
    have g := HB.out u hu'
    have := kitC_any U.heap.size Y x u g.2.2.2.2.2.1 (g.2.2.2.2.2.2.2.1.up (by omega)) hu'.size
    rw [HC.out.1, HI.out.2.2.1, decide_eq_true HC.out.2.2.1] at this
    exact this
  have K10b : Hid (∀ u, Below F.heap.size F u → Calls Try.prog 10 #[.agg #[z1, z2, z3], .agg #[q1, q2, q3]] u fun r w' => r = .returned (.bool true) ∧ Below u.heap.size u w') := fun u hu => by
    have hu' := hUF.trans (hu.mono hUF.size)
    have g := HB.out u hu'
    have := kitC_any U.heap.size Z y u g.2.2.2.2.2.2.1 (g.2.2.2.2.2.2.2.2.up (by omega)) hu'.size
    rw [HC.out.2.1, HI.out.2.2.2, decide_eq_true HC.out.2.2.2] at this
    exact this
  have HF : Hid (∀ u, Below F.heap.size F u → At 25 u ga [y1, y2, y3] ∧ At 25 u gb [z1, z2, z3] ∧ At 25 u w.heap.size [p1, p2, p3] ∧ At 25 u w1.heap.size [q1, q2, q3] ∧ Below w.heap.size w u) := fun u hu => by
    have g := HB.out u (hUF.trans (hu.mono hUF.size))
    exact ⟨g.1, g.2.1, g.2.2.1, g.2.2.2.1, g.2.2.2.2.1⟩
  have gF := HF.out F (Below.refl _ _)
  obtain ⟨m1, m2, m3⟩ := ct_cells gF.1
  obtain ⟨k1, k2, k3⟩ := ct_cells gF.2.2.1
  have Ca := K10a.out F (Below.refl _ _)
  clear gF
  go_wp2_with (go_at_call 10; refine Ca.mono ?_; rintro r F1 ⟨rfl, hf1⟩; refine Hid.out ?_)
  refine hidU ?_
  clear Ca m1 m2 m3 k1 k2 k3
  have gF := HF.out F1 hf1
  obtain ⟨m4, m5, m6⟩ := ct_cells gF.2.1
  obtain ⟨k4, k5, k6⟩ := ct_cells gF.2.2.2.1
  have Cb := K10b.out F1 hf1
  clear gF
  go_wp2_with (go_at_call 10; refine Cb.mono ?_; rintro r F2 ⟨rfl, hf2⟩; refine Hid.out ?_)
  refine hidU ?_
  clear Cb m4 m5 m6 k4 k5 k6
  have hf12 := hf1.trans (hf2.mono hf1.size)
  have Cc := awake_any F2
  go_wp2_with (go_at_call 12; refine Cc.mono ?_; rintro r F3 ⟨rfl, hf3⟩; refine Hid.out ?_)
  refine hidU ?_
  have hF3 := (HF.out F3 (hf12.trans (hf3.mono hf12.size))).2.2.2.2
  clear Cc hf3 hf12 hf1 hf2
  go_wp2_with fail
  go_ret
  exact ⟨rfl, hF3⟩
theorem copies_any (x y : CT) (w : World) (hx : x.In w.heap.size w) (hy : y.In w.heap.size w) (hnx : x.Nl) (hny : y.Nl) :
    Calls Try.prog 3 #[.agg x.cells.toArray, .agg y.cells.toArray] w fun e w' => e = .returned (.bool true) ∧ Below w.heap.size w w' :=
  copies_at x y _ _ _ _ _ _ rfl rfl w hx hy hnx hny
end Go.Proofs.Ytefklmckkigllaa
