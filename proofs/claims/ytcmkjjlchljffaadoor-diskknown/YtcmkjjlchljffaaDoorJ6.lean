/- Joined texts of the proof. -/
import Derived.Test.YtcmkjjlchljffaaDoorJ5
import Derived.Test.YtcmkjjlchljffaaDoorJ3

/- The landed disk: Cut and Rename. -/
namespace Go.Proofs.YtcmkjjlchljffaaDoor
open Go.RowKit
set_option linter.unusedVariables false
set_option maxRecDepth 100000
set_option maxHeartbeats 6400000

theorem cut_p {B g mb : Nat} {w : World} {m : FMap} {sz wr : Nat} {lf : Int} {nm : ByteArray} (h : Ds B w g mb m sz lf wr) (hsf : ∀ p ∈ m, p.2.sf ≤ p.2.bs.length) (hsum : sumM m ≤ 67108864) (hwr : wr ≤ 4611686018427387904) (hlf : -1 ≤ lf) (hlg : lf ≤ 9223372036854775807) {z : Int} (hs : nm.size ≤ 9223372036854775807) :
    Calls Tryd.prog 14 #[.pointer (some ⟨g, 0, none⟩), .string nm, .int .i64 z] w (OpP B w g mb m sz lf wr (if (lookM m nm).isSome then (if z < 0 ∨ ((fileM m nm).bs.length : Int) < z then 2 else if (fileM m nm).sf < (fileM m nm).bs.length then 10 else pwE lf) else 6) (fun m' => ∃ v, m' = updM m nm ⟨v, (fileM m nm).bs.take z.toNat, min (fileM m nm).sf z.toNat, true⟩)) := by
  have H := hidU h
  obtain ⟨E, hE⟩ : ∃ E, Hid (E = if (lookM m nm).isSome then (if z < 0 ∨ ((fileM m nm).bs.length : Int) < z then 2 else if (fileM m nm).sf < (fileM m nm).bs.length then 10 else pwE lf) else 6) := ⟨_, (rfl : _ = if (lookM m nm).isSome then (if z < 0 ∨ ((fileM m nm).bs.length : Int) < z then 2 else if (fileM m nm).sf < (fileM m nm).bs.length then 10 else pwE lf) else 6)⟩
  rw [← hE.out]
  obtain ⟨PP, hPP⟩ : ∃ PP : Ending → World → Prop, Hid (PP = OpP B w g mb m sz lf wr E (fun m' => ∃ v, m' = updM m nm ⟨v, (fileM m nm).bs.take z.toNat, min (fileM m nm).sf z.toNat, true⟩)) := ⟨_, (rfl : _ = OpP B w g mb m sz lf wr E _)⟩
  rw [← hPP.out]
  have HLT := hidU (fun x (hx : Below w.heap.size w x) => (h.mp.below hx).lookT (nm := nm) (by unfold maxLen; omega))
  clear h
  go_enter Tryd.func14, Tryd.ntmps14
  go_wp2_with (first
    | (refine wpList_box1 rfl 22 (.tmp 0) rfl (.pointer (some ⟨g, 0, none⟩)) rfl (fun _ q => by cases q) ?_; intro w1 hA1 hb1 hs1; refine Hid.out ?_))
  refine hidU ?_
  obtain ⟨k1, hk1⟩ : ∃ k, k = w.heap.size := ⟨_, rfl⟩
  rw [← hk1] at hA1 ⊢
  have HB1 := hidU (hb1)
  have HA1 := hidU hA1
  clear hb1 hs1 hA1 hk1
  go_wp2_with (first
    | (refine wpList_box1 rfl 9 (.tmp 1) rfl (.string nm) rfl (fun _ q => by cases q) ?_; intro w2 hA2 hb2 hs2; refine Hid.out ?_))
  refine hidU ?_
  obtain ⟨k2, hk2⟩ : ∃ k, k = w1.heap.size := ⟨_, rfl⟩
  rw [← hk2] at hA2 ⊢
  have HB2 := hidU (HB1.out.trans (hb2.mono HB1.out.size))
  have HA2 := hidU hA2
  have HA1 := hidU (HA1.out.below hb2)
  clear hb2 hs2 hA2 hk2
  go_wp2_with (first
    | (refine wpList_box1 rfl 3 (.tmp 2) rfl (.int .i64 z) rfl (fun _ q => by cases q) ?_; intro w3 hA3 hb3 hs3; refine Hid.out ?_))
  refine hidU ?_
  obtain ⟨k3, hk3⟩ : ∃ k, k = w2.heap.size := ⟨_, rfl⟩
  rw [← hk3] at hA3 ⊢
  have HB3 := hidU (HB2.out.trans (hb3.mono HB2.out.size))
  have HA3 := hidU hA3
  have HA1 := hidU (HA1.out.below hb3)
  have HA2 := hidU (HA2.out.below hb3)
  clear hb3 hs3 hA3 hk3
  have HM := hidU (made_yes (H.out.below HB3.out).at_)
  have c1 : w3.cell? ⟨k1, 0, none⟩ = some (.pointer (some ⟨g, 0, none⟩)) := by rw [HA1.out.cell]; rfl
  have c2 : w3.cell? ⟨k2, 0, none⟩ = some (.string nm) := by rw [HA2.out.cell]; rfl
  have q3 := (H.out.below HB3.out).files
  clear HB1 HB2
  cases hl : lookM m nm with
  | none =>
    have HLk : Hid (∀ x, Below w3.heap.size w3 x → (Instr.lookup 33 (.map (some mb)) (.string nm) true).run Tryd.prog x = .ok (.tuple #[.agg #[.slice none 0 0, .int .i64 0, .bool false], .bool false]) x) := hidU (fun x hx => by
      have := HLT.out x (HB3.out.trans (hx.mono HB3.out.size))
      rw [file_none hl, hl] at this
      exact this)
    have e1 : E = 6 := by rw [hE.out, hl]; rfl
    subst e1
    clear hl hE
    go_wp2_with (go_at_call 33; refine HM.out.mono ?_; rintro _ x ⟨rfl, hw⟩; obtain rfl : w3 = x := hw.symm; clear hw)
    have hS0 : Below w3.heap.size w3 w3.drew := Below.drew (Below.refl _ _)
    refine wp_region_held_drew (S := fun xS => Below w3.heap.size w3 xS) (by kernel_rfl) hS0 ?_
    obtain ⟨x0, hx0⟩ : ∃ x, x = w3.drew := ⟨_, rfl⟩
    rw [← hx0] at hS0  ⊢
    clear hx0
    intro _
    refine wpAnyH_take (i := 0) (oi := { dst := some 13, op := .load 22 (.tmp 3), type := _, pos := _, after := _, guard := none }) (v := .pointer (some ⟨g, 0, none⟩)) rfl (by kernel_rfl) (by kernel_rfl) (by kernel_rfl) (fun _ _ _ h => h) (Or.inl ⟨by rfl, ?_⟩) hS0 ?_
    · intro wS hSw
      have z0 := (hSw.cell (lt_of_cell c1)).trans c1
      go_simp
    simp only [Act.put, List.setIfInBounds_toArray, List.set_cons_zero, List.set_cons_succ]
    refine wpAnyH_take (i := 1) (oi := { dst := some 14, op := .nilCheck (.tmp 13), type := _, pos := _, after := _, guard := none }) (v := .pointer (some ⟨g, 0, none⟩)) rfl (by kernel_rfl) (by kernel_rfl) (by kernel_rfl) (fun _ _ _ h => h) (Or.inl ⟨by rfl, ?_⟩) hS0 ?_
    · intro wS hSw
      go_simp
    simp only [Act.put, List.setIfInBounds_toArray, List.set_cons_zero, List.set_cons_succ]
    refine wpAnyH_take (i := 2) (oi := { dst := some 15, op := .fieldAddr 35 (.tmp 14) 2, type := _, pos := _, after := _, guard := none }) (v := .pointer (some ⟨g, 2, none⟩)) rfl (by kernel_rfl) (by kernel_rfl) (by kernel_rfl) (fun _ _ _ h => h) (Or.inl ⟨by rfl, ?_⟩) hS0 ?_
    · intro wS hSw
      go_simp
    simp only [Act.put, List.setIfInBounds_toArray, List.set_cons_zero, List.set_cons_succ]
    refine wpAnyH_take (i := 3) (oi := { dst := some 16, op := .load 33 (.tmp 15), type := _, pos := _, after := _, guard := none }) (v := .map (some mb)) rfl (by kernel_rfl) (by kernel_rfl) (by kernel_rfl) (fun _ _ _ h => h) (Or.inl ⟨by rfl, ?_⟩) hS0 ?_
    · intro wS hSw
      have z0 := (hSw.cell (lt_of_cell q3)).trans q3
      go_simp
    simp only [Act.put, List.setIfInBounds_toArray, List.set_cons_zero, List.set_cons_succ]
    refine wpAnyH_take (i := 4) (oi := { dst := some 17, op := .load 9 (.tmp 4), type := _, pos := _, after := _, guard := none }) (v := .string nm) rfl (by kernel_rfl) (by kernel_rfl) (by kernel_rfl) (fun _ _ _ h => h) (Or.inl ⟨by rfl, ?_⟩) hS0 ?_
    · intro wS hSw
      have z0 := (hSw.cell (lt_of_cell c2)).trans c2
      go_simp
    simp only [Act.put, List.setIfInBounds_toArray, List.set_cons_zero, List.set_cons_succ]
    refine wpAnyH_take (i := 5) (oi := { dst := some 18, op := .lookup 33 (.tmp 16) (.tmp 17) true, type := _, pos := _, after := _, guard := none }) (v := .tuple #[.agg #[.slice none 0 0, .int .i64 0, .bool false], .bool false]) rfl (by kernel_rfl) (by kernel_rfl) (by kernel_rfl) (fun _ _ _ h => h) (Or.inl ⟨by rfl, ?_⟩) hS0 ?_
    · intro wS hSw
      have hz := HLk.out _ hSw
      go_simp
      try rw [hz]
      try rfl
    simp only [Act.put, List.setIfInBounds_toArray, List.set_cons_zero, List.set_cons_succ]
    refine wpAnyH_take (i := 6) (oi := { dst := some 12, op := .move (.tmp 18), type := _, pos := _, after := _, guard := none }) (v := .tuple #[.agg #[.slice none 0 0, .int .i64 0, .bool false], .bool false]) rfl (by kernel_rfl) (by kernel_rfl) (by kernel_rfl) (fun _ _ _ h => h) (Or.inl ⟨by rfl, ?_⟩) hS0 ?_
    · intro wS hSw
      go_simp
    simp only [Act.put, List.setIfInBounds_toArray, List.set_cons_zero, List.set_cons_succ]
    refine wpAnyH_take (i := 7) (oi := { dst := some 19, op := .extract (.tmp 12) 0, type := _, pos := _, after := _, guard := none }) (v := .agg #[.slice none 0 0, .int .i64 0, .bool false]) rfl (by kernel_rfl) (by kernel_rfl) (by kernel_rfl) (fun _ _ _ h => h) (Or.inl ⟨by rfl, ?_⟩) hS0 ?_
    · intro wS hSw
      go_simp
    simp only [Act.put, List.setIfInBounds_toArray, List.set_cons_zero, List.set_cons_succ]
    refine wpAnyH_take (i := 8) (oi := { dst := some 20, op := .extract (.tmp 12) 1, type := _, pos := _, after := _, guard := none }) (v := .bool false) rfl (by kernel_rfl) (by kernel_rfl) (by kernel_rfl) (fun _ _ _ h => h) (Or.inl ⟨by rfl, ?_⟩) hS0 ?_
    · intro wS hSw
      go_simp
    simp only [Act.put, List.setIfInBounds_toArray, List.set_cons_zero, List.set_cons_succ]
    refine wpAnyH_ready (rs := [9]) (by kernel_rfl) (by simp) ?_
    refine AllReadyH.cons (o := { dst := some 7, op := .alloc 66, type := _, pos := _, after := _, guard := none }) rfl (fun K hK => ?_) AllReadyH.nil
    rw [if_pos (by rfl)]
    have sv1 := hS0.size
    refine wp_alloc_at 66 rfl [Value.slice none 0 0, .int .i64 0, .bool false] _ z66 ?_
    intro x1 hA1 hb1 hs1
    have lt1 : x0.heap.size < x1.heap.size := hA1.lt
    clear hs1
    have sz1 := hb1.size
    have hS1 := hS0.trans (hb1.mono hS0.size)
    refine hK.out _ _ hS1 (fun _ => ?_)
    clear hK K
    refine wpAnyH_ready (rs := [10]) (by kernel_rfl) (by simp) ?_
    refine AllReadyH.cons (o := { dst := none, op := .store 66 (.tmp 7) (.tmp 19), type := _, pos := _, after := _, guard := none }) rfl (fun K hK => ?_) AllReadyH.nil
    rw [if_pos (by rfl)]
    have sv2 := hS1.size
    refine wp_store3 (.tmp 7) (.tmp 19) rfl (x0.heap.size) [.slice none 0 0, .int .i64 0, .bool false] rfl rfl _ hA1 rfl rfl one3 ?_
    intro x2 hA2 hb2 hs2
    clear hA1
    have sz2 := hb2.size
    have hS2 := hb2.below hS1 sv1 hS1.size
    refine hK.out _ _ hS2 (fun _ => ?_)
    clear hK K
    refine wpAnyH_take (i := 11) (oi := { dst := some 8, op := .assign (.tmp 20), type := _, pos := _, after := _, guard := none }) (v := .bool false) rfl (by kernel_rfl) (by kernel_rfl) (by kernel_rfl) (fun _ _ _ h => h) (Or.inl ⟨by rfl, ?_⟩) hS2 ?_
    · intro wS hSw
      go_simp
    simp only [Act.put, List.setIfInBounds_toArray, List.set_cons_zero, List.set_cons_succ]
    refine wpAnyH_done (by kernel_rfl) ?_ _
    have hAG := hA2
    have HBx := hidU (hS2)
    have hGl : w3.heap.size ≤ x0.heap.size := sv1
    obtain ⟨G, hG⟩ : ∃ G, G = x0.heap.size := ⟨_, rfl⟩
    rw [← hG] at hAG hGl ⊢
    clear hG
    clear hS0 hb1 sv1 sz1 hS1 lt1 hb2 sv2 sz2 hS2 hs2 hA2
    have HB4 := hidU (HB3.out.trans (HBx.out.mono HB3.out.size))
    clear c1 c2 q3 HM HLk
    go_wp2
    rw [hPP.out]
    exact ⟨rfl, fun _ => HB4.out, fun e => by cases e⟩

  | some f =>
    obtain ⟨a, n, c, bs, sf, hd, rfl, hn, hnc, hcm, hn0, hR, hO⟩ := look_parts H.out hl
    have h40 : nm.size ≤ 40 := H.out.ns _ (look_mem hl)
    have hns := sum_mem (look_mem hl)
    have hsn := hsf _ (look_mem hl)
    simp only [hn] at hns hsn
    have HLk : Hid (∀ x, Below w3.heap.size w3 x → (Instr.lookup 33 (.map (some mb)) (.string nm) true).run Tryd.prog x = .ok (.tuple #[.agg #[.slice a n c, .int .i64 (sf : Int), .bool hd], .bool true]) x) := hidU (fun x hx => by
      have := HLT.out x (HB3.out.trans (hx.mono HB3.out.size))
      rw [file_some hl, hl] at this
      exact this)
    have HLO := hidU (fun x => loose_any ⟨.slice a n c, bs, sf, hd⟩ n c a x rfl (show sf ≤ _ by omega) (by omega))
    go_wp2_with (go_at_call 33; refine HM.out.mono ?_; rintro _ x ⟨rfl, hw⟩; obtain rfl : w3 = x := hw.symm; clear hw)
    have hS0 : Below w3.heap.size w3 w3.drew := Below.drew (Below.refl _ _)
    refine wp_region_held_drew (S := fun xS => Below w3.heap.size w3 xS) (by kernel_rfl) hS0 ?_
    obtain ⟨x0, hx0⟩ : ∃ x, x = w3.drew := ⟨_, rfl⟩
    rw [← hx0] at hS0  ⊢
    clear hx0
    intro _
    refine wpAnyH_take (i := 0) (oi := { dst := some 13, op := .load 22 (.tmp 3), type := _, pos := _, after := _, guard := none }) (v := .pointer (some ⟨g, 0, none⟩)) rfl (by kernel_rfl) (by kernel_rfl) (by kernel_rfl) (fun _ _ _ h => h) (Or.inl ⟨by rfl, ?_⟩) hS0 ?_
    · intro wS hSw
      have z0 := (hSw.cell (lt_of_cell c1)).trans c1
      go_simp
    simp only [Act.put, List.setIfInBounds_toArray, List.set_cons_zero, List.set_cons_succ]
    refine wpAnyH_take (i := 1) (oi := { dst := some 14, op := .nilCheck (.tmp 13), type := _, pos := _, after := _, guard := none }) (v := .pointer (some ⟨g, 0, none⟩)) rfl (by kernel_rfl) (by kernel_rfl) (by kernel_rfl) (fun _ _ _ h => h) (Or.inl ⟨by rfl, ?_⟩) hS0 ?_
    · intro wS hSw
      go_simp
    simp only [Act.put, List.setIfInBounds_toArray, List.set_cons_zero, List.set_cons_succ]
    refine wpAnyH_take (i := 2) (oi := { dst := some 15, op := .fieldAddr 35 (.tmp 14) 2, type := _, pos := _, after := _, guard := none }) (v := .pointer (some ⟨g, 2, none⟩)) rfl (by kernel_rfl) (by kernel_rfl) (by kernel_rfl) (fun _ _ _ h => h) (Or.inl ⟨by rfl, ?_⟩) hS0 ?_
    · intro wS hSw
      go_simp
    simp only [Act.put, List.setIfInBounds_toArray, List.set_cons_zero, List.set_cons_succ]
    refine wpAnyH_take (i := 3) (oi := { dst := some 16, op := .load 33 (.tmp 15), type := _, pos := _, after := _, guard := none }) (v := .map (some mb)) rfl (by kernel_rfl) (by kernel_rfl) (by kernel_rfl) (fun _ _ _ h => h) (Or.inl ⟨by rfl, ?_⟩) hS0 ?_
    · intro wS hSw
      have z0 := (hSw.cell (lt_of_cell q3)).trans q3
      go_simp
    simp only [Act.put, List.setIfInBounds_toArray, List.set_cons_zero, List.set_cons_succ]
    refine wpAnyH_take (i := 4) (oi := { dst := some 17, op := .load 9 (.tmp 4), type := _, pos := _, after := _, guard := none }) (v := .string nm) rfl (by kernel_rfl) (by kernel_rfl) (by kernel_rfl) (fun _ _ _ h => h) (Or.inl ⟨by rfl, ?_⟩) hS0 ?_
    · intro wS hSw
      have z0 := (hSw.cell (lt_of_cell c2)).trans c2
      go_simp
    simp only [Act.put, List.setIfInBounds_toArray, List.set_cons_zero, List.set_cons_succ]
    refine wpAnyH_take (i := 5) (oi := { dst := some 18, op := .lookup 33 (.tmp 16) (.tmp 17) true, type := _, pos := _, after := _, guard := none }) (v := .tuple #[.agg #[.slice a n c, .int .i64 (sf : Int), .bool hd], .bool true]) rfl (by kernel_rfl) (by kernel_rfl) (by kernel_rfl) (fun _ _ _ h => h) (Or.inl ⟨by rfl, ?_⟩) hS0 ?_
    · intro wS hSw
      have hz := HLk.out _ hSw
      go_simp
      try rw [hz]
      try rfl
    simp only [Act.put, List.setIfInBounds_toArray, List.set_cons_zero, List.set_cons_succ]
    refine wpAnyH_take (i := 6) (oi := { dst := some 12, op := .move (.tmp 18), type := _, pos := _, after := _, guard := none }) (v := .tuple #[.agg #[.slice a n c, .int .i64 (sf : Int), .bool hd], .bool true]) rfl (by kernel_rfl) (by kernel_rfl) (by kernel_rfl) (fun _ _ _ h => h) (Or.inl ⟨by rfl, ?_⟩) hS0 ?_
    · intro wS hSw
      go_simp
    simp only [Act.put, List.setIfInBounds_toArray, List.set_cons_zero, List.set_cons_succ]
    refine wpAnyH_take (i := 7) (oi := { dst := some 19, op := .extract (.tmp 12) 0, type := _, pos := _, after := _, guard := none }) (v := .agg #[.slice a n c, .int .i64 (sf : Int), .bool hd]) rfl (by kernel_rfl) (by kernel_rfl) (by kernel_rfl) (fun _ _ _ h => h) (Or.inl ⟨by rfl, ?_⟩) hS0 ?_
    · intro wS hSw
      go_simp
    simp only [Act.put, List.setIfInBounds_toArray, List.set_cons_zero, List.set_cons_succ]
    refine wpAnyH_take (i := 8) (oi := { dst := some 20, op := .extract (.tmp 12) 1, type := _, pos := _, after := _, guard := none }) (v := .bool true) rfl (by kernel_rfl) (by kernel_rfl) (by kernel_rfl) (fun _ _ _ h => h) (Or.inl ⟨by rfl, ?_⟩) hS0 ?_
    · intro wS hSw
      go_simp
    simp only [Act.put, List.setIfInBounds_toArray, List.set_cons_zero, List.set_cons_succ]
    refine wpAnyH_ready (rs := [9]) (by kernel_rfl) (by simp) ?_
    refine AllReadyH.cons (o := { dst := some 7, op := .alloc 66, type := _, pos := _, after := _, guard := none }) rfl (fun K hK => ?_) AllReadyH.nil
    rw [if_pos (by rfl)]
    have sv1 := hS0.size
    refine wp_alloc_at 66 rfl [Value.slice none 0 0, .int .i64 0, .bool false] _ z66 ?_
    intro x1 hA1 hb1 hs1
    have lt1 : x0.heap.size < x1.heap.size := hA1.lt
    clear hs1
    have sz1 := hb1.size
    have hS1 := hS0.trans (hb1.mono hS0.size)
    refine hK.out _ _ hS1 (fun _ => ?_)
    clear hK K
    refine wpAnyH_ready (rs := [10]) (by kernel_rfl) (by simp) ?_
    refine AllReadyH.cons (o := { dst := none, op := .store 66 (.tmp 7) (.tmp 19), type := _, pos := _, after := _, guard := none }) rfl (fun K hK => ?_) AllReadyH.nil
    rw [if_pos (by rfl)]
    have sv2 := hS1.size
    refine wp_store3 (.tmp 7) (.tmp 19) rfl (x0.heap.size) [.slice a n c, .int .i64 (sf : Int), .bool hd] rfl rfl _ hA1 rfl rfl one3 ?_
    intro x2 hA2 hb2 hs2
    clear hA1
    have sz2 := hb2.size
    have hS2 := hb2.below hS1 sv1 hS1.size
    refine hK.out _ _ hS2 (fun _ => ?_)
    clear hK K
    refine wpAnyH_take (i := 11) (oi := { dst := some 8, op := .assign (.tmp 20), type := _, pos := _, after := _, guard := none }) (v := .bool true) rfl (by kernel_rfl) (by kernel_rfl) (by kernel_rfl) (fun _ _ _ h => h) (Or.inl ⟨by rfl, ?_⟩) hS2 ?_
    · intro wS hSw
      go_simp
    simp only [Act.put, List.setIfInBounds_toArray, List.set_cons_zero, List.set_cons_succ]
    refine wpAnyH_done (by kernel_rfl) ?_ _
    have hAG := hA2
    have HBx := hidU (hS2)
    have hGl : w3.heap.size ≤ x0.heap.size := sv1
    obtain ⟨G, hG⟩ : ∃ G, G = x0.heap.size := ⟨_, rfl⟩
    rw [← hG] at hAG hGl ⊢
    clear hG
    clear hS0 hb1 sv1 sz1 hS1 lt1 hb2 sv2 sz2 hS2 hs2 hA2
    have HB4 := hidU (HB3.out.trans (HBx.out.mono HB3.out.size))
    have HA1 := hidU (HA1.out.below HBx.out)
    have HA2 := hidU (HA2.out.below HBx.out)
    have HA3 := hidU (HA3.out.below HBx.out)
    have hGw : w.heap.size ≤ G := Nat.le_trans HB3.out.size hGl
    have e0 : fileM m nm = ⟨.slice a n c, bs, sf, hd⟩ := file_some hl
    clear c1 c2 q3 HM HLk HBx hGl
    have c3 : x2.cell? ⟨k3, 0, none⟩ = some (.int .i64 z) := by rw [HA3.out.cell]; rfl
    have g0 : x2.cell? ⟨G, 0, none⟩ = some (.slice a n c) := by rw [hAG.cell]; rfl
    have hw1 : IntKind.i64.wrap ((n : Int) - (sf : Int)) = (n : Int) - (sf : Int) := by rw [IntKind.wrap_i64]; omega
    by_cases hz0 : z < 0
    · have e1 : E = 2 := by rw [hE.out, hl, if_pos Option.isSome_some, if_pos (.inl hz0)]
      subst e1
      clear hl hE e0
      go_wp2
      rw [hPP.out]
      exact ⟨rfl, fun _ => HB4.out, fun e => by cases e⟩
    · by_cases hzn : (n : Int) < z
      · have e1 : E = 2 := by rw [hE.out, hl, if_pos Option.isSome_some, if_pos (.inr (by rw [e0]; simp only [hn]; exact hzn))]
        subst e1
        clear hl hE e0
        go_wp2
        rw [hPP.out]
        exact ⟨rfl, fun _ => HB4.out, fun e => by cases e⟩
      · by_cases hlo : sf < n
        · have e1 : E = 10 := by rw [hE.out, hl, if_pos Option.isSome_some, if_neg (by rw [e0]; simp only [hn]; omega), if_pos (by rw [e0]; simp only [hn]; exact hlo)]
          subst e1
          have hp1 : (0 : Int) < (n : Int) - (sf : Int) := by omega
          clear hl hE e0
          go_wp2_with (first
            | (refine wpList_load_at rfl 66 (.tmp 7) rfl G rfl 66 _ hAG _ Tryd.underlying66 rfl i66 ?_)
            | (go_at_call 51; refine (HLO.out _).mono ?_; rintro _ x5 ⟨rfl, hb5⟩; have HB5 := hidU (HB4.out.trans (hb5.mono HB4.out.size)); clear hb5))
          rw [hPP.out]
          exact ⟨rfl, fun _ => HB5.out, fun e => by cases e⟩
        · have e1 : E = pwE lf := by rw [hE.out, hl, if_pos Option.isSome_some, if_neg (by rw [e0]; simp only [hn]; omega), if_neg (by rw [e0]; simp only [hn]; omega)]
          have hp1 : ¬ (0 : Int) < (n : Int) - (sf : Int) := by omega
          obtain ⟨zn, hzn2⟩ : ∃ zn : Nat, Hid (z = (zn : Int)) := ⟨z.toNat, (show z = (z.toNat : Int) by omega)⟩
          have hzle : zn ≤ n := by have := hzn2.out; omega
          have HZ := hidU (show z.toNat = zn by have := hzn2.out; omega)
          go_wp2_with (first
            | (refine wpList_load_at rfl 66 (.tmp 7) rfl G rfl 66 _ hAG _ Tryd.underlying66 rfl i66 ?_)
            | (go_at_call 51; refine (HLO.out _).mono ?_; rintro _ w5 ⟨rfl, hb5⟩; refine Hid.out ?_))
          refine hidU ?_
          have HB5 := hidU (HB4.out.trans (hb5.mono HB4.out.size))
          have d1 : w5.cell? ⟨k1, 0, none⟩ = some (.pointer (some ⟨g, 0, none⟩)) := by rw [(HA1.out.below hb5).cell]; rfl
          have HZ3 := hidU ((HA3.out.below hb5))
          rw [hzn2.out] at HZ3
          have HW := hidU (writ_52 B g mb w w5 m sz wr lf G k3 k1 k2 (fun m' => ∃ v, m' = updM m nm ⟨v, (fileM m nm).bs.take z.toNat, min (fileM m nm).sf z.toNat, true⟩) H.out HB5.out hwr hlf hlg ((cut_c B g mb w w5 m sz wr lf nm G k3 k1 k2 zn a n c bs sf hd H.out HB5.out hsf hl (hAG.below hb5) HZ3.out (HA1.out.below hb5) (HA2.out.below hb5) hGw hzle hsum).mono (by
            rintro r w' ⟨rfl, v, hW⟩
            refine ⟨rfl, _, ⟨v, rfl⟩, ?_⟩
            rw [e0, HZ.out]
            exact hW)))
          rw [← e1] at HW
          rw [← hPP.out] at HW
          have hPX : ∀ r w', PP r w' → r = .returned (.int .i64 E) := fun r w' q => by rw [hPP.out] at q; exact q.1
          clear c3 g0 hb5 e1 hl e0 hE hp1 hw1 hAG
          go_wp2_with (go_at_call 36; refine HW.out.mono ?_; rintro e w6 q; obtain rfl := hPX _ _ q)
          exact q


theorem rename_s (w : World) (nm : ByteArray) (kn kt kf kd : Nat) (hn_ : At 9 w kn [.string nm]) (ht_ : At 9 w kt [.string nm]) :
    Calls Tryd.prog 56 #[.pointer (some ⟨kn, 0, none⟩), .pointer (some ⟨kt, 0, none⟩), .pointer (some ⟨kf, 0, none⟩), .pointer (some ⟨kd, 0, none⟩)] w fun r w' => r = .returned (.tuple #[]) ∧ w' = w := by
  have c1 : w.cell? ⟨kn, 0, none⟩ = some (.string nm) := by rw [hn_.cell]; rfl
  have c2 : w.cell? ⟨kt, 0, none⟩ = some (.string nm) := by rw [ht_.cell]; rfl
  clear hn_ ht_
  go_enter Tryd.func56, Tryd.ntmps56
  go_wp2
  refine bodyPost_ret (results_none rfl _ _ _) rfl ?_
  exact ⟨rfl, rfl⟩
theorem rename_p {B g mb : Nat} {w : World} {m : FMap} {sz wr : Nat} {lf : Int} {nm : ByteArray} (h : Ds B w g mb m sz lf wr) (hsf : ∀ p ∈ m, p.2.sf ≤ p.2.bs.length) (hsum : sumM m ≤ 67108864) (hwr : wr ≤ 4611686018427387904) (hlf : -1 ≤ lf) (hlg : lf ≤ 9223372036854775807) {to : ByteArray} (hs : nm.size ≤ 9223372036854775807) (hs2 : to.size ≤ 9223372036854775807) :
    Calls Tryd.prog 16 #[.pointer (some ⟨g, 0, none⟩), .string nm, .string to] w (OpP B w g mb m sz lf wr (if nmOk to = false then 2 else if (lookM m nm).isSome then (if (fileM m nm).sf < (fileM m nm).bs.length then 10 else pwE lf) else 6) (fun m' => if nm = to then m' = m else m' = delM (updM m to { fileM m nm with hd := true }) nm)) := by
  have H := hidU h
  obtain ⟨E, hE⟩ : ∃ E, Hid (E = if nmOk to = false then 2 else if (lookM m nm).isSome then (if (fileM m nm).sf < (fileM m nm).bs.length then 10 else pwE lf) else 6) := ⟨_, (rfl : _ = if nmOk to = false then 2 else if (lookM m nm).isSome then (if (fileM m nm).sf < (fileM m nm).bs.length then 10 else pwE lf) else 6)⟩
  rw [← hE.out]
  obtain ⟨PP, hPP⟩ : ∃ PP : Ending → World → Prop, Hid (PP = OpP B w g mb m sz lf wr E (fun m' => if nm = to then m' = m else m' = delM (updM m to { fileM m nm with hd := true }) nm)) := ⟨_, (rfl : _ = OpP B w g mb m sz lf wr E _)⟩
  rw [← hPP.out]
  have HLT := hidU (fun x (hx : Below w.heap.size w x) => (h.mp.below hx).lookT (nm := nm) (by unfold maxLen; omega))
  clear h
  go_enter Tryd.func16, Tryd.ntmps16
  go_wp2_with (first
    | (refine wpList_box1 rfl 22 (.tmp 0) rfl (.pointer (some ⟨g, 0, none⟩)) rfl (fun _ q => by cases q) ?_; intro w1 hA1 hb1 hs1; refine Hid.out ?_))
  refine hidU ?_
  obtain ⟨k1, hk1⟩ : ∃ k, k = w.heap.size := ⟨_, rfl⟩
  rw [← hk1] at hA1 ⊢
  have HB1 := hidU (hb1)
  have HA1 := hidU hA1
  clear hb1 hs1 hA1 hk1
  go_wp2_with (first
    | (refine wpList_box1 rfl 9 (.tmp 1) rfl (.string nm) rfl (fun _ q => by cases q) ?_; intro w2 hA2 hb2 hs2; refine Hid.out ?_))
  refine hidU ?_
  obtain ⟨k2, hk2⟩ : ∃ k, k = w1.heap.size := ⟨_, rfl⟩
  rw [← hk2] at hA2 ⊢
  have HB2 := hidU (HB1.out.trans (hb2.mono HB1.out.size))
  have HA2 := hidU hA2
  have HA1 := hidU (HA1.out.below hb2)
  clear hb2 hs2 hA2 hk2
  go_wp2_with (first
    | (refine wpList_box1 rfl 9 (.tmp 2) rfl (.string to) rfl (fun _ q => by cases q) ?_; intro w3 hA3 hb3 hs3; refine Hid.out ?_))
  refine hidU ?_
  obtain ⟨k3, hk3⟩ : ∃ k, k = w2.heap.size := ⟨_, rfl⟩
  rw [← hk3] at hA3 ⊢
  have HB3 := hidU (HB2.out.trans (hb3.mono HB2.out.size))
  have HA3 := hidU hA3
  have HA1 := hidU (HA1.out.below hb3)
  have HA2 := hidU (HA2.out.below hb3)
  clear hb3 hs3 hA3 hk3
  have HM := hidU (made_yes (H.out.below HB3.out).at_)
  have c1 : w3.cell? ⟨k1, 0, none⟩ = some (.pointer (some ⟨g, 0, none⟩)) := by rw [HA1.out.cell]; rfl
  have c2 : w3.cell? ⟨k2, 0, none⟩ = some (.string nm) := by rw [HA2.out.cell]; rfl
  have q3 := (H.out.below HB3.out).files
  clear HB1 HB2
  cases hl : lookM m nm with
  | none =>
    have HLk : Hid (∀ x, Below w3.heap.size w3 x → (Instr.lookup 33 (.map (some mb)) (.string nm) true).run Tryd.prog x = .ok (.tuple #[.agg #[.slice none 0 0, .int .i64 0, .bool false], .bool false]) x) := hidU (fun x hx => by
      have := HLT.out x (HB3.out.trans (hx.mono HB3.out.size))
      rw [file_none hl, hl] at this
      exact this)
    go_wp2_with (go_at_call 33; refine HM.out.mono ?_; rintro _ x ⟨rfl, hw⟩; obtain rfl : w3 = x := hw.symm; clear hw)
    have hS0 : Below w3.heap.size w3 w3.drew := Below.drew (Below.refl _ _)
    refine wp_region_held_drew (S := fun xS => Below w3.heap.size w3 xS) (by kernel_rfl) hS0 ?_
    obtain ⟨x0, hx0⟩ : ∃ x, x = w3.drew := ⟨_, rfl⟩
    rw [← hx0] at hS0  ⊢
    clear hx0
    intro _
    refine wpAnyH_take (i := 0) (oi := { dst := some 13, op := .load 22 (.tmp 3), type := _, pos := _, after := _, guard := none }) (v := .pointer (some ⟨g, 0, none⟩)) rfl (by kernel_rfl) (by kernel_rfl) (by kernel_rfl) (fun _ _ _ h => h) (Or.inl ⟨by rfl, ?_⟩) hS0 ?_
    · intro wS hSw
      have z0 := (hSw.cell (lt_of_cell c1)).trans c1
      go_simp
    simp only [Act.put, List.setIfInBounds_toArray, List.set_cons_zero, List.set_cons_succ]
    refine wpAnyH_take (i := 1) (oi := { dst := some 14, op := .nilCheck (.tmp 13), type := _, pos := _, after := _, guard := none }) (v := .pointer (some ⟨g, 0, none⟩)) rfl (by kernel_rfl) (by kernel_rfl) (by kernel_rfl) (fun _ _ _ h => h) (Or.inl ⟨by rfl, ?_⟩) hS0 ?_
    · intro wS hSw
      go_simp
    simp only [Act.put, List.setIfInBounds_toArray, List.set_cons_zero, List.set_cons_succ]
    refine wpAnyH_take (i := 2) (oi := { dst := some 15, op := .fieldAddr 35 (.tmp 14) 2, type := _, pos := _, after := _, guard := none }) (v := .pointer (some ⟨g, 2, none⟩)) rfl (by kernel_rfl) (by kernel_rfl) (by kernel_rfl) (fun _ _ _ h => h) (Or.inl ⟨by rfl, ?_⟩) hS0 ?_
    · intro wS hSw
      go_simp
    simp only [Act.put, List.setIfInBounds_toArray, List.set_cons_zero, List.set_cons_succ]
    refine wpAnyH_take (i := 3) (oi := { dst := some 16, op := .load 33 (.tmp 15), type := _, pos := _, after := _, guard := none }) (v := .map (some mb)) rfl (by kernel_rfl) (by kernel_rfl) (by kernel_rfl) (fun _ _ _ h => h) (Or.inl ⟨by rfl, ?_⟩) hS0 ?_
    · intro wS hSw
      have z0 := (hSw.cell (lt_of_cell q3)).trans q3
      go_simp
    simp only [Act.put, List.setIfInBounds_toArray, List.set_cons_zero, List.set_cons_succ]
    refine wpAnyH_take (i := 4) (oi := { dst := some 17, op := .load 9 (.tmp 4), type := _, pos := _, after := _, guard := none }) (v := .string nm) rfl (by kernel_rfl) (by kernel_rfl) (by kernel_rfl) (fun _ _ _ h => h) (Or.inl ⟨by rfl, ?_⟩) hS0 ?_
    · intro wS hSw
      have z0 := (hSw.cell (lt_of_cell c2)).trans c2
      go_simp
    simp only [Act.put, List.setIfInBounds_toArray, List.set_cons_zero, List.set_cons_succ]
    refine wpAnyH_take (i := 5) (oi := { dst := some 18, op := .lookup 33 (.tmp 16) (.tmp 17) true, type := _, pos := _, after := _, guard := none }) (v := .tuple #[.agg #[.slice none 0 0, .int .i64 0, .bool false], .bool false]) rfl (by kernel_rfl) (by kernel_rfl) (by kernel_rfl) (fun _ _ _ h => h) (Or.inl ⟨by rfl, ?_⟩) hS0 ?_
    · intro wS hSw
      have hz := HLk.out _ hSw
      go_simp
      try rw [hz]
      try rfl
    simp only [Act.put, List.setIfInBounds_toArray, List.set_cons_zero, List.set_cons_succ]
    refine wpAnyH_take (i := 6) (oi := { dst := some 12, op := .move (.tmp 18), type := _, pos := _, after := _, guard := none }) (v := .tuple #[.agg #[.slice none 0 0, .int .i64 0, .bool false], .bool false]) rfl (by kernel_rfl) (by kernel_rfl) (by kernel_rfl) (fun _ _ _ h => h) (Or.inl ⟨by rfl, ?_⟩) hS0 ?_
    · intro wS hSw
      go_simp
    simp only [Act.put, List.setIfInBounds_toArray, List.set_cons_zero, List.set_cons_succ]
    refine wpAnyH_take (i := 7) (oi := { dst := some 19, op := .extract (.tmp 12) 0, type := _, pos := _, after := _, guard := none }) (v := .agg #[.slice none 0 0, .int .i64 0, .bool false]) rfl (by kernel_rfl) (by kernel_rfl) (by kernel_rfl) (fun _ _ _ h => h) (Or.inl ⟨by rfl, ?_⟩) hS0 ?_
    · intro wS hSw
      go_simp
    simp only [Act.put, List.setIfInBounds_toArray, List.set_cons_zero, List.set_cons_succ]
    refine wpAnyH_take (i := 8) (oi := { dst := some 20, op := .extract (.tmp 12) 1, type := _, pos := _, after := _, guard := none }) (v := .bool false) rfl (by kernel_rfl) (by kernel_rfl) (by kernel_rfl) (fun _ _ _ h => h) (Or.inl ⟨by rfl, ?_⟩) hS0 ?_
    · intro wS hSw
      go_simp
    simp only [Act.put, List.setIfInBounds_toArray, List.set_cons_zero, List.set_cons_succ]
    refine wpAnyH_ready (rs := [9]) (by kernel_rfl) (by simp) ?_
    refine AllReadyH.cons (o := { dst := some 7, op := .alloc 66, type := _, pos := _, after := _, guard := none }) rfl (fun K hK => ?_) AllReadyH.nil
    rw [if_pos (by rfl)]
    have sv1 := hS0.size
    refine wp_alloc_at 66 rfl [Value.slice none 0 0, .int .i64 0, .bool false] _ z66 ?_
    intro x1 hA1 hb1 hs1
    have lt1 : x0.heap.size < x1.heap.size := hA1.lt
    clear hs1
    have sz1 := hb1.size
    have hS1 := hS0.trans (hb1.mono hS0.size)
    refine hK.out _ _ hS1 (fun _ => ?_)
    clear hK K
    refine wpAnyH_ready (rs := [10]) (by kernel_rfl) (by simp) ?_
    refine AllReadyH.cons (o := { dst := none, op := .store 66 (.tmp 7) (.tmp 19), type := _, pos := _, after := _, guard := none }) rfl (fun K hK => ?_) AllReadyH.nil
    rw [if_pos (by rfl)]
    have sv2 := hS1.size
    refine wp_store3 (.tmp 7) (.tmp 19) rfl (x0.heap.size) [.slice none 0 0, .int .i64 0, .bool false] rfl rfl _ hA1 rfl rfl one3 ?_
    intro x2 hA2 hb2 hs2
    clear hA1
    have sz2 := hb2.size
    have hS2 := hb2.below hS1 sv1 hS1.size
    refine hK.out _ _ hS2 (fun _ => ?_)
    clear hK K
    refine wpAnyH_take (i := 11) (oi := { dst := some 8, op := .assign (.tmp 20), type := _, pos := _, after := _, guard := none }) (v := .bool false) rfl (by kernel_rfl) (by kernel_rfl) (by kernel_rfl) (fun _ _ _ h => h) (Or.inl ⟨by rfl, ?_⟩) hS2 ?_
    · intro wS hSw
      go_simp
    simp only [Act.put, List.setIfInBounds_toArray, List.set_cons_zero, List.set_cons_succ]
    refine wpAnyH_done (by kernel_rfl) ?_ _
    have hAG := hA2
    have HBx := hidU (hS2)
    have hGl : w3.heap.size ≤ x0.heap.size := sv1
    obtain ⟨G, hG⟩ : ∃ G, G = x0.heap.size := ⟨_, rfl⟩
    rw [← hG] at hAG hGl ⊢
    clear hG
    clear hS0 hb1 sv1 sz1 hS1 lt1 hb2 sv2 sz2 hS2 hs2 hA2
    have HB4 := hidU (HB3.out.trans (HBx.out.mono HB3.out.size))
    have HA1 := hidU (HA1.out.below HBx.out)
    have HA2 := hidU (HA2.out.below HBx.out)
    have HA3 := hidU (HA3.out.below HBx.out)
    have hGw : w.heap.size ≤ G := Nat.le_trans HB3.out.size hGl
    clear c1 c2 q3 HM HLk HBx hGl
    have c3 : x2.cell? ⟨k3, 0, none⟩ = some (.string to) := by rw [HA3.out.cell]; rfl
    cases hq : nmOk to with
    | false =>
      have e1 : E = 2 := by rw [hE.out, hq]; rfl
      subst e1
      have HN := hidU (isName_any to x2 hs2)
      rw [hq] at HN
      clear hl hE hq
      go_wp2_with (go_at_call 34; refine HN.out.mono ?_; rintro _ x5 ⟨rfl, hb5⟩; have HB5 := hidU (HB4.out.trans (hb5.mono HB4.out.size)); clear hb5)
      rw [hPP.out]
      exact ⟨rfl, fun _ => HB5.out, fun e => by cases e⟩
    | true =>
      have HN := hidU (isName_any to x2 hs2)
      rw [hq] at HN
      have e1 : E = 6 := by rw [hE.out, hq, hl]; rfl
      subst e1
      clear hl hE hq
      go_wp2_with (go_at_call 34; refine HN.out.mono ?_; rintro _ x5 ⟨rfl, hb5⟩; have HB5 := hidU (HB4.out.trans (hb5.mono HB4.out.size)); clear hb5)
      rw [hPP.out]
      exact ⟨rfl, fun _ => HB5.out, fun e => by cases e⟩

  | some f =>
    obtain ⟨a, n, c, bs, sf, hd, rfl, hn, hnc, hcm, hn0, hR, hO⟩ := look_parts H.out hl
    have h40 : nm.size ≤ 40 := H.out.ns _ (look_mem hl)
    have hns := sum_mem (look_mem hl)
    have hsn := hsf _ (look_mem hl)
    simp only [hn] at hns hsn
    have HLk : Hid (∀ x, Below w3.heap.size w3 x → (Instr.lookup 33 (.map (some mb)) (.string nm) true).run Tryd.prog x = .ok (.tuple #[.agg #[.slice a n c, .int .i64 (sf : Int), .bool hd], .bool true]) x) := hidU (fun x hx => by
      have := HLT.out x (HB3.out.trans (hx.mono HB3.out.size))
      rw [file_some hl, hl] at this
      exact this)
    have HLO := hidU (fun x => loose_any ⟨.slice a n c, bs, sf, hd⟩ n c a x rfl (show sf ≤ _ by omega) (by omega))
    go_wp2_with (go_at_call 33; refine HM.out.mono ?_; rintro _ x ⟨rfl, hw⟩; obtain rfl : w3 = x := hw.symm; clear hw)
    have hS0 : Below w3.heap.size w3 w3.drew := Below.drew (Below.refl _ _)
    refine wp_region_held_drew (S := fun xS => Below w3.heap.size w3 xS) (by kernel_rfl) hS0 ?_
    obtain ⟨x0, hx0⟩ : ∃ x, x = w3.drew := ⟨_, rfl⟩
    rw [← hx0] at hS0  ⊢
    clear hx0
    intro _
    refine wpAnyH_take (i := 0) (oi := { dst := some 13, op := .load 22 (.tmp 3), type := _, pos := _, after := _, guard := none }) (v := .pointer (some ⟨g, 0, none⟩)) rfl (by kernel_rfl) (by kernel_rfl) (by kernel_rfl) (fun _ _ _ h => h) (Or.inl ⟨by rfl, ?_⟩) hS0 ?_
    · intro wS hSw
      have z0 := (hSw.cell (lt_of_cell c1)).trans c1
      go_simp
    simp only [Act.put, List.setIfInBounds_toArray, List.set_cons_zero, List.set_cons_succ]
    refine wpAnyH_take (i := 1) (oi := { dst := some 14, op := .nilCheck (.tmp 13), type := _, pos := _, after := _, guard := none }) (v := .pointer (some ⟨g, 0, none⟩)) rfl (by kernel_rfl) (by kernel_rfl) (by kernel_rfl) (fun _ _ _ h => h) (Or.inl ⟨by rfl, ?_⟩) hS0 ?_
    · intro wS hSw
      go_simp
    simp only [Act.put, List.setIfInBounds_toArray, List.set_cons_zero, List.set_cons_succ]
    refine wpAnyH_take (i := 2) (oi := { dst := some 15, op := .fieldAddr 35 (.tmp 14) 2, type := _, pos := _, after := _, guard := none }) (v := .pointer (some ⟨g, 2, none⟩)) rfl (by kernel_rfl) (by kernel_rfl) (by kernel_rfl) (fun _ _ _ h => h) (Or.inl ⟨by rfl, ?_⟩) hS0 ?_
    · intro wS hSw
      go_simp
    simp only [Act.put, List.setIfInBounds_toArray, List.set_cons_zero, List.set_cons_succ]
    refine wpAnyH_take (i := 3) (oi := { dst := some 16, op := .load 33 (.tmp 15), type := _, pos := _, after := _, guard := none }) (v := .map (some mb)) rfl (by kernel_rfl) (by kernel_rfl) (by kernel_rfl) (fun _ _ _ h => h) (Or.inl ⟨by rfl, ?_⟩) hS0 ?_
    · intro wS hSw
      have z0 := (hSw.cell (lt_of_cell q3)).trans q3
      go_simp
    simp only [Act.put, List.setIfInBounds_toArray, List.set_cons_zero, List.set_cons_succ]
    refine wpAnyH_take (i := 4) (oi := { dst := some 17, op := .load 9 (.tmp 4), type := _, pos := _, after := _, guard := none }) (v := .string nm) rfl (by kernel_rfl) (by kernel_rfl) (by kernel_rfl) (fun _ _ _ h => h) (Or.inl ⟨by rfl, ?_⟩) hS0 ?_
    · intro wS hSw
      have z0 := (hSw.cell (lt_of_cell c2)).trans c2
      go_simp
    simp only [Act.put, List.setIfInBounds_toArray, List.set_cons_zero, List.set_cons_succ]
    refine wpAnyH_take (i := 5) (oi := { dst := some 18, op := .lookup 33 (.tmp 16) (.tmp 17) true, type := _, pos := _, after := _, guard := none }) (v := .tuple #[.agg #[.slice a n c, .int .i64 (sf : Int), .bool hd], .bool true]) rfl (by kernel_rfl) (by kernel_rfl) (by kernel_rfl) (fun _ _ _ h => h) (Or.inl ⟨by rfl, ?_⟩) hS0 ?_
    · intro wS hSw
      have hz := HLk.out _ hSw
      go_simp
      try rw [hz]
      try rfl
    simp only [Act.put, List.setIfInBounds_toArray, List.set_cons_zero, List.set_cons_succ]
    refine wpAnyH_take (i := 6) (oi := { dst := some 12, op := .move (.tmp 18), type := _, pos := _, after := _, guard := none }) (v := .tuple #[.agg #[.slice a n c, .int .i64 (sf : Int), .bool hd], .bool true]) rfl (by kernel_rfl) (by kernel_rfl) (by kernel_rfl) (fun _ _ _ h => h) (Or.inl ⟨by rfl, ?_⟩) hS0 ?_
    · intro wS hSw
      go_simp
    simp only [Act.put, List.setIfInBounds_toArray, List.set_cons_zero, List.set_cons_succ]
    refine wpAnyH_take (i := 7) (oi := { dst := some 19, op := .extract (.tmp 12) 0, type := _, pos := _, after := _, guard := none }) (v := .agg #[.slice a n c, .int .i64 (sf : Int), .bool hd]) rfl (by kernel_rfl) (by kernel_rfl) (by kernel_rfl) (fun _ _ _ h => h) (Or.inl ⟨by rfl, ?_⟩) hS0 ?_
    · intro wS hSw
      go_simp
    simp only [Act.put, List.setIfInBounds_toArray, List.set_cons_zero, List.set_cons_succ]
    refine wpAnyH_take (i := 8) (oi := { dst := some 20, op := .extract (.tmp 12) 1, type := _, pos := _, after := _, guard := none }) (v := .bool true) rfl (by kernel_rfl) (by kernel_rfl) (by kernel_rfl) (fun _ _ _ h => h) (Or.inl ⟨by rfl, ?_⟩) hS0 ?_
    · intro wS hSw
      go_simp
    simp only [Act.put, List.setIfInBounds_toArray, List.set_cons_zero, List.set_cons_succ]
    refine wpAnyH_ready (rs := [9]) (by kernel_rfl) (by simp) ?_
    refine AllReadyH.cons (o := { dst := some 7, op := .alloc 66, type := _, pos := _, after := _, guard := none }) rfl (fun K hK => ?_) AllReadyH.nil
    rw [if_pos (by rfl)]
    have sv1 := hS0.size
    refine wp_alloc_at 66 rfl [Value.slice none 0 0, .int .i64 0, .bool false] _ z66 ?_
    intro x1 hA1 hb1 hs1
    have lt1 : x0.heap.size < x1.heap.size := hA1.lt
    clear hs1
    have sz1 := hb1.size
    have hS1 := hS0.trans (hb1.mono hS0.size)
    refine hK.out _ _ hS1 (fun _ => ?_)
    clear hK K
    refine wpAnyH_ready (rs := [10]) (by kernel_rfl) (by simp) ?_
    refine AllReadyH.cons (o := { dst := none, op := .store 66 (.tmp 7) (.tmp 19), type := _, pos := _, after := _, guard := none }) rfl (fun K hK => ?_) AllReadyH.nil
    rw [if_pos (by rfl)]
    have sv2 := hS1.size
    refine wp_store3 (.tmp 7) (.tmp 19) rfl (x0.heap.size) [.slice a n c, .int .i64 (sf : Int), .bool hd] rfl rfl _ hA1 rfl rfl one3 ?_
    intro x2 hA2 hb2 hs2
    clear hA1
    have sz2 := hb2.size
    have hS2 := hb2.below hS1 sv1 hS1.size
    refine hK.out _ _ hS2 (fun _ => ?_)
    clear hK K
    refine wpAnyH_take (i := 11) (oi := { dst := some 8, op := .assign (.tmp 20), type := _, pos := _, after := _, guard := none }) (v := .bool true) rfl (by kernel_rfl) (by kernel_rfl) (by kernel_rfl) (fun _ _ _ h => h) (Or.inl ⟨by rfl, ?_⟩) hS2 ?_
    · intro wS hSw
      go_simp
    simp only [Act.put, List.setIfInBounds_toArray, List.set_cons_zero, List.set_cons_succ]
    refine wpAnyH_done (by kernel_rfl) ?_ _
    have hAG := hA2
    have HBx := hidU (hS2)
    have hGl : w3.heap.size ≤ x0.heap.size := sv1
    obtain ⟨G, hG⟩ : ∃ G, G = x0.heap.size := ⟨_, rfl⟩
    rw [← hG] at hAG hGl ⊢
    clear hG
    clear hS0 hb1 sv1 sz1 hS1 lt1 hb2 sv2 sz2 hS2 hs2 hA2
    have HB4 := hidU (HB3.out.trans (HBx.out.mono HB3.out.size))
    have HA1 := hidU (HA1.out.below HBx.out)
    have HA2 := hidU (HA2.out.below HBx.out)
    have HA3 := hidU (HA3.out.below HBx.out)
    have hGw : w.heap.size ≤ G := Nat.le_trans HB3.out.size hGl
    clear c1 c2 q3 HM HLk HBx hGl
    have c3 : x2.cell? ⟨k3, 0, none⟩ = some (.string to) := by rw [HA3.out.cell]; rfl
    cases hq : nmOk to with
    | false =>
      have e1 : E = 2 := by rw [hE.out, hq]; rfl
      subst e1
      have HN := hidU (isName_any to x2 hs2)
      rw [hq] at HN
      clear hl hE hq
      go_wp2_with (go_at_call 34; refine HN.out.mono ?_; rintro _ x5 ⟨rfl, hb5⟩; have HB5 := hidU (HB4.out.trans (hb5.mono HB4.out.size)); clear hb5)
      rw [hPP.out]
      exact ⟨rfl, fun _ => HB5.out, fun e => by cases e⟩
    | true =>
      have HN := hidU (isName_any to x2 hs2)
      rw [hq] at HN
      have hto : to.size ≤ 40 := by
        unfold nmOk at hq
        simp at hq
        exact hq.2.2
      have e0 : fileM m nm = ⟨.slice a n c, bs, sf, hd⟩ := file_some hl
      go_wp2_with (go_at_call 34; refine HN.out.mono ?_; rintro _ w5 ⟨rfl, hb5⟩; refine Hid.out ?_)
      refine hidU ?_
      have HB5 := hidU (HB4.out.trans (hb5.mono HB4.out.size))
      have HA1 := hidU (HA1.out.below hb5)
      have HA2 := hidU (HA2.out.below hb5)
      have HA3 := hidU (HA3.out.below hb5)
      have hAG := hAG.below hb5
      clear hb5 c3 HN HB4
      have hw1 : IntKind.i64.wrap ((n : Int) - (sf : Int)) = (n : Int) - (sf : Int) := by rw [IntKind.wrap_i64]; omega
      by_cases hlo : sf < n
      · have e1 : E = 10 := by rw [hE.out, hq, if_neg (by simp), hl, if_pos Option.isSome_some, if_pos (by rw [e0]; simp only [hn]; exact hlo)]
        subst e1
        have hp1 : (0 : Int) < (n : Int) - (sf : Int) := by omega
        clear hl hE e0 hq
        go_wp2_with (first
          | (refine wpList_load_at rfl 66 (.tmp 7) rfl G rfl 66 _ hAG _ Tryd.underlying66 rfl i66 ?_)
          | (go_at_call 51; refine (HLO.out _).mono ?_; rintro _ x6 ⟨rfl, hb6⟩; have HB6 := hidU (HB5.out.trans (hb6.mono HB5.out.size)); clear hb6))
        rw [hPP.out]
        exact ⟨rfl, fun _ => HB6.out, fun e => by cases e⟩
      · have e1 : E = pwE lf := by rw [hE.out, hq, if_neg (by simp), hl, if_pos Option.isSome_some, if_neg (by rw [e0]; simp only [hn]; omega)]
        have hp1 : ¬ (0 : Int) < (n : Int) - (sf : Int) := by omega
        go_wp2_with (first
          | (refine wpList_load_at rfl 66 (.tmp 7) rfl G rfl 66 _ hAG _ Tryd.underlying66 rfl i66 ?_)
          | (go_at_call 51; refine (HLO.out _).mono ?_; rintro _ w6 ⟨rfl, hb6⟩; refine Hid.out ?_))
        refine hidU ?_
        have HB6 := hidU (HB5.out.trans (hb6.mono HB5.out.size))
        have d1 : w6.cell? ⟨k1, 0, none⟩ = some (.pointer (some ⟨g, 0, none⟩)) := by rw [(HA1.out.below hb6).cell]; rfl
        have HW := hidU (writ_56 B g mb w w6 m sz wr lf k2 k3 G k1 (fun m' => if nm = to then m' = m else m' = delM (updM m to { fileM m nm with hd := true }) nm) H.out HB6.out hwr hlf hlg (by
          by_cases hne : nm = to
          · subst hne
            refine (rename_s w6 nm k2 k3 G k1 (HA2.out.below hb6) (HA3.out.below hb6)).mono ?_
            rintro r w' ⟨rfl, rfl⟩
            exact ⟨rfl, m, by rw [if_pos rfl], Wrt.same H.out HB6.out⟩
          · refine (rename_c B g mb w w6 m sz wr lf nm to G k3 k1 k2 a n c bs sf hd H.out HB6.out hl (hAG.below hb6) (HA3.out.below hb6) (HA1.out.below hb6) (HA2.out.below hb6) hGw hne hto).mono ?_
            rintro r w' ⟨rfl, hW⟩
            exact ⟨rfl, _, by rw [if_neg hne, e0], hW⟩))
        rw [← e1] at HW
        rw [← hPP.out] at HW
        have hPX : ∀ r w', PP r w' → r = .returned (.int .i64 E) := fun r w' q => by rw [hPP.out] at q; exact q.1
        clear hb6 e1 hl e0 hE hp1 hw1 hAG hq
        go_wp2_with (go_at_call 36; refine HW.out.mono ?_; rintro e w7 q; obtain rfl := hPX _ _ q)
        exact q


end Go.Proofs.YtcmkjjlchljffaaDoor

/- The landed disk: the sorted names of its files. -/
namespace Go.Proofs.YtcmkjjlchljffaaDoor
open Go.RowKit Go.Maps Go.MapKept Go.WideElems Go.Sort
set_option linter.unusedVariables false
set_option maxRecDepth 100000
set_option maxHeartbeats 3200000

/-- An element as it is: nothing is read of it. -/
def asIs : Value → Option (DataW Value × List MemPlace) := fun v => some (.held v, [])
section
variable {w : World} {mb : Nat} {m : FMap}
theorem key_lit (s : ByteArray) (h : s.size ≤ maxLen) : keyOf Tryd.prog 9 (.string s) = some (.string s.data.toList) := Go.WideMaps.keyOf_string_mk u9 h
def keyBytes : Value × Value → List UInt8 := fun q => match q.1 with | .string s => s.data.toList | _ => []
theorem MapS.owns (h : MapS mF w mb m) (hl : m.length ≤ maxLen) : ∃ D : DataW Value, w.ownsMap Tryd.prog 9 asIs mb m.length D ∧ (strKeys D).Perm (m.map fun p => p.1.data.toList) ∧ Maps.size D = m.length := by
  obtain ⟨es, clock, h1, h2, h3, h4⟩ := h
  have hlen : es.toList.length = m.length := by have := congrArg List.length h3; simpa using this
  have keys : ∀ e ∈ es.toList, ∃ s : ByteArray, e.key = .string s ∧ s.size ≤ maxLen := fun e he => by
    have : (e.key, e.val) ∈ es.toList.map (fun e => (e.key, e.val)) := List.mem_map.2 ⟨e, he, rfl⟩
    rw [h3] at this
    obtain ⟨p, hp, hq⟩ := List.mem_map.1 this
    injection hq with hq _
    exact ⟨p.1, hq.symm, h4 p hp⟩
  have hrd : ∀ e ∈ es.toList, ∀ s : ByteArray, e.key = .string s → s.size ≤ maxLen → Go.WideElems.rd Tryd.prog 9 asIs e = some (.string s.data.toList, .held e.val) := fun e he s hk hs => by
    simp [Go.WideElems.rd, hk, key_lit s hs, asIs]
  refine ⟨_, ⟨es, clock, h1, ⟨by rw [← Array.length_toList, hlen]; exact hl, h2, fun e he => ?_⟩, by rw [← Array.length_toList, hlen]; exact Nat.le_refl _, rfl⟩, ?_, ?_⟩
  · obtain ⟨s, hk, hs⟩ := keys e he
    exact ⟨_, hrd e he s hk hs⟩
  · show (List.map (fun p => strOf p.1) (List.foldr DataW.insert [] (es.toList.map (Go.WideElems.rg Tryd.prog 9 asIs)))).Perm _
    refine ((WideShapes.sorted_perm _).map _).trans ?_
    rw [List.map_map]
    have e1 : es.toList.map ((fun p => strOf p.1) ∘ Go.WideElems.rg Tryd.prog 9 asIs) = es.toList.map (keyBytes ∘ fun e => (e.key, e.val)) := by
      refine List.map_congr_left fun e he => ?_
      obtain ⟨s, hk, hs⟩ := keys e he
      simp only [Function.comp_apply, Go.WideElems.rg_of (hrd e he s hk hs), keyBytes, hk, strOf]
    rw [e1, ← List.map_map, h3, List.map_map]
    exact List.Perm.of_eq (List.map_congr_left fun p _ => rfl)
  · show (List.foldr DataW.insert [] (es.toList.map (Go.WideElems.rg Tryd.prog 9 asIs))).length = _
    rw [length_sorted, List.length_map, hlen]
theorem leB_of (a b : ByteArray) (h : ltN a b = true) : decide (a.data.toList ≤ b.data.toList) = true := by
  unfold ltN at h
  rw [bytesLess_eq, decide_eq_true_eq, ByteArray.toList_eq, ByteArray.toList_eq] at h
  exact decide_eq_true (List.le_of_lt h)
theorem enc_flat (fs : List Fi) : (fs.map fun f => f.nm.data.toList).map encStr = eS.flat (fs.map Fi.nm) := by
  induction fs with
  | nil => rfl
  | cons f fs ih =>
    simp only [List.map_cons, El.flat, List.flatMap_cons] at ih ⊢
    rw [ih]
    rfl
/-- slices.Sorted(maps.Keys(m)): the names, rising. -/
theorem sorted_names {fs : List Fi} (h : MapS mF w mb m) (hp : (m.map toFi).Perm fs) (hso : Sorted fs) (hl : fs.length ≤ 256) :
    Calls Tryd.prog 58 #[.func (.func 65) #[] #[.pointer (some ⟨w.heap.size, 0, none⟩)]] (w.alloc (.cells #[.map (some mb)] 33)) fun e w' => ∃ v, e = .returned v ∧ OwnX eS w.heap.size w' v (fs.map Fi.nm) ∧ Below w.heap.size w w' := by
  have hml : m.length = fs.length := by have := hp.length_eq; simpa using this
  obtain ⟨D, h1, h2, h3⟩ := h.owns (by unfold maxLen; omega)
  refine (callsIn_wide.1 (Tryd.slices_Sorted_keys_58_59 mb m.length D asIs w h1 (by rw [h3]; unfold maxLen; omega) (by rw [h3]; omega))).mono ?_
  rintro e w' ⟨v, ss, rfl, q1, q2, _, q3⟩
  have hB : Below w.heap.size w w' := ((Below.refl _ w).alloc (Nat.le_refl _) (.cells #[.map (some mb)] 33)).trans (q3.mono (by simp))
  have e1 : ss.mergeSort (fun x y => decide (x ≤ y)) = fs.map fun f => f.nm.data.toList := by
    have hq : ss.Perm (fs.map fun f => f.nm.data.toList) := by
      refine q1.trans (h2.trans ?_)
      have := hp.map fun f : Fi => f.nm.data.toList
      rw [List.map_map] at this
      exact this
    rw [mergeSort_of_perm hq]
    refine List.mergeSort_of_pairwise ?_
    rw [List.pairwise_map]
    exact hso.imp fun {a b} q => leB_of a.nm b.nm q
  have e2 : ss.length = (fs.map Fi.nm).length := by
    have := congrArg List.length e1
    simpa using this
  rw [e1, enc_flat, e2] at q2
  refine ⟨v, rfl, ?_, hB⟩
  exact OwnX.less (b' := w.heap.size) (e := eS) q2 (by simp)
end
end Go.Proofs.YtcmkjjlchljffaaDoor

/- The landed disk: Names and Read. -/
namespace Go.Proofs.YtcmkjjlchljffaaDoor
open Go.RowKit
set_option linter.unusedVariables false
set_option maxRecDepth 100000
set_option maxHeartbeats 6400000

section
variable {B g mb : Nat} {w : World} {m : FMap} {sz wr : Nat} {lf : Int} {nm : ByteArray} {fs : List Fi}
theorem names_p (h : Ds B w g mb m sz lf wr) (hp : (m.map toFi).Perm fs) (hso : Sorted fs) (hl : fs.length ≤ 256) :
    Calls Tryd.prog 20 #[.pointer (some ⟨g, 0, none⟩)] w fun r w' => ∃ v, r = .returned v ∧ OwnX eS w.heap.size w' v (fs.map Fi.nm) ∧ Below w.heap.size w w' := by
  have HM := hidU (made_yes h.at_)
  have q := h.files
  have HSrt := hidU (sorted_names h.mp hp hso hl)
  have HKs := hidU (callsIn_wide.1 (Tryd.maps_Keys_59 (some mb) w))
  obtain ⟨N, hN⟩ : ∃ N, Hid (N = fs.map Fi.nm) := ⟨_, (rfl : _ = fs.map Fi.nm)⟩
  have HN40 : Hid (∀ x ∈ N, x.size ≤ 40) := hidU (fun x hx => by
    rw [hN.out] at hx
    obtain ⟨f, hf, rfl⟩ := List.mem_map.1 hx
    obtain ⟨p, hp', rfl⟩ := List.mem_map.1 (hp.mem_iff.2 hf)
    exact h.ns p hp')
  have hNl : Hid (N.length ≤ 256) := hidU (by rw [hN.out, List.length_map]; exact hl)
  rw [← hN.out] at HSrt ⊢
  clear h hp hso hl
  go_enter Tryd.func20, Tryd.ntmps20
  go_wp2_with (first
    | (go_at_call 33; refine HM.out.mono ?_; rintro _ w1 ⟨rfl, hw⟩; obtain rfl : w = w1 := hw.symm; clear hw)
    | (go_at_call 59; refine HKs.out.mono ?_; rintro _ w1 ⟨rfl, rfl⟩)
    | (go_at_call 58; refine HSrt.out.mono ?_; rintro _ w1 ⟨v, rfl, hO, hb⟩; refine Hid.out ?_))
  refine hidU ?_
  have HB := hidU hb
  have HO0 := hidU hO
  clear hb HSrt HKs q
  obtain ⟨hlen, ⟨rfl, h0⟩ | ⟨gk, cap, cur, rfl, hg, hh, hc, hm, hs, ht⟩⟩ := hO
  · have hN0 : N = [] := List.length_eq_zero_iff.1 h0
    subst hN0
    clear h0 hlen
    go_wp2
    go_loopw [17] (fun j x => j = .int .i64 0 ∧ Hid (x = w1)) (fun _ _ => 0)
    case atStart => exact ⟨rfl, rfl⟩
    case round =>
      obtain ⟨rfl, hx⟩ := hrel
      go_wp2
      go_ret
      rw [hx.out]
      exact ⟨_, rfl, OwnX.nil _ _ _, HB.out⟩
  · obtain ⟨n, hn⟩ : ∃ n, Hid (n = N.length) := ⟨_, (rfl : _ = N.length)⟩
    have hA0 := hidU (show At 9 w1 gk cur.toList from (show w1.heap[gk]? = some (.cells cur.toList.toArray 9 (0, 0)) from hh))
    have hcells : Hid (∀ i x, N[i]? = some x → cur.toList[i]? = some (Value.string x)) := hidU (fun i x hx => by
      have hil := (List.getElem?_eq_some_iff.1 hx).1
      have h1 := flat_at eS N i x hx 0 (Value.string x) rfl
      rw [← ht] at h1
      rw [show i * eS.n + 0 = i from Nat.mul_one i] at h1
      have hlt := (List.getElem?_eq_some_iff.1 h1).1
      rw [List.length_take] at hlt
      rwa [List.getElem?_take_of_lt (by omega)] at h1)
    have hcl : Hid (n ≤ cur.toList.length) := hidU (by
      have h9 : cur.toList.length = cap * 1 := by rw [Array.length_toList]; exact hs
      have := hn.out
      omega)
    rw [← hn.out]
    obtain ⟨cs, hcs⟩ : ∃ cs, cs = cur.toList := ⟨_, rfl⟩
    rw [← hcs] at hA0 hcells hcl
    have HOk : Hid (∀ x, At 9 x gk cs → OwnX eS w.heap.size x (.slice (some ⟨gk, 0, none⟩) n cap) N) := hidU (fun x hx => by
      rw [hn.out]
      refine ⟨hlen, .inr ⟨gk, cap, cur, rfl, hg, ?_, hc, hm, hs, ht⟩⟩
      rw [hcs] at hx
      have h1 : x.heap[gk]? = some (.cells cur.toList.toArray 9 (0, 0)) := hx
      rw [Array.toArray_toList] at h1
      exact h1)
    clear hcs hlen hg hh hc hm hs ht HO0
    go_wp2
    go_loopw [17] (fun j x => ∃ i : Nat, j = .int .i64 (i : Int) ∧ i ≤ n ∧ Hid (At 9 x gk cs) ∧ Hid (Below w.heap.size w x)) (fun j _ => n - (intOf j).toNat)
    case atStart => exact ⟨0, rfl, by omega, hA0, HB⟩
    case round =>
      obtain ⟨i, rfl, hi, hA, HBx⟩ := hrel
      by_cases hc : i < n
      · obtain ⟨x, hx⟩ : ∃ x, Hid (N[i]? = some x) := ⟨N[i]'(by rw [← hn.out]; exact hc), hidU (List.getElem?_eq_getElem _)⟩
        have q1 : wr.cell? ⟨gk, i, none⟩ = some (.string x) := by rw [hA.out.cell]; exact hcells.out i x hx.out
        have HC := hidU (str_clone x wr (by have := HN40.out x (List.mem_of_getElem? hx.out); omega))
        have hw : IntKind.i64.wrap ((i : Int) + 1) = (i : Int) + 1 := by rw [IntKind.wrap_i64]; have := hNl.out; have := hn.out; omega
        go_wp2_with (first
          | (go_at_call 61; refine HC.out.mono ?_; rintro _ x1 ⟨rfl, hb1⟩; have hA1 := hA.out.below hb1)
          | (refine wpList_store1 rfl 9 (.tmp 26) (.tmp 25) rfl gk i (.string x) rfl rfl 9 _ hA1 (by have := hcl.out; omega) i9 rfl rfl ?_; intro x2 hA2 hb2 hs2; refine Hid.out ?_))
        refine hidU ?_
        have hset : cs.set i (Value.string x) = cs := by
          refine List.ext_getElem? fun j => ?_
          rw [List.getElem?_set]
          split
          · rename_i hj
            subst hj
            have := hcells.out i x hx.out
            rw [this]
            simp [(List.getElem?_eq_some_iff.1 this).1]
          · rfl
        rw [hset] at hA2
        have HA2 := hidU hA2
        have HB2 : Hid (Below w.heap.size w x2) := hidU (hb2.below (HBx.out.trans (hb1.mono HBx.out.size)) (by have := (HOk.out _ hA.out).block gk rfl; exact this.1) (HBx.out.trans (hb1.mono HBx.out.size)).size)
        clear hA1 hA2 hb1 hb2 hs2 hset q1
        go_wp2
        go_roundw
        · exact ⟨i + 1, by go_num, by omega, HA2, HB2⟩
        · simp [intOf]; omega
      · have hin : Hid (i = n) := hidU (by omega)
        go_wp2
        go_ret
        exact ⟨_, rfl, HOk.out _ hA.out, HBx.out⟩
theorem read_none (h : Ds B w g mb m sz lf wr) (hl : lookM m nm = none) (hs : nm.size ≤ 9223372036854775807) : Calls Tryd.prog 13 #[.pointer (some ⟨g, 0, none⟩), .string nm] w fun r w' => r = .returned (.tuple #[.slice none 0 0, .int .i64 6]) ∧ Below w.heap.size w w' := by
  have HL := hidU (lacks_p h hs)
  rw [show lkZ m nm = 6 by unfold lkZ; rw [hl]; rfl] at HL
  clear h hl
  go_enter Tryd.func13, Tryd.ntmps13
  go_wp2_with (go_at_call 49; refine HL.out.mono ?_; rintro _ w1 ⟨rfl, hb1⟩; have HB1 := hidU hb1; clear hb1)
  go_ret2
  exact ⟨rfl, HB1.out⟩
theorem read_some {f : FM} (h : Ds B w g mb m sz lf wr) (hl : lookM m nm = some f) (hb : f.bs.length ≤ 67108864) (hs : nm.size ≤ 9223372036854775807) : Calls Tryd.prog 13 #[.pointer (some ⟨g, 0, none⟩), .string nm] w fun r w' => ∃ v, r = .returned (.tuple #[v, .int .i64 0]) ∧ OwnX eB w.heap.size w' v f.bs ∧ Below w.heap.size w w' := by
  have HL := hidU (lacks_p h hs)
  rw [show lkZ m nm = 0 by unfold lkZ; rw [hl]; rfl] at HL
  obtain ⟨a, n, c, bs, sf, hd, rfl, hn, hnc, hcm, hn0, hR, hO⟩ := look_parts h hl
  have q := h.files
  have HP := hidU h.mp
  have H := hidU h
  have HRr := hidU hR
  have HLk := hidU hl
  simp only at hb
  clear h hl hR hO
  go_enter Tryd.func13, Tryd.ntmps13
  go_wp2_with (go_at_call 49; refine HL.out.mono ?_; rintro _ w1 ⟨rfl, hb1⟩; refine Hid.out ?_)
  refine hidU ?_
  have HB1 := hidU hb1
  have q1 := (hb1.cell (lt_of_cell q)).trans q
  have HC := hidU (clone_any a n c bs w1 (HRr.out.below HB1.out) hn hnc hn0 (by omega))
  have HP1 := hidU (HP.out.below HB1.out)
  clear hb1 q HL
  have hfi : (Instr.field 66 (.agg #[.slice a n c, .int .i64 (sf : Int), .bool hd]) 0).run Tryd.prog w1 = .ok (.slice a n c) w1 := by kernel_rfl
  go_wp2_with (first
    | (refine wpList_look mF rfl (.tmp 16) (.tmp 17) false rfl nm rfl rfl HP1.out hs (.agg #[.slice a n c, .int .i64 (sf : Int), .bool hd]) (by rw [HLk.out]; rfl) ?_)
    | (go_at_call 50; refine HC.out.mono ?_; rintro _ w2 ⟨v, rfl, hO2, hb2⟩))
  go_ret2
  exact ⟨v, rfl, hO2.less HB1.out.size, HB1.out.trans (hb2.mono HB1.out.size)⟩
end
end Go.Proofs.YtcmkjjlchljffaaDoor

/- The landed disk: Clone. -/
namespace Go.Proofs.YtcmkjjlchljffaaDoor
open Go.RowKit
set_option linter.unusedVariables false
set_option maxRecDepth 100000
set_option maxHeartbeats 6400000

theorem z35 : (Tryd.prog.info? 35).map (fun i => (i.zero, i.size)) = some (some (.agg [Value.pointer none, .int .i64 0, .map none, .int .i64 0, .int .i64 0].toArray), 5) := by kernel_rfl
theorem i35s : (Tryd.prog.info? 35).map (·.size) = some 5 := by kernel_rfl
theorem i33s : (Tryd.prog.info? 33).map (·.size) = some 1 := by kernel_rfl
theorem one5 {a : Option Addr} {b : Option Nat} {x y z : Int} : ∀ v ∈ [Value.pointer a, .int .i64 x, .map b, .int .i64 y, .int .i64 z], v.oneCell' = true := by
  intro v hv
  simp at hv
  rcases hv with rfl | rfl | rfl | rfl | rfl <;> rfl
theorem wpList_makeMapN {ops : Array Oper} {rest : List Oper} {o : Oper} {a : Act} {w : World} {Q : Exit → Act → World → Prop} (hgd : o.guard = none) (x : Operand) (ho : o.op = .makeMap 33 (some x)) (n : Nat) (hx : a.eval x = .int .i64 (n : Int))
    (h : ∀ w', MapS mF w' w.heap.size [] → Below w.heap.size w w' → w'.heap.size = w.heap.size + 1 → wpList Tryd.prog ops Q rest (a.put o.dst (.map (some w.heap.size))) w') : wpList Tryd.prog ops Q (o :: rest) a w := by
  refine wpList_plain hgd fun K hK => ?_
  have := hK _ _ (h (w.alloc (.map #[] 0)) (MapS.made mF w) ((Below.refl _ w).alloc (Nat.le_refl _) _) (by simp))
  have hr : (Instr.makeMap 33 (some (.int .i64 (n : Int)))).run Tryd.prog w = .ok (.map (some w.heap.size)) (w.alloc (.map #[] 0)) := by
    simp [Instr.makeMap, run_underlying Tryd.underlying33, asInt]
    rfl
  unfold Oper.wp
  simp [execOp, ho, hx, hr, Result.andThen]
  exact this
/-- The files of a map under way. -/
structure Mf (B : Nat) (w : World) (mb : Nat) (m : FMap) : Prop where
  mp : MapS mF w mb m
  own : ∀ p ∈ m, OwnX eB B w p.2.v p.2.bs
  apart : ∀ p ∈ m, ∀ q ∈ m, p.1 ≠ q.1 → ∀ k, p.2.v.ownBlock = some k → q.2.v.ownBlock ≠ some k
  ns : ∀ p ∈ m, p.1.size ≤ 40
theorem Mf.neM {B mb : Nat} {w : World} {m : FMap} (h : Mf B w mb m) {p : ByteArray × FM} (hp : p ∈ m) : p.2.v.ownBlock ≠ some mb := fun e => by
  obtain ⟨_, _, cs, hA⟩ := (h.own p hp).block mb e
  obtain ⟨arr, clock, h1, _⟩ := h.mp
  have h2 : w.heap[mb]? = some (.cells cs.toArray 5 (0, 0)) := hA
  rw [h1] at h2
  cases h2
theorem Mf.below {B mb : Nat} {w w' : World} {m : FMap} (h : Mf B w mb m) (hb : Below w.heap.size w w') : Mf B w' mb m := ⟨h.mp.below hb, fun p hp => (h.own p hp).below hb, h.apart, h.ns⟩
theorem Mf.but {B mb g : Nat} {w w' : World} {m : FMap} (h : Mf B w mb m) (hb : But g w w') {cs : List Value} {t : TypeId} (hA : At t w g cs) (ht : t ≠ 5) : Mf B w' mb m := by
  refine ⟨h.mp.same (hb.block _ h.mp.lt fun e => ?_), fun p hp => (h.own p hp).same fun k hk => hb.block k ((h.own p hp).block k hk).2.1 fun e => ?_, h.apart, h.ns⟩
  · obtain ⟨arr, clock, h1, _⟩ := h.mp
    have h2 : w.heap[g]? = some (.cells cs.toArray t (0, 0)) := hA
    rw [← e, h1] at h2
    cases h2
  · subst e
    obtain ⟨_, _, cs', hA'⟩ := (h.own p hp).block _ hk
    exact hA.ne hA' ht rfl
theorem Mf.iter {B mb r : Nat} {w w' : World} {m : FMap} (h : Mf B w mb m) (hb : But r w w') {b : Option Nat} {s c : Nat} {seen : Array Nat} (hr : w.heap[r]? = some (.mapIter b s seen c)) : Mf B w' mb m := by
  refine ⟨h.mp.same (hb.block _ h.mp.lt fun e => ?_), fun p hp => (h.own p hp).same fun k hk => hb.block k ((h.own p hp).block k hk).2.1 fun e => ?_, h.apart, h.ns⟩
  · obtain ⟨arr, clock, h1, _⟩ := h.mp
    rw [← e, h1] at hr
    cases hr
  · subst e
    obtain ⟨_, _, cs', hA'⟩ := (h.own p hp).block _ hk
    have h2 : w.heap[k]? = some (.cells cs'.toArray 5 (0, 0)) := hA'
    rw [h2] at hr
    cases hr
theorem Rg.iter {b r : Nat} {w : World} {m dn lf : FMap} (h : Rg mF w b r m dn lf) : ∃ b s seen c, w.heap[r]? = some (.mapIter b s seen c) := by
  obtain ⟨es, clock, since, seen, c0, h1, h2, h3, h4, h5⟩ := h
  exact ⟨_, _, _, _, h4⟩
theorem At.iter {r : Nat} {w w' : World} {t : TypeId} {g : Nat} {cs : List Value} (h : At t w g cs) (hb : But r w w') {b : Option Nat} {s c : Nat} {seen : Array Nat} (hr : w.heap[r]? = some (.mapIter b s seen c)) : At t w' g cs := by
  refine hb.at h fun e => ?_
  have h2 : w.heap[g]? = some (.cells cs.toArray t (0, 0)) := h
  rw [e, hr] at h2
  cases h2
theorem At.neMap {mb : Nat} {w : World} {m : FMap} {t : TypeId} {g : Nat} {cs : List Value} (h : At t w g cs) (hM : MapS mF w mb m) : g ≠ mb := fun e => by
  obtain ⟨arr, clock, h1, _⟩ := hM
  have h2 : w.heap[g]? = some (.cells cs.toArray t (0, 0)) := h
  rw [e, h1] at h2
  cases h2
theorem Mf.add {B B' mb : Nat} {w w1 w' : World} {m : FMap} {nm : ByteArray} {f : FM} (h : Mf B w mb m) (hl : lookM m nm = none) (hb1 : Below w.heap.size w w1) (hb : But mb w1 w') (hM : MapS mF w' mb (updM m nm f)) (ho : OwnX eB w.heap.size w1 f.v f.bs) (hB : B ≤ w.heap.size) (hk : nm.size ≤ 40) : Mf B w' mb (updM m nm f) := by
  have hn := h.mp.nodup
  have nf : ∀ k, f.v.ownBlock = some k → w.heap.size ≤ k := fun k hk => (ho.block k hk).1
  refine ⟨hM, fun p hp => ?_, fun p hp q hq hne k h1 h2 => ?_, fun p hp => ?_⟩
  · rcases mem_upd hn hp with rfl | ⟨h1, h2⟩
    · exact (ho.same fun k hk => hb.block k (ho.block k hk).2.1 (by have := nf k hk; have := h.mp.lt; omega)).less hB
    · exact ((h.own p h1).below hb1).same fun k hk => hb.block k (((h.own p h1).below hb1).block k hk).2.1 (fun e => h.neM h1 (e ▸ hk))
  · rcases mem_upd hn hp with rfl | ⟨p1, p2⟩ <;> rcases mem_upd hn hq with rfl | ⟨q1, q2⟩
    · exact hne rfl
    · have := nf k h1; have := ((h.own q q1).block k h2).2.1; omega
    · have := nf k h2; have := ((h.own p p1).block k h1).2.1; omega
    · exact h.apart p p1 q q1 hne k h1 h2
  · rcases mem_upd hn hp with rfl | ⟨h1, _⟩
    · exact hk
    · exact h.ns p h1
theorem upd_new {m : FMap} {nm : ByteArray} {f : FM} (hl : lookM m nm = none) : updM m nm f = m ++ [(nm, f)] := by unfold updM; rw [hl]; rfl
theorem look_nm {m : FMap} {nm : ByteArray} (h : ∀ p ∈ m, p.1 ≠ nm) : lookM m nm = none := by
  unfold lookM
  rw [Option.map_eq_none_iff, List.find?_eq_none]
  intro p hp
  rw [Bool.not_eq_true, keyB_not]
  exact h p hp
section
variable {B g mb : Nat} {w : World} {m : FMap} {sz wr : Nat} {lf : Int}
theorem clone_p (h : Ds B w g mb m sz lf wr) (hsf : ∀ p ∈ m, p.2.sf ≤ p.2.bs.length) (hsum : sumM m ≤ 67108864) :
    Calls Tryd.prog 26 #[.pointer (some ⟨g, 0, none⟩)] w fun r w' => ∃ gc mc m', r = .returned (.pointer (some ⟨gc, 0, none⟩)) ∧ Ds w.heap.size w' gc mc m' sz lf wr ∧ (m'.map toFi).Perm (m.map toFi) ∧ Below w.heap.size w w' := by
  have HM := hidU (made_yes h.at_)
  have hAg := h.at_
  have H := hidU h
  have HSF := hidU hsf
  have HP := hidU h.mp
  clear h hsf
  go_enter Tryd.func26, Tryd.ntmps26
  go_wp2_with (first
    | (go_at_call 33; refine HM.out.mono ?_; rintro _ w1 ⟨rfl, hw⟩; obtain rfl : w = w1 := hw.symm; clear hw)
    | (refine wpList_load_at rfl 35 (.tmp 10) rfl g rfl 35 _ hAg _ Tryd.underlying35 rfl i35s ?_)
    | (refine wpList_alloc_at rfl 35 rfl [.pointer none, .int .i64 0, .map none, .int .i64 0, .int .i64 0] 5 z35 ?_; intro w1 hA1 hb1 hs1)
    | (refine wpList_store_at rfl 35 (.tmp 3) (.tmp 11) rfl w.heap.size [.pointer (some ⟨g, 0, none⟩), .int .i64 (sz : Int), .map (some mb), .int .i64 lf, .int .i64 (wr : Int)] rfl rfl 35 _ hA1 i35s rfl one5 ?_; intro w2 hA2 hb2 hs2; refine Hid.out ?_))
  refine hidU ?_
  obtain ⟨c, hc⟩ : ∃ c, c = w.heap.size := ⟨_, rfl⟩
  have HB2 := hidU (hb2.below hb1 (Nat.le_refl _) hb1.size)
  rw [← hc] at hA2 ⊢
  have Hc := hidU hc
  have hcl : Hid (w.heap.size ≤ c) := hidU (Nat.le_of_eq hc.symm)
  clear hA1 hb1 hb2 hs1 hs2 hc
  have q2 := (H.out.below HB2.out).files
  have hlen : (Builtin.len_ #[33] 3 #[.map (some mb)]).run Tryd.prog w2 = .ok (.int .i64 (m.length : Int)) w2 := (HP.out.below HB2.out).len 3
  go_wp2_with (first
    | (refine wpList_makeMapN rfl (.tmp 16) rfl m.length rfl ?_; intro w3 hM3 hb3 hs3; have hA3 := hA2.below hb3; refine Hid.out ?_))
  refine hidU ?_
  obtain ⟨mc, hmc⟩ : ∃ k, k = w2.heap.size := ⟨_, rfl⟩
  rw [← hmc] at hM3 ⊢
  have HM3 := hidU hM3
  have HB3 := hidU (HB2.out.trans (hb3.mono HB2.out.size))
  have hmcl : Hid (w.heap.size ≤ mc) := hidU (by rw [hmc]; exact HB2.out.size)
  clear hA2 hb3 hs3 hM3 hlen q2 hmc
  go_wp2_with (refine wpList_store1 rfl 33 (.tmp 18) (.tmp 17) rfl c 2 (.map (some mc)) rfl rfl 35 _ hA3 (by simp) i33s rfl rfl ?_; intro w4 hA4 hb4 hs4; refine Hid.out ?_)
  simp only [List.set] at hA4
  refine hidU ?_
  have HA4 := hidU hA4
  have HB4 := hidU (hb4.below HB3.out hcl.out HB3.out.size)
  have HF4 : Hid (Mf w.heap.size w4 mc []) := hidU ((⟨HM3.out, fun p hp => (by cases hp), fun p hp => (by cases hp), fun p hp => (by cases hp)⟩ : Mf w.heap.size w3 mc []).but hb4 hA3 (by decide))
  have q4 := (H.out.below HB4.out).files
  have HP4 := hidU (H.out.below HB4.out).mp
  clear hA3 hA4 hb4 hs4 HM3
  obtain ⟨r0, hr0⟩ : ∃ r, Hid (r = w4.heap.size) := ⟨_, (rfl : _ = w4.heap.size)⟩
  go_wp2_with (refine wpList_range mF rfl (.tmp 22) rfl rfl HP4.out ?_; intro w5 hrg hbw hsw; have HR := hidU hrg; have HB5 := hidU (HB4.out.trans (hbw.mono HB4.out.size)); have HA5 := hidU (HA4.out.below hbw); have HF5 := hidU (HF4.out.below hbw); clear hrg hbw hsw)
  go_frame
  rw [← hr0.out] at HR ⊢
  clear q4 HA4 HF4
  go_loopw [] (fun x => ∃ (dn lft m' : FMap), Hid (Rg mF x mb r0 m dn lft) ∧ Hid (At 35 x c [.pointer (some ⟨g, 0, none⟩), .int .i64 (sz : Int), .map (some mc), .int .i64 lf, .int .i64 (wr : Int)]) ∧ Hid (Mf w.heap.size x mc m') ∧ Hid (m'.map toFi = dn.map toFi) ∧ Hid (Below w.heap.size w x)) (fun x => x.rangeLeft mb r0)
  case atStart => exact ⟨[], m, [], HR, HA5, HF5, rfl, HB5⟩
  case round =>
    obtain ⟨dn, lft, m', HRg, HA, HF, hmm, HBx⟩ := hrel
    go_wp2_with (first
      | (at_next; refine wpList_next mF rfl (.tmp 23) rfl rfl HRg.out ?_ ?_)
      | go_in)
    · intro h0
      have hA := HA.out
      go_wp2_with (first
        | (refine wpList_load_at rfl 35 (.tmp 3) rfl c rfl 35 _ hA _ Tryd.underlying35 rfl i35s ?_)
        | (go_at_call 32; refine (made_any (some ⟨g, 0, none⟩) _ _ _ mc _).mono ?_; rintro _ y ⟨rfl, hAy, hby, hsy⟩))
      go_ret
      have F := HF.out.below hby
      have hpm := HRg.out.perm
      rw [h0, List.append_nil] at hpm
      refine ⟨_, mc, m', rfl, ⟨hAy, F.mp, F.own, F.apart, HBx.out.size, hmcl.out, F.ns⟩, ?_, HBx.out.trans (hby.mono HBx.out.size)⟩
      rw [hmm.out]
      exact hpm.map toFi
    · intro nm fm lf' x1 hp hrg1 hb1 hs1 hen
      obtain ⟨v, bs, sf, hd⟩ := fm
      have hpm : (nm, (⟨v, bs, sf, hd⟩ : FM)) ∈ m := HRg.out.perm.mem_iff.1 (List.mem_append.2 (.inr (hp.mem_iff.2 (.head _))))
      have HN40 := hidU (H.out.ns _ hpm)
      have HSFn := hidU (HSF.out _ hpm)
      have HSm := hidU (sum_mem hpm)
      obtain ⟨a, c', hv, hnc, _, hn0, _, hrw⟩ := (H.out.own _ hpm).row
      simp only at hv hnc hn0 hrw
      subst hv
      obtain ⟨b0, s0, seen0, c0, hit⟩ := HRg.out.iter
      have HA1 := hidU (HA.out.iter hb1 hit)
      have HF1 := hidU (HF.out.iter hb1 hit)
      have HRg1 := hidU hrg1
      have HL1 : Hid (x1.rangeLeft mb r0 < wr.rangeLeft mb r0) := hidU (by rw [hrg1.left, HRg.out.left, hp.length_eq]; simp)
      have hrb : Hid (w.heap.size ≤ r0) := hidU (by rw [hr0.out]; exact HB4.out.size)
      have HBx1 := hidU (hb1.below HBx.out hrb.out HBx.out.size)
      have hnn : Hid (lookM m' nm = none) := hidU (look_nm fun p hp' e => by
        have hn := ((hrg1.perm.map (·.1)).nodup_iff).2 HP.out.nodup
        rw [List.map_append, List.map_append, List.nodup_append] at hn
        have hn2 := (List.nodup_append.1 hn.1).2.2
        have h3 : nm ∈ dn.map (·.1) := by
          have h4 := congrArg (List.map Fi.nm) hmm.out
          rw [List.map_map, List.map_map] at h4
          have h5 : nm ∈ m'.map (Fi.nm ∘ toFi) := List.mem_map.2 ⟨p, hp', e⟩
          rw [h4] at h5
          exact h5
        exact hn2 nm h3 nm (by simp) rfl)
      have HRw := hidU (rowB.1 (hrw.below (HBx1.out)))
      obtain ⟨n, hn⟩ : ∃ n, Hid (bs.length = n) := ⟨_, (rfl : bs.length = _)⟩
      simp only [mF, FM.val, hn.out] at hen ⊢
      rw [hn.out] at hnc
      simp only [hn.out] at HSFn HSm
      clear hrg1 hb1 hs1 hp hit hrw hpm
      go_wp2_with (first
        | (refine wpList_alloc_at rfl 66 rfl [.slice none 0 0, .int .i64 0, .bool false] 3 z66 ?_; intro x2 hA2 hb2 hs2; refine Hid.out ?_))
      refine hidU ?_
      obtain ⟨gb, hgb⟩ : ∃ gb, gb = x1.heap.size := ⟨_, rfl⟩
      rw [← hgb] at hA2 ⊢
      have HB2 := hidU hb2
      have hgl : Hid (x1.heap.size ≤ gb) := hidU (Nat.le_of_eq hgb.symm)
      clear hb2 hs2 hgb hen
      go_wp2_with (first
        | (refine wpList_store_at rfl 66 (.tmp 5) (.tmp 28) rfl gb [.slice a n c', .int .i64 (sf : Int), .bool hd] rfl rfl 66 _ hA2 i66 rfl one3 ?_; intro x3 hA3 hb3 hs3; refine Hid.out ?_))
      refine hidU ?_
      have HB3' := hidU (hb3.below HB2.out hgl.out HB2.out.size)
      have c0 : x3.cell? ⟨gb, 0, none⟩ = some (.slice a n c') := by rw [hA3.cell]; rfl
      have HC := hidU (cut_any a n c' bs sf hd n x3 (HRw.out.below HB3'.out) hn.out hnc hn0 (Nat.le_refl _) (by have := HSm.out; omega) HSFn.out)
      clear hA2 hb3 hs3 HB2
      go_wp2_with (first
        | (refine wpList_load_at rfl 66 (.tmp 5) rfl gb rfl 66 _ hA3 _ Tryd.underlying66 rfl i66 ?_)
        | (go_at_call 53; refine HC.out.mono ?_; rintro _ x4 ⟨v', rfl, hO4, hb4⟩; refine Hid.out ?_))
      refine hidU ?_
      rw [show bs.take n = bs by rw [← hn.out]; exact List.take_length] at hO4
      rw [show min sf n = sf by have := HSFn.out; omega]
      obtain ⟨a4, n4, c4, rfl⟩ := own_slice' hO4
      have HB4' := hidU (HB3'.out.trans (hb4.mono HB3'.out.size))
      have HO4 := hidU (hO4.less HB3'.out.size)
      have HPt := hidU (put_any c mc m' a4 n4 c4 bs sf hd nm x4 (by rw [(HA1.out.below HB4'.out).cell]; rfl) (HF1.out.mp.below HB4'.out) (by have h9 : nm.size ≤ 40 := HN40.out; omega))
      clear hO4 hb4 hA3 c0 HC
      go_wp2_with (go_at_call 38; refine HPt.out.mono ?_; rintro _ x5 ⟨rfl, hM5, y, hy, hb5⟩; refine Hid.out ?_)
      refine hidU ?_
      have HBy := HB4'.out.trans (hy.mono HB4'.out.size)
      have HF5 : Hid (Mf w.heap.size x5 mc (updM m' nm ⟨.slice a4 n4 c4, bs, sf, hd⟩)) := hidU (HF1.out.add (B' := 0) hnn.out HBy hb5 hM5 (HO4.out.below hy) HBx1.out.size HN40.out)
      have HRy := HRg1.out.below HBy
      have HMy := HF1.out.mp.below HBy
      have hbm : mb ≠ mc := by have := HP.out.lt; have := hmcl.out; omega
      have hrm : r0 ≠ mc := fun e => by
        obtain ⟨b1, s1, seen1, c1, hit1⟩ := HRy.iter
        obtain ⟨arr, clock, h1, _⟩ := HMy
        rw [e, h1] at hit1
        cases hit1
      have HRg5 := hidU (HRy.same (hb5.block mb HRy.lt.1 hbm) (hb5.block r0 HRy.lt.2 hrm))
      have HA5 := hidU (hb5.at (HA1.out.below HBy) ((HA1.out.below HBy).neMap HMy))
      have HB5 := hidU (hb5.below (HBx1.out.trans (HBy.mono HBx1.out.size)) hmcl.out (HBx1.out.trans (HBy.mono HBx1.out.size)).size)
      have HL5 : Hid (x5.rangeLeft mb r0 < wr.rangeLeft mb r0) := hidU (by rw [HRg5.out.left]; have := HL1.out; rwa [HRg1.out.left] at this)
      have HM5 : Hid ((updM m' nm ⟨.slice a4 n4 c4, bs, sf, hd⟩).map toFi = (dn ++ [(nm, (⟨.slice a bs.length c', bs, sf, hd⟩ : FM))]).map toFi) := hidU (by
        rw [upd_new hnn.out, List.map_append, List.map_append, hmm.out]
        rfl)
      clear hM5 hy hb5 HBy HRy HMy hbm hrm
      go_wp2
      go_roundw
      · exact ⟨_, lf', _, HRg5, HA5, HF5, HM5, HB5⟩
      · exact HL5.out
end
end Go.Proofs.YtcmkjjlchljffaaDoor

/- The landed disk: a file is torn. -/
namespace Go.Proofs.YtcmkjjlchljffaaDoor
open Go.RowKit
set_option linter.unusedVariables false
set_option maxRecDepth 100000
set_option maxHeartbeats 6400000

theorem cut_t (a : Option Addr) (n c : Nat) (bs : List UInt8) (sf : Nat) (hd : Bool) (t : Nat) (w : World) (h : Row w a bs) (hn : bs.length = n) (hc : n ≤ c) (h0 : a = none → c = 0) (hz : t ≤ n) (hm : n ≤ 67108864) (hsf : sf ≤ t) :
    Calls Tryd.prog 53 #[.agg #[.slice a n c, .int .i64 (sf : Int), .bool hd], .int .i64 (t : Int)] w fun r w' => ∃ av cv, r = .returned (.agg #[.slice av t cv, .int .i64 (sf : Int), .bool hd]) ∧ OwnX eB w.heap.size w' (.slice av t cv) (bs.take t) ∧ Below w.heap.size w w' := by
  refine (cut_any a n c bs sf hd t w h hn hc h0 hz hm (by omega)).mono ?_
  rintro r w' ⟨v, rfl, hO, hb⟩
  obtain ⟨av, cv, rfl⟩ := own_slice hO
  have hl : (bs.take t).length = t := by rw [List.length_take]; omega
  rw [hl] at hO ⊢
  rw [show min sf t = sf by omega]
  exact ⟨av, cv, rfl, hO, hb⟩
theorem tear_p {B g mb : Nat} {w : World} {m : FMap} {sz wr : Nat} {lf : Int} {nm : ByteArray} {a : Option Addr} {n c : Nat} {bs : List UInt8} {sf : Nat} {hd : Bool} (h : Ds B w g mb m sz lf wr) (hl : lookM m nm = some ⟨.slice a n c, bs, sf, hd⟩) (hsn : sf ≤ n) (hns : n ≤ 67108864) (z : Int) (t : Nat) (ht : t = sf + (min (max z 0) ((n : Int) - (sf : Int))).toNat) :
    Calls Tryd.prog 60 #[.pointer (some ⟨g, 0, none⟩), .string nm, .int .i64 z] w fun r w' => r = .returned (.tuple #[]) ∧ ((t = 0 ∧ hd = false) → Wrt B w w' mb m (delM m nm)) ∧ (¬ (t = 0 ∧ hd = false) → ∃ v, Wrt B w w' mb m (updM m nm ⟨v, bs.take t, t, hd⟩)) := by
  obtain ⟨a', n', c', bs', sf', hd', e, hn, hnc, _, hn0, hR, hO⟩ := look_parts h hl
  injection e with e1 e2 e3 e4
  injection e1 with e5 e6 e7
  subst e5 e6 e7 e2 e3 e4
  have h40 : nm.size ≤ 40 := h.ns _ (look_mem hl)
  have hs : nm.size ≤ maxLen := by unfold maxLen; omega
  obtain ⟨K, hK⟩ : ∃ K : Int, Hid (max z 0 = K) := ⟨_, (rfl : max z 0 = _)⟩
  obtain ⟨J, hJ⟩ : ∃ J : Int, Hid (min K ((n : Int) - (sf : Int)) = J) := ⟨_, (rfl : min K _ = _)⟩
  have hst : sf ≤ t := by omega
  have htn : t ≤ n := by omega
  have hJt : (sf : Int) + J = (t : Int) := by have := hJ.out; have := hK.out; omega
  have hW : Hid (IntKind.i64.wrap ((sf : Int) + J) = (t : Int)) := hidU (by rw [hJt, IntKind.wrap_i64]; omega)
  have q := h.files
  have HP := hidU h.mp
  have H := hidU h
  have HRr := hidU hR
  have HL := hidU hl
  clear h hl hR hO ht hJt
  go_enter Tryd.func60, Tryd.ntmps60
  go_wp2_with (first
    | (refine wpList_look mF rfl (.tmp 10) (.tmp 11) false rfl nm rfl rfl HP.out hs (.agg #[.slice a n c, .int .i64 (sf : Int), .bool hd]) (by rw [HL.out]; rfl) ?_)
    | (refine wpList_alloc_at rfl 66 rfl [.slice none 0 0, .int .i64 0, .bool false] 3 z66 ?_; intro x1 hA1 hb1 hs1)
    | (refine wpList_store_at rfl 66 (.tmp 6) (.tmp 12) rfl w.heap.size [.slice a n c, .int .i64 (sf : Int), .bool hd] rfl rfl 66 _ hA1 i66 rfl one3 ?_; intro w1 hA2 hb2 hs2; refine Hid.out ?_))
  refine hidU ?_
  obtain ⟨G, hG⟩ : ∃ k, k = w.heap.size := ⟨_, rfl⟩
  have HB1 := hidU (hb2.below hb1 (Nat.le_refl _) hb1.size)
  rw [← hG] at hA2 ⊢
  have HAG := hidU hA2
  have hGl : w.heap.size ≤ G := Nat.le_of_eq hG.symm
  have e0 : w1.cell? ⟨G, 0, none⟩ = some (.slice a n c) := by rw [HAG.out.cell]; rfl
  have e1 : w1.cell? ⟨G, 1, none⟩ = some (.int .i64 (sf : Int)) := by rw [HAG.out.cell]; rfl
  have e2 : w1.cell? ⟨G, 2, none⟩ = some (.bool hd) := by rw [HAG.out.cell]; rfl
  have HRw := hidU (HRr.out.below HB1.out)
  clear hA1 hA2 hb1 hb2 hs1 hs2 hG q HP HL
  go_wp2
  have hS0 : Below w1.heap.size w1 w1.drew := Below.drew (Below.refl _ _)
  refine wp_region_S (S := fun xS => Below w1.heap.size w1 xS) (St := [11]) (by kernel_rfl) hS0 ?_
  obtain ⟨x0, hx0⟩ : ∃ x, x = w1.drew := ⟨_, rfl⟩
  rw [← hx0] at hS0  ⊢
  clear hx0
  intro hH
  refine wpAnyS_take [9, 10, 11] (i := 0) (oi := { dst := some 13, op := .load 66 (.tmp 6), type := _, pos := _, after := _, guard := none }) (v := .agg #[.slice a n c, .int .i64 (sf : Int), .bool hd]) rfl (by kernel_rfl) (by kernel_rfl) (by kernel_rfl) (by kernel_rfl) (by kernel_rfl) (by kernel_rfl) (by kernel_rfl) (fun _ _ _ h => h) (Or.inl ⟨by rfl, ?_⟩) hH (fun hH => ?_)
  · intro wS hSw
    have z0 := (hSw.cell (lt_of_cell e0)).trans e0
    have z1 := (hSw.cell (lt_of_cell e1)).trans e1
    have z2 := (hSw.cell (lt_of_cell e2)).trans e2
    go_simp
  simp only [Act.put, List.setIfInBounds_toArray, List.set_cons_zero, List.set_cons_succ]
  refine wpAnyS_pure (i := 1) (oi := { dst := some 14, op := .fieldAddr 66 (.tmp 6) 1, type := _, pos := _, after := _, guard := none }) (v := .pointer (some ⟨G, 1, none⟩)) rfl (by kernel_rfl) (by kernel_rfl) (by kernel_rfl) (by kernel_rfl) (fun _ _ _ h => h) (Or.inl ⟨by rfl, ?_⟩) hH (fun hH => ?_)
  · intro wS hSw
    go_simp
  simp only [Act.put, List.setIfInBounds_toArray, List.set_cons_zero, List.set_cons_succ]
  refine wpAnyS_take [8, 9, 10, 11] (i := 2) (oi := { dst := some 15, op := .load 3 (.tmp 14), type := _, pos := _, after := _, guard := none }) (v := .int .i64 (sf : Int)) rfl (by kernel_rfl) (by kernel_rfl) (by kernel_rfl) (by kernel_rfl) (by kernel_rfl) (by kernel_rfl) (by kernel_rfl) (fun _ _ _ h => h) (Or.inl ⟨by rfl, ?_⟩) hH (fun hH => ?_)
  · intro wS hSw
    have z0 := (hSw.cell (lt_of_cell e1)).trans e1
    go_simp
  simp only [Act.put, List.setIfInBounds_toArray, List.set_cons_zero, List.set_cons_succ]
  refine wpAnyS_pure (i := 3) (oi := { dst := some 16, op := .move (.tmp 2), type := _, pos := _, after := _, guard := none }) (v := .int .i64 z) rfl (by kernel_rfl) (by kernel_rfl) (by kernel_rfl) (by kernel_rfl) (fun _ _ _ h => h) (Or.inl ⟨by rfl, ?_⟩) hH (fun hH => ?_)
  · intro wS hSw
    go_simp
  simp only [Act.put, List.setIfInBounds_toArray, List.set_cons_zero, List.set_cons_succ]
  refine wpAnyS_pure (i := 4) (oi := { dst := some 17, op := .call { callee := .builtin .max, args := #[.tmp 16, .const (.int .i64 0)], argTypes := #[3, 3] }, type := _, pos := _, after := _, guard := none }) (v := .int .i64 K) rfl (by kernel_rfl) (by kernel_rfl) (by kernel_rfl) (by kernel_rfl) (fun _ _ _ h => h) (Or.inl ⟨by rfl, ?_⟩) hH (fun hH => ?_)
  · intro wS hSw
    go_simp
    try rw [hK.out]
    try rfl
  simp only [Act.put, List.setIfInBounds_toArray, List.set_cons_zero, List.set_cons_succ]
  refine wpAnyS_take [6, 7, 8, 9, 10, 11] (i := 5) (oi := { dst := some 18, op := .load 66 (.tmp 6), type := _, pos := _, after := _, guard := none }) (v := .agg #[.slice a n c, .int .i64 (sf : Int), .bool hd]) rfl (by kernel_rfl) (by kernel_rfl) (by kernel_rfl) (by kernel_rfl) (by kernel_rfl) (by kernel_rfl) (by kernel_rfl) (fun _ _ _ h => h) (Or.inl ⟨by rfl, ?_⟩) hH (fun hH => ?_)
  · intro wS hSw
    have z0 := (hSw.cell (lt_of_cell e0)).trans e0
    have z1 := (hSw.cell (lt_of_cell e1)).trans e1
    have z2 := (hSw.cell (lt_of_cell e2)).trans e2
    go_simp
  simp only [Act.put, List.setIfInBounds_toArray, List.set_cons_zero, List.set_cons_succ]
  refine wpAnyS_ready (rs := [6]) (by kernel_rfl) (by simp) ?_
  refine AllReadyS.cons (o := { dst := some 19, op := .call { callee := .value (.func 51), args := #[.tmp 18], argTypes := #[66] }, type := _, pos := _, after := _, guard := none }) rfl (fun K hK => ?_) AllReadyS.nil
  rw [if_pos (by rfl)]
  go_wp2_with (go_at_call 51; refine (loose_any ⟨.slice a n c, bs, sf, hd⟩ n c a x0 rfl (show sf ≤ _ by omega) (by omega)).mono ?_; rintro e x1 ⟨rfl, hb1⟩)
  have hS1 := hS0.trans (hb1.mono hS0.size)
  refine hK.out _ _ (Hold.of hS1) (fun hH => ?_)
  clear hK K
  refine wpAnyS_pure (i := 7) (oi := { dst := some 20, op := .call { callee := .builtin .min, args := #[.tmp 17, .tmp 19], argTypes := #[3, 3] }, type := _, pos := _, after := _, guard := none }) (v := .int .i64 J) rfl (by kernel_rfl) (by kernel_rfl) (by kernel_rfl) (by kernel_rfl) (fun _ _ _ h => h) (Or.inl ⟨by rfl, ?_⟩) hH (fun hH => ?_)
  · intro wS hSw
    go_simp
    try rw [hJ.out]
    try rfl
  simp only [Act.put, List.setIfInBounds_toArray, List.set_cons_zero, List.set_cons_succ]
  refine wpAnyS_pure (i := 8) (oi := { dst := some 21, op := .binOp .add 3 (.tmp 15) (.tmp 20) 3, type := _, pos := _, after := _, guard := none }) (v := .int .i64 (t : Int)) rfl (by kernel_rfl) (by kernel_rfl) (by kernel_rfl) (by kernel_rfl) (fun _ _ _ h => h) (Or.inl ⟨by rfl, ?_⟩) hH (fun hH => ?_)
  · intro wS hSw
    go_simp
    try rw [hW.out]
    try rfl
  simp only [Act.put, List.setIfInBounds_toArray, List.set_cons_zero, List.set_cons_succ]
  refine wpAnyS_ready (rs := [9]) (by kernel_rfl) (by simp) ?_
  refine AllReadyS.cons (o := { dst := some 22, op := .call { callee := .value (.func 53), args := #[.tmp 13, .tmp 21], argTypes := #[66, 3] }, type := _, pos := _, after := _, guard := none }) rfl (fun K hK => ?_) AllReadyS.nil
  rw [if_pos (by rfl)]
  go_wp2_with (go_at_call 53; refine (cut_t a n c bs sf hd t x1 (HRw.out.below hS1) hn hnc hn0 htn (by omega) hst).mono ?_; rintro e x2 ⟨av, cv, rfl, hO2, hb2⟩)
  have hSz2 : w1.heap.size ≤ x1.heap.size := (hS1).size
  have hS2 := hS1.trans (hb2.mono hS1.size)
  refine hK.out _ _ (Hold.of hS2) (fun hH => ?_)
  clear hK K
  refine wpAnyS_ready (rs := [10]) (by kernel_rfl) (by simp) ?_
  refine AllReadyS.cons (o := { dst := some 23, op := .call { callee := .value (.func 55), args := #[.tmp 22], argTypes := #[66] }, type := _, pos := _, after := _, guard := none }) rfl (fun K hK => ?_) AllReadyS.nil
  rw [if_pos (by rfl)]
  go_wp2_with (go_at_call 55; refine (safely_any av t cv sf hd x2).mono ?_; rintro e x3 ⟨rfl, hb3⟩)
  have hS3 := hS2.trans (hb3.mono hS2.size)
  refine hK.out _ _ (Hold.of hS3) (fun hH => ?_)
  clear hK K
  refine wpAnyS_ready (rs := [11]) (by kernel_rfl) (by simp) ?_
  refine AllReadyS.cons (o := { dst := none, op := .store 66 (.tmp 6) (.tmp 23), type := _, pos := _, after := _, guard := none }) rfl (fun K hK => ?_) AllReadyS.nil
  rw [if_pos (by rfl)]
  refine wp_store3 (.tmp 6) (.tmp 23) rfl G [.slice av t cv, .int .i64 (t : Int), .bool hd] rfl rfl _ (HAG.out.below hS3) rfl rfl one3 ?_
  intro x4 hA4 hb4 hs4
  refine hK.out _ _ (Hold.over (s := 11) (by decide) (by rfl)) (fun hH => ?_)
  clear hK K
  refine wpAnyS_done (by kernel_rfl) ?_ _
  have HA4 := hidU hA4
  have HB3 := hidU (HB1.out.trans (hS3.mono HB1.out.size))
  have HB4 := hidU (hb4.below HB3.out hGl HB3.out.size)
  have HO3 := hidU ((hO2.below hb3).less (b' := w.heap.size) (Nat.le_trans HB1.out.size (hSz2)))
  have HO4 : Hid (OwnX eB w.heap.size x4 (.slice av t cv) (bs.take t)) := hidU (HO3.out.same fun k hk => hb4.block k (HO3.out.block k hk).2.1 (by
    rintro rfl
    obtain ⟨_, _, cs, hA⟩ := HO3.out.block k hk
    exact hA.ne (HAG.out.below hS3) (show (5 : Nat) ≠ 66 by decide) rfl))
  have c0 : x4.cell? ⟨G, 0, none⟩ = some (.slice av t cv) := by rw [HA4.out.cell]; rfl
  have c2 : x4.cell? ⟨G, 2, none⟩ = some (.bool hd) := by rw [HA4.out.cell]; rfl
  have q4 := (H.out.below HB4.out).files
  have HM4 := hidU (H.out.below HB4.out).mp
  have hBw : B ≤ w.heap.size := Nat.le_trans H.out.bg (Nat.le_of_lt (heapLt H.out.at_))
  have HPt := hidU (put_wrt H.out h40 av t cv (bs.take t) t hd x4 (Chg.of_below HB4.out) (HO4.out.less hBw) (fun k hk => .inr (HO4.out.block k hk).1))
  have hA4 := HA4.out
  clear hb1 hb2 hb3 hb4 hS1 hS2 hS3 hO2 hA4 hs4 hS0 e0 e1 e2 hSz2 hH
  by_cases ht0 : t = 0
  · cases hd with
    | false =>
      rw [ht0] at c0
      have HT := hidU ht0
      clear ht0 hA4
      go_wp2_with (refine wpList_del mF rfl (.tmp 36) (.tmp 37) rfl nm rfl rfl HM4.out hs ?_; intro y hMy hby hsy; refine Hid.out ?_)
      refine hidU ?_
      clear hsy
      go_wp2
      refine bodyPost_ret (results_none rfl _ _ _) rfl ?_
      exact ⟨rfl, fun _ => (Wrt.del (H.out.below HB4.out) hMy hby).from HB4.out, fun q => absurd HT.out (by simpa using q)⟩
    | true =>
      rw [ht0] at c0
      clear ht0
      go_wp2_with (first
        | (refine wpList_load_at rfl 66 (.tmp 6) rfl G rfl 66 _ hA4 _ Tryd.underlying66 rfl i66 ?_)
        | (go_at_call 38; refine HPt.out.mono ?_; rintro _ y ⟨rfl, hW⟩))
      go_end0
      refine ⟨rfl, fun q => ?_, fun _ => ⟨_, hW⟩⟩
      simp at q
  · have ht1 : ¬ (t : Int) = 0 := by omega
    have HT := hidU ht0
    clear ht0
    go_wp2_with (first
      | (refine wpList_load_at rfl 66 (.tmp 6) rfl G rfl 66 _ hA4 _ Tryd.underlying66 rfl i66 ?_)
      | (go_at_call 38; refine HPt.out.mono ?_; rintro _ y ⟨rfl, hW⟩))
    go_end0
    exact ⟨rfl, fun q => absurd q.1 HT.out, fun _ => ⟨_, hW⟩⟩

end Go.Proofs.YtcmkjjlchljffaaDoor

/- plays: calls of one disk, one behind the other. -/
namespace Go.Proofs.YtcmkjjlchljffaaDoor
open Go.RowKit
set_option linter.unusedVariables false

/-- A call that plays takes. -/
def plOk (a : Ac) : Bool := decide (a.b.length ≤ 400) && decide (0 ≤ a.kd) && decide (a.kd ≤ 4)
/-- What a disk is behind calls. -/
def plD (D : Dk) (al : List AT) : Dk := al.foldl (fun d a => acD d a.ac) D
theorem plD_snoc (D : Dk) (al : List AT) (a : AT) : plD D (al ++ [a]) = acD (plD D al) a.ac := by simp [plD]
theorem Sta.drop {U : Prop} {CD : CDT} {B g n : Nat} {x : World} {D : Dk} {S : Nat → Prop} (h : Sta CD B x g n D S) : Sta CD B x g n D (fun _ => False) := by
  obtain ⟨W, F, h1, h2, h3⟩ := h
  exact ⟨W, F, h1, h2, fun _ q => q.elim⟩
theorem Sta.appArg {U : Prop} {CD : CDT} {B g n : Nat} {x : World} {D : Dk} {S : Nat → Prop} (Fa : Face U CD) {a : AT} (h : Sta CD B x g n D S) (hB : B ≤ x.heap.size) (hn : n ≤ 1048576) (ha : a.In0 B x) (hl : a.ac.b.length ≤ 1099511627776) :
    Calls Tryd.prog 10 #[.pointer (some ⟨g, 0, none⟩), .string a.ac.nm, .slice a.ba a.ac.b.length a.bc] x fun r w' => ∃ e, r = .returned (.int .i64 e) ∧ Sta CD B w' g (n + 1) (apO D a.ac.nm a.ac.b).1 S ∧ Below B x w' ∧ Std S x w' := by
  obtain ⟨W, F, h1, h2, h3⟩ := h
  refine (Fa.append (nm := a.ac.nm) h1 (h2.fine (by omega)) h2.so hB ha.l3 ha.rb rfl ha.lb ha.nb hl (fun hne ad q => ⟨fun p => by have := (Fa.wf h1 _ p).2; have := ha.bb hne ad q; omega, Nat.lt_of_lt_of_le (ha.bb hne ad q) hB⟩)).mono ?_
  rintro r w' hp
  obtain ⟨q1, q2, q3, q4⟩ := sta_of (n := n) Fa h1 hB h3 (gd_ap h2) hp
  exact ⟨_, q1, q2, q3, q4⟩
theorem Sta.remove {U : Prop} {CD : CDT} {B g n : Nat} {x : World} {D : Dk} {nm : ByteArray} {S : Nat → Prop} (Fa : Face U CD) (h : Sta CD B x g n D S) (hB : B ≤ x.heap.size) (hn : n ≤ 1048576) (hs : nm.size ≤ 9223372036854775807) :
    Calls Tryd.prog 17 #[.pointer (some ⟨g, 0, none⟩), .string nm] x fun r w' => r = .returned (.int .i64 (rmO D nm).2) ∧ Sta CD B w' g (n + 1) (rmO D nm).1 S ∧ Below B x w' ∧ Std S x w' := by
  obtain ⟨W, F, h1, h2, h3⟩ := h
  refine (Fa.remove (nm := nm) h1 (h2.fine (by omega)) h2.so hB hs).mono ?_
  rintro r w' hp
  exact sta_of Fa h1 hB h3 (gd_rm h2) hp
/-- Any of the five calls. -/
structure Five (CD : CDT) (B : Nat) (y : World) (g n : Nat) (D : Dk) (a : AT) (S : Nat → Prop) : Prop where
  c0 : Calls Tryd.prog 10 #[.pointer (some ⟨g, 0, none⟩), .string a.ac.nm, .slice a.ba a.ac.b.length a.bc] y fun r w' => ∃ e, r = .returned (.int .i64 e) ∧ Sta CD B w' g (n + 1) (apO D a.ac.nm a.ac.b).1 S ∧ Below B y w' ∧ Std S y w'
  c1 : Calls Tryd.prog 14 #[.pointer (some ⟨g, 0, none⟩), .string a.ac.nm, .int .i64 a.ac.z] y fun r w' => ∃ e, r = .returned (.int .i64 e) ∧ Sta CD B w' g (n + 1) (ctO D a.ac.nm a.ac.z).1 S ∧ Below B y w' ∧ Std S y w'
  c2 : Calls Tryd.prog 15 #[.pointer (some ⟨g, 0, none⟩), .string a.ac.nm] y fun r w' => ∃ e, r = .returned (.int .i64 e) ∧ Sta CD B w' g (n + 1) (syO D a.ac.nm).1 S ∧ Below B y w' ∧ Std S y w'
  c3 : Calls Tryd.prog 16 #[.pointer (some ⟨g, 0, none⟩), .string a.ac.nm, .string a.ac.to] y fun r w' => ∃ e, r = .returned (.int .i64 e) ∧ Sta CD B w' g (n + 1) (rnO D a.ac.nm a.ac.to).1 S ∧ Below B y w' ∧ Std S y w'
  c4 : Calls Tryd.prog 17 #[.pointer (some ⟨g, 0, none⟩), .string a.ac.nm] y fun r w' => ∃ e, r = .returned (.int .i64 e) ∧ Sta CD B w' g (n + 1) (rmO D a.ac.nm).1 S ∧ Below B y w' ∧ Std S y w'
theorem five_of {U : Prop} {CD : CDT} {B g n : Nat} {y : World} {D : Dk} {a : AT} {S : Nat → Prop} (Fa : Face U CD) (h : Sta CD B y g n D S) (hB : B ≤ y.heap.size) (hn : n ≤ 1048576) (ha : a.In0 B y) (hl : a.ac.b.length ≤ 1099511627776) : Five CD B y g n D a S := by
  refine ⟨h.appArg Fa hB hn ha hl, ?_, ?_, ?_, ?_⟩
  · exact (h.cut Fa hB hn ha.l3 rfl).mono fun r w' q => ⟨_, q.1, q.2.1, q.2.2.1, q.2.2.2⟩
  · exact (h.sync Fa hB hn ha.l3 rfl).mono fun r w' q => ⟨_, q.1, q.2.1, q.2.2.1, q.2.2.2⟩
  · exact (h.rename Fa hB hn ha.l3 ha.l4 rfl).mono fun r w' q => ⟨_, q.1, q.2.1, q.2.2.1, q.2.2.2⟩
  · exact (h.remove Fa hB hn ha.l3).mono fun r w' q => ⟨_, q.1, q.2.1, q.2.2.1, q.2.2.2⟩
set_option maxRecDepth 100000 in
set_option maxHeartbeats 12800000 in
theorem plays_of {U : Prop} {CD : CDT} (Fa : Face U CD) (B g n : Nat) (D : Dk) (S : Nat → Prop) (aa : Option Addr) (c : Nat) (al : List AT) (w : World) (hs : Sta CD B w g n D S) (hB : B ≤ w.heap.size) (hrow : RowX eA w aa al) (hbb : ∀ ad, aa = some ad → ad.block < B) (hin : ∀ a ∈ al, a.In0 B w) (hlc : al.length ≤ c) (hl : n + al.length ≤ 1048576) :
    Calls Tryd.prog 28 #[.pointer (some ⟨g, 0, none⟩), .slice aa al.length c] w fun r w' => r = .returned (.bool (al.all fun a => plOk a.ac)) ∧ Below B w w' ∧ Std S w w' ∧ ((al.all fun a => plOk a.ac) = true → Sta CD B w' g (n + al.length) (plD D al) S) := by
  obtain ⟨R, hR⟩ : ∃ R, Hid (R = al.all fun a => plOk a.ac) := ⟨_, (rfl : _ = al.all fun a => plOk a.ac)⟩
  rw [← hR.out]
  obtain ⟨m, hm⟩ : ∃ m, Hid (m = al.length) := ⟨_, (rfl : al.length = _)⟩
  have HH := hidU (And.intro hs (And.intro hrow (And.intro hbb hin)))
  rw [← hm.out] at hlc hl ⊢
  clear hs hrow hbb hin
  go_enter Tryd.func28, Tryd.ntmps28
  go_wp2
  go_loopw [5] (fun j wr => ∃ i : Nat, j = .int .i64 (i : Int) ∧ i ≤ m ∧ Hid (Below B w wr) ∧ Hid (Std S w wr) ∧ Hid (Sta CD B wr g (n + i) (plD D (al.take i)) S) ∧ Hid (∀ q a, q < i → al[q]? = some a → plOk a.ac = true)) (fun j _ => m - (intOf j).toNat)
  case atStart => exact ⟨0, rfl, by omega, Below.refl _ _, fun _ _ => rfl, HH.out.1, fun q a h => by omega⟩
  case round =>
    obtain ⟨i, rfl, hi, hBw, hSd, hS, hP⟩ := hrel
    by_cases hc : i < m
    · obtain ⟨a, ha⟩ : ∃ a, al[i]? = some a := ⟨_, List.getElem?_eq_getElem (by rw [← hm.out]; exact hc)⟩
      have HIN := hidU (HH.out.2.2.2 a (List.mem_of_getElem? ha))
      have HAt := hidU ha
      have hrow : RowX eA wr aa al := HH.out.2.1.same fun ad q => hBw.out.block _ (HH.out.2.2.1 ad q)
      obtain ⟨ka, oa, rfl, hr⟩ := hrow.at ha
      have HR := hidU hr
      clear hr hrow ha
      go_wp2_with (first | (refine wpList_loadA rfl (.tmp 15) rfl ka (oa + i * 6) a rfl HR.out ?_) | (refine wpList_alloc_at rfl 84 rfl _ _ z33 ?_; intro y1 hA1 hb1 hs1; refine Hid.out ?_))
      refine hidU ?_
      obtain ⟨gb, hgb⟩ : ∃ k, k = wr.heap.size := ⟨_, rfl⟩
      rw [← hgb]
      rw [← hgb] at hA1 hs1
      have HG := hidU hgb
      clear hgb
      go_wp2_with (refine wpList_store_at rfl 84 (.tmp 6) (.tmp 16) rfl gb a.cells rfl rfl 84 _ hA1 i33 rfl (AT.one a) ?_; intro y hAy hby hsy; refine Hid.out ?_)
      refine hidU ?_
      have HBr : Hid (Below wr.heap.size wr y) := hby.below hb1 (by have := HG.out; omega) hb1.size
      have hBr : B ≤ wr.heap.size := Nat.le_trans hB hBw.out.size
      have HBy := hidU (hBw.out.trans (HBr.out.mono hBr))
      have HSy := hidU (hS.out.below Fa HBr.out)
      have HSdy : Hid (Std S w y) := fun k hk => by rw [hS.out.std HBr.out k hk]; obtain ⟨W0, F0, _, _, q3⟩ := HH.out.1; exact hSd.out k hk
      have cb := ac4 hAy
      have ck := ac0 hAy
      have c1 := ac1 hAy
      have c2 := ac2 hAy
      have c3 := ac3 hAy
      obtain ⟨lb, hlb⟩ : ∃ x, Hid (x = a.ac.b.length) := ⟨_, (rfl : a.ac.b.length = _)⟩
      rw [← hlb.out] at cb
      have HSt : Hid (∀ D' : Dk, acD (plD D (al.take i)) a.ac = D' → plD D (al.take (i + 1)) = D') := fun D' q => by rw [List.take_add_one, HAt.out]; show plD D (al.take i ++ [a]) = _; rw [plD_snoc]; exact q
      have HPn : Hid (plOk a.ac = true → ∀ q b, q < i + 1 → al[q]? = some b → plOk b.ac = true) := fun hk q b hq hb => by
        by_cases hqi : q = i
        · subst hqi; rw [HAt.out] at hb; cases hb; exact hk
        · exact hP.out q b (by omega) hb
      have HBad : Hid (plOk a.ac = false → R = false) := fun hk => by
        rw [hR.out, List.all_eq_false]
        exact ⟨a, List.mem_of_getElem? HAt.out, by rw [hk]; simp⟩
      clear hA1 hb1 hs1 hby hsy hAy HR hS hSd HBr
      obtain ⟨kd, hkd⟩ : ∃ x, Hid (x = a.ac.kd) := ⟨_, (rfl : a.ac.kd = _)⟩
      rw [← hkd.out] at ck
      have HOk : Hid (plOk a.ac = (decide (lb ≤ 400) && decide (0 ≤ kd) && decide (kd ≤ 4))) := by show _ = _; rw [hlb.out, hkd.out]; rfl
      by_cases h4 : 400 < lb
      · have hRf := HBad.out (by rw [HOk.out]; simp; omega)
        subst hRf
        clear HBad HPn hP hR
        go_wp2
        go_ret
        first | exact ⟨rfl, HBy.out, HSdy.out⟩ | exact ⟨rfl, HBy.out, HSdy.out, fun q => by cases q⟩
      have h4d : decide ((400 : Int) < (lb : Int)) = false := decide_eq_false (by omega)
      have HF := hidU (five_of Fa HSy.out (Nat.le_trans hB HBy.out.size) (by omega) (HIN.out.below HBy.out) (by rw [← hlb.out]; omega))
      have HF0 := hidU HF.out.c0
      rw [← hlb.out] at HF0
      by_cases h0 : kd < 0
      · have hRf := HBad.out (by rw [HOk.out]; simp; omega)
        subst hRf
        clear HBad HPn hP hR
        go_wp2
        go_ret
        first | exact ⟨rfl, HBy.out, HSdy.out⟩ | exact ⟨rfl, HBy.out, HSdy.out, fun q => by cases q⟩
      have h0d : decide (kd < 0) = false := decide_eq_false h0
      by_cases h5 : 4 < kd
      · have hRf := HBad.out (by rw [HOk.out]; simp; omega)
        subst hRf
        clear HBad HPn hP hR
        go_wp2
        go_ret
        first | exact ⟨rfl, HBy.out, HSdy.out⟩ | exact ⟨rfl, HBy.out, HSdy.out, fun q => by cases q⟩
      have h5d : decide (4 < kd) = false := decide_eq_false h5
      have HPk := hidU (HPn.out (by rw [HOk.out]; simp; omega))
      have hkk : kd = 0 ∨ kd = 1 ∨ kd = 2 ∨ kd = 3 ∨ kd = 4 := by omega
      clear HBad HPn hP h0d h5d h0 h5
      rcases hkk with rfl | rfl | rfl | rfl | rfl
      · have HE := hidU (HSt.out (apO (plD D (al.take i)) a.ac.nm a.ac.b).1 (by unfold acD; rw [← hkd.out]; rfl))
        have HC := hidU (HF0.out)
        go_wp2_with (go_at_call 10; refine HC.out.mono ?_; rintro _ z1 ⟨e1, rfl, hsz, hbz, hdz⟩; refine Hid.out ?_)
        refine hidU ?_
        have HB2 := hidU (HBy.out.trans hbz)
        have HSd2 : Hid (Std S w z1) := fun k hk => (hdz k hk).trans (HSdy.out k hk)
        have HS2 : Hid (Sta CD B z1 g (n + (i + 1)) (plD D (al.take (i + 1))) S) := by show Sta _ _ _ _ _ _ _; rw [HE.out]; exact hsz
        clear hsz hbz hdz HC cb ck c1 c2 c3
        go_wp2
        go_roundw
        · exact ⟨i + 1, by go_num, by omega, HB2, HSd2, HS2, HPk⟩
        · simp [intOf]; omega
      · have HE := hidU (HSt.out (ctO (plD D (al.take i)) a.ac.nm a.ac.z).1 (by unfold acD; rw [← hkd.out]; rfl))
        have HC := hidU (HF.out.c1)
        go_wp2_with (go_at_call 14; refine HC.out.mono ?_; rintro _ z1 ⟨e1, rfl, hsz, hbz, hdz⟩; refine Hid.out ?_)
        refine hidU ?_
        have HB2 := hidU (HBy.out.trans hbz)
        have HSd2 : Hid (Std S w z1) := fun k hk => (hdz k hk).trans (HSdy.out k hk)
        have HS2 : Hid (Sta CD B z1 g (n + (i + 1)) (plD D (al.take (i + 1))) S) := by show Sta _ _ _ _ _ _ _; rw [HE.out]; exact hsz
        clear hsz hbz hdz HC cb ck c1 c2 c3
        go_wp2
        go_roundw
        · exact ⟨i + 1, by go_num, by omega, HB2, HSd2, HS2, HPk⟩
        · simp [intOf]; omega
      · have HE := hidU (HSt.out (syO (plD D (al.take i)) a.ac.nm).1 (by unfold acD; rw [← hkd.out]; rfl))
        have HC := hidU (HF.out.c2)
        go_wp2_with (go_at_call 15; refine HC.out.mono ?_; rintro _ z1 ⟨e1, rfl, hsz, hbz, hdz⟩; refine Hid.out ?_)
        refine hidU ?_
        have HB2 := hidU (HBy.out.trans hbz)
        have HSd2 : Hid (Std S w z1) := fun k hk => (hdz k hk).trans (HSdy.out k hk)
        have HS2 : Hid (Sta CD B z1 g (n + (i + 1)) (plD D (al.take (i + 1))) S) := by show Sta _ _ _ _ _ _ _; rw [HE.out]; exact hsz
        clear hsz hbz hdz HC cb ck c1 c2 c3
        go_wp2
        go_roundw
        · exact ⟨i + 1, by go_num, by omega, HB2, HSd2, HS2, HPk⟩
        · simp [intOf]; omega
      · have HE := hidU (HSt.out (rnO (plD D (al.take i)) a.ac.nm a.ac.to).1 (by unfold acD; rw [← hkd.out]; rfl))
        have HC := hidU (HF.out.c3)
        go_wp2_with (go_at_call 16; refine HC.out.mono ?_; rintro _ z1 ⟨e1, rfl, hsz, hbz, hdz⟩; refine Hid.out ?_)
        refine hidU ?_
        have HB2 := hidU (HBy.out.trans hbz)
        have HSd2 : Hid (Std S w z1) := fun k hk => (hdz k hk).trans (HSdy.out k hk)
        have HS2 : Hid (Sta CD B z1 g (n + (i + 1)) (plD D (al.take (i + 1))) S) := by show Sta _ _ _ _ _ _ _; rw [HE.out]; exact hsz
        clear hsz hbz hdz HC cb ck c1 c2 c3
        go_wp2
        go_roundw
        · exact ⟨i + 1, by go_num, by omega, HB2, HSd2, HS2, HPk⟩
        · simp [intOf]; omega
      · have HE := hidU (HSt.out (rmO (plD D (al.take i)) a.ac.nm).1 (by unfold acD; rw [← hkd.out]; rfl))
        have HC := hidU (HF.out.c4)
        go_wp2_with (go_at_call 17; refine HC.out.mono ?_; rintro _ z1 ⟨e1, rfl, hsz, hbz, hdz⟩; refine Hid.out ?_)
        refine hidU ?_
        have HB2 := hidU (HBy.out.trans hbz)
        have HSd2 : Hid (Std S w z1) := fun k hk => (hdz k hk).trans (HSdy.out k hk)
        have HS2 : Hid (Sta CD B z1 g (n + (i + 1)) (plD D (al.take (i + 1))) S) := by show Sta _ _ _ _ _ _ _; rw [HE.out]; exact hsz
        clear hsz hbz hdz HC cb ck c1 c2 c3
        go_wp2
        go_roundw
        · exact ⟨i + 1, by go_num, by omega, HB2, HSd2, HS2, HPk⟩
        · simp [intOf]; omega
    · have hRf : R = true := by
        rw [hR.out, List.all_eq_true]
        intro a ha
        obtain ⟨q, hq⟩ := List.getElem?_of_mem ha
        exact hP.out q a (by have := (List.getElem?_eq_some_iff.1 hq).1; rw [← hm.out] at this; omega) hq
      have him : i = m := by omega
      have HS : Hid (Sta CD B wr g (n + m) (plD D al) S) := by
        have := hS.out
        rw [List.take_of_length_le (by rw [← hm.out]; omega), him] at this
        exact this
      subst hRf
      clear hP hR hS him
      go_wp2
      go_ret
      exact ⟨rfl, hBw.out, hSd.out, HS.out⟩
end Go.Proofs.YtcmkjjlchljffaaDoor

/- DiskStops, the mathematics: a disk whose power ends is the disk of the calls ahead of it. -/
namespace Go.Proofs.YtcmkjjlchljffaaDoor
open Go.RowKit
set_option linter.unusedVariables false

/-- What a call makes of the files does not hang on the power, while there is some. -/
def aft (o : Option (List Fi)) (d : Dk) : Dk := if d.lf = 0 then d else match o with | none => d | some f => { pwD d with fs := f }
theorem aft_none (d : Dk) : aft none d = d := by unfold aft; split <;> rfl
theorem aft_off {o : Option (List Fi)} {d : Dk} (h : d.lf = 0) : aft o d = d := by unfold aft; rw [if_pos h]
theorem aft_some {f : List Fi} {d : Dk} (h : d.lf ≠ 0) : aft (some f) d = { pwD d with fs := f } := by unfold aft; rw [if_neg h]
def Sh (F : Dk → Dk) : Prop := ∀ sz fs, ∃ o : Option (List Fi), ∀ lf wr, F ⟨sz, fs, lf, wr⟩ = aft o ⟨sz, fs, lf, wr⟩
theorem sh_ap (nm : ByteArray) (b : List UInt8) : Sh fun d => (apO d nm b).1 := by
  intro sz fs
  by_cases h1 : nmOk nm = false
  · exact ⟨none, fun lf wr => by rw [aft_none]; simp only [apO, if_pos h1]⟩
  by_cases h2 : (fs.find? (isN nm) = none ∧ 256 ≤ fs.length) ∨ sz < usedL fs + b.length
  · exact ⟨none, fun lf wr => by rw [aft_none]; simp only [apO, if_neg h1, if_pos h2]⟩
  refine ⟨some (setL nm (fun f => { f with bs := f.bs ++ b }) (hasL nm fs)), fun lf wr => ?_⟩
  by_cases h3 : lf = 0
  · rw [aft_off (by exact h3)]; simp only [apO, if_neg h1, if_neg h2, if_pos h3]
  · rw [aft_some (by exact h3)]; simp only [apO, if_neg h1, if_neg h2, if_neg h3]
theorem sh_ct (nm : ByteArray) (z : Int) : Sh fun d => (ctO d nm z).1 := by
  intro sz fs
  cases h0 : fs.find? (isN nm) with
  | none => exact ⟨none, fun lf wr => by rw [aft_none]; simp only [ctO, h0]⟩
  | some f =>
    by_cases h1 : z < 0 ∨ (f.bs.length : Int) < z
    · exact ⟨none, fun lf wr => by rw [aft_none]; simp only [ctO, h0, if_pos h1]⟩
    by_cases h2 : f.sf < f.bs.length
    · exact ⟨none, fun lf wr => by rw [aft_none]; simp only [ctO, h0, if_neg h1, if_pos h2]⟩
    refine ⟨some (setL nm (fun f => { f with bs := f.bs.take z.toNat, sf := z.toNat, hd := true }) fs), fun lf wr => ?_⟩
    by_cases h3 : lf = 0
    · rw [aft_off (by exact h3)]; simp only [ctO, h0, if_neg h1, if_neg h2, if_pos h3]
    · rw [aft_some (by exact h3)]; simp only [ctO, h0, if_neg h1, if_neg h2, if_neg h3]
theorem sh_sy (nm : ByteArray) : Sh fun d => (syO d nm).1 := by
  intro sz fs
  by_cases h1 : (fs.find? (isN nm)).isNone
  · exact ⟨none, fun lf wr => by rw [aft_none]; simp only [syO, if_pos h1]⟩
  refine ⟨some (setL nm (fun f => { f with sf := f.bs.length, hd := true }) fs), fun lf wr => ?_⟩
  by_cases h3 : lf = 0
  · rw [aft_off (by exact h3)]; simp only [syO, if_neg h1, if_pos h3]
  · rw [aft_some (by exact h3)]; simp only [syO, if_neg h1, if_neg h3]
theorem sh_rm (nm : ByteArray) : Sh fun d => (rmO d nm).1 := by
  intro sz fs
  by_cases h1 : (fs.find? (isN nm)).isNone
  · exact ⟨none, fun lf wr => by rw [aft_none]; simp only [rmO, if_pos h1]⟩
  refine ⟨some (fs.filter fun f => !isN nm f), fun lf wr => ?_⟩
  by_cases h3 : lf = 0
  · rw [aft_off (by exact h3)]; simp only [rmO, if_neg h1, if_pos h3]
  · rw [aft_some (by exact h3)]; simp only [rmO, if_neg h1, if_neg h3]; rfl
theorem sh_rn (nm to : ByteArray) : Sh fun d => (rnO d nm to).1 := by
  intro sz fs
  by_cases h1 : nmOk to = false
  · exact ⟨none, fun lf wr => by rw [aft_none]; simp only [rnO, if_pos h1]⟩
  cases h0 : fs.find? (isN nm) with
  | none => exact ⟨none, fun lf wr => by rw [aft_none]; simp only [rnO, h0, if_neg h1]⟩
  | some f =>
    by_cases h2 : f.sf < f.bs.length
    · exact ⟨none, fun lf wr => by rw [aft_none]; simp only [rnO, h0, if_neg h1, if_pos h2]⟩
    by_cases h4 : nm.toList = to.toList
    · refine ⟨some fs, fun lf wr => ?_⟩
      by_cases h3 : lf = 0
      · rw [aft_off (by exact h3)]; simp only [rnO, h0, if_neg h1, if_neg h2, if_pos h3]
      · rw [aft_some (by exact h3)]; simp only [rnO, h0, if_neg h1, if_neg h2, if_neg h3, if_pos h4]; rfl
    refine ⟨some (putD (goneD (goneD ⟨sz, fs, 0, 0⟩ nm) to) { f with nm := to, hd := true }).fs, fun lf wr => ?_⟩
    by_cases h3 : lf = 0
    · rw [aft_off (by exact h3)]; simp only [rnO, h0, if_neg h1, if_neg h2, if_pos h3]
    · rw [aft_some (by exact h3)]; simp only [rnO, h0, if_neg h1, if_neg h2, if_neg h3, if_neg h4]; rfl
theorem sh_ac (a : Ac) (h : plOk a = true) : Sh fun d => acD d a := by
  have hk : a.kd = 0 ∨ a.kd = 1 ∨ a.kd = 2 ∨ a.kd = 3 ∨ a.kd = 4 := by
    simp only [plOk, Bool.and_eq_true, decide_eq_true_eq] at h; omega
  rcases hk with q | q | q | q | q
  · have e : (fun d => acD d a) = fun d => (apO d a.nm a.b).1 := by funext d; simp [acD, q]
    rw [e]; exact sh_ap _ _
  · have e : (fun d => acD d a) = fun d => (ctO d a.nm a.z).1 := by funext d; simp [acD, q]
    rw [e]; exact sh_ct _ _
  · have e : (fun d => acD d a) = fun d => (syO d a.nm).1 := by funext d; simp [acD, q]
    rw [e]; exact sh_sy _
  · have e : (fun d => acD d a) = fun d => (rnO d a.nm a.to).1 := by funext d; simp [acD, q]
    rw [e]; exact sh_rn _ _
  · have e : (fun d => acD d a) = fun d => (rmO d a.nm).1 := by funext d; simp [acD, q]
    rw [e]; exact sh_rm _
/-- The disk that plays call by call while fewer than p writes are done. -/
def stopAt (p : Int) : Dk → List AT → Dk
  | d, [] => d
  | d, a :: al => if (d.wr : Int) < p then stopAt p (acD d a.ac) al else d
theorem plD_off : ∀ (al : List AT) (d : Dk), d.lf = 0 → (∀ a ∈ al, plOk a.ac = true) → plD d al = d
  | [], d, _, _ => rfl
  | a :: al, d, h, ho => by
    obtain ⟨o, q⟩ := sh_ac a.ac (ho a List.mem_cons_self) d.sz d.fs
    have e : acD d a.ac = d := (q d.lf d.wr).trans (aft_off h)
    show plD (acD d a.ac) al = d
    rw [e]; exact plD_off al d h fun x hx => ho x (List.mem_cons_of_mem _ hx)
theorem stops_at (p : Int) : ∀ (al : List AT) (sz : Nat) (fs : List Fi) (wr : Nat), (wr : Int) ≤ p → (∀ a ∈ al, plOk a.ac = true) →
    (plD ⟨sz, fs, p - wr, wr⟩ al).fs = (stopAt p ⟨sz, fs, -1, wr⟩ al).fs ∧ (plD ⟨sz, fs, p - wr, wr⟩ al).wr = (stopAt p ⟨sz, fs, -1, wr⟩ al).wr
  | [], _, _, _, _, _ => ⟨rfl, rfl⟩
  | a :: al, sz, fs, wr, hp, ho => by
    by_cases h : (wr : Int) < p
    · obtain ⟨o, q⟩ := sh_ac a.ac (ho a List.mem_cons_self) sz fs
      have es : stopAt p ⟨sz, fs, -1, wr⟩ (a :: al) = stopAt p (acD ⟨sz, fs, -1, wr⟩ a.ac) al := if_pos h
      have ep : plD ⟨sz, fs, p - wr, wr⟩ (a :: al) = plD (acD ⟨sz, fs, p - wr, wr⟩ a.ac) al := rfl
      rw [es, ep, show acD ⟨sz, fs, -1, wr⟩ a.ac = _ from q (-1) wr, show acD ⟨sz, fs, p - wr, wr⟩ a.ac = _ from q (p - wr) wr]
      cases o with
      | none => rw [aft_none, aft_none]; exact stops_at p al sz fs wr hp fun x hx => ho x (List.mem_cons_of_mem _ hx)
      | some f =>
        have e1 : aft (some f) ⟨sz, fs, p - wr, wr⟩ = ⟨sz, f, p - ((wr + 1 : Nat) : Int), wr + 1⟩ := by
          rw [aft_some (by show p - (wr : Int) ≠ 0; omega)]
          simp only [pwD]; rw [if_pos (by omega)]; congr 1; push_cast; omega
        have e2 : aft (some f) ⟨sz, fs, -1, wr⟩ = ⟨sz, f, -1, wr + 1⟩ := by
          rw [aft_some (by show (-1 : Int) ≠ 0; omega)]
          simp only [pwD]; rw [if_neg (by omega)]
        rw [e1, e2]
        exact stops_at p al sz f (wr + 1) (by push_cast; omega) fun x hx => ho x (List.mem_cons_of_mem _ hx)
    · have es : stopAt p ⟨sz, fs, -1, wr⟩ (a :: al) = ⟨sz, fs, -1, wr⟩ := if_neg h
      rw [es, plD_off (a :: al) ⟨sz, fs, p - wr, wr⟩ (by show p - (wr : Int) = 0; omega) ho]
      exact ⟨rfl, rfl⟩

end Go.Proofs.YtcmkjjlchljffaaDoor

/- DiskKeeps, the mathematics: what a crash leaves of a file. -/
namespace Go.Proofs.YtcmkjjlchljffaaDoor
open Go.RowKit
set_option linter.unusedVariables false

theorem crOne_nm (torn : List Int) (k : Nat) (f : Fi) : (crOne torn k f).1.nm = f.nm := by unfold crOne; split <;> rfl
theorem crOne_bs (torn : List Int) (k : Nat) (f : Fi) (h : f.sf ≤ f.bs.length) : ∃ m, (crOne torn k f).1.bs = f.bs.take m ∧ f.sf ≤ m ∧ (crOne torn k f).1.sf = (crOne torn k f).1.bs.length := by
  by_cases q : f.sf < f.bs.length
  · exact ⟨f.sf + kpN torn k (f.bs.length - f.sf), by unfold crOne; rw [if_pos q], by omega, by unfold crOne; rw [if_pos q]⟩
  · refine ⟨f.bs.length, ?_, h, ?_⟩
    · unfold crOne; rw [if_neg q]; exact (List.take_length).symm
    · unfold crOne; rw [if_neg q]; show f.sf = f.bs.length; omega
theorem crL_cons (torn : List Int) (k : Nat) (f : Fi) (fs : List Fi) : crL torn k (f :: fs) = (if crK torn k f then [(crOne torn k f).1] else []) ++ crL torn (crOne torn k f).2 fs := rfl
theorem crL_nm (torn : List Int) : ∀ (fs : List Fi) (k : Nat) (g : Fi), g ∈ crL torn k fs → ∃ f ∈ fs, g.nm = f.nm
  | [], _, g, h => by simp [crL] at h
  | f :: fs, k, g, h => by
    rw [crL_cons, List.mem_append] at h
    rcases h with h | h
    · split at h
      · simp at h; subst h; exact ⟨f, List.mem_cons_self, crOne_nm torn k f⟩
      · simp at h
    · obtain ⟨f', q, e⟩ := crL_nm torn fs _ g h
      exact ⟨f', List.mem_cons_of_mem _ q, e⟩
theorem isN_nm {nm : ByteArray} {f g : Fi} (h : g.nm = f.nm) : isN nm g = isN nm f := by unfold isN; rw [h]
theorem crL_off (torn : List Int) (fs : List Fi) (k : Nat) (nm : ByteArray) (h : ∀ f ∈ fs, isN nm f = false) : (crL torn k fs).find? (isN nm) = none := by
  rw [List.find?_eq_none]
  intro g hg
  obtain ⟨f, q, e⟩ := crL_nm torn fs k g hg
  rw [isN_nm e, h f q]; simp
theorem isN_symm (f g : Fi) (h : isN f.nm g = false) : isN g.nm f = false := by
  unfold isN at h ⊢
  rw [Bool.eq_false_iff] at h ⊢
  intro q
  exact h (by rw [beq_iff_eq] at q ⊢; exact q.symm)
/-- What is found behind a crash. -/
theorem cr_find (torn : List Int) : ∀ (fs : List Fi) (k : Nat), fs.Pairwise (fun a b => isN a.nm b = false) → (∀ f ∈ fs, f.sf ≤ f.bs.length) → ∀ f ∈ fs,
    ((crL torn k fs).find? (isN f.nm) = none ∧ f.sf = 0) ∨ ∃ g m, (crL torn k fs).find? (isN f.nm) = some g ∧ g.bs = f.bs.take m ∧ f.sf ≤ m ∧ g.sf = g.bs.length
  | [], _, _, _, f, h => by simp at h
  | a :: fs, k, hp, hs, f, h => by
    obtain ⟨hp1, hp2⟩ := List.pairwise_cons.1 hp
    rw [crL_cons]
    rcases List.mem_cons.1 h with e | e
    · subst e
      obtain ⟨m, hm, hl, hz⟩ := crOne_bs torn k f (hs f List.mem_cons_self)
      by_cases q : crK torn k f
      · rw [if_pos q]
        refine .inr ⟨(crOne torn k f).1, m, ?_, hm, hl, hz⟩
        rw [List.cons_append, List.find?_cons_of_pos]
        exact (isN_nm (crOne_nm torn k f)).trans (isN_self f.nm f.bs f.sf f.hd)
      · rw [if_neg q, List.nil_append, crL_off torn fs _ _ hp1]
        refine .inl ⟨rfl, ?_⟩
        have q0 : ¬ 0 < (crOne torn k f).1.bs.length := fun x => q (by unfold crK; rw [decide_eq_true x, Bool.or_true, Bool.or_true])
        rw [hm, List.length_take] at q0
        have := hs f List.mem_cons_self
        omega
    · have hn : isN f.nm a = false := isN_symm _ _ (hp1 f e)
      have hr := cr_find torn fs (crOne torn k a).2 hp2 (fun x hx => hs x (List.mem_cons_of_mem _ hx)) f e
      by_cases q : crK torn k a
      · rw [if_pos q, List.cons_append, List.find?_cons_of_neg (by rw [isN_nm (g := (crOne torn k a).1) (f := a) (crOne_nm torn k a), hn]; simp), List.nil_append]
        exact hr
      · rw [if_neg q, List.nil_append]; exact hr
/-- How many of the files are there behind it. -/
theorem cr_count (torn : List Int) : ∀ (fs : List Fi) (k : Nat), fs.Pairwise (fun a b => isN a.nm b = false) →
    (fs.filter fun f => ((crL torn k fs).find? (isN f.nm)).isSome).length = (crL torn k fs).length
  | [], _, _ => rfl
  | a :: fs, k, hp => by
    obtain ⟨hp1, hp2⟩ := List.pairwise_cons.1 hp
    have ih := cr_count torn fs (crOne torn k a).2 hp2
    rw [crL_cons]
    by_cases q : crK torn k a
    · rw [if_pos q, List.cons_append, List.nil_append, List.filter_cons_of_pos, List.length_cons, List.length_cons, ← ih]
      · congr 2
        apply List.filter_congr
        intro f hf
        rw [List.find?_cons_of_neg (by rw [isN_nm (g := (crOne torn k a).1) (f := a) (crOne_nm torn k a), isN_symm _ _ (hp1 f hf)]; simp)]
      · rw [List.find?_cons_of_pos ((isN_nm (g := (crOne torn k a).1) (f := a) (crOne_nm torn k a)).trans (isN_self a.nm a.bs a.sf a.hd))]; rfl
    · rw [if_neg q, List.nil_append, List.filter_cons_of_neg, ih]
      rw [crL_off torn fs _ _ hp1]; simp
/-- Names in order are apart. -/
theorem Sorted.apart {fs : List Fi} (h : Sorted fs) : fs.Pairwise (fun a b => isN a.nm b = false) := by
  refine List.Pairwise.imp ?_ h
  intro a b q
  rw [Bool.eq_false_iff]
  intro e
  unfold isN at e
  rw [beq_iff_eq] at e
  have q' : Op.bytesLess a.nm.toList b.nm.toList = true := q
  rw [e, bl_irr] at q'
  cases q'
theorem find_self : ∀ {fs : List Fi}, fs.Pairwise (fun a b => isN a.nm b = false) → ∀ f ∈ fs, fs.find? (isN f.nm) = some f
  | [], _, f, h => by simp at h
  | a :: fs, hp, f, h => by
    obtain ⟨hp1, hp2⟩ := List.pairwise_cons.1 hp
    rcases List.mem_cons.1 h with e | e
    · subst e; exact List.find?_cons_of_pos (isN_self f.nm f.bs f.sf f.hd)
    · rw [List.find?_cons_of_neg (by rw [isN_symm _ _ (hp1 f e)]; simp)]
      exact find_self hp2 f e
end Go.Proofs.YtcmkjjlchljffaaDoor
