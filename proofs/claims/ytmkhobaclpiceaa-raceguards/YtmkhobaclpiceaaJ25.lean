/- The given answer's Pending. -/
import Derived.Test.YtmkhobaclpiceaaJ17
namespace Go.Proofs.Ytmkhobaclpiceaa
open Go.RowKit
set_option linter.unusedVariables false
attribute [local go_sem ↓] Go.wp_at_zero Go.wp_at_succ

theorem rowEv_one {w : World} {g : Nat} {e : Ev} (h : At 24 w g e.cells) : RowEv w (some ⟨g, 0, none⟩) [e] := rowEv_of (by simpa [flatE] using h)

set_option maxRecDepth 100000 in
set_option maxHeartbeats 6400000 in
theorem refPending_bad (es : List Ev) (n : Int) (e : Ev) (a : Option Addr) (c : Nat) (w : World) (hE : RowEv w a es) (hl : es.length ≤ 1048000) (hc : es.length ≤ c) (hnil : a = none → c = 0) (hw : wrongZ (es ++ [e]) n ≠ 0) :
    Calls Try.prog 13 #[.slice a es.length c, .int .i64 n, .agg e.cells.toArray] w fun r w' => r = .returned (.tuple #[.slice none 0 0, .int .i64 (wrongZ (es ++ [e]) n)]) ∧ Below w.heap.size w w' := by
  obtain ⟨R, hRw⟩ : ∃ R, Hid (R = wrongZ (es ++ [e]) n) := ⟨_, (rfl : _ = wrongZ _ _)⟩
  have hR0 : R ≠ 0 := by rw [hRw.out]; exact hw
  rw [← hRw.out]
  clear hw
  obtain ⟨m, hm⟩ : ∃ m, Hid (m = es.length) := ⟨_, (rfl : _ = es.length)⟩
  have hl8 : Hid ((es ++ [e]).length = m + 1) := by show _ = _; rw [List.length_append, ← hm.out]; rfl
  rw [← hm.out] at hl hc ⊢
  obtain ⟨et, ek, eo⟩ := e
  simp only [Ev.cells]
  go_enter Try.func13, Try.ntmps13
  go_wp2_with (first | (refine wpList_box_at rfl 24 (.tmp 2) rfl [.int .i64 et, .int .i64 ek, .int .i64 eo] rfl ?_; intro w1 hA1 hb1 hs1))
  have HR : Hid (RowEv w1 a es) := hE.below hb1
  have HB1 : Hid (Below w.heap.size w w1) := hb1
  obtain ⟨b5, hb5⟩ : ∃ b, b = w.heap.size := ⟨_, rfl⟩
  rw [← hb5] at hA1 ⊢
  have e0 : w1.cell? ⟨b5, 0, none⟩ = some (.int .i64 et) := hA1.cell 0
  have e1 : w1.cell? ⟨b5, 1, none⟩ = some (.int .i64 ek) := hA1.cell 1
  have e2 : w1.cell? ⟨b5, 2, none⟩ = some (.int .i64 eo) := hA1.cell 2
  clear hA1 hb1 hs1 hb5 hE
  go_wp2_with fail
  have hS0a : Below w1.heap.size w1 w1.drew := Below.drew (Below.refl _ _)
  refine wp_region_held_drew (S := fun xS => Below w1.heap.size w1 xS) (by kernel_rfl) hS0a ?_
  obtain ⟨x0a, hx0⟩ : ∃ x, x = w1.drew := ⟨_, rfl⟩
  rw [← hx0] at hS0a  ⊢
  clear hx0
  intro _
  refine wpAnyH_take (i := 1) (oi := { dst := some 14, op := .move (.tmp 0), type := _, pos := _, after := _, guard := none }) (v := .slice a m c) rfl (by kernel_rfl) (by kernel_rfl) (by kernel_rfl) (fun _ _ _ h => h) (Or.inl ⟨by rfl, ?_⟩) hS0a ?_
  · intro wS hSw
    go_simp
  simp only [Act.put, List.setIfInBounds_toArray, List.set_cons_zero, List.set_cons_succ]
  refine wpAnyH_take (i := 3) (oi := { dst := some 16, op := .load 24 (.tmp 5), type := _, pos := _, after := _, guard := none }) (v := .agg #[.int .i64 et, .int .i64 ek, .int .i64 eo]) rfl (by kernel_rfl) (by kernel_rfl) (by kernel_rfl) (fun _ _ _ h => h) (Or.inl ⟨by rfl, ?_⟩) hS0a ?_
  · intro wS hSw
    have z0 := (hSw.cell (lt_of_cell e0)).trans e0
    have z1 := (hSw.cell (lt_of_cell e1)).trans e1
    have z2 := (hSw.cell (lt_of_cell e2)).trans e2
    go_simp
  simp only [Act.put, List.setIfInBounds_toArray, List.set_cons_zero, List.set_cons_succ]
  refine wpAnyH_ready (rs := [0, 4]) (by kernel_rfl) (by simp) ?_
  refine AllReadyH.cons (o := { dst := some 13, op := .buildSlice 22 0 #[], type := _, pos := _, after := _, guard := none }) rfl (fun K hK => ?_) (AllReadyH.cons (o := { dst := some 17, op := .buildSlice 22 1 #[(0, .tmp 16)], type := _, pos := _, after := _, guard := none }) rfl (fun K hK => ?_) AllReadyH.nil)
  · skip
    rw [if_pos (by rfl)]
    refine wp_layE0 rfl ?_
    intro x1a hO1a hb1a lt1a
    have hS1a := hS0a.trans (hb1a.mono hS0a.size)
    refine hK.out _ _ hS1a (fun _ => ?_)
    clear hK K
    refine wpAnyH_ready (rs := [2, 4]) (by kernel_rfl) (by simp) ?_
    refine AllReadyH.cons (o := { dst := some 15, op := .call { callee := .builtin .append, args := #[.tmp 13, .tmp 14], argTypes := #[22, 22] }, type := _, pos := _, after := _, guard := none }) rfl (fun K hK => ?_) (AllReadyH.cons (o := { dst := some 17, op := .buildSlice 22 1 #[(0, .tmp 16)], type := _, pos := _, after := _, guard := none }) rfl (fun K hK => ?_) AllReadyH.nil)
    · skip
      rw [if_pos (by rfl)]
      have ho2a : OwnE x0a.heap.size x1a (.slice (some ⟨x0a.heap.size, 0, none⟩) 0 0) [] := hO1a
      have hs2a : x0a.heap.size ≤ x1a.heap.size := by have := hb1a.size; have := hS0a.size; omega
      refine wp_appE (.tmp 13) (.tmp 14) rfl x0a.heap.size _ [] es a m c rfl rfl ho2a hm.out.symm hnil hc (HR.out.below hS1a) (by show 0 + m ≤ 1048576; omega) hs2a ?_
      intro v2a x2a hO2a hbb2a hk2a le2a
      rw [List.nil_append] at hO2a
      have hb2a : Below w1.heap.size x1a x2a := hbb2a.mono (by have := lt1a; have := hb1a.size; have := hS0a.size; omega)
      have hS2a := hS1a.trans hb2a
      refine hK.out _ _ hS2a (fun _ => ?_)
      clear hK K
      refine wpAnyH_ready (rs := [4]) (by kernel_rfl) (by simp) ?_
      refine AllReadyH.cons (o := { dst := some 17, op := .buildSlice 22 1 #[(0, .tmp 16)], type := _, pos := _, after := _, guard := none }) rfl (fun K hK => ?_) AllReadyH.nil
      rw [if_pos (by rfl)]
      refine wp_layE1 (.tmp 16) rfl ⟨et, ek, eo⟩ rfl ?_
      intro x3a hE3a hb3a lt3a
      have hS3a := hS2a.trans (hb3a.mono hS2a.size)
      refine hK.out _ _ hS3a (fun _ => ?_)
      clear hK K
      refine wpAnyH_ready (rs := [5]) (by kernel_rfl) (by simp) ?_
      refine AllReadyH.cons (o := { dst := some 18, op := .call { callee := .builtin .append, args := #[.tmp 15, .tmp 17], argTypes := #[22, 22] }, type := _, pos := _, after := _, guard := none }) rfl (fun K hK => ?_) AllReadyH.nil
      rw [if_pos (by rfl)]
      have hx4a : At 24 x3a x2a.heap.size (Ev.cells ⟨et, ek, eo⟩) := hE3a
      have hs4a : x0a.heap.size ≤ x3a.heap.size := by have := hb1a.size; have := le2a; have := hb3a.size; omega
      refine wp_appE (.tmp 15) (.tmp 17) rfl x0a.heap.size _ es [⟨et, ek, eo⟩] (some ⟨x2a.heap.size, 0, none⟩) 1 1 rfl rfl (hO2a.below hb3a) rfl (fun h => by cases h) (Nat.le_refl _) (rowEv_one hx4a) (by rw [← hm.out]; omega) hs4a ?_
      intro v4a x4a hO4a hbb4a hk4a le4a
      have hb4a : Below w1.heap.size x3a x4a := hbb4a.mono (by have := lt1a; have := hS0a.size; have := hb1a.size; have := hb3a.size; omega)
      have hS4a := hS3a.trans hb4a
      refine hK.out _ _ hS4a (fun _ => ?_)
      clear hK K
      refine wpAnyH_take (i := 6) (oi := { dst := some 8, op := .assign (.tmp 18), type := _, pos := _, after := _, guard := none }) (v := v4a) rfl (by kernel_rfl) (by kernel_rfl) (by kernel_rfl) (fun _ _ _ h => h) (Or.inl ⟨by rfl, ?_⟩) hS4a ?_
      · intro wS hSw
        go_simp
      simp only [Act.put, List.setIfInBounds_toArray, List.set_cons_zero, List.set_cons_succ]
      refine wpAnyH_done (by kernel_rfl) ?_ _
      have hB8 : Below w1.heap.size w1 x4a := hS4a
      obtain ⟨a8, c8, hv8, hc8, hr8⟩ := hO4a.row
      rw [hl8.out] at hv8 hc8
      obtain ⟨w8, hw8⟩ : ∃ u, u = x4a := ⟨_, rfl⟩
      rw [← hw8] at hB8 hr8 ⊢
      rw [hv8]
      have HR8 : Hid (RowEv w8 a8 (es ++ [⟨et, ek, eo⟩])) := hr8
      have HB8 : Hid (Below w.heap.size w w8) := HB1.out.trans (hB8.mono HB1.out.size)
      clear hr8 hB8 hv8 hO4a hw8 hS4a hnil
      have HC : Hid (Calls Try.prog 9 #[.slice a8 (m + 1) c8, .int .i64 n] w8 fun r w' => r = .returned (.tuple #[.slice none 0 0, .int .i64 R]) ∧ Below w8.heap.size w8 w') := by
        have := refRaces_bad (es ++ [⟨et, ek, eo⟩]) n a8 c8 w8 HR8.out (by rw [hl8.out]; omega) (by rw [hl8.out]; exact hc8) (by rw [← hRw.out]; exact hR0)
        rw [hl8.out, ← hRw.out] at this
        exact this
      have hR1 : (R == 0) = false := by rw [beq_eq_false_iff_ne]; exact hR0
      go_wp2_with (first | (go_at_call 9; refine HC.out.mono ?_; rintro _ w9 ⟨rfl, hb9⟩))
      go_ret2
      exact ⟨rfl, HB8.out.trans (hb9.mono HB8.out.size)⟩
    · skip
      rw [if_pos (by rfl)]
      refine wp_layE1 (.tmp 16) rfl ⟨et, ek, eo⟩ rfl ?_
      intro x2a hE2a hb2a lt2a
      have hS2a := hS1a.trans (hb2a.mono hS1a.size)
      refine hK.out _ _ hS2a (fun _ => ?_)
      clear hK K
      refine wpAnyH_ready (rs := [2]) (by kernel_rfl) (by simp) ?_
      refine AllReadyH.cons (o := { dst := some 15, op := .call { callee := .builtin .append, args := #[.tmp 13, .tmp 14], argTypes := #[22, 22] }, type := _, pos := _, after := _, guard := none }) rfl (fun K hK => ?_) AllReadyH.nil
      rw [if_pos (by rfl)]
      have ho3a : OwnE x0a.heap.size x2a (.slice (some ⟨x0a.heap.size, 0, none⟩) 0 0) [] := (hO1a.below hb2a)
      have hs3a : x0a.heap.size ≤ x2a.heap.size := by have := hb1a.size; have := hb2a.size; have := hS0a.size; omega
      refine wp_appE (.tmp 13) (.tmp 14) rfl x0a.heap.size _ [] es a m c rfl rfl ho3a hm.out.symm hnil hc (HR.out.below hS2a) (by show 0 + m ≤ 1048576; omega) hs3a ?_
      intro v3a x3a hO3a hbb3a hk3a le3a
      rw [List.nil_append] at hO3a
      have hb3a : Below w1.heap.size x2a x3a := hbb3a.mono (by have := lt1a; have := hb1a.size; have := hb2a.size; have := hS0a.size; omega)
      have hS3a := hS2a.trans hb3a
      refine hK.out _ _ hS3a (fun _ => ?_)
      clear hK K
      refine wpAnyH_ready (rs := [5]) (by kernel_rfl) (by simp) ?_
      refine AllReadyH.cons (o := { dst := some 18, op := .call { callee := .builtin .append, args := #[.tmp 15, .tmp 17], argTypes := #[22, 22] }, type := _, pos := _, after := _, guard := none }) rfl (fun K hK => ?_) AllReadyH.nil
      rw [if_pos (by rfl)]
      have hx4a : At 24 x3a x1a.heap.size (Ev.cells ⟨et, ek, eo⟩) := (hk3a _ _ hE2a (fun h => by have h2 : x0a.heap.size = x1a.heap.size := Option.some.inj h; omega))
      have hs4a : x0a.heap.size ≤ x3a.heap.size := by have := hb1a.size; have := hb2a.size; have := le3a; omega
      refine wp_appE (.tmp 15) (.tmp 17) rfl x0a.heap.size _ es [⟨et, ek, eo⟩] (some ⟨x1a.heap.size, 0, none⟩) 1 1 rfl rfl hO3a rfl (fun h => by cases h) (Nat.le_refl _) (rowEv_one hx4a) (by rw [← hm.out]; omega) hs4a ?_
      intro v4a x4a hO4a hbb4a hk4a le4a
      have hb4a : Below w1.heap.size x3a x4a := hbb4a.mono (by have := lt1a; have := hS0a.size; have := hb1a.size; have := hb2a.size; omega)
      have hS4a := hS3a.trans hb4a
      refine hK.out _ _ hS4a (fun _ => ?_)
      clear hK K
      refine wpAnyH_take (i := 6) (oi := { dst := some 8, op := .assign (.tmp 18), type := _, pos := _, after := _, guard := none }) (v := v4a) rfl (by kernel_rfl) (by kernel_rfl) (by kernel_rfl) (fun _ _ _ h => h) (Or.inl ⟨by rfl, ?_⟩) hS4a ?_
      · intro wS hSw
        go_simp
      simp only [Act.put, List.setIfInBounds_toArray, List.set_cons_zero, List.set_cons_succ]
      refine wpAnyH_done (by kernel_rfl) ?_ _
      have hB8 : Below w1.heap.size w1 x4a := hS4a
      obtain ⟨a8, c8, hv8, hc8, hr8⟩ := hO4a.row
      rw [hl8.out] at hv8 hc8
      obtain ⟨w8, hw8⟩ : ∃ u, u = x4a := ⟨_, rfl⟩
      rw [← hw8] at hB8 hr8 ⊢
      rw [hv8]
      have HR8 : Hid (RowEv w8 a8 (es ++ [⟨et, ek, eo⟩])) := hr8
      have HB8 : Hid (Below w.heap.size w w8) := HB1.out.trans (hB8.mono HB1.out.size)
      clear hr8 hB8 hv8 hO4a hw8 hS4a hnil
      have HC : Hid (Calls Try.prog 9 #[.slice a8 (m + 1) c8, .int .i64 n] w8 fun r w' => r = .returned (.tuple #[.slice none 0 0, .int .i64 R]) ∧ Below w8.heap.size w8 w') := by
        have := refRaces_bad (es ++ [⟨et, ek, eo⟩]) n a8 c8 w8 HR8.out (by rw [hl8.out]; omega) (by rw [hl8.out]; exact hc8) (by rw [← hRw.out]; exact hR0)
        rw [hl8.out, ← hRw.out] at this
        exact this
      have hR1 : (R == 0) = false := by rw [beq_eq_false_iff_ne]; exact hR0
      go_wp2_with (first | (go_at_call 9; refine HC.out.mono ?_; rintro _ w9 ⟨rfl, hb9⟩))
      go_ret2
      exact ⟨rfl, HB8.out.trans (hb9.mono HB8.out.size)⟩
  · skip
    rw [if_pos (by rfl)]
    refine wp_layE1 (.tmp 16) rfl ⟨et, ek, eo⟩ rfl ?_
    intro x1a hE1a hb1a lt1a
    have hS1a := hS0a.trans (hb1a.mono hS0a.size)
    refine hK.out _ _ hS1a (fun _ => ?_)
    clear hK K
    refine wpAnyH_ready (rs := [0]) (by kernel_rfl) (by simp) ?_
    refine AllReadyH.cons (o := { dst := some 13, op := .buildSlice 22 0 #[], type := _, pos := _, after := _, guard := none }) rfl (fun K hK => ?_) AllReadyH.nil
    rw [if_pos (by rfl)]
    refine wp_layE0 rfl ?_
    intro x2a hO2a hb2a lt2a
    have hS2a := hS1a.trans (hb2a.mono hS1a.size)
    refine hK.out _ _ hS2a (fun _ => ?_)
    clear hK K
    refine wpAnyH_ready (rs := [2]) (by kernel_rfl) (by simp) ?_
    refine AllReadyH.cons (o := { dst := some 15, op := .call { callee := .builtin .append, args := #[.tmp 13, .tmp 14], argTypes := #[22, 22] }, type := _, pos := _, after := _, guard := none }) rfl (fun K hK => ?_) AllReadyH.nil
    rw [if_pos (by rfl)]
    have ho3a : OwnE x1a.heap.size x2a (.slice (some ⟨x1a.heap.size, 0, none⟩) 0 0) [] := hO2a
    have hs3a : x1a.heap.size ≤ x2a.heap.size := by have := hb1a.size; have := hb2a.size; have := hS0a.size; omega
    refine wp_appE (.tmp 13) (.tmp 14) rfl x1a.heap.size _ [] es a m c rfl rfl ho3a hm.out.symm hnil hc (HR.out.below hS2a) (by show 0 + m ≤ 1048576; omega) hs3a ?_
    intro v3a x3a hO3a hbb3a hk3a le3a
    rw [List.nil_append] at hO3a
    have hb3a : Below w1.heap.size x2a x3a := hbb3a.mono (by have := lt2a; have := hb1a.size; have := hb2a.size; have := hS0a.size; omega)
    have hS3a := hS2a.trans hb3a
    refine hK.out _ _ hS3a (fun _ => ?_)
    clear hK K
    refine wpAnyH_ready (rs := [5]) (by kernel_rfl) (by simp) ?_
    refine AllReadyH.cons (o := { dst := some 18, op := .call { callee := .builtin .append, args := #[.tmp 15, .tmp 17], argTypes := #[22, 22] }, type := _, pos := _, after := _, guard := none }) rfl (fun K hK => ?_) AllReadyH.nil
    rw [if_pos (by rfl)]
    have hx4a : At 24 x3a x0a.heap.size (Ev.cells ⟨et, ek, eo⟩) := (hk3a _ _ (hE1a.below hb2a) (fun h => by have h2 : x1a.heap.size = x0a.heap.size := Option.some.inj h; omega))
    have hs4a : x1a.heap.size ≤ x3a.heap.size := by have := hb1a.size; have := hb2a.size; have := le3a; omega
    refine wp_appE (.tmp 15) (.tmp 17) rfl x1a.heap.size _ es [⟨et, ek, eo⟩] (some ⟨x0a.heap.size, 0, none⟩) 1 1 rfl rfl hO3a rfl (fun h => by cases h) (Nat.le_refl _) (rowEv_one hx4a) (by rw [← hm.out]; omega) hs4a ?_
    intro v4a x4a hO4a hbb4a hk4a le4a
    have hb4a : Below w1.heap.size x3a x4a := hbb4a.mono (by have := lt2a; have := hS0a.size; have := hb1a.size; have := hb2a.size; omega)
    have hS4a := hS3a.trans hb4a
    refine hK.out _ _ hS4a (fun _ => ?_)
    clear hK K
    refine wpAnyH_take (i := 6) (oi := { dst := some 8, op := .assign (.tmp 18), type := _, pos := _, after := _, guard := none }) (v := v4a) rfl (by kernel_rfl) (by kernel_rfl) (by kernel_rfl) (fun _ _ _ h => h) (Or.inl ⟨by rfl, ?_⟩) hS4a ?_
    · intro wS hSw
      go_simp
    simp only [Act.put, List.setIfInBounds_toArray, List.set_cons_zero, List.set_cons_succ]
    refine wpAnyH_done (by kernel_rfl) ?_ _
    have hB8 : Below w1.heap.size w1 x4a := hS4a
    obtain ⟨a8, c8, hv8, hc8, hr8⟩ := hO4a.row
    rw [hl8.out] at hv8 hc8
    obtain ⟨w8, hw8⟩ : ∃ u, u = x4a := ⟨_, rfl⟩
    rw [← hw8] at hB8 hr8 ⊢
    rw [hv8]
    have HR8 : Hid (RowEv w8 a8 (es ++ [⟨et, ek, eo⟩])) := hr8
    have HB8 : Hid (Below w.heap.size w w8) := HB1.out.trans (hB8.mono HB1.out.size)
    clear hr8 hB8 hv8 hO4a hw8 hS4a hnil
    have HC : Hid (Calls Try.prog 9 #[.slice a8 (m + 1) c8, .int .i64 n] w8 fun r w' => r = .returned (.tuple #[.slice none 0 0, .int .i64 R]) ∧ Below w8.heap.size w8 w') := by
      have := refRaces_bad (es ++ [⟨et, ek, eo⟩]) n a8 c8 w8 HR8.out (by rw [hl8.out]; omega) (by rw [hl8.out]; exact hc8) (by rw [← hRw.out]; exact hR0)
      rw [hl8.out, ← hRw.out] at this
      exact this
    have hR1 : (R == 0) = false := by rw [beq_eq_false_iff_ne]; exact hR0
    go_wp2_with (first | (go_at_call 9; refine HC.out.mono ?_; rintro _ w9 ⟨rfl, hb9⟩))
    go_ret2
    exact ⟨rfl, HB8.out.trans (hb9.mono HB8.out.size)⟩

set_option maxRecDepth 100000 in
set_option maxHeartbeats 12800000 in
theorem refPending_ok (es : List Ev) (n : Int) (e : Ev) (a : Option Addr) (c : Nat) (w : World) (hE : RowEv w a es) (hl : es.length ≤ 1048000) (hc : es.length ≤ c) (hnil : a = none → c = 0) (hw : wrongZ (es ++ [e]) n = 0) :
    Calls Try.prog 13 #[.slice a es.length c, .int .i64 n, .agg e.cells.toArray] w fun r w' => ∃ v, r = .returned (.tuple #[v, .int .i64 0]) ∧ OwnI w.heap.size w' v (pendL (raceP (evAt (es ++ [e]))) es.length) ∧ Below w.heap.size w w' := by
  obtain ⟨-, -, hw3, -⟩ := wrongZ_ok hw
  have hw0 : Hid (wrongZ (es ++ [e]) n = 0) := hw
  obtain ⟨m, hm⟩ : ∃ m, Hid (m = es.length) := ⟨_, (rfl : _ = es.length)⟩
  have hl8 : Hid ((es ++ [e]).length = m + 1) := by show _ = _; rw [List.length_append, ← hm.out]; rfl
  rw [hl8.out] at hw3
  obtain ⟨PS, hPS⟩ : ∃ PS, Hid (PS = pairsL (raceP (evAt (es ++ [e]))) (m + 1)) := ⟨_, (rfl : _ = pairsL _ _)⟩
  obtain ⟨Z, hZ⟩ : ∃ Z, Hid (Z = pendL (raceP (evAt (es ++ [e]))) m) := ⟨_, (rfl : _ = pendL _ _)⟩
  obtain ⟨N, hN⟩ : ∃ N, Hid (N = PS.length) := ⟨_, (rfl : _ = PS.length)⟩
  have hNb : N ≤ 1048576 := by
    rw [hN.out, hPS.out]
    have h1 := pairsL_length (raceP (evAt (es ++ [e]))) (m + 1)
    have h2 := Nat.mul_le_mul hw3 hw3
    omega
  rw [← hm.out] at hl hc ⊢
  rw [← hZ.out]
  clear hw
  obtain ⟨et, ek, eo⟩ := e
  simp only [Ev.cells]
  go_enter Try.func13, Try.ntmps13
  go_wp2_with (first | (refine wpList_box_at rfl 24 (.tmp 2) rfl [.int .i64 et, .int .i64 ek, .int .i64 eo] rfl ?_; intro w1 hA1 hb1 hs1))
  have HR : Hid (RowEv w1 a es) := hE.below hb1
  have HB1 : Hid (Below w.heap.size w w1) := hb1
  obtain ⟨b5, hb5⟩ : ∃ b, b = w.heap.size := ⟨_, rfl⟩
  rw [← hb5] at hA1 ⊢
  have e0 : w1.cell? ⟨b5, 0, none⟩ = some (.int .i64 et) := hA1.cell 0
  have e1 : w1.cell? ⟨b5, 1, none⟩ = some (.int .i64 ek) := hA1.cell 1
  have e2 : w1.cell? ⟨b5, 2, none⟩ = some (.int .i64 eo) := hA1.cell 2
  clear hA1 hb1 hs1 hb5 hE
  go_wp2_with fail
  have hS0a : Below w1.heap.size w1 w1.drew := Below.drew (Below.refl _ _)
  refine wp_region_held_drew (S := fun xS => Below w1.heap.size w1 xS) (by kernel_rfl) hS0a ?_
  obtain ⟨x0a, hx0⟩ : ∃ x, x = w1.drew := ⟨_, rfl⟩
  rw [← hx0] at hS0a  ⊢
  clear hx0
  intro _
  refine wpAnyH_take (i := 1) (oi := { dst := some 14, op := .move (.tmp 0), type := _, pos := _, after := _, guard := none }) (v := .slice a m c) rfl (by kernel_rfl) (by kernel_rfl) (by kernel_rfl) (fun _ _ _ h => h) (Or.inl ⟨by rfl, ?_⟩) hS0a ?_
  · intro wS hSw
    go_simp
  simp only [Act.put, List.setIfInBounds_toArray, List.set_cons_zero, List.set_cons_succ]
  refine wpAnyH_take (i := 3) (oi := { dst := some 16, op := .load 24 (.tmp 5), type := _, pos := _, after := _, guard := none }) (v := .agg #[.int .i64 et, .int .i64 ek, .int .i64 eo]) rfl (by kernel_rfl) (by kernel_rfl) (by kernel_rfl) (fun _ _ _ h => h) (Or.inl ⟨by rfl, ?_⟩) hS0a ?_
  · intro wS hSw
    have z0 := (hSw.cell (lt_of_cell e0)).trans e0
    have z1 := (hSw.cell (lt_of_cell e1)).trans e1
    have z2 := (hSw.cell (lt_of_cell e2)).trans e2
    go_simp
  simp only [Act.put, List.setIfInBounds_toArray, List.set_cons_zero, List.set_cons_succ]
  refine wpAnyH_ready (rs := [0, 4]) (by kernel_rfl) (by simp) ?_
  refine AllReadyH.cons (o := { dst := some 13, op := .buildSlice 22 0 #[], type := _, pos := _, after := _, guard := none }) rfl (fun K hK => ?_) (AllReadyH.cons (o := { dst := some 17, op := .buildSlice 22 1 #[(0, .tmp 16)], type := _, pos := _, after := _, guard := none }) rfl (fun K hK => ?_) AllReadyH.nil)
  · skip
    rw [if_pos (by rfl)]
    refine wp_layE0 rfl ?_
    intro x1a hO1a hb1a lt1a
    have hS1a := hS0a.trans (hb1a.mono hS0a.size)
    refine hK.out _ _ hS1a (fun _ => ?_)
    clear hK K
    refine wpAnyH_ready (rs := [2, 4]) (by kernel_rfl) (by simp) ?_
    refine AllReadyH.cons (o := { dst := some 15, op := .call { callee := .builtin .append, args := #[.tmp 13, .tmp 14], argTypes := #[22, 22] }, type := _, pos := _, after := _, guard := none }) rfl (fun K hK => ?_) (AllReadyH.cons (o := { dst := some 17, op := .buildSlice 22 1 #[(0, .tmp 16)], type := _, pos := _, after := _, guard := none }) rfl (fun K hK => ?_) AllReadyH.nil)
    · skip
      rw [if_pos (by rfl)]
      have ho2a : OwnE x0a.heap.size x1a (.slice (some ⟨x0a.heap.size, 0, none⟩) 0 0) [] := hO1a
      have hs2a : x0a.heap.size ≤ x1a.heap.size := by have := hb1a.size; have := hS0a.size; omega
      refine wp_appE (.tmp 13) (.tmp 14) rfl x0a.heap.size _ [] es a m c rfl rfl ho2a hm.out.symm hnil hc (HR.out.below hS1a) (by show 0 + m ≤ 1048576; omega) hs2a ?_
      intro v2a x2a hO2a hbb2a hk2a le2a
      rw [List.nil_append] at hO2a
      have hb2a : Below w1.heap.size x1a x2a := hbb2a.mono (by have := lt1a; have := hb1a.size; have := hS0a.size; omega)
      have hS2a := hS1a.trans hb2a
      refine hK.out _ _ hS2a (fun _ => ?_)
      clear hK K
      refine wpAnyH_ready (rs := [4]) (by kernel_rfl) (by simp) ?_
      refine AllReadyH.cons (o := { dst := some 17, op := .buildSlice 22 1 #[(0, .tmp 16)], type := _, pos := _, after := _, guard := none }) rfl (fun K hK => ?_) AllReadyH.nil
      rw [if_pos (by rfl)]
      refine wp_layE1 (.tmp 16) rfl ⟨et, ek, eo⟩ rfl ?_
      intro x3a hE3a hb3a lt3a
      have hS3a := hS2a.trans (hb3a.mono hS2a.size)
      refine hK.out _ _ hS3a (fun _ => ?_)
      clear hK K
      refine wpAnyH_ready (rs := [5]) (by kernel_rfl) (by simp) ?_
      refine AllReadyH.cons (o := { dst := some 18, op := .call { callee := .builtin .append, args := #[.tmp 15, .tmp 17], argTypes := #[22, 22] }, type := _, pos := _, after := _, guard := none }) rfl (fun K hK => ?_) AllReadyH.nil
      rw [if_pos (by rfl)]
      have hx4a : At 24 x3a x2a.heap.size (Ev.cells ⟨et, ek, eo⟩) := hE3a
      have hs4a : x0a.heap.size ≤ x3a.heap.size := by have := hb1a.size; have := le2a; have := hb3a.size; omega
      refine wp_appE (.tmp 15) (.tmp 17) rfl x0a.heap.size _ es [⟨et, ek, eo⟩] (some ⟨x2a.heap.size, 0, none⟩) 1 1 rfl rfl (hO2a.below hb3a) rfl (fun h => by cases h) (Nat.le_refl _) (rowEv_one hx4a) (by rw [← hm.out]; omega) hs4a ?_
      intro v4a x4a hO4a hbb4a hk4a le4a
      have hb4a : Below w1.heap.size x3a x4a := hbb4a.mono (by have := lt1a; have := hS0a.size; have := hb1a.size; have := hb3a.size; omega)
      have hS4a := hS3a.trans hb4a
      refine hK.out _ _ hS4a (fun _ => ?_)
      clear hK K
      refine wpAnyH_take (i := 6) (oi := { dst := some 8, op := .assign (.tmp 18), type := _, pos := _, after := _, guard := none }) (v := v4a) rfl (by kernel_rfl) (by kernel_rfl) (by kernel_rfl) (fun _ _ _ h => h) (Or.inl ⟨by rfl, ?_⟩) hS4a ?_
      · intro wS hSw
        go_simp
      simp only [Act.put, List.setIfInBounds_toArray, List.set_cons_zero, List.set_cons_succ]
      refine wpAnyH_done (by kernel_rfl) ?_ _
      have hB8 : Below w1.heap.size w1 x4a := hS4a
      obtain ⟨a8, c8, hv8, hc8, hr8⟩ := hO4a.row
      rw [hl8.out] at hv8 hc8
      obtain ⟨w8, hw8⟩ : ∃ u, u = x4a := ⟨_, rfl⟩
      rw [← hw8] at hB8 hr8 ⊢
      rw [hv8]
      have HR8 : Hid (RowEv w8 a8 (es ++ [⟨et, ek, eo⟩])) := hr8
      have HB8 : Hid (Below w.heap.size w w8) := HB1.out.trans (hB8.mono HB1.out.size)
      clear hr8 hB8 hv8 hO4a hw8 hS4a hnil
      have HC : Hid (Calls Try.prog 9 #[.slice a8 (m + 1) c8, .int .i64 n] w8 fun r w' => ∃ a9 c9, r = .returned (.tuple #[.slice a9 N c9, .int .i64 0]) ∧ N ≤ c9 ∧ RowP w' a9 PS ∧ Below w8.heap.size w8 w') := by
        have := refRaces_ok (es ++ [⟨et, ek, eo⟩]) n a8 c8 w8 HR8.out (by rw [hl8.out]; exact hc8) hw0.out
        rw [hl8.out, ← hPS.out] at this
        refine this.mono fun r w' ⟨v, d1, d2, d3⟩ => ?_
        obtain ⟨a9, c9, rfl, f2, f3⟩ := d2.row
        rw [← hN.out] at d1 f2
        exact ⟨a9, c9, d1, f2, f3, d3⟩
      go_wp2_with (first | (go_at_call 9; refine HC.out.mono ?_; rintro _ w9 ⟨a9, c9, rfl, hc9, hr9, hb9⟩; refine Hid.out ?_))
      refine hidU ?_
      have HB9 : Hid (Below w.heap.size w w9) := HB8.out.trans (hb9.mono HB8.out.size)
      have HR9 : Hid (RowP w9 a9 PS) := hr9
      clear HC hb9 hr9 HB8 HR8
      go_wp2_with fail
      go_loopw [11, 12] (fun v t wr => ∃ k : Nat, k ≤ N ∧ t = .int .i64 k ∧ Hid (OwnI w9.heap.size wr v (pendTo m (PS.take k))) ∧ Hid (Below w9.heap.size w9 wr)) (fun _ t _ => N - (intOf t).toNat)
      case atStart => exact ⟨0, Nat.zero_le _, rfl, World.ownsRow_nil _ _ _ _, Below.refl _ _⟩
      case round =>
        obtain ⟨k, hk, rfl, hown, hbw⟩ := hrel
        by_cases hkN : k < N
        · obtain ⟨x, hx⟩ : ∃ x, PS[k]? = some x := ⟨PS[k]'(by rw [← hN.out]; exact hkN), by rw [List.getElem?_eq_getElem]⟩
          obtain ⟨g9, o9, rfl, q1, q2⟩ := (HR9.out.below hbw.out).at k x hx
          obtain ⟨xa, xb⟩ := x
          dsimp only at q1 q2
          have hpl : (pendTo m (PS.take k)).length ≤ 1048576 := by
            have h1 := pendTo_length m (PS.take k)
            have h2 := List.length_take_le k PS
            have := hNb
            omega
          have hsz := hbw.out.size
          by_cases hxm : xb = m
          · have hO2 := pendTo_yes hx hxm
            have HO2 : Hid (pendTo m (PS.take (k + 1)) = pendTo m (PS.take k) ++ [(xa : Int)]) := hO2
            have hxz : (xb : Int) = (m : Int) := by omega
            clear hO2 hx hxm
            go_wp2_with (first | (at_builtin; refine appI (.tmp 42) (.tmp 48) (xa : Int) w9.heap.size _ (pendTo m (PS.take k)) rfl rfl rfl rfl hown.out hpl hsz ?_; intro v6 w6 hown6 hb6))
            go_roundw
            case rel => exact ⟨k + 1, by omega, by go_num, (show OwnI _ _ _ _ by rw [HO2.out]; exact hown6), hbw.out.trans hb6⟩
            case measure => simp [intOf]; omega
          · have hO2 := pendTo_no hx (x := (xa, xb)) hxm
            have HO2 : Hid (pendTo m (PS.take (k + 1)) = pendTo m (PS.take k)) := hO2
            have hxz : ¬ (xb : Int) = (m : Int) := by omega
            have hxz2 : ((xb : Int) == (m : Int)) = false := by rw [beq_eq_false_iff_ne]; omega
            clear hO2 hx hxm
            go_wp2_with fail
            go_roundw
            case rel => exact ⟨k + 1, by omega, by go_num, (show OwnI _ _ _ _ by rw [HO2.out]; exact hown.out), hbw.out⟩
            case measure => simp [intOf]; omega
        · have hfin : Hid (pendTo m (PS.take k) = Z) := by
            show _ = _
            rw [hZ.out, List.take_of_length_le (by rw [← hN.out]; omega), hPS.out, pendTo_end]
          go_wp2_with fail
          go_ret2
          refine ⟨_, rfl, ?_, HB9.out.trans (hbw.out.mono HB9.out.size)⟩
          have h5 := hown.out
          rw [hfin.out] at h5
          obtain ⟨e0, e1 | ⟨g, cap, cur, e1, e2, e3⟩⟩ := h5
          · exact ⟨e0, .inl e1⟩
          · exact ⟨e0, .inr ⟨g, cap, cur, e1, Nat.le_trans HB9.out.size e2, e3⟩⟩
    · skip
      rw [if_pos (by rfl)]
      refine wp_layE1 (.tmp 16) rfl ⟨et, ek, eo⟩ rfl ?_
      intro x2a hE2a hb2a lt2a
      have hS2a := hS1a.trans (hb2a.mono hS1a.size)
      refine hK.out _ _ hS2a (fun _ => ?_)
      clear hK K
      refine wpAnyH_ready (rs := [2]) (by kernel_rfl) (by simp) ?_
      refine AllReadyH.cons (o := { dst := some 15, op := .call { callee := .builtin .append, args := #[.tmp 13, .tmp 14], argTypes := #[22, 22] }, type := _, pos := _, after := _, guard := none }) rfl (fun K hK => ?_) AllReadyH.nil
      rw [if_pos (by rfl)]
      have ho3a : OwnE x0a.heap.size x2a (.slice (some ⟨x0a.heap.size, 0, none⟩) 0 0) [] := (hO1a.below hb2a)
      have hs3a : x0a.heap.size ≤ x2a.heap.size := by have := hb1a.size; have := hb2a.size; have := hS0a.size; omega
      refine wp_appE (.tmp 13) (.tmp 14) rfl x0a.heap.size _ [] es a m c rfl rfl ho3a hm.out.symm hnil hc (HR.out.below hS2a) (by show 0 + m ≤ 1048576; omega) hs3a ?_
      intro v3a x3a hO3a hbb3a hk3a le3a
      rw [List.nil_append] at hO3a
      have hb3a : Below w1.heap.size x2a x3a := hbb3a.mono (by have := lt1a; have := hb1a.size; have := hb2a.size; have := hS0a.size; omega)
      have hS3a := hS2a.trans hb3a
      refine hK.out _ _ hS3a (fun _ => ?_)
      clear hK K
      refine wpAnyH_ready (rs := [5]) (by kernel_rfl) (by simp) ?_
      refine AllReadyH.cons (o := { dst := some 18, op := .call { callee := .builtin .append, args := #[.tmp 15, .tmp 17], argTypes := #[22, 22] }, type := _, pos := _, after := _, guard := none }) rfl (fun K hK => ?_) AllReadyH.nil
      rw [if_pos (by rfl)]
      have hx4a : At 24 x3a x1a.heap.size (Ev.cells ⟨et, ek, eo⟩) := (hk3a _ _ hE2a (fun h => by have h2 : x0a.heap.size = x1a.heap.size := Option.some.inj h; omega))
      have hs4a : x0a.heap.size ≤ x3a.heap.size := by have := hb1a.size; have := hb2a.size; have := le3a; omega
      refine wp_appE (.tmp 15) (.tmp 17) rfl x0a.heap.size _ es [⟨et, ek, eo⟩] (some ⟨x1a.heap.size, 0, none⟩) 1 1 rfl rfl hO3a rfl (fun h => by cases h) (Nat.le_refl _) (rowEv_one hx4a) (by rw [← hm.out]; omega) hs4a ?_
      intro v4a x4a hO4a hbb4a hk4a le4a
      have hb4a : Below w1.heap.size x3a x4a := hbb4a.mono (by have := lt1a; have := hS0a.size; have := hb1a.size; have := hb2a.size; omega)
      have hS4a := hS3a.trans hb4a
      refine hK.out _ _ hS4a (fun _ => ?_)
      clear hK K
      refine wpAnyH_take (i := 6) (oi := { dst := some 8, op := .assign (.tmp 18), type := _, pos := _, after := _, guard := none }) (v := v4a) rfl (by kernel_rfl) (by kernel_rfl) (by kernel_rfl) (fun _ _ _ h => h) (Or.inl ⟨by rfl, ?_⟩) hS4a ?_
      · intro wS hSw
        go_simp
      simp only [Act.put, List.setIfInBounds_toArray, List.set_cons_zero, List.set_cons_succ]
      refine wpAnyH_done (by kernel_rfl) ?_ _
      have hB8 : Below w1.heap.size w1 x4a := hS4a
      obtain ⟨a8, c8, hv8, hc8, hr8⟩ := hO4a.row
      rw [hl8.out] at hv8 hc8
      obtain ⟨w8, hw8⟩ : ∃ u, u = x4a := ⟨_, rfl⟩
      rw [← hw8] at hB8 hr8 ⊢
      rw [hv8]
      have HR8 : Hid (RowEv w8 a8 (es ++ [⟨et, ek, eo⟩])) := hr8
      have HB8 : Hid (Below w.heap.size w w8) := HB1.out.trans (hB8.mono HB1.out.size)
      clear hr8 hB8 hv8 hO4a hw8 hS4a hnil
      have HC : Hid (Calls Try.prog 9 #[.slice a8 (m + 1) c8, .int .i64 n] w8 fun r w' => ∃ a9 c9, r = .returned (.tuple #[.slice a9 N c9, .int .i64 0]) ∧ N ≤ c9 ∧ RowP w' a9 PS ∧ Below w8.heap.size w8 w') := by
        have := refRaces_ok (es ++ [⟨et, ek, eo⟩]) n a8 c8 w8 HR8.out (by rw [hl8.out]; exact hc8) hw0.out
        rw [hl8.out, ← hPS.out] at this
        refine this.mono fun r w' ⟨v, d1, d2, d3⟩ => ?_
        obtain ⟨a9, c9, rfl, f2, f3⟩ := d2.row
        rw [← hN.out] at d1 f2
        exact ⟨a9, c9, d1, f2, f3, d3⟩
      go_wp2_with (first | (go_at_call 9; refine HC.out.mono ?_; rintro _ w9 ⟨a9, c9, rfl, hc9, hr9, hb9⟩; refine Hid.out ?_))
      refine hidU ?_
      have HB9 : Hid (Below w.heap.size w w9) := HB8.out.trans (hb9.mono HB8.out.size)
      have HR9 : Hid (RowP w9 a9 PS) := hr9
      clear HC hb9 hr9 HB8 HR8
      go_wp2_with fail
      go_loopw [11, 12] (fun v t wr => ∃ k : Nat, k ≤ N ∧ t = .int .i64 k ∧ Hid (OwnI w9.heap.size wr v (pendTo m (PS.take k))) ∧ Hid (Below w9.heap.size w9 wr)) (fun _ t _ => N - (intOf t).toNat)
      case atStart => exact ⟨0, Nat.zero_le _, rfl, World.ownsRow_nil _ _ _ _, Below.refl _ _⟩
      case round =>
        obtain ⟨k, hk, rfl, hown, hbw⟩ := hrel
        by_cases hkN : k < N
        · obtain ⟨x, hx⟩ : ∃ x, PS[k]? = some x := ⟨PS[k]'(by rw [← hN.out]; exact hkN), by rw [List.getElem?_eq_getElem]⟩
          obtain ⟨g9, o9, rfl, q1, q2⟩ := (HR9.out.below hbw.out).at k x hx
          obtain ⟨xa, xb⟩ := x
          dsimp only at q1 q2
          have hpl : (pendTo m (PS.take k)).length ≤ 1048576 := by
            have h1 := pendTo_length m (PS.take k)
            have h2 := List.length_take_le k PS
            have := hNb
            omega
          have hsz := hbw.out.size
          by_cases hxm : xb = m
          · have hO2 := pendTo_yes hx hxm
            have HO2 : Hid (pendTo m (PS.take (k + 1)) = pendTo m (PS.take k) ++ [(xa : Int)]) := hO2
            have hxz : (xb : Int) = (m : Int) := by omega
            clear hO2 hx hxm
            go_wp2_with (first | (at_builtin; refine appI (.tmp 42) (.tmp 48) (xa : Int) w9.heap.size _ (pendTo m (PS.take k)) rfl rfl rfl rfl hown.out hpl hsz ?_; intro v6 w6 hown6 hb6))
            go_roundw
            case rel => exact ⟨k + 1, by omega, by go_num, (show OwnI _ _ _ _ by rw [HO2.out]; exact hown6), hbw.out.trans hb6⟩
            case measure => simp [intOf]; omega
          · have hO2 := pendTo_no hx (x := (xa, xb)) hxm
            have HO2 : Hid (pendTo m (PS.take (k + 1)) = pendTo m (PS.take k)) := hO2
            have hxz : ¬ (xb : Int) = (m : Int) := by omega
            have hxz2 : ((xb : Int) == (m : Int)) = false := by rw [beq_eq_false_iff_ne]; omega
            clear hO2 hx hxm
            go_wp2_with fail
            go_roundw
            case rel => exact ⟨k + 1, by omega, by go_num, (show OwnI _ _ _ _ by rw [HO2.out]; exact hown.out), hbw.out⟩
            case measure => simp [intOf]; omega
        · have hfin : Hid (pendTo m (PS.take k) = Z) := by
            show _ = _
            rw [hZ.out, List.take_of_length_le (by rw [← hN.out]; omega), hPS.out, pendTo_end]
          go_wp2_with fail
          go_ret2
          refine ⟨_, rfl, ?_, HB9.out.trans (hbw.out.mono HB9.out.size)⟩
          have h5 := hown.out
          rw [hfin.out] at h5
          obtain ⟨e0, e1 | ⟨g, cap, cur, e1, e2, e3⟩⟩ := h5
          · exact ⟨e0, .inl e1⟩
          · exact ⟨e0, .inr ⟨g, cap, cur, e1, Nat.le_trans HB9.out.size e2, e3⟩⟩
  · skip
    rw [if_pos (by rfl)]
    refine wp_layE1 (.tmp 16) rfl ⟨et, ek, eo⟩ rfl ?_
    intro x1a hE1a hb1a lt1a
    have hS1a := hS0a.trans (hb1a.mono hS0a.size)
    refine hK.out _ _ hS1a (fun _ => ?_)
    clear hK K
    refine wpAnyH_ready (rs := [0]) (by kernel_rfl) (by simp) ?_
    refine AllReadyH.cons (o := { dst := some 13, op := .buildSlice 22 0 #[], type := _, pos := _, after := _, guard := none }) rfl (fun K hK => ?_) AllReadyH.nil
    rw [if_pos (by rfl)]
    refine wp_layE0 rfl ?_
    intro x2a hO2a hb2a lt2a
    have hS2a := hS1a.trans (hb2a.mono hS1a.size)
    refine hK.out _ _ hS2a (fun _ => ?_)
    clear hK K
    refine wpAnyH_ready (rs := [2]) (by kernel_rfl) (by simp) ?_
    refine AllReadyH.cons (o := { dst := some 15, op := .call { callee := .builtin .append, args := #[.tmp 13, .tmp 14], argTypes := #[22, 22] }, type := _, pos := _, after := _, guard := none }) rfl (fun K hK => ?_) AllReadyH.nil
    rw [if_pos (by rfl)]
    have ho3a : OwnE x1a.heap.size x2a (.slice (some ⟨x1a.heap.size, 0, none⟩) 0 0) [] := hO2a
    have hs3a : x1a.heap.size ≤ x2a.heap.size := by have := hb1a.size; have := hb2a.size; have := hS0a.size; omega
    refine wp_appE (.tmp 13) (.tmp 14) rfl x1a.heap.size _ [] es a m c rfl rfl ho3a hm.out.symm hnil hc (HR.out.below hS2a) (by show 0 + m ≤ 1048576; omega) hs3a ?_
    intro v3a x3a hO3a hbb3a hk3a le3a
    rw [List.nil_append] at hO3a
    have hb3a : Below w1.heap.size x2a x3a := hbb3a.mono (by have := lt2a; have := hb1a.size; have := hb2a.size; have := hS0a.size; omega)
    have hS3a := hS2a.trans hb3a
    refine hK.out _ _ hS3a (fun _ => ?_)
    clear hK K
    refine wpAnyH_ready (rs := [5]) (by kernel_rfl) (by simp) ?_
    refine AllReadyH.cons (o := { dst := some 18, op := .call { callee := .builtin .append, args := #[.tmp 15, .tmp 17], argTypes := #[22, 22] }, type := _, pos := _, after := _, guard := none }) rfl (fun K hK => ?_) AllReadyH.nil
    rw [if_pos (by rfl)]
    have hx4a : At 24 x3a x0a.heap.size (Ev.cells ⟨et, ek, eo⟩) := (hk3a _ _ (hE1a.below hb2a) (fun h => by have h2 : x1a.heap.size = x0a.heap.size := Option.some.inj h; omega))
    have hs4a : x1a.heap.size ≤ x3a.heap.size := by have := hb1a.size; have := hb2a.size; have := le3a; omega
    refine wp_appE (.tmp 15) (.tmp 17) rfl x1a.heap.size _ es [⟨et, ek, eo⟩] (some ⟨x0a.heap.size, 0, none⟩) 1 1 rfl rfl hO3a rfl (fun h => by cases h) (Nat.le_refl _) (rowEv_one hx4a) (by rw [← hm.out]; omega) hs4a ?_
    intro v4a x4a hO4a hbb4a hk4a le4a
    have hb4a : Below w1.heap.size x3a x4a := hbb4a.mono (by have := lt2a; have := hS0a.size; have := hb1a.size; have := hb2a.size; omega)
    have hS4a := hS3a.trans hb4a
    refine hK.out _ _ hS4a (fun _ => ?_)
    clear hK K
    refine wpAnyH_take (i := 6) (oi := { dst := some 8, op := .assign (.tmp 18), type := _, pos := _, after := _, guard := none }) (v := v4a) rfl (by kernel_rfl) (by kernel_rfl) (by kernel_rfl) (fun _ _ _ h => h) (Or.inl ⟨by rfl, ?_⟩) hS4a ?_
    · intro wS hSw
      go_simp
    simp only [Act.put, List.setIfInBounds_toArray, List.set_cons_zero, List.set_cons_succ]
    refine wpAnyH_done (by kernel_rfl) ?_ _
    have hB8 : Below w1.heap.size w1 x4a := hS4a
    obtain ⟨a8, c8, hv8, hc8, hr8⟩ := hO4a.row
    rw [hl8.out] at hv8 hc8
    obtain ⟨w8, hw8⟩ : ∃ u, u = x4a := ⟨_, rfl⟩
    rw [← hw8] at hB8 hr8 ⊢
    rw [hv8]
    have HR8 : Hid (RowEv w8 a8 (es ++ [⟨et, ek, eo⟩])) := hr8
    have HB8 : Hid (Below w.heap.size w w8) := HB1.out.trans (hB8.mono HB1.out.size)
    clear hr8 hB8 hv8 hO4a hw8 hS4a hnil
    have HC : Hid (Calls Try.prog 9 #[.slice a8 (m + 1) c8, .int .i64 n] w8 fun r w' => ∃ a9 c9, r = .returned (.tuple #[.slice a9 N c9, .int .i64 0]) ∧ N ≤ c9 ∧ RowP w' a9 PS ∧ Below w8.heap.size w8 w') := by
      have := refRaces_ok (es ++ [⟨et, ek, eo⟩]) n a8 c8 w8 HR8.out (by rw [hl8.out]; exact hc8) hw0.out
      rw [hl8.out, ← hPS.out] at this
      refine this.mono fun r w' ⟨v, d1, d2, d3⟩ => ?_
      obtain ⟨a9, c9, rfl, f2, f3⟩ := d2.row
      rw [← hN.out] at d1 f2
      exact ⟨a9, c9, d1, f2, f3, d3⟩
    go_wp2_with (first | (go_at_call 9; refine HC.out.mono ?_; rintro _ w9 ⟨a9, c9, rfl, hc9, hr9, hb9⟩; refine Hid.out ?_))
    refine hidU ?_
    have HB9 : Hid (Below w.heap.size w w9) := HB8.out.trans (hb9.mono HB8.out.size)
    have HR9 : Hid (RowP w9 a9 PS) := hr9
    clear HC hb9 hr9 HB8 HR8
    go_wp2_with fail
    go_loopw [11, 12] (fun v t wr => ∃ k : Nat, k ≤ N ∧ t = .int .i64 k ∧ Hid (OwnI w9.heap.size wr v (pendTo m (PS.take k))) ∧ Hid (Below w9.heap.size w9 wr)) (fun _ t _ => N - (intOf t).toNat)
    case atStart => exact ⟨0, Nat.zero_le _, rfl, World.ownsRow_nil _ _ _ _, Below.refl _ _⟩
    case round =>
      obtain ⟨k, hk, rfl, hown, hbw⟩ := hrel
      by_cases hkN : k < N
      · obtain ⟨x, hx⟩ : ∃ x, PS[k]? = some x := ⟨PS[k]'(by rw [← hN.out]; exact hkN), by rw [List.getElem?_eq_getElem]⟩
        obtain ⟨g9, o9, rfl, q1, q2⟩ := (HR9.out.below hbw.out).at k x hx
        obtain ⟨xa, xb⟩ := x
        dsimp only at q1 q2
        have hpl : (pendTo m (PS.take k)).length ≤ 1048576 := by
          have h1 := pendTo_length m (PS.take k)
          have h2 := List.length_take_le k PS
          have := hNb
          omega
        have hsz := hbw.out.size
        by_cases hxm : xb = m
        · have hO2 := pendTo_yes hx hxm
          have HO2 : Hid (pendTo m (PS.take (k + 1)) = pendTo m (PS.take k) ++ [(xa : Int)]) := hO2
          have hxz : (xb : Int) = (m : Int) := by omega
          clear hO2 hx hxm
          go_wp2_with (first | (at_builtin; refine appI (.tmp 42) (.tmp 48) (xa : Int) w9.heap.size _ (pendTo m (PS.take k)) rfl rfl rfl rfl hown.out hpl hsz ?_; intro v6 w6 hown6 hb6))
          go_roundw
          case rel => exact ⟨k + 1, by omega, by go_num, (show OwnI _ _ _ _ by rw [HO2.out]; exact hown6), hbw.out.trans hb6⟩
          case measure => simp [intOf]; omega
        · have hO2 := pendTo_no hx (x := (xa, xb)) hxm
          have HO2 : Hid (pendTo m (PS.take (k + 1)) = pendTo m (PS.take k)) := hO2
          have hxz : ¬ (xb : Int) = (m : Int) := by omega
          have hxz2 : ((xb : Int) == (m : Int)) = false := by rw [beq_eq_false_iff_ne]; omega
          clear hO2 hx hxm
          go_wp2_with fail
          go_roundw
          case rel => exact ⟨k + 1, by omega, by go_num, (show OwnI _ _ _ _ by rw [HO2.out]; exact hown.out), hbw.out⟩
          case measure => simp [intOf]; omega
      · have hfin : Hid (pendTo m (PS.take k) = Z) := by
          show _ = _
          rw [hZ.out, List.take_of_length_le (by rw [← hN.out]; omega), hPS.out, pendTo_end]
        go_wp2_with fail
        go_ret2
        refine ⟨_, rfl, ?_, HB9.out.trans (hbw.out.mono HB9.out.size)⟩
        have h5 := hown.out
        rw [hfin.out] at h5
        obtain ⟨e0, e1 | ⟨g, cap, cur, e1, e2, e3⟩⟩ := h5
        · exact ⟨e0, .inl e1⟩
        · exact ⟨e0, .inr ⟨g, cap, cur, e1, Nat.le_trans HB9.out.size e2, e3⟩⟩
end Go.Proofs.Ytmkhobaclpiceaa
