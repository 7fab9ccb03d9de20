/- Joined texts of the proof. -/
import Derived.Test.YtcmkjjlchljffaaDoorJ5

/- The landed disk: whether there is room. -/
namespace Go.Proofs.YtcmkjjlchljffaaDoor
open Go.RowKit
set_option linter.unusedVariables false
set_option maxRecDepth 100000
set_option maxHeartbeats 6400000

def roomB (m : FMap) (nm : ByteArray) (sz n : Nat) : Bool := ((lookM m nm).isSome || decide (m.length < 256)) && decide ((n : Int) ≤ (sz : Int) - (sumM m : Int))
theorem room_1 (g mb B : Nat) (w : World) (m : FMap) (sz wr n : Nat) (lf : Int) (nm : ByteArray) (h : Ds B w g mb m sz lf wr) (hb : sumM m ≤ 67108864) (hsz : sz ≤ 67108864) (hs : nm.size ≤ 9223372036854775807) {f : FM} (hl : lookM m nm = some f) (hle : (n : Int) ≤ (sz : Int) - (sumM m : Int)) :
    Calls Tryd.prog 35 #[.pointer (some ⟨g, 0, none⟩), .string nm, .int .i64 (n : Int)] w fun r w' => r = .returned (.bool true) ∧ Below w.heap.size w w' := by
  have HP0 := hidU h.mp
  have q2 := h.files
  have q1 := h.at_.cell 1
  simp only [List.getElem?_cons_zero, List.getElem?_cons_succ] at q1
  obtain ⟨su, hsu⟩ : ∃ su, Hid (su = sumM m) := ⟨_, (rfl : _ = sumM m)⟩
  have hsu1 : su ≤ 67108864 := by rw [hsu.out]; exact hb
  have hlu := h.lt
  have hH := hidU h
  obtain ⟨a, n1, c, bs, sf, hd, rfl, hn1, _⟩ := look_parts h hl
  have HL := hidU hl
  clear h hl hlu
  go_enter Tryd.func35, Tryd.ntmps35
  go_wp2_with (first
    | (refine wpList_look mF rfl (.tmp 13) (.tmp 14) true rfl nm rfl rfl HP0.out hs (.tuple #[.agg #[.slice a n1 c, .int .i64 (sf : Int), .bool hd], .bool true]) (by rw [HL.out]; rfl) ?_)
    | (refine wpList_alloc_at rfl 66 rfl [.slice none 0 0, .int .i64 0, .bool false] 3 z66 ?_; intro w1 hA1 hb1 hs1)
    | (refine wpList_store_at rfl 66 (.tmp 7) (.tmp 16) rfl w.heap.size [.slice a n1 c, .int .i64 (sf : Int), .bool hd] rfl rfl 66 _ hA1 i66 rfl one3 ?_; intro y hA2 hb2 hs2; refine Hid.out ?_))
  have hB0 : Hid (Below w.heap.size w y) := hidU (hb2.below hb1 (Nat.le_refl _) hb1.size)
  have HP := hidU (HP0.out.below hB0.out)
  have q2 := (hB0.out.cell (lt_of_cell q2)).trans q2
  have q1 := (hB0.out.cell (lt_of_cell q1)).trans q1
  refine hidU ?_
  have HU : Hid (∀ x, Below y.heap.size y x → Calls Tryd.prog 21 #[.pointer (some ⟨g, 0, none⟩)] x fun r w' => r = .returned (.int .i64 (su : Int)) ∧ Below x.heap.size x w') := hidU (fun x hx => by
    rw [hsu.out]
    exact used_p (hH.out.below (hB0.out.trans (hx.mono hB0.out.size))) hb)
  obtain ⟨ml, hml⟩ : ∃ ml, Hid (m.length = ml) := ⟨_, (rfl : m.length = _)⟩
  have hwr : Hid (IntKind.i64.wrap ((sz : Int) - (su : Int)) = (sz : Int) - (su : Int)) := by show _ = _; rw [IntKind.wrap_i64]; omega
  have hle : Hid ((n : Int) ≤ (sz : Int) - (su : Int)) := hidU (by have := hsu.out; omega)
  clear hA1 hA2 hb1 hb2 hs1 hs2 hsu HL HP0
  go_wp2
  have hS0 : Below y.heap.size y y.drew := Below.drew (Below.refl _ _)
  refine wp_region_held_drew (S := fun xS => Below y.heap.size y xS) (by kernel_rfl) hS0 ?_
  obtain ⟨x0, hx0⟩ : ∃ x, x = y.drew := ⟨_, rfl⟩
  rw [← hx0] at hS0  ⊢
  clear hx0
  intro _
  refine wpAnyH_take (i := 0) (oi := { dst := some 18, op := .move (.tmp 8), type := _, pos := _, after := _, guard := none }) (v := .bool true) rfl (by kernel_rfl) (by kernel_rfl) (by kernel_rfl) (fun _ _ _ h => h) (Or.inl ⟨by rfl, ?_⟩) hS0 ?_
  · intro wS hSw
    go_simp
  simp only [Act.put, List.setIfInBounds_toArray, List.set_cons_zero, List.set_cons_succ]
  refine wpAnyH_take (i := 1) (oi := { dst := some 19, op := .move (.tmp 18), type := _, pos := _, after := _, guard := none }) (v := .bool true) rfl (by kernel_rfl) (by kernel_rfl) (by kernel_rfl) (fun _ _ _ h => h) (Or.inl ⟨by rfl, ?_⟩) hS0 ?_
  · intro wS hSw
    go_simp
  simp only [Act.put, List.setIfInBounds_toArray, List.set_cons_zero, List.set_cons_succ]
  refine wpAnyH_take (i := 2) (oi := { dst := some 20, op := .move (.tmp 0), type := _, pos := _, after := _, guard := some (1, false) }) (v := undef) rfl (by kernel_rfl) (by kernel_rfl) (by kernel_rfl) (fun _ _ _ h => h) (Or.inr ⟨by rfl, rfl⟩) hS0 ?_
  simp only [Act.put, List.setIfInBounds_toArray, List.set_cons_zero, List.set_cons_succ]
  refine wpAnyH_take (i := 3) (oi := { dst := some 21, op := .nilCheck (.tmp 20), type := _, pos := _, after := _, guard := some (1, false) }) (v := undef) rfl (by kernel_rfl) (by kernel_rfl) (by kernel_rfl) (fun _ _ _ h => h) (Or.inr ⟨by rfl, rfl⟩) hS0 ?_
  simp only [Act.put, List.setIfInBounds_toArray, List.set_cons_zero, List.set_cons_succ]
  refine wpAnyH_take (i := 4) (oi := { dst := some 22, op := .fieldAddr 35 (.tmp 21) 2, type := _, pos := _, after := _, guard := some (1, false) }) (v := undef) rfl (by kernel_rfl) (by kernel_rfl) (by kernel_rfl) (fun _ _ _ h => h) (Or.inr ⟨by rfl, rfl⟩) hS0 ?_
  simp only [Act.put, List.setIfInBounds_toArray, List.set_cons_zero, List.set_cons_succ]
  refine wpAnyH_take (i := 5) (oi := { dst := some 23, op := .load 33 (.tmp 22), type := _, pos := _, after := _, guard := some (1, false) }) (v := undef) rfl (by kernel_rfl) (by kernel_rfl) (by kernel_rfl) (fun _ _ _ h => h) (Or.inr ⟨by rfl, rfl⟩) hS0 ?_
  simp only [Act.put, List.setIfInBounds_toArray, List.set_cons_zero, List.set_cons_succ]
  refine wpAnyH_take (i := 6) (oi := { dst := some 24, op := .call { callee := .builtin .len, args := #[.tmp 23], argTypes := #[33] }, type := _, pos := _, after := _, guard := some (1, false) }) (v := undef) rfl (by kernel_rfl) (by kernel_rfl) (by kernel_rfl) (fun _ _ _ h => h) (Or.inr ⟨by rfl, rfl⟩) hS0 ?_
  simp only [Act.put, List.setIfInBounds_toArray, List.set_cons_zero, List.set_cons_succ]
  refine wpAnyH_take (i := 7) (oi := { dst := some 25, op := .binOp .lss 3 (.tmp 24) (.const (.int .i64 256)) 3, type := _, pos := _, after := _, guard := some (1, false) }) (v := undef) rfl (by kernel_rfl) (by kernel_rfl) (by kernel_rfl) (fun _ _ _ h => h) (Or.inr ⟨by rfl, rfl⟩) hS0 ?_
  simp only [Act.put, List.setIfInBounds_toArray, List.set_cons_zero, List.set_cons_succ]
  refine wpAnyH_take (i := 8) (oi := { dst := some 26, op := .pick (.tmp 19) (.const (.bool true)) (.tmp 25), type := _, pos := _, after := _, guard := none }) (v := .bool true) rfl (by kernel_rfl) (by kernel_rfl) (by kernel_rfl) (fun _ _ _ h => h) (Or.inl ⟨by rfl, ?_⟩) hS0 ?_
  · intro wS hSw
    go_simp
  simp only [Act.put, List.setIfInBounds_toArray, List.set_cons_zero, List.set_cons_succ]
  refine wpAnyH_take (i := 9) (oi := { dst := some 27, op := .move (.tmp 26), type := _, pos := _, after := _, guard := none }) (v := .bool true) rfl (by kernel_rfl) (by kernel_rfl) (by kernel_rfl) (fun _ _ _ h => h) (Or.inl ⟨by rfl, ?_⟩) hS0 ?_
  · intro wS hSw
    go_simp
  simp only [Act.put, List.setIfInBounds_toArray, List.set_cons_zero, List.set_cons_succ]
  refine wpAnyH_take (i := 10) (oi := { dst := some 28, op := .move (.tmp 2), type := _, pos := _, after := _, guard := some (9, true) }) (v := .int .i64 (n : Int)) rfl (by kernel_rfl) (by kernel_rfl) (by kernel_rfl) (fun _ _ _ h => h) (Or.inl ⟨by rfl, ?_⟩) hS0 ?_
  · intro wS hSw
    go_simp
  simp only [Act.put, List.setIfInBounds_toArray, List.set_cons_zero, List.set_cons_succ]
  refine wpAnyH_take (i := 11) (oi := { dst := some 29, op := .move (.tmp 0), type := _, pos := _, after := _, guard := some (9, true) }) (v := .pointer (some ⟨g, 0, none⟩)) rfl (by kernel_rfl) (by kernel_rfl) (by kernel_rfl) (fun _ _ _ h => h) (Or.inl ⟨by rfl, ?_⟩) hS0 ?_
  · intro wS hSw
    go_simp
  simp only [Act.put, List.setIfInBounds_toArray, List.set_cons_zero, List.set_cons_succ]
  refine wpAnyH_take (i := 12) (oi := { dst := some 30, op := .nilCheck (.tmp 29), type := _, pos := _, after := _, guard := some (9, true) }) (v := .pointer (some ⟨g, 0, none⟩)) rfl (by kernel_rfl) (by kernel_rfl) (by kernel_rfl) (fun _ _ _ h => h) (Or.inl ⟨by rfl, ?_⟩) hS0 ?_
  · intro wS hSw
    go_simp
  simp only [Act.put, List.setIfInBounds_toArray, List.set_cons_zero, List.set_cons_succ]
  refine wpAnyH_take (i := 13) (oi := { dst := some 31, op := .fieldAddr 35 (.tmp 30) 1, type := _, pos := _, after := _, guard := some (9, true) }) (v := .pointer (some ⟨g, 1, none⟩)) rfl (by kernel_rfl) (by kernel_rfl) (by kernel_rfl) (fun _ _ _ h => h) (Or.inl ⟨by rfl, ?_⟩) hS0 ?_
  · intro wS hSw
    go_simp
  simp only [Act.put, List.setIfInBounds_toArray, List.set_cons_zero, List.set_cons_succ]
  refine wpAnyH_take (i := 14) (oi := { dst := some 32, op := .load 3 (.tmp 31), type := _, pos := _, after := _, guard := some (9, true) }) (v := .int .i64 (sz : Int)) rfl (by kernel_rfl) (by kernel_rfl) (by kernel_rfl) (fun _ _ _ h => h) (Or.inl ⟨by rfl, ?_⟩) hS0 ?_
  · intro wS hSw
    have z0 := (hSw.cell (lt_of_cell q1)).trans q1
    go_simp
  simp only [Act.put, List.setIfInBounds_toArray, List.set_cons_zero, List.set_cons_succ]
  refine wpAnyH_take (i := 15) (oi := { dst := some 33, op := .move (.tmp 0), type := _, pos := _, after := _, guard := some (9, true) }) (v := .pointer (some ⟨g, 0, none⟩)) rfl (by kernel_rfl) (by kernel_rfl) (by kernel_rfl) (fun _ _ _ h => h) (Or.inl ⟨by rfl, ?_⟩) hS0 ?_
  · intro wS hSw
    go_simp
  simp only [Act.put, List.setIfInBounds_toArray, List.set_cons_zero, List.set_cons_succ]
  refine wpAnyH_ready (rs := [16]) (by kernel_rfl) (by simp) ?_
  refine AllReadyH.cons (o := { dst := some 34, op := .call { callee := .value (.func 21), args := #[.tmp 33], argTypes := #[22] }, type := _, pos := _, after := _, guard := some (9, true) }) rfl (fun K hK => ?_) AllReadyH.nil
  rw [if_pos (by rfl)]
  have sv1 := hS0.size
  go_wp2_with (go_at_call 21; refine (HU.out _ hS0).mono ?_; rintro e x1 ⟨rfl, hb1⟩)
  have sz1 := hb1.size
  have hS1 := hS0.trans (hb1.mono hS0.size)
  refine hK.out _ _ hS1 (fun _ => ?_)
  clear hK K
  refine wpAnyH_take (i := 17) (oi := { dst := some 35, op := .binOp .sub 3 (.tmp 32) (.tmp 34) 3, type := _, pos := _, after := _, guard := some (9, true) }) (v := .int .i64 ((sz : Int) - (su : Int))) rfl (by kernel_rfl) (by kernel_rfl) (by kernel_rfl) (fun _ _ _ h => h) (Or.inl ⟨by rfl, ?_⟩) hS1 ?_
  · intro wS hSw
    go_simp
    try rw [hwr.out]
    try rfl
  simp only [Act.put, List.setIfInBounds_toArray, List.set_cons_zero, List.set_cons_succ]
  refine wpAnyH_take (i := 18) (oi := { dst := some 36, op := .binOp .leq 3 (.tmp 28) (.tmp 35) 3, type := _, pos := _, after := _, guard := some (9, true) }) (v := .bool true) rfl (by kernel_rfl) (by kernel_rfl) (by kernel_rfl) (fun _ _ _ h => h) (Or.inl ⟨by rfl, ?_⟩) hS1 ?_
  · intro wS hSw
    go_simp
    have hz := hle.out
    omega
  simp only [Act.put, List.setIfInBounds_toArray, List.set_cons_zero, List.set_cons_succ]
  refine wpAnyH_take (i := 19) (oi := { dst := some 37, op := .pick (.tmp 27) (.tmp 36) (.const (.bool false)), type := _, pos := _, after := _, guard := none }) (v := .bool true) rfl (by kernel_rfl) (by kernel_rfl) (by kernel_rfl) (fun _ _ _ h => h) (Or.inl ⟨by rfl, ?_⟩) hS1 ?_
  · intro wS hSw
    go_simp
  simp only [Act.put, List.setIfInBounds_toArray, List.set_cons_zero, List.set_cons_succ]
  refine wpAnyH_take (i := 20) (oi := { dst := some 6, op := .assign (.tmp 37), type := _, pos := _, after := _, guard := none }) (v := .bool true) rfl (by kernel_rfl) (by kernel_rfl) (by kernel_rfl) (fun _ _ _ h => h) (Or.inl ⟨by rfl, ?_⟩) hS1 ?_
  · intro wS hSw
    go_simp
  simp only [Act.put, List.setIfInBounds_toArray, List.set_cons_zero, List.set_cons_succ]
  refine wpAnyH_done (by kernel_rfl) ?_ _
  go_wp2
  go_ret
  exact ⟨rfl, hB0.out.trans (hS1.mono hB0.out.size)⟩

theorem room_2 (g mb B : Nat) (w : World) (m : FMap) (sz wr n : Nat) (lf : Int) (nm : ByteArray) (h : Ds B w g mb m sz lf wr) (hb : sumM m ≤ 67108864) (hsz : sz ≤ 67108864) (hs : nm.size ≤ 9223372036854775807) {f : FM} (hl : lookM m nm = some f) (hle : ¬ (n : Int) ≤ (sz : Int) - (sumM m : Int)) :
    Calls Tryd.prog 35 #[.pointer (some ⟨g, 0, none⟩), .string nm, .int .i64 (n : Int)] w fun r w' => r = .returned (.bool false) ∧ Below w.heap.size w w' := by
  have HP0 := hidU h.mp
  have q2 := h.files
  have q1 := h.at_.cell 1
  simp only [List.getElem?_cons_zero, List.getElem?_cons_succ] at q1
  obtain ⟨su, hsu⟩ : ∃ su, Hid (su = sumM m) := ⟨_, (rfl : _ = sumM m)⟩
  have hsu1 : su ≤ 67108864 := by rw [hsu.out]; exact hb
  have hlu := h.lt
  have hH := hidU h
  obtain ⟨a, n1, c, bs, sf, hd, rfl, hn1, _⟩ := look_parts h hl
  have HL := hidU hl
  clear h hl hlu
  go_enter Tryd.func35, Tryd.ntmps35
  go_wp2_with (first
    | (refine wpList_look mF rfl (.tmp 13) (.tmp 14) true rfl nm rfl rfl HP0.out hs (.tuple #[.agg #[.slice a n1 c, .int .i64 (sf : Int), .bool hd], .bool true]) (by rw [HL.out]; rfl) ?_)
    | (refine wpList_alloc_at rfl 66 rfl [.slice none 0 0, .int .i64 0, .bool false] 3 z66 ?_; intro w1 hA1 hb1 hs1)
    | (refine wpList_store_at rfl 66 (.tmp 7) (.tmp 16) rfl w.heap.size [.slice a n1 c, .int .i64 (sf : Int), .bool hd] rfl rfl 66 _ hA1 i66 rfl one3 ?_; intro y hA2 hb2 hs2; refine Hid.out ?_))
  have hB0 : Hid (Below w.heap.size w y) := hidU (hb2.below hb1 (Nat.le_refl _) hb1.size)
  have HP := hidU (HP0.out.below hB0.out)
  have q2 := (hB0.out.cell (lt_of_cell q2)).trans q2
  have q1 := (hB0.out.cell (lt_of_cell q1)).trans q1
  refine hidU ?_
  have HU : Hid (∀ x, Below y.heap.size y x → Calls Tryd.prog 21 #[.pointer (some ⟨g, 0, none⟩)] x fun r w' => r = .returned (.int .i64 (su : Int)) ∧ Below x.heap.size x w') := hidU (fun x hx => by
    rw [hsu.out]
    exact used_p (hH.out.below (hB0.out.trans (hx.mono hB0.out.size))) hb)
  obtain ⟨ml, hml⟩ : ∃ ml, Hid (m.length = ml) := ⟨_, (rfl : m.length = _)⟩
  have hwr : Hid (IntKind.i64.wrap ((sz : Int) - (su : Int)) = (sz : Int) - (su : Int)) := by show _ = _; rw [IntKind.wrap_i64]; omega
  have hle : Hid (¬ (n : Int) ≤ (sz : Int) - (su : Int)) := hidU (by have := hsu.out; omega)
  clear hA1 hA2 hb1 hb2 hs1 hs2 hsu HL HP0
  go_wp2
  have hS0 : Below y.heap.size y y.drew := Below.drew (Below.refl _ _)
  refine wp_region_held_drew (S := fun xS => Below y.heap.size y xS) (by kernel_rfl) hS0 ?_
  obtain ⟨x0, hx0⟩ : ∃ x, x = y.drew := ⟨_, rfl⟩
  rw [← hx0] at hS0  ⊢
  clear hx0
  intro _
  refine wpAnyH_take (i := 0) (oi := { dst := some 18, op := .move (.tmp 8), type := _, pos := _, after := _, guard := none }) (v := .bool true) rfl (by kernel_rfl) (by kernel_rfl) (by kernel_rfl) (fun _ _ _ h => h) (Or.inl ⟨by rfl, ?_⟩) hS0 ?_
  · intro wS hSw
    go_simp
  simp only [Act.put, List.setIfInBounds_toArray, List.set_cons_zero, List.set_cons_succ]
  refine wpAnyH_take (i := 1) (oi := { dst := some 19, op := .move (.tmp 18), type := _, pos := _, after := _, guard := none }) (v := .bool true) rfl (by kernel_rfl) (by kernel_rfl) (by kernel_rfl) (fun _ _ _ h => h) (Or.inl ⟨by rfl, ?_⟩) hS0 ?_
  · intro wS hSw
    go_simp
  simp only [Act.put, List.setIfInBounds_toArray, List.set_cons_zero, List.set_cons_succ]
  refine wpAnyH_take (i := 2) (oi := { dst := some 20, op := .move (.tmp 0), type := _, pos := _, after := _, guard := some (1, false) }) (v := undef) rfl (by kernel_rfl) (by kernel_rfl) (by kernel_rfl) (fun _ _ _ h => h) (Or.inr ⟨by rfl, rfl⟩) hS0 ?_
  simp only [Act.put, List.setIfInBounds_toArray, List.set_cons_zero, List.set_cons_succ]
  refine wpAnyH_take (i := 3) (oi := { dst := some 21, op := .nilCheck (.tmp 20), type := _, pos := _, after := _, guard := some (1, false) }) (v := undef) rfl (by kernel_rfl) (by kernel_rfl) (by kernel_rfl) (fun _ _ _ h => h) (Or.inr ⟨by rfl, rfl⟩) hS0 ?_
  simp only [Act.put, List.setIfInBounds_toArray, List.set_cons_zero, List.set_cons_succ]
  refine wpAnyH_take (i := 4) (oi := { dst := some 22, op := .fieldAddr 35 (.tmp 21) 2, type := _, pos := _, after := _, guard := some (1, false) }) (v := undef) rfl (by kernel_rfl) (by kernel_rfl) (by kernel_rfl) (fun _ _ _ h => h) (Or.inr ⟨by rfl, rfl⟩) hS0 ?_
  simp only [Act.put, List.setIfInBounds_toArray, List.set_cons_zero, List.set_cons_succ]
  refine wpAnyH_take (i := 5) (oi := { dst := some 23, op := .load 33 (.tmp 22), type := _, pos := _, after := _, guard := some (1, false) }) (v := undef) rfl (by kernel_rfl) (by kernel_rfl) (by kernel_rfl) (fun _ _ _ h => h) (Or.inr ⟨by rfl, rfl⟩) hS0 ?_
  simp only [Act.put, List.setIfInBounds_toArray, List.set_cons_zero, List.set_cons_succ]
  refine wpAnyH_take (i := 6) (oi := { dst := some 24, op := .call { callee := .builtin .len, args := #[.tmp 23], argTypes := #[33] }, type := _, pos := _, after := _, guard := some (1, false) }) (v := undef) rfl (by kernel_rfl) (by kernel_rfl) (by kernel_rfl) (fun _ _ _ h => h) (Or.inr ⟨by rfl, rfl⟩) hS0 ?_
  simp only [Act.put, List.setIfInBounds_toArray, List.set_cons_zero, List.set_cons_succ]
  refine wpAnyH_take (i := 7) (oi := { dst := some 25, op := .binOp .lss 3 (.tmp 24) (.const (.int .i64 256)) 3, type := _, pos := _, after := _, guard := some (1, false) }) (v := undef) rfl (by kernel_rfl) (by kernel_rfl) (by kernel_rfl) (fun _ _ _ h => h) (Or.inr ⟨by rfl, rfl⟩) hS0 ?_
  simp only [Act.put, List.setIfInBounds_toArray, List.set_cons_zero, List.set_cons_succ]
  refine wpAnyH_take (i := 8) (oi := { dst := some 26, op := .pick (.tmp 19) (.const (.bool true)) (.tmp 25), type := _, pos := _, after := _, guard := none }) (v := .bool true) rfl (by kernel_rfl) (by kernel_rfl) (by kernel_rfl) (fun _ _ _ h => h) (Or.inl ⟨by rfl, ?_⟩) hS0 ?_
  · intro wS hSw
    go_simp
  simp only [Act.put, List.setIfInBounds_toArray, List.set_cons_zero, List.set_cons_succ]
  refine wpAnyH_take (i := 9) (oi := { dst := some 27, op := .move (.tmp 26), type := _, pos := _, after := _, guard := none }) (v := .bool true) rfl (by kernel_rfl) (by kernel_rfl) (by kernel_rfl) (fun _ _ _ h => h) (Or.inl ⟨by rfl, ?_⟩) hS0 ?_
  · intro wS hSw
    go_simp
  simp only [Act.put, List.setIfInBounds_toArray, List.set_cons_zero, List.set_cons_succ]
  refine wpAnyH_take (i := 10) (oi := { dst := some 28, op := .move (.tmp 2), type := _, pos := _, after := _, guard := some (9, true) }) (v := .int .i64 (n : Int)) rfl (by kernel_rfl) (by kernel_rfl) (by kernel_rfl) (fun _ _ _ h => h) (Or.inl ⟨by rfl, ?_⟩) hS0 ?_
  · intro wS hSw
    go_simp
  simp only [Act.put, List.setIfInBounds_toArray, List.set_cons_zero, List.set_cons_succ]
  refine wpAnyH_take (i := 11) (oi := { dst := some 29, op := .move (.tmp 0), type := _, pos := _, after := _, guard := some (9, true) }) (v := .pointer (some ⟨g, 0, none⟩)) rfl (by kernel_rfl) (by kernel_rfl) (by kernel_rfl) (fun _ _ _ h => h) (Or.inl ⟨by rfl, ?_⟩) hS0 ?_
  · intro wS hSw
    go_simp
  simp only [Act.put, List.setIfInBounds_toArray, List.set_cons_zero, List.set_cons_succ]
  refine wpAnyH_take (i := 12) (oi := { dst := some 30, op := .nilCheck (.tmp 29), type := _, pos := _, after := _, guard := some (9, true) }) (v := .pointer (some ⟨g, 0, none⟩)) rfl (by kernel_rfl) (by kernel_rfl) (by kernel_rfl) (fun _ _ _ h => h) (Or.inl ⟨by rfl, ?_⟩) hS0 ?_
  · intro wS hSw
    go_simp
  simp only [Act.put, List.setIfInBounds_toArray, List.set_cons_zero, List.set_cons_succ]
  refine wpAnyH_take (i := 13) (oi := { dst := some 31, op := .fieldAddr 35 (.tmp 30) 1, type := _, pos := _, after := _, guard := some (9, true) }) (v := .pointer (some ⟨g, 1, none⟩)) rfl (by kernel_rfl) (by kernel_rfl) (by kernel_rfl) (fun _ _ _ h => h) (Or.inl ⟨by rfl, ?_⟩) hS0 ?_
  · intro wS hSw
    go_simp
  simp only [Act.put, List.setIfInBounds_toArray, List.set_cons_zero, List.set_cons_succ]
  refine wpAnyH_take (i := 14) (oi := { dst := some 32, op := .load 3 (.tmp 31), type := _, pos := _, after := _, guard := some (9, true) }) (v := .int .i64 (sz : Int)) rfl (by kernel_rfl) (by kernel_rfl) (by kernel_rfl) (fun _ _ _ h => h) (Or.inl ⟨by rfl, ?_⟩) hS0 ?_
  · intro wS hSw
    have z0 := (hSw.cell (lt_of_cell q1)).trans q1
    go_simp
  simp only [Act.put, List.setIfInBounds_toArray, List.set_cons_zero, List.set_cons_succ]
  refine wpAnyH_take (i := 15) (oi := { dst := some 33, op := .move (.tmp 0), type := _, pos := _, after := _, guard := some (9, true) }) (v := .pointer (some ⟨g, 0, none⟩)) rfl (by kernel_rfl) (by kernel_rfl) (by kernel_rfl) (fun _ _ _ h => h) (Or.inl ⟨by rfl, ?_⟩) hS0 ?_
  · intro wS hSw
    go_simp
  simp only [Act.put, List.setIfInBounds_toArray, List.set_cons_zero, List.set_cons_succ]
  refine wpAnyH_ready (rs := [16]) (by kernel_rfl) (by simp) ?_
  refine AllReadyH.cons (o := { dst := some 34, op := .call { callee := .value (.func 21), args := #[.tmp 33], argTypes := #[22] }, type := _, pos := _, after := _, guard := some (9, true) }) rfl (fun K hK => ?_) AllReadyH.nil
  rw [if_pos (by rfl)]
  have sv1 := hS0.size
  go_wp2_with (go_at_call 21; refine (HU.out _ hS0).mono ?_; rintro e x1 ⟨rfl, hb1⟩)
  have sz1 := hb1.size
  have hS1 := hS0.trans (hb1.mono hS0.size)
  refine hK.out _ _ hS1 (fun _ => ?_)
  clear hK K
  refine wpAnyH_take (i := 17) (oi := { dst := some 35, op := .binOp .sub 3 (.tmp 32) (.tmp 34) 3, type := _, pos := _, after := _, guard := some (9, true) }) (v := .int .i64 ((sz : Int) - (su : Int))) rfl (by kernel_rfl) (by kernel_rfl) (by kernel_rfl) (fun _ _ _ h => h) (Or.inl ⟨by rfl, ?_⟩) hS1 ?_
  · intro wS hSw
    go_simp
    try rw [hwr.out]
    try rfl
  simp only [Act.put, List.setIfInBounds_toArray, List.set_cons_zero, List.set_cons_succ]
  refine wpAnyH_take (i := 18) (oi := { dst := some 36, op := .binOp .leq 3 (.tmp 28) (.tmp 35) 3, type := _, pos := _, after := _, guard := some (9, true) }) (v := .bool false) rfl (by kernel_rfl) (by kernel_rfl) (by kernel_rfl) (fun _ _ _ h => h) (Or.inl ⟨by rfl, ?_⟩) hS1 ?_
  · intro wS hSw
    go_simp
    have hz := hle.out
    omega
  simp only [Act.put, List.setIfInBounds_toArray, List.set_cons_zero, List.set_cons_succ]
  refine wpAnyH_take (i := 19) (oi := { dst := some 37, op := .pick (.tmp 27) (.tmp 36) (.const (.bool false)), type := _, pos := _, after := _, guard := none }) (v := .bool false) rfl (by kernel_rfl) (by kernel_rfl) (by kernel_rfl) (fun _ _ _ h => h) (Or.inl ⟨by rfl, ?_⟩) hS1 ?_
  · intro wS hSw
    go_simp
  simp only [Act.put, List.setIfInBounds_toArray, List.set_cons_zero, List.set_cons_succ]
  refine wpAnyH_take (i := 20) (oi := { dst := some 6, op := .assign (.tmp 37), type := _, pos := _, after := _, guard := none }) (v := .bool false) rfl (by kernel_rfl) (by kernel_rfl) (by kernel_rfl) (fun _ _ _ h => h) (Or.inl ⟨by rfl, ?_⟩) hS1 ?_
  · intro wS hSw
    go_simp
  simp only [Act.put, List.setIfInBounds_toArray, List.set_cons_zero, List.set_cons_succ]
  refine wpAnyH_done (by kernel_rfl) ?_ _
  go_wp2
  go_ret
  exact ⟨rfl, hB0.out.trans (hS1.mono hB0.out.size)⟩

theorem room_3 (g mb B : Nat) (w : World) (m : FMap) (sz wr n : Nat) (lf : Int) (nm : ByteArray) (h : Ds B w g mb m sz lf wr) (hb : sumM m ≤ 67108864) (hsz : sz ≤ 67108864) (hs : nm.size ≤ 9223372036854775807) (hl : lookM m nm = none) (hm : m.length < 256) (hle : (n : Int) ≤ (sz : Int) - (sumM m : Int)) :
    Calls Tryd.prog 35 #[.pointer (some ⟨g, 0, none⟩), .string nm, .int .i64 (n : Int)] w fun r w' => r = .returned (.bool true) ∧ Below w.heap.size w w' := by
  have HP0 := hidU h.mp
  have q2 := h.files
  have q1 := h.at_.cell 1
  simp only [List.getElem?_cons_zero, List.getElem?_cons_succ] at q1
  obtain ⟨su, hsu⟩ : ∃ su, Hid (su = sumM m) := ⟨_, (rfl : _ = sumM m)⟩
  have hsu1 : su ≤ 67108864 := by rw [hsu.out]; exact hb
  have hlu := h.lt
  have hH := hidU h
  have HL := hidU hl
  clear h hl hlu
  go_enter Tryd.func35, Tryd.ntmps35
  go_wp2_with (first
    | (refine wpList_look mF rfl (.tmp 13) (.tmp 14) true rfl nm rfl rfl HP0.out hs (.tuple #[.agg #[.slice none 0 0, .int .i64 0, .bool false], .bool false]) (by rw [HL.out]; rfl) ?_)
    | (refine wpList_alloc_at rfl 66 rfl [.slice none 0 0, .int .i64 0, .bool false] 3 z66 ?_; intro w1 hA1 hb1 hs1)
    | (refine wpList_store_at rfl 66 (.tmp 7) (.tmp 16) rfl w.heap.size [.slice none 0 0, .int .i64 0, .bool false] rfl rfl 66 _ hA1 i66 rfl one3 ?_; intro y hA2 hb2 hs2; refine Hid.out ?_))
  have hB0 : Hid (Below w.heap.size w y) := hidU (hb2.below hb1 (Nat.le_refl _) hb1.size)
  have HP := hidU (HP0.out.below hB0.out)
  have q2 := (hB0.out.cell (lt_of_cell q2)).trans q2
  have q1 := (hB0.out.cell (lt_of_cell q1)).trans q1
  refine hidU ?_
  have HU : Hid (∀ x, Below y.heap.size y x → Calls Tryd.prog 21 #[.pointer (some ⟨g, 0, none⟩)] x fun r w' => r = .returned (.int .i64 (su : Int)) ∧ Below x.heap.size x w') := hidU (fun x hx => by
    rw [hsu.out]
    exact used_p (hH.out.below (hB0.out.trans (hx.mono hB0.out.size))) hb)
  obtain ⟨ml, hml⟩ : ∃ ml, Hid (m.length = ml) := ⟨_, (rfl : m.length = _)⟩
  have hwr : Hid (IntKind.i64.wrap ((sz : Int) - (su : Int)) = (sz : Int) - (su : Int)) := by show _ = _; rw [IntKind.wrap_i64]; omega
  have hlt : Hid ((ml : Int) < 256) := hidU (by have := hml.out; omega)
  have hle : Hid ((n : Int) ≤ (sz : Int) - (su : Int)) := hidU (by have := hsu.out; omega)
  clear hA1 hA2 hb1 hb2 hs1 hs2 hsu HL HP0
  go_wp2
  have hS0 : Below y.heap.size y y.drew := Below.drew (Below.refl _ _)
  refine wp_region_held_drew (S := fun xS => Below y.heap.size y xS) (by kernel_rfl) hS0 ?_
  obtain ⟨x0, hx0⟩ : ∃ x, x = y.drew := ⟨_, rfl⟩
  rw [← hx0] at hS0  ⊢
  clear hx0
  intro _
  refine wpAnyH_take (i := 0) (oi := { dst := some 18, op := .move (.tmp 8), type := _, pos := _, after := _, guard := none }) (v := .bool false) rfl (by kernel_rfl) (by kernel_rfl) (by kernel_rfl) (fun _ _ _ h => h) (Or.inl ⟨by rfl, ?_⟩) hS0 ?_
  · intro wS hSw
    go_simp
  simp only [Act.put, List.setIfInBounds_toArray, List.set_cons_zero, List.set_cons_succ]
  refine wpAnyH_take (i := 1) (oi := { dst := some 19, op := .move (.tmp 18), type := _, pos := _, after := _, guard := none }) (v := .bool false) rfl (by kernel_rfl) (by kernel_rfl) (by kernel_rfl) (fun _ _ _ h => h) (Or.inl ⟨by rfl, ?_⟩) hS0 ?_
  · intro wS hSw
    go_simp
  simp only [Act.put, List.setIfInBounds_toArray, List.set_cons_zero, List.set_cons_succ]
  refine wpAnyH_take (i := 2) (oi := { dst := some 20, op := .move (.tmp 0), type := _, pos := _, after := _, guard := some (1, false) }) (v := .pointer (some ⟨g, 0, none⟩)) rfl (by kernel_rfl) (by kernel_rfl) (by kernel_rfl) (fun _ _ _ h => h) (Or.inl ⟨by rfl, ?_⟩) hS0 ?_
  · intro wS hSw
    go_simp
  simp only [Act.put, List.setIfInBounds_toArray, List.set_cons_zero, List.set_cons_succ]
  refine wpAnyH_take (i := 3) (oi := { dst := some 21, op := .nilCheck (.tmp 20), type := _, pos := _, after := _, guard := some (1, false) }) (v := .pointer (some ⟨g, 0, none⟩)) rfl (by kernel_rfl) (by kernel_rfl) (by kernel_rfl) (fun _ _ _ h => h) (Or.inl ⟨by rfl, ?_⟩) hS0 ?_
  · intro wS hSw
    go_simp
  simp only [Act.put, List.setIfInBounds_toArray, List.set_cons_zero, List.set_cons_succ]
  refine wpAnyH_take (i := 4) (oi := { dst := some 22, op := .fieldAddr 35 (.tmp 21) 2, type := _, pos := _, after := _, guard := some (1, false) }) (v := .pointer (some ⟨g, 2, none⟩)) rfl (by kernel_rfl) (by kernel_rfl) (by kernel_rfl) (fun _ _ _ h => h) (Or.inl ⟨by rfl, ?_⟩) hS0 ?_
  · intro wS hSw
    go_simp
  simp only [Act.put, List.setIfInBounds_toArray, List.set_cons_zero, List.set_cons_succ]
  refine wpAnyH_take (i := 5) (oi := { dst := some 23, op := .load 33 (.tmp 22), type := _, pos := _, after := _, guard := some (1, false) }) (v := .map (some mb)) rfl (by kernel_rfl) (by kernel_rfl) (by kernel_rfl) (fun _ _ _ h => h) (Or.inl ⟨by rfl, ?_⟩) hS0 ?_
  · intro wS hSw
    have z0 := (hSw.cell (lt_of_cell q2)).trans q2
    go_simp
  simp only [Act.put, List.setIfInBounds_toArray, List.set_cons_zero, List.set_cons_succ]
  refine wpAnyH_take (i := 6) (oi := { dst := some 24, op := .call { callee := .builtin .len, args := #[.tmp 23], argTypes := #[33] }, type := _, pos := _, after := _, guard := some (1, false) }) (v := .int .i64 (ml : Int)) rfl (by kernel_rfl) (by kernel_rfl) (by kernel_rfl) (fun _ _ _ h => h) (Or.inl ⟨by rfl, ?_⟩) hS0 ?_
  · intro wS hSw
    have hz := (HP.out.below hSw).len 3
    simp only [mF, hml.out] at hz
    go_simp
    try rw [hz]
    try rfl
  simp only [Act.put, List.setIfInBounds_toArray, List.set_cons_zero, List.set_cons_succ]
  refine wpAnyH_take (i := 7) (oi := { dst := some 25, op := .binOp .lss 3 (.tmp 24) (.const (.int .i64 256)) 3, type := _, pos := _, after := _, guard := some (1, false) }) (v := .bool true) rfl (by kernel_rfl) (by kernel_rfl) (by kernel_rfl) (fun _ _ _ h => h) (Or.inl ⟨by rfl, ?_⟩) hS0 ?_
  · intro wS hSw
    go_simp
    have hz := hlt.out
    omega
  simp only [Act.put, List.setIfInBounds_toArray, List.set_cons_zero, List.set_cons_succ]
  refine wpAnyH_take (i := 8) (oi := { dst := some 26, op := .pick (.tmp 19) (.const (.bool true)) (.tmp 25), type := _, pos := _, after := _, guard := none }) (v := .bool true) rfl (by kernel_rfl) (by kernel_rfl) (by kernel_rfl) (fun _ _ _ h => h) (Or.inl ⟨by rfl, ?_⟩) hS0 ?_
  · intro wS hSw
    go_simp
  simp only [Act.put, List.setIfInBounds_toArray, List.set_cons_zero, List.set_cons_succ]
  refine wpAnyH_take (i := 9) (oi := { dst := some 27, op := .move (.tmp 26), type := _, pos := _, after := _, guard := none }) (v := .bool true) rfl (by kernel_rfl) (by kernel_rfl) (by kernel_rfl) (fun _ _ _ h => h) (Or.inl ⟨by rfl, ?_⟩) hS0 ?_
  · intro wS hSw
    go_simp
  simp only [Act.put, List.setIfInBounds_toArray, List.set_cons_zero, List.set_cons_succ]
  refine wpAnyH_take (i := 10) (oi := { dst := some 28, op := .move (.tmp 2), type := _, pos := _, after := _, guard := some (9, true) }) (v := .int .i64 (n : Int)) rfl (by kernel_rfl) (by kernel_rfl) (by kernel_rfl) (fun _ _ _ h => h) (Or.inl ⟨by rfl, ?_⟩) hS0 ?_
  · intro wS hSw
    go_simp
  simp only [Act.put, List.setIfInBounds_toArray, List.set_cons_zero, List.set_cons_succ]
  refine wpAnyH_take (i := 11) (oi := { dst := some 29, op := .move (.tmp 0), type := _, pos := _, after := _, guard := some (9, true) }) (v := .pointer (some ⟨g, 0, none⟩)) rfl (by kernel_rfl) (by kernel_rfl) (by kernel_rfl) (fun _ _ _ h => h) (Or.inl ⟨by rfl, ?_⟩) hS0 ?_
  · intro wS hSw
    go_simp
  simp only [Act.put, List.setIfInBounds_toArray, List.set_cons_zero, List.set_cons_succ]
  refine wpAnyH_take (i := 12) (oi := { dst := some 30, op := .nilCheck (.tmp 29), type := _, pos := _, after := _, guard := some (9, true) }) (v := .pointer (some ⟨g, 0, none⟩)) rfl (by kernel_rfl) (by kernel_rfl) (by kernel_rfl) (fun _ _ _ h => h) (Or.inl ⟨by rfl, ?_⟩) hS0 ?_
  · intro wS hSw
    go_simp
  simp only [Act.put, List.setIfInBounds_toArray, List.set_cons_zero, List.set_cons_succ]
  refine wpAnyH_take (i := 13) (oi := { dst := some 31, op := .fieldAddr 35 (.tmp 30) 1, type := _, pos := _, after := _, guard := some (9, true) }) (v := .pointer (some ⟨g, 1, none⟩)) rfl (by kernel_rfl) (by kernel_rfl) (by kernel_rfl) (fun _ _ _ h => h) (Or.inl ⟨by rfl, ?_⟩) hS0 ?_
  · intro wS hSw
    go_simp
  simp only [Act.put, List.setIfInBounds_toArray, List.set_cons_zero, List.set_cons_succ]
  refine wpAnyH_take (i := 14) (oi := { dst := some 32, op := .load 3 (.tmp 31), type := _, pos := _, after := _, guard := some (9, true) }) (v := .int .i64 (sz : Int)) rfl (by kernel_rfl) (by kernel_rfl) (by kernel_rfl) (fun _ _ _ h => h) (Or.inl ⟨by rfl, ?_⟩) hS0 ?_
  · intro wS hSw
    have z0 := (hSw.cell (lt_of_cell q1)).trans q1
    go_simp
  simp only [Act.put, List.setIfInBounds_toArray, List.set_cons_zero, List.set_cons_succ]
  refine wpAnyH_take (i := 15) (oi := { dst := some 33, op := .move (.tmp 0), type := _, pos := _, after := _, guard := some (9, true) }) (v := .pointer (some ⟨g, 0, none⟩)) rfl (by kernel_rfl) (by kernel_rfl) (by kernel_rfl) (fun _ _ _ h => h) (Or.inl ⟨by rfl, ?_⟩) hS0 ?_
  · intro wS hSw
    go_simp
  simp only [Act.put, List.setIfInBounds_toArray, List.set_cons_zero, List.set_cons_succ]
  refine wpAnyH_ready (rs := [16]) (by kernel_rfl) (by simp) ?_
  refine AllReadyH.cons (o := { dst := some 34, op := .call { callee := .value (.func 21), args := #[.tmp 33], argTypes := #[22] }, type := _, pos := _, after := _, guard := some (9, true) }) rfl (fun K hK => ?_) AllReadyH.nil
  rw [if_pos (by rfl)]
  have sv1 := hS0.size
  go_wp2_with (go_at_call 21; refine (HU.out _ hS0).mono ?_; rintro e x1 ⟨rfl, hb1⟩)
  have sz1 := hb1.size
  have hS1 := hS0.trans (hb1.mono hS0.size)
  refine hK.out _ _ hS1 (fun _ => ?_)
  clear hK K
  refine wpAnyH_take (i := 17) (oi := { dst := some 35, op := .binOp .sub 3 (.tmp 32) (.tmp 34) 3, type := _, pos := _, after := _, guard := some (9, true) }) (v := .int .i64 ((sz : Int) - (su : Int))) rfl (by kernel_rfl) (by kernel_rfl) (by kernel_rfl) (fun _ _ _ h => h) (Or.inl ⟨by rfl, ?_⟩) hS1 ?_
  · intro wS hSw
    go_simp
    try rw [hwr.out]
    try rfl
  simp only [Act.put, List.setIfInBounds_toArray, List.set_cons_zero, List.set_cons_succ]
  refine wpAnyH_take (i := 18) (oi := { dst := some 36, op := .binOp .leq 3 (.tmp 28) (.tmp 35) 3, type := _, pos := _, after := _, guard := some (9, true) }) (v := .bool true) rfl (by kernel_rfl) (by kernel_rfl) (by kernel_rfl) (fun _ _ _ h => h) (Or.inl ⟨by rfl, ?_⟩) hS1 ?_
  · intro wS hSw
    go_simp
    have hz := hle.out
    omega
  simp only [Act.put, List.setIfInBounds_toArray, List.set_cons_zero, List.set_cons_succ]
  refine wpAnyH_take (i := 19) (oi := { dst := some 37, op := .pick (.tmp 27) (.tmp 36) (.const (.bool false)), type := _, pos := _, after := _, guard := none }) (v := .bool true) rfl (by kernel_rfl) (by kernel_rfl) (by kernel_rfl) (fun _ _ _ h => h) (Or.inl ⟨by rfl, ?_⟩) hS1 ?_
  · intro wS hSw
    go_simp
  simp only [Act.put, List.setIfInBounds_toArray, List.set_cons_zero, List.set_cons_succ]
  refine wpAnyH_take (i := 20) (oi := { dst := some 6, op := .assign (.tmp 37), type := _, pos := _, after := _, guard := none }) (v := .bool true) rfl (by kernel_rfl) (by kernel_rfl) (by kernel_rfl) (fun _ _ _ h => h) (Or.inl ⟨by rfl, ?_⟩) hS1 ?_
  · intro wS hSw
    go_simp
  simp only [Act.put, List.setIfInBounds_toArray, List.set_cons_zero, List.set_cons_succ]
  refine wpAnyH_done (by kernel_rfl) ?_ _
  go_wp2
  go_ret
  exact ⟨rfl, hB0.out.trans (hS1.mono hB0.out.size)⟩

theorem room_4 (g mb B : Nat) (w : World) (m : FMap) (sz wr n : Nat) (lf : Int) (nm : ByteArray) (h : Ds B w g mb m sz lf wr) (hb : sumM m ≤ 67108864) (hsz : sz ≤ 67108864) (hs : nm.size ≤ 9223372036854775807) (hl : lookM m nm = none) (hm : m.length < 256) (hle : ¬ (n : Int) ≤ (sz : Int) - (sumM m : Int)) :
    Calls Tryd.prog 35 #[.pointer (some ⟨g, 0, none⟩), .string nm, .int .i64 (n : Int)] w fun r w' => r = .returned (.bool false) ∧ Below w.heap.size w w' := by
  have HP0 := hidU h.mp
  have q2 := h.files
  have q1 := h.at_.cell 1
  simp only [List.getElem?_cons_zero, List.getElem?_cons_succ] at q1
  obtain ⟨su, hsu⟩ : ∃ su, Hid (su = sumM m) := ⟨_, (rfl : _ = sumM m)⟩
  have hsu1 : su ≤ 67108864 := by rw [hsu.out]; exact hb
  have hlu := h.lt
  have hH := hidU h
  have HL := hidU hl
  clear h hl hlu
  go_enter Tryd.func35, Tryd.ntmps35
  go_wp2_with (first
    | (refine wpList_look mF rfl (.tmp 13) (.tmp 14) true rfl nm rfl rfl HP0.out hs (.tuple #[.agg #[.slice none 0 0, .int .i64 0, .bool false], .bool false]) (by rw [HL.out]; rfl) ?_)
    | (refine wpList_alloc_at rfl 66 rfl [.slice none 0 0, .int .i64 0, .bool false] 3 z66 ?_; intro w1 hA1 hb1 hs1)
    | (refine wpList_store_at rfl 66 (.tmp 7) (.tmp 16) rfl w.heap.size [.slice none 0 0, .int .i64 0, .bool false] rfl rfl 66 _ hA1 i66 rfl one3 ?_; intro y hA2 hb2 hs2; refine Hid.out ?_))
  have hB0 : Hid (Below w.heap.size w y) := hidU (hb2.below hb1 (Nat.le_refl _) hb1.size)
  have HP := hidU (HP0.out.below hB0.out)
  have q2 := (hB0.out.cell (lt_of_cell q2)).trans q2
  have q1 := (hB0.out.cell (lt_of_cell q1)).trans q1
  refine hidU ?_
  have HU : Hid (∀ x, Below y.heap.size y x → Calls Tryd.prog 21 #[.pointer (some ⟨g, 0, none⟩)] x fun r w' => r = .returned (.int .i64 (su : Int)) ∧ Below x.heap.size x w') := hidU (fun x hx => by
    rw [hsu.out]
    exact used_p (hH.out.below (hB0.out.trans (hx.mono hB0.out.size))) hb)
  obtain ⟨ml, hml⟩ : ∃ ml, Hid (m.length = ml) := ⟨_, (rfl : m.length = _)⟩
  have hwr : Hid (IntKind.i64.wrap ((sz : Int) - (su : Int)) = (sz : Int) - (su : Int)) := by show _ = _; rw [IntKind.wrap_i64]; omega
  have hlt : Hid ((ml : Int) < 256) := hidU (by have := hml.out; omega)
  have hle : Hid (¬ (n : Int) ≤ (sz : Int) - (su : Int)) := hidU (by have := hsu.out; omega)
  clear hA1 hA2 hb1 hb2 hs1 hs2 hsu HL HP0
  go_wp2
  have hS0 : Below y.heap.size y y.drew := Below.drew (Below.refl _ _)
  refine wp_region_held_drew (S := fun xS => Below y.heap.size y xS) (by kernel_rfl) hS0 ?_
  obtain ⟨x0, hx0⟩ : ∃ x, x = y.drew := ⟨_, rfl⟩
  rw [← hx0] at hS0  ⊢
  clear hx0
  intro _
  refine wpAnyH_take (i := 0) (oi := { dst := some 18, op := .move (.tmp 8), type := _, pos := _, after := _, guard := none }) (v := .bool false) rfl (by kernel_rfl) (by kernel_rfl) (by kernel_rfl) (fun _ _ _ h => h) (Or.inl ⟨by rfl, ?_⟩) hS0 ?_
  · intro wS hSw
    go_simp
  simp only [Act.put, List.setIfInBounds_toArray, List.set_cons_zero, List.set_cons_succ]
  refine wpAnyH_take (i := 1) (oi := { dst := some 19, op := .move (.tmp 18), type := _, pos := _, after := _, guard := none }) (v := .bool false) rfl (by kernel_rfl) (by kernel_rfl) (by kernel_rfl) (fun _ _ _ h => h) (Or.inl ⟨by rfl, ?_⟩) hS0 ?_
  · intro wS hSw
    go_simp
  simp only [Act.put, List.setIfInBounds_toArray, List.set_cons_zero, List.set_cons_succ]
  refine wpAnyH_take (i := 2) (oi := { dst := some 20, op := .move (.tmp 0), type := _, pos := _, after := _, guard := some (1, false) }) (v := .pointer (some ⟨g, 0, none⟩)) rfl (by kernel_rfl) (by kernel_rfl) (by kernel_rfl) (fun _ _ _ h => h) (Or.inl ⟨by rfl, ?_⟩) hS0 ?_
  · intro wS hSw
    go_simp
  simp only [Act.put, List.setIfInBounds_toArray, List.set_cons_zero, List.set_cons_succ]
  refine wpAnyH_take (i := 3) (oi := { dst := some 21, op := .nilCheck (.tmp 20), type := _, pos := _, after := _, guard := some (1, false) }) (v := .pointer (some ⟨g, 0, none⟩)) rfl (by kernel_rfl) (by kernel_rfl) (by kernel_rfl) (fun _ _ _ h => h) (Or.inl ⟨by rfl, ?_⟩) hS0 ?_
  · intro wS hSw
    go_simp
  simp only [Act.put, List.setIfInBounds_toArray, List.set_cons_zero, List.set_cons_succ]
  refine wpAnyH_take (i := 4) (oi := { dst := some 22, op := .fieldAddr 35 (.tmp 21) 2, type := _, pos := _, after := _, guard := some (1, false) }) (v := .pointer (some ⟨g, 2, none⟩)) rfl (by kernel_rfl) (by kernel_rfl) (by kernel_rfl) (fun _ _ _ h => h) (Or.inl ⟨by rfl, ?_⟩) hS0 ?_
  · intro wS hSw
    go_simp
  simp only [Act.put, List.setIfInBounds_toArray, List.set_cons_zero, List.set_cons_succ]
  refine wpAnyH_take (i := 5) (oi := { dst := some 23, op := .load 33 (.tmp 22), type := _, pos := _, after := _, guard := some (1, false) }) (v := .map (some mb)) rfl (by kernel_rfl) (by kernel_rfl) (by kernel_rfl) (fun _ _ _ h => h) (Or.inl ⟨by rfl, ?_⟩) hS0 ?_
  · intro wS hSw
    have z0 := (hSw.cell (lt_of_cell q2)).trans q2
    go_simp
  simp only [Act.put, List.setIfInBounds_toArray, List.set_cons_zero, List.set_cons_succ]
  refine wpAnyH_take (i := 6) (oi := { dst := some 24, op := .call { callee := .builtin .len, args := #[.tmp 23], argTypes := #[33] }, type := _, pos := _, after := _, guard := some (1, false) }) (v := .int .i64 (ml : Int)) rfl (by kernel_rfl) (by kernel_rfl) (by kernel_rfl) (fun _ _ _ h => h) (Or.inl ⟨by rfl, ?_⟩) hS0 ?_
  · intro wS hSw
    have hz := (HP.out.below hSw).len 3
    simp only [mF, hml.out] at hz
    go_simp
    try rw [hz]
    try rfl
  simp only [Act.put, List.setIfInBounds_toArray, List.set_cons_zero, List.set_cons_succ]
  refine wpAnyH_take (i := 7) (oi := { dst := some 25, op := .binOp .lss 3 (.tmp 24) (.const (.int .i64 256)) 3, type := _, pos := _, after := _, guard := some (1, false) }) (v := .bool true) rfl (by kernel_rfl) (by kernel_rfl) (by kernel_rfl) (fun _ _ _ h => h) (Or.inl ⟨by rfl, ?_⟩) hS0 ?_
  · intro wS hSw
    go_simp
    have hz := hlt.out
    omega
  simp only [Act.put, List.setIfInBounds_toArray, List.set_cons_zero, List.set_cons_succ]
  refine wpAnyH_take (i := 8) (oi := { dst := some 26, op := .pick (.tmp 19) (.const (.bool true)) (.tmp 25), type := _, pos := _, after := _, guard := none }) (v := .bool true) rfl (by kernel_rfl) (by kernel_rfl) (by kernel_rfl) (fun _ _ _ h => h) (Or.inl ⟨by rfl, ?_⟩) hS0 ?_
  · intro wS hSw
    go_simp
  simp only [Act.put, List.setIfInBounds_toArray, List.set_cons_zero, List.set_cons_succ]
  refine wpAnyH_take (i := 9) (oi := { dst := some 27, op := .move (.tmp 26), type := _, pos := _, after := _, guard := none }) (v := .bool true) rfl (by kernel_rfl) (by kernel_rfl) (by kernel_rfl) (fun _ _ _ h => h) (Or.inl ⟨by rfl, ?_⟩) hS0 ?_
  · intro wS hSw
    go_simp
  simp only [Act.put, List.setIfInBounds_toArray, List.set_cons_zero, List.set_cons_succ]
  refine wpAnyH_take (i := 10) (oi := { dst := some 28, op := .move (.tmp 2), type := _, pos := _, after := _, guard := some (9, true) }) (v := .int .i64 (n : Int)) rfl (by kernel_rfl) (by kernel_rfl) (by kernel_rfl) (fun _ _ _ h => h) (Or.inl ⟨by rfl, ?_⟩) hS0 ?_
  · intro wS hSw
    go_simp
  simp only [Act.put, List.setIfInBounds_toArray, List.set_cons_zero, List.set_cons_succ]
  refine wpAnyH_take (i := 11) (oi := { dst := some 29, op := .move (.tmp 0), type := _, pos := _, after := _, guard := some (9, true) }) (v := .pointer (some ⟨g, 0, none⟩)) rfl (by kernel_rfl) (by kernel_rfl) (by kernel_rfl) (fun _ _ _ h => h) (Or.inl ⟨by rfl, ?_⟩) hS0 ?_
  · intro wS hSw
    go_simp
  simp only [Act.put, List.setIfInBounds_toArray, List.set_cons_zero, List.set_cons_succ]
  refine wpAnyH_take (i := 12) (oi := { dst := some 30, op := .nilCheck (.tmp 29), type := _, pos := _, after := _, guard := some (9, true) }) (v := .pointer (some ⟨g, 0, none⟩)) rfl (by kernel_rfl) (by kernel_rfl) (by kernel_rfl) (fun _ _ _ h => h) (Or.inl ⟨by rfl, ?_⟩) hS0 ?_
  · intro wS hSw
    go_simp
  simp only [Act.put, List.setIfInBounds_toArray, List.set_cons_zero, List.set_cons_succ]
  refine wpAnyH_take (i := 13) (oi := { dst := some 31, op := .fieldAddr 35 (.tmp 30) 1, type := _, pos := _, after := _, guard := some (9, true) }) (v := .pointer (some ⟨g, 1, none⟩)) rfl (by kernel_rfl) (by kernel_rfl) (by kernel_rfl) (fun _ _ _ h => h) (Or.inl ⟨by rfl, ?_⟩) hS0 ?_
  · intro wS hSw
    go_simp
  simp only [Act.put, List.setIfInBounds_toArray, List.set_cons_zero, List.set_cons_succ]
  refine wpAnyH_take (i := 14) (oi := { dst := some 32, op := .load 3 (.tmp 31), type := _, pos := _, after := _, guard := some (9, true) }) (v := .int .i64 (sz : Int)) rfl (by kernel_rfl) (by kernel_rfl) (by kernel_rfl) (fun _ _ _ h => h) (Or.inl ⟨by rfl, ?_⟩) hS0 ?_
  · intro wS hSw
    have z0 := (hSw.cell (lt_of_cell q1)).trans q1
    go_simp
  simp only [Act.put, List.setIfInBounds_toArray, List.set_cons_zero, List.set_cons_succ]
  refine wpAnyH_take (i := 15) (oi := { dst := some 33, op := .move (.tmp 0), type := _, pos := _, after := _, guard := some (9, true) }) (v := .pointer (some ⟨g, 0, none⟩)) rfl (by kernel_rfl) (by kernel_rfl) (by kernel_rfl) (fun _ _ _ h => h) (Or.inl ⟨by rfl, ?_⟩) hS0 ?_
  · intro wS hSw
    go_simp
  simp only [Act.put, List.setIfInBounds_toArray, List.set_cons_zero, List.set_cons_succ]
  refine wpAnyH_ready (rs := [16]) (by kernel_rfl) (by simp) ?_
  refine AllReadyH.cons (o := { dst := some 34, op := .call { callee := .value (.func 21), args := #[.tmp 33], argTypes := #[22] }, type := _, pos := _, after := _, guard := some (9, true) }) rfl (fun K hK => ?_) AllReadyH.nil
  rw [if_pos (by rfl)]
  have sv1 := hS0.size
  go_wp2_with (go_at_call 21; refine (HU.out _ hS0).mono ?_; rintro e x1 ⟨rfl, hb1⟩)
  have sz1 := hb1.size
  have hS1 := hS0.trans (hb1.mono hS0.size)
  refine hK.out _ _ hS1 (fun _ => ?_)
  clear hK K
  refine wpAnyH_take (i := 17) (oi := { dst := some 35, op := .binOp .sub 3 (.tmp 32) (.tmp 34) 3, type := _, pos := _, after := _, guard := some (9, true) }) (v := .int .i64 ((sz : Int) - (su : Int))) rfl (by kernel_rfl) (by kernel_rfl) (by kernel_rfl) (fun _ _ _ h => h) (Or.inl ⟨by rfl, ?_⟩) hS1 ?_
  · intro wS hSw
    go_simp
    try rw [hwr.out]
    try rfl
  simp only [Act.put, List.setIfInBounds_toArray, List.set_cons_zero, List.set_cons_succ]
  refine wpAnyH_take (i := 18) (oi := { dst := some 36, op := .binOp .leq 3 (.tmp 28) (.tmp 35) 3, type := _, pos := _, after := _, guard := some (9, true) }) (v := .bool false) rfl (by kernel_rfl) (by kernel_rfl) (by kernel_rfl) (fun _ _ _ h => h) (Or.inl ⟨by rfl, ?_⟩) hS1 ?_
  · intro wS hSw
    go_simp
    have hz := hle.out
    omega
  simp only [Act.put, List.setIfInBounds_toArray, List.set_cons_zero, List.set_cons_succ]
  refine wpAnyH_take (i := 19) (oi := { dst := some 37, op := .pick (.tmp 27) (.tmp 36) (.const (.bool false)), type := _, pos := _, after := _, guard := none }) (v := .bool false) rfl (by kernel_rfl) (by kernel_rfl) (by kernel_rfl) (fun _ _ _ h => h) (Or.inl ⟨by rfl, ?_⟩) hS1 ?_
  · intro wS hSw
    go_simp
  simp only [Act.put, List.setIfInBounds_toArray, List.set_cons_zero, List.set_cons_succ]
  refine wpAnyH_take (i := 20) (oi := { dst := some 6, op := .assign (.tmp 37), type := _, pos := _, after := _, guard := none }) (v := .bool false) rfl (by kernel_rfl) (by kernel_rfl) (by kernel_rfl) (fun _ _ _ h => h) (Or.inl ⟨by rfl, ?_⟩) hS1 ?_
  · intro wS hSw
    go_simp
  simp only [Act.put, List.setIfInBounds_toArray, List.set_cons_zero, List.set_cons_succ]
  refine wpAnyH_done (by kernel_rfl) ?_ _
  go_wp2
  go_ret
  exact ⟨rfl, hB0.out.trans (hS1.mono hB0.out.size)⟩

theorem room_5 (g mb B : Nat) (w : World) (m : FMap) (sz wr n : Nat) (lf : Int) (nm : ByteArray) (h : Ds B w g mb m sz lf wr) (hb : sumM m ≤ 67108864) (hsz : sz ≤ 67108864) (hs : nm.size ≤ 9223372036854775807) (hl : lookM m nm = none) (hm : ¬ m.length < 256) :
    Calls Tryd.prog 35 #[.pointer (some ⟨g, 0, none⟩), .string nm, .int .i64 (n : Int)] w fun r w' => r = .returned (.bool false) ∧ Below w.heap.size w w' := by
  have HP0 := hidU h.mp
  have q2 := h.files
  have q1 := h.at_.cell 1
  simp only [List.getElem?_cons_zero, List.getElem?_cons_succ] at q1
  obtain ⟨su, hsu⟩ : ∃ su, Hid (su = sumM m) := ⟨_, (rfl : _ = sumM m)⟩
  have hsu1 : su ≤ 67108864 := by rw [hsu.out]; exact hb
  have hlu := h.lt
  have hH := hidU h
  have HL := hidU hl
  clear h hl hlu
  go_enter Tryd.func35, Tryd.ntmps35
  go_wp2_with (first
    | (refine wpList_look mF rfl (.tmp 13) (.tmp 14) true rfl nm rfl rfl HP0.out hs (.tuple #[.agg #[.slice none 0 0, .int .i64 0, .bool false], .bool false]) (by rw [HL.out]; rfl) ?_)
    | (refine wpList_alloc_at rfl 66 rfl [.slice none 0 0, .int .i64 0, .bool false] 3 z66 ?_; intro w1 hA1 hb1 hs1)
    | (refine wpList_store_at rfl 66 (.tmp 7) (.tmp 16) rfl w.heap.size [.slice none 0 0, .int .i64 0, .bool false] rfl rfl 66 _ hA1 i66 rfl one3 ?_; intro y hA2 hb2 hs2; refine Hid.out ?_))
  have hB0 : Hid (Below w.heap.size w y) := hidU (hb2.below hb1 (Nat.le_refl _) hb1.size)
  have HP := hidU (HP0.out.below hB0.out)
  have q2 := (hB0.out.cell (lt_of_cell q2)).trans q2
  have q1 := (hB0.out.cell (lt_of_cell q1)).trans q1
  refine hidU ?_
  have HU : Hid (∀ x, Below y.heap.size y x → Calls Tryd.prog 21 #[.pointer (some ⟨g, 0, none⟩)] x fun r w' => r = .returned (.int .i64 (su : Int)) ∧ Below x.heap.size x w') := hidU (fun x hx => by
    rw [hsu.out]
    exact used_p (hH.out.below (hB0.out.trans (hx.mono hB0.out.size))) hb)
  obtain ⟨ml, hml⟩ : ∃ ml, Hid (m.length = ml) := ⟨_, (rfl : m.length = _)⟩
  have hwr : Hid (IntKind.i64.wrap ((sz : Int) - (su : Int)) = (sz : Int) - (su : Int)) := by show _ = _; rw [IntKind.wrap_i64]; omega
  have hlt : Hid (¬ (ml : Int) < 256) := hidU (by have := hml.out; omega)
  clear hA1 hA2 hb1 hb2 hs1 hs2 hsu HL HP0
  go_wp2
  have hS0 : Below y.heap.size y y.drew := Below.drew (Below.refl _ _)
  refine wp_region_held_drew (S := fun xS => Below y.heap.size y xS) (by kernel_rfl) hS0 ?_
  obtain ⟨x0, hx0⟩ : ∃ x, x = y.drew := ⟨_, rfl⟩
  rw [← hx0] at hS0  ⊢
  clear hx0
  intro _
  refine wpAnyH_take (i := 0) (oi := { dst := some 18, op := .move (.tmp 8), type := _, pos := _, after := _, guard := none }) (v := .bool false) rfl (by kernel_rfl) (by kernel_rfl) (by kernel_rfl) (fun _ _ _ h => h) (Or.inl ⟨by rfl, ?_⟩) hS0 ?_
  · intro wS hSw
    go_simp
  simp only [Act.put, List.setIfInBounds_toArray, List.set_cons_zero, List.set_cons_succ]
  refine wpAnyH_take (i := 1) (oi := { dst := some 19, op := .move (.tmp 18), type := _, pos := _, after := _, guard := none }) (v := .bool false) rfl (by kernel_rfl) (by kernel_rfl) (by kernel_rfl) (fun _ _ _ h => h) (Or.inl ⟨by rfl, ?_⟩) hS0 ?_
  · intro wS hSw
    go_simp
  simp only [Act.put, List.setIfInBounds_toArray, List.set_cons_zero, List.set_cons_succ]
  refine wpAnyH_take (i := 2) (oi := { dst := some 20, op := .move (.tmp 0), type := _, pos := _, after := _, guard := some (1, false) }) (v := .pointer (some ⟨g, 0, none⟩)) rfl (by kernel_rfl) (by kernel_rfl) (by kernel_rfl) (fun _ _ _ h => h) (Or.inl ⟨by rfl, ?_⟩) hS0 ?_
  · intro wS hSw
    go_simp
  simp only [Act.put, List.setIfInBounds_toArray, List.set_cons_zero, List.set_cons_succ]
  refine wpAnyH_take (i := 3) (oi := { dst := some 21, op := .nilCheck (.tmp 20), type := _, pos := _, after := _, guard := some (1, false) }) (v := .pointer (some ⟨g, 0, none⟩)) rfl (by kernel_rfl) (by kernel_rfl) (by kernel_rfl) (fun _ _ _ h => h) (Or.inl ⟨by rfl, ?_⟩) hS0 ?_
  · intro wS hSw
    go_simp
  simp only [Act.put, List.setIfInBounds_toArray, List.set_cons_zero, List.set_cons_succ]
  refine wpAnyH_take (i := 4) (oi := { dst := some 22, op := .fieldAddr 35 (.tmp 21) 2, type := _, pos := _, after := _, guard := some (1, false) }) (v := .pointer (some ⟨g, 2, none⟩)) rfl (by kernel_rfl) (by kernel_rfl) (by kernel_rfl) (fun _ _ _ h => h) (Or.inl ⟨by rfl, ?_⟩) hS0 ?_
  · intro wS hSw
    go_simp
  simp only [Act.put, List.setIfInBounds_toArray, List.set_cons_zero, List.set_cons_succ]
  refine wpAnyH_take (i := 5) (oi := { dst := some 23, op := .load 33 (.tmp 22), type := _, pos := _, after := _, guard := some (1, false) }) (v := .map (some mb)) rfl (by kernel_rfl) (by kernel_rfl) (by kernel_rfl) (fun _ _ _ h => h) (Or.inl ⟨by rfl, ?_⟩) hS0 ?_
  · intro wS hSw
    have z0 := (hSw.cell (lt_of_cell q2)).trans q2
    go_simp
  simp only [Act.put, List.setIfInBounds_toArray, List.set_cons_zero, List.set_cons_succ]
  refine wpAnyH_take (i := 6) (oi := { dst := some 24, op := .call { callee := .builtin .len, args := #[.tmp 23], argTypes := #[33] }, type := _, pos := _, after := _, guard := some (1, false) }) (v := .int .i64 (ml : Int)) rfl (by kernel_rfl) (by kernel_rfl) (by kernel_rfl) (fun _ _ _ h => h) (Or.inl ⟨by rfl, ?_⟩) hS0 ?_
  · intro wS hSw
    have hz := (HP.out.below hSw).len 3
    simp only [mF, hml.out] at hz
    go_simp
    try rw [hz]
    try rfl
  simp only [Act.put, List.setIfInBounds_toArray, List.set_cons_zero, List.set_cons_succ]
  refine wpAnyH_take (i := 7) (oi := { dst := some 25, op := .binOp .lss 3 (.tmp 24) (.const (.int .i64 256)) 3, type := _, pos := _, after := _, guard := some (1, false) }) (v := .bool false) rfl (by kernel_rfl) (by kernel_rfl) (by kernel_rfl) (fun _ _ _ h => h) (Or.inl ⟨by rfl, ?_⟩) hS0 ?_
  · intro wS hSw
    go_simp
    have hz := hlt.out
    omega
  simp only [Act.put, List.setIfInBounds_toArray, List.set_cons_zero, List.set_cons_succ]
  refine wpAnyH_take (i := 8) (oi := { dst := some 26, op := .pick (.tmp 19) (.const (.bool true)) (.tmp 25), type := _, pos := _, after := _, guard := none }) (v := .bool false) rfl (by kernel_rfl) (by kernel_rfl) (by kernel_rfl) (fun _ _ _ h => h) (Or.inl ⟨by rfl, ?_⟩) hS0 ?_
  · intro wS hSw
    go_simp
  simp only [Act.put, List.setIfInBounds_toArray, List.set_cons_zero, List.set_cons_succ]
  refine wpAnyH_take (i := 9) (oi := { dst := some 27, op := .move (.tmp 26), type := _, pos := _, after := _, guard := none }) (v := .bool false) rfl (by kernel_rfl) (by kernel_rfl) (by kernel_rfl) (fun _ _ _ h => h) (Or.inl ⟨by rfl, ?_⟩) hS0 ?_
  · intro wS hSw
    go_simp
  simp only [Act.put, List.setIfInBounds_toArray, List.set_cons_zero, List.set_cons_succ]
  refine wpAnyH_take (i := 10) (oi := { dst := some 28, op := .move (.tmp 2), type := _, pos := _, after := _, guard := some (9, true) }) (v := undef) rfl (by kernel_rfl) (by kernel_rfl) (by kernel_rfl) (fun _ _ _ h => h) (Or.inr ⟨by rfl, rfl⟩) hS0 ?_
  simp only [Act.put, List.setIfInBounds_toArray, List.set_cons_zero, List.set_cons_succ]
  refine wpAnyH_take (i := 11) (oi := { dst := some 29, op := .move (.tmp 0), type := _, pos := _, after := _, guard := some (9, true) }) (v := undef) rfl (by kernel_rfl) (by kernel_rfl) (by kernel_rfl) (fun _ _ _ h => h) (Or.inr ⟨by rfl, rfl⟩) hS0 ?_
  simp only [Act.put, List.setIfInBounds_toArray, List.set_cons_zero, List.set_cons_succ]
  refine wpAnyH_take (i := 12) (oi := { dst := some 30, op := .nilCheck (.tmp 29), type := _, pos := _, after := _, guard := some (9, true) }) (v := undef) rfl (by kernel_rfl) (by kernel_rfl) (by kernel_rfl) (fun _ _ _ h => h) (Or.inr ⟨by rfl, rfl⟩) hS0 ?_
  simp only [Act.put, List.setIfInBounds_toArray, List.set_cons_zero, List.set_cons_succ]
  refine wpAnyH_take (i := 13) (oi := { dst := some 31, op := .fieldAddr 35 (.tmp 30) 1, type := _, pos := _, after := _, guard := some (9, true) }) (v := undef) rfl (by kernel_rfl) (by kernel_rfl) (by kernel_rfl) (fun _ _ _ h => h) (Or.inr ⟨by rfl, rfl⟩) hS0 ?_
  simp only [Act.put, List.setIfInBounds_toArray, List.set_cons_zero, List.set_cons_succ]
  refine wpAnyH_take (i := 14) (oi := { dst := some 32, op := .load 3 (.tmp 31), type := _, pos := _, after := _, guard := some (9, true) }) (v := undef) rfl (by kernel_rfl) (by kernel_rfl) (by kernel_rfl) (fun _ _ _ h => h) (Or.inr ⟨by rfl, rfl⟩) hS0 ?_
  simp only [Act.put, List.setIfInBounds_toArray, List.set_cons_zero, List.set_cons_succ]
  refine wpAnyH_take (i := 15) (oi := { dst := some 33, op := .move (.tmp 0), type := _, pos := _, after := _, guard := some (9, true) }) (v := undef) rfl (by kernel_rfl) (by kernel_rfl) (by kernel_rfl) (fun _ _ _ h => h) (Or.inr ⟨by rfl, rfl⟩) hS0 ?_
  simp only [Act.put, List.setIfInBounds_toArray, List.set_cons_zero, List.set_cons_succ]
  refine wpAnyH_take (i := 16) (oi := { dst := some 34, op := .call { callee := .value (.func 21), args := #[.tmp 33], argTypes := #[22] }, type := _, pos := _, after := _, guard := some (9, true) }) (v := undef) rfl (by kernel_rfl) (by kernel_rfl) (by kernel_rfl) (fun _ _ _ h => h) (Or.inr ⟨by rfl, rfl⟩) hS0 ?_
  simp only [Act.put, List.setIfInBounds_toArray, List.set_cons_zero, List.set_cons_succ]
  refine wpAnyH_take (i := 17) (oi := { dst := some 35, op := .binOp .sub 3 (.tmp 32) (.tmp 34) 3, type := _, pos := _, after := _, guard := some (9, true) }) (v := undef) rfl (by kernel_rfl) (by kernel_rfl) (by kernel_rfl) (fun _ _ _ h => h) (Or.inr ⟨by rfl, rfl⟩) hS0 ?_
  simp only [Act.put, List.setIfInBounds_toArray, List.set_cons_zero, List.set_cons_succ]
  refine wpAnyH_take (i := 18) (oi := { dst := some 36, op := .binOp .leq 3 (.tmp 28) (.tmp 35) 3, type := _, pos := _, after := _, guard := some (9, true) }) (v := undef) rfl (by kernel_rfl) (by kernel_rfl) (by kernel_rfl) (fun _ _ _ h => h) (Or.inr ⟨by rfl, rfl⟩) hS0 ?_
  simp only [Act.put, List.setIfInBounds_toArray, List.set_cons_zero, List.set_cons_succ]
  refine wpAnyH_take (i := 19) (oi := { dst := some 37, op := .pick (.tmp 27) (.tmp 36) (.const (.bool false)), type := _, pos := _, after := _, guard := none }) (v := .bool false) rfl (by kernel_rfl) (by kernel_rfl) (by kernel_rfl) (fun _ _ _ h => h) (Or.inl ⟨by rfl, ?_⟩) hS0 ?_
  · intro wS hSw
    go_simp
  simp only [Act.put, List.setIfInBounds_toArray, List.set_cons_zero, List.set_cons_succ]
  refine wpAnyH_take (i := 20) (oi := { dst := some 6, op := .assign (.tmp 37), type := _, pos := _, after := _, guard := none }) (v := .bool false) rfl (by kernel_rfl) (by kernel_rfl) (by kernel_rfl) (fun _ _ _ h => h) (Or.inl ⟨by rfl, ?_⟩) hS0 ?_
  · intro wS hSw
    go_simp
  simp only [Act.put, List.setIfInBounds_toArray, List.set_cons_zero, List.set_cons_succ]
  refine wpAnyH_done (by kernel_rfl) ?_ _
  go_wp2
  go_ret
  exact ⟨rfl, hB0.out.trans (hS0.mono hB0.out.size)⟩

end Go.Proofs.YtcmkjjlchljffaaDoor

/- The landed disk: the file of a name, or the zero file; appends that tell where the row lies. -/
namespace Go.Proofs.YtcmkjjlchljffaaDoor
open Go.RowKit
set_option linter.unusedVariables false

theorem app_fresh {P : Program} (w : World) (base : Nat) (t ty e : TypeId) (i : TypeInfo) (z : Value) (size bytes : Nat) (ht : P.underlying t = some (.slice e)) (hi : P.info? e = some i) (hz : i.zero = some z)
    (hsize : i.size = size) (hby : i.bytes = bytes) (hzs : z.cells.size = size) (hsz : 0 < size)
    (v : Value) (n : Nat) (xs : List Value) (hown : w.ownsRow base e size v n xs)
    (a : Addr) (m c : Nat) (news : List Value) (hl : news.length = m * size) (hnews : ∀ j u, news[j]? = some u → w.cell? (a.add j) = some u) (h1 : ∀ u ∈ news, u.oneCell' = true)
    (h63 : n + m ≤ maxLen) (hbytes : (n + m) * bytes ≤ 140737488355328) (hbase : base ≤ w.heap.size) :
    ∃ v' w', (Builtin.append_ #[t, t] ty #[v, .slice (some a) m c]).run P w = .ok v' w' ∧ w'.ownsRow base e size v' (n + m) (xs ++ news) ∧ w.grownBy w' v.ownBlock ∧
      (v'.ownBlock = v.ownBlock ∨ v'.ownBlock = some w.heap.size) := by
  obtain ⟨v', w', h2, h3, h4, h5⟩ := run_append_own (P := P) w base t ty e i z size bytes ht hi hz hsize hby hzs hsz v n xs hown a m c news hl hnews h1 h63 hbytes hbase
  refine ⟨v', w', h2, h3, h4, ?_⟩
  subst hsize
  subst hby
  have hmm : n + m ≤ 9223372036854775807 := by simp only [maxLen] at h63; omega
  rcases hown.2 with ⟨rfl, rfl⟩ | ⟨g, cap, cur, rfl, hbg, hg, hnc, hcm, hcs, htake⟩
  · by_cases hm : m = 0
    · exact .inl (by rw [h5.2 ⟨rfl, hm⟩])
    · have hr := run_append_nil (P := P) w t ty e i z ht hi hz a m c news hl hnews (by omega) (by omega) (by have hb := hbytes; simp only [Nat.zero_add] at hb; omega)
      rw [h2] at hr
      cases hr
      exact .inr rfl
  · by_cases hroom : n + m ≤ cap
    · have hfit : n * i.size + news.length ≤ cur.size := by rw [hl, hcs, ← Nat.add_mul]; exact Nat.mul_le_mul_right _ hroom
      have hr := run_append_room (P := P) w t ty e i ht hi g n cap cur hg a m c news hl hnews h1 hroom hfit
      rw [h2] at hr
      cases hr
      exact .inl rfl
    · have hr := run_append_grow (P := P) w t ty e i z ht hi hz ⟨g, 0, none⟩ n cap xs hown.1 (hown.cells (g := g) rfl) a m c news hl hnews (by omega) (by omega) (growslice_fits (by omega) hbytes)
      rw [h2] at hr
      cases hr
      exact .inr rfl
section
variable {o : Oper} {a : Act} {w : World} {Q : Exit → Act → World → Prop} {ops : Array Oper} {rest : List Oper} {bs ys : List UInt8}
theorem wpList_appF (hgd : o.guard = none) (s x : Operand) (ho : o.op = .call { callee := .builtin .append, args := #[s, x], argTypes := #[29, 29] }) (base : Nat) (v : Value) (b : Option Addr) (m c : Nat)
    (hs : a.eval s = v) (hx : a.eval x = .slice b m c) (hown : OwnX eB base w v bs) (hm : ys.length = m) (hnil : b = none → c = 0) (hc : m ≤ c) (hrow : Row w b ys) (hl : bs.length + m ≤ 1048576000) (hbase : base ≤ w.heap.size)
    (h : ∀ v' w', OwnX eB base w' v' (bs ++ ys) → w.grownBy w' v.ownBlock → (v'.ownBlock = v.ownBlock ∨ v'.ownBlock = some w.heap.size) → wpList Tryd.prog ops Q rest (a.put o.dst v') w') : wpList Tryd.prog ops Q (o :: rest) a w := by
  refine wpList_plain hgd fun K hK => ?_
  obtain ⟨i0, hi, hz0, hz1, hz2⟩ := info_parts Tryd.info5
  cases b with
  | none =>
    obtain rfl : c = 0 := hnil rfl
    obtain rfl : m = 0 := by omega
    have hf : ys = [] := List.length_eq_zero_iff.1 hm
    subst hf
    have := hK _ _ (h v w (by rw [List.append_nil]; exact hown) ⟨rfl, rfl, rfl, Nat.le_refl _, fun _ _ _ => rfl⟩ (.inl rfl))
    have hrun := run_append_owned_none (P := Tryd.prog) (w := w) base 29 o.type 5 i0 1 Tryd.underlying29 hi v bs.length (eB.flat bs) hown
    unfold Oper.wp
    simp [execOp, ho, resolve, invoke, builtin, hs, hx, hrun, Result.andThen]
    exact this
  | some ad =>
    have hnews : ∀ j u, (eB.flat ys)[j]? = some u → w.cell? (ad.add j) = some u := by
      intro j u hj
      rcases rowB.2 hrow with h0 | ⟨g, off, hb, hr⟩
      · rw [h0] at hj; simp [El.flat] at hj
      · cases hb
        rw [add_none]
        exact hr j u hj
    have hfl : (eB.flat ys).length = m * 1 := by rw [flat_len, hm]; rfl
    obtain ⟨v', w', h2, h3, h4, h5⟩ := app_fresh (P := Tryd.prog) w base 29 o.type 5 i0 (.int .u8 0) 1 1 Tryd.underlying29 hi hz0 hz1 hz2 rfl (by decide) v bs.length (eB.flat bs) hown ad m c (eB.flat ys) hfl hnews (flat_one eB ys) (by unfold maxLen; omega) (by omega) hbase
    unfold Oper.wp
    simp [execOp, ho, resolve, invoke, builtin, hs, hx, h2, Result.andThen]
    refine hK _ _ (h v' w' ?_ h4 h5)
    unfold OwnX
    rw [List.length_append, hm, flat_app]
    exact h3
end
section
variable {B g mb : Nat} {w w' : World} {m : FMap} {sz wr : Nat} {lf : Int} {nm : ByteArray}
def zeroF : FM := ⟨.slice none 0 0, [], 0, false⟩
def fileM (m : FMap) (nm : ByteArray) : FM := (lookM m nm).getD zeroF
theorem fileM_val (m : FMap) (nm : ByteArray) : ((lookM m nm).map mF.val).getD mF.z = (fileM m nm).val := by
  unfold fileM
  cases lookM m nm <;> rfl
theorem file_none (h : lookM m nm = none) : fileM m nm = zeroF := by unfold fileM; rw [h]; rfl
theorem file_some {f : FM} (h : lookM m nm = some f) : fileM m nm = f := by unfold fileM; rw [h]; rfl
theorem sum_mem {p : ByteArray × FM} : ∀ {m : FMap}, p ∈ m → p.2.bs.length ≤ sumM m
  | q :: m, h => by
    rw [show sumM (q :: m) = q.2.bs.length + sumM m by simp [sumM]]
    rcases List.mem_cons.1 h with e | e
    · rw [e]; omega
    · have := sum_mem e; omega
theorem file_parts (h : Ds B w g mb m sz lf wr) (hsf : ∀ p ∈ m, p.2.sf ≤ p.2.bs.length) (nm : ByteArray) : ∃ a n c bs sf hd, fileM m nm = ⟨.slice a n c, bs, sf, hd⟩ ∧ bs.length = n ∧ n ≤ c ∧ (a = none → c = 0) ∧ Row w a bs ∧ OwnX eB B w (.slice a n c) bs ∧ n ≤ sumM m ∧ sf ≤ n := by
  cases hl : lookM m nm with
  | none => exact ⟨none, 0, 0, [], 0, false, file_none hl, rfl, Nat.le_refl _, fun _ => rfl, .inl rfl, OwnX.nil _ _ _, Nat.zero_le _, Nat.le_refl _⟩
  | some f =>
    obtain ⟨a, n, c, bs, sf, hd, rfl, hn, h1, h2, h3, h4, h5⟩ := look_parts h hl
    have h6 := sum_mem (look_mem hl)
    have h7 := hsf _ (look_mem hl)
    simp only [hn] at h6 h7
    exact ⟨a, n, c, bs, sf, hd, file_some hl, hn, h1, h3, h4, h5, h6, h7⟩
theorem MapS.lookF (h : MapS mF w mb m) (hs : nm.size ≤ maxLen) : (Instr.lookup 33 (.map (some mb)) (.string nm) false).run Tryd.prog w = .ok (fileM m nm).val w := by
  have := h.look hs false
  rw [fileM_val] at this
  exact this
theorem MapS.lookT (h : MapS mF w mb m) (hs : nm.size ≤ maxLen) : (Instr.lookup 33 (.map (some mb)) (.string nm) true).run Tryd.prog w = .ok (.tuple #[(fileM m nm).val, .bool (lookM m nm).isSome]) w := by
  have := h.look hs true
  rw [fileM_val] at this
  exact this
/-- A struct is stored into a block that holds one: one step of a region that draws its order. -/
theorem wp_store3 {o : Oper} {a : Act} {w : World} {K : Act → World → Prop} {Q : Exit → Act → World → Prop} (x y : Operand) (ho : o.op = .store 66 x y)
    (g : Nat) (cs : List Value) (hx : a.eval x = .pointer (some ⟨g, 0, none⟩)) (hy : a.eval y = .agg cs.toArray)
    (old : List Value) (hg : At 66 w g old) (hc : cs.length = 3) (hold : old.length = cs.length) (h1 : ∀ v ∈ cs, v.oneCell' = true)
    (h : ∀ w', At 66 w' g cs → But g w w' → w'.heap.size = w.heap.size → K (a.put o.dst undef) w') : o.wp Tryd.prog a w K Q := by
  refine wp_store_row 66 x y ho g cs.toArray hx hy 66 old.toArray hg (by rw [i66]; simp [hc]) (by simpa using hold) (by simpa using h1) ?_
  exact h _ (setRow_heap w g _ _ 66 _ hg) ⟨rfl, rfl, rfl, by simp, fun k _ hn => setRow_other w g k _ hn⟩ (by simp)
theorem room_any (n : Nat) (h : Ds B w g mb m sz lf wr) (hb : sumM m ≤ 67108864) (hsz : sz ≤ 67108864) (hs : nm.size ≤ 9223372036854775807) :
    Calls Tryd.prog 35 #[.pointer (some ⟨g, 0, none⟩), .string nm, .int .i64 (n : Int)] w fun r w' => r = .returned (.bool (roomB m nm sz n)) ∧ Below w.heap.size w w' := by
  unfold roomB
  by_cases hle : (n : Int) ≤ (sz : Int) - (sumM m : Int)
  · rw [decide_eq_true hle, Bool.and_true]
    cases hl : lookM m nm with
    | some f => exact room_1 g mb B w m sz wr n lf nm h hb hsz hs hl hle
    | none =>
      by_cases hm : m.length < 256
      · rw [decide_eq_true hm]; exact room_3 g mb B w m sz wr n lf nm h hb hsz hs hl hm hle
      · rw [decide_eq_false hm]; exact room_5 g mb B w m sz wr n lf nm h hb hsz hs hl hm
  · rw [decide_eq_false hle, Bool.and_false]
    cases hl : lookM m nm with
    | some f => exact room_2 g mb B w m sz wr n lf nm h hb hsz hs hl hle
    | none =>
      by_cases hm : m.length < 256
      · exact room_4 g mb B w m sz wr n lf nm h hb hsz hs hl hm hle
      · exact room_5 g mb B w m sz wr n lf nm h hb hsz hs hl hm
end
end Go.Proofs.YtcmkjjlchljffaaDoor

/- The landed disk: what its writes do, each by its closure. -/
namespace Go.Proofs.YtcmkjjlchljffaaDoor
open Go.RowKit
set_option linter.unusedVariables false
set_option maxRecDepth 100000
set_option maxHeartbeats 6400000

theorem wp_alloc_at {P : Program} {o : Oper} {a : Act} {w : World} {K : Act → World → Prop} {Q : Exit → Act → World → Prop} (t : TypeId) (ho : o.op = .alloc t) (cs : List Value) (n : Nat) (hz : (P.info? t).map (fun i => (i.zero, i.size)) = some (some (.agg cs.toArray), n))
    (h : ∀ w', At t w' w.heap.size cs → Below w.heap.size w w' → w'.heap.size = w.heap.size + 1 → K (a.put o.dst (.pointer (some ⟨w.heap.size, 0, none⟩))) w') : o.wp P a w K Q := by
  have := h (w.alloc (.cells cs.toArray t)) (_root_.Go.heap_alloc_new w _) ((Below.refl _ w).alloc (Nat.le_refl _) _) (by show (w.heap.push _).size = _; simp)
  have h0 := (zero_of_info hz).1
  unfold Oper.wp execOp
  simp only [ho, Instr.alloc, Sem.run_bind, h0]
  simpa [newVar, go_sem, Value.cells] using this
section
variable {B g mb : Nat} {w : World} {m : FMap} {sz wr : Nat} {lf : Int} {nm : ByteArray}
/-- The blocks of a file that is there. -/
abbrev OfF (m : FMap) (nm : ByteArray) : Nat → Prop := fun k => ∃ p, lookM m nm = some p ∧ p.v.ownBlock = some k
theorem file_block {k : Nat} (h : (fileM m nm).v.ownBlock = some k) : OfF m nm k := by
  unfold fileM at h
  cases hl : lookM m nm with
  | none => rw [hl] at h; cases h
  | some p => rw [hl] at h; exact ⟨p, hl, h⟩
theorem put_wrt (h : Ds B w g mb m sz lf wr) (hk : nm.size ≤ 40) (a : Option Addr) (n c : Nat) (bs : List UInt8) (sf : Nat) (hd : Bool) (x : World) (hc : Chg (OfF m nm) w x) (ho : OwnX eB B x (.slice a n c) bs)
    (hv : ∀ k, (Value.slice a n c).ownBlock = some k → OfF m nm k ∨ w.heap.size ≤ k) :
    Calls Tryd.prog 38 #[.pointer (some ⟨g, 0, none⟩), .string nm, .agg #[.slice a n c, .int .i64 (sf : Int), .bool hd]] x fun r w' => r = .returned (.tuple #[]) ∧ Wrt B w w' mb m (updM m nm ⟨.slice a n c, bs, sf, hd⟩) := by
  have ng : ¬ OfF m nm g := fun ⟨p, h1, h2⟩ => h.neG (look_mem h1) h2
  have nb : ¬ OfF m nm mb := fun ⟨p, h1, h2⟩ => h.neM (look_mem h1) h2
  have hA := h.at_.same (hc.block g (heapLt h.at_) ng)
  have hM := h.mp.same (hc.block mb h.mp.lt nb)
  have q : x.cell? ⟨g, 2, none⟩ = some (.map (some mb)) := by rw [hA.cell]; rfl
  refine (put_any g mb m a n c bs sf hd nm x q hM (by omega)).mono ?_
  rintro r w' ⟨rfl, hM', y, hy, hb⟩
  refine ⟨rfl, Wrt.upd h hM' ?_ hk ?_ hv⟩
  · refine (ho.below hy).same fun k hk => hb.block k ((ho.below hy).block k hk).2.1 ?_
    rintro rfl
    rcases hv k hk with e | e
    · exact nb e
    · have := h.mp.lt; omega
  · refine ((hc.trans (Chg.of_below hy)).mono fun k _ e => .inr e).trans (Chg.of_but hb (.inl rfl))
theorem grown_at {x x' : World} {v : Value} {bs : List UInt8} {t : TypeId} {k : Nat} {cs : List Value} (hg : x.grownBy x' v.ownBlock) (ho : OwnX eB B x v bs) (hA : At t x k cs) (ht : t ≠ 5) : At t x' k cs := by
  refine hA.same (hg.block k hA.lt fun e => ?_)
  obtain ⟨_, _, cs', hA'⟩ := ho.block k e.symm
  exact hA.ne hA' ht rfl
end
theorem append_c (B g mb : Nat) (w : World) (m : FMap) (sz wr : Nat) (lf : Int) (nm : ByteArray) (kd kn kb : Nat) (ba : Option Addr) (lb bc : Nat) (b : List UInt8) (h : Ds B w g mb m sz lf wr) (hsf : ∀ p ∈ m, p.2.sf ≤ p.2.bs.length) (hBw : B ≤ w.heap.size)
    (hd_ : At 22 w kd [.pointer (some ⟨g, 0, none⟩)]) (hn_ : At 9 w kn [.string nm]) (hb_ : At 29 w kb [.slice ba lb bc]) (hrow : Row w ba b) (hlb : b.length = lb) (hbc : lb ≤ bc) (hnil : ba = none → bc = 0) (hsum : sumM m + lb ≤ 67108864) (h40 : nm.size ≤ 40) :
    Calls Tryd.prog 37 #[.pointer (some ⟨kd, 0, none⟩), .pointer (some ⟨kn, 0, none⟩), .pointer (some ⟨kb, 0, none⟩)] w fun r w' => r = .returned (.tuple #[]) ∧ ∃ v, Wrt B w w' mb m (updM m nm { fileM m nm with v := v, bs := (fileM m nm).bs ++ b }) := by
  obtain ⟨a, n, c, bs, sf, hd, hf, hn, hnc, hn0, hrw, hO, hns, hsn⟩ := file_parts h hsf nm
  have hs : nm.size ≤ maxLen := by unfold maxLen; omega
  have HLk : Hid (∀ x, Below w.heap.size w x → (Instr.lookup 33 (.map (some mb)) (.string nm) false).run Tryd.prog x = .ok (.agg #[.slice a n c, .int .i64 (sf : Int), .bool hd]) x) := hidU (fun x hx => by
    have := (h.mp.below hx).lookF hs
    rw [hf] at this
    exact this)
  have HB := hidU (fun k (hk : (Value.slice a n c).ownBlock = some k) => (file_block (m := m) (nm := nm) (k := k) (by rw [hf]; exact hk) : OfF m nm k))
  rw [hf]
  have H := hidU h
  have HF := hidU hf
  have HO := hidU hO
  have HR := hidU hrow
  have HA1 := hidU hd_
  have HA2 := hidU hn_
  have HA3 := hidU hb_
  have cd : w.cell? ⟨kd, 0, none⟩ = some (.pointer (some ⟨g, 0, none⟩)) := by rw [hd_.cell]; rfl
  have cn : w.cell? ⟨kn, 0, none⟩ = some (.string nm) := by rw [hn_.cell]; rfl
  have cb : w.cell? ⟨kb, 0, none⟩ = some (.slice ba lb bc) := by rw [hb_.cell]; rfl
  have q := h.files
  clear h hf hd_ hn_ hb_ hO hrow hrw hsf
  go_enter Tryd.func37, Tryd.ntmps37
  go_wp2
  have hS0 : Below w.heap.size w w.drew := Below.drew (Below.refl _ _)
  refine wp_region_held_drew (S := fun xS => Below w.heap.size w xS) (by kernel_rfl) hS0 ?_
  obtain ⟨x0, hx0⟩ : ∃ x, x = w.drew := ⟨_, rfl⟩
  rw [← hx0] at hS0  ⊢
  clear hx0
  intro _
  refine wpAnyH_take (i := 0) (oi := { dst := some 4, op := .load 22 (.tmp 0), type := _, pos := _, after := _, guard := none }) (v := .pointer (some ⟨g, 0, none⟩)) rfl (by kernel_rfl) (by kernel_rfl) (by kernel_rfl) (fun _ _ _ h => h) (Or.inl ⟨by rfl, ?_⟩) hS0 ?_
  · intro wS hSw
    have z0 := (hSw.cell (lt_of_cell cd)).trans cd
    go_simp
  simp only [Act.put, List.setIfInBounds_toArray, List.set_cons_zero, List.set_cons_succ]
  refine wpAnyH_take (i := 1) (oi := { dst := some 5, op := .nilCheck (.tmp 4), type := _, pos := _, after := _, guard := none }) (v := .pointer (some ⟨g, 0, none⟩)) rfl (by kernel_rfl) (by kernel_rfl) (by kernel_rfl) (fun _ _ _ h => h) (Or.inl ⟨by rfl, ?_⟩) hS0 ?_
  · intro wS hSw
    go_simp
  simp only [Act.put, List.setIfInBounds_toArray, List.set_cons_zero, List.set_cons_succ]
  refine wpAnyH_take (i := 2) (oi := { dst := some 6, op := .fieldAddr 35 (.tmp 5) 2, type := _, pos := _, after := _, guard := none }) (v := .pointer (some ⟨g, 2, none⟩)) rfl (by kernel_rfl) (by kernel_rfl) (by kernel_rfl) (fun _ _ _ h => h) (Or.inl ⟨by rfl, ?_⟩) hS0 ?_
  · intro wS hSw
    go_simp
  simp only [Act.put, List.setIfInBounds_toArray, List.set_cons_zero, List.set_cons_succ]
  refine wpAnyH_take (i := 3) (oi := { dst := some 7, op := .load 33 (.tmp 6), type := _, pos := _, after := _, guard := none }) (v := .map (some mb)) rfl (by kernel_rfl) (by kernel_rfl) (by kernel_rfl) (fun _ _ _ h => h) (Or.inl ⟨by rfl, ?_⟩) hS0 ?_
  · intro wS hSw
    have z0 := (hSw.cell (lt_of_cell q)).trans q
    go_simp
  simp only [Act.put, List.setIfInBounds_toArray, List.set_cons_zero, List.set_cons_succ]
  refine wpAnyH_take (i := 4) (oi := { dst := some 8, op := .load 9 (.tmp 1), type := _, pos := _, after := _, guard := none }) (v := .string nm) rfl (by kernel_rfl) (by kernel_rfl) (by kernel_rfl) (fun _ _ _ h => h) (Or.inl ⟨by rfl, ?_⟩) hS0 ?_
  · intro wS hSw
    have z0 := (hSw.cell (lt_of_cell cn)).trans cn
    go_simp
  simp only [Act.put, List.setIfInBounds_toArray, List.set_cons_zero, List.set_cons_succ]
  refine wpAnyH_take (i := 5) (oi := { dst := some 9, op := .lookup 33 (.tmp 7) (.tmp 8) false, type := _, pos := _, after := _, guard := none }) (v := .agg #[.slice a n c, .int .i64 (sf : Int), .bool hd]) rfl (by kernel_rfl) (by kernel_rfl) (by kernel_rfl) (fun _ _ _ h => h) (Or.inl ⟨by rfl, ?_⟩) hS0 ?_
  · intro wS hSw
    have hz := HLk.out _ hSw
    go_simp
    try rw [hz]
    try rfl
  simp only [Act.put, List.setIfInBounds_toArray, List.set_cons_zero, List.set_cons_succ]
  refine wpAnyH_ready (rs := [6]) (by kernel_rfl) (by simp) ?_
  refine AllReadyH.cons (o := { dst := some 3, op := .alloc 66, type := _, pos := _, after := _, guard := none }) rfl (fun K hK => ?_) AllReadyH.nil
  rw [if_pos (by rfl)]
  have sv1 := hS0.size
  refine wp_alloc_at 66 rfl [Value.slice none 0 0, .int .i64 0, .bool false] _ z66 ?_
  intro x1 hA1 hb1 hs1
  have lt1 : x0.heap.size < x1.heap.size := hA1.lt
  clear hs1
  have sz1 := hb1.size
  have hS1 := hS0.trans (hb1.mono hS0.size)
  refine hK.out _ _ hS1 (fun _ => ?_)
  clear hK K
  refine wpAnyH_ready (rs := [7]) (by kernel_rfl) (by simp) ?_
  refine AllReadyH.cons (o := { dst := none, op := .store 66 (.tmp 3) (.tmp 9), type := _, pos := _, after := _, guard := none }) rfl (fun K hK => ?_) AllReadyH.nil
  rw [if_pos (by rfl)]
  have sv2 := hS1.size
  refine wp_store3 (.tmp 3) (.tmp 9) rfl (x0.heap.size) [.slice a n c, .int .i64 (sf : Int), .bool hd] rfl rfl _ hA1 rfl rfl one3 ?_
  intro x2 hA2 hb2 hs2
  clear hA1
  have sz2 := hb2.size
  have hS2 := hb2.below hS1 sv1 hS1.size
  refine hK.out _ _ hS2 (fun _ => ?_)
  clear hK K
  refine wpAnyH_done (by kernel_rfl) ?_ _
  have hAG := hA2
  have HBx := hidU (hS2)
  have hGl : w.heap.size ≤ x0.heap.size := sv1
  obtain ⟨G, hG⟩ : ∃ G, G = x0.heap.size := ⟨_, rfl⟩
  rw [← hG] at hAG hGl ⊢
  clear hG hA2 hb1 hb2 hs2 sz1 sz2 sv1 sv2 lt1 hS1 hS2 hS0
  have c0 : x2.cell? ⟨G, 0, none⟩ = some (.slice a n c) := by rw [hAG.cell]; rfl
  have cb2 := (HBx.out.cell (lt_of_cell cb)).trans cb
  go_wp2_with (refine wpList_appF rfl (.tmp 11) (.tmp 12) rfl B _ ba lb bc rfl rfl (HO.out.below HBx.out) hlb hnil hbc (HR.out.below HBx.out) (by rw [hn]; omega) (Nat.le_trans hBw HBx.out.size) ?_; intro v' x3 hO3 hg3 hv3; refine Hid.out ?_)
  have hAG3 := grown_at hg3 (HO.out.below HBx.out) hAG (by decide)
  have C3 := hidU ((Chg.of_below (K := OfF m nm) HBx.out).trans (Chg.of_grown hg3 fun k hk => HB.out k hk))
  have hA13 := hidU (grown_at hg3 (HO.out.below HBx.out) (HA1.out.below HBx.out) (by decide))
  have hA23 := hidU (grown_at hg3 (HO.out.below HBx.out) (HA2.out.below HBx.out) (by decide))
  have hV3 : Hid (∀ k, v'.ownBlock = some k → OfF m nm k ∨ w.heap.size ≤ k) := hidU (fun k hk => by
    rcases hv3 with e | e
    · exact .inl (HB.out k (e ▸ hk))
    · rw [e] at hk
      cases hk
      exact .inr HBx.out.size)
  obtain ⟨a', c', rfl⟩ := own_slice hO3
  obtain ⟨n', hn'⟩ : ∃ n', Hid (n' = (bs ++ b).length) := ⟨_, (rfl : _ = (bs ++ b).length)⟩
  rw [← hn'.out] at hO3 hV3
  refine hidU ?_
  rw [← hn'.out]
  have HO3 := hidU hO3
  clear hg3 hv3 hO3 c0 cb2 hAG
  go_wp2_with (refine wpList_store1 rfl 29 (.tmp 14) (.tmp 13) rfl G 0 (.slice a' n' c') rfl rfl 66 _ hAG3 (by simp) i30 rfl rfl ?_; intro x4 hAG4 hb4 hs4; refine Hid.out ?_)
  simp only [List.set] at hAG4
  refine hidU ?_
  have HO4 : Hid (OwnX eB B x4 (.slice a' n' c') (bs ++ b)) := hidU (HO3.out.same fun k hk => hb4.block k (HO3.out.block k hk).2.1 (by
    rintro rfl
    obtain ⟨_, _, cs, hA⟩ := HO3.out.block k hk
    exact hA.ne hAG3 (show (5 : Nat) ≠ 66 by decide) rfl))
  have C4 := hidU (C3.out.more (Chg.of_but (K := fun k => k = G) hb4 rfl) (fun i hi e => by omega))
  have c1 : x4.cell? ⟨kd, 0, none⟩ = some (.pointer (some ⟨g, 0, none⟩)) := by rw [(hb4.at hA13.out (hA13.out.ne hAG3 (by decide))).cell]; rfl
  have c2 : x4.cell? ⟨kn, 0, none⟩ = some (.string nm) := by rw [(hb4.at hA23.out (hA23.out.ne hAG3 (by decide))).cell]; rfl
  have HP := hidU (put_wrt H.out h40 a' n' c' (bs ++ b) sf hd x4 C4.out HO4.out hV3.out)
  clear hb4 hs4 hAG3 hA13 hA23 cd cn cb q
  go_wp2_with (first
    | (refine wpList_load_at rfl 66 (.tmp 3) rfl G rfl 66 _ hAG4 _ Tryd.underlying66 rfl i66 ?_)
    | (go_at_call 38; refine HP.out.mono ?_; rintro _ x5 ⟨rfl, hW⟩))
  go_end0
  exact ⟨rfl, _, hW⟩

end Go.Proofs.YtcmkjjlchljffaaDoor

/- The landed disk: what Sync, Cut, Rename and Remove do, each by its closure. -/
namespace Go.Proofs.YtcmkjjlchljffaaDoor
open Go.RowKit
set_option linter.unusedVariables false
set_option maxRecDepth 100000
set_option maxHeartbeats 6400000

theorem Wrt.from {B mb : Nat} {w0 w w' : World} {m m' : FMap} (k : Wrt B w w' mb m m') (hb : Below w0.heap.size w0 w) : Wrt B w0 w' mb m m' :=
  ⟨k.mp, k.own, k.apart, k.ns, (Chg.of_below hb).trans k.chg, fun p hp i hi => (k.new p hp i hi).imp id fun e => Nat.le_trans hb.size e⟩
theorem sync_c (B g mb : Nat) (w : World) (m : FMap) (sz wr : Nat) (lf : Int) (nm : ByteArray) (kd kn : Nat) (h : Ds B w g mb m sz lf wr) (hsf : ∀ p ∈ m, p.2.sf ≤ p.2.bs.length)
    (hd_ : At 22 w kd [.pointer (some ⟨g, 0, none⟩)]) (hn_ : At 9 w kn [.string nm]) (hsum : sumM m ≤ 67108864) (h40 : nm.size ≤ 40) :
    Calls Tryd.prog 54 #[.pointer (some ⟨kd, 0, none⟩), .pointer (some ⟨kn, 0, none⟩)] w fun r w' => r = .returned (.tuple #[]) ∧ Wrt B w w' mb m (updM m nm { fileM m nm with sf := (fileM m nm).bs.length, hd := true }) := by
  obtain ⟨a, n, c, bs, sf, hd, hf, hn, hnc, hn0, hrw, hO, hns, hsn⟩ := file_parts h hsf nm
  have hs : nm.size ≤ maxLen := by unfold maxLen; omega
  have HLk : Hid (∀ x, Below w.heap.size w x → (Instr.lookup 33 (.map (some mb)) (.string nm) false).run Tryd.prog x = .ok (.agg #[.slice a n c, .int .i64 (sf : Int), .bool hd]) x) := hidU (fun x hx => by
    have := (h.mp.below hx).lookF hs
    rw [hf] at this
    exact this)
  have HB := hidU (fun k (hk : (Value.slice a n c).ownBlock = some k) => (file_block (m := m) (nm := nm) (k := k) (by rw [hf]; exact hk) : OfF m nm k))
  rw [hf]
  have H := hidU h
  have HF := hidU hf
  have HO := hidU hO
  have HA1 := hidU hd_
  have HA2 := hidU hn_
  have cd : w.cell? ⟨kd, 0, none⟩ = some (.pointer (some ⟨g, 0, none⟩)) := by rw [hd_.cell]; rfl
  have cn : w.cell? ⟨kn, 0, none⟩ = some (.string nm) := by rw [hn_.cell]; rfl
  have q := h.files
  clear h hf hd_ hn_ hO hrw hsf
  go_enter Tryd.func54, Tryd.ntmps54
  go_wp2
  have hS0 : Below w.heap.size w w.drew := Below.drew (Below.refl _ _)
  refine wp_region_held_drew (S := fun xS => Below w.heap.size w xS) (by kernel_rfl) hS0 ?_
  obtain ⟨x0, hx0⟩ : ∃ x, x = w.drew := ⟨_, rfl⟩
  rw [← hx0] at hS0  ⊢
  clear hx0
  intro _
  refine wpAnyH_take (i := 0) (oi := { dst := some 3, op := .load 22 (.tmp 0), type := _, pos := _, after := _, guard := none }) (v := .pointer (some ⟨g, 0, none⟩)) rfl (by kernel_rfl) (by kernel_rfl) (by kernel_rfl) (fun _ _ _ h => h) (Or.inl ⟨by rfl, ?_⟩) hS0 ?_
  · intro wS hSw
    have z0 := (hSw.cell (lt_of_cell cd)).trans cd
    go_simp
  simp only [Act.put, List.setIfInBounds_toArray, List.set_cons_zero, List.set_cons_succ]
  refine wpAnyH_take (i := 1) (oi := { dst := some 4, op := .nilCheck (.tmp 3), type := _, pos := _, after := _, guard := none }) (v := .pointer (some ⟨g, 0, none⟩)) rfl (by kernel_rfl) (by kernel_rfl) (by kernel_rfl) (fun _ _ _ h => h) (Or.inl ⟨by rfl, ?_⟩) hS0 ?_
  · intro wS hSw
    go_simp
  simp only [Act.put, List.setIfInBounds_toArray, List.set_cons_zero, List.set_cons_succ]
  refine wpAnyH_take (i := 2) (oi := { dst := some 5, op := .fieldAddr 35 (.tmp 4) 2, type := _, pos := _, after := _, guard := none }) (v := .pointer (some ⟨g, 2, none⟩)) rfl (by kernel_rfl) (by kernel_rfl) (by kernel_rfl) (fun _ _ _ h => h) (Or.inl ⟨by rfl, ?_⟩) hS0 ?_
  · intro wS hSw
    go_simp
  simp only [Act.put, List.setIfInBounds_toArray, List.set_cons_zero, List.set_cons_succ]
  refine wpAnyH_take (i := 3) (oi := { dst := some 6, op := .load 33 (.tmp 5), type := _, pos := _, after := _, guard := none }) (v := .map (some mb)) rfl (by kernel_rfl) (by kernel_rfl) (by kernel_rfl) (fun _ _ _ h => h) (Or.inl ⟨by rfl, ?_⟩) hS0 ?_
  · intro wS hSw
    have z0 := (hSw.cell (lt_of_cell q)).trans q
    go_simp
  simp only [Act.put, List.setIfInBounds_toArray, List.set_cons_zero, List.set_cons_succ]
  refine wpAnyH_take (i := 4) (oi := { dst := some 7, op := .load 9 (.tmp 1), type := _, pos := _, after := _, guard := none }) (v := .string nm) rfl (by kernel_rfl) (by kernel_rfl) (by kernel_rfl) (fun _ _ _ h => h) (Or.inl ⟨by rfl, ?_⟩) hS0 ?_
  · intro wS hSw
    have z0 := (hSw.cell (lt_of_cell cn)).trans cn
    go_simp
  simp only [Act.put, List.setIfInBounds_toArray, List.set_cons_zero, List.set_cons_succ]
  refine wpAnyH_take (i := 5) (oi := { dst := some 8, op := .lookup 33 (.tmp 6) (.tmp 7) false, type := _, pos := _, after := _, guard := none }) (v := .agg #[.slice a n c, .int .i64 (sf : Int), .bool hd]) rfl (by kernel_rfl) (by kernel_rfl) (by kernel_rfl) (fun _ _ _ h => h) (Or.inl ⟨by rfl, ?_⟩) hS0 ?_
  · intro wS hSw
    have hz := HLk.out _ hSw
    go_simp
    try rw [hz]
    try rfl
  simp only [Act.put, List.setIfInBounds_toArray, List.set_cons_zero, List.set_cons_succ]
  refine wpAnyH_ready (rs := [6, 7]) (by kernel_rfl) (by simp) ?_
  refine AllReadyH.cons (o := { dst := some 9, op := .call { callee := .value (.func 55), args := #[.tmp 8], argTypes := #[66] }, type := _, pos := _, after := _, guard := none }) rfl (fun K hK => ?_) (AllReadyH.cons (o := { dst := some 2, op := .alloc 66, type := _, pos := _, after := _, guard := none }) rfl (fun K hK => ?_) AllReadyH.nil)
  · skip
    rw [if_pos (by rfl)]
    have sv1 := hS0.size
    go_wp2_with (go_at_call 55; refine (safely_any a n c sf hd x0).mono ?_; rintro e x1 ⟨rfl, hb1⟩)
    have sz1 := hb1.size
    have hS1 := hS0.trans (hb1.mono hS0.size)
    refine hK.out _ _ hS1 (fun _ => ?_)
    clear hK K
    refine wpAnyH_ready (rs := [7]) (by kernel_rfl) (by simp) ?_
    refine AllReadyH.cons (o := { dst := some 2, op := .alloc 66, type := _, pos := _, after := _, guard := none }) rfl (fun K hK => ?_) AllReadyH.nil
    rw [if_pos (by rfl)]
    have sv2 := hS1.size
    refine wp_alloc_at 66 rfl [Value.slice none 0 0, .int .i64 0, .bool false] _ z66 ?_
    intro x2 hA2 hb2 hs2
    have lt2 : x1.heap.size < x2.heap.size := hA2.lt
    clear hs2
    have sz2 := hb2.size
    have hS2 := hS1.trans (hb2.mono hS1.size)
    refine hK.out _ _ hS2 (fun _ => ?_)
    clear hK K
    refine wpAnyH_ready (rs := [8]) (by kernel_rfl) (by simp) ?_
    refine AllReadyH.cons (o := { dst := none, op := .store 66 (.tmp 2) (.tmp 9), type := _, pos := _, after := _, guard := none }) rfl (fun K hK => ?_) AllReadyH.nil
    rw [if_pos (by rfl)]
    have sv3 := hS2.size
    refine wp_store3 (.tmp 2) (.tmp 9) rfl (x1.heap.size) [.slice a n c, .int .i64 (n : Int), .bool hd] rfl rfl _ hA2 rfl rfl one3 ?_
    intro x3 hA3 hb3 hs3
    clear hA2
    have sz3 := hb3.size
    have hS3 := hb3.below hS2 sv2 hS2.size
    refine hK.out _ _ hS3 (fun _ => ?_)
    clear hK K
    refine wpAnyH_done (by kernel_rfl) ?_ _
    have hAG := hA3
    have HBx := hidU (hS3)
    have hGl : w.heap.size ≤ x1.heap.size := sv2
    obtain ⟨G, hG⟩ : ∃ G, G = x1.heap.size := ⟨_, rfl⟩
    rw [← hG] at hAG hGl ⊢
    clear hG
    clear hS0 hb1 sv1 sz1 hS1 hb2 sv2 sz2 hS2 lt2 hb3 sv3 sz3 hS3 hs3 hA3
    go_wp2_with (refine wpList_store1 rfl 4 (.tmp 10) (.const (.bool true)) rfl G 2 (.bool true) rfl rfl 66 _ hAG (by simp) i4 rfl rfl ?_; intro y4 hAG4 hb4 hs4; refine Hid.out ?_)
    simp only [List.set] at hAG4
    refine hidU ?_
    have HO4 : Hid (OwnX eB B y4 (.slice a n c) bs) := hidU (((HO.out.below HBx.out)).same fun k hk => hb4.block k ((HO.out.below HBx.out).block k hk).2.1 (by
      rintro rfl
      obtain ⟨_, _, cs, hA⟩ := (HO.out.below HBx.out).block k hk
      exact hA.ne hAG (show (5 : Nat) ≠ 66 by decide) rfl))
    have C4 := hidU ((Chg.of_below (K := OfF m nm) HBx.out).more (Chg.of_but (K := fun k => k = G) hb4 rfl) (fun i hi e => by omega))
    have c1 : y4.cell? ⟨kd, 0, none⟩ = some (.pointer (some ⟨g, 0, none⟩)) := by rw [(hb4.at (HA1.out.below HBx.out) ((HA1.out.below HBx.out).ne hAG (by decide))).cell]; rfl
    have c2 : y4.cell? ⟨kn, 0, none⟩ = some (.string nm) := by rw [(hb4.at (HA2.out.below HBx.out) ((HA2.out.below HBx.out).ne hAG (by decide))).cell]; rfl
    have HP := hidU (put_wrt H.out h40 a n c bs n true y4 C4.out HO4.out (fun k hk => .inl (HB.out k hk)))
    clear hb4 hs4 hAG cd cn q
    go_wp2_with (first
      | (refine wpList_load_at rfl 66 (.tmp 2) rfl G rfl 66 _ hAG4 _ Tryd.underlying66 rfl i66 ?_)
      | (go_at_call 38; refine HP.out.mono ?_; rintro _ x5 ⟨rfl, hW⟩))
    go_end0
    exact ⟨rfl, by rw [hn]; exact hW⟩
    
  · skip
    rw [if_pos (by rfl)]
    have sv1 := hS0.size
    refine wp_alloc_at 66 rfl [Value.slice none 0 0, .int .i64 0, .bool false] _ z66 ?_
    intro x1 hA1 hb1 hs1
    have lt1 : x0.heap.size < x1.heap.size := hA1.lt
    clear hs1
    have sz1 := hb1.size
    have hS1 := hS0.trans (hb1.mono hS0.size)
    refine hK.out _ _ hS1 (fun _ => ?_)
    clear hK K
    refine wpAnyH_ready (rs := [6]) (by kernel_rfl) (by simp) ?_
    refine AllReadyH.cons (o := { dst := some 9, op := .call { callee := .value (.func 55), args := #[.tmp 8], argTypes := #[66] }, type := _, pos := _, after := _, guard := none }) rfl (fun K hK => ?_) AllReadyH.nil
    rw [if_pos (by rfl)]
    have sv2 := hS1.size
    go_wp2_with (go_at_call 55; refine (safely_any a n c sf hd x1).mono ?_; rintro e x2 ⟨rfl, hb2⟩)
    have sz2 := hb2.size
    have hS2 := hS1.trans (hb2.mono hS1.size)
    refine hK.out _ _ hS2 (fun _ => ?_)
    clear hK K
    refine wpAnyH_ready (rs := [8]) (by kernel_rfl) (by simp) ?_
    refine AllReadyH.cons (o := { dst := none, op := .store 66 (.tmp 2) (.tmp 9), type := _, pos := _, after := _, guard := none }) rfl (fun K hK => ?_) AllReadyH.nil
    rw [if_pos (by rfl)]
    have sv3 := hS2.size
    refine wp_store3 (.tmp 2) (.tmp 9) rfl (x0.heap.size) [.slice a n c, .int .i64 (n : Int), .bool hd] rfl rfl _ (hA1.below hb2) rfl rfl one3 ?_
    intro x3 hA3 hb3 hs3
    clear hA1
    have sz3 := hb3.size
    have hS3 := hb3.below hS2 sv1 hS2.size
    refine hK.out _ _ hS3 (fun _ => ?_)
    clear hK K
    refine wpAnyH_done (by kernel_rfl) ?_ _
    have hAG := hA3
    have HBx := hidU (hS3)
    have hGl : w.heap.size ≤ x0.heap.size := sv1
    obtain ⟨G, hG⟩ : ∃ G, G = x0.heap.size := ⟨_, rfl⟩
    rw [← hG] at hAG hGl ⊢
    clear hG
    clear hS0 hb1 sv1 sz1 hS1 lt1 hb2 sv2 sz2 hS2 hb3 sv3 sz3 hS3 hs3 hA3
    go_wp2_with (refine wpList_store1 rfl 4 (.tmp 10) (.const (.bool true)) rfl G 2 (.bool true) rfl rfl 66 _ hAG (by simp) i4 rfl rfl ?_; intro y4 hAG4 hb4 hs4; refine Hid.out ?_)
    simp only [List.set] at hAG4
    refine hidU ?_
    have HO4 : Hid (OwnX eB B y4 (.slice a n c) bs) := hidU (((HO.out.below HBx.out)).same fun k hk => hb4.block k ((HO.out.below HBx.out).block k hk).2.1 (by
      rintro rfl
      obtain ⟨_, _, cs, hA⟩ := (HO.out.below HBx.out).block k hk
      exact hA.ne hAG (show (5 : Nat) ≠ 66 by decide) rfl))
    have C4 := hidU ((Chg.of_below (K := OfF m nm) HBx.out).more (Chg.of_but (K := fun k => k = G) hb4 rfl) (fun i hi e => by omega))
    have c1 : y4.cell? ⟨kd, 0, none⟩ = some (.pointer (some ⟨g, 0, none⟩)) := by rw [(hb4.at (HA1.out.below HBx.out) ((HA1.out.below HBx.out).ne hAG (by decide))).cell]; rfl
    have c2 : y4.cell? ⟨kn, 0, none⟩ = some (.string nm) := by rw [(hb4.at (HA2.out.below HBx.out) ((HA2.out.below HBx.out).ne hAG (by decide))).cell]; rfl
    have HP := hidU (put_wrt H.out h40 a n c bs n true y4 C4.out HO4.out (fun k hk => .inl (HB.out k hk)))
    clear hb4 hs4 hAG cd cn q
    go_wp2_with (first
      | (refine wpList_load_at rfl 66 (.tmp 2) rfl G rfl 66 _ hAG4 _ Tryd.underlying66 rfl i66 ?_)
      | (go_at_call 38; refine HP.out.mono ?_; rintro _ x5 ⟨rfl, hW⟩))
    go_end0
    exact ⟨rfl, by rw [hn]; exact hW⟩
    

theorem remove_c (B g mb : Nat) (w : World) (m : FMap) (sz wr : Nat) (lf : Int) (nm : ByteArray) (kd kn : Nat) (h : Ds B w g mb m sz lf wr)
    (hd_ : At 22 w kd [.pointer (some ⟨g, 0, none⟩)]) (hn_ : At 9 w kn [.string nm]) (hs : nm.size ≤ maxLen) :
    Calls Tryd.prog 57 #[.pointer (some ⟨kd, 0, none⟩), .pointer (some ⟨kn, 0, none⟩)] w fun r w' => r = .returned (.tuple #[]) ∧ Wrt B w w' mb m (delM m nm) := by
  have H := hidU h
  have HP := hidU h.mp
  have cd : w.cell? ⟨kd, 0, none⟩ = some (.pointer (some ⟨g, 0, none⟩)) := by rw [hd_.cell]; rfl
  have cn : w.cell? ⟨kn, 0, none⟩ = some (.string nm) := by rw [hn_.cell]; rfl
  have q := h.files
  clear h hd_ hn_
  go_enter Tryd.func57, Tryd.ntmps57
  go_wp2
  have hS0 : Below w.heap.size w w.drew := Below.drew (Below.refl _ _)
  refine wp_region_S (S := fun xS => Below w.heap.size w xS) (St := [5]) (by kernel_rfl) hS0 ?_
  obtain ⟨x0, hx0⟩ : ∃ x, x = w.drew := ⟨_, rfl⟩
  rw [← hx0] at hS0  ⊢
  clear hx0
  intro hH
  refine wpAnyS_take [1, 2, 3, 5] (i := 0) (oi := { dst := some 2, op := .load 22 (.tmp 0), type := _, pos := _, after := _, guard := none }) (v := .pointer (some ⟨g, 0, none⟩)) rfl (by kernel_rfl) (by kernel_rfl) (by kernel_rfl) (by kernel_rfl) (by kernel_rfl) (by kernel_rfl) (by kernel_rfl) (fun _ _ _ h => h) (Or.inl ⟨by rfl, ?_⟩) hH (fun hH => ?_)
  · intro wS hSw
    have z0 := (hSw.cell (lt_of_cell cd)).trans cd
    go_simp
  simp only [Act.put, List.setIfInBounds_toArray, List.set_cons_zero, List.set_cons_succ]
  refine wpAnyS_pure (i := 1) (oi := { dst := some 3, op := .nilCheck (.tmp 2), type := _, pos := _, after := _, guard := none }) (v := .pointer (some ⟨g, 0, none⟩)) rfl (by kernel_rfl) (by kernel_rfl) (by kernel_rfl) (by kernel_rfl) (fun _ _ _ h => h) (Or.inl ⟨by rfl, ?_⟩) hH (fun hH => ?_)
  · intro wS hSw
    go_simp
  simp only [Act.put, List.setIfInBounds_toArray, List.set_cons_zero, List.set_cons_succ]
  refine wpAnyS_pure (i := 2) (oi := { dst := some 4, op := .fieldAddr 35 (.tmp 3) 2, type := _, pos := _, after := _, guard := none }) (v := .pointer (some ⟨g, 2, none⟩)) rfl (by kernel_rfl) (by kernel_rfl) (by kernel_rfl) (by kernel_rfl) (fun _ _ _ h => h) (Or.inl ⟨by rfl, ?_⟩) hH (fun hH => ?_)
  · intro wS hSw
    go_simp
  simp only [Act.put, List.setIfInBounds_toArray, List.set_cons_zero, List.set_cons_succ]
  refine wpAnyS_take [5] (i := 3) (oi := { dst := some 5, op := .load 33 (.tmp 4), type := _, pos := _, after := _, guard := none }) (v := .map (some mb)) rfl (by kernel_rfl) (by kernel_rfl) (by kernel_rfl) (by kernel_rfl) (by kernel_rfl) (by kernel_rfl) (by kernel_rfl) (fun _ _ _ h => h) (Or.inl ⟨by rfl, ?_⟩) hH (fun hH => ?_)
  · intro wS hSw
    have z0 := (hSw.cell (lt_of_cell q)).trans q
    go_simp
  simp only [Act.put, List.setIfInBounds_toArray, List.set_cons_zero, List.set_cons_succ]
  refine wpAnyS_take [5] (i := 4) (oi := { dst := some 6, op := .load 9 (.tmp 1), type := _, pos := _, after := _, guard := none }) (v := .string nm) rfl (by kernel_rfl) (by kernel_rfl) (by kernel_rfl) (by kernel_rfl) (by kernel_rfl) (by kernel_rfl) (by kernel_rfl) (fun _ _ _ h => h) (Or.inl ⟨by rfl, ?_⟩) hH (fun hH => ?_)
  · intro wS hSw
    have z0 := (hSw.cell (lt_of_cell cn)).trans cn
    go_simp
  simp only [Act.put, List.setIfInBounds_toArray, List.set_cons_zero, List.set_cons_succ]
  refine wpAnyS_ready (rs := [5]) (by kernel_rfl) (by simp) ?_
  refine AllReadyS.cons (o := { dst := none, op := .call { callee := .builtin .delete, args := #[.tmp 5, .tmp 6], argTypes := #[33, 9] }, type := _, pos := _, after := _, guard := none }) rfl (fun K hK => ?_) AllReadyS.nil
  rw [if_pos (by rfl)]
  refine wp_del mF (.tmp 5) (.tmp 6) rfl nm rfl rfl (HP.out.below hS0) hs ?_
  intro x1 hM1 hb1 hs1
  refine hK.out _ _ (Hold.over (s := 5) (by decide) (by rfl)) (fun hH => ?_)
  clear hK K
  refine wpAnyS_done (by kernel_rfl) ?_ _
  go_end0
  exact ⟨rfl, (Wrt.del (H.out.below hS0) hM1 hb1).from hS0⟩

end Go.Proofs.YtcmkjjlchljffaaDoor

/- The landed disk: what Cut and Rename do, each by its closure. -/
namespace Go.Proofs.YtcmkjjlchljffaaDoor
open Go.RowKit
set_option linter.unusedVariables false
set_option maxRecDepth 100000
set_option maxHeartbeats 6400000

theorem Wrt.same {B g mb sz wr : Nat} {lf : Int} {w w' : World} {m : FMap} (h : Ds B w g mb m sz lf wr) (hb : Below w.heap.size w w') : Wrt B w w' mb m m :=
  ⟨h.mp.below hb, fun p hp => (h.own p hp).below hb, h.apart, h.ns, Chg.of_below hb, fun p hp k hk => .inl ⟨p, hp, hk⟩⟩
theorem own_slice' {α : Type} {e : El α} {base : Nat} {w : World} {v : Value} {xs : List α} (h : OwnX e base w v xs) : ∃ a n c, v = .slice a n c := by
  obtain ⟨a, c, e, _⟩ := h.row
  exact ⟨a, _, c, e⟩
theorem cut_c (B g mb : Nat) (w0 w : World) (m : FMap) (sz wr : Nat) (lf : Int) (nm : ByteArray) (kf kz kd kn z : Nat) (a : Option Addr) (n c : Nat) (bs : List UInt8) (sf : Nat) (hd : Bool) (h : Ds B w0 g mb m sz lf wr) (hb0 : Below w0.heap.size w0 w) (hsf : ∀ p ∈ m, p.2.sf ≤ p.2.bs.length)
    (hl : lookM m nm = some ⟨.slice a n c, bs, sf, hd⟩) (hf_ : At 66 w kf [.slice a n c, .int .i64 (sf : Int), .bool hd]) (hz_ : At 3 w kz [.int .i64 (z : Int)]) (hd_ : At 22 w kd [.pointer (some ⟨g, 0, none⟩)]) (hn_ : At 9 w kn [.string nm]) (hkf : w0.heap.size ≤ kf) (hz : z ≤ n)
    (hsum : sumM m ≤ 67108864) :
    Calls Tryd.prog 52 #[.pointer (some ⟨kf, 0, none⟩), .pointer (some ⟨kz, 0, none⟩), .pointer (some ⟨kd, 0, none⟩), .pointer (some ⟨kn, 0, none⟩)] w fun r w' => r = .returned (.tuple #[]) ∧ ∃ v, Wrt B w0 w' mb m (updM m nm ⟨v, bs.take z, min sf z, true⟩) := by
  have h40 := h.ns _ (look_mem hl)
  have hm1 := sum_mem (look_mem hl)
  have hs1 := hsf _ (look_mem hl)
  obtain ⟨a', n', c', bs', sf', hd', e, hn, hnc, _, hn0, hR, hO⟩ := look_parts h hl
  injection e with e1 e2 e3 e4
  injection e1 with e5 e6 e7
  subst e5 e6 e7 e2 e3 e4
  simp only [hn] at hm1 hs1
  obtain ⟨M, hM⟩ : ∃ M, Hid (M = min sf z) := ⟨_, (rfl : _ = min sf z)⟩
  rw [← hM.out]
  have HC := hidU (cut_any a n c bs sf hd z w (hR.below hb0) hn hnc hn0 hz (by omega) hs1)
  rw [← hM.out] at HC
  have H := hidU h
  have HB0 := hidU hb0
  have HD := hidU hd_
  have HN := hidU hn_
  have cz : w.cell? ⟨kz, 0, none⟩ = some (.int .i64 (z : Int)) := by rw [hz_.cell]; rfl
  clear h hb0 hsf hl hd_ hn_ hz_ hR hO
  go_enter Tryd.func52, Tryd.ntmps52
  go_wp2_with (first
    | (refine wpList_load_at rfl 66 (.tmp 0) rfl kf rfl 66 _ hf_ _ Tryd.underlying66 rfl i66 ?_)
    | (go_at_call 53; refine HC.out.mono ?_; rintro _ w1 ⟨v, rfl, hO1, hb1⟩; have hf1 := hf_.below hb1; obtain ⟨av, nl, cv, rfl⟩ := own_slice' hO1)
    | (refine wpList_store_at rfl 66 (.tmp 0) (.tmp 6) rfl kf [.slice av nl cv, .int .i64 (M : Int), .bool hd] rfl rfl 66 _ hf1 i66 rfl one3 ?_; intro w2 hf2 hb2 hs2; refine Hid.out ?_))
  refine hidU ?_
  have HB1 := hidU (HB0.out.trans (hb1.mono HB0.out.size))
  have lw := HD.out.lt
  have neK : ∀ k, (Value.slice av nl cv).ownBlock = some k → k ≠ kf := fun k hk => by
    obtain ⟨_, _, cs, hA⟩ := hO1.block k hk
    exact hA.ne hf1 (by decide)
  have HO2 : Hid (OwnX eB w.heap.size w2 (.slice av nl cv) (bs.take z)) := hidU (hO1.same fun k hk => hb2.block k (hO1.block k hk).2.1 (neK k hk))
  have C2 := hidU (hb2.below HB1.out hkf HB1.out.size)
  have HD2 := hidU (hb2.at (HD.out.below hb1) ((HD.out.below hb1).ne hf1 (by decide)))
  have HN2 := hidU (hb2.at (HN.out.below hb1) ((HN.out.below hb1).ne hf1 (by decide)))
  clear hb1 hb2 hs2 hO1 hf1 hf_ neK cz HC HB1 lw
  go_wp2_with (refine wpList_store1 rfl 4 (.tmp 7) (.const (.bool true)) rfl kf 2 (.bool true) rfl rfl 66 _ hf2 (by simp) i4 rfl rfl ?_; intro w3 hf3 hb3 hs3; refine Hid.out ?_)
  simp only [List.set] at hf3
  refine hidU ?_
  have lw0 := HB0.out.size
  have C3 := hidU (hb3.below C2.out hkf C2.out.size)
  have HO3 : Hid (OwnX eB w.heap.size w3 (.slice av nl cv) (bs.take z)) := hidU (HO2.out.same fun k hk => hb3.block k (HO2.out.block k hk).2.1 (by
    rintro rfl
    obtain ⟨_, _, cs, hA⟩ := HO2.out.block k hk
    exact hA.ne hf2 (show (5 : Nat) ≠ 66 by decide) rfl))
  have c1 : w3.cell? ⟨kd, 0, none⟩ = some (.pointer (some ⟨g, 0, none⟩)) := by rw [(hb3.at HD2.out (HD2.out.ne hf2 (by decide))).cell]; rfl
  have c2 : w3.cell? ⟨kn, 0, none⟩ = some (.string nm) := by rw [(hb3.at HN2.out (HN2.out.ne hf2 (by decide))).cell]; rfl
  have hBw : B ≤ w.heap.size := Nat.le_trans H.out.bg (Nat.le_of_lt (Nat.lt_of_lt_of_le (heapLt H.out.at_) lw0))
  have HP := hidU (put_wrt H.out h40 av nl cv (bs.take z) M true w3 (Chg.of_below C3.out) (HO3.out.less hBw) (fun k hk => .inr (Nat.le_trans lw0 (HO3.out.block k hk).1)))
  clear hb3 hs3 hf2 HD2 HN2 C2 C3 HO2
  go_wp2_with (first
    | (refine wpList_load_at rfl 66 (.tmp 0) rfl kf rfl 66 _ hf3 _ Tryd.underlying66 rfl i66 ?_)
    | (go_at_call 38; refine HP.out.mono ?_; rintro _ x5 ⟨rfl, hW⟩))
  go_end0
  exact ⟨rfl, _, hW⟩
theorem rename_c (B g mb : Nat) (w0 w : World) (m : FMap) (sz wr : Nat) (lf : Int) (nm to : ByteArray) (kf kt kd kn : Nat) (a : Option Addr) (n c : Nat) (bs : List UInt8) (sf : Nat) (hd : Bool) (h : Ds B w0 g mb m sz lf wr) (hb0 : Below w0.heap.size w0 w)
    (hl : lookM m nm = some ⟨.slice a n c, bs, sf, hd⟩) (hf_ : At 66 w kf [.slice a n c, .int .i64 (sf : Int), .bool hd]) (ht_ : At 9 w kt [.string to]) (hd_ : At 22 w kd [.pointer (some ⟨g, 0, none⟩)]) (hn_ : At 9 w kn [.string nm]) (hkf : w0.heap.size ≤ kf) (hne : nm ≠ to) (hto : to.size ≤ 40) :
    Calls Tryd.prog 56 #[.pointer (some ⟨kn, 0, none⟩), .pointer (some ⟨kt, 0, none⟩), .pointer (some ⟨kf, 0, none⟩), .pointer (some ⟨kd, 0, none⟩)] w fun r w' => r = .returned (.tuple #[]) ∧ Wrt B w0 w' mb m (delM (updM m to ⟨.slice a n c, bs, sf, true⟩) nm) := by
  have h40 := h.ns _ (look_mem hl)
  have hs : nm.size ≤ maxLen := by simp only at h40; unfold maxLen; omega
  have hq : ¬ nm.toList = to.toList := fun e => hne (toL_inj e)
  have hq2 : (nm.toList == to.toList) = false := by rw [beq_eq_false_iff_ne]; exact hq
  have H := hidU h
  have HL := hidU hl
  have HB0 := hidU hb0
  have HD := hidU hd_
  have HN := hidU hn_
  have HT := hidU ht_
  have c1 : w.cell? ⟨kt, 0, none⟩ = some (.string to) := by rw [ht_.cell]; rfl
  have c2 : w.cell? ⟨kn, 0, none⟩ = some (.string nm) := by rw [hn_.cell]; rfl
  have lw0 := hb0.size
  have Hs0 := hidU h.mp
  clear h hb0 hl hd_ hn_ ht_ h40
  go_enter Tryd.func56, Tryd.ntmps56
  go_wp2_with (refine wpList_store1 rfl 4 (.tmp 7) (.const (.bool true)) rfl kf 2 (.bool true) rfl rfl 66 _ hf_ (by simp) i4 rfl rfl ?_; intro w3 hf3 hb3 hs3; refine Hid.out ?_)
  simp only [List.set] at hf3
  refine hidU ?_
  have HD3 := hidU (hb3.at HD.out (HD.out.ne hf_ (by decide)))
  have HN3 := hidU (hb3.at HN.out (HN.out.ne hf_ (by decide)))
  have HT3 := hidU (hb3.at HT.out (HT.out.ne hf_ (by decide)))
  have HB3 := hidU (hb3.below HB0.out hkf lw0)
  clear c1 c2 hb3 hs3 hf_
  have c1 : w3.cell? ⟨kd, 0, none⟩ = some (.pointer (some ⟨g, 0, none⟩)) := by rw [HD3.out.cell]; rfl
  have c2 : w3.cell? ⟨kt, 0, none⟩ = some (.string to) := by rw [HT3.out.cell]; rfl
  have HP := hidU (put_any g mb m a n c bs sf true to w3 (by rw [(H.out.below HB3.out).at_.cell]; rfl) (Hs0.out.below HB3.out) (by omega))
  go_wp2_with (first
    | (refine wpList_load_at rfl 66 (.tmp 2) rfl kf rfl 66 _ hf3 _ Tryd.underlying66 rfl i66 ?_)
    | (go_at_call 38; refine HP.out.mono ?_; rintro _ y5 ⟨rfl, hM5, y4, hy4, hb5⟩; refine Hid.out ?_))
  refine hidU ?_
  have HB4 := hidU (HB3.out.trans (hy4.mono HB3.out.size))
  have HM := hidU hM5
  have HBm := hidU hb5
  have DS4 := hidU (H.out.below HB4.out)
  have q5 : y5.cell? ⟨g, 2, none⟩ = some (.map (some mb)) := by rw [(hb5.at DS4.out.at_ DS4.out.ne).cell]; rfl
  have nm1 : ∀ (t : TypeId) (k : Nat) (cs : List Value), At t y4 k cs → k ≠ mb := fun t k cs hA e => by
    obtain ⟨arr, clock, h1, _⟩ := DS4.out.mp
    have h2 : y4.heap[k]? = some (Obj.cells cs.toArray t (0, 0)) := hA
    rw [e, h1] at h2
    cases h2
  clear c1 c2
  have c1 : y5.cell? ⟨kd, 0, none⟩ = some (.pointer (some ⟨g, 0, none⟩)) := by rw [(hb5.at (HD3.out.below hy4) (nm1 _ _ _ (HD3.out.below hy4))).cell]; rfl
  have c2 : y5.cell? ⟨kn, 0, none⟩ = some (.string nm) := by rw [(hb5.at (HN3.out.below hy4) (nm1 _ _ _ (HN3.out.below hy4))).cell]; rfl
  clear hy4 hb5 hM5 nm1 hf3
  go_wp2
  have hS0 : Below y5.heap.size y5 y5.drew := Below.drew (Below.refl _ _)
  refine wp_region_S (S := fun xS => Below y5.heap.size y5 xS) (St := [5]) (by kernel_rfl) hS0 ?_
  obtain ⟨x0, hx0⟩ : ∃ x, x = y5.drew := ⟨_, rfl⟩
  rw [← hx0] at hS0  ⊢
  clear hx0
  intro hH
  refine wpAnyS_take [1, 2, 3, 5] (i := 0) (oi := { dst := some 12, op := .load 22 (.tmp 3), type := _, pos := _, after := _, guard := none }) (v := .pointer (some ⟨g, 0, none⟩)) rfl (by kernel_rfl) (by kernel_rfl) (by kernel_rfl) (by kernel_rfl) (by kernel_rfl) (by kernel_rfl) (by kernel_rfl) (fun _ _ _ h => h) (Or.inl ⟨by rfl, ?_⟩) hH (fun hH => ?_)
  · intro wS hSw
    have z0 := (hSw.cell (lt_of_cell c1)).trans c1
    go_simp
  simp only [Act.put, List.setIfInBounds_toArray, List.set_cons_zero, List.set_cons_succ]
  refine wpAnyS_pure (i := 1) (oi := { dst := some 13, op := .nilCheck (.tmp 12), type := _, pos := _, after := _, guard := none }) (v := .pointer (some ⟨g, 0, none⟩)) rfl (by kernel_rfl) (by kernel_rfl) (by kernel_rfl) (by kernel_rfl) (fun _ _ _ h => h) (Or.inl ⟨by rfl, ?_⟩) hH (fun hH => ?_)
  · intro wS hSw
    go_simp
  simp only [Act.put, List.setIfInBounds_toArray, List.set_cons_zero, List.set_cons_succ]
  refine wpAnyS_pure (i := 2) (oi := { dst := some 14, op := .fieldAddr 35 (.tmp 13) 2, type := _, pos := _, after := _, guard := none }) (v := .pointer (some ⟨g, 2, none⟩)) rfl (by kernel_rfl) (by kernel_rfl) (by kernel_rfl) (by kernel_rfl) (fun _ _ _ h => h) (Or.inl ⟨by rfl, ?_⟩) hH (fun hH => ?_)
  · intro wS hSw
    go_simp
  simp only [Act.put, List.setIfInBounds_toArray, List.set_cons_zero, List.set_cons_succ]
  refine wpAnyS_take [5] (i := 3) (oi := { dst := some 15, op := .load 33 (.tmp 14), type := _, pos := _, after := _, guard := none }) (v := .map (some mb)) rfl (by kernel_rfl) (by kernel_rfl) (by kernel_rfl) (by kernel_rfl) (by kernel_rfl) (by kernel_rfl) (by kernel_rfl) (fun _ _ _ h => h) (Or.inl ⟨by rfl, ?_⟩) hH (fun hH => ?_)
  · intro wS hSw
    have z0 := (hSw.cell (lt_of_cell q5)).trans q5
    go_simp
  simp only [Act.put, List.setIfInBounds_toArray, List.set_cons_zero, List.set_cons_succ]
  refine wpAnyS_take [5] (i := 4) (oi := { dst := some 16, op := .load 9 (.tmp 0), type := _, pos := _, after := _, guard := none }) (v := .string nm) rfl (by kernel_rfl) (by kernel_rfl) (by kernel_rfl) (by kernel_rfl) (by kernel_rfl) (by kernel_rfl) (by kernel_rfl) (fun _ _ _ h => h) (Or.inl ⟨by rfl, ?_⟩) hH (fun hH => ?_)
  · intro wS hSw
    have z0 := (hSw.cell (lt_of_cell c2)).trans c2
    go_simp
  simp only [Act.put, List.setIfInBounds_toArray, List.set_cons_zero, List.set_cons_succ]
  refine wpAnyS_ready (rs := [5]) (by kernel_rfl) (by simp) ?_
  refine AllReadyS.cons (o := { dst := none, op := .call { callee := .builtin .delete, args := #[.tmp 15, .tmp 16], argTypes := #[33, 9] }, type := _, pos := _, after := _, guard := none }) rfl (fun K hK => ?_) AllReadyS.nil
  rw [if_pos (by rfl)]
  refine wp_del mF (.tmp 15) (.tmp 16) rfl nm rfl rfl (HM.out.below hS0) hs ?_
  intro x1 hM1 hb1 hs1
  refine hK.out _ _ (Hold.over (s := 5) (by decide) (by rfl)) (fun hH => ?_)
  clear hK K
  refine wpAnyS_done (by kernel_rfl) ?_ _
  go_end0
  refine ⟨rfl, ?_⟩
  have W1 := Wrt.ren (w' := x1) (H.out.below HB4.out) HL.out hne true hto (by exact hM1) (HBm.out.trans ((But.of_below hS0).trans hb1))
  exact W1.from HB4.out

end Go.Proofs.YtcmkjjlchljffaaDoor
