/- The chapter's examples, reckoned by the kernel, and the law DigestKnown, walked. -/
import Derived.Lib.SlBytesConst
import Derived.Test.YtbigkblkfnnfkabDoorJoin
namespace Go.Proofs.YtbigkblkfnnfkabDoor
open Go.RowKit
set_option linter.unusedVariables false
set_option maxRecDepth 100000

def noneL : List UInt8 := [101, 51, 98, 48, 99, 52, 52, 50, 57, 56, 102, 99, 49, 99, 49, 52, 57, 97, 102, 98, 102, 52, 99, 56, 57, 57, 54, 102, 98, 57, 50, 52, 50, 55, 97, 101, 52, 49, 101, 52, 54, 52, 57, 98, 57, 51, 52, 99, 97, 52, 57, 53, 57, 57, 49, 98, 55, 56, 53, 50, 98, 56, 53, 53]
def abcL : List UInt8 := [98, 97, 55, 56, 49, 54, 98, 102, 56, 102, 48, 49, 99, 102, 101, 97, 52, 49, 52, 49, 52, 48, 100, 101, 53, 100, 97, 101, 50, 50, 50, 51, 98, 48, 48, 51, 54, 49, 97, 51, 57, 54, 49, 55, 55, 97, 57, 99, 98, 52, 49, 48, 102, 102, 54, 49, 102, 50, 48, 48, 49, 53, 97, 100]
theorem k_none : hexOf (sha []) = noneL := by kernel_rfl
theorem k_abc : hexOf (sha [97, 98, 99]) = abcL := by kernel_rfl
theorem k_join0 : joined [] = [] := rfl
theorem k_join1 : joined [[]] = List.replicate 8 0 := by kernel_rfl
theorem p_short : parsed (noneL.drop 1) = .tuple #[.agg dig0.toArray, .int .i64 4] := by kernel_rfl
theorem p_upper : parsed (65 :: noneL.drop 1) = .tuple #[.agg dig0.toArray, .int .i64 4] := by kernel_rfl
theorem p_none : parsed noneL = .tuple #[.agg ((sha []).map B8).toArray, .int .i64 0] := by kernel_rfl

theorem text_lit (bs : List UInt8) (h32 : bs.length = 32) (l : List UInt8) (hl : Hid (hexOf bs = l)) (w : World) :
    Calls Tryd.prog 7 #[.agg (bs.map B8).toArray] w fun e w' => e = .returned (.string ⟨l.toArray⟩) ∧ Below w.heap.size w w' := by
  rw [← hl.out]
  exact text_any bs w h32

theorem parse_lit (l : List UInt8) (r : Value) (hr : Hid (parsed l = r)) (hmax : l.length ≤ 1099511627776) (w : World) :
    Calls Tryd.prog 6 #[.string ⟨l.toArray⟩] w fun e w' => e = .returned r ∧ Below w.heap.size w w' := by
  rw [← hr.out]
  exact parse_any l hmax w

theorem row_new (w : World) (cells : Array Value) (fr : Nat × Nat) (bs : List UInt8) (hc : cells = (bs.map B8).toArray) : Row (w.alloc (.cells cells 5 fr)) (some ⟨w.heap.size, 0, none⟩) bs := .inr ⟨_, _, rfl, fun j hj => by
  have h : (w.alloc (.cells cells 5 fr)).cell? ⟨w.heap.size, 0 + j, none⟩ = cells[0 + j]? := by
    unfold World.cell?
    rw [_root_.Go.heap_alloc_new w (.cells cells 5 fr)]
    simp
  rw [h, hc]
  simp [B8, List.getD, List.getElem?_eq_getElem hj]⟩

theorem write_new (g q n : Nat) (m bs : List UInt8) (w : World) (cells : Array Value) (fr : Nat × Nat) (hc : cells = (bs.map B8).toArray) (hq : q = w.heap.size) (hn : bs.length = n) (hH : HashIs w g m) (hmax : m.length + bs.length ≤ 1099511627776) (hR : Roots w) (hg0 : 0 < g) :
    Calls Tryd.prog 5 #[.pointer (some ⟨g, 0, none⟩), .slice (some ⟨q, 0, none⟩) n n] (w.alloc (.cells cells 5 fr)) fun e w' => e = .returned (.int .i64 0) ∧ HashIs w' g (m ++ bs) ∧ But g w w' := by
  subst hn hq
  have hb1 : Below w.heap.size w (w.alloc (.cells cells 5 fr)) := (Below.refl _ w).alloc (Nat.le_refl _) _
  refine (write_yes g (some ⟨w.heap.size, 0, none⟩) bs.length m bs _ (hH.below hb1) (row_new w cells fr bs hc) (fun b off h => by cases h; have := hH.lt; omega) (Nat.le_refl _) hmax (hR.below hb1) hg0).mono ?_
  rintro e w' ⟨rfl, hH', hb'⟩
  exact ⟨rfl, hH', (But.of_below hb1).trans hb'⟩

theorem mk8 (u : World) : (Instr.makeSlice 26 (.int .i64 8) (.int .i64 8)).run Tryd.prog u = .ok (.slice (some ⟨u.heap.size, 0, none⟩) 8 8) (u.alloc (.cells (List.replicate 8 (Value.int .u8 0)).toArray 5)) := by kernel_rfl

theorem mk8_cells (u : World) (j : Nat) (hj : j < 8) : (u.alloc (.cells (List.replicate 8 (Value.int .u8 0)).toArray 5)).cell? ⟨u.heap.size, j, none⟩ = some (.int .u8 0) := by
  rw [World.cell?_alloc_at _ _ _ _ rfl, List.getElem?_toArray, List.getElem?_replicate, if_pos hj]

theorem keepK {u u' wB : World} {g : Nat} {c : List Value} (hb : Below u.heap.size u u') (h : u.rangeAt g 0 c ∧ Below wB.heap.size wB u) : u'.rangeAt g 0 c ∧ Below wB.heap.size wB u' :=
  ⟨range_below h.1 hb, h.2.trans (hb.mono h.2.size)⟩
theorem allocK {u wB : World} {g : Nat} {c : List Value} (h : u.rangeAt g 0 c ∧ Below wB.heap.size wB u) (o : Obj) : (u.alloc o).rangeAt g 0 c ∧ Below wB.heap.size wB (u.alloc o) :=
  keepK ((Below.refl _ u).alloc (Nat.le_refl _) o) h

set_option maxRecDepth 100000 in
set_option maxHeartbeats 3200000 in
theorem known_walk (w : World) (hR : Roots w) :
    Calls Tryd.prog 3 #[] w fun e w' => e = .returned (.bool true) ∧ Below w.heap.size w w' := by
  have hpos := hR.pos
  have hconv := fun (u : World) (C : Array Value) (n c : Nat) => Lib.run_convert_bytes_const u 26 5 C n c Tryd.underlying26 Tryd.underlying5
  go_enter Tryd.func3, Tryd.ntmps3
  go_wp2_with (first | (go_at_call 4; refine (new_any _).mono ?_; rintro e w1 ⟨g, rfl, hg1, hH1, hb1⟩; have hg0 : 0 < g := by omega) | (go_at_call_of 5 (Value.slice (some ⟨w1.heap.size, 0, none⟩) 1 1); refine (write_new g _ 1 [] [97] w1 _ _ rfl rfl rfl hH1 (by decide) (hR.below hb1) hg0).mono ?_; rintro e w2 ⟨rfl, hH2, hb2⟩) | (go_at_call 5; refine (write_new g _ 2 ([] ++ [97]) [98, 99] w2 _ _ rfl rfl rfl hH2 (by decide) ((hR.below hb1).but hb2 hg0) hg0).mono ?_; rintro e w3 ⟨rfl, hH3, hb3⟩))
  have hb13 : Below w.heap.size w w3 := hb3.below (hb2.below hb1 hg1 hb1.size) hg1 (Nat.le_trans hb1.size hb2.size)
  have hall : Hid (∀ u ∈ dig0, u.oneCell' = true) := by unfold dig0; intro u hu; rw [List.eq_of_mem_replicate hu]; rfl
  have hi25 : (Tryd.prog.info? 28).map (·.size) = some dig0.length := i25
  refine (parse_lit (noneL.drop 1) _ p_short (by decide) _).mono ?_
  rintro e w4 ⟨rfl, hb4⟩
  go_wp2_with (first | ((with_reducible show wpList _ _ _ _ _ _); refine wpList_alloc_at rfl 28 rfl dig0 32 z25 ?_; intro w5 hA5 hb5 hs5) | ((with_reducible show wpList _ _ _ _ _ _); refine wpList_store_at (P := Tryd.prog) rfl 28 (.tmp 4) (.tmp 31) rfl w4.heap.size dig0 rfl rfl 28 dig0 hA5 i25 rfl hall.out ?_; intro w6 hA6 hb6 hs6))
  refine (parse_lit (65 :: noneL.drop 1) _ p_upper (by decide) _).mono ?_
  rintro e w7 ⟨rfl, hb7⟩
  go_wp2_with (first | ((with_reducible show wpList _ _ _ _ _ _); refine wpList_alloc_at rfl 28 rfl dig0 32 z25 ?_; intro w8 hA8 hb8 hs8) | ((with_reducible show wpList _ _ _ _ _ _); refine wpList_store_at (P := Tryd.prog) rfl 28 (.tmp 6) (.tmp 38) rfl w7.heap.size dig0 rfl rfl 28 dig0 hA8 i25 rfl hall.out ?_; intro w9 hA9 hb9 hs9))
  obtain ⟨e0, he0⟩ : ∃ e0, Hid (e0 = sha []) := ⟨_, rfl⟩
  have hp0 : Hid (parsed noneL = .tuple #[.agg (e0.map B8).toArray, .int .i64 0]) := by rw [he0.out]; exact p_none
  have he32 : e0.length = 32 := by rw [he0.out]; exact sha_length _
  have hie0 := i25' e0 he32
  have hoe0 : dig0.length = (e0.map B8).length := by rw [List.length_map, he32]; rfl
  refine (parse_lit noneL _ hp0 (by decide) _).mono ?_
  rintro e w10 ⟨rfl, hb10⟩
  go_wp2_with (first | ((with_reducible show wpList _ _ _ _ _ _); refine wpList_alloc_at rfl 28 rfl dig0 32 z25 ?_; intro w11 hA11 hb11 hs11) | ((with_reducible show wpList _ _ _ _ _ _); refine wpList_store_at (P := Tryd.prog) rfl 28 (.tmp 8) (.tmp 43) rfl w10.heap.size (e0.map B8) rfl rfl 28 dig0 hA11 hie0 hoe0 (b8_one _) ?_; intro w12 hA12 hb12 hs12))
  obtain ⟨g8, hg8⟩ : ∃ g8, g8 = w10.heap.size := ⟨_, rfl⟩
  have z4 := hb4.size
  have z7 := hb7.size
  have z10 := hb10.size
  have z3 : w.heap.size ≤ w3.heap.size := hb13.size
  have hgw3 : g < w3.heap.size := hH3.lt
  have hB6 : Below w.heap.size w w6 := hb6.below ((hb13.trans (hb4.mono (by omega))).trans (hb5.mono (by omega))) (by omega) (by omega)
  have hB9 : Below w.heap.size w w9 := hb9.below ((hB6.trans (hb7.mono (by omega))).trans (hb8.mono (by omega))) (by omega) (by omega)
  have hbB : Below w.heap.size w w12 := hb12.below ((hB9.trans (hb10.mono (by omega))).trans (hb11.mono (by omega))) (by omega) (by omega)
  have hH12 : HashIs w12 g [97, 98, 99] := (((((((hH3.below hb4).below hb5).but hb6 (by omega)).below hb7).below hb8).but hb9 (by omega)).below hb10 |>.below hb11).but hb12 (by omega)
  have hRB : Roots w12 := hR.below hbB
  have hSB0 : w12.rangeAt w10.heap.size 0 (e0.map B8) ∧ Below w12.heap.size w12 w12 := ⟨hA12.range, Below.refl _ _⟩
  obtain ⟨wB, hwB⟩ : ∃ wB, wB = w12 := ⟨_, rfl⟩
  rw [← hg8] at hSB0 ⊢
  rw [← hwB] at hSB0 hRB hH12 hbB ⊢
  have hSB : wB.drew.rangeAt g8 0 (e0.map B8) ∧ Below wB.heap.size wB wB.drew := ⟨hSB0.1, hSB0.2.drew⟩
  clear hA5 hA6 hA8 hA9 hA11 hA12 hb1 hb2 hb3 hb4 hb5 hb6 hb7 hb8 hb9 hb10 hb11 hb12 hs5 hs6 hs8 hs9 hs11 hs12 hH1 hH2 hH3 hB6 hB9 hb13 hg8 hwB z3 z4 z7 z10 hgw3 hSB0 hoe0 hp0 hi25 hall hR hpos hg1
  obtain ⟨e1, he1⟩ : ∃ e1, Hid (e1 = sha [97, 98, 99]) := ⟨_, rfl⟩
  have he132 : Hid (e1.length = 32) := by rw [he1.out]; exact sha_length _
  obtain ⟨e2, he2⟩ : ∃ e2, Hid (e2 = sha (List.replicate 8 0)) := ⟨_, rfl⟩
  have he232 : Hid (e2.length = 32) := by rw [he2.out]; exact sha_length _
  have hmk := mk8
  have q00 : ∀ u, (Op.equalIn 10000 28 (.agg (e0.map B8).toArray) (.agg (e0.map B8).toArray)).run Tryd.prog u = .ok true u := fun u => by rw [run_same e0 e0 he32 he32 u]; simp
  have q22 : ∀ u, (Op.equalIn 10000 28 (.agg (e2.map B8).toArray) (.agg (e2.map B8).toArray)).run Tryd.prog u = .ok true u := fun u => by rw [run_same e2 e2 he232.out he232.out u]; simp
  have cSum0 : Hid (∀ u : World, (u.rangeAt g8 0 (e0.map B8) ∧ Below wB.heap.size wB u) → Calls Tryd.prog 8 #[.slice none 0 0] u fun e w' => e = .returned (.agg (e0.map B8).toArray) ∧ Below u.heap.size u w') := fun u h => sum_hid none 0 [] e0 he0 u (.inl rfl) (Nat.le_refl _) (by decide) (hRB.below h.2)
  have cText0 : Hid (∀ u : World, Calls Tryd.prog 7 #[.agg (e0.map B8).toArray] u fun e w' => e = .returned (.string ({ data := #[101, 51, 98, 48, 99, 52, 52, 50, 57, 56, 102, 99, 49, 99, 49, 52, 57, 97, 102, 98, 102, 52, 99, 56, 57, 57, 54, 102, 98, 57, 50, 52, 50, 55, 97, 101, 52, 49, 101, 52, 54, 52, 57, 98, 57, 51, 52, 99, 97, 52, 57, 53, 57, 57, 49, 98, 55, 56, 53, 50, 98, 56, 53, 53] } : ByteArray)) ∧ Below u.heap.size u w') := fun u => text_lit e0 he32 noneL (by rw [he0.out]; exact k_none) u
  have cText1 : Hid (∀ u : World, Calls Tryd.prog 7 #[.agg (e1.map B8).toArray] u fun e w' => e = .returned (.string ({ data := #[98, 97, 55, 56, 49, 54, 98, 102, 56, 102, 48, 49, 99, 102, 101, 97, 52, 49, 52, 49, 52, 48, 100, 101, 53, 100, 97, 101, 50, 50, 50, 51, 98, 48, 48, 51, 54, 49, 97, 51, 57, 54, 49, 55, 55, 97, 57, 99, 98, 52, 49, 48, 102, 102, 54, 49, 102, 50, 48, 48, 49, 53, 97, 100] } : ByteArray)) ∧ Below u.heap.size u w') := fun u => text_lit e1 he132.out abcL (by rw [he1.out]; exact k_abc) u
  have cSum1 : Hid (∀ (u : World) (cells : Array Value) (fr : Nat × Nat), cells = ([97, 98, 99].map B8).toArray → (u.rangeAt g8 0 (e0.map B8) ∧ Below wB.heap.size wB u) → Calls Tryd.prog 8 #[.slice (some ⟨u.heap.size, 0, none⟩) 3 3] (u.alloc (.cells cells 5 fr)) fun e w' => e = .returned (.agg (e1.map B8).toArray) ∧ Below (u.alloc (.cells cells 5 fr)).heap.size (u.alloc (.cells cells 5 fr)) w') := fun u cells fr hc h => sum_hid (some ⟨u.heap.size, 0, none⟩) 3 [97, 98, 99] e1 he1 _ (row_new u cells fr _ hc) (Nat.le_refl _) (by decide) (hRB.below (allocK h _).2)
  have cHsum : Hid (∀ u : World, (u.rangeAt g8 0 (e0.map B8) ∧ Below wB.heap.size wB u) → Calls Tryd.prog 9 #[.pointer (some ⟨g, 0, none⟩)] u fun e w' => e = .returned (.agg (e1.map B8).toArray) ∧ Below u.heap.size u w') := fun u h => hsum_hid g [97, 98, 99] e1 he1 u (hH12.below h.2) (by decide) (hRB.below h.2)
  have cLen : Hid (∀ u : World, (u.rangeAt g8 0 (e0.map B8) ∧ Below wB.heap.size wB u) → Calls Tryd.prog 10 #[.pointer (some ⟨g, 0, none⟩)] u fun e w' => e = .returned (.int .i64 3) ∧ Below u.heap.size u w') := fun u h => (len_yes g [97, 98, 99] u (hH12.below h.2)).mono fun e w' ⟨h1, h2⟩ => ⟨h1, by rw [h2]; exact Below.refl _ _⟩
  have cJoin0 : Hid (∀ u : World, (u.rangeAt g8 0 (e0.map B8) ∧ Below wB.heap.size wB u) → Calls Tryd.prog 11 #[.slice none 0 0] u fun e w' => e = .returned (.agg (e0.map B8).toArray) ∧ Below u.heap.size u w') := fun u h => join_hid none 0 [] e0 he0 u (.inl rfl) (by decide) (hRB.below h.2) (by decide)
  have cJoin1 : Hid (∀ (u : World) (q : Nat), u.cell? ⟨q, 0, none⟩ = some (.slice none 0 0) → (u.rangeAt g8 0 (e0.map B8) ∧ Below wB.heap.size wB u) → Calls Tryd.prog 11 #[.slice (some ⟨q, 0, none⟩) 1 1] u fun e w' => e = .returned (.agg (e2.map B8).toArray) ∧ Below u.heap.size u w') := fun u q hc h => join_hid (some ⟨q, 0, none⟩) 1 [[]] e2 (by rw [he2.out, ← k_join1]; rfl) u (.inr ⟨q, 0, rfl, fun j hj => by
      obtain rfl : j = 0 := by simp at hj; omega
      exact ⟨none, 0, hc, .inl rfl, Nat.le_refl _, fun _ => rfl⟩⟩) (by rw [k_join1]; decide) (hRB.below h.2) (by decide)
  have cSum8 : Hid (∀ (u : World) (q : Nat), (∀ j, j < 8 → u.cell? ⟨q, j, none⟩ = some (.int .u8 0)) → (u.rangeAt g8 0 (e0.map B8) ∧ Below wB.heap.size wB u) → Calls Tryd.prog 8 #[.slice (some ⟨q, 0, none⟩) 8 8] u fun e w' => e = .returned (.agg (e2.map B8).toArray) ∧ Below u.heap.size u w') := fun u q hc h => sum_hid (some ⟨q, 0, none⟩) 8 (List.replicate 8 0) e2 he2 u (.inr ⟨q, 0, rfl, fun j hj => by
      rw [Nat.zero_add, hc j (by simpa using hj)]
      have : (List.replicate 8 (0 : UInt8)).getD j 0 = 0 := by rw [List.getD_eq_getElem?_getD, List.getElem?_replicate]; split <;> rfl
      rw [this]; rfl⟩) (Nat.le_refl _) (by decide) (hRB.below h.2)
  refine wp_region_held_drew (S := fun w' => w'.rangeAt g8 0 (e0.map B8) ∧ Below wB.heap.size wB w') (by kernel_rfl) hSB (fun _ => ?_)
  refine wpAnyH_take (i := 2) (oi := { dst := some 47, op := .move (.tmp 1), type := _, pos := _, after := _, guard := none }) (v := .string ({ data := #[101, 51, 98, 48, 99, 52, 52, 50, 57, 56, 102, 99, 49, 99, 49, 52, 57, 97, 102, 98, 102, 52, 99, 56, 57, 57, 54, 102, 98, 57, 50, 52, 50, 55, 97, 101, 52, 49, 101, 52, 54, 52, 57, 98, 57, 51, 52, 99, 97, 52, 57, 53, 57, 57, 49, 98, 55, 56, 53, 50, 98, 56, 53, 53] } : ByteArray)) rfl (by kernel_rfl) (by kernel_rfl) (by kernel_rfl) (fun _ _ _ h => h) (Or.inl ⟨by rfl, ?_⟩) hSB ?_
  · intro w hSw
    go_simp
  simp only [Act.put, List.setIfInBounds_toArray, List.set_cons_zero, List.set_cons_succ]
  refine wpAnyH_ready (rs := [0]) (by kernel_rfl) (by simp) ?_
  refine AllReadyH.cons (o := { dst := some 45, op := .call { callee := .value (.func 8), args := #[.const (.slice none 0 0)], argTypes := #[26] }, type := _, pos := _, after := _, guard := none }) rfl (fun K hK => ?_) AllReadyH.nil
  rw [if_pos (by rfl)]
  go_wp2_with (go_at_call 8; refine (cSum0.out _ hSB).mono ?_; rintro e w20 ⟨rfl, hb20⟩)
  have hS20 := keepK hb20 hSB
  refine hK.out _ _ hS20 (fun _ => ?_)
  refine wpAnyH_ready (rs := [1]) (by kernel_rfl) (by simp) ?_
  refine AllReadyH.cons (o := { dst := some 46, op := .call { callee := .value (.func 7), args := #[.tmp 45], argTypes := #[28] }, type := _, pos := _, after := _, guard := none }) rfl (fun K hK => ?_) AllReadyH.nil
  rw [if_pos (by rfl)]
  go_wp2_with (go_at_call 7; refine (cText0.out _).mono ?_; rintro e w21 ⟨rfl, hb21⟩)
  have hS21 := keepK hb21 hS20
  refine hK.out _ _ hS21 (fun _ => ?_)
  refine wpAnyH_take (i := 3) (oi := { dst := some 48, op := .binOp .eql 9 (.tmp 46) (.tmp 47) 9, type := _, pos := _, after := _, guard := none }) (v := .bool true) rfl (by kernel_rfl) (by kernel_rfl) (by kernel_rfl) (fun _ _ _ h => h) (Or.inl ⟨by rfl, ?_⟩) hS21 ?_
  · intro w hSw
    go_simp
  simp only [Act.put, List.setIfInBounds_toArray, List.set_cons_zero, List.set_cons_succ]
  refine wpAnyH_take (i := 4) (oi := { dst := some 49, op := .move (.tmp 48), type := _, pos := _, after := _, guard := none }) (v := .bool true) rfl (by kernel_rfl) (by kernel_rfl) (by kernel_rfl) (fun _ _ _ h => h) (Or.inl ⟨by rfl, ?_⟩) hS21 ?_
  · intro w hSw
    go_simp
  simp only [Act.put, List.setIfInBounds_toArray, List.set_cons_zero, List.set_cons_succ]
  refine wpAnyH_take (i := 9) (oi := { dst := some 54, op := .move (.tmp 2), type := _, pos := _, after := _, guard := some (4, true) }) (v := .string ({ data := #[98, 97, 55, 56, 49, 54, 98, 102, 56, 102, 48, 49, 99, 102, 101, 97, 52, 49, 52, 49, 52, 48, 100, 101, 53, 100, 97, 101, 50, 50, 50, 51, 98, 48, 48, 51, 54, 49, 97, 51, 57, 54, 49, 55, 55, 97, 57, 99, 98, 52, 49, 48, 102, 102, 54, 49, 102, 50, 48, 48, 49, 53, 97, 100] } : ByteArray)) rfl (by kernel_rfl) (by kernel_rfl) (by kernel_rfl) (fun _ _ _ h => h) (Or.inl ⟨by rfl, ?_⟩) hS21 ?_
  · intro w hSw
    go_simp
  simp only [Act.put, List.setIfInBounds_toArray, List.set_cons_zero, List.set_cons_succ]
  refine wpAnyH_ready (rs := [5]) (by kernel_rfl) (by simp) ?_
  refine AllReadyH.cons (o := { dst := some 50, op := .buildSlice 26 3 #[(0, .const (.int .u8 97)), (1, .const (.int .u8 98)), (2, .const (.int .u8 99))], type := _, pos := _, after := _, guard := some (4, true) }) rfl (fun K hK => ?_) AllReadyH.nil
  rw [if_pos (by rfl)]
  go_simp
  refine hK.out _ _ (allocK hS21 _) (fun _ => ?_)
  refine wpAnyH_ready (rs := [6]) (by kernel_rfl) (by simp) ?_
  refine AllReadyH.cons (o := { dst := some 51, op := .convert 26 26 (.tmp 50), type := _, pos := _, after := _, guard := some (4, true) }) rfl (fun K hK => ?_) AllReadyH.nil
  rw [if_pos (by rfl)]
  go_simp
  refine hK.out _ _ (allocK hS21 _) (fun _ => ?_)
  refine wpAnyH_ready (rs := [7]) (by kernel_rfl) (by simp) ?_
  refine AllReadyH.cons (o := { dst := some 52, op := .call { callee := .value (.func 8), args := #[.tmp 51], argTypes := #[26] }, type := _, pos := _, after := _, guard := some (4, true) }) rfl (fun K hK => ?_) AllReadyH.nil
  rw [if_pos (by rfl)]
  go_wp2_with (go_at_call 8; refine (cSum1.out w21 _ _ rfl hS21).mono ?_; rintro e w22 ⟨rfl, hb22⟩)
  have hS22 := keepK hb22 (allocK hS21 _)
  refine hK.out _ _ hS22 (fun _ => ?_)
  refine wpAnyH_ready (rs := [8]) (by kernel_rfl) (by simp) ?_
  refine AllReadyH.cons (o := { dst := some 53, op := .call { callee := .value (.func 7), args := #[.tmp 52], argTypes := #[28] }, type := _, pos := _, after := _, guard := some (4, true) }) rfl (fun K hK => ?_) AllReadyH.nil
  rw [if_pos (by rfl)]
  go_wp2_with (go_at_call 7; refine (cText1.out _).mono ?_; rintro e w23 ⟨rfl, hb23⟩)
  have hS23 := keepK hb23 hS22
  refine hK.out _ _ hS23 (fun _ => ?_)
  refine wpAnyH_take (i := 10) (oi := { dst := some 55, op := .binOp .eql 9 (.tmp 53) (.tmp 54) 9, type := _, pos := _, after := _, guard := some (4, true) }) (v := .bool true) rfl (by kernel_rfl) (by kernel_rfl) (by kernel_rfl) (fun _ _ _ h => h) (Or.inl ⟨by rfl, ?_⟩) hS23 ?_
  · intro w hSw
    go_simp
  simp only [Act.put, List.setIfInBounds_toArray, List.set_cons_zero, List.set_cons_succ]
  refine wpAnyH_take (i := 11) (oi := { dst := some 56, op := .pick (.tmp 49) (.tmp 55) (.const (.bool false)), type := _, pos := _, after := _, guard := none }) (v := .bool true) rfl (by kernel_rfl) (by kernel_rfl) (by kernel_rfl) (fun _ _ _ h => h) (Or.inl ⟨by rfl, ?_⟩) hS23 ?_
  · intro w hSw
    go_simp
  simp only [Act.put, List.setIfInBounds_toArray, List.set_cons_zero, List.set_cons_succ]
  refine wpAnyH_take (i := 12) (oi := { dst := some 57, op := .move (.tmp 56), type := _, pos := _, after := _, guard := none }) (v := .bool true) rfl (by kernel_rfl) (by kernel_rfl) (by kernel_rfl) (fun _ _ _ h => h) (Or.inl ⟨by rfl, ?_⟩) hS23 ?_
  · intro w hSw
    go_simp
  simp only [Act.put, List.setIfInBounds_toArray, List.set_cons_zero, List.set_cons_succ]
  refine wpAnyH_take (i := 13) (oi := { dst := some 58, op := .move (.tmp 3), type := _, pos := _, after := _, guard := some (12, true) }) (v := .pointer (some ⟨g, 0, none⟩)) rfl (by kernel_rfl) (by kernel_rfl) (by kernel_rfl) (fun _ _ _ h => h) (Or.inl ⟨by rfl, ?_⟩) hS23 ?_
  · intro w hSw
    go_simp
  simp only [Act.put, List.setIfInBounds_toArray, List.set_cons_zero, List.set_cons_succ]
  refine wpAnyH_take (i := 16) (oi := { dst := some 61, op := .move (.tmp 2), type := _, pos := _, after := _, guard := some (12, true) }) (v := .string ({ data := #[98, 97, 55, 56, 49, 54, 98, 102, 56, 102, 48, 49, 99, 102, 101, 97, 52, 49, 52, 49, 52, 48, 100, 101, 53, 100, 97, 101, 50, 50, 50, 51, 98, 48, 48, 51, 54, 49, 97, 51, 57, 54, 49, 55, 55, 97, 57, 99, 98, 52, 49, 48, 102, 102, 54, 49, 102, 50, 48, 48, 49, 53, 97, 100] } : ByteArray)) rfl (by kernel_rfl) (by kernel_rfl) (by kernel_rfl) (fun _ _ _ h => h) (Or.inl ⟨by rfl, ?_⟩) hS23 ?_
  · intro w hSw
    go_simp
  simp only [Act.put, List.setIfInBounds_toArray, List.set_cons_zero, List.set_cons_succ]
  refine wpAnyH_ready (rs := [14]) (by kernel_rfl) (by simp) ?_
  refine AllReadyH.cons (o := { dst := some 59, op := .call { callee := .value (.func 9), args := #[.tmp 58], argTypes := #[22] }, type := _, pos := _, after := _, guard := some (12, true) }) rfl (fun K hK => ?_) AllReadyH.nil
  rw [if_pos (by rfl)]
  go_wp2_with (go_at_call 9; refine (cHsum.out _ hS23).mono ?_; rintro e w24 ⟨rfl, hb24⟩)
  have hS24 := keepK hb24 hS23
  refine hK.out _ _ hS24 (fun _ => ?_)
  refine wpAnyH_ready (rs := [15]) (by kernel_rfl) (by simp) ?_
  refine AllReadyH.cons (o := { dst := some 60, op := .call { callee := .value (.func 7), args := #[.tmp 59], argTypes := #[28] }, type := _, pos := _, after := _, guard := some (12, true) }) rfl (fun K hK => ?_) AllReadyH.nil
  rw [if_pos (by rfl)]
  go_wp2_with (go_at_call 7; refine (cText1.out _).mono ?_; rintro e w25 ⟨rfl, hb25⟩)
  have hS25 := keepK hb25 hS24
  refine hK.out _ _ hS25 (fun _ => ?_)
  refine wpAnyH_take (i := 17) (oi := { dst := some 62, op := .binOp .eql 9 (.tmp 60) (.tmp 61) 9, type := _, pos := _, after := _, guard := some (12, true) }) (v := .bool true) rfl (by kernel_rfl) (by kernel_rfl) (by kernel_rfl) (fun _ _ _ h => h) (Or.inl ⟨by rfl, ?_⟩) hS25 ?_
  · intro w hSw
    go_simp
  simp only [Act.put, List.setIfInBounds_toArray, List.set_cons_zero, List.set_cons_succ]
  refine wpAnyH_take (i := 18) (oi := { dst := some 63, op := .pick (.tmp 57) (.tmp 62) (.const (.bool false)), type := _, pos := _, after := _, guard := none }) (v := .bool true) rfl (by kernel_rfl) (by kernel_rfl) (by kernel_rfl) (fun _ _ _ h => h) (Or.inl ⟨by rfl, ?_⟩) hS25 ?_
  · intro w hSw
    go_simp
  simp only [Act.put, List.setIfInBounds_toArray, List.set_cons_zero, List.set_cons_succ]
  refine wpAnyH_take (i := 19) (oi := { dst := some 64, op := .move (.tmp 63), type := _, pos := _, after := _, guard := none }) (v := .bool true) rfl (by kernel_rfl) (by kernel_rfl) (by kernel_rfl) (fun _ _ _ h => h) (Or.inl ⟨by rfl, ?_⟩) hS25 ?_
  · intro w hSw
    go_simp
  simp only [Act.put, List.setIfInBounds_toArray, List.set_cons_zero, List.set_cons_succ]
  refine wpAnyH_take (i := 20) (oi := { dst := some 65, op := .move (.tmp 3), type := _, pos := _, after := _, guard := some (19, true) }) (v := .pointer (some ⟨g, 0, none⟩)) rfl (by kernel_rfl) (by kernel_rfl) (by kernel_rfl) (fun _ _ _ h => h) (Or.inl ⟨by rfl, ?_⟩) hS25 ?_
  · intro w hSw
    go_simp
  simp only [Act.put, List.setIfInBounds_toArray, List.set_cons_zero, List.set_cons_succ]
  refine wpAnyH_ready (rs := [21]) (by kernel_rfl) (by simp) ?_
  refine AllReadyH.cons (o := { dst := some 66, op := .call { callee := .value (.func 10), args := #[.tmp 65], argTypes := #[22] }, type := _, pos := _, after := _, guard := some (19, true) }) rfl (fun K hK => ?_) AllReadyH.nil
  rw [if_pos (by rfl)]
  go_wp2_with (go_at_call 10; refine (cLen.out _ hS25).mono ?_; rintro e w26 ⟨rfl, hb26⟩)
  have hS26 := keepK hb26 hS25
  refine hK.out _ _ hS26 (fun _ => ?_)
  refine wpAnyH_take (i := 22) (oi := { dst := some 67, op := .binOp .eql 3 (.tmp 66) (.const (.int .i64 3)) 3, type := _, pos := _, after := _, guard := some (19, true) }) (v := .bool true) rfl (by kernel_rfl) (by kernel_rfl) (by kernel_rfl) (fun _ _ _ h => h) (Or.inl ⟨by rfl, ?_⟩) hS26 ?_
  · intro w hSw
    go_simp
  simp only [Act.put, List.setIfInBounds_toArray, List.set_cons_zero, List.set_cons_succ]
  refine wpAnyH_take (i := 23) (oi := { dst := some 68, op := .pick (.tmp 64) (.tmp 67) (.const (.bool false)), type := _, pos := _, after := _, guard := none }) (v := .bool true) rfl (by kernel_rfl) (by kernel_rfl) (by kernel_rfl) (fun _ _ _ h => h) (Or.inl ⟨by rfl, ?_⟩) hS26 ?_
  · intro w hSw
    go_simp
  simp only [Act.put, List.setIfInBounds_toArray, List.set_cons_zero, List.set_cons_succ]
  refine wpAnyH_take (i := 24) (oi := { dst := some 69, op := .move (.tmp 68), type := _, pos := _, after := _, guard := none }) (v := .bool true) rfl (by kernel_rfl) (by kernel_rfl) (by kernel_rfl) (fun _ _ _ h => h) (Or.inl ⟨by rfl, ?_⟩) hS26 ?_
  · intro w hSw
    go_simp
  simp only [Act.put, List.setIfInBounds_toArray, List.set_cons_zero, List.set_cons_succ]
  refine wpAnyH_ready (rs := [25]) (by kernel_rfl) (by simp) ?_
  refine AllReadyH.cons (o := { dst := some 70, op := .call { callee := .value (.func 11), args := #[.const (.slice none 0 0)], argTypes := #[36] }, type := _, pos := _, after := _, guard := some (24, true) }) rfl (fun K hK => ?_) AllReadyH.nil
  rw [if_pos (by rfl)]
  go_wp2_with (go_at_call 11; refine (cJoin0.out _ hS26).mono ?_; rintro e w27 ⟨rfl, hb27⟩)
  have hS27 := keepK hb27 hS26
  refine hK.out _ _ hS27 (fun _ => ?_)
  refine wpAnyH_ready (rs := [26]) (by kernel_rfl) (by simp) ?_
  refine AllReadyH.cons (o := { dst := some 71, op := .call { callee := .value (.func 8), args := #[.const (.slice none 0 0)], argTypes := #[26] }, type := _, pos := _, after := _, guard := some (24, true) }) rfl (fun K hK => ?_) AllReadyH.nil
  rw [if_pos (by rfl)]
  go_wp2_with (go_at_call 8; refine (cSum0.out _ hS27).mono ?_; rintro e w28 ⟨rfl, hb28⟩)
  have hS28 := keepK hb28 hS27
  refine hK.out _ _ hS28 (fun _ => ?_)
  refine wpAnyH_take (i := 27) (oi := { dst := some 72, op := .binOp .eql 28 (.tmp 70) (.tmp 71) 28, type := _, pos := _, after := _, guard := some (24, true) }) (v := .bool true) rfl (by kernel_rfl) (by kernel_rfl) (by kernel_rfl) (fun _ _ _ h => h) (Or.inl ⟨by rfl, ?_⟩) hS28 ?_
  · intro w hSw
    go_simp
  simp only [Act.put, List.setIfInBounds_toArray, List.set_cons_zero, List.set_cons_succ]
  refine wpAnyH_take (i := 28) (oi := { dst := some 73, op := .pick (.tmp 69) (.tmp 72) (.const (.bool false)), type := _, pos := _, after := _, guard := none }) (v := .bool true) rfl (by kernel_rfl) (by kernel_rfl) (by kernel_rfl) (fun _ _ _ h => h) (Or.inl ⟨by rfl, ?_⟩) hS28 ?_
  · intro w hSw
    go_simp
  simp only [Act.put, List.setIfInBounds_toArray, List.set_cons_zero, List.set_cons_succ]
  refine wpAnyH_take (i := 29) (oi := { dst := some 74, op := .move (.tmp 73), type := _, pos := _, after := _, guard := none }) (v := .bool true) rfl (by kernel_rfl) (by kernel_rfl) (by kernel_rfl) (fun _ _ _ h => h) (Or.inl ⟨by rfl, ?_⟩) hS28 ?_
  · intro w hSw
    go_simp
  simp only [Act.put, List.setIfInBounds_toArray, List.set_cons_zero, List.set_cons_succ]
  refine wpAnyH_ready (rs := [30, 32]) (by kernel_rfl) (by simp) ?_
  refine AllReadyH.cons (o := { dst := some 75, op := .buildSlice 36 1 #[(0, .const (.slice none 0 0))], type := _, pos := _, after := _, guard := some (29, true) }) rfl (fun K hK => ?_) (AllReadyH.cons (o := { dst := some 77, op := .makeSlice 26 (.const (.int .i64 8)) (.const (.int .i64 8)), type := _, pos := _, after := _, guard := some (29, true) }) rfl (fun K hK => ?_) AllReadyH.nil)
  · rw [if_pos (by rfl)]
    go_simp
    have hS40 := allocK hS28 (.cells #[.slice none 0 0] 26)
    obtain ⟨v40, hv40⟩ : ∃ v, v = w28.alloc (.cells #[.slice none 0 0] 26) := ⟨_, rfl⟩
    obtain ⟨p40, hp40⟩ : ∃ p, p = w28.heap.size := ⟨_, rfl⟩
    have hc40 : v40.cell? ⟨p40, 0, none⟩ = some (.slice none 0 0) := by rw [hv40, hp40, World.cell?_alloc_at _ _ _ _ rfl]; rfl
    have hblv40 : Below w28.heap.size w28 v40 := by rw [hv40]; exact (Below.refl _ w28).alloc (Nat.le_refl _) _
    rw [← hv40] at hS40
    rw [← hv40, ← hp40]
    refine hK.out _ _ hS40 (fun _ => ?_)
    clear hv40 hp40
    refine wpAnyH_ready (rs := [31, 32]) (by kernel_rfl) (by simp) ?_
    refine AllReadyH.cons (o := { dst := some 76, op := .call { callee := .value (.func 11), args := #[.tmp 75], argTypes := #[36] }, type := _, pos := _, after := _, guard := some (29, true) }) rfl (fun K hK => ?_) (AllReadyH.cons (o := { dst := some 77, op := .makeSlice 26 (.const (.int .i64 8)) (.const (.int .i64 8)), type := _, pos := _, after := _, guard := some (29, true) }) rfl (fun K hK => ?_) AllReadyH.nil)
    · skip
      rw [if_pos (by rfl)]
      go_wp2_with (go_at_call 11; refine (cJoin1.out _ p40 hc40 hS40).mono ?_; rintro e w41 ⟨rfl, hb41⟩)
      have hS41 := keepK hb41 hS40
      refine hK.out _ _ hS41 (fun _ => ?_)
      refine wpAnyH_ready (rs := [32]) (by kernel_rfl) (by simp) ?_
      refine AllReadyH.cons (o := { dst := some 77, op := .makeSlice 26 (.const (.int .i64 8)) (.const (.int .i64 8)), type := _, pos := _, after := _, guard := some (29, true) }) rfl (fun K hK => ?_) AllReadyH.nil
      rw [if_pos (by rfl)]
      go_simp
      have hS42 := allocK hS41 (.cells (List.replicate 8 (Value.int .u8 0)).toArray 5)
      obtain ⟨v42, hv42⟩ : ∃ v, v = w41.alloc (.cells (List.replicate 8 (Value.int .u8 0)).toArray 5) := ⟨_, rfl⟩
      obtain ⟨p42, hp42⟩ : ∃ p, p = w41.heap.size := ⟨_, rfl⟩
      have hc42 : ∀ j, j < 8 → v42.cell? ⟨p42, j, none⟩ = some (.int .u8 0) := by rw [hv42, hp42]; exact mk8_cells w41
      have hc42' : Hid _ := hc42
      have hblv42 : Below w41.heap.size w41 v42 := by rw [hv42]; exact (Below.refl _ w41).alloc (Nat.le_refl _) _
      clear hc42
      rw [← hv42] at hS42
      first | (rw [← hv42, ← hp42]) | (simp only [List.replicate] at hv42; rw [← hv42, ← hp42])
      refine hK.out _ _ hS42 (fun _ => ?_)
      clear hv42 hp42
      refine wpAnyH_ready (rs := [33]) (by kernel_rfl) (by simp) ?_
      refine AllReadyH.cons (o := { dst := some 78, op := .call { callee := .value (.func 8), args := #[.tmp 77], argTypes := #[26] }, type := _, pos := _, after := _, guard := some (29, true) }) rfl (fun K hK => ?_) AllReadyH.nil
      rw [if_pos (by rfl)]
      go_wp2_with (go_at_call 8; refine (cSum8.out _ p42 hc42'.out hS42).mono ?_; rintro e w43 ⟨rfl, hb43⟩)
      have hS43 := keepK hb43 hS42
      refine hK.out _ _ hS43 (fun _ => ?_)
      refine wpAnyH_take (i := 34) (oi := { dst := some 79, op := .binOp .eql 28 (.tmp 76) (.tmp 78) 28, type := _, pos := _, after := _, guard := some (29, true) }) (v := .bool true) rfl (by kernel_rfl) (by kernel_rfl) (by kernel_rfl) (fun _ _ _ h => h) (Or.inl ⟨by rfl, ?_⟩) hS43 ?_
      · intro w hSw
        go_simp
      simp only [Act.put, List.setIfInBounds_toArray, List.set_cons_zero, List.set_cons_succ]
      refine wpAnyH_take (i := 35) (oi := { dst := some 80, op := .pick (.tmp 74) (.tmp 79) (.const (.bool false)), type := _, pos := _, after := _, guard := none }) (v := .bool true) rfl (by kernel_rfl) (by kernel_rfl) (by kernel_rfl) (fun _ _ _ h => h) (Or.inl ⟨by rfl, ?_⟩) hS43 ?_
      · intro w hSw
        go_simp
      simp only [Act.put, List.setIfInBounds_toArray, List.set_cons_zero, List.set_cons_succ]
      refine wpAnyH_take (i := 36) (oi := { dst := some 81, op := .move (.tmp 80), type := _, pos := _, after := _, guard := none }) (v := .bool true) rfl (by kernel_rfl) (by kernel_rfl) (by kernel_rfl) (fun _ _ _ h => h) (Or.inl ⟨by rfl, ?_⟩) hS43 ?_
      · intro w hSw
        go_simp
      simp only [Act.put, List.setIfInBounds_toArray, List.set_cons_zero, List.set_cons_succ]
      refine wpAnyH_take (i := 37) (oi := { dst := some 82, op := .move (.tmp 5), type := _, pos := _, after := _, guard := some (36, true) }) (v := .int .i64 4) rfl (by kernel_rfl) (by kernel_rfl) (by kernel_rfl) (fun _ _ _ h => h) (Or.inl ⟨by rfl, ?_⟩) hS43 ?_
      · intro w hSw
        go_simp
      simp only [Act.put, List.setIfInBounds_toArray, List.set_cons_zero, List.set_cons_succ]
      refine wpAnyH_take (i := 38) (oi := { dst := some 83, op := .binOp .eql 24 (.tmp 82) (.const (.int .i64 4)) 24, type := _, pos := _, after := _, guard := some (36, true) }) (v := .bool true) rfl (by kernel_rfl) (by kernel_rfl) (by kernel_rfl) (fun _ _ _ h => h) (Or.inl ⟨by rfl, ?_⟩) hS43 ?_
      · intro w hSw
        go_simp
      simp only [Act.put, List.setIfInBounds_toArray, List.set_cons_zero, List.set_cons_succ]
      refine wpAnyH_take (i := 39) (oi := { dst := some 84, op := .pick (.tmp 81) (.tmp 83) (.const (.bool false)), type := _, pos := _, after := _, guard := none }) (v := .bool true) rfl (by kernel_rfl) (by kernel_rfl) (by kernel_rfl) (fun _ _ _ h => h) (Or.inl ⟨by rfl, ?_⟩) hS43 ?_
      · intro w hSw
        go_simp
      simp only [Act.put, List.setIfInBounds_toArray, List.set_cons_zero, List.set_cons_succ]
      refine wpAnyH_take (i := 40) (oi := { dst := some 85, op := .move (.tmp 84), type := _, pos := _, after := _, guard := none }) (v := .bool true) rfl (by kernel_rfl) (by kernel_rfl) (by kernel_rfl) (fun _ _ _ h => h) (Or.inl ⟨by rfl, ?_⟩) hS43 ?_
      · intro w hSw
        go_simp
      simp only [Act.put, List.setIfInBounds_toArray, List.set_cons_zero, List.set_cons_succ]
      refine wpAnyH_take (i := 41) (oi := { dst := some 86, op := .move (.tmp 7), type := _, pos := _, after := _, guard := some (40, true) }) (v := .int .i64 4) rfl (by kernel_rfl) (by kernel_rfl) (by kernel_rfl) (fun _ _ _ h => h) (Or.inl ⟨by rfl, ?_⟩) hS43 ?_
      · intro w hSw
        go_simp
      simp only [Act.put, List.setIfInBounds_toArray, List.set_cons_zero, List.set_cons_succ]
      refine wpAnyH_take (i := 42) (oi := { dst := some 87, op := .binOp .eql 24 (.tmp 86) (.const (.int .i64 4)) 24, type := _, pos := _, after := _, guard := some (40, true) }) (v := .bool true) rfl (by kernel_rfl) (by kernel_rfl) (by kernel_rfl) (fun _ _ _ h => h) (Or.inl ⟨by rfl, ?_⟩) hS43 ?_
      · intro w hSw
        go_simp
      simp only [Act.put, List.setIfInBounds_toArray, List.set_cons_zero, List.set_cons_succ]
      refine wpAnyH_take (i := 43) (oi := { dst := some 88, op := .pick (.tmp 85) (.tmp 87) (.const (.bool false)), type := _, pos := _, after := _, guard := none }) (v := .bool true) rfl (by kernel_rfl) (by kernel_rfl) (by kernel_rfl) (fun _ _ _ h => h) (Or.inl ⟨by rfl, ?_⟩) hS43 ?_
      · intro w hSw
        go_simp
      simp only [Act.put, List.setIfInBounds_toArray, List.set_cons_zero, List.set_cons_succ]
      refine wpAnyH_take (i := 44) (oi := { dst := some 89, op := .move (.tmp 88), type := _, pos := _, after := _, guard := none }) (v := .bool true) rfl (by kernel_rfl) (by kernel_rfl) (by kernel_rfl) (fun _ _ _ h => h) (Or.inl ⟨by rfl, ?_⟩) hS43 ?_
      · intro w hSw
        go_simp
      simp only [Act.put, List.setIfInBounds_toArray, List.set_cons_zero, List.set_cons_succ]
      refine wpAnyH_take (i := 45) (oi := { dst := some 90, op := .move (.tmp 9), type := _, pos := _, after := _, guard := some (44, true) }) (v := .int .i64 0) rfl (by kernel_rfl) (by kernel_rfl) (by kernel_rfl) (fun _ _ _ h => h) (Or.inl ⟨by rfl, ?_⟩) hS43 ?_
      · intro w hSw
        go_simp
      simp only [Act.put, List.setIfInBounds_toArray, List.set_cons_zero, List.set_cons_succ]
      refine wpAnyH_take (i := 46) (oi := { dst := some 91, op := .binOp .eql 24 (.tmp 90) (.const (.int .i64 0)) 24, type := _, pos := _, after := _, guard := some (44, true) }) (v := .bool true) rfl (by kernel_rfl) (by kernel_rfl) (by kernel_rfl) (fun _ _ _ h => h) (Or.inl ⟨by rfl, ?_⟩) hS43 ?_
      · intro w hSw
        go_simp
      simp only [Act.put, List.setIfInBounds_toArray, List.set_cons_zero, List.set_cons_succ]
      refine wpAnyH_take (i := 47) (oi := { dst := some 92, op := .pick (.tmp 89) (.tmp 91) (.const (.bool false)), type := _, pos := _, after := _, guard := none }) (v := .bool true) rfl (by kernel_rfl) (by kernel_rfl) (by kernel_rfl) (fun _ _ _ h => h) (Or.inl ⟨by rfl, ?_⟩) hS43 ?_
      · intro w hSw
        go_simp
      simp only [Act.put, List.setIfInBounds_toArray, List.set_cons_zero, List.set_cons_succ]
      refine wpAnyH_take (i := 48) (oi := { dst := some 93, op := .move (.tmp 92), type := _, pos := _, after := _, guard := none }) (v := .bool true) rfl (by kernel_rfl) (by kernel_rfl) (by kernel_rfl) (fun _ _ _ h => h) (Or.inl ⟨by rfl, ?_⟩) hS43 ?_
      · intro w hSw
        go_simp
      simp only [Act.put, List.setIfInBounds_toArray, List.set_cons_zero, List.set_cons_succ]
      refine wpAnyH_take (i := 49) (oi := { dst := some 94, op := .load 28 (.tmp 8), type := _, pos := _, after := _, guard := some (48, true) }) rfl (by kernel_rfl) (by kernel_rfl) (by kernel_rfl) (fun _ _ _ h => h) (yieldsIf_load_mid (by rfl) 28 (.tmp 8) rfl g8 0 rfl (e0.map B8) _ (fun w hSw => hSw.1) Tryd.underlying28 rfl hie0) hS43 ?_
      simp only [Act.put, List.setIfInBounds_toArray, List.set_cons_zero, List.set_cons_succ]
      refine wpAnyH_ready (rs := [50]) (by kernel_rfl) (by simp) ?_
      refine AllReadyH.cons (o := { dst := some 95, op := .call { callee := .value (.func 8), args := #[.const (.slice none 0 0)], argTypes := #[26] }, type := _, pos := _, after := _, guard := some (48, true) }) rfl (fun K hK => ?_) AllReadyH.nil
      rw [if_pos (by rfl)]
      go_wp2_with (go_at_call 8; refine (cSum0.out _ hS43).mono ?_; rintro e w50 ⟨rfl, hb50⟩)
      have hS50 := keepK hb50 hS43
      refine hK.out _ _ hS50 (fun _ => ?_)
      refine wpAnyH_take (i := 51) (oi := { dst := some 96, op := .binOp .eql 28 (.tmp 94) (.tmp 95) 28, type := _, pos := _, after := _, guard := some (48, true) }) (v := .bool true) rfl (by kernel_rfl) (by kernel_rfl) (by kernel_rfl) (fun _ _ _ h => h) (Or.inl ⟨by rfl, ?_⟩) hS50 ?_
      · intro w hSw
        go_simp
      simp only [Act.put, List.setIfInBounds_toArray, List.set_cons_zero, List.set_cons_succ]
      refine wpAnyH_take (i := 52) (oi := { dst := some 97, op := .pick (.tmp 93) (.tmp 96) (.const (.bool false)), type := _, pos := _, after := _, guard := none }) (v := .bool true) rfl (by kernel_rfl) (by kernel_rfl) (by kernel_rfl) (fun _ _ _ h => h) (Or.inl ⟨by rfl, ?_⟩) hS50 ?_
      · intro w hSw
        go_simp
      simp only [Act.put, List.setIfInBounds_toArray, List.set_cons_zero, List.set_cons_succ]
      refine wpAnyH_take (i := 53) (oi := { dst := some 0, op := .assign (.tmp 97), type := _, pos := _, after := _, guard := none }) (v := .bool true) rfl (by kernel_rfl) (by kernel_rfl) (by kernel_rfl) (fun _ _ _ h => h) (Or.inl ⟨by rfl, ?_⟩) hS50 ?_
      · intro w hSw
        go_simp
      simp only [Act.put, List.setIfInBounds_toArray, List.set_cons_zero]
      refine wpAnyH_done (by kernel_rfl) ?_ _
      go_wp2
      go_ret
      exact ⟨rfl, hbB.trans (hS50.2.mono hbB.size)⟩
    · rw [if_pos (by rfl)]
      go_simp
      have hS42 := allocK hS40 (.cells (List.replicate 8 (Value.int .u8 0)).toArray 5)
      obtain ⟨v42, hv42⟩ : ∃ v, v = v40.alloc (.cells (List.replicate 8 (Value.int .u8 0)).toArray 5) := ⟨_, rfl⟩
      obtain ⟨p42, hp42⟩ : ∃ p, p = v40.heap.size := ⟨_, rfl⟩
      have hc42 : ∀ j, j < 8 → v42.cell? ⟨p42, j, none⟩ = some (.int .u8 0) := by rw [hv42, hp42]; exact mk8_cells v40
      have hc42' : Hid _ := hc42
      have hblv42 : Below v40.heap.size v40 v42 := by rw [hv42]; exact (Below.refl _ v40).alloc (Nat.le_refl _) _
      clear hc42
      rw [← hv42] at hS42
      first | (rw [← hv42, ← hp42]) | (simp only [List.replicate] at hv42; rw [← hv42, ← hp42])
      refine hK.out _ _ hS42 (fun _ => ?_)
      clear hv42 hp42
      have hc40' : v42.cell? ⟨p40, 0, none⟩ = some (.slice none 0 0) := by rw [hblv42.cell (lt_of_cell hc40)]; exact hc40
      refine wpAnyH_ready (rs := [31]) (by kernel_rfl) (by simp) ?_
      refine AllReadyH.cons (o := { dst := some 76, op := .call { callee := .value (.func 11), args := #[.tmp 75], argTypes := #[36] }, type := _, pos := _, after := _, guard := some (29, true) }) rfl (fun K hK => ?_) AllReadyH.nil
      rw [if_pos (by rfl)]
      go_wp2_with (go_at_call 11; refine (cJoin1.out _ p40 hc40' hS42).mono ?_; rintro e w43 ⟨rfl, hb43⟩)
      have hS43 := keepK hb43 hS42
      refine hK.out _ _ hS43 (fun _ => ?_)
      have hc43 : Hid (∀ j, j < 8 → w43.cell? ⟨p42, j, none⟩ = some (.int .u8 0)) := fun j hj => by rw [hb43.cell (lt_of_cell (hc42'.out j hj))]; exact hc42'.out j hj
      refine wpAnyH_ready (rs := [33]) (by kernel_rfl) (by simp) ?_
      refine AllReadyH.cons (o := { dst := some 78, op := .call { callee := .value (.func 8), args := #[.tmp 77], argTypes := #[26] }, type := _, pos := _, after := _, guard := some (29, true) }) rfl (fun K hK => ?_) AllReadyH.nil
      rw [if_pos (by rfl)]
      go_wp2_with (go_at_call 8; refine (cSum8.out _ p42 hc43.out hS43).mono ?_; rintro e w44 ⟨rfl, hb44⟩)
      have hS44 := keepK hb44 hS43
      refine hK.out _ _ hS44 (fun _ => ?_)
      refine wpAnyH_take (i := 34) (oi := { dst := some 79, op := .binOp .eql 28 (.tmp 76) (.tmp 78) 28, type := _, pos := _, after := _, guard := some (29, true) }) (v := .bool true) rfl (by kernel_rfl) (by kernel_rfl) (by kernel_rfl) (fun _ _ _ h => h) (Or.inl ⟨by rfl, ?_⟩) hS44 ?_
      · intro w hSw
        go_simp
      simp only [Act.put, List.setIfInBounds_toArray, List.set_cons_zero, List.set_cons_succ]
      refine wpAnyH_take (i := 35) (oi := { dst := some 80, op := .pick (.tmp 74) (.tmp 79) (.const (.bool false)), type := _, pos := _, after := _, guard := none }) (v := .bool true) rfl (by kernel_rfl) (by kernel_rfl) (by kernel_rfl) (fun _ _ _ h => h) (Or.inl ⟨by rfl, ?_⟩) hS44 ?_
      · intro w hSw
        go_simp
      simp only [Act.put, List.setIfInBounds_toArray, List.set_cons_zero, List.set_cons_succ]
      refine wpAnyH_take (i := 36) (oi := { dst := some 81, op := .move (.tmp 80), type := _, pos := _, after := _, guard := none }) (v := .bool true) rfl (by kernel_rfl) (by kernel_rfl) (by kernel_rfl) (fun _ _ _ h => h) (Or.inl ⟨by rfl, ?_⟩) hS44 ?_
      · intro w hSw
        go_simp
      simp only [Act.put, List.setIfInBounds_toArray, List.set_cons_zero, List.set_cons_succ]
      refine wpAnyH_take (i := 37) (oi := { dst := some 82, op := .move (.tmp 5), type := _, pos := _, after := _, guard := some (36, true) }) (v := .int .i64 4) rfl (by kernel_rfl) (by kernel_rfl) (by kernel_rfl) (fun _ _ _ h => h) (Or.inl ⟨by rfl, ?_⟩) hS44 ?_
      · intro w hSw
        go_simp
      simp only [Act.put, List.setIfInBounds_toArray, List.set_cons_zero, List.set_cons_succ]
      refine wpAnyH_take (i := 38) (oi := { dst := some 83, op := .binOp .eql 24 (.tmp 82) (.const (.int .i64 4)) 24, type := _, pos := _, after := _, guard := some (36, true) }) (v := .bool true) rfl (by kernel_rfl) (by kernel_rfl) (by kernel_rfl) (fun _ _ _ h => h) (Or.inl ⟨by rfl, ?_⟩) hS44 ?_
      · intro w hSw
        go_simp
      simp only [Act.put, List.setIfInBounds_toArray, List.set_cons_zero, List.set_cons_succ]
      refine wpAnyH_take (i := 39) (oi := { dst := some 84, op := .pick (.tmp 81) (.tmp 83) (.const (.bool false)), type := _, pos := _, after := _, guard := none }) (v := .bool true) rfl (by kernel_rfl) (by kernel_rfl) (by kernel_rfl) (fun _ _ _ h => h) (Or.inl ⟨by rfl, ?_⟩) hS44 ?_
      · intro w hSw
        go_simp
      simp only [Act.put, List.setIfInBounds_toArray, List.set_cons_zero, List.set_cons_succ]
      refine wpAnyH_take (i := 40) (oi := { dst := some 85, op := .move (.tmp 84), type := _, pos := _, after := _, guard := none }) (v := .bool true) rfl (by kernel_rfl) (by kernel_rfl) (by kernel_rfl) (fun _ _ _ h => h) (Or.inl ⟨by rfl, ?_⟩) hS44 ?_
      · intro w hSw
        go_simp
      simp only [Act.put, List.setIfInBounds_toArray, List.set_cons_zero, List.set_cons_succ]
      refine wpAnyH_take (i := 41) (oi := { dst := some 86, op := .move (.tmp 7), type := _, pos := _, after := _, guard := some (40, true) }) (v := .int .i64 4) rfl (by kernel_rfl) (by kernel_rfl) (by kernel_rfl) (fun _ _ _ h => h) (Or.inl ⟨by rfl, ?_⟩) hS44 ?_
      · intro w hSw
        go_simp
      simp only [Act.put, List.setIfInBounds_toArray, List.set_cons_zero, List.set_cons_succ]
      refine wpAnyH_take (i := 42) (oi := { dst := some 87, op := .binOp .eql 24 (.tmp 86) (.const (.int .i64 4)) 24, type := _, pos := _, after := _, guard := some (40, true) }) (v := .bool true) rfl (by kernel_rfl) (by kernel_rfl) (by kernel_rfl) (fun _ _ _ h => h) (Or.inl ⟨by rfl, ?_⟩) hS44 ?_
      · intro w hSw
        go_simp
      simp only [Act.put, List.setIfInBounds_toArray, List.set_cons_zero, List.set_cons_succ]
      refine wpAnyH_take (i := 43) (oi := { dst := some 88, op := .pick (.tmp 85) (.tmp 87) (.const (.bool false)), type := _, pos := _, after := _, guard := none }) (v := .bool true) rfl (by kernel_rfl) (by kernel_rfl) (by kernel_rfl) (fun _ _ _ h => h) (Or.inl ⟨by rfl, ?_⟩) hS44 ?_
      · intro w hSw
        go_simp
      simp only [Act.put, List.setIfInBounds_toArray, List.set_cons_zero, List.set_cons_succ]
      refine wpAnyH_take (i := 44) (oi := { dst := some 89, op := .move (.tmp 88), type := _, pos := _, after := _, guard := none }) (v := .bool true) rfl (by kernel_rfl) (by kernel_rfl) (by kernel_rfl) (fun _ _ _ h => h) (Or.inl ⟨by rfl, ?_⟩) hS44 ?_
      · intro w hSw
        go_simp
      simp only [Act.put, List.setIfInBounds_toArray, List.set_cons_zero, List.set_cons_succ]
      refine wpAnyH_take (i := 45) (oi := { dst := some 90, op := .move (.tmp 9), type := _, pos := _, after := _, guard := some (44, true) }) (v := .int .i64 0) rfl (by kernel_rfl) (by kernel_rfl) (by kernel_rfl) (fun _ _ _ h => h) (Or.inl ⟨by rfl, ?_⟩) hS44 ?_
      · intro w hSw
        go_simp
      simp only [Act.put, List.setIfInBounds_toArray, List.set_cons_zero, List.set_cons_succ]
      refine wpAnyH_take (i := 46) (oi := { dst := some 91, op := .binOp .eql 24 (.tmp 90) (.const (.int .i64 0)) 24, type := _, pos := _, after := _, guard := some (44, true) }) (v := .bool true) rfl (by kernel_rfl) (by kernel_rfl) (by kernel_rfl) (fun _ _ _ h => h) (Or.inl ⟨by rfl, ?_⟩) hS44 ?_
      · intro w hSw
        go_simp
      simp only [Act.put, List.setIfInBounds_toArray, List.set_cons_zero, List.set_cons_succ]
      refine wpAnyH_take (i := 47) (oi := { dst := some 92, op := .pick (.tmp 89) (.tmp 91) (.const (.bool false)), type := _, pos := _, after := _, guard := none }) (v := .bool true) rfl (by kernel_rfl) (by kernel_rfl) (by kernel_rfl) (fun _ _ _ h => h) (Or.inl ⟨by rfl, ?_⟩) hS44 ?_
      · intro w hSw
        go_simp
      simp only [Act.put, List.setIfInBounds_toArray, List.set_cons_zero, List.set_cons_succ]
      refine wpAnyH_take (i := 48) (oi := { dst := some 93, op := .move (.tmp 92), type := _, pos := _, after := _, guard := none }) (v := .bool true) rfl (by kernel_rfl) (by kernel_rfl) (by kernel_rfl) (fun _ _ _ h => h) (Or.inl ⟨by rfl, ?_⟩) hS44 ?_
      · intro w hSw
        go_simp
      simp only [Act.put, List.setIfInBounds_toArray, List.set_cons_zero, List.set_cons_succ]
      refine wpAnyH_take (i := 49) (oi := { dst := some 94, op := .load 28 (.tmp 8), type := _, pos := _, after := _, guard := some (48, true) }) rfl (by kernel_rfl) (by kernel_rfl) (by kernel_rfl) (fun _ _ _ h => h) (yieldsIf_load_mid (by rfl) 28 (.tmp 8) rfl g8 0 rfl (e0.map B8) _ (fun w hSw => hSw.1) Tryd.underlying28 rfl hie0) hS44 ?_
      simp only [Act.put, List.setIfInBounds_toArray, List.set_cons_zero, List.set_cons_succ]
      refine wpAnyH_ready (rs := [50]) (by kernel_rfl) (by simp) ?_
      refine AllReadyH.cons (o := { dst := some 95, op := .call { callee := .value (.func 8), args := #[.const (.slice none 0 0)], argTypes := #[26] }, type := _, pos := _, after := _, guard := some (48, true) }) rfl (fun K hK => ?_) AllReadyH.nil
      rw [if_pos (by rfl)]
      go_wp2_with (go_at_call 8; refine (cSum0.out _ hS44).mono ?_; rintro e w50 ⟨rfl, hb50⟩)
      have hS50 := keepK hb50 hS44
      refine hK.out _ _ hS50 (fun _ => ?_)
      refine wpAnyH_take (i := 51) (oi := { dst := some 96, op := .binOp .eql 28 (.tmp 94) (.tmp 95) 28, type := _, pos := _, after := _, guard := some (48, true) }) (v := .bool true) rfl (by kernel_rfl) (by kernel_rfl) (by kernel_rfl) (fun _ _ _ h => h) (Or.inl ⟨by rfl, ?_⟩) hS50 ?_
      · intro w hSw
        go_simp
      simp only [Act.put, List.setIfInBounds_toArray, List.set_cons_zero, List.set_cons_succ]
      refine wpAnyH_take (i := 52) (oi := { dst := some 97, op := .pick (.tmp 93) (.tmp 96) (.const (.bool false)), type := _, pos := _, after := _, guard := none }) (v := .bool true) rfl (by kernel_rfl) (by kernel_rfl) (by kernel_rfl) (fun _ _ _ h => h) (Or.inl ⟨by rfl, ?_⟩) hS50 ?_
      · intro w hSw
        go_simp
      simp only [Act.put, List.setIfInBounds_toArray, List.set_cons_zero, List.set_cons_succ]
      refine wpAnyH_take (i := 53) (oi := { dst := some 0, op := .assign (.tmp 97), type := _, pos := _, after := _, guard := none }) (v := .bool true) rfl (by kernel_rfl) (by kernel_rfl) (by kernel_rfl) (fun _ _ _ h => h) (Or.inl ⟨by rfl, ?_⟩) hS50 ?_
      · intro w hSw
        go_simp
      simp only [Act.put, List.setIfInBounds_toArray, List.set_cons_zero]
      refine wpAnyH_done (by kernel_rfl) ?_ _
      go_wp2
      go_ret
      exact ⟨rfl, hbB.trans (hS50.2.mono hbB.size)⟩
  · rw [if_pos (by rfl)]
    go_simp
    have hS40 := allocK hS28 (.cells (List.replicate 8 (Value.int .u8 0)).toArray 5)
    obtain ⟨v40, hv40⟩ : ∃ v, v = w28.alloc (.cells (List.replicate 8 (Value.int .u8 0)).toArray 5) := ⟨_, rfl⟩
    obtain ⟨p42, hp42⟩ : ∃ p, p = w28.heap.size := ⟨_, rfl⟩
    have hc42 : ∀ j, j < 8 → v40.cell? ⟨p42, j, none⟩ = some (.int .u8 0) := by rw [hv40, hp42]; exact mk8_cells w28
    have hc42' : Hid _ := hc42
    have hblv40 : Below w28.heap.size w28 v40 := by rw [hv40]; exact (Below.refl _ w28).alloc (Nat.le_refl _) _
    clear hc42
    rw [← hv40] at hS40
    first | (rw [← hv40, ← hp42]) | (simp only [List.replicate] at hv40; rw [← hv40, ← hp42])
    refine hK.out _ _ hS40 (fun _ => ?_)
    clear hv40 hp42
    refine wpAnyH_ready (rs := [30]) (by kernel_rfl) (by simp) ?_
    refine AllReadyH.cons (o := { dst := some 75, op := .buildSlice 36 1 #[(0, .const (.slice none 0 0))], type := _, pos := _, after := _, guard := some (29, true) }) rfl (fun K hK => ?_) AllReadyH.nil
    rw [if_pos (by rfl)]
    go_simp
    have hS41 := allocK hS40 (.cells #[.slice none 0 0] 26)
    obtain ⟨v41, hv41⟩ : ∃ v, v = v40.alloc (.cells #[.slice none 0 0] 26) := ⟨_, rfl⟩
    obtain ⟨p40, hp40⟩ : ∃ p, p = v40.heap.size := ⟨_, rfl⟩
    have hc41 : v41.cell? ⟨p40, 0, none⟩ = some (.slice none 0 0) := by rw [hv41, hp40, World.cell?_alloc_at _ _ _ _ rfl]; rfl
    have hblv41 : Below v40.heap.size v40 v41 := by rw [hv41]; exact (Below.refl _ v40).alloc (Nat.le_refl _) _
    rw [← hv41] at hS41
    rw [← hv41, ← hp40]
    refine hK.out _ _ hS41 (fun _ => ?_)
    clear hv41 hp40
    refine wpAnyH_ready (rs := [31]) (by kernel_rfl) (by simp) ?_
    refine AllReadyH.cons (o := { dst := some 76, op := .call { callee := .value (.func 11), args := #[.tmp 75], argTypes := #[36] }, type := _, pos := _, after := _, guard := some (29, true) }) rfl (fun K hK => ?_) AllReadyH.nil
    rw [if_pos (by rfl)]
    go_wp2_with (go_at_call 11; refine (cJoin1.out _ p40 hc41 hS41).mono ?_; rintro e w43 ⟨rfl, hb43⟩)
    have hS43 := keepK hb43 hS41
    refine hK.out _ _ hS43 (fun _ => ?_)
    have hc43 : Hid (∀ j, j < 8 → w43.cell? ⟨p42, j, none⟩ = some (.int .u8 0)) := fun j hj => by
      have h1 : v41.cell? ⟨p42, j, none⟩ = some (.int .u8 0) := by rw [hblv41.cell (lt_of_cell (hc42'.out j hj))]; exact hc42'.out j hj
      rw [hb43.cell (lt_of_cell h1)]; exact h1
    refine wpAnyH_ready (rs := [33]) (by kernel_rfl) (by simp) ?_
    refine AllReadyH.cons (o := { dst := some 78, op := .call { callee := .value (.func 8), args := #[.tmp 77], argTypes := #[26] }, type := _, pos := _, after := _, guard := some (29, true) }) rfl (fun K hK => ?_) AllReadyH.nil
    rw [if_pos (by rfl)]
    go_wp2_with (go_at_call 8; refine (cSum8.out _ p42 hc43.out hS43).mono ?_; rintro e w44 ⟨rfl, hb44⟩)
    have hS44 := keepK hb44 hS43
    refine hK.out _ _ hS44 (fun _ => ?_)
    refine wpAnyH_take (i := 34) (oi := { dst := some 79, op := .binOp .eql 28 (.tmp 76) (.tmp 78) 28, type := _, pos := _, after := _, guard := some (29, true) }) (v := .bool true) rfl (by kernel_rfl) (by kernel_rfl) (by kernel_rfl) (fun _ _ _ h => h) (Or.inl ⟨by rfl, ?_⟩) hS44 ?_
    · intro w hSw
      go_simp
    simp only [Act.put, List.setIfInBounds_toArray, List.set_cons_zero, List.set_cons_succ]
    refine wpAnyH_take (i := 35) (oi := { dst := some 80, op := .pick (.tmp 74) (.tmp 79) (.const (.bool false)), type := _, pos := _, after := _, guard := none }) (v := .bool true) rfl (by kernel_rfl) (by kernel_rfl) (by kernel_rfl) (fun _ _ _ h => h) (Or.inl ⟨by rfl, ?_⟩) hS44 ?_
    · intro w hSw
      go_simp
    simp only [Act.put, List.setIfInBounds_toArray, List.set_cons_zero, List.set_cons_succ]
    refine wpAnyH_take (i := 36) (oi := { dst := some 81, op := .move (.tmp 80), type := _, pos := _, after := _, guard := none }) (v := .bool true) rfl (by kernel_rfl) (by kernel_rfl) (by kernel_rfl) (fun _ _ _ h => h) (Or.inl ⟨by rfl, ?_⟩) hS44 ?_
    · intro w hSw
      go_simp
    simp only [Act.put, List.setIfInBounds_toArray, List.set_cons_zero, List.set_cons_succ]
    refine wpAnyH_take (i := 37) (oi := { dst := some 82, op := .move (.tmp 5), type := _, pos := _, after := _, guard := some (36, true) }) (v := .int .i64 4) rfl (by kernel_rfl) (by kernel_rfl) (by kernel_rfl) (fun _ _ _ h => h) (Or.inl ⟨by rfl, ?_⟩) hS44 ?_
    · intro w hSw
      go_simp
    simp only [Act.put, List.setIfInBounds_toArray, List.set_cons_zero, List.set_cons_succ]
    refine wpAnyH_take (i := 38) (oi := { dst := some 83, op := .binOp .eql 24 (.tmp 82) (.const (.int .i64 4)) 24, type := _, pos := _, after := _, guard := some (36, true) }) (v := .bool true) rfl (by kernel_rfl) (by kernel_rfl) (by kernel_rfl) (fun _ _ _ h => h) (Or.inl ⟨by rfl, ?_⟩) hS44 ?_
    · intro w hSw
      go_simp
    simp only [Act.put, List.setIfInBounds_toArray, List.set_cons_zero, List.set_cons_succ]
    refine wpAnyH_take (i := 39) (oi := { dst := some 84, op := .pick (.tmp 81) (.tmp 83) (.const (.bool false)), type := _, pos := _, after := _, guard := none }) (v := .bool true) rfl (by kernel_rfl) (by kernel_rfl) (by kernel_rfl) (fun _ _ _ h => h) (Or.inl ⟨by rfl, ?_⟩) hS44 ?_
    · intro w hSw
      go_simp
    simp only [Act.put, List.setIfInBounds_toArray, List.set_cons_zero, List.set_cons_succ]
    refine wpAnyH_take (i := 40) (oi := { dst := some 85, op := .move (.tmp 84), type := _, pos := _, after := _, guard := none }) (v := .bool true) rfl (by kernel_rfl) (by kernel_rfl) (by kernel_rfl) (fun _ _ _ h => h) (Or.inl ⟨by rfl, ?_⟩) hS44 ?_
    · intro w hSw
      go_simp
    simp only [Act.put, List.setIfInBounds_toArray, List.set_cons_zero, List.set_cons_succ]
    refine wpAnyH_take (i := 41) (oi := { dst := some 86, op := .move (.tmp 7), type := _, pos := _, after := _, guard := some (40, true) }) (v := .int .i64 4) rfl (by kernel_rfl) (by kernel_rfl) (by kernel_rfl) (fun _ _ _ h => h) (Or.inl ⟨by rfl, ?_⟩) hS44 ?_
    · intro w hSw
      go_simp
    simp only [Act.put, List.setIfInBounds_toArray, List.set_cons_zero, List.set_cons_succ]
    refine wpAnyH_take (i := 42) (oi := { dst := some 87, op := .binOp .eql 24 (.tmp 86) (.const (.int .i64 4)) 24, type := _, pos := _, after := _, guard := some (40, true) }) (v := .bool true) rfl (by kernel_rfl) (by kernel_rfl) (by kernel_rfl) (fun _ _ _ h => h) (Or.inl ⟨by rfl, ?_⟩) hS44 ?_
    · intro w hSw
      go_simp
    simp only [Act.put, List.setIfInBounds_toArray, List.set_cons_zero, List.set_cons_succ]
    refine wpAnyH_take (i := 43) (oi := { dst := some 88, op := .pick (.tmp 85) (.tmp 87) (.const (.bool false)), type := _, pos := _, after := _, guard := none }) (v := .bool true) rfl (by kernel_rfl) (by kernel_rfl) (by kernel_rfl) (fun _ _ _ h => h) (Or.inl ⟨by rfl, ?_⟩) hS44 ?_
    · intro w hSw
      go_simp
    simp only [Act.put, List.setIfInBounds_toArray, List.set_cons_zero, List.set_cons_succ]
    refine wpAnyH_take (i := 44) (oi := { dst := some 89, op := .move (.tmp 88), type := _, pos := _, after := _, guard := none }) (v := .bool true) rfl (by kernel_rfl) (by kernel_rfl) (by kernel_rfl) (fun _ _ _ h => h) (Or.inl ⟨by rfl, ?_⟩) hS44 ?_
    · intro w hSw
      go_simp
    simp only [Act.put, List.setIfInBounds_toArray, List.set_cons_zero, List.set_cons_succ]
    refine wpAnyH_take (i := 45) (oi := { dst := some 90, op := .move (.tmp 9), type := _, pos := _, after := _, guard := some (44, true) }) (v := .int .i64 0) rfl (by kernel_rfl) (by kernel_rfl) (by kernel_rfl) (fun _ _ _ h => h) (Or.inl ⟨by rfl, ?_⟩) hS44 ?_
    · intro w hSw
      go_simp
    simp only [Act.put, List.setIfInBounds_toArray, List.set_cons_zero, List.set_cons_succ]
    refine wpAnyH_take (i := 46) (oi := { dst := some 91, op := .binOp .eql 24 (.tmp 90) (.const (.int .i64 0)) 24, type := _, pos := _, after := _, guard := some (44, true) }) (v := .bool true) rfl (by kernel_rfl) (by kernel_rfl) (by kernel_rfl) (fun _ _ _ h => h) (Or.inl ⟨by rfl, ?_⟩) hS44 ?_
    · intro w hSw
      go_simp
    simp only [Act.put, List.setIfInBounds_toArray, List.set_cons_zero, List.set_cons_succ]
    refine wpAnyH_take (i := 47) (oi := { dst := some 92, op := .pick (.tmp 89) (.tmp 91) (.const (.bool false)), type := _, pos := _, after := _, guard := none }) (v := .bool true) rfl (by kernel_rfl) (by kernel_rfl) (by kernel_rfl) (fun _ _ _ h => h) (Or.inl ⟨by rfl, ?_⟩) hS44 ?_
    · intro w hSw
      go_simp
    simp only [Act.put, List.setIfInBounds_toArray, List.set_cons_zero, List.set_cons_succ]
    refine wpAnyH_take (i := 48) (oi := { dst := some 93, op := .move (.tmp 92), type := _, pos := _, after := _, guard := none }) (v := .bool true) rfl (by kernel_rfl) (by kernel_rfl) (by kernel_rfl) (fun _ _ _ h => h) (Or.inl ⟨by rfl, ?_⟩) hS44 ?_
    · intro w hSw
      go_simp
    simp only [Act.put, List.setIfInBounds_toArray, List.set_cons_zero, List.set_cons_succ]
    refine wpAnyH_take (i := 49) (oi := { dst := some 94, op := .load 28 (.tmp 8), type := _, pos := _, after := _, guard := some (48, true) }) rfl (by kernel_rfl) (by kernel_rfl) (by kernel_rfl) (fun _ _ _ h => h) (yieldsIf_load_mid (by rfl) 28 (.tmp 8) rfl g8 0 rfl (e0.map B8) _ (fun w hSw => hSw.1) Tryd.underlying28 rfl hie0) hS44 ?_
    simp only [Act.put, List.setIfInBounds_toArray, List.set_cons_zero, List.set_cons_succ]
    refine wpAnyH_ready (rs := [50]) (by kernel_rfl) (by simp) ?_
    refine AllReadyH.cons (o := { dst := some 95, op := .call { callee := .value (.func 8), args := #[.const (.slice none 0 0)], argTypes := #[26] }, type := _, pos := _, after := _, guard := some (48, true) }) rfl (fun K hK => ?_) AllReadyH.nil
    rw [if_pos (by rfl)]
    go_wp2_with (go_at_call 8; refine (cSum0.out _ hS44).mono ?_; rintro e w50 ⟨rfl, hb50⟩)
    have hS50 := keepK hb50 hS44
    refine hK.out _ _ hS50 (fun _ => ?_)
    refine wpAnyH_take (i := 51) (oi := { dst := some 96, op := .binOp .eql 28 (.tmp 94) (.tmp 95) 28, type := _, pos := _, after := _, guard := some (48, true) }) (v := .bool true) rfl (by kernel_rfl) (by kernel_rfl) (by kernel_rfl) (fun _ _ _ h => h) (Or.inl ⟨by rfl, ?_⟩) hS50 ?_
    · intro w hSw
      go_simp
    simp only [Act.put, List.setIfInBounds_toArray, List.set_cons_zero, List.set_cons_succ]
    refine wpAnyH_take (i := 52) (oi := { dst := some 97, op := .pick (.tmp 93) (.tmp 96) (.const (.bool false)), type := _, pos := _, after := _, guard := none }) (v := .bool true) rfl (by kernel_rfl) (by kernel_rfl) (by kernel_rfl) (fun _ _ _ h => h) (Or.inl ⟨by rfl, ?_⟩) hS50 ?_
    · intro w hSw
      go_simp
    simp only [Act.put, List.setIfInBounds_toArray, List.set_cons_zero, List.set_cons_succ]
    refine wpAnyH_take (i := 53) (oi := { dst := some 0, op := .assign (.tmp 97), type := _, pos := _, after := _, guard := none }) (v := .bool true) rfl (by kernel_rfl) (by kernel_rfl) (by kernel_rfl) (fun _ _ _ h => h) (Or.inl ⟨by rfl, ?_⟩) hS50 ?_
    · intro w hSw
      go_simp
    simp only [Act.put, List.setIfInBounds_toArray, List.set_cons_zero]
    refine wpAnyH_done (by kernel_rfl) ?_ _
    go_wp2
    go_ret
    exact ⟨rfl, hbB.trans (hS50.2.mono hbB.size)⟩
end Go.Proofs.YtbigkblkfnnfkabDoor
