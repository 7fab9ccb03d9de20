/- Codes built at once: one 15, awake 12. -/
import Derived.Test.YtefklmckkigllaaKnM
import Derived.Test.YtefklmckkigllaaSmB
import Derived.Test.YtefklmckkigllaaSame
namespace Go.Proofs.Ytefklmckkigllaa
open Go.RowKit
set_option linter.unusedVariables false

section
variable {ops : Array Oper} {rest : List Oper} {o : Oper} {a : Act} {w : World} {Q : Exit → Act → World → Prop}
/-- A struct is made, guarded or not. -/
theorem wpList_buildG (hw : Region.wanted o (yielded ops a.tmps) = true) (t : TypeId) (parts : Array (Nat × Operand)) (ho : o.op = .build t parts) (cs : List Value)
    (hb : Try.prog.built t (parts.map fun (i, x) => (i, a.eval x)).toList = some cs.toArray)
    (h : wpList Try.prog ops Q rest (a.put o.dst (.agg cs.toArray)) w) : wpList Try.prog ops Q (o :: rest) a w :=
  BigFrame.wpList_want hw fun K hK => wp_build t parts ho (by rw [hb]; rfl) (by rw [hb]; exact hK _ _ h)
/-- One is laid as a row, guarded or not. -/
theorem wpList_one35 (hw : Region.wanted o (yielded ops a.tmps) = true) (x : Operand) (ho : o.op = .buildSlice 22 1 #[(0, x)]) (ycs : List Value) (hx : a.eval x = .agg ycs.toArray) (hyn : ycs.length = 2)
    (h : ∀ w', At 35 w' w.heap.size ycs → Below w.heap.size w w' → wpList Try.prog ops Q rest (a.put o.dst (.slice (some ⟨w.heap.size, 0, none⟩) 1 1)) w') : wpList Try.prog ops Q (o :: rest) a w := by
  obtain ⟨ie, hi, hz0, hz1, hz2⟩ := info_parts f35
  refine BigFrame.wpList_want hw fun K hK => wp_buildSlice 22 35 1 #[(0, x)] ho ycs.toArray ie _ Try.underlying22 hi hz0 (by rw [hz1]; decide) (by rw [hz1]; decide) ?_ (hK _ _ (h _ (_root_.Go.heap_alloc_new w _) ((Below.refl _ w).alloc (Nat.le_refl _) _)))
  rw [hz1]
  simp only [List.map_toArray, List.map_cons, List.map_nil, hx]
  match ycs, hyn with
  | [a0, a1], _ => (show _ = _); kernel_rfl
/-- One is laid as a row, guarded or not. -/
theorem wpList_one37 (hw : Region.wanted o (yielded ops a.tmps) = true) (x : Operand) (ho : o.op = .buildSlice 38 1 #[(0, x)]) (ycs : List Value) (hx : a.eval x = .agg ycs.toArray) (hyn : ycs.length = 4)
    (h : ∀ w', At 37 w' w.heap.size ycs → Below w.heap.size w w' → wpList Try.prog ops Q rest (a.put o.dst (.slice (some ⟨w.heap.size, 0, none⟩) 1 1)) w') : wpList Try.prog ops Q (o :: rest) a w := by
  obtain ⟨ie, hi, hz0, hz1, hz2⟩ := info_parts f37
  refine BigFrame.wpList_want hw fun K hK => wp_buildSlice 38 37 1 #[(0, x)] ho ycs.toArray ie _ Try.underlying38 hi hz0 (by rw [hz1]; decide) (by rw [hz1]; decide) ?_ (hK _ _ (h _ (_root_.Go.heap_alloc_new w _) ((Below.refl _ w).alloc (Nat.le_refl _) _)))
  rw [hz1]
  simp only [List.map_toArray, List.map_cons, List.map_nil, hx]
  match ycs, hyn with
  | [a0, a1, a2, a3], _ => (show _ = _); kernel_rfl
/-- One is laid as a row, guarded or not. -/
theorem wpList_one49 (hw : Region.wanted o (yielded ops a.tmps) = true) (x : Operand) (ho : o.op = .buildSlice 43 1 #[(0, x)]) (ycs : List Value) (hx : a.eval x = .agg ycs.toArray) (hyn : ycs.length = 5)
    (h : ∀ w', At 49 w' w.heap.size ycs → Below w.heap.size w w' → wpList Try.prog ops Q rest (a.put o.dst (.slice (some ⟨w.heap.size, 0, none⟩) 1 1)) w') : wpList Try.prog ops Q (o :: rest) a w := by
  obtain ⟨ie, hi, hz0, hz1, hz2⟩ := info_parts f49
  refine BigFrame.wpList_want hw fun K hK => wp_buildSlice 43 49 1 #[(0, x)] ho ycs.toArray ie _ Try.underlying43 hi hz0 (by rw [hz1]; decide) (by rw [hz1]; decide) ?_ (hK _ _ (h _ (_root_.Go.heap_alloc_new w _) ((Below.refl _ w).alloc (Nat.le_refl _) _)))
  rw [hz1]
  simp only [List.map_toArray, List.map_cons, List.map_nil, hx]
  match ycs, hyn with
  | [a0, a1, a2, a3, a4], _ => (show _ = _); kernel_rfl
/-- One is laid as a row, guarded or not. -/
theorem wpList_one45 (hw : Region.wanted o (yielded ops a.tmps) = true) (x : Operand) (ho : o.op = .buildSlice 23 1 #[(0, x)]) (ycs : List Value) (hx : a.eval x = .agg ycs.toArray) (hyn : ycs.length = 3)
    (h : ∀ w', At 45 w' w.heap.size ycs → Below w.heap.size w w' → wpList Try.prog ops Q rest (a.put o.dst (.slice (some ⟨w.heap.size, 0, none⟩) 1 1)) w') : wpList Try.prog ops Q (o :: rest) a w := by
  obtain ⟨ie, hi, hz0, hz1, hz2⟩ := info_parts f45
  refine BigFrame.wpList_want hw fun K hK => wp_buildSlice 23 45 1 #[(0, x)] ho ycs.toArray ie _ Try.underlying23 hi hz0 (by rw [hz1]; decide) (by rw [hz1]; decide) ?_ (hK _ _ (h _ (_root_.Go.heap_alloc_new w _) ((Below.refl _ w).alloc (Nat.le_refl _) _)))
  rw [hz1]
  simp only [List.map_toArray, List.map_cons, List.map_nil, hx]
  match ycs, hyn with
  | [a0, a1, a2], _ => (show _ = _); kernel_rfl
/-- The seven bytes of the least code. -/
theorem wpList_by7 (hw : Region.wanted o (yielded ops a.tmps) = true) (ho : o.op = .buildSlice 42 7 #[(0, .const (.int .u8 0)), (1, .const (.int .u8 0)), (2, .const (.int .u8 1)), (3, .const (.int .u8 0)), (4, .const (.int .u8 0)), (5, .const (.int .u8 0)), (6, .const (.int .u8 0))])
    (h : ∀ w', At 5 w' w.heap.size (by0.map B8) → Below w.heap.size w w' → wpList Try.prog ops Q rest (a.put o.dst (.slice (some ⟨w.heap.size, 0, none⟩) 7 7)) w') : wpList Try.prog ops Q (o :: rest) a w := by
  obtain ⟨ie, hi, hz0, hz1, hz2⟩ := info_parts Try.info5
  refine BigFrame.wpList_want hw fun K hK => wp_buildSlice 42 5 7 _ ho (by0.map B8).toArray ie _ Try.underlying42 hi hz0 (by rw [hz1]; decide) (by rw [hz1]; decide) ?_ (hK _ _ (h _ (_root_.Go.heap_alloc_new w _) ((Below.refl _ w).alloc (Nat.le_refl _) _)))
  rw [hz1]
  simp only [List.map_toArray, List.map_cons, List.map_nil, BigFrame.eval_const]
  kernel_rfl
end

/-- A row of one. -/
theorem row1 {α : Type} {cl : α → List Value} {n : Nat} {P : α → Prop} {t : TypeId} {B g : Nat} {w : World} (x : α) (hA : At t w g (cl x)) (hP : P x) (hB : g < B) : RowG cl n P B w (some ⟨g, 0, none⟩) 1 [x] := by
  refine ⟨by simp, by simp, .inr ⟨g, 0, rfl, hB, fun i k hk => ?_⟩⟩
  cases i with
  | zero =>
    simp at hk
    subst hk
    refine ⟨fun j v hj => ?_, hP⟩
    rw [hA.cell]
    simpa using hj
  | succ i => simp at hk
theorem row0 {α : Type} {cl : α → List Value} {n : Nat} {P : α → Prop} {B : Nat} {w : World} (a : Option Addr) (c : Nat) : RowG cl n P B w a c [] := ⟨Nat.zero_le _, Nat.zero_le _, .inl rfl⟩
theorem row_at {w : World} {g : Nat} {bs : List UInt8} (hA : At 5 w g (bs.map B8)) : Row w (some ⟨g, 0, none⟩) bs := by
  refine .inr ⟨g, 0, rfl, fun j hj => ?_⟩
  rw [hA.cell, Nat.zero_add, List.getElem?_map, List.getElem?_eq_getElem hj]
  simp [B8, List.getD, List.getElem?_eq_getElem hj]
theorem i64_0 : I64 0 := ⟨by decide, by decide⟩
/-- A code of one body without anything. -/
theorem in_body (w : World) (g : Nat) (s : Int) (hs : I64 s) (hA : At 45 w g [.slice none 0 0, .int .i64 s, .slice none 0 0]) (B : Nat) (hB : g < B) : CT.In B w ⟨none, 0, [], 0, some ⟨g, 0, none⟩, 1, [⟨none, 0, [], s, none, 0, []⟩]⟩ :=
  ⟨row0 _ _, i64_0, row1 (⟨none, 0, [], s, none, 0, []⟩ : BT) hA ⟨row0 _ _, hs, row0 _ _⟩ hB⟩

/-- A code of one node. -/
theorem in_one (w : World) (g1 g2 g3 : Nat) (x : NT) (B : Nat) (hx : x.In B w) (h1 : At 35 w g1 [.int .u8 1, .int .u64 0]) (h2 : At 49 w g2 x.cells) (h3 : At 45 w g3 [.slice none 0 0, .int .i64 1, .slice (some ⟨g2, 0, none⟩) 1 1]) (b1 : g1 < B) (b2 : g2 < B) (b3 : g3 < B) : CT.In B w ⟨some ⟨g1, 0, none⟩, 1, [⟨1, 0⟩], 0, some ⟨g3, 0, none⟩, 1, [⟨none, 0, [], 1, some ⟨g2, 0, none⟩, 1, [x]⟩]⟩ :=
  ⟨row1 (⟨1, 0⟩ : Vl) h1 ⟨by decide, by decide⟩ b1, i64_0, row1 (⟨none, 0, [], 1, some ⟨g2, 0, none⟩, 1, [x]⟩ : BT) h3 ⟨row0 _ _, (⟨by decide, by decide⟩ : I64 1), row1 x h2 hx b2⟩ b3⟩

set_option maxRecDepth 100000 in
set_option maxHeartbeats 3200000 in
theorem one_any (x : NT) (w : World) (hx : x.In w.heap.size w) :
    Calls Try.prog 15 #[.agg x.cells.toArray] w fun e w' => (∃ y : CT, e = .returned (.agg y.cells.toArray) ∧ y.cd = cd1 x.nd ∧ y.In w'.heap.size w') ∧ Below w.heap.size w w' := by
  have HX : Hid (x.In w.heap.size w) := hx
  clear hx
  obtain ⟨x0, x1, x2, x3, x4, hxc⟩ : ∃ x0 x1 x2 x3 x4, Hid (x.cells = [x0, x1, x2, x3, x4]) := ⟨_, _, _, _, _, (rfl : x.cells = _)⟩
  rw [hxc.out]
  go_enter Try.func15, Try.ntmps15
  go_wp2_with (first
    | ((with_reducible show wpList _ _ _ _ _ _); refine wpList_box_at rfl 49 (.tmp 0) rfl [x0, x1, x2, x3, x4] rfl ?_; intro w1 hA1 hb1 hs1; clear hs1)
    | ((with_reducible show wpList _ _ _ _ _ _); refine wpList_alloc_at (o := { dst := some 2, .. }) rfl 25 rfl _ 3 z25 ?_; intro w2 hA2 hb2 hs2; clear hs2; refine Hid.out ?_))
  refine hidU ?_
  have l1 := hA1.lt
  have l2 := hA2.lt
  go_wp2_with (first
    | ((with_reducible show wpList _ _ _ _ _ _); refine wpList_build_at (P := Try.prog) rfl 35 _ rfl [.int .u8 1, .int .u64 0] (by kernel_rfl) ?_)
    | ((with_reducible show wpList _ _ _ _ _ _); refine wpList_one35 (by kernel_rfl) (.tmp 3) rfl [.int .u8 1, .int .u64 0] rfl rfl ?_; intro w3 hA3 hb3)
    | ((with_reducible show wpList _ _ _ _ _ _); refine wpList_load_at (P := Try.prog) rfl 49 (.tmp 1) rfl w.heap.size rfl 49 [x0, x1, x2, x3, x4] ((hA1.below hb2).below hb3) _ Try.underlying49 rfl i49 ?_)
    | ((with_reducible show wpList _ _ _ _ _ _); refine wpList_one49 (by kernel_rfl) (.tmp 5) rfl [x0, x1, x2, x3, x4] rfl rfl ?_; intro w4 hA4 hb4)
    | ((with_reducible show wpList _ _ _ _ _ _); refine wpList_build_at (P := Try.prog) rfl 45 _ rfl [.slice none 0 0, .int .i64 1, .slice (some ⟨w3.heap.size, 0, none⟩) 1 1] (by kernel_rfl) ?_)
    | ((with_reducible show wpList _ _ _ _ _ _); refine wpList_one45 (by kernel_rfl) (.tmp 7) rfl [.slice none 0 0, .int .i64 1, .slice (some ⟨w3.heap.size, 0, none⟩) 1 1] rfl rfl ?_; intro w5 hA5 hb5; refine Hid.out ?_))
  refine hidU ?_
  have hA25 := ((hA2.below hb3).below hb4).below hb5
  have HH : Hid (Below w.heap.size w w1 ∧ Below w1.heap.size w1 w2 ∧ Below w2.heap.size w2 w3 ∧ Below w3.heap.size w3 w4 ∧ Below w4.heap.size w4 w5 ∧ At 35 w3 w2.heap.size [.int .u8 1, .int .u64 0] ∧ At 49 w4 w3.heap.size [x0, x1, x2, x3, x4] ∧ At 45 w5 w4.heap.size [.slice none 0 0, .int .i64 1, .slice (some ⟨w3.heap.size, 0, none⟩) 1 1]) := ⟨hb1, hb2, hb3, hb4, hb5, hA3, hA4, hA5⟩
  clear hA1 hA2 hA3 hA4 hA5 hb1 hb2 hb3 hb4 hb5
  go_wp2_with (first
    | ((with_reducible show wpList _ _ _ _ _ _); refine wpList_build_at (P := Try.prog) rfl 25 _ rfl [.slice (some ⟨w2.heap.size, 0, none⟩) 1 1, .int .i64 0, .slice (some ⟨w4.heap.size, 0, none⟩) 1 1] (by kernel_rfl) ?_)
    | ((with_reducible show wpList _ _ _ _ _ _); refine wpList_store_at (P := Try.prog) rfl 25 (.tmp 2) (.tmp 9) rfl w1.heap.size [.slice (some ⟨w2.heap.size, 0, none⟩) 1 1, .int .i64 0, .slice (some ⟨w4.heap.size, 0, none⟩) 1 1] rfl rfl 25 _ hA25 i25 rfl (by intro x hx; simp only [List.mem_cons, List.mem_nil_iff, or_false] at hx; rcases hx with rfl | rfl | rfl <;> rfl) ?_; intro w9 hA9 hb9 hs9; clear hs9))
  refine bodyPost_ret (results_at rfl _ _ w1.heap.size 25 [.slice (some ⟨w2.heap.size, 0, none⟩) 1 1, .int .i64 0, .slice (some ⟨w4.heap.size, 0, none⟩) 1 1] _ rfl hA9 Try.underlying25 rfl i25) rfl ?_
  obtain ⟨hb1, hb2, hb3, hb4, hb5, hA3, hA4, hA5⟩ := HH.out
  have l3 := hA3.lt
  have l4 := hA4.lt
  have l5 := hA5.lt
  have k3 := hb3.size
  have k4 := hb4.size
  have k5 := hb5.size
  have k9 := hb9.size
  have k1 := hb1.size
  have k2 := hb2.size
  have hB5 : Below w.heap.size w w5 := (((hb1.trans (hb2.mono k1)).trans (hb3.mono (by omega))).trans (hb4.mono (by omega))).trans (hb5.mono (by omega))
  have hB9 : Below w.heap.size w w9 := hb9.below hB5 (by omega) (by omega)
  refine ⟨⟨⟨some ⟨w2.heap.size, 0, none⟩, 1, [⟨1, 0⟩], 0, some ⟨w4.heap.size, 0, none⟩, 1, [⟨none, 0, [], 1, some ⟨w3.heap.size, 0, none⟩, 1, [x]⟩]⟩, rfl, rfl, ?_⟩, hB9⟩
  refine in_one w9 _ _ _ x _ ((NT.In.old HX.out (Old.of_below hB9 (Nat.le_refl _))).up (by omega)) (hb9.at ((hA3.below hb4).below hb5) (by omega)) ?_ (hb9.at hA5 (by omega)) (by omega) (by omega) (by omega)
  rw [hxc.out]
  exact hb9.at (hA4.below hb5) (by omega)

set_option maxRecDepth 100000 in
set_option maxHeartbeats 3200000 in
theorem awake_any (w : World) : Calls Try.prog 12 #[] w fun e w' => e = .returned (.bool true) ∧ Below w.heap.size w w' := by
  have Q1 : Hid (∀ u g, At 45 u g [.slice none 0 0, .int .i64 0, .slice none 0 0] → Calls Try.prog 16 #[.agg #[.slice none 0 0, .int .i64 0, .slice (some ⟨g, 0, none⟩) 1 1]] u fun e w' => (∃ v, e = .returned (.tuple #[v, .int .i64 0]) ∧ Own u.heap.size w' v by0) ∧ Below u.heap.size u w') := fun u g hA => by
    have h := bytesC_any u.heap.size ⟨none, 0, [], 0, some ⟨g, 0, none⟩, 1, [⟨none, 0, [], 0, none, 0, []⟩]⟩ u (in_body u g 0 i64_0 hA _ hA.lt) (Nat.le_refl _)
    refine h.mono ?_
    rintro e w' ⟨h1 | ⟨_, v, he, ho⟩, hb⟩
    · exact absurd chk0 h1.1
    · exact ⟨⟨v, he, by rw [← enc0]; exact ho⟩, hb⟩
  have Q2 : Hid (∀ u, Calls Try.prog 14 #[.agg #[.slice none 0 0, .int .i64 0, .slice none 0 0]] u fun e w' => e = .returned (.int .i64 3) ∧ Below u.heap.size u w') := fun u => by
    have h := check_any u.heap.size ⟨none, 0, [], 0, none, 0, []⟩ u ⟨row0 _ _, i64_0, row0 _ _⟩ (Nat.le_refl _)
    refine h.mono ?_
    rintro e w' ⟨he, hb⟩
    exact ⟨by rw [he]; exact congrArg (fun k : Nat => Ending.returned (.int .i64 (k : Int))) chkE, hb⟩
  go_enter Try.func12, Try.ntmps12
  go_wp2_with (first
    | ((with_reducible show wpList _ _ _ _ _ _); refine wpList_build_at (P := Try.prog) rfl 45 _ rfl [.slice none 0 0, .int .i64 0, .slice none 0 0] (by kernel_rfl) ?_)
    | ((with_reducible show wpList _ _ _ _ _ _); refine wpList_one45 (by kernel_rfl) (.tmp 4) rfl [.slice none 0 0, .int .i64 0, .slice none 0 0] rfl rfl ?_; intro w1 hA1 hb1)
    | ((with_reducible show wpList _ _ _ _ _ _); refine wpList_build_at (P := Try.prog) rfl 25 _ rfl [.slice none 0 0, .int .i64 0, .slice (some ⟨w.heap.size, 0, none⟩) 1 1] (by kernel_rfl) ?_)
    | (go_at_call 16; refine (Q1.out _ _ hA1).mono ?_; rintro _ w2 ⟨⟨v, rfl, hO⟩, hb2⟩; refine Hid.out ?_))
  refine hidU ?_
  have hB2 : Below w.heap.size w w2 := hb1.trans (hb2.mono hb1.size)
  obtain ⟨ao, co, rfl, hco, _, hrow⟩ := hO.row
  have HRow : Hid (Row w2 ao by0) := hrow
  have hl : by0.length = 7 := rfl
  rw [hl]
  have Q3 : Hid (∀ u g, Below w2.heap.size w2 u → At 5 u g (by0.map B8) → Calls Try.prog 18 #[.slice ao 7 co, .slice (some ⟨g, 0, none⟩) 7 7] u fun e w' => e = .returned (.bool true) ∧ w' = u) := fun u g hb hA => by
    have := same_any ao (some ⟨g, 0, none⟩) co 7 by0 by0 u (Row.below HRow.out hb) (row_at hA)
    rw [show (by0 == by0) = true by rfl] at this
    exact this
  clear hb1 hb2 hA1 Q1 hO hrow hco hl
  go_wp2_with (first
    | ((with_reducible show wpList _ _ _ _ _ _); refine wpList_by7 (by kernel_rfl) rfl ?_; intro w3 hA3 hb3)
    | ((with_reducible show wpList _ _ _ _ _ _); refine wpList_buildG (by kernel_rfl) 25 _ rfl [.slice none 0 0, .int .i64 0, .slice none 0 0] (by kernel_rfl) ?_)
    | (go_at_call 18; refine (Q3.out _ _ hb3 hA3).mono ?_; rintro _ w4 ⟨rfl, rfl⟩)
    | (go_at_call 14; refine (Q2.out _).mono ?_; rintro _ w5 ⟨rfl, hb5⟩))
  go_ret
  have hB3 := hB2.trans (hb3.mono hB2.size)
  exact ⟨rfl, hB3.trans (hb5.mono hB3.size)⟩

end Go.Proofs.Ytefklmckkigllaa
