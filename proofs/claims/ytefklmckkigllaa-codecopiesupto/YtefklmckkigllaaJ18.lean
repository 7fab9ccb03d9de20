/- Joined texts of the proof. -/
import Derived.Test.YtefklmckkigllaaJ11
import Derived.Test.YtefklmckkigllaaJ1
import Derived.Laws.BytesArg
import Derived.Test.YtefklmckkigllaaJ9

/- The reader: a node, a body, a code. -/
namespace Go.Proofs.Ytefklmckkigllaa
open Go.RowKit
set_option linter.unusedVariables false

/-- What a list's reader tells, its row known. -/
theorem ListP.row {α δ : Type} {cl : α → List Value} {dat : α → δ} {El : Nat → World → α → Prop} {n B g most : Nat} {w : World} {D : List δ × St} {e : Ending} {w' : World} (h : ListP cl dat El n B g most w D e w') (P : World → α → Prop) (hP : ∀ y, El w.heap.size w' y → P w' y) (hm : most ≤ 1048576) :
    ∃ (a : Option Addr) (c : Nat) (ys : List α), e = .returned (.slice a ys.length c) ∧ ys.map dat = D.1 ∧ Rr B w' g D.2 ∧ But g w w' ∧ RowG cl n (P w') w'.heap.size w' a c ys ∧ RowU w.heap.size a ys ∧ ∀ y ∈ ys, El w.heap.size w' y := by
  obtain ⟨a, c, ys, he, hd, hR, hb, h1, h2, h3, h4⟩ := h
  have := rowOfRead (P := P w') h1 h2 hm h3 (fun y hy => hP y (h4 y hy))
  exact ⟨a, c, ys, he, hd, hR, hb, this.1, this.2, h4⟩

end Go.Proofs.Ytefklmckkigllaa

/- The reader: Read. -/
namespace Go.Proofs.Ytefklmckkigllaa
open Go.RowKit
set_option linter.unusedVariables false

end Go.Proofs.Ytefklmckkigllaa

/- What the known codes are, by evaluation. -/
namespace Go.Proofs.Ytefklmckkigllaa
open Go.RowKit
set_option linter.unusedVariables false

/-- The least code. -/
def cd0 : Cd := ⟨[], 0, [⟨[], 0, []⟩]⟩
def by0 : List UInt8 := [0, 0, 1, 0, 0, 0, 0]
theorem chk0 : checkC cd0 = 0 := by kernel_rfl
theorem enc0 : encC cd0 = by0 := by kernel_rfl
theorem chkE : checkC ⟨[], 0, []⟩ = 3 := by kernel_rfl
end Go.Proofs.Ytefklmckkigllaa

/- assizekit.SameBytes: it tells whether two slices of bytes hold the same bytes. -/
namespace Go.Proofs.Ytefklmckkigllaa
open Go.RowKit
set_option linter.unusedVariables false

theorem strOfNums_bytes (bs : List UInt8) : strOfNums (bs.map fun b => (b.toNat : Int)) = ⟨bs.toArray⟩ := by
  unfold strOfNums
  congr 2
  rw [List.map_map]
  conv => rhs; rw [← List.map_id bs]
  apply List.map_congr_left
  intro b _
  simp

theorem conv_zero (w : World) (a : Option Addr) (c : Nat) : (convert 42 9 (.slice a 0 c)).run Try.prog w = .ok (.string ⟨#[]⟩) w := by
  rw [run_convert_bytes_string w 42 9 5 a 0 c Try.underlying42 Try.underlying5 Try.underlying9]
  cases a with
  | none => simp [Conv.bytesToString]; rfl
  | some p =>
    have := run_bytesToString (P := Try.prog) w p 0 c [] (by have := run_loadCells_list (P := Try.prog) w p [] (fun j v hj => by simp at hj); simpa using this)
    rw [this]
    rfl

theorem conv_row {w : World} {a : Option Addr} {bs : List UInt8} (h : Row w a bs) (c : Nat) : (convert 42 9 (.slice a bs.length c)).run Try.prog w = .ok (.string ⟨bs.toArray⟩) w := by
  rcases h with rfl | ⟨b, off, rfl, hc⟩
  · exact conv_zero w a c
  · have := run_convert_bytes_arg (P := Try.prog) w 42 5 Try.underlying42 Try.underlying5 b off bs.length c (bs.map fun b => (b.toNat : Int)) (by simp)
      (fun i hi => by rw [hc i hi]; simp [List.getD, List.getElem?_map, List.getElem?_eq_getElem hi]) 9 Try.underlying9
    rw [this, strOfNums_bytes]

set_option maxRecDepth 100000 in
set_option maxHeartbeats 400000 in
theorem same_any (a1 a2 : Option Addr) (c1 c2 : Nat) (bs cs : List UInt8) (w : World) (h1 : Row w a1 bs) (h2 : Row w a2 cs) :
    Calls Try.prog 18 #[.slice a1 bs.length c1, .slice a2 cs.length c2] w fun e w' => e = .returned (.bool (bs == cs)) ∧ w' = w := by
  have k1 := conv_row h1 c1
  have k2 := conv_row h2 c2
  go_enter Try.func18, Try.ntmps18
  go_wp2
  go_ret
  exact ⟨rfl, rfl⟩
end Go.Proofs.Ytefklmckkigllaa

/- Codes built at once: one 15, awake 12. -/
namespace Go.Proofs.Ytefklmckkigllaa
open Go.RowKit
set_option linter.unusedVariables false

section
variable {ops : Array Oper} {rest : List Oper} {o : Oper} {a : Act} {w : World} {Q : Exit → Act → World → Prop}
/-- A struct is made, guarded or not. -/
theorem wpList_buildG (hw : Region.wanted o (yielded ops a.tmps) = true) (t : TypeId) (parts : Array (Nat × Operand)) (ho : o.op = .build t parts) (cs : List Value)
    (hb : Try.prog.built t (parts.map fun (i, x) => (i, a.eval x)).toList = some cs.toArray)
    (h : wpList Try.prog ops Q rest (a.put o.dst (.agg cs.toArray)) w) : wpList Try.prog ops Q (o :: rest) a w :=
  BigFrame.wpList_want hw fun K hK => wp_build t parts ho (by rw [hb]; rfl) (by rw [hb]; exact hK _ _ h)
/-- One is laid as a row, guarded or not. -/
theorem wpList_one45 (hw : Region.wanted o (yielded ops a.tmps) = true) (x : Operand) (ho : o.op = .buildSlice 23 1 #[(0, x)]) (ycs : List Value) (hx : a.eval x = .agg ycs.toArray) (hyn : ycs.length = 3)
    (h : ∀ w', At 45 w' w.heap.size ycs → Below w.heap.size w w' → wpList Try.prog ops Q rest (a.put o.dst (.slice (some ⟨w.heap.size, 0, none⟩) 1 1)) w') : wpList Try.prog ops Q (o :: rest) a w := by
  obtain ⟨ie, hi, hz0, hz1, hz2⟩ := info_parts f45
  refine BigFrame.wpList_want hw fun K hK => wp_buildSlice 23 45 1 #[(0, x)] ho ycs.toArray ie _ Try.underlying23 hi hz0 (by rw [hz1]; decide) (by rw [hz1]; decide) ?_ (hK _ _ (h _ (_root_.Go.heap_alloc_new w _) ((Below.refl _ w).alloc (Nat.le_refl _) _)))
  rw [hz1]
  simp only [List.map_toArray, List.map_cons, List.map_nil, hx]
  match ycs, hyn with
  | [a0, a1, a2], _ => (show _ = _); kernel_rfl
/-- The seven bytes of the least code. -/
theorem wpList_by7 (hw : Region.wanted o (yielded ops a.tmps) = true) (ho : o.op = .buildSlice 42 7 #[(0, .const (.int .u8 0)), (1, .const (.int .u8 0)), (2, .const (.int .u8 1)), (3, .const (.int .u8 0)), (4, .const (.int .u8 0)), (5, .const (.int .u8 0)), (6, .const (.int .u8 0))])
    (h : ∀ w', At 5 w' w.heap.size (by0.map B8) → Below w.heap.size w w' → wpList Try.prog ops Q rest (a.put o.dst (.slice (some ⟨w.heap.size, 0, none⟩) 7 7)) w') : wpList Try.prog ops Q (o :: rest) a w := by
  obtain ⟨ie, hi, hz0, hz1, hz2⟩ := info_parts Try.info5
  refine BigFrame.wpList_want hw fun K hK => wp_buildSlice 42 5 7 _ ho (by0.map B8).toArray ie _ Try.underlying42 hi hz0 (by rw [hz1]; decide) (by rw [hz1]; decide) ?_ (hK _ _ (h _ (_root_.Go.heap_alloc_new w _) ((Below.refl _ w).alloc (Nat.le_refl _) _)))
  rw [hz1]
  simp only [List.map_toArray, List.map_cons, List.map_nil, BigFrame.eval_const]
  kernel_rfl
end

/-- A row of one. -/
theorem row1 {α : Type} {cl : α → List Value} {n : Nat} {P : α → Prop} {t : TypeId} {B g : Nat} {w : World} (x : α) (hA : At t w g (cl x)) (hP : P x) (hB : g < B) : RowG cl n P B w (some ⟨g, 0, none⟩) 1 [x] := by
  refine ⟨by simp, by simp, .inr ⟨g, 0, rfl, hB, fun i k hk => ?_⟩⟩
  cases i with
  | zero =>
    simp at hk
    subst hk
    refine ⟨fun j v hj => ?_, hP⟩
    rw [hA.cell]
    simpa using hj
  | succ i => simp at hk
theorem row0 {α : Type} {cl : α → List Value} {n : Nat} {P : α → Prop} {B : Nat} {w : World} (a : Option Addr) (c : Nat) : RowG cl n P B w a c [] := ⟨Nat.zero_le _, Nat.zero_le _, .inl rfl⟩
theorem row_at {w : World} {g : Nat} {bs : List UInt8} (hA : At 5 w g (bs.map B8)) : Row w (some ⟨g, 0, none⟩) bs := by
  refine .inr ⟨g, 0, rfl, fun j hj => ?_⟩
  rw [hA.cell, Nat.zero_add, List.getElem?_map, List.getElem?_eq_getElem hj]
  simp [B8, List.getD, List.getElem?_eq_getElem hj]
theorem i64_0 : I64 0 := ⟨by decide, by decide⟩
/-- A code of one body without anything. -/
theorem in_body (w : World) (g : Nat) (s : Int) (hs : I64 s) (hA : At 45 w g [.slice none 0 0, .int .i64 s, .slice none 0 0]) (B : Nat) (hB : g < B) : CT.In B w ⟨none, 0, [], 0, some ⟨g, 0, none⟩, 1, [⟨none, 0, [], s, none, 0, []⟩]⟩ :=
  ⟨row0 _ _, i64_0, row1 (⟨none, 0, [], s, none, 0, []⟩ : BT) hA ⟨row0 _ _, hs, row0 _ _⟩ hB⟩

set_option maxRecDepth 100000 in
set_option maxHeartbeats 3200000 in
theorem awake_any (w : World) : Calls Try.prog 12 #[] w fun e w' => e = .returned (.bool true) ∧ Below w.heap.size w w' := by
  have Q1 : Hid (∀ u g, At 45 u g [.slice none 0 0, .int .i64 0, .slice none 0 0] → Calls Try.prog 16 #[.agg #[.slice none 0 0, .int .i64 0, .slice (some ⟨g, 0, none⟩) 1 1]] u fun e w' => (∃ v, e = .returned (.tuple #[v, .int .i64 0]) ∧ Own u.heap.size w' v by0) ∧ Below u.heap.size u w') := fun u g hA => by
    have h := bytesC_any u.heap.size ⟨none, 0, [], 0, some ⟨g, 0, none⟩, 1, [⟨none, 0, [], 0, none, 0, []⟩]⟩ u (in_body u g 0 i64_0 hA _ hA.lt) (Nat.le_refl _)
    refine h.mono ?_
    rintro e w' ⟨h1 | ⟨_, v, he, ho⟩, hb⟩
    · exact absurd chk0 h1.1
    · exact ⟨⟨v, he, by rw [← enc0]; exact ho⟩, hb⟩
  have Q2 : Hid (∀ u, Calls Try.prog 14 #[.agg #[.slice none 0 0, .int .i64 0, .slice none 0 0]] u fun e w' => e = .returned (.int .i64 3) ∧ Below u.heap.size u w') := fun u => by
    have h := check_any u.heap.size ⟨none, 0, [], 0, none, 0, []⟩ u ⟨row0 _ _, i64_0, row0 _ _⟩ (Nat.le_refl _)
    refine h.mono ?_
    rintro e w' ⟨he, hb⟩
    exact ⟨by rw [he]; exact congrArg (fun k : Nat => Ending.returned (.int .i64 (k : Int))) chkE, hb⟩
  go_enter Try.func12, Try.ntmps12
  go_wp2_with (first
    | ((with_reducible show wpList _ _ _ _ _ _); refine wpList_build_at (P := Try.prog) rfl 45 _ rfl [.slice none 0 0, .int .i64 0, .slice none 0 0] (by kernel_rfl) ?_)
    | ((with_reducible show wpList _ _ _ _ _ _); refine wpList_one45 (by kernel_rfl) (.tmp 4) rfl [.slice none 0 0, .int .i64 0, .slice none 0 0] rfl rfl ?_; intro w1 hA1 hb1)
    | ((with_reducible show wpList _ _ _ _ _ _); refine wpList_build_at (P := Try.prog) rfl 25 _ rfl [.slice none 0 0, .int .i64 0, .slice (some ⟨w.heap.size, 0, none⟩) 1 1] (by kernel_rfl) ?_)
    | (go_at_call 16; refine (Q1.out _ _ hA1).mono ?_; rintro _ w2 ⟨⟨v, rfl, hO⟩, hb2⟩; refine Hid.out ?_))
  refine hidU ?_
  have hB2 : Below w.heap.size w w2 := hb1.trans (hb2.mono hb1.size)
  obtain ⟨ao, co, rfl, hco, _, hrow⟩ := hO.row
  have HRow : Hid (Row w2 ao by0) := hrow
  have hl : by0.length = 7 := rfl
  rw [hl]
  have Q3 : Hid (∀ u g, Below w2.heap.size w2 u → At 5 u g (by0.map B8) → Calls Try.prog 18 #[.slice ao 7 co, .slice (some ⟨g, 0, none⟩) 7 7] u fun e w' => e = .returned (.bool true) ∧ w' = u) := fun u g hb hA => by
    have := same_any ao (some ⟨g, 0, none⟩) co 7 by0 by0 u (Row.below HRow.out hb) (row_at hA)
    rw [show (by0 == by0) = true by rfl] at this
    exact this
  clear hb1 hb2 hA1 Q1 hO hrow hco hl
  go_wp2_with (first
    | ((with_reducible show wpList _ _ _ _ _ _); refine wpList_by7 (by kernel_rfl) rfl ?_; intro w3 hA3 hb3)
    | ((with_reducible show wpList _ _ _ _ _ _); refine wpList_buildG (by kernel_rfl) 25 _ rfl [.slice none 0 0, .int .i64 0, .slice none 0 0] (by kernel_rfl) ?_)
    | (go_at_call 18; refine (Q3.out _ _ hb3 hA3).mono ?_; rintro _ w4 ⟨rfl, rfl⟩)
    | (go_at_call 14; refine (Q2.out _).mono ?_; rintro _ w5 ⟨rfl, hb5⟩))
  go_ret
  have hB3 := hB2.trans (hb3.mono hB2.size)
  exact ⟨rfl, hB3.trans (hb5.mono hB3.size)⟩

end Go.Proofs.Ytefklmckkigllaa
