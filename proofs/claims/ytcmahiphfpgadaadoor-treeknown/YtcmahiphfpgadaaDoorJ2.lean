/- Joined texts of the proof. -/
import Derived.Test.YtcmahiphfpgadaaDoorJ1
import Derived.BigQuiet
import Derived.Deep.QuietTactic
import Derived.Deep.WholeRow
import Derived.Deep.RegionHeld3
import Derived.Deep.MidRow
import Derived.Laws.FloatArith

/- Blocks of arrays and structs as lists of cells, and steps of a walk over whole ones: the world behind a step is a letter, with what is known of it. -/
namespace Go.Proofs.YtcmahiphfpgadaaDoor
open Go.RowKit
set_option linter.unusedVariables false

/-- A block of any type, its cells known. -/
def At (t : TypeId) (w : World) (g : Nat) (cs : List Value) : Prop := w.heap[g]? = some (.cells cs.toArray t (0, 0))

section
variable {t : TypeId} {w : World} {g : Nat} {cs : List Value}
theorem At.cell (h : At t w g cs) (i : Nat) : w.cell? ⟨g, i, none⟩ = cs[i]? := by
  simp [World.cell?, show w.heap[g]? = _ from h]
theorem At.frozen (h : At t w g cs) (i : Nat) : w.frozen? ⟨g, i, none⟩ = false := by
  simp [World.frozen?, show w.heap[g]? = _ from h]
theorem At.lt (h : At t w g cs) : g < w.heap.size := by
  rcases Nat.lt_or_ge g w.heap.size with hlt | hge
  · exact hlt
  · unfold At at h; rw [Array.getElem?_eq_none hge] at h; simp at h
theorem At.set (h : At t w g cs) (i : Nat) (v : Value) : At t (w.setCell ⟨g, i, none⟩ v) g (cs.set i v) := by
  have := heap_setCell_same w g i cs.toArray t v h
  unfold At
  rw [this]
  simp
theorem At.setOther (h : At t w g cs) (a : Addr) (v : Value) (hn : g ≠ a.block) : At t (w.setCell a v) g cs := by
  unfold At
  rw [heap_setCell_other w a g v hn]
  exact h
theorem At.below {w' : World} (h : At t w g cs) (hb : Below w.heap.size w w') : At t w' g cs := by
  unfold At
  rw [hb.block g h.lt]
  exact h
theorem At.drewN (h : At t w g cs) (n : Nat) : At t (w.drewN n) g cs := h
theorem At.drew (h : At t w g cs) : At t w.drew g cs := h
end

/-- All blocks but one are as they were. -/
structure But (g : Nat) (w w' : World) : Prop where
  os : w'.os = w.os
  tape : w'.tape = w.tape
  output : w'.output = w.output
  size : w.heap.size ≤ w'.heap.size
  block : ∀ k, k < w.heap.size → k ≠ g → w'.heap[k]? = w.heap[k]?

theorem But.refl (g : Nat) (w : World) : But g w w := ⟨rfl, rfl, rfl, Nat.le_refl _, fun _ _ _ => rfl⟩
theorem But.trans {g : Nat} {a b c : World} (h : But g a b) (k : But g b c) : But g a c :=
  ⟨k.os.trans h.os, k.tape.trans h.tape, k.output.trans h.output, Nat.le_trans h.size k.size, fun i hi hn => (k.block i (Nat.lt_of_lt_of_le hi h.size) hn).trans (h.block i hi hn)⟩
theorem But.of_below {g : Nat} {w w' : World} (h : Below w.heap.size w w') : But g w w' := ⟨h.os, h.tape, h.output, h.size, fun k hk _ => h.block k hk⟩
theorem But.below {g B : Nat} {w0 w w' : World} (h : But g w w') (hb : Below B w0 w) (hB : B ≤ g) (hs : B ≤ w.heap.size) : Below B w0 w' :=
  ⟨h.os.trans hb.os, h.tape.trans hb.tape, h.output.trans hb.output, Nat.le_trans hb.size h.size, fun k hk => (h.block k (by omega) (by omega)).trans (hb.block k hk)⟩
theorem But.at {t : TypeId} {g k : Nat} {w w' : World} {cs : List Value} (h : But g w w') (ha : At t w k cs) (hn : k ≠ g) : At t w' k cs := by
  unfold At
  rw [h.block k ha.lt hn]
  exact ha
theorem But.drewN {g : Nat} {a w : World} (h : But g a w) (n : Nat) : But g a (w.drewN n) := ⟨h.os, h.tape, h.output, h.size, h.block⟩
theorem But.setCell {g : Nat} {a w : World} (h : But g a w) (i : Nat) (v : Value) : But g a (w.setCell ⟨g, i, none⟩ v) :=
  ⟨h.os, h.tape, h.output, by simpa using h.size, fun k hk hn => by rw [heap_setCell_other w ⟨g, i, none⟩ k v hn]; exact h.block k hk hn⟩
theorem But.row {g : Nat} {w w' : World} (h : But g w w') {a : Option Addr} {bs : List UInt8} (hr : Row w a bs) (hn : ∀ b off, a = some ⟨b, off, none⟩ → b ≠ g) : Row w' a bs := by
  rcases hr with hr | ⟨b, off, rfl, hc⟩
  · exact .inl hr
  · exact .inr ⟨b, off, rfl, fun j hj => by rw [World.cell?_of_block (w := w) (h.block b (lt_of_cell (hc j hj)) (hn b off rfl))]; exact hc j hj⟩
section
variable {P : Program} {ops : Array Oper} {rest : List Oper} {o : Oper} {a : Act} {w : World} {Q : Exit → Act → World → Prop}

/-- A whole array or struct is laid into a new block. -/
theorem wpList_box_at (hgd : o.guard = none) (t : TypeId) (x : Operand) (ho : o.op = .box t x) (cs : List Value) (hx : a.eval x = .agg cs.toArray)
    (h : ∀ w', At t w' w.heap.size cs → Below w.heap.size w w' → w'.heap.size = w.heap.size + 1 → wpList P ops Q rest (a.put o.dst (.pointer (some ⟨w.heap.size, 0, none⟩))) w') :
    wpList P ops Q (o :: rest) a w := by
  refine wpList_plain hgd fun K hK => ?_
  have := hK _ _ (h (w.alloc (.cells cs.toArray t)) (_root_.Go.heap_alloc_new w _) ((Below.refl _ w).alloc (Nat.le_refl _) _) (by show (w.heap.push _).size = _; simp))
  unfold Oper.wp execOp
  simp only [ho, hx, Instr.box, Sem.run_bind]
  simpa [newVar, go_sem, Value.cells] using this

/-- A new block with the zero value of its type. -/
theorem wpList_alloc_at (hgd : o.guard = none) (t : TypeId) (ho : o.op = .alloc t) (cs : List Value) (n : Nat) (hz : (P.info? t).map (fun i => (i.zero, i.size)) = some (some (.agg cs.toArray), n))
    (h : ∀ w', At t w' w.heap.size cs → Below w.heap.size w w' → w'.heap.size = w.heap.size + 1 → wpList P ops Q rest (a.put o.dst (.pointer (some ⟨w.heap.size, 0, none⟩))) w') :
    wpList P ops Q (o :: rest) a w := by
  refine wpList_plain hgd fun K hK => ?_
  have := hK _ _ (h (w.alloc (.cells cs.toArray t)) (_root_.Go.heap_alloc_new w _) ((Below.refl _ w).alloc (Nat.le_refl _) _) (by show (w.heap.push _).size = _; simp))
  have h0 := (zero_of_info hz).1
  unfold Oper.wp execOp
  simp only [ho, Instr.alloc, Sem.run_bind, h0]
  simpa [newVar, go_sem, Value.cells] using this

/-- A whole array or struct is stored into a block that holds one. -/
theorem wpList_store_at (hgd : o.guard = none) (ty : TypeId) (x y : Operand) (ho : o.op = .store ty x y)
    (g : Nat) (cs : List Value) (hx : a.eval x = .pointer (some ⟨g, 0, none⟩)) (hy : a.eval y = .agg cs.toArray)
    (t : TypeId) (old : List Value) (hg : At t w g old) (hi : (P.info? ty).map (·.size) = some cs.length) (hold : old.length = cs.length) (h1 : ∀ v ∈ cs, v.oneCell' = true)
    (h : ∀ w', At t w' g cs → But g w w' → w'.heap.size = w.heap.size → wpList P ops Q rest (a.put o.dst undef) w') : wpList P ops Q (o :: rest) a w := by
  refine wpList_store_row hgd ty x y ho g cs.toArray hx hy t old.toArray hg (by simpa using hi) (by simpa using hold) (by simpa using h1) ?_
  refine h _ (setRow_heap w g _ _ t _ hg) ⟨rfl, rfl, rfl, by simp, fun k _ hn => setRow_other w g k _ hn⟩ (by simp)

/-- A whole array or struct is made. -/
theorem wpList_build_at (hgd : o.guard = none) (t : TypeId) (parts : Array (Nat × Operand)) (ho : o.op = .build t parts) (cs : List Value)
    (hb : P.built t (parts.map fun (i, x) => (i, a.eval x)).toList = some cs.toArray)
    (h : wpList P ops Q rest (a.put o.dst (.agg cs.toArray)) w) : wpList P ops Q (o :: rest) a w :=
  wpList_build hgd t parts ho (by rw [hb]; rfl) (by rw [hb]; exact h)

/-- A whole array or struct is read. -/
theorem wpList_load_at (hgd : o.guard = none) (ty : TypeId) (x : Operand) (ho : o.op = .load ty x)
    (g : Nat) (hx : a.eval x = .pointer (some ⟨g, 0, none⟩)) (t : TypeId) (cs : List Value) (hg : At t w g cs) (d : TypeDesc)
    (hu : P.underlying ty = some d) (hd : (match d with | .struct _ | .array _ _ => true | _ => false) = true) (hi : (P.info? ty).map (·.size) = some cs.length)
    (h : wpList P ops Q rest (a.put o.dst (.agg cs.toArray)) w) : wpList P ops Q (o :: rest) a w :=
  wpList_load_row hgd ty x ho g hx t cs.toArray (0, 0) d hg hu hd (by simpa using hi) h
end

theorem At.range {t : TypeId} {w : World} {g : Nat} {cs : List Value} (h : At t w g cs) (o n : Nat) : w.rangeAt g o ((cs.drop o).take n) := by
  intro j v hj
  rw [h.cell]
  rw [List.getElem?_take] at hj
  split at hj
  · rw [List.getElem?_drop] at hj; exact hj
  · simp at hj

theorem At.there {t : TypeId} {w : World} {g : Nat} {cs : List Value} (h : At t w g cs) (o n : Nat) (hn : o + n ≤ cs.length) : w.there g o n := by
  intro j hj
  rw [h.cell, h.frozen]
  simp
  omega

/-- A struct of two cells is stored into the middle of a block. -/
theorem wpList_store_two {P : Program} {ops : Array Oper} {rest : List Oper} {o : Oper} {a : Act} {w : World} {Q : Exit → Act → World → Prop} (hgd : o.guard = none) (ty : TypeId) (x y : Operand) (ho : o.op = .store ty x y)
    (g off : Nat) (v0 v1 : Value) (hx : a.eval x = .pointer (some ⟨g, off, none⟩)) (hy : a.eval y = .agg [v0, v1].toArray)
    (t : TypeId) (old : List Value) (hg : At t w g old) (hold : off + 2 ≤ old.length) (hi : (P.info? ty).map (·.size) = some 2) (h1 : ∀ v ∈ [v0, v1], v.oneCell' = true)
    (h : ∀ w', At t w' g ((old.set off v0).set (off + 1) v1) → But g w w' → w'.heap.size = w.heap.size → wpList P ops Q rest (a.put o.dst undef) w') : wpList P ops Q (o :: rest) a w := by
  refine wpList_store_mid hgd ty x y ho g off [v0, v1].toArray hx hy (hg.there off 2 hold) (by simpa using hi) (all_oneCell_toArray h1) ?_
  refine h _ ((hg.set off v0).set (off + 1) v1) (((But.refl g w).setCell off v0).setCell (off + 1) v1) ?_
  show ((w.setCell ⟨g, off, none⟩ v0).setCell ⟨g, off + 1, none⟩ v1).heap.size = _
  simp

theorem results_at {P : Program} {fn : Func} {p : Tmp} {ty : TypeId} (h : fn.results = #[.cell p ty]) (tmps : Array Value) (w : World) (g : Nat) (t : TypeId) (cs : List Value) (d : TypeDesc)
    (hp : tmps.getD p undef = .pointer (some ⟨g, 0, none⟩)) (hg : At t w g cs)
    (hu : P.underlying ty = some d) (hd : (match d with | .struct _ | .array _ _ => true | _ => false) = true) (hi : (P.info? ty).map (·.size) = some cs.length) :
    (results fn tmps).run P w = .ok (.agg cs.toArray) w :=
  results_cell_row h tmps w g t cs.toArray (0, 0) d hp hg hu hd (by simpa using hi)
end Go.Proofs.YtcmahiphfpgadaaDoor

/- Signs, operands, types' texts. -/
namespace Go.Proofs.YtcmahiphfpgadaaDoor
open Go.RowKit
set_option linter.unusedVariables false

theorem sgT_none (op : Nat) (h : ¬ (3 ≤ op ∧ op < 16)) : sgT op = [] := by
  unfold sgT
  split <;> first | rfl | (exfalso; omega)

set_option maxRecDepth 100000 in
set_option maxHeartbeats 1600000 in
theorem sign_lit (w : World) : ∀ op : Nat, op < 16 → 3 ≤ op → Calls Tryd.prog 24 #[.int .u8 (op : Int)] w fun e w' => e = .returned (.string ⟨(sgT op).toArray⟩) ∧ w' = w := by
  intro op h1 h2
  have : op = 3 ∨ op = 4 ∨ op = 5 ∨ op = 6 ∨ op = 7 ∨ op = 8 ∨ op = 9 ∨ op = 10 ∨ op = 11 ∨ op = 12 ∨ op = 13 ∨ op = 14 ∨ op = 15 := by omega
  rcases this with rfl | rfl | rfl | rfl | rfl | rfl | rfl | rfl | rfl | rfl | rfl | rfl | rfl <;>
    (go_enter Tryd.func24, Tryd.ntmps24
     go_wp2
     go_ret
     exact ⟨rfl, rfl⟩)

set_option maxRecDepth 100000 in
set_option maxHeartbeats 1600000 in
theorem sign_any (op : Nat) (w : World) : Calls Tryd.prog 24 #[.int .u8 (op : Int)] w fun e w' => e = .returned (.string ⟨(sgT op).toArray⟩) ∧ w' = w := by
  by_cases h : 3 ≤ op ∧ op < 16
  · exact sign_lit w op h.2 h.1
  · rw [sgT_none op h]
    have e3 : ((op : Int) == 3) = false := by rw [beq_eq_false_iff_ne]; omega
    have e4 : ((op : Int) == 4) = false := by rw [beq_eq_false_iff_ne]; omega
    have e5 : ((op : Int) == 5) = false := by rw [beq_eq_false_iff_ne]; omega
    have e6 : ((op : Int) == 6) = false := by rw [beq_eq_false_iff_ne]; omega
    have e7 : ((op : Int) == 7) = false := by rw [beq_eq_false_iff_ne]; omega
    have e8 : ((op : Int) == 8) = false := by rw [beq_eq_false_iff_ne]; omega
    have e9 : ((op : Int) == 9) = false := by rw [beq_eq_false_iff_ne]; omega
    have e10 : ((op : Int) == 10) = false := by rw [beq_eq_false_iff_ne]; omega
    have e11 : ((op : Int) == 11) = false := by rw [beq_eq_false_iff_ne]; omega
    have e12 : ((op : Int) == 12) = false := by rw [beq_eq_false_iff_ne]; omega
    have e13 : ((op : Int) == 13) = false := by rw [beq_eq_false_iff_ne]; omega
    have e14 : ((op : Int) == 14) = false := by rw [beq_eq_false_iff_ne]; omega
    have e15 : ((op : Int) == 15) = false := by rw [beq_eq_false_iff_ne]; omega
    clear h
    go_enter Tryd.func24, Tryd.ntmps24
    go_wp2
    go_ret
    exact ⟨rfl, rfl⟩

/-- How many operands an operator has. -/
def opnds (op : Nat) : Int := if op = 1 ∨ op = 2 then 0 else if 16 ≤ op ∧ op < 20 then 1 else if 3 ≤ op ∧ op < 16 then 2 else -1

set_option maxRecDepth 100000 in
set_option maxHeartbeats 1600000 in
theorem operands_any (op : Nat) (w : World) : Calls Tryd.prog 19 #[.int .u8 (op : Int)] w fun e w' => e = .returned (.int .i64 (opnds op)) ∧ w' = w := by
  have hs := sign_any op
  by_cases h0 : op = 1 ∨ op = 2
  · rcases h0 with rfl | rfl <;>
    (go_enter Tryd.func19, Tryd.ntmps19
     go_wp2_with fail
     go_ret
     exact ⟨rfl, rfl⟩)
  by_cases h1 : 16 ≤ op ∧ op < 20
  · have : op = 16 ∨ op = 17 ∨ op = 18 ∨ op = 19 := by omega
    rcases this with rfl | rfl | rfl | rfl <;>
    (go_enter Tryd.func19, Tryd.ntmps19
     go_wp2_with fail
     go_ret
     exact ⟨rfl, rfl⟩)
  have e1 : ((op : Int) == 1) = false := by rw [beq_eq_false_iff_ne]; omega
  have e2 : ((op : Int) == 2) = false := by rw [beq_eq_false_iff_ne]; omega
  have e16 : ((op : Int) == 16) = false := by rw [beq_eq_false_iff_ne]; omega
  have e17 : ((op : Int) == 17) = false := by rw [beq_eq_false_iff_ne]; omega
  have e18 : ((op : Int) == 18) = false := by rw [beq_eq_false_iff_ne]; omega
  have e19 : ((op : Int) == 19) = false := by rw [beq_eq_false_iff_ne]; omega
  by_cases h2 : 3 ≤ op ∧ op < 16
  · have he : opnds op = 2 := by unfold opnds; rw [if_neg h0, if_neg h1, if_pos h2]
    have hne : ((sgT op) == []) = false := by
      have : ∀ op, op < 16 → 3 ≤ op → ((sgT op) == []) = false := by decide
      exact this op h2.2 h2.1
    rw [he]
    obtain ⟨L, hL⟩ : ∃ L, L = sgT op := ⟨_, rfl⟩
    rw [← hL] at hs hne
    clear hL he h0 h1 h2
    go_enter Tryd.func19, Tryd.ntmps19
    go_wp2_with fail
    refine (hs _).mono ?_
    rintro e w' ⟨rfl, rfl⟩
    go_wp2
    go_ret
    exact ⟨rfl, rfl⟩
  · have he : opnds op = -1 := by unfold opnds; rw [if_neg h0, if_neg h1, if_neg h2]
    rw [he]
    rw [sgT_none op h2] at hs
    clear he h0 h1 h2
    go_enter Tryd.func19, Tryd.ntmps19
    go_wp2_with fail
    refine (hs _).mono ?_
    rintro e w' ⟨rfl, rfl⟩
    go_wp2
    go_ret
    exact ⟨rfl, rfl⟩

/-- A type's text. -/
def tyT (t : Nat) : List UInt8 := if t = 1 then [105, 110, 116] else if t = 2 then [98, 111, 111, 108] else [114, 101, 97, 108]

set_option maxRecDepth 100000 in
set_option maxHeartbeats 1600000 in
theorem typeText_any (t : Nat) (w : World) : Calls Tryd.prog 49 #[.int .u8 (t : Int)] w fun e w' => e = .returned (.string ⟨(tyT t).toArray⟩) ∧ w' = w := by
  by_cases h1 : t = 1
  · subst h1
    go_enter Tryd.func49, Tryd.ntmps49
    go_wp2
    go_ret
    exact ⟨rfl, rfl⟩
  by_cases h2 : t = 2
  · subst h2
    go_enter Tryd.func49, Tryd.ntmps49
    go_wp2
    go_ret
    exact ⟨rfl, rfl⟩
  have e1 : ((t : Int) == 1) = false := by rw [beq_eq_false_iff_ne]; omega
  have e2 : ((t : Int) == 2) = false := by rw [beq_eq_false_iff_ne]; omega
  have he : tyT t = [114, 101, 97, 108] := by unfold tyT; rw [if_neg h1, if_neg h2]
  rw [he]
  clear he h1 h2
  go_enter Tryd.func49, Tryd.ntmps49
  go_wp2
  go_ret
  exact ⟨rfl, rfl⟩

end Go.Proofs.YtcmahiphfpgadaaDoor

/- Reals by their bits: what a float64's word stands for, and what the four operations and the comparisons tell, as plain functions of words: no program is named here. -/
namespace Go.Proofs.YtcmahiphfpgadaaDoor
open Ieee
set_option linter.unusedVariables false

/-- float64. -/
abbrev D : Format := Ieee.double

/-- The one NaN's bits. -/
def NAN : Nat := 9221120237041090560

/-- A word that is a NaN. -/
def isNan (b : Nat) : Bool := decide (9218868437227405312 < b % 9223372036854775808)

/-- Bits brought home. -/
def home (b : Nat) : Nat := if isNan b then NAN else b

theorem D_sw : D.signWeight = 9223372036854775808 := rfl
theorem D_bin : D.binade = 4503599627370496 := rfl
theorem D_inf : D.infRung = 9218868437227405312 := rfl
theorem D_least : D.leastPlace = -1074 := rfl
theorem D_fb : D.fractionBits = 52 := rfl

theorem read_eq (b : Nat) : D.read b =
    if b % 9223372036854775808 < 4503599627370496 then .number (b / 9223372036854775808 % 2 == 1) (b % 9223372036854775808) (-1074)
    else if b % 9223372036854775808 < 9218868437227405312 then .number (b / 9223372036854775808 % 2 == 1) (4503599627370496 + b % 9223372036854775808 % 4503599627370496) (-1074 + (b % 9223372036854775808 / 4503599627370496 - 1 : Nat))
    else if b % 9223372036854775808 = 9218868437227405312 then .infinity (b / 9223372036854775808 % 2 == 1)
    else .nan (b / 9223372036854775808 % 2 == 1) (b % 9223372036854775808 - 9218868437227405312) := rfl

theorem read_nan {b : Nat} (h : isNan b = true) : ∃ s t, D.read b = .nan s t := by
  simp only [isNan, decide_eq_true_eq] at h
  rw [read_eq, if_neg (by omega), if_neg (by omega), if_neg (by omega)]
  exact ⟨_, _, rfl⟩

theorem read_real {b : Nat} (h : isNan b = false) : (∃ s m e, D.read b = .number s m e) ∨ (∃ s, D.read b = .infinity s) := by
  simp only [isNan, decide_eq_false_iff_not] at h
  rw [read_eq]
  split
  · exact .inl ⟨_, _, _, rfl⟩
  · split
    · exact .inl ⟨_, _, _, rfl⟩
    · rw [if_pos (by omega)]; exact .inr ⟨_, rfl⟩

theorem compare_self_int (x : Int) : compare x x = .eq := by simp [compare, compareOfLessAndEq]
theorem compare_self_nat (x : Nat) : compare x x = .eq := by simp [compare, compareOfLessAndEq]

theorem order_self (b : Nat) : D.order b b = if isNan b then none else some .eq := by
  cases h : isNan b
  · rcases read_real h with ⟨s, m, e, hr⟩ | ⟨s, hr⟩
    · simp [Format.order, hr, Datum.order]
    · simp [Format.order, hr, Datum.order]
  · obtain ⟨s, t, hr⟩ := read_nan h
    simp [Format.order, hr, Datum.order]

/-- 'x != x'. -/
theorem neq_self (b : Nat) : (D.order b b != some .eq) = isNan b := by
  rw [order_self]; cases isNan b <;> rfl
theorem eql_self (b : Nat) : (D.order b b == some .eq) = !isNan b := by
  rw [order_self]; cases isNan b <;> rfl

theorem isNan_NAN : isNan NAN = true := by decide
theorem home_nan {b : Nat} (h : isNan b = true) : home b = NAN := by simp [home, h]
theorem home_real {b : Nat} (h : isNan b = false) : home b = b := by simp [home, h]
theorem isNan_home (b : Nat) : isNan (home b) = isNan b := by
  cases h : isNan b
  · rw [home_real h, h]
  · rw [home_nan h, isNan_NAN]
theorem home_home (b : Nat) : home (home b) = home b := by
  cases h : isNan b
  · rw [home_real h, home_real h]
  · rw [home_nan h, home_nan isNan_NAN]
theorem home_lt {b : Nat} (h : b < 18446744073709551616) : home b < 18446744073709551616 := by
  unfold home; split
  · decide
  · exact h

/-- What is done with the words of two numbers, a NaN among them told as none, hangs on what they are brought home as. -/
theorem add_nan {a b : Nat} (h : isNan a = true ∨ isNan b = true) : D.add a b = none := by
  unfold Format.add
  rcases h with h | h
  · obtain ⟨s, t, hr⟩ := read_nan h
    rw [hr]; rfl
  · obtain ⟨s, t, hr⟩ := read_nan h
    rw [hr]
    cases ha : D.read a <;> rfl
theorem sub_nan {a b : Nat} (h : isNan a = true ∨ isNan b = true) : D.sub a b = none := by
  unfold Format.sub
  rcases h with h | h
  · obtain ⟨s, t, hr⟩ := read_nan h
    rw [hr]; rfl
  · obtain ⟨s, t, hr⟩ := read_nan h
    rw [hr]
    cases ha : D.read a <;> rfl
theorem mul_nan {a b : Nat} (h : isNan a = true ∨ isNan b = true) : D.mul a b = none := by
  unfold Format.mul
  rcases h with h | h
  · obtain ⟨s, t, hr⟩ := read_nan h
    rw [hr]; rfl
  · obtain ⟨s, t, hr⟩ := read_nan h
    rw [hr]
    cases ha : D.read a <;> rfl
theorem div_nan {a b : Nat} (h : isNan a = true ∨ isNan b = true) : D.div a b = none := by
  unfold Format.div
  rcases h with h | h
  · obtain ⟨s, t, hr⟩ := read_nan h
    rw [hr]; rfl
  · obtain ⟨s, t, hr⟩ := read_nan h
    rw [hr]
    cases ha : D.read a <;> rfl
theorem order_nan {a b : Nat} (h : isNan a = true ∨ isNan b = true) : D.order a b = none := by
  unfold Format.order
  rcases h with h | h
  · obtain ⟨s, t, hr⟩ := read_nan h
    rw [hr]; rfl
  · obtain ⟨s, t, hr⟩ := read_nan h
    rw [hr]
    cases ha : D.read a <;> rfl

theorem home_cases {α : Type} (f : Nat → Nat → Option α) (hn : ∀ a b, isNan a = true ∨ isNan b = true → f a b = none) (a b : Nat) : f (home a) (home b) = f a b := by
  cases ha : isNan a
  · cases hb : isNan b
    · rw [home_real ha, home_real hb]
    · rw [hn _ _ (.inr (by rw [isNan_home, hb])), hn _ _ (.inr hb)]
  · rw [hn _ _ (.inl (by rw [isNan_home, ha])), hn _ _ (.inl ha)]

theorem add_home (a b : Nat) : D.add (home a) (home b) = D.add a b := home_cases _ (fun _ _ => add_nan) a b
theorem sub_home (a b : Nat) : D.sub (home a) (home b) = D.sub a b := home_cases _ (fun _ _ => sub_nan) a b
theorem mul_home (a b : Nat) : D.mul (home a) (home b) = D.mul a b := home_cases _ (fun _ _ => mul_nan) a b
theorem div_home (a b : Nat) : D.div (home a) (home b) = D.div a b := home_cases _ (fun _ _ => div_nan) a b
theorem order_home (a b : Nat) : D.order (home a) (home b) = D.order a b := home_cases _ (fun _ _ => order_nan) a b

/-- What is told where an operation has an answer, and the one NaN where it has none. -/
def told (r : Option Nat) : Nat := match r with
  | some x => home x
  | none => NAN

/-- The four operations on bits. -/
def fadd (a b : Nat) : Nat := told (D.add a b)
def fsub (a b : Nat) : Nat := told (D.sub a b)
def fmul (a b : Nat) : Nat := told (D.mul a b)
def fdiv (a b : Nat) : Nat := told (D.div a b)

/-- The other sign. -/
def fneg (a : Nat) : Nat := if isNan a then NAN else if a < 9223372036854775808 then a + 9223372036854775808 else a - 9223372036854775808

/-- The nearest real of a whole number. -/
def ofInt (n : Int) : Nat := FloatKind.nearest .f64 n

theorem told_lt {r : Option Nat} (h : ∀ x, r = some x → x < 18446744073709551616) : told r < 18446744073709551616 := by
  unfold told
  split
  · rename_i x; exact home_lt (h x rfl)
  · decide

theorem ofInt_lt (n : Int) : ofInt n < 18446744073709551616 := D.write_lt (.number (decide (n < 0)) n.natAbs 0)

theorem isNan_told (r : Option Nat) : home (told r) = told r := by
  unfold told
  split
  · exact home_home _
  · decide

theorem word_eq (neg : Bool) (r : Nat) : D.word neg r = if neg then 9223372036854775808 + r else r := rfl

theorem isNan_nearest (neg : Bool) (mag : Nat) (place : Int) : isNan (D.nearest neg mag place) = false := by
  simp only [isNan, decide_eq_false_iff_not, Nat.not_lt]
  unfold Format.nearest
  dsimp only
  split
  · rw [word_eq]; cases neg <;> simp
  · rw [word_eq, D_inf]
    have := Nat.min_le_right ((max (place + ↑mag.log2 - ↑D.fractionBits) D.leastPlace - D.leastPlace).toNat * D.binade + Toward.even.cut neg (mag <<< (place - max (place + ↑mag.log2 - ↑D.fractionBits) D.leastPlace).toNat) (max (place + ↑mag.log2 - ↑D.fractionBits) D.leastPlace - place).toNat) 9218868437227405312
    generalize min _ 9218868437227405312 = k at this ⊢
    cases neg
    · simp; omega
    · simp; omega

theorem isNan_ofInt (n : Int) : isNan (ofInt n) = false := isNan_nearest _ _ _

theorem home_ofInt (n : Int) : home (ofInt n) = ofInt n := home_real (isNan_ofInt n)

/-- The whole part of a real, if it is one of 64 bits. -/
def wholeOf (b : Nat) : Option Int := floatToIntVal .f64 b .i64

end Go.Proofs.YtcmahiphfpgadaaDoor
