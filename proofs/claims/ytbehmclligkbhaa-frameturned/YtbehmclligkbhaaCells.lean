/- Blocks of arrays and structs as lists of cells, and steps of a walk over whole ones: the world behind a step is a letter, with what is known of it. -/
import Derived.Test.YtbehmclligkbhaaKit
import Derived.BigQuiet
import Derived.Deep.QuietTactic
import Derived.Deep.WholeRow
import Derived.Deep.RegionHeld3
import Derived.Deep.MidRow
namespace Go.Proofs.Ytbehmclligkbhaa
open Go.RowKit
set_option linter.unusedVariables false

/-- A block of any type, its cells known. -/
def At (t : TypeId) (w : World) (g : Nat) (cs : List Value) : Prop := w.heap[g]? = some (.cells cs.toArray t (0, 0))

section
variable {t : TypeId} {w : World} {g : Nat} {cs : List Value}
theorem At.cell (h : At t w g cs) (i : Nat) : w.cell? ⟨g, i, none⟩ = cs[i]? := by
  simp [World.cell?, show w.heap[g]? = _ from h]
theorem At.frozen (h : At t w g cs) (i : Nat) : w.frozen? ⟨g, i, none⟩ = false := by
  simp [World.frozen?, show w.heap[g]? = _ from h]
theorem At.lt (h : At t w g cs) : g < w.heap.size := by
  rcases Nat.lt_or_ge g w.heap.size with hlt | hge
  · exact hlt
  · unfold At at h; rw [Array.getElem?_eq_none hge] at h; simp at h
theorem At.set (h : At t w g cs) (i : Nat) (v : Value) : At t (w.setCell ⟨g, i, none⟩ v) g (cs.set i v) := by
  have := heap_setCell_same w g i cs.toArray t v h
  unfold At
  rw [this]
  simp
theorem At.setOther (h : At t w g cs) (a : Addr) (v : Value) (hn : g ≠ a.block) : At t (w.setCell a v) g cs := by
  unfold At
  rw [heap_setCell_other w a g v hn]
  exact h
theorem At.below {w' : World} (h : At t w g cs) (hb : Below w.heap.size w w') : At t w' g cs := by
  unfold At
  rw [hb.block g h.lt]
  exact h
theorem At.drewN (h : At t w g cs) (n : Nat) : At t (w.drewN n) g cs := h
theorem At.drew (h : At t w g cs) : At t w.drew g cs := h
end

/-- All blocks but one are as they were. -/
structure But (g : Nat) (w w' : World) : Prop where
  os : w'.os = w.os
  tape : w'.tape = w.tape
  output : w'.output = w.output
  size : w.heap.size ≤ w'.heap.size
  block : ∀ k, k < w.heap.size → k ≠ g → w'.heap[k]? = w.heap[k]?

theorem But.refl (g : Nat) (w : World) : But g w w := ⟨rfl, rfl, rfl, Nat.le_refl _, fun _ _ _ => rfl⟩
theorem But.trans {g : Nat} {a b c : World} (h : But g a b) (k : But g b c) : But g a c :=
  ⟨k.os.trans h.os, k.tape.trans h.tape, k.output.trans h.output, Nat.le_trans h.size k.size, fun i hi hn => (k.block i (Nat.lt_of_lt_of_le hi h.size) hn).trans (h.block i hi hn)⟩
theorem But.of_below {g : Nat} {w w' : World} (h : Below w.heap.size w w') : But g w w' := ⟨h.os, h.tape, h.output, h.size, fun k hk _ => h.block k hk⟩
theorem But.below {g B : Nat} {w0 w w' : World} (h : But g w w') (hb : Below B w0 w) (hB : B ≤ g) (hs : B ≤ w.heap.size) : Below B w0 w' :=
  ⟨h.os.trans hb.os, h.tape.trans hb.tape, h.output.trans hb.output, Nat.le_trans hb.size h.size, fun k hk => (h.block k (by omega) (by omega)).trans (hb.block k hk)⟩
theorem But.at {t : TypeId} {g k : Nat} {w w' : World} {cs : List Value} (h : But g w w') (ha : At t w k cs) (hn : k ≠ g) : At t w' k cs := by
  unfold At
  rw [h.block k ha.lt hn]
  exact ha
theorem But.drewN {g : Nat} {a w : World} (h : But g a w) (n : Nat) : But g a (w.drewN n) := ⟨h.os, h.tape, h.output, h.size, h.block⟩
theorem But.setCell {g : Nat} {a w : World} (h : But g a w) (i : Nat) (v : Value) : But g a (w.setCell ⟨g, i, none⟩ v) :=
  ⟨h.os, h.tape, h.output, by simpa using h.size, fun k hk hn => by rw [heap_setCell_other w ⟨g, i, none⟩ k v hn]; exact h.block k hk hn⟩
theorem But.row {g : Nat} {w w' : World} (h : But g w w') {a : Option Addr} {bs : List UInt8} (hr : Row w a bs) (hn : ∀ b off, a = some ⟨b, off, none⟩ → b ≠ g) : Row w' a bs := by
  rcases hr with hr | ⟨b, off, rfl, hc⟩
  · exact .inl hr
  · exact .inr ⟨b, off, rfl, fun j hj => by rw [World.cell?_of_block (w := w) (h.block b (lt_of_cell (hc j hj)) (hn b off rfl))]; exact hc j hj⟩
section
variable {P : Program} {ops : Array Oper} {rest : List Oper} {o : Oper} {a : Act} {w : World} {Q : Exit → Act → World → Prop}

/-- A whole array or struct is laid into a new block. -/
theorem wpList_box_at (hgd : o.guard = none) (t : TypeId) (x : Operand) (ho : o.op = .box t x) (cs : List Value) (hx : a.eval x = .agg cs.toArray)
    (h : ∀ w', At t w' w.heap.size cs → Below w.heap.size w w' → w'.heap.size = w.heap.size + 1 → wpList P ops Q rest (a.put o.dst (.pointer (some ⟨w.heap.size, 0, none⟩))) w') :
    wpList P ops Q (o :: rest) a w := by
  refine wpList_plain hgd fun K hK => ?_
  have := hK _ _ (h (w.alloc (.cells cs.toArray t)) (_root_.Go.heap_alloc_new w _) ((Below.refl _ w).alloc (Nat.le_refl _) _) (by show (w.heap.push _).size = _; simp))
  unfold Oper.wp execOp
  simp only [ho, hx, Instr.box, Sem.run_bind]
  simpa [newVar, go_sem, Value.cells] using this

/-- A new block with the zero value of its type. -/
theorem wpList_alloc_at (hgd : o.guard = none) (t : TypeId) (ho : o.op = .alloc t) (cs : List Value) (n : Nat) (hz : (P.info? t).map (fun i => (i.zero, i.size)) = some (some (.agg cs.toArray), n))
    (h : ∀ w', At t w' w.heap.size cs → Below w.heap.size w w' → w'.heap.size = w.heap.size + 1 → wpList P ops Q rest (a.put o.dst (.pointer (some ⟨w.heap.size, 0, none⟩))) w') :
    wpList P ops Q (o :: rest) a w := by
  refine wpList_plain hgd fun K hK => ?_
  have := hK _ _ (h (w.alloc (.cells cs.toArray t)) (_root_.Go.heap_alloc_new w _) ((Below.refl _ w).alloc (Nat.le_refl _) _) (by show (w.heap.push _).size = _; simp))
  have h0 := (zero_of_info hz).1
  unfold Oper.wp execOp
  simp only [ho, Instr.alloc, Sem.run_bind, h0]
  simpa [newVar, go_sem, Value.cells] using this

/-- A whole array or struct is stored into a block that holds one. -/
theorem wpList_store_at (hgd : o.guard = none) (ty : TypeId) (x y : Operand) (ho : o.op = .store ty x y)
    (g : Nat) (cs : List Value) (hx : a.eval x = .pointer (some ⟨g, 0, none⟩)) (hy : a.eval y = .agg cs.toArray)
    (t : TypeId) (old : List Value) (hg : At t w g old) (hi : (P.info? ty).map (·.size) = some cs.length) (hold : old.length = cs.length) (h1 : ∀ v ∈ cs, v.oneCell' = true)
    (h : ∀ w', At t w' g cs → But g w w' → w'.heap.size = w.heap.size → wpList P ops Q rest (a.put o.dst undef) w') : wpList P ops Q (o :: rest) a w := by
  refine wpList_store_row hgd ty x y ho g cs.toArray hx hy t old.toArray hg (by simpa using hi) (by simpa using hold) (by simpa using h1) ?_
  refine h _ (setRow_heap w g _ _ t _ hg) ⟨rfl, rfl, rfl, by simp, fun k _ hn => setRow_other w g k _ hn⟩ (by simp)

/-- A whole array or struct is made. -/
theorem wpList_build_at (hgd : o.guard = none) (t : TypeId) (parts : Array (Nat × Operand)) (ho : o.op = .build t parts) (cs : List Value)
    (hb : P.built t (parts.map fun (i, x) => (i, a.eval x)).toList = some cs.toArray)
    (h : wpList P ops Q rest (a.put o.dst (.agg cs.toArray)) w) : wpList P ops Q (o :: rest) a w :=
  wpList_build hgd t parts ho (by rw [hb]; rfl) (by rw [hb]; exact h)

/-- A whole array or struct is read. -/
theorem wpList_load_at (hgd : o.guard = none) (ty : TypeId) (x : Operand) (ho : o.op = .load ty x)
    (g : Nat) (hx : a.eval x = .pointer (some ⟨g, 0, none⟩)) (t : TypeId) (cs : List Value) (hg : At t w g cs) (d : TypeDesc)
    (hu : P.underlying ty = some d) (hd : (match d with | .struct _ | .array _ _ => true | _ => false) = true) (hi : (P.info? ty).map (·.size) = some cs.length)
    (h : wpList P ops Q rest (a.put o.dst (.agg cs.toArray)) w) : wpList P ops Q (o :: rest) a w :=
  wpList_load_row hgd ty x ho g hx t cs.toArray (0, 0) d hg hu hd (by simpa using hi) h
end

theorem At.range {t : TypeId} {w : World} {g : Nat} {cs : List Value} (h : At t w g cs) (o n : Nat) : w.rangeAt g o ((cs.drop o).take n) := by
  intro j v hj
  rw [h.cell]
  rw [List.getElem?_take] at hj
  split at hj
  · rw [List.getElem?_drop] at hj; exact hj
  · simp at hj

theorem At.there {t : TypeId} {w : World} {g : Nat} {cs : List Value} (h : At t w g cs) (o n : Nat) (hn : o + n ≤ cs.length) : w.there g o n := by
  intro j hj
  rw [h.cell, h.frozen]
  simp
  omega

/-- A struct of two cells is stored into the middle of a block. -/
theorem wpList_store_two {P : Program} {ops : Array Oper} {rest : List Oper} {o : Oper} {a : Act} {w : World} {Q : Exit → Act → World → Prop} (hgd : o.guard = none) (ty : TypeId) (x y : Operand) (ho : o.op = .store ty x y)
    (g off : Nat) (v0 v1 : Value) (hx : a.eval x = .pointer (some ⟨g, off, none⟩)) (hy : a.eval y = .agg [v0, v1].toArray)
    (t : TypeId) (old : List Value) (hg : At t w g old) (hold : off + 2 ≤ old.length) (hi : (P.info? ty).map (·.size) = some 2) (h1 : ∀ v ∈ [v0, v1], v.oneCell' = true)
    (h : ∀ w', At t w' g ((old.set off v0).set (off + 1) v1) → But g w w' → w'.heap.size = w.heap.size → wpList P ops Q rest (a.put o.dst undef) w') : wpList P ops Q (o :: rest) a w := by
  refine wpList_store_mid hgd ty x y ho g off [v0, v1].toArray hx hy (hg.there off 2 hold) (by simpa using hi) (all_oneCell_toArray h1) ?_
  refine h _ ((hg.set off v0).set (off + 1) v1) (((But.refl g w).setCell off v0).setCell (off + 1) v1) ?_
  show ((w.setCell ⟨g, off, none⟩ v0).setCell ⟨g, off + 1, none⟩ v1).heap.size = _
  simp

theorem results_at {P : Program} {fn : Func} {p : Tmp} {ty : TypeId} (h : fn.results = #[.cell p ty]) (tmps : Array Value) (w : World) (g : Nat) (t : TypeId) (cs : List Value) (d : TypeDesc)
    (hp : tmps.getD p undef = .pointer (some ⟨g, 0, none⟩)) (hg : At t w g cs)
    (hu : P.underlying ty = some d) (hd : (match d with | .struct _ | .array _ _ => true | _ => false) = true) (hi : (P.info? ty).map (·.size) = some cs.length) :
    (results fn tmps).run P w = .ok (.agg cs.toArray) w :=
  results_cell_row h tmps w g t cs.toArray (0, 0) d hp hg hu hd (by simpa using hi)
end Go.Proofs.Ytbehmclligkbhaa
