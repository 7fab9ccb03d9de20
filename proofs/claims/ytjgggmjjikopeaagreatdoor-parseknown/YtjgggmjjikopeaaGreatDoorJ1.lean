/- Joined texts of the proof. -/
import Derived.WalkKit
import Derived.WalkSpells
import Derived.Test.YtjgggmjjikopeaaGreatDoorRows
import Derived.BigQuiet
import Derived.Deep.QuietTactic
import Derived.Deep.WholeRow
import Derived.Deep.RegionHeld3
import Derived.Deep.MidRow
import Derived.Laws.FloatArith
import Derived.Laws.BytesArg
import Derived.Lib.Bytealg

/- Prepared for layer 5, no program is named: the text of an expression tells it apart from any other. -/
namespace Go.Proofs.YtjgggmjjikopeaaGreatDoor

/-- An expression, as data. -/
inductive Ex where
  | mk (op t b : Nat) (nm : List UInt8) (kids : List Ex)

/-- The signs of two operands. -/
def sgT : Nat → List UInt8
  | 3 => [124, 124]
  | 4 => [38, 38]
  | 5 => [61, 61]
  | 6 => [33, 61]
  | 7 => [60]
  | 8 => [60, 61]
  | 9 => [62]
  | 10 => [62, 61]
  | 11 => [43]
  | 12 => [45]
  | 13 => [42]
  | 14 => [47]
  | 15 => [37]
  | _ => []

section
variable (lit : Nat → Nat → Option (List UInt8)) (isName : List UInt8 → Bool)

variable {lit isName}

end
end Go.Proofs.YtjgggmjjikopeaaGreatDoor

/- The plain functions of bytes, numbers and digits that the contracts speak of, and small facts about them: no program is named here. -/
namespace Go.Proofs.YtjgggmjjikopeaaGreatDoor

/-- A byte as a cell holds it. -/
def B8 (b : UInt8) : Value := .int .u8 (b.toNat : Int)

/-- The byte of a number. -/
def ub (n : Nat) : UInt8 := UInt8.ofNat n

theorem ub_toNat (n : Nat) (h : n < 256) : (ub n).toNat = n := by simp [ub]; omega

end Go.Proofs.YtjgggmjjikopeaaGreatDoor

/- Small laws for walks over slices of bytes: an append of one byte to a row that the call itself made. -/
namespace Go.Proofs.YtjgggmjjikopeaaGreatDoor
open Go.RowKit

theorem Tryz.info5 : (Tryz.prog.info? 5).map (fun i => (i.zero, i.size, i.bytes)) = some (some (.int .u8 0), 1, 1) := by kernel_rfl

/-- The call's own row of bytes. -/
def Own (base : Nat) (w : World) (v : Value) (out : List UInt8) : Prop := w.ownsRow base 5 1 v out.length (out.map B8)

theorem Own.nil (base : Nat) (w : World) : Own base w (.slice none 0 0) [] := World.ownsRow_nil _ _ _ _

theorem Own.block {base : Nat} {w : World} {v : Value} {out : List UInt8} (h : Own base w v out) : ∀ k, v.ownBlock = some k → base ≤ k := by
  intro k hk
  obtain ⟨_, ⟨rfl, _⟩ | ⟨g, cap, cur, rfl, hg, _⟩⟩ := h
  · simp [Value.ownBlock] at hk
  · simp [Value.ownBlock] at hk
    omega

/-- 'out = append(out, b)'. -/
theorem app1 {ops : Array Oper} {rest : List Oper} {o : Oper} {a : Act} {Q : Exit → Act → World → Prop} {w0 : World} (s x : Operand) (z : Int) (b : UInt8) (base : Nat) (v : Value) (out : List UInt8)
    (hgd : o.guard = none) (ho : o.op = .call { callee := .builtin .append, args := #[s, x], argTypes := #[84, 84] })
    (hs : a.eval s = v) (hx : a.eval x = .slice (some ⟨w0.heap.size, 0, none⟩) 1 1) (hown : Own base w0 v out) (hz : z = (b.toNat : Int)) (hlen : out.length ≤ 1099511627776) (hbase : base ≤ w0.heap.size)
    (h : ∀ v' w', Own base w' v' (out ++ [b]) → Below base w0 w' → wpList Tryz.prog ops Q rest (a.put o.dst v') w') :
    wpList Tryz.prog ops Q (o :: rest) a (w0.alloc (.cells #[.int .u8 z] 5)) := by
  obtain ⟨i0, hi, hz0, hz1, hz2⟩ := info_parts Tryz.info5
  refine wpList_append_own (w := w0.alloc (.cells #[.int .u8 z] 5)) hgd s x 84 ho base 5 i0 (.int .u8 0) 1 1 Tryz.underlying84 hi hz0 hz1 hz2 rfl (by decide) v out.length (out.map B8) hs (World.ownsRow.alloc hown _)
    ⟨w0.heap.size, 0, none⟩ 1 1 [.int .u8 z] hx rfl ?c1 ?c2 ?c3 ?c4 ?c5 ?_
  case c1 =>
    intro j u hj
    match j, hj with
    | 0, hj => simp at hj; subst hj; simp [Addr.add]
  case c2 => intro u hu; simp at hu; subst hu; rfl
  case c3 => unfold maxLen; omega
  case c4 => omega
  case c5 => simp; omega
  intro v' w' h1 h2 _
  refine h v' w' ?_ ?_
  · subst hz
    simpa [Own, B8] using h1
  · exact ((Below.refl base w0).alloc hbase _).grown h2 (by simp; omega) hown.block

/-- The same, the byte told by its number. -/
theorem app1n {ops : Array Oper} {rest : List Oper} {o : Oper} {a : Act} {Q : Exit → Act → World → Prop} {w0 : World} (s x : Operand) (z : Int) (k : Nat) (base : Nat) (v : Value) (out : List UInt8)
    (hgd : o.guard = none) (ho : o.op = .call { callee := .builtin .append, args := #[s, x], argTypes := #[84, 84] })
    (hs : a.eval s = v) (hx : a.eval x = .slice (some ⟨w0.heap.size, 0, none⟩) 1 1) (hown : Own base w0 v out) (hk : k < 256) (hz : z = (k : Int)) (hlen : out.length ≤ 1099511627776) (hbase : base ≤ w0.heap.size)
    (h : ∀ v' w', Own base w' v' (out ++ [ub k]) → Below base w0 w' → wpList Tryz.prog ops Q rest (a.put o.dst v') w') :
    wpList Tryz.prog ops Q (o :: rest) a (w0.alloc (.cells #[.int .u8 z] 5)) :=
  app1 s x z (ub k) base v out hgd ho hs hx hown (by rw [ub_toNat k hk]; exact hz) hlen hbase h

/-- What a slice of bytes that is read is known by: it has no bytes; or it leads to plain cells that hold them. -/
def Row (w : World) (a : Option Addr) (bs : List UInt8) : Prop :=
  bs = [] ∨ ∃ b off, a = some ⟨b, off, none⟩ ∧ ∀ j, j < bs.length → w.cell? ⟨b, off + j, none⟩ = some (.int .u8 ((bs.getD j 0).toNat : Int))

theorem lt_of_cell {w : World} {p : Addr} {v : Value} (h : w.cell? p = some v) : p.block < w.heap.size := by
  unfold World.cell? at h
  by_cases hp : p.block < w.heap.size
  · exact hp
  · rw [Array.getElem?_eq_none (by omega)] at h; simp at h

theorem Row.below {w w' : World} {a : Option Addr} {bs : List UInt8} (h : Row w a bs) (hb : Below w.heap.size w w') : Row w' a bs := by
  rcases h with h | ⟨b, off, rfl, hc⟩
  · exact .inl h
  · exact .inr ⟨b, off, rfl, fun j hj => by rw [hb.cell (lt_of_cell (hc j hj))]; exact hc j hj⟩

theorem Own.row {base : Nat} {w : World} {v : Value} {out : List UInt8} (h : Own base w v out) : ∃ a cap, v = .slice a out.length cap ∧ out.length ≤ cap ∧ cap ≤ maxLen ∧ Row w a out := by
  obtain ⟨h1, ⟨rfl, h0⟩ | ⟨g, cap, cur, rfl, hg, hh, hc, hm, hs, ht⟩⟩ := h
  · have : out = [] := List.length_eq_zero_iff.1 h0
    subst this
    exact ⟨none, 0, rfl, Nat.le_refl _, Nat.zero_le _, .inl rfl⟩
  · refine ⟨_, cap, rfl, hc, hm, .inr ⟨g, 0, rfl, fun j hj => ?_⟩⟩
    simp only [World.cell?, hh]
    have e1 : (cur.toList.take (out.length * 1))[j]? = some (B8 (out.getD j 0)) := by
      rw [ht]
      simp [List.getElem?_map, List.getElem?_eq_getElem hj, List.getD]
    rw [List.getElem?_take_of_lt (by omega)] at e1
    simpa [B8] using e1

end Go.Proofs.YtjgggmjjikopeaaGreatDoor

/- Blocks of arrays and structs as lists of cells, and steps of a walk over whole ones: the world behind a step is a letter, with what is known of it. -/
namespace Go.Proofs.YtjgggmjjikopeaaGreatDoor
open Go.RowKit
set_option linter.unusedVariables false

/-- A block of any type, its cells known. -/
def At (t : TypeId) (w : World) (g : Nat) (cs : List Value) : Prop := w.heap[g]? = some (.cells cs.toArray t (0, 0))

section
variable {t : TypeId} {w : World} {g : Nat} {cs : List Value}
theorem At.cell (h : At t w g cs) (i : Nat) : w.cell? ⟨g, i, none⟩ = cs[i]? := by
  simp [World.cell?, show w.heap[g]? = _ from h]
theorem At.frozen (h : At t w g cs) (i : Nat) : w.frozen? ⟨g, i, none⟩ = false := by
  simp [World.frozen?, show w.heap[g]? = _ from h]
theorem At.lt (h : At t w g cs) : g < w.heap.size := by
  rcases Nat.lt_or_ge g w.heap.size with hlt | hge
  · exact hlt
  · unfold At at h; rw [Array.getElem?_eq_none hge] at h; simp at h
theorem At.set (h : At t w g cs) (i : Nat) (v : Value) : At t (w.setCell ⟨g, i, none⟩ v) g (cs.set i v) := by
  have := heap_setCell_same w g i cs.toArray t v h
  unfold At
  rw [this]
  simp
theorem At.below {w' : World} (h : At t w g cs) (hb : Below w.heap.size w w') : At t w' g cs := by
  unfold At
  rw [hb.block g h.lt]
  exact h
theorem At.drewN (h : At t w g cs) (n : Nat) : At t (w.drewN n) g cs := h
theorem At.drew (h : At t w g cs) : At t w.drew g cs := h
end

/-- All blocks but one are as they were. -/
structure But (g : Nat) (w w' : World) : Prop where
  os : w'.os = w.os
  tape : w'.tape = w.tape
  output : w'.output = w.output
  size : w.heap.size ≤ w'.heap.size
  block : ∀ k, k < w.heap.size → k ≠ g → w'.heap[k]? = w.heap[k]?

theorem But.refl (g : Nat) (w : World) : But g w w := ⟨rfl, rfl, rfl, Nat.le_refl _, fun _ _ _ => rfl⟩
theorem But.trans {g : Nat} {a b c : World} (h : But g a b) (k : But g b c) : But g a c :=
  ⟨k.os.trans h.os, k.tape.trans h.tape, k.output.trans h.output, Nat.le_trans h.size k.size, fun i hi hn => (k.block i (Nat.lt_of_lt_of_le hi h.size) hn).trans (h.block i hi hn)⟩
theorem But.of_below {g : Nat} {w w' : World} (h : Below w.heap.size w w') : But g w w' := ⟨h.os, h.tape, h.output, h.size, fun k hk _ => h.block k hk⟩
theorem But.below {g B : Nat} {w0 w w' : World} (h : But g w w') (hb : Below B w0 w) (hB : B ≤ g) (hs : B ≤ w.heap.size) : Below B w0 w' :=
  ⟨h.os.trans hb.os, h.tape.trans hb.tape, h.output.trans hb.output, Nat.le_trans hb.size h.size, fun k hk => (h.block k (by omega) (by omega)).trans (hb.block k hk)⟩
theorem But.at {t : TypeId} {g k : Nat} {w w' : World} {cs : List Value} (h : But g w w') (ha : At t w k cs) (hn : k ≠ g) : At t w' k cs := by
  unfold At
  rw [h.block k ha.lt hn]
  exact ha
theorem But.drewN {g : Nat} {a w : World} (h : But g a w) (n : Nat) : But g a (w.drewN n) := ⟨h.os, h.tape, h.output, h.size, h.block⟩
theorem But.setCell {g : Nat} {a w : World} (h : But g a w) (i : Nat) (v : Value) : But g a (w.setCell ⟨g, i, none⟩ v) :=
  ⟨h.os, h.tape, h.output, by simpa using h.size, fun k hk hn => by rw [heap_setCell_other w ⟨g, i, none⟩ k v hn]; exact h.block k hk hn⟩
theorem But.row {g : Nat} {w w' : World} (h : But g w w') {a : Option Addr} {bs : List UInt8} (hr : Row w a bs) (hn : ∀ b off, a = some ⟨b, off, none⟩ → b ≠ g) : Row w' a bs := by
  rcases hr with hr | ⟨b, off, rfl, hc⟩
  · exact .inl hr
  · exact .inr ⟨b, off, rfl, fun j hj => by rw [World.cell?_of_block (w := w) (h.block b (lt_of_cell (hc j hj)) (hn b off rfl))]; exact hc j hj⟩
section
variable {P : Program} {ops : Array Oper} {rest : List Oper} {o : Oper} {a : Act} {w : World} {Q : Exit → Act → World → Prop}

/-- A whole array or struct is laid into a new block. -/
theorem wpList_box_at (hgd : o.guard = none) (t : TypeId) (x : Operand) (ho : o.op = .box t x) (cs : List Value) (hx : a.eval x = .agg cs.toArray)
    (h : ∀ w', At t w' w.heap.size cs → Below w.heap.size w w' → w'.heap.size = w.heap.size + 1 → wpList P ops Q rest (a.put o.dst (.pointer (some ⟨w.heap.size, 0, none⟩))) w') :
    wpList P ops Q (o :: rest) a w := by
  refine wpList_plain hgd fun K hK => ?_
  have := hK _ _ (h (w.alloc (.cells cs.toArray t)) (_root_.Go.heap_alloc_new w _) ((Below.refl _ w).alloc (Nat.le_refl _) _) (by show (w.heap.push _).size = _; simp))
  unfold Oper.wp execOp
  simp only [ho, hx, Instr.box, Sem.run_bind]
  simpa [newVar, go_sem, Value.cells] using this

/-- A new block with the zero value of its type. -/
theorem wpList_alloc_at (hgd : o.guard = none) (t : TypeId) (ho : o.op = .alloc t) (cs : List Value) (n : Nat) (hz : (P.info? t).map (fun i => (i.zero, i.size)) = some (some (.agg cs.toArray), n))
    (h : ∀ w', At t w' w.heap.size cs → Below w.heap.size w w' → w'.heap.size = w.heap.size + 1 → wpList P ops Q rest (a.put o.dst (.pointer (some ⟨w.heap.size, 0, none⟩))) w') :
    wpList P ops Q (o :: rest) a w := by
  refine wpList_plain hgd fun K hK => ?_
  have := hK _ _ (h (w.alloc (.cells cs.toArray t)) (_root_.Go.heap_alloc_new w _) ((Below.refl _ w).alloc (Nat.le_refl _) _) (by show (w.heap.push _).size = _; simp))
  have h0 := (zero_of_info hz).1
  unfold Oper.wp execOp
  simp only [ho, Instr.alloc, Sem.run_bind, h0]
  simpa [newVar, go_sem, Value.cells] using this

/-- A whole array or struct is stored into a block that holds one. -/
theorem wpList_store_at (hgd : o.guard = none) (ty : TypeId) (x y : Operand) (ho : o.op = .store ty x y)
    (g : Nat) (cs : List Value) (hx : a.eval x = .pointer (some ⟨g, 0, none⟩)) (hy : a.eval y = .agg cs.toArray)
    (t : TypeId) (old : List Value) (hg : At t w g old) (hi : (P.info? ty).map (·.size) = some cs.length) (hold : old.length = cs.length) (h1 : ∀ v ∈ cs, v.oneCell' = true)
    (h : ∀ w', At t w' g cs → But g w w' → w'.heap.size = w.heap.size → wpList P ops Q rest (a.put o.dst undef) w') : wpList P ops Q (o :: rest) a w := by
  refine wpList_store_row hgd ty x y ho g cs.toArray hx hy t old.toArray hg (by simpa using hi) (by simpa using hold) (by simpa using h1) ?_
  refine h _ (setRow_heap w g _ _ t _ hg) ⟨rfl, rfl, rfl, by simp, fun k _ hn => setRow_other w g k _ hn⟩ (by simp)

/-- A whole array or struct is made. -/
theorem wpList_build_at (hgd : o.guard = none) (t : TypeId) (parts : Array (Nat × Operand)) (ho : o.op = .build t parts) (cs : List Value)
    (hb : P.built t (parts.map fun (i, x) => (i, a.eval x)).toList = some cs.toArray)
    (h : wpList P ops Q rest (a.put o.dst (.agg cs.toArray)) w) : wpList P ops Q (o :: rest) a w :=
  wpList_build hgd t parts ho (by rw [hb]; rfl) (by rw [hb]; exact h)

/-- A whole array or struct is read. -/
theorem wpList_load_at (hgd : o.guard = none) (ty : TypeId) (x : Operand) (ho : o.op = .load ty x)
    (g : Nat) (hx : a.eval x = .pointer (some ⟨g, 0, none⟩)) (t : TypeId) (cs : List Value) (hg : At t w g cs) (d : TypeDesc)
    (hu : P.underlying ty = some d) (hd : (match d with | .struct _ | .array _ _ => true | _ => false) = true) (hi : (P.info? ty).map (·.size) = some cs.length)
    (h : wpList P ops Q rest (a.put o.dst (.agg cs.toArray)) w) : wpList P ops Q (o :: rest) a w :=
  wpList_load_row hgd ty x ho g hx t cs.toArray (0, 0) d hg hu hd (by simpa using hi) h
end

theorem At.range {t : TypeId} {w : World} {g : Nat} {cs : List Value} (h : At t w g cs) (o n : Nat) : w.rangeAt g o ((cs.drop o).take n) := by
  intro j v hj
  rw [h.cell]
  rw [List.getElem?_take] at hj
  split at hj
  · rw [List.getElem?_drop] at hj; exact hj
  · simp at hj

theorem At.there {t : TypeId} {w : World} {g : Nat} {cs : List Value} (h : At t w g cs) (o n : Nat) (hn : o + n ≤ cs.length) : w.there g o n := by
  intro j hj
  rw [h.cell, h.frozen]
  simp
  omega

/-- A struct of two cells is stored into the middle of a block. -/
theorem wpList_store_two {P : Program} {ops : Array Oper} {rest : List Oper} {o : Oper} {a : Act} {w : World} {Q : Exit → Act → World → Prop} (hgd : o.guard = none) (ty : TypeId) (x y : Operand) (ho : o.op = .store ty x y)
    (g off : Nat) (v0 v1 : Value) (hx : a.eval x = .pointer (some ⟨g, off, none⟩)) (hy : a.eval y = .agg [v0, v1].toArray)
    (t : TypeId) (old : List Value) (hg : At t w g old) (hold : off + 2 ≤ old.length) (hi : (P.info? ty).map (·.size) = some 2) (h1 : ∀ v ∈ [v0, v1], v.oneCell' = true)
    (h : ∀ w', At t w' g ((old.set off v0).set (off + 1) v1) → But g w w' → w'.heap.size = w.heap.size → wpList P ops Q rest (a.put o.dst undef) w') : wpList P ops Q (o :: rest) a w := by
  refine wpList_store_mid hgd ty x y ho g off [v0, v1].toArray hx hy (hg.there off 2 hold) (by simpa using hi) (all_oneCell_toArray h1) ?_
  refine h _ ((hg.set off v0).set (off + 1) v1) (((But.refl g w).setCell off v0).setCell (off + 1) v1) ?_
  show ((w.setCell ⟨g, off, none⟩ v0).setCell ⟨g, off + 1, none⟩ v1).heap.size = _
  simp

theorem results_at {P : Program} {fn : Func} {p : Tmp} {ty : TypeId} (h : fn.results = #[.cell p ty]) (tmps : Array Value) (w : World) (g : Nat) (t : TypeId) (cs : List Value) (d : TypeDesc)
    (hp : tmps.getD p undef = .pointer (some ⟨g, 0, none⟩)) (hg : At t w g cs)
    (hu : P.underlying ty = some d) (hd : (match d with | .struct _ | .array _ _ => true | _ => false) = true) (hi : (P.info? ty).map (·.size) = some cs.length) :
    (results fn tmps).run P w = .ok (.agg cs.toArray) w :=
  results_cell_row h tmps w g t cs.toArray (0, 0) d hp hg hu hd (by simpa using hi)
end Go.Proofs.YtjgggmjjikopeaaGreatDoor

/- Signs, operands, types' texts. -/
namespace Go.Proofs.YtjgggmjjikopeaaGreatDoor
open Go.RowKit
set_option linter.unusedVariables false

theorem sgT_none (op : Nat) (h : ¬ (3 ≤ op ∧ op < 16)) : sgT op = [] := by
  unfold sgT
  split <;> first | rfl | (exfalso; omega)

set_option maxRecDepth 100000 in
set_option maxHeartbeats 1600000 in
theorem sign_lit (w : World) : ∀ op : Nat, op < 16 → 3 ≤ op → Calls Tryz.prog 138 #[.int .u8 (op : Int)] w fun e w' => e = .returned (.string ⟨(sgT op).toArray⟩) ∧ w' = w := by
  intro op h1 h2
  have : op = 3 ∨ op = 4 ∨ op = 5 ∨ op = 6 ∨ op = 7 ∨ op = 8 ∨ op = 9 ∨ op = 10 ∨ op = 11 ∨ op = 12 ∨ op = 13 ∨ op = 14 ∨ op = 15 := by omega
  rcases this with rfl | rfl | rfl | rfl | rfl | rfl | rfl | rfl | rfl | rfl | rfl | rfl | rfl <;>
    (go_enter Tryz.func138, Tryz.ntmps138
     go_wp2
     go_ret
     exact ⟨rfl, rfl⟩)

set_option maxRecDepth 100000 in
set_option maxHeartbeats 1600000 in
theorem sign_any (op : Nat) (w : World) : Calls Tryz.prog 138 #[.int .u8 (op : Int)] w fun e w' => e = .returned (.string ⟨(sgT op).toArray⟩) ∧ w' = w := by
  by_cases h : 3 ≤ op ∧ op < 16
  · exact sign_lit w op h.2 h.1
  · rw [sgT_none op h]
    have e3 : ((op : Int) == 3) = false := by rw [beq_eq_false_iff_ne]; omega
    have e4 : ((op : Int) == 4) = false := by rw [beq_eq_false_iff_ne]; omega
    have e5 : ((op : Int) == 5) = false := by rw [beq_eq_false_iff_ne]; omega
    have e6 : ((op : Int) == 6) = false := by rw [beq_eq_false_iff_ne]; omega
    have e7 : ((op : Int) == 7) = false := by rw [beq_eq_false_iff_ne]; omega
    have e8 : ((op : Int) == 8) = false := by rw [beq_eq_false_iff_ne]; omega
    have e9 : ((op : Int) == 9) = false := by rw [beq_eq_false_iff_ne]; omega
    have e10 : ((op : Int) == 10) = false := by rw [beq_eq_false_iff_ne]; omega
    have e11 : ((op : Int) == 11) = false := by rw [beq_eq_false_iff_ne]; omega
    have e12 : ((op : Int) == 12) = false := by rw [beq_eq_false_iff_ne]; omega
    have e13 : ((op : Int) == 13) = false := by rw [beq_eq_false_iff_ne]; omega
    have e14 : ((op : Int) == 14) = false := by rw [beq_eq_false_iff_ne]; omega
    have e15 : ((op : Int) == 15) = false := by rw [beq_eq_false_iff_ne]; omega
    clear h
    go_enter Tryz.func138, Tryz.ntmps138
    go_wp2
    go_ret
    exact ⟨rfl, rfl⟩

/-- How many operands an operator has. -/
def opnds (op : Nat) : Int := if op = 1 ∨ op = 2 then 0 else if 16 ≤ op ∧ op < 20 then 1 else if 3 ≤ op ∧ op < 16 then 2 else -1

set_option maxRecDepth 100000 in
set_option maxHeartbeats 1600000 in
theorem operands_any (op : Nat) (w : World) : Calls Tryz.prog 135 #[.int .u8 (op : Int)] w fun e w' => e = .returned (.int .i64 (opnds op)) ∧ w' = w := by
  have hs := sign_any op
  by_cases h0 : op = 1 ∨ op = 2
  · rcases h0 with rfl | rfl <;>
    (go_enter Tryz.func135, Tryz.ntmps135
     go_wp2_with fail
     go_ret
     exact ⟨rfl, rfl⟩)
  by_cases h1 : 16 ≤ op ∧ op < 20
  · have : op = 16 ∨ op = 17 ∨ op = 18 ∨ op = 19 := by omega
    rcases this with rfl | rfl | rfl | rfl <;>
    (go_enter Tryz.func135, Tryz.ntmps135
     go_wp2_with fail
     go_ret
     exact ⟨rfl, rfl⟩)
  have e1 : ((op : Int) == 1) = false := by rw [beq_eq_false_iff_ne]; omega
  have e2 : ((op : Int) == 2) = false := by rw [beq_eq_false_iff_ne]; omega
  have e16 : ((op : Int) == 16) = false := by rw [beq_eq_false_iff_ne]; omega
  have e17 : ((op : Int) == 17) = false := by rw [beq_eq_false_iff_ne]; omega
  have e18 : ((op : Int) == 18) = false := by rw [beq_eq_false_iff_ne]; omega
  have e19 : ((op : Int) == 19) = false := by rw [beq_eq_false_iff_ne]; omega
  by_cases h2 : 3 ≤ op ∧ op < 16
  · have he : opnds op = 2 := by unfold opnds; rw [if_neg h0, if_neg h1, if_pos h2]
    have hne : ((sgT op) == []) = false := by
      have : ∀ op, op < 16 → 3 ≤ op → ((sgT op) == []) = false := by decide
      exact this op h2.2 h2.1
    rw [he]
    obtain ⟨L, hL⟩ : ∃ L, L = sgT op := ⟨_, rfl⟩
    rw [← hL] at hs hne
    clear hL he h0 h1 h2
    go_enter Tryz.func135, Tryz.ntmps135
    go_wp2_with fail
    refine (hs _).mono ?_
    rintro e w' ⟨rfl, rfl⟩
    go_wp2
    go_ret
    exact ⟨rfl, rfl⟩
  · have he : opnds op = -1 := by unfold opnds; rw [if_neg h0, if_neg h1, if_neg h2]
    rw [he]
    rw [sgT_none op h2] at hs
    clear he h0 h1 h2
    go_enter Tryz.func135, Tryz.ntmps135
    go_wp2_with fail
    refine (hs _).mono ?_
    rintro e w' ⟨rfl, rfl⟩
    go_wp2
    go_ret
    exact ⟨rfl, rfl⟩

end Go.Proofs.YtjgggmjjikopeaaGreatDoor

/- Reals by their bits: what a float64's word stands for, and what the four operations and the comparisons tell, as plain functions of words: no program is named here. -/
namespace Go.Proofs.YtjgggmjjikopeaaGreatDoor
open Ieee
set_option linter.unusedVariables false

/-- float64. -/
abbrev D : Format := Ieee.double

/-- The one NaN's bits. -/
def NAN : Nat := 9221120237041090560

/-- A word that is a NaN. -/
def isNan (b : Nat) : Bool := decide (9218868437227405312 < b % 9223372036854775808)

/-- Bits brought home. -/
def home (b : Nat) : Nat := if isNan b then NAN else b

theorem read_eq (b : Nat) : D.read b =
    if b % 9223372036854775808 < 4503599627370496 then .number (b / 9223372036854775808 % 2 == 1) (b % 9223372036854775808) (-1074)
    else if b % 9223372036854775808 < 9218868437227405312 then .number (b / 9223372036854775808 % 2 == 1) (4503599627370496 + b % 9223372036854775808 % 4503599627370496) (-1074 + (b % 9223372036854775808 / 4503599627370496 - 1 : Nat))
    else if b % 9223372036854775808 = 9218868437227405312 then .infinity (b / 9223372036854775808 % 2 == 1)
    else .nan (b / 9223372036854775808 % 2 == 1) (b % 9223372036854775808 - 9218868437227405312) := rfl

theorem read_nan {b : Nat} (h : isNan b = true) : ∃ s t, D.read b = .nan s t := by
  simp only [isNan, decide_eq_true_eq] at h
  rw [read_eq, if_neg (by omega), if_neg (by omega), if_neg (by omega)]
  exact ⟨_, _, rfl⟩

theorem read_real {b : Nat} (h : isNan b = false) : (∃ s m e, D.read b = .number s m e) ∨ (∃ s, D.read b = .infinity s) := by
  simp only [isNan, decide_eq_false_iff_not] at h
  rw [read_eq]
  split
  · exact .inl ⟨_, _, _, rfl⟩
  · split
    · exact .inl ⟨_, _, _, rfl⟩
    · rw [if_pos (by omega)]; exact .inr ⟨_, rfl⟩

theorem order_self (b : Nat) : D.order b b = if isNan b then none else some .eq := by
  cases h : isNan b
  · rcases read_real h with ⟨s, m, e, hr⟩ | ⟨s, hr⟩
    · simp [Format.order, hr, Datum.order]
    · simp [Format.order, hr, Datum.order]
  · obtain ⟨s, t, hr⟩ := read_nan h
    simp [Format.order, hr, Datum.order]

/-- 'x != x'. -/
theorem neq_self (b : Nat) : (D.order b b != some .eq) = isNan b := by
  rw [order_self]; cases isNan b <;> rfl
theorem isNan_NAN : isNan NAN = true := by decide
theorem home_nan {b : Nat} (h : isNan b = true) : home b = NAN := by simp [home, h]
theorem home_real {b : Nat} (h : isNan b = false) : home b = b := by simp [home, h]
theorem home_home (b : Nat) : home (home b) = home b := by
  cases h : isNan b
  · rw [home_real h, home_real h]
  · rw [home_nan h, home_nan isNan_NAN]
theorem home_lt {b : Nat} (h : b < 18446744073709551616) : home b < 18446744073709551616 := by
  unfold home; split
  · decide
  · exact h

/-- What is done with the words of two numbers, a NaN among them told as none, hangs on what they are brought home as. -/
theorem add_nan {a b : Nat} (h : isNan a = true ∨ isNan b = true) : D.add a b = none := by
  unfold Format.add
  rcases h with h | h
  · obtain ⟨s, t, hr⟩ := read_nan h
    rw [hr]; rfl
  · obtain ⟨s, t, hr⟩ := read_nan h
    rw [hr]
    cases ha : D.read a <;> rfl
theorem order_nan {a b : Nat} (h : isNan a = true ∨ isNan b = true) : D.order a b = none := by
  unfold Format.order
  rcases h with h | h
  · obtain ⟨s, t, hr⟩ := read_nan h
    rw [hr]; rfl
  · obtain ⟨s, t, hr⟩ := read_nan h
    rw [hr]
    cases ha : D.read a <;> rfl

/-- What is told where an operation has an answer, and the one NaN where it has none. -/
def told (r : Option Nat) : Nat := match r with
  | some x => home x
  | none => NAN

def fdiv (a b : Nat) : Nat := told (D.div a b)

/-- The other sign. -/
def fneg (a : Nat) : Nat := if isNan a then NAN else if a < 9223372036854775808 then a + 9223372036854775808 else a - 9223372036854775808

/-- The nearest real of a whole number. -/
def ofInt (n : Int) : Nat := FloatKind.nearest .f64 n

theorem told_lt {r : Option Nat} (h : ∀ x, r = some x → x < 18446744073709551616) : told r < 18446744073709551616 := by
  unfold told
  split
  · rename_i x; exact home_lt (h x rfl)
  · decide

end Go.Proofs.YtjgggmjjikopeaaGreatDoor

/- What a real is worth, as a whole number of units of 2^-1074; that reals compare as these do; and its whole part: no program is named here. -/
namespace Go.Proofs.YtjgggmjjikopeaaGreatDoor
open Ieee
set_option linter.unusedVariables false

/-- A power of two, by a name of its own. -/
def pw (k : Nat) : Nat := 2 ^ k
theorem pw_def (k : Nat) : pw k = 2 ^ k := rfl
theorem pw_pos (k : Nat) : 0 < pw k := Nat.two_pow_pos k
theorem pw_add (a b : Nat) : pw (a + b) = pw a * pw b := Nat.pow_add 2 a b
theorem pw_le {a b : Nat} (h : a ≤ b) : pw a ≤ pw b := Nat.pow_le_pow_right (by decide) h
theorem pw_lt {a b : Nat} (h : a < b) : pw a < pw b := Nat.pow_lt_pow_right (by decide) h

theorem signed_eq (s : Bool) (m k : Nat) : signed s m k = if s then -((m * pw k : Nat) : Int) else ((m * pw k : Nat) : Int) := by
  simp [signed, Nat.shiftLeft_eq, pw_def]

theorem signed_add (s : Bool) (m i k : Nat) : signed s m (i + k) = signed s m i * ((pw k : Nat) : Int) := by
  rw [signed_eq, signed_eq, pw_add, ← Nat.mul_assoc]
  cases s <;> simp [Int.neg_mul]

theorem compare_int (x y : Int) : compare x y = if x < y then .lt else if x = y then .eq else .gt := rfl

theorem compare_scale (x y : Int) (k : Nat) (hk : 0 < k) : compare (x * (k : Int)) (y * (k : Int)) = compare x y := by
  rw [compare_int, compare_int]
  have h : (0 : Int) < (k : Int) := by omega
  by_cases h1 : x < y
  · rw [if_pos h1, if_pos (Int.mul_lt_mul_of_pos_right h1 h)]
  · rw [if_neg h1, if_neg (fun hh => h1 (Int.lt_of_mul_lt_mul_right hh (Int.le_of_lt h)))]
    by_cases h2 : x = y
    · rw [if_pos h2, if_pos (by rw [h2])]
    · rw [if_neg h2, if_neg (fun hh => h2 (Int.eq_of_mul_eq_mul_right (by omega) hh))]

theorem compare_lt {x y : Int} (h : x < y) : compare x y = .lt := by rw [compare_int, if_pos h]
theorem compare_gt {x y : Int} (h : y < x) : compare x y = .gt := by rw [compare_int, if_neg (by omega), if_neg (by omega)]
theorem compare_same {x y : Int} (h : x = y) : compare x y = .eq := by rw [compare_int, if_neg (by omega), if_pos h]

/-- More than any finite real is worth. -/
def TOP : Nat := pw 2200

/-- What a datum is worth. -/
def worth : Datum → Int
  | .number s m e => signed s m (e + 1074).toNat
  | .infinity s => if s then -(TOP : Int) else (TOP : Int)
  | .nan .. => 0

/-- What a word is worth. -/
def val (b : Nat) : Int := worth (D.read b)

/-- The shape of a word's number. -/
theorem read_shape {b : Nat} {s : Bool} {m : Nat} {e : Int} (h : D.read b = .number s m e) : s = (b / 9223372036854775808 % 2 == 1) ∧ m < 9007199254740992 ∧ -1074 ≤ e ∧ e ≤ 971 := by
  rw [read_eq] at h
  split at h
  · cases h
    refine ⟨rfl, by omega, by omega, by omega⟩
  · split at h
    · cases h
      refine ⟨rfl, by omega, by omega, by omega⟩
    · split at h <;> cases h

theorem number_small {b : Nat} {s : Bool} {m : Nat} {e : Int} (h : D.read b = .number s m e) : m * pw (e + 1074).toNat < TOP := by
  obtain ⟨_, h1, h2, h3⟩ := read_shape h
  have h4 : pw (e + 1074).toNat ≤ pw 2045 := pw_le (by omega)
  have h5 : m * pw (e + 1074).toNat ≤ pw 53 * pw 2045 := Nat.mul_le_mul (Nat.le_of_lt (show m < 2 ^ 53 from h1)) h4
  rw [← pw_add] at h5
  exact Nat.lt_of_le_of_lt h5 (pw_lt (by decide))

theorem TOP_pos : 0 < TOP := pw_pos _

theorem order_numbers (s t : Bool) (m n : Nat) (i j : Int) (hi : -1074 ≤ i) (hj : -1074 ≤ j) :
    Datum.order (.number s m i) (.number t n j) = some (compare (signed s m (i + 1074).toNat) (signed t n (j + 1074).toNat)) := by
  have e1 : (i + 1074).toNat = (i - min i j).toNat + (min i j + 1074).toNat := by omega
  have e2 : (j + 1074).toNat = (j - min i j).toNat + (min i j + 1074).toNat := by omega
  rw [e1, e2, signed_add, signed_add, compare_scale _ _ _ (pw_pos _)]
  rfl

theorem order_val {b c : Nat} (hb : isNan b = false) (hc : isNan c = false) : D.order b c = some (compare (val b) (val c)) := by
  unfold Format.order val
  have hT := TOP_pos
  rcases read_real hb with ⟨s, m, i, h1⟩ | ⟨s, h1⟩ <;> rcases read_real hc with ⟨t, n, j, h2⟩ | ⟨t, h2⟩
  · rw [h1, h2, order_numbers _ _ _ _ _ _ (read_shape h1).2.2.1 (read_shape h2).2.2.1]
    rfl
  · have := number_small h1
    rw [h1, h2]
    simp only [Datum.order, worth, signed_eq]
    generalize m * pw (i + 1074).toNat = x at this ⊢
    cases t
    · rw [compare_lt (by cases s <;> simp only [Bool.false_eq_true, if_false, if_true] <;> omega)]; rfl
    · rw [compare_gt (by cases s <;> simp only [Bool.false_eq_true, if_false, if_true] <;> omega)]; rfl
  · have := number_small h2
    rw [h1, h2]
    simp only [Datum.order, worth, signed_eq]
    generalize n * pw (j + 1074).toNat = x at this ⊢
    cases s
    · rw [compare_gt (by cases t <;> simp only [Bool.false_eq_true, if_false, if_true] <;> omega)]; rfl
    · rw [compare_lt (by cases t <;> simp only [Bool.false_eq_true, if_false, if_true] <;> omega)]; rfl
  · rw [h1, h2]
    simp only [Datum.order, worth]
    cases s <;> cases t <;> simp only [Bool.false_eq_true, if_false, if_true]
    · rw [compare_same rfl]; rfl
    · rw [compare_gt (by omega)]; rfl
    · rw [compare_lt (by omega)]; rfl
    · rw [compare_same rfl]; rfl

theorem lt_val {b c : Nat} (hb : isNan b = false) (hc : isNan c = false) : (D.order b c == some .lt) = decide (val b < val c) := by
  rw [order_val hb hc, compare_int]
  by_cases h1 : val b < val c
  · simp [h1]
  · by_cases h2 : val b = val c <;> simp [h1, h2]

theorem ge_val {b c : Nat} (hb : isNan b = false) (hc : isNan c = false) : (D.order b c == some .gt || D.order b c == some .eq) = decide (val c ≤ val b) := by
  rw [order_val hb hc, compare_int]
  by_cases h1 : val b < val c
  · simp [h1]
  · by_cases h2 : val b = val c <;> simp [h1, h2] <;> omega

theorem nan_ge {b c : Nat} (h : isNan b = true ∨ isNan c = true) : (D.order b c == some .gt || D.order b c == some .eq) = false := by rw [order_nan h]; rfl

/-! The other sign. -/
theorem xor_up (r : Nat) (h : r < 9223372036854775808) : r ^^^ 9223372036854775808 = 9223372036854775808 + r := by
  apply Nat.eq_of_testBit_eq
  intro j
  have e := Nat.testBit_two_pow_mul_add 1 (show r < 2 ^ 63 from h) j
  rw [Nat.mul_one] at e
  rw [show 9223372036854775808 + r = 2 ^ 63 + r from rfl, e, Nat.testBit_xor, show (9223372036854775808 : Nat) = 2 ^ 63 from rfl, Nat.testBit_two_pow]
  by_cases hj : j < 63
  · simp [hj, show ¬ 63 = j by omega]
  · have : r.testBit j = false := Nat.testBit_lt_two_pow (Nat.lt_of_lt_of_le h (show 2 ^ 63 ≤ 2 ^ j from Nat.pow_le_pow_right (by decide) (by omega)))
    rw [this, if_neg hj]
    by_cases h63 : 63 = j
    · subst h63; rfl
    · have : (1 : Nat).testBit (j - 63) = false := by
        apply Nat.testBit_lt_two_pow
        exact Nat.one_lt_two_pow (by omega)
      simp [this, h63]

theorem xor_flip (x : Nat) (h : x < 18446744073709551616) : x ^^^ 9223372036854775808 = if x < 9223372036854775808 then x + 9223372036854775808 else x - 9223372036854775808 := by
  split
  · rename_i h1
    rw [xor_up x h1]; omega
  · rename_i h1
    have h2 := xor_up (x - 9223372036854775808) (by omega)
    have h3 : x = (x - 9223372036854775808) ^^^ 9223372036854775808 := by rw [h2]; omega
    have h4 : x ^^^ 9223372036854775808 = ((x - 9223372036854775808) ^^^ 9223372036854775808) ^^^ 9223372036854775808 := by rw [← h3]
    rw [h4, Nat.xor_assoc, Nat.xor_self, Nat.xor_zero]

theorem flip_nan (x : Nat) (h : x < 18446744073709551616) : isNan (if x < 9223372036854775808 then x + 9223372036854775808 else x - 9223372036854775808) = isNan x := by
  unfold isNan
  have e : (if x < 9223372036854775808 then x + 9223372036854775808 else x - 9223372036854775808) % 9223372036854775808 = x % 9223372036854775808 := by split <;> omega
  rw [e]

theorem home_flip (a : Nat) (h : a < 18446744073709551616) : home (home a ^^^ 9223372036854775808) = fneg a := by
  rw [xor_flip _ (home_lt h)]
  unfold fneg
  cases hn : isNan a
  · rw [home_real hn, home_real (by rw [flip_nan a h, hn])]
    simp
  · rw [home_nan hn]
    show home (if NAN < 9223372036854775808 then NAN + 9223372036854775808 else NAN - 9223372036854775808) = NAN
    decide

theorem fneg_lt {a : Nat} (h : a < 18446744073709551616) : fneg a < 18446744073709551616 := by
  unfold fneg; split
  · decide
  · split <;> omega

theorem isNan_fneg {a : Nat} (h : a < 18446744073709551616) : isNan (fneg a) = isNan a := by
  unfold fneg
  cases hn : isNan a
  · simp only [Bool.false_eq_true, if_false]
    rw [flip_nan a h, hn]
  · rfl

/-! The whole part. -/
theorem cut_zero (s : Bool) (n d : Nat) : Toward.cut .zero s n d = n / 2 ^ d := by
  simp only [Toward.cut, Bool.toNat_false, Nat.add_zero, Nat.shiftLeft_eq, Nat.one_mul]
  by_cases h : d ≤ n.log2 + 2
  · rw [Nat.min_eq_left h]
  · rw [Nat.min_eq_right (by omega)]
    have h0 : n < 2 ^ (n.log2 + 1) := Nat.lt_log2_self
    have h1 : n < 2 ^ (n.log2 + 2) := Nat.lt_of_lt_of_le h0 (Nat.pow_le_pow_right (by decide) (by omega))
    have h2 : n < 2 ^ d := Nat.lt_of_lt_of_le h0 (Nat.pow_le_pow_right (by decide) (by omega))
    rw [Nat.div_eq_of_lt h1, Nat.div_eq_of_lt h2]

/-- The whole part of what a datum is worth. -/
theorem toInt_number (s : Bool) (m : Nat) (e : Int) (he : -1074 ≤ e) : Datum.toInt .zero (.number s m e) = some (if s then -((m * pw (e + 1074).toNat / pw 1074 : Nat) : Int) else ((m * pw (e + 1074).toNat / pw 1074 : Nat) : Int)) := by
  have key : (m <<< e.toNat) / 2 ^ (-e).toNat = m * pw (e + 1074).toNat / pw 1074 := by
    rw [Nat.shiftLeft_eq]
    by_cases h : 0 ≤ e
    · have h1 : pw (e + 1074).toNat = 2 ^ e.toNat * pw 1074 := by rw [← pw_def, ← pw_add]; congr 1; omega
      rw [show (-e).toNat = 0 by omega, h1, ← Nat.mul_assoc, Nat.mul_div_cancel _ (pw_pos _)]
      simp
    · have h1 : (e + 1074).toNat + (-e).toNat = 1074 := by omega
      have h2 : pw 1074 = pw (e + 1074).toNat * 2 ^ (-e).toNat := by rw [← pw_def, ← pw_add, h1]
      rw [h2, Nat.mul_comm m (pw (e + 1074).toNat), Nat.mul_div_mul_left _ _ (pw_pos _), show e.toNat = 0 by omega]
      simp
  simp only [Datum.toInt, Datum.integral, cut_zero, key, signed_eq, pw, Nat.pow_zero, Nat.mul_one]

/-- 2^63 and -2^63 as reals. -/
def B63 : Nat := 4890909195324358656
def N63 : Nat := 14114281232179134464
theorem val_B63 : val B63 = ((9223372036854775808 * pw 1074 : Nat) : Int) := by
  have : D.read B63 = .number false 4503599627370496 11 := by decide
  unfold val
  rw [this]
  simp only [worth, signed_eq, Bool.false_eq_true, if_false]
  rw [show ((11 : Int) + 1074).toNat = 11 + 1074 from rfl, pw_add, ← Nat.mul_assoc, show 4503599627370496 * pw 11 = 9223372036854775808 from rfl]
theorem val_N63 : val N63 = -((9223372036854775808 * pw 1074 : Nat) : Int) := by
  have : D.read N63 = .number true 4503599627370496 11 := by decide
  unfold val
  rw [this]
  simp only [worth, signed_eq, if_true]
  rw [show ((11 : Int) + 1074).toNat = 11 + 1074 from rfl, pw_add, ← Nat.mul_assoc, show 4503599627370496 * pw 11 = 9223372036854775808 from rfl]

/-- The whole part towards 0. -/
def trunc (v : Int) : Int := if v < 0 then -((v.natAbs / pw 1074 : Nat) : Int) else ((v.natAbs / pw 1074 : Nat) : Int)

theorem whole_val {b : Nat} (hb : isNan b = false) (h1 : val b < val B63) (h2 : val N63 ≤ val b) : floatToIntVal .f64 b .i64 = some (trunc (val b)) := by
  have hp : 0 < pw 1074 := pw_pos _
  rcases read_real hb with ⟨s, m, e, hr⟩ | ⟨s, hr⟩
  · obtain ⟨_, _, he, _⟩ := read_shape hr
    have hv : val b = signed s m (e + 1074).toNat := by unfold val; rw [hr]; rfl
    rw [val_B63, hv] at h1
    rw [val_N63, hv] at h2
    have ht : Datum.toInt .zero (FloatKind.f64.decode b) = _ := (congrArg _ hr).trans (toInt_number s m e he)
    unfold floatToIntVal
    rw [ht, hv]
    rw [signed_eq] at h1 h2 ⊢
    simp only [trunc]
    generalize m * pw (e + 1074).toNat = x at h1 h2 ⊢
    generalize pw 1074 = K at h1 h2 hp ⊢
    cases s
    · simp only [Bool.false_eq_true, if_false] at h1 h2 ⊢
      have hx : x / K < 9223372036854775808 := (Nat.div_lt_iff_lt_mul hp).2 (by omega)
      have hm : IntKind.i64.min = -9223372036854775808 := rfl
      have hM : IntKind.i64.max = 9223372036854775807 := rfl
      rw [Int.natAbs_natCast]
      generalize x / K = y at hx ⊢
      rw [hm, hM, if_pos ⟨by omega, by omega⟩, if_neg (by omega)]
    · simp only [if_true] at h1 h2 ⊢
      have hx : x / K ≤ 9223372036854775808 := (Nat.div_le_iff_le_mul_add_pred hp).2 (by rw [Nat.mul_comm]; omega)
      have hm : IntKind.i64.min = -9223372036854775808 := rfl
      have hM : IntKind.i64.max = 9223372036854775807 := rfl
      rw [Int.natAbs_neg, Int.natAbs_natCast]
      have h0 : x = 0 → x / K = 0 := fun h => by rw [h]; exact Nat.zero_div _
      generalize x / K = y at hx h0 ⊢
      rw [hm, hM, if_pos ⟨by omega, by omega⟩]
      by_cases h00 : x = 0
      · rw [if_neg (by omega), h0 h00]; rfl
      · rw [if_pos (by omega)]
  · exfalso
    have hT : 9223372036854775808 * pw 1074 < TOP := by
      rw [show (9223372036854775808 : Nat) = pw 63 from rfl, ← pw_add]
      exact pw_lt (by decide)
    have hv : val b = if s then -(TOP : Int) else (TOP : Int) := by unfold val; rw [hr]; rfl
    rw [val_B63, hv] at h1
    rw [val_N63, hv] at h2
    cases s <;> simp only [Bool.false_eq_true, if_false, if_true] at h1 h2 <;> omega

end Go.Proofs.YtjgggmjjikopeaaGreatDoor

/- Rounding: which word is nearest to a number, what it is worth, and where it is exact: no program is named here. -/
namespace Go.Proofs.YtjgggmjjikopeaaGreatDoor
open Ieee
set_option linter.unusedVariables false

end Go.Proofs.YtjgggmjjikopeaaGreatDoor

/- Whole numbers as reals: exact up to 2^53 in size, with their sums, differences and products: no program is named here. -/
namespace Go.Proofs.YtjgggmjjikopeaaGreatDoor
open Ieee
set_option linter.unusedVariables false

end Go.Proofs.YtjgggmjjikopeaaGreatDoor

/- The real of a literal, and its digits found again: no program is named here. -/
namespace Go.Proofs.YtjgggmjjikopeaaGreatDoor
open Ieee
set_option linter.unusedVariables false

end Go.Proofs.YtjgggmjjikopeaaGreatDoor

/- assizekit.SameBytes: it tells whether two slices of bytes hold the same bytes. -/
namespace Go.Proofs.YtjgggmjjikopeaaGreatDoor
open Go.RowKit
set_option linter.unusedVariables false

theorem strOfNums_bytes (bs : List UInt8) : strOfNums (bs.map fun b => (b.toNat : Int)) = ⟨bs.toArray⟩ := by
  unfold strOfNums
  congr 2
  rw [List.map_map]
  conv => rhs; rw [← List.map_id bs]
  apply List.map_congr_left
  intro b _
  simp

theorem conv_zero (w : World) (a : Option Addr) (c : Nat) : (convert 84 9 (.slice a 0 c)).run Tryz.prog w = .ok (.string ⟨#[]⟩) w := by
  rw [run_convert_bytes_string w 84 9 5 a 0 c Tryz.underlying84 Tryz.underlying5 Tryz.underlying9]
  cases a with
  | none => simp [Conv.bytesToString]; rfl
  | some p =>
    have := run_bytesToString (P := Tryz.prog) w p 0 c [] (by have := run_loadCells_list (P := Tryz.prog) w p [] (fun j v hj => by simp at hj); simpa using this)
    rw [this]
    rfl

theorem conv_row {w : World} {a : Option Addr} {bs : List UInt8} (h : Row w a bs) (c : Nat) : (convert 84 9 (.slice a bs.length c)).run Tryz.prog w = .ok (.string ⟨bs.toArray⟩) w := by
  rcases h with rfl | ⟨b, off, rfl, hc⟩
  · exact conv_zero w a c
  · have := run_convert_bytes_arg (P := Tryz.prog) w 84 5 Tryz.underlying84 Tryz.underlying5 b off bs.length c (bs.map fun b => (b.toNat : Int)) (by simp)
      (fun i hi => by rw [hc i hi]; simp [List.getD, List.getElem?_map, List.getElem?_eq_getElem hi]) 9 Tryz.underlying9
    rw [this, strOfNums_bytes]

end Go.Proofs.YtjgggmjjikopeaaGreatDoor

/- Decimal digits: plain facts on lists of bytes. -/
namespace Go.Proofs.YtjgggmjjikopeaaGreatDoor
set_option linter.unusedVariables false

/-- The number whose digits these are. -/
def decVal (l : List UInt8) : Nat := l.foldl (fun n c => n * 10 + (c.toNat - 48)) 0

/-- The digits of a number from 0 to 2^63 - 1. -/
def GoodDec (l : List UInt8) : Prop := 1 ≤ l.length ∧ ((l.getD 0 0).toNat = 48 → l.length = 1) ∧ (∀ j, j < l.length → 48 ≤ (l.getD j 0).toNat ∧ (l.getD j 0).toNat ≤ 57) ∧ decVal l ≤ 9223372036854775807

theorem val_snoc (l : List UInt8) (c : UInt8) : decVal (l ++ [c]) = decVal l * 10 + (c.toNat - 48) := by simp [decVal]

theorem val_take (l : List UInt8) (k : Nat) (h : k < l.length) : decVal (l.take (k + 1)) = decVal (l.take k) * 10 + ((l.getD k 0).toNat - 48) := by
  have e : l.take (k + 1) = l.take k ++ [l.getD k 0] := by
    rw [List.take_succ_eq_append_getElem h]
    simp [List.getD, List.getElem?_eq_getElem h]
  rw [e, val_snoc]

theorem val_mono_succ (l : List UInt8) (k : Nat) : decVal (l.take k) ≤ decVal (l.take (k + 1)) := by
  rcases Nat.lt_or_ge k l.length with h | h
  · rw [val_take l k h]; omega
  · rw [List.take_of_length_le h, List.take_of_length_le (by omega)]; exact Nat.le_refl _

theorem val_mono (l : List UInt8) (k : Nat) : ∀ d, decVal (l.take k) ≤ decVal (l.take (k + d)) := by
  intro d
  induction d with
  | zero => exact Nat.le_refl _
  | succ d ih => exact Nat.le_trans ih (val_mono_succ l (k + d))

theorem val_le (l : List UInt8) (k : Nat) : decVal (l.take k) ≤ decVal l := by
  have := val_mono l k l.length
  rwa [List.take_of_length_le (show l.length ≤ k + l.length by omega)] at this

theorem val_lt (l : List UInt8) : ∀ k, k ≤ l.length → (∀ j, j < k → 48 ≤ (l.getD j 0).toNat ∧ (l.getD j 0).toNat ≤ 57) → decVal (l.take k) < 10 ^ k := by
  intro k
  induction k with
  | zero => intro _ _; simp [decVal]
  | succ k ih =>
    intro h hd
    have := ih (by omega) (fun j hj => hd j (by omega))
    have h2 := hd k (by omega)
    rw [val_take l k (by omega), Nat.pow_succ]
    omega

theorem val_ge (l : List UInt8) (hl : 1 ≤ l.length) (hd : ∀ j, j < l.length → 48 ≤ (l.getD j 0).toNat ∧ (l.getD j 0).toNat ≤ 57) (h0 : (l.getD 0 0).toNat ≠ 48) : ∀ k, k < l.length → 10 ^ k ≤ decVal (l.take (k + 1)) := by
  intro k
  induction k with
  | zero =>
    intro h
    rw [val_take l 0 h]
    have := hd 0 h
    omega
  | succ k ih =>
    intro h
    have := ih (by omega)
    rw [val_take l (k + 1) h, Nat.pow_succ]
    omega

theorem digit_bad (l : List UInt8) (k : Nat) (hk : k < l.length) (h : (l.getD k 0).toNat < 48 ∨ 57 < (l.getD k 0).toNat) : ¬ GoodDec l := by
  rintro ⟨_, _, h3, _⟩
  have := h3 k hk
  omega

theorem great_bad (l : List UInt8) (k : Nat) (h : 9223372036854775807 < decVal (l.take k)) : ¬ GoodDec l := by
  rintro ⟨_, _, _, h4⟩
  have := val_le l k
  omega

theorem nought_bad (l : List UInt8) (h : (l.getD 0 0).toNat = 48) (h1 : 1 < l.length) : ¬ GoodDec l := by
  rintro ⟨_, h2, _, _⟩
  have := h2 h
  omega

theorem none_bad (l : List UInt8) (h : l.length < 1) : ¬ GoodDec l := by rintro ⟨h1, _⟩; omega

/-- What ReadDec answers: a number and an error. -/
def DecIs (l : List UInt8) (most d h : Int) : Prop :=
  (most < 0 ∧ d = 0 ∧ h = 2) ∨ (0 ≤ most ∧ ¬ GoodDec l ∧ d = 0 ∧ h = 4) ∨ (0 ≤ most ∧ GoodDec l ∧ most < decVal l ∧ d = 0 ∧ h = 3) ∨ (0 ≤ most ∧ GoodDec l ∧ (decVal l : Int) ≤ most ∧ d = decVal l ∧ h = 0)

theorem DecIs.one {l : List UInt8} {most d h d' h' : Int} (a : DecIs l most d h) (b : DecIs l most d' h') : d = d' ∧ h = h' := by
  rcases a with ⟨a1, rfl, rfl⟩ | ⟨a1, a2, rfl, rfl⟩ | ⟨a1, a2, a3, rfl, rfl⟩ | ⟨a1, a2, a3, rfl, rfl⟩ <;>
  rcases b with ⟨b1, rfl, rfl⟩ | ⟨b1, b2, rfl, rfl⟩ | ⟨b1, b2, b3, rfl, rfl⟩ | ⟨b1, b2, b3, rfl, rfl⟩ <;>
  first
    | exact ⟨rfl, rfl⟩
    | (exfalso; omega)
    | (exfalso; exact a2 b2)
    | (exfalso; exact b2 a2)

end Go.Proofs.YtjgggmjjikopeaaGreatDoor

/- The document's own ReadDec. -/
namespace Go.Proofs.YtjgggmjjikopeaaGreatDoor
open Go.RowKit
set_option linter.unusedVariables false

/-- The bytes of a text. -/
def bytes (s : ByteArray) : List UInt8 := s.data.toList

theorem bytes_length (s : ByteArray) : (bytes s).length = s.size := by simp [bytes]

theorem bytes_at (s : ByteArray) (k : Nat) (h : k < s.size) : (bytes s).getD k 0 = s[k] := by
  have : k < s.data.toList.length := by simpa using h
  simp [bytes, List.getD, h]
  rfl

end Go.Proofs.YtjgggmjjikopeaaGreatDoor

/- strings.IndexByte: the place of a byte in a text. -/
namespace Go.Proofs.YtjgggmjjikopeaaGreatDoor
open Go.RowKit
set_option linter.unusedVariables false

end Go.Proofs.YtjgggmjjikopeaaGreatDoor

/- octet.readDigits and octet.ReadDec. -/
namespace Go.Proofs.YtjgggmjjikopeaaGreatDoor
open Go.RowKit
set_option linter.unusedVariables false

/-- The length of a text in a slot. -/
def strLen : Value → Nat | .string r => r.size | _ => 0

theorem idx10_nat : ∀ c : Nat, c < 256 → Lib.indexByte (({ data := #[48, 49, 50, 51, 52, 53, 54, 55, 56, 57, 97, 98, 99, 100, 101, 102] } : ByteArray).extract 0 10).data.toList ((c : Int).toNat.toUInt8) = if 48 ≤ c ∧ c ≤ 57 then (c : Int) - 48 else -1 := by decide +kernel

theorem not_empty {s : ByteArray} (h : 0 < s.size) : s.toList.isEmpty = false := by
  rw [List.isEmpty_eq_false_iff, Lib.toList_data]
  intro h0
  have : s.size = 0 := by rw [← bytes_length s, bytes, h0]; rfl
  omega

theorem is_empty {s : ByteArray} (h : s.size = 0) : s.toList.isEmpty = true := by
  rw [List.isEmpty_iff, Lib.toList_data]
  apply List.eq_nil_of_length_eq_zero
  simpa using h

theorem extract_one (r : ByteArray) : bytes (r.extract 1 r.size) = (bytes r).drop 1 := by
  rw [bytes, Lib.extract_data, List.take_of_length_le]
  · rfl
  · simp

theorem drewN_again {w wr : World} (h : ∃ q, wr = w.drewN q) (n : Nat) : ∃ q, wr.drewN n = w.drewN q := by
  obtain ⟨q, rfl⟩ := h
  exact ⟨q + n, by simp⟩

/-- What readDigits answers. -/
def DigPost (l : List UInt8) (e : Ending) : Prop := (GoodDec l ∧ e = .returned (.tuple #[.int .u64 (decVal l), .bool true])) ∨ (¬ GoodDec l ∧ e = .returned (.tuple #[.int .u64 0, .bool false]))

end Go.Proofs.YtjgggmjjikopeaaGreatDoor
