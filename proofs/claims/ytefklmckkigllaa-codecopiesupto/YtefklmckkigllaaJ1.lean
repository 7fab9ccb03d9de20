/- Joined texts of the proof. -/
import Derived.WalkKit
import Derived.Test.YtefklmckkigllaaRows
import Derived.WalkSpells
import Derived.BigQuiet
import Derived.Deep.QuietTactic
import Derived.Deep.WholeRow
import Derived.Deep.RegionHeld3
import Derived.Deep.MidRow
import Derived.Laws.FloatArith
import Derived.WalkLawsBesides
import Derived.WalkSmall

/- The plain functions of bytes, numbers and digits that the contracts speak of, and small facts about them: no program is named here. -/
namespace Go.Proofs.Ytefklmckkigllaa

/-- A byte as a cell holds it. -/
def B8 (b : UInt8) : Value := .int .u8 (b.toNat : Int)

/-- The byte of a number. -/
def ub (n : Nat) : UInt8 := UInt8.ofNat n

theorem ub_toNat (n : Nat) (h : n < 256) : (ub n).toNat = n := by simp [ub]; omega

end Go.Proofs.Ytefklmckkigllaa

/- Small laws for walks over slices of bytes: an append of one byte to a row that the call itself made. -/
namespace Go.Proofs.Ytefklmckkigllaa
open Go.RowKit

theorem Try.info5 : (Try.prog.info? 5).map (fun i => (i.zero, i.size, i.bytes)) = some (some (.int .u8 0), 1, 1) := by kernel_rfl

/-- The call's own row of bytes. -/
def Own (base : Nat) (w : World) (v : Value) (out : List UInt8) : Prop := w.ownsRow base 5 1 v out.length (out.map B8)

theorem Own.nil (base : Nat) (w : World) : Own base w (.slice none 0 0) [] := World.ownsRow_nil _ _ _ _

theorem Own.block {base : Nat} {w : World} {v : Value} {out : List UInt8} (h : Own base w v out) : ∀ k, v.ownBlock = some k → base ≤ k := by
  intro k hk
  obtain ⟨_, ⟨rfl, _⟩ | ⟨g, cap, cur, rfl, hg, _⟩⟩ := h
  · simp [Value.ownBlock] at hk
  · simp [Value.ownBlock] at hk
    omega

/-- 'out = append(out, b)'. -/
theorem app1 {ops : Array Oper} {rest : List Oper} {o : Oper} {a : Act} {Q : Exit → Act → World → Prop} {w0 : World} (s x : Operand) (z : Int) (b : UInt8) (base : Nat) (v : Value) (out : List UInt8)
    (hgd : o.guard = none) (ho : o.op = .call { callee := .builtin .append, args := #[s, x], argTypes := #[42, 42] })
    (hs : a.eval s = v) (hx : a.eval x = .slice (some ⟨w0.heap.size, 0, none⟩) 1 1) (hown : Own base w0 v out) (hz : z = (b.toNat : Int)) (hlen : out.length ≤ 1099511627776) (hbase : base ≤ w0.heap.size)
    (h : ∀ v' w', Own base w' v' (out ++ [b]) → Below base w0 w' → wpList Try.prog ops Q rest (a.put o.dst v') w') :
    wpList Try.prog ops Q (o :: rest) a (w0.alloc (.cells #[.int .u8 z] 5)) := by
  obtain ⟨i0, hi, hz0, hz1, hz2⟩ := info_parts Try.info5
  refine wpList_append_own (w := w0.alloc (.cells #[.int .u8 z] 5)) hgd s x 42 ho base 5 i0 (.int .u8 0) 1 1 Try.underlying42 hi hz0 hz1 hz2 rfl (by decide) v out.length (out.map B8) hs (World.ownsRow.alloc hown _)
    ⟨w0.heap.size, 0, none⟩ 1 1 [.int .u8 z] hx rfl ?c1 ?c2 ?c3 ?c4 ?c5 ?_
  case c1 =>
    intro j u hj
    match j, hj with
    | 0, hj => simp at hj; subst hj; simp [Addr.add]
  case c2 => intro u hu; simp at hu; subst hu; rfl
  case c3 => unfold maxLen; omega
  case c4 => omega
  case c5 => simp; omega
  intro v' w' h1 h2 _
  refine h v' w' ?_ ?_
  · subst hz
    simpa [Own, B8] using h1
  · exact ((Below.refl base w0).alloc hbase _).grown h2 (by simp; omega) hown.block

/-- The same, the byte told by its number. -/
theorem app1n {ops : Array Oper} {rest : List Oper} {o : Oper} {a : Act} {Q : Exit → Act → World → Prop} {w0 : World} (s x : Operand) (z : Int) (k : Nat) (base : Nat) (v : Value) (out : List UInt8)
    (hgd : o.guard = none) (ho : o.op = .call { callee := .builtin .append, args := #[s, x], argTypes := #[42, 42] })
    (hs : a.eval s = v) (hx : a.eval x = .slice (some ⟨w0.heap.size, 0, none⟩) 1 1) (hown : Own base w0 v out) (hk : k < 256) (hz : z = (k : Int)) (hlen : out.length ≤ 1099511627776) (hbase : base ≤ w0.heap.size)
    (h : ∀ v' w', Own base w' v' (out ++ [ub k]) → Below base w0 w' → wpList Try.prog ops Q rest (a.put o.dst v') w') :
    wpList Try.prog ops Q (o :: rest) a (w0.alloc (.cells #[.int .u8 z] 5)) :=
  app1 s x z (ub k) base v out hgd ho hs hx hown (by rw [ub_toNat k hk]; exact hz) hlen hbase h

/-- What a slice of bytes that is read is known by: it has no bytes; or it leads to plain cells that hold them. -/
def Row (w : World) (a : Option Addr) (bs : List UInt8) : Prop :=
  bs = [] ∨ ∃ b off, a = some ⟨b, off, none⟩ ∧ ∀ j, j < bs.length → w.cell? ⟨b, off + j, none⟩ = some (.int .u8 ((bs.getD j 0).toNat : Int))

theorem lt_of_cell {w : World} {p : Addr} {v : Value} (h : w.cell? p = some v) : p.block < w.heap.size := by
  unfold World.cell? at h
  by_cases hp : p.block < w.heap.size
  · exact hp
  · rw [Array.getElem?_eq_none (by omega)] at h; simp at h

theorem Row.below {w w' : World} {a : Option Addr} {bs : List UInt8} (h : Row w a bs) (hb : Below w.heap.size w w') : Row w' a bs := by
  rcases h with h | ⟨b, off, rfl, hc⟩
  · exact .inl h
  · exact .inr ⟨b, off, rfl, fun j hj => by rw [hb.cell (lt_of_cell (hc j hj))]; exact hc j hj⟩

theorem Own.row {base : Nat} {w : World} {v : Value} {out : List UInt8} (h : Own base w v out) : ∃ a cap, v = .slice a out.length cap ∧ out.length ≤ cap ∧ cap ≤ maxLen ∧ Row w a out := by
  obtain ⟨h1, ⟨rfl, h0⟩ | ⟨g, cap, cur, rfl, hg, hh, hc, hm, hs, ht⟩⟩ := h
  · have : out = [] := List.length_eq_zero_iff.1 h0
    subst this
    exact ⟨none, 0, rfl, Nat.le_refl _, Nat.zero_le _, .inl rfl⟩
  · refine ⟨_, cap, rfl, hc, hm, .inr ⟨g, 0, rfl, fun j hj => ?_⟩⟩
    simp only [World.cell?, hh]
    have e1 : (cur.toList.take (out.length * 1))[j]? = some (B8 (out.getD j 0)) := by
      rw [ht]
      simp [List.getElem?_map, List.getElem?_eq_getElem hj, List.getD]
    rw [List.getElem?_take_of_lt (by omega)] at e1
    simpa [B8] using e1

end Go.Proofs.Ytefklmckkigllaa

/- Blocks of arrays and structs as lists of cells, and steps of a walk over whole ones: the world behind a step is a letter, with what is known of it. -/
namespace Go.Proofs.Ytefklmckkigllaa
open Go.RowKit
set_option linter.unusedVariables false

/-- A block of any type, its cells known. -/
def At (t : TypeId) (w : World) (g : Nat) (cs : List Value) : Prop := w.heap[g]? = some (.cells cs.toArray t (0, 0))

section
variable {t : TypeId} {w : World} {g : Nat} {cs : List Value}
theorem At.cell (h : At t w g cs) (i : Nat) : w.cell? ⟨g, i, none⟩ = cs[i]? := by
  simp [World.cell?, show w.heap[g]? = _ from h]
theorem At.frozen (h : At t w g cs) (i : Nat) : w.frozen? ⟨g, i, none⟩ = false := by
  simp [World.frozen?, show w.heap[g]? = _ from h]
theorem At.lt (h : At t w g cs) : g < w.heap.size := by
  rcases Nat.lt_or_ge g w.heap.size with hlt | hge
  · exact hlt
  · unfold At at h; rw [Array.getElem?_eq_none hge] at h; simp at h
theorem At.set (h : At t w g cs) (i : Nat) (v : Value) : At t (w.setCell ⟨g, i, none⟩ v) g (cs.set i v) := by
  have := heap_setCell_same w g i cs.toArray t v h
  unfold At
  rw [this]
  simp
theorem At.below {w' : World} (h : At t w g cs) (hb : Below w.heap.size w w') : At t w' g cs := by
  unfold At
  rw [hb.block g h.lt]
  exact h
theorem At.drewN (h : At t w g cs) (n : Nat) : At t (w.drewN n) g cs := h
theorem At.drew (h : At t w g cs) : At t w.drew g cs := h
end

/-- All blocks but one are as they were. -/
structure But (g : Nat) (w w' : World) : Prop where
  os : w'.os = w.os
  tape : w'.tape = w.tape
  output : w'.output = w.output
  size : w.heap.size ≤ w'.heap.size
  block : ∀ k, k < w.heap.size → k ≠ g → w'.heap[k]? = w.heap[k]?

theorem But.refl (g : Nat) (w : World) : But g w w := ⟨rfl, rfl, rfl, Nat.le_refl _, fun _ _ _ => rfl⟩
theorem But.trans {g : Nat} {a b c : World} (h : But g a b) (k : But g b c) : But g a c :=
  ⟨k.os.trans h.os, k.tape.trans h.tape, k.output.trans h.output, Nat.le_trans h.size k.size, fun i hi hn => (k.block i (Nat.lt_of_lt_of_le hi h.size) hn).trans (h.block i hi hn)⟩
theorem But.of_below {g : Nat} {w w' : World} (h : Below w.heap.size w w') : But g w w' := ⟨h.os, h.tape, h.output, h.size, fun k hk _ => h.block k hk⟩
theorem But.below {g B : Nat} {w0 w w' : World} (h : But g w w') (hb : Below B w0 w) (hB : B ≤ g) (hs : B ≤ w.heap.size) : Below B w0 w' :=
  ⟨h.os.trans hb.os, h.tape.trans hb.tape, h.output.trans hb.output, Nat.le_trans hb.size h.size, fun k hk => (h.block k (by omega) (by omega)).trans (hb.block k hk)⟩
theorem But.at {t : TypeId} {g k : Nat} {w w' : World} {cs : List Value} (h : But g w w') (ha : At t w k cs) (hn : k ≠ g) : At t w' k cs := by
  unfold At
  rw [h.block k ha.lt hn]
  exact ha
theorem But.drewN {g : Nat} {a w : World} (h : But g a w) (n : Nat) : But g a (w.drewN n) := ⟨h.os, h.tape, h.output, h.size, h.block⟩
theorem But.setCell {g : Nat} {a w : World} (h : But g a w) (i : Nat) (v : Value) : But g a (w.setCell ⟨g, i, none⟩ v) :=
  ⟨h.os, h.tape, h.output, by simpa using h.size, fun k hk hn => by rw [heap_setCell_other w ⟨g, i, none⟩ k v hn]; exact h.block k hk hn⟩
theorem But.row {g : Nat} {w w' : World} (h : But g w w') {a : Option Addr} {bs : List UInt8} (hr : Row w a bs) (hn : ∀ b off, a = some ⟨b, off, none⟩ → b ≠ g) : Row w' a bs := by
  rcases hr with hr | ⟨b, off, rfl, hc⟩
  · exact .inl hr
  · exact .inr ⟨b, off, rfl, fun j hj => by rw [World.cell?_of_block (w := w) (h.block b (lt_of_cell (hc j hj)) (hn b off rfl))]; exact hc j hj⟩
section
variable {P : Program} {ops : Array Oper} {rest : List Oper} {o : Oper} {a : Act} {w : World} {Q : Exit → Act → World → Prop}

/-- A whole array or struct is laid into a new block. -/
theorem wpList_box_at (hgd : o.guard = none) (t : TypeId) (x : Operand) (ho : o.op = .box t x) (cs : List Value) (hx : a.eval x = .agg cs.toArray)
    (h : ∀ w', At t w' w.heap.size cs → Below w.heap.size w w' → w'.heap.size = w.heap.size + 1 → wpList P ops Q rest (a.put o.dst (.pointer (some ⟨w.heap.size, 0, none⟩))) w') :
    wpList P ops Q (o :: rest) a w := by
  refine wpList_plain hgd fun K hK => ?_
  have := hK _ _ (h (w.alloc (.cells cs.toArray t)) (_root_.Go.heap_alloc_new w _) ((Below.refl _ w).alloc (Nat.le_refl _) _) (by show (w.heap.push _).size = _; simp))
  unfold Oper.wp execOp
  simp only [ho, hx, Instr.box, Sem.run_bind]
  simpa [newVar, go_sem, Value.cells] using this

/-- A new block with the zero value of its type. -/
theorem wpList_alloc_at (hgd : o.guard = none) (t : TypeId) (ho : o.op = .alloc t) (cs : List Value) (n : Nat) (hz : (P.info? t).map (fun i => (i.zero, i.size)) = some (some (.agg cs.toArray), n))
    (h : ∀ w', At t w' w.heap.size cs → Below w.heap.size w w' → w'.heap.size = w.heap.size + 1 → wpList P ops Q rest (a.put o.dst (.pointer (some ⟨w.heap.size, 0, none⟩))) w') :
    wpList P ops Q (o :: rest) a w := by
  refine wpList_plain hgd fun K hK => ?_
  have := hK _ _ (h (w.alloc (.cells cs.toArray t)) (_root_.Go.heap_alloc_new w _) ((Below.refl _ w).alloc (Nat.le_refl _) _) (by show (w.heap.push _).size = _; simp))
  have h0 := (zero_of_info hz).1
  unfold Oper.wp execOp
  simp only [ho, Instr.alloc, Sem.run_bind, h0]
  simpa [newVar, go_sem, Value.cells] using this

/-- A whole array or struct is stored into a block that holds one. -/
theorem wpList_store_at (hgd : o.guard = none) (ty : TypeId) (x y : Operand) (ho : o.op = .store ty x y)
    (g : Nat) (cs : List Value) (hx : a.eval x = .pointer (some ⟨g, 0, none⟩)) (hy : a.eval y = .agg cs.toArray)
    (t : TypeId) (old : List Value) (hg : At t w g old) (hi : (P.info? ty).map (·.size) = some cs.length) (hold : old.length = cs.length) (h1 : ∀ v ∈ cs, v.oneCell' = true)
    (h : ∀ w', At t w' g cs → But g w w' → w'.heap.size = w.heap.size → wpList P ops Q rest (a.put o.dst undef) w') : wpList P ops Q (o :: rest) a w := by
  refine wpList_store_row hgd ty x y ho g cs.toArray hx hy t old.toArray hg (by simpa using hi) (by simpa using hold) (by simpa using h1) ?_
  refine h _ (setRow_heap w g _ _ t _ hg) ⟨rfl, rfl, rfl, by simp, fun k _ hn => setRow_other w g k _ hn⟩ (by simp)

/-- A whole array or struct is made. -/
theorem wpList_build_at (hgd : o.guard = none) (t : TypeId) (parts : Array (Nat × Operand)) (ho : o.op = .build t parts) (cs : List Value)
    (hb : P.built t (parts.map fun (i, x) => (i, a.eval x)).toList = some cs.toArray)
    (h : wpList P ops Q rest (a.put o.dst (.agg cs.toArray)) w) : wpList P ops Q (o :: rest) a w :=
  wpList_build hgd t parts ho (by rw [hb]; rfl) (by rw [hb]; exact h)

/-- A whole array or struct is read. -/
theorem wpList_load_at (hgd : o.guard = none) (ty : TypeId) (x : Operand) (ho : o.op = .load ty x)
    (g : Nat) (hx : a.eval x = .pointer (some ⟨g, 0, none⟩)) (t : TypeId) (cs : List Value) (hg : At t w g cs) (d : TypeDesc)
    (hu : P.underlying ty = some d) (hd : (match d with | .struct _ | .array _ _ => true | _ => false) = true) (hi : (P.info? ty).map (·.size) = some cs.length)
    (h : wpList P ops Q rest (a.put o.dst (.agg cs.toArray)) w) : wpList P ops Q (o :: rest) a w :=
  wpList_load_row hgd ty x ho g hx t cs.toArray (0, 0) d hg hu hd (by simpa using hi) h
end

theorem At.range {t : TypeId} {w : World} {g : Nat} {cs : List Value} (h : At t w g cs) (o n : Nat) : w.rangeAt g o ((cs.drop o).take n) := by
  intro j v hj
  rw [h.cell]
  rw [List.getElem?_take] at hj
  split at hj
  · rw [List.getElem?_drop] at hj; exact hj
  · simp at hj

theorem At.there {t : TypeId} {w : World} {g : Nat} {cs : List Value} (h : At t w g cs) (o n : Nat) (hn : o + n ≤ cs.length) : w.there g o n := by
  intro j hj
  rw [h.cell, h.frozen]
  simp
  omega

theorem results_at {P : Program} {fn : Func} {p : Tmp} {ty : TypeId} (h : fn.results = #[.cell p ty]) (tmps : Array Value) (w : World) (g : Nat) (t : TypeId) (cs : List Value) (d : TypeDesc)
    (hp : tmps.getD p undef = .pointer (some ⟨g, 0, none⟩)) (hg : At t w g cs)
    (hu : P.underlying ty = some d) (hd : (match d with | .struct _ | .array _ _ => true | _ => false) = true) (hi : (P.info? ty).map (·.size) = some cs.length) :
    (results fn tmps).run P w = .ok (.agg cs.toArray) w :=
  results_cell_row h tmps w g t cs.toArray (0, 0) d hp hg hu hd (by simpa using hi)
end Go.Proofs.Ytefklmckkigllaa

/- Reals by their bits: what a float64's word stands for, and what the four operations and the comparisons tell, as plain functions of words: no program is named here. -/
namespace Go.Proofs.Ytefklmckkigllaa
open Ieee
set_option linter.unusedVariables false

/-- float64. -/
abbrev D : Format := Ieee.double

/-- The one NaN's bits. -/
def NAN : Nat := 9221120237041090560

/-- A word that is a NaN. -/
def isNan (b : Nat) : Bool := decide (9218868437227405312 < b % 9223372036854775808)

/-- Bits brought home. -/
def home (b : Nat) : Nat := if isNan b then NAN else b

theorem read_eq (b : Nat) : D.read b =
    if b % 9223372036854775808 < 4503599627370496 then .number (b / 9223372036854775808 % 2 == 1) (b % 9223372036854775808) (-1074)
    else if b % 9223372036854775808 < 9218868437227405312 then .number (b / 9223372036854775808 % 2 == 1) (4503599627370496 + b % 9223372036854775808 % 4503599627370496) (-1074 + (b % 9223372036854775808 / 4503599627370496 - 1 : Nat))
    else if b % 9223372036854775808 = 9218868437227405312 then .infinity (b / 9223372036854775808 % 2 == 1)
    else .nan (b / 9223372036854775808 % 2 == 1) (b % 9223372036854775808 - 9218868437227405312) := rfl

theorem read_nan {b : Nat} (h : isNan b = true) : ∃ s t, D.read b = .nan s t := by
  simp only [isNan, decide_eq_true_eq] at h
  rw [read_eq, if_neg (by omega), if_neg (by omega), if_neg (by omega)]
  exact ⟨_, _, rfl⟩

theorem read_real {b : Nat} (h : isNan b = false) : (∃ s m e, D.read b = .number s m e) ∨ (∃ s, D.read b = .infinity s) := by
  simp only [isNan, decide_eq_false_iff_not] at h
  rw [read_eq]
  split
  · exact .inl ⟨_, _, _, rfl⟩
  · split
    · exact .inl ⟨_, _, _, rfl⟩
    · rw [if_pos (by omega)]; exact .inr ⟨_, rfl⟩

theorem order_self (b : Nat) : D.order b b = if isNan b then none else some .eq := by
  cases h : isNan b
  · rcases read_real h with ⟨s, m, e, hr⟩ | ⟨s, hr⟩
    · simp [Format.order, hr, Datum.order]
    · simp [Format.order, hr, Datum.order]
  · obtain ⟨s, t, hr⟩ := read_nan h
    simp [Format.order, hr, Datum.order]

/-- 'x != x'. -/
theorem neq_self (b : Nat) : (D.order b b != some .eq) = isNan b := by
  rw [order_self]; cases isNan b <;> rfl
theorem home_nan {b : Nat} (h : isNan b = true) : home b = NAN := by simp [home, h]
theorem home_real {b : Nat} (h : isNan b = false) : home b = b := by simp [home, h]
theorem home_lt {b : Nat} (h : b < 18446744073709551616) : home b < 18446744073709551616 := by
  unfold home; split
  · decide
  · exact h

/-- What is told where an operation has an answer, and the one NaN where it has none. -/
def told (r : Option Nat) : Nat := match r with
  | some x => home x
  | none => NAN

end Go.Proofs.Ytefklmckkigllaa

/- real's small functions, and the document's own: what they tell, as plain functions of words. -/
namespace Go.Proofs.Ytefklmckkigllaa
open Go.RowKit
set_option linter.unusedVariables false

theorem nat_beq (a b : Nat) : ((a : Int) == (b : Int)) = (a == b) := by
  rw [Bool.eq_iff_iff]
  simp only [beq_iff_eq]
  omega

theorem cf_bits (b : Nat) : ∀ w, Sem.run Try.prog (callFunc 90 #[.float .f64 b]) w = .ok (.value (.int .u64 b)) w := fun w => by
  rw [run_callFunc_extern Try.func90 (by kernel_rfl) (by kernel_rfl) (by kernel_rfl) (e := Extern.MathFloatBits.float64bits) (by kernel_rfl)]
  rfl

theorem cf_from (b : Nat) : ∀ w, Sem.run Try.prog (callFunc 89 #[.int .u64 (b : Int)]) w = .ok (.value (.float .f64 b)) w := fun w => by
  rw [run_callFunc_extern Try.func89 (by kernel_rfl) (by kernel_rfl) (by kernel_rfl) (e := Extern.MathFloatBits.float64frombits) (by kernel_rfl)]
  rfl

theorem bitsOf_any (b : Nat) (w : World) : Calls Try.prog 88 #[.float .f64 b] w fun e w' => e = .returned (.int .u64 (home b : Nat)) ∧ w' = w := by
  have hcf := cf_bits b
  have hneq : (FloatKind.f64.format.order b b != some .eq) = isNan b := neq_self b
  cases h : isNan b
  · rw [home_real h]
    rw [h] at hneq
    go_enter Try.func88, Try.ntmps88
    go_wp2
    go_ret
    exact ⟨rfl, rfl⟩
  · rw [home_nan h]
    rw [h] at hneq
    go_enter Try.func88, Try.ntmps88
    go_wp2
    go_ret
    exact ⟨rfl, rfl⟩

theorem canon_any (b : Nat) (w : World) : Calls Try.prog 81 #[.int .u64 (b : Int)] w fun e w' => e = .returned (.int .u64 (home b : Nat)) ∧ w' = w := by
  have hcf := cf_from b
  go_enter Try.func81, Try.ntmps81
  go_wp2_with fail
  refine (bitsOf_any b _).mono ?_
  rintro e w1 ⟨rfl, rfl⟩
  go_wp2
  go_ret
  exact ⟨rfl, rfl⟩

theorem may_any (b : Nat) (w : World) (h : b < 18446744073709551616) : Calls Try.prog 68 #[.int .u64 (b : Int)] w fun e w' => e = .returned (.bool (home b == b)) ∧ w' = w := by
  have hh := home_lt h
  go_enter Try.func68, Try.ntmps68
  go_wp2_with fail
  refine (canon_any b _).mono ?_
  rintro e w1 ⟨rfl, rfl⟩
  go_wp2
  go_ret
  exact ⟨by rw [← nat_beq]; rfl, rfl⟩

end Go.Proofs.Ytefklmckkigllaa

/- Codes as data, and where they lie. -/
namespace Go.Proofs.Ytefklmckkigllaa
open Go.RowKit
set_option linter.unusedVariables false

/-- What the walk must not see. -/
theorem hidU {p : Prop} (h : p) : Hid p := h

/-- A value. -/
structure Vl where
  t : Nat
  b : Nat
  deriving DecidableEq
def Vl.cells (v : Vl) : List Value := [.int .u8 (v.t : Int), .int .u64 (v.b : Int)]
def Vl.Ok (v : Vl) : Prop := v.t < 256 ∧ v.b < 18446744073709551616

/-- A number that an int holds. -/
def I64 (z : Int) : Prop := -9223372036854775808 ≤ z ∧ z ≤ 9223372036854775807

/-- An instruction. -/
structure Ir where
  op : Nat
  arg : Int
  v : Vl
  deriving DecidableEq
def Ir.cells (x : Ir) : List Value := [.int .u8 (x.op : Int), .int .i64 x.arg, .int .u8 (x.v.t : Int), .int .u64 (x.v.b : Int)]
def Ir.Ok (x : Ir) : Prop := x.op < 256 ∧ I64 x.arg ∧ x.v.Ok

/-- A node, a body, a code, as data. -/
structure Nd where
  code : List Ir
  kind : Int
  arg : Int
  next : Int
  alt : Int
  deriving DecidableEq
structure Bd where
  locals : List Vl
  stack : Int
  nodes : List Nd
  deriving DecidableEq
structure Cd where
  shared : List Vl
  mutexes : Int
  bodies : List Bd
  deriving DecidableEq

/-- With where their lists lie. -/
structure NT where
  a : Option Addr
  c : Nat
  nd : Nd
structure BT where
  a1 : Option Addr
  c1 : Nat
  locals : List Vl
  stack : Int
  a2 : Option Addr
  c2 : Nat
  nodes : List NT
structure CT where
  a1 : Option Addr
  c1 : Nat
  shared : List Vl
  mutexes : Int
  a2 : Option Addr
  c2 : Nat
  bodies : List BT
def NT.cells (x : NT) : List Value := [.slice x.a x.nd.code.length x.c, .int .i64 x.nd.kind, .int .i64 x.nd.arg, .int .i64 x.nd.next, .int .i64 x.nd.alt]
def BT.cells (x : BT) : List Value := [.slice x.a1 x.locals.length x.c1, .int .i64 x.stack, .slice x.a2 x.nodes.length x.c2]
def CT.cells (x : CT) : List Value := [.slice x.a1 x.shared.length x.c1, .int .i64 x.mutexes, .slice x.a2 x.bodies.length x.c2]
def BT.bd (x : BT) : Bd := ⟨x.locals, x.stack, x.nodes.map NT.nd⟩
def CT.cd (x : CT) : Cd := ⟨x.shared, x.mutexes, x.bodies.map BT.bd⟩

/-- A row of such, so many cells each. -/
def RowG {α : Type} (cells : α → List Value) (n : Nat) (P : α → Prop) (B : Nat) (w : World) (a : Option Addr) (c : Nat) (ks : List α) : Prop :=
  ks.length ≤ 1048576 ∧ ks.length ≤ c ∧ (ks = [] ∨ ∃ g o, a = some ⟨g, o, none⟩ ∧ g < B ∧ ∀ i k, ks[i]? = some k → w.rangeAt g (o + i * n) (cells k) ∧ P k)

abbrev RowVl (B : Nat) (w : World) (a : Option Addr) (c : Nat) (ks : List Vl) : Prop := RowG Vl.cells 2 Vl.Ok B w a c ks
abbrev RowIr (B : Nat) (w : World) (a : Option Addr) (c : Nat) (ks : List Ir) : Prop := RowG Ir.cells 4 Ir.Ok B w a c ks
def NT.In (B : Nat) (w : World) (x : NT) : Prop := RowIr B w x.a x.c x.nd.code ∧ I64 x.nd.kind ∧ I64 x.nd.arg ∧ I64 x.nd.next ∧ I64 x.nd.alt
abbrev RowNT (B : Nat) (w : World) (a : Option Addr) (c : Nat) (ks : List NT) : Prop := RowG NT.cells 5 (NT.In B w) B w a c ks
def BT.In (B : Nat) (w : World) (x : BT) : Prop := RowVl B w x.a1 x.c1 x.locals ∧ I64 x.stack ∧ RowNT B w x.a2 x.c2 x.nodes
abbrev RowBT (B : Nat) (w : World) (a : Option Addr) (c : Nat) (ks : List BT) : Prop := RowG BT.cells 3 (BT.In B w) B w a c ks
def CT.In (B : Nat) (w : World) (x : CT) : Prop := RowVl B w x.a1 x.c1 x.shared ∧ I64 x.mutexes ∧ RowBT B w x.a2 x.c2 x.bodies

/-- Blocks below B stand. -/
def Old (B : Nat) (w w' : World) : Prop := ∀ k, k < B → w'.heap[k]? = w.heap[k]?
theorem Old.of_below {B C : Nat} {w w' : World} (h : Below C w w') (hB : B ≤ C) : Old B w w' := fun k hk => h.block k (by omega)
theorem Old.refl (B : Nat) (w : World) : Old B w w := fun _ _ => rfl
theorem Old.trans {B : Nat} {a b c : World} (h : Old B a b) (k : Old B b c) : Old B a c := fun i hi => (k i hi).trans (h i hi)
theorem Old.range {B g o : Nat} {w w' : World} {cs : List Value} (h : Old B w w') (hg : g < B) (hr : w.rangeAt g o cs) : w'.rangeAt g o cs := fun j v hj => by
  rw [World.cell?_of_block (w := w) (w' := w') (h _ hg)]
  exact hr j v hj

theorem RowG.imp {α : Type} {cells : α → List Value} {n : Nat} {P Q : α → Prop} {B : Nat} {w w' : World} {a : Option Addr} {c : Nat} {ks : List α} (h : RowG cells n P B w a c ks) (hO : Old B w w') (hP : ∀ k, P k → Q k) : RowG cells n Q B w' a c ks := by
  obtain ⟨h1, h2, h | ⟨g, o, ha, hg, hr⟩⟩ := h
  · exact ⟨h1, h2, .inl h⟩
  · exact ⟨h1, h2, .inr ⟨g, o, ha, hg, fun i v hv => ⟨hO.range hg (hr i v hv).1, hP v (hr i v hv).2⟩⟩⟩
theorem RowG.up {α : Type} {cells : α → List Value} {n : Nat} {P Q : α → Prop} {B B' : Nat} {w : World} {a : Option Addr} {c : Nat} {ks : List α} (h : RowG cells n P B w a c ks) (hB : B ≤ B') (hP : ∀ k, P k → Q k) : RowG cells n Q B' w a c ks := by
  obtain ⟨h1, h2, h | ⟨g, o, ha, hg, hr⟩⟩ := h
  · exact ⟨h1, h2, .inl h⟩
  · exact ⟨h1, h2, .inr ⟨g, o, ha, by omega, fun i v hv => ⟨(hr i v hv).1, hP v (hr i v hv).2⟩⟩⟩
theorem RowVl.old {B : Nat} {w w' : World} {a : Option Addr} {c : Nat} {ks : List Vl} (h : RowVl B w a c ks) (hO : Old B w w') : RowVl B w' a c ks := RowG.imp h hO fun _ h => h
theorem RowIr.old {B : Nat} {w w' : World} {a : Option Addr} {c : Nat} {ks : List Ir} (h : RowIr B w a c ks) (hO : Old B w w') : RowIr B w' a c ks := RowG.imp h hO fun _ h => h
theorem NT.In.old {B : Nat} {w w' : World} {x : NT} (h : x.In B w) (hO : Old B w w') : x.In B w' := ⟨h.1.old hO, h.2⟩
theorem RowNT.old {B : Nat} {w w' : World} {a : Option Addr} {c : Nat} {ks : List NT} (h : RowNT B w a c ks) (hO : Old B w w') : RowNT B w' a c ks := RowG.imp h hO fun _ h => h.old hO
theorem BT.In.old {B : Nat} {w w' : World} {x : BT} (h : x.In B w) (hO : Old B w w') : x.In B w' := ⟨h.1.old hO, h.2.1, h.2.2.old hO⟩
theorem RowBT.old {B : Nat} {w w' : World} {a : Option Addr} {c : Nat} {ks : List BT} (h : RowBT B w a c ks) (hO : Old B w w') : RowBT B w' a c ks := RowG.imp h hO fun _ h => h.old hO
theorem CT.In.old {B : Nat} {w w' : World} {x : CT} (h : x.In B w) (hO : Old B w w') : x.In B w' := ⟨h.1.old hO, h.2.1, h.2.2.old hO⟩
theorem NT.In.up {B B' : Nat} {w : World} {x : NT} (h : x.In B w) (hB : B ≤ B') : x.In B' w := ⟨RowG.up h.1 hB fun _ h => h, h.2⟩
theorem BT.In.up {B B' : Nat} {w : World} {x : BT} (h : x.In B w) (hB : B ≤ B') : x.In B' w := ⟨RowG.up h.1 hB fun _ h => h, h.2.1, RowG.up h.2.2 hB fun _ h => h.up hB⟩
theorem CT.In.up {B B' : Nat} {w : World} {x : CT} (h : x.In B w) (hB : B ≤ B') : x.In B' w := ⟨RowG.up h.1 hB fun _ h => h, h.2.1, RowG.up h.2.2 hB fun _ h => h.up hB⟩

theorem RowG.at {α : Type} {cells : α → List Value} {n : Nat} {P : α → Prop} {B : Nat} {w : World} {a : Option Addr} {c : Nat} {ks : List α} (h : RowG cells n P B w a c ks) (i : Nat) (k : α) (hk : ks[i]? = some k) : ∃ g o, a = some ⟨g, o, none⟩ ∧ g < B ∧ w.rangeAt g (o + i * n) (cells k) ∧ P k := by
  obtain ⟨_, _, h | ⟨g, o, ha, hg, hr⟩⟩ := h
  · rw [h] at hk; simp at hk
  · exact ⟨g, o, ha, hg, (hr i k hk).1, (hr i k hk).2⟩
theorem RowG.all {α : Type} {cells : α → List Value} {n : Nat} {P : α → Prop} {B : Nat} {w : World} {a : Option Addr} {c : Nat} {ks : List α} (h : RowG cells n P B w a c ks) : ∀ k ∈ ks, P k := by
  intro k hk
  obtain ⟨i, hi⟩ := List.getElem?_of_mem hk
  obtain ⟨_, _, _, _, _, hp⟩ := h.at i k hi
  exact hp

theorem Vl.one (v : Vl) : ∀ x ∈ v.cells, x.oneCell' = true := by
  intro x hx; simp [Vl.cells] at hx; rcases hx with rfl | rfl <;> rfl
theorem Ir.one (v : Ir) : ∀ x ∈ v.cells, x.oneCell' = true := by
  intro x hx; simp [Ir.cells] at hx; rcases hx with rfl | rfl | rfl | rfl <;> rfl
theorem NT.one (v : NT) : ∀ x ∈ v.cells, x.oneCell' = true := by
  intro x hx; simp [NT.cells] at hx; rcases hx with rfl | rfl | rfl | rfl | rfl <;> rfl
theorem BT.one (v : BT) : ∀ x ∈ v.cells, x.oneCell' = true := by
  intro x hx; simp [BT.cells] at hx; rcases hx with rfl | rfl | rfl <;> rfl
theorem CT.one (v : CT) : ∀ x ∈ v.cells, x.oneCell' = true := by
  intro x hx; simp [CT.cells] at hx; rcases hx with rfl | rfl | rfl <;> rfl

theorem i35 : (Try.prog.info? 35).map (·.size) = some 2 := by kernel_rfl
theorem z35 : (Try.prog.info? 35).map (fun i => (i.zero, i.size)) = some (some (.agg (Vl.cells ⟨0, 0⟩).toArray), 2) := by kernel_rfl
theorem i37 : (Try.prog.info? 37).map (·.size) = some 4 := by kernel_rfl
theorem z37 : (Try.prog.info? 37).map (fun i => (i.zero, i.size)) = some (some (.agg (Ir.cells ⟨0, 0, ⟨0, 0⟩⟩).toArray), 4) := by kernel_rfl
theorem i49 : (Try.prog.info? 49).map (·.size) = some 5 := by kernel_rfl
theorem z49 : (Try.prog.info? 49).map (fun i => (i.zero, i.size)) = some (some (.agg (NT.cells ⟨none, 0, ⟨[], 0, 0, 0, 0⟩⟩).toArray), 5) := by kernel_rfl
theorem i45 : (Try.prog.info? 45).map (·.size) = some 3 := by kernel_rfl
theorem z45 : (Try.prog.info? 45).map (fun i => (i.zero, i.size)) = some (some (.agg (BT.cells ⟨none, 0, [], 0, none, 0, []⟩).toArray), 3) := by kernel_rfl
theorem i25 : (Try.prog.info? 25).map (·.size) = some 3 := by kernel_rfl
theorem z25 : (Try.prog.info? 25).map (fun i => (i.zero, i.size)) = some (some (.agg (CT.cells ⟨none, 0, [], 0, none, 0, []⟩).toArray), 3) := by kernel_rfl
end Go.Proofs.Ytefklmckkigllaa

/- Small questions: places, values, fetches. -/
namespace Go.Proofs.Ytefklmckkigllaa
open Go.RowKit
set_option linter.unusedVariables false

/-- A number from 0 on below another one. -/
def isP (n m : Int) : Bool := decide (0 ≤ n) && decide (n < m)
theorem isPlace_any (n m : Int) (w : World) : Calls Try.prog 45 #[.int .i64 n, .int .i64 m] w fun e w' => e = .returned (.bool (isP n m)) ∧ w' = w := by
  unfold isP
  by_cases h : 0 ≤ n
  · rw [decide_eq_true h, Bool.true_and]
    go_enter Try.func45, Try.ntmps45
    go_wp2
    go_ret
    exact ⟨rfl, rfl⟩
  · rw [decide_eq_false h, Bool.false_and]
    go_enter Try.func45, Try.ntmps45
    go_wp2
    go_ret
    exact ⟨rfl, rfl⟩

/-- Whether a value may be. -/
def mayV (v : Vl) : Bool := decide (v.t = 1) || ((decide (v.t = 2) && decide (v.b ≤ 1)) || (decide (v.t = 3) && (home v.b == v.b)))

set_option maxRecDepth 100000 in
set_option maxHeartbeats 1600000 in
theorem mayValue_any (v : Vl) (hv : v.Ok) (w : World) : Calls Try.prog 47 #[.agg v.cells.toArray] w fun e w' => e = .returned (.bool (mayV v)) ∧ Below w.heap.size w w' := by
  obtain ⟨t, b⟩ := v
  obtain ⟨ht, hb⟩ := hv
  dsimp only at ht hb
  have hM := fun u => may_any b u hb
  simp only [Vl.cells]
  by_cases h1 : t = 1
  · have e : mayV ⟨t, b⟩ = true := by simp [mayV, h1]
    rw [e]
    have h1' : ((t : Int) == 1) = true := by rw [beq_iff_eq]; omega
    clear e h1 hM
    go_enter Try.func47, Try.ntmps47
    go_wp2_with (first
      | ((with_reducible show wpList _ _ _ _ _ _); refine wpList_box_at rfl 35 (.tmp 0) rfl [.int .u8 (t : Int), .int .u64 (b : Int)] rfl ?_; intro w1 hA1 hb1 hs1; clear hs1; refine Hid.out ?_))
    refine hidU ?_
    have c0 : w1.cell? ⟨w.heap.size, 0, none⟩ = some (.int .u8 (t : Int)) := by rw [hA1.cell]; rfl
    have c1 : w1.cell? ⟨w.heap.size, 1, none⟩ = some (.int .u64 (b : Int)) := by rw [hA1.cell]; rfl
    clear hA1
    go_wp2
    go_ret
    exact ⟨rfl, hb1⟩
  · have h1' : ((t : Int) == 1) = false := by rw [beq_eq_false_iff_ne]; omega
    by_cases h2 : t = 2
    · have e : mayV ⟨t, b⟩ = decide ((b : Int) ≤ 1) := by simp [mayV, h2]; omega
      rw [e]
      have h2' : ((t : Int) == 2) = true := by rw [beq_iff_eq]; omega
      have h3' : ((t : Int) == 3) = false := by rw [beq_eq_false_iff_ne]; omega
      clear e h1 h2 hM
      by_cases hle : (b : Int) ≤ 1
      · rw [decide_eq_true hle]
        go_enter Try.func47, Try.ntmps47
        go_wp2_with (first
          | ((with_reducible show wpList _ _ _ _ _ _); refine wpList_box_at rfl 35 (.tmp 0) rfl [.int .u8 (t : Int), .int .u64 (b : Int)] rfl ?_; intro w1 hA1 hb1 hs1; clear hs1; refine Hid.out ?_))
        refine hidU ?_
        have c0 : w1.cell? ⟨w.heap.size, 0, none⟩ = some (.int .u8 (t : Int)) := by rw [hA1.cell]; rfl
        have c1 : w1.cell? ⟨w.heap.size, 1, none⟩ = some (.int .u64 (b : Int)) := by rw [hA1.cell]; rfl
        clear hA1
        go_wp2
        go_ret
        exact ⟨rfl, hb1⟩
      · go_enter Try.func47, Try.ntmps47
        go_wp2_with (first
          | ((with_reducible show wpList _ _ _ _ _ _); refine wpList_box_at rfl 35 (.tmp 0) rfl [.int .u8 (t : Int), .int .u64 (b : Int)] rfl ?_; intro w1 hA1 hb1 hs1; clear hs1; refine Hid.out ?_))
        refine hidU ?_
        have c0 : w1.cell? ⟨w.heap.size, 0, none⟩ = some (.int .u8 (t : Int)) := by rw [hA1.cell]; rfl
        have c1 : w1.cell? ⟨w.heap.size, 1, none⟩ = some (.int .u64 (b : Int)) := by rw [hA1.cell]; rfl
        clear hA1
        go_wp2
        go_ret
        exact ⟨rfl, hb1⟩
    · have h2' : ((t : Int) == 2) = false := by rw [beq_eq_false_iff_ne]; omega
      by_cases h3 : t = 3
      · have e : mayV ⟨t, b⟩ = (home b == b) := by simp [mayV, h3]
        rw [e]
        have h3' : ((t : Int) == 3) = true := by rw [beq_iff_eq]; omega
        generalize (home b == b) = m at hM ⊢
        clear e h1 h2 h3
        go_enter Try.func47, Try.ntmps47
        go_wp2_with (first
          | ((with_reducible show wpList _ _ _ _ _ _); refine wpList_box_at rfl 35 (.tmp 0) rfl [.int .u8 (t : Int), .int .u64 (b : Int)] rfl ?_; intro w1 hA1 hb1 hs1; clear hs1; refine Hid.out ?_))
        refine hidU ?_
        have c0 : w1.cell? ⟨w.heap.size, 0, none⟩ = some (.int .u8 (t : Int)) := by rw [hA1.cell]; rfl
        have c1 : w1.cell? ⟨w.heap.size, 1, none⟩ = some (.int .u64 (b : Int)) := by rw [hA1.cell]; rfl
        clear hA1
        go_wp2_with (first
          | (go_at_call 68; refine (hM _).mono ?_; rintro r w2 ⟨rfl, rfl⟩))
        go_ret
        exact ⟨rfl, hb1⟩
      · have e : mayV ⟨t, b⟩ = false := by simp [mayV, h1, h2, h3]
        rw [e]
        have h3' : ((t : Int) == 3) = false := by rw [beq_eq_false_iff_ne]; omega
        clear e h1 h2 h3 hM
        go_enter Try.func47, Try.ntmps47
        go_wp2_with (first
          | ((with_reducible show wpList _ _ _ _ _ _); refine wpList_box_at rfl 35 (.tmp 0) rfl [.int .u8 (t : Int), .int .u64 (b : Int)] rfl ?_; intro w1 hA1 hb1 hs1; clear hs1; refine Hid.out ?_))
        refine hidU ?_
        have c0 : w1.cell? ⟨w.heap.size, 0, none⟩ = some (.int .u8 (t : Int)) := by rw [hA1.cell]; rfl
        have c1 : w1.cell? ⟨w.heap.size, 1, none⟩ = some (.int .u64 (b : Int)) := by rw [hA1.cell]; rfl
        clear hA1
        go_wp2
        go_ret
        exact ⟨rfl, hb1⟩

/-- An instruction that reads a shared variable. -/
def isF (x : Ir) : Bool := decide (x.op = 31)
theorem isFetch_any (x : Ir) (w : World) : Calls Try.prog 75 #[.agg x.cells.toArray] w fun e w' => e = .returned (.bool (isF x)) ∧ Below w.heap.size w w' := by
  obtain ⟨op, arg, ⟨t, b⟩⟩ := x
  have e : isF ⟨op, arg, ⟨t, b⟩⟩ = ((op : Int) == 31) := by rw [Bool.eq_iff_iff, beq_iff_eq, isF, decide_eq_true_iff]; dsimp only; omega
  rw [e]
  simp only [Ir.cells]
  go_enter Try.func75, Try.ntmps75
  go_wp2_with (first
    | ((with_reducible show wpList _ _ _ _ _ _); refine wpList_box_at rfl 37 (.tmp 0) rfl [.int .u8 (op : Int), .int .i64 arg, .int .u8 (t : Int), .int .u64 (b : Int)] rfl ?_; intro w1 hA1 hb1 hs1; clear hs1; refine Hid.out ?_))
  refine hidU ?_
  have c0 : w1.cell? ⟨w.heap.size, 0, none⟩ = some (.int .u8 (op : Int)) := by rw [hA1.cell]; rfl
  clear hA1
  go_wp2
  go_ret
  exact ⟨rfl, hb1⟩

/-- A node with too many instructions. -/
def longN (n : Nd) : Bool := decide (8192 < n.code.length)
theorem longNode_any (x : NT) (w : World) : Calls Try.prog 67 #[.agg x.cells.toArray] w fun e w' => e = .returned (.bool (longN x.nd)) ∧ Below w.heap.size w w' := by
  obtain ⟨a, c, ⟨code, kind, arg, next, alt⟩⟩ := x
  have e : longN ⟨code, kind, arg, next, alt⟩ = decide ((code.length : Int) > 8192) := by unfold longN; rw [Bool.eq_iff_iff, decide_eq_true_iff, decide_eq_true_iff]; dsimp only; omega
  simp only [NT.cells]
  rw [e]
  generalize code.length = n at *
  clear e
  go_enter Try.func67, Try.ntmps67
  go_wp2_with (first
    | ((with_reducible show wpList _ _ _ _ _ _); refine wpList_box_at rfl 49 (.tmp 0) rfl [.slice a n c, .int .i64 kind, .int .i64 arg, .int .i64 next, .int .i64 alt] rfl ?_; intro w1 hA1 hb1 hs1; clear hs1; refine Hid.out ?_))
  refine hidU ?_
  have c0 : w1.cell? ⟨w.heap.size, 0, none⟩ = some (.slice a n c) := by rw [hA1.cell]; rfl
  clear hA1
  go_wp2
  go_ret
  exact ⟨rfl, hb1⟩
end Go.Proofs.Ytefklmckkigllaa

/- Whether one of a list is so. -/
namespace Go.Proofs.Ytefklmckkigllaa
open Go.RowKit
set_option linter.unusedVariables false

set_option maxRecDepth 100000 in
set_option maxHeartbeats 3200000 in
theorem index66_44 {α : Type} (cl : α → List Value) (hlen : ∀ k, (cl k).length = 3) (ks : List α) (a : Option Addr) (c : Nat) (hl : ks.length ≤ 1048576) (hcap : ks.length ≤ c) (w : World) (A : α → Bool)
    (hrow : ∀ (i : Nat) (k : α) (u : World), ks[i]? = some k → Below w.heap.size w u → ∃ g o, a = some ⟨g, o, none⟩ ∧ u.rangeAt g (o + i * 3) (cl k))
    (hask : ∀ (i : Nat) (k : α) (u : World), ks[i]? = some k → Below w.heap.size w u → Calls Try.prog 44 #[.agg (cl k).toArray] u fun e u' => e = .returned (.bool (A k)) ∧ Below u.heap.size u u') :
    Calls Try.prog 66 #[.slice a ks.length c, .func (.func 44) #[] #[]] w fun e w' => ∃ z : Int, e = .returned (.int .i64 z) ∧ decide (0 ≤ z) = ks.any A ∧ Below w.heap.size w w' := by
  obtain ⟨n, hn⟩ : ∃ n, Hid (n = ks.length) := ⟨_, (rfl : ks.length = _)⟩
  rw [← hn.out] at hl hcap ⊢
  have HR : Hid (∀ (i : Nat) (k : α) (u : World), ks[i]? = some k → Below w.heap.size w u → ∃ g o, a = some ⟨g, o, none⟩ ∧ u.rangeAt g (o + i * 3) (cl k)) := hrow
  have HA : Hid (∀ (i : Nat) (k : α) (u : World), ks[i]? = some k → Below w.heap.size w u → Calls Try.prog 44 #[.agg (cl k).toArray] u fun e u' => e = .returned (.bool (A k)) ∧ Below u.heap.size u u') := hask
  clear hrow hask
  go_enter Try.func66, Try.ntmps66
  go_wp2_with fail
  go_loopw [5, 8] (fun _ j wr => ∃ i : Nat, j = .int .i64 (i : Int) ∧ i ≤ n ∧ Hid (Below w.heap.size w wr ∧ ∀ (q : Nat) (k : α), q < i → ks[q]? = some k → A k = false)) (fun _ j _ => n - (intOf j).toNat)
  case atStart => exact ⟨0, rfl, by omega, Below.refl _ _, fun q k hq => by omega⟩
  case round =>
    obtain ⟨i, rfl, hi, hX⟩ := hrel
    by_cases hc : i < n
    · obtain ⟨s, hs⟩ : ∃ k, ks[i]? = some k := ⟨ks[i]'(by rw [← hn.out]; exact hc), by rw [List.getElem?_eq_getElem]⟩
      obtain ⟨hI, hall⟩ := hX.out
      obtain ⟨g1, o1, rfl, hr1⟩ := HR.out i s wr hs hI
      have hls := hlen s
      have HI : Hid (Below w.heap.size w wr) := hI
      have HL : Hid (∀ (q : Nat) (k : α), q < i → ks[q]? = some k → A k = false) := hall
      have hC := HA.out i s wr hs hI
      obtain ⟨b, hb⟩ : ∃ b, Hid (b = A s) := ⟨_, (rfl : A s = _)⟩
      rw [← hb.out] at hC
      clear hI hall hX HR HA
      go_wp2_with (first
        | ((with_reducible show wpList _ _ _ _ _ _); refine wpList_load_mid (P := Try.prog) rfl 45 (.tmp 14) rfl g1 (o1 + i * 3) (by first | rfl | (simp; done)) (cl s) _ hr1 Try.underlying45 rfl (by rw [hls]; exact i45) ?_))
      refine hC.mono ?_
      rintro r w6 ⟨rfl, hb6⟩
      have HY : Hid (Below w.heap.size w w6) := HI.out.trans (hb6.mono HI.out.size)
      clear hC hls hb6 HI hr1
      cases b with
      | true =>
        have HB : Hid (A s = true) := hb.out.symm
        clear hb
        go_wp2
        go_ret
        exact ⟨i, rfl, by rw [decide_eq_true (by omega), Eq.comm, List.any_eq_true]; exact ⟨s, List.mem_of_getElem? hs, HB.out⟩, HY.out⟩
      | false =>
        have HB : Hid (A s = false) := hb.out.symm
        clear hb
        go_wp2
        go_roundw
        case rel =>
          refine ⟨i + 1, by go_num, by omega, HY.out, fun q k hq hk => ?_⟩
          by_cases hqi : q = i
          · subst hqi
            rw [hs] at hk
            cases hk
            exact HB.out
          · exact HL.out q k (by omega) hk
        case measure => simp [intOf]; omega
    · have hin : i = n := by omega
      subst hin
      have HX := hX
      clear hX HR HA
      go_wp2
      go_ret
      refine ⟨-1, rfl, ?_, HX.out.1⟩
      rw [decide_eq_false (by omega), Eq.comm, List.any_eq_false]
      intro k hk
      obtain ⟨q, hq⟩ := List.getElem?_of_mem hk
      rw [HX.out.2 q k (by rw [hn.out]; exact (List.getElem?_eq_some_iff.1 hq).1) hq]
      decide

set_option maxRecDepth 100000 in
set_option maxHeartbeats 3200000 in
theorem any43_44 {α : Type} (cl : α → List Value) (hlen : ∀ k, (cl k).length = 3) (ks : List α) (a : Option Addr) (c : Nat) (hl : ks.length ≤ 1048576) (hcap : ks.length ≤ c) (w : World) (A : α → Bool)
    (hrow : ∀ (i : Nat) (k : α) (u : World), ks[i]? = some k → Below w.heap.size w u → ∃ g o, a = some ⟨g, o, none⟩ ∧ u.rangeAt g (o + i * 3) (cl k))
    (hask : ∀ (i : Nat) (k : α) (u : World), ks[i]? = some k → Below w.heap.size w u → Calls Try.prog 44 #[.agg (cl k).toArray] u fun e u' => e = .returned (.bool (A k)) ∧ Below u.heap.size u u') :
    Calls Try.prog 43 #[.slice a ks.length c, .func (.func 44) #[] #[]] w fun e w' => e = .returned (.bool (ks.any A)) ∧ Below w.heap.size w w' := by
  have hC := index66_44 cl hlen ks a c hl hcap w A hrow hask
  generalize ks.any A = B at *
  clear hrow hask
  go_enter Try.func43, Try.ntmps43
  go_wp2_with fail
  refine hC.mono ?_
  rintro r w1 ⟨z, rfl, hz, hb⟩
  go_wp2
  go_ret
  exact ⟨by rw [← hz]; rfl, hb⟩

set_option maxRecDepth 100000 in
set_option maxHeartbeats 3200000 in
theorem index66_55 {α : Type} (cl : α → List Value) (hlen : ∀ k, (cl k).length = 3) (ks : List α) (a : Option Addr) (c : Nat) (hl : ks.length ≤ 1048576) (hcap : ks.length ≤ c) (w : World) (A : α → Bool)
    (hrow : ∀ (i : Nat) (k : α) (u : World), ks[i]? = some k → Below w.heap.size w u → ∃ g o, a = some ⟨g, o, none⟩ ∧ u.rangeAt g (o + i * 3) (cl k))
    (hask : ∀ (i : Nat) (k : α) (u : World), ks[i]? = some k → Below w.heap.size w u → Calls Try.prog 55 #[.agg (cl k).toArray] u fun e u' => e = .returned (.bool (A k)) ∧ Below u.heap.size u u') :
    Calls Try.prog 66 #[.slice a ks.length c, .func (.func 55) #[] #[]] w fun e w' => ∃ z : Int, e = .returned (.int .i64 z) ∧ decide (0 ≤ z) = ks.any A ∧ Below w.heap.size w w' := by
  obtain ⟨n, hn⟩ : ∃ n, Hid (n = ks.length) := ⟨_, (rfl : ks.length = _)⟩
  rw [← hn.out] at hl hcap ⊢
  have HR : Hid (∀ (i : Nat) (k : α) (u : World), ks[i]? = some k → Below w.heap.size w u → ∃ g o, a = some ⟨g, o, none⟩ ∧ u.rangeAt g (o + i * 3) (cl k)) := hrow
  have HA : Hid (∀ (i : Nat) (k : α) (u : World), ks[i]? = some k → Below w.heap.size w u → Calls Try.prog 55 #[.agg (cl k).toArray] u fun e u' => e = .returned (.bool (A k)) ∧ Below u.heap.size u u') := hask
  clear hrow hask
  go_enter Try.func66, Try.ntmps66
  go_wp2_with fail
  go_loopw [5, 8] (fun _ j wr => ∃ i : Nat, j = .int .i64 (i : Int) ∧ i ≤ n ∧ Hid (Below w.heap.size w wr ∧ ∀ (q : Nat) (k : α), q < i → ks[q]? = some k → A k = false)) (fun _ j _ => n - (intOf j).toNat)
  case atStart => exact ⟨0, rfl, by omega, Below.refl _ _, fun q k hq => by omega⟩
  case round =>
    obtain ⟨i, rfl, hi, hX⟩ := hrel
    by_cases hc : i < n
    · obtain ⟨s, hs⟩ : ∃ k, ks[i]? = some k := ⟨ks[i]'(by rw [← hn.out]; exact hc), by rw [List.getElem?_eq_getElem]⟩
      obtain ⟨hI, hall⟩ := hX.out
      obtain ⟨g1, o1, rfl, hr1⟩ := HR.out i s wr hs hI
      have hls := hlen s
      have HI : Hid (Below w.heap.size w wr) := hI
      have HL : Hid (∀ (q : Nat) (k : α), q < i → ks[q]? = some k → A k = false) := hall
      have hC := HA.out i s wr hs hI
      obtain ⟨b, hb⟩ : ∃ b, Hid (b = A s) := ⟨_, (rfl : A s = _)⟩
      rw [← hb.out] at hC
      clear hI hall hX HR HA
      go_wp2_with (first
        | ((with_reducible show wpList _ _ _ _ _ _); refine wpList_load_mid (P := Try.prog) rfl 45 (.tmp 14) rfl g1 (o1 + i * 3) (by first | rfl | (simp; done)) (cl s) _ hr1 Try.underlying45 rfl (by rw [hls]; exact i45) ?_))
      refine hC.mono ?_
      rintro r w6 ⟨rfl, hb6⟩
      have HY : Hid (Below w.heap.size w w6) := HI.out.trans (hb6.mono HI.out.size)
      clear hC hls hb6 HI hr1
      cases b with
      | true =>
        have HB : Hid (A s = true) := hb.out.symm
        clear hb
        go_wp2
        go_ret
        exact ⟨i, rfl, by rw [decide_eq_true (by omega), Eq.comm, List.any_eq_true]; exact ⟨s, List.mem_of_getElem? hs, HB.out⟩, HY.out⟩
      | false =>
        have HB : Hid (A s = false) := hb.out.symm
        clear hb
        go_wp2
        go_roundw
        case rel =>
          refine ⟨i + 1, by go_num, by omega, HY.out, fun q k hq hk => ?_⟩
          by_cases hqi : q = i
          · subst hqi
            rw [hs] at hk
            cases hk
            exact HB.out
          · exact HL.out q k (by omega) hk
        case measure => simp [intOf]; omega
    · have hin : i = n := by omega
      subst hin
      have HX := hX
      clear hX HR HA
      go_wp2
      go_ret
      refine ⟨-1, rfl, ?_, HX.out.1⟩
      rw [decide_eq_false (by omega), Eq.comm, List.any_eq_false]
      intro k hk
      obtain ⟨q, hq⟩ := List.getElem?_of_mem hk
      rw [HX.out.2 q k (by rw [hn.out]; exact (List.getElem?_eq_some_iff.1 hq).1) hq]
      decide

set_option maxRecDepth 100000 in
set_option maxHeartbeats 3200000 in
theorem any43_55 {α : Type} (cl : α → List Value) (hlen : ∀ k, (cl k).length = 3) (ks : List α) (a : Option Addr) (c : Nat) (hl : ks.length ≤ 1048576) (hcap : ks.length ≤ c) (w : World) (A : α → Bool)
    (hrow : ∀ (i : Nat) (k : α) (u : World), ks[i]? = some k → Below w.heap.size w u → ∃ g o, a = some ⟨g, o, none⟩ ∧ u.rangeAt g (o + i * 3) (cl k))
    (hask : ∀ (i : Nat) (k : α) (u : World), ks[i]? = some k → Below w.heap.size w u → Calls Try.prog 55 #[.agg (cl k).toArray] u fun e u' => e = .returned (.bool (A k)) ∧ Below u.heap.size u u') :
    Calls Try.prog 43 #[.slice a ks.length c, .func (.func 55) #[] #[]] w fun e w' => e = .returned (.bool (ks.any A)) ∧ Below w.heap.size w w' := by
  have hC := index66_55 cl hlen ks a c hl hcap w A hrow hask
  generalize ks.any A = B at *
  clear hrow hask
  go_enter Try.func43, Try.ntmps43
  go_wp2_with fail
  refine hC.mono ?_
  rintro r w1 ⟨z, rfl, hz, hb⟩
  go_wp2
  go_ret
  exact ⟨by rw [← hz]; rfl, hb⟩

set_option maxRecDepth 100000 in
set_option maxHeartbeats 3200000 in
theorem index74_67 {α : Type} (cl : α → List Value) (hlen : ∀ k, (cl k).length = 5) (ks : List α) (a : Option Addr) (c : Nat) (hl : ks.length ≤ 1048576) (hcap : ks.length ≤ c) (w : World) (A : α → Bool)
    (hrow : ∀ (i : Nat) (k : α) (u : World), ks[i]? = some k → Below w.heap.size w u → ∃ g o, a = some ⟨g, o, none⟩ ∧ u.rangeAt g (o + i * 5) (cl k))
    (hask : ∀ (i : Nat) (k : α) (u : World), ks[i]? = some k → Below w.heap.size w u → Calls Try.prog 67 #[.agg (cl k).toArray] u fun e u' => e = .returned (.bool (A k)) ∧ Below u.heap.size u u') :
    Calls Try.prog 74 #[.slice a ks.length c, .func (.func 67) #[] #[]] w fun e w' => ∃ z : Int, e = .returned (.int .i64 z) ∧ decide (0 ≤ z) = ks.any A ∧ Below w.heap.size w w' := by
  obtain ⟨n, hn⟩ : ∃ n, Hid (n = ks.length) := ⟨_, (rfl : ks.length = _)⟩
  rw [← hn.out] at hl hcap ⊢
  have HR : Hid (∀ (i : Nat) (k : α) (u : World), ks[i]? = some k → Below w.heap.size w u → ∃ g o, a = some ⟨g, o, none⟩ ∧ u.rangeAt g (o + i * 5) (cl k)) := hrow
  have HA : Hid (∀ (i : Nat) (k : α) (u : World), ks[i]? = some k → Below w.heap.size w u → Calls Try.prog 67 #[.agg (cl k).toArray] u fun e u' => e = .returned (.bool (A k)) ∧ Below u.heap.size u u') := hask
  clear hrow hask
  go_enter Try.func74, Try.ntmps74
  go_wp2_with fail
  go_loopw [5, 8] (fun _ j wr => ∃ i : Nat, j = .int .i64 (i : Int) ∧ i ≤ n ∧ Hid (Below w.heap.size w wr ∧ ∀ (q : Nat) (k : α), q < i → ks[q]? = some k → A k = false)) (fun _ j _ => n - (intOf j).toNat)
  case atStart => exact ⟨0, rfl, by omega, Below.refl _ _, fun q k hq => by omega⟩
  case round =>
    obtain ⟨i, rfl, hi, hX⟩ := hrel
    by_cases hc : i < n
    · obtain ⟨s, hs⟩ : ∃ k, ks[i]? = some k := ⟨ks[i]'(by rw [← hn.out]; exact hc), by rw [List.getElem?_eq_getElem]⟩
      obtain ⟨hI, hall⟩ := hX.out
      obtain ⟨g1, o1, rfl, hr1⟩ := HR.out i s wr hs hI
      have hls := hlen s
      have HI : Hid (Below w.heap.size w wr) := hI
      have HL : Hid (∀ (q : Nat) (k : α), q < i → ks[q]? = some k → A k = false) := hall
      have hC := HA.out i s wr hs hI
      obtain ⟨b, hb⟩ : ∃ b, Hid (b = A s) := ⟨_, (rfl : A s = _)⟩
      rw [← hb.out] at hC
      clear hI hall hX HR HA
      go_wp2_with (first
        | ((with_reducible show wpList _ _ _ _ _ _); refine wpList_load_mid (P := Try.prog) rfl 49 (.tmp 14) rfl g1 (o1 + i * 5) (by first | rfl | (simp; done)) (cl s) _ hr1 Try.underlying49 rfl (by rw [hls]; exact i49) ?_))
      refine hC.mono ?_
      rintro r w6 ⟨rfl, hb6⟩
      have HY : Hid (Below w.heap.size w w6) := HI.out.trans (hb6.mono HI.out.size)
      clear hC hls hb6 HI hr1
      cases b with
      | true =>
        have HB : Hid (A s = true) := hb.out.symm
        clear hb
        go_wp2
        go_ret
        exact ⟨i, rfl, by rw [decide_eq_true (by omega), Eq.comm, List.any_eq_true]; exact ⟨s, List.mem_of_getElem? hs, HB.out⟩, HY.out⟩
      | false =>
        have HB : Hid (A s = false) := hb.out.symm
        clear hb
        go_wp2
        go_roundw
        case rel =>
          refine ⟨i + 1, by go_num, by omega, HY.out, fun q k hq hk => ?_⟩
          by_cases hqi : q = i
          · subst hqi
            rw [hs] at hk
            cases hk
            exact HB.out
          · exact HL.out q k (by omega) hk
        case measure => simp [intOf]; omega
    · have hin : i = n := by omega
      subst hin
      have HX := hX
      clear hX HR HA
      go_wp2
      go_ret
      refine ⟨-1, rfl, ?_, HX.out.1⟩
      rw [decide_eq_false (by omega), Eq.comm, List.any_eq_false]
      intro k hk
      obtain ⟨q, hq⟩ := List.getElem?_of_mem hk
      rw [HX.out.2 q k (by rw [hn.out]; exact (List.getElem?_eq_some_iff.1 hq).1) hq]
      decide

set_option maxRecDepth 100000 in
set_option maxHeartbeats 3200000 in
theorem any56_67 {α : Type} (cl : α → List Value) (hlen : ∀ k, (cl k).length = 5) (ks : List α) (a : Option Addr) (c : Nat) (hl : ks.length ≤ 1048576) (hcap : ks.length ≤ c) (w : World) (A : α → Bool)
    (hrow : ∀ (i : Nat) (k : α) (u : World), ks[i]? = some k → Below w.heap.size w u → ∃ g o, a = some ⟨g, o, none⟩ ∧ u.rangeAt g (o + i * 5) (cl k))
    (hask : ∀ (i : Nat) (k : α) (u : World), ks[i]? = some k → Below w.heap.size w u → Calls Try.prog 67 #[.agg (cl k).toArray] u fun e u' => e = .returned (.bool (A k)) ∧ Below u.heap.size u u') :
    Calls Try.prog 56 #[.slice a ks.length c, .func (.func 67) #[] #[]] w fun e w' => e = .returned (.bool (ks.any A)) ∧ Below w.heap.size w w' := by
  have hC := index74_67 cl hlen ks a c hl hcap w A hrow hask
  generalize ks.any A = B at *
  clear hrow hask
  go_enter Try.func56, Try.ntmps56
  go_wp2_with fail
  refine hC.mono ?_
  rintro r w1 ⟨z, rfl, hz, hb⟩
  go_wp2
  go_ret
  exact ⟨by rw [← hz]; rfl, hb⟩

set_option maxRecDepth 100000 in
set_option maxHeartbeats 3200000 in
theorem index74_57 {α : Type} (cl : α → List Value) (hlen : ∀ k, (cl k).length = 5) (ks : List α) (a : Option Addr) (c : Nat) (hl : ks.length ≤ 1048576) (hcap : ks.length ≤ c) (w : World) (A : α → Bool)
    (hrow : ∀ (i : Nat) (k : α) (u : World), ks[i]? = some k → Below w.heap.size w u → ∃ g o, a = some ⟨g, o, none⟩ ∧ u.rangeAt g (o + i * 5) (cl k))
    (hask : ∀ (i : Nat) (k : α) (u : World), ks[i]? = some k → Below w.heap.size w u → Calls Try.prog 57 #[.agg (cl k).toArray] u fun e u' => e = .returned (.bool (A k)) ∧ Below u.heap.size u u') :
    Calls Try.prog 74 #[.slice a ks.length c, .func (.func 57) #[] #[]] w fun e w' => ∃ z : Int, e = .returned (.int .i64 z) ∧ decide (0 ≤ z) = ks.any A ∧ Below w.heap.size w w' := by
  obtain ⟨n, hn⟩ : ∃ n, Hid (n = ks.length) := ⟨_, (rfl : ks.length = _)⟩
  rw [← hn.out] at hl hcap ⊢
  have HR : Hid (∀ (i : Nat) (k : α) (u : World), ks[i]? = some k → Below w.heap.size w u → ∃ g o, a = some ⟨g, o, none⟩ ∧ u.rangeAt g (o + i * 5) (cl k)) := hrow
  have HA : Hid (∀ (i : Nat) (k : α) (u : World), ks[i]? = some k → Below w.heap.size w u → Calls Try.prog 57 #[.agg (cl k).toArray] u fun e u' => e = .returned (.bool (A k)) ∧ Below u.heap.size u u') := hask
  clear hrow hask
  go_enter Try.func74, Try.ntmps74
  go_wp2_with fail
  go_loopw [5, 8] (fun _ j wr => ∃ i : Nat, j = .int .i64 (i : Int) ∧ i ≤ n ∧ Hid (Below w.heap.size w wr ∧ ∀ (q : Nat) (k : α), q < i → ks[q]? = some k → A k = false)) (fun _ j _ => n - (intOf j).toNat)
  case atStart => exact ⟨0, rfl, by omega, Below.refl _ _, fun q k hq => by omega⟩
  case round =>
    obtain ⟨i, rfl, hi, hX⟩ := hrel
    by_cases hc : i < n
    · obtain ⟨s, hs⟩ : ∃ k, ks[i]? = some k := ⟨ks[i]'(by rw [← hn.out]; exact hc), by rw [List.getElem?_eq_getElem]⟩
      obtain ⟨hI, hall⟩ := hX.out
      obtain ⟨g1, o1, rfl, hr1⟩ := HR.out i s wr hs hI
      have hls := hlen s
      have HI : Hid (Below w.heap.size w wr) := hI
      have HL : Hid (∀ (q : Nat) (k : α), q < i → ks[q]? = some k → A k = false) := hall
      have hC := HA.out i s wr hs hI
      obtain ⟨b, hb⟩ : ∃ b, Hid (b = A s) := ⟨_, (rfl : A s = _)⟩
      rw [← hb.out] at hC
      clear hI hall hX HR HA
      go_wp2_with (first
        | ((with_reducible show wpList _ _ _ _ _ _); refine wpList_load_mid (P := Try.prog) rfl 49 (.tmp 14) rfl g1 (o1 + i * 5) (by first | rfl | (simp; done)) (cl s) _ hr1 Try.underlying49 rfl (by rw [hls]; exact i49) ?_))
      refine hC.mono ?_
      rintro r w6 ⟨rfl, hb6⟩
      have HY : Hid (Below w.heap.size w w6) := HI.out.trans (hb6.mono HI.out.size)
      clear hC hls hb6 HI hr1
      cases b with
      | true =>
        have HB : Hid (A s = true) := hb.out.symm
        clear hb
        go_wp2
        go_ret
        exact ⟨i, rfl, by rw [decide_eq_true (by omega), Eq.comm, List.any_eq_true]; exact ⟨s, List.mem_of_getElem? hs, HB.out⟩, HY.out⟩
      | false =>
        have HB : Hid (A s = false) := hb.out.symm
        clear hb
        go_wp2
        go_roundw
        case rel =>
          refine ⟨i + 1, by go_num, by omega, HY.out, fun q k hq hk => ?_⟩
          by_cases hqi : q = i
          · subst hqi
            rw [hs] at hk
            cases hk
            exact HB.out
          · exact HL.out q k (by omega) hk
        case measure => simp [intOf]; omega
    · have hin : i = n := by omega
      subst hin
      have HX := hX
      clear hX HR HA
      go_wp2
      go_ret
      refine ⟨-1, rfl, ?_, HX.out.1⟩
      rw [decide_eq_false (by omega), Eq.comm, List.any_eq_false]
      intro k hk
      obtain ⟨q, hq⟩ := List.getElem?_of_mem hk
      rw [HX.out.2 q k (by rw [hn.out]; exact (List.getElem?_eq_some_iff.1 hq).1) hq]
      decide

set_option maxRecDepth 100000 in
set_option maxHeartbeats 3200000 in
theorem any56_57 {α : Type} (cl : α → List Value) (hlen : ∀ k, (cl k).length = 5) (ks : List α) (a : Option Addr) (c : Nat) (hl : ks.length ≤ 1048576) (hcap : ks.length ≤ c) (w : World) (A : α → Bool)
    (hrow : ∀ (i : Nat) (k : α) (u : World), ks[i]? = some k → Below w.heap.size w u → ∃ g o, a = some ⟨g, o, none⟩ ∧ u.rangeAt g (o + i * 5) (cl k))
    (hask : ∀ (i : Nat) (k : α) (u : World), ks[i]? = some k → Below w.heap.size w u → Calls Try.prog 57 #[.agg (cl k).toArray] u fun e u' => e = .returned (.bool (A k)) ∧ Below u.heap.size u u') :
    Calls Try.prog 56 #[.slice a ks.length c, .func (.func 57) #[] #[]] w fun e w' => e = .returned (.bool (ks.any A)) ∧ Below w.heap.size w w' := by
  have hC := index74_57 cl hlen ks a c hl hcap w A hrow hask
  generalize ks.any A = B at *
  clear hrow hask
  go_enter Try.func56, Try.ntmps56
  go_wp2_with fail
  refine hC.mono ?_
  rintro r w1 ⟨z, rfl, hz, hb⟩
  go_wp2
  go_ret
  exact ⟨by rw [← hz]; rfl, hb⟩

end Go.Proofs.Ytefklmckkigllaa
