/- Joined texts of the proof. -/
import Derived.WalkKit
import Derived.Test.YtcmkjjlchljffaaDoorProg
import Derived.WalkSpells
import Derived.BigQuiet
import Derived.Deep.QuietTactic
import Derived.Deep.WholeRow
import Derived.Deep.RegionHeld3
import Derived.Deep.MidRow
import Derived.Laws.CopyOwn
import Derived.Laws.BytesArg
import Derived.Deep.DrawnRows
import Derived.Laws.AppendOwnNone
import Derived.Great.BuildSlice

/- The plain functions of bytes, numbers and digits that the contracts speak of, and small facts about them: no program is named here. -/
namespace Go.Proofs.YtcmkjjlchljffaaDoor

/-- A byte as a cell holds it. -/
def B8 (b : UInt8) : Value := .int .u8 (b.toNat : Int)

/-- The byte of a number. -/
def ub (n : Nat) : UInt8 := UInt8.ofNat n

theorem ub_toNat (n : Nat) (h : n < 256) : (ub n).toNat = n := by simp [ub]; omega

/-- A number's shortest bytes: 'f' groups more at most. -/
def short : Nat → Nat → List UInt8
  | 0, n => [ub n]
  | f + 1, n => if n < 128 then [ub n] else ub (n % 128 + 128) :: short f (n / 128)

theorem short_small (f n : Nat) (h : n < 128) : short f n = [ub n] := by
  cases f with
  | zero => rfl
  | succ f => simp [short, h]

theorem short_big (f n : Nat) (h : 128 ≤ n) : short (f + 1) n = ub (n % 128 + 128) :: short f (n / 128) := by
  simp [short, show ¬ n < 128 by omega]

theorem short_length (f n : Nat) : (short f n).length ≤ f + 1 := by
  induction f generalizing n with
  | zero => simp [short]
  | succ f ih => unfold short; split <;> simp; have := ih (n / 128); omega

end Go.Proofs.YtcmkjjlchljffaaDoor

/- Small laws for walks over slices of bytes: an append of one byte to a row that the call itself made. -/
namespace Go.Proofs.YtcmkjjlchljffaaDoor
open Go.RowKit

theorem Tryd.info5 : (Tryd.prog.info? 5).map (fun i => (i.zero, i.size, i.bytes)) = some (some (.int .u8 0), 1, 1) := by kernel_rfl

/-- The call's own row of bytes. -/
def Own (base : Nat) (w : World) (v : Value) (out : List UInt8) : Prop := w.ownsRow base 5 1 v out.length (out.map B8)

theorem Own.nil (base : Nat) (w : World) : Own base w (.slice none 0 0) [] := World.ownsRow_nil _ _ _ _

theorem Own.block {base : Nat} {w : World} {v : Value} {out : List UInt8} (h : Own base w v out) : ∀ k, v.ownBlock = some k → base ≤ k := by
  intro k hk
  obtain ⟨_, ⟨rfl, _⟩ | ⟨g, cap, cur, rfl, hg, _⟩⟩ := h
  · simp [Value.ownBlock] at hk
  · simp [Value.ownBlock] at hk
    omega

/-- 'out = append(out, b)'. -/
theorem app1 {ops : Array Oper} {rest : List Oper} {o : Oper} {a : Act} {Q : Exit → Act → World → Prop} {w0 : World} (s x : Operand) (z : Int) (b : UInt8) (base : Nat) (v : Value) (out : List UInt8)
    (hgd : o.guard = none) (ho : o.op = .call { callee := .builtin .append, args := #[s, x], argTypes := #[29, 29] })
    (hs : a.eval s = v) (hx : a.eval x = .slice (some ⟨w0.heap.size, 0, none⟩) 1 1) (hown : Own base w0 v out) (hz : z = (b.toNat : Int)) (hlen : out.length ≤ 1099511627776) (hbase : base ≤ w0.heap.size)
    (h : ∀ v' w', Own base w' v' (out ++ [b]) → Below base w0 w' → wpList Tryd.prog ops Q rest (a.put o.dst v') w') :
    wpList Tryd.prog ops Q (o :: rest) a (w0.alloc (.cells #[.int .u8 z] 5)) := by
  obtain ⟨i0, hi, hz0, hz1, hz2⟩ := info_parts Tryd.info5
  refine wpList_append_own (w := w0.alloc (.cells #[.int .u8 z] 5)) hgd s x 29 ho base 5 i0 (.int .u8 0) 1 1 Tryd.underlying29 hi hz0 hz1 hz2 rfl (by decide) v out.length (out.map B8) hs (World.ownsRow.alloc hown _)
    ⟨w0.heap.size, 0, none⟩ 1 1 [.int .u8 z] hx rfl ?c1 ?c2 ?c3 ?c4 ?c5 ?_
  case c1 =>
    intro j u hj
    match j, hj with
    | 0, hj => simp at hj; subst hj; simp [Addr.add]
  case c2 => intro u hu; simp at hu; subst hu; rfl
  case c3 => unfold maxLen; omega
  case c4 => omega
  case c5 => simp; omega
  intro v' w' h1 h2 _
  refine h v' w' ?_ ?_
  · subst hz
    simpa [Own, B8] using h1
  · exact ((Below.refl base w0).alloc hbase _).grown h2 (by simp; omega) hown.block

/-- The same, the byte told by its number. -/
theorem app1n {ops : Array Oper} {rest : List Oper} {o : Oper} {a : Act} {Q : Exit → Act → World → Prop} {w0 : World} (s x : Operand) (z : Int) (k : Nat) (base : Nat) (v : Value) (out : List UInt8)
    (hgd : o.guard = none) (ho : o.op = .call { callee := .builtin .append, args := #[s, x], argTypes := #[29, 29] })
    (hs : a.eval s = v) (hx : a.eval x = .slice (some ⟨w0.heap.size, 0, none⟩) 1 1) (hown : Own base w0 v out) (hk : k < 256) (hz : z = (k : Int)) (hlen : out.length ≤ 1099511627776) (hbase : base ≤ w0.heap.size)
    (h : ∀ v' w', Own base w' v' (out ++ [ub k]) → Below base w0 w' → wpList Tryd.prog ops Q rest (a.put o.dst v') w') :
    wpList Tryd.prog ops Q (o :: rest) a (w0.alloc (.cells #[.int .u8 z] 5)) :=
  app1 s x z (ub k) base v out hgd ho hs hx hown (by rw [ub_toNat k hk]; exact hz) hlen hbase h

/-- What a slice of bytes that is read is known by: it has no bytes; or it leads to plain cells that hold them. -/
def Row (w : World) (a : Option Addr) (bs : List UInt8) : Prop :=
  bs = [] ∨ ∃ b off, a = some ⟨b, off, none⟩ ∧ ∀ j, j < bs.length → w.cell? ⟨b, off + j, none⟩ = some (.int .u8 ((bs.getD j 0).toNat : Int))

theorem lt_of_cell {w : World} {p : Addr} {v : Value} (h : w.cell? p = some v) : p.block < w.heap.size := by
  unfold World.cell? at h
  by_cases hp : p.block < w.heap.size
  · exact hp
  · rw [Array.getElem?_eq_none (by omega)] at h; simp at h

theorem Row.below {w w' : World} {a : Option Addr} {bs : List UInt8} (h : Row w a bs) (hb : Below w.heap.size w w') : Row w' a bs := by
  rcases h with h | ⟨b, off, rfl, hc⟩
  · exact .inl h
  · exact .inr ⟨b, off, rfl, fun j hj => by rw [hb.cell (lt_of_cell (hc j hj))]; exact hc j hj⟩

theorem Own.row {base : Nat} {w : World} {v : Value} {out : List UInt8} (h : Own base w v out) : ∃ a cap, v = .slice a out.length cap ∧ out.length ≤ cap ∧ cap ≤ maxLen ∧ Row w a out := by
  obtain ⟨h1, ⟨rfl, h0⟩ | ⟨g, cap, cur, rfl, hg, hh, hc, hm, hs, ht⟩⟩ := h
  · have : out = [] := List.length_eq_zero_iff.1 h0
    subst this
    exact ⟨none, 0, rfl, Nat.le_refl _, Nat.zero_le _, .inl rfl⟩
  · refine ⟨_, cap, rfl, hc, hm, .inr ⟨g, 0, rfl, fun j hj => ?_⟩⟩
    simp only [World.cell?, hh]
    have e1 : (cur.toList.take (out.length * 1))[j]? = some (B8 (out.getD j 0)) := by
      rw [ht]
      simp [List.getElem?_map, List.getElem?_eq_getElem hj, List.getD]
    rw [List.getElem?_take_of_lt (by omega)] at e1
    simpa [B8] using e1

theorem size5 (w : World) : (sizeOf 5).run Tryd.prog w = .ok 1 w := by kernel_rfl

/-- 'b[:h]'. -/
theorem run_slice_to (w : World) (a : Option Addr) (len cap h : Nat) (x : Int) (hx : x = (h : Int)) (hh : h ≤ cap) :
    (Instr.slice 29 (.slice a len cap) none (some (.int .i64 x)) none).run Tryd.prog w = .ok (.slice a h cap) w := by
  have he : Tryd.prog.elem 29 = 5 := by simp [Program.elem, Tryd.underlying29]
  rw [run_slice_h w 29 a len cap (by rw [he]; exact Tryd.underlying29) .i64 x (by omega) (by omega), he, size5]
  have hz : ∀ p : Addr, p.add 0 = p := fun p => by cases p; simp [Addr.add]
  have hm : a.map (fun p => p.add 0) = a := by cases a <;> simp [hz]
  simp only [Result.andThen, sliced, Nat.zero_mul, hm, Nat.sub_zero]
  rw [show x.toNat = h by omega]
  simp

end Go.Proofs.YtcmkjjlchljffaaDoor

/- Blocks of arrays and structs as lists of cells, and steps of a walk over whole ones: the world behind a step is a letter, with what is known of it. -/
namespace Go.Proofs.YtcmkjjlchljffaaDoor
open Go.RowKit
set_option linter.unusedVariables false

/-- A block of any type, its cells known. -/
def At (t : TypeId) (w : World) (g : Nat) (cs : List Value) : Prop := w.heap[g]? = some (.cells cs.toArray t (0, 0))

section
variable {t : TypeId} {w : World} {g : Nat} {cs : List Value}
theorem At.cell (h : At t w g cs) (i : Nat) : w.cell? ⟨g, i, none⟩ = cs[i]? := by
  simp [World.cell?, show w.heap[g]? = _ from h]
theorem At.frozen (h : At t w g cs) (i : Nat) : w.frozen? ⟨g, i, none⟩ = false := by
  simp [World.frozen?, show w.heap[g]? = _ from h]
theorem At.lt (h : At t w g cs) : g < w.heap.size := by
  rcases Nat.lt_or_ge g w.heap.size with hlt | hge
  · exact hlt
  · unfold At at h; rw [Array.getElem?_eq_none hge] at h; simp at h
theorem At.set (h : At t w g cs) (i : Nat) (v : Value) : At t (w.setCell ⟨g, i, none⟩ v) g (cs.set i v) := by
  have := heap_setCell_same w g i cs.toArray t v h
  unfold At
  rw [this]
  simp
theorem At.setOther (h : At t w g cs) (a : Addr) (v : Value) (hn : g ≠ a.block) : At t (w.setCell a v) g cs := by
  unfold At
  rw [heap_setCell_other w a g v hn]
  exact h
theorem At.below {w' : World} (h : At t w g cs) (hb : Below w.heap.size w w') : At t w' g cs := by
  unfold At
  rw [hb.block g h.lt]
  exact h
theorem At.drewN (h : At t w g cs) (n : Nat) : At t (w.drewN n) g cs := h
theorem At.drew (h : At t w g cs) : At t w.drew g cs := h
end

/-- All blocks but one are as they were. -/
structure But (g : Nat) (w w' : World) : Prop where
  os : w'.os = w.os
  tape : w'.tape = w.tape
  output : w'.output = w.output
  size : w.heap.size ≤ w'.heap.size
  block : ∀ k, k < w.heap.size → k ≠ g → w'.heap[k]? = w.heap[k]?

theorem But.refl (g : Nat) (w : World) : But g w w := ⟨rfl, rfl, rfl, Nat.le_refl _, fun _ _ _ => rfl⟩
theorem But.trans {g : Nat} {a b c : World} (h : But g a b) (k : But g b c) : But g a c :=
  ⟨k.os.trans h.os, k.tape.trans h.tape, k.output.trans h.output, Nat.le_trans h.size k.size, fun i hi hn => (k.block i (Nat.lt_of_lt_of_le hi h.size) hn).trans (h.block i hi hn)⟩
theorem But.of_below {g : Nat} {w w' : World} (h : Below w.heap.size w w') : But g w w' := ⟨h.os, h.tape, h.output, h.size, fun k hk _ => h.block k hk⟩
theorem But.below {g B : Nat} {w0 w w' : World} (h : But g w w') (hb : Below B w0 w) (hB : B ≤ g) (hs : B ≤ w.heap.size) : Below B w0 w' :=
  ⟨h.os.trans hb.os, h.tape.trans hb.tape, h.output.trans hb.output, Nat.le_trans hb.size h.size, fun k hk => (h.block k (by omega) (by omega)).trans (hb.block k hk)⟩
theorem But.at {t : TypeId} {g k : Nat} {w w' : World} {cs : List Value} (h : But g w w') (ha : At t w k cs) (hn : k ≠ g) : At t w' k cs := by
  unfold At
  rw [h.block k ha.lt hn]
  exact ha
theorem But.drewN {g : Nat} {a w : World} (h : But g a w) (n : Nat) : But g a (w.drewN n) := ⟨h.os, h.tape, h.output, h.size, h.block⟩
theorem But.setCell {g : Nat} {a w : World} (h : But g a w) (i : Nat) (v : Value) : But g a (w.setCell ⟨g, i, none⟩ v) :=
  ⟨h.os, h.tape, h.output, by simpa using h.size, fun k hk hn => by rw [heap_setCell_other w ⟨g, i, none⟩ k v hn]; exact h.block k hk hn⟩
theorem But.row {g : Nat} {w w' : World} (h : But g w w') {a : Option Addr} {bs : List UInt8} (hr : Row w a bs) (hn : ∀ b off, a = some ⟨b, off, none⟩ → b ≠ g) : Row w' a bs := by
  rcases hr with hr | ⟨b, off, rfl, hc⟩
  · exact .inl hr
  · exact .inr ⟨b, off, rfl, fun j hj => by rw [World.cell?_of_block (w := w) (h.block b (lt_of_cell (hc j hj)) (hn b off rfl))]; exact hc j hj⟩
section
variable {P : Program} {ops : Array Oper} {rest : List Oper} {o : Oper} {a : Act} {w : World} {Q : Exit → Act → World → Prop}

/-- A whole array or struct is laid into a new block. -/
theorem wpList_box_at (hgd : o.guard = none) (t : TypeId) (x : Operand) (ho : o.op = .box t x) (cs : List Value) (hx : a.eval x = .agg cs.toArray)
    (h : ∀ w', At t w' w.heap.size cs → Below w.heap.size w w' → w'.heap.size = w.heap.size + 1 → wpList P ops Q rest (a.put o.dst (.pointer (some ⟨w.heap.size, 0, none⟩))) w') :
    wpList P ops Q (o :: rest) a w := by
  refine wpList_plain hgd fun K hK => ?_
  have := hK _ _ (h (w.alloc (.cells cs.toArray t)) (_root_.Go.heap_alloc_new w _) ((Below.refl _ w).alloc (Nat.le_refl _) _) (by show (w.heap.push _).size = _; simp))
  unfold Oper.wp execOp
  simp only [ho, hx, Instr.box, Sem.run_bind]
  simpa [newVar, go_sem, Value.cells] using this

/-- A new block with the zero value of its type. -/
theorem wpList_alloc_at (hgd : o.guard = none) (t : TypeId) (ho : o.op = .alloc t) (cs : List Value) (n : Nat) (hz : (P.info? t).map (fun i => (i.zero, i.size)) = some (some (.agg cs.toArray), n))
    (h : ∀ w', At t w' w.heap.size cs → Below w.heap.size w w' → w'.heap.size = w.heap.size + 1 → wpList P ops Q rest (a.put o.dst (.pointer (some ⟨w.heap.size, 0, none⟩))) w') :
    wpList P ops Q (o :: rest) a w := by
  refine wpList_plain hgd fun K hK => ?_
  have := hK _ _ (h (w.alloc (.cells cs.toArray t)) (_root_.Go.heap_alloc_new w _) ((Below.refl _ w).alloc (Nat.le_refl _) _) (by show (w.heap.push _).size = _; simp))
  have h0 := (zero_of_info hz).1
  unfold Oper.wp execOp
  simp only [ho, Instr.alloc, Sem.run_bind, h0]
  simpa [newVar, go_sem, Value.cells] using this

/-- A whole array or struct is stored into a block that holds one. -/
theorem wpList_store_at (hgd : o.guard = none) (ty : TypeId) (x y : Operand) (ho : o.op = .store ty x y)
    (g : Nat) (cs : List Value) (hx : a.eval x = .pointer (some ⟨g, 0, none⟩)) (hy : a.eval y = .agg cs.toArray)
    (t : TypeId) (old : List Value) (hg : At t w g old) (hi : (P.info? ty).map (·.size) = some cs.length) (hold : old.length = cs.length) (h1 : ∀ v ∈ cs, v.oneCell' = true)
    (h : ∀ w', At t w' g cs → But g w w' → w'.heap.size = w.heap.size → wpList P ops Q rest (a.put o.dst undef) w') : wpList P ops Q (o :: rest) a w := by
  refine wpList_store_row hgd ty x y ho g cs.toArray hx hy t old.toArray hg (by simpa using hi) (by simpa using hold) (by simpa using h1) ?_
  refine h _ (setRow_heap w g _ _ t _ hg) ⟨rfl, rfl, rfl, by simp, fun k _ hn => setRow_other w g k _ hn⟩ (by simp)

/-- A whole array or struct is made. -/
theorem wpList_build_at (hgd : o.guard = none) (t : TypeId) (parts : Array (Nat × Operand)) (ho : o.op = .build t parts) (cs : List Value)
    (hb : P.built t (parts.map fun (i, x) => (i, a.eval x)).toList = some cs.toArray)
    (h : wpList P ops Q rest (a.put o.dst (.agg cs.toArray)) w) : wpList P ops Q (o :: rest) a w :=
  wpList_build hgd t parts ho (by rw [hb]; rfl) (by rw [hb]; exact h)

/-- A whole array or struct is read. -/
theorem wpList_load_at (hgd : o.guard = none) (ty : TypeId) (x : Operand) (ho : o.op = .load ty x)
    (g : Nat) (hx : a.eval x = .pointer (some ⟨g, 0, none⟩)) (t : TypeId) (cs : List Value) (hg : At t w g cs) (d : TypeDesc)
    (hu : P.underlying ty = some d) (hd : (match d with | .struct _ | .array _ _ => true | _ => false) = true) (hi : (P.info? ty).map (·.size) = some cs.length)
    (h : wpList P ops Q rest (a.put o.dst (.agg cs.toArray)) w) : wpList P ops Q (o :: rest) a w :=
  wpList_load_row hgd ty x ho g hx t cs.toArray (0, 0) d hg hu hd (by simpa using hi) h
end

theorem At.range {t : TypeId} {w : World} {g : Nat} {cs : List Value} (h : At t w g cs) (o n : Nat) : w.rangeAt g o ((cs.drop o).take n) := by
  intro j v hj
  rw [h.cell]
  rw [List.getElem?_take] at hj
  split at hj
  · rw [List.getElem?_drop] at hj; exact hj
  · simp at hj

theorem At.there {t : TypeId} {w : World} {g : Nat} {cs : List Value} (h : At t w g cs) (o n : Nat) (hn : o + n ≤ cs.length) : w.there g o n := by
  intro j hj
  rw [h.cell, h.frozen]
  simp
  omega

/-- A struct of two cells is stored into the middle of a block. -/
theorem wpList_store_two {P : Program} {ops : Array Oper} {rest : List Oper} {o : Oper} {a : Act} {w : World} {Q : Exit → Act → World → Prop} (hgd : o.guard = none) (ty : TypeId) (x y : Operand) (ho : o.op = .store ty x y)
    (g off : Nat) (v0 v1 : Value) (hx : a.eval x = .pointer (some ⟨g, off, none⟩)) (hy : a.eval y = .agg [v0, v1].toArray)
    (t : TypeId) (old : List Value) (hg : At t w g old) (hold : off + 2 ≤ old.length) (hi : (P.info? ty).map (·.size) = some 2) (h1 : ∀ v ∈ [v0, v1], v.oneCell' = true)
    (h : ∀ w', At t w' g ((old.set off v0).set (off + 1) v1) → But g w w' → w'.heap.size = w.heap.size → wpList P ops Q rest (a.put o.dst undef) w') : wpList P ops Q (o :: rest) a w := by
  refine wpList_store_mid hgd ty x y ho g off [v0, v1].toArray hx hy (hg.there off 2 hold) (by simpa using hi) (all_oneCell_toArray h1) ?_
  refine h _ ((hg.set off v0).set (off + 1) v1) (((But.refl g w).setCell off v0).setCell (off + 1) v1) ?_
  show ((w.setCell ⟨g, off, none⟩ v0).setCell ⟨g, off + 1, none⟩ v1).heap.size = _
  simp

theorem results_at {P : Program} {fn : Func} {p : Tmp} {ty : TypeId} (h : fn.results = #[.cell p ty]) (tmps : Array Value) (w : World) (g : Nat) (t : TypeId) (cs : List Value) (d : TypeDesc)
    (hp : tmps.getD p undef = .pointer (some ⟨g, 0, none⟩)) (hg : At t w g cs)
    (hu : P.underlying ty = some d) (hd : (match d with | .struct _ | .array _ _ => true | _ => false) = true) (hi : (P.info? ty).map (·.size) = some cs.length) :
    (results fn tmps).run P w = .ok (.agg cs.toArray) w :=
  results_cell_row h tmps w g t cs.toArray (0, 0) d hp hg hu hd (by simpa using hi)
end Go.Proofs.YtcmkjjlchljffaaDoor

/- Regions that draw their order and end in stores to what they read: a condition on the world that holds till the first of these stores comes up. -/
namespace Go.Proofs.YtcmkjjlchljffaaDoor
open Go Go.RowKit
set_option linter.unusedVariables false

section
variable {P : Program} {ops : Array Oper} {Q : Exit → Act → World → Prop} {md : Region.Mode} {S : World → Prop} {St : List Nat}

/-- As long as none of the stores has come up, S holds. -/
def Hold (S : World → Prop) (St : List Nat) (listed : Array Bool) (w : World) : Prop := (∀ s ∈ St, listed.getD s true = false) → S w
def wpAnyS (P : Program) (md : Region.Mode) (ops : Array Oper) (Q : Exit → Act → World → Prop) (S : World → Prop) (St : List Nat) : Nat → Array Bool → Act → World → Prop
  | 0, listed, a, w => Region.ready md ops listed = [] ∧ Q .normal a w
  | fuel + 1, listed, a, w =>
    (Region.ready md ops listed = [] → Q .normal a w) ∧
    ∀ i ∈ Region.ready md ops listed, wpOp P ops Q i (fun a' w' => Hold S St (listed.setIfInBounds i true) w' ∧ wpAnyS P md ops Q S St fuel (listed.setIfInBounds i true) a' w') a w
theorem wpAny_of_S : ∀ (fuel : Nat) (listed : Array Bool) (a : Act) (w : World), wpAnyS P md ops Q S St fuel listed a w → wpAny P md ops Q fuel listed a w
  | 0, _, _, _, h => h
  | fuel + 1, _, _, _, h => ⟨h.1, fun i hi => wpOp_mono (fun a' w' h' => wpAny_of_S fuel _ a' w' h'.2) (h.2 i hi)⟩

theorem hold_less {i j : Nat} {listed : Array Bool} {w : World} (hi : i ∉ St) (h : Hold S St ((listed.setIfInBounds i true).setIfInBounds j true) w) : Hold S St (listed.setIfInBounds j true) w := fun hs => h fun s hm => by
  have hsi : i ≠ s := fun e => hi (e ▸ hm)
  have := hs s hm
  by_cases hj : j = s
  · subst hj
    rw [Array.setIfInBounds_comm _ _ hsi, getD_set_ne true hsi]
    exact this
  · rw [getD_set_ne true hj] at this
    rw [getD_set_ne true hj, getD_set_ne true hsi]
    exact this

theorem wpAnyS_first {i : Nat} {oi : Oper} {v : Value} (hi : ops[i]? = some oi) (hsel : ∀ (j : Nat) (o : Oper) cs b, ops[j]? = some o → o.op ≠ .select cs b)
    (hQ : ∀ c a w, Q (.panic c) (a.put oi.dst v) w → Q (.panic c) a w) (hiS : i ∉ St) (Inv : Array Bool → Prop) (S0 : World → Prop)
    (hInv : ∀ listed j, Inv listed → listed.getD i true = false → j ∈ Region.ready md ops listed → j ≠ i → Inv (listed.setIfInBounds j true))
    (hY : ∀ listed w, Inv listed → Hold S St listed w → S0 w) :
    ∀ (fuel : Nat) (listed : Array Bool) (a : Act) (w : World),
      (∀ j oj, ops[j]? = some oj → j ≠ i → listed.getD j true = false → (∀ e ∈ oj.after, Region.binds md e = true → e.on ≠ i) → oi.apart ops oj = true) →
      i ∈ Region.ready md ops listed → Inv listed → YieldsIf P ops S0 oi v a → Hold S St listed w →
      Hold S St (listed.setIfInBounds i true) w → wpAnyS P md ops Q S St fuel (listed.setIfInBounds i true) (a.put oi.dst v) w → wpAnyS P md ops Q S St (fuel + 1) listed a w := by
  intro fuel
  induction fuel with
  | zero =>
    intro listed a w _ hr hv hy hS hSi H
    refine ⟨fun h => (by rw [h] at hr; cases hr), fun j hj => ?_⟩
    by_cases hji : j = i
    · subst hji; exact hy.wpOp hi (hY _ _ hv hS) ⟨hSi, H⟩
    · have := ready_mono hj hji
      rw [H.1] at this
      cases this
  | succ fuel ih =>
    intro listed a w hfree hr hv hy hS hSi H
    refine ⟨fun h => (by rw [h] at hr; cases hr), fun j hj => ?_⟩
    by_cases hji : j = i
    · subst hji; exact hy.wpOp hi (hY _ _ hv hS) ⟨hSi, H⟩
    · have h1 := H.2 j (ready_mono hj hji)
      obtain ⟨hjun, oj, hoj, hall⟩ := mem_ready.1 hj
      have hnot : ∀ e ∈ oj.after, Region.binds md e = true → e.on ≠ i := fun e he hb heq => by
        have h1 := hall e he hb
        have h0 := (mem_ready.1 hr).1
        rw [heq] at h1
        rcases Nat.lt_or_ge i listed.size with h' | h'
        · simp [h'] at h0 h1; rw [h0] at h1; cases h1
        · simp [Array.getElem?_eq_none h'] at h1
      have h2 := wpOp_putIf hoj (hfree j oj hoj hji hjun hnot) (fun cs b => hsel i oi cs b hi) (fun cs b => hsel j oj cs b hoj) hQ hy h1
      have hfree' : ∀ k ok, ops[k]? = some ok → k ≠ i → (listed.setIfInBounds j true).getD k true = false →
          (∀ e ∈ ok.after, Region.binds md e = true → e.on ≠ i) → oi.apart ops ok = true := fun k ok hk hki hun hno => by
        refine hfree k ok hk hki ?_ hno
        by_cases hjk : j = k
        · subst hjk; exact hjun
        · rw [getD_set_ne true hjk] at hun; exact hun
      refine wpOp_mono (fun a' w' h3 => ?_) h2
      have hh := hold_less hiS h3.2.1
      refine ⟨hh, ih (listed.setIfInBounds j true) a' w' hfree' (ready_mono hr (Ne.symm hji)) (hInv _ _ hv (mem_ready.1 hr).1 hj hji) h3.1 hh ?_ ?_⟩
      · rw [Array.setIfInBounds_comm _ _ hji]
        exact h3.2.1
      · rw [Array.setIfInBounds_comm _ _ hji]
        exact h3.2.2

/-- Number i is taken first: it yields v in whatever world. -/
theorem wpAnyS_pure {i : Nat} {oi : Oper} {v : Value} {fuel : Nat} {listed : Array Bool} {a : Act} {w : World} (hi : ops[i]? = some oi)
    (hs : Region.noSelect ops = true) (hf : Region.free md ops listed i = true) (hr : (Region.ready md ops listed).contains i = true) (hiS : St.contains i = false)
    (hQ : ∀ c a w, Q (.panic c) (a.put oi.dst v) w → Q (.panic c) a w) (hy : YieldsIf P ops (fun _ => True) oi v a) (hS : Hold S St listed w)
    (h : Hold S St (listed.setIfInBounds i true) w → wpAnyS P md ops Q S St fuel (listed.setIfInBounds i true) (a.put oi.dst v) w) : wpAnyS P md ops Q S St (fuel + 1) listed a w := by
  have hn : i ∉ St := fun hm => by rw [List.contains_iff_mem.2 hm] at hiS; cases hiS
  have h2 : Hold S St (listed.setIfInBounds i true) w := fun q => hS fun s hm => by have := q s hm; rwa [getD_set_ne true (show i ≠ s from fun e => hn (e ▸ hm))] at this
  exact wpAnyS_first hi (Region.noSelect_spec hs) hQ hn (fun _ => True) (fun _ => True) (fun _ _ _ _ _ _ => trivial) (fun _ _ _ _ => trivial) fuel listed a w (Region.free_spec hi hf) (by simpa using hr) trivial hy hS h2 (h h2)
/-- Number i is taken first: it yields v where S holds, and the stores wait for it. -/
theorem wpAnyS_take {i : Nat} {oi : Oper} {v : Value} {fuel : Nat} {listed : Array Bool} {a : Act} {w : World} (Wt : List Nat) (hi : ops[i]? = some oi)
    (hs : Region.noSelect ops = true) (hf : Region.free md ops listed i = true) (hr : (Region.ready md ops listed).contains i = true) (hiS : St.contains i = false)
    (hW : (Wt.all fun j => ((ops[j]?).map fun o => o.after.any fun e => Region.binds md e && (e.on == i || Wt.contains e.on)) == some true) = true) (hSW : (St.all fun j => Wt.contains j) = true) (hun : (Wt.all fun j => listed.getD j true == false) = true)
    (hQ : ∀ c a w, Q (.panic c) (a.put oi.dst v) w → Q (.panic c) a w) (hy : YieldsIf P ops S oi v a) (hS : Hold S St listed w)
    (h : Hold S St (listed.setIfInBounds i true) w → wpAnyS P md ops Q S St fuel (listed.setIfInBounds i true) (a.put oi.dst v) w) : wpAnyS P md ops Q S St (fuel + 1) listed a w := by
  have hn : i ∉ St := fun hm => by rw [List.contains_iff_mem.2 hm] at hiS; cases hiS
  have h2 : Hold S St (listed.setIfInBounds i true) w := fun q => hS fun s hm => by have := q s hm; rwa [getD_set_ne true (show i ≠ s from fun e => hn (e ▸ hm))] at this
  refine wpAnyS_first hi (Region.noSelect_spec hs) hQ hn (fun l => ∀ j ∈ Wt, l.getD j true = false) S ?_ ?_ fuel listed a w (Region.free_spec hi hf) (by simpa using hr) ?_ hy hS h2 (h h2)
  · intro l j hl hil hj hji k hk
    by_cases hjk : j = k
    · subst hjk
      exfalso
      have h1 := List.all_eq_true.1 hW j hk
      rw [beq_iff_eq] at h1
      obtain ⟨o, ho, h3⟩ := Option.map_eq_some_iff.1 h1
      obtain ⟨e, he, h4⟩ := Array.any_eq_true'.1 h3
      rw [Bool.and_eq_true, Bool.or_eq_true] at h4
      obtain ⟨hjun, oj, hoj, hall⟩ := mem_ready.1 hj
      rw [ho] at hoj
      cases hoj
      have h5 := hall e he h4.1
      have h6 : l.getD e.on true = false := by
        rcases h4.2 with q | q
        · rw [beq_iff_eq] at q; rw [q]; exact hil
        · exact hl _ (List.contains_iff_mem.1 q)
      rcases Nat.lt_or_ge e.on l.size with h' | h'
      · simp [h'] at h5 h6; rw [h6] at h5; cases h5
      · simp [Array.getElem?_eq_none h'] at h5
    · rw [getD_set_ne true hjk]; exact hl k hk
  · intro l w' hl hh
    exact hh fun s hm => hl s (List.contains_iff_mem.1 (List.all_eq_true.1 hSW s hm))
  · intro j hj
    have := List.all_eq_true.1 hun j hj
    rwa [beq_iff_eq] at this

def AllReadyS (P : Program) (md : Region.Mode) (ops : Array Oper) (Q : Exit → Act → World → Prop) (S : World → Prop) (St : List Nat) (fuel : Nat) (listed : Array Bool) (a : Act) (w : World) (rs : List Nat) : Prop :=
  ∀ i ∈ rs, wpOp P ops Q i (fun a' w' => Hold S St (listed.setIfInBounds i true) w' ∧ wpAnyS P md ops Q S St fuel (listed.setIfInBounds i true) a' w') a w
theorem AllReadyS.nil {fuel : Nat} {listed : Array Bool} {a : Act} {w : World} : AllReadyS P md ops Q S St fuel listed a w [] := fun _ h => by cases h
theorem AllReadyS.cons {fuel : Nat} {listed : Array Bool} {a : Act} {w : World} {i : Nat} {o : Oper} {rs : List Nat} (ho : ops[i]? = some o)
    (h : ∀ K' : Act → World → Prop, Shut (∀ a w, Hold S St (listed.setIfInBounds i true) w → (Hold S St (listed.setIfInBounds i true) w → wpAnyS P md ops Q S St fuel (listed.setIfInBounds i true) a w) → K' a w) → if Region.wanted o (yielded ops a.tmps) = true then Oper.wp P o a w K' Q else K' (a.put o.dst undef) w)
    (hs : AllReadyS P md ops Q S St fuel listed a w rs) : AllReadyS P md ops Q S St fuel listed a w (i :: rs) := fun j hj => by
  rcases List.mem_cons.1 hj with rfl | hj
  · exact wpOp_step ho (fun K' hK => h K' (fun a w hS hW => hK a w ⟨hS, hW hS⟩))
  · exact hs j hj
theorem wpAnyS_ready {rs : List Nat} {fuel : Nat} {listed : Array Bool} {a : Act} {w : World} (hr : Region.ready md ops listed = rs) (hne : rs ≠ [])
    (h : AllReadyS P md ops Q S St fuel listed a w rs) : wpAnyS P md ops Q S St (fuel + 1) listed a w := ⟨fun h0 => absurd (hr ▸ h0) hne, hr ▸ h⟩
theorem wpAnyS_done {listed : Array Bool} {a : Act} {w : World} (hr : Region.ready md ops listed = []) (h : Q .normal a w) :
    ∀ fuel, wpAnyS P md ops Q S St fuel listed a w
  | 0 => ⟨hr, h⟩
  | _ + 1 => ⟨fun _ => h, by rw [hr]; simp⟩
theorem wp_region_S {id : Nat} {a : Act} {w : World} (hm : P.follows .mixedOrders = true) (hS : S w.drew)
    (h : Hold S St (Array.replicate ops.size false) w.drew → wpAnyS P .any ops Q S St ops.size (Array.replicate ops.size false) a w.drew) : (Code.region id ops true).wp P Q a w :=
  wp_region_any hm (wpAny_of_S _ _ _ _ (h fun _ => hS))
/-- A store has come up: nothing more is to be shown. -/
theorem Hold.over {s : Nat} {listed : Array Bool} {w : World} (h : s ∈ St) (hl : listed.getD s true = true) : Hold S St listed w := fun q => by
  have := q s h
  rw [hl] at this
  cases this
theorem Hold.of {listed : Array Bool} {w : World} (h : S w) : Hold S St listed w := fun _ => h
end
end Go.Proofs.YtcmkjjlchljffaaDoor

/- assizekit.LentBytes: a copy of the bytes with three spare bytes of known make behind it. -/
namespace Go.Proofs.YtcmkjjlchljffaaDoor
open Go.RowKit
set_option linter.unusedVariables false

/-- The spare byte at a place. -/
def spareAt (i : Nat) : UInt8 := ub (160 + i % 90)

/-- What lies in memory behind LentBytes. -/
def lent (bs : List UInt8) : List UInt8 := bs ++ [spareAt bs.length, spareAt (bs.length + 1), spareAt (bs.length + 2)]

theorem lent_length (bs : List UInt8) : (lent bs).length = bs.length + 3 := by simp [lent]

theorem lent_spare (bs : List UInt8) (k : Nat) (h1 : bs.length ≤ k) (h2 : k < bs.length + 3) : (lent bs).getD k 0 = spareAt k := by
  obtain ⟨j, rfl⟩ := Nat.exists_eq_add_of_le h1
  have hj : j = 0 ∨ j = 1 ∨ j = 2 := by omega
  unfold lent
  rcases hj with rfl | rfl | rfl <;> simp [List.getD]

/-- A block of the call's own, its cells known: what stands in it. -/
def Blk (w : World) (g : Nat) (cs : List Value) : Prop := w.heap[g]? = some (.cells cs.toArray 5 (0, 0))

theorem Blk.cell {w : World} {g : Nat} {cs : List Value} (h : Blk w g cs) (i : Nat) : w.cell? ⟨g, i, none⟩ = cs[i]? := by
  simp [World.cell?, show w.heap[g]? = _ from h]

theorem Blk.frozen {w : World} {g : Nat} {cs : List Value} (h : Blk w g cs) (i : Nat) : w.frozen? ⟨g, i, none⟩ = false := by
  simp [World.frozen?, show w.heap[g]? = _ from h]

theorem Blk.set {w : World} {g : Nat} {cs : List Value} (h : Blk w g cs) (i : Nat) (v : Value) : Blk (w.setCell ⟨g, i, none⟩ v) g (cs.set i v) := by
  have := heap_setCell_same w g i cs.toArray 5 v h
  unfold Blk
  rw [this]
  simp

theorem Blk.below {w w' : World} {g : Nat} {cs : List Value} (h : Blk w g cs) (hb : Below w.heap.size w w') : Blk w' g cs := by
  unfold Blk at *
  rw [hb.block g ?_]
  · exact h
  · rcases Nat.lt_or_ge g w.heap.size with hlt | hge
    · exact hlt
    · rw [Array.getElem?_eq_none hge] at h; simp at h

theorem set_step (bs : List UInt8) (cs : List Value) (k : Nat) (hk : bs.length ≤ k) (hk3 : k < bs.length + 3) (hl : cs.length = bs.length + 3) (h : cs.take k = ((lent bs).take k).map B8) :
    (cs.set k (.int .u8 (160 + (k : Int) % 90))).take (k + 1) = ((lent bs).take (k + 1)).map B8 := by
  have hlen := lent_length bs
  rw [List.take_succ_eq_append_getElem (by simp; omega), List.take_succ_eq_append_getElem (by omega), List.map_append, ← h]
  congr 1
  · rw [List.take_set_of_le (by omega)]
  · have e := lent_spare bs k hk hk3
    simp [List.getD, List.getElem?_eq_getElem (show k < (lent bs).length by omega)] at e
    simp [B8, e, spareAt]
    rw [ub_toNat _ (by omega)]
    omega

end Go.Proofs.YtcmkjjlchljffaaDoor

/- assizekit.SameBytes: it tells whether two slices of bytes hold the same bytes. -/
namespace Go.Proofs.YtcmkjjlchljffaaDoor
open Go.RowKit
set_option linter.unusedVariables false

theorem strOfNums_bytes (bs : List UInt8) : strOfNums (bs.map fun b => (b.toNat : Int)) = ⟨bs.toArray⟩ := by
  unfold strOfNums
  congr 2
  rw [List.map_map]
  conv => rhs; rw [← List.map_id bs]
  apply List.map_congr_left
  intro b _
  simp

theorem conv_zero (w : World) (a : Option Addr) (c : Nat) : (convert 29 9 (.slice a 0 c)).run Tryd.prog w = .ok (.string ⟨#[]⟩) w := by
  rw [run_convert_bytes_string w 29 9 5 a 0 c Tryd.underlying29 Tryd.underlying5 Tryd.underlying9]
  cases a with
  | none => simp [Conv.bytesToString]; rfl
  | some p =>
    have := run_bytesToString (P := Tryd.prog) w p 0 c [] (by have := run_loadCells_list (P := Tryd.prog) w p [] (fun j v hj => by simp at hj); simpa using this)
    rw [this]
    rfl

theorem conv_row {w : World} {a : Option Addr} {bs : List UInt8} (h : Row w a bs) (c : Nat) : (convert 29 9 (.slice a bs.length c)).run Tryd.prog w = .ok (.string ⟨bs.toArray⟩) w := by
  rcases h with rfl | ⟨b, off, rfl, hc⟩
  · exact conv_zero w a c
  · have := run_convert_bytes_arg (P := Tryd.prog) w 29 5 Tryd.underlying29 Tryd.underlying5 b off bs.length c (bs.map fun b => (b.toNat : Int)) (by simp)
      (fun i hi => by rw [hc i hi]; simp [List.getD, List.getElem?_map, List.getElem?_eq_getElem hi]) 9 Tryd.underlying9
    rw [this, strOfNums_bytes]

set_option maxRecDepth 100000 in
set_option maxHeartbeats 400000 in
theorem same_any (a1 a2 : Option Addr) (c1 c2 : Nat) (bs cs : List UInt8) (w : World) (h1 : Row w a1 bs) (h2 : Row w a2 cs) :
    Calls Tryd.prog 31 #[.slice a1 bs.length c1, .slice a2 cs.length c2] w fun e w' => e = .returned (.bool (bs == cs)) ∧ w' = w := by
  have k1 := conv_row h1 c1
  have k2 := conv_row h2 c2
  go_enter Tryd.func31, Tryd.ntmps31
  go_wp2
  go_ret
  exact ⟨rfl, rfl⟩
end Go.Proofs.YtcmkjjlchljffaaDoor

/- assizekit.KeptBytes: what was lent and not written is found as it was. -/
namespace Go.Proofs.YtcmkjjlchljffaaDoor
open Go.RowKit
set_option linter.unusedVariables false
attribute [local go_sem ↓] Go.wp_at_zero Go.wp_at_succ

theorem Blk.row {w : World} {g : Nat} {bs : List UInt8} (h : Blk w g (bs.map B8)) (k : Nat) (hk : k ≤ bs.length) : Row w (some ⟨g, 0, none⟩) (bs.take k) := by
  refine .inr ⟨g, 0, rfl, fun j hj => ?_⟩
  have hj' : j < bs.length := by simp at hj; omega
  have hjk : j < k := by simp at hj; omega
  rw [Nat.zero_add, h.cell j]
  simp [B8, List.getD, List.getElem?_take_of_lt hjk, List.getElem?_eq_getElem hj']

theorem Blk.row_all {w : World} {g : Nat} {bs : List UInt8} (h : Blk w g (bs.map B8)) : Row w (some ⟨g, 0, none⟩) bs := by
  have := h.row bs.length (Nat.le_refl _)
  rwa [List.take_length] at this

theorem same_len (a1 a2 : Option Addr) (n1 n2 c1 c2 : Nat) (bs cs : List UInt8) (w : World) (h1 : Row w a1 bs) (h2 : Row w a2 cs) (e1 : bs.length = n1) (e2 : cs.length = n2) :
    Calls Tryd.prog 31 #[.slice a1 n1 c1, .slice a2 n2 c2] w fun e w' => e = .returned (.bool (bs == cs)) ∧ w' = w := by
  subst e1 e2
  exact same_any a1 a2 c1 c2 bs cs w h1 h2

theorem Row.drew {w : World} {a : Option Addr} {bs : List UInt8} (h : Row w a bs) : Row w.drew a bs := h
theorem Blk.drew {w : World} {g : Nat} {cs : List Value} (h : Blk w g cs) : Blk w.drew g cs := h

end Go.Proofs.YtcmkjjlchljffaaDoor

/- Rows of elements of any kind; what may be changed; objects that stay as they are while others change. -/
namespace Go.Proofs.YtcmkjjlchljffaaDoor
open Go.RowKit
set_option linter.unusedVariables false

theorem hidU {p : Prop} (h : p) : Hid p := h
/-- All blocks stand but those of K. -/
structure Chg (K : Nat → Prop) (w w' : World) : Prop where
  os : w'.os = w.os
  tape : w'.tape = w.tape
  output : w'.output = w.output
  size : w.heap.size ≤ w'.heap.size
  block : ∀ k, k < w.heap.size → ¬ K k → w'.heap[k]? = w.heap[k]?
section
variable {K K' : Nat → Prop} {a b c w w' : World} {B g : Nat}
theorem Chg.refl (K : Nat → Prop) (w : World) : Chg K w w := ⟨rfl, rfl, rfl, Nat.le_refl _, fun _ _ _ => rfl⟩
theorem Chg.trans (h : Chg K a b) (k : Chg K b c) : Chg K a c :=
  ⟨k.os.trans h.os, k.tape.trans h.tape, k.output.trans h.output, Nat.le_trans h.size k.size, fun i hi hn => (k.block i (Nat.lt_of_lt_of_le hi h.size) hn).trans (h.block i hi hn)⟩
/-- What is changed later may be new. -/
theorem Chg.more (h : Chg K a b) (k : Chg K' b c) (hK : ∀ i, i < a.heap.size → K' i → K i) : Chg K a c :=
  ⟨k.os.trans h.os, k.tape.trans h.tape, k.output.trans h.output, Nat.le_trans h.size k.size, fun i hi hn => (k.block i (Nat.lt_of_lt_of_le hi h.size) fun q => hn (hK i hi q)).trans (h.block i hi hn)⟩
theorem Chg.mono (h : Chg K a b) (hK : ∀ i, i < a.heap.size → K i → K' i) : Chg K' a b := ⟨h.os, h.tape, h.output, h.size, fun i hi hn => h.block i hi fun q => hn (hK i hi q)⟩
theorem Chg.of_below (h : Below w.heap.size w w') : Chg K w w' := ⟨h.os, h.tape, h.output, h.size, fun k hk _ => h.block k hk⟩
theorem Chg.of_but (h : But g w w') (hg : K g) : Chg K w w' := ⟨h.os, h.tape, h.output, h.size, fun k hk hn => h.block k hk fun e => hn (e ▸ hg)⟩
theorem Chg.of_grown {r : Option Nat} (h : w.grownBy w' r) (hg : ∀ k, r = some k → K k) : Chg K w w' := ⟨h.os, h.tape, h.output, h.size, fun k hk hn => h.block k hk fun e => hn (hg k e.symm)⟩
theorem Chg.below (h : Chg K w w') (hB : B ≤ w.heap.size) (hK : ∀ k, K k → B ≤ k) : Below B w w' :=
  ⟨h.os, h.tape, h.output, h.size, fun k hk => h.block k (by omega) fun q => by have := hK k q; omega⟩
theorem Chg.drewN (h : Chg K a w) (n : Nat) : Chg K a (w.drewN n) := ⟨h.os, h.tape, h.output, h.size, h.block⟩
end
theorem heapLt {w : World} {g : Nat} {o : Obj} (h : w.heap[g]? = some o) : g < w.heap.size := (Array.getElem?_eq_some_iff.1 h).1
theorem At.ne {t t' : TypeId} {w : World} {g g' : Nat} {cs cs' : List Value} (h : At t w g cs) (h' : At t' w g' cs') (ht : t ≠ t') : g ≠ g' := by
  rintro rfl
  unfold At at h h'
  rw [h] at h'
  injection h' with h1
  injection h1 with h2 h3
  exact ht h3
theorem At.same {t : TypeId} {w w' : World} {g : Nat} {cs : List Value} (h : At t w g cs) (e : w'.heap[g]? = w.heap[g]?) : At t w' g cs := e.trans h
theorem Row.same {w w' : World} {a : Option Addr} {bs : List UInt8} (h : Row w a bs) (e : ∀ ad, a = some ad → w'.heap[ad.block]? = w.heap[ad.block]?) : Row w' a bs := by
  rcases h with h | ⟨b, off, rfl, hc⟩
  · exact .inl h
  · exact .inr ⟨b, off, rfl, fun j hj => by rw [World.cell?_of_block (w := w) (a := ⟨b, off + j, none⟩) (e ⟨b, off, none⟩ rfl)]; exact hc j hj⟩
theorem add_none (g o j : Nat) : (⟨g, o, none⟩ : Addr).add j = ⟨g, o + j, none⟩ := by unfold Addr.add; split <;> simp_all
/-- What an object reads and writes: W is written, F is read; each later state of it has no other blocks but new ones. -/
structure Moves (w : World) (W F : Nat → Prop) (w' : World) (W' F' : Nat → Prop) : Prop where
  chg : Chg W w w'
  wr : ∀ k, W' k → W k ∨ w.heap.size ≤ k
  rd : ∀ k, F' k → F k ∨ w.heap.size ≤ k
section
variable {w w1 w2 : World} {W F W1 F1 W2 F2 : Nat → Prop}
theorem Moves.refl (w : World) (W F : Nat → Prop) : Moves w W F w W F := ⟨Chg.refl _ _, fun _ h => .inl h, fun _ h => .inl h⟩
theorem Moves.of_below (h : Below w.heap.size w w1) : Moves w W F w1 W F := ⟨Chg.of_below h, fun _ h => .inl h, fun _ h => .inl h⟩
theorem Moves.trans (h : Moves w W F w1 W1 F1) (k : Moves w1 W1 F1 w2 W2 F2) : Moves w W F w2 W2 F2 :=
  ⟨h.chg.more k.chg fun i hi q => (h.wr i q).resolve_right (by omega),
   fun i q => (k.wr i q).elim (h.wr i) fun q => .inr (Nat.le_trans h.chg.size q),
   fun i q => (k.rd i q).elim (h.rd i) fun q => .inr (Nat.le_trans h.chg.size q)⟩
theorem Moves.more {w0 : World} (h : Moves w W F w1 W1 F1) (k : Below w1.heap.size w1 w2) : Moves w W F w2 W1 F1 := h.trans (.of_below k)
end
/-- Two objects of which neither writes what the other reads. -/
structure Apart (W F W' F' : Nat → Prop) : Prop where
  one : ∀ k, W k → F' k → False
  two : ∀ k, W' k → F k → False
theorem Apart.symm {W F W' F' : Nat → Prop} (h : Apart W F W' F') : Apart W' F' W F := ⟨h.two, h.one⟩
theorem Apart.moves {w w1 : World} {W F W1 F1 W' F' : Nat → Prop} (h : Apart W F W' F') (m : Moves w W F w1 W1 F1) (hF : ∀ k, F' k → k < w.heap.size) (hW : ∀ k, W' k → k < w.heap.size) : Apart W1 F1 W' F' :=
  ⟨fun k h1 h2 => (m.wr k h1).elim (fun q => h.one k q h2) fun q => by have := hF k h2; omega, fun k h1 h2 => (m.rd k h2).elim (fun q => h.two k h1 q) fun q => by have := hW k h1; omega⟩
/-- What another object moved is not what this one reads. -/
theorem Apart.stands {w w1 : World} {W F W1 F1 W' F' : Nat → Prop} (h : Apart W F W' F') (m : Moves w W F w1 W1 F1) (hF : ∀ k, F' k → k < w.heap.size) : ∀ k, F' k → w1.heap[k]? = w.heap[k]? :=
  fun k hk => m.chg.block k (hF k hk) fun q => h.one k q hk

/-- Elements of a row: the type of the row and of an element, the cells that one has. -/
structure El (α : Type) where
  T : TypeId
  E : TypeId
  n : Nat
  by_ : Nat
  z : Value
  cl : α → List Value
  len : ∀ x, (cl x).length = n
  one : ∀ x, ∀ v ∈ cl x, v.oneCell' = true
  und : Tryd.prog.underlying T = some (.slice E)
  info : (Tryd.prog.info? E).map (fun i => (i.zero, i.size, i.bytes)) = some (some z, n, by_)
  zs : z.cells.size = n
  pos : 0 < n
section
variable {α : Type} {e : El α} {w w' : World} {a : Option Addr} {xs ys : List α} {base : Nat} {v : Value}
def El.flat (e : El α) (xs : List α) : List Value := xs.flatMap e.cl
theorem flat_len (e : El α) : ∀ xs : List α, (e.flat xs).length = xs.length * e.n
  | [] => by simp [El.flat]
  | x :: xs => by
    have := flat_len e xs
    simp only [El.flat, List.flatMap_cons, List.length_append, List.length_cons] at this ⊢
    rw [this, e.len, Nat.add_mul, Nat.one_mul, Nat.add_comm]
theorem flat_app (e : El α) (xs ys : List α) : e.flat (xs ++ ys) = e.flat xs ++ e.flat ys := by simp [El.flat]
theorem flat_at (e : El α) : ∀ (xs : List α) (i : Nat) (x : α), xs[i]? = some x → ∀ j v, (e.cl x)[j]? = some v → (e.flat xs)[i * e.n + j]? = some v
  | [], _, _, h, _, _, _ => by simp at h
  | y :: xs, 0, x, h, j, v, hj => by
    simp at h
    subst h
    have := (List.getElem?_eq_some_iff.1 hj).1
    simp only [El.flat, List.flatMap_cons, Nat.zero_mul, Nat.zero_add]
    rw [List.getElem?_append_left this]
    exact hj
  | y :: xs, i + 1, x, h, j, v, hj => by
    have ih := flat_at e xs i x (by simpa using h) j v hj
    simp only [El.flat, List.flatMap_cons] at ih ⊢
    rw [List.getElem?_append_right (by rw [e.len, Nat.add_mul]; omega), e.len, show (i + 1) * e.n + j - e.n = i * e.n + j by rw [Nat.add_mul]; omega]
    exact ih
theorem flat_one (e : El α) (xs : List α) : ∀ v ∈ e.flat xs, v.oneCell' = true := by
  intro v hv
  obtain ⟨x, _, hx⟩ := List.mem_flatMap.1 hv
  exact e.one x v hx
/-- A row that is read. -/
def RowX (e : El α) (w : World) (a : Option Addr) (xs : List α) : Prop := xs = [] ∨ ∃ g o, a = some ⟨g, o, none⟩ ∧ w.rangeAt g o (e.flat xs)
theorem RowX.at (h : RowX e w a xs) {i : Nat} {x : α} (hx : xs[i]? = some x) : ∃ g o, a = some ⟨g, o, none⟩ ∧ w.rangeAt g (o + i * e.n) (e.cl x) := by
  rcases h with rfl | ⟨g, o, rfl, hr⟩
  · simp at hx
  · refine ⟨g, o, rfl, fun j v hj => ?_⟩
    rw [Nat.add_assoc]
    exact hr _ _ (flat_at e xs i x hx j v hj)
theorem RowX.same (h : RowX e w a xs) (k : ∀ ad, a = some ad → w'.heap[ad.block]? = w.heap[ad.block]?) : RowX e w' a xs := by
  rcases h with h | ⟨g, o, rfl, hr⟩
  · exact .inl h
  · exact .inr ⟨g, o, rfl, fun j v hj => by rw [World.cell?_of_block (w := w) (a := ⟨g, o + j, none⟩) (k ⟨g, o, none⟩ rfl)]; exact hr j v hj⟩
theorem RowX.below (h : RowX e w a xs) (hb : Below w.heap.size w w') : RowX e w' a xs := by
  rcases h with h | ⟨g, o, rfl, hr⟩
  · exact .inl h
  · exact .inr ⟨g, o, rfl, fun j v hj => by rw [hb.cell (lt_of_cell (hr j v hj))]; exact hr j v hj⟩
/-- A row of the call's own. -/
def OwnX (e : El α) (base : Nat) (w : World) (v : Value) (xs : List α) : Prop := w.ownsRow base e.E e.n v xs.length (e.flat xs)
theorem OwnX.nil (e : El α) (base : Nat) (w : World) : OwnX e base w (.slice none 0 0) [] := World.ownsRow_nil _ _ _ _
theorem OwnX.block (h : OwnX e base w v xs) : ∀ k, v.ownBlock = some k → base ≤ k ∧ k < w.heap.size ∧ ∃ cs, At e.E w k cs := by
  intro k hk
  obtain ⟨_, ⟨rfl, _⟩ | ⟨g, cap, cur, rfl, hg, hh, _⟩⟩ := h
  · simp [Value.ownBlock] at hk
  · simp [Value.ownBlock] at hk
    subst hk
    exact ⟨hg, heapLt hh, cur.toList, by unfold At; simpa using hh⟩
theorem OwnX.same (h : OwnX e base w v xs) (k : ∀ k, v.ownBlock = some k → w'.heap[k]? = w.heap[k]?) : OwnX e base w' v xs := by
  obtain ⟨h1, ⟨rfl, h0⟩ | ⟨g, cap, cur, rfl, hg, hh, hr⟩⟩ := h
  · exact ⟨h1, .inl ⟨rfl, h0⟩⟩
  · exact ⟨h1, .inr ⟨g, cap, cur, rfl, hg, (k g rfl).trans hh, hr⟩⟩
theorem OwnX.below (h : OwnX e base w v xs) (hb : Below w.heap.size w w') : OwnX e base w' v xs := h.same fun k hk => hb.block k (h.block k hk).2.1
theorem OwnX.less {b' : Nat} (h : OwnX e base w v xs) (hb : b' ≤ base) : OwnX e b' w v xs := by
  obtain ⟨h1, ⟨rfl, h0⟩ | ⟨g, cap, cur, rfl, hg, hr⟩⟩ := h
  · exact ⟨h1, .inl ⟨rfl, h0⟩⟩
  · exact ⟨h1, .inr ⟨g, cap, cur, rfl, Nat.le_trans hb hg, hr⟩⟩
theorem OwnX.row (h : OwnX e base w v xs) : ∃ a cap, v = .slice a xs.length cap ∧ xs.length ≤ cap ∧ cap ≤ maxLen ∧ (a = none → cap = 0) ∧ (∀ ad, a = some ad → v.ownBlock = some ad.block) ∧ RowX e w a xs := by
  obtain ⟨h1, ⟨rfl, h0⟩ | ⟨g, cap, cur, rfl, hg, hh, hc, hm, hs, ht⟩⟩ := h
  · have : xs = [] := List.length_eq_zero_iff.1 h0
    subst this
    exact ⟨none, 0, rfl, Nat.le_refl _, Nat.zero_le _, fun _ => rfl, fun ad h => (by cases h), .inl rfl⟩
  · refine ⟨_, cap, rfl, hc, hm, fun h => (by cases h), fun ad h => (by cases h; rfl), .inr ⟨g, 0, rfl, fun j v hj => ?_⟩⟩
    rw [← ht] at hj
    have hlt := (List.getElem?_eq_some_iff.1 hj).1
    rw [List.length_take] at hlt
    rw [List.getElem?_take_of_lt (by omega)] at hj
    simp only [World.cell?, hh, Nat.zero_add]
    simpa using hj
end
section
variable {α : Type} {e : El α} {o : Oper} {a : Act} {w : World} {K : Act → World → Prop} {Q : Exit → Act → World → Prop} {xs ys : List α}
theorem wp_appX (e : El α) (s x : Operand) (ho : o.op = .call { callee := .builtin .append, args := #[s, x], argTypes := #[e.T, e.T] }) (base : Nat) (v : Value) (b : Option Addr) (m c : Nat)
    (hs : a.eval s = v) (hx : a.eval x = .slice b m c) (hown : OwnX e base w v xs) (hm : ys.length = m) (hnil : b = none → c = 0) (hc : m ≤ c) (hrow : RowX e w b ys) (h63 : xs.length + m ≤ maxLen) (hl : (xs.length + m) * e.by_ ≤ 140737488355328) (hbase : base ≤ w.heap.size)
    (h : ∀ v' w', OwnX e base w' v' (xs ++ ys) → w.grownBy w' v.ownBlock → K (a.put o.dst v') w') : o.wp Tryd.prog a w K Q := by
  obtain ⟨i0, hi, hz0, hz1, hz2⟩ := info_parts e.info
  cases b with
  | none =>
    obtain rfl : c = 0 := hnil rfl
    obtain rfl : m = 0 := by omega
    have hf : ys = [] := List.length_eq_zero_iff.1 hm
    subst hf
    have := h v w (by rw [List.append_nil]; exact hown) ⟨rfl, rfl, rfl, Nat.le_refl _, fun _ _ _ => rfl⟩
    have hrun := run_append_owned_none (P := Tryd.prog) (w := w) base e.T o.type e.E i0 e.n e.und hi v xs.length (e.flat xs) hown
    unfold Oper.wp
    simp [execOp, ho, resolve, invoke, builtin, hs, hx, hrun, Result.andThen]
    exact this
  | some ad =>
    have hnews : ∀ j u, (e.flat ys)[j]? = some u → w.cell? (ad.add j) = some u := by
      intro j u hj
      rcases hrow with h0 | ⟨g, off, hb, hr⟩
      · rw [h0] at hj; simp [El.flat] at hj
      · cases hb
        rw [add_none]
        exact hr j u hj
    refine wp_append_own w s x e.T ho base e.E i0 _ e.n e.by_ e.und hi hz0 hz1 hz2 e.zs e.pos v xs.length (e.flat xs) hs hown ad m c (e.flat ys) hx (by rw [flat_len, hm]) hnews (flat_one e ys) h63 hl hbase ?_
    intro v' w' h1 h2 _
    refine h v' w' ?_ h2
    unfold OwnX
    rw [List.length_append, hm, flat_app]
    exact h1
theorem wpList_appX {ops : Array Oper} {rest : List Oper} (e : El α) (hgd : o.guard = none) (s x : Operand) (ho : o.op = .call { callee := .builtin .append, args := #[s, x], argTypes := #[e.T, e.T] }) (base : Nat) (v : Value) (b : Option Addr) (m c : Nat)
    (hs : a.eval s = v) (hx : a.eval x = .slice b m c) (hown : OwnX e base w v xs) (hm : ys.length = m) (hnil : b = none → c = 0) (hc : m ≤ c) (hrow : RowX e w b ys) (h63 : xs.length + m ≤ maxLen) (hl : (xs.length + m) * e.by_ ≤ 140737488355328) (hbase : base ≤ w.heap.size)
    (h : ∀ v' w', OwnX e base w' v' (xs ++ ys) → w.grownBy w' v.ownBlock → wpList Tryd.prog ops Q rest (a.put o.dst v') w') : wpList Tryd.prog ops Q (o :: rest) a w :=
  wpList_plain hgd fun _ hK => wp_appX e s x ho base v b m c hs hx hown hm hnil hc hrow h63 hl hbase fun v' w' h1 h2 => hK _ _ (h v' w' h1 h2)
end
theorem run_storeVar_cell {P : Program} (w : World) (b o : Nat) (ty : TypeId) (v : Value) (ht : w.there b o 1) (hi : (P.info? ty).map (·.size) = some 1) (hc : v.cells = #[v]) (h1 : v.oneCell' = true) :
    (storeVar ty ⟨b, o, none⟩ v).run P w = .ok () (w.setCell ⟨b, o, none⟩ v) := by
  have := run_storeCells_cells (P := P) b o [v] 0 w (fun j hj => by simpa using (ht j (by simpa using hj)).1) (fun j hj => by simpa using (ht j (by simpa using hj)).2) (fun u hu => by simp at hu; subst hu; exact h1)
  cases hq : P.info? ty with
  | none => simp [hq] at hi
  | some i =>
    have hs : i.size = 1 := by simp [hq] at hi; omega
    simp only [Nat.add_zero] at this
    simp [storeVar, sizeOf, typeInfo, hq, hc, hs, this, World.setCells]
section
variable {o : Oper} {a : Act} {w : World} {K : Act → World → Prop} {Q : Exit → Act → World → Prop}
theorem wp_store_one (ty : TypeId) (x y : Operand) (ho : o.op = .store ty x y)
    (g off : Nat) (v : Value) (hx : a.eval x = .pointer (some ⟨g, off, none⟩)) (hy : a.eval y = v)
    (t : TypeId) (old : List Value) (hg : At t w g old) (hold : off + 1 ≤ old.length) (hi : (Tryd.prog.info? ty).map (·.size) = some 1) (hc : v.cells = #[v]) (h1 : v.oneCell' = true)
    (h : ∀ w', At t w' g (old.set off v) → But g w w' → w'.heap.size = w.heap.size → K (a.put o.dst undef) w') : o.wp Tryd.prog a w K Q := by
  have := h _ (hg.set off v) ((But.refl g w).setCell off v) (by simp)
  unfold Oper.wp execOp
  simp only [ho, hx, hy, Instr.storeAt, Instr.sureAddr, Sem.run_bind, Sem.run_pure, Result.andThen_ok, run_storeVar_cell w g off ty v (hg.there off 1 hold) hi hc h1]
  exact this
theorem wpList_store1 {ops : Array Oper} {rest : List Oper} (hgd : o.guard = none) (ty : TypeId) (x y : Operand) (ho : o.op = .store ty x y)
    (g off : Nat) (v : Value) (hx : a.eval x = .pointer (some ⟨g, off, none⟩)) (hy : a.eval y = v)
    (t : TypeId) (old : List Value) (hg : At t w g old) (hold : off + 1 ≤ old.length) (hi : (Tryd.prog.info? ty).map (·.size) = some 1) (hc : v.cells = #[v]) (h1 : v.oneCell' = true)
    (h : ∀ w', At t w' g (old.set off v) → But g w w' → w'.heap.size = w.heap.size → wpList Tryd.prog ops Q rest (a.put o.dst undef) w') : wpList Tryd.prog ops Q (o :: rest) a w := by
  refine wpList_plain hgd fun K hK => ?_
  exact wp_store_one ty x y ho g off v hx hy t old hg hold hi hc h1 fun w' h1 h2 h3 => hK _ _ (h w' h1 h2 h3)
end
theorem i3 : (Tryd.prog.info? 3).map (·.size) = some 1 := by kernel_rfl
theorem i4 : (Tryd.prog.info? 4).map (·.size) = some 1 := by kernel_rfl
theorem i30 : (Tryd.prog.info? 29).map (·.size) = some 1 := by kernel_rfl
def eB : El UInt8 := ⟨29, 5, 1, 1, .int .u8 0, fun b => [B8 b], fun _ => rfl, fun x v hv => by simp at hv; subst hv; rfl, by kernel_rfl, by kernel_rfl, rfl, by decide⟩
theorem eB_flat (bs : List UInt8) : eB.flat bs = bs.map B8 := by
  induction bs with
  | nil => rfl
  | cons b bs ih => simp only [El.flat, List.flatMap_cons, List.map_cons] at ih ⊢; rw [ih]; rfl
theorem rowB {w : World} {a : Option Addr} {bs : List UInt8} : RowX eB w a bs ↔ Row w a bs := by
  constructor
  · rintro (h | ⟨g, o, rfl, hr⟩)
    · exact .inl h
    · refine .inr ⟨g, o, rfl, fun j hj => ?_⟩
      have := hr j (B8 (bs.getD j 0)) (by rw [eB_flat, List.getElem?_map, List.getElem?_eq_getElem hj]; simp [List.getD, List.getElem?_eq_getElem hj])
      exact this
  · rintro (h | ⟨g, o, rfl, hr⟩)
    · exact .inl h
    · refine .inr ⟨g, o, rfl, fun j v hj => ?_⟩
      rw [eB_flat, List.getElem?_map] at hj
      cases hb : bs[j]? with
      | none => rw [hb] at hj; cases hj
      | some b =>
        rw [hb] at hj
        cases hj
        have hlt := (List.getElem?_eq_some_iff.1 hb).1
        have := hr j hlt
        rw [this]
        simp [List.getD, hb, B8]
theorem own_lay0 {α : Type} (e : El α) (w : World) : OwnX e w.heap.size (w.alloc (.cells #[] e.E)) (.slice (some ⟨w.heap.size, 0, none⟩) 0 0) [] :=
  ⟨by simp [El.flat], .inr ⟨w.heap.size, 0, #[], rfl, Nat.le_refl _, _root_.Go.heap_alloc_new w _, Nat.le_refl _, by unfold maxLen; omega, by simp, by simp [El.flat]⟩⟩
theorem wp_layB0 {o : Oper} {a : Act} {w : World} {K : Act → World → Prop} {Q : Exit → Act → World → Prop} (ho : o.op = .buildSlice 29 0 #[])
    (h : ∀ w', OwnX eB w.heap.size w' (.slice (some ⟨w.heap.size, 0, none⟩) 0 0) [] → Below w.heap.size w w' → w'.heap.size = w.heap.size + 1 → K (a.put o.dst (.slice (some ⟨w.heap.size, 0, none⟩) 0 0)) w') : o.wp Tryd.prog a w K Q := by
  have := h _ (own_lay0 eB w) ((Below.refl _ w).alloc (Nat.le_refl _) _) (by simp)
  unfold Oper.wp execOp
  rw [ho]
  go_simp
  exact this
theorem wpList_layB0 {ops : Array Oper} {rest : List Oper} {o : Oper} {a : Act} {w : World} {Q : Exit → Act → World → Prop} (hgd : o.guard = none) (ho : o.op = .buildSlice 29 0 #[])
    (h : ∀ w', OwnX eB w.heap.size w' (.slice (some ⟨w.heap.size, 0, none⟩) 0 0) [] → Below w.heap.size w w' → w'.heap.size = w.heap.size + 1 → wpList Tryd.prog ops Q rest (a.put o.dst (.slice (some ⟨w.heap.size, 0, none⟩) 0 0)) w') : wpList Tryd.prog ops Q (o :: rest) a w :=
  wpList_plain hgd fun _ hK => wp_layB0 ho fun w' h1 h2 h3 => hK _ _ (h w' h1 h2 h3)
theorem ownB {base : Nat} {w : World} {v : Value} {bs : List UInt8} : OwnX eB base w v bs ↔ Own base w v bs := by
  unfold OwnX Own
  rw [eB_flat]
  exact Iff.rfl
theorem below_drN {B n : Nat} {w w' : World} (h : Below B w w') : Below B w (w'.drewN n) := ⟨h.os, h.tape, h.output, h.size, h.block⟩
end Go.Proofs.YtcmkjjlchljffaaDoor

/- The given answer's disk in memory; its small functions. -/
namespace Go.Proofs.YtcmkjjlchljffaaDoor
open Go.RowKit
set_option linter.unusedVariables false

/-- A file. -/
structure Fi where
  nm : ByteArray
  bs : List UInt8
  sf : Nat
  hd : Bool
/-- A file, and where its bytes lie. -/
structure FT where
  nm : ByteArray
  ad : Option Addr
  bs : List UInt8
  cp : Nat
  sf : Nat
  hd : Bool
def FT.fi (f : FT) : Fi := ⟨f.nm, f.bs, f.sf, f.hd⟩
def FT.cells (f : FT) : List Value := [.string f.nm, .slice f.ad f.bs.length f.cp, .int .i64 (f.sf : Int), .bool f.hd]
theorem FT.one (f : FT) : ∀ v ∈ f.cells, v.oneCell' = true := by
  intro v hv
  simp [FT.cells] at hv
  rcases hv with rfl | rfl | rfl | rfl <;> rfl
def eF : El FT := ⟨59, 70, 4, 56, .agg #[.string ⟨#[]⟩, .slice none 0 0, .int .i64 0, .bool false], FT.cells, fun _ => rfl, FT.one, by kernel_rfl, by kernel_rfl, rfl, by decide⟩
/-- A disk: its size, files, for how many writes there is power (-1: for all), how many were done. -/
structure Dk where
  sz : Nat
  fs : List Fi
  lf : Int
  wr : Nat
def usedL (fs : List Fi) : Nat := (fs.map (·.bs.length)).sum
def isN (nm : ByteArray) (f : Fi) : Bool := f.nm.toList == nm.toList
def atZ (fs : List Fi) (nm : ByteArray) : Int := if fs.findIdx (isN nm) < fs.length then (fs.findIdx (isN nm) : Nat) else -1
/-- The given answer's disk. -/
structure RDv (B : Nat) (w : World) (g : Nat) (W F : Nat → Prop) (v : Value) (ts : List FT) (d : Dk) : Prop where
  at_ : At 61 w g [.int .i64 (d.sz : Int), v, .int .i64 d.lf, .int .i64 (d.wr : Int)]
  own : OwnX eF B w v ts
  fs : ts.map FT.fi = d.fs
  ins : ∀ f ∈ ts, Row w f.ad f.bs ∧ (∀ ad, f.ad = some ad → F ad.block ∧ ¬ W ad.block) ∧ f.bs.length ≤ f.cp ∧ (f.ad = none → f.cp = 0)
  wg : W g
  wv : ∀ k, v.ownBlock = some k → W k
  wf : ∀ k, W k → F k ∧ B ≤ k
  lt : ∀ k, F k → k < w.heap.size
def RD (B : Nat) (w : World) (g : Nat) (W F : Nat → Prop) (d : Dk) : Prop := ∃ v ts, RDv B w g W F v ts d
section
variable {B g : Nat} {w w' : World} {W F : Nat → Prop} {v : Value} {ts : List FT} {d : Dk}
theorem RDv.same (h : RDv B w g W F v ts d) (k : ∀ k, F k → w'.heap[k]? = w.heap[k]?) (hs : w.heap.size ≤ w'.heap.size) : RDv B w' g W F v ts d :=
  ⟨h.at_.same (k g (h.wf g h.wg).1), h.own.same fun i hi => k i (h.wf i (h.wv i hi)).1, h.fs,
   fun f hf => ⟨(h.ins f hf).1.same fun ad ha => k _ ((h.ins f hf).2.1 ad ha).1, (h.ins f hf).2⟩, h.wg, h.wv, h.wf, fun i hi => Nat.lt_of_lt_of_le (h.lt i hi) hs⟩
theorem RD.same (h : RD B w g W F d) (k : ∀ k, F k → w'.heap[k]? = w.heap[k]?) (hs : w.heap.size ≤ w'.heap.size) : RD B w' g W F d := by
  obtain ⟨v, ts, h⟩ := h
  exact ⟨v, ts, h.same k hs⟩
theorem RDv.below (h : RDv B w g W F v ts d) (hb : Below w.heap.size w w') : RDv B w' g W F v ts d := h.same (fun k hk => hb.block k (h.lt k hk)) hb.size
theorem RD.below (h : RD B w g W F d) (hb : Below w.heap.size w w') : RD B w' g W F d := by
  obtain ⟨v, ts, h⟩ := h
  exact ⟨v, ts, h.below hb⟩
theorem RDv.len (h : RDv B w g W F v ts d) : ts.length = d.fs.length := by rw [← h.fs, List.length_map]
theorem RDv.get (h : RDv B w g W F v ts d) {i : Nat} {f : FT} (hf : ts[i]? = some f) : d.fs[i]? = some f.fi := by rw [← h.fs, List.getElem?_map, hf]; rfl
end
theorem range4 {w : World} {g o : Nat} {a b c d : Value} (h : w.rangeAt g o [a, b, c, d]) : w.cell? ⟨g, o, none⟩ = some a ∧ w.cell? ⟨g, o + 1, none⟩ = some b ∧ w.cell? ⟨g, o + 2, none⟩ = some c ∧ w.cell? ⟨g, o + 3, none⟩ = some d :=
  ⟨h 0 a rfl, h 1 b rfl, h 2 c rfl, h 3 d rfl⟩

set_option maxRecDepth 100000 in
set_option maxHeartbeats 3200000 in
theorem refAt_any (B g : Nat) (W F : Nat → Prop) (d : Dk) (nm : ByteArray) (w : World) (h : RD B w g W F d) (hl : d.fs.length ≤ 1048576) :
    Calls Tryd.prog 40 #[.pointer (some ⟨g, 0, none⟩), .string nm] w fun r w' => r = .returned (.int .i64 (atZ d.fs nm)) ∧ w' = w := by
  obtain ⟨v, ts, h⟩ := h
  obtain ⟨a, c, rfl, hc1, hc2, hc3, hc4, hrow⟩ := h.own.row
  obtain ⟨R, hR⟩ : ∃ R, Hid (R = atZ d.fs nm) := ⟨_, (rfl : _ = atZ _ _)⟩
  rw [← hR.out]
  obtain ⟨m, hm⟩ : ∃ n, Hid (n = ts.length) := ⟨_, (rfl : ts.length = _)⟩
  have hlm : m ≤ 1048576 := by rw [hm.out, h.len]; exact hl
  have cL := h.at_.cell 1
  simp only [List.getElem?_cons_succ, List.getElem?_cons_zero] at cL
  rw [← hm.out] at cL hc1
  have HR : Hid (RowX eF w a ts) := hrow
  have HF : Hid (ts.map FT.fi = d.fs) := h.fs
  clear hrow hl h hc2 hc3 hc4
  go_enter Tryd.func40, Tryd.ntmps40
  go_wp2
  go_loopw [5] (fun j wr => ∃ i : Nat, j = .int .i64 (i : Int) ∧ i ≤ m ∧ wr = w ∧ Hid (∀ (q : Nat) (e : Fi), q < i → d.fs[q]? = some e → isN nm e = false)) (fun j _ => m - (intOf j).toNat)
  case atStart => exact ⟨0, rfl, by omega, rfl, fun q e hq => by omega⟩
  case round =>
    obtain ⟨i, rfl, hi, rfl, hX⟩ := hrel
    by_cases hc : i < m
    · obtain ⟨f, hf⟩ : ∃ k, ts[i]? = some k := ⟨ts[i]'(by rw [← hm.out]; exact hc), by rw [List.getElem?_eq_getElem]⟩
      obtain ⟨k, o, rfl, hr⟩ := HR.out.at hf
      obtain ⟨q1, _, _, _⟩ := range4 hr
      have HE : Hid (d.fs[i]? = some f.fi) := by show _ = _; rw [← HF.out, List.getElem?_map, hf]; rfl
      have HB : Hid (isN nm f.fi = (f.nm.toList == nm.toList)) := rfl
      obtain ⟨s, hs⟩ : ∃ s, Hid (s = f.nm) := ⟨_, (rfl : f.nm = _)⟩
      rw [← hs.out] at q1 HB
      rw [show o + i * eF.n = o + i * 4 from rfl] at q1
      clear hf hr
      cases hb : (s.toList == nm.toList) with
      | true =>
        have hRf : R = (i : Int) := by
          rw [hb] at HB
          have hlt := (List.getElem?_eq_some_iff.1 HE.out).1
          have hfi : d.fs.findIdx (isN nm) = i := by
            rw [List.findIdx_eq hlt]
            refine ⟨?_, fun j hj => ?_⟩
            · have := HE.out
              rw [List.getElem?_eq_getElem hlt] at this
              injection this with this
              rw [this]; exact HB.out
            · exact hX.out j _ hj (List.getElem?_eq_getElem (Nat.lt_trans hj hlt))
          rw [hR.out, atZ, hfi, if_pos hlt]
        subst hRf
        clear hR HB HE hX
        go_wp2
        go_ret
        exact ⟨rfl, rfl⟩
      | false =>
        rw [hb] at HB
        have hR2 := hidU hR
        clear hR
        go_wp2
        go_roundw
        case rel =>
          refine ⟨i + 1, by go_num, by omega, by trivial, fun q x hq hx => ?_⟩
          by_cases hqi : q = i
          · subst hqi
            rw [HE.out] at hx
            cases hx
            exact HB.out
          · exact hX.out q x (by omega) hx
        case measure => simp [intOf]; omega
    · have hRf : R = -1 := by
        rw [hR.out, atZ, if_neg]
        intro hb
        obtain ⟨e, he⟩ : ∃ e, d.fs[d.fs.findIdx (isN nm)]? = some e := ⟨_, List.getElem?_eq_getElem hb⟩
        have h1 := hX.out _ e (by have hq : d.fs.length = m := (by rw [← HF.out, List.length_map, hm.out]); omega) he
        have h2 := List.findIdx_getElem (w := hb)
        rw [List.getElem?_eq_getElem hb] at he
        injection he with he
        rw [he] at h2
        rw [h1] at h2
        cases h2
      subst hRf
      clear hX hR
      go_wp2
      go_ret
      exact ⟨rfl, rfl⟩

theorem usedL_take (fs : List Fi) {i : Nat} {f : Fi} (h : fs[i]? = some f) : usedL (fs.take (i + 1)) = usedL (fs.take i) + f.bs.length := by
  have hlt := (List.getElem?_eq_some_iff.1 h).1
  rw [List.take_add_one, h]
  simp [usedL]
theorem usedL_take_le (fs : List Fi) (i : Nat) : usedL (fs.take i) ≤ usedL fs := by
  have h := congrArg usedL (List.take_append_drop i fs)
  unfold usedL at h ⊢
  rw [List.map_append, List.sum_append] at h
  omega
set_option maxRecDepth 100000 in
set_option maxHeartbeats 3200000 in
theorem refUsed_any (B g : Nat) (W F : Nat → Prop) (d : Dk) (w : World) (h : RD B w g W F d) (hl : d.fs.length ≤ 1048576) (hu : usedL d.fs ≤ 1099511627776) :
    Calls Tryd.prog 41 #[.pointer (some ⟨g, 0, none⟩)] w fun r w' => r = .returned (.int .i64 (usedL d.fs : Int)) ∧ w' = w := by
  obtain ⟨v, ts, h⟩ := h
  obtain ⟨a, c, rfl, hc1, hc2, hc3, hc4, hrow⟩ := h.own.row
  obtain ⟨m, hm⟩ : ∃ n, Hid (n = ts.length) := ⟨_, (rfl : ts.length = _)⟩
  have hlm : m ≤ 1048576 := by rw [hm.out, h.len]; exact hl
  have hU : Hid (usedL d.fs ≤ 1099511627776) := hu
  have cL := h.at_.cell 1
  simp only [List.getElem?_cons_succ, List.getElem?_cons_zero] at cL
  rw [← hm.out] at cL hc1
  have HR : Hid (RowX eF w a ts) := hrow
  have HF : Hid (ts.map FT.fi = d.fs) := h.fs
  obtain ⟨R, hR⟩ : ∃ R, Hid (R = usedL d.fs) := ⟨_, (rfl : _ = usedL _)⟩
  rw [← hR.out]
  clear hrow hl h hc2 hc3 hc4 hu
  go_enter Tryd.func41, Tryd.ntmps41
  go_wp2
  go_loopw [3, 4] (fun s j wr => ∃ i u : Nat, j = .int .i64 (i : Int) ∧ s = .int .i64 (u : Int) ∧ i ≤ m ∧ wr = w ∧ Hid (u = usedL (d.fs.take i))) (fun _ j _ => m - (intOf j).toNat)
  case atStart => exact ⟨0, 0, rfl, rfl, by omega, rfl, rfl⟩
  case round =>
    obtain ⟨i, u, rfl, rfl, hi, rfl, hX⟩ := hrel
    by_cases hc : i < m
    · obtain ⟨f, hf⟩ : ∃ k, ts[i]? = some k := ⟨ts[i]'(by rw [← hm.out]; exact hc), by rw [List.getElem?_eq_getElem]⟩
      obtain ⟨k, o, rfl, hr⟩ := HR.out.at hf
      obtain ⟨_, q1, _, _⟩ := range4 hr
      have HE : Hid (d.fs[i]? = some f.fi) := by show _ = _; rw [← HF.out, List.getElem?_map, hf]; rfl
      have HS := hidU (usedL_take d.fs HE.out)
      have h1 := usedL_take_le d.fs (i + 1)
      rw [HS.out] at h1
      have h2 := hU.out
      have h3 := hX.out
      obtain ⟨n, hn⟩ : ∃ n, Hid (n = f.bs.length) := ⟨_, (rfl : f.bs.length = _)⟩
      have hn2 : f.fi.bs.length = n := hn.out.symm
      rw [← hn.out] at q1
      rw [show o + i * eF.n = o + i * 4 from rfl] at q1
      have hun : u + n ≤ 1099511627776 := by rw [hn2] at h1; omega
      clear hf hr h1 h2 h3
      go_wp2
      go_roundw
      case rel => exact ⟨i + 1, u + n, by go_num, by go_num, by omega, by trivial, by show _ = _; rw [HS.out, hX.out, hn2]⟩
      case measure => simp [intOf]; omega
    · have hRf : R = u := by
        rw [hR.out, hX.out, List.take_of_length_le]
        have hq : d.fs.length = m := (by rw [← HF.out, List.length_map, hm.out])
        omega
      subst hRf
      clear hX hR
      go_wp2
      go_ret
      exact ⟨rfl, rfl⟩
set_option maxRecDepth 100000 in
set_option maxHeartbeats 3200000 in
theorem refNew_bad (n : Int) (w : World) (h : n < 1 ∨ 67108864 < n) : Calls Tryd.prog 9 #[.int .i64 n] w fun r w' => r = .returned (.tuple #[.pointer none, .int .i64 2]) ∧ w' = w := by
  by_cases h1 : n < 1
  · clear h
    go_enter Tryd.func9, Tryd.ntmps9
    go_wp2
    go_ret2
    exact ⟨rfl, rfl⟩
  · have h2 := h.resolve_left h1
    clear h
    go_enter Tryd.func9, Tryd.ntmps9
    go_wp2
    go_ret2
    exact ⟨rfl, rfl⟩
set_option maxRecDepth 100000 in
set_option maxHeartbeats 3200000 in
theorem refNew_ok (n : Int) (w : World) (h1 : ¬ n < 1) (h2 : ¬ 67108864 < n) : Calls Tryd.prog 9 #[.int .i64 n] w fun r w' =>
    r = .returned (.tuple #[.pointer (some ⟨w.heap.size, 0, none⟩), .int .i64 0]) ∧ Below w.heap.size w w' ∧ w'.heap.size = w.heap.size + 1 ∧ At 61 w' w.heap.size [.int .i64 n, .slice none 0 0, .int .i64 (-1), .int .i64 0] := by
  go_enter Tryd.func9, Tryd.ntmps9
  go_wp2
  go_ret2
  exact ⟨rfl, (Below.refl _ w).alloc (Nat.le_refl _) _, by simp, _root_.Go.heap_alloc_new w _⟩
/-- A write is done, if there is power. -/
def pwD (d : Dk) : Dk := { d with lf := if 0 < d.lf then d.lf - 1 else d.lf, wr := d.wr + 1 }
theorem RDv.ne {B g : Nat} {w : World} {W F : Nat → Prop} {v : Value} {ts : List FT} {d : Dk} (h : RDv B w g W F v ts d) : v.ownBlock ≠ some g := fun e => by
  obtain ⟨_, _, cs, hA⟩ := h.own.block g e
  exact h.at_.ne hA (show (61 : Nat) ≠ 70 by decide) rfl
theorem RDv.put {B g : Nat} {w w' : World} {W F : Nat → Prop} {v : Value} {ts : List FT} {d d' : Dk} (h : RDv B w g W F v ts d) (hf : d'.fs = d.fs) (hb : But g w w') (hA : At 61 w' g [.int .i64 (d'.sz : Int), v, .int .i64 d'.lf, .int .i64 (d'.wr : Int)]) : RDv B w' g W F v ts d' :=
  ⟨hA, h.own.same fun k hk => hb.block k (h.own.block k hk).2.1 fun e => h.ne (e ▸ hk), h.fs.trans hf.symm,
   fun f hf => ⟨(h.ins f hf).1.same fun ad ha => hb.block _ (h.lt _ ((h.ins f hf).2.1 ad ha).1) fun e => ((h.ins f hf).2.1 ad ha).2 (e ▸ h.wg), (h.ins f hf).2⟩, h.wg, h.wv, h.wf, fun k hk => Nat.lt_of_lt_of_le (h.lt k hk) hb.size⟩
set_option maxRecDepth 100000 in
set_option maxHeartbeats 3200000 in
theorem refPower_no (B g : Nat) (W F : Nat → Prop) (d : Dk) (w : World) (h : RD B w g W F d) (h0 : d.lf = 0) :
    Calls Tryd.prog 42 #[.pointer (some ⟨g, 0, none⟩)] w fun r w' => r = .returned (.bool false) ∧ w' = w := by
  obtain ⟨v, ts, h⟩ := h
  have cL := h.at_.cell 2
  simp only [List.getElem?_cons_succ, List.getElem?_cons_zero] at cL
  rw [h0] at cL
  clear h h0
  go_enter Tryd.func42, Tryd.ntmps42
  go_wp2
  go_ret
  exact ⟨rfl, rfl⟩
set_option maxRecDepth 100000 in
set_option maxHeartbeats 3200000 in
theorem refPower_yes (B g : Nat) (W F : Nat → Prop) (v : Value) (ts : List FT) (d : Dk) (w : World) (h : RDv B w g W F v ts d) (h0 : d.lf ≠ 0) (h1 : -1 ≤ d.lf) (h2 : d.lf ≤ 9223372036854775807) (h3 : d.wr ≤ 4611686018427387904) :
    Calls Tryd.prog 42 #[.pointer (some ⟨g, 0, none⟩)] w fun r w' => r = .returned (.bool true) ∧ RDv B w' g W F v ts (pwD d) ∧ But g w w' ∧ w'.heap.size = w.heap.size := by
  have hA := h.at_
  have HH := hidU h
  obtain ⟨L, hL⟩ : ∃ L, L = d.lf := ⟨_, rfl⟩
  obtain ⟨N, hN⟩ : ∃ L, L = d.wr := ⟨_, rfl⟩
  obtain ⟨S, hS⟩ : ∃ L, L = d.sz := ⟨_, rfl⟩
  have HE : Hid (L = d.lf ∧ N = d.wr ∧ S = d.sz) := ⟨hL, hN, hS⟩
  rw [← hL, ← hN, ← hS] at hA
  rw [← hL] at h0 h1 h2
  rw [← hN] at h3
  have cL := hA.cell 2
  simp only [List.getElem?_cons_succ, List.getElem?_cons_zero] at cL
  clear h hL hN hS
  by_cases hp : 0 < L
  · go_enter Tryd.func42, Tryd.ntmps42
    go_wp2_with (refine wpList_store1 rfl 3 (.tmp 19) (.tmp 17) rfl g 2 (.int .i64 (L - 1)) rfl rfl 61 _ hA (by simp) i3 rfl rfl ?_; intro w1 hA1 hb1 hs1; refine Hid.out ?_)
    refine hidU ?_
    have cN := hA1.cell 3
    simp only [List.set_cons_succ, List.set_cons_zero, List.getElem?_cons_succ, List.getElem?_cons_zero] at cN hA1
    clear cL
    go_wp2_with (refine wpList_store1 rfl 3 (.tmp 26) (.tmp 24) rfl g 3 (.int .i64 ((N : Int) + 1)) rfl rfl 61 _ hA1 (by simp) i3 rfl rfl ?_; intro w2 hA2 hb2 hs2; refine Hid.out ?_)
    refine hidU ?_
    simp only [List.set_cons_succ, List.set_cons_zero] at hA2
    go_wp2
    go_ret
    refine ⟨rfl, HH.out.put rfl (hb1.trans hb2) ?_, hb1.trans hb2, hs2.trans hs1⟩
    obtain ⟨e1, e2, e3⟩ := HE.out
    rw [e1, e2, e3] at hA2
    rw [e1] at hp
    simp only [pwD, if_pos hp, Int.natCast_add]
    exact hA2
  · go_enter Tryd.func42, Tryd.ntmps42
    have cN := hA.cell 3
    simp only [List.getElem?_cons_succ, List.getElem?_cons_zero] at cN
    go_wp2_with (refine wpList_store1 rfl 3 (.tmp 26) (.tmp 24) rfl g 3 (.int .i64 ((N : Int) + 1)) rfl rfl 61 _ hA (by simp) i3 rfl rfl ?_; intro w2 hA2 hb2 hs2; refine Hid.out ?_)
    refine hidU ?_
    simp only [List.set_cons_succ, List.set_cons_zero] at hA2
    go_wp2
    go_ret
    refine ⟨rfl, HH.out.put rfl hb2 ?_, hb2, hs2⟩
    obtain ⟨e1, e2, e3⟩ := HE.out
    rw [e1, e2, e3] at hA2
    have hp2 : ¬ 0 < d.lf := by rw [← e1]; omega
    simp only [pwD, if_neg hp2, Int.natCast_add]
    exact hA2
end Go.Proofs.YtcmkjjlchljffaaDoor

/- The given answer's disk: Stop, Loose, Name. -/
namespace Go.Proofs.YtcmkjjlchljffaaDoor
open Go.RowKit
set_option linter.unusedVariables false

def stD (d : Dk) (n : Int) : Dk := if n < 0 then d else { d with lf := if d.lf = 0 then 0 else n }
def stZ (n : Int) : Int := if n < 0 then 2 else 0
/-- How many bytes of a file are loose. -/
def lsD (fs : List Fi) (nm : ByteArray) : Int := match fs.find? (isN nm) with | some f => (f.bs.length : Int) - f.sf | none => 0
theorem atZ_some {fs : List Fi} {nm : ByteArray} {f : Fi} (h : fs.find? (isN nm) = some f) : ∃ i : Nat, atZ fs nm = i ∧ fs[i]? = some f ∧ isN nm f = true := by
  rw [List.find?_eq_some_iff_getElem] at h
  obtain ⟨h1, i, hi, h2, h3⟩ := h
  refine ⟨i, ?_, by rw [List.getElem?_eq_getElem hi, h2], h1⟩
  have : fs.findIdx (isN nm) = i := by
    rw [List.findIdx_eq hi]
    exact ⟨by rw [h2]; exact h1, fun j hj => by simpa using h3 j hj⟩
  rw [atZ, this, if_pos hi]
theorem atZ_none {fs : List Fi} {nm : ByteArray} (h : fs.find? (isN nm) = none) : atZ fs nm = -1 := by
  rw [atZ, if_neg]
  intro hb
  have := List.findIdx_getElem (w := hb)
  rw [List.find?_eq_none] at h
  exact h _ (List.getElem_mem hb) this
set_option maxRecDepth 100000 in
set_option maxHeartbeats 3200000 in
theorem refLoose_any (B g : Nat) (W F : Nat → Prop) (d : Dk) (nm : ByteArray) (w : World) (h : RD B w g W F d) (hl : d.fs.length ≤ 1048576) (hb : ∀ f ∈ d.fs, f.sf ≤ f.bs.length ∧ f.bs.length ≤ 1099511627776) :
    Calls Tryd.prog 48 #[.pointer (some ⟨g, 0, none⟩), .string nm] w fun r w' => r = .returned (.int .i64 (lsD d.fs nm)) ∧ w'.heap = w.heap ∧ Below w.heap.size w w' := by
  have HC := hidU (refAt_any B g W F d nm w h hl)
  cases hf : d.fs.find? (isN nm) with
  | none =>
    have e : lsD d.fs nm = 0 := by unfold lsD; rw [hf]
    rw [e]
    rw [atZ_none hf] at HC
    clear e hf hb h
    go_enter Tryd.func48, Tryd.ntmps48
    go_wp2_with (go_at_call 40; refine HC.mono ?_; rintro _ w1 ⟨rfl, hw⟩; obtain rfl : w = w1 := hw.symm; clear hw)
    go_ret
    exact ⟨rfl, rfl, Below.refl _ _⟩
  | some f =>
    obtain ⟨i, hi, hfi, _⟩ := atZ_some hf
    have hbf := hb f (List.mem_of_getElem? hfi)
    obtain ⟨R, hR⟩ : ∃ R, Hid (R = (f.bs.length : Int) - f.sf) := ⟨_, (rfl : _ = (f.bs.length : Int) - f.sf)⟩
    have e : lsD d.fs nm = R := by unfold lsD; rw [hf, hR.out]
    rw [e]
    rw [hi] at HC
    obtain ⟨v, ts, h⟩ := h
    obtain ⟨a, c, rfl, hc1, hc2, hc3, hc4, hrow⟩ := h.own.row
    obtain ⟨t, ht⟩ : ∃ k, ts[i]? = some k := by
      have := (List.getElem?_eq_some_iff.1 hfi).1
      rw [← h.len] at this
      exact ⟨_, List.getElem?_eq_getElem this⟩
    have htf : t.fi = f := by have := h.get ht; rw [hfi] at this; injection this with this; exact this.symm
    have cL := h.at_.cell 1
    simp only [List.getElem?_cons_succ, List.getElem?_cons_zero] at cL
    obtain ⟨m, hm⟩ : ∃ n, Hid (n = ts.length) := ⟨_, (rfl : ts.length = _)⟩
    have him : i < m := by rw [hm.out]; exact (List.getElem?_eq_some_iff.1 ht).1
    rw [← hm.out] at cL hc1
    obtain ⟨k, o, rfl, hr⟩ := hrow.at ht
    obtain ⟨_, q1, q2, _⟩ := range4 hr
    rw [show o + i * eF.n = o + i * 4 from rfl] at q1 q2
    obtain ⟨n, hn⟩ : ∃ n, Hid (n = t.bs.length) := ⟨_, (rfl : t.bs.length = _)⟩
    obtain ⟨s, hs⟩ : ∃ n, Hid (n = t.sf) := ⟨_, (rfl : t.sf = _)⟩
    rw [← hn.out] at q1
    rw [← hs.out] at q2
    have hRn : Hid (R = (n : Int) - s) := by show _ = _; rw [hR.out, ← htf, hn.out, hs.out]; rfl
    have hsn : s ≤ n ∧ n ≤ 1099511627776 := by rw [hn.out, hs.out]; rw [← htf] at hbf; exact hbf
    obtain ⟨hsn1, hsn2⟩ := hsn
    have hle : ¬ ((n : Int) - s < -9223372036854775808) := by omega
    have hwr : IntKind.i64.wrap ((n : Int) - s) = (n : Int) - s := by rw [IntKind.wrap_i64]; omega
    have hRf : R = (n : Int) - s := hRn.out
    subst hRf
    clear hrow hr ht htf hbf hb hfi hf hl h hc2 hc3 hc4 e hi hRn hR hn hs hm
    go_enter Tryd.func48, Tryd.ntmps48
    go_wp2_with (go_at_call 40; refine HC.mono ?_; rintro _ w1 ⟨rfl, hw⟩; obtain rfl : w = w1 := hw.symm; clear hw)
    go_quiet (fail)
    go_wp2
    go_ret
    exact ⟨rfl, rfl, by first | exact Below.refl _ _ | exact below_drN (Below.refl _ _)⟩
end Go.Proofs.YtcmkjjlchljffaaDoor

/- The given answer's disk: a file by its name; Read, Names. -/
namespace Go.Proofs.YtcmkjjlchljffaaDoor
open Go.RowKit
set_option linter.unusedVariables false

theorem flat_set {α : Type} (e : El α) : ∀ (xs : List α) (i : Nat) (x y : α) (j : Nat) (u : Value), xs[i]? = some x → e.cl y = (e.cl x).set j u → j < e.n → e.flat (xs.set i y) = (e.flat xs).set (i * e.n + j) u
  | [], _, _, _, _, _, h, _, _ => by simp at h
  | a :: xs, 0, x, y, j, u, h, hy, hj => by
    simp at h
    subst h
    simp only [El.flat, List.set_cons_zero, List.flatMap_cons, Nat.zero_mul, Nat.zero_add]
    rw [List.set_append_left _ _ (by rw [e.len]; exact hj), hy]
  | a :: xs, i + 1, x, y, j, u, h, hy, hj => by
    have ih := flat_set e xs i x y j u (by simpa using h) hy hj
    simp only [El.flat, List.set_cons_succ, List.flatMap_cons] at ih ⊢
    rw [ih, List.set_append_right _ _ (by rw [e.len, Nat.add_mul]; omega), e.len, show (i + 1) * e.n + j - e.n = i * e.n + j by rw [Nat.add_mul]; omega]
/-- One cell of one element of a row of the call's own is written. -/
theorem OwnX.put {α : Type} {e : El α} {base : Nat} {w w' : World} {k c i j : Nat} {xs : List α} {x y : α} {u : Value} {cs : List Value} (h : OwnX e base w (.slice (some ⟨k, 0, none⟩) xs.length c) xs) (hA : At e.E w k cs) (hx : xs[i]? = some x) (hy : e.cl y = (e.cl x).set j u) (hj : j < e.n)
    (hA' : At e.E w' k (cs.set (i * e.n + j) u)) : OwnX e base w' (.slice (some ⟨k, 0, none⟩) xs.length c) (xs.set i y) := by
  obtain ⟨h1, ⟨h0, _⟩ | ⟨g, cap, cur, hv, hg, hh, hc, hm, hs, ht⟩⟩ := h
  · cases h0
  · cases hv
    unfold At at hA
    rw [hA] at hh
    injection hh with hh
    injection hh with hh _
    subst hh
    refine ⟨by rw [flat_len], .inr ⟨k, c, _, ?_, hg, hA', ?_, hm, by simpa using hs, ?_⟩⟩
    · rw [List.length_set]
    · rw [List.length_set]; exact hc
    · rw [flat_set e xs i x y j u hx hy hj, List.length_set, ← ht]
      simp [List.take_set]
section
variable {B g : Nat} {w w' : World} {W F : Nat → Prop} {v : Value} {ts : List FT} {d : Dk} {nm : ByteArray} {f : Fi}
/-- The file of a name, in memory. -/
theorem RDv.file (h : RDv B w g W F v ts d) (hf : d.fs.find? (isN nm) = some f) : ∃ (i k c : Nat) (t : FT) (cs : List Value), Hid (atZ d.fs nm = (i : Int)) ∧ Hid (ts[i]? = some t) ∧ Hid (t.fi = f) ∧ i < ts.length ∧ v = .slice (some ⟨k, 0, none⟩) ts.length c ∧ ts.length ≤ c ∧ At 70 w k cs ∧ Hid (cs.length = c * 4) ∧
    w.cell? ⟨k, i * 4, none⟩ = some (.string t.nm) ∧ w.cell? ⟨k, i * 4 + 1, none⟩ = some (.slice t.ad t.bs.length t.cp) ∧ w.cell? ⟨k, i * 4 + 2, none⟩ = some (.int .i64 (t.sf : Int)) ∧ w.cell? ⟨k, i * 4 + 3, none⟩ = some (.bool t.hd) := by
  obtain ⟨i, hi, hfi, _⟩ := atZ_some hf
  have hil : i < ts.length := by rw [h.len]; exact (List.getElem?_eq_some_iff.1 hfi).1
  obtain ⟨t, ht⟩ : ∃ k, ts[i]? = some k := ⟨_, List.getElem?_eq_getElem hil⟩
  have htf : t.fi = f := by have := h.get ht; rw [hfi] at this; injection this with this; exact this.symm
  obtain ⟨a, c, rfl, hc1, hc2, hc3, hc4, hrow⟩ := h.own.row
  obtain ⟨k, o, rfl, hr⟩ := hrow.at ht
  obtain ⟨_, ⟨h0, _⟩ | ⟨g', cap, cur, hv, hg, hh, hc, hm, hs, hx⟩⟩ := h.own
  · cases h0
  · cases hv
    obtain ⟨q0, q1, q2, q3⟩ := range4 hr
    rw [show 0 + i * eF.n = i * 4 from Nat.zero_add _] at q0 q1 q2 q3
    exact ⟨i, k, c, t, cur.toList, hi, ht, htf, hil, rfl, hc1, (show w.heap[k]? = some (.cells cur.toList.toArray 70 (0, 0)) from hh), by show _ = _; rw [Array.length_toList]; exact hs, q0, q1, q2, q3⟩
end
set_option maxRecDepth 100000 in
set_option maxHeartbeats 3200000 in
theorem refRead_no (B g : Nat) (W F : Nat → Prop) (d : Dk) (nm : ByteArray) (w : World) (h : RD B w g W F d) (hl : d.fs.length ≤ 1048576) (hf : d.fs.find? (isN nm) = none) :
    Calls Tryd.prog 44 #[.pointer (some ⟨g, 0, none⟩), .string nm] w fun r w' => r = .returned (.tuple #[.slice none 0 0, .int .i64 6]) ∧ w' = w := by
  have HC := hidU (refAt_any B g W F d nm w h hl)
  rw [atZ_none hf] at HC
  clear hf h
  go_enter Tryd.func44, Tryd.ntmps44
  go_wp2_with (go_at_call 40; refine HC.mono ?_; rintro _ w1 ⟨rfl, hw⟩; obtain rfl : w = w1 := hw.symm; clear hw)
  go_ret2
  exact ⟨rfl, rfl⟩
set_option maxRecDepth 100000 in
set_option maxHeartbeats 3200000 in
theorem refRead_yes (B g : Nat) (W F : Nat → Prop) (d : Dk) (nm : ByteArray) (f : Fi) (w : World) (h : RD B w g W F d) (hl : d.fs.length ≤ 1048576) (hf : d.fs.find? (isN nm) = some f) (hb : f.bs.length ≤ 1099511627776) :
    Calls Tryd.prog 44 #[.pointer (some ⟨g, 0, none⟩), .string nm] w fun r w' => ∃ v, r = .returned (.tuple #[v, .int .i64 0]) ∧ OwnX eB w.heap.size w' v f.bs ∧ Below w.heap.size w w' := by
  have HC := hidU (refAt_any B g W F d nm w h hl)
  obtain ⟨v, ts, h⟩ := h
  obtain ⟨i, k, c, t, cs, hi, ht, htf, hil, rfl, hc, hA, hcs, q0, q1, q2, q3⟩ := h.file hf
  rw [hi.out] at HC
  have cL := h.at_.cell 1
  simp only [List.getElem?_cons_succ, List.getElem?_cons_zero] at cL
  obtain ⟨I1, I2, I3, I4⟩ := h.ins t (List.mem_of_getElem? ht.out)
  have HB : Hid (t.bs = f.bs) := congrArg Fi.bs htf.out
  have hb2 : t.bs.length ≤ 1099511627776 := by rw [HB.out]; exact hb
  obtain ⟨n, hn⟩ : ∃ n, Hid (n = t.bs.length) := ⟨_, (rfl : t.bs.length = _)⟩
  obtain ⟨m, hm⟩ : ∃ n, Hid (n = ts.length) := ⟨_, (rfl : ts.length = _)⟩
  rw [← hm.out] at cL hc hil
  rw [← hn.out] at q1 I3 hb2
  have HI := hidU (rowB.2 I1)
  have hlt : k < w.heap.size := hA.lt
  have hg : g < w.heap.size := h.at_.lt
  clear hf h q0 q2 q3 hA hcs hi hl htf ht I1 I2 hb
  go_enter Tryd.func44, Tryd.ntmps44
  go_wp2_with (first | (go_at_call 40; refine HC.mono ?_; rintro _ w1 ⟨rfl, hw⟩; obtain rfl : w = w1 := hw.symm; clear hw) | (refine wpList_layB0 rfl rfl ?_; intro w1 ho1 hb1 hs1; refine Hid.out ?_))
  refine hidU ?_
  have cL1 : w1.cell? ⟨g, 1, none⟩ = _ := (hb1.cell hg).trans cL
  have q11 : w1.cell? ⟨k, i * 4 + 1, none⟩ = _ := (hb1.cell hlt).trans q1
  have HB1 := hidU hb1
  have HO := hidU ho1
  have HI1 := hidU (HI.out.below hb1)
  clear cL q1 hb1 ho1 hlt hg HI
  go_wp2_with (refine wpList_appX eB rfl (.tmp 12) (.tmp 20) rfl w.heap.size _ t.ad n t.cp rfl rfl HO.out hn.out.symm I4 I3 HI1.out (by simp [maxLen]; omega) (by simp [eB]; omega) (by omega) ?_; intro v2 w2 ho2 hg2; refine Hid.out ?_)
  refine hidU ?_
  rw [List.nil_append] at ho2
  go_wp2
  go_ret2
  refine ⟨v2, rfl, by rw [← HB.out]; exact ho2, ?_⟩
  exact HB1.out.trans (Below.grown (Below.refl _ _) hg2 (by omega) (fun k hk => (HO.out.block k hk).1))
end Go.Proofs.YtcmkjjlchljffaaDoor

/- The given answer's disk: Names; a file that goes, a file that comes. -/
namespace Go.Proofs.YtcmkjjlchljffaaDoor
open Go.RowKit
set_option linter.unusedVariables false

def eS : El ByteArray := ⟨44, 9, 1, 16, .string ⟨#[]⟩, fun s => [.string s], fun _ => rfl, fun x v hv => by simp at hv; subst hv; rfl, by kernel_rfl, by kernel_rfl, rfl, by decide⟩
section
variable {o : Oper} {a : Act} {w : World} {K : Act → World → Prop} {Q : Exit → Act → World → Prop} {ops : Array Oper} {rest : List Oper}
theorem wp_layS1 (x : Operand) (ho : o.op = .buildSlice 44 1 #[(0, x)]) (s : ByteArray) (hx : a.eval x = .string s)
    (h : ∀ w', RowX eS w' (some ⟨w.heap.size, 0, none⟩) [s] → Below w.heap.size w w' → w'.heap.size = w.heap.size + 1 → K (a.put o.dst (.slice (some ⟨w.heap.size, 0, none⟩) 1 1)) w') : o.wp Tryd.prog a w K Q := by
  obtain ⟨ie, hi, hz0, hz1, hz2⟩ := info_parts eS.info
  refine wp_buildSlice 44 9 1 #[(0, x)] ho #[.string s] ie _ eS.und hi hz0 (by rw [hz1]; decide) (by rw [hz1]; decide) ?_ ?_
  · rw [hz1]
    simp only [List.map_toArray, List.map_cons, List.map_nil, hx]
    (show _ = _)
    kernel_rfl
  · refine h _ (.inr ⟨_, 0, rfl, ?_⟩) ((Below.refl _ w).alloc (Nat.le_refl _) _) (by simp)
    intro j v hj
    have hA : At 9 (w.alloc (.cells #[.string s] 9)) w.heap.size [.string s] := _root_.Go.heap_alloc_new w _
    rw [Nat.zero_add, hA.cell]
    exact hj
theorem wpList_layS1 (hgd : o.guard = none) (x : Operand) (ho : o.op = .buildSlice 44 1 #[(0, x)]) (s : ByteArray) (hx : a.eval x = .string s)
    (h : ∀ w', RowX eS w' (some ⟨w.heap.size, 0, none⟩) [s] → Below w.heap.size w w' → w'.heap.size = w.heap.size + 1 → wpList Tryd.prog ops Q rest (a.put o.dst (.slice (some ⟨w.heap.size, 0, none⟩) 1 1)) w') : wpList Tryd.prog ops Q (o :: rest) a w :=
  wpList_plain hgd fun _ hK => wp_layS1 x ho s hx fun w' h1 h2 h3 => hK _ _ (h w' h1 h2 h3)
theorem wp_layF1 (x : Operand) (ho : o.op = .buildSlice 59 1 #[(0, x)]) (f : FT) (hx : a.eval x = .agg f.cells.toArray)
    (h : ∀ w', RowX eF w' (some ⟨w.heap.size, 0, none⟩) [f] → Below w.heap.size w w' → w'.heap.size = w.heap.size + 1 → K (a.put o.dst (.slice (some ⟨w.heap.size, 0, none⟩) 1 1)) w') : o.wp Tryd.prog a w K Q := by
  obtain ⟨ie, hi, hz0, hz1, hz2⟩ := info_parts eF.info
  refine wp_buildSlice 59 70 1 #[(0, x)] ho f.cells.toArray ie _ eF.und hi hz0 (by rw [hz1]; decide) (by rw [hz1]; decide) ?_ ?_
  · rw [hz1]
    simp only [List.map_toArray, List.map_cons, List.map_nil, hx]
    obtain ⟨x1, x2, x3, x4, x5, x6⟩ := f
    (show _ = _)
    kernel_rfl
  · refine h _ (.inr ⟨_, 0, rfl, ?_⟩) ((Below.refl _ w).alloc (Nat.le_refl _) _) (by simp)
    intro j v hj
    have hA : At 70 (w.alloc (.cells f.cells.toArray 70)) w.heap.size f.cells := _root_.Go.heap_alloc_new w _
    rw [Nat.zero_add, hA.cell]
    simpa [El.flat, eF] using hj
theorem wpList_layF1 (hgd : o.guard = none) (x : Operand) (ho : o.op = .buildSlice 59 1 #[(0, x)]) (f : FT) (hx : a.eval x = .agg f.cells.toArray)
    (h : ∀ w', RowX eF w' (some ⟨w.heap.size, 0, none⟩) [f] → Below w.heap.size w w' → w'.heap.size = w.heap.size + 1 → wpList Tryd.prog ops Q rest (a.put o.dst (.slice (some ⟨w.heap.size, 0, none⟩) 1 1)) w') : wpList Tryd.prog ops Q (o :: rest) a w :=
  wpList_plain hgd fun _ hK => wp_layF1 x ho f hx fun w' h1 h2 h3 => hK _ _ (h w' h1 h2 h3)
end
/-- What a loop through a disk's files may lean on: they stand, wherever the world has gone. -/
theorem RDv.look {B g : Nat} {w : World} {W F : Nat → Prop} {v : Value} {ts : List FT} {d : Dk} (h : RDv B w g W F v ts d) : ∃ a c, v = .slice a ts.length c ∧ ts.length ≤ c ∧
    ∀ wr, Below w.heap.size w wr → wr.cell? ⟨g, 1, none⟩ = some (.slice a ts.length c) ∧ ∀ i t, ts[i]? = some t → ∃ k o, a = some ⟨k, o, none⟩ ∧ wr.rangeAt k (o + i * 4) t.cells := by
  obtain ⟨a, c, rfl, hc1, hc2, hc3, hc4, hrow⟩ := h.own.row
  refine ⟨a, c, rfl, hc1, fun wr hb => ⟨?_, fun i t ht => ?_⟩⟩
  · rw [hb.cell h.at_.lt, h.at_.cell]
    rfl
  · obtain ⟨k, o, rfl, hr⟩ := (hrow.below hb).at ht
    exact ⟨k, o, rfl, hr⟩
set_option maxRecDepth 100000 in
set_option maxHeartbeats 3200000 in
theorem refNames_any (B g : Nat) (W F : Nat → Prop) (d : Dk) (w : World) (h : RD B w g W F d) (hl : d.fs.length ≤ 1048576) :
    Calls Tryd.prog 45 #[.pointer (some ⟨g, 0, none⟩)] w fun r w' => ∃ v, r = .returned v ∧ OwnX eS w.heap.size w' v (d.fs.map Fi.nm) ∧ Below w.heap.size w w' := by
  obtain ⟨v, ts, h⟩ := h
  obtain ⟨a, c, rfl, hc1, hlook⟩ := h.look
  have HL := hidU hlook
  obtain ⟨m, hm⟩ : ∃ n, Hid (n = ts.length) := ⟨_, (rfl : ts.length = _)⟩
  have hlm : m ≤ 1048576 := by rw [hm.out, h.len]; exact hl
  have HE : Hid (ts.map FT.nm = d.fs.map Fi.nm) := by show _ = _; rw [← h.fs, List.map_map]; rfl
  have cL := (hlook w (Below.refl _ _)).1
  rw [← HE.out]
  rw [← hm.out] at HL hc1 cL
  clear hl h hlook
  go_enter Tryd.func45, Tryd.ntmps45
  go_wp2
  go_loopw [3, 4] (fun s j wr => ∃ i : Nat, j = .int .i64 (i : Int) ∧ i ≤ m ∧ Hid (OwnX eS w.heap.size wr s ((ts.map FT.nm).take i)) ∧ Hid (Below w.heap.size w wr)) (fun _ j _ => m - (intOf j).toNat)
  case atStart => exact ⟨0, rfl, by omega, OwnX.nil _ _ _, Below.refl _ _⟩
  case round =>
    obtain ⟨i, rfl, hi, hO, hB⟩ := hrel
    obtain ⟨cL, hit⟩ := HL.out wr hB.out
    by_cases hc : i < m
    · obtain ⟨f, hf⟩ : ∃ k, ts[i]? = some k := ⟨ts[i]'(by rw [← hm.out]; exact hc), by rw [List.getElem?_eq_getElem]⟩
      obtain ⟨k, o, rfl, hr⟩ := hit i f hf
      obtain ⟨q1, _, _, _⟩ := range4 hr
      have HS : Hid ((ts.map FT.nm).take (i + 1) = (ts.map FT.nm).take i ++ [f.nm]) := by show _ = _; rw [List.take_add_one, List.getElem?_map, hf]; rfl
      have hlen : ((ts.map FT.nm).take i).length = i := by rw [List.length_take, List.length_map, ← hm.out]; omega
      have HLn := hidU hlen
      clear hf hr hit
      go_wp2_with (refine wpList_layS1 rfl (.tmp 22) rfl f.nm rfl ?_; intro w1 hR1 hb1 hs1; refine Hid.out ?_)
      refine hidU ?_
      have HR1 := hidU hR1
      have HB1 := hidU (hB.out.trans (hb1.mono hB.out.size))
      have HO1 := hidU (hO.out.below hb1)
      have hsz := hB.out.size
      clear hR1 hb1 hO hB hlen cL q1
      go_wp2_with (refine wpList_appX eS rfl (.tmp 14) (.tmp 23) rfl w.heap.size _ _ 1 1 rfl rfl HO1.out rfl (fun h => by cases h) (Nat.le_refl _) HR1.out (by rw [HLn.out]; unfold maxLen; omega) (by rw [HLn.out]; show (i + 1) * 16 ≤ _; omega) (by omega) ?_; intro v2 w2 ho2 hg2; refine Hid.out ?_)
      refine hidU ?_
      have HO2 : Hid (OwnX eS w.heap.size w2 v2 ((ts.map FT.nm).take (i + 1))) := by show OwnX _ _ _ _ _; rw [HS.out]; exact ho2
      have HB2 := hidU (Below.grown HB1.out hg2 (by omega) (fun k hk => (HO1.out.block k hk).1))
      clear ho2 hg2 HO1 HB1 HR1
      go_wp2
      go_roundw
      case rel => exact ⟨i + 1, by go_num, by omega, HO2, HB2⟩
      case measure => simp [intOf]; omega
    · have hO2 := hO.out
      rw [List.take_of_length_le (by rw [List.length_map, ← hm.out]; omega)] at hO2
      have HO2 := hidU hO2
      clear hO hO2
      clear hit HL
      go_wp2
      go_ret
      exact ⟨_, rfl, HO2.out, hB.out⟩
/-- Files in a row of their own: what a loop that gathers them keeps. -/
def keepF (nm : ByteArray) (ts : List FT) : List FT := ts.filter fun t => !(t.nm.toList == nm.toList)
def goneD (d : Dk) (nm : ByteArray) : Dk := { d with fs := d.fs.filter fun f => !isN nm f }
theorem keepF_fi (nm : ByteArray) (ts : List FT) : (keepF nm ts).map FT.fi = (ts.map FT.fi).filter fun f => !isN nm f := by
  unfold keepF
  rw [List.filter_map]
  rfl
theorem u79 : ∃ d, Tryd.prog.underlying 70 = some d ∧ d.isRow = true := by
  have h : (Tryd.prog.underlying 70).map (·.isRow) = some true := by kernel_rfl
  cases hq : Tryd.prog.underlying 70 with
  | none => rw [hq] at h; cases h
  | some d => rw [hq] at h; simp at h; exact ⟨d, rfl, h⟩
theorem i79 : (Tryd.prog.info? 70).map (·.size) = some 4 := by kernel_rfl
theorem i63 : (Tryd.prog.info? 59).map (·.size) = some 1 := by kernel_rfl
theorem wpList_loadF {ops : Array Oper} {rest : List Oper} {o : Oper} {a : Act} {w : World} {Q : Exit → Act → World → Prop} (hgd : o.guard = none) (x : Operand) (ho : o.op = .load 70 x)
    (k off : Nat) (t : FT) (hx : a.eval x = .pointer (some ⟨k, off, none⟩)) (hr : w.rangeAt k off t.cells)
    (h : wpList Tryd.prog ops Q rest (a.put o.dst (.agg t.cells.toArray)) w) : wpList Tryd.prog ops Q (o :: rest) a w := by
  obtain ⟨d, h1, h2⟩ := u79
  exact wpList_load_mid hgd 70 x ho k off hx t.cells d hr h1 h2 i79 h
theorem OwnX.cells {α : Type} {e : El α} {base : Nat} {w : World} {v : Value} {xs : List α} (h : OwnX e base w v xs) : v.cells = #[v] ∧ v.oneCell' = true := by
  obtain ⟨_, ⟨rfl, _⟩ | ⟨g, cap, cur, rfl, _⟩⟩ := h <;> exact ⟨rfl, rfl⟩
/-- A file whose bytes lie apart from what is written. -/
def FT.In (w : World) (W F : Nat → Prop) (f : FT) : Prop := Row w f.ad f.bs ∧ (∀ ad, f.ad = some ad → F ad.block ∧ ¬ W ad.block) ∧ f.bs.length ≤ f.cp ∧ (f.ad = none → f.cp = 0)
/-- What a disk writes and reads that has a new row of files. -/
def newW (g : Nat) (v : Value) : Nat → Prop := fun k => k = g ∨ v.ownBlock = some k
def newF (F : Nat → Prop) (v : Value) : Nat → Prop := fun k => F k ∨ v.ownBlock = some k
/-- A disk with another row of files, that was made anew. -/
theorem RDv.anew {B g : Nat} {w w2 w3 : World} {W F : Nat → Prop} {v v2 : Value} {ts ts2 : List FT} {d d2 : Dk} (h : RDv B w g W F v ts d) (hB : B ≤ w.heap.size) (ho : OwnX eF w.heap.size w2 v2 ts2) (hb : Below w.heap.size w w2) (hin : ∀ t ∈ ts2, t.In w W F)
    (hA : At 61 w3 g [.int .i64 (d2.sz : Int), v2, .int .i64 d2.lf, .int .i64 (d2.wr : Int)]) (hg : But g w2 w3) (hf : ts2.map FT.fi = d2.fs) : RDv B w3 g (newW g v2) (newF F v2) v2 ts2 d2 ∧ Moves w W F w3 (newW g v2) (newF F v2) := by
  have hgl : g < w.heap.size := h.at_.lt
  have hown := fun k hk => ho.block k hk
  have hne : ∀ k, v2.ownBlock = some k → k ≠ g := fun k hk e => by have := (hown k hk).1; omega
  refine ⟨⟨hA, (ho.same fun k hk => hg.block k (hown k hk).2.1 (hne k hk)).less hB, hf, fun t ht => ?_, .inl rfl, fun k hk => .inr hk, ?_, ?_⟩, ⟨?_, ?_, ?_⟩⟩
  · obtain ⟨q1, q2, q3, q4⟩ := hin t ht
    refine ⟨q1.same fun ad ha => ?_, fun ad ha => ⟨.inl (q2 ad ha).1, ?_⟩, q3, q4⟩
    · have hl := h.lt _ (q2 ad ha).1
      rw [hg.block _ (Nat.lt_of_lt_of_le hl hb.size) (fun e => (q2 ad ha).2 (e ▸ h.wg)), hb.block _ hl]
    · rintro (e | e)
      · exact (q2 ad ha).2 (e ▸ h.wg)
      · have := (hown _ e).1
        have := h.lt _ (q2 ad ha).1
        omega
  · rintro k (rfl | hk)
    · exact ⟨.inl (h.wf k h.wg).1, (h.wf k h.wg).2⟩
    · exact ⟨.inr hk, Nat.le_trans hB (hown k hk).1⟩
  · rintro k (hk | hk)
    · exact Nat.lt_of_lt_of_le (h.lt k hk) (Nat.le_trans hb.size hg.size)
    · exact Nat.lt_of_lt_of_le (hown k hk).2.1 hg.size
  · exact (Chg.of_below hb).trans (Chg.of_but hg h.wg)
  · rintro k (rfl | hk)
    · exact .inl h.wg
    · exact .inr (hown k hk).1
  · rintro k (hk | hk)
    · exact .inl hk
    · exact .inr (hown k hk).1
theorem keepF_step {nm : ByteArray} {ts : List FT} {i : Nat} {t : FT} (h : ts[i]? = some t) : keepF nm (ts.take (i + 1)) = keepF nm (ts.take i) ++ (if (t.nm.toList == nm.toList) = true then [] else [t]) := by
  unfold keepF
  rw [List.take_add_one, h, List.filter_append]
  cases hb : t.nm.toList == nm.toList <;> simp [hb]
theorem keepF_len (nm : ByteArray) (ts : List FT) (i : Nat) : (keepF nm (ts.take i)).length ≤ i := Nat.le_trans (List.length_filter_le _ _) (by rw [List.length_take]; omega)
end Go.Proofs.YtcmkjjlchljffaaDoor

/- The given answer's disk: a file comes into its place among the names; a disk is copied. -/
namespace Go.Proofs.YtcmkjjlchljffaaDoor
open Go.RowKit
set_option linter.unusedVariables false

/-- Is a name ahead of another one? -/
def ltN (a b : ByteArray) : Bool := Op.bytesLess a.toList b.toList
/-- What a loop that puts a file into its place has gathered: f is in already, or not yet. -/
def insF (f : FT) : List FT → List FT
  | [] => [f]
  | t :: ts => if ltN f.nm t.nm then f :: t :: ts else t :: insF f ts
def insL (f : Fi) : List Fi → List Fi
  | [] => [f]
  | t :: ts => if ltN f.nm t.nm then f :: t :: ts else t :: insL f ts
theorem insF_fi (f : FT) : ∀ ts : List FT, (insF f ts).map FT.fi = insL f.fi (ts.map FT.fi)
  | [] => rfl
  | t :: ts => by
    unfold insF
    simp only [List.map_cons, insL]
    rw [show f.fi.nm = f.nm from rfl, show t.fi.nm = t.nm from rfl]
    split
    · rfl
    · rw [List.map_cons, insF_fi f ts]
theorem insF_mem (f : FT) : ∀ ts : List FT, ∀ t ∈ insF f ts, t = f ∨ t ∈ ts
  | [], t, h => by simp [insF] at h; exact .inl h
  | x :: ts, t, h => by
    unfold insF at h
    split at h
    · rcases List.mem_cons.1 h with h | h
      · exact .inl h
      · exact .inr h
    · rcases List.mem_cons.1 h with h | h
      · exact .inr (h ▸ List.mem_cons_self)
      · exact (insF_mem f ts t h).imp id (List.mem_cons_of_mem _)
theorem insF_no (f : FT) : ∀ ts rest : List FT, (∀ t ∈ ts, ltN f.nm t.nm = false) → insF f (ts ++ rest) = ts ++ insF f rest
  | [], rest, _ => rfl
  | t :: ts, rest, h => by
    rw [List.cons_append, insF, if_neg (by rw [h t List.mem_cons_self]; simp), insF_no f ts rest fun x hx => h x (List.mem_cons_of_mem _ hx), List.cons_append]
/-- What is gathered of the first i files. -/
structure Ga (f : FT) (ts : List FT) (i : Nat) (b : Bool) (l : List FT) : Prop where
  no : b = false → l = ts.take i ∧ ∀ t ∈ ts.take i, ltN f.nm t.nm = false
  yes : b = true → l ++ ts.drop i = insF f ts
theorem Ga.start (f : FT) (ts : List FT) : Ga f ts 0 false [] := ⟨fun _ => ⟨by simp, fun t h => by simp at h⟩, fun h => by cases h⟩
theorem Ga.fin {f : FT} {ts l : List FT} {i : Nat} {b : Bool} (h : Ga f ts i b l) (hi : ts.length ≤ i) : (if b then l else l ++ [f]) = insF f ts := by
  cases b with
  | true => have := h.yes rfl; rw [List.drop_eq_nil_of_le hi, List.append_nil] at this; exact this
  | false =>
    obtain ⟨h1, h2⟩ := h.no rfl
    rw [List.take_of_length_le hi] at h1 h2
    have := insF_no f ts [] h2
    rw [List.append_nil] at this
    rw [this, h1]
    rfl
theorem Ga.in {f t : FT} {ts l : List FT} {i : Nat} (h : Ga f ts i true l) (ht : ts[i]? = some t) : Ga f ts (i + 1) true (l ++ [t]) :=
  ⟨fun h => (by cases h), fun _ => by
    have hlt := (List.getElem?_eq_some_iff.1 ht).1
    have e : ts[i] = t := by rw [List.getElem?_eq_getElem hlt] at ht; injection ht
    rw [List.append_assoc, ← h.yes rfl, List.drop_eq_getElem_cons hlt, e]
    rfl⟩
theorem Ga.comes {f t : FT} {ts l : List FT} {i : Nat} (h : Ga f ts i false l) (ht : ts[i]? = some t) (hb : ltN f.nm t.nm = true) : Ga f ts (i + 1) true (l ++ [f] ++ [t]) :=
  ⟨fun h => (by cases h), fun _ => by
    have hlt := (List.getElem?_eq_some_iff.1 ht).1
    have e : ts[i] = t := by rw [List.getElem?_eq_getElem hlt] at ht; injection ht
    obtain ⟨h1, h2⟩ := h.no rfl
    have := insF_no f (ts.take i) (ts.drop i) h2
    rw [List.take_append_drop] at this
    rw [this, h1, List.drop_eq_getElem_cons hlt, e, insF, if_pos hb]
    simp⟩
theorem Ga.stays {f t : FT} {ts l : List FT} {i : Nat} (h : Ga f ts i false l) (ht : ts[i]? = some t) (hb : ltN f.nm t.nm = false) : Ga f ts (i + 1) false (l ++ [t]) :=
  ⟨fun _ => by
    obtain ⟨h1, h2⟩ := h.no rfl
    rw [List.take_add_one, ht, h1]
    refine ⟨rfl, fun x hx => ?_⟩
    rcases List.mem_append.1 hx with hx | hx
    · exact h2 x hx
    · simp at hx; subst hx; exact hb, fun h => by cases h⟩
theorem Ga.len {f : FT} {ts l : List FT} {i : Nat} {b : Bool} (h : Ga f ts i b l) (hi : i ≤ ts.length) : l.length ≤ i + 1 := by
  cases b with
  | false => rw [(h.no rfl).1, List.length_take]; omega
  | true =>
    have h1 := congrArg List.length (h.yes rfl)
    have h2 : ∀ xs : List FT, (insF f xs).length = xs.length + 1 := by
      intro xs
      induction xs with
      | nil => rfl
      | cons x xs ih => unfold insF; split <;> simp [ih]
    rw [h2, List.length_append, List.length_drop] at h1
    omega
/-- A file comes. -/
def putD (d : Dk) (f : Fi) : Dk := { d with fs := insL f d.fs }
set_option maxRecDepth 100000 in
set_option maxHeartbeats 6400000 in
theorem refPut_any (B g : Nat) (W F : Nat → Prop) (v : Value) (ts : List FT) (d : Dk) (f : FT) (w : World) (h : RDv B w g W F v ts d) (hl : d.fs.length ≤ 1048575) (hB : B ≤ w.heap.size) (hf : f.In w W F) :
    Calls Tryd.prog 43 #[.pointer (some ⟨g, 0, none⟩), .agg f.cells.toArray] w fun r w' => r = .returned (.tuple #[]) ∧ ∃ v2, RDv B w' g (newW g v2) (newF F v2) v2 (insF f ts) (putD d f.fi) ∧ Moves w W F w' (newW g v2) (newF F v2) := by
  have HH := hidU h
  have HF := hidU hf
  obtain ⟨m, hm⟩ : ∃ n, Hid (n = ts.length) := ⟨_, (rfl : ts.length = _)⟩
  have hlm : m ≤ 1048575 := by rw [hm.out, h.len]; exact hl
  obtain ⟨s, hs⟩ : ∃ s, Hid (s = f.nm) := ⟨_, (rfl : f.nm = _)⟩
  clear hl h hf
  go_enter Tryd.func43, Tryd.ntmps43
  go_wp2_with (refine wpList_box_at rfl 70 (.tmp 1) rfl f.cells rfl ?_; intro w1 hA1 hb1 hs1; refine Hid.out ?_)
  refine hidU ?_
  obtain ⟨gb, hgb⟩ : ∃ k, k = w.heap.size := ⟨_, rfl⟩
  rw [← hgb]
  rw [← hgb] at hA1 hs1
  have HG := hidU hgb
  have H1 := hidU (HH.out.below hb1)
  have HB1 := hidU hb1
  obtain ⟨a, c, rfl, hc1, hlook⟩ := H1.out.look
  have HL := hidU hlook
  rw [← hm.out] at HL hc1
  have HA1 := hidU hA1
  have hsz : gb < w1.heap.size := by omega
  have HS1 := hidU hs1
  clear hA1 hgb hb1 hs1 hlook
  go_wp2
  go_loopw [4, 5, 6] (fun s q j wr => ∃ (i : Nat) (b : Bool) (l : List FT), j = .int .i64 (i : Int) ∧ q = .bool b ∧ i ≤ m ∧ Hid (OwnX eF w1.heap.size wr s l) ∧ Hid (Below w1.heap.size w1 wr) ∧ Hid (Ga f ts i b l)) (fun _ _ j _ => m - (intOf j).toNat)
  case atStart => exact ⟨0, false, [], rfl, rfl, by omega, OwnX.nil _ _ _, Below.refl _ _, Ga.start _ _⟩
  case round =>
    obtain ⟨i, b, l, rfl, rfl, hi, hO, hBw, hG⟩ := hrel
    obtain ⟨cL, hit⟩ := HL.out wr hBw.out
    have HA := hidU (HA1.out.below hBw.out)
    have HLn := hidU (hG.out.len (by rw [← hm.out]; exact hi))
    have hszr := hBw.out.size
    by_cases hc : i < m
    · obtain ⟨t, ht⟩ : ∃ k, ts[i]? = some k := ⟨ts[i]'(by rw [← hm.out]; exact hc), by rw [List.getElem?_eq_getElem]⟩
      obtain ⟨k, o, rfl, hr⟩ := hit i t ht
      have q1 := (range4 hr).1
      have cF : wr.cell? ⟨gb, 0, none⟩ = some (.string s) := by rw [HA.out.cell, hs.out]; rfl
      have HR := hidU hr
      have HT := hidU ht
      obtain ⟨n, hn⟩ : ∃ s, Hid (s = t.nm) := ⟨_, (rfl : t.nm = _)⟩
      rw [← hn.out] at q1
      have hkl : k < wr.heap.size := lt_of_cell q1
      have HRS : Hid (∀ u, Below wr.heap.size wr u → u.cell? ⟨g, 1, none⟩ = some (.slice (some ⟨k, o, none⟩) m c) ∧ u.rangeAt k (o + i * 4) t.cells) := fun u hu => ⟨by rw [hu.cell (lt_of_cell cL)]; exact cL, fun j x hj => by rw [hu.cell hkl]; exact HR.out j x hj⟩
      clear hr ht hit
      cases b with
      | true =>
        go_wp2
        go_quiet (fail)
        go_wp2_with (first | (refine wpList_loadF rfl (.tmp 41) rfl k (o + i * 4) t rfl HR.out ?_) | (refine wpList_layF1 rfl (.tmp 42) rfl t rfl ?_; intro u1 hRu hcu hsu; refine Hid.out ?_))
        refine hidU ?_
        have hbu : Below wr.heap.size wr u1 := ⟨hcu.os, hcu.tape, hcu.output, hcu.size, hcu.block⟩
        have HRu := hidU hRu
        have HBu := hidU hbu
        have HOu := hidU (hO.out.below hbu)
        have hszu := hbu.size
        clear hRu hbu hcu hsu cL q1 cF
        go_wp2_with (refine wpList_appX eF rfl (.tmp 35) (.tmp 43) rfl w1.heap.size _ _ 1 1 rfl rfl HOu.out rfl (fun h => by cases h) (Nat.le_refl _) HRu.out (by have := HLn.out; unfold maxLen; omega) (by have := HLn.out; show (_ + 1) * 56 ≤ _; omega) (by omega) ?_; intro vu u2 hou hgu; refine Hid.out ?_)
        refine hidU ?_
        have HPu := hidU hou
        have HDu := hidU (Below.grown (HBu.out.mono (by omega : w1.heap.size ≤ _)) hgu (by omega) (fun k hk => (HOu.out.block k hk).1))
        have hsyu := HDu.out.size
        clear hou hgu
        go_wp2
        go_roundw
        case rel => exact ⟨i + 1, true, l ++ [t], by go_num, by trivial, by omega, HPu, hidU (hBw.out.trans HDu.out), hG.out.in HT.out⟩
        case measure => simp [intOf]; omega
      | false =>
        cases hb : Op.bytesLess s.toList n.toList with
        | true =>
          have HG2 : Hid (Ga f ts (i + 1) true (l ++ [f] ++ [t])) := hG.out.comes HT.out (by rw [← hs.out, ← hn.out]; exact hb)
          have HRF : Hid (wr.rangeAt gb 0 f.cells) := fun j x hj => by rw [Nat.zero_add, HA.out.cell]; exact hj
          have HLn2 : Hid ((l ++ [f]).length ≤ i + 2) := by show _ ≤ _; rw [List.length_append]; have := HLn.out; simp; omega
          go_wp2
          go_quiet (fail)
          go_wp2_with (first | (refine wpList_loadF rfl (.tmp 3) rfl gb 0 f rfl HRF.out ?_) | (refine wpList_layF1 rfl (.tmp 32) rfl f rfl ?_; intro u1 hRu hcu hsu; refine Hid.out ?_))
          refine hidU ?_
          have hbu : Below wr.heap.size wr u1 := ⟨hcu.os, hcu.tape, hcu.output, hcu.size, hcu.block⟩
          have HRu := hidU hRu
          have HBu := hidU hbu
          have HOu := hidU (hO.out.below hbu)
          have hszu := hbu.size
          clear hRu hbu hcu hsu 
          go_wp2_with (refine wpList_appX eF rfl (.tmp 31) (.tmp 33) rfl w1.heap.size _ _ 1 1 rfl rfl HOu.out rfl (fun h => by cases h) (Nat.le_refl _) HRu.out (by have := HLn.out; unfold maxLen; omega) (by have := HLn.out; show (_ + 1) * 56 ≤ _; omega) (by omega) ?_; intro vu u2 hou hgu; refine Hid.out ?_)
          refine hidU ?_
          have HPu := hidU hou
          have HDu := hidU (Below.grown (HBu.out.mono (by omega : w1.heap.size ≤ _)) hgu (by omega) (fun k hk => (HOu.out.block k hk).1))
          have hsyu := HDu.out.size
          clear hou hgu
          have HBu := hidU (hBw.out.trans HDu.out)
          obtain ⟨cL2, hit2⟩ := HL.out u2 HBu.out
          obtain ⟨k2, o2, hk2, hr2⟩ := hit2 i t HT.out
          cases hk2
          have HR2 := hidU hr2
          have hsz2 := HBu.out.size
          clear cL q1 cF hit2 hr2 HR hkl HRS HOu HRu
          go_wp2_with (first | (refine wpList_loadF rfl (.tmp 41) rfl k (o + i * 4) t rfl HR2.out ?_) | (refine wpList_layF1 rfl (.tmp 42) rfl t rfl ?_; intro x1 hRx hcx hsx; refine Hid.out ?_))
          refine hidU ?_
          have hbx : Below u2.heap.size u2 x1 := ⟨hcx.os, hcx.tape, hcx.output, hcx.size, hcx.block⟩
          have HRx := hidU hRx
          have HBx := hidU hbx
          have HOx := hidU (HPu.out.below hbx)
          have hszx := hbx.size
          clear hRx hbx hcx hsx cL2
          go_wp2_with (refine wpList_appX eF rfl (.tmp 35) (.tmp 43) rfl w1.heap.size _ _ 1 1 rfl rfl HOx.out rfl (fun h => by cases h) (Nat.le_refl _) HRx.out (by have := HLn2.out; unfold maxLen; omega) (by have := HLn2.out; show (_ + 1) * 56 ≤ _; omega) (by omega) ?_; intro vx x2 hox hgx; refine Hid.out ?_)
          refine hidU ?_
          have HPx := hidU hox
          have HDx := hidU (Below.grown (HBx.out.mono (by omega : w1.heap.size ≤ _)) hgx (by omega) (fun k hk => (HOx.out.block k hk).1))
          have hsyx := HDx.out.size
          clear hox hgx
          go_wp2
          go_roundw
          case rel => exact ⟨i + 1, true, l ++ [f] ++ [t], by go_num, by trivial, by omega, HPx, hidU (HBu.out.trans HDx.out), HG2⟩
          case measure => simp [intOf]; omega
        | false =>
          have HG2 : Hid (Ga f ts (i + 1) false (l ++ [t])) := hG.out.stays HT.out (by rw [← hs.out, ← hn.out]; exact hb)
          go_wp2
          go_quiet (fail)
          go_wp2_with (first | (refine wpList_loadF rfl (.tmp 41) rfl k (o + i * 4) t rfl HR.out ?_) | (refine wpList_layF1 rfl (.tmp 42) rfl t rfl ?_; intro u1 hRu hcu hsu; refine Hid.out ?_))
          refine hidU ?_
          have hbu : Below wr.heap.size wr u1 := ⟨hcu.os, hcu.tape, hcu.output, hcu.size, hcu.block⟩
          have HRu := hidU hRu
          have HBu := hidU hbu
          have HOu := hidU (hO.out.below hbu)
          have hszu := hbu.size
          clear hRu hbu hcu hsu cL q1 cF
          go_wp2_with (refine wpList_appX eF rfl (.tmp 35) (.tmp 43) rfl w1.heap.size _ _ 1 1 rfl rfl HOu.out rfl (fun h => by cases h) (Nat.le_refl _) HRu.out (by have := HLn.out; unfold maxLen; omega) (by have := HLn.out; show (_ + 1) * 56 ≤ _; omega) (by omega) ?_; intro vu u2 hou hgu; refine Hid.out ?_)
          refine hidU ?_
          have HPu := hidU hou
          have HDu := hidU (Below.grown (HBu.out.mono (by omega : w1.heap.size ≤ _)) hgu (by omega) (fun k hk => (HOu.out.block k hk).1))
          have hsyu := HDu.out.size
          clear hou hgu
          go_wp2
          go_roundw
          case rel => exact ⟨i + 1, false, l ++ [t], by go_num, by trivial, by omega, HPu, hidU (hBw.out.trans HDu.out), HG2⟩
          case measure => simp [intOf]; omega
    · have hmi : ts.length ≤ i := by rw [← hm.out]; omega
      have HE := hidU (hG.out.fin hmi)
      have HI : Hid (∀ x ∈ insF f ts, x.In w W F) := fun x hx => (insF_mem f ts x hx).elim (fun e => e ▸ HF.out) (fun e => HH.out.ins x e)
      have HE2 : Hid ((insF f ts).map FT.fi = (putD d f.fi).fs) := by show _ = _; rw [insF_fi, HH.out.fs]; rfl
      have hle : w.heap.size ≤ w1.heap.size := HB1.out.size
      have HBA := hidU (HB1.out.trans (hBw.out.mono hle))
      cases b with
      | true =>
        rw [if_pos rfl] at HE
        rw [HE.out] at hO
        have hA : At 61 wr g _ := HH.out.at_.below HBA.out
        obtain ⟨hv1, hv2⟩ := hO.out.cells
        clear hit HL
        go_wp2_with (refine wpList_store1 rfl 59 (.tmp 54) (.tmp 52) rfl g 1 _ rfl rfl 61 _ hA (by simp) i63 hv1 hv2 ?_; intro w3 hA3 hb3 hs3; refine Hid.out ?_)
        refine hidU ?_
        simp only [List.set_cons_succ, List.set_cons_zero] at hA3
        go_wp2
        go_end0
        exact ⟨rfl, _, HH.out.anew hB (hO.out.less hle) HBA.out HI.out hA3 hb3 HE2.out⟩
      | false =>
        rw [if_neg (by simp)] at HE
        have HRF : Hid (wr.rangeAt gb 0 f.cells) := fun j x hj => by rw [Nat.zero_add, HA.out.cell]; exact hj
        go_wp2_with (first | (refine wpList_loadF rfl (.tmp 3) rfl gb 0 f rfl HRF.out ?_) | (refine wpList_layF1 rfl (.tmp 48) rfl f rfl ?_; intro u1 hRu hcu hsu; refine Hid.out ?_))
        refine hidU ?_
        have hbu : Below wr.heap.size wr u1 := ⟨hcu.os, hcu.tape, hcu.output, hcu.size, hcu.block⟩
        have HRu := hidU hRu
        have HBu := hidU hbu
        have HOu := hidU (hO.out.below hbu)
        have hszu := hbu.size
        clear hRu hbu hcu hsu cL
        go_wp2_with (refine wpList_appX eF rfl (.tmp 47) (.tmp 49) rfl w1.heap.size _ _ 1 1 rfl rfl HOu.out rfl (fun h => by cases h) (Nat.le_refl _) HRu.out (by have := HLn.out; unfold maxLen; omega) (by have := HLn.out; show (_ + 1) * 56 ≤ _; omega) (by omega) ?_; intro vu u2 hou hgu; refine Hid.out ?_)
        refine hidU ?_
        have HPu := hidU hou
        have HDu := hidU (Below.grown (HBu.out.mono (by omega : w1.heap.size ≤ _)) hgu (by omega) (fun k hk => (HOu.out.block k hk).1))
        have hsyu := HDu.out.size
        clear hou hgu
        have HBu := hidU (hBw.out.trans HDu.out)
        have HBB := hidU (HB1.out.trans (HBu.out.mono hle))
        rw [HE.out] at HPu
        have hA : At 61 u2 g _ := HH.out.at_.below HBB.out
        obtain ⟨hv1, hv2⟩ := HPu.out.cells
        clear hit HL
        go_wp2_with (refine wpList_store1 rfl 59 (.tmp 54) (.tmp 52) rfl g 1 _ rfl rfl 61 _ hA (by simp) i63 hv1 hv2 ?_; intro w3 hA3 hb3 hs3; refine Hid.out ?_)
        refine hidU ?_
        simp only [List.set_cons_succ, List.set_cons_zero] at hA3
        go_wp2
        go_end0
        exact ⟨rfl, _, HH.out.anew hB (HPu.out.less hle) HBB.out HI.out hA3 hb3 HE2.out⟩
end Go.Proofs.YtcmkjjlchljffaaDoor

/- The given answer's disk: Sync. -/
namespace Go.Proofs.YtcmkjjlchljffaaDoor
open Go.RowKit
set_option linter.unusedVariables false

theorem RDv.drewN {B g : Nat} {w : World} {W F : Nat → Prop} {v : Value} {ts : List FT} {d : Dk} (h : RDv B w g W F v ts d) (n : Nat) : RDv B (w.drewN n) g W F v ts d := h.same (fun _ _ => rfl) (Nat.le_refl _)
theorem RD.drewN {B g : Nat} {w : World} {W F : Nat → Prop} {d : Dk} (h : RD B w g W F d) (n : Nat) : RD B (w.drewN n) g W F d := h.same (fun _ _ => rfl) (Nat.le_refl _)
/-- The first file of a name is another one. -/
def setL (nm : ByteArray) (u : Fi → Fi) : List Fi → List Fi
  | [] => []
  | f :: fs => if isN nm f then u f :: fs else f :: setL nm u fs
theorem setL_at {nm : ByteArray} {u : Fi → Fi} : ∀ {fs : List Fi} {f : Fi} {i : Nat}, fs.find? (isN nm) = some f → atZ fs nm = (i : Int) → setL nm u fs = fs.set i (u f) := by
  intro fs f i h hi
  have hfi : fs.findIdx (isN nm) = i := by
    obtain ⟨j, h1, h2, _⟩ := atZ_some h
    rw [h1] at hi
    have hij : j = i := by omega
    subst hij
    unfold atZ at h1
    split at h1
    · omega
    · exact absurd h1 (by omega)
  clear hi
  induction fs generalizing i with
  | nil => cases h
  | cons a fs ih =>
    unfold setL
    cases hb : isN nm a with
    | true =>
      rw [List.find?_cons_of_pos hb] at h
      cases h
      rw [List.findIdx_cons, hb] at hfi
      cases hfi
      simp
    | false =>
      rw [List.find?_cons_of_neg (by rw [hb]; simp)] at h
      rw [List.findIdx_cons, hb] at hfi
      simp at hfi
      subst hfi
      simp only [List.set_cons_succ]
      rw [← ih h rfl]
      simp
/-- What a call of the given answer's disk leaves: the disk is another one, and the error. -/
def PostD (B g : Nat) (W F : Nat → Prop) (w : World) (o : Dk × Int) (r : Ending) (w' : World) : Prop := r = .returned (.int .i64 o.2) ∧ ∃ W' F', RD B w' g W' F' o.1 ∧ Moves w W F w' W' F'
/-- A file's cells are written, in its place. -/
theorem RDv.setf {B g k c i j : Nat} {w w' : World} {W F : Nat → Prop} {ts : List FT} {d d' : Dk} {t t' : FT} {u : Value} {cs : List Value} (h : RDv B w g W F (.slice (some ⟨k, 0, none⟩) ts.length c) ts d) (hA : At 70 w k cs) (ht : ts[i]? = some t) (hy : t'.cells = t.cells.set j u) (hj : j < 4)
    (hA' : At 70 w' k (cs.set (i * 4 + j) u)) (hb : But k w w') (hin : t'.In w' W F) (e1 : d'.sz = d.sz) (e2 : d'.lf = d.lf) (e3 : d'.wr = d.wr) (e4 : (ts.set i t').map FT.fi = d'.fs) : RDv B w' g W F (.slice (some ⟨k, 0, none⟩) (ts.set i t').length c) (ts.set i t') d' := by
  have hk : W k := h.wv k rfl
  have hkg : g ≠ k := fun e => h.ne (by rw [e]; rfl)
  refine ⟨?_, ?_, e4, fun f hf => ?_, h.wg, h.wv, h.wf, fun q hq => Nat.lt_of_lt_of_le (h.lt q hq) hb.size⟩
  · rw [e1, e2, e3, List.length_set]
    exact h.at_.same (hb.block g h.at_.lt hkg)
  · rw [List.length_set]
    exact h.own.put hA ht hy hj hA'
  · rcases List.mem_or_eq_of_mem_set hf with hf | rfl
    · obtain ⟨q1, q2, q3⟩ := h.ins f hf
      exact ⟨q1.same fun ad ha => hb.block _ (h.lt _ (q2 ad ha).1) fun e => (q2 ad ha).2 (e ▸ hk), q2, q3⟩
    · exact hin
def syO (d : Dk) (nm : ByteArray) : Dk × Int :=
  if (d.fs.find? (isN nm)).isNone then (d, 6) else if d.lf = 0 then (d, 13) else ({ pwD d with fs := setL nm (fun f => { f with sf := f.bs.length, hd := true }) d.fs }, 0)
/-- What all calls may lean on. -/
structure Fine (d : Dk) : Prop where
  sz : d.sz ≤ 67108864
  us : usedL d.fs ≤ d.sz
  ln : d.fs.length ≤ 256
  lf : -1 ≤ d.lf
  lg : d.lf ≤ 9223372036854775807
  wr : d.wr ≤ 4611686018427387904
  sf : ∀ f ∈ d.fs, f.sf ≤ f.bs.length
theorem mem_used {fs : List Fi} {f : Fi} (h : f ∈ fs) : f.bs.length ≤ usedL fs := by
  induction fs with
  | nil => cases h
  | cons a fs ih =>
    have e : usedL (a :: fs) = a.bs.length + usedL fs := by simp [usedL]
    rcases List.mem_cons.1 h with rfl | h
    · omega
    · have := ih h; omega
end Go.Proofs.YtcmkjjlchljffaaDoor

/- The given answer's disk: Name, Remove. -/
namespace Go.Proofs.YtcmkjjlchljffaaDoor
open Go.RowKit
set_option linter.unusedVariables false

/-- A byte that a file's name may have. -/
def chOk (c : UInt8) : Bool := (decide (97 ≤ c.toNat) && decide (c.toNat ≤ 122)) || (decide (48 ≤ c.toNat) && decide (c.toNat ≤ 57)) || c.toNat == 46 || c.toNat == 45
def nmOk (s : ByteArray) : Bool := s.data.toList.all chOk && (decide (1 ≤ s.size) && decide (s.size ≤ 40))
def rmO (d : Dk) (nm : ByteArray) : Dk × Int :=
  if (d.fs.find? (isN nm)).isNone then (d, 6) else if d.lf = 0 then (d, 13) else (goneD (pwD d) nm, 0)
theorem FT.In.moves {B g : Nat} {w w' : World} {W F : Nat → Prop} {v v2 : Value} {ts : List FT} {d : Dk} {t : FT} (h : RDv B w g W F v ts d) (hm : Moves w W F w' (newW g v2) (newF F v2)) (ht : t.In w W F) : t.In w' (newW g v2) (newF F v2) := by
  obtain ⟨q1, q2, q3⟩ := ht
  refine ⟨q1.same fun ad ha => hm.chg.block _ (h.lt _ (q2 ad ha).1) (q2 ad ha).2, fun ad ha => ⟨.inl (q2 ad ha).1, fun e => ?_⟩, q3⟩
  rcases hm.wr _ e with e | e
  · exact (q2 ad ha).2 e
  · have := h.lt _ (q2 ad ha).1
    omega
theorem FT.In.but {B g k : Nat} {w w' : World} {W F : Nat → Prop} {v : Value} {ts : List FT} {d : Dk} {t : FT} (h : RDv B w g W F v ts d) (hb : But k w w') (hk : ¬ F k) (ht : t.In w W F) : t.In w' W F :=
  ⟨ht.1.same fun ad ha => hb.block _ (h.lt _ (ht.2.1 ad ha).1) fun e => hk (e ▸ (ht.2.1 ad ha).1), ht.2⟩
theorem RDv.but {B g k : Nat} {w w' : World} {W F : Nat → Prop} {v : Value} {ts : List FT} {d : Dk} (h : RDv B w g W F v ts d) (hb : But k w w') (hk : ¬ F k) : RDv B w' g W F v ts d :=
  h.same (fun q hq => hb.block q (h.lt q hq) fun e => hk (e ▸ hq)) hb.size
theorem Moves.but {k : Nat} {w w1 w2 : World} {W F W1 F1 : Nat → Prop} (h : Moves w W F w1 W1 F1) (hb : But k w1 w2) (hk : w.heap.size ≤ k) : Moves w W F w2 W1 F1 :=
  ⟨h.chg.more (K' := fun q => q = k) (Chg.of_but hb rfl) fun q hq e => by omega, h.wr, h.rd⟩
/-- A block that is neither written nor read stays so. -/
theorem newF_not {g k : Nat} {w w' : World} {W F : Nat → Prop} {v2 : Value} (hm : Moves w W F w' (newW g v2) (newF F v2)) (hk : k < w.heap.size) (hn : ¬ F k) : ¬ newF F v2 k := fun e => (hm.rd k e).elim hn (by omega)
set_option maxRecDepth 100000 in
set_option maxHeartbeats 6400000 in
theorem refName_any (s : ByteArray) (w : World) (hs : s.size ≤ 9223372036854775807) : Calls Tryd.prog 39 #[.string s] w fun r w' => r = .returned (.bool (nmOk s)) ∧ w' = w := by
  obtain ⟨R, hR⟩ : ∃ R, Hid (R = nmOk s) := ⟨_, (rfl : _ = nmOk _)⟩
  rw [← hR.out]
  go_enter Tryd.func39, Tryd.ntmps39
  go_wp2
  go_loopw [3] (fun j wr => ∃ i : Nat, j = .int .i64 (i : Int) ∧ i ≤ s.size ∧ wr = w ∧ Hid (∀ q (h : q < s.size), q < i → chOk (s[q]) = true)) (fun j _ => s.size - (intOf j).toNat)
  case atStart => exact ⟨0, rfl, by omega, rfl, fun q _ hq => by omega⟩
  case round =>
    obtain ⟨i, rfl, hi, rfl, hX⟩ := hrel
    by_cases hc : i < s.size
    · have HCh : Hid (chOk s[i] = ((decide (97 ≤ s[i].toNat) && decide (s[i].toNat ≤ 122)) || (decide (48 ≤ s[i].toNat) && decide (s[i].toNat ≤ 57)) || s[i].toNat == 46 || s[i].toNat == 45)) := rfl
      have stay : chOk s[i] = true → Hid (∀ q (h : q < s.size), q < i + 1 → chOk (s[q]) = true) := fun hk q h hq => by
        by_cases hqi : q = i
        · subst hqi; exact hk
        · exact hX.out q h (by omega)
      have bad : chOk s[i] = false → R = false := fun hk => by
        rw [hR.out, nmOk]
        have : s.data.toList.all chOk = false := by
          rw [List.all_eq_false]
          exact ⟨s[i], by rw [Array.mem_toList_iff]; exact Array.getElem_mem _, by rw [hk]; simp⟩
        rw [this]
        rfl
      have bad2 : chOk s[i] = false → R = false := bad
      have HSt := hidU stay
      have HBd := hidU bad2
      clear stay bad bad2 hX hR
      by_cases a : 97 ≤ s[i].toNat <;> by_cases b : 48 ≤ s[i].toNat
      all_goals go_wp2
      all_goals first
        | (go_ret; refine ⟨?_, rfl⟩; have := HBd.out (by rw [HCh.out]; simp; simp at *; omega); rw [this]; rfl)
        | (go_roundw
           · exact ⟨i + 1, by go_num, by omega, by trivial, HSt.out (by rw [HCh.out]; simp; simp at *; omega)⟩
           · simp [intOf]; omega)
    · have hRf : Hid (R = (decide (1 ≤ s.size) && decide (s.size ≤ 40))) := by
        show R = _
        rw [hR.out, nmOk]
        have : s.data.toList.all chOk = true := by
          rw [List.all_eq_true]
          intro x hx
          rw [Array.mem_toList_iff] at hx
          obtain ⟨q, hq, rfl⟩ := Array.mem_iff_getElem.1 hx
          exact hX.out q hq (by have : s.data.size = s.size := rfl; omega)
        rw [this]
        rfl
      clear hX hR
      by_cases a : 1 ≤ s.size
      · by_cases b : s.size ≤ 40
        · go_wp2
          go_ret
          exact ⟨by rw [hRf.out]; simp [a, b]; omega, rfl⟩
        · go_wp2
          go_ret
          exact ⟨by rw [hRf.out]; simp [a, b]; omega, rfl⟩
      · go_wp2
        go_ret
        exact ⟨by rw [hRf.out]; simp [a], rfl⟩
def rnO (d : Dk) (nm to : ByteArray) : Dk × Int :=
  if nmOk to = false then (d, 2) else match d.fs.find? (isN nm) with
  | none => (d, 6)
  | some f => if f.sf < f.bs.length then (d, 10) else if d.lf = 0 then (d, 13) else if nm.toList = to.toList then (pwD d, 0) else (putD (goneD (goneD (pwD d) nm) to) { f with nm := to, hd := true }, 0)
theorem i65 : (Tryd.prog.info? 61).map (·.size) = some 4 := by kernel_rfl
theorem i9 : (Tryd.prog.info? 9).map (·.size) = some 1 := by kernel_rfl
theorem z79 : (Tryd.prog.info? 70).map (fun i => (i.zero, i.size)) = some (some (.agg [Value.string ⟨#[]⟩, .slice none 0 0, .int .i64 0, .bool false].toArray), 4) := by kernel_rfl
end Go.Proofs.YtcmkjjlchljffaaDoor
