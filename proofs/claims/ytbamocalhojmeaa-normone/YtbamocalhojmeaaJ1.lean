/- Joined texts of the proof. -/
import Derived.WalkKit
import Derived.WalkSpells
import Derived.Test.YtbamocalhojmeaaProg
import Derived.BigQuiet
import Derived.Deep.QuietTactic
import Derived.Deep.WholeRow
import Derived.Deep.RegionHeld3
import Derived.Deep.MidRow

/- The plain functions of bytes, numbers and digits that the contracts speak of, and small facts about them: no program is named here. -/
namespace Go.Proofs.Ytbamocalhojmeaa

/-- A byte as a cell holds it. -/
def B8 (b : UInt8) : Value := .int .u8 (b.toNat : Int)

/-- The byte of a number. -/
def ub (n : Nat) : UInt8 := UInt8.ofNat n

theorem ub_toNat (n : Nat) (h : n < 256) : (ub n).toNat = n := by simp [ub]; omega

/-- A number's shortest bytes: 'f' groups more at most. -/
def short : Nat → Nat → List UInt8
  | 0, n => [ub n]
  | f + 1, n => if n < 128 then [ub n] else ub (n % 128 + 128) :: short f (n / 128)

theorem short_small (f n : Nat) (h : n < 128) : short f n = [ub n] := by
  cases f with
  | zero => rfl
  | succ f => simp [short, h]

theorem short_big (f n : Nat) (h : 128 ≤ n) : short (f + 1) n = ub (n % 128 + 128) :: short f (n / 128) := by
  simp [short, show ¬ n < 128 by omega]

theorem short_length (f n : Nat) : (short f n).length ≤ f + 1 := by
  induction f generalizing n with
  | zero => simp [short]
  | succ f ih => unfold short; split <;> simp; have := ih (n / 128); omega

end Go.Proofs.Ytbamocalhojmeaa

/- Small laws for walks over slices of bytes: an append of one byte to a row that the call itself made. -/
namespace Go.Proofs.Ytbamocalhojmeaa
open Go.RowKit


/-- The call's own row of bytes. -/
def Own (base : Nat) (w : World) (v : Value) (out : List UInt8) : Prop := w.ownsRow base 5 1 v out.length (out.map B8)

theorem Own.nil (base : Nat) (w : World) : Own base w (.slice none 0 0) [] := World.ownsRow_nil _ _ _ _

theorem Own.block {base : Nat} {w : World} {v : Value} {out : List UInt8} (h : Own base w v out) : ∀ k, v.ownBlock = some k → base ≤ k := by
  intro k hk
  obtain ⟨_, ⟨rfl, _⟩ | ⟨g, cap, cur, rfl, hg, _⟩⟩ := h
  · simp [Value.ownBlock] at hk
  · simp [Value.ownBlock] at hk
    omega

/-- What a slice of bytes that is read is known by: it has no bytes; or it leads to plain cells that hold them. -/
def Row (w : World) (a : Option Addr) (bs : List UInt8) : Prop :=
  bs = [] ∨ ∃ b off, a = some ⟨b, off, none⟩ ∧ ∀ j, j < bs.length → w.cell? ⟨b, off + j, none⟩ = some (.int .u8 ((bs.getD j 0).toNat : Int))

theorem lt_of_cell {w : World} {p : Addr} {v : Value} (h : w.cell? p = some v) : p.block < w.heap.size := by
  unfold World.cell? at h
  by_cases hp : p.block < w.heap.size
  · exact hp
  · rw [Array.getElem?_eq_none (by omega)] at h; simp at h

theorem Row.below {w w' : World} {a : Option Addr} {bs : List UInt8} (h : Row w a bs) (hb : Below w.heap.size w w') : Row w' a bs := by
  rcases h with h | ⟨b, off, rfl, hc⟩
  · exact .inl h
  · exact .inr ⟨b, off, rfl, fun j hj => by rw [hb.cell (lt_of_cell (hc j hj))]; exact hc j hj⟩

theorem Own.row {base : Nat} {w : World} {v : Value} {out : List UInt8} (h : Own base w v out) : ∃ a cap, v = .slice a out.length cap ∧ out.length ≤ cap ∧ cap ≤ maxLen ∧ Row w a out := by
  obtain ⟨h1, ⟨rfl, h0⟩ | ⟨g, cap, cur, rfl, hg, hh, hc, hm, hs, ht⟩⟩ := h
  · have : out = [] := List.length_eq_zero_iff.1 h0
    subst this
    exact ⟨none, 0, rfl, Nat.le_refl _, Nat.zero_le _, .inl rfl⟩
  · refine ⟨_, cap, rfl, hc, hm, .inr ⟨g, 0, rfl, fun j hj => ?_⟩⟩
    simp only [World.cell?, hh]
    have e1 : (cur.toList.take (out.length * 1))[j]? = some (B8 (out.getD j 0)) := by
      rw [ht]
      simp [List.getElem?_map, List.getElem?_eq_getElem hj, List.getD]
    rw [List.getElem?_take_of_lt (by omega)] at e1
    simpa [B8] using e1

theorem size5 (w : World) : (sizeOf 5).run Try.prog w = .ok 1 w := by kernel_rfl

end Go.Proofs.Ytbamocalhojmeaa

/- Blocks of arrays and structs as lists of cells, and steps of a walk over whole ones: the world behind a step is a letter, with what is known of it. -/
namespace Go.Proofs.Ytbamocalhojmeaa
open Go.RowKit
set_option linter.unusedVariables false

/-- A block of any type, its cells known. -/
def At (t : TypeId) (w : World) (g : Nat) (cs : List Value) : Prop := w.heap[g]? = some (.cells cs.toArray t (0, 0))

section
variable {t : TypeId} {w : World} {g : Nat} {cs : List Value}
theorem At.cell (h : At t w g cs) (i : Nat) : w.cell? ⟨g, i, none⟩ = cs[i]? := by
  simp [World.cell?, show w.heap[g]? = _ from h]
theorem At.frozen (h : At t w g cs) (i : Nat) : w.frozen? ⟨g, i, none⟩ = false := by
  simp [World.frozen?, show w.heap[g]? = _ from h]
theorem At.lt (h : At t w g cs) : g < w.heap.size := by
  rcases Nat.lt_or_ge g w.heap.size with hlt | hge
  · exact hlt
  · unfold At at h; rw [Array.getElem?_eq_none hge] at h; simp at h
theorem At.set (h : At t w g cs) (i : Nat) (v : Value) : At t (w.setCell ⟨g, i, none⟩ v) g (cs.set i v) := by
  have := heap_setCell_same w g i cs.toArray t v h
  unfold At
  rw [this]
  simp
theorem At.setOther (h : At t w g cs) (a : Addr) (v : Value) (hn : g ≠ a.block) : At t (w.setCell a v) g cs := by
  unfold At
  rw [heap_setCell_other w a g v hn]
  exact h
theorem At.below {w' : World} (h : At t w g cs) (hb : Below w.heap.size w w') : At t w' g cs := by
  unfold At
  rw [hb.block g h.lt]
  exact h
theorem At.drewN (h : At t w g cs) (n : Nat) : At t (w.drewN n) g cs := h
theorem At.drew (h : At t w g cs) : At t w.drew g cs := h
end

/-- All blocks but one are as they were. -/
structure But (g : Nat) (w w' : World) : Prop where
  os : w'.os = w.os
  tape : w'.tape = w.tape
  output : w'.output = w.output
  size : w.heap.size ≤ w'.heap.size
  block : ∀ k, k < w.heap.size → k ≠ g → w'.heap[k]? = w.heap[k]?

theorem But.refl (g : Nat) (w : World) : But g w w := ⟨rfl, rfl, rfl, Nat.le_refl _, fun _ _ _ => rfl⟩
theorem But.trans {g : Nat} {a b c : World} (h : But g a b) (k : But g b c) : But g a c :=
  ⟨k.os.trans h.os, k.tape.trans h.tape, k.output.trans h.output, Nat.le_trans h.size k.size, fun i hi hn => (k.block i (Nat.lt_of_lt_of_le hi h.size) hn).trans (h.block i hi hn)⟩
theorem But.of_below {g : Nat} {w w' : World} (h : Below w.heap.size w w') : But g w w' := ⟨h.os, h.tape, h.output, h.size, fun k hk _ => h.block k hk⟩
theorem But.below {g B : Nat} {w0 w w' : World} (h : But g w w') (hb : Below B w0 w) (hB : B ≤ g) (hs : B ≤ w.heap.size) : Below B w0 w' :=
  ⟨h.os.trans hb.os, h.tape.trans hb.tape, h.output.trans hb.output, Nat.le_trans hb.size h.size, fun k hk => (h.block k (by omega) (by omega)).trans (hb.block k hk)⟩
theorem But.at {t : TypeId} {g k : Nat} {w w' : World} {cs : List Value} (h : But g w w') (ha : At t w k cs) (hn : k ≠ g) : At t w' k cs := by
  unfold At
  rw [h.block k ha.lt hn]
  exact ha
theorem But.drewN {g : Nat} {a w : World} (h : But g a w) (n : Nat) : But g a (w.drewN n) := ⟨h.os, h.tape, h.output, h.size, h.block⟩
theorem But.setCell {g : Nat} {a w : World} (h : But g a w) (i : Nat) (v : Value) : But g a (w.setCell ⟨g, i, none⟩ v) :=
  ⟨h.os, h.tape, h.output, by simpa using h.size, fun k hk hn => by rw [heap_setCell_other w ⟨g, i, none⟩ k v hn]; exact h.block k hk hn⟩
theorem But.row {g : Nat} {w w' : World} (h : But g w w') {a : Option Addr} {bs : List UInt8} (hr : Row w a bs) (hn : ∀ b off, a = some ⟨b, off, none⟩ → b ≠ g) : Row w' a bs := by
  rcases hr with hr | ⟨b, off, rfl, hc⟩
  · exact .inl hr
  · exact .inr ⟨b, off, rfl, fun j hj => by rw [World.cell?_of_block (w := w) (h.block b (lt_of_cell (hc j hj)) (hn b off rfl))]; exact hc j hj⟩
section
variable {P : Program} {ops : Array Oper} {rest : List Oper} {o : Oper} {a : Act} {w : World} {Q : Exit → Act → World → Prop}

/-- A whole array or struct is laid into a new block. -/
theorem wpList_box_at (hgd : o.guard = none) (t : TypeId) (x : Operand) (ho : o.op = .box t x) (cs : List Value) (hx : a.eval x = .agg cs.toArray)
    (h : ∀ w', At t w' w.heap.size cs → Below w.heap.size w w' → w'.heap.size = w.heap.size + 1 → wpList P ops Q rest (a.put o.dst (.pointer (some ⟨w.heap.size, 0, none⟩))) w') :
    wpList P ops Q (o :: rest) a w := by
  refine wpList_plain hgd fun K hK => ?_
  have := hK _ _ (h (w.alloc (.cells cs.toArray t)) (_root_.Go.heap_alloc_new w _) ((Below.refl _ w).alloc (Nat.le_refl _) _) (by show (w.heap.push _).size = _; simp))
  unfold Oper.wp execOp
  simp only [ho, hx, Instr.box, Sem.run_bind]
  simpa [newVar, go_sem, Value.cells] using this

/-- A new block with the zero value of its type. -/
theorem wpList_alloc_at (hgd : o.guard = none) (t : TypeId) (ho : o.op = .alloc t) (cs : List Value) (n : Nat) (hz : (P.info? t).map (fun i => (i.zero, i.size)) = some (some (.agg cs.toArray), n))
    (h : ∀ w', At t w' w.heap.size cs → Below w.heap.size w w' → w'.heap.size = w.heap.size + 1 → wpList P ops Q rest (a.put o.dst (.pointer (some ⟨w.heap.size, 0, none⟩))) w') :
    wpList P ops Q (o :: rest) a w := by
  refine wpList_plain hgd fun K hK => ?_
  have := hK _ _ (h (w.alloc (.cells cs.toArray t)) (_root_.Go.heap_alloc_new w _) ((Below.refl _ w).alloc (Nat.le_refl _) _) (by show (w.heap.push _).size = _; simp))
  have h0 := (zero_of_info hz).1
  unfold Oper.wp execOp
  simp only [ho, Instr.alloc, Sem.run_bind, h0]
  simpa [newVar, go_sem, Value.cells] using this

/-- A whole array or struct is stored into a block that holds one. -/
theorem wpList_store_at (hgd : o.guard = none) (ty : TypeId) (x y : Operand) (ho : o.op = .store ty x y)
    (g : Nat) (cs : List Value) (hx : a.eval x = .pointer (some ⟨g, 0, none⟩)) (hy : a.eval y = .agg cs.toArray)
    (t : TypeId) (old : List Value) (hg : At t w g old) (hi : (P.info? ty).map (·.size) = some cs.length) (hold : old.length = cs.length) (h1 : ∀ v ∈ cs, v.oneCell' = true)
    (h : ∀ w', At t w' g cs → But g w w' → w'.heap.size = w.heap.size → wpList P ops Q rest (a.put o.dst undef) w') : wpList P ops Q (o :: rest) a w := by
  refine wpList_store_row hgd ty x y ho g cs.toArray hx hy t old.toArray hg (by simpa using hi) (by simpa using hold) (by simpa using h1) ?_
  refine h _ (setRow_heap w g _ _ t _ hg) ⟨rfl, rfl, rfl, by simp, fun k _ hn => setRow_other w g k _ hn⟩ (by simp)

/-- A whole array or struct is made. -/
theorem wpList_build_at (hgd : o.guard = none) (t : TypeId) (parts : Array (Nat × Operand)) (ho : o.op = .build t parts) (cs : List Value)
    (hb : P.built t (parts.map fun (i, x) => (i, a.eval x)).toList = some cs.toArray)
    (h : wpList P ops Q rest (a.put o.dst (.agg cs.toArray)) w) : wpList P ops Q (o :: rest) a w :=
  wpList_build hgd t parts ho (by rw [hb]; rfl) (by rw [hb]; exact h)

/-- A whole array or struct is read. -/
theorem wpList_load_at (hgd : o.guard = none) (ty : TypeId) (x : Operand) (ho : o.op = .load ty x)
    (g : Nat) (hx : a.eval x = .pointer (some ⟨g, 0, none⟩)) (t : TypeId) (cs : List Value) (hg : At t w g cs) (d : TypeDesc)
    (hu : P.underlying ty = some d) (hd : (match d with | .struct _ | .array _ _ => true | _ => false) = true) (hi : (P.info? ty).map (·.size) = some cs.length)
    (h : wpList P ops Q rest (a.put o.dst (.agg cs.toArray)) w) : wpList P ops Q (o :: rest) a w :=
  wpList_load_row hgd ty x ho g hx t cs.toArray (0, 0) d hg hu hd (by simpa using hi) h
end

theorem At.range {t : TypeId} {w : World} {g : Nat} {cs : List Value} (h : At t w g cs) (o n : Nat) : w.rangeAt g o ((cs.drop o).take n) := by
  intro j v hj
  rw [h.cell]
  rw [List.getElem?_take] at hj
  split at hj
  · rw [List.getElem?_drop] at hj; exact hj
  · simp at hj

theorem At.there {t : TypeId} {w : World} {g : Nat} {cs : List Value} (h : At t w g cs) (o n : Nat) (hn : o + n ≤ cs.length) : w.there g o n := by
  intro j hj
  rw [h.cell, h.frozen]
  simp
  omega

/-- A struct of two cells is stored into the middle of a block. -/
theorem wpList_store_two {P : Program} {ops : Array Oper} {rest : List Oper} {o : Oper} {a : Act} {w : World} {Q : Exit → Act → World → Prop} (hgd : o.guard = none) (ty : TypeId) (x y : Operand) (ho : o.op = .store ty x y)
    (g off : Nat) (v0 v1 : Value) (hx : a.eval x = .pointer (some ⟨g, off, none⟩)) (hy : a.eval y = .agg [v0, v1].toArray)
    (t : TypeId) (old : List Value) (hg : At t w g old) (hold : off + 2 ≤ old.length) (hi : (P.info? ty).map (·.size) = some 2) (h1 : ∀ v ∈ [v0, v1], v.oneCell' = true)
    (h : ∀ w', At t w' g ((old.set off v0).set (off + 1) v1) → But g w w' → w'.heap.size = w.heap.size → wpList P ops Q rest (a.put o.dst undef) w') : wpList P ops Q (o :: rest) a w := by
  refine wpList_store_mid hgd ty x y ho g off [v0, v1].toArray hx hy (hg.there off 2 hold) (by simpa using hi) (all_oneCell_toArray h1) ?_
  refine h _ ((hg.set off v0).set (off + 1) v1) (((But.refl g w).setCell off v0).setCell (off + 1) v1) ?_
  show ((w.setCell ⟨g, off, none⟩ v0).setCell ⟨g, off + 1, none⟩ v1).heap.size = _
  simp

theorem results_at {P : Program} {fn : Func} {p : Tmp} {ty : TypeId} (h : fn.results = #[.cell p ty]) (tmps : Array Value) (w : World) (g : Nat) (t : TypeId) (cs : List Value) (d : TypeDesc)
    (hp : tmps.getD p undef = .pointer (some ⟨g, 0, none⟩)) (hg : At t w g cs)
    (hu : P.underlying ty = some d) (hd : (match d with | .struct _ | .array _ _ => true | _ => false) = true) (hi : (P.info? ty).map (·.size) = some cs.length) :
    (results fn tmps).run P w = .ok (.agg cs.toArray) w :=
  results_cell_row h tmps w g t cs.toArray (0, 0) d hp hg hu hd (by simpa using hi)
end Go.Proofs.Ytbamocalhojmeaa

/- Which events depend on one another: the bits of kinds, what an event touches. -/
namespace Go.Proofs.Ytbamocalhojmeaa
open Go.RowKit
set_option linter.unusedVariables false

theorem hidU {p : Prop} (h : p) : Hid p := h

/-- A kind's bit. -/
def bitN (k : Int) : Nat := if 0 ≤ k ∧ k < 8 then 2 ^ k.toNat else 0
theorem bit_eq (k : Int) (h : 0 ≤ k) : (2 : Int) ^ min k.toNat 8 % 256 = (bitN k : Int) := by
  unfold bitN
  by_cases h8 : k < 8
  · rw [if_pos ⟨h, h8⟩]
    obtain ⟨n, rfl⟩ : ∃ n : Nat, k = (n : Int) := ⟨k.toNat, by omega⟩
    have hn : n = 0 ∨ n = 1 ∨ n = 2 ∨ n = 3 ∨ n = 4 ∨ n = 5 ∨ n = 6 ∨ n = 7 := by omega
    rcases hn with rfl | rfl | rfl | rfl | rfl | rfl | rfl | rfl <;> decide
  · rw [if_neg (by omega), show min k.toNat 8 = 8 by omega]
    decide
theorem bit_cases (k : Int) : (bitN k = 2 ∧ k = 1) ∨ (bitN k = 4 ∧ k = 2) ∨ (bitN k = 8 ∧ k = 3) ∨ (bitN k = 16 ∧ k = 4) ∨ ((bitN k = 0 ∨ bitN k = 1 ∨ bitN k = 32 ∨ bitN k = 64 ∨ bitN k = 128) ∧ k ≠ 1 ∧ k ≠ 2 ∧ k ≠ 3 ∧ k ≠ 4) := by
  unfold bitN
  by_cases h : 0 ≤ k ∧ k < 8
  · rw [if_pos h]
    obtain ⟨n, rfl⟩ : ∃ n : Nat, k = (n : Int) := ⟨k.toNat, by omega⟩
    have hn : n = 0 ∨ n = 1 ∨ n = 2 ∨ n = 3 ∨ n = 4 ∨ n = 5 ∨ n = 6 ∨ n = 7 := by omega
    rcases hn with rfl | rfl | rfl | rfl | rfl | rfl | rfl | rfl <;> decide
  · rw [if_neg h]
    exact .inr (.inr (.inr (.inr ⟨.inl rfl, by omega, by omega, by omega, by omega⟩)))

set_option maxRecDepth 100000 in
theorem bitOf_any (k : Int) (h1 : -9223372036854775808 ≤ k) (h2 : k ≤ 9223372036854775807) (w : World) : Calls Try.prog 48 #[.int .i64 k] w fun r w' => r = .returned (.int .u8 (bitN k : Int)) ∧ w' = w := by
  by_cases h : k < 0
  · have e : bitN k = 0 := by unfold bitN; rw [if_neg (by omega)]
    rw [e]
    go_enter Try.func48, Try.ntmps48
    go_wp2
    go_ret
    exact ⟨rfl, rfl⟩
  · have e := bit_eq k (by omega)
    rw [← e]
    clear e
    go_enter Try.func48, Try.ntmps48
    go_wp2
    go_ret
    exact ⟨rfl, rfl⟩

/-- An event. -/
structure Ev where
  th : Int
  kd : Int
  ob : Int
def Ev.cells (e : Ev) : List Value := [.int .i64 e.th, .int .i64 e.kd, .int .i64 e.ob]
def i64 (z : Int) : Prop := -9223372036854775808 ≤ z ∧ z ≤ 9223372036854775807
def Ev.ok (e : Ev) : Prop := i64 e.th ∧ i64 e.kd ∧ i64 e.ob
/-- What an event touches. -/
def tchd (e : Ev) : Nat × Int := if e.kd = 1 ∨ e.kd = 2 then (6, e.ob) else if e.kd = 3 ∨ e.kd = 4 then (24, e.ob) else (0, 0)
theorem z76 : (Try.prog.info? 74).map (fun i => (i.zero, i.size)) = some (some (.agg [.int .u8 0, .int .i64 0].toArray), 2) := by kernel_rfl
theorem i76 : (Try.prog.info? 74).map (·.size) = some 2 := by kernel_rfl

theorem idx0 (u : World) : (Instr.index 92 (.agg #[.int .u8 6, .int .u8 24]) (.int .i64 0)).run Try.prog u = .ok (.int .u8 6) u := by kernel_rfl
theorem idx1 (u : World) : (Instr.index 92 (.agg #[.int .u8 6, .int .u8 24]) (.int .i64 1)).run Try.prog u = .ok (.int .u8 24) u := by kernel_rfl
theorem one76 (a b : Int) : ∀ v ∈ [Value.int .u8 a, .int .i64 b], v.oneCell' = true := by intro v hv; simp at hv; rcases hv with rfl | rfl <;> rfl

set_option maxRecDepth 100000 in
set_option maxHeartbeats 1600000 in
theorem touched_any (e : Ev) (he : e.ok) (w : World) : Calls Try.prog 47 #[.agg e.cells.toArray] w fun r w' => r = .returned (.agg [.int .u8 ((tchd e).1 : Int), .int .i64 (tchd e).2].toArray) ∧ Below w.heap.size w w' := by
  obtain ⟨th, kd, ob⟩ := e
  have hB := fun u => bitOf_any kd he.2.1.1 he.2.1.2 u
  have hc := bit_cases kd
  obtain ⟨T, hT⟩ : ∃ T, Hid (T = tchd ⟨th, kd, ob⟩) := ⟨_, (rfl : _ = tchd _)⟩
  rw [← hT.out]
  simp only [Ev.cells]
  clear he
  rcases hc with ⟨hb, hk⟩ | ⟨hb, hk⟩ | ⟨hb, hk⟩ | ⟨hb, hk⟩ | ⟨hb, hk⟩
  · rw [hb] at hB
    have hT : T = (6, ob) := by rw [hT.out]; unfold tchd; exact if_pos (.inl hk)
    subst hT
    clear hb hk
    go_enter Try.func47, Try.ntmps47
    go_wp2_with (first
      | ((with_reducible show wpList _ _ _ _ _ _); refine wpList_box_at rfl 50 (.tmp 0) rfl [.int .i64 th, .int .i64 kd, .int .i64 ob] rfl ?_; intro w1 hA1 hb1 hs1; clear hs1)
      | ((with_reducible show wpList _ _ _ _ _ _); refine wpList_alloc_at rfl 74 rfl [.int .u8 0, .int .i64 0] 2 z76 ?_; intro w2 hA2 hb2 hs2; clear hs2; refine Hid.out ?_))
    refine hidU ?_
    have hB2 := hb1.trans (hb2.mono hb1.size)
    have hA12 := hA1.below hb2
    have l1 := hb1.size
    have l2 := hA2.lt
    have lw := hA1.lt
    have c1 : w2.cell? ⟨w.heap.size, 1, none⟩ = some (.int .i64 kd) := by rw [hA12.cell]; rfl
    have c2 : w2.cell? ⟨w.heap.size, 2, none⟩ = some (.int .i64 ob) := by rw [hA12.cell]; rfl
    clear hA1 hb1 hb2 hA12
    have x0 := idx0
    have x1 := idx1
    go_wp2_with (go_at_call 48; refine (hB _).mono ?_; rintro _ u ⟨rfl, hu⟩; have hu := hu.symm; subst hu)
    go_loopw [10] (fun j wr => ∃ i : Nat, j = .int .i64 (i : Int) ∧ i ≤ 0 ∧ wr = w2) (fun j _ => 2 - (intOf j).toNat)
    case atStart => exact ⟨0, rfl, by omega, rfl⟩
    case round =>
      obtain ⟨i, rfl, hi, hwr⟩ := hrel
      have hwr := hwr.symm
      subst hwr
      have hi : i = 0 := by omega
      rcases hi with rfl
      · go_wp2_with (first
          | ((with_reducible show wpList _ _ _ _ _ _); refine wpList_build_at (P := Try.prog) rfl 74 #[(0, .tmp 17), (1, .tmp 19)] rfl [.int .u8 6, .int .i64 ob] (by kernel_rfl) ?_)
          | ((with_reducible show wpList _ _ _ _ _ _); refine wpList_store_at (P := Try.prog) rfl 74 (.tmp 2) (.tmp 20) rfl w1.heap.size [.int .u8 6, .int .i64 ob] rfl rfl 74 _ hA2 i76 rfl (one76 _ _) ?_; intro w3 hA3 hb3 hs3; clear hs3))
        refine bodyPost_ret (results_at rfl _ _ w1.heap.size 74 [.int .u8 6, .int .i64 ob] _ rfl hA3 Try.underlying74 rfl i76) rfl ?_
        exact ⟨rfl, hb3.below hB2 (by omega) (by omega)⟩
  · rw [hb] at hB
    have hT : T = (6, ob) := by rw [hT.out]; unfold tchd; exact if_pos (.inr hk)
    subst hT
    clear hb hk
    go_enter Try.func47, Try.ntmps47
    go_wp2_with (first
      | ((with_reducible show wpList _ _ _ _ _ _); refine wpList_box_at rfl 50 (.tmp 0) rfl [.int .i64 th, .int .i64 kd, .int .i64 ob] rfl ?_; intro w1 hA1 hb1 hs1; clear hs1)
      | ((with_reducible show wpList _ _ _ _ _ _); refine wpList_alloc_at rfl 74 rfl [.int .u8 0, .int .i64 0] 2 z76 ?_; intro w2 hA2 hb2 hs2; clear hs2; refine Hid.out ?_))
    refine hidU ?_
    have hB2 := hb1.trans (hb2.mono hb1.size)
    have hA12 := hA1.below hb2
    have l1 := hb1.size
    have l2 := hA2.lt
    have lw := hA1.lt
    have c1 : w2.cell? ⟨w.heap.size, 1, none⟩ = some (.int .i64 kd) := by rw [hA12.cell]; rfl
    have c2 : w2.cell? ⟨w.heap.size, 2, none⟩ = some (.int .i64 ob) := by rw [hA12.cell]; rfl
    clear hA1 hb1 hb2 hA12
    have x0 := idx0
    have x1 := idx1
    go_wp2_with (go_at_call 48; refine (hB _).mono ?_; rintro _ u ⟨rfl, hu⟩; have hu := hu.symm; subst hu)
    go_loopw [10] (fun j wr => ∃ i : Nat, j = .int .i64 (i : Int) ∧ i ≤ 0 ∧ wr = w2) (fun j _ => 2 - (intOf j).toNat)
    case atStart => exact ⟨0, rfl, by omega, rfl⟩
    case round =>
      obtain ⟨i, rfl, hi, hwr⟩ := hrel
      have hwr := hwr.symm
      subst hwr
      have hi : i = 0 := by omega
      rcases hi with rfl
      · go_wp2_with (first
          | ((with_reducible show wpList _ _ _ _ _ _); refine wpList_build_at (P := Try.prog) rfl 74 #[(0, .tmp 17), (1, .tmp 19)] rfl [.int .u8 6, .int .i64 ob] (by kernel_rfl) ?_)
          | ((with_reducible show wpList _ _ _ _ _ _); refine wpList_store_at (P := Try.prog) rfl 74 (.tmp 2) (.tmp 20) rfl w1.heap.size [.int .u8 6, .int .i64 ob] rfl rfl 74 _ hA2 i76 rfl (one76 _ _) ?_; intro w3 hA3 hb3 hs3; clear hs3))
        refine bodyPost_ret (results_at rfl _ _ w1.heap.size 74 [.int .u8 6, .int .i64 ob] _ rfl hA3 Try.underlying74 rfl i76) rfl ?_
        exact ⟨rfl, hb3.below hB2 (by omega) (by omega)⟩
  · rw [hb] at hB
    have hT : T = (24, ob) := by rw [hT.out]; unfold tchd; dsimp only; rw [if_neg (by omega)]; exact if_pos (.inl hk)
    subst hT
    clear hb hk
    go_enter Try.func47, Try.ntmps47
    go_wp2_with (first
      | ((with_reducible show wpList _ _ _ _ _ _); refine wpList_box_at rfl 50 (.tmp 0) rfl [.int .i64 th, .int .i64 kd, .int .i64 ob] rfl ?_; intro w1 hA1 hb1 hs1; clear hs1)
      | ((with_reducible show wpList _ _ _ _ _ _); refine wpList_alloc_at rfl 74 rfl [.int .u8 0, .int .i64 0] 2 z76 ?_; intro w2 hA2 hb2 hs2; clear hs2; refine Hid.out ?_))
    refine hidU ?_
    have hB2 := hb1.trans (hb2.mono hb1.size)
    have hA12 := hA1.below hb2
    have l1 := hb1.size
    have l2 := hA2.lt
    have lw := hA1.lt
    have c1 : w2.cell? ⟨w.heap.size, 1, none⟩ = some (.int .i64 kd) := by rw [hA12.cell]; rfl
    have c2 : w2.cell? ⟨w.heap.size, 2, none⟩ = some (.int .i64 ob) := by rw [hA12.cell]; rfl
    clear hA1 hb1 hb2 hA12
    have x0 := idx0
    have x1 := idx1
    go_wp2_with (go_at_call 48; refine (hB _).mono ?_; rintro _ u ⟨rfl, hu⟩; have hu := hu.symm; subst hu)
    go_loopw [10] (fun j wr => ∃ i : Nat, j = .int .i64 (i : Int) ∧ i ≤ 1 ∧ wr = w2) (fun j _ => 2 - (intOf j).toNat)
    case atStart => exact ⟨0, rfl, by omega, rfl⟩
    case round =>
      obtain ⟨i, rfl, hi, hwr⟩ := hrel
      have hwr := hwr.symm
      subst hwr
      have hi : i = 0 ∨ i = 1 := by omega
      rcases hi with rfl | rfl
      · go_wp2_with fail
        go_roundw
        case rel => exact ⟨1, by go_num, by omega, trivial⟩
        case measure => simp [intOf]
      · go_wp2_with (first
          | ((with_reducible show wpList _ _ _ _ _ _); refine wpList_build_at (P := Try.prog) rfl 74 #[(0, .tmp 17), (1, .tmp 19)] rfl [.int .u8 24, .int .i64 ob] (by kernel_rfl) ?_)
          | ((with_reducible show wpList _ _ _ _ _ _); refine wpList_store_at (P := Try.prog) rfl 74 (.tmp 2) (.tmp 20) rfl w1.heap.size [.int .u8 24, .int .i64 ob] rfl rfl 74 _ hA2 i76 rfl (one76 _ _) ?_; intro w3 hA3 hb3 hs3; clear hs3))
        refine bodyPost_ret (results_at rfl _ _ w1.heap.size 74 [.int .u8 24, .int .i64 ob] _ rfl hA3 Try.underlying74 rfl i76) rfl ?_
        exact ⟨rfl, hb3.below hB2 (by omega) (by omega)⟩
  · rw [hb] at hB
    have hT : T = (24, ob) := by rw [hT.out]; unfold tchd; dsimp only; rw [if_neg (by omega)]; exact if_pos (.inr hk)
    subst hT
    clear hb hk
    go_enter Try.func47, Try.ntmps47
    go_wp2_with (first
      | ((with_reducible show wpList _ _ _ _ _ _); refine wpList_box_at rfl 50 (.tmp 0) rfl [.int .i64 th, .int .i64 kd, .int .i64 ob] rfl ?_; intro w1 hA1 hb1 hs1; clear hs1)
      | ((with_reducible show wpList _ _ _ _ _ _); refine wpList_alloc_at rfl 74 rfl [.int .u8 0, .int .i64 0] 2 z76 ?_; intro w2 hA2 hb2 hs2; clear hs2; refine Hid.out ?_))
    refine hidU ?_
    have hB2 := hb1.trans (hb2.mono hb1.size)
    have hA12 := hA1.below hb2
    have l1 := hb1.size
    have l2 := hA2.lt
    have lw := hA1.lt
    have c1 : w2.cell? ⟨w.heap.size, 1, none⟩ = some (.int .i64 kd) := by rw [hA12.cell]; rfl
    have c2 : w2.cell? ⟨w.heap.size, 2, none⟩ = some (.int .i64 ob) := by rw [hA12.cell]; rfl
    clear hA1 hb1 hb2 hA12
    have x0 := idx0
    have x1 := idx1
    go_wp2_with (go_at_call 48; refine (hB _).mono ?_; rintro _ u ⟨rfl, hu⟩; have hu := hu.symm; subst hu)
    go_loopw [10] (fun j wr => ∃ i : Nat, j = .int .i64 (i : Int) ∧ i ≤ 1 ∧ wr = w2) (fun j _ => 2 - (intOf j).toNat)
    case atStart => exact ⟨0, rfl, by omega, rfl⟩
    case round =>
      obtain ⟨i, rfl, hi, hwr⟩ := hrel
      have hwr := hwr.symm
      subst hwr
      have hi : i = 0 ∨ i = 1 := by omega
      rcases hi with rfl | rfl
      · go_wp2_with fail
        go_roundw
        case rel => exact ⟨1, by go_num, by omega, trivial⟩
        case measure => simp [intOf]
      · go_wp2_with (first
          | ((with_reducible show wpList _ _ _ _ _ _); refine wpList_build_at (P := Try.prog) rfl 74 #[(0, .tmp 17), (1, .tmp 19)] rfl [.int .u8 24, .int .i64 ob] (by kernel_rfl) ?_)
          | ((with_reducible show wpList _ _ _ _ _ _); refine wpList_store_at (P := Try.prog) rfl 74 (.tmp 2) (.tmp 20) rfl w1.heap.size [.int .u8 24, .int .i64 ob] rfl rfl 74 _ hA2 i76 rfl (one76 _ _) ?_; intro w3 hA3 hb3 hs3; clear hs3))
        refine bodyPost_ret (results_at rfl _ _ w1.heap.size 74 [.int .u8 24, .int .i64 ob] _ rfl hA3 Try.underlying74 rfl i76) rfl ?_
        exact ⟨rfl, hb3.below hB2 (by omega) (by omega)⟩
  · have hT : T = (0, 0) := by rw [hT.out]; unfold tchd; dsimp only; rw [if_neg (by omega), if_neg (by omega)]
    rcases hb with hb | hb | hb | hb | hb
    all_goals
      rw [hb] at hB
      subst hT
      clear hb hk
      go_enter Try.func47, Try.ntmps47
      go_wp2_with (first
        | ((with_reducible show wpList _ _ _ _ _ _); refine wpList_box_at rfl 50 (.tmp 0) rfl [.int .i64 th, .int .i64 kd, .int .i64 ob] rfl ?_; intro w1 hA1 hb1 hs1; clear hs1)
        | ((with_reducible show wpList _ _ _ _ _ _); refine wpList_alloc_at rfl 74 rfl [.int .u8 0, .int .i64 0] 2 z76 ?_; intro w2 hA2 hb2 hs2; clear hs2; refine Hid.out ?_))
      refine hidU ?_
      have hB2 := hb1.trans (hb2.mono hb1.size)
      have hA12 := hA1.below hb2
      have l1 := hb1.size
      have l2 := hA2.lt
      have lw := hA1.lt
      have c1 : w2.cell? ⟨w.heap.size, 1, none⟩ = some (.int .i64 kd) := by rw [hA12.cell]; rfl
      have c2 : w2.cell? ⟨w.heap.size, 2, none⟩ = some (.int .i64 ob) := by rw [hA12.cell]; rfl
      clear hA1 hb1 hb2 hA12
      have x0 := idx0
      have x1 := idx1
      go_wp2_with (go_at_call 48; refine (hB _).mono ?_; rintro _ u ⟨rfl, hu⟩; have hu := hu.symm; subst hu)
      go_loopw [10] (fun j wr => ∃ i : Nat, j = .int .i64 (i : Int) ∧ i ≤ 2 ∧ wr = w2) (fun j _ => 2 - (intOf j).toNat)
      case atStart => exact ⟨0, rfl, by omega, rfl⟩
      case round =>
        obtain ⟨i, rfl, hi, hwr⟩ := hrel
        have hwr := hwr.symm
        subst hwr
        have hi : i = 0 ∨ i = 1 ∨ i = 2 := by omega
        rcases hi with rfl | rfl | rfl
        · go_wp2_with fail
          go_roundw
          case rel => exact ⟨1, by go_num, by omega, trivial⟩
          case measure => simp [intOf]
        · go_wp2_with fail
          go_roundw
          case rel => exact ⟨2, by go_num, by omega, trivial⟩
          case measure => simp [intOf]
        · go_wp2_with (first
            | ((with_reducible show wpList _ _ _ _ _ _); refine wpList_build_at (P := Try.prog) rfl 74 #[] rfl [.int .u8 0, .int .i64 0] (by kernel_rfl) ?_)
            | ((with_reducible show wpList _ _ _ _ _ _); refine wpList_store_at (P := Try.prog) rfl 74 (.tmp 2) (.tmp 22) rfl w1.heap.size [.int .u8 0, .int .i64 0] rfl rfl 74 _ hA2 i76 rfl (one76 _ _) ?_; intro w3 hA3 hb3 hs3; clear hs3))
          refine bodyPost_ret (results_at rfl _ _ w1.heap.size 74 [.int .u8 0, .int .i64 0] _ rfl hA3 Try.underlying74 rfl i76) rfl ?_
          exact ⟨rfl, hb3.below hB2 (by omega) (by omega)⟩
end Go.Proofs.Ytbamocalhojmeaa
