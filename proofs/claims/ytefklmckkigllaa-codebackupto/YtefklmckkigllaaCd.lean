/- Codes as data, and where they lie. -/
import Derived.Test.YtefklmckkigllaaCells
import Derived.Test.YtefklmckkigllaaSmall
namespace Go.Proofs.Ytefklmckkigllaa
open Go.RowKit
set_option linter.unusedVariables false

/-- What the walk must not see. -/
theorem hidU {p : Prop} (h : p) : Hid p := h

/-- A value. -/
structure Vl where
  t : Nat
  b : Nat
  deriving DecidableEq
def Vl.cells (v : Vl) : List Value := [.int .u8 (v.t : Int), .int .u64 (v.b : Int)]
def Vl.Ok (v : Vl) : Prop := v.t < 256 ∧ v.b < 18446744073709551616

/-- A number that an int holds. -/
def I64 (z : Int) : Prop := -9223372036854775808 ≤ z ∧ z ≤ 9223372036854775807

/-- An instruction. -/
structure Ir where
  op : Nat
  arg : Int
  v : Vl
  deriving DecidableEq
def Ir.cells (x : Ir) : List Value := [.int .u8 (x.op : Int), .int .i64 x.arg, .int .u8 (x.v.t : Int), .int .u64 (x.v.b : Int)]
def Ir.Ok (x : Ir) : Prop := x.op < 256 ∧ I64 x.arg ∧ x.v.Ok

/-- A node, a body, a code, as data. -/
structure Nd where
  code : List Ir
  kind : Int
  arg : Int
  next : Int
  alt : Int
  deriving DecidableEq
structure Bd where
  locals : List Vl
  stack : Int
  nodes : List Nd
  deriving DecidableEq
structure Cd where
  shared : List Vl
  mutexes : Int
  bodies : List Bd
  deriving DecidableEq

/-- With where their lists lie. -/
structure NT where
  a : Option Addr
  c : Nat
  nd : Nd
structure BT where
  a1 : Option Addr
  c1 : Nat
  locals : List Vl
  stack : Int
  a2 : Option Addr
  c2 : Nat
  nodes : List NT
structure CT where
  a1 : Option Addr
  c1 : Nat
  shared : List Vl
  mutexes : Int
  a2 : Option Addr
  c2 : Nat
  bodies : List BT
def NT.cells (x : NT) : List Value := [.slice x.a x.nd.code.length x.c, .int .i64 x.nd.kind, .int .i64 x.nd.arg, .int .i64 x.nd.next, .int .i64 x.nd.alt]
def BT.cells (x : BT) : List Value := [.slice x.a1 x.locals.length x.c1, .int .i64 x.stack, .slice x.a2 x.nodes.length x.c2]
def CT.cells (x : CT) : List Value := [.slice x.a1 x.shared.length x.c1, .int .i64 x.mutexes, .slice x.a2 x.bodies.length x.c2]
def BT.bd (x : BT) : Bd := ⟨x.locals, x.stack, x.nodes.map NT.nd⟩
def CT.cd (x : CT) : Cd := ⟨x.shared, x.mutexes, x.bodies.map BT.bd⟩

/-- A row of such, so many cells each. -/
def RowG {α : Type} (cells : α → List Value) (n : Nat) (P : α → Prop) (B : Nat) (w : World) (a : Option Addr) (c : Nat) (ks : List α) : Prop :=
  ks.length ≤ 1048576 ∧ ks.length ≤ c ∧ (ks = [] ∨ ∃ g o, a = some ⟨g, o, none⟩ ∧ g < B ∧ ∀ i k, ks[i]? = some k → w.rangeAt g (o + i * n) (cells k) ∧ P k)

abbrev RowVl (B : Nat) (w : World) (a : Option Addr) (c : Nat) (ks : List Vl) : Prop := RowG Vl.cells 2 Vl.Ok B w a c ks
abbrev RowIr (B : Nat) (w : World) (a : Option Addr) (c : Nat) (ks : List Ir) : Prop := RowG Ir.cells 4 Ir.Ok B w a c ks
def NT.In (B : Nat) (w : World) (x : NT) : Prop := RowIr B w x.a x.c x.nd.code ∧ I64 x.nd.kind ∧ I64 x.nd.arg ∧ I64 x.nd.next ∧ I64 x.nd.alt
abbrev RowNT (B : Nat) (w : World) (a : Option Addr) (c : Nat) (ks : List NT) : Prop := RowG NT.cells 5 (NT.In B w) B w a c ks
def BT.In (B : Nat) (w : World) (x : BT) : Prop := RowVl B w x.a1 x.c1 x.locals ∧ I64 x.stack ∧ RowNT B w x.a2 x.c2 x.nodes
abbrev RowBT (B : Nat) (w : World) (a : Option Addr) (c : Nat) (ks : List BT) : Prop := RowG BT.cells 3 (BT.In B w) B w a c ks
def CT.In (B : Nat) (w : World) (x : CT) : Prop := RowVl B w x.a1 x.c1 x.shared ∧ I64 x.mutexes ∧ RowBT B w x.a2 x.c2 x.bodies

/-- Blocks below B stand. -/
def Old (B : Nat) (w w' : World) : Prop := ∀ k, k < B → w'.heap[k]? = w.heap[k]?
theorem Old.of_below {B C : Nat} {w w' : World} (h : Below C w w') (hB : B ≤ C) : Old B w w' := fun k hk => h.block k (by omega)
theorem Old.refl (B : Nat) (w : World) : Old B w w := fun _ _ => rfl
theorem Old.trans {B : Nat} {a b c : World} (h : Old B a b) (k : Old B b c) : Old B a c := fun i hi => (k i hi).trans (h i hi)
theorem Old.range {B g o : Nat} {w w' : World} {cs : List Value} (h : Old B w w') (hg : g < B) (hr : w.rangeAt g o cs) : w'.rangeAt g o cs := fun j v hj => by
  rw [World.cell?_of_block (w := w) (w' := w') (h _ hg)]
  exact hr j v hj

theorem RowG.imp {α : Type} {cells : α → List Value} {n : Nat} {P Q : α → Prop} {B : Nat} {w w' : World} {a : Option Addr} {c : Nat} {ks : List α} (h : RowG cells n P B w a c ks) (hO : Old B w w') (hP : ∀ k, P k → Q k) : RowG cells n Q B w' a c ks := by
  obtain ⟨h1, h2, h | ⟨g, o, ha, hg, hr⟩⟩ := h
  · exact ⟨h1, h2, .inl h⟩
  · exact ⟨h1, h2, .inr ⟨g, o, ha, hg, fun i v hv => ⟨hO.range hg (hr i v hv).1, hP v (hr i v hv).2⟩⟩⟩
theorem RowG.up {α : Type} {cells : α → List Value} {n : Nat} {P Q : α → Prop} {B B' : Nat} {w : World} {a : Option Addr} {c : Nat} {ks : List α} (h : RowG cells n P B w a c ks) (hB : B ≤ B') (hP : ∀ k, P k → Q k) : RowG cells n Q B' w a c ks := by
  obtain ⟨h1, h2, h | ⟨g, o, ha, hg, hr⟩⟩ := h
  · exact ⟨h1, h2, .inl h⟩
  · exact ⟨h1, h2, .inr ⟨g, o, ha, by omega, fun i v hv => ⟨(hr i v hv).1, hP v (hr i v hv).2⟩⟩⟩
theorem RowVl.old {B : Nat} {w w' : World} {a : Option Addr} {c : Nat} {ks : List Vl} (h : RowVl B w a c ks) (hO : Old B w w') : RowVl B w' a c ks := RowG.imp h hO fun _ h => h
theorem RowIr.old {B : Nat} {w w' : World} {a : Option Addr} {c : Nat} {ks : List Ir} (h : RowIr B w a c ks) (hO : Old B w w') : RowIr B w' a c ks := RowG.imp h hO fun _ h => h
theorem NT.In.old {B : Nat} {w w' : World} {x : NT} (h : x.In B w) (hO : Old B w w') : x.In B w' := ⟨h.1.old hO, h.2⟩
theorem RowNT.old {B : Nat} {w w' : World} {a : Option Addr} {c : Nat} {ks : List NT} (h : RowNT B w a c ks) (hO : Old B w w') : RowNT B w' a c ks := RowG.imp h hO fun _ h => h.old hO
theorem BT.In.old {B : Nat} {w w' : World} {x : BT} (h : x.In B w) (hO : Old B w w') : x.In B w' := ⟨h.1.old hO, h.2.1, h.2.2.old hO⟩
theorem RowBT.old {B : Nat} {w w' : World} {a : Option Addr} {c : Nat} {ks : List BT} (h : RowBT B w a c ks) (hO : Old B w w') : RowBT B w' a c ks := RowG.imp h hO fun _ h => h.old hO
theorem CT.In.old {B : Nat} {w w' : World} {x : CT} (h : x.In B w) (hO : Old B w w') : x.In B w' := ⟨h.1.old hO, h.2.1, h.2.2.old hO⟩
theorem NT.In.up {B B' : Nat} {w : World} {x : NT} (h : x.In B w) (hB : B ≤ B') : x.In B' w := ⟨RowG.up h.1 hB fun _ h => h, h.2⟩
theorem BT.In.up {B B' : Nat} {w : World} {x : BT} (h : x.In B w) (hB : B ≤ B') : x.In B' w := ⟨RowG.up h.1 hB fun _ h => h, h.2.1, RowG.up h.2.2 hB fun _ h => h.up hB⟩
theorem CT.In.up {B B' : Nat} {w : World} {x : CT} (h : x.In B w) (hB : B ≤ B') : x.In B' w := ⟨RowG.up h.1 hB fun _ h => h, h.2.1, RowG.up h.2.2 hB fun _ h => h.up hB⟩

theorem RowG.at {α : Type} {cells : α → List Value} {n : Nat} {P : α → Prop} {B : Nat} {w : World} {a : Option Addr} {c : Nat} {ks : List α} (h : RowG cells n P B w a c ks) (i : Nat) (k : α) (hk : ks[i]? = some k) : ∃ g o, a = some ⟨g, o, none⟩ ∧ g < B ∧ w.rangeAt g (o + i * n) (cells k) ∧ P k := by
  obtain ⟨_, _, h | ⟨g, o, ha, hg, hr⟩⟩ := h
  · rw [h] at hk; simp at hk
  · exact ⟨g, o, ha, hg, (hr i k hk).1, (hr i k hk).2⟩
theorem RowG.all {α : Type} {cells : α → List Value} {n : Nat} {P : α → Prop} {B : Nat} {w : World} {a : Option Addr} {c : Nat} {ks : List α} (h : RowG cells n P B w a c ks) : ∀ k ∈ ks, P k := by
  intro k hk
  obtain ⟨i, hi⟩ := List.getElem?_of_mem hk
  obtain ⟨_, _, _, _, _, hp⟩ := h.at i k hi
  exact hp

theorem Vl.one (v : Vl) : ∀ x ∈ v.cells, x.oneCell' = true := by
  intro x hx; simp [Vl.cells] at hx; rcases hx with rfl | rfl <;> rfl
theorem Ir.one (v : Ir) : ∀ x ∈ v.cells, x.oneCell' = true := by
  intro x hx; simp [Ir.cells] at hx; rcases hx with rfl | rfl | rfl | rfl <;> rfl
theorem NT.one (v : NT) : ∀ x ∈ v.cells, x.oneCell' = true := by
  intro x hx; simp [NT.cells] at hx; rcases hx with rfl | rfl | rfl | rfl | rfl <;> rfl
theorem BT.one (v : BT) : ∀ x ∈ v.cells, x.oneCell' = true := by
  intro x hx; simp [BT.cells] at hx; rcases hx with rfl | rfl | rfl <;> rfl
theorem CT.one (v : CT) : ∀ x ∈ v.cells, x.oneCell' = true := by
  intro x hx; simp [CT.cells] at hx; rcases hx with rfl | rfl | rfl <;> rfl

theorem i35 : (Try.prog.info? 35).map (·.size) = some 2 := by kernel_rfl
theorem z35 : (Try.prog.info? 35).map (fun i => (i.zero, i.size)) = some (some (.agg (Vl.cells ⟨0, 0⟩).toArray), 2) := by kernel_rfl
theorem i37 : (Try.prog.info? 37).map (·.size) = some 4 := by kernel_rfl
theorem z37 : (Try.prog.info? 37).map (fun i => (i.zero, i.size)) = some (some (.agg (Ir.cells ⟨0, 0, ⟨0, 0⟩⟩).toArray), 4) := by kernel_rfl
theorem i49 : (Try.prog.info? 49).map (·.size) = some 5 := by kernel_rfl
theorem z49 : (Try.prog.info? 49).map (fun i => (i.zero, i.size)) = some (some (.agg (NT.cells ⟨none, 0, ⟨[], 0, 0, 0, 0⟩⟩).toArray), 5) := by kernel_rfl
theorem i45 : (Try.prog.info? 45).map (·.size) = some 3 := by kernel_rfl
theorem z45 : (Try.prog.info? 45).map (fun i => (i.zero, i.size)) = some (some (.agg (BT.cells ⟨none, 0, [], 0, none, 0, []⟩).toArray), 3) := by kernel_rfl
theorem i25 : (Try.prog.info? 25).map (·.size) = some 3 := by kernel_rfl
theorem z25 : (Try.prog.info? 25).map (fun i => (i.zero, i.size)) = some (some (.agg (CT.cells ⟨none, 0, [], 0, none, 0, []⟩).toArray), 3) := by kernel_rfl
end Go.Proofs.Ytefklmckkigllaa
