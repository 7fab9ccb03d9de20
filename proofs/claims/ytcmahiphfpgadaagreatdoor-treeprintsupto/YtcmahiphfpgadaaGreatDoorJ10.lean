/- Joined texts of the proof. -/
import Derived.Test.YtcmahiphfpgadaaGreatDoorJ9
import Derived.Deep.AppendLies
import Derived.Test.YtcmahiphfpgadaaGreatDoorJ6
import Derived.Test.YtcmahiphfpgadaaGreatDoorJ5

/- The document's own copies: where they lie while their row grows. -/
namespace Go.Proofs.YtcmahiphfpgadaaGreatDoor
open Go.RowKit
set_option linter.unusedVariables false

mutual
/-- All rows lie in blocks of S. -/
def ET.Lies (S : Nat → Prop) : ET → Prop
 | .mk _ _ _ _ a _ ks => (ks = [] ∨ ∃ g o, a = some ⟨g, o, none⟩ ∧ S g) ∧ ET.LiesL S ks
def ET.LiesL (S : Nat → Prop) : List ET → Prop
 | [] => True
 | e :: r => e.Lies S ∧ ET.LiesL S r
end
mutual
theorem ET.Up.lies {A : Nat} : ∀ {e : ET}, e.Up A → e.Lies (fun k => A ≤ k)
 | .mk _ _ _ _ a _ ks, h => by
  unfold ET.Up at h
  unfold ET.Lies
  exact ⟨h.1, ET.Ups.lies h.2⟩
theorem ET.Ups.lies {A : Nat} : ∀ {l : List ET}, ET.Ups A l → ET.LiesL (fun k => A ≤ k) l
 | [], _ => trivial
 | e :: r, h => by
  unfold ET.Ups at h
  unfold ET.LiesL
  exact ⟨ET.Up.lies h.1, ET.Ups.lies h.2⟩
end
mutual
theorem ET.Lies.up {A : Nat} {S : Nat → Prop} (hS : ∀ k, S k → A ≤ k) : ∀ {e : ET}, e.Lies S → e.Up A
 | .mk _ _ _ _ a _ ks, h => by
  unfold ET.Lies at h
  unfold ET.Up
  refine ⟨?_, ET.LiesL.up hS h.2⟩
  rcases h.1 with h | ⟨g, o, ha, hg⟩
  ·exact .inl h
  ·exact .inr ⟨g, o, ha, hS g hg⟩
theorem ET.LiesL.up {A : Nat} {S : Nat → Prop} (hS : ∀ k, S k → A ≤ k) : ∀ {l : List ET}, ET.LiesL S l → ET.Ups A l
 | [], _ => trivial
 | e :: r, h => by
  unfold ET.LiesL at h
  unfold ET.Ups
  exact ⟨ET.Lies.up hS h.1, ET.LiesL.up hS h.2⟩
end
mutual
theorem ET.Lies.mono {S S' : Nat → Prop} (hS : ∀ k, S k → S' k) : ∀ {e : ET}, e.Lies S → e.Lies S'
 | .mk _ _ _ _ a _ ks, h => by
  unfold ET.Lies at h ⊢
  refine ⟨?_, ET.LiesL.mono hS h.2⟩
  rcases h.1 with h | ⟨g, o, ha, hg⟩
  ·exact .inl h
  ·exact .inr ⟨g, o, ha, hS g hg⟩
theorem ET.LiesL.mono {S S' : Nat → Prop} (hS : ∀ k, S k → S' k) : ∀ {l : List ET}, ET.LiesL S l → ET.LiesL S' l
 | [], _ => trivial
 | e :: r, h => by
  unfold ET.LiesL at h ⊢
  exact ⟨ET.Lies.mono hS h.1, ET.LiesL.mono hS h.2⟩
end
mutual
theorem ET.In.stay {B : Nat} {S : Nat → Prop} {w w' : World} (hM : ∀ k, S k → k < B → w'.heap[k]? = w.heap[k]?) : ∀ {e : ET}, e.In B w → e.Lies S → e.In B w'
 | .mk op t b nm a c ks, h, u => by
  unfold ET.In at h ⊢
  unfold ET.Lies at u
  obtain ⟨h1, h2, h3, h4, h5, h6⟩ := h
  refine ⟨h1, h2, h3, h4, h5, ?_⟩
  rcases h6 with h6 | ⟨g, o, ha, hg, hr⟩
  ·exact .inl h6
  ·rcases u.1 with hk | ⟨g', o', ha', hg'⟩
   ·exact .inl hk
   ·rw [ha] at ha'
    cases ha'
    exact .inr ⟨g, o, ha, hg, ET.Row.stay hM hg' hg hr u.2⟩
theorem ET.Row.stay {B : Nat} {S : Nat → Prop} {w w' : World} (hM : ∀ k, S k → k < B → w'.heap[k]? = w.heap[k]?) {g : Nat} (hA : S g) (hg : g < B) : ∀ {ks : List ET} {o : Nat}, ET.Row B w g ks o → ET.LiesL S ks → ET.Row B w' g ks o
 | [], o, _, _ => trivial
 | e :: r, o, h, u => by
  unfold ET.Row at h ⊢
  unfold ET.LiesL at u
  refine ⟨fun j v hj => ?_, ET.In.stay hM h.2.1 u.1, ET.Row.stay hM hA hg h.2.2 u.2⟩
  rw [World.cell?_of_block (w := w) (w' := w') (hM g hA hg)]
  exact h.1 j v hj
end
mutual
theorem ET.In.lies {B : Nat} {S : Nat → Prop} {w : World} : ∀ {e : ET}, e.In B w → e.Lies S → e.Lies (fun k => S k ∧ k < B)
 | .mk op t b nm a c ks, h, u => by
  unfold ET.In at h
  unfold ET.Lies at u ⊢
  obtain ⟨h1, h2, h3, h4, h5, h6⟩ := h
  rcases h6 with h6 | ⟨g, o, ha, hg, hr⟩
  ·subst h6
   exact ⟨.inl rfl, trivial⟩
  ·rcases u.1 with hk | ⟨g', o', ha', hg'⟩
   ·subst hk
    exact ⟨.inl rfl, trivial⟩
   ·rw [ha] at ha'
    cases ha'
    exact ⟨.inr ⟨g, o, ha, hg', hg⟩, ET.Row.lies hr u.2⟩
theorem ET.Row.lies {B : Nat} {S : Nat → Prop} {w : World} {g : Nat} : ∀ {ks : List ET} {o : Nat}, ET.Row B w g ks o → ET.LiesL S ks → ET.LiesL (fun k => S k ∧ k < B) ks
 | [], o, _, _ => trivial
 | e :: r, o, h, u => by
  unfold ET.Row at h
  unfold ET.LiesL at u ⊢
  exact ⟨ET.In.lies h.2.1 u.1, ET.Row.lies h.2.2 u.2⟩
end
theorem ET.LiesL.of {S : Nat → Prop} : ∀ {l : List ET}, (∀ e ∈ l, e.Lies S) → ET.LiesL S l
 | [], _ => trivial
 | e :: r, h => by unfold ET.LiesL; exact ⟨h e List.mem_cons_self, ET.LiesL.of fun x hx => h x (List.mem_cons_of_mem _ hx)⟩

def flatC (ys : List ET) : List Value := ys.flatMap ET.cells
theorem ET.cells5 (e : ET) : e.cells.length = 5 := by cases e; rfl
theorem flatC_snoc (ys : List ET) (y : ET) : flatC (ys ++ [y]) = flatC ys ++ y.cells := by
 unfold flatC
 rw [List.flatMap_append]
 simp
theorem row_of_flat {B g : Nat} {w : World} : ∀ (ys : List ET) (o : Nat), w.rangeAt g o (flatC ys) → (∀ y ∈ ys, y.In B w) → ET.Row B w g ys o
 | [], o, _, _ => trivial
 | e :: r, o, h, u => by
  unfold ET.Row
  have e1 : flatC (e :: r) = e.cells ++ flatC r := by unfold flatC; rw [List.flatMap_cons]
  rw [e1] at h
  refine ⟨fun j v hj => h j v ?_, u e List.mem_cons_self, row_of_flat r (o + 5) (fun j v hj => ?_) fun x hx => u x (List.mem_cons_of_mem _ hx)⟩
  ·have hl : j < e.cells.length := by
    rcases Nat.lt_or_ge j e.cells.length with q | q
    ·exact q
    ·rw [List.getElem?_eq_none q] at hj; cases hj
   rw [List.getElem?_append_left hl]
   exact hj
  ·have := h (5 + j) v (by rw [List.getElem?_append_right (by rw [e.cells5]; omega), e.cells5, Nat.add_sub_cancel_left]; exact hj)
   rw [Nat.add_assoc]
   exact this

/-- A row of copies that grows. -/
structure KS (A : Nat) (w : World) (v : Value) (xs : List Ex) (ys : List ET) : Prop where
 own : w.ownsRow A 34 5 v ys.length (flatC ys)
 ex : ys.map ET.ex = xs
 ins : ∀ y ∈ ys, y.In w.heap.size w
 off : ∀ y ∈ ys, y.Lies (fun k => A ≤ k ∧ some k ≠ v.ownBlock)
 size : A ≤ w.heap.size

theorem KS.nil {A : Nat} {w : World} (h : A ≤ w.heap.size) : KS A w (.slice none 0 0) [] [] :=
 ⟨World.ownsRow_nil w A 34 5, rfl, fun _ h => (by cases h), fun _ h => (by cases h), h⟩

theorem KS.keep {A : Nat} {w w' : World} {v : Value} {xs : List Ex} {ys : List ET} (h : KS A w v xs ys) (hs : w.heap.size ≤ w'.heap.size) (hM : ∀ k, A ≤ k → k < w.heap.size → w'.heap[k]? = w.heap[k]?) : KS A w' v xs ys := by
 refine ⟨?_, h.ex, fun y hy => ET.In.up hs (ET.In.stay (S := fun k => A ≤ k) hM (h.ins y hy) ((h.off y hy).mono fun _ q => q.1)), h.off, Nat.le_trans h.size hs⟩
 obtain ⟨h1, h2 | ⟨g, cap, cur, hv, hg, hc, h3⟩⟩ := id h.own
 ·exact ⟨h1, .inl h2⟩
 ·have hl : g < w.heap.size := (h.own.lt g (by rw [hv]; rfl)).2
  exact ⟨h1, .inr ⟨g, cap, cur, hv, hg, (hM g hg hl).trans hc, h3⟩⟩

theorem KS.below {A : Nat} {w w' : World} {v : Value} {xs : List Ex} {ys : List ET} (h : KS A w v xs ys) (hb : Below w.heap.size w w') : KS A w' v xs ys :=
 h.keep hb.size fun k _ hk => hb.block k hk

/-- What is made later lies off the row. -/
theorem KS.fresh {A : Nat} {w : World} {v : Value} {xs : List Ex} {ys : List ET} (h : KS A w v xs ys) {y : ET} (hy : y.Up w.heap.size) : y.Lies (fun k => A ≤ k ∧ some k ≠ v.ownBlock) :=
 (ET.Up.lies hy).mono fun k hk => ⟨Nat.le_trans h.size hk, fun e => by have := (h.own.lt k e.symm).2; omega⟩

theorem KS.app {A : Nat} {w w' : World} {v : Value} {xs : List Ex} {ys : List ET} {y : ET} {g cap : Nat} (h : KS A w v xs ys) (hi : y.In w.heap.size w) (hy : y.Lies (fun k => A ≤ k ∧ some k ≠ v.ownBlock))
  (ho : w'.ownsRow A 34 5 (.slice (some ⟨g, 0, none⟩) (ys.length + 1) cap) (ys.length + 1) (flatC ys ++ y.cells)) (hg : w.grownBy w' v.ownBlock) (hw : v.ownBlock = some g ∨ g = w.heap.size) :
  KS A w' (.slice (some ⟨g, 0, none⟩) (ys.length + 1) cap) (xs ++ [y.ex]) (ys ++ [y]) := by
 have hin : ∀ z : ET, z.In w.heap.size w → z.Lies (fun k => A ≤ k ∧ some k ≠ v.ownBlock) → z.In w'.heap.size w' := fun z h1 h2 => ET.In.up hg.size (ET.In.stay (fun k hk hl => hg.block k hl hk.2) h1 h2)
 have hoff : ∀ z : ET, z.In w.heap.size w → z.Lies (fun k => A ≤ k ∧ some k ≠ v.ownBlock) → z.Lies (fun k => A ≤ k ∧ some k ≠ (Value.slice (some ⟨g, 0, none⟩) (ys.length + 1) cap).ownBlock) := fun z h1 h2 => by
  refine (ET.In.lies h1 h2).mono fun k hk => ⟨hk.1.1, fun e => ?_⟩
  have e1 : some k = some g := e
  cases e1
  rcases hw with q | q
  ·exact hk.1.2 q.symm
  ·have := hk.2; omega
 refine ⟨?_, by rw [List.map_append, h.ex]; rfl, fun z hz => ?_, fun z hz => ?_, Nat.le_trans h.size hg.size⟩
 ·rw [flatC_snoc, List.length_append]
  exact ho
 ·rcases List.mem_append.1 hz with q | q
  ·exact hin z (h.ins z q) (h.off z q)
  ·rw [List.mem_singleton.1 q]; exact hin y hi hy
 ·rcases List.mem_append.1 hz with q | q
  ·exact hoff z (h.ins z q) (h.off z q)
  ·rw [List.mem_singleton.1 q]; exact hoff y hi hy

/-- What the row is when it is done. -/
theorem KS.done {A : Nat} {w : World} {v : Value} {xs : List Ex} {ys : List ET} (h : KS A w v xs ys) (hl : ys.length ≤ 1048576) : ∃ a c, v = .slice a ys.length c ∧ RowE w.heap.size w a c ys ∧ (ys = [] ∨ ∃ g o, a = some ⟨g, o, none⟩ ∧ A ≤ g) ∧ ET.Ups A ys := by
 have hu : ET.Ups A ys := ET.LiesL.up (S := fun k => A ≤ k) (fun _ q => q) (ET.LiesL.of fun y hy => (h.off y hy).mono fun _ q => q.1)
 obtain ⟨h1, ⟨h2, h3⟩ | ⟨g, cap, cur, hv, hg, hc, hn, h3⟩⟩ := id h.own
 ·have e : ys = [] := List.length_eq_zero_iff.mp h3
  subst e
  exact ⟨none, 0, h2, ⟨Nat.zero_le _, Nat.le_refl _, .inl rfl⟩, .inl rfl, hu⟩
 ·have hlt : g < w.heap.size := (h.own.lt g (by rw [hv]; rfl)).2
  refine ⟨some ⟨g, 0, none⟩, cap, hv, ⟨hl, hn, .inr ⟨g, 0, rfl, hlt, row_of_flat ys 0 (fun j u hj => ?_) h.ins⟩⟩, .inr ⟨g, 0, rfl, hg⟩, hu⟩
  have z := h.own.cells (g := g) (by rw [hv]; rfl) j u hj
  rw [Addr.add_mid] at z
  exact z
end Go.Proofs.YtcmahiphfpgadaaGreatDoor

/- Programs are told apart. -/
namespace Go.Proofs.YtcmahiphfpgadaaGreatDoor
open Go.RowKit
set_option linter.unusedVariables false

mutual
def samS : St → St → Bool
 | .mk k nm e b c, .mk k' nm' e' b' c' => decide (k = k') && (decide (nm = nm') && (samX e e' && (samSL b b' && samSL c c')))
def samSL : List St → List St → Bool
 | [], [] => true
 | x :: r, y :: s => samS x y && samSL r s
 | _, _ => false
end

theorem samSL_iff : ∀ (xs ys : List St), samSL xs ys = true ↔ xs.length = ys.length ∧ ∀ (i : Nat) (x y : St), xs[i]? = some x → ys[i]? = some y → samS x y = true
 | [], [] => by simp [samSL]
 | [], y :: s => by simp [samSL]
 | x :: r, [] => by simp [samSL]
 | x :: r, y :: s => by
  rw [samSL, Bool.and_eq_true, samSL_iff r s]
  constructor
  ·rintro ⟨h1, h2, h3⟩
   refine ⟨by simp [h2], fun i a b ha hb => ?_⟩
   cases i with
   | zero => simp at ha hb; subst ha hb; exact h1
   | succ i => exact h3 i a b (by simpa using ha) (by simpa using hb)
  ·rintro ⟨h1, h2⟩
   exact ⟨h2 0 x y rfl rfl, by simpa using h1, fun i a b ha hb => h2 (i + 1) a b (by simpa using ha) (by simpa using hb)⟩

def eqL {α : Type} (f : α → α → Bool) : List α → List α → Bool
 | [], [] => true
 | x :: r, y :: s => f x y && eqL f r s
 | _, _ => false

theorem eqL_iff {α : Type} (f : α → α → Bool) : ∀ (xs ys : List α), eqL f xs ys = true ↔ xs.length = ys.length ∧ ∀ (i : Nat) (x y : α), xs[i]? = some x → ys[i]? = some y → f x y = true
 | [], [] => by simp [eqL]
 | [], y :: s => by simp [eqL]
 | x :: r, [] => by simp [eqL]
 | x :: r, y :: s => by
  rw [eqL, Bool.and_eq_true, eqL_iff f r s]
  constructor
  ·rintro ⟨h1, h2, h3⟩
   refine ⟨by simp [h2], fun i a b ha hb => ?_⟩
   cases i with
   | zero => simp at ha hb; subst ha hb; exact h1
   | succ i => exact h3 i a b (by simpa using ha) (by simpa using hb)
  ·rintro ⟨h1, h2⟩
   exact ⟨h2 0 x y rfl rfl, by simpa using h1, fun i a b ha hb => h2 (i + 1) a b (by simpa using ha) (by simpa using hb)⟩

def samV (v u : Vr) : Bool := decide (v.nm = u.nm ∧ v.t = u.t ∧ v.b = u.b)
def samT (t u : Th) : Bool := decide (t.nm = u.nm) && (eqL samV t.locals u.locals && samSL t.body u.body)

end Go.Proofs.YtcmahiphfpgadaaGreatDoor

/- Statements, threads and programs are told apart. -/
namespace Go.Proofs.YtcmahiphfpgadaaGreatDoor
open Go.RowKit
set_option linter.unusedVariables false

end Go.Proofs.YtcmahiphfpgadaaGreatDoor

/- Variables and names are told apart. -/
namespace Go.Proofs.YtcmahiphfpgadaaGreatDoor
open Go.RowKit
set_option linter.unusedVariables false

def samN (a b : List UInt8) : Bool := decide (a = b)

theorem eqV (nm : ByteArray) (t b : Nat) (nm' : ByteArray) (t' b' : Nat) (u : World) : (Op.equalIn 10000 56 (.agg #[.string nm, .int .u8 (t : Int), .int .u64 (b : Int)]) (.agg #[.string nm', .int .u8 (t' : Int), .int .u64 (b' : Int)])).run Tryz.prog u = .ok (samV (VT.vr ⟨nm, t, b⟩) (VT.vr ⟨nm', t', b'⟩)) u := by
 unfold samV VT.vr
 by_cases h0 : nm.toList = nm'.toList
 ·have e0 : (nm.toList == nm'.toList) = true := by rw [beq_iff_eq]; exact h0
  have f0 : nm.data.toList = nm'.data.toList := by rw [toList_bytes, toList_bytes] at h0; exact h0
  by_cases h1 : t = t'
  ·subst h1
   by_cases h2 : b = b'
   ·subst h2
    go_simp
   ·have e2 : ((b : Int) == (b' : Int)) = false := by rw [beq_eq_false_iff_ne]; omega
    go_simp
  ·have e1 : ((t : Int) == (t' : Int)) = false := by rw [beq_eq_false_iff_ne]; omega
   go_simp
 ·have e0 : (nm.toList == nm'.toList) = false := by rw [beq_eq_false_iff_ne]; exact h0
  have f0 : ¬ nm.data.toList = nm'.data.toList := by rw [toList_bytes, toList_bytes] at h0; exact h0
  go_simp

end Go.Proofs.YtcmahiphfpgadaaGreatDoor

/- tree.Same. -/
namespace Go.Proofs.YtcmahiphfpgadaaGreatDoor
open Go.RowKit
set_option linter.unusedVariables false

/-- Whether two programs are the same. -/
def samP (p q : Pg) : Bool := eqL samV p.shared q.shared && (eqL samN p.mutexes q.mutexes && eqL samT p.threads q.threads)

end Go.Proofs.YtcmahiphfpgadaaGreatDoor

/- The document's own comparison of expressions. -/
namespace Go.Proofs.YtcmahiphfpgadaaGreatDoor
open Go.RowKit
set_option linter.unusedVariables false

/-- What the document's own telling two expressions apart does. -/
def KitEW (B : Nat) (x : ET) : Prop := ∀ (y : ET) (w : World), x.In B w → y.In B w → B ≤ w.heap.size → Calls Tryz.prog 17 #[.agg x.cells.toArray, .agg y.cells.toArray] w fun r w' => r = .returned (.bool (samX x.ex y.ex)) ∧ Below w.heap.size w w'

theorem Old.from {B : Nat} {a b c : World} (h : Old B a b) (k : Old B a c) : Old B b c := fun i hi => (k i hi).trans (h i hi).symm

theorem ex_cells {w : World} {g : Nat} {op t b : Nat} {nm : ByteArray} {s : Value} (h : At 34 w g (ex5 op t b nm s)) : w.cell? ⟨g, 0, none⟩ = some (.int .u8 (op : Int)) ∧ w.cell? ⟨g, 1, none⟩ = some (.int .u8 (t : Int)) ∧ w.cell? ⟨g, 2, none⟩ = some (.int .u64 (b : Int)) ∧ w.cell? ⟨g, 3, none⟩ = some (.string nm) ∧ w.cell? ⟨g, 4, none⟩ = some s := by
  refine ⟨?_, ?_, ?_, ?_, ?_⟩ <;> (rw [h.cell]; rfl)
theorem ex_mid {w : World} {g o : Nat} {op t b : Nat} {nm : ByteArray} {s : Value} (h : w.rangeAt g o (ex5 op t b nm s)) : w.cell? ⟨g, o, none⟩ = some (.int .u8 (op : Int)) ∧ w.cell? ⟨g, o + 1, none⟩ = some (.int .u8 (t : Int)) ∧ w.cell? ⟨g, o + 2, none⟩ = some (.int .u64 (b : Int)) ∧ w.cell? ⟨g, o + 3, none⟩ = some (.string nm) ∧ w.cell? ⟨g, o + 4, none⟩ = some s :=
  ⟨h 0 _ rfl, h 1 _ rfl, h 2 _ rfl, h 3 _ rfl, h 4 _ rfl⟩

set_option maxRecDepth 100000 in
set_option maxHeartbeats 6400000 in
theorem kitExpr_of (B : Nat) (op t b : Nat) (nm : ByteArray) (a : Option Addr) (c : Nat) (ks : List ET) (hS : ∀ k ∈ ks, KitEW B k) : KitEW B (.mk op t b nm a c ks) := by
  rintro ⟨op', t', b', nm', a', c', ks'⟩ w hx hy hBw
  unfold ET.In at hx hy
  obtain ⟨_, _, _, x1, x2, x3⟩ := hx
  obtain ⟨_, _, _, y1, y2, y3⟩ := hy
  have HR : Hid (RowE B w a c ks ∧ RowE B w a' c' ks') := ⟨⟨x1, x2, x3⟩, ⟨y1, y2, y3⟩⟩
  obtain ⟨R, hR⟩ : ∃ R, Hid (R = samX (ET.mk op t b nm a c ks).ex (ET.mk op' t' b' nm' a' c' ks').ex) := ⟨_, (rfl : _ = samX _ _)⟩
  rw [← hR.out]
  have hR2 : Hid (R = (decide (op = op') && (decide (t = t' ∧ b = b') && (decide (nm.data.toList = nm'.data.toList) && samL (ks.map ET.ex) (ks'.map ET.ex))))) := by
    have := hR.out
    show R = _
    rw [this]
    show samX (.mk op t b nm.data.toList (ET.exs ks)) (.mk op' t' b' nm'.data.toList (ET.exs ks')) = _
    rw [samX, ET.exs_eq, ET.exs_eq]
  obtain ⟨n, hn⟩ : ∃ n, Hid (n = ks.length) := ⟨_, (rfl : ks.length = _)⟩
  obtain ⟨n', hn'⟩ : ∃ n, Hid (n = ks'.length) := ⟨_, (rfl : ks'.length = _)⟩
  show Calls Tryz.prog 17 #[.agg (ex5 op t b nm (.slice a ks.length c)).toArray, .agg (ex5 op' t' b' nm' (.slice a' ks'.length c')).toArray] w _
  rw [← hn.out] at x1 x2 ⊢
  rw [← hn'.out] at y1 y2 ⊢
  have hq := eq26g t b t' b'
  have HS : Hid (∀ k ∈ ks, KitEW B k) := hS
  clear x3 y3 hR hS
  go_enter Tryz.func17, Tryz.ntmps17
  go_wp2_with (first
    | ((with_reducible show wpList _ _ _ _ _ _); refine wpList_box_at rfl 34 (.tmp 0) rfl (ex5 op t b nm (.slice a n c)) rfl ?_; intro w1 hA1 hb1 hs1; clear hs1)
    | ((with_reducible show wpList _ _ _ _ _ _); refine wpList_box_at rfl 34 (.tmp 1) rfl (ex5 op' t' b' nm' (.slice a' n' c')) rfl ?_; intro w2 hA2 hb2 hs2; clear hs2; refine Hid.out ?_))
  refine hidU ?_
  have hA12 := hA1.below hb2
  have hbw : Below w.heap.size w w2 := hb1.trans (hb2.mono hb1.size)
  obtain ⟨q0, q1, q2, q3, q4⟩ := ex_cells hA12
  obtain ⟨u0, u1, u2, u3, u4⟩ := ex_cells hA2
  have hl12 : w1.heap.size < w2.heap.size := hA2.lt
  have HB : Hid (At 34 w2 w.heap.size (ex5 op t b nm (.slice a n c)) ∧ At 34 w2 w1.heap.size (ex5 op' t' b' nm' (.slice a' n' c'))) := ⟨hA12, hA2⟩
  clear hA12 hA1 hA2 hb1 hb2
  by_cases ho : op = op'
  · subst ho
    have hd : decide (op = op) = true := by simp
    rw [hd, Bool.true_and] at hR2
    cases hV : decide (t = t' ∧ b = b') with
    | true =>
      rw [hV, Bool.true_and] at hR2
      have hq' : ∀ u, (Op.equalIn 10000 31 (.agg #[.int .u8 (t : Int), .int .u64 (b : Int)]) (.agg #[.int .u8 (t' : Int), .int .u64 (b' : Int)])).run Tryz.prog u = .ok true u := fun u => by rw [hq, hV]
      clear hq hd hV
      by_cases hs : nm.toList = nm'.toList
      · have hs0 : (nm.toList == nm'.toList) = true := by rw [beq_iff_eq]; exact hs
        rw [toList_bytes, toList_bytes] at hs
        have hs' : decide (nm.data.toList = nm'.data.toList) = true := decide_eq_true hs
        rw [hs', Bool.true_and] at hR2
        clear hs hs'
        by_cases hnn : n = n'
        · subst hnn
          go_wp2_with fail
          clear q0 q1 q2 q3 q4 u0 u1 u2 u3 u4 hs0 hq'
          go_loopw [5] (fun j wr => ∃ i : Nat, j = .int .i64 (i : Int) ∧ i ≤ n ∧ Hid (Below w2.heap.size w2 wr ∧ ∀ (q : Nat) (x y : Ex), q < i → (ks.map ET.ex)[q]? = some x → (ks'.map ET.ex)[q]? = some y → samX x y = true)) (fun j _ => n - (intOf j).toNat)
          case atStart => exact ⟨0, rfl, by omega, Below.refl _ _, fun q x y hq => by omega⟩
          case round =>
            obtain ⟨i, rfl, hi, hX⟩ := hrel
            obtain ⟨hb2r, hall⟩ := hX.out
            obtain ⟨-, -, -, -, q4⟩ := ex_cells (HB.out.1.below hb2r)
            obtain ⟨-, -, -, -, u4⟩ := ex_cells (HB.out.2.below hb2r)
            have hwr : Below w.heap.size w wr := hbw.trans (hb2r.mono hbw.size)
            by_cases hc : i < n
            · obtain ⟨x, hx⟩ : ∃ k, ks[i]? = some k := ⟨ks[i]'(by rw [← hn.out]; exact hc), by rw [List.getElem?_eq_getElem]⟩
              obtain ⟨y, hy⟩ : ∃ k, ks'[i]? = some k := ⟨ks'[i]'(by rw [← hn'.out]; exact hc), by rw [List.getElem?_eq_getElem]⟩
              have hold : Old B w wr := Old.of_below hwr hBw
              obtain ⟨g1, o1, rfl, hg1, hr1, hx1⟩ := (HR.out.1.old hold).at i x hx
              obtain ⟨g2, o2, rfl, hg2, hr2, hy1⟩ := (HR.out.2.old hold).at i y hy
              have HI : Hid (∀ wz, Below w.heap.size w wz → Calls Tryz.prog 17 #[.agg x.cells.toArray, .agg y.cells.toArray] wz fun r w' => r = .returned (.bool (samX x.ex y.ex)) ∧ Below wz.heap.size wz w') := fun wz hz => HS.out x (List.mem_of_getElem? hx) y wz (hx1.old (Old.from hold (Old.of_below hz hBw))) (hy1.old (Old.from hold (Old.of_below hz hBw))) (by have := hz.size; omega)
              have HX : Hid ((ks.map ET.ex)[i]? = some x.ex ∧ (ks'.map ET.ex)[i]? = some y.ex) := ⟨by rw [List.getElem?_map, hx]; rfl, by rw [List.getElem?_map, hy]; rfl⟩
              have HA : Hid (∀ (q : Nat) (x y : Ex), q < i → (ks.map ET.ex)[q]? = some x → (ks'.map ET.ex)[q]? = some y → samX x y = true) := hall
              obtain ⟨Z, hZ⟩ : ∃ Z, Hid (Z = samX x.ex y.ex) := ⟨_, (rfl : _ = samX _ _)⟩
              rw [← hZ.out] at HI
              obtain ⟨xop, xt, xb, xnm, xa, xc, xk⟩ := x
              obtain ⟨yop, yt, yb, ynm, ya, yc, yk⟩ := y
              obtain ⟨x0, x1', x2', x3', x4'⟩ := ex_mid (s := .slice xa xk.length xc) hr1
              obtain ⟨y0, y1', y2', y3', y4'⟩ := ex_mid (s := .slice ya yk.length yc) hr2
              clear hX hall hx hy hx1 hy1 hold hr1 hr2
              go_wp2_with fail
              go_region_with (first
                | (go_at_call 17; refine (HI.out _ (by first | exact hwr | exact below_drN hwr _ | exact Below.drew hwr)).mono ?_; rintro r w3 ⟨rfl, hb3⟩))
              all_goals
                (have hw3 : Below w2.heap.size w2 w3 := by
                  first
                    | exact hb2r.trans (hb3.mono hb2r.size)
                    | exact (below_drN hb2r _).trans (hb3.mono hb2r.size)
                    | exact (Below.drew hb2r).trans (hb3.mono hb2r.size)
                 clear hb3 q4 u4 x0 x1' x2' x3' x4' y0 y1' y2' y3' y4' HI
                 cases Z with
                 | false =>
                   have hRf : R = false := by
                     rw [hR2.out, Bool.eq_false_iff]
                     intro h
                     have := ((samL_iff _ _).1 h).2 i _ _ HX.out.1 HX.out.2
                     rw [← hZ.out] at this
                     cases this
                   clear hZ HX HA HR HB HS
                   go_wp2
                   go_ret
                   exact ⟨by rw [hRf]; rfl, hbw.trans (hw3.mono hbw.size)⟩
                 | true =>
                   go_wp2
                   go_roundw
                   case rel =>
                     refine ⟨i + 1, by go_num, by omega, hw3, fun q u v hq hu hv => ?_⟩
                     by_cases hqi : q = i
                     · subst hqi
                       rw [HX.out.1] at hu
                       rw [HX.out.2] at hv
                       cases hu
                       cases hv
                       exact hZ.out.symm
                     · exact HA.out q u v (by omega) hu hv
                   case measure => simp [intOf]; omega)
            · have hin : i = n := by omega
              have hRt : R = true := by
                rw [hR2.out, samL_iff, List.length_map, List.length_map, ← hn.out, ← hn'.out]
                refine ⟨rfl, fun q u v hu hv => hall q u v ?_ hu hv⟩
                have := (List.getElem?_eq_some_iff.1 hu).1
                rw [List.length_map, ← hn.out] at this
                omega
              clear hX hall hin HR HS HB
              go_wp2
              go_ret
              exact ⟨by rw [hRt]; rfl, hwr⟩
        · have hne : ((n : Int) == (n' : Int)) = false := by rw [beq_eq_false_iff_ne]; omega
          have hRf : R = false := by
            rw [hR2.out, Bool.eq_false_iff]
            intro h
            have := (samL_iff _ _).1 h
            rw [List.length_map, List.length_map, ← hn.out, ← hn'.out] at this
            exact hnn this.1
          clear hnn HR HS HB
          go_wp2_with fail
          go_ret
          exact ⟨by rw [hRf]; rfl, hbw⟩
      · have hs0 : (nm.toList == nm'.toList) = false := by rw [beq_eq_false_iff_ne]; exact hs
        rw [toList_bytes, toList_bytes] at hs
        have hs' : decide (nm.data.toList = nm'.data.toList) = false := decide_eq_false hs
        rw [hs', Bool.false_and] at hR2
        clear hs hs' HR HS HB
        go_wp2_with fail
        go_ret
        exact ⟨by rw [hR2.out]; rfl, hbw⟩
    | false =>
      rw [hV, Bool.false_and] at hR2
      have hq' : ∀ u, (Op.equalIn 10000 31 (.agg #[.int .u8 (t : Int), .int .u64 (b : Int)]) (.agg #[.int .u8 (t' : Int), .int .u64 (b' : Int)])).run Tryz.prog u = .ok false u := fun u => by rw [hq, hV]
      clear hq hd hV HR HS HB
      go_wp2_with fail
      go_ret
      exact ⟨by rw [hR2.out]; rfl, hbw⟩
  · have e0 : ((op : Int) == (op' : Int)) = false := by rw [beq_eq_false_iff_ne]; omega
    have hd : decide (op = op') = false := by simpa using ho
    rw [hd, Bool.false_and] at hR2
    have e1 : ¬ (op : Int) = (op' : Int) := by omega
    clear ho hd hq HR HS HB
    go_wp2_with fail
    all_goals first | (exfalso; apply e1; assumption) | (go_ret; exact ⟨by rw [hR2.out]; rfl, hbw⟩)

theorem kitExpr_any (B : Nat) (M : Nat) : ∀ x : ET, SizeOf.sizeOf x < M → KitEW B x := by
  induction M with
  | zero => intro x h; omega
  | succ M ih =>
    rintro ⟨op, t, b, nm, a, c, ks⟩ hN
    exact kitExpr_of B op t b nm a c ks fun k hk => ih k (by have := ET.sz (op := op) (t := t) (b := b) (c := c) (nm := nm) (a := a) hk; omega)

end Go.Proofs.YtcmahiphfpgadaaGreatDoor

/- The document's own copy of an expression. -/
namespace Go.Proofs.YtcmahiphfpgadaaGreatDoor
open Go.RowKit
set_option linter.unusedVariables false

def KcEW (B : Nat) (x : ET) : Prop := ∀ w, x.In B w → B ≤ w.heap.size → Calls Tryz.prog 9 #[.agg x.cells.toArray] w fun r w' => ∃ y : ET, r = .returned (.agg y.cells.toArray) ∧ y.ex = x.ex ∧ y.In w'.heap.size w' ∧ y.Up w.heap.size ∧ Below w.heap.size w w'

structure KL (s0 s1 s2 : Nat) (w0 : World) (op t b : Nat) (nm : ByteArray) (sl : Value) (xs : List Ex) (wr : World) (v : Value) (ys : List ET) : Prop where
 a0 : At 34 wr s0 (ex5 op t b nm sl)
 a1 : At 34 wr s1 [.int .u8 0, .int .u8 0, .int .u64 0, .string ⟨#[]⟩, .slice none 0 0]
 a2 : At 34 wr s2 (ex5 op t b nm v)
 ks : KS (s2 + 1) wr v xs ys
 bl : Below s0 w0 wr
 l1 : s0 < s1
 l2 : s1 < s2

section
variable {s0 s1 s2 : Nat} {w0 wr wr' : World} {op t b : Nat} {nm : ByteArray} {sl v : Value} {xs : List Ex} {ys : List ET}
theorem KL.below (h : KL s0 s1 s2 w0 op t b nm sl xs wr v ys) (hb : Below wr.heap.size wr wr') : KL s0 s1 s2 w0 op t b nm sl xs wr' v ys :=
 ⟨h.a0.below hb, h.a1.below hb, h.a2.below hb, h.ks.below hb, h.bl.trans (hb.mono (Nat.le_of_lt h.a0.lt)), h.l1, h.l2⟩
theorem At.grown {ty : TypeId} {k : Nat} {cs : List Value} {row : Option Nat} (h : At ty wr k cs) (hg : wr.grownBy wr' row) (hn : some k ≠ row) : At ty wr' k cs := by
 have := hg.block k h.lt hn
 unfold At at h ⊢
 rw [this]
 exact h
theorem KL.app {y : ET} {g cap : Nat} (h : KL s0 s1 s2 w0 op t b nm sl xs wr v ys) (hi : y.In wr.heap.size wr) (hy : y.Lies (fun k => s2 + 1 ≤ k ∧ some k ≠ v.ownBlock))
  (ho : wr'.ownsRow (s2 + 1) 34 5 (.slice (some ⟨g, 0, none⟩) (ys.length + 1) cap) (ys.length + 1) (flatC ys ++ y.cells)) (hg : wr.grownBy wr' v.ownBlock) (hw : v.ownBlock = some g ∨ g = wr.heap.size) :
  At 34 wr' s0 (ex5 op t b nm sl) ∧ At 34 wr' s1 [.int .u8 0, .int .u8 0, .int .u64 0, .string ⟨#[]⟩, .slice none 0 0] ∧ At 34 wr' s2 (ex5 op t b nm v) ∧ Below s0 w0 wr' ∧ KL s0 s1 s2 w0 op t b nm sl (xs ++ [y.ex]) (wr'.setCell ⟨s2, 4, none⟩ (.slice (some ⟨g, 0, none⟩) (ys.length + 1) cap)) (.slice (some ⟨g, 0, none⟩) (ys.length + 1) cap) (ys ++ [y]) := by
 have hn : ∀ k, k ≤ s2 → some k ≠ v.ownBlock := fun k hk e => by have := (h.ks.own.lt k e.symm).1; omega
 have l1 := h.l1
 have l2 := h.l2
 have q0 := h.a0.grown hg (hn s0 (by omega))
 have q1 := h.a1.grown hg (hn s1 (by omega))
 have q2 := h.a2.grown hg (hn s2 (by omega))
 have qk := h.ks.app hi hy ho hg hw
 have qb : Below s0 w0 wr' := h.bl.grown hg (Nat.le_of_lt h.a0.lt) (fun k hk => by have := (h.ks.own.lt k hk).1; omega)
 have hbut : But s2 wr' (wr'.setCell ⟨s2, 4, none⟩ (.slice (some ⟨g, 0, none⟩) (ys.length + 1) cap)) := (But.refl s2 wr').setCell 4 _
 refine ⟨q0, q1, q2, qb, ⟨hbut.at q0 (by omega), hbut.at q1 (by omega), q2.set 4 _, qk.keep hbut.size (fun k h1 h2 => hbut.block k h2 (by omega)), hbut.below qb (by omega) (Nat.le_of_lt q0.lt), l1, l2⟩⟩
end

set_option maxRecDepth 100000 in
set_option maxHeartbeats 6400000 in
theorem kitCopy_of (B : Nat) (op t b : Nat) (nm : ByteArray) (a : Option Addr) (c : Nat) (ks : List ET) (hS : ∀ k ∈ ks, KcEW B k) : KcEW B (.mk op t b nm a c ks) := by
 intro w hx hBw
 unfold ET.In at hx
 obtain ⟨y1, y2, y3, x1, x2, x3⟩ := hx
 have HR : Hid (RowE B w a c ks) := ⟨x1, x2, x3⟩
 have HY : Hid (op < 256 ∧ t < 256 ∧ b < 18446744073709551616) := ⟨y1, y2, y3⟩
 obtain ⟨n, hn⟩ : ∃ n, Hid (n = ks.length) := ⟨_, (rfl : ks.length = _)⟩
 show Calls Tryz.prog 9 #[.agg (ex5 op t b nm (.slice a ks.length c)).toArray] w _
 rw [← hn.out] at x1 x2 ⊢
 have HS : Hid (∀ k ∈ ks, KcEW B k) := hS
 clear x3 hS y1 y2 y3
 refine Calls.mono (R := fun r w' => Hid (∃ y : ET, r = .returned (.agg y.cells.toArray) ∧ y.ex = (ET.mk op t b nm a c ks).ex ∧ y.In w'.heap.size w' ∧ y.Up w.heap.size ∧ Below w.heap.size w w')) ?_ (fun _ _ h => h.out)
 go_enter Tryz.func9, Tryz.ntmps9
 go_wp2_with (first
  | ((with_reducible show wpList _ _ _ _ _ _); refine wpList_box_at rfl 34 (.tmp 0) rfl (ex5 op t b nm (.slice a n c)) rfl ?_; intro w1 hA1 hb1 hs1; clear hs1)
  | ((with_reducible show wpList _ _ _ _ _ _); refine wpList_alloc_at rfl 34 rfl _ 5 z29 ?_; intro w2 hA2 hb2 hs2; clear hs2; refine Hid.out ?_))
 refine hidU ?_
 obtain ⟨p0, p1, p2, p3, p4⟩ := ex_cells (hA1.below hb2)
 have HA2 : Hid (At 34 w2 w1.heap.size _) := hA2
 have HA1 : Hid (At 34 w2 w.heap.size (ex5 op t b nm (.slice a n c))) := hA1.below hb2
 have hbw : Below w.heap.size w w2 := hb1.trans (hb2.mono hb1.size)
 have hlt : w.heap.size < w1.heap.size := hA1.lt
 have hlt2 : w1.heap.size < w2.heap.size := hA2.lt
 clear hA1 hA2 hb1 hb2
 go_wp2_with (first
  | ((with_reducible show wpList _ _ _ _ _ _); refine wpList_alloc_at rfl 34 rfl _ 5 z29 ?_; intro w3 hA3 hb3 hs3)
  | ((with_reducible show wpList _ _ _ _ _ _); refine wpList_store_at rfl 34 (.tmp 3) (.tmp 5) rfl w2.heap.size (ex5 op t b nm (.slice a n c)) rfl rfl 34 _ hA3 (by kernel_rfl) rfl (ex5_one _ _ _ _ _ _ _) ?_; intro w4 hA4 hb4 hs4; refine Hid.out ?_))
 refine hidU ?_
 have r4 := (ex_cells hA4).2.2.2.2
 have f4 := hA4.frozen 4
 clear p0 p1 p2 p3 p4
 go_wp2_with fail
 have hA5 := hA4.set 4 (.slice none 0 0)
 have HB4 : Below w2.heap.size w2 w4 := hb4.below hb3 (Nat.le_refl _) hb3.size
 have hbt5 : But w2.heap.size w4 (w4.setCell ⟨w2.heap.size, 4, none⟩ (.slice none 0 0)) := (But.refl _ _).setCell 4 _
 have HB5 : Below w2.heap.size w2 (w4.setCell ⟨w2.heap.size, 4, none⟩ (.slice none 0 0)) := hbt5.below HB4 (Nat.le_refl _) HB4.size
 have HL0 : Hid (KL w.heap.size w1.heap.size w2.heap.size w op t b nm (.slice a n c) ((ks.map ET.ex).take 0) (w4.setCell ⟨w2.heap.size, 4, none⟩ (.slice none 0 0)) (.slice none 0 0) []) :=
  ⟨HA1.out.below HB5, HA2.out.below HB5, hA5, KS.nil (by have := hbt5.size; omega), hbw.trans (HB5.mono hbw.size), hlt, hlt2⟩
 clear r4 f4 hA4 hA3 hb3 hb4 hs3 hs4 hA5 HB4 HB5 hbt5 HA1 HA2
 go_loopw [4] (fun j wr => ∃ i : Nat, j = .int .i64 (i : Int) ∧ i ≤ n ∧ ∃ v ys, ys.length = i ∧ KL w.heap.size w1.heap.size w2.heap.size w op t b nm (.slice a n c) ((ks.map ET.ex).take i) wr v ys) (fun j _ => n - (intOf j).toNat)
 case atStart => exact ⟨0, rfl, Nat.zero_le _, _, _, rfl, HL0.out⟩
 clear HL0
 case round =>
  obtain ⟨i, rfl, hi, v, ys, hyl, hL⟩ := hrel
  have hwr := hL.bl
  have q4 := (ex_cells hL.a0).2.2.2.2
  have HYL : Hid (ys.length = i) := hyl
  have hyb : ys.length ≤ 1048576 := by omega
  clear hyl
  by_cases hc : i < n
  ·obtain ⟨x, hx⟩ : ∃ k, ks[i]? = some k := ⟨ks[i]'(by rw [← hn.out]; exact hc), by rw [List.getElem?_eq_getElem]⟩
   obtain ⟨g1, o1, rfl, hg1, -, -⟩ := HR.out.at i x hx
   have HX : Hid ((ks.map ET.ex).take i ++ [x.ex] = (ks.map ET.ex).take (i + 1)) := by
    show _ = _
    rw [List.take_add_one, List.getElem?_map, hx]
    rfl
   have HI : Hid (∀ u, Below w.heap.size w u → Calls Tryz.prog 9 #[.agg x.cells.toArray] u fun r w' => ∃ y : ET, r = .returned (.agg y.cells.toArray) ∧ y.ex = x.ex ∧ y.In w'.heap.size w' ∧ y.Up u.heap.size ∧ Below u.heap.size u w') := fun u hu => by
    obtain ⟨_, _, _, _, _, hx1⟩ := (HR.out.old (Old.of_below hu hBw)).at i x hx
    exact HS.out x (List.mem_of_getElem? hx) u hx1 (by have := hu.size; omega)
   have HK0 : Hid (∀ u, Below w.heap.size w u → u.rangeAt g1 (o1 + i * 5) x.cells) := fun u hu => by
    obtain ⟨_, _, e, _, hr1, _⟩ := (HR.out.old (Old.of_below hu hBw)).at i x hx
    cases e
    exact hr1
   obtain ⟨xop, xt, xb, xnm, xa, xc, xk⟩ := x
   have HK : Hid (∀ u, At 34 u w.heap.size (ex5 op t b nm (.slice (some ⟨g1, o1, none⟩) n c)) → Below w.heap.size w u → u.cell? ⟨w.heap.size, 4, none⟩ = some (.slice (some ⟨g1, o1, none⟩) n c) ∧ u.cell? ⟨g1, o1 + i * 5, none⟩ = some (.int .u8 (xop : Int)) ∧ u.cell? ⟨g1, o1 + i * 5 + 1, none⟩ = some (.int .u8 (xt : Int)) ∧ u.cell? ⟨g1, o1 + i * 5 + 2, none⟩ = some (.int .u64 (xb : Int)) ∧ u.cell? ⟨g1, o1 + i * 5 + 3, none⟩ = some (.string xnm) ∧ u.cell? ⟨g1, o1 + i * 5 + 4, none⟩ = some (.slice xa xk.length xc)) := fun u ha hu => by
    obtain ⟨x0, x1', x2', x3', x4'⟩ := ex_mid (s := .slice xa xk.length xc) (HK0.out u hu)
    exact ⟨(ex_cells ha).2.2.2.2, x0, x1', x2', x3', x4'⟩
   have HI : Hid (∀ u, Below w.heap.size w u → Calls Tryz.prog 9 #[.agg #[.int .u8 (xop : Int), .int .u8 (xt : Int), .int .u64 (xb : Int), .string xnm, .slice xa xk.length xc]] u fun r w' => ∃ y : ET, r = .returned (.agg y.cells.toArray) ∧ y.ex = (ET.mk xop xt xb xnm xa xc xk).ex ∧ y.In w'.heap.size w' ∧ y.Up u.heap.size ∧ Below u.heap.size u w') := HI.out
   have hk0 := hL.below (wr' := wr.drew) (Below.drew (Below.refl _ _))
   have hS0 := HK.out _ hk0.a0 hk0.bl
   clear HK0 hx hL hwr
   go_wp2_with fail
   refine wp_region_held_drew (S := fun x => x.cell? ⟨w.heap.size, 4, none⟩ = some (.slice (some ⟨g1, o1, none⟩) n c) ∧ x.cell? ⟨g1, o1 + i * 5, none⟩ = some (.int .u8 (xop : Int)) ∧ x.cell? ⟨g1, o1 + i * 5 + 1, none⟩ = some (.int .u8 (xt : Int)) ∧ x.cell? ⟨g1, o1 + i * 5 + 2, none⟩ = some (.int .u64 (xb : Int)) ∧ x.cell? ⟨g1, o1 + i * 5 + 3, none⟩ = some (.string xnm) ∧ x.cell? ⟨g1, o1 + i * 5 + 4, none⟩ = some (.slice xa xk.length xc)) (by kernel_rfl) hS0 (fun _ => ?_)
   refine wpAnyH_take (i := 0) (oi := { dst := some 14, op := .fieldAddr 34 (.tmp 3) 3, guard := none, .. }) (v := .pointer (some ⟨w2.heap.size, 4, none⟩)) rfl (by kernel_rfl) (by kernel_rfl) (by kernel_rfl) (fun _ _ _ h => h) (Or.inl ⟨by rfl, ?_⟩) hS0 ?_
   ·intro w hSw
    go_simp
   simp only [Act.put, sA, sB, sC]
   refine wpAnyH_take (i := 2) (oi := { dst := some 16, op := .fieldAddr 34 (.tmp 1) 3, guard := none, .. }) (v := .pointer (some ⟨w.heap.size, 4, none⟩)) rfl (by kernel_rfl) (by kernel_rfl) (by kernel_rfl) (fun _ _ _ h => h) (Or.inl ⟨by rfl, ?_⟩) hS0 ?_
   ·intro w hSw
    go_simp
   simp only [Act.put, sA, sB, sC]
   refine wpAnyH_take (i := 3) (oi := { dst := some 17, op := .load 32 (.tmp 16), guard := none, .. }) (v := .slice (some ⟨g1, o1, none⟩) n c) rfl (by kernel_rfl) (by kernel_rfl) (by kernel_rfl) (fun _ _ _ h => h) (Or.inl ⟨by rfl, ?_⟩) hS0 ?_
   ·intro w hSw
    have z := hSw.1
    go_simp
   simp only [Act.put, sA, sB, sC]
   refine wpAnyH_take (i := 4) (oi := { dst := some 18, op := .move (.tmp 4), guard := none, .. }) (v := .int .i64 (i : Int)) rfl (by kernel_rfl) (by kernel_rfl) (by kernel_rfl) (fun _ _ _ h => h) (Or.inl ⟨by rfl, ?_⟩) hS0 ?_
   ·intro w hSw
    go_simp
   simp only [Act.put, sA, sB, sC]
   refine wpAnyH_take (i := 5) (oi := { dst := some 19, op := .indexAddr 32 (.tmp 17) (.tmp 18), guard := none, .. }) (v := .pointer (some ⟨g1, o1 + i * 5, none⟩)) rfl (by kernel_rfl) (by kernel_rfl) (by kernel_rfl) (fun _ _ _ h => h) (Or.inl ⟨by rfl, ?_⟩) hS0 ?_
   ·intro w hSw
    go_simp
   simp only [Act.put, sA, sB, sC]
   refine wpAnyH_take (i := 6) (oi := { dst := some 20, op := .load 34 (.tmp 19), guard := none, .. }) (v := .agg #[.int .u8 (xop : Int), .int .u8 (xt : Int), .int .u64 (xb : Int), .string xnm, .slice xa xk.length xc]) rfl (by kernel_rfl) (by kernel_rfl) (by kernel_rfl) (fun _ _ _ h => h) (Or.inl ⟨by rfl, ?_⟩) hS0 ?_
   ·intro w hSw
    obtain ⟨-, z0, z1, z2, z3, z4⟩ := hSw
    go_simp
   simp only [Act.put, sA, sB, sC]
   refine wpAnyH_ready (rs := [1, 7]) (by kernel_rfl) (by simp) ?_
   refine AllReadyH.cons (o := { dst := some 15, op := .load 32 (.tmp 14), guard := none, .. }) rfl (fun K hK => ?_) (AllReadyH.cons (o := { dst := some 21, op := .call { callee := .value (.func 9), args := #[.tmp 20], argTypes := #[34] }, guard := none, .. }) rfl (fun K hK => ?_) AllReadyH.nil)
   ·skip
    rw [if_pos (by rfl)]
    have zv := (ex_cells hk0.a2).2.2.2.2
    unfold Oper.wp
    go_simp
    refine hK.out _ _ hS0 (fun _ => ?_)
    clear zv
    refine wpAnyH_ready (rs := [7]) (by kernel_rfl) (by simp) ?_
    refine AllReadyH.cons (o := { dst := some 21, op := .call { callee := .value (.func 9), args := #[.tmp 20], argTypes := #[34] }, guard := none, .. }) rfl (fun K hK => ?_) AllReadyH.nil
    rw [if_pos (by rfl)]
    go_wp2_with (go_at_call 9; refine (HI.out _ hk0.bl).mono ?_; rintro e x1 ⟨⟨yop, yt, yb, ynm, ya, yc, yk⟩, rfl, hye, hyi, hyu, hb1⟩)
    have hk1 := hk0.below hb1
    have hS1 := HK.out x1 hk1.a0 hk1.bl
    refine hK.out _ _ hS1 (fun _ => ?_)
    refine wpAnyH_ready (rs := [8]) (by kernel_rfl) (by simp) ?_
    refine AllReadyH.cons (o := { dst := some 22, op := .buildSlice 32 1 #[(0, .tmp 21)], guard := none, .. }) rfl (fun K hK => ?_) AllReadyH.nil
    rw [if_pos (by rfl)]
    obtain ⟨ie, hie, hz0, hz1, hz2⟩ := info_parts Try.i29'
    refine wp_buildSlice 32 34 1 #[(0, .tmp 21)] rfl (ex5 yop yt yb ynm (.slice ya yk.length yc)).toArray ie _ Tryz.underlying32 hie hz0 (by rw [hz1]; decide) (by rw [hz1]; decide) (by rw [hz1]; kernel_rfl) ?_
    obtain ⟨x2, hx2⟩ : ∃ x, x = x1.alloc (.cells (ex5 yop yt yb ynm (.slice ya yk.length yc)).toArray 34) := ⟨_, rfl⟩
    have hb2 : Below x1.heap.size x1 x2 := by rw [hx2]; exact (Below.refl _ _).alloc (Nat.le_refl _) _
    have hA2y : At 34 x2 x1.heap.size (ex5 yop yt yb ynm (.slice ya yk.length yc)) := by rw [hx2]; exact _root_.Go.heap_alloc_new _ _
    rw [← hx2]
    clear hx2 hz0 hz1 hz2 hie
    have hk2 := hk1.below hb2
    have hS2 := HK.out x2 hk2.a0 hk2.bl
    refine hK.out _ _ hS2 (fun _ => ?_)
    refine wpAnyH_ready (rs := [9]) (by kernel_rfl) (by simp) ?_
    refine AllReadyH.cons (o := { dst := some 23, op := .call { callee := .builtin .append, args := #[.tmp 15, .tmp 22], argTypes := #[32, 32] }, guard := none, .. }) rfl (fun K hK => ?_) AllReadyH.nil
    rw [if_pos (by rfl)]
    obtain ⟨ie, hie, hz0, hz1, hz2⟩ := info_parts Try.i29'
    refine wp_append_lies x2 (.tmp 15) (.tmp 22) 32 rfl (w2.heap.size + 1) 34 ie _ 5 64 Tryz.underlying32 hie hz0 hz1 hz2 rfl (by decide) v ys.length (flatC ys) rfl hk2.ks.own ⟨x1.heap.size, 0, none⟩ 1 1 (ex5 yop yt yb ynm (.slice ya yk.length yc)) rfl rfl ?_ (ex5_one _ _ _ _ _ _ _) (by decide) (by unfold maxLen; omega) (by omega) hk2.ks.size x2.heap.size rfl ?_
    ·intro j u hj
     rw [Addr.add_mid, hA2y.cell, Nat.zero_add]
     exact hj
    intro g cap x3 hown3 hgr3 hg3 hlt3
    have hk3 := hk2.app (y := .mk yop yt yb ynm ya yc yk) ((hyi.old (Old.of_below hb2 (Nat.le_refl _))).up hb2.size) (hk0.ks.fresh hyu) hown3 hgr3 hg3
    have hS3 := HK.out x3 hk3.1 hk3.2.2.2.1
    clear hie hz0 hz1 hz2 hown3 hgr3 hg3 hA2y
    refine hK.out _ _ hS3 (fun _ => ?_)
    refine wpAnyH_take (i := 10) (oi := { dst := some 24, op := .fieldAddr 34 (.tmp 3) 3, guard := none, .. }) (v := .pointer (some ⟨w2.heap.size, 4, none⟩)) rfl (by kernel_rfl) (by kernel_rfl) (by kernel_rfl) (fun _ _ _ h => h) (Or.inl ⟨by rfl, ?_⟩) hS3 ?_
    ·intro w hSw
     go_simp
    simp only [Act.put, sA, sB, sC]
    refine wpAnyH_ready (rs := [11]) (by kernel_rfl) (by simp) ?_
    refine AllReadyH.cons (o := { dst := none, op := .store 32 (.tmp 24) (.tmp 23), guard := none, .. }) rfl (fun K hK => ?_) AllReadyH.nil
    rw [if_pos (by rfl)]
    have r3 := (ex_cells hk3.2.2.1).2.2.2.2
    have f3 := hk3.2.2.1.frozen 4
    have hk4 := hk3.2.2.2.2
    have hS4 := HK.out _ hk4.a0 hk4.bl
    unfold Oper.wp
    go_simp
    refine hK.out _ _ hS4 (fun _ => ?_)
    refine wpAnyH_done (by kernel_rfl) ?_ _
    clear hK hS0 hS1 hS2 hS3 hS4 r3 f3 hk0 hk1 hk2 hk3 hyi hyu hb1 hb2
    have hyx : yop = yop := rfl
    have hk5 : Hid (KL w.heap.size w1.heap.size w2.heap.size w op t b nm (.slice (some ⟨g1, o1, none⟩) n c) ((ks.map ET.ex).take (i + 1)) (x3.setCell ⟨w2.heap.size, 4, none⟩ (.slice (some ⟨g, 0, none⟩) (ys.length + 1) cap)) (.slice (some ⟨g, 0, none⟩) (ys.length + 1) cap) (ys ++ [.mk yop yt yb ynm ya yc yk])) := by
     rw [hye, HX.out] at hk4
     exact hk4
    have hyl' : Hid ((ys ++ [ET.mk yop yt yb ynm ya yc yk]).length = i + 1) := by show _ = _; rw [List.length_append, HYL.out]; rfl
    clear hk4 hye
    go_wp2_with fail
    go_roundw
    case rel => exact ⟨i + 1, by go_num, by omega, _, _, hyl'.out, hk5.out⟩
    case measure => simp [intOf]; omega
   ·skip
    rw [if_pos (by rfl)]
    go_wp2_with (go_at_call 9; refine (HI.out _ hk0.bl).mono ?_; rintro e x1 ⟨⟨yop, yt, yb, ynm, ya, yc, yk⟩, rfl, hye, hyi, hyu, hb1⟩)
    have hk1 := hk0.below hb1
    have hS1 := HK.out x1 hk1.a0 hk1.bl
    refine hK.out _ _ hS1 (fun _ => ?_)
    refine wpAnyH_ready (rs := [1, 8]) (by kernel_rfl) (by simp) ?_
    refine AllReadyH.cons (o := { dst := some 15, op := .load 32 (.tmp 14), guard := none, .. }) rfl (fun K hK => ?_) (AllReadyH.cons (o := { dst := some 22, op := .buildSlice 32 1 #[(0, .tmp 21)], guard := none, .. }) rfl (fun K hK => ?_) AllReadyH.nil)
    ·skip
     rw [if_pos (by rfl)]
     have zv := (ex_cells hk1.a2).2.2.2.2
     unfold Oper.wp
     go_simp
     refine hK.out _ _ hS1 (fun _ => ?_)
     clear zv
     refine wpAnyH_ready (rs := [8]) (by kernel_rfl) (by simp) ?_
     refine AllReadyH.cons (o := { dst := some 22, op := .buildSlice 32 1 #[(0, .tmp 21)], guard := none, .. }) rfl (fun K hK => ?_) AllReadyH.nil
     rw [if_pos (by rfl)]
     obtain ⟨ie, hie, hz0, hz1, hz2⟩ := info_parts Try.i29'
     refine wp_buildSlice 32 34 1 #[(0, .tmp 21)] rfl (ex5 yop yt yb ynm (.slice ya yk.length yc)).toArray ie _ Tryz.underlying32 hie hz0 (by rw [hz1]; decide) (by rw [hz1]; decide) (by rw [hz1]; kernel_rfl) ?_
     obtain ⟨x2, hx2⟩ : ∃ x, x = x1.alloc (.cells (ex5 yop yt yb ynm (.slice ya yk.length yc)).toArray 34) := ⟨_, rfl⟩
     have hb2 : Below x1.heap.size x1 x2 := by rw [hx2]; exact (Below.refl _ _).alloc (Nat.le_refl _) _
     have hA2y : At 34 x2 x1.heap.size (ex5 yop yt yb ynm (.slice ya yk.length yc)) := by rw [hx2]; exact _root_.Go.heap_alloc_new _ _
     rw [← hx2]
     clear hx2 hz0 hz1 hz2 hie
     have hk2 := hk1.below hb2
     have hS2 := HK.out x2 hk2.a0 hk2.bl
     refine hK.out _ _ hS2 (fun _ => ?_)
     refine wpAnyH_ready (rs := [9]) (by kernel_rfl) (by simp) ?_
     refine AllReadyH.cons (o := { dst := some 23, op := .call { callee := .builtin .append, args := #[.tmp 15, .tmp 22], argTypes := #[32, 32] }, guard := none, .. }) rfl (fun K hK => ?_) AllReadyH.nil
     rw [if_pos (by rfl)]
     obtain ⟨ie, hie, hz0, hz1, hz2⟩ := info_parts Try.i29'
     refine wp_append_lies x2 (.tmp 15) (.tmp 22) 32 rfl (w2.heap.size + 1) 34 ie _ 5 64 Tryz.underlying32 hie hz0 hz1 hz2 rfl (by decide) v ys.length (flatC ys) rfl hk2.ks.own ⟨x1.heap.size, 0, none⟩ 1 1 (ex5 yop yt yb ynm (.slice ya yk.length yc)) rfl rfl ?_ (ex5_one _ _ _ _ _ _ _) (by decide) (by unfold maxLen; omega) (by omega) hk2.ks.size x2.heap.size rfl ?_
     ·intro j u hj
      rw [Addr.add_mid, hA2y.cell, Nat.zero_add]
      exact hj
     intro g cap x3 hown3 hgr3 hg3 hlt3
     have hk3 := hk2.app (y := .mk yop yt yb ynm ya yc yk) ((hyi.old (Old.of_below hb2 (Nat.le_refl _))).up hb2.size) (hk0.ks.fresh hyu) hown3 hgr3 hg3
     have hS3 := HK.out x3 hk3.1 hk3.2.2.2.1
     clear hie hz0 hz1 hz2 hown3 hgr3 hg3 hA2y
     refine hK.out _ _ hS3 (fun _ => ?_)
     refine wpAnyH_take (i := 10) (oi := { dst := some 24, op := .fieldAddr 34 (.tmp 3) 3, guard := none, .. }) (v := .pointer (some ⟨w2.heap.size, 4, none⟩)) rfl (by kernel_rfl) (by kernel_rfl) (by kernel_rfl) (fun _ _ _ h => h) (Or.inl ⟨by rfl, ?_⟩) hS3 ?_
     ·intro w hSw
      go_simp
     simp only [Act.put, sA, sB, sC]
     refine wpAnyH_ready (rs := [11]) (by kernel_rfl) (by simp) ?_
     refine AllReadyH.cons (o := { dst := none, op := .store 32 (.tmp 24) (.tmp 23), guard := none, .. }) rfl (fun K hK => ?_) AllReadyH.nil
     rw [if_pos (by rfl)]
     have r3 := (ex_cells hk3.2.2.1).2.2.2.2
     have f3 := hk3.2.2.1.frozen 4
     have hk4 := hk3.2.2.2.2
     have hS4 := HK.out _ hk4.a0 hk4.bl
     unfold Oper.wp
     go_simp
     refine hK.out _ _ hS4 (fun _ => ?_)
     refine wpAnyH_done (by kernel_rfl) ?_ _
     clear hK hS0 hS1 hS2 hS3 hS4 r3 f3 hk0 hk1 hk2 hk3 hyi hyu hb1 hb2
     have hyx : yop = yop := rfl
     have hk5 : Hid (KL w.heap.size w1.heap.size w2.heap.size w op t b nm (.slice (some ⟨g1, o1, none⟩) n c) ((ks.map ET.ex).take (i + 1)) (x3.setCell ⟨w2.heap.size, 4, none⟩ (.slice (some ⟨g, 0, none⟩) (ys.length + 1) cap)) (.slice (some ⟨g, 0, none⟩) (ys.length + 1) cap) (ys ++ [.mk yop yt yb ynm ya yc yk])) := by
      rw [hye, HX.out] at hk4
      exact hk4
     have hyl' : Hid ((ys ++ [ET.mk yop yt yb ynm ya yc yk]).length = i + 1) := by show _ = _; rw [List.length_append, HYL.out]; rfl
     clear hk4 hye
     go_wp2_with fail
     go_roundw
     case rel => exact ⟨i + 1, by go_num, by omega, _, _, hyl'.out, hk5.out⟩
     case measure => simp [intOf]; omega
    ·skip
     rw [if_pos (by rfl)]
     obtain ⟨ie, hie, hz0, hz1, hz2⟩ := info_parts Try.i29'
     refine wp_buildSlice 32 34 1 #[(0, .tmp 21)] rfl (ex5 yop yt yb ynm (.slice ya yk.length yc)).toArray ie _ Tryz.underlying32 hie hz0 (by rw [hz1]; decide) (by rw [hz1]; decide) (by rw [hz1]; kernel_rfl) ?_
     obtain ⟨x2, hx2⟩ : ∃ x, x = x1.alloc (.cells (ex5 yop yt yb ynm (.slice ya yk.length yc)).toArray 34) := ⟨_, rfl⟩
     have hb2 : Below x1.heap.size x1 x2 := by rw [hx2]; exact (Below.refl _ _).alloc (Nat.le_refl _) _
     have hA2y : At 34 x2 x1.heap.size (ex5 yop yt yb ynm (.slice ya yk.length yc)) := by rw [hx2]; exact _root_.Go.heap_alloc_new _ _
     rw [← hx2]
     clear hx2 hz0 hz1 hz2 hie
     have hk2 := hk1.below hb2
     have hS2 := HK.out x2 hk2.a0 hk2.bl
     refine hK.out _ _ hS2 (fun _ => ?_)
     refine wpAnyH_ready (rs := [1]) (by kernel_rfl) (by simp) ?_
     refine AllReadyH.cons (o := { dst := some 15, op := .load 32 (.tmp 14), guard := none, .. }) rfl (fun K hK => ?_) AllReadyH.nil
     rw [if_pos (by rfl)]
     have zv := (ex_cells hk2.a2).2.2.2.2
     unfold Oper.wp
     go_simp
     refine hK.out _ _ hS2 (fun _ => ?_)
     clear zv
     refine wpAnyH_ready (rs := [9]) (by kernel_rfl) (by simp) ?_
     refine AllReadyH.cons (o := { dst := some 23, op := .call { callee := .builtin .append, args := #[.tmp 15, .tmp 22], argTypes := #[32, 32] }, guard := none, .. }) rfl (fun K hK => ?_) AllReadyH.nil
     rw [if_pos (by rfl)]
     obtain ⟨ie, hie, hz0, hz1, hz2⟩ := info_parts Try.i29'
     refine wp_append_lies x2 (.tmp 15) (.tmp 22) 32 rfl (w2.heap.size + 1) 34 ie _ 5 64 Tryz.underlying32 hie hz0 hz1 hz2 rfl (by decide) v ys.length (flatC ys) rfl hk2.ks.own ⟨x1.heap.size, 0, none⟩ 1 1 (ex5 yop yt yb ynm (.slice ya yk.length yc)) rfl rfl ?_ (ex5_one _ _ _ _ _ _ _) (by decide) (by unfold maxLen; omega) (by omega) hk2.ks.size x2.heap.size rfl ?_
     ·intro j u hj
      rw [Addr.add_mid, hA2y.cell, Nat.zero_add]
      exact hj
     intro g cap x3 hown3 hgr3 hg3 hlt3
     have hk3 := hk2.app (y := .mk yop yt yb ynm ya yc yk) ((hyi.old (Old.of_below hb2 (Nat.le_refl _))).up hb2.size) (hk0.ks.fresh hyu) hown3 hgr3 hg3
     have hS3 := HK.out x3 hk3.1 hk3.2.2.2.1
     clear hie hz0 hz1 hz2 hown3 hgr3 hg3 hA2y
     refine hK.out _ _ hS3 (fun _ => ?_)
     refine wpAnyH_take (i := 10) (oi := { dst := some 24, op := .fieldAddr 34 (.tmp 3) 3, guard := none, .. }) (v := .pointer (some ⟨w2.heap.size, 4, none⟩)) rfl (by kernel_rfl) (by kernel_rfl) (by kernel_rfl) (fun _ _ _ h => h) (Or.inl ⟨by rfl, ?_⟩) hS3 ?_
     ·intro w hSw
      go_simp
     simp only [Act.put, sA, sB, sC]
     refine wpAnyH_ready (rs := [11]) (by kernel_rfl) (by simp) ?_
     refine AllReadyH.cons (o := { dst := none, op := .store 32 (.tmp 24) (.tmp 23), guard := none, .. }) rfl (fun K hK => ?_) AllReadyH.nil
     rw [if_pos (by rfl)]
     have r3 := (ex_cells hk3.2.2.1).2.2.2.2
     have f3 := hk3.2.2.1.frozen 4
     have hk4 := hk3.2.2.2.2
     have hS4 := HK.out _ hk4.a0 hk4.bl
     unfold Oper.wp
     go_simp
     refine hK.out _ _ hS4 (fun _ => ?_)
     refine wpAnyH_done (by kernel_rfl) ?_ _
     clear hK hS0 hS1 hS2 hS3 hS4 r3 f3 hk0 hk1 hk2 hk3 hyi hyu hb1 hb2
     have hyx : yop = yop := rfl
     have hk5 : Hid (KL w.heap.size w1.heap.size w2.heap.size w op t b nm (.slice (some ⟨g1, o1, none⟩) n c) ((ks.map ET.ex).take (i + 1)) (x3.setCell ⟨w2.heap.size, 4, none⟩ (.slice (some ⟨g, 0, none⟩) (ys.length + 1) cap)) (.slice (some ⟨g, 0, none⟩) (ys.length + 1) cap) (ys ++ [.mk yop yt yb ynm ya yc yk])) := by
      rw [hye, HX.out] at hk4
      exact hk4
     have hyl' : Hid ((ys ++ [ET.mk yop yt yb ynm ya yc yk]).length = i + 1) := by show _ = _; rw [List.length_append, HYL.out]; rfl
     clear hk4 hye
     go_wp2_with fail
     go_roundw
     case rel => exact ⟨i + 1, by go_num, by omega, _, _, hyl'.out, hk5.out⟩
     case measure => simp [intOf]; omega
  ·have hin : i = n := by omega
   obtain ⟨sa, sc, rfl, hrow, hat, hups⟩ := hL.ks.done hyb
   have HF : Hid (∃ y : ET, y.cells = ex5 op t b nm (.slice sa ys.length sc) ∧ y.ex = (ET.mk op t b nm a c ks).ex ∧ y.In wr.heap.size wr ∧ y.Up (w2.heap.size + 1)) := by
    refine ⟨.mk op t b nm sa sc ys, rfl, ?_, ?_, ?_⟩
    ·show Ex.mk op t b nm.data.toList (ET.exs ys) = Ex.mk op t b nm.data.toList (ET.exs ks)
     rw [ET.exs_eq, ET.exs_eq, hL.ks.ex, hin, hn.out, List.take_of_length_le (by simp)]
    ·unfold ET.In
     exact ⟨HY.out.1, HY.out.2.1, HY.out.2.2, hrow⟩
    ·unfold ET.Up
     exact ⟨hat, hups⟩
   obtain ⟨z0, z1, z2, z3, z4⟩ := ex_cells hL.a2
   have hA1 := hL.a1
   have hls := hL.a2.lt
   clear hrow hat hups HS HR HY hn hL
   go_wp2_with (first
    | ((with_reducible show wpList _ _ _ _ _ _); refine wpList_store_at rfl 34 (.tmp 2) (.tmp 25) rfl w1.heap.size (ex5 op t b nm (.slice sa ys.length sc)) rfl rfl 34 _ hA1 (by kernel_rfl) rfl (ex5_one _ _ _ _ _ _ _) ?_; intro w6 hA6 hb6 hs6))
   refine bodyPost_ret (results_at rfl _ _ w1.heap.size 34 (ex5 op t b nm (.slice sa ys.length sc)) _ rfl hA6 Tryz.underlying34 rfl i29) rfl ?_
   obtain ⟨y, e1, e2, e3, e4⟩ := HF.out
   refine hidU ⟨y, by rw [e1], e2, ?_, e4.mono (by omega), hb6.below hwr (by omega) hwr.size⟩
   rw [hs6]
   exact e3.keep (A := w2.heap.size + 1) (fun k h1 h2 => hb6.block k h2 (by omega)) e4

theorem kitCopy_any (B : Nat) (M : Nat) : ∀ x : ET, SizeOf.sizeOf x < M → KcEW B x := by
 induction M with
 | zero => intro x h; omega
 | succ M ih =>
  rintro ⟨op, t, b, nm, a, c, ks⟩ hN
  exact kitCopy_of B op t b nm a c ks fun k hk => ih k (by have := ET.sz (op := op) (t := t) (b := b) (c := c) (nm := nm) (a := a) hk; omega)
end Go.Proofs.YtcmahiphfpgadaaGreatDoor
