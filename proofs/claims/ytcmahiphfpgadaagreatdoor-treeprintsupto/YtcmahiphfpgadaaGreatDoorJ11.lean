/- Joined texts of the proof. -/
import Derived.Test.YtcmahiphfpgadaaGreatDoorJ10

/- The document's own copies of statements: where they lie while their row grows. -/
namespace Go.Proofs.YtcmahiphfpgadaaGreatDoor
open Go.RowKit
set_option linter.unusedVariables false

mutual
/-- All rows lie in blocks of S. -/
def ST.Lies (S : Nat → Prop) : ST → Prop
 | .mk _ _ e a1 _ b1 a2 _ b2 => e.Lies S ∧ ((b1 = [] ∨ ∃ g o, a1 = some ⟨g, o, none⟩ ∧ S g) ∧ ST.LiesL S b1) ∧ (b2 = [] ∨ ∃ g o, a2 = some ⟨g, o, none⟩ ∧ S g) ∧ ST.LiesL S b2
def ST.LiesL (S : Nat → Prop) : List ST → Prop
 | [] => True
 | e :: r => e.Lies S ∧ ST.LiesL S r
end
theorem at_imp {S S' : Nat → Prop} (hS : ∀ k, S k → S' k) {α : Type} {l : List α} {a : Option Addr} (k : l = [] ∨ ∃ g o, a = some ⟨g, o, none⟩ ∧ S g) : l = [] ∨ ∃ g o, a = some ⟨g, o, none⟩ ∧ S' g := by
 rcases k with k | ⟨g, o, k1, k2⟩
 ·exact .inl k
 ·exact .inr ⟨g, o, k1, hS g k2⟩
mutual
theorem ST.Up.lies {A : Nat} : ∀ {e : ST}, e.Up A → e.Lies (fun k => A ≤ k)
 | .mk _ _ e a1 _ b1 a2 _ b2, h => by
  unfold ST.Up at h
  unfold ST.Lies
  exact ⟨h.1.lies, ⟨h.2.1.1, ST.Ups.lies h.2.1.2⟩, h.2.2.1, ST.Ups.lies h.2.2.2⟩
theorem ST.Ups.lies {A : Nat} : ∀ {l : List ST}, ST.Ups A l → ST.LiesL (fun k => A ≤ k) l
 | [], _ => trivial
 | e :: r, h => by
  unfold ST.Ups at h
  unfold ST.LiesL
  exact ⟨ST.Up.lies h.1, ST.Ups.lies h.2⟩
end
mutual
theorem ST.Lies.up {A : Nat} {S : Nat → Prop} (hS : ∀ k, S k → A ≤ k) : ∀ {e : ST}, e.Lies S → e.Up A
 | .mk _ _ e a1 _ b1 a2 _ b2, h => by
  unfold ST.Lies at h
  unfold ST.Up
  exact ⟨h.1.up hS, ⟨at_imp hS h.2.1.1, ST.LiesL.up hS h.2.1.2⟩, at_imp hS h.2.2.1, ST.LiesL.up hS h.2.2.2⟩
theorem ST.LiesL.up {A : Nat} {S : Nat → Prop} (hS : ∀ k, S k → A ≤ k) : ∀ {l : List ST}, ST.LiesL S l → ST.Ups A l
 | [], _ => trivial
 | e :: r, h => by
  unfold ST.LiesL at h
  unfold ST.Ups
  exact ⟨ST.Lies.up hS h.1, ST.LiesL.up hS h.2⟩
end
mutual
theorem ST.Lies.mono {S S' : Nat → Prop} (hS : ∀ k, S k → S' k) : ∀ {e : ST}, e.Lies S → e.Lies S'
 | .mk _ _ e a1 _ b1 a2 _ b2, h => by
  unfold ST.Lies at h ⊢
  exact ⟨h.1.mono hS, ⟨at_imp hS h.2.1.1, ST.LiesL.mono hS h.2.1.2⟩, at_imp hS h.2.2.1, ST.LiesL.mono hS h.2.2.2⟩
theorem ST.LiesL.mono {S S' : Nat → Prop} (hS : ∀ k, S k → S' k) : ∀ {l : List ST}, ST.LiesL S l → ST.LiesL S' l
 | [], _ => trivial
 | e :: r, h => by
  unfold ST.LiesL at h ⊢
  exact ⟨ST.Lies.mono hS h.1, ST.LiesL.mono hS h.2⟩
end
mutual
theorem ST.In.stay {B : Nat} {S : Nat → Prop} {w w' : World} (hM : ∀ k, S k → k < B → w'.heap[k]? = w.heap[k]?) : ∀ {e : ST}, e.In B w → e.Lies S → e.In B w'
 | .mk k nm e a1 c1 b1 a2 c2 b2, h, u => by
  unfold ST.In at h ⊢
  unfold ST.Lies at u
  obtain ⟨h1, h2, ⟨h3, h4, h5⟩, h6, h7, h8⟩ := h
  refine ⟨h1, h2.stay hM u.1, ⟨h3, h4, ?_⟩, h6, h7, ?_⟩
  ·rcases h5 with h5 | ⟨g, o, ha, hg, hr⟩
   ·exact .inl h5
   ·rcases u.2.1.1 with hk | ⟨g', o', ha', hg'⟩
    ·exact .inl hk
    ·rw [ha] at ha'
     cases ha'
     exact .inr ⟨g, o, ha, hg, ST.Row.stay hM hg' hg hr u.2.1.2⟩
  ·rcases h8 with h8 | ⟨g, o, ha, hg, hr⟩
   ·exact .inl h8
   ·rcases u.2.2.1 with hk | ⟨g', o', ha', hg'⟩
    ·exact .inl hk
    ·rw [ha] at ha'
     cases ha'
     exact .inr ⟨g, o, ha, hg, ST.Row.stay hM hg' hg hr u.2.2.2⟩
theorem ST.Row.stay {B : Nat} {S : Nat → Prop} {w w' : World} (hM : ∀ k, S k → k < B → w'.heap[k]? = w.heap[k]?) {g : Nat} (hA : S g) (hg : g < B) : ∀ {ks : List ST} {o : Nat}, ST.Row B w g ks o → ST.LiesL S ks → ST.Row B w' g ks o
 | [], o, _, _ => trivial
 | e :: r, o, h, u => by
  unfold ST.Row at h ⊢
  unfold ST.LiesL at u
  refine ⟨fun j v hj => ?_, ST.In.stay hM h.2.1 u.1, ST.Row.stay hM hA hg h.2.2 u.2⟩
  rw [World.cell?_of_block (w := w) (w' := w') (hM g hA hg)]
  exact h.1 j v hj
end
mutual
theorem ST.In.lies {B : Nat} {S : Nat → Prop} {w : World} : ∀ {e : ST}, e.In B w → e.Lies S → e.Lies (fun k => S k ∧ k < B)
 | .mk k nm e a1 c1 b1 a2 c2 b2, h, u => by
  unfold ST.In at h
  unfold ST.Lies at u ⊢
  obtain ⟨h1, h2, ⟨h3, h4, h5⟩, h6, h7, h8⟩ := h
  refine ⟨h2.lies u.1, ?_, ?_⟩
  ·rcases h5 with h5 | ⟨g, o, ha, hg, hr⟩
   ·subst h5
    exact ⟨.inl rfl, trivial⟩
   ·rcases u.2.1.1 with hk | ⟨g', o', ha', hg'⟩
    ·subst hk
     exact ⟨.inl rfl, trivial⟩
    ·rw [ha] at ha'
     cases ha'
     exact ⟨.inr ⟨g, o, ha, hg', hg⟩, ST.Row.lies hr u.2.1.2⟩
  ·rcases h8 with h8 | ⟨g, o, ha, hg, hr⟩
   ·subst h8
    exact ⟨.inl rfl, trivial⟩
   ·rcases u.2.2.1 with hk | ⟨g', o', ha', hg'⟩
    ·subst hk
     exact ⟨.inl rfl, trivial⟩
    ·rw [ha] at ha'
     cases ha'
     exact ⟨.inr ⟨g, o, ha, hg', hg⟩, ST.Row.lies hr u.2.2.2⟩
theorem ST.Row.lies {B : Nat} {S : Nat → Prop} {w : World} {g : Nat} : ∀ {ks : List ST} {o : Nat}, ST.Row B w g ks o → ST.LiesL S ks → ST.LiesL (fun k => S k ∧ k < B) ks
 | [], o, _, _ => trivial
 | e :: r, o, h, u => by
  unfold ST.Row at h
  unfold ST.LiesL at u ⊢
  exact ⟨ST.In.lies h.2.1 u.1, ST.Row.lies h.2.2 u.2⟩
end
theorem ST.LiesL.of {S : Nat → Prop} : ∀ {l : List ST}, (∀ e ∈ l, e.Lies S) → ST.LiesL S l
 | [], _ => trivial
 | e :: r, h => by unfold ST.LiesL; exact ⟨h e List.mem_cons_self, ST.LiesL.of fun x hx => h x (List.mem_cons_of_mem _ hx)⟩

def flatS (ys : List ST) : List Value := ys.flatMap ST.cells
theorem ST.cells9 (e : ST) : e.cells.length = 9 := by
 obtain ⟨k, nm, ⟨op, t, b, enm, ea, ec, eks⟩, a1, c1, b1, a2, c2, b2⟩ := e
 rfl
theorem flatS_snoc (ys : List ST) (y : ST) : flatS (ys ++ [y]) = flatS ys ++ y.cells := by
 unfold flatS
 rw [List.flatMap_append]
 simp
theorem row_of_flatS {B g : Nat} {w : World} : ∀ (ys : List ST) (o : Nat), w.rangeAt g o (flatS ys) → (∀ y ∈ ys, y.In B w) → ST.Row B w g ys o
 | [], o, _, _ => trivial
 | e :: r, o, h, u => by
  unfold ST.Row
  have e1 : flatS (e :: r) = e.cells ++ flatS r := by unfold flatS; rw [List.flatMap_cons]
  rw [e1] at h
  refine ⟨fun j v hj => h j v ?_, u e List.mem_cons_self, row_of_flatS r (o + 9) (fun j v hj => ?_) fun x hx => u x (List.mem_cons_of_mem _ hx)⟩
  ·have hl : j < e.cells.length := by
    rcases Nat.lt_or_ge j e.cells.length with q | q
    ·exact q
    ·rw [List.getElem?_eq_none q] at hj; cases hj
   rw [List.getElem?_append_left hl]
   exact hj
  ·have := h (9 + j) v (by rw [List.getElem?_append_right (by rw [e.cells9]; omega), e.cells9, Nat.add_sub_cancel_left]; exact hj)
   rw [Nat.add_assoc]
   exact this

/-- A row of copies that grows. -/
structure KT (A : Nat) (w : World) (v : Value) (xs : List St) (ys : List ST) : Prop where
 own : w.ownsRow A 87 9 v ys.length (flatS ys)
 ex : ys.map ST.st = xs
 ins : ∀ y ∈ ys, y.In w.heap.size w
 off : ∀ y ∈ ys, y.Lies (fun k => A ≤ k ∧ some k ≠ v.ownBlock)
 size : A ≤ w.heap.size

theorem KT.nil {A : Nat} {w : World} (h : A ≤ w.heap.size) : KT A w (.slice none 0 0) [] [] :=
 ⟨World.ownsRow_nil w A 87 9, rfl, fun _ h => (by cases h), fun _ h => (by cases h), h⟩

theorem KT.keep {A : Nat} {w w' : World} {v : Value} {xs : List St} {ys : List ST} (h : KT A w v xs ys) (hs : w.heap.size ≤ w'.heap.size) (hM : ∀ k, A ≤ k → k < w.heap.size → w'.heap[k]? = w.heap[k]?) : KT A w' v xs ys := by
 refine ⟨?_, h.ex, fun y hy => ST.In.up hs (ST.In.stay (S := fun k => A ≤ k) hM (h.ins y hy) ((h.off y hy).mono fun _ q => q.1)), h.off, Nat.le_trans h.size hs⟩
 obtain ⟨h1, h2 | ⟨g, cap, cur, hv, hg, hc, h3⟩⟩ := id h.own
 ·exact ⟨h1, .inl h2⟩
 ·have hl : g < w.heap.size := (h.own.lt g (by rw [hv]; rfl)).2
  exact ⟨h1, .inr ⟨g, cap, cur, hv, hg, (hM g hg hl).trans hc, h3⟩⟩

theorem KT.below {A : Nat} {w w' : World} {v : Value} {xs : List St} {ys : List ST} (h : KT A w v xs ys) (hb : Below w.heap.size w w') : KT A w' v xs ys :=
 h.keep hb.size fun k _ hk => hb.block k hk

/-- What is made later lies off the row. -/
theorem KT.fresh {A : Nat} {w : World} {v : Value} {xs : List St} {ys : List ST} (h : KT A w v xs ys) {y : ST} (hy : y.Up w.heap.size) : y.Lies (fun k => A ≤ k ∧ some k ≠ v.ownBlock) :=
 (ST.Up.lies hy).mono fun k hk => ⟨Nat.le_trans h.size hk, fun e => by have := (h.own.lt k e.symm).2; omega⟩

theorem KT.app {A : Nat} {w w' : World} {v : Value} {xs : List St} {ys : List ST} {y : ST} {g cap : Nat} (h : KT A w v xs ys) (hi : y.In w.heap.size w) (hy : y.Lies (fun k => A ≤ k ∧ some k ≠ v.ownBlock))
  (ho : w'.ownsRow A 87 9 (.slice (some ⟨g, 0, none⟩) (ys.length + 1) cap) (ys.length + 1) (flatS ys ++ y.cells)) (hg : w.grownBy w' v.ownBlock) (hw : v.ownBlock = some g ∨ g = w.heap.size) :
  KT A w' (.slice (some ⟨g, 0, none⟩) (ys.length + 1) cap) (xs ++ [y.st]) (ys ++ [y]) := by
 have hin : ∀ z : ST, z.In w.heap.size w → z.Lies (fun k => A ≤ k ∧ some k ≠ v.ownBlock) → z.In w'.heap.size w' := fun z h1 h2 => ST.In.up hg.size (ST.In.stay (fun k hk hl => hg.block k hl hk.2) h1 h2)
 have hoff : ∀ z : ST, z.In w.heap.size w → z.Lies (fun k => A ≤ k ∧ some k ≠ v.ownBlock) → z.Lies (fun k => A ≤ k ∧ some k ≠ (Value.slice (some ⟨g, 0, none⟩) (ys.length + 1) cap).ownBlock) := fun z h1 h2 => by
  refine (ST.In.lies h1 h2).mono fun k hk => ⟨hk.1.1, fun e => ?_⟩
  have e1 : some k = some g := e
  cases e1
  rcases hw with q | q
  ·exact hk.1.2 q.symm
  ·have := hk.2; omega
 refine ⟨?_, by rw [List.map_append, h.ex]; rfl, fun z hz => ?_, fun z hz => ?_, Nat.le_trans h.size hg.size⟩
 ·rw [flatS_snoc, List.length_append]
  exact ho
 ·rcases List.mem_append.1 hz with q | q
  ·exact hin z (h.ins z q) (h.off z q)
  ·rw [List.mem_singleton.1 q]; exact hin y hi hy
 ·rcases List.mem_append.1 hz with q | q
  ·exact hoff z (h.ins z q) (h.off z q)
  ·rw [List.mem_singleton.1 q]; exact hoff y hi hy

/-- What the row is when it is done. -/
theorem KT.done {A : Nat} {w : World} {v : Value} {xs : List St} {ys : List ST} (h : KT A w v xs ys) (hl : ys.length ≤ 1048576) : ∃ a c, v = .slice a ys.length c ∧ RowS w.heap.size w a c ys ∧ (ys = [] ∨ ∃ g o, a = some ⟨g, o, none⟩ ∧ A ≤ g) ∧ ST.Ups A ys := by
 have hu : ST.Ups A ys := ST.LiesL.up (S := fun k => A ≤ k) (fun _ q => q) (ST.LiesL.of fun y hy => (h.off y hy).mono fun _ q => q.1)
 obtain ⟨h1, ⟨h2, h3⟩ | ⟨g, cap, cur, hv, hg, hc, hn, h3⟩⟩ := id h.own
 ·have e : ys = [] := List.length_eq_zero_iff.mp h3
  subst e
  exact ⟨none, 0, h2, ⟨Nat.zero_le _, Nat.le_refl _, .inl rfl⟩, .inl rfl, hu⟩
 ·have hlt : g < w.heap.size := (h.own.lt g (by rw [hv]; rfl)).2
  refine ⟨some ⟨g, 0, none⟩, cap, hv, ⟨hl, hn, .inr ⟨g, 0, rfl, hlt, row_of_flatS ys 0 (fun j u hj => ?_) h.ins⟩⟩, .inr ⟨g, 0, rfl, hg⟩, hu⟩
  have z := h.own.cells (g := g) (by rw [hv]; rfl) j u hj
  rw [Addr.add_mid] at z
  exact z
end Go.Proofs.YtcmahiphfpgadaaGreatDoor

/- One slice is stored into a block. -/
namespace Go.Proofs.YtcmahiphfpgadaaGreatDoor
open Go.RowKit
set_option linter.unusedVariables false

theorem wpList_store_sl {ops : Array Oper} {rest : List Oper} {o : Oper} {a : Act} {w : World} {Q : Exit → Act → World → Prop} (hgd : o.guard = none) (x y : Operand) (ho : o.op = .store 57 x y) (g off : Nat) (sa : Option Addr) (m c : Nat)
  (hx : a.eval x = .pointer (some ⟨g, off, none⟩)) (hy : a.eval y = .slice sa m c) (t : TypeId) (old : List Value) (hg : At t w g old) (hold : off < old.length)
  (h : ∀ w', At t w' g (old.set off (.slice sa m c)) → But g w w' → w'.heap.size = w.heap.size → wpList Tryz.prog ops Q rest (a.put o.dst undef) w') : wpList Tryz.prog ops Q (o :: rest) a w := by
 refine wpList_plain hgd fun K hK => ?_
 have r : w.cell? ⟨g, off, none⟩ = some old[off] := by rw [hg.cell, List.getElem?_eq_getElem hold]
 have f := hg.frozen off
 have hH := hK _ _ (h _ (hg.set off (.slice sa m c)) ((But.refl g w).setCell off _) (by simp))
 clear hK h
 unfold Oper.wp execOp
 simp only [ho, hx, hy]
 go_simp
 exact hH
end Go.Proofs.YtcmahiphfpgadaaGreatDoor
