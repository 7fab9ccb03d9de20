/- Joined texts of the proof. -/
import Derived.Test.YtcmahiphfpgadaaGreatDoorJ8
import Derived.Deep.AppendLies
import Derived.Test.YtcmahiphfpgadaaGreatDoorJ5
import Derived.Test.YtcmahiphfpgadaaGreatDoorJ4

/- The document's own copies: where they lie while their row grows. -/
namespace Go.Proofs.YtcmahiphfpgadaaGreatDoor
open Go.RowKit
set_option linter.unusedVariables false

mutual
/-- All rows lie in blocks of S. -/
def ET.Lies (S : Nat → Prop) : ET → Prop
  | .mk _ _ _ _ a _ ks => (ks = [] ∨ ∃ g o, a = some ⟨g, o, none⟩ ∧ S g) ∧ ET.LiesL S ks
def ET.LiesL (S : Nat → Prop) : List ET → Prop
  | [] => True
  | e :: r => e.Lies S ∧ ET.LiesL S r
end
mutual
theorem ET.Up.lies {A : Nat} : ∀ {e : ET}, e.Up A → e.Lies (fun k => A ≤ k)
  | .mk _ _ _ _ a _ ks, h => by
    unfold ET.Up at h
    unfold ET.Lies
    exact ⟨h.1, ET.Ups.lies h.2⟩
theorem ET.Ups.lies {A : Nat} : ∀ {l : List ET}, ET.Ups A l → ET.LiesL (fun k => A ≤ k) l
  | [], _ => trivial
  | e :: r, h => by
    unfold ET.Ups at h
    unfold ET.LiesL
    exact ⟨ET.Up.lies h.1, ET.Ups.lies h.2⟩
end
mutual
theorem ET.Lies.up {A : Nat} {S : Nat → Prop} (hS : ∀ k, S k → A ≤ k) : ∀ {e : ET}, e.Lies S → e.Up A
  | .mk _ _ _ _ a _ ks, h => by
    unfold ET.Lies at h
    unfold ET.Up
    refine ⟨?_, ET.LiesL.up hS h.2⟩
    rcases h.1 with h | ⟨g, o, ha, hg⟩
    · exact .inl h
    · exact .inr ⟨g, o, ha, hS g hg⟩
theorem ET.LiesL.up {A : Nat} {S : Nat → Prop} (hS : ∀ k, S k → A ≤ k) : ∀ {l : List ET}, ET.LiesL S l → ET.Ups A l
  | [], _ => trivial
  | e :: r, h => by
    unfold ET.LiesL at h
    unfold ET.Ups
    exact ⟨ET.Lies.up hS h.1, ET.LiesL.up hS h.2⟩
end
mutual
theorem ET.Lies.mono {S S' : Nat → Prop} (hS : ∀ k, S k → S' k) : ∀ {e : ET}, e.Lies S → e.Lies S'
  | .mk _ _ _ _ a _ ks, h => by
    unfold ET.Lies at h ⊢
    refine ⟨?_, ET.LiesL.mono hS h.2⟩
    rcases h.1 with h | ⟨g, o, ha, hg⟩
    · exact .inl h
    · exact .inr ⟨g, o, ha, hS g hg⟩
theorem ET.LiesL.mono {S S' : Nat → Prop} (hS : ∀ k, S k → S' k) : ∀ {l : List ET}, ET.LiesL S l → ET.LiesL S' l
  | [], _ => trivial
  | e :: r, h => by
    unfold ET.LiesL at h ⊢
    exact ⟨ET.Lies.mono hS h.1, ET.LiesL.mono hS h.2⟩
end
mutual
theorem ET.In.stay {B : Nat} {S : Nat → Prop} {w w' : World} (hM : ∀ k, S k → k < B → w'.heap[k]? = w.heap[k]?) : ∀ {e : ET}, e.In B w → e.Lies S → e.In B w'
  | .mk op t b nm a c ks, h, u => by
    unfold ET.In at h ⊢
    unfold ET.Lies at u
    obtain ⟨h1, h2, h3, h4, h5, h6⟩ := h
    refine ⟨h1, h2, h3, h4, h5, ?_⟩
    rcases h6 with h6 | ⟨g, o, ha, hg, hr⟩
    · exact .inl h6
    · rcases u.1 with hk | ⟨g', o', ha', hg'⟩
      · exact .inl hk
      · rw [ha] at ha'
        cases ha'
        exact .inr ⟨g, o, ha, hg, ET.Row.stay hM hg' hg hr u.2⟩
theorem ET.Row.stay {B : Nat} {S : Nat → Prop} {w w' : World} (hM : ∀ k, S k → k < B → w'.heap[k]? = w.heap[k]?) {g : Nat} (hA : S g) (hg : g < B) : ∀ {ks : List ET} {o : Nat}, ET.Row B w g ks o → ET.LiesL S ks → ET.Row B w' g ks o
  | [], o, _, _ => trivial
  | e :: r, o, h, u => by
    unfold ET.Row at h ⊢
    unfold ET.LiesL at u
    refine ⟨fun j v hj => ?_, ET.In.stay hM h.2.1 u.1, ET.Row.stay hM hA hg h.2.2 u.2⟩
    rw [World.cell?_of_block (w := w) (w' := w') (hM g hA hg)]
    exact h.1 j v hj
end
mutual
theorem ET.In.lies {B : Nat} {S : Nat → Prop} {w : World} : ∀ {e : ET}, e.In B w → e.Lies S → e.Lies (fun k => S k ∧ k < B)
  | .mk op t b nm a c ks, h, u => by
    unfold ET.In at h
    unfold ET.Lies at u ⊢
    obtain ⟨h1, h2, h3, h4, h5, h6⟩ := h
    rcases h6 with h6 | ⟨g, o, ha, hg, hr⟩
    · subst h6
      exact ⟨.inl rfl, trivial⟩
    · rcases u.1 with hk | ⟨g', o', ha', hg'⟩
      · subst hk
        exact ⟨.inl rfl, trivial⟩
      · rw [ha] at ha'
        cases ha'
        exact ⟨.inr ⟨g, o, ha, hg', hg⟩, ET.Row.lies hr u.2⟩
theorem ET.Row.lies {B : Nat} {S : Nat → Prop} {w : World} {g : Nat} : ∀ {ks : List ET} {o : Nat}, ET.Row B w g ks o → ET.LiesL S ks → ET.LiesL (fun k => S k ∧ k < B) ks
  | [], o, _, _ => trivial
  | e :: r, o, h, u => by
    unfold ET.Row at h
    unfold ET.LiesL at u ⊢
    exact ⟨ET.In.lies h.2.1 u.1, ET.Row.lies h.2.2 u.2⟩
end
theorem ET.LiesL.of {S : Nat → Prop} : ∀ {l : List ET}, (∀ e ∈ l, e.Lies S) → ET.LiesL S l
  | [], _ => trivial
  | e :: r, h => by unfold ET.LiesL; exact ⟨h e List.mem_cons_self, ET.LiesL.of fun x hx => h x (List.mem_cons_of_mem _ hx)⟩

def flatC (ys : List ET) : List Value := ys.flatMap ET.cells
theorem ET.cells5 (e : ET) : e.cells.length = 5 := by cases e; rfl
theorem flatC_snoc (ys : List ET) (y : ET) : flatC (ys ++ [y]) = flatC ys ++ y.cells := by
  unfold flatC
  rw [List.flatMap_append]
  simp
theorem row_of_flat {B g : Nat} {w : World} : ∀ (ys : List ET) (o : Nat), w.rangeAt g o (flatC ys) → (∀ y ∈ ys, y.In B w) → ET.Row B w g ys o
  | [], o, _, _ => trivial
  | e :: r, o, h, u => by
    unfold ET.Row
    have e1 : flatC (e :: r) = e.cells ++ flatC r := by unfold flatC; rw [List.flatMap_cons]
    rw [e1] at h
    refine ⟨fun j v hj => h j v ?_, u e List.mem_cons_self, row_of_flat r (o + 5) (fun j v hj => ?_) fun x hx => u x (List.mem_cons_of_mem _ hx)⟩
    · have hl : j < e.cells.length := by
        rcases Nat.lt_or_ge j e.cells.length with q | q
        · exact q
        · rw [List.getElem?_eq_none q] at hj; cases hj
      rw [List.getElem?_append_left hl]
      exact hj
    · have := h (5 + j) v (by rw [List.getElem?_append_right (by rw [e.cells5]; omega), e.cells5, Nat.add_sub_cancel_left]; exact hj)
      rw [Nat.add_assoc]
      exact this

/-- A row of copies that grows. -/
structure KS (A : Nat) (w : World) (v : Value) (xs : List Ex) (ys : List ET) : Prop where
  own : w.ownsRow A 34 5 v ys.length (flatC ys)
  ex : ys.map ET.ex = xs
  ins : ∀ y ∈ ys, y.In w.heap.size w
  off : ∀ y ∈ ys, y.Lies (fun k => A ≤ k ∧ some k ≠ v.ownBlock)
  size : A ≤ w.heap.size

theorem KS.nil {A : Nat} {w : World} (h : A ≤ w.heap.size) : KS A w (.slice none 0 0) [] [] :=
  ⟨World.ownsRow_nil w A 34 5, rfl, fun _ h => (by cases h), fun _ h => (by cases h), h⟩

theorem KS.keep {A : Nat} {w w' : World} {v : Value} {xs : List Ex} {ys : List ET} (h : KS A w v xs ys) (hs : w.heap.size ≤ w'.heap.size) (hM : ∀ k, A ≤ k → k < w.heap.size → w'.heap[k]? = w.heap[k]?) : KS A w' v xs ys := by
  refine ⟨?_, h.ex, fun y hy => ET.In.up hs (ET.In.stay (S := fun k => A ≤ k) hM (h.ins y hy) ((h.off y hy).mono fun _ q => q.1)), h.off, Nat.le_trans h.size hs⟩
  obtain ⟨h1, h2 | ⟨g, cap, cur, hv, hg, hc, h3⟩⟩ := id h.own
  · exact ⟨h1, .inl h2⟩
  · have hl : g < w.heap.size := (h.own.lt g (by rw [hv]; rfl)).2
    exact ⟨h1, .inr ⟨g, cap, cur, hv, hg, (hM g hg hl).trans hc, h3⟩⟩

theorem KS.below {A : Nat} {w w' : World} {v : Value} {xs : List Ex} {ys : List ET} (h : KS A w v xs ys) (hb : Below w.heap.size w w') : KS A w' v xs ys :=
  h.keep hb.size fun k _ hk => hb.block k hk

/-- What is made later lies off the row. -/
theorem KS.fresh {A : Nat} {w : World} {v : Value} {xs : List Ex} {ys : List ET} (h : KS A w v xs ys) {y : ET} (hy : y.Up w.heap.size) : y.Lies (fun k => A ≤ k ∧ some k ≠ v.ownBlock) :=
  (ET.Up.lies hy).mono fun k hk => ⟨Nat.le_trans h.size hk, fun e => by have := (h.own.lt k e.symm).2; omega⟩

theorem KS.app {A : Nat} {w w' : World} {v : Value} {xs : List Ex} {ys : List ET} {y : ET} {g cap : Nat} (h : KS A w v xs ys) (hi : y.In w.heap.size w) (hy : y.Lies (fun k => A ≤ k ∧ some k ≠ v.ownBlock))
    (ho : w'.ownsRow A 34 5 (.slice (some ⟨g, 0, none⟩) (ys.length + 1) cap) (ys.length + 1) (flatC ys ++ y.cells)) (hg : w.grownBy w' v.ownBlock) (hw : v.ownBlock = some g ∨ g = w.heap.size) :
    KS A w' (.slice (some ⟨g, 0, none⟩) (ys.length + 1) cap) (xs ++ [y.ex]) (ys ++ [y]) := by
  have hin : ∀ z : ET, z.In w.heap.size w → z.Lies (fun k => A ≤ k ∧ some k ≠ v.ownBlock) → z.In w'.heap.size w' := fun z h1 h2 => ET.In.up hg.size (ET.In.stay (fun k hk hl => hg.block k hl hk.2) h1 h2)
  have hoff : ∀ z : ET, z.In w.heap.size w → z.Lies (fun k => A ≤ k ∧ some k ≠ v.ownBlock) → z.Lies (fun k => A ≤ k ∧ some k ≠ (Value.slice (some ⟨g, 0, none⟩) (ys.length + 1) cap).ownBlock) := fun z h1 h2 => by
    refine (ET.In.lies h1 h2).mono fun k hk => ⟨hk.1.1, fun e => ?_⟩
    have e1 : some k = some g := e
    cases e1
    rcases hw with q | q
    · exact hk.1.2 q.symm
    · have := hk.2; omega
  refine ⟨?_, by rw [List.map_append, h.ex]; rfl, fun z hz => ?_, fun z hz => ?_, Nat.le_trans h.size hg.size⟩
  · rw [flatC_snoc, List.length_append]
    exact ho
  · rcases List.mem_append.1 hz with q | q
    · exact hin z (h.ins z q) (h.off z q)
    · rw [List.mem_singleton.1 q]; exact hin y hi hy
  · rcases List.mem_append.1 hz with q | q
    · exact hoff z (h.ins z q) (h.off z q)
    · rw [List.mem_singleton.1 q]; exact hoff y hi hy

/-- What the row is when it is done. -/
theorem KS.done {A : Nat} {w : World} {v : Value} {xs : List Ex} {ys : List ET} (h : KS A w v xs ys) (hl : ys.length ≤ 1048576) : ∃ a c, v = .slice a ys.length c ∧ RowE w.heap.size w a c ys ∧ (ys = [] ∨ ∃ g o, a = some ⟨g, o, none⟩ ∧ A ≤ g) ∧ ET.Ups A ys := by
  have hu : ET.Ups A ys := ET.LiesL.up (S := fun k => A ≤ k) (fun _ q => q) (ET.LiesL.of fun y hy => (h.off y hy).mono fun _ q => q.1)
  obtain ⟨h1, ⟨h2, h3⟩ | ⟨g, cap, cur, hv, hg, hc, hn, h3⟩⟩ := id h.own
  · have e : ys = [] := List.length_eq_zero_iff.mp h3
    subst e
    exact ⟨none, 0, h2, ⟨Nat.zero_le _, Nat.le_refl _, .inl rfl⟩, .inl rfl, hu⟩
  · have hlt : g < w.heap.size := (h.own.lt g (by rw [hv]; rfl)).2
    refine ⟨some ⟨g, 0, none⟩, cap, hv, ⟨hl, hn, .inr ⟨g, 0, rfl, hlt, row_of_flat ys 0 (fun j u hj => ?_) h.ins⟩⟩, .inr ⟨g, 0, rfl, hg⟩, hu⟩
    have z := h.own.cells (g := g) (by rw [hv]; rfl) j u hj
    rw [Addr.add_mid] at z
    exact z
end Go.Proofs.YtcmahiphfpgadaaGreatDoor

/- Programs are told apart. -/
namespace Go.Proofs.YtcmahiphfpgadaaGreatDoor
open Go.RowKit
set_option linter.unusedVariables false

mutual
def samS : St → St → Bool
  | .mk k nm e b c, .mk k' nm' e' b' c' => decide (k = k') && (decide (nm = nm') && (samX e e' && (samSL b b' && samSL c c')))
def samSL : List St → List St → Bool
  | [], [] => true
  | x :: r, y :: s => samS x y && samSL r s
  | _, _ => false
end

theorem samSL_iff : ∀ (xs ys : List St), samSL xs ys = true ↔ xs.length = ys.length ∧ ∀ (i : Nat) (x y : St), xs[i]? = some x → ys[i]? = some y → samS x y = true
  | [], [] => by simp [samSL]
  | [], y :: s => by simp [samSL]
  | x :: r, [] => by simp [samSL]
  | x :: r, y :: s => by
    rw [samSL, Bool.and_eq_true, samSL_iff r s]
    constructor
    · rintro ⟨h1, h2, h3⟩
      refine ⟨by simp [h2], fun i a b ha hb => ?_⟩
      cases i with
      | zero => simp at ha hb; subst ha hb; exact h1
      | succ i => exact h3 i a b (by simpa using ha) (by simpa using hb)
    · rintro ⟨h1, h2⟩
      exact ⟨h2 0 x y rfl rfl, by simpa using h1, fun i a b ha hb => h2 (i + 1) a b (by simpa using ha) (by simpa using hb)⟩

def eqL {α : Type} (f : α → α → Bool) : List α → List α → Bool
  | [], [] => true
  | x :: r, y :: s => f x y && eqL f r s
  | _, _ => false

theorem eqL_iff {α : Type} (f : α → α → Bool) : ∀ (xs ys : List α), eqL f xs ys = true ↔ xs.length = ys.length ∧ ∀ (i : Nat) (x y : α), xs[i]? = some x → ys[i]? = some y → f x y = true
  | [], [] => by simp [eqL]
  | [], y :: s => by simp [eqL]
  | x :: r, [] => by simp [eqL]
  | x :: r, y :: s => by
    rw [eqL, Bool.and_eq_true, eqL_iff f r s]
    constructor
    · rintro ⟨h1, h2, h3⟩
      refine ⟨by simp [h2], fun i a b ha hb => ?_⟩
      cases i with
      | zero => simp at ha hb; subst ha hb; exact h1
      | succ i => exact h3 i a b (by simpa using ha) (by simpa using hb)
    · rintro ⟨h1, h2⟩
      exact ⟨h2 0 x y rfl rfl, by simpa using h1, fun i a b ha hb => h2 (i + 1) a b (by simpa using ha) (by simpa using hb)⟩

def samV (v u : Vr) : Bool := decide (v.nm = u.nm ∧ v.t = u.t ∧ v.b = u.b)
def samT (t u : Th) : Bool := decide (t.nm = u.nm) && (eqL samV t.locals u.locals && samSL t.body u.body)

/-- What telling two statements, two threads apart does. -/
def SameSW (B : Nat) (x : ST) : Prop := ∀ (y : ST) (w : World), x.In B w → y.In B w → B ≤ w.heap.size → Calls Tryz.prog 90 #[.agg x.cells.toArray, .agg y.cells.toArray] w fun r w' => r = .returned (.bool (samS x.st y.st)) ∧ Below w.heap.size w w'
def SameTW (B : Nat) (x : TT) : Prop := ∀ (y : TT) (w : World), x.In B w → y.In B w → B ≤ w.heap.size → Calls Tryz.prog 53 #[.agg x.cells.toArray, .agg y.cells.toArray] w fun r w' => r = .returned (.bool (samT x.th y.th)) ∧ Below w.heap.size w w'

set_option maxRecDepth 100000 in
set_option maxHeartbeats 3200000 in
theorem equalS_of (B : Nat) (xs ys : List ST) (hS : ∀ x ∈ xs, SameSW B x) (a1 a2 : Option Addr) (c1 c2 : Nat) (w : World) (h1 : RowS B w a1 c1 xs) (h2 : RowS B w a2 c2 ys) (hBw : B ≤ w.heap.size) :
    Calls Tryz.prog 89 #[.slice a1 xs.length c1, .slice a2 ys.length c2, .func (.func 90) #[] #[]] w fun r w' => r = .returned (.bool (samSL (xs.map ST.st) (ys.map ST.st))) ∧ Below w.heap.size w w' := by
  obtain ⟨R, hR⟩ : ∃ R, Hid (R = samSL (xs.map ST.st) (ys.map ST.st)) := ⟨_, (rfl : _ = samSL _ _)⟩
  rw [← hR.out]
  obtain ⟨n, hn⟩ : ∃ n, Hid (n = xs.length) := ⟨_, (rfl : xs.length = _)⟩
  obtain ⟨n2, hn2⟩ : ∃ n, Hid (n = ys.length) := ⟨_, (rfl : ys.length = _)⟩
  have hl1 := h1.1
  have hl2 := h2.1
  have hk1 := h1.2.1
  have hk2 := h2.2.1
  rw [← hn.out] at hl1 hk1 ⊢
  rw [← hn2.out] at hl2 hk2 ⊢
  have HS : Hid (∀ x ∈ xs, SameSW B x) := hS
  have HR : Hid (RowS B w a1 c1 xs ∧ RowS B w a2 c2 ys) := ⟨h1, h2⟩
  clear hS h1 h2
  by_cases hnn : n = n2
  · subst hnn
    go_enter Tryz.func89, Tryz.ntmps89
    go_wp2_with fail
    go_loopw [17] (fun j wr => ∃ i : Nat, j = .int .i64 (i : Int) ∧ i ≤ n ∧ Hid (Below w.heap.size w wr ∧ ∀ (q : Nat) (x y : St), q < i → (xs.map ST.st)[q]? = some x → (ys.map ST.st)[q]? = some y → samS x y = true)) (fun j _ => n - (intOf j).toNat)
    case atStart => exact ⟨0, rfl, by omega, Below.refl _ _, fun q x y hq => by omega⟩
    case round =>
      obtain ⟨i, rfl, hi, hX⟩ := hrel
      by_cases hc : i < n
      · obtain ⟨x, hx⟩ : ∃ k, xs[i]? = some k := ⟨xs[i]'(by rw [← hn.out]; exact hc), by rw [List.getElem?_eq_getElem]⟩
        obtain ⟨y, hy⟩ : ∃ k, ys[i]? = some k := ⟨ys[i]'(by rw [← hn2.out]; exact hc), by rw [List.getElem?_eq_getElem]⟩
        obtain ⟨hbw, hall⟩ := hX.out
        have hold : Old B w wr := Old.of_below hbw hBw
        obtain ⟨g1, o1, rfl, hg1, hr1, hx1⟩ := (HR.out.1.old hold).at i x hx
        obtain ⟨g2, o2, rfl, hg2, hr2, hy1⟩ := (HR.out.2.old hold).at i y hy
        have HK : Hid (x.In B wr ∧ y.In B wr ∧ B ≤ wr.heap.size ∧ wr.rangeAt g2 (o2 + i * 9) y.cells) := ⟨hx1, hy1, by have := hbw.size; omega, hr2⟩
        clear hX hx1 hy1 hr2 hold HR
        go_wp2_with (first
          | ((with_reducible show wpList _ _ _ _ _ _); refine wpList_load_mid (P := Tryz.prog) rfl 87 (.tmp 20) rfl g1 (o1 + i * 9) (by first | rfl | (simp; done)) x.cells _ hr1 Tryz.underlying87 rfl (by rw [ST.cells_len]; exact i38) ?_)
          | ((with_reducible show wpList _ _ _ _ _ _); refine wpList_alloc_at rfl 87 rfl _ 9 z38 ?_; intro w2 hA2 hb2 hs2)
          | ((with_reducible show wpList _ _ _ _ _ _); refine wpList_store_at (P := Tryz.prog) rfl 87 (.tmp 8) (.tmp 21) rfl wr.heap.size x.cells rfl rfl 87 _ hA2 (by rw [ST.cells_len]; exact i38) (by rw [ST.cells_len]; rfl) x.one ?_; intro w3 hA3 hb3 hs3; refine Hid.out ?_))
        refine hidU ?_
        have hB3 : Below wr.heap.size wr w3 := hb3.below hb2 (Nat.le_refl _) (by omega)
        obtain ⟨q1, q2, q3, q4⟩ := HK.out
        have hold3 : Old B wr w3 := Old.of_below hB3 q3
        have hr3 : w3.rangeAt g2 (o2 + i * 9) y.cells := Old.range hold3 hg2 q4
        have hw3 : Below w.heap.size w w3 := hbw.trans (hB3.mono hbw.size)
        have hA3' := hA3
        clear hb3 hb2 hA2 hr1 hs2 hs3 q4 hA3
        go_wp2_with (first
          | ((with_reducible show wpList _ _ _ _ _ _); refine wpList_load_mid (P := Tryz.prog) rfl 87 (.tmp 24) rfl g2 (o2 + i * 9) (by first | rfl | (simp; done)) y.cells _ hr3 Tryz.underlying87 rfl (by rw [ST.cells_len]; exact i38) ?_)
          | ((with_reducible show wpList _ _ _ _ _ _); refine wpList_alloc_at rfl 87 rfl _ 9 z38 ?_; intro w4 hA4 hb4 hs4)
          | ((with_reducible show wpList _ _ _ _ _ _); refine wpList_store_at (P := Tryz.prog) rfl 87 (.tmp 9) (.tmp 25) rfl w3.heap.size y.cells rfl rfl 87 _ hA4 (by rw [ST.cells_len]; exact i38) (by rw [ST.cells_len]; rfl) y.one ?_; intro w5 hA5 hb5 hs5; refine Hid.out ?_))
        refine hidU ?_
        have hB5 : Below w3.heap.size w3 w5 := hb5.below hb4 (Nat.le_refl _) (by omega)
        have hA35 := hA3'.below hB5
        have hw5 : Below w.heap.size w w5 := hw3.trans (hB5.mono hw3.size)
        have hold5 : Old B wr w5 := hold3.trans (Old.of_below hB5 (by have := hB3.size; omega))
        have hI := HS.out x (List.mem_of_getElem? hx) y w5 (q1.old hold5) (q2.old hold5) (by have := hw5.size; omega)
        clear hb5 hb4 hA4 hr3 hs4 hs5 hA3' q1 q2 hold3 hold5 HK HS
        go_wp2_with (first
          | ((with_reducible show wpList _ _ _ _ _ _); refine wpList_load_at (P := Tryz.prog) rfl 87 (.tmp 8) rfl wr.heap.size rfl 87 x.cells hA35 _ Tryz.underlying87 rfl (by rw [ST.cells_len]; exact i38) ?_)
          | ((with_reducible show wpList _ _ _ _ _ _); refine wpList_load_at (P := Tryz.prog) rfl 87 (.tmp 9) rfl w3.heap.size rfl 87 y.cells hA5 _ Tryz.underlying87 rfl (by rw [ST.cells_len]; exact i38) ?_))
        refine hI.mono ?_
        rintro r w6 ⟨rfl, hb6⟩
        have hw6 : Below w.heap.size w w6 := hw5.trans (hb6.mono hw5.size)
        clear hI hb6 hw5 hw3 hB3 hB5 hA35 hA5
        cases hM : samS x.st y.st with
        | false =>
          have hRf : R = false := by
            rw [hR.out, Bool.eq_false_iff]
            intro h
            have := ((samSL_iff _ _).1 h).2 i x.st y.st (by rw [List.getElem?_map, hx]; rfl) (by rw [List.getElem?_map, hy]; rfl)
            rw [hM] at this
            cases this
          clear hM
          go_wp2
          go_ret
          exact ⟨by rw [hRf]; rfl, hw6⟩
        | true =>
          go_wp2
          go_roundw
          case rel =>
            refine ⟨i + 1, by go_num, by omega, hw6, fun q u v hq hu hv => ?_⟩
            by_cases hqi : q = i
            · subst hqi
              rw [List.getElem?_map, hx] at hu
              rw [List.getElem?_map, hy] at hv
              simp at hu hv
              subst hu hv
              exact hM
            · exact hall q u v (by omega) hu hv
          case measure => simp [intOf]; omega
      · have hin : i = n := by omega
        obtain ⟨hbw, hall⟩ := hX.out
        have hRt : R = true := by
          rw [hR.out, samSL_iff, List.length_map, List.length_map, ← hn.out, ← hn2.out]
          refine ⟨rfl, fun q u v hu hv => hall q u v ?_ hu hv⟩
          have := (List.getElem?_eq_some_iff.1 hu).1
          rw [List.length_map, ← hn.out] at this
          omega
        clear hX hall hin HR HS
        go_wp2
        go_ret
        exact ⟨by rw [hRt]; rfl, hbw⟩
  · have hne : ((n : Int) == (n2 : Int)) = false := by rw [beq_eq_false_iff_ne]; omega
    have hRf : R = false := by
      rw [hR.out, Bool.eq_false_iff]
      intro h
      have := (samSL_iff _ _).1 h
      rw [List.length_map, List.length_map, ← hn.out, ← hn2.out] at this
      exact hnn this.1
    clear hnn
    go_enter Tryz.func89, Tryz.ntmps89
    go_wp2_with fail
    go_ret
    exact ⟨by rw [hRf]; rfl, Below.refl _ _⟩

set_option maxRecDepth 100000 in
set_option maxHeartbeats 3200000 in
theorem equalT_of (B : Nat) (xs ys : List TT) (hS : ∀ x ∈ xs, SameTW B x) (a1 a2 : Option Addr) (c1 c2 : Nat) (w : World) (h1 : RowT B w a1 c1 xs) (h2 : RowT B w a2 c2 ys) (hBw : B ≤ w.heap.size) :
    Calls Tryz.prog 52 #[.slice a1 xs.length c1, .slice a2 ys.length c2, .func (.func 53) #[] #[]] w fun r w' => r = .returned (.bool ((eqL samT) (xs.map TT.th) (ys.map TT.th))) ∧ Below w.heap.size w w' := by
  obtain ⟨R, hR⟩ : ∃ R, Hid (R = (eqL samT) (xs.map TT.th) (ys.map TT.th)) := ⟨_, (rfl : _ = (eqL samT) _ _)⟩
  rw [← hR.out]
  obtain ⟨n, hn⟩ : ∃ n, Hid (n = xs.length) := ⟨_, (rfl : xs.length = _)⟩
  obtain ⟨n2, hn2⟩ : ∃ n, Hid (n = ys.length) := ⟨_, (rfl : ys.length = _)⟩
  have hl1 := h1.1
  have hl2 := h2.1
  have hk1 := h1.2.1
  have hk2 := h2.2.1
  rw [← hn.out] at hl1 hk1 ⊢
  rw [← hn2.out] at hl2 hk2 ⊢
  have HS : Hid (∀ x ∈ xs, SameTW B x) := hS
  have HR : Hid (RowT B w a1 c1 xs ∧ RowT B w a2 c2 ys) := ⟨h1, h2⟩
  clear hS h1 h2
  by_cases hnn : n = n2
  · subst hnn
    go_enter Tryz.func52, Tryz.ntmps52
    go_wp2_with fail
    go_loopw [17] (fun j wr => ∃ i : Nat, j = .int .i64 (i : Int) ∧ i ≤ n ∧ Hid (Below w.heap.size w wr ∧ ∀ (q : Nat) (x y : Th), q < i → (xs.map TT.th)[q]? = some x → (ys.map TT.th)[q]? = some y → samT x y = true)) (fun j _ => n - (intOf j).toNat)
    case atStart => exact ⟨0, rfl, by omega, Below.refl _ _, fun q x y hq => by omega⟩
    case round =>
      obtain ⟨i, rfl, hi, hX⟩ := hrel
      by_cases hc : i < n
      · obtain ⟨x, hx⟩ : ∃ k, xs[i]? = some k := ⟨xs[i]'(by rw [← hn.out]; exact hc), by rw [List.getElem?_eq_getElem]⟩
        obtain ⟨y, hy⟩ : ∃ k, ys[i]? = some k := ⟨ys[i]'(by rw [← hn2.out]; exact hc), by rw [List.getElem?_eq_getElem]⟩
        obtain ⟨hbw, hall⟩ := hX.out
        have hold : Old B w wr := Old.of_below hbw hBw
        obtain ⟨g1, o1, rfl, hg1, hr1, hx1⟩ := (HR.out.1.old hold).at i x hx
        obtain ⟨g2, o2, rfl, hg2, hr2, hy1⟩ := (HR.out.2.old hold).at i y hy
        have HK : Hid (x.In B wr ∧ y.In B wr ∧ B ≤ wr.heap.size ∧ wr.rangeAt g2 (o2 + i * 3) y.cells) := ⟨hx1, hy1, by have := hbw.size; omega, hr2⟩
        clear hX hx1 hy1 hr2 hold HR
        go_wp2_with (first
          | ((with_reducible show wpList _ _ _ _ _ _); refine wpList_load_mid (P := Tryz.prog) rfl 59 (.tmp 20) rfl g1 (o1 + i * 3) (by first | rfl | (simp; done)) x.cells _ hr1 Tryz.underlying59 rfl i42 ?_)
          | ((with_reducible show wpList _ _ _ _ _ _); refine wpList_alloc_at rfl 59 rfl _ 3 z42 ?_; intro w2 hA2 hb2 hs2)
          | ((with_reducible show wpList _ _ _ _ _ _); refine wpList_store_at (P := Tryz.prog) rfl 59 (.tmp 8) (.tmp 21) rfl wr.heap.size x.cells rfl rfl 59 _ hA2 i42 rfl x.one ?_; intro w3 hA3 hb3 hs3; refine Hid.out ?_))
        refine hidU ?_
        have hB3 : Below wr.heap.size wr w3 := hb3.below hb2 (Nat.le_refl _) (by omega)
        obtain ⟨q1, q2, q3, q4⟩ := HK.out
        have hold3 : Old B wr w3 := Old.of_below hB3 q3
        have hr3 : w3.rangeAt g2 (o2 + i * 3) y.cells := Old.range hold3 hg2 q4
        have hw3 : Below w.heap.size w w3 := hbw.trans (hB3.mono hbw.size)
        have hA3' := hA3
        clear hb3 hb2 hA2 hr1 hs2 hs3 q4 hA3
        go_wp2_with (first
          | ((with_reducible show wpList _ _ _ _ _ _); refine wpList_load_mid (P := Tryz.prog) rfl 59 (.tmp 24) rfl g2 (o2 + i * 3) (by first | rfl | (simp; done)) y.cells _ hr3 Tryz.underlying59 rfl i42 ?_)
          | ((with_reducible show wpList _ _ _ _ _ _); refine wpList_alloc_at rfl 59 rfl _ 3 z42 ?_; intro w4 hA4 hb4 hs4)
          | ((with_reducible show wpList _ _ _ _ _ _); refine wpList_store_at (P := Tryz.prog) rfl 59 (.tmp 9) (.tmp 25) rfl w3.heap.size y.cells rfl rfl 59 _ hA4 i42 rfl y.one ?_; intro w5 hA5 hb5 hs5; refine Hid.out ?_))
        refine hidU ?_
        have hB5 : Below w3.heap.size w3 w5 := hb5.below hb4 (Nat.le_refl _) (by omega)
        have hA35 := hA3'.below hB5
        have hw5 : Below w.heap.size w w5 := hw3.trans (hB5.mono hw3.size)
        have hold5 : Old B wr w5 := hold3.trans (Old.of_below hB5 (by have := hB3.size; omega))
        have hI := HS.out x (List.mem_of_getElem? hx) y w5 (q1.old hold5) (q2.old hold5) (by have := hw5.size; omega)
        clear hb5 hb4 hA4 hr3 hs4 hs5 hA3' q1 q2 hold3 hold5 HK HS
        go_wp2_with (first
          | ((with_reducible show wpList _ _ _ _ _ _); refine wpList_load_at (P := Tryz.prog) rfl 59 (.tmp 8) rfl wr.heap.size rfl 59 x.cells hA35 _ Tryz.underlying59 rfl i42 ?_)
          | ((with_reducible show wpList _ _ _ _ _ _); refine wpList_load_at (P := Tryz.prog) rfl 59 (.tmp 9) rfl w3.heap.size rfl 59 y.cells hA5 _ Tryz.underlying59 rfl i42 ?_))
        refine hI.mono ?_
        rintro r w6 ⟨rfl, hb6⟩
        have hw6 : Below w.heap.size w w6 := hw5.trans (hb6.mono hw5.size)
        clear hI hb6 hw5 hw3 hB3 hB5 hA35 hA5
        cases hM : samT x.th y.th with
        | false =>
          have hRf : R = false := by
            rw [hR.out, Bool.eq_false_iff]
            intro h
            have := ((eqL_iff samT _ _).1 h).2 i x.th y.th (by rw [List.getElem?_map, hx]; rfl) (by rw [List.getElem?_map, hy]; rfl)
            rw [hM] at this
            cases this
          clear hM
          go_wp2
          go_ret
          exact ⟨by rw [hRf]; rfl, hw6⟩
        | true =>
          go_wp2
          go_roundw
          case rel =>
            refine ⟨i + 1, by go_num, by omega, hw6, fun q u v hq hu hv => ?_⟩
            by_cases hqi : q = i
            · subst hqi
              rw [List.getElem?_map, hx] at hu
              rw [List.getElem?_map, hy] at hv
              simp at hu hv
              subst hu hv
              exact hM
            · exact hall q u v (by omega) hu hv
          case measure => simp [intOf]; omega
      · have hin : i = n := by omega
        obtain ⟨hbw, hall⟩ := hX.out
        have hRt : R = true := by
          rw [hR.out, eqL_iff samT, List.length_map, List.length_map, ← hn.out, ← hn2.out]
          refine ⟨rfl, fun q u v hu hv => hall q u v ?_ hu hv⟩
          have := (List.getElem?_eq_some_iff.1 hu).1
          rw [List.length_map, ← hn.out] at this
          omega
        clear hX hall hin HR HS
        go_wp2
        go_ret
        exact ⟨by rw [hRt]; rfl, hbw⟩
  · have hne : ((n : Int) == (n2 : Int)) = false := by rw [beq_eq_false_iff_ne]; omega
    have hRf : R = false := by
      rw [hR.out, Bool.eq_false_iff]
      intro h
      have := (eqL_iff samT _ _).1 h
      rw [List.length_map, List.length_map, ← hn.out, ← hn2.out] at this
      exact hnn this.1
    clear hnn
    go_enter Tryz.func52, Tryz.ntmps52
    go_wp2_with fail
    go_ret
    exact ⟨by rw [hRf]; rfl, Below.refl _ _⟩

end Go.Proofs.YtcmahiphfpgadaaGreatDoor

/- Statements, threads and programs are told apart. -/
namespace Go.Proofs.YtcmahiphfpgadaaGreatDoor
open Go.RowKit
set_option linter.unusedVariables false

set_option maxRecDepth 100000 in
set_option maxHeartbeats 3200000 in
theorem sameStmt_at (k k' : Int) (nm nm' : ByteArray) (op t b : Nat) (enm : ByteArray) (ea : Option Addr) (n c : Nat) (s1 s2 : Value) (op' t' b' : Nat) (enm' : ByteArray) (ea' : Option Addr) (n' c' : Nat) (s1' s2' : Value) (p3 p4 p5 : Bool) (w : World)
    (h3 : AskB w 117 #[.agg (ex5 op t b enm (.slice ea n c)).toArray, .agg (ex5 op' t' b' enm' (.slice ea' n' c')).toArray] p3) (h4 : AskB w 89 #[s1, s1', .func (.func 90) #[] #[]] p4) (h5 : AskB w 89 #[s2, s2', .func (.func 90) #[] #[]] p5) :
    Calls Tryz.prog 90 #[.agg (st9 k nm (ex5 op t b enm (.slice ea n c)) s1 s2).toArray, .agg (st9 k' nm' (ex5 op' t' b' enm' (.slice ea' n' c')) s1' s2').toArray] w fun r w' => r = .returned (.bool (decide (k = k') && (decide (nm.data.toList = nm'.data.toList) && (p3 && (p4 && p5))))) ∧ Below w.heap.size w w' := by
  obtain ⟨R, hR⟩ : ∃ R, Hid (R = (decide (k = k') && (decide (nm.data.toList = nm'.data.toList) && (p3 && (p4 && p5))))) := ⟨_, (rfl : _ = (decide (k = k') && (decide (nm.data.toList = nm'.data.toList) && (p3 && (p4 && p5)))))⟩
  rw [← hR.out]
  have H3 : Hid (AskB w 117 #[.agg (ex5 op t b enm (.slice ea n c)).toArray, .agg (ex5 op' t' b' enm' (.slice ea' n' c')).toArray] p3) := h3
  have H4 : Hid (AskB w 89 #[s1, s1', .func (.func 90) #[] #[]] p4) := h4
  have H5 : Hid (AskB w 89 #[s2, s2', .func (.func 90) #[] #[]] p5) := h5
  clear h3 h4 h5
  go_enter Tryz.func90, Tryz.ntmps90
  go_wp2_with (first
    | ((with_reducible show wpList _ _ _ _ _ _); refine wpList_box_at rfl 87 (.tmp 0) rfl (st9 k nm (ex5 op t b enm (.slice ea n c)) s1 s2) rfl ?_; intro w1 hA1 hb1 hs1; clear hs1)
    | ((with_reducible show wpList _ _ _ _ _ _); refine wpList_box_at rfl 87 (.tmp 1) rfl (st9 k' nm' (ex5 op' t' b' enm' (.slice ea' n' c')) s1' s2') rfl ?_; intro w2 hA2 hb2 hs2; clear hs2; refine Hid.out ?_))
  refine hidU ?_
  have hA12 := hA1.below hb2
  have hbw : Below w.heap.size w w2 := hb1.trans (hb2.mono hb1.size)
  clear hA1 hb1 hb2
  obtain ⟨q0, q1, q2, q3, q4, q5, q6, q7, q8⟩ := st_cells hA12
  obtain ⟨u0, u1, u2, u3, u4, u5, u6, u7, u8⟩ := st_cells hA2
  by_cases hk : k = k'
  · subst hk
    have hd : decide (k = k) = true := by simp
    rw [hd, Bool.true_and] at hR
    clear hd
    go_wp2_with fail
    · have hs : nm.toList = nm'.toList := by assumption
      rw [toList_bytes, toList_bytes] at hs
      have hs' : decide (nm.data.toList = nm'.data.toList) = true := decide_eq_true hs
      rw [hs', Bool.true_and] at hR
      clear hs hs'
      refine (H3.out _ hbw).mono ?_
      rintro r w3 ⟨rfl, hb3⟩
      have hA3 := hA12.below hb3
      have hA3' := hA2.below hb3
      have hw3 := hbw.trans (hb3.mono hbw.size)
      clear hA12 hA2 hbw hb3 q0 q1 q2 q3 q4 q5 q6 q7 q8 u0 u1 u2 u3 u4 u5 u6 u7 u8
      obtain ⟨q0, q1, q2, q3, q4, q5, q6, q7, q8⟩ := st_cells hA3
      obtain ⟨u0, u1, u2, u3, u4, u5, u6, u7, u8⟩ := st_cells hA3'
      cases p3 with
      | false =>
        go_wp2_with fail
        go_ret
        exact ⟨by rw [hR.out]; rfl, hw3⟩
      | true =>
        go_wp2_with fail
        refine (H4.out _ hw3).mono ?_
        rintro r w4 ⟨rfl, hb4⟩
        have hA4 := hA3.below hb4
        have hA4' := hA3'.below hb4
        have hw4 := hw3.trans (hb4.mono hw3.size)
        clear hA3 hA3' hw3 hb4 q0 q1 q2 q3 q4 q5 q6 q7 q8 u0 u1 u2 u3 u4 u5 u6 u7 u8
        obtain ⟨q0, q1, q2, q3, q4, q5, q6, q7, q8⟩ := st_cells hA4
        obtain ⟨u0, u1, u2, u3, u4, u5, u6, u7, u8⟩ := st_cells hA4'
        cases p4 with
        | false =>
          go_wp2_with fail
          go_ret
          exact ⟨by rw [hR.out]; rfl, hw4⟩
        | true =>
          go_wp2_with fail
          refine (H5.out _ hw4).mono ?_
          rintro r w5 ⟨rfl, hb5⟩
          have hw5 := hw4.trans (hb5.mono hw4.size)
          clear hA4 hA4' hw4 hb5 q0 q1 q2 q3 q4 q5 q6 q7 q8 u0 u1 u2 u3 u4 u5 u6 u7 u8
          go_wp2_with fail
          go_ret
          exact ⟨by rw [hR.out]; rfl, hw5⟩
    · have hs : ¬ nm.toList = nm'.toList := by assumption
      rw [toList_bytes, toList_bytes] at hs
      have hs' : decide (nm.data.toList = nm'.data.toList) = false := decide_eq_false hs
      rw [hs', Bool.false_and] at hR
      clear hs hs'
      go_ret
      exact ⟨by rw [hR.out]; rfl, hbw⟩
  · have e0 : (k == k') = false := by rw [beq_eq_false_iff_ne]; exact hk
    have hd : decide (k = k') = false := by simpa using hk
    rw [hd, Bool.false_and] at hR
    clear hk hd
    go_wp2_with fail
    go_ret
    exact ⟨by rw [hR.out]; rfl, hbw⟩

theorem sameStmt_any (B : Nat) (N : Nat) : ∀ x : ST, SizeOf.sizeOf x < N → SameSW B x := by
  induction N with
  | zero => intro x h; omega
  | succ N ih =>
    rintro ⟨k, nm, ⟨op, t, b, enm, ea, ec, eks⟩, a1, c1, b1, a2, c2, b2⟩ hN ⟨k', nm', ⟨op', t', b', enm', ea', ec', eks'⟩, a1', c1', b1', a2', c2', b2'⟩ w hx hy hBw
    have hS1 : ∀ s ∈ b1, SameSW B s := fun s hs => ih s (by have := ST.sz1 (k := k) (nm := nm) (e := .mk op t b enm ea ec eks) (a1 := a1) (a2 := a2) (c1 := c1) (c2 := c2) (els := b2) hs; omega)
    have hS2 : ∀ s ∈ b2, SameSW B s := fun s hs => ih s (by have := ST.sz2 (k := k) (nm := nm) (e := .mk op t b enm ea ec eks) (a1 := a1) (a2 := a2) (c1 := c1) (c2 := c2) (body := b1) hs; omega)
    unfold ST.In at hx hy
    obtain ⟨_, xe, x1, x2⟩ := hx
    obtain ⟨_, ye, y1, y2⟩ := hy
    have hO : ∀ w', Below w.heap.size w w' → Old B w w' ∧ B ≤ w'.heap.size := fun w' h => ⟨Old.of_below h hBw, by have := h.size; omega⟩
    have := sameStmt_at k k' nm nm' op t b enm ea eks.length ec (.slice a1 b1.length c1) (.slice a2 b2.length c2) op' t' b' enm' ea' eks'.length ec' (.slice a1' b1'.length c1') (.slice a2' b2'.length c2') _ _ _ w
      (fun w' h => sameExpr_any B _ (.mk op t b enm ea ec eks) (Nat.lt_succ_self _) (.mk op' t' b' enm' ea' ec' eks') w' (xe.old (hO w' h).1) (ye.old (hO w' h).1) (hO w' h).2)
      (fun w' h => equalS_of B b1 b1' hS1 a1 a1' c1 c1' w' (RowS.old x1 (hO w' h).1) (RowS.old y1 (hO w' h).1) (hO w' h).2)
      (fun w' h => equalS_of B b2 b2' hS2 a2 a2' c2 c2' w' (RowS.old x2 (hO w' h).1) (RowS.old y2 (hO w' h).1) (hO w' h).2)
    refine this.mono ?_
    rintro r w' ⟨rfl, hb⟩
    refine ⟨?_, hb⟩
    show _ = Ending.returned (.bool (samS (.mk k nm.data.toList _ (ST.sts b1) (ST.sts b2)) (.mk k' nm'.data.toList _ (ST.sts b1') (ST.sts b2'))))
    rw [samS, ST.sts_eq, ST.sts_eq, ST.sts_eq, ST.sts_eq]

end Go.Proofs.YtcmahiphfpgadaaGreatDoor

/- Variables and names are told apart. -/
namespace Go.Proofs.YtcmahiphfpgadaaGreatDoor
open Go.RowKit
set_option linter.unusedVariables false

def samN (a b : List UInt8) : Bool := decide (a = b)

theorem eqV (nm : ByteArray) (t b : Nat) (nm' : ByteArray) (t' b' : Nat) (u : World) : (Op.equalIn 10000 56 (.agg #[.string nm, .int .u8 (t : Int), .int .u64 (b : Int)]) (.agg #[.string nm', .int .u8 (t' : Int), .int .u64 (b' : Int)])).run Tryz.prog u = .ok (samV (VT.vr ⟨nm, t, b⟩) (VT.vr ⟨nm', t', b'⟩)) u := by
  unfold samV VT.vr
  by_cases h0 : nm.toList = nm'.toList
  · have e0 : (nm.toList == nm'.toList) = true := by rw [beq_iff_eq]; exact h0
    have f0 : nm.data.toList = nm'.data.toList := by rw [toList_bytes, toList_bytes] at h0; exact h0
    by_cases h1 : t = t'
    · subst h1
      by_cases h2 : b = b'
      · subst h2
        go_simp
      · have e2 : ((b : Int) == (b' : Int)) = false := by rw [beq_eq_false_iff_ne]; omega
        go_simp
    · have e1 : ((t : Int) == (t' : Int)) = false := by rw [beq_eq_false_iff_ne]; omega
      go_simp
  · have e0 : (nm.toList == nm'.toList) = false := by rw [beq_eq_false_iff_ne]; exact h0
    have f0 : ¬ nm.data.toList = nm'.data.toList := by rw [toList_bytes, toList_bytes] at h0; exact h0
    go_simp

set_option maxRecDepth 100000 in
set_option maxHeartbeats 3200000 in
theorem equalN_any (B : Nat) (xs ys : List ByteArray) (a1 a2 : Option Addr) (c1 c2 : Nat) (w : World) (h1 : RowN B w a1 c1 xs) (h2 : RowN B w a2 c2 ys) (hBw : B ≤ w.heap.size) :
    Calls Tryz.prog 51 #[.slice a1 xs.length c1, .slice a2 ys.length c2] w fun r w' => r = .returned (.bool (eqL samN (xs.map (fun s : ByteArray => s.data.toList)) (ys.map (fun s : ByteArray => s.data.toList)))) ∧ Below w.heap.size w w' := by
  obtain ⟨R, hR⟩ : ∃ R, Hid (R = eqL samN (xs.map (fun s : ByteArray => s.data.toList)) (ys.map (fun s : ByteArray => s.data.toList))) := ⟨_, (rfl : _ = eqL samN _ _)⟩
  rw [← hR.out]
  obtain ⟨n, hn⟩ : ∃ n, Hid (n = xs.length) := ⟨_, (rfl : xs.length = _)⟩
  obtain ⟨n2, hn2⟩ : ∃ n, Hid (n = ys.length) := ⟨_, (rfl : ys.length = _)⟩
  have hl1 := h1.1
  have hl2 := h2.1
  have hk1 := h1.2.1
  have hk2 := h2.2.1
  rw [← hn.out] at hl1 hk1 ⊢
  rw [← hn2.out] at hl2 hk2 ⊢
  have HR : Hid (RowN B w a1 c1 xs ∧ RowN B w a2 c2 ys) := ⟨h1, h2⟩
  clear h1 h2
  by_cases hnn : n = n2
  · subst hnn
    go_enter Tryz.func51, Tryz.ntmps51
    go_wp2_with fail
    go_loopw [13] (fun j wr => ∃ i : Nat, j = .int .i64 (i : Int) ∧ i ≤ n ∧ Hid (Below w.heap.size w wr ∧ ∀ (q : Nat) (x y : List UInt8), q < i → (xs.map (fun s : ByteArray => s.data.toList))[q]? = some x → (ys.map (fun s : ByteArray => s.data.toList))[q]? = some y → samN x y = true)) (fun j _ => n - (intOf j).toNat)
    case atStart => exact ⟨0, rfl, by omega, Below.refl _ _, fun q x y hq => by omega⟩
    case round =>
      obtain ⟨i, rfl, hi, hX⟩ := hrel
      by_cases hc : i < n
      · obtain ⟨x, hx⟩ : ∃ k, xs[i]? = some k := ⟨xs[i]'(by rw [← hn.out]; exact hc), by rw [List.getElem?_eq_getElem]⟩
        obtain ⟨y, hy⟩ : ∃ k, ys[i]? = some k := ⟨ys[i]'(by rw [← hn2.out]; exact hc), by rw [List.getElem?_eq_getElem]⟩
        obtain ⟨hbw, hall⟩ := hX.out
        have hold : Old B w wr := Old.of_below hbw hBw
        obtain ⟨g1, o1, rfl, hg1, hr1⟩ := (HR.out.1.old hold).at i x hx
        obtain ⟨g2, o2, rfl, hg2, hr2⟩ := (HR.out.2.old hold).at i y hy
        have HA : Hid (∀ (q : Nat) (x y : List UInt8), q < i → (xs.map (fun s : ByteArray => s.data.toList))[q]? = some x → (ys.map (fun s : ByteArray => s.data.toList))[q]? = some y → samN x y = true) := hall
        have HXY : Hid ((xs.map (fun s : ByteArray => s.data.toList))[i]? = some ((fun s : ByteArray => s.data.toList) x) ∧ (ys.map (fun s : ByteArray => s.data.toList))[i]? = some ((fun s : ByteArray => s.data.toList) y)) := ⟨by rw [List.getElem?_map, hx]; rfl, by rw [List.getElem?_map, hy]; rfl⟩
        clear hX hold hall HR hx hy
        cases hM : samN ((fun s : ByteArray => s.data.toList) x) ((fun s : ByteArray => s.data.toList) y) with
        | false =>
          have hRf : R = false := by
            rw [hR.out, Bool.eq_false_iff]
            intro h
            have := ((eqL_iff _ _ _).1 h).2 i _ _ HXY.out.1 HXY.out.2
            rw [hM] at this
            cases this
          have hs : (x.toList == y.toList) = false := by
            rw [toList_bytes, toList_bytes, beq_eq_false_iff_ne]
            exact of_decide_eq_false hM
          clear hM
          go_wp2_with fail
          go_quiet (fail)
          go_wp2_with fail
          go_ret
          exact ⟨by rw [hRf]; rfl, below_drN hbw _⟩
        | true =>
          have HM : Hid (samN ((fun s : ByteArray => s.data.toList) x) ((fun s : ByteArray => s.data.toList) y) = true) := hM
          have hs : (x.toList == y.toList) = true := by
            rw [toList_bytes, toList_bytes, beq_iff_eq]
            exact of_decide_eq_true hM
          clear hM
          go_wp2_with fail
          go_quiet (fail)
          go_wp2_with fail
          go_roundw
          case rel =>
            refine ⟨i + 1, by go_num, by omega, below_drN hbw _, fun q u v hq hu hv => ?_⟩
            by_cases hqi : q = i
            · subst hqi
              rw [HXY.out.1] at hu
              rw [HXY.out.2] at hv
              cases hu
              cases hv
              exact HM.out
            · exact HA.out q u v (by omega) hu hv
          case measure => simp [intOf]; omega
      · have hin : i = n := by omega
        obtain ⟨hbw, hall⟩ := hX.out
        have hRt : R = true := by
          rw [hR.out, eqL_iff, List.length_map, List.length_map, ← hn.out, ← hn2.out]
          refine ⟨rfl, fun q u v hu hv => hall q u v ?_ hu hv⟩
          have := (List.getElem?_eq_some_iff.1 hu).1
          rw [List.length_map, ← hn.out] at this
          omega
        clear hX hall hin HR
        go_wp2
        go_ret
        exact ⟨by rw [hRt]; rfl, hbw⟩
  · have hne : ((n : Int) == (n2 : Int)) = false := by rw [beq_eq_false_iff_ne]; omega
    have hRf : R = false := by
      rw [hR.out, Bool.eq_false_iff]
      intro h
      have := (eqL_iff _ _ _).1 h
      rw [List.length_map, List.length_map, ← hn.out, ← hn2.out] at this
      exact hnn this.1
    clear hnn
    go_enter Tryz.func51, Tryz.ntmps51
    go_wp2_with fail
    go_ret
    exact ⟨by rw [hRf]; rfl, Below.refl _ _⟩

set_option maxRecDepth 100000 in
set_option maxHeartbeats 3200000 in
theorem equalV_any (B : Nat) (xs ys : List VT) (a1 a2 : Option Addr) (c1 c2 : Nat) (w : World) (h1 : RowV B w a1 c1 xs) (h2 : RowV B w a2 c2 ys) (hBw : B ≤ w.heap.size) :
    Calls Tryz.prog 50 #[.slice a1 xs.length c1, .slice a2 ys.length c2] w fun r w' => r = .returned (.bool (eqL samV (xs.map VT.vr) (ys.map VT.vr))) ∧ Below w.heap.size w w' := by
  obtain ⟨R, hR⟩ : ∃ R, Hid (R = eqL samV (xs.map VT.vr) (ys.map VT.vr)) := ⟨_, (rfl : _ = eqL samV _ _)⟩
  rw [← hR.out]
  obtain ⟨n, hn⟩ : ∃ n, Hid (n = xs.length) := ⟨_, (rfl : xs.length = _)⟩
  obtain ⟨n2, hn2⟩ : ∃ n, Hid (n = ys.length) := ⟨_, (rfl : ys.length = _)⟩
  have hl1 := h1.1
  have hl2 := h2.1
  have hk1 := h1.2.1
  have hk2 := h2.2.1
  rw [← hn.out] at hl1 hk1 ⊢
  rw [← hn2.out] at hl2 hk2 ⊢
  have HR : Hid (RowV B w a1 c1 xs ∧ RowV B w a2 c2 ys) := ⟨h1, h2⟩
  clear h1 h2
  by_cases hnn : n = n2
  · subst hnn
    go_enter Tryz.func50, Tryz.ntmps50
    go_wp2_with fail
    go_loopw [13] (fun j wr => ∃ i : Nat, j = .int .i64 (i : Int) ∧ i ≤ n ∧ Hid (Below w.heap.size w wr ∧ ∀ (q : Nat) (x y : Vr), q < i → (xs.map VT.vr)[q]? = some x → (ys.map VT.vr)[q]? = some y → samV x y = true)) (fun j _ => n - (intOf j).toNat)
    case atStart => exact ⟨0, rfl, by omega, Below.refl _ _, fun q x y hq => by omega⟩
    case round =>
      obtain ⟨i, rfl, hi, hX⟩ := hrel
      by_cases hc : i < n
      · obtain ⟨x, hx⟩ : ∃ k, xs[i]? = some k := ⟨xs[i]'(by rw [← hn.out]; exact hc), by rw [List.getElem?_eq_getElem]⟩
        obtain ⟨y, hy⟩ : ∃ k, ys[i]? = some k := ⟨ys[i]'(by rw [← hn2.out]; exact hc), by rw [List.getElem?_eq_getElem]⟩
        obtain ⟨hbw, hall⟩ := hX.out
        have hold : Old B w wr := Old.of_below hbw hBw
        obtain ⟨g1, o1, rfl, hg1, hr1, hi1⟩ := (HR.out.1.old hold).at i x hx
        obtain ⟨g2, o2, rfl, hg2, hr2, hi2⟩ := (HR.out.2.old hold).at i y hy
        obtain ⟨nm, t, b⟩ := x
        obtain ⟨nm', t', b'⟩ := y
        have x0 : wr.cell? ⟨g1, o1 + i * 3, none⟩ = some (.string nm) := by have := hr1 0 _ rfl; simpa using this
        have x1 : wr.cell? ⟨g1, o1 + i * 3 + 1, none⟩ = some (.int .u8 (t : Int)) := hr1 1 _ rfl
        have x2 : wr.cell? ⟨g1, o1 + i * 3 + 2, none⟩ = some (.int .u64 (b : Int)) := hr1 2 _ rfl
        have y0 : wr.cell? ⟨g2, o2 + i * 3, none⟩ = some (.string nm') := by have := hr2 0 _ rfl; simpa using this
        have y1 : wr.cell? ⟨g2, o2 + i * 3 + 1, none⟩ = some (.int .u8 (t' : Int)) := hr2 1 _ rfl
        have y2 : wr.cell? ⟨g2, o2 + i * 3 + 2, none⟩ = some (.int .u64 (b' : Int)) := hr2 2 _ rfl
        have hq := eqV nm t b nm' t' b'
        clear hr1 hr2 hi1 hi2
        have HA : Hid (∀ (q : Nat) (x y : Vr), q < i → (xs.map VT.vr)[q]? = some x → (ys.map VT.vr)[q]? = some y → samV x y = true) := hall
        have HXY : Hid ((xs.map VT.vr)[i]? = some (VT.vr ⟨nm, t, b⟩) ∧ (ys.map VT.vr)[i]? = some (VT.vr ⟨nm', t', b'⟩)) := ⟨by rw [List.getElem?_map, hx]; rfl, by rw [List.getElem?_map, hy]; rfl⟩
        clear hX hold hall HR hx hy
        cases hM : samV (VT.vr ⟨nm, t, b⟩) (VT.vr ⟨nm', t', b'⟩) with
        | false =>
          have hRf : R = false := by
            rw [hR.out, Bool.eq_false_iff]
            intro h
            have := ((eqL_iff _ _ _).1 h).2 i _ _ HXY.out.1 HXY.out.2
            rw [hM] at this
            cases this
          have hq' : ∀ u, (Op.equalIn 10000 56 (.agg #[.string nm, .int .u8 (t : Int), .int .u64 (b : Int)]) (.agg #[.string nm', .int .u8 (t' : Int), .int .u64 (b' : Int)])).run Tryz.prog u = .ok false u := fun u => by rw [hq]; exact congrArg (fun z => Result.ok z u) hM
          clear hq
          clear hM
          go_wp2_with fail
          go_quiet (fail)
          go_wp2_with fail
          go_ret
          exact ⟨by rw [hRf]; rfl, below_drN hbw _⟩
        | true =>
          have HM : Hid (samV (VT.vr ⟨nm, t, b⟩) (VT.vr ⟨nm', t', b'⟩) = true) := hM
          have hq' : ∀ u, (Op.equalIn 10000 56 (.agg #[.string nm, .int .u8 (t : Int), .int .u64 (b : Int)]) (.agg #[.string nm', .int .u8 (t' : Int), .int .u64 (b' : Int)])).run Tryz.prog u = .ok true u := fun u => by rw [hq]; exact congrArg (fun z => Result.ok z u) hM
          clear hq
          clear hM
          go_wp2_with fail
          go_quiet (fail)
          go_wp2_with fail
          go_roundw
          case rel =>
            refine ⟨i + 1, by go_num, by omega, below_drN hbw _, fun q u v hq hu hv => ?_⟩
            by_cases hqi : q = i
            · subst hqi
              rw [HXY.out.1] at hu
              rw [HXY.out.2] at hv
              cases hu
              cases hv
              exact HM.out
            · exact HA.out q u v (by omega) hu hv
          case measure => simp [intOf]; omega
      · have hin : i = n := by omega
        obtain ⟨hbw, hall⟩ := hX.out
        have hRt : R = true := by
          rw [hR.out, eqL_iff, List.length_map, List.length_map, ← hn.out, ← hn2.out]
          refine ⟨rfl, fun q u v hu hv => hall q u v ?_ hu hv⟩
          have := (List.getElem?_eq_some_iff.1 hu).1
          rw [List.length_map, ← hn.out] at this
          omega
        clear hX hall hin HR
        go_wp2
        go_ret
        exact ⟨by rw [hRt]; rfl, hbw⟩
  · have hne : ((n : Int) == (n2 : Int)) = false := by rw [beq_eq_false_iff_ne]; omega
    have hRf : R = false := by
      rw [hR.out, Bool.eq_false_iff]
      intro h
      have := (eqL_iff _ _ _).1 h
      rw [List.length_map, List.length_map, ← hn.out, ← hn2.out] at this
      exact hnn this.1
    clear hnn
    go_enter Tryz.func50, Tryz.ntmps50
    go_wp2_with fail
    go_ret
    exact ⟨by rw [hRf]; rfl, Below.refl _ _⟩
end Go.Proofs.YtcmahiphfpgadaaGreatDoor

/- tree.Same. -/
namespace Go.Proofs.YtcmahiphfpgadaaGreatDoor
open Go.RowKit
set_option linter.unusedVariables false

set_option maxRecDepth 100000 in
set_option maxHeartbeats 1600000 in
theorem sameThread_at (nm nm' : ByteArray) (s1 s2 s1' s2' : Value) (p2 p3 : Bool) (w : World) (h2 : AskB w 50 #[s1, s1'] p2) (h3 : AskB w 89 #[s2, s2', .func (.func 90) #[] #[]] p3) :
    Calls Tryz.prog 53 #[.agg [.string nm, s1, s2].toArray, .agg [.string nm', s1', s2'].toArray] w fun r w' => r = .returned (.bool (decide (nm.data.toList = nm'.data.toList) && (p2 && p3))) ∧ Below w.heap.size w w' := by
  obtain ⟨R, hR⟩ : ∃ R, Hid (R = (decide (nm.data.toList = nm'.data.toList) && (p2 && p3))) := ⟨_, (rfl : _ = (decide (nm.data.toList = nm'.data.toList) && (p2 && p3)))⟩
  rw [← hR.out]
  have H2 : Hid (AskB w 50 #[s1, s1'] p2) := h2
  have H3 : Hid (AskB w 89 #[s2, s2', .func (.func 90) #[] #[]] p3) := h3
  clear h2 h3
  go_enter Tryz.func53, Tryz.ntmps53
  go_wp2_with (first
    | ((with_reducible show wpList _ _ _ _ _ _); refine wpList_box_at rfl 59 (.tmp 0) rfl [.string nm, s1, s2] rfl ?_; intro w1 hA1 hb1 hs1; clear hs1)
    | ((with_reducible show wpList _ _ _ _ _ _); refine wpList_box_at rfl 59 (.tmp 1) rfl [.string nm', s1', s2'] rfl ?_; intro w2 hA2 hb2 hs2; clear hs2; refine Hid.out ?_))
  refine hidU ?_
  have hA12 := hA1.below hb2
  have hbw : Below w.heap.size w w2 := hb1.trans (hb2.mono hb1.size)
  clear hA1 hb1 hb2
  obtain ⟨q0, q1, q2⟩ := th_cells hA12
  obtain ⟨u0, u1, u2⟩ := th_cells hA2
  go_wp2_with fail
  · have hs : nm.toList = nm'.toList := by assumption
    rw [toList_bytes, toList_bytes] at hs
    have hs' : decide (nm.data.toList = nm'.data.toList) = true := decide_eq_true hs
    rw [hs', Bool.true_and] at hR
    clear hs hs'
    refine (H2.out _ hbw).mono ?_
    rintro r w3 ⟨rfl, hb3⟩
    have hA3 := hA12.below hb3
    have hA3' := hA2.below hb3
    have hw3 := hbw.trans (hb3.mono hbw.size)
    clear hA12 hA2 hbw hb3 q0 q1 q2 u0 u1 u2
    obtain ⟨q0, q1, q2⟩ := th_cells hA3
    obtain ⟨u0, u1, u2⟩ := th_cells hA3'
    cases p2 with
    | false =>
      go_wp2_with fail
      go_ret
      exact ⟨by rw [hR.out]; rfl, hw3⟩
    | true =>
      go_wp2_with fail
      refine (H3.out _ hw3).mono ?_
      rintro r w4 ⟨rfl, hb4⟩
      have hw4 := hw3.trans (hb4.mono hw3.size)
      clear hA3 hA3' hw3 hb4 q0 q1 q2 u0 u1 u2
      go_wp2_with fail
      go_ret
      exact ⟨by rw [hR.out]; rfl, hw4⟩
  · have hs : ¬ nm.toList = nm'.toList := by assumption
    rw [toList_bytes, toList_bytes] at hs
    have hs' : decide (nm.data.toList = nm'.data.toList) = false := decide_eq_false hs
    rw [hs', Bool.false_and] at hR
    clear hs hs'
    go_ret
    exact ⟨by rw [hR.out]; rfl, hbw⟩

theorem sameThread_any (B : Nat) (x : TT) : SameTW B x := by
  obtain ⟨nm, a1, c1, ls, a2, c2, bs⟩ := x
  rintro ⟨nm', a1', c1', ls', a2', c2', bs'⟩ w hx hy hBw
  have hO : ∀ w', Below w.heap.size w w' → Old B w w' ∧ B ≤ w'.heap.size := fun w' h => ⟨Old.of_below h hBw, by have := h.size; omega⟩
  exact sameThread_at nm nm' (.slice a1 ls.length c1) (.slice a2 bs.length c2) (.slice a1' ls'.length c1') (.slice a2' bs'.length c2') _ _ w
    (fun w' h => equalV_any B ls ls' a1 a1' c1 c1' w' (hx.1.old (hO w' h).1) (hy.1.old (hO w' h).1) (hO w' h).2)
    (fun w' h => equalS_of B bs bs' (fun s _ => sameStmt_any B _ s (Nat.lt_succ_self _)) a2 a2' c2 c2' w' (hx.2.old (hO w' h).1) (hy.2.old (hO w' h).1) (hO w' h).2)

/-- Whether two programs are the same. -/
def samP (p q : Pg) : Bool := eqL samV p.shared q.shared && (eqL samN p.mutexes q.mutexes && eqL samT p.threads q.threads)

set_option maxRecDepth 100000 in
set_option maxHeartbeats 1600000 in
theorem same_at (s1 s2 s3 s1' s2' s3' : Value) (p1 p2 p3 : Bool) (w : World) (h1 : AskB w 50 #[s1, s1'] p1) (h2 : AskB w 51 #[s2, s2'] p2) (h3 : AskB w 52 #[s3, s3', .func (.func 53) #[] #[]] p3) :
    Calls Tryz.prog 19 #[.agg [s1, s2, s3].toArray, .agg [s1', s2', s3'].toArray] w fun r w' => r = .returned (.bool (p1 && (p2 && p3))) ∧ Below w.heap.size w w' := by
  obtain ⟨R, hR⟩ : ∃ R, Hid (R = (p1 && (p2 && p3))) := ⟨_, (rfl : _ = (p1 && (p2 && p3)))⟩
  rw [← hR.out]
  have H1 : Hid (AskB w 50 #[s1, s1'] p1) := h1
  have H2 : Hid (AskB w 51 #[s2, s2'] p2) := h2
  have H3 : Hid (AskB w 52 #[s3, s3', .func (.func 53) #[] #[]] p3) := h3
  clear h1 h2 h3
  go_enter Tryz.func19, Tryz.ntmps19
  go_wp2_with (first
    | ((with_reducible show wpList _ _ _ _ _ _); refine wpList_box_at rfl 26 (.tmp 0) rfl [s1, s2, s3] rfl ?_; intro w1 hA1 hb1 hs1; clear hs1)
    | ((with_reducible show wpList _ _ _ _ _ _); refine wpList_box_at rfl 26 (.tmp 1) rfl [s1', s2', s3'] rfl ?_; intro w2 hA2 hb2 hs2; clear hs2; refine Hid.out ?_))
  refine hidU ?_
  have hA12 := hA1.below hb2
  have hbw : Below w.heap.size w w2 := hb1.trans (hb2.mono hb1.size)
  clear hA1 hb1 hb2
  obtain ⟨q0, q1, q2⟩ := pg_cells hA12
  obtain ⟨u0, u1, u2⟩ := pg_cells hA2
  go_wp2_with fail
  refine (H1.out _ hbw).mono ?_
  rintro r w3 ⟨rfl, hb3⟩
  have hA3 := hA12.below hb3
  have hA3' := hA2.below hb3
  have hw3 := hbw.trans (hb3.mono hbw.size)
  clear hA12 hA2 hbw hb3 q0 q1 q2 u0 u1 u2
  obtain ⟨q0, q1, q2⟩ := pg_cells hA3
  obtain ⟨u0, u1, u2⟩ := pg_cells hA3'
  cases p1 with
  | false =>
    go_wp2_with fail
    go_ret
    exact ⟨by rw [hR.out]; rfl, hw3⟩
  | true =>
    go_wp2_with fail
    refine (H2.out _ hw3).mono ?_
    rintro r w4 ⟨rfl, hb4⟩
    have hA4 := hA3.below hb4
    have hA4' := hA3'.below hb4
    have hw4 := hw3.trans (hb4.mono hw3.size)
    clear hA3 hA3' hw3 hb4 q0 q1 q2 u0 u1 u2
    obtain ⟨q0, q1, q2⟩ := pg_cells hA4
    obtain ⟨u0, u1, u2⟩ := pg_cells hA4'
    cases p2 with
    | false =>
      go_wp2_with fail
      go_ret
      exact ⟨by rw [hR.out]; rfl, hw4⟩
    | true =>
      go_wp2_with fail
      refine (H3.out _ hw4).mono ?_
      rintro r w5 ⟨rfl, hb5⟩
      have hw5 := hw4.trans (hb5.mono hw4.size)
      clear hA4 hA4' hw4 hb5 q0 q1 q2 u0 u1 u2
      go_wp2_with fail
      go_ret
      exact ⟨by rw [hR.out]; rfl, hw5⟩

theorem same_any (B : Nat) (x y : PT) (w : World) (hx : x.In B w) (hy : y.In B w) (hBw : B ≤ w.heap.size) :
    Calls Tryz.prog 19 #[.agg x.cells.toArray, .agg y.cells.toArray] w fun r w' => r = .returned (.bool (samP x.pg y.pg)) ∧ Below w.heap.size w w' := by
  have hO : ∀ w', Below w.heap.size w w' → Old B w w' ∧ B ≤ w'.heap.size := fun w' h => ⟨Old.of_below h hBw, by have := h.size; omega⟩
  exact same_at (.slice x.a1 x.shared.length x.c1) (.slice x.a2 x.mutexes.length x.c2) (.slice x.a3 x.threads.length x.c3) (.slice y.a1 y.shared.length y.c1) (.slice y.a2 y.mutexes.length y.c2) (.slice y.a3 y.threads.length y.c3) _ _ _ w
    (fun w' h => equalV_any B x.shared y.shared x.a1 y.a1 x.c1 y.c1 w' (hx.1.old (hO w' h).1) (hy.1.old (hO w' h).1) (hO w' h).2)
    (fun w' h => equalN_any B x.mutexes y.mutexes x.a2 y.a2 x.c2 y.c2 w' (hx.2.1.old (hO w' h).1) (hy.2.1.old (hO w' h).1) (hO w' h).2)
    (fun w' h => equalT_of B x.threads y.threads (fun t _ => sameThread_any B t) x.a3 y.a3 x.c3 y.c3 w' (hx.2.2.old (hO w' h).1) (hy.2.2.old (hO w' h).1) (hO w' h).2)

end Go.Proofs.YtcmahiphfpgadaaGreatDoor
