/- Rows of elements of any kind; what may be changed; objects that stay as they are while others change. -/
import Derived.Test.YtbehmclligkbhaaRgS
import Derived.Test.YtbehmclligkbhaaKept
import Derived.Laws.AppendOwnNone
import Derived.Great.BuildSlice
namespace Go.Proofs.Ytbehmclligkbhaa
open Go.RowKit
set_option linter.unusedVariables false

theorem hidU {p : Prop} (h : p) : Hid p := h
/-- All blocks stand but those of K. -/
structure Chg (K : Nat → Prop) (w w' : World) : Prop where
  os : w'.os = w.os
  tape : w'.tape = w.tape
  output : w'.output = w.output
  size : w.heap.size ≤ w'.heap.size
  block : ∀ k, k < w.heap.size → ¬ K k → w'.heap[k]? = w.heap[k]?
section
variable {K K' : Nat → Prop} {a b c w w' : World} {B g : Nat}
theorem Chg.refl (K : Nat → Prop) (w : World) : Chg K w w := ⟨rfl, rfl, rfl, Nat.le_refl _, fun _ _ _ => rfl⟩
theorem Chg.trans (h : Chg K a b) (k : Chg K b c) : Chg K a c :=
  ⟨k.os.trans h.os, k.tape.trans h.tape, k.output.trans h.output, Nat.le_trans h.size k.size, fun i hi hn => (k.block i (Nat.lt_of_lt_of_le hi h.size) hn).trans (h.block i hi hn)⟩
/-- What is changed later may be new. -/
theorem Chg.more (h : Chg K a b) (k : Chg K' b c) (hK : ∀ i, i < a.heap.size → K' i → K i) : Chg K a c :=
  ⟨k.os.trans h.os, k.tape.trans h.tape, k.output.trans h.output, Nat.le_trans h.size k.size, fun i hi hn => (k.block i (Nat.lt_of_lt_of_le hi h.size) fun q => hn (hK i hi q)).trans (h.block i hi hn)⟩
theorem Chg.mono (h : Chg K a b) (hK : ∀ i, i < a.heap.size → K i → K' i) : Chg K' a b := ⟨h.os, h.tape, h.output, h.size, fun i hi hn => h.block i hi fun q => hn (hK i hi q)⟩
theorem Chg.of_below (h : Below w.heap.size w w') : Chg K w w' := ⟨h.os, h.tape, h.output, h.size, fun k hk _ => h.block k hk⟩
theorem Chg.of_but (h : But g w w') (hg : K g) : Chg K w w' := ⟨h.os, h.tape, h.output, h.size, fun k hk hn => h.block k hk fun e => hn (e ▸ hg)⟩
theorem Chg.of_grown {r : Option Nat} (h : w.grownBy w' r) (hg : ∀ k, r = some k → K k) : Chg K w w' := ⟨h.os, h.tape, h.output, h.size, fun k hk hn => h.block k hk fun e => hn (hg k e.symm)⟩
theorem Chg.below (h : Chg K w w') (hB : B ≤ w.heap.size) (hK : ∀ k, K k → B ≤ k) : Below B w w' :=
  ⟨h.os, h.tape, h.output, h.size, fun k hk => h.block k (by omega) fun q => by have := hK k q; omega⟩
theorem Chg.drewN (h : Chg K a w) (n : Nat) : Chg K a (w.drewN n) := ⟨h.os, h.tape, h.output, h.size, h.block⟩
end
theorem heapLt {w : World} {g : Nat} {o : Obj} (h : w.heap[g]? = some o) : g < w.heap.size := (Array.getElem?_eq_some_iff.1 h).1
theorem At.ne {t t' : TypeId} {w : World} {g g' : Nat} {cs cs' : List Value} (h : At t w g cs) (h' : At t' w g' cs') (ht : t ≠ t') : g ≠ g' := by
  rintro rfl
  unfold At at h h'
  rw [h] at h'
  injection h' with h1
  injection h1 with h2 h3
  exact ht h3
theorem At.same {t : TypeId} {w w' : World} {g : Nat} {cs : List Value} (h : At t w g cs) (e : w'.heap[g]? = w.heap[g]?) : At t w' g cs := e.trans h
theorem Row.same {w w' : World} {a : Option Addr} {bs : List UInt8} (h : Row w a bs) (e : ∀ ad, a = some ad → w'.heap[ad.block]? = w.heap[ad.block]?) : Row w' a bs := by
  rcases h with h | ⟨b, off, rfl, hc⟩
  · exact .inl h
  · exact .inr ⟨b, off, rfl, fun j hj => by rw [World.cell?_of_block (w := w) (a := ⟨b, off + j, none⟩) (e ⟨b, off, none⟩ rfl)]; exact hc j hj⟩
theorem add_none (g o j : Nat) : (⟨g, o, none⟩ : Addr).add j = ⟨g, o + j, none⟩ := by unfold Addr.add; split <;> simp_all
/-- What an object reads and writes: W is written, F is read; each later state of it has no other blocks but new ones. -/
structure Moves (w : World) (W F : Nat → Prop) (w' : World) (W' F' : Nat → Prop) : Prop where
  chg : Chg W w w'
  wr : ∀ k, W' k → W k ∨ w.heap.size ≤ k
  rd : ∀ k, F' k → F k ∨ w.heap.size ≤ k
section
variable {w w1 w2 : World} {W F W1 F1 W2 F2 : Nat → Prop}
theorem Moves.refl (w : World) (W F : Nat → Prop) : Moves w W F w W F := ⟨Chg.refl _ _, fun _ h => .inl h, fun _ h => .inl h⟩
theorem Moves.of_below (h : Below w.heap.size w w1) : Moves w W F w1 W F := ⟨Chg.of_below h, fun _ h => .inl h, fun _ h => .inl h⟩
theorem Moves.trans (h : Moves w W F w1 W1 F1) (k : Moves w1 W1 F1 w2 W2 F2) : Moves w W F w2 W2 F2 :=
  ⟨h.chg.more k.chg fun i hi q => (h.wr i q).resolve_right (by omega),
   fun i q => (k.wr i q).elim (h.wr i) fun q => .inr (Nat.le_trans h.chg.size q),
   fun i q => (k.rd i q).elim (h.rd i) fun q => .inr (Nat.le_trans h.chg.size q)⟩
theorem Moves.more {w0 : World} (h : Moves w W F w1 W1 F1) (k : Below w1.heap.size w1 w2) : Moves w W F w2 W1 F1 := h.trans (.of_below k)
end
/-- Two objects of which neither writes what the other reads. -/
structure Apart (W F W' F' : Nat → Prop) : Prop where
  one : ∀ k, W k → F' k → False
  two : ∀ k, W' k → F k → False
theorem Apart.symm {W F W' F' : Nat → Prop} (h : Apart W F W' F') : Apart W' F' W F := ⟨h.two, h.one⟩
theorem Apart.moves {w w1 : World} {W F W1 F1 W' F' : Nat → Prop} (h : Apart W F W' F') (m : Moves w W F w1 W1 F1) (hF : ∀ k, F' k → k < w.heap.size) (hW : ∀ k, W' k → k < w.heap.size) : Apart W1 F1 W' F' :=
  ⟨fun k h1 h2 => (m.wr k h1).elim (fun q => h.one k q h2) fun q => by have := hF k h2; omega, fun k h1 h2 => (m.rd k h2).elim (fun q => h.two k h1 q) fun q => by have := hW k h1; omega⟩
/-- What another object moved is not what this one reads. -/
theorem Apart.stands {w w1 : World} {W F W1 F1 W' F' : Nat → Prop} (h : Apart W F W' F') (m : Moves w W F w1 W1 F1) (hF : ∀ k, F' k → k < w.heap.size) : ∀ k, F' k → w1.heap[k]? = w.heap[k]? :=
  fun k hk => m.chg.block k (hF k hk) fun q => h.one k q hk

/-- Elements of a row: the type of the row and of an element, the cells that one has. -/
structure El (α : Type) where
  T : TypeId
  E : TypeId
  n : Nat
  by_ : Nat
  z : Value
  cl : α → List Value
  len : ∀ x, (cl x).length = n
  one : ∀ x, ∀ v ∈ cl x, v.oneCell' = true
  und : Try.prog.underlying T = some (.slice E)
  info : (Try.prog.info? E).map (fun i => (i.zero, i.size, i.bytes)) = some (some z, n, by_)
  zs : z.cells.size = n
  pos : 0 < n
section
variable {α : Type} {e : El α} {w w' : World} {a : Option Addr} {xs ys : List α} {base : Nat} {v : Value}
def El.flat (e : El α) (xs : List α) : List Value := xs.flatMap e.cl
theorem flat_len (e : El α) : ∀ xs : List α, (e.flat xs).length = xs.length * e.n
  | [] => by simp [El.flat]
  | x :: xs => by
    have := flat_len e xs
    simp only [El.flat, List.flatMap_cons, List.length_append, List.length_cons] at this ⊢
    rw [this, e.len, Nat.add_mul, Nat.one_mul, Nat.add_comm]
theorem flat_app (e : El α) (xs ys : List α) : e.flat (xs ++ ys) = e.flat xs ++ e.flat ys := by simp [El.flat]
theorem flat_at (e : El α) : ∀ (xs : List α) (i : Nat) (x : α), xs[i]? = some x → ∀ j v, (e.cl x)[j]? = some v → (e.flat xs)[i * e.n + j]? = some v
  | [], _, _, h, _, _, _ => by simp at h
  | y :: xs, 0, x, h, j, v, hj => by
    simp at h
    subst h
    have := (List.getElem?_eq_some_iff.1 hj).1
    simp only [El.flat, List.flatMap_cons, Nat.zero_mul, Nat.zero_add]
    rw [List.getElem?_append_left this]
    exact hj
  | y :: xs, i + 1, x, h, j, v, hj => by
    have ih := flat_at e xs i x (by simpa using h) j v hj
    simp only [El.flat, List.flatMap_cons] at ih ⊢
    rw [List.getElem?_append_right (by rw [e.len, Nat.add_mul]; omega), e.len, show (i + 1) * e.n + j - e.n = i * e.n + j by rw [Nat.add_mul]; omega]
    exact ih
theorem flat_one (e : El α) (xs : List α) : ∀ v ∈ e.flat xs, v.oneCell' = true := by
  intro v hv
  obtain ⟨x, _, hx⟩ := List.mem_flatMap.1 hv
  exact e.one x v hx
/-- A row that is read. -/
def RowX (e : El α) (w : World) (a : Option Addr) (xs : List α) : Prop := xs = [] ∨ ∃ g o, a = some ⟨g, o, none⟩ ∧ w.rangeAt g o (e.flat xs)
theorem RowX.at (h : RowX e w a xs) {i : Nat} {x : α} (hx : xs[i]? = some x) : ∃ g o, a = some ⟨g, o, none⟩ ∧ w.rangeAt g (o + i * e.n) (e.cl x) := by
  rcases h with rfl | ⟨g, o, rfl, hr⟩
  · simp at hx
  · refine ⟨g, o, rfl, fun j v hj => ?_⟩
    rw [Nat.add_assoc]
    exact hr _ _ (flat_at e xs i x hx j v hj)
theorem RowX.same (h : RowX e w a xs) (k : ∀ ad, a = some ad → w'.heap[ad.block]? = w.heap[ad.block]?) : RowX e w' a xs := by
  rcases h with h | ⟨g, o, rfl, hr⟩
  · exact .inl h
  · exact .inr ⟨g, o, rfl, fun j v hj => by rw [World.cell?_of_block (w := w) (a := ⟨g, o + j, none⟩) (k ⟨g, o, none⟩ rfl)]; exact hr j v hj⟩
theorem RowX.below (h : RowX e w a xs) (hb : Below w.heap.size w w') : RowX e w' a xs := by
  rcases h with h | ⟨g, o, rfl, hr⟩
  · exact .inl h
  · exact .inr ⟨g, o, rfl, fun j v hj => by rw [hb.cell (lt_of_cell (hr j v hj))]; exact hr j v hj⟩
/-- A row of the call's own. -/
def OwnX (e : El α) (base : Nat) (w : World) (v : Value) (xs : List α) : Prop := w.ownsRow base e.E e.n v xs.length (e.flat xs)
theorem OwnX.nil (e : El α) (base : Nat) (w : World) : OwnX e base w (.slice none 0 0) [] := World.ownsRow_nil _ _ _ _
theorem OwnX.block (h : OwnX e base w v xs) : ∀ k, v.ownBlock = some k → base ≤ k ∧ k < w.heap.size ∧ ∃ cs, At e.E w k cs := by
  intro k hk
  obtain ⟨_, ⟨rfl, _⟩ | ⟨g, cap, cur, rfl, hg, hh, _⟩⟩ := h
  · simp [Value.ownBlock] at hk
  · simp [Value.ownBlock] at hk
    subst hk
    exact ⟨hg, heapLt hh, cur.toList, by unfold At; simpa using hh⟩
theorem OwnX.same (h : OwnX e base w v xs) (k : ∀ k, v.ownBlock = some k → w'.heap[k]? = w.heap[k]?) : OwnX e base w' v xs := by
  obtain ⟨h1, ⟨rfl, h0⟩ | ⟨g, cap, cur, rfl, hg, hh, hr⟩⟩ := h
  · exact ⟨h1, .inl ⟨rfl, h0⟩⟩
  · exact ⟨h1, .inr ⟨g, cap, cur, rfl, hg, (k g rfl).trans hh, hr⟩⟩
theorem OwnX.below (h : OwnX e base w v xs) (hb : Below w.heap.size w w') : OwnX e base w' v xs := h.same fun k hk => hb.block k (h.block k hk).2.1
theorem OwnX.less {b' : Nat} (h : OwnX e base w v xs) (hb : b' ≤ base) : OwnX e b' w v xs := by
  obtain ⟨h1, ⟨rfl, h0⟩ | ⟨g, cap, cur, rfl, hg, hr⟩⟩ := h
  · exact ⟨h1, .inl ⟨rfl, h0⟩⟩
  · exact ⟨h1, .inr ⟨g, cap, cur, rfl, Nat.le_trans hb hg, hr⟩⟩
theorem OwnX.row (h : OwnX e base w v xs) : ∃ a cap, v = .slice a xs.length cap ∧ xs.length ≤ cap ∧ cap ≤ maxLen ∧ (a = none → cap = 0) ∧ (∀ ad, a = some ad → v.ownBlock = some ad.block) ∧ RowX e w a xs := by
  obtain ⟨h1, ⟨rfl, h0⟩ | ⟨g, cap, cur, rfl, hg, hh, hc, hm, hs, ht⟩⟩ := h
  · have : xs = [] := List.length_eq_zero_iff.1 h0
    subst this
    exact ⟨none, 0, rfl, Nat.le_refl _, Nat.zero_le _, fun _ => rfl, fun ad h => (by cases h), .inl rfl⟩
  · refine ⟨_, cap, rfl, hc, hm, fun h => (by cases h), fun ad h => (by cases h; rfl), .inr ⟨g, 0, rfl, fun j v hj => ?_⟩⟩
    rw [← ht] at hj
    have hlt := (List.getElem?_eq_some_iff.1 hj).1
    rw [List.length_take] at hlt
    rw [List.getElem?_take_of_lt (by omega)] at hj
    simp only [World.cell?, hh, Nat.zero_add]
    simpa using hj
end
section
variable {α : Type} {e : El α} {o : Oper} {a : Act} {w : World} {K : Act → World → Prop} {Q : Exit → Act → World → Prop} {xs ys : List α}
theorem wp_appX (e : El α) (s x : Operand) (ho : o.op = .call { callee := .builtin .append, args := #[s, x], argTypes := #[e.T, e.T] }) (base : Nat) (v : Value) (b : Option Addr) (m c : Nat)
    (hs : a.eval s = v) (hx : a.eval x = .slice b m c) (hown : OwnX e base w v xs) (hm : ys.length = m) (hnil : b = none → c = 0) (hc : m ≤ c) (hrow : RowX e w b ys) (h63 : xs.length + m ≤ maxLen) (hl : (xs.length + m) * e.by_ ≤ 140737488355328) (hbase : base ≤ w.heap.size)
    (h : ∀ v' w', OwnX e base w' v' (xs ++ ys) → w.grownBy w' v.ownBlock → K (a.put o.dst v') w') : o.wp Try.prog a w K Q := by
  obtain ⟨i0, hi, hz0, hz1, hz2⟩ := info_parts e.info
  cases b with
  | none =>
    obtain rfl : c = 0 := hnil rfl
    obtain rfl : m = 0 := by omega
    have hf : ys = [] := List.length_eq_zero_iff.1 hm
    subst hf
    have := h v w (by rw [List.append_nil]; exact hown) ⟨rfl, rfl, rfl, Nat.le_refl _, fun _ _ _ => rfl⟩
    have hrun := run_append_owned_none (P := Try.prog) (w := w) base e.T o.type e.E i0 e.n e.und hi v xs.length (e.flat xs) hown
    unfold Oper.wp
    simp [execOp, ho, resolve, invoke, builtin, hs, hx, hrun, Result.andThen]
    exact this
  | some ad =>
    have hnews : ∀ j u, (e.flat ys)[j]? = some u → w.cell? (ad.add j) = some u := by
      intro j u hj
      rcases hrow with h0 | ⟨g, off, hb, hr⟩
      · rw [h0] at hj; simp [El.flat] at hj
      · cases hb
        rw [add_none]
        exact hr j u hj
    refine wp_append_own w s x e.T ho base e.E i0 _ e.n e.by_ e.und hi hz0 hz1 hz2 e.zs e.pos v xs.length (e.flat xs) hs hown ad m c (e.flat ys) hx (by rw [flat_len, hm]) hnews (flat_one e ys) h63 hl hbase ?_
    intro v' w' h1 h2 _
    refine h v' w' ?_ h2
    unfold OwnX
    rw [List.length_append, hm, flat_app]
    exact h1
theorem wpList_appX {ops : Array Oper} {rest : List Oper} (e : El α) (hgd : o.guard = none) (s x : Operand) (ho : o.op = .call { callee := .builtin .append, args := #[s, x], argTypes := #[e.T, e.T] }) (base : Nat) (v : Value) (b : Option Addr) (m c : Nat)
    (hs : a.eval s = v) (hx : a.eval x = .slice b m c) (hown : OwnX e base w v xs) (hm : ys.length = m) (hnil : b = none → c = 0) (hc : m ≤ c) (hrow : RowX e w b ys) (h63 : xs.length + m ≤ maxLen) (hl : (xs.length + m) * e.by_ ≤ 140737488355328) (hbase : base ≤ w.heap.size)
    (h : ∀ v' w', OwnX e base w' v' (xs ++ ys) → w.grownBy w' v.ownBlock → wpList Try.prog ops Q rest (a.put o.dst v') w') : wpList Try.prog ops Q (o :: rest) a w :=
  wpList_plain hgd fun _ hK => wp_appX e s x ho base v b m c hs hx hown hm hnil hc hrow h63 hl hbase fun v' w' h1 h2 => hK _ _ (h v' w' h1 h2)
end
theorem run_storeVar_cell {P : Program} (w : World) (b o : Nat) (ty : TypeId) (v : Value) (ht : w.there b o 1) (hi : (P.info? ty).map (·.size) = some 1) (hc : v.cells = #[v]) (h1 : v.oneCell' = true) :
    (storeVar ty ⟨b, o, none⟩ v).run P w = .ok () (w.setCell ⟨b, o, none⟩ v) := by
  have := run_storeCells_cells (P := P) b o [v] 0 w (fun j hj => by simpa using (ht j (by simpa using hj)).1) (fun j hj => by simpa using (ht j (by simpa using hj)).2) (fun u hu => by simp at hu; subst hu; exact h1)
  cases hq : P.info? ty with
  | none => simp [hq] at hi
  | some i =>
    have hs : i.size = 1 := by simp [hq] at hi; omega
    simp only [Nat.add_zero] at this
    simp [storeVar, sizeOf, typeInfo, hq, hc, hs, this, World.setCells]
section
variable {o : Oper} {a : Act} {w : World} {K : Act → World → Prop} {Q : Exit → Act → World → Prop}
theorem wp_store_one (ty : TypeId) (x y : Operand) (ho : o.op = .store ty x y)
    (g off : Nat) (v : Value) (hx : a.eval x = .pointer (some ⟨g, off, none⟩)) (hy : a.eval y = v)
    (t : TypeId) (old : List Value) (hg : At t w g old) (hold : off + 1 ≤ old.length) (hi : (Try.prog.info? ty).map (·.size) = some 1) (hc : v.cells = #[v]) (h1 : v.oneCell' = true)
    (h : ∀ w', At t w' g (old.set off v) → But g w w' → w'.heap.size = w.heap.size → K (a.put o.dst undef) w') : o.wp Try.prog a w K Q := by
  have := h _ (hg.set off v) ((But.refl g w).setCell off v) (by simp)
  unfold Oper.wp execOp
  simp only [ho, hx, hy, Instr.storeAt, Instr.sureAddr, Sem.run_bind, Sem.run_pure, Result.andThen_ok, run_storeVar_cell w g off ty v (hg.there off 1 hold) hi hc h1]
  exact this
theorem wpList_store1 {ops : Array Oper} {rest : List Oper} (hgd : o.guard = none) (ty : TypeId) (x y : Operand) (ho : o.op = .store ty x y)
    (g off : Nat) (v : Value) (hx : a.eval x = .pointer (some ⟨g, off, none⟩)) (hy : a.eval y = v)
    (t : TypeId) (old : List Value) (hg : At t w g old) (hold : off + 1 ≤ old.length) (hi : (Try.prog.info? ty).map (·.size) = some 1) (hc : v.cells = #[v]) (h1 : v.oneCell' = true)
    (h : ∀ w', At t w' g (old.set off v) → But g w w' → w'.heap.size = w.heap.size → wpList Try.prog ops Q rest (a.put o.dst undef) w') : wpList Try.prog ops Q (o :: rest) a w := by
  refine wpList_plain hgd fun K hK => ?_
  exact wp_store_one ty x y ho g off v hx hy t old hg hold hi hc h1 fun w' h1 h2 h3 => hK _ _ (h w' h1 h2 h3)
end
theorem i3 : (Try.prog.info? 3).map (·.size) = some 1 := by kernel_rfl
theorem i4 : (Try.prog.info? 4).map (·.size) = some 1 := by kernel_rfl
theorem i30 : (Try.prog.info? 22).map (·.size) = some 1 := by kernel_rfl
def eB : El UInt8 := ⟨22, 5, 1, 1, .int .u8 0, fun b => [B8 b], fun _ => rfl, fun x v hv => by simp at hv; subst hv; rfl, by kernel_rfl, by kernel_rfl, rfl, by decide⟩
theorem eB_flat (bs : List UInt8) : eB.flat bs = bs.map B8 := by
  induction bs with
  | nil => rfl
  | cons b bs ih => simp only [El.flat, List.flatMap_cons, List.map_cons] at ih ⊢; rw [ih]; rfl
theorem rowB {w : World} {a : Option Addr} {bs : List UInt8} : RowX eB w a bs ↔ Row w a bs := by
  constructor
  · rintro (h | ⟨g, o, rfl, hr⟩)
    · exact .inl h
    · refine .inr ⟨g, o, rfl, fun j hj => ?_⟩
      have := hr j (B8 (bs.getD j 0)) (by rw [eB_flat, List.getElem?_map, List.getElem?_eq_getElem hj]; simp [List.getD, List.getElem?_eq_getElem hj])
      exact this
  · rintro (h | ⟨g, o, rfl, hr⟩)
    · exact .inl h
    · refine .inr ⟨g, o, rfl, fun j v hj => ?_⟩
      rw [eB_flat, List.getElem?_map] at hj
      cases hb : bs[j]? with
      | none => rw [hb] at hj; cases hj
      | some b =>
        rw [hb] at hj
        cases hj
        have hlt := (List.getElem?_eq_some_iff.1 hb).1
        have := hr j hlt
        rw [this]
        simp [List.getD, hb, B8]
theorem own_lay0 {α : Type} (e : El α) (w : World) : OwnX e w.heap.size (w.alloc (.cells #[] e.E)) (.slice (some ⟨w.heap.size, 0, none⟩) 0 0) [] :=
  ⟨by simp [El.flat], .inr ⟨w.heap.size, 0, #[], rfl, Nat.le_refl _, _root_.Go.heap_alloc_new w _, Nat.le_refl _, by unfold maxLen; omega, by simp, by simp [El.flat]⟩⟩
theorem wp_layB0 {o : Oper} {a : Act} {w : World} {K : Act → World → Prop} {Q : Exit → Act → World → Prop} (ho : o.op = .buildSlice 22 0 #[])
    (h : ∀ w', OwnX eB w.heap.size w' (.slice (some ⟨w.heap.size, 0, none⟩) 0 0) [] → Below w.heap.size w w' → w'.heap.size = w.heap.size + 1 → K (a.put o.dst (.slice (some ⟨w.heap.size, 0, none⟩) 0 0)) w') : o.wp Try.prog a w K Q := by
  have := h _ (own_lay0 eB w) ((Below.refl _ w).alloc (Nat.le_refl _) _) (by simp)
  unfold Oper.wp execOp
  rw [ho]
  go_simp
  exact this
theorem wpList_layB0 {ops : Array Oper} {rest : List Oper} {o : Oper} {a : Act} {w : World} {Q : Exit → Act → World → Prop} (hgd : o.guard = none) (ho : o.op = .buildSlice 22 0 #[])
    (h : ∀ w', OwnX eB w.heap.size w' (.slice (some ⟨w.heap.size, 0, none⟩) 0 0) [] → Below w.heap.size w w' → w'.heap.size = w.heap.size + 1 → wpList Try.prog ops Q rest (a.put o.dst (.slice (some ⟨w.heap.size, 0, none⟩) 0 0)) w') : wpList Try.prog ops Q (o :: rest) a w :=
  wpList_plain hgd fun _ hK => wp_layB0 ho fun w' h1 h2 h3 => hK _ _ (h w' h1 h2 h3)
theorem ownB {base : Nat} {w : World} {v : Value} {bs : List UInt8} : OwnX eB base w v bs ↔ Own base w v bs := by
  unfold OwnX Own
  rw [eB_flat]
  exact Iff.rfl
theorem below_drN {B n : Nat} {w w' : World} (h : Below B w w') : Below B w (w'.drewN n) := ⟨h.os, h.tape, h.output, h.size, h.block⟩
end Go.Proofs.Ytbehmclligkbhaa
