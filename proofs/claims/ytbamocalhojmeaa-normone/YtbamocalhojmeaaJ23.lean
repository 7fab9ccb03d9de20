/- Joined texts of the proof. -/
import Derived.Test.YtbamocalhojmeaaJ22
import Derived.Test.YtbamocalhojmeaaJ18
import Derived.RangeFuncNested
import Derived.OrdersIn
import Derived.OwnWalkIn
import Derived.Test.YtbamocalhojmeaaJ4

/- norm.levelNumbers: what its loops keep. -/
namespace Go.Proofs.Ytbamocalhojmeaa
open Go.RowKit
set_option linter.unusedVariables false

/-- One step of a round: j's level is above i's. -/
def lst (x : Int) (f : Nat → Int) (j : Nat) : Nat → Int := updZ f j (max (f j) (x + 1))
def runL (x : Int) (f : Nat → Int) (L : List Nat) : Nat → Int := L.foldl (lst x) f
theorem runL_snoc (x : Int) (f : Nat → Int) (L : List Nat) (j : Nat) : runL x f (L ++ [j]) = lst x (runL x f L) j := by simp [runL, List.foldl_append]
theorem fold_lst (x : Int) : ∀ (L : List Nat) (f : Nat → Int) (j : Nat), (L.foldl (lst x) f) j = if j ∈ L then max (f j) (x + 1) else f j
  | [], f, j => by simp
  | y :: L, f, j => by
    rw [List.foldl_cons, fold_lst x L]
    unfold lst updZ
    by_cases h1 : j ∈ L
    · by_cases h2 : j = y
      · subst h2
        simp [h1]
      · simp [h1, h2]
    · by_cases h2 : j = y
      · subst h2
        simp [h1]
      · simp [h1, h2]
theorem runL_at (x : Int) (f : Nat → Int) (L : List Nat) (j : Nat) : runL x f L j = if j ∈ L then max (f j) (x + 1) else f j := fold_lst x L f j
theorem lvTo_more (f : Nat → Nat) (ev : Nat → Ev) (j : Nat) : ∀ d, lvTo f ev j (j + d) = lvTo f ev j j
  | 0 => rfl
  | d + 1 => by
    rw [← Nat.add_assoc, lvTo, lvTo_more f ev j d, if_neg]
    intro h
    have := hbB_lt h
    omega
theorem lvTo_lev (ev : Nat → Ev) {j k : Nat} (h : j ≤ k) : lvTo (lev ev) ev j k = lev ev j := by
  obtain ⟨d, rfl⟩ : ∃ d, k = j + d := ⟨k - j, by omega⟩
  rw [lvTo_more, ← lev_eq]
/-- The levels, the first k events having been gone through. -/
def fLv (ev : Nat → Ev) (k j : Nat) : Int := (lvTo (lev ev) ev j k : Nat)
theorem fLv_step (ev : Nat → Ev) {k m j : Nat} (hj : j < m) : runL (fLv ev k k) (fLv ev k) (bhTo ev k m) j = fLv ev (k + 1) j := by
  rw [runL_at]
  unfold fLv
  rw [lvTo_lev ev (Nat.le_refl k)]
  simp only [bhTo, List.mem_filter, List.mem_range]
  rw [lvTo]
  by_cases h : hbB ev j k = true
  · rw [if_pos ⟨hj, h⟩, if_pos h]
    omega
  · rw [if_neg (fun q => h q.2), if_neg h]
theorem fLv_le (ev : Nat → Ev) (k j : Nat) (h : k ≤ 1024) : 0 ≤ fLv ev k j ∧ fLv ev k j ≤ 1024 := by
  unfold fLv
  have := lvTo_le (f := lev ev) (ev := ev) (j := j) k (fun i _ => lev_le ev i)
  omega
theorem cellsZ_congr {m : Nat} {f g : Nat → Int} (h : ∀ j, j < m → f j = g j) : cellsZ m f = cellsZ m g := List.map_congr_left fun x hx => by rw [h x (List.mem_range.1 hx)]

/-- The levels' row, and the variable that holds it. -/
structure LvN (w : World) (m gL bL : Nat) (W : World) (f : Nat → Int) : Prop where
  var : Boxed W bL 23 (.slice (some ⟨gL, 0, none⟩) m m)
  row : At 3 W gL (cellsZ m f)
  bel : Below w.heap.size w W
  o1 : w.heap.size ≤ gL
  o2 : gL < bL
theorem LvN.keep {w : World} {m gL bL : Nat} {W W' : World} {f : Nat → Int} (h : LvN w m gL bL W f) (hc : Cel w.heap.size W W') : LvN w m gL bL W' f := ⟨hc.boxed h.var, hc.at h.row, h.bel.trans hc.bel, h.o1, h.o2⟩
theorem LvN.set {w : World} {m gL bL : Nat} {W : World} {f : Nat → Int} (h : LvN w m gL bL W f) {j : Nat} (z : Int) (hj : j < m) : LvN w m gL bL (W.setCell ⟨gL, j, none⟩ (.int .i64 z)) (updZ f j z) := by
  have o2 := h.o2
  refine ⟨(Below.heap_setCell _ _ _ _ (show bL ≠ gL by omega)).trans h.var, ?_, h.bel.setCell (p := ⟨gL, j, none⟩) h.o1 _, h.o1, h.o2⟩
  rw [← cellsZ_set f z hj]
  exact h.row.set j _
/-- Within a round. -/
structure LvQ (w : World) (m gL bL bI s k : Nat) (Ds : List Nat) (f : Nat → Int) (L : List Nat) (W : World) : Prop where
  n : LvN w m gL bL W (runL (f k) f L)
  i : Boxed W bI 3 (.int .i64 (k : Int))
  o3 : bL < bI
  o4 : bI < s
  sz : s + 3 ≤ W.heap.size
  mks : ∀ D ∈ Ds, D < s ∧ W.heap[D]? = some (.deferred (some []))
section
variable {w : World} {m gL bL bI s k : Nat} {Ds L : List Nat} {f : Nat → Int} {W W' : World}
theorem LvQ.keep (h : LvQ w m gL bL bI s k Ds f L W) {B : Nat} {row : Option Nat} (hB : s + 3 ≤ B) (hg : W.grownBy W' row) (hr : ∀ r, row = some r → B ≤ r ∧ ∃ o : Obj, W.heap[r]? = some o ∧ o.isCells = false) : LvQ w m gL bL bI s k Ds f L W' := by
  have o1 := h.n.o1; have o2 := h.n.o2; have o3 := h.o3; have o4 := h.o4
  have hc : Cel w.heap.size W W' := Cel.of_grown hg hr (by omega) h.n.bel.size
  refine ⟨h.n.keep hc, hc.boxed h.i, o3, o4, Nat.le_trans h.sz hc.bel.size, fun D hD => ?_⟩
  obtain ⟨h1, h2⟩ := h.mks D hD
  exact ⟨h1, (hg.block D (Array.getElem?_eq_some_iff.1 h2).1 (fun e => by have := (hr D e.symm).1; omega)).trans h2⟩
theorem LvQ.step (h : LvQ w m gL bL bI s k Ds f L W) {B j : Nat} (hj : j < m) (q : Nat) : KeepsFrom B W ((W.drewN q).setCell ⟨gL, j, none⟩ (.int .i64 (max (runL (f k) f L j) (f k + 1)))) ∧ Kpt w.heap.size s W ((W.drewN q).setCell ⟨gL, j, none⟩ (.int .i64 (max (runL (f k) f L j) (f k + 1)))) ∧ LvQ w m gL bL bI s k Ds f (L ++ [j]) ((W.drewN q).setCell ⟨gL, j, none⟩ (.int .i64 (max (runL (f k) f L j) (f k + 1)))) := by
  have o1 := h.n.o1; have o2 := h.n.o2; have o3 := h.o3; have o4 := h.o4
  have ho : ∀ k', k' ≠ gL → ((W.drewN q).setCell ⟨gL, j, none⟩ (.int .i64 (max (runL (f k) f L j) (f k + 1)))).heap[k']? = W.heap[k']? := fun k' hk => Below.heap_setCell (W.drewN q) ⟨gL, j, none⟩ _ k' hk
  have hrow : At 3 (W.drewN q) gL (cellsZ m (runL (f k) f L)) := h.n.row
  have hne : ∀ (k' : Nat) (o : Obj), W.heap[k']? = some o → o.isCells = false → k' ≠ gL := fun k' o h1 h2 e => by
    rw [e, show W.heap[gL]? = _ from h.n.row] at h1
    cases h1
    cases h2
  have hsz : ((W.drewN q).setCell ⟨gL, j, none⟩ (.int .i64 (max (runL (f k) f L j) (f k + 1)))).heap.size = W.heap.size := by simp
  have hb : Below w.heap.size W ((W.drewN q).setCell ⟨gL, j, none⟩ (.int .i64 (max (runL (f k) f L j) (f k + 1)))) := ⟨rfl, rfl, rfl, by rw [hsz]; exact Nat.le_refl _, fun k' hk => ho k' (by omega)⟩
  refine ⟨⟨by rw [hsz]; exact Nat.le_refl _, fun k' o _ h1 h2 => (ho k' (hne k' o h1 h2)).trans h1⟩, ⟨hb, fun k' h1 h2 => ho k' (by omega)⟩, ⟨⟨(ho _ (by omega)).trans h.n.var, ?_, h.n.bel.trans hb, o1, o2⟩, (ho _ (by omega)).trans h.i, o3, o4, by rw [hsz]; exact h.sz, fun D hD => ?_⟩⟩
  · rw [runL_snoc]
    unfold lst
    rw [← cellsZ_set _ _ hj]
    exact hrow.set j _
  · obtain ⟨h1, h2⟩ := h.mks D hD
    exact ⟨h1, (ho _ (hne D _ h2 rfl)).trans h2⟩
end
end Go.Proofs.Ytbamocalhojmeaa

/- Regions that draw their order within a round of a range over a function: a condition that holds on the way. -/
namespace Go.Proofs.Ytbamocalhojmeaa
open Go Go.RowKit
set_option linter.unusedVariables false
section
variable {l n : Nat} {P : Program} {ops : Array Oper} {Q : Exit → Act → World → Prop} {md : Region.Mode} {S : World → Prop} {St : List Nat}

theorem yields_R (hnd : ∀ (j : Nat) (o : Oper), ops[j]? = some o → ∀ c, o.op ≠ .defer c) {i : Nat} {o : Oper} {v : Value} {a : Act} (hi : ops[i]? = some o) (hy : YieldsIf P ops S o v a) {K : Act → World → Prop} {w : World} (hS : S w) (h : K (a.put o.dst v) w) :
    wpOpIn (Fence.wide.inRound l) n P ops Q i K a w := by
  unfold wpOpIn
  simp only [hi]
  rcases hy with ⟨hw, hv⟩ | ⟨hw, rfl⟩
  · rw [if_pos hw]
    refine ⟨fun _ _ => trivial, ?_⟩
    rw [Oper.semAt_plain _ _ _ (hnd i o hi), hv w hS]
    exact h
  · rw [if_neg (by rw [hw]; exact Bool.false_ne_true)]
    exact ⟨fun _ _ => trivial, h⟩
theorem put_R (hnd : ∀ (j : Nat) (o : Oper), ops[j]? = some o → ∀ c, o.op ≠ .defer c) {j : Nat} {oi oj : Oper} {v : Value} (hj : ops[j]? = some oj) (hap : oi.apart ops oj = true) (hsi : ∀ cs b, oi.op ≠ .select cs b) (hsj : ∀ cs b, oj.op ≠ .select cs b)
    (hQ : ∀ c a w, Q (.panic c) (a.put oi.dst v) w → Q (.panic c) a w) {K : Act → World → Prop} {a : Act} {w : World} (hy : YieldsIf P ops S oi v a) (h : wpOpIn (Fence.wide.inRound l) n P ops Q j K (a.put oi.dst v) w) :
    wpOpIn (Fence.wide.inRound l) n P ops Q j (fun a' w' => YieldsIf P ops S oi v a' ∧ K (a'.put oi.dst v) w') a w := by
  obtain ⟨h1, h2, h3⟩ := Oper.apart_spec hap
  have keep : ∀ (a : Act), YieldsIf P ops S oi v a → ∀ u, YieldsIf P ops S oi v (a.put oj.dst u) := fun a hy u => hy.of_same (execOp_put oi hsi a oj.dst u h3) (wanted_put oi a oj.dst u h3)
  have hp : ∀ (b : Act), YieldsIf P ops S oi v b → ∀ u w', K ((b.put oi.dst v).put oj.dst u) w' → YieldsIf P ops S oi v (b.put oj.dst u) ∧ K ((b.put oj.dst u).put oi.dst v) w' := fun b hb u w' hk => ⟨keep b hb u, by rw [← Act.put_comm b v u h2]; exact hk⟩
  unfold wpOpIn at h ⊢
  simp only [hj] at h ⊢
  rw [wanted_put oj a oi.dst v h1] at h
  by_cases hw : Region.wanted oj (yielded ops a.tmps) = true
  · rw [if_pos hw] at h ⊢
    refine ⟨fun _ _ => trivial, ?_⟩
    have h := h.2
    rw [Oper.semAt_plain _ _ _ (hnd j oj hj)] at h ⊢
    rw [execOp_put oj hsj a oi.dst v h1] at h
    generalize (execOp a.eval oj).run P w = r at h ⊢
    have hend : ∀ (e : Ending) (w'' : World), (match e, w'' with | .returned u, w'' => K ((a.put oi.dst v).put oj.dst u) w'' | .panicked c, w'' => Q (.panic c) (a.put oi.dst v) w'' | .outgrown, _ => LetsOut Q) →
        (match e, w'' with | .returned u, w'' => YieldsIf P ops S oi v (a.put oj.dst u) ∧ K ((a.put oj.dst u).put oi.dst v) w'' | .panicked c, w'' => Q (.panic c) a w'' | .outgrown, _ => LetsOut Q) := fun e w'' he => by
      cases e with
      | returned u => exact hp a hy u w'' he
      | panicked c => exact hQ _ _ _ he
      | outgrown => exact he
    cases r with
    | ok x w' =>
      cases x <;> simp only [Oper.uponIn] at h ⊢
      case value u => exact hp a hy u w' h
      case skip => exact hp a hy _ w' h
      case defer d =>
        have hd : YieldsIf P ops S oi v { a with defers := d :: a.defers } := hy.of_same rfl rfl
        refine hp { a with defers := d :: a.defers } hd undef w' ?_
        rw [← Act.put_defers]
        exact h
      case enter f args => exact ⟨h.1, h.2.mono hend⟩
      case row row args => exact ⟨h.1, h.2.mono fun u w'' he => hp a hy u w'' he⟩
      case round l f tmps assign body => exact ⟨h.1, h.2.mono hend⟩
    | halt x w' =>
      cases x <;> simp only [Oper.uponIn] at h ⊢
      case panic u => exact hQ _ _ _ h
  · rw [if_neg hw] at h ⊢
    exact ⟨fun _ _ => trivial, hp a hy undef w h.2⟩
def wpAnyR (l n : Nat) (P : Program) (md : Region.Mode) (ops : Array Oper) (Q : Exit → Act → World → Prop) (S : World → Prop) (St : List Nat) : Nat → Array Bool → Act → World → Prop
  | 0, listed, a, w => Region.ready md ops listed = [] ∧ Q .normal a w
  | fuel + 1, listed, a, w =>
    (Region.ready md ops listed = [] → Q .normal a w) ∧
    ∀ i ∈ Region.ready md ops listed, wpOpIn (Fence.wide.inRound l) n P ops Q i (fun a' w' => Hold S St (listed.setIfInBounds i true) w' ∧ wpAnyR l n P md ops Q S St fuel (listed.setIfInBounds i true) a' w') a w
theorem any_of_R : ∀ (fuel : Nat) (listed : Array Bool) (a : Act) (w : World), wpAnyR l n P md ops Q S St fuel listed a w → wpAnyIn (Fence.wide.inRound l) n P md ops Q fuel listed a w
  | 0, _, _, _, h => h
  | fuel + 1, _, _, _, h => ⟨h.1, fun i hi => wpOpIn_mono (fun a' w' h' => any_of_R fuel _ a' w' h'.2) (h.2 i hi)⟩

theorem wpAnyR_first (hnd : ∀ (j : Nat) (o : Oper), ops[j]? = some o → ∀ c, o.op ≠ .defer c) {i : Nat} {oi : Oper} {v : Value} (hi : ops[i]? = some oi) (hsel : ∀ (j : Nat) (o : Oper) cs b, ops[j]? = some o → o.op ≠ .select cs b)
    (hQ : ∀ c a w, Q (.panic c) (a.put oi.dst v) w → Q (.panic c) a w) (hiS : i ∉ St) (Inv : Array Bool → Prop) (S0 : World → Prop)
    (hInv : ∀ listed j, Inv listed → listed.getD i true = false → j ∈ Region.ready md ops listed → j ≠ i → Inv (listed.setIfInBounds j true))
    (hY : ∀ listed w, Inv listed → Hold S St listed w → S0 w) :
    ∀ (fuel : Nat) (listed : Array Bool) (a : Act) (w : World),
      (∀ j oj, ops[j]? = some oj → j ≠ i → listed.getD j true = false → (∀ e ∈ oj.after, Region.binds md e = true → e.on ≠ i) → oi.apart ops oj = true) →
      i ∈ Region.ready md ops listed → Inv listed → YieldsIf P ops S0 oi v a → Hold S St listed w →
      Hold S St (listed.setIfInBounds i true) w → wpAnyR l n P md ops Q S St fuel (listed.setIfInBounds i true) (a.put oi.dst v) w → wpAnyR l n P md ops Q S St (fuel + 1) listed a w := by
  intro fuel
  induction fuel with
  | zero =>
    intro listed a w _ hr hv hy hS hSi H
    refine ⟨fun h => (by rw [h] at hr; cases hr), fun j hj => ?_⟩
    by_cases hji : j = i
    · subst hji; exact yields_R hnd hi hy (hY _ _ hv hS) ⟨hSi, H⟩
    · have := ready_mono hj hji
      rw [H.1] at this
      cases this
  | succ fuel ih =>
    intro listed a w hfree hr hv hy hS hSi H
    refine ⟨fun h => (by rw [h] at hr; cases hr), fun j hj => ?_⟩
    by_cases hji : j = i
    · subst hji; exact yields_R hnd hi hy (hY _ _ hv hS) ⟨hSi, H⟩
    · have h1 := H.2 j (ready_mono hj hji)
      obtain ⟨hjun, oj, hoj, hall⟩ := mem_ready.1 hj
      have hnot : ∀ e ∈ oj.after, Region.binds md e = true → e.on ≠ i := fun e he hb heq => by
        have h1 := hall e he hb
        have h0 := (mem_ready.1 hr).1
        rw [heq] at h1
        rcases Nat.lt_or_ge i listed.size with h' | h'
        · simp [h'] at h0 h1; rw [h0] at h1; cases h1
        · simp [Array.getElem?_eq_none h'] at h1
      have h2 := put_R hnd hoj (hfree j oj hoj hji hjun hnot) (fun cs b => hsel i oi cs b hi) (fun cs b => hsel j oj cs b hoj) hQ hy h1
      have hfree' : ∀ k ok, ops[k]? = some ok → k ≠ i → (listed.setIfInBounds j true).getD k true = false →
          (∀ e ∈ ok.after, Region.binds md e = true → e.on ≠ i) → oi.apart ops ok = true := fun k ok hk hki hun hno => by
        refine hfree k ok hk hki ?_ hno
        by_cases hjk : j = k
        · subst hjk; exact hjun
        · rw [getD_set_ne true hjk] at hun; exact hun
      refine wpOpIn_mono (fun a' w' h3 => ?_) h2
      have hh := hold_less hiS h3.2.1
      refine ⟨hh, ih (listed.setIfInBounds j true) a' w' hfree' (ready_mono hr (Ne.symm hji)) (hInv _ _ hv (mem_ready.1 hr).1 hj hji) h3.1 hh ?_ ?_⟩
      · rw [Array.setIfInBounds_comm _ _ hji]
        exact h3.2.1
      · rw [Array.setIfInBounds_comm _ _ hji]
        exact h3.2.2

/-- Number i is taken first: it yields v in whatever world. -/
theorem wpAnyR_pure (hnd : ∀ (j : Nat) (o : Oper), ops[j]? = some o → ∀ c, o.op ≠ .defer c) {i : Nat} {oi : Oper} {v : Value} {fuel : Nat} {listed : Array Bool} {a : Act} {w : World} (hi : ops[i]? = some oi)
    (hs : Region.noSelect ops = true) (hf : Region.free md ops listed i = true) (hr : (Region.ready md ops listed).contains i = true) (hiS : St.contains i = false)
    (hQ : ∀ c a w, Q (.panic c) (a.put oi.dst v) w → Q (.panic c) a w) (hy : YieldsIf P ops (fun _ => True) oi v a) (hS : Hold S St listed w)
    (h : Hold S St (listed.setIfInBounds i true) w → wpAnyR l n P md ops Q S St fuel (listed.setIfInBounds i true) (a.put oi.dst v) w) : wpAnyR l n P md ops Q S St (fuel + 1) listed a w := by
  have hn : i ∉ St := fun hm => by rw [List.contains_iff_mem.2 hm] at hiS; cases hiS
  have h2 : Hold S St (listed.setIfInBounds i true) w := fun q => hS fun s hm => by have := q s hm; rwa [getD_set_ne true (show i ≠ s from fun e => hn (e ▸ hm))] at this
  exact wpAnyR_first hnd hi (Region.noSelect_spec hs) hQ hn (fun _ => True) (fun _ => True) (fun _ _ _ _ _ _ => trivial) (fun _ _ _ _ => trivial) fuel listed a w (Region.free_spec hi hf) (by simpa using hr) trivial hy hS h2 (h h2)
/-- Number i is taken first: it yields v where S holds, and the stores wait for it. -/
theorem wpAnyR_take (hnd : ∀ (j : Nat) (o : Oper), ops[j]? = some o → ∀ c, o.op ≠ .defer c) {i : Nat} {oi : Oper} {v : Value} {fuel : Nat} {listed : Array Bool} {a : Act} {w : World} (Wt : List Nat) (hi : ops[i]? = some oi)
    (hs : Region.noSelect ops = true) (hf : Region.free md ops listed i = true) (hr : (Region.ready md ops listed).contains i = true) (hiS : St.contains i = false)
    (hW : (Wt.all fun j => ((ops[j]?).map fun o => o.after.any fun e => Region.binds md e && (e.on == i || Wt.contains e.on)) == some true) = true) (hSW : (St.all fun j => Wt.contains j) = true) (hun : (Wt.all fun j => listed.getD j true == false) = true)
    (hQ : ∀ c a w, Q (.panic c) (a.put oi.dst v) w → Q (.panic c) a w) (hy : YieldsIf P ops S oi v a) (hS : Hold S St listed w)
    (h : Hold S St (listed.setIfInBounds i true) w → wpAnyR l n P md ops Q S St fuel (listed.setIfInBounds i true) (a.put oi.dst v) w) : wpAnyR l n P md ops Q S St (fuel + 1) listed a w := by
  have hn : i ∉ St := fun hm => by rw [List.contains_iff_mem.2 hm] at hiS; cases hiS
  have h2 : Hold S St (listed.setIfInBounds i true) w := fun q => hS fun s hm => by have := q s hm; rwa [getD_set_ne true (show i ≠ s from fun e => hn (e ▸ hm))] at this
  refine wpAnyR_first hnd hi (Region.noSelect_spec hs) hQ hn (fun l => ∀ j ∈ Wt, l.getD j true = false) S ?_ ?_ fuel listed a w (Region.free_spec hi hf) (by simpa using hr) ?_ hy hS h2 (h h2)
  · intro l j hl hil hj hji k hk
    by_cases hjk : j = k
    · subst hjk
      exfalso
      have h1 := List.all_eq_true.1 hW j hk
      rw [beq_iff_eq] at h1
      obtain ⟨o, ho, h3⟩ := Option.map_eq_some_iff.1 h1
      obtain ⟨e, he, h4⟩ := Array.any_eq_true'.1 h3
      rw [Bool.and_eq_true, Bool.or_eq_true] at h4
      obtain ⟨hjun, oj, hoj, hall⟩ := mem_ready.1 hj
      rw [ho] at hoj
      cases hoj
      have h5 := hall e he h4.1
      have h6 : l.getD e.on true = false := by
        rcases h4.2 with q | q
        · rw [beq_iff_eq] at q; rw [q]; exact hil
        · exact hl _ (List.contains_iff_mem.1 q)
      rcases Nat.lt_or_ge e.on l.size with h' | h'
      · simp [h'] at h5 h6; rw [h6] at h5; cases h5
      · simp [Array.getElem?_eq_none h'] at h5
    · rw [getD_set_ne true hjk]; exact hl k hk
  · intro l w' hl hh
    exact hh fun s hm => hl s (List.contains_iff_mem.1 (List.all_eq_true.1 hSW s hm))
  · intro j hj
    have := List.all_eq_true.1 hun j hj
    rwa [beq_iff_eq] at this

def AllReadyR (l n : Nat) (P : Program) (md : Region.Mode) (ops : Array Oper) (Q : Exit → Act → World → Prop) (S : World → Prop) (St : List Nat) (fuel : Nat) (listed : Array Bool) (a : Act) (w : World) (rs : List Nat) : Prop :=
  ∀ i ∈ rs, wpOpIn (Fence.wide.inRound l) n P ops Q i (fun a' w' => Hold S St (listed.setIfInBounds i true) w' ∧ wpAnyR l n P md ops Q S St fuel (listed.setIfInBounds i true) a' w') a w
theorem AllReadyR.nil {fuel : Nat} {listed : Array Bool} {a : Act} {w : World} : AllReadyR l n P md ops Q S St fuel listed a w [] := fun _ h => by cases h
theorem AllReadyR.cons {fuel : Nat} {listed : Array Bool} {a : Act} {w : World} {i : Nat} {o : Oper} {rs : List Nat} (ho : ops[i]? = some o)
    (h : ∀ K' : Act → World → Prop, Shut (∀ a w, Hold S St (listed.setIfInBounds i true) w → (Hold S St (listed.setIfInBounds i true) w → wpAnyR l n P md ops Q S St fuel (listed.setIfInBounds i true) a w) → K' a w) → if Region.wanted o (yielded ops a.tmps) = true then Oper.wpIn (Fence.wide.inRound l) n P o a w K' Q else K' (a.put o.dst undef) w)
    (hs : AllReadyR l n P md ops Q S St fuel listed a w rs) : AllReadyR l n P md ops Q S St fuel listed a w (i :: rs) := fun j hj => by
  rcases List.mem_cons.1 hj with rfl | hj
  · refine wpOpIn_step ho (fun K' hK => ?_)
    have := h K' (fun a w hS hW => hK a w ⟨hS, hW hS⟩)
    split
    · rename_i hw
      rwa [if_pos hw] at this
    · rename_i hw
      rw [if_neg hw] at this
      exact ⟨fun _ _ => trivial, this⟩
  · exact hs j hj
theorem wpAnyR_ready {rs : List Nat} {fuel : Nat} {listed : Array Bool} {a : Act} {w : World} (hr : Region.ready md ops listed = rs) (hne : rs ≠ [])
    (h : AllReadyR l n P md ops Q S St fuel listed a w rs) : wpAnyR l n P md ops Q S St (fuel + 1) listed a w := ⟨fun h0 => absurd (hr ▸ h0) hne, hr ▸ h⟩
theorem wpAnyR_done {listed : Array Bool} {a : Act} {w : World} (hr : Region.ready md ops listed = []) (h : Q .normal a w) :
    ∀ fuel, wpAnyR l n P md ops Q S St fuel listed a w
  | 0 => ⟨hr, h⟩
  | _ + 1 => ⟨fun _ => h, by rw [hr]; simp⟩
theorem wp_region_R (n : Nat) {id : Nat} {a : Act} {w : World} (hm : P.follows .mixedOrders = true) (hS : S w.drew)
    (h : Hold S St (Array.replicate ops.size false) w.drew → wpAnyR l n P .any ops Q S St ops.size (Array.replicate ops.size false) a w.drew) : (Code.region id ops true).wpIn (Fence.wide.inRound l) n P Q a w :=
  wpIn_region_any hm (any_of_R _ _ _ _ (h fun _ => hS))
end
end Go.Proofs.Ytbamocalhojmeaa
