/- The reckoner: part EvF. -/
import Derived.Test.YthgjjogleklmcaaGreatDoorEvD10
import Derived.Test.YthgjjogleklmcaaGreatDoorEvU
import Derived.ProofKit
namespace Go.Proofs.YthgjjogleklmcaaGreatDoor.Ev
open Go.RowKit
set_option linter.unusedVariables false

/-! ### the tables -/
theorem tab_get {α : Type} {f : Nat → Option α} : ∀ {l : List Nat} {T : BT α} {t : Nat} {v : α}, (tabU f l T).get t = some v → f t = some v ∨ T.get t = some v
  | [], T, t, v, h => .inr h
  | i :: r, T, t, v, h => by
    rcases tab_get (l := r) h with h | h
    · exact .inl h
    · rcases BT.get_put _ _ _ _ _ h with ⟨rfl, h⟩ | ⟨_, h⟩
      · exact .inl h
      · exact .inr h
theorem tab_mk {α : Type} {f : Nat → Option α} {l : List Nat} {d b t : Nat} {v : α} (h : (tabU f l (BT.mk d b)).get t = some v) : f t = some v := by
  rcases tab_get h with h | h
  · exact h
  · rw [BT.get_mk] at h; cases h
theorem scan_mem {α : Type} : ∀ {l : List (Nat × α)} {f : Nat} {v : α}, scanU l f = some v → (f, v) ∈ l
  | [], _, _, h => by cases h
  | p :: r, f, v, h => by
    unfold scanU at h
    cases hb : Nat.beq p.1 f with
    | true =>
      rw [hb, bsel_t] at h
      obtain rfl := Option.some.inj h
      obtain rfl := Nat.eq_of_beq_eq_true hb
      exact List.mem_cons_self ..
    | false =>
      rw [hb, bsel_f] at h
      exact List.mem_cons_of_mem _ (scan_mem h)
theorem all_mem {α : Type} {f : α → Bool} : ∀ {l : List α}, allL f l = true → ∀ x ∈ l, f x = true
  | [], _, x, h => by cases h
  | y :: r, h, x, hx => by
    obtain ⟨h1, h2⟩ := bsel_and h
    rcases List.mem_cons.1 hx with rfl | hx
    · exact h1
    · exact all_mem h2 x hx
theorem agg_eq (u : TypeDesc) : aggU u = isAggD u := by cases u <;> rfl
theorem zero_ok {size : Nat} {agg : Bool} {v : Value} {z : List Value} (h : zeroOf size agg v = some z) : v.cells.toList = z ∧ plainL z = true ∧ z.length = size ∧ allL oneCell z = true ∧ v = valueOf z agg := by
  obtain ⟨h1, h⟩ := bsel_opt h
  obtain ⟨h2, h⟩ := bsel_opt h
  obtain ⟨h3, h⟩ := bsel_opt h
  obtain ⟨h4, h⟩ := bsel_opt h
  obtain rfl := Option.some.inj h
  refine ⟨rfl, h1, Nat.eq_of_beq_eq_true h2, h3, ?_⟩
  have h5 : isAggV v = agg := by
    cases hv : isAggV v <;> cases agg <;> first | rfl | (rw [hv] at h4; cases h4)
  subst h5
  cases v <;> rfl
theorem ty_ok {P : Program} {t : Nat} {i : TyI} (h : tyOfU P t = some i) : TyOk P t i := by
  obtain ⟨j, h1, h⟩ := osel_opt h
  obtain ⟨u, h2, h⟩ := osel_opt h
  obtain ⟨h3, h⟩ := bsel_opt h
  obtain rfl := Option.some.inj h
  refine ⟨h2, agg_eq u, fun fs hfs f hf => ?_, j, h1, rfl, rfl, fun z hz => ?_⟩
  · have hfs : u = .struct fs := hfs
    subst hfs
    have := all_mem h3 f hf
    cases hi : P.info? f.type with
    | none => rw [hi] at this; cases this
    | some j => exact ⟨j, rfl⟩
  · obtain ⟨v, g1, g2⟩ := osel_opt (show osel j.zero none (zeroOf j.size (aggU u)) = some z from hz)
    exact ⟨v, g1, zero_ok g2⟩
theorem fn_ok {P : Program} {f : Nat} {fn : Func} (h : fnOfU P f = some fn) : P.funcs[f]? = some fn ∧ (fn.body.isSome = true → (fn.name == "runtime.NumGoroutine") = false) := by
  obtain ⟨g, h1, h⟩ := osel_opt h
  obtain ⟨h2, h⟩ := bsel_opt h
  obtain rfl := Option.some.inj h
  refine ⟨h1, fun hb => ?_⟩
  cases hg : g.body with
  | none => rw [hg] at hb; cases hb
  | some c =>
    rw [hg] at h2
    have h3 : (!(g.name == "runtime.NumGoroutine")) = true := h2
    simpa using h3
theorem tb_ok {P : Program} {nt nf : Nat} {hints : List (Nat × Nat)} {exts : List (Nat × ExtI)} {md : Nat} {ms : List (Nat × Memo)} (hm : P.follows .mixedOrders = true) (hx : ∀ p ∈ exts, ExtOk P p.1 p.2) : TbOk (mkU P nt nf hints exts md ms) :=
  ⟨fun t i h => ty_ok (tab_mk h), fun f fn h => fn_ok (tab_mk h), fun f e h => hx (f, e) (scan_mem (tab_mk h)), hm⟩
theorem mem_u : ∀ {l : List (Nat × Memo)} {T : BT Memo} {N : Nat} {m : Memo}, (memU l T).get N = some m → (N, m) ∈ l ∨ T.get N = some m
  | [], T, N, m, h => .inr h
  | p :: r, T, N, m, h => by
    rcases mem_u (l := r) h with h | h
    · exact .inl (List.mem_cons_of_mem _ h)
    · rcases BT.get_put _ _ _ _ _ h with ⟨h1, h2⟩ | ⟨_, h2⟩
      · obtain rfl := Option.some.inj h2
        subst h1
        exact .inl (by simp)
      · exact .inr h2
/-- what was reckoned of a call, whatever tables it was reckoned with -/
def Memoed (P : Program) (p : Nat × Memo) : Prop := ∀ T : Tb, T.P = P → T.nglob = P.globals.size → MemoOk T p.1 p.2
theorem memos_ok {P : Program} {nt nf : Nat} {hints : List (Nat × Nat)} {exts : List (Nat × ExtI)} {md : Nat} {ms : List (Nat × Memo)} (h : ∀ p ∈ ms, Memoed P p) : MemosOk (mkU P nt nf hints exts md ms) := fun N m hg => by
  rcases mem_u (show (memU ms (BT.mk md 0)).get N = some m from hg) with hg | hg
  · exact h _ hg _ rfl rfl
  · rw [BT.get_mk] at hg; cases hg
theorem memoed {P : Program} {nt nf : Nat} {hints : List (Nat × Nat)} {exts : List (Nat × ExtI)} {md : Nat} {ms : List (Nat × Memo)} (hm : P.follows .mixedOrders = true) (hx : ∀ p ∈ exts, ExtOk P p.1 p.2) (hms : ∀ p ∈ ms, Memoed P p) {n D N : Nat} {m : Memo}
    (h : memoU (mkU P nt nf hints exts md ms) n D N m = true) : Memoed P (N, m) := by
  intro T hT hg
  have hj := (sound_all (tb_ok (nt := nt) (nf := nf) (hints := hints) (md := md) (ms := ms) hm hx) (memos_ok hms) n (.call m.f m.args ⟨N, putAll m.tin (BT.mk D 0)⟩)).1
  unfold memoU at h
  cases hr : run (mkU P nt nf hints exts md ms) n (.call m.f m.args ⟨N, putAll m.tin (BT.mk D 0)⟩) with
  | val v H =>
    rw [hr] at h hj
    obtain ⟨h1, h⟩ := bsel_and h
    obtain ⟨h2, h3⟩ := bsel_and h
    obtain rfl := sameV_eq _ _ h1
    refine ⟨⟨⟨N, putAll m.tin (BT.mk D 0)⟩, H, rfl, fun b k hb => ?_, ?_, Nat.le_of_ble_eq_true h2, fun b q hq => all_in h3 b q hq⟩⟩
    · rcases put_all hb with ⟨q, q1, q2⟩ | q
      · exact ⟨q, q1, q2⟩
      · rw [BT.get_mk] at q; cases q
    · subst hT
      intro w0 E w cargs hR ha hgl
      exact hj w0 E w cargs hR ha fun g hlt => hgl g (by rw [hg]; exact hlt)
  | _ => rw [hr] at h; cases h

/-! ### a statement that is closed, but for arguments that are handed on alone -/
def holes (k : Nat) : List Value := (List.range k).map fun i => .chan (some i)
theorem reckonedA {P : Program} {nt nf : Nat} {hints : List (Nat × Nat)} {exts : List (Nat × ExtI)} {md : Nat} {ms : List (Nat × Memo)} (hm : P.follows .mixedOrders = true) (hx : ∀ p ∈ exts, ExtOk P p.1 p.2) (hms : ∀ p ∈ ms, Memoed P p) {n f d k : Nat}
    (h : goodU (run (mkU P nt nf hints exts md ms) n (.call f (holes k) ⟨P.globals.size, BT.mk d 0⟩)) = true) (cargs : List Value) (hk : cargs.length = k) (h1 : ∀ v ∈ cargs, v.cells = #[v]) (w : World) :
    Calls P f cargs.toArray w fun r w' => r = .returned (.bool true) ∧ Below w.heap.size w w' := by
  have hj := (sound_all (tb_ok (nt := nt) (nf := nf) (hints := hints) (md := md) (ms := ms) hm hx) (memos_ok hms) n (.call f (holes k) ⟨P.globals.size, BT.mk d 0⟩)).1
  cases hg : run (mkU P nt nf hints exts md ms) n (.call f (holes k) ⟨P.globals.size, BT.mk d 0⟩) with
  | val v H =>
    rw [hg] at h hj
    have hv : v = .bool true := by
      cases v with
      | bool b => cases b with
        | true => rfl
        | false => cases h
      | _ => cases h
    subst hv
    have hone : ∀ i, (cargs.getD i (.bool true)).cells = #[cargs.getD i (.bool true)] := fun i => by
      cases hc : cargs[i]? with
      | none => simp [List.getD, hc, Value.cells]
      | some c =>
        have := h1 c (List.mem_of_getElem? hc)
        simpa [List.getD, hc] using this
    have hR : Rep P ⟨w, fun k => k < w.heap.size, fun k h => h, fun _ => False, fun _ h => h.elim⟩ ⟨fun b => if b < P.globals.size then some b else none, fun _ => 0, fun i => cargs.getD i (.bool true), hone⟩ ⟨P.globals.size, BT.mk d 0⟩ w :=
      ⟨⟨rfl, rfl, rfl, Nat.le_refl _, fun k _ => rfl⟩, fun b k hk => (by rw [BT.get_mk] at hk; cases hk), fun b b' k k' B hk => (by rw [BT.get_mk] at hk; cases hk), fun b k B hk => (by rw [BT.get_mk] at hk; cases hk), fun b hb => if_neg (Nat.not_lt.2 hb), fun _ _ _ _ _ h => h⟩
    have hv : VRL ⟨fun b => if b < P.globals.size then some b else none, fun _ => 0, fun i => cargs.getD i (.bool true), hone⟩ (holes k) cargs := VRL.of_get (by simp [holes, hk]) fun i v c hi hc => by
      have hik : i < k := by rw [← hk]; exact (List.getElem?_eq_some_iff.1 hc).1
      have e : v = .chan (some i) := by
        simp only [holes, List.getElem?_map, List.getElem?_range hik, Option.map_some] at hi
        exact (Option.some.inj hi).symm
      subst e
      have e2 : c = cargs.getD i (.bool true) := by simp [List.getD, hc]
      rw [e2]
      exact .hole
    refine (hj _ _ w cargs hR hv fun g hg => if_pos hg).mono fun r w' hq => ?_
    obtain ⟨E', c, _, q2, q3, rfl⟩ := hq
    have := q3.plain rfl
    subst this
    exact ⟨rfl, q2.stays.os, q2.stays.tape, q2.stays.output, q2.stays.size, fun k hk => q2.stays.block k hk⟩
  | _ => rw [hg] at h; cases h

/-! ### a closed statement -/
theorem reckoned {P : Program} {nt nf : Nat} {hints : List (Nat × Nat)} {exts : List (Nat × ExtI)} {md : Nat} {ms : List (Nat × Memo)} (hm : P.follows .mixedOrders = true) (hx : ∀ p ∈ exts, ExtOk P p.1 p.2) (hms : ∀ p ∈ ms, Memoed P p) {n f d : Nat}
    (h : goodU (run (mkU P nt nf hints exts md ms) n (.call f [] ⟨P.globals.size, BT.mk d 0⟩)) = true) (w : World) :
    Calls P f #[] w fun r w' => r = .returned (.bool true) ∧ Below w.heap.size w w' := by
  have hj := (sound_all (tb_ok (nt := nt) (nf := nf) (hints := hints) (md := md) (ms := ms) hm hx) (memos_ok hms) n (.call f [] ⟨P.globals.size, BT.mk d 0⟩)).1
  cases hg : run (mkU P nt nf hints exts md ms) n (.call f [] ⟨P.globals.size, BT.mk d 0⟩) with
  | val v H =>
    rw [hg] at h hj
    have hv : v = .bool true := by
      cases v with
      | bool b => cases b with
        | true => rfl
        | false => cases h
      | _ => cases h
    subst hv
    have hR : Rep P ⟨w, fun k => k < w.heap.size, fun k h => h, fun _ => False, fun _ h => h.elim⟩ ⟨fun b => if b < P.globals.size then some b else none, fun _ => 0, fun _ => .bool true, fun _ => rfl⟩ ⟨P.globals.size, BT.mk d 0⟩ w :=
      ⟨⟨rfl, rfl, rfl, Nat.le_refl _, fun k _ => rfl⟩, fun b k hk => (by rw [BT.get_mk] at hk; cases hk), fun b b' k k' B hk => (by rw [BT.get_mk] at hk; cases hk), fun b k B hk => (by rw [BT.get_mk] at hk; cases hk), fun b hb => if_neg (Nat.not_lt.2 hb), fun _ _ _ _ _ h => h⟩
    refine (hj _ _ w [] hR .nil fun g hg => if_pos hg).mono fun r w' hq => ?_
    obtain ⟨E', c, _, q2, q3, rfl⟩ := hq
    have := q3.plain rfl
    subst this
    exact ⟨rfl, q2.stays.os, q2.stays.tape, q2.stays.output, q2.stays.size, fun k hk => q2.stays.block k hk⟩
  | _ => rw [hg] at h; cases h
end Go.Proofs.YthgjjogleklmcaaGreatDoor.Ev
