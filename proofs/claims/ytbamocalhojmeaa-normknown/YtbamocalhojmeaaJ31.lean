/- Rows of traces, as All gathers them. -/
import Derived.Test.YtbamocalhojmeaaJ30
namespace Go.Proofs.Ytbamocalhojmeaa
open Go.RowKit
set_option linter.unusedVariables false
attribute [local go_sem ↓] Go.wp_at_zero Go.wp_at_succ

theorem Try.info22 : (Try.prog.info? 22).map (fun i => (i.zero, i.size, i.bytes)) = some (some (.slice none 0 0), 1, 24) := by kernel_rfl
/-- A trace that is read, and lies where no row of traces does. -/
def RowOk (base : Nat) (w : World) (a : Option Addr) (x : List Ev) : Prop := x = [] ∨ ∃ G O, a = some ⟨G, O, none⟩ ∧ (G < base ∨ ∃ cs, At 50 w G cs) ∧ ∀ (i : Nat) (e : Ev), x[i]? = some e → w.rangeAt G (O + i * 3) e.cells
theorem RowOk.row {base : Nat} {w : World} {a : Option Addr} {x : List Ev} (h : RowOk base w a x) : RowEv w a x := by
  rcases h with h | ⟨G, O, h1, _, h3⟩
  · exact .inl h
  · exact .inr ⟨G, O, h1, h3⟩
theorem range_lt {w : World} {G o : Nat} {e : Ev} (h : w.rangeAt G o e.cells) : G < w.heap.size := lt_of_cell (range_cells h).1
theorem RowOk.below {base : Nat} {w w' : World} {a : Option Addr} {x : List Ev} (h : RowOk base w a x) (hb : Below w.heap.size w w') : RowOk base w' a x := by
  rcases h with h | ⟨G, O, h1, h2, h3⟩
  · exact .inl h
  · exact .inr ⟨G, O, h1, h2.imp id fun ⟨cs, hA⟩ => ⟨cs, hA.below hb⟩, fun i e he j v hj => (hb.cell (lt_of_cell (h3 i e he j v hj))).trans (h3 i e he j v hj)⟩
theorem RowOk.but {base : Nat} {w w' : World} {a : Option Addr} {x : List Ev} {g : Nat} {cs : List Value} (h : RowOk base w a x) (hb : But g w w') (hg : base ≤ g) (hA : At 22 w g cs) : RowOk base w' a x := by
  rcases h with h | ⟨G, O, h1, h2, h3⟩
  · exact .inl h
  · have hne : G ≠ g := by
      rintro rfl
      rcases h2 with h2 | ⟨c2, hA2⟩
      · omega
      · unfold At at hA hA2
        rw [hA] at hA2
        cases hA2
    refine .inr ⟨G, O, h1, h2.imp id fun ⟨cs, hA⟩ => ⟨cs, hb.at hA hne⟩, fun i e he j v hj => ?_⟩
    have := h3 i e he j v hj
    rw [World.cell?_of_block (w := w) (hb.block G (lt_of_cell this) hne)]
    exact this
structure AllS (base : Nat) (w : World) (v : Value) (L : List (List Ev)) (m : Nat) (es : List Ev) : Prop where
  own : ∃ vs : List Value, w.ownsRow base 22 1 v vs.length vs ∧ vs.length = L.length ∧ ∀ (i : Nat) (u : Value) (x : List Ev), vs[i]? = some u → L[i]? = some x → ∃ a c, u = .slice a m c ∧ m ≤ c ∧ (a = none → c = 0) ∧ RowOk base w a x
  len : ∀ x ∈ L, x.length = m
  rch : ∀ x ∈ L, Rch es x
  fst : L[0]? = some es
theorem AllS.pos {base : Nat} {w : World} {v : Value} {L : List (List Ev)} {m : Nat} {es : List Ev} (h : AllS base w v L m es) : 0 < L.length := (List.getElem?_eq_some_iff.1 h.fst).1
theorem AllS.below {base : Nat} {w w' : World} {v : Value} {L : List (List Ev)} {m : Nat} {es : List Ev} (h : AllS base w v L m es) (hb : Below w.heap.size w w') : AllS base w' v L m es := by
  obtain ⟨vs, h1, h2, h3⟩ := h.own
  refine ⟨⟨vs, ?_, h2, fun i u x hu hx => ?_⟩, h.len, h.rch, h.fst⟩
  · obtain ⟨h0, ⟨k1, k2⟩ | ⟨g, cap, cur, rfl, hg, hh, hr⟩⟩ := h1
    · exact ⟨h0, .inl ⟨k1, k2⟩⟩
    · refine ⟨h0, .inr ⟨g, cap, cur, rfl, hg, ?_, hr⟩⟩
      rw [hb.block g (heapLt hh)]
      exact hh
  · obtain ⟨a, c, k1, k2, k3, k4⟩ := h3 i u x hu hx
    exact ⟨a, c, k1, k2, k3, k4.below hb⟩
theorem AllS.at {base : Nat} {w : World} {v : Value} {L : List (List Ev)} {m : Nat} {es : List Ev} (h : AllS base w v L m es) : ∃ g cap, v = .slice (some ⟨g, 0, none⟩) L.length cap ∧ L.length ≤ cap ∧ base ≤ g ∧ (∃ cs, At 22 w g cs) ∧ ∀ (i : Nat) (x : List Ev), L[i]? = some x → ∃ a c, w.cell? ⟨g, i, none⟩ = some (.slice a m c) ∧ m ≤ c ∧ (a = none → c = 0) ∧ RowOk base w a x := by
  obtain ⟨vs, h1, h2, h3⟩ := h.own
  have hp := h.pos
  obtain ⟨h0, ⟨k1, k2⟩ | ⟨g, cap, cur, rfl, hg, hh, hl, hm, hs, ht⟩⟩ := h1
  · omega
  · rw [h2] at hl ⊢
    refine ⟨g, cap, rfl, hl, hg, ⟨cur.toList, by unfold At; rw [hh]⟩, fun i x hx => ?_⟩
    have hi := (List.getElem?_eq_some_iff.1 hx).1
    have hu := List.getElem?_eq_getElem (show i < vs.length by omega)
    obtain ⟨a, c, e1, e2, e3, e4⟩ := h3 i _ x hu hx
    refine ⟨a, c, ?_, e2, e3, e4⟩
    have ht2 : cur.toList.take (vs.length * 1) = vs := ht
    have e5 : (cur.toList.take (vs.length * 1))[i]? = some (.slice a m c) := by rw [ht2, hu, e1]
    rw [List.getElem?_take_of_lt (by omega)] at e5
    simp only [World.cell?, hh]
    simpa using e5
/-- 'out = append(out, y)'. -/
theorem wpList_appS {ops : Array Oper} {rest : List Oper} {o : Oper} {a : Act} {Q : Exit → Act → World → Prop} {w0 : World} (k0 : Nat) (hk0 : k0 = w0.heap.size) (s x : Operand) (base : Nat) (v : Value) (L : List (List Ev)) (m : Nat) (es y : List Ev) (ay : Option Addr) (cy : Nat)
    (hgd : o.guard = none) (ho : o.op = .call { callee := .builtin .append, args := #[s, x], argTypes := #[58, 58] })
    (hs : a.eval s = v) (hx : a.eval x = .slice (some ⟨k0, 0, none⟩) 1 1) (hS : AllS base w0 v L m es) (hlen : L.length ≤ 1048576) (hbase : base ≤ w0.heap.size) (hy : y.length = m) (hr : Rch es y) (hcy : m ≤ cy) (hny : ay = none → cy = 0) (hok : RowOk base w0 ay y)
    (h : ∀ v' w', AllS base w' v' (L ++ [y]) m es → Below base w0 w' → (∀ b z, RowOk base w0 b z → RowOk base w' b z) → wpList Try.prog ops Q rest (a.put o.dst v') w') :
    wpList Try.prog ops Q (o :: rest) a (w0.alloc (.cells #[.slice ay m cy] 22)) := by
  subst hk0
  obtain ⟨i0, hi, hz0, hz1, hz2⟩ := info_parts Try.info22
  obtain ⟨g, cap, hv, hcap, hg, ⟨cs, hAg⟩, hat⟩ := hS.at
  obtain ⟨vs, h1, h2, h3⟩ := hS.own
  have hal : Below w0.heap.size w0 (w0.alloc (.cells #[.slice ay m cy] 22)) := (Below.refl _ w0).alloc (Nat.le_refl _) _
  refine wpList_append_own (w := w0.alloc (.cells #[.slice ay m cy] 22)) hgd s x 58 ho base 22 i0 (.slice none 0 0) 1 24 Try.underlying58 hi hz0 hz1 hz2 rfl (by decide) v vs.length vs hs (World.ownsRow.alloc h1 _)
    ⟨w0.heap.size, 0, none⟩ 1 1 [.slice ay m cy] hx rfl ?c1 ?c2 ?c3 ?c4 ?c5 ?_
  case c1 =>
    intro j u hj
    match j, hj with
    | 0, hj => simp at hj; subst hj; simp [Addr.add]
  case c2 => intro u hu; simp at hu; subst hu; rfl
  case c3 => unfold maxLen; omega
  case c4 => omega
  case c5 => simp; omega
  intro v' w' k1 k2 _
  have hblk : ∀ k, v.ownBlock = some k → k = g := by
    intro k hk
    rw [hv] at hk
    simp [Value.ownBlock] at hk
    exact hk.symm
  have hbut : But g (w0.alloc (.cells #[.slice ay m cy] 22)) w' := ⟨k2.os, k2.tape, k2.output, k2.size, fun k hk hn => k2.block k hk (fun e => hn (hblk k e.symm))⟩
  have hR : ∀ b z, RowOk base w0 b z → RowOk base w' b z := fun b z hz => (hz.below hal).but hbut hg (hAg.below hal)
  refine h v' w' ⟨⟨vs ++ [.slice ay m cy], ?_, by simp [h2], fun i u x hu hx => ?_⟩, ?_, ?_, ?_⟩ ?_ hR
  · rw [List.length_append]; exact k1
  · rcases Nat.lt_or_ge i L.length with hi | hi
    · rw [List.getElem?_append_left (by omega)] at hu
      rw [List.getElem?_append_left hi] at hx
      obtain ⟨a, c, e1, e2, e3, e4⟩ := h3 i u x hu hx
      exact ⟨a, c, e1, e2, e3, hR _ _ e4⟩
    · have hi2 : i = L.length := by
        have := (List.getElem?_eq_some_iff.1 hx).1
        simp at this
        omega
      subst hi2
      rw [← h2] at hu
      simp at hu hx
      subst hu hx
      exact ⟨ay, cy, rfl, hcy, hny, hR _ _ hok⟩
  · intro x hx
    rcases List.mem_append.1 hx with hx | hx
    · exact hS.len x hx
    · simp at hx; subst hx; exact hy
  · intro x hx
    rcases List.mem_append.1 hx with hx | hx
    · exact hS.rch x hx
    · simp at hx; subst hx; exact hr
  · rw [List.getElem?_append_left hS.pos]; exact hS.fst
  · exact ((Below.refl base w0).alloc hbase _).grown k2 (by simp; omega) (fun k hk => by rw [hblk k hk]; exact hg)
/-- All that come of the first p by changing about once are among them. -/
def Cl (L : List (List Ev)) (m p : Nat) : Prop := ∀ q x, q < p → L[q]? = some x → ∀ k, k + 1 < m → depB (evAt x k) (evAt x (k + 1)) = false → swL x k ∈ L
def Ci (L : List (List Ev)) (x : List Ev) (m i : Nat) : Prop := ∀ k, k < i → k + 1 < m → depB (evAt x k) (evAt x (k + 1)) = false → swL x k ∈ L
theorem Cl.more {L : List (List Ev)} {m p : Nat} (h : Cl L m p) (hp : p ≤ L.length) (y : List Ev) : Cl (L ++ [y]) m p := fun q x hq hx k h1 h2 => by
  rw [List.getElem?_append_left (by omega)] at hx
  exact List.mem_append_left _ (h q x hq hx k h1 h2)
theorem Ci.more {L : List (List Ev)} {x : List Ev} {m i : Nat} (h : Ci L x m i) (y : List Ev) : Ci (L ++ [y]) x m i := fun k hk h1 h2 => List.mem_append_left _ (h k hk h1 h2)
theorem Ci.next {L : List (List Ev)} {x : List Ev} {m i : Nat} (h : Ci L x m i) (hi : depB (evAt x i) (evAt x (i + 1)) = true ∨ swL x i ∈ L) : Ci L x m (i + 1) := fun k hk h1 h2 => by
  by_cases hki : k = i
  · subst hki
    rcases hi with hi | hi
    · rw [h2] at hi; cases hi
    · exact hi
  · exact h k (by omega) h1 h2
theorem Cl.next {L : List (List Ev)} {m p i : Nat} {x : List Ev} (h : Cl L m p) (hx : L[p]? = some x) (hi : m ≤ i + 1) (hc : Ci L x m i) : Cl L m (p + 1) := fun q y hq hy k h1 h2 => by
  by_cases hqp : q = p
  · subst hqp
    rw [hx] at hy
    cases hy
    exact hc k (by omega) h1 h2
  · exact h q y (by omega) hy k h1 h2
/-- Just those that come by changing about. -/
theorem all_iff {L : List (List Ev)} {m : Nat} {es : List Ev} (hr : ∀ x ∈ L, Rch es x) (hl : ∀ x ∈ L, x.length = m) (h0 : es ∈ L) (hc : Cl L m L.length) (b : List Ev) : b ∈ L ↔ Rch es b := by
  constructor
  · exact hr b
  · intro h
    induction h with
    | refl => exact h0
    | step k hh h1 h2 ih =>
      obtain ⟨q, hq⟩ := List.getElem?_of_mem ih
      exact hc q _ (List.getElem?_eq_some_iff.1 hq).1 hq k (by rw [← hl _ ih]; exact h1) h2
theorem wpList_appE {ops : Array Oper} {rest : List Oper} {o : Oper} {a : Act} {w : World} {Q : Exit → Act → World → Prop} (hgd : o.guard = none) (s x : Operand) (ho : o.op = .call { callee := .builtin .append, args := #[s, x], argTypes := #[22, 22] }) (base : Nat) (v : Value) (es fs : List Ev) (b : Option Addr) (m c : Nat)
    (hs : a.eval s = v) (hx : a.eval x = .slice b m c) (hown : OwnE base w v es) (hm : fs.length = m) (hnil : b = none → c = 0) (hc : m ≤ c) (hrow : RowEv w b fs) (hl : es.length + m ≤ 1048576) (hbase : base ≤ w.heap.size)
    (h : ∀ v' w', OwnE base w' v' (es ++ fs) → Below base w w' → wpList Try.prog ops Q rest (a.put o.dst v') w') : wpList Try.prog ops Q (o :: rest) a w :=
  wpList_plain hgd fun _ hK => wp_appE s x ho base v es fs b m c hs hx hown hm hnil hc hrow hl hbase (fun v' w' h1 h2 _ _ => hK _ _ (h v' w' h1 h2))
end Go.Proofs.Ytbamocalhojmeaa
