/- The document's own copy of a program: what its regions do. -/
import Derived.Test.YtcmahiphfpgadaaGreatDoorJ15
namespace Go.Proofs.YtcmahiphfpgadaaGreatDoor
open Go.RowKit
set_option linter.unusedVariables false

/-- A row of the call's own stands where nothing of it is written. -/
theorem own_below {base size n : Nat} {E : TypeId} {v : Value} {xs : List Value} {w w' : World} (h : w.ownsRow base E size v n xs) (hb : Below w.heap.size w w') : w'.ownsRow base E size v n xs := by
  obtain ⟨h1, h2 | ⟨g, cap, cur, hv, hg, hc, h3⟩⟩ := id h
  · exact ⟨h1, .inl h2⟩
  · have hl : g < w.heap.size := (h.lt g (by rw [hv]; rfl)).2
    exact ⟨h1, .inr ⟨g, cap, cur, hv, hg, (hb.block g hl).trans hc, h3⟩⟩

/-- 'append(v, src...)', of whatever cells, where v is not nil. -/
theorem appW {o : Oper} {a : Act} {K : Act → World → Prop} {Q : Exit → Act → World → Prop} {w : World} (s x : Operand) (T E : TypeId) (z : Value) (size bytes base : Nat) (b : Nat) (src : Option Addr) (m c : Nat) (news : List Value)
    (ho : o.op = .call { callee := .builtin .append, args := #[s, x], argTypes := #[T, T] })
    (ht : Tryz.prog.underlying T = some (.slice E)) (hif : (Tryz.prog.info? E).map (fun i => (i.zero, i.size, i.bytes)) = some (some z, size, bytes)) (hzs : z.cells.size = size) (hsz : 0 < size)
    (hs : a.eval s = .slice (some ⟨b, 0, none⟩) 0 0) (hx : a.eval x = .slice src m c) (hown : w.ownsRow base E size (.slice (some ⟨b, 0, none⟩) 0 0) 0 []) (hl : news.length = m * size) (hnil : src = none → c = 0 ∧ m = 0) (hnews : ∀ ad, src = some ad → ∀ j u, news[j]? = some u → w.cell? (ad.add j) = some u) (h1 : ∀ u ∈ news, u.oneCell' = true)
    (h63 : m ≤ maxLen) (hbytes : m * bytes ≤ 140737488355328) (hbase : base ≤ w.heap.size)
    (h : ∀ g cap w', w'.ownsRow base E size (.slice (some ⟨g, 0, none⟩) m cap) m news → w.grownBy w' (some b) → K (a.put o.dst (.slice (some ⟨g, 0, none⟩) m cap)) w') :
    o.wp Tryz.prog a w K Q := by
  obtain ⟨i0, hi, hz0, hz1, hz2⟩ := info_parts hif
  cases src with
  | none =>
    obtain ⟨rfl, rfl⟩ := hnil rfl
    have hb : news = [] := List.length_eq_zero_iff.mp (by rw [hl, Nat.zero_mul])
    subst hb
    have hrun := run_append_owned_none (P := Tryz.prog) (w := w) base T o.type E i0 size ht hi _ 0 [] hown
    unfold Oper.wp
    simp [execOp, ho, resolve, invoke, builtin, hs, hx, hrun, Result.andThen]
    exact h b 0 w hown ⟨rfl, rfl, rfl, Nat.le_refl _, fun _ _ _ => rfl⟩
  | some ad =>
    refine wp_append_own (w := w) s x T ho base E i0 z size bytes ht hi hz0 hz1 hz2 hzs hsz _ 0 [] hs hown ad m c news hx hl (hnews ad rfl) h1 (by omega) (by rw [Nat.zero_add]; exact hbytes) hbase ?_
    intro v' w' h1 h2 h3
    rw [Nat.zero_add, List.nil_append] at h1
    obtain ⟨hlen, ⟨e, _⟩ | ⟨g, cap, cur, rfl, hg, hcur, hcap, hmx, hsz, htk⟩⟩ := id h1
    · exact absurd (h3.1 e).1 (by simp)
    · exact h g cap w' h1 h2

theorem vt_one (vs : List VT) : ∀ u ∈ vs.flatMap VT.cells, u.oneCell' = true := by
  intro u hu
  obtain ⟨v, _, hv⟩ := List.mem_flatMap.1 hu
  exact one56 v.nm v.t v.b u hv
theorem vt_news {B c : Nat} {w : World} {a : Option Addr} {vs : List VT} (h : RowV B w a c vs) : ∀ ad, a = some ad → ∀ (j : Nat) (u : Value), (vs.flatMap VT.cells)[j]? = some u → w.cell? (ad.add j) = some u := by
  rintro ad rfl j u hj
  obtain ⟨h1, h2, h | ⟨g, o, e, hg, hr⟩⟩ := h
  · subst h
    simp at hj
  · cases e
    have := flat_range VT.cells3 vs o (fun i v hv => (hr i v hv).1) j u hj
    rw [Addr.add_mid]
    exact this
theorem own_apart {base size n : Nat} {E T : TypeId} {v : Value} {xs cs : List Value} {w : World} {gs : Nat} (h : w.ownsRow base E size v n xs) (hA : At T w gs cs) (hne : E ≠ T) : ∀ g, v.ownBlock = some g → g ≠ gs := by
  intro g hg e
  subst e
  obtain ⟨h1, ⟨h2, h3⟩ | ⟨g', cap, cur, hv, hg', hc, h3⟩⟩ := id h
  · rw [h2] at hg
    cases hg
  · rw [hv] at hg
    cases hg
    rw [hA] at hc
    cases hc
    exact hne rfl

/-- What the first region leaves. -/
structure K1 (A : Nat) (x : World) (gs : Nat) (v9 v12 : Value) (vs : List VT) (ms : List ByteArray) : Prop where
  ag : At 26 x gs [v9, v12, .slice none 0 0]
  r1 : ∃ d1 e1, v9 = .slice d1 vs.length e1 ∧ RowV x.heap.size x d1 e1 vs ∧ (vs = [] ∨ ∃ g o, d1 = some ⟨g, o, none⟩ ∧ A ≤ g ∧ g ≠ gs)
  r2 : ∃ d2 e2, v12 = .slice d2 ms.length e2 ∧ RowN x.heap.size x d2 e2 ms ∧ (ms = [] ∨ ∃ g o, d2 = some ⟨g, o, none⟩ ∧ A ≤ g ∧ g ≠ gs)

theorem K1.make {A gs : Nat} {y : World} {b b12 g9 e9 g12 e12 : Nat} {vs : List VT} {ms : List ByteArray} {cs : List Value} (hA : At 26 y gs cs) (hcs : cs.length = 3)
    (h9 : y.ownsRow b 56 3 (.slice (some ⟨g9, 0, none⟩) vs.length e9) vs.length (vs.flatMap VT.cells)) (h12 : y.ownsRow b12 9 1 (.slice (some ⟨g12, 0, none⟩) ms.length e12) ms.length (ms.map Value.string)) (hi : ∀ v ∈ vs, v.In 0 y) (hl : vs.length ≤ 1048576) (hr12 : RowN y.heap.size y (some ⟨g12, 0, none⟩) e12 ms) (hb : A ≤ b) (hg : A ≤ g12) :
    K1 A (y.setCells gs 0 [.slice (some ⟨g9, 0, none⟩) vs.length e9, .slice (some ⟨g12, 0, none⟩) ms.length e12, .slice none 0 0]) gs (.slice (some ⟨g9, 0, none⟩) vs.length e9) (.slice (some ⟨g12, 0, none⟩) ms.length e12) vs ms := by
  have n9 := own_apart h9 hA (by decide) g9 rfl
  have n12 := own_apart h12 hA (by decide) g12 rfl
  have hBut : But gs y (y.setCells gs 0 [.slice (some ⟨g9, 0, none⟩) vs.length e9, .slice (some ⟨g12, 0, none⟩) ms.length e12, .slice none 0 0]) := But.setCells _ 0 _ (But.refl _ _)
  have hsz := size_setCells gs [.slice (some ⟨g9, 0, none⟩) vs.length e9, .slice (some ⟨g12, 0, none⟩) ms.length e12, .slice none 0 0] 0 y
  obtain ⟨c1, c2, c3, rfl⟩ : ∃ c1 c2 c3, cs = [c1, c2, c3] := by
    match cs, hcs with
    | [c1, c2, c3], _ => exact ⟨c1, c2, c3, rfl⟩
  refine ⟨At.setCells _ 0 _ _ hA, ?_, ?_⟩
  · obtain ⟨a, c, e, hr, ht⟩ := RowV.of_own h9 hi hl
    cases e
    refine ⟨_, _, rfl, ?_, ?_⟩
    · rw [hsz]
      obtain ⟨h1, h2, h | ⟨g, o, e, hg', hr'⟩⟩ := hr
      · exact ⟨h1, h2, .inl h⟩
      · cases e
        refine ⟨h1, h2, .inr ⟨_, _, rfl, hg', fun i v hv => ⟨fun j u hj => ?_, (hr' i v hv).2⟩⟩⟩
        rw [World.cell?_of_block (w := y) (hBut.block _ hg' n9)]
        exact (hr' i v hv).1 j u hj
    · have := (h9.lt g9 rfl).1
      exact .inr ⟨_, _, rfl, by omega, n9⟩
  · refine ⟨_, _, rfl, ?_, .inr ⟨_, _, rfl, hg, n12⟩⟩
    rw [hsz]
    obtain ⟨h1, h2, h | ⟨g, o, e, hg', hr'⟩⟩ := hr12
    · exact ⟨h1, h2, .inl h⟩
    · cases e
      refine ⟨h1, h2, .inr ⟨_, _, rfl, hg', fun i v hv => ?_⟩⟩
      rw [World.cell?_of_block (w := y) (hBut.block _ hg' n12)]
      exact hr' i v hv

/-- While the threads' row grows. -/
structure KP (gs : Nat) (x0 wr : World) (v9 v12 v : Value) (xs : List Th) (ys : List TT) : Prop where
  ag : At 26 wr gs [v9, v12, v]
  ku : KU x0.heap.size wr v xs ys
  bl : But gs x0 wr
  lt : gs < x0.heap.size
section
variable {gs : Nat} {x0 wr wr' : World} {v9 v12 v : Value} {xs : List Th} {ys : List TT}
theorem KP.below (h : KP gs x0 wr v9 v12 v xs ys) (hb : Below wr.heap.size wr wr') : KP gs x0 wr' v9 v12 v xs ys :=
  ⟨h.ag.below hb, h.ku.below hb, h.bl.trans (But.of_below hb), h.lt⟩
theorem KP.app {y : TT} {g cap : Nat} (h : KP gs x0 wr v9 v12 v xs ys) (hi : y.In wr.heap.size wr) (hy : y.Lies (fun k => x0.heap.size ≤ k ∧ some k ≠ v.ownBlock))
    (ho : wr'.ownsRow x0.heap.size 59 3 (.slice (some ⟨g, 0, none⟩) (ys.length + 1) cap) (ys.length + 1) (flatT ys ++ y.cells)) (hg : wr.grownBy wr' v.ownBlock) (hw : v.ownBlock = some g ∨ g = wr.heap.size) :
    At 26 wr' gs [v9, v12, v] ∧ KP gs x0 (wr'.setCell ⟨gs, 2, none⟩ (.slice (some ⟨g, 0, none⟩) (ys.length + 1) cap)) v9 v12 (.slice (some ⟨g, 0, none⟩) (ys.length + 1) cap) (xs ++ [y.th]) (ys ++ [y]) := by
  have hn : ∀ k, k < x0.heap.size → some k ≠ v.ownBlock := fun k hk e => by have := (h.ku.own.lt k e.symm).1; omega
  have lt := h.lt
  have q2 := h.ag.grown hg (hn gs lt)
  have qk := h.ku.app hi hy ho hg hw
  have qb : But gs x0 wr' := ⟨hg.os.trans h.bl.os, hg.tape.trans h.bl.tape, hg.output.trans h.bl.output, Nat.le_trans h.bl.size hg.size, fun k hk hne => (hg.block k (Nat.lt_of_lt_of_le hk h.bl.size) (hn k hk)).trans (h.bl.block k hk hne)⟩
  have hbut : But gs wr' (wr'.setCell ⟨gs, 2, none⟩ (.slice (some ⟨g, 0, none⟩) (ys.length + 1) cap)) := (But.refl gs wr').setCell 2 _
  exact ⟨q2, q2.set 2 _, qk.keep hbut.size (fun k h1 h2 => hbut.block k h2 (by omega)), qb.trans hbut, lt⟩
end
theorem wp_store_thr {o : Oper} {a : Act} {K : Act → World → Prop} {Q : Exit → Act → World → Prop} {w : World} (x y : Operand) (ho : o.op = .store 24 x y) (g off : Nat) (sa : Option Addr) (m c : Nat)
    (hx : a.eval x = .pointer (some ⟨g, off, none⟩)) (hy : a.eval y = .slice sa m c) (t : TypeId) (old : List Value) (hg : At t w g old) (hold : off < old.length)
    (h : K (a.put o.dst undef) (w.setCell ⟨g, off, none⟩ (.slice sa m c))) : o.wp Tryz.prog a w K Q := by
  have r : w.cell? ⟨g, off, none⟩ = some old[off] := by rw [hg.cell, List.getElem?_eq_getElem hold]
  have f := hg.frozen off
  unfold Oper.wp execOp
  simp only [ho, hx, hy]
  go_simp
  exact h

end Go.Proofs.YtcmahiphfpgadaaGreatDoor
