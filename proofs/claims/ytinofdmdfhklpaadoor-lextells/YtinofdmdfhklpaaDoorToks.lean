/- Rows of tokens: appended to, kept, read. -/
import Derived.Test.YtinofdmdfhklpaaDoorTokenAt
import Derived.Great.BuildSlice
import Derived.Maps.AppendAt
namespace Go.Proofs.YtinofdmdfhklpaaDoor
open Go.RowKit
set_option linter.unusedVariables false

/-- The cells of tokens, one behind the other. -/
def flat (ts : List Tk) : List Value := (ts.map Tk.cells).flatten

theorem flat_length (ts : List Tk) : (flat ts).length = ts.length * 5 := by
  induction ts with
  | nil => rfl
  | cons t r ih => simp [flat, Tk.cells] at ih ⊢; omega

theorem flat_append (a b : List Tk) : flat (a ++ b) = flat a ++ flat b := by simp [flat]

theorem flat_at (ts : List Tk) (i : Nat) (t : Tk) (h : ts[i]? = some t) : ((flat ts).drop (i * 5)).take 5 = t.cells := by
  induction ts generalizing i with
  | nil => simp at h
  | cons u r ih =>
    cases i with
    | zero =>
      simp at h
      subst h
      simp [flat, Tk.cells]
    | succ j =>
      have := ih j (by simpa using h)
      rw [show (j + 1) * 5 = 5 + j * 5 by omega, ← List.drop_drop]
      simpa [flat, Tk.cells] using this

/-- A row of tokens of the call's own. -/
def Toks (base : Nat) (w : World) (v : Value) (ts : List Tk) : Prop := w.ownsRow base 34 5 v ts.length (flat ts)

theorem Toks.nil (base : Nat) (w : World) : Toks base w (.slice none 0 0) [] := ⟨rfl, .inl ⟨rfl, rfl⟩⟩

theorem Toks.keep {base : Nat} {w w' : World} {v : Value} {ts : List Tk} (h : Toks base w v ts) (hk : ∀ g, v.ownBlock = some g → g < w.heap.size → w'.heap[g]? = w.heap[g]?) : Toks base w' v ts := by
  obtain ⟨h1, h2 | ⟨g, cap, cur, rfl, hg, hh, hr⟩⟩ := h
  · exact ⟨h1, .inl h2⟩
  · have hlt : g < w.heap.size := by
      rcases Nat.lt_or_ge g w.heap.size with hlt | hge
      · exact hlt
      · rw [Array.getElem?_eq_none hge] at hh; simp at hh
    exact ⟨h1, .inr ⟨g, cap, cur, rfl, hg, by rw [hk g rfl hlt]; exact hh, hr⟩⟩

theorem Toks.below {base : Nat} {w w' : World} {v : Value} {ts : List Tk} (h : Toks base w v ts) (hb : Below w.heap.size w w') : Toks base w' v ts :=
  h.keep fun g _ hlt => hb.block g hlt

theorem Toks.low {base base' : Nat} {w : World} {v : Value} {ts : List Tk} (h : Toks base w v ts) (hb : base' ≤ base) : Toks base' w v ts := by
  obtain ⟨h1, h2 | ⟨g, cap, cur, rfl, hg, hh, hr⟩⟩ := h
  · exact ⟨h1, .inl h2⟩
  · exact ⟨h1, .inr ⟨g, cap, cur, rfl, by omega, hh, hr⟩⟩

theorem Toks.block {base : Nat} {w : World} {v : Value} {ts : List Tk} (h : Toks base w v ts) : ∀ k, v.ownBlock = some k → base ≤ k := by
  intro k hk
  obtain ⟨_, ⟨rfl, _⟩ | ⟨g, cap, cur, rfl, hg, _⟩⟩ := h
  · simp [Value.ownBlock] at hk
  · simp [Value.ownBlock] at hk
    omega

/-- What a row of tokens is known by when it is read. -/
theorem Toks.open {base : Nat} {w : World} {v : Value} {ts : List Tk} (h : Toks base w v ts) :
    (v = .slice none 0 0 ∧ ts = []) ∨ ∃ g cap, v = .slice (some ⟨g, 0, none⟩) ts.length cap ∧ base ≤ g ∧ g < w.heap.size ∧ ts.length ≤ cap ∧ cap ≤ maxLen ∧ (∀ i t, ts[i]? = some t → w.rangeAt g (i * 5) t.cells) ∧ (∀ i, i < ts.length → w.there g (i * 5) 5) := by
  obtain ⟨h1, ⟨rfl, h2⟩ | ⟨g, cap, cur, rfl, hg, hh, hc, hm, hs, ht⟩⟩ := h
  · exact .inl ⟨rfl, List.length_eq_zero_iff.1 h2⟩
  · have hlt : g < w.heap.size := by
      rcases Nat.lt_or_ge g w.heap.size with hlt | hge
      · exact hlt
      · rw [Array.getElem?_eq_none hge] at hh; simp at hh
    have hA : At 34 w g cur.toList := by simpa [At] using hh
    refine .inr ⟨g, cap, rfl, hg, hlt, hc, hm, ?_, ?_⟩
    · intro i t hi
      have hil : i < ts.length := (List.getElem?_eq_some_iff.1 hi).1
      have := hA.range (i * 5) 5
      have e : (cur.toList.drop (i * 5)).take 5 = t.cells := by
        rw [← flat_at ts i t hi, ← ht, List.drop_take, List.take_take]
        congr 1
        omega
      rwa [e] at this
    · intro i hi
      exact hA.there (i * 5) 5 (by rw [Array.length_toList, hs]; omega)

theorem Try.i34' : (Tryd.prog.info? 34).map (fun i => (i.zero, i.size, i.bytes)) = some (some (.agg (tok5 0 ⟨#[]⟩ 0 0 0).toArray), 5, 48) := by kernel_rfl

section
variable {ops : Array Oper} {rest : List Oper} {o : Oper} {a : Act} {w : World} {Q : Exit → Act → World → Prop}

/-- One token is laid as a row. -/
theorem wpList_slice1 (hgd : o.guard = none) (x : Operand) (ho : o.op = .buildSlice 22 1 #[(0, x)]) (K : Nat) (S : ByteArray) (p t b : Nat) (hx : a.eval x = .agg (tok5 K S p t b).toArray)
    (h : ∀ w', At 34 w' w.heap.size (tok5 K S p t b) → Below w.heap.size w w' → w'.heap.size = w.heap.size + 1 → wpList Tryd.prog ops Q rest (a.put o.dst (.slice (some ⟨w.heap.size, 0, none⟩) 1 1)) w') :
    wpList Tryd.prog ops Q (o :: rest) a w := by
  obtain ⟨ie, hi, hz0, hz1, hz2⟩ := info_parts Try.i34'
  refine wpList_buildSlice hgd 22 34 1 #[(0, x)] ho (tok5 K S p t b).toArray ie (.agg (tok5 0 ⟨#[]⟩ 0 0 0).toArray) Tryd.underlying22 hi hz0 (by rw [hz1]; decide) (by rw [hz1]; decide) ?_ ?_
  · rw [hz1]
    simp only [List.map_toArray, List.map_cons, List.map_nil, hx]
    kernel_rfl
  · exact h _ (_root_.Go.heap_alloc_new w _) ((Below.refl _ w).alloc (Nat.le_refl _) _) (by show (w.heap.push _).size = _; simp)

/-- 'tokens = append(tokens, token)', the token laid as a row. -/
theorem wpList_appT (hgd : o.guard = none) (s x : Operand) (ho : o.op = .call { callee := .builtin .append, args := #[s, x], argTypes := #[22, 22] })
    (base g : Nat) (v : Value) (ts : List Tk) (tk : Tk) (hs : a.eval s = v) (hx : a.eval x = .slice (some ⟨g, 0, none⟩) 1 1) (hown : Toks base w v ts) (hA : At 34 w g tk.cells)
    (hlen : ts.length ≤ 1048576) (hbase : base ≤ w.heap.size)
    (h : ∀ v' w', Toks base w' v' (ts ++ [tk]) → Below base w w' → wpList Tryd.prog ops Q rest (a.put o.dst v') w') :
    wpList Tryd.prog ops Q (o :: rest) a w := by
  obtain ⟨ie, hi, hz0, hz1, hz2⟩ := info_parts Try.i34'
  refine wpList_append_own_at w hgd s x 22 ho base 34 ie (.agg (tok5 0 ⟨#[]⟩ 0 0 0).toArray) 5 48 Tryd.underlying22 hi hz0 hz1 hz2 rfl (by decide) v ts.length (flat ts) hs hown
    ⟨g, 0, none⟩ 1 1 tk.cells hx rfl ?_ ?_ ?_ ?_ hbase ?_
  · intro j u hj
    rw [Addr.add_mid, hA.cell, Nat.zero_add]; exact hj
  · intro u hu
    simp [Tk.cells] at hu
    rcases hu with rfl | rfl | rfl | rfl | rfl <;> rfl
  · unfold maxLen; omega
  · omega
  · intro v' w' h1 h2 _ _
    refine h v' w' ?_ ?_
    · have e : flat (ts ++ [tk]) = flat ts ++ tk.cells := by rw [flat_append]; simp [flat]
      unfold Toks
      rw [e, List.length_append]
      exact h1
    · exact (Below.refl base w).grown h2 hbase hown.block
end

end Go.Proofs.YtinofdmdfhklpaaDoor
