/- The typer in memory. -/
import Derived.Test.YtefklmckkigllaaCkH
import Derived.Laws.AppendOwn
namespace Go.Proofs.Ytefklmckkigllaa
open Go.RowKit
set_option linter.unusedVariables false

/-- All blocks stand but the typer's and rows of types from A on. -/
structure Fw (A g : Nat) (w w' : World) : Prop where
  os : w'.os = w.os
  tape : w'.tape = w.tape
  output : w'.output = w.output
  size : w.heap.size ≤ w'.heap.size
  block : ∀ k, k < w.heap.size → k ≠ g → (k < A ∨ ∀ cs z, w.heap[k]? ≠ some (.cells cs 32 z)) → w'.heap[k]? = w.heap[k]?
theorem Fw.refl (A g : Nat) (w : World) : Fw A g w w := ⟨rfl, rfl, rfl, Nat.le_refl _, fun _ _ _ _ => rfl⟩
theorem Fw.trans {A g : Nat} {a b c : World} (h : Fw A g a b) (k : Fw A g b c) : Fw A g a c :=
  ⟨k.os.trans h.os, k.tape.trans h.tape, k.output.trans h.output, Nat.le_trans h.size k.size, fun i hi hn hc => by
    have e := h.block i hi hn hc
    rw [k.block i (Nat.lt_of_lt_of_le hi h.size) hn (hc.imp id fun q cs z => by rw [e]; exact q cs z), e]⟩
theorem Fw.of_below {A g : Nat} {w w' : World} (h : Below w.heap.size w w') : Fw A g w w' := ⟨h.os, h.tape, h.output, h.size, fun k hk _ _ => h.block k hk⟩
theorem Fw.of_but {A g : Nat} {w w' : World} (h : But g w w') : Fw A g w w' := ⟨h.os, h.tape, h.output, h.size, fun k hk hn _ => h.block k hk hn⟩
theorem Fw.at {A g k : Nat} {t : TypeId} {w w' : World} {cs : List Value} (h : Fw A g w w') (ha : At t w k cs) (hn : k ≠ g) (ht : t ≠ 32) : At t w' k cs := by
  unfold At
  rw [h.block k ha.lt hn (.inr fun cs' z e => by
    have : w.heap[k]? = _ := ha
    rw [this] at e
    exact ht (by cases e; rfl))]
  exact ha
theorem Fw.below {A g : Nat} {w w' : World} (h : Fw A g w w') (hg : A ≤ g) (hA : A ≤ w.heap.size) : Below A w w' :=
  ⟨h.os, h.tape, h.output, h.size, fun k hk => h.block k (by omega) (by omega) (.inl hk)⟩
theorem Fw.old {A g B : Nat} {w w' : World} (h : Fw A g w w') (hg : A ≤ g) (hA : A ≤ w.heap.size) (hB : B ≤ A) : Old B w w' := fun k hk => h.block k (by omega) (by omega) (.inl (by omega))
theorem Fw.grown {A g : Nat} {w w' : World} {v : Value} {n : Nat} {xs : List Value} (hown : w.ownsRow A 32 1 v n xs) (h : w.grownBy w' v.ownBlock) : Fw A g w w' := by
  refine ⟨h.os, h.tape, h.output, h.size, fun k hk hn hc => h.block k hk fun e => ?_⟩
  obtain ⟨_, ⟨rfl, _⟩ | ⟨b, cap, cur, rfl, hb, hcur, _⟩⟩ := hown
  · cases e
  · obtain rfl : k = b := by cases e; rfl
    rcases hc with hc | hc
    · omega
    · exact hc _ _ hcur

/-- The typer: a body in its code, the table, the types on the stack. -/
structure Ty (A : Nat) (w : World) (g : Nat) (pre : List Value) (v : Value) (S : List Nat) : Prop where
  cell : At 99 w g (pre ++ opsC ++ [v])
  own : w.ownsRow A 32 1 v S.length (S.map tyC)
  low : A ≤ g
theorem Ty.lt {A : Nat} {w : World} {g : Nat} {pre : List Value} {v : Value} {S : List Nat} (h : Ty A w g pre v S) : g < w.heap.size := h.cell.lt
theorem Ty.ne {A : Nat} {w : World} {g : Nat} {pre : List Value} {v : Value} {S : List Nat} (h : Ty A w g pre v S) : v.ownBlock ≠ some g := by
  intro e
  obtain ⟨_, ⟨rfl, _⟩ | ⟨b, cap, cur, rfl, hb, hcur, _⟩⟩ := h.own
  · cases e
  · obtain rfl : b = g := by cases e; rfl
    have := h.cell
    unfold At at this
    rw [hcur] at this
    cases this
/-- Other blocks are written. -/
theorem Ty.keep {A : Nat} {w w' : World} {g : Nat} {pre : List Value} {v : Value} {S : List Nat} (h : Ty A w g pre v S) (hs : ∀ k, k < w.heap.size → A ≤ k → w'.heap[k]? = w.heap[k]?) : Ty A w' g pre v S := by
  refine ⟨?_, ?_, h.low⟩
  · unfold At
    rw [hs g h.lt h.low]
    exact h.cell
  · obtain ⟨h1, h2 | ⟨b, cap, cur, hv, hb, hcur, h3⟩⟩ := h.own
    · exact ⟨h1, .inl h2⟩
    · have hlt : b < w.heap.size := by
        rcases Nat.lt_or_ge b w.heap.size with q | q
        · exact q
        · rw [Array.getElem?_eq_none q] at hcur; cases hcur
      exact ⟨h1, .inr ⟨b, cap, cur, hv, hb, (hs b hlt hb).trans hcur, h3⟩⟩
theorem Ty.below {A : Nat} {w w' : World} {g : Nat} {pre : List Value} {v : Value} {S : List Nat} (h : Ty A w g pre v S) (hb : Below w.heap.size w w') : Ty A w' g pre v S := h.keep fun k hk _ => hb.block k hk
theorem Ty.head {A : Nat} {w : World} {g : Nat} {pre : List Value} {v : Value} {S : List Nat} (h : Ty A w g pre v S) (hp : pre.length = 6) : w.cell? ⟨g, 106, none⟩ = some v := by
  rw [h.cell.cell, List.getElem?_append_right (by rw [List.length_append, hp, opsC_len]; omega), List.length_append, hp, opsC_len]
  rfl
theorem Ty.pre {A : Nat} {w : World} {g : Nat} {pre : List Value} {v : Value} {S : List Nat} (h : Ty A w g pre v S) (hp : pre.length = 6) (i : Nat) (hi : i < 6) : w.cell? ⟨g, i, none⟩ = pre[i]? := by
  rw [h.cell.cell, List.getElem?_append_left (by rw [List.length_append, hp, opsC_len]; omega), List.getElem?_append_left (by omega)]
theorem Ty.op {A : Nat} {w : World} {g : Nat} {pre : List Value} {v : Value} {S : List Nat} (h : Ty A w g pre v S) (hp : pre.length = 6) (op j : Nat) (ho : op < 20) (hj : j < 5) : w.cell? ⟨g, 6 + op * 5 + j, none⟩ = (opC op)[j]? := by
  rw [h.cell.cell, List.getElem?_append_left (by rw [List.length_append, hp, opsC_len]; omega), List.getElem?_append_right (by omega), hp, show 6 + op * 5 + j - 6 = op * 5 + j by omega]
  exact opsC_at op ho j hj
theorem set_last {α : Type} (l : List α) (a b : α) : (l ++ [a]).set l.length b = l ++ [b] := by
  rw [List.set_append_right _ _ (Nat.le_refl _)]
  simp
/-- The header of the types is written. -/
theorem Ty.put {A : Nat} {w w0 : World} {g : Nat} {pre : List Value} {v v' : Value} {S S' : List Nat} (h : Ty A w0 g pre v S) (hp : pre.length = 6) (hw : At 99 w g (pre ++ opsC ++ [v])) (hown : w.ownsRow A 32 1 v' S'.length (S'.map tyC)) : Ty A (w.setCell ⟨g, 106, none⟩ v') g pre v' S' := by
  have hl : (pre ++ opsC).length = 106 := by rw [List.length_append, hp, opsC_len]
  refine ⟨?_, ?_, h.low⟩
  · have := hw.set 106 v'
    rw [← hl, set_last, hl] at this
    exact this
  · obtain ⟨h1, h2 | ⟨b, cap, cur, hv, hb, hcur, h3⟩⟩ := hown
    · exact ⟨h1, .inl h2⟩
    · refine ⟨h1, .inr ⟨b, cap, cur, hv, hb, ?_, h3⟩⟩
      rw [heap_setCell_other]
      · exact hcur
      · rintro rfl
        unfold At at hw
        rw [hcur] at hw
        cases hw
theorem i32 : (Try.prog.info? 32).map (fun i => (i.zero, i.size, i.bytes)) = some (some (.int .u8 0), 1, 1) := by kernel_rfl

/-- 'append(types, t)' as one step of a region that draws. -/
theorem step_app32 {ops : Array Oper} {o : Oper} {a : Act} {K : Act → World → Prop} {Q : Exit → Act → World → Prop} {E : Prop} {w0 : World} (s x : Operand) (A : Nat) (v : Value) (S : List Nat) (t b : Nat)
    (hgd : o.guard = none) (ho : o.op = .call { callee := .builtin .append, args := #[s, x], argTypes := #[97, 97] })
    (hs : a.eval s = v) (hx : a.eval x = .slice (some ⟨b, 0, none⟩) 1 1) (hown : w0.ownsRow A 32 1 v S.length (S.map tyC)) (hb : w0.cell? ⟨b, 0, none⟩ = some (tyC t)) (hlen : S.length ≤ 1048576) (hbase : A ≤ w0.heap.size)
    (h : ∀ v' w', w'.ownsRow A 32 1 v' (S ++ [t]).length ((S ++ [t]).map tyC) → w0.grownBy w' v.ownBlock → K (a.put o.dst v') w') :
    if Region.wanted o (yielded ops a.tmps) = true then Oper.wp Try.prog o a w0 K Q else E := by
  have hw : Region.wanted o (yielded ops a.tmps) = true := by simp [Region.wanted, hgd]
  rw [if_pos hw]
  obtain ⟨i0, hi, hz0, hz1, hz2⟩ := info_parts i32
  refine wp_append_own w0 s x 97 ho A 32 i0 (.int .u8 0) 1 1 Try.underlying97 hi hz0 hz1 hz2 rfl (by decide) v S.length (S.map tyC) hs hown
      ⟨b, 0, none⟩ 1 1 [tyC t] hx rfl ?c1 ?c2 ?c3 ?c4 hbase ?_
  case c1 =>
    intro j u hj
    match j, hj with
    | 0, hj => simp at hj; subst hj; simpa [Addr.add] using hb
  case c2 => intro u hu; simp at hu; subst hu; rfl
  case c3 => unfold maxLen; omega
  case c4 => omega
  intro v' w' h1 h2 _
  exact h v' w' (by simpa using h1) h2
end Go.Proofs.Ytefklmckkigllaa
