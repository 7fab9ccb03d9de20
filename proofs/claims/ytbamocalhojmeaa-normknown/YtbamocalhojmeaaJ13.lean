/- Joined texts of the proof. -/
import Derived.Test.YtbamocalhojmeaaJ9
import Derived.Test.YtbamocalhojmeaaJ12
import Derived.Laws.OwnMore
import Derived.Laws.AppendOwnNone
import Derived.Great.BuildSlice

/- The given answer's Races, Wrong. -/
namespace Go.Proofs.Ytbamocalhojmeaa
open Go.RowKit
set_option linter.unusedVariables false
attribute [local go_sem ↓] Go.wp_at_zero Go.wp_at_succ

theorem refWrongU_any (es : List Ev) (n : Int) (a : Option Addr) (c : Nat) (w : World) (h : RowEv w a es) (hl : es.length ≤ 4611686018427387904) (hk : es.length ≤ c) :
    Calls Try.prog 36 #[.slice a es.length c, .int .i64 n] w fun r w' => r = .returned (.int .i64 (wrongZ es n)) ∧ w' = w := by
  have HC := refWrong_any es n a c w h hl hk
  go_enter Try.func36, Try.ntmps36
  go_wp2_with (first | (go_at_call 57; refine HC.mono ?_; rintro _ w1 ⟨rfl, hw⟩; obtain rfl : w = w1 := hw.symm))
  go_ret
  exact ⟨rfl, rfl⟩
end Go.Proofs.Ytbamocalhojmeaa

/- clock.Past, where it tells events. -/
namespace Go.Proofs.Ytbamocalhojmeaa
open Go.RowKit
set_option linter.unusedVariables false
attribute [local go_sem ↓] Go.wp_at_zero Go.wp_at_succ

/-- The call's own row of numbers. -/
def OwnI (base : Nat) (w : World) (v : Value) (zs : List Int) : Prop := w.ownsRow base 3 1 v zs.length (zs.map I64)
theorem OwnI.block {base : Nat} {w : World} {v : Value} {zs : List Int} (h : OwnI base w v zs) : ∀ k, v.ownBlock = some k → base ≤ k := by
  intro k hk
  obtain ⟨_, ⟨rfl, _⟩ | ⟨g, cap, cur, rfl, hg, _⟩⟩ := h
  · simp [Value.ownBlock] at hk
  · simp [Value.ownBlock] at hk
    omega
theorem OwnI.below {base : Nat} {w w' : World} {v : Value} {zs : List Int} (h : OwnI base w v zs) (hb : Below w.heap.size w w') : OwnI base w' v zs := by
  obtain ⟨h0, ⟨h1, h2⟩ | ⟨g, cap, cur, rfl, hg, hh, hr⟩⟩ := h
  · exact ⟨h0, .inl ⟨h1, h2⟩⟩
  · refine ⟨h0, .inr ⟨g, cap, cur, rfl, hg, ?_, hr⟩⟩
    rw [hb.block g (heapLt hh)]
    exact hh
theorem OwnI.row {base : Nat} {w : World} {v : Value} {zs : List Int} (h : OwnI base w v zs) : ∃ a cap, v = .slice a zs.length cap ∧ zs.length ≤ cap ∧ RowI w a zs := by
  obtain ⟨h0, ⟨rfl, h2⟩ | ⟨g, cap, cur, rfl, hg, hh, hn, hm, hs, ht⟩⟩ := h
  · have : zs = [] := List.length_eq_zero_iff.1 h2
    subst this
    exact ⟨none, 0, rfl, Nat.le_refl _, .inl rfl⟩
  · refine ⟨_, cap, rfl, hn, .inr ⟨g, 0, rfl, fun i z hz => ?_⟩⟩
    have hi : i < zs.length := (List.getElem?_eq_some_iff.1 hz).1
    have e1 : (cur.toList.take (zs.length * 1))[i]? = some (I64 z) := by rw [ht, List.getElem?_map, hz]; rfl
    rw [List.getElem?_take_of_lt (by omega)] at e1
    simp only [World.cell?, hh, Nat.zero_add]
    simpa [I64] using e1
/-- 'out = append(out, z)'. -/
theorem appI {ops : Array Oper} {rest : List Oper} {o : Oper} {a : Act} {Q : Exit → Act → World → Prop} {w0 : World} (s x : Operand) (z : Int) (base : Nat) (v : Value) (out : List Int)
    (hgd : o.guard = none) (ho : o.op = .call { callee := .builtin .append, args := #[s, x], argTypes := #[23, 23] })
    (hs : a.eval s = v) (hx : a.eval x = .slice (some ⟨w0.heap.size, 0, none⟩) 1 1) (hown : OwnI base w0 v out) (hlen : out.length ≤ 1048576) (hbase : base ≤ w0.heap.size)
    (h : ∀ v' w', OwnI base w' v' (out ++ [z]) → Below base w0 w' → wpList Try.prog ops Q rest (a.put o.dst v') w') :
    wpList Try.prog ops Q (o :: rest) a (w0.alloc (.cells #[.int .i64 z] 3)) := by
  obtain ⟨i0, hi, hz0, hz1, hz2⟩ := info_parts Try.info3
  refine wpList_append_own (w := w0.alloc (.cells #[.int .i64 z] 3)) hgd s x 23 ho base 3 i0 (.int .i64 0) 1 8 Try.underlying23 hi hz0 hz1 hz2 rfl (by decide) v out.length (out.map I64) hs (World.ownsRow.alloc hown _)
    ⟨w0.heap.size, 0, none⟩ 1 1 [.int .i64 z] hx rfl ?c1 ?c2 ?c3 ?c4 ?c5 ?_
  case c1 =>
    intro j u hj
    match j, hj with
    | 0, hj => simp at hj; subst hj; simp [Addr.add]
  case c2 => intro u hu; simp at hu; subst hu; rfl
  case c3 => unfold maxLen; omega
  case c4 => omega
  case c5 => simp; omega
  intro v' w' h1 h2 _
  refine h v' w' ?_ ?_
  · simpa [OwnI, I64] using h1
  · exact ((Below.refl base w0).alloc hbase _).grown h2 (by simp; omega) hown.block

end Go.Proofs.Ytbamocalhojmeaa

/- Events of the call's own: laid, appended, as operations of a region that draws; whom a next event would race with. -/
namespace Go.Proofs.Ytbamocalhojmeaa
open Go.RowKit
set_option linter.unusedVariables false

def OwnE (base : Nat) (w : World) (v : Value) (es : List Ev) : Prop := w.ownsRow base 50 3 v es.length (flatE es)
theorem OwnE.below {base : Nat} {w w' : World} {v : Value} {es : List Ev} (h : OwnE base w v es) (hb : Below w.heap.size w w') : OwnE base w' v es := by
  obtain ⟨h0, ⟨h1, h2⟩ | ⟨g, cap, cur, rfl, hg, hh, hr⟩⟩ := h
  · exact ⟨h0, .inl ⟨h1, h2⟩⟩
  · refine ⟨h0, .inr ⟨g, cap, cur, rfl, hg, ?_, hr⟩⟩
    rw [hb.block g (heapLt hh)]
    exact hh
theorem OwnE.row {base : Nat} {w : World} {v : Value} {es : List Ev} (h : OwnE base w v es) : ∃ a cap, v = .slice a es.length cap ∧ es.length ≤ cap ∧ RowEv w a es := by
  obtain ⟨h0, ⟨rfl, h2⟩ | ⟨g, cap, cur, rfl, hg, hh, hn, hm, hs, ht⟩⟩ := h
  · have : es = [] := List.length_eq_zero_iff.1 h2
    subst this
    exact ⟨none, 0, rfl, Nat.le_refl _, .inl rfl⟩
  · refine ⟨_, cap, rfl, hn, .inr ⟨g, 0, rfl, fun i e he j v hj => ?_⟩⟩
    have ht2 : cur.toList.take (es.length * 3) = flatE es := ht
    have h1 := flatE_at es i e he j v hj
    rw [← ht2] at h1
    have hlt := (List.getElem?_eq_some_iff.1 h1).1
    rw [List.length_take] at hlt
    rw [List.getElem?_take_of_lt (by omega)] at h1
    simp only [World.cell?, hh, Nat.zero_add]
    simpa using h1
section
variable {o : Oper} {a : Act} {w : World} {K : Act → World → Prop} {Q : Exit → Act → World → Prop}
theorem wp_layE0 (ho : o.op = .buildSlice 22 0 #[]) (h : ∀ w', OwnE w.heap.size w' (.slice (some ⟨w.heap.size, 0, none⟩) 0 0) [] → Below w.heap.size w w' → w.heap.size < w'.heap.size → K (a.put o.dst (.slice (some ⟨w.heap.size, 0, none⟩) 0 0)) w') : o.wp Try.prog a w K Q := by
  have HO : (w.alloc (.cells #[] 50)).ownsRow w.heap.size 50 3 (.slice (some ⟨w.heap.size, 0, none⟩) 0 0) 0 [] := ⟨rfl, .inr ⟨w.heap.size, 0, #[], rfl, Nat.le_refl _, heap_new w _, Nat.le_refl _, by unfold maxLen; omega, rfl, rfl⟩⟩
  have := h _ HO ((Below.refl _ w).alloc (Nat.le_refl _) _) (by simp)
  unfold Oper.wp execOp
  rw [ho]
  go_simp
  exact this
theorem wp_layE1 (x : Operand) (ho : o.op = .buildSlice 22 1 #[(0, x)]) (e : Ev) (hx : a.eval x = .agg e.cells.toArray)
    (h : ∀ w', At 50 w' w.heap.size e.cells → Below w.heap.size w w' → w.heap.size < w'.heap.size → K (a.put o.dst (.slice (some ⟨w.heap.size, 0, none⟩) 1 1)) w') : o.wp Try.prog a w K Q := by
  obtain ⟨ie, hi, hz0, hz1, hz2⟩ := info_parts Try.info50
  refine wp_buildSlice 22 50 1 #[(0, x)] ho e.cells.toArray ie _ Try.underlying22 hi hz0 (by rw [hz1]; decide) (by rw [hz1]; decide) ?_ ?_
  · rw [hz1]
    simp only [List.map_toArray, List.map_cons, List.map_nil, hx]
    obtain ⟨t, k, b⟩ := e
    (show _ = _)
    kernel_rfl
  · exact h _ (heap_new w _) ((Below.refl _ w).alloc (Nat.le_refl _) _) (by simp)
theorem wp_appE (s x : Operand) (ho : o.op = .call { callee := .builtin .append, args := #[s, x], argTypes := #[22, 22] }) (base : Nat) (v : Value) (es fs : List Ev) (b : Option Addr) (m c : Nat)
    (hs : a.eval s = v) (hx : a.eval x = .slice b m c) (hown : OwnE base w v es) (hm : fs.length = m) (hnil : b = none → c = 0) (hc : m ≤ c) (hrow : RowEv w b fs) (hl : es.length + m ≤ 1048576) (hbase : base ≤ w.heap.size)
    (h : ∀ v' w', OwnE base w' v' (es ++ fs) → Below base w w' → (∀ g cs, At 50 w g cs → v.ownBlock ≠ some g → At 50 w' g cs) → w.heap.size ≤ w'.heap.size → K (a.put o.dst v') w') : o.wp Try.prog a w K Q := by
  obtain ⟨i0, hi, hz0, hz1, hz2⟩ := info_parts Try.info50
  have hblk : ∀ k, v.ownBlock = some k → base ≤ k := by
    intro k hk
    obtain ⟨_, ⟨rfl, _⟩ | ⟨g, cap, cur, rfl, hg, _⟩⟩ := hown
    · simp [Value.ownBlock] at hk
    · simp [Value.ownBlock] at hk
      omega
  cases b with
  | none =>
    obtain rfl : c = 0 := hnil rfl
    obtain rfl : m = 0 := by omega
    have hf : fs = [] := List.length_eq_zero_iff.1 hm
    subst hf
    have := h v w (by rw [List.append_nil]; exact hown) (Below.refl _ _) (fun g cs h _ => h) (Nat.le_refl _)
    have hrun := run_append_owned_none (P := Try.prog) (w := w) base 22 o.type 50 i0 3 Try.underlying22 hi v es.length (flatE es) hown
    unfold Oper.wp
    simp [execOp, ho, resolve, invoke, builtin, hs, hx, hrun, Result.andThen]
    exact this
  | some ad =>
    have hnews : ∀ j u, (flatE fs)[j]? = some u → w.cell? (ad.add j) = some u := by
      intro j u hj
      rcases hrow with h0 | ⟨g, off, hb, hr⟩
      · rw [h0] at hj; simp [flatE] at hj
      · cases hb
        rw [add_none]
        exact rowEv_cell (.inr ⟨g, off, rfl, hr⟩) j u hj
    refine wp_append_own w s x 22 ho base 50 i0 _ 3 24 Try.underlying22 hi hz0 hz1 hz2 rfl (by decide) v es.length (flatE es) hs hown ad m c (flatE fs) hx (by rw [flatE_length, hm]; omega) hnews (one_flatE fs) (by unfold maxLen; omega) (by omega) hbase ?_
    intro v' w' h1 h2 _
    refine h v' w' ?_ ((Below.refl base w).grown h2 hbase hblk) ?_ h2.size
    · unfold OwnE
      rw [List.length_append, hm, flatE_append]
      exact h1
    · intro g cs hg hne
      unfold At at hg ⊢
      rw [h2.block g (heapLt hg) (fun e => hne e.symm)]
      exact hg
end
/-- Whom a next event would race with. -/
def pendL (p : Nat → Nat → Bool) (m : Nat) : List Int := ((List.range m).filter (p m)).map fun (i : Nat) => (i : Int)
def pendTo (m : Nat) (ps : List (Nat × Nat)) : List Int := (ps.filter fun x => decide (x.2 = m)).map fun x => (x.1 : Int)
theorem pendTo_end (p : Nat → Nat → Bool) (m : Nat) : pendTo m (pairsL p (m + 1)) = pendL p m := by
  unfold pendTo pendL
  rw [pairsL_succ, List.filter_append]
  have h1 : (pairsL p m).filter (fun x => decide (x.2 = m)) = [] := by
    rw [List.filter_eq_nil_iff]
    rintro ⟨i, j⟩ hx h
    have := mem_pairsL.1 hx
    simp at h
    omega
  have h2 : (pairsTo p m m).filter (fun x => decide (x.2 = m)) = pairsTo p m m := by
    rw [List.filter_eq_self]
    rintro ⟨i, j⟩ hx
    unfold pairsTo at hx
    obtain ⟨a, _, h⟩ := List.mem_map.1 hx
    cases h
    simp
  rw [h1, h2, List.nil_append]
  unfold pairsTo
  rw [List.map_map]
  rfl
theorem pendTo_yes {m : Nat} {ps : List (Nat × Nat)} {k : Nat} {x : Nat × Nat} (hx : ps[k]? = some x) (h : x.2 = m) : pendTo m (ps.take (k + 1)) = pendTo m (ps.take k) ++ [(x.1 : Int)] := by
  have : ps.take (k + 1) = ps.take k ++ [x] := by rw [List.take_add_one, hx]; rfl
  unfold pendTo
  rw [this, List.filter_append]
  simp [h]
theorem pendTo_no {m : Nat} {ps : List (Nat × Nat)} {k : Nat} {x : Nat × Nat} (hx : ps[k]? = some x) (h : x.2 ≠ m) : pendTo m (ps.take (k + 1)) = pendTo m (ps.take k) := by
  have : ps.take (k + 1) = ps.take k ++ [x] := by rw [List.take_add_one, hx]; rfl
  unfold pendTo
  rw [this, List.filter_append]
  simp [h]
theorem pendTo_length (m : Nat) (ps : List (Nat × Nat)) : (pendTo m ps).length ≤ ps.length := by
  unfold pendTo
  rw [List.length_map]
  exact List.length_filter_le _ _
theorem appEn {ops : Array Oper} {rest : List Oper} {o : Oper} {a : Act} {Q : Exit → Act → World → Prop} {w0 : World} (s x : Operand) (fs : List Ev) (k base : Nat) (v : Value) (es : List Ev)
    (hgd : o.guard = none) (ho : o.op = .call { callee := .builtin .append, args := #[s, x], argTypes := #[22, 22] })
    (hs : a.eval s = v) (hx : a.eval x = .slice (some ⟨w0.heap.size, 0, none⟩) k k) (hk : fs.length = k) (hown : OwnE base w0 v es) (hlen : es.length + k ≤ 1048576) (hbase : base ≤ w0.heap.size)
    (h : ∀ v' w', OwnE base w' v' (es ++ fs) → Below base w0 w' → wpList Try.prog ops Q rest (a.put o.dst v') w') :
    wpList Try.prog ops Q (o :: rest) a (w0.alloc (.cells (flatE fs).toArray 50)) := by
  have hb0 : Below w0.heap.size w0 (w0.alloc (.cells (flatE fs).toArray 50)) := (Below.refl _ w0).alloc (Nat.le_refl _) _
  have hrow : RowEv (w0.alloc (.cells (flatE fs).toArray 50)) (some ⟨w0.heap.size, 0, none⟩) fs := rowEv_of (heap_new w0 _)
  refine wpList_plain hgd fun K hK => ?_
  refine wp_appE s x ho base v es fs (some ⟨w0.heap.size, 0, none⟩) k k hs hx (hown.below hb0) hk (fun h => by cases h) (Nat.le_refl _) hrow hlen (Nat.le_trans hbase hb0.size) ?_
  intro v' w' h1 h2 _ _
  exact hK _ _ (h v' w' h1 ((hb0.mono hbase).trans h2))

end Go.Proofs.Ytbamocalhojmeaa

/- The least form: which event comes next (mathematics). -/
namespace Go.Proofs.Ytbamocalhojmeaa
open Go.RowKit
set_option linter.unusedVariables false

def memB (out : List Nat) (j : Nat) : Bool := decide (j ∈ out)
/-- May j come next, as far as k events are looked at? -/
def mayN (ev : Nat → Ev) (out : List Nat) (j k : Nat) : Bool := !memB out j && (List.range k).all fun i => memB out i || !hbB ev j i
theorem mayN_zero (ev : Nat → Ev) (out : List Nat) (j : Nat) : mayN ev out j 0 = !memB out j := by simp [mayN]
theorem mayN_step (ev : Nat → Ev) (out : List Nat) (j k : Nat) : mayN ev out j (k + 1) = (mayN ev out j k && (memB out k || !hbB ev j k)) := by simp [mayN, List.range_succ, Bool.and_assoc]
def mayE (ev : Nat → Ev) (out : List Nat) (j : Nat) : Bool := mayN ev out j j
theorem mayE_iff {ev : Nat → Ev} {out : List Nat} {j : Nat} : mayE ev out j = true ↔ j ∉ out ∧ ∀ i, HB ev i j → i ∈ out := by
  unfold mayE mayN memB
  simp only [Bool.and_eq_true, Bool.not_eq_true', decide_eq_false_iff_not, List.all_eq_true, List.mem_range, Bool.or_eq_true, decide_eq_true_eq]
  constructor
  · rintro ⟨h1, h2⟩
    refine ⟨h1, fun i hi => ?_⟩
    rcases h2 i hi.lt with h | h
    · exact h
    · have := (hbB_iff ev j i).2 hi
      rw [h] at this
      cases this
  · rintro ⟨h1, h2⟩
    refine ⟨h1, fun i hi => ?_⟩
    by_cases h : hbB ev j i = true
    · exact .inl (h2 i ((hbB_iff ev j i).1 h))
    · exact .inr (by simpa using h)
def beats (ev : Nat → Ev) (k : Nat) : Option Nat → Bool
  | none => true
  | some b => decide ((ev k).th < (ev b).th)
/-- The best among the first k. -/
def bestN (ev : Nat → Ev) (out : List Nat) : Nat → Option Nat
  | 0 => none
  | k + 1 => if mayE ev out k && beats ev k (bestN ev out k) then some k else bestN ev out k
theorem bestN_lt {ev : Nat → Ev} {out : List Nat} : ∀ {k b : Nat}, bestN ev out k = some b → b < k ∧ mayE ev out b = true
  | 0, b, h => by simp [bestN] at h
  | k + 1, b, h => by
    unfold bestN at h
    split at h
    · rename_i hc
      cases h
      exact ⟨Nat.lt_succ_self _, (Bool.and_eq_true_iff.1 hc).1⟩
    · have := bestN_lt h
      exact ⟨by omega, this.2⟩
theorem bestN_some {ev : Nat → Ev} {out : List Nat} : ∀ {k j : Nat}, j < k → mayE ev out j = true → bestN ev out k ≠ none
  | 0, j, h, _ => by omega
  | k + 1, j, h, hm => by
    unfold bestN
    split
    · simp
    · rename_i hc
      rcases Nat.lt_or_ge j k with h1 | h1
      · exact bestN_some h1 hm
      · obtain rfl : j = k := by omega
        intro h2
        rw [hm, h2] at hc
        simp [beats] at hc
/-- Of those that may come next the best has the least thread, and is the first of it. -/
theorem bestN_least {ev : Nat → Ev} {out : List Nat} : ∀ {k b : Nat}, bestN ev out k = some b → ∀ j, j < k → mayE ev out j = true → (ev b).th < (ev j).th ∨ ((ev b).th = (ev j).th ∧ b ≤ j)
  | 0, b, h, j, hj, _ => by omega
  | k + 1, b, h, j, hj, hm => by
    unfold bestN at h
    split at h
    · rename_i hc
      cases h
      rcases Nat.lt_or_ge j k with h1 | h1
      · cases h2 : bestN ev out k with
        | none => exact absurd h2 (bestN_some h1 hm)
        | some b =>
          rw [h2] at hc
          have h3 : (ev k).th < (ev b).th := by simpa [beats] using (Bool.and_eq_true_iff.1 hc).2
          rcases bestN_least h2 j h1 hm with h4 | ⟨h4, _⟩
          · exact .inl (by omega)
          · exact .inl (by omega)
      · obtain rfl : j = k := by omega
        exact .inr ⟨rfl, Nat.le_refl _⟩
    · rename_i hc
      rcases Nat.lt_or_ge j k with h1 | h1
      · exact bestN_least h j h1 hm
      · obtain rfl : j = k := by omega
        rw [hm, h] at hc
        have h3 : ¬ (ev j).th < (ev b).th := by simpa [beats] using hc
        have h4 := (bestN_lt h).1
        rcases Int.lt_or_eq_of_le (show (ev b).th ≤ (ev j).th by omega) with h5 | h5
        · exact .inl h5
        · exact .inr ⟨h5, by omega⟩
/-- The first so many of the least form. -/
def leastN (ev : Nat → Ev) (n : Nat) : Nat → List Nat
  | 0 => []
  | s + 1 => leastN ev n s ++ [(bestN ev (leastN ev n s) n).getD 0]
def leastL (ev : Nat → Ev) (n : Nat) : List Nat := leastN ev n n
theorem leastN_length (ev : Nat → Ev) (n : Nat) : ∀ s, (leastN ev n s).length = s
  | 0 => rfl
  | s + 1 => by simp [leastN, leastN_length ev n s]
theorem countN_or (p q : Nat → Bool) : ∀ n, countN (fun i => p i || q i) n ≤ countN p n + countN q n
  | 0 => Nat.le_refl _
  | n + 1 => by
    have := countN_or p q n
    simp only [countN]
    by_cases h1 : p n = true <;> by_cases h2 : q n = true <;> simp [h1, h2] <;> omega
theorem countN_one (x : Nat) : ∀ n, countN (fun i => decide (i = x)) n ≤ 1 ∧ (n ≤ x → countN (fun i => decide (i = x)) n = 0)
  | 0 => ⟨by simp [countN], fun _ => rfl⟩
  | n + 1 => by
    have ⟨h1, h2⟩ := countN_one x n
    simp only [countN]
    by_cases h : n = x
    · subst h
      rw [h2 (Nat.le_refl _)]
      simp
    · simp [h]
      exact ⟨h1, fun h3 => h2 (by omega)⟩
theorem count_mem (n : Nat) : ∀ out : List Nat, countN (memB out) n ≤ out.length
  | [] => by rw [countN_zero n fun i _ => by simp [memB]]; exact Nat.zero_le _
  | x :: r => by
    have h1 := count_mem n r
    have h2 := (countN_one x n).1
    have h3 : countN (memB (x :: r)) n = countN (fun i => decide (i = x) || memB r i) n := countN_congr n fun i _ => by simp [memB]
    have h4 := countN_or (fun i => decide (i = x)) (memB r) n
    rw [h3]
    simp only [List.length_cons]
    omega
theorem countN_all {p : Nat → Bool} : ∀ n, (∀ i, i < n → p i = true) → countN p n = n
  | 0, _ => rfl
  | n + 1, h => by
    simp only [countN]
    rw [countN_all n fun i hi => h i (by omega), h n (by omega)]
    rfl
/-- While not all are there, one may come next. -/
theorem may_some {ev : Nat → Ev} {out : List Nat} {n : Nat} (h : out.length < n) : ∃ j, j < n ∧ mayE ev out j = true := by
  have hex : ∃ i, i < n ∧ (fun i => !memB out i) i = true := by
    by_cases hc : ∀ i, i < n → memB out i = true
    · have := countN_all n hc
      have := count_mem n out
      omega
    · obtain ⟨i, h1⟩ := Classical.not_forall.1 hc
      obtain ⟨h2, h3⟩ := Classical.not_imp.1 h1
      exact ⟨i, h2, by simpa using h3⟩
  have first : ∀ k, (∃ i, i < k ∧ memB out i = false) → ∃ j, j < k ∧ memB out j = false ∧ ∀ i, i < j → memB out i = true := by
    intro k
    induction k with
    | zero => rintro ⟨i, h, _⟩; omega
    | succ k ih =>
      rintro ⟨i, h1, h2⟩
      by_cases hs : ∃ i, i < k ∧ memB out i = false
      · obtain ⟨j, h3, h4, h5⟩ := ih hs
        exact ⟨j, by omega, h4, h5⟩
      · have hik : i = k := by
          rcases Nat.lt_or_ge i k with h | h
          · exact absurd ⟨i, h, h2⟩ hs
          · omega
        subst hik
        refine ⟨i, by omega, h2, fun x hx => ?_⟩
        cases hb : memB out x with
        | true => rfl
        | false => exact absurd ⟨x, hx, hb⟩ hs
  obtain ⟨i, h1, h2⟩ := hex
  obtain ⟨j, h3, h4, h5⟩ := first n ⟨i, h1, by simpa using h2⟩
  refine ⟨j, h3, mayE_iff.2 ⟨by simpa [memB] using h4, fun x hx => ?_⟩⟩
  have := h5 x hx.lt
  simpa [memB] using this
theorem best_is {ev : Nat → Ev} {n s : Nat} (h : s < n) : ∃ b, bestN ev (leastN ev n s) n = some b ∧ b < n ∧ mayE ev (leastN ev n s) b = true := by
  obtain ⟨j, h1, h2⟩ := may_some (ev := ev) (out := leastN ev n s) (n := n) (by rw [leastN_length]; exact h)
  cases hb : bestN ev (leastN ev n s) n with
  | none => exact absurd hb (bestN_some h1 h2)
  | some b => exact ⟨b, rfl, bestN_lt hb⟩
theorem leastN_next {ev : Nat → Ev} {n s b : Nat} (h : bestN ev (leastN ev n s) n = some b) : leastN ev n (s + 1) = leastN ev n s ++ [b] := by
  simp [leastN, h]
theorem memB_snoc (out : List Nat) (b j : Nat) : memB (out ++ [b]) j = (memB out j || decide (j = b)) := by
  simp [memB]
end Go.Proofs.Ytbamocalhojmeaa
