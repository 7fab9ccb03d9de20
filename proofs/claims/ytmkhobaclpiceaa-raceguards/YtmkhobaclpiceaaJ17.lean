/- Joined texts of the proof. -/
import Derived.Test.YtmkhobaclpiceaaJ16
import Derived.Laws.OwnMore
import Derived.Laws.AppendOwnNone
import Derived.Great.BuildSlice
import Derived.Lib.AppendZeros
import Derived.Test.YtmkhobaclpiceaaJ3

/- clock.Past, where it tells events. -/
namespace Go.Proofs.Ytmkhobaclpiceaa
open Go.RowKit
set_option linter.unusedVariables false
attribute [local go_sem ↓] Go.wp_at_zero Go.wp_at_succ

/-- The call's own row of numbers. -/
def OwnI (base : Nat) (w : World) (v : Value) (zs : List Int) : Prop := w.ownsRow base 3 1 v zs.length (zs.map I64)
theorem OwnI.block {base : Nat} {w : World} {v : Value} {zs : List Int} (h : OwnI base w v zs) : ∀ k, v.ownBlock = some k → base ≤ k := by
  intro k hk
  obtain ⟨_, ⟨rfl, _⟩ | ⟨g, cap, cur, rfl, hg, _⟩⟩ := h
  · simp [Value.ownBlock] at hk
  · simp [Value.ownBlock] at hk
    omega
theorem OwnI.below {base : Nat} {w w' : World} {v : Value} {zs : List Int} (h : OwnI base w v zs) (hb : Below w.heap.size w w') : OwnI base w' v zs := by
  obtain ⟨h0, ⟨h1, h2⟩ | ⟨g, cap, cur, rfl, hg, hh, hr⟩⟩ := h
  · exact ⟨h0, .inl ⟨h1, h2⟩⟩
  · refine ⟨h0, .inr ⟨g, cap, cur, rfl, hg, ?_, hr⟩⟩
    rw [hb.block g (heapLt hh)]
    exact hh
theorem OwnI.row {base : Nat} {w : World} {v : Value} {zs : List Int} (h : OwnI base w v zs) : ∃ a cap, v = .slice a zs.length cap ∧ zs.length ≤ cap ∧ RowI w a zs := by
  obtain ⟨h0, ⟨rfl, h2⟩ | ⟨g, cap, cur, rfl, hg, hh, hn, hm, hs, ht⟩⟩ := h
  · have : zs = [] := List.length_eq_zero_iff.1 h2
    subst this
    exact ⟨none, 0, rfl, Nat.le_refl _, .inl rfl⟩
  · refine ⟨_, cap, rfl, hn, .inr ⟨g, 0, rfl, fun i z hz => ?_⟩⟩
    have hi : i < zs.length := (List.getElem?_eq_some_iff.1 hz).1
    have e1 : (cur.toList.take (zs.length * 1))[i]? = some (I64 z) := by rw [ht, List.getElem?_map, hz]; rfl
    rw [List.getElem?_take_of_lt (by omega)] at e1
    simp only [World.cell?, hh, Nat.zero_add]
    simpa [I64] using e1
/-- 'out = append(out, z)'. -/
theorem appI {ops : Array Oper} {rest : List Oper} {o : Oper} {a : Act} {Q : Exit → Act → World → Prop} {w0 : World} (s x : Operand) (z : Int) (base : Nat) (v : Value) (out : List Int)
    (hgd : o.guard = none) (ho : o.op = .call { callee := .builtin .append, args := #[s, x], argTypes := #[32, 32] })
    (hs : a.eval s = v) (hx : a.eval x = .slice (some ⟨w0.heap.size, 0, none⟩) 1 1) (hown : OwnI base w0 v out) (hlen : out.length ≤ 1048576) (hbase : base ≤ w0.heap.size)
    (h : ∀ v' w', OwnI base w' v' (out ++ [z]) → Below base w0 w' → wpList Try.prog ops Q rest (a.put o.dst v') w') :
    wpList Try.prog ops Q (o :: rest) a (w0.alloc (.cells #[.int .i64 z] 3)) := by
  obtain ⟨i0, hi, hz0, hz1, hz2⟩ := info_parts Try.info3
  refine wpList_append_own (w := w0.alloc (.cells #[.int .i64 z] 3)) hgd s x 32 ho base 3 i0 (.int .i64 0) 1 8 Try.underlying32 hi hz0 hz1 hz2 rfl (by decide) v out.length (out.map I64) hs (World.ownsRow.alloc hown _)
    ⟨w0.heap.size, 0, none⟩ 1 1 [.int .i64 z] hx rfl ?c1 ?c2 ?c3 ?c4 ?c5 ?_
  case c1 =>
    intro j u hj
    match j, hj with
    | 0, hj => simp at hj; subst hj; simp [Addr.add]
  case c2 => intro u hu; simp at hu; subst hu; rfl
  case c3 => unfold maxLen; omega
  case c4 => omega
  case c5 => simp; omega
  intro v' w' h1 h2 _
  refine h v' w' ?_ ?_
  · simpa [OwnI, I64] using h1
  · exact ((Below.refl base w0).alloc hbase _).grown h2 (by simp; omega) hown.block

end Go.Proofs.Ytmkhobaclpiceaa

/- Events of the call's own: laid, appended, as operations of a region that draws; whom a next event would race with. -/
namespace Go.Proofs.Ytmkhobaclpiceaa
open Go.RowKit
set_option linter.unusedVariables false

def OwnE (base : Nat) (w : World) (v : Value) (es : List Ev) : Prop := w.ownsRow base 24 3 v es.length (flatE es)
theorem OwnE.below {base : Nat} {w w' : World} {v : Value} {es : List Ev} (h : OwnE base w v es) (hb : Below w.heap.size w w') : OwnE base w' v es := by
  obtain ⟨h0, ⟨h1, h2⟩ | ⟨g, cap, cur, rfl, hg, hh, hr⟩⟩ := h
  · exact ⟨h0, .inl ⟨h1, h2⟩⟩
  · refine ⟨h0, .inr ⟨g, cap, cur, rfl, hg, ?_, hr⟩⟩
    rw [hb.block g (heapLt hh)]
    exact hh
theorem OwnE.row {base : Nat} {w : World} {v : Value} {es : List Ev} (h : OwnE base w v es) : ∃ a cap, v = .slice a es.length cap ∧ es.length ≤ cap ∧ RowEv w a es := by
  obtain ⟨h0, ⟨rfl, h2⟩ | ⟨g, cap, cur, rfl, hg, hh, hn, hm, hs, ht⟩⟩ := h
  · have : es = [] := List.length_eq_zero_iff.1 h2
    subst this
    exact ⟨none, 0, rfl, Nat.le_refl _, .inl rfl⟩
  · refine ⟨_, cap, rfl, hn, .inr ⟨g, 0, rfl, fun i e he j v hj => ?_⟩⟩
    have ht2 : cur.toList.take (es.length * 3) = flatE es := ht
    have h1 := flatE_at es i e he j v hj
    rw [← ht2] at h1
    have hlt := (List.getElem?_eq_some_iff.1 h1).1
    rw [List.length_take] at hlt
    rw [List.getElem?_take_of_lt (by omega)] at h1
    simp only [World.cell?, hh, Nat.zero_add]
    simpa using h1
section
variable {o : Oper} {a : Act} {w : World} {K : Act → World → Prop} {Q : Exit → Act → World → Prop}
theorem wp_layE0 (ho : o.op = .buildSlice 22 0 #[]) (h : ∀ w', OwnE w.heap.size w' (.slice (some ⟨w.heap.size, 0, none⟩) 0 0) [] → Below w.heap.size w w' → w.heap.size < w'.heap.size → K (a.put o.dst (.slice (some ⟨w.heap.size, 0, none⟩) 0 0)) w') : o.wp Try.prog a w K Q := by
  have HO : (w.alloc (.cells #[] 24)).ownsRow w.heap.size 24 3 (.slice (some ⟨w.heap.size, 0, none⟩) 0 0) 0 [] := ⟨rfl, .inr ⟨w.heap.size, 0, #[], rfl, Nat.le_refl _, heap_new w _, Nat.le_refl _, by unfold maxLen; omega, rfl, rfl⟩⟩
  have := h _ HO ((Below.refl _ w).alloc (Nat.le_refl _) _) (by simp)
  unfold Oper.wp execOp
  rw [ho]
  go_simp
  exact this
theorem wp_layE1 (x : Operand) (ho : o.op = .buildSlice 22 1 #[(0, x)]) (e : Ev) (hx : a.eval x = .agg e.cells.toArray)
    (h : ∀ w', At 24 w' w.heap.size e.cells → Below w.heap.size w w' → w.heap.size < w'.heap.size → K (a.put o.dst (.slice (some ⟨w.heap.size, 0, none⟩) 1 1)) w') : o.wp Try.prog a w K Q := by
  obtain ⟨ie, hi, hz0, hz1, hz2⟩ := info_parts Try.info24
  refine wp_buildSlice 22 24 1 #[(0, x)] ho e.cells.toArray ie _ Try.underlying22 hi hz0 (by rw [hz1]; decide) (by rw [hz1]; decide) ?_ ?_
  · rw [hz1]
    simp only [List.map_toArray, List.map_cons, List.map_nil, hx]
    obtain ⟨t, k, b⟩ := e
    (show _ = _)
    kernel_rfl
  · exact h _ (heap_new w _) ((Below.refl _ w).alloc (Nat.le_refl _) _) (by simp)
theorem wp_appE (s x : Operand) (ho : o.op = .call { callee := .builtin .append, args := #[s, x], argTypes := #[22, 22] }) (base : Nat) (v : Value) (es fs : List Ev) (b : Option Addr) (m c : Nat)
    (hs : a.eval s = v) (hx : a.eval x = .slice b m c) (hown : OwnE base w v es) (hm : fs.length = m) (hnil : b = none → c = 0) (hc : m ≤ c) (hrow : RowEv w b fs) (hl : es.length + m ≤ 1048576) (hbase : base ≤ w.heap.size)
    (h : ∀ v' w', OwnE base w' v' (es ++ fs) → Below base w w' → (∀ g cs, At 24 w g cs → v.ownBlock ≠ some g → At 24 w' g cs) → w.heap.size ≤ w'.heap.size → K (a.put o.dst v') w') : o.wp Try.prog a w K Q := by
  obtain ⟨i0, hi, hz0, hz1, hz2⟩ := info_parts Try.info24
  have hblk : ∀ k, v.ownBlock = some k → base ≤ k := by
    intro k hk
    obtain ⟨_, ⟨rfl, _⟩ | ⟨g, cap, cur, rfl, hg, _⟩⟩ := hown
    · simp [Value.ownBlock] at hk
    · simp [Value.ownBlock] at hk
      omega
  cases b with
  | none =>
    obtain rfl : c = 0 := hnil rfl
    obtain rfl : m = 0 := by omega
    have hf : fs = [] := List.length_eq_zero_iff.1 hm
    subst hf
    have := h v w (by rw [List.append_nil]; exact hown) (Below.refl _ _) (fun g cs h _ => h) (Nat.le_refl _)
    have hrun := run_append_owned_none (P := Try.prog) (w := w) base 22 o.type 24 i0 3 Try.underlying22 hi v es.length (flatE es) hown
    unfold Oper.wp
    simp [execOp, ho, resolve, invoke, builtin, hs, hx, hrun, Result.andThen]
    exact this
  | some ad =>
    have hnews : ∀ j u, (flatE fs)[j]? = some u → w.cell? (ad.add j) = some u := by
      intro j u hj
      rcases hrow with h0 | ⟨g, off, hb, hr⟩
      · rw [h0] at hj; simp [flatE] at hj
      · cases hb
        rw [add_none]
        exact rowEv_cell (.inr ⟨g, off, rfl, hr⟩) j u hj
    refine wp_append_own w s x 22 ho base 24 i0 _ 3 24 Try.underlying22 hi hz0 hz1 hz2 rfl (by decide) v es.length (flatE es) hs hown ad m c (flatE fs) hx (by rw [flatE_length, hm]; omega) hnews (one_flatE fs) (by unfold maxLen; omega) (by omega) hbase ?_
    intro v' w' h1 h2 _
    refine h v' w' ?_ ((Below.refl base w).grown h2 hbase hblk) ?_ h2.size
    · unfold OwnE
      rw [List.length_append, hm, flatE_append]
      exact h1
    · intro g cs hg hne
      unfold At at hg ⊢
      rw [h2.block g (heapLt hg) (fun e => hne e.symm)]
      exact hg
end
/-- Whom a next event would race with. -/
def pendL (p : Nat → Nat → Bool) (m : Nat) : List Int := ((List.range m).filter (p m)).map fun (i : Nat) => (i : Int)
def pendTo (m : Nat) (ps : List (Nat × Nat)) : List Int := (ps.filter fun x => decide (x.2 = m)).map fun x => (x.1 : Int)
theorem pendTo_end (p : Nat → Nat → Bool) (m : Nat) : pendTo m (pairsL p (m + 1)) = pendL p m := by
  unfold pendTo pendL
  rw [pairsL_succ, List.filter_append]
  have h1 : (pairsL p m).filter (fun x => decide (x.2 = m)) = [] := by
    rw [List.filter_eq_nil_iff]
    rintro ⟨i, j⟩ hx h
    have := mem_pairsL.1 hx
    simp at h
    omega
  have h2 : (pairsTo p m m).filter (fun x => decide (x.2 = m)) = pairsTo p m m := by
    rw [List.filter_eq_self]
    rintro ⟨i, j⟩ hx
    unfold pairsTo at hx
    obtain ⟨a, _, h⟩ := List.mem_map.1 hx
    cases h
    simp
  rw [h1, h2, List.nil_append]
  unfold pairsTo
  rw [List.map_map]
  rfl
theorem pendTo_yes {m : Nat} {ps : List (Nat × Nat)} {k : Nat} {x : Nat × Nat} (hx : ps[k]? = some x) (h : x.2 = m) : pendTo m (ps.take (k + 1)) = pendTo m (ps.take k) ++ [(x.1 : Int)] := by
  have : ps.take (k + 1) = ps.take k ++ [x] := by rw [List.take_add_one, hx]; rfl
  unfold pendTo
  rw [this, List.filter_append]
  simp [h]
theorem pendTo_no {m : Nat} {ps : List (Nat × Nat)} {k : Nat} {x : Nat × Nat} (hx : ps[k]? = some x) (h : x.2 ≠ m) : pendTo m (ps.take (k + 1)) = pendTo m (ps.take k) := by
  have : ps.take (k + 1) = ps.take k ++ [x] := by rw [List.take_add_one, hx]; rfl
  unfold pendTo
  rw [this, List.filter_append]
  simp [h]
theorem pendTo_length (m : Nat) (ps : List (Nat × Nat)) : (pendTo m ps).length ≤ ps.length := by
  unfold pendTo
  rw [List.length_map]
  exact List.length_filter_le _ _
end Go.Proofs.Ytmkhobaclpiceaa

/- slices.Concat of a row of events and one more. -/
namespace Go.Proofs.Ytmkhobaclpiceaa
open Go.RowKit
set_option linter.unusedVariables false
attribute [local go_sem ↓] Go.wp_at_zero Go.wp_at_succ

set_option maxRecDepth 100000 in
set_option maxHeartbeats 1600000 in
theorem grow_any (k : Nat) (w : World) (hk : 0 < k) (hk2 : k ≤ 2048) :
    Calls Try.prog 53 #[.slice none 0 0, .int .i64 k] w fun r w' => ∃ cap, r = .returned (.slice (some ⟨w.heap.size, 0, none⟩) 0 cap) ∧ OwnE w.heap.size w' (.slice (some ⟨w.heap.size, 0, none⟩) 0 cap) [] ∧ Below w.heap.size w w' := by
  obtain ⟨i0, hi, hz0, hz1, hz2⟩ := info_parts Try.info24
  have hrun := Lib.run_append_nil_zeros (P := Try.prog) w 22 3 22 24 i0 _ .i64 .i64 Try.underlying22 Try.underlying3 hi hz0 k hk (by rw [hz1]; decide) (by omega) (by rw [hz2]; omega)
  have hge := grownCap_ge w k 0 24
  have hcm : grownCap w k 0 24 ≤ maxLen := grownCap_le_maxLen w k 0 24 (by unfold maxLen; omega)
  obtain ⟨cap, hcap⟩ : ∃ cap, cap = grownCap w k 0 24 := ⟨_, rfl⟩
  rw [← hcap] at hrun hge hcm
  have HO : Hid (OwnE w.heap.size (w.drew.alloc (.cells (Builtin.zeroCells (Value.agg #[.int .i64 0, .int .i64 0, .int .i64 0]).cells k ++ Builtin.zeroCells (Value.agg #[.int .i64 0, .int .i64 0, .int .i64 0]).cells (cap - k)) 24)) (.slice (some ⟨w.heap.size, 0, none⟩) 0 cap) [] ∧ Below w.heap.size w (w.drew.alloc (.cells (Builtin.zeroCells (Value.agg #[.int .i64 0, .int .i64 0, .int .i64 0]).cells k ++ Builtin.zeroCells (Value.agg #[.int .i64 0, .int .i64 0, .int .i64 0]).cells (cap - k)) 24))) := by
    refine ⟨⟨rfl, .inr ⟨w.heap.size, cap, _, rfl, Nat.le_refl _, heap_new w.drew _, Nat.zero_le _, hcm, ?_, ?_⟩⟩, (Below.drew (Below.refl _ w)).alloc (Nat.le_refl _) _⟩
    · rw [Array.size_append, size_zeroCells, size_zeroCells, show (Value.agg #[.int .i64 0, .int .i64 0, .int .i64 0]).cells.size = 3 from rfl]; omega
    · simp [flatE]
  have s1 := fun u => runE_slice_to u none 0 0 0 0 rfl (Nat.le_refl _)
  have s2 := fun u => runE_slice_to u (some ⟨w.heap.size, 0, none⟩) k cap 0 0 rfl (Nat.zero_le _)
  clear hcap
  go_enter Try.func53, Try.ntmps53
  go_wp2_with (at_builtin; refine Lib.wpList_append_run _ rfl (.tmp 20) (.tmp 21) 22 3 rfl _ _ rfl rfl _ _ hrun ?_)
  go_ret
  exact ⟨cap, rfl, HO.out.1, HO.out.2⟩

theorem wpList_appE {ops : Array Oper} {rest : List Oper} {o : Oper} {a : Act} {w : World} {Q : Exit → Act → World → Prop} (hgd : o.guard = none) (s x : Operand) (ho : o.op = .call { callee := .builtin .append, args := #[s, x], argTypes := #[22, 22] }) (base : Nat) (v : Value) (es fs : List Ev) (b : Option Addr) (m c : Nat)
    (hs : a.eval s = v) (hx : a.eval x = .slice b m c) (hown : OwnE base w v es) (hm : fs.length = m) (hnil : b = none → c = 0) (hc : m ≤ c) (hrow : RowEv w b fs) (hl : es.length + m ≤ 1048576) (hbase : base ≤ w.heap.size)
    (h : ∀ v' w', OwnE base w' v' (es ++ fs) → Below base w w' → wpList Try.prog ops Q rest (a.put o.dst v') w') : wpList Try.prog ops Q (o :: rest) a w :=
  wpList_plain hgd fun _ hK => wp_appE s x ho base v es fs b m c hs hx hown hm hnil hc hrow hl hbase (fun v' w' h1 h2 _ _ => hK _ _ (h v' w' h1 h2))

set_option maxRecDepth 100000 in
set_option maxHeartbeats 3200000 in
theorem concat_any (es fs : List Ev) (k m : Nat) (a b : Option Addr) (c d gh : Nat) (w : World) (hH : At 22 w gh [.slice a k c, .slice b m d]) (hE : RowEv w a es) (hF : RowEv w b fs) (hk : es.length = k) (hm : fs.length = m) (hc : k ≤ c) (hd : m ≤ d) (hna : a = none → c = 0) (hnb : b = none → d = 0) (hk2 : k ≤ 1024) (hm1 : 0 < m) (hm2 : m ≤ 1024) :
    Calls Try.prog 37 #[.slice (some ⟨gh, 0, none⟩) 2 2] w fun r w' => ∃ v, r = .returned v ∧ OwnE w.heap.size w' v (es ++ fs) ∧ Below w.heap.size w w' := by
  have c0 : w.cell? ⟨gh, 0, none⟩ = some (.slice a k c) := hH.cell 0
  have c1 : w.cell? ⟨gh, 1, none⟩ = some (.slice b m d) := hH.cell 1
  have HC : Hid (w.cell? ⟨gh, 0, none⟩ = some (.slice a k c) ∧ w.cell? ⟨gh, 1, none⟩ = some (.slice b m d)) := ⟨c0, c1⟩
  have HE : Hid (RowEv w a es ∧ RowEv w b fs ∧ es.length = k ∧ fs.length = m) := ⟨hE, hF, hk, hm⟩
  have HN : Hid ((a = none → c = 0) ∧ (b = none → d = 0)) := ⟨hna, hnb⟩
  have HG := grow_any (k + m) w (by omega) (by omega)
  rw [Int.natCast_add] at HG
  clear hH hE hF hk hm hna hnb
  go_enter Try.func37, Try.ntmps37
  go_wp2_with fail
  go_loopw [3, 11] (fun s t wr => ∃ i S : Nat, i ≤ 2 ∧ s = .int .i64 (S : Int) ∧ t = .int .i64 (i : Int) ∧ wr = w ∧ Hid ((i = 0 → S = 0) ∧ (i = 1 → S = k) ∧ (i = 2 → S = k + m))) (fun s t _ => 2 - (intOf t).toNat)
  case atStart => exact ⟨0, 0, by omega, rfl, rfl, rfl, fun _ => rfl, fun h => (by omega), fun h => (by omega)⟩
  case round =>
    obtain ⟨i, S, hi, rfl, rfl, rfl, hS⟩ := hrel
    rcases Nat.lt_trichotomy i 1 with h1 | h1 | h1
    · obtain rfl : i = 0 := by omega
      obtain rfl : S = 0 := hS.out.1 rfl
      clear h1 hS
      go_wp2_with fail
      go_roundw
      case rel => exact ⟨1, k, by omega, by go_num, by go_num, by first | exact trivial | exact rfl, fun h => (by omega), fun _ => rfl, fun h => (by omega)⟩
      case measure => simp [intOf]
    · subst h1
      obtain rfl : S = k := hS.out.2.1 rfl
      clear hS
      go_wp2_with fail
      go_roundw
      case rel => exact ⟨2, S + m, by omega, by go_num, by go_num, by first | exact trivial | exact rfl, fun h => (by omega), fun h => (by omega), fun _ => rfl⟩
      case measure => simp [intOf]
    · obtain rfl : i = 2 := by omega
      obtain rfl : S = k + m := hS.out.2.2 rfl
      clear h1 hS c0 c1
      go_wp2_with (go_at_call 53; refine HG.mono ?_; rintro _ w1 ⟨cap, rfl, hown, hb1⟩; refine Hid.out ?_)
      refine hidU ?_
      have HB1 : Hid (Below wr.heap.size wr w1) := hb1
      have HO1 : Hid (OwnE wr.heap.size w1 (.slice (some ⟨wr.heap.size, 0, none⟩) 0 cap) []) := hown
      clear hb1 hown HG
      obtain ⟨w0, rfl⟩ : ∃ x, x = wr := ⟨wr, rfl⟩
      go_wp2_with fail
      go_loopw [6, 27] (fun v t wr => ∃ i : Nat, i ≤ 2 ∧ t = .int .i64 (i : Int) ∧ Hid (Below w0.heap.size w0 wr) ∧ Hid (OwnE w0.heap.size wr v (if i = 0 then [] else if i = 1 then es else es ++ fs))) (fun v t _ => 2 - (intOf t).toNat)
      case atStart => exact ⟨0, by omega, rfl, HB1.out, HO1.out⟩
      case round =>
        obtain ⟨i, hi2, rfl, hB, hO⟩ := hrel
        clear HB1 HO1
        have hsz := hB.out.size
        rcases Nat.lt_trichotomy i 1 with h1 | h1 | h1
        · obtain rfl : i = 0 := by omega
          clear h1
          have c0 := (hB.out.cell (lt_of_cell HC.out.1)).trans HC.out.1
          go_wp2_with (at_builtin; refine wpList_appE rfl (.tmp 31) (.tmp 32) rfl w0.heap.size _ [] es a k c rfl rfl hO.out HE.out.2.2.1 HN.out.1 hc (HE.out.1.below hB.out) (by simp; omega) hsz ?_; intro v' w' hO' hb'; have HO' : Hid (OwnE w0.heap.size w' v' es) := hO'; have HB' : Hid (Below w0.heap.size w0 w') := hB.out.trans hb'; clear hO' hb')
          go_roundw
          case rel => exact ⟨1, by omega, by go_num, HB'.out, HO'.out⟩
          case measure => simp [intOf]
        · subst h1
          have c1 := (hB.out.cell (lt_of_cell HC.out.2)).trans HC.out.2
          go_wp2_with (at_builtin; refine wpList_appE rfl (.tmp 31) (.tmp 32) rfl w0.heap.size _ es fs b m d rfl rfl hO.out HE.out.2.2.2 HN.out.2 hd (HE.out.2.1.below hB.out) (by rw [HE.out.2.2.1]; omega) hsz ?_; intro v' w' hO' hb'; have HO' : Hid (OwnE w0.heap.size w' v' (es ++ fs)) := hO'; have HB' : Hid (Below w0.heap.size w0 w') := hB.out.trans hb'; clear hO' hb')
          go_roundw
          case rel => exact ⟨2, by omega, by go_num, HB'.out, HO'.out⟩
          case measure => simp [intOf]
        · obtain rfl : i = 2 := by omega
          clear h1
          go_wp2_with fail
          go_ret
          exact ⟨_, rfl, hO.out, hB.out⟩
end Go.Proofs.Ytmkhobaclpiceaa
