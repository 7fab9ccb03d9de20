/- Joined texts of the proof. -/
import Derived.Test.YtbamocalhojmeaaJ2
import Derived.Laws.CopyOwn
import Derived.Deep.RegionHeld3
import Derived.Deep.DrawnRows

/- The given answer's 'wrong': what is wrong with a trace. -/
namespace Go.Proofs.Ytbamocalhojmeaa
open Go.RowKit
set_option linter.unusedVariables false

/-- An event's thread is none of n. -/
def badEv (n : Int) (e : Ev) : Bool := decide (e.th < 0) || decide (n ≤ e.th)
/-- What is wrong with a trace. -/
def wrongZ (es : List Ev) (n : Int) : Int := if n < 1 ∨ 16 < n then 2 else if 1024 < es.length then 3 else if es.any (badEv n) then 2 else 0

set_option maxRecDepth 100000 in
set_option maxHeartbeats 3200000 in
theorem refWrong_any (es : List Ev) (n : Int) (a : Option Addr) (c : Nat) (w : World) (h : RowEv w a es) (hl : es.length ≤ 4611686018427387904) (hk : es.length ≤ c) :
    Calls Try.prog 57 #[.slice a es.length c, .int .i64 n] w fun r w' => r = .returned (.int .i64 (wrongZ es n)) ∧ w' = w := by
  obtain ⟨R, hR⟩ : ∃ R, Hid (R = wrongZ es n) := ⟨_, (rfl : _ = wrongZ _ _)⟩
  rw [← hR.out]
  obtain ⟨m, hm⟩ : ∃ n, Hid (n = es.length) := ⟨_, (rfl : es.length = _)⟩
  rw [← hm.out] at hl hk ⊢
  have HR : Hid (RowEv w a es) := h
  clear h
  by_cases hn1 : n < 1
  · have hRf : R = 2 := by rw [hR.out, wrongZ, if_pos (.inl hn1)]
    subst hRf
    go_enter Try.func57, Try.ntmps57
    go_wp2
    go_ret
    exact ⟨rfl, rfl⟩
  by_cases hn2 : 16 < n
  · have hRf : R = 2 := by rw [hR.out, wrongZ, if_pos (.inr hn2)]
    subst hRf
    go_enter Try.func57, Try.ntmps57
    go_wp2
    go_ret
    exact ⟨rfl, rfl⟩
  by_cases hm2 : 1024 < m
  · have hRf : R = 3 := by rw [hR.out, wrongZ, if_neg (by omega), if_pos (by rw [← hm.out]; exact hm2)]
    subst hRf
    go_enter Try.func57, Try.ntmps57
    go_wp2
    go_ret
    exact ⟨rfl, rfl⟩
  have hR2 : Hid (R = if es.any (badEv n) then 2 else 0) := by show R = _; rw [hR.out, wrongZ, if_neg (by omega), if_neg (by rw [← hm.out]; exact hm2)]
  clear hR
  go_enter Try.func57, Try.ntmps57
  go_wp2
  go_loopw [5] (fun j wr => ∃ i : Nat, j = .int .i64 (i : Int) ∧ i ≤ m ∧ wr = w ∧ Hid (∀ (q : Nat) (e : Ev), q < i → es[q]? = some e → badEv n e = false)) (fun j _ => m - (intOf j).toNat)
  case atStart => exact ⟨0, rfl, by omega, rfl, fun q e hq => by omega⟩
  case round =>
    obtain ⟨i, rfl, hi, rfl, hX⟩ := hrel
    by_cases hc : i < m
    · obtain ⟨e, he⟩ : ∃ k, es[i]? = some k := ⟨es[i]'(by rw [← hm.out]; exact hc), by rw [List.getElem?_eq_getElem]⟩
      obtain ⟨g, o, rfl, hr⟩ := HR.out.at i e he
      obtain ⟨q1, q2, q3⟩ := range_cells hr
      have HE : Hid (es[i]? = some e) := he
      have HB : Hid (badEv n e = (decide (e.th < 0) || decide (n ≤ e.th))) := rfl
      obtain ⟨t, ht⟩ : ∃ t, Hid (t = e.th) := ⟨_, (rfl : e.th = _)⟩
      rw [← ht.out] at q1 HB
      clear he hr q2 q3
      have bad : badEv n e = true → R = 2 := fun hb => by rw [hR2.out, if_pos (List.any_eq_true.2 ⟨e, List.mem_of_getElem? HE.out, hb⟩)]
      by_cases h0 : t < 0
      · have hRf := bad (by rw [HB.out, decide_eq_true h0]; rfl)
        subst hRf
        clear bad hR2
        go_wp2
        go_ret
        exact ⟨rfl, rfl⟩
      by_cases h1 : n ≤ t
      · have hRf := bad (by rw [HB.out, decide_eq_true h1]; simp)
        subst hRf
        clear bad hR2
        go_wp2
        go_ret
        exact ⟨rfl, rfl⟩
      clear bad
      go_wp2
      go_roundw
      case rel =>
        refine ⟨i + 1, by go_num, by omega, by trivial, fun q x hq hx => ?_⟩
        by_cases hqi : q = i
        · subst hqi
          rw [HE.out] at hx
          cases hx
          rw [HB.out, decide_eq_false (by omega), decide_eq_false (by omega)]
          rfl
        · exact hX.out q x (by omega) hx
      case measure => simp [intOf]; omega
    · have hRf : R = 0 := by
        rw [hR2.out, if_neg]
        intro hb
        obtain ⟨e, he, hb⟩ := List.any_eq_true.1 hb
        obtain ⟨q, hq⟩ := List.getElem?_of_mem he
        have := (List.getElem?_eq_some_iff.1 hq).1
        rw [← hm.out] at this
        rw [hX.out q e (by omega) hq] at hb
        cases hb
      subst hRf
      clear hX hR2
      go_wp2
      go_ret
      exact ⟨rfl, rfl⟩
end Go.Proofs.Ytbamocalhojmeaa

/- assizekit.LentEvents and KeptEvents: a copy of the events with three spare ones of known make behind it; what was lent and not written is found as it was. -/
namespace Go.Proofs.Ytbamocalhojmeaa
open Go.RowKit
set_option linter.unusedVariables false

theorem Try.info50 : (Try.prog.info? 50).map (fun i => (i.zero, i.size, i.bytes)) = some (some (.agg #[.int .i64 0, .int .i64 0, .int .i64 0]), 3, 24) := by kernel_rfl
theorem size25 (w : World) : (sizeOf 50).run Try.prog w = .ok 3 w := by kernel_rfl
/-- The cells of a row of events. -/
def flatE (es : List Ev) : List Value := (es.map Ev.cells).flatten
theorem flatE_length : ∀ es : List Ev, (flatE es).length = 3 * es.length
  | [] => rfl
  | e :: es => by
    have := flatE_length es
    simp only [flatE] at this
    simp [flatE, this, Ev.cells]
    omega
theorem flatE_append (xs ys : List Ev) : flatE (xs ++ ys) = flatE xs ++ flatE ys := by simp [flatE]
/-- What lies in memory behind LentEvents. -/
def lentE (es : List Ev) : List Ev := es ++ [⟨77, (es.length : Int), 0⟩, ⟨77, (es.length : Int) + 1, 0⟩, ⟨77, (es.length : Int) + 2, 0⟩]
theorem lentE_length (es : List Ev) : (lentE es).length = es.length + 3 := by simp [lentE]
theorem lentE_spare (es : List Ev) (k : Nat) (h1 : es.length ≤ k) (h2 : k < es.length + 3) : (lentE es)[k]? = some ⟨77, (k : Int), 0⟩ := by
  obtain ⟨j, rfl⟩ := Nat.exists_eq_add_of_le h1
  have hj : j = 0 ∨ j = 1 ∨ j = 2 := by omega
  unfold lentE
  rcases hj with rfl | rfl | rfl <;> simp
theorem flatE_at : ∀ (es : List Ev) (i : Nat) (e : Ev), es[i]? = some e → ∀ (j : Nat) (v : Value), e.cells[j]? = some v → (flatE es)[i * 3 + j]? = some v
  | [], i, e, h => by simp at h
  | x :: es, 0, e, h => by
    intro j v hv
    simp at h
    subst h
    have hj : j < 3 := by
      have := (List.getElem?_eq_some_iff.1 hv).1
      simpa [Ev.cells] using this
    show ((x.cells ++ flatE es)[0 * 3 + j]?) = _
    rw [Nat.zero_mul, Nat.zero_add, List.getElem?_append_left (by simpa [Ev.cells] using hj)]
    exact hv
  | x :: es, i + 1, e, h => by
    intro j v hv
    simp at h
    have := flatE_at es i e h j v hv
    show ((x.cells ++ flatE es)[(i + 1) * 3 + j]?) = _
    rw [List.getElem?_append_right (by simp [Ev.cells]; omega)]
    rw [show (i + 1) * 3 + j - x.cells.length = i * 3 + j by simp [Ev.cells]; omega]
    exact this
theorem rowEv_of {w : World} {g : Nat} {es : List Ev} (h : At 50 w g (flatE es)) : RowEv w (some ⟨g, 0, none⟩) es := by
  refine .inr ⟨g, 0, rfl, fun i e he j v hv => ?_⟩
  have := h.cell (i * 3 + j)
  rw [flatE_at es i e he j v hv] at this
  rw [← this, Nat.zero_add]
end Go.Proofs.Ytbamocalhojmeaa

/- 'copy' of rows whose elements have more cells than one. -/
namespace Go.Proofs.Ytbamocalhojmeaa
open Go.RowKit
set_option linter.unusedVariables false

theorem run_copy_wide (P : Program) (w : World) (dT sT ty elem : TypeId) (g o dLen dCap : Nat) (a : Addr) (sLen sCap : Nat) (cur : Array Value) (t : TypeId) (cs : List Value) (k n : Nat)
    (hu : P.underlying dT = some (.slice elem)) (hs : (P.info? elem).map (·.size) = some k)
    (hg : w.heap[g]? = some (.cells cur t (0, 0))) (hm : n = Nat.min sLen dLen) (hn : cs.length = n * k)
    (hsrc : ∀ j v, cs[j]? = some v → w.cell? (a.add j) = some v) (hfit : o + cs.length ≤ cur.size) (h1 : ∀ v ∈ cs, v.oneCell' = true) :
    (Builtin.copy_ #[dT, sT] ty #[.slice (some ⟨g, o, none⟩) dLen dCap, .slice (some a) sLen sCap]).run P w =
      .ok (goInt n) (w.setRow g (cur.toList.take o ++ cs ++ cur.toList.drop (o + cs.length)).toArray) := by
  have hl := run_loadCells_list (P := P) w a cs hsrc
  have hst := run_storeCells_at P g o t cs 0 cur w hg (by simpa using hfit) h1
  cases hq : P.info? elem with
  | none => simp [hq] at hs
  | some i =>
    have hi : i.size = k := by simpa [hq] using hs
    simp [Builtin.copy_, run_underlying hu, Builtin.lenOf, Builtin.firstCells, sizeOf, typeInfo, hq, hi, ← hm, ← hn, hl, hst]
theorem run_copy_zero (P : Program) (w : World) (dT sT ty elem : TypeId) (d a : Option Addr) (dLen dCap sLen sCap k : Nat) (hu : P.underlying dT = some (.slice elem)) (hs : (P.info? elem).map (·.size) = some k) (hn : Nat.min sLen dLen = 0) :
    (Builtin.copy_ #[dT, sT] ty #[.slice d dLen dCap, .slice a sLen sCap]).run P w = .ok (goInt 0) w := by
  cases hq : P.info? elem with
  | none => simp [hq] at hs
  | some i =>
    have hl : ∀ (x : Addr), (loadCells x 0).run P w = .ok #[] w := fun x => by simpa using run_loadCells_list (P := P) w x [] (by simp)
    cases d <;> cases a <;> simp [Builtin.copy_, run_underlying hu, Builtin.lenOf, Builtin.firstCells, sizeOf, typeInfo, hq, hn, storeCells, hl]
theorem wpList_copy_wide {P : Program} {w : World} {ops : Array Oper} {rest : List Oper} {o : Oper} {a : Act} {Q : Exit → Act → World → Prop} (hgd : o.guard = none) (d s : Operand) (dT sT : TypeId)
    (ho : o.op = .call { callee := .builtin .copy, args := #[d, s], argTypes := #[dT, sT] }) (elem : TypeId) (hu : P.underlying dT = some (.slice elem)) (k : Nat) (hsz : (P.info? elem).map (·.size) = some k)
    (dp sp : Option Addr) (dLen dCap sLen sCap : Nat) (hd : a.eval d = .slice dp dLen dCap) (hs : a.eval s = .slice sp sLen sCap)
    (g off : Nat) (cur : List Value) (t : TypeId) (hg : w.heap[g]? = some (.cells cur.toArray t (0, 0))) (cs : List Value) (n : Nat) (hm : n = Nat.min sLen dLen) (hn : cs.length = n * k)
    (hpos : 0 < n → dp = some ⟨g, off, none⟩ ∧ ∃ ad, sp = some ad ∧ ∀ j v, cs[j]? = some v → w.cell? (ad.add j) = some v)
    (hfit : off + cs.length ≤ cur.length) (h1 : ∀ v ∈ cs, v.oneCell' = true) (B : Nat) (w0 : World) (hb : Below B w0 w) (hBg : B ≤ g)
    (h : ∀ w', Hid (w'.heap[g]? = some (.cells (splice cur off cs).toArray t (0, 0))) → Below B w0 w' → wpList P ops Q rest (a.put o.dst (goInt n)) w') :
    wpList P ops Q (o :: rest) a w := by
  by_cases h0 : n = 0
  · subst h0
    obtain rfl : cs = [] := List.eq_nil_of_length_eq_zero (by rw [hn, Nat.zero_mul])
    refine wpList_plain hgd fun K hK => ?_
    have hrun := run_copy_zero P w dT sT o.type elem dp sp dLen dCap sLen sCap k hu hsz hm.symm
    unfold Oper.wp
    simp [execOp, ho, resolve, invoke, builtin, hd, hs, hrun, Result.andThen]
    exact hK _ _ (h w (show _ = _ by simpa [splice] using hg) hb)
  · obtain ⟨rfl, ad, rfl, hsrc⟩ := hpos (by omega)
    refine wpList_plain hgd fun K hK => ?_
    have hrun := run_copy_wide P w dT sT o.type elem g off dLen dCap ad sLen sCap cur.toArray t cs k n hu hsz hg hm hn hsrc (by simpa using hfit) h1
    unfold Oper.wp
    simp [execOp, ho, resolve, invoke, builtin, hd, hs, hrun, Result.andThen]
    exact hK _ _ (h _ (show _ = _ by simpa [splice] using setRow_heap w g _ _ t _ hg) (below_setRow hb hBg _))
theorem wpList_store_three {P : Program} {ops : Array Oper} {rest : List Oper} {o : Oper} {a : Act} {w : World} {Q : Exit → Act → World → Prop} (hgd : o.guard = none) (ty : TypeId) (x y : Operand) (ho : o.op = .store ty x y)
    (g off : Nat) (v0 v1 v2 : Value) (hx : a.eval x = .pointer (some ⟨g, off, none⟩)) (hy : a.eval y = .agg [v0, v1, v2].toArray)
    (t : TypeId) (old : List Value) (hg : At t w g old) (hold : off + 3 ≤ old.length) (hi : (P.info? ty).map (·.size) = some 3) (h1 : ∀ v ∈ [v0, v1, v2], v.oneCell' = true)
    (h : ∀ w', At t w' g (((old.set off v0).set (off + 1) v1).set (off + 2) v2) → But g w w' → w'.heap.size = w.heap.size → wpList P ops Q rest (a.put o.dst undef) w') : wpList P ops Q (o :: rest) a w := by
  refine wpList_store_mid hgd ty x y ho g off [v0, v1, v2].toArray hx hy (hg.there off 3 hold) (by simpa using hi) (all_oneCell_toArray h1) ?_
  refine h _ (((hg.set off v0).set (off + 1) v1).set (off + 2) v2) ((((But.refl g w).setCell off v0).setCell (off + 1) v1).setCell (off + 2) v2) ?_
  show (((w.setCell ⟨g, off, none⟩ v0).setCell ⟨g, off + 1, none⟩ v1).setCell ⟨g, off + 2, none⟩ v2).heap.size = _
  simp
end Go.Proofs.Ytbamocalhojmeaa

/- assizekit.LentEvents and KeptEvents. -/
namespace Go.Proofs.Ytbamocalhojmeaa
open Go.RowKit
set_option linter.unusedVariables false

theorem set3_take (cs : List Value) (p : Nat) (a b c : Value) (h : p + 3 ≤ cs.length) : (((cs.set p a).set (p + 1) b).set (p + 2) c).take (p + 3) = cs.take p ++ [a, b, c] := by
  apply List.ext_getElem?
  intro i
  rcases Nat.lt_or_ge i p with h1 | h1
  · rw [List.getElem?_take_of_lt (by omega), List.getElem?_append_left (by simp; omega), List.getElem?_set_ne (by omega), List.getElem?_set_ne (by omega), List.getElem?_set_ne (by omega), List.getElem?_take_of_lt h1]
  · rw [List.getElem?_append_right (by simp; omega)]
    have hl : (cs.take p).length = p := by simp; omega
    rw [hl]
    by_cases h2 : i < p + 3
    · rw [List.getElem?_take_of_lt h2]
      have hj : i = p ∨ i = p + 1 ∨ i = p + 2 := by omega
      rcases hj with rfl | rfl | rfl
      · rw [List.getElem?_set_ne (by omega), List.getElem?_set_ne (by omega), List.getElem?_set_self (by omega), Nat.sub_self]; rfl
      · rw [List.getElem?_set_ne (by omega), List.getElem?_set_self (by simp; omega), show p + 1 - p = 1 by omega]; rfl
      · rw [List.getElem?_set_self (by simp; omega), show p + 2 - p = 2 by omega]; rfl
    · rw [List.getElem?_eq_none (by simp; omega), List.getElem?_eq_none (by simp; omega)]
theorem one3 (a b c : Int) : ∀ v ∈ ([.int .i64 a, .int .i64 b, .int .i64 c] : List Value), v.oneCell' = true := by
  intro v hv
  simp at hv
  rcases hv with rfl | rfl | rfl <;> rfl
theorem one_flatE (es : List Ev) : ∀ v ∈ flatE es, v.oneCell' = true := by
  intro v hv
  obtain ⟨l, hl, hv⟩ := List.mem_flatten.1 hv
  obtain ⟨e, _, rfl⟩ := List.mem_map.1 hl
  exact one3 _ _ _ v hv
theorem setE_step (es : List Ev) (cs : List Value) (k : Nat) (hk : es.length ≤ k) (hk3 : k < es.length + 3) (hl : cs.length = (es.length + 3) * 3) (h : cs.take (k * 3) = flatE ((lentE es).take k)) :
    (((cs.set (k * 3) (.int .i64 77)).set (k * 3 + 1) (.int .i64 k)).set (k * 3 + 2) (.int .i64 0)).take ((k + 1) * 3) = flatE ((lentE es).take (k + 1)) := by
  rw [show (k + 1) * 3 = k * 3 + 3 by omega, set3_take cs (k * 3) _ _ _ (by omega), h]
  rw [List.take_add_one, lentE_spare es k hk hk3, flatE_append]
  rfl

set_option maxRecDepth 100000 in
set_option maxHeartbeats 1600000 in
theorem lentEvents_any (a : Option Addr) (cap : Nat) (es : List Ev) (w : World) (hrow : RowEv w a es) (hmax : es.length ≤ 1099511627776) :
    Calls Try.prog 8 #[.slice a es.length cap] w fun e w' => e = .returned (.slice (some ⟨w.heap.size, 0, none⟩) es.length (es.length + 3)) ∧ At 50 w' w.heap.size (flatE (lentE es)) ∧ Below w.heap.size w w' := by
  obtain ⟨i0, hi, hz0, hz1, hz2⟩ := info_parts Try.info50
  have hsz3 : (Try.prog.info? 50).map (·.size) = some 3 := by kernel_rfl
  obtain ⟨n, hn⟩ : ∃ n, Hid (n = es.length) := ⟨_, (rfl : es.length = _)⟩
  rw [← hn.out] at hmax ⊢
  have HR : Hid (RowEv w a es) := hrow
  clear hrow
  go_enter Try.func8, Try.ntmps8
  go_wp2_with (at_make; refine wpList_make_full _ rfl (.tmp 7) (.tmp 7) 22 rfl w.heap.size 50 i0 _ 3 Try.underlying22 hi hz0 hz1 .i64 .i64 _ _ (n + 3) rfl rfl (by omega) (by omega) (by rw [hz2]; omega) (by unfold maxLen; omega) (Nat.le_refl _) ?_)
  intro w1 hown hgrow
  have hb1 : Below w.heap.size w w1 := (Below.refl _ w).grown hgrow (Nat.le_refl _) (by intro k hk; cases hk)
  obtain ⟨L, hL, hblk⟩ : ∃ L : List Value, L.length = (n + 3) * 3 ∧ At 50 w1 w.heap.size L := by
    obtain ⟨_, ⟨h, _⟩ | ⟨g, cp, cur, h, hg, hh, _, _, hs, _⟩⟩ := hown
    · cases h
    · cases h
      exact ⟨cur.toList, by simpa using hs, by unfold At; rw [hh]⟩
  clear hown hgrow
  have hrow1 := HR.out.below hb1
  clear HR
  go_wp2_with (refine wpList_copy_wide rfl (.tmp 9) (.tmp 10) 22 22 rfl 50 Try.underlying22 3 hsz3 _ _ _ _ _ _ rfl rfl w.heap.size 0 L 50 hblk (flatE es) n (Nat.min_eq_left (by omega)).symm (by rw [flatE_length, hn.out]; omega) ?p1 (by rw [flatE_length, ← hn.out]; omega) (one_flatE es) w.heap.size w hb1 (Nat.le_refl _) ?_)
  case p1 =>
    intro hpos
    rcases hrow1 with h0 | ⟨b, off, rfl, hc⟩
    · rw [h0] at hn; have := hn.out; simp at this; omega
    · refine ⟨_, rfl, fun j v hj => ?_⟩
      have e : (⟨b, off, none⟩ : Addr).add j = ⟨b, off + j, none⟩ := by unfold Addr.add; split <;> simp_all
      have hj2 : j < 3 * es.length := by have := (List.getElem?_eq_some_iff.1 hj).1; rwa [flatE_length] at this
      have hq : j / 3 < es.length := by omega
      have hx := List.getElem?_eq_getElem hq
      have hj3 : j % 3 < (es[j / 3]).cells.length := by simp [Ev.cells]; omega
      have hy := flatE_at es (j / 3) _ hx (j % 3) _ (List.getElem?_eq_getElem hj3)
      rw [show j / 3 * 3 + j % 3 = j by omega, hj] at hy
      have hz := hc (j / 3) _ hx (j % 3) _ (List.getElem?_eq_getElem hj3)
      rw [e, ← (show off + j / 3 * 3 + j % 3 = off + j by omega), hz, ← hy]
  intro w2 hblk2 hb2
  obtain ⟨cs, hcs, hlen, hpre⟩ : ∃ cs : List Value, At 50 w2 w.heap.size cs ∧ cs.length = (n + 3) * 3 ∧ cs.take (n * 3) = flatE ((lentE es).take n) := by
    refine ⟨_, hblk2.out, ?_, ?_⟩
    · rw [length_splice _ _ _ (by rw [flatE_length, ← hn.out]; omega)]; exact hL
    · have e1 : n * 3 = (flatE es).length := by rw [flatE_length, hn.out]; omega
      have e2 : (lentE es).take n = es := by rw [hn.out]; simp [lentE]
      rw [e2, e1]
      simp [splice]
  clear hblk2 hblk hrow1 hb1 hL
  have HCS : Hid (At 50 w2 w.heap.size cs ∧ cs.length = (n + 3) * 3 ∧ cs.take (n * 3) = flatE ((lentE es).take n)) := ⟨hcs, hlen, hpre⟩
  clear hcs hlen hpre
  go_wp2
  go_loopw [4] (fun t wr => ∃ (k : Nat) (cs : List Value), n ≤ k ∧ k ≤ n + 3 ∧ t = .int .i64 k ∧ Hid (cs.length = (n + 3) * 3) ∧ Hid (cs.take (k * 3) = flatE ((lentE es).take k)) ∧ Hid (At 50 wr w.heap.size cs) ∧ Below w.heap.size w wr)
    (fun t _ => n + 3 - (intOf t).toNat)
  case atStart => exact ⟨n, cs, Nat.le_refl _, by omega, rfl, HCS.out.2.1, HCS.out.2.2, HCS.out.1, hb2⟩
  case round =>
    obtain ⟨k, cs', hk1, hk2, rfl, hl, hp, hbk, hbel⟩ := hrel
    clear HCS hb2
    by_cases hlt : k < n + 3
    · have HP : Hid _ := setE_step es cs' k (by rw [← hn.out]; exact hk1) (by rw [← hn.out]; exact hlt) (by rw [← hn.out]; exact hl.out) hp.out
      obtain ⟨c0, c1, c2, hc0, hc1, hc2⟩ : ∃ c0 c1 c2, wr.cell? ⟨w.heap.size, k * 3, none⟩ = some c0 ∧ wr.cell? ⟨w.heap.size, k * 3 + 1, none⟩ = some c1 ∧ wr.cell? ⟨w.heap.size, k * 3 + 2, none⟩ = some c2 := by
        have := hl.out
        exact ⟨_, _, _, (hbk.out.cell _).trans (List.getElem?_eq_getElem (by omega)), (hbk.out.cell _).trans (List.getElem?_eq_getElem (by omega)), (hbk.out.cell _).trans (List.getElem?_eq_getElem (by omega))⟩
      have hf0 := hbk.out.frozen (k * 3)
      have hf1 := hbk.out.frozen (k * 3 + 1)
      have hf2 := hbk.out.frozen (k * 3 + 2)
      go_wp2
      go_roundw
      case rel => exact ⟨k + 1, _, by omega, by omega, by go_num, by show _ = _; simp [List.length_set]; exact hl.out, HP.out, ((hbk.out.set _ _).set _ _).set _ _, ((hbel.setCell (Nat.le_refl _) _).setCell (Nat.le_refl _) _).setCell (Nat.le_refl _) _⟩
      case measure => simp [intOf]; omega
    · have HP : Hid (cs' = flatE (lentE es)) := by
        have h1 := hp.out
        have h2 := hl.out
        rw [List.take_of_length_le (by omega), List.take_of_length_le (by rw [lentE_length, ← hn.out]; omega)] at h1
        exact h1
      go_wp2
      go_ret
      exact ⟨rfl, by rw [← HP.out]; exact hbk.out, hbel⟩
end Go.Proofs.Ytbamocalhojmeaa

/- assizekit.KeptEvents: what was lent and not written is found as it was. -/
namespace Go.Proofs.Ytbamocalhojmeaa
open Go.RowKit
set_option linter.unusedVariables false
attribute [local go_sem ↓] Go.wp_at_zero Go.wp_at_succ

/-- 'b[:h]' of events. -/
theorem runE_slice_to (w : World) (a : Option Addr) (len cap h : Nat) (x : Int) (hx : x = (h : Int)) (hh : h ≤ cap) :
    (Instr.slice 22 (.slice a len cap) none (some (.int .i64 x)) none).run Try.prog w = .ok (.slice a h cap) w := by
  have he : Try.prog.elem 22 = 50 := by simp [Program.elem, Try.underlying22]
  rw [run_slice_h w 22 a len cap (by rw [he]; exact Try.underlying22) .i64 x (by omega) (by omega), he, size25]
  have hz : ∀ p : Addr, p.add 0 = p := fun p => by cases p; simp [Addr.add]
  have hm : a.map (fun p => p.add 0) = a := by cases a <;> simp [hz]
  simp only [Result.andThen, sliced, Nat.zero_mul, hm, Nat.sub_zero]
  rw [show x.toNat = h by omega]
  simp
theorem sameEvents_len (xs ys : List Ev) (a1 a2 : Option Addr) (n1 n2 c1 c2 : Nat) (w : World) (h1 : RowEv w a1 xs) (h2 : RowEv w a2 ys) (e1 : xs.length = n1) (e2 : ys.length = n2) (hl1 : n1 ≤ 4611686018427387904) (hl2 : n2 ≤ 4611686018427387904) (hk1 : n1 ≤ c1) (hk2 : n2 ≤ c2) :
    Calls Try.prog 28 #[.slice a1 n1 c1, .slice a2 n2 c2] w fun r w' => r = .returned (.bool (sameEv xs ys)) ∧ Below w.heap.size w w' := by
  subst e1 e2
  exact sameEvents_any xs ys a1 a2 c1 c2 w h1 h2 hl1 hl2 hk1 hk2
theorem RowEv.drew {w : World} {a : Option Addr} {es : List Ev} (h : RowEv w a es) : RowEv w.drew a es := h
theorem rowEv_lent {w : World} {g : Nat} {es : List Ev} (h : At 50 w g (flatE (lentE es))) : RowEv w (some ⟨g, 0, none⟩) es := by
  rcases rowEv_of h with h0 | ⟨g', o, ha, hr⟩
  · have := lentE_length es
    rw [h0] at this
    simp at this
  · refine .inr ⟨g', o, ha, fun i e he => hr i e ?_⟩
    rw [lentE, List.getElem?_append_left (List.getElem?_eq_some_iff.1 he).1]
    exact he

set_option maxRecDepth 100000 in
set_option maxHeartbeats 800000 in
theorem keptEvents_any (a : Option Addr) (cap g : Nat) (bs : List Ev) (w : World) (hrow : RowEv w a bs) (hblk : At 50 w g (flatE (lentE bs))) (hmax : bs.length ≤ 1099511627776) :
    Calls Try.prog 21 #[.slice (some ⟨g, 0, none⟩) bs.length (bs.length + 3), .slice a bs.length cap] w fun e w' => e = .returned (.bool true) ∧ Below w.heap.size w w' := by
  have hS : sameEv (lentE bs) (lentE bs) = true := decide_eq_true rfl
  have i1 : (0 : Int) ≤ (bs.length : Int) := by omega
  have i2 : (bs.length : Int) + 3 ≤ 1099511627779 := by omega
  have hs1 := fun w => runE_slice_to w (some ⟨g, 0, none⟩) bs.length (bs.length + 3) (bs.length + 3) ((bs.length : Int) + 3) (by omega) (by omega)
  have hs2 := fun w => runE_slice_to w (some ⟨g, 0, none⟩) bs.length (bs.length + 3) (bs.length + 3) ((bs.length + 3 : Nat) : Int) (by omega) (by omega)
  have hs3 := fun w0 => runE_slice_to w0 (some ⟨w.heap.size, 0, none⟩) bs.length (bs.length + 3) (bs.length + 3) ((bs.length : Int) + 3) (by omega) (by omega)
  have hw3 : IntKind.i64.wrap ((bs.length : Int) + 3) = (bs.length : Int) + 3 := by rw [IntKind.wrap_i64]; omega
  go_enter Try.func21, Try.ntmps21
  go_wp2
  go_region_held3 (fun _ => True) (trivial) (first | (go_at_call 8; refine (lentEvents_any a cap bs _ hrow.drew hmax).mono ?_; rintro e w1 ⟨rfl, hblk1, hbel1⟩) | (go_at_call 28; refine (sameEvents_len (lentE bs) (lentE bs) _ _ _ _ _ _ _ (rowEv_of (At.below hblk.drew hbel1)) (rowEv_of hblk1) (lentE_length bs) (lentE_length bs) (by omega) (by omega) (by omega) (by omega)).mono ?_; rw [hS]; rintro e w2 ⟨rfl, hbel2⟩))
  go_wp2
  go_ret
  exact ⟨rfl, ((Below.refl _ w).drew.trans hbel1).trans (hbel2.mono (by have := hbel1.size; omega))⟩
end Go.Proofs.Ytbamocalhojmeaa
