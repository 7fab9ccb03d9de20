/- ClockOrders: what its walk leans on. -/
import Derived.Test.YtjedkfohmedmaaaCkP
import Derived.Test.YtjedkfohmedmaaaRgS
namespace Go.Proofs.Ytjedkfohmedmaaa
open Go.RowKit
set_option linter.unusedVariables false
attribute [local go_sem ↓] Go.wp_at_zero Go.wp_at_succ

theorem run_storeVar_cell {P : Program} (w : World) (b o : Nat) (ty : TypeId) (v : Value) (ht : w.there b o 1) (hi : (P.info? ty).map (·.size) = some 1) (hc : v.cells = #[v]) (h1 : v.oneCell' = true) :
    (storeVar ty ⟨b, o, none⟩ v).run P w = .ok () (w.setCell ⟨b, o, none⟩ v) := by
  have := run_storeCells_cells (P := P) b o [v] 0 w (fun j hj => by simpa using (ht j (by simpa using hj)).1) (fun j hj => by simpa using (ht j (by simpa using hj)).2) (fun u hu => by simp at hu; subst hu; exact h1)
  cases hq : P.info? ty with
  | none => simp [hq] at hi
  | some i =>
    have hs : i.size = 1 := by simp [hq] at hi; omega
    simp only [Nat.add_zero] at this
    simp [storeVar, sizeOf, typeInfo, hq, hc, hs, this, World.setCells]

section
variable {o : Oper} {a : Act} {w : World} {K : Act → World → Prop} {Q : Exit → Act → World → Prop}
theorem wp_store_one (ty : TypeId) (x y : Operand) (ho : o.op = .store ty x y)
    (g off : Nat) (v : Value) (hx : a.eval x = .pointer (some ⟨g, off, none⟩)) (hy : a.eval y = v)
    (t : TypeId) (old : List Value) (hg : At t w g old) (hold : off + 1 ≤ old.length) (hi : (Try.prog.info? ty).map (·.size) = some 1) (hc : v.cells = #[v]) (h1 : v.oneCell' = true)
    (h : ∀ w', At t w' g (old.set off v) → But g w w' → w'.heap.size = w.heap.size → K (a.put o.dst undef) w') : o.wp Try.prog a w K Q := by
  have := h _ (hg.set off v) ((But.refl g w).setCell off v) (by simp)
  unfold Oper.wp execOp
  simp only [ho, hx, hy, Instr.storeAt, Instr.sureAddr, Sem.run_bind, Sem.run_pure, Result.andThen_ok, run_storeVar_cell w g off ty v (hg.there off 1 hold) hi hc h1]
  exact this
theorem wp_store_three (x y : Operand) (ho : o.op = .store 25 x y) (g off : Nat) (e : Ev) (hx : a.eval x = .pointer (some ⟨g, off, none⟩)) (hy : a.eval y = .agg e.cells.toArray)
    (old : List Value) (hg : At 25 w g old) (hold : off + 3 ≤ old.length)
    (h : ∀ w', At 25 w' g (((old.set off (.int .i64 e.th)).set (off + 1) (.int .i64 e.kd)).set (off + 2) (.int .i64 e.ob)) → But g w w' → w'.heap.size = w.heap.size → K (a.put o.dst undef) w') : o.wp Try.prog a w K Q := by
  refine wp_store_mid 25 x y ho g off e.cells.toArray hx hy (hg.there off 3 hold) i25 (all_oneCell_toArray (Ev.one e)) ?_
  refine h _ (((hg.set off _).set (off + 1) _).set (off + 2) _) ((((But.refl g w).setCell off _).setCell (off + 1) _).setCell (off + 2) _) ?_
  show (((w.setCell ⟨g, off, none⟩ _).setCell ⟨g, off + 1, none⟩ _).setCell ⟨g, off + 2, none⟩ _).heap.size = _
  simp
end
/-- Cells that hold events. -/
def OnE (cs : List Value) (es : List Ev) : Prop := ∀ i e, es[i]? = some e → ∀ j v, e.cells[j]? = some v → cs[i * 3 + j]? = some v
theorem OnE.set {cs : List Value} {es : List Ev} (h : OnE cs es) {k : Nat} (hk : k < es.length) (e : Ev) : OnE (((cs.set (k * 3) (.int .i64 e.th)).set (k * 3 + 1) (.int .i64 e.kd)).set (k * 3 + 2) (.int .i64 e.ob)) (es.set k e) := by
  intro i x hx j v hj
  have hj3 : j < 3 := (List.getElem?_eq_some_iff.1 hj).1
  have hl : k * 3 + 2 < cs.length := by
    have := h k _ (List.getElem?_eq_getElem hk) 2 _ rfl
    exact (List.getElem?_eq_some_iff.1 this).1
  by_cases hik : i = k
  · subst hik
    rw [List.getElem?_set_self hk] at hx
    cases hx
    have h3 : j = 0 ∨ j = 1 ∨ j = 2 := by omega
    rcases h3 with rfl | rfl | rfl
    · rw [List.getElem?_set_ne (by omega), List.getElem?_set_ne (by omega), Nat.add_zero, List.getElem?_set_self (by omega)]
      exact hj
    · rw [List.getElem?_set_ne (by omega), List.getElem?_set_self (by simp; omega)]
      exact hj
    · rw [List.getElem?_set_self (by simp; omega)]
      exact hj
  · rw [List.getElem?_set_ne (fun e => hik e.symm)] at hx
    rw [List.getElem?_set_ne (by omega), List.getElem?_set_ne (by omega), List.getElem?_set_ne (by omega)]
    exact h i x hx j v hj
theorem OnE.row {cs : List Value} {es : List Ev} {w : World} {g : Nat} (h : OnE cs es) (hA : At 25 w g cs) : RowEv w (some ⟨g, 0, none⟩) es := by
  refine .inr ⟨g, 0, rfl, fun i e he j v hj => ?_⟩
  rw [Nat.zero_add, hA.cell]
  exact h i e he j v hj
/-- Two neighbours changed about. -/
def swE (es : List Ev) (k : Nat) : List Ev := (es.set k (evAt es (k + 1))).set (k + 1) (evAt es k)
theorem swE_length (es : List Ev) (k : Nat) : (swE es k).length = es.length := by simp [swE]
theorem evAt_mem {es : List Ev} {i : Nat} (h : i < es.length) : evAt es i ∈ es := by
  rw [evAt_eq (List.getElem?_eq_getElem h)]
  exact List.getElem_mem h
theorem swE_mem {es : List Ev} {k : Nat} (hk : k + 1 < es.length) : ∀ x ∈ swE es k, x ∈ es := by
  intro x hx
  rcases List.mem_or_eq_of_mem_set hx with h | h
  · rcases List.mem_or_eq_of_mem_set h with h | h
    · exact h
    · rw [h]; exact evAt_mem hk
  · rw [h]; exact evAt_mem (by omega)
theorem evAt_swE {es : List Ev} {k : Nat} (hk : k + 1 < es.length) (i : Nat) : evAt (swE es k) i = evAt es (sw k i) := by
  by_cases h1 : i = k
  · subst h1
    rw [sw_at]
    refine evAt_eq ?_
    unfold swE
    rw [List.getElem?_set_ne (by omega), List.getElem?_set_self (by omega)]
  · by_cases h2 : i = k + 1
    · subst h2
      rw [sw_next]
      refine evAt_eq ?_
      unfold swE
      rw [List.getElem?_set_self (by simp; omega)]
    · rw [sw_other h1 h2]
      unfold evAt swE
      simp only [List.getD]
      rw [List.getElem?_set_ne (fun e => h2 e.symm), List.getElem?_set_ne (fun e => h1 e.symm)]
theorem sw_bound {k i m : Nat} (hk : k + 1 < m) (hi : i < m) : sw k i < m := by
  unfold sw
  split
  · omega
  · split <;> omega
theorem clk_swE {es : List Ev} {k n : Nat} (hk : k + 1 < es.length) (hd : depB (evAt es k) (evAt es (k + 1)) = false) (j : Nat) : clkL (evAt (swE es k)) n (sw k j) = clkL (evAt es) n j := by
  unfold clkL
  refine List.map_congr_left fun t _ => ?_
  rw [show evAt (swE es k) = fun i => evAt es (sw k i) from funext fun i => evAt_swE hk i, clk_sw hd]
theorem wrong_swE {es : List Ev} {k : Nat} {n : Int} (hk : k + 1 < es.length) (h : wrongZ es n = 0) : wrongZ (swE es k) n = 0 := by
  obtain ⟨h1, h2, h3, h4⟩ := wrongZ_ok h
  exact wrongZ_of h1 h2 (by rw [swE_length]; exact h3) fun x hx => h4 x (swE_mem hk x hx)
/-- The clocks of the events changed about, changed about, are the clocks. -/
theorem row_swE {es : List Ev} {k n : Nat} {w : World} {G M : Nat} (hk : k + 1 < es.length) (hd : depB (evAt es k) (evAt es (k + 1)) = false) (hn : n ≤ 16)
    (hM : Mem w M n (clksL (evAt (swE es k)) n es.length)) (hA : At 26 w G (((cutV M n es.length).set k (.slice (some ⟨M, (k + 1) * n, none⟩) n n)).set (k + 1) (.slice (some ⟨M, k * n, none⟩) n n))) : RowII w (some ⟨G, 0, none⟩) (clksL (evAt es) n es.length) := by
  refine .inr ⟨G, 0, rfl, fun i zs hz => ?_⟩
  have hi : i < es.length := by have := (List.getElem?_eq_some_iff.1 hz).1; rwa [clksL_length] at this
  rw [clksL_at hi] at hz
  cases hz
  have hs := sw_bound hk hi
  refine ⟨some ⟨M, sw k i * n, none⟩, n, ?_, ?_, by rw [clkL_length]; exact Nat.le_refl _, by rw [clkL_length]; omega⟩
  · rw [Nat.zero_add, hA.cell, clkL_length]
    by_cases h1 : i = k
    · subst h1
      rw [List.getElem?_set_ne (by omega), List.getElem?_set_self (by rw [cutV_length]; omega), sw_at]
    · by_cases h2 : i = k + 1
      · subst h2
        rw [List.getElem?_set_self (by rw [List.length_set, cutV_length]; omega), sw_next]
      · rw [List.getElem?_set_ne (fun e => h2 e.symm), List.getElem?_set_ne (fun e => h1 e.symm), cutV_at hi, sw_other h1 h2]
  · refine (hM.wr (i := sw k i) (zs := clkL (evAt es) n i) ?_).row
    rw [clksL_at hs, clk_swE hk hd i]

/-- Clocks gathered one by one. -/
structure OwnA (base : Nat) (w : World) (v : Value) (n : Nat) (L : List Nat) (zss : List (List Int)) : Prop where
  own : OwnL base w v (L.map fun g => .slice (some ⟨g, 0, none⟩) n n)
  len : L.length = zss.length
  at_ : ∀ (i : Nat) (g : Nat) (zs : List Int), L[i]? = some g → zss[i]? = some zs → WrI w g 0 zs ∧ zs.length = n
theorem OwnA.nil (base : Nat) (w : World) (n : Nat) : OwnA base w (.slice none 0 0) n [] [] := ⟨World.ownsRow_nil _ _ _ _, rfl, fun i g zs h => by simp at h⟩
theorem OwnA.row {base : Nat} {w : World} {v : Value} {n : Nat} {L : List Nat} {zss : List (List Int)} (h : OwnA base w v n L zss) (hn : n ≤ 16) : ∃ a cap, v = .slice a zss.length cap ∧ zss.length ≤ cap ∧ RowII w a zss := by
  obtain ⟨⟨h0, ⟨rfl, h2⟩ | ⟨g, cap, cur, rfl, hg, hh, hl, hm, hs, ht⟩⟩, hlen, hat⟩ := h
  · rw [List.length_map, hlen] at h2
    have : zss = [] := List.length_eq_zero_iff.1 h2
    subst this
    exact ⟨none, 0, rfl, Nat.le_refl _, .inl rfl⟩
  · rw [List.length_map, hlen] at hl ht ⊢
    refine ⟨_, cap, rfl, hl, .inr ⟨g, 0, rfl, fun i zs hz => ?_⟩⟩
    have hi : i < zss.length := (List.getElem?_eq_some_iff.1 hz).1
    have hx := List.getElem?_eq_getElem (show i < L.length by omega)
    obtain ⟨h5, h6⟩ := hat i _ zs hx hz
    refine ⟨some ⟨L[i], 0, none⟩, n, ?_, h5.row, by omega, by omega⟩
    have e1 : (cur.toList.take (zss.length * 1))[i]? = some (.slice (some ⟨L[i], 0, none⟩) n n) := by rw [ht, List.getElem?_map, hx]; rfl
    rw [List.getElem?_take_of_lt (by omega)] at e1
    simp only [World.cell?, hh, Nat.zero_add, h6]
    simpa using e1
theorem OwnA.below {base : Nat} {w w' : World} {v : Value} {n : Nat} {L : List Nat} {zss : List (List Int)} (h : OwnA base w v n L zss) (hb : Below w.heap.size w w') : OwnA base w' v n L zss :=
  ⟨h.own.below hb, h.len, fun i g zs h1 h2 => ⟨(h.at_ i g zs h1 h2).1.below hb, (h.at_ i g zs h1 h2).2⟩⟩
/-- 'all = append(all, x)'. -/
theorem appA {ops : Array Oper} {rest : List Oper} {o : Oper} {a : Act} {Q : Exit → Act → World → Prop} {w0 : World} (s x : Operand) (gz n base : Nat) (v : Value) (L : List Nat) (zss : List (List Int)) (zs : List Int)
    (hgd : o.guard = none) (ho : o.op = .call { callee := .builtin .append, args := #[s, x], argTypes := #[23, 23] })
    (hs : a.eval s = v) (hx : a.eval x = .slice (some ⟨w0.heap.size, 0, none⟩) 1 1) (hown : OwnA base w0 v n L zss) (hz : WrI w0 gz 0 zs) (hzl : zs.length = n) (hlen : zss.length ≤ 1048576) (hbase : base ≤ w0.heap.size)
    (h : ∀ v' w', OwnA base w' v' n (L ++ [gz]) (zss ++ [zs]) → Below base w0 w' → wpList Try.prog ops Q rest (a.put o.dst v') w') :
    wpList Try.prog ops Q (o :: rest) a (w0.alloc (.cells #[.slice (some ⟨gz, 0, none⟩) n n] 26)) := by
  obtain ⟨i0, hi, hz0, hz1, hz2⟩ := info_parts Try.info26
  have hll := hown.len
  refine wpList_append_own (w := w0.alloc (.cells #[.slice (some ⟨gz, 0, none⟩) n n] 26)) hgd s x 23 ho base 26 i0 (.slice none 0 0) 1 24 Try.underlying23 hi hz0 hz1 hz2 rfl (by decide) v _ (L.map fun g => .slice (some ⟨g, 0, none⟩) n n) hs (World.ownsRow.alloc hown.own _)
    ⟨w0.heap.size, 0, none⟩ 1 1 [.slice (some ⟨gz, 0, none⟩) n n] hx rfl ?c1 ?c2 ?c3 ?c4 ?c5 ?_
  case c1 =>
    intro j u hj
    match j, hj with
    | 0, hj => simp at hj; subst hj; simp [Addr.add]
  case c2 => intro u hu; simp at hu; subst hu; rfl
  case c3 => rw [List.length_map]; unfold maxLen; omega
  case c4 => rw [List.length_map]; omega
  case c5 => simp; omega
  intro v' w' h1 h2 _
  have hkeep : ∀ g cs, BlkI w0 g cs → BlkI w' g cs := by
    intro g cs hb
    have hlt := heapLt (show w0.heap[g]? = some _ from hb)
    have hb2 : BlkI (w0.alloc (.cells #[.slice (some ⟨gz, 0, none⟩) n n] 26)) g cs := hb.below ((Below.refl _ w0).alloc (Nat.le_refl _) _)
    unfold BlkI at hb2 ⊢
    rw [h2.block g (by simp; omega) (fun e => hown.own.far hb e.symm)]
    exact hb2
  have hwr : ∀ g zs, WrI w0 g 0 zs → WrI w' g 0 zs := fun g zs ⟨cs, k1, k2⟩ => ⟨cs, hkeep g cs k1, k2⟩
  refine h v' w' ⟨?_, by simp [hll], fun i g y hg hy => ?_⟩ ?_
  · simpa [OwnL] using h1
  · rcases Nat.lt_or_ge i L.length with hi | hi
    · rw [List.getElem?_append_left hi] at hg
      rw [List.getElem?_append_left (by omega)] at hy
      obtain ⟨k1, k2⟩ := hown.at_ i g y hg hy
      exact ⟨hwr g y k1, k2⟩
    · have hi2 : i = L.length := by
        have := (List.getElem?_eq_some_iff.1 hg).1
        simp at this
        omega
      subst hi2
      rw [List.getElem?_append_right (Nat.le_refl _), Nat.sub_self] at hg
      rw [hll, List.getElem?_append_right (Nat.le_refl _), Nat.sub_self] at hy
      cases hg
      cases hy
      exact ⟨hwr _ _ hz, hzl⟩
  · exact ((Below.refl base w0).alloc hbase _).grown h2 (by simp; omega) hown.own.block
end Go.Proofs.Ytjedkfohmedmaaa
