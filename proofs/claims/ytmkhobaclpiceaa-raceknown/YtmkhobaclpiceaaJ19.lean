/- Joined texts of the proof. -/
import Derived.Test.YtmkhobaclpiceaaJ18
import Derived.WalkSpells
import Derived.Test.YtmkhobaclpiceaaJ17

/- race's small functions: which events are bound, of a variable, next by locks; a clock lifted. -/
namespace Go.Proofs.Ytmkhobaclpiceaa
open Go.RowKit
set_option linter.unusedVariables false
attribute [local go_sem ↓] Go.wp_at_zero Go.wp_at_succ

def bndE (a b : Ev) : Bool := !decide (a.th = b.th) && depB a b
set_option maxRecDepth 100000 in
set_option maxHeartbeats 1600000 in
theorem isBound_any (a b : Ev) (ha : a.ok) (hb : b.ok) (w : World) : Calls Try.prog 52 #[.agg a.cells.toArray, .agg b.cells.toArray] w fun r w' => r = .returned (.bool (bndE a b)) ∧ Below w.heap.size w w' := by
  have HD : Hid (∀ u, Calls Try.prog 23 #[.agg a.cells.toArray, .agg b.cells.toArray] u fun r w' => r = .returned (.bool (depB a b)) ∧ Below u.heap.size u w') := fun u => depends_any a b ha hb u
  obtain ⟨R, hR⟩ : ∃ R, Hid (R = depB a b) := ⟨_, (rfl : _ = depB _ _)⟩
  rw [← hR.out] at HD
  unfold bndE
  rw [← hR.out]
  clear hR ha hb
  obtain ⟨t, k, o⟩ := a
  obtain ⟨t2, k2, o2⟩ := b
  simp only [Ev.cells] at HD ⊢
  have hb2 : Below w.heap.size w ((w.alloc (.cells #[.int .i64 t, .int .i64 k, .int .i64 o] 24)).alloc (.cells #[.int .i64 t2, .int .i64 k2, .int .i64 o2] 24)) := ((Below.refl _ w).alloc (Nat.le_refl _) _).alloc (by simp) _
  have HB : Hid (Below w.heap.size w ((w.alloc (.cells #[.int .i64 t, .int .i64 k, .int .i64 o] 24)).alloc (.cells #[.int .i64 t2, .int .i64 k2, .int .i64 o2] 24))) := hb2
  by_cases h : t = t2
  · subst h
    go_enter Try.func52, Try.ntmps52
    go_wp2_with fail
    go_ret
    exact ⟨by simp, hb2⟩
  · have e1 : (t != t2) = true := by simpa using h
    rw [decide_eq_false h]
    clear hb2
    go_enter Try.func52, Try.ntmps52
    go_wp2_with (go_at_call 23; refine (HD.out _).mono ?_; rintro _ w2 ⟨rfl, hb2⟩)
    go_ret
    exact ⟨by simp, HB.out.trans (hb2.mono HB.out.size)⟩
theorem isOfVariable_any (e : Ev) (w : World) : Calls Try.prog 34 #[.agg e.cells.toArray] w fun r w' => r = .returned (.bool (varB e)) ∧ Below w.heap.size w w' := by
  obtain ⟨t, k, o⟩ := e
  simp only [Ev.cells, varB]
  by_cases h1 : k = 1
  · subst h1
    go_enter Try.func34, Try.ntmps34
    go_wp2
    go_ret
    exact ⟨by simp, (Below.refl _ w).alloc (Nat.le_refl _) _⟩
  · by_cases h2 : k = 2
    · subst h2
      go_enter Try.func34, Try.ntmps34
      go_wp2
      go_ret
      exact ⟨by simp, (Below.refl _ w).alloc (Nat.le_refl _) _⟩
    · have e1 : (k == 1) = false := by simpa using h1
      have e2 : (k == 2) = false := by simpa using h2
      have e3 : decide (k = 1) = false := by simpa using h1
      have e4 : decide (k = 2) = false := by simpa using h2
      rw [e3, e4]
      go_enter Try.func34, Try.ntmps34
      go_wp2
      go_ret
      exact ⟨rfl, (Below.refl _ w).alloc (Nat.le_refl _) _⟩
def lckE (a b : Ev) : Bool := decide (a.th = b.th) || (decide (a.kd = 4) && (decide (b.kd = 3) && decide (a.ob = b.ob)))
set_option maxRecDepth 100000 in
set_option maxHeartbeats 1600000 in
theorem isNextByLocks_any (a b : Ev) (w : World) : Calls Try.prog 49 #[.agg a.cells.toArray, .agg b.cells.toArray] w fun r w' => r = .returned (.bool (lckE a b)) ∧ Below w.heap.size w w' := by
  obtain ⟨t, k, o⟩ := a
  obtain ⟨t2, k2, o2⟩ := b
  simp only [Ev.cells, lckE]
  have hb2 : Below w.heap.size w ((w.alloc (.cells #[.int .i64 t, .int .i64 k, .int .i64 o] 24)).alloc (.cells #[.int .i64 t2, .int .i64 k2, .int .i64 o2] 24)) := ((Below.refl _ w).alloc (Nat.le_refl _) _).alloc (by simp) _
  by_cases h1 : t = t2
  · subst h1
    go_enter Try.func49, Try.ntmps49
    go_wp2
    go_ret
    exact ⟨by simp, hb2⟩
  · have e1 : (t == t2) = false := by simpa using h1
    rw [decide_eq_false h1]
    by_cases h2 : k = 4
    · subst h2
      by_cases h3 : k2 = 3
      · subst h3
        by_cases h4 : o = o2
        · subst h4
          go_enter Try.func49, Try.ntmps49
          go_wp2
          go_ret
          exact ⟨by simp, hb2⟩
        · have e4 : (o == o2) = false := by simpa using h4
          rw [decide_eq_false h4]
          go_enter Try.func49, Try.ntmps49
          go_wp2
          go_ret
          exact ⟨rfl, hb2⟩
      · have e3 : (k2 == 3) = false := by simpa using h3
        rw [decide_eq_false h3]
        go_enter Try.func49, Try.ntmps49
        go_wp2
        go_ret
        exact ⟨by simp, hb2⟩
    · have e2 : (k == 4) = false := by simpa using h2
      rw [decide_eq_false h2]
      go_enter Try.func49, Try.ntmps49
      go_wp2
      go_ret
      exact ⟨by simp, hb2⟩
set_option maxRecDepth 100000 in
set_option maxHeartbeats 1600000 in
theorem lift_any (g o c : Nat) (zs : List Int) (b : Option Addr) (c2 : Nat) (ys : List Int) (w : World) (hz : WrI w g o zs) (hy : RowI w b ys) (hf : Far b ys.length g o (o + zs.length)) (hl : ys.length = zs.length) (hm : zs.length ≤ 1048576) (hc : zs.length ≤ c) (hc2 : ys.length ≤ c2) :
    Calls Try.prog 50 #[.slice (some ⟨g, o, none⟩) zs.length c, .slice b ys.length c2] w fun r w' => r = .returned (.tuple #[]) ∧ WrI w' g o (gatL zs ys) ∧ Ovr g o (o + zs.length) w w' := by
  obtain ⟨G, hG⟩ : ∃ G, Hid (G = gatL zs ys) := ⟨_, (rfl : _ = gatL _ _)⟩
  rw [← hG.out]
  obtain ⟨n, hn⟩ : ∃ n, Hid (n = zs.length) := ⟨_, (rfl : zs.length = _)⟩
  have hn2 : Hid (n = ys.length) := hn.out.trans hl.symm
  rw [← hn2.out] at hc2 hf ⊢
  rw [← hn.out] at hm hc hf ⊢
  have HY : Hid (RowI w b ys ∧ Far b n g o (o + n)) := ⟨hy, hf⟩
  have HZ : Hid (WrI w g o zs) := hz
  clear hz hy hf hl
  go_enter Try.func50, Try.ntmps50
  go_wp2_with fail
  go_loopw [8] (fun t wr => ∃ (k : Nat) (us : List Int), k ≤ n ∧ t = .int .i64 k ∧ Hid (us.length = n ∧ (∀ q x y, q < k → zs[q]? = some x → ys[q]? = some y → us[q]? = some (max x y)) ∧ (∀ q, k ≤ q → us[q]? = zs[q]?)) ∧ Hid (WrI wr g o us) ∧ Hid (Ovr g o (o + n) w wr)) (fun t _ => n - (intOf t).toNat)
  case atStart => exact ⟨0, zs, Nat.zero_le _, rfl, ⟨hn.out.symm, fun q x y hq => by omega, fun q _ => rfl⟩, HZ.out, Ovr.refl ..⟩
  case round =>
    obtain ⟨k, us, hk, rfl, hU, hW, hO⟩ := hrel
    by_cases hlt : k < n
    · obtain ⟨x, hx⟩ : ∃ x, zs[k]? = some x := ⟨zs[k]'(by rw [← hn.out]; exact hlt), by rw [List.getElem?_eq_getElem]⟩
      obtain ⟨y, hy⟩ : ∃ x, ys[k]? = some x := ⟨ys[k]'(by rw [← hn2.out]; exact hlt), by rw [List.getElem?_eq_getElem]⟩
      have hux : us[k]? = some x := by rw [hU.out.2.2 k (Nat.le_refl _)]; exact hx
      have hku : k < us.length := by rw [hU.out.1]; exact hlt
      have q1 := hW.out.cell hux
      have q2 := hW.out.frozen (o + k)
      obtain ⟨g1, o1, rfl, q3⟩ := (RowI.ovr HY.out.1 (by rw [← hn2.out]; exact HY.out.2) hO.out).at k y hy
      obtain ⟨M, hM2⟩ : ∃ M, (if x < y then y else x) = M := ⟨_, rfl⟩
      have hM : M = max x y := by rw [← hM2]; split <;> omega
      have hW2 : Hid (WrI (wr.setCell ⟨g, o + k, none⟩ (.int .i64 M)) g o (us.set k M)) := hW.out.set hku M
      have hO2 : Hid (Ovr g o (o + n) w (wr.setCell ⟨g, o + k, none⟩ (.int .i64 M))) := hW.out.ovr hku hO.out (Nat.le_refl _) (by rw [hU.out.1]; exact Nat.le_refl _) _
      have hU2 : Hid ((us.set k M).length = n ∧ (∀ q x y, q < k + 1 → zs[q]? = some x → ys[q]? = some y → (us.set k M)[q]? = some (max x y)) ∧ (∀ q, k + 1 ≤ q → (us.set k M)[q]? = zs[q]?)) := by
        refine ⟨by rw [List.length_set]; exact hU.out.1, fun q u v hq hu hv => ?_, fun q hq => ?_⟩
        · by_cases hqk : q = k
          · subst hqk
            rw [List.getElem?_set_self hku, hM]
            rw [hx] at hu
            rw [hy] at hv
            cases hu
            cases hv
            rfl
          · rw [List.getElem?_set_ne (fun e => hqk e.symm)]
            exact hU.out.2.1 q u v (by omega) hu hv
        · rw [List.getElem?_set_ne (by omega)]
          exact hU.out.2.2 q (by omega)
      clear hU hW hO hx hy hux hku
      clear hM
      go_wp2
      go_roundw
      case rel => exact ⟨k + 1, us.set k M, by omega, by go_num, hU2.out, hW2.out, hO2.out⟩
      case measure => simp [intOf]; omega
    · have hGu : Hid (G = us) := by
        show G = us
        rw [hG.out, gatL]
        apply List.ext_getElem?
        intro q
        rcases Nat.lt_or_ge q n with hq | hq
        · have h1 : q < zs.length := by rw [← hn.out]; exact hq
          have h2 : q < ys.length := by rw [← hn2.out]; exact hq
          rw [hU.out.2.1 q _ _ (by omega) (List.getElem?_eq_getElem h1) (List.getElem?_eq_getElem h2)]
          simp [List.getElem?_zipWith, List.getElem?_eq_getElem h1, List.getElem?_eq_getElem h2]
        · rw [List.getElem?_eq_none (by simp; rw [← hn.out]; omega), List.getElem?_eq_none (by rw [hU.out.1]; exact hq)]
      go_wp2
      go_end0
      exact ⟨rfl, by rw [hGu.out]; exact hW.out, hO.out⟩

end Go.Proofs.Ytmkhobaclpiceaa

/- Rows of numbers in blocks of their own, under one block of heads; slices.Clone of numbers. -/
namespace Go.Proofs.Ytmkhobaclpiceaa
open Go.RowKit
set_option linter.unusedVariables false
attribute [local go_sem ↓] Go.wp_at_zero Go.wp_at_succ

theorem WrI.but {w w' : World} {g g' o : Nat} {zs : List Int} (h : WrI w g o zs) (hb : But g' w w') (hn : g ≠ g') : WrI w' g o zs := by
  obtain ⟨cs, h1, h2⟩ := h
  exact ⟨cs, hb.at (t := 3) h1 hn, h2⟩
/-- Heads in a block G; each names a row of n numbers in a block of its own, below top. -/
structure Lay (base top : Nat) (w : World) (G n : Nat) (hs : List Value) (zss : List (List Int)) : Prop where
  blk : At 32 w G hs
  bg : base ≤ G
  gt : G < top
  tp : top ≤ w.heap.size
  rows : ∀ (i : Nat) (zs : List Int), zss[i]? = some zs → ∃ g c : Nat, hs[i]? = some (Value.slice (some ⟨g, 0, none⟩) n c) ∧ n ≤ c ∧ base ≤ g ∧ g < top ∧ g ≠ G ∧ zs.length = n ∧ WrI w g 0 zs
theorem Lay.but {base top : Nat} {w w' : World} {G n g : Nat} {hs : List Value} {zss : List (List Int)} (h : Lay base top w G n hs zss) (hb : But g w w') (hg : top ≤ g) : Lay base top w' G n hs zss := by
  have hG := h.gt
  refine ⟨hb.at h.blk (by omega), h.bg, h.gt, Nat.le_trans h.tp hb.size, fun i zs hz => ?_⟩
  obtain ⟨g1, c, h1, h2, h3, h4, h5, h6, h7⟩ := h.rows i zs hz
  exact ⟨g1, c, h1, h2, h3, h4, h5, h6, h7.but hb (by omega)⟩
theorem Lay.below {base top : Nat} {w w' : World} {G n : Nat} {hs : List Value} {zss : List (List Int)} (h : Lay base top w G n hs zss) (hb : Below w.heap.size w w') : Lay base top w' G n hs zss :=
  h.but (But.of_below (g := w.heap.size) hb) h.tp
theorem Lay.set {base top : Nat} {w : World} {G n : Nat} {hs : List Value} {zss : List (List Int)} (h : Lay base top w G n hs zss) {i : Nat} (hi : zss.length ≤ i) (v : Value) : Lay base top (w.setCell ⟨G, i, none⟩ v) G n (hs.set i v) zss := by
  have hbut : But G w (w.setCell ⟨G, i, none⟩ v) := (But.refl G w).setCell i v
  refine ⟨h.blk.set i v, h.bg, h.gt, by simpa using h.tp, fun k zs hz => ?_⟩
  obtain ⟨g1, c, h1, h2, h3, h4, h5, h6, h7⟩ := h.rows k zs hz
  have hk := (List.getElem?_eq_some_iff.1 hz).1
  exact ⟨g1, c, by rw [List.getElem?_set_ne (by omega)]; exact h1, h2, h3, h4, h5, h6, h7.but hbut h5⟩
theorem Lay.snoc {base top top' : Nat} {w : World} {G n g c : Nat} {hs : List Value} {zss : List (List Int)} {zs : List Int} (h : Lay base top w G n hs zss) (hh : hs[zss.length]? = some (.slice (some ⟨g, 0, none⟩) n c)) (hc : n ≤ c) (hb : base ≤ g) (hg : g < top') (ht : top ≤ top') (ht2 : top' ≤ w.heap.size) (hne : g ≠ G) (hl : zs.length = n) (hw : WrI w g 0 zs) : Lay base top' w G n hs (zss ++ [zs]) := by
  refine ⟨h.blk, h.bg, Nat.lt_of_lt_of_le h.gt ht, ht2, fun i zs' hz => ?_⟩
  rcases Nat.lt_trichotomy i zss.length with hi | hi | hi
  · rw [List.getElem?_append_left hi] at hz
    obtain ⟨g1, c1, h1, h2, h3, h4, h5, h6, h7⟩ := h.rows i zs' hz
    exact ⟨g1, c1, h1, h2, h3, by omega, h5, h6, h7⟩
  · subst hi
    simp at hz
    subst hz
    exact ⟨g, c, hh, hc, hb, hg, hne, hl, hw⟩
  · rw [List.getElem?_eq_none (by simp; omega)] at hz
    cases hz
theorem Lay.row {base top : Nat} {w : World} {G n : Nat} {hs : List Value} {zss : List (List Int)} (h : Lay base top w G n hs zss) (hn : n ≤ 1024) : RowII w (some ⟨G, 0, none⟩) zss := by
  refine .inr ⟨G, 0, rfl, fun i zs hz => ?_⟩
  obtain ⟨g1, c, h1, h2, h3, h4, h5, h6, h7⟩ := h.rows i zs hz
  exact ⟨_, c, by rw [h.blk.cell, Nat.zero_add, h1, h6], h7.row, by omega, by omega⟩
theorem Lay.at {base top : Nat} {w : World} {G n : Nat} {hs : List Value} {zss : List (List Int)} (h : Lay base top w G n hs zss) {i : Nat} {zs : List Int} (hz : zss[i]? = some zs) : ∃ g c : Nat, w.cell? ⟨G, i, none⟩ = some (.slice (some ⟨g, 0, none⟩) n c) ∧ n ≤ c ∧ g < top ∧ g ≠ G ∧ zs.length = n ∧ WrI w g 0 zs := by
  obtain ⟨g1, c, h1, h2, h3, h4, h5, h6, h7⟩ := h.rows i zs hz
  exact ⟨g1, c, by rw [h.blk.cell]; exact h1, h2, h4, h5, h6, h7⟩
theorem RowII.take {w : World} {a : Option Addr} {xs : List (List Int)} (h : RowII w a xs) (k : Nat) : RowII w a (xs.take k) := by
  rcases h with rfl | ⟨g, o, ha, hr⟩
  · exact .inl (by simp)
  · refine .inr ⟨g, o, ha, fun i zs hz => ?_⟩
    have hik : i < k := by
      have := (List.getElem?_eq_some_iff.1 hz).1
      rw [List.length_take] at this
      omega
    rw [List.getElem?_take_of_lt hik] at hz
    exact hr i zs hz

set_option maxRecDepth 100000 in
set_option maxHeartbeats 1600000 in
theorem clone_any (b : Option Addr) (n c : Nat) (zs : List Int) (w : World) (hz : RowI w b zs) (hl : zs.length = n) (hn : 0 < n) (hn2 : n ≤ 1024) (hc : n ≤ c) :
    Calls Try.prog 58 #[.slice b n c] w fun r w' => ∃ g cap, r = .returned (.slice (some ⟨g, 0, none⟩) n cap) ∧ n ≤ cap ∧ WrI w' g 0 zs ∧ w.heap.size ≤ g ∧ Below w.heap.size w w' := by
  obtain ⟨i0, hi, hz0, hz1, hz2⟩ := info_parts Try.info3
  have hne : zs ≠ [] := fun h => by rw [h] at hl; simp at hl; omega
  rcases hz with h | ⟨gb, ob, rfl, hr⟩
  · exact absurd h hne
  have HO : (w.alloc (.cells #[] 3)).ownsRow w.heap.size 3 1 (.slice (some ⟨w.heap.size, 0, none⟩) 0 0) 0 [] := ⟨rfl, .inr ⟨w.heap.size, 0, #[], rfl, Nat.le_refl _, heap_new w _, Nat.le_refl _, by unfold maxLen; omega, rfl, rfl⟩⟩
  have hnews : ∀ j u, (zs.map I64)[j]? = some u → (w.alloc (.cells #[] 3)).cell? ((⟨gb, ob, none⟩ : Addr).add j) = some u := by
    intro j u hj
    rw [List.getElem?_map] at hj
    cases hzj : zs[j]? with
    | none => rw [hzj] at hj; cases hj
    | some z =>
      rw [hzj] at hj
      cases hj
      rw [add_none]
      have := hr j z hzj
      rw [World.cell?_alloc_lt _ _ _ (lt_of_cell this)]
      exact this
  have hone : ∀ u ∈ zs.map I64, u.oneCell' = true := by
    intro u hu
    obtain ⟨z, _, rfl⟩ := List.mem_map.1 hu
    rfl
  have hlm : (zs.map I64).length = n := by rw [List.length_map]; exact hl
  have HF : Hid (∀ v' w', w'.ownsRow w.heap.size 3 1 v' (0 + n) ([] ++ zs.map I64) → (w.alloc (.cells #[] 3)).grownBy w' (Value.slice (some ⟨w.heap.size, 0, none⟩) 0 0).ownBlock → ∃ g cap, v' = .slice (some ⟨g, 0, none⟩) n cap ∧ n ≤ cap ∧ WrI w' g 0 zs ∧ w.heap.size ≤ g ∧ Below w.heap.size w w') := by
    intro v' w' h1 h2
    have hb : Below w.heap.size w w' := ((Below.refl _ w).alloc (Nat.le_refl _) _).grown h2 (by simp) (by intro k hk; simp [Value.ownBlock] at hk; omega)
    rw [Nat.zero_add, List.nil_append] at h1
    obtain ⟨h0, ⟨rfl, h2'⟩ | ⟨g, cap, cur, rfl, hg, hh, hnn, hm, hs, ht⟩⟩ := h1
    · omega
    · refine ⟨g, cap, rfl, hnn, ⟨cur.toList, by unfold BlkI; rw [hh], fun k z hz => ?_⟩, hg, hb⟩
      have hk : k < n := by have := (List.getElem?_eq_some_iff.1 hz).1; omega
      have e1 : (cur.toList.take (n * 1))[k]? = some (I64 z) := by rw [ht, List.getElem?_map, hz]; rfl
      rw [List.getElem?_take_of_lt (by omega)] at e1
      rw [Nat.zero_add]
      exact e1
  have hnil := fun u => Lib.run_eql_slice_nil (P := Try.prog) u 32 3 (some ⟨gb, ob, none⟩) n c 0 0 Try.underlying32
  clear hr hne hl
  go_enter Try.func58, Try.ntmps58
  go_wp2_with (at_builtin; refine wpList_append_own (w := w.alloc (.cells #[] 3)) rfl (.tmp 5) (.tmp 6) 32 rfl w.heap.size 3 i0 (.int .i64 0) 1 8 Try.underlying32 hi hz0 hz1 hz2 rfl (by decide) _ _ _ rfl HO ⟨gb, ob, none⟩ n c (zs.map I64) rfl (by rw [hlm]; omega) hnews hone (by unfold maxLen; omega) (by omega) (by simp) ?_; intro v' w1 hown' hgrow _; obtain ⟨g, cap, rfl, f2, f3, f4, f5⟩ := HF.out v' w1 hown' hgrow)
  go_ret
  exact ⟨g, cap, rfl, f2, f3, f4, f5⟩
end Go.Proofs.Ytmkhobaclpiceaa
