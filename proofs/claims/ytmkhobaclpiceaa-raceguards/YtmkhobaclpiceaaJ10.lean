/- Joined texts of the proof. -/
import Derived.Test.YtmkhobaclpiceaaJ9
import Derived.Test.YtmkhobaclpiceaaJ3

/- Pairs in memory: rows of pairs, append, the law's same. -/
namespace Go.Proofs.Ytmkhobaclpiceaa
open Go.RowKit
set_option linter.unusedVariables false
attribute [local go_sem ↓] Go.wp_at_zero Go.wp_at_succ

theorem Try.info45 : (Try.prog.info? 45).map (fun i => (i.zero, i.size, i.bytes)) = some (some (.agg #[.int .i64 0, .int .i64 0]), 2, 16) := by kernel_rfl
def prC (p : Nat × Nat) : List Value := [.int .i64 (p.1 : Int), .int .i64 (p.2 : Int)]
def flatP (ps : List (Nat × Nat)) : List Value := (ps.map prC).flatten
theorem flatP_length : ∀ ps : List (Nat × Nat), (flatP ps).length = 2 * ps.length
  | [] => rfl
  | p :: r => by
    have := flatP_length r
    simp only [flatP, List.map_cons, List.flatten_cons, List.length_append, List.length_cons] at this ⊢
    rw [this]
    simp [prC]
    omega
theorem flatP_append (xs ys : List (Nat × Nat)) : flatP (xs ++ ys) = flatP xs ++ flatP ys := by simp [flatP]
theorem flatP_at : ∀ (ps : List (Nat × Nat)) (i : Nat) (p : Nat × Nat), ps[i]? = some p → (flatP ps)[i * 2]? = some (.int .i64 (p.1 : Int)) ∧ (flatP ps)[i * 2 + 1]? = some (.int .i64 (p.2 : Int))
  | [], i, p, h => by simp at h
  | q :: r, 0, p, h => by
    simp at h
    subst h
    exact ⟨rfl, rfl⟩
  | q :: r, i + 1, p, h => by
    have := flatP_at r i p (by simpa using h)
    rw [show (i + 1) * 2 = i * 2 + 1 + 1 by omega]
    exact this
/-- A row of pairs that is read. -/
def RowP (w : World) (a : Option Addr) (ps : List (Nat × Nat)) : Prop := ps = [] ∨ ∃ g o, a = some ⟨g, o, none⟩ ∧ ∀ i p, ps[i]? = some p → w.cell? ⟨g, o + i * 2, none⟩ = some (.int .i64 (p.1 : Int)) ∧ w.cell? ⟨g, o + i * 2 + 1, none⟩ = some (.int .i64 (p.2 : Int))
theorem RowP.below {w w' : World} {a : Option Addr} {ps : List (Nat × Nat)} (h : RowP w a ps) (hb : Below w.heap.size w w') : RowP w' a ps := by
  rcases h with h | ⟨g, o, ha, hr⟩
  · exact .inl h
  · exact .inr ⟨g, o, ha, fun i p hp => ⟨(hb.cell (lt_of_cell (hr i p hp).1)).trans (hr i p hp).1, (hb.cell (lt_of_cell (hr i p hp).2)).trans (hr i p hp).2⟩⟩
theorem RowP.at {w : World} {a : Option Addr} {ps : List (Nat × Nat)} (h : RowP w a ps) (i : Nat) (p : Nat × Nat) (hp : ps[i]? = some p) : ∃ g o, a = some ⟨g, o, none⟩ ∧ w.cell? ⟨g, o + i * 2, none⟩ = some (.int .i64 (p.1 : Int)) ∧ w.cell? ⟨g, o + i * 2 + 1, none⟩ = some (.int .i64 (p.2 : Int)) := by
  rcases h with rfl | ⟨g, o, ha, hr⟩
  · simp at hp
  · exact ⟨g, o, ha, hr i p hp⟩
/-- The call's own row of pairs. -/
def OwnP (base : Nat) (w : World) (v : Value) (ps : List (Nat × Nat)) : Prop := w.ownsRow base 45 2 v ps.length (flatP ps)
theorem OwnP.block {base : Nat} {w : World} {v : Value} {ps : List (Nat × Nat)} (h : OwnP base w v ps) : ∀ k, v.ownBlock = some k → base ≤ k := by
  intro k hk
  obtain ⟨_, ⟨rfl, _⟩ | ⟨g, cap, cur, rfl, hg, _⟩⟩ := h
  · simp [Value.ownBlock] at hk
  · simp [Value.ownBlock] at hk
    omega
theorem OwnP.below {base : Nat} {w w' : World} {v : Value} {ps : List (Nat × Nat)} (h : OwnP base w v ps) (hb : Below w.heap.size w w') : OwnP base w' v ps := by
  obtain ⟨h0, ⟨h1, h2⟩ | ⟨g, cap, cur, rfl, hg, hh, hr⟩⟩ := h
  · exact ⟨h0, .inl ⟨h1, h2⟩⟩
  · refine ⟨h0, .inr ⟨g, cap, cur, rfl, hg, ?_, hr⟩⟩
    rw [hb.block g (heapLt hh)]
    exact hh
theorem OwnP.down {base base' : Nat} {w : World} {v : Value} {ps : List (Nat × Nat)} (h : OwnP base w v ps) (hb : base' ≤ base) : OwnP base' w v ps := by
  obtain ⟨h0, h1 | ⟨g, cap, cur, h2, hg, hh⟩⟩ := h
  · exact ⟨h0, .inl h1⟩
  · exact ⟨h0, .inr ⟨g, cap, cur, h2, Nat.le_trans hb hg, hh⟩⟩
theorem OwnP.nil (base : Nat) (w : World) : OwnP base w (.slice none 0 0) [] := World.ownsRow_nil _ _ _ _
theorem OwnP.row {base : Nat} {w : World} {v : Value} {ps : List (Nat × Nat)} (h : OwnP base w v ps) : ∃ a cap, v = .slice a ps.length cap ∧ ps.length ≤ cap ∧ RowP w a ps := by
  obtain ⟨h0, ⟨rfl, h2⟩ | ⟨g, cap, cur, rfl, hg, hh, hn, hm, hs, ht⟩⟩ := h
  · have : ps = [] := List.length_eq_zero_iff.1 h2
    subst this
    exact ⟨none, 0, rfl, Nat.le_refl _, .inl rfl⟩
  · refine ⟨_, cap, rfl, hn, .inr ⟨g, 0, rfl, fun i p hp => ?_⟩⟩
    have ht2 : cur.toList.take (ps.length * 2) = flatP ps := ht
    have hi : i < ps.length := (List.getElem?_eq_some_iff.1 hp).1
    obtain ⟨e1, e2⟩ := flatP_at ps i p hp
    rw [← ht2, List.getElem?_take_of_lt (by omega)] at e1
    rw [← ht2, List.getElem?_take_of_lt (by omega)] at e2
    simp only [World.cell?, hh, Nat.zero_add]
    exact ⟨by simpa using e1, by simpa using e2⟩
/-- 'out = append(out, Pair{..})'. -/
theorem appP {ops : Array Oper} {rest : List Oper} {o : Oper} {a : Act} {Q : Exit → Act → World → Prop} {w0 : World} (s x : Operand) (p : Nat × Nat) (base : Nat) (v : Value) (ps : List (Nat × Nat))
    (hgd : o.guard = none) (ho : o.op = .call { callee := .builtin .append, args := #[s, x], argTypes := #[26, 26] })
    (hs : a.eval s = v) (hx : a.eval x = .slice (some ⟨w0.heap.size, 0, none⟩) 1 1) (hown : OwnP base w0 v ps) (hlen : ps.length ≤ 1048576) (hbase : base ≤ w0.heap.size)
    (h : ∀ v' w', OwnP base w' v' (ps ++ [p]) → Below base w0 w' → wpList Try.prog ops Q rest (a.put o.dst v') w') :
    wpList Try.prog ops Q (o :: rest) a (w0.alloc (.cells #[.int .i64 (p.1 : Int), .int .i64 (p.2 : Int)] 45)) := by
  obtain ⟨i0, hi, hz0, hz1, hz2⟩ := info_parts Try.info45
  refine wpList_append_own (w := w0.alloc (.cells #[.int .i64 (p.1 : Int), .int .i64 (p.2 : Int)] 45)) hgd s x 26 ho base 45 i0 _ 2 16 Try.underlying26 hi hz0 hz1 hz2 rfl (by decide) v ps.length (flatP ps) hs (World.ownsRow.alloc hown _)
    ⟨w0.heap.size, 0, none⟩ 1 1 (prC p) hx rfl ?c1 ?c2 ?c3 ?c4 ?c5 ?_
  case c1 =>
    intro j u hj
    match j, hj with
    | 0, hj => simp [prC] at hj; subst hj; simp [Addr.add]
    | 1, hj => simp [prC] at hj; subst hj; simp [Addr.add]
    | j + 2, hj => simp [prC] at hj
  case c2 => intro u hu; simp [prC] at hu; rcases hu with rfl | rfl <;> rfl
  case c3 => unfold maxLen; omega
  case c4 => omega
  case c5 => simp; omega
  intro v' w' h1 h2 _
  refine h v' w' ?_ ?_
  · unfold OwnP
    rw [List.length_append, flatP_append]
    have : flatP [p] = prC p := by simp [flatP]
    rw [this]
    exact h1
  · exact ((Below.refl base w0).alloc hbase _).grown h2 (by simp; omega) hown.block

theorem eqP (x y : Nat × Nat) (u : World) : (Op.equalIn 10000 45 (.agg #[.int .i64 (x.1 : Int), .int .i64 (x.2 : Int)]) (.agg #[.int .i64 (y.1 : Int), .int .i64 (y.2 : Int)])).run Try.prog u = .ok (decide (x = y)) u := by
  obtain ⟨a, b⟩ := x
  obtain ⟨d, e⟩ := y
  simp only
  by_cases h1 : a = d
  · subst h1
    by_cases h2 : b = e
    · subst h2
      rw [decide_eq_true rfl]
      go_simp
    · rw [decide_eq_false (by intro h; cases h; exact h2 rfl)]
      have e2 : ((b : Int) == (e : Int)) = false := by rw [beq_eq_false_iff_ne]; omega
      go_simp
  · rw [decide_eq_false (by intro h; cases h; exact h1 rfl)]
    have e1 : ((a : Int) == (d : Int)) = false := by rw [beq_eq_false_iff_ne]; omega
    go_simp

set_option maxRecDepth 100000 in
set_option maxHeartbeats 3200000 in
theorem same_any (xs ys : List (Nat × Nat)) (a1 a2 : Option Addr) (c1 c2 : Nat) (w : World) (h1 : RowP w a1 xs) (h2 : RowP w a2 ys) (hl1 : xs.length ≤ 4611686018427387904) (hl2 : ys.length ≤ 4611686018427387904) (hk1 : xs.length ≤ c1) (hk2 : ys.length ≤ c2) :
    Calls Try.prog 14 #[.slice a1 xs.length c1, .slice a2 ys.length c2] w fun r w' => r = .returned (.bool (decide (xs = ys))) ∧ Below w.heap.size w w' := by
  obtain ⟨R, hR⟩ : ∃ R, Hid (R = decide (xs = ys)) := ⟨_, (rfl : _ = decide _)⟩
  rw [← hR.out]
  obtain ⟨n, hn⟩ : ∃ n, Hid (n = xs.length) := ⟨_, (rfl : xs.length = _)⟩
  obtain ⟨n2, hn2⟩ : ∃ n, Hid (n = ys.length) := ⟨_, (rfl : ys.length = _)⟩
  rw [← hn.out] at hl1 hk1 ⊢
  rw [← hn2.out] at hl2 hk2 ⊢
  have HR : Hid (RowP w a1 xs ∧ RowP w a2 ys) := ⟨h1, h2⟩
  clear h1 h2
  by_cases hnn : n = n2
  · subst hnn
    go_enter Try.func14, Try.ntmps14
    go_wp2_with fail
    go_loopw [5] (fun j wr => ∃ i : Nat, j = .int .i64 (i : Int) ∧ i ≤ n ∧ Hid (Below w.heap.size w wr ∧ ∀ (q : Nat) (x y : Nat × Nat), q < i → xs[q]? = some x → ys[q]? = some y → x = y)) (fun j _ => n - (intOf j).toNat)
    case atStart => exact ⟨0, rfl, by omega, Below.refl _ _, fun q x y hq => by omega⟩
    case round =>
      obtain ⟨i, rfl, hi, hX⟩ := hrel
      by_cases hc : i < n
      · obtain ⟨x, hx⟩ : ∃ k, xs[i]? = some k := ⟨xs[i]'(by rw [← hn.out]; exact hc), by rw [List.getElem?_eq_getElem]⟩
        obtain ⟨y, hy⟩ : ∃ k, ys[i]? = some k := ⟨ys[i]'(by rw [← hn2.out]; exact hc), by rw [List.getElem?_eq_getElem]⟩
        obtain ⟨hbw, hall⟩ := hX.out
        obtain ⟨g1, o1, rfl, q1, q2⟩ := (HR.out.1.below hbw).at i x hx
        obtain ⟨g2, o2, rfl, r1, r2⟩ := (HR.out.2.below hbw).at i y hy
        have HA : Hid (∀ (q : Nat) (x y : Nat × Nat), q < i → xs[q]? = some x → ys[q]? = some y → x = y) := hall
        have HXY : Hid (xs[i]? = some x ∧ ys[i]? = some y) := ⟨hx, hy⟩
        clear hX hall HR hx hy
        have hQ := fun u => eqP x y u
        by_cases hM : x = y
        · rw [decide_eq_true hM] at hQ
          have hM2 : Hid (x = y) := hM
          clear hM
          obtain ⟨xa, xb⟩ := x
          obtain ⟨ya, yb⟩ := y
          dsimp only at q1 q2 r1 r2 hQ
          go_wp2_with fail
          go_quiet (fail)
          go_wp2_with fail
          go_roundw
          case rel =>
            refine ⟨i + 1, by go_num, by omega, below_drN hbw _, fun q u v hq hu hv => ?_⟩
            by_cases hqi : q = i
            · subst hqi
              rw [HXY.out.1] at hu
              rw [HXY.out.2] at hv
              cases hu
              cases hv
              exact hM2.out
            · exact HA.out q u v (by omega) hu hv
          case measure => simp [intOf]; omega
        · have hRf : R = false := by
            rw [hR.out]
            refine decide_eq_false fun h => hM ?_
            have e1 := HXY.out.1
            rw [h, HXY.out.2] at e1
            exact (Option.some.inj e1).symm
          rw [decide_eq_false hM] at hQ
          clear hM
          obtain ⟨xa, xb⟩ := x
          obtain ⟨ya, yb⟩ := y
          dsimp only at q1 q2 r1 r2 hQ
          go_wp2_with fail
          go_quiet (fail)
          go_wp2_with fail
          go_ret
          exact ⟨by rw [hRf]; rfl, below_drN hbw _⟩
      · have hRt : R = true := by
          rw [hR.out]
          refine decide_eq_true (lists_eq (by rw [← hn.out, ← hn2.out]) fun q x y hx hy => ?_)
          have hq : q < n := by rw [hn.out]; exact (List.getElem?_eq_some_iff.1 hx).1
          exact hX.out.2 q x y (by omega) hx hy
        have HRt : Hid (R = true) := hRt
        clear hRt
        go_wp2_with fail
        go_ret
        exact ⟨by rw [HRt.out]; rfl, hX.out.1⟩
  · have hRf : R = false := by
      rw [hR.out]
      refine decide_eq_false fun h => hnn ?_
      rw [hn.out, hn2.out, h]
    have HRf : Hid (R = false) := hRf
    clear hRf
    have hnz : ((n : Int) == (n2 : Int)) = false := by rw [beq_eq_false_iff_ne]; omega
    go_enter Try.func14, Try.ntmps14
    go_wp2_with fail
    go_ret
    exact ⟨by rw [HRf.out]; rfl, Below.refl _ _⟩
end Go.Proofs.Ytmkhobaclpiceaa

/- clock's small functions: isPlace, what is strange about an event, refused. -/
namespace Go.Proofs.Ytmkhobaclpiceaa
open Go.RowKit
set_option linter.unusedVariables false
attribute [local go_sem ↓] Go.wp_at_zero Go.wp_at_succ

def plc (z m : Int) : Bool := decide (0 ≤ z) && decide (z < m)

set_option maxRecDepth 100000 in
theorem isPlace_any (z m : Int) (w : World) : Calls Try.prog 41 #[.int .i64 z, .int .i64 m] w fun r w' => r = .returned (.bool (plc z m)) ∧ w' = w := by
  by_cases h : 0 ≤ z
  · by_cases h2 : z < m
    · have e : plc z m = true := by simp [plc, h, h2]
      rw [e]
      go_enter Try.func41, Try.ntmps41
      go_wp2
      go_ret
      exact ⟨rfl, rfl⟩
    · have e : plc z m = false := by simp [plc, h2]
      rw [e]
      go_enter Try.func41, Try.ntmps41
      go_wp2
      go_ret
      exact ⟨rfl, rfl⟩
  · have e : plc z m = false := by simp [plc, h]
    rw [e]
    go_enter Try.func41, Try.ntmps41
    go_wp2
    go_ret
    exact ⟨rfl, rfl⟩

theorem badEv_plc (n : Int) (e : Ev) : badEv n e = !plc e.th n := by
  unfold badEv plc
  by_cases h : e.th < 0
  · simp [h]
  · by_cases h2 : n ≤ e.th
    · simp [h, h2]
    · simp [h, h2]; omega

set_option maxRecDepth 100000 in
theorem strange_any (e : Ev) (n : Int) (g : Nat) (w : World) (hn : w.cell? ⟨g, 0, none⟩ = some (.int .i64 n)) :
    Calls Try.prog 54 #[.agg e.cells.toArray, .pointer (some ⟨g, 0, none⟩)] w fun r w' => r = .returned (.bool (badEv n e)) ∧ Below w.heap.size w w' := by
  rw [badEv_plc]
  obtain ⟨S, hS⟩ : ∃ S, S = plc e.th n := ⟨_, rfl⟩
  have HP := fun u => isPlace_any e.th n u
  rw [← hS] at HP ⊢
  clear hS
  obtain ⟨t, k, o⟩ := e
  simp only [Ev.cells] at HP ⊢
  have hb : Below w.heap.size w (w.alloc (.cells #[.int .i64 t, .int .i64 k, .int .i64 o] 24)) := (Below.refl _ w).alloc (Nat.le_refl _) _
  have hn2 := (hb.cell (lt_of_cell hn)).trans hn
  go_enter Try.func54, Try.ntmps54
  go_wp2_with (go_at_call 41; refine (HP _).mono ?_; rintro e w2 ⟨rfl, rfl⟩)
  go_ret
  exact ⟨rfl, hb⟩

/-- The closure that asks whether an event is strange. -/
def fnStr (g : Nat) : Value := .func (.func 54) #[] #[.pointer (some ⟨g, 0, none⟩)]

set_option maxRecDepth 100000 in
set_option maxHeartbeats 1600000 in
theorem indexEv_any (es : List Ev) (n : Int) (g : Nat) (a : Option Addr) (c : Nat) (w : World) (hn : w.cell? ⟨g, 0, none⟩ = some (.int .i64 n)) (h : RowEv w a es) (hl : es.length ≤ 4611686018427387904) (hk : es.length ≤ c) :
    Calls Try.prog 60 #[.slice a es.length c, fnStr g] w fun r w' => ∃ z : Int, r = .returned (.int .i64 z) ∧ decide (0 ≤ z) = es.any (badEv n) ∧ Below w.heap.size w w' := by
  obtain ⟨R, hR⟩ : ∃ R, Hid (R = es.any (badEv n)) := ⟨_, (rfl : _ = List.any _ _)⟩
  rw [← hR.out]
  obtain ⟨m, hm⟩ : ∃ n, Hid (n = es.length) := ⟨_, (rfl : es.length = _)⟩
  rw [← hm.out] at hl hk ⊢
  have HR : Hid (RowEv w a es) := h
  have HN : Hid (w.cell? ⟨g, 0, none⟩ = some (.int .i64 n)) := hn
  clear h hn
  unfold fnStr
  go_enter Try.func60, Try.ntmps60
  go_wp2_with fail
  go_loopw [8] (fun j wr => ∃ i : Nat, j = .int .i64 (i : Int) ∧ i ≤ m ∧ Hid (Below w.heap.size w wr) ∧ Hid (∀ (q : Nat) (e : Ev), q < i → es[q]? = some e → badEv n e = false)) (fun j _ => m - (intOf j).toNat)
  case atStart => exact ⟨0, rfl, by omega, Below.refl _ _, fun q e hq => by omega⟩
  case round =>
    obtain ⟨i, rfl, hi, hbw, hX⟩ := hrel
    by_cases hc : i < m
    · obtain ⟨e, he⟩ : ∃ k, es[i]? = some k := ⟨es[i]'(by rw [← hm.out]; exact hc), by rw [List.getElem?_eq_getElem]⟩
      obtain ⟨g1, o1, rfl, hr⟩ := (HR.out.below hbw.out).at i e he
      obtain ⟨q1, q2, q3⟩ := range_cells hr
      have HE : Hid (es[i]? = some e) := he
      have HC := strange_any e n g wr ((hbw.out.cell (lt_of_cell HN.out)).trans HN.out)
      obtain ⟨S, hS⟩ : ∃ S, Hid (S = badEv n e) := ⟨_, (rfl : _ = badEv _ _)⟩
      rw [← hS.out] at HC
      clear he hr
      obtain ⟨t, k, o⟩ := e
      dsimp only at q1 q2 q3
      simp only [Ev.cells] at HC
      go_wp2_with (go_at_call 54; refine HC.mono ?_; rintro e w2 ⟨rfl, hbel2⟩; have hB2 : Hid (Below w.heap.size w w2) := hbw.out.trans (hbel2.mono hbw.out.size); clear hbel2 q1 q2 q3 HC hbw; cases S)
      · go_roundw
        case rel =>
          refine ⟨i + 1, by go_num, by omega, hB2.out, fun q x hq hx => ?_⟩
          by_cases hqi : q = i
          · subst hqi
            rw [HE.out] at hx
            cases hx
            exact hS.out.symm
          · exact hX.out q x (by omega) hx
        case measure => simp [intOf]; omega
      · have hRt : R = true := by rw [hR.out]; exact List.any_eq_true.2 ⟨_, List.mem_of_getElem? HE.out, hS.out.symm⟩
        go_ret
        exact ⟨i, rfl, by rw [hRt]; simp, hB2.out⟩
    · have hRf : R = false := by
        rw [hR.out, Bool.eq_false_iff]
        intro hb
        obtain ⟨e, he, hb⟩ := List.any_eq_true.1 hb
        obtain ⟨q, hq⟩ := List.getElem?_of_mem he
        have := (List.getElem?_eq_some_iff.1 hq).1
        rw [← hm.out] at this
        rw [hX.out q e (by omega) hq] at hb
        cases hb
      clear hX
      go_wp2
      go_ret
      exact ⟨-1, rfl, by rw [hRf]; rfl, hbw.out⟩

set_option maxRecDepth 100000 in
theorem anyEv_any (es : List Ev) (n : Int) (g : Nat) (a : Option Addr) (c : Nat) (w : World) (hn : w.cell? ⟨g, 0, none⟩ = some (.int .i64 n)) (h : RowEv w a es) (hl : es.length ≤ 4611686018427387904) (hk : es.length ≤ c) :
    Calls Try.prog 55 #[.slice a es.length c, fnStr g] w fun r w' => r = .returned (.bool (es.any (badEv n))) ∧ Below w.heap.size w w' := by
  have HC := indexEv_any es n g a c w hn h hl hk
  obtain ⟨R, hR⟩ : ∃ R, R = es.any (badEv n) := ⟨_, rfl⟩
  obtain ⟨m, hm⟩ : ∃ n, n = es.length := ⟨_, rfl⟩
  rw [← hR, ← hm] at HC
  rw [← hR, ← hm]
  unfold fnStr at *
  clear hn h hl hk hR hm
  go_enter Try.func55, Try.ntmps55
  go_wp2_with (go_at_call 60; refine HC.mono ?_; rintro e w2 ⟨z, rfl, hz, hbel⟩)
  go_ret
  exact ⟨by simp, hbel⟩
end Go.Proofs.Ytmkhobaclpiceaa

/- clock.refused: why events, with more behind them, are no trace. -/
namespace Go.Proofs.Ytmkhobaclpiceaa
open Go.RowKit
set_option linter.unusedVariables false
attribute [local go_sem ↓] Go.wp_at_zero Go.wp_at_succ

set_option maxRecDepth 100000 in
set_option maxHeartbeats 3200000 in
theorem refused_any (es ms : List Ev) (n : Int) (a1 a2 : Option Addr) (c1 c2 : Nat) (w : World) (h1 : RowEv w a1 es) (h2 : RowEv w a2 ms) (hl1 : es.length ≤ 4611686018427387904) (hl2 : ms.length ≤ 1) (hk1 : es.length ≤ c1) (hk2 : ms.length ≤ c2) :
    Calls Try.prog 39 #[.int .i64 n, .slice a1 es.length c1, .slice a2 ms.length c2] w fun r w' => r = .returned (.int .i64 (wrongZ (es ++ ms) n)) ∧ Below w.heap.size w w' := by
  obtain ⟨R, hR⟩ : ∃ R, Hid (R = wrongZ (es ++ ms) n) := ⟨_, (rfl : _ = wrongZ _ _)⟩
  rw [← hR.out]
  have hb0 : Below w.heap.size w (w.alloc (.cells #[.int .i64 n] 3)) := (Below.refl _ w).alloc (Nat.le_refl _) _
  have hcn : (w.alloc (.cells #[.int .i64 n] 3)).cell? ⟨w.heap.size, 0, none⟩ = some (.int .i64 n) := by unfold World.cell?; rw [heap_new]; rfl
  have HC1 := anyEv_any es n w.heap.size a1 c1 (w.alloc (.cells #[.int .i64 n] 3)) hcn (h1.below hb0) hl1 hk1
  have HC2 : ∀ u, Below (w.alloc (.cells #[.int .i64 n] 3)).heap.size (w.alloc (.cells #[.int .i64 n] 3)) u → Calls Try.prog 55 #[.slice a2 ms.length c2, fnStr w.heap.size] u fun r w' => r = .returned (.bool (ms.any (badEv n))) ∧ Below u.heap.size u w' := fun u hu => anyEv_any ms n w.heap.size a2 c2 u ((hu.cell (lt_of_cell hcn)).trans hcn) ((h2.below hb0).below hu) (by omega) hk2
  obtain ⟨m1, hm1⟩ : ∃ n, n = es.length := ⟨_, rfl⟩
  obtain ⟨m2, hm2⟩ : ∃ n, n = ms.length := ⟨_, rfl⟩
  have hR2 : Hid (R = if n < 1 ∨ 16 < n then 2 else if 1024 < m1 + m2 then 3 else if es.any (badEv n) || ms.any (badEv n) then 2 else 0) := by
    show R = _
    rw [hR.out, wrongZ, List.length_append, List.any_append, hm1, hm2]
  obtain ⟨A1, hA1⟩ : ∃ A, A = es.any (badEv n) := ⟨_, rfl⟩
  obtain ⟨A2, hA2⟩ : ∃ A, A = ms.any (badEv n) := ⟨_, rfl⟩
  rw [← hA1, ← hm1] at HC1
  rw [← hA2, ← hm2] at HC2
  rw [← hA1, ← hA2] at hR2
  rw [← hm1] at hl1 hk1 ⊢
  rw [← hm2] at hl2 hk2 ⊢
  have HC2' : Hid _ := HC2
  clear hR hA1 hA2 hm1 hm2 h1 h2 HC2
  unfold fnStr at HC1 HC2'
  by_cases hn1 : n < 1
  · have hRf : R = 2 := by rw [hR2.out, if_pos (.inl hn1)]
    subst hRf
    go_enter Try.func39, Try.ntmps39
    go_wp2
    go_ret
    exact ⟨rfl, hb0⟩
  by_cases hn2 : 16 < n
  · have hRf : R = 2 := by rw [hR2.out, if_pos (.inr hn2)]
    subst hRf
    go_enter Try.func39, Try.ntmps39
    go_wp2
    go_ret
    exact ⟨rfl, hb0⟩
  have hw : IntKind.i64.wrap ((m1 : Int) + (m2 : Int)) = (m1 : Int) + (m2 : Int) := by rw [IntKind.wrap_i64]; omega
  by_cases hm : 1024 < m1 + m2
  · have hRf : R = 3 := by rw [hR2.out, if_neg (by omega), if_pos hm]
    have hm' : (1024 : Int) < (m1 : Int) + (m2 : Int) := by omega
    subst hRf
    go_enter Try.func39, Try.ntmps39
    go_wp2
    go_ret
    exact ⟨rfl, hb0⟩
  have hm' : ¬ (1024 : Int) < (m1 : Int) + (m2 : Int) := by omega
  have hR3 : Hid (R = if A1 || A2 then 2 else 0) := by show R = _; rw [hR2.out, if_neg (by omega), if_neg hm]
  clear hR2
  go_enter Try.func39, Try.ntmps39
  go_wp2_with (first | (go_at_call_of 55 m1; refine HC1.mono ?_; rintro e w2 ⟨rfl, hbel2⟩; have hB2 : Hid (Below w.heap.size w w2) := hb0.trans (hbel2.mono hb0.size); have HC3 := HC2'.out w2 hbel2; clear hbel2 HC1 HC2'; cases A1) | (go_at_call_of 55 m2; refine HC3.mono ?_; rintro e w3 ⟨rfl, hbel3⟩; have hB3 : Hid (Below w.heap.size w w3) := hB2.out.trans (hbel3.mono hB2.out.size); clear hbel3 HC3; cases A2))
  all_goals (have hRf := hR3.out; subst hRf; go_ret)
  · exact ⟨rfl, hB3.out⟩
  · exact ⟨rfl, hB3.out⟩
  · exact ⟨rfl, hB2.out⟩
end Go.Proofs.Ytmkhobaclpiceaa

/- clock.Next's closure: whether a clock has not n numbers; of any of a row. -/
namespace Go.Proofs.Ytmkhobaclpiceaa
open Go.RowKit
set_option linter.unusedVariables false
attribute [local go_sem ↓] Go.wp_at_zero Go.wp_at_succ

def othC (n : Int) (z : List Int) : Bool := !decide ((z.length : Int) = n)

set_option maxRecDepth 100000 in
theorem other_any (m c : Nat) (b : Option Addr) (n : Int) (g : Nat) (w : World) (hn : w.cell? ⟨g, 0, none⟩ = some (.int .i64 n)) :
    Calls Try.prog 62 #[.slice b m c, .pointer (some ⟨g, 0, none⟩)] w fun r w' => r = .returned (.bool (!decide ((m : Int) = n))) ∧ Below w.heap.size w w' := by
  have e : ((m : Int) != n) = !decide ((m : Int) = n) := by
    by_cases h : (m : Int) = n <;> simp [h]
  rw [← e]
  clear e
  go_enter Try.func62, Try.ntmps62
  go_wp2
  go_ret
  exact ⟨rfl, Below.refl _ _⟩

/-- The closure that asks whether a clock is another one's. -/
def fnOth (g : Nat) : Value := .func (.func 62) #[] #[.pointer (some ⟨g, 0, none⟩)]

set_option maxRecDepth 100000 in
set_option maxHeartbeats 1600000 in
theorem indexII_any (es : List (List Int)) (n : Int) (g : Nat) (a : Option Addr) (c : Nat) (w : World) (hn : w.cell? ⟨g, 0, none⟩ = some (.int .i64 n)) (h : RowII w a es) (hl : es.length ≤ 4611686018427387904) (hk : es.length ≤ c) :
    Calls Try.prog 64 #[.slice a es.length c, fnOth g] w fun r w' => ∃ z : Int, r = .returned (.int .i64 z) ∧ decide (0 ≤ z) = es.any (othC n) ∧ Below w.heap.size w w' := by
  obtain ⟨R, hR⟩ : ∃ R, Hid (R = es.any (othC n)) := ⟨_, (rfl : _ = List.any _ _)⟩
  rw [← hR.out]
  obtain ⟨m, hm⟩ : ∃ n, Hid (n = es.length) := ⟨_, (rfl : es.length = _)⟩
  rw [← hm.out] at hl hk ⊢
  have HR : Hid (RowII w a es) := h
  have HN : Hid (w.cell? ⟨g, 0, none⟩ = some (.int .i64 n)) := hn
  clear h hn
  unfold fnOth
  go_enter Try.func64, Try.ntmps64
  go_wp2_with fail
  go_loopw [8] (fun j wr => ∃ i : Nat, j = .int .i64 (i : Int) ∧ i ≤ m ∧ Hid (Below w.heap.size w wr) ∧ Hid (∀ (q : Nat) (e : List Int), q < i → es[q]? = some e → othC n e = false)) (fun j _ => m - (intOf j).toNat)
  case atStart => exact ⟨0, rfl, by omega, Below.refl _ _, fun q e hq => by omega⟩
  case round =>
    obtain ⟨i, rfl, hi, hbw, hX⟩ := hrel
    by_cases hc : i < m
    · obtain ⟨e, he⟩ : ∃ k, es[i]? = some k := ⟨es[i]'(by rw [← hm.out]; exact hc), by rw [List.getElem?_eq_getElem]⟩
      obtain ⟨g1, o1, b1, k1, rfl, hr, -, -, -⟩ := (HR.out.below hbw.out).at i e he
      have HE : Hid (es[i]? = some e) := he
      have HC := other_any e.length k1 b1 n g wr ((hbw.out.cell (lt_of_cell HN.out)).trans HN.out)
      obtain ⟨S, hS⟩ : ∃ S, Hid (S = othC n e) := ⟨_, (rfl : _ = othC _ _)⟩
      have HC' : Calls Try.prog 62 #[.slice b1 e.length k1, .pointer (some ⟨g, 0, none⟩)] wr fun r w' => r = .returned (.bool S) ∧ Below wr.heap.size wr w' := by rw [hS.out]; exact HC
      clear he HC
      obtain ⟨le, hle⟩ : ∃ l, l = e.length := ⟨_, rfl⟩
      rw [← hle] at hr HC'
      clear hle
      go_wp2_with (go_at_call 62; refine HC'.mono ?_; rintro e w2 ⟨rfl, hbel2⟩; have hB2 : Hid (Below w.heap.size w w2) := hbw.out.trans (hbel2.mono hbw.out.size); clear hbel2 hr HC' hbw; cases S)
      · go_roundw
        case rel =>
          refine ⟨i + 1, by go_num, by omega, hB2.out, fun q x hq hx => ?_⟩
          by_cases hqi : q = i
          · subst hqi
            rw [HE.out] at hx
            cases hx
            exact hS.out.symm
          · exact hX.out q x (by omega) hx
        case measure => simp [intOf]; omega
      · have hRt : R = true := by rw [hR.out]; exact List.any_eq_true.2 ⟨_, List.mem_of_getElem? HE.out, hS.out.symm⟩
        go_ret
        exact ⟨i, rfl, by rw [hRt]; simp, hB2.out⟩
    · have hRf : R = false := by
        rw [hR.out, Bool.eq_false_iff]
        intro hb
        obtain ⟨e, he, hb⟩ := List.any_eq_true.1 hb
        obtain ⟨q, hq⟩ := List.getElem?_of_mem he
        have := (List.getElem?_eq_some_iff.1 hq).1
        rw [← hm.out] at this
        rw [hX.out q e (by omega) hq] at hb
        cases hb
      clear hX
      go_wp2
      go_ret
      exact ⟨-1, rfl, by rw [hRf]; rfl, hbw.out⟩

set_option maxRecDepth 100000 in
theorem anyII_any (es : List (List Int)) (n : Int) (g : Nat) (a : Option Addr) (c : Nat) (w : World) (hn : w.cell? ⟨g, 0, none⟩ = some (.int .i64 n)) (h : RowII w a es) (hl : es.length ≤ 4611686018427387904) (hk : es.length ≤ c) :
    Calls Try.prog 63 #[.slice a es.length c, fnOth g] w fun r w' => r = .returned (.bool (es.any (othC n))) ∧ Below w.heap.size w w' := by
  have HC := indexII_any es n g a c w hn h hl hk
  obtain ⟨R, hR⟩ : ∃ R, R = es.any (othC n) := ⟨_, rfl⟩
  obtain ⟨m, hm⟩ : ∃ n, n = es.length := ⟨_, rfl⟩
  rw [← hR, ← hm] at HC
  rw [← hR, ← hm]
  unfold fnOth at *
  clear hn h hl hk hR hm
  go_enter Try.func63, Try.ntmps63
  go_wp2_with (go_at_call 64; refine HC.mono ?_; rintro e w2 ⟨z, rfl, hz, hbel⟩)
  go_ret
  exact ⟨by simp, hbel⟩
end Go.Proofs.Ytmkhobaclpiceaa
