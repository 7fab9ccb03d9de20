/- Rows of numbers and of events; whether two are the same. -/
import Derived.Test.YtjedkfohmedmaaaDpA
namespace Go.Proofs.Ytjedkfohmedmaaa
open Go.RowKit
set_option linter.unusedVariables false

theorem below_drN {B : Nat} {w wr : World} (h : Below B w wr) (n : Nat) : Below B w (wr.drewN n) := ⟨h.os, h.tape, h.output, h.size, h.block⟩
/-- A row of numbers in memory. -/
def RowI (w : World) (a : Option Addr) (zs : List Int) : Prop := zs = [] ∨ ∃ g o, a = some ⟨g, o, none⟩ ∧ ∀ i z, zs[i]? = some z → w.cell? ⟨g, o + i, none⟩ = some (.int .i64 z)
theorem RowI.below {w w' : World} {a : Option Addr} {zs : List Int} (h : RowI w a zs) (hb : Below w.heap.size w w') : RowI w' a zs := by
  rcases h with h | ⟨g, o, ha, hr⟩
  · exact .inl h
  · exact .inr ⟨g, o, ha, fun i z hz => (hb.cell (lt_of_cell (hr i z hz))).trans (hr i z hz)⟩
theorem RowI.at {w : World} {a : Option Addr} {zs : List Int} (h : RowI w a zs) (i : Nat) (z : Int) (hz : zs[i]? = some z) : ∃ g o, a = some ⟨g, o, none⟩ ∧ w.cell? ⟨g, o + i, none⟩ = some (.int .i64 z) := by
  rcases h with rfl | ⟨g, o, ha, hr⟩
  · simp at hz
  · exact ⟨g, o, ha, hr i z hz⟩
/-- A row of events in memory. -/
def RowEv (w : World) (a : Option Addr) (es : List Ev) : Prop := es = [] ∨ ∃ g o, a = some ⟨g, o, none⟩ ∧ ∀ i e, es[i]? = some e → w.rangeAt g (o + i * 3) e.cells
theorem range_cells {w : World} {g o : Nat} {e : Ev} (h : w.rangeAt g o e.cells) : w.cell? ⟨g, o, none⟩ = some (.int .i64 e.th) ∧ w.cell? ⟨g, o + 1, none⟩ = some (.int .i64 e.kd) ∧ w.cell? ⟨g, o + 2, none⟩ = some (.int .i64 e.ob) :=
  ⟨by have := h 0 _ rfl; simpa using this, h 1 _ rfl, h 2 _ rfl⟩
theorem RowEv.below {w w' : World} {a : Option Addr} {es : List Ev} (h : RowEv w a es) (hb : Below w.heap.size w w') : RowEv w' a es := by
  rcases h with h | ⟨g, o, ha, hr⟩
  · exact .inl h
  · exact .inr ⟨g, o, ha, fun i e he j v hj => (hb.cell (lt_of_cell (hr i e he j v hj))).trans (hr i e he j v hj)⟩
theorem RowEv.at {w : World} {a : Option Addr} {es : List Ev} (h : RowEv w a es) (i : Nat) (e : Ev) (he : es[i]? = some e) : ∃ g o, a = some ⟨g, o, none⟩ ∧ w.rangeAt g (o + i * 3) e.cells := by
  rcases h with rfl | ⟨g, o, ha, hr⟩
  · simp at he
  · exact ⟨g, o, ha, hr i e he⟩
theorem lists_eq {α : Type} {xs ys : List α} (hl : xs.length = ys.length) (h : ∀ (i : Nat) (x y : α), xs[i]? = some x → ys[i]? = some y → x = y) : xs = ys := by
  apply List.ext_getElem hl
  intro i h1 h2
  exact h i _ _ (List.getElem?_eq_getElem h1) (List.getElem?_eq_getElem h2)

set_option maxRecDepth 100000 in
set_option maxHeartbeats 3200000 in
theorem sameInts_any (xs ys : List Int) (a1 a2 : Option Addr) (c1 c2 : Nat) (w : World) (h1 : RowI w a1 xs) (h2 : RowI w a2 ys) (hl1 : xs.length ≤ 4611686018427387904) (hl2 : ys.length ≤ 4611686018427387904) (hk1 : xs.length ≤ c1) (hk2 : ys.length ≤ c2) :
    Calls Try.prog 17 #[.slice a1 xs.length c1, .slice a2 ys.length c2] w fun r w' => r = .returned (.bool (decide (xs = ys))) ∧ Below w.heap.size w w' := by
  obtain ⟨R, hR⟩ : ∃ R, Hid (R = decide (xs = ys)) := ⟨_, (rfl : _ = decide _)⟩
  rw [← hR.out]
  obtain ⟨n, hn⟩ : ∃ n, Hid (n = xs.length) := ⟨_, (rfl : xs.length = _)⟩
  obtain ⟨n2, hn2⟩ : ∃ n, Hid (n = ys.length) := ⟨_, (rfl : ys.length = _)⟩
  rw [← hn.out] at hl1 hk1 ⊢
  rw [← hn2.out] at hl2 hk2 ⊢
  have HR : Hid (RowI w a1 xs ∧ RowI w a2 ys) := ⟨h1, h2⟩
  clear h1 h2
  by_cases hnn : n = n2
  · subst hnn
    go_enter Try.func17, Try.ntmps17
    go_wp2_with fail
    go_loopw [5] (fun j wr => ∃ i : Nat, j = .int .i64 (i : Int) ∧ i ≤ n ∧ Hid (Below w.heap.size w wr ∧ ∀ (q : Nat) (x y : Int), q < i → xs[q]? = some x → ys[q]? = some y → x = y)) (fun j _ => n - (intOf j).toNat)
    case atStart => exact ⟨0, rfl, by omega, Below.refl _ _, fun q x y hq => by omega⟩
    case round =>
      obtain ⟨i, rfl, hi, hX⟩ := hrel
      by_cases hc : i < n
      · obtain ⟨x, hx⟩ : ∃ k, xs[i]? = some k := ⟨xs[i]'(by rw [← hn.out]; exact hc), by rw [List.getElem?_eq_getElem]⟩
        obtain ⟨y, hy⟩ : ∃ k, ys[i]? = some k := ⟨ys[i]'(by rw [← hn2.out]; exact hc), by rw [List.getElem?_eq_getElem]⟩
        obtain ⟨hbw, hall⟩ := hX.out
        obtain ⟨g1, o1, rfl, hr1⟩ := (HR.out.1.below hbw).at i x hx
        obtain ⟨g2, o2, rfl, hr2⟩ := (HR.out.2.below hbw).at i y hy
        have HA : Hid (∀ (q : Nat) (x y : Int), q < i → xs[q]? = some x → ys[q]? = some y → x = y) := hall
        have HXY : Hid (xs[i]? = some x ∧ ys[i]? = some y) := ⟨hx, hy⟩
        clear hX hall HR hx hy
        by_cases hM : x = y
        · subst hM
          go_wp2_with fail
          go_quiet (fail)
          go_wp2_with fail
          go_roundw
          case rel =>
            refine ⟨i + 1, by go_num, by omega, below_drN hbw _, fun q u v hq hu hv => ?_⟩
            by_cases hqi : q = i
            · subst hqi
              rw [HXY.out.1] at hu
              rw [HXY.out.2] at hv
              cases hu
              cases hv
              rfl
            · exact HA.out q u v (by omega) hu hv
          case measure => simp [intOf]; omega
        · have hRf : R = false := by
            rw [hR.out]
            refine decide_eq_false fun h => hM ?_
            have e1 := HXY.out.1
            rw [h, HXY.out.2] at e1
            exact (Option.some.inj e1).symm
          have hs : (x == y) = false := by rw [beq_eq_false_iff_ne]; exact hM
          clear hM
          go_wp2_with fail
          go_quiet (fail)
          go_wp2_with fail
          go_ret
          exact ⟨by rw [hRf]; rfl, below_drN hbw _⟩
      · have hin : i = n := by omega
        obtain ⟨hbw, hall⟩ := hX.out
        have hRt : R = true := by
          rw [hR.out]
          refine decide_eq_true (lists_eq (by rw [← hn.out, ← hn2.out]) fun q u v hu hv => hall q u v ?_ hu hv)
          have := (List.getElem?_eq_some_iff.1 hu).1
          rw [← hn.out] at this
          omega
        clear hX hall hin HR
        go_wp2
        go_ret
        exact ⟨by rw [hRt]; rfl, hbw⟩
  · have hne : ((n : Int) == (n2 : Int)) = false := by rw [beq_eq_false_iff_ne]; omega
    have hRf : R = false := by
      rw [hR.out]
      exact decide_eq_false fun h => hnn (by rw [hn.out, hn2.out, h])
    clear hnn
    go_enter Try.func17, Try.ntmps17
    go_wp2_with fail
    go_ret
    exact ⟨by rw [hRf]; rfl, Below.refl _ _⟩
instance : DecidableEq Ev := fun a b => if h : a.th = b.th ∧ a.kd = b.kd ∧ a.ob = b.ob then .isTrue (by cases a; cases b; simp_all) else .isFalse (by rintro rfl; exact h ⟨rfl, rfl, rfl⟩)
def sameEv (xs ys : List Ev) : Bool := decide (xs = ys)
theorem eq23 (x y : Ev) (u : World) : (Op.equalIn 10000 25 (.agg x.cells.toArray) (.agg y.cells.toArray)).run Try.prog u = .ok (decide (x = y)) u := by
  obtain ⟨a, b, c⟩ := x
  obtain ⟨d, e, f⟩ := y
  simp only [Ev.cells]
  by_cases h1 : a = d
  · subst h1
    by_cases h2 : b = e
    · subst h2
      by_cases h3 : c = f
      · subst h3
        rw [decide_eq_true rfl]
        go_simp
      · rw [decide_eq_false (by intro h; cases h; exact h3 rfl)]
        have e3 : (c == f) = false := by rw [beq_eq_false_iff_ne]; exact h3
        go_simp
    · rw [decide_eq_false (by intro h; cases h; exact h2 rfl)]
      have e2 : (b == e) = false := by rw [beq_eq_false_iff_ne]; exact h2
      go_simp
  · rw [decide_eq_false (by intro h; cases h; exact h1 rfl)]
    have e1 : (a == d) = false := by rw [beq_eq_false_iff_ne]; exact h1
    go_simp

set_option maxRecDepth 100000 in
set_option maxHeartbeats 3200000 in
theorem sameEvents_any (xs ys : List Ev) (a1 a2 : Option Addr) (c1 c2 : Nat) (w : World) (h1 : RowEv w a1 xs) (h2 : RowEv w a2 ys) (hl1 : xs.length ≤ 4611686018427387904) (hl2 : ys.length ≤ 4611686018427387904) (hk1 : xs.length ≤ c1) (hk2 : ys.length ≤ c2) :
    Calls Try.prog 39 #[.slice a1 xs.length c1, .slice a2 ys.length c2] w fun r w' => r = .returned (.bool (sameEv xs ys)) ∧ Below w.heap.size w w' := by
  obtain ⟨R, hR⟩ : ∃ R, Hid (R = sameEv xs ys) := ⟨_, (rfl : _ = sameEv _ _)⟩
  rw [← hR.out]
  obtain ⟨n, hn⟩ : ∃ n, Hid (n = xs.length) := ⟨_, (rfl : xs.length = _)⟩
  obtain ⟨n2, hn2⟩ : ∃ n, Hid (n = ys.length) := ⟨_, (rfl : ys.length = _)⟩
  rw [← hn.out] at hl1 hk1 ⊢
  rw [← hn2.out] at hl2 hk2 ⊢
  have HR : Hid (RowEv w a1 xs ∧ RowEv w a2 ys) := ⟨h1, h2⟩
  clear h1 h2
  by_cases hnn : n = n2
  · subst hnn
    go_enter Try.func39, Try.ntmps39
    go_wp2_with fail
    go_loopw [5] (fun j wr => ∃ i : Nat, j = .int .i64 (i : Int) ∧ i ≤ n ∧ Hid (Below w.heap.size w wr ∧ ∀ (q : Nat) (x y : Ev), q < i → xs[q]? = some x → ys[q]? = some y → x = y)) (fun j _ => n - (intOf j).toNat)
    case atStart => exact ⟨0, rfl, by omega, Below.refl _ _, fun q x y hq => by omega⟩
    case round =>
      obtain ⟨i, rfl, hi, hX⟩ := hrel
      by_cases hc : i < n
      · obtain ⟨x, hx⟩ : ∃ k, xs[i]? = some k := ⟨xs[i]'(by rw [← hn.out]; exact hc), by rw [List.getElem?_eq_getElem]⟩
        obtain ⟨y, hy⟩ : ∃ k, ys[i]? = some k := ⟨ys[i]'(by rw [← hn2.out]; exact hc), by rw [List.getElem?_eq_getElem]⟩
        obtain ⟨hbw, hall⟩ := hX.out
        obtain ⟨g1, o1, rfl, hr1⟩ := (HR.out.1.below hbw).at i x hx
        obtain ⟨g2, o2, rfl, hr2⟩ := (HR.out.2.below hbw).at i y hy
        have HA : Hid (∀ (q : Nat) (x y : Ev), q < i → xs[q]? = some x → ys[q]? = some y → x = y) := hall
        have HXY : Hid (xs[i]? = some x ∧ ys[i]? = some y) := ⟨hx, hy⟩
        clear hX hall HR hx hy
        have hQ := fun u => eq23 x y u
        obtain ⟨q1, q2, q3⟩ := range_cells hr1
        obtain ⟨r1, r2, r3⟩ := range_cells hr2
        by_cases hM : x = y
        · rw [decide_eq_true hM] at hQ
          have hM2 : Hid (x = y) := hM
          clear hM
          obtain ⟨xt, xk, xo⟩ := x
          obtain ⟨yt, yk, yo⟩ := y
          dsimp only at q1 q2 q3 r1 r2 r3
          simp only [Ev.cells] at hQ
          clear hr1 hr2
          go_wp2_with fail
          go_quiet (fail)
          go_wp2_with fail
          go_roundw
          case rel =>
            refine ⟨i + 1, by go_num, by omega, below_drN hbw _, fun q u v hq hu hv => ?_⟩
            by_cases hqi : q = i
            · subst hqi
              rw [HXY.out.1] at hu
              rw [HXY.out.2] at hv
              cases hu
              cases hv
              exact hM2.out
            · exact HA.out q u v (by omega) hu hv
          case measure => simp [intOf]; omega
        · have hRf : R = false := by
            rw [hR.out]
            unfold sameEv
            refine decide_eq_false fun h => hM ?_
            have e1 := HXY.out.1
            rw [h, HXY.out.2] at e1
            exact (Option.some.inj e1).symm
          rw [decide_eq_false hM] at hQ
          clear hM
          obtain ⟨xt, xk, xo⟩ := x
          obtain ⟨yt, yk, yo⟩ := y
          dsimp only at q1 q2 q3 r1 r2 r3
          simp only [Ev.cells] at hQ
          clear hr1 hr2
          go_wp2_with fail
          go_quiet (fail)
          go_wp2_with fail
          go_ret
          exact ⟨by rw [hRf]; rfl, below_drN hbw _⟩
      · have hin : i = n := by omega
        obtain ⟨hbw, hall⟩ := hX.out
        have hRt : R = true := by
          rw [hR.out]
          unfold sameEv
          refine decide_eq_true (lists_eq (by rw [← hn.out, ← hn2.out]) fun q u v hu hv => hall q u v ?_ hu hv)
          have := (List.getElem?_eq_some_iff.1 hu).1
          rw [← hn.out] at this
          omega
        clear hX hall hin HR
        go_wp2
        go_ret
        exact ⟨by rw [hRt]; rfl, hbw⟩
  · have hne : ((n : Int) == (n2 : Int)) = false := by rw [beq_eq_false_iff_ne]; omega
    have hRf : R = false := by
      rw [hR.out]
      unfold sameEv
      exact decide_eq_false fun h => hnn (by rw [hn.out, hn2.out, h])
    clear hnn
    go_enter Try.func39, Try.ntmps39
    go_wp2_with fail
    go_ret
    exact ⟨by rw [hRf]; rfl, Below.refl _ _⟩
end Go.Proofs.Ytjedkfohmedmaaa
