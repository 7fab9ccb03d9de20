/- Joined texts of the proof. -/
import Derived.Test.YtbamocalhojmeaaJ1
import Derived.Laws.CopyOwn
import Derived.Deep.RegionHeld3
import Derived.Deep.DrawnRows

/- Rows of numbers and of events; whether two are the same. -/
namespace Go.Proofs.Ytbamocalhojmeaa
open Go.RowKit
set_option linter.unusedVariables false

theorem below_drN {B : Nat} {w wr : World} (h : Below B w wr) (n : Nat) : Below B w (wr.drewN n) := ⟨h.os, h.tape, h.output, h.size, h.block⟩
/-- A row of numbers in memory. -/
def RowI (w : World) (a : Option Addr) (zs : List Int) : Prop := zs = [] ∨ ∃ g o, a = some ⟨g, o, none⟩ ∧ ∀ i z, zs[i]? = some z → w.cell? ⟨g, o + i, none⟩ = some (.int .i64 z)
theorem RowI.below {w w' : World} {a : Option Addr} {zs : List Int} (h : RowI w a zs) (hb : Below w.heap.size w w') : RowI w' a zs := by
  rcases h with h | ⟨g, o, ha, hr⟩
  · exact .inl h
  · exact .inr ⟨g, o, ha, fun i z hz => (hb.cell (lt_of_cell (hr i z hz))).trans (hr i z hz)⟩
theorem RowI.at {w : World} {a : Option Addr} {zs : List Int} (h : RowI w a zs) (i : Nat) (z : Int) (hz : zs[i]? = some z) : ∃ g o, a = some ⟨g, o, none⟩ ∧ w.cell? ⟨g, o + i, none⟩ = some (.int .i64 z) := by
  rcases h with rfl | ⟨g, o, ha, hr⟩
  · simp at hz
  · exact ⟨g, o, ha, hr i z hz⟩
/-- A row of events in memory. -/
def RowEv (w : World) (a : Option Addr) (es : List Ev) : Prop := es = [] ∨ ∃ g o, a = some ⟨g, o, none⟩ ∧ ∀ i e, es[i]? = some e → w.rangeAt g (o + i * 3) e.cells
theorem range_cells {w : World} {g o : Nat} {e : Ev} (h : w.rangeAt g o e.cells) : w.cell? ⟨g, o, none⟩ = some (.int .i64 e.th) ∧ w.cell? ⟨g, o + 1, none⟩ = some (.int .i64 e.kd) ∧ w.cell? ⟨g, o + 2, none⟩ = some (.int .i64 e.ob) :=
  ⟨by have := h 0 _ rfl; simpa using this, h 1 _ rfl, h 2 _ rfl⟩
theorem RowEv.below {w w' : World} {a : Option Addr} {es : List Ev} (h : RowEv w a es) (hb : Below w.heap.size w w') : RowEv w' a es := by
  rcases h with h | ⟨g, o, ha, hr⟩
  · exact .inl h
  · exact .inr ⟨g, o, ha, fun i e he j v hj => (hb.cell (lt_of_cell (hr i e he j v hj))).trans (hr i e he j v hj)⟩
theorem RowEv.at {w : World} {a : Option Addr} {es : List Ev} (h : RowEv w a es) (i : Nat) (e : Ev) (he : es[i]? = some e) : ∃ g o, a = some ⟨g, o, none⟩ ∧ w.rangeAt g (o + i * 3) e.cells := by
  rcases h with rfl | ⟨g, o, ha, hr⟩
  · simp at he
  · exact ⟨g, o, ha, hr i e he⟩
theorem lists_eq {α : Type} {xs ys : List α} (hl : xs.length = ys.length) (h : ∀ (i : Nat) (x y : α), xs[i]? = some x → ys[i]? = some y → x = y) : xs = ys := by
  apply List.ext_getElem hl
  intro i h1 h2
  exact h i _ _ (List.getElem?_eq_getElem h1) (List.getElem?_eq_getElem h2)

set_option maxRecDepth 100000 in
set_option maxHeartbeats 3200000 in
theorem sameInts_any (xs ys : List Int) (a1 a2 : Option Addr) (c1 c2 : Nat) (w : World) (h1 : RowI w a1 xs) (h2 : RowI w a2 ys) (hl1 : xs.length ≤ 4611686018427387904) (hl2 : ys.length ≤ 4611686018427387904) (hk1 : xs.length ≤ c1) (hk2 : ys.length ≤ c2) :
    Calls Try.prog 18 #[.slice a1 xs.length c1, .slice a2 ys.length c2] w fun r w' => r = .returned (.bool (decide (xs = ys))) ∧ Below w.heap.size w w' := by
  obtain ⟨R, hR⟩ : ∃ R, Hid (R = decide (xs = ys)) := ⟨_, (rfl : _ = decide _)⟩
  rw [← hR.out]
  obtain ⟨n, hn⟩ : ∃ n, Hid (n = xs.length) := ⟨_, (rfl : xs.length = _)⟩
  obtain ⟨n2, hn2⟩ : ∃ n, Hid (n = ys.length) := ⟨_, (rfl : ys.length = _)⟩
  rw [← hn.out] at hl1 hk1 ⊢
  rw [← hn2.out] at hl2 hk2 ⊢
  have HR : Hid (RowI w a1 xs ∧ RowI w a2 ys) := ⟨h1, h2⟩
  clear h1 h2
  by_cases hnn : n = n2
  · subst hnn
    go_enter Try.func18, Try.ntmps18
    go_wp2_with fail
    go_loopw [5] (fun j wr => ∃ i : Nat, j = .int .i64 (i : Int) ∧ i ≤ n ∧ Hid (Below w.heap.size w wr ∧ ∀ (q : Nat) (x y : Int), q < i → xs[q]? = some x → ys[q]? = some y → x = y)) (fun j _ => n - (intOf j).toNat)
    case atStart => exact ⟨0, rfl, by omega, Below.refl _ _, fun q x y hq => by omega⟩
    case round =>
      obtain ⟨i, rfl, hi, hX⟩ := hrel
      by_cases hc : i < n
      · obtain ⟨x, hx⟩ : ∃ k, xs[i]? = some k := ⟨xs[i]'(by rw [← hn.out]; exact hc), by rw [List.getElem?_eq_getElem]⟩
        obtain ⟨y, hy⟩ : ∃ k, ys[i]? = some k := ⟨ys[i]'(by rw [← hn2.out]; exact hc), by rw [List.getElem?_eq_getElem]⟩
        obtain ⟨hbw, hall⟩ := hX.out
        obtain ⟨g1, o1, rfl, hr1⟩ := (HR.out.1.below hbw).at i x hx
        obtain ⟨g2, o2, rfl, hr2⟩ := (HR.out.2.below hbw).at i y hy
        have HA : Hid (∀ (q : Nat) (x y : Int), q < i → xs[q]? = some x → ys[q]? = some y → x = y) := hall
        have HXY : Hid (xs[i]? = some x ∧ ys[i]? = some y) := ⟨hx, hy⟩
        clear hX hall HR hx hy
        by_cases hM : x = y
        · subst hM
          go_wp2_with fail
          go_quiet (fail)
          go_wp2_with fail
          go_roundw
          case rel =>
            refine ⟨i + 1, by go_num, by omega, below_drN hbw _, fun q u v hq hu hv => ?_⟩
            by_cases hqi : q = i
            · subst hqi
              rw [HXY.out.1] at hu
              rw [HXY.out.2] at hv
              cases hu
              cases hv
              rfl
            · exact HA.out q u v (by omega) hu hv
          case measure => simp [intOf]; omega
        · have hRf : R = false := by
            rw [hR.out]
            refine decide_eq_false fun h => hM ?_
            have e1 := HXY.out.1
            rw [h, HXY.out.2] at e1
            exact (Option.some.inj e1).symm
          have hs : (x == y) = false := by rw [beq_eq_false_iff_ne]; exact hM
          clear hM
          go_wp2_with fail
          go_quiet (fail)
          go_wp2_with fail
          go_ret
          exact ⟨by rw [hRf]; rfl, below_drN hbw _⟩
      · have hin : i = n := by omega
        obtain ⟨hbw, hall⟩ := hX.out
        have hRt : R = true := by
          rw [hR.out]
          refine decide_eq_true (lists_eq (by rw [← hn.out, ← hn2.out]) fun q u v hu hv => hall q u v ?_ hu hv)
          have := (List.getElem?_eq_some_iff.1 hu).1
          rw [← hn.out] at this
          omega
        clear hX hall hin HR
        go_wp2
        go_ret
        exact ⟨by rw [hRt]; rfl, hbw⟩
  · have hne : ((n : Int) == (n2 : Int)) = false := by rw [beq_eq_false_iff_ne]; omega
    have hRf : R = false := by
      rw [hR.out]
      exact decide_eq_false fun h => hnn (by rw [hn.out, hn2.out, h])
    clear hnn
    go_enter Try.func18, Try.ntmps18
    go_wp2_with fail
    go_ret
    exact ⟨by rw [hRf]; rfl, Below.refl _ _⟩
instance : DecidableEq Ev := fun a b => if h : a.th = b.th ∧ a.kd = b.kd ∧ a.ob = b.ob then .isTrue (by cases a; cases b; simp_all) else .isFalse (by rintro rfl; exact h ⟨rfl, rfl, rfl⟩)
def sameEv (xs ys : List Ev) : Bool := decide (xs = ys)
theorem eq23 (x y : Ev) (u : World) : (Op.equalIn 10000 50 (.agg x.cells.toArray) (.agg y.cells.toArray)).run Try.prog u = .ok (decide (x = y)) u := by
  obtain ⟨a, b, c⟩ := x
  obtain ⟨d, e, f⟩ := y
  simp only [Ev.cells]
  by_cases h1 : a = d
  · subst h1
    by_cases h2 : b = e
    · subst h2
      by_cases h3 : c = f
      · subst h3
        rw [decide_eq_true rfl]
        go_simp
      · rw [decide_eq_false (by intro h; cases h; exact h3 rfl)]
        have e3 : (c == f) = false := by rw [beq_eq_false_iff_ne]; exact h3
        go_simp
    · rw [decide_eq_false (by intro h; cases h; exact h2 rfl)]
      have e2 : (b == e) = false := by rw [beq_eq_false_iff_ne]; exact h2
      go_simp
  · rw [decide_eq_false (by intro h; cases h; exact h1 rfl)]
    have e1 : (a == d) = false := by rw [beq_eq_false_iff_ne]; exact h1
    go_simp

set_option maxRecDepth 100000 in
set_option maxHeartbeats 3200000 in
theorem sameEvents_any (xs ys : List Ev) (a1 a2 : Option Addr) (c1 c2 : Nat) (w : World) (h1 : RowEv w a1 xs) (h2 : RowEv w a2 ys) (hl1 : xs.length ≤ 4611686018427387904) (hl2 : ys.length ≤ 4611686018427387904) (hk1 : xs.length ≤ c1) (hk2 : ys.length ≤ c2) :
    Calls Try.prog 28 #[.slice a1 xs.length c1, .slice a2 ys.length c2] w fun r w' => r = .returned (.bool (sameEv xs ys)) ∧ Below w.heap.size w w' := by
  obtain ⟨R, hR⟩ : ∃ R, Hid (R = sameEv xs ys) := ⟨_, (rfl : _ = sameEv _ _)⟩
  rw [← hR.out]
  obtain ⟨n, hn⟩ : ∃ n, Hid (n = xs.length) := ⟨_, (rfl : xs.length = _)⟩
  obtain ⟨n2, hn2⟩ : ∃ n, Hid (n = ys.length) := ⟨_, (rfl : ys.length = _)⟩
  rw [← hn.out] at hl1 hk1 ⊢
  rw [← hn2.out] at hl2 hk2 ⊢
  have HR : Hid (RowEv w a1 xs ∧ RowEv w a2 ys) := ⟨h1, h2⟩
  clear h1 h2
  by_cases hnn : n = n2
  · subst hnn
    go_enter Try.func28, Try.ntmps28
    go_wp2_with fail
    go_loopw [5] (fun j wr => ∃ i : Nat, j = .int .i64 (i : Int) ∧ i ≤ n ∧ Hid (Below w.heap.size w wr ∧ ∀ (q : Nat) (x y : Ev), q < i → xs[q]? = some x → ys[q]? = some y → x = y)) (fun j _ => n - (intOf j).toNat)
    case atStart => exact ⟨0, rfl, by omega, Below.refl _ _, fun q x y hq => by omega⟩
    case round =>
      obtain ⟨i, rfl, hi, hX⟩ := hrel
      by_cases hc : i < n
      · obtain ⟨x, hx⟩ : ∃ k, xs[i]? = some k := ⟨xs[i]'(by rw [← hn.out]; exact hc), by rw [List.getElem?_eq_getElem]⟩
        obtain ⟨y, hy⟩ : ∃ k, ys[i]? = some k := ⟨ys[i]'(by rw [← hn2.out]; exact hc), by rw [List.getElem?_eq_getElem]⟩
        obtain ⟨hbw, hall⟩ := hX.out
        obtain ⟨g1, o1, rfl, hr1⟩ := (HR.out.1.below hbw).at i x hx
        obtain ⟨g2, o2, rfl, hr2⟩ := (HR.out.2.below hbw).at i y hy
        have HA : Hid (∀ (q : Nat) (x y : Ev), q < i → xs[q]? = some x → ys[q]? = some y → x = y) := hall
        have HXY : Hid (xs[i]? = some x ∧ ys[i]? = some y) := ⟨hx, hy⟩
        clear hX hall HR hx hy
        have hQ := fun u => eq23 x y u
        obtain ⟨q1, q2, q3⟩ := range_cells hr1
        obtain ⟨r1, r2, r3⟩ := range_cells hr2
        by_cases hM : x = y
        · rw [decide_eq_true hM] at hQ
          have hM2 : Hid (x = y) := hM
          clear hM
          obtain ⟨xt, xk, xo⟩ := x
          obtain ⟨yt, yk, yo⟩ := y
          dsimp only at q1 q2 q3 r1 r2 r3
          simp only [Ev.cells] at hQ
          clear hr1 hr2
          go_wp2_with fail
          go_quiet (fail)
          go_wp2_with fail
          go_roundw
          case rel =>
            refine ⟨i + 1, by go_num, by omega, below_drN hbw _, fun q u v hq hu hv => ?_⟩
            by_cases hqi : q = i
            · subst hqi
              rw [HXY.out.1] at hu
              rw [HXY.out.2] at hv
              cases hu
              cases hv
              exact hM2.out
            · exact HA.out q u v (by omega) hu hv
          case measure => simp [intOf]; omega
        · have hRf : R = false := by
            rw [hR.out]
            unfold sameEv
            refine decide_eq_false fun h => hM ?_
            have e1 := HXY.out.1
            rw [h, HXY.out.2] at e1
            exact (Option.some.inj e1).symm
          rw [decide_eq_false hM] at hQ
          clear hM
          obtain ⟨xt, xk, xo⟩ := x
          obtain ⟨yt, yk, yo⟩ := y
          dsimp only at q1 q2 q3 r1 r2 r3
          simp only [Ev.cells] at hQ
          clear hr1 hr2
          go_wp2_with fail
          go_quiet (fail)
          go_wp2_with fail
          go_ret
          exact ⟨by rw [hRf]; rfl, below_drN hbw _⟩
      · have hin : i = n := by omega
        obtain ⟨hbw, hall⟩ := hX.out
        have hRt : R = true := by
          rw [hR.out]
          unfold sameEv
          refine decide_eq_true (lists_eq (by rw [← hn.out, ← hn2.out]) fun q u v hu hv => hall q u v ?_ hu hv)
          have := (List.getElem?_eq_some_iff.1 hu).1
          rw [← hn.out] at this
          omega
        clear hX hall hin HR
        go_wp2
        go_ret
        exact ⟨by rw [hRt]; rfl, hbw⟩
  · have hne : ((n : Int) == (n2 : Int)) = false := by rw [beq_eq_false_iff_ne]; omega
    have hRf : R = false := by
      rw [hR.out]
      unfold sameEv
      exact decide_eq_false fun h => hnn (by rw [hn.out, hn2.out, h])
    clear hnn
    go_enter Try.func28, Try.ntmps28
    go_wp2_with fail
    go_ret
    exact ⟨by rw [hRf]; rfl, Below.refl _ _⟩
end Go.Proofs.Ytbamocalhojmeaa

/- assizekit.LentInts: a copy of the numbers with three spare ones of known make behind it. -/
namespace Go.Proofs.Ytbamocalhojmeaa
open Go.RowKit
set_option linter.unusedVariables false

theorem Try.info3 : (Try.prog.info? 3).map (fun i => (i.zero, i.size, i.bytes)) = some (some (.int .i64 0), 1, 8) := by kernel_rfl
def I64 (z : Int) : Value := .int .i64 z
/-- What lies in memory behind LentInts. -/
def lentI (zs : List Int) : List Int := zs ++ [-77 - (zs.length : Int), -77 - ((zs.length : Int) + 1), -77 - ((zs.length : Int) + 2)]
theorem lentI_length (zs : List Int) : (lentI zs).length = zs.length + 3 := by simp [lentI]
theorem lentI_spare (zs : List Int) (k : Nat) (h1 : zs.length ≤ k) (h2 : k < zs.length + 3) : (lentI zs).getD k 0 = -77 - (k : Int) := by
  obtain ⟨j, rfl⟩ := Nat.exists_eq_add_of_le h1
  have hj : j = 0 ∨ j = 1 ∨ j = 2 := by omega
  unfold lentI
  rcases hj with rfl | rfl | rfl <;> simp [List.getD]

/-- A block of a call's own, its cells known: what stands in it. -/
def BlkI (w : World) (g : Nat) (cs : List Value) : Prop := w.heap[g]? = some (.cells cs.toArray 3 (0, 0))
theorem BlkI.cell {w : World} {g : Nat} {cs : List Value} (h : BlkI w g cs) (i : Nat) : w.cell? ⟨g, i, none⟩ = cs[i]? := by
  simp [World.cell?, show w.heap[g]? = _ from h]
theorem BlkI.frozen {w : World} {g : Nat} {cs : List Value} (h : BlkI w g cs) (i : Nat) : w.frozen? ⟨g, i, none⟩ = false := by
  simp [World.frozen?, show w.heap[g]? = _ from h]
theorem BlkI.set {w : World} {g : Nat} {cs : List Value} (h : BlkI w g cs) (i : Nat) (v : Value) : BlkI (w.setCell ⟨g, i, none⟩ v) g (cs.set i v) := by
  have := heap_setCell_same w g i cs.toArray 3 v h
  unfold BlkI
  rw [this]
  simp
theorem BlkI.below {w w' : World} {g : Nat} {cs : List Value} (h : BlkI w g cs) (hb : Below w.heap.size w w') : BlkI w' g cs := by
  unfold BlkI at *
  rw [hb.block g ?_]
  · exact h
  · rcases Nat.lt_or_ge g w.heap.size with hlt | hge
    · exact hlt
    · rw [Array.getElem?_eq_none hge] at h; simp at h
theorem BlkI.row {w : World} {g : Nat} {zs : List Int} (h : BlkI w g (zs.map I64)) (k : Nat) : RowI w (some ⟨g, 0, none⟩) (zs.take k) := by
  refine .inr ⟨g, 0, rfl, fun j z hj => ?_⟩
  rw [Nat.zero_add, h.cell j, List.getElem?_map]
  have h1 : j < k := by
    have := (List.getElem?_eq_some_iff.1 hj).1
    simp at this
    omega
  rw [List.getElem?_take_of_lt h1] at hj
  rw [hj]
  rfl
theorem BlkI.row_all {w : World} {g : Nat} {zs : List Int} (h : BlkI w g (zs.map I64)) : RowI w (some ⟨g, 0, none⟩) zs := by
  have := h.row zs.length
  rwa [List.take_length] at this
theorem BlkI.row_lent {w : World} {g : Nat} {zs : List Int} (h : BlkI w g ((lentI zs).map I64)) : RowI w (some ⟨g, 0, none⟩) zs := by
  have := h.row zs.length
  rwa [show (lentI zs).take zs.length = zs from by simp [lentI]] at this
theorem BlkI.drew {w : World} {g : Nat} {cs : List Value} (h : BlkI w g cs) : BlkI w.drew g cs := h

theorem setI_step (zs : List Int) (cs : List Value) (k : Nat) (hk : zs.length ≤ k) (hk3 : k < zs.length + 3) (hl : cs.length = zs.length + 3) (h : cs.take k = ((lentI zs).take k).map I64) :
    (cs.set k (.int .i64 (-77 - (k : Int)))).take (k + 1) = ((lentI zs).take (k + 1)).map I64 := by
  have hlen := lentI_length zs
  rw [List.take_succ_eq_append_getElem (by simp; omega), List.take_succ_eq_append_getElem (by omega), List.map_append, ← h]
  congr 1
  · rw [List.take_set_of_le (by omega)]
  · have e := lentI_spare zs k hk hk3
    simp [List.getD, List.getElem?_eq_getElem (show k < (lentI zs).length by omega)] at e
    simp [I64, e]

set_option maxRecDepth 100000 in
set_option maxHeartbeats 800000 in
theorem lentInts_any (a : Option Addr) (cap : Nat) (zs : List Int) (w : World) (hrow : RowI w a zs) (hmax : zs.length ≤ 1099511627776) :
    Calls Try.prog 9 #[.slice a zs.length cap] w fun e w' => e = .returned (.slice (some ⟨w.heap.size, 0, none⟩) zs.length (zs.length + 3)) ∧ BlkI w' w.heap.size ((lentI zs).map I64) ∧ Below w.heap.size w w' := by
  obtain ⟨i0, hi, hz0, hz1, hz2⟩ := info_parts Try.info3
  have hsz1 : (Try.prog.info? 3).map (·.size) = some 1 := by kernel_rfl
  go_enter Try.func9, Try.ntmps9
  go_wp2_with (at_make; refine wpList_make_full _ rfl (.tmp 7) (.tmp 7) 23 rfl w.heap.size 3 i0 (.int .i64 0) 1 Try.underlying23 hi hz0 hz1 .i64 .i64 _ _ (zs.length + 3) rfl rfl (by omega) (by omega) (by rw [hz2]; omega) (by unfold maxLen; omega) (Nat.le_refl _) ?_)
  intro w1 hown hgrow
  have hb1 : Below w.heap.size w w1 := (Below.refl _ w).grown hgrow (Nat.le_refl _) (by intro k hk; cases hk)
  obtain ⟨L, hL, hblk⟩ : ∃ L : List Value, L.length = zs.length + 3 ∧ BlkI w1 w.heap.size L := by
    obtain ⟨_, ⟨h, _⟩ | ⟨g, cp, cur, h, hg, hh, _, _, hs, _⟩⟩ := hown
    · cases h
    · cases h
      exact ⟨cur.toList, by simpa using hs, by unfold BlkI; rw [hh]⟩
  have hrow1 := hrow.below hb1
  clear hown hgrow hrow
  go_wp2_with (refine wpList_copy_splice rfl (.tmp 9) (.tmp 10) 23 23 rfl 3 Try.underlying23 hsz1 _ _ _ _ _ _ rfl rfl w.heap.size 0 L 3 hblk (zs.map I64) (by rw [List.length_map]; exact (Nat.min_eq_left (by omega)).symm) ?p1 (by simp; omega) (by intro v hv; simp at hv; obtain ⟨b, _, rfl⟩ := hv; rfl) w.heap.size w hb1 (Nat.le_refl _) ?_)
  case p1 =>
    intro hpos
    rcases hrow1 with h0 | ⟨b, off, rfl, hc⟩
    · subst h0; simp at hpos
    · refine ⟨_, rfl, fun j v hj => ?_⟩
      have e : (⟨b, off, none⟩ : Addr).add j = ⟨b, off + j, none⟩ := by unfold Addr.add; split <;> simp_all
      rw [e, hc j v hj]
      rfl
  intro w2 hblk2 hb2
  obtain ⟨cs, hcs, hlen, hpre⟩ : ∃ cs : List Value, BlkI w2 w.heap.size cs ∧ cs.length = zs.length + 3 ∧ cs.take zs.length = ((lentI zs).take zs.length).map I64 := by
    refine ⟨_, hblk2.out, ?_, ?_⟩
    · rw [length_splice _ _ _ (by simp; omega)]; exact hL
    · simp [splice, lentI]
  clear hblk2 hblk hrow1 hb1 hL
  go_wp2
  go_loopw [4] (fun t wr => ∃ (k : Nat) (cs : List Value), zs.length ≤ k ∧ k ≤ zs.length + 3 ∧ t = .int .i64 k ∧ Hid (cs.length = zs.length + 3) ∧ Hid (cs.take k = ((lentI zs).take k).map I64) ∧ BlkI wr w.heap.size cs ∧ Below w.heap.size w wr)
    (fun t _ => zs.length + 3 - (intOf t).toNat)
  case atStart => exact ⟨zs.length, cs, Nat.le_refl _, by omega, rfl, hlen, hpre, hcs, hb2⟩
  case round =>
    obtain ⟨k, cs', hk1, hk2, rfl, hl, hp, hbk, hbel⟩ := hrel
    clear hcs hlen hpre hb2
    by_cases hlt : k < zs.length + 3
    · have hcell : wr.cell? ⟨w.heap.size, k, none⟩ = some (cs'[k]'(by have := hl.out; omega)) := by rw [hbk.cell]; exact List.getElem?_eq_getElem _
      have hfr := hbk.frozen k
      have HP : Hid _ := setI_step zs cs' k hk1 hlt hl.out hp.out
      have hw7 : IntKind.i64.wrap (-77 - (k : Int)) = -77 - (k : Int) := by rw [IntKind.wrap_i64]; omega
      go_wp2
      go_roundw
      case rel => exact ⟨k + 1, _, by omega, by omega, by go_num, by show _ = _; rw [List.length_set]; exact hl.out, HP.out, hbk.set k _, hbel.setCell (Nat.le_refl _) _⟩
      case measure => simp [intOf]; omega
    · have HP : Hid (cs' = (lentI zs).map I64) := by
        have h1 := hp.out
        have h2 := hl.out
        rw [List.take_of_length_le (by omega), List.take_of_length_le (by rw [lentI_length]; omega)] at h1
        exact h1
      go_wp2
      go_ret
      exact ⟨rfl, by rw [← HP.out]; exact hbk, hbel⟩
end Go.Proofs.Ytbamocalhojmeaa

/- assizekit.KeptInts: what was lent and not written is found as it was. -/
namespace Go.Proofs.Ytbamocalhojmeaa
open Go.RowKit
set_option linter.unusedVariables false
attribute [local go_sem ↓] Go.wp_at_zero Go.wp_at_succ

theorem size3 (w : World) : (sizeOf 3).run Try.prog w = .ok 1 w := by kernel_rfl
/-- 'b[:h]' of numbers. -/
theorem runI_slice_to (w : World) (a : Option Addr) (len cap h : Nat) (x : Int) (hx : x = (h : Int)) (hh : h ≤ cap) :
    (Instr.slice 23 (.slice a len cap) none (some (.int .i64 x)) none).run Try.prog w = .ok (.slice a h cap) w := by
  have he : Try.prog.elem 23 = 3 := by simp [Program.elem, Try.underlying23]
  rw [run_slice_h w 23 a len cap (by rw [he]; exact Try.underlying23) .i64 x (by omega) (by omega), he, size3]
  have hz : ∀ p : Addr, p.add 0 = p := fun p => by cases p; simp [Addr.add]
  have hm : a.map (fun p => p.add 0) = a := by cases a <;> simp [hz]
  simp only [Result.andThen, sliced, Nat.zero_mul, hm, Nat.sub_zero]
  rw [show x.toNat = h by omega]
  simp
theorem sameInts_len (xs ys : List Int) (a1 a2 : Option Addr) (n1 n2 c1 c2 : Nat) (w : World) (h1 : RowI w a1 xs) (h2 : RowI w a2 ys) (e1 : xs.length = n1) (e2 : ys.length = n2) (hl1 : n1 ≤ 4611686018427387904) (hl2 : n2 ≤ 4611686018427387904) (hk1 : n1 ≤ c1) (hk2 : n2 ≤ c2) :
    Calls Try.prog 18 #[.slice a1 n1 c1, .slice a2 n2 c2] w fun r w' => r = .returned (.bool (decide (xs = ys))) ∧ Below w.heap.size w w' := by
  subst e1 e2
  exact sameInts_any xs ys a1 a2 c1 c2 w h1 h2 hl1 hl2 hk1 hk2
theorem RowI.drew {w : World} {a : Option Addr} {zs : List Int} (h : RowI w a zs) : RowI w.drew a zs := h

set_option maxRecDepth 100000 in
set_option maxHeartbeats 800000 in
theorem keptInts_any (a : Option Addr) (cap g : Nat) (bs : List Int) (w : World) (hrow : RowI w a bs) (hblk : BlkI w g ((lentI bs).map I64)) (hmax : bs.length ≤ 1099511627776) :
    Calls Try.prog 22 #[.slice (some ⟨g, 0, none⟩) bs.length (bs.length + 3), .slice a bs.length cap] w fun e w' => e = .returned (.bool true) ∧ Below w.heap.size w w' := by
  have i1 : (0 : Int) ≤ (bs.length : Int) := by omega
  have i2 : (bs.length : Int) + 3 ≤ 1099511627779 := by omega
  have hs1 := fun w => runI_slice_to w (some ⟨g, 0, none⟩) bs.length (bs.length + 3) (bs.length + 3) ((bs.length : Int) + 3) (by omega) (by omega)
  have hs2 := fun w => runI_slice_to w (some ⟨g, 0, none⟩) bs.length (bs.length + 3) (bs.length + 3) ((bs.length + 3 : Nat) : Int) (by omega) (by omega)
  have hs3 := fun w0 => runI_slice_to w0 (some ⟨w.heap.size, 0, none⟩) bs.length (bs.length + 3) (bs.length + 3) ((bs.length : Int) + 3) (by omega) (by omega)
  have hw3 : IntKind.i64.wrap ((bs.length : Int) + 3) = (bs.length : Int) + 3 := by rw [IntKind.wrap_i64]; omega
  go_enter Try.func22, Try.ntmps22
  go_wp2
  go_region_held3 (fun _ => True) (trivial) (first | (go_at_call 9; refine (lentInts_any a cap bs _ hrow.drew hmax).mono ?_; rintro e w1 ⟨rfl, hblk1, hbel1⟩) | (go_at_call 18; refine (sameInts_len (lentI bs) (lentI bs) _ _ _ _ _ _ _ (hblk.drew.below hbel1).row_all hblk1.row_all (lentI_length bs) (lentI_length bs) (by omega) (by omega) (by omega) (by omega)).mono ?_; rintro e w2 ⟨rfl, hbel2⟩))
  go_wp2
  go_ret
  exact ⟨rfl, ((Below.refl _ w).drew.trans hbel1).trans (hbel2.mono (by have := hbel1.size; omega))⟩
end Go.Proofs.Ytbamocalhojmeaa

/- assizekit.OverInts: all that a row of numbers holds or could hold is written over, and nothing else. -/
namespace Go.Proofs.Ytbamocalhojmeaa
open Go.RowKit
set_option linter.unusedVariables false

/-- Of a block's cells only some places were written, and no other block. -/
structure OverW (g lo hi : Nat) (w w' : World) : Prop where
  os : w'.os = w.os
  tape : w'.tape = w.tape
  output : w'.output = w.output
  size : w'.heap.size = w.heap.size
  block : ∀ k, k ≠ g → w'.heap[k]? = w.heap[k]?
  cell : ∀ i, (i < lo ∨ hi ≤ i) → w'.cell? ⟨g, i, none⟩ = w.cell? ⟨g, i, none⟩
theorem OverW.refl (g lo hi : Nat) (w : World) : OverW g lo hi w w := ⟨rfl, rfl, rfl, rfl, fun _ _ => rfl, fun _ _ => rfl⟩
theorem OverW.set {g lo hi i : Nat} {w w' : World} {cs : List Value} (h : OverW g lo hi w w') (hb : BlkI w' g cs) (h1 : lo ≤ i) (h2 : i < hi) (v : Value) : OverW g lo hi w (w'.setCell ⟨g, i, none⟩ v) := by
  have B := Below.setCell (Below.refl g w') (p := ⟨g, i, none⟩) (Nat.le_refl _) v
  refine ⟨B.os.trans h.os, B.tape.trans h.tape, B.output.trans h.output, ?_, fun k hk => ?_, fun j hj => ?_⟩
  · rw [← h.size]; exact World.size_setCell ..
  · rw [← h.block k hk]
    exact heap_setCell_other _ _ _ _ hk
  · rw [← h.cell j hj, (hb.set i v).cell, hb.cell, List.getElem?_set_ne (by omega)]

set_option maxRecDepth 100000 in
set_option maxHeartbeats 800000 in
theorem overInts_any (g o len cap : Nat) (cs : List Value) (w : World) (hblk : BlkI w g cs) (hint : ∀ i, i < cap → ∃ z, cs[o + i]? = some (.int .i64 z)) (hmax : cap ≤ 4611686018427387904) (hlc : len ≤ cap) :
    Calls Try.prog 20 #[.slice (some ⟨g, o, none⟩) len cap] w fun e w' => e = .returned (.tuple #[]) ∧ OverW g o (o + cap) w w' := by
  have hs1 := fun w => runI_slice_to w (some ⟨g, o, none⟩) len cap cap (cap : Int) rfl (Nat.le_refl _)
  go_enter Try.func20, Try.ntmps20
  go_wp2
  go_loopw [3] (fun t wr => ∃ (k : Nat) (cs : List Value), k ≤ cap ∧ t = .int .i64 k ∧ Hid (∀ i, i < cap → ∃ z, cs[o + i]? = some (.int .i64 z)) ∧ BlkI wr g cs ∧ OverW g o (o + cap) w wr)
    (fun t _ => cap - (intOf t).toNat)
  case atStart => exact ⟨0, cs, by omega, rfl, hint, hblk, OverW.refl ..⟩
  case round =>
    obtain ⟨k, cs', hk, rfl, hi, hbk, hov⟩ := hrel
    clear hint hblk
    by_cases hlt : k < cap
    · obtain ⟨z, hz⟩ := hi.out k hlt
      have hcell : wr.cell? ⟨g, o + k, none⟩ = some (.int .i64 z) := by rw [hbk.cell]; exact hz
      have hfr := hbk.frozen (o + k)
      go_wp2
      go_roundw
      case rel =>
        refine ⟨k + 1, _, by omega, by go_num, ?_, hbk.set (o + k) _, hov.set hbk (by omega) (by omega) _⟩
        intro i hic
        by_cases hik : i = k
        · subst hik
          have := (List.getElem?_eq_some_iff.1 hz).1
          rw [List.getElem?_set_self this]
          exact ⟨_, rfl⟩
        · rw [List.getElem?_set_ne (by omega)]
          exact hi.out i hic
      case measure => simp [intOf]; omega
    · go_wp2
      go_end0
      exact ⟨rfl, hov⟩
end Go.Proofs.Ytbamocalhojmeaa

/- assizekit.Pick: a number below another one. -/
namespace Go.Proofs.Ytbamocalhojmeaa
open Go.RowKit
set_option linter.unusedVariables false

set_option maxRecDepth 100000 in
set_option maxHeartbeats 800000 in
theorem pick_any (x n : Int) (w : World) (hx1 : -9223372036854775808 ≤ x) (hx2 : x < 9223372036854775808) (hn2 : n < 9223372036854775808) :
    Calls Try.prog 29 #[.int .i64 x, .int .i64 n] w fun e w' => (∃ k : Nat, e = .returned (.int .i64 k) ∧ (1 ≤ n → (k : Int) < n) ∧ (n < 1 → k = 0)) ∧ w' = w := by
  by_cases hn : n < 1
  · go_enter Try.func29, Try.ntmps29
    go_wp2
    go_ret
    exact ⟨⟨0, rfl, by omega, fun _ => rfl⟩, rfl⟩
  · have hn0 : (n == 0) = false := by rw [beq_eq_false_iff_ne]; omega
    obtain ⟨r, hr⟩ : ∃ r, r = x.tmod n := ⟨_, rfl⟩
    have hr1 : r < n := by rw [hr]; exact Int.tmod_lt_of_pos _ (by omega)
    have hr2 : -n < r := by rw [hr]; have := Int.tmod_lt_of_pos (-x) (b := n) (by omega); rw [Int.neg_tmod] at this; omega
    have hrw : IntKind.i64.wrap (x.tmod n) = r := by rw [← hr, IntKind.wrap_i64]; omega
    by_cases hneg : r < 0
    · have hw : IntKind.i64.wrap (r + n) = r + n := by rw [IntKind.wrap_i64]; omega
      go_enter Try.func29, Try.ntmps29
      go_wp2
      go_ret
      exact ⟨⟨(r + n).toNat, by go_num, by omega, by omega⟩, rfl⟩
    · go_enter Try.func29, Try.ntmps29
      go_wp2
      go_ret
      exact ⟨⟨r.toNat, by go_num, by omega, by omega⟩, rfl⟩
end Go.Proofs.Ytbamocalhojmeaa
