/- Rows of rows of numbers; assizekit.SameIntLists. -/
import Derived.Test.YtjedkfohmedmaaaKpE
namespace Go.Proofs.Ytjedkfohmedmaaa
open Go.RowKit
set_option linter.unusedVariables false
attribute [local go_sem ↓] Go.wp_at_zero Go.wp_at_succ

/-- A row of rows of numbers in memory. -/
def RowII (w : World) (a : Option Addr) (zss : List (List Int)) : Prop := zss = [] ∨ ∃ g o, a = some ⟨g, o, none⟩ ∧ ∀ i zs, zss[i]? = some zs → ∃ b c, w.cell? ⟨g, o + i, none⟩ = some (.slice b zs.length c) ∧ RowI w b zs ∧ zs.length ≤ c ∧ zs.length ≤ 4611686018427387904
theorem RowII.below {w w' : World} {a : Option Addr} {zss : List (List Int)} (h : RowII w a zss) (hb : Below w.heap.size w w') : RowII w' a zss := by
  rcases h with h | ⟨g, o, ha, hr⟩
  · exact .inl h
  · refine .inr ⟨g, o, ha, fun i zs hz => ?_⟩
    obtain ⟨b, c, h1, h2, h3⟩ := hr i zs hz
    exact ⟨b, c, (hb.cell (lt_of_cell h1)).trans h1, h2.below hb, h3⟩
theorem RowII.at {w : World} {a : Option Addr} {zss : List (List Int)} (h : RowII w a zss) (i : Nat) (zs : List Int) (hz : zss[i]? = some zs) : ∃ g o b c, a = some ⟨g, o, none⟩ ∧ w.cell? ⟨g, o + i, none⟩ = some (.slice b zs.length c) ∧ RowI w b zs ∧ zs.length ≤ c ∧ zs.length ≤ 4611686018427387904 := by
  rcases h with rfl | ⟨g, o, ha, hr⟩
  · simp at hz
  · obtain ⟨b, c, h⟩ := hr i zs hz
    exact ⟨g, o, b, c, ha, h⟩

set_option maxRecDepth 100000 in
set_option maxHeartbeats 3200000 in
theorem sameLists_any (xs ys : List (List Int)) (a1 a2 : Option Addr) (c1 c2 : Nat) (w : World) (h1 : RowII w a1 xs) (h2 : RowII w a2 ys) (hl1 : xs.length ≤ 4611686018427387904) (hl2 : ys.length ≤ 4611686018427387904) (hk1 : xs.length ≤ c1) (hk2 : ys.length ≤ c2) :
    Calls Try.prog 16 #[.slice a1 xs.length c1, .slice a2 ys.length c2] w fun r w' => r = .returned (.bool (decide (xs = ys))) ∧ Below w.heap.size w w' := by
  obtain ⟨R, hR⟩ : ∃ R, Hid (R = decide (xs = ys)) := ⟨_, (rfl : _ = decide _)⟩
  rw [← hR.out]
  obtain ⟨n, hn⟩ : ∃ n, Hid (n = xs.length) := ⟨_, (rfl : xs.length = _)⟩
  obtain ⟨n2, hn2⟩ : ∃ n, Hid (n = ys.length) := ⟨_, (rfl : ys.length = _)⟩
  rw [← hn.out] at hl1 hk1 ⊢
  rw [← hn2.out] at hl2 hk2 ⊢
  have HR : Hid (RowII w a1 xs ∧ RowII w a2 ys) := ⟨h1, h2⟩
  clear h1 h2
  by_cases hnn : n = n2
  · subst hnn
    go_enter Try.func16, Try.ntmps16
    go_wp2_with fail
    go_loopw [5] (fun j wr => ∃ i : Nat, j = .int .i64 (i : Int) ∧ i ≤ n ∧ Hid (Below w.heap.size w wr ∧ ∀ (q : Nat) (x y : List Int), q < i → xs[q]? = some x → ys[q]? = some y → x = y)) (fun j _ => n - (intOf j).toNat)
    case atStart => exact ⟨0, rfl, by omega, Below.refl _ _, fun q x y hq => by omega⟩
    case round =>
      obtain ⟨i, rfl, hi, hX⟩ := hrel
      by_cases hc : i < n
      · obtain ⟨x, hx⟩ : ∃ k, xs[i]? = some k := ⟨xs[i]'(by rw [← hn.out]; exact hc), by rw [List.getElem?_eq_getElem]⟩
        obtain ⟨y, hy⟩ : ∃ k, ys[i]? = some k := ⟨ys[i]'(by rw [← hn2.out]; exact hc), by rw [List.getElem?_eq_getElem]⟩
        obtain ⟨hbw, hall⟩ := hX.out
        obtain ⟨g1, o1, b1, k1, rfl, hr1, hq1, hq2, hq3⟩ := (HR.out.1.below hbw).at i x hx
        obtain ⟨g2, o2, b2, k2, rfl, hr2, hp1, hp2, hp3⟩ := (HR.out.2.below hbw).at i y hy
        have HA : Hid (∀ (q : Nat) (x y : List Int), q < i → xs[q]? = some x → ys[q]? = some y → x = y) := hall
        have HXY : Hid (xs[i]? = some x ∧ ys[i]? = some y) := ⟨hx, hy⟩
        have HC : Hid (∀ u, Below wr.heap.size wr u → Calls Try.prog 17 #[.slice b1 x.length k1, .slice b2 y.length k2] u fun r w' => r = .returned (.bool (decide (x = y))) ∧ Below u.heap.size u w') := fun u hu => sameInts_any x y b1 b2 k1 k2 u (hq1.below hu) (hp1.below hu) hq3 hp3 hq2 hp2
        obtain ⟨lx, hlx⟩ : ∃ l, l = x.length := ⟨_, rfl⟩
        obtain ⟨ly, hly⟩ : ∃ l, l = y.length := ⟨_, rfl⟩
        obtain ⟨S, hS⟩ : ∃ S, Hid (S = decide (x = y)) := ⟨_, (rfl : _ = decide _)⟩
        rw [← hlx] at hr1 HC
        rw [← hly] at hr2 HC
        rw [← hS.out] at HC
        clear hX hall HR hx hy hq1 hq2 hq3 hp1 hp2 hp3 hlx hly
        have hBW : Hid (Below w.heap.size w wr) := hbw
        clear hbw
        go_wp2_with fail
        go_region_held3 (fun w' => w'.cell? ⟨g1, o1 + i, none⟩ = some (.slice b1 lx k1) ∧ w'.cell? ⟨g2, o2 + i, none⟩ = some (.slice b2 ly k2)) (first | exact ⟨hr1, hr2⟩ | exact ⟨(hbel2.cell (lt_of_cell hr1)).trans hr1, (hbel2.cell (lt_of_cell hr2)).trans hr2⟩) (first | (go_at_call 17; refine (HC.out _ (Below.refl _ wr).drew).mono ?_; rintro e w2 ⟨rfl, hbel2⟩))
        have hB2 : Hid (Below w.heap.size w w2) := (hBW.out.trans ((Below.refl _ wr).drew.mono hBW.out.size)).trans (hbel2.mono hBW.out.size)
        clear hbel2 hBW HC hr1 hr2
        rcases S with _ | _
        · have hRf : R = false := by
            rw [hR.out]
            refine decide_eq_false fun h => ?_
            have e1 := HXY.out.1
            rw [h, HXY.out.2] at e1
            have := hS.out
            rw [Option.some.inj e1, decide_eq_true rfl] at this
            cases this
          go_wp2
          go_ret
          exact ⟨by rw [hRf]; rfl, hB2.out⟩
        · have hxy : Hid (x = y) := show x = y from of_decide_eq_true hS.out.symm
          go_wp2
          go_roundw
          case rel =>
            refine ⟨i + 1, by go_num, by omega, hB2.out, fun q u v hq hu hv => ?_⟩
            by_cases hqi : q = i
            · subst hqi
              rw [HXY.out.1] at hu
              rw [HXY.out.2] at hv
              cases hu
              cases hv
              exact hxy.out
            · exact HA.out q u v (by omega) hu hv
          case measure => simp [intOf]; omega
      · have hin : i = n := by omega
        obtain ⟨hbw, hall⟩ := hX.out
        have hRt : R = true := by
          rw [hR.out]
          refine decide_eq_true (lists_eq (by rw [← hn.out, ← hn2.out]) fun q u v hu hv => hall q u v ?_ hu hv)
          have := (List.getElem?_eq_some_iff.1 hu).1
          rw [← hn.out] at this
          omega
        clear hX hall hin HR
        go_wp2
        go_ret
        exact ⟨by rw [hRt]; rfl, hbw⟩
  · have hne : ((n : Int) == (n2 : Int)) = false := by rw [beq_eq_false_iff_ne]; omega
    have hRf : R = false := by
      rw [hR.out]
      exact decide_eq_false fun h => hnn (by rw [hn.out, hn2.out, h])
    clear hnn
    go_enter Try.func16, Try.ntmps16
    go_wp2_with fail
    go_ret
    exact ⟨by rw [hRf]; rfl, Below.refl _ _⟩
end Go.Proofs.Ytjedkfohmedmaaa
