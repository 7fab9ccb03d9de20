/- code.Same. -/
import Derived.Test.YtefklmckkigllaaCkQ
namespace Go.Proofs.Ytefklmckkigllaa
open Go.RowKit
set_option linter.unusedVariables false

theorem below_drN {B : Nat} {w w' : World} (h : Below B w w') (n : Nat) : Below B w (w'.drewN n) := ⟨h.os, h.tape, h.output, h.size, h.block⟩
theorem list_ext {α : Type} {xs ys : List α} {n : Nat} (h1 : xs.length = n) (h2 : ys.length = n) (h : ∀ q, q < n → xs[q]? = ys[q]?) : xs = ys := by
  apply List.ext_getElem?
  intro q
  by_cases hq : q < n
  · exact h q hq
  · rw [List.getElem?_eq_none (by omega), List.getElem?_eq_none (by omega)]
theorem eqVl (t b t' b' : Nat) (u : World) : (Op.equalIn 10000 35 (.agg #[.int .u8 (t : Int), .int .u64 (b : Int)]) (.agg #[.int .u8 (t' : Int), .int .u64 (b' : Int)])).run Try.prog u = .ok (decide ((⟨t, b⟩ : Vl) = ⟨t', b'⟩)) u := by
  by_cases h1 : t = t'
  · subst h1
    by_cases h2 : b = b'
    · subst h2
      go_simp
    · have e2 : ((b : Int) == (b' : Int)) = false := by rw [beq_eq_false_iff_ne]; omega
      go_simp
  · have e1 : ((t : Int) == (t' : Int)) = false := by rw [beq_eq_false_iff_ne]; omega
    go_simp
theorem eqIr (p : Nat) (q : Int) (t b p' : Nat) (q' : Int) (t' b' : Nat) (u : World) : (Op.equalIn 10000 37 (.agg #[.int .u8 (p : Int), .int .i64 q, .int .u8 (t : Int), .int .u64 (b : Int)]) (.agg #[.int .u8 (p' : Int), .int .i64 q', .int .u8 (t' : Int), .int .u64 (b' : Int)])).run Try.prog u = .ok (decide ((⟨p, q, ⟨t, b⟩⟩ : Ir) = ⟨p', q', ⟨t', b'⟩⟩)) u := by
  by_cases h3 : p = p'
  · subst h3
    by_cases h4 : q = q'
    · subst h4
      by_cases h1 : t = t'
      · subst h1
        by_cases h2 : b = b'
        · subst h2
          go_simp
        · have e2 : ((b : Int) == (b' : Int)) = false := by rw [beq_eq_false_iff_ne]; omega
          go_simp
      · have e1 : ((t : Int) == (t' : Int)) = false := by rw [beq_eq_false_iff_ne]; omega
        go_simp
    · have e4 : (q == q') = false := by rw [beq_eq_false_iff_ne]; exact h4
      go_simp
  · have e3 : ((p : Int) == (p' : Int)) = false := by rw [beq_eq_false_iff_ne]; omega
    go_simp

set_option maxRecDepth 100000 in
set_option maxHeartbeats 3200000 in
theorem equal24_any (B : Nat) (xs ys : List Vl) (a1 a2 : Option Addr) (c1 c2 : Nat) (w : World) (h1 : RowVl B w a1 c1 xs) (h2 : RowVl B w a2 c2 ys) (hBw : B ≤ w.heap.size) :
    Calls Try.prog 24 #[.slice a1 xs.length c1, .slice a2 ys.length c2] w fun r w' => r = .returned (.bool (decide (xs = ys))) ∧ Below w.heap.size w w' := by
  obtain ⟨R, hR⟩ : ∃ R, Hid (R = decide (xs = ys)) := ⟨_, (rfl : decide (xs = ys) = _)⟩
  rw [← hR.out]
  obtain ⟨n, hn⟩ : ∃ n, Hid (n = xs.length) := ⟨_, (rfl : xs.length = _)⟩
  obtain ⟨n2, hn2⟩ : ∃ n, Hid (n = ys.length) := ⟨_, (rfl : ys.length = _)⟩
  have hl1 := h1.1
  have hl2 := h2.1
  have hk1 := h1.2.1
  have hk2 := h2.2.1
  rw [← hn.out] at hl1 hk1 ⊢
  rw [← hn2.out] at hl2 hk2 ⊢
  have HR : Hid (RowVl B w a1 c1 xs ∧ RowVl B w a2 c2 ys) := ⟨h1, h2⟩
  clear h1 h2
  by_cases hnn : n = n2
  · subst hnn
    go_enter Try.func24, Try.ntmps24
    go_wp2_with fail
    go_loopw [5, 13] (fun _ j wr => ∃ i : Nat, j = .int .i64 (i : Int) ∧ i ≤ n ∧ Hid (Below w.heap.size w wr ∧ ∀ q, q < i → xs[q]? = ys[q]?)) (fun _ j _ => n - (intOf j).toNat)
    case atStart => exact ⟨0, rfl, by omega, Below.refl _ _, fun q hq => by omega⟩
    case round =>
      obtain ⟨i, rfl, hi, hX⟩ := hrel
      by_cases hc : i < n
      · obtain ⟨x, hx⟩ : ∃ k, xs[i]? = some k := ⟨xs[i]'(by rw [← hn.out]; exact hc), by rw [List.getElem?_eq_getElem]⟩
        obtain ⟨y, hy⟩ : ∃ k, ys[i]? = some k := ⟨ys[i]'(by rw [← hn2.out]; exact hc), by rw [List.getElem?_eq_getElem]⟩
        obtain ⟨hbw, hall⟩ := hX.out
        have hold : Old B w wr := Old.of_below hbw hBw
        obtain ⟨g1, o1, rfl, hg1, hr1, hi1⟩ := (RowG.imp HR.out.1 hold (Q := fun _ => True) (fun _ _ => trivial)).at i x hx
        obtain ⟨g2, o2, rfl, hg2, hr2, hi2⟩ := (RowG.imp HR.out.2 hold (Q := fun _ => True) (fun _ _ => trivial)).at i y hy
        obtain ⟨t, b⟩ := x
        obtain ⟨t', b'⟩ := y
        have x0 : wr.cell? ⟨g1, o1 + i * 2, none⟩ = some (.int .u8 (t : Int)) := by have := hr1 0 _ rfl; simpa using this
        have x1 : wr.cell? ⟨g1, o1 + i * 2 + 1, none⟩ = some (.int .u64 (b : Int)) := by have := hr1 1 _ rfl; simpa using this
        have y0 : wr.cell? ⟨g2, o2 + i * 2, none⟩ = some (.int .u8 (t' : Int)) := by have := hr2 0 _ rfl; simpa using this
        have y1 : wr.cell? ⟨g2, o2 + i * 2 + 1, none⟩ = some (.int .u64 (b' : Int)) := by have := hr2 1 _ rfl; simpa using this
        have hq := eqVl t b t' b'
        clear hr1 hr2 hi1 hi2
        have HA : Hid (∀ q, q < i → xs[q]? = ys[q]?) := hall
        have HXY : Hid (xs[i]? = some ⟨t, b⟩ ∧ ys[i]? = some ⟨t', b'⟩) := ⟨hx, hy⟩
        clear hX hold hall HR hx hy
        cases hM : decide ((⟨t, b⟩ : Vl) = ⟨t', b'⟩) with
        | false =>
          have hRf : R = false := by
            rw [hR.out, decide_eq_false_iff_not]
            intro h
            have h1 := HXY.out.1
            rw [h, HXY.out.2] at h1
            exact of_decide_eq_false hM (Option.some.inj h1).symm
          have hq' : ∀ u, (Op.equalIn 10000 35 (.agg #[.int .u8 (t : Int), .int .u64 (b : Int)]) (.agg #[.int .u8 (t' : Int), .int .u64 (b' : Int)])).run Try.prog u = .ok false u := fun u => by rw [hq, hM]
          clear hq hM HXY
          go_wp2_with fail
          go_quiet (fail)
          go_wp2_with fail
          go_ret
          exact ⟨by rw [hRf]; rfl, below_drN hbw _⟩
        | true =>
          have HM : Hid (xs[i]? = ys[i]?) := by show _ = _; rw [HXY.out.1, HXY.out.2, of_decide_eq_true hM]
          have hq' : ∀ u, (Op.equalIn 10000 35 (.agg #[.int .u8 (t : Int), .int .u64 (b : Int)]) (.agg #[.int .u8 (t' : Int), .int .u64 (b' : Int)])).run Try.prog u = .ok true u := fun u => by rw [hq, hM]
          clear hq hM HXY
          go_wp2_with fail
          go_quiet (fail)
          go_wp2_with fail
          go_roundw
          case rel =>
            refine ⟨i + 1, by go_num, by omega, below_drN hbw _, fun q hq => ?_⟩
            by_cases hqi : q = i
            · subst hqi
              exact HM.out
            · exact HA.out q (by omega)
          case measure => simp [intOf]; omega
      · have hin : i = n := by omega
        obtain ⟨hbw, hall⟩ := hX.out
        have hRt : R = true := by
          rw [hR.out, decide_eq_true_iff]
          exact list_ext hn.out.symm hn2.out.symm (fun q hq => hall q (by omega))
        clear hX hall hin HR
        go_wp2
        go_ret
        exact ⟨by rw [hRt]; rfl, hbw⟩
  · have hne : ((n : Int) == (n2 : Int)) = false := by rw [beq_eq_false_iff_ne]; omega
    have hRf : R = false := by
      rw [hR.out, decide_eq_false_iff_not]
      intro h
      exact hnn (by rw [hn.out, hn2.out, h])
    clear hnn
    go_enter Try.func24, Try.ntmps24
    go_wp2_with fail
    go_ret
    exact ⟨by rw [hRf]; rfl, Below.refl _ _⟩

set_option maxRecDepth 100000 in
set_option maxHeartbeats 3200000 in
theorem equal62_any (B : Nat) (xs ys : List Ir) (a1 a2 : Option Addr) (c1 c2 : Nat) (w : World) (h1 : RowIr B w a1 c1 xs) (h2 : RowIr B w a2 c2 ys) (hBw : B ≤ w.heap.size) :
    Calls Try.prog 62 #[.slice a1 xs.length c1, .slice a2 ys.length c2] w fun r w' => r = .returned (.bool (decide (xs = ys))) ∧ Below w.heap.size w w' := by
  obtain ⟨R, hR⟩ : ∃ R, Hid (R = decide (xs = ys)) := ⟨_, (rfl : decide (xs = ys) = _)⟩
  rw [← hR.out]
  obtain ⟨n, hn⟩ : ∃ n, Hid (n = xs.length) := ⟨_, (rfl : xs.length = _)⟩
  obtain ⟨n2, hn2⟩ : ∃ n, Hid (n = ys.length) := ⟨_, (rfl : ys.length = _)⟩
  have hl1 := h1.1
  have hl2 := h2.1
  have hk1 := h1.2.1
  have hk2 := h2.2.1
  rw [← hn.out] at hl1 hk1 ⊢
  rw [← hn2.out] at hl2 hk2 ⊢
  have HR : Hid (RowIr B w a1 c1 xs ∧ RowIr B w a2 c2 ys) := ⟨h1, h2⟩
  clear h1 h2
  by_cases hnn : n = n2
  · subst hnn
    go_enter Try.func62, Try.ntmps62
    go_wp2_with fail
    go_loopw [5, 13] (fun _ j wr => ∃ i : Nat, j = .int .i64 (i : Int) ∧ i ≤ n ∧ Hid (Below w.heap.size w wr ∧ ∀ q, q < i → xs[q]? = ys[q]?)) (fun _ j _ => n - (intOf j).toNat)
    case atStart => exact ⟨0, rfl, by omega, Below.refl _ _, fun q hq => by omega⟩
    case round =>
      obtain ⟨i, rfl, hi, hX⟩ := hrel
      by_cases hc : i < n
      · obtain ⟨x, hx⟩ : ∃ k, xs[i]? = some k := ⟨xs[i]'(by rw [← hn.out]; exact hc), by rw [List.getElem?_eq_getElem]⟩
        obtain ⟨y, hy⟩ : ∃ k, ys[i]? = some k := ⟨ys[i]'(by rw [← hn2.out]; exact hc), by rw [List.getElem?_eq_getElem]⟩
        obtain ⟨hbw, hall⟩ := hX.out
        have hold : Old B w wr := Old.of_below hbw hBw
        obtain ⟨g1, o1, rfl, hg1, hr1, hi1⟩ := (RowG.imp HR.out.1 hold (Q := fun _ => True) (fun _ _ => trivial)).at i x hx
        obtain ⟨g2, o2, rfl, hg2, hr2, hi2⟩ := (RowG.imp HR.out.2 hold (Q := fun _ => True) (fun _ _ => trivial)).at i y hy
        obtain ⟨p, z, ⟨t, b⟩⟩ := x
        obtain ⟨p', z', ⟨t', b'⟩⟩ := y
        have x0 : wr.cell? ⟨g1, o1 + i * 4, none⟩ = some (.int .u8 (p : Int)) := by have := hr1 0 _ rfl; simpa using this
        have x1 : wr.cell? ⟨g1, o1 + i * 4 + 1, none⟩ = some (.int .i64 z) := by have := hr1 1 _ rfl; simpa using this
        have x2 : wr.cell? ⟨g1, o1 + i * 4 + 2, none⟩ = some (.int .u8 (t : Int)) := by have := hr1 2 _ rfl; simpa using this
        have x3 : wr.cell? ⟨g1, o1 + i * 4 + 3, none⟩ = some (.int .u64 (b : Int)) := by have := hr1 3 _ rfl; simpa using this
        have y0 : wr.cell? ⟨g2, o2 + i * 4, none⟩ = some (.int .u8 (p' : Int)) := by have := hr2 0 _ rfl; simpa using this
        have y1 : wr.cell? ⟨g2, o2 + i * 4 + 1, none⟩ = some (.int .i64 z') := by have := hr2 1 _ rfl; simpa using this
        have y2 : wr.cell? ⟨g2, o2 + i * 4 + 2, none⟩ = some (.int .u8 (t' : Int)) := by have := hr2 2 _ rfl; simpa using this
        have y3 : wr.cell? ⟨g2, o2 + i * 4 + 3, none⟩ = some (.int .u64 (b' : Int)) := by have := hr2 3 _ rfl; simpa using this
        have hq := eqIr p z t b p' z' t' b'
        clear hr1 hr2 hi1 hi2
        have HA : Hid (∀ q, q < i → xs[q]? = ys[q]?) := hall
        have HXY : Hid (xs[i]? = some ⟨p, z, ⟨t, b⟩⟩ ∧ ys[i]? = some ⟨p', z', ⟨t', b'⟩⟩) := ⟨hx, hy⟩
        clear hX hold hall HR hx hy
        cases hM : decide ((⟨p, z, ⟨t, b⟩⟩ : Ir) = ⟨p', z', ⟨t', b'⟩⟩) with
        | false =>
          have hRf : R = false := by
            rw [hR.out, decide_eq_false_iff_not]
            intro h
            have h1 := HXY.out.1
            rw [h, HXY.out.2] at h1
            exact of_decide_eq_false hM (Option.some.inj h1).symm
          have hq' : ∀ u, (Op.equalIn 10000 37 (.agg #[.int .u8 (p : Int), .int .i64 z, .int .u8 (t : Int), .int .u64 (b : Int)]) (.agg #[.int .u8 (p' : Int), .int .i64 z', .int .u8 (t' : Int), .int .u64 (b' : Int)])).run Try.prog u = .ok false u := fun u => by rw [hq, hM]
          clear hq hM HXY
          go_wp2_with fail
          go_quiet (fail)
          go_wp2_with fail
          go_ret
          exact ⟨by rw [hRf]; rfl, below_drN hbw _⟩
        | true =>
          have HM : Hid (xs[i]? = ys[i]?) := by show _ = _; rw [HXY.out.1, HXY.out.2, of_decide_eq_true hM]
          have hq' : ∀ u, (Op.equalIn 10000 37 (.agg #[.int .u8 (p : Int), .int .i64 z, .int .u8 (t : Int), .int .u64 (b : Int)]) (.agg #[.int .u8 (p' : Int), .int .i64 z', .int .u8 (t' : Int), .int .u64 (b' : Int)])).run Try.prog u = .ok true u := fun u => by rw [hq, hM]
          clear hq hM HXY
          go_wp2_with fail
          go_quiet (fail)
          go_wp2_with fail
          go_roundw
          case rel =>
            refine ⟨i + 1, by go_num, by omega, below_drN hbw _, fun q hq => ?_⟩
            by_cases hqi : q = i
            · subst hqi
              exact HM.out
            · exact HA.out q (by omega)
          case measure => simp [intOf]; omega
      · have hin : i = n := by omega
        obtain ⟨hbw, hall⟩ := hX.out
        have hRt : R = true := by
          rw [hR.out, decide_eq_true_iff]
          exact list_ext hn.out.symm hn2.out.symm (fun q hq => hall q (by omega))
        clear hX hall hin HR
        go_wp2
        go_ret
        exact ⟨by rw [hRt]; rfl, hbw⟩
  · have hne : ((n : Int) == (n2 : Int)) = false := by rw [beq_eq_false_iff_ne]; omega
    have hRf : R = false := by
      rw [hR.out, decide_eq_false_iff_not]
      intro h
      exact hnn (by rw [hn.out, hn2.out, h])
    clear hnn
    go_enter Try.func62, Try.ntmps62
    go_wp2_with fail
    go_ret
    exact ⟨by rw [hRf]; rfl, Below.refl _ _⟩

end Go.Proofs.Ytefklmckkigllaa
