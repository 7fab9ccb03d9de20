/- Joined texts of the proof. -/
import Derived.Test.YtefklmckkigllaaJ8

/- code.Same. -/
namespace Go.Proofs.Ytefklmckkigllaa
open Go.RowKit
set_option linter.unusedVariables false

theorem below_drN {B : Nat} {w w' : World} (h : Below B w w') (n : Nat) : Below B w (w'.drewN n) := ⟨h.os, h.tape, h.output, h.size, h.block⟩
theorem list_ext {α : Type} {xs ys : List α} {n : Nat} (h1 : xs.length = n) (h2 : ys.length = n) (h : ∀ q, q < n → xs[q]? = ys[q]?) : xs = ys := by
  apply List.ext_getElem?
  intro q
  by_cases hq : q < n
  · exact h q hq
  · rw [List.getElem?_eq_none (by omega), List.getElem?_eq_none (by omega)]
theorem eqVl (t b t' b' : Nat) (u : World) : (Op.equalIn 10000 35 (.agg #[.int .u8 (t : Int), .int .u64 (b : Int)]) (.agg #[.int .u8 (t' : Int), .int .u64 (b' : Int)])).run Try.prog u = .ok (decide ((⟨t, b⟩ : Vl) = ⟨t', b'⟩)) u := by
  by_cases h1 : t = t'
  · subst h1
    by_cases h2 : b = b'
    · subst h2
      go_simp
    · have e2 : ((b : Int) == (b' : Int)) = false := by rw [beq_eq_false_iff_ne]; omega
      go_simp
  · have e1 : ((t : Int) == (t' : Int)) = false := by rw [beq_eq_false_iff_ne]; omega
    go_simp
theorem eqIr (p : Nat) (q : Int) (t b p' : Nat) (q' : Int) (t' b' : Nat) (u : World) : (Op.equalIn 10000 37 (.agg #[.int .u8 (p : Int), .int .i64 q, .int .u8 (t : Int), .int .u64 (b : Int)]) (.agg #[.int .u8 (p' : Int), .int .i64 q', .int .u8 (t' : Int), .int .u64 (b' : Int)])).run Try.prog u = .ok (decide ((⟨p, q, ⟨t, b⟩⟩ : Ir) = ⟨p', q', ⟨t', b'⟩⟩)) u := by
  by_cases h3 : p = p'
  · subst h3
    by_cases h4 : q = q'
    · subst h4
      by_cases h1 : t = t'
      · subst h1
        by_cases h2 : b = b'
        · subst h2
          go_simp
        · have e2 : ((b : Int) == (b' : Int)) = false := by rw [beq_eq_false_iff_ne]; omega
          go_simp
      · have e1 : ((t : Int) == (t' : Int)) = false := by rw [beq_eq_false_iff_ne]; omega
        go_simp
    · have e4 : (q == q') = false := by rw [beq_eq_false_iff_ne]; exact h4
      go_simp
  · have e3 : ((p : Int) == (p' : Int)) = false := by rw [beq_eq_false_iff_ne]; omega
    go_simp

set_option maxRecDepth 100000 in
set_option maxHeartbeats 3200000 in
theorem equal24_any (B : Nat) (xs ys : List Vl) (a1 a2 : Option Addr) (c1 c2 : Nat) (w : World) (h1 : RowVl B w a1 c1 xs) (h2 : RowVl B w a2 c2 ys) (hBw : B ≤ w.heap.size) :
    Calls Try.prog 24 #[.slice a1 xs.length c1, .slice a2 ys.length c2] w fun r w' => r = .returned (.bool (decide (xs = ys))) ∧ Below w.heap.size w w' := by
  obtain ⟨R, hR⟩ : ∃ R, Hid (R = decide (xs = ys)) := ⟨_, (rfl : decide (xs = ys) = _)⟩
  rw [← hR.out]
  obtain ⟨n, hn⟩ : ∃ n, Hid (n = xs.length) := ⟨_, (rfl : xs.length = _)⟩
  obtain ⟨n2, hn2⟩ : ∃ n, Hid (n = ys.length) := ⟨_, (rfl : ys.length = _)⟩
  have hl1 := h1.1
  have hl2 := h2.1
  have hk1 := h1.2.1
  have hk2 := h2.2.1
  rw [← hn.out] at hl1 hk1 ⊢
  rw [← hn2.out] at hl2 hk2 ⊢
  have HR : Hid (RowVl B w a1 c1 xs ∧ RowVl B w a2 c2 ys) := ⟨h1, h2⟩
  clear h1 h2
  by_cases hnn : n = n2
  · subst hnn
    go_enter Try.func24, Try.ntmps24
    go_wp2_with fail
    go_loopw [5, 13] (fun _ j wr => ∃ i : Nat, j = .int .i64 (i : Int) ∧ i ≤ n ∧ Hid (Below w.heap.size w wr ∧ ∀ q, q < i → xs[q]? = ys[q]?)) (fun _ j _ => n - (intOf j).toNat)
    case atStart => exact ⟨0, rfl, by omega, Below.refl _ _, fun q hq => by omega⟩
    case round =>
      obtain ⟨i, rfl, hi, hX⟩ := hrel
      by_cases hc : i < n
      · obtain ⟨x, hx⟩ : ∃ k, xs[i]? = some k := ⟨xs[i]'(by rw [← hn.out]; exact hc), by rw [List.getElem?_eq_getElem]⟩
        obtain ⟨y, hy⟩ : ∃ k, ys[i]? = some k := ⟨ys[i]'(by rw [← hn2.out]; exact hc), by rw [List.getElem?_eq_getElem]⟩
        obtain ⟨hbw, hall⟩ := hX.out
        have hold : Old B w wr := Old.of_below hbw hBw
        obtain ⟨g1, o1, rfl, hg1, hr1, hi1⟩ := (RowG.imp HR.out.1 hold (Q := fun _ => True) (fun _ _ => trivial)).at i x hx
        obtain ⟨g2, o2, rfl, hg2, hr2, hi2⟩ := (RowG.imp HR.out.2 hold (Q := fun _ => True) (fun _ _ => trivial)).at i y hy
        obtain ⟨t, b⟩ := x
        obtain ⟨t', b'⟩ := y
        have x0 : wr.cell? ⟨g1, o1 + i * 2, none⟩ = some (.int .u8 (t : Int)) := by have := hr1 0 _ rfl; simpa using this
        have x1 : wr.cell? ⟨g1, o1 + i * 2 + 1, none⟩ = some (.int .u64 (b : Int)) := by have := hr1 1 _ rfl; simpa using this
        have y0 : wr.cell? ⟨g2, o2 + i * 2, none⟩ = some (.int .u8 (t' : Int)) := by have := hr2 0 _ rfl; simpa using this
        have y1 : wr.cell? ⟨g2, o2 + i * 2 + 1, none⟩ = some (.int .u64 (b' : Int)) := by have := hr2 1 _ rfl; simpa using this
        have hq := eqVl t b t' b'
        clear hr1 hr2 hi1 hi2
        have HA : Hid (∀ q, q < i → xs[q]? = ys[q]?) := hall
        have HXY : Hid (xs[i]? = some ⟨t, b⟩ ∧ ys[i]? = some ⟨t', b'⟩) := ⟨hx, hy⟩
        clear hX hold hall HR hx hy
        cases hM : decide ((⟨t, b⟩ : Vl) = ⟨t', b'⟩) with
        | false =>
          have hRf : R = false := by
            rw [hR.out, decide_eq_false_iff_not]
            intro h
            have h1 := HXY.out.1
            rw [h, HXY.out.2] at h1
            exact of_decide_eq_false hM (Option.some.inj h1).symm
          have hq' : ∀ u, (Op.equalIn 10000 35 (.agg #[.int .u8 (t : Int), .int .u64 (b : Int)]) (.agg #[.int .u8 (t' : Int), .int .u64 (b' : Int)])).run Try.prog u = .ok false u := fun u => by rw [hq, hM]
          clear hq hM HXY
          go_wp2_with fail
          go_quiet (fail)
          go_wp2_with fail
          go_ret
          exact ⟨by rw [hRf]; rfl, below_drN hbw _⟩
        | true =>
          have HM : Hid (xs[i]? = ys[i]?) := by show _ = _; rw [HXY.out.1, HXY.out.2, of_decide_eq_true hM]
          have hq' : ∀ u, (Op.equalIn 10000 35 (.agg #[.int .u8 (t : Int), .int .u64 (b : Int)]) (.agg #[.int .u8 (t' : Int), .int .u64 (b' : Int)])).run Try.prog u = .ok true u := fun u => by rw [hq, hM]
          clear hq hM HXY
          go_wp2_with fail
          go_quiet (fail)
          go_wp2_with fail
          go_roundw
          case rel =>
            refine ⟨i + 1, by go_num, by omega, below_drN hbw _, fun q hq => ?_⟩
            by_cases hqi : q = i
            · subst hqi
              exact HM.out
            · exact HA.out q (by omega)
          case measure => simp [intOf]; omega
      · have hin : i = n := by omega
        obtain ⟨hbw, hall⟩ := hX.out
        have hRt : R = true := by
          rw [hR.out, decide_eq_true_iff]
          exact list_ext hn.out.symm hn2.out.symm (fun q hq => hall q (by omega))
        clear hX hall hin HR
        go_wp2
        go_ret
        exact ⟨by rw [hRt]; rfl, hbw⟩
  · have hne : ((n : Int) == (n2 : Int)) = false := by rw [beq_eq_false_iff_ne]; omega
    have hRf : R = false := by
      rw [hR.out, decide_eq_false_iff_not]
      intro h
      exact hnn (by rw [hn.out, hn2.out, h])
    clear hnn
    go_enter Try.func24, Try.ntmps24
    go_wp2_with fail
    go_ret
    exact ⟨by rw [hRf]; rfl, Below.refl _ _⟩

set_option maxRecDepth 100000 in
set_option maxHeartbeats 3200000 in
theorem equal62_any (B : Nat) (xs ys : List Ir) (a1 a2 : Option Addr) (c1 c2 : Nat) (w : World) (h1 : RowIr B w a1 c1 xs) (h2 : RowIr B w a2 c2 ys) (hBw : B ≤ w.heap.size) :
    Calls Try.prog 62 #[.slice a1 xs.length c1, .slice a2 ys.length c2] w fun r w' => r = .returned (.bool (decide (xs = ys))) ∧ Below w.heap.size w w' := by
  obtain ⟨R, hR⟩ : ∃ R, Hid (R = decide (xs = ys)) := ⟨_, (rfl : decide (xs = ys) = _)⟩
  rw [← hR.out]
  obtain ⟨n, hn⟩ : ∃ n, Hid (n = xs.length) := ⟨_, (rfl : xs.length = _)⟩
  obtain ⟨n2, hn2⟩ : ∃ n, Hid (n = ys.length) := ⟨_, (rfl : ys.length = _)⟩
  have hl1 := h1.1
  have hl2 := h2.1
  have hk1 := h1.2.1
  have hk2 := h2.2.1
  rw [← hn.out] at hl1 hk1 ⊢
  rw [← hn2.out] at hl2 hk2 ⊢
  have HR : Hid (RowIr B w a1 c1 xs ∧ RowIr B w a2 c2 ys) := ⟨h1, h2⟩
  clear h1 h2
  by_cases hnn : n = n2
  · subst hnn
    go_enter Try.func62, Try.ntmps62
    go_wp2_with fail
    go_loopw [5, 13] (fun _ j wr => ∃ i : Nat, j = .int .i64 (i : Int) ∧ i ≤ n ∧ Hid (Below w.heap.size w wr ∧ ∀ q, q < i → xs[q]? = ys[q]?)) (fun _ j _ => n - (intOf j).toNat)
    case atStart => exact ⟨0, rfl, by omega, Below.refl _ _, fun q hq => by omega⟩
    case round =>
      obtain ⟨i, rfl, hi, hX⟩ := hrel
      by_cases hc : i < n
      · obtain ⟨x, hx⟩ : ∃ k, xs[i]? = some k := ⟨xs[i]'(by rw [← hn.out]; exact hc), by rw [List.getElem?_eq_getElem]⟩
        obtain ⟨y, hy⟩ : ∃ k, ys[i]? = some k := ⟨ys[i]'(by rw [← hn2.out]; exact hc), by rw [List.getElem?_eq_getElem]⟩
        obtain ⟨hbw, hall⟩ := hX.out
        have hold : Old B w wr := Old.of_below hbw hBw
        obtain ⟨g1, o1, rfl, hg1, hr1, hi1⟩ := (RowG.imp HR.out.1 hold (Q := fun _ => True) (fun _ _ => trivial)).at i x hx
        obtain ⟨g2, o2, rfl, hg2, hr2, hi2⟩ := (RowG.imp HR.out.2 hold (Q := fun _ => True) (fun _ _ => trivial)).at i y hy
        obtain ⟨p, z, ⟨t, b⟩⟩ := x
        obtain ⟨p', z', ⟨t', b'⟩⟩ := y
        have x0 : wr.cell? ⟨g1, o1 + i * 4, none⟩ = some (.int .u8 (p : Int)) := by have := hr1 0 _ rfl; simpa using this
        have x1 : wr.cell? ⟨g1, o1 + i * 4 + 1, none⟩ = some (.int .i64 z) := by have := hr1 1 _ rfl; simpa using this
        have x2 : wr.cell? ⟨g1, o1 + i * 4 + 2, none⟩ = some (.int .u8 (t : Int)) := by have := hr1 2 _ rfl; simpa using this
        have x3 : wr.cell? ⟨g1, o1 + i * 4 + 3, none⟩ = some (.int .u64 (b : Int)) := by have := hr1 3 _ rfl; simpa using this
        have y0 : wr.cell? ⟨g2, o2 + i * 4, none⟩ = some (.int .u8 (p' : Int)) := by have := hr2 0 _ rfl; simpa using this
        have y1 : wr.cell? ⟨g2, o2 + i * 4 + 1, none⟩ = some (.int .i64 z') := by have := hr2 1 _ rfl; simpa using this
        have y2 : wr.cell? ⟨g2, o2 + i * 4 + 2, none⟩ = some (.int .u8 (t' : Int)) := by have := hr2 2 _ rfl; simpa using this
        have y3 : wr.cell? ⟨g2, o2 + i * 4 + 3, none⟩ = some (.int .u64 (b' : Int)) := by have := hr2 3 _ rfl; simpa using this
        have hq := eqIr p z t b p' z' t' b'
        clear hr1 hr2 hi1 hi2
        have HA : Hid (∀ q, q < i → xs[q]? = ys[q]?) := hall
        have HXY : Hid (xs[i]? = some ⟨p, z, ⟨t, b⟩⟩ ∧ ys[i]? = some ⟨p', z', ⟨t', b'⟩⟩) := ⟨hx, hy⟩
        clear hX hold hall HR hx hy
        cases hM : decide ((⟨p, z, ⟨t, b⟩⟩ : Ir) = ⟨p', z', ⟨t', b'⟩⟩) with
        | false =>
          have hRf : R = false := by
            rw [hR.out, decide_eq_false_iff_not]
            intro h
            have h1 := HXY.out.1
            rw [h, HXY.out.2] at h1
            exact of_decide_eq_false hM (Option.some.inj h1).symm
          have hq' : ∀ u, (Op.equalIn 10000 37 (.agg #[.int .u8 (p : Int), .int .i64 z, .int .u8 (t : Int), .int .u64 (b : Int)]) (.agg #[.int .u8 (p' : Int), .int .i64 z', .int .u8 (t' : Int), .int .u64 (b' : Int)])).run Try.prog u = .ok false u := fun u => by rw [hq, hM]
          clear hq hM HXY
          go_wp2_with fail
          go_quiet (fail)
          go_wp2_with fail
          go_ret
          exact ⟨by rw [hRf]; rfl, below_drN hbw _⟩
        | true =>
          have HM : Hid (xs[i]? = ys[i]?) := by show _ = _; rw [HXY.out.1, HXY.out.2, of_decide_eq_true hM]
          have hq' : ∀ u, (Op.equalIn 10000 37 (.agg #[.int .u8 (p : Int), .int .i64 z, .int .u8 (t : Int), .int .u64 (b : Int)]) (.agg #[.int .u8 (p' : Int), .int .i64 z', .int .u8 (t' : Int), .int .u64 (b' : Int)])).run Try.prog u = .ok true u := fun u => by rw [hq, hM]
          clear hq hM HXY
          go_wp2_with fail
          go_quiet (fail)
          go_wp2_with fail
          go_roundw
          case rel =>
            refine ⟨i + 1, by go_num, by omega, below_drN hbw _, fun q hq => ?_⟩
            by_cases hqi : q = i
            · subst hqi
              exact HM.out
            · exact HA.out q (by omega)
          case measure => simp [intOf]; omega
      · have hin : i = n := by omega
        obtain ⟨hbw, hall⟩ := hX.out
        have hRt : R = true := by
          rw [hR.out, decide_eq_true_iff]
          exact list_ext hn.out.symm hn2.out.symm (fun q hq => hall q (by omega))
        clear hX hall hin HR
        go_wp2
        go_ret
        exact ⟨by rw [hRt]; rfl, hbw⟩
  · have hne : ((n : Int) == (n2 : Int)) = false := by rw [beq_eq_false_iff_ne]; omega
    have hRf : R = false := by
      rw [hR.out, decide_eq_false_iff_not]
      intro h
      exact hnn (by rw [hn.out, hn2.out, h])
    clear hnn
    go_enter Try.func62, Try.ntmps62
    go_wp2_with fail
    go_ret
    exact ⟨by rw [hRf]; rfl, Below.refl _ _⟩

end Go.Proofs.Ytefklmckkigllaa

/- code.Same: nodes, bodies, codes. -/
namespace Go.Proofs.Ytefklmckkigllaa
open Go.RowKit
set_option linter.unusedVariables false

set_option maxRecDepth 100000 in
set_option maxHeartbeats 3200000 in
theorem sameNode_any (B : Nat) (x y : NT) (w : World) (hx : x.In B w) (hy : y.In B w) (hBw : B ≤ w.heap.size) :
    Calls Try.prog 37 #[.agg x.cells.toArray, .agg y.cells.toArray] w fun e w' => e = .returned (.bool (decide (x.nd = y.nd))) ∧ Below w.heap.size w w' := by
  have Q : Hid (∀ u, Below w.heap.size w u → Calls Try.prog 62 #[.slice x.a x.nd.code.length x.c, .slice y.a y.nd.code.length y.c] u fun e w' => e = .returned (.bool (decide (x.nd.code = y.nd.code))) ∧ Below u.heap.size u w') := fun u hu => equal62_any B _ _ _ _ _ _ u (hx.1.old (Old.of_below hu hBw)) (hy.1.old (Old.of_below hu hBw)) (by have := hu.size; omega)
  clear hx hy
  obtain ⟨a, c, ⟨cs, k, r, e, l⟩⟩ := x
  obtain ⟨a', c', ⟨cs', k', r', e', l'⟩⟩ := y
  simp only [NT.cells] at Q ⊢
  obtain ⟨R, hR⟩ : ∃ R, Hid (R = decide ((⟨cs, k, r, e, l⟩ : Nd) = ⟨cs', k', r', e', l'⟩)) := ⟨_, (rfl : decide _ = _)⟩
  rw [← hR.out]
  obtain ⟨b, hb⟩ : ∃ b, Hid (b = decide (cs = cs')) := ⟨_, (rfl : decide _ = _)⟩
  rw [← hb.out] at Q
  generalize cs.length = n at *
  generalize cs'.length = n' at *
  by_cases h_k : k = k'
  · subst h_k
    by_cases h_r : r = r'
    · subst h_r
      by_cases h_e : e = e'
      · subst h_e
        by_cases h_l : l = l'
        · subst h_l
          have hRf : R = b := by
            rw [hR.out, hb.out]
            simp
          clear hR
          go_enter Try.func37, Try.ntmps37
          go_wp2_with (first
            | ((with_reducible show wpList _ _ _ _ _ _); refine wpList_box_at rfl 49 (.tmp 0) rfl [.slice a n c, .int .i64 k, .int .i64 r, .int .i64 e, .int .i64 l] rfl ?_; intro w1 hA1 hb1 hs1; clear hs1)
            | ((with_reducible show wpList _ _ _ _ _ _); refine wpList_box_at rfl 49 (.tmp 1) rfl [.slice a' n' c', .int .i64 k, .int .i64 r, .int .i64 e, .int .i64 l] rfl ?_; intro w2 hA2 hb2 hs2; clear hs2; refine Hid.out ?_))
          refine hidU ?_
          have x0 : w2.cell? ⟨w.heap.size, 0, none⟩ = some (.slice a n c) := by rw [(hA1.below hb2).cell]; rfl
          have y0 : w2.cell? ⟨w1.heap.size, 0, none⟩ = some (.slice a' n' c') := by rw [hA2.cell]; rfl
          have x1 : w2.cell? ⟨w.heap.size, 1, none⟩ = some (.int .i64 k) := by rw [(hA1.below hb2).cell]; rfl
          have y1 : w2.cell? ⟨w1.heap.size, 1, none⟩ = some (.int .i64 k) := by rw [hA2.cell]; rfl
          have x2 : w2.cell? ⟨w.heap.size, 2, none⟩ = some (.int .i64 r) := by rw [(hA1.below hb2).cell]; rfl
          have y2 : w2.cell? ⟨w1.heap.size, 2, none⟩ = some (.int .i64 r) := by rw [hA2.cell]; rfl
          have x3 : w2.cell? ⟨w.heap.size, 3, none⟩ = some (.int .i64 e) := by rw [(hA1.below hb2).cell]; rfl
          have y3 : w2.cell? ⟨w1.heap.size, 3, none⟩ = some (.int .i64 e) := by rw [hA2.cell]; rfl
          have x4 : w2.cell? ⟨w.heap.size, 4, none⟩ = some (.int .i64 l) := by rw [(hA1.below hb2).cell]; rfl
          have y4 : w2.cell? ⟨w1.heap.size, 4, none⟩ = some (.int .i64 l) := by rw [hA2.cell]; rfl
          have hB2 : Below w.heap.size w w2 := hb1.trans (hb2.mono hb1.size)
          have HA : Hid (At 49 w2 w.heap.size [.slice a n c, .int .i64 k, .int .i64 r, .int .i64 e, .int .i64 l] ∧ At 49 w2 w1.heap.size [.slice a' n' c', .int .i64 k, .int .i64 r, .int .i64 e, .int .i64 l]) := ⟨hA1.below hb2, hA2⟩
          clear hA1 hA2 hb1 hb2
          clear HA
          go_wp2_with (first
            | (go_at_call 62; refine (Q.out _ hB2).mono ?_; rintro _ w3 ⟨rfl, hb3⟩))
          go_ret
          exact ⟨by rw [hRf]; rfl, hB2.trans (hb3.mono hB2.size)⟩

        · have hRf : R = false := by
            rw [hR.out, decide_eq_false_iff_not]
            intro h
            cases h
            exact h_l rfl
          have e_l : (l == l') = false := by rw [beq_eq_false_iff_ne]; exact h_l
          clear h_l hR Q
          go_enter Try.func37, Try.ntmps37
          go_wp2_with (first
            | ((with_reducible show wpList _ _ _ _ _ _); refine wpList_box_at rfl 49 (.tmp 0) rfl [.slice a n c, .int .i64 k, .int .i64 r, .int .i64 e, .int .i64 l] rfl ?_; intro w1 hA1 hb1 hs1; clear hs1)
            | ((with_reducible show wpList _ _ _ _ _ _); refine wpList_box_at rfl 49 (.tmp 1) rfl [.slice a' n' c', .int .i64 k, .int .i64 r, .int .i64 e, .int .i64 l'] rfl ?_; intro w2 hA2 hb2 hs2; clear hs2; refine Hid.out ?_))
          refine hidU ?_
          have x0 : w2.cell? ⟨w.heap.size, 0, none⟩ = some (.slice a n c) := by rw [(hA1.below hb2).cell]; rfl
          have y0 : w2.cell? ⟨w1.heap.size, 0, none⟩ = some (.slice a' n' c') := by rw [hA2.cell]; rfl
          have x1 : w2.cell? ⟨w.heap.size, 1, none⟩ = some (.int .i64 k) := by rw [(hA1.below hb2).cell]; rfl
          have y1 : w2.cell? ⟨w1.heap.size, 1, none⟩ = some (.int .i64 k) := by rw [hA2.cell]; rfl
          have x2 : w2.cell? ⟨w.heap.size, 2, none⟩ = some (.int .i64 r) := by rw [(hA1.below hb2).cell]; rfl
          have y2 : w2.cell? ⟨w1.heap.size, 2, none⟩ = some (.int .i64 r) := by rw [hA2.cell]; rfl
          have x3 : w2.cell? ⟨w.heap.size, 3, none⟩ = some (.int .i64 e) := by rw [(hA1.below hb2).cell]; rfl
          have y3 : w2.cell? ⟨w1.heap.size, 3, none⟩ = some (.int .i64 e) := by rw [hA2.cell]; rfl
          have x4 : w2.cell? ⟨w.heap.size, 4, none⟩ = some (.int .i64 l) := by rw [(hA1.below hb2).cell]; rfl
          have y4 : w2.cell? ⟨w1.heap.size, 4, none⟩ = some (.int .i64 l') := by rw [hA2.cell]; rfl
          have hB2 : Below w.heap.size w w2 := hb1.trans (hb2.mono hb1.size)
          have HA : Hid (At 49 w2 w.heap.size [.slice a n c, .int .i64 k, .int .i64 r, .int .i64 e, .int .i64 l] ∧ At 49 w2 w1.heap.size [.slice a' n' c', .int .i64 k, .int .i64 r, .int .i64 e, .int .i64 l']) := ⟨hA1.below hb2, hA2⟩
          clear hA1 hA2 hb1 hb2
          clear HA
          go_wp2
          go_ret
          exact ⟨by rw [hRf]; rfl, hB2⟩

      · have hRf : R = false := by
          rw [hR.out, decide_eq_false_iff_not]
          intro h
          cases h
          exact h_e rfl
        have e_e : (e == e') = false := by rw [beq_eq_false_iff_ne]; exact h_e
        clear h_e hR Q
        go_enter Try.func37, Try.ntmps37
        go_wp2_with (first
          | ((with_reducible show wpList _ _ _ _ _ _); refine wpList_box_at rfl 49 (.tmp 0) rfl [.slice a n c, .int .i64 k, .int .i64 r, .int .i64 e, .int .i64 l] rfl ?_; intro w1 hA1 hb1 hs1; clear hs1)
          | ((with_reducible show wpList _ _ _ _ _ _); refine wpList_box_at rfl 49 (.tmp 1) rfl [.slice a' n' c', .int .i64 k, .int .i64 r, .int .i64 e', .int .i64 l'] rfl ?_; intro w2 hA2 hb2 hs2; clear hs2; refine Hid.out ?_))
        refine hidU ?_
        have x0 : w2.cell? ⟨w.heap.size, 0, none⟩ = some (.slice a n c) := by rw [(hA1.below hb2).cell]; rfl
        have y0 : w2.cell? ⟨w1.heap.size, 0, none⟩ = some (.slice a' n' c') := by rw [hA2.cell]; rfl
        have x1 : w2.cell? ⟨w.heap.size, 1, none⟩ = some (.int .i64 k) := by rw [(hA1.below hb2).cell]; rfl
        have y1 : w2.cell? ⟨w1.heap.size, 1, none⟩ = some (.int .i64 k) := by rw [hA2.cell]; rfl
        have x2 : w2.cell? ⟨w.heap.size, 2, none⟩ = some (.int .i64 r) := by rw [(hA1.below hb2).cell]; rfl
        have y2 : w2.cell? ⟨w1.heap.size, 2, none⟩ = some (.int .i64 r) := by rw [hA2.cell]; rfl
        have x3 : w2.cell? ⟨w.heap.size, 3, none⟩ = some (.int .i64 e) := by rw [(hA1.below hb2).cell]; rfl
        have y3 : w2.cell? ⟨w1.heap.size, 3, none⟩ = some (.int .i64 e') := by rw [hA2.cell]; rfl
        have x4 : w2.cell? ⟨w.heap.size, 4, none⟩ = some (.int .i64 l) := by rw [(hA1.below hb2).cell]; rfl
        have y4 : w2.cell? ⟨w1.heap.size, 4, none⟩ = some (.int .i64 l') := by rw [hA2.cell]; rfl
        have hB2 : Below w.heap.size w w2 := hb1.trans (hb2.mono hb1.size)
        have HA : Hid (At 49 w2 w.heap.size [.slice a n c, .int .i64 k, .int .i64 r, .int .i64 e, .int .i64 l] ∧ At 49 w2 w1.heap.size [.slice a' n' c', .int .i64 k, .int .i64 r, .int .i64 e', .int .i64 l']) := ⟨hA1.below hb2, hA2⟩
        clear hA1 hA2 hb1 hb2
        clear HA
        go_wp2
        go_ret
        exact ⟨by rw [hRf]; rfl, hB2⟩

    · have hRf : R = false := by
        rw [hR.out, decide_eq_false_iff_not]
        intro h
        cases h
        exact h_r rfl
      have e_r : (r == r') = false := by rw [beq_eq_false_iff_ne]; exact h_r
      clear h_r hR Q
      go_enter Try.func37, Try.ntmps37
      go_wp2_with (first
        | ((with_reducible show wpList _ _ _ _ _ _); refine wpList_box_at rfl 49 (.tmp 0) rfl [.slice a n c, .int .i64 k, .int .i64 r, .int .i64 e, .int .i64 l] rfl ?_; intro w1 hA1 hb1 hs1; clear hs1)
        | ((with_reducible show wpList _ _ _ _ _ _); refine wpList_box_at rfl 49 (.tmp 1) rfl [.slice a' n' c', .int .i64 k, .int .i64 r', .int .i64 e', .int .i64 l'] rfl ?_; intro w2 hA2 hb2 hs2; clear hs2; refine Hid.out ?_))
      refine hidU ?_
      have x0 : w2.cell? ⟨w.heap.size, 0, none⟩ = some (.slice a n c) := by rw [(hA1.below hb2).cell]; rfl
      have y0 : w2.cell? ⟨w1.heap.size, 0, none⟩ = some (.slice a' n' c') := by rw [hA2.cell]; rfl
      have x1 : w2.cell? ⟨w.heap.size, 1, none⟩ = some (.int .i64 k) := by rw [(hA1.below hb2).cell]; rfl
      have y1 : w2.cell? ⟨w1.heap.size, 1, none⟩ = some (.int .i64 k) := by rw [hA2.cell]; rfl
      have x2 : w2.cell? ⟨w.heap.size, 2, none⟩ = some (.int .i64 r) := by rw [(hA1.below hb2).cell]; rfl
      have y2 : w2.cell? ⟨w1.heap.size, 2, none⟩ = some (.int .i64 r') := by rw [hA2.cell]; rfl
      have x3 : w2.cell? ⟨w.heap.size, 3, none⟩ = some (.int .i64 e) := by rw [(hA1.below hb2).cell]; rfl
      have y3 : w2.cell? ⟨w1.heap.size, 3, none⟩ = some (.int .i64 e') := by rw [hA2.cell]; rfl
      have x4 : w2.cell? ⟨w.heap.size, 4, none⟩ = some (.int .i64 l) := by rw [(hA1.below hb2).cell]; rfl
      have y4 : w2.cell? ⟨w1.heap.size, 4, none⟩ = some (.int .i64 l') := by rw [hA2.cell]; rfl
      have hB2 : Below w.heap.size w w2 := hb1.trans (hb2.mono hb1.size)
      have HA : Hid (At 49 w2 w.heap.size [.slice a n c, .int .i64 k, .int .i64 r, .int .i64 e, .int .i64 l] ∧ At 49 w2 w1.heap.size [.slice a' n' c', .int .i64 k, .int .i64 r', .int .i64 e', .int .i64 l']) := ⟨hA1.below hb2, hA2⟩
      clear hA1 hA2 hb1 hb2
      clear HA
      go_wp2
      go_ret
      exact ⟨by rw [hRf]; rfl, hB2⟩

  · have hRf : R = false := by
      rw [hR.out, decide_eq_false_iff_not]
      intro h
      cases h
      exact h_k rfl
    have e_k : (k == k') = false := by rw [beq_eq_false_iff_ne]; exact h_k
    clear h_k hR Q
    go_enter Try.func37, Try.ntmps37
    go_wp2_with (first
      | ((with_reducible show wpList _ _ _ _ _ _); refine wpList_box_at rfl 49 (.tmp 0) rfl [.slice a n c, .int .i64 k, .int .i64 r, .int .i64 e, .int .i64 l] rfl ?_; intro w1 hA1 hb1 hs1; clear hs1)
      | ((with_reducible show wpList _ _ _ _ _ _); refine wpList_box_at rfl 49 (.tmp 1) rfl [.slice a' n' c', .int .i64 k', .int .i64 r', .int .i64 e', .int .i64 l'] rfl ?_; intro w2 hA2 hb2 hs2; clear hs2; refine Hid.out ?_))
    refine hidU ?_
    have x0 : w2.cell? ⟨w.heap.size, 0, none⟩ = some (.slice a n c) := by rw [(hA1.below hb2).cell]; rfl
    have y0 : w2.cell? ⟨w1.heap.size, 0, none⟩ = some (.slice a' n' c') := by rw [hA2.cell]; rfl
    have x1 : w2.cell? ⟨w.heap.size, 1, none⟩ = some (.int .i64 k) := by rw [(hA1.below hb2).cell]; rfl
    have y1 : w2.cell? ⟨w1.heap.size, 1, none⟩ = some (.int .i64 k') := by rw [hA2.cell]; rfl
    have x2 : w2.cell? ⟨w.heap.size, 2, none⟩ = some (.int .i64 r) := by rw [(hA1.below hb2).cell]; rfl
    have y2 : w2.cell? ⟨w1.heap.size, 2, none⟩ = some (.int .i64 r') := by rw [hA2.cell]; rfl
    have x3 : w2.cell? ⟨w.heap.size, 3, none⟩ = some (.int .i64 e) := by rw [(hA1.below hb2).cell]; rfl
    have y3 : w2.cell? ⟨w1.heap.size, 3, none⟩ = some (.int .i64 e') := by rw [hA2.cell]; rfl
    have x4 : w2.cell? ⟨w.heap.size, 4, none⟩ = some (.int .i64 l) := by rw [(hA1.below hb2).cell]; rfl
    have y4 : w2.cell? ⟨w1.heap.size, 4, none⟩ = some (.int .i64 l') := by rw [hA2.cell]; rfl
    have hB2 : Below w.heap.size w w2 := hb1.trans (hb2.mono hb1.size)
    have HA : Hid (At 49 w2 w.heap.size [.slice a n c, .int .i64 k, .int .i64 r, .int .i64 e, .int .i64 l] ∧ At 49 w2 w1.heap.size [.slice a' n' c', .int .i64 k', .int .i64 r', .int .i64 e', .int .i64 l']) := ⟨hA1.below hb2, hA2⟩
    clear hA1 hA2 hb1 hb2
    clear HA
    go_wp2
    go_ret
    exact ⟨by rw [hRf]; rfl, hB2⟩

set_option maxRecDepth 100000 in
set_option maxHeartbeats 3200000 in
theorem equal36_any (B : Nat) (xs ys : List NT) (a1 a2 : Option Addr) (c1 c2 : Nat) (w : World) (h1 : RowNT B w a1 c1 xs) (h2 : RowNT B w a2 c2 ys) (hBw : B ≤ w.heap.size) :
    Calls Try.prog 36 #[.slice a1 xs.length c1, .slice a2 ys.length c2, .func (.func 37) #[] #[]] w fun r w' => r = .returned (.bool (decide (xs.map NT.nd = ys.map NT.nd))) ∧ Below w.heap.size w w' := by
  obtain ⟨R, hR⟩ : ∃ R, Hid (R = decide (xs.map NT.nd = ys.map NT.nd)) := ⟨_, (rfl : decide _ = _)⟩
  rw [← hR.out]
  obtain ⟨n, hn⟩ : ∃ n, Hid (n = xs.length) := ⟨_, (rfl : xs.length = _)⟩
  obtain ⟨n2, hn2⟩ : ∃ n, Hid (n = ys.length) := ⟨_, (rfl : ys.length = _)⟩
  have hl1 := h1.1
  have hl2 := h2.1
  have hk1 := h1.2.1
  have hk2 := h2.2.1
  rw [← hn.out] at hl1 hk1 ⊢
  rw [← hn2.out] at hl2 hk2 ⊢
  have HR : Hid (RowNT B w a1 c1 xs ∧ RowNT B w a2 c2 ys) := ⟨h1, h2⟩
  clear h1 h2
  by_cases hnn : n = n2
  · subst hnn
    go_enter Try.func36, Try.ntmps36
    go_wp2_with fail
    go_loopw [17] (fun j wr => ∃ i : Nat, j = .int .i64 (i : Int) ∧ i ≤ n ∧ Hid (Below w.heap.size w wr ∧ ∀ q, q < i → (xs.map NT.nd)[q]? = (ys.map NT.nd)[q]?)) (fun j _ => n - (intOf j).toNat)
    case atStart => exact ⟨0, rfl, by omega, Below.refl _ _, fun q hq => by omega⟩
    case round =>
      obtain ⟨i, rfl, hi, hX⟩ := hrel
      by_cases hc : i < n
      · obtain ⟨x, hx⟩ : ∃ k, xs[i]? = some k := ⟨xs[i]'(by rw [← hn.out]; exact hc), by rw [List.getElem?_eq_getElem]⟩
        obtain ⟨y, hy⟩ : ∃ k, ys[i]? = some k := ⟨ys[i]'(by rw [← hn2.out]; exact hc), by rw [List.getElem?_eq_getElem]⟩
        obtain ⟨hbw, hall⟩ := hX.out
        have hold : Old B w wr := Old.of_below hbw hBw
        obtain ⟨g1, o1, rfl, hg1, hr1, hx1⟩ := (RowNT.old HR.out.1 hold).at i x hx
        obtain ⟨g2, o2, rfl, hg2, hr2, hy1⟩ := (RowNT.old HR.out.2 hold).at i y hy
        have HK : Hid (x.In B wr ∧ y.In B wr ∧ B ≤ wr.heap.size ∧ wr.rangeAt g2 (o2 + i * 5) y.cells) := ⟨hx1, hy1, by have := hbw.size; omega, hr2⟩
        have HXY : Hid ((xs.map NT.nd)[i]? = some x.nd ∧ (ys.map NT.nd)[i]? = some y.nd) := ⟨by rw [List.getElem?_map, hx]; rfl, by rw [List.getElem?_map, hy]; rfl⟩
        have HA : Hid (∀ q, q < i → (xs.map NT.nd)[q]? = (ys.map NT.nd)[q]?) := hall
        have HC : Hid (∀ u, x.In B u → y.In B u → B ≤ u.heap.size → Calls Try.prog 37 #[.agg x.cells.toArray, .agg y.cells.toArray] u fun e w' => e = .returned (.bool (decide (x.nd = y.nd))) ∧ Below u.heap.size u w') := fun u h1 h2 h3 => sameNode_any B x y u h1 h2 h3
        have ho1 := x.one
        have ho2 := y.one
        have hn1 : x.cells.length = 5 := rfl
        have hn3 : y.cells.length = 5 := rfl
        clear hX hx1 hy1 hr2 hold HR hall hx hy
        generalize x.cells = xc at *
        generalize y.cells = yc at *
        go_wp2_with (first
          | ((with_reducible show wpList _ _ _ _ _ _); refine wpList_load_mid (P := Try.prog) rfl 49 (.tmp 20) rfl g1 (o1 + i * 5) (by first | rfl | (simp; done)) xc _ hr1 Try.underlying49 rfl (by rw [hn1]; exact i49) ?_)
          | ((with_reducible show wpList _ _ _ _ _ _); refine wpList_alloc_at rfl 49 rfl _ 5 z49 ?_; intro w2 hA2 hb2 hs2)
          | ((with_reducible show wpList _ _ _ _ _ _); refine wpList_store_at (P := Try.prog) rfl 49 (.tmp 8) (.tmp 21) rfl wr.heap.size xc rfl rfl 49 _ hA2 (by rw [hn1]; exact i49) (by rw [hn1]; rfl) ho1 ?_; intro w3 hA3 hb3 hs3; refine Hid.out ?_))
        refine hidU ?_
        have hB3 : Below wr.heap.size wr w3 := hb3.below hb2 (Nat.le_refl _) (by omega)
        obtain ⟨q1, q2, q3, q4⟩ := HK.out
        have hold3 : Old B wr w3 := Old.of_below hB3 q3
        have hr3 : w3.rangeAt g2 (o2 + i * 5) yc := Old.range hold3 hg2 q4
        have hw3 : Below w.heap.size w w3 := hbw.trans (hB3.mono hbw.size)
        have hA3' := hA3
        clear hb3 hb2 hA2 hr1 hs2 hs3 q4 hA3 HK
        go_wp2_with (first
          | ((with_reducible show wpList _ _ _ _ _ _); refine wpList_load_mid (P := Try.prog) rfl 49 (.tmp 24) rfl g2 (o2 + i * 5) (by first | rfl | (simp; done)) yc _ hr3 Try.underlying49 rfl (by rw [hn3]; exact i49) ?_)
          | ((with_reducible show wpList _ _ _ _ _ _); refine wpList_alloc_at rfl 49 rfl _ 5 z49 ?_; intro w4 hA4 hb4 hs4)
          | ((with_reducible show wpList _ _ _ _ _ _); refine wpList_store_at (P := Try.prog) rfl 49 (.tmp 9) (.tmp 25) rfl w3.heap.size yc rfl rfl 49 _ hA4 (by rw [hn3]; exact i49) (by rw [hn3]; rfl) ho2 ?_; intro w5 hA5 hb5 hs5; refine Hid.out ?_))
        refine hidU ?_
        have hB5 : Below w3.heap.size w3 w5 := hb5.below hb4 (Nat.le_refl _) (by omega)
        have hA35 := hA3'.below hB5
        have hw5 : Below w.heap.size w w5 := hw3.trans (hB5.mono hw3.size)
        have hold5 : Old B wr w5 := hold3.trans (Old.of_below hB5 (by have := hB3.size; omega))
        have hI := HC.out w5 (q1.old hold5) (q2.old hold5) (by have := hw5.size; omega)
        clear hb5 hb4 hA4 hr3 hs4 hs5 hA3' q1 q2 hold3 hold5 HC
        go_wp2_with (first
          | ((with_reducible show wpList _ _ _ _ _ _); refine wpList_load_at (P := Try.prog) rfl 49 (.tmp 8) rfl wr.heap.size rfl 49 xc hA35 _ Try.underlying49 rfl (by rw [hn1]; exact i49) ?_)
          | ((with_reducible show wpList _ _ _ _ _ _); refine wpList_load_at (P := Try.prog) rfl 49 (.tmp 9) rfl w3.heap.size rfl 49 yc hA5 _ Try.underlying49 rfl (by rw [hn3]; exact i49) ?_))
        refine hI.mono ?_
        rintro r w6 ⟨rfl, hb6⟩
        have hw6 : Below w.heap.size w w6 := hw5.trans (hb6.mono hw5.size)
        clear hI hb6 hw5 hw3 hB3 hB5 hA35 hA5
        cases hM : decide (x.nd = y.nd) with
        | false =>
          have hRf : R = false := by
            rw [hR.out, decide_eq_false_iff_not]
            intro h
            have h1 := HXY.out.1
            rw [h, HXY.out.2] at h1
            exact of_decide_eq_false hM (Option.some.inj h1).symm
          clear hM HXY
          go_wp2
          go_ret
          exact ⟨by rw [hRf]; rfl, hw6⟩
        | true =>
          have HM : Hid ((xs.map NT.nd)[i]? = (ys.map NT.nd)[i]?) := by show _ = _; rw [HXY.out.1, HXY.out.2, of_decide_eq_true hM]
          clear hM HXY
          go_wp2
          go_roundw
          case rel =>
            refine ⟨i + 1, by go_num, by omega, hw6, fun q hq => ?_⟩
            by_cases hqi : q = i
            · subst hqi
              exact HM.out
            · exact HA.out q (by omega)
          case measure => simp [intOf]; omega
      · have hin : i = n := by omega
        obtain ⟨hbw, hall⟩ := hX.out
        have hRt : R = true := by
          rw [hR.out, decide_eq_true_iff]
          exact list_ext (n := n) (by rw [List.length_map]; exact hn.out.symm) (by rw [List.length_map]; exact hn2.out.symm) (fun q hq => hall q (by omega))
        clear hX hall hin HR
        go_wp2
        go_ret
        exact ⟨by rw [hRt]; rfl, hbw⟩
  · have hne : ((n : Int) == (n2 : Int)) = false := by rw [beq_eq_false_iff_ne]; omega
    have hRf : R = false := by
      rw [hR.out, decide_eq_false_iff_not]
      intro h
      have := congrArg List.length h
      rw [List.length_map, List.length_map] at this
      exact hnn (by rw [hn.out, hn2.out, this])
    clear hnn
    go_enter Try.func36, Try.ntmps36
    go_wp2_with fail
    go_ret
    exact ⟨by rw [hRf]; rfl, Below.refl _ _⟩

set_option maxRecDepth 100000 in
set_option maxHeartbeats 3200000 in
theorem sameBody_any (B : Nat) (x y : BT) (w : World) (hx : x.In B w) (hy : y.In B w) (hBw : B ≤ w.heap.size) :
    Calls Try.prog 26 #[.agg x.cells.toArray, .agg y.cells.toArray] w fun e w' => e = .returned (.bool (decide (x.bd = y.bd))) ∧ Below w.heap.size w w' := by
  have Q1 : Hid (∀ u, Below w.heap.size w u → Calls Try.prog 24 #[.slice x.a1 x.locals.length x.c1, .slice y.a1 y.locals.length y.c1] u fun e w' => e = .returned (.bool (decide (x.locals = y.locals))) ∧ Below u.heap.size u w') := fun u hu => equal24_any B _ _ _ _ _ _ u (RowVl.old hx.1 (Old.of_below hu hBw)) (RowVl.old hy.1 (Old.of_below hu hBw)) (by have := hu.size; omega)
  have Q2 : Hid (∀ u, Below w.heap.size w u → Calls Try.prog 36 #[.slice x.a2 x.nodes.length x.c2, .slice y.a2 y.nodes.length y.c2, .func (.func 37) #[] #[]] u fun e w' => e = .returned (.bool (decide (x.nodes.map NT.nd = y.nodes.map NT.nd))) ∧ Below u.heap.size u w') := fun u hu => equal36_any B _ _ _ _ _ _ u (RowNT.old hx.2.2 (Old.of_below hu hBw)) (RowNT.old hy.2.2 (Old.of_below hu hBw)) (by have := hu.size; omega)
  clear hx hy
  obtain ⟨R, hR⟩ : ∃ R, Hid (R = decide (x.bd = y.bd)) := ⟨_, (rfl : decide _ = _)⟩
  rw [← hR.out]
  obtain ⟨a, c, ls, k, d, f, zs⟩ := x
  obtain ⟨a', c', ls', k', d', f', zs'⟩ := y
  simp only [BT.cells] at Q1 Q2 ⊢
  obtain ⟨b1, hb1⟩ : ∃ b, Hid (b = decide (ls = ls')) := ⟨_, (rfl : decide _ = _)⟩
  rw [← hb1.out] at Q1
  obtain ⟨b2, hb2⟩ : ∃ b, Hid (b = decide (zs.map NT.nd = zs'.map NT.nd)) := ⟨_, (rfl : decide _ = _)⟩
  rw [← hb2.out] at Q2
  generalize ls.length = n at *
  generalize ls'.length = n' at *
  generalize zs.length = m at *
  generalize zs'.length = m' at *
  by_cases h_k : k = k'
  · subst h_k
    cases b1 with
    | false =>
      have hRf : R = false := by
        rw [hR.out, decide_eq_false_iff_not]
        intro h
        injection h with h1 h2 h3
        have := hb1.out
        rw [decide_eq_true h1] at this
        cases this
      clear hR Q2 hb1
      go_enter Try.func26, Try.ntmps26
      go_wp2_with (first
        | ((with_reducible show wpList _ _ _ _ _ _); refine wpList_box_at rfl 45 (.tmp 0) rfl [.slice a n c, .int .i64 k, .slice d m f] rfl ?_; intro w1 hA1 hb1 hs1; clear hs1)
        | ((with_reducible show wpList _ _ _ _ _ _); refine wpList_box_at rfl 45 (.tmp 1) rfl [.slice a' n' c', .int .i64 k, .slice d' m' f'] rfl ?_; intro w2 hA2 hb2 hs2; clear hs2; refine Hid.out ?_))
      refine hidU ?_
      have x0 : w2.cell? ⟨w.heap.size, 0, none⟩ = some (.slice a n c) := by rw [(hA1.below hb2).cell]; rfl
      have y0 : w2.cell? ⟨w1.heap.size, 0, none⟩ = some (.slice a' n' c') := by rw [hA2.cell]; rfl
      have x1 : w2.cell? ⟨w.heap.size, 1, none⟩ = some (.int .i64 k) := by rw [(hA1.below hb2).cell]; rfl
      have y1 : w2.cell? ⟨w1.heap.size, 1, none⟩ = some (.int .i64 k) := by rw [hA2.cell]; rfl
      have x2 : w2.cell? ⟨w.heap.size, 2, none⟩ = some (.slice d m f) := by rw [(hA1.below hb2).cell]; rfl
      have y2 : w2.cell? ⟨w1.heap.size, 2, none⟩ = some (.slice d' m' f') := by rw [hA2.cell]; rfl
      have hB2 : Below w.heap.size w w2 := hb1.trans (hb2.mono hb1.size)
      have HA : Hid (At 45 w2 w.heap.size [.slice a n c, .int .i64 k, .slice d m f] ∧ At 45 w2 w1.heap.size [.slice a' n' c', .int .i64 k, .slice d' m' f']) := ⟨hA1.below hb2, hA2⟩
      clear hA1 hA2 hb1 hb2
      clear HA
      go_wp2_with (first
        | (go_at_call 24; refine (Q1.out _ hB2).mono ?_; rintro _ w3 ⟨rfl, hb3⟩))
      go_ret
      exact ⟨by rw [hRf]; rfl, hB2.trans (hb3.mono hB2.size)⟩

    | true =>
      have hRf : R = b2 := by
        have e1 := of_decide_eq_true hb1.out.symm
        rw [hR.out, hb2.out]
        refine decide_eq_decide.2 ⟨fun h => ?_, fun h => ?_⟩
        · injection h with h1 h2 h3
        · show (⟨ls, k, zs.map NT.nd⟩ : Bd) = ⟨ls', k, zs'.map NT.nd⟩
          rw [e1, h]
      clear hR hb1
      go_enter Try.func26, Try.ntmps26
      go_wp2_with (first
        | ((with_reducible show wpList _ _ _ _ _ _); refine wpList_box_at rfl 45 (.tmp 0) rfl [.slice a n c, .int .i64 k, .slice d m f] rfl ?_; intro w1 hA1 hb1 hs1; clear hs1)
        | ((with_reducible show wpList _ _ _ _ _ _); refine wpList_box_at rfl 45 (.tmp 1) rfl [.slice a' n' c', .int .i64 k, .slice d' m' f'] rfl ?_; intro w2 hA2 hb2 hs2; clear hs2; refine Hid.out ?_))
      refine hidU ?_
      have x0 : w2.cell? ⟨w.heap.size, 0, none⟩ = some (.slice a n c) := by rw [(hA1.below hb2).cell]; rfl
      have y0 : w2.cell? ⟨w1.heap.size, 0, none⟩ = some (.slice a' n' c') := by rw [hA2.cell]; rfl
      have x1 : w2.cell? ⟨w.heap.size, 1, none⟩ = some (.int .i64 k) := by rw [(hA1.below hb2).cell]; rfl
      have y1 : w2.cell? ⟨w1.heap.size, 1, none⟩ = some (.int .i64 k) := by rw [hA2.cell]; rfl
      have x2 : w2.cell? ⟨w.heap.size, 2, none⟩ = some (.slice d m f) := by rw [(hA1.below hb2).cell]; rfl
      have y2 : w2.cell? ⟨w1.heap.size, 2, none⟩ = some (.slice d' m' f') := by rw [hA2.cell]; rfl
      have hB2 : Below w.heap.size w w2 := hb1.trans (hb2.mono hb1.size)
      have HA : Hid (At 45 w2 w.heap.size [.slice a n c, .int .i64 k, .slice d m f] ∧ At 45 w2 w1.heap.size [.slice a' n' c', .int .i64 k, .slice d' m' f']) := ⟨hA1.below hb2, hA2⟩
      clear hA1 hA2 hb1 hb2
      go_wp2_with (first
        | (go_at_call 24; refine (Q1.out _ hB2).mono ?_; rintro _ w3 ⟨rfl, hb3⟩; have p2 : w3.cell? ⟨w.heap.size, 2, none⟩ = some (.slice d m f) := (by rw [(HA.out.1.below hb3).cell]; rfl); have p3 : w3.cell? ⟨w1.heap.size, 2, none⟩ = some (.slice d' m' f') := (by rw [(HA.out.2.below hb3).cell]; rfl); have hB3 := hB2.trans (hb3.mono hB2.size); clear hb3 x0 x1 x2 y0 y1 y2)
        | (go_at_call 36; refine (Q2.out _ hB3).mono ?_; rintro _ w4 ⟨rfl, hb4⟩))
      go_ret
      exact ⟨by rw [hRf]; rfl, hB3.trans (hb4.mono hB3.size)⟩

  · have hRf : R = false := by
      rw [hR.out, decide_eq_false_iff_not]
      intro h
      injection h with h1 h2 h3
      exact h_k h2
    have e_k : (k == k') = false := by rw [beq_eq_false_iff_ne]; exact h_k
    clear h_k hR Q1 Q2
    go_enter Try.func26, Try.ntmps26
    go_wp2_with (first
      | ((with_reducible show wpList _ _ _ _ _ _); refine wpList_box_at rfl 45 (.tmp 0) rfl [.slice a n c, .int .i64 k, .slice d m f] rfl ?_; intro w1 hA1 hb1 hs1; clear hs1)
      | ((with_reducible show wpList _ _ _ _ _ _); refine wpList_box_at rfl 45 (.tmp 1) rfl [.slice a' n' c', .int .i64 k', .slice d' m' f'] rfl ?_; intro w2 hA2 hb2 hs2; clear hs2; refine Hid.out ?_))
    refine hidU ?_
    have x0 : w2.cell? ⟨w.heap.size, 0, none⟩ = some (.slice a n c) := by rw [(hA1.below hb2).cell]; rfl
    have y0 : w2.cell? ⟨w1.heap.size, 0, none⟩ = some (.slice a' n' c') := by rw [hA2.cell]; rfl
    have x1 : w2.cell? ⟨w.heap.size, 1, none⟩ = some (.int .i64 k) := by rw [(hA1.below hb2).cell]; rfl
    have y1 : w2.cell? ⟨w1.heap.size, 1, none⟩ = some (.int .i64 k') := by rw [hA2.cell]; rfl
    have x2 : w2.cell? ⟨w.heap.size, 2, none⟩ = some (.slice d m f) := by rw [(hA1.below hb2).cell]; rfl
    have y2 : w2.cell? ⟨w1.heap.size, 2, none⟩ = some (.slice d' m' f') := by rw [hA2.cell]; rfl
    have hB2 : Below w.heap.size w w2 := hb1.trans (hb2.mono hb1.size)
    have HA : Hid (At 45 w2 w.heap.size [.slice a n c, .int .i64 k, .slice d m f] ∧ At 45 w2 w1.heap.size [.slice a' n' c', .int .i64 k', .slice d' m' f']) := ⟨hA1.below hb2, hA2⟩
    clear hA1 hA2 hb1 hb2
    clear HA
    go_wp2
    go_ret
    exact ⟨by rw [hRf]; rfl, hB2⟩

set_option maxRecDepth 100000 in
set_option maxHeartbeats 3200000 in
theorem equal25_any (B : Nat) (xs ys : List BT) (a1 a2 : Option Addr) (c1 c2 : Nat) (w : World) (h1 : RowBT B w a1 c1 xs) (h2 : RowBT B w a2 c2 ys) (hBw : B ≤ w.heap.size) :
    Calls Try.prog 25 #[.slice a1 xs.length c1, .slice a2 ys.length c2, .func (.func 26) #[] #[]] w fun r w' => r = .returned (.bool (decide (xs.map BT.bd = ys.map BT.bd))) ∧ Below w.heap.size w w' := by
  obtain ⟨R, hR⟩ : ∃ R, Hid (R = decide (xs.map BT.bd = ys.map BT.bd)) := ⟨_, (rfl : decide _ = _)⟩
  rw [← hR.out]
  obtain ⟨n, hn⟩ : ∃ n, Hid (n = xs.length) := ⟨_, (rfl : xs.length = _)⟩
  obtain ⟨n2, hn2⟩ : ∃ n, Hid (n = ys.length) := ⟨_, (rfl : ys.length = _)⟩
  have hl1 := h1.1
  have hl2 := h2.1
  have hk1 := h1.2.1
  have hk2 := h2.2.1
  rw [← hn.out] at hl1 hk1 ⊢
  rw [← hn2.out] at hl2 hk2 ⊢
  have HR : Hid (RowBT B w a1 c1 xs ∧ RowBT B w a2 c2 ys) := ⟨h1, h2⟩
  clear h1 h2
  by_cases hnn : n = n2
  · subst hnn
    go_enter Try.func25, Try.ntmps25
    go_wp2_with fail
    go_loopw [17] (fun j wr => ∃ i : Nat, j = .int .i64 (i : Int) ∧ i ≤ n ∧ Hid (Below w.heap.size w wr ∧ ∀ q, q < i → (xs.map BT.bd)[q]? = (ys.map BT.bd)[q]?)) (fun j _ => n - (intOf j).toNat)
    case atStart => exact ⟨0, rfl, by omega, Below.refl _ _, fun q hq => by omega⟩
    case round =>
      obtain ⟨i, rfl, hi, hX⟩ := hrel
      by_cases hc : i < n
      · obtain ⟨x, hx⟩ : ∃ k, xs[i]? = some k := ⟨xs[i]'(by rw [← hn.out]; exact hc), by rw [List.getElem?_eq_getElem]⟩
        obtain ⟨y, hy⟩ : ∃ k, ys[i]? = some k := ⟨ys[i]'(by rw [← hn2.out]; exact hc), by rw [List.getElem?_eq_getElem]⟩
        obtain ⟨hbw, hall⟩ := hX.out
        have hold : Old B w wr := Old.of_below hbw hBw
        obtain ⟨g1, o1, rfl, hg1, hr1, hx1⟩ := (RowBT.old HR.out.1 hold).at i x hx
        obtain ⟨g2, o2, rfl, hg2, hr2, hy1⟩ := (RowBT.old HR.out.2 hold).at i y hy
        have HK : Hid (x.In B wr ∧ y.In B wr ∧ B ≤ wr.heap.size ∧ wr.rangeAt g2 (o2 + i * 3) y.cells) := ⟨hx1, hy1, by have := hbw.size; omega, hr2⟩
        have HXY : Hid ((xs.map BT.bd)[i]? = some x.bd ∧ (ys.map BT.bd)[i]? = some y.bd) := ⟨by rw [List.getElem?_map, hx]; rfl, by rw [List.getElem?_map, hy]; rfl⟩
        have HA : Hid (∀ q, q < i → (xs.map BT.bd)[q]? = (ys.map BT.bd)[q]?) := hall
        have HC : Hid (∀ u, x.In B u → y.In B u → B ≤ u.heap.size → Calls Try.prog 26 #[.agg x.cells.toArray, .agg y.cells.toArray] u fun e w' => e = .returned (.bool (decide (x.bd = y.bd))) ∧ Below u.heap.size u w') := fun u h1 h2 h3 => sameBody_any B x y u h1 h2 h3
        have ho1 := x.one
        have ho2 := y.one
        have hn1 : x.cells.length = 3 := rfl
        have hn3 : y.cells.length = 3 := rfl
        clear hX hx1 hy1 hr2 hold HR hall hx hy
        generalize x.cells = xc at *
        generalize y.cells = yc at *
        go_wp2_with (first
          | ((with_reducible show wpList _ _ _ _ _ _); refine wpList_load_mid (P := Try.prog) rfl 45 (.tmp 20) rfl g1 (o1 + i * 3) (by first | rfl | (simp; done)) xc _ hr1 Try.underlying45 rfl (by rw [hn1]; exact i45) ?_)
          | ((with_reducible show wpList _ _ _ _ _ _); refine wpList_alloc_at rfl 45 rfl _ 3 z45 ?_; intro w2 hA2 hb2 hs2)
          | ((with_reducible show wpList _ _ _ _ _ _); refine wpList_store_at (P := Try.prog) rfl 45 (.tmp 8) (.tmp 21) rfl wr.heap.size xc rfl rfl 45 _ hA2 (by rw [hn1]; exact i45) (by rw [hn1]; rfl) ho1 ?_; intro w3 hA3 hb3 hs3; refine Hid.out ?_))
        refine hidU ?_
        have hB3 : Below wr.heap.size wr w3 := hb3.below hb2 (Nat.le_refl _) (by omega)
        obtain ⟨q1, q2, q3, q4⟩ := HK.out
        have hold3 : Old B wr w3 := Old.of_below hB3 q3
        have hr3 : w3.rangeAt g2 (o2 + i * 3) yc := Old.range hold3 hg2 q4
        have hw3 : Below w.heap.size w w3 := hbw.trans (hB3.mono hbw.size)
        have hA3' := hA3
        clear hb3 hb2 hA2 hr1 hs2 hs3 q4 hA3 HK
        go_wp2_with (first
          | ((with_reducible show wpList _ _ _ _ _ _); refine wpList_load_mid (P := Try.prog) rfl 45 (.tmp 24) rfl g2 (o2 + i * 3) (by first | rfl | (simp; done)) yc _ hr3 Try.underlying45 rfl (by rw [hn3]; exact i45) ?_)
          | ((with_reducible show wpList _ _ _ _ _ _); refine wpList_alloc_at rfl 45 rfl _ 3 z45 ?_; intro w4 hA4 hb4 hs4)
          | ((with_reducible show wpList _ _ _ _ _ _); refine wpList_store_at (P := Try.prog) rfl 45 (.tmp 9) (.tmp 25) rfl w3.heap.size yc rfl rfl 45 _ hA4 (by rw [hn3]; exact i45) (by rw [hn3]; rfl) ho2 ?_; intro w5 hA5 hb5 hs5; refine Hid.out ?_))
        refine hidU ?_
        have hB5 : Below w3.heap.size w3 w5 := hb5.below hb4 (Nat.le_refl _) (by omega)
        have hA35 := hA3'.below hB5
        have hw5 : Below w.heap.size w w5 := hw3.trans (hB5.mono hw3.size)
        have hold5 : Old B wr w5 := hold3.trans (Old.of_below hB5 (by have := hB3.size; omega))
        have hI := HC.out w5 (q1.old hold5) (q2.old hold5) (by have := hw5.size; omega)
        clear hb5 hb4 hA4 hr3 hs4 hs5 hA3' q1 q2 hold3 hold5 HC
        go_wp2_with (first
          | ((with_reducible show wpList _ _ _ _ _ _); refine wpList_load_at (P := Try.prog) rfl 45 (.tmp 8) rfl wr.heap.size rfl 45 xc hA35 _ Try.underlying45 rfl (by rw [hn1]; exact i45) ?_)
          | ((with_reducible show wpList _ _ _ _ _ _); refine wpList_load_at (P := Try.prog) rfl 45 (.tmp 9) rfl w3.heap.size rfl 45 yc hA5 _ Try.underlying45 rfl (by rw [hn3]; exact i45) ?_))
        refine hI.mono ?_
        rintro r w6 ⟨rfl, hb6⟩
        have hw6 : Below w.heap.size w w6 := hw5.trans (hb6.mono hw5.size)
        clear hI hb6 hw5 hw3 hB3 hB5 hA35 hA5
        cases hM : decide (x.bd = y.bd) with
        | false =>
          have hRf : R = false := by
            rw [hR.out, decide_eq_false_iff_not]
            intro h
            have h1 := HXY.out.1
            rw [h, HXY.out.2] at h1
            exact of_decide_eq_false hM (Option.some.inj h1).symm
          clear hM HXY
          go_wp2
          go_ret
          exact ⟨by rw [hRf]; rfl, hw6⟩
        | true =>
          have HM : Hid ((xs.map BT.bd)[i]? = (ys.map BT.bd)[i]?) := by show _ = _; rw [HXY.out.1, HXY.out.2, of_decide_eq_true hM]
          clear hM HXY
          go_wp2
          go_roundw
          case rel =>
            refine ⟨i + 1, by go_num, by omega, hw6, fun q hq => ?_⟩
            by_cases hqi : q = i
            · subst hqi
              exact HM.out
            · exact HA.out q (by omega)
          case measure => simp [intOf]; omega
      · have hin : i = n := by omega
        obtain ⟨hbw, hall⟩ := hX.out
        have hRt : R = true := by
          rw [hR.out, decide_eq_true_iff]
          exact list_ext (n := n) (by rw [List.length_map]; exact hn.out.symm) (by rw [List.length_map]; exact hn2.out.symm) (fun q hq => hall q (by omega))
        clear hX hall hin HR
        go_wp2
        go_ret
        exact ⟨by rw [hRt]; rfl, hbw⟩
  · have hne : ((n : Int) == (n2 : Int)) = false := by rw [beq_eq_false_iff_ne]; omega
    have hRf : R = false := by
      rw [hR.out, decide_eq_false_iff_not]
      intro h
      have := congrArg List.length h
      rw [List.length_map, List.length_map] at this
      exact hnn (by rw [hn.out, hn2.out, this])
    clear hnn
    go_enter Try.func25, Try.ntmps25
    go_wp2_with fail
    go_ret
    exact ⟨by rw [hRf]; rfl, Below.refl _ _⟩

set_option maxRecDepth 100000 in
set_option maxHeartbeats 3200000 in
theorem sameC_any (B : Nat) (x y : CT) (w : World) (hx : x.In B w) (hy : y.In B w) (hBw : B ≤ w.heap.size) :
    Calls Try.prog 9 #[.agg x.cells.toArray, .agg y.cells.toArray] w fun e w' => e = .returned (.bool (decide (x.cd = y.cd))) ∧ Below w.heap.size w w' := by
  have Q1 : Hid (∀ u, Below w.heap.size w u → Calls Try.prog 24 #[.slice x.a1 x.shared.length x.c1, .slice y.a1 y.shared.length y.c1] u fun e w' => e = .returned (.bool (decide (x.shared = y.shared))) ∧ Below u.heap.size u w') := fun u hu => equal24_any B _ _ _ _ _ _ u (RowVl.old hx.1 (Old.of_below hu hBw)) (RowVl.old hy.1 (Old.of_below hu hBw)) (by have := hu.size; omega)
  have Q2 : Hid (∀ u, Below w.heap.size w u → Calls Try.prog 25 #[.slice x.a2 x.bodies.length x.c2, .slice y.a2 y.bodies.length y.c2, .func (.func 26) #[] #[]] u fun e w' => e = .returned (.bool (decide (x.bodies.map BT.bd = y.bodies.map BT.bd))) ∧ Below u.heap.size u w') := fun u hu => equal25_any B _ _ _ _ _ _ u (RowBT.old hx.2.2 (Old.of_below hu hBw)) (RowBT.old hy.2.2 (Old.of_below hu hBw)) (by have := hu.size; omega)
  clear hx hy
  obtain ⟨R, hR⟩ : ∃ R, Hid (R = decide (x.cd = y.cd)) := ⟨_, (rfl : decide _ = _)⟩
  rw [← hR.out]
  obtain ⟨a, c, ls, k, d, f, zs⟩ := x
  obtain ⟨a', c', ls', k', d', f', zs'⟩ := y
  simp only [CT.cells] at Q1 Q2 ⊢
  obtain ⟨b1, hb1⟩ : ∃ b, Hid (b = decide (ls = ls')) := ⟨_, (rfl : decide _ = _)⟩
  rw [← hb1.out] at Q1
  obtain ⟨b2, hb2⟩ : ∃ b, Hid (b = decide (zs.map BT.bd = zs'.map BT.bd)) := ⟨_, (rfl : decide _ = _)⟩
  rw [← hb2.out] at Q2
  generalize ls.length = n at *
  generalize ls'.length = n' at *
  generalize zs.length = m at *
  generalize zs'.length = m' at *
  by_cases h_k : k = k'
  · subst h_k
    cases b1 with
    | false =>
      have hRf : R = false := by
        rw [hR.out, decide_eq_false_iff_not]
        intro h
        injection h with h1 h2 h3
        have := hb1.out
        rw [decide_eq_true h1] at this
        cases this
      clear hR Q2 hb1
      go_enter Try.func9, Try.ntmps9
      go_wp2_with (first
        | ((with_reducible show wpList _ _ _ _ _ _); refine wpList_box_at rfl 25 (.tmp 0) rfl [.slice a n c, .int .i64 k, .slice d m f] rfl ?_; intro w1 hA1 hb1 hs1; clear hs1)
        | ((with_reducible show wpList _ _ _ _ _ _); refine wpList_box_at rfl 25 (.tmp 1) rfl [.slice a' n' c', .int .i64 k, .slice d' m' f'] rfl ?_; intro w2 hA2 hb2 hs2; clear hs2; refine Hid.out ?_))
      refine hidU ?_
      have x0 : w2.cell? ⟨w.heap.size, 0, none⟩ = some (.slice a n c) := by rw [(hA1.below hb2).cell]; rfl
      have y0 : w2.cell? ⟨w1.heap.size, 0, none⟩ = some (.slice a' n' c') := by rw [hA2.cell]; rfl
      have x1 : w2.cell? ⟨w.heap.size, 1, none⟩ = some (.int .i64 k) := by rw [(hA1.below hb2).cell]; rfl
      have y1 : w2.cell? ⟨w1.heap.size, 1, none⟩ = some (.int .i64 k) := by rw [hA2.cell]; rfl
      have x2 : w2.cell? ⟨w.heap.size, 2, none⟩ = some (.slice d m f) := by rw [(hA1.below hb2).cell]; rfl
      have y2 : w2.cell? ⟨w1.heap.size, 2, none⟩ = some (.slice d' m' f') := by rw [hA2.cell]; rfl
      have hB2 : Below w.heap.size w w2 := hb1.trans (hb2.mono hb1.size)
      have HA : Hid (At 25 w2 w.heap.size [.slice a n c, .int .i64 k, .slice d m f] ∧ At 25 w2 w1.heap.size [.slice a' n' c', .int .i64 k, .slice d' m' f']) := ⟨hA1.below hb2, hA2⟩
      clear hA1 hA2 hb1 hb2
      clear HA
      go_wp2_with (first
        | (go_at_call 24; refine (Q1.out _ hB2).mono ?_; rintro _ w3 ⟨rfl, hb3⟩))
      go_ret
      exact ⟨by rw [hRf]; rfl, hB2.trans (hb3.mono hB2.size)⟩

    | true =>
      have hRf : R = b2 := by
        have e1 := of_decide_eq_true hb1.out.symm
        rw [hR.out, hb2.out]
        refine decide_eq_decide.2 ⟨fun h => ?_, fun h => ?_⟩
        · injection h with h1 h2 h3
        · show (⟨ls, k, zs.map BT.bd⟩ : Cd) = ⟨ls', k, zs'.map BT.bd⟩
          rw [e1, h]
      clear hR hb1
      go_enter Try.func9, Try.ntmps9
      go_wp2_with (first
        | ((with_reducible show wpList _ _ _ _ _ _); refine wpList_box_at rfl 25 (.tmp 0) rfl [.slice a n c, .int .i64 k, .slice d m f] rfl ?_; intro w1 hA1 hb1 hs1; clear hs1)
        | ((with_reducible show wpList _ _ _ _ _ _); refine wpList_box_at rfl 25 (.tmp 1) rfl [.slice a' n' c', .int .i64 k, .slice d' m' f'] rfl ?_; intro w2 hA2 hb2 hs2; clear hs2; refine Hid.out ?_))
      refine hidU ?_
      have x0 : w2.cell? ⟨w.heap.size, 0, none⟩ = some (.slice a n c) := by rw [(hA1.below hb2).cell]; rfl
      have y0 : w2.cell? ⟨w1.heap.size, 0, none⟩ = some (.slice a' n' c') := by rw [hA2.cell]; rfl
      have x1 : w2.cell? ⟨w.heap.size, 1, none⟩ = some (.int .i64 k) := by rw [(hA1.below hb2).cell]; rfl
      have y1 : w2.cell? ⟨w1.heap.size, 1, none⟩ = some (.int .i64 k) := by rw [hA2.cell]; rfl
      have x2 : w2.cell? ⟨w.heap.size, 2, none⟩ = some (.slice d m f) := by rw [(hA1.below hb2).cell]; rfl
      have y2 : w2.cell? ⟨w1.heap.size, 2, none⟩ = some (.slice d' m' f') := by rw [hA2.cell]; rfl
      have hB2 : Below w.heap.size w w2 := hb1.trans (hb2.mono hb1.size)
      have HA : Hid (At 25 w2 w.heap.size [.slice a n c, .int .i64 k, .slice d m f] ∧ At 25 w2 w1.heap.size [.slice a' n' c', .int .i64 k, .slice d' m' f']) := ⟨hA1.below hb2, hA2⟩
      clear hA1 hA2 hb1 hb2
      go_wp2_with (first
        | (go_at_call 24; refine (Q1.out _ hB2).mono ?_; rintro _ w3 ⟨rfl, hb3⟩; have p2 : w3.cell? ⟨w.heap.size, 2, none⟩ = some (.slice d m f) := (by rw [(HA.out.1.below hb3).cell]; rfl); have p3 : w3.cell? ⟨w1.heap.size, 2, none⟩ = some (.slice d' m' f') := (by rw [(HA.out.2.below hb3).cell]; rfl); have hB3 := hB2.trans (hb3.mono hB2.size); clear hb3 x0 x1 x2 y0 y1 y2)
        | (go_at_call 25; refine (Q2.out _ hB3).mono ?_; rintro _ w4 ⟨rfl, hb4⟩))
      go_ret
      exact ⟨by rw [hRf]; rfl, hB3.trans (hb4.mono hB3.size)⟩

  · have hRf : R = false := by
      rw [hR.out, decide_eq_false_iff_not]
      intro h
      injection h with h1 h2 h3
      exact h_k h2
    have e_k : (k == k') = false := by rw [beq_eq_false_iff_ne]; exact h_k
    clear h_k hR Q1 Q2
    go_enter Try.func9, Try.ntmps9
    go_wp2_with (first
      | ((with_reducible show wpList _ _ _ _ _ _); refine wpList_box_at rfl 25 (.tmp 0) rfl [.slice a n c, .int .i64 k, .slice d m f] rfl ?_; intro w1 hA1 hb1 hs1; clear hs1)
      | ((with_reducible show wpList _ _ _ _ _ _); refine wpList_box_at rfl 25 (.tmp 1) rfl [.slice a' n' c', .int .i64 k', .slice d' m' f'] rfl ?_; intro w2 hA2 hb2 hs2; clear hs2; refine Hid.out ?_))
    refine hidU ?_
    have x0 : w2.cell? ⟨w.heap.size, 0, none⟩ = some (.slice a n c) := by rw [(hA1.below hb2).cell]; rfl
    have y0 : w2.cell? ⟨w1.heap.size, 0, none⟩ = some (.slice a' n' c') := by rw [hA2.cell]; rfl
    have x1 : w2.cell? ⟨w.heap.size, 1, none⟩ = some (.int .i64 k) := by rw [(hA1.below hb2).cell]; rfl
    have y1 : w2.cell? ⟨w1.heap.size, 1, none⟩ = some (.int .i64 k') := by rw [hA2.cell]; rfl
    have x2 : w2.cell? ⟨w.heap.size, 2, none⟩ = some (.slice d m f) := by rw [(hA1.below hb2).cell]; rfl
    have y2 : w2.cell? ⟨w1.heap.size, 2, none⟩ = some (.slice d' m' f') := by rw [hA2.cell]; rfl
    have hB2 : Below w.heap.size w w2 := hb1.trans (hb2.mono hb1.size)
    have HA : Hid (At 25 w2 w.heap.size [.slice a n c, .int .i64 k, .slice d m f] ∧ At 25 w2 w1.heap.size [.slice a' n' c', .int .i64 k', .slice d' m' f']) := ⟨hA1.below hb2, hA2⟩
    clear hA1 hA2 hb1 hb2
    clear HA
    go_wp2
    go_ret
    exact ⟨by rw [hRf]; rfl, hB2⟩

end Go.Proofs.Ytefklmckkigllaa
