/- The kit's SameValues and SameNode. -/
import Derived.Test.YtefklmckkigllaaJ9
namespace Go.Proofs.Ytefklmckkigllaa
open Go.RowKit
set_option linter.unusedVariables false

set_option maxRecDepth 100000 in
set_option maxHeartbeats 3200000 in
theorem equal27_any (B : Nat) (xs ys : List Vl) (a1 a2 : Option Addr) (c1 c2 : Nat) (w : World) (h1 : RowVl B w a1 c1 xs) (h2 : RowVl B w a2 c2 ys) (hBw : B ≤ w.heap.size) :
    Calls Try.prog 27 #[.slice a1 xs.length c1, .slice a2 ys.length c2] w fun r w' => r = .returned (.bool (decide (xs = ys))) ∧ Below w.heap.size w w' := by
  obtain ⟨R, hR⟩ : ∃ R, Hid (R = decide (xs = ys)) := ⟨_, (rfl : decide (xs = ys) = _)⟩
  rw [← hR.out]
  obtain ⟨n, hn⟩ : ∃ n, Hid (n = xs.length) := ⟨_, (rfl : xs.length = _)⟩
  obtain ⟨n2, hn2⟩ : ∃ n, Hid (n = ys.length) := ⟨_, (rfl : ys.length = _)⟩
  have hl1 := h1.1
  have hl2 := h2.1
  have hk1 := h1.2.1
  have hk2 := h2.2.1
  rw [← hn.out] at hl1 hk1 ⊢
  rw [← hn2.out] at hl2 hk2 ⊢
  have HR : Hid (RowVl B w a1 c1 xs ∧ RowVl B w a2 c2 ys) := ⟨h1, h2⟩
  clear h1 h2
  by_cases hnn : n = n2
  · subst hnn
    go_enter Try.func27, Try.ntmps27
    go_wp2_with fail
    go_loopw [5] (fun j wr => ∃ i : Nat, j = .int .i64 (i : Int) ∧ i ≤ n ∧ Hid (Below w.heap.size w wr ∧ ∀ q, q < i → xs[q]? = ys[q]?)) (fun j _ => n - (intOf j).toNat)
    case atStart => exact ⟨0, rfl, by omega, Below.refl _ _, fun q hq => by omega⟩
    case round =>
      obtain ⟨i, rfl, hi, hX⟩ := hrel
      by_cases hc : i < n
      · obtain ⟨x, hx⟩ : ∃ k, xs[i]? = some k := ⟨xs[i]'(by rw [← hn.out]; exact hc), by rw [List.getElem?_eq_getElem]⟩
        obtain ⟨y, hy⟩ : ∃ k, ys[i]? = some k := ⟨ys[i]'(by rw [← hn2.out]; exact hc), by rw [List.getElem?_eq_getElem]⟩
        obtain ⟨hbw, hall⟩ := hX.out
        have hold : Old B w wr := Old.of_below hbw hBw
        obtain ⟨g1, o1, rfl, hg1, hr1, hi1⟩ := (RowG.imp HR.out.1 hold (Q := fun _ => True) (fun _ _ => trivial)).at i x hx
        obtain ⟨g2, o2, rfl, hg2, hr2, hi2⟩ := (RowG.imp HR.out.2 hold (Q := fun _ => True) (fun _ _ => trivial)).at i y hy
        obtain ⟨t, b⟩ := x
        obtain ⟨t', b'⟩ := y
        have x0 : wr.cell? ⟨g1, o1 + i * 2, none⟩ = some (.int .u8 (t : Int)) := by have := hr1 0 _ rfl; simpa using this
        have x1 : wr.cell? ⟨g1, o1 + i * 2 + 1, none⟩ = some (.int .u64 (b : Int)) := by have := hr1 1 _ rfl; simpa using this
        have y0 : wr.cell? ⟨g2, o2 + i * 2, none⟩ = some (.int .u8 (t' : Int)) := by have := hr2 0 _ rfl; simpa using this
        have y1 : wr.cell? ⟨g2, o2 + i * 2 + 1, none⟩ = some (.int .u64 (b' : Int)) := by have := hr2 1 _ rfl; simpa using this
        have hq := eqVl t b t' b'
        clear hr1 hr2 hi1 hi2
        have HA : Hid (∀ q, q < i → xs[q]? = ys[q]?) := hall
        have HXY : Hid (xs[i]? = some ⟨t, b⟩ ∧ ys[i]? = some ⟨t', b'⟩) := ⟨hx, hy⟩
        clear hX hold hall HR hx hy
        cases hM : decide ((⟨t, b⟩ : Vl) = ⟨t', b'⟩) with
        | false =>
          have hRf : R = false := by
            rw [hR.out, decide_eq_false_iff_not]
            intro h
            have h1 := HXY.out.1
            rw [h, HXY.out.2] at h1
            exact of_decide_eq_false hM (Option.some.inj h1).symm
          have hq' : ∀ u, (Op.equalIn 10000 35 (.agg #[.int .u8 (t : Int), .int .u64 (b : Int)]) (.agg #[.int .u8 (t' : Int), .int .u64 (b' : Int)])).run Try.prog u = .ok false u := fun u => by rw [hq, hM]
          clear hq hM HXY
          go_wp2_with fail
          go_quiet (fail)
          go_wp2_with fail
          go_ret
          exact ⟨by rw [hRf]; rfl, below_drN hbw _⟩
        | true =>
          have HM : Hid (xs[i]? = ys[i]?) := by show _ = _; rw [HXY.out.1, HXY.out.2, of_decide_eq_true hM]
          have hq' : ∀ u, (Op.equalIn 10000 35 (.agg #[.int .u8 (t : Int), .int .u64 (b : Int)]) (.agg #[.int .u8 (t' : Int), .int .u64 (b' : Int)])).run Try.prog u = .ok true u := fun u => by rw [hq, hM]
          clear hq hM HXY
          go_wp2_with fail
          go_quiet (fail)
          go_wp2_with fail
          go_roundw
          case rel =>
            refine ⟨i + 1, by go_num, by omega, below_drN hbw _, fun q hq => ?_⟩
            by_cases hqi : q = i
            · subst hqi
              exact HM.out
            · exact HA.out q (by omega)
          case measure => simp [intOf]; omega
      · have hin : i = n := by omega
        obtain ⟨hbw, hall⟩ := hX.out
        have hRt : R = true := by
          rw [hR.out, decide_eq_true_iff]
          exact list_ext hn.out.symm hn2.out.symm (fun q hq => hall q (by omega))
        clear hX hall hin HR
        go_wp2
        go_ret
        exact ⟨by rw [hRt]; rfl, hbw⟩
  · have hne : ((n : Int) == (n2 : Int)) = false := by rw [beq_eq_false_iff_ne]; omega
    have hRf : R = false := by
      rw [hR.out, decide_eq_false_iff_not]
      intro h
      exact hnn (by rw [hn.out, hn2.out, h])
    clear hnn
    go_enter Try.func27, Try.ntmps27
    go_wp2_with fail
    go_ret
    exact ⟨by rw [hRf]; rfl, Below.refl _ _⟩

set_option maxRecDepth 100000 in
set_option maxHeartbeats 6400000 in
theorem kitNode_any (B : Nat) (x y : NT) (w : World) (hx : x.In B w) (hy : y.In B w) (hBw : B ≤ w.heap.size) :
    Calls Try.prog 28 #[.agg x.cells.toArray, .agg y.cells.toArray] w fun e w' => e = .returned (.bool (decide (x.nd = y.nd))) ∧ Below w.heap.size w w' := by
  have h1 := hx.1
  have h2 := hy.1
  clear hx hy
  obtain ⟨a, c, ⟨cs, k, r, e, l⟩⟩ := x
  obtain ⟨a', c', ⟨cs', k', r', e', l'⟩⟩ := y
  dsimp only at h1 h2
  simp only [NT.cells]
  obtain ⟨R, hR⟩ : ∃ R, Hid (R = decide ((⟨cs, k, r, e, l⟩ : Nd) = ⟨cs', k', r', e', l'⟩)) := ⟨_, (rfl : decide _ = _)⟩
  rw [← hR.out]
  obtain ⟨n, hn⟩ : ∃ n, Hid (n = cs.length) := ⟨_, (rfl : cs.length = _)⟩
  obtain ⟨n', hn2⟩ : ∃ n, Hid (n = cs'.length) := ⟨_, (rfl : cs'.length = _)⟩
  have hl1 := h1.1
  have hl2 := h2.1
  have hk1 := h1.2.1
  have hk2 := h2.2.1
  rw [← hn.out] at hl1 hk1 ⊢
  rw [← hn2.out] at hl2 hk2 ⊢
  have HR : Hid (RowIr B w a c cs ∧ RowIr B w a' c' cs') := ⟨h1, h2⟩
  clear h1 h2
  by_cases h_k : k = k'
  · subst h_k
    by_cases h_r : r = r'
    · subst h_r
      by_cases h_e : e = e'
      · subst h_e
        by_cases h_l : l = l'
        · subst h_l
          by_cases hnn : n = n'
          · subst hnn
            have HRd : Hid (R = decide (cs = cs')) := by
              show _ = _
              rw [hR.out]
              simp
            clear hR
            go_enter Try.func28, Try.ntmps28
            go_wp2_with (first
              | ((with_reducible show wpList _ _ _ _ _ _); refine wpList_box_at rfl 49 (.tmp 0) rfl [.slice a n c, .int .i64 k, .int .i64 r, .int .i64 e, .int .i64 l] rfl ?_; intro w1 hA1 hb1 hs1; clear hs1)
              | ((with_reducible show wpList _ _ _ _ _ _); refine wpList_box_at rfl 49 (.tmp 1) rfl [.slice a' n c', .int .i64 k, .int .i64 r, .int .i64 e, .int .i64 l] rfl ?_; intro w2 hA2 hb2 hs2; clear hs2; refine Hid.out ?_))
            refine hidU ?_
            have x0 : w2.cell? ⟨w.heap.size, 0, none⟩ = some (.slice a n c) := by rw [(hA1.below hb2).cell]; rfl
            have y0 : w2.cell? ⟨w1.heap.size, 0, none⟩ = some (.slice a' n c') := by rw [hA2.cell]; rfl
            have x1 : w2.cell? ⟨w.heap.size, 1, none⟩ = some (.int .i64 k) := by rw [(hA1.below hb2).cell]; rfl
            have y1 : w2.cell? ⟨w1.heap.size, 1, none⟩ = some (.int .i64 k) := by rw [hA2.cell]; rfl
            have x2 : w2.cell? ⟨w.heap.size, 2, none⟩ = some (.int .i64 r) := by rw [(hA1.below hb2).cell]; rfl
            have y2 : w2.cell? ⟨w1.heap.size, 2, none⟩ = some (.int .i64 r) := by rw [hA2.cell]; rfl
            have x3 : w2.cell? ⟨w.heap.size, 3, none⟩ = some (.int .i64 e) := by rw [(hA1.below hb2).cell]; rfl
            have y3 : w2.cell? ⟨w1.heap.size, 3, none⟩ = some (.int .i64 e) := by rw [hA2.cell]; rfl
            have x4 : w2.cell? ⟨w.heap.size, 4, none⟩ = some (.int .i64 l) := by rw [(hA1.below hb2).cell]; rfl
            have y4 : w2.cell? ⟨w1.heap.size, 4, none⟩ = some (.int .i64 l) := by rw [hA2.cell]; rfl
            have hB2 : Below w.heap.size w w2 := hb1.trans (hb2.mono hb1.size)
            have HA : Hid (At 49 w2 w.heap.size [.slice a n c, .int .i64 k, .int .i64 r, .int .i64 e, .int .i64 l] ∧ At 49 w2 w1.heap.size [.slice a' n c', .int .i64 k, .int .i64 r, .int .i64 e, .int .i64 l]) := ⟨hA1.below hb2, hA2⟩
            clear hA1 hA2 hb1 hb2

            go_wp2_with fail
            go_loopw [5] (fun j wr => ∃ i : Nat, j = .int .i64 (i : Int) ∧ i ≤ n ∧ Hid (Below w2.heap.size w2 wr ∧ ∀ q, q < i → cs[q]? = cs'[q]?)) (fun j _ => n - (intOf j).toNat)
            case atStart => exact ⟨0, rfl, by omega, Below.refl _ _, fun q hq => by omega⟩
            case round =>
              obtain ⟨i, rfl, hi, hX⟩ := hrel
              obtain ⟨hbw, hall⟩ := hX.out
              have u0 : wr.cell? ⟨w.heap.size, 0, none⟩ = some (.slice a n c) := by rw [(HA.out.1.below hbw).cell]; rfl
              have v0 : wr.cell? ⟨w1.heap.size, 0, none⟩ = some (.slice a' n c') := by rw [(HA.out.2.below hbw).cell]; rfl
              by_cases hc : i < n
              · obtain ⟨x, hx⟩ : ∃ k, cs[i]? = some k := ⟨cs[i]'(by rw [← hn.out]; exact hc), by rw [List.getElem?_eq_getElem]⟩
                obtain ⟨y, hy⟩ : ∃ k, cs'[i]? = some k := ⟨cs'[i]'(by rw [← hn2.out]; exact hc), by rw [List.getElem?_eq_getElem]⟩
                have hbw0 : Below w.heap.size w wr := hB2.trans (hbw.mono hB2.size)
                have hold : Old B w wr := Old.of_below hbw0 hBw
                obtain ⟨g1, o1, rfl, hg1, hr1, hi1⟩ := (RowG.imp HR.out.1 hold (Q := fun _ => True) (fun _ _ => trivial)).at i x hx
                obtain ⟨g2, o2, rfl, hg2, hr2, hi2⟩ := (RowG.imp HR.out.2 hold (Q := fun _ => True) (fun _ _ => trivial)).at i y hy
                obtain ⟨p, z, ⟨t, b⟩⟩ := x
                obtain ⟨p', z', ⟨t', b'⟩⟩ := y
                clear x0 x1 x2 x3 x4 y0 y1 y2 y3 y4
                have x0 : wr.cell? ⟨g1, o1 + i * 4, none⟩ = some (.int .u8 (p : Int)) := by have := hr1 0 _ rfl; simpa using this
                have x1 : wr.cell? ⟨g1, o1 + i * 4 + 1, none⟩ = some (.int .i64 z) := by have := hr1 1 _ rfl; simpa using this
                have x2 : wr.cell? ⟨g1, o1 + i * 4 + 2, none⟩ = some (.int .u8 (t : Int)) := by have := hr1 2 _ rfl; simpa using this
                have x3 : wr.cell? ⟨g1, o1 + i * 4 + 3, none⟩ = some (.int .u64 (b : Int)) := by have := hr1 3 _ rfl; simpa using this
                have y0 : wr.cell? ⟨g2, o2 + i * 4, none⟩ = some (.int .u8 (p' : Int)) := by have := hr2 0 _ rfl; simpa using this
                have y1 : wr.cell? ⟨g2, o2 + i * 4 + 1, none⟩ = some (.int .i64 z') := by have := hr2 1 _ rfl; simpa using this
                have y2 : wr.cell? ⟨g2, o2 + i * 4 + 2, none⟩ = some (.int .u8 (t' : Int)) := by have := hr2 2 _ rfl; simpa using this
                have y3 : wr.cell? ⟨g2, o2 + i * 4 + 3, none⟩ = some (.int .u64 (b' : Int)) := by have := hr2 3 _ rfl; simpa using this
                have hq := eqIr p z t b p' z' t' b'
                clear hr1 hr2 hi1 hi2
                have HAl : Hid (∀ q, q < i → cs[q]? = cs'[q]?) := hall
                have HXY : Hid (cs[i]? = some ⟨p, z, ⟨t, b⟩⟩ ∧ cs'[i]? = some ⟨p', z', ⟨t', b'⟩⟩) := ⟨hx, hy⟩
                clear hX hold hall HR hx hy HA
                cases hM : decide ((⟨p, z, ⟨t, b⟩⟩ : Ir) = ⟨p', z', ⟨t', b'⟩⟩) with
                | false =>
                  have hRf : R = false := by
                    rw [HRd.out, decide_eq_false_iff_not]
                    intro h
                    have h1 := HXY.out.1
                    rw [h, HXY.out.2] at h1
                    exact of_decide_eq_false hM (Option.some.inj h1).symm
                  have hq' : ∀ u, (Op.equalIn 10000 37 (.agg #[.int .u8 (p : Int), .int .i64 z, .int .u8 (t : Int), .int .u64 (b : Int)]) (.agg #[.int .u8 (p' : Int), .int .i64 z', .int .u8 (t' : Int), .int .u64 (b' : Int)])).run Try.prog u = .ok false u := fun u => by rw [hq, hM]
                  clear hq hM HXY
                  go_wp2_with fail
                  go_quiet (fail)
                  go_wp2_with fail
                  go_ret
                  exact ⟨by rw [hRf]; rfl, below_drN hbw0 _⟩
                | true =>
                  have HM : Hid (cs[i]? = cs'[i]?) := by show _ = _; rw [HXY.out.1, HXY.out.2, of_decide_eq_true hM]
                  have hq' : ∀ u, (Op.equalIn 10000 37 (.agg #[.int .u8 (p : Int), .int .i64 z, .int .u8 (t : Int), .int .u64 (b : Int)]) (.agg #[.int .u8 (p' : Int), .int .i64 z', .int .u8 (t' : Int), .int .u64 (b' : Int)])).run Try.prog u = .ok true u := fun u => by rw [hq, hM]
                  clear hq hM HXY
                  go_wp2_with fail
                  go_quiet (fail)
                  go_wp2_with fail
                  go_roundw
                  case rel =>
                    refine ⟨i + 1, by go_num, by omega, below_drN hbw _, fun q hq => ?_⟩
                    by_cases hqi : q = i
                    · subst hqi
                      exact HM.out
                    · exact HAl.out q (by omega)
                  case measure => simp [intOf]; omega
              · have hin : i = n := by omega
                have hRt : R = true := by
                  rw [HRd.out, decide_eq_true_iff]
                  exact list_ext (n := n) hn.out.symm hn2.out.symm (fun q hq => hall q (by omega))
                have hbw0 : Below w.heap.size w wr := hB2.trans (hbw.mono hB2.size)
                clear hX hall hin HR HA x0 x1 x2 x3 x4 y0 y1 y2 y3 y4
                go_wp2
                go_ret
                exact ⟨by rw [hRt]; rfl, hbw0⟩
          · have hne : ((n : Int) != (n' : Int)) = true := by rw [bne_iff_ne]; omega
            have hRf : R = false := by
              rw [hR.out, decide_eq_false_iff_not]
              intro h
              cases h
              exact hnn (hn.out.trans hn2.out.symm)
            clear hnn hR HR
            go_enter Try.func28, Try.ntmps28
            go_wp2_with (first
              | ((with_reducible show wpList _ _ _ _ _ _); refine wpList_box_at rfl 49 (.tmp 0) rfl [.slice a n c, .int .i64 k, .int .i64 r, .int .i64 e, .int .i64 l] rfl ?_; intro w1 hA1 hb1 hs1; clear hs1)
              | ((with_reducible show wpList _ _ _ _ _ _); refine wpList_box_at rfl 49 (.tmp 1) rfl [.slice a' n' c', .int .i64 k, .int .i64 r, .int .i64 e, .int .i64 l] rfl ?_; intro w2 hA2 hb2 hs2; clear hs2; refine Hid.out ?_))
            refine hidU ?_
            have x0 : w2.cell? ⟨w.heap.size, 0, none⟩ = some (.slice a n c) := by rw [(hA1.below hb2).cell]; rfl
            have y0 : w2.cell? ⟨w1.heap.size, 0, none⟩ = some (.slice a' n' c') := by rw [hA2.cell]; rfl
            have x1 : w2.cell? ⟨w.heap.size, 1, none⟩ = some (.int .i64 k) := by rw [(hA1.below hb2).cell]; rfl
            have y1 : w2.cell? ⟨w1.heap.size, 1, none⟩ = some (.int .i64 k) := by rw [hA2.cell]; rfl
            have x2 : w2.cell? ⟨w.heap.size, 2, none⟩ = some (.int .i64 r) := by rw [(hA1.below hb2).cell]; rfl
            have y2 : w2.cell? ⟨w1.heap.size, 2, none⟩ = some (.int .i64 r) := by rw [hA2.cell]; rfl
            have x3 : w2.cell? ⟨w.heap.size, 3, none⟩ = some (.int .i64 e) := by rw [(hA1.below hb2).cell]; rfl
            have y3 : w2.cell? ⟨w1.heap.size, 3, none⟩ = some (.int .i64 e) := by rw [hA2.cell]; rfl
            have x4 : w2.cell? ⟨w.heap.size, 4, none⟩ = some (.int .i64 l) := by rw [(hA1.below hb2).cell]; rfl
            have y4 : w2.cell? ⟨w1.heap.size, 4, none⟩ = some (.int .i64 l) := by rw [hA2.cell]; rfl
            have hB2 : Below w.heap.size w w2 := hb1.trans (hb2.mono hb1.size)
            have HA : Hid (At 49 w2 w.heap.size [.slice a n c, .int .i64 k, .int .i64 r, .int .i64 e, .int .i64 l] ∧ At 49 w2 w1.heap.size [.slice a' n' c', .int .i64 k, .int .i64 r, .int .i64 e, .int .i64 l]) := ⟨hA1.below hb2, hA2⟩
            clear hA1 hA2 hb1 hb2

            clear HA
            go_wp2
            go_ret
            exact ⟨by rw [hRf]; rfl, hB2⟩

        · have hRf : R = false := by
            rw [hR.out, decide_eq_false_iff_not]
            intro h
            cases h
            exact h_l rfl
          have e_l : (l != l') = true := by rw [bne_iff_ne]; exact h_l
          clear h_l hR
          go_enter Try.func28, Try.ntmps28
          go_wp2_with (first
            | ((with_reducible show wpList _ _ _ _ _ _); refine wpList_box_at rfl 49 (.tmp 0) rfl [.slice a n c, .int .i64 k, .int .i64 r, .int .i64 e, .int .i64 l] rfl ?_; intro w1 hA1 hb1 hs1; clear hs1)
            | ((with_reducible show wpList _ _ _ _ _ _); refine wpList_box_at rfl 49 (.tmp 1) rfl [.slice a' n' c', .int .i64 k, .int .i64 r, .int .i64 e, .int .i64 l'] rfl ?_; intro w2 hA2 hb2 hs2; clear hs2; refine Hid.out ?_))
          refine hidU ?_
          have x0 : w2.cell? ⟨w.heap.size, 0, none⟩ = some (.slice a n c) := by rw [(hA1.below hb2).cell]; rfl
          have y0 : w2.cell? ⟨w1.heap.size, 0, none⟩ = some (.slice a' n' c') := by rw [hA2.cell]; rfl
          have x1 : w2.cell? ⟨w.heap.size, 1, none⟩ = some (.int .i64 k) := by rw [(hA1.below hb2).cell]; rfl
          have y1 : w2.cell? ⟨w1.heap.size, 1, none⟩ = some (.int .i64 k) := by rw [hA2.cell]; rfl
          have x2 : w2.cell? ⟨w.heap.size, 2, none⟩ = some (.int .i64 r) := by rw [(hA1.below hb2).cell]; rfl
          have y2 : w2.cell? ⟨w1.heap.size, 2, none⟩ = some (.int .i64 r) := by rw [hA2.cell]; rfl
          have x3 : w2.cell? ⟨w.heap.size, 3, none⟩ = some (.int .i64 e) := by rw [(hA1.below hb2).cell]; rfl
          have y3 : w2.cell? ⟨w1.heap.size, 3, none⟩ = some (.int .i64 e) := by rw [hA2.cell]; rfl
          have x4 : w2.cell? ⟨w.heap.size, 4, none⟩ = some (.int .i64 l) := by rw [(hA1.below hb2).cell]; rfl
          have y4 : w2.cell? ⟨w1.heap.size, 4, none⟩ = some (.int .i64 l') := by rw [hA2.cell]; rfl
          have hB2 : Below w.heap.size w w2 := hb1.trans (hb2.mono hb1.size)
          have HA : Hid (At 49 w2 w.heap.size [.slice a n c, .int .i64 k, .int .i64 r, .int .i64 e, .int .i64 l] ∧ At 49 w2 w1.heap.size [.slice a' n' c', .int .i64 k, .int .i64 r, .int .i64 e, .int .i64 l']) := ⟨hA1.below hb2, hA2⟩
          clear hA1 hA2 hb1 hb2
          clear HA
          go_wp2
          go_ret
          exact ⟨by rw [hRf]; rfl, hB2⟩

      · have hRf : R = false := by
          rw [hR.out, decide_eq_false_iff_not]
          intro h
          cases h
          exact h_e rfl
        have e_e : (e != e') = true := by rw [bne_iff_ne]; exact h_e
        clear h_e hR
        go_enter Try.func28, Try.ntmps28
        go_wp2_with (first
          | ((with_reducible show wpList _ _ _ _ _ _); refine wpList_box_at rfl 49 (.tmp 0) rfl [.slice a n c, .int .i64 k, .int .i64 r, .int .i64 e, .int .i64 l] rfl ?_; intro w1 hA1 hb1 hs1; clear hs1)
          | ((with_reducible show wpList _ _ _ _ _ _); refine wpList_box_at rfl 49 (.tmp 1) rfl [.slice a' n' c', .int .i64 k, .int .i64 r, .int .i64 e', .int .i64 l'] rfl ?_; intro w2 hA2 hb2 hs2; clear hs2; refine Hid.out ?_))
        refine hidU ?_
        have x0 : w2.cell? ⟨w.heap.size, 0, none⟩ = some (.slice a n c) := by rw [(hA1.below hb2).cell]; rfl
        have y0 : w2.cell? ⟨w1.heap.size, 0, none⟩ = some (.slice a' n' c') := by rw [hA2.cell]; rfl
        have x1 : w2.cell? ⟨w.heap.size, 1, none⟩ = some (.int .i64 k) := by rw [(hA1.below hb2).cell]; rfl
        have y1 : w2.cell? ⟨w1.heap.size, 1, none⟩ = some (.int .i64 k) := by rw [hA2.cell]; rfl
        have x2 : w2.cell? ⟨w.heap.size, 2, none⟩ = some (.int .i64 r) := by rw [(hA1.below hb2).cell]; rfl
        have y2 : w2.cell? ⟨w1.heap.size, 2, none⟩ = some (.int .i64 r) := by rw [hA2.cell]; rfl
        have x3 : w2.cell? ⟨w.heap.size, 3, none⟩ = some (.int .i64 e) := by rw [(hA1.below hb2).cell]; rfl
        have y3 : w2.cell? ⟨w1.heap.size, 3, none⟩ = some (.int .i64 e') := by rw [hA2.cell]; rfl
        have x4 : w2.cell? ⟨w.heap.size, 4, none⟩ = some (.int .i64 l) := by rw [(hA1.below hb2).cell]; rfl
        have y4 : w2.cell? ⟨w1.heap.size, 4, none⟩ = some (.int .i64 l') := by rw [hA2.cell]; rfl
        have hB2 : Below w.heap.size w w2 := hb1.trans (hb2.mono hb1.size)
        have HA : Hid (At 49 w2 w.heap.size [.slice a n c, .int .i64 k, .int .i64 r, .int .i64 e, .int .i64 l] ∧ At 49 w2 w1.heap.size [.slice a' n' c', .int .i64 k, .int .i64 r, .int .i64 e', .int .i64 l']) := ⟨hA1.below hb2, hA2⟩
        clear hA1 hA2 hb1 hb2
        clear HA
        go_wp2
        go_ret
        exact ⟨by rw [hRf]; rfl, hB2⟩

    · have hRf : R = false := by
        rw [hR.out, decide_eq_false_iff_not]
        intro h
        cases h
        exact h_r rfl
      have e_r : (r != r') = true := by rw [bne_iff_ne]; exact h_r
      clear h_r hR
      go_enter Try.func28, Try.ntmps28
      go_wp2_with (first
        | ((with_reducible show wpList _ _ _ _ _ _); refine wpList_box_at rfl 49 (.tmp 0) rfl [.slice a n c, .int .i64 k, .int .i64 r, .int .i64 e, .int .i64 l] rfl ?_; intro w1 hA1 hb1 hs1; clear hs1)
        | ((with_reducible show wpList _ _ _ _ _ _); refine wpList_box_at rfl 49 (.tmp 1) rfl [.slice a' n' c', .int .i64 k, .int .i64 r', .int .i64 e', .int .i64 l'] rfl ?_; intro w2 hA2 hb2 hs2; clear hs2; refine Hid.out ?_))
      refine hidU ?_
      have x0 : w2.cell? ⟨w.heap.size, 0, none⟩ = some (.slice a n c) := by rw [(hA1.below hb2).cell]; rfl
      have y0 : w2.cell? ⟨w1.heap.size, 0, none⟩ = some (.slice a' n' c') := by rw [hA2.cell]; rfl
      have x1 : w2.cell? ⟨w.heap.size, 1, none⟩ = some (.int .i64 k) := by rw [(hA1.below hb2).cell]; rfl
      have y1 : w2.cell? ⟨w1.heap.size, 1, none⟩ = some (.int .i64 k) := by rw [hA2.cell]; rfl
      have x2 : w2.cell? ⟨w.heap.size, 2, none⟩ = some (.int .i64 r) := by rw [(hA1.below hb2).cell]; rfl
      have y2 : w2.cell? ⟨w1.heap.size, 2, none⟩ = some (.int .i64 r') := by rw [hA2.cell]; rfl
      have x3 : w2.cell? ⟨w.heap.size, 3, none⟩ = some (.int .i64 e) := by rw [(hA1.below hb2).cell]; rfl
      have y3 : w2.cell? ⟨w1.heap.size, 3, none⟩ = some (.int .i64 e') := by rw [hA2.cell]; rfl
      have x4 : w2.cell? ⟨w.heap.size, 4, none⟩ = some (.int .i64 l) := by rw [(hA1.below hb2).cell]; rfl
      have y4 : w2.cell? ⟨w1.heap.size, 4, none⟩ = some (.int .i64 l') := by rw [hA2.cell]; rfl
      have hB2 : Below w.heap.size w w2 := hb1.trans (hb2.mono hb1.size)
      have HA : Hid (At 49 w2 w.heap.size [.slice a n c, .int .i64 k, .int .i64 r, .int .i64 e, .int .i64 l] ∧ At 49 w2 w1.heap.size [.slice a' n' c', .int .i64 k, .int .i64 r', .int .i64 e', .int .i64 l']) := ⟨hA1.below hb2, hA2⟩
      clear hA1 hA2 hb1 hb2
      clear HA
      go_wp2
      go_ret
      exact ⟨by rw [hRf]; rfl, hB2⟩

  · have hRf : R = false := by
      rw [hR.out, decide_eq_false_iff_not]
      intro h
      cases h
      exact h_k rfl
    have e_k : (k != k') = true := by rw [bne_iff_ne]; exact h_k
    clear h_k hR
    go_enter Try.func28, Try.ntmps28
    go_wp2_with (first
      | ((with_reducible show wpList _ _ _ _ _ _); refine wpList_box_at rfl 49 (.tmp 0) rfl [.slice a n c, .int .i64 k, .int .i64 r, .int .i64 e, .int .i64 l] rfl ?_; intro w1 hA1 hb1 hs1; clear hs1)
      | ((with_reducible show wpList _ _ _ _ _ _); refine wpList_box_at rfl 49 (.tmp 1) rfl [.slice a' n' c', .int .i64 k', .int .i64 r', .int .i64 e', .int .i64 l'] rfl ?_; intro w2 hA2 hb2 hs2; clear hs2; refine Hid.out ?_))
    refine hidU ?_
    have x0 : w2.cell? ⟨w.heap.size, 0, none⟩ = some (.slice a n c) := by rw [(hA1.below hb2).cell]; rfl
    have y0 : w2.cell? ⟨w1.heap.size, 0, none⟩ = some (.slice a' n' c') := by rw [hA2.cell]; rfl
    have x1 : w2.cell? ⟨w.heap.size, 1, none⟩ = some (.int .i64 k) := by rw [(hA1.below hb2).cell]; rfl
    have y1 : w2.cell? ⟨w1.heap.size, 1, none⟩ = some (.int .i64 k') := by rw [hA2.cell]; rfl
    have x2 : w2.cell? ⟨w.heap.size, 2, none⟩ = some (.int .i64 r) := by rw [(hA1.below hb2).cell]; rfl
    have y2 : w2.cell? ⟨w1.heap.size, 2, none⟩ = some (.int .i64 r') := by rw [hA2.cell]; rfl
    have x3 : w2.cell? ⟨w.heap.size, 3, none⟩ = some (.int .i64 e) := by rw [(hA1.below hb2).cell]; rfl
    have y3 : w2.cell? ⟨w1.heap.size, 3, none⟩ = some (.int .i64 e') := by rw [hA2.cell]; rfl
    have x4 : w2.cell? ⟨w.heap.size, 4, none⟩ = some (.int .i64 l) := by rw [(hA1.below hb2).cell]; rfl
    have y4 : w2.cell? ⟨w1.heap.size, 4, none⟩ = some (.int .i64 l') := by rw [hA2.cell]; rfl
    have hB2 : Below w.heap.size w w2 := hb1.trans (hb2.mono hb1.size)
    have HA : Hid (At 49 w2 w.heap.size [.slice a n c, .int .i64 k, .int .i64 r, .int .i64 e, .int .i64 l] ∧ At 49 w2 w1.heap.size [.slice a' n' c', .int .i64 k', .int .i64 r', .int .i64 e', .int .i64 l']) := ⟨hA1.below hb2, hA2⟩
    clear hA1 hA2 hb1 hb2
    clear HA
    go_wp2
    go_ret
    exact ⟨by rw [hRf]; rfl, hB2⟩

end Go.Proofs.Ytefklmckkigllaa
