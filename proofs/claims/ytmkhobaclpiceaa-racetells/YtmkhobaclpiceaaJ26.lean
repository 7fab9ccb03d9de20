/- The law's joined: what comes ahead by the threads' own order and by pairs. -/
import Derived.Test.YtmkhobaclpiceaaJ25
namespace Go.Proofs.Ytmkhobaclpiceaa
open Go.RowKit
set_option linter.unusedVariables false
attribute [local go_sem ↓] Go.wp_at_zero Go.wp_at_succ

/-- The threads' own order, and pairs. -/
def pairR (ev : Nat → Ev) (ps : List (Nat × Nat)) (i j : Nat) : Bool := decide ((ev i).th = (ev j).th) || decide ((i, j) ∈ ps)
def headsN (R : Nat → Nat → Bool) (n m : Nat) : List (List Bool) := (List.range m).map fun j => (List.range n).map (hrB R j)
theorem headsN_succ (R : Nat → Nat → Bool) (n m : Nat) : headsN R n (m + 1) = headsN R n m ++ [(List.range n).map (hrB R m)] := by simp [headsN, List.range_succ]
theorem midN_first (R : Nat → Nat → Bool) (j i n : Nat) (hi : i < j) (hj : j ≤ n) (hd : R i j = true) : (cellsB n (rowR R j (i + 1))).set i (.bool true) = cellsB n (midR R j i 0) := by
  have e : true = midR R j i 0 i := by rw [midR, if_pos (.inr (Nat.le_refl _)), rowR_at R j i hi hd]
  rw [e]
  refine cellsB_set (by omega) fun x hx hxi => ?_
  unfold midR
  split
  · rename_i h
    rw [rowR_above R j i x hi (by omega)]
  · rfl
theorem midN_next (R : Nat → Nat → Bool) (j i k n : Nat) (hi : i < j) (hj : j ≤ n) (hk : k < i) (hd : R i j = true) : (cellsB n (midR R j i k)).set k (.bool (midR R j i k k || hrB R i k)) = cellsB n (midR R j i (k + 1)) := by
  have e : (midR R j i k k || hrB R i k) = midR R j i (k + 1) k := by
    rw [midR, if_neg (by omega), midR, if_pos (by omega), rowR_below R j i k hi hk hd]
  rw [e]
  refine cellsB_set (by omega) fun x hx hxk => ?_
  unfold midR
  by_cases h1 : x < k ∨ i ≤ x
  · rw [if_pos h1, if_pos (by omega)]
  · rw [if_neg h1, if_neg (by omega)]
theorem midN_last (R : Nat → Nat → Bool) (j i n : Nat) : cellsB n (midR R j i i) = cellsB n (rowR R j i) := cellsB_congr fun x hx => by
  rw [midR, if_pos (by omega)]
theorem rowN_start (R : Nat → Nat → Bool) (j n : Nat) : cellsB n (rowR R j j) = List.replicate n (.bool false) := by
  rw [cellsB_congr (g := fun _ => false) fun x _ => rowR_start R j x]
  apply List.ext_getElem?
  intro x
  rcases Nat.lt_or_ge x n with hx | hx
  · rw [cellsB_at hx, List.getElem?_replicate, if_pos hx]
  · rw [List.getElem?_eq_none (by rw [cellsB_length]; exact hx), List.getElem?_eq_none (by simp; exact hx)]
theorem rowN_done (R : Nat → Nat → Bool) (j n : Nat) : cellsB n (rowR R j 0) = ((List.range n).map (hrB R j)).map Value.bool := by
  rw [cellsB_congr fun x _ => rowR_done R j x, cellsB, List.map_map]
  rfl
theorem rowN_skip (R : Nat → Nat → Bool) (j i n : Nat) (hi : i < j) (hd : R i j = false) : cellsB n (rowR R j (i + 1)) = cellsB n (rowR R j i) := cellsB_congr fun x _ => (rowR_skip R j i x hi hd).symm

set_option maxRecDepth 100000 in
set_option maxHeartbeats 6400000 in
theorem joined_any (a : Option Addr) (cap : Nat) (es : List Ev) (w : World) (hrow : RowEv w a es) (hmax : es.length ≤ 1048576) (hcap : es.length ≤ cap) (ps : List (Nat × Nat)) (b : Option Addr) (cb : Nat) (hps : RowP w b ps) (hcb : ps.length ≤ cb) (hpm : ps.length ≤ 4611686018427387904) :
    Calls Try.prog 21 #[.slice a es.length cap, .slice b ps.length cb] w fun e w' => ∃ v L, e = .returned v ∧ L.map (·.2) = headsN (pairR (evAt es) ps) es.length es.length ∧ OwnH w.heap.size w' v (L.map rowV) ∧ RowsIn w' L ∧ Below w.heap.size w w' := by
  obtain ⟨i0, hi, hz0, hz1, hz2⟩ := info_parts Try.info4
  obtain ⟨n, hn⟩ : ∃ n, Hid (n = es.length) := ⟨_, (rfl : es.length = _)⟩
  rw [← hn.out] at hmax hcap ⊢
  have HR : Hid (RowEv w a es) := hrow
  clear hrow
  have HPS : Hid (RowP w b ps) := hps
  obtain ⟨N, hN⟩ : ∃ N, Hid (N = ps.length) := ⟨_, (rfl : _ = ps.length)⟩
  rw [← hN.out] at hcb hpm ⊢
  clear hps
  obtain ⟨ev, hev⟩ : ∃ ev, Hid (ev = evAt es) := ⟨_, (rfl : evAt es = _)⟩
  rw [← hev.out]
  obtain ⟨R, hRR⟩ : ∃ R, Hid (R = pairR ev ps) := ⟨_, (rfl : _ = pairR _ _)⟩
  rw [← hRR.out]
  go_enter Try.func21, Try.ntmps21
  go_wp2_with fail
  go_loopw [5, 6] (fun v t wr => ∃ (j : Nat) (L : List (Nat × List Bool)), j ≤ n ∧ t = .int .i64 j ∧ Hid (L.length = j) ∧ Hid (L.map (·.2) = headsN R n j) ∧ Hid (OwnH w.heap.size wr v (L.map rowV)) ∧ Hid (RowsIn wr L) ∧ Hid (Below w.heap.size w wr)) (fun _ t _ => n - (intOf t).toNat)
  case atStart => exact ⟨0, [], Nat.zero_le _, rfl, rfl, rfl, World.ownsRow_nil _ _ _ _, (fun x hx => by cases hx), Below.refl _ _⟩
  case round =>
    obtain ⟨j, L, hj, rfl, hL, hmap, hown, hin, hbel⟩ := hrel
    obtain ⟨wo, rfl⟩ : ∃ x, x = wr := ⟨wr, rfl⟩
    by_cases hlt : j < n
    · obtain ⟨ej, hej⟩ : ∃ k, es[j]? = some k := ⟨es[j]'(by rw [← hn.out]; exact hlt), by rw [List.getElem?_eq_getElem]⟩
      obtain ⟨ga, oa, rfl, hr0⟩ := HR.out.at j ej hej
      clear hr0
      have HJ : Hid (es[j]? = some ej) := hej
      clear hej
      go_wp2_with (at_make; refine wpList_make_full _ rfl (.tmp 19) (.tmp 19) 53 rfl wo.heap.size 4 i0 (.bool false) 1 Try.underlying53 hi hz0 hz1 .i64 .i64 _ _ n rfl rfl rfl rfl (by rw [hz2]; omega) (by unfold maxLen; omega) (Nat.le_refl _) ?_)
      intro w1 hown1 hgrow1
      have hb1 : Hid (Below wo.heap.size wo w1) := (Below.refl _ wo).grown hgrow1 (Nat.le_refl _) (by intro k hk; cases hk)
      have hA1 : Hid (At 4 w1 wo.heap.size (cellsB n (rowR R j j))) := by
        obtain ⟨_, ⟨h, _⟩ | ⟨g, cp, cur, h, hg, hh, _, _, hs, ht⟩⟩ := hown1
        · cases h
        · cases h
          show At _ _ _ _
          rw [rowN_start, ← toList_madeCells_one]
          unfold At
          rw [hh]
          have e : cur.toList = (madeCells #[Value.bool false] n).toList := by
            rw [← ht, List.take_of_length_le (by simp [hs])]
          rw [← e]
      clear hown1 hgrow1
      go_wp2_with fail
      go_loopw [8] (fun t wq => ∃ (i : Nat) (z : Int), i ≤ j ∧ z = (i : Int) - 1 ∧ t = .int .i64 z ∧ Hid (At 4 wq wo.heap.size (cellsB n (rowR R j i))) ∧ Hid (Below wo.heap.size wo wq)) (fun t _ => (intOf t + 1).toNat)
      case atStart => exact ⟨j, (j : Int) - 1, Nat.le_refl _, rfl, by go_num, hA1.out, hb1.out⟩
      case round =>
        obtain ⟨i, z, hij, hz, rfl, hA, hB⟩ := hrel
        obtain ⟨wm, rfl⟩ : ∃ x, x = wr := ⟨wr, rfl⟩
        clear hA1 hb1
        have hBw : Hid (Below w.heap.size w wm) := hbel.out.trans (hB.out.mono hbel.out.size)
        by_cases hi0 : i = 0
        · subst hi0
          have hzn : z < 0 := by omega
          have hzn2 : ¬ (0 ≤ z) := by omega
          obtain ⟨row, hrow⟩ : ∃ row, Hid (row = (List.range n).map (hrB R j)) := ⟨_, (rfl : _ = (List.range n).map (hrB R j))⟩
          have hlen : row.length = n := by rw [hrow.out]; simp
          have hA2 : Hid (At 4 wm wo.heap.size (row.map Value.bool)) := by
            show At _ _ _ _
            rw [hrow.out, ← rowN_done]
            exact hA.out
          have hLl : (L.map rowV).length ≤ 1048576 := by rw [List.length_map, hL.out]; omega
          have hmap2 : Hid ((L ++ [(wo.heap.size, row)]).map (·.2) = headsN R n (j + 1)) := by
            show _ = _
            rw [List.map_append, hmap.out, headsN_succ, hrow.out]
            rfl
          have hL2 : Hid ((L ++ [(wo.heap.size, row)]).length = j + 1) := by show _ = _; simp [hL.out]
          have hzz : Hid (Value.slice (some ⟨wo.heap.size, 0, none⟩) n n = rowV (wo.heap.size, row)) := by show _ = _; simp [rowV, hlen]
          go_wp2_with (at_builtin; refine appH (.tmp 81) (.tmp 83) _ (wo.heap.size, row) w.heap.size _ (L.map rowV) rfl rfl rfl rfl (hown.out.below hB.out) hzz.out hLl hBw.out.size ?_; intro v6 w6 hown6 hbel6 hk6)
          go_roundw
          case rel =>
            refine ⟨j + 1, L ++ [(wo.heap.size, row)], by omega, by go_num, hL2.out, hmap2.out, (show OwnH _ _ _ _ by rw [List.map_append]; exact hown6), ?_, hBw.out.trans hbel6⟩
            intro x hx
            rcases List.mem_append.1 hx with h1 | h1
            · exact hk6 _ _ ((hin.out x h1).below hB.out)
            · simp at h1; subst h1; exact hk6 _ _ hA2.out
          case measure => first | (simp [intOf]; done) | (simp [intOf]; omega)
        · obtain ⟨p, rfl⟩ : ∃ p, i = p + 1 := ⟨i - 1, by omega⟩
          obtain rfl : z = (p : Int) := by omega
          have hpj : p < j := by omega
          have i1 : (0 : Int) ≤ (p : Int) := by omega
          have i2 : (p : Int) < (n : Int) := by omega
          have i3 : (j : Int) < (n : Int) := by omega
          have i4 : p < n := by omega
          have hjn : j ≤ n := hj
          clear hz hi0
          obtain ⟨ei, hei⟩ : ∃ k, es[p]? = some k := ⟨es[p]'(by rw [← hn.out]; omega), by rw [List.getElem?_eq_getElem]⟩
          obtain ⟨g1, o1, hg1, hr1⟩ := (HR.out.below hBw.out).at p ei hei
          cases hg1
          obtain ⟨g2, o2, hg2, hr2⟩ := (HR.out.below hBw.out).at j ej HJ.out
          cases hg2
          obtain ⟨q1, q2, q3⟩ := range_cells hr1
          obtain ⟨r1, r2, r3⟩ := range_cells hr2
          have e1 : ev p = ei := by rw [hev.out]; exact evAt_eq hei
          have e2 : ev j = ej := by rw [hev.out]; exact evAt_eq HJ.out
          obtain ⟨D, hD⟩ : ∃ D, Hid (D = R p j) := ⟨_, (rfl : _ = R _ _)⟩
          have HD : Hid (D = (decide (ei.th = ej.th) || decide ((p, j) ∈ ps))) := by show _ = _; rw [hD.out, hRR.out, pairR, e1, e2]
          clear hr1 hr2 e1 e2 hei
          obtain ⟨xt, xk, xo⟩ := ei
          obtain ⟨yt, yk, yo⟩ := ej
          dsimp only at q1 q2 q3 r1 r2 r3 HD
          clear q2 q3 r2 r3
          obtain ⟨E, hE⟩ : ∃ E, E = decide (xt = yt) := ⟨_, rfl⟩
          have hE2 : (xt == yt) = E := by rw [hE, Bool.eq_iff_iff, beq_iff_eq, decide_eq_true_eq]
          rw [← hE] at HD
          clear hE
          go_wp2_with fail
          go_quiet (fail)
          obtain ⟨wb, hwb⟩ : ∃ x, x = wm.drewN nq := ⟨_, rfl⟩
          rw [← hwb]
          have hAb : Hid (At 4 wb wo.heap.size (cellsB n (rowR R j (p + 1)))) := by rw [hwb]; exact hA.out.drewN nq
          have hBb : Hid (Below wo.heap.size wo wb) := by rw [hwb]; exact below_drN hB.out nq
          clear hwb q1 r1 hA hB hBw
          go_wp2_with fail
          go_loopw [9, 10] (fun b t wz => ∃ (k : Nat) (W : Bool), b = .bool W ∧ t = .int .i64 k ∧ k ≤ N ∧ Hid (W = (E || decide ((p, j) ∈ ps.take k))) ∧ Hid (At 4 wz wo.heap.size (cellsB n (rowR R j (p + 1)))) ∧ Hid (Below wo.heap.size wo wz)) (fun _ t _ => N - (intOf t).toNat)
          case atStart => exact ⟨0, E, rfl, rfl, Nat.zero_le _, (show _ = _ by simp), hAb.out, hBb.out⟩
          case round =>
            obtain ⟨k, W, rfl, rfl, hkN, hW, hA2, hB2⟩ := hrel
            clear hAb hBb hE2
            by_cases hk : k < N
            · obtain ⟨x, hx⟩ : ∃ x, ps[k]? = some x := ⟨ps[k]'(by rw [← hN.out]; exact hk), by rw [List.getElem?_eq_getElem]⟩
              have hBw2 : Below w.heap.size w wr := hbel.out.trans (hB2.out.mono hbel.out.size)
              obtain ⟨gp, op, rfl, q1, q2⟩ := (HPS.out.below hBw2).at k x hx
              have hQ := fun u => eqP x (p, j) u
              obtain ⟨X, hX⟩ : ∃ X, Hid (X = decide (x = (p, j))) := ⟨_, (rfl : _ = decide _)⟩
              rw [← hX.out] at hQ
              have hWn : Hid ((W || X) = (E || decide ((p, j) ∈ ps.take (k + 1)))) := by
                show _ = _
                rw [hW.out, hX.out, List.take_add_one, hx, Bool.eq_iff_iff]
                simp only [Bool.or_eq_true, decide_eq_true_eq, Option.toList_some, List.mem_append, List.mem_singleton, Bool.or_assoc]
                constructor
                · rintro (h | h | h)
                  · exact .inl h
                  · exact .inr (.inl h)
                  · exact .inr (.inr h.symm)
                · rintro (h | h | h)
                  · exact .inl h
                  · exact .inr (.inl h)
                  · exact .inr (.inr h.symm)
              obtain ⟨xa, xb⟩ := x
              dsimp only at q1 q2 hQ
              have k1 : (k : Int) < (N : Int) := by omega
              clear hx hX hW hBw2
              cases W
              · go_wp2_with fail
                go_roundw
                case rel => exact ⟨k + 1, X, by first | rfl | simp, by go_num, by omega, hWn.out, hA2.out, hB2.out⟩
                case measure => simp [intOf]; omega
              · have hWt : Hid (true = (E || decide ((p, j) ∈ ps.take (k + 1)))) := by show _ = _; rw [← hWn.out]; rfl
                clear hWn hQ
                go_wp2_with fail
                go_roundw
                case rel => exact ⟨k + 1, true, rfl, by go_num, by omega, hWt.out, hA2.out, hB2.out⟩
                case measure => simp [intOf]; omega
            · obtain rfl : W = D := by rw [HD.out, hW.out, List.take_of_length_le (by rw [← hN.out]; omega)]
              obtain ⟨w2, hw2⟩ : ∃ x, x = wr := ⟨_, rfl⟩
              rw [← hw2] at hA2 hB2 ⊢
              clear hw2 hW hkN
              rcases W with _ | _
              · have hA3 : Hid (At 4 w2 wo.heap.size (cellsB n (rowR R j p))) := by
                  show At _ _ _ _
                  rw [← rowN_skip R j p n hpj hD.out.symm]
                  exact hA2.out
                clear hA2
                go_wp2_with fail
                go_roundw
                case rel => exact ⟨p, (p : Int) - 1, by omega, rfl, by go_num, hA3.out, hB2.out⟩
                case measure => first | (simp [intOf]; done) | (simp [intOf]; omega)
              · have hcell : w2.cell? ⟨wo.heap.size, p, none⟩ = some (.bool (rowR R j (p + 1) p)) := by rw [hA2.out.cell]; exact cellsB_at i4
                have hfr := hA2.out.frozen p
                have hA3 : Hid (At 4 (w2.setCell ⟨wo.heap.size, p, none⟩ (.bool true)) wo.heap.size (cellsB n (midR R j p 0))) := by
                  show At _ _ _ _
                  rw [← midN_first R j p n hpj hjn hD.out.symm]
                  exact hA2.out.set p _
                have hB3 : Hid (Below wo.heap.size wo (w2.setCell ⟨wo.heap.size, p, none⟩ (.bool true))) := hB2.out.setCell (Nat.le_refl _) _
                clear hA2
                go_wp2_with fail
                go_loopw [11] (fun t wk => ∃ (k : Nat), k ≤ p ∧ t = .int .i64 k ∧ Hid (At 4 wk wo.heap.size (cellsB n (midR R j p k))) ∧ Hid (Below wo.heap.size wo wk)) (fun t _ => p - (intOf t).toNat)
                case atStart => exact ⟨0, Nat.zero_le _, rfl, hA3.out, hB3.out⟩
                case round =>
                  obtain ⟨k, hkp, rfl, hA4, hB4⟩ := hrel
                  clear hcell hfr hA3 hB3
                  by_cases hk : k < p
                  · obtain ⟨x, hx⟩ : ∃ k, L[p]? = some k := ⟨L[p]'(by rw [hL.out]; exact hpj), by rw [List.getElem?_eq_getElem]⟩
                    have hx2 : x.2 = (List.range n).map (hrB R p) := by
                      have e := congrArg (·[p]?) hmap.out
                      simp [headsN, hx, hpj] at e
                      exact e
                    have hcl := (hown.out.below hB4.out).cell hx
                    rw [hL.out] at hcl
                    obtain ⟨g3, c3, rfl, hc3, hcell3⟩ := hcl
                    have hckx : wr.cell? ⟨x.1, k, none⟩ = some (.bool (hrB R p k)) := by
                      rw [((hin.out x (List.mem_of_getElem? hx)).below hB4.out).cell, hx2]
                      simp [show k < n by omega]
                    have hrv : rowV x = .slice (some ⟨x.1, 0, none⟩) n n := by simp [rowV, hx2]
                    rw [hrv] at hcell3
                    have hcG : wr.cell? ⟨wo.heap.size, k, none⟩ = some (.bool (midR R j p k k)) := by rw [hA4.out.cell]; exact cellsB_at (by omega)
                    have hfG := hA4.out.frozen k
                    have hA5 : Hid (At 4 (wr.setCell ⟨wo.heap.size, k, none⟩ (.bool (midR R j p k k || hrB R p k))) wo.heap.size (cellsB n (midR R j p (k + 1)))) := by
                      show At _ _ _ _
                      rw [← midN_next R j p k n hpj hjn hk hD.out.symm]
                      exact hA4.out.set k _
                    have hB5 : Hid (∀ v, Below wo.heap.size wo (wr.setCell ⟨wo.heap.size, k, none⟩ v)) := fun v => hB4.out.setCell (Nat.le_refl _) _
                    obtain ⟨X, hX⟩ : ∃ X, X = x.1 := ⟨_, rfl⟩
                    rw [← hX] at hckx hcell3
                    generalize midR R j p k k = M at *
                    generalize hrB R p k = H at *
                    clear hrv hx2 hX hx hA4 hB4
                    have k1 : (k : Int) < (p : Int) := by omega
                    have k2 : (k : Int) < (j : Int) := by omega
                    have k3 : (p : Int) < (j : Int) := by omega
                    have k4 : k < j := by omega
                    have k5 : (k : Int) < (n : Int) := by omega
                    have k6 : k < n := by omega
                    cases M <;> cases H <;>
                    · go_wp2_with fail
                      go_roundw
                      case rel => exact ⟨k + 1, by omega, by go_num, hA5.out, hB5.out _⟩
                      case measure => first | (simp [intOf]; done) | (simp [intOf]; omega)
                  · have hA5 : Hid (At 4 wr wo.heap.size (cellsB n (rowR R j p))) := by
                      show At _ _ _ _
                      rw [← midN_last, show p = k by omega]
                      have := hA4.out
                      rwa [show k = p by omega] at this ⊢
                    clear hA4
                    go_wp2_with fail
                    go_roundw
                    case rel => exact ⟨p, (p : Int) - 1, by omega, rfl, by go_num, hA5.out, hB4.out⟩
                    case measure => first | (simp [intOf]; done) | (simp [intOf]; omega)
    · have hmm : Hid (L.map (·.2) = headsN R n n) := by show _ = _; rw [hmap.out, show j = n by omega]
      go_wp2
      go_ret
      exact ⟨_, L, rfl, hmm.out, hown.out, hin.out, hbel.out⟩
end Go.Proofs.Ytmkhobaclpiceaa
