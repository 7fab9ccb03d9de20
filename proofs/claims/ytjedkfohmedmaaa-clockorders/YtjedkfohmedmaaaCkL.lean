/- The law's ahead and orders. -/
import Derived.Test.YtjedkfohmedmaaaCkK
namespace Go.Proofs.Ytjedkfohmedmaaa
open Go.RowKit
set_option linter.unusedVariables false
attribute [local go_sem ↓] Go.wp_at_zero Go.wp_at_succ

set_option maxRecDepth 100000 in
theorem aheadL_ok (es : List Ev) (n p q : Nat) (a1 a2 : Option Addr) (c1 c2 : Nat) (w : World) (hT : Tr w a1 a2 es n) (hp : p < es.length) (hq : q < es.length) (hk1 : es.length ≤ c1) (hk2 : es.length ≤ c2) :
    Calls Try.prog 23 #[.slice a1 es.length c1, .slice a2 es.length c2, .int .i64 p, .int .i64 q] w fun r w' => r = .returned (.bool (hbB (evAt es) q p)) ∧ Below w.heap.size w w' := by
  have HC := ahead_ok es n p q a1 a2 c1 c2 w hT hp hq hk1 hk2
  obtain ⟨R, hR⟩ : ∃ R, R = hbB (evAt es) q p := ⟨_, rfl⟩
  obtain ⟨m, hm⟩ : ∃ m, m = es.length := ⟨_, rfl⟩
  rw [← hR, ← hm] at HC ⊢
  clear hT hp hq hk1 hk2 hR hm
  cases R
  · go_enter Try.func23, Try.ntmps23
    go_wp2_with (go_at_call 12; refine HC.mono ?_; rintro _ w2 ⟨rfl, hb⟩)
    go_ret
    exact ⟨rfl, hb⟩
  · go_enter Try.func23, Try.ntmps23
    go_wp2_with (go_at_call 12; refine HC.mono ?_; rintro _ w2 ⟨rfl, hb⟩)
    go_ret
    exact ⟨rfl, hb⟩

/-- What orders has found behind k. -/
def wantZ (ev : Nat → Ev) (i j k : Nat) : Bool := (decide (i < j) && depB (ev i) (ev j)) || (List.range k).any fun x => hbB ev x i && depB (ev x) (ev j)
theorem wantZ_step (ev : Nat → Ev) (i j k : Nat) : wantZ ev i j (k + 1) = (wantZ ev i j k || (hbB ev k i && depB (ev k) (ev j))) := by
  simp [wantZ, List.range_succ, Bool.or_assoc]
theorem hbB_none {ev : Nat → Ev} {x i : Nat} (h : x ≤ i) : hbB ev x i = false := by
  rw [Bool.eq_false_iff]
  intro hb
  have := ((hbB_iff ev x i).1 hb).lt
  omega
theorem wantZ_start (ev : Nat → Ev) (i j : Nat) : wantZ ev i j (i + 1) = (decide (i < j) && depB (ev i) (ev j)) := by
  unfold wantZ
  rw [show ((List.range (i + 1)).any fun x => hbB ev x i && depB (ev x) (ev j)) = false from ?_, Bool.or_false]
  rw [Bool.eq_false_iff]
  intro h
  obtain ⟨x, hx, h⟩ := List.any_eq_true.1 h
  rw [hbB_none (by have := List.mem_range.1 hx; omega)] at h
  cases h
theorem wantZ_end (ev : Nat → Ev) (i j k : Nat) (hk : k ≤ j ∨ k = i + 1) (h : wantZ ev i j k = true ∨ j ≤ k) : wantZ ev i j k = hbB ev j i := by
  rw [Bool.eq_iff_iff, hbB_iff]
  constructor
  · intro hw
    unfold wantZ at hw
    simp only [Bool.or_eq_true, Bool.and_eq_true, decide_eq_true_eq, List.any_eq_true, List.mem_range] at hw
    rcases hw with ⟨h1, h2⟩ | ⟨x, h1, h2, h3⟩
    · exact .dep h1 h2
    · have h4 := (hbB_iff ev x i).1 h2
      exact .step h4 (by have := h4.lt; omega) h3
  · intro hb
    rcases h with h | h
    · exact h
    · unfold wantZ
      simp only [Bool.or_eq_true, Bool.and_eq_true, decide_eq_true_eq, List.any_eq_true, List.mem_range]
      obtain ⟨x, h1 | h1, h2, h3⟩ := hb.last
      · subst h1; exact .inl ⟨h2, h3⟩
      · exact .inr ⟨x, by omega, (hbB_iff ev x i).2 h1, h3⟩

set_option maxRecDepth 100000 in
set_option maxHeartbeats 6400000 in
theorem orders_ok (es : List Ev) (n : Nat) (a1 a2 : Option Addr) (c1 c2 : Nat) (w : World) (hT : Tr w a1 a2 es n) (hk1 : es.length ≤ c1) (hk2 : es.length ≤ c2) :
    Calls Try.prog 24 #[.slice a1 es.length c1, .slice a2 es.length c2] w fun r w' => r = .returned (.bool true) ∧ Below w.heap.size w w' := by
  obtain ⟨ev, hev⟩ : ∃ ev, Hid (ev = evAt es) := ⟨_, (rfl : _ = evAt _)⟩
  obtain ⟨m, hm⟩ : ∃ m, Hid (m = es.length) := ⟨_, (rfl : _ = es.length)⟩
  have hlen : m ≤ 1024 := by rw [hm.out]; exact hT.len
  have HT : Hid (Tr w a1 a2 es n) := hT
  have HA : Hid (∀ u p q, Below w.heap.size w u → p < m → q < m → Calls Try.prog 23 #[.slice a1 m c1, .slice a2 m c2, .int .i64 p, .int .i64 q] u fun r w' => r = .returned (.bool (hbB ev q p)) ∧ Below u.heap.size u w') := fun u p q hu hp hq => by
    rw [hm.out, hev.out]
    exact aheadL_ok es n p q a1 a2 c1 c2 u (hT.below hu) (by rw [← hm.out]; exact hp) (by rw [← hm.out]; exact hq) hk1 hk2
  have HD : Hid (∀ u p q x y, es[p]? = some x → es[q]? = some y → Calls Try.prog 26 #[.agg x.cells.toArray, .agg y.cells.toArray] u fun r w' => r = .returned (.bool (depB (ev p) (ev q))) ∧ Below u.heap.size u w') := fun u p q x y hx hy => by
    have e1 : ev p = x := by rw [hev.out]; exact evAt_eq hx
    have e2 : ev q = y := by rw [hev.out]; exact evAt_eq hy
    rw [e1, e2]
    exact depends_any x y (hT.ok x (List.mem_of_getElem? hx)) (hT.ok y (List.mem_of_getElem? hy)) u
  rw [← hm.out] at hk1 hk2 ⊢
  clear hT
  go_enter Try.func24, Try.ntmps24
  go_wp2_with fail
  go_loopw [5] (fun t wr => ∃ j : Nat, j ≤ m ∧ t = .int .i64 j ∧ Hid (Below w.heap.size w wr)) (fun t _ => m - (intOf t).toNat)
  case atStart => exact ⟨0, Nat.zero_le _, rfl, Below.refl _ _⟩
  case round =>
    obtain ⟨j, hj, rfl, hB⟩ := hrel
    obtain ⟨wo, rfl⟩ : ∃ x, x = wr := ⟨wr, rfl⟩
    by_cases hjm : j < m
    · obtain ⟨y, hy⟩ : ∃ x, es[j]? = some x := ⟨es[j]'(by rw [← hm.out]; exact hjm), by rw [List.getElem?_eq_getElem]⟩
      have HY : Hid (es[j]? = some y) := hy
      clear hy
      go_wp2_with fail
      go_loopw [6] (fun t wr => ∃ i : Nat, i ≤ m ∧ t = .int .i64 i ∧ Hid (Below w.heap.size w wr)) (fun t _ => m - (intOf t).toNat)
      case atStart => exact ⟨0, Nat.zero_le _, rfl, hB.out⟩
      case round =>
        obtain ⟨i, hi, rfl, hB1⟩ := hrel
        obtain ⟨wi, rfl⟩ : ∃ x, x = wr := ⟨wr, rfl⟩
        clear hB
        by_cases him : i < m
        · obtain ⟨x, hx⟩ : ∃ x, es[i]? = some x := ⟨es[i]'(by rw [← hm.out]; exact him), by rw [List.getElem?_eq_getElem]⟩
          have HXX : Hid (es[i]? = some x) := hx
          obtain ⟨ga, oa, rfl, hr1⟩ := (HT.out.evs.below hB1.out).at i x hx
          obtain ⟨g2, o2, hg2, hr2⟩ := (HT.out.evs.below hB1.out).at j y HY.out
          cases hg2
          obtain ⟨q1, q2, q3⟩ := range_cells hr1
          obtain ⟨r1, r2, r3⟩ := range_cells hr2
          obtain ⟨D, hD⟩ : ∃ D, Hid (D = depB (ev i) (ev j)) := ⟨_, (rfl : _ = depB _ _)⟩
          have HD1 : Hid (∀ u, Calls Try.prog 26 #[.agg x.cells.toArray, .agg y.cells.toArray] u fun r w' => r = .returned (.bool D) ∧ Below u.heap.size u w') := fun u => by rw [hD.out]; exact HD.out u i j x y HXX.out HY.out
          clear hr1 hr2 hx HXX
          have HC : Hid (∀ u v, Below w.heap.size w u → Below u.heap.size u v → Below w.heap.size w v) := fun u v h1 h2 => h1.trans (h2.mono h1.size)
          by_cases hij : i < j
          · have hij2 : (i : Int) < (j : Int) := by omega
            have hW0 : Hid (D = wantZ ev i j (i + 1)) := by show D = _; rw [wantZ_start, decide_eq_true hij, ← hD.out]; rfl
            obtain ⟨xt, xk, xo⟩ := x
            obtain ⟨yt, yk, yo⟩ := y
            dsimp only at q1 q2 q3 r1 r2 r3
            simp only [Ev.cells] at HD1
            go_wp2_with fail
            go_region_held3 (fun w' => (w'.cell? ⟨ga, oa + i * 3, none⟩ = some (.int .i64 xt) ∧ w'.cell? ⟨ga, oa + i * 3 + 1, none⟩ = some (.int .i64 xk) ∧ w'.cell? ⟨ga, oa + i * 3 + 2, none⟩ = some (.int .i64 xo)) ∧ (w'.cell? ⟨ga, oa + j * 3, none⟩ = some (.int .i64 yt) ∧ w'.cell? ⟨ga, oa + j * 3 + 1, none⟩ = some (.int .i64 yk) ∧ w'.cell? ⟨ga, oa + j * 3 + 2, none⟩ = some (.int .i64 yo))) (first | exact ⟨⟨q1, q2, q3⟩, r1, r2, r3⟩ | exact ⟨⟨(hbel2.cell (lt_of_cell q1)).trans q1, (hbel2.cell (lt_of_cell q2)).trans q2, (hbel2.cell (lt_of_cell q3)).trans q3⟩, ⟨(hbel2.cell (lt_of_cell r1)).trans r1, (hbel2.cell (lt_of_cell r2)).trans r2, (hbel2.cell (lt_of_cell r3)).trans r3⟩⟩) (first | (go_at_call 26; refine (HD1.out _).mono ?_; rintro e w2 ⟨rfl, hbel2⟩))
            have hB2 : Hid (Below w.heap.size w w2) := HC.out _ _ (HC.out _ _ hB1.out (Below.refl _ _).drew) hbel2
            clear hbel2 q1 q2 q3 r1 r2 r3 HD1 hB1 hij hij2 hD
            go_wp2_with fail
            go_loopw [7, 8] (fun b t wr => ∃ (k : Nat) (W : Bool), t = .int .i64 k ∧ b = .bool W ∧ i + 1 ≤ k ∧ (k ≤ j ∨ k = i + 1) ∧ Hid (W = wantZ ev i j k) ∧ Hid (Below w.heap.size w wr)) (fun _ t _ => j - (intOf t).toNat)
            case atStart => exact ⟨i + 1, _, by go_num, rfl, Nat.le_refl _, .inr rfl, hW0.out, hB2.out⟩
            case round =>
              obtain ⟨k, W, rfl, rfl, hik, hkk, hW, hBk⟩ := hrel
              obtain ⟨wk, rfl⟩ : ∃ x, x = wr := ⟨wr, rfl⟩
              clear hW0 hB2
              by_cases hkj : k < j
              · cases W
                · have hn1 : (k : Int) < (j : Int) := by omega
                  have hkm : k < m := by omega
                  have hkm2 : (k : Int) < (m : Int) := by omega
                  have hjm2 : (j : Int) < (m : Int) := by omega
                  obtain ⟨z, hz⟩ : ∃ x, es[k]? = some x := ⟨es[k]'(by rw [← hm.out]; exact hkm), by rw [List.getElem?_eq_getElem]⟩
                  obtain ⟨g3, o3, hg3, hr3⟩ := (HT.out.evs.below hBk.out).at k z hz
                  cases hg3
                  obtain ⟨y', hy'⟩ : ∃ x, es[j]? = some x := ⟨es[j]'(by rw [← hm.out]; exact hjm), by rw [List.getElem?_eq_getElem]⟩
                  obtain ⟨g4, o4, hg4, hr4⟩ := (HT.out.evs.below hBk.out).at j y' hy'
                  cases hg4
                  obtain ⟨q1, q2, q3⟩ := range_cells hr3
                  obtain ⟨r1, r2, r3⟩ := range_cells hr4
                  obtain ⟨D2, hD2⟩ : ∃ D, Hid (D = depB (ev k) (ev j)) := ⟨_, (rfl : _ = depB _ _)⟩
                  obtain ⟨H, hH⟩ : ∃ D, Hid (D = hbB ev k i) := ⟨_, (rfl : _ = hbB _ _ _)⟩
                  have HD2 : Hid (∀ u, Calls Try.prog 26 #[.agg z.cells.toArray, .agg y'.cells.toArray] u fun r w' => r = .returned (.bool D2) ∧ Below u.heap.size u w') := fun u => by rw [hD2.out]; exact HD.out u k j z y' hz hy'
                  have HA2 : Hid (∀ u, Below wk.heap.size wk u → Calls Try.prog 23 #[.slice a1 m c1, .slice (some ⟨ga, oa, none⟩) m c2, .int .i64 i, .int .i64 k] u fun r w' => r = .returned (.bool H) ∧ Below u.heap.size u w') := fun u hu => by rw [hH.out]; exact HA.out u i k (HC.out _ _ hBk.out hu) him hkm
                  have hWn : Hid ((H && D2) = wantZ ev i j (k + 1)) := by show _ = _; rw [wantZ_step, ← hW.out, hH.out, hD2.out]; rfl
                  clear hr3 hr4 hz hy' hD2 hH hW
                  obtain ⟨xt, xk, xo⟩ := z
                  obtain ⟨yt, yk, yo⟩ := y'
                  dsimp only at q1 q2 q3 r1 r2 r3
                  simp only [Ev.cells] at HD2
                  cases H
                  · go_wp2_with fail
                    clear q1 q2 q3 r1 r2 r3 HD2
                    have hS0r : Below wk.heap.size wk wk.drew := Below.drew (Below.refl _ _)
                    refine wp_region_held_drew (S := fun xS => Below wk.heap.size wk xS) (by kernel_rfl) hS0r ?_
                    obtain ⟨x0r, hx0⟩ : ∃ x, x = wk.drew := ⟨_, rfl⟩
                    rw [← hx0] at hS0r  ⊢
                    clear hx0
                    intro _
                    refine wpAnyH_take (i := 0) (oi := { dst := some 46, op := .move (.tmp 0), type := _, pos := _, after := _, guard := none }) (v := .slice a1 m c1) rfl (by kernel_rfl) (by kernel_rfl) (by kernel_rfl) (fun _ _ _ h => h) (Or.inl ⟨by rfl, ?_⟩) hS0r ?_
                    · intro wS hSw
                      go_simp
                    simp only [Act.put, List.setIfInBounds_toArray, List.set_cons_zero, List.set_cons_succ]
                    refine wpAnyH_take (i := 1) (oi := { dst := some 47, op := .move (.tmp 1), type := _, pos := _, after := _, guard := none }) (v := .slice (some ⟨ga, oa, none⟩) m c2) rfl (by kernel_rfl) (by kernel_rfl) (by kernel_rfl) (fun _ _ _ h => h) (Or.inl ⟨by rfl, ?_⟩) hS0r ?_
                    · intro wS hSw
                      go_simp
                    simp only [Act.put, List.setIfInBounds_toArray, List.set_cons_zero, List.set_cons_succ]
                    refine wpAnyH_take (i := 2) (oi := { dst := some 48, op := .move (.tmp 6), type := _, pos := _, after := _, guard := none }) (v := .int .i64 (i : Int)) rfl (by kernel_rfl) (by kernel_rfl) (by kernel_rfl) (fun _ _ _ h => h) (Or.inl ⟨by rfl, ?_⟩) hS0r ?_
                    · intro wS hSw
                      go_simp
                    simp only [Act.put, List.setIfInBounds_toArray, List.set_cons_zero, List.set_cons_succ]
                    refine wpAnyH_take (i := 3) (oi := { dst := some 49, op := .move (.tmp 8), type := _, pos := _, after := _, guard := none }) (v := .int .i64 (k : Int)) rfl (by kernel_rfl) (by kernel_rfl) (by kernel_rfl) (fun _ _ _ h => h) (Or.inl ⟨by rfl, ?_⟩) hS0r ?_
                    · intro wS hSw
                      go_simp
                    simp only [Act.put, List.setIfInBounds_toArray, List.set_cons_zero, List.set_cons_succ]
                    refine wpAnyH_ready (rs := [4]) (by kernel_rfl) (by simp) ?_
                    refine AllReadyH.cons (o := { dst := some 50, op := .call { callee := .value (.func 23), args := #[.tmp 46, .tmp 47, .tmp 48, .tmp 49], argTypes := #[23, 22, 3, 3] }, type := _, pos := _, after := _, guard := none }) rfl (fun K hK => ?_) AllReadyH.nil
                    rw [if_pos (by rfl)]
                    have sv1r := hS0r.size
                    go_wp2_with (go_at_call 23; refine (HA2.out _ hS0r).mono ?_; rintro e x1r ⟨rfl, hb1r⟩)
                    have sz1r := hb1r.size
                    have hS1r := hS0r.trans (hb1r.mono hS0r.size)
                    refine hK.out _ _ hS1r (fun _ => ?_)
                    clear hK K
                    refine wpAnyH_take (i := 5) (oi := { dst := some 51, op := .move (.tmp 50), type := _, pos := _, after := _, guard := none }) (v := .bool false) rfl (by kernel_rfl) (by kernel_rfl) (by kernel_rfl) (fun _ _ _ h => h) (Or.inl ⟨by rfl, ?_⟩) hS1r ?_
                    · intro wS hSw
                      go_simp
                    simp only [Act.put, List.setIfInBounds_toArray, List.set_cons_zero, List.set_cons_succ]
                    refine wpAnyH_take (i := 6) (oi := { dst := some 52, op := .move (.tmp 1), type := _, pos := _, after := _, guard := some (5, true) }) (v := undef) rfl (by kernel_rfl) (by kernel_rfl) (by kernel_rfl) (fun _ _ _ h => h) (Or.inr ⟨by rfl, rfl⟩) hS1r ?_
                    simp only [Act.put, List.setIfInBounds_toArray, List.set_cons_zero, List.set_cons_succ]
                    refine wpAnyH_take (i := 7) (oi := { dst := some 53, op := .move (.tmp 8), type := _, pos := _, after := _, guard := some (5, true) }) (v := undef) rfl (by kernel_rfl) (by kernel_rfl) (by kernel_rfl) (fun _ _ _ h => h) (Or.inr ⟨by rfl, rfl⟩) hS1r ?_
                    simp only [Act.put, List.setIfInBounds_toArray, List.set_cons_zero, List.set_cons_succ]
                    refine wpAnyH_take (i := 8) (oi := { dst := some 54, op := .indexAddr 22 (.tmp 52) (.tmp 53), type := _, pos := _, after := _, guard := some (5, true) }) (v := undef) rfl (by kernel_rfl) (by kernel_rfl) (by kernel_rfl) (fun _ _ _ h => h) (Or.inr ⟨by rfl, rfl⟩) hS1r ?_
                    simp only [Act.put, List.setIfInBounds_toArray, List.set_cons_zero, List.set_cons_succ]
                    refine wpAnyH_take (i := 9) (oi := { dst := some 55, op := .load 25 (.tmp 54), type := _, pos := _, after := _, guard := some (5, true) }) (v := undef) rfl (by kernel_rfl) (by kernel_rfl) (by kernel_rfl) (fun _ _ _ h => h) (Or.inr ⟨by rfl, rfl⟩) hS1r ?_
                    simp only [Act.put, List.setIfInBounds_toArray, List.set_cons_zero, List.set_cons_succ]
                    refine wpAnyH_take (i := 10) (oi := { dst := some 56, op := .move (.tmp 1), type := _, pos := _, after := _, guard := some (5, true) }) (v := undef) rfl (by kernel_rfl) (by kernel_rfl) (by kernel_rfl) (fun _ _ _ h => h) (Or.inr ⟨by rfl, rfl⟩) hS1r ?_
                    simp only [Act.put, List.setIfInBounds_toArray, List.set_cons_zero, List.set_cons_succ]
                    refine wpAnyH_take (i := 11) (oi := { dst := some 57, op := .move (.tmp 5), type := _, pos := _, after := _, guard := some (5, true) }) (v := undef) rfl (by kernel_rfl) (by kernel_rfl) (by kernel_rfl) (fun _ _ _ h => h) (Or.inr ⟨by rfl, rfl⟩) hS1r ?_
                    simp only [Act.put, List.setIfInBounds_toArray, List.set_cons_zero, List.set_cons_succ]
                    refine wpAnyH_take (i := 12) (oi := { dst := some 58, op := .indexAddr 22 (.tmp 56) (.tmp 57), type := _, pos := _, after := _, guard := some (5, true) }) (v := undef) rfl (by kernel_rfl) (by kernel_rfl) (by kernel_rfl) (fun _ _ _ h => h) (Or.inr ⟨by rfl, rfl⟩) hS1r ?_
                    simp only [Act.put, List.setIfInBounds_toArray, List.set_cons_zero, List.set_cons_succ]
                    refine wpAnyH_take (i := 13) (oi := { dst := some 59, op := .load 25 (.tmp 58), type := _, pos := _, after := _, guard := some (5, true) }) (v := undef) rfl (by kernel_rfl) (by kernel_rfl) (by kernel_rfl) (fun _ _ _ h => h) (Or.inr ⟨by rfl, rfl⟩) hS1r ?_
                    simp only [Act.put, List.setIfInBounds_toArray, List.set_cons_zero, List.set_cons_succ]
                    refine wpAnyH_take (i := 14) (oi := { dst := some 60, op := .call { callee := .value (.func 26), args := #[.tmp 55, .tmp 59], argTypes := #[25, 25] }, type := _, pos := _, after := _, guard := some (5, true) }) (v := undef) rfl (by kernel_rfl) (by kernel_rfl) (by kernel_rfl) (fun _ _ _ h => h) (Or.inr ⟨by rfl, rfl⟩) hS1r ?_
                    simp only [Act.put, List.setIfInBounds_toArray, List.set_cons_zero, List.set_cons_succ]
                    refine wpAnyH_take (i := 15) (oi := { dst := some 61, op := .pick (.tmp 51) (.tmp 60) (.const (.bool false)), type := _, pos := _, after := _, guard := none }) (v := .bool false) rfl (by kernel_rfl) (by kernel_rfl) (by kernel_rfl) (fun _ _ _ h => h) (Or.inl ⟨by rfl, ?_⟩) hS1r ?_
                    · intro wS hSw
                      go_simp
                    simp only [Act.put, List.setIfInBounds_toArray, List.set_cons_zero, List.set_cons_succ]
                    refine wpAnyH_take (i := 16) (oi := { dst := some 7, op := .assign (.tmp 61), type := _, pos := _, after := _, guard := none }) (v := .bool false) rfl (by kernel_rfl) (by kernel_rfl) (by kernel_rfl) (fun _ _ _ h => h) (Or.inl ⟨by rfl, ?_⟩) hS1r ?_
                    · intro wS hSw
                      go_simp
                    simp only [Act.put, List.setIfInBounds_toArray, List.set_cons_zero, List.set_cons_succ]
                    refine wpAnyH_done (by kernel_rfl) ?_ _
                    have hB4 : Hid (Below w.heap.size w x1r) := HC.out _ _ hBk.out hS1r
                    clear hb1r hS0r hS1r sv1r sz1r HA2
                    go_wp2_with fail
                    go_roundw
                    case rel => exact ⟨k + 1, false, by go_num, rfl, by omega, .inl (by omega), hWn.out, hB4.out⟩
                    case measure => simp [intOf]; omega
                  · go_wp2_with fail
                    go_region_held3 (fun w' => (w'.cell? ⟨ga, oa + k * 3, none⟩ = some (.int .i64 xt) ∧ w'.cell? ⟨ga, oa + k * 3 + 1, none⟩ = some (.int .i64 xk) ∧ w'.cell? ⟨ga, oa + k * 3 + 2, none⟩ = some (.int .i64 xo)) ∧ (w'.cell? ⟨ga, oa + j * 3, none⟩ = some (.int .i64 yt) ∧ w'.cell? ⟨ga, oa + j * 3 + 1, none⟩ = some (.int .i64 yk) ∧ w'.cell? ⟨ga, oa + j * 3 + 2, none⟩ = some (.int .i64 yo))) (first | exact ⟨⟨q1, q2, q3⟩, r1, r2, r3⟩ | exact ⟨⟨(hbel4.cell (lt_of_cell ((hbel3.cell (lt_of_cell q1)).trans q1))).trans ((hbel3.cell (lt_of_cell q1)).trans q1), (hbel4.cell (lt_of_cell ((hbel3.cell (lt_of_cell q2)).trans q2))).trans ((hbel3.cell (lt_of_cell q2)).trans q2), (hbel4.cell (lt_of_cell ((hbel3.cell (lt_of_cell q3)).trans q3))).trans ((hbel3.cell (lt_of_cell q3)).trans q3)⟩, ⟨(hbel4.cell (lt_of_cell ((hbel3.cell (lt_of_cell r1)).trans r1))).trans ((hbel3.cell (lt_of_cell r1)).trans r1), (hbel4.cell (lt_of_cell ((hbel3.cell (lt_of_cell r2)).trans r2))).trans ((hbel3.cell (lt_of_cell r2)).trans r2), (hbel4.cell (lt_of_cell ((hbel3.cell (lt_of_cell r3)).trans r3))).trans ((hbel3.cell (lt_of_cell r3)).trans r3)⟩⟩ | exact ⟨⟨(hbel3.cell (lt_of_cell q1)).trans q1, (hbel3.cell (lt_of_cell q2)).trans q2, (hbel3.cell (lt_of_cell q3)).trans q3⟩, ⟨(hbel3.cell (lt_of_cell r1)).trans r1, (hbel3.cell (lt_of_cell r2)).trans r2, (hbel3.cell (lt_of_cell r3)).trans r3⟩⟩) (first | (go_at_call 23; refine (HA2.out _ (Below.refl _ _).drew).mono ?_; rintro e w3 ⟨rfl, hbel3⟩) | (go_at_call 26; refine (HD2.out _).mono ?_; rintro e w4 ⟨rfl, hbel4⟩))
                    have hB4 : Hid (Below w.heap.size w w4) := HC.out _ _ (HC.out _ _ (HC.out _ _ hBk.out (Below.refl _ _).drew) hbel3) hbel4
                    clear hbel3 hbel4 q1 q2 q3 r1 r2 r3 HD2 HA2
                    go_wp2_with fail
                    go_roundw
                    case rel => exact ⟨k + 1, D2, by go_num, rfl, by omega, .inl (by omega), hWn.out, hB4.out⟩
                    case measure => simp [intOf]; omega
                · have hn1 : (k : Int) < (j : Int) := by omega
                  have HAij : Calls Try.prog 23 #[.slice a1 m c1, .slice (some ⟨ga, oa, none⟩) m c2, .int .i64 i, .int .i64 j] wk fun r w' => r = .returned (.bool true) ∧ Below wk.heap.size wk w' := by
                    have := HA.out wk i j hBk.out him hjm
                    rwa [← wantZ_end ev i j k hkk (.inl hW.out.symm), ← hW.out] at this
                  clear hW
                  go_wp2_with (go_at_call 23; refine HAij.mono ?_; rintro _ w5 ⟨rfl, hb5⟩)
                  go_roundw
                  case rel => exact ⟨i + 1, by omega, by go_num, HC.out _ _ hBk.out hb5⟩
                  case measure => simp [intOf]; omega
              · cases W
                · have hn1 : ¬ (k : Int) < (j : Int) := by omega
                  have hn2 : (j : Int) ≤ (k : Int) := by omega
                  have hn3 : decide ((k : Int) < (j : Int)) = false := decide_eq_false hn1
                  have HAij : Calls Try.prog 23 #[.slice a1 m c1, .slice (some ⟨ga, oa, none⟩) m c2, .int .i64 i, .int .i64 j] wk fun r w' => r = .returned (.bool false) ∧ Below wk.heap.size wk w' := by
                    have := HA.out wk i j hBk.out him hjm
                    rwa [← wantZ_end ev i j k hkk (.inr (by omega)), ← hW.out] at this
                  clear hW
                  go_wp2_with (go_at_call 23; refine HAij.mono ?_; rintro _ w5 ⟨rfl, hb5⟩)
                  go_roundw
                  case rel => exact ⟨i + 1, by omega, by go_num, HC.out _ _ hBk.out hb5⟩
                  case measure => simp [intOf]; omega
                · have hn1 : ¬ (k : Int) < (j : Int) := by omega
                  have hn2 : (j : Int) ≤ (k : Int) := by omega
                  have hn3 : decide ((k : Int) < (j : Int)) = false := decide_eq_false hn1
                  have HAij : Calls Try.prog 23 #[.slice a1 m c1, .slice (some ⟨ga, oa, none⟩) m c2, .int .i64 i, .int .i64 j] wk fun r w' => r = .returned (.bool true) ∧ Below wk.heap.size wk w' := by
                    have := HA.out wk i j hBk.out him hjm
                    rwa [← wantZ_end ev i j k hkk (.inl hW.out.symm), ← hW.out] at this
                  clear hW
                  go_wp2_with (go_at_call 23; refine HAij.mono ?_; rintro _ w5 ⟨rfl, hb5⟩)
                  go_roundw
                  case rel => exact ⟨i + 1, by omega, by go_num, HC.out _ _ hBk.out hb5⟩
                  case measure => simp [intOf]; omega
          · have hW0 : Hid (false = wantZ ev i j (i + 1)) := by show false = _; rw [wantZ_start, decide_eq_false hij]; rfl
            have d6 : ¬ (i : Int) < (j : Int) := by omega
            have d7 : (j : Int) ≤ (i : Int) := by omega
            have d8 : decide ((i : Int) < (j : Int)) = false := decide_eq_false d6
            go_wp2_with fail
            go_quiet (fail)
            obtain ⟨w2, hw2⟩ : ∃ w2, w2 = wi.drewN nq := ⟨_, rfl⟩
            rw [← hw2]
            have hB2 : Hid (Below w.heap.size w w2) := by rw [hw2]; exact below_drN hB1.out _
            clear hw2 q1 q2 q3 r1 r2 r3 HD1 hB1 d6 d7 d8 hD
            go_wp2_with fail
            go_loopw [7, 8] (fun b t wr => ∃ (k : Nat) (W : Bool), t = .int .i64 k ∧ b = .bool W ∧ i + 1 ≤ k ∧ (k ≤ j ∨ k = i + 1) ∧ Hid (W = wantZ ev i j k) ∧ Hid (Below w.heap.size w wr)) (fun _ t _ => j - (intOf t).toNat)
            case atStart => exact ⟨i + 1, _, by go_num, rfl, Nat.le_refl _, .inr rfl, hW0.out, hB2.out⟩
            case round =>
              obtain ⟨k, W, rfl, rfl, hik, hkk, hW, hBk⟩ := hrel
              obtain ⟨wk, rfl⟩ : ∃ x, x = wr := ⟨wr, rfl⟩
              clear hW0 hB2
              by_cases hkj : k < j
              · exact absurd hkj (by omega)
              · cases W
                · have hn1 : ¬ (k : Int) < (j : Int) := by omega
                  have hn2 : (j : Int) ≤ (k : Int) := by omega
                  have hn3 : decide ((k : Int) < (j : Int)) = false := decide_eq_false hn1
                  have HAij : Calls Try.prog 23 #[.slice a1 m c1, .slice (some ⟨ga, oa, none⟩) m c2, .int .i64 i, .int .i64 j] wk fun r w' => r = .returned (.bool false) ∧ Below wk.heap.size wk w' := by
                    have := HA.out wk i j hBk.out him hjm
                    rwa [← wantZ_end ev i j k hkk (.inr (by omega)), ← hW.out] at this
                  clear hW
                  go_wp2_with (go_at_call 23; refine HAij.mono ?_; rintro _ w5 ⟨rfl, hb5⟩)
                  go_roundw
                  case rel => exact ⟨i + 1, by omega, by go_num, HC.out _ _ hBk.out hb5⟩
                  case measure => simp [intOf]; omega
                · have hn1 : ¬ (k : Int) < (j : Int) := by omega
                  have hn2 : (j : Int) ≤ (k : Int) := by omega
                  have hn3 : decide ((k : Int) < (j : Int)) = false := decide_eq_false hn1
                  have HAij : Calls Try.prog 23 #[.slice a1 m c1, .slice (some ⟨ga, oa, none⟩) m c2, .int .i64 i, .int .i64 j] wk fun r w' => r = .returned (.bool true) ∧ Below wk.heap.size wk w' := by
                    have := HA.out wk i j hBk.out him hjm
                    rwa [← wantZ_end ev i j k hkk (.inl hW.out.symm), ← hW.out] at this
                  clear hW
                  go_wp2_with (go_at_call 23; refine HAij.mono ?_; rintro _ w5 ⟨rfl, hb5⟩)
                  go_roundw
                  case rel => exact ⟨i + 1, by omega, by go_num, HC.out _ _ hBk.out hb5⟩
                  case measure => simp [intOf]; omega
        · go_wp2_with fail
          go_roundw
          case rel => exact ⟨j + 1, by omega, by go_num, hB1.out⟩
          case measure => simp [intOf]; omega
    · go_wp2_with fail
      go_ret
      exact ⟨rfl, hB.out⟩
end Go.Proofs.Ytjedkfohmedmaaa
