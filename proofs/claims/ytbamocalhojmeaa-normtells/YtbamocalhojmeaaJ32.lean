/- The given answer's All: just the traces that come of one by changing about. -/
import Derived.Test.YtbamocalhojmeaaJ31
namespace Go.Proofs.Ytbamocalhojmeaa
open Go.RowKit
set_option linter.unusedVariables false
attribute [local go_sem ↓] Go.wp_at_zero Go.wp_at_succ

set_option maxRecDepth 100000 in
set_option maxHeartbeats 12800000 in
theorem all_any (es : List Ev) (m : Nat) (a : Option Addr) (c : Nat) (w : World) (hE : RowEv w a es) (hm : es.length = m) (hm2 : m ≤ 1024) (hc : m ≤ c) (hnil : a = none → c = 0) :
    Calls Try.prog 32 #[.slice a m c, .int .i64 6000] w fun r w' => ((r = .returned (.tuple #[.slice none 0 0, .bool false])) ∨ (∃ v L, r = .returned (.tuple #[v, .bool true]) ∧ AllS w.heap.size w' v L m es ∧ L.length ≤ 6000 ∧ Cl L m L.length)) ∧ Below w.heap.size w w' := by
  have H0 : Hid (AllS w.heap.size (w.alloc (.cells #[.slice a m c] 22)) (.slice (some ⟨w.heap.size, 0, none⟩) 1 1) [es] m es) := by
    have hal : Below w.heap.size w (w.alloc (.cells #[.slice a m c] 22)) := (Below.refl _ w).alloc (Nat.le_refl _) _
    refine ⟨⟨[.slice a m c], ⟨rfl, .inr ⟨w.heap.size, 1, #[.slice a m c], rfl, Nat.le_refl _, heap_new w _, Nat.le_refl _, by unfold maxLen; omega, rfl, rfl⟩⟩, rfl, fun i u x hu hx => ?_⟩, fun x hx => by simp at hx; subst hx; exact hm, fun x hx => by simp at hx; subst hx; exact .refl _, rfl⟩
    have hi : i = 0 := by have := (List.getElem?_eq_some_iff.1 hx).1; simpa using this
    subst hi
    simp at hu hx
    subst hu hx
    refine ⟨a, c, rfl, hc, hnil, ?_⟩
    rcases hE.below hal with h | ⟨G, O, h1, h2⟩
    · exact .inl h
    · rcases Nat.eq_zero_or_pos es.length with h0 | h0
      · exact .inl (List.length_eq_zero_iff.1 h0)
      · exact .inr ⟨G, O, h1, .inl (hE.lt h0 G O h1), h2⟩
  have HB0 : Hid (Below w.heap.size w (w.alloc (.cells #[.slice a m c] 22))) := (Below.refl _ w).alloc (Nat.le_refl _) _
  clear hE hm hc hnil
  go_enter Try.func32, Try.ntmps32
  go_wp2_with fail
  go_loopw [6, 7] (fun v t wr => ∃ (p : Nat) (L : List (List Ev)), p ≤ L.length ∧ L.length ≤ 6000 ∧ t = .int .i64 (p : Int) ∧ Hid (AllS w.heap.size wr v L m es) ∧ Hid (Cl L m p) ∧ Hid (Below w.heap.size w wr)) (fun _ t _ => 6001 - (intOf t).toNat)
  case atStart => exact ⟨0, [es], by simp, by simp, rfl, H0.out, fun q x hq => (by omega), HB0.out⟩
  case round =>
    obtain ⟨p, L0, hpL, hL6, rfl, hS0, hC0, hB0⟩ := hrel
    clear H0 HB0
    obtain ⟨wo, rfl⟩ : ∃ x, x = wr := ⟨wr, rfl⟩
    obtain ⟨g0, cap0, rfl, hcap0, -, -, hat0⟩ := hS0.out.at
    obtain ⟨N0, hN0⟩ : ∃ N, Hid (N = L0.length) := ⟨_, (rfl : _ = L0.length)⟩
    rw [← hN0.out] at hpL hL6 hcap0 ⊢
    by_cases hp : p < N0
    · obtain ⟨x, hx⟩ : ∃ x, L0[p]? = some x := ⟨L0[p]'(by rw [← hN0.out]; exact hp), by rw [List.getElem?_eq_getElem]⟩
      obtain ⟨ax, cx, d1, hcx, hnx, hokx⟩ := hat0 p x hx
      have HX0 : Hid (RowOk w.heap.size wo ax x) := hokx
      have HLX : Hid (x.length = m ∧ Rch es x) := ⟨hS0.out.len x (List.mem_of_getElem? hx), hS0.out.rch x (List.mem_of_getElem? hx)⟩
      have HS0 : Hid (AllS w.heap.size wo (.slice (some ⟨g0, 0, none⟩) N0 cap0) L0 m es) := by
        have := hS0.out
        rw [← hN0.out] at this
        exact this
      have HXP : Hid (L0[p]? = some x) := hx
      have HNX : Hid (ax = none → cx = 0) := hnx
      clear hat0 hokx hS0 hx hnx
      go_wp2_with fail
      go_loopw [6, 9] (fun v t wr => ∃ (i : Nat) (L : List (List Ev)), i ≤ m ∧ p < L.length ∧ L.length ≤ 6000 ∧ t = .int .i64 (i : Int) ∧ Hid (AllS w.heap.size wr v L m es) ∧ Hid (Cl L m p) ∧ Hid (L[p]? = some x ∧ Ci L x m i) ∧ Hid (RowOk w.heap.size wr ax x) ∧ Hid (Below w.heap.size w wr)) (fun _ t _ => m - (intOf t).toNat)
      case atStart => exact ⟨0, L0, Nat.zero_le _, by rw [← hN0.out]; exact hp, by rw [← hN0.out]; exact hL6, rfl, HS0.out, hC0.out, ⟨HXP.out, fun k hk => by omega⟩, HX0.out, hB0.out⟩
      case round =>
        obtain ⟨i, L, him, hpL2, hL62, rfl, hS, hC, hI, hX, hB⟩ := hrel
        clear HS0 HX0 hC0 hB0 HXP hN0 hcap0 d1 hpL hL6 hp
        obtain ⟨wi, rfl⟩ : ∃ x, x = wr := ⟨wr, rfl⟩
        obtain ⟨g, cap, rfl, hcap, hgb, -, -⟩ := hS.out.at
        obtain ⟨N, hN⟩ : ∃ N, Hid (N = L.length) := ⟨_, (rfl : _ = L.length)⟩
        have HS : Hid (AllS w.heap.size wi (.slice (some ⟨g, 0, none⟩) N cap) L m es) := by
          have := hS.out
          rw [← hN.out] at this
          exact this
        rw [← hN.out] at hpL2 hL62 hcap ⊢
        clear hS
        by_cases hi1 : i + 1 < m
        · obtain ⟨i1, hii⟩ : ∃ i1, Hid (i1 = i + 1) := ⟨_, (rfl : _ = i + 1)⟩
          have hi1m : i1 < m := by rw [hii.out]; exact hi1
          have hwp : IntKind.i64.wrap ((i : Int) + 1) = (i1 : Int) := by rw [hii.out, IntKind.wrap_i64]; omega
          obtain ⟨e1, he1⟩ : ∃ k, x[i]? = some k := ⟨x[i]'(by rw [HLX.out.1]; omega), by rw [List.getElem?_eq_getElem]⟩
          obtain ⟨e2, he2⟩ : ∃ k, x[i1]? = some k := ⟨x[i1]'(by rw [HLX.out.1]; exact hi1m), by rw [List.getElem?_eq_getElem]⟩
          have HX : Hid (RowOk w.heap.size wi ax x) := hX.out
          clear hX
          obtain ⟨ga, oa, rfl, k1⟩ := HX.out.row.at i e1 he1
          have HQ : Hid (∀ u, Below wi.heap.size wi u → (u.cell? ⟨ga, oa + i * 3, none⟩ = some (.int .i64 e1.th) ∧ u.cell? ⟨ga, oa + i * 3 + 1, none⟩ = some (.int .i64 e1.kd) ∧ u.cell? ⟨ga, oa + i * 3 + 2, none⟩ = some (.int .i64 e1.ob)) ∧ (u.cell? ⟨ga, oa + i1 * 3, none⟩ = some (.int .i64 e2.th) ∧ u.cell? ⟨ga, oa + i1 * 3 + 1, none⟩ = some (.int .i64 e2.kd) ∧ u.cell? ⟨ga, oa + i1 * 3 + 2, none⟩ = some (.int .i64 e2.ob))) := fun u hu => by
            obtain ⟨g3, o3, hg3, k1⟩ := (HX.out.row.below hu).at i e1 he1
            cases hg3
            obtain ⟨g3, o3, hg3, k2⟩ := (HX.out.row.below hu).at i1 e2 he2
            cases hg3
            exact ⟨range_cells k1, range_cells k2⟩
          have hex : Hid (evAt x i = e1 ∧ evAt x i1 = e2 ∧ evAt x (i + 1) = e2) := ⟨evAt_eq he1, evAt_eq he2, by rw [← hii.out]; exact evAt_eq he2⟩
          have HD : Hid (∀ u, Calls Try.prog 49 #[.agg e1.cells.toArray, .agg e2.cells.toArray] u fun r w' => r = .returned (.bool (depB (evAt x i) (evAt x (i + 1)))) ∧ Below u.heap.size u w') := fun u => by
            rw [hex.out.1, hex.out.2.2]
            exact refDepends_any e1 e2 u
          obtain ⟨⟨q1, q2, q3⟩, r1, r2, r3⟩ := HQ.out wi (Below.refl _ _)
          clear k1 he1 he2
          obtain ⟨xt, xk, xo⟩ := e1
          obtain ⟨yt, yk, yo⟩ := e2
          simp only [Ev.cells] at HD
          dsimp only at q1 q2 q3 r1 r2 r3
          have j1 : i < m := by omega
          cases hdd : depB (evAt x i) (evAt x (i + 1)) with
          | true =>
            rw [hdd] at HD
            have HI2 : Hid (L[p]? = some x ∧ Ci L x m (i + 1)) := ⟨hI.out.1, hI.out.2.next (.inl hdd)⟩
            clear hdd
            go_wp2_with fail
            have hS0a : Below wi.heap.size wi wi.drew := Below.drew (Below.refl _ _)
            refine wp_region_held_drew (S := fun xS => Below wi.heap.size wi xS) (by kernel_rfl) hS0a ?_
            obtain ⟨x0a, hx0⟩ : ∃ x, x = wi.drew := ⟨_, rfl⟩
            rw [← hx0] at hS0a  ⊢
            clear hx0
            intro _
            refine wpAnyH_take (i := 0) (oi := { dst := some 32, op := .move (.tmp 8), type := _, pos := _, after := _, guard := none }) (v := .slice (some ⟨ga, oa, none⟩) m cx) rfl (by kernel_rfl) (by kernel_rfl) (by kernel_rfl) (fun _ _ _ h => h) (Or.inl ⟨by rfl, ?_⟩) hS0a ?_
            · intro wS hSw
              go_simp
            simp only [Act.put, List.setIfInBounds_toArray, List.set_cons_zero, List.set_cons_succ]
            refine wpAnyH_take (i := 1) (oi := { dst := some 33, op := .move (.tmp 9), type := _, pos := _, after := _, guard := none }) (v := .int .i64 (i : Int)) rfl (by kernel_rfl) (by kernel_rfl) (by kernel_rfl) (fun _ _ _ h => h) (Or.inl ⟨by rfl, ?_⟩) hS0a ?_
            · intro wS hSw
              go_simp
            simp only [Act.put, List.setIfInBounds_toArray, List.set_cons_zero, List.set_cons_succ]
            refine wpAnyH_take (i := 2) (oi := { dst := some 34, op := .indexAddr 22 (.tmp 32) (.tmp 33), type := _, pos := _, after := _, guard := none }) (v := .pointer (some ⟨ga, oa + i * 3, none⟩)) rfl (by kernel_rfl) (by kernel_rfl) (by kernel_rfl) (fun _ _ _ h => h) (Or.inl ⟨by rfl, ?_⟩) hS0a ?_
            · intro wS hSw
              go_simp
            simp only [Act.put, List.setIfInBounds_toArray, List.set_cons_zero, List.set_cons_succ]
            refine wpAnyH_take (i := 3) (oi := { dst := some 35, op := .load 50 (.tmp 34), type := _, pos := _, after := _, guard := none }) (v := .agg #[.int .i64 xt, .int .i64 xk, .int .i64 xo]) rfl (by kernel_rfl) (by kernel_rfl) (by kernel_rfl) (fun _ _ _ h => h) (Or.inl ⟨by rfl, ?_⟩) hS0a ?_
            · intro wS hSw
              have z0 := (hSw.cell (lt_of_cell q1)).trans q1
              have z1 := (hSw.cell (lt_of_cell q2)).trans q2
              have z2 := (hSw.cell (lt_of_cell q3)).trans q3
              go_simp
            simp only [Act.put, List.setIfInBounds_toArray, List.set_cons_zero, List.set_cons_succ]
            refine wpAnyH_take (i := 4) (oi := { dst := some 36, op := .move (.tmp 8), type := _, pos := _, after := _, guard := none }) (v := .slice (some ⟨ga, oa, none⟩) m cx) rfl (by kernel_rfl) (by kernel_rfl) (by kernel_rfl) (fun _ _ _ h => h) (Or.inl ⟨by rfl, ?_⟩) hS0a ?_
            · intro wS hSw
              go_simp
            simp only [Act.put, List.setIfInBounds_toArray, List.set_cons_zero, List.set_cons_succ]
            refine wpAnyH_take (i := 5) (oi := { dst := some 37, op := .move (.tmp 9), type := _, pos := _, after := _, guard := none }) (v := .int .i64 (i : Int)) rfl (by kernel_rfl) (by kernel_rfl) (by kernel_rfl) (fun _ _ _ h => h) (Or.inl ⟨by rfl, ?_⟩) hS0a ?_
            · intro wS hSw
              go_simp
            simp only [Act.put, List.setIfInBounds_toArray, List.set_cons_zero, List.set_cons_succ]
            refine wpAnyH_take (i := 6) (oi := { dst := some 38, op := .binOp .add 3 (.tmp 37) (.const (.int .i64 1)) 3, type := _, pos := _, after := _, guard := none }) (v := .int .i64 (i1 : Int)) rfl (by kernel_rfl) (by kernel_rfl) (by kernel_rfl) (fun _ _ _ h => h) (Or.inl ⟨by rfl, ?_⟩) hS0a ?_
            · intro wS hSw
              go_simp
            simp only [Act.put, List.setIfInBounds_toArray, List.set_cons_zero, List.set_cons_succ]
            refine wpAnyH_take (i := 7) (oi := { dst := some 39, op := .indexAddr 22 (.tmp 36) (.tmp 38), type := _, pos := _, after := _, guard := none }) (v := .pointer (some ⟨ga, oa + i1 * 3, none⟩)) rfl (by kernel_rfl) (by kernel_rfl) (by kernel_rfl) (fun _ _ _ h => h) (Or.inl ⟨by rfl, ?_⟩) hS0a ?_
            · intro wS hSw
              go_simp
            simp only [Act.put, List.setIfInBounds_toArray, List.set_cons_zero, List.set_cons_succ]
            refine wpAnyH_take (i := 8) (oi := { dst := some 40, op := .load 50 (.tmp 39), type := _, pos := _, after := _, guard := none }) (v := .agg #[.int .i64 yt, .int .i64 yk, .int .i64 yo]) rfl (by kernel_rfl) (by kernel_rfl) (by kernel_rfl) (fun _ _ _ h => h) (Or.inl ⟨by rfl, ?_⟩) hS0a ?_
            · intro wS hSw
              have z0 := (hSw.cell (lt_of_cell r1)).trans r1
              have z1 := (hSw.cell (lt_of_cell r2)).trans r2
              have z2 := (hSw.cell (lt_of_cell r3)).trans r3
              go_simp
            simp only [Act.put, List.setIfInBounds_toArray, List.set_cons_zero, List.set_cons_succ]
            refine wpAnyH_ready (rs := [9]) (by kernel_rfl) (by simp) ?_
            refine AllReadyH.cons (o := { dst := some 41, op := .call { callee := .value (.func 49), args := #[.tmp 35, .tmp 40], argTypes := #[50, 50] }, type := _, pos := _, after := _, guard := none }) rfl (fun K hK => ?_) AllReadyH.nil
            rw [if_pos (by rfl)]
            have sv1a := hS0a.size
            go_wp2_with (go_at_call 49; refine (HD.out _).mono ?_; rintro e x1a ⟨rfl, hb1a⟩)
            have sz1a := hb1a.size
            have hS1a := hS0a.trans (hb1a.mono hS0a.size)
            refine hK.out _ _ hS1a (fun _ => ?_)
            clear hK K
            refine wpAnyH_done (by kernel_rfl) ?_ _

            have HSn : Hid (AllS w.heap.size x1a (.slice (some ⟨g, 0, none⟩) N cap) L m es) := HS.out.below hS1a
            have HXn : Hid (RowOk w.heap.size x1a (some ⟨ga, oa, none⟩) x) := HX.out.below hS1a
            have HBn : Hid (Below w.heap.size w x1a) := hB.out.trans (hS1a.mono hB.out.size)
            clear hS0a hS1a hb1a sv1a sz1a q1 q2 q3 r1 r2 r3 HS HX hB
            go_wp2_with fail
            go_roundw
            case rel => exact ⟨i + 1, L, by omega, by rw [← hN.out]; exact hpL2, by rw [← hN.out]; exact hL62, by first | go_num | (rw [← hii.out]) | (rw [hwp, ← hii.out]), HSn.out, hC.out, HI2.out, HXn.out, HBn.out⟩
            case measure => simp [intOf]; have := hii.out; omega
          | false =>
            rw [hdd] at HD
            have HDD : Hid (depB (evAt x i) (evAt x (i + 1)) = false) := hdd
            clear hdd
            go_wp2_with fail
            have hS0b : Below wi.heap.size wi wi.drew := Below.drew (Below.refl _ _)
            refine wp_region_held_drew (S := fun xS => Below wi.heap.size wi xS) (by kernel_rfl) hS0b ?_
            obtain ⟨x0b, hx0⟩ : ∃ x, x = wi.drew := ⟨_, rfl⟩
            rw [← hx0] at hS0b  ⊢
            clear hx0
            intro _
            refine wpAnyH_take (i := 0) (oi := { dst := some 32, op := .move (.tmp 8), type := _, pos := _, after := _, guard := none }) (v := .slice (some ⟨ga, oa, none⟩) m cx) rfl (by kernel_rfl) (by kernel_rfl) (by kernel_rfl) (fun _ _ _ h => h) (Or.inl ⟨by rfl, ?_⟩) hS0b ?_
            · intro wS hSw
              go_simp
            simp only [Act.put, List.setIfInBounds_toArray, List.set_cons_zero, List.set_cons_succ]
            refine wpAnyH_take (i := 1) (oi := { dst := some 33, op := .move (.tmp 9), type := _, pos := _, after := _, guard := none }) (v := .int .i64 (i : Int)) rfl (by kernel_rfl) (by kernel_rfl) (by kernel_rfl) (fun _ _ _ h => h) (Or.inl ⟨by rfl, ?_⟩) hS0b ?_
            · intro wS hSw
              go_simp
            simp only [Act.put, List.setIfInBounds_toArray, List.set_cons_zero, List.set_cons_succ]
            refine wpAnyH_take (i := 2) (oi := { dst := some 34, op := .indexAddr 22 (.tmp 32) (.tmp 33), type := _, pos := _, after := _, guard := none }) (v := .pointer (some ⟨ga, oa + i * 3, none⟩)) rfl (by kernel_rfl) (by kernel_rfl) (by kernel_rfl) (fun _ _ _ h => h) (Or.inl ⟨by rfl, ?_⟩) hS0b ?_
            · intro wS hSw
              go_simp
            simp only [Act.put, List.setIfInBounds_toArray, List.set_cons_zero, List.set_cons_succ]
            refine wpAnyH_take (i := 3) (oi := { dst := some 35, op := .load 50 (.tmp 34), type := _, pos := _, after := _, guard := none }) (v := .agg #[.int .i64 xt, .int .i64 xk, .int .i64 xo]) rfl (by kernel_rfl) (by kernel_rfl) (by kernel_rfl) (fun _ _ _ h => h) (Or.inl ⟨by rfl, ?_⟩) hS0b ?_
            · intro wS hSw
              have z0 := (hSw.cell (lt_of_cell q1)).trans q1
              have z1 := (hSw.cell (lt_of_cell q2)).trans q2
              have z2 := (hSw.cell (lt_of_cell q3)).trans q3
              go_simp
            simp only [Act.put, List.setIfInBounds_toArray, List.set_cons_zero, List.set_cons_succ]
            refine wpAnyH_take (i := 4) (oi := { dst := some 36, op := .move (.tmp 8), type := _, pos := _, after := _, guard := none }) (v := .slice (some ⟨ga, oa, none⟩) m cx) rfl (by kernel_rfl) (by kernel_rfl) (by kernel_rfl) (fun _ _ _ h => h) (Or.inl ⟨by rfl, ?_⟩) hS0b ?_
            · intro wS hSw
              go_simp
            simp only [Act.put, List.setIfInBounds_toArray, List.set_cons_zero, List.set_cons_succ]
            refine wpAnyH_take (i := 5) (oi := { dst := some 37, op := .move (.tmp 9), type := _, pos := _, after := _, guard := none }) (v := .int .i64 (i : Int)) rfl (by kernel_rfl) (by kernel_rfl) (by kernel_rfl) (fun _ _ _ h => h) (Or.inl ⟨by rfl, ?_⟩) hS0b ?_
            · intro wS hSw
              go_simp
            simp only [Act.put, List.setIfInBounds_toArray, List.set_cons_zero, List.set_cons_succ]
            refine wpAnyH_take (i := 6) (oi := { dst := some 38, op := .binOp .add 3 (.tmp 37) (.const (.int .i64 1)) 3, type := _, pos := _, after := _, guard := none }) (v := .int .i64 (i1 : Int)) rfl (by kernel_rfl) (by kernel_rfl) (by kernel_rfl) (fun _ _ _ h => h) (Or.inl ⟨by rfl, ?_⟩) hS0b ?_
            · intro wS hSw
              go_simp
            simp only [Act.put, List.setIfInBounds_toArray, List.set_cons_zero, List.set_cons_succ]
            refine wpAnyH_take (i := 7) (oi := { dst := some 39, op := .indexAddr 22 (.tmp 36) (.tmp 38), type := _, pos := _, after := _, guard := none }) (v := .pointer (some ⟨ga, oa + i1 * 3, none⟩)) rfl (by kernel_rfl) (by kernel_rfl) (by kernel_rfl) (fun _ _ _ h => h) (Or.inl ⟨by rfl, ?_⟩) hS0b ?_
            · intro wS hSw
              go_simp
            simp only [Act.put, List.setIfInBounds_toArray, List.set_cons_zero, List.set_cons_succ]
            refine wpAnyH_take (i := 8) (oi := { dst := some 40, op := .load 50 (.tmp 39), type := _, pos := _, after := _, guard := none }) (v := .agg #[.int .i64 yt, .int .i64 yk, .int .i64 yo]) rfl (by kernel_rfl) (by kernel_rfl) (by kernel_rfl) (fun _ _ _ h => h) (Or.inl ⟨by rfl, ?_⟩) hS0b ?_
            · intro wS hSw
              have z0 := (hSw.cell (lt_of_cell r1)).trans r1
              have z1 := (hSw.cell (lt_of_cell r2)).trans r2
              have z2 := (hSw.cell (lt_of_cell r3)).trans r3
              go_simp
            simp only [Act.put, List.setIfInBounds_toArray, List.set_cons_zero, List.set_cons_succ]
            refine wpAnyH_ready (rs := [9]) (by kernel_rfl) (by simp) ?_
            refine AllReadyH.cons (o := { dst := some 41, op := .call { callee := .value (.func 49), args := #[.tmp 35, .tmp 40], argTypes := #[50, 50] }, type := _, pos := _, after := _, guard := none }) rfl (fun K hK => ?_) AllReadyH.nil
            rw [if_pos (by rfl)]
            have sv1b := hS0b.size
            go_wp2_with (go_at_call 49; refine (HD.out _).mono ?_; rintro e x1b ⟨rfl, hb1b⟩)
            have sz1b := hb1b.size
            have hS1b := hS0b.trans (hb1b.mono hS0b.size)
            refine hK.out _ _ hS1b (fun _ => ?_)
            clear hK K
            refine wpAnyH_done (by kernel_rfl) ?_ _

            obtain ⟨w2, hw2⟩ : ∃ u, u = x1b := ⟨_, rfl⟩
            rw [← hw2] at hS1b ⊢
            have B2 : Hid (Below wi.heap.size wi w2) := hS1b
            clear hw2 hS0b hS1b hb1b sv1b sz1b q1 q2 q3 r1 r2 r3
            have HO2 : OwnE w2.heap.size (w2.alloc (.cells #[] 50)) (.slice (some ⟨w2.heap.size, 0, none⟩) 0 0) [] := ⟨rfl, .inr ⟨w2.heap.size, 0, #[], rfl, Nat.le_refl _, heap_new w2 _, Nat.le_refl _, by unfold maxLen; omega, rfl, rfl⟩⟩
            have hal2 : Below w2.heap.size w2 (w2.alloc (.cells #[] 50)) := (Below.refl _ w2).alloc (Nat.le_refl _) _
            have HX2 : RowEv (w2.alloc (.cells #[] 50)) (some ⟨ga, oa, none⟩) x := (HX.out.row.below B2.out).below hal2
            have HAL2 : Hid (Below w2.heap.size w2 (w2.alloc (.cells #[] 50))) := hal2
            have hlx : x.length = m := HLX.out.1
            have hlb : ([] : List Ev).length + m ≤ 1048576 := by simp; omega
            go_wp2_with (at_builtin; refine wpList_appE rfl (.tmp 42) (.tmp 43) rfl w2.heap.size _ [] x (some ⟨ga, oa, none⟩) m cx rfl rfl HO2 hlx HNX.out hcx HX2 hlb hal2.size ?_; intro v5 w5 hO5 hb5; refine Hid.out ?_)
            refine hidU ?_
            have B5 : Hid (Below w2.heap.size w2 w5) := HAL2.out.trans hb5
            rw [List.nil_append] at hO5
            have hO5' : w5.ownsRow w2.heap.size 50 3 v5 x.length (flatE x) := hO5
            obtain ⟨gm, cm, cs, rfl, hgm, hA5, hOn5, hcm, hcl5⟩ := own_events hO5' (by rw [hlx]; omega)
            rw [hlx] at hcm hcl5 ⊢
            have HM5 : Hid (At 50 w5 gm cs) := hA5
            have HO5 : Hid (OnE cs x) := hOn5
            have B25 : Hid (Below wi.heap.size wi w5) := B2.out.trans (B5.out.mono B2.out.size)
            have HGM : Hid (w2.heap.size ≤ gm ∧ wi.heap.size ≤ gm) := ⟨hgm, Nat.le_trans B2.out.size hgm⟩
            obtain ⟨⟨q1', q2', q3'⟩, r1', r2', r3'⟩ := HQ.out w5 B25.out
            try dsimp only at q1' q2' q3' r1' r2' r3'
            clear hO5 hO5' hA5 hOn5 hb5 HO2 hal2 HX2 HAL2 hlb hgm
            go_wp2_with fail
            have hS0c : Below w5.heap.size w5 w5.drew := Below.drew (Below.refl _ _)
            refine wp_region_S (S := fun xS => Below w5.heap.size w5 xS) (St := [15]) (by kernel_rfl) hS0c ?_
            obtain ⟨x0c, hx0⟩ : ∃ x, x = w5.drew := ⟨_, rfl⟩
            rw [← hx0] at hS0c  ⊢
            clear hx0
            intro hH
            refine wpAnyS_pure (i := 0) (oi := { dst := some 45, op := .move (.tmp 10), type := _, pos := _, after := _, guard := none }) (v := .slice (some ⟨gm, 0, none⟩) m cm) rfl (by kernel_rfl) (by kernel_rfl) (by kernel_rfl) (by kernel_rfl) (fun _ _ _ h => h) (Or.inl ⟨by rfl, ?_⟩) hH (fun hH => ?_)
            · intro wS hSw
              go_simp
            simp only [Act.put, List.setIfInBounds_toArray, List.set_cons_zero, List.set_cons_succ]
            refine wpAnyS_pure (i := 1) (oi := { dst := some 46, op := .move (.tmp 9), type := _, pos := _, after := _, guard := none }) (v := .int .i64 (i : Int)) rfl (by kernel_rfl) (by kernel_rfl) (by kernel_rfl) (by kernel_rfl) (fun _ _ _ h => h) (Or.inl ⟨by rfl, ?_⟩) hH (fun hH => ?_)
            · intro wS hSw
              go_simp
            simp only [Act.put, List.setIfInBounds_toArray, List.set_cons_zero, List.set_cons_succ]
            refine wpAnyS_pure (i := 2) (oi := { dst := some 47, op := .move (.tmp 10), type := _, pos := _, after := _, guard := none }) (v := .slice (some ⟨gm, 0, none⟩) m cm) rfl (by kernel_rfl) (by kernel_rfl) (by kernel_rfl) (by kernel_rfl) (fun _ _ _ h => h) (Or.inl ⟨by rfl, ?_⟩) hH (fun hH => ?_)
            · intro wS hSw
              go_simp
            simp only [Act.put, List.setIfInBounds_toArray, List.set_cons_zero, List.set_cons_succ]
            refine wpAnyS_pure (i := 3) (oi := { dst := some 48, op := .move (.tmp 9), type := _, pos := _, after := _, guard := none }) (v := .int .i64 (i : Int)) rfl (by kernel_rfl) (by kernel_rfl) (by kernel_rfl) (by kernel_rfl) (fun _ _ _ h => h) (Or.inl ⟨by rfl, ?_⟩) hH (fun hH => ?_)
            · intro wS hSw
              go_simp
            simp only [Act.put, List.setIfInBounds_toArray, List.set_cons_zero, List.set_cons_succ]
            refine wpAnyS_pure (i := 4) (oi := { dst := some 49, op := .binOp .add 3 (.tmp 48) (.const (.int .i64 1)) 3, type := _, pos := _, after := _, guard := none }) (v := .int .i64 (i1 : Int)) rfl (by kernel_rfl) (by kernel_rfl) (by kernel_rfl) (by kernel_rfl) (fun _ _ _ h => h) (Or.inl ⟨by rfl, ?_⟩) hH (fun hH => ?_)
            · intro wS hSw
              go_simp
            simp only [Act.put, List.setIfInBounds_toArray, List.set_cons_zero, List.set_cons_succ]
            refine wpAnyS_pure (i := 5) (oi := { dst := some 50, op := .move (.tmp 8), type := _, pos := _, after := _, guard := none }) (v := .slice (some ⟨ga, oa, none⟩) m cx) rfl (by kernel_rfl) (by kernel_rfl) (by kernel_rfl) (by kernel_rfl) (fun _ _ _ h => h) (Or.inl ⟨by rfl, ?_⟩) hH (fun hH => ?_)
            · intro wS hSw
              go_simp
            simp only [Act.put, List.setIfInBounds_toArray, List.set_cons_zero, List.set_cons_succ]
            refine wpAnyS_pure (i := 6) (oi := { dst := some 51, op := .move (.tmp 9), type := _, pos := _, after := _, guard := none }) (v := .int .i64 (i : Int)) rfl (by kernel_rfl) (by kernel_rfl) (by kernel_rfl) (by kernel_rfl) (fun _ _ _ h => h) (Or.inl ⟨by rfl, ?_⟩) hH (fun hH => ?_)
            · intro wS hSw
              go_simp
            simp only [Act.put, List.setIfInBounds_toArray, List.set_cons_zero, List.set_cons_succ]
            refine wpAnyS_pure (i := 7) (oi := { dst := some 52, op := .binOp .add 3 (.tmp 51) (.const (.int .i64 1)) 3, type := _, pos := _, after := _, guard := none }) (v := .int .i64 (i1 : Int)) rfl (by kernel_rfl) (by kernel_rfl) (by kernel_rfl) (by kernel_rfl) (fun _ _ _ h => h) (Or.inl ⟨by rfl, ?_⟩) hH (fun hH => ?_)
            · intro wS hSw
              go_simp
            simp only [Act.put, List.setIfInBounds_toArray, List.set_cons_zero, List.set_cons_succ]
            refine wpAnyS_pure (i := 8) (oi := { dst := some 53, op := .indexAddr 22 (.tmp 50) (.tmp 52), type := _, pos := _, after := _, guard := none }) (v := .pointer (some ⟨ga, oa + i1 * 3, none⟩)) rfl (by kernel_rfl) (by kernel_rfl) (by kernel_rfl) (by kernel_rfl) (fun _ _ _ h => h) (Or.inl ⟨by rfl, ?_⟩) hH (fun hH => ?_)
            · intro wS hSw
              go_simp
            simp only [Act.put, List.setIfInBounds_toArray, List.set_cons_zero, List.set_cons_succ]
            refine wpAnyS_take [14, 15, 16, 17] (i := 9) (oi := { dst := some 54, op := .load 50 (.tmp 53), type := _, pos := _, after := _, guard := none }) (v := .agg #[.int .i64 yt, .int .i64 yk, .int .i64 yo]) rfl (by kernel_rfl) (by kernel_rfl) (by kernel_rfl) (by kernel_rfl) (by kernel_rfl) (by kernel_rfl) (by kernel_rfl) (fun _ _ _ h => h) (Or.inl ⟨by rfl, ?_⟩) hH (fun hH => ?_)
            · intro wS hSw
              have z0 := (hSw.cell (lt_of_cell r1')).trans r1'
              have z1 := (hSw.cell (lt_of_cell r2')).trans r2'
              have z2 := (hSw.cell (lt_of_cell r3')).trans r3'
              go_simp
            simp only [Act.put, List.setIfInBounds_toArray, List.set_cons_zero, List.set_cons_succ]
            refine wpAnyS_pure (i := 10) (oi := { dst := some 55, op := .move (.tmp 8), type := _, pos := _, after := _, guard := none }) (v := .slice (some ⟨ga, oa, none⟩) m cx) rfl (by kernel_rfl) (by kernel_rfl) (by kernel_rfl) (by kernel_rfl) (fun _ _ _ h => h) (Or.inl ⟨by rfl, ?_⟩) hH (fun hH => ?_)
            · intro wS hSw
              go_simp
            simp only [Act.put, List.setIfInBounds_toArray, List.set_cons_zero, List.set_cons_succ]
            refine wpAnyS_pure (i := 11) (oi := { dst := some 56, op := .move (.tmp 9), type := _, pos := _, after := _, guard := none }) (v := .int .i64 (i : Int)) rfl (by kernel_rfl) (by kernel_rfl) (by kernel_rfl) (by kernel_rfl) (fun _ _ _ h => h) (Or.inl ⟨by rfl, ?_⟩) hH (fun hH => ?_)
            · intro wS hSw
              go_simp
            simp only [Act.put, List.setIfInBounds_toArray, List.set_cons_zero, List.set_cons_succ]
            refine wpAnyS_pure (i := 12) (oi := { dst := some 57, op := .indexAddr 22 (.tmp 55) (.tmp 56), type := _, pos := _, after := _, guard := none }) (v := .pointer (some ⟨ga, oa + i * 3, none⟩)) rfl (by kernel_rfl) (by kernel_rfl) (by kernel_rfl) (by kernel_rfl) (fun _ _ _ h => h) (Or.inl ⟨by rfl, ?_⟩) hH (fun hH => ?_)
            · intro wS hSw
              go_simp
            simp only [Act.put, List.setIfInBounds_toArray, List.set_cons_zero, List.set_cons_succ]
            refine wpAnyS_take [14, 15, 16, 17] (i := 13) (oi := { dst := some 58, op := .load 50 (.tmp 57), type := _, pos := _, after := _, guard := none }) (v := .agg #[.int .i64 xt, .int .i64 xk, .int .i64 xo]) rfl (by kernel_rfl) (by kernel_rfl) (by kernel_rfl) (by kernel_rfl) (by kernel_rfl) (by kernel_rfl) (by kernel_rfl) (fun _ _ _ h => h) (Or.inl ⟨by rfl, ?_⟩) hH (fun hH => ?_)
            · intro wS hSw
              have z0 := (hSw.cell (lt_of_cell q1')).trans q1'
              have z1 := (hSw.cell (lt_of_cell q2')).trans q2'
              have z2 := (hSw.cell (lt_of_cell q3')).trans q3'
              go_simp
            simp only [Act.put, List.setIfInBounds_toArray, List.set_cons_zero, List.set_cons_succ]
            refine wpAnyS_pure (i := 14) (oi := { dst := some 59, op := .indexAddr 22 (.tmp 45) (.tmp 46), type := _, pos := _, after := _, guard := none }) (v := .pointer (some ⟨gm, i * 3, none⟩)) rfl (by kernel_rfl) (by kernel_rfl) (by kernel_rfl) (by kernel_rfl) (fun _ _ _ h => h) (Or.inl ⟨by rfl, ?_⟩) hH (fun hH => ?_)
            · intro wS hSw
              go_simp
            simp only [Act.put, List.setIfInBounds_toArray, List.set_cons_zero, List.set_cons_succ]
            refine wpAnyS_ready (rs := [15]) (by kernel_rfl) (by simp) ?_
            refine AllReadyS.cons (o := { dst := none, op := .store 50 (.tmp 59) (.tmp 54), type := _, pos := _, after := _, guard := none }) rfl (fun K hK => ?_) AllReadyS.nil
            rw [if_pos (by rfl)]
            refine wp_store_three (.tmp 59) (.tmp 54) rfl gm (i * 3) ⟨yt, yk, yo⟩ rfl rfl _ (HM5.out.below hS0c) (by omega) ?_
            intro x1c hA1c hb1c hs1c
            refine hK.out _ _ (Hold.over (s := 15) (by decide) (by rfl)) (fun hH => ?_)
            clear hK K
            refine wpAnyS_pure (i := 16) (oi := { dst := some 60, op := .indexAddr 22 (.tmp 47) (.tmp 49), type := _, pos := _, after := _, guard := none }) (v := .pointer (some ⟨gm, i1 * 3, none⟩)) rfl (by kernel_rfl) (by kernel_rfl) (by kernel_rfl) (by kernel_rfl) (fun _ _ _ h => h) (Or.inl ⟨by rfl, ?_⟩) hH (fun hH => ?_)
            · intro wS hSw
              go_simp
            simp only [Act.put, List.setIfInBounds_toArray, List.set_cons_zero, List.set_cons_succ]
            refine wpAnyS_ready (rs := [17]) (by kernel_rfl) (by simp) ?_
            refine AllReadyS.cons (o := { dst := none, op := .store 50 (.tmp 60) (.tmp 58), type := _, pos := _, after := _, guard := none }) rfl (fun K hK => ?_) AllReadyS.nil
            rw [if_pos (by rfl)]
            refine wp_store_three (.tmp 60) (.tmp 58) rfl gm (i1 * 3) ⟨xt, xk, xo⟩ rfl rfl _ hA1c (by simp only [List.length_set]; omega) ?_
            intro x2c hA2c hb2c hs2c
            refine hK.out _ _ (Hold.over (s := 15) (by decide) (by rfl)) (fun hH => ?_)
            clear hK K
            refine wpAnyS_done (by kernel_rfl) ?_ _

            obtain ⟨w7, hw7⟩ : ∃ u, u = x2c := ⟨_, rfl⟩
            have B7 : Hid (Below wi.heap.size wi w7) := by
              rw [hw7]
              have e1 : Below wi.heap.size wi x0c := B25.out.trans (hS0c.mono B25.out.size)
              have e2 : Below wi.heap.size wi x1c := hb1c.below e1 HGM.out.2 e1.size
              exact hb2c.below e2 HGM.out.2 e2.size
            obtain ⟨y, hy⟩ : ∃ y, Hid (y = swL x i) := ⟨_, (rfl : _ = swL x i)⟩
            have HYA : Hid (RowOk w.heap.size w7 (some ⟨gm, 0, none⟩) y) := by
              rw [hw7, hy.out]
              have e1 := (HO5.out.set (k := i) (by rw [hlx]; exact j1) ⟨yt, yk, yo⟩).set (k := i1) (by rw [List.length_set, hlx]; exact hi1m) ⟨xt, xk, xo⟩
              have e2 : (x.set i ⟨yt, yk, yo⟩).set i1 ⟨xt, xk, xo⟩ = swL x i := by unfold swL; rw [hex.out.1, hex.out.2.2, hii.out]
              rw [e2] at e1
              exact .inr ⟨gm, 0, rfl, .inr ⟨_, hA2c⟩, fun i e he j v hj => by rw [Nat.zero_add, hA2c.cell]; exact e1 i e he j v hj⟩
            have HYL : Hid (y.length = m ∧ Rch es y) := by
              rw [hy.out]
              exact ⟨by rw [swL_length]; exact hlx, .step i HLX.out.2 (by rw [hlx]; exact hi1) HDD.out⟩
            have HS7 : Hid (AllS w.heap.size w7 (.slice (some ⟨g, 0, none⟩) N cap) L m es) := HS.out.below B7.out
            have HX7 : Hid (RowOk w.heap.size w7 (some ⟨ga, oa, none⟩) x) := HX.out.below B7.out
            have HB7 : Hid (Below w.heap.size w w7) := hB.out.trans (B7.out.mono hB.out.size)
            rw [← hw7]
            clear hA1c hb1c hs1c hA2c hb2c hs2c hS0c hw7 B7 B25 B5 B2 HM5 HO5 HQ q1' q2' q3' r1' r2' r3' HS HX hB hH HGM HD
            go_wp2_with fail
            go_loopw [11, 12] (fun s t wr => ∃ (k : Nat) (b : Bool), k ≤ N ∧ t = .int .i64 (k : Int) ∧ s = .bool b ∧ Hid (b = decide (y ∈ L.take k)) ∧ Hid (Below w7.heap.size w7 wr)) (fun _ t _ => N - (intOf t).toNat)
            case atStart => exact ⟨0, false, Nat.zero_le _, rfl, rfl, (by show false = _; simp), Below.refl _ _⟩
            case round =>
              obtain ⟨k, b, hkN, rfl, rfl, hb, hBk⟩ := hrel
              by_cases hk : k < N
              · obtain ⟨z, hz⟩ : ∃ z, L[k]? = some z := ⟨L[k]'(by rw [← hN.out]; exact hk), by rw [List.getElem?_eq_getElem]⟩
                obtain ⟨g', cap', hgg, -, -, -, hatk⟩ := (HS7.out.below hBk.out).at
                cases hgg
                obtain ⟨az, cz, d1, hcz, -, hokz⟩ := hatk k z hz
                have HSM : Hid (Calls Try.prog 28 #[.slice az m cz, .slice (some ⟨gm, 0, none⟩) m cm] wr fun r w' => r = .returned (.bool (decide (z = y))) ∧ Below wr.heap.size wr w') :=
                  same_c (HS7.out.len z (List.mem_of_getElem? hz)) HYL.out.1 (by omega) az (some ⟨gm, 0, none⟩) cz cm wr hokz.row ((HYA.out.below hBk.out).row) hcz hcm
                have HBN : Hid ((b || decide (z = y)) = decide (y ∈ L.take (k + 1))) := by
                  show _ = _
                  rw [hb.out, List.take_add_one, hz]
                  rw [Bool.eq_iff_iff]
                  simp only [Bool.or_eq_true, decide_eq_true_eq, List.mem_append, Option.toList, List.mem_singleton]
                  exact or_congr Iff.rfl eq_comm
                clear hatk hokz hz hb
                cases b
                · obtain ⟨S2, hS2⟩ : ∃ S2, Hid (S2 = decide (z = y)) := ⟨_, (rfl : _ = decide _)⟩
                  rw [← hS2.out] at HSM HBN
                  rw [Bool.false_or] at HBN
                  go_wp2_with (go_at_call 28; refine HSM.out.mono ?_; rintro _ w8 ⟨rfl, hb8⟩; have B8 : Hid (Below w7.heap.size w7 w8) := hBk.out.trans (hb8.mono hBk.out.size); clear hb8)
                  go_roundw
                  case rel => exact ⟨k + 1, S2, by omega, by go_num, rfl, HBN.out, B8.out⟩
                  case measure => simp [intOf]; omega
                · rw [Bool.true_or] at HBN
                  go_wp2_with fail
                  go_roundw
                  case rel => exact ⟨k + 1, true, by omega, by go_num, rfl, HBN.out, hBk.out⟩
                  case measure => simp [intOf]; omega
              · have hb' : Hid (b = decide (y ∈ L)) := by
                  have := hb.out
                  rw [List.take_of_length_le (by rw [← hN.out]; omega)] at this
                  exact this
                obtain ⟨w9, rfl⟩ : ∃ x, x = wr := ⟨wr, rfl⟩
                have HS9 : Hid (AllS w.heap.size w9 (.slice (some ⟨g, 0, none⟩) N cap) L m es) := HS7.out.below hBk.out
                have HX9 : Hid (RowOk w.heap.size w9 (some ⟨ga, oa, none⟩) x) := HX7.out.below hBk.out
                have HY9 : Hid (RowOk w.heap.size w9 (some ⟨gm, 0, none⟩) y) := HYA.out.below hBk.out
                have HB9 : Hid (Below w.heap.size w w9) := HB7.out.trans (hBk.out.mono HB7.out.size)
                clear hb hBk HS7 HX7 HYA HB7
                cases b
                · have hsz9 : w.heap.size ≤ w9.heap.size := HB9.out.size
                  have hNb : L.length ≤ 1048576 := by rw [← hN.out]; omega
                  go_wp2_with (at_builtin; refine wpList_appS (w0 := w9) w9.heap.size rfl (.tmp 78) (.tmp 80) w.heap.size _ L m es y (some ⟨gm, 0, none⟩) cm rfl rfl rfl rfl HS9.out hNb hsz9 HYL.out.1 HYL.out.2 hcm (fun h => nomatch h) HY9.out ?_; intro v10 w10 hS10 hb10 hR10; refine Hid.out ?_)
                  refine hidU ?_
                  obtain ⟨g10, cap10, rfl, hcap10, -, -, -⟩ := hS10.at
                  have HS10 : Hid (AllS w.heap.size w10 (.slice (some ⟨g10, 0, none⟩) (N + 1) cap10) (L ++ [y]) m es) := by
                    rw [List.length_append, ← hN.out] at hS10
                    exact hS10
                  have HX10 : Hid (RowOk w.heap.size w10 (some ⟨ga, oa, none⟩) x) := hR10 _ _ HX9.out
                  have HB10 : Hid (Below w.heap.size w w10) := HB9.out.trans hb10
                  have HI2 : Hid ((L ++ [y])[p]? = some x ∧ Ci (L ++ [y]) x m (i + 1)) := ⟨by rw [List.getElem?_append_left (by rw [← hN.out]; exact hpL2)]; exact hI.out.1, (hI.out.2.more y).next (.inr (by rw [← hy.out]; simp))⟩
                  have HC2 : Hid (Cl (L ++ [y]) m p) := hC.out.more (by rw [← hN.out]; omega) y
                  have hl1 : (L ++ [y]).length = N + 1 := by rw [List.length_append, ← hN.out]; rfl
                  have HL1 : Hid ((L ++ [y]).length = N + 1) := hl1
                  rw [hl1] at hcap10 ⊢
                  clear hS10 hb10 hR10 HS9 HX9 HY9 HB9 hl1
                  by_cases hbig : 6000 < N + 1
                  · have z1 : (6000 : Int) < (N : Int) + 1 := by omega
                    go_wp2_with fail
                    go_ret2
                    exact ⟨.inl rfl, HB10.out⟩
                  · have z1 : ¬ (6000 : Int) < (N : Int) + 1 := by omega
                    go_wp2_with fail
                    go_roundw
                    case rel => exact ⟨i + 1, L ++ [y], by omega, by rw [HL1.out]; omega, by rw [HL1.out]; omega, by first | go_num | (rw [← hii.out]) | (rw [hwp, ← hii.out]), HS10.out, HC2.out, HI2.out, HX10.out, HB10.out⟩
                    case measure => simp [intOf]; have := hii.out; omega
                · have HI2 : Hid (L[p]? = some x ∧ Ci L x m (i + 1)) := ⟨hI.out.1, hI.out.2.next (.inr (by rw [← hy.out]; exact of_decide_eq_true hb'.out.symm))⟩
                  have z1 : ¬ (6000 : Int) < (N : Int) := by omega
                  go_wp2_with fail
                  go_roundw
                  case rel => exact ⟨i + 1, L, by omega, by rw [← hN.out]; exact hpL2, by rw [← hN.out]; exact hL62, by first | go_num | (rw [← hii.out]) | (rw [hwp, ← hii.out]), HS9.out, hC.out, HI2.out, HX9.out, HB9.out⟩
                  case measure => simp [intOf]; have := hii.out; omega
        · have HCn : Hid (Cl L m (p + 1)) := hC.out.next hI.out.1 (i := i) (by omega) hI.out.2
          have z1 : ¬ (i : Int) + 1 < (m : Int) := by omega
          have hwp : IntKind.i64.wrap ((i : Int) + 1) = (i : Int) + 1 := by rw [IntKind.wrap_i64]; omega
          go_wp2_with fail
          go_roundw
          case rel => exact ⟨p + 1, L, by rw [← hN.out]; omega, by rw [← hN.out]; exact hL62, by go_num, HS.out, HCn.out, hB.out⟩
          case measure => simp [intOf]; omega
    · have hpN : p = L0.length := by rw [← hN0.out]; omega
      have HCn : Hid (Cl L0 m L0.length) := by
        have := hC0.out
        rw [hpN] at this
        exact this
      have HS0 : Hid (AllS w.heap.size wo (.slice (some ⟨g0, 0, none⟩) N0 cap0) L0 m es) := by
        have := hS0.out
        rw [← hN0.out] at this
        exact this
      clear hat0 hS0 hpN hC0
      go_wp2_with fail
      go_ret2
      exact ⟨.inr ⟨_, L0, rfl, HS0.out, by rw [← hN0.out]; exact hL6, HCn.out⟩, hB0.out⟩
end Go.Proofs.Ytbamocalhojmeaa
