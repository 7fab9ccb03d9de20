/- race.lockClocks: clocks of what is by locks ahead. -/
import Derived.Test.YtmkhobaclpiceaaJ20
namespace Go.Proofs.Ytmkhobaclpiceaa
open Go.RowKit
set_option linter.unusedVariables false
attribute [local go_sem ↓] Go.wp_at_zero Go.wp_at_succ

theorem Ovr.but {g lo hi : Nat} {w w' : World} (h : Ovr g lo hi w w') : But g w w' := ⟨h.os, h.tape, h.output, h.size, h.block⟩
theorem lockR_eq (ev : Nat → Ev) (i j : Nat) : lockR ev i j = lckE (ev i) (ev j) := rfl

set_option maxRecDepth 100000 in
set_option maxHeartbeats 6400000 in
theorem locks_any (es : List Ev) (n m : Nat) (a : Option Addr) (c : Nat) (w : World) (hm0 : es.length = m) (hE : RowEv w a es) (hth : ∀ x ∈ es, 0 ≤ x.th ∧ x.th < n) (hn1 : 0 < n) (hn2 : n ≤ 16) (hm : m ≤ 1024) (hc : m ≤ c) :
    Calls Try.prog 30 #[.slice a m c, .int .i64 n] w fun r w' => ∃ H, r = .returned (.slice (some ⟨H, 0, none⟩) m m) ∧ RowII w' (some ⟨H, 0, none⟩) ((List.range m).map (lkL (evAt es) n)) ∧ Below w.heap.size w w' := by
  obtain ⟨i0, hi, hz0, hz1, hz2⟩ := info_parts Try.info32
  obtain ⟨j0, hj, hy0, hy1, hy2⟩ := info_parts Try.info3
  obtain ⟨ev, hev⟩ : ∃ ev, Hid (ev = evAt es) := ⟨_, (rfl : _ = evAt _)⟩
  rw [← hev.out]
  have HE : Hid (RowEv w a es ∧ ∀ x ∈ es, 0 ≤ x.th ∧ x.th < n) := ⟨hE, hth⟩
  have HM0 : Hid (es.length = m) := hm0
  clear hE hth hm0
  obtain ⟨G, hG⟩ : ∃ G, Hid (G = w.heap.size) := ⟨_, (rfl : _ = w.heap.size)⟩
  go_enter Try.func30, Try.ntmps30
  go_wp2_with (at_make; refine wpList_make_full _ rfl (.tmp 11) (.tmp 11) 46 rfl w.heap.size 32 i0 (.slice none 0 0) 1 Try.underlying46 hi hz0 hz1 .i64 .i64 _ _ m rfl rfl rfl rfl (by rw [hz2]; omega) (by unfold maxLen; omega) (Nat.le_refl _) ?_)
  intro w1 hown1 hgrow1
  have hb1 : Hid (Below w.heap.size w w1) := (Below.refl _ w).grown hgrow1 (Nat.le_refl _) (by intro k hk; cases hk)
  have hA1 : Hid (∃ cs : List Value, cs.length = m ∧ At 32 w1 G cs) := by
    obtain ⟨_, ⟨h, _⟩ | ⟨g, cp, cur, h, hg, hh, _, _, hs, ht⟩⟩ := hown1
    · cases h
    · cases h
      exact ⟨cur.toList, by simpa using hs, by unfold At; rw [hG.out, hh]⟩
  rw [← hG.out]
  clear hown1 hgrow1
  go_wp2_with fail
  go_loopw [15] (fun t wr => ∃ k : Nat, k ≤ m ∧ t = .int .i64 k ∧ Hid (∃ (hs : List Value) (top : Nat), hs.length = m ∧ Lay w.heap.size top wr G n hs ((List.range k).map (lkL ev n))) ∧ Hid (Below w.heap.size w wr)) (fun t _ => m - (intOf t).toNat)
  case atStart =>
    obtain ⟨cs, h1, h2⟩ := hA1.out
    exact ⟨0, Nat.zero_le _, rfl, ⟨cs, G + 1, h1, h2, by rw [hG.out]; exact Nat.le_refl _, Nat.lt_succ_self _, h2.lt, fun i zs hz => by simp at hz⟩, hb1.out⟩
  case round =>
    obtain ⟨k, hk, rfl, hL, hB⟩ := hrel
    obtain ⟨wo, rfl⟩ : ∃ x, x = wr := ⟨wr, rfl⟩
    clear hA1 hb1
    by_cases hlt : k < m
    · obtain ⟨hs, top, hsl, hLy⟩ := hL.out
      obtain ⟨x, hx⟩ : ∃ x, es[k]? = some x := ⟨es[k]'(by rw [HM0.out]; exact hlt), by rw [List.getElem?_eq_getElem]⟩
      have hxth := HE.out.2 x (List.mem_of_getElem? hx)
      obtain ⟨s, hs0⟩ : ∃ s : Nat, x.th = (s : Int) := ⟨x.th.toNat, by omega⟩
      have hsn : s < n := by omega
      have hevk : ev k = x := by rw [hev.out]; exact evAt_eq hx
      obtain ⟨ga, oa, rfl, hr⟩ := (HE.out.1.below hB.out).at k x hx
      obtain ⟨q1, q2, q3⟩ := range_cells hr
      have HLy : Hid (Lay w.heap.size top wo G n hs ((List.range k).map (lkL ev n))) := hLy
      have HSL : Hid (hs.length = m) := hsl
      have HXV : Hid (ev k = x) := hevk
      obtain ⟨xt, xk, xo⟩ := x
      dsimp only at hs0 hxth q1 q2 q3
      have HS0 : Hid (xt = (s : Int)) := hs0
      clear hL hLy hsl hr hx hevk hs0 hxth
      go_wp2_with (at_make; refine wpList_make_full _ rfl (.tmp 22) (.tmp 22) 32 rfl (wo.heap.size + 1) 3 j0 (.int .i64 0) 1 Try.underlying32 hj hy0 hy1 .i64 .i64 _ _ n rfl rfl rfl rfl (by rw [hy2]; omega) (by unfold maxLen; omega) (by simp) ?_)
      intro w3 hown3 hgrow3
      obtain ⟨eb, heb⟩ : ∃ eb, eb = wo.heap.size := ⟨_, rfl⟩
      obtain ⟨w2, hw2⟩ : ∃ x, x = wo.alloc (.cells #[.int .i64 xt, .int .i64 xk, .int .i64 xo] 24) := ⟨_, rfl⟩
      have hA2 : At 24 w2 eb [.int .i64 xt, .int .i64 xk, .int .i64 xo] := by rw [hw2, heb]; exact heap_new wo _
      have hb2 : Below wo.heap.size wo w2 := by rw [hw2]; exact (Below.refl _ wo).alloc (Nat.le_refl _) _
      have hs2 : w2.heap.size = wo.heap.size + 1 := by rw [hw2]; simp
      rw [← hw2] at hgrow3
      have hb3 : Below w2.heap.size w2 w3 := (Below.refl _ w2).grown hgrow3 (Nat.le_refl _) (by intro k hk; cases hk)
      obtain ⟨g, hg⟩ : ∃ g, g = wo.heap.size + 1 := ⟨_, rfl⟩
      rw [← hg] at hown3
      have hW3 : WrI w3 g 0 (lkM ev n k 0) := by
        rw [lkM_zero]
        obtain ⟨_, ⟨h, _⟩ | ⟨g', cp, cur, h, hg', hh, _, _, hs, ht⟩⟩ := hown3
        · cases h
        · cases h
          have hcur : cur.toList = (madeCells #[Value.int .i64 0] n).toList := by rw [← ht, List.take_of_length_le (by simp [hs])]
          refine ⟨cur.toList, by unfold BlkI; rw [hh], fun k z hz => ?_⟩
          have htn : k < n := by have := (List.getElem?_eq_some_iff.1 hz).1; simpa using this
          rw [List.getElem?_replicate, if_pos htn] at hz
          cases hz
          rw [hcur, toList_madeCells_one, List.getElem?_replicate, if_pos (by omega)]
      have hbo : Below wo.heap.size wo w3 := hb2.trans (hb3.mono (by omega))
      have hkl : k < hs.length := by rw [HSL.out]; exact hlt
      obtain ⟨v0, hv0⟩ : ∃ v, hs[k]? = some v := ⟨hs[k], List.getElem?_eq_getElem hkl⟩
      have y1 : w3.cell? ⟨G, k, none⟩ = some v0 := by rw [(HLy.out.below hbo).blk.cell]; exact hv0
      have y2 : w3.frozen? ⟨G, k, none⟩ = false := (HLy.out.below hbo).blk.frozen k
      have htop := HLy.out.tp
      have htg := HLy.out.gt
      have htb := HLy.out.bg
      have hgG : g ≠ G := by omega
      have hebG : eb ≠ G := by omega
      have hebg : eb ≠ g := by omega
      have hgt : top ≤ g := by omega
      have hgb : w.heap.size ≤ g := by omega
      obtain ⟨w4, hw4⟩ : ∃ x, x = w3.setCell ⟨G, k, none⟩ (.slice (some ⟨g, 0, none⟩) n n) := ⟨_, rfl⟩
      have hBut4 : But G w3 w4 := by rw [hw4]; exact (But.refl G w3).setCell k _
      have hB3 : Below w.heap.size w w3 := hB.out.trans (hbo.mono hB.out.size)
      have HB4 : Hid (Below w.heap.size w w4) := hBut4.below hB3 (by omega) hB3.size
      obtain ⟨hs', hhs'⟩ : ∃ x, x = hs.set k (.slice (some ⟨g, 0, none⟩) n n) := ⟨_, rfl⟩
      have HL4 : Hid (Lay w.heap.size top w4 G n hs' ((List.range k).map (lkL ev n))) := by
        rw [hw4, hhs']
        exact (HLy.out.below hbo).set (by simp) _
      have HG4 : Hid (hs'[k]? = some (.slice (some ⟨g, 0, none⟩) n n) ∧ hs'.length = m) := by
        rw [hhs']
        exact ⟨List.getElem?_set_self hkl, by rw [List.length_set]; exact HSL.out⟩
      have HW4 : Hid (WrI w4 g 0 (lkM ev n k 0)) := hW3.but hBut4 hgG
      have HA4 : Hid (At 24 w4 eb [.int .i64 xt, .int .i64 xk, .int .i64 xo]) := hBut4.at (hA2.below hb3) hebG
      rw [← hg, ← heb]
      clear hown3 hgrow3 hw2 hA2 hb2 hb3 hW3 hbo hBut4 hB3 hhs' hs2 HLy HSL hkl hv0 hB q1 q2 q3 heb hg htop
      have s1 := fun u => runE_slice_to u (some ⟨ga, oa, none⟩) m c k (k : Int) rfl (by omega)
      go_wp2_with fail
      rw [← hw4]
      clear hw4 y1 y2
      go_loopw [29] (fun t wr => ∃ j : Nat, j ≤ k ∧ t = .int .i64 j ∧ Hid (Lay w.heap.size top wr G n hs' ((List.range k).map (lkL ev n))) ∧ Hid (WrI wr g 0 (lkM ev n k j)) ∧ Hid (At 24 wr eb [.int .i64 xt, .int .i64 xk, .int .i64 xo]) ∧ Hid (Below w.heap.size w wr)) (fun t _ => k - (intOf t).toNat)
      case atStart => exact ⟨0, Nat.zero_le _, rfl, HL4.out, HW4.out, HA4.out, HB4.out⟩
      case round =>
        obtain ⟨j, hjk, rfl, hLr, hWr, hAr, hBr⟩ := hrel
        clear HL4 HW4 HA4 HB4
        by_cases hlj : j < k
        · obtain ⟨y, hy⟩ : ∃ y, es[j]? = some y := ⟨es[j]'(by rw [HM0.out]; omega), by rw [List.getElem?_eq_getElem]⟩
          obtain ⟨ga2, oa2, hga2, hr⟩ := (HE.out.1.below hBr.out).at j y hy
          cases hga2
          obtain ⟨q1, q2, q3⟩ := range_cells hr
          have HYV : Hid (ev j = y) := by show ev j = y; rw [hev.out]; exact evAt_eq hy
          have HN : Hid (∀ u, Calls Try.prog 49 #[.agg y.cells.toArray, .agg #[.int .i64 xt, .int .i64 xk, .int .i64 xo]] u fun r w' => r = .returned (.bool (lockR ev j k)) ∧ Below u.heap.size u w') := fun u => by
            rw [lockR_eq, HYV.out, HXV.out]
            exact isNextByLocks_any y ⟨xt, xk, xo⟩ u
          obtain ⟨gj, cj, z2', f2, f3, f4, f5, f6⟩ := hLr.out.at (map_range_at (lkL ev n) hlj)
          obtain ⟨yt, yk, yo⟩ := y
          simp only [Ev.cells] at HN
          dsimp only at q1 q2 q3
          have c0 : wr.cell? ⟨eb, 0, none⟩ = some (.int .i64 xt) := hAr.out.cell 0
          have c1 : wr.cell? ⟨eb, 1, none⟩ = some (.int .i64 xk) := hAr.out.cell 1
          have c2 : wr.cell? ⟨eb, 2, none⟩ = some (.int .i64 xo) := hAr.out.cell 2
          clear hr hy HYV
          have hbx : Below wr.heap.size wr (wr.alloc (.cells #[.int .i64 yt, .int .i64 yk, .int .i64 yo] 24)) := (Below.refl _ wr).alloc (Nat.le_refl _) _
          have HBX : Hid (Below wr.heap.size wr (wr.alloc (.cells #[.int .i64 yt, .int .i64 yk, .int .i64 yo] 24))) := hbx
          have d0 := (hbx.cell (lt_of_cell c0)).trans c0
          have d1 := (hbx.cell (lt_of_cell c1)).trans c1
          have d2 := (hbx.cell (lt_of_cell c2)).trans c2
          clear hbx
          cases hR : lockR ev j k with
          | false =>
            rw [hR] at HN
            have HR : Hid (lockR ev j k = false) := hR
            clear hR
            go_wp2_with (go_at_call 49; refine (HN.out _).mono ?_; rintro _ w7 ⟨rfl, hb7⟩)
            have hb : Below wr.heap.size wr w7 := HBX.out.trans (hb7.mono HBX.out.size)
            have HW : Hid (WrI w7 g 0 (lkM ev n k (j + 1))) := by
              rw [lkM_no HR.out]
              exact hWr.out.below hb
            go_roundw
            case rel => exact ⟨j + 1, by omega, by go_num, hLr.out.below hb, HW.out, hAr.out.below hb, hBr.out.trans (hb.mono hBr.out.size)⟩
            case measure => simp [intOf]; omega
          | true =>
            rw [hR] at HN
            have HR : Hid (lockR ev j k = true) := hR
            clear hR
            go_wp2_with (go_at_call 49; refine (HN.out _).mono ?_; rintro _ w7 ⟨rfl, hb7⟩)
            have hb : Below wr.heap.size wr w7 := HBX.out.trans (hb7.mono HBX.out.size)
            have HL7 : Hid (Lay w.heap.size top w7 G n hs' ((List.range k).map (lkL ev n))) := hLr.out.below hb
            have HW7 : Hid (WrI w7 g 0 (lkM ev n k j) ∧ WrI w7 gj 0 (lkL ev n j)) := ⟨hWr.out.below hb, f6.below hb⟩
            have HA7 : Hid (At 24 w7 eb [.int .i64 xt, .int .i64 xk, .int .i64 xo]) := hAr.out.below hb
            have HB7 : Hid (Below w.heap.size w w7) := hBr.out.trans (hb.mono hBr.out.size)
            have z1 : w7.cell? ⟨G, k, none⟩ = some (.slice (some ⟨g, 0, none⟩) n n) := (HL7.out.blk.cell k).trans HG4.out.1
            have z2 : w7.cell? ⟨G, j, none⟩ = some (.slice (some ⟨gj, 0, none⟩) n cj) := (hb.cell (lt_of_cell z2')).trans z2'
            have HLi : Hid (∀ u, Below w7.heap.size w7 u → Calls Try.prog 50 #[.slice (some ⟨g, 0, none⟩) n n, .slice (some ⟨gj, 0, none⟩) n cj] u fun r w' => r = .returned (.tuple #[]) ∧ WrI w' g 0 (lkM ev n k (j + 1)) ∧ Ovr g 0 (0 + n) u w') := fun u hu => by
              have := lift_any g 0 n (lkM ev n k j) (some ⟨gj, 0, none⟩) cj (lkL ev n j) u (HW7.out.1.below hu) ((HW7.out.2.below hu).row) (fun g' o' h => by cases h; left; omega) (by rw [lkL_length, lkM_length]) (by rw [lkM_length]; omega) (by rw [lkM_length]; exact Nat.le_refl _) (by rw [lkL_length]; exact f2)
              rw [lkM_length, lkL_length, ← lkM_yes HR.out] at this
              exact this
            clear hb hb7 hLr hWr hAr hBr HBX HN q1 q2 q3 c0 c1 c2 d0 d1 d2 f6 z2'
            have i2 : j < m := by omega
            have hS0a : Below w7.heap.size w7 w7.drew := Below.drew (Below.refl _ _)
            refine wp_region_S (S := fun xS => Below w7.heap.size w7 xS) (St := [8]) (by kernel_rfl) hS0a ?_
            obtain ⟨x0a, hx0⟩ : ∃ x, x = w7.drew := ⟨_, rfl⟩
            rw [← hx0] at hS0a  ⊢
            clear hx0
            intro hH
            refine wpAnyS_pure (i := 0) (oi := { dst := some 37, op := .move (.tmp 5), type := _, pos := _, after := _, guard := none }) (v := .slice (some ⟨G, 0, none⟩) m m) rfl (by kernel_rfl) (by kernel_rfl) (by kernel_rfl) (by kernel_rfl) (fun _ _ _ h => h) (Or.inl ⟨by rfl, ?_⟩) hH (fun hH => ?_)
            · intro wS hSw
              go_simp
            simp only [Act.put, List.setIfInBounds_toArray, List.set_cons_zero, List.set_cons_succ]
            refine wpAnyS_pure (i := 1) (oi := { dst := some 38, op := .move (.tmp 6), type := _, pos := _, after := _, guard := none }) (v := .int .i64 (k : Int)) rfl (by kernel_rfl) (by kernel_rfl) (by kernel_rfl) (by kernel_rfl) (fun _ _ _ h => h) (Or.inl ⟨by rfl, ?_⟩) hH (fun hH => ?_)
            · intro wS hSw
              go_simp
            simp only [Act.put, List.setIfInBounds_toArray, List.set_cons_zero, List.set_cons_succ]
            refine wpAnyS_pure (i := 2) (oi := { dst := some 39, op := .indexAddr 46 (.tmp 37) (.tmp 38), type := _, pos := _, after := _, guard := none }) (v := .pointer (some ⟨G, k, none⟩)) rfl (by kernel_rfl) (by kernel_rfl) (by kernel_rfl) (by kernel_rfl) (fun _ _ _ h => h) (Or.inl ⟨by rfl, ?_⟩) hH (fun hH => ?_)
            · intro wS hSw
              go_simp
            simp only [Act.put, List.setIfInBounds_toArray, List.set_cons_zero, List.set_cons_succ]
            refine wpAnyS_take [8] (i := 3) (oi := { dst := some 40, op := .load 32 (.tmp 39), type := _, pos := _, after := _, guard := none }) (v := .slice (some ⟨g, 0, none⟩) n n) rfl (by kernel_rfl) (by kernel_rfl) (by kernel_rfl) (by kernel_rfl) (by kernel_rfl) (by kernel_rfl) (by kernel_rfl) (fun _ _ _ h => h) (Or.inl ⟨by rfl, ?_⟩) hH (fun hH => ?_)
            · intro wS hSw
              have z0 := (hSw.cell (lt_of_cell z1)).trans z1
              go_simp
            simp only [Act.put, List.setIfInBounds_toArray, List.set_cons_zero, List.set_cons_succ]
            refine wpAnyS_pure (i := 4) (oi := { dst := some 41, op := .move (.tmp 5), type := _, pos := _, after := _, guard := none }) (v := .slice (some ⟨G, 0, none⟩) m m) rfl (by kernel_rfl) (by kernel_rfl) (by kernel_rfl) (by kernel_rfl) (fun _ _ _ h => h) (Or.inl ⟨by rfl, ?_⟩) hH (fun hH => ?_)
            · intro wS hSw
              go_simp
            simp only [Act.put, List.setIfInBounds_toArray, List.set_cons_zero, List.set_cons_succ]
            refine wpAnyS_pure (i := 5) (oi := { dst := some 42, op := .move (.tmp 8), type := _, pos := _, after := _, guard := none }) (v := .int .i64 (j : Int)) rfl (by kernel_rfl) (by kernel_rfl) (by kernel_rfl) (by kernel_rfl) (fun _ _ _ h => h) (Or.inl ⟨by rfl, ?_⟩) hH (fun hH => ?_)
            · intro wS hSw
              go_simp
            simp only [Act.put, List.setIfInBounds_toArray, List.set_cons_zero, List.set_cons_succ]
            refine wpAnyS_pure (i := 6) (oi := { dst := some 43, op := .indexAddr 46 (.tmp 41) (.tmp 42), type := _, pos := _, after := _, guard := none }) (v := .pointer (some ⟨G, j, none⟩)) rfl (by kernel_rfl) (by kernel_rfl) (by kernel_rfl) (by kernel_rfl) (fun _ _ _ h => h) (Or.inl ⟨by rfl, ?_⟩) hH (fun hH => ?_)
            · intro wS hSw
              go_simp
            simp only [Act.put, List.setIfInBounds_toArray, List.set_cons_zero, List.set_cons_succ]
            refine wpAnyS_take [8] (i := 7) (oi := { dst := some 44, op := .load 32 (.tmp 43), type := _, pos := _, after := _, guard := none }) (v := .slice (some ⟨gj, 0, none⟩) n cj) rfl (by kernel_rfl) (by kernel_rfl) (by kernel_rfl) (by kernel_rfl) (by kernel_rfl) (by kernel_rfl) (by kernel_rfl) (fun _ _ _ h => h) (Or.inl ⟨by rfl, ?_⟩) hH (fun hH => ?_)
            · intro wS hSw
              have z0 := (hSw.cell (lt_of_cell z2)).trans z2
              go_simp
            simp only [Act.put, List.setIfInBounds_toArray, List.set_cons_zero, List.set_cons_succ]
            refine wpAnyS_ready (rs := [8]) (by kernel_rfl) (by simp) ?_
            refine AllReadyS.cons (o := { dst := some 45, op := .call { callee := .value (.func 50), args := #[.tmp 40, .tmp 44], argTypes := #[32, 32] }, type := _, pos := _, after := _, guard := none }) rfl (fun K hK => ?_) AllReadyS.nil
            rw [if_pos (by rfl)]
            go_wp2_with (go_at_call 50; refine (HLi.out x0a hS0a).mono ?_; rintro e x1a ⟨rfl, hW1a, hO1a⟩)
            refine hK.out _ _ (Hold.over (s := 8) (by decide) (by rfl)) (fun hH => ?_)
            clear hK K
            refine wpAnyS_done (by kernel_rfl) ?_ _

            have hbt : But g w7 x1a := (But.of_below hS0a).trans hO1a.but
            have HLx : Hid (Lay w.heap.size top x1a G n hs' ((List.range k).map (lkL ev n))) := HL7.out.but hbt hgt
            have HAx : Hid (At 24 x1a eb [.int .i64 xt, .int .i64 xk, .int .i64 xo]) := hbt.at HA7.out hebg
            have HBx : Hid (Below w.heap.size w x1a) := hbt.below HB7.out hgb HB7.out.size
            have HWx : Hid (WrI x1a g 0 (lkM ev n k (j + 1))) := hW1a
            clear hW1a hO1a hS0a hbt z1 z2
            go_wp2_with fail
            go_roundw
            case rel => exact ⟨j + 1, by omega, by go_num, HLx.out, HWx.out, HAx.out, HBx.out⟩
            case measure => simp [intOf]; omega
        · obtain ⟨w8, rfl⟩ : ∃ x, x = wr := ⟨wr, rfl⟩
          have hjk2 : j = k := by omega
          rw [hjk2] at hWr
          obtain ⟨cs, hA, hOn, hcl⟩ := hWr.out.parts
          rw [lkM_length] at hcl
          obtain ⟨v, hvv⟩ : ∃ v : Nat, (lkM ev n k k)[s]? = some (v : Int) ∧ v ≤ k + 1 := ⟨_, lkM_at hsn, maxN_le k fun i hi _ => by have := lkc_le ev i (s : Int); show lkc ev i _ ≤ _; omega⟩
          have HV : Hid ((lkM ev n k k)[s]? = some (v : Int)) := hvv.1
          have HA8 : Hid (At 3 w8 g cs) := hA
          have HL8 : Hid (s < cs.length) := by show s < _; omega
          have HOn : Hid (OnI cs (lkM ev n k k) ∧ n ≤ cs.length) := ⟨hOn, hcl⟩
          have z1 : w8.cell? ⟨G, k, none⟩ = some (.slice (some ⟨g, 0, none⟩) n n) := (hLr.out.blk.cell k).trans HG4.out.1
          have z2 : w8.cell? ⟨eb, 0, none⟩ = some (.int .i64 (s : Int)) := by rw [← HS0.out]; exact hAr.out.cell 0
          have z3 : w8.cell? ⟨g, s, none⟩ = some (.int .i64 (v : Int)) := (hA.cell s).trans (hOn s _ HV.out)
          have hvb := hvv.2
          have hwp : IntKind.i64.wrap ((v : Int) + 1) = (v : Int) + 1 := by rw [IntKind.wrap_i64]; omega
          have HP : Hid ((lkM ev n k k).set s ((v : Int) + 1) = lkL ev n k) := by
            show _ = _
            exact lkM_done (by rw [HXV.out]; exact HS0.out) hsn _ HV.out
          clear hA hOn hcl hvv hWr hjk2
          go_wp2_with fail
          have hS0b : Below w8.heap.size w8 w8.drew := Below.drew (Below.refl _ _)
          refine wp_region_S (S := fun xS => Below w8.heap.size w8 xS) (St := [10]) (by kernel_rfl) hS0b ?_
          obtain ⟨x0b, hx0⟩ : ∃ x, x = w8.drew := ⟨_, rfl⟩
          rw [← hx0] at hS0b  ⊢
          clear hx0
          intro hH
          refine wpAnyS_pure (i := 0) (oi := { dst := some 47, op := .move (.tmp 5), type := _, pos := _, after := _, guard := none }) (v := .slice (some ⟨G, 0, none⟩) m m) rfl (by kernel_rfl) (by kernel_rfl) (by kernel_rfl) (by kernel_rfl) (fun _ _ _ h => h) (Or.inl ⟨by rfl, ?_⟩) hH (fun hH => ?_)
          · intro wS hSw
            go_simp
          simp only [Act.put, List.setIfInBounds_toArray, List.set_cons_zero, List.set_cons_succ]
          refine wpAnyS_pure (i := 1) (oi := { dst := some 48, op := .move (.tmp 6), type := _, pos := _, after := _, guard := none }) (v := .int .i64 (k : Int)) rfl (by kernel_rfl) (by kernel_rfl) (by kernel_rfl) (by kernel_rfl) (fun _ _ _ h => h) (Or.inl ⟨by rfl, ?_⟩) hH (fun hH => ?_)
          · intro wS hSw
            go_simp
          simp only [Act.put, List.setIfInBounds_toArray, List.set_cons_zero, List.set_cons_succ]
          refine wpAnyS_pure (i := 2) (oi := { dst := some 49, op := .indexAddr 46 (.tmp 47) (.tmp 48), type := _, pos := _, after := _, guard := none }) (v := .pointer (some ⟨G, k, none⟩)) rfl (by kernel_rfl) (by kernel_rfl) (by kernel_rfl) (by kernel_rfl) (fun _ _ _ h => h) (Or.inl ⟨by rfl, ?_⟩) hH (fun hH => ?_)
          · intro wS hSw
            go_simp
          simp only [Act.put, List.setIfInBounds_toArray, List.set_cons_zero, List.set_cons_succ]
          refine wpAnyS_take [6, 7, 8, 9, 10] (i := 3) (oi := { dst := some 50, op := .load 32 (.tmp 49), type := _, pos := _, after := _, guard := none }) (v := .slice (some ⟨g, 0, none⟩) n n) rfl (by kernel_rfl) (by kernel_rfl) (by kernel_rfl) (by kernel_rfl) (by kernel_rfl) (by kernel_rfl) (by kernel_rfl) (fun _ _ _ h => h) (Or.inl ⟨by rfl, ?_⟩) hH (fun hH => ?_)
          · intro wS hSw
            have z0 := (hSw.cell (lt_of_cell z1)).trans z1
            go_simp
          simp only [Act.put, List.setIfInBounds_toArray, List.set_cons_zero, List.set_cons_succ]
          refine wpAnyS_pure (i := 4) (oi := { dst := some 51, op := .fieldAddr 24 (.tmp 7) 0, type := _, pos := _, after := _, guard := none }) (v := .pointer (some ⟨eb, 0, none⟩)) rfl (by kernel_rfl) (by kernel_rfl) (by kernel_rfl) (by kernel_rfl) (fun _ _ _ h => h) (Or.inl ⟨by rfl, ?_⟩) hH (fun hH => ?_)
          · intro wS hSw
            go_simp
          simp only [Act.put, List.setIfInBounds_toArray, List.set_cons_zero, List.set_cons_succ]
          refine wpAnyS_take [6, 7, 8, 9, 10] (i := 5) (oi := { dst := some 52, op := .load 3 (.tmp 51), type := _, pos := _, after := _, guard := none }) (v := .int .i64 (s : Int)) rfl (by kernel_rfl) (by kernel_rfl) (by kernel_rfl) (by kernel_rfl) (by kernel_rfl) (by kernel_rfl) (by kernel_rfl) (fun _ _ _ h => h) (Or.inl ⟨by rfl, ?_⟩) hH (fun hH => ?_)
          · intro wS hSw
            have z0 := (hSw.cell (lt_of_cell z2)).trans z2
            go_simp
          simp only [Act.put, List.setIfInBounds_toArray, List.set_cons_zero, List.set_cons_succ]
          refine wpAnyS_pure (i := 6) (oi := { dst := some 53, op := .indexAddr 32 (.tmp 50) (.tmp 52), type := _, pos := _, after := _, guard := none }) (v := .pointer (some ⟨g, s, none⟩)) rfl (by kernel_rfl) (by kernel_rfl) (by kernel_rfl) (by kernel_rfl) (fun _ _ _ h => h) (Or.inl ⟨by rfl, ?_⟩) hH (fun hH => ?_)
          · intro wS hSw
            go_simp
          simp only [Act.put, List.setIfInBounds_toArray, List.set_cons_zero, List.set_cons_succ]
          refine wpAnyS_take [8, 9, 10] (i := 7) (oi := { dst := some 54, op := .load 3 (.tmp 53), type := _, pos := _, after := _, guard := none }) (v := .int .i64 (v : Int)) rfl (by kernel_rfl) (by kernel_rfl) (by kernel_rfl) (by kernel_rfl) (by kernel_rfl) (by kernel_rfl) (by kernel_rfl) (fun _ _ _ h => h) (Or.inl ⟨by rfl, ?_⟩) hH (fun hH => ?_)
          · intro wS hSw
            have z0 := (hSw.cell (lt_of_cell z3)).trans z3
            go_simp
          simp only [Act.put, List.setIfInBounds_toArray, List.set_cons_zero, List.set_cons_succ]
          refine wpAnyS_pure (i := 8) (oi := { dst := some 55, op := .binOp .add 3 (.tmp 54) (.const (.int .i64 1)) 3, type := _, pos := _, after := _, guard := none }) (v := .int .i64 ((v : Int) + 1)) rfl (by kernel_rfl) (by kernel_rfl) (by kernel_rfl) (by kernel_rfl) (fun _ _ _ h => h) (Or.inl ⟨by rfl, ?_⟩) hH (fun hH => ?_)
          · intro wS hSw
            (go_simp; try exact hwp)
          simp only [Act.put, List.setIfInBounds_toArray, List.set_cons_zero, List.set_cons_succ]
          refine wpAnyS_pure (i := 9) (oi := { dst := some 56, op := .indexAddr 32 (.tmp 50) (.tmp 52), type := _, pos := _, after := _, guard := none }) (v := .pointer (some ⟨g, s, none⟩)) rfl (by kernel_rfl) (by kernel_rfl) (by kernel_rfl) (by kernel_rfl) (fun _ _ _ h => h) (Or.inl ⟨by rfl, ?_⟩) hH (fun hH => ?_)
          · intro wS hSw
            go_simp
          simp only [Act.put, List.setIfInBounds_toArray, List.set_cons_zero, List.set_cons_succ]
          refine wpAnyS_ready (rs := [10]) (by kernel_rfl) (by simp) ?_
          refine AllReadyS.cons (o := { dst := none, op := .store 3 (.tmp 56) (.tmp 55), type := _, pos := _, after := _, guard := none }) rfl (fun K hK => ?_) AllReadyS.nil
          rw [if_pos (by rfl)]
          refine wp_store_one 3 (.tmp 56) (.tmp 55) rfl g (s) (.int .i64 ((v : Int) + 1)) rfl rfl 3 _ (HA8.out.below hS0b) (by have := HL8.out; omega) (by kernel_rfl) rfl rfl ?_
          intro x1b hA1b hb1b hs1b
          refine hK.out _ _ (Hold.over (s := 10) (by decide) (by rfl)) (fun hH => ?_)
          clear hK K
          refine wpAnyS_done (by kernel_rfl) ?_ _

          have hbt : But g w8 x1b := (But.of_below hS0b).trans hb1b
          have HLf : Hid (∃ (hs : List Value) (top : Nat), hs.length = m ∧ Lay w.heap.size top x1b G n hs ((List.range (k + 1)).map (lkL ev n))) := by
            refine ⟨hs', x1b.heap.size, HG4.out.2, ?_⟩
            rw [map_range_succ]
            refine (hLr.out.but hbt hgt).snoc (g := g) (c := n) ?_ (Nat.le_refl _) hgb hA1b.lt ?_ (Nat.le_refl _) hgG (lkL_length _ _ _) ?_
            · rw [List.length_map, List.length_range]; exact HG4.out.1
            · have := (hLr.out.but hbt hgt).tp; exact this
            · rw [← HP.out]
              exact (HOn.out.1.set s _ (by rw [lkM_length]; exact HOn.out.2)).wr hA1b
          have HBf : Hid (Below w.heap.size w x1b) := hbt.below hBr.out hgb hBr.out.size
          clear hA1b hb1b hs1b hS0b z1 z2 z3 hbt
          go_wp2_with fail
          go_roundw
          case rel => exact ⟨k + 1, by omega, by go_num, HLf.out, HBf.out⟩
          case measure => simp [intOf]; omega
    · obtain ⟨hs, top, hsl, hLy⟩ := hL.out
      have hkm : k = m := by omega
      rw [hkm] at hLy
      have HR : Hid (RowII wo (some ⟨G, 0, none⟩) ((List.range m).map (lkL ev n))) := hLy.row (by omega)
      clear hL hLy
      go_wp2_with fail
      go_ret
      exact ⟨G, rfl, HR.out, hB.out⟩
end Go.Proofs.Ytmkhobaclpiceaa
