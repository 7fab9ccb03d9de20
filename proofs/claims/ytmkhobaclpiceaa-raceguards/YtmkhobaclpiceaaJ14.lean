/- The given answer's Races, Wrong. -/
import Derived.Test.YtmkhobaclpiceaaJ10
import Derived.Test.YtmkhobaclpiceaaJ13
namespace Go.Proofs.Ytmkhobaclpiceaa
open Go.RowKit
set_option linter.unusedVariables false
attribute [local go_sem ↓] Go.wp_at_zero Go.wp_at_succ

theorem refWrongU_any (es : List Ev) (n : Int) (a : Option Addr) (c : Nat) (w : World) (h : RowEv w a es) (hl : es.length ≤ 4611686018427387904) (hk : es.length ≤ c) :
    Calls Try.prog 26 #[.slice a es.length c, .int .i64 n] w fun r w' => r = .returned (.int .i64 (wrongZ es n)) ∧ w' = w := by
  have HC := refWrong_any es n a c w h hl hk
  go_enter Try.func26, Try.ntmps26
  go_wp2_with (first | (go_at_call 48; refine HC.mono ?_; rintro _ w1 ⟨rfl, hw⟩; obtain rfl : w = w1 := hw.symm))
  go_ret
  exact ⟨rfl, rfl⟩
theorem own_no {base : Nat} {w : World} {v : Value} {p : Nat → Nat → Bool} {j i : Nat} (h : OwnP base w v (pairsL p j ++ pairsTo p j i)) (hp : p j i = false) : OwnP base w v (pairsL p j ++ pairsTo p j (i + 1)) := by
  rw [pairsTo_no hp]
  exact h
theorem own_next {base : Nat} {w : World} {v : Value} {p : Nat → Nat → Bool} {j i : Nat} (h : OwnP base w v (pairsL p j ++ pairsTo p j i)) (hi : i = j) : OwnP base w v (pairsL p (j + 1)) := by
  rw [pairsL_succ]
  rwa [hi] at h
theorem own_last {base : Nat} {w : World} {v : Value} {p : Nat → Nat → Bool} {j m : Nat} (h : OwnP base w v (pairsL p j)) (hj : j = m) : OwnP base w v (pairsL p m) := by rwa [hj] at h
theorem pairs_bound (p : Nat → Nat → Bool) {j i : Nat} (hj : j ≤ 1023) (hi : i ≤ j) : (pairsL p j ++ pairsTo p j i).length ≤ 1048576 := by
  rw [List.length_append]
  have h1 := pairsL_length p j
  have h2 := pairsTo_length p j i
  have h3 := Nat.mul_le_mul hj hj
  omega

set_option maxRecDepth 100000 in
set_option maxHeartbeats 12800000 in
theorem refRaces_ok (es : List Ev) (n : Int) (a : Option Addr) (c : Nat) (w : World) (hE : RowEv w a es) (hc : es.length ≤ c) (hw : wrongZ es n = 0) :
    Calls Try.prog 9 #[.slice a es.length c, .int .i64 n] w fun r w' => ∃ v, r = .returned (.tuple #[v, .int .i64 0]) ∧ OwnP w.heap.size w' v (pairsL (raceP (evAt es)) es.length) ∧ Below w.heap.size w w' := by
  obtain ⟨-, -, h3, -⟩ := wrongZ_ok hw
  have HW := refWrongU_any es n a c w hE (by omega) hc
  rw [hw] at HW
  have HH := refHeads_any a c es w hE (by omega) hc
  obtain ⟨ev, hev⟩ : ∃ ev, Hid (ev = evAt es) := ⟨_, (rfl : _ = evAt _)⟩
  obtain ⟨m, hm⟩ : ∃ m, Hid (m = es.length) := ⟨_, (rfl : _ = es.length)⟩
  rw [← hev.out, ← hm.out] at HH
  rw [← hm.out] at HW hc h3
  rw [← hev.out, ← hm.out]
  have HE : Hid (RowEv w a es) := hE
  clear hE hw
  go_enter Try.func9, Try.ntmps9
  go_wp2_with (first | (go_at_call 26; refine HW.mono ?_; rintro _ w1 ⟨rfl, hw⟩; obtain rfl : w = w1 := hw.symm; clear hw) | (go_at_call 27; refine HH.mono ?_; rintro _ w2 ⟨vh, L, rfl, hmap, hownH, hin, hb2⟩; refine Hid.out ?_))
  refine hidU ?_
  obtain ⟨ah, ch, rfl, hch, hds⟩ := Hds.of (f := hbB ev) hownH hmap hin
  have HDS : Hid (0 < m → ∃ g, ah = some ⟨g, 0, none⟩ ∧ Hds w2 g m (hbB ev)) := hds
  have HB2 : Hid (Below w.heap.size w w2) := hb2
  clear hownH hmap hin hb2 hds HH HW
  go_wp2_with fail
  go_loopw [8, 9] (fun v t wr => ∃ j : Nat, j ≤ m ∧ t = .int .i64 j ∧ Hid (OwnP w2.heap.size wr v (pairsL (raceP ev) j)) ∧ Hid (Below w2.heap.size w2 wr)) (fun _ t _ => m - (intOf t).toNat)
  case atStart => exact ⟨0, Nat.zero_le _, rfl, OwnP.nil _ _, Below.refl _ _⟩
  case round =>
    obtain ⟨j, hj, rfl, hown0, hB0⟩ := hrel
    obtain ⟨wo, rfl⟩ : ∃ x, x = wr := ⟨wr, rfl⟩
    by_cases hjm : j < m
    · obtain ⟨gh, rfl, HDS2⟩ := HDS.out (by omega)
      have HD2 : Hid (Hds w2 gh m (hbB ev)) := HDS2
      clear HDS2 HDS
      obtain ⟨y, hy⟩ : ∃ x, es[j]? = some x := ⟨es[j]'(by rw [← hm.out]; exact hjm), by rw [List.getElem?_eq_getElem]⟩
      have HY : Hid (es[j]? = some y) := hy
      clear hy
      go_wp2_with fail
      go_loopw [8, 10] (fun v t wr => ∃ i : Nat, i ≤ j ∧ t = .int .i64 i ∧ Hid (OwnP w2.heap.size wr v (pairsL (raceP ev) j ++ pairsTo (raceP ev) j i)) ∧ Hid (Below w2.heap.size w2 wr)) (fun _ t _ => j - (intOf t).toNat)
      case atStart => exact ⟨0, Nat.zero_le _, rfl, (show OwnP _ _ _ _ by rw [pairsTo_zero, List.append_nil]; exact hown0.out), hB0.out⟩
      case round =>
        obtain ⟨i, hi, rfl, hown, hBi⟩ := hrel
        obtain ⟨wi, rfl⟩ : ∃ x, x = wr := ⟨wr, rfl⟩
        clear hB0 hown0
        by_cases hij : i < j
        · have hBw : Hid (Below w.heap.size w wi) := HB2.out.trans (hBi.out.mono HB2.out.size)
          obtain ⟨x, hx⟩ : ∃ x, es[i]? = some x := ⟨es[i]'(by rw [← hm.out]; omega), by rw [List.getElem?_eq_getElem]⟩
          obtain ⟨ga, oa, rfl, hr1⟩ := (HE.out.below hBw.out).at i x hx
          obtain ⟨g2, o2, hg2, hr2⟩ := (HE.out.below hBw.out).at j y HY.out
          cases hg2
          obtain ⟨q1, q2, q3⟩ := range_cells hr1
          obtain ⟨r1, r2, r3⟩ := range_cells hr2
          have e1 : ev i = x := by rw [hev.out]; exact evAt_eq hx
          have e2 : ev j = y := by rw [hev.out]; exact evAt_eq HY.out
          obtain ⟨Dd, hD⟩ : ∃ D, Hid (D = depB x y) := ⟨_, (rfl : _ = depB _ _)⟩
          obtain ⟨Bt, hBt⟩ : ∃ D, Hid (D = btw ev i j j) := ⟨_, (rfl : _ = btw _ _ _ _)⟩
          have HD : Hid (∀ u, Calls Try.prog 28 #[.agg x.cells.toArray, .agg y.cells.toArray] u fun r w' => r = .returned (.bool Dd) ∧ Below u.heap.size u w') := fun u => by rw [hD.out]; exact refDepends_any x y u
          have HBt : Hid (∀ u, Below wi.heap.size wi u → Calls Try.prog 29 #[.slice (some ⟨gh, 0, none⟩) m ch, .int .i64 i, .int .i64 j] u fun r w' => r = .returned (.bool Bt) ∧ Below u.heap.size u w') := fun u hu => by
            rw [hBt.out]
            exact (refBetween_any gh ch m i j ev u ((HD2.out.below hBi.out).below hu) hij hjm hch (by omega)).mono fun r w' ⟨d1, d2⟩ => ⟨d1, by rw [d2]; exact Below.refl _ _⟩
          have HP : Hid (raceP ev j i = (!decide (x.th = y.th) && (Dd && !Bt))) := by show _ = _; rw [hD.out, hBt.out, raceP, e1, e2]
          clear hr1 hr2 hx e1 e2 hD hBt hBw
          have i1 : (i : Int) < (m : Int) := by omega
          have i2 : (j : Int) < (m : Int) := by omega
          have hlenb := pairs_bound (raceP ev) (j := j) (i := i) (by omega) hi
          obtain ⟨xt, xk, xo⟩ := x
          obtain ⟨yt, yk, yo⟩ := y
          dsimp only at q1 q2 q3 r1 r2 r3 HP
          simp only [Ev.cells] at HD
          by_cases hth : xt = yt
          · have hp : raceP ev j i = false := by rw [HP.out, decide_eq_true hth]; rfl
            have hte : (xt == yt) = true := by rw [beq_iff_eq]; exact hth
            have hth : Hid (xt = yt) := hth
            clear HD HBt HP
            go_wp2_with fail
            have hS0a : Below wi.heap.size wi wi.drew := Below.drew (Below.refl _ _)
            refine wp_region_held_drew (S := fun xS => Below wi.heap.size wi xS) (by kernel_rfl) hS0a ?_
            obtain ⟨x0a, hx0⟩ : ∃ x, x = wi.drew := ⟨_, rfl⟩
            rw [← hx0] at hS0a  ⊢
            clear hx0
            intro _
            refine wpAnyH_take (i := 0) (oi := { dst := some 30, op := .move (.tmp 0), type := _, pos := _, after := _, guard := none }) (v := .slice (some ⟨ga, oa, none⟩) m c) rfl (by kernel_rfl) (by kernel_rfl) (by kernel_rfl) (fun _ _ _ h => h) (Or.inl ⟨by rfl, ?_⟩) hS0a ?_
            · intro wS hSw
              go_simp
            simp only [Act.put, List.setIfInBounds_toArray, List.set_cons_zero, List.set_cons_succ]
            refine wpAnyH_take (i := 1) (oi := { dst := some 31, op := .move (.tmp 10), type := _, pos := _, after := _, guard := none }) (v := .int .i64 (i : Int)) rfl (by kernel_rfl) (by kernel_rfl) (by kernel_rfl) (fun _ _ _ h => h) (Or.inl ⟨by rfl, ?_⟩) hS0a ?_
            · intro wS hSw
              go_simp
            simp only [Act.put, List.setIfInBounds_toArray, List.set_cons_zero, List.set_cons_succ]
            refine wpAnyH_take (i := 2) (oi := { dst := some 32, op := .indexAddr 22 (.tmp 30) (.tmp 31), type := _, pos := _, after := _, guard := none }) (v := .pointer (some ⟨ga, oa + i * 3, none⟩)) rfl (by kernel_rfl) (by kernel_rfl) (by kernel_rfl) (fun _ _ _ h => h) (Or.inl ⟨by rfl, ?_⟩) hS0a ?_
            · intro wS hSw
              go_simp
            simp only [Act.put, List.setIfInBounds_toArray, List.set_cons_zero, List.set_cons_succ]
            refine wpAnyH_take (i := 3) (oi := { dst := some 33, op := .fieldAddr 24 (.tmp 32) 0, type := _, pos := _, after := _, guard := none }) (v := .pointer (some ⟨ga, oa + i * 3, none⟩)) rfl (by kernel_rfl) (by kernel_rfl) (by kernel_rfl) (fun _ _ _ h => h) (Or.inl ⟨by rfl, ?_⟩) hS0a ?_
            · intro wS hSw
              go_simp
            simp only [Act.put, List.setIfInBounds_toArray, List.set_cons_zero, List.set_cons_succ]
            refine wpAnyH_take (i := 4) (oi := { dst := some 34, op := .load 3 (.tmp 33), type := _, pos := _, after := _, guard := none }) (v := .int .i64 xt) rfl (by kernel_rfl) (by kernel_rfl) (by kernel_rfl) (fun _ _ _ h => h) (Or.inl ⟨by rfl, ?_⟩) hS0a ?_
            · intro wS hSw
              have z0 := (hSw.cell (lt_of_cell q1)).trans q1
              go_simp
            simp only [Act.put, List.setIfInBounds_toArray, List.set_cons_zero, List.set_cons_succ]
            refine wpAnyH_take (i := 5) (oi := { dst := some 35, op := .move (.tmp 0), type := _, pos := _, after := _, guard := none }) (v := .slice (some ⟨ga, oa, none⟩) m c) rfl (by kernel_rfl) (by kernel_rfl) (by kernel_rfl) (fun _ _ _ h => h) (Or.inl ⟨by rfl, ?_⟩) hS0a ?_
            · intro wS hSw
              go_simp
            simp only [Act.put, List.setIfInBounds_toArray, List.set_cons_zero, List.set_cons_succ]
            refine wpAnyH_take (i := 6) (oi := { dst := some 36, op := .move (.tmp 9), type := _, pos := _, after := _, guard := none }) (v := .int .i64 (j : Int)) rfl (by kernel_rfl) (by kernel_rfl) (by kernel_rfl) (fun _ _ _ h => h) (Or.inl ⟨by rfl, ?_⟩) hS0a ?_
            · intro wS hSw
              go_simp
            simp only [Act.put, List.setIfInBounds_toArray, List.set_cons_zero, List.set_cons_succ]
            refine wpAnyH_take (i := 7) (oi := { dst := some 37, op := .indexAddr 22 (.tmp 35) (.tmp 36), type := _, pos := _, after := _, guard := none }) (v := .pointer (some ⟨ga, oa + j * 3, none⟩)) rfl (by kernel_rfl) (by kernel_rfl) (by kernel_rfl) (fun _ _ _ h => h) (Or.inl ⟨by rfl, ?_⟩) hS0a ?_
            · intro wS hSw
              go_simp
            simp only [Act.put, List.setIfInBounds_toArray, List.set_cons_zero, List.set_cons_succ]
            refine wpAnyH_take (i := 8) (oi := { dst := some 38, op := .fieldAddr 24 (.tmp 37) 0, type := _, pos := _, after := _, guard := none }) (v := .pointer (some ⟨ga, oa + j * 3, none⟩)) rfl (by kernel_rfl) (by kernel_rfl) (by kernel_rfl) (fun _ _ _ h => h) (Or.inl ⟨by rfl, ?_⟩) hS0a ?_
            · intro wS hSw
              go_simp
            simp only [Act.put, List.setIfInBounds_toArray, List.set_cons_zero, List.set_cons_succ]
            refine wpAnyH_take (i := 9) (oi := { dst := some 39, op := .load 3 (.tmp 38), type := _, pos := _, after := _, guard := none }) (v := .int .i64 yt) rfl (by kernel_rfl) (by kernel_rfl) (by kernel_rfl) (fun _ _ _ h => h) (Or.inl ⟨by rfl, ?_⟩) hS0a ?_
            · intro wS hSw
              have z0 := (hSw.cell (lt_of_cell r1)).trans r1
              go_simp
            simp only [Act.put, List.setIfInBounds_toArray, List.set_cons_zero, List.set_cons_succ]
            refine wpAnyH_take (i := 10) (oi := { dst := some 40, op := .binOp .neq 3 (.tmp 34) (.tmp 39) 3, type := _, pos := _, after := _, guard := none }) (v := .bool false) rfl (by kernel_rfl) (by kernel_rfl) (by kernel_rfl) (fun _ _ _ h => h) (Or.inl ⟨by rfl, ?_⟩) hS0a ?_
            · intro wS hSw
              (go_simp; try exact hth.out)
            simp only [Act.put, List.setIfInBounds_toArray, List.set_cons_zero, List.set_cons_succ]
            refine wpAnyH_take (i := 11) (oi := { dst := some 41, op := .move (.tmp 40), type := _, pos := _, after := _, guard := none }) (v := .bool false) rfl (by kernel_rfl) (by kernel_rfl) (by kernel_rfl) (fun _ _ _ h => h) (Or.inl ⟨by rfl, ?_⟩) hS0a ?_
            · intro wS hSw
              go_simp
            simp only [Act.put, List.setIfInBounds_toArray, List.set_cons_zero, List.set_cons_succ]
            refine wpAnyH_take (i := 12) (oi := { dst := some 42, op := .move (.tmp 0), type := _, pos := _, after := _, guard := some (11, true) }) (v := undef) rfl (by kernel_rfl) (by kernel_rfl) (by kernel_rfl) (fun _ _ _ h => h) (Or.inr ⟨by rfl, rfl⟩) hS0a ?_
            simp only [Act.put, List.setIfInBounds_toArray, List.set_cons_zero, List.set_cons_succ]
            refine wpAnyH_take (i := 13) (oi := { dst := some 43, op := .move (.tmp 10), type := _, pos := _, after := _, guard := some (11, true) }) (v := undef) rfl (by kernel_rfl) (by kernel_rfl) (by kernel_rfl) (fun _ _ _ h => h) (Or.inr ⟨by rfl, rfl⟩) hS0a ?_
            simp only [Act.put, List.setIfInBounds_toArray, List.set_cons_zero, List.set_cons_succ]
            refine wpAnyH_take (i := 14) (oi := { dst := some 44, op := .indexAddr 22 (.tmp 42) (.tmp 43), type := _, pos := _, after := _, guard := some (11, true) }) (v := undef) rfl (by kernel_rfl) (by kernel_rfl) (by kernel_rfl) (fun _ _ _ h => h) (Or.inr ⟨by rfl, rfl⟩) hS0a ?_
            simp only [Act.put, List.setIfInBounds_toArray, List.set_cons_zero, List.set_cons_succ]
            refine wpAnyH_take (i := 15) (oi := { dst := some 45, op := .load 24 (.tmp 44), type := _, pos := _, after := _, guard := some (11, true) }) (v := undef) rfl (by kernel_rfl) (by kernel_rfl) (by kernel_rfl) (fun _ _ _ h => h) (Or.inr ⟨by rfl, rfl⟩) hS0a ?_
            simp only [Act.put, List.setIfInBounds_toArray, List.set_cons_zero, List.set_cons_succ]
            refine wpAnyH_take (i := 16) (oi := { dst := some 46, op := .move (.tmp 0), type := _, pos := _, after := _, guard := some (11, true) }) (v := undef) rfl (by kernel_rfl) (by kernel_rfl) (by kernel_rfl) (fun _ _ _ h => h) (Or.inr ⟨by rfl, rfl⟩) hS0a ?_
            simp only [Act.put, List.setIfInBounds_toArray, List.set_cons_zero, List.set_cons_succ]
            refine wpAnyH_take (i := 17) (oi := { dst := some 47, op := .move (.tmp 9), type := _, pos := _, after := _, guard := some (11, true) }) (v := undef) rfl (by kernel_rfl) (by kernel_rfl) (by kernel_rfl) (fun _ _ _ h => h) (Or.inr ⟨by rfl, rfl⟩) hS0a ?_
            simp only [Act.put, List.setIfInBounds_toArray, List.set_cons_zero, List.set_cons_succ]
            refine wpAnyH_take (i := 18) (oi := { dst := some 48, op := .indexAddr 22 (.tmp 46) (.tmp 47), type := _, pos := _, after := _, guard := some (11, true) }) (v := undef) rfl (by kernel_rfl) (by kernel_rfl) (by kernel_rfl) (fun _ _ _ h => h) (Or.inr ⟨by rfl, rfl⟩) hS0a ?_
            simp only [Act.put, List.setIfInBounds_toArray, List.set_cons_zero, List.set_cons_succ]
            refine wpAnyH_take (i := 19) (oi := { dst := some 49, op := .load 24 (.tmp 48), type := _, pos := _, after := _, guard := some (11, true) }) (v := undef) rfl (by kernel_rfl) (by kernel_rfl) (by kernel_rfl) (fun _ _ _ h => h) (Or.inr ⟨by rfl, rfl⟩) hS0a ?_
            simp only [Act.put, List.setIfInBounds_toArray, List.set_cons_zero, List.set_cons_succ]
            refine wpAnyH_take (i := 20) (oi := { dst := some 50, op := .call { callee := .value (.func 28), args := #[.tmp 45, .tmp 49], argTypes := #[24, 24] }, type := _, pos := _, after := _, guard := some (11, true) }) (v := undef) rfl (by kernel_rfl) (by kernel_rfl) (by kernel_rfl) (fun _ _ _ h => h) (Or.inr ⟨by rfl, rfl⟩) hS0a ?_
            simp only [Act.put, List.setIfInBounds_toArray, List.set_cons_zero, List.set_cons_succ]
            refine wpAnyH_take (i := 21) (oi := { dst := some 51, op := .pick (.tmp 41) (.tmp 50) (.const (.bool false)), type := _, pos := _, after := _, guard := none }) (v := .bool false) rfl (by kernel_rfl) (by kernel_rfl) (by kernel_rfl) (fun _ _ _ h => h) (Or.inl ⟨by rfl, ?_⟩) hS0a ?_
            · intro wS hSw
              go_simp
            simp only [Act.put, List.setIfInBounds_toArray, List.set_cons_zero, List.set_cons_succ]
            refine wpAnyH_take (i := 22) (oi := { dst := some 52, op := .move (.tmp 51), type := _, pos := _, after := _, guard := none }) (v := .bool false) rfl (by kernel_rfl) (by kernel_rfl) (by kernel_rfl) (fun _ _ _ h => h) (Or.inl ⟨by rfl, ?_⟩) hS0a ?_
            · intro wS hSw
              go_simp
            simp only [Act.put, List.setIfInBounds_toArray, List.set_cons_zero, List.set_cons_succ]
            refine wpAnyH_take (i := 23) (oi := { dst := some 53, op := .move (.tmp 7), type := _, pos := _, after := _, guard := some (22, true) }) (v := undef) rfl (by kernel_rfl) (by kernel_rfl) (by kernel_rfl) (fun _ _ _ h => h) (Or.inr ⟨by rfl, rfl⟩) hS0a ?_
            simp only [Act.put, List.setIfInBounds_toArray, List.set_cons_zero, List.set_cons_succ]
            refine wpAnyH_take (i := 24) (oi := { dst := some 54, op := .move (.tmp 10), type := _, pos := _, after := _, guard := some (22, true) }) (v := undef) rfl (by kernel_rfl) (by kernel_rfl) (by kernel_rfl) (fun _ _ _ h => h) (Or.inr ⟨by rfl, rfl⟩) hS0a ?_
            simp only [Act.put, List.setIfInBounds_toArray, List.set_cons_zero, List.set_cons_succ]
            refine wpAnyH_take (i := 25) (oi := { dst := some 55, op := .move (.tmp 9), type := _, pos := _, after := _, guard := some (22, true) }) (v := undef) rfl (by kernel_rfl) (by kernel_rfl) (by kernel_rfl) (fun _ _ _ h => h) (Or.inr ⟨by rfl, rfl⟩) hS0a ?_
            simp only [Act.put, List.setIfInBounds_toArray, List.set_cons_zero, List.set_cons_succ]
            refine wpAnyH_take (i := 26) (oi := { dst := some 56, op := .call { callee := .value (.func 29), args := #[.tmp 53, .tmp 54, .tmp 55], argTypes := #[49, 3, 3] }, type := _, pos := _, after := _, guard := some (22, true) }) (v := undef) rfl (by kernel_rfl) (by kernel_rfl) (by kernel_rfl) (fun _ _ _ h => h) (Or.inr ⟨by rfl, rfl⟩) hS0a ?_
            simp only [Act.put, List.setIfInBounds_toArray, List.set_cons_zero, List.set_cons_succ]
            refine wpAnyH_take (i := 27) (oi := { dst := some 57, op := .unOp .not 4 (.tmp 56), type := _, pos := _, after := _, guard := some (22, true) }) (v := undef) rfl (by kernel_rfl) (by kernel_rfl) (by kernel_rfl) (fun _ _ _ h => h) (Or.inr ⟨by rfl, rfl⟩) hS0a ?_
            simp only [Act.put, List.setIfInBounds_toArray, List.set_cons_zero, List.set_cons_succ]
            refine wpAnyH_take (i := 28) (oi := { dst := some 58, op := .pick (.tmp 52) (.tmp 57) (.const (.bool false)), type := _, pos := _, after := _, guard := none }) (v := .bool false) rfl (by kernel_rfl) (by kernel_rfl) (by kernel_rfl) (fun _ _ _ h => h) (Or.inl ⟨by rfl, ?_⟩) hS0a ?_
            · intro wS hSw
              go_simp
            simp only [Act.put, List.setIfInBounds_toArray, List.set_cons_zero, List.set_cons_succ]
            refine wpAnyH_done (by kernel_rfl) ?_ _
            have hBn : Hid (Below w2.heap.size w2 x0a) := hBi.out.trans (hS0a.mono hBi.out.size)
            have hOn : Hid _ := own_no (hown.out.below hS0a) hp
            clear hS0a q1 q2 q3 r1 r2 r3
            go_wp2_with fail
            go_roundw
            case rel => exact ⟨i + 1, by omega, by go_num, hOn.out, hBn.out⟩
            case measure => simp [intOf]; omega
          · have hte : (xt == yt) = false := by rw [beq_eq_false_iff_ne]; exact hth
            have HP2 : Hid (raceP ev j i = (Dd && !Bt)) := by show _ = _; rw [HP.out, decide_eq_false hth]; rfl
            have hth : Hid (¬ xt = yt) := hth
            clear HP
            cases Dd
            · have hp : raceP ev j i = false := by rw [HP2.out]; rfl
              clear HP2 HBt
              go_wp2_with fail
              have hS0b : Below wi.heap.size wi wi.drew := Below.drew (Below.refl _ _)
              refine wp_region_held_drew (S := fun xS => Below wi.heap.size wi xS) (by kernel_rfl) hS0b ?_
              obtain ⟨x0b, hx0⟩ : ∃ x, x = wi.drew := ⟨_, rfl⟩
              rw [← hx0] at hS0b  ⊢
              clear hx0
              intro _
              refine wpAnyH_take (i := 0) (oi := { dst := some 30, op := .move (.tmp 0), type := _, pos := _, after := _, guard := none }) (v := .slice (some ⟨ga, oa, none⟩) m c) rfl (by kernel_rfl) (by kernel_rfl) (by kernel_rfl) (fun _ _ _ h => h) (Or.inl ⟨by rfl, ?_⟩) hS0b ?_
              · intro wS hSw
                go_simp
              simp only [Act.put, List.setIfInBounds_toArray, List.set_cons_zero, List.set_cons_succ]
              refine wpAnyH_take (i := 1) (oi := { dst := some 31, op := .move (.tmp 10), type := _, pos := _, after := _, guard := none }) (v := .int .i64 (i : Int)) rfl (by kernel_rfl) (by kernel_rfl) (by kernel_rfl) (fun _ _ _ h => h) (Or.inl ⟨by rfl, ?_⟩) hS0b ?_
              · intro wS hSw
                go_simp
              simp only [Act.put, List.setIfInBounds_toArray, List.set_cons_zero, List.set_cons_succ]
              refine wpAnyH_take (i := 2) (oi := { dst := some 32, op := .indexAddr 22 (.tmp 30) (.tmp 31), type := _, pos := _, after := _, guard := none }) (v := .pointer (some ⟨ga, oa + i * 3, none⟩)) rfl (by kernel_rfl) (by kernel_rfl) (by kernel_rfl) (fun _ _ _ h => h) (Or.inl ⟨by rfl, ?_⟩) hS0b ?_
              · intro wS hSw
                go_simp
              simp only [Act.put, List.setIfInBounds_toArray, List.set_cons_zero, List.set_cons_succ]
              refine wpAnyH_take (i := 3) (oi := { dst := some 33, op := .fieldAddr 24 (.tmp 32) 0, type := _, pos := _, after := _, guard := none }) (v := .pointer (some ⟨ga, oa + i * 3, none⟩)) rfl (by kernel_rfl) (by kernel_rfl) (by kernel_rfl) (fun _ _ _ h => h) (Or.inl ⟨by rfl, ?_⟩) hS0b ?_
              · intro wS hSw
                go_simp
              simp only [Act.put, List.setIfInBounds_toArray, List.set_cons_zero, List.set_cons_succ]
              refine wpAnyH_take (i := 4) (oi := { dst := some 34, op := .load 3 (.tmp 33), type := _, pos := _, after := _, guard := none }) (v := .int .i64 xt) rfl (by kernel_rfl) (by kernel_rfl) (by kernel_rfl) (fun _ _ _ h => h) (Or.inl ⟨by rfl, ?_⟩) hS0b ?_
              · intro wS hSw
                have z0 := (hSw.cell (lt_of_cell q1)).trans q1
                go_simp
              simp only [Act.put, List.setIfInBounds_toArray, List.set_cons_zero, List.set_cons_succ]
              refine wpAnyH_take (i := 5) (oi := { dst := some 35, op := .move (.tmp 0), type := _, pos := _, after := _, guard := none }) (v := .slice (some ⟨ga, oa, none⟩) m c) rfl (by kernel_rfl) (by kernel_rfl) (by kernel_rfl) (fun _ _ _ h => h) (Or.inl ⟨by rfl, ?_⟩) hS0b ?_
              · intro wS hSw
                go_simp
              simp only [Act.put, List.setIfInBounds_toArray, List.set_cons_zero, List.set_cons_succ]
              refine wpAnyH_take (i := 6) (oi := { dst := some 36, op := .move (.tmp 9), type := _, pos := _, after := _, guard := none }) (v := .int .i64 (j : Int)) rfl (by kernel_rfl) (by kernel_rfl) (by kernel_rfl) (fun _ _ _ h => h) (Or.inl ⟨by rfl, ?_⟩) hS0b ?_
              · intro wS hSw
                go_simp
              simp only [Act.put, List.setIfInBounds_toArray, List.set_cons_zero, List.set_cons_succ]
              refine wpAnyH_take (i := 7) (oi := { dst := some 37, op := .indexAddr 22 (.tmp 35) (.tmp 36), type := _, pos := _, after := _, guard := none }) (v := .pointer (some ⟨ga, oa + j * 3, none⟩)) rfl (by kernel_rfl) (by kernel_rfl) (by kernel_rfl) (fun _ _ _ h => h) (Or.inl ⟨by rfl, ?_⟩) hS0b ?_
              · intro wS hSw
                go_simp
              simp only [Act.put, List.setIfInBounds_toArray, List.set_cons_zero, List.set_cons_succ]
              refine wpAnyH_take (i := 8) (oi := { dst := some 38, op := .fieldAddr 24 (.tmp 37) 0, type := _, pos := _, after := _, guard := none }) (v := .pointer (some ⟨ga, oa + j * 3, none⟩)) rfl (by kernel_rfl) (by kernel_rfl) (by kernel_rfl) (fun _ _ _ h => h) (Or.inl ⟨by rfl, ?_⟩) hS0b ?_
              · intro wS hSw
                go_simp
              simp only [Act.put, List.setIfInBounds_toArray, List.set_cons_zero, List.set_cons_succ]
              refine wpAnyH_take (i := 9) (oi := { dst := some 39, op := .load 3 (.tmp 38), type := _, pos := _, after := _, guard := none }) (v := .int .i64 yt) rfl (by kernel_rfl) (by kernel_rfl) (by kernel_rfl) (fun _ _ _ h => h) (Or.inl ⟨by rfl, ?_⟩) hS0b ?_
              · intro wS hSw
                have z0 := (hSw.cell (lt_of_cell r1)).trans r1
                go_simp
              simp only [Act.put, List.setIfInBounds_toArray, List.set_cons_zero, List.set_cons_succ]
              refine wpAnyH_take (i := 10) (oi := { dst := some 40, op := .binOp .neq 3 (.tmp 34) (.tmp 39) 3, type := _, pos := _, after := _, guard := none }) (v := .bool true) rfl (by kernel_rfl) (by kernel_rfl) (by kernel_rfl) (fun _ _ _ h => h) (Or.inl ⟨by rfl, ?_⟩) hS0b ?_
              · intro wS hSw
                (go_simp; try exact hth.out)
              simp only [Act.put, List.setIfInBounds_toArray, List.set_cons_zero, List.set_cons_succ]
              refine wpAnyH_take (i := 11) (oi := { dst := some 41, op := .move (.tmp 40), type := _, pos := _, after := _, guard := none }) (v := .bool true) rfl (by kernel_rfl) (by kernel_rfl) (by kernel_rfl) (fun _ _ _ h => h) (Or.inl ⟨by rfl, ?_⟩) hS0b ?_
              · intro wS hSw
                go_simp
              simp only [Act.put, List.setIfInBounds_toArray, List.set_cons_zero, List.set_cons_succ]
              refine wpAnyH_take (i := 12) (oi := { dst := some 42, op := .move (.tmp 0), type := _, pos := _, after := _, guard := some (11, true) }) (v := .slice (some ⟨ga, oa, none⟩) m c) rfl (by kernel_rfl) (by kernel_rfl) (by kernel_rfl) (fun _ _ _ h => h) (Or.inl ⟨by rfl, ?_⟩) hS0b ?_
              · intro wS hSw
                go_simp
              simp only [Act.put, List.setIfInBounds_toArray, List.set_cons_zero, List.set_cons_succ]
              refine wpAnyH_take (i := 13) (oi := { dst := some 43, op := .move (.tmp 10), type := _, pos := _, after := _, guard := some (11, true) }) (v := .int .i64 (i : Int)) rfl (by kernel_rfl) (by kernel_rfl) (by kernel_rfl) (fun _ _ _ h => h) (Or.inl ⟨by rfl, ?_⟩) hS0b ?_
              · intro wS hSw
                go_simp
              simp only [Act.put, List.setIfInBounds_toArray, List.set_cons_zero, List.set_cons_succ]
              refine wpAnyH_take (i := 14) (oi := { dst := some 44, op := .indexAddr 22 (.tmp 42) (.tmp 43), type := _, pos := _, after := _, guard := some (11, true) }) (v := .pointer (some ⟨ga, oa + i * 3, none⟩)) rfl (by kernel_rfl) (by kernel_rfl) (by kernel_rfl) (fun _ _ _ h => h) (Or.inl ⟨by rfl, ?_⟩) hS0b ?_
              · intro wS hSw
                go_simp
              simp only [Act.put, List.setIfInBounds_toArray, List.set_cons_zero, List.set_cons_succ]
              refine wpAnyH_take (i := 15) (oi := { dst := some 45, op := .load 24 (.tmp 44), type := _, pos := _, after := _, guard := some (11, true) }) (v := .agg #[.int .i64 xt, .int .i64 xk, .int .i64 xo]) rfl (by kernel_rfl) (by kernel_rfl) (by kernel_rfl) (fun _ _ _ h => h) (Or.inl ⟨by rfl, ?_⟩) hS0b ?_
              · intro wS hSw
                have z0 := (hSw.cell (lt_of_cell q1)).trans q1
                have z1 := (hSw.cell (lt_of_cell q2)).trans q2
                have z2 := (hSw.cell (lt_of_cell q3)).trans q3
                go_simp
              simp only [Act.put, List.setIfInBounds_toArray, List.set_cons_zero, List.set_cons_succ]
              refine wpAnyH_take (i := 16) (oi := { dst := some 46, op := .move (.tmp 0), type := _, pos := _, after := _, guard := some (11, true) }) (v := .slice (some ⟨ga, oa, none⟩) m c) rfl (by kernel_rfl) (by kernel_rfl) (by kernel_rfl) (fun _ _ _ h => h) (Or.inl ⟨by rfl, ?_⟩) hS0b ?_
              · intro wS hSw
                go_simp
              simp only [Act.put, List.setIfInBounds_toArray, List.set_cons_zero, List.set_cons_succ]
              refine wpAnyH_take (i := 17) (oi := { dst := some 47, op := .move (.tmp 9), type := _, pos := _, after := _, guard := some (11, true) }) (v := .int .i64 (j : Int)) rfl (by kernel_rfl) (by kernel_rfl) (by kernel_rfl) (fun _ _ _ h => h) (Or.inl ⟨by rfl, ?_⟩) hS0b ?_
              · intro wS hSw
                go_simp
              simp only [Act.put, List.setIfInBounds_toArray, List.set_cons_zero, List.set_cons_succ]
              refine wpAnyH_take (i := 18) (oi := { dst := some 48, op := .indexAddr 22 (.tmp 46) (.tmp 47), type := _, pos := _, after := _, guard := some (11, true) }) (v := .pointer (some ⟨ga, oa + j * 3, none⟩)) rfl (by kernel_rfl) (by kernel_rfl) (by kernel_rfl) (fun _ _ _ h => h) (Or.inl ⟨by rfl, ?_⟩) hS0b ?_
              · intro wS hSw
                go_simp
              simp only [Act.put, List.setIfInBounds_toArray, List.set_cons_zero, List.set_cons_succ]
              refine wpAnyH_take (i := 19) (oi := { dst := some 49, op := .load 24 (.tmp 48), type := _, pos := _, after := _, guard := some (11, true) }) (v := .agg #[.int .i64 yt, .int .i64 yk, .int .i64 yo]) rfl (by kernel_rfl) (by kernel_rfl) (by kernel_rfl) (fun _ _ _ h => h) (Or.inl ⟨by rfl, ?_⟩) hS0b ?_
              · intro wS hSw
                have z0 := (hSw.cell (lt_of_cell r1)).trans r1
                have z1 := (hSw.cell (lt_of_cell r2)).trans r2
                have z2 := (hSw.cell (lt_of_cell r3)).trans r3
                go_simp
              simp only [Act.put, List.setIfInBounds_toArray, List.set_cons_zero, List.set_cons_succ]
              refine wpAnyH_ready (rs := [20]) (by kernel_rfl) (by simp) ?_
              refine AllReadyH.cons (o := { dst := some 50, op := .call { callee := .value (.func 28), args := #[.tmp 45, .tmp 49], argTypes := #[24, 24] }, type := _, pos := _, after := _, guard := some (11, true) }) rfl (fun K hK => ?_) AllReadyH.nil
              rw [if_pos (by rfl)]
              have sv1b := hS0b.size
              go_wp2_with (go_at_call 28; refine (HD.out _).mono ?_; rintro e x1b ⟨rfl, hb1b⟩)
              have sz1b := hb1b.size
              have hS1b := hS0b.trans (hb1b.mono hS0b.size)
              refine hK.out _ _ hS1b (fun _ => ?_)
              clear hK K
              refine wpAnyH_take (i := 21) (oi := { dst := some 51, op := .pick (.tmp 41) (.tmp 50) (.const (.bool false)), type := _, pos := _, after := _, guard := none }) (v := .bool false) rfl (by kernel_rfl) (by kernel_rfl) (by kernel_rfl) (fun _ _ _ h => h) (Or.inl ⟨by rfl, ?_⟩) hS1b ?_
              · intro wS hSw
                go_simp
              simp only [Act.put, List.setIfInBounds_toArray, List.set_cons_zero, List.set_cons_succ]
              refine wpAnyH_take (i := 22) (oi := { dst := some 52, op := .move (.tmp 51), type := _, pos := _, after := _, guard := none }) (v := .bool false) rfl (by kernel_rfl) (by kernel_rfl) (by kernel_rfl) (fun _ _ _ h => h) (Or.inl ⟨by rfl, ?_⟩) hS1b ?_
              · intro wS hSw
                go_simp
              simp only [Act.put, List.setIfInBounds_toArray, List.set_cons_zero, List.set_cons_succ]
              refine wpAnyH_take (i := 23) (oi := { dst := some 53, op := .move (.tmp 7), type := _, pos := _, after := _, guard := some (22, true) }) (v := undef) rfl (by kernel_rfl) (by kernel_rfl) (by kernel_rfl) (fun _ _ _ h => h) (Or.inr ⟨by rfl, rfl⟩) hS1b ?_
              simp only [Act.put, List.setIfInBounds_toArray, List.set_cons_zero, List.set_cons_succ]
              refine wpAnyH_take (i := 24) (oi := { dst := some 54, op := .move (.tmp 10), type := _, pos := _, after := _, guard := some (22, true) }) (v := undef) rfl (by kernel_rfl) (by kernel_rfl) (by kernel_rfl) (fun _ _ _ h => h) (Or.inr ⟨by rfl, rfl⟩) hS1b ?_
              simp only [Act.put, List.setIfInBounds_toArray, List.set_cons_zero, List.set_cons_succ]
              refine wpAnyH_take (i := 25) (oi := { dst := some 55, op := .move (.tmp 9), type := _, pos := _, after := _, guard := some (22, true) }) (v := undef) rfl (by kernel_rfl) (by kernel_rfl) (by kernel_rfl) (fun _ _ _ h => h) (Or.inr ⟨by rfl, rfl⟩) hS1b ?_
              simp only [Act.put, List.setIfInBounds_toArray, List.set_cons_zero, List.set_cons_succ]
              refine wpAnyH_take (i := 26) (oi := { dst := some 56, op := .call { callee := .value (.func 29), args := #[.tmp 53, .tmp 54, .tmp 55], argTypes := #[49, 3, 3] }, type := _, pos := _, after := _, guard := some (22, true) }) (v := undef) rfl (by kernel_rfl) (by kernel_rfl) (by kernel_rfl) (fun _ _ _ h => h) (Or.inr ⟨by rfl, rfl⟩) hS1b ?_
              simp only [Act.put, List.setIfInBounds_toArray, List.set_cons_zero, List.set_cons_succ]
              refine wpAnyH_take (i := 27) (oi := { dst := some 57, op := .unOp .not 4 (.tmp 56), type := _, pos := _, after := _, guard := some (22, true) }) (v := undef) rfl (by kernel_rfl) (by kernel_rfl) (by kernel_rfl) (fun _ _ _ h => h) (Or.inr ⟨by rfl, rfl⟩) hS1b ?_
              simp only [Act.put, List.setIfInBounds_toArray, List.set_cons_zero, List.set_cons_succ]
              refine wpAnyH_take (i := 28) (oi := { dst := some 58, op := .pick (.tmp 52) (.tmp 57) (.const (.bool false)), type := _, pos := _, after := _, guard := none }) (v := .bool false) rfl (by kernel_rfl) (by kernel_rfl) (by kernel_rfl) (fun _ _ _ h => h) (Or.inl ⟨by rfl, ?_⟩) hS1b ?_
              · intro wS hSw
                go_simp
              simp only [Act.put, List.setIfInBounds_toArray, List.set_cons_zero, List.set_cons_succ]
              refine wpAnyH_done (by kernel_rfl) ?_ _
              have hBn : Hid (Below w2.heap.size w2 x1b) := hBi.out.trans (hS1b.mono hBi.out.size)
              have hOn : Hid _ := own_no (hown.out.below hS1b) hp
              clear hS0b q1 q2 q3 r1 r2 r3
              go_wp2_with fail
              go_roundw
              case rel => exact ⟨i + 1, by omega, by go_num, hOn.out, hBn.out⟩
              case measure => simp [intOf]; omega
            · cases Bt
              · have hp : raceP ev j i = true := by rw [HP2.out]; rfl
                clear HP2
                go_wp2_with fail
                have hS0c : Below wi.heap.size wi wi.drew := Below.drew (Below.refl _ _)
                refine wp_region_held_drew (S := fun xS => Below wi.heap.size wi xS) (by kernel_rfl) hS0c ?_
                obtain ⟨x0c, hx0⟩ : ∃ x, x = wi.drew := ⟨_, rfl⟩
                rw [← hx0] at hS0c  ⊢
                clear hx0
                intro _
                refine wpAnyH_take (i := 0) (oi := { dst := some 30, op := .move (.tmp 0), type := _, pos := _, after := _, guard := none }) (v := .slice (some ⟨ga, oa, none⟩) m c) rfl (by kernel_rfl) (by kernel_rfl) (by kernel_rfl) (fun _ _ _ h => h) (Or.inl ⟨by rfl, ?_⟩) hS0c ?_
                · intro wS hSw
                  go_simp
                simp only [Act.put, List.setIfInBounds_toArray, List.set_cons_zero, List.set_cons_succ]
                refine wpAnyH_take (i := 1) (oi := { dst := some 31, op := .move (.tmp 10), type := _, pos := _, after := _, guard := none }) (v := .int .i64 (i : Int)) rfl (by kernel_rfl) (by kernel_rfl) (by kernel_rfl) (fun _ _ _ h => h) (Or.inl ⟨by rfl, ?_⟩) hS0c ?_
                · intro wS hSw
                  go_simp
                simp only [Act.put, List.setIfInBounds_toArray, List.set_cons_zero, List.set_cons_succ]
                refine wpAnyH_take (i := 2) (oi := { dst := some 32, op := .indexAddr 22 (.tmp 30) (.tmp 31), type := _, pos := _, after := _, guard := none }) (v := .pointer (some ⟨ga, oa + i * 3, none⟩)) rfl (by kernel_rfl) (by kernel_rfl) (by kernel_rfl) (fun _ _ _ h => h) (Or.inl ⟨by rfl, ?_⟩) hS0c ?_
                · intro wS hSw
                  go_simp
                simp only [Act.put, List.setIfInBounds_toArray, List.set_cons_zero, List.set_cons_succ]
                refine wpAnyH_take (i := 3) (oi := { dst := some 33, op := .fieldAddr 24 (.tmp 32) 0, type := _, pos := _, after := _, guard := none }) (v := .pointer (some ⟨ga, oa + i * 3, none⟩)) rfl (by kernel_rfl) (by kernel_rfl) (by kernel_rfl) (fun _ _ _ h => h) (Or.inl ⟨by rfl, ?_⟩) hS0c ?_
                · intro wS hSw
                  go_simp
                simp only [Act.put, List.setIfInBounds_toArray, List.set_cons_zero, List.set_cons_succ]
                refine wpAnyH_take (i := 4) (oi := { dst := some 34, op := .load 3 (.tmp 33), type := _, pos := _, after := _, guard := none }) (v := .int .i64 xt) rfl (by kernel_rfl) (by kernel_rfl) (by kernel_rfl) (fun _ _ _ h => h) (Or.inl ⟨by rfl, ?_⟩) hS0c ?_
                · intro wS hSw
                  have z0 := (hSw.cell (lt_of_cell q1)).trans q1
                  go_simp
                simp only [Act.put, List.setIfInBounds_toArray, List.set_cons_zero, List.set_cons_succ]
                refine wpAnyH_take (i := 5) (oi := { dst := some 35, op := .move (.tmp 0), type := _, pos := _, after := _, guard := none }) (v := .slice (some ⟨ga, oa, none⟩) m c) rfl (by kernel_rfl) (by kernel_rfl) (by kernel_rfl) (fun _ _ _ h => h) (Or.inl ⟨by rfl, ?_⟩) hS0c ?_
                · intro wS hSw
                  go_simp
                simp only [Act.put, List.setIfInBounds_toArray, List.set_cons_zero, List.set_cons_succ]
                refine wpAnyH_take (i := 6) (oi := { dst := some 36, op := .move (.tmp 9), type := _, pos := _, after := _, guard := none }) (v := .int .i64 (j : Int)) rfl (by kernel_rfl) (by kernel_rfl) (by kernel_rfl) (fun _ _ _ h => h) (Or.inl ⟨by rfl, ?_⟩) hS0c ?_
                · intro wS hSw
                  go_simp
                simp only [Act.put, List.setIfInBounds_toArray, List.set_cons_zero, List.set_cons_succ]
                refine wpAnyH_take (i := 7) (oi := { dst := some 37, op := .indexAddr 22 (.tmp 35) (.tmp 36), type := _, pos := _, after := _, guard := none }) (v := .pointer (some ⟨ga, oa + j * 3, none⟩)) rfl (by kernel_rfl) (by kernel_rfl) (by kernel_rfl) (fun _ _ _ h => h) (Or.inl ⟨by rfl, ?_⟩) hS0c ?_
                · intro wS hSw
                  go_simp
                simp only [Act.put, List.setIfInBounds_toArray, List.set_cons_zero, List.set_cons_succ]
                refine wpAnyH_take (i := 8) (oi := { dst := some 38, op := .fieldAddr 24 (.tmp 37) 0, type := _, pos := _, after := _, guard := none }) (v := .pointer (some ⟨ga, oa + j * 3, none⟩)) rfl (by kernel_rfl) (by kernel_rfl) (by kernel_rfl) (fun _ _ _ h => h) (Or.inl ⟨by rfl, ?_⟩) hS0c ?_
                · intro wS hSw
                  go_simp
                simp only [Act.put, List.setIfInBounds_toArray, List.set_cons_zero, List.set_cons_succ]
                refine wpAnyH_take (i := 9) (oi := { dst := some 39, op := .load 3 (.tmp 38), type := _, pos := _, after := _, guard := none }) (v := .int .i64 yt) rfl (by kernel_rfl) (by kernel_rfl) (by kernel_rfl) (fun _ _ _ h => h) (Or.inl ⟨by rfl, ?_⟩) hS0c ?_
                · intro wS hSw
                  have z0 := (hSw.cell (lt_of_cell r1)).trans r1
                  go_simp
                simp only [Act.put, List.setIfInBounds_toArray, List.set_cons_zero, List.set_cons_succ]
                refine wpAnyH_take (i := 10) (oi := { dst := some 40, op := .binOp .neq 3 (.tmp 34) (.tmp 39) 3, type := _, pos := _, after := _, guard := none }) (v := .bool true) rfl (by kernel_rfl) (by kernel_rfl) (by kernel_rfl) (fun _ _ _ h => h) (Or.inl ⟨by rfl, ?_⟩) hS0c ?_
                · intro wS hSw
                  (go_simp; try exact hth.out)
                simp only [Act.put, List.setIfInBounds_toArray, List.set_cons_zero, List.set_cons_succ]
                refine wpAnyH_take (i := 11) (oi := { dst := some 41, op := .move (.tmp 40), type := _, pos := _, after := _, guard := none }) (v := .bool true) rfl (by kernel_rfl) (by kernel_rfl) (by kernel_rfl) (fun _ _ _ h => h) (Or.inl ⟨by rfl, ?_⟩) hS0c ?_
                · intro wS hSw
                  go_simp
                simp only [Act.put, List.setIfInBounds_toArray, List.set_cons_zero, List.set_cons_succ]
                refine wpAnyH_take (i := 12) (oi := { dst := some 42, op := .move (.tmp 0), type := _, pos := _, after := _, guard := some (11, true) }) (v := .slice (some ⟨ga, oa, none⟩) m c) rfl (by kernel_rfl) (by kernel_rfl) (by kernel_rfl) (fun _ _ _ h => h) (Or.inl ⟨by rfl, ?_⟩) hS0c ?_
                · intro wS hSw
                  go_simp
                simp only [Act.put, List.setIfInBounds_toArray, List.set_cons_zero, List.set_cons_succ]
                refine wpAnyH_take (i := 13) (oi := { dst := some 43, op := .move (.tmp 10), type := _, pos := _, after := _, guard := some (11, true) }) (v := .int .i64 (i : Int)) rfl (by kernel_rfl) (by kernel_rfl) (by kernel_rfl) (fun _ _ _ h => h) (Or.inl ⟨by rfl, ?_⟩) hS0c ?_
                · intro wS hSw
                  go_simp
                simp only [Act.put, List.setIfInBounds_toArray, List.set_cons_zero, List.set_cons_succ]
                refine wpAnyH_take (i := 14) (oi := { dst := some 44, op := .indexAddr 22 (.tmp 42) (.tmp 43), type := _, pos := _, after := _, guard := some (11, true) }) (v := .pointer (some ⟨ga, oa + i * 3, none⟩)) rfl (by kernel_rfl) (by kernel_rfl) (by kernel_rfl) (fun _ _ _ h => h) (Or.inl ⟨by rfl, ?_⟩) hS0c ?_
                · intro wS hSw
                  go_simp
                simp only [Act.put, List.setIfInBounds_toArray, List.set_cons_zero, List.set_cons_succ]
                refine wpAnyH_take (i := 15) (oi := { dst := some 45, op := .load 24 (.tmp 44), type := _, pos := _, after := _, guard := some (11, true) }) (v := .agg #[.int .i64 xt, .int .i64 xk, .int .i64 xo]) rfl (by kernel_rfl) (by kernel_rfl) (by kernel_rfl) (fun _ _ _ h => h) (Or.inl ⟨by rfl, ?_⟩) hS0c ?_
                · intro wS hSw
                  have z0 := (hSw.cell (lt_of_cell q1)).trans q1
                  have z1 := (hSw.cell (lt_of_cell q2)).trans q2
                  have z2 := (hSw.cell (lt_of_cell q3)).trans q3
                  go_simp
                simp only [Act.put, List.setIfInBounds_toArray, List.set_cons_zero, List.set_cons_succ]
                refine wpAnyH_take (i := 16) (oi := { dst := some 46, op := .move (.tmp 0), type := _, pos := _, after := _, guard := some (11, true) }) (v := .slice (some ⟨ga, oa, none⟩) m c) rfl (by kernel_rfl) (by kernel_rfl) (by kernel_rfl) (fun _ _ _ h => h) (Or.inl ⟨by rfl, ?_⟩) hS0c ?_
                · intro wS hSw
                  go_simp
                simp only [Act.put, List.setIfInBounds_toArray, List.set_cons_zero, List.set_cons_succ]
                refine wpAnyH_take (i := 17) (oi := { dst := some 47, op := .move (.tmp 9), type := _, pos := _, after := _, guard := some (11, true) }) (v := .int .i64 (j : Int)) rfl (by kernel_rfl) (by kernel_rfl) (by kernel_rfl) (fun _ _ _ h => h) (Or.inl ⟨by rfl, ?_⟩) hS0c ?_
                · intro wS hSw
                  go_simp
                simp only [Act.put, List.setIfInBounds_toArray, List.set_cons_zero, List.set_cons_succ]
                refine wpAnyH_take (i := 18) (oi := { dst := some 48, op := .indexAddr 22 (.tmp 46) (.tmp 47), type := _, pos := _, after := _, guard := some (11, true) }) (v := .pointer (some ⟨ga, oa + j * 3, none⟩)) rfl (by kernel_rfl) (by kernel_rfl) (by kernel_rfl) (fun _ _ _ h => h) (Or.inl ⟨by rfl, ?_⟩) hS0c ?_
                · intro wS hSw
                  go_simp
                simp only [Act.put, List.setIfInBounds_toArray, List.set_cons_zero, List.set_cons_succ]
                refine wpAnyH_take (i := 19) (oi := { dst := some 49, op := .load 24 (.tmp 48), type := _, pos := _, after := _, guard := some (11, true) }) (v := .agg #[.int .i64 yt, .int .i64 yk, .int .i64 yo]) rfl (by kernel_rfl) (by kernel_rfl) (by kernel_rfl) (fun _ _ _ h => h) (Or.inl ⟨by rfl, ?_⟩) hS0c ?_
                · intro wS hSw
                  have z0 := (hSw.cell (lt_of_cell r1)).trans r1
                  have z1 := (hSw.cell (lt_of_cell r2)).trans r2
                  have z2 := (hSw.cell (lt_of_cell r3)).trans r3
                  go_simp
                simp only [Act.put, List.setIfInBounds_toArray, List.set_cons_zero, List.set_cons_succ]
                refine wpAnyH_ready (rs := [20]) (by kernel_rfl) (by simp) ?_
                refine AllReadyH.cons (o := { dst := some 50, op := .call { callee := .value (.func 28), args := #[.tmp 45, .tmp 49], argTypes := #[24, 24] }, type := _, pos := _, after := _, guard := some (11, true) }) rfl (fun K hK => ?_) AllReadyH.nil
                rw [if_pos (by rfl)]
                have sv1c := hS0c.size
                go_wp2_with (go_at_call 28; refine (HD.out _).mono ?_; rintro e x1c ⟨rfl, hb1c⟩)
                have sz1c := hb1c.size
                have hS1c := hS0c.trans (hb1c.mono hS0c.size)
                refine hK.out _ _ hS1c (fun _ => ?_)
                clear hK K
                refine wpAnyH_take (i := 21) (oi := { dst := some 51, op := .pick (.tmp 41) (.tmp 50) (.const (.bool false)), type := _, pos := _, after := _, guard := none }) (v := .bool true) rfl (by kernel_rfl) (by kernel_rfl) (by kernel_rfl) (fun _ _ _ h => h) (Or.inl ⟨by rfl, ?_⟩) hS1c ?_
                · intro wS hSw
                  go_simp
                simp only [Act.put, List.setIfInBounds_toArray, List.set_cons_zero, List.set_cons_succ]
                refine wpAnyH_take (i := 22) (oi := { dst := some 52, op := .move (.tmp 51), type := _, pos := _, after := _, guard := none }) (v := .bool true) rfl (by kernel_rfl) (by kernel_rfl) (by kernel_rfl) (fun _ _ _ h => h) (Or.inl ⟨by rfl, ?_⟩) hS1c ?_
                · intro wS hSw
                  go_simp
                simp only [Act.put, List.setIfInBounds_toArray, List.set_cons_zero, List.set_cons_succ]
                refine wpAnyH_take (i := 23) (oi := { dst := some 53, op := .move (.tmp 7), type := _, pos := _, after := _, guard := some (22, true) }) (v := .slice (some ⟨gh, 0, none⟩) m ch) rfl (by kernel_rfl) (by kernel_rfl) (by kernel_rfl) (fun _ _ _ h => h) (Or.inl ⟨by rfl, ?_⟩) hS1c ?_
                · intro wS hSw
                  go_simp
                simp only [Act.put, List.setIfInBounds_toArray, List.set_cons_zero, List.set_cons_succ]
                refine wpAnyH_take (i := 24) (oi := { dst := some 54, op := .move (.tmp 10), type := _, pos := _, after := _, guard := some (22, true) }) (v := .int .i64 (i : Int)) rfl (by kernel_rfl) (by kernel_rfl) (by kernel_rfl) (fun _ _ _ h => h) (Or.inl ⟨by rfl, ?_⟩) hS1c ?_
                · intro wS hSw
                  go_simp
                simp only [Act.put, List.setIfInBounds_toArray, List.set_cons_zero, List.set_cons_succ]
                refine wpAnyH_take (i := 25) (oi := { dst := some 55, op := .move (.tmp 9), type := _, pos := _, after := _, guard := some (22, true) }) (v := .int .i64 (j : Int)) rfl (by kernel_rfl) (by kernel_rfl) (by kernel_rfl) (fun _ _ _ h => h) (Or.inl ⟨by rfl, ?_⟩) hS1c ?_
                · intro wS hSw
                  go_simp
                simp only [Act.put, List.setIfInBounds_toArray, List.set_cons_zero, List.set_cons_succ]
                refine wpAnyH_ready (rs := [26]) (by kernel_rfl) (by simp) ?_
                refine AllReadyH.cons (o := { dst := some 56, op := .call { callee := .value (.func 29), args := #[.tmp 53, .tmp 54, .tmp 55], argTypes := #[49, 3, 3] }, type := _, pos := _, after := _, guard := some (22, true) }) rfl (fun K hK => ?_) AllReadyH.nil
                rw [if_pos (by rfl)]
                have sv2c := hS1c.size
                go_wp2_with (go_at_call 29; refine (HBt.out _ hS1c).mono ?_; rintro e x2c ⟨rfl, hb2c⟩)
                have sz2c := hb2c.size
                have hS2c := hS1c.trans (hb2c.mono hS1c.size)
                refine hK.out _ _ hS2c (fun _ => ?_)
                clear hK K
                refine wpAnyH_take (i := 27) (oi := { dst := some 57, op := .unOp .not 4 (.tmp 56), type := _, pos := _, after := _, guard := some (22, true) }) (v := .bool true) rfl (by kernel_rfl) (by kernel_rfl) (by kernel_rfl) (fun _ _ _ h => h) (Or.inl ⟨by rfl, ?_⟩) hS2c ?_
                · intro wS hSw
                  go_simp
                simp only [Act.put, List.setIfInBounds_toArray, List.set_cons_zero, List.set_cons_succ]
                refine wpAnyH_take (i := 28) (oi := { dst := some 58, op := .pick (.tmp 52) (.tmp 57) (.const (.bool false)), type := _, pos := _, after := _, guard := none }) (v := .bool true) rfl (by kernel_rfl) (by kernel_rfl) (by kernel_rfl) (fun _ _ _ h => h) (Or.inl ⟨by rfl, ?_⟩) hS2c ?_
                · intro wS hSw
                  go_simp
                simp only [Act.put, List.setIfInBounds_toArray, List.set_cons_zero, List.set_cons_succ]
                refine wpAnyH_done (by kernel_rfl) ?_ _
                have hBn : Hid (Below w2.heap.size w2 x2c) := hBi.out.trans (hS2c.mono hBi.out.size)
                have hOn : Hid _ := hown.out.below hS2c
                have hsz : w2.heap.size ≤ x2c.heap.size := hBn.out.size
                clear hS0c q1 q2 q3 r1 r2 r3
                go_wp2_with (first | (at_builtin; refine appP (.tmp 59) (.tmp 63) (i, j) w2.heap.size _ _ rfl rfl rfl rfl hOn.out hlenb hsz ?_; intro v6 w6 hown6 hb6))
                go_roundw
                case rel => exact ⟨i + 1, by omega, by go_num, (show OwnP _ _ _ _ by rw [pairsTo_yes hp, ← List.append_assoc]; exact hown6), hBn.out.trans hb6⟩
                case measure => simp [intOf]; omega
              · have hp : raceP ev j i = false := by rw [HP2.out]; rfl
                clear HP2
                go_wp2_with fail
                have hS0d : Below wi.heap.size wi wi.drew := Below.drew (Below.refl _ _)
                refine wp_region_held_drew (S := fun xS => Below wi.heap.size wi xS) (by kernel_rfl) hS0d ?_
                obtain ⟨x0d, hx0⟩ : ∃ x, x = wi.drew := ⟨_, rfl⟩
                rw [← hx0] at hS0d  ⊢
                clear hx0
                intro _
                refine wpAnyH_take (i := 0) (oi := { dst := some 30, op := .move (.tmp 0), type := _, pos := _, after := _, guard := none }) (v := .slice (some ⟨ga, oa, none⟩) m c) rfl (by kernel_rfl) (by kernel_rfl) (by kernel_rfl) (fun _ _ _ h => h) (Or.inl ⟨by rfl, ?_⟩) hS0d ?_
                · intro wS hSw
                  go_simp
                simp only [Act.put, List.setIfInBounds_toArray, List.set_cons_zero, List.set_cons_succ]
                refine wpAnyH_take (i := 1) (oi := { dst := some 31, op := .move (.tmp 10), type := _, pos := _, after := _, guard := none }) (v := .int .i64 (i : Int)) rfl (by kernel_rfl) (by kernel_rfl) (by kernel_rfl) (fun _ _ _ h => h) (Or.inl ⟨by rfl, ?_⟩) hS0d ?_
                · intro wS hSw
                  go_simp
                simp only [Act.put, List.setIfInBounds_toArray, List.set_cons_zero, List.set_cons_succ]
                refine wpAnyH_take (i := 2) (oi := { dst := some 32, op := .indexAddr 22 (.tmp 30) (.tmp 31), type := _, pos := _, after := _, guard := none }) (v := .pointer (some ⟨ga, oa + i * 3, none⟩)) rfl (by kernel_rfl) (by kernel_rfl) (by kernel_rfl) (fun _ _ _ h => h) (Or.inl ⟨by rfl, ?_⟩) hS0d ?_
                · intro wS hSw
                  go_simp
                simp only [Act.put, List.setIfInBounds_toArray, List.set_cons_zero, List.set_cons_succ]
                refine wpAnyH_take (i := 3) (oi := { dst := some 33, op := .fieldAddr 24 (.tmp 32) 0, type := _, pos := _, after := _, guard := none }) (v := .pointer (some ⟨ga, oa + i * 3, none⟩)) rfl (by kernel_rfl) (by kernel_rfl) (by kernel_rfl) (fun _ _ _ h => h) (Or.inl ⟨by rfl, ?_⟩) hS0d ?_
                · intro wS hSw
                  go_simp
                simp only [Act.put, List.setIfInBounds_toArray, List.set_cons_zero, List.set_cons_succ]
                refine wpAnyH_take (i := 4) (oi := { dst := some 34, op := .load 3 (.tmp 33), type := _, pos := _, after := _, guard := none }) (v := .int .i64 xt) rfl (by kernel_rfl) (by kernel_rfl) (by kernel_rfl) (fun _ _ _ h => h) (Or.inl ⟨by rfl, ?_⟩) hS0d ?_
                · intro wS hSw
                  have z0 := (hSw.cell (lt_of_cell q1)).trans q1
                  go_simp
                simp only [Act.put, List.setIfInBounds_toArray, List.set_cons_zero, List.set_cons_succ]
                refine wpAnyH_take (i := 5) (oi := { dst := some 35, op := .move (.tmp 0), type := _, pos := _, after := _, guard := none }) (v := .slice (some ⟨ga, oa, none⟩) m c) rfl (by kernel_rfl) (by kernel_rfl) (by kernel_rfl) (fun _ _ _ h => h) (Or.inl ⟨by rfl, ?_⟩) hS0d ?_
                · intro wS hSw
                  go_simp
                simp only [Act.put, List.setIfInBounds_toArray, List.set_cons_zero, List.set_cons_succ]
                refine wpAnyH_take (i := 6) (oi := { dst := some 36, op := .move (.tmp 9), type := _, pos := _, after := _, guard := none }) (v := .int .i64 (j : Int)) rfl (by kernel_rfl) (by kernel_rfl) (by kernel_rfl) (fun _ _ _ h => h) (Or.inl ⟨by rfl, ?_⟩) hS0d ?_
                · intro wS hSw
                  go_simp
                simp only [Act.put, List.setIfInBounds_toArray, List.set_cons_zero, List.set_cons_succ]
                refine wpAnyH_take (i := 7) (oi := { dst := some 37, op := .indexAddr 22 (.tmp 35) (.tmp 36), type := _, pos := _, after := _, guard := none }) (v := .pointer (some ⟨ga, oa + j * 3, none⟩)) rfl (by kernel_rfl) (by kernel_rfl) (by kernel_rfl) (fun _ _ _ h => h) (Or.inl ⟨by rfl, ?_⟩) hS0d ?_
                · intro wS hSw
                  go_simp
                simp only [Act.put, List.setIfInBounds_toArray, List.set_cons_zero, List.set_cons_succ]
                refine wpAnyH_take (i := 8) (oi := { dst := some 38, op := .fieldAddr 24 (.tmp 37) 0, type := _, pos := _, after := _, guard := none }) (v := .pointer (some ⟨ga, oa + j * 3, none⟩)) rfl (by kernel_rfl) (by kernel_rfl) (by kernel_rfl) (fun _ _ _ h => h) (Or.inl ⟨by rfl, ?_⟩) hS0d ?_
                · intro wS hSw
                  go_simp
                simp only [Act.put, List.setIfInBounds_toArray, List.set_cons_zero, List.set_cons_succ]
                refine wpAnyH_take (i := 9) (oi := { dst := some 39, op := .load 3 (.tmp 38), type := _, pos := _, after := _, guard := none }) (v := .int .i64 yt) rfl (by kernel_rfl) (by kernel_rfl) (by kernel_rfl) (fun _ _ _ h => h) (Or.inl ⟨by rfl, ?_⟩) hS0d ?_
                · intro wS hSw
                  have z0 := (hSw.cell (lt_of_cell r1)).trans r1
                  go_simp
                simp only [Act.put, List.setIfInBounds_toArray, List.set_cons_zero, List.set_cons_succ]
                refine wpAnyH_take (i := 10) (oi := { dst := some 40, op := .binOp .neq 3 (.tmp 34) (.tmp 39) 3, type := _, pos := _, after := _, guard := none }) (v := .bool true) rfl (by kernel_rfl) (by kernel_rfl) (by kernel_rfl) (fun _ _ _ h => h) (Or.inl ⟨by rfl, ?_⟩) hS0d ?_
                · intro wS hSw
                  (go_simp; try exact hth.out)
                simp only [Act.put, List.setIfInBounds_toArray, List.set_cons_zero, List.set_cons_succ]
                refine wpAnyH_take (i := 11) (oi := { dst := some 41, op := .move (.tmp 40), type := _, pos := _, after := _, guard := none }) (v := .bool true) rfl (by kernel_rfl) (by kernel_rfl) (by kernel_rfl) (fun _ _ _ h => h) (Or.inl ⟨by rfl, ?_⟩) hS0d ?_
                · intro wS hSw
                  go_simp
                simp only [Act.put, List.setIfInBounds_toArray, List.set_cons_zero, List.set_cons_succ]
                refine wpAnyH_take (i := 12) (oi := { dst := some 42, op := .move (.tmp 0), type := _, pos := _, after := _, guard := some (11, true) }) (v := .slice (some ⟨ga, oa, none⟩) m c) rfl (by kernel_rfl) (by kernel_rfl) (by kernel_rfl) (fun _ _ _ h => h) (Or.inl ⟨by rfl, ?_⟩) hS0d ?_
                · intro wS hSw
                  go_simp
                simp only [Act.put, List.setIfInBounds_toArray, List.set_cons_zero, List.set_cons_succ]
                refine wpAnyH_take (i := 13) (oi := { dst := some 43, op := .move (.tmp 10), type := _, pos := _, after := _, guard := some (11, true) }) (v := .int .i64 (i : Int)) rfl (by kernel_rfl) (by kernel_rfl) (by kernel_rfl) (fun _ _ _ h => h) (Or.inl ⟨by rfl, ?_⟩) hS0d ?_
                · intro wS hSw
                  go_simp
                simp only [Act.put, List.setIfInBounds_toArray, List.set_cons_zero, List.set_cons_succ]
                refine wpAnyH_take (i := 14) (oi := { dst := some 44, op := .indexAddr 22 (.tmp 42) (.tmp 43), type := _, pos := _, after := _, guard := some (11, true) }) (v := .pointer (some ⟨ga, oa + i * 3, none⟩)) rfl (by kernel_rfl) (by kernel_rfl) (by kernel_rfl) (fun _ _ _ h => h) (Or.inl ⟨by rfl, ?_⟩) hS0d ?_
                · intro wS hSw
                  go_simp
                simp only [Act.put, List.setIfInBounds_toArray, List.set_cons_zero, List.set_cons_succ]
                refine wpAnyH_take (i := 15) (oi := { dst := some 45, op := .load 24 (.tmp 44), type := _, pos := _, after := _, guard := some (11, true) }) (v := .agg #[.int .i64 xt, .int .i64 xk, .int .i64 xo]) rfl (by kernel_rfl) (by kernel_rfl) (by kernel_rfl) (fun _ _ _ h => h) (Or.inl ⟨by rfl, ?_⟩) hS0d ?_
                · intro wS hSw
                  have z0 := (hSw.cell (lt_of_cell q1)).trans q1
                  have z1 := (hSw.cell (lt_of_cell q2)).trans q2
                  have z2 := (hSw.cell (lt_of_cell q3)).trans q3
                  go_simp
                simp only [Act.put, List.setIfInBounds_toArray, List.set_cons_zero, List.set_cons_succ]
                refine wpAnyH_take (i := 16) (oi := { dst := some 46, op := .move (.tmp 0), type := _, pos := _, after := _, guard := some (11, true) }) (v := .slice (some ⟨ga, oa, none⟩) m c) rfl (by kernel_rfl) (by kernel_rfl) (by kernel_rfl) (fun _ _ _ h => h) (Or.inl ⟨by rfl, ?_⟩) hS0d ?_
                · intro wS hSw
                  go_simp
                simp only [Act.put, List.setIfInBounds_toArray, List.set_cons_zero, List.set_cons_succ]
                refine wpAnyH_take (i := 17) (oi := { dst := some 47, op := .move (.tmp 9), type := _, pos := _, after := _, guard := some (11, true) }) (v := .int .i64 (j : Int)) rfl (by kernel_rfl) (by kernel_rfl) (by kernel_rfl) (fun _ _ _ h => h) (Or.inl ⟨by rfl, ?_⟩) hS0d ?_
                · intro wS hSw
                  go_simp
                simp only [Act.put, List.setIfInBounds_toArray, List.set_cons_zero, List.set_cons_succ]
                refine wpAnyH_take (i := 18) (oi := { dst := some 48, op := .indexAddr 22 (.tmp 46) (.tmp 47), type := _, pos := _, after := _, guard := some (11, true) }) (v := .pointer (some ⟨ga, oa + j * 3, none⟩)) rfl (by kernel_rfl) (by kernel_rfl) (by kernel_rfl) (fun _ _ _ h => h) (Or.inl ⟨by rfl, ?_⟩) hS0d ?_
                · intro wS hSw
                  go_simp
                simp only [Act.put, List.setIfInBounds_toArray, List.set_cons_zero, List.set_cons_succ]
                refine wpAnyH_take (i := 19) (oi := { dst := some 49, op := .load 24 (.tmp 48), type := _, pos := _, after := _, guard := some (11, true) }) (v := .agg #[.int .i64 yt, .int .i64 yk, .int .i64 yo]) rfl (by kernel_rfl) (by kernel_rfl) (by kernel_rfl) (fun _ _ _ h => h) (Or.inl ⟨by rfl, ?_⟩) hS0d ?_
                · intro wS hSw
                  have z0 := (hSw.cell (lt_of_cell r1)).trans r1
                  have z1 := (hSw.cell (lt_of_cell r2)).trans r2
                  have z2 := (hSw.cell (lt_of_cell r3)).trans r3
                  go_simp
                simp only [Act.put, List.setIfInBounds_toArray, List.set_cons_zero, List.set_cons_succ]
                refine wpAnyH_ready (rs := [20]) (by kernel_rfl) (by simp) ?_
                refine AllReadyH.cons (o := { dst := some 50, op := .call { callee := .value (.func 28), args := #[.tmp 45, .tmp 49], argTypes := #[24, 24] }, type := _, pos := _, after := _, guard := some (11, true) }) rfl (fun K hK => ?_) AllReadyH.nil
                rw [if_pos (by rfl)]
                have sv1d := hS0d.size
                go_wp2_with (go_at_call 28; refine (HD.out _).mono ?_; rintro e x1d ⟨rfl, hb1d⟩)
                have sz1d := hb1d.size
                have hS1d := hS0d.trans (hb1d.mono hS0d.size)
                refine hK.out _ _ hS1d (fun _ => ?_)
                clear hK K
                refine wpAnyH_take (i := 21) (oi := { dst := some 51, op := .pick (.tmp 41) (.tmp 50) (.const (.bool false)), type := _, pos := _, after := _, guard := none }) (v := .bool true) rfl (by kernel_rfl) (by kernel_rfl) (by kernel_rfl) (fun _ _ _ h => h) (Or.inl ⟨by rfl, ?_⟩) hS1d ?_
                · intro wS hSw
                  go_simp
                simp only [Act.put, List.setIfInBounds_toArray, List.set_cons_zero, List.set_cons_succ]
                refine wpAnyH_take (i := 22) (oi := { dst := some 52, op := .move (.tmp 51), type := _, pos := _, after := _, guard := none }) (v := .bool true) rfl (by kernel_rfl) (by kernel_rfl) (by kernel_rfl) (fun _ _ _ h => h) (Or.inl ⟨by rfl, ?_⟩) hS1d ?_
                · intro wS hSw
                  go_simp
                simp only [Act.put, List.setIfInBounds_toArray, List.set_cons_zero, List.set_cons_succ]
                refine wpAnyH_take (i := 23) (oi := { dst := some 53, op := .move (.tmp 7), type := _, pos := _, after := _, guard := some (22, true) }) (v := .slice (some ⟨gh, 0, none⟩) m ch) rfl (by kernel_rfl) (by kernel_rfl) (by kernel_rfl) (fun _ _ _ h => h) (Or.inl ⟨by rfl, ?_⟩) hS1d ?_
                · intro wS hSw
                  go_simp
                simp only [Act.put, List.setIfInBounds_toArray, List.set_cons_zero, List.set_cons_succ]
                refine wpAnyH_take (i := 24) (oi := { dst := some 54, op := .move (.tmp 10), type := _, pos := _, after := _, guard := some (22, true) }) (v := .int .i64 (i : Int)) rfl (by kernel_rfl) (by kernel_rfl) (by kernel_rfl) (fun _ _ _ h => h) (Or.inl ⟨by rfl, ?_⟩) hS1d ?_
                · intro wS hSw
                  go_simp
                simp only [Act.put, List.setIfInBounds_toArray, List.set_cons_zero, List.set_cons_succ]
                refine wpAnyH_take (i := 25) (oi := { dst := some 55, op := .move (.tmp 9), type := _, pos := _, after := _, guard := some (22, true) }) (v := .int .i64 (j : Int)) rfl (by kernel_rfl) (by kernel_rfl) (by kernel_rfl) (fun _ _ _ h => h) (Or.inl ⟨by rfl, ?_⟩) hS1d ?_
                · intro wS hSw
                  go_simp
                simp only [Act.put, List.setIfInBounds_toArray, List.set_cons_zero, List.set_cons_succ]
                refine wpAnyH_ready (rs := [26]) (by kernel_rfl) (by simp) ?_
                refine AllReadyH.cons (o := { dst := some 56, op := .call { callee := .value (.func 29), args := #[.tmp 53, .tmp 54, .tmp 55], argTypes := #[49, 3, 3] }, type := _, pos := _, after := _, guard := some (22, true) }) rfl (fun K hK => ?_) AllReadyH.nil
                rw [if_pos (by rfl)]
                have sv2d := hS1d.size
                go_wp2_with (go_at_call 29; refine (HBt.out _ hS1d).mono ?_; rintro e x2d ⟨rfl, hb2d⟩)
                have sz2d := hb2d.size
                have hS2d := hS1d.trans (hb2d.mono hS1d.size)
                refine hK.out _ _ hS2d (fun _ => ?_)
                clear hK K
                refine wpAnyH_take (i := 27) (oi := { dst := some 57, op := .unOp .not 4 (.tmp 56), type := _, pos := _, after := _, guard := some (22, true) }) (v := .bool false) rfl (by kernel_rfl) (by kernel_rfl) (by kernel_rfl) (fun _ _ _ h => h) (Or.inl ⟨by rfl, ?_⟩) hS2d ?_
                · intro wS hSw
                  go_simp
                simp only [Act.put, List.setIfInBounds_toArray, List.set_cons_zero, List.set_cons_succ]
                refine wpAnyH_take (i := 28) (oi := { dst := some 58, op := .pick (.tmp 52) (.tmp 57) (.const (.bool false)), type := _, pos := _, after := _, guard := none }) (v := .bool false) rfl (by kernel_rfl) (by kernel_rfl) (by kernel_rfl) (fun _ _ _ h => h) (Or.inl ⟨by rfl, ?_⟩) hS2d ?_
                · intro wS hSw
                  go_simp
                simp only [Act.put, List.setIfInBounds_toArray, List.set_cons_zero, List.set_cons_succ]
                refine wpAnyH_done (by kernel_rfl) ?_ _
                have hBn : Hid (Below w2.heap.size w2 x2d) := hBi.out.trans (hS2d.mono hBi.out.size)
                have hOn : Hid _ := own_no (hown.out.below hS2d) hp
                clear hS0d q1 q2 q3 r1 r2 r3
                go_wp2_with fail
                go_roundw
                case rel => exact ⟨i + 1, by omega, by go_num, hOn.out, hBn.out⟩
                case measure => simp [intOf]; omega
        · have hij2 : Hid (i = j) := show i = j by omega
          have hOn : Hid _ := own_next hown.out hij2.out
          clear hown
          go_wp2_with fail
          go_roundw
          case rel => exact ⟨j + 1, by omega, by go_num, hOn.out, hBi.out⟩
          case measure => simp [intOf]; omega
    · have hjm2 : Hid (j = m) := show j = m by omega
      have hOn : Hid _ := own_last hown0.out hjm2.out
      clear hown0
      go_wp2_with fail
      go_ret2
      exact ⟨_, rfl, OwnP.down hOn.out HB2.out.size, HB2.out.trans (hB0.out.mono HB2.out.size)⟩
end Go.Proofs.Ytmkhobaclpiceaa
