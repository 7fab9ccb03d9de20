/- race.pairs: the walk through the bound pairs, as a contract for a range over it. -/
import Derived.RangeFuncNested
import Derived.RangeFuncBound
import Derived.RangeFuncCalls
import Derived.RangeFuncLeaves
import Derived.RangeFuncBox
import Derived.Shelf.Abstract
import Derived.Shelf.RegionOpen
import Derived.WalkKit
import Derived.OwnWalkIn
import Derived.TacticsInMore
import Derived.LoopNIn
import Derived.LoopIn
import Derived.Test.YtmkhobaclpiceaaJ22
import Derived.Test.YtmkhobaclpiceaaJ19
namespace Go.Proofs.Ytmkhobaclpiceaa
open Go.RowKit
set_option linter.unusedVariables false
attribute [local go_sem ↓] Go.wp_at_zero Go.wp_at_succ
attribute [local go_sem] Oper.semAt_some

/-- A bound pair of a trace. -/
abbrev PrA (m : Nat) (ev : Nat → Ev) := { p : Nat × Nat // p.1 < p.2 ∧ p.2 < m ∧ bndP ev p.2 p.1 = true }
def encP (p : Nat × Nat) : Array Value := #[.agg #[.int .i64 (p.1 : Int), .int .i64 (p.2 : Int)]]
/-- The pairs whose second is from f on, below j. -/
def prsF (p : Nat → Nat → Bool) (f j : Nat) : List (Nat × Nat) := (List.range j).flatMap fun k => if f ≤ k then pairsTo p k k else []
theorem prsF_start (p : Nat → Nat → Bool) (f : Nat) : prsF p f f = [] := by
  unfold prsF
  rw [List.flatMap_eq_nil_iff]
  intro k hk
  have := List.mem_range.1 hk
  rw [if_neg (by omega)]
theorem prsF_succ (p : Nat → Nat → Bool) (f j : Nat) (h : f ≤ j) : prsF p f (j + 1) = prsF p f j ++ pairsTo p j j := by
  simp [prsF, List.range_succ, List.flatMap_append, h]
theorem bndP_eq (ev : Nat → Ev) (j i : Nat) : bndP ev j i = bndE (ev i) (ev j) := rfl
theorem prefix_len {α : Type} {xs ys : List α} (h : xs <+: ys) : xs.length ≤ ys.length := h.length_le
theorem prsF_prefix (p : Nat → Nat → Bool) (f j : Nat) : ∀ d, prsF p f j <+: prsF p f (j + d)
  | 0 => List.prefix_rfl
  | d + 1 => by
    refine (prsF_prefix p f j d).trans ?_
    rw [← Nat.add_assoc]
    unfold prsF
    rw [List.range_succ, List.flatMap_append]
    exact List.prefix_append _ _
theorem pairsTo_prefix (p : Nat → Nat → Bool) (j i : Nat) : ∀ d, pairsTo p j i <+: pairsTo p j (i + d)
  | 0 => List.prefix_rfl
  | d + 1 => by
    refine (pairsTo_prefix p j i d).trans ?_
    rw [← Nat.add_assoc]
    unfold pairsTo
    rw [List.range_succ, List.filter_append, List.map_append]
    exact List.prefix_append _ _
/-- A pair that comes is one of all. -/
theorem prs_lt (p : Nat → Nat → Bool) {f j i m : Nat} (hf : f ≤ j) (hi : i < j) (hj : j < m) (hp : p j i = true) : (prsF p f j ++ pairsTo p j i).length < (prsF p f m).length := by
  have h1 : (prsF p f j ++ pairsTo p j (i + 1)) <+: prsF p f m := by
    have h2 := prsF_prefix p f (j + 1) (m - (j + 1))
    rw [show j + 1 + (m - (j + 1)) = m by omega, prsF_succ p f j hf] at h2
    have h3 := pairsTo_prefix p j (i + 1) (j - (i + 1))
    rw [show i + 1 + (j - (i + 1)) = j by omega] at h3
    exact ((List.prefix_append_right_inj _).2 h3).trans h2
  have h4 := prefix_len h1
  rw [pairsTo_yes hp] at h4
  simp only [List.length_append, List.length_cons, List.length_nil] at h4 ⊢
  omega

set_option maxRecDepth 100000 in
set_option maxHeartbeats 6400000 in
theorem pairs1_any (n : Nat) (hn : 1 ≤ n) (l Bf Bl f m : Nat) (a : Option Addr) (c : Nat) (es : List Ev) (w : World) (hm : es.length = m) (hm2 : m ≤ 1048576) (hfm : f ≤ m) (hc : m ≤ c)
    (hBf : w.cell? ⟨Bf, 0, none⟩ = some (.int .i64 (f : Int))) (hBl : w.cell? ⟨Bl, 0, none⟩ = some (.slice a m c)) (hE : RowEv w a es) (hok : ∀ x ∈ es, x.ok)
    (J Jx : List (PrA m (evAt es)) → World → Prop) (W : World) (hW : Below w.heap.size w W) (hJ : AbidesFrom W.heap.size J)
    (hY : ∀ pre x W1, J pre W1 → pre.length < (prsF (bndP (evAt es)) f m).length → YieldAt Fence.wide (n - 1) Try.prog l (encP x.1) W1 fun e W' =>
      (e = .returned (.bool true) ∧ J (pre ++ [x]) W' ∧ Below w.heap.size W1 W') ∨ (e = .returned (.bool false) ∧ Jx (pre ++ [x]) W')) (h0 : J [] W) :
    Calls Try.prog 51 #[.func (.yield l) #[] #[], .pointer (some ⟨Bf, 0, none⟩), .pointer (some ⟨Bl, 0, none⟩)] W fun e W' => (∃ v, e = .returned v) ∧
      ((∃ ys, ys.map (·.1) = prsF (bndP (evAt es)) f m ∧ J ys W') ∨ (∃ pre, True ∧ Jx pre W')) := by
  have HJ : Hid (∀ pre u v, J pre u → Below u.heap.size u v → J pre v) := fun pre u v h1 h2 => hJ pre u v none h1 ⟨h2.os, h2.tape, h2.output, h2.size, fun k hk _ => h2.block k hk⟩ (fun r e => by cases e)
  have HY : Hid (∀ (pre : List (PrA m (evAt es))) (j i : Nat) (u : World), f ≤ j → i < j → j < m → bndP (evAt es) j i = true → pre.map (·.1) = prsF (bndP (evAt es)) f j ++ pairsTo (bndP (evAt es)) j i → J pre u → Below w.heap.size w u → YieldAt Fence.wide (n - 1) Try.prog l #[.agg #[.int .i64 (i : Int), .int .i64 (j : Int)]] u fun e W' =>
      ∃ b, e = .returned (.bool b) ∧ (b = true → ∃ pre2, pre2.map (·.1) = prsF (bndP (evAt es)) f j ++ pairsTo (bndP (evAt es)) j (i + 1) ∧ J pre2 W' ∧ Below w.heap.size w W') ∧ (b = false → ∃ pre2, Jx pre2 W')) := fun pre j i u h1 h2 h3 h4 h5 h6 h7 => by
    refine (hY pre ⟨(i, j), h2, h3, h4⟩ u h6 ?_).mono ?_
    · have e := congrArg List.length h5
      rw [List.length_map] at e
      rw [e]
      exact prs_lt _ h1 h2 h3 h4
    · rintro e W' (⟨rfl, k1, k2⟩ | ⟨rfl, k1⟩)
      · exact ⟨true, rfl, fun _ => ⟨_, by rw [List.map_append, h5, pairsTo_yes h4, List.append_assoc]; rfl, k1, h7.trans k2⟩, fun h => by cases h⟩
      · exact ⟨false, rfl, fun h => (by cases h), fun _ => ⟨_, k1⟩⟩
  have HB : Hid (∀ u (i j : Nat) (x y : Ev), es[i]? = some x → es[j]? = some y → Calls Try.prog 52 #[.agg x.cells.toArray, .agg y.cells.toArray] u fun r w' => r = .returned (.bool (bndP (evAt es) j i)) ∧ Below u.heap.size u w') := fun u i j x y hx hy => by
    rw [bndP_eq, evAt_eq hx, evAt_eq hy]
    exact isBound_any x y (hok x (List.mem_of_getElem? hx)) (hok y (List.mem_of_getElem? hy)) u
  have HE : Hid (RowEv w a es) := hE
  have HC : Hid (w.cell? ⟨Bf, 0, none⟩ = some (.int .i64 (f : Int)) ∧ w.cell? ⟨Bl, 0, none⟩ = some (.slice a m c)) := ⟨hBf, hBl⟩
  have hcf : W.cell? ⟨Bf, 0, none⟩ = some (.int .i64 (f : Int)) := (hW.cell (lt_of_cell hBf)).trans hBf
  have HW : Hid (Below w.heap.size w W) := hW
  have H0 : Hid (J [] W) := h0
  clear hY hJ hBf hBl hE hok hW h0
  go_enter Try.func51, Try.ntmps51
  go_wp2_with fail
  go_loopw [4] (fun s wr => ∃ j : Nat, s = .int .i64 (j : Int) ∧ f ≤ j ∧ j ≤ m ∧ Hid (Below w.heap.size w wr) ∧ Hid (∃ pre, pre.map (·.1) = prsF (bndP (evAt es)) f j ∧ J pre wr)) (fun s _ => m - (intOf s).toNat)
  case atStart => exact ⟨f, rfl, Nat.le_refl _, hfm, HW.out, [], by rw [prsF_start]; rfl, H0.out⟩
  case round =>
    obtain ⟨j, rfl, hj1, hj2, hbw, hP⟩ := hrel
    have hcl : wr.cell? ⟨Bl, 0, none⟩ = some (.slice a m c) := (hbw.out.cell (lt_of_cell HC.out.2)).trans HC.out.2
    by_cases hjm : j < m
    · go_wp2_with fail
      go_loopw [14] (fun s wr2 => ∃ i : Nat, s = .int .i64 (i : Int) ∧ i ≤ j ∧ Hid (Below w.heap.size w wr2) ∧ Hid (∃ pre, pre.map (·.1) = prsF (bndP (evAt es)) f j ++ pairsTo (bndP (evAt es)) j i ∧ J pre wr2)) (fun s _ => j - (intOf s).toNat)
      case atStart =>
        obtain ⟨pre, h1, h2⟩ := hP.out
        exact ⟨0, rfl, Nat.zero_le _, hbw.out, pre, by rw [h1, pairsTo_zero, List.append_nil], h2⟩
      case round =>
        obtain ⟨i, rfl, hi1, hbw2, hP2⟩ := hrel
        clear hP hcl hbw
        by_cases hij : i < j
        · obtain ⟨x, hx⟩ : ∃ k, es[i]? = some k := ⟨es[i]'(by omega), by rw [List.getElem?_eq_getElem]⟩
          obtain ⟨y, hy⟩ : ∃ k, es[j]? = some k := ⟨es[j]'(by omega), by rw [List.getElem?_eq_getElem]⟩
          have HB2 : Hid (∀ u, Calls Try.prog 52 #[.agg x.cells.toArray, .agg y.cells.toArray] u fun r w' => r = .returned (.bool (bndP (evAt es) j i)) ∧ Below u.heap.size u w') := fun u => HB.out u i j x y hx hy
          have hcl : w.cell? ⟨Bl, 0, none⟩ = some (.slice a m c) := HC.out.2
          obtain ⟨ga, oa, ha1, k1⟩ := HE.out.at i x hx
          obtain ⟨g2, o2, ha2, k2⟩ := HE.out.at j y hy
          rw [ha1] at ha2
          cases ha2
          rw [ha1] at hcl
          clear ha1
          obtain ⟨q1, q2, q3⟩ := range_cells k1
          obtain ⟨r1, r2, r3⟩ := range_cells k2
          clear k1 k2
          obtain ⟨xt, xk, xo⟩ := x
          obtain ⟨yt, yk, yo⟩ := y
          simp only [Ev.cells] at HB2 q1 q2 q3 r1 r2 r3
          have HD : Hid (Below w.heap.size w wr.drew) := below_drN hbw2.out 1
          have HD2 : Hid (∃ pre, pre.map (·.1) = prsF (bndP (evAt es)) f j ++ pairsTo (bndP (evAt es)) j i ∧ J pre wr.drew) := by
            obtain ⟨pre, h1, h2⟩ := hP2.out
            exact ⟨pre, h1, HJ.out _ _ _ h2 (below_drN (Below.refl _ _) 1)⟩
          clear hbw2 hP2 hx hy
          have i1 : (i : Int) < (m : Int) := by omega
          have i2 : (j : Int) < (m : Int) := by omega
          cases hbd : bndP (evAt es) j i with
          | false =>
            rw [hbd] at HB2
            have HF : Hid (bndP (evAt es) j i = false) := hbd
            clear hbd
            go_wp2_with fail
            have hS0a : Below w.heap.size w wr.drew := HD.out
            refine wp_region_W n (S := fun xS => Below w.heap.size w xS) (St := []) (by kernel_rfl) hS0a ?_
            have hJ0 : ∃ pre, pre.map (·.1) = prsF (bndP (evAt es)) f j ++ pairsTo (bndP (evAt es)) j i ∧ J pre wr.drew := HD2.out
            obtain ⟨x0a, hx0⟩ : ∃ x, x = wr.drew := ⟨_, rfl⟩
            rw [← hx0] at hS0a hJ0 ⊢
            clear hx0
            intro hH
            refine wpAnyW_take [2, 3, 8, 9, 10, 11, 12, 13, 14, 15, 16] (i := 0) (oi := { dst := some 17, op := .load 22 (.tmp 2), type := _, pos := _, after := _, guard := none }) (v := .slice (some ⟨ga, oa, none⟩) m c) rfl (by kernel_rfl) (by kernel_rfl) (by kernel_rfl) (by kernel_rfl) (by kernel_rfl) (by kernel_rfl) (by kernel_rfl) (fun _ _ _ h => h) (Or.inl ⟨by rfl, ?_⟩) hH (fun hH => ?_)
            · intro wS hSw
              have z0 := (hSw.cell (lt_of_cell hcl)).trans hcl
              go_simp
            simp only [Act.put, List.setIfInBounds_toArray, List.set_cons_zero, List.set_cons_succ]
            refine wpAnyW_pure (i := 1) (oi := { dst := some 18, op := .move (.tmp 5), type := _, pos := _, after := _, guard := none }) (v := .int .i64 (i : Int)) rfl (by kernel_rfl) (by kernel_rfl) (by kernel_rfl) (by kernel_rfl) (fun _ _ _ h => h) (Or.inl ⟨by rfl, ?_⟩) hH (fun hH => ?_)
            · intro wS hSw
              go_simp
            simp only [Act.put, List.setIfInBounds_toArray, List.set_cons_zero, List.set_cons_succ]
            refine wpAnyW_pure (i := 2) (oi := { dst := some 19, op := .indexAddr 22 (.tmp 17) (.tmp 18), type := _, pos := _, after := _, guard := none }) (v := .pointer (some ⟨ga, oa + i * 3, none⟩)) rfl (by kernel_rfl) (by kernel_rfl) (by kernel_rfl) (by kernel_rfl) (fun _ _ _ h => h) (Or.inl ⟨by rfl, ?_⟩) hH (fun hH => ?_)
            · intro wS hSw
              go_simp
            simp only [Act.put, List.setIfInBounds_toArray, List.set_cons_zero, List.set_cons_succ]
            refine wpAnyW_take [8, 9, 10, 11, 12, 13, 14, 15, 16] (i := 3) (oi := { dst := some 20, op := .load 24 (.tmp 19), type := _, pos := _, after := _, guard := none }) (v := .agg #[.int .i64 xt, .int .i64 xk, .int .i64 xo]) rfl (by kernel_rfl) (by kernel_rfl) (by kernel_rfl) (by kernel_rfl) (by kernel_rfl) (by kernel_rfl) (by kernel_rfl) (fun _ _ _ h => h) (Or.inl ⟨by rfl, ?_⟩) hH (fun hH => ?_)
            · intro wS hSw
              have z0 := (hSw.cell (lt_of_cell q1)).trans q1
              have z1 := (hSw.cell (lt_of_cell q2)).trans q2
              have z2 := (hSw.cell (lt_of_cell q3)).trans q3
              go_simp
            simp only [Act.put, List.setIfInBounds_toArray, List.set_cons_zero, List.set_cons_succ]
            refine wpAnyW_take [6, 7, 8, 9, 10, 11, 12, 13, 14, 15, 16] (i := 4) (oi := { dst := some 21, op := .load 22 (.tmp 2), type := _, pos := _, after := _, guard := none }) (v := .slice (some ⟨ga, oa, none⟩) m c) rfl (by kernel_rfl) (by kernel_rfl) (by kernel_rfl) (by kernel_rfl) (by kernel_rfl) (by kernel_rfl) (by kernel_rfl) (fun _ _ _ h => h) (Or.inl ⟨by rfl, ?_⟩) hH (fun hH => ?_)
            · intro wS hSw
              have z0 := (hSw.cell (lt_of_cell hcl)).trans hcl
              go_simp
            simp only [Act.put, List.setIfInBounds_toArray, List.set_cons_zero, List.set_cons_succ]
            refine wpAnyW_pure (i := 5) (oi := { dst := some 22, op := .move (.tmp 4), type := _, pos := _, after := _, guard := none }) (v := .int .i64 (j : Int)) rfl (by kernel_rfl) (by kernel_rfl) (by kernel_rfl) (by kernel_rfl) (fun _ _ _ h => h) (Or.inl ⟨by rfl, ?_⟩) hH (fun hH => ?_)
            · intro wS hSw
              go_simp
            simp only [Act.put, List.setIfInBounds_toArray, List.set_cons_zero, List.set_cons_succ]
            refine wpAnyW_pure (i := 6) (oi := { dst := some 23, op := .indexAddr 22 (.tmp 21) (.tmp 22), type := _, pos := _, after := _, guard := none }) (v := .pointer (some ⟨ga, oa + j * 3, none⟩)) rfl (by kernel_rfl) (by kernel_rfl) (by kernel_rfl) (by kernel_rfl) (fun _ _ _ h => h) (Or.inl ⟨by rfl, ?_⟩) hH (fun hH => ?_)
            · intro wS hSw
              go_simp
            simp only [Act.put, List.setIfInBounds_toArray, List.set_cons_zero, List.set_cons_succ]
            refine wpAnyW_take [8, 9, 10, 11, 12, 13, 14, 15, 16] (i := 7) (oi := { dst := some 24, op := .load 24 (.tmp 23), type := _, pos := _, after := _, guard := none }) (v := .agg #[.int .i64 yt, .int .i64 yk, .int .i64 yo]) rfl (by kernel_rfl) (by kernel_rfl) (by kernel_rfl) (by kernel_rfl) (by kernel_rfl) (by kernel_rfl) (by kernel_rfl) (fun _ _ _ h => h) (Or.inl ⟨by rfl, ?_⟩) hH (fun hH => ?_)
            · intro wS hSw
              have z0 := (hSw.cell (lt_of_cell r1)).trans r1
              have z1 := (hSw.cell (lt_of_cell r2)).trans r2
              have z2 := (hSw.cell (lt_of_cell r3)).trans r3
              go_simp
            simp only [Act.put, List.setIfInBounds_toArray, List.set_cons_zero, List.set_cons_succ]
            refine wpAnyW_ready (rs := [8]) (by kernel_rfl) (by simp) ?_
            refine AllReadyW.cons (o := { dst := some 25, op := .call { callee := .value (.func 52), args := #[.tmp 20, .tmp 24], argTypes := #[24, 24] }, type := _, pos := _, after := _, guard := none }) rfl (fun K hK => ?_) AllReadyW.nil
            rw [if_pos (by rfl)]
            gi_wp2_with (refine ⟨trivial, ?_⟩; gi_at_call 52; refine (callsIn_wide.2 (HB2.out x0a)).mono ?_; rintro e x1a ⟨rfl, hb1a⟩)
            have hS1a := hS0a.trans (hb1a.mono hS0a.size)
            refine hK.out _ _ (Hold.of hS1a) (fun hH => ?_)
            clear hK K
            refine wpAnyW_pure (i := 9) (oi := { dst := some 26, op := .move (.tmp 25), type := _, pos := _, after := _, guard := none }) (v := .bool false) rfl (by kernel_rfl) (by kernel_rfl) (by kernel_rfl) (by kernel_rfl) (fun _ _ _ h => h) (Or.inl ⟨by rfl, ?_⟩) hH (fun hH => ?_)
            · intro wS hSw
              go_simp
            simp only [Act.put, List.setIfInBounds_toArray, List.set_cons_zero, List.set_cons_succ]
            refine wpAnyW_pure (i := 10) (oi := { dst := some 27, op := .move (.tmp 0), type := _, pos := _, after := _, guard := some (9, true) }) (v := undef) rfl (by kernel_rfl) (by kernel_rfl) (by kernel_rfl) (by kernel_rfl) (fun _ _ _ h => h) (Or.inr ⟨by rfl, rfl⟩) hH (fun hH => ?_)
            simp only [Act.put, List.setIfInBounds_toArray, List.set_cons_zero, List.set_cons_succ]
            refine wpAnyW_pure (i := 11) (oi := { dst := some 28, op := .move (.tmp 5), type := _, pos := _, after := _, guard := some (9, true) }) (v := undef) rfl (by kernel_rfl) (by kernel_rfl) (by kernel_rfl) (by kernel_rfl) (fun _ _ _ h => h) (Or.inr ⟨by rfl, rfl⟩) hH (fun hH => ?_)
            simp only [Act.put, List.setIfInBounds_toArray, List.set_cons_zero, List.set_cons_succ]
            refine wpAnyW_pure (i := 12) (oi := { dst := some 29, op := .move (.tmp 4), type := _, pos := _, after := _, guard := some (9, true) }) (v := undef) rfl (by kernel_rfl) (by kernel_rfl) (by kernel_rfl) (by kernel_rfl) (fun _ _ _ h => h) (Or.inr ⟨by rfl, rfl⟩) hH (fun hH => ?_)
            simp only [Act.put, List.setIfInBounds_toArray, List.set_cons_zero, List.set_cons_succ]
            refine wpAnyW_pure (i := 13) (oi := { dst := some 30, op := .build 45 #[(0, .tmp 28), (1, .tmp 29)], type := _, pos := _, after := _, guard := some (9, true) }) (v := undef) rfl (by kernel_rfl) (by kernel_rfl) (by kernel_rfl) (by kernel_rfl) (fun _ _ _ h => h) (Or.inr ⟨by rfl, rfl⟩) hH (fun hH => ?_)
            simp only [Act.put, List.setIfInBounds_toArray, List.set_cons_zero, List.set_cons_succ]
            refine wpAnyW_pure (i := 14) (oi := { dst := some 31, op := .call { callee := .value (.tmp 27), args := #[.tmp 30], argTypes := #[45] }, type := _, pos := _, after := _, guard := some (9, true) }) (v := undef) rfl (by kernel_rfl) (by kernel_rfl) (by kernel_rfl) (by kernel_rfl) (fun _ _ _ h => h) (Or.inr ⟨by rfl, rfl⟩) hH (fun hH => ?_)
            simp only [Act.put, List.setIfInBounds_toArray, List.set_cons_zero, List.set_cons_succ]
            refine wpAnyW_pure (i := 15) (oi := { dst := some 32, op := .unOp .not 4 (.tmp 31), type := _, pos := _, after := _, guard := some (9, true) }) (v := undef) rfl (by kernel_rfl) (by kernel_rfl) (by kernel_rfl) (by kernel_rfl) (fun _ _ _ h => h) (Or.inr ⟨by rfl, rfl⟩) hH (fun hH => ?_)
            simp only [Act.put, List.setIfInBounds_toArray, List.set_cons_zero, List.set_cons_succ]
            refine wpAnyW_pure (i := 16) (oi := { dst := some 33, op := .pick (.tmp 26) (.tmp 32) (.const (.bool false)), type := _, pos := _, after := _, guard := none }) (v := .bool false) rfl (by kernel_rfl) (by kernel_rfl) (by kernel_rfl) (by kernel_rfl) (fun _ _ _ h => h) (Or.inl ⟨by rfl, ?_⟩) hH (fun hH => ?_)
            · intro wS hSw
              go_simp
            simp only [Act.put, List.setIfInBounds_toArray, List.set_cons_zero, List.set_cons_succ]
            refine wpAnyW_done (by kernel_rfl) ?_ _

            have hJ1 : Hid (∃ pre, pre.map (·.1) = prsF (bndP (evAt es)) f j ++ pairsTo (bndP (evAt es)) j (i + 1) ∧ J pre x1a) := by
              obtain ⟨pre, h1, h2⟩ := hJ0
              exact ⟨pre, by rw [h1, pairsTo_no HF.out], HJ.out _ _ _ h2 hb1a⟩
            have hB1 : Hid (Below w.heap.size w x1a) := hS1a
            clear hJ0 hS1a hS0a hb1a
            go_wp2_with fail
            go_roundw
            case rel => exact ⟨i + 1, by go_num, by omega, hB1.out, hJ1.out⟩
            case measure => simp [intOf]; omega
          | true =>
            rw [hbd] at HB2
            have HT : Hid (bndP (evAt es) j i = true) := hbd
            have HY2 : Hid (∀ u, Below w.heap.size w u → (∃ pre, pre.map (·.1) = prsF (bndP (evAt es)) f j ++ pairsTo (bndP (evAt es)) j i ∧ J pre u) → YieldAt Fence.wide (n - 1) Try.prog l #[.agg #[.int .i64 (i : Int), .int .i64 (j : Int)]] u fun e W' =>
              ∃ b, e = .returned (.bool b) ∧ Hid (b = true → ∃ pre2, pre2.map (·.1) = prsF (bndP (evAt es)) f j ++ pairsTo (bndP (evAt es)) j (i + 1) ∧ J pre2 W' ∧ Below w.heap.size w W') ∧ Hid (b = false → ∃ pre2, Jx pre2 W')) := fun u h1 ⟨pre, h2, h3⟩ => HY.out pre j i u hj1 hij hjm HT.out h2 h3 h1
            clear hbd
            go_wp2_with fail
            have hS0b : Below w.heap.size w wr.drew := HD.out
            refine wp_region_W n (S := fun xS => Below w.heap.size w xS) (St := [14]) (by kernel_rfl) hS0b ?_
            have hJ0 : ∃ pre, pre.map (·.1) = prsF (bndP (evAt es)) f j ++ pairsTo (bndP (evAt es)) j i ∧ J pre wr.drew := HD2.out
            obtain ⟨x0b, hx0⟩ : ∃ x, x = wr.drew := ⟨_, rfl⟩
            rw [← hx0] at hS0b hJ0 ⊢
            clear hx0
            intro hH
            refine wpAnyW_take [2, 3, 8, 9, 10, 11, 12, 13, 14, 15, 16] (i := 0) (oi := { dst := some 17, op := .load 22 (.tmp 2), type := _, pos := _, after := _, guard := none }) (v := .slice (some ⟨ga, oa, none⟩) m c) rfl (by kernel_rfl) (by kernel_rfl) (by kernel_rfl) (by kernel_rfl) (by kernel_rfl) (by kernel_rfl) (by kernel_rfl) (fun _ _ _ h => h) (Or.inl ⟨by rfl, ?_⟩) hH (fun hH => ?_)
            · intro wS hSw
              have z0 := (hSw.cell (lt_of_cell hcl)).trans hcl
              go_simp
            simp only [Act.put, List.setIfInBounds_toArray, List.set_cons_zero, List.set_cons_succ]
            refine wpAnyW_pure (i := 1) (oi := { dst := some 18, op := .move (.tmp 5), type := _, pos := _, after := _, guard := none }) (v := .int .i64 (i : Int)) rfl (by kernel_rfl) (by kernel_rfl) (by kernel_rfl) (by kernel_rfl) (fun _ _ _ h => h) (Or.inl ⟨by rfl, ?_⟩) hH (fun hH => ?_)
            · intro wS hSw
              go_simp
            simp only [Act.put, List.setIfInBounds_toArray, List.set_cons_zero, List.set_cons_succ]
            refine wpAnyW_pure (i := 2) (oi := { dst := some 19, op := .indexAddr 22 (.tmp 17) (.tmp 18), type := _, pos := _, after := _, guard := none }) (v := .pointer (some ⟨ga, oa + i * 3, none⟩)) rfl (by kernel_rfl) (by kernel_rfl) (by kernel_rfl) (by kernel_rfl) (fun _ _ _ h => h) (Or.inl ⟨by rfl, ?_⟩) hH (fun hH => ?_)
            · intro wS hSw
              go_simp
            simp only [Act.put, List.setIfInBounds_toArray, List.set_cons_zero, List.set_cons_succ]
            refine wpAnyW_take [8, 9, 10, 11, 12, 13, 14, 15, 16] (i := 3) (oi := { dst := some 20, op := .load 24 (.tmp 19), type := _, pos := _, after := _, guard := none }) (v := .agg #[.int .i64 xt, .int .i64 xk, .int .i64 xo]) rfl (by kernel_rfl) (by kernel_rfl) (by kernel_rfl) (by kernel_rfl) (by kernel_rfl) (by kernel_rfl) (by kernel_rfl) (fun _ _ _ h => h) (Or.inl ⟨by rfl, ?_⟩) hH (fun hH => ?_)
            · intro wS hSw
              have z0 := (hSw.cell (lt_of_cell q1)).trans q1
              have z1 := (hSw.cell (lt_of_cell q2)).trans q2
              have z2 := (hSw.cell (lt_of_cell q3)).trans q3
              go_simp
            simp only [Act.put, List.setIfInBounds_toArray, List.set_cons_zero, List.set_cons_succ]
            refine wpAnyW_take [6, 7, 8, 9, 10, 11, 12, 13, 14, 15, 16] (i := 4) (oi := { dst := some 21, op := .load 22 (.tmp 2), type := _, pos := _, after := _, guard := none }) (v := .slice (some ⟨ga, oa, none⟩) m c) rfl (by kernel_rfl) (by kernel_rfl) (by kernel_rfl) (by kernel_rfl) (by kernel_rfl) (by kernel_rfl) (by kernel_rfl) (fun _ _ _ h => h) (Or.inl ⟨by rfl, ?_⟩) hH (fun hH => ?_)
            · intro wS hSw
              have z0 := (hSw.cell (lt_of_cell hcl)).trans hcl
              go_simp
            simp only [Act.put, List.setIfInBounds_toArray, List.set_cons_zero, List.set_cons_succ]
            refine wpAnyW_pure (i := 5) (oi := { dst := some 22, op := .move (.tmp 4), type := _, pos := _, after := _, guard := none }) (v := .int .i64 (j : Int)) rfl (by kernel_rfl) (by kernel_rfl) (by kernel_rfl) (by kernel_rfl) (fun _ _ _ h => h) (Or.inl ⟨by rfl, ?_⟩) hH (fun hH => ?_)
            · intro wS hSw
              go_simp
            simp only [Act.put, List.setIfInBounds_toArray, List.set_cons_zero, List.set_cons_succ]
            refine wpAnyW_pure (i := 6) (oi := { dst := some 23, op := .indexAddr 22 (.tmp 21) (.tmp 22), type := _, pos := _, after := _, guard := none }) (v := .pointer (some ⟨ga, oa + j * 3, none⟩)) rfl (by kernel_rfl) (by kernel_rfl) (by kernel_rfl) (by kernel_rfl) (fun _ _ _ h => h) (Or.inl ⟨by rfl, ?_⟩) hH (fun hH => ?_)
            · intro wS hSw
              go_simp
            simp only [Act.put, List.setIfInBounds_toArray, List.set_cons_zero, List.set_cons_succ]
            refine wpAnyW_take [8, 9, 10, 11, 12, 13, 14, 15, 16] (i := 7) (oi := { dst := some 24, op := .load 24 (.tmp 23), type := _, pos := _, after := _, guard := none }) (v := .agg #[.int .i64 yt, .int .i64 yk, .int .i64 yo]) rfl (by kernel_rfl) (by kernel_rfl) (by kernel_rfl) (by kernel_rfl) (by kernel_rfl) (by kernel_rfl) (by kernel_rfl) (fun _ _ _ h => h) (Or.inl ⟨by rfl, ?_⟩) hH (fun hH => ?_)
            · intro wS hSw
              have z0 := (hSw.cell (lt_of_cell r1)).trans r1
              have z1 := (hSw.cell (lt_of_cell r2)).trans r2
              have z2 := (hSw.cell (lt_of_cell r3)).trans r3
              go_simp
            simp only [Act.put, List.setIfInBounds_toArray, List.set_cons_zero, List.set_cons_succ]
            refine wpAnyW_ready (rs := [8]) (by kernel_rfl) (by simp) ?_
            refine AllReadyW.cons (o := { dst := some 25, op := .call { callee := .value (.func 52), args := #[.tmp 20, .tmp 24], argTypes := #[24, 24] }, type := _, pos := _, after := _, guard := none }) rfl (fun K hK => ?_) AllReadyW.nil
            rw [if_pos (by rfl)]
            gi_wp2_with (refine ⟨trivial, ?_⟩; gi_at_call 52; refine (callsIn_wide.2 (HB2.out x0b)).mono ?_; rintro e x1b ⟨rfl, hb1b⟩)
            have hS1b := hS0b.trans (hb1b.mono hS0b.size)
            refine hK.out _ _ (Hold.of hS1b) (fun hH => ?_)
            clear hK K
            refine wpAnyW_pure (i := 9) (oi := { dst := some 26, op := .move (.tmp 25), type := _, pos := _, after := _, guard := none }) (v := .bool true) rfl (by kernel_rfl) (by kernel_rfl) (by kernel_rfl) (by kernel_rfl) (fun _ _ _ h => h) (Or.inl ⟨by rfl, ?_⟩) hH (fun hH => ?_)
            · intro wS hSw
              go_simp
            simp only [Act.put, List.setIfInBounds_toArray, List.set_cons_zero, List.set_cons_succ]
            refine wpAnyW_pure (i := 10) (oi := { dst := some 27, op := .move (.tmp 0), type := _, pos := _, after := _, guard := some (9, true) }) (v := .func (.yield l) #[] #[]) rfl (by kernel_rfl) (by kernel_rfl) (by kernel_rfl) (by kernel_rfl) (fun _ _ _ h => h) (Or.inl ⟨by rfl, ?_⟩) hH (fun hH => ?_)
            · intro wS hSw
              go_simp
            simp only [Act.put, List.setIfInBounds_toArray, List.set_cons_zero, List.set_cons_succ]
            refine wpAnyW_pure (i := 11) (oi := { dst := some 28, op := .move (.tmp 5), type := _, pos := _, after := _, guard := some (9, true) }) (v := .int .i64 (i : Int)) rfl (by kernel_rfl) (by kernel_rfl) (by kernel_rfl) (by kernel_rfl) (fun _ _ _ h => h) (Or.inl ⟨by rfl, ?_⟩) hH (fun hH => ?_)
            · intro wS hSw
              go_simp
            simp only [Act.put, List.setIfInBounds_toArray, List.set_cons_zero, List.set_cons_succ]
            refine wpAnyW_pure (i := 12) (oi := { dst := some 29, op := .move (.tmp 4), type := _, pos := _, after := _, guard := some (9, true) }) (v := .int .i64 (j : Int)) rfl (by kernel_rfl) (by kernel_rfl) (by kernel_rfl) (by kernel_rfl) (fun _ _ _ h => h) (Or.inl ⟨by rfl, ?_⟩) hH (fun hH => ?_)
            · intro wS hSw
              go_simp
            simp only [Act.put, List.setIfInBounds_toArray, List.set_cons_zero, List.set_cons_succ]
            refine wpAnyW_pure (i := 13) (oi := { dst := some 30, op := .build 45 #[(0, .tmp 28), (1, .tmp 29)], type := _, pos := _, after := _, guard := some (9, true) }) (v := .agg #[.int .i64 (i : Int), .int .i64 (j : Int)]) rfl (by kernel_rfl) (by kernel_rfl) (by kernel_rfl) (by kernel_rfl) (fun _ _ _ h => h) (Or.inl ⟨by rfl, ?_⟩) hH (fun hH => ?_)
            · intro wS hSw
              go_simp
            simp only [Act.put, List.setIfInBounds_toArray, List.set_cons_zero, List.set_cons_succ]
            refine wpAnyW_ready (rs := [14]) (by kernel_rfl) (by simp) ?_
            refine AllReadyW.cons (o := { dst := some 31, op := .call { callee := .value (.tmp 27), args := #[.tmp 30], argTypes := #[45] }, type := _, pos := _, after := _, guard := some (9, true) }) rfl (fun K hK => ?_) AllReadyW.nil
            rw [if_pos (by rfl)]
            have hJ1 : ∃ pre, pre.map (·.1) = prsF (bndP (evAt es)) f j ++ pairsTo (bndP (evAt es)) j i ∧ J pre x1b := by
              obtain ⟨pre, h1, h2⟩ := hJ0
              exact ⟨pre, h1, HJ.out _ _ _ h2 hb1b⟩
            obtain ⟨fn, tmps, assign, body, hy, hR⟩ := HY2.out x1b hS1b hJ1
            gi_wp2_with fail
            refine hR.mono ?_
            rintro e x2b ⟨bb, rfl, hyes, hno⟩
            refine hK.out _ _ (Hold.over (s := 14) (by decide) (by rfl)) (fun hH => ?_)
            clear hK K
            refine wpAnyW_pure (i := 15) (oi := { dst := some 32, op := .unOp .not 4 (.tmp 31), type := _, pos := _, after := _, guard := some (9, true) }) (v := .bool (!(bb))) rfl (by kernel_rfl) (by kernel_rfl) (by kernel_rfl) (by kernel_rfl) (fun _ _ _ h => h) (Or.inl ⟨by rfl, ?_⟩) hH (fun hH => ?_)
            · intro wS hSw
              go_simp
            simp only [Act.put, List.setIfInBounds_toArray, List.set_cons_zero, List.set_cons_succ]
            refine wpAnyW_pure (i := 16) (oi := { dst := some 33, op := .pick (.tmp 26) (.tmp 32) (.const (.bool false)), type := _, pos := _, after := _, guard := none }) (v := .bool (!bb)) rfl (by kernel_rfl) (by kernel_rfl) (by kernel_rfl) (by kernel_rfl) (fun _ _ _ h => h) (Or.inl ⟨by rfl, ?_⟩) hH (fun hH => ?_)
            · intro wS hSw
              go_simp
            simp only [Act.put, List.setIfInBounds_toArray, List.set_cons_zero, List.set_cons_succ]
            refine wpAnyW_done (by kernel_rfl) ?_ _

            cases bb
            · have hx2 := hno.out rfl
              go_wp2_with fail
              refine bodyPost_ret (results_none rfl _ _ _) rfl ?_
              exact ⟨⟨_, rfl⟩, .inr hx2⟩
            · obtain ⟨pre2, p1, p2, p3⟩ := hyes.out rfl
              have hJ1 : Hid (∃ pre, pre.map (·.1) = prsF (bndP (evAt es)) f j ++ pairsTo (bndP (evAt es)) j (i + 1) ∧ J pre x2b) := ⟨pre2, p1, p2⟩
              have hB1 : Hid (Below w.heap.size w x2b) := p3
              clear p1 p2 p3 hyes hno
              go_wp2_with fail
              go_roundw
              case rel => exact ⟨i + 1, by go_num, by omega, hB1.out, hJ1.out⟩
              case measure => simp [intOf]; omega
        · go_wp2_with fail
          obtain rfl : i = j := by omega
          have hJ1 : Hid (∃ pre, pre.map (·.1) = prsF (bndP (evAt es)) f (i + 1) ∧ J pre wr) := by
            obtain ⟨pre, h1, h2⟩ := hP2.out
            exact ⟨pre, by rw [h1, prsF_succ _ _ _ hj1], h2⟩
          go_roundw
          case rel => exact ⟨i + 1, by go_num, by omega, by omega, hbw2.out, hJ1.out⟩
          case measure => simp [intOf]; omega
    · go_wp2_with fail
      obtain ⟨pre, h1, h2⟩ := hP.out
      obtain rfl : j = m := by omega
      go_end0
      exact ⟨⟨_, rfl⟩, .inl ⟨pre, h1, h2⟩⟩
end Go.Proofs.Ytmkhobaclpiceaa
