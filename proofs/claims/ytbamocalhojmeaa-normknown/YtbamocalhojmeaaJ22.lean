/- Joined texts of the proof. -/
import Derived.Test.YtbamocalhojmeaaJ17
import Derived.Test.YtbamocalhojmeaaJ19
import Derived.Test.YtbamocalhojmeaaJ14
import Derived.Test.YtbamocalhojmeaaJ21

/- norm.aheadCounts: how many happen ahead of each. -/
namespace Go.Proofs.Ytbamocalhojmeaa
open Go.RowKit
set_option linter.unusedVariables false
attribute [local go_sem ↓] Go.wp_at_zero Go.wp_at_succ

/-- The sum of the first t numbers of j's clock. -/
def smT (ev : Nat → Ev) (j : Nat) : Nat → Nat
  | 0 => 0
  | t + 1 => smT ev j t + clk ev j (t : Int)
/-- How many happen ahead of j. -/
def aheadN (ev : Nat → Ev) (j : Nat) : Nat := countN (fun i => hbB ev j i) j
theorem smT_le (ev : Nat → Ev) (j : Nat) : ∀ t, smT ev j t ≤ t * (j + 1)
  | 0 => by simp [smT]
  | t + 1 => by
    have := smT_le ev j t
    have := clk_bound ev j (t : Int)
    rw [smT, Nat.succ_mul]
    omega
theorem count_part (p : Nat → Bool) (f : Nat → Int) (n : Nat) : ∀ K, countN (fun i => p i && decide (0 ≤ f i ∧ f i < (n : Int))) K + countN (fun i => p i && decide (f i = (n : Int))) K = countN (fun i => p i && decide (0 ≤ f i ∧ f i < ((n + 1 : Nat) : Int))) K
  | 0 => rfl
  | K + 1 => by
    have := count_part p f n K
    unfold countN
    by_cases hp : p K = true
    · simp only [hp, Bool.true_and, decide_eq_true_eq]
      by_cases h1 : 0 ≤ f K ∧ f K < (n : Int)
      · rw [if_pos h1, if_neg (by omega), if_pos (by omega)]
        omega
      · rw [if_neg h1]
        by_cases h2 : f K = (n : Int)
        · rw [if_pos h2, if_pos (by omega)]
          omega
        · rw [if_neg h2, if_neg (by omega)]
          omega
    · simp only [Bool.not_eq_true] at hp
      simp only [hp, Bool.false_and, Bool.false_eq_true, if_false]
      omega
theorem smT_part (ev : Nat → Ev) (j : Nat) : ∀ n, smT ev j n = countN (fun i => hbB ev j i && decide (0 ≤ (ev i).th ∧ (ev i).th < (n : Int))) j + if 0 ≤ (ev j).th ∧ (ev j).th < (n : Int) then 1 else 0
  | 0 => by
    rw [if_neg (by omega), countN_zero]
    · rfl
    · intro i hi
      rw [show decide (0 ≤ (ev i).th ∧ (ev i).th < ((0 : Nat) : Int)) = false from decide_eq_false (by omega), Bool.and_false]
  | n + 1 => by
    rw [smT, smT_part ev j n, clk_count, ← count_part]
    by_cases h1 : 0 ≤ (ev j).th ∧ (ev j).th < (n : Int)
    · rw [if_pos h1, if_neg (by omega), if_pos (by omega)]
      omega
    · rw [if_neg h1]
      by_cases h2 : (ev j).th = (n : Int)
      · rw [if_pos h2, if_pos (by omega)]
        omega
      · rw [if_neg h2, if_neg (by omega)]
        omega
theorem smT_all {ev : Nat → Ev} {j n : Nat} (h : ∀ i, i ≤ j → 0 ≤ (ev i).th ∧ (ev i).th < (n : Int)) : smT ev j n = aheadN ev j + 1 := by
  rw [smT_part, if_pos (h j (Nat.le_refl _))]
  congr 1
  refine countN_congr j fun i hi => ?_
  rw [show decide (0 ≤ (ev i).th ∧ (ev i).th < (n : Int)) = true from decide_eq_true (h i (by omega)), Bool.and_true]
theorem ahead_lft (ev : Nat → Ev) {j n : Nat} (hj : j < n) : lft (fun i k => hbB ev k i) [] n j = aheadN ev j := by
  unfold lft aheadN
  rw [countN_more j n (by omega)]
  · exact countN_congr j fun i hi => by simp [memB]
  · intro i h1 h2
    cases hb : hbB ev j i
    · simp [hb]
    · have := ((hbB_iff ev j i).1 hb).lt
      omega
theorem ahead_le (ev : Nat → Ev) (j : Nat) : aheadN ev j ≤ j := countN_le _ _

/-- The counts up to i, behind them noughts. -/
def fC (ev : Nat → Ev) (i k : Nat) : Nat := if k < i then aheadN ev k else 0
def fD (ev : Nat → Ev) (i x k : Nat) : Nat := if k = i then x else fC ev i k
theorem fD_start (ev : Nat → Ev) (i : Nat) : fD ev i 0 = fC ev i := by
  funext k
  unfold fD fC
  split <;> rename_i h
  · rw [if_neg (by omega)]
  · rfl
theorem fD_end (ev : Nat → Ev) (i : Nat) : fD ev i (aheadN ev i) = fC ev (i + 1) := by
  funext k
  unfold fD fC
  split <;> rename_i h
  · rw [h, if_pos (by omega)]
  · by_cases h1 : k < i
    · rw [if_pos h1, if_pos (by omega)]
    · rw [if_neg h1, if_neg (by omega)]
theorem fD_at (ev : Nat → Ev) (i x : Nat) : fD ev i x i = x := by unfold fD; rw [if_pos rfl]
theorem fD_set (ev : Nat → Ev) {m i : Nat} (x y : Nat) (h : i < m) : (cellsN m (fD ev i x)).set i (.int .i64 (y : Nat)) = cellsN m (fD ev i y) := by
  have := cellsN_set (f := fD ev i x) (g := fD ev i y) h (fun k _ hk => by unfold fD; rw [if_neg hk, if_neg hk])
  rw [fD_at] at this
  exact this
/-- Laid noughts. -/
theorem made_cellsN {w w1 : World} {L : Nat} (h : w1.ownsRow w.heap.size 3 1 (.slice (some ⟨w.heap.size, 0, none⟩) L L) L (madeCells #[Value.int .i64 0] L).toList) : At 3 w1 w.heap.size (cellsN L fun _ => 0) := by
  obtain ⟨_, ⟨h, _⟩ | ⟨g, cp, cur, h, hg, hh, _, _, hs, ht⟩⟩ := h
  · cases h
  · cases h
    have hcur : cur.toList = (madeCells #[Value.int .i64 0] L).toList := by rw [← ht, List.take_of_length_le (by simp [hs])]
    unfold At
    rw [hh]
    congr 2
    rw [toList_madeCells_one] at hcur
    apply Array.toList_inj.1
    rw [hcur]
    simp [cellsN, List.map_const']

set_option maxRecDepth 100000 in
set_option maxHeartbeats 6400000 in
theorem counts_any (a1 a2 : Option Addr) (c1 nn : Nat) (es : List Ev) (w : World) (hT : Tr w a1 a2 es nn) (hc1 : es.length ≤ c1) :
    Calls Try.prog 52 #[.slice a1 es.length c1] w fun r w' => ∃ g, r = .returned (.slice (some ⟨g, 0, none⟩) es.length es.length) ∧ At 3 w' g (cellsN es.length (aheadN (evAt es))) ∧ w.heap.size ≤ g ∧ Below w.heap.size w w' := by
  obtain ⟨i0, hi, hz0, hz1, hz2⟩ := info_parts Try.info3
  obtain ⟨m, hm0⟩ : ∃ m, Hid (m = es.length) := ⟨_, (rfl : es.length = _)⟩
  have hm : m ≤ 1024 := by rw [hm0.out]; exact hT.len
  have hn2 := hT.n2
  rw [← hm0.out] at hc1 ⊢
  obtain ⟨ev, hev⟩ : ∃ ev, Hid (ev = evAt es) := ⟨_, (rfl : _ = evAt _)⟩
  rw [← hev.out]
  have HT := hidU hT
  have HR : Hid (∀ u, Below w.heap.size w u → ∀ i, i < m → ∃ g o b c, a1 = some ⟨g, o, none⟩ ∧ u.cell? ⟨g, o + i, none⟩ = some (.slice b nn c) ∧ nn ≤ c ∧ ∀ t, t < nn → ∃ g2 o2, b = some ⟨g2, o2, none⟩ ∧ g2 < w.heap.size ∧ u.cell? ⟨g2, o2 + t, none⟩ = some (.int .i64 (clk ev i (t : Int) : Nat))) := fun u hu i hi => by
    obtain ⟨g, o, b, c, k1, k2, k3, k4, k5⟩ := HT.out.row.at i (clkL (evAt es) nn i) (clksL_at (by rw [← hm0.out]; exact hi))
    rw [clkL_length] at k2 k4
    refine ⟨g, o, b, c, k1, (hu.cell (lt_of_cell k2)).trans k2, k4, fun t ht => ?_⟩
    obtain ⟨g2, o2, q1, q2⟩ := k3.at t _ (clkL_at ht)
    exact ⟨g2, o2, q1, lt_of_cell q2, by rw [(hu.cell (lt_of_cell q2)).trans q2, hev.out]⟩
  have HM : Hid (∀ i, i < m → smT ev i nn = aheadN ev i + 1) := fun i hi => by
    rw [hev.out]
    refine smT_all fun k hk => ?_
    exact HT.out.th _ (evAt_mem (by rw [← hm0.out]; omega))
  clear hT
  go_enter Try.func52, Try.ntmps52
  go_wp2_with (at_make; refine wpList_make_full _ rfl (.tmp 9) (.tmp 9) 23 rfl w.heap.size 3 i0 (.int .i64 0) 1 Try.underlying23 hi hz0 hz1 .i64 .i64 _ _ m rfl rfl rfl rfl (by rw [hz2]; omega) (by unfold maxLen; omega) (Nat.le_refl _) ?_)
  intro w1 hown1 hgrow1
  have hb1 : Below w.heap.size w w1 := (Below.refl _ w).grown hgrow1 (Nat.le_refl _) (by intro k hk; cases hk)
  have hA1 := hidU (made_cellsN hown1)
  obtain ⟨g, hg⟩ : ∃ g, Hid (g = w.heap.size) := ⟨_, (rfl : _ = w.heap.size)⟩
  rw [← hg.out] at hA1
  try rw [← hg.out]
  have HB1 := hidU hb1
  clear hown1 hgrow1 hb1
  have HST : Hid (At 3 w1 g (cellsN m (fC ev 0)) ∧ Below w.heap.size w w1) := ⟨by
    have e : fC ev 0 = fun _ => 0 := by funext k; simp [fC]
    rw [e]
    exact hA1.out, HB1.out⟩
  clear hA1 HB1
  go_wp2_with fail
  go_loopw [13] (fun s wr => ∃ i : Nat, s = .int .i64 (i : Int) ∧ i ≤ m ∧ Hid (At 3 wr g (cellsN m (fC ev i)) ∧ Below w.heap.size w wr)) (fun s _ => m - (intOf s).toNat)
  case atStart => exact ⟨0, rfl, Nat.zero_le _, HST.out⟩
  case round =>
    obtain ⟨i, rfl, hi1, hA⟩ := hrel
    clear HST
    by_cases him : i < m
    · obtain ⟨g1, o1, b, cc, ha, hcell, hcc, hcs⟩ := HR.out wr hA.out.2 i him
      subst ha
      have i1 : (i : Int) < (m : Int) := by omega
      have HCS : Hid (∀ t, t < nn → ∃ g2 o2, b = some ⟨g2, o2, none⟩ ∧ g2 < w.heap.size ∧ wr.cell? ⟨g2, o2 + t, none⟩ = some (.int .i64 (clk ev i (t : Int) : Nat))) := hcs
      clear hcs
      have HA0 : Hid (At 3 wr g (cellsN m (fD ev i (smT ev i 0))) ∧ Below w.heap.size w wr) := by
        rw [smT, fD_start]
        exact hA.out
      have HWR : Hid (Below w.heap.size w wr) := hA.out.2
      clear hA
      go_wp2_with fail
      go_loopw [20] (fun s wr2 => ∃ t : Nat, s = .int .i64 (t : Int) ∧ t ≤ nn ∧ Hid (At 3 wr2 g (cellsN m (fD ev i (smT ev i t))) ∧ Below w.heap.size w wr2)) (fun s _ => nn - (intOf s).toNat)
      case atStart => exact ⟨0, rfl, Nat.zero_le _, HA0.out⟩
      case round =>
        obtain ⟨t, rfl, ht1, hA⟩ := hrel
        clear HA0
        obtain ⟨X, hX⟩ : ∃ X, Hid (X = smT ev i t) := ⟨_, (rfl : _ = smT _ _ _)⟩
        have hXb : X ≤ 16400 := by
          have h1 := smT_le ev i t
          have h2 := Nat.mul_le_mul (show t ≤ 16 by omega) (show i + 1 ≤ 1025 by omega)
          rw [hX.out]
          omega
        rw [← hX.out] at hA
        have cg : wr.cell? ⟨g, i, none⟩ = some (.int .i64 (X : Nat)) := by rw [hA.out.1.cell, cellsN_at him, fD_at]
        have fg := hA.out.1.frozen i
        by_cases htn : t < nn
        · obtain ⟨g2, o2, hb, hg2, hc2⟩ := HCS.out t htn
          obtain ⟨Y, hY⟩ : ∃ Y, Hid (Y = clk ev i (t : Int)) := ⟨_, (rfl : _ = clk _ _ _)⟩
          have hYb : Y ≤ 1024 := by rw [hY.out]; have := clk_bound ev i (t : Int); omega
          rw [← hY.out] at hc2
          have hc3 : wr.cell? ⟨g2, o2 + t, none⟩ = some (.int .i64 (Y : Nat)) := by
            rw [hA.out.2.cell (show (⟨g2, o2 + t, none⟩ : Addr).block < w.heap.size from hg2), ← HWR.out.cell (show (⟨g2, o2 + t, none⟩ : Addr).block < w.heap.size from hg2)]
            exact hc2
          subst hb
          have t1 : (t : Int) < (nn : Int) := by omega
          have HN : Hid (At 3 (wr.setCell ⟨g, i, none⟩ (.int .i64 ((X : Int) + (Y : Int)))) g (cellsN m (fD ev i (smT ev i (t + 1)))) ∧ Below w.heap.size w (wr.setCell ⟨g, i, none⟩ (.int .i64 ((X : Int) + (Y : Int))))) := by
            have e : smT ev i (t + 1) = X + Y := by rw [smT, hX.out, hY.out]
            rw [e, ← fD_set ev X (X + Y) him]
            refine ⟨?_, hA.out.2.setCell (by show w.heap.size ≤ g; rw [hg.out]; exact Nat.le_refl _) _⟩
            have := hA.out.1.set i (.int .i64 ((X + Y : Nat) : Int))
            rw [Int.natCast_add] at this ⊢
            exact this
          clear hA hc2
          go_wp2_with fail
          go_roundw
          case rel => exact ⟨t + 1, by go_num, by omega, HN.out⟩
          case measure => simp [intOf]; omega
        · obtain rfl : t = nn := by omega
          obtain ⟨Z, hZ⟩ : ∃ Z, Hid (Z = aheadN ev i) := ⟨_, (rfl : _ = aheadN _ _)⟩
          have hXZ : X = Z + 1 := by rw [hX.out, hZ.out, HM.out i him]
          have HN : Hid (At 3 (wr.setCell ⟨g, i, none⟩ (.int .i64 (Z : Int))) g (cellsN m (fC ev (i + 1))) ∧ Below w.heap.size w (wr.setCell ⟨g, i, none⟩ (.int .i64 (Z : Int)))) := by
            rw [← fD_end, ← hZ.out, ← fD_set ev X Z him]
            exact ⟨hA.out.1.set i _, hA.out.2.setCell (by show w.heap.size ≤ g; rw [hg.out]; exact Nat.le_refl _) _⟩
          subst hXZ
          clear hA
          go_wp2_with fail
          go_roundw
          case rel => exact ⟨i + 1, by go_num, by omega, HN.out⟩
          case measure => simp [intOf]; omega
    · obtain rfl : i = m := by omega
      have HE : Hid (At 3 wr g (cellsN i (aheadN ev)) ∧ w.heap.size ≤ g ∧ Below w.heap.size w wr) := by
        refine ⟨?_, by rw [hg.out]; exact Nat.le_refl _, hA.out.2⟩
        have e : cellsN i (aheadN ev) = cellsN i (fC ev i) := by
          unfold cellsN
          refine List.map_congr_left fun k hk => ?_
          rw [fC, if_pos (List.mem_range.1 hk)]
        rw [e]
        exact hA.out.1
      go_wp2_with fail
      go_ret
      exact ⟨g, rfl, HE.out⟩
end Go.Proofs.Ytbamocalhojmeaa

/- norm.leastOrder: what its loops keep. -/
namespace Go.Proofs.Ytbamocalhojmeaa
open Go.RowKit
set_option linter.unusedVariables false

/-- Whole numbers by place. -/
def cellsZ (m : Nat) (f : Nat → Int) : List Value := (List.range m).map fun x => .int .i64 (f x)
theorem cellsZ_length (m : Nat) (f : Nat → Int) : (cellsZ m f).length = m := by simp [cellsZ]
theorem cellsZ_at {m : Nat} {f : Nat → Int} {x : Nat} (h : x < m) : (cellsZ m f)[x]? = some (.int .i64 (f x)) := by simp [cellsZ, h]
def updZ (f : Nat → Int) (k : Nat) (z : Int) (x : Nat) : Int := if x = k then z else f x
theorem cellsZ_set {m : Nat} (f : Nat → Int) {k : Nat} (z : Int) (h : k < m) : (cellsZ m f).set k (.int .i64 z) = cellsZ m (updZ f k z) := by
  apply List.ext_getElem?
  intro i
  rw [List.getElem?_set]
  by_cases hk : k = i
  · subst hk
    rw [if_pos rfl, if_pos (by rw [cellsZ_length]; exact h), cellsZ_at h]
    simp [updZ]
  · rw [if_neg hk]
    by_cases hi : i < m
    · rw [cellsZ_at hi, cellsZ_at hi, updZ, if_neg (fun e => hk e.symm)]
    · rw [List.getElem?_eq_none (by rw [cellsZ_length]; omega), List.getElem?_eq_none (by rw [cellsZ_length]; omega)]
theorem cellsN_Z (m : Nat) (f : Nat → Nat) : cellsN m f = cellsZ m fun x => (f x : Nat) := rfl

/-- Rows of blocks that hold cells stand, and all below b. -/
structure Cel (b : Nat) (W W' : World) : Prop where
  bel : Below b W W'
  cel : ∀ (k : Nat) (o : Obj), W.heap[k]? = some o → o.isCells = true → W'.heap[k]? = some o
theorem Cel.at {b : Nat} {W W' : World} (h : Cel b W W') {t : TypeId} {g : Nat} {cs : List Value} (ha : At t W g cs) : At t W' g cs := h.cel g _ ha rfl
theorem Cel.boxed {b : Nat} {W W' : World} (h : Cel b W W') {t : TypeId} {g : Nat} {v : Value} (ha : Boxed W g t v) : Boxed W' g t v := h.cel g _ ha rfl
theorem Cel.own {b : Nat} {W W' : World} (h : Cel b W W') {B : Nat} {v : Value} {zs : List Int} (ho : OwnI B W v zs) : OwnI B W' v zs := by
  obtain ⟨h0, ⟨h1, h2⟩ | ⟨g, cap, cur, rfl, hg, hh, hr⟩⟩ := ho
  · exact ⟨h0, .inl ⟨h1, h2⟩⟩
  · exact ⟨h0, .inr ⟨g, cap, cur, rfl, hg, h.cel g _ hh rfl, hr⟩⟩
theorem Cel.refl (b : Nat) (W : World) : Cel b W W := ⟨Below.refl _ _, fun _ _ h _ => h⟩
theorem Cel.trans {b : Nat} {A B C : World} (h : Cel b A B) (k : Cel b B C) : Cel b A C := ⟨h.bel.trans k.bel, fun i o h1 h2 => k.cel i o (h.cel i o h1 h2) h2⟩
theorem Cel.of_below {b : Nat} {A B : World} (h : Below A.heap.size A B) (hb : b ≤ A.heap.size) : Cel b A B := ⟨h.mono hb, fun k o h1 _ => (h.block k (Array.getElem?_eq_some_iff.1 h1).1).trans h1⟩
theorem Cel.of_grown {b B : Nat} {W W' : World} {row : Option Nat} (hg : W.grownBy W' row) (hr : ∀ r, row = some r → B ≤ r ∧ ∃ o : Obj, W.heap[r]? = some o ∧ o.isCells = false) (hb : b ≤ B) (hs : b ≤ W.heap.size) : Cel b W W' := by
  refine ⟨⟨hg.os, hg.tape, hg.output, hg.size, fun k hk => hg.block k (by omega) (fun e => by have := (hr k e.symm).1; omega)⟩, fun k o h1 h2 => ?_⟩
  refine (hg.block k (Array.getElem?_eq_some_iff.1 h1).1 (fun e => ?_)).trans h1
  obtain ⟨_, o', h3, h4⟩ := hr k e.symm
  rw [h1] at h3
  cases h3
  rw [h2] at h4
  cases h4

/-- v's row is none of these blocks. -/
def Avd (v : Value) (ks : List Nat) : Prop := ∀ k ∈ ks, some k ≠ v.ownBlock
theorem Avd.chg {gH : Nat} {v v' : Value} {W W' : World} {ks : List Nat} (h : Avd v ks) (hc : Chg gH v.ownBlock v'.ownBlock W W') (hk : ∀ k ∈ ks, k < W.heap.size) : Avd v' ks := fun k hm e => by
  rcases hc.own with q | q
  · exact h k hm (by rw [← q]; exact e)
  · have := q k e.symm
    have := hk k hm
    omega

/-- What leastOrder has: its counts f, and the heap of what may come next. -/
structure LoS (w : World) (es : List Ev) (bM bH gM gH : Nat) (a : Option Addr) (c : Nat) (W : World) (f : Nat → Int) (N : List Nat) (v : Value) : Prop where
  mv : Boxed W bM 23 (.slice (some ⟨gM, 0, none⟩) es.length es.length)
  hv : Boxed W bH 79 (.pointer (some ⟨gH, 0, none⟩))
  ms : At 3 W gM (cellsZ es.length f)
  hp : HpO w es (bH + 1) W gH a c N v
  heap : Hp (thK es) N
  o1 : w.heap.size ≤ gM
  o2 : gM < bM
  o3 : bM < gH
  o4 : gH < bH
section
variable {w : World} {es : List Ev} {bM bH gM gH : Nat} {a : Option Addr} {c : Nat} {W W' : World} {f : Nat → Int} {N N' : List Nat} {v v' : Value}
theorem LoS.chg (h : LoS w es bM bH gM gH a c W f N v) (hh : HpO w es (bH + 1) W' gH a c N' v') (hp : Hp (thK es) N') (hc : Chg gH v.ownBlock v'.ownBlock W W') : LoS w es bM bH gM gH a c W' f N' v' := by
  have o2 := h.o2; have o3 := h.o3; have o4 := h.o4
  have hn := fun k (hk : k ≤ bH) => h.hp.rdo.own.ne (g := k) (by omega)
  exact ⟨(hc.block _ h.mv.lt (by omega) (hn _ (by omega))).trans h.mv, (hc.block _ h.hv.lt (by omega) (hn _ (by omega))).trans h.hv, hc.at h.ms (by omega) (hn _ (by omega)), hh, hp, h.o1, o2, o3, o4⟩
theorem LoS.keep (h : LoS w es bM bH gM gH a c W f N v) (hc : Cel w.heap.size W W') : LoS w es bM bH gM gH a c W' f N v :=
  ⟨hc.boxed h.mv, hc.boxed h.hv, hc.at h.ms, ⟨⟨hc.at h.hp.rdo.hd, h.hp.rdo.lt, hc.own h.hp.rdo.own⟩, h.hp.bel.trans hc.bel, h.hp.row, h.hp.le, h.hp.mem, Nat.le_trans h.hp.szB hc.bel.size, h.hp.few⟩, h.heap, h.o1, h.o2, h.o3, h.o4⟩
theorem LoS.set (h : LoS w es bM bH gM gH a c W f N v) {j : Nat} (z : Int) (hj : j < es.length) : LoS w es bM bH gM gH a c (W.setCell ⟨gM, j, none⟩ (.int .i64 z)) (updZ f j z) N v := by
  have o1 := h.o1; have o2 := h.o2; have o3 := h.o3; have o4 := h.o4
  have ho := fun k (hk : k ≠ gM) => Below.heap_setCell W ⟨gM, j, none⟩ (.int .i64 z) k hk
  refine ⟨(ho _ (by omega)).trans h.mv, (ho _ (by omega)).trans h.hv, ?_, ⟨⟨(ho _ (by omega)).trans h.hp.rdo.hd, h.hp.rdo.lt, ?_⟩, h.hp.bel.setCell (p := ⟨gM, j, none⟩) o1 _, h.hp.row, h.hp.le, h.hp.mem, by simpa using h.hp.szB, h.hp.few⟩, h.heap, o1, o2, o3, o4⟩
  · rw [← cellsZ_set f z hj]
    exact h.ms.set j _
  · exact World.ownsRow.kept (row := some gM) h.hp.rdo.own ⟨rfl, rfl, rfl, by simp, fun k hk hne => ho k (fun q => hne (by rw [q]))⟩ (.inr (fun e => h.hp.rdo.own.ne (g := gM) (by omega) e.symm))
theorem LoS.lt (h : LoS w es bM bH gM gH a c W f N v) : w.heap.size ≤ W.heap.size := h.hp.bel.size
end

/-- The order's row: what has come, and noughts. -/
def ordV (out : List Nat) (m : Nat) : List Value := (natI out).map I64 ++ List.replicate (m - out.length) (I64 0)
theorem ordV_length (out : List Nat) (m : Nat) (h : out.length ≤ m) : (ordV out m).length = m := by simp [ordV, natI]; omega
theorem ordV_set (out : List Nat) (m x : Nat) (h : out.length < m) : (ordV out m).set out.length (.int .i64 (x : Int)) = ordV (out ++ [x]) m := by
  unfold ordV
  rw [List.set_append_right _ _ (by simp [natI])]
  obtain ⟨d, hd⟩ : ∃ d, m - out.length = d + 1 := ⟨m - out.length - 1, by omega⟩
  rw [hd, show m - (out ++ [x]).length = d by simp; omega]
  simp [natI, List.replicate_succ, I64]
/-- An append in place. -/
theorem wpListIn_app_at {F : Fence} {n : Nat} {w : World} {ops : Array Oper} {rest : List Oper} {o : Oper} {a : Act} {Q : Exit → Act → World → Prop} (hgd : o.guard = none) (s x : Operand)
    (ho : o.op = .call { callee := .builtin .append, args := #[s, x], argTypes := #[23, 23] }) (g k cap : Nat) (cs : List Value) (g1 : Nat) (z : Int) (hs : a.eval s = .slice (some ⟨g, 0, none⟩) k cap) (hA : At 3 w g cs) (hl : cs.length = cap) (hk : k < cap)
    (hx : a.eval x = .slice (some ⟨g1, 0, none⟩) 1 1) (hc : w.cell? ⟨g1, 0, none⟩ = some (.int .i64 z))
    (h : ∀ w', At 3 w' g (cs.set k (.int .i64 z)) → But g w w' → wpListIn F n Try.prog ops Q rest (a.put o.dst (.slice (some ⟨g, 0, none⟩) (k + 1) cap)) w') : wpListIn F n Try.prog ops Q (o :: rest) a w := by
  obtain ⟨ie, hi, hz0, hz1, hz2⟩ := info_parts Try.info3
  refine wpListIn_plain hgd fun K hK' => ?_
  have hr := run_append_room (P := Try.prog) w 23 o.type 3 ie Try.underlying23 hi g k cap cs.toArray hA ⟨g1, 0, none⟩ 1 1 [.int .i64 z] (by rw [hz1]; rfl)
    (by
      intro j u hj
      match j, hj with
      | 0, hj => simp at hj; subst hj; simpa [Addr.add] using hc) (by intro u hu; simp at hu; subst hu; rfl) (by omega) (by rw [hz1]; simp; omega)
  unfold Oper.wpIn
  refine ⟨?_, ?_⟩
  · simp [Oper.about, ho, resolve, Target.leads, Sem.run_pure]
  · rw [Oper.semAt_plain F _ _ (by rw [ho]; intro c hc'; cases hc')]
    simp [execOp, ho, resolve, invoke, builtin, hs, hx, hr, Result.andThen]
    refine hK' _ _ (h _ ?_ ⟨rfl, rfl, rfl, by simp, fun k' _ hk' => setRow_other w g k' _ (fun e => hk' e)⟩)
    rw [hz1]
    unfold At
    rw [setRow_heap w g cs.toArray _ 3 _ hA]
    rw [List.set_eq_take_append_cons_drop, if_pos (by omega)]
    simp

/-- One step of a round: a count less, and pushed at nought. -/
def stp (s : (Nat → Int) × List Nat) (x : Nat) : (Nat → Int) × List Nat := (updZ s.1 x (s.1 x - 1), if s.1 x - 1 = 0 then s.2 ++ [x] else s.2)
def runS (f : Nat → Int) (L : List Nat) : (Nat → Int) × List Nat := L.foldl stp (f, [])
theorem runS_snoc (f : Nat → Int) (L : List Nat) (x : Nat) : runS f (L ++ [x]) = stp (runS f L) x := by simp [runS, List.foldl_append]
theorem fold_bound (j : Nat) : ∀ (L : List Nat) (s : (Nat → Int) × List Nat), s.1 j - L.length ≤ (L.foldl stp s).1 j ∧ (L.foldl stp s).1 j ≤ s.1 j ∧ (L.foldl stp s).2.length ≤ s.2.length + L.length
  | [], s => by simp
  | x :: L, s => by
    obtain ⟨h1, h2, h3⟩ := fold_bound j L (stp s x)
    have e1 : (stp s x).1 j ≤ s.1 j ∧ s.1 j - 1 ≤ (stp s x).1 j := by
      unfold stp updZ
      simp only
      split
      · rename_i h; subst h; omega
      · omega
    have e2 : (stp s x).2.length ≤ s.2.length + 1 := by
      unfold stp
      simp only
      split
      · simp
      · omega
    rw [List.foldl_cons, List.length_cons]
    refine ⟨by omega, by omega, by omega⟩
theorem runS_bound (f : Nat → Int) (j : Nat) (L : List Nat) : f j - L.length ≤ (runS f L).1 j ∧ (runS f L).1 j ≤ f j ∧ (runS f L).2.length ≤ L.length := by
  have := fold_bound j L (f, [])
  simpa [runS] using this
theorem fold_stp (L : List Nat) : ∀ (f : Nat → Int) (P : List Nat), L.Nodup → (∀ j, (L.foldl stp (f, P)).1 j = f j - if j ∈ L then 1 else 0) ∧ (L.foldl stp (f, P)).2 = P ++ L.filter fun j => decide (f j = 1) := by
  induction L with
  | nil => intro f P _; simp
  | cons x L ih =>
    intro f P hn
    obtain ⟨hx, hn⟩ := List.nodup_cons.1 hn
    obtain ⟨h1, h2⟩ := ih (stp (f, P) x).1 (stp (f, P) x).2 hn
    rw [List.foldl_cons]
    refine ⟨fun j => ?_, ?_⟩
    · rw [show stp (f, P) x = ((stp (f, P) x).1, (stp (f, P) x).2) from rfl, h1]
      unfold stp updZ
      simp only [List.mem_cons]
      by_cases hj : j = x
      · subst hj
        simp [hx]
      · simp [hj]
    · rw [show stp (f, P) x = ((stp (f, P) x).1, (stp (f, P) x).2) from rfl, h2]
      have e : L.filter (fun j => decide ((stp (f, P) x).1 j = 1)) = L.filter fun j => decide (f j = 1) := by
        refine List.filter_congr fun j hj => ?_
        have hne : j ≠ x := fun e => hx (by rw [← e]; exact hj)
        simp [stp, updZ, hne]
      rw [e]
      unfold stp
      simp only [List.filter_cons]
      by_cases h : f x = 1
      · simp [h]
      · rw [if_neg (by omega), if_neg (by simpa using h)]
theorem runS_all (f : Nat → Int) {L : List Nat} (h : L.Nodup) : (∀ j, (runS f L).1 j = f j - if j ∈ L then 1 else 0) ∧ (runS f L).2 = L.filter fun j => decide (f j = 1) := by
  have := fold_stp L f [] h
  simpa [runS] using this

/-- The marks that ranges over functions leave. -/
def mkD (D : Nat) : Deferred := { target := .collected D, args := #[] }
theorem leaves_marks {F : Fence} {n : Nat} {fn : Func} {tmps : Array Value} {R : Ending → World → Prop} {b : Nat} : ∀ (Ds : List Nat) (W : World), Ds.Nodup → (∀ D ∈ Ds, b ≤ D ∧ W.heap[D]? = some (.deferred (some []))) → (∀ W', Cel b W W' → LeavesIn F n Try.prog fn tmps R [] .returning W') → LeavesInM F n Try.prog fn tmps R (Ds.map mkD) .returning W
  | [], W, _, _, h => h W (Cel.refl _ _)
  | D :: Ds, W, hn, hD, h => by
    obtain ⟨hx, hn⟩ := List.nodup_cons.1 hn
    obtain ⟨h1, h2⟩ := hD D (List.mem_cons_self ..)
    have hg := grownBy_putObj' W D (.deferred none)
    have hlt := (Array.getElem?_eq_some_iff.1 h2).1
    have hc : Cel b W (W.putObj D (.deferred none)) := Cel.of_grown (B := b) hg (fun r e => by cases e; exact ⟨h1, _, h2, rfl⟩) (Nat.le_refl _) (by omega)
    refine ⟨by simp, .inl ⟨D, _, rfl, run_takeDeferred h2, ?_⟩⟩
    refine leaves_marks Ds _ hn (fun E hE => ?_) (fun W' hW' => h W' (hc.trans hW'))
    obtain ⟨h3, h4⟩ := hD E (List.mem_cons_of_mem _ hE)
    refine ⟨h3, (hg.block E (Array.getElem?_eq_some_iff.1 h4).1 (fun e => ?_)).trans h4⟩
    cases e
    exact hx hE
def slen : Value → Nat
  | .slice _ n _ => n
  | _ => 0
end Go.Proofs.Ytbamocalhojmeaa
