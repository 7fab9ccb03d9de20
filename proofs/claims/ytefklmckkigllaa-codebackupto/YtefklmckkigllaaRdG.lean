/- The reader: Read. -/
import Derived.Test.YtefklmckkigllaaRdF
namespace Go.Proofs.Ytefklmckkigllaa
open Go.RowKit
set_option linter.unusedVariables false

/-- The code that bytes are, if they are one. -/
def readC (bs : List UInt8) : Option Cd := if (codR (bs, false)).2 = ([], false) ∧ checkC (codR (bs, false)).1 = 0 then some (codR (bs, false)).1 else none

def ReadP (w : World) (R : Option Cd) (e : Ending) (w' : World) : Prop :=
  (∃ (y : CT) (k : Nat), e = .returned (.tuple #[.agg y.cells.toArray, .int .i64 (k : Int)]) ∧ ElC w.heap.size w' y ∧ ((R = none ∧ k = 4 ∧ y = ⟨none, 0, [], 0, none, 0, []⟩) ∨ (R = some y.cd ∧ k = 0))) ∧ Below w.heap.size w w'
theorem noneC (A : Nat) (w : World) : ElC A w ⟨none, 0, [], 0, none, 0, []⟩ :=
  ⟨⟨⟨Nat.zero_le _, Nat.le_refl _, .inl rfl⟩, ⟨by decide, by decide⟩, ⟨Nat.zero_le _, Nat.le_refl _, .inl rfl⟩⟩, .inl rfl, .inl rfl, fun n hn => by cases hn⟩
theorem results_at_tmp {P : Program} {fn : Func} {p u : Tmp} {ty : TypeId} (h : fn.results = #[.cell p ty, .tmp u]) (tmps : Array Value) (w : World) (g : Nat) (t : TypeId) (cs : List Value) (d : TypeDesc)
    (hp : tmps.getD p undef = .pointer (some ⟨g, 0, none⟩)) (hg : At t w g cs) (hu : P.underlying ty = some d) (hd : (match d with | .struct _ | .array _ _ => true | _ => false) = true) (hi : (P.info? ty).map (·.size) = some cs.length) (v : Value) (hv : tmps.getD u undef = v) :
    (results fn tmps).run P w = .ok (.tuple #[.agg cs.toArray, v]) w := by
  have e1 : tmps[p]?.getD undef = .pointer (some ⟨g, 0, none⟩) := by simpa using hp
  have e2 : tmps[u]?.getD undef = v := by simpa using hv
  have hl := run_loadVar_row (P := P) w g t ty cs.toArray (0, 0) d hg hu hd (by simpa using hi)
  simp [results, h, e1, e2, asAddr, hl]

set_option maxRecDepth 100000 in
set_option maxHeartbeats 6400000 in
theorem read_any (a : Option Addr) (c : Nat) (bs : List UInt8) (w : World) (hrow : Row w a bs) (hcap : bs.length ≤ c) (hlen : bs.length ≤ 1099511627776) :
    Calls Try.prog 13 #[.slice a bs.length c] w (ReadP w (readC bs)) := by
  have HR : Hid (∀ w1 w2, Below w.heap.size w w1 → Below w1.heap.size w1 w2 → At 69 w2 w1.heap.size [.slice a bs.length c, .bool false] → Rr (w1.heap.size + 1) w2 w1.heap.size (bs, false)) := fun w1 w2 h1 h2 hA => by
    refine ⟨a, c, hA, ?_, hcap, by omega, hlen⟩
    rcases hrow with h | ⟨b, off, ha, hc⟩
    · exact .inl h
    · by_cases h0 : bs = []
      · exact .inl h0
      · have hp : 0 < bs.length := List.length_pos_iff.2 h0
        have hb : b < w.heap.size := lt_of_cell (hc 0 hp)
        have := h1.size
        refine .inr ⟨b, off, ha, by omega, by omega, fun j hj => ?_⟩
        rw [World.cell?_of_block (w := w1) (h2.block b (by omega)), World.cell?_of_block (w := w) (h1.block b hb)]
        exact hc j hj
  have Q1 : Hid (∀ (g : Nat) u, Rr (g + 1) u g (bs, false) → g + 1 ≤ u.heap.size → Calls Try.prog 30 #[.pointer (some ⟨g, 0, none⟩)] u fun e w' => ∃ y : CT, e = .returned (.agg y.cells.toArray) ∧ y.cd = (codR (bs, false)).1 ∧ Rr (g + 1) w' g (codR (bs, false)).2 ∧ ElC u.heap.size w' y ∧ But g u w') := fun g u hu hB => cod_any g _ u hu hB
  obtain ⟨D, hD⟩ : ∃ D, Hid (D = readC bs) := ⟨_, (rfl : readC bs = _)⟩
  rw [← hD.out]
  unfold readC at hD
  generalize codR (bs, false) = Z at *
  obtain ⟨C, rest, bad⟩ := Z
  dsimp only at Q1
  clear hrow hcap hlen
  generalize bs.length = n at *
  have HB' : Hid (∀ (e : Ending) (w' : World), ¬ ((rest, bad) = ([], false) ∧ checkC C = 0) → e = .returned (.tuple #[.agg (CT.cells ⟨none, 0, [], 0, none, 0, []⟩).toArray, .int .i64 4]) → Below w.heap.size w w' → ReadP w D e w') := fun e w' hn he hb => by
    have hD' := hD.out
    dsimp only at hD'
    rw [if_neg hn] at hD'
    exact ⟨⟨⟨none, 0, [], 0, none, 0, []⟩, 4, he, noneC _ _, .inl ⟨hD', rfl, rfl⟩⟩, hb⟩
  cases bad with
  | true =>
    have HB : Hid (∀ (e : Ending) (w' : World), e = .returned (.tuple #[.agg (CT.cells ⟨none, 0, [], 0, none, 0, []⟩).toArray, .int .i64 4]) → Below w.heap.size w w' → ReadP w D e w') := fun e w' => HB'.out e w' (by rintro ⟨q, _⟩; cases q)
    clear HB' hD
    go_enter Try.func13, Try.ntmps13
    go_wp2_with (first
      | ((with_reducible show wpList _ _ _ _ _ _); refine wpList_alloc_at (o := { dst := some 2, .. }) rfl 25 rfl _ 3 z25 ?_; intro w1 hA1 hb1 hs1; clear hs1; refine Hid.out ?_))
    refine hidU ?_
    have l1 := hA1.lt
    go_wp2_with (first
      | ((with_reducible show wpList _ _ _ _ _ _); refine wpList_build_at rfl 69 _ rfl [.slice a n c, .bool false] (by kernel_rfl) ?_)
      | ((with_reducible show wpList _ _ _ _ _ _); refine wpList_box_at rfl 69 (.tmp 7) rfl [.slice a n c, .bool false] rfl ?_; intro w2 hA2 hb2 hs2; clear hs2; refine Hid.out ?_))
    refine hidU ?_
    have l2 := hA2.lt
    have hR2 := HR.out w1 w2 hb1 hb2 hA2
    have hA12 := hA1.below hb2
    clear hA2 hA1 HR
    go_wp2_with (first
      | (go_at_call 30; refine (Q1.out _ _ hR2 (by omega)).mono ?_; rintro _ w3 ⟨y, rfl, hyd, hR3, hE3, hb3⟩; refine Hid.out ?_))
    refine hidU ?_
    have l3 := hb3.size
    have hA13 := hb3.at hA12 (by omega)
    have HY : Hid (y.cd = C ∧ ElC w2.heap.size w3 y) := ⟨hyd, hE3⟩
    clear hyd hE3 hR2 hA12 Q1
    obtain ⟨y0, y1, y2, hyc⟩ : ∃ y0 y1 y2, Hid (y.cells = [y0, y1, y2]) := ⟨_, _, _, (rfl : y.cells = _)⟩
    rw [hyc.out]
    have hy1 : ∀ x ∈ [y0, y1, y2], x.oneCell' = true := by rw [← hyc.out]; exact y.one
    go_wp2_with (first
      | ((with_reducible show wpList _ _ _ _ _ _); refine wpList_alloc_at (o := { dst := some 5, .. }) rfl 25 rfl _ 3 z25 ?_; intro w4 hA4 hb4 hs4; clear hs4)
      | ((with_reducible show wpList _ _ _ _ _ _); refine wpList_store_at (P := Try.prog) rfl 25 (.tmp 5) (.tmp 10) rfl w3.heap.size [y0, y1, y2] rfl rfl 25 _ hA4 i25 rfl hy1 ?_; intro w5 hA5 hb5 hs5; clear hs5; refine Hid.out ?_))
    refine hidU ?_
    have l4 := hA4.lt
    have l5 := hb5.size
    have hA15 := hb5.at (hA13.below hb4) (by omega)
    obtain ⟨a', c', hRA⟩ := (hR3.below hb4).but hb5 (by omega)
    have hcell := hRA.cell
    dsimp only at hcell
    have hB5 : Below w.heap.size w w5 := hb5.below ((hb3.below (hb1.trans (hb2.mono hb1.size)) (by omega) (by omega)).trans (hb4.mono (by omega))) (by omega) (by have := hb4.size; omega)
    have HE5 : Hid (ElC w2.heap.size w5 y ∧ y.cd = C) := by
      refine ⟨ElC.keep _ w3 w5 y HY.out.2 (by have := hb4.size; omega) (fun k h1 h2 => ?_), HY.out.1⟩
      rw [hb5.block k (by have := hb4.size; omega) (by omega), hb4.block k h2]
    clear hA4 hb4 hb5 hb3 hA13 hR3 HY hRA

    have d1 : w5.cell? ⟨w1.heap.size, 1, none⟩ = some (.bool true) := by rw [hcell.cell]; rfl
    clear hcell HE5
    go_wp2_with (first
      | ((with_reducible show wpList _ _ _ _ _ _); refine wpList_build_at rfl 25 _ rfl (CT.cells ⟨none, 0, [], 0, none, 0, []⟩) (by kernel_rfl) ?_)
      | ((with_reducible show wpList _ _ _ _ _ _); refine wpList_store_at (P := Try.prog) rfl 25 (.tmp 2) (.tmp 28) rfl w.heap.size (CT.cells ⟨none, 0, [], 0, none, 0, []⟩) rfl rfl 25 _ hA15 i25 rfl (CT.one _) ?_; intro w9 hA9 hb9 hs9; clear hs9))
    refine bodyPost_ret (results_at_tmp rfl _ _ w.heap.size 25 (CT.cells ⟨none, 0, [], 0, none, 0, []⟩) _ rfl hA9 Try.underlying25 rfl i25 (.int .i64 4) rfl) rfl ?_
    exact HB.out _ _ rfl (hb9.below hB5 (Nat.le_refl _) (by omega))

  | false =>
    cases rest with
    | cons r0 rest =>
      have HB : Hid (∀ (e : Ending) (w' : World), e = .returned (.tuple #[.agg (CT.cells ⟨none, 0, [], 0, none, 0, []⟩).toArray, .int .i64 4]) → Below w.heap.size w w' → ReadP w D e w') := fun e w' => HB'.out e w' (by rintro ⟨q, _⟩; cases q)
      clear HB' hD
      go_enter Try.func13, Try.ntmps13
      go_wp2_with (first
        | ((with_reducible show wpList _ _ _ _ _ _); refine wpList_alloc_at (o := { dst := some 2, .. }) rfl 25 rfl _ 3 z25 ?_; intro w1 hA1 hb1 hs1; clear hs1; refine Hid.out ?_))
      refine hidU ?_
      have l1 := hA1.lt
      go_wp2_with (first
        | ((with_reducible show wpList _ _ _ _ _ _); refine wpList_build_at rfl 69 _ rfl [.slice a n c, .bool false] (by kernel_rfl) ?_)
        | ((with_reducible show wpList _ _ _ _ _ _); refine wpList_box_at rfl 69 (.tmp 7) rfl [.slice a n c, .bool false] rfl ?_; intro w2 hA2 hb2 hs2; clear hs2; refine Hid.out ?_))
      refine hidU ?_
      have l2 := hA2.lt
      have hR2 := HR.out w1 w2 hb1 hb2 hA2
      have hA12 := hA1.below hb2
      clear hA2 hA1 HR
      go_wp2_with (first
        | (go_at_call 30; refine (Q1.out _ _ hR2 (by omega)).mono ?_; rintro _ w3 ⟨y, rfl, hyd, hR3, hE3, hb3⟩; refine Hid.out ?_))
      refine hidU ?_
      have l3 := hb3.size
      have hA13 := hb3.at hA12 (by omega)
      have HY : Hid (y.cd = C ∧ ElC w2.heap.size w3 y) := ⟨hyd, hE3⟩
      clear hyd hE3 hR2 hA12 Q1
      obtain ⟨y0, y1, y2, hyc⟩ : ∃ y0 y1 y2, Hid (y.cells = [y0, y1, y2]) := ⟨_, _, _, (rfl : y.cells = _)⟩
      rw [hyc.out]
      have hy1 : ∀ x ∈ [y0, y1, y2], x.oneCell' = true := by rw [← hyc.out]; exact y.one
      go_wp2_with (first
        | ((with_reducible show wpList _ _ _ _ _ _); refine wpList_alloc_at (o := { dst := some 5, .. }) rfl 25 rfl _ 3 z25 ?_; intro w4 hA4 hb4 hs4; clear hs4)
        | ((with_reducible show wpList _ _ _ _ _ _); refine wpList_store_at (P := Try.prog) rfl 25 (.tmp 5) (.tmp 10) rfl w3.heap.size [y0, y1, y2] rfl rfl 25 _ hA4 i25 rfl hy1 ?_; intro w5 hA5 hb5 hs5; clear hs5; refine Hid.out ?_))
      refine hidU ?_
      have l4 := hA4.lt
      have l5 := hb5.size
      have hA15 := hb5.at (hA13.below hb4) (by omega)
      obtain ⟨a', c', hRA⟩ := (hR3.below hb4).but hb5 (by omega)
      have hcell := hRA.cell
      dsimp only at hcell
      have hB5 : Below w.heap.size w w5 := hb5.below ((hb3.below (hb1.trans (hb2.mono hb1.size)) (by omega) (by omega)).trans (hb4.mono (by omega))) (by omega) (by have := hb4.size; omega)
      have HE5 : Hid (ElC w2.heap.size w5 y ∧ y.cd = C) := by
        refine ⟨ElC.keep _ w3 w5 y HY.out.2 (by have := hb4.size; omega) (fun k h1 h2 => ?_), HY.out.1⟩
        rw [hb5.block k (by have := hb4.size; omega) (by omega), hb4.block k h2]
      clear hA4 hb4 hb5 hb3 hA13 hR3 HY hRA

      have d1 : w5.cell? ⟨w1.heap.size, 1, none⟩ = some (.bool false) := by rw [hcell.cell]; rfl
      obtain ⟨m, hm⟩ : ∃ m, Hid (m = (r0 :: rest).length) := ⟨_, (rfl : (r0 :: rest).length = _)⟩
      have d0 : w5.cell? ⟨w1.heap.size, 0, none⟩ = some (.slice a' m c') := by rw [hcell.cell, hm.out]; rfl
      have hm0 : decide (0 < m) = true := decide_eq_true (by rw [hm.out, List.length_cons]; omega)
      clear hcell HE5
      go_wp2_with (first
        | ((with_reducible show wpList _ _ _ _ _ _); refine wpList_build_at rfl 25 _ rfl (CT.cells ⟨none, 0, [], 0, none, 0, []⟩) (by kernel_rfl) ?_)
        | ((with_reducible show wpList _ _ _ _ _ _); refine wpList_store_at (P := Try.prog) rfl 25 (.tmp 2) (.tmp 28) rfl w.heap.size (CT.cells ⟨none, 0, [], 0, none, 0, []⟩) rfl rfl 25 _ hA15 i25 rfl (CT.one _) ?_; intro w9 hA9 hb9 hs9; clear hs9))
      refine bodyPost_ret (results_at_tmp rfl _ _ w.heap.size 25 (CT.cells ⟨none, 0, [], 0, none, 0, []⟩) _ rfl hA9 Try.underlying25 rfl i25 (.int .i64 4) rfl) rfl ?_
      exact HB.out _ _ rfl (hb9.below hB5 (Nat.le_refl _) (by omega))

    | nil =>
      by_cases hk : checkC C = 0
      · have HG : Hid (∀ (e : Ending) (w' : World) (y : CT), y.cd = C → ElC w.heap.size w' y → e = .returned (.tuple #[.agg y.cells.toArray, .int .i64 0]) → Below w.heap.size w w' → ReadP w D e w') := fun e w' y hy hE he hb => by
          have hD' := hD.out
          dsimp only at hD'
          rw [if_pos ⟨rfl, hk⟩] at hD'
          exact ⟨⟨y, 0, he, hE, .inr ⟨by rw [hD', hy], rfl⟩⟩, hb⟩
        have HK : Hid (checkC C = 0) := hk
        clear HB' hD hk
        go_enter Try.func13, Try.ntmps13
        go_wp2_with (first
          | ((with_reducible show wpList _ _ _ _ _ _); refine wpList_alloc_at (o := { dst := some 2, .. }) rfl 25 rfl _ 3 z25 ?_; intro w1 hA1 hb1 hs1; clear hs1; refine Hid.out ?_))
        refine hidU ?_
        have l1 := hA1.lt
        go_wp2_with (first
          | ((with_reducible show wpList _ _ _ _ _ _); refine wpList_build_at rfl 69 _ rfl [.slice a n c, .bool false] (by kernel_rfl) ?_)
          | ((with_reducible show wpList _ _ _ _ _ _); refine wpList_box_at rfl 69 (.tmp 7) rfl [.slice a n c, .bool false] rfl ?_; intro w2 hA2 hb2 hs2; clear hs2; refine Hid.out ?_))
        refine hidU ?_
        have l2 := hA2.lt
        have hR2 := HR.out w1 w2 hb1 hb2 hA2
        have hA12 := hA1.below hb2
        clear hA2 hA1 HR
        go_wp2_with (first
          | (go_at_call 30; refine (Q1.out _ _ hR2 (by omega)).mono ?_; rintro _ w3 ⟨y, rfl, hyd, hR3, hE3, hb3⟩; refine Hid.out ?_))
        refine hidU ?_
        have l3 := hb3.size
        have hA13 := hb3.at hA12 (by omega)
        have HY : Hid (y.cd = C ∧ ElC w2.heap.size w3 y) := ⟨hyd, hE3⟩
        clear hyd hE3 hR2 hA12 Q1
        obtain ⟨y0, y1, y2, hyc⟩ : ∃ y0 y1 y2, Hid (y.cells = [y0, y1, y2]) := ⟨_, _, _, (rfl : y.cells = _)⟩
        rw [hyc.out]
        have hy1 : ∀ x ∈ [y0, y1, y2], x.oneCell' = true := by rw [← hyc.out]; exact y.one
        go_wp2_with (first
          | ((with_reducible show wpList _ _ _ _ _ _); refine wpList_alloc_at (o := { dst := some 5, .. }) rfl 25 rfl _ 3 z25 ?_; intro w4 hA4 hb4 hs4; clear hs4)
          | ((with_reducible show wpList _ _ _ _ _ _); refine wpList_store_at (P := Try.prog) rfl 25 (.tmp 5) (.tmp 10) rfl w3.heap.size [y0, y1, y2] rfl rfl 25 _ hA4 i25 rfl hy1 ?_; intro w5 hA5 hb5 hs5; clear hs5; refine Hid.out ?_))
        refine hidU ?_
        have l4 := hA4.lt
        have l5 := hb5.size
        have hA15 := hb5.at (hA13.below hb4) (by omega)
        obtain ⟨a', c', hRA⟩ := (hR3.below hb4).but hb5 (by omega)
        have hcell := hRA.cell
        dsimp only at hcell
        have hB5 : Below w.heap.size w w5 := hb5.below ((hb3.below (hb1.trans (hb2.mono hb1.size)) (by omega) (by omega)).trans (hb4.mono (by omega))) (by omega) (by have := hb4.size; omega)
        have HE5 : Hid (ElC w2.heap.size w5 y ∧ y.cd = C) := by
          refine ⟨ElC.keep _ w3 w5 y HY.out.2 (by have := hb4.size; omega) (fun k h1 h2 => ?_), HY.out.1⟩
          rw [hb5.block k (by have := hb4.size; omega) (by omega), hb4.block k h2]
        clear hA4 hb4 hb5 hb3 hA13 hR3 HY hRA

        have d1 : w5.cell? ⟨w1.heap.size, 1, none⟩ = some (.bool false) := by rw [hcell.cell]; rfl
        have d0 : w5.cell? ⟨w1.heap.size, 0, none⟩ = some (.slice a' 0 c') := by rw [hcell.cell]; rfl
        have Q2 : Calls Try.prog 14 #[.agg #[y0, y1, y2]] w5 fun e w' => e = .returned (.int .i64 0) ∧ Below w5.heap.size w5 w' := by
          have := check_any w5.heap.size y w5 HE5.out.1.1 (Nat.le_refl _)
          rw [HE5.out.2, HK.out] at this
          rw [hyc.out] at this
          exact this
        have HQ2 : Hid (Calls Try.prog 14 #[.agg #[y0, y1, y2]] w5 fun e w' => e = .returned (.int .i64 0) ∧ Below w5.heap.size w5 w') := Q2
        clear hcell Q2
        have e0 : w5.cell? ⟨w3.heap.size, 0, none⟩ = some y0 := by rw [hA5.cell]; rfl
        have e1 : w5.cell? ⟨w3.heap.size, 1, none⟩ = some y1 := by rw [hA5.cell]; rfl
        have e2 : w5.cell? ⟨w3.heap.size, 2, none⟩ = some y2 := by rw [hA5.cell]; rfl
        go_wp2_with (first
          | ((with_reducible show wpList _ _ _ _ _ _); refine wpList_load_at (P := Try.prog) rfl 25 (.tmp 5) rfl w3.heap.size rfl 25 [y0, y1, y2] hA56 _ Try.underlying25 rfl i25 ?_)
          | (go_at_call 14; refine HQ2.out.mono ?_; rintro _ w6 ⟨rfl, hb6⟩; have hA56 := hA5.below hb6; have hA16 := hA15.below hb6; clear hA5 d1 d0 e0 e1 e2)
          | ((with_reducible show wpList _ _ _ _ _ _); refine wpList_store_at (P := Try.prog) rfl 25 (.tmp 2) (.tmp 29) rfl w.heap.size [y0, y1, y2] rfl rfl 25 _ hA16 i25 rfl hy1 ?_; intro w9 hA9 hb9 hs9; clear hs9))
        refine bodyPost_ret (results_at_tmp rfl _ _ w.heap.size 25 [y0, y1, y2] _ rfl hA9 Try.underlying25 rfl i25 (.int .i64 0) rfl) rfl ?_
        have l6 := hb6.size
        have l9 := hb9.size
        refine HG.out _ _ y HE5.out.2 ?_ (by rw [hyc.out]) (hb9.below (hB5.trans (hb6.mono (by omega))) (Nat.le_refl _) (by omega))
        refine ElC.mono w2.heap.size _ _ _ (by omega) (ElC.keep _ w5 w9 y HE5.out.1 (by omega) (fun k h1 h2 => ?_))
        rw [hb9.block k (by omega) (by omega), hb6.block k h2]
      · have HB : Hid (∀ (e : Ending) (w' : World), e = .returned (.tuple #[.agg (CT.cells ⟨none, 0, [], 0, none, 0, []⟩).toArray, .int .i64 4]) → Below w.heap.size w w' → ReadP w D e w') := fun e w' => HB'.out e w' (by rintro ⟨_, q⟩; exact hk q)
        obtain ⟨k, hkk⟩ : ∃ k, Hid (k = checkC C) := ⟨_, (rfl : checkC C = _)⟩
        have hk' : ((k : Int) != 0) = true := by rw [bne_iff_ne, hkk.out]; omega
        clear HB' hD hk
        go_enter Try.func13, Try.ntmps13
        go_wp2_with (first
          | ((with_reducible show wpList _ _ _ _ _ _); refine wpList_alloc_at (o := { dst := some 2, .. }) rfl 25 rfl _ 3 z25 ?_; intro w1 hA1 hb1 hs1; clear hs1; refine Hid.out ?_))
        refine hidU ?_
        have l1 := hA1.lt
        go_wp2_with (first
          | ((with_reducible show wpList _ _ _ _ _ _); refine wpList_build_at rfl 69 _ rfl [.slice a n c, .bool false] (by kernel_rfl) ?_)
          | ((with_reducible show wpList _ _ _ _ _ _); refine wpList_box_at rfl 69 (.tmp 7) rfl [.slice a n c, .bool false] rfl ?_; intro w2 hA2 hb2 hs2; clear hs2; refine Hid.out ?_))
        refine hidU ?_
        have l2 := hA2.lt
        have hR2 := HR.out w1 w2 hb1 hb2 hA2
        have hA12 := hA1.below hb2
        clear hA2 hA1 HR
        go_wp2_with (first
          | (go_at_call 30; refine (Q1.out _ _ hR2 (by omega)).mono ?_; rintro _ w3 ⟨y, rfl, hyd, hR3, hE3, hb3⟩; refine Hid.out ?_))
        refine hidU ?_
        have l3 := hb3.size
        have hA13 := hb3.at hA12 (by omega)
        have HY : Hid (y.cd = C ∧ ElC w2.heap.size w3 y) := ⟨hyd, hE3⟩
        clear hyd hE3 hR2 hA12 Q1
        obtain ⟨y0, y1, y2, hyc⟩ : ∃ y0 y1 y2, Hid (y.cells = [y0, y1, y2]) := ⟨_, _, _, (rfl : y.cells = _)⟩
        rw [hyc.out]
        have hy1 : ∀ x ∈ [y0, y1, y2], x.oneCell' = true := by rw [← hyc.out]; exact y.one
        go_wp2_with (first
          | ((with_reducible show wpList _ _ _ _ _ _); refine wpList_alloc_at (o := { dst := some 5, .. }) rfl 25 rfl _ 3 z25 ?_; intro w4 hA4 hb4 hs4; clear hs4)
          | ((with_reducible show wpList _ _ _ _ _ _); refine wpList_store_at (P := Try.prog) rfl 25 (.tmp 5) (.tmp 10) rfl w3.heap.size [y0, y1, y2] rfl rfl 25 _ hA4 i25 rfl hy1 ?_; intro w5 hA5 hb5 hs5; clear hs5; refine Hid.out ?_))
        refine hidU ?_
        have l4 := hA4.lt
        have l5 := hb5.size
        have hA15 := hb5.at (hA13.below hb4) (by omega)
        obtain ⟨a', c', hRA⟩ := (hR3.below hb4).but hb5 (by omega)
        have hcell := hRA.cell
        dsimp only at hcell
        have hB5 : Below w.heap.size w w5 := hb5.below ((hb3.below (hb1.trans (hb2.mono hb1.size)) (by omega) (by omega)).trans (hb4.mono (by omega))) (by omega) (by have := hb4.size; omega)
        have HE5 : Hid (ElC w2.heap.size w5 y ∧ y.cd = C) := by
          refine ⟨ElC.keep _ w3 w5 y HY.out.2 (by have := hb4.size; omega) (fun k h1 h2 => ?_), HY.out.1⟩
          rw [hb5.block k (by have := hb4.size; omega) (by omega), hb4.block k h2]
        clear hA4 hb4 hb5 hb3 hA13 hR3 HY hRA

        have d1 : w5.cell? ⟨w1.heap.size, 1, none⟩ = some (.bool false) := by rw [hcell.cell]; rfl
        have d0 : w5.cell? ⟨w1.heap.size, 0, none⟩ = some (.slice a' 0 c') := by rw [hcell.cell]; rfl
        have HQ2 : Hid (Calls Try.prog 14 #[.agg #[y0, y1, y2]] w5 fun e w' => e = .returned (.int .i64 (k : Int)) ∧ Below w5.heap.size w5 w') := by
          have := check_any w5.heap.size y w5 HE5.out.1.1 (Nat.le_refl _)
          rw [HE5.out.2, ← hkk.out] at this
          rw [hyc.out] at this
          exact this
        clear hcell
        have e0 : w5.cell? ⟨w3.heap.size, 0, none⟩ = some y0 := by rw [hA5.cell]; rfl
        have e1 : w5.cell? ⟨w3.heap.size, 1, none⟩ = some y1 := by rw [hA5.cell]; rfl
        have e2 : w5.cell? ⟨w3.heap.size, 2, none⟩ = some y2 := by rw [hA5.cell]; rfl
        go_wp2_with (first
          | (go_at_call 14; refine HQ2.out.mono ?_; rintro _ w6 ⟨rfl, hb6⟩; have hA16 := hA15.below hb6; clear hA5 d1 d0 e0 e1 e2)
          | ((with_reducible show wpList _ _ _ _ _ _); refine wpList_build_at rfl 25 _ rfl (CT.cells ⟨none, 0, [], 0, none, 0, []⟩) (by kernel_rfl) ?_)
          | ((with_reducible show wpList _ _ _ _ _ _); refine wpList_store_at (P := Try.prog) rfl 25 (.tmp 2) (.tmp 28) rfl w.heap.size (CT.cells ⟨none, 0, [], 0, none, 0, []⟩) rfl rfl 25 _ hA16 i25 rfl (CT.one _) ?_; intro w9 hA9 hb9 hs9; clear hs9))
        have hB6 := hB5.trans (hb6.mono (by omega))
        have l6 := hb6.size
        refine bodyPost_ret (results_at_tmp rfl _ _ w.heap.size 25 (CT.cells ⟨none, 0, [], 0, none, 0, []⟩) _ rfl hA9 Try.underlying25 rfl i25 (.int .i64 4) rfl) rfl ?_
        exact HB.out _ _ rfl (hb9.below hB6 (Nat.le_refl _) (by omega))


end Go.Proofs.Ytefklmckkigllaa
