/- The document's own comparison of expressions. -/
import Derived.Test.YtcmahiphfpgadaaGreatDoorJ17
namespace Go.Proofs.YtcmahiphfpgadaaGreatDoor
open Go.RowKit
set_option linter.unusedVariables false

/-- What the document's own telling two expressions apart does. -/
def KitEW (B : Nat) (x : ET) : Prop := ∀ (y : ET) (w : World), x.In B w → y.In B w → B ≤ w.heap.size → Calls Tryz.prog 17 #[.agg x.cells.toArray, .agg y.cells.toArray] w fun r w' => r = .returned (.bool (samX x.ex y.ex)) ∧ Below w.heap.size w w'

theorem Old.from {B : Nat} {a b c : World} (h : Old B a b) (k : Old B a c) : Old B b c := fun i hi => (k i hi).trans (h i hi).symm

theorem ex_cells {w : World} {g : Nat} {op t b : Nat} {nm : ByteArray} {s : Value} (h : At 34 w g (ex5 op t b nm s)) : w.cell? ⟨g, 0, none⟩ = some (.int .u8 (op : Int)) ∧ w.cell? ⟨g, 1, none⟩ = some (.int .u8 (t : Int)) ∧ w.cell? ⟨g, 2, none⟩ = some (.int .u64 (b : Int)) ∧ w.cell? ⟨g, 3, none⟩ = some (.string nm) ∧ w.cell? ⟨g, 4, none⟩ = some s := by
  refine ⟨?_, ?_, ?_, ?_, ?_⟩ <;> (rw [h.cell]; rfl)
theorem ex_mid {w : World} {g o : Nat} {op t b : Nat} {nm : ByteArray} {s : Value} (h : w.rangeAt g o (ex5 op t b nm s)) : w.cell? ⟨g, o, none⟩ = some (.int .u8 (op : Int)) ∧ w.cell? ⟨g, o + 1, none⟩ = some (.int .u8 (t : Int)) ∧ w.cell? ⟨g, o + 2, none⟩ = some (.int .u64 (b : Int)) ∧ w.cell? ⟨g, o + 3, none⟩ = some (.string nm) ∧ w.cell? ⟨g, o + 4, none⟩ = some s :=
  ⟨h 0 _ rfl, h 1 _ rfl, h 2 _ rfl, h 3 _ rfl, h 4 _ rfl⟩

set_option maxRecDepth 100000 in
set_option maxHeartbeats 6400000 in
theorem kitExpr_of (B : Nat) (op t b : Nat) (nm : ByteArray) (a : Option Addr) (c : Nat) (ks : List ET) (hS : ∀ k ∈ ks, KitEW B k) : KitEW B (.mk op t b nm a c ks) := by
  rintro ⟨op', t', b', nm', a', c', ks'⟩ w hx hy hBw
  unfold ET.In at hx hy
  obtain ⟨_, _, _, x1, x2, x3⟩ := hx
  obtain ⟨_, _, _, y1, y2, y3⟩ := hy
  have HR : Hid (RowE B w a c ks ∧ RowE B w a' c' ks') := ⟨⟨x1, x2, x3⟩, ⟨y1, y2, y3⟩⟩
  obtain ⟨R, hR⟩ : ∃ R, Hid (R = samX (ET.mk op t b nm a c ks).ex (ET.mk op' t' b' nm' a' c' ks').ex) := ⟨_, (rfl : _ = samX _ _)⟩
  rw [← hR.out]
  have hR2 : Hid (R = (decide (op = op') && (decide (t = t' ∧ b = b') && (decide (nm.data.toList = nm'.data.toList) && samL (ks.map ET.ex) (ks'.map ET.ex))))) := by
    have := hR.out
    show R = _
    rw [this]
    show samX (.mk op t b nm.data.toList (ET.exs ks)) (.mk op' t' b' nm'.data.toList (ET.exs ks')) = _
    rw [samX, ET.exs_eq, ET.exs_eq]
  obtain ⟨n, hn⟩ : ∃ n, Hid (n = ks.length) := ⟨_, (rfl : ks.length = _)⟩
  obtain ⟨n', hn'⟩ : ∃ n, Hid (n = ks'.length) := ⟨_, (rfl : ks'.length = _)⟩
  show Calls Tryz.prog 17 #[.agg (ex5 op t b nm (.slice a ks.length c)).toArray, .agg (ex5 op' t' b' nm' (.slice a' ks'.length c')).toArray] w _
  rw [← hn.out] at x1 x2 ⊢
  rw [← hn'.out] at y1 y2 ⊢
  have hq := eq26g t b t' b'
  have HS : Hid (∀ k ∈ ks, KitEW B k) := hS
  clear x3 y3 hR hS
  go_enter Tryz.func17, Tryz.ntmps17
  go_wp2_with (first
    | ((with_reducible show wpList _ _ _ _ _ _); refine wpList_box_at rfl 34 (.tmp 0) rfl (ex5 op t b nm (.slice a n c)) rfl ?_; intro w1 hA1 hb1 hs1; clear hs1)
    | ((with_reducible show wpList _ _ _ _ _ _); refine wpList_box_at rfl 34 (.tmp 1) rfl (ex5 op' t' b' nm' (.slice a' n' c')) rfl ?_; intro w2 hA2 hb2 hs2; clear hs2; refine Hid.out ?_))
  refine hidU ?_
  have hA12 := hA1.below hb2
  have hbw : Below w.heap.size w w2 := hb1.trans (hb2.mono hb1.size)
  obtain ⟨q0, q1, q2, q3, q4⟩ := ex_cells hA12
  obtain ⟨u0, u1, u2, u3, u4⟩ := ex_cells hA2
  have hl12 : w1.heap.size < w2.heap.size := hA2.lt
  have HB : Hid (At 34 w2 w.heap.size (ex5 op t b nm (.slice a n c)) ∧ At 34 w2 w1.heap.size (ex5 op' t' b' nm' (.slice a' n' c'))) := ⟨hA12, hA2⟩
  clear hA12 hA1 hA2 hb1 hb2
  by_cases ho : op = op'
  · subst ho
    have hd : decide (op = op) = true := by simp
    rw [hd, Bool.true_and] at hR2
    cases hV : decide (t = t' ∧ b = b') with
    | true =>
      rw [hV, Bool.true_and] at hR2
      have hq' : ∀ u, (Op.equalIn 10000 31 (.agg #[.int .u8 (t : Int), .int .u64 (b : Int)]) (.agg #[.int .u8 (t' : Int), .int .u64 (b' : Int)])).run Tryz.prog u = .ok true u := fun u => by rw [hq, hV]
      clear hq hd hV
      by_cases hs : nm.toList = nm'.toList
      · have hs0 : (nm.toList == nm'.toList) = true := by rw [beq_iff_eq]; exact hs
        rw [toList_bytes, toList_bytes] at hs
        have hs' : decide (nm.data.toList = nm'.data.toList) = true := decide_eq_true hs
        rw [hs', Bool.true_and] at hR2
        clear hs hs'
        by_cases hnn : n = n'
        · subst hnn
          go_wp2_with fail
          clear q0 q1 q2 q3 q4 u0 u1 u2 u3 u4 hs0 hq'
          go_loopw [5] (fun j wr => ∃ i : Nat, j = .int .i64 (i : Int) ∧ i ≤ n ∧ Hid (Below w2.heap.size w2 wr ∧ ∀ (q : Nat) (x y : Ex), q < i → (ks.map ET.ex)[q]? = some x → (ks'.map ET.ex)[q]? = some y → samX x y = true)) (fun j _ => n - (intOf j).toNat)
          case atStart => exact ⟨0, rfl, by omega, Below.refl _ _, fun q x y hq => by omega⟩
          case round =>
            obtain ⟨i, rfl, hi, hX⟩ := hrel
            obtain ⟨hb2r, hall⟩ := hX.out
            obtain ⟨-, -, -, -, q4⟩ := ex_cells (HB.out.1.below hb2r)
            obtain ⟨-, -, -, -, u4⟩ := ex_cells (HB.out.2.below hb2r)
            have hwr : Below w.heap.size w wr := hbw.trans (hb2r.mono hbw.size)
            by_cases hc : i < n
            · obtain ⟨x, hx⟩ : ∃ k, ks[i]? = some k := ⟨ks[i]'(by rw [← hn.out]; exact hc), by rw [List.getElem?_eq_getElem]⟩
              obtain ⟨y, hy⟩ : ∃ k, ks'[i]? = some k := ⟨ks'[i]'(by rw [← hn'.out]; exact hc), by rw [List.getElem?_eq_getElem]⟩
              have hold : Old B w wr := Old.of_below hwr hBw
              obtain ⟨g1, o1, rfl, hg1, hr1, hx1⟩ := (HR.out.1.old hold).at i x hx
              obtain ⟨g2, o2, rfl, hg2, hr2, hy1⟩ := (HR.out.2.old hold).at i y hy
              have HI : Hid (∀ wz, Below w.heap.size w wz → Calls Tryz.prog 17 #[.agg x.cells.toArray, .agg y.cells.toArray] wz fun r w' => r = .returned (.bool (samX x.ex y.ex)) ∧ Below wz.heap.size wz w') := fun wz hz => HS.out x (List.mem_of_getElem? hx) y wz (hx1.old (Old.from hold (Old.of_below hz hBw))) (hy1.old (Old.from hold (Old.of_below hz hBw))) (by have := hz.size; omega)
              have HX : Hid ((ks.map ET.ex)[i]? = some x.ex ∧ (ks'.map ET.ex)[i]? = some y.ex) := ⟨by rw [List.getElem?_map, hx]; rfl, by rw [List.getElem?_map, hy]; rfl⟩
              have HA : Hid (∀ (q : Nat) (x y : Ex), q < i → (ks.map ET.ex)[q]? = some x → (ks'.map ET.ex)[q]? = some y → samX x y = true) := hall
              obtain ⟨Z, hZ⟩ : ∃ Z, Hid (Z = samX x.ex y.ex) := ⟨_, (rfl : _ = samX _ _)⟩
              rw [← hZ.out] at HI
              obtain ⟨xop, xt, xb, xnm, xa, xc, xk⟩ := x
              obtain ⟨yop, yt, yb, ynm, ya, yc, yk⟩ := y
              obtain ⟨x0, x1', x2', x3', x4'⟩ := ex_mid (s := .slice xa xk.length xc) hr1
              obtain ⟨y0, y1', y2', y3', y4'⟩ := ex_mid (s := .slice ya yk.length yc) hr2
              clear hX hall hx hy hx1 hy1 hold hr1 hr2
              go_wp2_with fail
              go_region_with (first
                | (go_at_call 17; refine (HI.out _ (by first | exact hwr | exact below_drN hwr _ | exact Below.drew hwr)).mono ?_; rintro r w3 ⟨rfl, hb3⟩))
              all_goals
                (have hw3 : Below w2.heap.size w2 w3 := by
                  first
                    | exact hb2r.trans (hb3.mono hb2r.size)
                    | exact (below_drN hb2r _).trans (hb3.mono hb2r.size)
                    | exact (Below.drew hb2r).trans (hb3.mono hb2r.size)
                 clear hb3 q4 u4 x0 x1' x2' x3' x4' y0 y1' y2' y3' y4' HI
                 cases Z with
                 | false =>
                   have hRf : R = false := by
                     rw [hR2.out, Bool.eq_false_iff]
                     intro h
                     have := ((samL_iff _ _).1 h).2 i _ _ HX.out.1 HX.out.2
                     rw [← hZ.out] at this
                     cases this
                   clear hZ HX HA HR HB HS
                   go_wp2
                   go_ret
                   exact ⟨by rw [hRf]; rfl, hbw.trans (hw3.mono hbw.size)⟩
                 | true =>
                   go_wp2
                   go_roundw
                   case rel =>
                     refine ⟨i + 1, by go_num, by omega, hw3, fun q u v hq hu hv => ?_⟩
                     by_cases hqi : q = i
                     · subst hqi
                       rw [HX.out.1] at hu
                       rw [HX.out.2] at hv
                       cases hu
                       cases hv
                       exact hZ.out.symm
                     · exact HA.out q u v (by omega) hu hv
                   case measure => simp [intOf]; omega)
            · have hin : i = n := by omega
              have hRt : R = true := by
                rw [hR2.out, samL_iff, List.length_map, List.length_map, ← hn.out, ← hn'.out]
                refine ⟨rfl, fun q u v hu hv => hall q u v ?_ hu hv⟩
                have := (List.getElem?_eq_some_iff.1 hu).1
                rw [List.length_map, ← hn.out] at this
                omega
              clear hX hall hin HR HS HB
              go_wp2
              go_ret
              exact ⟨by rw [hRt]; rfl, hwr⟩
        · have hne : ((n : Int) == (n' : Int)) = false := by rw [beq_eq_false_iff_ne]; omega
          have hRf : R = false := by
            rw [hR2.out, Bool.eq_false_iff]
            intro h
            have := (samL_iff _ _).1 h
            rw [List.length_map, List.length_map, ← hn.out, ← hn'.out] at this
            exact hnn this.1
          clear hnn HR HS HB
          go_wp2_with fail
          go_ret
          exact ⟨by rw [hRf]; rfl, hbw⟩
      · have hs0 : (nm.toList == nm'.toList) = false := by rw [beq_eq_false_iff_ne]; exact hs
        rw [toList_bytes, toList_bytes] at hs
        have hs' : decide (nm.data.toList = nm'.data.toList) = false := decide_eq_false hs
        rw [hs', Bool.false_and] at hR2
        clear hs hs' HR HS HB
        go_wp2_with fail
        go_ret
        exact ⟨by rw [hR2.out]; rfl, hbw⟩
    | false =>
      rw [hV, Bool.false_and] at hR2
      have hq' : ∀ u, (Op.equalIn 10000 31 (.agg #[.int .u8 (t : Int), .int .u64 (b : Int)]) (.agg #[.int .u8 (t' : Int), .int .u64 (b' : Int)])).run Tryz.prog u = .ok false u := fun u => by rw [hq, hV]
      clear hq hd hV HR HS HB
      go_wp2_with fail
      go_ret
      exact ⟨by rw [hR2.out]; rfl, hbw⟩
  · have e0 : ((op : Int) == (op' : Int)) = false := by rw [beq_eq_false_iff_ne]; omega
    have hd : decide (op = op') = false := by simpa using ho
    rw [hd, Bool.false_and] at hR2
    have e1 : ¬ (op : Int) = (op' : Int) := by omega
    clear ho hd hq HR HS HB
    go_wp2_with fail
    all_goals first | (exfalso; apply e1; assumption) | (go_ret; exact ⟨by rw [hR2.out]; rfl, hbw⟩)

theorem kitExpr_any (B : Nat) (M : Nat) : ∀ x : ET, SizeOf.sizeOf x < M → KitEW B x := by
  induction M with
  | zero => intro x h; omega
  | succ M ih =>
    rintro ⟨op, t, b, nm, a, c, ks⟩ hN
    exact kitExpr_of B op t b nm a c ks fun k hk => ih k (by have := ET.sz (op := op) (t := t) (b := b) (c := c) (nm := nm) (a := a) hk; omega)

end Go.Proofs.YtcmahiphfpgadaaGreatDoor
