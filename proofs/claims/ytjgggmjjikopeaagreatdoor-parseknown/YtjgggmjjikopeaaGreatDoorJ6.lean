/- Joined texts of the proof. -/
import Derived.Test.YtjgggmjjikopeaaGreatDoorJ5
import Derived.Test.YtjgggmjjikopeaaGreatDoorJ3
import Derived.Test.YtjgggmjjikopeaaGreatDoorJ2

/- The document's own comparison of expressions. -/
namespace Go.Proofs.YtjgggmjjikopeaaGreatDoor
open Go.RowKit
set_option linter.unusedVariables false

/-- What the document's own telling two expressions apart does. -/
def KitEW (B : Nat) (x : ET) : Prop := ∀ (y : ET) (w : World), x.In B w → y.In B w → B ≤ w.heap.size → Calls Tryz.prog 15 #[.agg x.cells.toArray, .agg y.cells.toArray] w fun r w' => r = .returned (.bool (samX x.ex y.ex)) ∧ Below w.heap.size w w'

theorem Old.from {B : Nat} {a b c : World} (h : Old B a b) (k : Old B a c) : Old B b c := fun i hi => (k i hi).trans (h i hi).symm

theorem ex_cells {w : World} {g : Nat} {op t b : Nat} {nm : ByteArray} {s : Value} (h : At 43 w g (ex5 op t b nm s)) : w.cell? ⟨g, 0, none⟩ = some (.int .u8 (op : Int)) ∧ w.cell? ⟨g, 1, none⟩ = some (.int .u8 (t : Int)) ∧ w.cell? ⟨g, 2, none⟩ = some (.int .u64 (b : Int)) ∧ w.cell? ⟨g, 3, none⟩ = some (.string nm) ∧ w.cell? ⟨g, 4, none⟩ = some s := by
  refine ⟨?_, ?_, ?_, ?_, ?_⟩ <;> (rw [h.cell]; rfl)
theorem ex_mid {w : World} {g o : Nat} {op t b : Nat} {nm : ByteArray} {s : Value} (h : w.rangeAt g o (ex5 op t b nm s)) : w.cell? ⟨g, o, none⟩ = some (.int .u8 (op : Int)) ∧ w.cell? ⟨g, o + 1, none⟩ = some (.int .u8 (t : Int)) ∧ w.cell? ⟨g, o + 2, none⟩ = some (.int .u64 (b : Int)) ∧ w.cell? ⟨g, o + 3, none⟩ = some (.string nm) ∧ w.cell? ⟨g, o + 4, none⟩ = some s :=
  ⟨h 0 _ rfl, h 1 _ rfl, h 2 _ rfl, h 3 _ rfl, h 4 _ rfl⟩

set_option maxRecDepth 100000 in
set_option maxHeartbeats 6400000 in
theorem kitExpr_of (B : Nat) (op t b : Nat) (nm : ByteArray) (a : Option Addr) (c : Nat) (ks : List ET) (hS : ∀ k ∈ ks, KitEW B k) : KitEW B (.mk op t b nm a c ks) := by
  rintro ⟨op', t', b', nm', a', c', ks'⟩ w hx hy hBw
  unfold ET.In at hx hy
  obtain ⟨_, _, _, x1, x2, x3⟩ := hx
  obtain ⟨_, _, _, y1, y2, y3⟩ := hy
  have HR : Hid (RowE B w a c ks ∧ RowE B w a' c' ks') := ⟨⟨x1, x2, x3⟩, ⟨y1, y2, y3⟩⟩
  obtain ⟨R, hR⟩ : ∃ R, Hid (R = samX (ET.mk op t b nm a c ks).ex (ET.mk op' t' b' nm' a' c' ks').ex) := ⟨_, (rfl : _ = samX _ _)⟩
  rw [← hR.out]
  have hR2 : Hid (R = (decide (op = op') && (decide (t = t' ∧ b = b') && (decide (nm.data.toList = nm'.data.toList) && samL (ks.map ET.ex) (ks'.map ET.ex))))) := by
    have := hR.out
    show R = _
    rw [this]
    show samX (.mk op t b nm.data.toList (ET.exs ks)) (.mk op' t' b' nm'.data.toList (ET.exs ks')) = _
    rw [samX, ET.exs_eq, ET.exs_eq]
  obtain ⟨n, hn⟩ : ∃ n, Hid (n = ks.length) := ⟨_, (rfl : ks.length = _)⟩
  obtain ⟨n', hn'⟩ : ∃ n, Hid (n = ks'.length) := ⟨_, (rfl : ks'.length = _)⟩
  show Calls Tryz.prog 15 #[.agg (ex5 op t b nm (.slice a ks.length c)).toArray, .agg (ex5 op' t' b' nm' (.slice a' ks'.length c')).toArray] w _
  rw [← hn.out] at x1 x2 ⊢
  rw [← hn'.out] at y1 y2 ⊢
  have hq := eq26g t b t' b'
  have HS : Hid (∀ k ∈ ks, KitEW B k) := hS
  clear x3 y3 hR hS
  go_enter Tryz.func15, Tryz.ntmps15
  go_wp2_with (first
    | ((with_reducible show wpList _ _ _ _ _ _); refine wpList_box_at rfl 43 (.tmp 0) rfl (ex5 op t b nm (.slice a n c)) rfl ?_; intro w1 hA1 hb1 hs1; clear hs1)
    | ((with_reducible show wpList _ _ _ _ _ _); refine wpList_box_at rfl 43 (.tmp 1) rfl (ex5 op' t' b' nm' (.slice a' n' c')) rfl ?_; intro w2 hA2 hb2 hs2; clear hs2; refine Hid.out ?_))
  refine hidU ?_
  have hA12 := hA1.below hb2
  have hbw : Below w.heap.size w w2 := hb1.trans (hb2.mono hb1.size)
  obtain ⟨q0, q1, q2, q3, q4⟩ := ex_cells hA12
  obtain ⟨u0, u1, u2, u3, u4⟩ := ex_cells hA2
  have hl12 : w1.heap.size < w2.heap.size := hA2.lt
  have HB : Hid (At 43 w2 w.heap.size (ex5 op t b nm (.slice a n c)) ∧ At 43 w2 w1.heap.size (ex5 op' t' b' nm' (.slice a' n' c'))) := ⟨hA12, hA2⟩
  clear hA12 hA1 hA2 hb1 hb2
  by_cases ho : op = op'
  · subst ho
    have hd : decide (op = op) = true := by simp
    rw [hd, Bool.true_and] at hR2
    cases hV : decide (t = t' ∧ b = b') with
    | true =>
      rw [hV, Bool.true_and] at hR2
      have hq' : ∀ u, (Op.equalIn 10000 40 (.agg #[.int .u8 (t : Int), .int .u64 (b : Int)]) (.agg #[.int .u8 (t' : Int), .int .u64 (b' : Int)])).run Tryz.prog u = .ok true u := fun u => by rw [hq, hV]
      clear hq hd hV
      by_cases hs : nm.toList = nm'.toList
      · have hs0 : (nm.toList == nm'.toList) = true := by rw [beq_iff_eq]; exact hs
        rw [toList_bytes, toList_bytes] at hs
        have hs' : decide (nm.data.toList = nm'.data.toList) = true := decide_eq_true hs
        rw [hs', Bool.true_and] at hR2
        clear hs hs'
        by_cases hnn : n = n'
        · subst hnn
          go_wp2_with fail
          clear q0 q1 q2 q3 q4 u0 u1 u2 u3 u4 hs0 hq'
          go_loopw [5] (fun j wr => ∃ i : Nat, j = .int .i64 (i : Int) ∧ i ≤ n ∧ Hid (Below w2.heap.size w2 wr ∧ ∀ (q : Nat) (x y : Ex), q < i → (ks.map ET.ex)[q]? = some x → (ks'.map ET.ex)[q]? = some y → samX x y = true)) (fun j _ => n - (intOf j).toNat)
          case atStart => exact ⟨0, rfl, by omega, Below.refl _ _, fun q x y hq => by omega⟩
          case round =>
            obtain ⟨i, rfl, hi, hX⟩ := hrel
            obtain ⟨hb2r, hall⟩ := hX.out
            obtain ⟨-, -, -, -, q4⟩ := ex_cells (HB.out.1.below hb2r)
            obtain ⟨-, -, -, -, u4⟩ := ex_cells (HB.out.2.below hb2r)
            have hwr : Below w.heap.size w wr := hbw.trans (hb2r.mono hbw.size)
            by_cases hc : i < n
            · obtain ⟨x, hx⟩ : ∃ k, ks[i]? = some k := ⟨ks[i]'(by rw [← hn.out]; exact hc), by rw [List.getElem?_eq_getElem]⟩
              obtain ⟨y, hy⟩ : ∃ k, ks'[i]? = some k := ⟨ks'[i]'(by rw [← hn'.out]; exact hc), by rw [List.getElem?_eq_getElem]⟩
              have hold : Old B w wr := Old.of_below hwr hBw
              obtain ⟨g1, o1, rfl, hg1, hr1, hx1⟩ := (HR.out.1.old hold).at i x hx
              obtain ⟨g2, o2, rfl, hg2, hr2, hy1⟩ := (HR.out.2.old hold).at i y hy
              have HI : Hid (∀ wz, Below w.heap.size w wz → Calls Tryz.prog 15 #[.agg x.cells.toArray, .agg y.cells.toArray] wz fun r w' => r = .returned (.bool (samX x.ex y.ex)) ∧ Below wz.heap.size wz w') := fun wz hz => HS.out x (List.mem_of_getElem? hx) y wz (hx1.old (Old.from hold (Old.of_below hz hBw))) (hy1.old (Old.from hold (Old.of_below hz hBw))) (by have := hz.size; omega)
              have HX : Hid ((ks.map ET.ex)[i]? = some x.ex ∧ (ks'.map ET.ex)[i]? = some y.ex) := ⟨by rw [List.getElem?_map, hx]; rfl, by rw [List.getElem?_map, hy]; rfl⟩
              have HA : Hid (∀ (q : Nat) (x y : Ex), q < i → (ks.map ET.ex)[q]? = some x → (ks'.map ET.ex)[q]? = some y → samX x y = true) := hall
              obtain ⟨Z, hZ⟩ : ∃ Z, Hid (Z = samX x.ex y.ex) := ⟨_, (rfl : _ = samX _ _)⟩
              rw [← hZ.out] at HI
              obtain ⟨xop, xt, xb, xnm, xa, xc, xk⟩ := x
              obtain ⟨yop, yt, yb, ynm, ya, yc, yk⟩ := y
              obtain ⟨x0, x1', x2', x3', x4'⟩ := ex_mid (s := .slice xa xk.length xc) hr1
              obtain ⟨y0, y1', y2', y3', y4'⟩ := ex_mid (s := .slice ya yk.length yc) hr2
              clear hX hall hx hy hx1 hy1 hold hr1 hr2
              go_wp2_with fail
              go_region_with (first
                | (go_at_call 15; refine (HI.out _ (by first | exact hwr | exact below_drN hwr _ | exact Below.drew hwr)).mono ?_; rintro r w3 ⟨rfl, hb3⟩))
              all_goals
                (have hw3 : Below w2.heap.size w2 w3 := by
                  first
                    | exact hb2r.trans (hb3.mono hb2r.size)
                    | exact (below_drN hb2r _).trans (hb3.mono hb2r.size)
                    | exact (Below.drew hb2r).trans (hb3.mono hb2r.size)
                 clear hb3 q4 u4 x0 x1' x2' x3' x4' y0 y1' y2' y3' y4' HI
                 cases Z with
                 | false =>
                   have hRf : R = false := by
                     rw [hR2.out, Bool.eq_false_iff]
                     intro h
                     have := ((samL_iff _ _).1 h).2 i _ _ HX.out.1 HX.out.2
                     rw [← hZ.out] at this
                     cases this
                   clear hZ HX HA HR HB HS
                   go_wp2
                   go_ret
                   exact ⟨by rw [hRf]; rfl, hbw.trans (hw3.mono hbw.size)⟩
                 | true =>
                   go_wp2
                   go_roundw
                   case rel =>
                     refine ⟨i + 1, by go_num, by omega, hw3, fun q u v hq hu hv => ?_⟩
                     by_cases hqi : q = i
                     · subst hqi
                       rw [HX.out.1] at hu
                       rw [HX.out.2] at hv
                       cases hu
                       cases hv
                       exact hZ.out.symm
                     · exact HA.out q u v (by omega) hu hv
                   case measure => simp [intOf]; omega)
            · have hin : i = n := by omega
              have hRt : R = true := by
                rw [hR2.out, samL_iff, List.length_map, List.length_map, ← hn.out, ← hn'.out]
                refine ⟨rfl, fun q u v hu hv => hall q u v ?_ hu hv⟩
                have := (List.getElem?_eq_some_iff.1 hu).1
                rw [List.length_map, ← hn.out] at this
                omega
              clear hX hall hin HR HS HB
              go_wp2
              go_ret
              exact ⟨by rw [hRt]; rfl, hwr⟩
        · have hne : ((n : Int) == (n' : Int)) = false := by rw [beq_eq_false_iff_ne]; omega
          have hRf : R = false := by
            rw [hR2.out, Bool.eq_false_iff]
            intro h
            have := (samL_iff _ _).1 h
            rw [List.length_map, List.length_map, ← hn.out, ← hn'.out] at this
            exact hnn this.1
          clear hnn HR HS HB
          go_wp2_with fail
          go_ret
          exact ⟨by rw [hRf]; rfl, hbw⟩
      · have hs0 : (nm.toList == nm'.toList) = false := by rw [beq_eq_false_iff_ne]; exact hs
        rw [toList_bytes, toList_bytes] at hs
        have hs' : decide (nm.data.toList = nm'.data.toList) = false := decide_eq_false hs
        rw [hs', Bool.false_and] at hR2
        clear hs hs' HR HS HB
        go_wp2_with fail
        go_ret
        exact ⟨by rw [hR2.out]; rfl, hbw⟩
    | false =>
      rw [hV, Bool.false_and] at hR2
      have hq' : ∀ u, (Op.equalIn 10000 40 (.agg #[.int .u8 (t : Int), .int .u64 (b : Int)]) (.agg #[.int .u8 (t' : Int), .int .u64 (b' : Int)])).run Tryz.prog u = .ok false u := fun u => by rw [hq, hV]
      clear hq hd hV HR HS HB
      go_wp2_with fail
      go_ret
      exact ⟨by rw [hR2.out]; rfl, hbw⟩
  · have e0 : ((op : Int) == (op' : Int)) = false := by rw [beq_eq_false_iff_ne]; omega
    have hd : decide (op = op') = false := by simpa using ho
    rw [hd, Bool.false_and] at hR2
    have e1 : ¬ (op : Int) = (op' : Int) := by omega
    clear ho hd hq HR HS HB
    go_wp2_with fail
    all_goals first | (exfalso; apply e1; assumption) | (go_ret; exact ⟨by rw [hR2.out]; rfl, hbw⟩)

theorem kitExpr_any (B : Nat) (M : Nat) : ∀ x : ET, SizeOf.sizeOf x < M → KitEW B x := by
  induction M with
  | zero => intro x h; omega
  | succ M ih =>
    rintro ⟨op, t, b, nm, a, c, ks⟩ hN
    exact kitExpr_of B op t b nm a c ks fun k hk => ih k (by have := ET.sz (op := op) (t := t) (b := b) (c := c) (nm := nm) (a := a) hk; omega)

end Go.Proofs.YtjgggmjjikopeaaGreatDoor

/- How high an expression is: tree.Height and the document's own. -/
namespace Go.Proofs.YtjgggmjjikopeaaGreatDoor
open Go.RowKit
set_option linter.unusedVariables false

mutual
def htX : Ex → Nat
  | .mk _ _ _ _ ks => htL ks + 1
def htL : List Ex → Nat
  | [] => 0
  | e :: r => max (htX e) (htL r)
end
theorem htL_mem : ∀ {l : List Ex} {e : Ex}, e ∈ l → htX e ≤ htL l
  | x :: r, e, h => by
    rw [htL]
    rcases List.mem_cons.1 h with rfl | h
    · omega
    · have := htL_mem h; omega
theorem htL_snoc : ∀ (l : List Ex) (e : Ex), htL (l ++ [e]) = max (htL l) (htX e)
  | [], e => by simp [htL]
  | x :: r, e => by rw [List.cons_append, htL, htL, htL_snoc r e]; omega
theorem htL_take_le : ∀ (l : List Ex) (i : Nat), htL (l.take i) ≤ htL l
  | [], i => by simp
  | x :: r, 0 => by simp [htL]
  | x :: r, i + 1 => by rw [List.take_succ_cons, htL, htL]; have := htL_take_le r i; omega

def HtW (F B : Nat) (x : ET) : Prop := ∀ (w : World), x.In B w → B ≤ w.heap.size → Calls Tryz.prog F #[.agg x.cells.toArray] w fun r w' => r = .returned (.int .i64 (htX x.ex : Int)) ∧ Below w.heap.size w w'

end Go.Proofs.YtjgggmjjikopeaaGreatDoor

/- How high an expression is: tree.Height. -/
namespace Go.Proofs.YtjgggmjjikopeaaGreatDoor
open Go.RowKit
set_option linter.unusedVariables false

set_option maxRecDepth 100000 in
set_option maxHeartbeats 3200000 in
theorem height20_of (B : Nat) (op t b : Nat) (nm : ByteArray) (a : Option Addr) (c : Nat) (ks : List ET) (hS : ∀ k ∈ ks, HtW 142 B k) (hW : htL (ks.map ET.ex) ≤ 1048576) : HtW 142 B (.mk op t b nm a c ks) := by
  intro w hx hBw
  unfold ET.In at hx
  obtain ⟨_, _, _, x1, x2, x3⟩ := hx
  have HR : Hid (RowE B w a c ks) := ⟨x1, x2, x3⟩
  obtain ⟨n, hn⟩ : ∃ n, Hid (n = ks.length) := ⟨_, (rfl : ks.length = _)⟩
  obtain ⟨T, hT⟩ : ∃ T : Nat, Hid (T = htL (ks.map ET.ex)) := ⟨_, (rfl : _ = htL (ks.map ET.ex))⟩
  have hTx : htX (ET.mk op t b nm a c ks).ex = T + 1 := by
    show htX (.mk op t b nm.data.toList (ET.exs ks)) = _
    rw [htX, ET.exs_eq, hT.out]
  rw [hTx]
  have hTl : T ≤ 1048576 := by rw [hT.out]; exact hW
  show Calls Tryz.prog 142 #[.agg (ex5 op t b nm (.slice a ks.length c)).toArray] w _
  rw [← hn.out] at x1 x2 ⊢
  have HS : Hid (∀ k ∈ ks, HtW 142 B k) := hS
  clear x3 hS hTx hW
  go_enter Tryz.func142, Tryz.ntmps142
  go_wp2_with (first
    | ((with_reducible show wpList _ _ _ _ _ _); refine wpList_box_at rfl 43 (.tmp 0) rfl (ex5 op t b nm (.slice a n c)) rfl ?_; intro w1 hA1 hb1 hs1; clear hs1; refine Hid.out ?_))
  refine hidU ?_
  obtain ⟨-, -, -, -, q4⟩ := ex_cells hA1
  clear hA1
  go_wp2_with fail
  clear q4
  go_loopw [3, 9] (fun u j wr => ∃ i : Nat, j = .int .i64 (i : Int) ∧ i ≤ n ∧ Hid ((∃ z : Nat, u = .int .i64 (z : Int) ∧ z = htL ((ks.map ET.ex).take i)) ∧ Below w1.heap.size w1 wr)) (fun u j _ => n - (intOf j).toNat)
  case atStart => exact ⟨0, rfl, by omega, ⟨0, rfl, by simp [htL]⟩, Below.refl _ _⟩
  case round =>
    obtain ⟨i, rfl, hi, hX⟩ := hrel
    obtain ⟨⟨z, rfl, hz⟩, hbr⟩ := hX.out
    have hwr : Below w.heap.size w wr := hb1.trans (hbr.mono hb1.size)
    have hzl : z ≤ 1048576 := by rw [hz]; exact Nat.le_trans (htL_take_le _ _) (by rw [← hT.out]; exact hTl)
    by_cases hc : i < n
    · obtain ⟨x, hx⟩ : ∃ k, ks[i]? = some k := ⟨ks[i]'(by rw [← hn.out]; exact hc), by rw [List.getElem?_eq_getElem]⟩
      have hold : Old B w wr := Old.of_below hwr hBw
      obtain ⟨g1, o1, rfl, hg1, hr1, hx1⟩ := (HR.out.old hold).at i x hx
      have hI := HS.out x (List.mem_of_getElem? hx) wr hx1 (by have := hwr.size; omega)
      obtain ⟨Y, hY⟩ : ∃ Y : Nat, Hid (Y = htX x.ex) := ⟨_, (rfl : _ = htX x.ex)⟩
      have HT1 : Hid (max z Y = htL ((ks.map ET.ex).take (i + 1))) := by
        show _ = _
        rw [List.take_add_one, List.getElem?_map, hx, hz, hY.out]
        exact (htL_snoc _ _).symm
      have HI : Hid (∀ wz, Below wr.heap.size wr wz → Calls Tryz.prog 142 #[.agg x.cells.toArray] wz fun r w' => r = .returned (.int .i64 (Y : Int)) ∧ Below wz.heap.size wz w') := fun wz hz => by
        rw [hY.out]
        exact HS.out x (List.mem_of_getElem? hx) wz (hx1.old (Old.of_below hz (by have := hwr.size; omega))) (by have := hwr.size; have := hz.size; omega)
      clear hX hx hx1 hold hY hI
      go_wp2_with (first
        | ((with_reducible show wpList _ _ _ _ _ _); refine wpList_load_mid (P := Tryz.prog) rfl 43 (.tmp 11) rfl g1 (o1 + i * 5) (by first | rfl | (simp; done)) x.cells _ hr1 Tryz.underlying43 rfl (by rw [ET.cells_len]; exact i29) ?_)
        | ((with_reducible show wpList _ _ _ _ _ _); refine wpList_alloc_at rfl 43 rfl _ 5 z29 ?_; intro w2 hA2 hb2 hs2)
        | ((with_reducible show wpList _ _ _ _ _ _); refine wpList_store_at (P := Tryz.prog) rfl 43 (.tmp 5) (.tmp 12) rfl wr.heap.size x.cells rfl rfl 43 _ hA2 (by rw [ET.cells_len]; exact i29) (by rw [ET.cells_len]; rfl) x.one ?_; intro w4 hA4 hb4 hs4; refine Hid.out ?_))
      refine hidU ?_
      have hB4 : Below wr.heap.size wr w4 := hb4.below hb2 (Nat.le_refl _) (by omega)
      have hI := HI.out w4 hB4
      clear hb4 hb2 hA2 hr1 hs2 hs4 HI
      go_wp2_with (first
        | ((with_reducible show wpList _ _ _ _ _ _); refine wpList_load_at (P := Tryz.prog) rfl 43 (.tmp 5) rfl wr.heap.size rfl 43 x.cells hA4 _ Tryz.underlying43 rfl (by rw [ET.cells_len]; exact i29) ?_))
      refine hI.mono ?_
      rintro r w3 ⟨rfl, hb3⟩
      have hw3 : Below w1.heap.size w1 w3 := hbr.trans ((hB4.trans (hb3.mono hB4.size)).mono hbr.size)
      clear hI hA4 hB4
      go_wp2
      go_roundw
      case rel => exact ⟨i + 1, by go_num, by omega, ⟨max z Y, by first | rfl | (congr 1; omega) | simp, HT1.out⟩, hw3⟩
      case measure => simp [intOf]; omega
    · have hin : i = n := by omega
      have hzT : z = T := by rw [hz, hin, hn.out, hT.out, List.take_of_length_le (by simp)]
      clear hX hz
      go_wp2
      go_ret
      exact ⟨by rw [hzT]; rfl, hwr⟩

theorem height20_any (B : Nat) (M : Nat) : ∀ x : ET, SizeOf.sizeOf x < M → htX x.ex ≤ 1048576 → HtW 142 B x := by
  induction M with
  | zero => intro x h; omega
  | succ M ih =>
    rintro ⟨op, t, b, nm, a, c, ks⟩ hN hW
    have e : (ET.mk op t b nm a c ks).ex = .mk op t b nm.data.toList (ET.exs ks) := rfl
    rw [e, ET.exs_eq, htX] at hW
    refine height20_of B op t b nm a c ks (fun k hk => ih k (by have := ET.sz (op := op) (t := t) (b := b) (c := c) (nm := nm) (a := a) hk; omega) ?_) (by omega)
    have := htL_mem (List.mem_map_of_mem (f := ET.ex) hk)
    omega
end Go.Proofs.YtjgggmjjikopeaaGreatDoor

/- Where expressions lie. -/
namespace Go.Proofs.YtjgggmjjikopeaaGreatDoor
open Go.RowKit
set_option linter.unusedVariables false

mutual
/-- All rows lie in blocks of S. -/
def ET.Lies (S : Nat → Prop) : ET → Prop
  | .mk _ _ _ _ a _ ks => (ks = [] ∨ ∃ g o, a = some ⟨g, o, none⟩ ∧ S g) ∧ ET.LiesL S ks
def ET.LiesL (S : Nat → Prop) : List ET → Prop
  | [] => True
  | e :: r => e.Lies S ∧ ET.LiesL S r
end
mutual
theorem ET.Lies.mono {S S' : Nat → Prop} (hS : ∀ k, S k → S' k) : ∀ {e : ET}, e.Lies S → e.Lies S'
  | .mk _ _ _ _ a _ ks, h => by
    unfold ET.Lies at h ⊢
    refine ⟨?_, ET.LiesL.mono hS h.2⟩
    rcases h.1 with h | ⟨g, o, ha, hg⟩
    · exact .inl h
    · exact .inr ⟨g, o, ha, hS g hg⟩
theorem ET.LiesL.mono {S S' : Nat → Prop} (hS : ∀ k, S k → S' k) : ∀ {l : List ET}, ET.LiesL S l → ET.LiesL S' l
  | [], _ => trivial
  | e :: r, h => by
    unfold ET.LiesL at h ⊢
    exact ⟨ET.Lies.mono hS h.1, ET.LiesL.mono hS h.2⟩
end
mutual
theorem ET.In.stay {B : Nat} {S : Nat → Prop} {w w' : World} (hM : ∀ k, S k → k < B → w'.heap[k]? = w.heap[k]?) : ∀ {e : ET}, e.In B w → e.Lies S → e.In B w'
  | .mk op t b nm a c ks, h, u => by
    unfold ET.In at h ⊢
    unfold ET.Lies at u
    obtain ⟨h1, h2, h3, h4, h5, h6⟩ := h
    refine ⟨h1, h2, h3, h4, h5, ?_⟩
    rcases h6 with h6 | ⟨g, o, ha, hg, hr⟩
    · exact .inl h6
    · rcases u.1 with hk | ⟨g', o', ha', hg'⟩
      · exact .inl hk
      · rw [ha] at ha'
        cases ha'
        exact .inr ⟨g, o, ha, hg, ET.Row.stay hM hg' hg hr u.2⟩
theorem ET.Row.stay {B : Nat} {S : Nat → Prop} {w w' : World} (hM : ∀ k, S k → k < B → w'.heap[k]? = w.heap[k]?) {g : Nat} (hA : S g) (hg : g < B) : ∀ {ks : List ET} {o : Nat}, ET.Row B w g ks o → ET.LiesL S ks → ET.Row B w' g ks o
  | [], o, _, _ => trivial
  | e :: r, o, h, u => by
    unfold ET.Row at h ⊢
    unfold ET.LiesL at u
    refine ⟨fun j v hj => ?_, ET.In.stay hM h.2.1 u.1, ET.Row.stay hM hA hg h.2.2 u.2⟩
    rw [World.cell?_of_block (w := w) (w' := w') (hM g hA hg)]
    exact h.1 j v hj
end
mutual
theorem ET.In.lies {B : Nat} {S : Nat → Prop} {w : World} : ∀ {e : ET}, e.In B w → e.Lies S → e.Lies (fun k => S k ∧ k < B)
  | .mk op t b nm a c ks, h, u => by
    unfold ET.In at h
    unfold ET.Lies at u ⊢
    obtain ⟨h1, h2, h3, h4, h5, h6⟩ := h
    rcases h6 with h6 | ⟨g, o, ha, hg, hr⟩
    · subst h6
      exact ⟨.inl rfl, trivial⟩
    · rcases u.1 with hk | ⟨g', o', ha', hg'⟩
      · subst hk
        exact ⟨.inl rfl, trivial⟩
      · rw [ha] at ha'
        cases ha'
        exact ⟨.inr ⟨g, o, ha, hg', hg⟩, ET.Row.lies hr u.2⟩
theorem ET.Row.lies {B : Nat} {S : Nat → Prop} {w : World} {g : Nat} : ∀ {ks : List ET} {o : Nat}, ET.Row B w g ks o → ET.LiesL S ks → ET.LiesL (fun k => S k ∧ k < B) ks
  | [], o, _, _ => trivial
  | e :: r, o, h, u => by
    unfold ET.Row at h
    unfold ET.LiesL at u ⊢
    exact ⟨ET.In.lies h.2.1 u.1, ET.Row.lies h.2.2 u.2⟩
end
theorem ET.LiesL.of {S : Nat → Prop} : ∀ {l : List ET}, (∀ e ∈ l, e.Lies S) → ET.LiesL S l
  | [], _ => trivial
  | e :: r, h => by unfold ET.LiesL; exact ⟨h e List.mem_cons_self, ET.LiesL.of fun x hx => h x (List.mem_cons_of_mem _ hx)⟩

end Go.Proofs.YtjgggmjjikopeaaGreatDoor

/- What stage 4 knew besides. -/
namespace Go.Proofs.YtjgggmjjikopeaaGreatDoor
open Go.RowKit
set_option linter.unusedVariables false

set_option maxRecDepth 100000 in
set_option maxHeartbeats 400000 in
theorem indexByte_any (s : ByteArray) (c : Int) (w : World) :
    Calls Tryz.prog 119 #[.string s, .int .u8 c] w fun e w' => e = .returned (.int .i64 (Lib.indexByte s.data.toList c.toNat.toUInt8)) ∧ w' = w := by
  have hcf : ∀ w, Sem.run Tryz.prog (callFunc 181 #[.string s, .int .u8 c]) w = .ok (.value (.int .i64 (Lib.indexByte s.data.toList c.toNat.toUInt8))) w := fun w => by
    rw [run_callFunc_extern Tryz.func181 (by kernel_rfl) (by kernel_rfl) (by kernel_rfl) (e := Extern.BytealgIndexByte.indexByte) (by kernel_rfl), Lib.run_indexByteString]
    rfl
  go_enter Tryz.func119, Tryz.ntmps119
  go_wp2
  go_ret
  exact ⟨rfl, rfl⟩
theorem idx10_yes (c : Nat) (h1 : 48 ≤ c) (h2 : c ≤ 57) (w : World) :
    Calls Tryz.prog 119 #[.string (({ data := #[48, 49, 50, 51, 52, 53, 54, 55, 56, 57, 97, 98, 99, 100, 101, 102] } : ByteArray).extract 0 10), .int .u8 (c : Int)] w fun e w' => e = .returned (.int .i64 ((c : Int) - 48)) ∧ w' = w := by
  have h := indexByte_any (({ data := #[48, 49, 50, 51, 52, 53, 54, 55, 56, 57, 97, 98, 99, 100, 101, 102] } : ByteArray).extract 0 10) (c : Int) w
  rw [idx10_nat c (by omega), if_pos ⟨h1, h2⟩] at h
  exact h

theorem idx10_no (c : Nat) (hc : c < 256) (h : c < 48 ∨ 57 < c) (w : World) :
    Calls Tryz.prog 119 #[.string (({ data := #[48, 49, 50, 51, 52, 53, 54, 55, 56, 57, 97, 98, 99, 100, 101, 102] } : ByteArray).extract 0 10), .int .u8 (c : Int)] w fun e w' => e = .returned (.int .i64 (-1)) ∧ w' = w := by
  have h' := indexByte_any (({ data := #[48, 49, 50, 51, 52, 53, 54, 55, 56, 57, 97, 98, 99, 100, 101, 102] } : ByteArray).extract 0 10) (c : Int) w
  rw [idx10_nat c hc, if_neg (by omega)] at h'
  exact h'

set_option maxRecDepth 100000 in
set_option maxHeartbeats 800000 in
theorem readDigits_any (s : ByteArray) (w : World) (hs : s.size ≤ 1099511627776) :
    Calls Tryz.prog 188 #[.string s] w fun e w' => DigPost (bytes s) e ∧ ∃ q, w' = w.drewN q := by
  by_cases hl1 : s.size = 0
  · have hem := is_empty hl1
    go_enter Tryz.func188, Tryz.ntmps188
    go_wp2
    go_ret2
    exact ⟨.inr ⟨none_bad _ (by rw [bytes_length]; omega), rfl⟩, 0, rfl⟩
  have hpos : 0 < s.size := by omega
  obtain ⟨c0, hc0⟩ : ∃ c0 : Nat, s[0].toNat = c0 := ⟨_, rfl⟩
  have HC0 : Hid (((bytes s).getD 0 0).toNat = c0) := by show _ = _; rw [bytes_at s 0 hpos]; exact hc0
  have hc0l : c0 < 256 := by rw [← hc0]; exact UInt8.toNat_lt _
  have hne : s.toList.isEmpty = false := not_empty hpos
  by_cases hz : c0 = 48 ∧ 1 < s.size
  · obtain ⟨hz, h1⟩ := hz
    have hz' : ((c0 : Int) == 48) = true := by rw [beq_iff_eq]; omega
    have HZ : Hid (c0 = 48) := hz
    clear hz
    go_enter Tryz.func188, Tryz.ntmps188
    go_wp2
    go_ret2
    exact ⟨.inr ⟨nought_bad _ (by rw [HC0.out]; exact HZ.out) (by rw [bytes_length]; exact h1), rfl⟩, 0, rfl⟩
  have hz' : ((c0 : Int) == 48) = true ∧ decide (1 < (s.size : Int)) = false ∨ ((c0 : Int) == 48) = false := by
    by_cases h : c0 = 48
    · exact .inl ⟨by rw [beq_iff_eq]; omega, by simp; omega⟩
    · exact .inr (by rw [beq_eq_false_iff_ne]; omega)
  have HZ : Hid (((bytes s).getD 0 0).toNat = 48 → (bytes s).length = 1) := by
    show _ → _
    rw [HC0.out, bytes_length]
    intro h
    omega
  clear hz
  rcases hz' with ⟨g1, g2⟩ | g1
  all_goals
    go_enter Tryz.func188, Tryz.ntmps188
    go_wp2
    go_loopw [4, 5] (fun t v wr => ∃ (k m : Nat) (r : ByteArray), k ≤ s.size ∧ v = .string r ∧ Hid (bytes r = (bytes s).drop k) ∧ r.size + k = s.size ∧ t = .int .u64 m ∧ m ≤ 9223372036854775807 ∧ Hid (m = decVal ((bytes s).take k)) ∧ Hid (∀ j, j < k → 48 ≤ ((bytes s).getD j 0).toNat ∧ ((bytes s).getD j 0).toNat ≤ 57) ∧ Hid (∃ q, wr = w.drewN q)) (fun _ v _ => strLen v)
    case atStart => exact ⟨0, 0, s, Nat.zero_le _, rfl, rfl, rfl, rfl, by omega, rfl, fun j hj => by omega, ⟨0, rfl⟩⟩
    case round =>
      obtain ⟨k, m, r, hk, rfl, hr, hrk, rfl, hm, hv, hdig, hq⟩ := hrel
      by_cases hr0 : r.size = 0
      · have hrem := is_empty hr0
        have HG : Hid (GoodDec (bytes s)) := by
          have e : (bytes s).take k = bytes s := List.take_of_length_le (by rw [bytes_length]; omega)
          have hv' := hv.out
          rw [e] at hv'
          exact ⟨by rw [bytes_length]; omega, HZ.out, fun j hj => hdig.out j (by rw [bytes_length] at hj; omega), by rw [← hv']; exact hm⟩
        have HV : Hid (decVal (bytes s) = m) := by
          have e : (bytes s).take k = bytes s := List.take_of_length_le (by rw [bytes_length]; omega)
          have hv' := hv.out
          rw [e] at hv'
          exact hv'.symm
        clear hr0 hv hdig
        go_wp2
        go_ret2
        exact ⟨.inl ⟨HG.out, by rw [HV.out]; rfl⟩, hq.out⟩
      · have hrp : 0 < r.size := by omega
        have hrne := not_empty hrp
        have hrp' : (0 : Int) < (r.size : Int) := by omega
        have hlt : k < s.size := by omega
        obtain ⟨c, hc⟩ : ∃ c : Nat, r[0].toNat = c := ⟨_, rfl⟩
        have hcl : c < 256 := by rw [← hc]; exact UInt8.toNat_lt _
        have HC : Hid (((bytes s).getD k 0).toNat = c) := by
          show _ = _
          rw [← hc, ← bytes_at r 0 hrp, hr.out]
          simp [List.getD]
        by_cases hdg : 48 ≤ c ∧ c ≤ 57
        · obtain ⟨h48, h57⟩ := hdg
          go_wp2
          go_quiet ((go_at_call 119; exact Calls.quiet_of_same (idx10_yes c h48 h57 _)))
          by_cases hgr : m * 10 + (c - 48) ≤ 9223372036854775807
          · have HV : Hid (m * 10 + (c - 48) = decVal ((bytes s).take (k + 1))) := by show _ = _; rw [val_take _ k (by rw [bytes_length]; exact hlt), HC.out, hv.out]
            have HDG : Hid (∀ j, j < k + 1 → 48 ≤ ((bytes s).getD j 0).toNat ∧ ((bytes s).getD j 0).toNat ≤ 57) := by
              intro j hj
              rcases Nat.lt_or_ge j k with h | h
              · exact hdig.out j h
              · have : j = k := by omega
                subst this
                rw [HC.out]; omega
            have HR : Hid (bytes (r.extract 1 r.size) = (bytes s).drop (k + 1)) := by show _ = _; rw [extract_one, hr.out, List.drop_drop]
            have hxs : (r.extract 1 r.size).size = r.size - 1 := by rw [← bytes_length, extract_one, List.length_drop, bytes_length]
            clear hv hdig hr
            go_wp2
            go_roundw
            case rel => exact ⟨k + 1, m * 10 + (c - 48), r.extract 1 r.size, by omega, rfl, HR, by rw [hxs]; omega, by go_num, hgr, HV, HDG, drewN_again hq.out nq⟩
            case measure => simp only [strLen]; rw [hxs]; omega
          · have HB : Hid (¬ GoodDec (bytes s)) := great_bad _ (k + 1) (by rw [val_take _ k (by rw [bytes_length]; exact hlt), HC.out, ← hv.out]; omega)
            go_wp2
            go_ret2
            exact ⟨.inr ⟨HB.out, rfl⟩, drewN_again hq.out nq⟩
        · go_wp2
          go_quiet ((go_at_call 119; exact Calls.quiet_of_same (idx10_no c hcl (by omega) _)))
          go_wp2
          go_ret2
          exact ⟨.inr ⟨digit_bad _ k (by rw [bytes_length]; exact hlt) (by rw [HC.out]; omega), rfl⟩, drewN_again hq.out nq⟩
set_option maxRecDepth 100000 in
set_option maxHeartbeats 800000 in
theorem readDec_any (s : ByteArray) (most : Int) (w : World) (hs : s.size ≤ 1099511627776) (hmost : most ≤ 9223372036854775807) (hmost' : -9223372036854775808 ≤ most) :
    Calls Tryz.prog 158 #[.string s, .int .i64 most] w fun e w' => (∃ d h : Int, e = .returned (.tuple #[.int .i64 d, .int .i64 h]) ∧ DecIs (bytes s) most d h) ∧ ∃ q, w' = w.drewN q := by
  by_cases hneg : most < 0
  · go_enter Tryz.func158, Tryz.ntmps158
    go_wp2
    go_ret2
    exact ⟨⟨0, 2, rfl, .inl ⟨hneg, rfl, rfl⟩⟩, 0, rfl⟩
  go_enter Tryz.func158, Tryz.ntmps158
  go_wp2_with fail
  refine (readDigits_any s _ hs).mono ?_
  rintro e w1 ⟨⟨hg, rfl⟩ | ⟨hg, rfl⟩, q, rfl⟩
  · obtain ⟨m, hm⟩ : ∃ m, m = decVal (bytes s) := ⟨_, rfl⟩
    have hm63 : m ≤ 9223372036854775807 := by rw [hm]; exact hg.2.2.2
    rw [← hm]
    have HM : Hid (m = decVal (bytes s)) := hm
    have HG : Hid (GoodDec (bytes s)) := hg
    clear hm hg
    by_cases hmo : most < m
    · go_wp2
      go_ret2
      exact ⟨⟨0, 3, rfl, .inr (.inr (.inl ⟨by omega, HG.out, by rw [← HM.out]; exact hmo, rfl, rfl⟩))⟩, q, rfl⟩
    · go_wp2
      go_ret2
      exact ⟨⟨m, 0, rfl, .inr (.inr (.inr ⟨by omega, HG.out, by rw [← HM.out]; omega, by rw [← HM.out], rfl⟩))⟩, q, rfl⟩
  · have HG : Hid (¬ GoodDec (bytes s)) := hg
    clear hg
    go_wp2
    go_ret2
    exact ⟨⟨0, 4, rfl, .inr (.inl ⟨by omega, HG.out, rfl, rfl⟩)⟩, q, rfl⟩

set_option maxRecDepth 100000 in
set_option maxHeartbeats 400000 in
theorem indexByte_lite (s : ByteArray) (c : Int) (w : World) :
    Calls Tryz.prog 154 #[.string s, .int .u8 c] w fun e w' => e = .returned (.int .i64 (Lib.indexByte s.data.toList c.toNat.toUInt8)) ∧ w' = w := by
  have hcf : ∀ w, Sem.run Tryz.prog (callFunc 181 #[.string s, .int .u8 c]) w = .ok (.value (.int .i64 (Lib.indexByte s.data.toList c.toNat.toUInt8))) w := fun w => by
    rw [run_callFunc_extern Tryz.func181 (by kernel_rfl) (by kernel_rfl) (by kernel_rfl) (e := Extern.BytealgIndexByte.indexByte) (by kernel_rfl), Lib.run_indexByteString]
    rfl
  go_enter Tryz.func154, Tryz.ntmps154
  go_wp2
  go_ret
  exact ⟨rfl, rfl⟩

set_option maxRecDepth 100000 in
set_option maxHeartbeats 800000 in
theorem index_dot (l : List UInt8) (w : World) :
    Calls Tryz.prog 203 #[.string ⟨l.toArray⟩, .string { data := #[46] }] w fun e w' => e = .returned (.int .i64 (Lib.indexByte l 46)) ∧ w' = w := by
  by_cases hl : l = [46]
  · subst hl
    go_enter Tryz.func203, Tryz.ntmps203
    go_wp2_with fail
    go_ret
    exact ⟨rfl, rfl⟩
  · have hne : (([46] : List UInt8) == l) = false := by
      rw [beq_eq_false_iff_ne]
      exact fun h => hl h.symm
    go_enter Tryz.func203, Tryz.ntmps203
    go_wp2_with fail
    refine (indexByte_lite _ 46 _).mono ?_
    rintro e w1 ⟨rfl, rfl⟩
    go_wp2
    go_ret
    exact ⟨rfl, rfl⟩

set_option maxRecDepth 100000 in
set_option maxHeartbeats 800000 in
theorem cutLite_any (l : List UInt8) (w : World) (hmax : l.length ≤ 9223372036854775807) :
    Calls Tryz.prog 187 #[.string ⟨l.toArray⟩, .string { data := #[46] }] w fun e w' => (∃ b, e = .returned (.tuple #[.string ⟨(aheadOf l).toArray⟩, .string ⟨(behindOf l).toArray⟩, .bool b])) ∧ ∃ q, w' = w.drewN q := by
  have ge := Lib.indexByte_ge l 46
  by_cases h : 0 ≤ Lib.indexByte l 46
  · obtain ⟨h1, h2⟩ := cut_some l h
    have hlen : l.length = (aheadOf l).length + ((behindOf l).length + 1) := by conv => lhs; rw [h2]; simp
    obtain ⟨k, hk⟩ : ∃ k, k = (aheadOf l).length := ⟨_, rfl⟩
    have t1 : l.take (aheadOf l).length = aheadOf l := by
      generalize aheadOf l = A at h2
      generalize behindOf l = B at h2
      subst h2; simp
    have t2 : l.drop ((aheadOf l).length + 1) = behindOf l := by
      generalize aheadOf l = A at h2
      generalize behindOf l = B at h2
      subst h2; simp [List.drop_append]
    have e1 : (⟨l.toArray⟩ : ByteArray).extract 0 k = ⟨(aheadOf l).toArray⟩ := by
      rw [extract_list, hk, Nat.sub_zero, List.drop_zero, t1]
    have e2 : (⟨l.toArray⟩ : ByteArray).extract (k + 1) l.length = ⟨(behindOf l).toArray⟩ := by
      rw [extract_list, hk, t2, List.take_of_length_le (by omega)]
    have hkl : k + 1 ≤ l.length := by omega
    have hsz : (⟨l.toArray⟩ : ByteArray).size = l.length := size_mk l
    rw [← hk] at h1
    clear h2 hlen hk t1 t2
    go_enter Tryz.func187, Tryz.ntmps187
    go_wp2_with fail
    refine (index_dot l _).mono ?_
    rintro e w1 ⟨rfl, rfl⟩
    rw [h1]
    go_wp2_with fail
    go_region
    go_wp2
    go_ret3
    exact ⟨⟨_, rfl⟩, 1, rfl⟩
  · have h1 : Lib.indexByte l 46 = -1 := by omega
    obtain ⟨h2, h3⟩ := cut_none l h1
    rw [h2, h3]
    go_enter Tryz.func187, Tryz.ntmps187
    go_wp2_with fail
    refine (index_dot l _).mono ?_
    rintro e w1 ⟨rfl, rfl⟩
    rw [h1]
    go_wp2
    go_ret3
    exact ⟨⟨_, rfl⟩, 0, rfl⟩

set_option maxRecDepth 100000 in
set_option maxHeartbeats 800000 in
theorem cut_any (l : List UInt8) (w : World) (hmax : l.length ≤ 9223372036854775807) :
    Calls Tryz.prog 157 #[.string ⟨l.toArray⟩, .string { data := #[46] }] w fun e w' => (∃ b, e = .returned (.tuple #[.string ⟨(aheadOf l).toArray⟩, .string ⟨(behindOf l).toArray⟩, .bool b])) ∧ ∃ q, w' = w.drewN q := by
  go_enter Tryz.func157, Tryz.ntmps157
  go_wp2_with fail
  refine (cutLite_any l _ hmax).mono ?_
  rintro e w1 ⟨⟨b, rfl⟩, q, rfl⟩
  go_wp2
  go_ret3
  exact ⟨⟨_, rfl⟩, _, rfl⟩

set_option maxRecDepth 100000 in
set_option maxHeartbeats 1600000 in
theorem parse_any (l : List UInt8) (w : World) (hmax : l.length ≤ 1099511627775) :
    Calls Tryz.prog 125 #[.string ⟨l.toArray⟩] w fun e w' => ParsePost l e ∧ ∃ q, w' = w.drewN q := by
  obtain ⟨a, hA⟩ : ∃ a, a = aheadOf l := ⟨_, rfl⟩
  obtain ⟨b, hB⟩ : ∃ b, b = behindOf l := ⟨_, rfl⟩
  have hal : a.length ≤ 1099511627775 := by
    rw [hA]
    exact Nat.le_trans (List.takeWhile_sublist _).length_le hmax
  have hPP : ParsePost l = fun e => (IsLit l ∧ e = .returned (.tuple #[.int .u64 (quo (litNum l) (10 ^ b.length) : Nat), .int .i64 0])) ∨ (¬ IsLit l ∧ e = .returned (.tuple #[.int .u64 0, .int .i64 4])) := by
    rw [hB]; rfl
  have hLit : IsLit l ↔ (1 ≤ b.length ∧ b.length ≤ 6 ∧ a.length + b.length ≤ 15 ∧ GoodDec a ∧ GoodDec (49 :: b)) := by rw [hA, hB]; rfl
  have hNum : litNum l = decVal a * 10 ^ b.length + decVal (49 :: b) - 10 ^ b.length := by rw [hA, hB]; rfl
  have HPP : Hid (ParsePost l = fun e => (IsLit l ∧ e = .returned (.tuple #[.int .u64 (quo (litNum l) (10 ^ b.length) : Nat), .int .i64 0])) ∨ (¬ IsLit l ∧ e = .returned (.tuple #[.int .u64 0, .int .i64 4]))) := hPP
  have HLit : Hid (IsLit l ↔ (1 ≤ b.length ∧ b.length ≤ 6 ∧ a.length + b.length ≤ 15 ∧ GoodDec a ∧ GoodDec (49 :: b))) := hLit
  have HNum : Hid (litNum l = decVal a * 10 ^ b.length + decVal (49 :: b) - 10 ^ b.length) := hNum
  clear hPP hLit hNum
  have hsa : (⟨a.toArray⟩ : ByteArray).size = a.length := size_mk a
  have hsb : (⟨b.toArray⟩ : ByteArray).size = b.length := size_mk b
  go_enter Tryz.func125, Tryz.ntmps125
  go_wp2_with fail
  refine (cut_any l _ (by omega)).mono ?_
  rintro e w1 ⟨⟨f, rfl⟩, q1, rfl⟩
  rw [← hA, ← hB]
  clear hA hB
  by_cases c1 : 1 ≤ b.length ∧ b.length ≤ 6 ∧ a.length + b.length ≤ 15
  · obtain ⟨d1, d2, d3⟩ := c1
    go_wp2_with fail
    refine (readDec_any ⟨a.toArray⟩ 9223372036854775807 _ (by rw [hsa]; omega) (by omega) (by omega)).mono ?_
    rintro e w2 ⟨⟨x, ex, rfl, hx⟩, q2, rfl⟩
    have hx : DecIs a 9223372036854775807 x ex := hx
    go_wp2_with fail
    rw [show (({ data := #[49] } : ByteArray) ++ (⟨b.toArray⟩ : ByteArray)) = ⟨(49 :: b).toArray⟩ from cat_list [49] b]
    refine (readDec_any ⟨(49 :: b).toArray⟩ 9223372036854775807 _ (by rw [size_mk]; simp; omega) (by omega) (by omega)).mono ?_
    rintro e w3 ⟨⟨y, ey, rfl, hy⟩, q3, rfl⟩
    have hy : DecIs (49 :: b) 9223372036854775807 y ey := hy
    by_cases g1 : GoodDec a
    · obtain ⟨rfl, rfl⟩ : x = (decVal a : Int) ∧ ex = 0 := by
        have := g1.2.2.2
        rcases hx with ⟨h, _⟩ | ⟨_, h, _⟩ | ⟨_, _, h, _⟩ | ⟨_, _, _, h1, h2⟩
        · omega
        · exact absurd g1 h
        · omega
        · exact ⟨h1, h2⟩
      by_cases g2 : GoodDec (49 :: b)
      · obtain ⟨rfl, rfl⟩ : y = (decVal (49 :: b) : Int) ∧ ey = 0 := by
          have := g2.2.2.2
          rcases hy with ⟨h, _⟩ | ⟨_, h, _⟩ | ⟨_, _, h, _⟩ | ⟨_, _, _, h1, h2⟩
          · omega
          · exact absurd g2 h
          · omega
          · exact ⟨h1, h2⟩
        have hyes : Hid (IsLit l) := HLit.out.2 ⟨d1, d2, d3, g1, g2⟩
        have k1 := good_lt g1
        have k2 := good_lt g2
        have k3 := one_ge g2
        have k4 : decVal a * 10 ^ b.length < 10 ^ 15 := by
          refine Nat.lt_of_lt_of_le (Nat.mul_lt_mul_of_pos_right k1 (Nat.pow_pos (by decide))) ?_
          rw [← Nat.pow_add]
          exact Nat.pow_le_pow_right (by decide) d3
        have k5 : 10 ^ b.length ≤ 10 ^ 6 := Nat.pow_le_pow_right (by decide) d2
        rw [List.length_cons, Nat.pow_succ] at k2
        clear hx hy g1 g2 HLit
        obtain ⟨A, hA⟩ : ∃ A, A = decVal a := ⟨_, rfl⟩
        obtain ⟨B, hB⟩ : ∃ B, B = decVal (49 :: b) := ⟨_, rfl⟩
        obtain ⟨S, hS⟩ : ∃ S, Hid (S = 10 ^ b.length) := ⟨10 ^ b.length, (rfl : 10 ^ b.length = 10 ^ b.length)⟩
        have HN : Hid (litNum l = A * S + B - S) := by rw [hA, hB, hS.out]; exact HNum.out
        rw [← hA, ← hB]
        rw [← hA, ← hS.out] at k4
        rw [← hB, ← hS.out] at k2 k3
        rw [← hS.out] at k5
        clear k1 HNum hA hB
        obtain ⟨M, hM⟩ : ∃ M, M = A * S := ⟨_, rfl⟩
        have hMi : (A : Int) * (S : Int) = (M : Int) := by rw [hM]; simp
        rw [← hM] at k4
        have HN2 : Hid (litNum l = M + B - S) := by rw [hM]; exact HN.out
        clear HN hM
        go_wp2_with fail
        refine (power_any b.length d2 _).mono ?_
        rintro e w4 ⟨rfl, hw4⟩
        rw [← hS.out, hw4]
        go_wp2_with fail
        rw [show (M : Int) + (B : Int) - (S : Int) = ((M + B - S : Nat) : Int) by omega]
        refine (quotient_any (M + B - S) S _).mono ?_
        rintro e w5 ⟨rfl, q4, rfl⟩
        go_wp2
        go_ret2
        refine ⟨?_, _, rfl⟩
        rw [HPP.out]
        exact .inl ⟨hyes.out, by rw [HN2.out, ← hS.out]; rfl⟩
      · obtain ⟨rfl, rfl⟩ : y = 0 ∧ ey = 4 := by
          rcases hy with ⟨h, _⟩ | ⟨_, _, h1, h2⟩ | ⟨_, h, _, _⟩ | ⟨_, h, _, _⟩
          · omega
          · exact ⟨h1, h2⟩
          · exact absurd h g2
          · exact absurd h g2
        have hno : ¬ IsLit l := fun h => g2 (HLit.out.1 h).2.2.2.2
        go_wp2
        go_ret2
        refine ⟨?_, _, rfl⟩
        rw [HPP.out]
        exact .inr ⟨hno, rfl⟩
    · obtain ⟨rfl, rfl⟩ : x = 0 ∧ ex = 4 := by
        rcases hx with ⟨h, _⟩ | ⟨_, _, h1, h2⟩ | ⟨_, h, _, _⟩ | ⟨_, h, _, _⟩
        · omega
        · exact ⟨h1, h2⟩
        · exact absurd h g1
        · exact absurd h g1
      have hno : ¬ IsLit l := fun h => g1 (HLit.out.1 h).2.2.2.1
      go_wp2
      go_ret2
      refine ⟨?_, _, rfl⟩
      rw [HPP.out]
      exact .inr ⟨hno, rfl⟩
  · have hno : ¬ IsLit l := fun h => c1 ⟨(HLit.out.1 h).1, (HLit.out.1 h).2.1, (HLit.out.1 h).2.2.1⟩
    go_wp2_with fail
    all_goals
      go_ret2
      refine ⟨?_, _, rfl⟩
      rw [HPP.out]
      exact .inr ⟨hno, rfl⟩

end Go.Proofs.YtjgggmjjikopeaaGreatDoor

/- lex, as plain functions on lists of bytes: what is passed over, the token at a place, the tokens of a text. -/
namespace Go.Proofs.YtjgggmjjikopeaaGreatDoor

/-- A blank. -/
def isBl (n : Nat) : Bool := decide (n = 9) || decide (n = 10) || decide (n = 13) || decide (n = 32)

/-- How many bytes of blanks and comments stand ahead; in a comment, or not. -/
def skF : Bool → List UInt8 → Nat
  | _, [] => 0
  | true, c :: r => if c.toNat = 10 then skF false r + 1 else skF true r + 1
  | false, c :: r => if isBl c.toNat then skF false r + 1 else if c.toNat = 35 then skF true r + 1 else 0

/-- How many bytes of blanks and comments stand ahead. -/
def skN (l : List UInt8) : Nat := skF false l

/-- The error of a token, by its kind and bytes; 0: there is none. -/
def errOf (K : Nat) (x : List UInt8) : Nat :=
  if K = 1 then (if 24 < x.length then 5 else 0)
  else if K = 2 then (if GoodDec x then 0 else 4)
  else if K = 3 then (if IsLit x then 0 else 4)
  else (if isSg x then 0 else 4)

/-- The type of a token's value. -/
def valT (K : Nat) : Nat := if K = 2 then 1 else if K = 3 then 3 else 0

/-- The bits of a token's value. -/
def valB (K : Nat) (x : List UInt8) : Nat := if K = 2 then decVal x else if K = 3 then quo (litNum x) (10 ^ (behindOf x).length) else 0

/-- May what comes next not stand directly behind such a token? -/
def clB (K : Nat) (r : List UInt8) : Bool :=
  (decide (K = 2) || decide (K = 3)) && (match r with | [] => false | c :: _ => isLet c.toNat || decide (c.toNat = 46))

/-- A token. -/
structure Tk where
  kind : Nat
  text : List UInt8
  place : Nat
  bits : Nat
  deriving DecidableEq

/-- A token as its cells. -/
def Tk.cells (t : Tk) : List Value := [.int .i64 (t.kind : Int), .string ⟨t.text.toArray⟩, .int .i64 (t.place : Int), .int .u8 (valT t.kind : Nat), .int .u64 (t.bits : Nat)]

/-- The token of a kind and bytes at a place. -/
def tkOf (K : Nat) (x : List UInt8) (p : Nat) : Tk := ⟨K, x, p, valB K x⟩

/-- Tokens, or an error and its place. -/
structure Out where
  toks : List Tk
  err : Nat
  place : Nat
  deriving DecidableEq

/-- Tokens ahead of an answer. -/
def Out.ahead (acc : List Tk) (r : Out) : Out := if r.err = 0 then ⟨acc ++ r.toks, 0, 0⟩ else r

/-- The tokens from a place on where neither a blank nor a comment stands; f: how many at most. -/
def lexA (l : List UInt8) : Nat → Nat → Out
  | 0, _ => ⟨[], 0, 0⟩
  | f + 1, p =>
    if l.length ≤ p then ⟨[], 0, 0⟩
    else
      let K := (endOf (l.drop p)).1
      let n := (endOf (l.drop p)).2
      let x := (l.drop p).take n
      if errOf K x ≠ 0 then ⟨[], errOf K x, p⟩
      else if clB K (l.drop (p + n)) = true then ⟨[], 4, p + n⟩
      else (lexA l f (p + n + skN (l.drop (p + n)))).ahead [tkOf K x p]

/-- What Lex answers. -/
def lexS (l : List UInt8) : Out := if 16384 < l.length then ⟨[], 3, 16384⟩ else lexA l (l.length + 1) (skN l)

theorem Out.ahead_nil (r : Out) (h : r.err = 0 → r.place = 0) : r.ahead [] = r := by
  unfold Out.ahead
  split
  · next h0 => cases r; simp at h0 h ⊢; exact ⟨h0.symm, (h h0).symm⟩
  · rfl

theorem Out.ahead_ahead (a b : List Tk) (r : Out) : (r.ahead b).ahead a = r.ahead (a ++ b) := by
  unfold Out.ahead
  split
  · simp
  · rfl

theorem skF_le (b : Bool) (l : List UInt8) : skF b l ≤ l.length := by
  induction l generalizing b with
  | nil => cases b <;> simp [skF]
  | cons c r ih =>
    have h1 := ih true
    have h2 := ih false
    cases b <;> simp only [skF, List.length_cons] <;> split <;> (try split) <;> omega

theorem lexA_end (l : List UInt8) (f p : Nat) (h : l.length ≤ p) : lexA l f p = ⟨[], 0, 0⟩ := by
  cases f <;> simp [lexA, h]

theorem lexA_err (l : List UInt8) (f p : Nat) (h : p < l.length) (he : errOf (endOf (l.drop p)).1 ((l.drop p).take (endOf (l.drop p)).2) ≠ 0) :
    lexA l (f + 1) p = ⟨[], errOf (endOf (l.drop p)).1 ((l.drop p).take (endOf (l.drop p)).2), p⟩ := by
  simp only [lexA, show ¬ l.length ≤ p by omega, if_false, he, ne_eq, not_false_eq_true, if_true]

theorem lexA_clings (l : List UInt8) (f p : Nat) (h : p < l.length) (he : errOf (endOf (l.drop p)).1 ((l.drop p).take (endOf (l.drop p)).2) = 0) (hc : clB (endOf (l.drop p)).1 (l.drop (p + (endOf (l.drop p)).2)) = true) :
    lexA l (f + 1) p = ⟨[], 4, p + (endOf (l.drop p)).2⟩ := by
  simp only [lexA, show ¬ l.length ≤ p by omega, if_false, he, ne_eq, not_true_eq_false, hc, if_true]

theorem lexA_step (l : List UInt8) (f p : Nat) (h : p < l.length) (he : errOf (endOf (l.drop p)).1 ((l.drop p).take (endOf (l.drop p)).2) = 0) (hc : clB (endOf (l.drop p)).1 (l.drop (p + (endOf (l.drop p)).2)) = false) :
    lexA l (f + 1) p = (lexA l f (p + (endOf (l.drop p)).2 + skN (l.drop (p + (endOf (l.drop p)).2)))).ahead [tkOf (endOf (l.drop p)).1 ((l.drop p).take (endOf (l.drop p)).2) p] := by
  simp only [lexA, show ¬ l.length ≤ p by omega, if_false, he, ne_eq, not_true_eq_false, hc]
  rfl

theorem alN_le' (l : List UInt8) : alN l ≤ l.length := by
  induction l with
  | nil => simp [alN]
  | cons c r ih => simp only [alN]; split <;> simp; omega

theorem dgN_le (l : List UInt8) : dgN l ≤ l.length := by
  induction l with
  | nil => simp [dgN]
  | cons c r ih => simp only [dgN]; split <;> simp; omega

theorem nmN_le (l : List UInt8) : (nmN l).2 ≤ l.length := by
  induction l with
  | nil => simp [nmN]
  | cons c r ih => have := dgN_le r; simp only [nmN]; split <;> (try split) <;> simp <;> omega

theorem nmN_kind (l : List UInt8) : (nmN l).1 = 2 ∨ (nmN l).1 = 3 := by
  induction l with
  | nil => exact .inl rfl
  | cons d q ih => simp only [nmN]; split; exact .inr rfl; split; exact ih; exact .inl rfl

/-- A token's kind and length. -/
theorem endOf_bounds (l : List UInt8) (h : 0 < l.length) : 1 ≤ (endOf l).2 ∧ (endOf l).2 ≤ l.length ∧ ((endOf l).1 = 1 ∨ (endOf l).1 = 2 ∨ (endOf l).1 = 3 ∨ (endOf l).1 = 4) := by
  match l, h with
  | c :: r, _ =>
    have h1 := alN_le' r
    have h2 := nmN_le r
    have h3 := nmN_kind r
    simp only [endOf, List.length_cons]
    split
    · simp; omega
    · split
      · refine ⟨by simp, by simp; omega, ?_⟩
        simp only []
        omega
      · cases r with
        | nil => simp [sgN]
        | cons d q => simp only [sgN]; split <;> simp

end Go.Proofs.YtjgggmjjikopeaaGreatDoor
