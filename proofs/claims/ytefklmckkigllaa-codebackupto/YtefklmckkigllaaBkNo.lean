/- CodeBack: the walk, a case. -/
import Derived.Test.YtefklmckkigllaaBkL
namespace Go.Proofs.Ytefklmckkigllaa
open Go.RowKit
set_option linter.unusedVariables false

set_option maxRecDepth 100000 in
set_option maxHeartbeats 12800000 in
theorem back_no (B : Nat) (x y : CT) (ab : Option Addr) (cb : Nat) (bs : List UInt8) (w : World) (hx : x.In B w) (hy : y.In B w) (hBw : B ≤ w.heap.size) (hrow : Row w ab bs) (hcb : bs.length ≤ cb) (hlb : bs.length ≤ 1099511627776) (hk1 : checkC x.cd ≠ 0) :
    Calls Try.prog 5 #[.agg x.cells.toArray, .agg y.cells.toArray, .slice ab bs.length cb] w fun e w' => e = .returned (.bool true) ∧ Below w.heap.size w w' := by
  obtain ⟨nb, hnb⟩ : ∃ n, Hid (bs.length = n) := ⟨_, (rfl : bs.length = _)⟩
  rw [hnb.out] at hcb hlb ⊢
  have HRow : Hid (Row w ab bs) := hrow
  have HXI : Hid (∀ u, Below w.heap.size w u → x.In u.heap.size u) := fun u hu => (hx.old (Old.of_below hu hBw)).up (Nat.le_trans hBw hu.size)
  have HYI : Hid (∀ u, Below w.heap.size w u → y.In u.heap.size u) := fun u hu => (hy.old (Old.of_below hu hBw)).up (Nat.le_trans hBw hu.size)
  have HOK : Hid (OkC x.cd ∧ OkC y.cd) := ⟨ok_of hx, ok_of hy⟩
  clear hrow hx hy
  have K4 : Hid (∀ u, Calls Try.prog 4 #[] u fun e w' => e = .returned (.bool true) ∧ Below u.heap.size u w') := known_any
  obtain ⟨x0, x1, x2, hxc⟩ : ∃ x0 x1 x2, Hid (x.cells = [x0, x1, x2]) := ⟨_, _, _, (rfl : x.cells = _)⟩
  obtain ⟨y0, y1, y2, hyc⟩ : ∃ y0 y1 y2, Hid (y.cells = [y0, y1, y2]) := ⟨_, _, _, (rfl : y.cells = _)⟩
  have K6x : Hid (∀ u, Below w.heap.size w u → Calls Try.prog 6 #[.agg #[x0, x1, x2]] u fun r w' => IsB r ∧ Below u.heap.size u w') := fun u hu => by
    have h := large_any _ x u (HXI.out u hu) (Nat.le_refl _)
    rw [hxc.out] at h
    exact h
  have K6y : Hid (∀ u, Below w.heap.size w u → Calls Try.prog 6 #[.agg #[y0, y1, y2]] u fun r w' => IsB r ∧ Below u.heap.size u w') := fun u hu => by
    have h := large_any _ y u (HYI.out u hu) (Nat.le_refl _)
    rw [hyc.out] at h
    exact h
  rw [hxc.out, hyc.out]
  go_enter Try.func5, Try.ntmps5
  go_wp2_with (first
    | ((with_reducible show wpList _ _ _ _ _ _); refine wpList_box_at rfl 25 (.tmp 0) rfl [x0, x1, x2] rfl ?_; intro w1 hA1 hb1 hs1; clear hs1)
    | ((with_reducible show wpList _ _ _ _ _ _); refine wpList_box_at rfl 25 (.tmp 1) rfl [y0, y1, y2] rfl ?_; intro w2 hA2 hb2 hs2; clear hs2; refine Hid.out ?_))
  refine hidU ?_
  have hB2 : Below w.heap.size w w2 := hb1.trans (hb2.mono hb1.size)
  have hA12 := hA1.below hb2
  have l12 := hA2.lt
  clear hA1 hb1 hb2
  go_wp2_with (first
    | (go_at_call 4; refine (K4.out _).mono ?_; rintro _ w3 ⟨rfl, hb3⟩; refine Hid.out ?_))
  refine hidU ?_
  have hB3 := hB2.trans (hb3.mono hB2.size)
  have hA13 := hA12.below hb3
  have hA23 := hA2.below hb3
  clear hA12 hA2 hb3 hB2 K4
  go_wp2_with (first
    | ((with_reducible show wpList _ _ _ _ _ _); refine wpList_load_at (P := Try.prog) rfl 25 (.tmp 3) rfl w.heap.size rfl 25 [x0, x1, x2] hA13 _ Try.underlying25 rfl i25 ?_)
    | (go_at_call 6; refine (K6x.out _ hB3).mono ?_; rintro _ w4 ⟨⟨l1, rfl⟩, hb4⟩; refine Hid.out ?_))
  refine hidU ?_
  have hB4 := hB3.trans (hb4.mono hB3.size)
  have hA14 := hA13.below hb4
  have hA24 := hA23.below hb4
  clear hA13 hA23 hb4 hB3 K6x
  have s0 : w4.cell? ⟨w1.heap.size, 0, none⟩ = some y0 := by rw [(hA24).cell]; rfl
  have s1 : w4.cell? ⟨w1.heap.size, 1, none⟩ = some y1 := by rw [(hA24).cell]; rfl
  have s2 : w4.cell? ⟨w1.heap.size, 2, none⟩ = some y2 := by rw [(hA24).cell]; rfl
  cases l1 with
  | true =>
    clear hA14 hA24
    go_wp2
    go_ret
    exact ⟨rfl, hB4⟩
  | false =>
    go_wp2_with (first
      | (go_at_call 6; refine (K6y.out _ hB4).mono ?_; rintro _ w5 ⟨⟨l2, rfl⟩, hb5⟩; refine Hid.out ?_))
    refine hidU ?_
    have hB5 := hB4.trans (hb5.mono hB4.size)
    have hA15 := hA14.below hb5
    have hA25 := hA24.below hb5
    clear hA14 hA24 hb5 hB4 K6y s0 s1 s2
    cases l2 with
    | true =>
      clear hA15 hA25
      go_wp2
      go_ret
      exact ⟨rfl, hB5⟩
    | false =>
      by_cases hbig : 20000 < nb
      · have hbig' : decide ((20000 : Int) < (nb : Int)) = true := decide_eq_true (by omega)
        clear hbig hA15 hA25
        go_wp2
        go_ret
        exact ⟨rfl, hB5⟩
      · have hbig' : decide ((20000 : Int) < (nb : Int)) = false := decide_eq_false (by omega)
        clear hbig
        have HS5 : Hid (Bs w w1.heap.size [x0, x1, x2] [y0, y1, y2] w5) := ⟨hB5, hA15, hA25⟩
        clear hA15 hA25 hB5
        obtain ⟨k1, hkk⟩ : ∃ k, Hid (k = checkC x.cd) := ⟨_, (rfl : checkC x.cd = _)⟩
        have hk1' : ((k1 : Int) == 0) = false := by rw [beq_eq_false_iff_ne, hkk.out]; omega
        have K16x : Hid (∀ u, Below w.heap.size w u → Calls Try.prog 16 #[.agg #[x0, x1, x2]] u fun e w' => e = .returned (.tuple #[.slice none 0 0, .int .i64 (k1 : Int)]) ∧ Below u.heap.size u w') := fun u hu => by
          have h := bytes_no _ x u (HXI.out u hu) (Nat.le_refl _) hk1
          rw [hxc.out, ← hkk.out] at h
          exact h
        have K16y : Hid (∀ u, Below w.heap.size w u → Calls Try.prog 16 #[.agg #[y0, y1, y2]] u fun e w' => (∃ v k, e = .returned (.tuple #[v, .int .i64 k])) ∧ Below u.heap.size u w') := fun u hu => by
          have h := bytes_some _ y u (HYI.out u hu) (Nat.le_refl _)
          rw [hyc.out] at h
          exact h
        clear hk1
        go_wp2_with (first
          | ((with_reducible show wpList _ _ _ _ _ _); refine wpList_load_at (P := Try.prog) rfl 25 (.tmp 3) rfl w.heap.size rfl 25 [x0, x1, x2] HS5.out.2.1 _ Try.underlying25 rfl i25 ?_)
          | (go_at_call 16; refine (K16x.out _ HS5.out.1).mono ?_; rintro _ w6 ⟨rfl, hb6⟩; refine Hid.out ?_))
        refine hidU ?_
        have HS6 : Hid (Bs w w1.heap.size [x0, x1, x2] [y0, y1, y2] w6) := HS5.out.go hb6
        clear hb6 HS5 K16x
        go_wp2_with (first
          | ((with_reducible show wpList _ _ _ _ _ _); refine wpList_load_at (P := Try.prog) rfl 25 (.tmp 4) rfl w1.heap.size rfl 25 [y0, y1, y2] HS6.out.2.2 _ Try.underlying25 rfl i25 ?_)
          | (go_at_call 16; refine (K16y.out _ HS6.out.1).mono ?_; rintro _ w7 ⟨⟨v7, k7, rfl⟩, hb7⟩; refine Hid.out ?_))
        refine hidU ?_
        have hB7 : Below w.heap.size w w7 := (HS6.out.go hb7).1
        clear hb7 HS6 K16y
        cases hrd : readC bs with
        | none =>
          have QR := read_no ab nb cb bs hnb.out w7 (HRow.out.below hB7) hcb hlb hrd
          have HQR : Hid (Calls Try.prog 13 #[.slice ab nb cb] w7 fun e w' => e = .returned (.tuple #[.agg #[.slice none 0 0, .int .i64 0, .slice none 0 0], .int .i64 4]) ∧ Below w7.heap.size w7 w') := QR
          clear QR hrd
          go_wp2_with (first
            | (go_at_call 13; refine HQR.out.mono ?_; rintro _ t1 ⟨rfl, ht1⟩)
            | ((with_reducible show wpList _ _ _ _ _ _); refine wpList_alloc_at (o := { dst := some 18, .. }) rfl 25 rfl _ 3 z25 ?_; intro t2 tA2 tb2 ts2; clear ts2)
            | ((with_reducible show wpList _ _ _ _ _ _); refine wpList_store_at (P := Try.prog) rfl 25 (.tmp 18) (.tmp 108) rfl t1.heap.size [.slice none 0 0, .int .i64 0, .slice none 0 0] rfl rfl 25 _ tA2 i25 rfl (CT.one ⟨none, 0, [], 0, none, 0, []⟩) ?_; intro t3 tA3 tb3 ts3; clear ts3; refine Hid.out ?_))
          refine hidU ?_
          have hT := hB7.trans (ht1.mono hB7.size)
          have hT2 := hT.trans (tb2.mono hT.size)
          have hT3 := tb3.below hT2 hT.size hT2.size
          clear tA2 tA3 tb2 tb3 ht1 hT hT2 HQR
          go_wp2
          go_ret
          exact ⟨rfl, hT3⟩
        | some cd2 =>
          have QR := read_yes ab nb cb bs hnb.out w7 (HRow.out.below hB7) hcb hlb cd2 hrd
          have HQR : Hid (Calls Try.prog 13 #[.slice ab nb cb] w7 fun e w' => (∃ y0 y1 y2, e = .returned (.tuple #[.agg #[y0, y1, y2], .int .i64 0]) ∧ ∃ y : CT, y.cells = [y0, y1, y2] ∧ y.cd = cd2 ∧ y.In w'.heap.size w') ∧ Below w7.heap.size w7 w') := QR
          have HRD : Hid (encC cd2 = bs ∧ checkC cd2 = 0) := ⟨(enc_read hrd).1, (enc_read hrd).2.1⟩
          clear QR hrd
          go_wp2_with (first
            | (go_at_call 13; refine HQR.out.mono ?_; rintro _ t1 ⟨⟨m0, m1, m2, rfl, hM⟩, ht1⟩)
            | ((with_reducible show wpList _ _ _ _ _ _); refine wpList_alloc_at (o := { dst := some 18, .. }) rfl 25 rfl _ 3 z25 ?_; intro t2 tA2 tb2 ts2; clear ts2; refine Hid.out ?_))
          refine hidU ?_
          have HM : Hid (∃ y : CT, y.cells = [m0, m1, m2] ∧ y.cd = cd2 ∧ y.In t1.heap.size t1) := hM
          have hm1 : ∀ x ∈ [m0, m1, m2], x.oneCell' = true := by
            obtain ⟨y, hy, _⟩ := hM
            rw [← hy]
            exact y.one
          clear hM HQR
          go_wp2_with (first
            | ((with_reducible show wpList _ _ _ _ _ _); refine wpList_store_at (P := Try.prog) rfl 25 (.tmp 18) (.tmp 108) rfl t1.heap.size [m0, m1, m2] rfl rfl 25 _ tA2 i25 rfl hm1 ?_; intro t3 tA3 tb3 ts3; clear ts3; refine Hid.out ?_))
          refine hidU ?_
          have hT := hB7.trans (ht1.mono hB7.size)
          have hT2 := hT.trans (tb2.mono hT.size)
          have hT3 := tb3.below hT2 hT.size hT2.size
          have Q16 : Hid (Calls Try.prog 16 #[.agg #[m0, m1, m2]] t3 fun e w' => (∃ g cap, e = .returned (.tuple #[.slice (some ⟨g, 0, none⟩) nb cap, .int .i64 0]) ∧ Row w' (some ⟨g, 0, none⟩) bs) ∧ Below t3.heap.size t3 w') := by
            obtain ⟨y, h1, h2, h3⟩ := HM.out
            have hI : y.In t3.heap.size t3 := (CT.In.old h3 (fun k hk => by rw [tb3.block k (Nat.lt_of_lt_of_le hk tb2.size) (by omega), tb2.block k hk])).up (Nat.le_trans tb2.size tb3.size)
            have h := bytes_yes _ y t3 hI (Nat.le_refl _) (by rw [h2]; exact HRD.out.2)
            rw [h1, h2, HRD.out.1, hnb.out] at h
            refine h.mono ?_
            rintro e w' ⟨⟨g, cap, he, _, _, _, hcell⟩, hb⟩
            exact ⟨⟨g, cap, he, rowCells (by rw [hnb.out]; exact hcell)⟩, hb⟩
          clear tA2 tb2 tb3 ht1 hT hT2 HM
          go_wp2_with (first
            | ((with_reducible show wpList _ _ _ _ _ _); refine wpList_load_at (P := Try.prog) rfl 25 (.tmp 18) rfl t1.heap.size rfl 25 [m0, m1, m2] tA3 _ Try.underlying25 rfl i25 ?_)
            | (go_at_call 16; refine Q16.out.mono ?_; rintro _ t4 ⟨⟨g4, cap4, rfl, hrow4⟩, ht4⟩; refine Hid.out ?_))
          refine hidU ?_
          have hT4 := hT3.trans (ht4.mono hT3.size)
          have QS : Hid (Calls Try.prog 18 #[.slice (some ⟨g4, 0, none⟩) nb cap4, .slice ab nb cb] t4 fun e w' => e = .returned (.bool true) ∧ w' = t4) := by
            have h := same_any (some ⟨g4, 0, none⟩) ab cap4 cb bs bs t4 hrow4 (HRow.out.below hT4)
            rw [hnb.out, beq_self_eq_true] at h
            exact h
          clear tA3 Q16 hrow4 ht4 hT3
          go_wp2_with (first
            | (go_at_call 18; refine QS.out.mono ?_; rintro _ t5 ⟨rfl, rfl⟩))
          go_ret
          exact ⟨rfl, hT4⟩



end Go.Proofs.Ytefklmckkigllaa
