/- Joined texts of the proof. -/
import Derived.Test.YtbamocalhojmeaaJ32

/- NormAll: the walk, given what norm tells. -/
namespace Go.Proofs.Ytbamocalhojmeaa
open Go.RowKit
set_option linter.unusedVariables false
attribute [local go_sem ↓] Go.wp_at_zero Go.wp_at_succ

theorem Rch.sub {a b : List Ev} (h : Rch a b) : ∀ x ∈ b, x ∈ a := by
  induction h with
  | refl => exact fun x hx => hx
  | step k hh h1 h2 ih => exact fun x hx => ih x (swE_mem h1 x hx)
theorem Fit.rch {es x : List Ev} {n m : Nat} (h : Fit es n m) (hr : Rch es x) (hl : x.length = m) : Fit x n m := h.sub hl hr.sub
theorem first_rch {es x : List Ev} (hr : Rch es x) : fstE (leastE es) x := fun p hp hp2 hq => by
  have := least_first x p hp2
  rw [hr.least] at this
  exact this hq

set_option maxRecDepth 100000 in
set_option maxHeartbeats 12800000 in
theorem normAll_of (HL : LeT 10) (HE : EqT 14) (HS : ScT 16) (HKN : KnownOk) (es fs : List Ev) (z : Int) (a b : Option Addr) (c d : Nat) (w : World) (hE : RowEv w a es) (hok : ∀ x ∈ es, x.ok) (hl : es.length ≤ 9223372036854775807) (hc : es.length ≤ c) (hnil : a = none → c = 0) (hF : RowEv w b fs) (hok2 : ∀ x ∈ fs, x.ok) (hl2 : fs.length ≤ 9223372036854775807) (hd : fs.length ≤ d) :
    Calls Try.prog 6 #[.slice a es.length c, .slice b fs.length d, .int .i64 z] w fun r w' => r = .returned (.bool true) ∧ Below w.heap.size w w' := by
  have HK : Hid (Calls Try.prog 4 #[] w fun r w' => r = .returned (.bool true) ∧ Below w.heap.size w w') := HKN w
  have HT : Hid (∀ u v, Below w.heap.size w u → Below u.heap.size u v → Below w.heap.size w v) := fun u v h1 h2 => h1.trans (h2.mono h1.size)
  obtain ⟨m, hm⟩ : ∃ m, es.length = m := ⟨_, rfl⟩
  obtain ⟨k, hk⟩ : ∃ k, fs.length = k := ⟨_, rfl⟩
  by_cases h7 : 7 < m
  · rw [hm] at hl ⊢
    rw [hk] at hl2 ⊢
    clear hE hok hc hnil hF hok2 hd hm hk
    have z1 : (7 : Int) < (m : Int) := by omega
    go_enter Try.func6, Try.ntmps6
    go_wp2_with (go_at_call 4; refine HK.out.mono ?_; rintro _ w1 ⟨rfl, hb1⟩)
    go_ret
    exact ⟨rfl, hb1⟩
  by_cases h8 : 7 < k
  · rw [hm] at hl ⊢
    rw [hk] at hl2 ⊢
    clear hE hok hc hnil hF hok2 hd hm hk
    have z1 : ¬ (7 : Int) < (m : Int) := by omega
    have z2 : (7 : Int) < (k : Int) := by omega
    go_enter Try.func6, Try.ntmps6
    go_wp2_with (go_at_call 4; refine HK.out.mono ?_; rintro _ w1 ⟨rfl, hb1⟩)
    go_ret
    exact ⟨rfl, hb1⟩
  have z1 : ¬ (7 : Int) < (m : Int) := by omega
  have z2 : ¬ (7 : Int) < (k : Int) := by omega
  have HZ : Hid (∀ u, Below w.heap.size w u → (Calls Try.prog 10 #[.slice a m c, .int .i64 z] u fun r w' => ∃ ap cp, r = .returned (.tuple #[.slice ap (leastZ es z).length cp, .int .i64 (wrongZ es z)]) ∧ (leastZ es z).length ≤ cp ∧ RowI w' ap (leastZ es z) ∧ Below u.heap.size u w') ∧ (Calls Try.prog 10 #[.slice b k d, .int .i64 z] u fun r w' => ∃ ap lp cp, r = .returned (.tuple #[.slice ap lp cp, .int .i64 (wrongZ fs z)]) ∧ Below u.heap.size u w')) := fun u hu => by
    have k1 := HL es z a c u (hE.below hu) hok (by omega) hc
    have k2 := HL fs z b d u (hF.below hu) hok2 (by omega) hd
    rw [hm] at k1
    rw [hk] at k2
    exact ⟨k1, k2.mono fun r w' ⟨ap, cp, d1, d2, d3, d4⟩ => ⟨ap, _, cp, d1, d4⟩⟩
  by_cases hbad : wrongZ es z = 0 ∧ wrongZ fs z = 0
  · obtain ⟨hw1, hw2⟩ := hbad
    obtain ⟨h1, -, -, -⟩ := wrongZ_ok hw1
    obtain ⟨n, rfl⟩ : ∃ n : Nat, z = (n : Int) := ⟨z.toNat, by omega⟩
    have HF : Hid (Fit es n m) := ⟨hw1, hok, hm⟩
    have HEv : Hid (∀ u, Below w.heap.size w u → RowEv u a es) := fun u hu => hE.below hu
    have HFv : Hid (∀ u, Below w.heap.size w u → RowEv u b fs) := fun u hu => hF.below hu
    have H2 : Hid (∀ u, Below w.heap.size w u → Calls Try.prog 10 #[.slice b k d, .int .i64 n] u fun r w' => ∃ ap lp cp, r = .returned (.tuple #[.slice ap lp cp, .int .i64 0]) ∧ Below u.heap.size u w') := fun u hu => by
      have := (HZ.out u hu).2
      rw [hw2] at this
      exact this
    have HAll : Hid (∀ u, Below w.heap.size w u → Calls Try.prog 32 #[.slice a m c, .int .i64 6000] u fun r w' => ∃ v B, r = .returned (.tuple #[v, .bool B]) ∧ Hid (B = true → ∃ L, AllS u.heap.size w' v L m es ∧ L.length ≤ 6000 ∧ Cl L m L.length) ∧ Below u.heap.size u w') := fun u hu => by
      rw [hm] at hc
      refine (all_any es m a c u (hE.below hu) hm (by omega) hc hnil).mono fun r w' ⟨hor, hb⟩ => ?_
      rcases hor with h0 | ⟨v, L, h0, h1, h2, h3⟩
      · exact ⟨_, false, h0, fun h => (by cases h), hb⟩
      · exact ⟨v, true, h0, fun _ => ⟨L, h1, h2, h3⟩, hb⟩
    have HEq : Hid (∀ u, Below w.heap.size w u → Calls Try.prog 27 #[.slice a m c, .slice b k d, .int .i64 n] u fun r w' => r = .returned (.bool (decide (leastE es = leastE fs))) ∧ Below u.heap.size u w') := fun u hu => by
      have := equivalent_any HE es fs n a b c d u (hE.below hu) (hF.below hu) hok hok2 (by omega) (by omega) hc hd
      have e : (equivZ es fs n && decide (equivW es fs n = 0)) = decide (leastE es = leastE fs) := by
        unfold equivZ equivW
        rw [if_pos ⟨hw1, hw2⟩, if_pos hw1, decide_eq_true hw2, Bool.and_true]
        rfl
      rw [hm, hk, e] at this
      exact this
    rw [hm] at hc ⊢
    rw [hk] at hd ⊢
    have HFK : Hid (fs.length = k) := hk
    clear hE hok hF hok2 hw1 hw2 h1 HZ hm hk hnil hl hl2 HKN HE
    go_enter Try.func6, Try.ntmps6
    go_wp2_with (go_at_call 4; refine HK.out.mono ?_; rintro _ w1 ⟨rfl, hb1⟩; refine Hid.out ?_)
    refine hidU ?_
    have B1 : Hid (Below w.heap.size w w1) := hb1
    clear hb1 HK
    go_wp2_with (go_at_call 10; refine (least_c HL HF.out a c w1 (HEv.out w1 B1.out) hc).mono ?_; rintro _ w2 ⟨x1, cx, rfl, hcx, hX, hb2⟩; refine Hid.out ?_)
    refine hidU ?_
    have B2 : Hid (Below w.heap.size w w2) := HT.out _ _ B1.out hb2
    clear hb2 B1
    go_wp2_with (go_at_call 10; refine (H2.out w2 B2.out).mono ?_; rintro _ w3 ⟨y1, ly, cy, rfl, hb3⟩; refine Hid.out ?_)
    refine hidU ?_
    have B3 : Hid (Below w.heap.size w w3) := HT.out _ _ B2.out hb3
    have HX3 : Hid (RowI w3 x1 (natI (leastL (evAt es) m))) := hX.out.below hb3
    clear hb3 hX H2 B2
    go_wp2_with (go_at_call 25; refine (at_c HS HF.out (lin_least (evAt es) m) a x1 c cx w3 (HEv.out w3 B3.out) HX3.out hc hcx).mono ?_; rintro _ w4 ⟨l1, cl, rfl, hcl, hL1, hb4⟩; refine Hid.out ?_)
    refine hidU ?_
    have B4 : Hid (Below w.heap.size w w4) := HT.out _ _ B3.out hb4
    have HL4 : Hid (RowEv w4 l1 (leastE es)) := by
      have := hL1.out
      rw [least_at HF.out.len] at this
      exact this
    clear hb4 hL1 HX3 B3
    go_wp2_with (go_at_call 32; refine (HAll.out w4 B4.out).mono ?_; rintro _ w5 ⟨v, Bf, rfl, hor, hb5⟩; refine Hid.out ?_)
    refine hidU ?_
    have B5 : Hid (Below w.heap.size w w5) := HT.out _ _ B4.out hb5
    have HL5 : Hid (RowEv w5 l1 (leastE es)) := HL4.out.below hb5
    clear hb5 HL4
    cases Bf
    · clear hor
      go_wp2_with fail
      go_ret
      exact ⟨rfl, B5.out⟩
    · obtain ⟨L, hS5, hL6, hCl⟩ := hor.out rfl
      clear hor
      obtain ⟨g, cap, rfl, hcap, -, -, -⟩ := hS5.at
      obtain ⟨N, hN⟩ : ∃ N, Hid (N = L.length) := ⟨_, (rfl : _ = L.length)⟩
      have HS5 : Hid (AllS w4.heap.size w5 (.slice (some ⟨g, 0, none⟩) N cap) L m es) := by
        rw [← hN.out] at hS5
        exact hS5
      have HCl : Hid (Cl L m L.length) := hCl
      rw [← hN.out] at hcap hL6 ⊢
      clear hS5 hCl
      go_wp2_with fail
      go_loopw [15, 16] (fun s t wr => ∃ (i : Nat) (B : Bool), i ≤ N ∧ t = .int .i64 (i : Int) ∧ s = .bool B ∧ Hid (B = decide (fs ∈ L.take i)) ∧ Hid (Below w5.heap.size w5 wr)) (fun _ t _ => N - (intOf t).toNat)
      case atStart => exact ⟨0, false, Nat.zero_le _, rfl, rfl, (by show false = _; simp), Below.refl _ _⟩
      case round =>
        obtain ⟨i, B, hiN, rfl, rfl, hBd, hBw⟩ := hrel
        obtain ⟨wi, rfl⟩ : ∃ x, x = wr := ⟨wr, rfl⟩
        by_cases hi : i < N
        · obtain ⟨x, hx⟩ : ∃ z, L[i]? = some z := ⟨L[i]'(by rw [← hN.out]; exact hi), by rw [List.getElem?_eq_getElem]⟩
          obtain ⟨g', cap', hgg, -, -, -, hat⟩ := (HS5.out.below hBw.out).at
          cases hgg
          obtain ⟨ax, cxx, d1, hcxx, -, hokx⟩ := hat i x hx
          have hxm := List.mem_of_getElem? hx
          have HFx : Hid (Fit x n m ∧ leastE x = leastE es ∧ fstE (leastE es) x) := ⟨HF.out.rch (HS5.out.rch x hxm) (HS5.out.len x hxm), (HS5.out.rch x hxm).least, first_rch (HS5.out.rch x hxm)⟩
          have HXi : Hid (RowEv wi ax x) := hokx.row
          have Bi : Hid (Below w.heap.size w wi) := HT.out _ _ B5.out hBw.out
          have HLi : Hid (RowEv wi l1 (leastE es)) := HL5.out.below hBw.out
          have HBN : Hid ((B || decide (x = fs)) = decide (fs ∈ L.take (i + 1))) := by
            show _ = _
            rw [hBd.out, List.take_add_one, hx]
            rw [Bool.eq_iff_iff]
            simp only [Bool.or_eq_true, decide_eq_true_eq, List.mem_append, Option.toList, List.mem_singleton]
            exact or_congr Iff.rfl eq_comm
          have HDi : Hid (wi.cell? ⟨g, i, none⟩ = some (.slice ax m cxx)) := d1
          clear hat hokx hx hxm hBd
          go_wp2_with (go_at_call 10; refine (least_c HL HFx.out.1 ax cxx wi HXi.out hcxx).mono ?_; rintro _ v1 ⟨y2, cy2, rfl, hcy2, hY2, hb1⟩; refine Hid.out ?_)
          refine hidU ?_
          have X1 : Hid (RowEv v1 ax x) := HXi.out.below hb1
          have L1 : Hid (RowEv v1 l1 (leastE es)) := HLi.out.below hb1
          have C1 : Hid (Below wi.heap.size wi v1) := hb1
          have e1 := (hb1.cell (lt_of_cell d1)).trans d1
          clear hb1 d1
          go_wp2_with (go_at_call 25; refine (at_c HS HFx.out.1 (lin_least (evAt x) m) ax y2 cxx cy2 v1 X1.out hY2.out hcxx hcy2).mono ?_; rintro _ v2 ⟨t2, ct2, rfl, hct2, hT2, hb2⟩; refine Hid.out ?_)
          refine hidU ?_
          have X2 : Hid (RowEv v2 ax x) := X1.out.below hb2
          have L2 : Hid (RowEv v2 l1 (leastE es)) := L1.out.below hb2
          have C2 : Hid (Below wi.heap.size wi v2) := C1.out.trans (hb2.mono C1.out.size)
          have HSm : Hid (Calls Try.prog 28 #[.slice t2 m ct2, .slice l1 m cl] v2 fun r w' => r = .returned (.bool true) ∧ Below v2.heap.size v2 w') := by
            have k1 := hT2.out
            rw [least_at HFx.out.1.len, HFx.out.2.1] at k1
            have := same_c HF.out.least.len HF.out.least.len (by omega) t2 l1 ct2 cl v2 k1 L2.out hct2 hcl
            rw [decide_eq_true rfl] at this
            exact this
          clear hb2 e1 X1 L1 C1 hY2 hT2
          go_wp2_with (go_at_call 28; refine HSm.out.mono ?_; rintro _ v3 ⟨rfl, hb3⟩; refine Hid.out ?_)
          refine hidU ?_
          have X3 : Hid (RowEv v3 ax x) := X2.out.below hb3
          have L3 : Hid (RowEv v3 l1 (leastE es)) := L2.out.below hb3
          have C3 : Hid (Below wi.heap.size wi v3) := C2.out.trans (hb3.mono C2.out.size)
          have e3 := (C3.out.cell (lt_of_cell HDi.out)).trans HDi.out
          clear hb3 X2 L2 C2 HSm
          go_wp2_with (go_at_call 33; refine (first_ok (leastE es) x m l1 ax cl cxx v3 L3.out X3.out HF.out.least.len HFx.out.1.len (by omega) hcl hcxx HFx.out.2.2).mono ?_; rintro _ v4 ⟨rfl, hb4⟩; refine Hid.out ?_)
          refine hidU ?_
          have X4 : Hid (RowEv v4 ax x) := X3.out.below hb4
          have C4 : Hid (Below wi.heap.size wi v4) := C3.out.trans (hb4.mono C3.out.size)
          have e4 := (C4.out.cell (lt_of_cell HDi.out)).trans HDi.out
          have D4 : Hid (Below w5.heap.size w5 v4) := hBw.out.trans (C4.out.mono hBw.out.size)
          have HSb : Hid (Calls Try.prog 28 #[.slice ax m cxx, .slice b k d] v4 fun r w' => r = .returned (.bool (decide (x = fs))) ∧ Below v4.heap.size v4 w') := by
            have := sameEvents_any x fs ax b cxx d v4 X4.out (HFv.out v4 (HT.out _ _ Bi.out C4.out)) (by rw [HFx.out.1.len]; omega) (by rw [HFK.out]; omega) (by rw [HFx.out.1.len]; exact hcxx) (by rw [HFK.out]; exact hd)
            rw [HFx.out.1.len, HFK.out] at this
            exact this
          clear hb4 e3 X3 L3 C3 C4 X4 HXi HLi Bi hBw HDi HFx
          obtain ⟨S2, hS2⟩ : ∃ S2, Hid (S2 = decide (x = fs)) := ⟨_, (rfl : _ = decide _)⟩
          rw [← hS2.out] at HSb HBN
          cases B
          · rw [Bool.false_or] at HBN
            go_wp2_with (go_at_call 28; refine HSb.out.mono ?_; rintro _ v5 ⟨rfl, hb5⟩; have D5 : Hid (Below w5.heap.size w5 v5) := D4.out.trans (hb5.mono D4.out.size); clear hb5)
            go_roundw
            case rel => exact ⟨i + 1, S2, by omega, by go_num, rfl, HBN.out, D5.out⟩
            case measure => simp [intOf]; omega
          · rw [Bool.true_or] at HBN
            go_wp2_with fail
            go_roundw
            case rel => exact ⟨i + 1, true, by omega, by go_num, rfl, HBN.out, D4.out⟩
            case measure => simp [intOf]; omega
        · have HBf : Hid (decide (leastE es = leastE fs) = B) := by
            show _ = _
            rw [hBd.out, List.take_of_length_le (by rw [← hN.out]; omega)]
            have h0 := HS5.out.fst
            have hiff := all_iff HS5.out.rch HS5.out.len (List.mem_of_getElem? h0) HCl.out fs
            rw [rch_iff] at hiff
            rw [Bool.eq_iff_iff, decide_eq_true_eq, decide_eq_true_eq, hiff]
            exact eq_comm
          have Bi : Hid (Below w.heap.size w wi) := HT.out _ _ B5.out hBw.out
          have HEi := HEq.out wi Bi.out
          rw [HBf.out] at HEi
          have hBB : (B == B) = true := by simp
          clear hBd hBw HEq
          go_wp2_with (go_at_call 27; refine HEi.mono ?_; rintro _ v6 ⟨rfl, hb6⟩)
          go_ret
          exact ⟨by simp, HT.out _ _ Bi.out hb6⟩
  · rw [hm] at hl ⊢
    rw [hk] at hl2 ⊢
    obtain ⟨Z1, hZ1⟩ : ∃ Z, Hid (Z = wrongZ es z) := ⟨_, (rfl : _ = wrongZ _ _)⟩
    obtain ⟨Z2, hZ2⟩ : ∃ Z, Hid (Z = wrongZ fs z) := ⟨_, (rfl : _ = wrongZ _ _)⟩
    have H1 : Hid (∀ u, Below w.heap.size w u → Calls Try.prog 10 #[.slice a m c, .int .i64 z] u fun r w' => ∃ ap lp cp, r = .returned (.tuple #[.slice ap lp cp, .int .i64 Z1]) ∧ Below u.heap.size u w') := fun u hu => by
      rw [hZ1.out]
      exact (HZ.out u hu).1.mono fun r w' ⟨ap, cp, d1, d2, d3, d4⟩ => ⟨ap, _, cp, d1, d4⟩
    have H2 : Hid (∀ u, Below w.heap.size w u → Calls Try.prog 10 #[.slice b k d, .int .i64 z] u fun r w' => ∃ ap lp cp, r = .returned (.tuple #[.slice ap lp cp, .int .i64 Z2]) ∧ Below u.heap.size u w') := fun u hu => by
      rw [hZ2.out]
      exact (HZ.out u hu).2
    rw [← hZ1.out, ← hZ2.out] at hbad
    clear hE hok hF hok2 HZ hm hk hnil hc hd HKN HL HE HS
    by_cases hz1 : Z1 = 0
    · have hz2 : (Z2 != 0) = true := by simpa using fun h => hbad ⟨hz1, h⟩
      subst hz1
      clear hbad
      go_enter Try.func6, Try.ntmps6
      go_wp2_with (go_at_call 4; refine HK.out.mono ?_; rintro _ w1 ⟨rfl, hb1⟩; refine Hid.out ?_)
      refine hidU ?_
      have B1 : Hid (Below w.heap.size w w1) := hb1
      clear hb1
      go_wp2_with (go_at_call 10; refine (H1.out w1 B1.out).mono ?_; rintro _ w2 ⟨x1, lx, cx, rfl, hb2⟩; refine Hid.out ?_)
      refine hidU ?_
      have B2 : Hid (Below w.heap.size w w2) := HT.out _ _ B1.out hb2
      clear hb2 H1
      go_wp2_with (go_at_call 10; refine (H2.out w2 B2.out).mono ?_; rintro _ w3 ⟨y1, ly, cy, rfl, hb3⟩)
      go_ret
      exact ⟨rfl, HT.out _ _ B2.out hb3⟩
    · have hz2 : (Z1 != 0) = true := by simpa using hz1
      clear hbad hz1
      go_enter Try.func6, Try.ntmps6
      go_wp2_with (go_at_call 4; refine HK.out.mono ?_; rintro _ w1 ⟨rfl, hb1⟩; refine Hid.out ?_)
      refine hidU ?_
      have B1 : Hid (Below w.heap.size w w1) := hb1
      clear hb1
      go_wp2_with (go_at_call 10; refine (H1.out w1 B1.out).mono ?_; rintro _ w2 ⟨x1, lx, cx, rfl, hb2⟩; refine Hid.out ?_)
      refine hidU ?_
      have B2 : Hid (Below w.heap.size w w2) := HT.out _ _ B1.out hb2
      clear hb2 H1
      go_wp2_with (go_at_call 10; refine (H2.out w2 B2.out).mono ?_; rintro _ w3 ⟨y1, ly, cy, rfl, hb3⟩)
      go_ret
      exact ⟨rfl, HT.out _ _ B2.out hb3⟩
end Go.Proofs.Ytbamocalhojmeaa

/- What may be written over: rows of numbers with their room, lists of such rows. -/
namespace Go.Proofs.Ytbamocalhojmeaa
open Go.RowKit
set_option linter.unusedVariables false
attribute [local go_sem ↓] Go.wp_at_zero Go.wp_at_succ

theorem cell_same {w w' : World} {g : Nat} (h : w'.heap[g]? = w.heap[g]?) (i : Nat) : w'.cell? ⟨g, i, none⟩ = w.cell? ⟨g, i, none⟩ := by
  simp only [World.cell?, h]
/-- Numbers that may be written over up to their capacity, in a block of D. -/
def WrZ (D : Nat → Prop) (w : World) (b : Option Addr) (c : Nat) : Prop :=
  c ≤ 9223372036854775807 ∧ (c = 0 ∨ ∃ (g o : Nat) (cs : List Value), b = some ⟨g, o, none⟩ ∧ D g ∧ BlkI w g cs ∧ ∀ i, i < c → ∃ z, cs[o + i]? = some (.int .i64 z))
/-- Only these numbers were written over. -/
structure OvC (b : Option Addr) (c : Nat) (w w' : World) : Prop where
  os : w'.os = w.os
  tape : w'.tape = w.tape
  output : w'.output = w.output
  size : w'.heap.size = w.heap.size
  block : ∀ k, (c = 0 ∨ ∀ o, b ≠ some ⟨k, o, none⟩) → w'.heap[k]? = w.heap[k]?
  cell : ∀ g o, b = some ⟨g, o, none⟩ → ∀ i, (i < o ∨ o + c ≤ i) → w'.cell? ⟨g, i, none⟩ = w.cell? ⟨g, i, none⟩
  ints : ∀ (g : Nat) (cs : List Value), BlkI w g cs → ∃ cs' : List Value, BlkI w' g cs' ∧ ∀ i : Nat, (∃ z, cs[i]? = some (.int .i64 z)) → ∃ z, cs'[i]? = some (.int .i64 z)
theorem OvC.none (b : Option Addr) (w : World) : OvC b 0 w w := ⟨rfl, rfl, rfl, rfl, fun _ _ => rfl, fun _ _ _ _ _ => rfl, fun g cs h => ⟨cs, h, fun i h => h⟩⟩
set_option maxRecDepth 100000 in
set_option maxHeartbeats 800000 in
theorem overInts_max (g o len cap : Nat) (cs : List Value) (w : World) (hblk : BlkI w g cs) (hint : ∀ i, i < cap → ∃ z, cs[o + i]? = some (.int .i64 z)) (hmax : cap ≤ 9223372036854775807) (hlc : len ≤ cap) :
    Calls Try.prog 20 #[.slice (some ⟨g, o, none⟩) len cap] w fun e w' => e = .returned (.tuple #[]) ∧ OverW g o (o + cap) w w' ∧ ∃ cs' : List Value, BlkI w' g cs' ∧ ∀ i : Nat, (∃ z, cs[i]? = some (.int .i64 z)) → ∃ z, cs'[i]? = some (.int .i64 z) := by
  have hs1 := fun w => runI_slice_to w (some ⟨g, o, none⟩) len cap cap (cap : Int) rfl (Nat.le_refl _)
  go_enter Try.func20, Try.ntmps20
  go_wp2
  go_loopw [3] (fun t wr => ∃ (k : Nat) (cs' : List Value), k ≤ cap ∧ t = .int .i64 k ∧ Hid (∀ i, i < cap → ∃ z, cs'[o + i]? = some (.int .i64 z)) ∧ BlkI wr g cs' ∧ OverW g o (o + cap) w wr ∧ Hid (∀ i : Nat, (∃ z, cs[i]? = some (.int .i64 z)) → ∃ z, cs'[i]? = some (.int .i64 z)))
    (fun t _ => cap - (intOf t).toNat)
  case atStart => exact ⟨0, cs, by omega, rfl, hint, hblk, OverW.refl .., fun i h => h⟩
  case round =>
    obtain ⟨k, cs', hk, rfl, hi, hbk, hov, hin⟩ := hrel
    clear hint hblk
    by_cases hlt : k < cap
    · obtain ⟨z, hz⟩ := hi.out k hlt
      have hcell : wr.cell? ⟨g, o + k, none⟩ = some (.int .i64 z) := by rw [hbk.cell]; exact hz
      have hfr := hbk.frozen (o + k)
      go_wp2
      go_roundw
      case rel =>
        have hlt2 := (List.getElem?_eq_some_iff.1 hz).1
        refine ⟨k + 1, _, by omega, by go_num, ?_, hbk.set (o + k) _, hov.set hbk (by omega) (by omega) _, ?_⟩
        · intro i hic
          by_cases hik : i = k
          · subst hik
            rw [List.getElem?_set_self hlt2]
            exact ⟨_, rfl⟩
          · rw [List.getElem?_set_ne (by omega)]
            exact hi.out i hic
        · intro i h
          by_cases hik : i = o + k
          · subst hik
            rw [List.getElem?_set_self hlt2]
            exact ⟨_, rfl⟩
          · rw [List.getElem?_set_ne (by omega)]
            exact hin.out i h
      case measure => simp [intOf]; omega
    · go_wp2
      go_end0
      exact ⟨rfl, hov, cs', hbk, hin.out⟩
set_option maxRecDepth 100000 in
theorem overInts_none (b : Option Addr) (w : World) : Calls Try.prog 20 #[.slice b 0 0] w fun e w' => e = .returned (.tuple #[]) ∧ w' = w := by
  have hs1 := fun w => runI_slice_to w b 0 0 0 0 rfl (Nat.le_refl _)
  go_enter Try.func20, Try.ntmps20
  go_wp2
  go_loopw [3] (fun t wr => t = .int .i64 0 ∧ wr = w) (fun _ _ => 0)
  case atStart => exact ⟨rfl, rfl⟩
  case round =>
    obtain ⟨rfl, rfl⟩ := hrel
    go_wp2
    go_end0
    exact ⟨rfl, rfl⟩
theorem over_z {D : Nat → Prop} {w : World} {b : Option Addr} {len c : Nat} (h : WrZ D w b c) (hl : len ≤ c) : Calls Try.prog 20 #[.slice b len c] w fun e w' => e = .returned (.tuple #[]) ∧ OvC b c w w' := by
  obtain ⟨hm, rfl | ⟨g, o, cs, rfl, hD, hB, hi⟩⟩ := h
  · obtain rfl : len = 0 := by omega
    exact (overInts_none b w).mono fun e w' ⟨h1, h2⟩ => ⟨h1, by rw [h2]; exact OvC.none b w⟩
  · refine (overInts_max g o len c cs w hB hi hm hl).mono fun e w' ⟨h1, h2, cs', h3, h4⟩ => ⟨h1, h2.os, h2.tape, h2.output, h2.size, ?_, ?_, ?_⟩
    · rintro k (rfl | hk)
      · by_cases hkg : k = g
        · subst hkg
          have e : cs' = cs := by
            apply List.ext_getElem?
            intro i
            rw [← h3.cell, ← hB.cell]
            exact h2.cell i (by omega)
          unfold BlkI at h3 hB
          rw [h3, hB, e]
        · exact h2.block k hkg
      · exact h2.block k fun e => hk o (by rw [e])
    · rintro g' o' he i hi
      cases he
      exact h2.cell i hi
    · intro g' ds hd
      by_cases hg : g' = g
      · subst hg
        have e : ds = cs := by
          apply List.ext_getElem?
          intro i
          rw [← hd.cell, ← hB.cell]
        rw [e]
        exact ⟨cs', h3, h4⟩
      · refine ⟨ds, ?_, fun i h => h⟩
        unfold BlkI
        rw [h2.block g' hg]
        exact hd
theorem WrZ.over {D : Nat → Prop} {w w' : World} {b b2 : Option Addr} {c c2 : Nat} (h : WrZ D w b2 c2) (ho : OvC b c w w') : WrZ D w' b2 c2 := by
  obtain ⟨hm, h0 | ⟨g, o, cs, e, hD, hB, hi⟩⟩ := h
  · exact ⟨hm, .inl h0⟩
  · obtain ⟨cs', h1, h2⟩ := ho.ints g cs hB
    exact ⟨hm, .inr ⟨g, o, cs', e, hD, h1, fun i h => h2 _ (hi i h)⟩⟩
theorem WrZ.keep {D : Nat → Prop} {w w' : World} {b : Option Addr} {c : Nat} (h : WrZ D w b c) (hk : ∀ k, D k → w'.heap[k]? = w.heap[k]?) : WrZ D w' b c := by
  obtain ⟨hm, h0 | ⟨g, o, cs, e, hD, hB, hi⟩⟩ := h
  · exact ⟨hm, .inl h0⟩
  · exact ⟨hm, .inr ⟨g, o, cs, e, hD, by unfold BlkI; rw [hk g hD]; exact hB, hi⟩⟩
theorem WrZ.lt {D : Nat → Prop} {w : World} {b : Option Addr} {c : Nat} (h : WrZ D w b c) : WrZ (fun k => D k ∧ k < w.heap.size) w b c := by
  obtain ⟨hm, h0 | ⟨g, o, cs, e, hD, hB, hi⟩⟩ := h
  · exact ⟨hm, .inl h0⟩
  · refine ⟨hm, .inr ⟨g, o, cs, e, ⟨hD, ?_⟩, hB, hi⟩⟩
    by_cases h : g < w.heap.size
    · exact h
    · unfold BlkI at hB
      rw [Array.getElem?_eq_none (by omega)] at hB
      cases hB
/-- All but the blocks of D stand. -/
theorem OvC.stands {D : Nat → Prop} {w w' : World} {b : Option Addr} {c : Nat} (h : OvC b c w w') (hz : WrZ D w b c) (k : Nat) (hk : ¬ D k) : w'.heap[k]? = w.heap[k]? := by
  obtain ⟨hm, h0 | ⟨g, o, cs, e, hD, hB, hi⟩⟩ := hz
  · exact h.block k (.inl h0)
  · refine h.block k (.inr fun o' he => hk ?_)
    rw [e] at he
    cases he
    exact hD
theorem OvC.below {D : Nat → Prop} {B : Nat} {w w' : World} {b : Option Addr} {c : Nat} (h : OvC b c w w') (hz : WrZ D w b c) (hD : ∀ k, D k → B ≤ k) : Below B w w' :=
  ⟨h.os, h.tape, h.output, by rw [h.size]; exact Nat.le_refl _, fun k hk => h.stands hz k fun hd => by have := hD k hd; omega⟩
/-- The room of the one is no room of the other. -/
def Apart (b : Option Addr) (c : Nat) (b2 : Option Addr) (c2 : Nat) : Prop := c = 0 ∨ ∀ g o o2, b = some ⟨g, o, none⟩ → b2 = some ⟨g, o2, none⟩ → o + c ≤ o2 ∨ o2 + c2 ≤ o
theorem RowI.keep {w w' : World} {b : Option Addr} {zs : List Int} (h : RowI w b zs) (hk : zs ≠ [] → ∀ g o, b = some ⟨g, o, none⟩ → w'.heap[g]? = w.heap[g]?) : RowI w' b zs := by
  by_cases h0 : zs = []
  · exact .inl h0
  · obtain h1 | ⟨g, o, e, hr⟩ := h
    · exact .inl h1
    · exact .inr ⟨g, o, e, fun i z hz => by rw [cell_same (hk h0 g o e)]; exact hr i z hz⟩
theorem RowI.over {w w' : World} {b b2 : Option Addr} {c c2 : Nat} {zs : List Int} (h : RowI w b2 zs) (ho : OvC b c w w') (hl : zs.length ≤ c2) (ha : Apart b c b2 c2) : RowI w' b2 zs := by
  obtain h0 | ⟨g, o2, e, hr⟩ := h
  · exact .inl h0
  · refine .inr ⟨g, o2, e, fun i z hz => ?_⟩
    rw [← hr i z hz]
    by_cases hb : c = 0 ∨ ∀ o, b ≠ some ⟨g, o, none⟩
    · exact cell_same (ho.block g hb) _
    · have hc : c ≠ 0 := fun h => hb (.inl h)
      have hn : ¬ ∀ o, b ≠ some ⟨g, o, none⟩ := fun h => hb (.inr h)
      obtain ⟨o, hbo⟩ : ∃ o, b = some ⟨g, o, none⟩ := by
        by_cases hx : ∃ o, b = some ⟨g, o, none⟩
        · exact hx
        · exact absurd (fun o he => hx ⟨o, he⟩) hn
      have hi := (List.getElem?_eq_some_iff.1 hz).1
      refine ho.cell g o hbo _ ?_
      obtain h1 | h1 := ha
      · exact absurd h1 hc
      · have := h1 g o o2 hbo e
        omega
/-- A list of rows of numbers, each with its room, from row k on. -/
structure LvR (D : Nat → Prop) (k : Nat) (w : World) (a : Option Addr) (zss : List (List Int)) (b : Nat → Option Addr) (c : Nat → Nat) : Prop where
  out : zss = [] ∨ ∃ g o, a = some ⟨g, o, none⟩ ∧ D g ∧ (∀ i, i < zss.length → ∀ o', b i ≠ some ⟨g, o', none⟩) ∧ ∀ i zs, zss[i]? = some zs → w.cell? ⟨g, o + i, none⟩ = some (.slice (b i) zs.length (c i))
  row : ∀ i zs, k ≤ i → zss[i]? = some zs → RowI w (b i) zs ∧ (zs ≠ [] → ∀ g o, b i = some ⟨g, o, none⟩ → D g)
  len : ∀ i zs, zss[i]? = some zs → zs.length ≤ c i ∧ zs.length ≤ 4611686018427387904
  wr : ∀ i, i < zss.length → WrZ D w (b i) (c i)
  apart : ∀ i j, i < zss.length → j < zss.length → i ≠ j → Apart (b i) (c i) (b j) (c j)
theorem LvR.rows {D : Nat → Prop} {w : World} {a : Option Addr} {zss : List (List Int)} {b : Nat → Option Addr} {c : Nat → Nat} (h : LvR D 0 w a zss b c) : RowII w a zss := by
  obtain h0 | ⟨g, o, e, hg, hne, hc⟩ := h.out
  · exact .inl h0
  · exact .inr ⟨g, o, e, fun i zs hz => ⟨b i, c i, hc i zs hz, (h.row i zs (Nat.zero_le _) hz).1, (h.len i zs hz).1, (h.len i zs hz).2⟩⟩
theorem LvR.keep {D : Nat → Prop} {k : Nat} {w w' : World} {a : Option Addr} {zss : List (List Int)} {b : Nat → Option Addr} {c : Nat → Nat} (h : LvR D k w a zss b c) (hk : ∀ k, D k → w'.heap[k]? = w.heap[k]?) : LvR D k w' a zss b c := by
  refine ⟨?_, fun i zs hi hz => ⟨(h.row i zs hi hz).1.keep fun h0 g o e => hk g ((h.row i zs hi hz).2 h0 g o e), (h.row i zs hi hz).2⟩, h.len, fun i hi => (h.wr i hi).keep hk, h.apart⟩
  obtain h0 | ⟨g, o, e, hg, hne, hc⟩ := h.out
  · exact .inl h0
  · exact .inr ⟨g, o, e, hg, hne, fun i zs hz => by rw [cell_same (hk g hg)]; exact hc i zs hz⟩
theorem LvR.step {D : Nat → Prop} {k : Nat} {w w' : World} {a : Option Addr} {zss : List (List Int)} {b : Nat → Option Addr} {c : Nat → Nat} (h : LvR D k w a zss b c) (hk : k < zss.length) (ho : OvC (b k) (c k) w w') : LvR D (k + 1) w' a zss b c := by
  refine ⟨?_, fun i zs hi hz => ⟨?_, (h.row i zs (by omega) hz).2⟩, h.len, fun i hi => (h.wr i hi).over ho, h.apart⟩
  · obtain h0 | ⟨g, o, e, hg, hne, hc⟩ := h.out
    · exact .inl h0
    · exact .inr ⟨g, o, e, hg, hne, fun i zs hz => by rw [cell_same (ho.block g (.inr (hne k hk)))]; exact hc i zs hz⟩
  · have hi2 := (List.getElem?_eq_some_iff.1 hz).1
    exact (h.row i zs (by omega) hz).1.over ho (h.len i zs hz).1 (h.apart k i hk hi2 (by omega))
theorem LvR.at {D : Nat → Prop} {k : Nat} {w : World} {a : Option Addr} {zss : List (List Int)} {b : Nat → Option Addr} {c : Nat → Nat} (h : LvR D k w a zss b c) (i : Nat) (zs : List Int) (hz : zss[i]? = some zs) : ∃ g o, a = some ⟨g, o, none⟩ ∧ w.cell? ⟨g, o + i, none⟩ = some (.slice (b i) zs.length (c i)) := by
  obtain h0 | ⟨g, o, e, hg, hne, hc⟩ := h.out
  · rw [h0] at hz
    simp at hz
  · exact ⟨g, o, e, hc i zs hz⟩
/-- A list of rows of numbers that lie in blocks of D. -/
def RowID (D : Nat → Prop) (w : World) (a : Option Addr) (zss : List (List Int)) : Prop := zss = [] ∨ ∃ g o, a = some ⟨g, o, none⟩ ∧ D g ∧ ∀ i zs, zss[i]? = some zs → ∃ b c, w.cell? ⟨g, o + i, none⟩ = some (.slice b zs.length c) ∧ RowI w b zs ∧ zs.length ≤ c ∧ zs.length ≤ 4611686018427387904 ∧ (zs ≠ [] → ∀ k o, b = some ⟨k, o, none⟩ → D k)
theorem RowID.rows {D : Nat → Prop} {w : World} {a : Option Addr} {zss : List (List Int)} (h : RowID D w a zss) : RowII w a zss := by
  obtain h0 | ⟨g, o, e, hg, hc⟩ := h
  · exact .inl h0
  · exact .inr ⟨g, o, e, fun i zs hz => by
      obtain ⟨b, c, h1, h2, h3, h4, -⟩ := hc i zs hz
      exact ⟨b, c, h1, h2, h3, h4⟩⟩
theorem RowID.keep {D : Nat → Prop} {w w' : World} {a : Option Addr} {zss : List (List Int)} (h : RowID D w a zss) (hk : ∀ k, D k → w'.heap[k]? = w.heap[k]?) : RowID D w' a zss := by
  obtain h0 | ⟨g, o, e, hg, hc⟩ := h
  · exact .inl h0
  · exact .inr ⟨g, o, e, hg, fun i zs hz => by
      obtain ⟨b, c, h1, h2, h3, h4, h5⟩ := hc i zs hz
      exact ⟨b, c, by rw [cell_same (hk g hg)]; exact h1, h2.keep fun h0 g o e => hk g (h5 h0 g o e), h3, h4, h5⟩⟩
end Go.Proofs.Ytbamocalhojmeaa
