/- Joined texts of the proof. -/
import Derived.Test.YtbamocalhojmeaaJ16

/- The given answer's At, and Least's errors. -/
namespace Go.Proofs.Ytbamocalhojmeaa
open Go.RowKit
set_option linter.unusedVariables false
attribute [local go_sem ↓] Go.wp_at_zero Go.wp_at_succ

theorem refLeast_bad (es : List Ev) (n : Int) (a : Option Addr) (c : Nat) (w : World) (hE : RowEv w a es) (hl : es.length ≤ 4611686018427387904) (hc : es.length ≤ c) (hw : wrongZ es n ≠ 0) :
    Calls Try.prog 11 #[.slice a es.length c, .int .i64 n] w fun r w' => r = .returned (.tuple #[.slice none 0 0, .int .i64 (wrongZ es n)]) ∧ Below w.heap.size w w' := by
  have HW := refWrongU_any es n a c w hE hl hc
  obtain ⟨R, hR⟩ : ∃ R, R = wrongZ es n := ⟨_, rfl⟩
  rw [← hR] at HW hw ⊢
  have hw2 : (R == 0) = false := by rw [beq_eq_false_iff_ne]; exact hw
  clear hR
  go_enter Try.func11, Try.ntmps11
  go_wp2_with (first | (go_at_call 36; refine HW.mono ?_; rintro _ w1 ⟨rfl, hw⟩; obtain rfl : w = w1 := hw.symm; clear hw))
  go_ret2
  exact ⟨rfl, Below.refl _ _⟩
/-- Events in an order. -/
def evsAt (ev : Nat → Ev) (out : List Nat) : List Ev := out.map ev
theorem leastN_lt {ev : Nat → Ev} {m : Nat} : ∀ s, s ≤ m → ∀ x ∈ leastN ev m s, x < m
  | 0, _, x, hx => by cases hx
  | s + 1, hs, x, hx => by
    obtain ⟨b, h1, h2, h3⟩ := best_is (ev := ev) (n := m) (s := s) (by omega)
    rw [leastN_next h1] at hx
    rcases List.mem_append.1 hx with h | h
    · exact leastN_lt s (by omega) x h
    · simp at h
      omega

set_option maxRecDepth 100000 in
set_option maxHeartbeats 3200000 in
theorem refAt_any (es : List Ev) (out : List Nat) (a b : Option Addr) (c d : Nat) (w : World) (hE : RowEv w a es) (hr : RowI w b (natI out)) (hlt : ∀ x ∈ out, x < es.length) (hc : es.length ≤ c) (hd : out.length ≤ d) (hm : es.length ≤ 1048576) (hm2 : out.length ≤ 1048576) :
    Calls Try.prog 45 #[.slice a es.length c, .slice b out.length d] w fun r w' => ∃ v, r = .returned v ∧ OwnE w.heap.size w' v (evsAt (evAt es) out) ∧ Below w.heap.size w w' := by
  obtain ⟨ev, hev⟩ : ∃ ev, Hid (ev = evAt es) := ⟨_, (rfl : _ = evAt _)⟩
  obtain ⟨m, hmm⟩ : ∃ m, Hid (m = es.length) := ⟨_, (rfl : _ = es.length)⟩
  obtain ⟨N, hN⟩ : ∃ N, Hid (N = out.length) := ⟨_, (rfl : _ = out.length)⟩
  have HR : Hid (RowEv w a es ∧ RowI w b (natI out) ∧ ∀ x ∈ out, x < m) := ⟨hE, hr, by rw [hmm.out]; exact hlt⟩
  rw [← hmm.out] at hc hm ⊢
  rw [← hN.out] at hd hm2 ⊢
  rw [← hev.out]
  clear hE hr hlt
  go_enter Try.func45, Try.ntmps45
  go_wp2_with fail
  go_loopw [5, 6] (fun v t wr => ∃ k : Nat, k ≤ N ∧ t = .int .i64 k ∧ Hid (OwnE w.heap.size wr v (evsAt ev (out.take k))) ∧ Hid (Below w.heap.size w wr)) (fun _ t _ => N - (intOf t).toNat)
  case atStart => exact ⟨0, Nat.zero_le _, rfl, World.ownsRow_nil _ _ _ _, Below.refl _ _⟩
  case round =>
    obtain ⟨k, hk, rfl, hown, hB⟩ := hrel
    by_cases hkN : k < N
    · obtain ⟨x, hx⟩ : ∃ x, out[k]? = some x := ⟨out[k]'(by rw [← hN.out]; exact hkN), by rw [List.getElem?_eq_getElem]⟩
      have hxm := HR.out.2.2 x (List.mem_of_getElem? hx)
      obtain ⟨gb, ob, rfl, q1⟩ := (HR.out.2.1.below hB.out).at k (x : Int) (by simp [natI, hx])
      obtain ⟨e, he⟩ : ∃ e, es[x]? = some e := ⟨es[x]'(by rw [← hmm.out]; exact hxm), by rw [List.getElem?_eq_getElem]⟩
      obtain ⟨ga, oa, rfl, hre⟩ := (HR.out.1.below hB.out).at x e he
      obtain ⟨r1, r2, r3⟩ := range_cells hre
      have hevx : ev x = e := by rw [hev.out]; exact evAt_eq he
      have HTN : Hid (evsAt ev (out.take (k + 1)) = evsAt ev (out.take k) ++ [e]) := by
        show _ = _
        rw [List.take_add_one, hx]
        simp [evsAt, hevx]
      have k1 : (k : Int) < (N : Int) := by omega
      have k2 : (x : Int) < (m : Int) := by omega
      have hlo : (evsAt ev (out.take k)).length + 1 ≤ 1048576 := by
        unfold evsAt
        rw [List.length_map]
        have := List.length_take_le k out
        omega
      have hsz := hB.out.size
      obtain ⟨xt, xk, xo⟩ := e
      dsimp only at r1 r2 r3
      clear hx he hre hevx hxm
      go_wp2_with (first | (at_builtin; refine appEn (.tmp 13) (.tmp 21) [⟨xt, xk, xo⟩] 1 w.heap.size _ _ rfl rfl rfl rfl rfl hown.out hlo hsz ?_; intro v6 w6 hown6 hb6))
      go_roundw
      case rel => exact ⟨k + 1, by omega, by go_num, (show OwnE _ _ _ _ by rw [HTN.out]; exact hown6), hB.out.trans hb6⟩
      case measure => simp [intOf]; omega
    · have HF : Hid (evsAt ev (out.take k) = evsAt ev out) := by show _ = _; rw [List.take_of_length_le (by rw [← hN.out]; omega)]
      have k1 : ¬ (k : Int) < (N : Int) := by omega
      go_wp2_with fail
      go_ret
      exact ⟨_, rfl, (by rw [← HF.out]; exact hown.out), hB.out⟩
end Go.Proofs.Ytbamocalhojmeaa

/- The given answer's Equivalent. -/
namespace Go.Proofs.Ytbamocalhojmeaa
open Go.RowKit
set_option linter.unusedVariables false
attribute [local go_sem ↓] Go.wp_at_zero Go.wp_at_succ

/-- A trace's least form, as events. -/
def leastE (es : List Ev) : List Ev := evsAt (evAt es) (leastL (evAt es) es.length)
theorem leastE_length (es : List Ev) : (leastE es).length = es.length := by simp [leastE, evsAt, leastL, leastN_length]
def equivZ (es fs : List Ev) (n : Int) : Bool := if wrongZ es n = 0 ∧ wrongZ fs n = 0 then sameEv (leastE es) (leastE fs) else false
def equivW (es fs : List Ev) (n : Int) : Int := if wrongZ es n = 0 then wrongZ fs n else wrongZ es n

set_option maxRecDepth 100000 in
set_option maxHeartbeats 6400000 in
theorem refEquiv_any (es fs : List Ev) (n : Int) (a b : Option Addr) (c d : Nat) (w : World) (hE : RowEv w a es) (hF : RowEv w b fs) (hc : es.length ≤ c) (hd : fs.length ≤ d) (hl : es.length ≤ 4611686018427387904) (hl2 : fs.length ≤ 4611686018427387904) :
    Calls Try.prog 15 #[.slice a es.length c, .slice b fs.length d, .int .i64 n] w fun r w' => r = .returned (.tuple #[.bool (equivZ es fs n), .int .i64 (equivW es fs n)]) ∧ Below w.heap.size w w' := by
  have HB : Hid (∀ u v, Below w.heap.size w u → Below u.heap.size u v → Below w.heap.size w v) := fun u v h1 h2 => h1.trans (h2.mono h1.size)
  by_cases hw : wrongZ es n = 0
  · by_cases hv : wrongZ fs n = 0
    · have ho : equivZ es fs n = sameEv (leastE es) (leastE fs) := by unfold equivZ; rw [if_pos ⟨hw, hv⟩]
      have hx : equivW es fs n = 0 := by unfold equivW; rw [if_pos hw, hv]
      rw [ho, hx]
      have b1 := (wrongZ_ok hw).2.2.1
      have b2 := (wrongZ_ok hv).2.2.1
      have LL : ∀ (es : List Ev), (leastL (evAt es) es.length).length = es.length := fun es => by simp [leastL, leastN_length]
      obtain ⟨R, hR⟩ : ∃ R, Hid (R = sameEv (leastE es) (leastE fs)) := ⟨_, (rfl : _ = sameEv _ _)⟩
      obtain ⟨m, hm⟩ : ∃ m, Hid (m = es.length) := ⟨_, (rfl : _ = es.length)⟩
      obtain ⟨k, hk⟩ : ∃ m, Hid (m = fs.length) := ⟨_, (rfl : _ = fs.length)⟩
      have K1 : Hid (Calls Try.prog 11 #[.slice a m c, .int .i64 n] w fun r w' => ∃ ap cp, r = .returned (.tuple #[.slice ap m cp, .int .i64 0]) ∧ m ≤ cp ∧ RowI w' ap (natI (leastL (evAt es) es.length)) ∧ Below w.heap.size w w') := by
        rw [hm.out]
        refine (refLeast_ok es n a c w hE hc hw).mono fun r w' ⟨v, d1, d2, d3⟩ => ?_
        obtain ⟨ap, cp, rfl, f2, f3⟩ := d2.row
        rw [natI_length, LL] at d1 f2
        exact ⟨ap, cp, d1, f2, f3, d3⟩
      have K2 : Hid (∀ u, Below w.heap.size w u → Calls Try.prog 11 #[.slice b k d, .int .i64 n] u fun r w' => ∃ ap cp, r = .returned (.tuple #[.slice ap k cp, .int .i64 0]) ∧ k ≤ cp ∧ RowI w' ap (natI (leastL (evAt fs) fs.length)) ∧ Below u.heap.size u w') := fun u hu => by
        rw [hk.out]
        refine (refLeast_ok fs n b d u (hF.below hu) hd hv).mono fun r w' ⟨v, d1, d2, d3⟩ => ?_
        obtain ⟨ap, cp, rfl, f2, f3⟩ := d2.row
        rw [natI_length, LL] at d1 f2
        exact ⟨ap, cp, d1, f2, f3, d3⟩
      have K3 : Hid (∀ u ap cp, Below w.heap.size w u → m ≤ cp → RowI u ap (natI (leastL (evAt es) es.length)) → Calls Try.prog 45 #[.slice a m c, .slice ap m cp] u fun r w' => ∃ ae ce, r = .returned (.slice ae m ce) ∧ m ≤ ce ∧ RowEv w' ae (leastE es) ∧ Below u.heap.size u w') := fun u ap cp hu h1 h2 => by
        have := refAt_any es (leastL (evAt es) es.length) a ap c cp u (hE.below hu) h2 (leastN_lt _ (Nat.le_refl _)) hc (by rw [LL, ← hm.out]; exact h1) (by omega) (by rw [LL]; omega)
        rw [LL, ← hm.out] at this
        refine this.mono fun r w' ⟨v, d1, d2, d3⟩ => ?_
        obtain ⟨ae, ce, rfl, f2, f3⟩ := d2.row
        have hlen : (evsAt (evAt es) (leastL (evAt es) m)).length = m := by rw [hm.out]; exact leastE_length es
        rw [hlen] at d1 f2
        rw [hm.out] at f3
        exact ⟨ae, ce, d1, f2, f3, d3⟩
      have K4 : Hid (∀ u ap cp, Below w.heap.size w u → k ≤ cp → RowI u ap (natI (leastL (evAt fs) fs.length)) → Calls Try.prog 45 #[.slice b k d, .slice ap k cp] u fun r w' => ∃ ae ce, r = .returned (.slice ae k ce) ∧ k ≤ ce ∧ RowEv w' ae (leastE fs) ∧ Below u.heap.size u w') := fun u ap cp hu h1 h2 => by
        have := refAt_any fs (leastL (evAt fs) fs.length) b ap d cp u (hF.below hu) h2 (leastN_lt _ (Nat.le_refl _)) hd (by rw [LL, ← hk.out]; exact h1) (by omega) (by rw [LL]; omega)
        rw [LL, ← hk.out] at this
        refine this.mono fun r w' ⟨v, d1, d2, d3⟩ => ?_
        obtain ⟨ae, ce, rfl, f2, f3⟩ := d2.row
        have hlen : (evsAt (evAt fs) (leastL (evAt fs) k)).length = k := by rw [hk.out]; exact leastE_length fs
        rw [hlen] at d1 f2
        rw [hk.out] at f3
        exact ⟨ae, ce, d1, f2, f3, d3⟩
      have K5 : Hid (∀ u a1 a2 c1 c2, RowEv u a1 (leastE es) → RowEv u a2 (leastE fs) → m ≤ c1 → k ≤ c2 → Calls Try.prog 28 #[.slice a1 m c1, .slice a2 k c2] u fun r w' => r = .returned (.bool R) ∧ Below u.heap.size u w') := fun u a1 a2 c1 c2 h1 h2 h3 h4 => by
        have := sameEvents_any (leastE es) (leastE fs) a1 a2 c1 c2 u h1 h2 (by rw [leastE_length]; omega) (by rw [leastE_length]; omega) (by rw [leastE_length, ← hm.out]; exact h3) (by rw [leastE_length, ← hk.out]; exact h4)
        rwa [leastE_length, leastE_length, ← hm.out, ← hk.out, ← hR.out] at this
      rw [← hm.out, ← hk.out, ← hR.out]
      clear hE hF hc hd hl hl2 ho hx hw hv b1 b2 LL
      go_enter Try.func15, Try.ntmps15
      go_wp2_with (first | (go_at_call 11; refine K1.out.mono ?_; rintro _ w1 ⟨x1, y1, rfl, hy1, hr1, hb1⟩; refine Hid.out ?_))
      refine hidU ?_
      have B1 : Hid (Below w.heap.size w w1) := hb1
      have R1 : Hid (RowI w1 x1 (natI (leastL (evAt es) es.length))) := hr1
      clear hb1 hr1 K1
      go_wp2_with (first | (go_at_call 11; refine (K2.out _ B1.out).mono ?_; rintro _ w2 ⟨x2, y2, rfl, hy2, hr2, hb2⟩; refine Hid.out ?_))
      refine hidU ?_
      have B2 : Hid (Below w.heap.size w w2) := HB.out _ _ B1.out hb2
      have R12 : Hid (RowI w2 x1 (natI (leastL (evAt es) es.length))) := R1.out.below hb2
      have R2 : Hid (RowI w2 x2 (natI (leastL (evAt fs) fs.length))) := hr2
      clear hb2 hr2 K2 B1 R1
      go_wp2_with (first | (go_at_call 45; refine (K3.out _ _ _ B2.out hy1 R12.out).mono ?_; rintro _ w3 ⟨x3, y3, rfl, hy3, hr3, hb3⟩; refine Hid.out ?_))
      refine hidU ?_
      have B3 : Hid (Below w.heap.size w w3) := HB.out _ _ B2.out hb3
      have R23 : Hid (RowI w3 x2 (natI (leastL (evAt fs) fs.length))) := R2.out.below hb3
      have E3 : Hid (RowEv w3 x3 (leastE es)) := hr3
      clear hb3 hr3 K3 B2 R12 R2
      go_wp2_with (first | (go_at_call 45; refine (K4.out _ _ _ B3.out hy2 R23.out).mono ?_; rintro _ w4 ⟨x4, y4, rfl, hy4, hr4, hb4⟩; refine Hid.out ?_))
      refine hidU ?_
      have B4 : Hid (Below w.heap.size w w4) := HB.out _ _ B3.out hb4
      have E34 : Hid (RowEv w4 x3 (leastE es)) := E3.out.below hb4
      have E4 : Hid (RowEv w4 x4 (leastE fs)) := hr4
      clear hb4 hr4 K4 B3 R23 E3
      go_wp2_with (first | (go_at_call 28; refine (K5.out _ _ _ _ _ E34.out E4.out hy3 hy4).mono ?_; rintro _ w5 ⟨rfl, hb5⟩))
      go_ret2
      exact ⟨rfl, HB.out _ _ B4.out hb5⟩
    · have ho : equivZ es fs n = false := by unfold equivZ; rw [if_neg (fun h => hv h.2)]
      have hx : equivW es fs n = wrongZ fs n := by unfold equivW; rw [if_pos hw]
      rw [ho, hx]
      obtain ⟨R, hR⟩ : ∃ R, Hid (R = wrongZ fs n) := ⟨_, (rfl : _ = wrongZ _ _)⟩
      have K1 : Hid (Calls Try.prog 11 #[.slice a es.length c, .int .i64 n] w fun r w' => ∃ v, r = .returned (.tuple #[v, .int .i64 0]) ∧ Below w.heap.size w w') :=
        (refLeast_ok es n a c w hE hc hw).mono fun r w' ⟨v, d1, d2, d3⟩ => ⟨v, d1, d3⟩
      have K2 : Hid (∀ u, Below w.heap.size w u → Calls Try.prog 11 #[.slice b fs.length d, .int .i64 n] u fun r w' => r = .returned (.tuple #[.slice none 0 0, .int .i64 R]) ∧ Below u.heap.size u w') := fun u hu => by
        rw [hR.out]
        exact refLeast_bad fs n b d u (hF.below hu) hl2 hd hv
      rw [← hR.out] at hv ⊢
      have hv2 : (R == 0) = false := by rw [beq_eq_false_iff_ne]; exact hv
      obtain ⟨m, hm⟩ : ∃ m, Hid (m = es.length) := ⟨_, (rfl : _ = es.length)⟩
      obtain ⟨k, hk⟩ : ∃ m, Hid (m = fs.length) := ⟨_, (rfl : _ = fs.length)⟩
      rw [← hm.out] at K1
      rw [← hk.out] at K2
      rw [← hm.out, ← hk.out]
      clear hE hF hc hd hl hl2 ho hx hw
      go_enter Try.func15, Try.ntmps15
      go_wp2_with (first | (go_at_call 11; refine K1.out.mono ?_; rintro _ w1 ⟨x1, rfl, hb1⟩; refine Hid.out ?_))
      refine hidU ?_
      have B1 : Hid (Below w.heap.size w w1) := hb1
      clear hb1 K1
      go_wp2_with (first | (go_at_call 11; refine (K2.out _ B1.out).mono ?_; rintro _ w2 ⟨rfl, hb2⟩))
      go_ret2
      exact ⟨rfl, HB.out _ _ B1.out hb2⟩
  · have ho : equivZ es fs n = false := by unfold equivZ; rw [if_neg (fun h => hw h.1)]
    have hx : equivW es fs n = wrongZ es n := by unfold equivW; rw [if_neg hw]
    rw [ho, hx]
    have K1 := refLeast_bad es n a c w hE hl hc hw
    obtain ⟨R, hR⟩ : ∃ R, R = wrongZ es n := ⟨_, rfl⟩
    rw [← hR] at K1 hw ⊢
    have hv2 : (R == 0) = false := by rw [beq_eq_false_iff_ne]; exact hw
    clear hE hF hc hd hl hl2 ho hx hR
    go_enter Try.func15, Try.ntmps15
    go_wp2_with (first | (go_at_call 11; refine K1.mono ?_; rintro _ w1 ⟨rfl, hb1⟩))
    go_ret2
    exact ⟨rfl, hb1⟩
end Go.Proofs.Ytbamocalhojmeaa

/- Levels (mathematics), and rows of rows of the call's own. -/
namespace Go.Proofs.Ytbamocalhojmeaa
open Go.RowKit
set_option linter.unusedVariables false

/-- One more than the greatest level of those that happen ahead, as far as k. -/
def lvTo (f : Nat → Nat) (ev : Nat → Ev) (j : Nat) : Nat → Nat
  | 0 => 0
  | k + 1 => if hbB ev j k then max (lvTo f ev j k) (f k + 1) else lvTo f ev j k
theorem lvTo_congr {f g : Nat → Nat} {ev : Nat → Ev} {j : Nat} : ∀ k, (∀ i, i < k → f i = g i) → lvTo f ev j k = lvTo g ev j k
  | 0, _ => rfl
  | k + 1, h => by simp only [lvTo]; rw [lvTo_congr k fun i hi => h i (by omega), h k (by omega)]
def levL (ev : Nat → Ev) : Nat → List Nat
  | 0 => []
  | m + 1 => levL ev m ++ [lvTo (fun i => (levL ev m).getD i 0) ev m m]
theorem levL_length (ev : Nat → Ev) : ∀ m, (levL ev m).length = m
  | 0 => rfl
  | m + 1 => by simp [levL, levL_length ev m]
def lev (ev : Nat → Ev) (j : Nat) : Nat := (levL ev (j + 1)).getD j 0
theorem levL_at (ev : Nat → Ev) : ∀ m j, j < m → (levL ev m).getD j 0 = lev ev j
  | 0, j, h => by omega
  | m + 1, j, h => by
    rcases Nat.lt_or_ge j m with h1 | h1
    · rw [← levL_at ev m j h1, levL]
      simp [List.getD, List.getElem?_append_left (show j < (levL ev m).length by rw [levL_length]; exact h1)]
    · obtain rfl : j = m := by omega
      rfl
theorem lev_eq (ev : Nat → Ev) (j : Nat) : lev ev j = lvTo (lev ev) ev j j := by
  have : lev ev j = lvTo (fun i => (levL ev j).getD i 0) ev j j := by
    unfold lev
    rw [levL]
    simp [List.getD, levL_length]
  rw [this]
  exact lvTo_congr j fun i hi => levL_at ev j i hi
theorem lvTo_le {f : Nat → Nat} {ev : Nat → Ev} {j : Nat} : ∀ k, (∀ i, i < k → f i ≤ i) → lvTo f ev j k ≤ k
  | 0, _ => Nat.le_refl _
  | k + 1, h => by
    have h1 := lvTo_le (f := f) (ev := ev) (j := j) k fun i hi => h i (by omega)
    have h2 := h k (by omega)
    simp only [lvTo]
    split <;> omega
theorem lev_le (ev : Nat → Ev) (j : Nat) : lev ev j ≤ j := by
  induction j using Nat.strongRecOn with
  | _ j ih =>
    rw [lev_eq]
    exact lvTo_le j ih
/-- The levels while they are worked out: event j as far as i. -/
def curL (ev : Nat → Ev) (j i x : Nat) : Nat := if x < j then lev ev x else if x = j then lvTo (lev ev) ev j i else 0
theorem curL_next (ev : Nat → Ev) (j : Nat) : curL ev j j = curL ev (j + 1) 0 := by
  funext x
  unfold curL
  by_cases h1 : x < j
  · rw [if_pos h1, if_pos (by omega)]
  · by_cases h2 : x = j
    · subst h2
      rw [if_neg h1, if_pos rfl, if_pos (by omega), lev_eq]
    · rw [if_neg h1, if_neg h2, if_neg (by omega)]
      split <;> rfl
theorem curL_le (ev : Nat → Ev) (j i x : Nat) (hi : i ≤ j) : curL ev j i x ≤ x := by
  unfold curL
  split
  · exact lev_le ev x
  · split
    · rename_i h
      subst h
      exact Nat.le_trans (lvTo_le i fun k _ => lev_le ev k) hi
    · omega
def cellsN (m : Nat) (f : Nat → Nat) : List Value := (List.range m).map fun x => .int .i64 (f x : Nat)
theorem cellsN_length (m : Nat) (f : Nat → Nat) : (cellsN m f).length = m := by simp [cellsN]
theorem cellsN_at {m : Nat} {f : Nat → Nat} {x : Nat} (h : x < m) : (cellsN m f)[x]? = some (.int .i64 (f x : Nat)) := by simp [cellsN, h]
theorem cellsN_set {m : Nat} {f g : Nat → Nat} {k : Nat} (h : k < m) (h1 : ∀ x, x < m → x ≠ k → f x = g x) : (cellsN m f).set k (.int .i64 (g k : Nat)) = cellsN m g := by
  apply List.ext_getElem?
  intro x
  rcases Nat.lt_or_ge x m with hx | hx
  · by_cases hxk : x = k
    · subst hxk
      rw [List.getElem?_set_self (by rw [cellsN_length]; exact hx), cellsN_at hx]
    · rw [List.getElem?_set_ne (fun e => hxk e.symm), cellsN_at hx, cellsN_at hx, h1 x hx hxk]
  · rw [List.getElem?_eq_none (by rw [List.length_set, cellsN_length]; exact hx), List.getElem?_eq_none (by rw [cellsN_length]; exact hx)]
theorem curL_step {ev : Nat → Ev} {j i m : Nat} (hj : j < m) (hh : hbB ev j i = true) : (cellsN m (curL ev j i)).set j (.int .i64 ((max (curL ev j i j) (lev ev i + 1) : Nat) : Int)) = cellsN m (curL ev j (i + 1)) := by
  have e : max (curL ev j i j) (lev ev i + 1) = curL ev j (i + 1) j := by
    unfold curL
    rw [if_neg (Nat.lt_irrefl _), if_pos rfl, if_neg (Nat.lt_irrefl _), if_pos rfl, lvTo, if_pos hh]
  rw [e]
  refine cellsN_set hj fun x _ hx => ?_
  unfold curL
  split
  · rfl
  · first | rfl | (rw [if_neg hx]; done) | simp [hx]
theorem curL_skip {ev : Nat → Ev} {j i : Nat} (hh : hbB ev j i = false) : curL ev j (i + 1) = curL ev j i := by
  funext x
  unfold curL
  split
  · rfl
  · split
    · simp [lvTo, hh]
    · rfl
theorem cells_zero (ev : Nat → Ev) (m : Nat) : cellsN m (curL ev 0 0) = List.replicate m (.int .i64 0) := by
  apply List.ext_getElem?
  intro x
  rcases Nat.lt_or_ge x m with hx | hx
  · rw [cellsN_at hx, List.getElem?_replicate, if_pos hx]
    have : curL ev 0 0 x = 0 := by unfold curL; rw [if_neg (by omega)]; split <;> rfl
    rw [this]
    rfl
  · rw [List.getElem?_eq_none (by rw [cellsN_length]; exact hx), List.getElem?_eq_none (by simp; exact hx)]
/-- The greatest level below j. -/
def mostTo (ev : Nat → Ev) : Nat → Int
  | 0 => -1
  | j + 1 => max (mostTo ev j) (lev ev j : Int)
theorem mostTo_le (ev : Nat → Ev) : ∀ j, -1 ≤ mostTo ev j ∧ mostTo ev j < j
  | 0 => by simp [mostTo]
  | j + 1 => by
    have ⟨h1, h2⟩ := mostTo_le ev j
    have h3 := lev_le ev j
    simp only [mostTo]
    omega
/-- The numbers of a level's events of thread t, as far as j. -/
def lvRow (ev : Nat → Ev) (k t j : Nat) : List Nat := (List.range j).filter fun x => decide (lev ev x = k) && decide ((ev x).th = (t : Int))
theorem lvRow_yes {ev : Nat → Ev} {k t j : Nat} (h : lev ev j = k) (h2 : (ev j).th = (t : Int)) : lvRow ev k t (j + 1) = lvRow ev k t j ++ [j] := by simp [lvRow, List.range_succ, List.filter_append, h, h2]
theorem lvRow_no {ev : Nat → Ev} {k t j : Nat} (h : ¬ (lev ev j = k ∧ (ev j).th = (t : Int))) : lvRow ev k t (j + 1) = lvRow ev k t j := by
  simp only [lvRow, List.range_succ, List.filter_append]
  rw [show List.filter (fun x => decide (lev ev x = k) && decide ((ev x).th = (t : Int))) [j] = [] from ?_, List.append_nil]
  rw [List.filter_cons_of_neg, List.filter_nil]
  simpa using h
def lvRows (ev : Nat → Ev) (m k t : Nat) : List Nat := (List.range t).flatMap fun t => lvRow ev k t m
theorem lvRows_succ (ev : Nat → Ev) (m k t : Nat) : lvRows ev m k (t + 1) = lvRows ev m k t ++ lvRow ev k t m := by simp [lvRows, List.range_succ, List.flatMap_append]
theorem lvRow_length (ev : Nat → Ev) (k t j : Nat) : (lvRow ev k t j).length ≤ j := by
  have := List.length_filter_le (fun x => decide (lev ev x = k) && decide ((ev x).th = (t : Int))) (List.range j)
  rwa [List.length_range] at this
theorem lvRows_length (ev : Nat → Ev) (m k : Nat) : ∀ t, (lvRows ev m k t).length ≤ t * m
  | 0 => by simp [lvRows]
  | t + 1 => by
    rw [lvRows_succ, List.length_append, Nat.succ_mul]
    have := lvRows_length ev m k t
    have := lvRow_length ev k t m
    omega
def levelsL (ev : Nat → Ev) (m n k : Nat) : List (List Nat) := (List.range k).map fun x => lvRows ev m x n
theorem levelsL_succ (ev : Nat → Ev) (m n k : Nat) : levelsL ev m n (k + 1) = levelsL ev m n k ++ [lvRows ev m k n] := by simp [levelsL, List.range_succ]
/-- Rows of numbers of the call's own, by their values. -/
def RowsV (B : Nat) (w : World) (vs : List Value) (rows : List (List Nat)) : Prop := vs.length = rows.length ∧ ∀ (i : Nat) (v : Value) (r : List Nat), vs[i]? = some v → rows[i]? = some r → OwnI B w v (natI r)
theorem RowsV.below {B : Nat} {w w' : World} {vs : List Value} {rows : List (List Nat)} (h : RowsV B w vs rows) (hb : Below w.heap.size w w') : RowsV B w' vs rows := ⟨h.1, fun i v r h1 h2 => (h.2 i v r h1 h2).below hb⟩
theorem appR {ops : Array Oper} {rest : List Oper} {o : Oper} {a : Act} {Q : Exit → Act → World → Prop} {w0 : World} (s x : Operand) (z : Value) (base : Nat) (v : Value) (vs : List Value)
    (hgd : o.guard = none) (ho : o.op = .call { callee := .builtin .append, args := #[s, x], argTypes := #[32, 32] })
    (hs : a.eval s = v) (hx : a.eval x = .slice (some ⟨w0.heap.size, 0, none⟩) 1 1) (hz1c : z.oneCell' = true) (hown : OwnL base w0 v vs) (hlen : vs.length ≤ 1048576) (hbase : base ≤ w0.heap.size)
    (h : ∀ v' w', OwnL base w' v' (vs ++ [z]) → Below base w0 w' → (∀ B u r, OwnI B w0 u r → OwnI B w' u r) → wpList Try.prog ops Q rest (a.put o.dst v') w') :
    wpList Try.prog ops Q (o :: rest) a (w0.alloc (.cells #[z] 23)) := by
  obtain ⟨i0, hi, hz0, hz1, hz2⟩ := info_parts Try.info23
  refine wpList_append_own (w := w0.alloc (.cells #[z] 23)) hgd s x 32 ho base 23 i0 (.slice none 0 0) 1 24 Try.underlying32 hi hz0 hz1 hz2 rfl (by decide) v vs.length vs hs (World.ownsRow.alloc hown _)
    ⟨w0.heap.size, 0, none⟩ 1 1 [z] hx rfl ?c1 ?c2 ?c3 ?c4 ?c5 ?_
  case c1 =>
    intro j u hj
    match j, hj with
    | 0, hj => simp at hj; subst hj; simp [Addr.add]
  case c2 => intro u hu; simp at hu; subst hu; exact hz1c
  case c3 => unfold maxLen; omega
  case c4 => omega
  case c5 => simp; omega
  intro v' w' h1 h2 _
  refine h v' w' ?_ ?_ ?_
  · simpa [OwnL] using h1
  · exact ((Below.refl base w0).alloc hbase _).grown h2 (by simp; omega) hown.block
  · intro B u r hr
    have hr2 := hr.below ((Below.refl _ w0).alloc (Nat.le_refl _) (.cells #[z] 23))
    obtain ⟨e0, e1 | ⟨g, cap, cur, rfl, hg, hh, rest⟩⟩ := hr2
    · exact ⟨e0, .inl e1⟩
    · refine ⟨e0, .inr ⟨g, cap, cur, rfl, hg, ?_, rest⟩⟩
      have hne : v.ownBlock ≠ some g := by
        intro hk
        obtain ⟨_, ⟨rfl, _⟩ | ⟨g', cap', cur', rfl, _, hh', _⟩⟩ := World.ownsRow.alloc hown (.cells #[z] 23)
        · simp [Value.ownBlock] at hk
        · simp [Value.ownBlock] at hk
          subst hk
          rw [hh] at hh'
          simp at hh'
      rw [h2.block g (heapLt hh) (fun e => hne e.symm)]
      exact hh
end Go.Proofs.Ytbamocalhojmeaa
