/- Joined texts of the proof. -/
import Derived.Test.YtbamocalhojmeaaJ11

/- clock.clocksOf: clocks with one memory behind them. -/
namespace Go.Proofs.Ytbamocalhojmeaa
open Go.RowKit
set_option linter.unusedVariables false
attribute [local go_sem ↓] Go.wp_at_zero Go.wp_at_succ

/-- 'b[:h]' of any row. -/
theorem run_slice_pre (t e sz : Nat) (hu : Try.prog.underlying t = some (.slice e)) (hs : ∀ w, (sizeOf e).run Try.prog w = .ok sz w) (w : World) (a : Option Addr) (len cap h : Nat) (x : Int) (hx : x = (h : Int)) (hh : h ≤ cap) :
    (Instr.slice t (.slice a len cap) none (some (.int .i64 x)) none).run Try.prog w = .ok (.slice a h cap) w := by
  have he : Try.prog.elem t = e := by simp [Program.elem, hu]
  rw [run_slice_h w t a len cap (by rw [he]; exact hu) .i64 x (by omega) (by omega), he, hs]
  have hz : ∀ p : Addr, p.add 0 = p := fun p => by cases p; simp [Addr.add]
  have hm : a.map (fun p => p.add 0) = a := by cases a <;> simp [hz]
  simp only [Result.andThen, sliced, Nat.zero_mul, hm, Nat.sub_zero]
  rw [show x.toNat = h by omega]
  simp
theorem size26 (w : World) : (sizeOf 23).run Try.prog w = .ok 1 w := by kernel_rfl
theorem runII_slice_to (w : World) (a : Option Addr) (len cap h : Nat) (x : Int) (hx : x = (h : Int)) (hh : h ≤ cap) : (Instr.slice 32 (.slice a len cap) none (some (.int .i64 x)) none).run Try.prog w = .ok (.slice a h cap) w :=
  run_slice_pre 32 23 1 Try.underlying32 size26 w a len cap h x hx hh

/-- A memory that holds clocks of n numbers each, one behind the other. -/
def Mem (w : World) (M n : Nat) (zss : List (List Int)) : Prop := ∃ cs, BlkI w M cs ∧ ∀ i zs, zss[i]? = some zs → ∀ t z, zs[t]? = some z → cs[i * n + t]? = some (.int .i64 z)
section
variable {w w' : World} {M n : Nat} {zss : List (List Int)}
theorem Mem.wr (h : Mem w M n zss) {i : Nat} {zs : List Int} (hi : zss[i]? = some zs) : WrI w M (i * n) zs := by
  obtain ⟨cs, h1, h2⟩ := h
  exact ⟨cs, h1, fun k z hz => h2 i zs hi k z hz⟩
theorem Mem.lt (h : Mem w M n zss) : M < w.heap.size := by
  obtain ⟨cs, h1, h2⟩ := h
  exact h1.lt
theorem Mem.below (h : Mem w M n zss) (hb : Below w.heap.size w w') : Mem w' M n zss := by
  obtain ⟨cs, h1, h2⟩ := h
  exact ⟨cs, h1.below hb, h2⟩
theorem mul_out {i k n t : Nat} (hik : i ≠ k) (ht : t < n) : i * n + t < k * n ∨ k * n + n ≤ i * n + t := by
  rcases Nat.lt_or_ge i k with h | h
  · left
    have := Nat.mul_le_mul_right n (show i + 1 ≤ k from h)
    rw [Nat.succ_mul] at this
    omega
  · right
    have := Nat.mul_le_mul_right n (show k + 1 ≤ i by omega)
    rw [Nat.succ_mul] at this
    omega
theorem Mem.fill (h : Mem w M n zss) (hl : ∀ zs ∈ zss, zs.length = n) {k : Nat} {new : List Int} (hW : WrI w' M (k * n) new) (hO : Ovr M (k * n) (k * n + n) w w') (hk : k < zss.length) : Mem w' M n (zss.set k new) := by
  obtain ⟨cs, h1, h2⟩ := h
  obtain ⟨cs', h3, h4⟩ := hW
  refine ⟨cs', h3, fun i zs hi t z hz => ?_⟩
  by_cases hik : i = k
  · subst hik
    rw [List.getElem?_set_self hk] at hi
    cases hi
    exact h4 t z hz
  · rw [List.getElem?_set_ne (fun e => hik e.symm)] at hi
    have ht : t < n := by
      have := (List.getElem?_eq_some_iff.1 hz).1
      rwa [hl zs (List.mem_of_getElem? hi)] at this
    rw [← h3.cell, hO.cell _ (mul_out hik ht), h1.cell]
    exact h2 i zs hi t z hz
end
/-- Clocks with one memory behind them, cut, in blocks of the call's own. -/
structure ClkAt (base : Nat) (w : World) (G M n : Nat) (zss : List (List Int)) : Prop where
  heads : At 23 w G (cutV M n zss.length)
  mem : Mem w M n zss
  lens : ∀ zs ∈ zss, zs.length = n
  bm : base ≤ M
  bg : base ≤ G
  ne : G ≠ M
theorem ClkAt.row {base : Nat} {w : World} {G M n : Nat} {zss : List (List Int)} (h : ClkAt base w G M n zss) (hn : n ≤ 4611686018427387904) : RowII w (some ⟨G, 0, none⟩) zss := by
  refine .inr ⟨G, 0, rfl, fun i zs hz => ?_⟩
  have hi := (List.getElem?_eq_some_iff.1 hz).1
  have hl := h.lens zs (List.mem_of_getElem? hz)
  refine ⟨some ⟨M, i * n, none⟩, n, ?_, (h.mem.wr hz).row, by omega, by omega⟩
  rw [Nat.zero_add, h.heads.cell, cutV_at hi, hl]
theorem ClkAt.below {base : Nat} {w w' : World} {G M n : Nat} {zss : List (List Int)} (h : ClkAt base w G M n zss) (hb : Below w.heap.size w w') : ClkAt base w' G M n zss :=
  ⟨h.heads.below hb, h.mem.below hb, h.lens, h.bm, h.bg, h.ne⟩
/-- The first k clocks, behind them noughts. -/
def zsK (ev : Nat → Ev) (n m k : Nat) : List (List Int) := (List.range m).map fun i => if i < k then clkL ev n i else List.replicate n 0
theorem zsK_length (ev : Nat → Ev) (n m k : Nat) : (zsK ev n m k).length = m := by simp [zsK]
theorem zsK_lens (ev : Nat → Ev) (n m k : Nat) : ∀ zs ∈ zsK ev n m k, zs.length = n := by
  intro zs hz
  obtain ⟨i, _, rfl⟩ := List.mem_map.1 hz
  split
  · exact clkL_length ..
  · simp
theorem zsK_at {ev : Nat → Ev} {n m k i : Nat} (h : i < m) : (zsK ev n m k)[i]? = some (if i < k then clkL ev n i else List.replicate n 0) := by simp [zsK, h]
theorem zsK_set (ev : Nat → Ev) (n m k : Nat) (h : k < m) : (zsK ev n m k).set k (clkL ev n k) = zsK ev n m (k + 1) := by
  apply List.ext_getElem?
  intro i
  rcases Nat.lt_or_ge i m with hi | hi
  · by_cases hik : i = k
    · subst hik
      rw [List.getElem?_set_self (by rw [zsK_length]; exact h), zsK_at hi, if_pos (by omega)]
    · rw [List.getElem?_set_ne (fun e => hik e.symm), zsK_at hi, zsK_at hi]
      by_cases h2 : i < k
      · rw [if_pos h2, if_pos (by omega)]
      · rw [if_neg h2, if_neg (by omega)]
  · rw [List.getElem?_eq_none (by rw [List.length_set, zsK_length]; exact hi), List.getElem?_eq_none (by rw [zsK_length]; exact hi)]
def clksL (ev : Nat → Ev) (n m : Nat) : List (List Int) := (List.range m).map (clkL ev n)
theorem clksL_length (ev : Nat → Ev) (n m : Nat) : (clksL ev n m).length = m := by simp [clksL]
theorem clksL_at {ev : Nat → Ev} {n m i : Nat} (h : i < m) : (clksL ev n m)[i]? = some (clkL ev n i) := by simp [clksL, h]
theorem zsK_done (ev : Nat → Ev) (n m : Nat) : zsK ev n m m = clksL ev n m := by
  apply List.ext_getElem?
  intro i
  rcases Nat.lt_or_ge i m with hi | hi
  · rw [zsK_at hi, if_pos hi, clksL_at hi]
  · rw [List.getElem?_eq_none (by rw [zsK_length]; exact hi), List.getElem?_eq_none (by rw [clksL_length]; exact hi)]
theorem RowEv.take {w : World} {a : Option Addr} {es : List Ev} (h : RowEv w a es) (k : Nat) : RowEv w a (es.take k) := by
  rcases h with h | ⟨g, o, ha, hr⟩
  · exact .inl (by rw [h]; simp)
  · refine .inr ⟨g, o, ha, fun i e he => hr i e ?_⟩
    rw [List.getElem?_take] at he
    split at he
    · exact he
    · cases he
theorem RowEv.lt {w : World} {a : Option Addr} {es : List Ev} (h : RowEv w a es) (h0 : 0 < es.length) : ∀ G O, a = some ⟨G, O, none⟩ → G < w.heap.size := by
  intro G O ha
  obtain ⟨g, o, hb, hr⟩ := h.at 0 _ (List.getElem?_eq_getElem h0)
  rw [ha] at hb
  cases hb
  exact lt_of_cell (range_cells hr).1
end Go.Proofs.Ytbamocalhojmeaa

/- clock.clocksOf: the walk. -/
namespace Go.Proofs.Ytbamocalhojmeaa
open Go.RowKit
set_option linter.unusedVariables false
attribute [local go_sem ↓] Go.wp_at_zero Go.wp_at_succ

set_option maxRecDepth 100000 in
set_option maxHeartbeats 6400000 in
theorem clocksOf_any (a : Option Addr) (c n : Nat) (es : List Ev) (w : World) (hE : RowEv w a es) (hok : ∀ x ∈ es, x.ok) (hth : ∀ x ∈ es, 0 ≤ x.th ∧ x.th < n) (hn1 : 0 < n) (hn2 : n ≤ 16) (hm : es.length ≤ 1024) (hc : es.length ≤ c) :
    Calls Try.prog 51 #[.slice a es.length c, .int .i64 n] w fun r w' => ∃ G M, r = .returned (.slice (some ⟨G, 0, none⟩) es.length es.length) ∧ ClkAt w.heap.size w' G M n (clksL (evAt es) n es.length) ∧ Below w.heap.size w w' := by
  obtain ⟨i0, hi, hz0, hz1, hz2⟩ := info_parts Try.info3
  obtain ⟨m, hm0⟩ : ∃ m, Hid (m = es.length) := ⟨_, (rfl : es.length = _)⟩
  rw [← hm0.out] at hm hc ⊢
  obtain ⟨ev, hev⟩ : ∃ ev, Hid (ev = evAt es) := ⟨_, (rfl : _ = evAt _)⟩
  rw [← hev.out]
  have HE : Hid (RowEv w a es ∧ (∀ x ∈ es, x.ok) ∧ ∀ x ∈ es, 0 ≤ x.th ∧ x.th < n) := ⟨hE, hok, hth⟩
  clear hE hok hth
  obtain ⟨L, hL⟩ : ∃ L, L = m * n := ⟨_, rfl⟩
  have hLb : L ≤ 16400 := by rw [hL]; exact Nat.mul_le_mul (show m ≤ 1025 by omega) hn2
  have hwL : IntKind.i64.wrap ((m : Int) * (n : Int)) = (L : Int) := by
    rw [show (m : Int) * (n : Int) = (L : Int) by rw [hL, Int.natCast_mul], IntKind.wrap_i64]
    omega
  have hLH : Hid (L = m * n) := hL
  clear hL
  go_enter Try.func51, Try.ntmps51
  go_wp2_with (at_make; refine wpList_make_full _ rfl (.tmp 11) (.tmp 11) 23 rfl w.heap.size 3 i0 (.int .i64 0) 1 Try.underlying23 hi hz0 hz1 .i64 .i64 _ _ L rfl rfl rfl rfl (by rw [hz2]; omega) (by unfold maxLen; omega) (Nat.le_refl _) ?_)
  intro w1 hown1 hgrow1
  have hb1 : Below w.heap.size w w1 := (Below.refl _ w).grown hgrow1 (Nat.le_refl _) (by intro k hk; cases hk)
  have hA1 : Hid (Mem w1 w.heap.size n (zsK ev n m 0)) := by
    obtain ⟨_, ⟨h, _⟩ | ⟨g, cp, cur, h, hg, hh, _, _, hs, ht⟩⟩ := hown1
    · cases h
    · cases h
      have hcur : cur.toList = (madeCells #[Value.int .i64 0] L).toList := by rw [← ht, List.take_of_length_le (by simp [hs])]
      refine ⟨cur.toList, by unfold BlkI; rw [hh], fun i zs hz t z htz => ?_⟩
      have him : i < m := by have := (List.getElem?_eq_some_iff.1 hz).1; rwa [zsK_length] at this
      rw [zsK_at him, if_neg (by omega)] at hz
      cases hz
      have htn : t < n := by have := (List.getElem?_eq_some_iff.1 htz).1; simpa using this
      rw [List.getElem?_replicate, if_pos htn] at htz
      cases htz
      rw [hcur, toList_madeCells_one, List.getElem?_replicate, if_pos]
      have := Nat.mul_le_mul_right n (show i + 1 ≤ m from him)
      rw [Nat.succ_mul] at this
      have := hLH.out
      omega
  clear hown1 hgrow1 hwL
  have HB1 : Hid (Below w.heap.size w w1) := hb1
  clear hb1
  have HC1 : Hid (∀ u, Calls Try.prog 64 #[.slice (some ⟨w.heap.size, 0, none⟩) L L, .int .i64 n] u fun r w' => r = .returned (.slice (some ⟨u.heap.size, 0, none⟩) m m) ∧ At 23 w' u.heap.size (cutV w.heap.size n m) ∧ Below u.heap.size u w') := fun u => by
    rw [hLH.out]
    exact cut_any w.heap.size n m u hn1 hn2 (by omega)
  go_wp2_with (go_at_call 64; refine (HC1.out _).mono ?_; rintro _ w2 ⟨rfl, hA2, hb2⟩; refine Hid.out ?_)
  refine hidU ?_
  obtain ⟨M, hM⟩ : ∃ M, Hid (M = w.heap.size) := ⟨_, (rfl : _ = w.heap.size)⟩
  obtain ⟨G, hG⟩ : ∃ G, Hid (G = w1.heap.size) := ⟨_, (rfl : _ = w1.heap.size)⟩
  rw [← hG.out, ← hM.out] at hA2
  rw [← hM.out] at hA1
  rw [← hG.out]
  have hMl : M < w1.heap.size := hA1.out.lt
  have hGM : G ≠ M := by rw [hG.out]; omega
  have HA2 : Hid (At 23 w2 G (cutV M n m)) := hA2
  have HM2 : Hid (Mem w2 M n (zsK ev n m 0)) := hA1.out.below hb2
  have HB2 : Hid (Below w.heap.size w w2) := HB1.out.trans (hb2.mono HB1.out.size)
  clear hA2 hb2 hA1 HB1 HC1
  go_wp2_with fail
  go_loopw [17] (fun t wr => ∃ (k : Nat), k ≤ m ∧ t = .int .i64 k ∧ Hid (At 23 wr G (cutV M n m)) ∧ Hid (Mem wr M n (zsK ev n m k)) ∧ Hid (Below w.heap.size w wr)) (fun t _ => m - (intOf t).toNat)
  case atStart => exact ⟨0, Nat.zero_le _, rfl, HA2.out, HM2.out, HB2.out⟩
  case round =>
    obtain ⟨k, hk, rfl, hA, hMm, hB⟩ := hrel
    clear HA2 HM2 HB2
    by_cases hlt : k < m
    · obtain ⟨x, hx⟩ : ∃ x, es[k]? = some x := ⟨es[k]'(by rw [← hm0.out]; exact hlt), by rw [List.getElem?_eq_getElem]⟩
      obtain ⟨g2, o2, rfl, hr2⟩ := (HE.out.1.below hB.out).at k x hx
      obtain ⟨q1, q2, q3⟩ := range_cells hr2
      have hxm := List.mem_of_getElem? hx
      have hxok := HE.out.2.1 x hxm
      have hxth := HE.out.2.2 x hxm
      have hg2M : g2 ≠ M := by
        have := HE.out.1.lt (by rw [← hm0.out]; omega) g2 o2 rfl
        rw [hM.out]
        omega
      have hgk : cutV M n m = cutV M n m := rfl
      have hcell : wr.cell? ⟨G, k, none⟩ = some (.slice (some ⟨M, k * n, none⟩) n n) := by rw [hA.out.cell]; exact cutV_at hlt
      have hzk : (zsK ev n m k)[k]? = some (List.replicate n 0) := by rw [zsK_at hlt, if_neg (by omega)]
      have hxev : x = ev k := by rw [hev.out]; exact (evAt_eq hx).symm
      have hflz : flZ (clksL ev n k) (es.take k) x (List.replicate n 0) = clkL ev n k :=
        flZ_clk ev n k (clksL ev n k) (es.take k) x hxev (by rw [List.length_take]; have := hm0.out; omega) (fun i hi => by rw [hev.out]; unfold evAt; simp [List.getD, hi]) (fun i hi => clksL_at hi) hxth.1 hxth.2
      have HF : Hid (∀ u, Below wr.heap.size wr u → Calls Try.prog 65 #[.slice (some ⟨M, k * n, none⟩) n n, .slice (some ⟨G, 0, none⟩) k m, .slice (some ⟨g2, o2, none⟩) k c, .agg x.cells.toArray] u fun r w' => r = .returned (.tuple #[]) ∧ WrI w' M (k * n) (clkL ev n k) ∧ Ovr M (k * n) (k * n + n) u w') := fun u hu => by
        have hlk : (es.take k).length = k := by rw [List.length_take]; have := hm0.out; omega
        have := fill_any M (k * n) n n (List.replicate n 0) (some ⟨G, 0, none⟩) m (clksL ev n k) (some ⟨g2, o2, none⟩) c (es.take k) x u ((hMm.out.below hu).wr hzk) (by simp) hn1 hn2
          (.inr ⟨G, 0, rfl, hGM, fun i zs hz => by
            have hi : i < k := by have := (List.getElem?_eq_some_iff.1 hz).1; rwa [clksL_length] at this
            rw [clksL_at hi] at hz
            cases hz
            refine ⟨some ⟨M, i * n, none⟩, n, ?_, ((hMm.out.below hu).wr (i := i) (zs := clkL ev n i) (by rw [zsK_at (by omega), if_pos hi])).row, Nat.le_refl _, clkL_length .., ?_⟩
            · rw [Nat.zero_add, (hA.out.below hu).cell]
              exact cutV_at (by omega)
            · intro g' o' h
              cases h
              right; left
              have := Nat.mul_le_mul_right n (show i + 1 ≤ k from hi)
              rwa [Nat.succ_mul] at this⟩)
          (by rw [clksL_length, hlk]) (((HE.out.1.below hB.out).below hu).take k) (fun g o h => by cases h; exact hg2M) (fun y hy => HE.out.2.1 y (List.mem_of_mem_take hy)) hxok hxth.1 hxth.2 (by rw [hlk]; omega) (Nat.le_refl _) (by rw [hlk]; omega) (by rw [hlk]; omega)
        rw [hlk, hflz] at this
        exact this
      clear hr2 hx hxm hxok hxth hg2M hgk hzk hxev hflz
      obtain ⟨xt, xk, xo⟩ := x
      dsimp only at q1 q2 q3
      simp only [Ev.cells] at HF
      have hs1 := fun u => runE_slice_to u (some ⟨g2, o2, none⟩) m c k (k : Int) rfl (by omega)
      have hs2 := fun u => runII_slice_to u (some ⟨G, 0, none⟩) m m k (k : Int) rfl (by omega)
      go_wp2_with (first | (refine wpList_alloc_at rfl 50 rfl _ 3 z25 ?_; intro w4 hA4 hb4 hs4) | (refine wpList_store_at (P := Try.prog) rfl 50 (.tmp 7) (.tmp 21) rfl wr.heap.size [.int .i64 xt, .int .i64 xk, .int .i64 xo] rfl rfl 50 _ hA4 i25 rfl (Ev.one ⟨xt, xk, xo⟩) ?_; intro w3 hA3 hb3 hs3; refine Hid.out ?_))
      refine hidU ?_
      have hB3 : Below wr.heap.size wr w3 := hb3.below hb4 (Nat.le_refl _) (by omega)
      have x0 : w3.cell? ⟨wr.heap.size, 0, none⟩ = some (.int .i64 xt) := hA3.cell 0
      have x1 : w3.cell? ⟨wr.heap.size, 1, none⟩ = some (.int .i64 xk) := hA3.cell 1
      have x2 : w3.cell? ⟨wr.heap.size, 2, none⟩ = some (.int .i64 xo) := hA3.cell 2
      have h3 : w3.cell? ⟨G, k, none⟩ = some (.slice (some ⟨M, k * n, none⟩) n n) := (hB3.cell (lt_of_cell hcell)).trans hcell
      have HB3 : Hid (Below wr.heap.size wr w3) := hB3
      have hrM : wr.heap.size ≠ M := by have := hMm.out.lt; omega
      clear hA4 hb4 hs4 hA3 hb3 hs3 hB3 q1 q2 q3 hcell
      obtain ⟨A, hAA⟩ : ∃ A, Hid (A = k * n) := ⟨_, (rfl : _ = k * n)⟩
      rw [← hAA.out] at h3 HF
      go_wp2_with fail
      go_region_held3 (fun w' => w'.cell? ⟨G, k, none⟩ = some (.slice (some ⟨M, A, none⟩) n n) ∧ w'.cell? ⟨wr.heap.size, 0, none⟩ = some (.int .i64 xt) ∧ w'.cell? ⟨wr.heap.size, 1, none⟩ = some (.int .i64 xk) ∧ w'.cell? ⟨wr.heap.size, 2, none⟩ = some (.int .i64 xo)) (first | exact ⟨h3, x0, x1, x2⟩ | exact ⟨cell_ovr hO5 hGM h3, cell_ovr hO5 hrM x0, cell_ovr hO5 hrM x1, cell_ovr hO5 hrM x2⟩) (first | (go_at_call 65; refine (HF.out _ (HB3.out.trans ((Below.refl _ w3).drew.mono HB3.out.size))).mono ?_; rintro e w5 ⟨rfl, hW5, hO5⟩))
      have hB5 : Hid (Below w.heap.size w w5) := by
        have h1 : Below w.heap.size w w3.drew := (hB.out.trans (HB3.out.mono hB.out.size)).trans ((Below.refl _ w3).drew.mono (Nat.le_trans hB.out.size HB3.out.size))
        exact hO5.below h1 (by rw [hM.out]; exact Nat.le_refl _) h1.size
      have hA5 : Hid (At 23 w5 G (cutV M n m)) := At.ovr ((hA.out.below HB3.out).drew) hO5 hGM
      have hM5 : Hid (Mem w5 M n (zsK ev n m (k + 1))) := by
        have h1 : Mem w3.drew M n (zsK ev n m k) := (hMm.out.below HB3.out).below ((Below.refl _ w3).drew)
        rw [hAA.out] at hW5 hO5
        have h2 := h1.fill (zsK_lens ev n m k) hW5 hO5 (by rw [zsK_length]; exact hlt)
        rwa [zsK_set ev n m k hlt] at h2
      clear hW5 hO5 h3 x0 x1 x2 HF
      go_wp2_with fail
      go_roundw
      case rel => exact ⟨k + 1, by omega, by go_num, hA5.out, hM5.out, hB5.out⟩
      case measure => simp [intOf]; omega
    · have hkm : Hid (k = m) := show k = m by omega
      have hfin : Hid (ClkAt w.heap.size wr G M n (clksL ev n m)) := by
        refine ⟨by rw [clksL_length]; exact hA.out, ?_, ?_, by rw [hM.out]; exact Nat.le_refl _, ?_, hGM⟩
        · have := hMm.out
          rwa [hkm.out, zsK_done] at this
        · intro zs hz
          obtain ⟨i, _, rfl⟩ := List.mem_map.1 hz
          exact clkL_length ..
        · rw [hG.out]
          have := hM.out
          omega
      go_wp2_with fail
      go_ret
      exact ⟨G, M, rfl, hfin.out, hB.out⟩
end Go.Proofs.Ytbamocalhojmeaa

/- clock.Clocks of any events; clock.isAhead. -/
namespace Go.Proofs.Ytbamocalhojmeaa
open Go.RowKit
set_option linter.unusedVariables false
attribute [local go_sem ↓] Go.wp_at_zero Go.wp_at_succ

theorem wrongZ_ok {es : List Ev} {n : Int} (h : wrongZ es n = 0) : 1 ≤ n ∧ n ≤ 16 ∧ es.length ≤ 1024 ∧ ∀ x ∈ es, 0 ≤ x.th ∧ x.th < n := by
  unfold wrongZ at h
  split at h
  · cases h
  · rename_i h1
    split at h
    · cases h
    · rename_i h2
      split at h
      · cases h
      · rename_i h3
        refine ⟨by omega, by omega, by omega, fun x hx => ?_⟩
        have h4 : badEv n x = false := by
          rw [Bool.eq_false_iff]
          intro hb
          exact h3 (List.any_eq_true.2 ⟨x, hx, hb⟩)
        unfold badEv at h4
        simp at h4
        omega
theorem wrongZ_of {es : List Ev} {n : Int} (h1 : 1 ≤ n) (h2 : n ≤ 16) (h3 : es.length ≤ 1024) (h4 : ∀ x ∈ es, 0 ≤ x.th ∧ x.th < n) : wrongZ es n = 0 := by
  unfold wrongZ
  rw [if_neg (by omega), if_neg (by omega), if_neg]
  intro hb
  obtain ⟨x, hx, hb⟩ := List.any_eq_true.1 hb
  have := h4 x hx
  unfold badEv at hb
  simp at hb
  omega

set_option maxRecDepth 100000 in
set_option maxHeartbeats 1600000 in
theorem clocks_bad (a : Option Addr) (c : Nat) (n : Int) (es : List Ev) (w : World) (hE : RowEv w a es) (hl : es.length ≤ 4611686018427387904) (hc : es.length ≤ c) (hb : wrongZ es n ≠ 0) :
    Calls Try.prog 34 #[.slice a es.length c, .int .i64 n] w fun r w' => r = .returned (.tuple #[.slice none 0 0, .int .i64 (wrongZ es n)]) ∧ Below w.heap.size w w' := by
  have HR := refused_any es [] n a none c 0 w hE (.inl rfl) hl (by simp) hc (by simp)
  rw [List.append_nil] at HR
  obtain ⟨m, hm⟩ : ∃ m, m = es.length := ⟨_, rfl⟩
  obtain ⟨R, hR⟩ : ∃ R, R = wrongZ es n := ⟨_, rfl⟩
  rw [← hm, ← hR] at HR ⊢
  rw [← hR] at hb
  have hb2 : (R == 0) = false := by rw [beq_eq_false_iff_ne]; exact hb
  simp only [List.length_nil] at HR
  clear hE hl hc hm hR hb
  go_enter Try.func34, Try.ntmps34
  go_wp2_with (go_at_call 50; refine HR.mono ?_; rintro _ w2 ⟨rfl, hb⟩)
  go_ret2
  exact ⟨rfl, hb⟩

set_option maxRecDepth 100000 in
set_option maxHeartbeats 1600000 in
theorem clocks_ok (a : Option Addr) (c n : Nat) (es : List Ev) (w : World) (hE : RowEv w a es) (hok : ∀ x ∈ es, x.ok) (hc : es.length ≤ c) (hb : wrongZ es n = 0) :
    Calls Try.prog 34 #[.slice a es.length c, .int .i64 n] w fun r w' => ∃ G M, r = .returned (.tuple #[.slice (some ⟨G, 0, none⟩) es.length es.length, .int .i64 0]) ∧ ClkAt w.heap.size w' G M n (clksL (evAt es) n es.length) ∧ Below w.heap.size w w' := by
  obtain ⟨h1, h2, h3, h4⟩ := wrongZ_ok hb
  have HR := refused_any es [] n a none c 0 w hE (.inl rfl) (by omega) (by simp) hc (by simp)
  rw [List.append_nil, hb] at HR
  have HC : Hid (∀ u, Below w.heap.size w u → Calls Try.prog 51 #[.slice a es.length c, .int .i64 n] u fun r w' => ∃ G M, r = .returned (.slice (some ⟨G, 0, none⟩) es.length es.length) ∧ ClkAt w.heap.size w' G M n (clksL (evAt es) n es.length) ∧ Below w.heap.size w w') := fun u hu => (clocksOf_any a c n es u (hE.below hu) hok h4 (by omega) (by omega) h3 hc).mono fun r w' ⟨G, M, e1, e2, e3⟩ => ⟨G, M, e1, ⟨e2.heads, e2.mem, e2.lens, Nat.le_trans hu.size e2.bm, Nat.le_trans hu.size e2.bg, e2.ne⟩, hu.trans (e3.mono hu.size)⟩
  obtain ⟨m, hm⟩ : ∃ m, m = es.length := ⟨_, rfl⟩
  rw [← hm] at HR HC ⊢
  simp only [List.length_nil] at HR
  clear hE hc hm h1 h2 h3 h4 hb
  go_enter Try.func34, Try.ntmps34
  go_wp2_with (first | (go_at_call 50; refine HR.mono ?_; rintro _ w2 ⟨rfl, hb⟩; have hb' : Hid (Below w.heap.size w w2) := hb; clear hb) | (go_at_call 51; refine (HC.out _ hb'.out).mono ?_; rintro _ w3 ⟨G, M, rfl, hA, hb3⟩))
  go_ret2
  exact ⟨G, M, rfl, hA, hb3⟩

set_option maxRecDepth 100000 in
set_option maxHeartbeats 1600000 in
theorem isAhead_any (xs : List (List Int)) (es : List Ev) (p q s : Nat) (x y : List Int) (e : Ev) (v1 v2 : Int) (m1 m2 : Nat) (a1 a2 : Option Addr) (c1 c2 : Nat) (w : World) (h1 : RowII w a1 xs) (h2 : RowEv w a2 es) (hx : xs[p]? = some x) (hy : xs[q]? = some y) (he : es[p]? = some e) (ht : e.th = (s : Int)) (hv1 : x[s]? = some v1) (hv2 : y[s]? = some v2)
    (hm1 : xs.length ≤ m1) (hm2 : es.length ≤ m2) (hk1 : m1 ≤ c1) (hk2 : m2 ≤ c2) (hl1 : m1 ≤ 1048576) (hl2 : m2 ≤ 4611686018427387904) :
    Calls Try.prog 82 #[.slice a1 m1 c1, .slice a2 m2 c2, .int .i64 p, .int .i64 q] w fun r w' => r = .returned (.bool (decide (p < q) && decide (v1 ≤ v2))) ∧ Below w.heap.size w w' := by
  have hp : p < m1 := Nat.lt_of_lt_of_le (List.getElem?_eq_some_iff.1 hx).1 hm1
  have hq : q < m1 := Nat.lt_of_lt_of_le (List.getElem?_eq_some_iff.1 hy).1 hm1
  have hp2 : p < m2 := Nat.lt_of_lt_of_le (List.getElem?_eq_some_iff.1 he).1 hm2
  obtain ⟨g1, o1, b1, k1, rfl, r1, i1, i2, i3⟩ := h1.at p x hx
  obtain ⟨g2, o2, b2, k2, hg2, r2, j1, j2, j3⟩ := h1.at q y hy
  cases hg2
  obtain ⟨g3, o3, rfl, r3⟩ := h2.at p e he
  obtain ⟨t1, -, -⟩ := range_cells r3
  rw [ht] at t1
  obtain ⟨f1, w1, rfl, y1⟩ := i1.at s v1 hv1
  obtain ⟨f2, w2, rfl, y2⟩ := j1.at s v2 hv2
  have hs1 : s < x.length := (List.getElem?_eq_some_iff.1 hv1).1
  have hs2 : s < y.length := (List.getElem?_eq_some_iff.1 hv2).1
  obtain ⟨lx, hlx⟩ : ∃ l, l = x.length := ⟨_, rfl⟩
  obtain ⟨ly, hly⟩ : ∃ l, l = y.length := ⟨_, rfl⟩
  rw [← hlx] at r1 hs1 i2 i3
  rw [← hly] at r2 hs2 j2 j3
  clear h1 h2 hx hy he ht hv1 hv2 i1 j1 r3 hlx hly hm1 hm2
  by_cases d5 : p < q
  · have d0 : (p : Int) < (q : Int) := by omega
    rw [decide_eq_true d5]
    by_cases d9 : v1 ≤ v2
    · rw [decide_eq_true d9]
      go_enter Try.func82, Try.ntmps82
      go_wp2_with fail
      go_quiet (fail)
      go_wp2
      go_ret
      exact ⟨by simp, by first | exact Below.refl _ _ | exact below_drN (Below.refl _ _) _⟩
    · have d10 : decide (v1 ≤ v2) = false := decide_eq_false d9
      rw [d10]
      go_enter Try.func82, Try.ntmps82
      go_wp2_with fail
      go_quiet (fail)
      go_wp2
      go_ret
      exact ⟨by simp, by first | exact Below.refl _ _ | exact below_drN (Below.refl _ _) _⟩
  · have d6 : ¬ (p : Int) < (q : Int) := by omega
    have d7 : (q : Int) ≤ (p : Int) := by omega
    have d8 : decide ((p : Int) < (q : Int)) = false := decide_eq_false d6
    rw [decide_eq_false d5]
    go_enter Try.func82, Try.ntmps82
    go_wp2_with fail
    go_quiet (fail)
    go_wp2
    go_ret
    exact ⟨by simp, by first | exact Below.refl _ _ | exact below_drN (Below.refl _ _) _⟩
end Go.Proofs.Ytbamocalhojmeaa

/- clock.Ahead by the clocks of a trace: what happens ahead of what. -/
namespace Go.Proofs.Ytbamocalhojmeaa
open Go.RowKit
set_option linter.unusedVariables false
attribute [local go_sem ↓] Go.wp_at_zero Go.wp_at_succ

theorem plc_yes {z m : Int} (h1 : 0 ≤ z) (h2 : z < m) : plc z m = true := by simp [plc, h1, h2]
theorem hbB_tells (ev : Nat → Ev) (p q : Nat) : (decide (p < q) && decide (((clk ev p (ev p).th : Nat) : Int) ≤ ((clk ev q (ev p).th : Nat) : Int))) = hbB ev q p := by
  rw [Bool.eq_iff_iff, hbB_iff]
  simp only [Bool.and_eq_true, decide_eq_true_eq]
  constructor
  · rintro ⟨h1, h2⟩
    exact (clk_tells ev p q h1).1 (by omega)
  · intro h
    exact ⟨h.lt, by have := (clk_tells ev p q h.lt).2 h; omega⟩

/-- The clocks of a trace, and the trace. -/
structure Tr (w : World) (a1 a2 : Option Addr) (es : List Ev) (n : Nat) : Prop where
  row : RowII w a1 (clksL (evAt es) n es.length)
  evs : RowEv w a2 es
  n1 : 0 < n
  n2 : n ≤ 16
  len : es.length ≤ 1024
  ok : ∀ x ∈ es, x.ok
  th : ∀ x ∈ es, 0 ≤ x.th ∧ x.th < n
theorem Tr.below {w w' : World} {a1 a2 : Option Addr} {es : List Ev} {n : Nat} (h : Tr w a1 a2 es n) (hb : Below w.heap.size w w') : Tr w' a1 a2 es n :=
  ⟨h.row.below hb, h.evs.below hb, h.n1, h.n2, h.len, h.ok, h.th⟩

set_option maxRecDepth 100000 in
set_option maxHeartbeats 1600000 in
theorem ahead_ok (es : List Ev) (n p q : Nat) (a1 a2 : Option Addr) (c1 c2 : Nat) (w : World) (hT : Tr w a1 a2 es n) (hp : p < es.length) (hq : q < es.length) (hk1 : es.length ≤ c1) (hk2 : es.length ≤ c2) :
    Calls Try.prog 69 #[.slice a1 es.length c1, .slice a2 es.length c2, .int .i64 p, .int .i64 q] w fun r w' => r = .returned (.tuple #[.bool (hbB (evAt es) q p), .int .i64 0]) ∧ Below w.heap.size w w' := by
  obtain ⟨ev, hev⟩ : ∃ ev, ev = evAt es := ⟨_, rfl⟩
  have he := List.getElem?_eq_getElem hp
  have hf := List.getElem?_eq_getElem hq
  obtain ⟨e, hee⟩ : ∃ e, e = es[p] := ⟨_, rfl⟩
  obtain ⟨f, hff⟩ : ∃ e, e = es[q] := ⟨_, rfl⟩
  rw [← hee] at he
  rw [← hff] at hf
  have the := hT.th e (List.mem_of_getElem? he)
  have thf := hT.th f (List.mem_of_getElem? hf)
  obtain ⟨s, hs⟩ : ∃ s : Nat, e.th = (s : Int) := ⟨e.th.toNat, by omega⟩
  have hsn : s < n := by omega
  have hevp : ev p = e := by rw [hev]; exact evAt_eq he
  have hx := clksL_at (ev := ev) (n := n) hp
  have hy := clksL_at (ev := ev) (n := n) hq
  have HI := fun u (hu : Below w.heap.size w u) => isAhead_any (clksL ev n es.length) es p q s _ _ e _ _ es.length es.length a1 a2 c1 c2 u (by rw [hev]; exact hT.row.below hu) (hT.evs.below hu) hx hy he hs (clkL_at hsn) (clkL_at hsn) (by rw [clksL_length]; exact Nat.le_refl _) (Nat.le_refl _) hk1 hk2 (by have := hT.len; omega) (by have := hT.len; omega)
  rw [← hs, ← hevp, hbB_tells] at HI
  have HI' : Hid (∀ u, Below w.heap.size w u → Calls Try.prog 82 #[.slice a1 es.length c1, .slice a2 es.length c2, .int .i64 p, .int .i64 q] u fun r w' => r = .returned (.bool (hbB ev q p)) ∧ Below w.heap.size w w') := fun u hu => (HI u hu).mono fun r w' ⟨h1, h2⟩ => ⟨h1, hu.trans (h2.mono hu.size)⟩
  have hR := hT.row
  rw [← hev] at hR
  obtain ⟨g1, o1, b1, k1, rfl, r1, -, i2, -⟩ := hR.at p _ hx
  obtain ⟨g2, o2, b2, k2, hg2, r2, -, j2, -⟩ := hR.at q _ hy
  cases hg2
  rw [clkL_length] at r1 r2 i2 j2
  obtain ⟨g3, o3, rfl, r3⟩ := hT.evs.at p e he
  obtain ⟨g4, o4, hg4, r4⟩ := hT.evs.at q f hf
  cases hg4
  obtain ⟨t1, -, -⟩ := range_cells r3
  obtain ⟨t2, -, -⟩ := range_cells r4
  have hlen := hT.len
  have hn2 := hT.n2
  rw [← hev]
  obtain ⟨R, hRR⟩ : ∃ R, R = hbB ev q p := ⟨_, rfl⟩
  rw [← hRR] at HI' ⊢
  obtain ⟨et, hx1⟩ : ∃ z, z = e.th := ⟨_, rfl⟩
  obtain ⟨ft, hx2⟩ : ∃ z, z = f.th := ⟨_, rfl⟩
  rw [← hx1] at t1 the
  rw [← hx2] at t2 thf
  obtain ⟨m, hm⟩ : ∃ m, m = es.length := ⟨_, rfl⟩
  rw [← hm] at HI' hp hq hk1 hk2 hlen ⊢
  have p1 := plc_yes (z := (p : Int)) (m := (m : Int)) (by omega) (by omega)
  have p2 := plc_yes (z := (q : Int)) (m := (m : Int)) (by omega) (by omega)
  have p3 := plc_yes (z := et) (m := (n : Int)) the.1 the.2
  have p4 := plc_yes (z := ft) (m := (n : Int)) thf.1 thf.2
  clear HI hR hT hev he hf hee hff hs hsn hevp hx hy r3 r4 hRR hx1 hx2 hm
  go_enter Try.func69, Try.ntmps69
  go_wp2_with (go_at_call 62; refine (isPlace_any _ _ _).mono ?_; rintro _ w2 ⟨rfl, rfl⟩)
  go_quiet (fail)
  go_wp2_with (first | (go_at_call 62; refine (isPlace_any _ _ _).mono ?_; rintro _ w2 ⟨rfl, rfl⟩) | (go_at_call 82; refine (HI'.out _ (below_drN (Below.refl _ _) _)).mono ?_; rintro _ w3 ⟨rfl, hb3⟩))
  go_ret2
  exact ⟨rfl, hb3⟩
end Go.Proofs.Ytbamocalhojmeaa
