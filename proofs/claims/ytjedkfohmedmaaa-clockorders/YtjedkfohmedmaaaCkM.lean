/- clock.Next, where it tells a clock. -/
import Derived.Test.YtjedkfohmedmaaaCkL
namespace Go.Proofs.Ytjedkfohmedmaaa
open Go.RowKit
set_option linter.unusedVariables false
attribute [local go_sem ↓] Go.wp_at_zero Go.wp_at_succ

theorem RowII.far {w u : World} {a : Option Addr} {xs : List (List Int)} {n g lo hi : Nat} (h : RowII w a xs) (hl : ∀ zs ∈ xs, zs.length = n) (hn : 0 < n) (hg : w.heap.size ≤ g) (hb : Below w.heap.size w u) : RowF u a xs n g lo hi := by
  rcases h with h | ⟨G, O, ha, hr⟩
  · exact .inl h
  rcases Nat.eq_zero_or_pos xs.length with h0 | h0
  · exact .inl (List.length_eq_zero_iff.1 h0)
  obtain ⟨b0, c0, k1, _⟩ := hr 0 _ (List.getElem?_eq_getElem h0)
  have hG : G < w.heap.size := lt_of_cell k1
  refine .inr ⟨G, O, ha, by omega, fun i zs hz => ?_⟩
  obtain ⟨b, c, h1, h2, h3, h4⟩ := hr i zs hz
  have hzl := hl zs (List.mem_of_getElem? hz)
  rw [hzl] at h1 h3
  refine ⟨b, c, (hb.cell (lt_of_cell h1)).trans h1, h2.below hb, h3, hzl, fun g' o' hb' => .inl ?_⟩
  obtain ⟨g2, o2, e2, e3⟩ := h2.at 0 _ (List.getElem?_eq_getElem (by omega))
  rw [hb'] at e2
  cases e2
  have : g' < w.heap.size := lt_of_cell e3
  omega
theorem any_oth {xs : List (List Int)} {n : Nat} (hl : ∀ zs ∈ xs, zs.length = n) : xs.any (othC n) = false := by
  rw [Bool.eq_false_iff]
  intro h
  obtain ⟨z, hz, h⟩ := List.any_eq_true.1 h
  unfold othC at h
  rw [hl z hz] at h
  simp at h

set_option maxRecDepth 100000 in
set_option maxHeartbeats 3200000 in
theorem next_ok (xs : List (List Int)) (es : List Ev) (e : Ev) (n : Nat) (a1 a2 : Option Addr) (c1 c2 : Nat) (w : World) (hX : RowII w a1 xs) (hl : ∀ zs ∈ xs, zs.length = n) (hxl : xs.length = es.length) (hE : RowEv w a2 es) (hEg : ∀ G O, a2 = some ⟨G, O, none⟩ → G < w.heap.size) (hok : ∀ x ∈ es, x.ok) (heo : e.ok) (hw : wrongZ (es ++ [e]) n = 0) (hk1 : es.length ≤ c1) (hk2 : es.length ≤ c2) :
    Calls Try.prog 14 #[.slice a1 es.length c1, .slice a2 es.length c2, .int .i64 n, .agg e.cells.toArray] w fun r w' => ∃ g, r = .returned (.tuple #[.slice (some ⟨g, 0, none⟩) n n, .int .i64 0]) ∧ WrI w' g 0 (flZ xs es e (List.replicate n 0)) ∧ w.heap.size ≤ g ∧ Below w.heap.size w w' := by
  obtain ⟨h1, h2, h3, h4⟩ := wrongZ_ok hw
  obtain ⟨i0, hi, hz0, hz1, hz2⟩ := info_parts Try.info3
  have hn1 : 0 < n := by omega
  have hn2 : n ≤ 16 := by omega
  have hlen : es.length ≤ 1023 := by rw [List.length_append] at h3; simp at h3; exact h3
  have het := h4 e (by simp)
  have HB : Hid (∀ u v, Below w.heap.size w u → Below u.heap.size u v → Below w.heap.size w v) := fun u v h1 h2 => h1.trans (h2.mono h1.size)
  have HR : Hid (∀ u gb, Below w.heap.size w u → RowEv u (some ⟨gb, 0, none⟩) [e] → Calls Try.prog 29 #[.int .i64 n, .slice a2 es.length c2, .slice (some ⟨gb, 0, none⟩) 1 1] u fun r w' => r = .returned (.int .i64 0) ∧ Below u.heap.size u w') := fun u gb hu hr => by
    have := refused_any es [e] n a2 (some ⟨gb, 0, none⟩) c2 1 u (hE.below hu) hr (by omega) (by simp) hk2 (by simp)
    rwa [hw] at this
  have HY : Hid (∀ u gb, Below w.heap.size w u → u.cell? ⟨gb, 0, none⟩ = some (.int .i64 n) → Calls Try.prog 36 #[.slice a1 es.length c1, fnOth gb] u fun r w' => r = .returned (.bool false) ∧ Below u.heap.size u w') := fun u gb hu hc => by
    have := anyII_any xs n gb a1 c1 u hc (hX.below hu) (by omega) (by omega)
    rwa [any_oth hl, hxl] at this
  obtain ⟨Z, hZ⟩ : ∃ Z, Hid (Z = flZ xs es e (List.replicate n 0)) := ⟨_, (rfl : _ = flZ _ _ _ _)⟩
  rw [← hZ.out]
  have HF : Hid (∀ u g, Below w.heap.size w u → w.heap.size ≤ g → WrI u g 0 (List.replicate n 0) → Calls Try.prog 37 #[.slice (some ⟨g, 0, none⟩) n n, .slice a1 es.length c1, .slice a2 es.length c2, .agg e.cells.toArray] u fun r w' => r = .returned (.tuple #[]) ∧ WrI w' g 0 Z ∧ Ovr g 0 (0 + n) u w') := fun u g hu hg hW => by
    rw [hZ.out]
    exact fill_any g 0 n n (List.replicate n 0) a1 c1 xs a2 c2 es e u hW (by simp) hn1 hn2 (hX.far hl hn1 hg hu) hxl (hE.below hu) (fun G O h => by have := hEg G O h; omega) hok heo het.1 het.2 (by omega) (Nat.le_refl _) hk1 hk2
  obtain ⟨m, hm⟩ : ∃ m, m = es.length := ⟨_, rfl⟩
  rw [← hm] at HR HY HF hk1 hk2 hlen ⊢
  clear hX hl hE hEg hok heo hw h1 h2 h3 h4 het hZ hm
  obtain ⟨et, ek, eo⟩ := e
  simp only [Ev.cells] at HF ⊢
  unfold fnOth at HY
  go_enter Try.func14, Try.ntmps14
  go_wp2_with (first | (refine wpList_box_at rfl 25 (.tmp 3) rfl [.int .i64 et, .int .i64 ek, .int .i64 eo] rfl ?_; intro w1 hA1 hb1 hs1; refine Hid.out ?_))
  refine hidU ?_
  obtain ⟨wa, hwa⟩ : ∃ wa, wa = w.alloc (.cells #[.int .i64 n] 3) := ⟨_, rfl⟩
  have hsa : wa.heap.size = w.heap.size + 1 := by rw [hwa]; simp
  have hba : Below w.heap.size w wa := by rw [hwa]; exact (Below.refl _ w).alloc (Nat.le_refl _) _
  have hca : wa.cell? ⟨w.heap.size, 0, none⟩ = some (.int .i64 n) := by rw [hwa]; unfold World.cell?; rw [heap_new]; rfl
  rw [← hwa] at hA1 hb1 hs1
  rw [hsa] at hA1 hs1
  clear hwa
  have hB1 : Hid (Below w.heap.size w w1) := HB.out _ _ hba hb1
  have c1' : w1.cell? ⟨w.heap.size, 0, none⟩ = some (.int .i64 n) := (hb1.cell (lt_of_cell hca)).trans hca
  have y0 : w1.cell? ⟨w.heap.size + 1, 0, none⟩ = some (.int .i64 et) := hA1.cell 0
  have y1 : w1.cell? ⟨w.heap.size + 1, 1, none⟩ = some (.int .i64 ek) := hA1.cell 1
  have y2 : w1.cell? ⟨w.heap.size + 1, 2, none⟩ = some (.int .i64 eo) := hA1.cell 2
  have HA1 : Hid (At 25 w1 (w.heap.size + 1) [.int .i64 et, .int .i64 ek, .int .i64 eo]) := hA1
  clear hA1 hb1 hs1 hsa hba hca
  go_wp2_with fail
  have hbb : Below w1.heap.size w1 (w1.alloc (.cells #[.int .i64 et, .int .i64 ek, .int .i64 eo] 25)) := (Below.refl _ w1).alloc (Nat.le_refl _) _
  have hrb : RowEv (w1.alloc (.cells #[.int .i64 et, .int .i64 ek, .int .i64 eo] 25)) (some ⟨w1.heap.size, 0, none⟩) [⟨et, ek, eo⟩] := by
    refine .inr ⟨w1.heap.size, 0, rfl, fun i x hx j v hj => ?_⟩
    have hi0 : i = 0 := by have := (List.getElem?_eq_some_iff.1 hx).1; simpa using this
    subst hi0
    simp at hx
    subst hx
    rw [Nat.zero_mul, Nat.zero_add]
    unfold World.cell?
    rw [heap_new]
    simpa [Ev.cells] using hj
  refine (HR.out _ w1.heap.size (HB.out _ _ hB1.out hbb) hrb).mono ?_
  rintro _ w2 ⟨rfl, hb2⟩
  have hb12 : Below w1.heap.size w1 w2 := hbb.trans (hb2.mono hbb.size)
  have hB2 : Hid (Below w.heap.size w w2) := HB.out _ _ hB1.out hb12
  have c2' : w2.cell? ⟨w.heap.size, 0, none⟩ = some (.int .i64 n) := (hb12.cell (lt_of_cell c1')).trans c1'
  have HA2 : Hid (At 25 w2 (w.heap.size + 1) [.int .i64 et, .int .i64 ek, .int .i64 eo]) := HA1.out.below hb12
  clear hbb hrb hb2 hb12 HA1 hB1 HR c1' y0 y1 y2
  go_wp2_with (go_at_call 36; refine (HY.out _ _ hB2.out c2').mono ?_; rintro _ w3 ⟨rfl, hb3⟩; refine Hid.out ?_)
  refine hidU ?_
  have c3' : w3.cell? ⟨w.heap.size, 0, none⟩ = some (.int .i64 n) := (hb3.cell (lt_of_cell c2')).trans c2'
  have hB3 : Hid (Below w.heap.size w w3) := HB.out _ _ hB2.out hb3
  have HA3 : Hid (At 25 w3 (w.heap.size + 1) [.int .i64 et, .int .i64 ek, .int .i64 eo]) := HA2.out.below hb3
  clear hb3 c2' hB2 HA2 HY
  go_wp2_with (at_make; refine wpList_make_full _ rfl (.tmp 32) (.tmp 32) 26 rfl w3.heap.size 3 i0 (.int .i64 0) 1 Try.underlying26 hi hz0 hz1 .i64 .i64 _ _ n rfl rfl rfl rfl (by rw [hz2]; omega) (by unfold maxLen; omega) (Nat.le_refl _) ?_)
  intro w4 hown4 hgrow4
  have hb4 : Below w3.heap.size w3 w4 := (Below.refl _ w3).grown hgrow4 (Nat.le_refl _) (by intro k hk; cases hk)
  have hW4 : Hid (WrI w4 w3.heap.size 0 (List.replicate n 0)) := by
    obtain ⟨_, ⟨h, _⟩ | ⟨g, cp, cur, h, hg, hh, _, _, hs, ht⟩⟩ := hown4
    · cases h
    · cases h
      have hcur : cur.toList = (madeCells #[Value.int .i64 0] n).toList := by rw [← ht, List.take_of_length_le (by simp [hs])]
      refine ⟨cur.toList, by unfold BlkI; rw [hh], fun k z hz => ?_⟩
      have htn : k < n := by have := (List.getElem?_eq_some_iff.1 hz).1; simpa using this
      rw [List.getElem?_replicate, if_pos htn] at hz
      cases hz
      rw [hcur, toList_madeCells_one, List.getElem?_replicate, if_pos (by omega)]
  have hB4 : Hid (Below w.heap.size w w4) := HB.out _ _ hB3.out hb4
  have hA4 := HA3.out.below hb4
  have y0 : w4.cell? ⟨w.heap.size + 1, 0, none⟩ = some (.int .i64 et) := hA4.cell 0
  have y1 : w4.cell? ⟨w.heap.size + 1, 1, none⟩ = some (.int .i64 ek) := hA4.cell 1
  have y2 : w4.cell? ⟨w.heap.size + 1, 2, none⟩ = some (.int .i64 eo) := hA4.cell 2
  have hg3 : w.heap.size ≤ w3.heap.size := hB3.out.size
  clear hown4 hgrow4 hb4 hA4 HA3 c3'
  obtain ⟨g, hg⟩ : ∃ g, g = w3.heap.size := ⟨_, rfl⟩
  rw [← hg] at hg3 hW4 ⊢
  clear hB3 hg
  go_wp2_with (go_at_call 37; refine (HF.out _ _ hB4.out hg3 hW4.out).mono ?_; rintro _ w5 ⟨rfl, hW5, hO5⟩; refine Hid.out ?_)
  refine hidU ?_
  have hB5 : Hid (Below w.heap.size w w5) := hO5.below hB4.out hg3 hB4.out.size
  have hW5' : Hid (WrI w5 g 0 Z) := hW5
  clear hW5 hO5 hW4 hB4 HF y0 y1 y2
  go_wp2_with fail
  go_ret2
  exact ⟨g, rfl, hW5'.out, hg3, hB5.out⟩
end Go.Proofs.Ytjedkfohmedmaaa
