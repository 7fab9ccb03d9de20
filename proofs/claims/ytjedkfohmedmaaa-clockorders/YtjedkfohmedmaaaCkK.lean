/- clock.Ahead by the clocks of a trace: what happens ahead of what. -/
import Derived.Test.YtjedkfohmedmaaaCkJ
namespace Go.Proofs.Ytjedkfohmedmaaa
open Go.RowKit
set_option linter.unusedVariables false
attribute [local go_sem ↓] Go.wp_at_zero Go.wp_at_succ

theorem plc_yes {z m : Int} (h1 : 0 ≤ z) (h2 : z < m) : plc z m = true := by simp [plc, h1, h2]
theorem hbB_tells (ev : Nat → Ev) (p q : Nat) : (decide (p < q) && decide (((clk ev p (ev p).th : Nat) : Int) ≤ ((clk ev q (ev p).th : Nat) : Int))) = hbB ev q p := by
  rw [Bool.eq_iff_iff, hbB_iff]
  simp only [Bool.and_eq_true, decide_eq_true_eq]
  constructor
  · rintro ⟨h1, h2⟩
    exact (clk_tells ev p q h1).1 (by omega)
  · intro h
    exact ⟨h.lt, by have := (clk_tells ev p q h.lt).2 h; omega⟩

/-- The clocks of a trace, and the trace. -/
structure Tr (w : World) (a1 a2 : Option Addr) (es : List Ev) (n : Nat) : Prop where
  row : RowII w a1 (clksL (evAt es) n es.length)
  evs : RowEv w a2 es
  n1 : 0 < n
  n2 : n ≤ 16
  len : es.length ≤ 1024
  ok : ∀ x ∈ es, x.ok
  th : ∀ x ∈ es, 0 ≤ x.th ∧ x.th < n
theorem Tr.below {w w' : World} {a1 a2 : Option Addr} {es : List Ev} {n : Nat} (h : Tr w a1 a2 es n) (hb : Below w.heap.size w w') : Tr w' a1 a2 es n :=
  ⟨h.row.below hb, h.evs.below hb, h.n1, h.n2, h.len, h.ok, h.th⟩

set_option maxRecDepth 100000 in
set_option maxHeartbeats 1600000 in
theorem ahead_ok (es : List Ev) (n p q : Nat) (a1 a2 : Option Addr) (c1 c2 : Nat) (w : World) (hT : Tr w a1 a2 es n) (hp : p < es.length) (hq : q < es.length) (hk1 : es.length ≤ c1) (hk2 : es.length ≤ c2) :
    Calls Try.prog 12 #[.slice a1 es.length c1, .slice a2 es.length c2, .int .i64 p, .int .i64 q] w fun r w' => r = .returned (.tuple #[.bool (hbB (evAt es) q p), .int .i64 0]) ∧ Below w.heap.size w w' := by
  obtain ⟨ev, hev⟩ : ∃ ev, ev = evAt es := ⟨_, rfl⟩
  have he := List.getElem?_eq_getElem hp
  have hf := List.getElem?_eq_getElem hq
  obtain ⟨e, hee⟩ : ∃ e, e = es[p] := ⟨_, rfl⟩
  obtain ⟨f, hff⟩ : ∃ e, e = es[q] := ⟨_, rfl⟩
  rw [← hee] at he
  rw [← hff] at hf
  have the := hT.th e (List.mem_of_getElem? he)
  have thf := hT.th f (List.mem_of_getElem? hf)
  obtain ⟨s, hs⟩ : ∃ s : Nat, e.th = (s : Int) := ⟨e.th.toNat, by omega⟩
  have hsn : s < n := by omega
  have hevp : ev p = e := by rw [hev]; exact evAt_eq he
  have hx := clksL_at (ev := ev) (n := n) hp
  have hy := clksL_at (ev := ev) (n := n) hq
  have HI := fun u (hu : Below w.heap.size w u) => isAhead_any (clksL ev n es.length) es p q s _ _ e _ _ es.length es.length a1 a2 c1 c2 u (by rw [hev]; exact hT.row.below hu) (hT.evs.below hu) hx hy he hs (clkL_at hsn) (clkL_at hsn) (by rw [clksL_length]; exact Nat.le_refl _) (Nat.le_refl _) hk1 hk2 (by have := hT.len; omega) (by have := hT.len; omega)
  rw [← hs, ← hevp, hbB_tells] at HI
  have HI' : Hid (∀ u, Below w.heap.size w u → Calls Try.prog 34 #[.slice a1 es.length c1, .slice a2 es.length c2, .int .i64 p, .int .i64 q] u fun r w' => r = .returned (.bool (hbB ev q p)) ∧ Below w.heap.size w w') := fun u hu => (HI u hu).mono fun r w' ⟨h1, h2⟩ => ⟨h1, hu.trans (h2.mono hu.size)⟩
  have hR := hT.row
  rw [← hev] at hR
  obtain ⟨g1, o1, b1, k1, rfl, r1, -, i2, -⟩ := hR.at p _ hx
  obtain ⟨g2, o2, b2, k2, hg2, r2, -, j2, -⟩ := hR.at q _ hy
  cases hg2
  rw [clkL_length] at r1 r2 i2 j2
  obtain ⟨g3, o3, rfl, r3⟩ := hT.evs.at p e he
  obtain ⟨g4, o4, hg4, r4⟩ := hT.evs.at q f hf
  cases hg4
  obtain ⟨t1, -, -⟩ := range_cells r3
  obtain ⟨t2, -, -⟩ := range_cells r4
  have hlen := hT.len
  have hn2 := hT.n2
  rw [← hev]
  obtain ⟨R, hRR⟩ : ∃ R, R = hbB ev q p := ⟨_, rfl⟩
  rw [← hRR] at HI' ⊢
  obtain ⟨et, hx1⟩ : ∃ z, z = e.th := ⟨_, rfl⟩
  obtain ⟨ft, hx2⟩ : ∃ z, z = f.th := ⟨_, rfl⟩
  rw [← hx1] at t1 the
  rw [← hx2] at t2 thf
  obtain ⟨m, hm⟩ : ∃ m, m = es.length := ⟨_, rfl⟩
  rw [← hm] at HI' hp hq hk1 hk2 hlen ⊢
  have p1 := plc_yes (z := (p : Int)) (m := (m : Int)) (by omega) (by omega)
  have p2 := plc_yes (z := (q : Int)) (m := (m : Int)) (by omega) (by omega)
  have p3 := plc_yes (z := et) (m := (n : Int)) the.1 the.2
  have p4 := plc_yes (z := ft) (m := (n : Int)) thf.1 thf.2
  clear HI hR hT hev he hf hee hff hs hsn hevp hx hy r3 r4 hRR hx1 hx2 hm
  go_enter Try.func12, Try.ntmps12
  go_wp2_with (go_at_call 33; refine (isPlace_any _ _ _).mono ?_; rintro _ w2 ⟨rfl, rfl⟩)
  go_quiet (fail)
  go_wp2_with (first | (go_at_call 33; refine (isPlace_any _ _ _).mono ?_; rintro _ w2 ⟨rfl, rfl⟩) | (go_at_call 34; refine (HI'.out _ (below_drN (Below.refl _ _) _)).mono ?_; rintro _ w3 ⟨rfl, hb3⟩))
  go_ret2
  exact ⟨rfl, hb3⟩
end Go.Proofs.Ytjedkfohmedmaaa
