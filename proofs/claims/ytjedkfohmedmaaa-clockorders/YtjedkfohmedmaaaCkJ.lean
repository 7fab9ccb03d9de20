/- clock.Clocks of any events; clock.isAhead. -/
import Derived.Test.YtjedkfohmedmaaaCkI
namespace Go.Proofs.Ytjedkfohmedmaaa
open Go.RowKit
set_option linter.unusedVariables false
attribute [local go_sem ↓] Go.wp_at_zero Go.wp_at_succ

theorem wrongZ_ok {es : List Ev} {n : Int} (h : wrongZ es n = 0) : 1 ≤ n ∧ n ≤ 16 ∧ es.length ≤ 1024 ∧ ∀ x ∈ es, 0 ≤ x.th ∧ x.th < n := by
  unfold wrongZ at h
  split at h
  · cases h
  · rename_i h1
    split at h
    · cases h
    · rename_i h2
      split at h
      · cases h
      · rename_i h3
        refine ⟨by omega, by omega, by omega, fun x hx => ?_⟩
        have h4 : badEv n x = false := by
          rw [Bool.eq_false_iff]
          intro hb
          exact h3 (List.any_eq_true.2 ⟨x, hx, hb⟩)
        unfold badEv at h4
        simp at h4
        omega
theorem wrongZ_of {es : List Ev} {n : Int} (h1 : 1 ≤ n) (h2 : n ≤ 16) (h3 : es.length ≤ 1024) (h4 : ∀ x ∈ es, 0 ≤ x.th ∧ x.th < n) : wrongZ es n = 0 := by
  unfold wrongZ
  rw [if_neg (by omega), if_neg (by omega), if_neg]
  intro hb
  obtain ⟨x, hx, hb⟩ := List.any_eq_true.1 hb
  have := h4 x hx
  unfold badEv at hb
  simp at hb
  omega

set_option maxRecDepth 100000 in
set_option maxHeartbeats 1600000 in
theorem clocks_bad (a : Option Addr) (c : Nat) (n : Int) (es : List Ev) (w : World) (hE : RowEv w a es) (hl : es.length ≤ 4611686018427387904) (hc : es.length ≤ c) (hb : wrongZ es n ≠ 0) :
    Calls Try.prog 8 #[.slice a es.length c, .int .i64 n] w fun r w' => r = .returned (.tuple #[.slice none 0 0, .int .i64 (wrongZ es n)]) ∧ Below w.heap.size w w' := by
  have HR := refused_any es [] n a none c 0 w hE (.inl rfl) hl (by simp) hc (by simp)
  rw [List.append_nil] at HR
  obtain ⟨m, hm⟩ : ∃ m, m = es.length := ⟨_, rfl⟩
  obtain ⟨R, hR⟩ : ∃ R, R = wrongZ es n := ⟨_, rfl⟩
  rw [← hm, ← hR] at HR ⊢
  rw [← hR] at hb
  have hb2 : (R == 0) = false := by rw [beq_eq_false_iff_ne]; exact hb
  simp only [List.length_nil] at HR
  clear hE hl hc hm hR hb
  go_enter Try.func8, Try.ntmps8
  go_wp2_with (go_at_call 29; refine HR.mono ?_; rintro _ w2 ⟨rfl, hb⟩)
  go_ret2
  exact ⟨rfl, hb⟩

set_option maxRecDepth 100000 in
set_option maxHeartbeats 1600000 in
theorem clocks_ok (a : Option Addr) (c n : Nat) (es : List Ev) (w : World) (hE : RowEv w a es) (hok : ∀ x ∈ es, x.ok) (hc : es.length ≤ c) (hb : wrongZ es n = 0) :
    Calls Try.prog 8 #[.slice a es.length c, .int .i64 n] w fun r w' => ∃ G M, r = .returned (.tuple #[.slice (some ⟨G, 0, none⟩) es.length es.length, .int .i64 0]) ∧ ClkAt w.heap.size w' G M n (clksL (evAt es) n es.length) ∧ Below w.heap.size w w' := by
  obtain ⟨h1, h2, h3, h4⟩ := wrongZ_ok hb
  have HR := refused_any es [] n a none c 0 w hE (.inl rfl) (by omega) (by simp) hc (by simp)
  rw [List.append_nil, hb] at HR
  have HC : Hid (∀ u, Below w.heap.size w u → Calls Try.prog 30 #[.slice a es.length c, .int .i64 n] u fun r w' => ∃ G M, r = .returned (.slice (some ⟨G, 0, none⟩) es.length es.length) ∧ ClkAt w.heap.size w' G M n (clksL (evAt es) n es.length) ∧ Below w.heap.size w w') := fun u hu => (clocksOf_any a c n es u (hE.below hu) hok h4 (by omega) (by omega) h3 hc).mono fun r w' ⟨G, M, e1, e2, e3⟩ => ⟨G, M, e1, ⟨e2.heads, e2.mem, e2.lens, Nat.le_trans hu.size e2.bm, Nat.le_trans hu.size e2.bg, e2.ne⟩, hu.trans (e3.mono hu.size)⟩
  obtain ⟨m, hm⟩ : ∃ m, m = es.length := ⟨_, rfl⟩
  rw [← hm] at HR HC ⊢
  simp only [List.length_nil] at HR
  clear hE hc hm h1 h2 h3 h4 hb
  go_enter Try.func8, Try.ntmps8
  go_wp2_with (first | (go_at_call 29; refine HR.mono ?_; rintro _ w2 ⟨rfl, hb⟩; have hb' : Hid (Below w.heap.size w w2) := hb; clear hb) | (go_at_call 30; refine (HC.out _ hb'.out).mono ?_; rintro _ w3 ⟨G, M, rfl, hA, hb3⟩))
  go_ret2
  exact ⟨G, M, rfl, hA, hb3⟩

set_option maxRecDepth 100000 in
set_option maxHeartbeats 1600000 in
theorem isAhead_any (xs : List (List Int)) (es : List Ev) (p q s : Nat) (x y : List Int) (e : Ev) (v1 v2 : Int) (m1 m2 : Nat) (a1 a2 : Option Addr) (c1 c2 : Nat) (w : World) (h1 : RowII w a1 xs) (h2 : RowEv w a2 es) (hx : xs[p]? = some x) (hy : xs[q]? = some y) (he : es[p]? = some e) (ht : e.th = (s : Int)) (hv1 : x[s]? = some v1) (hv2 : y[s]? = some v2)
    (hm1 : xs.length ≤ m1) (hm2 : es.length ≤ m2) (hk1 : m1 ≤ c1) (hk2 : m2 ≤ c2) (hl1 : m1 ≤ 1048576) (hl2 : m2 ≤ 4611686018427387904) :
    Calls Try.prog 34 #[.slice a1 m1 c1, .slice a2 m2 c2, .int .i64 p, .int .i64 q] w fun r w' => r = .returned (.bool (decide (p < q) && decide (v1 ≤ v2))) ∧ Below w.heap.size w w' := by
  have hp : p < m1 := Nat.lt_of_lt_of_le (List.getElem?_eq_some_iff.1 hx).1 hm1
  have hq : q < m1 := Nat.lt_of_lt_of_le (List.getElem?_eq_some_iff.1 hy).1 hm1
  have hp2 : p < m2 := Nat.lt_of_lt_of_le (List.getElem?_eq_some_iff.1 he).1 hm2
  obtain ⟨g1, o1, b1, k1, rfl, r1, i1, i2, i3⟩ := h1.at p x hx
  obtain ⟨g2, o2, b2, k2, hg2, r2, j1, j2, j3⟩ := h1.at q y hy
  cases hg2
  obtain ⟨g3, o3, rfl, r3⟩ := h2.at p e he
  obtain ⟨t1, -, -⟩ := range_cells r3
  rw [ht] at t1
  obtain ⟨f1, w1, rfl, y1⟩ := i1.at s v1 hv1
  obtain ⟨f2, w2, rfl, y2⟩ := j1.at s v2 hv2
  have hs1 : s < x.length := (List.getElem?_eq_some_iff.1 hv1).1
  have hs2 : s < y.length := (List.getElem?_eq_some_iff.1 hv2).1
  obtain ⟨lx, hlx⟩ : ∃ l, l = x.length := ⟨_, rfl⟩
  obtain ⟨ly, hly⟩ : ∃ l, l = y.length := ⟨_, rfl⟩
  rw [← hlx] at r1 hs1 i2 i3
  rw [← hly] at r2 hs2 j2 j3
  clear h1 h2 hx hy he ht hv1 hv2 i1 j1 r3 hlx hly hm1 hm2
  by_cases d5 : p < q
  · have d0 : (p : Int) < (q : Int) := by omega
    rw [decide_eq_true d5]
    by_cases d9 : v1 ≤ v2
    · rw [decide_eq_true d9]
      go_enter Try.func34, Try.ntmps34
      go_wp2_with fail
      go_quiet (fail)
      go_wp2
      go_ret
      exact ⟨by simp, by first | exact Below.refl _ _ | exact below_drN (Below.refl _ _) _⟩
    · have d10 : decide (v1 ≤ v2) = false := decide_eq_false d9
      rw [d10]
      go_enter Try.func34, Try.ntmps34
      go_wp2_with fail
      go_quiet (fail)
      go_wp2
      go_ret
      exact ⟨by simp, by first | exact Below.refl _ _ | exact below_drN (Below.refl _ _) _⟩
  · have d6 : ¬ (p : Int) < (q : Int) := by omega
    have d7 : (q : Int) ≤ (p : Int) := by omega
    have d8 : decide ((p : Int) < (q : Int)) = false := decide_eq_false d6
    rw [decide_eq_false d5]
    go_enter Try.func34, Try.ntmps34
    go_wp2_with fail
    go_quiet (fail)
    go_wp2
    go_ret
    exact ⟨by simp, by first | exact Below.refl _ _ | exact below_drN (Below.refl _ _) _⟩
end Go.Proofs.Ytjedkfohmedmaaa
