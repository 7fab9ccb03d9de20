/- The given answer's 'wrong': what is wrong with a trace. -/
import Derived.Test.YtjedkfohmedmaaaPkA
namespace Go.Proofs.Ytjedkfohmedmaaa
open Go.RowKit
set_option linter.unusedVariables false

/-- An event's thread is none of n. -/
def badEv (n : Int) (e : Ev) : Bool := decide (e.th < 0) || decide (n ≤ e.th)
/-- What is wrong with a trace. -/
def wrongZ (es : List Ev) (n : Int) : Int := if n < 1 ∨ 16 < n then 2 else if 1024 < es.length then 3 else if es.any (badEv n) then 2 else 0

set_option maxRecDepth 100000 in
set_option maxHeartbeats 3200000 in
theorem refWrong_any (es : List Ev) (n : Int) (a : Option Addr) (c : Nat) (w : World) (h : RowEv w a es) (hl : es.length ≤ 4611686018427387904) (hk : es.length ≤ c) :
    Calls Try.prog 31 #[.slice a es.length c, .int .i64 n] w fun r w' => r = .returned (.int .i64 (wrongZ es n)) ∧ w' = w := by
  obtain ⟨R, hR⟩ : ∃ R, Hid (R = wrongZ es n) := ⟨_, (rfl : _ = wrongZ _ _)⟩
  rw [← hR.out]
  obtain ⟨m, hm⟩ : ∃ n, Hid (n = es.length) := ⟨_, (rfl : es.length = _)⟩
  rw [← hm.out] at hl hk ⊢
  have HR : Hid (RowEv w a es) := h
  clear h
  by_cases hn1 : n < 1
  · have hRf : R = 2 := by rw [hR.out, wrongZ, if_pos (.inl hn1)]
    subst hRf
    go_enter Try.func31, Try.ntmps31
    go_wp2
    go_ret
    exact ⟨rfl, rfl⟩
  by_cases hn2 : 16 < n
  · have hRf : R = 2 := by rw [hR.out, wrongZ, if_pos (.inr hn2)]
    subst hRf
    go_enter Try.func31, Try.ntmps31
    go_wp2
    go_ret
    exact ⟨rfl, rfl⟩
  by_cases hm2 : 1024 < m
  · have hRf : R = 3 := by rw [hR.out, wrongZ, if_neg (by omega), if_pos (by rw [← hm.out]; exact hm2)]
    subst hRf
    go_enter Try.func31, Try.ntmps31
    go_wp2
    go_ret
    exact ⟨rfl, rfl⟩
  have hR2 : Hid (R = if es.any (badEv n) then 2 else 0) := by show R = _; rw [hR.out, wrongZ, if_neg (by omega), if_neg (by rw [← hm.out]; exact hm2)]
  clear hR
  go_enter Try.func31, Try.ntmps31
  go_wp2
  go_loopw [5] (fun j wr => ∃ i : Nat, j = .int .i64 (i : Int) ∧ i ≤ m ∧ wr = w ∧ Hid (∀ (q : Nat) (e : Ev), q < i → es[q]? = some e → badEv n e = false)) (fun j _ => m - (intOf j).toNat)
  case atStart => exact ⟨0, rfl, by omega, rfl, fun q e hq => by omega⟩
  case round =>
    obtain ⟨i, rfl, hi, rfl, hX⟩ := hrel
    by_cases hc : i < m
    · obtain ⟨e, he⟩ : ∃ k, es[i]? = some k := ⟨es[i]'(by rw [← hm.out]; exact hc), by rw [List.getElem?_eq_getElem]⟩
      obtain ⟨g, o, rfl, hr⟩ := HR.out.at i e he
      obtain ⟨q1, q2, q3⟩ := range_cells hr
      have HE : Hid (es[i]? = some e) := he
      have HB : Hid (badEv n e = (decide (e.th < 0) || decide (n ≤ e.th))) := rfl
      obtain ⟨t, ht⟩ : ∃ t, Hid (t = e.th) := ⟨_, (rfl : e.th = _)⟩
      rw [← ht.out] at q1 HB
      clear he hr q2 q3
      have bad : badEv n e = true → R = 2 := fun hb => by rw [hR2.out, if_pos (List.any_eq_true.2 ⟨e, List.mem_of_getElem? HE.out, hb⟩)]
      by_cases h0 : t < 0
      · have hRf := bad (by rw [HB.out, decide_eq_true h0]; rfl)
        subst hRf
        clear bad hR2
        go_wp2
        go_ret
        exact ⟨rfl, rfl⟩
      by_cases h1 : n ≤ t
      · have hRf := bad (by rw [HB.out, decide_eq_true h1]; simp)
        subst hRf
        clear bad hR2
        go_wp2
        go_ret
        exact ⟨rfl, rfl⟩
      clear bad
      go_wp2
      go_roundw
      case rel =>
        refine ⟨i + 1, by go_num, by omega, by trivial, fun q x hq hx => ?_⟩
        by_cases hqi : q = i
        · subst hqi
          rw [HE.out] at hx
          cases hx
          rw [HB.out, decide_eq_false (by omega), decide_eq_false (by omega)]
          rfl
        · exact hX.out q x (by omega) hx
      case measure => simp [intOf]; omega
    · have hRf : R = 0 := by
        rw [hR2.out, if_neg]
        intro hb
        obtain ⟨e, he, hb⟩ := List.any_eq_true.1 hb
        obtain ⟨q, hq⟩ := List.getElem?_of_mem he
        have := (List.getElem?_eq_some_iff.1 hq).1
        rw [← hm.out] at this
        rw [hX.out q e (by omega) hq] at hb
        cases hb
      subst hRf
      clear hX hR2
      go_wp2
      go_ret
      exact ⟨rfl, rfl⟩
end Go.Proofs.Ytjedkfohmedmaaa
