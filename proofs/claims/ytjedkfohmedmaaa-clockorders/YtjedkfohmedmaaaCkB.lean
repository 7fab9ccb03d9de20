/- clock.refused: why events, with more behind them, are no trace. -/
import Derived.Test.YtjedkfohmedmaaaCkA
namespace Go.Proofs.Ytjedkfohmedmaaa
open Go.RowKit
set_option linter.unusedVariables false
attribute [local go_sem ↓] Go.wp_at_zero Go.wp_at_succ

set_option maxRecDepth 100000 in
set_option maxHeartbeats 3200000 in
theorem refused_any (es ms : List Ev) (n : Int) (a1 a2 : Option Addr) (c1 c2 : Nat) (w : World) (h1 : RowEv w a1 es) (h2 : RowEv w a2 ms) (hl1 : es.length ≤ 4611686018427387904) (hl2 : ms.length ≤ 1) (hk1 : es.length ≤ c1) (hk2 : ms.length ≤ c2) :
    Calls Try.prog 29 #[.int .i64 n, .slice a1 es.length c1, .slice a2 ms.length c2] w fun r w' => r = .returned (.int .i64 (wrongZ (es ++ ms) n)) ∧ Below w.heap.size w w' := by
  obtain ⟨R, hR⟩ : ∃ R, Hid (R = wrongZ (es ++ ms) n) := ⟨_, (rfl : _ = wrongZ _ _)⟩
  rw [← hR.out]
  have hb0 : Below w.heap.size w (w.alloc (.cells #[.int .i64 n] 3)) := (Below.refl _ w).alloc (Nat.le_refl _) _
  have hcn : (w.alloc (.cells #[.int .i64 n] 3)).cell? ⟨w.heap.size, 0, none⟩ = some (.int .i64 n) := by unfold World.cell?; rw [heap_new]; rfl
  have HC1 := anyEv_any es n w.heap.size a1 c1 (w.alloc (.cells #[.int .i64 n] 3)) hcn (h1.below hb0) hl1 hk1
  have HC2 : ∀ u, Below (w.alloc (.cells #[.int .i64 n] 3)).heap.size (w.alloc (.cells #[.int .i64 n] 3)) u → Calls Try.prog 44 #[.slice a2 ms.length c2, fnStr w.heap.size] u fun r w' => r = .returned (.bool (ms.any (badEv n))) ∧ Below u.heap.size u w' := fun u hu => anyEv_any ms n w.heap.size a2 c2 u ((hu.cell (lt_of_cell hcn)).trans hcn) ((h2.below hb0).below hu) (by omega) hk2
  obtain ⟨m1, hm1⟩ : ∃ n, n = es.length := ⟨_, rfl⟩
  obtain ⟨m2, hm2⟩ : ∃ n, n = ms.length := ⟨_, rfl⟩
  have hR2 : Hid (R = if n < 1 ∨ 16 < n then 2 else if 1024 < m1 + m2 then 3 else if es.any (badEv n) || ms.any (badEv n) then 2 else 0) := by
    show R = _
    rw [hR.out, wrongZ, List.length_append, List.any_append, hm1, hm2]
  obtain ⟨A1, hA1⟩ : ∃ A, A = es.any (badEv n) := ⟨_, rfl⟩
  obtain ⟨A2, hA2⟩ : ∃ A, A = ms.any (badEv n) := ⟨_, rfl⟩
  rw [← hA1, ← hm1] at HC1
  rw [← hA2, ← hm2] at HC2
  rw [← hA1, ← hA2] at hR2
  rw [← hm1] at hl1 hk1 ⊢
  rw [← hm2] at hl2 hk2 ⊢
  have HC2' : Hid _ := HC2
  clear hR hA1 hA2 hm1 hm2 h1 h2 HC2
  unfold fnStr at HC1 HC2'
  by_cases hn1 : n < 1
  · have hRf : R = 2 := by rw [hR2.out, if_pos (.inl hn1)]
    subst hRf
    go_enter Try.func29, Try.ntmps29
    go_wp2
    go_ret
    exact ⟨rfl, hb0⟩
  by_cases hn2 : 16 < n
  · have hRf : R = 2 := by rw [hR2.out, if_pos (.inr hn2)]
    subst hRf
    go_enter Try.func29, Try.ntmps29
    go_wp2
    go_ret
    exact ⟨rfl, hb0⟩
  have hw : IntKind.i64.wrap ((m1 : Int) + (m2 : Int)) = (m1 : Int) + (m2 : Int) := by rw [IntKind.wrap_i64]; omega
  by_cases hm : 1024 < m1 + m2
  · have hRf : R = 3 := by rw [hR2.out, if_neg (by omega), if_pos hm]
    have hm' : (1024 : Int) < (m1 : Int) + (m2 : Int) := by omega
    subst hRf
    go_enter Try.func29, Try.ntmps29
    go_wp2
    go_ret
    exact ⟨rfl, hb0⟩
  have hm' : ¬ (1024 : Int) < (m1 : Int) + (m2 : Int) := by omega
  have hR3 : Hid (R = if A1 || A2 then 2 else 0) := by show R = _; rw [hR2.out, if_neg (by omega), if_neg hm]
  clear hR2
  go_enter Try.func29, Try.ntmps29
  go_wp2_with (first | (go_at_call_of 44 m1; refine HC1.mono ?_; rintro e w2 ⟨rfl, hbel2⟩; have hB2 : Hid (Below w.heap.size w w2) := hb0.trans (hbel2.mono hb0.size); have HC3 := HC2'.out w2 hbel2; clear hbel2 HC1 HC2'; cases A1) | (go_at_call_of 44 m2; refine HC3.mono ?_; rintro e w3 ⟨rfl, hbel3⟩; have hB3 : Hid (Below w.heap.size w w3) := hB2.out.trans (hbel3.mono hB2.out.size); clear hbel3 HC3; cases A2))
  all_goals (have hRf := hR3.out; subst hRf; go_ret)
  · exact ⟨rfl, hB3.out⟩
  · exact ⟨rfl, hB3.out⟩
  · exact ⟨rfl, hB2.out⟩
end Go.Proofs.Ytjedkfohmedmaaa
