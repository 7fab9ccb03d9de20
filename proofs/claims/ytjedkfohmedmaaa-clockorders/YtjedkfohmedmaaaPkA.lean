/- assizekit.Pick: a number below another one. -/
import Derived.Test.YtjedkfohmedmaaaOvI
namespace Go.Proofs.Ytjedkfohmedmaaa
open Go.RowKit
set_option linter.unusedVariables false

set_option maxRecDepth 100000 in
set_option maxHeartbeats 800000 in
theorem pick_any (x n : Int) (w : World) (hx1 : -9223372036854775808 ≤ x) (hx2 : x < 9223372036854775808) (hn2 : n < 9223372036854775808) :
    Calls Try.prog 25 #[.int .i64 x, .int .i64 n] w fun e w' => (∃ k : Nat, e = .returned (.int .i64 k) ∧ (1 ≤ n → (k : Int) < n) ∧ (n < 1 → k = 0)) ∧ w' = w := by
  by_cases hn : n < 1
  · go_enter Try.func25, Try.ntmps25
    go_wp2
    go_ret
    exact ⟨⟨0, rfl, by omega, fun _ => rfl⟩, rfl⟩
  · have hn0 : (n == 0) = false := by rw [beq_eq_false_iff_ne]; omega
    obtain ⟨r, hr⟩ : ∃ r, r = x.tmod n := ⟨_, rfl⟩
    have hr1 : r < n := by rw [hr]; exact Int.tmod_lt_of_pos _ (by omega)
    have hr2 : -n < r := by rw [hr]; have := Int.tmod_lt_of_pos (-x) (b := n) (by omega); rw [Int.neg_tmod] at this; omega
    have hrw : IntKind.i64.wrap (x.tmod n) = r := by rw [← hr, IntKind.wrap_i64]; omega
    by_cases hneg : r < 0
    · have hw : IntKind.i64.wrap (r + n) = r + n := by rw [IntKind.wrap_i64]; omega
      go_enter Try.func25, Try.ntmps25
      go_wp2
      go_ret
      exact ⟨⟨(r + n).toNat, by go_num, by omega, by omega⟩, rfl⟩
    · go_enter Try.func25, Try.ntmps25
      go_wp2
      go_ret
      exact ⟨⟨r.toNat, by go_num, by omega, by omega⟩, rfl⟩
end Go.Proofs.Ytjedkfohmedmaaa
