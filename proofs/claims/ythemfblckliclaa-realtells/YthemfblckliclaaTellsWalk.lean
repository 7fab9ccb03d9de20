/- The law RealTells, walked. -/
import Derived.Test.YthemfblckliclaaSmall2
namespace Go.Proofs.Ythemfblckliclaa
open Go.RowKit
set_option linter.unusedVariables false

set_option maxRecDepth 100000 in
set_option maxHeartbeats 1600000 in
theorem tells_walk (a b : Nat) (n : Int) (ha : a < 18446744073709551616) (hb : b < 18446744073709551616) (w : World) :
    Calls Try.prog 3 #[.int .u64 (a : Int), .int .u64 (b : Int), .int .i64 n] w fun e w' => e = .returned (.bool true) ∧ ∃ q, w' = w.drewN q := by
  obtain ⟨t1, ht1⟩ : ∃ t, t = (toIntOf a).1 := ⟨_, rfl⟩
  obtain ⟨t2, ht2⟩ : ∃ t, t = (toIntOf a).2 := ⟨_, rfl⟩
  go_enter Try.func3, Try.ntmps3
  go_wp2_with (first
    | (go_at_call 9; refine (toInt_any a _).mono ?_; rintro e w' ⟨rfl, rfl⟩; rw [← ht1, ← ht2])
    | (go_at_call 10; refine (refToInt_any a _).mono ?_; rintro e w' ⟨rfl, rfl⟩; rw [← ht1, ← ht2])
    | (go_at_call 11; refine (add_any a b _).mono ?_; rintro e w' ⟨rfl, q1, rfl⟩)
    | (go_at_call 12; refine (refAdd_any a b _).mono ?_; rintro e w' ⟨rfl, q2, rfl⟩)
    | (go_at_call 13; refine (sub_any a b _).mono ?_; rintro e w' ⟨rfl, q3, rfl⟩)
    | (go_at_call 14; refine (refSub_any a b _).mono ?_; rintro e w' ⟨rfl, q4, rfl⟩)
    | (go_at_call 15; refine (mul_any a b _).mono ?_; rintro e w' ⟨rfl, q5, rfl⟩)
    | (go_at_call 16; refine (refMul_any a b _).mono ?_; rintro e w' ⟨rfl, q6, rfl⟩)
    | (go_at_call 17; refine (div_any a b _).mono ?_; rintro e w' ⟨rfl, q7, rfl⟩)
    | (go_at_call 18; refine (refDiv_any a b _).mono ?_; rintro e w' ⟨rfl, q8, rfl⟩)
    | (go_at_call 19; refine (neg_any a ha _).mono ?_; rintro e w' ⟨rfl, rfl⟩)
    | (go_at_call 20; refine (refNeg_any a ha _).mono ?_; rintro e w' ⟨rfl, rfl⟩)
    | (go_at_call 21; refine (may_any a _ ha).mono ?_; rintro e w' ⟨rfl, rfl⟩)
    | (go_at_call 22; refine (refMay_any a _ ha).mono ?_; rintro e w' ⟨rfl, rfl⟩)
    | (go_at_call 23; refine (canon_any a _).mono ?_; rintro e w' ⟨rfl, rfl⟩)
    | (go_at_call 24; refine (refCanon_any a _).mono ?_; rintro e w' ⟨rfl, rfl⟩)
    | (go_at_call 25; refine (equal_any a b _).mono ?_; rintro e w' ⟨rfl, rfl⟩)
    | (go_at_call 26; refine (refEqual_any a b _).mono ?_; rintro e w' ⟨rfl, rfl⟩)
    | (go_at_call 27; refine (less_any a b _).mono ?_; rintro e w' ⟨rfl, rfl⟩)
    | (go_at_call 28; refine (refLess_any a b _).mono ?_; rintro e w' ⟨rfl, rfl⟩)
    | (go_at_call 29; refine (fromInt_any n _).mono ?_; rintro e w' ⟨rfl, rfl⟩)
    | (go_at_call 30; refine (refFromInt_any n _).mono ?_; rintro e w' ⟨rfl, rfl⟩))
  go_ret
  exact ⟨rfl, _, rfl⟩

end Go.Proofs.Ythemfblckliclaa
