/- The law RealWhole, walked. -/
import Derived.Test.YthemfblckliclaaFlWhole
import Derived.Test.YthemfblckliclaaRingWalk
namespace Go.Proofs.Ythemfblckliclaa
open Go.RowKit
set_option linter.unusedVariables false

theorem tmod_small (m : Int) (k : Nat) (hk : 0 < k) : (m.tmod (k : Int)).natAbs < k := by
  rw [Int.natAbs_tmod, Int.natAbs_natCast]
  exact Nat.mod_lt _ hk

set_option maxRecDepth 100000 in
set_option maxHeartbeats 1600000 in
theorem whole_walk (m n : Int) (w : World) : Calls Try.prog 7 #[.int .i64 m, .int .i64 n] w fun e w' => e = .returned (.bool true) ∧ Below w.heap.size w w' := by
  obtain ⟨x, hx⟩ : ∃ x, m.tmod 4503599627370496 = x := ⟨_, rfl⟩
  obtain ⟨y, hy⟩ : ∃ y, n.tmod 4503599627370496 = y := ⟨_, rfl⟩
  have bx : x.natAbs < 4503599627370496 := by rw [← hx]; exact tmod_small m 4503599627370496 (by decide)
  have bys : y.natAbs < 4503599627370496 := by rw [← hy]; exact tmod_small n 4503599627370496 (by decide)
  obtain ⟨u, hu⟩ : ∃ u, x.tmod 67108864 = u := ⟨_, rfl⟩
  obtain ⟨v, hv⟩ : ∃ v, y.tmod 67108864 = v := ⟨_, rfl⟩
  have bu : u.natAbs < 67108864 := by rw [← hu]; exact tmod_small x 67108864 (by decide)
  have bv : v.natAbs < 67108864 := by rw [← hv]; exact tmod_small y 67108864 (by decide)
  have buv : (u * v).natAbs ≤ 4503599627370496 := by
    rw [Int.natAbs_mul]
    exact Nat.le_trans (Nat.mul_le_mul (Nat.le_of_lt bu) (Nat.le_of_lt bv)) (by decide)
  have wx := ofInt_whole x (by omega)
  have wy := ofInt_whole y (by omega)
  have wu := ofInt_whole u (by omega)
  have wv := ofInt_whole v (by omega)
  have ws := add_whole wx wy (by omega) (by omega) (by omega)
  have wd := add_whole wx (neg_whole (ofInt_lt y) wy) (by omega) (by omega) (by omega)
  rw [← fsub_eq _ _ (ofInt_lt y)] at wd
  have wp := mul_whole wu wv (by omega) (by omega) (by omega)
  have t1 := toInt_whole wx (by omega) (by omega)
  have t2 := toInt_whole ws (by omega) (by omega)
  have t3 := toInt_whole wd (by omega) (by omega)
  have t4 := toInt_whole wp (by omega) (by omega)
  have l1 := less_whole wx wy
  have l2 := equal_whole wx wy
  obtain ⟨A, hA⟩ : ∃ A, A = ofInt x := ⟨_, rfl⟩
  obtain ⟨B, hB⟩ : ∃ A, A = ofInt y := ⟨_, rfl⟩
  obtain ⟨C, hC⟩ : ∃ A, A = ofInt u := ⟨_, rfl⟩
  obtain ⟨E, hE⟩ : ∃ A, A = ofInt v := ⟨_, rfl⟩
  rw [← hA, ← hB] at t2 t3 l1 l2
  rw [← hA] at t1
  rw [← hC, ← hE] at t4
  have k1 : ∀ w, Calls Try.prog 29 #[.int .i64 x] w fun e w' => e = .returned (.int .u64 (A : Int)) ∧ w' = w := fun w => by rw [hA]; exact fromInt_any x w
  have k2 : ∀ w, Calls Try.prog 29 #[.int .i64 y] w fun e w' => e = .returned (.int .u64 (B : Int)) ∧ w' = w := fun w => by rw [hB]; exact fromInt_any y w
  have k3 : ∀ w, Calls Try.prog 29 #[.int .i64 u] w fun e w' => e = .returned (.int .u64 (C : Int)) ∧ w' = w := fun w => by rw [hC]; exact fromInt_any u w
  have k4 : ∀ w, Calls Try.prog 29 #[.int .i64 v] w fun e w' => e = .returned (.int .u64 (E : Int)) ∧ w' = w := fun w => by rw [hE]; exact fromInt_any v w
  have k5 : ∀ w, Calls Try.prog 9 #[.int .u64 (A : Int)] w fun e w' => e = .returned (.tuple #[.int .i64 x, .bool true]) ∧ w' = w := fun w => by have := toInt_any A w; rw [t1] at this; exact this
  have k6 : ∀ w, Calls Try.prog 9 #[.int .u64 (fadd A B : Nat)] w fun e w' => e = .returned (.tuple #[.int .i64 (x + y), .bool true]) ∧ w' = w := fun w => by have := toInt_any (fadd A B) w; rw [t2] at this; exact this
  have k7 : ∀ w, Calls Try.prog 9 #[.int .u64 (fsub A B : Nat)] w fun e w' => e = .returned (.tuple #[.int .i64 (x - y), .bool true]) ∧ w' = w := fun w => by have := toInt_any (fsub A B) w; rw [t3] at this; exact this
  have k8 : ∀ w, Calls Try.prog 9 #[.int .u64 (fmul C E : Nat)] w fun e w' => e = .returned (.tuple #[.int .i64 (u * v), .bool true]) ∧ w' = w := fun w => by have := toInt_any (fmul C E) w; rw [t4] at this; exact this
  clear wx wy wu wv ws wd wp t1 t2 t3 t4 hA hB hC hE
  have bp1 : u * v ≤ 4503599627370496 := by omega
  have bp2 : -4503599627370496 ≤ u * v := by omega
  have eqs : (x == y) = decide (x = y) := by by_cases h : x = y <;> simp [h]
  go_enter Try.func7, Try.ntmps7
  go_wp2_with fail
  refine (awake_any _).mono ?_
  rintro e w1 ⟨rfl, hb1⟩
  go_wp2_with fail
  refine (k1 _).mono ?_
  rintro e w' ⟨rfl, rfl⟩
  go_wp2_with fail
  refine (k2 _).mono ?_
  rintro e w' ⟨rfl, rfl⟩
  go_wp2_with fail
  refine (k5 _).mono ?_
  rintro e w' ⟨rfl, rfl⟩
  go_wp2_with fail
  refine (add_any A B _).mono ?_
  rintro e w' ⟨rfl, q1, rfl⟩
  go_wp2_with fail
  refine (k6 _).mono ?_
  rintro e w' ⟨rfl, rfl⟩
  go_wp2_with fail
  refine (sub_any A B _).mono ?_
  rintro e w' ⟨rfl, q2, rfl⟩
  go_wp2_with fail
  refine (k7 _).mono ?_
  rintro e w' ⟨rfl, rfl⟩
  go_wp2_with fail
  refine (less_any A B _).mono ?_
  rintro e w' ⟨rfl, rfl⟩
  rw [l1]
  go_wp2_with fail
  refine (equal_any A B _).mono ?_
  rintro e w' ⟨rfl, rfl⟩
  rw [l2]
  go_wp2_with fail
  refine (k3 _).mono ?_
  rintro e w' ⟨rfl, rfl⟩
  go_wp2_with fail
  refine (k4 _).mono ?_
  rintro e w' ⟨rfl, rfl⟩
  go_wp2_with fail
  refine (mul_any C E _).mono ?_
  rintro e w' ⟨rfl, q3, rfl⟩
  go_wp2_with fail
  refine (k8 _).mono ?_
  rintro e w' ⟨rfl, rfl⟩
  go_wp2
  go_ret
  exact ⟨rfl, below_drewN hb1 _⟩

end Go.Proofs.Ythemfblckliclaa
