/- real.power, real.quotient, real.Parse: the real of a text. -/
import Derived.Test.YtinofdmdfhklpaaDoorCutDot
import Derived.Test.YtinofdmdfhklpaaDoorSmall2
namespace Go.Proofs.YtinofdmdfhklpaaDoor
open Go.RowKit
set_option linter.unusedVariables false

set_option maxRecDepth 100000 in
set_option maxHeartbeats 400000 in
theorem power_any (k : Nat) (hk : k ≤ 6) (w : World) : Calls Tryd.prog 44 #[.int .i64 (k : Int)] w fun e w' => e = .returned (.int .i64 ((10 ^ k : Nat) : Int)) ∧ w' = w := by
  go_enter Tryd.func44, Tryd.ntmps44
  go_wp2
  go_loopw [3, 5] (fun p i wr => ∃ j : Nat, j ≤ k ∧ p = .int .i64 ((10 ^ j : Nat) : Int) ∧ i = .int .i64 (j : Int) ∧ wr = w) (fun _ i _ => (k : Int).toNat - (intOf i).toNat)
  case atStart => exact ⟨0, by omega, rfl, rfl, rfl⟩
  case round =>
    obtain ⟨j, hj, rfl, rfl, rfl⟩ := hrel
    by_cases hc : j < k
    · have hp : 10 ^ j ≤ 100000 := Nat.pow_le_pow_right (show 0 < 10 by decide) (show j ≤ 5 by omega)
      have hs : 10 ^ (j + 1) = 10 ^ j * 10 := Nat.pow_succ 10 j
      have HS : Hid (10 ^ (j + 1) = 10 ^ j * 10) := hs
      clear hs
      obtain ⟨P, hP⟩ : ∃ P, Hid (P = 10 ^ j) := ⟨10 ^ j, (rfl : 10 ^ j = 10 ^ j)⟩
      rw [← hP.out] at hp ⊢
      go_wp2
      go_roundw
      case rel => exact ⟨j + 1, by omega, (by rw [HS.out, ← hP.out]; go_num), by go_num, trivial⟩
      case measure => simp [intOf]; omega
    · obtain rfl : j = k := by omega
      go_wp2
      go_ret
      exact ⟨rfl, rfl⟩

/-- The quotient of two whole numbers, as a real. -/
def quo (n s : Nat) : Nat := fdiv (ofInt (n : Int)) (ofInt (s : Int))

theorem quotient_any (n s : Nat) (w : World) : Calls Tryd.prog 45 #[.int .i64 (n : Int), .int .i64 (s : Int)] w fun e w' => e = .returned (.int .u64 (quo n s : Nat)) ∧ ∃ q, w' = w.drewN q := by
  obtain ⟨x, q, hx, hop⟩ := run_float_any (P := Tryd.prog) w .quo (.inr (.inr (.inr rfl))) (floatOfInt .f64 n) (floatOfInt .f64 s)
  have hx' : home x = quo n s := hx
  clear hx
  go_enter Tryd.func45, Tryd.ntmps45
  go_wp2_with fail
  refine (bitsOf_any x _).mono ?_
  rintro e w1 ⟨rfl, rfl⟩
  rw [hx']
  go_wp2
  go_ret
  exact ⟨rfl, q, rfl⟩

instance (l : List UInt8) : Decidable (GoodDec l) := by unfold GoodDec; infer_instance

/-- The texts that are literals, as the code asks it. -/
def IsLit (l : List UInt8) : Prop := 1 ≤ (behindOf l).length ∧ (behindOf l).length ≤ 6 ∧ (aheadOf l).length + (behindOf l).length ≤ 15 ∧ GoodDec (aheadOf l) ∧ GoodDec (49 :: behindOf l)

instance (l : List UInt8) : Decidable (IsLit l) := by unfold IsLit; infer_instance

/-- A literal's digits, as a whole number. -/
def litNum (l : List UInt8) : Nat := decVal (aheadOf l) * 10 ^ (behindOf l).length + decVal (49 :: behindOf l) - 10 ^ (behindOf l).length

/-- What Parse answers. -/
def ParsePost (l : List UInt8) (e : Ending) : Prop :=
  (IsLit l ∧ e = .returned (.tuple #[.int .u64 (quo (litNum l) (10 ^ (behindOf l).length) : Nat), .int .i64 0])) ∨ (¬ IsLit l ∧ e = .returned (.tuple #[.int .u64 0, .int .i64 4]))

theorem cat_list (x y : List UInt8) : ((⟨x.toArray⟩ : ByteArray) ++ (⟨y.toArray⟩ : ByteArray)) = ⟨(x ++ y).toArray⟩ := by
  apply ByteArray.ext
  simp

theorem good_lt {l : List UInt8} (h : GoodDec l) : decVal l < 10 ^ l.length := by
  have := val_lt l l.length (Nat.le_refl _) h.2.2.1
  rwa [List.take_of_length_le (Nat.le_refl _)] at this

theorem one_ge {b : List UInt8} (h : GoodDec (49 :: b)) : 10 ^ b.length ≤ decVal (49 :: b) := by
  have := val_ge (49 :: b) h.1 h.2.2.1 (by simp) b.length (by simp)
  rwa [List.take_of_length_le (by simp)] at this

set_option maxRecDepth 100000 in
set_option maxHeartbeats 1600000 in
theorem parse_any (l : List UInt8) (w : World) (hmax : l.length ≤ 1099511627775) :
    Calls Tryd.prog 36 #[.string ⟨l.toArray⟩] w fun e w' => ParsePost l e ∧ ∃ q, w' = w.drewN q := by
  obtain ⟨a, hA⟩ : ∃ a, a = aheadOf l := ⟨_, rfl⟩
  obtain ⟨b, hB⟩ : ∃ b, b = behindOf l := ⟨_, rfl⟩
  have hal : a.length ≤ 1099511627775 := by
    rw [hA]
    exact Nat.le_trans (List.takeWhile_sublist _).length_le hmax
  have hPP : ParsePost l = fun e => (IsLit l ∧ e = .returned (.tuple #[.int .u64 (quo (litNum l) (10 ^ b.length) : Nat), .int .i64 0])) ∨ (¬ IsLit l ∧ e = .returned (.tuple #[.int .u64 0, .int .i64 4])) := by
    rw [hB]; rfl
  have hLit : IsLit l ↔ (1 ≤ b.length ∧ b.length ≤ 6 ∧ a.length + b.length ≤ 15 ∧ GoodDec a ∧ GoodDec (49 :: b)) := by rw [hA, hB]; rfl
  have hNum : litNum l = decVal a * 10 ^ b.length + decVal (49 :: b) - 10 ^ b.length := by rw [hA, hB]; rfl
  have HPP : Hid (ParsePost l = fun e => (IsLit l ∧ e = .returned (.tuple #[.int .u64 (quo (litNum l) (10 ^ b.length) : Nat), .int .i64 0])) ∨ (¬ IsLit l ∧ e = .returned (.tuple #[.int .u64 0, .int .i64 4]))) := hPP
  have HLit : Hid (IsLit l ↔ (1 ≤ b.length ∧ b.length ≤ 6 ∧ a.length + b.length ≤ 15 ∧ GoodDec a ∧ GoodDec (49 :: b))) := hLit
  have HNum : Hid (litNum l = decVal a * 10 ^ b.length + decVal (49 :: b) - 10 ^ b.length) := hNum
  clear hPP hLit hNum
  have hsa : (⟨a.toArray⟩ : ByteArray).size = a.length := size_mk a
  have hsb : (⟨b.toArray⟩ : ByteArray).size = b.length := size_mk b
  go_enter Tryd.func36, Tryd.ntmps36
  go_wp2_with fail
  refine (cut_any l _ (by omega)).mono ?_
  rintro e w1 ⟨⟨f, rfl⟩, q1, rfl⟩
  rw [← hA, ← hB]
  clear hA hB
  by_cases c1 : 1 ≤ b.length ∧ b.length ≤ 6 ∧ a.length + b.length ≤ 15
  · obtain ⟨d1, d2, d3⟩ := c1
    go_wp2_with fail
    refine (readDec_any ⟨a.toArray⟩ 9223372036854775807 _ (by rw [hsa]; omega) (by omega) (by omega)).mono ?_
    rintro e w2 ⟨⟨x, ex, rfl, hx⟩, q2, rfl⟩
    have hx : DecIs a 9223372036854775807 x ex := hx
    go_wp2_with fail
    rw [show (({ data := #[49] } : ByteArray) ++ (⟨b.toArray⟩ : ByteArray)) = ⟨(49 :: b).toArray⟩ from cat_list [49] b]
    refine (readDec_any ⟨(49 :: b).toArray⟩ 9223372036854775807 _ (by rw [size_mk]; simp; omega) (by omega) (by omega)).mono ?_
    rintro e w3 ⟨⟨y, ey, rfl, hy⟩, q3, rfl⟩
    have hy : DecIs (49 :: b) 9223372036854775807 y ey := hy
    by_cases g1 : GoodDec a
    · obtain ⟨rfl, rfl⟩ : x = (decVal a : Int) ∧ ex = 0 := by
        have := g1.2.2.2
        rcases hx with ⟨h, _⟩ | ⟨_, h, _⟩ | ⟨_, _, h, _⟩ | ⟨_, _, _, h1, h2⟩
        · omega
        · exact absurd g1 h
        · omega
        · exact ⟨h1, h2⟩
      by_cases g2 : GoodDec (49 :: b)
      · obtain ⟨rfl, rfl⟩ : y = (decVal (49 :: b) : Int) ∧ ey = 0 := by
          have := g2.2.2.2
          rcases hy with ⟨h, _⟩ | ⟨_, h, _⟩ | ⟨_, _, h, _⟩ | ⟨_, _, _, h1, h2⟩
          · omega
          · exact absurd g2 h
          · omega
          · exact ⟨h1, h2⟩
        have hyes : Hid (IsLit l) := HLit.out.2 ⟨d1, d2, d3, g1, g2⟩
        have k1 := good_lt g1
        have k2 := good_lt g2
        have k3 := one_ge g2
        have k4 : decVal a * 10 ^ b.length < 10 ^ 15 := by
          refine Nat.lt_of_lt_of_le (Nat.mul_lt_mul_of_pos_right k1 (Nat.pow_pos (by decide))) ?_
          rw [← Nat.pow_add]
          exact Nat.pow_le_pow_right (by decide) d3
        have k5 : 10 ^ b.length ≤ 10 ^ 6 := Nat.pow_le_pow_right (by decide) d2
        rw [List.length_cons, Nat.pow_succ] at k2
        clear hx hy g1 g2 HLit
        obtain ⟨A, hA⟩ : ∃ A, A = decVal a := ⟨_, rfl⟩
        obtain ⟨B, hB⟩ : ∃ B, B = decVal (49 :: b) := ⟨_, rfl⟩
        obtain ⟨S, hS⟩ : ∃ S, Hid (S = 10 ^ b.length) := ⟨10 ^ b.length, (rfl : 10 ^ b.length = 10 ^ b.length)⟩
        have HN : Hid (litNum l = A * S + B - S) := by rw [hA, hB, hS.out]; exact HNum.out
        rw [← hA, ← hB]
        rw [← hA, ← hS.out] at k4
        rw [← hB, ← hS.out] at k2 k3
        rw [← hS.out] at k5
        clear k1 HNum hA hB
        obtain ⟨M, hM⟩ : ∃ M, M = A * S := ⟨_, rfl⟩
        have hMi : (A : Int) * (S : Int) = (M : Int) := by rw [hM]; simp
        rw [← hM] at k4
        have HN2 : Hid (litNum l = M + B - S) := by rw [hM]; exact HN.out
        clear HN hM
        go_wp2_with fail
        refine (power_any b.length d2 _).mono ?_
        rintro e w4 ⟨rfl, hw4⟩
        rw [← hS.out, hw4]
        go_wp2_with fail
        rw [show (M : Int) + (B : Int) - (S : Int) = ((M + B - S : Nat) : Int) by omega]
        refine (quotient_any (M + B - S) S _).mono ?_
        rintro e w5 ⟨rfl, q4, rfl⟩
        go_wp2
        go_ret2
        refine ⟨?_, _, rfl⟩
        rw [HPP.out]
        exact .inl ⟨hyes.out, by rw [HN2.out, ← hS.out]; rfl⟩
      · obtain ⟨rfl, rfl⟩ : y = 0 ∧ ey = 4 := by
          rcases hy with ⟨h, _⟩ | ⟨_, _, h1, h2⟩ | ⟨_, h, _, _⟩ | ⟨_, h, _, _⟩
          · omega
          · exact ⟨h1, h2⟩
          · exact absurd h g2
          · exact absurd h g2
        have hno : ¬ IsLit l := fun h => g2 (HLit.out.1 h).2.2.2.2
        go_wp2
        go_ret2
        refine ⟨?_, _, rfl⟩
        rw [HPP.out]
        exact .inr ⟨hno, rfl⟩
    · obtain ⟨rfl, rfl⟩ : x = 0 ∧ ex = 4 := by
        rcases hx with ⟨h, _⟩ | ⟨_, _, h1, h2⟩ | ⟨_, h, _, _⟩ | ⟨_, h, _, _⟩
        · omega
        · exact ⟨h1, h2⟩
        · exact absurd h g1
        · exact absurd h g1
      have hno : ¬ IsLit l := fun h => g1 (HLit.out.1 h).2.2.2.1
      go_wp2
      go_ret2
      refine ⟨?_, _, rfl⟩
      rw [HPP.out]
      exact .inr ⟨hno, rfl⟩
  · have hno : ¬ IsLit l := fun h => c1 ⟨(HLit.out.1 h).1, (HLit.out.1 h).2.1, (HLit.out.1 h).2.2.1⟩
    go_wp2_with fail
    all_goals
      go_ret2
      refine ⟨?_, _, rfl⟩
      rw [HPP.out]
      exact .inr ⟨hno, rfl⟩

end Go.Proofs.YtinofdmdfhklpaaDoor
