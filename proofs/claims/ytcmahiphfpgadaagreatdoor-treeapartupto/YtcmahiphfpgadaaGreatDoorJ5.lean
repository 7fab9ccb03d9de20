/- Joined texts of the proof. -/
import Derived.Test.YtcmahiphfpgadaaGreatDoorJ4
import Derived.Test.YtcmahiphfpgadaaGreatDoorJ3

/- real.power, real.quotient, real.Parse: the real of a text. -/
namespace Go.Proofs.YtcmahiphfpgadaaGreatDoor
open Go.RowKit
set_option linter.unusedVariables false

set_option maxRecDepth 100000 in
set_option maxHeartbeats 400000 in
theorem power_any (k : Nat) (hk : k ≤ 6) (w : World) : Calls Tryz.prog 133 #[.int .i64 (k : Int)] w fun e w' => e = .returned (.int .i64 ((10 ^ k : Nat) : Int)) ∧ w' = w := by
  go_enter Tryz.func133, Tryz.ntmps133
  go_wp2
  go_loopw [3, 5] (fun p i wr => ∃ j : Nat, j ≤ k ∧ p = .int .i64 ((10 ^ j : Nat) : Int) ∧ i = .int .i64 (j : Int) ∧ wr = w) (fun _ i _ => (k : Int).toNat - (intOf i).toNat)
  case atStart => exact ⟨0, by omega, rfl, rfl, rfl⟩
  case round =>
    obtain ⟨j, hj, rfl, rfl, rfl⟩ := hrel
    by_cases hc : j < k
    · have hp : 10 ^ j ≤ 100000 := Nat.pow_le_pow_right (show 0 < 10 by decide) (show j ≤ 5 by omega)
      have hs : 10 ^ (j + 1) = 10 ^ j * 10 := Nat.pow_succ 10 j
      have HS : Hid (10 ^ (j + 1) = 10 ^ j * 10) := hs
      clear hs
      obtain ⟨P, hP⟩ : ∃ P, Hid (P = 10 ^ j) := ⟨10 ^ j, (rfl : 10 ^ j = 10 ^ j)⟩
      rw [← hP.out] at hp ⊢
      go_wp2
      go_roundw
      case rel => exact ⟨j + 1, by omega, (by rw [HS.out, ← hP.out]; go_num), by go_num, trivial⟩
      case measure => simp [intOf]; omega
    · obtain rfl : j = k := by omega
      go_wp2
      go_ret
      exact ⟨rfl, rfl⟩

/-- The quotient of two whole numbers, as a real. -/
def quo (n s : Nat) : Nat := fdiv (ofInt (n : Int)) (ofInt (s : Int))

theorem quotient_any (n s : Nat) (w : World) : Calls Tryz.prog 151 #[.int .i64 (n : Int), .int .i64 (s : Int)] w fun e w' => e = .returned (.int .u64 (quo n s : Nat)) ∧ ∃ q, w' = w.drewN q := by
  obtain ⟨x, q, hx, hop⟩ := run_float_any (P := Tryz.prog) w .quo (.inr (.inr (.inr rfl))) (floatOfInt .f64 n) (floatOfInt .f64 s)
  have hx' : home x = quo n s := hx
  clear hx
  go_enter Tryz.func151, Tryz.ntmps151
  go_wp2_with fail
  refine (bitsOf_any x _).mono ?_
  rintro e w1 ⟨rfl, rfl⟩
  rw [hx']
  go_wp2
  go_ret
  exact ⟨rfl, q, rfl⟩

instance (l : List UInt8) : Decidable (GoodDec l) := by unfold GoodDec; infer_instance

/-- The texts that are literals, as the code asks it. -/
def IsLit (l : List UInt8) : Prop := 1 ≤ (behindOf l).length ∧ (behindOf l).length ≤ 6 ∧ (aheadOf l).length + (behindOf l).length ≤ 15 ∧ GoodDec (aheadOf l) ∧ GoodDec (49 :: behindOf l)

instance (l : List UInt8) : Decidable (IsLit l) := by unfold IsLit; infer_instance

/-- A literal's digits, as a whole number. -/
def litNum (l : List UInt8) : Nat := decVal (aheadOf l) * 10 ^ (behindOf l).length + decVal (49 :: behindOf l) - 10 ^ (behindOf l).length

/-- What Parse answers. -/
def ParsePost (l : List UInt8) (e : Ending) : Prop :=
  (IsLit l ∧ e = .returned (.tuple #[.int .u64 (quo (litNum l) (10 ^ (behindOf l).length) : Nat), .int .i64 0])) ∨ (¬ IsLit l ∧ e = .returned (.tuple #[.int .u64 0, .int .i64 4]))

theorem cat_list (x y : List UInt8) : ((⟨x.toArray⟩ : ByteArray) ++ (⟨y.toArray⟩ : ByteArray)) = ⟨(x ++ y).toArray⟩ := by
  apply ByteArray.ext
  simp

theorem good_lt {l : List UInt8} (h : GoodDec l) : decVal l < 10 ^ l.length := by
  have := val_lt l l.length (Nat.le_refl _) h.2.2.1
  rwa [List.take_of_length_le (Nat.le_refl _)] at this

theorem one_ge {b : List UInt8} (h : GoodDec (49 :: b)) : 10 ^ b.length ≤ decVal (49 :: b) := by
  have := val_ge (49 :: b) h.1 h.2.2.1 (by simp) b.length (by simp)
  rwa [List.take_of_length_le (by simp)] at this

end Go.Proofs.YtcmahiphfpgadaaGreatDoor

/- real.digitsOf and real.Print. -/
namespace Go.Proofs.YtcmahiphfpgadaaGreatDoor
open Go.RowKit
set_option linter.unusedVariables false

/-- One half, and 10 to the power of 15, as reals. -/
def HALF : Nat := 4602678819172646912
def E15 : Nat := 4831355200913801216

/-- What is near a real's digits, scaled. -/
def nearOf (x s : Nat) : Option Nat := match D.mul x (ofInt (s : Int)) with
  | none => none
  | some p => D.add p HALF

/-- A literal's digits as a whole number, if x is the real of one with this scale. -/
def digitsOf (x s : Nat) : Option Nat := match nearOf x s with
  | none => none
  | some y => if isNan y = false ∧ 0 ≤ val y ∧ val y < val E15 then (if quo (trunc (val y)).toNat s = home x then some (trunc (val y)).toNat else none) else none

/-- What digitsOf answers. -/
def DigitsPost (x s : Nat) (e : Ending) : Prop :=
  (∃ n : Nat, digitsOf x s = some n ∧ e = .returned (.tuple #[.int .i64 (n : Int), .bool true])) ∨ (digitsOf x s = none ∧ e = .returned (.tuple #[.int .i64 0, .bool false]))

theorem val_zero : val 0 = 0 := by decide +kernel
theorem val_E15 : val E15 = ((1000000000000000 * pw 1074 : Nat) : Int) := by decide +kernel

theorem near_run (x s : Nat) (w : World) : ∃ p y q1 q2, (∀ t, (binOp .mul t (.float .f64 x) (.float .f64 (floatOfInt .f64 s))).run Tryz.prog w = .ok (.float .f64 p) (w.drewN q1)) ∧
    (∀ t, (binOp .add t (.float .f64 p) (.float .f64 4602678819172646912)).run Tryz.prog (w.drewN q1) = .ok (.float .f64 y) (w.drewN q2)) ∧ (nearOf x s = some y ∨ (nearOf x s = none ∧ isNan y = true)) := by
  cases h : floatBits .mul .f64 x (floatOfInt .f64 s) with
  | none =>
    have h' : D.mul x (ofInt (s : Int)) = none := h
    obtain ⟨p, hn, _, hr⟩ := run_float_none (P := Tryz.prog) w .mul (.inr (.inr (.inl rfl))) _ _ h
    obtain ⟨y, hy, _, hr2⟩ := run_float_none (P := Tryz.prog) w.drew .add (.inl rfl) p HALF (add_nan (.inl hn))
    refine ⟨p, y, 1, 2, fun t => hr t, fun t => hr2 t, .inr ⟨by simp [nearOf, h'], hy⟩⟩
  | some p =>
    have h' : D.mul x (ofInt (s : Int)) = some p := h
    have hr := fun t => run_float_arith (P := Tryz.prog) w .mul t .f64 _ _ p h
    cases h2 : floatBits .add .f64 p HALF with
    | none =>
      have h2' : D.add p HALF = none := h2
      obtain ⟨y, hy, _, hr2⟩ := run_float_none (P := Tryz.prog) w .add (.inl rfl) p HALF h2
      exact ⟨p, y, 0, 1, fun t => hr t, fun t => hr2 t, .inr ⟨by simp [nearOf, h', h2'], hy⟩⟩
    | some y =>
      have h2' : D.add p HALF = some y := h2
      have hr2 := fun t => run_float_arith (P := Tryz.prog) w .add t .f64 _ _ y h2
      exact ⟨p, y, 0, 0, fun t => hr t, fun t => hr2 t, .inl (by simp [nearOf, h', h2'])⟩

/-- The trunc of a real that is not below nought and below 10^15. -/
theorem trunc_bounds {v : Int} (h0 : 0 ≤ v) (h1 : v < val E15) : 0 ≤ trunc v ∧ trunc v < 1000000000000000 := by
  rw [val_E15] at h1
  unfold trunc
  rw [if_neg (by omega)]
  have hp := pw_pos 1074
  generalize pw 1074 = K at h1 hp ⊢
  have : v.natAbs / K < 1000000000000000 := (Nat.div_lt_iff_lt_mul hp).2 (by omega)
  generalize v.natAbs / K = z at this ⊢
  omega

theorem E15_lt_B63 : val E15 < val B63 := by
  rw [val_E15, val_B63]
  have hp := pw_pos 1074
  generalize pw 1074 = K at hp ⊢
  omega

set_option maxRecDepth 100000 in
set_option maxHeartbeats 1600000 in
theorem digitsOf_any (x s : Nat) (w : World) : Calls Tryz.prog 134 #[.float .f64 x, .int .i64 (s : Int)] w fun e w' => DigitsPost x s e ∧ ∃ q, w' = w.drewN q := by
  obtain ⟨p, y, q1, q2, hop1, hop2, hy⟩ := near_run x s w
  have fin : (hn : isNan y = true ∨ (isNan y = false ∧ ¬ (0 ≤ val y ∧ val y < val E15))) → digitsOf x s = none := by
    intro hn
    rcases hy with hy | ⟨hy, _⟩
    · simp only [digitsOf, hy]
      rw [if_neg]
      rintro ⟨h1, h2, h3⟩
      rcases hn with hn | ⟨_, hn⟩
      · rw [hn] at h1; cases h1
      · exact hn ⟨h2, h3⟩
    · simp only [digitsOf, hy]
  cases hn : isNan y
  · have e1 : (FloatKind.f64.format.order y 0 == some .gt || FloatKind.f64.format.order y 0 == some .eq) = decide (val 0 ≤ val y) := ge_val (c := 0) hn (by decide)
    have e2 : (FloatKind.f64.format.order y 4831355200913801216 == some .lt) = decide (val y < val E15) := lt_val (c := E15) hn (by decide)
    rw [val_zero] at e1
    by_cases c1 : 0 ≤ val y
    · rw [decide_eq_true c1] at e1
      by_cases c2 : val y < val E15
      · rw [decide_eq_true c2] at e2
        have hb := trunc_bounds c1 c2
        have hw := whole_val hn (Int.lt_trans c2 E15_lt_B63) (by rw [val_N63]; omega)
        obtain ⟨n, hnn⟩ : ∃ n : Nat, n = (trunc (val y)).toNat := ⟨_, rfl⟩
        have htr : trunc (val y) = (n : Int) := by omega
        rw [htr] at hw
        have hcv : ∀ w, (convert 142 3 (.float .f64 y)).run Tryz.prog w = .ok (.int .i64 (n : Int)) w := fun w => run_convert_float_int w 142 3 .f64 .i64 y _ (by rw [Tryz.underlying142]; rfl) Tryz.underlying3 hw
        have hd : Hid (digitsOf x s = if quo n s = home x then some n else none) := by
          rcases hy with hy | ⟨hy, h2⟩
          · show digitsOf x s = _
            simp only [digitsOf, hy]
            rw [if_pos ⟨hn, c1, c2⟩, hnn]
          · rw [hn] at h2; cases h2
        clear hw hy fin c1 c2 htr hnn hb
        by_cases hq : quo n s = home x
        · have hqi : (((quo n s : Nat) : Int) != ((home x : Nat) : Int)) = false := by rw [hq]; simp
          go_enter Tryz.func134, Tryz.ntmps134
          go_wp2_with fail
          refine (quotient_any n s _).mono ?_
          rintro e w1 ⟨rfl, q3, rfl⟩
          go_wp2_with fail
          refine (bitsOf_any x _).mono ?_
          rintro e w1 ⟨rfl, rfl⟩
          go_wp2
          go_ret2
          exact ⟨.inl ⟨n, by rw [hd.out, if_pos hq], rfl⟩, _, rfl⟩
        · have hqi : (((quo n s : Nat) : Int) != ((home x : Nat) : Int)) = true := by rw [bne_iff_ne]; omega
          go_enter Tryz.func134, Tryz.ntmps134
          go_wp2_with fail
          refine (quotient_any n s _).mono ?_
          rintro e w1 ⟨rfl, q3, rfl⟩
          go_wp2_with fail
          refine (bitsOf_any x _).mono ?_
          rintro e w1 ⟨rfl, rfl⟩
          go_wp2
          go_ret2
          exact ⟨.inr ⟨by rw [hd.out, if_neg hq], rfl⟩, _, rfl⟩
      · rw [decide_eq_false c2] at e2
        have hd := fin (.inr ⟨hn, fun h => c2 h.2⟩)
        clear fin hy
        go_enter Tryz.func134, Tryz.ntmps134
        go_wp2
        go_ret2
        exact ⟨.inr ⟨hd, rfl⟩, _, rfl⟩
    · rw [decide_eq_false c1] at e1
      have hd := fin (.inr ⟨hn, fun h => c1 h.1⟩)
      clear fin hy
      go_enter Tryz.func134, Tryz.ntmps134
      go_wp2
      go_ret2
      exact ⟨.inr ⟨hd, rfl⟩, _, rfl⟩
  · have e1 : (FloatKind.f64.format.order y 0 == some .gt || FloatKind.f64.format.order y 0 == some .eq) = false := nan_ge (.inl hn)
    have hd := fin (.inl hn)
    clear fin hy
    go_enter Tryz.func134, Tryz.ntmps134
    go_wp2
    go_ret2
    exact ⟨.inr ⟨hd, rfl⟩, _, rfl⟩

theorem digitsOf_lt {x s n : Nat} (h : digitsOf x s = some n) : n < 1000000000000000 := by
  unfold digitsOf at h
  split at h
  · cases h
  · split at h
    · rename_i hc
      split at h
      · cases h
        have := trunc_bounds hc.2.1 hc.2.2
        omega
      · cases h
    · cases h

/-- The literal with so many digits behind the point, and these digits. -/
def litOf (k n : Nat) : List UInt8 := decOf ((n / 10 ^ k : Nat) : Int) ++ ([46] ++ (decOf ((10 ^ k + n % 10 ^ k : Nat) : Int)).drop 1)

/-- The first literal of a real, of those with k digits behind the point and more. -/
def pr (x : Nat) : Nat → Nat → Option (Nat × Nat)
  | _, 0 => none
  | k, f + 1 => match digitsOf x (10 ^ k) with
    | some n => some (k, n)
    | none => pr x (k + 1) f

/-- What Print answers. -/
def PrintPost (x : Nat) (e : Ending) : Prop :=
  (∃ k n : Nat, pr x 1 6 = some (k, n) ∧ e = .returned (.tuple #[.string ⟨(litOf k n).toArray⟩, .int .i64 0])) ∨ (pr x 1 6 = none ∧ e = .returned (.tuple #[.string ⟨#[]⟩, .int .i64 2]))

theorem dec_lit (N : Nat) (d : List UInt8) (hd : Hid (d = decOf (N : Int))) (hN : N ≤ 9223372036854775807) (w : World) :
    Calls Tryz.prog 135 #[.int .i64 (N : Int)] w fun e w' => e = .returned (.string ⟨d.toArray⟩) ∧ Below w.heap.size w w' := by
  rw [hd.out]
  exact dec_any N w (by omega) (by omega)

theorem digs_pos (f n : Nat) : 1 ≤ (digs f n).length := by
  cases f with
  | zero => simp [digs]
  | succ f => simp only [digs]; split <;> simp

theorem digs_len (f : Nat) : ∀ n, (digs f n).length ≤ f + 1 := by
  induction f with
  | zero => intro n; simp [digs]
  | succ f ih =>
    intro n
    simp only [digs]
    split
    · simp
    · have := ih (n / 10)
      simp
      omega

theorem decOf_len (n : Int) : (decOf n).length ≤ 21 := by
  unfold decOf
  have := digs_len 19 n.natAbs
  split
  · simp; omega
  · omega

theorem decOf_pos (n : Int) : 1 ≤ (decOf n).length := by
  unfold decOf
  split
  · simp
  · exact digs_pos _ _

set_option maxRecDepth 100000 in
set_option maxHeartbeats 1600000 in
theorem print_any (a : Nat) (w : World) : Calls Tryz.prog 107 #[.int .u64 (a : Int)] w fun e w' => PrintPost (home a) e ∧ Below w.heap.size w w' := by
  go_enter Tryz.func107, Tryz.ntmps107
  go_wp2_with fail
  refine (number_any a _).mono ?_
  rintro e w1 ⟨rfl, hw1⟩
  rw [hw1]
  clear hw1
  obtain ⟨x, hx⟩ : ∃ x, x = home a := ⟨_, rfl⟩
  rw [← hx]
  have HX : Hid (x = home a) := hx
  clear hx
  go_wp2
  go_loopw [5] (fun i wr => ∃ k f : Nat, 1 ≤ k ∧ k + f = 7 ∧ i = .int .i64 (k : Int) ∧ Hid (pr x 1 6 = pr x k f) ∧ ∃ q, wr = w.drewN q) (fun i _ => 8 - (intOf i).toNat)
  case atStart => exact ⟨1, 6, by omega, rfl, rfl, (rfl : pr x 1 6 = pr x 1 6), 0, rfl⟩
  case round =>
    obtain ⟨k, f, hk1, hkf, rfl, hpr, q, rfl⟩ := hrel
    by_cases hc : k ≤ 6
    · obtain ⟨f, rfl⟩ : ∃ g, f = g + 1 := ⟨f - 1, by omega⟩
      go_wp2_with fail
      refine (power_any k hc _).mono ?_
      rintro e w2 ⟨rfl, hw2⟩
      rw [hw2]
      clear hw2
      have hS6 : 10 ^ k ≤ 10 ^ 6 := Nat.pow_le_pow_right (by decide) hc
      have hS1 : 10 ^ 1 ≤ 10 ^ k := Nat.pow_le_pow_right (by decide) hk1
      obtain ⟨S, hS⟩ : ∃ S, Hid (S = 10 ^ k) := ⟨10 ^ k, (rfl : 10 ^ k = 10 ^ k)⟩
      rw [← hS.out] at hS6 hS1 ⊢
      go_wp2_with fail
      refine (digitsOf_any x S _).mono ?_
      rintro e w2 ⟨⟨n, hd, rfl⟩ | ⟨hd, rfl⟩, q2, rfl⟩
      · have hn := digitsOf_lt hd
        have HD : Hid (digitsOf x S = some n) := hd
        clear hd
        have HP : Hid (pr x 1 6 = some (k, n)) := by
          show _ = _
          rw [hpr.out]
          simp only [pr]
          rw [← hS.out, HD.out]
        clear hpr HD
        obtain ⟨N1, hN1⟩ : ∃ N1, N1 = n / S := ⟨_, rfl⟩
        obtain ⟨N2, hN2⟩ : ∃ N2, N2 = S + n % S := ⟨_, rfl⟩
        have hS0 : ¬ S = 0 := by omega
        have hS0i : ¬ (S : Int) = 0 := by omega
        have b1 : N1 ≤ 1000000000000000 := by rw [hN1]; exact Nat.le_trans (Nat.div_le_self _ _) (by omega)
        have b2 : N2 ≤ 3000000 := by have := Nat.mod_lt n (show 0 < S by omega); omega
        have f1 : IntKind.i64.wrap ((n : Int) / (S : Int)) = (N1 : Int) := by
          have e : (n : Int) / (S : Int) = (N1 : Int) := by rw [hN1]; simp
          rw [e]; rw [IntKind.wrap_i64]; omega
        have f2 : IntKind.i64.wrap ((S : Int) + (n : Int).tmod (S : Int)) = (N2 : Int) := by
          have e : (S : Int) + (n : Int).tmod (S : Int) = (N2 : Int) := by rw [hN2, Int.tmod_eq_emod_of_nonneg (by omega)]; simp
          rw [e]; rw [IntKind.wrap_i64]; omega
        obtain ⟨d1, hd1⟩ : ∃ d, Hid (d = decOf (N1 : Int)) := ⟨decOf (N1 : Int), (rfl : decOf (N1 : Int) = _)⟩
        obtain ⟨d2, hd2⟩ : ∃ d, Hid (d = decOf (N2 : Int)) := ⟨decOf (N2 : Int), (rfl : decOf (N2 : Int) = _)⟩
        have l2 : 1 ≤ d2.length := by rw [hd2.out]; exact decOf_pos _
        have l2i : (1 : Int) ≤ (d2.length : Int) := by omega
        have l3 : d2.length ≤ 21 := by rw [hd2.out]; exact decOf_len _
        have l1 : d1.length ≤ 21 := by rw [hd1.out]; exact decOf_len _
        have hsz1 : (⟨d1.toArray⟩ : ByteArray).size = d1.length := size_mk d1
        have hc1 : ¬ 9223372036854775807 < d1.length + 1 := by omega
        have hc2 : ¬ 9223372036854775807 < d1.length + 1 + (d2.length - 1) := by omega
        have HL : Hid (litOf k n = d1 ++ ([46] ++ d2.drop 1)) := by
          show _ = _
          rw [hd1.out, hd2.out, hN1, hN2, hS.out]; rfl
        have hsz : (⟨d2.toArray⟩ : ByteArray).size = d2.length := size_mk d2
        have hex : (⟨d2.toArray⟩ : ByteArray).extract 1 d2.length = ⟨(d2.drop 1).toArray⟩ := by rw [extract_list, List.take_of_length_le (by simp)]
        clear hN1 hN2 hS
        go_wp2_with fail
        go_region_held3 (fun _ => True) (trivial) (first | (go_at_call_of 135 (Value.int IntKind.i64 (N1 : Int)); refine (dec_lit N1 d1 hd1 (by omega) _).mono ?_; rintro e w3 ⟨rfl, hb3⟩) | (go_at_call_of 135 (Value.int IntKind.i64 (N2 : Int)); refine (dec_lit N2 d2 hd2 (by omega) _).mono ?_; rintro e w4 ⟨rfl, hb4⟩))
        go_wp2
        go_ret2
        refine ⟨.inl ⟨k, n, by rw [← HX.out]; exact HP.out, ?_⟩, ?_⟩
        · rw [HL.out, ← List.append_assoc, ← cat_list, ← cat_list]
          simp
        · have h3 : Below w.heap.size w w3 := (below_drewN (Below.refl _ _) _).trans hb3
          exact h3.trans (hb4.mono h3.size)
      · have HD : Hid (pr x 1 6 = pr x (k + 1) f) := by
          show _ = _
          rw [hpr.out]
          simp only [pr]
          rw [← hS.out, hd]
        clear hd hpr
        go_wp2
        go_roundw
        case rel => exact ⟨k + 1, f, by omega, by omega, by go_num, HD, _, rfl⟩
        case measure => simp [intOf]; omega
    · obtain rfl : f = 0 := by omega
      go_wp2
      go_ret2
      exact ⟨.inr ⟨by rw [← HX.out]; exact hpr.out, rfl⟩, below_drewN (Below.refl _ _) _⟩

end Go.Proofs.YtcmahiphfpgadaaGreatDoor

/- octet.ReadHex and the document's own ReadHex: the bytes of digits. -/
namespace Go.Proofs.YtcmahiphfpgadaaGreatDoor
open Go.RowKit
set_option linter.unusedVariables false

/-- A digit's value; 16: it is none. -/
def dv (c : Nat) : Nat := if 48 ≤ c ∧ c ≤ 57 then c - 48 else if 97 ≤ c ∧ c ≤ 102 then c - 87 else 16

/-- The bytes whose digits these are; none: they are no digits of bytes. -/
def unhex : List UInt8 → Option (List UInt8)
  | [] => some []
  | [_] => none
  | x :: y :: l => if dv x.toNat < 16 ∧ dv y.toNat < 16 then (unhex l).map (ub (16 * dv x.toNat + dv y.toNat) :: ·) else none

theorem unhex_odd : ∀ (f : Nat) (l : List UInt8), l.length ≤ f → l.length % 2 = 1 → unhex l = none := by
  intro f
  induction f with
  | zero => intro l h h1; omega
  | succ f ih =>
    intro l h h1
    match l with
    | [] => simp at h1
    | [_] => rfl
    | x :: y :: l =>
      simp only [unhex]
      split
      · rw [ih l (by simp at h; omega) (by simp at h1; omega)]; rfl
      · rfl

theorem idx16_nat : ∀ c : Nat, c < 256 → Lib.indexByte (({ data := #[48, 49, 50, 51, 52, 53, 54, 55, 56, 57, 97, 98, 99, 100, 101, 102] } : ByteArray)).data.toList ((c : Int).toNat.toUInt8) = if dv c < 16 then (dv c : Int) else -1 := by decide +kernel

/-- A digit's value as Go has it. -/
def dvI (c : Nat) : Int := if dv c < 16 then (dv c : Int) else -1

theorem or16 : ∀ x y : Nat, x < 16 → y < 16 → x * 16 ||| y = 16 * x + y := by
  intro x y hx hy
  rw [nat_join 4 (x * 16) y (by omega) hy]
  omega

theorem or16i (x y : Nat) (hx : x < 16) (hy : y < 16) : bits .or .i64 ((x : Int) * 16) (y : Int) = ((16 * x + y : Nat) : Int) := by
  have h := bits_nat .i64 63 (by decide) (fun n h0 h1 => by rw [IntKind.wrap_i64]; omega) (x * 16) y (by omega) (by omega)
  have e : (x : Int) * 16 = ((x * 16 : Nat) : Int) := by omega
  rw [e, h.2, or16 x y hx hy]

theorem drewN_below0 (w : World) (q B : Nat) : Below B w (w.drewN q) := ⟨rfl, rfl, rfl, Nat.le_refl _, fun _ _ => rfl⟩

theorem own_drewN {base : Nat} {w : World} {v : Value} {out : List UInt8} (h : Own base w v out) (n : Nat) : Own base (w.drewN n) v out := h

theorem unhex_step (r : ByteArray) (h : 1 < r.size) : unhex (bytes r) = if dv (r[0]'(by omega)).toNat < 16 ∧ dv (r[1]'h).toNat < 16 then (unhex ((bytes r).drop 2)).map (ub (16 * dv (r[0]'(by omega)).toNat + dv (r[1]'h).toNat) :: ·) else none := by
  have e0 := bytes_at r 0 (by omega)
  have e1 := bytes_at r 1 h
  have hl := bytes_length r
  match hb : bytes r with
  | [] => rw [hb] at hl; simp at hl; omega
  | [_] => rw [hb] at hl; simp at hl; omega
  | x :: y :: l =>
    rw [hb] at e0 e1
    simp [List.getD] at e0 e1
    rw [unhex, ← e0, ← e1]
    rfl

theorem extract_two (r : ByteArray) : bytes (r.extract 2 r.size) = (bytes r).drop 2 := by
  rw [bytes, Lib.extract_data, List.take_of_length_le]
  · rfl
  · simp

theorem unhex_drop (s : ByteArray) (k : Nat) (h : k + 1 < s.size) : unhex ((bytes s).drop k) = if dv (s[k]'(by omega)).toNat < 16 ∧ dv (s[k + 1]'h).toNat < 16 then (unhex ((bytes s).drop (k + 2))).map (ub (16 * dv (s[k]'(by omega)).toNat + dv (s[k + 1]'h).toNat) :: ·) else none := by
  have hl := bytes_length s
  have e0 := bytes_at s k (by omega)
  have e1 := bytes_at s (k + 1) h
  have d1 : (bytes s).drop k = (bytes s).getD k 0 :: (bytes s).getD (k + 1) 0 :: (bytes s).drop (k + 2) := by
    rw [List.drop_eq_getElem_cons (show k < (bytes s).length by omega), List.drop_eq_getElem_cons (show k + 1 < (bytes s).length by omega)]
    simp [List.getD, List.getElem?_eq_getElem (show k < (bytes s).length by omega), List.getElem?_eq_getElem (show k + 1 < (bytes s).length by omega)]
  rw [d1, unhex, e0, e1]

end Go.Proofs.YtcmahiphfpgadaaGreatDoor

/- Digits that are told are read, and digits that are read are told again: plain facts. -/
namespace Go.Proofs.YtcmahiphfpgadaaGreatDoor
set_option linter.unusedVariables false

theorem digs_length (f : Nat) : ∀ n, (digs f n).length ≤ f + 1 ∧ 1 ≤ (digs f n).length := by
  induction f with
  | zero => intro n; simp [digs]
  | succ f ih =>
    intro n
    unfold digs
    split
    · simp
    · have := ih (n / 10)
      simp
      omega

theorem digs_val (f : Nat) : ∀ n, n < 10 ^ (f + 1) → decVal (digs f n) = n := by
  induction f with
  | zero =>
    intro n h
    simp at h
    simp [digs, decVal]
    rw [ub_toNat _ (by omega)]
    omega
  | succ f ih =>
    intro n h
    by_cases hb : n < 10
    · rw [digs_small _ _ hb]
      simp [decVal]
      rw [ub_toNat _ (by omega)]
      omega
    · rw [digs_big f n (by omega), val_snoc, ih (n / 10) (by rw [Nat.div_lt_iff_lt_mul (by omega)]; rwa [Nat.pow_succ] at h), ub_toNat _ (by omega)]
      omega

theorem digs_digit (f : Nat) : ∀ n, ∀ c ∈ digs f n, 48 ≤ c.toNat ∧ c.toNat ≤ 57 := by
  induction f with
  | zero =>
    intro n c hc
    simp [digs] at hc
    rw [hc, ub_toNat _ (by omega)]
    omega
  | succ f ih =>
    intro n c hc
    by_cases hb : n < 10
    · rw [digs_small _ _ hb] at hc
      simp at hc
      rw [hc, ub_toNat _ (by omega)]
      omega
    · rw [digs_big f n (by omega)] at hc
      rcases List.mem_append.1 hc with h | h
      · exact ih _ c h
      · simp at h
        rw [h, ub_toNat _ (by omega)]
        omega

theorem digs_head (f : Nat) : ∀ n, 1 ≤ n → n < 10 ^ (f + 1) → ((digs f n).getD 0 0).toNat ≠ 48 := by
  induction f with
  | zero =>
    intro n h1 h
    simp at h
    simp [digs, List.getD]
    rw [ub_toNat _ (by omega)]
    omega
  | succ f ih =>
    intro n h1 h
    by_cases hb : n < 10
    · rw [digs_small _ _ hb]
      simp [List.getD]
      rw [ub_toNat _ (by omega)]
      omega
    · rw [digs_big f n (by omega)]
      have h2 := ih (n / 10) (by omega) (by rw [Nat.div_lt_iff_lt_mul (by omega)]; rwa [Nat.pow_succ] at h)
      have h3 := (digs_length f (n / 10)).2
      have e : (digs f (n / 10) ++ [ub (48 + n % 10)]).getD 0 0 = (digs f (n / 10)).getD 0 0 := by
        simp only [List.getD, List.getElem?_append_left (show 0 < (digs f (n / 10)).length by omega)]
      rw [e]
      exact h2

theorem good_digs (n : Nat) (h : n ≤ 9223372036854775807) : GoodDec (digs 19 n) ∧ decVal (digs 19 n) = n := by
  have hv := digs_val 19 n (by omega)
  refine ⟨⟨(digs_length 19 n).2, ?_, ?_, by omega⟩, hv⟩
  · intro h0
    rcases Nat.lt_or_ge n 1 with h1 | h1
    · have : n = 0 := by omega
      subst this
      decide
    · exact absurd h0 (digs_head 19 n h1 (by omega))
  · intro j hj
    have := digs_digit 19 n ((digs 19 n).getD j 0) (by simp [List.getD, List.getElem?_eq_getElem hj])
    exact this

theorem bad_neg (l : List UInt8) : ¬ GoodDec (ub 45 :: l) := digit_bad _ 0 (by simp) (.inl (by simp [List.getD]; rw [ub_toNat _ (by omega)]; omega))

theorem digs_take (l : List UInt8) (hd : ∀ j, j < l.length → 48 ≤ (l.getD j 0).toNat ∧ (l.getD j 0).toNat ≤ 57) (h0 : (l.getD 0 0).toNat = 48 → l.length = 1) :
    ∀ k, k < l.length → ∀ f, k ≤ f → digs f (decVal (l.take (k + 1))) = l.take (k + 1) := by
  have last : ∀ (c : UInt8), 48 ≤ c.toNat → c.toNat ≤ 57 → ub (48 + (c.toNat - 48)) = c := fun c h1 h2 => by
    apply UInt8.toNat_inj.1
    rw [ub_toNat _ (by omega)]
    omega
  have tk : ∀ k, k < l.length → l.take (k + 1) = l.take k ++ [l.getD k 0] := fun k h => by
    rw [List.take_succ_eq_append_getElem h]
    simp [List.getD, List.getElem?_eq_getElem h]
  intro k
  induction k with
  | zero =>
    intro h f _
    have hc := hd 0 h
    rw [val_take l 0 h]
    have e : decVal (l.take 0) * 10 + ((l.getD 0 0).toNat - 48) = (l.getD 0 0).toNat - 48 := by simp [decVal]
    rw [e, digs_small f _ (by omega), tk 0 h, Nat.mod_eq_of_lt (by omega), last _ hc.1 hc.2]
    simp
  | succ k ih =>
    intro h f hf
    cases f with
    | zero => omega
    | succ f =>
      have hc := hd (k + 1) h
      have hne : (l.getD 0 0).toNat ≠ 48 := fun e => by have := h0 e; omega
      have hge := val_ge l (by omega) hd hne k (by omega)
      have hpos : 1 ≤ 10 ^ k := Nat.pow_pos (by omega)
      rw [val_take l (k + 1) h, digs_big f _ (by omega)]
      have e1 : (decVal (l.take (k + 1)) * 10 + ((l.getD (k + 1) 0).toNat - 48)) / 10 = decVal (l.take (k + 1)) := by omega
      have e2 : (decVal (l.take (k + 1)) * 10 + ((l.getD (k + 1) 0).toNat - 48)) % 10 = (l.getD (k + 1) 0).toNat - 48 := by omega
      rw [e1, e2, ih (by omega) f (by omega), last _ hc.1 hc.2, tk (k + 1) h]

theorem digs_of_good (l : List UInt8) (h : GoodDec l) : digs 19 (decVal l) = l := by
  have hl : l.length ≤ 19 := by
    rcases Nat.lt_or_ge 19 l.length with h1 | h1
    · exact absurd h (long_bad l h1)
    · exact h1
  obtain ⟨h1, h2, h3, h4⟩ := h
  have := digs_take l h3 h2 (l.length - 1) (by omega) 19 (by omega)
  rwa [show l.length - 1 + 1 = l.length by omega, List.take_length] at this

theorem dv_hd : ∀ c : Nat, c < 256 → dv c < 16 → hdN (dv c) = c := by decide +kernel

theorem hex_unhex : ∀ (f : Nat) (l bs : List UInt8), l.length ≤ f → unhex l = some bs → hexOf bs = l := by
  intro f
  induction f with
  | zero =>
    intro l bs h hu
    have : l = [] := List.eq_nil_of_length_eq_zero (by omega)
    subst this
    simp [unhex] at hu
    subst hu
    rfl
  | succ f ih =>
    intro l bs h hu
    match l, hu with
    | [], hu => simp [unhex] at hu; subst hu; rfl
    | [_], hu => simp [unhex] at hu
    | x :: y :: l, hu =>
      rw [unhex] at hu
      split at hu
      · rename_i hxy
        obtain ⟨hx, hy⟩ := hxy
        cases hr : unhex l with
        | none => rw [hr] at hu; simp at hu
        | some cs =>
          rw [hr] at hu
          simp at hu
          subst hu
          have := ih l cs (by simp at h; omega) hr
          have e1 : (16 * dv x.toNat + dv y.toNat) / 16 = dv x.toNat := by omega
          have e2 : (16 * dv x.toNat + dv y.toNat) % 16 = dv y.toNat := by omega
          rw [hexOf, ub_toNat _ (by omega), e1, e2, dv_hd _ x.toNat_lt hx, dv_hd _ y.toNat_lt hy, this]
          congr 1
          · apply UInt8.toNat_inj.1; rw [ub_toNat _ x.toNat_lt]
          · congr 1
            apply UInt8.toNat_inj.1; rw [ub_toNat _ y.toNat_lt]
      · cases hu

theorem hd_dv : ∀ j : Nat, j < 16 → dv (hdN j) = j := by decide +kernel

theorem unhex_hex (bs : List UInt8) : unhex (hexOf bs) = some bs := by
  induction bs with
  | nil => rfl
  | cons b bs ih =>
    have hb := b.toNat_lt
    have h1 := hdN_lt (b.toNat / 16) (by omega)
    have h2 := hdN_lt (b.toNat % 16) (by omega)
    rw [hexOf, unhex, ub_toNat _ h1, ub_toNat _ h2, hd_dv _ (by omega), hd_dv _ (by omega), if_pos ⟨by omega, by omega⟩, ih]
    simp
    apply UInt8.toNat_inj.1
    rw [ub_toNat _ (by omega)]
    omega

end Go.Proofs.YtcmahiphfpgadaaGreatDoor

/- A literal's digits are found again of its real; literals and their texts. -/
namespace Go.Proofs.YtcmahiphfpgadaaGreatDoor
open Ieee
set_option linter.unusedVariables false

theorem val_HALF : ∃ h : Nat, val HALF = (h : Int) ∧ 2 * h = U := ⟨pw 1073, by decide +kernel, by decide +kernel⟩

theorem pw_2148 : pw 2148 = U * U := by
  have h : pw 2148 = pw (1074 + 1074) := pw_congr (by decide)
  rw [h, pw_add, ← U_def]

/-- The digits of a literal's real, but nought. -/
theorem digits_pos (n s : Nat) (hn : 1 ≤ n) (hn2 : n < 1000000000000000) (hs : 1 ≤ s) (hs2 : s ≤ 1000000) : digitsOf (quo n s) s = some n := by
  obtain ⟨X, x, hX, hXn, hXv, q1, q2⟩ := quo_err n s hn (by omega) hs (by omega)
  have hq : quo n s = X := hX
  have hU := U_pos
  have e54 : pw 54 = 18014398509481984 := rfl
  rw [e54] at q1 q2
  have hA : n * U ≤ 999999999999999 * U := Nat.mul_le_mul_right _ (by omega)
  have hA0 : 1 * U ≤ n * U := Nat.mul_le_mul_right _ hn
  obtain ⟨A, hAd⟩ : ∃ A, A = n * U := ⟨_, rfl⟩
  obtain ⟨V, hV⟩ : ∃ V, V = x * s := ⟨_, rfl⟩
  rw [← hAd, ← hV] at q1 q2
  rw [← hAd] at hA hA0
  have v1 : 4 * V ≤ 4 * A + U := by omega
  have v2 : 4 * A ≤ 4 * V + U := by omega
  have v0 : 1 ≤ V := by omega
  have hx0 : x ≠ 0 := by rintro rfl; rw [Nat.zero_mul] at hV; omega
  have vb : V < 1125899906842624 * U := by omega
  -- the product
  have ws := ofInt_whole (s : Int) (by omega)
  have hxs : x ≤ V := by rw [hV]; exact Nat.le_mul_of_pos_right x (by omega)
  have hXt : (val X).natAbs < TOP := by
    rw [hXv, Int.natAbs_natCast]
    have := U_top 1125899906842624 (by decide)
    omega
  obtain ⟨sg, T, base, m1, m2, m3, m4⟩ := mul_fin hXn ws.1 hXt (ws.top (by omega))
  have m3' : T * pw (base + (2148 : Nat)).toNat = V * U := by
    have : T * pw (base + 2148).toNat = V * U := by
      rw [m3, hXv, ws.abs, Int.natAbs_natCast, Int.natAbs_natCast, hV, Nat.mul_assoc]
    exact this
  have hVU : 0 < V * U := Nat.mul_pos v0 hU
  have hsg : sg = false := by
    have hpos : 0 < val X * val (ofInt (s : Int)) := by
      rw [hXv, ws.2]
      exact Int.mul_pos (by omega) (Int.mul_pos (by omega) (by omega))
    rw [m4 (by omega), decide_eq_false (by omega)]
  subst hsg
  have hT0 : T ≠ 0 := by rintro rfl; rw [Nat.zero_mul] at m3'; omega
  have e2148 : pw 2148 = U * U := pw_2148
  have hB1 : T * pw (base + (2148 : Nat)).toNat < pw (50 + 2148) := by
    rw [m3', pw_add, e2148, ← Nat.mul_assoc, show pw 50 = 1125899906842624 from rfl]
    exact Nat.mul_lt_mul_of_pos_right vb hU
  obtain ⟨v, pv, p1, p2⟩ := near_err T base 2148 hT0 (by omega) (by omega) hB1
  rw [m3', e2148, show (2148 - 1074 : Nat) = 1074 from rfl, ← U_def] at p1 p2
  have p1' : 16 * v ≤ 16 * V + U := by
    refine Nat.le_of_mul_le_mul_right (c := U) ?_ hU
    rw [Nat.add_mul, Nat.mul_assoc, Nat.mul_assoc]; exact p1
  have p2' : 16 * V ≤ 16 * v + U := by
    refine Nat.le_of_mul_le_mul_right (c := U) ?_ hU
    rw [Nat.add_mul, Nat.mul_assoc, Nat.mul_assoc]; exact p2
  clear p1 p2 hB1 m3 m3' hVU
  -- the sum
  obtain ⟨h, hh, hhU⟩ := val_HALF
  have hpn : isNan (D.nearest false T base) = false := isNan_nearest _ _ _
  have hpt : (val (D.nearest false T base)).natAbs < TOP := by
    rw [pv, Int.natAbs_natCast]
    have := U_top 1125899906842624 (by decide)
    omega
  have hht : (val HALF).natAbs < TOP := by
    rw [hh, Int.natAbs_natCast]
    have := U_top 1 (by decide)
    omega
  obtain ⟨sg2, T2, base2, a1, a2, a3, a4⟩ := add_fin hpn (show isNan HALF = false by decide) hpt hht
  rw [pv, hh] at a3 a4
  have hsg2 : sg2 = false := by rw [a4 (by omega), decide_eq_false (by omega)]
  subst hsg2
  have a3' : T2 * pw (base2 + (1074 : Nat)).toNat = v + h := by
    have : T2 * pw (base2 + 1074).toNat = v + h := by rw [a3]; omega
    exact this
  have hT20 : T2 ≠ 0 := by rintro rfl; rw [Nat.zero_mul] at a3'; omega
  have hB2 : T2 * pw (base2 + (1074 : Nat)).toNat < pw (50 + 1074) := by
    rw [a3', pw_add, ← U_def, show pw 50 = 1125899906842624 from rfl]
    omega
  obtain ⟨y, yv, y1, y2⟩ := near_err T2 base2 1074 hT20 (by omega) (by omega) hB2
  rw [a3', Nat.sub_self, show pw 0 = 1 from rfl, Nat.mul_one, ← U_def] at y1 y2
  have f1 : A ≤ y := by omega
  have f2 : y < A + U := by omega
  -- what is told
  have hyn : isNan (D.nearest false T2 base2) = false := isNan_nearest _ _ _
  have hnear : nearOf X s = some (D.nearest false T2 base2) := by
    unfold nearOf
    rw [m1]
    exact a1
  have htr : (trunc (val (D.nearest false T2 base2))).toNat = n := by
    rw [yv]
    unfold trunc
    rw [if_neg (by omega), Int.natAbs_natCast, ← U_def]
    have : y / U = n := by
      refine Nat.div_eq_of_lt_le (by rw [← hAd]; exact f1) ?_
      rw [Nat.add_mul, ← hAd, Nat.one_mul]; exact f2
    rw [this]; rfl
  have hE : val (D.nearest false T2 base2) < val E15 := by
    rw [yv, val_E15, ← U_def]
    omega
  rw [hq]
  unfold digitsOf
  rw [hnear]
  simp only
  rw [if_pos ⟨hyn, by rw [yv]; omega, hE⟩, htr, if_pos]
  rw [hq, home_real hXn]

theorem digits_zero (k : Nat) (h1 : 1 ≤ k) (h6 : k ≤ 6) : digitsOf (quo 0 (10 ^ k)) (10 ^ k) = some 0 := by
  have : k = 1 ∨ k = 2 ∨ k = 3 ∨ k = 4 ∨ k = 5 ∨ k = 6 := by omega
  rcases this with rfl | rfl | rfl | rfl | rfl | rfl <;> decide +kernel

theorem scale_bounds (k : Nat) (h6 : k ≤ 6) : 1 ≤ 10 ^ k ∧ 10 ^ k ≤ 1000000 :=
  ⟨Nat.pow_pos (by decide), show 10 ^ k ≤ 10 ^ 6 from Nat.pow_le_pow_right (by decide) h6⟩

/-- A literal's digits are found again of its real. -/
theorem digits_complete (n k : Nat) (h1 : 1 ≤ k) (h6 : k ≤ 6) (hn : n < 1000000000000000) : digitsOf (quo n (10 ^ k)) (10 ^ k) = some n := by
  by_cases h0 : n = 0
  · subst h0; exact digits_zero k h1 h6
  · have := scale_bounds k h6
    exact digits_pos n (10 ^ k) (by omega) hn this.1 this.2

/-- What digitsOf finds is a literal's. -/
theorem digits_sound {x s n : Nat} (h : digitsOf x s = some n) : quo n s = home x ∧ n < 1000000000000000 := by
  refine ⟨?_, digitsOf_lt h⟩
  unfold digitsOf at h
  split at h
  · cases h
  · split at h
    · split at h
      · rename_i hq
        cases h
        exact hq
      · cases h
    · cases h

theorem quo_home (n s : Nat) : home (quo n s) = quo n s := isNan_told _
theorem quo_lt (n s : Nat) : quo n s < 18446744073709551616 := told_lt (fun x h => D.div_lt h)

/-- Of one scale there is one literal. -/
theorem quo_inj {n n' k : Nat} (h1 : 1 ≤ k) (h6 : k ≤ 6) (hn : n < 1000000000000000) (hn' : n' < 1000000000000000) (h : quo n (10 ^ k) = quo n' (10 ^ k)) : n = n' := by
  have a := digits_complete n k h1 h6 hn
  have b := digits_complete n' k h1 h6 hn'
  rw [h, b] at a
  cases a; rfl

/-- Of two scales: the digits are the same but for noughts behind. -/
theorem quo_scales {n n' k j : Nat} (hj1 : 1 ≤ j) (hjk : j ≤ k) (h6 : k ≤ 6) (hn : n < 1000000000000000) (hn' : n' < 1000000000000000) (h : quo n (10 ^ k) = quo n' (10 ^ j)) : n = n' * 10 ^ (k - j) := by
  have sk := scale_bounds k h6
  have sj := scale_bounds j (by omega)
  by_cases h0 : n = 0
  · subst h0
    have e0 : quo 0 (10 ^ k) = quo 0 (10 ^ j) := by
      have : ∀ k : Nat, 1 ≤ k → k ≤ 6 → quo 0 (10 ^ k) = 0 := by
        intro k h1 h6
        have : k = 1 ∨ k = 2 ∨ k = 3 ∨ k = 4 ∨ k = 5 ∨ k = 6 := by omega
        rcases this with rfl | rfl | rfl | rfl | rfl | rfl <;> decide +kernel
      rw [this k (by omega) h6, this j hj1 (by omega)]
    rw [e0] at h
    have := quo_inj hj1 (by omega) (by decide) hn' h
    rw [← this]; simp
  · by_cases h0' : n' = 0
    · subst h0'
      exfalso
      have e0 : quo 0 (10 ^ j) = quo 0 (10 ^ k) := by
        have : ∀ k : Nat, 1 ≤ k → k ≤ 6 → quo 0 (10 ^ k) = 0 := by
          intro k h1 h6
          have : k = 1 ∨ k = 2 ∨ k = 3 ∨ k = 4 ∨ k = 5 ∨ k = 6 := by omega
          rcases this with rfl | rfl | rfl | rfl | rfl | rfl <;> decide +kernel
        rw [this k (by omega) h6, this j hj1 (by omega)]
      rw [e0] at h
      exact h0 (quo_inj (by omega) h6 hn (by decide) h)
    · obtain ⟨X, x, hX, _, hXv, q1, q2⟩ := quo_err n (10 ^ k) (by omega) (by omega) sk.1 (by omega)
      obtain ⟨X', x', hX', _, hXv', q1', q2'⟩ := quo_err n' (10 ^ j) (by omega) (by omega) sj.1 (by omega)
      have hXX : X = X' := by rw [← hX, ← hX']; exact h
      rw [← hXX, hXv] at hXv'
      have hxx : x' = x := by omega
      subst hxx
      have hU := U_pos
      have ek : 10 ^ k = 10 ^ j * 10 ^ (k - j) := by rw [← Nat.pow_add]; congr 1; omega
      obtain ⟨t, ht⟩ : ∃ t, t = 10 ^ (k - j) := ⟨_, rfl⟩
      rw [← ht] at ek ⊢
      rw [ek] at q1 q2
      have r1 := Nat.mul_le_mul_right t q1'
      have r2 := Nat.mul_le_mul_right t q2'
      have e1 : pw 54 * (x' * 10 ^ j) * t = pw 54 * (x' * (10 ^ j * t)) := by simp only [Nat.mul_assoc]
      have e2 : (pw 54 * (n' * U) + 3 * (x' * 10 ^ j)) * t = pw 54 * (n' * t * U) + 3 * (x' * (10 ^ j * t)) := by
        rw [Nat.add_mul]
        have : pw 54 * (n' * U) * t = pw 54 * (n' * t * U) := by simp only [Nat.mul_assoc, Nat.mul_comm t U]
        rw [this]
        simp only [Nat.mul_assoc]
      have e3 : pw 54 * (n' * U) * t = pw 54 * (n' * t * U) := by simp only [Nat.mul_assoc, Nat.mul_comm t U]
      have e4 : (pw 54 * (x' * 10 ^ j) + 3 * (x' * 10 ^ j)) * t = pw 54 * (x' * (10 ^ j * t)) + 3 * (x' * (10 ^ j * t)) := by
        rw [Nat.add_mul]; simp only [Nat.mul_assoc]
      rw [e1, e2] at r1
      rw [e3, e4] at r2
      have hA : n * U ≤ 999999999999999 * U := Nat.mul_le_mul_right _ (by omega)
      have e54 : pw 54 = 18014398509481984 := rfl
      rw [e54] at q1 q2 r1 r2
      have c1 : n * U < (n' * t + 1) * U := by
        rw [Nat.add_mul, Nat.one_mul]
        generalize x' * (10 ^ j * t) = V at q1 q2 r1 r2
        generalize n' * t * U = B at r1 r2 ⊢
        generalize n * U = A at q1 q2 hA ⊢
        omega
      have c2 : n' * t * U < (n + 1) * U := by
        rw [Nat.add_mul, Nat.one_mul]
        generalize x' * (10 ^ j * t) = V at q1 q2 r1 r2
        generalize n' * t * U = B at r1 r2 ⊢
        generalize n * U = A at q1 q2 hA ⊢
        omega
      have d1 := Nat.lt_of_mul_lt_mul_right c1
      have d2 := Nat.lt_of_mul_lt_mul_right c2
      omega

end Go.Proofs.YtcmahiphfpgadaaGreatDoor
