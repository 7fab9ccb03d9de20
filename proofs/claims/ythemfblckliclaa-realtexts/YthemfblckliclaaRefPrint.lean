/- The document's own Print: it answers as the code's does. -/
import Derived.Test.YthemfblckliclaaGuess
namespace Go.Proofs.Ythemfblckliclaa
open Ieee Go.RowKit
set_option linter.unusedVariables false

theorem quo_zero (k : Nat) (h1 : 1 ≤ k) (h6 : k ≤ 6) : quo 0 (10 ^ k) = 0 := by
  have : k = 1 ∨ k = 2 ∨ k = 3 ∨ k = 4 ∨ k = 5 ∨ k = 6 := by omega
  rcases this with rfl | rfl | rfl | rfl | rfl | rfl <;> decide +kernel

/-- The reals of literals are not below nought, and less than 10^15. -/
theorem quo_small (n k : Nat) (h1 : 1 ≤ k) (h6 : k ≤ 6) (hn : n < 1000000000000000) : quo n (10 ^ k) < 9223372036854775808 ∧ isNan (quo n (10 ^ k)) = false ∧ val (quo n (10 ^ k)) < val E15 := by
  have hs := scale_bounds k h6
  by_cases h0 : n = 0
  · subst h0
    rw [quo_zero k h1 h6]
    exact ⟨by decide, by decide, by rw [val_zero, val_E15]; have := pw_pos 1074; omega⟩
  · obtain ⟨X, x, hX, hXn, hXv, q1, q2⟩ := quo_err n (10 ^ k) (by omega) (by omega) hs.1 (by omega)
    have hq : quo n (10 ^ k) = X := hX
    have hU := U_pos
    rw [hq]
    have h10 : 10 ≤ 10 ^ k := Nat.pow_le_pow_right (show 0 < 10 by decide) h1
    have hx10 : x * 10 ≤ x * 10 ^ k := Nat.mul_le_mul_left _ h10
    have hA : n * U ≤ 999999999999999 * U := Nat.mul_le_mul_right _ (by omega)
    have e54 : pw 54 = 18014398509481984 := rfl
    rw [e54] at q1 q2
    refine ⟨?_, hXn, ?_⟩
    · -- its sign
      have hb : X < 18446744073709551616 := by rw [← hX]; exact quo_lt n (10 ^ k)
      by_cases hlt : X < 9223372036854775808
      · exact hlt
      · exfalso
        have hxt : (val X).natAbs < TOP := by
          rw [hXv, Int.natAbs_natCast]
          have := U_top 1125899906842624 (by decide)
          generalize x * 10 ^ k = V at *
          generalize n * U = A at *
          omega
        obtain ⟨s, m, e, hr, _, hv, hm⟩ := read_fin hXn hxt
        have hs1 : s = true := by
          rw [(read_shape hr).1, show X / 9223372036854775808 = 1 by omega]; rfl
        subst hs1
        rw [hXv, signed_eq, if_pos rfl] at hv
        have hx0 : x = 0 := by omega
        rw [hx0, Nat.zero_mul] at q2
        have := Nat.mul_pos (show 0 < n by omega) hU
        omega
    · rw [hXv, val_E15, ← U_def]
      generalize x * 10 ^ k = V at *
      generalize n * U = A at *
      omega

theorem pr_none {h : Nat} (hh : home h = h) (hb : h = NAN ∨ 9223372036854775808 ≤ h ∨ val E15 ≤ val h) : pr h 1 6 = none := by
  cases hp : pr h 1 6 with
  | none => rfl
  | some kn =>
    exfalso
    obtain ⟨k, n⟩ := kn
    obtain ⟨h1, h2, h3⟩ := pr_sound 6 1 k n h hp
    obtain ⟨h4, h5⟩ := digits_sound h3
    obtain ⟨s1, s2, s3⟩ := quo_small n k h1 (by omega) h5
    rw [h4, hh] at s1 s2 s3
    rcases hb with rfl | hb | hb
    · rw [isNan_NAN] at s2; cases s2
    · omega
    · omega

theorem litOf_parts (k n : Nat) (h6 : k ≤ 6) : aheadOf (litOf k n) = decOf ((n / 10 ^ k : Nat) : Int) ∧ (behindOf (litOf k n)).length = k := by
  have hs := scale_bounds k h6
  obtain ⟨b, hb, hbl, hg, hv⟩ := behind_one k (n % 10 ^ k) h6 (Nat.mod_lt _ (by omega))
  have he : litOf k n = digs 19 (n / 10 ^ k) ++ 46 :: b := by
    unfold litOf
    rw [hb, decOf_nat]
    simp
  obtain ⟨c1, c2⟩ := cut_at (digs 19 (n / 10 ^ k)) b (no_point _ _)
  rw [← he] at c1 c2
  exact ⟨by rw [c1, decOf_nat], by rw [c2, hbl]⟩

/-- The literal of digits that are too many is none. -/
theorem litOf_great (k n : Nat) (h6 : k ≤ 6) (hn : 1000000000000000 ≤ n) (hn2 : n ≤ 10000000000000000) : ¬ IsLit (litOf k n) := by
  intro h
  obtain ⟨c1, c2⟩ := litOf_parts k n h6
  have hN : n / 10 ^ k ≤ 9223372036854775807 := Nat.le_trans (Nat.div_le_self _ _) (by omega)
  obtain ⟨g, gv⟩ := good_digs (n / 10 ^ k) hN
  have h3 := h.2.2.1
  have hl := good_lt g
  rw [gv] at hl
  rw [c1, c2, decOf_nat] at h3
  have h4 : n / 10 ^ k < 10 ^ (15 - k) := Nat.lt_of_lt_of_le hl (Nat.pow_le_pow_right (by decide) (by omega))
  rw [Nat.div_lt_iff_lt_mul (Nat.pow_pos (by decide)), ← Nat.pow_add, show 15 - k + k = 15 by omega] at h4
  omega

/-- What the document's Parse tells of a candidate: the real's bits, or another. -/
theorem refParse_cand (k n h : Nat) (h1 : 1 ≤ k) (h6 : k ≤ 6) (hn : n ≤ 10000000000000000) (L : List UInt8) (hL : L = litOf k n) (w : World) :
    Calls Try.prog 32 #[.string ⟨L.toArray⟩] w fun e w' => (∃ (y : Nat) (E : Int), e = .returned (.tuple #[.int .u64 (y : Int), .int .i64 E]) ∧ Hid ((E = 0 ∧ y = h) ↔ (n < 1000000000000000 ∧ quo n (10 ^ k) = h)) ∧ (E = 0 ∨ E = 4)) ∧ ∃ q, w' = w.drewN q := by
  subst hL
  have hlen := litOf_len k n
  refine (refParse_any ⟨(litOf k n).toArray⟩ w (by rw [size_mk]; omega)).mono ?_
  rintro e w' ⟨hp, hq⟩
  refine ⟨?_, hq⟩
  have hp : ParsePost (litOf k n) e := hp
  rcases hp with ⟨hl, rfl⟩ | ⟨hl, rfl⟩
  · have hn15 : n < 1000000000000000 := by
      rcases Nat.lt_or_ge n 1000000000000000 with h | h
      · exact h
      · exact absurd hl (litOf_great k n h6 h hn)
    obtain ⟨g1, g2, g3, _⟩ := litOf_lit k n h1 h6 hn15
    refine ⟨_, 0, rfl, ?_, .inl rfl⟩
    show _ ↔ _
    rw [g2, g3]
    constructor
    · rintro ⟨_, e⟩; exact ⟨hn15, e⟩
    · rintro ⟨_, e⟩; exact ⟨rfl, e⟩
  · refine ⟨0, 4, rfl, ?_, .inr rfl⟩
    show _ ↔ _
    constructor
    · rintro ⟨e, _⟩; omega
    · rintro ⟨e, _⟩; exact absurd (litOf_lit k n h1 h6 e).1 hl

theorem floor_any (r F : Nat) (hw : D.write ((D.read r).integral .down) = ofInt (F : Int)) (hnn : ∀ s t, D.read r ≠ .nan s t) (w : World) : Calls Try.prog 50 #[.float .f64 r] w fun e w' => e = .returned (.float .f64 (ofInt (F : Int))) ∧ w' = w := by
  have hcf : ∀ w, Sem.run Try.prog (callFunc 57 #[.float .f64 r]) w = .ok (.value (.float .f64 (ofInt (F : Int)))) w := fun w => by
    rw [run_callFunc_extern Try.func57 (by kernel_rfl) (by kernel_rfl) (by kernel_rfl) (e := Extern.MathFloor.toIntegral "math.archFloor" .down) (by kernel_rfl)]
    obtain ⟨nb, key⟩ : ∃ nb : Bool → Nat → Sem Value, Extern.MathFloor.toIntegral "math.archFloor" .down #[.float .f64 r] = (match FloatKind.f64.decode r with
        | .nan s t => nb s t
        | d => pure (.float .f64 (FloatKind.f64.encode (d.integral .down)))) := ⟨_, rfl⟩
    have hd : FloatKind.f64.decode r = D.read r := rfl
    have hen : ∀ d, FloatKind.f64.encode d = D.write d := fun d => rfl
    rw [key, hd]
    cases hr : D.read r with
    | nan s t => exact absurd hr (hnn s t)
    | infinity s => rw [hr] at hw; simp only [hen, hw]; rfl
    | number s m e => rw [hr] at hw; simp only [hen, hw]; rfl
  go_enter Try.func50, Try.ntmps50
  go_wp2
  go_ret
  exact ⟨rfl, rfl⟩

/-- The guess at a real's digits. -/
theorem guess (h k : Nat) (hh : home h = h) (hn : isNan h = false) (hp : h < 9223372036854775808) (hlt : val h < val E15) (h1 : 1 ≤ k) (h6 : k ≤ 6) :
    ∃ p F : Nat, floatBits .mul .f64 h (floatOfInt .f64 ((10 ^ k : Nat) : Int)) = some p ∧ isNan p = false ∧ F ≤ 2000000000000000 ∧ D.write ((D.read (least p)).integral .down) = ofInt (F : Int) ∧ (∀ s t, D.read (least p) ≠ .nan s t) ∧
      floatToIntVal .f64 (ofInt (F : Int)) .i64 = some (F : Int) ∧ (∀ n, digitsOf h (10 ^ k) = some n → n ≤ F + 2 ∧ F ≤ n + 2) := by
  have hs := scale_bounds k h6
  have hU := U_pos
  have ws := ofInt_whole ((10 ^ k : Nat) : Int) (by omega)
  have h0 := val_nonneg hp hn
  have ht : (val h).natAbs < TOP := by
    rw [val_E15, ← U_def] at hlt
    have := U_top 1000000000000000 (by decide)
    omega
  obtain ⟨p, m1, m2, m3⟩ := mul_pos_some hp (ofInt_pos (10 ^ k)) hn ws.1 ht (ws.top (by omega))
  obtain ⟨l1, l2, l3, l4⟩ := least_real m2 m3
  obtain ⟨F, f1, f2, f3, f4, f5⟩ := floor_real l1 l2 l3
  have wF := ofInt_whole (F : Int) (by omega)
  have hcv : floatToIntVal .f64 (ofInt (F : Int)) .i64 = some (F : Int) := by
    have := whole_val wF.1 (by rw [wF.2, val_B63']; exact whole_lt.2 (by omega)) (by
      rw [wF.2, val_N63']
      have := (not_congr (whole_lt (z := (F : Int)) (y := -9223372036854775808))).2 (by omega)
      omega)
    rw [this, wF.2, trunc_whole]
  refine ⟨p, F, m1, m2, f1, f4, f5, hcv, ?_⟩
  intro n hd
  obtain ⟨d1, d2⟩ := digits_sound hd
  rw [hh] at d1
  by_cases hn0 : n = 0
  · subst hn0
    rw [quo_zero k h1 h6] at d1
    subst d1
    have hp0 : p = 0 := by
      have : D.mul 0 (ofInt ((10 ^ k : Nat) : Int)) = some 0 := by
        have : k = 1 ∨ k = 2 ∨ k = 3 ∨ k = 4 ∨ k = 5 ∨ k = 6 := by omega
        rcases this with rfl | rfl | rfl | rfl | rfl | rfl <;> decide +kernel
      rw [m1] at this
      cases this; rfl
    subst hp0
    rw [l4 (by rw [val_zero]; omega), val_zero] at f3
    have : (F : Int) * (U : Int) ≤ 0 := f3
    have hF : F = 0 := by
      rcases Nat.eq_zero_or_pos F with h | h
      · exact h
      · exfalso
        have := Int.mul_pos (show (0 : Int) < (F : Int) by omega) (show (0 : Int) < (U : Int) by omega)
        omega
    omega
  · obtain ⟨p', v, q1, q2, q3, q4⟩ := prod_near n (10 ^ k) (by omega) d2 hs.1 hs.2
    rw [d1, m1] at q1
    cases q1
    have hA : n * U ≤ 999999999999999 * U := Nat.mul_le_mul_right _ (by omega)
    have hpv : val p < 2000000000000000 * (U : Int) := by
      rw [q2]
      generalize n * U = A at *
      omega
    rw [l4 hpv, q2] at f2 f3
    have g1 : (n : Int) * (U : Int) < ((F : Int) + 2) * (U : Int) := by
      have e1 : ((F : Int) + 1) * (U : Int) = (F : Int) * (U : Int) + (U : Int) := by rw [Int.add_mul, Int.one_mul]
      have e2 : ((F : Int) + 2) * (U : Int) = (F : Int) * (U : Int) + 2 * (U : Int) := by rw [Int.add_mul]
      have e3 : ((n * U : Nat) : Int) = (n : Int) * (U : Int) := by simp
      rw [e2, ← e3]
      rw [e1] at f2
      generalize n * U = A at *
      generalize (F : Int) * (U : Int) = B at *
      omega
    have g2 : (F : Int) * (U : Int) < ((n : Int) + 1) * (U : Int) := by
      have e2 : ((n : Int) + 1) * (U : Int) = (n : Int) * (U : Int) + (U : Int) := by rw [Int.add_mul, Int.one_mul]
      have e3 : ((n * U : Nat) : Int) = (n : Int) * (U : Int) := by simp
      rw [e2, ← e3]
      generalize n * U = A at *
      generalize (F : Int) * (U : Int) = B at *
      omega
    have := whole_lt.1 g1
    have := whole_lt.1 g2
    omega

end Go.Proofs.Ythemfblckliclaa
