/- Whole numbers as reals: exact up to 2^53 in size, with their sums, differences and products: no program is named here. -/
import Derived.Test.YtcmahiphfpgadaaDoorJ4
namespace Go.Proofs.YtcmahiphfpgadaaDoor
open Ieee
set_option linter.unusedVariables false

/-- Numbers of one worth have one nearest word. -/
theorem nearest_same (s : Bool) (C : Int) (m1 m2 : Nat) (p1 p2 : Int) (h1 : -C ≤ p1) (h2 : -C ≤ p2) (h : m1 * pw (p1 + C).toNat = m2 * pw (p2 + C).toNat) : D.nearest s m1 p1 = D.nearest s m2 p2 := by
  have key : ∀ (m1 m2 : Nat) (p1 p2 : Int), -C ≤ p1 → p1 ≤ p2 → m1 * pw (p1 + C).toNat = m2 * pw (p2 + C).toNat → D.nearest s m1 p1 = D.nearest s m2 p2 := by
    intro m1 m2 p1 p2 h1 h12 h
    have e : pw (p2 + C).toNat = pw (p2 - p1).toNat * pw (p1 + C).toNat := by rw [← pw_add]; congr 1; omega
    rw [e, ← Nat.mul_assoc] at h
    have h' := Nat.eq_of_mul_eq_mul_right (pw_pos _) h
    rw [h', ← nearest_scale s m2 (p2 - p1).toNat p2]
    congr 1; omega
  rcases Int.le_total p1 p2 with h12 | h12
  · exact key m1 m2 p1 p2 h1 h12 h
  · exact (key m2 m1 p2 p1 h2 h12 h.symm).symm

/-- A finite real. -/
theorem read_fin {b : Nat} (hn : isNan b = false) (h : (val b).natAbs < TOP) : ∃ s m e, D.read b = .number s m e ∧ -1074 ≤ e ∧ val b = signed s m (e + 1074).toNat ∧ (val b).natAbs = m * pw (e + 1074).toNat := by
  rcases read_real hn with ⟨s, m, e, hr⟩ | ⟨s, hr⟩
  · have hv : val b = signed s m (e + 1074).toNat := by unfold val; rw [hr]; rfl
    refine ⟨s, m, e, hr, (read_shape hr).2.2.1, hv, ?_⟩
    rw [hv, signed_eq]
    cases s
    · simp only [Bool.false_eq_true, if_false, Int.natAbs_natCast]
    · simp only [if_true, Int.natAbs_neg, Int.natAbs_natCast]
  · exfalso
    have hv : val b = if s then -(TOP : Int) else (TOP : Int) := by unfold val; rw [hr]; rfl
    rw [hv] at h
    cases s <;> simp only [Bool.false_eq_true, if_false, if_true] at h <;> omega

/-- A sum of two finite reals is the nearest word of the exact one. -/
theorem add_fin {a b : Nat} (ha : isNan a = false) (hb : isNan b = false) (ha' : (val a).natAbs < TOP) (hb' : (val b).natAbs < TOP) :
    ∃ sg T base, D.add a b = some (D.nearest sg T base) ∧ -1074 ≤ base ∧ T * pw (base + 1074).toNat = (val a + val b).natAbs ∧ (val a + val b ≠ 0 → sg = decide (val a + val b < 0)) := by
  obtain ⟨s, m, i, hr1, hi, hv1, _⟩ := read_fin ha ha'
  obtain ⟨t, n, j, hr2, hj, hv2, _⟩ := read_fin hb hb'
  unfold Format.add
  rw [hr1, hr2]
  have hv : (signed s m (i - min i j).toNat + signed t n (j - min i j).toNat) * (pw (min i j + 1074).toNat : Int) = val a + val b := by
    rw [Int.add_mul, ← signed_add, ← signed_add, hv1, hv2]
    congr 2 <;> congr 1 <;> omega
  have hp := pw_pos (min i j + 1074).toNat
  refine ⟨_, _, min i j, rfl, by omega, ?_, ?_⟩
  · rw [← hv, Int.natAbs_mul, Int.natAbs_natCast]
  · intro h0
    have hne : signed s m (i - min i j).toNat + signed t n (j - min i j).toNat ≠ 0 := by
      intro hz; rw [hz, Int.zero_mul] at hv; exact h0 hv.symm
    show (if signed s m (i - min i j).toNat + signed t n (j - min i j).toNat = 0 then _ else _) = _
    rw [if_neg hne]
    generalize signed s m (i - min i j).toNat + signed t n (j - min i j).toNat = T at hv hne
    generalize pw (min i j + 1074).toNat = P at hv hp
    rw [← hv]
    congr 1
    apply propext
    constructor
    · intro h; exact Int.mul_neg_of_neg_of_pos h (by omega)
    · intro h
      by_cases hT : T < 0
      · exact hT
      · exfalso
        have := Int.mul_nonneg (show 0 ≤ T by omega) (show (0 : Int) ≤ (P : Int) by omega)
        omega

/-- A product of two finite reals likewise. -/
theorem mul_fin {a b : Nat} (ha : isNan a = false) (hb : isNan b = false) (ha' : (val a).natAbs < TOP) (hb' : (val b).natAbs < TOP) :
    ∃ sg T base, D.mul a b = some (D.nearest sg T base) ∧ -2148 ≤ base ∧ T * pw (base + 2148).toNat = (val a).natAbs * (val b).natAbs ∧ (val a * val b ≠ 0 → sg = decide (val a * val b < 0)) := by
  obtain ⟨s, m, i, hr1, hi, hv1, hm1⟩ := read_fin ha ha'
  obtain ⟨t, n, j, hr2, hj, hv2, hm2⟩ := read_fin hb hb'
  unfold Format.mul
  rw [hr1, hr2]
  refine ⟨_, _, i + j, rfl, by omega, ?_, ?_⟩
  · rw [hm1, hm2, show (i + j + 2148).toNat = (i + 1074).toNat + (j + 1074).toNat by omega, pw_add]
    simp only [Nat.mul_assoc, Nat.mul_left_comm]
  · rw [hv1, hv2, signed_eq, signed_eq]
    generalize m * pw (i + 1074).toNat = X
    generalize n * pw (j + 1074).toNat = Y
    intro h0
    have hXY : (0 : Int) ≤ (X : Int) * (Y : Int) := Int.mul_nonneg (by omega) (by omega)
    cases s <;> cases t <;> simp only [Bool.false_eq_true, if_false, if_true, Int.mul_neg, Int.neg_mul, Int.neg_neg, ne_eq] at h0 ⊢
    · rw [decide_eq_false (by omega)]; rfl
    · rw [decide_eq_true (by omega)]; rfl
    · rw [decide_eq_true (by omega)]; rfl
    · rw [decide_eq_false (by omega)]; rfl

/-- One, in units. -/
def U : Nat := pw 1074
theorem U_pos : 0 < U := pw_pos _
theorem U_top (z : Nat) (hz : z ≤ 18446744073709551616) : z * U < TOP := by
  have h64 : (18446744073709551616 : Nat) = pw 64 := rfl
  have h1 : z * pw 1074 ≤ pw 64 * pw 1074 := Nat.mul_le_mul_right _ (by rw [← h64]; exact hz)
  rw [← pw_add] at h1
  have h2 : pw (64 + 1074) < pw 2200 := pw_lt (by decide)
  have h3 : U = pw 1074 := rfl
  have h4 : TOP = pw 2200 := rfl
  rw [h3, h4]
  generalize pw (64 + 1074) = A at h1 h2
  generalize pw 2200 = B at h2 ⊢
  generalize z * pw 1074 = C at h1 ⊢
  clear h3 h4 h64
  omega

/-- A word that is worth a whole number. -/
def Whole (b : Nat) (z : Int) : Prop := isNan b = false ∧ val b = z * (U : Int)

theorem Whole.abs {b : Nat} {z : Int} (h : Whole b z) : (val b).natAbs = z.natAbs * U := by rw [h.2, Int.natAbs_mul, Int.natAbs_natCast]
theorem Whole.top {b : Nat} {z : Int} (h : Whole b z) (hz : z.natAbs ≤ 18446744073709551616) : (val b).natAbs < TOP := by rw [h.abs]; exact U_top _ hz

theorem signed_whole (s : Bool) (z : Int) (X : Nat) (hX : X = z.natAbs * U) (hs : z ≠ 0 → s = decide (z < 0)) : (if s then -(X : Int) else (X : Int)) = z * (U : Int) := by
  rw [hX]
  clear hX
  generalize U = K
  by_cases hz : z = 0
  · rw [hz]; cases s <;> simp
  · rw [hs hz]
    have e : ((z.natAbs * K : Nat) : Int) = (z.natAbs : Int) * (K : Int) := by simp
    by_cases h : z < 0
    · rw [decide_eq_true h, if_pos rfl, e, show (z.natAbs : Int) = -z by omega, Int.neg_mul, Int.neg_neg]
    · rw [decide_eq_false h, e, show (z.natAbs : Int) = z by omega]; simp

/-- A whole number of at most 2^53 in size is a real. -/
theorem nearest_whole (s : Bool) (z : Int) (hz : z.natAbs ≤ 9007199254740992) (hs : z ≠ 0 → s = decide (z < 0)) : Whole (D.nearest s z.natAbs 0) z := by
  refine ⟨isNan_nearest _ _ _, ?_⟩
  by_cases h0 : z.natAbs = 0
  · have hz0 : z = 0 := by omega
    rw [h0, hz0]
    have : D.nearest s 0 0 = D.word s 0 := by unfold Format.nearest; rw [if_pos rfl]
    rw [this, Int.zero_mul]
    cases s
    · decide +kernel
    · decide +kernel
  · have hlog : z.natAbs.log2 ≤ 53 := by
      have := (Nat.log2_lt h0 (k := 54)).2 (by omega)
      omega
    obtain ⟨m, e, hr, hm⟩ := nearest_read s z.natAbs 0 h0 (by omega)
    have hv : val (D.nearest s z.natAbs 0) = signed s m (e + 1074).toNat := by unfold val; rw [hr]; rfl
    rw [hv, signed_eq, hm]
    apply signed_whole s z _ _ hs
    by_cases h53 : z.natAbs.log2 = 53
    · have hz2 : z.natAbs = 9007199254740992 := by
        have := (log2_bounds _ h0).1
        rw [h53] at this
        have e53 : pw 53 = 9007199254740992 := rfl
        omega
      have hl : lastOf z.natAbs 0 = 1 := by unfold lastOf; omega
      unfold keptOf
      rw [hl, hz2]
      have e1 : rne (9007199254740992 * pw (0 - 1 : Int).toNat) (1 - 0 : Int).toNat = 4503599627370496 := by decide
      rw [e1, show ((1 : Int) + 1074).toNat = 1 + 1074 from rfl, pw_add, ← Nat.mul_assoc, show 4503599627370496 * pw 1 = 9007199254740992 from rfl]
      unfold U
      rfl
    · have hl : lastOf z.natAbs 0 ≤ 0 ∧ -1074 ≤ lastOf z.natAbs 0 := by unfold lastOf; omega
      unfold keptOf
      rw [show (lastOf z.natAbs 0 - 0).toNat = 0 by omega, rne_zero, Nat.mul_assoc, ← pw_add]
      unfold U
      congr 2
      omega

theorem ofInt_whole (z : Int) (hz : z.natAbs ≤ 9007199254740992) : Whole (ofInt z) z := nearest_whole _ z hz (fun _ => rfl)

theorem told_whole {r : Nat} {z : Int} (h : Whole r z) : Whole (told (some r)) z := by
  unfold told
  simp only
  rw [home_real h.1]
  exact h

theorem add_whole {a b : Nat} {x y : Int} (ha : Whole a x) (hb : Whole b y) (hx : x.natAbs ≤ 18446744073709551616) (hy : y.natAbs ≤ 18446744073709551616) (hz : (x + y).natAbs ≤ 9007199254740992) : Whole (fadd a b) (x + y) := by
  obtain ⟨sg, T, base, h1, h2, h3, h4⟩ := add_fin ha.1 hb.1 (ha.top hx) (hb.top hy)
  have hv : val a + val b = (x + y) * (U : Int) := by rw [ha.2, hb.2, Int.add_mul]
  have hU := U_pos
  unfold fadd
  rw [h1]
  apply told_whole
  rw [hv, Int.natAbs_mul, Int.natAbs_natCast] at h3
  rw [nearest_same sg 1074 T (x + y).natAbs base 0 h2 (by omega) h3]
  apply nearest_whole sg _ hz
  intro h0
  have hne : val a + val b ≠ 0 := by
    rw [hv]
    exact Int.mul_ne_zero h0 (by omega)
  rw [h4 hne, hv]
  congr 1
  apply propext
  generalize x + y = z at h0
  generalize U = P at hU
  constructor
  · intro h
    by_cases hT : z < 0
    · exact hT
    · exfalso
      have := Int.mul_nonneg (show 0 ≤ z by omega) (show (0 : Int) ≤ (P : Int) by omega)
      omega
  · intro h; exact Int.mul_neg_of_neg_of_pos h (by omega)

theorem neg_whole {b : Nat} {y : Int} (hb64 : b < 18446744073709551616) (hb : Whole b y) : Whole (fneg b) (-y) := by
  refine ⟨by rw [isNan_fneg hb64, hb.1], ?_⟩
  rw [val_fneg hb64 hb.1, hb.2, Int.neg_mul]

theorem mul_whole {a b : Nat} {x y : Int} (ha : Whole a x) (hb : Whole b y) (hx : x.natAbs ≤ 18446744073709551616) (hy : y.natAbs ≤ 18446744073709551616) (hz : (x * y).natAbs ≤ 9007199254740992) : Whole (fmul a b) (x * y) := by
  obtain ⟨sg, T, base, h1, h2, h3, h4⟩ := mul_fin ha.1 hb.1 (ha.top hx) (hb.top hy)
  have hU := U_pos
  unfold fmul
  rw [h1]
  apply told_whole
  rw [ha.abs, hb.abs] at h3
  have h3' : T * pw (base + 2148).toNat = (x * y).natAbs * pw (0 + 2148 : Int).toNat := by
    rw [h3, Int.natAbs_mul, show (0 + 2148 : Int).toNat = 1074 + 1074 from rfl, pw_add]
    unfold U
    generalize pw 1074 = P
    simp only [Nat.mul_assoc, Nat.mul_left_comm]
  rw [nearest_same sg 2148 T (x * y).natAbs base 0 h2 (by omega) h3']
  apply nearest_whole sg _ hz
  intro h0
  have hv : val a * val b = (x * y) * ((U : Int) * (U : Int)) := by
    rw [ha.2, hb.2]
    simp only [Int.mul_assoc, Int.mul_left_comm]
  have hUU : (0 : Int) < (U : Int) * (U : Int) := Int.mul_pos (by omega) (by omega)
  have hne : val a * val b ≠ 0 := by
    rw [hv]
    exact Int.mul_ne_zero h0 (by omega)
  rw [h4 hne, hv]
  congr 1
  apply propext
  generalize x * y = z at h0
  generalize (U : Int) * (U : Int) = P at hUU
  constructor
  · intro h
    by_cases hT : z < 0
    · exact hT
    · exfalso
      have := Int.mul_nonneg (show 0 ≤ z by omega) (show (0 : Int) ≤ P by omega)
      omega
  · intro h; exact Int.mul_neg_of_neg_of_pos h hUU

theorem trunc_whole (z : Int) : trunc (z * (U : Int)) = z := by
  have hU := U_pos
  unfold trunc
  rw [Int.natAbs_mul, Int.natAbs_natCast]
  have e : z.natAbs * U / pw 1074 = z.natAbs := Nat.mul_div_cancel _ hU
  rw [e]
  by_cases h : z < 0
  · rw [if_pos (Int.mul_neg_of_neg_of_pos h (by omega))]; omega
  · rw [if_neg (by have := Int.mul_nonneg (show 0 ≤ z by omega) (show (0 : Int) ≤ (U : Int) by omega); omega)]; omega

theorem whole_lt {z y : Int} : z * (U : Int) < y * (U : Int) ↔ z < y := by
  have hU := U_pos
  constructor
  · intro h; exact Int.lt_of_mul_lt_mul_right h (by omega)
  · intro h; exact Int.mul_lt_mul_of_pos_right h (by omega)

theorem whole_eq {z y : Int} : z * (U : Int) = y * (U : Int) ↔ z = y := by
  have hU := U_pos
  constructor
  · intro h; exact Int.eq_of_mul_eq_mul_right (by omega) h
  · intro h; rw [h]

theorem val_B63' : val B63 = 9223372036854775808 * (U : Int) := by rw [val_B63]; simp [U]
theorem val_N63' : val N63 = (-9223372036854775808) * (U : Int) := by rw [val_N63]; unfold U; generalize pw 1074 = P; omega

theorem toInt_whole {b : Nat} {z : Int} (h : Whole b z) (h1 : -9223372036854775808 ≤ z) (h2 : z < 9223372036854775808) : toIntOf b = (z, true) := by
  unfold toIntOf
  rw [h.1, h.2, val_B63', val_N63', trunc_whole]
  simp only [Bool.false_eq_true, if_false]
  rw [if_pos]
  refine ⟨whole_lt.2 h2, ?_⟩
  have := (not_congr (whole_lt (z := z) (y := -9223372036854775808))).2 (by omega)
  omega

theorem toInt_great {b : Nat} {z : Int} (h : Whole b z) (h2 : 9223372036854775808 ≤ z) : toIntOf b = (0, false) := by
  unfold toIntOf
  rw [h.1, h.2, val_B63', val_N63']
  simp only [Bool.false_eq_true, if_false]
  rw [if_neg]
  rintro ⟨h3, _⟩
  have := whole_lt.1 h3
  omega

theorem less_whole {a b : Nat} {x y : Int} (ha : Whole a x) (hb : Whole b y) : (D.order a b == some .lt) = decide (x < y) := by
  rw [lt_val ha.1 hb.1, ha.2, hb.2]
  congr 1
  exact propext whole_lt

theorem equal_whole {a b : Nat} {x y : Int} (ha : Whole a x) (hb : Whole b y) : (D.order a b == some .eq) = decide (x = y) := by
  rw [eq_val ha.1 hb.1, ha.2, hb.2]
  congr 1
  exact propext whole_eq

end Go.Proofs.YtcmahiphfpgadaaDoor
