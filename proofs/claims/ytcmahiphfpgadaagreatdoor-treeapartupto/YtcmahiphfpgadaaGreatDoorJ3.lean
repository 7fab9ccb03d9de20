/- Joined texts of the proof. -/
import Derived.Test.YtcmahiphfpgadaaGreatDoorJ2
import Derived.Laws.BytesArg
import Derived.Test.YtcmahiphfpgadaaGreatDoorJ1
import Derived.Lib.Bytealg
import Derived.Deep.QuietTactic
import Derived.BigQuiet

/- Whole numbers as reals: exact up to 2^53 in size, with their sums, differences and products: no program is named here. -/
namespace Go.Proofs.YtcmahiphfpgadaaGreatDoor
open Ieee
set_option linter.unusedVariables false

/-- Numbers of one worth have one nearest word. -/
theorem nearest_same (s : Bool) (C : Int) (m1 m2 : Nat) (p1 p2 : Int) (h1 : -C ≤ p1) (h2 : -C ≤ p2) (h : m1 * pw (p1 + C).toNat = m2 * pw (p2 + C).toNat) : D.nearest s m1 p1 = D.nearest s m2 p2 := by
  have key : ∀ (m1 m2 : Nat) (p1 p2 : Int), -C ≤ p1 → p1 ≤ p2 → m1 * pw (p1 + C).toNat = m2 * pw (p2 + C).toNat → D.nearest s m1 p1 = D.nearest s m2 p2 := by
    intro m1 m2 p1 p2 h1 h12 h
    have e : pw (p2 + C).toNat = pw (p2 - p1).toNat * pw (p1 + C).toNat := by rw [← pw_add]; congr 1; omega
    rw [e, ← Nat.mul_assoc] at h
    have h' := Nat.eq_of_mul_eq_mul_right (pw_pos _) h
    rw [h', ← nearest_scale s m2 (p2 - p1).toNat p2]
    congr 1; omega
  rcases Int.le_total p1 p2 with h12 | h12
  · exact key m1 m2 p1 p2 h1 h12 h
  · exact (key m2 m1 p2 p1 h2 h12 h.symm).symm

/-- A finite real. -/
theorem read_fin {b : Nat} (hn : isNan b = false) (h : (val b).natAbs < TOP) : ∃ s m e, D.read b = .number s m e ∧ -1074 ≤ e ∧ val b = signed s m (e + 1074).toNat ∧ (val b).natAbs = m * pw (e + 1074).toNat := by
  rcases read_real hn with ⟨s, m, e, hr⟩ | ⟨s, hr⟩
  · have hv : val b = signed s m (e + 1074).toNat := by unfold val; rw [hr]; rfl
    refine ⟨s, m, e, hr, (read_shape hr).2.2.1, hv, ?_⟩
    rw [hv, signed_eq]
    cases s
    · simp only [Bool.false_eq_true, if_false, Int.natAbs_natCast]
    · simp only [if_true, Int.natAbs_neg, Int.natAbs_natCast]
  · exfalso
    have hv : val b = if s then -(TOP : Int) else (TOP : Int) := by unfold val; rw [hr]; rfl
    rw [hv] at h
    cases s <;> simp only [Bool.false_eq_true, if_false, if_true] at h <;> omega

/-- A sum of two finite reals is the nearest word of the exact one. -/
theorem add_fin {a b : Nat} (ha : isNan a = false) (hb : isNan b = false) (ha' : (val a).natAbs < TOP) (hb' : (val b).natAbs < TOP) :
    ∃ sg T base, D.add a b = some (D.nearest sg T base) ∧ -1074 ≤ base ∧ T * pw (base + 1074).toNat = (val a + val b).natAbs ∧ (val a + val b ≠ 0 → sg = decide (val a + val b < 0)) := by
  obtain ⟨s, m, i, hr1, hi, hv1, _⟩ := read_fin ha ha'
  obtain ⟨t, n, j, hr2, hj, hv2, _⟩ := read_fin hb hb'
  unfold Format.add
  rw [hr1, hr2]
  have hv : (signed s m (i - min i j).toNat + signed t n (j - min i j).toNat) * (pw (min i j + 1074).toNat : Int) = val a + val b := by
    rw [Int.add_mul, ← signed_add, ← signed_add, hv1, hv2]
    congr 2 <;> congr 1 <;> omega
  have hp := pw_pos (min i j + 1074).toNat
  refine ⟨_, _, min i j, rfl, by omega, ?_, ?_⟩
  · rw [← hv, Int.natAbs_mul, Int.natAbs_natCast]
  · intro h0
    have hne : signed s m (i - min i j).toNat + signed t n (j - min i j).toNat ≠ 0 := by
      intro hz; rw [hz, Int.zero_mul] at hv; exact h0 hv.symm
    show (if signed s m (i - min i j).toNat + signed t n (j - min i j).toNat = 0 then _ else _) = _
    rw [if_neg hne]
    generalize signed s m (i - min i j).toNat + signed t n (j - min i j).toNat = T at hv hne
    generalize pw (min i j + 1074).toNat = P at hv hp
    rw [← hv]
    congr 1
    apply propext
    constructor
    · intro h; exact Int.mul_neg_of_neg_of_pos h (by omega)
    · intro h
      by_cases hT : T < 0
      · exact hT
      · exfalso
        have := Int.mul_nonneg (show 0 ≤ T by omega) (show (0 : Int) ≤ (P : Int) by omega)
        omega

/-- A product of two finite reals likewise. -/
theorem mul_fin {a b : Nat} (ha : isNan a = false) (hb : isNan b = false) (ha' : (val a).natAbs < TOP) (hb' : (val b).natAbs < TOP) :
    ∃ sg T base, D.mul a b = some (D.nearest sg T base) ∧ -2148 ≤ base ∧ T * pw (base + 2148).toNat = (val a).natAbs * (val b).natAbs ∧ (val a * val b ≠ 0 → sg = decide (val a * val b < 0)) := by
  obtain ⟨s, m, i, hr1, hi, hv1, hm1⟩ := read_fin ha ha'
  obtain ⟨t, n, j, hr2, hj, hv2, hm2⟩ := read_fin hb hb'
  unfold Format.mul
  rw [hr1, hr2]
  refine ⟨_, _, i + j, rfl, by omega, ?_, ?_⟩
  · rw [hm1, hm2, show (i + j + 2148).toNat = (i + 1074).toNat + (j + 1074).toNat by omega, pw_add]
    simp only [Nat.mul_assoc, Nat.mul_left_comm]
  · rw [hv1, hv2, signed_eq, signed_eq]
    generalize m * pw (i + 1074).toNat = X
    generalize n * pw (j + 1074).toNat = Y
    intro h0
    have hXY : (0 : Int) ≤ (X : Int) * (Y : Int) := Int.mul_nonneg (by omega) (by omega)
    cases s <;> cases t <;> simp only [Bool.false_eq_true, if_false, if_true, Int.mul_neg, Int.neg_mul, Int.neg_neg, ne_eq] at h0 ⊢
    · rw [decide_eq_false (by omega)]; rfl
    · rw [decide_eq_true (by omega)]; rfl
    · rw [decide_eq_true (by omega)]; rfl
    · rw [decide_eq_false (by omega)]; rfl

/-- One, in units. -/
def U : Nat := pw 1074
theorem U_pos : 0 < U := pw_pos _
theorem U_top (z : Nat) (hz : z ≤ 18446744073709551616) : z * U < TOP := by
  have h64 : (18446744073709551616 : Nat) = pw 64 := rfl
  have h1 : z * pw 1074 ≤ pw 64 * pw 1074 := Nat.mul_le_mul_right _ (by rw [← h64]; exact hz)
  rw [← pw_add] at h1
  have h2 : pw (64 + 1074) < pw 2200 := pw_lt (by decide)
  have h3 : U = pw 1074 := rfl
  have h4 : TOP = pw 2200 := rfl
  rw [h3, h4]
  generalize pw (64 + 1074) = A at h1 h2
  generalize pw 2200 = B at h2 ⊢
  generalize z * pw 1074 = C at h1 ⊢
  clear h3 h4 h64
  omega

/-- A word that is worth a whole number. -/
def Whole (b : Nat) (z : Int) : Prop := isNan b = false ∧ val b = z * (U : Int)

theorem Whole.abs {b : Nat} {z : Int} (h : Whole b z) : (val b).natAbs = z.natAbs * U := by rw [h.2, Int.natAbs_mul, Int.natAbs_natCast]
theorem Whole.top {b : Nat} {z : Int} (h : Whole b z) (hz : z.natAbs ≤ 18446744073709551616) : (val b).natAbs < TOP := by rw [h.abs]; exact U_top _ hz

theorem signed_whole (s : Bool) (z : Int) (X : Nat) (hX : X = z.natAbs * U) (hs : z ≠ 0 → s = decide (z < 0)) : (if s then -(X : Int) else (X : Int)) = z * (U : Int) := by
  rw [hX]
  clear hX
  generalize U = K
  by_cases hz : z = 0
  · rw [hz]; cases s <;> simp
  · rw [hs hz]
    have e : ((z.natAbs * K : Nat) : Int) = (z.natAbs : Int) * (K : Int) := by simp
    by_cases h : z < 0
    · rw [decide_eq_true h, if_pos rfl, e, show (z.natAbs : Int) = -z by omega, Int.neg_mul, Int.neg_neg]
    · rw [decide_eq_false h, e, show (z.natAbs : Int) = z by omega]; simp

/-- A whole number of at most 2^53 in size is a real. -/
theorem nearest_whole (s : Bool) (z : Int) (hz : z.natAbs ≤ 9007199254740992) (hs : z ≠ 0 → s = decide (z < 0)) : Whole (D.nearest s z.natAbs 0) z := by
  refine ⟨isNan_nearest _ _ _, ?_⟩
  by_cases h0 : z.natAbs = 0
  · have hz0 : z = 0 := by omega
    rw [h0, hz0]
    have : D.nearest s 0 0 = D.word s 0 := by unfold Format.nearest; rw [if_pos rfl]
    rw [this, Int.zero_mul]
    cases s
    · decide +kernel
    · decide +kernel
  · have hlog : z.natAbs.log2 ≤ 53 := by
      have := (Nat.log2_lt h0 (k := 54)).2 (by omega)
      omega
    obtain ⟨m, e, hr, hm⟩ := nearest_read s z.natAbs 0 h0 (by omega)
    have hv : val (D.nearest s z.natAbs 0) = signed s m (e + 1074).toNat := by unfold val; rw [hr]; rfl
    rw [hv, signed_eq, hm]
    apply signed_whole s z _ _ hs
    by_cases h53 : z.natAbs.log2 = 53
    · have hz2 : z.natAbs = 9007199254740992 := by
        have := (log2_bounds _ h0).1
        rw [h53] at this
        have e53 : pw 53 = 9007199254740992 := rfl
        omega
      have hl : lastOf z.natAbs 0 = 1 := by unfold lastOf; omega
      unfold keptOf
      rw [hl, hz2]
      have e1 : rne (9007199254740992 * pw (0 - 1 : Int).toNat) (1 - 0 : Int).toNat = 4503599627370496 := by decide
      rw [e1, show ((1 : Int) + 1074).toNat = 1 + 1074 from rfl, pw_add, ← Nat.mul_assoc, show 4503599627370496 * pw 1 = 9007199254740992 from rfl]
      unfold U
      rfl
    · have hl : lastOf z.natAbs 0 ≤ 0 ∧ -1074 ≤ lastOf z.natAbs 0 := by unfold lastOf; omega
      unfold keptOf
      rw [show (lastOf z.natAbs 0 - 0).toNat = 0 by omega, rne_zero, Nat.mul_assoc, ← pw_add]
      unfold U
      congr 2
      omega

theorem ofInt_whole (z : Int) (hz : z.natAbs ≤ 9007199254740992) : Whole (ofInt z) z := nearest_whole _ z hz (fun _ => rfl)

theorem told_whole {r : Nat} {z : Int} (h : Whole r z) : Whole (told (some r)) z := by
  unfold told
  simp only
  rw [home_real h.1]
  exact h

theorem add_whole {a b : Nat} {x y : Int} (ha : Whole a x) (hb : Whole b y) (hx : x.natAbs ≤ 18446744073709551616) (hy : y.natAbs ≤ 18446744073709551616) (hz : (x + y).natAbs ≤ 9007199254740992) : Whole (fadd a b) (x + y) := by
  obtain ⟨sg, T, base, h1, h2, h3, h4⟩ := add_fin ha.1 hb.1 (ha.top hx) (hb.top hy)
  have hv : val a + val b = (x + y) * (U : Int) := by rw [ha.2, hb.2, Int.add_mul]
  have hU := U_pos
  unfold fadd
  rw [h1]
  apply told_whole
  rw [hv, Int.natAbs_mul, Int.natAbs_natCast] at h3
  rw [nearest_same sg 1074 T (x + y).natAbs base 0 h2 (by omega) h3]
  apply nearest_whole sg _ hz
  intro h0
  have hne : val a + val b ≠ 0 := by
    rw [hv]
    exact Int.mul_ne_zero h0 (by omega)
  rw [h4 hne, hv]
  congr 1
  apply propext
  generalize x + y = z at h0
  generalize U = P at hU
  constructor
  · intro h
    by_cases hT : z < 0
    · exact hT
    · exfalso
      have := Int.mul_nonneg (show 0 ≤ z by omega) (show (0 : Int) ≤ (P : Int) by omega)
      omega
  · intro h; exact Int.mul_neg_of_neg_of_pos h (by omega)

theorem neg_whole {b : Nat} {y : Int} (hb64 : b < 18446744073709551616) (hb : Whole b y) : Whole (fneg b) (-y) := by
  refine ⟨by rw [isNan_fneg hb64, hb.1], ?_⟩
  rw [val_fneg hb64 hb.1, hb.2, Int.neg_mul]

theorem mul_whole {a b : Nat} {x y : Int} (ha : Whole a x) (hb : Whole b y) (hx : x.natAbs ≤ 18446744073709551616) (hy : y.natAbs ≤ 18446744073709551616) (hz : (x * y).natAbs ≤ 9007199254740992) : Whole (fmul a b) (x * y) := by
  obtain ⟨sg, T, base, h1, h2, h3, h4⟩ := mul_fin ha.1 hb.1 (ha.top hx) (hb.top hy)
  have hU := U_pos
  unfold fmul
  rw [h1]
  apply told_whole
  rw [ha.abs, hb.abs] at h3
  have h3' : T * pw (base + 2148).toNat = (x * y).natAbs * pw (0 + 2148 : Int).toNat := by
    rw [h3, Int.natAbs_mul, show (0 + 2148 : Int).toNat = 1074 + 1074 from rfl, pw_add]
    unfold U
    generalize pw 1074 = P
    simp only [Nat.mul_assoc, Nat.mul_left_comm]
  rw [nearest_same sg 2148 T (x * y).natAbs base 0 h2 (by omega) h3']
  apply nearest_whole sg _ hz
  intro h0
  have hv : val a * val b = (x * y) * ((U : Int) * (U : Int)) := by
    rw [ha.2, hb.2]
    simp only [Int.mul_assoc, Int.mul_left_comm]
  have hUU : (0 : Int) < (U : Int) * (U : Int) := Int.mul_pos (by omega) (by omega)
  have hne : val a * val b ≠ 0 := by
    rw [hv]
    exact Int.mul_ne_zero h0 (by omega)
  rw [h4 hne, hv]
  congr 1
  apply propext
  generalize x * y = z at h0
  generalize (U : Int) * (U : Int) = P at hUU
  constructor
  · intro h
    by_cases hT : z < 0
    · exact hT
    · exfalso
      have := Int.mul_nonneg (show 0 ≤ z by omega) (show (0 : Int) ≤ P by omega)
      omega
  · intro h; exact Int.mul_neg_of_neg_of_pos h hUU

theorem trunc_whole (z : Int) : trunc (z * (U : Int)) = z := by
  have hU := U_pos
  unfold trunc
  rw [Int.natAbs_mul, Int.natAbs_natCast]
  have e : z.natAbs * U / pw 1074 = z.natAbs := Nat.mul_div_cancel _ hU
  rw [e]
  by_cases h : z < 0
  · rw [if_pos (Int.mul_neg_of_neg_of_pos h (by omega))]; omega
  · rw [if_neg (by have := Int.mul_nonneg (show 0 ≤ z by omega) (show (0 : Int) ≤ (U : Int) by omega); omega)]; omega

theorem whole_lt {z y : Int} : z * (U : Int) < y * (U : Int) ↔ z < y := by
  have hU := U_pos
  constructor
  · intro h; exact Int.lt_of_mul_lt_mul_right h (by omega)
  · intro h; exact Int.mul_lt_mul_of_pos_right h (by omega)

theorem whole_eq {z y : Int} : z * (U : Int) = y * (U : Int) ↔ z = y := by
  have hU := U_pos
  constructor
  · intro h; exact Int.eq_of_mul_eq_mul_right (by omega) h
  · intro h; rw [h]

theorem val_B63' : val B63 = 9223372036854775808 * (U : Int) := by rw [val_B63]; simp [U]
theorem val_N63' : val N63 = (-9223372036854775808) * (U : Int) := by rw [val_N63]; unfold U; generalize pw 1074 = P; omega

theorem toInt_whole {b : Nat} {z : Int} (h : Whole b z) (h1 : -9223372036854775808 ≤ z) (h2 : z < 9223372036854775808) : toIntOf b = (z, true) := by
  unfold toIntOf
  rw [h.1, h.2, val_B63', val_N63', trunc_whole]
  simp only [Bool.false_eq_true, if_false]
  rw [if_pos]
  refine ⟨whole_lt.2 h2, ?_⟩
  have := (not_congr (whole_lt (z := z) (y := -9223372036854775808))).2 (by omega)
  omega

theorem toInt_great {b : Nat} {z : Int} (h : Whole b z) (h2 : 9223372036854775808 ≤ z) : toIntOf b = (0, false) := by
  unfold toIntOf
  rw [h.1, h.2, val_B63', val_N63']
  simp only [Bool.false_eq_true, if_false]
  rw [if_neg]
  rintro ⟨h3, _⟩
  have := whole_lt.1 h3
  omega

theorem less_whole {a b : Nat} {x y : Int} (ha : Whole a x) (hb : Whole b y) : (D.order a b == some .lt) = decide (x < y) := by
  rw [lt_val ha.1 hb.1, ha.2, hb.2]
  congr 1
  exact propext whole_lt

theorem equal_whole {a b : Nat} {x y : Int} (ha : Whole a x) (hb : Whole b y) : (D.order a b == some .eq) = decide (x = y) := by
  rw [eq_val ha.1 hb.1, ha.2, hb.2]
  congr 1
  exact propext whole_eq

end Go.Proofs.YtcmahiphfpgadaaGreatDoor

/- The real of a literal, and its digits found again: no program is named here. -/
namespace Go.Proofs.YtcmahiphfpgadaaGreatDoor
open Ieee
set_option linter.unusedVariables false

theorem pw_congr {a b : Nat} (h : a = b) : pw a = pw b := by rw [h]
theorem U_def : U = pw 1074 := rfl

/-- The nearest word of a number below 2^50 is off by a sixteenth at most. -/
theorem near_err (m : Nat) (p : Int) (C : Nat) (hm : m ≠ 0) (hC : 1074 ≤ C) (hp : -(C : Int) ≤ p) (hB : m * pw (p + C).toNat < pw (50 + C)) :
    ∃ v : Nat, val (D.nearest false m p) = (v : Int) ∧ 16 * (v * pw (C - 1074)) ≤ 16 * (m * pw (p + C).toNat) + pw C ∧ 16 * (m * pw (p + C).toNat) ≤ 16 * (v * pw (C - 1074)) + pw C := by
  obtain ⟨b1, b2⟩ := log2_bounds m hm
  have hlog : (m.log2 : Int) + p < 50 := by
    have h1 : pw m.log2 * pw (p + C).toNat < pw (50 + C) := Nat.lt_of_le_of_lt (Nat.mul_le_mul_right _ b1) hB
    rw [← pw_add] at h1
    have h2 : m.log2 + (p + C).toNat < 50 + C := (Nat.pow_lt_pow_iff_right (show 1 < 2 by decide)).1 h1
    omega
  obtain ⟨m', e', hr, hm'⟩ := nearest_read false m p hm (by omega)
  have hl1 := last_ge m p
  have hl2 : lastOf m p ≤ -3 := by unfold lastOf; omega
  refine ⟨keptOf m p * pw (lastOf m p + 1074).toNat, ?_, ?_⟩
  · unfold val; rw [hr]
    show signed false m' (e' + 1074).toNat = _
    rw [signed_eq, hm']; rfl
  · have e1 : pw (lastOf m p + 1074).toNat * pw (C - 1074) = pw (lastOf m p + C).toNat := by rw [← pw_add]; exact pw_congr (by omega)
    rw [Nat.mul_assoc, e1]
    have hpC : pw C = 8 * pw (C - 3) := by
      have : pw C = pw (3 + (C - 3)) := pw_congr (by omega)
      rw [this, pw_add]; rfl
    by_cases ht : lastOf m p ≤ p
    · have e2 : keptOf m p * pw (lastOf m p + C).toNat = m * pw (p + C).toNat := by
        unfold keptOf
        rw [show (lastOf m p - p).toNat = 0 by omega, rne_zero, Nat.mul_assoc, ← pw_add, pw_congr (show (p - lastOf m p).toNat + (lastOf m p + (C : Int)).toNat = (p + (C : Int)).toNat by omega)]
      rw [e2]
      omega
    · obtain ⟨r1, r2⟩ := rne_near m (lastOf m p - p).toNat
      have hk : keptOf m p = rne m (lastOf m p - p).toNat := by
        unfold keptOf
        rw [show (p - lastOf m p).toNat = 0 by omega, show pw 0 = 1 from rfl, Nat.mul_one]
      rw [← hk] at r1 r2
      have e3 : pw (lastOf m p + C).toNat = pw (lastOf m p - p).toNat * pw (p + C).toNat := by rw [← pw_add]; exact pw_congr (by omega)
      have e4 : pw (lastOf m p + C).toNat ≤ pw (C - 3) := pw_le (by omega)
      have s1 := Nat.mul_le_mul_right (pw (p + C).toNat) r1
      have s2 := Nat.mul_le_mul_right (pw (p + C).toNat) r2
      have f1 : 2 * (keptOf m p * pw (lastOf m p - p).toNat) * pw (p + C).toNat = 2 * (keptOf m p * pw (lastOf m p + C).toNat) := by rw [e3]; simp only [Nat.mul_assoc]
      have f2 : (2 * m + pw (lastOf m p - p).toNat) * pw (p + C).toNat = 2 * (m * pw (p + C).toNat) + pw (lastOf m p + C).toNat := by rw [e3, Nat.add_mul, Nat.mul_assoc]
      have f3 : (2 * (keptOf m p * pw (lastOf m p - p).toNat) + pw (lastOf m p - p).toNat) * pw (p + C).toNat = 2 * (keptOf m p * pw (lastOf m p + C).toNat) + pw (lastOf m p + C).toNat := by rw [Nat.add_mul, f1, e3]
      have f4 : 2 * m * pw (p + C).toNat = 2 * (m * pw (p + C).toNat) := by rw [Nat.mul_assoc]
      rw [f1, f2] at s1
      rw [f3, f4] at s2
      generalize keptOf m p * pw (lastOf m p + C).toNat = X at *
      generalize m * pw (p + C).toNat = Y at *
      generalize pw (lastOf m p + C).toNat = Z at *
      generalize pw (C - 3) = A at *
      generalize pw C = B at *
      omega

/-- The quotient to 54 digits, and one that tells whether anything is left. -/
theorem quot_bounds (m c : Nat) (hm : m ≠ 0) (hc : c ≠ 0) (g : Nat) (hg : m.log2 + g = 54 + c.log2) :
    ∃ Q, Q = 2 * (m * pw g / c) + (m * pw g % c != 0).toNat ∧ pw 54 ≤ Q ∧ Q < pw 56 ∧ Q * c ≤ 2 * (m * pw g) + c ∧ 2 * (m * pw g) ≤ Q * c + c := by
  refine ⟨_, rfl, ?_⟩
  obtain ⟨b1, b2⟩ := log2_bounds m hm
  obtain ⟨c1, c2⟩ := log2_bounds c hc
  have h1 : pw (54 + c.log2) ≤ m * pw g := by rw [← hg, pw_add]; exact Nat.mul_le_mul_right _ b1
  have h2 : m * pw g < pw (55 + c.log2) := by
    rw [show 55 + c.log2 = m.log2 + 1 + g by omega, pw_add]
    exact Nat.mul_lt_mul_of_pos_right b2 (pw_pos _)
  generalize m * pw g = Dv at h1 h2 ⊢
  have hcp : 0 < c := Nat.pos_of_ne_zero hc
  have q1 : pw 53 ≤ Dv / c := by
    rw [Nat.le_div_iff_mul_le hcp]
    refine Nat.le_trans (Nat.mul_le_mul_left _ (Nat.le_of_lt c2)) ?_
    rw [← pw_add]
    exact Nat.le_trans (pw_le (by omega)) h1
  have q2 : Dv / c < pw 55 := by
    rw [Nat.div_lt_iff_lt_mul hcp]
    refine Nat.lt_of_lt_of_le h2 ?_
    rw [pw_add]
    exact Nat.mul_le_mul_left _ c1
  have hdm := Nat.div_add_mod Dv c
  have hml := Nat.mod_lt Dv hcp
  have e54 : pw 54 = 2 * pw 53 := rfl
  have e56 : pw 56 = 2 * pw 55 := rfl
  have hst : (Dv % c != 0).toNat = 0 ∧ Dv % c = 0 ∨ (Dv % c != 0).toNat = 1 ∧ Dv % c ≠ 0 := by
    by_cases h : Dv % c = 0
    · left; rw [h]; exact ⟨rfl, rfl⟩
    · right; exact ⟨by rw [show (Dv % c != 0) = true by simpa using h]; rfl, h⟩
  generalize (Dv % c != 0).toNat = st at hst ⊢
  generalize Dv % c = r at hdm hml hst
  have e : (2 * (Dv / c) + st) * c = 2 * (c * (Dv / c)) + st * c := by rw [Nat.add_mul, Nat.mul_comm c, Nat.mul_assoc]
  rw [e]
  generalize c * (Dv / c) = F at hdm ⊢
  rw [e54, e56]
  generalize pw 53 = A at q1 ⊢
  generalize pw 55 = B at q2 ⊢
  generalize Dv / c = q at q1 q2 ⊢
  rcases hst with ⟨rfl, hr⟩ | ⟨rfl, hr⟩ <;> omega

theorem div_eq {a b : Nat} {m c : Nat} {i j : Int} (ha : D.read a = .number false m i) (hb : D.read b = .number false c j) (hc : c ≠ 0) :
    D.div a b = some (D.nearest false (2 * (m * pw (54 + c.log2 - m.log2) / c) + (m * pw (54 + c.log2 - m.log2) % c != 0).toNat) (i - j - ((54 + c.log2 - m.log2 : Nat) : Int) - 1)) := by
  unfold Format.div
  rw [ha, hb]
  simp only [Datum.quotient]
  rw [if_neg hc]
  simp only [Option.map_some, Format.write, Nat.shiftLeft_eq]
  rfl

/-- The real of a quotient of whole numbers is off by three quarters of its last digit at most. -/
theorem quo_err (n s : Nat) (hn : 1 ≤ n) (hn2 : n ≤ 9007199254740992) (hs : 1 ≤ s) (hs2 : s ≤ 9007199254740992) :
    ∃ X x : Nat, fdiv (ofInt (n : Int)) (ofInt (s : Int)) = X ∧ isNan X = false ∧ val X = (x : Int) ∧ pw 54 * (x * s) ≤ pw 54 * (n * U) + 3 * (x * s) ∧ pw 54 * (n * U) ≤ pw 54 * (x * s) + 3 * (x * s) := by
  have wn := ofInt_whole (n : Int) (by omega)
  have ws := ofInt_whole (s : Int) (by omega)
  obtain ⟨s1, m, i, hr1, hi, hv1, hm1⟩ := read_fin wn.1 (wn.top (by omega))
  obtain ⟨s2, c, j, hr2, hj, hv2, hm2⟩ := read_fin ws.1 (ws.top (by omega))
  rw [wn.abs, Int.natAbs_natCast] at hm1
  rw [ws.abs, Int.natAbs_natCast] at hm2
  have hU := U_pos
  have hm0 : m ≠ 0 := by
    rintro rfl
    rw [Nat.zero_mul] at hm1
    have := Nat.mul_pos (show 0 < n by omega) hU
    omega
  have hc0 : c ≠ 0 := by
    rintro rfl
    rw [Nat.zero_mul] at hm2
    have := Nat.mul_pos (show 0 < s by omega) hU
    omega
  have hpos : ∀ (b : Nat) (k : Nat) (sg : Bool) (mm : Nat) (ee : Int), 1 ≤ k → Whole b (k : Int) → D.read b = .number sg mm ee → val b = signed sg mm (ee + 1074).toNat → mm ≠ 0 → sg = false := by
    intro b k sg mm ee hk hw hr hv h0
    cases sg
    · rfl
    · exfalso
      rw [hw.2, signed_eq, if_pos rfl] at hv
      have h1 : 0 < (k : Int) * (U : Int) := Int.mul_pos (by omega) (by omega)
      have h2 := Nat.mul_pos (Nat.pos_of_ne_zero h0) (pw_pos (ee + 1074).toNat)
      omega
  obtain rfl := hpos _ n s1 m i hn wn hr1 hv1 hm0
  obtain rfl := hpos _ s s2 c j hs ws hr2 hv2 hc0
  have sh1 := (read_shape hr1).2.1
  have sh2 := (read_shape hr2).2.1
  -- the places are near nought
  have hplace : ∀ (k mm : Nat) (ee : Int), -1074 ≤ ee → 1 ≤ k → k ≤ 9007199254740992 → mm < 9007199254740992 → mm ≠ 0 → k * U = mm * pw (ee + 1074).toNat → -53 ≤ ee ∧ ee ≤ 53 := by
    intro k mm ee h1 hk hk2 hmm h0 he
    refine ⟨?_, ?_⟩
    · have a1 : U ≤ pw 53 * pw (ee + 1074).toNat := by
        have b1 : 1 * U ≤ k * U := Nat.mul_le_mul_right _ hk
        have b2 : mm * pw (ee + 1074).toNat ≤ pw 53 * pw (ee + 1074).toNat := Nat.mul_le_mul_right _ (Nat.le_of_lt hmm)
        rw [Nat.one_mul, he] at b1
        exact Nat.le_trans b1 b2
      rw [U_def, ← pw_add] at a1
      have := (Nat.pow_le_pow_iff_right (show 1 < 2 by decide)).1 a1
      omega
    · have a1 : pw (ee + 1074).toNat ≤ pw 53 * U := by
        have b1 : 1 * pw (ee + 1074).toNat ≤ mm * pw (ee + 1074).toNat := Nat.mul_le_mul_right _ (by omega)
        have b2 : k * U ≤ pw 53 * U := Nat.mul_le_mul_right _ hk2
        rw [Nat.one_mul, ← he] at b1
        exact Nat.le_trans b1 b2
      rw [U_def, ← pw_add] at a1
      have := (Nat.pow_le_pow_iff_right (show 1 < 2 by decide)).1 a1
      omega
  obtain ⟨i1, i2⟩ := hplace n m i hi hn hn2 sh1 hm0 hm1
  obtain ⟨j1, j2⟩ := hplace s c j hj hs hs2 sh2 hc0 hm2
  have lm : m.log2 < 53 := (Nat.log2_lt hm0).2 sh1
  have lc : c.log2 < 53 := (Nat.log2_lt hc0).2 sh2
  obtain ⟨g, hg⟩ : ∃ g, g = 54 + c.log2 - m.log2 := ⟨_, rfl⟩
  obtain ⟨Q, hQ, Q1, Q2, Q3, Q4⟩ := quot_bounds m c hm0 hc0 g (by omega)
  have hdiv := div_eq hr1 hr2 hc0
  rw [← hg, ← hQ] at hdiv
  have hQ0 : Q ≠ 0 := by have := pw_pos 54; omega
  have lQ1 : 54 ≤ Q.log2 := (Nat.le_log2 hQ0).2 Q1
  have lQ2 : Q.log2 < 56 := (Nat.log2_lt hQ0).2 Q2
  obtain ⟨P, hP⟩ : ∃ P : Int, P = i - j - (g : Int) - 1 := ⟨_, rfl⟩
  rw [← hP] at hdiv
  have hlast : lastOf Q P = P + ((Q.log2 - 52 : Nat) : Int) := by unfold lastOf; omega
  obtain ⟨d, hd⟩ : ∃ d, d = Q.log2 - 52 := ⟨_, rfl⟩
  rw [← hd] at hlast
  have hkept : keptOf Q P = rne Q d := by
    unfold keptOf
    rw [hlast, show (P - (P + (d : Int))).toNat = 0 by omega, show (P + (d : Int) - P).toNat = d by omega, show pw 0 = 1 from rfl, Nat.mul_one]
  obtain ⟨kb1, kb2⟩ := kept_bounds Q P hQ0
  have kb3 : 4503599627370496 ≤ rne Q d := by rcases kb2 with h | h; omega; rw [← hkept]; exact h
  obtain ⟨m', e', hr, hm'⟩ := nearest_read false Q P hQ0 (by omega)
  rw [hkept, hlast] at hm'
  obtain ⟨r1, r2⟩ := rne_near Q d
  refine ⟨D.nearest false Q P, rne Q d * pw (P + (d : Int) + 1074).toNat, ?_, isNan_nearest _ _ _, ?_, ?_⟩
  · unfold fdiv; rw [hdiv]; exact home_real (isNan_nearest _ _ _)
  · unfold val; rw [hr]
    show signed false m' (e' + 1074).toNat = _
    rw [signed_eq, hm']; rfl
  · -- the error
    have hW : pw (P + (d : Int) + 1074).toNat = pw d * pw (P + 1074).toNat := by rw [← pw_add]; exact pw_congr (by omega)
    rw [hW]
    obtain ⟨W, hWd⟩ : ∃ W, W = pw (P + 1074).toNat := ⟨_, rfl⟩
    obtain ⟨J, hJd⟩ : ∃ W, W = pw (j + 1074).toNat := ⟨_, rfl⟩
    obtain ⟨I, hId⟩ : ∃ W, W = pw (i + 1074).toNat := ⟨_, rfl⟩
    have hWJ : pw (g + 1) * (W * J) = I * U := by
      rw [hWd, hJd, hId]
      rw [U_def, ← pw_add, ← pw_add, ← pw_add]
      exact pw_congr (by omega)
    rw [← hId] at hm1
    rw [← hJd] at hm2
    rw [← hWd]
    have hdd : d = 2 ∨ d = 3 := by omega
    generalize rne Q d = K at *
    obtain ⟨Dd, hDd⟩ : ∃ x, x = pw d := ⟨_, rfl⟩
    have hD4 : 4 ≤ Dd := by rw [hDd]; rcases hdd with h | h <;> rw [h] <;> decide
    rw [← hDd] at r1 r2 ⊢
    -- times c, times W J
    have a1 := Nat.mul_le_mul_right c r1
    have a2 := Nat.mul_le_mul_right c r2
    have x1 : 2 * (K * Dd) * c = 2 * (K * Dd * c) := by rw [Nat.mul_assoc]
    have x2 : (2 * Q + Dd) * c = 2 * (Q * c) + Dd * c := by rw [Nat.add_mul, Nat.mul_assoc]
    have x3 : 2 * Q * c = 2 * (Q * c) := by rw [Nat.mul_assoc]
    have x4 : (2 * (K * Dd) + Dd) * c = 2 * (K * Dd * c) + Dd * c := by rw [Nat.add_mul, Nat.mul_assoc]
    rw [x1, x2] at a1
    rw [x3, x4] at a2
    have b1 : 2 * (K * Dd * c) ≤ 2 * (2 * (m * pw g)) + (Dd * c + 2 * c) := by omega
    have b2 : 2 * (2 * (m * pw g)) ≤ 2 * (K * Dd * c) + (Dd * c + 2 * c) := by omega
    have c1 := Nat.mul_le_mul_right (W * J) b1
    have c2 := Nat.mul_le_mul_right (W * J) b2
    have y1 : 2 * (K * Dd * c) * (W * J) = 2 * (K * (Dd * W) * s) * U := by
      have : 2 * (K * Dd * c) * (W * J) = 2 * (K * (Dd * W)) * (c * J) := by simp only [Nat.mul_assoc, Nat.mul_left_comm, Nat.mul_comm]
      rw [this, ← hm2]; simp only [Nat.mul_assoc]
    have y2 : 2 * (2 * (m * pw g)) * (W * J) = 2 * (n * U) * U := by
      have e1 : 2 * (2 * (m * pw g)) * (W * J) = 2 * (m * (pw (g + 1) * (W * J))) := by
        rw [show pw (g + 1) = pw g * 2 from rfl]
        simp only [Nat.mul_assoc, Nat.mul_left_comm, Nat.mul_comm]
      rw [e1, hWJ, ← Nat.mul_assoc m I U, ← hm1]
      simp only [Nat.mul_assoc]
    have y3 : (Dd * c + 2 * c) * (W * J) = ((Dd + 2) * W * s) * U := by
      rw [← Nat.add_mul]
      have : (Dd + 2) * c * (W * J) = (Dd + 2) * W * (c * J) := by simp only [Nat.mul_assoc, Nat.mul_left_comm]
      rw [this, ← hm2]; simp only [Nat.mul_assoc]
    rw [y1, Nat.add_mul, y2, y3, ← Nat.add_mul] at c1
    rw [y2, Nat.add_mul, y1, y3, ← Nat.add_mul] at c2
    have d1 := Nat.le_of_mul_le_mul_right c1 hU
    have d2 := Nat.le_of_mul_le_mul_right c2 hU
    -- the last digit against the whole
    have e1 : pw 52 * (2 * ((Dd + 2) * W * s)) ≤ 3 * (K * (Dd * W) * s) := by
      have f1 : 2 * (Dd + 2) ≤ 3 * Dd := by omega
      have f2 : pw 52 * (2 * (Dd + 2)) ≤ K * (3 * Dd) := Nat.mul_le_mul kb3 f1
      have f3 := Nat.mul_le_mul_right (W * s) f2
      have g1 : pw 52 * (2 * (Dd + 2)) * (W * s) = pw 52 * (2 * ((Dd + 2) * W * s)) := by simp only [Nat.mul_assoc]
      have g2 : K * (3 * Dd) * (W * s) = 3 * (K * (Dd * W) * s) := by simp only [Nat.mul_assoc, Nat.mul_left_comm]
      rwa [g1, g2] at f3
    have e54 : pw 54 = 4 * pw 52 := rfl
    have e52 : pw 52 = 4503599627370496 := rfl
    rw [e54, e52]
    rw [e52] at e1
    generalize K * (Dd * W) * s = A at *
    generalize (Dd + 2) * W * s = B at *
    generalize n * U = C at *
    clear hWJ hWd hJd hId x1 x2 x3 x4 y1 y2 y3 e54 e52 hW hD4 hdiv hm'
    omega

end Go.Proofs.YtcmahiphfpgadaaGreatDoor

/- assizekit.SameBytes: it tells whether two slices of bytes hold the same bytes. -/
namespace Go.Proofs.YtcmahiphfpgadaaGreatDoor
open Go.RowKit
set_option linter.unusedVariables false

theorem strOfNums_bytes (bs : List UInt8) : strOfNums (bs.map fun b => (b.toNat : Int)) = ⟨bs.toArray⟩ := by
  unfold strOfNums
  congr 2
  rw [List.map_map]
  conv => rhs; rw [← List.map_id bs]
  apply List.map_congr_left
  intro b _
  simp

theorem conv_zero (w : World) (a : Option Addr) (c : Nat) : (convert 63 9 (.slice a 0 c)).run Tryz.prog w = .ok (.string ⟨#[]⟩) w := by
  rw [run_convert_bytes_string w 63 9 5 a 0 c Tryz.underlying63 Tryz.underlying5 Tryz.underlying9]
  cases a with
  | none => simp [Conv.bytesToString]; rfl
  | some p =>
    have := run_bytesToString (P := Tryz.prog) w p 0 c [] (by have := run_loadCells_list (P := Tryz.prog) w p [] (fun j v hj => by simp at hj); simpa using this)
    rw [this]
    rfl

theorem conv_row {w : World} {a : Option Addr} {bs : List UInt8} (h : Row w a bs) (c : Nat) : (convert 63 9 (.slice a bs.length c)).run Tryz.prog w = .ok (.string ⟨bs.toArray⟩) w := by
  rcases h with rfl | ⟨b, off, rfl, hc⟩
  · exact conv_zero w a c
  · have := run_convert_bytes_arg (P := Tryz.prog) w 63 5 Tryz.underlying63 Tryz.underlying5 b off bs.length c (bs.map fun b => (b.toNat : Int)) (by simp)
      (fun i hi => by rw [hc i hi]; simp [List.getD, List.getElem?_map, List.getElem?_eq_getElem hi]) 9 Tryz.underlying9
    rw [this, strOfNums_bytes]

end Go.Proofs.YtcmahiphfpgadaaGreatDoor

/- Decimal digits: plain facts on lists of bytes. -/
namespace Go.Proofs.YtcmahiphfpgadaaGreatDoor
set_option linter.unusedVariables false

/-- The number whose digits these are. -/
def decVal (l : List UInt8) : Nat := l.foldl (fun n c => n * 10 + (c.toNat - 48)) 0

/-- The digits of a number from 0 to 2^63 - 1. -/
def GoodDec (l : List UInt8) : Prop := 1 ≤ l.length ∧ ((l.getD 0 0).toNat = 48 → l.length = 1) ∧ (∀ j, j < l.length → 48 ≤ (l.getD j 0).toNat ∧ (l.getD j 0).toNat ≤ 57) ∧ decVal l ≤ 9223372036854775807

theorem val_snoc (l : List UInt8) (c : UInt8) : decVal (l ++ [c]) = decVal l * 10 + (c.toNat - 48) := by simp [decVal]

theorem val_take (l : List UInt8) (k : Nat) (h : k < l.length) : decVal (l.take (k + 1)) = decVal (l.take k) * 10 + ((l.getD k 0).toNat - 48) := by
  have e : l.take (k + 1) = l.take k ++ [l.getD k 0] := by
    rw [List.take_succ_eq_append_getElem h]
    simp [List.getD, List.getElem?_eq_getElem h]
  rw [e, val_snoc]

theorem val_mono_succ (l : List UInt8) (k : Nat) : decVal (l.take k) ≤ decVal (l.take (k + 1)) := by
  rcases Nat.lt_or_ge k l.length with h | h
  · rw [val_take l k h]; omega
  · rw [List.take_of_length_le h, List.take_of_length_le (by omega)]; exact Nat.le_refl _

theorem val_mono (l : List UInt8) (k : Nat) : ∀ d, decVal (l.take k) ≤ decVal (l.take (k + d)) := by
  intro d
  induction d with
  | zero => exact Nat.le_refl _
  | succ d ih => exact Nat.le_trans ih (val_mono_succ l (k + d))

theorem val_le (l : List UInt8) (k : Nat) : decVal (l.take k) ≤ decVal l := by
  have := val_mono l k l.length
  rwa [List.take_of_length_le (show l.length ≤ k + l.length by omega)] at this

theorem val_lt (l : List UInt8) : ∀ k, k ≤ l.length → (∀ j, j < k → 48 ≤ (l.getD j 0).toNat ∧ (l.getD j 0).toNat ≤ 57) → decVal (l.take k) < 10 ^ k := by
  intro k
  induction k with
  | zero => intro _ _; simp [decVal]
  | succ k ih =>
    intro h hd
    have := ih (by omega) (fun j hj => hd j (by omega))
    have h2 := hd k (by omega)
    rw [val_take l k (by omega), Nat.pow_succ]
    omega

theorem val_ge (l : List UInt8) (hl : 1 ≤ l.length) (hd : ∀ j, j < l.length → 48 ≤ (l.getD j 0).toNat ∧ (l.getD j 0).toNat ≤ 57) (h0 : (l.getD 0 0).toNat ≠ 48) : ∀ k, k < l.length → 10 ^ k ≤ decVal (l.take (k + 1)) := by
  intro k
  induction k with
  | zero =>
    intro h
    rw [val_take l 0 h]
    have := hd 0 h
    omega
  | succ k ih =>
    intro h
    have := ih (by omega)
    rw [val_take l (k + 1) h, Nat.pow_succ]
    omega

/-- Twenty digits, none of them a nought ahead, are of too great a number. -/
theorem long_bad (l : List UInt8) (h : 19 < l.length) : ¬ GoodDec l := by
  rintro ⟨h1, h2, h3, h4⟩
  have h0 : (l.getD 0 0).toNat ≠ 48 := fun e => by have := h2 e; omega
  have := val_ge l h1 h3 h0 19 h
  have := val_le l (19 + 1)
  omega

theorem digit_bad (l : List UInt8) (k : Nat) (hk : k < l.length) (h : (l.getD k 0).toNat < 48 ∨ 57 < (l.getD k 0).toNat) : ¬ GoodDec l := by
  rintro ⟨_, _, h3, _⟩
  have := h3 k hk
  omega

theorem great_bad (l : List UInt8) (k : Nat) (h : 9223372036854775807 < decVal (l.take k)) : ¬ GoodDec l := by
  rintro ⟨_, _, _, h4⟩
  have := val_le l k
  omega

theorem nought_bad (l : List UInt8) (h : (l.getD 0 0).toNat = 48) (h1 : 1 < l.length) : ¬ GoodDec l := by
  rintro ⟨_, h2, _, _⟩
  have := h2 h
  omega

theorem none_bad (l : List UInt8) (h : l.length < 1) : ¬ GoodDec l := by rintro ⟨h1, _⟩; omega

/-- What ReadDec answers: a number and an error. -/
def DecIs (l : List UInt8) (most d h : Int) : Prop :=
  (most < 0 ∧ d = 0 ∧ h = 2) ∨ (0 ≤ most ∧ ¬ GoodDec l ∧ d = 0 ∧ h = 4) ∨ (0 ≤ most ∧ GoodDec l ∧ most < decVal l ∧ d = 0 ∧ h = 3) ∨ (0 ≤ most ∧ GoodDec l ∧ (decVal l : Int) ≤ most ∧ d = decVal l ∧ h = 0)

theorem DecIs.one {l : List UInt8} {most d h d' h' : Int} (a : DecIs l most d h) (b : DecIs l most d' h') : d = d' ∧ h = h' := by
  rcases a with ⟨a1, rfl, rfl⟩ | ⟨a1, a2, rfl, rfl⟩ | ⟨a1, a2, a3, rfl, rfl⟩ | ⟨a1, a2, a3, rfl, rfl⟩ <;>
  rcases b with ⟨b1, rfl, rfl⟩ | ⟨b1, b2, rfl, rfl⟩ | ⟨b1, b2, b3, rfl, rfl⟩ | ⟨b1, b2, b3, rfl, rfl⟩ <;>
  first
    | exact ⟨rfl, rfl⟩
    | (exfalso; omega)
    | (exfalso; exact a2 b2)
    | (exfalso; exact b2 a2)

end Go.Proofs.YtcmahiphfpgadaaGreatDoor

/- The document's own ReadDec. -/
namespace Go.Proofs.YtcmahiphfpgadaaGreatDoor
open Go.RowKit
set_option linter.unusedVariables false

/-- The bytes of a text. -/
def bytes (s : ByteArray) : List UInt8 := s.data.toList

theorem bytes_length (s : ByteArray) : (bytes s).length = s.size := by simp [bytes]

theorem bytes_at (s : ByteArray) (k : Nat) (h : k < s.size) : (bytes s).getD k 0 = s[k] := by
  have : k < s.data.toList.length := by simpa using h
  simp [bytes, List.getD, h]
  rfl

theorem ret_pair {k1 k2 : IntKind} {a b a' b' : Int} (h : a = a') (h' : b = b') : Ending.returned (.tuple #[.int k1 a, .int k2 b]) = .returned (.tuple #[.int k1 a', .int k2 b']) := by rw [h, h']

end Go.Proofs.YtcmahiphfpgadaaGreatDoor

/- strings.IndexByte: the place of a byte in a text. -/
namespace Go.Proofs.YtcmahiphfpgadaaGreatDoor
open Go.RowKit
set_option linter.unusedVariables false

end Go.Proofs.YtcmahiphfpgadaaGreatDoor

/- octet.readDigits and octet.ReadDec. -/
namespace Go.Proofs.YtcmahiphfpgadaaGreatDoor
open Go.RowKit
set_option linter.unusedVariables false

/-- The length of a text in a slot. -/
def strLen : Value → Nat | .string r => r.size | _ => 0

theorem idx10_nat : ∀ c : Nat, c < 256 → Lib.indexByte (({ data := #[48, 49, 50, 51, 52, 53, 54, 55, 56, 57, 97, 98, 99, 100, 101, 102] } : ByteArray).extract 0 10).data.toList ((c : Int).toNat.toUInt8) = if 48 ≤ c ∧ c ≤ 57 then (c : Int) - 48 else -1 := by decide +kernel

theorem not_empty {s : ByteArray} (h : 0 < s.size) : s.toList.isEmpty = false := by
  rw [List.isEmpty_eq_false_iff, Lib.toList_data]
  intro h0
  have : s.size = 0 := by rw [← bytes_length s, bytes, h0]; rfl
  omega

theorem is_empty {s : ByteArray} (h : s.size = 0) : s.toList.isEmpty = true := by
  rw [List.isEmpty_iff, Lib.toList_data]
  apply List.eq_nil_of_length_eq_zero
  simpa using h

theorem extract_one (r : ByteArray) : bytes (r.extract 1 r.size) = (bytes r).drop 1 := by
  rw [bytes, Lib.extract_data, List.take_of_length_le]
  · rfl
  · simp

theorem drewN_again {w wr : World} (h : ∃ q, wr = w.drewN q) (n : Nat) : ∃ q, wr.drewN n = w.drewN q := by
  obtain ⟨q, rfl⟩ := h
  exact ⟨q + n, by simp⟩

/-- What readDigits answers. -/
def DigPost (l : List UInt8) (e : Ending) : Prop := (GoodDec l ∧ e = .returned (.tuple #[.int .u64 (decVal l), .bool true])) ∨ (¬ GoodDec l ∧ e = .returned (.tuple #[.int .u64 0, .bool false]))

end Go.Proofs.YtcmahiphfpgadaaGreatDoor
