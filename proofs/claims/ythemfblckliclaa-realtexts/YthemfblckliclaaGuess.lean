/- The whole number near a real, scaled, as the document's Print guesses it. -/
import Derived.Test.YthemfblckliclaaRefDec3
namespace Go.Proofs.Ythemfblckliclaa
open Ieee Go.RowKit
set_option linter.unusedVariables false

/-- The product of a literal's real and its scale is near its digits. -/
theorem prod_near (n s : Nat) (hn : 1 ≤ n) (hn2 : n < 1000000000000000) (hs : 1 ≤ s) (hs2 : s ≤ 1000000) :
    ∃ p v : Nat, D.mul (quo n s) (ofInt (s : Int)) = some p ∧ val p = (v : Int) ∧ 16 * v ≤ 16 * (n * U) + 5 * U ∧ 16 * (n * U) ≤ 16 * v + 5 * U := by
  obtain ⟨X, x, hX, hXn, hXv, q1, q2⟩ := quo_err n s hn (by omega) hs (by omega)
  have hq : quo n s = X := hX
  have hU := U_pos
  have e54 : pw 54 = 18014398509481984 := rfl
  rw [e54] at q1 q2
  have hA : n * U ≤ 999999999999999 * U := Nat.mul_le_mul_right _ (by omega)
  have hA0 : 1 * U ≤ n * U := Nat.mul_le_mul_right _ hn
  obtain ⟨A, hAd⟩ : ∃ A, A = n * U := ⟨_, rfl⟩
  obtain ⟨V, hV⟩ : ∃ V, V = x * s := ⟨_, rfl⟩
  rw [← hAd, ← hV] at q1 q2
  rw [← hAd] at hA hA0 ⊢
  have v1 : 4 * V ≤ 4 * A + U := by omega
  have v2 : 4 * A ≤ 4 * V + U := by omega
  have v0 : 1 ≤ V := by omega
  have hx0 : x ≠ 0 := by rintro rfl; rw [Nat.zero_mul] at hV; omega
  have vb : V < 1125899906842624 * U := by omega
  have ws := ofInt_whole (s : Int) (by omega)
  have hxs : x ≤ V := by rw [hV]; exact Nat.le_mul_of_pos_right x (by omega)
  have hXt : (val X).natAbs < TOP := by
    rw [hXv, Int.natAbs_natCast]
    have := U_top 1125899906842624 (by decide)
    omega
  obtain ⟨sg, T, base, m1, m2, m3, m4⟩ := mul_fin hXn ws.1 hXt (ws.top (by omega))
  have m3' : T * pw (base + (2148 : Nat)).toNat = V * U := by
    have : T * pw (base + 2148).toNat = V * U := by
      rw [m3, hXv, ws.abs, Int.natAbs_natCast, Int.natAbs_natCast, hV, Nat.mul_assoc]
    exact this
  have hVU : 0 < V * U := Nat.mul_pos v0 hU
  have hsg : sg = false := by
    have hpos : 0 < val X * val (ofInt (s : Int)) := by
      rw [hXv, ws.2]
      exact Int.mul_pos (by omega) (Int.mul_pos (by omega) (by omega))
    rw [m4 (by omega), decide_eq_false (by omega)]
  subst hsg
  have hT0 : T ≠ 0 := by rintro rfl; rw [Nat.zero_mul] at m3'; omega
  have e2148 : pw 2148 = U * U := pw_2148
  have hB1 : T * pw (base + (2148 : Nat)).toNat < pw (50 + 2148) := by
    rw [m3', pw_add, e2148, ← Nat.mul_assoc, show pw 50 = 1125899906842624 from rfl]
    exact Nat.mul_lt_mul_of_pos_right vb hU
  obtain ⟨v, pv, p1, p2⟩ := near_err T base 2148 hT0 (by omega) (by omega) hB1
  rw [m3', e2148, show (2148 - 1074 : Nat) = 1074 from rfl, ← U_def] at p1 p2
  have p1' : 16 * v ≤ 16 * V + U := by
    refine Nat.le_of_mul_le_mul_right (c := U) ?_ hU
    rw [Nat.add_mul, Nat.mul_assoc, Nat.mul_assoc]; exact p1
  have p2' : 16 * V ≤ 16 * v + U := by
    refine Nat.le_of_mul_le_mul_right (c := U) ?_ hU
    rw [Nat.add_mul, Nat.mul_assoc, Nat.mul_assoc]; exact p2
  clear p1 p2 hB1 m3 m3' hVU
  exact ⟨D.nearest false T base, v, by rw [hq]; exact m1, pv, by omega, by omega⟩

/-- 2 times 10 to the power of 15, as a real. -/
def E20 : Nat := 4835858800541171712
theorem val_E20 : val E20 = 2000000000000000 * (U : Int) := by decide +kernel

theorem nearest_pos (m : Nat) (p : Int) : D.nearest false m p < 9223372036854775808 := by
  unfold Format.nearest
  split
  · rw [word_eq]; simp
  · rw [word_eq, D_inf]
    simp only [Bool.false_eq_true, if_false]
    exact Nat.lt_of_le_of_lt (Nat.min_le_right _ _) (by decide)

theorem sign_pos {b : Nat} {s : Bool} {m : Nat} {e : Int} (hb : b < 9223372036854775808) (h : D.read b = .number s m e) : s = false := by
  have := (read_shape h).1
  rw [this, show b / 9223372036854775808 = 0 by omega]; rfl

theorem sign_inf {b : Nat} {s : Bool} (hb : b < 9223372036854775808) (h : D.read b = .infinity s) : s = false := by
  rw [read_eq] at h
  split at h
  · cases h
  · split at h
    · cases h
    · split at h
      · cases h
        rw [show b / 9223372036854775808 = 0 by omega]; rfl
      · cases h

theorem val_nonneg {b : Nat} (hb : b < 9223372036854775808) (hn : isNan b = false) : 0 ≤ val b := by
  rcases read_real hn with ⟨s, m, e, hr⟩ | ⟨s, hr⟩
  · have hs := sign_pos hb hr
    subst hs
    unfold val; rw [hr]
    show 0 ≤ signed false m _
    rw [signed_eq]
    exact Int.natCast_nonneg _
  · have hs := sign_inf hb hr
    subst hs
    unfold val; rw [hr]
    simp [worth]

/-- A product of reals that are not below nought is none, or may be infinite. -/
theorem mul_pos_some {a b : Nat} (ha : a < 9223372036854775808) (hb : b < 9223372036854775808) (hna : isNan a = false) (hnb : isNan b = false) (ta : (val a).natAbs < TOP) (tb : (val b).natAbs < TOP) :
    ∃ p, D.mul a b = some p ∧ isNan p = false ∧ p < 9223372036854775808 := by
  obtain ⟨s, m, e, hr, _⟩ := read_fin hna ta
  obtain ⟨t, n, f, hr2, _⟩ := read_fin hnb tb
  have h1 := sign_pos ha hr
  have h2 := sign_pos hb hr2
  subst h1 h2
  unfold Format.mul
  rw [hr, hr2]
  exact ⟨_, rfl, isNan_nearest _ _ _, nearest_pos _ _⟩

theorem ofInt_pos (n : Nat) : ofInt (n : Int) < 9223372036854775808 := by
  show D.nearest (decide ((n : Int) < 0)) _ _ < _
  rw [decide_eq_false (by omega)]
  exact nearest_pos _ _

/-- The lesser of a real and 2e15. -/
def least (p : Nat) : Nat := match D.order p E20 with
  | some .lt => p
  | some .gt => E20
  | some .eq => if (D.read p).neg then p else E20
  | none => p

theorem least_run {P : Program} (p : Nat) (hn : isNan p = false) (ts : Array TypeId) (t : TypeId) (w : World) : (Builtin.min_ ts t #[.float .f64 p, .float .f64 4835858800541171712]).run P w = .ok (.float .f64 (least p)) w := by
  have ho := order_val hn (show isNan E20 = false by decide)
  have ho' : FloatKind.f64.format.order p 4835858800541171712 = some (compare (val p) (val E20)) := ho
  unfold least
  rw [ho]
  simp only [Builtin.min_, List.foldlM, Builtin.min2, ho']
  rcases hc : compare (val p) (val E20) with _ | _ | _ <;> simp <;> rfl

theorem least_real {p : Nat} (hn : isNan p = false) (hp : p < 9223372036854775808) : isNan (least p) = false ∧ least p < 9223372036854775808 ∧ val (least p) ≤ 2000000000000000 * (U : Int) ∧ (val p < 2000000000000000 * (U : Int) → least p = p) := by
  have ho := order_val hn (show isNan E20 = false by decide)
  unfold least
  rw [ho, compare_int, val_E20]
  by_cases h1 : val p < 2000000000000000 * (U : Int)
  · rw [if_pos h1]
    simp only
    exact ⟨hn, hp, by omega, fun _ => trivial⟩
  · rw [if_neg h1]
    by_cases h2 : val p = 2000000000000000 * (U : Int)
    · rw [if_pos h2]
      simp only
      split
      · exact ⟨hn, hp, by omega, fun h => absurd h h1⟩
      · exact ⟨by decide, by decide, by rw [val_E20]; omega, fun h => absurd h h1⟩
    · rw [if_neg h2]
      simp only
      exact ⟨by decide, by decide, by rw [val_E20]; omega, fun h => absurd h h1⟩

theorem cut_down (n d : Nat) : Toward.cut .down false n d = n / 2 ^ d := by
  have := cut_zero false n d
  simp only [Toward.cut] at this ⊢
  exact this

/-- The whole number below a real that is not below nought. -/
theorem floor_real {r : Nat} (hn : isNan r = false) (hr : r < 9223372036854775808) (ht : val r ≤ 2000000000000000 * (U : Int)) :
    ∃ F : Nat, F ≤ 2000000000000000 ∧ val r < ((F : Int) + 1) * (U : Int) ∧ (F : Int) * (U : Int) ≤ val r ∧ D.write ((D.read r).integral .down) = ofInt (F : Int) ∧ (∀ s t, D.read r ≠ .nan s t) := by
  have hU := U_pos
  have h0 := val_nonneg hr hn
  have htop : (val r).natAbs < TOP := by
    have := U_top 2000000000000000 (by decide)
    omega
  obtain ⟨s, m, e, hrd, he, hv, hm⟩ := read_fin hn htop
  have hs := sign_pos hr hrd
  subst hs
  obtain ⟨v, hvd⟩ : ∃ v, v = m * pw (e + 1074).toNat := ⟨_, rfl⟩
  have hvr : val r = (v : Int) := by rw [hv, signed_eq, ← hvd]; rfl
  have hti := toInt_number false m e he
  refine ⟨v / U, ?_, ?_, ?_, ?_, ?_⟩
  · rw [hvr] at ht
    have : v ≤ 2000000000000000 * U := by omega
    exact Nat.div_le_of_le_mul (by rw [Nat.mul_comm]; exact this)
  · rw [hvr]
    have h1 : v < (v / U + 1) * U := by
      have h2 := Nat.div_add_mod v U
      have h3 := Nat.mod_lt v hU
      rw [Nat.add_mul, Nat.one_mul, Nat.mul_comm]
      omega
    have : (((v / U + 1) * U : Nat) : Int) = ((v / U : Nat) + 1 : Int) * (U : Int) := by simp
    rw [← this]; omega
  · rw [hvr]
    have h1 : v / U * U ≤ v := Nat.div_mul_le_self v U
    have : ((v / U * U : Nat) : Int) = ((v / U : Nat) : Int) * (U : Int) := by simp
    rw [← this]; omega
  · rw [hrd]
    have hI : Datum.integral .zero (.number false m e) = .number false (v / U) 0 := by
      simp only [Datum.toInt, Datum.integral] at hti ⊢
      simp only [Bool.false_eq_true, if_false, Option.some.injEq, signed_eq] at hti
      rw [← hvd, ← U_def, show pw 0 = 1 from rfl, Nat.mul_one] at hti
      congr 1
      omega
    have hI2 : Datum.integral .down (.number false m e) = .number false (v / U) 0 := by
      rw [← hI]
      simp only [Datum.integral, cut_down, cut_zero]
    rw [hI2]
    show D.nearest false (v / U) 0 = D.nearest (decide (((v / U : Nat) : Int) < 0)) ((v / U : Nat) : Int).natAbs 0
    rw [decide_eq_false (by generalize v / U = z; omega), Int.natAbs_natCast]
  · intro s t h; rw [hrd] at h; cases h

end Go.Proofs.Ythemfblckliclaa
