/- The law RealBack, walked. -/
import Derived.Test.YthemfblckliclabBackMath
namespace Go.Proofs.Ythemfblckliclab
open Go.RowKit
set_option linter.unusedVariables false

theorem parse_litOf (k n : Nat) (h1 : 1 ≤ k) (h6 : k ≤ 6) (hn : n < 1000000000000000) (L : List UInt8) (hL : L = litOf k n) (x : Nat) (hx : quo n (10 ^ k) = x) (w : World) :
    Calls Try.prog 6 #[.string ⟨L.toArray⟩] w fun e w' => e = .returned (.tuple #[.int .u64 (x : Int), .int .i64 0]) ∧ ∃ q, w' = w.drewN q := by
  subst hL
  obtain ⟨g1, g2, g3, _⟩ := litOf_lit k n h1 h6 hn
  refine parse_lit (litOf k n) (Nat.le_trans (litOf_len k n) (by omega)) g1 x ?_ w
  rw [g2, g3, hx]

theorem text_as (a : Nat) (ha : a < 18446744073709551616) (T : List UInt8) (hT : T = textOf (home a)) (w : World) : Calls Try.prog 8 #[.int .u64 (a : Int)] w fun e w' => e = .returned (.string ⟨T.toArray⟩) ∧ Below w.heap.size w w' := by
  rw [hT]; exact text_any a ha w

/-- The end of the law: what is told of two reals. -/
structure Ends (a b : Nat) (ha : Nat) (hb : Nat) (TA TB : List UInt8) : Prop where
  c1 : ∀ w, Calls Try.prog 9 #[.int .u64 (a : Int)] w fun e w' => e = .returned (.int .u64 (ha : Int)) ∧ w' = w
  c2 : ∀ w, Calls Try.prog 9 #[.int .u64 (b : Int)] w fun e w' => e = .returned (.int .u64 (hb : Int)) ∧ w' = w
  t1 : ∀ w, Calls Try.prog 8 #[.int .u64 (a : Int)] w fun e w' => e = .returned (.string ⟨TA.toArray⟩) ∧ Below w.heap.size w w'
  t2 : ∀ w, Calls Try.prog 8 #[.int .u64 (b : Int)] w fun e w' => e = .returned (.string ⟨TB.toArray⟩) ∧ Below w.heap.size w w'
  same : (TA == TB) = ((ha : Int) == (hb : Int))

theorem ends_any (a b : Nat) (ha : a < 18446744073709551616) (hb : b < 18446744073709551616) : Ends a b (home a) (home b) (textOf (home a)) (textOf (home b)) := by
  refine ⟨canon_any a, canon_any b, text_any a ha, text_any b hb, ?_⟩
  by_cases h : home a = home b
  · rw [h]; simp
  · rw [show ((home a : Int) == (home b : Int)) = false by rw [beq_eq_false_iff_ne]; omega, beq_eq_false_iff_ne]
    exact fun e => h (text_apart (home_lt ha) (home_lt hb) (home_home a) (home_home b) e)

/-- What Print tells of the first real, and what Parse tells of that. -/
def Prints (a ha : Nat) : Prop :=
  (∃ L : List UInt8, L.length ≤ 43 ∧ (∀ w, Calls Try.prog 7 #[.int .u64 (a : Int)] w fun e w' => e = .returned (.tuple #[.string ⟨L.toArray⟩, .int .i64 0]) ∧ Below w.heap.size w w') ∧
    (∀ w, Calls Try.prog 6 #[.string ⟨L.toArray⟩] w fun e w' => e = .returned (.tuple #[.int .u64 (ha : Int), .int .i64 0]) ∧ ∃ q, w' = w.drewN q)) ∨
  (∀ w, Calls Try.prog 7 #[.int .u64 (a : Int)] w fun e w' => e = .returned (.tuple #[.string ⟨#[]⟩, .int .i64 2]) ∧ Below w.heap.size w w')

theorem prints_any (a : Nat) : Prints a (home a) := by
  cases hp : pr (home a) 1 6 with
  | some kn =>
    obtain ⟨k, n⟩ := kn
    obtain ⟨h1, h6, hn, hq⟩ := pr_real hp
    rw [home_home] at hq
    exact .inl ⟨litOf k n, litOf_len k n, print_lit a k n _ hp rfl, parse_litOf k n h1 h6 hn _ rfl _ hq⟩
  | none => exact .inr (print_not a hp)

set_option maxRecDepth 100000 in
set_option maxHeartbeats 3200000 in
theorem back_lit (l : List UInt8) (a b ha hb X : Nat) (TA TB T : List UInt8) (hlen : l.length ≤ 100) (hT : T.length ≤ l.length) (E : Hid (Ends a b ha hb TA TB)) (P : Hid (Prints a ha))
    (hp : ∀ w, Calls Try.prog 6 #[.string ⟨l.toArray⟩] w fun e w' => e = .returned (.tuple #[.int .u64 (X : Int), .int .i64 0]) ∧ ∃ q, w' = w.drewN q)
    (hq : ∀ w, Calls Try.prog 7 #[.int .u64 (X : Int)] w fun e w' => e = .returned (.tuple #[.string ⟨T.toArray⟩, .int .i64 0]) ∧ Below w.heap.size w w')
    (hr : ∀ w, Calls Try.prog 6 #[.string ⟨T.toArray⟩] w fun e w' => e = .returned (.tuple #[.int .u64 (X : Int), .int .i64 0]) ∧ ∃ q, w' = w.drewN q)
    (ht : ∀ w, Calls Try.prog 8 #[.int .u64 (X : Int)] w fun e w' => e = .returned (.string ⟨T.toArray⟩) ∧ Below w.heap.size w w') (w : World) :
    Calls Try.prog 3 #[.string ⟨l.toArray⟩, .int .u64 (a : Int), .int .u64 (b : Int)] w fun e w' => e = .returned (.bool true) ∧ Below w.heap.size w w' := by
  obtain ⟨c1, c2, t1, t2, same⟩ := E.out
  have hsl : (⟨l.toArray⟩ : ByteArray).size = l.length := size_mk l
  have hsT : (⟨T.toArray⟩ : ByteArray).size = T.length := size_mk T
  go_enter Try.func3, Try.ntmps3
  go_wp2_with fail
  refine (awake_any _).mono ?_
  rintro e w1 ⟨rfl, hb1⟩
  go_wp2_with fail
  refine (hp _).mono ?_
  rintro e w' ⟨rfl, q1, rfl⟩
  go_wp2_with fail
  refine (hq _).mono ?_
  rintro e w2 ⟨rfl, hb2⟩
  have hC2 : Below w.heap.size w w2 := hb1.trans ((below_drewN (Below.refl _ _) _).trans hb2 |>.mono hb1.size)
  clear hb1 hb2
  go_wp2_with fail
  refine (hr _).mono ?_
  rintro e w' ⟨rfl, q2, rfl⟩
  go_wp2_with fail
  refine (ht _).mono ?_
  rintro e w3 ⟨rfl, hb3⟩
  have hC3 : Below w.heap.size w w3 := hC2.trans ((below_drewN (Below.refl _ _) _).trans hb3 |>.mono hC2.size)
  clear hC2 hb3
  rcases P.out with ⟨L, hLl, pL, rL⟩ | pN
  · have hsL : (⟨L.toArray⟩ : ByteArray).size = L.length := size_mk L
    go_wp2_with fail
    refine (pL _).mono ?_
    rintro e w4 ⟨rfl, hb4⟩
    have hC4 : Below w.heap.size w w4 := hC3.trans (hb4.mono hC3.size)
    clear hC3 hb4
    go_wp2_with fail
    refine (rL _).mono ?_
    rintro e w' ⟨rfl, q3, rfl⟩
    go_wp2_with fail
    refine (c1 _).mono ?_
    rintro e w' ⟨rfl, rfl⟩
    go_wp2_with fail
    refine (t1 _).mono ?_
    rintro e w5 ⟨rfl, hb5⟩
    have hC5 : Below w.heap.size w w5 := hC4.trans ((below_drewN (Below.refl _ _) _).trans hb5 |>.mono hC4.size)
    clear hC4 hb5
    go_wp2_with fail
    refine (t2 _).mono ?_
    rintro e w6 ⟨rfl, hb6⟩
    have hC6 : Below w.heap.size w w6 := hC5.trans (hb6.mono hC5.size)
    clear hC5 hb6
    go_wp2_with fail
    refine (c1 _).mono ?_
    rintro e w' ⟨rfl, rfl⟩
    go_wp2_with fail
    refine (c2 _).mono ?_
    rintro e w' ⟨rfl, rfl⟩
    go_wp2
    go_ret
    exact ⟨rfl, hC6⟩
  · go_wp2_with fail
    refine (pN _).mono ?_
    rintro e w4 ⟨rfl, hb4⟩
    have hC4 : Below w.heap.size w w4 := hC3.trans (hb4.mono hC3.size)
    clear hC3 hb4
    go_wp2_with fail
    refine (t1 _).mono ?_
    rintro e w5 ⟨rfl, hb5⟩
    have hC5 : Below w.heap.size w w5 := hC4.trans (hb5.mono hC4.size)
    clear hC4 hb5
    go_wp2_with fail
    refine (t2 _).mono ?_
    rintro e w6 ⟨rfl, hb6⟩
    have hC6 : Below w.heap.size w w6 := hC5.trans (hb6.mono hC5.size)
    clear hC5 hb6
    go_wp2_with fail
    refine (c1 _).mono ?_
    rintro e w' ⟨rfl, rfl⟩
    go_wp2_with fail
    refine (c2 _).mono ?_
    rintro e w' ⟨rfl, rfl⟩
    go_wp2
    go_ret
    exact ⟨rfl, hC6⟩

set_option maxRecDepth 100000 in
set_option maxHeartbeats 3200000 in
theorem back_not (l : List UInt8) (a b ha hb : Nat) (TA TB : List UInt8) (hlen : l.length ≤ 100) (E : Hid (Ends a b ha hb TA TB)) (P : Hid (Prints a ha))
    (hp : ∀ w, Calls Try.prog 6 #[.string ⟨l.toArray⟩] w fun e w' => e = .returned (.tuple #[.int .u64 0, .int .i64 4]) ∧ ∃ q, w' = w.drewN q) (w : World) :
    Calls Try.prog 3 #[.string ⟨l.toArray⟩, .int .u64 (a : Int), .int .u64 (b : Int)] w fun e w' => e = .returned (.bool true) ∧ Below w.heap.size w w' := by
  obtain ⟨c1, c2, t1, t2, same⟩ := E.out
  have hsl : (⟨l.toArray⟩ : ByteArray).size = l.length := size_mk l
  go_enter Try.func3, Try.ntmps3
  go_wp2_with fail
  refine (awake_any _).mono ?_
  rintro e w1 ⟨rfl, hb1⟩
  go_wp2_with fail
  refine (hp _).mono ?_
  rintro e w' ⟨rfl, q1, rfl⟩
  rcases P.out with ⟨L, hLl, pL, rL⟩ | pN
  · have hsL : (⟨L.toArray⟩ : ByteArray).size = L.length := size_mk L
    go_wp2_with fail
    refine (pL _).mono ?_
    rintro e w4 ⟨rfl, hb4⟩
    have hC4 : Below w.heap.size w w4 := hb1.trans ((below_drewN (Below.refl _ _) _).trans hb4 |>.mono hb1.size)
    clear hb1 hb4
    go_wp2_with fail
    refine (rL _).mono ?_
    rintro e w' ⟨rfl, q3, rfl⟩
    go_wp2_with fail
    refine (c1 _).mono ?_
    rintro e w' ⟨rfl, rfl⟩
    go_wp2_with fail
    refine (t1 _).mono ?_
    rintro e w5 ⟨rfl, hb5⟩
    have hC5 : Below w.heap.size w w5 := hC4.trans ((below_drewN (Below.refl _ _) _).trans hb5 |>.mono hC4.size)
    clear hC4 hb5
    go_wp2_with fail
    refine (t2 _).mono ?_
    rintro e w6 ⟨rfl, hb6⟩
    have hC6 : Below w.heap.size w w6 := hC5.trans (hb6.mono hC5.size)
    clear hC5 hb6
    go_wp2_with fail
    refine (c1 _).mono ?_
    rintro e w' ⟨rfl, rfl⟩
    go_wp2_with fail
    refine (c2 _).mono ?_
    rintro e w' ⟨rfl, rfl⟩
    go_wp2
    go_ret
    exact ⟨rfl, hC6⟩
  · go_wp2_with fail
    refine (pN _).mono ?_
    rintro e w4 ⟨rfl, hb4⟩
    have hC4 : Below w.heap.size w w4 := hb1.trans ((below_drewN (Below.refl _ _) _).trans hb4 |>.mono hb1.size)
    clear hb1 hb4
    go_wp2_with fail
    refine (t1 _).mono ?_
    rintro e w5 ⟨rfl, hb5⟩
    have hC5 : Below w.heap.size w w5 := hC4.trans (hb5.mono hC4.size)
    clear hC4 hb5
    go_wp2_with fail
    refine (t2 _).mono ?_
    rintro e w6 ⟨rfl, hb6⟩
    have hC6 : Below w.heap.size w w6 := hC5.trans (hb6.mono hC5.size)
    clear hC5 hb6
    go_wp2_with fail
    refine (c1 _).mono ?_
    rintro e w' ⟨rfl, rfl⟩
    go_wp2_with fail
    refine (c2 _).mono ?_
    rintro e w' ⟨rfl, rfl⟩
    go_wp2
    go_ret
    exact ⟨rfl, hC6⟩

set_option maxRecDepth 100000 in
set_option maxHeartbeats 800000 in
theorem back_long (l : List UInt8) (a b : Nat) (hlen : 100 < l.length) (hmax : l.length ≤ 9223372036854775807) (w : World) :
    Calls Try.prog 3 #[.string ⟨l.toArray⟩, .int .u64 (a : Int), .int .u64 (b : Int)] w fun e w' => e = .returned (.bool true) ∧ Below w.heap.size w w' := by
  have hsl : (⟨l.toArray⟩ : ByteArray).size = l.length := size_mk l
  go_enter Try.func3, Try.ntmps3
  go_wp2_with fail
  refine (awake_any _).mono ?_
  rintro e w1 ⟨rfl, hb1⟩
  go_wp2
  go_ret
  exact ⟨rfl, hb1⟩

theorem back_walk (l : List UInt8) (a b : Nat) (ha : a < 18446744073709551616) (hb : b < 18446744073709551616) (hmax : l.length ≤ 9223372036854775807) (w : World) :
    Calls Try.prog 3 #[.string ⟨l.toArray⟩, .int .u64 (a : Int), .int .u64 (b : Int)] w fun e w' => e = .returned (.bool true) ∧ Below w.heap.size w w' := by
  by_cases hlen : 100 < l.length
  · exact back_long l a b hlen hmax w
  · by_cases hl : IsLit l
    · obtain ⟨j, n, hp, h1, h6, hn, hq, hle⟩ := lit_again hl
      have hX : litReal l < 18446744073709551616 := quo_lt _ _
      have hXh : home (litReal l) = litReal l := quo_home _ _
      refine back_lit l a b (home a) (home b) (litReal l) (textOf (home a)) (textOf (home b)) (litOf j n) (by omega) hle (ends_any a b ha hb) (prints_any a) (parse_lit l (by omega) hl (litReal l) rfl) (print_lit (litReal l) j n (litOf j n) (by rw [hXh]; exact hp) rfl) (parse_litOf j n h1 h6 hn _ rfl _ hq) ?_ w
      exact text_as (litReal l) hX (litOf j n) (by rw [hXh, text_lit hp])
    · exact back_not l a b (home a) (home b) (textOf (home a)) (textOf (home b)) (by omega) (ends_any a b ha hb) (prints_any a) (parse_not l (by omega) hl) w

end Go.Proofs.Ythemfblckliclab
