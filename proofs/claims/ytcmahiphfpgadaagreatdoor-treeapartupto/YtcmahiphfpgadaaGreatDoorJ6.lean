/- Joined texts of the proof. -/
import Derived.Test.YtcmahiphfpgadaaGreatDoorJ5
import Derived.Test.YtcmahiphfpgadaaGreatDoorJ2
import Derived.WalkKit
import Derived.Lib.Bytealg
import Derived.Test.YtcmahiphfpgadaaGreatDoorJ3
import Derived.Test.YtcmahiphfpgadaaGreatDoorRows
import Derived.WalkSpells

/- Literals: a text that is one is the literal of its digits, and the literal of any digits is one. -/
namespace Go.Proofs.YtcmahiphfpgadaaGreatDoor
set_option linter.unusedVariables false

theorem foldl_dec (l : List UInt8) : ∀ acc : Nat, l.foldl (fun n c => n * 10 + (c.toNat - 48)) acc = acc * 10 ^ l.length + decVal l := by
  induction l with
  | nil => intro acc; simp [decVal]
  | cons c l ih =>
    intro acc
    have h1 := ih (acc * 10 + (c.toNat - 48))
    have h2 := ih (0 * 10 + (c.toNat - 48))
    simp only [decVal, List.foldl_cons, List.length_cons] at h1 h2 ⊢
    rw [h1, h2, Nat.pow_succ, Nat.add_mul, Nat.add_mul, Nat.zero_mul]
    rw [Nat.mul_assoc, Nat.mul_comm 10]
    omega

theorem decVal_cons (c : UInt8) (l : List UInt8) : decVal (c :: l) = (c.toNat - 48) * 10 ^ l.length + decVal l := by
  have := foldl_dec l (0 * 10 + (c.toNat - 48))
  unfold decVal at this ⊢
  rw [List.foldl_cons, this]
  simp

theorem digits_lt (l : List UInt8) (h : ∀ j, j < l.length → 48 ≤ (l.getD j 0).toNat ∧ (l.getD j 0).toNat ≤ 57) : decVal l < 10 ^ l.length := by
  have := val_lt l l.length (Nat.le_refl _) h
  rwa [List.take_of_length_le (Nat.le_refl _)] at this

theorem tail_digits {c : UInt8} {l : List UInt8} (h : GoodDec (c :: l)) : ∀ j, j < l.length → 48 ≤ (l.getD j 0).toNat ∧ (l.getD j 0).toNat ≤ 57 := by
  intro j hj
  have := h.2.2.1 (j + 1) (by simp; omega)
  simpa using this

theorem one_lt {b : List UInt8} (h : GoodDec (49 :: b)) : decVal (49 :: b) = 10 ^ b.length + decVal b ∧ decVal b < 10 ^ b.length := by
  refine ⟨?_, digits_lt b (tail_digits h)⟩
  rw [decVal_cons]
  simp

theorem decOf_good {l : List UInt8} (h : GoodDec l) : decOf ((decVal l : Nat) : Int) = l := by
  unfold decOf
  rw [if_neg (by omega), Int.natAbs_natCast]
  exact digs_of_good l h

theorem decOf_nat (n : Nat) : decOf (n : Int) = digs 19 n := by
  unfold decOf
  rw [if_neg (by omega), Int.natAbs_natCast]

theorem lit_split {l : List UInt8} (h : IsLit l) : l = aheadOf l ++ 46 :: behindOf l := by
  by_cases hi : 0 ≤ Lib.indexByte l 46
  · exact (cut_some l hi).2
  · have ge := Lib.indexByte_ge l 46
    have := (cut_none l (by omega)).2
    have h1 := h.1
    rw [this] at h1
    simp at h1

/-- A text that is a literal is the literal of its digits. -/
theorem lit_self {l : List UInt8} (h : IsLit l) : litOf (behindOf l).length (litNum l) = l ∧ litNum l < 1000000000000000 ∧ litNum l / 10 ^ (behindOf l).length = decVal (aheadOf l) := by
  have hs := lit_split h
  obtain ⟨h1, h2, h3, h4, h5⟩ := h
  obtain ⟨e1, e2⟩ := one_lt h5
  have hp : 0 < 10 ^ (behindOf l).length := Nat.pow_pos (by decide)
  have hn : litNum l = decVal (aheadOf l) * 10 ^ (behindOf l).length + decVal (behindOf l) := by
    unfold litNum; rw [e1]; omega
  have hd : litNum l / 10 ^ (behindOf l).length = decVal (aheadOf l) := by
    rw [hn, Nat.mul_comm, Nat.mul_add_div hp, Nat.div_eq_of_lt e2, Nat.add_zero]
  have hm : litNum l % 10 ^ (behindOf l).length = decVal (behindOf l) := by
    rw [hn, Nat.mul_comm, Nat.mul_add_mod, Nat.mod_eq_of_lt e2]
  refine ⟨?_, ?_, hd⟩
  · unfold litOf
    rw [hd, hm, decOf_good h4, ← e1, decOf_good h5]
    conv => rhs; rw [hs]
    simp
  · have ha := good_lt h4
    have : litNum l < 10 ^ ((aheadOf l).length + (behindOf l).length) := by
      rw [hn, Nat.pow_add]
      have h6 : (decVal (aheadOf l) + 1) * 10 ^ (behindOf l).length ≤ 10 ^ (aheadOf l).length * 10 ^ (behindOf l).length := Nat.mul_le_mul_right _ ha
      rw [Nat.add_mul, Nat.one_mul] at h6
      omega
    exact Nat.lt_of_lt_of_le this (show _ ≤ 10 ^ 15 from Nat.pow_le_pow_right (by decide) h3)

theorem no_point (f n : Nat) : ∀ c ∈ digs f n, (c != 46) = true := by
  intro c hc
  have := (digs_digit f n c hc).1
  rw [bne_iff_ne]
  rintro rfl
  simp at this

theorem cut_at (a b : List UInt8) (h : ∀ c ∈ a, (c != 46) = true) : aheadOf (a ++ 46 :: b) = a ∧ behindOf (a ++ 46 :: b) = b := by
  induction a with
  | nil => exact ⟨rfl, rfl⟩
  | cons c a ih =>
    have hc := h c (by simp)
    obtain ⟨i1, i2⟩ := ih (fun x hx => h x (by simp [hx]))
    refine ⟨?_, ?_⟩
    · unfold aheadOf at i1 ⊢; rw [List.cons_append, List.takeWhile_cons, if_pos hc, i1]
    · unfold behindOf at i2 ⊢; rw [List.cons_append, List.dropWhile_cons, if_pos hc, i2]

theorem digs_size (n L : Nat) (hn : n ≤ 9223372036854775807) (h1 : 1 ≤ L) (h : n < 10 ^ L) : (digs 19 n).length ≤ L := by
  obtain ⟨g, hv⟩ := good_digs n hn
  by_cases h0 : n = 0
  · subst h0; simp [digs_small]; omega
  · have hd := digs_head 19 n (by omega) (Nat.lt_of_le_of_lt hn (by decide))
    have hl := g.1
    have := val_ge (digs 19 n) hl g.2.2.1 hd ((digs 19 n).length - 1) (by omega)
    rw [show (digs 19 n).length - 1 + 1 = (digs 19 n).length by omega, List.take_of_length_le (Nat.le_refl _), hv] at this
    have h2 : 10 ^ ((digs 19 n).length - 1) < 10 ^ L := Nat.lt_of_le_of_lt this h
    have := (Nat.pow_lt_pow_iff_right (show 1 < 10 by decide)).1 h2
    omega

/-- The digits behind the point, with a 1 ahead. -/
theorem behind_one (k r : Nat) (h6 : k ≤ 6) (hr : r < 10 ^ k) : ∃ b, decOf ((10 ^ k + r : Nat) : Int) = 49 :: b ∧ b.length = k ∧ GoodDec (49 :: b) ∧ decVal (49 :: b) = 10 ^ k + r := by
  have hs := scale_bounds k h6
  rw [decOf_nat]
  obtain ⟨g, hv⟩ := good_digs (10 ^ k + r) (by omega)
  have hlen : (digs 19 (10 ^ k + r)).length ≤ k + 1 := digs_size _ (k + 1) (by omega) (by omega) (by rw [Nat.pow_succ]; omega)
  have hlen2 : k + 1 ≤ (digs 19 (10 ^ k + r)).length := by
    have := good_lt g
    rw [hv] at this
    have h2 : 10 ^ k < 10 ^ (digs 19 (10 ^ k + r)).length := by omega
    have := (Nat.pow_lt_pow_iff_right (show 1 < 10 by decide)).1 h2
    omega
  generalize digs 19 (10 ^ k + r) = d at g hv hlen hlen2 ⊢
  cases d with
  | nil => simp at hlen2
  | cons c b =>
    have hbl : b.length = k := by simp at hlen hlen2; omega
    have hb := digits_lt b (tail_digits g)
    rw [hbl] at hb
    have hcv := decVal_cons c b
    rw [hv, hbl] at hcv
    have hc0 := g.2.2.1 0 (by simp)
    simp at hc0
    have hc1 : c.toNat - 48 = 1 := by
      have hp : 0 < 10 ^ k := by omega
      generalize c.toNat - 48 = x at hcv
      generalize decVal b = y at hcv hb
      generalize 10 ^ k = P at *
      rcases Nat.lt_or_ge x 1 with h | h
      · obtain rfl : x = 0 := by omega
        simp at hcv; omega
      · rcases Nat.lt_or_ge 1 x with h2 | h2
        · exfalso
          have : 2 * P ≤ x * P := Nat.mul_le_mul_right _ h2
          omega
        · omega
    have hc : c = 49 := by
      apply UInt8.toNat_inj.1
      show c.toNat = 49
      omega
    subst hc
    exact ⟨b, rfl, hbl, g, hv⟩

/-- The literal of any digits is one, and has these. -/
theorem litOf_lit (k n : Nat) (h1 : 1 ≤ k) (h6 : k ≤ 6) (hn : n < 1000000000000000) : IsLit (litOf k n) ∧ (behindOf (litOf k n)).length = k ∧ litNum (litOf k n) = n ∧ aheadOf (litOf k n) = digs 19 (n / 10 ^ k) := by
  have hs := scale_bounds k h6
  have hp : 0 < 10 ^ k := by omega
  obtain ⟨b, hb, hbl, hg, hv⟩ := behind_one k (n % 10 ^ k) h6 (Nat.mod_lt _ hp)
  have hN : n / 10 ^ k ≤ 9223372036854775807 := Nat.le_trans (Nat.div_le_self _ _) (by omega)
  obtain ⟨g, gv⟩ := good_digs (n / 10 ^ k) hN
  have he : litOf k n = digs 19 (n / 10 ^ k) ++ 46 :: b := by
    unfold litOf
    rw [hb, decOf_nat]
    simp
  obtain ⟨c1, c2⟩ := cut_at (digs 19 (n / 10 ^ k)) b (no_point _ _)
  rw [← he] at c1 c2
  have hlen : (digs 19 (n / 10 ^ k)).length ≤ 15 - k := by
    refine digs_size _ _ hN (by omega) ?_
    rw [Nat.div_lt_iff_lt_mul hp, ← Nat.pow_add, show 15 - k + k = 15 by omega]
    exact hn
  refine ⟨⟨by rw [c2]; omega, by rw [c2]; omega, by rw [c1, c2]; omega, by rw [c1]; exact g, by rw [c2]; exact hg⟩, by rw [c2, hbl], ?_, c1⟩
  unfold litNum
  rw [c1, c2, hbl, hv, gv]
  have := Nat.div_add_mod n (10 ^ k)
  rw [Nat.mul_comm] at this
  omega

/-- What Print finds. -/
theorem pr_sound : ∀ (f k j n x : Nat), pr x k f = some (j, n) → k ≤ j ∧ j < k + f ∧ digitsOf x (10 ^ j) = some n := by
  intro f
  induction f with
  | zero => intro k j n x h; cases h
  | succ f ih =>
    intro k j n x h
    simp only [pr] at h
    split at h
    · rename_i m hm
      cases h
      exact ⟨Nat.le_refl _, by omega, hm⟩
    · have := ih (k + 1) j n x h
      exact ⟨by omega, by omega, this.2.2⟩

theorem pr_complete : ∀ (f k j n x : Nat), k ≤ j → j < k + f → digitsOf x (10 ^ j) = some n → ∃ j' n', pr x k f = some (j', n') ∧ j' ≤ j := by
  intro f
  induction f with
  | zero => intro k j n x h1 h2; omega
  | succ f ih =>
    intro k j n x h1 h2 hd
    simp only [pr]
    cases hk : digitsOf x (10 ^ k) with
    | some m => exact ⟨k, m, rfl, h1⟩
    | none =>
      have hne : k ≠ j := by rintro rfl; rw [hk] at hd; cases hd
      exact ih (k + 1) j n x (by omega) (by omega) hd

end Go.Proofs.YtcmahiphfpgadaaGreatDoor

/- awake: the document's examples are answered as it says. -/
namespace Go.Proofs.YtcmahiphfpgadaaGreatDoor
open Go.RowKit
set_option linter.unusedVariables false

theorem print_lit (a k n : Nat) (l : List UInt8) (h : pr (home a) 1 6 = some (k, n)) (hl : litOf k n = l) (w : World) :
    Calls Tryz.prog 107 #[.int .u64 (a : Int)] w fun e w' => e = .returned (.tuple #[.string ⟨l.toArray⟩, .int .i64 0]) ∧ Below w.heap.size w w' := by
  refine (print_any a w).mono ?_
  rintro e w' ⟨⟨k', n', h', rfl⟩ | ⟨h', _⟩, hb⟩
  · rw [h] at h'
    cases h'
    exact ⟨by rw [hl], hb⟩
  · rw [h] at h'; cases h'

theorem print_not (a : Nat) (h : pr (home a) 1 6 = none) (w : World) :
    Calls Tryz.prog 107 #[.int .u64 (a : Int)] w fun e w' => e = .returned (.tuple #[.string ⟨#[]⟩, .int .i64 2]) ∧ Below w.heap.size w w' := by
  refine (print_any a w).mono ?_
  rintro e w' ⟨⟨k', n', h', rfl⟩ | ⟨h', rfl⟩, hb⟩
  · rw [h] at h'; cases h'
  · exact ⟨rfl, hb⟩

theorem aw_add : fadd 4598175219545276416 4598175219545276416 = 4602678819172646912 := by decide +kernel
theorem aw_print (w : World) : Calls Tryz.prog 107 #[.int .u64 4602678819172646912] w fun e w' => e = .returned (.tuple #[.string { data := #[48, 46, 53] }, .int .i64 0]) ∧ Below w.heap.size w w' := print_lit 4602678819172646912 1 5 [48, 46, 53] (by decide +kernel) (by decide +kernel) w
theorem aw_int : ofInt 1 = 4607182418800017408 := by decide +kernel

end Go.Proofs.YtcmahiphfpgadaaGreatDoor

/- Sums and products turned about; and the law RealRing, walked. -/
namespace Go.Proofs.YtcmahiphfpgadaaGreatDoor
open Ieee Go.RowKit
set_option linter.unusedVariables false

theorem sum_comm (x y : Datum) : x.sum y = y.sum x := by
  cases x with
  | nan s t => cases y <;> rfl
  | infinity s =>
    cases y with
    | nan s t => rfl
    | infinity t =>
      simp only [Datum.sum]
      by_cases h : s = t
      · rw [if_pos h, if_pos h.symm, h]
      · rw [if_neg h, if_neg (fun hh => h hh.symm)]
    | number t n j => rfl
  | number s m i =>
    cases y with
    | nan s t => rfl
    | infinity t => rfl
    | number t n j =>
      simp only [Datum.sum]
      rw [Int.min_comm j i, Int.add_comm, Bool.and_comm]

theorem product_comm (x y : Datum) : x.product y = y.product x := by
  cases x with
  | nan s t => cases y <;> rfl
  | infinity s =>
    cases y with
    | nan s t => rfl
    | infinity t => simp only [Datum.product]; rw [Bool.xor_comm]
    | number t n j => rfl
  | number s m i =>
    cases y with
    | nan s t => rfl
    | infinity t => rfl
    | number t n j => simp only [Datum.product]; rw [Bool.xor_comm, Nat.mul_comm, Int.add_comm]

theorem fadd_comm (a b : Nat) : fadd a b = fadd b a := by unfold fadd Format.add; rw [sum_comm]
theorem fmul_comm (a b : Nat) : fmul a b = fmul b a := by unfold fmul Format.mul; rw [product_comm]

theorem fsub_eq (a b : Nat) (hb : b < 18446744073709551616) : fsub a b = fadd a (fneg b) := by
  unfold fsub fadd
  cases hn : isNan b
  · unfold Format.sub Format.add; rw [read_fneg hb hn]
  · rw [sub_nan (.inr hn), add_nan (.inr (by rw [isNan_fneg hb, hn]))]

theorem add_home_left (a b : Nat) : fadd (home a) b = fadd a b := by
  unfold fadd
  rw [← add_home (home a) b, home_home, add_home]

theorem read_one : D.read 4607182418800017408 = .number false 4503599627370496 (-52) := by decide

theorem fmul_one (a : Nat) (ha : a < 18446744073709551616) : fmul a 4607182418800017408 = home a := by
  unfold fmul
  cases hn : isNan a
  · rw [home_real hn]
    have h : D.mul a 4607182418800017408 = some a := by
      have hw := write_read ha hn
      unfold Format.mul
      rw [read_one]
      rcases read_real hn with ⟨s, m, e, hr⟩ | ⟨s, hr⟩
      · rw [hr] at hw ⊢
        have hw : D.nearest s m e = a := hw
        simp only [Datum.product, Bool.xor_false, Option.map_some, Format.write]
        have := nearest_scale s m 52 e
        rw [show m * 4503599627370496 = m * pw 52 from rfl, show e + -52 = e - (52 : Nat) from rfl, this, hw]
      · rw [hr] at hw ⊢
        simp only [Datum.product, Bool.xor_false, Nat.reduceEqDiff, if_false, Option.map_some]
        rw [hw]
    rw [h]
    exact home_real hn
  · rw [mul_nan (.inl hn), home_nan hn]; rfl

theorem home_fneg (a : Nat) (ha : a < 18446744073709551616) : home (fneg a) = fneg a := by
  cases hn : isNan a
  · exact home_real (by rw [isNan_fneg ha, hn])
  · rw [show fneg a = NAN by simp only [fneg, hn, if_true]]; decide

theorem fadd_lt (a b : Nat) : fadd a b < 18446744073709551616 := told_lt (fun x h => D.add_lt h)
theorem fsub_lt (a b : Nat) : fsub a b < 18446744073709551616 := told_lt (fun x h => D.sub_lt h)
theorem fmul_lt (a b : Nat) : fmul a b < 18446744073709551616 := told_lt (fun x h => D.mul_lt h)
theorem fdiv_lt (a b : Nat) : fdiv a b < 18446744073709551616 := told_lt (fun x h => D.div_lt h)

theorem may_yes (b : Nat) (h : b < 18446744073709551616) (hh : home b = b) (w : World) : Calls Tryz.prog 86 #[.int .u64 (b : Int)] w fun e w' => e = .returned (.bool true) ∧ w' = w := by
  refine (may_any b w h).mono ?_
  rintro e w' ⟨rfl, rfl⟩
  exact ⟨by rw [hh]; simp, rfl⟩

end Go.Proofs.YtcmahiphfpgadaaGreatDoor

/- real.Text. -/
namespace Go.Proofs.YtcmahiphfpgadaaGreatDoor
open Go.RowKit
set_option linter.unusedVariables false

/-- The text of a real that was brought home. -/
def textOf (h : Nat) : List UInt8 :=
  if h = NAN then [110, 97, 110]
  else if h = 9218868437227405312 then [105, 110, 102]
  else if h = 18442240474082181120 then [45, 105, 110, 102]
  else match pr h 1 6 with
    | some (k, n) => litOf k n
    | none => match pr (fneg h) 1 6 with
      | some (k, n) => 45 :: litOf k n
      | none => 35 :: hexOf (bytesOf 8 h)

theorem litOf_len (k n : Nat) : (litOf k n).length ≤ 43 := by
  unfold litOf
  have h1 := decOf_len ((n / 10 ^ k : Nat) : Int)
  have h2 := decOf_len ((10 ^ k + n % 10 ^ k : Nat) : Int)
  rw [List.length_append, List.length_append, List.length_drop]
  simp only [List.length_singleton]
  omega

theorem hex8_len (h : Nat) : (hexOf (bytesOf 8 h)).length = 16 := by
  rw [hexOf_length, bytesOf_length]

theorem bytes8 (h : Nat) (hh : h < 18446744073709551616) (w : World) : Calls Tryz.prog 109 #[.int .u64 (h : Int), .int .i64 8] w fun e w' => ∃ (a : Option Addr) (c : Nat), e = .returned (.tuple #[.slice a 8 c, .int .i64 0]) ∧ Row w' a (bytesOf 8 h) ∧ Below w.heap.size w w' := by
  refine (show Calls Tryz.prog 109 #[.int .u64 (h : Int), .int .i64 8] w _ from bytes_ok h 8 hh (by omega) (by omega) (Nat.div_eq_of_lt hh) w).mono ?_
  rintro e w' ⟨v, rfl, hown, hb⟩
  obtain ⟨a, c, rfl, _, _, hrow⟩ := hown.row
  rw [bytesOf_length]
  exact ⟨a, c, rfl, hrow, hb⟩

theorem hex8 (a : Option Addr) (c h : Nat) (w : World) (hrow : Row w a (bytesOf 8 h)) (d : List UInt8) (hd : Hid (d = hexOf (bytesOf 8 h))) : Calls Tryz.prog 110 #[.slice a 8 c] w fun e w' => e = .returned (.string ⟨d.toArray⟩) ∧ Below w.heap.size w w' := by
  have := hex_any a c (bytesOf 8 h) w hrow (by rw [bytesOf_length]; omega)
  rw [bytesOf_length, ← hd.out] at this
  exact this

set_option maxRecDepth 100000 in
set_option maxHeartbeats 1600000 in
theorem text_home (a h : Nat) (hh : h = home a) (hl : h < 18446744073709551616) (w : World) : Calls Tryz.prog 85 #[.int .u64 (a : Int)] w fun e w' => e = .returned (.string ⟨(textOf h).toArray⟩) ∧ Below w.heap.size w w' := by
  have hhh : home h = h := by rw [hh, home_home]
  have k0 : ∀ w, Calls Tryz.prog 106 #[.int .u64 (a : Int)] w fun e w' => e = .returned (.int .u64 (h : Int)) ∧ w' = w := fun w => by rw [hh]; exact canon_any a w
  clear hh
  by_cases c1 : h = NAN
  · have ht : textOf h = [110, 97, 110] := by unfold textOf; rw [if_pos c1]
    rw [ht]
    subst c1
    go_enter Tryz.func85, Tryz.ntmps85
    go_wp2_with fail
    refine (k0 _).mono ?_
    rintro e w' ⟨rfl, rfl⟩
    go_wp2
    go_ret
    exact ⟨rfl, Below.refl _ _⟩
  have b1 : ((h : Int) == 9221120237041090560) = false := by rw [beq_eq_false_iff_ne]; intro hx; apply c1; unfold NAN; omega
  by_cases c2 : h = 9218868437227405312
  · have ht : textOf h = [105, 110, 102] := by unfold textOf; rw [if_neg c1, if_pos c2]
    rw [ht]
    subst c2
    go_enter Tryz.func85, Tryz.ntmps85
    go_wp2_with fail
    refine (k0 _).mono ?_
    rintro e w' ⟨rfl, rfl⟩
    go_wp2
    go_ret
    exact ⟨rfl, Below.refl _ _⟩
  have b2 : ((h : Int) == 9218868437227405312) = false := by rw [beq_eq_false_iff_ne]; omega
  by_cases c3 : h = 18442240474082181120
  · have ht : textOf h = [45, 105, 110, 102] := by unfold textOf; rw [if_neg c1, if_neg c2, if_pos c3]
    rw [ht]
    subst c3
    go_enter Tryz.func85, Tryz.ntmps85
    go_wp2_with fail
    refine (k0 _).mono ?_
    rintro e w' ⟨rfl, rfl⟩
    go_wp2
    go_ret
    exact ⟨rfl, Below.refl _ _⟩
  have b3 : ((h : Int) == 18442240474082181120) = false := by rw [beq_eq_false_iff_ne]; omega
  have ht : textOf h = match pr h 1 6 with
    | some (k, n) => litOf k n
    | none => match pr (fneg h) 1 6 with
      | some (k, n) => 45 :: litOf k n
      | none => 35 :: hexOf (bytesOf 8 h) := by unfold textOf; rw [if_neg c1, if_neg c2, if_neg c3]
  cases hp : pr h 1 6 with
  | some kn =>
    obtain ⟨k, n⟩ := kn
    rw [hp] at ht
    simp only at ht
    have p1 := print_lit h k n (textOf h) (by rw [hhh]; exact hp) ht.symm
    clear ht
    go_enter Tryz.func85, Tryz.ntmps85
    go_wp2_with fail
    refine (k0 _).mono ?_
    rintro e w' ⟨rfl, rfl⟩
    go_wp2_with fail
    refine (p1 _).mono ?_
    rintro e w2 ⟨rfl, hb2⟩
    go_wp2
    go_ret
    exact ⟨rfl, hb2⟩
  | none =>
    rw [hp] at ht
    simp only at ht
    have p1 := print_not h (by rw [hhh]; exact hp)
    obtain ⟨g, hg⟩ : ∃ g, g = fneg h := ⟨_, rfl⟩
    have k1 : ∀ w, Calls Tryz.prog 108 #[.int .u64 (h : Int)] w fun e w' => e = .returned (.int .u64 (g : Int)) ∧ w' = w := fun w => by rw [hg]; exact neg_any h hl w
    have hgh : home g = g := by rw [hg]; exact home_fneg h hl
    cases hq : pr (fneg h) 1 6 with
    | some kn =>
      obtain ⟨k, n⟩ := kn
      rw [hq] at ht
      simp only at ht
      obtain ⟨L, hL⟩ : ∃ L, L = litOf k n := ⟨_, rfl⟩
      have hLl : L.length ≤ 43 := by rw [hL]; exact litOf_len k n
      have p2 := print_lit g k n L (by rw [hgh, hg]; exact hq) hL.symm
      have ht' : textOf h = 45 :: L := by rw [ht, hL]
      rw [ht']
      clear ht ht' hL hp hq hg
      have hsz : (⟨L.toArray⟩ : ByteArray).size = L.length := size_mk L
      go_enter Tryz.func85, Tryz.ntmps85
      go_wp2_with fail
      refine (k0 _).mono ?_
      rintro e w' ⟨rfl, rfl⟩
      go_wp2_with fail
      refine (p1 _).mono ?_
      rintro e w2 ⟨rfl, hb2⟩
      go_wp2_with fail
      refine (k1 _).mono ?_
      rintro e w' ⟨rfl, rfl⟩
      go_wp2_with fail
      refine (p2 _).mono ?_
      rintro e w3 ⟨rfl, hb3⟩
      go_wp2
      go_ret
      exact ⟨congrArg (fun x => Ending.returned (.string x)) (cat_list [45] L), hb2.trans (hb3.mono hb2.size)⟩
    | none =>
      rw [hq] at ht
      simp only at ht
      have p2 := print_not g (by rw [hgh, hg]; exact hq)
      obtain ⟨L, hL⟩ : ∃ L, Hid (L = hexOf (bytesOf 8 h)) := ⟨_, (rfl : hexOf (bytesOf 8 h) = _)⟩
      have hLl : L.length = 16 := by rw [hL.out]; exact hex8_len h
      rw [← hL.out] at ht
      rw [ht]
      have hsz : (⟨L.toArray⟩ : ByteArray).size = L.length := size_mk L
      clear ht hp hq hg
      go_enter Tryz.func85, Tryz.ntmps85
      go_wp2_with fail
      refine (k0 _).mono ?_
      rintro e w' ⟨rfl, rfl⟩
      go_wp2_with fail
      refine (p1 _).mono ?_
      rintro e w2 ⟨rfl, hb2⟩
      go_wp2_with fail
      refine (k1 _).mono ?_
      rintro e w' ⟨rfl, rfl⟩
      go_wp2_with fail
      refine (p2 _).mono ?_
      rintro e w3 ⟨rfl, hb3⟩
      have hC3 := hb2.trans (hb3.mono hb2.size)
      clear hb2 hb3
      go_wp2_with fail
      refine (bytes8 h hl _).mono ?_
      rintro e w4 ⟨a4, c4, rfl, hrow, hb4⟩
      have hC4 := hC3.trans (hb4.mono hC3.size)
      clear hC3 hb4
      go_wp2_with fail
      refine (hex8 a4 c4 h _ hrow L hL).mono ?_
      rintro e w5 ⟨rfl, hb5⟩
      go_wp2
      go_ret
      exact ⟨congrArg (fun x => Ending.returned (.string x)) (cat_list [35] L), hC4.trans (hb5.mono hC4.size)⟩

theorem text_any (a : Nat) (ha : a < 18446744073709551616) (w : World) : Calls Tryz.prog 85 #[.int .u64 (a : Int)] w fun e w' => e = .returned (.string ⟨(textOf (home a)).toArray⟩) ∧ Below w.heap.size w w' := text_home a (home a) rfl (home_lt ha) w

end Go.Proofs.YtcmahiphfpgadaaGreatDoor

/- The plain functions of letters, digits, signs and words that the contracts of lex speak of: no program is named here. -/
namespace Go.Proofs.YtcmahiphfpgadaaGreatDoor

/-- A letter. -/
def isLet (n : Nat) : Bool := (decide (97 ≤ n) && decide (n ≤ 122)) || (decide (65 ≤ n) && decide (n ≤ 90)) || decide (n = 95)

/-- A digit. -/
def isDig (n : Nat) : Bool := decide (48 ≤ n) && decide (n ≤ 57)

/-- What a byte begins: a word 1, a number 2, a sign 4. -/
def kindN (n : Nat) : Nat := if isLet n then 1 else if isDig n then 2 else 4

/-- The signs. -/
def signs : List (List UInt8) := [[59], [123], [125], [40], [41], [61], [61, 61], [33, 61], [60], [60, 61], [62], [62, 61], [43], [45], [42], [47], [37], [33], [38, 38], [124, 124]]

/-- A sign. -/
def isSg (l : List UInt8) : Bool := decide (l ∈ signs)

/-- The words of the language. -/
def words : List (List UInt8) := [[115, 104, 97, 114, 101, 100], [109, 117, 116, 101, 120], [116, 104, 114, 101, 97, 100], [108, 111, 99, 97, 108], [105, 110, 116], [98, 111, 111, 108], [114, 101, 97, 108], [108, 111, 99, 107], [117, 110, 108, 111, 99, 107], [97, 115, 115, 101, 114, 116], [105, 102], [101, 108, 115, 101], [119, 104, 105, 108, 101], [115, 107, 105, 112], [116, 114, 117, 101], [102, 97, 108, 115, 101], [110, 97, 110], [105, 110, 102]]

/-- A word of the language. -/
def isWd (l : List UInt8) : Bool := decide (l ∈ words)

theorem toList_bytes (s : ByteArray) : s.toList = bytes s := Lib.toList_data s

theorem mk_bytes (s : ByteArray) : s = ⟨(bytes s).toArray⟩ := by
  apply ByteArray.ext
  simp [bytes]

/-- A point and a digit come next. -/
def isPt : List UInt8 → Bool
  | c :: d :: _ => decide (c = 46) && isDig d.toNat
  | _ => false

theorem isPt_two (l : List UInt8) (h : 1 < l.length) : isPt l = (decide ((l.getD 0 0).toNat = 46) && isDig (l.getD 1 0).toNat) := by
  match l, h with
  | c :: d :: r, _ =>
    simp only [isPt, List.getD_cons_zero, List.getD_cons_succ]
    congr 1
    rw [Bool.eq_iff_iff]
    simp only [decide_eq_true_eq]
    constructor
    · rintro rfl; rfl
    · intro h; exact UInt8.toNat_inj.1 h

theorem isPt_short (l : List UInt8) (h : ¬ 1 < l.length) : isPt l = false := by
  match l, h with
  | [], _ => rfl
  | [_], _ => rfl
  | _ :: _ :: _, h => exact absurd (by simp) h

theorem isPt_str (s : ByteArray) (h : 1 < s.size) : isPt (bytes s) = (decide (s[0].toNat = 46) && isDig s[1].toNat) := by
  rw [isPt_two _ (by rw [bytes_length]; exact h), bytes_at s 0 (by omega), bytes_at s 1 h]

end Go.Proofs.YtcmahiphfpgadaaGreatDoor

/- lex: the small functions of bytes, signs and words. -/
namespace Go.Proofs.YtcmahiphfpgadaaGreatDoor
open Go.RowKit
set_option linter.unusedVariables false
theorem isDigit_any (n : Nat) (w : World) : Calls Tryz.prog 121 #[.int .u8 (n : Int)] w fun e w' => e = .returned (.bool (isDig n)) ∧ w' = w := by
  go_enter Tryz.func121, Tryz.ntmps121
  go_wp2
  all_goals
    go_ret
    refine ⟨?_, rfl⟩
    simp [isDig]
    try (rw [Bool.eq_iff_iff]; simp)
    try omega
theorem isLetter_any (n : Nat) (w : World) : Calls Tryz.prog 120 #[.int .u8 (n : Int)] w fun e w' => e = .returned (.bool (isLet n)) ∧ w' = w := by
  go_enter Tryz.func120, Tryz.ntmps120
  go_wp2
  all_goals
    go_ret
    refine ⟨?_, rfl⟩
    simp [isLet]
    try (rw [Bool.eq_iff_iff]; simp)
    try omega
theorem kindOf_any (n : Nat) (w : World) : Calls Tryz.prog 119 #[.int .u8 (n : Int)] w fun e w' => e = .returned (.int .i64 (kindN n : Nat)) ∧ w' = w := by
  go_enter Tryz.func119, Tryz.ntmps119
  go_wp2_with fail
  refine (isLetter_any n _).mono ?_
  rintro e w1 ⟨rfl, rfl⟩
  cases h1 : isLet n
  · go_wp2_with fail
    refine (isDigit_any n _).mono ?_
    rintro e w1 ⟨rfl, rfl⟩
    cases h2 : isDig n
    · go_wp2
      go_ret
      simp [kindN, h1, h2]
    · go_wp2
      go_ret
      simp [kindN, h1, h2]
  · go_wp2
    go_ret
    simp [kindN, h1]

set_option maxRecDepth 100000 in
set_option maxHeartbeats 800000 in
theorem isSign_yes : ∀ x ∈ signs, ∀ w : World, Calls Tryz.prog 123 #[.string ⟨x.toArray⟩] w fun e w' => e = .returned (.bool true) ∧ w' = w := by
  intro x hx w
  simp only [signs, List.mem_cons, List.not_mem_nil, or_false] at hx
  rcases hx with rfl | rfl | rfl | rfl | rfl | rfl | rfl | rfl | rfl | rfl | rfl | rfl | rfl | rfl | rfl | rfl | rfl | rfl | rfl | rfl
  all_goals
    go_enter Tryz.func123, Tryz.ntmps123
    go_wp2
    go_ret
    exact ⟨rfl, rfl⟩

set_option maxRecDepth 100000 in
set_option maxHeartbeats 800000 in
theorem isSign_any (s : ByteArray) (w : World) : Calls Tryz.prog 123 #[.string s] w fun e w' => e = .returned (.bool (isSg (bytes s))) ∧ w' = w := by
  by_cases hx : bytes s ∈ signs
  · have h := isSign_yes _ hx w
    rw [← mk_bytes s] at h
    simpa only [isSg, hx, decide_true] using h
  · have hn : ¬ bytes s ∈ signs := hx
    simp only [isSg, hx, decide_false]
    clear hx
    have n0 : (s.toList == [59]) = false := by rw [toList_bytes]; simp only [beq_eq_false_iff_ne]; intro h0; exact hn (by rw [h0]; decide)
    have n1 : (s.toList == [123]) = false := by rw [toList_bytes]; simp only [beq_eq_false_iff_ne]; intro h0; exact hn (by rw [h0]; decide)
    have n2 : (s.toList == [125]) = false := by rw [toList_bytes]; simp only [beq_eq_false_iff_ne]; intro h0; exact hn (by rw [h0]; decide)
    have n3 : (s.toList == [40]) = false := by rw [toList_bytes]; simp only [beq_eq_false_iff_ne]; intro h0; exact hn (by rw [h0]; decide)
    have n4 : (s.toList == [41]) = false := by rw [toList_bytes]; simp only [beq_eq_false_iff_ne]; intro h0; exact hn (by rw [h0]; decide)
    have n5 : (s.toList == [61]) = false := by rw [toList_bytes]; simp only [beq_eq_false_iff_ne]; intro h0; exact hn (by rw [h0]; decide)
    have n6 : (s.toList == [61, 61]) = false := by rw [toList_bytes]; simp only [beq_eq_false_iff_ne]; intro h0; exact hn (by rw [h0]; decide)
    have n7 : (s.toList == [33, 61]) = false := by rw [toList_bytes]; simp only [beq_eq_false_iff_ne]; intro h0; exact hn (by rw [h0]; decide)
    have n8 : (s.toList == [60]) = false := by rw [toList_bytes]; simp only [beq_eq_false_iff_ne]; intro h0; exact hn (by rw [h0]; decide)
    have n9 : (s.toList == [60, 61]) = false := by rw [toList_bytes]; simp only [beq_eq_false_iff_ne]; intro h0; exact hn (by rw [h0]; decide)
    have n10 : (s.toList == [62]) = false := by rw [toList_bytes]; simp only [beq_eq_false_iff_ne]; intro h0; exact hn (by rw [h0]; decide)
    have n11 : (s.toList == [62, 61]) = false := by rw [toList_bytes]; simp only [beq_eq_false_iff_ne]; intro h0; exact hn (by rw [h0]; decide)
    have n12 : (s.toList == [43]) = false := by rw [toList_bytes]; simp only [beq_eq_false_iff_ne]; intro h0; exact hn (by rw [h0]; decide)
    have n13 : (s.toList == [45]) = false := by rw [toList_bytes]; simp only [beq_eq_false_iff_ne]; intro h0; exact hn (by rw [h0]; decide)
    have n14 : (s.toList == [42]) = false := by rw [toList_bytes]; simp only [beq_eq_false_iff_ne]; intro h0; exact hn (by rw [h0]; decide)
    have n15 : (s.toList == [47]) = false := by rw [toList_bytes]; simp only [beq_eq_false_iff_ne]; intro h0; exact hn (by rw [h0]; decide)
    have n16 : (s.toList == [37]) = false := by rw [toList_bytes]; simp only [beq_eq_false_iff_ne]; intro h0; exact hn (by rw [h0]; decide)
    have n17 : (s.toList == [33]) = false := by rw [toList_bytes]; simp only [beq_eq_false_iff_ne]; intro h0; exact hn (by rw [h0]; decide)
    have n18 : (s.toList == [38, 38]) = false := by rw [toList_bytes]; simp only [beq_eq_false_iff_ne]; intro h0; exact hn (by rw [h0]; decide)
    have n19 : (s.toList == [124, 124]) = false := by rw [toList_bytes]; simp only [beq_eq_false_iff_ne]; intro h0; exact hn (by rw [h0]; decide)
    clear hn
    go_enter Tryz.func123, Tryz.ntmps123
    go_wp2
    go_ret
    exact ⟨rfl, rfl⟩

set_option maxRecDepth 100000 in
set_option maxHeartbeats 800000 in
theorem word_yes : ∀ x ∈ words, ∀ w : World, Calls Tryz.prog 95 #[.string ⟨x.toArray⟩] w fun e w' => e = .returned (.bool true) ∧ w' = w := by
  intro x hx w
  simp only [words, List.mem_cons, List.not_mem_nil, or_false] at hx
  rcases hx with rfl | rfl | rfl | rfl | rfl | rfl | rfl | rfl | rfl | rfl | rfl | rfl | rfl | rfl | rfl | rfl | rfl | rfl
  all_goals
    go_enter Tryz.func95, Tryz.ntmps95
    go_wp2
    go_ret
    exact ⟨rfl, rfl⟩

set_option maxRecDepth 100000 in
set_option maxHeartbeats 800000 in
theorem word_any (s : ByteArray) (w : World) : Calls Tryz.prog 95 #[.string s] w fun e w' => e = .returned (.bool (isWd (bytes s))) ∧ w' = w := by
  by_cases hx : bytes s ∈ words
  · have h := word_yes _ hx w
    rw [← mk_bytes s] at h
    simpa only [isWd, hx, decide_true] using h
  · have hn : ¬ bytes s ∈ words := hx
    simp only [isWd, hx, decide_false]
    clear hx
    have n0 : (s.toList == [115, 104, 97, 114, 101, 100]) = false := by rw [toList_bytes]; simp only [beq_eq_false_iff_ne]; intro h0; exact hn (by rw [h0]; decide)
    have n1 : (s.toList == [109, 117, 116, 101, 120]) = false := by rw [toList_bytes]; simp only [beq_eq_false_iff_ne]; intro h0; exact hn (by rw [h0]; decide)
    have n2 : (s.toList == [116, 104, 114, 101, 97, 100]) = false := by rw [toList_bytes]; simp only [beq_eq_false_iff_ne]; intro h0; exact hn (by rw [h0]; decide)
    have n3 : (s.toList == [108, 111, 99, 97, 108]) = false := by rw [toList_bytes]; simp only [beq_eq_false_iff_ne]; intro h0; exact hn (by rw [h0]; decide)
    have n4 : (s.toList == [105, 110, 116]) = false := by rw [toList_bytes]; simp only [beq_eq_false_iff_ne]; intro h0; exact hn (by rw [h0]; decide)
    have n5 : (s.toList == [98, 111, 111, 108]) = false := by rw [toList_bytes]; simp only [beq_eq_false_iff_ne]; intro h0; exact hn (by rw [h0]; decide)
    have n6 : (s.toList == [114, 101, 97, 108]) = false := by rw [toList_bytes]; simp only [beq_eq_false_iff_ne]; intro h0; exact hn (by rw [h0]; decide)
    have n7 : (s.toList == [108, 111, 99, 107]) = false := by rw [toList_bytes]; simp only [beq_eq_false_iff_ne]; intro h0; exact hn (by rw [h0]; decide)
    have n8 : (s.toList == [117, 110, 108, 111, 99, 107]) = false := by rw [toList_bytes]; simp only [beq_eq_false_iff_ne]; intro h0; exact hn (by rw [h0]; decide)
    have n9 : (s.toList == [97, 115, 115, 101, 114, 116]) = false := by rw [toList_bytes]; simp only [beq_eq_false_iff_ne]; intro h0; exact hn (by rw [h0]; decide)
    have n10 : (s.toList == [105, 102]) = false := by rw [toList_bytes]; simp only [beq_eq_false_iff_ne]; intro h0; exact hn (by rw [h0]; decide)
    have n11 : (s.toList == [101, 108, 115, 101]) = false := by rw [toList_bytes]; simp only [beq_eq_false_iff_ne]; intro h0; exact hn (by rw [h0]; decide)
    have n12 : (s.toList == [119, 104, 105, 108, 101]) = false := by rw [toList_bytes]; simp only [beq_eq_false_iff_ne]; intro h0; exact hn (by rw [h0]; decide)
    have n13 : (s.toList == [115, 107, 105, 112]) = false := by rw [toList_bytes]; simp only [beq_eq_false_iff_ne]; intro h0; exact hn (by rw [h0]; decide)
    have n14 : (s.toList == [116, 114, 117, 101]) = false := by rw [toList_bytes]; simp only [beq_eq_false_iff_ne]; intro h0; exact hn (by rw [h0]; decide)
    have n15 : (s.toList == [102, 97, 108, 115, 101]) = false := by rw [toList_bytes]; simp only [beq_eq_false_iff_ne]; intro h0; exact hn (by rw [h0]; decide)
    have n16 : (s.toList == [110, 97, 110]) = false := by rw [toList_bytes]; simp only [beq_eq_false_iff_ne]; intro h0; exact hn (by rw [h0]; decide)
    have n17 : (s.toList == [105, 110, 102]) = false := by rw [toList_bytes]; simp only [beq_eq_false_iff_ne]; intro h0; exact hn (by rw [h0]; decide)
    clear hn
    go_enter Tryz.func95, Tryz.ntmps95
    go_wp2
    go_ret
    exact ⟨rfl, rfl⟩

theorem isPoint_any (s : ByteArray) (w : World) : Calls Tryz.prog 122 #[.string s] w fun e w' => e = .returned (.bool (isPt (bytes s))) ∧ w' = w := by
  by_cases h : 1 < s.size
  · rw [isPt_str s h]
    go_enter Tryz.func122, Tryz.ntmps122
    go_wp2
    all_goals
      go_ret
      refine ⟨?_, rfl⟩
      simp [isDig]
      try (rw [Bool.eq_iff_iff]; simp)
      try omega
  · rw [isPt_short _ (by rw [bytes_length]; exact h)]
    go_enter Tryz.func122, Tryz.ntmps122
    go_wp2
    go_ret
    exact ⟨rfl, rfl⟩

end Go.Proofs.YtcmahiphfpgadaaGreatDoor

/- How far a token goes: plain functions on lists of bytes. -/
namespace Go.Proofs.YtcmahiphfpgadaaGreatDoor

/-- How many letters and digits stand ahead. -/
def alN : List UInt8 → Nat
  | [] => 0
  | c :: r => if isLet c.toNat || isDig c.toNat then alN r + 1 else 0

/-- How many digits stand ahead. -/
def dgN : List UInt8 → Nat
  | [] => 0
  | c :: r => if isDig c.toNat then dgN r + 1 else 0

/-- How many digits, or digits with one point and digits, stand ahead; 3 with the point, 2 without. -/
def nmN : List UInt8 → Nat × Nat
  | [] => (2, 0)
  | c :: r => if isPt (c :: r) then (3, dgN r + 1) else if isDig c.toNat then ((nmN r).1, (nmN r).2 + 1) else (2, 0)

/-- One, if a sign of two goes on. -/
def sgN (c : UInt8) : List UInt8 → Nat
  | [] => 0
  | d :: _ => if isSg [c, d] then 1 else 0

/-- A token's kind and length. -/
def endOf : List UInt8 → Nat × Nat
  | [] => (4, 0)
  | c :: r => if isLet c.toNat then (1, alN r + 1) else if isDig c.toNat then ((nmN r).1, (nmN r).2 + 1) else (4, sgN c r + 1)

theorem drop_at (s : ByteArray) (k : Nat) (h : k < s.size) : (bytes s).drop k = s[k] :: (bytes s).drop (k + 1) := by
  rw [← bytes_at s k h]
  have h' : k < (bytes s).length := by rw [bytes_length]; exact h
  rw [List.drop_eq_getElem_cons h']
  simp [List.getD, h']

theorem drop_end (s : ByteArray) (k : Nat) (h : ¬ k < s.size) : (bytes s).drop k = [] := by
  apply List.drop_eq_nil_of_le
  rw [bytes_length]
  omega

theorem bytes_extract (s : ByteArray) (i j : Nat) : bytes (s.extract i j) = ((bytes s).drop i).take (j - i) := Lib.extract_data s i j

theorem bytes_from (s : ByteArray) (i : Nat) : bytes (s.extract i s.size) = (bytes s).drop i := by
  rw [bytes_extract, List.take_of_length_le]
  rw [List.length_drop, bytes_length]; exact Nat.le_refl _

/-- No sign has three bytes. -/
theorem isSg_three (l : List UInt8) (h : 3 ≤ l.length) : isSg l = false := by
  simp only [isSg, decide_eq_false_iff_not]
  intro hm
  simp only [signs, List.mem_cons, List.not_mem_nil, or_false] at hm
  rcases hm with rfl | rfl | rfl | rfl | rfl | rfl | rfl | rfl | rfl | rfl | rfl | rfl | rfl | rfl | rfl | rfl | rfl | rfl | rfl | rfl <;> simp at h

end Go.Proofs.YtcmahiphfpgadaaGreatDoor
