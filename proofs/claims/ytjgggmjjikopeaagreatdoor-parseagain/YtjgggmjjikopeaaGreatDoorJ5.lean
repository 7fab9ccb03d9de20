/- Joined texts of the proof. -/
import Derived.Test.YtjgggmjjikopeaaGreatDoorJ4

/- octet.ReadHex and the document's own ReadHex: the bytes of digits. -/
namespace Go.Proofs.YtjgggmjjikopeaaGreatDoor
open Go.RowKit
set_option linter.unusedVariables false

end Go.Proofs.YtjgggmjjikopeaaGreatDoor

/- Digits that are told are read, and digits that are read are told again: plain facts. -/
namespace Go.Proofs.YtjgggmjjikopeaaGreatDoor
set_option linter.unusedVariables false

theorem digs_length (f : Nat) : ∀ n, (digs f n).length ≤ f + 1 ∧ 1 ≤ (digs f n).length := by
  induction f with
  | zero => intro n; simp [digs]
  | succ f ih =>
    intro n
    unfold digs
    split
    · simp
    · have := ih (n / 10)
      simp
      omega

theorem digs_val (f : Nat) : ∀ n, n < 10 ^ (f + 1) → decVal (digs f n) = n := by
  induction f with
  | zero =>
    intro n h
    simp at h
    simp [digs, decVal]
    rw [ub_toNat _ (by omega)]
    omega
  | succ f ih =>
    intro n h
    by_cases hb : n < 10
    · rw [digs_small _ _ hb]
      simp [decVal]
      rw [ub_toNat _ (by omega)]
      omega
    · rw [digs_big f n (by omega), val_snoc, ih (n / 10) (by rw [Nat.div_lt_iff_lt_mul (by omega)]; rwa [Nat.pow_succ] at h), ub_toNat _ (by omega)]
      omega

theorem digs_digit (f : Nat) : ∀ n, ∀ c ∈ digs f n, 48 ≤ c.toNat ∧ c.toNat ≤ 57 := by
  induction f with
  | zero =>
    intro n c hc
    simp [digs] at hc
    rw [hc, ub_toNat _ (by omega)]
    omega
  | succ f ih =>
    intro n c hc
    by_cases hb : n < 10
    · rw [digs_small _ _ hb] at hc
      simp at hc
      rw [hc, ub_toNat _ (by omega)]
      omega
    · rw [digs_big f n (by omega)] at hc
      rcases List.mem_append.1 hc with h | h
      · exact ih _ c h
      · simp at h
        rw [h, ub_toNat _ (by omega)]
        omega

theorem digs_head (f : Nat) : ∀ n, 1 ≤ n → n < 10 ^ (f + 1) → ((digs f n).getD 0 0).toNat ≠ 48 := by
  induction f with
  | zero =>
    intro n h1 h
    simp at h
    simp [digs, List.getD]
    rw [ub_toNat _ (by omega)]
    omega
  | succ f ih =>
    intro n h1 h
    by_cases hb : n < 10
    · rw [digs_small _ _ hb]
      simp [List.getD]
      rw [ub_toNat _ (by omega)]
      omega
    · rw [digs_big f n (by omega)]
      have h2 := ih (n / 10) (by omega) (by rw [Nat.div_lt_iff_lt_mul (by omega)]; rwa [Nat.pow_succ] at h)
      have h3 := (digs_length f (n / 10)).2
      have e : (digs f (n / 10) ++ [ub (48 + n % 10)]).getD 0 0 = (digs f (n / 10)).getD 0 0 := by
        simp only [List.getD, List.getElem?_append_left (show 0 < (digs f (n / 10)).length by omega)]
      rw [e]
      exact h2

theorem good_digs (n : Nat) (h : n ≤ 9223372036854775807) : GoodDec (digs 19 n) ∧ decVal (digs 19 n) = n := by
  have hv := digs_val 19 n (by omega)
  refine ⟨⟨(digs_length 19 n).2, ?_, ?_, by omega⟩, hv⟩
  · intro h0
    rcases Nat.lt_or_ge n 1 with h1 | h1
    · have : n = 0 := by omega
      subst this
      decide
    · exact absurd h0 (digs_head 19 n h1 (by omega))
  · intro j hj
    have := digs_digit 19 n ((digs 19 n).getD j 0) (by simp [List.getD, List.getElem?_eq_getElem hj])
    exact this

theorem digs_take (l : List UInt8) (hd : ∀ j, j < l.length → 48 ≤ (l.getD j 0).toNat ∧ (l.getD j 0).toNat ≤ 57) (h0 : (l.getD 0 0).toNat = 48 → l.length = 1) :
    ∀ k, k < l.length → ∀ f, k ≤ f → digs f (decVal (l.take (k + 1))) = l.take (k + 1) := by
  have last : ∀ (c : UInt8), 48 ≤ c.toNat → c.toNat ≤ 57 → ub (48 + (c.toNat - 48)) = c := fun c h1 h2 => by
    apply UInt8.toNat_inj.1
    rw [ub_toNat _ (by omega)]
    omega
  have tk : ∀ k, k < l.length → l.take (k + 1) = l.take k ++ [l.getD k 0] := fun k h => by
    rw [List.take_succ_eq_append_getElem h]
    simp [List.getD, List.getElem?_eq_getElem h]
  intro k
  induction k with
  | zero =>
    intro h f _
    have hc := hd 0 h
    rw [val_take l 0 h]
    have e : decVal (l.take 0) * 10 + ((l.getD 0 0).toNat - 48) = (l.getD 0 0).toNat - 48 := by simp [decVal]
    rw [e, digs_small f _ (by omega), tk 0 h, Nat.mod_eq_of_lt (by omega), last _ hc.1 hc.2]
    simp
  | succ k ih =>
    intro h f hf
    cases f with
    | zero => omega
    | succ f =>
      have hc := hd (k + 1) h
      have hne : (l.getD 0 0).toNat ≠ 48 := fun e => by have := h0 e; omega
      have hge := val_ge l (by omega) hd hne k (by omega)
      have hpos : 1 ≤ 10 ^ k := Nat.pow_pos (by omega)
      rw [val_take l (k + 1) h, digs_big f _ (by omega)]
      have e1 : (decVal (l.take (k + 1)) * 10 + ((l.getD (k + 1) 0).toNat - 48)) / 10 = decVal (l.take (k + 1)) := by omega
      have e2 : (decVal (l.take (k + 1)) * 10 + ((l.getD (k + 1) 0).toNat - 48)) % 10 = (l.getD (k + 1) 0).toNat - 48 := by omega
      rw [e1, e2, ih (by omega) f (by omega), last _ hc.1 hc.2, tk (k + 1) h]

theorem digs_of_good (l : List UInt8) (h : GoodDec l) : digs 19 (decVal l) = l := by
  have hl : l.length ≤ 19 := by
    rcases Nat.lt_or_ge 19 l.length with h1 | h1
    · exact absurd h (long_bad l h1)
    · exact h1
  obtain ⟨h1, h2, h3, h4⟩ := h
  have := digs_take l h3 h2 (l.length - 1) (by omega) 19 (by omega)
  rwa [show l.length - 1 + 1 = l.length by omega, List.take_length] at this

end Go.Proofs.YtjgggmjjikopeaaGreatDoor

/- real.digitsOf and real.Print. -/
namespace Go.Proofs.YtjgggmjjikopeaaGreatDoor
open Go.RowKit
set_option linter.unusedVariables false

/-- One half, and 10 to the power of 15, as reals. -/
def HALF : Nat := 4602678819172646912
def E15 : Nat := 4831355200913801216

/-- What is near a real's digits, scaled. -/
def nearOf (x s : Nat) : Option Nat := match D.mul x (ofInt (s : Int)) with
  | none => none
  | some p => D.add p HALF

/-- A literal's digits as a whole number, if x is the real of one with this scale. -/
def digitsOf (x s : Nat) : Option Nat := match nearOf x s with
  | none => none
  | some y => if isNan y = false ∧ 0 ≤ val y ∧ val y < val E15 then (if quo (trunc (val y)).toNat s = home x then some (trunc (val y)).toNat else none) else none

/-- What digitsOf answers. -/
def DigitsPost (x s : Nat) (e : Ending) : Prop :=
  (∃ n : Nat, digitsOf x s = some n ∧ e = .returned (.tuple #[.int .i64 (n : Int), .bool true])) ∨ (digitsOf x s = none ∧ e = .returned (.tuple #[.int .i64 0, .bool false]))

theorem val_zero : val 0 = 0 := by decide +kernel
theorem val_E15 : val E15 = ((1000000000000000 * pw 1074 : Nat) : Int) := by decide +kernel

theorem near_run (x s : Nat) (w : World) : ∃ p y q1 q2, (∀ t, (binOp .mul t (.float .f64 x) (.float .f64 (floatOfInt .f64 s))).run Tryz.prog w = .ok (.float .f64 p) (w.drewN q1)) ∧
    (∀ t, (binOp .add t (.float .f64 p) (.float .f64 4602678819172646912)).run Tryz.prog (w.drewN q1) = .ok (.float .f64 y) (w.drewN q2)) ∧ (nearOf x s = some y ∨ (nearOf x s = none ∧ isNan y = true)) := by
  cases h : floatBits .mul .f64 x (floatOfInt .f64 s) with
  | none =>
    have h' : D.mul x (ofInt (s : Int)) = none := h
    obtain ⟨p, hn, _, hr⟩ := run_float_none (P := Tryz.prog) w .mul (.inr (.inr (.inl rfl))) _ _ h
    obtain ⟨y, hy, _, hr2⟩ := run_float_none (P := Tryz.prog) w.drew .add (.inl rfl) p HALF (add_nan (.inl hn))
    refine ⟨p, y, 1, 2, fun t => hr t, fun t => hr2 t, .inr ⟨by simp [nearOf, h'], hy⟩⟩
  | some p =>
    have h' : D.mul x (ofInt (s : Int)) = some p := h
    have hr := fun t => run_float_arith (P := Tryz.prog) w .mul t .f64 _ _ p h
    cases h2 : floatBits .add .f64 p HALF with
    | none =>
      have h2' : D.add p HALF = none := h2
      obtain ⟨y, hy, _, hr2⟩ := run_float_none (P := Tryz.prog) w .add (.inl rfl) p HALF h2
      exact ⟨p, y, 0, 1, fun t => hr t, fun t => hr2 t, .inr ⟨by simp [nearOf, h', h2'], hy⟩⟩
    | some y =>
      have h2' : D.add p HALF = some y := h2
      have hr2 := fun t => run_float_arith (P := Tryz.prog) w .add t .f64 _ _ y h2
      exact ⟨p, y, 0, 0, fun t => hr t, fun t => hr2 t, .inl (by simp [nearOf, h', h2'])⟩

/-- The trunc of a real that is not below nought and below 10^15. -/
theorem trunc_bounds {v : Int} (h0 : 0 ≤ v) (h1 : v < val E15) : 0 ≤ trunc v ∧ trunc v < 1000000000000000 := by
  rw [val_E15] at h1
  unfold trunc
  rw [if_neg (by omega)]
  have hp := pw_pos 1074
  generalize pw 1074 = K at h1 hp ⊢
  have : v.natAbs / K < 1000000000000000 := (Nat.div_lt_iff_lt_mul hp).2 (by omega)
  generalize v.natAbs / K = z at this ⊢
  omega

theorem E15_lt_B63 : val E15 < val B63 := by
  rw [val_E15, val_B63]
  have hp := pw_pos 1074
  generalize pw 1074 = K at hp ⊢
  omega

set_option maxRecDepth 100000 in
set_option maxHeartbeats 1600000 in
theorem digitsOf_any (x s : Nat) (w : World) : Calls Tryz.prog 197 #[.float .f64 x, .int .i64 (s : Int)] w fun e w' => DigitsPost x s e ∧ ∃ q, w' = w.drewN q := by
  obtain ⟨p, y, q1, q2, hop1, hop2, hy⟩ := near_run x s w
  have fin : (hn : isNan y = true ∨ (isNan y = false ∧ ¬ (0 ≤ val y ∧ val y < val E15))) → digitsOf x s = none := by
    intro hn
    rcases hy with hy | ⟨hy, _⟩
    · simp only [digitsOf, hy]
      rw [if_neg]
      rintro ⟨h1, h2, h3⟩
      rcases hn with hn | ⟨_, hn⟩
      · rw [hn] at h1; cases h1
      · exact hn ⟨h2, h3⟩
    · simp only [digitsOf, hy]
  cases hn : isNan y
  · have e1 : (FloatKind.f64.format.order y 0 == some .gt || FloatKind.f64.format.order y 0 == some .eq) = decide (val 0 ≤ val y) := ge_val (c := 0) hn (by decide)
    have e2 : (FloatKind.f64.format.order y 4831355200913801216 == some .lt) = decide (val y < val E15) := lt_val (c := E15) hn (by decide)
    rw [val_zero] at e1
    by_cases c1 : 0 ≤ val y
    · rw [decide_eq_true c1] at e1
      by_cases c2 : val y < val E15
      · rw [decide_eq_true c2] at e2
        have hb := trunc_bounds c1 c2
        have hw := whole_val hn (Int.lt_trans c2 E15_lt_B63) (by rw [val_N63]; omega)
        obtain ⟨n, hnn⟩ : ∃ n : Nat, n = (trunc (val y)).toNat := ⟨_, rfl⟩
        have htr : trunc (val y) = (n : Int) := by omega
        rw [htr] at hw
        have hcv : ∀ w, (convert 182 3 (.float .f64 y)).run Tryz.prog w = .ok (.int .i64 (n : Int)) w := fun w => run_convert_float_int w 182 3 .f64 .i64 y _ (by rw [Tryz.underlying182]; rfl) Tryz.underlying3 hw
        have hd : Hid (digitsOf x s = if quo n s = home x then some n else none) := by
          rcases hy with hy | ⟨hy, h2⟩
          · show digitsOf x s = _
            simp only [digitsOf, hy]
            rw [if_pos ⟨hn, c1, c2⟩, hnn]
          · rw [hn] at h2; cases h2
        clear hw hy fin c1 c2 htr hnn hb
        by_cases hq : quo n s = home x
        focus
          have hqi : (((quo n s : Nat) : Int) != ((home x : Nat) : Int)) = false := by rw [hq]; simp
        rotate_left
        focus
          have hqi : (((quo n s : Nat) : Int) != ((home x : Nat) : Int)) = true := by rw [bne_iff_ne]; omega
        rotate_left
        all_goals
          go_enter Tryz.func197, Tryz.ntmps197
          go_wp2_with fail
          refine (quotient_any n s _).mono ?_
          rintro e w1 ⟨rfl, q3, rfl⟩
          go_wp2_with fail
          refine (bitsOf_any x _).mono ?_
          rintro e w1 ⟨rfl, rfl⟩
          go_wp2
          go_ret2
        · exact ⟨.inl ⟨n, by rw [hd.out, if_pos hq], rfl⟩, _, rfl⟩
        · exact ⟨.inr ⟨by rw [hd.out, if_neg hq], rfl⟩, _, rfl⟩
      · rw [decide_eq_false c2] at e2
        have hd := fin (.inr ⟨hn, fun h => c2 h.2⟩)
        clear fin hy
        go_enter Tryz.func197, Tryz.ntmps197
        go_wp2
        go_ret2
        exact ⟨.inr ⟨hd, rfl⟩, _, rfl⟩
    · rw [decide_eq_false c1] at e1
      have hd := fin (.inr ⟨hn, fun h => c1 h.1⟩)
      clear fin hy
      go_enter Tryz.func197, Tryz.ntmps197
      go_wp2
      go_ret2
      exact ⟨.inr ⟨hd, rfl⟩, _, rfl⟩
  · have e1 : (FloatKind.f64.format.order y 0 == some .gt || FloatKind.f64.format.order y 0 == some .eq) = false := nan_ge (.inl hn)
    have hd := fin (.inl hn)
    clear fin hy
    go_enter Tryz.func197, Tryz.ntmps197
    go_wp2
    go_ret2
    exact ⟨.inr ⟨hd, rfl⟩, _, rfl⟩

theorem digitsOf_lt {x s n : Nat} (h : digitsOf x s = some n) : n < 1000000000000000 := by
  unfold digitsOf at h
  split at h
  · cases h
  · split at h
    · rename_i hc
      split at h
      · cases h
        have := trunc_bounds hc.2.1 hc.2.2
        omega
      · cases h
    · cases h

/-- The literal with so many digits behind the point, and these digits. -/
def litOf (k n : Nat) : List UInt8 := decOf ((n / 10 ^ k : Nat) : Int) ++ ([46] ++ (decOf ((10 ^ k + n % 10 ^ k : Nat) : Int)).drop 1)

/-- The first literal of a real, of those with k digits behind the point and more. -/
def pr (x : Nat) : Nat → Nat → Option (Nat × Nat)
  | _, 0 => none
  | k, f + 1 => match digitsOf x (10 ^ k) with
    | some n => some (k, n)
    | none => pr x (k + 1) f

/-- What Print answers. -/
def PrintPost (x : Nat) (e : Ending) : Prop :=
  (∃ k n : Nat, pr x 1 6 = some (k, n) ∧ e = .returned (.tuple #[.string ⟨(litOf k n).toArray⟩, .int .i64 0])) ∨ (pr x 1 6 = none ∧ e = .returned (.tuple #[.string ⟨#[]⟩, .int .i64 2]))

theorem dec_lit (N : Nat) (d : List UInt8) (hd : Hid (d = decOf (N : Int))) (hN : N ≤ 9223372036854775807) (w : World) :
    Calls Tryz.prog 198 #[.int .i64 (N : Int)] w fun e w' => e = .returned (.string ⟨d.toArray⟩) ∧ Below w.heap.size w w' := by
  rw [hd.out]
  exact dec_any N w (by omega) (by omega)

theorem digs_pos (f n : Nat) : 1 ≤ (digs f n).length := by
  cases f with
  | zero => simp [digs]
  | succ f => simp only [digs]; split <;> simp

theorem digs_len (f : Nat) : ∀ n, (digs f n).length ≤ f + 1 := by
  induction f with
  | zero => intro n; simp [digs]
  | succ f ih =>
    intro n
    simp only [digs]
    split
    · simp
    · have := ih (n / 10)
      simp
      omega

theorem decOf_len (n : Int) : (decOf n).length ≤ 21 := by
  unfold decOf
  have := digs_len 19 n.natAbs
  split
  · simp; omega
  · omega

theorem decOf_pos (n : Int) : 1 ≤ (decOf n).length := by
  unfold decOf
  split
  · simp
  · exact digs_pos _ _

set_option maxRecDepth 100000 in
set_option maxHeartbeats 1600000 in
theorem print_any (a : Nat) (w : World) : Calls Tryz.prog 174 #[.int .u64 (a : Int)] w fun e w' => PrintPost (home a) e ∧ Below w.heap.size w w' := by
  go_enter Tryz.func174, Tryz.ntmps174
  go_wp2_with fail
  refine (number_any a _).mono ?_
  rintro e w1 ⟨rfl, hw1⟩
  rw [hw1]
  clear hw1
  obtain ⟨x, hx⟩ : ∃ x, x = home a := ⟨_, rfl⟩
  rw [← hx]
  have HX : Hid (x = home a) := hx
  clear hx
  go_wp2
  go_loopw [5] (fun i wr => ∃ k f : Nat, 1 ≤ k ∧ k + f = 7 ∧ i = .int .i64 (k : Int) ∧ Hid (pr x 1 6 = pr x k f) ∧ ∃ q, wr = w.drewN q) (fun i _ => 8 - (intOf i).toNat)
  case atStart => exact ⟨1, 6, by omega, rfl, rfl, (rfl : pr x 1 6 = pr x 1 6), 0, rfl⟩
  case round =>
    obtain ⟨k, f, hk1, hkf, rfl, hpr, q, rfl⟩ := hrel
    by_cases hc : k ≤ 6
    · obtain ⟨f, rfl⟩ : ∃ g, f = g + 1 := ⟨f - 1, by omega⟩
      go_wp2_with fail
      refine (power_any k hc _).mono ?_
      rintro e w2 ⟨rfl, hw2⟩
      rw [hw2]
      clear hw2
      have hS6 : 10 ^ k ≤ 10 ^ 6 := Nat.pow_le_pow_right (by decide) hc
      have hS1 : 10 ^ 1 ≤ 10 ^ k := Nat.pow_le_pow_right (by decide) hk1
      obtain ⟨S, hS⟩ : ∃ S, Hid (S = 10 ^ k) := ⟨10 ^ k, (rfl : 10 ^ k = 10 ^ k)⟩
      rw [← hS.out] at hS6 hS1 ⊢
      go_wp2_with fail
      refine (digitsOf_any x S _).mono ?_
      rintro e w2 ⟨⟨n, hd, rfl⟩ | ⟨hd, rfl⟩, q2, rfl⟩
      · have hn := digitsOf_lt hd
        have HD : Hid (digitsOf x S = some n) := hd
        clear hd
        have HP : Hid (pr x 1 6 = some (k, n)) := by
          show _ = _
          rw [hpr.out]
          simp only [pr]
          rw [← hS.out, HD.out]
        clear hpr HD
        obtain ⟨N1, hN1⟩ : ∃ N1, N1 = n / S := ⟨_, rfl⟩
        obtain ⟨N2, hN2⟩ : ∃ N2, N2 = S + n % S := ⟨_, rfl⟩
        have hS0 : ¬ S = 0 := by omega
        have hS0i : ¬ (S : Int) = 0 := by omega
        have b1 : N1 ≤ 1000000000000000 := by rw [hN1]; exact Nat.le_trans (Nat.div_le_self _ _) (by omega)
        have b2 : N2 ≤ 3000000 := by have := Nat.mod_lt n (show 0 < S by omega); omega
        have f1 : IntKind.i64.wrap ((n : Int) / (S : Int)) = (N1 : Int) := by
          have e : (n : Int) / (S : Int) = (N1 : Int) := by rw [hN1]; simp
          rw [e]; rw [IntKind.wrap_i64]; omega
        have f2 : IntKind.i64.wrap ((S : Int) + (n : Int).tmod (S : Int)) = (N2 : Int) := by
          have e : (S : Int) + (n : Int).tmod (S : Int) = (N2 : Int) := by rw [hN2, Int.tmod_eq_emod_of_nonneg (by omega)]; simp
          rw [e]; rw [IntKind.wrap_i64]; omega
        obtain ⟨d1, hd1⟩ : ∃ d, Hid (d = decOf (N1 : Int)) := ⟨decOf (N1 : Int), (rfl : decOf (N1 : Int) = _)⟩
        obtain ⟨d2, hd2⟩ : ∃ d, Hid (d = decOf (N2 : Int)) := ⟨decOf (N2 : Int), (rfl : decOf (N2 : Int) = _)⟩
        have l2 : 1 ≤ d2.length := by rw [hd2.out]; exact decOf_pos _
        have l2i : (1 : Int) ≤ (d2.length : Int) := by omega
        have l3 : d2.length ≤ 21 := by rw [hd2.out]; exact decOf_len _
        have l1 : d1.length ≤ 21 := by rw [hd1.out]; exact decOf_len _
        have hsz1 : (⟨d1.toArray⟩ : ByteArray).size = d1.length := size_mk d1
        have hc1 : ¬ 9223372036854775807 < d1.length + 1 := by omega
        have hc2 : ¬ 9223372036854775807 < d1.length + 1 + (d2.length - 1) := by omega
        have HL : Hid (litOf k n = d1 ++ ([46] ++ d2.drop 1)) := by
          show _ = _
          rw [hd1.out, hd2.out, hN1, hN2, hS.out]; rfl
        have hsz : (⟨d2.toArray⟩ : ByteArray).size = d2.length := size_mk d2
        have hex : (⟨d2.toArray⟩ : ByteArray).extract 1 d2.length = ⟨(d2.drop 1).toArray⟩ := by rw [extract_list, List.take_of_length_le (by simp)]
        clear hN1 hN2 hS
        go_wp2_with fail
        go_region_held3 (fun _ => True) (trivial) (first | (go_at_call_of 198 (Value.int IntKind.i64 (N1 : Int)); refine (dec_lit N1 d1 hd1 (by omega) _).mono ?_; rintro e w3 ⟨rfl, hb3⟩) | (go_at_call_of 198 (Value.int IntKind.i64 (N2 : Int)); refine (dec_lit N2 d2 hd2 (by omega) _).mono ?_; rintro e w4 ⟨rfl, hb4⟩))
        go_wp2
        go_ret2
        refine ⟨.inl ⟨k, n, by rw [← HX.out]; exact HP.out, ?_⟩, ?_⟩
        · rw [HL.out, ← List.append_assoc, ← cat_list, ← cat_list]
          simp
        · have h3 : Below w.heap.size w w3 := (below_drewN (Below.refl _ _) _).trans hb3
          exact h3.trans (hb4.mono h3.size)
      · have HD : Hid (pr x 1 6 = pr x (k + 1) f) := by
          show _ = _
          rw [hpr.out]
          simp only [pr]
          rw [← hS.out, hd]
        clear hd hpr
        go_wp2
        go_roundw
        case rel => exact ⟨k + 1, f, by omega, by omega, by go_num, HD, _, rfl⟩
        case measure => simp [intOf]; omega
    · obtain rfl : f = 0 := by omega
      go_wp2
      go_ret2
      exact ⟨.inr ⟨by rw [← HX.out]; exact hpr.out, rfl⟩, below_drewN (Below.refl _ _) _⟩

end Go.Proofs.YtjgggmjjikopeaaGreatDoor

/- A literal's digits are found again of its real; literals and their texts. -/
namespace Go.Proofs.YtjgggmjjikopeaaGreatDoor
open Ieee
set_option linter.unusedVariables false

theorem val_HALF : ∃ h : Nat, val HALF = (h : Int) ∧ 2 * h = U := ⟨pw 1073, by decide +kernel, by decide +kernel⟩

theorem pw_2148 : pw 2148 = U * U := by
  have h : pw 2148 = pw (1074 + 1074) := pw_congr (by decide)
  rw [h, pw_add, ← U_def]

/-- The digits of a literal's real, but nought. -/
theorem digits_pos (n s : Nat) (hn : 1 ≤ n) (hn2 : n < 1000000000000000) (hs : 1 ≤ s) (hs2 : s ≤ 1000000) : digitsOf (quo n s) s = some n := by
  obtain ⟨X, x, hX, hXn, hXv, q1, q2⟩ := quo_err n s hn (by omega) hs (by omega)
  have hq : quo n s = X := hX
  have hU := U_pos
  have e54 : pw 54 = 18014398509481984 := rfl
  rw [e54] at q1 q2
  have hA : n * U ≤ 999999999999999 * U := Nat.mul_le_mul_right _ (by omega)
  have hA0 : 1 * U ≤ n * U := Nat.mul_le_mul_right _ hn
  obtain ⟨A, hAd⟩ : ∃ A, A = n * U := ⟨_, rfl⟩
  obtain ⟨V, hV⟩ : ∃ V, V = x * s := ⟨_, rfl⟩
  rw [← hAd, ← hV] at q1 q2
  rw [← hAd] at hA hA0
  have v1 : 4 * V ≤ 4 * A + U := by omega
  have v2 : 4 * A ≤ 4 * V + U := by omega
  have v0 : 1 ≤ V := by omega
  have hx0 : x ≠ 0 := by rintro rfl; rw [Nat.zero_mul] at hV; omega
  have vb : V < 1125899906842624 * U := by omega
  -- the product
  have ws := ofInt_whole (s : Int) (by omega)
  have hxs : x ≤ V := by rw [hV]; exact Nat.le_mul_of_pos_right x (by omega)
  have hXt : (val X).natAbs < TOP := by
    rw [hXv, Int.natAbs_natCast]
    have := U_top 1125899906842624 (by decide)
    omega
  obtain ⟨sg, T, base, m1, m2, m3, m4⟩ := mul_fin hXn ws.1 hXt (ws.top (by omega))
  have m3' : T * pw (base + (2148 : Nat)).toNat = V * U := by
    have : T * pw (base + 2148).toNat = V * U := by
      rw [m3, hXv, ws.abs, Int.natAbs_natCast, Int.natAbs_natCast, hV, Nat.mul_assoc]
    exact this
  have hVU : 0 < V * U := Nat.mul_pos v0 hU
  have hsg : sg = false := by
    have hpos : 0 < val X * val (ofInt (s : Int)) := by
      rw [hXv, ws.2]
      exact Int.mul_pos (by omega) (Int.mul_pos (by omega) (by omega))
    rw [m4 (by omega), decide_eq_false (by omega)]
  subst hsg
  have hT0 : T ≠ 0 := by rintro rfl; rw [Nat.zero_mul] at m3'; omega
  have e2148 : pw 2148 = U * U := pw_2148
  have hB1 : T * pw (base + (2148 : Nat)).toNat < pw (50 + 2148) := by
    rw [m3', pw_add, e2148, ← Nat.mul_assoc, show pw 50 = 1125899906842624 from rfl]
    exact Nat.mul_lt_mul_of_pos_right vb hU
  obtain ⟨v, pv, p1, p2⟩ := near_err T base 2148 hT0 (by omega) (by omega) hB1
  rw [m3', e2148, show (2148 - 1074 : Nat) = 1074 from rfl, ← U_def] at p1 p2
  have p1' : 16 * v ≤ 16 * V + U := by
    refine Nat.le_of_mul_le_mul_right (c := U) ?_ hU
    rw [Nat.add_mul, Nat.mul_assoc, Nat.mul_assoc]; exact p1
  have p2' : 16 * V ≤ 16 * v + U := by
    refine Nat.le_of_mul_le_mul_right (c := U) ?_ hU
    rw [Nat.add_mul, Nat.mul_assoc, Nat.mul_assoc]; exact p2
  clear p1 p2 hB1 m3 m3' hVU
  -- the sum
  obtain ⟨h, hh, hhU⟩ := val_HALF
  have hpn : isNan (D.nearest false T base) = false := isNan_nearest _ _ _
  have hpt : (val (D.nearest false T base)).natAbs < TOP := by
    rw [pv, Int.natAbs_natCast]
    have := U_top 1125899906842624 (by decide)
    omega
  have hht : (val HALF).natAbs < TOP := by
    rw [hh, Int.natAbs_natCast]
    have := U_top 1 (by decide)
    omega
  obtain ⟨sg2, T2, base2, a1, a2, a3, a4⟩ := add_fin hpn (show isNan HALF = false by decide) hpt hht
  rw [pv, hh] at a3 a4
  have hsg2 : sg2 = false := by rw [a4 (by omega), decide_eq_false (by omega)]
  subst hsg2
  have a3' : T2 * pw (base2 + (1074 : Nat)).toNat = v + h := by
    have : T2 * pw (base2 + 1074).toNat = v + h := by rw [a3]; omega
    exact this
  have hT20 : T2 ≠ 0 := by rintro rfl; rw [Nat.zero_mul] at a3'; omega
  have hB2 : T2 * pw (base2 + (1074 : Nat)).toNat < pw (50 + 1074) := by
    rw [a3', pw_add, ← U_def, show pw 50 = 1125899906842624 from rfl]
    omega
  obtain ⟨y, yv, y1, y2⟩ := near_err T2 base2 1074 hT20 (by omega) (by omega) hB2
  rw [a3', Nat.sub_self, show pw 0 = 1 from rfl, Nat.mul_one, ← U_def] at y1 y2
  have f1 : A ≤ y := by omega
  have f2 : y < A + U := by omega
  -- what is told
  have hyn : isNan (D.nearest false T2 base2) = false := isNan_nearest _ _ _
  have hnear : nearOf X s = some (D.nearest false T2 base2) := by
    unfold nearOf
    rw [m1]
    exact a1
  have htr : (trunc (val (D.nearest false T2 base2))).toNat = n := by
    rw [yv]
    unfold trunc
    rw [if_neg (by omega), Int.natAbs_natCast, ← U_def]
    have : y / U = n := by
      refine Nat.div_eq_of_lt_le (by rw [← hAd]; exact f1) ?_
      rw [Nat.add_mul, ← hAd, Nat.one_mul]; exact f2
    rw [this]; rfl
  have hE : val (D.nearest false T2 base2) < val E15 := by
    rw [yv, val_E15, ← U_def]
    omega
  rw [hq]
  unfold digitsOf
  rw [hnear]
  simp only
  rw [if_pos ⟨hyn, by rw [yv]; omega, hE⟩, htr, if_pos]
  rw [hq, home_real hXn]

theorem digits_zero (k : Nat) (h1 : 1 ≤ k) (h6 : k ≤ 6) : digitsOf (quo 0 (10 ^ k)) (10 ^ k) = some 0 := by
  have : k = 1 ∨ k = 2 ∨ k = 3 ∨ k = 4 ∨ k = 5 ∨ k = 6 := by omega
  rcases this with rfl | rfl | rfl | rfl | rfl | rfl <;> decide +kernel

theorem scale_bounds (k : Nat) (h6 : k ≤ 6) : 1 ≤ 10 ^ k ∧ 10 ^ k ≤ 1000000 :=
  ⟨Nat.pow_pos (by decide), show 10 ^ k ≤ 10 ^ 6 from Nat.pow_le_pow_right (by decide) h6⟩

/-- A literal's digits are found again of its real. -/
theorem digits_complete (n k : Nat) (h1 : 1 ≤ k) (h6 : k ≤ 6) (hn : n < 1000000000000000) : digitsOf (quo n (10 ^ k)) (10 ^ k) = some n := by
  by_cases h0 : n = 0
  · subst h0; exact digits_zero k h1 h6
  · have := scale_bounds k h6
    exact digits_pos n (10 ^ k) (by omega) hn this.1 this.2

/-- What digitsOf finds is a literal's. -/
theorem digits_sound {x s n : Nat} (h : digitsOf x s = some n) : quo n s = home x ∧ n < 1000000000000000 := by
  refine ⟨?_, digitsOf_lt h⟩
  unfold digitsOf at h
  split at h
  · cases h
  · split at h
    · split at h
      · rename_i hq
        cases h
        exact hq
      · cases h
    · cases h

theorem quo_home (n s : Nat) : home (quo n s) = quo n s := isNan_told _
theorem quo_lt (n s : Nat) : quo n s < 18446744073709551616 := told_lt (fun x h => D.div_lt h)

end Go.Proofs.YtjgggmjjikopeaaGreatDoor

/- Literals: a text that is one is the literal of its digits, and the literal of any digits is one. -/
namespace Go.Proofs.YtjgggmjjikopeaaGreatDoor
set_option linter.unusedVariables false

theorem foldl_dec (l : List UInt8) : ∀ acc : Nat, l.foldl (fun n c => n * 10 + (c.toNat - 48)) acc = acc * 10 ^ l.length + decVal l := by
  induction l with
  | nil => intro acc; simp [decVal]
  | cons c l ih =>
    intro acc
    have h1 := ih (acc * 10 + (c.toNat - 48))
    have h2 := ih (0 * 10 + (c.toNat - 48))
    simp only [decVal, List.foldl_cons, List.length_cons] at h1 h2 ⊢
    rw [h1, h2, Nat.pow_succ, Nat.add_mul, Nat.add_mul, Nat.zero_mul]
    rw [Nat.mul_assoc, Nat.mul_comm 10]
    omega

theorem decVal_cons (c : UInt8) (l : List UInt8) : decVal (c :: l) = (c.toNat - 48) * 10 ^ l.length + decVal l := by
  have := foldl_dec l (0 * 10 + (c.toNat - 48))
  unfold decVal at this ⊢
  rw [List.foldl_cons, this]
  simp

theorem digits_lt (l : List UInt8) (h : ∀ j, j < l.length → 48 ≤ (l.getD j 0).toNat ∧ (l.getD j 0).toNat ≤ 57) : decVal l < 10 ^ l.length := by
  have := val_lt l l.length (Nat.le_refl _) h
  rwa [List.take_of_length_le (Nat.le_refl _)] at this

theorem tail_digits {c : UInt8} {l : List UInt8} (h : GoodDec (c :: l)) : ∀ j, j < l.length → 48 ≤ (l.getD j 0).toNat ∧ (l.getD j 0).toNat ≤ 57 := by
  intro j hj
  have := h.2.2.1 (j + 1) (by simp; omega)
  simpa using this

theorem one_lt {b : List UInt8} (h : GoodDec (49 :: b)) : decVal (49 :: b) = 10 ^ b.length + decVal b ∧ decVal b < 10 ^ b.length := by
  refine ⟨?_, digits_lt b (tail_digits h)⟩
  rw [decVal_cons]
  simp

theorem decOf_good {l : List UInt8} (h : GoodDec l) : decOf ((decVal l : Nat) : Int) = l := by
  unfold decOf
  rw [if_neg (by omega), Int.natAbs_natCast]
  exact digs_of_good l h

theorem decOf_nat (n : Nat) : decOf (n : Int) = digs 19 n := by
  unfold decOf
  rw [if_neg (by omega), Int.natAbs_natCast]

theorem lit_split {l : List UInt8} (h : IsLit l) : l = aheadOf l ++ 46 :: behindOf l := by
  by_cases hi : 0 ≤ Lib.indexByte l 46
  · exact (cut_some l hi).2
  · have ge := Lib.indexByte_ge l 46
    have := (cut_none l (by omega)).2
    have h1 := h.1
    rw [this] at h1
    simp at h1

/-- A text that is a literal is the literal of its digits. -/
theorem lit_self {l : List UInt8} (h : IsLit l) : litOf (behindOf l).length (litNum l) = l ∧ litNum l < 1000000000000000 ∧ litNum l / 10 ^ (behindOf l).length = decVal (aheadOf l) := by
  have hs := lit_split h
  obtain ⟨h1, h2, h3, h4, h5⟩ := h
  obtain ⟨e1, e2⟩ := one_lt h5
  have hp : 0 < 10 ^ (behindOf l).length := Nat.pow_pos (by decide)
  have hn : litNum l = decVal (aheadOf l) * 10 ^ (behindOf l).length + decVal (behindOf l) := by
    unfold litNum; rw [e1]; omega
  have hd : litNum l / 10 ^ (behindOf l).length = decVal (aheadOf l) := by
    rw [hn, Nat.mul_comm, Nat.mul_add_div hp, Nat.div_eq_of_lt e2, Nat.add_zero]
  have hm : litNum l % 10 ^ (behindOf l).length = decVal (behindOf l) := by
    rw [hn, Nat.mul_comm, Nat.mul_add_mod, Nat.mod_eq_of_lt e2]
  refine ⟨?_, ?_, hd⟩
  · unfold litOf
    rw [hd, hm, decOf_good h4, ← e1, decOf_good h5]
    conv => rhs; rw [hs]
    simp
  · have ha := good_lt h4
    have : litNum l < 10 ^ ((aheadOf l).length + (behindOf l).length) := by
      rw [hn, Nat.pow_add]
      have h6 : (decVal (aheadOf l) + 1) * 10 ^ (behindOf l).length ≤ 10 ^ (aheadOf l).length * 10 ^ (behindOf l).length := Nat.mul_le_mul_right _ ha
      rw [Nat.add_mul, Nat.one_mul] at h6
      omega
    exact Nat.lt_of_lt_of_le this (show _ ≤ 10 ^ 15 from Nat.pow_le_pow_right (by decide) h3)

theorem no_point (f n : Nat) : ∀ c ∈ digs f n, (c != 46) = true := by
  intro c hc
  have := (digs_digit f n c hc).1
  rw [bne_iff_ne]
  rintro rfl
  simp at this

theorem cut_at (a b : List UInt8) (h : ∀ c ∈ a, (c != 46) = true) : aheadOf (a ++ 46 :: b) = a ∧ behindOf (a ++ 46 :: b) = b := by
  induction a with
  | nil => exact ⟨rfl, rfl⟩
  | cons c a ih =>
    have hc := h c (by simp)
    obtain ⟨i1, i2⟩ := ih (fun x hx => h x (by simp [hx]))
    refine ⟨?_, ?_⟩
    · unfold aheadOf at i1 ⊢; rw [List.cons_append, List.takeWhile_cons, if_pos hc, i1]
    · unfold behindOf at i2 ⊢; rw [List.cons_append, List.dropWhile_cons, if_pos hc, i2]

theorem digs_size (n L : Nat) (hn : n ≤ 9223372036854775807) (h1 : 1 ≤ L) (h : n < 10 ^ L) : (digs 19 n).length ≤ L := by
  obtain ⟨g, hv⟩ := good_digs n hn
  by_cases h0 : n = 0
  · subst h0; simp [digs_small]; omega
  · have hd := digs_head 19 n (by omega) (Nat.lt_of_le_of_lt hn (by decide))
    have hl := g.1
    have := val_ge (digs 19 n) hl g.2.2.1 hd ((digs 19 n).length - 1) (by omega)
    rw [show (digs 19 n).length - 1 + 1 = (digs 19 n).length by omega, List.take_of_length_le (Nat.le_refl _), hv] at this
    have h2 : 10 ^ ((digs 19 n).length - 1) < 10 ^ L := Nat.lt_of_le_of_lt this h
    have := (Nat.pow_lt_pow_iff_right (show 1 < 10 by decide)).1 h2
    omega

/-- The digits behind the point, with a 1 ahead. -/
theorem behind_one (k r : Nat) (h6 : k ≤ 6) (hr : r < 10 ^ k) : ∃ b, decOf ((10 ^ k + r : Nat) : Int) = 49 :: b ∧ b.length = k ∧ GoodDec (49 :: b) ∧ decVal (49 :: b) = 10 ^ k + r := by
  have hs := scale_bounds k h6
  rw [decOf_nat]
  obtain ⟨g, hv⟩ := good_digs (10 ^ k + r) (by omega)
  have hlen : (digs 19 (10 ^ k + r)).length ≤ k + 1 := digs_size _ (k + 1) (by omega) (by omega) (by rw [Nat.pow_succ]; omega)
  have hlen2 : k + 1 ≤ (digs 19 (10 ^ k + r)).length := by
    have := good_lt g
    rw [hv] at this
    have h2 : 10 ^ k < 10 ^ (digs 19 (10 ^ k + r)).length := by omega
    have := (Nat.pow_lt_pow_iff_right (show 1 < 10 by decide)).1 h2
    omega
  generalize digs 19 (10 ^ k + r) = d at g hv hlen hlen2 ⊢
  cases d with
  | nil => simp at hlen2
  | cons c b =>
    have hbl : b.length = k := by simp at hlen hlen2; omega
    have hb := digits_lt b (tail_digits g)
    rw [hbl] at hb
    have hcv := decVal_cons c b
    rw [hv, hbl] at hcv
    have hc0 := g.2.2.1 0 (by simp)
    simp at hc0
    have hc1 : c.toNat - 48 = 1 := by
      have hp : 0 < 10 ^ k := by omega
      generalize c.toNat - 48 = x at hcv
      generalize decVal b = y at hcv hb
      generalize 10 ^ k = P at *
      rcases Nat.lt_or_ge x 1 with h | h
      · obtain rfl : x = 0 := by omega
        simp at hcv; omega
      · rcases Nat.lt_or_ge 1 x with h2 | h2
        · exfalso
          have : 2 * P ≤ x * P := Nat.mul_le_mul_right _ h2
          omega
        · omega
    have hc : c = 49 := by
      apply UInt8.toNat_inj.1
      show c.toNat = 49
      omega
    subst hc
    exact ⟨b, rfl, hbl, g, hv⟩

/-- The literal of any digits is one, and has these. -/
theorem litOf_lit (k n : Nat) (h1 : 1 ≤ k) (h6 : k ≤ 6) (hn : n < 1000000000000000) : IsLit (litOf k n) ∧ (behindOf (litOf k n)).length = k ∧ litNum (litOf k n) = n ∧ aheadOf (litOf k n) = digs 19 (n / 10 ^ k) := by
  have hs := scale_bounds k h6
  have hp : 0 < 10 ^ k := by omega
  obtain ⟨b, hb, hbl, hg, hv⟩ := behind_one k (n % 10 ^ k) h6 (Nat.mod_lt _ hp)
  have hN : n / 10 ^ k ≤ 9223372036854775807 := Nat.le_trans (Nat.div_le_self _ _) (by omega)
  obtain ⟨g, gv⟩ := good_digs (n / 10 ^ k) hN
  have he : litOf k n = digs 19 (n / 10 ^ k) ++ 46 :: b := by
    unfold litOf
    rw [hb, decOf_nat]
    simp
  obtain ⟨c1, c2⟩ := cut_at (digs 19 (n / 10 ^ k)) b (no_point _ _)
  rw [← he] at c1 c2
  have hlen : (digs 19 (n / 10 ^ k)).length ≤ 15 - k := by
    refine digs_size _ _ hN (by omega) ?_
    rw [Nat.div_lt_iff_lt_mul hp, ← Nat.pow_add, show 15 - k + k = 15 by omega]
    exact hn
  refine ⟨⟨by rw [c2]; omega, by rw [c2]; omega, by rw [c1, c2]; omega, by rw [c1]; exact g, by rw [c2]; exact hg⟩, by rw [c2, hbl], ?_, c1⟩
  unfold litNum
  rw [c1, c2, hbl, hv, gv]
  have := Nat.div_add_mod n (10 ^ k)
  rw [Nat.mul_comm] at this
  omega

/-- What Print finds. -/
theorem pr_sound : ∀ (f k j n x : Nat), pr x k f = some (j, n) → k ≤ j ∧ j < k + f ∧ digitsOf x (10 ^ j) = some n := by
  intro f
  induction f with
  | zero => intro k j n x h; cases h
  | succ f ih =>
    intro k j n x h
    simp only [pr] at h
    split at h
    · rename_i m hm
      cases h
      exact ⟨Nat.le_refl _, by omega, hm⟩
    · have := ih (k + 1) j n x h
      exact ⟨by omega, by omega, this.2.2⟩

theorem pr_complete : ∀ (f k j n x : Nat), k ≤ j → j < k + f → digitsOf x (10 ^ j) = some n → ∃ j' n', pr x k f = some (j', n') ∧ j' ≤ j := by
  intro f
  induction f with
  | zero => intro k j n x h1 h2; omega
  | succ f ih =>
    intro k j n x h1 h2 hd
    simp only [pr]
    cases hk : digitsOf x (10 ^ k) with
    | some m => exact ⟨k, m, rfl, h1⟩
    | none =>
      have hne : k ≠ j := by rintro rfl; rw [hk] at hd; cases hd
      exact ih (k + 1) j n x (by omega) (by omega) hd

end Go.Proofs.YtjgggmjjikopeaaGreatDoor
