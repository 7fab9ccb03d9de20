/- J -/
import Derived.Test.YtjgggmjjikopeaaGreatDoorJ4
import Derived.Test.YtjgggmjjikopeaaGreatDoorJ5
set_option linter.unusedVariables false
set_option maxRecDepth 100000
set_option maxHeartbeats 6400000
open Go.RowKit
namespace Go.Proofs.YtjgggmjjikopeaaGreatDoor
theorem jr (k : Nat) (hk : k <= 6) (w : World) : Calls Tryz.prog 159 #[.int .i64 (k : Int)] w fun e w' => e = .returned (.int .i64 ((10 ^ k : Nat) : Int)) /\ w' = w := by
 go_enter Tryz.func159, Tryz.ntmps159
 go_wp2
 go_loopw [3, 5] (fun p i wr => ∃ j : Nat, j <= k /\ p = .int .i64 ((10 ^ j : Nat) : Int) /\ i = .int .i64 (j : Int) /\ wr = w) (fun _ i _ => (k : Int).toNat - (intOf i).toNat)
 case atStart => exact ⟨0, by omega, rfl, rfl, rfl⟩
 case round =>
  obtain ⟨j, hj, rfl, rfl, rfl⟩ := hrel
  by_cases hc : j < k
  ·have hp : 10 ^ j <= 100000 := Nat.pow_le_pow_right (show 0 < 10 by decide) (show j <= 5 by omega)
   have hs : 10 ^ (j + 1) = 10 ^ j * 10 := Nat.pow_succ 10 j
   have HS : Hid (10 ^ (j + 1) = 10 ^ j * 10) := hs
   clear hs
   obtain ⟨P, hP⟩ : ∃ P, Hid (P = 10 ^ j) := ⟨10 ^ j, (rfl : 10 ^ j = 10 ^ j)⟩
   rw [<- hP.out] at hp ⊢
   go_wp2
   go_roundw
   case rel => exact ⟨j + 1, by omega, (by rw [HS.out, <- hP.out]; go_num), by go_num, trivial⟩
   case measure => simp [intOf]; omega
  ·obtain rfl : j = k := by omega
   go_wp2
   go_ret
   exact ⟨rfl, rfl⟩
def quo (n s : Nat) : Nat := zgJ (JC (n : Int)) (JC (s : Int))
theorem VR (n s : Nat) (w : World) : Calls Tryz.prog 160 #[.int .i64 (n : Int), .int .i64 (s : Int)] w fun e w' => e = .returned (.int .u64 (quo n s : Nat)) /\ ∃ q, w' = w.drewN q := by
 obtain ⟨x, q, hx, hop⟩ := Vg (P := Tryz.prog) w .quo (.inr (.inr (.inr rfl))) (floatOfInt .f64 n) (floatOfInt .f64 s)
 have hx' : yT x = quo n s := hx
 clear hx
 go_enter Tryz.func160, Tryz.ntmps160
 go_wp2_with fail
 refine (Xx x _).mono ?_
 rintro e w1 ⟨rfl, rfl⟩
 rw [hx']
 go_wp2
 go_ret
 exact ⟨rfl, q, rfl⟩
instance (l : List UInt8) : Decidable (zO l) := by unfold zO; infer_instance
def yO (l : List UInt8) : Prop := 1 <= (zu l).length /\ (zu l).length <= 6 /\ (zw l).length + (zu l).length <= 15 /\ zO (zw l) /\ zO (49 :: zu l)
instance (l : List UInt8) : Decidable (yO l) := by unfold yO; infer_instance
def yE (l : List UInt8) : Nat := zn (zw l) * 10 ^ (zu l).length + zn (49 :: zu l) - 10 ^ (zu l).length
def YO (l : List UInt8) (e : Ending) : Prop :=
 (yO l /\ e = .returned (.tuple #[.int .u64 (quo (yE l) (10 ^ (zu l).length) : Nat), .int .i64 0])) \/ (¬ yO l /\ e = .returned (.tuple #[.int .u64 0, .int .i64 4]))
theorem X0 (x y : List UInt8) : ((⟨x.toArray⟩ : ByteArray) ++ (⟨y.toArray⟩ : ByteArray)) = ⟨(x ++ y).toArray⟩ := by
 apply ByteArray.ext
 simp
theorem qt {l : List UInt8} (h : zO l) : zn l < 10 ^ l.length := by
 have := za5 l l.length (zj _) h.2.2.1
 rwa [List.take_of_length_le (zj _)] at this
theorem zgs {b : List UInt8} (h : zO (49 :: b)) : 10 ^ b.length <= zn (49 :: b) := by
 have := jM (49 :: b) h.1 h.2.2.1 (by simp) b.length (by simp)
 rwa [List.take_of_length_le (by simp)] at this
def zdA : Nat := 4602678819172646912
def E15 : Nat := 4831355200913801216
def Jd (x s : Nat) : Option Nat := match D.mul x (JC (s : Int)) with
 | none => none
 | some p => D.add p zdA
def Zz (x s : Nat) : Option Nat := match Jd x s with
 | none => none
 | some y => if zX y = false /\ 0 <= val y /\ val y < val E15 then (if quo (VG (val y)).toNat s = yT x then some (VG (val y)).toNat else none) else none
def zbV (x s : Nat) (e : Ending) : Prop :=
 (∃ n : Nat, Zz x s = some n /\ e = .returned (.tuple #[.int .i64 (n : Int), .bool true])) \/ (Zz x s = none /\ e = .returned (.tuple #[.int .i64 0, .bool false]))
theorem zdH : val 0 = 0 := by decide +kernel
theorem zbZ : val E15 = ((1000000000000000 * pw 1074 : Nat) : Int) := by decide +kernel
theorem zed (x s : Nat) (w : World) : ∃ p y q1 q2, (∀ t, (binOp .mul t (.float .f64 x) (.float .f64 (floatOfInt .f64 s))).run Tryz.prog w = .ok (.float .f64 p) (w.drewN q1)) /\
  (∀ t, (binOp .add t (.float .f64 p) (.float .f64 4602678819172646912)).run Tryz.prog (w.drewN q1) = .ok (.float .f64 y) (w.drewN q2)) /\ (Jd x s = some y \/ (Jd x s = none /\ zX y = true)) := by
 cases h : floatBits .mul .f64 x (floatOfInt .f64 s) with
 | none =>
  have h' : D.mul x (JC (s : Int)) = none := h
  obtain ⟨p, hn, _, hr⟩ := Z9 (P := Tryz.prog) w .mul (.inr (.inr (.inl rfl))) _ _ h
  obtain ⟨y, hy, _, hr2⟩ := Z9 (P := Tryz.prog) w.drew .add (.inl rfl) p zdA (zfZ (.inl hn))
  refine ⟨p, y, 1, 2, fun t => hr t, fun t => hr2 t, .inr ⟨by simp [Jd, h'], hy⟩⟩
 | some p =>
  have h' : D.mul x (JC (s : Int)) = some p := h
  have hr := fun t => run_float_arith (P := Tryz.prog) w .mul t .f64 _ _ p h
  cases h2 : floatBits .add .f64 p zdA with
  | none =>
   have h2' : D.add p zdA = none := h2
   obtain ⟨y, hy, _, hr2⟩ := Z9 (P := Tryz.prog) w .add (.inl rfl) p zdA h2
   exact ⟨p, y, 0, 1, fun t => hr t, fun t => hr2 t, .inr ⟨by simp [Jd, h', h2'], hy⟩⟩
  | some y =>
   have h2' : D.add p zdA = some y := h2
   have hr2 := fun t => run_float_arith (P := Tryz.prog) w .add t .f64 _ _ y h2
   exact ⟨p, y, 0, 0, fun t => hr t, fun t => hr2 t, .inl (by simp [Jd, h', h2'])⟩
theorem VF {v : Int} (h0 : 0 <= v) (h1 : v < val E15) : 0 <= VG v /\ VG v < 1000000000000000 := by
 rw [zbZ] at h1
 unfold VG
 rw [ze (by omega)]
 have hp := ZZ 1074
 generalize pw 1074 = K at h1 hp ⊢
 have : v.natAbs / K < 1000000000000000 := (Nat.div_lt_iff_lt_mul hp).2 (by omega)
 generalize v.natAbs / K = z at this ⊢
 omega
theorem zbU : val E15 < val B63 := by
 rw [zbZ, jO]
 have hp := ZZ 1074
 generalize pw 1074 = K at hp ⊢
 omega
theorem qB (x s : Nat) (w : World) : Calls Tryz.prog 197 #[.float .f64 x, .int .i64 (s : Int)] w fun e w' => zbV x s e /\ ∃ q, w' = w.drewN q := by
 obtain ⟨p, y, q1, q2, hop1, hop2, hy⟩ := zed x s w
 have fin : (hn : zX y = true \/ (zX y = false /\ ¬ (0 <= val y /\ val y < val E15))) -> Zz x s = none := by
  intro hn
  rcases hy with hy | ⟨hy, _⟩
  ·simp only [Zz, hy]
   rw [ze]
   rintro ⟨h1, h2, h3⟩
   rcases hn with hn | ⟨_, hn⟩
   ·rw [hn] at h1; cases h1
   ·exact hn ⟨h2, h3⟩
  ·simp only [Zz, hy]
 cases hn : zX y
 ·have e1 : (FloatKind.f64.format.order y 0 == some .gt || FloatKind.f64.format.order y 0 == some .eq) = decide (val 0 <= val y) := zgF (c := 0) hn (by decide)
  have e2 : (FloatKind.f64.format.order y 4831355200913801216 == some .lt) = decide (val y < val E15) := zgx (c := E15) hn (by decide)
  rw [zdH] at e1
  by_cases c1 : 0 <= val y
  ·rw [yy c1] at e1
   by_cases c2 : val y < val E15
   ·rw [yy c2] at e2
    have hb := VF c1 c2
    have hw := zcB hn (Int.lt_trans c2 zbU) (by rw [jN]; omega)
    obtain ⟨n, hnn⟩ : ∃ n : Nat, n = (VG (val y)).toNat := ⟨_, rfl⟩
    have htr : VG (val y) = (n : Int) := by omega
    rw [htr] at hw
    have hcv : ∀ w, (convert 182 3 (.float .f64 y)).run Tryz.prog w = .ok (.int .i64 (n : Int)) w := fun w => run_convert_float_int w 182 3 .f64 .i64 y _ (by rw [Tryz.underlying182]; rfl) Tryz.underlying3 hw
    have hd : Hid (Zz x s = if quo n s = yT x then some n else none) := by
     rcases hy with hy | ⟨hy, h2⟩
     ·show Zz x s = _
      simp only [Zz, hy]
      rw [zi ⟨hn, c1, c2⟩, hnn]
     ·rw [hn] at h2; cases h2
    clear hw hy fin c1 c2 htr hnn hb
    by_cases hq : quo n s = yT x
    focus
     have hqi : (((quo n s : Nat) : Int) != ((yT x : Nat) : Int)) = false := by rw [hq]; simp
    rotate_left
    focus
     have hqi : (((quo n s : Nat) : Int) != ((yT x : Nat) : Int)) = true := by rw [bne_iff_ne]; omega
    rotate_left
    all_goals
     go_enter Tryz.func197, Tryz.ntmps197
     go_wp2_with fail
     refine (VR n s _).mono ?_
     rintro e w1 ⟨rfl, q3, rfl⟩
     go_wp2_with fail
     refine (Xx x _).mono ?_
     rintro e w1 ⟨rfl, rfl⟩
     go_wp2
     go_ret2
    ·exact ⟨.inl ⟨n, by rw [hd.out, zi hq], rfl⟩, _, rfl⟩
    ·exact ⟨.inr ⟨by rw [hd.out, ze hq], rfl⟩, _, rfl⟩
   ·rw [zN c2] at e2
    have hd := fin (.inr ⟨hn, fun h => c2 h.2⟩)
    clear fin hy
    go_enter Tryz.func197, Tryz.ntmps197
    go_wp2
    go_ret2
    exact ⟨.inr ⟨hd, rfl⟩, _, rfl⟩
  ·rw [zN c1] at e1
   have hd := fin (.inr ⟨hn, fun h => c1 h.1⟩)
   clear fin hy
   go_enter Tryz.func197, Tryz.ntmps197
   go_wp2
   go_ret2
   exact ⟨.inr ⟨hd, rfl⟩, _, rfl⟩
 ·have e1 : (FloatKind.f64.format.order y 0 == some .gt || FloatKind.f64.format.order y 0 == some .eq) = false := zgw (.inl hn)
  have hd := fin (.inl hn)
  clear fin hy
  go_enter Tryz.func197, Tryz.ntmps197
  go_wp2
  go_ret2
  exact ⟨.inr ⟨hd, rfl⟩, _, rfl⟩
theorem zaS {x s n : Nat} (h : Zz x s = some n) : n < 1000000000000000 := by
 unfold Zz at h
 split at h
 ·cases h
 ·split at h
  ·rename_i hc
   split at h
   ·cases h
    have := VF hc.2.1 hc.2.2
    omega
   ·cases h
  ·cases h
def XD (k n : Nat) : List UInt8 := YA ((n / 10 ^ k : Nat) : Int) ++ ([46] ++ (YA ((10 ^ k + n % 10 ^ k : Nat) : Int)).drop 1)
def pr (x : Nat) : Nat -> Nat -> Option (Nat × Nat)
 | _, 0 => none
 | k, f + 1 => match Zz x (10 ^ k) with
  | some n => some (k, n)
  | none => pr x (k + 1) f
def zdz (x : Nat) (e : Ending) : Prop :=
 (∃ k n : Nat, pr x 1 6 = some (k, n) /\ e = .returned (.tuple #[.string ⟨(XD k n).toArray⟩, .int .i64 0])) \/ (pr x 1 6 = none /\ e = .returned (.tuple #[.string ⟨#[]⟩, .int .i64 2]))
theorem zck (N : Nat) (d : List UInt8) (hd : Hid (d = YA (N : Int))) (hN : N <= 9223372036854775807) (w : World) :
  Calls Tryz.prog 198 #[.int .i64 (N : Int)] w fun e w' => e = .returned (.string ⟨d.toArray⟩) /\ Below w.heap.size w w' := by
 rw [hd.out]
 exact zfO N w (by omega) (by omega)
theorem zeH (f n : Nat) : 1 <= (ZF f n).length := by
 cases f with
 | zero => simp [ZF]
 | succ f => simp only [ZF]; split <;> simp
theorem zeI (f : Nat) : ∀ n, (ZF f n).length <= f + 1 := by
 induction f with
 | zero => intro n; simp [ZF]
 | succ f ih =>
  intro n
  simp only [ZF]
  split
  ·simp
  ·have := ih (n / 10)
   simp
   omega
theorem Va (n : Int) : (YA n).length <= 21 := by
 unfold YA
 have := zeI 19 n.natAbs
 split
 ·simp; omega
 ·omega
theorem zdk (n : Int) : 1 <= (YA n).length := by
 unfold YA
 split
 ·simp
 ·exact zeH _ _
theorem jq (a : Nat) (w : World) : Calls Tryz.prog 174 #[.int .u64 (a : Int)] w fun e w' => zdz (yT a) e /\ Below w.heap.size w w' := by
 go_enter Tryz.func174, Tryz.ntmps174
 go_wp2_with fail
 refine (Kj a _).mono ?_
 rintro e w1 ⟨rfl, hw1⟩
 rw [hw1]
 clear hw1
 obtain ⟨x, hx⟩ : ∃ x, x = yT a := ⟨_, rfl⟩
 rw [<- hx]
 have HX : Hid (x = yT a) := hx
 clear hx
 go_wp2
 go_loopw [5] (fun i wr => ∃ k f : Nat, 1 <= k /\ k + f = 7 /\ i = .int .i64 (k : Int) /\ Hid (pr x 1 6 = pr x k f) /\ ∃ q, wr = w.drewN q) (fun i _ => 8 - (intOf i).toNat)
 case atStart => exact ⟨1, 6, by omega, rfl, rfl, (rfl : pr x 1 6 = pr x 1 6), 0, rfl⟩
 case round =>
  obtain ⟨k, f, hk1, hkf, rfl, hpr, q, rfl⟩ := hrel
  by_cases hc : k <= 6
  ·obtain ⟨f, rfl⟩ : ∃ g, f = g + 1 := ⟨f - 1, by omega⟩
   go_wp2_with fail
   refine (jr k hc _).mono ?_
   rintro e w2 ⟨rfl, hw2⟩
   rw [hw2]
   clear hw2
   have hS6 : 10 ^ k <= 10 ^ 6 := Nat.pow_le_pow_right (by decide) hc
   have hS1 : 10 ^ 1 <= 10 ^ k := Nat.pow_le_pow_right (by decide) hk1
   obtain ⟨S, hS⟩ : ∃ S, Hid (S = 10 ^ k) := ⟨10 ^ k, (rfl : 10 ^ k = 10 ^ k)⟩
   rw [<- hS.out] at hS6 hS1 ⊢
   go_wp2_with fail
   refine (qB x S _).mono ?_
   rintro e w2 ⟨⟨n, hd, rfl⟩ | ⟨hd, rfl⟩, q2, rfl⟩
   ·have hn := zaS hd
    have HD : Hid (Zz x S = some n) := hd
    clear hd
    have HP : Hid (pr x 1 6 = some (k, n)) := by
     show _ = _
     rw [hpr.out]
     simp only [pr]
     rw [<- hS.out, HD.out]
    clear hpr HD
    obtain ⟨N1, hN1⟩ : ∃ N1, N1 = n / S := ⟨_, rfl⟩
    obtain ⟨N2, hN2⟩ : ∃ N2, N2 = S + n % S := ⟨_, rfl⟩
    have hS0 : ¬ S = 0 := by omega
    have hS0i : ¬ (S : Int) = 0 := by omega
    have b1 : N1 <= 1000000000000000 := by rw [hN1]; exact zQ (Nat.div_le_self _ _) (by omega)
    have b2 : N2 <= 3000000 := by have := Nat.mod_lt n (show 0 < S by omega); omega
    have f1 : IntKind.i64.wrap ((n : Int) / (S : Int)) = (N1 : Int) := by
     have e : (n : Int) / (S : Int) = (N1 : Int) := by rw [hN1]; simp
     rw [e]; rw [IntKind.wrap_i64]; omega
    have f2 : IntKind.i64.wrap ((S : Int) + (n : Int).tmod (S : Int)) = (N2 : Int) := by
     have e : (S : Int) + (n : Int).tmod (S : Int) = (N2 : Int) := by rw [hN2, Int.tmod_eq_emod_of_nonneg (by omega)]; simp
     rw [e]; rw [IntKind.wrap_i64]; omega
    obtain ⟨d1, hd1⟩ : ∃ d, Hid (d = YA (N1 : Int)) := ⟨YA (N1 : Int), (rfl : YA (N1 : Int) = _)⟩
    obtain ⟨d2, hd2⟩ : ∃ d, Hid (d = YA (N2 : Int)) := ⟨YA (N2 : Int), (rfl : YA (N2 : Int) = _)⟩
    have l2 : 1 <= d2.length := by rw [hd2.out]; exact zdk _
    have l2i : (1 : Int) <= (d2.length : Int) := by omega
    have l3 : d2.length <= 21 := by rw [hd2.out]; exact Va _
    have l1 : d1.length <= 21 := by rw [hd1.out]; exact Va _
    have hsz1 : (⟨d1.toArray⟩ : ByteArray).size = d1.length := Xo d1
    have hc1 : ¬ 9223372036854775807 < d1.length + 1 := by omega
    have hc2 : ¬ 9223372036854775807 < d1.length + 1 + (d2.length - 1) := by omega
    have HL : Hid (XD k n = d1 ++ ([46] ++ d2.drop 1)) := by
     show _ = _
     rw [hd1.out, hd2.out, hN1, hN2, hS.out]; rfl
    have hsz : (⟨d2.toArray⟩ : ByteArray).size = d2.length := Xo d2
    have hex : (⟨d2.toArray⟩ : ByteArray).extract 1 d2.length = ⟨(d2.drop 1).toArray⟩ := by rw [Xt, List.take_of_length_le (by simp)]
    clear hN1 hN2 hS
    go_wp2_with fail
    go_region_held3 (fun _ => True) (trivial) (first | (go_at_call_of 198 (Value.int IntKind.i64 (N1 : Int)); refine (zck N1 d1 hd1 (by omega) _).mono ?_; rintro e w3 ⟨rfl, hb3⟩) | (go_at_call_of 198 (Value.int IntKind.i64 (N2 : Int)); refine (zck N2 d2 hd2 (by omega) _).mono ?_; rintro e w4 ⟨rfl, hb4⟩))
    go_wp2
    go_ret2
    refine ⟨.inl ⟨k, n, by rw [<- HX.out]; exact HP.out, ?_⟩, ?_⟩
    ·rw [HL.out, <- X4, <- X0, <- X0]
     simp
    ·have h3 : Below w.heap.size w w3 := (below_drewN (Below.refl _ _) _).trans hb3
     exact h3.trans (hb4.mono h3.size)
   ·have HD : Hid (pr x 1 6 = pr x (k + 1) f) := by
     show _ = _
     rw [hpr.out]
     simp only [pr]
     rw [<- hS.out, hd]
    clear hd hpr
    go_wp2
    go_roundw
    case rel => exact ⟨k + 1, f, by omega, by omega, by go_num, HD, _, rfl⟩
    case measure => simp [intOf]; omega
  ·obtain rfl : f = 0 := by omega
   go_wp2
   go_ret2
   exact ⟨.inr ⟨by rw [<- HX.out]; exact hpr.out, rfl⟩, below_drewN (Below.refl _ _) _⟩
