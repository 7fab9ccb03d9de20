/- The walk of the law OctetNumbers over the contracts of what it calls. -/
import Derived.Test.YtjjojlfhliecnaaBytes
import Derived.Test.YtjjojlfhliecnaaNumber
import Derived.Test.YtjjojlfhliecnaaRefReadShort
import Derived.Test.YtjjojlfhliecnaaReadDec
import Derived.Test.YtjjojlfhliecnaaRefDec
import Derived.WalkSmall
namespace Go.Proofs.Ytjjojlfhliecnaa
open Go.RowKit
set_option linter.unusedVariables false

theorem drewN_below (w : World) (q : Nat) : Below w.heap.size w (w.drewN q) := ⟨rfl, rfl, rfl, Nat.le_refl _, fun _ _ => rfl⟩

/-- octet.Bytes, whatever is asked of it. -/
theorem bytes_all (n : Nat) (s : Int) (w : World) (hn : n < 18446744073709551616) :
    Calls Try.prog 10 #[.int .u64 n, .int .i64 s] w fun e w' => ∃ (ax : Option Addr) (lx cx : Nat) (E : Int), e = .returned (.tuple #[.slice ax lx cx, .int .i64 E]) ∧ Below w.heap.size w w' ∧
      Hid ((E = 0 ∧ 1 ≤ s ∧ s ≤ 8 ∧ n / 256 ^ s.toNat = 0 ∧ lx = (bytesOf s.toNat n).length ∧ Row w' ax (bytesOf s.toNat n)) ∨ (E = 2 ∧ lx = 0 ∧ (s < 1 ∨ 8 < s ∨ 1 ≤ s ∧ s ≤ 8 ∧ n / 256 ^ s.toNat ≠ 0))) := by
  by_cases h : s < 1 ∨ 8 < s
  · refine (bytes_bad n s hn h w).mono ?_
    rintro e w' ⟨rfl, rfl⟩
    exact ⟨none, 0, 0, 2, rfl, Below.refl _ _, .inr ⟨rfl, rfl, by omega⟩⟩
  · obtain ⟨S, rfl⟩ : ∃ S : Nat, s = (S : Int) := ⟨s.toNat, by omega⟩
    rw [Int.toNat_natCast]
    by_cases hf : n / 256 ^ S = 0
    · refine (bytes_ok n S hn (by omega) (by omega) hf w).mono ?_
      rintro e w' ⟨v, rfl, hown, hb⟩
      obtain ⟨ax, cx, rfl, _, _, hrow⟩ := hown.row
      exact ⟨ax, _, cx, 0, rfl, hb, .inl ⟨rfl, by omega, by omega, hf, rfl, hrow⟩⟩
    · refine (bytes_big n S hn (by omega) (by omega) hf w).mono ?_
      rintro e w' ⟨rfl, rfl⟩
      exact ⟨none, 0, 0, 2, rfl, Below.refl _ _, .inr ⟨rfl, rfl, .inr (.inr ⟨by omega, by omega, hf⟩)⟩⟩

/-- octet.Number, whatever is asked of it. -/
theorem number_all (a : Option Addr) (cap : Nat) (bs : List UInt8) (w : World) (hrow : Row w a bs) :
    Calls Try.prog 11 #[.slice a bs.length cap] w fun e w' => (∃ (y : Nat) (f : Int), e = .returned (.tuple #[.int .u64 y, .int .i64 f]) ∧ Hid ((1 ≤ bs.length ∧ bs.length ≤ 8 ∧ y = number bs ∧ f = 0) ∨ ((bs.length < 1 ∨ 8 < bs.length) ∧ y = 0 ∧ f = 4))) ∧ w' = w := by
  by_cases h : bs.length < 1 ∨ 8 < bs.length
  · refine (number_bad a cap bs.length w h).mono ?_
    rintro e w' ⟨rfl, rfl⟩
    exact ⟨⟨0, 4, rfl, .inr ⟨h, rfl, rfl⟩⟩, rfl⟩
  · refine (number_ok a cap bs w hrow (by omega) (by omega)).mono ?_
    rintro e w' ⟨rfl, rfl⟩
    exact ⟨⟨_, 0, rfl, .inl ⟨by omega, by omega, rfl, rfl⟩⟩, rfl⟩

/-- octet.ReadShort, whatever it reads. -/
theorem readShort_all (a : Option Addr) (cap : Nat) (bs : List UInt8) (w : World) (hrow : Row w a bs) (hmax : bs.length ≤ 1099511627776) :
    Calls Try.prog 12 #[.slice a bs.length cap] w fun e w' => (∃ (n k : Nat) (g : Int), e = .returned (.tuple #[.int .u64 n, .int .i64 k, .int .i64 g]) ∧ Hid ((g = 0 ∧ ReadsAs bs n k) ∨ (g = 4 ∧ n = 0 ∧ k = 0 ∧ ∀ n k, ¬ ReadsAs bs n k))) ∧ w' = w := by
  refine (readShort_any a cap bs w hrow hmax).mono ?_
  rintro e w' ⟨⟨n, k, rfl, h⟩ | ⟨rfl, h⟩, rfl⟩
  · exact ⟨⟨n, k, 0, rfl, .inl ⟨rfl, h⟩⟩, rfl⟩
  · exact ⟨⟨0, 0, 4, rfl, .inr ⟨rfl, rfl, rfl, h⟩⟩, rfl⟩

theorem refReadShort_all (a : Option Addr) (cap : Nat) (bs : List UInt8) (w : World) (hrow : Row w a bs) (hmax : bs.length ≤ 1099511627776) (hcap : bs.length ≤ cap) :
    Calls Try.prog 23 #[.slice a bs.length cap] w fun e w' => (∃ (n k : Nat), e = .returned (.tuple #[.int .u64 n, .int .i64 k]) ∧ Hid ((1 ≤ k ∧ ReadsAs bs n k) ∨ (n = 0 ∧ k = 0 ∧ ∀ n k, ¬ ReadsAs bs n k))) ∧ Below w.heap.size w w' := by
  refine (refReadShort_any a cap bs w hrow hmax hcap).mono ?_
  rintro e w' ⟨⟨n, k, rfl, h⟩ | ⟨rfl, h⟩, hb⟩
  · exact ⟨⟨n, k, rfl, .inl ⟨(reads_shape h).1, h⟩⟩, hb⟩
  · exact ⟨⟨0, 0, rfl, .inr ⟨rfl, rfl, h⟩⟩, hb⟩

/-- The document's Fits, over every size. -/
theorem fits_yes (n : Nat) (s : Int) (w : World) (hn : n < 18446744073709551616) (h1 : 1 ≤ s) (h8 : s ≤ 8) (hf : n / 256 ^ s.toNat = 0) :
    Calls Try.prog 20 #[.int .u64 n, .int .i64 s] w fun e w' => e = .returned (.bool true) ∧ w' = w := by
  obtain ⟨S, rfl⟩ : ∃ S : Nat, s = (S : Int) := ⟨s.toNat, by omega⟩
  rw [Int.toNat_natCast] at hf
  exact fits_in n S hn (by omega) (by omega) true (by simp [hf]) w

theorem fits_no (n : Nat) (s : Int) (w : World) (hn : n < 18446744073709551616) (h : s < 1 ∨ 8 < s ∨ 1 ≤ s ∧ s ≤ 8 ∧ n / 256 ^ s.toNat ≠ 0) :
    Calls Try.prog 20 #[.int .u64 n, .int .i64 s] w fun e w' => e = .returned (.bool false) ∧ w' = w := by
  rcases h with h | h | ⟨h1, h8, hf⟩
  · exact fits_bad n s hn (.inl h) w
  · exact fits_bad n s hn (.inr h) w
  · obtain ⟨S, rfl⟩ : ∃ S : Nat, s = (S : Int) := ⟨s.toNat, by omega⟩
    rw [Int.toNat_natCast] at hf
    exact fits_in n S hn (by omega) (by omega) false (by simp [hf]) w

theorem refBytes_int (n : Nat) (s : Int) (w : World) (hn : n < 18446744073709551616) (h1 : 1 ≤ s) (h8 : s ≤ 8) :
    Calls Try.prog 21 #[.int .u64 n, .int .i64 s] w fun e w' => ∃ (ay : Option Addr) (ly cy : Nat), e = .returned (.slice ay ly cy) ∧ (bytesOf s.toNat n).length = ly ∧ Row w' ay (bytesOf s.toNat n) ∧ Below w.heap.size w w' := by
  obtain ⟨S, rfl⟩ : ∃ S : Nat, s = (S : Int) := ⟨s.toNat, by omega⟩
  rw [Int.toNat_natCast]
  refine (refBytes_any n S hn (by omega) w).mono ?_
  rintro e w' ⟨v, rfl, hown, hb⟩
  obtain ⟨ay, cy, rfl, _, _, hrow⟩ := hown.row
  exact ⟨ay, _, cy, rfl, rfl, hrow, hb⟩

set_option maxRecDepth 100000 in
set_option maxHeartbeats 3200000 in
theorem numbers_walk (n : Nat) (size : Int) (a : Option Addr) (cap : Nat) (bs : List UInt8) (s : ByteArray) (most : Int) (w : World)
    (hn : n < 18446744073709551616) (hs1 : size ≤ 9223372036854775807) (hs2 : -9223372036854775808 ≤ size) (hrow : Row w a bs) (hcap : bs.length ≤ cap) (hm1 : most ≤ 9223372036854775807) (hm2 : -9223372036854775808 ≤ most)
    (hbl : bs.length ≤ 300) (hsl : s.size ≤ 300) :
    Calls Try.prog 3 #[.int .u64 n, .int .i64 size, .slice a bs.length cap, .string s, .int .i64 most] w fun e w' => e = .returned (.bool true) ∧ Below w.heap.size w w' := by
  go_enter Try.func3, Try.ntmps3
  go_wp2_with fail
  refine (lent_any a cap bs _ hrow (by omega)).mono ?_
  rintro e w1 ⟨rfl, hblk1, hb1⟩
  have hin1 : Row w1 (some ⟨w.heap.size, 0, none⟩) bs := by
    have := hblk1.row bs.length (by rw [lent_length]; omega)
    rwa [show (lent bs).take bs.length = bs by simp [lent]] at this
  have hr1 := hrow.below hb1
  go_wp2_with fail
  refine (bytes_all n size _ hn).mono ?_
  rintro e w2 ⟨ax, lx, cx, E, rfl, hb2, hX⟩
  have hin2 := hin1.below hb2
  have hr2 := hr1.below hb2
  have hblk2 := hblk1.below hb2
  have hB2 := hb1.trans (hb2.mono hb1.size)
  clear hin1 hr1 hblk1 hb1 hb2 hrow
  go_wp2_with fail
  refine (number_all _ _ bs _ hin2).mono ?_
  rintro e w3 ⟨⟨y, f, rfl, hY⟩, rfl⟩
  go_wp2_with fail
  refine (readShort_all _ _ bs _ hin2 (by omega)).mono ?_
  rintro e w4 ⟨⟨k, used, g, rfl, hK⟩, rfl⟩
  go_wp2_with fail
  refine (readDec_any s most _ (by omega) hm1 hm2).mono ?_
  rintro e w5 ⟨⟨d, h, rfl, hD⟩, q, rfl⟩
  have HD : Hid (DecIs (bytes s) most d h) := hD
  clear hD
  go_wp2_with fail
  refine (kept_any a cap w.heap.size bs _ (hr2.below (drewN_below w4 q)) (hblk2.below (drewN_below w4 q)) (by omega)).mono ?_
  rintro e w5 ⟨rfl, hb5⟩
  have hC5 : Below w4.heap.size w4 w5 := (drewN_below w4 q).trans hb5
  go_wp2_with fail
  refine (short_any n hn _).mono ?_
  rintro e w6 ⟨v1, rfl, hown1, hb6⟩
  obtain ⟨a1, c1, rfl, _, _, hrow1⟩ := hown1.row
  have hC6 : Below w4.heap.size w4 w6 := hC5.trans (hb6.mono hC5.size)
  clear hb5 hC5 hb6 hown1
  go_wp2_with fail
  refine (refShort_any n hn _).mono ?_
  rintro e w7 ⟨v2, rfl, hown2, hb7⟩
  obtain ⟨a2, c2, rfl, _, _, hrow2⟩ := hown2.row
  have hC7 : Below w4.heap.size w4 w7 := hC6.trans (hb7.mono hC6.size)
  have hrow1' := hrow1.below hb7
  clear hC6 hb7 hown2 hrow1
  go_wp2_with fail
  refine (same_any a1 a2 c1 c2 (short 9 n) (short 9 n) _ hrow1' hrow2).mono ?_
  rintro e w8 ⟨rfl, rfl⟩
  clear hrow1' hrow2
  go_wp2_with fail
  refine (dec_any _ _ (by unfold wrap64; omega) (by unfold wrap64; omega)).mono ?_
  rintro e w9 ⟨rfl, hb9⟩
  have hC9 : Below w4.heap.size w4 w9 := hC7.trans (hb9.mono hC7.size)
  clear hC7 hb9
  go_wp2_with fail
  refine (refDec_any _ _ (by unfold wrap64; omega) (by unfold wrap64; omega)).mono ?_
  rintro e w10 ⟨rfl, rfl⟩
  go_wp2_with fail
  rcases hX.out with ⟨rfl, x1, x8, xf, xl, xrow⟩ | ⟨rfl, xl, xbad⟩
  · refine (fits_yes n size _ hn x1 x8 xf).mono ?_
    rintro e w11 ⟨rfl, rfl⟩
    have XL : Hid ((bytesOf size.toNat n).length = lx) := xl.symm
    clear xl hX xf
    go_wp2_with fail
    refine (refBytes_int n size _ hn x1 x8).mono ?_
    rintro e w11 ⟨ay, ly, cy, rfl, hly, hrowy, hb11⟩
    have HLY : Hid ((bytesOf size.toNat n).length = ly) := hly
    have hC11 : Below w4.heap.size w4 w11 := hC9.trans (hb11.mono hC9.size)
    clear hb11 hC9 hly
    go_wp2_with fail
    refine (same_len ax ay lx ly cx cy (bytesOf size.toNat n) (bytesOf size.toNat n) _ (xrow.below hC11) hrowy XL.out HLY.out).mono ?_
    rintro e w12 ⟨rfl, rfl⟩
    rcases hY.out with ⟨y1, y8, yv, rfl⟩ | ⟨yb | yb, rfl, rfl⟩
    · subst yv
      have dd1 : decide ((bs.length : Int) < 1) = false := by simp; omega
      have dd2 : decide (8 < (bs.length : Int)) = false := by simp; omega
      clear hY
      go_wp2_with fail
      refine (refNumber_ok a cap bs _ (hr2.below hC11) y1 y8).mono ?_
      rintro e w12 ⟨rfl, rfl⟩
      go_wp2_with fail
      refine (refReadShort_all a cap bs _ (hr2.below hC11) (by omega) hcap).mono ?_
      rintro e w13 ⟨⟨m, many, rfl, hM⟩, hb13⟩
      have hC13 := hC11.trans (hb13.mono hC11.size)
      rcases hM.out with ⟨m1, hm⟩ | ⟨rfl, rfl, hno⟩ <;> rcases hK.out with ⟨rfl, hk⟩ | ⟨rfl, rfl, rfl, hno'⟩
      · obtain ⟨rfl, rfl⟩ := reads_one hm hk
        have mm1 : ((many : Int) == 0) = false := by rw [beq_eq_false_iff_ne]; omega
        go_wp2_with fail
        refine (refReadDec_any s most _ (by omega) hm1 hm2).mono ?_
        rintro e w14 ⟨⟨d', h', rfl, hD'⟩, rfl⟩
        obtain ⟨rfl, rfl⟩ := HD.out.one hD'
        go_wp2
        go_ret
        exact ⟨rfl, hB2.trans (hC13.mono hB2.size)⟩
      · exact absurd hm (hno' _ _)
      · exact absurd hk (hno _ _)
      · go_wp2_with fail
        refine (refReadDec_any s most _ (by omega) hm1 hm2).mono ?_
        rintro e w14 ⟨⟨d', h', rfl, hD'⟩, rfl⟩
        obtain ⟨rfl, rfl⟩ := HD.out.one hD'
        go_wp2
        go_ret
        exact ⟨rfl, hB2.trans (hC13.mono hB2.size)⟩
    · have dd1 : decide ((bs.length : Int) < 1) = true := by simp; omega
      clear hY
      go_wp2_with fail
      refine (refReadShort_all a cap bs _ (hr2.below hC11) (by omega) hcap).mono ?_
      rintro e w13 ⟨⟨m, many, rfl, hM⟩, hb13⟩
      have hC13 := hC11.trans (hb13.mono hC11.size)
      rcases hM.out with ⟨m1, hm⟩ | ⟨rfl, rfl, hno⟩ <;> rcases hK.out with ⟨rfl, hk⟩ | ⟨rfl, rfl, rfl, hno'⟩
      · obtain ⟨rfl, rfl⟩ := reads_one hm hk
        have mm1 : ((many : Int) == 0) = false := by rw [beq_eq_false_iff_ne]; omega
        go_wp2_with fail
        refine (refReadDec_any s most _ (by omega) hm1 hm2).mono ?_
        rintro e w14 ⟨⟨d', h', rfl, hD'⟩, rfl⟩
        obtain ⟨rfl, rfl⟩ := HD.out.one hD'
        go_wp2
        go_ret
        exact ⟨rfl, hB2.trans (hC13.mono hB2.size)⟩
      · exact absurd hm (hno' _ _)
      · exact absurd hk (hno _ _)
      · go_wp2_with fail
        refine (refReadDec_any s most _ (by omega) hm1 hm2).mono ?_
        rintro e w14 ⟨⟨d', h', rfl, hD'⟩, rfl⟩
        obtain ⟨rfl, rfl⟩ := HD.out.one hD'
        go_wp2
        go_ret
        exact ⟨rfl, hB2.trans (hC13.mono hB2.size)⟩
    · have dd1 : decide ((bs.length : Int) < 1) = false := by simp; omega
      have dd2 : decide (8 < (bs.length : Int)) = true := by simp; omega
      clear hY
      go_wp2_with fail
      refine (refReadShort_all a cap bs _ (hr2.below hC11) (by omega) hcap).mono ?_
      rintro e w13 ⟨⟨m, many, rfl, hM⟩, hb13⟩
      have hC13 := hC11.trans (hb13.mono hC11.size)
      rcases hM.out with ⟨m1, hm⟩ | ⟨rfl, rfl, hno⟩ <;> rcases hK.out with ⟨rfl, hk⟩ | ⟨rfl, rfl, rfl, hno'⟩
      · obtain ⟨rfl, rfl⟩ := reads_one hm hk
        have mm1 : ((many : Int) == 0) = false := by rw [beq_eq_false_iff_ne]; omega
        go_wp2_with fail
        refine (refReadDec_any s most _ (by omega) hm1 hm2).mono ?_
        rintro e w14 ⟨⟨d', h', rfl, hD'⟩, rfl⟩
        obtain ⟨rfl, rfl⟩ := HD.out.one hD'
        go_wp2
        go_ret
        exact ⟨rfl, hB2.trans (hC13.mono hB2.size)⟩
      · exact absurd hm (hno' _ _)
      · exact absurd hk (hno _ _)
      · go_wp2_with fail
        refine (refReadDec_any s most _ (by omega) hm1 hm2).mono ?_
        rintro e w14 ⟨⟨d', h', rfl, hD'⟩, rfl⟩
        obtain ⟨rfl, rfl⟩ := HD.out.one hD'
        go_wp2
        go_ret
        exact ⟨rfl, hB2.trans (hC13.mono hB2.size)⟩
  · refine (fits_no n size _ hn xbad).mono ?_
    rintro e w11 ⟨rfl, rfl⟩
    subst xl
    clear hX xbad
    rcases hY.out with ⟨y1, y8, yv, rfl⟩ | ⟨yb | yb, rfl, rfl⟩
    · subst yv
      have dd1 : decide ((bs.length : Int) < 1) = false := by simp; omega
      have dd2 : decide (8 < (bs.length : Int)) = false := by simp; omega
      clear hY
      go_wp2_with fail
      refine (refNumber_ok a cap bs _ (hr2.below hC9) y1 y8).mono ?_
      rintro e w12 ⟨rfl, rfl⟩
      go_wp2_with fail
      refine (refReadShort_all a cap bs _ (hr2.below hC9) (by omega) hcap).mono ?_
      rintro e w13 ⟨⟨m, many, rfl, hM⟩, hb13⟩
      have hC13 := hC9.trans (hb13.mono hC9.size)
      rcases hM.out with ⟨m1, hm⟩ | ⟨rfl, rfl, hno⟩ <;> rcases hK.out with ⟨rfl, hk⟩ | ⟨rfl, rfl, rfl, hno'⟩
      · obtain ⟨rfl, rfl⟩ := reads_one hm hk
        have mm1 : ((many : Int) == 0) = false := by rw [beq_eq_false_iff_ne]; omega
        go_wp2_with fail
        refine (refReadDec_any s most _ (by omega) hm1 hm2).mono ?_
        rintro e w14 ⟨⟨d', h', rfl, hD'⟩, rfl⟩
        obtain ⟨rfl, rfl⟩ := HD.out.one hD'
        go_wp2
        go_ret
        exact ⟨rfl, hB2.trans (hC13.mono hB2.size)⟩
      · exact absurd hm (hno' _ _)
      · exact absurd hk (hno _ _)
      · go_wp2_with fail
        refine (refReadDec_any s most _ (by omega) hm1 hm2).mono ?_
        rintro e w14 ⟨⟨d', h', rfl, hD'⟩, rfl⟩
        obtain ⟨rfl, rfl⟩ := HD.out.one hD'
        go_wp2
        go_ret
        exact ⟨rfl, hB2.trans (hC13.mono hB2.size)⟩
    · have dd1 : decide ((bs.length : Int) < 1) = true := by simp; omega
      clear hY
      go_wp2_with fail
      refine (refReadShort_all a cap bs _ (hr2.below hC9) (by omega) hcap).mono ?_
      rintro e w13 ⟨⟨m, many, rfl, hM⟩, hb13⟩
      have hC13 := hC9.trans (hb13.mono hC9.size)
      rcases hM.out with ⟨m1, hm⟩ | ⟨rfl, rfl, hno⟩ <;> rcases hK.out with ⟨rfl, hk⟩ | ⟨rfl, rfl, rfl, hno'⟩
      · obtain ⟨rfl, rfl⟩ := reads_one hm hk
        have mm1 : ((many : Int) == 0) = false := by rw [beq_eq_false_iff_ne]; omega
        go_wp2_with fail
        refine (refReadDec_any s most _ (by omega) hm1 hm2).mono ?_
        rintro e w14 ⟨⟨d', h', rfl, hD'⟩, rfl⟩
        obtain ⟨rfl, rfl⟩ := HD.out.one hD'
        go_wp2
        go_ret
        exact ⟨rfl, hB2.trans (hC13.mono hB2.size)⟩
      · exact absurd hm (hno' _ _)
      · exact absurd hk (hno _ _)
      · go_wp2_with fail
        refine (refReadDec_any s most _ (by omega) hm1 hm2).mono ?_
        rintro e w14 ⟨⟨d', h', rfl, hD'⟩, rfl⟩
        obtain ⟨rfl, rfl⟩ := HD.out.one hD'
        go_wp2
        go_ret
        exact ⟨rfl, hB2.trans (hC13.mono hB2.size)⟩
    · have dd1 : decide ((bs.length : Int) < 1) = false := by simp; omega
      have dd2 : decide (8 < (bs.length : Int)) = true := by simp; omega
      clear hY
      go_wp2_with fail
      refine (refReadShort_all a cap bs _ (hr2.below hC9) (by omega) hcap).mono ?_
      rintro e w13 ⟨⟨m, many, rfl, hM⟩, hb13⟩
      have hC13 := hC9.trans (hb13.mono hC9.size)
      rcases hM.out with ⟨m1, hm⟩ | ⟨rfl, rfl, hno⟩ <;> rcases hK.out with ⟨rfl, hk⟩ | ⟨rfl, rfl, rfl, hno'⟩
      · obtain ⟨rfl, rfl⟩ := reads_one hm hk
        have mm1 : ((many : Int) == 0) = false := by rw [beq_eq_false_iff_ne]; omega
        go_wp2_with fail
        refine (refReadDec_any s most _ (by omega) hm1 hm2).mono ?_
        rintro e w14 ⟨⟨d', h', rfl, hD'⟩, rfl⟩
        obtain ⟨rfl, rfl⟩ := HD.out.one hD'
        go_wp2
        go_ret
        exact ⟨rfl, hB2.trans (hC13.mono hB2.size)⟩
      · exact absurd hm (hno' _ _)
      · exact absurd hk (hno _ _)
      · go_wp2_with fail
        refine (refReadDec_any s most _ (by omega) hm1 hm2).mono ?_
        rintro e w14 ⟨⟨d', h', rfl, hD'⟩, rfl⟩
        obtain ⟨rfl, rfl⟩ := HD.out.one hD'
        go_wp2
        go_ret
        exact ⟨rfl, hB2.trans (hC13.mono hB2.size)⟩
end Go.Proofs.Ytjjojlfhliecnaa
