/- The walk of the law OctetBack at no fields, over the contracts of what it calls. -/
import Derived.Test.YtjjojlfhliecnaaBackParts
import Derived.Deep.RegionHeld3
import Derived.Deep.DrawnRows
namespace Go.Proofs.Ytjjojlfhliecnaa
open Go.RowKit
set_option linter.unusedVariables false
attribute [local go_sem ↓] Go.wp_at_zero Go.wp_at_succ

set_option maxRecDepth 100000 in
set_option maxHeartbeats 6400000 in
theorem back_walk_none (n : Nat) (size : Int) (a : Option Addr) (cap : Nat) (bs : List UInt8) (al : Option Addr) (cap2 : Nat) (w : World)
    (hn : n < 18446744073709551616) (hs1 : size ≤ 9223372036854775807) (hs2 : -9223372036854775808 ≤ size) (hrow : Row w a bs) (hcap : bs.length ≤ cap) (hnil : a = none → cap = 0) (hbl : bs.length ≤ 300) :
    Calls Try.prog 6 #[.int .u64 n, .int .i64 size, .slice a bs.length cap, .slice al 0 cap2] w fun e w' => e = .returned (.bool true) ∧ Below w.heap.size w w' := by
  have d1 : decide (300 < (bs.length : Int)) = false := by simp; omega
  have HFIT : Hid (FitsF []) := ⟨by decide, by decide⟩
  go_enter Try.func6, Try.ntmps6
  go_wp2_with fail
  refine (awake_any _).mono ?_
  rintro e w1 ⟨rfl, hb1⟩
  go_wp2
  refine wp_loop_rounds 1 ?_
  rw [rounds_succ]
  have hr1 := hrow.below hb1
  clear hrow
  go_wp2_with fail
  refine (bytes_all n size _ hn).mono ?_
  rintro e w2 ⟨ax, lx, cx, E, rfl, hb2, hX⟩
  have hC2 : Below w1.heap.size w1 w2 := hb2
  clear hb2
  go_wp2_with fail
  rcases hX.out with ⟨rfl, x1, x8, xf, xl, xrow⟩ | ⟨rfl, rfl, xbad⟩
  · have XL : Hid ((bytesOf size.toNat n).length = lx) := xl.symm
    have hlx : (lx : Int) = size := by rw [xl, bytesOf_length]; omega
    have hnb := number_back xf
    clear xl xf hX
    refine (number_len ax lx cx (bytesOf size.toNat n) _ xrow XL.out (by omega) (by omega)).mono ?_
    rintro e w3 ⟨rfl, rfl⟩
    rw [hnb]
    clear hnb xrow
    go_wp2_with fail
    refine (short_any n hn _).mono ?_
    rintro e w4 ⟨v1, rfl, hown1, hb4⟩
    have hC4 : Below w1.heap.size w1 w4 := hC2.trans (hb4.mono hC2.size)
    have hs10 := short_length 9 n
    have hsz4 := hb4.size
    have hsz3 := hC2.size
    go_wp2_with (at_builtin; refine appRow (.tmp 83) (.tmp 84) w3.heap.size _ (short 9 n) _ _ _ bs rfl rfl rfl rfl hown1 (hr1.below hC4) rfl hnil (by omega) hsz4 ?_)
    intro v2 w5 hown2 hb5
    have hC5 : Below w1.heap.size w1 w5 := hC4.trans (hb5.mono hsz3)
    clear hown1 hb4 hb5 hC4
    obtain ⟨a2, c2, hv2, hle2, _, hrow2⟩ := hown2.row
    obtain ⟨L2, hL2⟩ : ∃ L2, (short 9 n ++ bs).length = L2 := ⟨_, rfl⟩
    have hL2b : L2 ≤ 1000 := by rw [← hL2]; simp; omega
    rw [hL2] at hv2
    have HL2 : Hid ((short 9 n ++ bs).length = L2) := hL2
    rw [hv2]
    clear hv2 hown2 hL2 v2
    go_wp2_with fail
    refine (readShort_row a2 L2 c2 (short 9 n ++ bs) _ hrow2 HL2.out (by omega)).mono ?_
    rintro e w6 ⟨⟨k', used, g, rfl, hK⟩, rfl⟩
    have hk3 : k' = n ∧ used = (short 9 n).length ∧ g = 0 := by
      rcases hK.out with ⟨rfl, hr⟩ | ⟨_, _, _, hno⟩
      · obtain ⟨e1, e2⟩ := reads_short_one hn hr
        exact ⟨e1, e2, rfl⟩
      · exact absurd (reads_short n hn bs) (hno _ _)
    obtain ⟨e1, e2, e3⟩ := hk3
    clear hK hrow2
    subst e1 e2 e3
    go_wp2_with fail
    refine (short_any k' hn _).mono ?_
    rintro e w7 ⟨v3, rfl, hown3, hb7⟩
    obtain ⟨a3, c3, hv3, _, _, _⟩ := hown3.row
    rw [hv3]
    have hC7 : Below w1.heap.size w1 w7 := hC5.trans (hb7.mono hC5.size)
    clear hv3 hown3 hb7 hC5 v3
    go_wp2_with fail
    refine (readShort_row a bs.length cap bs _ (hr1.below hC7) rfl (by omega)).mono ?_
    rintro e w8 ⟨⟨m, used2, g2, rfl, hK2⟩, rfl⟩
    rcases hK2.out with ⟨rfl, hr⟩ | ⟨rfl, rfl, rfl, hno⟩
    · have hu1 := (reads_shape hr).1
      have hu2 : used2 ≤ bs.length := hr.2.1
      have hm64 : m < 18446744073709551616 := hr.1
      have HTK : Hid (short 9 m = bs.take used2) := hr.2.2
      clear hK2 hr
      have q1 : decide ((used2 : Int) < 1) = false := by simp; omega
      have q2 : decide ((bs.length : Int) < (used2 : Int)) = false := by simp; omega
      have q3 : decide (bs.length < used2) = false := by simp; omega
      have hsl := fun W => run_slice_to W a bs.length cap used2 (used2 : Int) rfl (by omega)
      go_wp2
      go_region_held3 (fun _ => True) (trivial) (first | (go_at_call 16; refine (short_any m hm64 _).mono ?_; rintro e w9 ⟨v9, rfl, hown9, hb9⟩; obtain ⟨a9, c9, rfl, _, _, hrow9⟩ := hown9.row) | (go_at_call 15; refine (same_true a9 a _ used2 c9 cap (short 9 m) _ hrow9 (by rw [HTK.out]; exact (((hr1.below hC7).drew).below hb9).take used2) rfl (by rw [HTK.out, List.length_take]; omega)).mono ?_; rintro e w10 ⟨rfl, rfl⟩))
      go_wp2_with fail
      have hC10 : Below w1.heap.size w1 _ := hC7.trans (((Below.refl _ _).drew).trans (hb9.mono hC7.size))
      clear hsl q1 q2 q3 hrow9 hown9 hb9 hC7
      refine (hex_any a cap bs _ (hr1.below hC10) (by omega)).mono ?_
      rintro e w11 ⟨rfl, hb11⟩
      have hC11 : Below w1.heap.size w1 w11 := hC10.trans (hb11.mono hC10.size)
      clear hb11
      go_wp2_with fail
      refine (readHex_back bs _ hbl).mono ?_
      rintro e w12 ⟨ah, lh, ch, rfl, hhl, hhrow, hb12⟩
      have hC12 : Below w1.heap.size w1 w12 := hC11.trans (hb12.mono hC11.size)
      clear hb12 hC11
      go_wp2_with fail
      refine (fields_len _ _ cap2 [] _ (.inl rfl) rfl HFIT.out).mono ?_
      rintro e w13 ⟨at', lt', ct', rfl, htl, htc, htrow, hb13⟩
      have hC13 : Below w1.heap.size w1 w13 := hC12.trans (hb13.mono hC12.size)
      have hhrow13 := hhrow.below hb13
      clear hb13 hC12 hhrow
      go_wp2_with fail
      refine (readFields_back at' lt' ct' [] _ htrow htl.out htc HFIT.out).mono ?_
      rintro e w14 ⟨ag, cg, rfl, hgrow, hb14⟩
      have hC14 : Below w1.heap.size w1 w14 := hC13.trans (hb14.mono hC13.size)
      have hhrow14 := hhrow13.below hb14
      clear hb14 hC13 hhrow13 htrow
      go_wp2_with fail
      refine (same_true ah a lh bs.length ch cap bs _ hhrow14 (hr1.below hC14) hhl.out rfl).mono ?_
      rintro e w15 ⟨rfl, rfl⟩
      clear hhrow14
      go_wp2
      refine wp_loop_rounds 1 ?_
      rw [rounds_succ]
      have hCr := hC14
      go_wp2_with fail
      refine (readFields_sl a bs.length cap bs _ (hr1.below hCr) rfl hcap (by omega)).mono ?_
      rintro e w16 ⟨L', az, ls, cs, E', rfl, hls, hsrow, hb16, hX'⟩
      have hC16 : Below w1.heap.size w1 w16 := hCr.trans (hb16.mono hCr.size)
      clear hb16
      go_wp2_with fail
      refine (fields_again bs L' E' az ls cs _ hsrow hls.out hX').mono ?_
      rintro e w17 ⟨at2, lt2, ct2, T2, rfl, hT2l, hT2row, hb17, hE⟩
      have hC17 : Below w1.heap.size w1 w17 := hC16.trans (hb17.mono hC16.size)
      clear hb17 hsrow hX'
      rcases hE.out with ⟨rfl, rfl⟩ | rfl
      · go_wp2_with fail
        refine (same_true at2 a lt2 _ ct2 cap T2 _ hT2row (hr1.below hC17) hT2l.out rfl).mono ?_
        rintro e w18 ⟨rfl, rfl⟩
        go_wp2
        go_ret
        exact ⟨rfl, hb1.trans (hC17.mono hb1.size)⟩
      · go_wp2
        go_ret
        exact ⟨rfl, hb1.trans (hC17.mono hb1.size)⟩
    · clear hK2 hno
      have q0 : ((4 : Int) == 0) = false := rfl
      go_wp2
      go_quiet (fail)
      go_wp2_with fail
      have hC10 := hC7.trans (drewN_below0 _ nq w1.heap.size)
      clear hC7
      refine (hex_any a cap bs _ (hr1.below hC10) (by omega)).mono ?_
      rintro e w11 ⟨rfl, hb11⟩
      have hC11 : Below w1.heap.size w1 w11 := hC10.trans (hb11.mono hC10.size)
      clear hb11
      go_wp2_with fail
      refine (readHex_back bs _ hbl).mono ?_
      rintro e w12 ⟨ah, lh, ch, rfl, hhl, hhrow, hb12⟩
      have hC12 : Below w1.heap.size w1 w12 := hC11.trans (hb12.mono hC11.size)
      clear hb12 hC11
      go_wp2_with fail
      refine (fields_len _ _ cap2 [] _ (.inl rfl) rfl HFIT.out).mono ?_
      rintro e w13 ⟨at', lt', ct', rfl, htl, htc, htrow, hb13⟩
      have hC13 : Below w1.heap.size w1 w13 := hC12.trans (hb13.mono hC12.size)
      have hhrow13 := hhrow.below hb13
      clear hb13 hC12 hhrow
      go_wp2_with fail
      refine (readFields_back at' lt' ct' [] _ htrow htl.out htc HFIT.out).mono ?_
      rintro e w14 ⟨ag, cg, rfl, hgrow, hb14⟩
      have hC14 : Below w1.heap.size w1 w14 := hC13.trans (hb14.mono hC13.size)
      have hhrow14 := hhrow13.below hb14
      clear hb14 hC13 hhrow13 htrow
      go_wp2_with fail
      refine (same_true ah a lh bs.length ch cap bs _ hhrow14 (hr1.below hC14) hhl.out rfl).mono ?_
      rintro e w15 ⟨rfl, rfl⟩
      clear hhrow14
      go_wp2
      refine wp_loop_rounds 1 ?_
      rw [rounds_succ]
      have hCr := hC14
      go_wp2_with fail
      refine (readFields_sl a bs.length cap bs _ (hr1.below hCr) rfl hcap (by omega)).mono ?_
      rintro e w16 ⟨L', az, ls, cs, E', rfl, hls, hsrow, hb16, hX'⟩
      have hC16 : Below w1.heap.size w1 w16 := hCr.trans (hb16.mono hCr.size)
      clear hb16
      go_wp2_with fail
      refine (fields_again bs L' E' az ls cs _ hsrow hls.out hX').mono ?_
      rintro e w17 ⟨at2, lt2, ct2, T2, rfl, hT2l, hT2row, hb17, hE⟩
      have hC17 : Below w1.heap.size w1 w17 := hC16.trans (hb17.mono hC16.size)
      clear hb17 hsrow hX'
      rcases hE.out with ⟨rfl, rfl⟩ | rfl
      · go_wp2_with fail
        refine (same_true at2 a lt2 _ ct2 cap T2 _ hT2row (hr1.below hC17) hT2l.out rfl).mono ?_
        rintro e w18 ⟨rfl, rfl⟩
        go_wp2
        go_ret
        exact ⟨rfl, hb1.trans (hC17.mono hb1.size)⟩
      · go_wp2
        go_ret
        exact ⟨rfl, hb1.trans (hC17.mono hb1.size)⟩
  · refine (number_bad ax cx 0 _ (by omega)).mono ?_
    rintro e w3 ⟨rfl, rfl⟩
    clear hX xbad
    go_wp2_with fail
    refine (short_any n hn _).mono ?_
    rintro e w4 ⟨v1, rfl, hown1, hb4⟩
    have hC4 : Below w1.heap.size w1 w4 := hC2.trans (hb4.mono hC2.size)
    have hs10 := short_length 9 n
    have hsz4 := hb4.size
    have hsz3 := hC2.size
    go_wp2_with (at_builtin; refine appRow (.tmp 83) (.tmp 84) w3.heap.size _ (short 9 n) _ _ _ bs rfl rfl rfl rfl hown1 (hr1.below hC4) rfl hnil (by omega) hsz4 ?_)
    intro v2 w5 hown2 hb5
    have hC5 : Below w1.heap.size w1 w5 := hC4.trans (hb5.mono hsz3)
    clear hown1 hb4 hb5 hC4
    obtain ⟨a2, c2, hv2, hle2, _, hrow2⟩ := hown2.row
    obtain ⟨L2, hL2⟩ : ∃ L2, (short 9 n ++ bs).length = L2 := ⟨_, rfl⟩
    have hL2b : L2 ≤ 1000 := by rw [← hL2]; simp; omega
    rw [hL2] at hv2
    have HL2 : Hid ((short 9 n ++ bs).length = L2) := hL2
    rw [hv2]
    clear hv2 hown2 hL2 v2
    go_wp2_with fail
    refine (readShort_row a2 L2 c2 (short 9 n ++ bs) _ hrow2 HL2.out (by omega)).mono ?_
    rintro e w6 ⟨⟨k', used, g, rfl, hK⟩, rfl⟩
    have hk3 : k' = n ∧ used = (short 9 n).length ∧ g = 0 := by
      rcases hK.out with ⟨rfl, hr⟩ | ⟨_, _, _, hno⟩
      · obtain ⟨e1, e2⟩ := reads_short_one hn hr
        exact ⟨e1, e2, rfl⟩
      · exact absurd (reads_short n hn bs) (hno _ _)
    obtain ⟨e1, e2, e3⟩ := hk3
    clear hK hrow2
    subst e1 e2 e3
    go_wp2_with fail
    refine (short_any k' hn _).mono ?_
    rintro e w7 ⟨v3, rfl, hown3, hb7⟩
    obtain ⟨a3, c3, hv3, _, _, _⟩ := hown3.row
    rw [hv3]
    have hC7 : Below w1.heap.size w1 w7 := hC5.trans (hb7.mono hC5.size)
    clear hv3 hown3 hb7 hC5 v3
    go_wp2_with fail
    refine (readShort_row a bs.length cap bs _ (hr1.below hC7) rfl (by omega)).mono ?_
    rintro e w8 ⟨⟨m, used2, g2, rfl, hK2⟩, rfl⟩
    rcases hK2.out with ⟨rfl, hr⟩ | ⟨rfl, rfl, rfl, hno⟩
    · have hu1 := (reads_shape hr).1
      have hu2 : used2 ≤ bs.length := hr.2.1
      have hm64 : m < 18446744073709551616 := hr.1
      have HTK : Hid (short 9 m = bs.take used2) := hr.2.2
      clear hK2 hr
      have q1 : decide ((used2 : Int) < 1) = false := by simp; omega
      have q2 : decide ((bs.length : Int) < (used2 : Int)) = false := by simp; omega
      have q3 : decide (bs.length < used2) = false := by simp; omega
      have hsl := fun W => run_slice_to W a bs.length cap used2 (used2 : Int) rfl (by omega)
      go_wp2
      go_region_held3 (fun _ => True) (trivial) (first | (go_at_call 16; refine (short_any m hm64 _).mono ?_; rintro e w9 ⟨v9, rfl, hown9, hb9⟩; obtain ⟨a9, c9, rfl, _, _, hrow9⟩ := hown9.row) | (go_at_call 15; refine (same_true a9 a _ used2 c9 cap (short 9 m) _ hrow9 (by rw [HTK.out]; exact (((hr1.below hC7).drew).below hb9).take used2) rfl (by rw [HTK.out, List.length_take]; omega)).mono ?_; rintro e w10 ⟨rfl, rfl⟩))
      go_wp2_with fail
      have hC10 : Below w1.heap.size w1 _ := hC7.trans (((Below.refl _ _).drew).trans (hb9.mono hC7.size))
      clear hsl q1 q2 q3 hrow9 hown9 hb9 hC7
      refine (hex_any a cap bs _ (hr1.below hC10) (by omega)).mono ?_
      rintro e w11 ⟨rfl, hb11⟩
      have hC11 : Below w1.heap.size w1 w11 := hC10.trans (hb11.mono hC10.size)
      clear hb11
      go_wp2_with fail
      refine (readHex_back bs _ hbl).mono ?_
      rintro e w12 ⟨ah, lh, ch, rfl, hhl, hhrow, hb12⟩
      have hC12 : Below w1.heap.size w1 w12 := hC11.trans (hb12.mono hC11.size)
      clear hb12 hC11
      go_wp2_with fail
      refine (fields_len _ _ cap2 [] _ (.inl rfl) rfl HFIT.out).mono ?_
      rintro e w13 ⟨at', lt', ct', rfl, htl, htc, htrow, hb13⟩
      have hC13 : Below w1.heap.size w1 w13 := hC12.trans (hb13.mono hC12.size)
      have hhrow13 := hhrow.below hb13
      clear hb13 hC12 hhrow
      go_wp2_with fail
      refine (readFields_back at' lt' ct' [] _ htrow htl.out htc HFIT.out).mono ?_
      rintro e w14 ⟨ag, cg, rfl, hgrow, hb14⟩
      have hC14 : Below w1.heap.size w1 w14 := hC13.trans (hb14.mono hC13.size)
      have hhrow14 := hhrow13.below hb14
      clear hb14 hC13 hhrow13 htrow
      go_wp2_with fail
      refine (same_true ah a lh bs.length ch cap bs _ hhrow14 (hr1.below hC14) hhl.out rfl).mono ?_
      rintro e w15 ⟨rfl, rfl⟩
      clear hhrow14
      go_wp2
      refine wp_loop_rounds 1 ?_
      rw [rounds_succ]
      have hCr := hC14
      go_wp2_with fail
      refine (readFields_sl a bs.length cap bs _ (hr1.below hCr) rfl hcap (by omega)).mono ?_
      rintro e w16 ⟨L', az, ls, cs, E', rfl, hls, hsrow, hb16, hX'⟩
      have hC16 : Below w1.heap.size w1 w16 := hCr.trans (hb16.mono hCr.size)
      clear hb16
      go_wp2_with fail
      refine (fields_again bs L' E' az ls cs _ hsrow hls.out hX').mono ?_
      rintro e w17 ⟨at2, lt2, ct2, T2, rfl, hT2l, hT2row, hb17, hE⟩
      have hC17 : Below w1.heap.size w1 w17 := hC16.trans (hb17.mono hC16.size)
      clear hb17 hsrow hX'
      rcases hE.out with ⟨rfl, rfl⟩ | rfl
      · go_wp2_with fail
        refine (same_true at2 a lt2 _ ct2 cap T2 _ hT2row (hr1.below hC17) hT2l.out rfl).mono ?_
        rintro e w18 ⟨rfl, rfl⟩
        go_wp2
        go_ret
        exact ⟨rfl, hb1.trans (hC17.mono hb1.size)⟩
      · go_wp2
        go_ret
        exact ⟨rfl, hb1.trans (hC17.mono hb1.size)⟩
    · clear hK2 hno
      have q0 : ((4 : Int) == 0) = false := rfl
      go_wp2
      go_quiet (fail)
      go_wp2_with fail
      have hC10 := hC7.trans (drewN_below0 _ nq w1.heap.size)
      clear hC7
      refine (hex_any a cap bs _ (hr1.below hC10) (by omega)).mono ?_
      rintro e w11 ⟨rfl, hb11⟩
      have hC11 : Below w1.heap.size w1 w11 := hC10.trans (hb11.mono hC10.size)
      clear hb11
      go_wp2_with fail
      refine (readHex_back bs _ hbl).mono ?_
      rintro e w12 ⟨ah, lh, ch, rfl, hhl, hhrow, hb12⟩
      have hC12 : Below w1.heap.size w1 w12 := hC11.trans (hb12.mono hC11.size)
      clear hb12 hC11
      go_wp2_with fail
      refine (fields_len _ _ cap2 [] _ (.inl rfl) rfl HFIT.out).mono ?_
      rintro e w13 ⟨at', lt', ct', rfl, htl, htc, htrow, hb13⟩
      have hC13 : Below w1.heap.size w1 w13 := hC12.trans (hb13.mono hC12.size)
      have hhrow13 := hhrow.below hb13
      clear hb13 hC12 hhrow
      go_wp2_with fail
      refine (readFields_back at' lt' ct' [] _ htrow htl.out htc HFIT.out).mono ?_
      rintro e w14 ⟨ag, cg, rfl, hgrow, hb14⟩
      have hC14 : Below w1.heap.size w1 w14 := hC13.trans (hb14.mono hC13.size)
      have hhrow14 := hhrow13.below hb14
      clear hb14 hC13 hhrow13 htrow
      go_wp2_with fail
      refine (same_true ah a lh bs.length ch cap bs _ hhrow14 (hr1.below hC14) hhl.out rfl).mono ?_
      rintro e w15 ⟨rfl, rfl⟩
      clear hhrow14
      go_wp2
      refine wp_loop_rounds 1 ?_
      rw [rounds_succ]
      have hCr := hC14
      go_wp2_with fail
      refine (readFields_sl a bs.length cap bs _ (hr1.below hCr) rfl hcap (by omega)).mono ?_
      rintro e w16 ⟨L', az, ls, cs, E', rfl, hls, hsrow, hb16, hX'⟩
      have hC16 : Below w1.heap.size w1 w16 := hCr.trans (hb16.mono hCr.size)
      clear hb16
      go_wp2_with fail
      refine (fields_again bs L' E' az ls cs _ hsrow hls.out hX').mono ?_
      rintro e w17 ⟨at2, lt2, ct2, T2, rfl, hT2l, hT2row, hb17, hE⟩
      have hC17 : Below w1.heap.size w1 w17 := hC16.trans (hb17.mono hC16.size)
      clear hb17 hsrow hX'
      rcases hE.out with ⟨rfl, rfl⟩ | rfl
      · go_wp2_with fail
        refine (same_true at2 a lt2 _ ct2 cap T2 _ hT2row (hr1.below hC17) hT2l.out rfl).mono ?_
        rintro e w18 ⟨rfl, rfl⟩
        go_wp2
        go_ret
        exact ⟨rfl, hb1.trans (hC17.mono hb1.size)⟩
      · go_wp2
        go_ret
        exact ⟨rfl, hb1.trans (hC17.mono hb1.size)⟩

end Go.Proofs.Ytjjojlfhliecnaa
