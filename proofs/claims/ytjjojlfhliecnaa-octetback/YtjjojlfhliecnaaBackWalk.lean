/- The walk of the law OctetBack over the contracts of what it calls. -/
import Derived.Test.YtjjojlfhliecnaaBackParts
import Derived.Deep.RegionHeld3
import Derived.Deep.DrawnRows
namespace Go.Proofs.Ytjjojlfhliecnaa
open Go.RowKit
set_option linter.unusedVariables false
attribute [local go_sem ↓] Go.wp_at_zero Go.wp_at_succ

set_option maxRecDepth 100000 in
set_option maxHeartbeats 6400000 in
theorem back_walk (n : Nat) (size : Int) (a : Option Addr) (cap : Nat) (bs : List UInt8) (b2 off2 cap2 : Nat) (fs : List (List UInt8)) (w : World)
    (hn : n < 18446744073709551616) (hs1 : size ≤ 9223372036854775807) (hs2 : -9223372036854775808 ≤ size) (hrow : Row w a bs) (hcap : bs.length ≤ cap) (hnil : a = none → cap = 0) (hbl : bs.length ≤ 300)
    (hrowL : RowL w (some ⟨b2, off2, none⟩) fs) (hne : fs ≠ []) (hfl : fs.length ≤ 40) (hfmax : ∀ j, j < fs.length → (fs.getD j []).length ≤ 9223372036854775807) :
    Calls Try.prog 6 #[.int .u64 n, .int .i64 size, .slice a bs.length cap, .slice (some ⟨b2, off2, none⟩) fs.length cap2] w fun e w' => e = .returned (.bool true) ∧ Below w.heap.size w w' := by
  have HROWL : Hid (RowL w (some ⟨b2, off2, none⟩) fs) := hrowL
  have HFM : Hid (∀ j, j < fs.length → (fs.getD j []).length ≤ 9223372036854775807) := hfmax
  have d1 : decide (300 < (bs.length : Int)) = false := by simp; omega
  have d2 : decide (40 < (fs.length : Int)) = false := by simp; omega
  clear hrowL hfmax
  go_enter Try.func6, Try.ntmps6
  go_wp2_with fail
  refine (awake_any _).mono ?_
  rintro e w1 ⟨rfl, hb1⟩
  go_wp2
  go_loop [10] (fun i => ∃ k : Nat, k ≤ fs.length ∧ i = .int .i64 k ∧ Hid (∀ j, j < k → (fs.getD j []).length ≤ 300)) (fun i => fs.length - (intOf i).toNat)
  case atStart => exact ⟨0, Nat.zero_le _, rfl, fun j hj => by omega⟩
  case round =>
    obtain ⟨k, hk, rfl, hall⟩ := hrel
    by_cases hlt : k < fs.length
    · obtain ⟨f, hf⟩ : ∃ f, f = fs.getD k [] := ⟨_, rfl⟩
      obtain ⟨fa, fc, hcell⟩ : ∃ fa fc, w1.cell? ⟨b2, off2 + k, none⟩ = some (.slice fa f.length fc) := by
        rcases HROWL.out.below hb1 with h | ⟨b', off', e, hc⟩
        · exact absurd h hne
        · cases e
          obtain ⟨fa, fc, h1, _⟩ := hc k hlt
          rw [← hf] at h1
          exact ⟨fa, fc, h1⟩
      have hfm : f.length ≤ 9223372036854775807 := by rw [hf]; exact HFM.out k hlt
      have HF : Hid (f = fs.getD k []) := hf
      clear hf
      by_cases h300 : 300 < f.length
      · go_wp2
        go_ret
        exact ⟨rfl, hb1⟩
      · have HALL : Hid (∀ j, j < k + 1 → (fs.getD j []).length ≤ 300) := by
          intro j hj
          rcases Nat.lt_or_ge j k with h | h
          · exact hall.out j h
          · have : j = k := by omega
            subst this
            rw [← HF.out]; omega
        clear hall
        go_wp2
        go_round
        case rel => exact ⟨k + 1, by omega, by go_num, HALL⟩
        case measure => simp [intOf]; omega
    · have HALL : Hid (∀ j, j < fs.length → (fs.getD j []).length ≤ 300) := fun j hj => hall.out j (by omega)
      have HFIT : Hid (FitsF fs) := fits_small fs hfl HALL.out
      have hkf : k = fs.length := by omega
      clear hall
      have hr1 := hrow.below hb1
      clear hrow
      go_wp2_with fail
      refine (bytes_all n size _ hn).mono ?_
      rintro e w2 ⟨ax, lx, cx, E, rfl, hb2, hX⟩
      have hC2 : Below w1.heap.size w1 w2 := hb2
      clear hb2
      go_wp2_with fail
      rcases hX.out with ⟨rfl, x1, x8, xf, xl, xrow⟩ | ⟨rfl, rfl, xbad⟩
      · have XL : Hid ((bytesOf size.toNat n).length = lx) := xl.symm
        have hlx : (lx : Int) = size := by rw [xl, bytesOf_length]; omega
        have hnb := number_back xf
        clear xl xf hX
        refine (number_len ax lx cx (bytesOf size.toNat n) _ xrow XL.out (by omega) (by omega)).mono ?_
        rintro e w3 ⟨rfl, rfl⟩
        rw [hnb]
        clear hnb xrow
        go_wp2_with fail
        refine (short_any n hn _).mono ?_
        rintro e w4 ⟨v1, rfl, hown1, hb4⟩
        have hC4 : Below w1.heap.size w1 w4 := hC2.trans (hb4.mono hC2.size)
        have hs10 := short_length 9 n
        have hsz4 := hb4.size
        have hsz3 := hC2.size
        go_wp2_with (at_builtin; refine appRow (.tmp 83) (.tmp 84) w3.heap.size _ (short 9 n) _ _ _ bs rfl rfl rfl rfl hown1 (hr1.below hC4) rfl hnil (by omega) hsz4 ?_)
        intro v2 w5 hown2 hb5
        have hC5 : Below w1.heap.size w1 w5 := hC4.trans (hb5.mono hsz3)
        clear hown1 hb4 hb5 hC4
        obtain ⟨a2, c2, hv2, hle2, _, hrow2⟩ := hown2.row
        obtain ⟨L2, hL2⟩ : ∃ L2, (short 9 n ++ bs).length = L2 := ⟨_, rfl⟩
        have hL2b : L2 ≤ 1000 := by rw [← hL2]; simp; omega
        rw [hL2] at hv2
        have HL2 : Hid ((short 9 n ++ bs).length = L2) := hL2
        rw [hv2]
        clear hv2 hown2 hL2 v2
        go_wp2_with fail
        refine (readShort_row a2 L2 c2 (short 9 n ++ bs) _ hrow2 HL2.out (by omega)).mono ?_
        rintro e w6 ⟨⟨k', used, g, rfl, hK⟩, rfl⟩
        have hk3 : k' = n ∧ used = (short 9 n).length ∧ g = 0 := by
          rcases hK.out with ⟨rfl, hr⟩ | ⟨_, _, _, hno⟩
          · obtain ⟨e1, e2⟩ := reads_short_one hn hr
            exact ⟨e1, e2, rfl⟩
          · exact absurd (reads_short n hn bs) (hno _ _)
        obtain ⟨e1, e2, e3⟩ := hk3
        clear hK hrow2
        subst e1 e2 e3
        go_wp2_with fail
        refine (short_any k' hn _).mono ?_
        rintro e w7 ⟨v3, rfl, hown3, hb7⟩
        obtain ⟨a3, c3, hv3, _, _, _⟩ := hown3.row
        rw [hv3]
        have hC7 : Below w1.heap.size w1 w7 := hC5.trans (hb7.mono hC5.size)
        clear hv3 hown3 hb7 hC5 v3
        go_wp2_with fail
        refine (readShort_row a bs.length cap bs _ (hr1.below hC7) rfl (by omega)).mono ?_
        rintro e w8 ⟨⟨m, used2, g2, rfl, hK2⟩, rfl⟩
        rcases hK2.out with ⟨rfl, hr⟩ | ⟨rfl, rfl, rfl, hno⟩
        · have hu1 := (reads_shape hr).1
          have hu2 : used2 ≤ bs.length := hr.2.1
          have hm64 : m < 18446744073709551616 := hr.1
          have HTK : Hid (short 9 m = bs.take used2) := hr.2.2
          clear hK2 hr
          have q1 : decide ((used2 : Int) < 1) = false := by simp; omega
          have q2 : decide ((bs.length : Int) < (used2 : Int)) = false := by simp; omega
          have q3 : decide (bs.length < used2) = false := by simp; omega
          have hsl := fun W => run_slice_to W a bs.length cap used2 (used2 : Int) rfl (by omega)
          go_wp2
          go_region_held3 (fun _ => True) (trivial) (first | (go_at_call 16; refine (short_any m hm64 _).mono ?_; rintro e w9 ⟨v9, rfl, hown9, hb9⟩; obtain ⟨a9, c9, rfl, _, _, hrow9⟩ := hown9.row) | (go_at_call 15; refine (same_true a9 a _ used2 c9 cap (short 9 m) _ hrow9 (by rw [HTK.out]; exact (((hr1.below hC7).drew).below hb9).take used2) rfl (by rw [HTK.out, List.length_take]; omega)).mono ?_; rintro e w10 ⟨rfl, rfl⟩))
          go_wp2_with fail
          have hC10 : Below w1.heap.size w1 _ := hC7.trans (((Below.refl _ _).drew).trans (hb9.mono hC7.size))
          clear hsl q1 q2 q3 hrow9 hown9 hb9 hC7
          refine (hex_any a cap bs _ (hr1.below hC10) (by omega)).mono ?_
          rintro e w11 ⟨rfl, hb11⟩
          have hC11 : Below w1.heap.size w1 w11 := hC10.trans (hb11.mono hC10.size)
          clear hb11
          go_wp2_with fail
          refine (readHex_back bs _ hbl).mono ?_
          rintro e w12 ⟨ah, lh, ch, rfl, hhl, hhrow, hb12⟩
          have hC12 : Below w1.heap.size w1 w12 := hC11.trans (hb12.mono hC11.size)
          clear hb12 hC11
          go_wp2_with fail
          refine (fields_len _ _ cap2 fs _ ((HROWL.out.below hb1).below hC12) rfl HFIT.out).mono ?_
          rintro e w13 ⟨at', lt', ct', rfl, htl, htc, htrow, hb13⟩
          have hC13 : Below w1.heap.size w1 w13 := hC12.trans (hb13.mono hC12.size)
          have hhrow13 := hhrow.below hb13
          clear hb13 hC12 hhrow
          go_wp2_with fail
          refine (readFields_back at' lt' ct' fs _ htrow htl.out htc HFIT.out).mono ?_
          rintro e w14 ⟨ag, cg, rfl, hgrow, hb14⟩
          have hC14 : Below w1.heap.size w1 w14 := hC13.trans (hb14.mono hC13.size)
          have hhrow14 := hhrow13.below hb14
          clear hb14 hC13 hhrow13 htrow
          go_wp2_with fail
          refine (same_true ah a lh bs.length ch cap bs _ hhrow14 (hr1.below hC14) hhl.out rfl).mono ?_
          rintro e w15 ⟨rfl, rfl⟩
          clear hhrow14
          rcases hgrow with h | ⟨gb, go', rfl, hgc⟩
          · exact absurd h hne
          have HGC : Hid (∀ j, j < fs.length → ∃ fa fc, w15.cell? ⟨gb, go' + j, none⟩ = some (.slice fa (fs.getD j []).length fc) ∧ Row w15 fa (fs.getD j []) ∧ (fs.getD j []).length ≤ fc ∧ (fa = none → fc = 0)) := hgc
          clear hgc
          go_wp2
          go_loopw [25] (fun i wr => ∃ p : Nat, p ≤ fs.length ∧ i = .int .i64 p ∧ Hid (∃ q, wr = w15.drewN q)) (fun i _ => fs.length - (intOf i).toNat)
          case atStart => exact ⟨0, Nat.zero_le _, rfl, ⟨0, rfl⟩⟩
          case round =>
            obtain ⟨p, hp, rfl, hq⟩ := hrel
            by_cases hpl : p < fs.length
            · obtain ⟨f, hf⟩ : ∃ f, f = fs.getD p [] := ⟨_, rfl⟩
              obtain ⟨fa1, fc1, hcell1, hR1⟩ : ∃ fa fc, wr.cell? ⟨gb, go' + p, none⟩ = some (.slice fa f.length fc) ∧ Row wr fa f := by
                obtain ⟨q, e⟩ := hq.out
                obtain ⟨fa, fc, h1, h2, _⟩ := HGC.out p hpl
                rw [← hf] at h1 h2
                rw [e]
                exact ⟨fa, fc, h1, h2⟩
              obtain ⟨fa2, fc2, hcell2, hR2⟩ : ∃ fa fc, wr.cell? ⟨b2, off2 + p, none⟩ = some (.slice fa f.length fc) ∧ Row wr fa f := by
                obtain ⟨q, e⟩ := hq.out
                rcases (HROWL.out.below hb1).below hC14 with h | ⟨b', off', e', hc⟩
                · exact absurd h hne
                · cases e'
                  obtain ⟨fa, fc, h1, h2, _⟩ := hc p hpl
                  rw [← hf] at h1 h2
                  rw [e]
                  exact ⟨fa, fc, h1, h2⟩
              clear hf
              have i1 : (0 : Int) ≤ (p : Int) := by omega
              have i2 : (p : Int) < (fs.length : Int) := by omega
              go_wp2
              go_quiet ((go_at_call 15; exact Calls.quiet_of_same (same_true fa1 fa2 f.length f.length fc1 fc2 f _ (hR1.drewN _) (hR2.drewN _) rfl rfl)))
              go_wp2
              go_roundw
              case rel => exact ⟨p + 1, by omega, by go_num, drewN_more hq.out _⟩
              case measure => simp [intOf]; omega
            · have hCr : Below w1.heap.size w1 wr := by
                obtain ⟨q, e⟩ := hq.out
                rw [e]
                exact hC14.trans (drewN_below0 _ q w1.heap.size)
              go_wp2_with fail
              refine (readFields_sl a bs.length cap bs _ (hr1.below hCr) rfl hcap (by omega)).mono ?_
              rintro e w16 ⟨L', az, ls, cs, E', rfl, hls, hsrow, hb16, hX'⟩
              have hC16 : Below w1.heap.size w1 w16 := hCr.trans (hb16.mono hCr.size)
              clear hb16
              go_wp2_with fail
              refine (fields_again bs L' E' az ls cs _ hsrow hls.out hX').mono ?_
              rintro e w17 ⟨at2, lt2, ct2, T2, rfl, hT2l, hT2row, hb17, hE⟩
              have hC17 : Below w1.heap.size w1 w17 := hC16.trans (hb17.mono hC16.size)
              clear hb17 hsrow hX'
              rcases hE.out with ⟨rfl, rfl⟩ | rfl
              · go_wp2_with fail
                refine (same_true at2 a lt2 _ ct2 cap T2 _ hT2row (hr1.below hC17) hT2l.out rfl).mono ?_
                rintro e w18 ⟨rfl, rfl⟩
                go_wp2
                go_ret
                exact ⟨rfl, hb1.trans (hC17.mono hb1.size)⟩
              · go_wp2
                go_ret
                exact ⟨rfl, hb1.trans (hC17.mono hb1.size)⟩
        · clear hK2 hno
          have q0 : ((4 : Int) == 0) = false := rfl
          go_wp2
          go_quiet (fail)
          go_wp2_with fail
          have hC10 := hC7.trans (drewN_below0 _ nq w1.heap.size)
          clear hC7
          refine (hex_any a cap bs _ (hr1.below hC10) (by omega)).mono ?_
          rintro e w11 ⟨rfl, hb11⟩
          have hC11 : Below w1.heap.size w1 w11 := hC10.trans (hb11.mono hC10.size)
          clear hb11
          go_wp2_with fail
          refine (readHex_back bs _ hbl).mono ?_
          rintro e w12 ⟨ah, lh, ch, rfl, hhl, hhrow, hb12⟩
          have hC12 : Below w1.heap.size w1 w12 := hC11.trans (hb12.mono hC11.size)
          clear hb12 hC11
          go_wp2_with fail
          refine (fields_len _ _ cap2 fs _ ((HROWL.out.below hb1).below hC12) rfl HFIT.out).mono ?_
          rintro e w13 ⟨at', lt', ct', rfl, htl, htc, htrow, hb13⟩
          have hC13 : Below w1.heap.size w1 w13 := hC12.trans (hb13.mono hC12.size)
          have hhrow13 := hhrow.below hb13
          clear hb13 hC12 hhrow
          go_wp2_with fail
          refine (readFields_back at' lt' ct' fs _ htrow htl.out htc HFIT.out).mono ?_
          rintro e w14 ⟨ag, cg, rfl, hgrow, hb14⟩
          have hC14 : Below w1.heap.size w1 w14 := hC13.trans (hb14.mono hC13.size)
          have hhrow14 := hhrow13.below hb14
          clear hb14 hC13 hhrow13 htrow
          go_wp2_with fail
          refine (same_true ah a lh bs.length ch cap bs _ hhrow14 (hr1.below hC14) hhl.out rfl).mono ?_
          rintro e w15 ⟨rfl, rfl⟩
          clear hhrow14
          rcases hgrow with h | ⟨gb, go', rfl, hgc⟩
          · exact absurd h hne
          have HGC : Hid (∀ j, j < fs.length → ∃ fa fc, w15.cell? ⟨gb, go' + j, none⟩ = some (.slice fa (fs.getD j []).length fc) ∧ Row w15 fa (fs.getD j []) ∧ (fs.getD j []).length ≤ fc ∧ (fa = none → fc = 0)) := hgc
          clear hgc
          go_wp2
          go_loopw [25] (fun i wr => ∃ p : Nat, p ≤ fs.length ∧ i = .int .i64 p ∧ Hid (∃ q, wr = w15.drewN q)) (fun i _ => fs.length - (intOf i).toNat)
          case atStart => exact ⟨0, Nat.zero_le _, rfl, ⟨0, rfl⟩⟩
          case round =>
            obtain ⟨p, hp, rfl, hq⟩ := hrel
            by_cases hpl : p < fs.length
            · obtain ⟨f, hf⟩ : ∃ f, f = fs.getD p [] := ⟨_, rfl⟩
              obtain ⟨fa1, fc1, hcell1, hR1⟩ : ∃ fa fc, wr.cell? ⟨gb, go' + p, none⟩ = some (.slice fa f.length fc) ∧ Row wr fa f := by
                obtain ⟨q, e⟩ := hq.out
                obtain ⟨fa, fc, h1, h2, _⟩ := HGC.out p hpl
                rw [← hf] at h1 h2
                rw [e]
                exact ⟨fa, fc, h1, h2⟩
              obtain ⟨fa2, fc2, hcell2, hR2⟩ : ∃ fa fc, wr.cell? ⟨b2, off2 + p, none⟩ = some (.slice fa f.length fc) ∧ Row wr fa f := by
                obtain ⟨q, e⟩ := hq.out
                rcases (HROWL.out.below hb1).below hC14 with h | ⟨b', off', e', hc⟩
                · exact absurd h hne
                · cases e'
                  obtain ⟨fa, fc, h1, h2, _⟩ := hc p hpl
                  rw [← hf] at h1 h2
                  rw [e]
                  exact ⟨fa, fc, h1, h2⟩
              clear hf
              have i1 : (0 : Int) ≤ (p : Int) := by omega
              have i2 : (p : Int) < (fs.length : Int) := by omega
              go_wp2
              go_quiet ((go_at_call 15; exact Calls.quiet_of_same (same_true fa1 fa2 f.length f.length fc1 fc2 f _ (hR1.drewN _) (hR2.drewN _) rfl rfl)))
              go_wp2
              go_roundw
              case rel => exact ⟨p + 1, by omega, by go_num, drewN_more hq.out _⟩
              case measure => simp [intOf]; omega
            · have hCr : Below w1.heap.size w1 wr := by
                obtain ⟨q, e⟩ := hq.out
                rw [e]
                exact hC14.trans (drewN_below0 _ q w1.heap.size)
              go_wp2_with fail
              refine (readFields_sl a bs.length cap bs _ (hr1.below hCr) rfl hcap (by omega)).mono ?_
              rintro e w16 ⟨L', az, ls, cs, E', rfl, hls, hsrow, hb16, hX'⟩
              have hC16 : Below w1.heap.size w1 w16 := hCr.trans (hb16.mono hCr.size)
              clear hb16
              go_wp2_with fail
              refine (fields_again bs L' E' az ls cs _ hsrow hls.out hX').mono ?_
              rintro e w17 ⟨at2, lt2, ct2, T2, rfl, hT2l, hT2row, hb17, hE⟩
              have hC17 : Below w1.heap.size w1 w17 := hC16.trans (hb17.mono hC16.size)
              clear hb17 hsrow hX'
              rcases hE.out with ⟨rfl, rfl⟩ | rfl
              · go_wp2_with fail
                refine (same_true at2 a lt2 _ ct2 cap T2 _ hT2row (hr1.below hC17) hT2l.out rfl).mono ?_
                rintro e w18 ⟨rfl, rfl⟩
                go_wp2
                go_ret
                exact ⟨rfl, hb1.trans (hC17.mono hb1.size)⟩
              · go_wp2
                go_ret
                exact ⟨rfl, hb1.trans (hC17.mono hb1.size)⟩
      · refine (number_bad ax cx 0 _ (by omega)).mono ?_
        rintro e w3 ⟨rfl, rfl⟩
        clear hX xbad
        go_wp2_with fail
        refine (short_any n hn _).mono ?_
        rintro e w4 ⟨v1, rfl, hown1, hb4⟩
        have hC4 : Below w1.heap.size w1 w4 := hC2.trans (hb4.mono hC2.size)
        have hs10 := short_length 9 n
        have hsz4 := hb4.size
        have hsz3 := hC2.size
        go_wp2_with (at_builtin; refine appRow (.tmp 83) (.tmp 84) w3.heap.size _ (short 9 n) _ _ _ bs rfl rfl rfl rfl hown1 (hr1.below hC4) rfl hnil (by omega) hsz4 ?_)
        intro v2 w5 hown2 hb5
        have hC5 : Below w1.heap.size w1 w5 := hC4.trans (hb5.mono hsz3)
        clear hown1 hb4 hb5 hC4
        obtain ⟨a2, c2, hv2, hle2, _, hrow2⟩ := hown2.row
        obtain ⟨L2, hL2⟩ : ∃ L2, (short 9 n ++ bs).length = L2 := ⟨_, rfl⟩
        have hL2b : L2 ≤ 1000 := by rw [← hL2]; simp; omega
        rw [hL2] at hv2
        have HL2 : Hid ((short 9 n ++ bs).length = L2) := hL2
        rw [hv2]
        clear hv2 hown2 hL2 v2
        go_wp2_with fail
        refine (readShort_row a2 L2 c2 (short 9 n ++ bs) _ hrow2 HL2.out (by omega)).mono ?_
        rintro e w6 ⟨⟨k', used, g, rfl, hK⟩, rfl⟩
        have hk3 : k' = n ∧ used = (short 9 n).length ∧ g = 0 := by
          rcases hK.out with ⟨rfl, hr⟩ | ⟨_, _, _, hno⟩
          · obtain ⟨e1, e2⟩ := reads_short_one hn hr
            exact ⟨e1, e2, rfl⟩
          · exact absurd (reads_short n hn bs) (hno _ _)
        obtain ⟨e1, e2, e3⟩ := hk3
        clear hK hrow2
        subst e1 e2 e3
        go_wp2_with fail
        refine (short_any k' hn _).mono ?_
        rintro e w7 ⟨v3, rfl, hown3, hb7⟩
        obtain ⟨a3, c3, hv3, _, _, _⟩ := hown3.row
        rw [hv3]
        have hC7 : Below w1.heap.size w1 w7 := hC5.trans (hb7.mono hC5.size)
        clear hv3 hown3 hb7 hC5 v3
        go_wp2_with fail
        refine (readShort_row a bs.length cap bs _ (hr1.below hC7) rfl (by omega)).mono ?_
        rintro e w8 ⟨⟨m, used2, g2, rfl, hK2⟩, rfl⟩
        rcases hK2.out with ⟨rfl, hr⟩ | ⟨rfl, rfl, rfl, hno⟩
        · have hu1 := (reads_shape hr).1
          have hu2 : used2 ≤ bs.length := hr.2.1
          have hm64 : m < 18446744073709551616 := hr.1
          have HTK : Hid (short 9 m = bs.take used2) := hr.2.2
          clear hK2 hr
          have q1 : decide ((used2 : Int) < 1) = false := by simp; omega
          have q2 : decide ((bs.length : Int) < (used2 : Int)) = false := by simp; omega
          have q3 : decide (bs.length < used2) = false := by simp; omega
          have hsl := fun W => run_slice_to W a bs.length cap used2 (used2 : Int) rfl (by omega)
          go_wp2
          go_region_held3 (fun _ => True) (trivial) (first | (go_at_call 16; refine (short_any m hm64 _).mono ?_; rintro e w9 ⟨v9, rfl, hown9, hb9⟩; obtain ⟨a9, c9, rfl, _, _, hrow9⟩ := hown9.row) | (go_at_call 15; refine (same_true a9 a _ used2 c9 cap (short 9 m) _ hrow9 (by rw [HTK.out]; exact (((hr1.below hC7).drew).below hb9).take used2) rfl (by rw [HTK.out, List.length_take]; omega)).mono ?_; rintro e w10 ⟨rfl, rfl⟩))
          go_wp2_with fail
          have hC10 : Below w1.heap.size w1 _ := hC7.trans (((Below.refl _ _).drew).trans (hb9.mono hC7.size))
          clear hsl q1 q2 q3 hrow9 hown9 hb9 hC7
          refine (hex_any a cap bs _ (hr1.below hC10) (by omega)).mono ?_
          rintro e w11 ⟨rfl, hb11⟩
          have hC11 : Below w1.heap.size w1 w11 := hC10.trans (hb11.mono hC10.size)
          clear hb11
          go_wp2_with fail
          refine (readHex_back bs _ hbl).mono ?_
          rintro e w12 ⟨ah, lh, ch, rfl, hhl, hhrow, hb12⟩
          have hC12 : Below w1.heap.size w1 w12 := hC11.trans (hb12.mono hC11.size)
          clear hb12 hC11
          go_wp2_with fail
          refine (fields_len _ _ cap2 fs _ ((HROWL.out.below hb1).below hC12) rfl HFIT.out).mono ?_
          rintro e w13 ⟨at', lt', ct', rfl, htl, htc, htrow, hb13⟩
          have hC13 : Below w1.heap.size w1 w13 := hC12.trans (hb13.mono hC12.size)
          have hhrow13 := hhrow.below hb13
          clear hb13 hC12 hhrow
          go_wp2_with fail
          refine (readFields_back at' lt' ct' fs _ htrow htl.out htc HFIT.out).mono ?_
          rintro e w14 ⟨ag, cg, rfl, hgrow, hb14⟩
          have hC14 : Below w1.heap.size w1 w14 := hC13.trans (hb14.mono hC13.size)
          have hhrow14 := hhrow13.below hb14
          clear hb14 hC13 hhrow13 htrow
          go_wp2_with fail
          refine (same_true ah a lh bs.length ch cap bs _ hhrow14 (hr1.below hC14) hhl.out rfl).mono ?_
          rintro e w15 ⟨rfl, rfl⟩
          clear hhrow14
          rcases hgrow with h | ⟨gb, go', rfl, hgc⟩
          · exact absurd h hne
          have HGC : Hid (∀ j, j < fs.length → ∃ fa fc, w15.cell? ⟨gb, go' + j, none⟩ = some (.slice fa (fs.getD j []).length fc) ∧ Row w15 fa (fs.getD j []) ∧ (fs.getD j []).length ≤ fc ∧ (fa = none → fc = 0)) := hgc
          clear hgc
          go_wp2
          go_loopw [25] (fun i wr => ∃ p : Nat, p ≤ fs.length ∧ i = .int .i64 p ∧ Hid (∃ q, wr = w15.drewN q)) (fun i _ => fs.length - (intOf i).toNat)
          case atStart => exact ⟨0, Nat.zero_le _, rfl, ⟨0, rfl⟩⟩
          case round =>
            obtain ⟨p, hp, rfl, hq⟩ := hrel
            by_cases hpl : p < fs.length
            · obtain ⟨f, hf⟩ : ∃ f, f = fs.getD p [] := ⟨_, rfl⟩
              obtain ⟨fa1, fc1, hcell1, hR1⟩ : ∃ fa fc, wr.cell? ⟨gb, go' + p, none⟩ = some (.slice fa f.length fc) ∧ Row wr fa f := by
                obtain ⟨q, e⟩ := hq.out
                obtain ⟨fa, fc, h1, h2, _⟩ := HGC.out p hpl
                rw [← hf] at h1 h2
                rw [e]
                exact ⟨fa, fc, h1, h2⟩
              obtain ⟨fa2, fc2, hcell2, hR2⟩ : ∃ fa fc, wr.cell? ⟨b2, off2 + p, none⟩ = some (.slice fa f.length fc) ∧ Row wr fa f := by
                obtain ⟨q, e⟩ := hq.out
                rcases (HROWL.out.below hb1).below hC14 with h | ⟨b', off', e', hc⟩
                · exact absurd h hne
                · cases e'
                  obtain ⟨fa, fc, h1, h2, _⟩ := hc p hpl
                  rw [← hf] at h1 h2
                  rw [e]
                  exact ⟨fa, fc, h1, h2⟩
              clear hf
              have i1 : (0 : Int) ≤ (p : Int) := by omega
              have i2 : (p : Int) < (fs.length : Int) := by omega
              go_wp2
              go_quiet ((go_at_call 15; exact Calls.quiet_of_same (same_true fa1 fa2 f.length f.length fc1 fc2 f _ (hR1.drewN _) (hR2.drewN _) rfl rfl)))
              go_wp2
              go_roundw
              case rel => exact ⟨p + 1, by omega, by go_num, drewN_more hq.out _⟩
              case measure => simp [intOf]; omega
            · have hCr : Below w1.heap.size w1 wr := by
                obtain ⟨q, e⟩ := hq.out
                rw [e]
                exact hC14.trans (drewN_below0 _ q w1.heap.size)
              go_wp2_with fail
              refine (readFields_sl a bs.length cap bs _ (hr1.below hCr) rfl hcap (by omega)).mono ?_
              rintro e w16 ⟨L', az, ls, cs, E', rfl, hls, hsrow, hb16, hX'⟩
              have hC16 : Below w1.heap.size w1 w16 := hCr.trans (hb16.mono hCr.size)
              clear hb16
              go_wp2_with fail
              refine (fields_again bs L' E' az ls cs _ hsrow hls.out hX').mono ?_
              rintro e w17 ⟨at2, lt2, ct2, T2, rfl, hT2l, hT2row, hb17, hE⟩
              have hC17 : Below w1.heap.size w1 w17 := hC16.trans (hb17.mono hC16.size)
              clear hb17 hsrow hX'
              rcases hE.out with ⟨rfl, rfl⟩ | rfl
              · go_wp2_with fail
                refine (same_true at2 a lt2 _ ct2 cap T2 _ hT2row (hr1.below hC17) hT2l.out rfl).mono ?_
                rintro e w18 ⟨rfl, rfl⟩
                go_wp2
                go_ret
                exact ⟨rfl, hb1.trans (hC17.mono hb1.size)⟩
              · go_wp2
                go_ret
                exact ⟨rfl, hb1.trans (hC17.mono hb1.size)⟩
        · clear hK2 hno
          have q0 : ((4 : Int) == 0) = false := rfl
          go_wp2
          go_quiet (fail)
          go_wp2_with fail
          have hC10 := hC7.trans (drewN_below0 _ nq w1.heap.size)
          clear hC7
          refine (hex_any a cap bs _ (hr1.below hC10) (by omega)).mono ?_
          rintro e w11 ⟨rfl, hb11⟩
          have hC11 : Below w1.heap.size w1 w11 := hC10.trans (hb11.mono hC10.size)
          clear hb11
          go_wp2_with fail
          refine (readHex_back bs _ hbl).mono ?_
          rintro e w12 ⟨ah, lh, ch, rfl, hhl, hhrow, hb12⟩
          have hC12 : Below w1.heap.size w1 w12 := hC11.trans (hb12.mono hC11.size)
          clear hb12 hC11
          go_wp2_with fail
          refine (fields_len _ _ cap2 fs _ ((HROWL.out.below hb1).below hC12) rfl HFIT.out).mono ?_
          rintro e w13 ⟨at', lt', ct', rfl, htl, htc, htrow, hb13⟩
          have hC13 : Below w1.heap.size w1 w13 := hC12.trans (hb13.mono hC12.size)
          have hhrow13 := hhrow.below hb13
          clear hb13 hC12 hhrow
          go_wp2_with fail
          refine (readFields_back at' lt' ct' fs _ htrow htl.out htc HFIT.out).mono ?_
          rintro e w14 ⟨ag, cg, rfl, hgrow, hb14⟩
          have hC14 : Below w1.heap.size w1 w14 := hC13.trans (hb14.mono hC13.size)
          have hhrow14 := hhrow13.below hb14
          clear hb14 hC13 hhrow13 htrow
          go_wp2_with fail
          refine (same_true ah a lh bs.length ch cap bs _ hhrow14 (hr1.below hC14) hhl.out rfl).mono ?_
          rintro e w15 ⟨rfl, rfl⟩
          clear hhrow14
          rcases hgrow with h | ⟨gb, go', rfl, hgc⟩
          · exact absurd h hne
          have HGC : Hid (∀ j, j < fs.length → ∃ fa fc, w15.cell? ⟨gb, go' + j, none⟩ = some (.slice fa (fs.getD j []).length fc) ∧ Row w15 fa (fs.getD j []) ∧ (fs.getD j []).length ≤ fc ∧ (fa = none → fc = 0)) := hgc
          clear hgc
          go_wp2
          go_loopw [25] (fun i wr => ∃ p : Nat, p ≤ fs.length ∧ i = .int .i64 p ∧ Hid (∃ q, wr = w15.drewN q)) (fun i _ => fs.length - (intOf i).toNat)
          case atStart => exact ⟨0, Nat.zero_le _, rfl, ⟨0, rfl⟩⟩
          case round =>
            obtain ⟨p, hp, rfl, hq⟩ := hrel
            by_cases hpl : p < fs.length
            · obtain ⟨f, hf⟩ : ∃ f, f = fs.getD p [] := ⟨_, rfl⟩
              obtain ⟨fa1, fc1, hcell1, hR1⟩ : ∃ fa fc, wr.cell? ⟨gb, go' + p, none⟩ = some (.slice fa f.length fc) ∧ Row wr fa f := by
                obtain ⟨q, e⟩ := hq.out
                obtain ⟨fa, fc, h1, h2, _⟩ := HGC.out p hpl
                rw [← hf] at h1 h2
                rw [e]
                exact ⟨fa, fc, h1, h2⟩
              obtain ⟨fa2, fc2, hcell2, hR2⟩ : ∃ fa fc, wr.cell? ⟨b2, off2 + p, none⟩ = some (.slice fa f.length fc) ∧ Row wr fa f := by
                obtain ⟨q, e⟩ := hq.out
                rcases (HROWL.out.below hb1).below hC14 with h | ⟨b', off', e', hc⟩
                · exact absurd h hne
                · cases e'
                  obtain ⟨fa, fc, h1, h2, _⟩ := hc p hpl
                  rw [← hf] at h1 h2
                  rw [e]
                  exact ⟨fa, fc, h1, h2⟩
              clear hf
              have i1 : (0 : Int) ≤ (p : Int) := by omega
              have i2 : (p : Int) < (fs.length : Int) := by omega
              go_wp2
              go_quiet ((go_at_call 15; exact Calls.quiet_of_same (same_true fa1 fa2 f.length f.length fc1 fc2 f _ (hR1.drewN _) (hR2.drewN _) rfl rfl)))
              go_wp2
              go_roundw
              case rel => exact ⟨p + 1, by omega, by go_num, drewN_more hq.out _⟩
              case measure => simp [intOf]; omega
            · have hCr : Below w1.heap.size w1 wr := by
                obtain ⟨q, e⟩ := hq.out
                rw [e]
                exact hC14.trans (drewN_below0 _ q w1.heap.size)
              go_wp2_with fail
              refine (readFields_sl a bs.length cap bs _ (hr1.below hCr) rfl hcap (by omega)).mono ?_
              rintro e w16 ⟨L', az, ls, cs, E', rfl, hls, hsrow, hb16, hX'⟩
              have hC16 : Below w1.heap.size w1 w16 := hCr.trans (hb16.mono hCr.size)
              clear hb16
              go_wp2_with fail
              refine (fields_again bs L' E' az ls cs _ hsrow hls.out hX').mono ?_
              rintro e w17 ⟨at2, lt2, ct2, T2, rfl, hT2l, hT2row, hb17, hE⟩
              have hC17 : Below w1.heap.size w1 w17 := hC16.trans (hb17.mono hC16.size)
              clear hb17 hsrow hX'
              rcases hE.out with ⟨rfl, rfl⟩ | rfl
              · go_wp2_with fail
                refine (same_true at2 a lt2 _ ct2 cap T2 _ hT2row (hr1.below hC17) hT2l.out rfl).mono ?_
                rintro e w18 ⟨rfl, rfl⟩
                go_wp2
                go_ret
                exact ⟨rfl, hb1.trans (hC17.mono hb1.size)⟩
              · go_wp2
                go_ret
                exact ⟨rfl, hb1.trans (hC17.mono hb1.size)⟩

end Go.Proofs.Ytjjojlfhliecnaa
