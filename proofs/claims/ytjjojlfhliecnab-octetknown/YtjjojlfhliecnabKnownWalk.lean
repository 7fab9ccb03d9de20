/- The walk of OctetKnown. -/
import Derived.Test.YtjjojlfhliecnabKnownParts
namespace Go.Proofs.Ytjjojlfhliecnab
open Go.RowKit
set_option linter.unusedVariables false

set_option maxRecDepth 100000 in
set_option maxHeartbeats 6400000 in
theorem known_walk (w : World) : Calls Try.prog 3 #[] w fun e w' => e = .returned (.bool true) ∧ Below w.heap.size w w' := by
  go_enter Try.func3, Try.ntmps3
  go_wp2_with fail
  refine (kn_bytes _).mono ?_
  rintro e w1 ⟨a1, l1, c1, rfl, hC1⟩
  go_wp2_with fail
  refine (kn_number _).mono ?_
  rintro e w2 ⟨rfl, hb⟩
  have hC2 := chain0 hC1 hb
  clear hb hC1
  go_wp2_with fail
  refine (kn_rs1 _ _ (row_new w2 _ [172, 2, 9] rfl)).mono ?_
  rintro e w3 ⟨rfl, hb⟩
  have hC3 := chain0 (chain0 hC2 (alloc_below _ _)) hb
  clear hb hC2
  go_wp2_with fail
  refine (kn_rs2 _ _ (row_new w3 _ [128, 0] rfl)).mono ?_
  rintro e w4 ⟨rfl, hb⟩
  have hC4 := chain0 (chain0 hC3 (alloc_below _ _)) hb
  clear hb hC3
  go_wp2_with fail
  refine (kn_rs3 _ _ (row_new w4 _ [128] rfl)).mono ?_
  rintro e w5 ⟨rfl, hb⟩
  have hC5 := chain0 (chain0 hC4 (alloc_below _ _)) hb
  clear hb hC4
  go_wp2_with fail
  refine (kn_rd _ _ _ _ (by decide) kd1).mono ?_
  rintro e w6 ⟨rfl, hb⟩
  have hC6 := chain0 hC5 hb
  clear hb hC5
  go_wp2_with fail
  refine (kn_rd _ _ _ _ (by decide) kd2).mono ?_
  rintro e w7 ⟨rfl, hb⟩
  have hC7 := chain0 hC6 hb
  clear hb hC6
  go_wp2_with fail
  refine (kn_rd _ _ _ _ (by decide) kd3).mono ?_
  rintro e w8 ⟨rfl, hb⟩
  have hC8 := chain0 hC7 hb
  clear hb hC7
  go_wp2_with fail
  refine (kn_rd _ _ _ _ (by decide) kd4).mono ?_
  rintro e w9 ⟨rfl, hb⟩
  have hC9 := chain0 hC8 hb
  clear hb hC8
  go_wp2_with fail
  refine (kn_rh1 _).mono ?_
  rintro e w10 ⟨ax, lx, cx, rfl, hxl, hx10, hb⟩
  have hC10 := chain0 hC9 hb
  clear hb hC9
  go_wp2_with fail
  refine (kn_rhn _ _ (by decide) (by decide)).mono ?_
  rintro e w11 ⟨a11, l11, c11, rfl, hb⟩
  have hC11 := chain0 hC10 hb
  have hx11 := hx10.below hb
  clear hb hC10 hx10
  go_wp2_with fail
  refine (kn_rhn _ _ (by decide) (by decide)).mono ?_
  rintro e w12 ⟨a12, l12, c12, rfl, hb⟩
  have hC12 := chain0 hC11 hb
  have hx12 := hx11.below hb
  clear hb hC11 hx11
  go_wp2_with fail
  refine (kn_words _ _ _ (by decide) kw1).mono ?_
  rintro e w13 ⟨a13, l13, c13, rfl, hb⟩
  have hC13 := chain0 hC12 hb
  have hx13 := hx12.below hb
  clear hb hC12 hx12
  go_wp2_with fail
  refine (kn_words _ _ _ (by decide) kw2).mono ?_
  rintro e w14 ⟨a14, l14, c14, rfl, hb⟩
  have hC14 := chain0 hC13 hb
  have hx14 := hx13.below hb
  clear hb hC13 hx13
  have hrf := rowL_new (w14.alloc (.cells #[.int .u8 7, .int .u8 8] 5)) (some ⟨w14.heap.size, 0, none⟩) 2 2 [7, 8] rfl (by omega) (by intro h; cases h) (row_new w14 _ [7, 8] rfl)
  have hba := alloc_below (w14.alloc (.cells #[.int .u8 7, .int .u8 8] 5)) (.cells #[.slice (some ⟨w14.heap.size, 0, none⟩) 2 2, .slice none 0 0] 22)
  have hb0 := alloc_below w14 (.cells #[.int .u8 7, .int .u8 8] 5)
  have hCa := chain0 (chain0 hC14 hb0) hba
  have hxa := (hx14.below hb0).below hba
  rw [show (w14.alloc (.cells #[.int .u8 7, .int .u8 8] 5)).heap.size = w14.heap.size + 1 by simp] at hrf
  clear hba hb0 hC14 hx14
  go_wp2_with fail
  refine (fields_len _ 2 2 [[7, 8], []] _ hrf rfl kn_fits).mono ?_
  rintro e w15 ⟨ay, ly, cy, rfl, hyl, hlc, hy15, hb⟩
  rw [kn_text] at hyl hy15
  have hly : 5 = ly := hyl.out
  subst hly
  have hC15 := chain0 hCa hb
  have hx15 := hxa.below hb
  clear hb hCa hxa hrf hyl
  obtain ⟨by0, bo, rfl⟩ : ∃ b o, ay = some ⟨b, o, none⟩ := by
    rcases hy15 with h | ⟨b, o, rfl, _⟩
    · cases h
    · exact ⟨b, o, rfl⟩
  go_wp2_with fail
  refine (kn_copy _ 5 cy [2, 2, 7, 8, 0] _ hy15 rfl (by omega) (by intro h; cases h)).mono ?_
  rintro e w16 ⟨v16, rfl, hown, hb⟩
  have hC16 := chain0 hC15 hb
  have hx16 := hx15.below hb
  have hy16 := hy15.below hb
  have hb15 := hb.size
  have hC15s := hC15.size
  clear hC15
  obtain ⟨av, cv, rfl, _, _, _⟩ := hown.row
  have hown5 : Own w15.heap.size w16 (.slice av 5 cv) [2, 2, 7, 8, 0] := hown
  clear hown
  go_wp2_with (first | (at_builtin; refine app1 (.tmp 110) (.tmp 111) 0 0 w15.heap.size _ [2, 2, 7, 8, 0] rfl rfl rfl rfl hown5 (by decide) (by decide) hb15 ?_))
  intro v17 w17 hown6 hb17
  have hC17 : Below w.heap.size w w17 := hC16.trans (hb17.mono (Nat.le_trans hC15s (Nat.le_refl _)))
  have hx17 := hx15.below (hb.trans hb17)
  have hy17 := hy15.below (hb.trans hb17)
  clear hown5 hb hb17 hx16 hy16 hC16 hx15 hy15
  obtain ⟨av6, cv6, rfl, hcv6, _, hrow6⟩ := hown6.row
  have hcv6' : 6 ≤ cv6 := hcv6
  clear hown6 hcv6
  go_wp2_with fail
  refine (kn_rf av6 cv6 w17 hrow6 hcv6').mono ?_
  rintro e w18 ⟨v18, rfl, hb⟩
  have hC18 := chain0 hC17 hb
  have hx18 := hx17.below hb
  have hy18 := hy17.below hb
  clear hb hC17 hx17 hy17 hrow6
  go_wp2_with fail
  refine (kn_repeat _).mono ?_
  rintro e w19 ⟨S, rfl, HS, hb⟩
  have hSs : S.size = 128 := by rw [← bytes_length, HS.out, Lib.repeatL_length]; rfl
  have hC19 := chain0 hC18 hb
  have hx19 := hx18.below hb
  have hy19 := hy18.below hb
  clear hb hC18 hx18 hy18
  go_wp2_with fail
  refine (kn_words3 S _ HS.out).mono ?_
  rintro e w20 ⟨a20, l20, c20, rfl, hb⟩
  have hC20 := chain0 hC19 hb
  have hx20 := hx19.below hb
  have hy20 := hy19.below hb
  clear hb hC19 hx19 hy19
  go_wp2_with fail
  refine (kn_short _).mono ?_
  rintro e w21 ⟨a21, c21, rfl, hs21, hb⟩
  have hC21 := chain0 hC20 hb
  have hx21 := hx20.below hb
  have hy21 := hy20.below hb
  clear hb hC20 hx20 hy20
  have hba := alloc_below w21 (.cells #[.int .u8 172, .int .u8 2] 5)
  have hsa := hs21.below hba
  go_wp2_with fail
  refine (kn_same a21 _ 2 2 c21 2 [172, 2] _ hsa (row_new w21 _ [172, 2] rfl) rfl rfl).mono ?_
  rintro e w22 ⟨rfl, hb⟩
  have hC22 := chain0 (chain0 hC21 hba) hb
  have hx22 := (hx21.below hba).below hb
  have hy22 := (hy21.below hba).below hb
  clear hb hba hsa hs21 hC21 hx21 hy21
  have hba := alloc_below w22 (.cells #[.int .u8 1, .int .u8 255] 5)
  go_wp2_with fail
  refine (kn_hex _ _ (row_new w22 _ [1, 255] rfl)).mono ?_
  rintro e w23 ⟨rfl, hb⟩
  have hC23 := chain0 (chain0 hC22 hba) hb
  have hx23 := (hx22.below hba).below hb
  have hy23 := (hy22.below hba).below hb
  clear hb hba hC22 hx22 hy22
  have hba := alloc_below w23 (.cells #[.int .u8 1, .int .u8 255] 5)
  have hxa := hx23.below hba
  go_wp2_with fail
  refine (kn_same ax _ lx 2 cx 2 [1, 255] _ hxa (row_new w23 _ [1, 255] rfl) hxl.out rfl).mono ?_
  rintro e w24 ⟨rfl, hb⟩
  have hC24 := chain0 (chain0 hC23 hba) hb
  have hy24 := (hy23.below hba).below hb
  clear hb hba hxa hC23 hx23 hy23
  go_wp2_with fail
  refine (awake_any _).mono ?_
  rintro e w25 ⟨rfl, hb⟩
  have hC25 := chain0 hC24 hb
  have hy25 := hy24.below hb
  clear hb hC24 hy24
  have hba := alloc_below w25 (.cells #[.int .u8 2, .int .u8 2, .int .u8 7, .int .u8 8, .int .u8 0] 5)
  have hya := hy25.below hba
  go_wp2_with fail
  refine (kn_same _ _ 5 5 cy 5 [2, 2, 7, 8, 0] _ hya (row_new w25 _ [2, 2, 7, 8, 0] rfl) rfl rfl).mono ?_
  rintro e w26 ⟨rfl, hb⟩
  have hC26 := chain0 (chain0 hC25 hba) hb
  clear hb hba hya hC25 hy25
  go_wp2
  go_ret
  exact ⟨rfl, hC26⟩

end Go.Proofs.Ytjjojlfhliecnab
