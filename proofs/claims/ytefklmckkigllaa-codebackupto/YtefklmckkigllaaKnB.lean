/- CodeKnown: the walk. -/
import Derived.Test.YtefklmckkigllaaKnA
namespace Go.Proofs.Ytefklmckkigllaa
open Go.RowKit
set_option linter.unusedVariables false

theorem read_none (u : World) : Calls Try.prog 13 #[.slice none 0 0] u fun e w' => e = .returned (.tuple #[.agg #[.slice none 0 0, .int .i64 0, .slice none 0 0], .int .i64 4]) ∧ Below u.heap.size u w' := by
  refine (read_any none 0 [] u (.inl rfl) (Nat.le_refl _) (Nat.zero_le _)).mono ?_
  rintro e w' ⟨⟨y, k, he, _, h | h⟩, hb⟩
  · obtain ⟨_, rfl, rfl⟩ := h
    exact ⟨he, hb⟩
  · rw [rdN] at h
    cases h.1
theorem read_zero (u : World) (g : Nat) (hA : At 5 u g (by0.map B8)) : Calls Try.prog 13 #[.slice (some ⟨g, 0, none⟩) 7 7] u fun e w' => (∃ y0 y1 y2, e = .returned (.tuple #[.agg #[y0, y1, y2], .int .i64 0]) ∧ ∃ y : CT, y.cells = [y0, y1, y2] ∧ y.cd = cd0 ∧ y.In w'.heap.size w') ∧ Below u.heap.size u w' := by
  refine (read_any (some ⟨g, 0, none⟩) 7 by0 u (row_at hA) (by decide) (by decide)).mono ?_
  rintro e w' ⟨⟨y, k, he, hE, h | h⟩, hb⟩
  · rw [rd0] at h
    cases h.1
  · obtain ⟨hd, rfl⟩ := h
    rw [rd0] at hd
    exact ⟨⟨_, _, _, he, y, rfl, (Option.some.inj hd).symm, hE.1⟩, hb⟩
theorem check_is (y : CT) (c : Cd) (k : Nat) (hc : y.cd = c) (hk : checkC c = k) (u : World) (hI : y.In u.heap.size u) : Calls Try.prog 14 #[.agg y.cells.toArray] u fun e w' => e = .returned (.int .i64 (k : Int)) ∧ Below u.heap.size u w' := by
  have := check_any u.heap.size y u hI (Nat.le_refl _)
  rw [hc, hk] at this
  exact this

set_option maxRecDepth 100000 in
set_option maxHeartbeats 6400000 in
theorem known_any (w : World) : Calls Try.prog 4 #[] w fun e w' => e = .returned (.bool true) ∧ Below w.heap.size w w' := by
  have Q12 : Hid (∀ u, Calls Try.prog 12 #[] u fun e w' => e = .returned (.bool true) ∧ Below u.heap.size u w') := awake_any
  have QN : Hid (∀ u, Calls Try.prog 13 #[.slice none 0 0] u fun e w' => e = .returned (.tuple #[.agg #[.slice none 0 0, .int .i64 0, .slice none 0 0], .int .i64 4]) ∧ Below u.heap.size u w') := read_none
  have QZ : Hid (∀ u g, At 5 u g (by0.map B8) → Calls Try.prog 13 #[.slice (some ⟨g, 0, none⟩) 7 7] u fun e w' => (∃ y0 y1 y2, e = .returned (.tuple #[.agg #[y0, y1, y2], .int .i64 0]) ∧ ∃ y : CT, y.cells = [y0, y1, y2] ∧ y.cd = cd0 ∧ y.In w'.heap.size w') ∧ Below u.heap.size u w') := read_zero
  go_enter Try.func4, Try.ntmps4
  go_wp2_with (first
    | ((with_reducible show wpList _ _ _ _ _ _); refine wpList_build_at (P := Try.prog) rfl 35 _ rfl [.int .u8 1, .int .u64 1] (by kernel_rfl) ?_)
    | ((with_reducible show wpList _ _ _ _ _ _); refine wpList_build_at (P := Try.prog) rfl 37 _ rfl [.int .u8 1, .int .i64 0, .int .u8 1, .int .u64 1] (by kernel_rfl) ?_)
    | ((with_reducible show wpList _ _ _ _ _ _); refine wpList_one37 (by kernel_rfl) (.tmp 7) rfl [.int .u8 1, .int .i64 0, .int .u8 1, .int .u64 1] rfl rfl ?_; intro w1 hA1 hb1; refine Hid.out ?_))
  refine hidU ?_
  have l1 := hA1.lt
  have HL : Hid (At 37 w1 w.heap.size [.int .u8 1, .int .i64 0, .int .u8 1, .int .u64 1] ∧ Below w.heap.size w w1) := ⟨hA1, hb1⟩
  clear hA1 hb1
  go_wp2_with (first
    | (go_at_call 13; refine (QN.out _).mono ?_; rintro _ w2 ⟨rfl, hb2⟩)
    | ((with_reducible show wpList _ _ _ _ _ _); refine wpList_alloc_at (o := { dst := some 2, .. }) rfl 25 rfl _ 3 z25 ?_; intro w3 hA3 hb3 hs3; clear hs3)
    | ((with_reducible show wpList _ _ _ _ _ _); refine wpList_store_at (P := Try.prog) rfl 25 (.tmp 2) (.tmp 11) rfl w2.heap.size [.slice none 0 0, .int .i64 0, .slice none 0 0] rfl rfl 25 _ hA3 i25 rfl (CT.one ⟨none, 0, [], 0, none, 0, []⟩) ?_; intro w4 hA4 hb4 hs4; clear hs4; refine Hid.out ?_))
  refine hidU ?_
  have hB4 : Below w1.heap.size w1 w4 := hb4.below (hb2.trans (hb3.mono hb2.size)) hb2.size (Nat.le_trans hb2.size hb3.size)
  clear hb2 hA3 hb3 hA4 hb4 QN
  go_wp2_with (first
    | ((with_reducible show wpList _ _ _ _ _ _); refine wpList_by7 (by kernel_rfl) rfl ?_; intro w5 hA5 hb5)
    | (go_at_call 13; refine (QZ.out _ _ hA5).mono ?_; rintro _ w6 ⟨⟨y0, y1, y2, rfl, hY⟩, hb6⟩)
    | ((with_reducible show wpList _ _ _ _ _ _); refine wpList_alloc_at (o := { dst := some 4, .. }) rfl 25 rfl _ 3 z25 ?_; intro w7 hA7 hb7 hs7; clear hs7; refine Hid.out ?_))
  refine hidU ?_
  have HY : Hid (∃ y : CT, y.cells = [y0, y1, y2] ∧ y.cd = cd0 ∧ y.In w6.heap.size w6) := hY
  have hy1 : ∀ x ∈ [y0, y1, y2], x.oneCell' = true := by
    obtain ⟨y, hy, _⟩ := hY
    rw [← hy]
    exact y.one
  clear hY hA5
  go_wp2_with (first
    | ((with_reducible show wpList _ _ _ _ _ _); refine wpList_store_at (P := Try.prog) rfl 25 (.tmp 4) (.tmp 16) rfl w6.heap.size [y0, y1, y2] rfl rfl 25 _ hA7 i25 rfl hy1 ?_; intro w8 hA8 hb8 hs8; clear hs8; refine Hid.out ?_))
  refine hidU ?_
  have hB8 : Below w1.heap.size w1 w8 := by
    have h5 := hB4.trans (hb5.mono hB4.size)
    have h6 := h5.trans (hb6.mono h5.size)
    have h7 := h6.trans (hb7.mono h6.size)
    exact hb8.below h7 h6.size h7.size
  have HY8 : Hid (∃ y : CT, y.cells = [y0, y1, y2] ∧ y.cd = cd0 ∧ y.In w8.heap.size w8) := by
    obtain ⟨y, h1, h2, h3⟩ := HY.out
    refine ⟨y, h1, h2, (CT.In.old h3 (fun k hk => ?_)).up (Nat.le_trans hb7.size hb8.size)⟩
    rw [hb8.block k (Nat.lt_of_lt_of_le hk hb7.size) (by omega), hb7.block k hk]
  clear HY hB4 hb5 hb6 hb7 hb8 hA7 hy1 QZ
  go_wp2_with (first
    | (go_at_call 12; refine (Q12.out _).mono ?_; rintro _ w9 ⟨rfl, hb9⟩; refine Hid.out ?_))
  refine hidU ?_
  have hA9 := hA8.below hb9
  have e0 : w9.cell? ⟨w6.heap.size, 0, none⟩ = some y0 := by rw [hA9.cell]; rfl
  have e1 : w9.cell? ⟨w6.heap.size, 1, none⟩ = some y1 := by rw [hA9.cell]; rfl
  have e2 : w9.cell? ⟨w6.heap.size, 2, none⟩ = some y2 := by rw [hA9.cell]; rfl
  have hB9 : Below w1.heap.size w1 w9 := hB8.trans (hb9.mono hB8.size)
  have HS : Hid (∀ u g, Below w9.heap.size w9 u → At 45 u g [.slice none 0 0, .int .i64 0, .slice none 0 0] → Calls Try.prog 9 #[.agg #[y0, y1, y2], .agg #[.slice none 0 0, .int .i64 0, .slice (some ⟨g, 0, none⟩) 1 1]] u fun e w' => e = .returned (.bool true) ∧ Below u.heap.size u w') := fun u g hu hA => by
    obtain ⟨y, h1, h2, h3⟩ := HY8.out
    have hI : y.In u.heap.size u := (CT.In.old h3 (Old.of_below (hb9.trans (hu.mono hb9.size)) (Nat.le_refl _))).up (Nat.le_trans hb9.size hu.size)
    have h := sameC_any u.heap.size y ⟨none, 0, [], 0, some ⟨g, 0, none⟩, 1, [⟨none, 0, [], 0, none, 0, []⟩]⟩ u hI (in_body u g 0 i64_0 hA _ hA.lt) (Nat.le_refl _)
    rw [h1, h2, decide_eq_true (show cd0 = CT.cd ⟨none, 0, [], 0, some ⟨g, 0, none⟩, 1, [⟨none, 0, [], 0, none, 0, []⟩]⟩ from rfl)] at h
    exact h
  clear hA8 hA9 hb9 hB8 HY8 Q12
  go_wp2_with (first
    | ((with_reducible show wpList _ _ _ _ _ _); refine wpList_buildG (by kernel_rfl) 45 _ rfl [.slice none 0 0, .int .i64 0, .slice none 0 0] (by kernel_rfl) ?_)
    | ((with_reducible show wpList _ _ _ _ _ _); refine wpList_one45 (by kernel_rfl) (.tmp 30) rfl [.slice none 0 0, .int .i64 0, .slice none 0 0] rfl rfl ?_; intro w10 hA10 hb10; clear e0 e1 e2)
    | ((with_reducible show wpList _ _ _ _ _ _); refine wpList_buildG (by kernel_rfl) 25 _ rfl [.slice none 0 0, .int .i64 0, .slice (some ⟨w9.heap.size, 0, none⟩) 1 1] (by kernel_rfl) ?_)
    | (go_at_call 9; refine (HS.out _ _ hb10 hA10).mono ?_; rintro _ w11 ⟨rfl, hb11⟩; refine Hid.out ?_))
  refine hidU ?_
  have hB11 : Below w1.heap.size w1 w11 := by
    have h := hB9.trans (hb10.mono hB9.size)
    exact h.trans (hb11.mono h.size)
  clear hb10 hb11 hA10 HS hB9
  have Q65 : Hid (∀ u g, At 45 u g [.slice none 0 0, .int .i64 65, .slice none 0 0] → Calls Try.prog 14 #[.agg #[.slice none 0 0, .int .i64 0, .slice (some ⟨g, 0, none⟩) 1 1]] u fun e w' => e = .returned (.int .i64 2) ∧ Below u.heap.size u w') := fun u g hA => check_is ⟨none, 0, [], 0, some ⟨g, 0, none⟩, 1, [⟨none, 0, [], 65, none, 0, []⟩]⟩ _ 2 rfl chk65 u (in_body u g 65 ⟨by decide, by decide⟩ hA _ hA.lt)
  go_wp2_with (first
    | ((with_reducible show wpList _ _ _ _ _ _); refine wpList_buildG (by kernel_rfl) 45 _ rfl [.slice none 0 0, .int .i64 65, .slice none 0 0] (by kernel_rfl) ?_)
    | ((with_reducible show wpList _ _ _ _ _ _); refine wpList_one45 (by kernel_rfl) (.tmp 36) rfl [.slice none 0 0, .int .i64 65, .slice none 0 0] rfl rfl ?_; intro w12 hA12 hb12)
    | ((with_reducible show wpList _ _ _ _ _ _); refine wpList_buildG (by kernel_rfl) 25 _ rfl [.slice none 0 0, .int .i64 0, .slice (some ⟨w11.heap.size, 0, none⟩) 1 1] (by kernel_rfl) ?_)
    | (go_at_call 14; refine (Q65.out _ _ hA12).mono ?_; rintro _ w13 ⟨rfl, hb13⟩; refine Hid.out ?_))
  refine hidU ?_
  have hB13 : Below w1.heap.size w1 w13 := by
    have h := hB11.trans (hb12.mono hB11.size)
    exact h.trans (hb13.mono h.size)
  clear hb12 hb13 hA12 Q65 hB11
  have Q14 : Hid (∀ u, Below w1.heap.size w1 u → Calls Try.prog 15 #[.agg #[.slice none 0 0, .int .i64 7, .int .i64 0, .int .i64 1, .int .i64 0]] u fun e w' => (∃ y : CT, e = .returned (.agg y.cells.toArray) ∧ y.cd = cd1 ⟨[], 7, 0, 1, 0⟩ ∧ y.In w'.heap.size w') ∧ Below u.heap.size u w') := fun u hu => one_any ⟨none, 0, ⟨[], 7, 0, 1, 0⟩⟩ u ⟨row0 _ _, ⟨by decide, by decide⟩, i64_0, ⟨by decide, by decide⟩, i64_0⟩
  go_wp2_with (first
    | ((with_reducible show wpList _ _ _ _ _ _); refine wpList_buildG (by kernel_rfl) 49 _ rfl [.slice none 0 0, .int .i64 7, .int .i64 0, .int .i64 1, .int .i64 0] (by kernel_rfl) ?_)
    | (go_at_call 15; refine (Q14.out _ hB13).mono ?_; rintro _ w14 ⟨⟨y14, rfl, hd14, hI14⟩, hb14⟩; refine Hid.out ?_))
  refine hidU ?_
  have hB14 : Below w1.heap.size w1 w14 := hB13.trans (hb14.mono hB13.size)
  obtain ⟨c14, hc14⟩ : ∃ c, Hid (c = y14.cells.toArray) := ⟨_, (rfl : y14.cells.toArray = _)⟩
  rw [← hc14.out]
  have C14 : Hid (Calls Try.prog 14 #[.agg c14] w14 fun e w' => e = .returned (.int .i64 0) ∧ Below w14.heap.size w14 w') := by
    rw [hc14.out]
    exact check_is y14 _ 0 hd14 chkA w14 hI14
  clear Q14 hb14 hd14 hI14 hB13
  go_wp2_with (first
    | (go_at_call 14; refine C14.out.mono ?_; rintro _ w15 ⟨rfl, hb15⟩; refine Hid.out ?_))
  refine hidU ?_
  have hB15 : Below w1.heap.size w1 w15 := hB14.trans (hb15.mono hB14.size)
  clear hb15 hB14 C14
  have Q16 : Hid (∀ u, Below w1.heap.size w1 u → Calls Try.prog 15 #[.agg #[.slice none 0 0, .int .i64 7, .int .i64 0, .int .i64 2, .int .i64 0]] u fun e w' => (∃ y : CT, e = .returned (.agg y.cells.toArray) ∧ y.cd = cd1 ⟨[], 7, 0, 2, 0⟩ ∧ y.In w'.heap.size w') ∧ Below u.heap.size u w') := fun u hu => one_any ⟨none, 0, ⟨[], 7, 0, 2, 0⟩⟩ u ⟨row0 _ _, ⟨by decide, by decide⟩, i64_0, ⟨by decide, by decide⟩, i64_0⟩
  go_wp2_with (first
    | ((with_reducible show wpList _ _ _ _ _ _); refine wpList_buildG (by kernel_rfl) 49 _ rfl [.slice none 0 0, .int .i64 7, .int .i64 0, .int .i64 2, .int .i64 0] (by kernel_rfl) ?_)
    | (go_at_call 15; refine (Q16.out _ hB15).mono ?_; rintro _ w16 ⟨⟨y16, rfl, hd16, hI16⟩, hb16⟩; refine Hid.out ?_))
  refine hidU ?_
  have hB16 : Below w1.heap.size w1 w16 := hB15.trans (hb16.mono hB15.size)
  obtain ⟨c16, hc16⟩ : ∃ c, Hid (c = y16.cells.toArray) := ⟨_, (rfl : y16.cells.toArray = _)⟩
  rw [← hc16.out]
  have C16 : Hid (Calls Try.prog 14 #[.agg c16] w16 fun e w' => e = .returned (.int .i64 2) ∧ Below w16.heap.size w16 w') := by
    rw [hc16.out]
    exact check_is y16 _ 2 hd16 chkB w16 hI16
  clear Q16 hb16 hd16 hI16 hB15
  go_wp2_with (first
    | (go_at_call 14; refine C16.out.mono ?_; rintro _ w17 ⟨rfl, hb17⟩; refine Hid.out ?_))
  refine hidU ?_
  have hB17 : Below w1.heap.size w1 w17 := hB16.trans (hb17.mono hB16.size)
  clear hb17 hB16 C16
  have Q18 : Hid (∀ u, Below w1.heap.size w1 u → Calls Try.prog 15 #[.agg #[.slice (some ⟨w.heap.size, 0, none⟩) 1 1, .int .i64 5, .int .i64 0, .int .i64 0, .int .i64 0]] u fun e w' => (∃ y : CT, e = .returned (.agg y.cells.toArray) ∧ y.cd = cd1 ⟨[⟨1, 0, ⟨1, 1⟩⟩], 5, 0, 0, 0⟩ ∧ y.In w'.heap.size w') ∧ Below u.heap.size u w') := fun u hu => one_any ⟨some ⟨w.heap.size, 0, none⟩, 1, ⟨[⟨1, 0, ⟨1, 1⟩⟩], 5, 0, 0, 0⟩⟩ u ⟨row1 (⟨1, 0, ⟨1, 1⟩⟩ : Ir) (HL.out.1.below hu) ⟨by decide, i64_0, by decide, by decide⟩ (HL.out.1.below hu).lt, (⟨by decide, by decide⟩ : I64 5), i64_0, i64_0, i64_0⟩
  go_wp2_with (first
    | ((with_reducible show wpList _ _ _ _ _ _); refine wpList_buildG (by kernel_rfl) 49 _ rfl [.slice (some ⟨w.heap.size, 0, none⟩) 1 1, .int .i64 5, .int .i64 0, .int .i64 0, .int .i64 0] (by kernel_rfl) ?_)
    | (go_at_call 15; refine (Q18.out _ hB17).mono ?_; rintro _ w18 ⟨⟨y18, rfl, hd18, hI18⟩, hb18⟩; refine Hid.out ?_))
  refine hidU ?_
  have hB18 : Below w1.heap.size w1 w18 := hB17.trans (hb18.mono hB17.size)
  obtain ⟨c18, hc18⟩ : ∃ c, Hid (c = y18.cells.toArray) := ⟨_, (rfl : y18.cells.toArray = _)⟩
  rw [← hc18.out]
  have C18 : Hid (Calls Try.prog 14 #[.agg c18] w18 fun e w' => e = .returned (.int .i64 9) ∧ Below w18.heap.size w18 w') := by
    rw [hc18.out]
    exact check_is y18 _ 9 hd18 chkC w18 hI18
  clear Q18 hb18 hd18 hI18 hB17
  go_wp2_with (first
    | (go_at_call 14; refine C18.out.mono ?_; rintro _ w19 ⟨rfl, hb19⟩; refine Hid.out ?_))
  refine hidU ?_
  have hB19 : Below w1.heap.size w1 w19 := hB18.trans (hb19.mono hB18.size)
  clear hb19 hB18 C18
  go_wp2_with (first
    | ((with_reducible show wpList _ _ _ _ _ _); refine wpList_buildG (by kernel_rfl) 37 _ rfl [.int .u8 31, .int .i64 0, .int .u8 0, .int .u64 0] (by kernel_rfl) ?_)
    | ((with_reducible show wpList _ _ _ _ _ _); refine wpList_one37 (by kernel_rfl) (.tmp 61) rfl [.int .u8 31, .int .i64 0, .int .u8 0, .int .u64 0] rfl rfl ?_; intro w20 hA20 hb20; refine Hid.out ?_))
  refine hidU ?_
  have hB20 : Below w1.heap.size w1 w20 := hB19.trans (hb20.mono hB19.size)
  have HA20 : Hid (At 37 w20 w19.heap.size [.int .u8 31, .int .i64 0, .int .u8 0, .int .u64 0]) := hA20
  clear hb20 hA20 hB19
  have Q21 : Hid (Calls Try.prog 15 #[.agg #[.slice (some ⟨w19.heap.size, 0, none⟩) 1 1, .int .i64 2, .int .i64 0, .int .i64 0, .int .i64 0]] w20 fun e w' => (∃ y : CT, e = .returned (.agg y.cells.toArray) ∧ y.cd = cd1 ⟨[⟨31, 0, ⟨0, 0⟩⟩], 2, 0, 0, 0⟩ ∧ y.In w'.heap.size w') ∧ Below w20.heap.size w20 w') := one_any ⟨some ⟨w19.heap.size, 0, none⟩, 1, ⟨[⟨31, 0, ⟨0, 0⟩⟩], 2, 0, 0, 0⟩⟩ w20 ⟨row1 (⟨31, 0, ⟨0, 0⟩⟩ : Ir) HA20.out ⟨by decide, i64_0, by decide, by decide⟩ HA20.out.lt, (⟨by decide, by decide⟩ : I64 2), i64_0, i64_0, i64_0⟩
  go_wp2_with (first
    | ((with_reducible show wpList _ _ _ _ _ _); refine wpList_buildG (by kernel_rfl) 49 _ rfl [.slice (some ⟨w19.heap.size, 0, none⟩) 1 1, .int .i64 2, .int .i64 0, .int .i64 0, .int .i64 0] (by kernel_rfl) ?_)
    | (go_at_call 15; refine Q21.out.mono ?_; rintro _ w21 ⟨⟨y21, rfl, hd21, hI21⟩, hb21⟩; refine Hid.out ?_))
  refine hidU ?_
  have hB21 : Below w1.heap.size w1 w21 := hB20.trans (hb21.mono hB20.size)
  obtain ⟨c21, hc21⟩ : ∃ c, Hid (c = y21.cells.toArray) := ⟨_, (rfl : y21.cells.toArray = _)⟩
  rw [← hc21.out]
  have C21 : Hid (Calls Try.prog 14 #[.agg c21] w21 fun e w' => e = .returned (.int .i64 190) ∧ Below w21.heap.size w21 w') := by
    rw [hc21.out]
    exact check_is y21 _ 190 hd21 chkD w21 hI21
  clear Q21 hb21 hd21 hI21 hB20 HA20
  go_wp2_with (first
    | (go_at_call 14; refine C21.out.mono ?_; rintro _ w22 ⟨rfl, hb22⟩))
  go_ret
  have h22 := hB21.trans (hb22.mono hB21.size)
  exact ⟨rfl, HL.out.2.trans (h22.mono HL.out.2.size)⟩

end Go.Proofs.Ytefklmckkigllaa
