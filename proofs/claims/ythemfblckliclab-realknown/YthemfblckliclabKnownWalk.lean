/- The chapter's examples; and the law RealKnown, walked. -/
import Derived.Test.YthemfblckliclabBackMath
namespace Go.Proofs.Ythemfblckliclab
open Go.RowKit
set_option linter.unusedVariables false

theorem kn1 (w : World) : Calls Try.prog 6 #[.string { data := #[48, 46, 49] }] w fun e w' => e = .returned (.tuple #[.int .u64 4591870180066957722, .int .i64 0]) ∧ ∃ q, w' = w.drewN q := parse_lit [48, 46, 49] (by decide) (by decide +kernel) 4591870180066957722 (by decide +kernel) w

theorem kn2 (w : World) : Calls Try.prog 6 #[.string { data := #[48, 46, 50] }] w fun e w' => e = .returned (.tuple #[.int .u64 4596373779694328218, .int .i64 0]) ∧ ∃ q, w' = w.drewN q := parse_lit [48, 46, 50] (by decide) (by decide +kernel) 4596373779694328218 (by decide +kernel) w

theorem kn3 (w : World) : Calls Try.prog 10 #[.int .i64 1] w fun e w' => e = .returned (.int .u64 4607182418800017408) ∧ w' = w := by
  have h : ofInt 1 = 4607182418800017408 := by decide +kernel
  have := fromInt_any 1 w
  rw [h] at this
  exact this

theorem kn4 (w : World) : Calls Try.prog 10 #[.int .i64 0] w fun e w' => e = .returned (.int .u64 0) ∧ w' = w := by
  have h : ofInt 0 = 0 := by decide +kernel
  have := fromInt_any 0 w
  rw [h] at this
  exact this

theorem kn5 (w : World) : Calls Try.prog 10 #[.int .i64 4] w fun e w' => e = .returned (.int .u64 4616189618054758400) ∧ w' = w := by
  have h : ofInt 4 = 4616189618054758400 := by decide +kernel
  have := fromInt_any 4 w
  rw [h] at this
  exact this

theorem kn6 (w : World) : Calls Try.prog 11 #[.int .u64 4591870180066957722, .int .u64 4596373779694328218] w fun e w' => e = .returned (.int .u64 4599075939470750516) ∧ ∃ q, w' = w.drewN q := by
  have h : fadd 4591870180066957722 4596373779694328218 = 4599075939470750516 := by decide +kernel
  have := add_any 4591870180066957722 4596373779694328218 w
  rw [h] at this
  exact this

theorem kn7 (w : World) : Calls Try.prog 8 #[.int .u64 4599075939470750516] w fun e w' => e = .returned (.string { data := #[35, 51, 102, 100, 51, 51, 51, 51, 51, 51, 51, 51, 51, 51, 51, 51, 52] }) ∧ Below w.heap.size w w' := by
  have h : textOf (home 4599075939470750516) = [35, 51, 102, 100, 51, 51, 51, 51, 51, 51, 51, 51, 51, 51, 51, 51, 52] := by decide +kernel
  have := text_any 4599075939470750516 (by decide) w
  rw [h] at this
  exact this

theorem kn8 (w : World) : Calls Try.prog 12 #[.int .u64 4607182418800017408, .int .u64 4607182418800017408] w fun e w' => e = .returned (.int .u64 0) ∧ ∃ q, w' = w.drewN q := by
  have h : fsub 4607182418800017408 4607182418800017408 = 0 := by decide +kernel
  have := sub_any 4607182418800017408 4607182418800017408 w
  rw [h] at this
  exact this

theorem kn9 (w : World) : Calls Try.prog 8 #[.int .u64 0] w fun e w' => e = .returned (.string { data := #[48, 46, 48] }) ∧ Below w.heap.size w w' := by
  have h : textOf (home 0) = [48, 46, 48] := by decide +kernel
  have := text_any 0 (by decide) w
  rw [h] at this
  exact this

theorem kn10 (w : World) : Calls Try.prog 13 #[.int .u64 4607182418800017408, .int .u64 4616189618054758400] w fun e w' => e = .returned (.int .u64 4598175219545276416) ∧ ∃ q, w' = w.drewN q := by
  have h : fdiv 4607182418800017408 4616189618054758400 = 4598175219545276416 := by decide +kernel
  have := div_any 4607182418800017408 4616189618054758400 w
  rw [h] at this
  exact this

theorem kn11 (w : World) : Calls Try.prog 8 #[.int .u64 4598175219545276416] w fun e w' => e = .returned (.string { data := #[48, 46, 50, 53] }) ∧ Below w.heap.size w w' := by
  have h : textOf (home 4598175219545276416) = [48, 46, 50, 53] := by decide +kernel
  have := text_any 4598175219545276416 (by decide) w
  rw [h] at this
  exact this

theorem kn12 (w : World) : Calls Try.prog 13 #[.int .u64 4607182418800017408, .int .u64 0] w fun e w' => e = .returned (.int .u64 9218868437227405312) ∧ ∃ q, w' = w.drewN q := by
  have h : fdiv 4607182418800017408 0 = 9218868437227405312 := by decide +kernel
  have := div_any 4607182418800017408 0 w
  rw [h] at this
  exact this

theorem kn13 (w : World) : Calls Try.prog 8 #[.int .u64 9218868437227405312] w fun e w' => e = .returned (.string { data := #[105, 110, 102] }) ∧ Below w.heap.size w w' := by
  have h : textOf (home 9218868437227405312) = [105, 110, 102] := by decide +kernel
  have := text_any 9218868437227405312 (by decide) w
  rw [h] at this
  exact this

theorem kn14 (w : World) : Calls Try.prog 13 #[.int .u64 0, .int .u64 0] w fun e w' => e = .returned (.int .u64 9221120237041090560) ∧ ∃ q, w' = w.drewN q := by
  have h : fdiv 0 0 = 9221120237041090560 := by decide +kernel
  have := div_any 0 0 w
  rw [h] at this
  exact this

theorem kn15 (w : World) : Calls Try.prog 8 #[.int .u64 9221120237041090560] w fun e w' => e = .returned (.string { data := #[110, 97, 110] }) ∧ Below w.heap.size w w' := by
  have h : textOf (home 9221120237041090560) = [110, 97, 110] := by decide +kernel
  have := text_any 9221120237041090560 (by decide) w
  rw [h] at this
  exact this

theorem kn16 (w : World) : Calls Try.prog 14 #[.int .u64 0] w fun e w' => e = .returned (.int .u64 9223372036854775808) ∧ w' = w := by
  have h : fneg 0 = 9223372036854775808 := by decide +kernel
  have := neg_any 0 (by decide) w
  rw [h] at this
  exact this

theorem kn17 (w : World) : Calls Try.prog 8 #[.int .u64 9223372036854775808] w fun e w' => e = .returned (.string { data := #[45, 48, 46, 48] }) ∧ Below w.heap.size w w' := by
  have h : textOf (home 9223372036854775808) = [45, 48, 46, 48] := by decide +kernel
  have := text_any 9223372036854775808 (by decide) w
  rw [h] at this
  exact this

theorem kn18 (w : World) : Calls Try.prog 9 #[.int .u64 18444492273895866369] w fun e w' => e = .returned (.int .u64 9221120237041090560) ∧ w' = w := by
  have h : home 18444492273895866369 = 9221120237041090560 := by decide +kernel
  have := canon_any 18444492273895866369 w
  rw [h] at this
  exact this

theorem kn19 (w : World) : Calls Try.prog 15 #[.int .u64 18444492273895866369] w fun e w' => e = .returned (.bool false) ∧ w' = w := by
  have h : (home 18444492273895866369 == 18444492273895866369) = false := by decide +kernel
  have := may_any 18444492273895866369 w (by decide)
  rw [h] at this
  exact this

theorem kn20 (w : World) : Calls Try.prog 15 #[.int .u64 9221120237041090560] w fun e w' => e = .returned (.bool true) ∧ w' = w := by
  have h : (home 9221120237041090560 == 9221120237041090560) = true := by decide +kernel
  have := may_any 9221120237041090560 w (by decide)
  rw [h] at this
  exact this

theorem kn21 (w : World) : Calls Try.prog 16 #[.int .u64 9221120237041090560, .int .u64 9221120237041090560] w fun e w' => e = .returned (.bool false) ∧ w' = w := by
  have h : (D.order 9221120237041090560 9221120237041090560 == some .eq) = false := by decide +kernel
  have := equal_any 9221120237041090560 9221120237041090560 w
  rw [h] at this
  exact this

theorem kn22 (w : World) : Calls Try.prog 17 #[.int .u64 9221120237041090560, .int .u64 4607182418800017408] w fun e w' => e = .returned (.bool false) ∧ w' = w := by
  have h : (D.order 9221120237041090560 4607182418800017408 == some .lt) = false := by decide +kernel
  have := less_any 9221120237041090560 4607182418800017408 w
  rw [h] at this
  exact this

theorem kn23 (w : World) : Calls Try.prog 14 #[.int .u64 0] w fun e w' => e = .returned (.int .u64 9223372036854775808) ∧ w' = w := by
  have h : fneg 0 = 9223372036854775808 := by decide +kernel
  have := neg_any 0 (by decide) w
  rw [h] at this
  exact this

theorem kn24 (w : World) : Calls Try.prog 16 #[.int .u64 0, .int .u64 9223372036854775808] w fun e w' => e = .returned (.bool true) ∧ w' = w := by
  have h : (D.order 0 9223372036854775808 == some .eq) = true := by decide +kernel
  have := equal_any 0 9223372036854775808 w
  rw [h] at this
  exact this

theorem kn25 (w : World) : Calls Try.prog 14 #[.int .u64 0] w fun e w' => e = .returned (.int .u64 9223372036854775808) ∧ w' = w := by
  have h : fneg 0 = 9223372036854775808 := by decide +kernel
  have := neg_any 0 (by decide) w
  rw [h] at this
  exact this

theorem kn26 (w : World) : Calls Try.prog 17 #[.int .u64 9223372036854775808, .int .u64 0] w fun e w' => e = .returned (.bool false) ∧ w' = w := by
  have h : (D.order 9223372036854775808 0 == some .lt) = false := by decide +kernel
  have := less_any 9223372036854775808 0 w
  rw [h] at this
  exact this

theorem kn27 (w : World) : Calls Try.prog 6 #[.string { data := #[50, 46, 53] }] w fun e w' => e = .returned (.tuple #[.int .u64 4612811918334230528, .int .i64 0]) ∧ ∃ q, w' = w.drewN q := parse_lit [50, 46, 53] (by decide) (by decide +kernel) 4612811918334230528 (by decide +kernel) w

theorem kn28 (w : World) : Calls Try.prog 14 #[.int .u64 4612811918334230528] w fun e w' => e = .returned (.int .u64 13836183955189006336) ∧ w' = w := by
  have h : fneg 4612811918334230528 = 13836183955189006336 := by decide +kernel
  have := neg_any 4612811918334230528 (by decide) w
  rw [h] at this
  exact this

theorem kn29 (w : World) : Calls Try.prog 18 #[.int .u64 13836183955189006336] w fun e w' => e = .returned (.tuple #[.int .i64 (-2), .bool true]) ∧ w' = w := by
  have h : toIntOf 13836183955189006336 = (-2, true) := by decide +kernel
  have := toInt_any 13836183955189006336 w
  rw [h] at this
  exact this

theorem kn30 (w : World) : Calls Try.prog 18 #[.int .u64 9218868437227405312] w fun e w' => e = .returned (.tuple #[.int .i64 (0), .bool false]) ∧ w' = w := by
  have h : toIntOf 9218868437227405312 = (0, false) := by decide +kernel
  have := toInt_any 9218868437227405312 w
  rw [h] at this
  exact this

theorem kn31 (w : World) : Calls Try.prog 18 #[.int .u64 4890909195324358656] w fun e w' => e = .returned (.tuple #[.int .i64 (0), .bool false]) ∧ w' = w := by
  have h : toIntOf 4890909195324358656 = (0, false) := by decide +kernel
  have := toInt_any 4890909195324358656 w
  rw [h] at this
  exact this

theorem kn32 (w : World) : Calls Try.prog 10 #[.int .i64 100] w fun e w' => e = .returned (.int .u64 4636737291354636288) ∧ w' = w := by
  have h : ofInt 100 = 4636737291354636288 := by decide +kernel
  have := fromInt_any 100 w
  rw [h] at this
  exact this

theorem kn33 (w : World) : Calls Try.prog 7 #[.int .u64 4636737291354636288] w fun e w' => e = .returned (.tuple #[.string { data := #[49, 48, 48, 46, 48] }, .int .i64 0]) ∧ Below w.heap.size w w' := print_lit 4636737291354636288 1 1000 [49, 48, 48, 46, 48] (by decide +kernel) (by decide +kernel) w

theorem kn34 (w : World) : Calls Try.prog 7 #[.int .u64 9218868437227405312] w fun e w' => e = .returned (.tuple #[.string ⟨#[]⟩, .int .i64 2]) ∧ Below w.heap.size w w' := print_not 9218868437227405312 (by decide +kernel) w

/-- The texts that are no literals. -/
def badTexts : List (List UInt8) := [[], [46, 53], [49, 46], [48, 49, 46, 48], [49, 46, 48, 48, 48, 48, 48, 48, 48], [49, 50, 51, 52, 53, 54, 55, 56, 57, 48, 46, 49, 50, 51, 52, 53, 54], [49], [49, 46, 48, 32], [45, 49, 46, 48], [49, 46, 46, 48]]

theorem bad_all : ∀ l ∈ badTexts, ¬ IsLit l := by decide +kernel

set_option maxRecDepth 100000 in
set_option maxHeartbeats 6400000 in
theorem known_walk (w : World) : Calls Try.prog 4 #[] w fun e w' => e = .returned (.bool true) ∧ Below w.heap.size w w' := by
  have hc0 : Below w.heap.size w w := Below.refl _ _
  go_enter Try.func4, Try.ntmps4
  go_wp2_with fail
  refine (kn1 _).mono ?_
  rintro e v1 ⟨rfl, q1, hq1⟩
  have hc1 : Below w.heap.size w v1 := by rw [hq1]; exact below_drewN hc0 q1
  clear hc0 hq1
  go_wp2_with fail
  refine (kn2 _).mono ?_
  rintro e v2 ⟨rfl, q2, hq2⟩
  have hc2 : Below w.heap.size w v2 := by rw [hq2]; exact below_drewN hc1 q2
  clear hc1 hq2
  go_wp2_with fail
  refine (kn3 _).mono ?_
  rintro e w' ⟨rfl, hw'⟩
  rw [hw']
  clear hw' w'
  go_wp2_with fail
  refine (kn4 _).mono ?_
  rintro e w' ⟨rfl, hw'⟩
  rw [hw']
  clear hw' w'
  go_wp2_with fail
  refine (kn5 _).mono ?_
  rintro e w' ⟨rfl, hw'⟩
  rw [hw']
  clear hw' w'
  go_wp2_with fail
  refine (kn6 _).mono ?_
  rintro e v6 ⟨rfl, q6, hq6⟩
  have hc6 : Below w.heap.size w v6 := by rw [hq6]; exact below_drewN hc2 q6
  clear hc2 hq6
  go_wp2_with fail
  refine (kn7 _).mono ?_
  rintro e v7 ⟨rfl, hb7⟩
  have hc7 := hc6.trans (hb7.mono hc6.size)
  clear hc6 hb7
  go_wp2_with fail
  refine (kn8 _).mono ?_
  rintro e v8 ⟨rfl, q8, hq8⟩
  have hc8 : Below w.heap.size w v8 := by rw [hq8]; exact below_drewN hc7 q8
  clear hc7 hq8
  go_wp2_with fail
  refine (kn9 _).mono ?_
  rintro e v9 ⟨rfl, hb9⟩
  have hc9 := hc8.trans (hb9.mono hc8.size)
  clear hc8 hb9
  go_wp2_with fail
  refine (kn10 _).mono ?_
  rintro e v10 ⟨rfl, q10, hq10⟩
  have hc10 : Below w.heap.size w v10 := by rw [hq10]; exact below_drewN hc9 q10
  clear hc9 hq10
  go_wp2_with fail
  refine (kn11 _).mono ?_
  rintro e v11 ⟨rfl, hb11⟩
  have hc11 := hc10.trans (hb11.mono hc10.size)
  clear hc10 hb11
  go_wp2_with fail
  refine (kn12 _).mono ?_
  rintro e v12 ⟨rfl, q12, hq12⟩
  have hc12 : Below w.heap.size w v12 := by rw [hq12]; exact below_drewN hc11 q12
  clear hc11 hq12
  go_wp2_with fail
  refine (kn13 _).mono ?_
  rintro e v13 ⟨rfl, hb13⟩
  have hc13 := hc12.trans (hb13.mono hc12.size)
  clear hc12 hb13
  go_wp2_with fail
  refine (kn14 _).mono ?_
  rintro e v14 ⟨rfl, q14, hq14⟩
  have hc14 : Below w.heap.size w v14 := by rw [hq14]; exact below_drewN hc13 q14
  clear hc13 hq14
  go_wp2_with fail
  refine (kn15 _).mono ?_
  rintro e v15 ⟨rfl, hb15⟩
  have hc15 := hc14.trans (hb15.mono hc14.size)
  clear hc14 hb15
  go_wp2_with fail
  refine (kn16 _).mono ?_
  rintro e w' ⟨rfl, hw'⟩
  rw [hw']
  clear hw' w'
  go_wp2_with fail
  refine (kn17 _).mono ?_
  rintro e v17 ⟨rfl, hb17⟩
  have hc17 := hc15.trans (hb17.mono hc15.size)
  clear hc15 hb17
  go_wp2_with fail
  refine (kn18 _).mono ?_
  rintro e w' ⟨rfl, hw'⟩
  rw [hw']
  clear hw' w'
  go_wp2_with fail
  refine (kn19 _).mono ?_
  rintro e w' ⟨rfl, hw'⟩
  rw [hw']
  clear hw' w'
  go_wp2_with fail
  refine (kn20 _).mono ?_
  rintro e w' ⟨rfl, hw'⟩
  rw [hw']
  clear hw' w'
  go_wp2_with fail
  refine (kn21 _).mono ?_
  rintro e w' ⟨rfl, hw'⟩
  rw [hw']
  clear hw' w'
  go_wp2_with fail
  refine (kn22 _).mono ?_
  rintro e w' ⟨rfl, hw'⟩
  rw [hw']
  clear hw' w'
  go_wp2_with fail
  refine (kn23 _).mono ?_
  rintro e w' ⟨rfl, hw'⟩
  rw [hw']
  clear hw' w'
  go_wp2_with fail
  refine (kn24 _).mono ?_
  rintro e w' ⟨rfl, hw'⟩
  rw [hw']
  clear hw' w'
  go_wp2_with fail
  refine (kn25 _).mono ?_
  rintro e w' ⟨rfl, hw'⟩
  rw [hw']
  clear hw' w'
  go_wp2_with fail
  refine (kn26 _).mono ?_
  rintro e w' ⟨rfl, hw'⟩
  rw [hw']
  clear hw' w'
  go_wp2_with fail
  refine (kn27 _).mono ?_
  rintro e v27 ⟨rfl, q27, hq27⟩
  have hc27 : Below w.heap.size w v27 := by rw [hq27]; exact below_drewN hc17 q27
  clear hc17 hq27
  go_wp2_with fail
  refine (kn28 _).mono ?_
  rintro e w' ⟨rfl, hw'⟩
  rw [hw']
  clear hw' w'
  go_wp2_with fail
  refine (kn29 _).mono ?_
  rintro e w' ⟨rfl, hw'⟩
  rw [hw']
  clear hw' w'
  go_wp2_with fail
  refine (kn30 _).mono ?_
  rintro e w' ⟨rfl, hw'⟩
  rw [hw']
  clear hw' w'
  go_wp2_with fail
  refine (kn31 _).mono ?_
  rintro e w' ⟨rfl, hw'⟩
  rw [hw']
  clear hw' w'
  obtain ⟨b, hb⟩ : ∃ b, b = v27.heap.size := ⟨_, rfl⟩
  have hcells : ∀ k, k < 10 → (v27.alloc (.cells #[.string { data := #[] }, .string { data := #[46, 53] }, .string { data := #[49, 46] }, .string { data := #[48, 49, 46, 48] }, .string { data := #[49, 46, 48, 48, 48, 48, 48, 48, 48] }, .string { data := #[49, 50, 51, 52, 53, 54, 55, 56, 57, 48, 46, 49, 50, 51, 52, 53, 54] }, .string { data := #[49] }, .string { data := #[49, 46, 48, 32] }, .string { data := #[45, 49, 46, 48] }, .string { data := #[49, 46, 46, 48] }] 9)).cell? ⟨b, k, none⟩ = some (.string ⟨(badTexts.getD k []).toArray⟩) := by
    intro k hk
    have hh : (v27.alloc (.cells #[.string { data := #[] }, .string { data := #[46, 53] }, .string { data := #[49, 46] }, .string { data := #[48, 49, 46, 48] }, .string { data := #[49, 46, 48, 48, 48, 48, 48, 48, 48] }, .string { data := #[49, 50, 51, 52, 53, 54, 55, 56, 57, 48, 46, 49, 50, 51, 52, 53, 54] }, .string { data := #[49] }, .string { data := #[49, 46, 48, 32] }, .string { data := #[45, 49, 46, 48] }, .string { data := #[49, 46, 46, 48] }] 9)).heap[b]? = some (.cells #[.string { data := #[] }, .string { data := #[46, 53] }, .string { data := #[49, 46] }, .string { data := #[48, 49, 46, 48] }, .string { data := #[49, 46, 48, 48, 48, 48, 48, 48, 48] }, .string { data := #[49, 50, 51, 52, 53, 54, 55, 56, 57, 48, 46, 49, 50, 51, 52, 53, 54] }, .string { data := #[49] }, .string { data := #[49, 46, 48, 32] }, .string { data := #[45, 49, 46, 48] }, .string { data := #[49, 46, 46, 48] }] 9 (0, 0)) := by rw [hb]; exact heap_alloc_new v27 _
    simp only [World.cell?, hh]
    match k, hk with
    | 0, _ => rfl
    | 1, _ => rfl
    | 2, _ => rfl
    | 3, _ => rfl
    | 4, _ => rfl
    | 5, _ => rfl
    | 6, _ => rfl
    | 7, _ => rfl
    | 8, _ => rfl
    | 9, _ => rfl
  have hcV : Below w.heap.size w (v27.alloc (.cells #[.string { data := #[] }, .string { data := #[46, 53] }, .string { data := #[49, 46] }, .string { data := #[48, 49, 46, 48] }, .string { data := #[49, 46, 48, 48, 48, 48, 48, 48, 48] }, .string { data := #[49, 50, 51, 52, 53, 54, 55, 56, 57, 48, 46, 49, 50, 51, 52, 53, 54] }, .string { data := #[49] }, .string { data := #[49, 46, 48, 32] }, .string { data := #[45, 49, 46, 48] }, .string { data := #[49, 46, 46, 48] }] 9)) := hc27.alloc hc27.size _
  go_wp2
  obtain ⟨V, hV⟩ : ∃ V, V = v27.alloc (.cells #[.string { data := #[] }, .string { data := #[46, 53] }, .string { data := #[49, 46] }, .string { data := #[48, 49, 46, 48] }, .string { data := #[49, 46, 48, 48, 48, 48, 48, 48, 48] }, .string { data := #[49, 50, 51, 52, 53, 54, 55, 56, 57, 48, 46, 49, 50, 51, 52, 53, 54] }, .string { data := #[49] }, .string { data := #[49, 46, 48, 32] }, .string { data := #[45, 49, 46, 48] }, .string { data := #[49, 46, 46, 48] }] 9) := ⟨_, rfl⟩
  rw [← hV] at hcells hcV ⊢
  rw [← hb]
  clear hV hb hc27
  go_loopw [126] (fun i wr => ∃ k q : Nat, k ≤ 10 ∧ i = .int .i64 (k : Int) ∧ wr = V.drewN q) (fun i _ => 10 - (intOf i).toNat)
  case atStart => exact ⟨0, 0, by omega, rfl, rfl⟩
  case round =>
    obtain ⟨k, q, hk, rfl, rfl⟩ := hrel
    by_cases hc : k < 10
    · have hcell := hcells k hc
      have hnl := bad_all (badTexts.getD k []) (by
        have : badTexts.length = 10 := rfl
        rw [List.getD, List.getElem?_eq_getElem (by omega)]
        exact List.getElem_mem _)
      have hll : (badTexts.getD k []).length ≤ 100 := by
        match k, hc with
        | 0, _ => decide
        | 1, _ => decide
        | 2, _ => decide
        | 3, _ => decide
        | 4, _ => decide
        | 5, _ => decide
        | 6, _ => decide
        | 7, _ => decide
        | 8, _ => decide
        | 9, _ => decide
      obtain ⟨L, hL⟩ : ∃ L, L = badTexts.getD k [] := ⟨_, rfl⟩
      rw [← hL] at hcell hnl hll
      have hp := parse_not L (by omega) hnl
      clear hL hnl hcells
      have hcell' : (V.drewN q).cell? ⟨b, k, none⟩ = some (.string ⟨L.toArray⟩) := hcell
      go_wp2_with fail
      refine (hp _).mono ?_
      rintro e w' ⟨rfl, q2, rfl⟩
      go_wp2
      go_roundw
      case rel => exact ⟨k + 1, q + q2, by omega, by go_num, by simp⟩
      case measure => simp [intOf]; omega
    · obtain rfl : k = 10 := by omega
      have hcE : Below w.heap.size w (V.drewN q) := below_drewN hcV q
      go_wp2_with fail
      refine (kn32 _).mono ?_
      rintro e w' ⟨rfl, hw'⟩
      rw [hw']
      clear hw' w'
      go_wp2_with fail
      refine (kn33 _).mono ?_
      rintro e v33 ⟨rfl, hb33⟩
      have hc33 := hcE.trans (hb33.mono hcE.size)
      clear hcE hb33
      go_wp2_with fail
      refine (kn34 _).mono ?_
      rintro e v34 ⟨rfl, hb34⟩
      have hc34 := hc33.trans (hb34.mono hc33.size)
      clear hc33 hb34
      go_wp2_with fail
      refine (awake_any _).mono ?_
      rintro e w9 ⟨rfl, hb9⟩
      go_wp2
      go_ret
      exact ⟨rfl, hc34.trans (hb9.mono hc34.size)⟩

end Go.Proofs.Ythemfblckliclab
