/- awake: the document's examples are answered as it says. -/
import Derived.Test.YthemfblckliclaaPrint
namespace Go.Proofs.Ythemfblckliclaa
open Go.RowKit
set_option linter.unusedVariables false

theorem parse_lit (l : List UInt8) (hmax : l.length ≤ 1099511627775) (hl : IsLit l) (n : Nat) (hn : quo (litNum l) (10 ^ (behindOf l).length) = n) (w : World) :
    Calls Try.prog 31 #[.string ⟨l.toArray⟩] w fun e w' => e = .returned (.tuple #[.int .u64 (n : Int), .int .i64 0]) ∧ ∃ q, w' = w.drewN q := by
  refine (parse_any l w hmax).mono ?_
  rintro e w' ⟨⟨_, rfl⟩ | ⟨h, _⟩, hq⟩
  · exact ⟨by rw [hn], hq⟩
  · exact absurd hl h

theorem parse_not (l : List UInt8) (hmax : l.length ≤ 1099511627775) (hl : ¬ IsLit l) (w : World) :
    Calls Try.prog 31 #[.string ⟨l.toArray⟩] w fun e w' => e = .returned (.tuple #[.int .u64 0, .int .i64 4]) ∧ ∃ q, w' = w.drewN q := by
  refine (parse_any l w hmax).mono ?_
  rintro e w' ⟨⟨h, _⟩ | ⟨_, rfl⟩, hq⟩
  · exact absurd h hl
  · exact ⟨rfl, hq⟩

theorem print_lit (a k n : Nat) (l : List UInt8) (h : pr (home a) 1 6 = some (k, n)) (hl : litOf k n = l) (w : World) :
    Calls Try.prog 33 #[.int .u64 (a : Int)] w fun e w' => e = .returned (.tuple #[.string ⟨l.toArray⟩, .int .i64 0]) ∧ Below w.heap.size w w' := by
  refine (print_any a w).mono ?_
  rintro e w' ⟨⟨k', n', h', rfl⟩ | ⟨h', _⟩, hb⟩
  · rw [h] at h'
    cases h'
    exact ⟨by rw [hl], hb⟩
  · rw [h] at h'; cases h'

theorem print_not (a : Nat) (h : pr (home a) 1 6 = none) (w : World) :
    Calls Try.prog 33 #[.int .u64 (a : Int)] w fun e w' => e = .returned (.tuple #[.string ⟨#[]⟩, .int .i64 2]) ∧ Below w.heap.size w w' := by
  refine (print_any a w).mono ?_
  rintro e w' ⟨⟨k', n', h', rfl⟩ | ⟨h', rfl⟩, hb⟩
  · rw [h] at h'; cases h'
  · exact ⟨rfl, hb⟩

theorem aw_one (w : World) : Calls Try.prog 31 #[.string { data := #[48, 46, 49] }] w fun e w' => e = .returned (.tuple #[.int .u64 4591870180066957722, .int .i64 0]) ∧ ∃ q, w' = w.drewN q := parse_lit [48, 46, 49] (by decide) (by decide +kernel) 4591870180066957722 (by decide +kernel) w
theorem aw_two (w : World) : Calls Try.prog 31 #[.string { data := #[48, 46, 50, 53] }] w fun e w' => e = .returned (.tuple #[.int .u64 4598175219545276416, .int .i64 0]) ∧ ∃ q, w' = w.drewN q := parse_lit [48, 46, 50, 53] (by decide) (by decide +kernel) 4598175219545276416 (by decide +kernel) w
theorem aw_add : fadd 4598175219545276416 4598175219545276416 = 4602678819172646912 := by decide +kernel
theorem aw_print (w : World) : Calls Try.prog 33 #[.int .u64 4602678819172646912] w fun e w' => e = .returned (.tuple #[.string { data := #[48, 46, 53] }, .int .i64 0]) ∧ Below w.heap.size w w' := print_lit 4602678819172646912 1 5 [48, 46, 53] (by decide +kernel) (by decide +kernel) w
theorem aw_int : ofInt 1 = 4607182418800017408 := by decide +kernel

set_option maxRecDepth 100000 in
set_option maxHeartbeats 1600000 in
theorem awake_any (w : World) : Calls Try.prog 37 #[] w fun e w' => e = .returned (.bool true) ∧ Below w.heap.size w w' := by
  go_enter Try.func37, Try.ntmps37
  go_wp2_with fail
  refine (aw_one _).mono ?_
  rintro e w1 ⟨rfl, q1, rfl⟩
  go_wp2_with fail
  refine (aw_two _).mono ?_
  rintro e w1 ⟨rfl, q2, rfl⟩
  go_wp2_with fail
  refine (add_any 4598175219545276416 4598175219545276416 _).mono ?_
  rintro e w1 ⟨rfl, q3, rfl⟩
  rw [aw_add]
  go_wp2_with fail
  refine (aw_print _).mono ?_
  rintro e w2 ⟨rfl, hb⟩
  go_wp2_with fail
  refine (fromInt_any 1 _).mono ?_
  rintro e w3 ⟨rfl, rfl⟩
  rw [aw_int]
  go_wp2
  go_ret
  exact ⟨rfl, (below_drewN (Below.refl _ _) _).trans hb⟩

end Go.Proofs.Ythemfblckliclaa
