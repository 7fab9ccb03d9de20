/- lex: the small functions of bytes, signs and words. -/
import Derived.Test.YtinofdmdfhklpaaDoorRows
import Derived.Test.YtinofdmdfhklpaaDoorLexMath
import Derived.WalkKit
import Derived.WalkSpells
namespace Go.Proofs.YtinofdmdfhklpaaDoor
open Go.RowKit
set_option linter.unusedVariables false
theorem isDigit_any (n : Nat) (w : World) : Calls Tryd.prog 32 #[.int .u8 (n : Int)] w fun e w' => e = .returned (.bool (isDig n)) ∧ w' = w := by
  go_enter Tryd.func32, Tryd.ntmps32
  go_wp2
  all_goals
    go_ret
    refine ⟨?_, rfl⟩
    simp [isDig]
    try (rw [Bool.eq_iff_iff]; simp)
    try omega
theorem isLetter_any (n : Nat) (w : World) : Calls Tryd.prog 24 #[.int .u8 (n : Int)] w fun e w' => e = .returned (.bool (isLet n)) ∧ w' = w := by
  go_enter Tryd.func24, Tryd.ntmps24
  go_wp2
  all_goals
    go_ret
    refine ⟨?_, rfl⟩
    simp [isLet]
    try (rw [Bool.eq_iff_iff]; simp)
    try omega
theorem kindOf_any (n : Nat) (w : World) : Calls Tryd.prog 31 #[.int .u8 (n : Int)] w fun e w' => e = .returned (.int .i64 (kindN n : Nat)) ∧ w' = w := by
  go_enter Tryd.func31, Tryd.ntmps31
  go_wp2_with fail
  refine (isLetter_any n _).mono ?_
  rintro e w1 ⟨rfl, rfl⟩
  cases h1 : isLet n
  · go_wp2_with fail
    refine (isDigit_any n _).mono ?_
    rintro e w1 ⟨rfl, rfl⟩
    cases h2 : isDig n
    · go_wp2
      go_ret
      simp [kindN, h1, h2]
    · go_wp2
      go_ret
      simp [kindN, h1, h2]
  · go_wp2
    go_ret
    simp [kindN, h1]

set_option maxRecDepth 100000 in
set_option maxHeartbeats 800000 in
theorem isSign_yes : ∀ x ∈ signs, ∀ w : World, Calls Tryd.prog 23 #[.string ⟨x.toArray⟩] w fun e w' => e = .returned (.bool true) ∧ w' = w := by
  intro x hx w
  simp only [signs, List.mem_cons, List.not_mem_nil, or_false] at hx
  rcases hx with rfl | rfl | rfl | rfl | rfl | rfl | rfl | rfl | rfl | rfl | rfl | rfl | rfl | rfl | rfl | rfl | rfl | rfl | rfl | rfl
  all_goals
    go_enter Tryd.func23, Tryd.ntmps23
    go_wp2
    go_ret
    exact ⟨rfl, rfl⟩

set_option maxRecDepth 100000 in
set_option maxHeartbeats 800000 in
theorem isSign_any (s : ByteArray) (w : World) : Calls Tryd.prog 23 #[.string s] w fun e w' => e = .returned (.bool (isSg (bytes s))) ∧ w' = w := by
  by_cases hx : bytes s ∈ signs
  · have h := isSign_yes _ hx w
    rw [← mk_bytes s] at h
    simpa only [isSg, hx, decide_true] using h
  · have hn : ¬ bytes s ∈ signs := hx
    simp only [isSg, hx, decide_false]
    clear hx
    have n0 : (s.toList == [59]) = false := by rw [toList_bytes]; simp only [beq_eq_false_iff_ne]; intro h0; exact hn (by rw [h0]; decide)
    have n1 : (s.toList == [123]) = false := by rw [toList_bytes]; simp only [beq_eq_false_iff_ne]; intro h0; exact hn (by rw [h0]; decide)
    have n2 : (s.toList == [125]) = false := by rw [toList_bytes]; simp only [beq_eq_false_iff_ne]; intro h0; exact hn (by rw [h0]; decide)
    have n3 : (s.toList == [40]) = false := by rw [toList_bytes]; simp only [beq_eq_false_iff_ne]; intro h0; exact hn (by rw [h0]; decide)
    have n4 : (s.toList == [41]) = false := by rw [toList_bytes]; simp only [beq_eq_false_iff_ne]; intro h0; exact hn (by rw [h0]; decide)
    have n5 : (s.toList == [61]) = false := by rw [toList_bytes]; simp only [beq_eq_false_iff_ne]; intro h0; exact hn (by rw [h0]; decide)
    have n6 : (s.toList == [61, 61]) = false := by rw [toList_bytes]; simp only [beq_eq_false_iff_ne]; intro h0; exact hn (by rw [h0]; decide)
    have n7 : (s.toList == [33, 61]) = false := by rw [toList_bytes]; simp only [beq_eq_false_iff_ne]; intro h0; exact hn (by rw [h0]; decide)
    have n8 : (s.toList == [60]) = false := by rw [toList_bytes]; simp only [beq_eq_false_iff_ne]; intro h0; exact hn (by rw [h0]; decide)
    have n9 : (s.toList == [60, 61]) = false := by rw [toList_bytes]; simp only [beq_eq_false_iff_ne]; intro h0; exact hn (by rw [h0]; decide)
    have n10 : (s.toList == [62]) = false := by rw [toList_bytes]; simp only [beq_eq_false_iff_ne]; intro h0; exact hn (by rw [h0]; decide)
    have n11 : (s.toList == [62, 61]) = false := by rw [toList_bytes]; simp only [beq_eq_false_iff_ne]; intro h0; exact hn (by rw [h0]; decide)
    have n12 : (s.toList == [43]) = false := by rw [toList_bytes]; simp only [beq_eq_false_iff_ne]; intro h0; exact hn (by rw [h0]; decide)
    have n13 : (s.toList == [45]) = false := by rw [toList_bytes]; simp only [beq_eq_false_iff_ne]; intro h0; exact hn (by rw [h0]; decide)
    have n14 : (s.toList == [42]) = false := by rw [toList_bytes]; simp only [beq_eq_false_iff_ne]; intro h0; exact hn (by rw [h0]; decide)
    have n15 : (s.toList == [47]) = false := by rw [toList_bytes]; simp only [beq_eq_false_iff_ne]; intro h0; exact hn (by rw [h0]; decide)
    have n16 : (s.toList == [37]) = false := by rw [toList_bytes]; simp only [beq_eq_false_iff_ne]; intro h0; exact hn (by rw [h0]; decide)
    have n17 : (s.toList == [33]) = false := by rw [toList_bytes]; simp only [beq_eq_false_iff_ne]; intro h0; exact hn (by rw [h0]; decide)
    have n18 : (s.toList == [38, 38]) = false := by rw [toList_bytes]; simp only [beq_eq_false_iff_ne]; intro h0; exact hn (by rw [h0]; decide)
    have n19 : (s.toList == [124, 124]) = false := by rw [toList_bytes]; simp only [beq_eq_false_iff_ne]; intro h0; exact hn (by rw [h0]; decide)
    clear hn
    go_enter Tryd.func23, Tryd.ntmps23
    go_wp2
    go_ret
    exact ⟨rfl, rfl⟩

set_option maxRecDepth 100000 in
set_option maxHeartbeats 800000 in
theorem word_yes : ∀ x ∈ words, ∀ w : World, Calls Tryd.prog 9 #[.string ⟨x.toArray⟩] w fun e w' => e = .returned (.bool true) ∧ w' = w := by
  intro x hx w
  simp only [words, List.mem_cons, List.not_mem_nil, or_false] at hx
  rcases hx with rfl | rfl | rfl | rfl | rfl | rfl | rfl | rfl | rfl | rfl | rfl | rfl | rfl | rfl | rfl | rfl | rfl | rfl
  all_goals
    go_enter Tryd.func9, Tryd.ntmps9
    go_wp2
    go_ret
    exact ⟨rfl, rfl⟩

set_option maxRecDepth 100000 in
set_option maxHeartbeats 800000 in
theorem word_any (s : ByteArray) (w : World) : Calls Tryd.prog 9 #[.string s] w fun e w' => e = .returned (.bool (isWd (bytes s))) ∧ w' = w := by
  by_cases hx : bytes s ∈ words
  · have h := word_yes _ hx w
    rw [← mk_bytes s] at h
    simpa only [isWd, hx, decide_true] using h
  · have hn : ¬ bytes s ∈ words := hx
    simp only [isWd, hx, decide_false]
    clear hx
    have n0 : (s.toList == [115, 104, 97, 114, 101, 100]) = false := by rw [toList_bytes]; simp only [beq_eq_false_iff_ne]; intro h0; exact hn (by rw [h0]; decide)
    have n1 : (s.toList == [109, 117, 116, 101, 120]) = false := by rw [toList_bytes]; simp only [beq_eq_false_iff_ne]; intro h0; exact hn (by rw [h0]; decide)
    have n2 : (s.toList == [116, 104, 114, 101, 97, 100]) = false := by rw [toList_bytes]; simp only [beq_eq_false_iff_ne]; intro h0; exact hn (by rw [h0]; decide)
    have n3 : (s.toList == [108, 111, 99, 97, 108]) = false := by rw [toList_bytes]; simp only [beq_eq_false_iff_ne]; intro h0; exact hn (by rw [h0]; decide)
    have n4 : (s.toList == [105, 110, 116]) = false := by rw [toList_bytes]; simp only [beq_eq_false_iff_ne]; intro h0; exact hn (by rw [h0]; decide)
    have n5 : (s.toList == [98, 111, 111, 108]) = false := by rw [toList_bytes]; simp only [beq_eq_false_iff_ne]; intro h0; exact hn (by rw [h0]; decide)
    have n6 : (s.toList == [114, 101, 97, 108]) = false := by rw [toList_bytes]; simp only [beq_eq_false_iff_ne]; intro h0; exact hn (by rw [h0]; decide)
    have n7 : (s.toList == [108, 111, 99, 107]) = false := by rw [toList_bytes]; simp only [beq_eq_false_iff_ne]; intro h0; exact hn (by rw [h0]; decide)
    have n8 : (s.toList == [117, 110, 108, 111, 99, 107]) = false := by rw [toList_bytes]; simp only [beq_eq_false_iff_ne]; intro h0; exact hn (by rw [h0]; decide)
    have n9 : (s.toList == [97, 115, 115, 101, 114, 116]) = false := by rw [toList_bytes]; simp only [beq_eq_false_iff_ne]; intro h0; exact hn (by rw [h0]; decide)
    have n10 : (s.toList == [105, 102]) = false := by rw [toList_bytes]; simp only [beq_eq_false_iff_ne]; intro h0; exact hn (by rw [h0]; decide)
    have n11 : (s.toList == [101, 108, 115, 101]) = false := by rw [toList_bytes]; simp only [beq_eq_false_iff_ne]; intro h0; exact hn (by rw [h0]; decide)
    have n12 : (s.toList == [119, 104, 105, 108, 101]) = false := by rw [toList_bytes]; simp only [beq_eq_false_iff_ne]; intro h0; exact hn (by rw [h0]; decide)
    have n13 : (s.toList == [115, 107, 105, 112]) = false := by rw [toList_bytes]; simp only [beq_eq_false_iff_ne]; intro h0; exact hn (by rw [h0]; decide)
    have n14 : (s.toList == [116, 114, 117, 101]) = false := by rw [toList_bytes]; simp only [beq_eq_false_iff_ne]; intro h0; exact hn (by rw [h0]; decide)
    have n15 : (s.toList == [102, 97, 108, 115, 101]) = false := by rw [toList_bytes]; simp only [beq_eq_false_iff_ne]; intro h0; exact hn (by rw [h0]; decide)
    have n16 : (s.toList == [110, 97, 110]) = false := by rw [toList_bytes]; simp only [beq_eq_false_iff_ne]; intro h0; exact hn (by rw [h0]; decide)
    have n17 : (s.toList == [105, 110, 102]) = false := by rw [toList_bytes]; simp only [beq_eq_false_iff_ne]; intro h0; exact hn (by rw [h0]; decide)
    clear hn
    go_enter Tryd.func9, Tryd.ntmps9
    go_wp2
    go_ret
    exact ⟨rfl, rfl⟩

theorem isPoint_any (s : ByteArray) (w : World) : Calls Tryd.prog 33 #[.string s] w fun e w' => e = .returned (.bool (isPt (bytes s))) ∧ w' = w := by
  by_cases h : 1 < s.size
  · rw [isPt_str s h]
    go_enter Tryd.func33, Tryd.ntmps33
    go_wp2
    all_goals
      go_ret
      refine ⟨?_, rfl⟩
      simp [isDig]
      try (rw [Bool.eq_iff_iff]; simp)
      try omega
  · rw [isPt_short _ (by rw [bytes_length]; exact h)]
    go_enter Tryd.func33, Tryd.ntmps33
    go_wp2
    go_ret
    exact ⟨rfl, rfl⟩

theorem letter_any (n : Nat) (w : World) : Calls Tryd.prog 27 #[.int .u8 (n : Int)] w fun e w' => e = .returned (.bool (isLet n)) ∧ w' = w := by
  go_enter Tryd.func27, Tryd.ntmps27
  go_wp2
  all_goals
    go_ret
    refine ⟨?_, rfl⟩
    simp [isLet]
    try (rw [Bool.eq_iff_iff]; simp)
    try omega

theorem digit4_any (n : Nat) (w : World) : Calls Tryd.prog 25 #[.int .u8 (n : Int)] w fun e w' => e = .returned (.bool (isDig n)) ∧ w' = w := by
  go_enter Tryd.func25, Tryd.ntmps25
  go_wp2
  all_goals
    go_ret
    refine ⟨?_, rfl⟩
    simp [isDig]
    try (rw [Bool.eq_iff_iff]; simp)
    try omega
end Go.Proofs.YtinofdmdfhklpaaDoor
