/- The law RealOrder, walked. -/
import Derived.Test.YthemfblckliclaaAwake
namespace Go.Proofs.Ythemfblckliclaa
open Go.RowKit
set_option linter.unusedVariables false

theorem home_is (a : Nat) : (((home a : Nat) : Int) == 9221120237041090560) = isNan a := by
  cases h : isNan a
  · rw [home_real h]
    rw [beq_eq_false_iff_ne]
    intro hh
    have : a = NAN := by unfold NAN; omega
    rw [this, isNan_NAN] at h
    cases h
  · rw [home_nan h]; rfl

set_option maxRecDepth 100000 in
set_option maxHeartbeats 1600000 in
theorem order_walk_nan (a b c : Nat) (ha : a < 18446744073709551616) (hb : b < 18446744073709551616) (hn : isNan a = true ∨ isNan b = true) (w : World) :
    Calls Try.prog 6 #[.int .u64 (a : Int), .int .u64 (b : Int), .int .u64 (c : Int)] w fun e w' => e = .returned (.bool true) ∧ Below w.heap.size w w' := by
  have l1 := nan_lt hn
  have l2 := nan_lt hn.symm
  have l3 := nan_eq hn
  have ea := home_is a
  have eb := home_is b
  rcases Bool.eq_false_or_eq_true (isNan a) with h1 | h1
  · rw [h1] at ea
    go_enter Try.func6, Try.ntmps6
    go_wp2_with (first
      | (go_at_call 37; refine (awake_any _).mono ?_; rintro e w1 ⟨rfl, hb1⟩)
      | (go_at_call 23; refine (canon_any _ _).mono ?_; rintro e w' ⟨rfl, rfl⟩)
      | (go_at_call 25; refine (equal_any _ _ _).mono ?_; rintro e w' ⟨rfl, rfl⟩)
      | (go_at_call 27; refine (less_any _ _ _).mono ?_; rintro e w' ⟨rfl, rfl⟩))
    go_ret
    exact ⟨rfl, hb1⟩
  · have h2 : isNan b = true := by rcases hn with h | h; rw [h1] at h; cases h; exact h
    rw [h1] at ea
    rw [h2] at eb
    go_enter Try.func6, Try.ntmps6
    go_wp2_with (first
      | (go_at_call 37; refine (awake_any _).mono ?_; rintro e w1 ⟨rfl, hb1⟩)
      | (go_at_call 23; refine (canon_any _ _).mono ?_; rintro e w' ⟨rfl, rfl⟩)
      | (go_at_call 25; refine (equal_any _ _ _).mono ?_; rintro e w' ⟨rfl, rfl⟩)
      | (go_at_call 27; refine (less_any _ _ _).mono ?_; rintro e w' ⟨rfl, rfl⟩))
    go_ret
    exact ⟨rfl, hb1⟩

set_option maxRecDepth 100000 in
set_option maxHeartbeats 1600000 in
theorem order_walk_real (a b c : Nat) (ha : a < 18446744073709551616) (hb : b < 18446744073709551616) (h1 : isNan a = false) (h2 : isNan b = false) (w : World) :
    Calls Try.prog 6 #[.int .u64 (a : Int), .int .u64 (b : Int), .int .u64 (c : Int)] w fun e w' => e = .returned (.bool true) ∧ Below w.heap.size w w' := by
  have ea := home_is a
  have eb := home_is b
  rw [h1] at ea
  rw [h2] at eb
  have l1 := lt_val h1 h2
  have l2 := lt_val h2 h1
  have l3 := eq_val h1 h2
  have l4 := lt_val (b := fneg b) (c := fneg a) (by rw [isNan_fneg hb, h2]) (by rw [isNan_fneg ha, h1])
  rw [val_fneg hb h2, val_fneg ha h1] at l4
  obtain ⟨x, hx⟩ : ∃ x, x = val a := ⟨_, rfl⟩
  obtain ⟨y, hy⟩ : ∃ x, x = val b := ⟨_, rfl⟩
  rw [← hx, ← hy] at l1 l2 l3 l4
  -- what is known of the third
  have h3 : ∃ p q : Bool, (D.order b c == some .lt) = p ∧ (D.order a c == some .lt) = q ∧ (x < y → p = true → q = true) := by
    refine ⟨_, _, rfl, rfl, fun hxy hp => ?_⟩
    cases hc : isNan c
    · rw [lt_val h2 hc, ← hy, decide_eq_true_eq] at hp
      rw [lt_val h1 hc, ← hx, decide_eq_true_eq]
      omega
    · rw [nan_lt (.inr hc)] at hp; cases hp
  obtain ⟨p, q, l5, l6, l7⟩ := h3
  have l7 : Hid (x < y → p = true → q = true) := l7
  rcases Int.lt_trichotomy x y with hxy | hxy | hxy
  · rw [decide_eq_true hxy] at l1
    rw [decide_eq_false (by omega)] at l2
    rw [decide_eq_false (by omega)] at l3
    rw [decide_eq_true (by omega)] at l4
    have key := l7.out hxy
    clear l7 hx hy hxy
    cases p
    · go_enter Try.func6, Try.ntmps6
      go_wp2_with (first
        | (go_at_call 37; refine (awake_any _).mono ?_; rintro e w1 ⟨rfl, hb1⟩)
        | (go_at_call 23; refine (canon_any _ _).mono ?_; rintro e w' ⟨rfl, rfl⟩)
        | (go_at_call 25; refine (equal_any _ _ _).mono ?_; rintro e w' ⟨rfl, rfl⟩)
        | (go_at_call_of 19 (Value.int IntKind.u64 (a : Int)); refine (neg_any a ha _).mono ?_; rintro e w' ⟨rfl, rfl⟩)
        | (go_at_call_of 19 (Value.int IntKind.u64 (b : Int)); refine (neg_any b hb _).mono ?_; rintro e w' ⟨rfl, rfl⟩)
        | (go_at_call 27; refine (less_any _ _ _).mono ?_; rintro e w' ⟨rfl, rfl⟩))
      go_ret
      exact ⟨rfl, hb1⟩
    · rw [key rfl] at l6
      clear key
      go_enter Try.func6, Try.ntmps6
      go_wp2_with (first
        | (go_at_call 37; refine (awake_any _).mono ?_; rintro e w1 ⟨rfl, hb1⟩)
        | (go_at_call 23; refine (canon_any _ _).mono ?_; rintro e w' ⟨rfl, rfl⟩)
        | (go_at_call 25; refine (equal_any _ _ _).mono ?_; rintro e w' ⟨rfl, rfl⟩)
        | (go_at_call_of 19 (Value.int IntKind.u64 (a : Int)); refine (neg_any a ha _).mono ?_; rintro e w' ⟨rfl, rfl⟩)
        | (go_at_call_of 19 (Value.int IntKind.u64 (b : Int)); refine (neg_any b hb _).mono ?_; rintro e w' ⟨rfl, rfl⟩)
        | (go_at_call 27; refine (less_any _ _ _).mono ?_; rintro e w' ⟨rfl, rfl⟩))
      go_ret
      exact ⟨rfl, hb1⟩
  · rw [decide_eq_false (by omega)] at l1
    rw [decide_eq_false (by omega)] at l2
    rw [decide_eq_true (by omega)] at l3
    rw [decide_eq_false (by omega)] at l4
    clear l7 hx hy hxy
    go_enter Try.func6, Try.ntmps6
    go_wp2_with (first
      | (go_at_call 37; refine (awake_any _).mono ?_; rintro e w1 ⟨rfl, hb1⟩)
      | (go_at_call 23; refine (canon_any _ _).mono ?_; rintro e w' ⟨rfl, rfl⟩)
      | (go_at_call 25; refine (equal_any _ _ _).mono ?_; rintro e w' ⟨rfl, rfl⟩)
      | (go_at_call_of 19 (Value.int IntKind.u64 (a : Int)); refine (neg_any a ha _).mono ?_; rintro e w' ⟨rfl, rfl⟩)
      | (go_at_call_of 19 (Value.int IntKind.u64 (b : Int)); refine (neg_any b hb _).mono ?_; rintro e w' ⟨rfl, rfl⟩)
      | (go_at_call 27; refine (less_any _ _ _).mono ?_; rintro e w' ⟨rfl, rfl⟩))
    go_ret
    exact ⟨rfl, hb1⟩
  · rw [decide_eq_false (by omega)] at l1
    rw [decide_eq_true (by omega)] at l2
    rw [decide_eq_false (by omega)] at l3
    rw [decide_eq_false (by omega)] at l4
    clear l7 hx hy hxy
    go_enter Try.func6, Try.ntmps6
    go_wp2_with (first
      | (go_at_call 37; refine (awake_any _).mono ?_; rintro e w1 ⟨rfl, hb1⟩)
      | (go_at_call 23; refine (canon_any _ _).mono ?_; rintro e w' ⟨rfl, rfl⟩)
      | (go_at_call 25; refine (equal_any _ _ _).mono ?_; rintro e w' ⟨rfl, rfl⟩)
      | (go_at_call_of 19 (Value.int IntKind.u64 (a : Int)); refine (neg_any a ha _).mono ?_; rintro e w' ⟨rfl, rfl⟩)
      | (go_at_call_of 19 (Value.int IntKind.u64 (b : Int)); refine (neg_any b hb _).mono ?_; rintro e w' ⟨rfl, rfl⟩)
      | (go_at_call 27; refine (less_any _ _ _).mono ?_; rintro e w' ⟨rfl, rfl⟩))
    go_ret
    exact ⟨rfl, hb1⟩

theorem order_walk (a b c : Nat) (ha : a < 18446744073709551616) (hb : b < 18446744073709551616) (w : World) :
    Calls Try.prog 6 #[.int .u64 (a : Int), .int .u64 (b : Int), .int .u64 (c : Int)] w fun e w' => e = .returned (.bool true) ∧ Below w.heap.size w w' := by
  cases h1 : isNan a
  · cases h2 : isNan b
    · exact order_walk_real a b c ha hb h1 h2 w
    · exact order_walk_nan a b c ha hb (.inr h2) w
  · exact order_walk_nan a b c ha hb (.inl h1) w

end Go.Proofs.Ythemfblckliclaa
