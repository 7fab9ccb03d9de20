/- The law RealTexts, walked. -/
import Derived.Test.YthemfblckliclaaRefText
namespace Go.Proofs.Ythemfblckliclaa
open Go.RowKit
set_option linter.unusedVariables false

/-- One text, told by the code and by the document. -/
def Both (fn ref : Nat) (args : Array Value) (v : Value) : Prop :=
  (∀ w, Calls Try.prog fn args w fun e w' => e = .returned v ∧ Below w.heap.size w w') ∧ (∀ w, Calls Try.prog ref args w fun e w' => e = .returned v ∧ Below w.heap.size w w')

theorem below_q {w w' : World} (h : ∃ q, w' = w.drewN q) : Below w.heap.size w w' := by
  obtain ⟨q, rfl⟩ := h
  exact below_drewN (Below.refl _ _) q

theorem parse_both (l : List UInt8) (hl : l.length ≤ 100) : ∃ (y : Nat) (E : Int), Both 31 32 #[.string ⟨l.toArray⟩] (.tuple #[.int .u64 (y : Int), .int .i64 E]) ∧ ((E = 0) ∨ (E = 4 ∧ y = 0)) := by
  by_cases h : IsLit l
  · refine ⟨quo (litNum l) (10 ^ (behindOf l).length), 0, ⟨fun w => ?_, fun w => ?_⟩, .inl rfl⟩
    · refine (parse_lit l (by omega) h _ rfl w).mono ?_
      rintro e w' ⟨rfl, hq⟩; exact ⟨rfl, below_q hq⟩
    · refine (refParse_any ⟨l.toArray⟩ w (by rw [size_mk]; omega)).mono ?_
      rintro e w' ⟨hp, hq⟩
      have hp : ParsePost l e := hp
      rcases hp with ⟨_, rfl⟩ | ⟨h', _⟩
      · exact ⟨rfl, below_q hq⟩
      · exact absurd h h'
  · refine ⟨0, 4, ⟨fun w => ?_, fun w => ?_⟩, .inr ⟨rfl, rfl⟩⟩
    · refine (parse_not l (by omega) h w).mono ?_
      rintro e w' ⟨rfl, hq⟩; exact ⟨rfl, below_q hq⟩
    · refine (refParse_any ⟨l.toArray⟩ w (by rw [size_mk]; omega)).mono ?_
      rintro e w' ⟨hp, hq⟩
      have hp : ParsePost l e := hp
      rcases hp with ⟨h', _⟩ | ⟨_, rfl⟩
      · exact absurd h' h
      · exact ⟨rfl, below_q hq⟩

theorem print_both (a : Nat) (ha : a < 18446744073709551616) : ∃ (L : List UInt8) (E : Int), Both 33 34 #[.int .u64 (a : Int)] (.tuple #[.string ⟨L.toArray⟩, .int .i64 E]) := by
  cases hp : pr (home a) 1 6 with
  | some kn =>
    obtain ⟨k, n⟩ := kn
    refine ⟨litOf k n, 0, print_lit a k n _ hp rfl, fun w => ?_⟩
    refine (refPrint_lit a k n ha _ hp rfl w).mono ?_
    rintro e w' ⟨rfl, hq⟩; exact ⟨rfl, below_q hq⟩
  | none =>
    refine ⟨[], 2, print_not a hp, fun w => ?_⟩
    refine (refPrint_not a ha hp w).mono ?_
    rintro e w' ⟨rfl, hq⟩; exact ⟨rfl, below_q hq⟩

theorem text_both (a : Nat) (ha : a < 18446744073709551616) : ∃ L : List UInt8, Both 35 36 #[.int .u64 (a : Int)] (.string ⟨L.toArray⟩) := by
  refine ⟨textOf (home a), text_any a ha, fun w => ?_⟩
  refine (refText_home a (home a) rfl (home_lt ha) w).mono ?_
  rintro e w' ⟨rfl, hq⟩; exact ⟨rfl, below_q hq⟩

set_option maxRecDepth 100000 in
set_option maxHeartbeats 1600000 in
theorem texts_walk (l : List UInt8) (a : Nat) (ha : a < 18446744073709551616) (hmax : l.length ≤ 9223372036854775807) (w : World) :
    Calls Try.prog 4 #[.string ⟨l.toArray⟩, .int .u64 (a : Int)] w fun e w' => e = .returned (.bool true) ∧ Below w.heap.size w w' := by
  have hsl : (⟨l.toArray⟩ : ByteArray).size = l.length := size_mk l
  by_cases hlen : 100 < l.length
  · go_enter Try.func4, Try.ntmps4
    go_wp2
    go_ret
    exact ⟨rfl, Below.refl _ _⟩
  · obtain ⟨y, E, ⟨p1, p2⟩, hE⟩ := parse_both l (by omega)
    obtain ⟨L, E2, q1, q2⟩ := print_both a ha
    obtain ⟨T, t1, t2⟩ := text_both a ha
    have eL : (L == L) = true := by simp
    have eT : (T == T) = true := by simp
    rcases hE with rfl | ⟨rfl, rfl⟩
    all_goals
      go_enter Try.func4, Try.ntmps4
      go_wp2_with fail
      refine (p1 _).mono ?_
      rintro e w1 ⟨rfl, hb1⟩
      go_wp2_with fail
      refine (p2 _).mono ?_
      rintro e w2 ⟨rfl, hb2⟩
      have hC2 := hb1.trans (hb2.mono hb1.size)
      clear hb1 hb2
      go_wp2_with fail
      refine (q1 _).mono ?_
      rintro e w3 ⟨rfl, hb3⟩
      have hC3 := hC2.trans (hb3.mono hC2.size)
      clear hC2 hb3
      go_wp2_with fail
      refine (q2 _).mono ?_
      rintro e w4 ⟨rfl, hb4⟩
      have hC4 := hC3.trans (hb4.mono hC3.size)
      clear hC3 hb4
      go_wp2_with fail
      refine (t1 _).mono ?_
      rintro e w5 ⟨rfl, hb5⟩
      have hC5 := hC4.trans (hb5.mono hC4.size)
      clear hC4 hb5
      go_wp2_with fail
      refine (t2 _).mono ?_
      rintro e w6 ⟨rfl, hb6⟩
      have hC6 := hC5.trans (hb6.mono hC5.size)
      clear hC5 hb6
      go_wp2
      go_ret
      exact ⟨rfl, hC6⟩

end Go.Proofs.Ythemfblckliclaa
