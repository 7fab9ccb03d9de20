/- The walk of the law OctetDigits over the contracts of what it calls. -/
import Derived.Test.YtjjojlfhliecnabDigitsMath
namespace Go.Proofs.Ytjjojlfhliecnab
open Go.RowKit
set_option linter.unusedVariables false

theorem decOf_length (n : Int) : (decOf n).length ≤ 21 := by
  unfold decOf
  have := (digs_length 19 n.natAbs).1
  split <;> simp <;> omega

theorem size_mk (l : List UInt8) : (⟨l.toArray⟩ : ByteArray).size = l.length := by rw [← bytes_length]; rfl

theorem bytes_mk (l : List UInt8) : bytes ⟨l.toArray⟩ = l := rfl

/-- ReadDec of what Dec told. -/
theorem readBack_dec (n : Int) (w : World) (h1 : n ≤ 9223372036854775807) (h2 : -9223372036854775808 ≤ n) :
    Calls Try.prog 7 #[.string ⟨(decOf n).toArray⟩, .int .i64 9223372036854775807] w fun e w' => (∃ d h : Int, e = .returned (.tuple #[.int .i64 d, .int .i64 h]) ∧ Hid ((n < 0 ∧ d = 0 ∧ h = 4) ∨ (0 ≤ n ∧ d = n ∧ h = 0))) ∧ Below w.heap.size w w' := by
  refine (readDec_any ⟨(decOf n).toArray⟩ 9223372036854775807 w (by have := decOf_length n; rw [size_mk]; omega) (by omega) (by omega)).mono ?_
  rintro e w' ⟨⟨d, h, rfl, hD⟩, q, rfl⟩
  refine ⟨⟨d, h, rfl, ?_⟩, drewN_below0 _ _ _⟩
  rw [bytes_mk] at hD
  unfold decOf at hD
  by_cases hn : n < 0
  · rw [if_pos hn] at hD
    left
    rcases hD with ⟨a, _⟩ | ⟨_, _, a, b⟩ | ⟨_, a, _⟩ | ⟨_, a, _⟩
    · omega
    · exact ⟨hn, a, b⟩
    · exact absurd a (bad_neg _)
    · exact absurd a (bad_neg _)
  · rw [if_neg hn] at hD
    right
    obtain ⟨g1, g2⟩ := good_digs n.natAbs (by omega)
    rcases hD with ⟨a, _⟩ | ⟨_, a, _⟩ | ⟨_, _, a, _⟩ | ⟨_, _, _, a, b⟩
    · omega
    · exact absurd g1 a
    · rw [g2] at a; omega
    · exact ⟨by omega, by rw [a, g2]; omega, b⟩

/-- ReadDec of any text: what is read is told again. -/
theorem readDec_told (l : List UInt8) (w : World) (hl : l.length ≤ 300) :
    Calls Try.prog 7 #[.string ⟨l.toArray⟩, .int .i64 9223372036854775807] w fun e w' => (∃ d h : Int, e = .returned (.tuple #[.int .i64 d, .int .i64 h]) ∧ Hid ((h = 0 ∧ 0 ≤ d ∧ d ≤ 9223372036854775807 ∧ decOf d = l) ∨ (h = 4 ∨ h = 3))) ∧ Below w.heap.size w w' := by
  refine (readDec_any ⟨l.toArray⟩ 9223372036854775807 w (by rw [size_mk]; omega) (by omega) (by omega)).mono ?_
  rintro e w' ⟨⟨d, h, rfl, hD⟩, q, rfl⟩
  refine ⟨⟨d, h, rfl, ?_⟩, drewN_below0 _ _ _⟩
  rw [bytes_mk] at hD
  rcases hD with ⟨a, _⟩ | ⟨_, a, _, b⟩ | ⟨_, _, a, _, b⟩ | ⟨_, g, hle, a, b⟩
  · omega
  · exact .inr (.inl b)
  · exact .inr (.inr b)
  · left
    refine ⟨b, by omega, by omega, ?_⟩
    rw [a]
    unfold decOf
    rw [if_neg (by omega), show ((val l : Nat) : Int).natAbs = val l by omega]
    exact digs_of_good l g

theorem hex_len (a : Option Addr) (n cap : Nat) (bs : List UInt8) (w : World) (hrow : Row w a bs) (hn : bs.length = n) (hmax : bs.length ≤ 268435456) :
    Calls Try.prog 16 #[.slice a n cap] w fun e w' => e = .returned (.string ⟨(hexOf bs).toArray⟩) ∧ Below w.heap.size w w' := by
  subst hn
  exact hex_any a cap bs w hrow hmax

theorem unhex_len {l bs : List UInt8} (h : unhex l = some bs) : 2 * bs.length = l.length := by
  have := hex_unhex _ l bs (Nat.le_refl _) h
  rw [← this, hexOf_length]

end Go.Proofs.Ytjjojlfhliecnab
