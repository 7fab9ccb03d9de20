/- The walk of the law OctetNumbers over the contracts of what it calls. -/
import Derived.WalkSmall
import Derived.Test.YtjjojlfhliecnabDigitsWalk
namespace Go.Proofs.Ytjjojlfhliecnab
open Go.RowKit
set_option linter.unusedVariables false

theorem drewN_below (w : World) (q : Nat) : Below w.heap.size w (w.drewN q) := ⟨rfl, rfl, rfl, Nat.le_refl _, fun _ _ => rfl⟩

/-- octet.Bytes, whatever is asked of it. -/
theorem bytes_all (n : Nat) (s : Int) (w : World) (hn : n < 18446744073709551616) :
    Calls Try.prog 4 #[.int .u64 n, .int .i64 s] w fun e w' => ∃ (ax : Option Addr) (lx cx : Nat) (E : Int), e = .returned (.tuple #[.slice ax lx cx, .int .i64 E]) ∧ Below w.heap.size w w' ∧
      Hid ((E = 0 ∧ 1 ≤ s ∧ s ≤ 8 ∧ n / 256 ^ s.toNat = 0 ∧ lx = (bytesOf s.toNat n).length ∧ Row w' ax (bytesOf s.toNat n)) ∨ (E = 2 ∧ lx = 0 ∧ (s < 1 ∨ 8 < s ∨ 1 ≤ s ∧ s ≤ 8 ∧ n / 256 ^ s.toNat ≠ 0))) := by
  by_cases h : s < 1 ∨ 8 < s
  · refine (bytes_bad n s hn h w).mono ?_
    rintro e w' ⟨rfl, rfl⟩
    exact ⟨none, 0, 0, 2, rfl, Below.refl _ _, .inr ⟨rfl, rfl, by omega⟩⟩
  · obtain ⟨S, rfl⟩ : ∃ S : Nat, s = (S : Int) := ⟨s.toNat, by omega⟩
    rw [Int.toNat_natCast]
    by_cases hf : n / 256 ^ S = 0
    · refine (bytes_ok n S hn (by omega) (by omega) hf w).mono ?_
      rintro e w' ⟨v, rfl, hown, hb⟩
      obtain ⟨ax, cx, rfl, _, _, hrow⟩ := hown.row
      exact ⟨ax, _, cx, 0, rfl, hb, .inl ⟨rfl, by omega, by omega, hf, rfl, hrow⟩⟩
    · refine (bytes_big n S hn (by omega) (by omega) hf w).mono ?_
      rintro e w' ⟨rfl, rfl⟩
      exact ⟨none, 0, 0, 2, rfl, Below.refl _ _, .inr ⟨rfl, rfl, .inr (.inr ⟨by omega, by omega, hf⟩)⟩⟩

/-- octet.Number, whatever is asked of it. -/
theorem number_all (a : Option Addr) (cap : Nat) (bs : List UInt8) (w : World) (hrow : Row w a bs) :
    Calls Try.prog 5 #[.slice a bs.length cap] w fun e w' => (∃ (y : Nat) (f : Int), e = .returned (.tuple #[.int .u64 y, .int .i64 f]) ∧ Hid ((1 ≤ bs.length ∧ bs.length ≤ 8 ∧ y = number bs ∧ f = 0) ∨ ((bs.length < 1 ∨ 8 < bs.length) ∧ y = 0 ∧ f = 4))) ∧ w' = w := by
  by_cases h : bs.length < 1 ∨ 8 < bs.length
  · refine (number_bad a cap bs.length w h).mono ?_
    rintro e w' ⟨rfl, rfl⟩
    exact ⟨⟨0, 4, rfl, .inr ⟨h, rfl, rfl⟩⟩, rfl⟩
  · refine (number_ok a cap bs w hrow (by omega) (by omega)).mono ?_
    rintro e w' ⟨rfl, rfl⟩
    exact ⟨⟨_, 0, rfl, .inl ⟨by omega, by omega, rfl, rfl⟩⟩, rfl⟩

/-- octet.ReadShort, whatever it reads. -/
theorem readShort_all (a : Option Addr) (cap : Nat) (bs : List UInt8) (w : World) (hrow : Row w a bs) (hmax : bs.length ≤ 1099511627776) :
    Calls Try.prog 6 #[.slice a bs.length cap] w fun e w' => (∃ (n k : Nat) (g : Int), e = .returned (.tuple #[.int .u64 n, .int .i64 k, .int .i64 g]) ∧ Hid ((g = 0 ∧ ReadsAs bs n k) ∨ (g = 4 ∧ n = 0 ∧ k = 0 ∧ ∀ n k, ¬ ReadsAs bs n k))) ∧ w' = w := by
  refine (readShort_any a cap bs w hrow hmax).mono ?_
  rintro e w' ⟨⟨n, k, rfl, h⟩ | ⟨rfl, h⟩, rfl⟩
  · exact ⟨⟨n, k, 0, rfl, .inl ⟨rfl, h⟩⟩, rfl⟩
  · exact ⟨⟨0, 0, 4, rfl, .inr ⟨rfl, rfl, rfl, h⟩⟩, rfl⟩

end Go.Proofs.Ytjjojlfhliecnab
