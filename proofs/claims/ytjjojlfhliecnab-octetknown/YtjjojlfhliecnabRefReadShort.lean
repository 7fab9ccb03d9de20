/- The document's own ReadShort: it hands back the number whose shortest bytes stand at the beginning, and how many they are; 0 and 0 where there is none. -/
import Derived.Deep.RegionWith
import Derived.BigRegion
import Derived.Test.YtjjojlfhliecnabReadShort
namespace Go.Proofs.Ytjjojlfhliecnab
open Go.RowKit
set_option linter.unusedVariables false
attribute [local go_sem ↓] Go.wp_at_zero Go.wp_at_succ

theorem or_any (m c k : Nat) (h64 : m < 18446744073709551616) (hm : m < 128 ^ k) : ∃ N : Nat, bits .or .u64 (m : Int) (IntKind.u64.wrap ((c : Int) % 128 * 2 ^ (7 * k))) = (N : Int) ∧ N < 18446744073709551616 ∧ (c % 128 * 128 ^ k < 18446744073709551616 → N = m + c % 128 * 128 ^ k) := by
  have e : IntKind.u64.wrap ((c : Int) % 128 * 2 ^ (7 * k)) = ((c % 128 * 128 ^ k % 18446744073709551616 : Nat) : Int) := by
    rw [pow7, IntKind.wrap_u64]
    have e : (c : Int) % 128 * ((128 ^ k : Nat) : Int) = ((c % 128 * 128 ^ k : Nat) : Int) := by rw [Int.natCast_mul]; rfl
    rw [e]; rfl
  refine ⟨m ||| (c % 128 * 128 ^ k % 18446744073709551616), ?_, ?_, ?_⟩
  · rw [e, u64_or_nat _ _ h64 (by omega)]
  · exact Nat.or_lt_two_pow (n := 64) h64 (by omega)
  · intro h
    have h1 := or_groups m (c % 128) k hm h64 h
    rw [u64_or_nat _ _ h64 h] at h1
    rw [Nat.mod_eq_of_lt h]
    omega

theorem Row.take {w : World} {a : Option Addr} {bs : List UInt8} (h : Row w a bs) (k : Nat) : Row w a (bs.take k) := by
  rcases h with rfl | ⟨b, off, rfl, hc⟩
  · exact .inl (by simp)
  · exact .inr ⟨b, off, rfl, fun j hj => by rw [getD_take bs k j (by simp at hj; omega)]; exact hc j (by simp at hj; omega)⟩

theorem conv_len {w : World} {a : Option Addr} {bs : List UInt8} (h : Row w a bs) (n c : Nat) (hn : bs.length = n) : (convert 22 9 (.slice a n c)).run Try.prog w = .ok (.string ⟨bs.toArray⟩) w := by
  subst hn; exact conv_row h c

/-- What the document's ReadShort hands back. -/
def RefReadPost (bs : List UInt8) (e : Ending) : Prop :=
  (∃ n k : Nat, e = .returned (.tuple #[.int .u64 n, .int .i64 k]) ∧ ReadsAs bs n k) ∨ (e = .returned (.tuple #[.int .u64 0, .int .i64 0]) ∧ ∀ n k, ¬ ReadsAs bs n k)

theorem ref_no {bs : List UInt8} {k N : Nat} (hc : Cont bs k) (hlt : k < bs.length) (h128 : (bs.getD k 0).toNat < 128) (hN : (bs.getD k 0).toNat % 128 * 128 ^ k < 18446744073709551616 → N = dec (bs.take (k + 1)))
    (hne : short 9 N ≠ bs.take (k + 1)) (n k' : Nat) : ¬ ReadsAs bs n k' := fun h => by
  have e := reads_here h hc h128
  subst e
  obtain ⟨_, _, _, _, _, _, h7⟩ := reads_shape h
  have hs := dec_share (bs.take (k + 1)) k (by simp; omega)
  rw [getD_take bs (k + 1) k (by omega), ← h7, Nat.mul_comm] at hs
  have h1 := h.1
  have := hN (by omega)
  rw [this, ← h7] at hne
  exact hne h.2.2

end Go.Proofs.Ytjjojlfhliecnab
