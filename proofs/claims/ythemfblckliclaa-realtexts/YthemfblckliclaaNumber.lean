/- octet.Number and the document's own Number: what they hand back. -/
import Derived.Test.YthemfblckliclaaRefDec
namespace Go.Proofs.Ythemfblckliclaa
open Go.RowKit
set_option linter.unusedVariables false

/-- The number whose bytes these are. -/
def number (bs : List UInt8) : Nat := bs.foldl (fun n b => n * 256 + b.toNat) 0

theorem number_snoc (bs : List UInt8) (b : UInt8) : number (bs ++ [b]) = number bs * 256 + b.toNat := by simp [number]

theorem take_snoc (bs : List UInt8) (k : Nat) (h : k < bs.length) : bs.take (k + 1) = bs.take k ++ [bs.getD k 0] := by
  rw [List.take_succ_eq_append_getElem h]
  simp [List.getD, List.getElem?_eq_getElem h]

theorem number_take (bs : List UInt8) (k : Nat) (h : k < bs.length) : number (bs.take (k + 1)) = number (bs.take k) * 256 + (bs.getD k 0).toNat := by
  rw [take_snoc bs k h, number_snoc]

theorem number_lt_from (bs : List UInt8) : ∀ n, bs.foldl (fun n b => n * 256 + b.toNat) n < (n + 1) * 256 ^ bs.length := by
  induction bs with
  | nil => intro n; simp
  | cons b bs ih =>
    intro n
    have h := ih (n * 256 + b.toNat)
    have hb := b.toNat_lt
    have h2 : (n * 256 + b.toNat + 1) * 256 ^ bs.length ≤ ((n + 1) * 256) * 256 ^ bs.length := Nat.mul_le_mul_right _ (by omega)
    rw [List.foldl_cons, List.length_cons, Nat.pow_succ, Nat.mul_comm (256 ^ bs.length) 256, ← Nat.mul_assoc]
    omega

theorem number_lt (bs : List UInt8) : number bs < 256 ^ bs.length := by have := number_lt_from bs 0; simpa [number] using this

theorem number_lt8 (bs : List UInt8) (k : Nat) (hl : bs.length ≤ 8) (hk : k < bs.length) : number (bs.take k) < 72057594037927936 := by
  have h := number_lt (bs.take k)
  have h2 : (bs.take k).length ≤ 7 := by simp; omega
  have h3 : 256 ^ (bs.take k).length ≤ 256 ^ 7 := Nat.pow_le_pow_right (by omega) h2
  omega

theorem or8 (n c : Nat) (h : n < 72057594037927936) (hc : c < 256) : bits .or .u64 ((n : Int) * 256) (c : Int) = ((n * 256 + c : Nat) : Int) := by
  have h1 := u64_or_nat (n * 256) c (by omega) (by omega)
  rw [nat_join 8 (n * 256) c (by omega) hc] at h1
  rw [← h1]
  congr 1

end Go.Proofs.Ythemfblckliclaa
