/- octet.Number and the document's own Number: what they hand back. -/
import Derived.Test.YtbehmclligkbhaaKit
namespace Go.Proofs.Ytbehmclligkbhaa
open Go.RowKit
set_option linter.unusedVariables false

/-- The number whose bytes these are. -/
def number (bs : List UInt8) : Nat := bs.foldl (fun n b => n * 256 + b.toNat) 0

theorem number_snoc (bs : List UInt8) (b : UInt8) : number (bs ++ [b]) = number bs * 256 + b.toNat := by simp [number]

theorem take_snoc (bs : List UInt8) (k : Nat) (h : k < bs.length) : bs.take (k + 1) = bs.take k ++ [bs.getD k 0] := by
  rw [List.take_succ_eq_append_getElem h]
  simp [List.getD, List.getElem?_eq_getElem h]

theorem number_take (bs : List UInt8) (k : Nat) (h : k < bs.length) : number (bs.take (k + 1)) = number (bs.take k) * 256 + (bs.getD k 0).toNat := by
  rw [take_snoc bs k h, number_snoc]

theorem number_lt_from (bs : List UInt8) : ∀ n, bs.foldl (fun n b => n * 256 + b.toNat) n < (n + 1) * 256 ^ bs.length := by
  induction bs with
  | nil => intro n; simp
  | cons b bs ih =>
    intro n
    have h := ih (n * 256 + b.toNat)
    have hb := b.toNat_lt
    have h2 : (n * 256 + b.toNat + 1) * 256 ^ bs.length ≤ ((n + 1) * 256) * 256 ^ bs.length := Nat.mul_le_mul_right _ (by omega)
    rw [List.foldl_cons, List.length_cons, Nat.pow_succ, Nat.mul_comm (256 ^ bs.length) 256, ← Nat.mul_assoc]
    omega

theorem number_lt (bs : List UInt8) : number bs < 256 ^ bs.length := by have := number_lt_from bs 0; simpa [number] using this

theorem number_lt8 (bs : List UInt8) (k : Nat) (hl : bs.length ≤ 8) (hk : k < bs.length) : number (bs.take k) < 72057594037927936 := by
  have h := number_lt (bs.take k)
  have h2 : (bs.take k).length ≤ 7 := by simp; omega
  have h3 : 256 ^ (bs.take k).length ≤ 256 ^ 7 := Nat.pow_le_pow_right (by omega) h2
  omega

theorem or8 (n c : Nat) (h : n < 72057594037927936) (hc : c < 256) : bits .or .u64 ((n : Int) * 256) (c : Int) = ((n * 256 + c : Nat) : Int) := by
  have h1 := u64_or_nat (n * 256) c (by omega) (by omega)
  rw [nat_join 8 (n * 256) c (by omega) hc] at h1
  rw [← h1]
  congr 1

set_option maxRecDepth 100000 in
set_option maxHeartbeats 400000 in
theorem number_ok (a : Option Addr) (cap : Nat) (bs : List UInt8) (w : World) (hrow : Row w a bs) (h1 : 1 ≤ bs.length) (h8 : bs.length ≤ 8) :
    Calls Try.prog 39 #[.slice a bs.length cap] w fun e w' => e = .returned (.tuple #[.int .u64 (number bs), .int .i64 0]) ∧ w' = w := by
  rcases hrow with rfl | ⟨b, off, rfl, hc⟩
  · simp at h1
  have HC : Hid (∀ j, j < bs.length → w.cell? ⟨b, off + j, none⟩ = some (.int .u8 ((bs.getD j 0).toNat : Int))) := hc
  clear hc
  go_enter Try.func39, Try.ntmps39
  go_wp2
  go_loop [4, 17] (fun t i => ∃ (k m : Nat), k ≤ bs.length ∧ i = .int .i64 k ∧ Hid (m = number (bs.take k)) ∧ t = .int .u64 m) (fun _ i => bs.length - (intOf i).toNat)
  case atStart => exact ⟨0, 0, Nat.zero_le _, rfl, rfl, rfl⟩
  case round =>
    obtain ⟨k, m, hk, rfl, hm, rfl⟩ := hrel
    by_cases hlt : k < bs.length
    · have hm7 : m < 72057594037927936 := by rw [hm.out]; exact number_lt8 bs k h8 hlt
      obtain ⟨c, hcn⟩ : ∃ c, c = (bs.getD k 0).toNat := ⟨_, rfl⟩
      have hc256 : c < 256 := by rw [hcn]; exact UInt8.toNat_lt _
      have hcell : w.cell? ⟨b, off + k, none⟩ = some (.int .u8 (c : Int)) := by rw [hcn]; exact HC.out k hlt
      have HN : Hid (m * 256 + c = number (bs.take (k + 1))) := by show _ = _; rw [number_take bs k hlt, ← hm.out, hcn]
      have hor := or8 m c hm7 hc256
      clear hcn hm
      go_wp2
      go_round
      case rel => exact ⟨k + 1, m * 256 + c, by omega, by go_num, HN, by go_num⟩
      case measure => simp [intOf]; omega
    · have HN : Hid (m = number bs) := by show _ = _; rw [hm.out, List.take_of_length_le (by omega)]
      clear hm
      go_wp2
      go_ret2
      exact ⟨by have e := HN.out; subst e; rfl, rfl⟩

set_option maxRecDepth 100000 in
set_option maxHeartbeats 400000 in
theorem number_bad (a : Option Addr) (cap len : Nat) (w : World) (h : len < 1 ∨ 8 < len) :
    Calls Try.prog 39 #[.slice a len cap] w fun e w' => e = .returned (.tuple #[.int .u64 0, .int .i64 4]) ∧ w' = w := by
  rcases h with h | h
  · go_enter Try.func39, Try.ntmps39
    go_wp2
    go_ret2
    exact ⟨rfl, rfl⟩
  · have h1 : ¬ len < 1 := by omega
    go_enter Try.func39, Try.ntmps39
    go_wp2
    go_ret2
    exact ⟨rfl, rfl⟩

set_option maxRecDepth 100000 in
set_option maxHeartbeats 400000 in
theorem refNumber_ok (a : Option Addr) (cap : Nat) (bs : List UInt8) (w : World) (hrow : Row w a bs) (h1 : 1 ≤ bs.length) (h8 : bs.length ≤ 8) :
    Calls Try.prog 38 #[.slice a bs.length cap] w fun e w' => e = .returned (.int .u64 (number bs)) ∧ w' = w := by
  rcases hrow with rfl | ⟨b, off, rfl, hc⟩
  · simp at h1
  have HC : Hid (∀ j, j < bs.length → w.cell? ⟨b, off + j, none⟩ = some (.int .u8 ((bs.getD j 0).toNat : Int))) := hc
  clear hc
  go_enter Try.func38, Try.ntmps38
  go_wp2
  go_loop [3, 4] (fun t i => ∃ (k m : Nat), k ≤ bs.length ∧ i = .int .i64 k ∧ Hid (m = number (bs.take k)) ∧ t = .int .u64 m) (fun _ i => bs.length - (intOf i).toNat)
  case atStart => exact ⟨0, 0, Nat.zero_le _, rfl, rfl, rfl⟩
  case round =>
    obtain ⟨k, m, hk, rfl, hm, rfl⟩ := hrel
    by_cases hlt : k < bs.length
    · have hm7 : m < 72057594037927936 := by rw [hm.out]; exact number_lt8 bs k h8 hlt
      obtain ⟨c, hcn⟩ : ∃ c, c = (bs.getD k 0).toNat := ⟨_, rfl⟩
      have hc256 : c < 256 := by rw [hcn]; exact UInt8.toNat_lt _
      have hcell : w.cell? ⟨b, off + k, none⟩ = some (.int .u8 (c : Int)) := by rw [hcn]; exact HC.out k hlt
      have HN : Hid (m * 256 + c = number (bs.take (k + 1))) := by show _ = _; rw [number_take bs k hlt, ← hm.out, hcn]
      clear hcn hm
      go_wp2
      go_round
      case rel => exact ⟨k + 1, m * 256 + c, by omega, by go_num, HN, by go_num⟩
      case measure => simp [intOf]; omega
    · have HN : Hid (m = number bs) := by show _ = _; rw [hm.out, List.take_of_length_le (by omega)]
      clear hm
      go_wp2
      go_ret
      exact ⟨by have e := HN.out; subst e; rfl, rfl⟩

end Go.Proofs.Ytbehmclligkbhaa
