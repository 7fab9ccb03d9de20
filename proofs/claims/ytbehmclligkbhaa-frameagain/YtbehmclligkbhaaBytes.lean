/- octet.Bytes, the document's own Bytes and Fits: what they hand back. -/
import Derived.Test.YtbehmclligkbhaaKit
namespace Go.Proofs.Ytbehmclligkbhaa
open Go.RowKit
set_option linter.unusedVariables false

/-- A number's bytes, so many, the highest first. -/
def bytesOf : Nat → Nat → List UInt8
  | 0, _ => []
  | s + 1, n => ub (n / 256 ^ s % 256) :: bytesOf s n

theorem bytesOf_length (s n : Nat) : (bytesOf s n).length = s := by
  induction s with
  | zero => rfl
  | succ s ih => simp [bytesOf, ih]

theorem shr8 (n k : Nat) : (n : Int) / 2 ^ (8 * k) = ((n / 256 ^ k : Nat) : Int) := by
  rw [Int.natCast_ediv, Int.natCast_pow, Int.pow_mul]
  rfl

theorem shr8b (n k : Nat) : (n : Int) / 2 ^ (8 * k) % 256 = ((n / 256 ^ k % 256 : Nat) : Int) := by
  rw [shr8]; omega

set_option maxRecDepth 100000 in
set_option maxHeartbeats 400000 in
theorem refBytes_any (n s : Nat) (hn : n < 18446744073709551616) (hs : s ≤ 8) (w : World) :
    Calls Try.prog 37 #[.int .u64 n, .int .i64 s] w fun e w' => ∃ v, e = .returned v ∧ Own w.heap.size w' v (bytesOf s n) ∧ Below w.heap.size w w' := by
  go_enter Try.func37, Try.ntmps37
  go_wp2
  go_loopw [5, 6] (fun v t wr => ∃ (k : Nat) (out : List UInt8), k ≤ s ∧ t = .int .i64 ((k : Int) - 1) ∧ out.length + k = s ∧ Hid (out ++ bytesOf k n = bytesOf s n) ∧ Own w.heap.size wr v out ∧ Below w.heap.size w wr)
    (fun _ t _ => (intOf t + 1).toNat)
  case atStart => exact ⟨s, [], Nat.le_refl _, rfl, by simp, rfl, Own.nil _ _, Below.refl _ _⟩
  case round =>
    obtain ⟨k, out, hk, rfl, hlk, hsh, hown, hbel⟩ := hrel
    have hsz := hbel.size
    cases k with
    | zero =>
      go_wp2
      go_ret
      exact ⟨_, rfl, by have := hsh.out; simp [bytesOf] at this; rw [← this]; exact hown, hbel⟩
    | succ k =>
      have H3 : Hid ((out ++ [ub (n / 256 ^ k % 256)]) ++ bytesOf k n = bytesOf s n) := by have := hsh.out; simp only [bytesOf] at this; simpa [Hid] using this
      clear hsh
      go_wp2_with (at_builtin; refine app1n (.tmp 13) (.tmp 19) _ (n / 256 ^ k % 256) w.heap.size _ out rfl rfl rfl rfl hown (by omega) (shr8b n k) (by omega) hsz ?_)
      intro v' w1 hown' hbel'
      have hb1 := hbel.trans hbel'
      clear hown hbel hbel'
      go_wp2
      go_roundw
      case rel => exact ⟨k, _, by omega, by go_num, by simp; omega, H3, hown', hb1⟩
      case measure => simp [intOf]

set_option maxRecDepth 100000 in
set_option maxHeartbeats 400000 in
theorem bytes_ok (n s : Nat) (hn : n < 18446744073709551616) (h1 : 1 ≤ s) (hs : s ≤ 8) (hfit : n / 256 ^ s = 0) (w : World) :
    Calls Try.prog 33 #[.int .u64 n, .int .i64 s] w fun e w' => ∃ v, e = .returned (.tuple #[v, .int .i64 0]) ∧ Own w.heap.size w' v (bytesOf s n) ∧ Below w.heap.size w w' := by
  have ht : ((n : Int) / 2 ^ (8 * s) != 0) = false := by rw [shr8, hfit]; rfl
  clear hfit
  go_enter Try.func33, Try.ntmps33
  go_wp2
  go_loopw [1, 6] (fun t v wr => ∃ (k : Nat) (out : List UInt8), k ≤ s ∧ t = .int .i64 (k : Int) ∧ out.length + k = s ∧ Hid (out ++ bytesOf k n = bytesOf s n) ∧ Own w.heap.size wr v out ∧ Below w.heap.size w wr)
    (fun t _ _ => (intOf t).toNat)
  case atStart => exact ⟨s, [], Nat.le_refl _, rfl, by simp, rfl, Own.nil _ _, Below.refl _ _⟩
  case round =>
    obtain ⟨k, out, hk, rfl, hlk, hsh, hown, hbel⟩ := hrel
    have hsz := hbel.size
    cases k with
    | zero =>
      go_wp2
      go_ret2
      exact ⟨_, rfl, by have := hsh.out; simp [bytesOf] at this; rw [← this]; exact hown, hbel⟩
    | succ k =>
      have H3 : Hid ((out ++ [ub (n / 256 ^ k % 256)]) ++ bytesOf k n = bytesOf s n) := by have := hsh.out; simp only [bytesOf] at this; simpa [Hid] using this
      clear hsh
      go_wp2_with (at_builtin; refine app1n (.tmp 24) (.tmp 30) _ (n / 256 ^ k % 256) w.heap.size _ out rfl rfl rfl rfl hown (by omega) (shr8b n k) (by omega) hsz ?_)
      intro v' w1 hown' hbel'
      have hb1 := hbel.trans hbel'
      clear hown hbel hbel'
      go_wp2
      go_roundw
      case rel => exact ⟨k, _, by omega, by go_num, by simp; omega, H3, hown', hb1⟩
      case measure => simp [intOf]

set_option maxRecDepth 100000 in
set_option maxHeartbeats 400000 in
theorem bytes_bad (n : Nat) (s : Int) (hn : n < 18446744073709551616) (h : s < 1 ∨ 8 < s) (w : World) :
    Calls Try.prog 33 #[.int .u64 n, .int .i64 s] w fun e w' => e = .returned (.tuple #[.slice none 0 0, .int .i64 2]) ∧ w' = w := by
  rcases h with h | h
  · go_enter Try.func33, Try.ntmps33
    go_wp2
    go_ret2
    exact ⟨rfl, rfl⟩
  · have h1 : 1 ≤ s := by omega
    go_enter Try.func33, Try.ntmps33
    go_wp2
    go_ret2
    exact ⟨rfl, rfl⟩

set_option maxRecDepth 100000 in
set_option maxHeartbeats 400000 in
theorem bytes_big (n s : Nat) (hn : n < 18446744073709551616) (h1 : 1 ≤ s) (hs : s ≤ 8) (hfit : n / 256 ^ s ≠ 0) (w : World) :
    Calls Try.prog 33 #[.int .u64 n, .int .i64 s] w fun e w' => e = .returned (.tuple #[.slice none 0 0, .int .i64 2]) ∧ w' = w := by
  have ht : ((n : Int) / 2 ^ (8 * s) != 0) = true := by rw [shr8, bne_iff_ne]; omega
  clear hfit
  go_enter Try.func33, Try.ntmps33
  go_wp2
  go_ret2
  exact ⟨rfl, rfl⟩

end Go.Proofs.Ytbehmclligkbhaa
