/- octet.Short and the document's own Short: what they hand back. -/
import Derived.Test.YtjjojlfhliecnabKept
namespace Go.Proofs.Ytjjojlfhliecnab
open Go.RowKit

theorem or128 (m : Nat) : bits .or .u8 ((m : Int) % 256) 128 = ((ub (m % 128 + 128)).toNat : Int) := by
  have h1 : ∀ r : Nat, r < 256 → r ||| 128 = r % 128 + 128 := by decide +kernel
  have h2 := u8_or_nat (m % 256) 128 (by omega) (by omega)
  rw [h1 _ (by omega)] at h2
  have h3 : ((m % 256 : Nat) : Int) = (m : Int) % 256 := by omega
  rw [h3] at h2
  have h4 : (ub (m % 128 + 128)).toNat = m % 128 + 128 := ub_toNat _ (by omega)
  rw [h4]
  exact h2.trans (by omega)

theorem low8 (m : Nat) (h : m < 256) : (m : Int) = ((ub m).toNat : Int) := by rw [ub_toNat m h]

theorem short_step {n f m : Nat} {out : List UInt8} (hb : 128 ≤ m) (hm : m < 128 ^ (f + 1)) (hf : f + out.length = 9) (h : out ++ short f m = short 9 n) :
    ∃ f', f = f' + 1 ∧ f' + (out ++ [ub (m % 128 + 128)]).length = 9 ∧ m / 128 < 128 ^ (f' + 1) ∧ (out ++ [ub (m % 128 + 128)]) ++ short f' (m / 128) = short 9 n := by
  cases f with
  | zero => simp at hm; omega
  | succ f =>
    refine ⟨f, rfl, by simp; omega, ?_, ?_⟩
    · rw [Nat.div_lt_iff_lt_mul (by omega)]; rwa [Nat.pow_succ] at hm
    · rw [← h, short_big f m hb]; simp

set_option maxRecDepth 100000 in
set_option maxHeartbeats 400000 in
theorem short_any (n : Nat) (hn : n < 18446744073709551616) (w : World) :
    Calls Try.prog 15 #[.int .u64 n] w fun e w' => ∃ v, e = .returned v ∧ Own w.heap.size w' v (short 9 n) ∧ Below w.heap.size w w' := by
  go_enter Try.func15, Try.ntmps15
  go_wp2
  go_loopw [0, 3] (fun t v wr => ∃ (f m : Nat) (out : List UInt8), f + out.length = 9 ∧ Hid (m < 128 ^ (f + 1)) ∧ m < 18446744073709551616 ∧ t = .int .u64 m ∧ Hid (out ++ short f m = short 9 n) ∧ Own w.heap.size wr v out ∧ Below w.heap.size w wr)
    (fun t _ _ => (intOf t).toNat)
  case atStart => exact ⟨9, n, [], rfl, (by show n < 128 ^ 10; omega), hn, rfl, rfl, Own.nil _ _, Below.refl _ _⟩
  case round =>
    obtain ⟨f, m, out, hf, hm, hm64, rfl, hsh, hown, hbel⟩ := hrel
    have hsz := hbel.size
    by_cases hb : 128 ≤ m
    · obtain ⟨f', rfl, h1, h2, h3⟩ := short_step hb hm.out hf hsh.out
      have H2 : Hid (m / 128 < 128 ^ (f' + 1)) := h2
      have H3 : Hid ((out ++ [ub (m % 128 + 128)]) ++ short f' (m / 128) = short 9 n) := h3
      have H1 : Hid (f' + (out ++ [ub (m % 128 + 128)]).length = 9) := h1
      clear h1 h2 h3
      go_wp2_with (at_builtin; refine app1 (.tmp 6) (.tmp 10) _ (ub (m % 128 + 128)) w.heap.size _ out rfl rfl rfl rfl hown (or128 m) (by omega) hsz ?_)
      intro v' w1 hown' hbel'
      have hb1 := hbel.trans hbel'
      clear hown hbel hbel'
      go_wp2
      go_roundw
      case rel => exact ⟨f', m / 128, _, H1, H2, by omega, by go_num, H3, hown', hb1⟩
      case measure => simp [intOf]; omega
    · have hs : out ++ [ub m] = short 9 n := by have := hsh.out; rwa [short_small f m (by omega)] at this
      have HS : Hid (out ++ [ub m] = short 9 n) := hs
      clear hs
      go_wp2_with (at_builtin; refine app1 (.tmp 14) (.tmp 17) _ (ub m) w.heap.size _ out rfl rfl rfl rfl hown (low8 m (by omega)) (by omega) hsz ?_)
      intro v' w1 hown' hbel'
      have hb1 := hbel.trans hbel'
      clear hown hbel hbel'
      go_wp2
      go_ret
      exact ⟨_, rfl, by rw [← HS.out]; exact hown', hb1⟩
end Go.Proofs.Ytjjojlfhliecnab
