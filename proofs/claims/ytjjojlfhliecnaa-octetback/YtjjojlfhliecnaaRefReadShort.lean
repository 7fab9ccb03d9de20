/- The document's own ReadShort: it hands back the number whose shortest bytes stand at the beginning, and how many they are; 0 and 0 where there is none. -/
import Derived.Test.YtjjojlfhliecnaaShort
import Derived.Test.YtjjojlfhliecnaaReadShort
import Derived.Test.YtjjojlfhliecnaaKept
import Derived.Deep.RegionWith
import Derived.BigRegion
namespace Go.Proofs.Ytjjojlfhliecnaa
open Go.RowKit
set_option linter.unusedVariables false
attribute [local go_sem ↓] Go.wp_at_zero Go.wp_at_succ

theorem or_any (m c k : Nat) (h64 : m < 18446744073709551616) (hm : m < 128 ^ k) : ∃ N : Nat, bits .or .u64 (m : Int) (IntKind.u64.wrap ((c : Int) % 128 * 2 ^ (7 * k))) = (N : Int) ∧ N < 18446744073709551616 ∧ (c % 128 * 128 ^ k < 18446744073709551616 → N = m + c % 128 * 128 ^ k) := by
  have e : IntKind.u64.wrap ((c : Int) % 128 * 2 ^ (7 * k)) = ((c % 128 * 128 ^ k % 18446744073709551616 : Nat) : Int) := by
    rw [pow7, IntKind.wrap_u64]
    have e : (c : Int) % 128 * ((128 ^ k : Nat) : Int) = ((c % 128 * 128 ^ k : Nat) : Int) := by rw [Int.natCast_mul]; rfl
    rw [e]; rfl
  refine ⟨m ||| (c % 128 * 128 ^ k % 18446744073709551616), ?_, ?_, ?_⟩
  · rw [e, u64_or_nat _ _ h64 (by omega)]
  · exact Nat.or_lt_two_pow (n := 64) h64 (by omega)
  · intro h
    have h1 := or_groups m (c % 128) k hm h64 h
    rw [u64_or_nat _ _ h64 h] at h1
    rw [Nat.mod_eq_of_lt h]
    omega

theorem Row.take {w : World} {a : Option Addr} {bs : List UInt8} (h : Row w a bs) (k : Nat) : Row w a (bs.take k) := by
  rcases h with rfl | ⟨b, off, rfl, hc⟩
  · exact .inl (by simp)
  · exact .inr ⟨b, off, rfl, fun j hj => by rw [getD_take bs k j (by simp at hj; omega)]; exact hc j (by simp at hj; omega)⟩

theorem conv_len {w : World} {a : Option Addr} {bs : List UInt8} (h : Row w a bs) (n c : Nat) (hn : bs.length = n) : (convert 23 9 (.slice a n c)).run Try.prog w = .ok (.string ⟨bs.toArray⟩) w := by
  subst hn; exact conv_row h c

/-- What the document's ReadShort hands back. -/
def RefReadPost (bs : List UInt8) (e : Ending) : Prop :=
  (∃ n k : Nat, e = .returned (.tuple #[.int .u64 n, .int .i64 k]) ∧ ReadsAs bs n k) ∨ (e = .returned (.tuple #[.int .u64 0, .int .i64 0]) ∧ ∀ n k, ¬ ReadsAs bs n k)

theorem ref_no {bs : List UInt8} {k N : Nat} (hc : Cont bs k) (hlt : k < bs.length) (h128 : (bs.getD k 0).toNat < 128) (hN : (bs.getD k 0).toNat % 128 * 128 ^ k < 18446744073709551616 → N = dec (bs.take (k + 1)))
    (hne : short 9 N ≠ bs.take (k + 1)) (n k' : Nat) : ¬ ReadsAs bs n k' := fun h => by
  have e := reads_here h hc h128
  subst e
  obtain ⟨_, _, _, _, _, _, h7⟩ := reads_shape h
  have hs := dec_share (bs.take (k + 1)) k (by simp; omega)
  rw [getD_take bs (k + 1) k (by omega), ← h7, Nat.mul_comm] at hs
  have h1 := h.1
  have := hN (by omega)
  rw [this, ← h7] at hne
  exact hne h.2.2

set_option maxRecDepth 100000 in
set_option maxHeartbeats 1600000 in
theorem refReadShort_full (b off cap : Nat) (bs : List UInt8) (w : World) (hc : ∀ j, j < bs.length → w.cell? ⟨b, off + j, none⟩ = some (.int .u8 ((bs.getD j 0).toNat : Int))) (hmax : bs.length ≤ 1099511627776) (hcap : bs.length ≤ cap) :
    Calls Try.prog 23 #[.slice (some ⟨b, off, none⟩) bs.length cap] w fun e w' => RefReadPost bs e ∧ Below w.heap.size w w' := by
  have HC : Hid (∀ j, j < bs.length → w.cell? ⟨b, off + j, none⟩ = some (.int .u8 ((bs.getD j 0).toNat : Int))) := hc
  clear hc
  go_enter Try.func23, Try.ntmps23
  go_wp2
  go_loop [4, 5] (fun t i => ∃ (k m : Nat), k ≤ bs.length ∧ k ≤ 10 ∧ i = .int .i64 k ∧ t = .int .u64 m ∧ m < 18446744073709551616 ∧ Hid (Cont bs k) ∧ Hid (k ≤ 9 → m = dec (bs.take k))) (fun _ i => bs.length - (intOf i).toNat)
  case atStart => exact ⟨0, 0, Nat.zero_le _, by omega, rfl, rfl, by omega, fun j hj => by omega, fun _ => rfl⟩
  case round =>
    obtain ⟨k, m, hk, hk10, rfl, rfl, hm64, hcont, hdec⟩ := hrel
    by_cases hlt : k < bs.length
    · by_cases hk9 : k ≤ 9
      · obtain ⟨c, hcn⟩ : ∃ c, c = (bs.getD k 0).toNat := ⟨_, rfl⟩
        have hc256 : c < 256 := by rw [hcn]; exact UInt8.toNat_lt _
        have hcell : w.cell? ⟨b, off + k, none⟩ = some (.int .u8 (c : Int)) := by rw [hcn]; exact HC.out k hlt
        have hm := mask127 c hc256
        have HCN : Hid (c = (bs.getD k 0).toNat) := hcn
        clear hcn
        have HM : Hid (m = dec (bs.take k)) := hdec.out hk9
        have hml : m < 128 ^ k := by rw [HM.out]; have := dec_lt (bs.take k); have hl : (bs.take k).length = k := by simp; omega
                                     rwa [hl] at this
        obtain ⟨N, hor, hN64, hN⟩ := or_any m c k hm64 hml
        have HN : Hid ((bs.getD k 0).toNat % 128 * 128 ^ k < 18446744073709551616 → N = dec (bs.take (k + 1))) := by
          show _ → _
          intro h
          rw [dec_take bs k hlt, ← HM.out, ← HCN.out]
          rw [← HCN.out] at h
          exact hN h
        clear hml hN hdec HM
        by_cases h128 : 128 ≤ c
        · go_wp2
          go_round
          case rel => exact ⟨k + 1, N, by omega, by omega, by go_num, rfl, hN64, cont_succ hcont.out (by rw [← HCN.out]; exact h128), fun h9 => HN.out (by
            have h1 : (bs.getD k 0).toNat % 128 ≤ 127 := by omega
            have h2 : (128 : Nat) ^ k ≤ 128 ^ 8 := Nat.pow_le_pow_right (by omega) (by omega)
            have h3 := Nat.mul_le_mul h1 h2
            omega)⟩
          case measure => simp [intOf]; omega
        · have hcv : ∀ W, Below w.heap.size w W → (convert 23 9 (.slice (some ⟨b, off, none⟩) (k + 1) cap)).run Try.prog W = .ok (.string ⟨(bs.take (k + 1)).toArray⟩) W := fun W hW =>
            conv_len ((Row.below (.inr ⟨b, off, rfl, HC.out⟩ : Row w (some ⟨b, off, none⟩) bs) hW).take (k + 1)) (k + 1) cap (by simp; omega)
          obtain ⟨T, hT⟩ : ∃ T, T = bs.take (k + 1) := ⟨_, rfl⟩
          rw [← hT] at hcv
          have HT : Hid (T = bs.take (k + 1)) := hT
          have HCV : Hid (∀ W, Below w.heap.size w W → (convert 23 9 (.slice (some ⟨b, off, none⟩) (k + 1) cap)).run Try.prog W = .ok (.string ⟨T.toArray⟩) W) := hcv
          clear hT hcv
          have hsl := fun W => run_slice_to W (some ⟨b, off, none⟩) bs.length cap (k + 1) ((k : Int) + 1) (by omega) (by omega)
          have hw1 : IntKind.i64.wrap ((k : Int) + 1) = (k : Int) + 1 := by rw [IntKind.wrap_i64]; omega
          by_cases hs : short 9 N = T
          · have hb1 : (short 9 N == T) = true := by simp [hs]
            have hb2 : (short 9 N != T) = false := by simp [hs]
            have HS : Hid (short 9 N = T) := hs
            clear hs
            go_wp2
            have hcb0 := HCV.out _ (Below.refl _ w).drew
            go_region_with (first | (go_at_call 17; refine (refShort_any N hN64 _).mono ?_; rintro e w1 ⟨v, rfl, hown, hbel1⟩; obtain ⟨a', cap', rfl, hle, hmx, hrow1⟩ := hown.row; have hcs := conv_row hrow1 cap'; have hcb := HCV.out _ ((Below.refl _ w).drew.trans hbel1)))
            all_goals go_wp2
            all_goals go_ret2
            all_goals exact ⟨.inl ⟨N, k + 1, rfl, hN64, by omega, by rw [HS.out, HT.out]⟩, (Below.refl _ w).drew.trans hbel1⟩
          · have hb1 : (short 9 N == T) = false := by simp [hs]
            have hb2 : (short 9 N != T) = true := by simp [hs]
            have HS : Hid (short 9 N ≠ T) := hs
            clear hs
            go_wp2
            have hcb0 := HCV.out _ (Below.refl _ w).drew
            go_region_with (first | (go_at_call 17; refine (refShort_any N hN64 _).mono ?_; rintro e w1 ⟨v, rfl, hown, hbel1⟩; obtain ⟨a', cap', rfl, hle, hmx, hrow1⟩ := hown.row; have hcs := conv_row hrow1 cap'; have hcb := HCV.out _ ((Below.refl _ w).drew.trans hbel1)))
            all_goals go_wp2
            all_goals go_ret2
            all_goals exact ⟨.inr ⟨rfl, ref_no hcont.out hlt (by rw [← HCN.out]; omega) HN.out (by rw [← HT.out]; exact HS.out)⟩, (Below.refl _ w).drew.trans hbel1⟩
      · go_wp2
        go_ret2
        exact ⟨.inr ⟨rfl, fun n k' => no_long hcont.out (by omega)⟩, Below.refl _ _⟩
    · go_wp2
      go_ret2
      exact ⟨.inr ⟨rfl, fun n k' => no_end (by have := hcont.out; rwa [show k = bs.length by omega] at this)⟩, Below.refl _ _⟩
set_option maxRecDepth 100000 in
set_option maxHeartbeats 400000 in
theorem refReadShort_none (a : Option Addr) (cap : Nat) (w : World) :
    Calls Try.prog 23 #[.slice a 0 cap] w fun e w' => RefReadPost [] e ∧ Below w.heap.size w w' := by
  go_enter Try.func23, Try.ntmps23
  go_wp2
  refine wp_loop_rounds 1 ?_
  rw [rounds_succ]
  go_wp2
  go_ret2
  exact ⟨.inr ⟨rfl, fun n k' => no_end (fun j hj => by simp at hj)⟩, Below.refl _ _⟩

theorem refReadShort_any (a : Option Addr) (cap : Nat) (bs : List UInt8) (w : World) (hrow : Row w a bs) (hmax : bs.length ≤ 1099511627776) (hcap : bs.length ≤ cap) :
    Calls Try.prog 23 #[.slice a bs.length cap] w fun e w' => RefReadPost bs e ∧ Below w.heap.size w w' := by
  rcases hrow with rfl | ⟨b, off, rfl, hc⟩
  · exact refReadShort_none a cap w
  · exact refReadShort_full b off cap bs w hc hmax hcap

end Go.Proofs.Ytjjojlfhliecnaa
