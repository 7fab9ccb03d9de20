/- octet.ReadShort: it hands back the number whose shortest bytes stand at the beginning, and how many they are; or ErrBytes where there is none. -/
import Derived.Test.YtjjojlfhliecnabShortMath
namespace Go.Proofs.Ytjjojlfhliecnab
open Go.RowKit
set_option linter.unusedVariables false

theorem mask127 (c : Nat) (h : c < 256) : bits .and .u8 (c : Int) 127 = (c : Int) % 128 := bits_mask .u8 8 (by decide) wraps_u8 7 (by decide) c (by omega) (by omega)

theorem pow7 (k : Nat) : (2 : Int) ^ (7 * k) = ((128 ^ k : Nat) : Int) := by
  rw [Int.pow_mul, Int.natCast_pow]; rfl

theorem shl_in (c k : Nat) (h : c % 128 * 128 ^ k < 18446744073709551616) : IntKind.u64.wrap ((c : Int) % 128 * 2 ^ (7 * k)) = ((c % 128 * 128 ^ k : Nat) : Int) := by
  rw [pow7, IntKind.wrap_u64]
  have e : (c : Int) % 128 * ((128 ^ k : Nat) : Int) = ((c % 128 * 128 ^ k : Nat) : Int) := by rw [Int.natCast_mul]; rfl
  rw [e]
  omega

theorem shl_back (g k : Nat) : ((g * 128 ^ k : Nat) : Int) / 2 ^ (7 * k) = (g : Int) := by
  rw [pow7, ← Int.natCast_ediv, Nat.mul_div_cancel _ (Nat.pow_pos (by omega))]

theorem shl_lost (c k : Nat) (h : 18446744073709551616 ≤ c % 128 * 128 ^ k) : (IntKind.u64.wrap ((c : Int) % 128 * 2 ^ (7 * k)) / 2 ^ (7 * k) != (c : Int) % 128) = true := by
  rw [bne_iff_ne, pow7, IntKind.wrap_u64]
  have e : (c : Int) % 128 * ((128 ^ k : Nat) : Int) = ((c % 128 * 128 ^ k : Nat) : Int) := by rw [Int.natCast_mul]; rfl
  rw [e]
  have e2 : (((c % 128 * 128 ^ k : Nat) : Int) % 18446744073709551616) / ((128 ^ k : Nat) : Int) = ((c % 128 * 128 ^ k % 18446744073709551616 / 128 ^ k : Nat) : Int) := by rfl
  rw [e2]
  have h1 : c % 128 * 128 ^ k % 18446744073709551616 / 128 ^ k < c % 128 := by
    rw [Nat.div_lt_iff_lt_mul (Nat.pow_pos (by omega))]
    omega
  omega

theorem or_groups (m g k : Nat) (hm : m < 128 ^ k) (h64 : m < 18446744073709551616) (hg : g * 128 ^ k < 18446744073709551616) : bits .or .u64 (m : Int) ((g * 128 ^ k : Nat) : Int) = ((m + g * 128 ^ k : Nat) : Int) := by
  rw [u64_or_nat m _ h64 hg]
  have e : (128 : Nat) ^ k = 2 ^ (7 * k) := by rw [Nat.pow_mul]
  rw [Nat.or_comm, e, nat_join (7 * k) (g * 2 ^ (7 * k)) m (Nat.mul_mod_left _ _) (by rw [← e]; exact hm), Nat.add_comm]

theorem shl_far (c k : Nat) (h : 10 ≤ k) : Op.shift .shl .u64 ((c : Int) % 128) .i64 (7 * (k : Int)) = pure (.int .u64 0) := by
  rw [shift_shl_any _ _ _ _ (by omega)]
  have e : min (7 * (k : Int)).toNat IntKind.u64.bits = 64 := by simp [IntKind.bits]; omega
  rw [e, IntKind.wrap_u64]
  congr 2
  omega

theorem shr_far (k : Nat) : Op.shift .shr .u64 0 .i64 (7 * (k : Int)) = pure (.int .u64 0) := by
  rw [shift_shr_any _ _ _ _ (by omega)]
  simp

/-- What ReadShort hands back. -/
def ReadPost (bs : List UInt8) (e : Ending) : Prop :=
  (∃ n k : Nat, e = .returned (.tuple #[.int .u64 n, .int .i64 k, .int .i64 0]) ∧ ReadsAs bs n k) ∨ (e = .returned (.tuple #[.int .u64 0, .int .i64 0, .int .i64 4]) ∧ ∀ n k, ¬ ReadsAs bs n k)

set_option maxRecDepth 100000 in
set_option maxHeartbeats 800000 in
theorem readShort_full (b off cap : Nat) (bs : List UInt8) (w : World) (hc : ∀ j, j < bs.length → w.cell? ⟨b, off + j, none⟩ = some (.int .u8 ((bs.getD j 0).toNat : Int))) (hmax : bs.length ≤ 1099511627776) :
    Calls Try.prog 6 #[.slice (some ⟨b, off, none⟩) bs.length cap] w fun e w' => ReadPost bs e ∧ w' = w := by
  have HC : Hid (∀ j, j < bs.length → w.cell? ⟨b, off + j, none⟩ = some (.int .u8 ((bs.getD j 0).toNat : Int))) := hc
  clear hc
  go_enter Try.func6, Try.ntmps6
  go_wp2
  go_loop [5, 11] (fun t i => ∃ (k m : Nat), k ≤ bs.length ∧ i = .int .i64 k ∧ t = .int .u64 m ∧ m < 18446744073709551616 ∧ Hid (Cont bs k) ∧ Hid (k ≤ 9 → m = dec (bs.take k))) (fun _ i => bs.length - (intOf i).toNat)
  case atStart => exact ⟨0, 0, Nat.zero_le _, rfl, rfl, by omega, fun j hj => by omega, fun _ => rfl⟩
  case round =>
    obtain ⟨k, m, hk, rfl, rfl, hm64, hcont, hdec⟩ := hrel
    by_cases hlt : k < bs.length
    · obtain ⟨c, hcn⟩ : ∃ c, c = (bs.getD k 0).toNat := ⟨_, rfl⟩
      have hc256 : c < 256 := by rw [hcn]; exact UInt8.toNat_lt _
      have hcell : w.cell? ⟨b, off + k, none⟩ = some (.int .u8 (c : Int)) := by rw [hcn]; exact HC.out k hlt
      have hm := mask127 c hc256
      have HCN : Hid (c = (bs.getD k 0).toNat) := hcn
      clear hcn
      by_cases hk9 : k ≤ 9
      · by_cases hfit : c % 128 * 128 ^ k < 18446744073709551616
        · have HM : Hid (m = dec (bs.take k)) := hdec.out hk9
          have hS := sum_lt hk9 hlt (by rw [← HCN.out]; exact hfit)
          rw [dec_take bs k hlt, ← HCN.out, ← HM.out] at hS
          have hml : m < 128 ^ k := by rw [HM.out]; have := dec_lt (bs.take k); have hl : (bs.take k).length = k := by simp; omega
                                       rwa [hl] at this
          obtain ⟨G, hG⟩ : ∃ G, G = c % 128 * 128 ^ k := ⟨_, rfl⟩
          have hw := shl_in c k hfit
          have hor := or_groups m (c % 128) k hml (by omega) hfit
          have ht : (((c % 128 * 128 ^ k : Nat) : Int) / 2 ^ (7 * k) != (c : Int) % 128) = false := by rw [shl_back]; simp
          rw [← hG] at hw hor ht hS
          have HD : Hid (m + G = dec (bs.take (k + 1))) := by show _ = _; rw [dec_take bs k hlt, ← HCN.out, ← HM.out, hG]
          clear hfit hml hG hdec HM
          by_cases h128 : 128 ≤ c
          · go_wp2
            go_round
            case rel => exact ⟨k + 1, m + G, by omega, by go_num, rfl, hS, cont_succ hcont.out (by rw [← HCN.out]; exact h128), fun _ => HD.out⟩
            case measure => simp [intOf]; omega
          · by_cases h0 : c = 0 ∧ 0 < k
            · obtain ⟨hz, hkp⟩ := h0
              have hz' : ((c : Int) == 0) = true := by rw [beq_iff_eq]; omega
              have HZ : Hid (c = 0) := hz
              clear hz
              go_wp2
              go_ret3
              exact ⟨.inr ⟨rfl, fun n k' => no_nought hcont.out hkp (by rw [← HCN.out]; exact HZ.out)⟩, rfl⟩
            · have hy : ReadsAs bs (m + G) (k + 1) := by
                rw [HD.out]
                exact reads_yes hcont.out hk9 hlt (by rw [← HCN.out]; omega) (fun hp => by rw [← HCN.out]; omega) (by rw [← HD.out]; exact hS)
              have HY : Hid (ReadsAs bs (m + G) (k + 1)) := hy
              clear hy
              rcases Nat.eq_zero_or_pos k with hk0 | hkp
              · have hk0' : ¬ (0 < k) := by omega
                clear hk0
                go_wp2
                all_goals go_ret3
                all_goals exact ⟨.inl ⟨m + G, k + 1, rfl, HY.out⟩, rfl⟩
              · have hz' : ((c : Int) == 0) = false := by rw [beq_eq_false_iff_ne]; omega
                go_wp2
                go_ret3
                exact ⟨.inl ⟨m + G, k + 1, rfl, HY.out⟩, rfl⟩
        · have ht := shl_lost c k (by omega)
          have HG : Hid (18446744073709551616 ≤ c % 128 * 128 ^ k) := by show _ ≤ _; omega
          clear hfit
          go_wp2
          go_ret3
          exact ⟨.inr ⟨rfl, fun n k' => no_great hcont.out (by rw [← HCN.out]; exact HG.out)⟩, rfl⟩
      · have hs1 := shl_far c k (by omega)
        have hs2 := shr_far k
        by_cases hz : c % 128 = 0
        · have ht : ((0 : Int) != (c : Int) % 128) = false := by simp; omega
          have hor : bits .or .u64 (m : Int) 0 = (m : Int) := by have := u64_or_nat m 0 hm64 (by omega); simpa using this
          by_cases h128 : 128 ≤ c
          · go_wp2
            go_round
            case rel => exact ⟨k + 1, m, by omega, by go_num, rfl, hm64, cont_succ hcont.out (by rw [← HCN.out]; exact h128), fun h => by omega⟩
            case measure => simp [intOf]; omega
          · have hz' : ((c : Int) == 0) = true := by rw [beq_iff_eq]; omega
            have hkp : 0 < k := by omega
            clear hz
            go_wp2
            go_ret3
            exact ⟨.inr ⟨rfl, fun n k' => no_long hcont.out (by omega)⟩, rfl⟩
        · have ht : ((0 : Int) != (c : Int) % 128) = true := by rw [bne_iff_ne]; omega
          go_wp2
          go_ret3
          exact ⟨.inr ⟨rfl, fun n k' => no_long hcont.out (by omega)⟩, rfl⟩
    · go_wp2
      go_ret3
      exact ⟨.inr ⟨rfl, fun n k' => no_end (by have := hcont.out; rwa [show k = bs.length by omega] at this)⟩, rfl⟩

set_option maxRecDepth 100000 in
set_option maxHeartbeats 400000 in
theorem readShort_none (a : Option Addr) (cap : Nat) (w : World) :
    Calls Try.prog 6 #[.slice a 0 cap] w fun e w' => ReadPost [] e ∧ w' = w := by
  go_enter Try.func6, Try.ntmps6
  go_wp2
  refine wp_loop_rounds 1 ?_
  rw [rounds_succ]
  go_wp2
  go_ret3
  exact ⟨.inr ⟨rfl, fun n k' => no_end (fun j hj => by simp at hj)⟩, rfl⟩

theorem readShort_any (a : Option Addr) (cap : Nat) (bs : List UInt8) (w : World) (hrow : Row w a bs) (hmax : bs.length ≤ 1099511627776) :
    Calls Try.prog 6 #[.slice a bs.length cap] w fun e w' => ReadPost bs e ∧ w' = w := by
  rcases hrow with rfl | ⟨b, off, rfl, hc⟩
  · exact readShort_none a cap w
  · exact readShort_full b off cap bs w hc hmax

end Go.Proofs.Ytjjojlfhliecnab
