/- The landed front: the frame at the front of bytes, or how they are. -/
import Derived.Test.YtbehmclligkbhaaFsB
namespace Go.Proofs.Ytbehmclligkbhaa
open Go.RowKit
set_option linter.unusedVariables false
set_option maxRecDepth 100000
set_option maxHeartbeats 6400000

/-- How bytes begin: 3 is with a frame that is whole. -/
def how (bs : List UInt8) : Nat :=
  if bs.length = 0 then 0 else if bs.length < 8 then 1 else if num4 bs 4 ≠ 4294967295 - num4 bs 0 ∨ 65536 < num4 bs 0 then 2
  else if bs.length < num4 bs 0 + 12 then 1 else if num4 bs (num4 bs 0 + 8) ≠ crc ((bs.drop 8).take (num4 bs 0)) then 2 else 3
theorem scan_stop {bs : List UInt8} (h : how bs ≠ 3) : scanL bs = ([], 0, how bs) := by
  unfold scanL
  rcases Nat.eq_zero_or_pos bs.length with h0 | h0
  · rw [h0]; unfold how; rw [if_pos h0]; rfl
  obtain ⟨k, hk⟩ : ∃ k, bs.length = k + 1 := ⟨bs.length - 1, by omega⟩
  have e : scanF bs.length bs = scanF (k + 1) bs := by rw [hk]
  rw [e, scanF_succ, if_neg (by omega)]
  by_cases q1 : bs.length < 8
  · have e1 : how bs = 1 := by unfold how; rw [if_neg (by omega), if_pos q1]
    rw [if_pos q1, e1]
  by_cases q2 : num4 bs 4 ≠ 4294967295 - num4 bs 0 ∨ 65536 < num4 bs 0
  · have e1 : how bs = 2 := by unfold how; rw [if_neg (by omega), if_neg q1, if_pos q2]
    rw [if_neg q1, if_pos q2, e1]
  by_cases q3 : bs.length < num4 bs 0 + 12
  · have e1 : how bs = 1 := by unfold how; rw [if_neg (by omega), if_neg q1, if_neg q2, if_pos q3]
    rw [if_neg q1, if_neg q2, if_pos q3, e1]
  by_cases q4 : num4 bs (num4 bs 0 + 8) ≠ crc ((bs.drop 8).take (num4 bs 0))
  · have e1 : how bs = 2 := by unfold how; rw [if_neg (by omega), if_neg q1, if_neg q2, if_neg q3, if_pos q4]
    rw [if_neg q1, if_neg q2, if_neg q3, if_pos q4, e1]
  · exact absurd (show how bs = 3 by unfold how; rw [if_neg (by omega), if_neg q1, if_neg q2, if_neg q3, if_neg q4]) h
theorem how_go {bs : List UInt8} (h : how bs = 3) : 8 ≤ bs.length ∧ num4 bs 4 = 4294967295 - num4 bs 0 ∧ num4 bs 0 ≤ 65536 ∧ num4 bs 0 + 12 ≤ bs.length ∧ num4 bs (num4 bs 0 + 8) = crc ((bs.drop 8).take (num4 bs 0)) := by
  unfold how at h
  split at h
  · omega
  split at h
  · omega
  split at h
  · omega
  split at h
  · omega
  split at h
  · omega
  · rename_i q1 q2 q3 q4 q5
    omega
theorem scan_go {bs : List UInt8} (h : how bs = 3) : scanL bs = (((bs.drop 8).take (num4 bs 0)) :: (scanL (bs.drop (num4 bs 0 + 12))).1, num4 bs 0 + 12 + (scanL (bs.drop (num4 bs 0 + 12))).2.1, (scanL (bs.drop (num4 bs 0 + 12))).2.2) := by
  obtain ⟨q1, q2, q3, q4, q5⟩ := how_go h
  obtain ⟨k, hk⟩ : ∃ k, bs.length = k + 1 := ⟨bs.length - 1, by omega⟩
  have e : scanL bs = scanF (k + 1) bs := by unfold scanL; rw [hk]
  have e2 : scanF k (bs.drop (num4 bs 0 + 12)) = scanL (bs.drop (num4 bs 0 + 12)) := by
    unfold scanL
    exact scanF_fuel _ _ _ (by rw [List.length_drop]; omega) (Nat.le_refl _)
  rw [e, scanF_succ, if_neg (by omega), if_neg (by omega), if_neg (by omega), if_neg (by omega), if_neg (by omega), e2]
theorem how_le (bs : List UInt8) : how bs ≤ 3 := by
  unfold how
  repeat' split
  all_goals omega
theorem num_len {bs : List UInt8} {k : Nat} (h : k + 4 ≤ bs.length) : ((bs.drop k).take 4).length = 4 := by rw [List.length_take, List.length_drop]; omega
theorem front_any (a : Option Addr) (n c : Nat) (bs : List UInt8) (w : World) (hr : Row w a bs) (hn : n = bs.length) (hc : n ≤ c) (hl : n ≤ 1099511627776) :
    Calls Try.prog 28 #[.slice a n c] w fun r w' => r = .returned (if how bs = 3 then .tuple #[.slice a (num4 bs 0 + 12) (num4 bs 0 + 12), .int .i64 0] else .tuple #[.slice none 0 0, .int .i64 (how bs : Int)]) ∧ w' = w := by
  have HR := hidU hr
  have HN := hidU hn
  clear hr
  by_cases h0 : n = 0
  · have e : how bs = 0 := by unfold how; rw [if_pos (by omega)]
    rw [e]
    clear hn HN HR e hl
    subst h0
    go_enter Try.func28, Try.ntmps28
    go_wp2
    go_ret2
    exact ⟨rfl, rfl⟩
  by_cases h8 : n < 8
  · have e : how bs = 1 := by unfold how; rw [if_neg (by omega), if_pos (by omega)]
    rw [e]
    clear hn HN HR e
    have hb0 : ((n : Int) == 0) = false := by rw [beq_eq_false_iff_ne]; omega
    go_enter Try.func28, Try.ntmps28
    go_wp2
    go_ret2
    exact ⟨rfl, rfl⟩
  have hb0 : ((n : Int) == 0) = false := by rw [beq_eq_false_iff_ne]; omega
  have hs1 := fun w => run_slice_hm22 w a n c 4 4 4 4 rfl rfl (by omega) (by omega)
  have hs2 := fun w => run_slice_lhm22 w a n c 4 8 8 4 8 8 rfl rfl rfl (by omega) (by omega) (by omega)
  have HA := hidU (read_any a 4 ((bs.drop 0).take 4) w (by rw [List.drop_zero]; exact HR.out.take 4) (num_len (by omega)))
  have HB := hidU (read_any (dropA a 8 4) 4 ((bs.drop 4).take 4) w (HR.out.piece 8 4 4 (by omega)) (num_len (by omega)))
  obtain ⟨A, hA⟩ : ∃ x, Hid (x = num4 bs 0) := ⟨_, (rfl : num4 bs 0 = _)⟩
  obtain ⟨B, hB⟩ : ∃ x, Hid (x = num4 bs 4) := ⟨_, (rfl : num4 bs 4 = _)⟩
  have hA32 : A < 4294967296 := by rw [hA.out]; exact num4_lt bs 0
  have hB32 : B < 4294967296 := by rw [hB.out]; exact num4_lt bs 4
  have HA1 : Hid (Calls Try.prog 34 #[.slice a 4 4] w fun r w' => r = .returned (.int .u32 (A : Int)) ∧ w' = w) := by show Calls _ _ _ _ _; rw [hA.out]; exact HA.out
  have HB1 : Hid (Calls Try.prog 34 #[.slice (dropA a 8 4) 4 4] w fun r w' => r = .returned (.int .u32 (B : Int)) ∧ w' = w) := by show Calls _ _ _ _ _; rw [hB.out]; exact HB.out
  have hx : bits .xor .u32 IntKind.u32.max (A : Int) = ((4294967295 - A : Nat) : Int) := by
    refine (not_u32 hA32).trans ?_
    congr 1
    have := BitVec.toNat_not (x := BitVec.ofNat 32 A)
    rw [BitVec.toNat_ofNat, Nat.mod_eq_of_lt hA32] at this
    rw [show 4294967295 - A = 2 ^ 32 - 1 - A by omega, ← this]
    have e2 : (BitVec.allOnes 32 ^^^ BitVec.ofNat 32 A).toNat = (~~~ (BitVec.ofNat 32 A)).toNat := by rw [BitVec.allOnes_xor]
    rw [← e2, BitVec.toNat_xor, BitVec.toNat_allOnes, BitVec.toNat_ofNat, Nat.mod_eq_of_lt hA32]
  clear HA HB
  by_cases hbad : B ≠ 4294967295 - A ∨ 65536 < A
  · have e : how bs = 2 := by
      have := hA.out; have := hB.out
      unfold how; rw [if_neg (by omega), if_neg (by omega), if_pos (by omega)]
    rw [e]
    clear hn HN HR e hA hB
    by_cases hne : B = 4294967295 - A
    · have h65 : 65536 < A := by omega
      have hq : (B : Int) = bits .xor .u32 IntKind.u32.max (A : Int) := by rw [hx, hne]
      clear hbad hne hx
      go_enter Try.func28, Try.ntmps28
      go_wp2_with (go_at_call 34; refine HA1.out.mono ?_; rintro _ w1 ⟨rfl, rfl⟩; refine Hid.out ?_)
      refine hidU ?_
      clear HA1
      go_wp2_with (go_at_call 34; refine HB1.out.mono ?_; rintro _ w1 ⟨rfl, rfl⟩; refine Hid.out ?_)
      refine hidU ?_
      clear HB1
      go_wp2
      go_ret2
      exact ⟨rfl, rfl⟩
    · have hq : ¬ ((B : Int) = bits .xor .u32 IntKind.u32.max (A : Int)) := by rw [hx]; omega
      clear hbad hne hx
      go_enter Try.func28, Try.ntmps28
      go_wp2_with (go_at_call 34; refine HA1.out.mono ?_; rintro _ w1 ⟨rfl, rfl⟩; refine Hid.out ?_)
      refine hidU ?_
      clear HA1
      go_wp2_with (go_at_call 34; refine HB1.out.mono ?_; rintro _ w1 ⟨rfl, rfl⟩; refine Hid.out ?_)
      refine hidU ?_
      clear HB1
      go_wp2
      go_ret2
      exact ⟨rfl, rfl⟩
  have hBA : B = 4294967295 - A := by omega
  have hA6 : A ≤ 65536 := by omega
  have hq : (B : Int) = bits .xor .u32 IntKind.u32.max (A : Int) := by rw [hx, hBA]
  have HS : Hid (Calls Try.prog 15 #[.int .i64 (A : Int)] w fun r w' => r = .returned (.int .i64 ((A : Int) + 12)) ∧ w' = w) := by
    have := size_any (A : Int) w
    rwa [show sizeZ (A : Int) = (A : Int) + 12 by unfold sizeZ; rw [if_neg (by omega)]] at this
  have hHow : Hid (how bs = if n < A + 12 then 1 else if num4 bs (A + 8) ≠ crc ((bs.drop 8).take A) then 2 else 3) := by
    have h1 := hA.out
    have h2 := hB.out
    show _ = _
    unfold how
    rw [← h1, ← h2, if_neg (by omega), if_neg (by omega), if_neg (by omega), ← hn]
  rw [hHow.out, ← hA.out]
  clear hbad hBA hx hB32 hHow
  by_cases hsz : n < A + 12
  · rw [if_pos hsz]
    clear hA hB HN HR hn
    go_enter Try.func28, Try.ntmps28
    go_wp2_with (go_at_call 34; refine HA1.out.mono ?_; rintro _ w1 ⟨rfl, rfl⟩; refine Hid.out ?_)
    refine hidU ?_
    clear HA1
    go_wp2_with (go_at_call 34; refine HB1.out.mono ?_; rintro _ w1 ⟨rfl, rfl⟩; refine Hid.out ?_)
    refine hidU ?_
    clear HB1
    go_wp2_with (go_at_call 15; refine HS.out.mono ?_; rintro _ w1 ⟨rfl, rfl⟩; refine Hid.out ?_)
    refine hidU ?_
    clear HS
    go_wp2
    go_ret2
    exact ⟨rfl, rfl⟩
  rw [if_neg hsz]
  have hs3 := fun w => run_slice_hm22 w a n c (A + 12) (A + 12) ((A : Int) + 12) ((A : Int) + 12) rfl rfl (Nat.le_refl _) (by omega)
  have hs4 := fun w => run_slice_l22 w a (A + 12) (A + 12) (A + 8) ((A : Int) + 12 - 4) (by omega) (by omega)
  rw [show A + 12 - (A + 8) = 4 by omega] at hs4
  have HC := hidU (read_any (dropA a (A + 12) (A + 8)) 4 ((bs.drop (A + 8)).take 4) w (HR.out.piece (A + 12) (A + 8) 4 (by omega)) (num_len (by omega)))
  have HI := hidU (inner_any a A hA6 w)
  have HD := hidU (check_any (dropA a (A + 8) 8) A A ((bs.drop 8).take A) w (HR.out.piece (A + 8) 8 A (by omega)) (by rw [List.length_take, List.length_drop]; omega) (by omega) (Nat.le_refl _))
  obtain ⟨C, hC⟩ : ∃ x, Hid (x = num4 bs (A + 8)) := ⟨_, (rfl : num4 bs (A + 8) = _)⟩
  obtain ⟨D, hD⟩ : ∃ x, Hid (x = crc ((bs.drop 8).take A)) := ⟨_, (rfl : crc ((bs.drop 8).take A) = _)⟩
  have hC32 : C < 4294967296 := by rw [hC.out]; exact num4_lt bs _
  have hD32 : D < 4294967296 := by rw [hD.out]; exact crc_lt _
  have HC1 : Hid (Calls Try.prog 34 #[.slice (dropA a (A + 12) (A + 8)) 4 4] w fun r w' => r = .returned (.int .u32 (C : Int)) ∧ w' = w) := by show Calls _ _ _ _ _; rw [hC.out]; exact HC.out
  have HD1 : Hid (Calls Try.prog 13 #[.slice (dropA a (A + 8) 8) A A] w fun r w' => r = .returned (.int .u32 (D : Int)) ∧ w' = w) := by show Calls _ _ _ _ _; rw [hD.out]; exact HD.out
  rw [← hC.out, ← hD.out]
  clear HC HD hA hB HN HR hn hC hD
  by_cases hcd : C = D
  · subst hcd
    rw [show (if C ≠ C then 2 else 3) = 3 from if_neg (fun h => h rfl), if_pos rfl]
    go_enter Try.func28, Try.ntmps28
    go_wp2_with (go_at_call 34; refine HA1.out.mono ?_; rintro _ w1 ⟨rfl, rfl⟩; refine Hid.out ?_)
    refine hidU ?_
    clear HA1
    go_wp2_with (go_at_call 34; refine HB1.out.mono ?_; rintro _ w1 ⟨rfl, rfl⟩; refine Hid.out ?_)
    refine hidU ?_
    clear HB1
    go_wp2_with (go_at_call 15; refine HS.out.mono ?_; rintro _ w1 ⟨rfl, rfl⟩; refine Hid.out ?_)
    refine hidU ?_
    clear HS
    go_wp2_with (go_at_call 34; refine HC1.out.mono ?_; rintro _ w1 ⟨rfl, rfl⟩; refine Hid.out ?_)
    refine hidU ?_
    clear HC1
    go_wp2_with (go_at_call 35; refine HI.out.mono ?_; rintro _ w1 ⟨rfl, rfl⟩; refine Hid.out ?_)
    refine hidU ?_
    clear HI
    go_wp2_with (go_at_call 13; refine HD1.out.mono ?_; rintro _ w1 ⟨rfl, rfl⟩; refine Hid.out ?_)
    refine hidU ?_
    clear HD1
    go_wp2
    go_ret2
    exact ⟨rfl, rfl⟩
  · rw [if_pos hcd]
    have hcd2 : ¬ ((C : Int) = (D : Int)) := by omega
    clear hcd
    go_enter Try.func28, Try.ntmps28
    go_wp2_with (go_at_call 34; refine HA1.out.mono ?_; rintro _ w1 ⟨rfl, rfl⟩; refine Hid.out ?_)
    refine hidU ?_
    clear HA1
    go_wp2_with (go_at_call 34; refine HB1.out.mono ?_; rintro _ w1 ⟨rfl, rfl⟩; refine Hid.out ?_)
    refine hidU ?_
    clear HB1
    go_wp2_with (go_at_call 15; refine HS.out.mono ?_; rintro _ w1 ⟨rfl, rfl⟩; refine Hid.out ?_)
    refine hidU ?_
    clear HS
    go_wp2_with (go_at_call 34; refine HC1.out.mono ?_; rintro _ w1 ⟨rfl, rfl⟩; refine Hid.out ?_)
    refine hidU ?_
    clear HC1
    go_wp2_with (go_at_call 35; refine HI.out.mono ?_; rintro _ w1 ⟨rfl, rfl⟩; refine Hid.out ?_)
    refine hidU ?_
    clear HI
    go_wp2_with (go_at_call 13; refine HD1.out.mono ?_; rintro _ w1 ⟨rfl, rfl⟩; refine Hid.out ?_)
    refine hidU ?_
    clear HD1
    go_wp2
    go_ret2
    exact ⟨rfl, rfl⟩
end Go.Proofs.Ytbehmclligkbhaa
