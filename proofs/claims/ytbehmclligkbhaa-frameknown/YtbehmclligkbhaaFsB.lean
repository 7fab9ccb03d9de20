/- The landed check. -/
import Derived.Test.YtbehmclligkbhaaFsA
namespace Go.Proofs.Ytbehmclligkbhaa
open Go.RowKit
set_option linter.unusedVariables false
set_option maxRecDepth 100000
set_option maxHeartbeats 3200000

theorem and_ones : bits .and .u32 2197175160 4294967295 = 2197175160 := by decide +kernel
theorem and_none : bits .and .u32 2197175160 0 = 0 := by decide +kernel
theorem wrap_ones : IntKind.u32.wrap (-1) = 4294967295 := by decide +kernel
theorem check_any (a : Option Addr) (n c : Nat) (bs : List UInt8) (w : World) (hr : Row w a bs) (hn : n = bs.length) (hl : n ≤ 9223372036854775807) (hc : n ≤ c) :
    Calls Try.prog 13 #[.slice a n c] w fun r w' => r = .returned (.int .u32 (crc bs : Int)) ∧ w' = w := by
  have HR := hidU hr
  have HN := hidU hn
  obtain ⟨QQ, hQQ⟩ : ∃ x, Hid (x = crc bs) := ⟨_, (rfl : crc bs = _)⟩
  rw [← hQQ.out]
  clear hr hn
  have hones := and_ones
  have hnone := and_none
  have hwones := wrap_ones
  go_enter Try.func13, Try.ntmps13
  go_wp2
  go_loopw [3, 9] (fun x j wr => ∃ i s : Nat, j = .int .i64 (i : Int) ∧ x = .int .u32 (s : Int) ∧ i ≤ n ∧ wr = w ∧ Hid (s = crR (bs.take i))) (fun x j _ => n - (intOf j).toNat)
  case atStart => exact ⟨0, 4294967295, rfl, rfl, by omega, rfl, rfl⟩
  case round =>
    obtain ⟨i, s, rfl, rfl, hi, rfl, hs⟩ := hrel
    have hs32 : s < 4294967296 := by rw [hs.out]; exact crR_lt _
    by_cases hlt : i < n
    · obtain ⟨b, hb⟩ : ∃ b, bs[i]? = some b := ⟨_, List.getElem?_eq_getElem (by rw [← HN.out]; exact hlt)⟩
      obtain ⟨g, o, rfl, cl⟩ := row_byte HR.out hb
      have hs2 : Hid (crR (bs.take (i + 1)) = crB s b) := by show _ = _; rw [List.take_add_one, hb, Option.toList_some, crR_snoc, hs.out]
      have hbn := b.toNat_lt
      obtain ⟨bn, hbe⟩ : ∃ x, Hid (x = b.toNat) := ⟨_, (rfl : b.toNat = _)⟩
      rw [← hbe.out] at cl hbn
      obtain ⟨c0, hc0⟩ : ∃ x, Hid (x = s ^^^ bn) := ⟨_, (rfl : s ^^^ bn = _)⟩
      have hx : bits .xor .u32 (s : Int) (bn : Int) = (c0 : Int) := by rw [hc0.out]; exact xor_u32 hs32 (by omega)
      have hc32 : c0 < 4294967296 := by rw [hc0.out]; exact Nat.xor_lt_two_pow (n := 32) hs32 (by omega)
      have hs3 : Hid (crR (bs.take (i + 1)) = crN 8 c0) := by show _ = _; rw [hs2.out]; unfold crB; rw [← hbe.out, ← hc0.out]
      clear hb hs2 hs
      go_wp2
      go_loopw [3, 17] (fun x j wr2 => ∃ k e : Nat, j = .int .i64 (k : Int) ∧ x = .int .u32 (e : Int) ∧ k ≤ 8 ∧ wr2 = wr ∧ Hid (e = crN k c0) ∧ Hid (e < 4294967296)) (fun x j _ => 8 - (intOf j).toNat)
      case atStart => exact ⟨0, c0, rfl, rfl, by omega, rfl, rfl, hc32⟩
      case round =>
        obtain ⟨k, e, rfl, rfl, hk, rfl, he, he32⟩ := hrel
        have hlow := low_u32 he32.out
        have hsn : Hid (crN (k + 1) c0 = crS e) := by show _ = _; rw [crN_snoc, he.out]
        by_cases hkl : k < 8
        · by_cases hp : e % 2 = 1
          · have hlow2 : bits .and .u32 (e : Int) 1 = 1 := by rw [hlow, hp]; rfl
            obtain ⟨q, hq⟩ : ∃ x, Hid (x = (e / 2) ^^^ 2197175160) := ⟨_, (rfl : (e / 2) ^^^ 2197175160 = _)⟩
            have hx2 : bits .xor .u32 ((e : Int) / 2) 2197175160 = (q : Int) := by rw [hq.out]; exact xor_u32 (a := e / 2) (b := 2197175160) (by have := he32.out; omega) (by decide)
            have hqs : Hid (q = crN (k + 1) c0 ∧ q < 4294967296) := ⟨by rw [hsn.out, hq.out, crS_one hp], by rw [hq.out]; exact Nat.xor_lt_two_pow (n := 32) (by have := he32.out; omega) (by decide)⟩
            clear hlow hp he hsn
            go_wp2
            go_roundw
            · exact ⟨k + 1, q, by go_num, (by first | rfl | trivial), by omega, (by first | rfl | trivial), hqs.out.1, hqs.out.2⟩
            · simp [intOf]; omega
          · have hlow2 : bits .and .u32 (e : Int) 1 = 0 := by rw [hlow, show e % 2 = 0 by omega]; rfl
            obtain ⟨q, hq⟩ : ∃ x, Hid (x = e / 2) := ⟨_, (rfl : e / 2 = _)⟩
            have hx2 : bits .xor .u32 ((e : Int) / 2) 0 = (q : Int) := by rw [hq.out]; have := xor_u32 (a := e / 2) (b := 0) (by have := he32.out; omega) (by decide); rw [Nat.xor_zero] at this; exact this
            have hqs : Hid (q = crN (k + 1) c0 ∧ q < 4294967296) := ⟨by rw [hsn.out, hq.out, crS_zero hp], by rw [hq.out]; have := he32.out; omega⟩
            clear hlow hp he hsn
            go_wp2
            go_roundw
            · exact ⟨k + 1, q, by go_num, (by first | rfl | trivial), by omega, (by first | rfl | trivial), hqs.out.1, hqs.out.2⟩
            · simp [intOf]; omega
        · have hk8 : k = 8 := by omega
          have hfin : Hid (e = crR (bs.take (i + 1))) := by show _ = _; rw [hs3.out, he.out, hk8]
          clear hlow hsn he hk8
          go_wp2
          go_roundw
          · exact ⟨i + 1, e, by go_num, (by first | rfl | trivial), by omega, (by first | rfl | trivial), hfin⟩
          · simp [intOf]; omega
    · have hfin : s = crR bs := by rw [hs.out, List.take_of_length_le (by rw [← HN.out]; omega)]
      have hx : bits .xor .u32 IntKind.u32.max (s : Int) = (QQ : Int) := by rw [hQQ.out]; refine (not_u32 hs32).trans ?_; rw [hfin]; rfl
      clear hfin hs
      go_wp2
      go_ret
      exact ⟨rfl, rfl⟩
end Go.Proofs.Ytbehmclligkbhaa
