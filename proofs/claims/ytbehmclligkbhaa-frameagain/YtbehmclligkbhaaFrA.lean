/- Check, the program's and the given answer's. -/
import Derived.Test.YtbehmclligkbhaaFrM
import Derived.Test.YtbehmclligkbhaaGn
import Derived.Laws.BitsAllLaws
namespace Go.Proofs.Ytbehmclligkbhaa
open Go.RowKit
set_option linter.unusedVariables false

def or32 (a b : Nat) : Nat := (a % 4294967296) ||| (b % 4294967296)
def and32 (a b : Nat) : Nat := (a % 4294967296) &&& (b % 4294967296)
def xor32 (a b : Nat) : Nat := (a % 4294967296) ^^^ (b % 4294967296)
theorem ofInt_any (a : Nat) : (BitVec.ofInt 32 (a : Int)).toNat = a % 4294967296 := by
  rw [BitVec.ofInt_natCast, BitVec.toNat_ofNat]
theorem and32_eq (a b : Nat) : bits .and .u32 (a : Int) (b : Int) = ((and32 a b : Nat) : Int) := by
  have hx : (a % 4294967296) &&& (b % 4294967296) < 2 ^ 32 := Nat.and_lt_two_pow _ (by omega)
  show IntKind.u32.wrap ((BitVec.ofInt 32 (a : Int) &&& BitVec.ofInt 32 (b : Int)).toNat : Int) = _
  rw [BitVec.toNat_and, ofInt_any, ofInt_any, IntKind.wrap_u32']
  unfold and32
  omega
theorem xor32_eq (a b : Nat) : bits .xor .u32 (a : Int) (b : Int) = ((xor32 a b : Nat) : Int) := by
  have hx : (a % 4294967296) ^^^ (b % 4294967296) < 2 ^ 32 := Nat.xor_lt_two_pow (by omega) (by omega)
  show IntKind.u32.wrap ((BitVec.ofInt 32 (a : Int) ^^^ BitVec.ofInt 32 (b : Int)).toNat : Int) = _
  rw [BitVec.toNat_xor, ofInt_any, ofInt_any, IntKind.wrap_u32']
  unfold xor32
  omega
theorem xor_u32 {a b : Nat} (ha : a < 4294967296) (hb : b < 4294967296) : bits .xor .u32 (a : Int) (b : Int) = ((a ^^^ b : Nat) : Int) := by
  rw [xor32_eq]; unfold xor32; rw [Nat.mod_eq_of_lt ha, Nat.mod_eq_of_lt hb]
theorem low_u32 {a : Nat} (ha : a < 4294967296) : bits .and .u32 (a : Int) 1 = ((a % 2 : Nat) : Int) := by
  have := and32_eq a 1
  rw [show ((1 : Nat) : Int) = 1 from rfl] at this
  rw [this]; unfold and32; rw [Nat.mod_eq_of_lt ha, show 1 % 4294967296 = 1 from rfl, Nat.and_one_is_mod]
theorem not_u32 {a : Nat} (ha : a < 4294967296) : bits .xor .u32 4294967295 (a : Int) = ((4294967295 ^^^ a : Nat) : Int) := by
  rw [show (4294967295 : Int) = ((4294967295 : Nat) : Int) from rfl]; exact xor_u32 (by decide) ha
theorem crS_one {c : Nat} (h : c % 2 = 1) : crS c = (c / 2) ^^^ 2197175160 := if_pos h
theorem crS_zero {c : Nat} (h : ¬ c % 2 = 1) : crS c = c / 2 := if_neg h
theorem row_byte {x : World} {a : Option Addr} {bs : List UInt8} {i : Nat} {b : UInt8} (h : Row x a bs) (hi : bs[i]? = some b) : ∃ g o, a = some ⟨g, o, none⟩ ∧ x.cell? ⟨g, o + i, none⟩ = some (.int .u8 (b.toNat : Int)) := by
  obtain ⟨g, o, e, hr⟩ := (rowB.2 h).at hi
  refine ⟨g, o, e, ?_⟩
  have := hr 0 _ rfl
  rwa [show o + i * eB.n + 0 = o + i from (by show o + i * 1 + 0 = _; omega)] at this
set_option maxRecDepth 100000 in
set_option maxHeartbeats 3200000 in
/-- The given answer's check. -/
theorem refCheck_any (a : Option Addr) (n c : Nat) (bs : List UInt8) (w : World) (hr : Row w a bs) (hn : n = bs.length) (hl : n ≤ 9223372036854775807) (hc : n ≤ c) :
    Calls Try.prog 14 #[.slice a n c] w fun r w' => r = .returned (.int .u32 (crc bs : Int)) ∧ w' = w := by
  have HR := hidU hr
  have HN := hidU hn
  obtain ⟨QQ, hQQ⟩ : ∃ x, Hid (x = crc bs) := ⟨_, (rfl : crc bs = _)⟩
  rw [← hQQ.out]
  clear hr hn
  go_enter Try.func14, Try.ntmps14
  go_wp2
  go_loopw [3, 4] (fun x j wr => ∃ i s : Nat, j = .int .i64 (i : Int) ∧ x = .int .u32 (s : Int) ∧ i ≤ n ∧ wr = w ∧ Hid (s = crR (bs.take i))) (fun x j _ => n - (intOf j).toNat)
  case atStart => exact ⟨0, 4294967295, rfl, rfl, by omega, rfl, rfl⟩
  case round =>
    obtain ⟨i, s, rfl, rfl, hi, rfl, hs⟩ := hrel
    have hs32 : s < 4294967296 := by rw [hs.out]; exact crR_lt _
    by_cases hlt : i < n
    · obtain ⟨b, hb⟩ : ∃ b, bs[i]? = some b := ⟨_, List.getElem?_eq_getElem (by rw [← HN.out]; exact hlt)⟩
      obtain ⟨g, o, rfl, cl⟩ := row_byte HR.out hb
      have hs2 : Hid (crR (bs.take (i + 1)) = crB s b) := by show _ = _; rw [List.take_add_one, hb, Option.toList_some, crR_snoc, hs.out]
      have hbn := b.toNat_lt
      obtain ⟨bn, hbe⟩ : ∃ x, Hid (x = b.toNat) := ⟨_, (rfl : b.toNat = _)⟩
      rw [← hbe.out] at cl hbn
      obtain ⟨c0, hc0⟩ : ∃ x, Hid (x = s ^^^ bn) := ⟨_, (rfl : s ^^^ bn = _)⟩
      have hx : bits .xor .u32 (s : Int) (bn : Int) = (c0 : Int) := by rw [hc0.out]; exact xor_u32 hs32 (by omega)
      have hc32 : c0 < 4294967296 := by rw [hc0.out]; exact Nat.xor_lt_two_pow (n := 32) hs32 (by omega)
      have hs3 : Hid (crR (bs.take (i + 1)) = crN 8 c0) := by show _ = _; rw [hs2.out]; unfold crB; rw [← hbe.out, ← hc0.out]
      clear hb hs2 hs
      go_wp2
      go_loopw [3, 5] (fun x j wr2 => ∃ k e : Nat, j = .int .i64 (k : Int) ∧ x = .int .u32 (e : Int) ∧ k ≤ 8 ∧ wr2 = wr ∧ Hid (e = crN k c0) ∧ Hid (e < 4294967296)) (fun x j _ => 8 - (intOf j).toNat)
      case atStart => exact ⟨0, c0, rfl, rfl, by omega, rfl, rfl, hc32⟩
      case round =>
        obtain ⟨k, e, rfl, rfl, hk, rfl, he, he32⟩ := hrel
        have hlow := low_u32 he32.out
        have hsn : Hid (crN (k + 1) c0 = crS e) := by show _ = _; rw [crN_snoc, he.out]
        by_cases hkl : k < 8
        · by_cases hp : e % 2 = 1
          · have hlow2 : bits .and .u32 (e : Int) 1 = 1 := by rw [hlow, hp]; rfl
            obtain ⟨q, hq⟩ : ∃ x, Hid (x = (e / 2) ^^^ 2197175160) := ⟨_, (rfl : (e / 2) ^^^ 2197175160 = _)⟩
            have hx2 : bits .xor .u32 ((e : Int) / 2) 2197175160 = (q : Int) := by rw [hq.out]; exact xor_u32 (a := e / 2) (b := 2197175160) (by have := he32.out; omega) (by decide)
            have hqs : Hid (q = crN (k + 1) c0 ∧ q < 4294967296) := ⟨by rw [hsn.out, hq.out, crS_one hp], by rw [hq.out]; exact Nat.xor_lt_two_pow (n := 32) (by have := he32.out; omega) (by decide)⟩
            clear hlow hp he hsn
            go_wp2
            go_roundw
            · exact ⟨k + 1, q, by go_num, (by first | rfl | trivial), by omega, (by first | rfl | trivial), hqs.out.1, hqs.out.2⟩
            · simp [intOf]; omega
          · have hlow2 : bits .and .u32 (e : Int) 1 = 0 := by rw [hlow, show e % 2 = 0 by omega]; rfl
            obtain ⟨q, hq⟩ : ∃ x, Hid (x = e / 2) := ⟨_, (rfl : e / 2 = _)⟩
            have hx2 : (e : Int) / 2 = (q : Int) := by rw [hq.out]; omega
            have hqs : Hid (q = crN (k + 1) c0 ∧ q < 4294967296) := ⟨by rw [hsn.out, hq.out, crS_zero hp], by rw [hq.out]; have := he32.out; omega⟩
            clear hlow hp he hsn
            go_wp2
            go_roundw
            · exact ⟨k + 1, q, by go_num, (by first | rfl | trivial), by omega, (by first | rfl | trivial), hqs.out.1, hqs.out.2⟩
            · simp [intOf]; omega
        · have hk8 : k = 8 := by omega
          have hfin : Hid (e = crR (bs.take (i + 1))) := by show _ = _; rw [hs3.out, he.out, hk8]
          clear hlow hsn he hk8
          go_wp2
          go_roundw
          · exact ⟨i + 1, e, by go_num, (by first | rfl | trivial), by omega, (by first | rfl | trivial), hfin⟩
          · simp [intOf]; omega
    · have hfin : s = crR bs := by rw [hs.out, List.take_of_length_le (by rw [← HN.out]; omega)]
      have hx : bits .xor .u32 IntKind.u32.max (s : Int) = (QQ : Int) := by rw [hQQ.out]; refine (not_u32 hs32).trans ?_; rw [hfin]; rfl
      clear hfin hs
      go_wp2
      go_ret
      exact ⟨rfl, rfl⟩
end Go.Proofs.Ytbehmclligkbhaa
