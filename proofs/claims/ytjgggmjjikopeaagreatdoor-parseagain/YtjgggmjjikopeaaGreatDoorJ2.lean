/- Joined texts of the proof. -/
import Derived.Deep.QuietTactic
import Derived.BigQuiet
import Derived.Test.YtjgggmjjikopeaaGreatDoorJ1
import Derived.Deep.RegionHeld3
import Derived.Deep.AppendLies
import Derived.Deep.DrawnRows

/- octet.readDigits and octet.ReadDec. -/
namespace Go.Proofs.YtjgggmjjikopeaaGreatDoor
open Go.RowKit
set_option linter.unusedVariables false

/-- The length of a text in a slot. -/
def strLen : Value → Nat | .string r => r.size | _ => 0

theorem idx10_nat : ∀ c : Nat, c < 256 → Lib.indexByte (({ data := #[48, 49, 50, 51, 52, 53, 54, 55, 56, 57, 97, 98, 99, 100, 101, 102] } : ByteArray).extract 0 10).data.toList ((c : Int).toNat.toUInt8) = if 48 ≤ c ∧ c ≤ 57 then (c : Int) - 48 else -1 := by decide +kernel

theorem not_empty {s : ByteArray} (h : 0 < s.size) : s.toList.isEmpty = false := by
  rw [List.isEmpty_eq_false_iff, Lib.toList_data]
  intro h0
  have : s.size = 0 := by rw [← bytes_length s, bytes, h0]; rfl
  omega

theorem is_empty {s : ByteArray} (h : s.size = 0) : s.toList.isEmpty = true := by
  rw [List.isEmpty_iff, Lib.toList_data]
  apply List.eq_nil_of_length_eq_zero
  simpa using h

theorem extract_one (r : ByteArray) : bytes (r.extract 1 r.size) = (bytes r).drop 1 := by
  rw [bytes, Lib.extract_data, List.take_of_length_le]
  · rfl
  · simp

theorem drewN_again {w wr : World} (h : ∃ q, wr = w.drewN q) (n : Nat) : ∃ q, wr.drewN n = w.drewN q := by
  obtain ⟨q, rfl⟩ := h
  exact ⟨q + n, by simp⟩

/-- What readDigits answers. -/
def DigPost (l : List UInt8) (e : Ending) : Prop := (GoodDec l ∧ e = .returned (.tuple #[.int .u64 (decVal l), .bool true])) ∨ (¬ GoodDec l ∧ e = .returned (.tuple #[.int .u64 0, .bool false]))

end Go.Proofs.YtjgggmjjikopeaaGreatDoor

/- octet.Dec and the document's own Dec. -/
namespace Go.Proofs.YtjgggmjjikopeaaGreatDoor
open Go.RowKit
set_option linter.unusedVariables false

/-- A number's digits: 'f' more at most. -/
def digs : Nat → Nat → List UInt8
  | 0, n => [ub (48 + n % 10)]
  | f + 1, n => if n < 10 then [ub (48 + n % 10)] else digs f (n / 10) ++ [ub (48 + n % 10)]

theorem digs_small (f n : Nat) (h : n < 10) : digs f n = [ub (48 + n % 10)] := by
  cases f with
  | zero => rfl
  | succ f => simp [digs, h]

theorem digs_big (f n : Nat) (h : 10 ≤ n) : digs (f + 1) n = digs f (n / 10) ++ [ub (48 + n % 10)] := by
  simp [digs, show ¬ n < 10 by omega]

/-- The digits of a number, with - ahead of one below 0. -/
def decOf (n : Int) : List UInt8 := if n < 0 then ub 45 :: digs 19 n.natAbs else digs 19 n.natAbs

theorem hexdig : ∀ j : Fin 16, (({ data := #[48, 49, 50, 51, 52, 53, 54, 55, 56, 57, 97, 98, 99, 100, 101, 102] } : ByteArray)[j.val]'(j.isLt)).toNat = if j.val < 10 then 48 + j.val else 87 + j.val := by decide +kernel

theorem dig_at (j : Nat) (h : j < 10) (h' : j < (({ data := #[48, 49, 50, 51, 52, 53, 54, 55, 56, 57, 97, 98, 99, 100, 101, 102] } : ByteArray)).size) : ((({ data := #[48, 49, 50, 51, 52, 53, 54, 55, 56, 57, 97, 98, 99, 100, 101, 102] } : ByteArray)[j]'h').toNat : Int) = ((48 + j % 10 : Nat) : Int) := by
  have := hexdig ⟨j, by omega⟩
  simp only [h, if_true] at this
  rw [this]
  omega

theorem digs_step {N f m : Nat} {back : List UInt8} (hb : 10 ≤ m) (hm : m < 10 ^ (f + 1)) (hf : f + back.length = 19) (h : digs f m ++ back.reverse = digs 19 N) :
    ∃ f', f = f' + 1 ∧ f' + (back ++ [ub (48 + m % 10)]).length = 19 ∧ m / 10 < 10 ^ (f' + 1) ∧ digs f' (m / 10) ++ (back ++ [ub (48 + m % 10)]).reverse = digs 19 N := by
  cases f with
  | zero => simp at hm; omega
  | succ f =>
    refine ⟨f, rfl, by simp; omega, ?_, ?_⟩
    · rw [Nat.div_lt_iff_lt_mul (by omega)]; rwa [Nat.pow_succ] at hm
    · rw [← h, digs_big f m hb]; simp

theorem drop_reverse (B : List UInt8) (k : Nat) (h : k < B.length) : (B.drop (k + 1)).reverse ++ [B.getD k 0] = (B.drop k).reverse := by
  rw [List.drop_eq_getElem_cons h, List.reverse_cons]
  simp [List.getD, List.getElem?_eq_getElem h]

set_option maxRecDepth 100000 in
set_option maxHeartbeats 800000 in
theorem dec_pos (N : Nat) (w : World) (h1 : N ≤ 9223372036854775807) :
    Calls Tryz.prog 198 #[.int .i64 (N : Int)] w fun e w' => e = .returned (.string ⟨(digs 19 N).toArray⟩) ∧ Below w.heap.size w w' := by
  have hN64 : N < 18446744073709551616 := by omega
  have hneg : ¬ (N : Int) < 0 := by omega
  go_enter Tryz.func198, Tryz.ntmps198
  go_wp2
  go_loopw [3, 4] (fun t v wr => ∃ (f m : Nat) (back : List UInt8), f + back.length = 19 ∧ m < 18446744073709551616 ∧ Hid (m < 10 ^ (f + 1)) ∧ t = .int .u64 m ∧ Hid (digs f m ++ back.reverse = digs 19 N) ∧ Own w.heap.size wr v back ∧ Below w.heap.size w wr) (fun t _ _ => (intOf t).toNat)
  case atStart => exact ⟨19, N, [], rfl, hN64, (by show N < 10 ^ 20; omega), rfl, (by show _ = _; simp), Own.nil _ _, Below.refl _ _⟩
  case round =>
    obtain ⟨f, m, back, hf, hm64, hm, rfl, hsh, hown, hbel⟩ := hrel
    have hsz := hbel.size
    by_cases hb : 10 ≤ m
    · obtain ⟨f', rfl, h1', h2', h3'⟩ := digs_step hb hm.out hf hsh.out
      have H1 : Hid (f' + (back ++ [ub (48 + m % 10)]).length = 19) := h1'
      have H2 : Hid (m / 10 < 10 ^ (f' + 1)) := h2'
      have H3 : Hid (digs f' (m / 10) ++ (back ++ [ub (48 + m % 10)]).reverse = digs 19 N) := h3'
      clear h1' h2' h3' hm hsh
      go_wp2_with (at_builtin; refine app1n (.tmp 15) (.tmp 19) _ (48 + m % 10) w.heap.size _ back rfl rfl rfl rfl hown (by omega) (by rw [dig_at (m % 10) (by omega)]; omega) (by omega) hsz ?_)
      intro v' w1 hown' hbel'
      have hb1 := hbel.trans hbel'
      clear hown hbel hbel'
      go_wp2
      go_roundw
      case rel => exact ⟨f', m / 10, _, H1, by omega, H2, by go_num, H3, hown', hb1⟩
      case measure => simp [intOf]; omega
    · have HS : Hid ((back ++ [ub (48 + m % 10)]).reverse = digs 19 N) := by
        show _ = _
        rw [← hsh.out, digs_small f m (by omega)]
        simp
      clear hsh hm
      go_wp2_with (at_builtin; refine app1n (.tmp 23) (.tmp 26) _ (48 + m % 10) w.heap.size _ back rfl rfl rfl rfl hown (by omega) (dig_at m (by omega) _) (by omega) hsz ?_)
      intro v' w1 hown' hbel'
      have hb1 := hbel.trans hbel'
      clear hown hbel hbel'
      have hlb : (back ++ [ub (48 + m % 10)]).length ≤ 20 := by simp; omega
      obtain ⟨B, hB⟩ : ∃ B, B = back ++ [ub (48 + m % 10)] := ⟨_, rfl⟩
      rw [← hB] at hown'
      have HB : Hid (B.reverse = digs 19 N) := by show _ = _; rw [hB, ← HS.out]
      have hBl : 1 ≤ B.length ∧ B.length ≤ 21 := by rw [hB]; simp at hlb ⊢; omega
      clear hB HS hlb
      obtain ⟨a1, cap1, rfl, hle, hmx, hrow⟩ := hown'.row
      rcases hrow with h0 | ⟨b, off, rfl, hc⟩
      · exfalso; rw [h0] at hBl; simp at hBl
      have HROW : Hid (Row w1 (some ⟨b, off, none⟩) B) := .inr ⟨b, off, rfl, hc⟩
      clear hc hown'
      go_wp2
      go_loopw [5, 6] (fun v t wr => ∃ (k : Nat) (out : List UInt8), k ≤ B.length ∧ t = .int .i64 ((k : Int) - 1) ∧ out.length + k = B.length ∧ Hid (out = (B.drop k).reverse) ∧ Own w1.heap.size wr v out ∧ Below w1.heap.size w1 wr)
        (fun _ t _ => (intOf t + 1).toNat)
      case atStart => exact ⟨B.length, [], Nat.le_refl _, by go_num, by simp, (by show _ = _; simp), Own.nil _ _, Below.refl _ _⟩
      case round =>
        obtain ⟨k, out, hk, rfl, hlk, hout, hown, hbel⟩ := hrel
        have hsz2 := hbel.size
        cases k with
        | zero =>
          obtain ⟨a2, cap2, rfl, hle2, hmx2, hrow2⟩ := hown.row
          have hcs := conv_row hrow2 cap2
          have HO : Hid (out = digs 19 N) := by show _ = _; rw [hout.out, ← HB.out]; rfl
          clear hown hrow2 hout
          go_wp2
          go_ret
          exact ⟨by rw [← HO.out]; rfl, hb1.trans (hbel.mono hb1.size)⟩
        | succ k =>
          obtain ⟨c, hcn⟩ : ∃ c, c = (B.getD k 0).toNat := ⟨_, rfl⟩
          have hc256 : c < 256 := by rw [hcn]; exact UInt8.toNat_lt _
          have hcell : wr.cell? ⟨b, off + k, none⟩ = some (.int .u8 (c : Int)) := by
            rcases HROW.out.below hbel with h0 | ⟨b', off', e, hc⟩
            · exfalso; rw [h0] at hBl; simp at hBl
            · cases e
              rw [hcn]; exact hc k (by omega)
          have HO : Hid (out ++ [ub c] = (B.drop k).reverse) := by
            show _ = _
            rw [hout.out, ← drop_reverse B k (by omega), hcn]
            congr 2
            apply UInt8.toNat_inj.1
            rw [ub_toNat _ (UInt8.toNat_lt _)]
          clear hcn hout
          go_wp2_with (at_builtin; refine app1n (.tmp 40) (.tmp 45) _ c w1.heap.size _ out rfl rfl rfl rfl hown hc256 rfl (by omega) hsz2 ?_)
          intro v' w2 hown' hbel'
          have hb2 := hbel.trans hbel'
          clear hown hbel hbel' hcell
          go_wp2
          go_roundw
          case rel => exact ⟨k, _, by omega, by go_num, by simp; omega, HO, hown', hb2⟩
          case measure => simp [intOf]

set_option maxRecDepth 100000 in
set_option maxHeartbeats 800000 in
theorem dec_neg (n : Int) (N : Nat) (w : World) (hneg : n < 0) (h2 : -9223372036854775808 ≤ n) (hN : (N : Int) = -n) :
    Calls Tryz.prog 198 #[.int .i64 n] w fun e w' => e = .returned (.string ⟨(ub 45 :: digs 19 N).toArray⟩) ∧ Below w.heap.size w w' := by
  have hN64 : N < 18446744073709551616 := by omega
  have hw : IntKind.u64.wrap (-IntKind.u64.wrap n) = (N : Int) := by rw [IntKind.wrap_u64, IntKind.wrap_u64]; omega
  clear hN
  go_enter Tryz.func198, Tryz.ntmps198
  go_wp2
  go_loopw [3, 4] (fun t v wr => ∃ (f m : Nat) (back : List UInt8), f + back.length = 19 ∧ m < 18446744073709551616 ∧ Hid (m < 10 ^ (f + 1)) ∧ t = .int .u64 m ∧ Hid (digs f m ++ back.reverse = digs 19 N) ∧ Own w.heap.size wr v back ∧ Below w.heap.size w wr) (fun t _ _ => (intOf t).toNat)
  case atStart => exact ⟨19, N, [], rfl, hN64, (by show N < 10 ^ 20; omega), rfl, (by show _ = _; simp), Own.nil _ _, Below.refl _ _⟩
  case round =>
    obtain ⟨f, m, back, hf, hm64, hm, rfl, hsh, hown, hbel⟩ := hrel
    have hsz := hbel.size
    by_cases hb : 10 ≤ m
    · obtain ⟨f', rfl, h1', h2', h3'⟩ := digs_step hb hm.out hf hsh.out
      have H1 : Hid (f' + (back ++ [ub (48 + m % 10)]).length = 19) := h1'
      have H2 : Hid (m / 10 < 10 ^ (f' + 1)) := h2'
      have H3 : Hid (digs f' (m / 10) ++ (back ++ [ub (48 + m % 10)]).reverse = digs 19 N) := h3'
      clear h1' h2' h3' hm hsh
      go_wp2_with (at_builtin; refine app1n (.tmp 15) (.tmp 19) _ (48 + m % 10) w.heap.size _ back rfl rfl rfl rfl hown (by omega) (by rw [dig_at (m % 10) (by omega)]; omega) (by omega) hsz ?_)
      intro v' w1 hown' hbel'
      have hb1 := hbel.trans hbel'
      clear hown hbel hbel'
      go_wp2
      go_roundw
      case rel => exact ⟨f', m / 10, _, H1, by omega, H2, by go_num, H3, hown', hb1⟩
      case measure => simp [intOf]; omega
    · have HS : Hid ((back ++ [ub (48 + m % 10)]).reverse = digs 19 N) := by
        show _ = _
        rw [← hsh.out, digs_small f m (by omega)]
        simp
      clear hsh hm
      go_wp2_with (at_builtin; refine app1n (.tmp 23) (.tmp 26) _ (48 + m % 10) w.heap.size _ back rfl rfl rfl rfl hown (by omega) (dig_at m (by omega) _) (by omega) hsz ?_)
      intro v' w1 hown' hbel'
      have hb1 := hbel.trans hbel'
      clear hown hbel hbel'
      have hlb : (back ++ [ub (48 + m % 10)]).length ≤ 20 := by simp; omega
      have hsz1 := hb1.size
      go_wp2_with (at_builtin; refine app1n (.tmp 30) (.tmp 31) _ 45 w.heap.size _ (back ++ [ub (48 + m % 10)]) rfl rfl rfl rfl hown' (by omega) rfl (by omega) hsz1 ?_)
      clear hown'
      intro v' w1 hown' hbel'
      have hb2 := hb1.trans hbel'
      clear hb1 hbel' hsz1
      have hb1 := hb2
      clear hb2
      obtain ⟨B, hB⟩ : ∃ B, B = back ++ [ub (48 + m % 10), ub 45] := ⟨_, rfl⟩
      rw [← hB] at hown'
      have HB : Hid (B.reverse = ub 45 :: digs 19 N) := by show _ = _; rw [hB, ← HS.out]; simp
      have hBl : 1 ≤ B.length ∧ B.length ≤ 21 := by rw [hB]; simp at hlb ⊢; omega
      clear hB HS hlb
      obtain ⟨a1, cap1, rfl, hle, hmx, hrow⟩ := hown'.row
      rcases hrow with h0 | ⟨b, off, rfl, hc⟩
      · exfalso; rw [h0] at hBl; simp at hBl
      have HROW : Hid (Row w1 (some ⟨b, off, none⟩) B) := .inr ⟨b, off, rfl, hc⟩
      clear hc hown'
      go_wp2
      go_loopw [5, 6] (fun v t wr => ∃ (k : Nat) (out : List UInt8), k ≤ B.length ∧ t = .int .i64 ((k : Int) - 1) ∧ out.length + k = B.length ∧ Hid (out = (B.drop k).reverse) ∧ Own w1.heap.size wr v out ∧ Below w1.heap.size w1 wr)
        (fun _ t _ => (intOf t + 1).toNat)
      case atStart => exact ⟨B.length, [], Nat.le_refl _, by go_num, by simp, (by show _ = _; simp), Own.nil _ _, Below.refl _ _⟩
      case round =>
        obtain ⟨k, out, hk, rfl, hlk, hout, hown, hbel⟩ := hrel
        have hsz2 := hbel.size
        cases k with
        | zero =>
          obtain ⟨a2, cap2, rfl, hle2, hmx2, hrow2⟩ := hown.row
          have hcs := conv_row hrow2 cap2
          have HO : Hid (out = ub 45 :: digs 19 N) := by show _ = _; rw [hout.out, ← HB.out]; rfl
          clear hown hrow2 hout
          go_wp2
          go_ret
          exact ⟨by rw [← HO.out]; rfl, hb1.trans (hbel.mono hb1.size)⟩
        | succ k =>
          obtain ⟨c, hcn⟩ : ∃ c, c = (B.getD k 0).toNat := ⟨_, rfl⟩
          have hc256 : c < 256 := by rw [hcn]; exact UInt8.toNat_lt _
          have hcell : wr.cell? ⟨b, off + k, none⟩ = some (.int .u8 (c : Int)) := by
            rcases HROW.out.below hbel with h0 | ⟨b', off', e, hc⟩
            · exfalso; rw [h0] at hBl; simp at hBl
            · cases e
              rw [hcn]; exact hc k (by omega)
          have HO : Hid (out ++ [ub c] = (B.drop k).reverse) := by
            show _ = _
            rw [hout.out, ← drop_reverse B k (by omega), hcn]
            congr 2
            apply UInt8.toNat_inj.1
            rw [ub_toNat _ (UInt8.toNat_lt _)]
          clear hcn hout
          go_wp2_with (at_builtin; refine app1n (.tmp 40) (.tmp 45) _ c w1.heap.size _ out rfl rfl rfl rfl hown hc256 rfl (by omega) hsz2 ?_)
          intro v' w2 hown' hbel'
          have hb2 := hbel.trans hbel'
          clear hown hbel hbel' hcell
          go_wp2
          go_roundw
          case rel => exact ⟨k, _, by omega, by go_num, by simp; omega, HO, hown', hb2⟩
          case measure => simp [intOf]

end Go.Proofs.YtjgggmjjikopeaaGreatDoor

/- The document's own Dec. -/
namespace Go.Proofs.YtjgggmjjikopeaaGreatDoor
open Go.RowKit
set_option linter.unusedVariables false

theorem dec_any (n : Int) (w : World) (h1 : n ≤ 9223372036854775807) (h2 : -9223372036854775808 ≤ n) :
    Calls Tryz.prog 198 #[.int .i64 n] w fun e w' => e = .returned (.string ⟨(decOf n).toArray⟩) ∧ Below w.heap.size w w' := by
  unfold decOf
  by_cases h : n < 0
  · rw [if_pos h]
    exact dec_neg n n.natAbs w h h2 (by omega)
  · rw [if_neg h]
    obtain ⟨N, rfl⟩ : ∃ N : Nat, n = (N : Int) := ⟨n.natAbs, by omega⟩
    have e : (N : Int).natAbs = N := by omega
    rw [e]
    exact dec_pos N w (by omega)

end Go.Proofs.YtjgggmjjikopeaaGreatDoor

/- octet.Number and the document's own Number: what they hand back. -/
namespace Go.Proofs.YtjgggmjjikopeaaGreatDoor
open Go.RowKit
set_option linter.unusedVariables false

/-- The number whose bytes these are. -/
def number (bs : List UInt8) : Nat := bs.foldl (fun n b => n * 256 + b.toNat) 0

theorem take_snoc (bs : List UInt8) (k : Nat) (h : k < bs.length) : bs.take (k + 1) = bs.take k ++ [bs.getD k 0] := by
  rw [List.take_succ_eq_append_getElem h]
  simp [List.getD, List.getElem?_eq_getElem h]

end Go.Proofs.YtjgggmjjikopeaaGreatDoor

/- octet.Hex and the document's own Hex: the digits of bytes. -/
namespace Go.Proofs.YtjgggmjjikopeaaGreatDoor
open Go.RowKit
set_option linter.unusedVariables false
attribute [local go_sem ↓] Go.wp_at_zero Go.wp_at_succ

/-- A digit's sign. -/
def hdN (j : Nat) : Nat := if j < 10 then 48 + j else 87 + j

theorem hdN_lt (j : Nat) (h : j < 16) : hdN j < 256 := by unfold hdN; split <;> omega

/-- The digits of bytes. -/
def hexOf : List UInt8 → List UInt8
  | [] => []
  | b :: l => ub (hdN (b.toNat / 16)) :: ub (hdN (b.toNat % 16)) :: hexOf l

theorem hexOf_snoc (l : List UInt8) (b : UInt8) : hexOf (l ++ [b]) = hexOf l ++ [ub (hdN (b.toNat / 16)), ub (hdN (b.toNat % 16))] := by
  induction l with
  | nil => rfl
  | cons a l ih => simp [hexOf, ih]

theorem hexOf_length (l : List UInt8) : (hexOf l).length = 2 * l.length := by
  induction l with
  | nil => rfl
  | cons a l ih => simp [hexOf, ih]; omega

theorem hexOf_take (bs : List UInt8) (k : Nat) (h : k < bs.length) : hexOf (bs.take (k + 1)) = hexOf (bs.take k) ++ [ub (hdN ((bs.getD k 0).toNat / 16)), ub (hdN ((bs.getD k 0).toNat % 16))] := by
  rw [take_snoc bs k h, hexOf_snoc]

theorem hd_at (j : Nat) (h : j < 16) (h' : j < (({ data := #[48, 49, 50, 51, 52, 53, 54, 55, 56, 57, 97, 98, 99, 100, 101, 102] } : ByteArray)).size) : ((({ data := #[48, 49, 50, 51, 52, 53, 54, 55, 56, 57, 97, 98, 99, 100, 101, 102] } : ByteArray)[j]'h').toNat : Int) = (hdN j : Int) := by
  have := hexdig ⟨j, h⟩
  simp only at this
  unfold hdN
  omega

/-- 'out = append(out, x, y)' as one step of a region that draws its order. -/
theorem step_app2 {ops : Array Oper} {o : Oper} {a : Act} {K : Act → World → Prop} {Q : Exit → Act → World → Prop} {E : Prop} {w0 : World} (s x : Operand) (z1 z2 : Int) (k1 k2 : Nat) (base : Nat) (v : Value) (out : List UInt8)
    (hgd : o.guard = none) (ho : o.op = .call { callee := .builtin .append, args := #[s, x], argTypes := #[84, 84] })
    (hs : a.eval s = v) (hx : a.eval x = .slice (some ⟨w0.heap.size, 0, none⟩) 2 2) (hown : Own base w0 v out) (hk1 : k1 < 256) (hk2 : k2 < 256) (hz1 : z1 = (k1 : Int)) (hz2 : z2 = (k2 : Int)) (hlen : out.length ≤ 1099511627776) (hbase : base ≤ w0.heap.size)
    (h : ∀ g cap w', Own base w' (.slice (some ⟨g, 0, none⟩) (out.length + 2) cap) (out ++ [ub k1, ub k2]) → Below base w0 w' → K (a.put o.dst (.slice (some ⟨g, 0, none⟩) (out.length + 2) cap)) w') :
    if Region.wanted o (yielded ops a.tmps) = true then Oper.wp Tryz.prog o a ((w0.alloc (.cells #[.int .u8 z1, .int .u8 z2] 5)).drew) K Q else E := by
  obtain ⟨i0, hi, hz0, hzz1, hzz2⟩ := info_parts Tryz.info5
  subst hz1 hz2
  refine step_append_lies (w := (w0.alloc (.cells #[.int .u8 (k1 : Int), .int .u8 (k2 : Int)] 5)).drew) hgd s x 84 ho base 5 i0 (.int .u8 0) 1 1 Tryz.underlying84 hi hz0 hzz1 hzz2 rfl (by decide) v out.length (out.map B8) hs (World.ownsRow.drew (World.ownsRow.alloc hown _))
    ⟨w0.heap.size, 0, none⟩ 2 2 [.int .u8 (k1 : Int), .int .u8 (k2 : Int)] hx rfl (World.news_of_block (cs := #[.int .u8 (k1 : Int), .int .u8 (k2 : Int)]) (t := 5) (fr := (0, 0)) (heap_alloc_new w0 _)) (by simp [Value.oneCell'])
    (by omega) (by unfold maxLen; omega) (by omega) (by simp; omega) (w0.heap.size + 1) (by simp) ?_
  intro g cap w' h1 h2 _ _
  refine h g cap w' ?_ ?_
  · have e2 : out.map B8 ++ [.int .u8 (k1 : Int), .int .u8 (k2 : Int)] = (out ++ [ub k1, ub k2]).map B8 := by simp [B8, ub_toNat k1 hk1, ub_toNat k2 hk2]
    rw [e2] at h1
    have e : out.length + 2 = (out ++ [ub k1, ub k2]).length := by simp
    unfold Own
    rw [← e]
    exact h1
  · exact (((Below.refl base w0).alloc hbase _).drew).grown h2 (by simp; omega) hown.block

set_option maxRecDepth 100000 in
set_option maxHeartbeats 1600000 in
theorem hex_full (b off cap : Nat) (bs : List UInt8) (w : World) (hc : ∀ j, j < bs.length → w.cell? ⟨b, off + j, none⟩ = some (.int .u8 ((bs.getD j 0).toNat : Int))) (hmax : bs.length ≤ 268435456) (hpos : 0 < bs.length) :
    Calls Tryz.prog 176 #[.slice (some ⟨b, off, none⟩) bs.length cap] w fun e w' => e = .returned (.string ⟨(hexOf bs).toArray⟩) ∧ Below w.heap.size w w' := by
  have HC : Hid (∀ j, j < bs.length → w.cell? ⟨b, off + j, none⟩ = some (.int .u8 ((bs.getD j 0).toNat : Int))) := hc
  have hblt : b < w.heap.size := lt_of_cell (hc 0 hpos)
  clear hc
  go_enter Tryz.func176, Tryz.ntmps176
  go_wp2
  go_loopw [3, 8] (fun v i wr => ∃ (k : Nat) (out : List UInt8), k ≤ bs.length ∧ i = .int .i64 k ∧ out.length = 2 * k ∧ Hid (out = hexOf (bs.take k)) ∧ Own w.heap.size wr v out ∧ Below w.heap.size w wr) (fun _ i _ => bs.length - (intOf i).toNat)
  case atStart => exact ⟨0, [], Nat.zero_le _, rfl, rfl, rfl, Own.nil _ _, Below.refl _ _⟩
  case round =>
    obtain ⟨k, out, hk, rfl, hol, hout, hown, hbel⟩ := hrel
    have hsz := hbel.size
    have HOL : Hid (out.length = 2 * k) := hol
    have hol2 : out.length ≤ 1099511627776 := by omega
    clear hol
    by_cases hlt : k < bs.length
    · obtain ⟨c, hcn⟩ : ∃ c, c = (bs.getD k 0).toNat := ⟨_, rfl⟩
      have hc256 : c < 256 := by rw [hcn]; exact UInt8.toNat_lt _
      have hcell : wr.cell? ⟨b, off + k, none⟩ = some (.int .u8 (c : Int)) := by rw [hbel.cell (by exact hblt), hcn]; exact HC.out k hlt
      have hm15 : bits .and .u8 (c : Int) 15 = (c : Int) % 16 := bits_mask .u8 8 (by decide) wraps_u8 4 (by decide) c (by omega) (by omega)
      have HO : Hid (out ++ [ub (hdN (c / 16)), ub (hdN (c % 16))] = hexOf (bs.take (k + 1))) := by show _ = _; rw [hexOf_take bs k hlt, hout.out, hcn]
      clear hcn hout
      have i1 : (0 : Int) ≤ (c : Int) / 16 := by omega
      have i2 : (c : Int) / 16 < 16 := by omega
      have i3 : (0 : Int) ≤ (c : Int) % 16 := by omega
      have i4 : (c : Int) % 16 < 16 := by omega
      go_wp2
      go_region_held3 (fun _ => True) (trivial) ((refine step_app2 (.tmp 12) (.tmp 19) _ _ (hdN (c / 16)) (hdN (c % 16)) w.heap.size _ out (by rfl) (by rfl) (by rfl) (by rfl) hown (hdN_lt _ (by omega)) (hdN_lt _ (by omega)) (hd_at _ (by omega) _) (hd_at _ (by omega) _) hol2 hsz ?_; intro g cap' w1 hown' hbel'))
      all_goals
        have hb1 := hbel.trans hbel'
        clear hown hbel hbel' hcell
        go_wp2
        go_roundw
        case rel => exact ⟨k + 1, _, by omega, by go_num, by have := HOL.out; simp; omega, HO, hown', hb1⟩
        case measure => simp [intOf]; omega
    · obtain ⟨a2, cap2, rfl, hle2, hmx2, hrow2⟩ := hown.row
      have hcs := conv_row hrow2 cap2
      have HO : Hid (out = hexOf bs) := by show _ = _; rw [hout.out, List.take_of_length_le (by omega)]
      clear hown hrow2 hout
      go_wp2
      go_ret
      exact ⟨by rw [← HO.out]; rfl, hbel⟩

set_option maxRecDepth 100000 in
set_option maxHeartbeats 400000 in
theorem hex_none (a : Option Addr) (cap : Nat) (w : World) :
    Calls Tryz.prog 176 #[.slice a 0 cap] w fun e w' => e = .returned (.string ⟨(hexOf []).toArray⟩) ∧ Below w.heap.size w w' := by
  have hcs := conv_zero w none 0
  go_enter Tryz.func176, Tryz.ntmps176
  go_wp2
  refine wp_loop_rounds 1 ?_
  rw [rounds_succ]
  go_wp2
  go_ret
  exact ⟨rfl, Below.refl _ _⟩

theorem hex_any (a : Option Addr) (cap : Nat) (bs : List UInt8) (w : World) (hrow : Row w a bs) (hmax : bs.length ≤ 268435456) :
    Calls Tryz.prog 176 #[.slice a bs.length cap] w fun e w' => e = .returned (.string ⟨(hexOf bs).toArray⟩) ∧ Below w.heap.size w w' := by
  rcases hrow with rfl | ⟨b, off, rfl, hc⟩
  · exact hex_none a cap w
  · rcases Nat.eq_zero_or_pos bs.length with h | h
    · have : bs = [] := List.eq_nil_of_length_eq_zero h
      subst this
      exact hex_none _ cap w
    · exact hex_full b off cap bs w hc hmax h

end Go.Proofs.YtjgggmjjikopeaaGreatDoor

/- octet.Bytes, the document's own Bytes and Fits: what they hand back. -/
namespace Go.Proofs.YtjgggmjjikopeaaGreatDoor
open Go.RowKit
set_option linter.unusedVariables false

/-- A number's bytes, so many, the highest first. -/
def bytesOf : Nat → Nat → List UInt8
  | 0, _ => []
  | s + 1, n => ub (n / 256 ^ s % 256) :: bytesOf s n

theorem bytesOf_length (s n : Nat) : (bytesOf s n).length = s := by
  induction s with
  | zero => rfl
  | succ s ih => simp [bytesOf, ih]

theorem shr8 (n k : Nat) : (n : Int) / 2 ^ (8 * k) = ((n / 256 ^ k : Nat) : Int) := by
  rw [Int.natCast_ediv, Int.natCast_pow, Int.pow_mul]
  rfl

theorem shr8b (n k : Nat) : (n : Int) / 2 ^ (8 * k) % 256 = ((n / 256 ^ k % 256 : Nat) : Int) := by
  rw [shr8]; omega

set_option maxRecDepth 100000 in
set_option maxHeartbeats 400000 in
theorem bytes_ok (n s : Nat) (hn : n < 18446744073709551616) (h1 : 1 ≤ s) (hs : s ≤ 8) (hfit : n / 256 ^ s = 0) (w : World) :
    Calls Tryz.prog 175 #[.int .u64 n, .int .i64 s] w fun e w' => ∃ v, e = .returned (.tuple #[v, .int .i64 0]) ∧ Own w.heap.size w' v (bytesOf s n) ∧ Below w.heap.size w w' := by
  have ht : ((n : Int) / 2 ^ (8 * s) != 0) = false := by rw [shr8, hfit]; rfl
  clear hfit
  go_enter Tryz.func175, Tryz.ntmps175
  go_wp2
  go_loopw [1, 6] (fun t v wr => ∃ (k : Nat) (out : List UInt8), k ≤ s ∧ t = .int .i64 (k : Int) ∧ out.length + k = s ∧ Hid (out ++ bytesOf k n = bytesOf s n) ∧ Own w.heap.size wr v out ∧ Below w.heap.size w wr)
    (fun t _ _ => (intOf t).toNat)
  case atStart => exact ⟨s, [], Nat.le_refl _, rfl, by simp, rfl, Own.nil _ _, Below.refl _ _⟩
  case round =>
    obtain ⟨k, out, hk, rfl, hlk, hsh, hown, hbel⟩ := hrel
    have hsz := hbel.size
    cases k with
    | zero =>
      go_wp2
      go_ret2
      exact ⟨_, rfl, by have := hsh.out; simp [bytesOf] at this; rw [← this]; exact hown, hbel⟩
    | succ k =>
      have H3 : Hid ((out ++ [ub (n / 256 ^ k % 256)]) ++ bytesOf k n = bytesOf s n) := by have := hsh.out; simp only [bytesOf] at this; simpa [Hid] using this
      clear hsh
      go_wp2_with (at_builtin; refine app1n (.tmp 24) (.tmp 30) _ (n / 256 ^ k % 256) w.heap.size _ out rfl rfl rfl rfl hown (by omega) (shr8b n k) (by omega) hsz ?_)
      intro v' w1 hown' hbel'
      have hb1 := hbel.trans hbel'
      clear hown hbel hbel'
      go_wp2
      go_roundw
      case rel => exact ⟨k, _, by omega, by go_num, by simp; omega, H3, hown', hb1⟩
      case measure => simp [intOf]

end Go.Proofs.YtjgggmjjikopeaaGreatDoor
