/- Joined texts of the proof. -/
import Derived.Test.YtcmahiphfpgadaaDoorJ6
import Derived.Deep.RegionHeld3
import Derived.Deep.AppendLies
import Derived.Deep.DrawnRows
import Derived.Deep.QuietTactic
import Derived.BigQuiet

/- octet.Dec and the document's own Dec. -/
namespace Go.Proofs.YtcmahiphfpgadaaDoor
open Go.RowKit
set_option linter.unusedVariables false

/-- A number's digits: 'f' more at most. -/
def digs : Nat → Nat → List UInt8
  | 0, n => [ub (48 + n % 10)]
  | f + 1, n => if n < 10 then [ub (48 + n % 10)] else digs f (n / 10) ++ [ub (48 + n % 10)]

theorem digs_small (f n : Nat) (h : n < 10) : digs f n = [ub (48 + n % 10)] := by
  cases f with
  | zero => rfl
  | succ f => simp [digs, h]

theorem digs_big (f n : Nat) (h : 10 ≤ n) : digs (f + 1) n = digs f (n / 10) ++ [ub (48 + n % 10)] := by
  simp [digs, show ¬ n < 10 by omega]

/-- The digits of a number, with - ahead of one below 0. -/
def decOf (n : Int) : List UInt8 := if n < 0 then ub 45 :: digs 19 n.natAbs else digs 19 n.natAbs

theorem hexdig : ∀ j : Fin 16, (({ data := #[48, 49, 50, 51, 52, 53, 54, 55, 56, 57, 97, 98, 99, 100, 101, 102] } : ByteArray)[j.val]'(j.isLt)).toNat = if j.val < 10 then 48 + j.val else 87 + j.val := by decide +kernel

theorem dig_at (j : Nat) (h : j < 10) (h' : j < (({ data := #[48, 49, 50, 51, 52, 53, 54, 55, 56, 57, 97, 98, 99, 100, 101, 102] } : ByteArray)).size) : ((({ data := #[48, 49, 50, 51, 52, 53, 54, 55, 56, 57, 97, 98, 99, 100, 101, 102] } : ByteArray)[j]'h').toNat : Int) = ((48 + j % 10 : Nat) : Int) := by
  have := hexdig ⟨j, by omega⟩
  simp only [h, if_true] at this
  rw [this]
  omega

theorem digs_step {N f m : Nat} {back : List UInt8} (hb : 10 ≤ m) (hm : m < 10 ^ (f + 1)) (hf : f + back.length = 19) (h : digs f m ++ back.reverse = digs 19 N) :
    ∃ f', f = f' + 1 ∧ f' + (back ++ [ub (48 + m % 10)]).length = 19 ∧ m / 10 < 10 ^ (f' + 1) ∧ digs f' (m / 10) ++ (back ++ [ub (48 + m % 10)]).reverse = digs 19 N := by
  cases f with
  | zero => simp at hm; omega
  | succ f =>
    refine ⟨f, rfl, by simp; omega, ?_, ?_⟩
    · rw [Nat.div_lt_iff_lt_mul (by omega)]; rwa [Nat.pow_succ] at hm
    · rw [← h, digs_big f m hb]; simp

theorem drop_reverse (B : List UInt8) (k : Nat) (h : k < B.length) : (B.drop (k + 1)).reverse ++ [B.getD k 0] = (B.drop k).reverse := by
  rw [List.drop_eq_getElem_cons h, List.reverse_cons]
  simp [List.getD, List.getElem?_eq_getElem h]

set_option maxRecDepth 100000 in
set_option maxHeartbeats 800000 in
theorem dec_pos (N : Nat) (w : World) (h1 : N ≤ 9223372036854775807) :
    Calls Tryd.prog 66 #[.int .i64 (N : Int)] w fun e w' => e = .returned (.string ⟨(digs 19 N).toArray⟩) ∧ Below w.heap.size w w' := by
  have hN64 : N < 18446744073709551616 := by omega
  have hneg : ¬ (N : Int) < 0 := by omega
  go_enter Tryd.func66, Tryd.ntmps66
  go_wp2
  go_loopw [3, 4] (fun t v wr => ∃ (f m : Nat) (back : List UInt8), f + back.length = 19 ∧ m < 18446744073709551616 ∧ Hid (m < 10 ^ (f + 1)) ∧ t = .int .u64 m ∧ Hid (digs f m ++ back.reverse = digs 19 N) ∧ Own w.heap.size wr v back ∧ Below w.heap.size w wr) (fun t _ _ => (intOf t).toNat)
  case atStart => exact ⟨19, N, [], rfl, hN64, (by show N < 10 ^ 20; omega), rfl, (by show _ = _; simp), Own.nil _ _, Below.refl _ _⟩
  case round =>
    obtain ⟨f, m, back, hf, hm64, hm, rfl, hsh, hown, hbel⟩ := hrel
    have hsz := hbel.size
    by_cases hb : 10 ≤ m
    · obtain ⟨f', rfl, h1', h2', h3'⟩ := digs_step hb hm.out hf hsh.out
      have H1 : Hid (f' + (back ++ [ub (48 + m % 10)]).length = 19) := h1'
      have H2 : Hid (m / 10 < 10 ^ (f' + 1)) := h2'
      have H3 : Hid (digs f' (m / 10) ++ (back ++ [ub (48 + m % 10)]).reverse = digs 19 N) := h3'
      clear h1' h2' h3' hm hsh
      go_wp2_with (at_builtin; refine app1n (.tmp 15) (.tmp 19) _ (48 + m % 10) w.heap.size _ back rfl rfl rfl rfl hown (by omega) (by rw [dig_at (m % 10) (by omega)]; omega) (by omega) hsz ?_)
      intro v' w1 hown' hbel'
      have hb1 := hbel.trans hbel'
      clear hown hbel hbel'
      go_wp2
      go_roundw
      case rel => exact ⟨f', m / 10, _, H1, by omega, H2, by go_num, H3, hown', hb1⟩
      case measure => simp [intOf]; omega
    · have HS : Hid ((back ++ [ub (48 + m % 10)]).reverse = digs 19 N) := by
        show _ = _
        rw [← hsh.out, digs_small f m (by omega)]
        simp
      clear hsh hm
      go_wp2_with (at_builtin; refine app1n (.tmp 23) (.tmp 26) _ (48 + m % 10) w.heap.size _ back rfl rfl rfl rfl hown (by omega) (dig_at m (by omega) _) (by omega) hsz ?_)
      intro v' w1 hown' hbel'
      have hb1 := hbel.trans hbel'
      clear hown hbel hbel'
      have hlb : (back ++ [ub (48 + m % 10)]).length ≤ 20 := by simp; omega
      obtain ⟨B, hB⟩ : ∃ B, B = back ++ [ub (48 + m % 10)] := ⟨_, rfl⟩
      rw [← hB] at hown'
      have HB : Hid (B.reverse = digs 19 N) := by show _ = _; rw [hB, ← HS.out]
      have hBl : 1 ≤ B.length ∧ B.length ≤ 21 := by rw [hB]; simp at hlb ⊢; omega
      clear hB HS hlb
      obtain ⟨a1, cap1, rfl, hle, hmx, hrow⟩ := hown'.row
      rcases hrow with h0 | ⟨b, off, rfl, hc⟩
      · exfalso; rw [h0] at hBl; simp at hBl
      have HROW : Hid (Row w1 (some ⟨b, off, none⟩) B) := .inr ⟨b, off, rfl, hc⟩
      clear hc hown'
      go_wp2
      go_loopw [5, 6] (fun v t wr => ∃ (k : Nat) (out : List UInt8), k ≤ B.length ∧ t = .int .i64 ((k : Int) - 1) ∧ out.length + k = B.length ∧ Hid (out = (B.drop k).reverse) ∧ Own w1.heap.size wr v out ∧ Below w1.heap.size w1 wr)
        (fun _ t _ => (intOf t + 1).toNat)
      case atStart => exact ⟨B.length, [], Nat.le_refl _, by go_num, by simp, (by show _ = _; simp), Own.nil _ _, Below.refl _ _⟩
      case round =>
        obtain ⟨k, out, hk, rfl, hlk, hout, hown, hbel⟩ := hrel
        have hsz2 := hbel.size
        cases k with
        | zero =>
          obtain ⟨a2, cap2, rfl, hle2, hmx2, hrow2⟩ := hown.row
          have hcs := conv_row hrow2 cap2
          have HO : Hid (out = digs 19 N) := by show _ = _; rw [hout.out, ← HB.out]; rfl
          clear hown hrow2 hout
          go_wp2
          go_ret
          exact ⟨by rw [← HO.out]; rfl, hb1.trans (hbel.mono hb1.size)⟩
        | succ k =>
          obtain ⟨c, hcn⟩ : ∃ c, c = (B.getD k 0).toNat := ⟨_, rfl⟩
          have hc256 : c < 256 := by rw [hcn]; exact UInt8.toNat_lt _
          have hcell : wr.cell? ⟨b, off + k, none⟩ = some (.int .u8 (c : Int)) := by
            rcases HROW.out.below hbel with h0 | ⟨b', off', e, hc⟩
            · exfalso; rw [h0] at hBl; simp at hBl
            · cases e
              rw [hcn]; exact hc k (by omega)
          have HO : Hid (out ++ [ub c] = (B.drop k).reverse) := by
            show _ = _
            rw [hout.out, ← drop_reverse B k (by omega), hcn]
            congr 2
            apply UInt8.toNat_inj.1
            rw [ub_toNat _ (UInt8.toNat_lt _)]
          clear hcn hout
          go_wp2_with (at_builtin; refine app1n (.tmp 40) (.tmp 45) _ c w1.heap.size _ out rfl rfl rfl rfl hown hc256 rfl (by omega) hsz2 ?_)
          intro v' w2 hown' hbel'
          have hb2 := hbel.trans hbel'
          clear hown hbel hbel' hcell
          go_wp2
          go_roundw
          case rel => exact ⟨k, _, by omega, by go_num, by simp; omega, HO, hown', hb2⟩
          case measure => simp [intOf]

set_option maxRecDepth 100000 in
set_option maxHeartbeats 800000 in
theorem dec_neg (n : Int) (N : Nat) (w : World) (hneg : n < 0) (h2 : -9223372036854775808 ≤ n) (hN : (N : Int) = -n) :
    Calls Tryd.prog 66 #[.int .i64 n] w fun e w' => e = .returned (.string ⟨(ub 45 :: digs 19 N).toArray⟩) ∧ Below w.heap.size w w' := by
  have hN64 : N < 18446744073709551616 := by omega
  have hw : IntKind.u64.wrap (-IntKind.u64.wrap n) = (N : Int) := by rw [IntKind.wrap_u64, IntKind.wrap_u64]; omega
  clear hN
  go_enter Tryd.func66, Tryd.ntmps66
  go_wp2
  go_loopw [3, 4] (fun t v wr => ∃ (f m : Nat) (back : List UInt8), f + back.length = 19 ∧ m < 18446744073709551616 ∧ Hid (m < 10 ^ (f + 1)) ∧ t = .int .u64 m ∧ Hid (digs f m ++ back.reverse = digs 19 N) ∧ Own w.heap.size wr v back ∧ Below w.heap.size w wr) (fun t _ _ => (intOf t).toNat)
  case atStart => exact ⟨19, N, [], rfl, hN64, (by show N < 10 ^ 20; omega), rfl, (by show _ = _; simp), Own.nil _ _, Below.refl _ _⟩
  case round =>
    obtain ⟨f, m, back, hf, hm64, hm, rfl, hsh, hown, hbel⟩ := hrel
    have hsz := hbel.size
    by_cases hb : 10 ≤ m
    · obtain ⟨f', rfl, h1', h2', h3'⟩ := digs_step hb hm.out hf hsh.out
      have H1 : Hid (f' + (back ++ [ub (48 + m % 10)]).length = 19) := h1'
      have H2 : Hid (m / 10 < 10 ^ (f' + 1)) := h2'
      have H3 : Hid (digs f' (m / 10) ++ (back ++ [ub (48 + m % 10)]).reverse = digs 19 N) := h3'
      clear h1' h2' h3' hm hsh
      go_wp2_with (at_builtin; refine app1n (.tmp 15) (.tmp 19) _ (48 + m % 10) w.heap.size _ back rfl rfl rfl rfl hown (by omega) (by rw [dig_at (m % 10) (by omega)]; omega) (by omega) hsz ?_)
      intro v' w1 hown' hbel'
      have hb1 := hbel.trans hbel'
      clear hown hbel hbel'
      go_wp2
      go_roundw
      case rel => exact ⟨f', m / 10, _, H1, by omega, H2, by go_num, H3, hown', hb1⟩
      case measure => simp [intOf]; omega
    · have HS : Hid ((back ++ [ub (48 + m % 10)]).reverse = digs 19 N) := by
        show _ = _
        rw [← hsh.out, digs_small f m (by omega)]
        simp
      clear hsh hm
      go_wp2_with (at_builtin; refine app1n (.tmp 23) (.tmp 26) _ (48 + m % 10) w.heap.size _ back rfl rfl rfl rfl hown (by omega) (dig_at m (by omega) _) (by omega) hsz ?_)
      intro v' w1 hown' hbel'
      have hb1 := hbel.trans hbel'
      clear hown hbel hbel'
      have hlb : (back ++ [ub (48 + m % 10)]).length ≤ 20 := by simp; omega
      have hsz1 := hb1.size
      go_wp2_with (at_builtin; refine app1n (.tmp 30) (.tmp 31) _ 45 w.heap.size _ (back ++ [ub (48 + m % 10)]) rfl rfl rfl rfl hown' (by omega) rfl (by omega) hsz1 ?_)
      clear hown'
      intro v' w1 hown' hbel'
      have hb2 := hb1.trans hbel'
      clear hb1 hbel' hsz1
      have hb1 := hb2
      clear hb2
      obtain ⟨B, hB⟩ : ∃ B, B = back ++ [ub (48 + m % 10), ub 45] := ⟨_, rfl⟩
      rw [← hB] at hown'
      have HB : Hid (B.reverse = ub 45 :: digs 19 N) := by show _ = _; rw [hB, ← HS.out]; simp
      have hBl : 1 ≤ B.length ∧ B.length ≤ 21 := by rw [hB]; simp at hlb ⊢; omega
      clear hB HS hlb
      obtain ⟨a1, cap1, rfl, hle, hmx, hrow⟩ := hown'.row
      rcases hrow with h0 | ⟨b, off, rfl, hc⟩
      · exfalso; rw [h0] at hBl; simp at hBl
      have HROW : Hid (Row w1 (some ⟨b, off, none⟩) B) := .inr ⟨b, off, rfl, hc⟩
      clear hc hown'
      go_wp2
      go_loopw [5, 6] (fun v t wr => ∃ (k : Nat) (out : List UInt8), k ≤ B.length ∧ t = .int .i64 ((k : Int) - 1) ∧ out.length + k = B.length ∧ Hid (out = (B.drop k).reverse) ∧ Own w1.heap.size wr v out ∧ Below w1.heap.size w1 wr)
        (fun _ t _ => (intOf t + 1).toNat)
      case atStart => exact ⟨B.length, [], Nat.le_refl _, by go_num, by simp, (by show _ = _; simp), Own.nil _ _, Below.refl _ _⟩
      case round =>
        obtain ⟨k, out, hk, rfl, hlk, hout, hown, hbel⟩ := hrel
        have hsz2 := hbel.size
        cases k with
        | zero =>
          obtain ⟨a2, cap2, rfl, hle2, hmx2, hrow2⟩ := hown.row
          have hcs := conv_row hrow2 cap2
          have HO : Hid (out = ub 45 :: digs 19 N) := by show _ = _; rw [hout.out, ← HB.out]; rfl
          clear hown hrow2 hout
          go_wp2
          go_ret
          exact ⟨by rw [← HO.out]; rfl, hb1.trans (hbel.mono hb1.size)⟩
        | succ k =>
          obtain ⟨c, hcn⟩ : ∃ c, c = (B.getD k 0).toNat := ⟨_, rfl⟩
          have hc256 : c < 256 := by rw [hcn]; exact UInt8.toNat_lt _
          have hcell : wr.cell? ⟨b, off + k, none⟩ = some (.int .u8 (c : Int)) := by
            rcases HROW.out.below hbel with h0 | ⟨b', off', e, hc⟩
            · exfalso; rw [h0] at hBl; simp at hBl
            · cases e
              rw [hcn]; exact hc k (by omega)
          have HO : Hid (out ++ [ub c] = (B.drop k).reverse) := by
            show _ = _
            rw [hout.out, ← drop_reverse B k (by omega), hcn]
            congr 2
            apply UInt8.toNat_inj.1
            rw [ub_toNat _ (UInt8.toNat_lt _)]
          clear hcn hout
          go_wp2_with (at_builtin; refine app1n (.tmp 40) (.tmp 45) _ c w1.heap.size _ out rfl rfl rfl rfl hown hc256 rfl (by omega) hsz2 ?_)
          intro v' w2 hown' hbel'
          have hb2 := hbel.trans hbel'
          clear hown hbel hbel' hcell
          go_wp2
          go_roundw
          case rel => exact ⟨k, _, by omega, by go_num, by simp; omega, HO, hown', hb2⟩
          case measure => simp [intOf]

end Go.Proofs.YtcmahiphfpgadaaDoor

/- The document's own Dec. -/
namespace Go.Proofs.YtcmahiphfpgadaaDoor
open Go.RowKit
set_option linter.unusedVariables false

theorem cut10 : ∀ d : Fin 10, ({ data := #[48, 49, 50, 51, 52, 53, 54, 55, 56, 57] } : ByteArray).extract d.val (d.val + 1) = ⟨#[ub (48 + d.val % 10)]⟩ := by decide +kernel

theorem cat_one (x : UInt8) (l : List UInt8) : (⟨#[x]⟩ ++ ⟨l.toArray⟩ : ByteArray) = ⟨(x :: l).toArray⟩ := by
  apply ByteArray.ext
  simp

theorem digs_up {N f m : Nat} {l : List UInt8} (hb : 10 ≤ m) (hm : m < 10 ^ (f + 1)) (hf : f + l.length = 19) (h : digs f m ++ l = digs 19 N) :
    ∃ f', f = f' + 1 ∧ f' + (ub (48 + m % 10) :: l).length = 19 ∧ m / 10 < 10 ^ (f' + 1) ∧ digs f' (m / 10) ++ (ub (48 + m % 10) :: l) = digs 19 N := by
  cases f with
  | zero => simp at hm; omega
  | succ f =>
    refine ⟨f, rfl, by simp; omega, ?_, ?_⟩
    · rw [Nat.div_lt_iff_lt_mul (by omega)]; rwa [Nat.pow_succ] at hm
    · rw [← h, digs_big f m hb]; simp

theorem tmod_neg (m : Nat) : (-(m : Int)).tmod 10 = -((m : Int) % 10) := by
  rw [Int.neg_tmod, Int.tmod_eq_emod_of_nonneg (by omega)]

theorem tdiv_neg (m : Nat) : (-(m : Int)).tdiv 10 = -((m : Int) / 10) := by
  rw [Int.neg_tdiv, Int.tdiv_eq_ediv_of_nonneg (by omega)]

theorem dec_any (n : Int) (w : World) (h1 : n ≤ 9223372036854775807) (h2 : -9223372036854775808 ≤ n) :
    Calls Tryd.prog 66 #[.int .i64 n] w fun e w' => e = .returned (.string ⟨(decOf n).toArray⟩) ∧ Below w.heap.size w w' := by
  unfold decOf
  by_cases h : n < 0
  · rw [if_pos h]
    exact dec_neg n n.natAbs w h h2 (by omega)
  · rw [if_neg h]
    obtain ⟨N, rfl⟩ : ∃ N : Nat, n = (N : Int) := ⟨n.natAbs, by omega⟩
    have e : (N : Int).natAbs = N := by omega
    rw [e]
    exact dec_pos N w (by omega)

end Go.Proofs.YtcmahiphfpgadaaDoor

/- octet.Number and the document's own Number: what they hand back. -/
namespace Go.Proofs.YtcmahiphfpgadaaDoor
open Go.RowKit
set_option linter.unusedVariables false

/-- The number whose bytes these are. -/
def number (bs : List UInt8) : Nat := bs.foldl (fun n b => n * 256 + b.toNat) 0

theorem number_snoc (bs : List UInt8) (b : UInt8) : number (bs ++ [b]) = number bs * 256 + b.toNat := by simp [number]

theorem take_snoc (bs : List UInt8) (k : Nat) (h : k < bs.length) : bs.take (k + 1) = bs.take k ++ [bs.getD k 0] := by
  rw [List.take_succ_eq_append_getElem h]
  simp [List.getD, List.getElem?_eq_getElem h]

theorem number_take (bs : List UInt8) (k : Nat) (h : k < bs.length) : number (bs.take (k + 1)) = number (bs.take k) * 256 + (bs.getD k 0).toNat := by
  rw [take_snoc bs k h, number_snoc]

theorem number_lt_from (bs : List UInt8) : ∀ n, bs.foldl (fun n b => n * 256 + b.toNat) n < (n + 1) * 256 ^ bs.length := by
  induction bs with
  | nil => intro n; simp
  | cons b bs ih =>
    intro n
    have h := ih (n * 256 + b.toNat)
    have hb := b.toNat_lt
    have h2 : (n * 256 + b.toNat + 1) * 256 ^ bs.length ≤ ((n + 1) * 256) * 256 ^ bs.length := Nat.mul_le_mul_right _ (by omega)
    rw [List.foldl_cons, List.length_cons, Nat.pow_succ, Nat.mul_comm (256 ^ bs.length) 256, ← Nat.mul_assoc]
    omega

theorem number_lt (bs : List UInt8) : number bs < 256 ^ bs.length := by have := number_lt_from bs 0; simpa [number] using this

theorem number_lt8 (bs : List UInt8) (k : Nat) (hl : bs.length ≤ 8) (hk : k < bs.length) : number (bs.take k) < 72057594037927936 := by
  have h := number_lt (bs.take k)
  have h2 : (bs.take k).length ≤ 7 := by simp; omega
  have h3 : 256 ^ (bs.take k).length ≤ 256 ^ 7 := Nat.pow_le_pow_right (by omega) h2
  omega

theorem or8 (n c : Nat) (h : n < 72057594037927936) (hc : c < 256) : bits .or .u64 ((n : Int) * 256) (c : Int) = ((n * 256 + c : Nat) : Int) := by
  have h1 := u64_or_nat (n * 256) c (by omega) (by omega)
  rw [nat_join 8 (n * 256) c (by omega) hc] at h1
  rw [← h1]
  congr 1

end Go.Proofs.YtcmahiphfpgadaaDoor

/- octet.Hex and the document's own Hex: the digits of bytes. -/
namespace Go.Proofs.YtcmahiphfpgadaaDoor
open Go.RowKit
set_option linter.unusedVariables false
attribute [local go_sem ↓] Go.wp_at_zero Go.wp_at_succ

/-- A digit's sign. -/
def hdN (j : Nat) : Nat := if j < 10 then 48 + j else 87 + j

theorem hdN_lt (j : Nat) (h : j < 16) : hdN j < 256 := by unfold hdN; split <;> omega

/-- The digits of bytes. -/
def hexOf : List UInt8 → List UInt8
  | [] => []
  | b :: l => ub (hdN (b.toNat / 16)) :: ub (hdN (b.toNat % 16)) :: hexOf l

theorem hexOf_snoc (l : List UInt8) (b : UInt8) : hexOf (l ++ [b]) = hexOf l ++ [ub (hdN (b.toNat / 16)), ub (hdN (b.toNat % 16))] := by
  induction l with
  | nil => rfl
  | cons a l ih => simp [hexOf, ih]

theorem hexOf_length (l : List UInt8) : (hexOf l).length = 2 * l.length := by
  induction l with
  | nil => rfl
  | cons a l ih => simp [hexOf, ih]; omega

theorem hexOf_take (bs : List UInt8) (k : Nat) (h : k < bs.length) : hexOf (bs.take (k + 1)) = hexOf (bs.take k) ++ [ub (hdN ((bs.getD k 0).toNat / 16)), ub (hdN ((bs.getD k 0).toNat % 16))] := by
  rw [take_snoc bs k h, hexOf_snoc]

theorem hd_at (j : Nat) (h : j < 16) (h' : j < (({ data := #[48, 49, 50, 51, 52, 53, 54, 55, 56, 57, 97, 98, 99, 100, 101, 102] } : ByteArray)).size) : ((({ data := #[48, 49, 50, 51, 52, 53, 54, 55, 56, 57, 97, 98, 99, 100, 101, 102] } : ByteArray)[j]'h').toNat : Int) = (hdN j : Int) := by
  have := hexdig ⟨j, h⟩
  simp only at this
  unfold hdN
  omega

/-- 'out = append(out, x, y)' as one step of a region that draws its order. -/
theorem step_app2 {ops : Array Oper} {o : Oper} {a : Act} {K : Act → World → Prop} {Q : Exit → Act → World → Prop} {E : Prop} {w0 : World} (s x : Operand) (z1 z2 : Int) (k1 k2 : Nat) (base : Nat) (v : Value) (out : List UInt8)
    (hgd : o.guard = none) (ho : o.op = .call { callee := .builtin .append, args := #[s, x], argTypes := #[50, 50] })
    (hs : a.eval s = v) (hx : a.eval x = .slice (some ⟨w0.heap.size, 0, none⟩) 2 2) (hown : Own base w0 v out) (hk1 : k1 < 256) (hk2 : k2 < 256) (hz1 : z1 = (k1 : Int)) (hz2 : z2 = (k2 : Int)) (hlen : out.length ≤ 1099511627776) (hbase : base ≤ w0.heap.size)
    (h : ∀ g cap w', Own base w' (.slice (some ⟨g, 0, none⟩) (out.length + 2) cap) (out ++ [ub k1, ub k2]) → Below base w0 w' → K (a.put o.dst (.slice (some ⟨g, 0, none⟩) (out.length + 2) cap)) w') :
    if Region.wanted o (yielded ops a.tmps) = true then Oper.wp Tryd.prog o a ((w0.alloc (.cells #[.int .u8 z1, .int .u8 z2] 5)).drew) K Q else E := by
  obtain ⟨i0, hi, hz0, hzz1, hzz2⟩ := info_parts Tryd.info5
  subst hz1 hz2
  refine step_append_lies (w := (w0.alloc (.cells #[.int .u8 (k1 : Int), .int .u8 (k2 : Int)] 5)).drew) hgd s x 50 ho base 5 i0 (.int .u8 0) 1 1 Tryd.underlying50 hi hz0 hzz1 hzz2 rfl (by decide) v out.length (out.map B8) hs (World.ownsRow.drew (World.ownsRow.alloc hown _))
    ⟨w0.heap.size, 0, none⟩ 2 2 [.int .u8 (k1 : Int), .int .u8 (k2 : Int)] hx rfl (World.news_of_block (cs := #[.int .u8 (k1 : Int), .int .u8 (k2 : Int)]) (t := 5) (fr := (0, 0)) (heap_alloc_new w0 _)) (by simp [Value.oneCell'])
    (by omega) (by unfold maxLen; omega) (by omega) (by simp; omega) (w0.heap.size + 1) (by simp) ?_
  intro g cap w' h1 h2 _ _
  refine h g cap w' ?_ ?_
  · have e2 : out.map B8 ++ [.int .u8 (k1 : Int), .int .u8 (k2 : Int)] = (out ++ [ub k1, ub k2]).map B8 := by simp [B8, ub_toNat k1 hk1, ub_toNat k2 hk2]
    rw [e2] at h1
    have e : out.length + 2 = (out ++ [ub k1, ub k2]).length := by simp
    unfold Own
    rw [← e]
    exact h1
  · exact (((Below.refl base w0).alloc hbase _).drew).grown h2 (by simp; omega) hown.block

set_option maxRecDepth 100000 in
set_option maxHeartbeats 1600000 in
theorem hex_full (b off cap : Nat) (bs : List UInt8) (w : World) (hc : ∀ j, j < bs.length → w.cell? ⟨b, off + j, none⟩ = some (.int .u8 ((bs.getD j 0).toNat : Int))) (hmax : bs.length ≤ 268435456) (hpos : 0 < bs.length) :
    Calls Tryd.prog 46 #[.slice (some ⟨b, off, none⟩) bs.length cap] w fun e w' => e = .returned (.string ⟨(hexOf bs).toArray⟩) ∧ Below w.heap.size w w' := by
  have HC : Hid (∀ j, j < bs.length → w.cell? ⟨b, off + j, none⟩ = some (.int .u8 ((bs.getD j 0).toNat : Int))) := hc
  have hblt : b < w.heap.size := lt_of_cell (hc 0 hpos)
  clear hc
  go_enter Tryd.func46, Tryd.ntmps46
  go_wp2
  go_loopw [3, 8] (fun v i wr => ∃ (k : Nat) (out : List UInt8), k ≤ bs.length ∧ i = .int .i64 k ∧ out.length = 2 * k ∧ Hid (out = hexOf (bs.take k)) ∧ Own w.heap.size wr v out ∧ Below w.heap.size w wr) (fun _ i _ => bs.length - (intOf i).toNat)
  case atStart => exact ⟨0, [], Nat.zero_le _, rfl, rfl, rfl, Own.nil _ _, Below.refl _ _⟩
  case round =>
    obtain ⟨k, out, hk, rfl, hol, hout, hown, hbel⟩ := hrel
    have hsz := hbel.size
    have HOL : Hid (out.length = 2 * k) := hol
    have hol2 : out.length ≤ 1099511627776 := by omega
    clear hol
    by_cases hlt : k < bs.length
    · obtain ⟨c, hcn⟩ : ∃ c, c = (bs.getD k 0).toNat := ⟨_, rfl⟩
      have hc256 : c < 256 := by rw [hcn]; exact UInt8.toNat_lt _
      have hcell : wr.cell? ⟨b, off + k, none⟩ = some (.int .u8 (c : Int)) := by rw [hbel.cell (by exact hblt), hcn]; exact HC.out k hlt
      have hm15 : bits .and .u8 (c : Int) 15 = (c : Int) % 16 := bits_mask .u8 8 (by decide) wraps_u8 4 (by decide) c (by omega) (by omega)
      have HO : Hid (out ++ [ub (hdN (c / 16)), ub (hdN (c % 16))] = hexOf (bs.take (k + 1))) := by show _ = _; rw [hexOf_take bs k hlt, hout.out, hcn]
      clear hcn hout
      have i1 : (0 : Int) ≤ (c : Int) / 16 := by omega
      have i2 : (c : Int) / 16 < 16 := by omega
      have i3 : (0 : Int) ≤ (c : Int) % 16 := by omega
      have i4 : (c : Int) % 16 < 16 := by omega
      go_wp2
      go_region_held3 (fun _ => True) (trivial) ((refine step_app2 (.tmp 12) (.tmp 19) _ _ (hdN (c / 16)) (hdN (c % 16)) w.heap.size _ out (by rfl) (by rfl) (by rfl) (by rfl) hown (hdN_lt _ (by omega)) (hdN_lt _ (by omega)) (hd_at _ (by omega) _) (hd_at _ (by omega) _) hol2 hsz ?_; intro g cap' w1 hown' hbel'))
      all_goals
        have hb1 := hbel.trans hbel'
        clear hown hbel hbel' hcell
        go_wp2
        go_roundw
        case rel => exact ⟨k + 1, _, by omega, by go_num, by have := HOL.out; simp; omega, HO, hown', hb1⟩
        case measure => simp [intOf]; omega
    · obtain ⟨a2, cap2, rfl, hle2, hmx2, hrow2⟩ := hown.row
      have hcs := conv_row hrow2 cap2
      have HO : Hid (out = hexOf bs) := by show _ = _; rw [hout.out, List.take_of_length_le (by omega)]
      clear hown hrow2 hout
      go_wp2
      go_ret
      exact ⟨by rw [← HO.out]; rfl, hbel⟩

set_option maxRecDepth 100000 in
set_option maxHeartbeats 400000 in
theorem hex_none (a : Option Addr) (cap : Nat) (w : World) :
    Calls Tryd.prog 46 #[.slice a 0 cap] w fun e w' => e = .returned (.string ⟨(hexOf []).toArray⟩) ∧ Below w.heap.size w w' := by
  have hcs := conv_zero w none 0
  go_enter Tryd.func46, Tryd.ntmps46
  go_wp2
  refine wp_loop_rounds 1 ?_
  rw [rounds_succ]
  go_wp2
  go_ret
  exact ⟨rfl, Below.refl _ _⟩

theorem hex_any (a : Option Addr) (cap : Nat) (bs : List UInt8) (w : World) (hrow : Row w a bs) (hmax : bs.length ≤ 268435456) :
    Calls Tryd.prog 46 #[.slice a bs.length cap] w fun e w' => e = .returned (.string ⟨(hexOf bs).toArray⟩) ∧ Below w.heap.size w w' := by
  rcases hrow with rfl | ⟨b, off, rfl, hc⟩
  · exact hex_none a cap w
  · rcases Nat.eq_zero_or_pos bs.length with h | h
    · have : bs = [] := List.eq_nil_of_length_eq_zero h
      subst this
      exact hex_none _ cap w
    · exact hex_full b off cap bs w hc hmax h

theorem cat_two (l : List UInt8) (x y : UInt8) : ((⟨l.toArray⟩ ++ ⟨#[x]⟩ : ByteArray) ++ ⟨#[y]⟩ : ByteArray) = ⟨(l ++ [x, y]).toArray⟩ := by
  apply ByteArray.ext
  simp

theorem drewN_more {w wr : World} (h : ∃ q, wr = w.drewN q) (n : Nat) : ∃ q, wr.drewN n = w.drewN q := by
  obtain ⟨q, rfl⟩ := h
  exact ⟨q + n, by simp⟩

theorem cut16 : ∀ d : Fin 16, ({ data := #[48, 49, 50, 51, 52, 53, 54, 55, 56, 57, 97, 98, 99, 100, 101, 102] } : ByteArray).extract d.val (d.val + 1) = ⟨#[ub (hdN d.val)]⟩ := by decide +kernel

end Go.Proofs.YtcmahiphfpgadaaDoor
