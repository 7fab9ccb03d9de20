/- Joined texts of the proof. -/
import Derived.Test.YtjgggmjjikopeaaGreatDoorJ1
import Derived.Deep.RegionHeld3
import Derived.Deep.AppendLies
import Derived.Deep.DrawnRows
import Derived.Deep.QuietTactic
import Derived.BigQuiet
import Derived.Lib.Strings
import Derived.Test.YtjgggmjjikopeaaGreatDoorRows
import Derived.WalkKit
import Derived.WalkSpells
import Derived.WalkLawsBesides
import Derived.WalkSmall
import Derived.Laws.Bits64

/- octet.Dec and the document's own Dec. -/
namespace Go.Proofs.YtjgggmjjikopeaaGreatDoor
open Go.RowKit
set_option linter.unusedVariables false

/-- A number's digits: 'f' more at most. -/
def digs : Nat → Nat → List UInt8
  | 0, n => [ub (48 + n % 10)]
  | f + 1, n => if n < 10 then [ub (48 + n % 10)] else digs f (n / 10) ++ [ub (48 + n % 10)]

theorem digs_small (f n : Nat) (h : n < 10) : digs f n = [ub (48 + n % 10)] := by
  cases f with
  | zero => rfl
  | succ f => simp [digs, h]

theorem digs_big (f n : Nat) (h : 10 ≤ n) : digs (f + 1) n = digs f (n / 10) ++ [ub (48 + n % 10)] := by
  simp [digs, show ¬ n < 10 by omega]

/-- The digits of a number, with - ahead of one below 0. -/
def decOf (n : Int) : List UInt8 := if n < 0 then ub 45 :: digs 19 n.natAbs else digs 19 n.natAbs

theorem hexdig : ∀ j : Fin 16, (({ data := #[48, 49, 50, 51, 52, 53, 54, 55, 56, 57, 97, 98, 99, 100, 101, 102] } : ByteArray)[j.val]'(j.isLt)).toNat = if j.val < 10 then 48 + j.val else 87 + j.val := by decide +kernel

theorem dig_at (j : Nat) (h : j < 10) (h' : j < (({ data := #[48, 49, 50, 51, 52, 53, 54, 55, 56, 57, 97, 98, 99, 100, 101, 102] } : ByteArray)).size) : ((({ data := #[48, 49, 50, 51, 52, 53, 54, 55, 56, 57, 97, 98, 99, 100, 101, 102] } : ByteArray)[j]'h').toNat : Int) = ((48 + j % 10 : Nat) : Int) := by
  have := hexdig ⟨j, by omega⟩
  simp only [h, if_true] at this
  rw [this]
  omega

theorem digs_step {N f m : Nat} {back : List UInt8} (hb : 10 ≤ m) (hm : m < 10 ^ (f + 1)) (hf : f + back.length = 19) (h : digs f m ++ back.reverse = digs 19 N) :
    ∃ f', f = f' + 1 ∧ f' + (back ++ [ub (48 + m % 10)]).length = 19 ∧ m / 10 < 10 ^ (f' + 1) ∧ digs f' (m / 10) ++ (back ++ [ub (48 + m % 10)]).reverse = digs 19 N := by
  cases f with
  | zero => simp at hm; omega
  | succ f =>
    refine ⟨f, rfl, by simp; omega, ?_, ?_⟩
    · rw [Nat.div_lt_iff_lt_mul (by omega)]; rwa [Nat.pow_succ] at hm
    · rw [← h, digs_big f m hb]; simp

theorem drop_reverse (B : List UInt8) (k : Nat) (h : k < B.length) : (B.drop (k + 1)).reverse ++ [B.getD k 0] = (B.drop k).reverse := by
  rw [List.drop_eq_getElem_cons h, List.reverse_cons]
  simp [List.getD, List.getElem?_eq_getElem h]

set_option maxRecDepth 100000 in
set_option maxHeartbeats 800000 in
theorem dec_pos (N : Nat) (w : World) (h1 : N ≤ 9223372036854775807) :
    Calls Tryz.prog 198 #[.int .i64 (N : Int)] w fun e w' => e = .returned (.string ⟨(digs 19 N).toArray⟩) ∧ Below w.heap.size w w' := by
  have hN64 : N < 18446744073709551616 := by omega
  have hneg : ¬ (N : Int) < 0 := by omega
  go_enter Tryz.func198, Tryz.ntmps198
  go_wp2
  go_loopw [3, 4] (fun t v wr => ∃ (f m : Nat) (back : List UInt8), f + back.length = 19 ∧ m < 18446744073709551616 ∧ Hid (m < 10 ^ (f + 1)) ∧ t = .int .u64 m ∧ Hid (digs f m ++ back.reverse = digs 19 N) ∧ Own w.heap.size wr v back ∧ Below w.heap.size w wr) (fun t _ _ => (intOf t).toNat)
  case atStart => exact ⟨19, N, [], rfl, hN64, (by show N < 10 ^ 20; omega), rfl, (by show _ = _; simp), Own.nil _ _, Below.refl _ _⟩
  case round =>
    obtain ⟨f, m, back, hf, hm64, hm, rfl, hsh, hown, hbel⟩ := hrel
    have hsz := hbel.size
    by_cases hb : 10 ≤ m
    · obtain ⟨f', rfl, h1', h2', h3'⟩ := digs_step hb hm.out hf hsh.out
      have H1 : Hid (f' + (back ++ [ub (48 + m % 10)]).length = 19) := h1'
      have H2 : Hid (m / 10 < 10 ^ (f' + 1)) := h2'
      have H3 : Hid (digs f' (m / 10) ++ (back ++ [ub (48 + m % 10)]).reverse = digs 19 N) := h3'
      clear h1' h2' h3' hm hsh
      go_wp2_with (at_builtin; refine app1n (.tmp 15) (.tmp 19) _ (48 + m % 10) w.heap.size _ back rfl rfl rfl rfl hown (by omega) (by rw [dig_at (m % 10) (by omega)]; omega) (by omega) hsz ?_)
      intro v' w1 hown' hbel'
      have hb1 := hbel.trans hbel'
      clear hown hbel hbel'
      go_wp2
      go_roundw
      case rel => exact ⟨f', m / 10, _, H1, by omega, H2, by go_num, H3, hown', hb1⟩
      case measure => simp [intOf]; omega
    · have HS : Hid ((back ++ [ub (48 + m % 10)]).reverse = digs 19 N) := by
        show _ = _
        rw [← hsh.out, digs_small f m (by omega)]
        simp
      clear hsh hm
      go_wp2_with (at_builtin; refine app1n (.tmp 23) (.tmp 26) _ (48 + m % 10) w.heap.size _ back rfl rfl rfl rfl hown (by omega) (dig_at m (by omega) _) (by omega) hsz ?_)
      intro v' w1 hown' hbel'
      have hb1 := hbel.trans hbel'
      clear hown hbel hbel'
      have hlb : (back ++ [ub (48 + m % 10)]).length ≤ 20 := by simp; omega
      obtain ⟨B, hB⟩ : ∃ B, B = back ++ [ub (48 + m % 10)] := ⟨_, rfl⟩
      rw [← hB] at hown'
      have HB : Hid (B.reverse = digs 19 N) := by show _ = _; rw [hB, ← HS.out]
      have hBl : 1 ≤ B.length ∧ B.length ≤ 21 := by rw [hB]; simp at hlb ⊢; omega
      clear hB HS hlb
      obtain ⟨a1, cap1, rfl, hle, hmx, hrow⟩ := hown'.row
      rcases hrow with h0 | ⟨b, off, rfl, hc⟩
      · exfalso; rw [h0] at hBl; simp at hBl
      have HROW : Hid (Row w1 (some ⟨b, off, none⟩) B) := .inr ⟨b, off, rfl, hc⟩
      clear hc hown'
      go_wp2
      go_loopw [5, 6] (fun v t wr => ∃ (k : Nat) (out : List UInt8), k ≤ B.length ∧ t = .int .i64 ((k : Int) - 1) ∧ out.length + k = B.length ∧ Hid (out = (B.drop k).reverse) ∧ Own w1.heap.size wr v out ∧ Below w1.heap.size w1 wr)
        (fun _ t _ => (intOf t + 1).toNat)
      case atStart => exact ⟨B.length, [], Nat.le_refl _, by go_num, by simp, (by show _ = _; simp), Own.nil _ _, Below.refl _ _⟩
      case round =>
        obtain ⟨k, out, hk, rfl, hlk, hout, hown, hbel⟩ := hrel
        have hsz2 := hbel.size
        cases k with
        | zero =>
          obtain ⟨a2, cap2, rfl, hle2, hmx2, hrow2⟩ := hown.row
          have hcs := conv_row hrow2 cap2
          have HO : Hid (out = digs 19 N) := by show _ = _; rw [hout.out, ← HB.out]; rfl
          clear hown hrow2 hout
          go_wp2
          go_ret
          exact ⟨by rw [← HO.out]; rfl, hb1.trans (hbel.mono hb1.size)⟩
        | succ k =>
          obtain ⟨c, hcn⟩ : ∃ c, c = (B.getD k 0).toNat := ⟨_, rfl⟩
          have hc256 : c < 256 := by rw [hcn]; exact UInt8.toNat_lt _
          have hcell : wr.cell? ⟨b, off + k, none⟩ = some (.int .u8 (c : Int)) := by
            rcases HROW.out.below hbel with h0 | ⟨b', off', e, hc⟩
            · exfalso; rw [h0] at hBl; simp at hBl
            · cases e
              rw [hcn]; exact hc k (by omega)
          have HO : Hid (out ++ [ub c] = (B.drop k).reverse) := by
            show _ = _
            rw [hout.out, ← drop_reverse B k (by omega), hcn]
            congr 2
            apply UInt8.toNat_inj.1
            rw [ub_toNat _ (UInt8.toNat_lt _)]
          clear hcn hout
          go_wp2_with (at_builtin; refine app1n (.tmp 40) (.tmp 45) _ c w1.heap.size _ out rfl rfl rfl rfl hown hc256 rfl (by omega) hsz2 ?_)
          intro v' w2 hown' hbel'
          have hb2 := hbel.trans hbel'
          clear hown hbel hbel' hcell
          go_wp2
          go_roundw
          case rel => exact ⟨k, _, by omega, by go_num, by simp; omega, HO, hown', hb2⟩
          case measure => simp [intOf]

set_option maxRecDepth 100000 in
set_option maxHeartbeats 800000 in
theorem dec_neg (n : Int) (N : Nat) (w : World) (hneg : n < 0) (h2 : -9223372036854775808 ≤ n) (hN : (N : Int) = -n) :
    Calls Tryz.prog 198 #[.int .i64 n] w fun e w' => e = .returned (.string ⟨(ub 45 :: digs 19 N).toArray⟩) ∧ Below w.heap.size w w' := by
  have hN64 : N < 18446744073709551616 := by omega
  have hw : IntKind.u64.wrap (-IntKind.u64.wrap n) = (N : Int) := by rw [IntKind.wrap_u64, IntKind.wrap_u64]; omega
  clear hN
  go_enter Tryz.func198, Tryz.ntmps198
  go_wp2
  go_loopw [3, 4] (fun t v wr => ∃ (f m : Nat) (back : List UInt8), f + back.length = 19 ∧ m < 18446744073709551616 ∧ Hid (m < 10 ^ (f + 1)) ∧ t = .int .u64 m ∧ Hid (digs f m ++ back.reverse = digs 19 N) ∧ Own w.heap.size wr v back ∧ Below w.heap.size w wr) (fun t _ _ => (intOf t).toNat)
  case atStart => exact ⟨19, N, [], rfl, hN64, (by show N < 10 ^ 20; omega), rfl, (by show _ = _; simp), Own.nil _ _, Below.refl _ _⟩
  case round =>
    obtain ⟨f, m, back, hf, hm64, hm, rfl, hsh, hown, hbel⟩ := hrel
    have hsz := hbel.size
    by_cases hb : 10 ≤ m
    · obtain ⟨f', rfl, h1', h2', h3'⟩ := digs_step hb hm.out hf hsh.out
      have H1 : Hid (f' + (back ++ [ub (48 + m % 10)]).length = 19) := h1'
      have H2 : Hid (m / 10 < 10 ^ (f' + 1)) := h2'
      have H3 : Hid (digs f' (m / 10) ++ (back ++ [ub (48 + m % 10)]).reverse = digs 19 N) := h3'
      clear h1' h2' h3' hm hsh
      go_wp2_with (at_builtin; refine app1n (.tmp 15) (.tmp 19) _ (48 + m % 10) w.heap.size _ back rfl rfl rfl rfl hown (by omega) (by rw [dig_at (m % 10) (by omega)]; omega) (by omega) hsz ?_)
      intro v' w1 hown' hbel'
      have hb1 := hbel.trans hbel'
      clear hown hbel hbel'
      go_wp2
      go_roundw
      case rel => exact ⟨f', m / 10, _, H1, by omega, H2, by go_num, H3, hown', hb1⟩
      case measure => simp [intOf]; omega
    · have HS : Hid ((back ++ [ub (48 + m % 10)]).reverse = digs 19 N) := by
        show _ = _
        rw [← hsh.out, digs_small f m (by omega)]
        simp
      clear hsh hm
      go_wp2_with (at_builtin; refine app1n (.tmp 23) (.tmp 26) _ (48 + m % 10) w.heap.size _ back rfl rfl rfl rfl hown (by omega) (dig_at m (by omega) _) (by omega) hsz ?_)
      intro v' w1 hown' hbel'
      have hb1 := hbel.trans hbel'
      clear hown hbel hbel'
      have hlb : (back ++ [ub (48 + m % 10)]).length ≤ 20 := by simp; omega
      have hsz1 := hb1.size
      go_wp2_with (at_builtin; refine app1n (.tmp 30) (.tmp 31) _ 45 w.heap.size _ (back ++ [ub (48 + m % 10)]) rfl rfl rfl rfl hown' (by omega) rfl (by omega) hsz1 ?_)
      clear hown'
      intro v' w1 hown' hbel'
      have hb2 := hb1.trans hbel'
      clear hb1 hbel' hsz1
      have hb1 := hb2
      clear hb2
      obtain ⟨B, hB⟩ : ∃ B, B = back ++ [ub (48 + m % 10), ub 45] := ⟨_, rfl⟩
      rw [← hB] at hown'
      have HB : Hid (B.reverse = ub 45 :: digs 19 N) := by show _ = _; rw [hB, ← HS.out]; simp
      have hBl : 1 ≤ B.length ∧ B.length ≤ 21 := by rw [hB]; simp at hlb ⊢; omega
      clear hB HS hlb
      obtain ⟨a1, cap1, rfl, hle, hmx, hrow⟩ := hown'.row
      rcases hrow with h0 | ⟨b, off, rfl, hc⟩
      · exfalso; rw [h0] at hBl; simp at hBl
      have HROW : Hid (Row w1 (some ⟨b, off, none⟩) B) := .inr ⟨b, off, rfl, hc⟩
      clear hc hown'
      go_wp2
      go_loopw [5, 6] (fun v t wr => ∃ (k : Nat) (out : List UInt8), k ≤ B.length ∧ t = .int .i64 ((k : Int) - 1) ∧ out.length + k = B.length ∧ Hid (out = (B.drop k).reverse) ∧ Own w1.heap.size wr v out ∧ Below w1.heap.size w1 wr)
        (fun _ t _ => (intOf t + 1).toNat)
      case atStart => exact ⟨B.length, [], Nat.le_refl _, by go_num, by simp, (by show _ = _; simp), Own.nil _ _, Below.refl _ _⟩
      case round =>
        obtain ⟨k, out, hk, rfl, hlk, hout, hown, hbel⟩ := hrel
        have hsz2 := hbel.size
        cases k with
        | zero =>
          obtain ⟨a2, cap2, rfl, hle2, hmx2, hrow2⟩ := hown.row
          have hcs := conv_row hrow2 cap2
          have HO : Hid (out = ub 45 :: digs 19 N) := by show _ = _; rw [hout.out, ← HB.out]; rfl
          clear hown hrow2 hout
          go_wp2
          go_ret
          exact ⟨by rw [← HO.out]; rfl, hb1.trans (hbel.mono hb1.size)⟩
        | succ k =>
          obtain ⟨c, hcn⟩ : ∃ c, c = (B.getD k 0).toNat := ⟨_, rfl⟩
          have hc256 : c < 256 := by rw [hcn]; exact UInt8.toNat_lt _
          have hcell : wr.cell? ⟨b, off + k, none⟩ = some (.int .u8 (c : Int)) := by
            rcases HROW.out.below hbel with h0 | ⟨b', off', e, hc⟩
            · exfalso; rw [h0] at hBl; simp at hBl
            · cases e
              rw [hcn]; exact hc k (by omega)
          have HO : Hid (out ++ [ub c] = (B.drop k).reverse) := by
            show _ = _
            rw [hout.out, ← drop_reverse B k (by omega), hcn]
            congr 2
            apply UInt8.toNat_inj.1
            rw [ub_toNat _ (UInt8.toNat_lt _)]
          clear hcn hout
          go_wp2_with (at_builtin; refine app1n (.tmp 40) (.tmp 45) _ c w1.heap.size _ out rfl rfl rfl rfl hown hc256 rfl (by omega) hsz2 ?_)
          intro v' w2 hown' hbel'
          have hb2 := hbel.trans hbel'
          clear hown hbel hbel' hcell
          go_wp2
          go_roundw
          case rel => exact ⟨k, _, by omega, by go_num, by simp; omega, HO, hown', hb2⟩
          case measure => simp [intOf]

end Go.Proofs.YtjgggmjjikopeaaGreatDoor

/- The document's own Dec. -/
namespace Go.Proofs.YtjgggmjjikopeaaGreatDoor
open Go.RowKit
set_option linter.unusedVariables false

theorem dec_any (n : Int) (w : World) (h1 : n ≤ 9223372036854775807) (h2 : -9223372036854775808 ≤ n) :
    Calls Tryz.prog 198 #[.int .i64 n] w fun e w' => e = .returned (.string ⟨(decOf n).toArray⟩) ∧ Below w.heap.size w w' := by
  unfold decOf
  by_cases h : n < 0
  · rw [if_pos h]
    exact dec_neg n n.natAbs w h h2 (by omega)
  · rw [if_neg h]
    obtain ⟨N, rfl⟩ : ∃ N : Nat, n = (N : Int) := ⟨n.natAbs, by omega⟩
    have e : (N : Int).natAbs = N := by omega
    rw [e]
    exact dec_pos N w (by omega)

end Go.Proofs.YtjgggmjjikopeaaGreatDoor

/- octet.Number and the document's own Number: what they hand back. -/
namespace Go.Proofs.YtjgggmjjikopeaaGreatDoor
open Go.RowKit
set_option linter.unusedVariables false

/-- The number whose bytes these are. -/
def number (bs : List UInt8) : Nat := bs.foldl (fun n b => n * 256 + b.toNat) 0

theorem take_snoc (bs : List UInt8) (k : Nat) (h : k < bs.length) : bs.take (k + 1) = bs.take k ++ [bs.getD k 0] := by
  rw [List.take_succ_eq_append_getElem h]
  simp [List.getD, List.getElem?_eq_getElem h]

end Go.Proofs.YtjgggmjjikopeaaGreatDoor

/- octet.Hex and the document's own Hex: the digits of bytes. -/
namespace Go.Proofs.YtjgggmjjikopeaaGreatDoor
open Go.RowKit
set_option linter.unusedVariables false
attribute [local go_sem ↓] Go.wp_at_zero Go.wp_at_succ

/-- A digit's sign. -/
def hdN (j : Nat) : Nat := if j < 10 then 48 + j else 87 + j

theorem hdN_lt (j : Nat) (h : j < 16) : hdN j < 256 := by unfold hdN; split <;> omega

/-- The digits of bytes. -/
def hexOf : List UInt8 → List UInt8
  | [] => []
  | b :: l => ub (hdN (b.toNat / 16)) :: ub (hdN (b.toNat % 16)) :: hexOf l

theorem hexOf_snoc (l : List UInt8) (b : UInt8) : hexOf (l ++ [b]) = hexOf l ++ [ub (hdN (b.toNat / 16)), ub (hdN (b.toNat % 16))] := by
  induction l with
  | nil => rfl
  | cons a l ih => simp [hexOf, ih]

theorem hexOf_length (l : List UInt8) : (hexOf l).length = 2 * l.length := by
  induction l with
  | nil => rfl
  | cons a l ih => simp [hexOf, ih]; omega

theorem hexOf_take (bs : List UInt8) (k : Nat) (h : k < bs.length) : hexOf (bs.take (k + 1)) = hexOf (bs.take k) ++ [ub (hdN ((bs.getD k 0).toNat / 16)), ub (hdN ((bs.getD k 0).toNat % 16))] := by
  rw [take_snoc bs k h, hexOf_snoc]

theorem hd_at (j : Nat) (h : j < 16) (h' : j < (({ data := #[48, 49, 50, 51, 52, 53, 54, 55, 56, 57, 97, 98, 99, 100, 101, 102] } : ByteArray)).size) : ((({ data := #[48, 49, 50, 51, 52, 53, 54, 55, 56, 57, 97, 98, 99, 100, 101, 102] } : ByteArray)[j]'h').toNat : Int) = (hdN j : Int) := by
  have := hexdig ⟨j, h⟩
  simp only at this
  unfold hdN
  omega

/-- 'out = append(out, x, y)' as one step of a region that draws its order. -/
theorem step_app2 {ops : Array Oper} {o : Oper} {a : Act} {K : Act → World → Prop} {Q : Exit → Act → World → Prop} {E : Prop} {w0 : World} (s x : Operand) (z1 z2 : Int) (k1 k2 : Nat) (base : Nat) (v : Value) (out : List UInt8)
    (hgd : o.guard = none) (ho : o.op = .call { callee := .builtin .append, args := #[s, x], argTypes := #[84, 84] })
    (hs : a.eval s = v) (hx : a.eval x = .slice (some ⟨w0.heap.size, 0, none⟩) 2 2) (hown : Own base w0 v out) (hk1 : k1 < 256) (hk2 : k2 < 256) (hz1 : z1 = (k1 : Int)) (hz2 : z2 = (k2 : Int)) (hlen : out.length ≤ 1099511627776) (hbase : base ≤ w0.heap.size)
    (h : ∀ g cap w', Own base w' (.slice (some ⟨g, 0, none⟩) (out.length + 2) cap) (out ++ [ub k1, ub k2]) → Below base w0 w' → K (a.put o.dst (.slice (some ⟨g, 0, none⟩) (out.length + 2) cap)) w') :
    if Region.wanted o (yielded ops a.tmps) = true then Oper.wp Tryz.prog o a ((w0.alloc (.cells #[.int .u8 z1, .int .u8 z2] 5)).drew) K Q else E := by
  obtain ⟨i0, hi, hz0, hzz1, hzz2⟩ := info_parts Tryz.info5
  subst hz1 hz2
  refine step_append_lies (w := (w0.alloc (.cells #[.int .u8 (k1 : Int), .int .u8 (k2 : Int)] 5)).drew) hgd s x 84 ho base 5 i0 (.int .u8 0) 1 1 Tryz.underlying84 hi hz0 hzz1 hzz2 rfl (by decide) v out.length (out.map B8) hs (World.ownsRow.drew (World.ownsRow.alloc hown _))
    ⟨w0.heap.size, 0, none⟩ 2 2 [.int .u8 (k1 : Int), .int .u8 (k2 : Int)] hx rfl (World.news_of_block (cs := #[.int .u8 (k1 : Int), .int .u8 (k2 : Int)]) (t := 5) (fr := (0, 0)) (heap_alloc_new w0 _)) (by simp [Value.oneCell'])
    (by omega) (by unfold maxLen; omega) (by omega) (by simp; omega) (w0.heap.size + 1) (by simp) ?_
  intro g cap w' h1 h2 _ _
  refine h g cap w' ?_ ?_
  · have e2 : out.map B8 ++ [.int .u8 (k1 : Int), .int .u8 (k2 : Int)] = (out ++ [ub k1, ub k2]).map B8 := by simp [B8, ub_toNat k1 hk1, ub_toNat k2 hk2]
    rw [e2] at h1
    have e : out.length + 2 = (out ++ [ub k1, ub k2]).length := by simp
    unfold Own
    rw [← e]
    exact h1
  · exact (((Below.refl base w0).alloc hbase _).drew).grown h2 (by simp; omega) hown.block

set_option maxRecDepth 100000 in
set_option maxHeartbeats 1600000 in
theorem hex_full (b off cap : Nat) (bs : List UInt8) (w : World) (hc : ∀ j, j < bs.length → w.cell? ⟨b, off + j, none⟩ = some (.int .u8 ((bs.getD j 0).toNat : Int))) (hmax : bs.length ≤ 268435456) (hpos : 0 < bs.length) :
    Calls Tryz.prog 176 #[.slice (some ⟨b, off, none⟩) bs.length cap] w fun e w' => e = .returned (.string ⟨(hexOf bs).toArray⟩) ∧ Below w.heap.size w w' := by
  have HC : Hid (∀ j, j < bs.length → w.cell? ⟨b, off + j, none⟩ = some (.int .u8 ((bs.getD j 0).toNat : Int))) := hc
  have hblt : b < w.heap.size := lt_of_cell (hc 0 hpos)
  clear hc
  go_enter Tryz.func176, Tryz.ntmps176
  go_wp2
  go_loopw [3, 8] (fun v i wr => ∃ (k : Nat) (out : List UInt8), k ≤ bs.length ∧ i = .int .i64 k ∧ out.length = 2 * k ∧ Hid (out = hexOf (bs.take k)) ∧ Own w.heap.size wr v out ∧ Below w.heap.size w wr) (fun _ i _ => bs.length - (intOf i).toNat)
  case atStart => exact ⟨0, [], Nat.zero_le _, rfl, rfl, rfl, Own.nil _ _, Below.refl _ _⟩
  case round =>
    obtain ⟨k, out, hk, rfl, hol, hout, hown, hbel⟩ := hrel
    have hsz := hbel.size
    have HOL : Hid (out.length = 2 * k) := hol
    have hol2 : out.length ≤ 1099511627776 := by omega
    clear hol
    by_cases hlt : k < bs.length
    · obtain ⟨c, hcn⟩ : ∃ c, c = (bs.getD k 0).toNat := ⟨_, rfl⟩
      have hc256 : c < 256 := by rw [hcn]; exact UInt8.toNat_lt _
      have hcell : wr.cell? ⟨b, off + k, none⟩ = some (.int .u8 (c : Int)) := by rw [hbel.cell (by exact hblt), hcn]; exact HC.out k hlt
      have hm15 : bits .and .u8 (c : Int) 15 = (c : Int) % 16 := bits_mask .u8 8 (by decide) wraps_u8 4 (by decide) c (by omega) (by omega)
      have HO : Hid (out ++ [ub (hdN (c / 16)), ub (hdN (c % 16))] = hexOf (bs.take (k + 1))) := by show _ = _; rw [hexOf_take bs k hlt, hout.out, hcn]
      clear hcn hout
      have i1 : (0 : Int) ≤ (c : Int) / 16 := by omega
      have i2 : (c : Int) / 16 < 16 := by omega
      have i3 : (0 : Int) ≤ (c : Int) % 16 := by omega
      have i4 : (c : Int) % 16 < 16 := by omega
      go_wp2
      go_region_held3 (fun _ => True) (trivial) ((refine step_app2 (.tmp 12) (.tmp 19) _ _ (hdN (c / 16)) (hdN (c % 16)) w.heap.size _ out (by rfl) (by rfl) (by rfl) (by rfl) hown (hdN_lt _ (by omega)) (hdN_lt _ (by omega)) (hd_at _ (by omega) _) (hd_at _ (by omega) _) hol2 hsz ?_; intro g cap' w1 hown' hbel'))
      all_goals
        have hb1 := hbel.trans hbel'
        clear hown hbel hbel' hcell
        go_wp2
        go_roundw
        case rel => exact ⟨k + 1, _, by omega, by go_num, by have := HOL.out; simp; omega, HO, hown', hb1⟩
        case measure => simp [intOf]; omega
    · obtain ⟨a2, cap2, rfl, hle2, hmx2, hrow2⟩ := hown.row
      have hcs := conv_row hrow2 cap2
      have HO : Hid (out = hexOf bs) := by show _ = _; rw [hout.out, List.take_of_length_le (by omega)]
      clear hown hrow2 hout
      go_wp2
      go_ret
      exact ⟨by rw [← HO.out]; rfl, hbel⟩

set_option maxRecDepth 100000 in
set_option maxHeartbeats 400000 in
theorem hex_none (a : Option Addr) (cap : Nat) (w : World) :
    Calls Tryz.prog 176 #[.slice a 0 cap] w fun e w' => e = .returned (.string ⟨(hexOf []).toArray⟩) ∧ Below w.heap.size w w' := by
  have hcs := conv_zero w none 0
  go_enter Tryz.func176, Tryz.ntmps176
  go_wp2
  refine wp_loop_rounds 1 ?_
  rw [rounds_succ]
  go_wp2
  go_ret
  exact ⟨rfl, Below.refl _ _⟩

theorem hex_any (a : Option Addr) (cap : Nat) (bs : List UInt8) (w : World) (hrow : Row w a bs) (hmax : bs.length ≤ 268435456) :
    Calls Tryz.prog 176 #[.slice a bs.length cap] w fun e w' => e = .returned (.string ⟨(hexOf bs).toArray⟩) ∧ Below w.heap.size w w' := by
  rcases hrow with rfl | ⟨b, off, rfl, hc⟩
  · exact hex_none a cap w
  · rcases Nat.eq_zero_or_pos bs.length with h | h
    · have : bs = [] := List.eq_nil_of_length_eq_zero h
      subst this
      exact hex_none _ cap w
    · exact hex_full b off cap bs w hc hmax h

end Go.Proofs.YtjgggmjjikopeaaGreatDoor

/- octet.Bytes, the document's own Bytes and Fits: what they hand back. -/
namespace Go.Proofs.YtjgggmjjikopeaaGreatDoor
open Go.RowKit
set_option linter.unusedVariables false

/-- A number's bytes, so many, the highest first. -/
def bytesOf : Nat → Nat → List UInt8
  | 0, _ => []
  | s + 1, n => ub (n / 256 ^ s % 256) :: bytesOf s n

theorem bytesOf_length (s n : Nat) : (bytesOf s n).length = s := by
  induction s with
  | zero => rfl
  | succ s ih => simp [bytesOf, ih]

theorem shr8 (n k : Nat) : (n : Int) / 2 ^ (8 * k) = ((n / 256 ^ k : Nat) : Int) := by
  rw [Int.natCast_ediv, Int.natCast_pow, Int.pow_mul]
  rfl

theorem shr8b (n k : Nat) : (n : Int) / 2 ^ (8 * k) % 256 = ((n / 256 ^ k % 256 : Nat) : Int) := by
  rw [shr8]; omega

set_option maxRecDepth 100000 in
set_option maxHeartbeats 400000 in
theorem bytes_ok (n s : Nat) (hn : n < 18446744073709551616) (h1 : 1 ≤ s) (hs : s ≤ 8) (hfit : n / 256 ^ s = 0) (w : World) :
    Calls Tryz.prog 175 #[.int .u64 n, .int .i64 s] w fun e w' => ∃ v, e = .returned (.tuple #[v, .int .i64 0]) ∧ Own w.heap.size w' v (bytesOf s n) ∧ Below w.heap.size w w' := by
  have ht : ((n : Int) / 2 ^ (8 * s) != 0) = false := by rw [shr8, hfit]; rfl
  clear hfit
  go_enter Tryz.func175, Tryz.ntmps175
  go_wp2
  go_loopw [1, 6] (fun t v wr => ∃ (k : Nat) (out : List UInt8), k ≤ s ∧ t = .int .i64 (k : Int) ∧ out.length + k = s ∧ Hid (out ++ bytesOf k n = bytesOf s n) ∧ Own w.heap.size wr v out ∧ Below w.heap.size w wr)
    (fun t _ _ => (intOf t).toNat)
  case atStart => exact ⟨s, [], Nat.le_refl _, rfl, by simp, rfl, Own.nil _ _, Below.refl _ _⟩
  case round =>
    obtain ⟨k, out, hk, rfl, hlk, hsh, hown, hbel⟩ := hrel
    have hsz := hbel.size
    cases k with
    | zero =>
      go_wp2
      go_ret2
      exact ⟨_, rfl, by have := hsh.out; simp [bytesOf] at this; rw [← this]; exact hown, hbel⟩
    | succ k =>
      have H3 : Hid ((out ++ [ub (n / 256 ^ k % 256)]) ++ bytesOf k n = bytesOf s n) := by have := hsh.out; simp only [bytesOf] at this; simpa [Hid] using this
      clear hsh
      go_wp2_with (at_builtin; refine app1n (.tmp 24) (.tmp 30) _ (n / 256 ^ k % 256) w.heap.size _ out rfl rfl rfl rfl hown (by omega) (shr8b n k) (by omega) hsz ?_)
      intro v' w1 hown' hbel'
      have hb1 := hbel.trans hbel'
      clear hown hbel hbel'
      go_wp2
      go_roundw
      case rel => exact ⟨k, _, by omega, by go_num, by simp; omega, H3, hown', hb1⟩
      case measure => simp [intOf]

end Go.Proofs.YtjgggmjjikopeaaGreatDoor

/- strings.Cut at a point. -/
namespace Go.Proofs.YtjgggmjjikopeaaGreatDoor
open Go.RowKit
set_option linter.unusedVariables false

theorem size_mk (l : List UInt8) : (⟨l.toArray⟩ : ByteArray).size = l.length := by rw [← bytes_length]; rfl

/-- What stands ahead of the first point of a text, and behind it. -/
def aheadOf (l : List UInt8) : List UInt8 := l.takeWhile (· != 46)
def behindOf (l : List UInt8) : List UInt8 := (l.dropWhile (· != 46)).drop 1

theorem cut_none : ∀ l : List UInt8, Lib.indexByte l 46 = -1 → aheadOf l = l ∧ behindOf l = []
  | [], _ => ⟨rfl, rfl⟩
  | b :: l, h => by
    simp only [Lib.indexByte] at h
    by_cases hb : (b == 46) = true
    · rw [if_pos hb] at h; omega
    · rw [if_neg hb] at h
      have hb' : (b != 46) = true := by simpa using hb
      have ge := Lib.indexByte_ge l 46
      have h2 : Lib.indexByte l 46 = -1 := by
        by_cases h3 : (Lib.indexByte l 46 == -1) = true
        · simpa using h3
        · rw [if_neg h3] at h; omega
      obtain ⟨i1, i2⟩ := cut_none l h2
      refine ⟨?_, ?_⟩
      · simp only [aheadOf, List.takeWhile_cons, hb', if_true]; exact congrArg _ i1
      · simp only [behindOf, List.dropWhile_cons, hb', if_true]; exact i2

theorem cut_some : ∀ l : List UInt8, 0 ≤ Lib.indexByte l 46 → Lib.indexByte l 46 = ((aheadOf l).length : Int) ∧ l = aheadOf l ++ 46 :: behindOf l
  | [], h => by simp [Lib.indexByte] at h
  | b :: l, h => by
    simp only [Lib.indexByte] at h ⊢
    by_cases hb : (b == 46) = true
    · have hb2 : b = 46 := by simpa using hb
      subst hb2
      refine ⟨rfl, rfl⟩
    · rw [if_neg hb] at h ⊢
      have hb' : (b != 46) = true := by simpa using hb
      by_cases h3 : (Lib.indexByte l 46 == -1) = true
      · rw [if_pos h3] at h; omega
      · rw [if_neg h3] at h ⊢
        have ge := Lib.indexByte_ge l 46
        have h4 : Lib.indexByte l 46 ≠ -1 := by simpa using h3
        obtain ⟨i1, i2⟩ := cut_some l (by omega)
        have e1 : aheadOf (b :: l) = b :: aheadOf l := by simp [aheadOf, hb']
        have e2 : behindOf (b :: l) = behindOf l := by simp [behindOf, hb']
        rw [e1, e2, i1]
        exact ⟨by simp, by rw [List.cons_append, ← i2]⟩

theorem extract_list (l : List UInt8) (a b : Nat) : (⟨l.toArray⟩ : ByteArray).extract a b = ⟨((l.drop a).take (b - a)).toArray⟩ := by
  have h := Lib.extract_data (⟨l.toArray⟩ : ByteArray) a b
  generalize (⟨l.toArray⟩ : ByteArray).extract a b = x at h ⊢
  obtain ⟨⟨y⟩⟩ := x
  simp at h
  rw [h]

end Go.Proofs.YtjgggmjjikopeaaGreatDoor

/- real's small functions, and the document's own: what they tell, as plain functions of words. -/
namespace Go.Proofs.YtjgggmjjikopeaaGreatDoor
open Go.RowKit
set_option linter.unusedVariables false

theorem nat_beq (a b : Nat) : ((a : Int) == (b : Int)) = (a == b) := by
  rw [Bool.eq_iff_iff]
  simp only [beq_iff_eq]
  omega

theorem cut_nan (x y t : Nat) : isNan (Question.cut (.nanBits .f64 x y) t) = true ∧ Question.cut (.nanBits .f64 x y) t < 18446744073709551616 := by
  have h1 : t % 2 < 2 := Nat.mod_lt _ (by decide)
  have h2 : t / 2 % (2 ^ 52 - 1) < 2 ^ 52 - 1 := Nat.mod_lt _ (by decide)
  have e : Question.cut (.nanBits .f64 x y) t = (t % 2) * 2 ^ 63 + 0x7ff0000000000000 + 1 + (t / 2) % (2 ^ 52 - 1) := rfl
  rw [e]
  generalize t / 2 % (2 ^ 52 - 1) = r at h2 ⊢
  generalize t % 2 = s at h1 ⊢
  refine ⟨?_, by omega⟩
  simp only [isNan, decide_eq_true_eq]
  omega

/-- An operation that has no answer: a NaN whose bits the tape gives. -/
theorem run_float_none {P : Program} (w : World) (op : BinOp) (hop : op = .add ∨ op = .sub ∨ op = .mul ∨ op = .quo) (x y : Nat) (h : floatBits op .f64 x y = none) :
    ∃ b, isNan b = true ∧ b < 18446744073709551616 ∧ ∀ t, (binOp op t (.float .f64 x) (.float .f64 y)).run P w = .ok (.float .f64 b) w.drew := by
  refine ⟨Question.cut (.nanBits .f64 x y) (w.tape w.drawn (.nanBits .f64 x y)), (cut_nan x y _).1, (cut_nan x y _).2, fun t => ?_⟩
  unfold floatBits at h
  rcases hop with rfl | rfl | rfl | rfl <;> simp only at h <;> simp [binOp, Op.floatArith, h, Question.forced]

/-- Whatever it is: what is told of it, and that at most the tape was asked. -/
theorem run_float_any {P : Program} (w : World) (op : BinOp) (hop : op = .add ∨ op = .sub ∨ op = .mul ∨ op = .quo) (x y : Nat) :
    ∃ b q, home b = told (floatBits op .f64 x y) ∧ ∀ t, (binOp op t (.float .f64 x) (.float .f64 y)).run P w = .ok (.float .f64 b) (w.drewN q) := by
  cases h : floatBits op .f64 x y with
  | some r => exact ⟨r, 0, rfl, fun t => by rw [run_float_arith w op t .f64 x y r h]; rfl⟩
  | none =>
    obtain ⟨b, h1, h2, h3⟩ := run_float_none (P := P) w op hop x y h
    exact ⟨b, 1, home_nan h1, fun t => by rw [h3]; rfl⟩

theorem cf_bits (b : Nat) : ∀ w, Sem.run Tryz.prog (callFunc 191 #[.float .f64 b]) w = .ok (.value (.int .u64 b)) w := fun w => by
  rw [run_callFunc_extern Tryz.func191 (by kernel_rfl) (by kernel_rfl) (by kernel_rfl) (e := Extern.MathFloatBits.float64bits) (by kernel_rfl)]
  rfl

theorem cf_from (b : Nat) : ∀ w, Sem.run Tryz.prog (callFunc 196 #[.int .u64 (b : Int)]) w = .ok (.value (.float .f64 b)) w := fun w => by
  rw [run_callFunc_extern Tryz.func196 (by kernel_rfl) (by kernel_rfl) (by kernel_rfl) (e := Extern.MathFloatBits.float64frombits) (by kernel_rfl)]
  rfl

theorem bitsOf_any (b : Nat) (w : World) : Calls Tryz.prog 189 #[.float .f64 b] w fun e w' => e = .returned (.int .u64 (home b : Nat)) ∧ w' = w := by
  have hcf := cf_bits b
  have hneq : (FloatKind.f64.format.order b b != some .eq) = isNan b := neq_self b
  cases h : isNan b
  · rw [home_real h]
    rw [h] at hneq
    go_enter Tryz.func189, Tryz.ntmps189
    go_wp2
    go_ret
    exact ⟨rfl, rfl⟩
  · rw [home_nan h]
    rw [h] at hneq
    go_enter Tryz.func189, Tryz.ntmps189
    go_wp2
    go_ret
    exact ⟨rfl, rfl⟩

theorem canon_any (b : Nat) (w : World) : Calls Tryz.prog 173 #[.int .u64 (b : Int)] w fun e w' => e = .returned (.int .u64 (home b : Nat)) ∧ w' = w := by
  have hcf := cf_from b
  go_enter Tryz.func173, Tryz.ntmps173
  go_wp2_with fail
  refine (bitsOf_any b _).mono ?_
  rintro e w1 ⟨rfl, rfl⟩
  go_wp2
  go_ret
  exact ⟨rfl, rfl⟩

theorem number_any (b : Nat) (w : World) : Calls Tryz.prog 190 #[.int .u64 (b : Int)] w fun e w' => e = .returned (.float .f64 (home b)) ∧ w' = w := by
  have hcf := cf_from (home b)
  go_enter Tryz.func190, Tryz.ntmps190
  go_wp2_with fail
  refine (canon_any b _).mono ?_
  rintro e w1 ⟨rfl, rfl⟩
  go_wp2
  go_ret
  exact ⟨rfl, rfl⟩

theorem may_any (b : Nat) (w : World) (h : b < 18446744073709551616) : Calls Tryz.prog 149 #[.int .u64 (b : Int)] w fun e w' => e = .returned (.bool (home b == b)) ∧ w' = w := by
  have hh := home_lt h
  go_enter Tryz.func149, Tryz.ntmps149
  go_wp2_with fail
  refine (canon_any b _).mono ?_
  rintro e w1 ⟨rfl, rfl⟩
  go_wp2
  go_ret
  exact ⟨by rw [← nat_beq]; rfl, rfl⟩

end Go.Proofs.YtjgggmjjikopeaaGreatDoor

/- real.Neg and real.ToInt, and the document's own. -/
namespace Go.Proofs.YtjgggmjjikopeaaGreatDoor
open Go.RowKit
set_option linter.unusedVariables false

theorem neg_any (a : Nat) (h : a < 18446744073709551616) (w : World) : Calls Tryz.prog 161 #[.int .u64 (a : Int)] w fun e w' => e = .returned (.int .u64 (fneg a : Nat)) ∧ w' = w := by
  have hun : ∀ w, (Op.unary .neg (.float .f64 (home a))).run Tryz.prog w = .ok (.float .f64 (home a ^^^ 9223372036854775808)) w := fun w => rfl
  go_enter Tryz.func161, Tryz.ntmps161
  go_wp2_with fail
  refine (number_any a _).mono ?_
  rintro e w1 ⟨rfl, rfl⟩
  go_wp2_with fail
  refine (bitsOf_any (home a ^^^ 9223372036854775808) _).mono ?_
  rintro e w1 ⟨rfl, rfl⟩
  rw [home_flip a h]
  go_wp2
  go_ret
  exact ⟨rfl, rfl⟩

end Go.Proofs.YtjgggmjjikopeaaGreatDoor

/- real.power, real.quotient, real.Parse: the real of a text. -/
namespace Go.Proofs.YtjgggmjjikopeaaGreatDoor
open Go.RowKit
set_option linter.unusedVariables false

set_option maxRecDepth 100000 in
set_option maxHeartbeats 400000 in
theorem power_any (k : Nat) (hk : k ≤ 6) (w : World) : Calls Tryz.prog 159 #[.int .i64 (k : Int)] w fun e w' => e = .returned (.int .i64 ((10 ^ k : Nat) : Int)) ∧ w' = w := by
  go_enter Tryz.func159, Tryz.ntmps159
  go_wp2
  go_loopw [3, 5] (fun p i wr => ∃ j : Nat, j ≤ k ∧ p = .int .i64 ((10 ^ j : Nat) : Int) ∧ i = .int .i64 (j : Int) ∧ wr = w) (fun _ i _ => (k : Int).toNat - (intOf i).toNat)
  case atStart => exact ⟨0, by omega, rfl, rfl, rfl⟩
  case round =>
    obtain ⟨j, hj, rfl, rfl, rfl⟩ := hrel
    by_cases hc : j < k
    · have hp : 10 ^ j ≤ 100000 := Nat.pow_le_pow_right (show 0 < 10 by decide) (show j ≤ 5 by omega)
      have hs : 10 ^ (j + 1) = 10 ^ j * 10 := Nat.pow_succ 10 j
      have HS : Hid (10 ^ (j + 1) = 10 ^ j * 10) := hs
      clear hs
      obtain ⟨P, hP⟩ : ∃ P, Hid (P = 10 ^ j) := ⟨10 ^ j, (rfl : 10 ^ j = 10 ^ j)⟩
      rw [← hP.out] at hp ⊢
      go_wp2
      go_roundw
      case rel => exact ⟨j + 1, by omega, (by rw [HS.out, ← hP.out]; go_num), by go_num, trivial⟩
      case measure => simp [intOf]; omega
    · obtain rfl : j = k := by omega
      go_wp2
      go_ret
      exact ⟨rfl, rfl⟩

/-- The quotient of two whole numbers, as a real. -/
def quo (n s : Nat) : Nat := fdiv (ofInt (n : Int)) (ofInt (s : Int))

theorem quotient_any (n s : Nat) (w : World) : Calls Tryz.prog 160 #[.int .i64 (n : Int), .int .i64 (s : Int)] w fun e w' => e = .returned (.int .u64 (quo n s : Nat)) ∧ ∃ q, w' = w.drewN q := by
  obtain ⟨x, q, hx, hop⟩ := run_float_any (P := Tryz.prog) w .quo (.inr (.inr (.inr rfl))) (floatOfInt .f64 n) (floatOfInt .f64 s)
  have hx' : home x = quo n s := hx
  clear hx
  go_enter Tryz.func160, Tryz.ntmps160
  go_wp2_with fail
  refine (bitsOf_any x _).mono ?_
  rintro e w1 ⟨rfl, rfl⟩
  rw [hx']
  go_wp2
  go_ret
  exact ⟨rfl, q, rfl⟩

instance (l : List UInt8) : Decidable (GoodDec l) := by unfold GoodDec; infer_instance

/-- The texts that are literals, as the code asks it. -/
def IsLit (l : List UInt8) : Prop := 1 ≤ (behindOf l).length ∧ (behindOf l).length ≤ 6 ∧ (aheadOf l).length + (behindOf l).length ≤ 15 ∧ GoodDec (aheadOf l) ∧ GoodDec (49 :: behindOf l)

instance (l : List UInt8) : Decidable (IsLit l) := by unfold IsLit; infer_instance

/-- A literal's digits, as a whole number. -/
def litNum (l : List UInt8) : Nat := decVal (aheadOf l) * 10 ^ (behindOf l).length + decVal (49 :: behindOf l) - 10 ^ (behindOf l).length

/-- What Parse answers. -/
def ParsePost (l : List UInt8) (e : Ending) : Prop :=
  (IsLit l ∧ e = .returned (.tuple #[.int .u64 (quo (litNum l) (10 ^ (behindOf l).length) : Nat), .int .i64 0])) ∨ (¬ IsLit l ∧ e = .returned (.tuple #[.int .u64 0, .int .i64 4]))

theorem cat_list (x y : List UInt8) : ((⟨x.toArray⟩ : ByteArray) ++ (⟨y.toArray⟩ : ByteArray)) = ⟨(x ++ y).toArray⟩ := by
  apply ByteArray.ext
  simp

theorem good_lt {l : List UInt8} (h : GoodDec l) : decVal l < 10 ^ l.length := by
  have := val_lt l l.length (Nat.le_refl _) h.2.2.1
  rwa [List.take_of_length_le (Nat.le_refl _)] at this

theorem one_ge {b : List UInt8} (h : GoodDec (49 :: b)) : 10 ^ b.length ≤ decVal (49 :: b) := by
  have := val_ge (49 :: b) h.1 h.2.2.1 (by simp) b.length (by simp)
  rwa [List.take_of_length_le (by simp)] at this

end Go.Proofs.YtjgggmjjikopeaaGreatDoor

/- real.digitsOf and real.Print. -/
namespace Go.Proofs.YtjgggmjjikopeaaGreatDoor
open Go.RowKit
set_option linter.unusedVariables false

/-- One half, and 10 to the power of 15, as reals. -/
def HALF : Nat := 4602678819172646912
def E15 : Nat := 4831355200913801216

/-- What is near a real's digits, scaled. -/
def nearOf (x s : Nat) : Option Nat := match D.mul x (ofInt (s : Int)) with
  | none => none
  | some p => D.add p HALF

/-- A literal's digits as a whole number, if x is the real of one with this scale. -/
def digitsOf (x s : Nat) : Option Nat := match nearOf x s with
  | none => none
  | some y => if isNan y = false ∧ 0 ≤ val y ∧ val y < val E15 then (if quo (trunc (val y)).toNat s = home x then some (trunc (val y)).toNat else none) else none

/-- What digitsOf answers. -/
def DigitsPost (x s : Nat) (e : Ending) : Prop :=
  (∃ n : Nat, digitsOf x s = some n ∧ e = .returned (.tuple #[.int .i64 (n : Int), .bool true])) ∨ (digitsOf x s = none ∧ e = .returned (.tuple #[.int .i64 0, .bool false]))

theorem val_zero : val 0 = 0 := by decide +kernel
theorem val_E15 : val E15 = ((1000000000000000 * pw 1074 : Nat) : Int) := by decide +kernel

theorem near_run (x s : Nat) (w : World) : ∃ p y q1 q2, (∀ t, (binOp .mul t (.float .f64 x) (.float .f64 (floatOfInt .f64 s))).run Tryz.prog w = .ok (.float .f64 p) (w.drewN q1)) ∧
    (∀ t, (binOp .add t (.float .f64 p) (.float .f64 4602678819172646912)).run Tryz.prog (w.drewN q1) = .ok (.float .f64 y) (w.drewN q2)) ∧ (nearOf x s = some y ∨ (nearOf x s = none ∧ isNan y = true)) := by
  cases h : floatBits .mul .f64 x (floatOfInt .f64 s) with
  | none =>
    have h' : D.mul x (ofInt (s : Int)) = none := h
    obtain ⟨p, hn, _, hr⟩ := run_float_none (P := Tryz.prog) w .mul (.inr (.inr (.inl rfl))) _ _ h
    obtain ⟨y, hy, _, hr2⟩ := run_float_none (P := Tryz.prog) w.drew .add (.inl rfl) p HALF (add_nan (.inl hn))
    refine ⟨p, y, 1, 2, fun t => hr t, fun t => hr2 t, .inr ⟨by simp [nearOf, h'], hy⟩⟩
  | some p =>
    have h' : D.mul x (ofInt (s : Int)) = some p := h
    have hr := fun t => run_float_arith (P := Tryz.prog) w .mul t .f64 _ _ p h
    cases h2 : floatBits .add .f64 p HALF with
    | none =>
      have h2' : D.add p HALF = none := h2
      obtain ⟨y, hy, _, hr2⟩ := run_float_none (P := Tryz.prog) w .add (.inl rfl) p HALF h2
      exact ⟨p, y, 0, 1, fun t => hr t, fun t => hr2 t, .inr ⟨by simp [nearOf, h', h2'], hy⟩⟩
    | some y =>
      have h2' : D.add p HALF = some y := h2
      have hr2 := fun t => run_float_arith (P := Tryz.prog) w .add t .f64 _ _ y h2
      exact ⟨p, y, 0, 0, fun t => hr t, fun t => hr2 t, .inl (by simp [nearOf, h', h2'])⟩

/-- The trunc of a real that is not below nought and below 10^15. -/
theorem trunc_bounds {v : Int} (h0 : 0 ≤ v) (h1 : v < val E15) : 0 ≤ trunc v ∧ trunc v < 1000000000000000 := by
  rw [val_E15] at h1
  unfold trunc
  rw [if_neg (by omega)]
  have hp := pw_pos 1074
  generalize pw 1074 = K at h1 hp ⊢
  have : v.natAbs / K < 1000000000000000 := (Nat.div_lt_iff_lt_mul hp).2 (by omega)
  generalize v.natAbs / K = z at this ⊢
  omega

theorem E15_lt_B63 : val E15 < val B63 := by
  rw [val_E15, val_B63]
  have hp := pw_pos 1074
  generalize pw 1074 = K at hp ⊢
  omega

set_option maxRecDepth 100000 in
set_option maxHeartbeats 1600000 in
theorem digitsOf_any (x s : Nat) (w : World) : Calls Tryz.prog 197 #[.float .f64 x, .int .i64 (s : Int)] w fun e w' => DigitsPost x s e ∧ ∃ q, w' = w.drewN q := by
  obtain ⟨p, y, q1, q2, hop1, hop2, hy⟩ := near_run x s w
  have fin : (hn : isNan y = true ∨ (isNan y = false ∧ ¬ (0 ≤ val y ∧ val y < val E15))) → digitsOf x s = none := by
    intro hn
    rcases hy with hy | ⟨hy, _⟩
    · simp only [digitsOf, hy]
      rw [if_neg]
      rintro ⟨h1, h2, h3⟩
      rcases hn with hn | ⟨_, hn⟩
      · rw [hn] at h1; cases h1
      · exact hn ⟨h2, h3⟩
    · simp only [digitsOf, hy]
  cases hn : isNan y
  · have e1 : (FloatKind.f64.format.order y 0 == some .gt || FloatKind.f64.format.order y 0 == some .eq) = decide (val 0 ≤ val y) := ge_val (c := 0) hn (by decide)
    have e2 : (FloatKind.f64.format.order y 4831355200913801216 == some .lt) = decide (val y < val E15) := lt_val (c := E15) hn (by decide)
    rw [val_zero] at e1
    by_cases c1 : 0 ≤ val y
    · rw [decide_eq_true c1] at e1
      by_cases c2 : val y < val E15
      · rw [decide_eq_true c2] at e2
        have hb := trunc_bounds c1 c2
        have hw := whole_val hn (Int.lt_trans c2 E15_lt_B63) (by rw [val_N63]; omega)
        obtain ⟨n, hnn⟩ : ∃ n : Nat, n = (trunc (val y)).toNat := ⟨_, rfl⟩
        have htr : trunc (val y) = (n : Int) := by omega
        rw [htr] at hw
        have hcv : ∀ w, (convert 182 3 (.float .f64 y)).run Tryz.prog w = .ok (.int .i64 (n : Int)) w := fun w => run_convert_float_int w 182 3 .f64 .i64 y _ (by rw [Tryz.underlying182]; rfl) Tryz.underlying3 hw
        have hd : Hid (digitsOf x s = if quo n s = home x then some n else none) := by
          rcases hy with hy | ⟨hy, h2⟩
          · show digitsOf x s = _
            simp only [digitsOf, hy]
            rw [if_pos ⟨hn, c1, c2⟩, hnn]
          · rw [hn] at h2; cases h2
        clear hw hy fin c1 c2 htr hnn hb
        by_cases hq : quo n s = home x
        · have hqi : (((quo n s : Nat) : Int) != ((home x : Nat) : Int)) = false := by rw [hq]; simp
          go_enter Tryz.func197, Tryz.ntmps197
          go_wp2_with fail
          refine (quotient_any n s _).mono ?_
          rintro e w1 ⟨rfl, q3, rfl⟩
          go_wp2_with fail
          refine (bitsOf_any x _).mono ?_
          rintro e w1 ⟨rfl, rfl⟩
          go_wp2
          go_ret2
          exact ⟨.inl ⟨n, by rw [hd.out, if_pos hq], rfl⟩, _, rfl⟩
        · have hqi : (((quo n s : Nat) : Int) != ((home x : Nat) : Int)) = true := by rw [bne_iff_ne]; omega
          go_enter Tryz.func197, Tryz.ntmps197
          go_wp2_with fail
          refine (quotient_any n s _).mono ?_
          rintro e w1 ⟨rfl, q3, rfl⟩
          go_wp2_with fail
          refine (bitsOf_any x _).mono ?_
          rintro e w1 ⟨rfl, rfl⟩
          go_wp2
          go_ret2
          exact ⟨.inr ⟨by rw [hd.out, if_neg hq], rfl⟩, _, rfl⟩
      · rw [decide_eq_false c2] at e2
        have hd := fin (.inr ⟨hn, fun h => c2 h.2⟩)
        clear fin hy
        go_enter Tryz.func197, Tryz.ntmps197
        go_wp2
        go_ret2
        exact ⟨.inr ⟨hd, rfl⟩, _, rfl⟩
    · rw [decide_eq_false c1] at e1
      have hd := fin (.inr ⟨hn, fun h => c1 h.1⟩)
      clear fin hy
      go_enter Tryz.func197, Tryz.ntmps197
      go_wp2
      go_ret2
      exact ⟨.inr ⟨hd, rfl⟩, _, rfl⟩
  · have e1 : (FloatKind.f64.format.order y 0 == some .gt || FloatKind.f64.format.order y 0 == some .eq) = false := nan_ge (.inl hn)
    have hd := fin (.inl hn)
    clear fin hy
    go_enter Tryz.func197, Tryz.ntmps197
    go_wp2
    go_ret2
    exact ⟨.inr ⟨hd, rfl⟩, _, rfl⟩

theorem digitsOf_lt {x s n : Nat} (h : digitsOf x s = some n) : n < 1000000000000000 := by
  unfold digitsOf at h
  split at h
  · cases h
  · split at h
    · rename_i hc
      split at h
      · cases h
        have := trunc_bounds hc.2.1 hc.2.2
        omega
      · cases h
    · cases h

/-- The literal with so many digits behind the point, and these digits. -/
def litOf (k n : Nat) : List UInt8 := decOf ((n / 10 ^ k : Nat) : Int) ++ ([46] ++ (decOf ((10 ^ k + n % 10 ^ k : Nat) : Int)).drop 1)

/-- The first literal of a real, of those with k digits behind the point and more. -/
def pr (x : Nat) : Nat → Nat → Option (Nat × Nat)
  | _, 0 => none
  | k, f + 1 => match digitsOf x (10 ^ k) with
    | some n => some (k, n)
    | none => pr x (k + 1) f

/-- What Print answers. -/
def PrintPost (x : Nat) (e : Ending) : Prop :=
  (∃ k n : Nat, pr x 1 6 = some (k, n) ∧ e = .returned (.tuple #[.string ⟨(litOf k n).toArray⟩, .int .i64 0])) ∨ (pr x 1 6 = none ∧ e = .returned (.tuple #[.string ⟨#[]⟩, .int .i64 2]))

theorem dec_lit (N : Nat) (d : List UInt8) (hd : Hid (d = decOf (N : Int))) (hN : N ≤ 9223372036854775807) (w : World) :
    Calls Tryz.prog 198 #[.int .i64 (N : Int)] w fun e w' => e = .returned (.string ⟨d.toArray⟩) ∧ Below w.heap.size w w' := by
  rw [hd.out]
  exact dec_any N w (by omega) (by omega)

theorem digs_pos (f n : Nat) : 1 ≤ (digs f n).length := by
  cases f with
  | zero => simp [digs]
  | succ f => simp only [digs]; split <;> simp

theorem digs_len (f : Nat) : ∀ n, (digs f n).length ≤ f + 1 := by
  induction f with
  | zero => intro n; simp [digs]
  | succ f ih =>
    intro n
    simp only [digs]
    split
    · simp
    · have := ih (n / 10)
      simp
      omega

theorem decOf_len (n : Int) : (decOf n).length ≤ 21 := by
  unfold decOf
  have := digs_len 19 n.natAbs
  split
  · simp; omega
  · omega

theorem decOf_pos (n : Int) : 1 ≤ (decOf n).length := by
  unfold decOf
  split
  · simp
  · exact digs_pos _ _

set_option maxRecDepth 100000 in
set_option maxHeartbeats 1600000 in
theorem print_any (a : Nat) (w : World) : Calls Tryz.prog 174 #[.int .u64 (a : Int)] w fun e w' => PrintPost (home a) e ∧ Below w.heap.size w w' := by
  go_enter Tryz.func174, Tryz.ntmps174
  go_wp2_with fail
  refine (number_any a _).mono ?_
  rintro e w1 ⟨rfl, hw1⟩
  rw [hw1]
  clear hw1
  obtain ⟨x, hx⟩ : ∃ x, x = home a := ⟨_, rfl⟩
  rw [← hx]
  have HX : Hid (x = home a) := hx
  clear hx
  go_wp2
  go_loopw [5] (fun i wr => ∃ k f : Nat, 1 ≤ k ∧ k + f = 7 ∧ i = .int .i64 (k : Int) ∧ Hid (pr x 1 6 = pr x k f) ∧ ∃ q, wr = w.drewN q) (fun i _ => 8 - (intOf i).toNat)
  case atStart => exact ⟨1, 6, by omega, rfl, rfl, (rfl : pr x 1 6 = pr x 1 6), 0, rfl⟩
  case round =>
    obtain ⟨k, f, hk1, hkf, rfl, hpr, q, rfl⟩ := hrel
    by_cases hc : k ≤ 6
    · obtain ⟨f, rfl⟩ : ∃ g, f = g + 1 := ⟨f - 1, by omega⟩
      go_wp2_with fail
      refine (power_any k hc _).mono ?_
      rintro e w2 ⟨rfl, hw2⟩
      rw [hw2]
      clear hw2
      have hS6 : 10 ^ k ≤ 10 ^ 6 := Nat.pow_le_pow_right (by decide) hc
      have hS1 : 10 ^ 1 ≤ 10 ^ k := Nat.pow_le_pow_right (by decide) hk1
      obtain ⟨S, hS⟩ : ∃ S, Hid (S = 10 ^ k) := ⟨10 ^ k, (rfl : 10 ^ k = 10 ^ k)⟩
      rw [← hS.out] at hS6 hS1 ⊢
      go_wp2_with fail
      refine (digitsOf_any x S _).mono ?_
      rintro e w2 ⟨⟨n, hd, rfl⟩ | ⟨hd, rfl⟩, q2, rfl⟩
      · have hn := digitsOf_lt hd
        have HD : Hid (digitsOf x S = some n) := hd
        clear hd
        have HP : Hid (pr x 1 6 = some (k, n)) := by
          show _ = _
          rw [hpr.out]
          simp only [pr]
          rw [← hS.out, HD.out]
        clear hpr HD
        obtain ⟨N1, hN1⟩ : ∃ N1, N1 = n / S := ⟨_, rfl⟩
        obtain ⟨N2, hN2⟩ : ∃ N2, N2 = S + n % S := ⟨_, rfl⟩
        have hS0 : ¬ S = 0 := by omega
        have hS0i : ¬ (S : Int) = 0 := by omega
        have b1 : N1 ≤ 1000000000000000 := by rw [hN1]; exact Nat.le_trans (Nat.div_le_self _ _) (by omega)
        have b2 : N2 ≤ 3000000 := by have := Nat.mod_lt n (show 0 < S by omega); omega
        have f1 : IntKind.i64.wrap ((n : Int) / (S : Int)) = (N1 : Int) := by
          have e : (n : Int) / (S : Int) = (N1 : Int) := by rw [hN1]; simp
          rw [e]; rw [IntKind.wrap_i64]; omega
        have f2 : IntKind.i64.wrap ((S : Int) + (n : Int).tmod (S : Int)) = (N2 : Int) := by
          have e : (S : Int) + (n : Int).tmod (S : Int) = (N2 : Int) := by rw [hN2, Int.tmod_eq_emod_of_nonneg (by omega)]; simp
          rw [e]; rw [IntKind.wrap_i64]; omega
        obtain ⟨d1, hd1⟩ : ∃ d, Hid (d = decOf (N1 : Int)) := ⟨decOf (N1 : Int), (rfl : decOf (N1 : Int) = _)⟩
        obtain ⟨d2, hd2⟩ : ∃ d, Hid (d = decOf (N2 : Int)) := ⟨decOf (N2 : Int), (rfl : decOf (N2 : Int) = _)⟩
        have l2 : 1 ≤ d2.length := by rw [hd2.out]; exact decOf_pos _
        have l2i : (1 : Int) ≤ (d2.length : Int) := by omega
        have l3 : d2.length ≤ 21 := by rw [hd2.out]; exact decOf_len _
        have l1 : d1.length ≤ 21 := by rw [hd1.out]; exact decOf_len _
        have hsz1 : (⟨d1.toArray⟩ : ByteArray).size = d1.length := size_mk d1
        have hc1 : ¬ 9223372036854775807 < d1.length + 1 := by omega
        have hc2 : ¬ 9223372036854775807 < d1.length + 1 + (d2.length - 1) := by omega
        have HL : Hid (litOf k n = d1 ++ ([46] ++ d2.drop 1)) := by
          show _ = _
          rw [hd1.out, hd2.out, hN1, hN2, hS.out]; rfl
        have hsz : (⟨d2.toArray⟩ : ByteArray).size = d2.length := size_mk d2
        have hex : (⟨d2.toArray⟩ : ByteArray).extract 1 d2.length = ⟨(d2.drop 1).toArray⟩ := by rw [extract_list, List.take_of_length_le (by simp)]
        clear hN1 hN2 hS
        go_wp2_with fail
        go_region_held3 (fun _ => True) (trivial) (first | (go_at_call_of 198 (Value.int IntKind.i64 (N1 : Int)); refine (dec_lit N1 d1 hd1 (by omega) _).mono ?_; rintro e w3 ⟨rfl, hb3⟩) | (go_at_call_of 198 (Value.int IntKind.i64 (N2 : Int)); refine (dec_lit N2 d2 hd2 (by omega) _).mono ?_; rintro e w4 ⟨rfl, hb4⟩))
        go_wp2
        go_ret2
        refine ⟨.inl ⟨k, n, by rw [← HX.out]; exact HP.out, ?_⟩, ?_⟩
        · rw [HL.out, ← List.append_assoc, ← cat_list, ← cat_list]
          simp
        · have h3 : Below w.heap.size w w3 := (below_drewN (Below.refl _ _) _).trans hb3
          exact h3.trans (hb4.mono h3.size)
      · have HD : Hid (pr x 1 6 = pr x (k + 1) f) := by
          show _ = _
          rw [hpr.out]
          simp only [pr]
          rw [← hS.out, hd]
        clear hd hpr
        go_wp2
        go_roundw
        case rel => exact ⟨k + 1, f, by omega, by omega, by go_num, HD, _, rfl⟩
        case measure => simp [intOf]; omega
    · obtain rfl : f = 0 := by omega
      go_wp2
      go_ret2
      exact ⟨.inr ⟨by rw [← HX.out]; exact hpr.out, rfl⟩, below_drewN (Below.refl _ _) _⟩

end Go.Proofs.YtjgggmjjikopeaaGreatDoor

/- octet.ReadHex and the document's own ReadHex: the bytes of digits. -/
namespace Go.Proofs.YtjgggmjjikopeaaGreatDoor
open Go.RowKit
set_option linter.unusedVariables false

end Go.Proofs.YtjgggmjjikopeaaGreatDoor

/- Digits that are told are read, and digits that are read are told again: plain facts. -/
namespace Go.Proofs.YtjgggmjjikopeaaGreatDoor
set_option linter.unusedVariables false

end Go.Proofs.YtjgggmjjikopeaaGreatDoor

/- A literal's digits are found again of its real; literals and their texts. -/
namespace Go.Proofs.YtjgggmjjikopeaaGreatDoor
open Ieee
set_option linter.unusedVariables false

theorem quo_lt (n s : Nat) : quo n s < 18446744073709551616 := told_lt (fun x h => D.div_lt h)

end Go.Proofs.YtjgggmjjikopeaaGreatDoor

/- Literals: a text that is one is the literal of its digits, and the literal of any digits is one. -/
namespace Go.Proofs.YtjgggmjjikopeaaGreatDoor
set_option linter.unusedVariables false

end Go.Proofs.YtjgggmjjikopeaaGreatDoor

/- awake: the document's examples are answered as it says. -/
namespace Go.Proofs.YtjgggmjjikopeaaGreatDoor
open Go.RowKit
set_option linter.unusedVariables false

theorem print_lit (a k n : Nat) (l : List UInt8) (h : pr (home a) 1 6 = some (k, n)) (hl : litOf k n = l) (w : World) :
    Calls Tryz.prog 174 #[.int .u64 (a : Int)] w fun e w' => e = .returned (.tuple #[.string ⟨l.toArray⟩, .int .i64 0]) ∧ Below w.heap.size w w' := by
  refine (print_any a w).mono ?_
  rintro e w' ⟨⟨k', n', h', rfl⟩ | ⟨h', _⟩, hb⟩
  · rw [h] at h'
    cases h'
    exact ⟨by rw [hl], hb⟩
  · rw [h] at h'; cases h'

theorem print_not (a : Nat) (h : pr (home a) 1 6 = none) (w : World) :
    Calls Tryz.prog 174 #[.int .u64 (a : Int)] w fun e w' => e = .returned (.tuple #[.string ⟨#[]⟩, .int .i64 2]) ∧ Below w.heap.size w w' := by
  refine (print_any a w).mono ?_
  rintro e w' ⟨⟨k', n', h', rfl⟩ | ⟨h', rfl⟩, hb⟩
  · rw [h] at h'; cases h'
  · exact ⟨rfl, hb⟩

end Go.Proofs.YtjgggmjjikopeaaGreatDoor

/- Sums and products turned about; and the law RealRing, walked. -/
namespace Go.Proofs.YtjgggmjjikopeaaGreatDoor
open Ieee Go.RowKit
set_option linter.unusedVariables false

theorem home_fneg (a : Nat) (ha : a < 18446744073709551616) : home (fneg a) = fneg a := by
  cases hn : isNan a
  · exact home_real (by rw [isNan_fneg ha, hn])
  · rw [show fneg a = NAN by simp only [fneg, hn, if_true]]; decide

end Go.Proofs.YtjgggmjjikopeaaGreatDoor
