/- octet.Dec and the document's own Dec. -/
import Derived.Test.YthemfblckliclaaReadDec
namespace Go.Proofs.Ythemfblckliclaa
open Go.RowKit
set_option linter.unusedVariables false

/-- A number's digits: 'f' more at most. -/
def digs : Nat → Nat → List UInt8
  | 0, n => [ub (48 + n % 10)]
  | f + 1, n => if n < 10 then [ub (48 + n % 10)] else digs f (n / 10) ++ [ub (48 + n % 10)]

theorem digs_small (f n : Nat) (h : n < 10) : digs f n = [ub (48 + n % 10)] := by
  cases f with
  | zero => rfl
  | succ f => simp [digs, h]

theorem digs_big (f n : Nat) (h : 10 ≤ n) : digs (f + 1) n = digs f (n / 10) ++ [ub (48 + n % 10)] := by
  simp [digs, show ¬ n < 10 by omega]

/-- The digits of a number, with - ahead of one below 0. -/
def decOf (n : Int) : List UInt8 := if n < 0 then ub 45 :: digs 19 n.natAbs else digs 19 n.natAbs

theorem hexdig : ∀ j : Fin 16, (({ data := #[48, 49, 50, 51, 52, 53, 54, 55, 56, 57, 97, 98, 99, 100, 101, 102] } : ByteArray)[j.val]'(j.isLt)).toNat = if j.val < 10 then 48 + j.val else 87 + j.val := by decide +kernel

theorem dig_at (j : Nat) (h : j < 10) (h' : j < (({ data := #[48, 49, 50, 51, 52, 53, 54, 55, 56, 57, 97, 98, 99, 100, 101, 102] } : ByteArray)).size) : ((({ data := #[48, 49, 50, 51, 52, 53, 54, 55, 56, 57, 97, 98, 99, 100, 101, 102] } : ByteArray)[j]'h').toNat : Int) = ((48 + j % 10 : Nat) : Int) := by
  have := hexdig ⟨j, by omega⟩
  simp only [h, if_true] at this
  rw [this]
  omega

theorem digs_step {N f m : Nat} {back : List UInt8} (hb : 10 ≤ m) (hm : m < 10 ^ (f + 1)) (hf : f + back.length = 19) (h : digs f m ++ back.reverse = digs 19 N) :
    ∃ f', f = f' + 1 ∧ f' + (back ++ [ub (48 + m % 10)]).length = 19 ∧ m / 10 < 10 ^ (f' + 1) ∧ digs f' (m / 10) ++ (back ++ [ub (48 + m % 10)]).reverse = digs 19 N := by
  cases f with
  | zero => simp at hm; omega
  | succ f =>
    refine ⟨f, rfl, by simp; omega, ?_, ?_⟩
    · rw [Nat.div_lt_iff_lt_mul (by omega)]; rwa [Nat.pow_succ] at hm
    · rw [← h, digs_big f m hb]; simp

theorem drop_reverse (B : List UInt8) (k : Nat) (h : k < B.length) : (B.drop (k + 1)).reverse ++ [B.getD k 0] = (B.drop k).reverse := by
  rw [List.drop_eq_getElem_cons h, List.reverse_cons]
  simp [List.getD, List.getElem?_eq_getElem h]

set_option maxRecDepth 100000 in
set_option maxHeartbeats 800000 in
theorem dec_pos (N : Nat) (w : World) (h1 : N ≤ 9223372036854775807) :
    Calls Try.prog 49 #[.int .i64 (N : Int)] w fun e w' => e = .returned (.string ⟨(digs 19 N).toArray⟩) ∧ Below w.heap.size w w' := by
  have hN64 : N < 18446744073709551616 := by omega
  have hneg : ¬ (N : Int) < 0 := by omega
  go_enter Try.func49, Try.ntmps49
  go_wp2
  go_loopw [3, 4] (fun t v wr => ∃ (f m : Nat) (back : List UInt8), f + back.length = 19 ∧ m < 18446744073709551616 ∧ Hid (m < 10 ^ (f + 1)) ∧ t = .int .u64 m ∧ Hid (digs f m ++ back.reverse = digs 19 N) ∧ Own w.heap.size wr v back ∧ Below w.heap.size w wr) (fun t _ _ => (intOf t).toNat)
  case atStart => exact ⟨19, N, [], rfl, hN64, (by show N < 10 ^ 20; omega), rfl, (by show _ = _; simp), Own.nil _ _, Below.refl _ _⟩
  case round =>
    obtain ⟨f, m, back, hf, hm64, hm, rfl, hsh, hown, hbel⟩ := hrel
    have hsz := hbel.size
    by_cases hb : 10 ≤ m
    · obtain ⟨f', rfl, h1', h2', h3'⟩ := digs_step hb hm.out hf hsh.out
      have H1 : Hid (f' + (back ++ [ub (48 + m % 10)]).length = 19) := h1'
      have H2 : Hid (m / 10 < 10 ^ (f' + 1)) := h2'
      have H3 : Hid (digs f' (m / 10) ++ (back ++ [ub (48 + m % 10)]).reverse = digs 19 N) := h3'
      clear h1' h2' h3' hm hsh
      go_wp2_with (at_builtin; refine app1n (.tmp 15) (.tmp 19) _ (48 + m % 10) w.heap.size _ back rfl rfl rfl rfl hown (by omega) (by rw [dig_at (m % 10) (by omega)]; omega) (by omega) hsz ?_)
      intro v' w1 hown' hbel'
      have hb1 := hbel.trans hbel'
      clear hown hbel hbel'
      go_wp2
      go_roundw
      case rel => exact ⟨f', m / 10, _, H1, by omega, H2, by go_num, H3, hown', hb1⟩
      case measure => simp [intOf]; omega
    · have HS : Hid ((back ++ [ub (48 + m % 10)]).reverse = digs 19 N) := by
        show _ = _
        rw [← hsh.out, digs_small f m (by omega)]
        simp
      clear hsh hm
      go_wp2_with (at_builtin; refine app1n (.tmp 23) (.tmp 26) _ (48 + m % 10) w.heap.size _ back rfl rfl rfl rfl hown (by omega) (dig_at m (by omega) _) (by omega) hsz ?_)
      intro v' w1 hown' hbel'
      have hb1 := hbel.trans hbel'
      clear hown hbel hbel'
      have hlb : (back ++ [ub (48 + m % 10)]).length ≤ 20 := by simp; omega
      obtain ⟨B, hB⟩ : ∃ B, B = back ++ [ub (48 + m % 10)] := ⟨_, rfl⟩
      rw [← hB] at hown'
      have HB : Hid (B.reverse = digs 19 N) := by show _ = _; rw [hB, ← HS.out]
      have hBl : 1 ≤ B.length ∧ B.length ≤ 21 := by rw [hB]; simp at hlb ⊢; omega
      clear hB HS hlb
      obtain ⟨a1, cap1, rfl, hle, hmx, hrow⟩ := hown'.row
      rcases hrow with h0 | ⟨b, off, rfl, hc⟩
      · exfalso; rw [h0] at hBl; simp at hBl
      have HROW : Hid (Row w1 (some ⟨b, off, none⟩) B) := .inr ⟨b, off, rfl, hc⟩
      clear hc hown'
      go_wp2
      go_loopw [5, 6] (fun v t wr => ∃ (k : Nat) (out : List UInt8), k ≤ B.length ∧ t = .int .i64 ((k : Int) - 1) ∧ out.length + k = B.length ∧ Hid (out = (B.drop k).reverse) ∧ Own w1.heap.size wr v out ∧ Below w1.heap.size w1 wr)
        (fun _ t _ => (intOf t + 1).toNat)
      case atStart => exact ⟨B.length, [], Nat.le_refl _, by go_num, by simp, (by show _ = _; simp), Own.nil _ _, Below.refl _ _⟩
      case round =>
        obtain ⟨k, out, hk, rfl, hlk, hout, hown, hbel⟩ := hrel
        have hsz2 := hbel.size
        cases k with
        | zero =>
          obtain ⟨a2, cap2, rfl, hle2, hmx2, hrow2⟩ := hown.row
          have hcs := conv_row hrow2 cap2
          have HO : Hid (out = digs 19 N) := by show _ = _; rw [hout.out, ← HB.out]; rfl
          clear hown hrow2 hout
          go_wp2
          go_ret
          exact ⟨by rw [← HO.out]; rfl, hb1.trans (hbel.mono hb1.size)⟩
        | succ k =>
          obtain ⟨c, hcn⟩ : ∃ c, c = (B.getD k 0).toNat := ⟨_, rfl⟩
          have hc256 : c < 256 := by rw [hcn]; exact UInt8.toNat_lt _
          have hcell : wr.cell? ⟨b, off + k, none⟩ = some (.int .u8 (c : Int)) := by
            rcases HROW.out.below hbel with h0 | ⟨b', off', e, hc⟩
            · exfalso; rw [h0] at hBl; simp at hBl
            · cases e
              rw [hcn]; exact hc k (by omega)
          have HO : Hid (out ++ [ub c] = (B.drop k).reverse) := by
            show _ = _
            rw [hout.out, ← drop_reverse B k (by omega), hcn]
            congr 2
            apply UInt8.toNat_inj.1
            rw [ub_toNat _ (UInt8.toNat_lt _)]
          clear hcn hout
          go_wp2_with (at_builtin; refine app1n (.tmp 40) (.tmp 45) _ c w1.heap.size _ out rfl rfl rfl rfl hown hc256 rfl (by omega) hsz2 ?_)
          intro v' w2 hown' hbel'
          have hb2 := hbel.trans hbel'
          clear hown hbel hbel' hcell
          go_wp2
          go_roundw
          case rel => exact ⟨k, _, by omega, by go_num, by simp; omega, HO, hown', hb2⟩
          case measure => simp [intOf]

set_option maxRecDepth 100000 in
set_option maxHeartbeats 800000 in
theorem dec_neg (n : Int) (N : Nat) (w : World) (hneg : n < 0) (h2 : -9223372036854775808 ≤ n) (hN : (N : Int) = -n) :
    Calls Try.prog 49 #[.int .i64 n] w fun e w' => e = .returned (.string ⟨(ub 45 :: digs 19 N).toArray⟩) ∧ Below w.heap.size w w' := by
  have hN64 : N < 18446744073709551616 := by omega
  have hw : IntKind.u64.wrap (-IntKind.u64.wrap n) = (N : Int) := by rw [IntKind.wrap_u64, IntKind.wrap_u64]; omega
  clear hN
  go_enter Try.func49, Try.ntmps49
  go_wp2
  go_loopw [3, 4] (fun t v wr => ∃ (f m : Nat) (back : List UInt8), f + back.length = 19 ∧ m < 18446744073709551616 ∧ Hid (m < 10 ^ (f + 1)) ∧ t = .int .u64 m ∧ Hid (digs f m ++ back.reverse = digs 19 N) ∧ Own w.heap.size wr v back ∧ Below w.heap.size w wr) (fun t _ _ => (intOf t).toNat)
  case atStart => exact ⟨19, N, [], rfl, hN64, (by show N < 10 ^ 20; omega), rfl, (by show _ = _; simp), Own.nil _ _, Below.refl _ _⟩
  case round =>
    obtain ⟨f, m, back, hf, hm64, hm, rfl, hsh, hown, hbel⟩ := hrel
    have hsz := hbel.size
    by_cases hb : 10 ≤ m
    · obtain ⟨f', rfl, h1', h2', h3'⟩ := digs_step hb hm.out hf hsh.out
      have H1 : Hid (f' + (back ++ [ub (48 + m % 10)]).length = 19) := h1'
      have H2 : Hid (m / 10 < 10 ^ (f' + 1)) := h2'
      have H3 : Hid (digs f' (m / 10) ++ (back ++ [ub (48 + m % 10)]).reverse = digs 19 N) := h3'
      clear h1' h2' h3' hm hsh
      go_wp2_with (at_builtin; refine app1n (.tmp 15) (.tmp 19) _ (48 + m % 10) w.heap.size _ back rfl rfl rfl rfl hown (by omega) (by rw [dig_at (m % 10) (by omega)]; omega) (by omega) hsz ?_)
      intro v' w1 hown' hbel'
      have hb1 := hbel.trans hbel'
      clear hown hbel hbel'
      go_wp2
      go_roundw
      case rel => exact ⟨f', m / 10, _, H1, by omega, H2, by go_num, H3, hown', hb1⟩
      case measure => simp [intOf]; omega
    · have HS : Hid ((back ++ [ub (48 + m % 10)]).reverse = digs 19 N) := by
        show _ = _
        rw [← hsh.out, digs_small f m (by omega)]
        simp
      clear hsh hm
      go_wp2_with (at_builtin; refine app1n (.tmp 23) (.tmp 26) _ (48 + m % 10) w.heap.size _ back rfl rfl rfl rfl hown (by omega) (dig_at m (by omega) _) (by omega) hsz ?_)
      intro v' w1 hown' hbel'
      have hb1 := hbel.trans hbel'
      clear hown hbel hbel'
      have hlb : (back ++ [ub (48 + m % 10)]).length ≤ 20 := by simp; omega
      have hsz1 := hb1.size
      go_wp2_with (at_builtin; refine app1n (.tmp 30) (.tmp 31) _ 45 w.heap.size _ (back ++ [ub (48 + m % 10)]) rfl rfl rfl rfl hown' (by omega) rfl (by omega) hsz1 ?_)
      clear hown'
      intro v' w1 hown' hbel'
      have hb2 := hb1.trans hbel'
      clear hb1 hbel' hsz1
      have hb1 := hb2
      clear hb2
      obtain ⟨B, hB⟩ : ∃ B, B = back ++ [ub (48 + m % 10), ub 45] := ⟨_, rfl⟩
      rw [← hB] at hown'
      have HB : Hid (B.reverse = ub 45 :: digs 19 N) := by show _ = _; rw [hB, ← HS.out]; simp
      have hBl : 1 ≤ B.length ∧ B.length ≤ 21 := by rw [hB]; simp at hlb ⊢; omega
      clear hB HS hlb
      obtain ⟨a1, cap1, rfl, hle, hmx, hrow⟩ := hown'.row
      rcases hrow with h0 | ⟨b, off, rfl, hc⟩
      · exfalso; rw [h0] at hBl; simp at hBl
      have HROW : Hid (Row w1 (some ⟨b, off, none⟩) B) := .inr ⟨b, off, rfl, hc⟩
      clear hc hown'
      go_wp2
      go_loopw [5, 6] (fun v t wr => ∃ (k : Nat) (out : List UInt8), k ≤ B.length ∧ t = .int .i64 ((k : Int) - 1) ∧ out.length + k = B.length ∧ Hid (out = (B.drop k).reverse) ∧ Own w1.heap.size wr v out ∧ Below w1.heap.size w1 wr)
        (fun _ t _ => (intOf t + 1).toNat)
      case atStart => exact ⟨B.length, [], Nat.le_refl _, by go_num, by simp, (by show _ = _; simp), Own.nil _ _, Below.refl _ _⟩
      case round =>
        obtain ⟨k, out, hk, rfl, hlk, hout, hown, hbel⟩ := hrel
        have hsz2 := hbel.size
        cases k with
        | zero =>
          obtain ⟨a2, cap2, rfl, hle2, hmx2, hrow2⟩ := hown.row
          have hcs := conv_row hrow2 cap2
          have HO : Hid (out = ub 45 :: digs 19 N) := by show _ = _; rw [hout.out, ← HB.out]; rfl
          clear hown hrow2 hout
          go_wp2
          go_ret
          exact ⟨by rw [← HO.out]; rfl, hb1.trans (hbel.mono hb1.size)⟩
        | succ k =>
          obtain ⟨c, hcn⟩ : ∃ c, c = (B.getD k 0).toNat := ⟨_, rfl⟩
          have hc256 : c < 256 := by rw [hcn]; exact UInt8.toNat_lt _
          have hcell : wr.cell? ⟨b, off + k, none⟩ = some (.int .u8 (c : Int)) := by
            rcases HROW.out.below hbel with h0 | ⟨b', off', e, hc⟩
            · exfalso; rw [h0] at hBl; simp at hBl
            · cases e
              rw [hcn]; exact hc k (by omega)
          have HO : Hid (out ++ [ub c] = (B.drop k).reverse) := by
            show _ = _
            rw [hout.out, ← drop_reverse B k (by omega), hcn]
            congr 2
            apply UInt8.toNat_inj.1
            rw [ub_toNat _ (UInt8.toNat_lt _)]
          clear hcn hout
          go_wp2_with (at_builtin; refine app1n (.tmp 40) (.tmp 45) _ c w1.heap.size _ out rfl rfl rfl rfl hown hc256 rfl (by omega) hsz2 ?_)
          intro v' w2 hown' hbel'
          have hb2 := hbel.trans hbel'
          clear hown hbel hbel' hcell
          go_wp2
          go_roundw
          case rel => exact ⟨k, _, by omega, by go_num, by simp; omega, HO, hown', hb2⟩
          case measure => simp [intOf]

end Go.Proofs.Ythemfblckliclaa
