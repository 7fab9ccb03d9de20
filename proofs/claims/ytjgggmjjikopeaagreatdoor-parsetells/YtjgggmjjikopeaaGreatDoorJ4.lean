/- J -/
import Derived.Test.YtjgggmjjikopeaaGreatDoorJ3
import Derived.Deep.RegionHeld3
import Derived.Deep.AppendLies
import Derived.Deep.DrawnRows
import Derived.Lib.Strings
set_option linter.unusedVariables false
set_option maxRecDepth 100000
set_option maxHeartbeats 6400000
open Go.RowKit
namespace Go.Proofs.YtjgggmjjikopeaaGreatDoor
def ZF : Nat -> Nat -> List UInt8
 | 0, n => [ub (48 + n % 10)]
 | f + 1, n => if n < 10 then [ub (48 + n % 10)] else ZF f (n / 10) ++ [ub (48 + n % 10)]
theorem Vu (f n : Nat) (h : n < 10) : ZF f n = [ub (48 + n % 10)] := by
 cases f with
 | zero => rfl
 | succ f => simp [ZF, h]
theorem zaR (f n : Nat) (h : 10 <= n) : ZF (f + 1) n = ZF f (n / 10) ++ [ub (48 + n % 10)] := by
 simp [ZF, show ¬ n < 10 by omega]
def YA (n : Int) : List UInt8 := if n < 0 then ub 45 :: ZF 19 n.natAbs else ZF 19 n.natAbs
theorem zew : ∀ j : Fin 16, (({ data := #[48, 49, 50, 51, 52, 53, 54, 55, 56, 57, 97, 98, 99, 100, 101, 102] } : ByteArray)[j.val]'(j.isLt)).toNat = if j.val < 10 then 48 + j.val else 87 + j.val := by decide +kernel
theorem qC (j : Nat) (h : j < 10) (h' : j < (({ data := #[48, 49, 50, 51, 52, 53, 54, 55, 56, 57, 97, 98, 99, 100, 101, 102] } : ByteArray)).size) : ((({ data := #[48, 49, 50, 51, 52, 53, 54, 55, 56, 57, 97, 98, 99, 100, 101, 102] } : ByteArray)[j]'h').toNat : Int) = ((48 + j % 10 : Nat) : Int) := by
 have := zew ⟨j, by omega⟩
 simp only [h, if_true] at this
 rw [this]
 omega
theorem jF {N f m : Nat} {back : List UInt8} (hb : 10 <= m) (hm : m < 10 ^ (f + 1)) (hf : f + back.length = 19) (h : ZF f m ++ back.reverse = ZF 19 N) :
  ∃ f', f = f' + 1 /\ f' + (back ++ [ub (48 + m % 10)]).length = 19 /\ m / 10 < 10 ^ (f' + 1) /\ ZF f' (m / 10) ++ (back ++ [ub (48 + m % 10)]).reverse = ZF 19 N := by
 cases f with
 | zero => simp at hm; omega
 | succ f =>
  refine ⟨f, rfl, by simp; omega, ?_, ?_⟩
  ·rw [Nat.div_lt_iff_lt_mul (by omega)]; rwa [Nat.pow_succ] at hm
  ·rw [<- h, zaR f m hb]; simp
theorem V2 (B : List UInt8) (k : Nat) (h : k < B.length) : (B.drop (k + 1)).reverse ++ [B.getD k 0] = (B.drop k).reverse := by
 rw [List.drop_eq_getElem_cons h, List.reverse_cons]
 simp [List.getD, yD h]
theorem zfM (N : Nat) (w : World) (h1 : N <= 9223372036854775807) :
  Calls Tryz.prog 198 #[.int .i64 (N : Int)] w fun e w' => e = .returned (.string ⟨(ZF 19 N).toArray⟩) /\ Below w.heap.size w w' := by
 have hN64 : N < 18446744073709551616 := by omega
 have hneg : ¬ (N : Int) < 0 := by omega
 go_enter Tryz.func198, Tryz.ntmps198
 go_wp2
 go_loopw [3, 4] (fun t v wr => ∃ (f m : Nat) (back : List UInt8), f + back.length = 19 /\ m < 18446744073709551616 /\ Hid (m < 10 ^ (f + 1)) /\ t = .int .u64 m /\ Hid (ZF f m ++ back.reverse = ZF 19 N) /\ Own w.heap.size wr v back /\ Below w.heap.size w wr) (fun t _ _ => (intOf t).toNat)
 case atStart => exact ⟨19, N, [], rfl, hN64, (by show N < 10 ^ 20; omega), rfl, (by show _ = _; simp), Own.nil _ _, Below.refl _ _⟩
 case round =>
  obtain ⟨f, m, back, hf, hm64, hm, rfl, hsh, hown, hbel⟩ := hrel
  have hsz := hbel.size
  by_cases hb : 10 <= m
  ·obtain ⟨f', rfl, h1', h2', h3'⟩ := jF hb hm.out hf hsh.out
   have H1 : Hid (f' + (back ++ [ub (48 + m % 10)]).length = 19) := h1'
   have H2 : Hid (m / 10 < 10 ^ (f' + 1)) := h2'
   have H3 : Hid (ZF f' (m / 10) ++ (back ++ [ub (48 + m % 10)]).reverse = ZF 19 N) := h3'
   clear h1' h2' h3' hm hsh
   go_wp2_with (at_builtin; refine JN (.tmp 15) (.tmp 19) _ (48 + m % 10) w.heap.size _ back rfl rfl rfl rfl hown (by omega) (by rw [qC (m % 10) (by omega)]; omega) (by omega) hsz ?_)
   intro v' w1 hown' hbel'
   have hb1 := hbel.trans hbel'
   clear hown hbel hbel'
   go_wp2
   go_roundw
   case rel => exact ⟨f', m / 10, _, H1, by omega, H2, by go_num, H3, hown', hb1⟩
   case measure => simp [intOf]; omega
  ·have HS : Hid ((back ++ [ub (48 + m % 10)]).reverse = ZF 19 N) := by
    show _ = _
    rw [<- hsh.out, Vu f m (by omega)]
    simp
   clear hsh hm
   go_wp2_with (at_builtin; refine JN (.tmp 23) (.tmp 26) _ (48 + m % 10) w.heap.size _ back rfl rfl rfl rfl hown (by omega) (qC m (by omega) _) (by omega) hsz ?_)
   intro v' w1 hown' hbel'
   have hb1 := hbel.trans hbel'
   clear hown hbel hbel'
   have hlb : (back ++ [ub (48 + m % 10)]).length <= 20 := by simp; omega
   obtain ⟨B, hB⟩ : ∃ B, B = back ++ [ub (48 + m % 10)] := ⟨_, rfl⟩
   rw [<- hB] at hown'
   have HB : Hid (B.reverse = ZF 19 N) := by show _ = _; rw [hB, <- HS.out]
   have hBl : 1 <= B.length /\ B.length <= 21 := by rw [hB]; simp at hlb ⊢; omega
   clear hB HS hlb
   obtain ⟨a1, cap1, rfl, hle, hmx, hrow⟩ := hown'.row
   rcases hrow with h0 | ⟨b, off, rfl, hc⟩
   ·exfalso; rw [h0] at hBl; simp at hBl
   have HROW : Hid (Row w1 (some ⟨b, off, none⟩) B) := .inr ⟨b, off, rfl, hc⟩
   clear hc hown'
   go_wp2
   go_loopw [5, 6] (fun v t wr => ∃ (k : Nat) (out : List UInt8), k <= B.length /\ t = .int .i64 ((k : Int) - 1) /\ out.length + k = B.length /\ Hid (out = (B.drop k).reverse) /\ Own w1.heap.size wr v out /\ Below w1.heap.size w1 wr)
    (fun _ t _ => (intOf t + 1).toNat)
   case atStart => exact ⟨B.length, [], zj _, by go_num, by simp, (by show _ = _; simp), Own.nil _ _, Below.refl _ _⟩
   case round =>
    obtain ⟨k, out, hk, rfl, hlk, hout, hown, hbel⟩ := hrel
    have hsz2 := hbel.size
    cases k with
    | zero =>
     obtain ⟨a2, cap2, rfl, hle2, hmx2, hrow2⟩ := hown.row
     have hcs := KI hrow2 cap2
     have HO : Hid (out = ZF 19 N) := by show _ = _; rw [hout.out, <- HB.out]; rfl
     clear hown hrow2 hout
     go_wp2
     go_ret
     exact ⟨by rw [<- HO.out]; rfl, hb1.trans (hbel.mono hb1.size)⟩
    | succ k =>
     obtain ⟨c, hcn⟩ : ∃ c, c = (B.getD k 0).toNat := ⟨_, rfl⟩
     have hc256 : c < 256 := by rw [hcn]; exact UInt8.toNat_lt _
     have hcell : wr.cell? ⟨b, off + k, none⟩ = some (.int .u8 (c : Int)) := by
      rcases HROW.out.below hbel with h0 | ⟨b', off', e, hc⟩
      ·exfalso; rw [h0] at hBl; simp at hBl
      ·cases e
       rw [hcn]; exact hc k (by omega)
     have HO : Hid (out ++ [ub c] = (B.drop k).reverse) := by
      show _ = _
      rw [hout.out, <- V2 B k (by omega), hcn]
      congr 2
      apply UInt8.toNat_inj.1
      rw [Xe _ (UInt8.toNat_lt _)]
     clear hcn hout
     go_wp2_with (at_builtin; refine JN (.tmp 40) (.tmp 45) _ c w1.heap.size _ out rfl rfl rfl rfl hown hc256 rfl (by omega) hsz2 ?_)
     intro v' w2 hown' hbel'
     have hb2 := hbel.trans hbel'
     clear hown hbel hbel' hcell
     go_wp2
     go_roundw
     case rel => exact ⟨k, _, by omega, by go_num, by simp; omega, HO, hown', hb2⟩
     case measure => simp [intOf]
theorem zfN (n : Int) (N : Nat) (w : World) (hneg : n < 0) (h2 : -9223372036854775808 <= n) (hN : (N : Int) = -n) :
  Calls Tryz.prog 198 #[.int .i64 n] w fun e w' => e = .returned (.string ⟨(ub 45 :: ZF 19 N).toArray⟩) /\ Below w.heap.size w w' := by
 have hN64 : N < 18446744073709551616 := by omega
 have hw : IntKind.u64.wrap (-IntKind.u64.wrap n) = (N : Int) := by rw [IntKind.wrap_u64, IntKind.wrap_u64]; omega
 clear hN
 go_enter Tryz.func198, Tryz.ntmps198
 go_wp2
 go_loopw [3, 4] (fun t v wr => ∃ (f m : Nat) (back : List UInt8), f + back.length = 19 /\ m < 18446744073709551616 /\ Hid (m < 10 ^ (f + 1)) /\ t = .int .u64 m /\ Hid (ZF f m ++ back.reverse = ZF 19 N) /\ Own w.heap.size wr v back /\ Below w.heap.size w wr) (fun t _ _ => (intOf t).toNat)
 case atStart => exact ⟨19, N, [], rfl, hN64, (by show N < 10 ^ 20; omega), rfl, (by show _ = _; simp), Own.nil _ _, Below.refl _ _⟩
 case round =>
  obtain ⟨f, m, back, hf, hm64, hm, rfl, hsh, hown, hbel⟩ := hrel
  have hsz := hbel.size
  by_cases hb : 10 <= m
  ·obtain ⟨f', rfl, h1', h2', h3'⟩ := jF hb hm.out hf hsh.out
   have H1 : Hid (f' + (back ++ [ub (48 + m % 10)]).length = 19) := h1'
   have H2 : Hid (m / 10 < 10 ^ (f' + 1)) := h2'
   have H3 : Hid (ZF f' (m / 10) ++ (back ++ [ub (48 + m % 10)]).reverse = ZF 19 N) := h3'
   clear h1' h2' h3' hm hsh
   go_wp2_with (at_builtin; refine JN (.tmp 15) (.tmp 19) _ (48 + m % 10) w.heap.size _ back rfl rfl rfl rfl hown (by omega) (by rw [qC (m % 10) (by omega)]; omega) (by omega) hsz ?_)
   intro v' w1 hown' hbel'
   have hb1 := hbel.trans hbel'
   clear hown hbel hbel'
   go_wp2
   go_roundw
   case rel => exact ⟨f', m / 10, _, H1, by omega, H2, by go_num, H3, hown', hb1⟩
   case measure => simp [intOf]; omega
  ·have HS : Hid ((back ++ [ub (48 + m % 10)]).reverse = ZF 19 N) := by
    show _ = _
    rw [<- hsh.out, Vu f m (by omega)]
    simp
   clear hsh hm
   go_wp2_with (at_builtin; refine JN (.tmp 23) (.tmp 26) _ (48 + m % 10) w.heap.size _ back rfl rfl rfl rfl hown (by omega) (qC m (by omega) _) (by omega) hsz ?_)
   intro v' w1 hown' hbel'
   have hb1 := hbel.trans hbel'
   clear hown hbel hbel'
   have hlb : (back ++ [ub (48 + m % 10)]).length <= 20 := by simp; omega
   have hsz1 := hb1.size
   go_wp2_with (at_builtin; refine JN (.tmp 30) (.tmp 31) _ 45 w.heap.size _ (back ++ [ub (48 + m % 10)]) rfl rfl rfl rfl hown' (by omega) rfl (by omega) hsz1 ?_)
   clear hown'
   intro v' w1 hown' hbel'
   have hb2 := hb1.trans hbel'
   clear hb1 hbel' hsz1
   have hb1 := hb2
   clear hb2
   obtain ⟨B, hB⟩ : ∃ B, B = back ++ [ub (48 + m % 10), ub 45] := ⟨_, rfl⟩
   rw [<- hB] at hown'
   have HB : Hid (B.reverse = ub 45 :: ZF 19 N) := by show _ = _; rw [hB, <- HS.out]; simp
   have hBl : 1 <= B.length /\ B.length <= 21 := by rw [hB]; simp at hlb ⊢; omega
   clear hB HS hlb
   obtain ⟨a1, cap1, rfl, hle, hmx, hrow⟩ := hown'.row
   rcases hrow with h0 | ⟨b, off, rfl, hc⟩
   ·exfalso; rw [h0] at hBl; simp at hBl
   have HROW : Hid (Row w1 (some ⟨b, off, none⟩) B) := .inr ⟨b, off, rfl, hc⟩
   clear hc hown'
   go_wp2
   go_loopw [5, 6] (fun v t wr => ∃ (k : Nat) (out : List UInt8), k <= B.length /\ t = .int .i64 ((k : Int) - 1) /\ out.length + k = B.length /\ Hid (out = (B.drop k).reverse) /\ Own w1.heap.size wr v out /\ Below w1.heap.size w1 wr)
    (fun _ t _ => (intOf t + 1).toNat)
   case atStart => exact ⟨B.length, [], zj _, by go_num, by simp, (by show _ = _; simp), Own.nil _ _, Below.refl _ _⟩
   case round =>
    obtain ⟨k, out, hk, rfl, hlk, hout, hown, hbel⟩ := hrel
    have hsz2 := hbel.size
    cases k with
    | zero =>
     obtain ⟨a2, cap2, rfl, hle2, hmx2, hrow2⟩ := hown.row
     have hcs := KI hrow2 cap2
     have HO : Hid (out = ub 45 :: ZF 19 N) := by show _ = _; rw [hout.out, <- HB.out]; rfl
     clear hown hrow2 hout
     go_wp2
     go_ret
     exact ⟨by rw [<- HO.out]; rfl, hb1.trans (hbel.mono hb1.size)⟩
    | succ k =>
     obtain ⟨c, hcn⟩ : ∃ c, c = (B.getD k 0).toNat := ⟨_, rfl⟩
     have hc256 : c < 256 := by rw [hcn]; exact UInt8.toNat_lt _
     have hcell : wr.cell? ⟨b, off + k, none⟩ = some (.int .u8 (c : Int)) := by
      rcases HROW.out.below hbel with h0 | ⟨b', off', e, hc⟩
      ·exfalso; rw [h0] at hBl; simp at hBl
      ·cases e
       rw [hcn]; exact hc k (by omega)
     have HO : Hid (out ++ [ub c] = (B.drop k).reverse) := by
      show _ = _
      rw [hout.out, <- V2 B k (by omega), hcn]
      congr 2
      apply UInt8.toNat_inj.1
      rw [Xe _ (UInt8.toNat_lt _)]
     clear hcn hout
     go_wp2_with (at_builtin; refine JN (.tmp 40) (.tmp 45) _ c w1.heap.size _ out rfl rfl rfl rfl hown hc256 rfl (by omega) hsz2 ?_)
     intro v' w2 hown' hbel'
     have hb2 := hbel.trans hbel'
     clear hown hbel hbel' hcell
     go_wp2
     go_roundw
     case rel => exact ⟨k, _, by omega, by go_num, by simp; omega, HO, hown', hb2⟩
     case measure => simp [intOf]
theorem zfO (n : Int) (w : World) (h1 : n <= 9223372036854775807) (h2 : -9223372036854775808 <= n) :
  Calls Tryz.prog 198 #[.int .i64 n] w fun e w' => e = .returned (.string ⟨(YA n).toArray⟩) /\ Below w.heap.size w w' := by
 unfold YA
 by_cases h : n < 0
 ·rw [zi h]
  exact zfN n n.natAbs w h h2 (by omega)
 ·rw [ze h]
  obtain ⟨N, rfl⟩ : ∃ N : Nat, n = (N : Int) := ⟨n.natAbs, by omega⟩
  have e : (N : Int).natAbs = N := by omega
  rw [e]
  exact zfM N w (by omega)
def number (bs : List UInt8) : Nat := bs.foldl (fun n b => n * 256 + b.toNat) 0
theorem zcI (bs : List UInt8) (k : Nat) (h : k < bs.length) : bs.take (k + 1) = bs.take k ++ [bs.getD k 0] := by
 rw [List.take_succ_eq_append_getElem h]
 simp [List.getD, yD h]
section
attribute [local go_sem ↓] Go.wp_at_zero Go.wp_at_succ
def hdN (j : Nat) : Nat := if j < 10 then 48 + j else 87 + j
theorem zez (j : Nat) (h : j < 16) : hdN j < 256 := by unfold hdN; split <;> omega
def Z5 : List UInt8 -> List UInt8
 | [] => []
 | b :: l => ub (hdN (b.toNat / 16)) :: ub (hdN (b.toNat % 16)) :: Z5 l
theorem zbG (l : List UInt8) (b : UInt8) : Z5 (l ++ [b]) = Z5 l ++ [ub (hdN (b.toNat / 16)), ub (hdN (b.toNat % 16))] := by
 induction l with
 | nil => rfl
 | cons a l ih => simp [Z5, ih]
theorem qq (l : List UInt8) : (Z5 l).length = 2 * l.length := by
 induction l with
 | nil => rfl
 | cons a l ih => simp [Z5, ih]; omega
theorem zbF (bs : List UInt8) (k : Nat) (h : k < bs.length) : Z5 (bs.take (k + 1)) = Z5 (bs.take k) ++ [ub (hdN ((bs.getD k 0).toNat / 16)), ub (hdN ((bs.getD k 0).toNat % 16))] := by
 rw [zcI bs k h, zbG]
theorem zga (j : Nat) (h : j < 16) (h' : j < (({ data := #[48, 49, 50, 51, 52, 53, 54, 55, 56, 57, 97, 98, 99, 100, 101, 102] } : ByteArray)).size) : ((({ data := #[48, 49, 50, 51, 52, 53, 54, 55, 56, 57, 97, 98, 99, 100, 101, 102] } : ByteArray)[j]'h').toNat : Int) = (hdN j : Int) := by
 have := zew ⟨j, h⟩
 simp only at this
 unfold hdN
 omega
theorem zcK {ops : Array Oper} {o : Oper} {a : Act} {K : Act -> World -> Prop} {Q : Exit -> Act -> World -> Prop} {E : Prop} {w0 : World} (s x : Operand) (z1 z2 : Int) (k1 k2 : Nat) (base : Nat) (v : Value) (out : List UInt8)
  (hgd : o.guard = none) (ho : o.op = .call { callee := .builtin .append, args := #[s, x], argTypes := #[84, 84] })
  (hs : a.eval s = v) (hx : a.eval x = .slice (some ⟨w0.heap.size, 0, none⟩) 2 2) (hown : Own base w0 v out) (hk1 : k1 < 256) (hk2 : k2 < 256) (hz1 : z1 = (k1 : Int)) (hz2 : z2 = (k2 : Int)) (hlen : out.length <= 1099511627776) (hbase : base <= w0.heap.size)
  (h : ∀ g cap w', Own base w' (.slice (some ⟨g, 0, none⟩) (out.length + 2) cap) (out ++ [ub k1, ub k2]) -> Below base w0 w' -> K (a.put o.dst (.slice (some ⟨g, 0, none⟩) (out.length + 2) cap)) w') :
  if Region.wanted o (yielded ops a.tmps) = true then Oper.wp Tryz.prog o a ((w0.alloc (.cells #[.int .u8 z1, .int .u8 z2] 5)).drew) K Q else E := by
 obtain ⟨i0, hi, hz0, hzz1, hzz2⟩ := info_parts Tryz.info5
 subst hz1 hz2
 refine step_append_lies (w := (w0.alloc (.cells #[.int .u8 (k1 : Int), .int .u8 (k2 : Int)] 5)).drew) hgd s x 84 ho base 5 i0 (.int .u8 0) 1 1 Tryz.underlying84 hi hz0 hzz1 hzz2 rfl (by decide) v out.length (out.map B8) hs (World.ownsRow.drew (World.ownsRow.alloc hown _))
  ⟨w0.heap.size, 0, none⟩ 2 2 [.int .u8 (k1 : Int), .int .u8 (k2 : Int)] hx rfl (World.news_of_block (cs := #[.int .u8 (k1 : Int), .int .u8 (k2 : Int)]) (t := 5) (fr := (0, 0)) (heap_alloc_new w0 _)) (by simp [Value.oneCell'])
  (by omega) (by unfold maxLen; omega) (by omega) (by simp; omega) (w0.heap.size + 1) (by simp) ?_
 intro g cap w' h1 h2 _ _
 refine h g cap w' ?_ ?_
 ·have e2 : out.map B8 ++ [.int .u8 (k1 : Int), .int .u8 (k2 : Int)] = (out ++ [ub k1, ub k2]).map B8 := by simp [B8, Xe k1 hk1, Xe k2 hk2]
  rw [e2] at h1
  have e : out.length + 2 = (out ++ [ub k1, ub k2]).length := by simp
  unfold Own
  rw [<- e]
  exact h1
 ·exact (((Below.refl base w0).alloc hbase _).drew).grown h2 (by simp; omega) hown.block
theorem zex (b off cap : Nat) (bs : List UInt8) (w : World) (hc : ∀ j, j < bs.length -> w.cell? ⟨b, off + j, none⟩ = some (.int .u8 ((bs.getD j 0).toNat : Int))) (hmax : bs.length <= 268435456) (hpos : 0 < bs.length) :
  Calls Tryz.prog 176 #[.slice (some ⟨b, off, none⟩) bs.length cap] w fun e w' => e = .returned (.string ⟨(Z5 bs).toArray⟩) /\ Below w.heap.size w w' := by
 have HC : Hid (∀ j, j < bs.length -> w.cell? ⟨b, off + j, none⟩ = some (.int .u8 ((bs.getD j 0).toNat : Int))) := hc
 have hblt : b < w.heap.size := Yn (hc 0 hpos)
 clear hc
 go_enter Tryz.func176, Tryz.ntmps176
 go_wp2
 go_loopw [3, 8] (fun v i wr => ∃ (k : Nat) (out : List UInt8), k <= bs.length /\ i = .int .i64 k /\ out.length = 2 * k /\ Hid (out = Z5 (bs.take k)) /\ Own w.heap.size wr v out /\ Below w.heap.size w wr) (fun _ i _ => bs.length - (intOf i).toNat)
 case atStart => exact ⟨0, [], Vm _, rfl, rfl, rfl, Own.nil _ _, Below.refl _ _⟩
 case round =>
  obtain ⟨k, out, hk, rfl, hol, hout, hown, hbel⟩ := hrel
  have hsz := hbel.size
  have HOL : Hid (out.length = 2 * k) := hol
  have hol2 : out.length <= 1099511627776 := by omega
  clear hol
  by_cases hlt : k < bs.length
  ·obtain ⟨c, hcn⟩ : ∃ c, c = (bs.getD k 0).toNat := ⟨_, rfl⟩
   have hc256 : c < 256 := by rw [hcn]; exact UInt8.toNat_lt _
   have hcell : wr.cell? ⟨b, off + k, none⟩ = some (.int .u8 (c : Int)) := by rw [hbel.cell (by exact hblt), hcn]; exact HC.out k hlt
   have hm15 : bits .and .u8 (c : Int) 15 = (c : Int) % 16 := bits_mask .u8 8 (by decide) wraps_u8 4 (by decide) c (by omega) (by omega)
   have HO : Hid (out ++ [ub (hdN (c / 16)), ub (hdN (c % 16))] = Z5 (bs.take (k + 1))) := by show _ = _; rw [zbF bs k hlt, hout.out, hcn]
   clear hcn hout
   have i1 : (0 : Int) <= (c : Int) / 16 := by omega
   have i2 : (c : Int) / 16 < 16 := by omega
   have i3 : (0 : Int) <= (c : Int) % 16 := by omega
   have i4 : (c : Int) % 16 < 16 := by omega
   go_wp2
   go_region_held3 (fun _ => True) (trivial) ((refine zcK (.tmp 12) (.tmp 19) _ _ (hdN (c / 16)) (hdN (c % 16)) w.heap.size _ out (by rfl) (by rfl) (by rfl) (by rfl) hown (zez _ (by omega)) (zez _ (by omega)) (zga _ (by omega) _) (zga _ (by omega) _) hol2 hsz ?_; intro g cap' w1 hown' hbel'))
   all_goals
    have hb1 := hbel.trans hbel'
    clear hown hbel hbel' hcell
    go_wp2
    go_roundw
    case rel => exact ⟨k + 1, _, by omega, by go_num, by have := HOL.out; simp; omega, HO, hown', hb1⟩
    case measure => simp [intOf]; omega
  ·obtain ⟨a2, cap2, rfl, hle2, hmx2, hrow2⟩ := hown.row
   have hcs := KI hrow2 cap2
   have HO : Hid (out = Z5 bs) := by show _ = _; rw [hout.out, List.take_of_length_le (by omega)]
   clear hown hrow2 hout
   go_wp2
   go_ret
   exact ⟨by rw [<- HO.out]; rfl, hbel⟩
theorem zaJ (a : Option Addr) (cap : Nat) (w : World) :
  Calls Tryz.prog 176 #[.slice a 0 cap] w fun e w' => e = .returned (.string ⟨(Z5 []).toArray⟩) /\ Below w.heap.size w w' := by
 have hcs := jG w none 0
 go_enter Tryz.func176, Tryz.ntmps176
 go_wp2
 refine wp_loop_rounds 1 ?_
 rw [rounds_succ]
 go_wp2
 go_ret
 exact ⟨rfl, Below.refl _ _⟩
theorem zfH (a : Option Addr) (cap : Nat) (bs : List UInt8) (w : World) (hrow : Row w a bs) (hmax : bs.length <= 268435456) :
  Calls Tryz.prog 176 #[.slice a bs.length cap] w fun e w' => e = .returned (.string ⟨(Z5 bs).toArray⟩) /\ Below w.heap.size w w' := by
 rcases hrow with rfl | ⟨b, off, rfl, hc⟩
 ·exact zaJ a cap w
 ·rcases Nat.eq_zero_or_pos bs.length with h | h
  ·have : bs = [] := List.eq_nil_of_length_eq_zero h
   subst this
   exact zaJ _ cap w
  ·exact zex b off cap bs w hc hmax h
end
def yY : Nat -> Nat -> List UInt8
 | 0, _ => []
 | s + 1, n => ub (n / 256 ^ s % 256) :: yY s n
theorem Yd (s n : Nat) : (yY s n).length = s := by
 induction s with
 | zero => rfl
 | succ s ih => simp [yY, ih]
theorem zg0 (n k : Nat) : (n : Int) / 2 ^ (8 * k) = ((n / 256 ^ k : Nat) : Int) := by
 rw [Int.natCast_ediv, Int.natCast_pow, Int.pow_mul]
 rfl
theorem zgZ (n k : Nat) : (n : Int) / 2 ^ (8 * k) % 256 = ((n / 256 ^ k % 256 : Nat) : Int) := by
 rw [zg0]; omega
theorem zeQ (n s : Nat) (hn : n < 18446744073709551616) (h1 : 1 <= s) (hs : s <= 8) (hfit : n / 256 ^ s = 0) (w : World) :
  Calls Tryz.prog 175 #[.int .u64 n, .int .i64 s] w fun e w' => ∃ v, e = .returned (.tuple #[v, .int .i64 0]) /\ Own w.heap.size w' v (yY s n) /\ Below w.heap.size w w' := by
 have ht : ((n : Int) / 2 ^ (8 * s) != 0) = false := by rw [zg0, hfit]; rfl
 clear hfit
 go_enter Tryz.func175, Tryz.ntmps175
 go_wp2
 go_loopw [1, 6] (fun t v wr => ∃ (k : Nat) (out : List UInt8), k <= s /\ t = .int .i64 (k : Int) /\ out.length + k = s /\ Hid (out ++ yY k n = yY s n) /\ Own w.heap.size wr v out /\ Below w.heap.size w wr)
  (fun t _ _ => (intOf t).toNat)
 case atStart => exact ⟨s, [], zj _, rfl, by simp, rfl, Own.nil _ _, Below.refl _ _⟩
 case round =>
  obtain ⟨k, out, hk, rfl, hlk, hsh, hown, hbel⟩ := hrel
  have hsz := hbel.size
  cases k with
  | zero =>
   go_wp2
   go_ret2
   exact ⟨_, rfl, by have := hsh.out; simp [yY] at this; rw [<- this]; exact hown, hbel⟩
  | succ k =>
   have H3 : Hid ((out ++ [ub (n / 256 ^ k % 256)]) ++ yY k n = yY s n) := by have := hsh.out; simp only [yY] at this; simpa [Hid] using this
   clear hsh
   go_wp2_with (at_builtin; refine JN (.tmp 24) (.tmp 30) _ (n / 256 ^ k % 256) w.heap.size _ out rfl rfl rfl rfl hown (by omega) (zgZ n k) (by omega) hsz ?_)
   intro v' w1 hown' hbel'
   have hb1 := hbel.trans hbel'
   clear hown hbel hbel'
   go_wp2
   go_roundw
   case rel => exact ⟨k, _, by omega, by go_num, by simp; omega, H3, hown', hb1⟩
   case measure => simp [intOf]
theorem Xo (l : List UInt8) : (⟨l.toArray⟩ : ByteArray).size = l.length := by rw [<- zc]; rfl
def zw (l : List UInt8) : List UInt8 := l.takeWhile (· != 46)
def zu (l : List UInt8) : List UInt8 := (l.dropWhile (· != 46)).drop 1
theorem KG : ∀ l : List UInt8, Lib.indexByte l 46 = -1 -> zw l = l /\ zu l = []
 | [], _ => ⟨rfl, rfl⟩
 | b :: l, h => by
  simp only [Lib.indexByte] at h
  by_cases hb : (b == 46) = true
  ·rw [zi hb] at h; omega
  ·rw [ze hb] at h
   have hb' : (b != 46) = true := by simpa using hb
   have ge := Lib.indexByte_ge l 46
   have h2 : Lib.indexByte l 46 = -1 := by
    by_cases h3 : (Lib.indexByte l 46 == -1) = true
    ·simpa using h3
    ·rw [ze h3] at h; omega
   obtain ⟨i1, i2⟩ := KG l h2
   refine ⟨?_, ?_⟩
   ·simp only [zw, List.takeWhile_cons, hb', if_true]; exact congrArg _ i1
   ·simp only [zu, List.dropWhile_cons, hb', if_true]; exact i2
theorem KF : ∀ l : List UInt8, 0 <= Lib.indexByte l 46 -> Lib.indexByte l 46 = ((zw l).length : Int) /\ l = zw l ++ 46 :: zu l
 | [], h => by simp [Lib.indexByte] at h
 | b :: l, h => by
  simp only [Lib.indexByte] at h ⊢
  by_cases hb : (b == 46) = true
  ·have hb2 : b = 46 := by simpa using hb
   subst hb2
   refine ⟨rfl, rfl⟩
  ·rw [ze hb] at h ⊢
   have hb' : (b != 46) = true := by simpa using hb
   by_cases h3 : (Lib.indexByte l 46 == -1) = true
   ·rw [zi h3] at h; omega
   ·rw [ze h3] at h ⊢
    have ge := Lib.indexByte_ge l 46
    have h4 : Lib.indexByte l 46 ≠ -1 := by simpa using h3
    obtain ⟨i1, i2⟩ := KF l (by omega)
    have e1 : zw (b :: l) = b :: zw l := by simp [zw, hb']
    have e2 : zu (b :: l) = zu l := by simp [zu, hb']
    rw [e1, e2, i1]
    exact ⟨by simp, by rw [List.cons_append, <- i2]⟩
theorem Xt (l : List UInt8) (a b : Nat) : (⟨l.toArray⟩ : ByteArray).extract a b = ⟨((l.drop a).take (b - a)).toArray⟩ := by
 have h := Lib.extract_data (⟨l.toArray⟩ : ByteArray) a b
 generalize (⟨l.toArray⟩ : ByteArray).extract a b = x at h ⊢
 obtain ⟨⟨y⟩⟩ := x
 simp at h
 rw [h]

theorem zdh (l : List UInt8) (hd : ∀ j, j < l.length -> 48 <= (l.getD j 0).toNat /\ (l.getD j 0).toNat <= 57) (h0 : (l.getD 0 0).toNat = 48 -> l.length = 1) :
  ∀ k, k < l.length -> ∀ f, k <= f -> ZF f (zn (l.take (k + 1))) = l.take (k + 1) := by
 have last : ∀ (c : UInt8), 48 <= c.toNat -> c.toNat <= 57 -> ub (48 + (c.toNat - 48)) = c := fun c h1 h2 => by
  apply UInt8.toNat_inj.1
  rw [Xe _ (by omega)]
  omega
 have tk : ∀ k, k < l.length -> l.take (k + 1) = l.take k ++ [l.getD k 0] := fun k h => by
  rw [List.take_succ_eq_append_getElem h]
  simp [List.getD, yD h]
 intro k
 induction k with
 | zero =>
  intro h f _
  have hc := hd 0 h
  rw [ZS l 0 h]
  have e : zn (l.take 0) * 10 + ((l.getD 0 0).toNat - 48) = (l.getD 0 0).toNat - 48 := by simp [zn]
  rw [e, Vu f _ (by omega), tk 0 h, Nat.mod_eq_of_lt (by omega), last _ hc.1 hc.2]
  simp
 | succ k ih =>
  intro h f hf
  cases f with
  | zero => omega
  | succ f =>
   have hc := hd (k + 1) h
   have hne : (l.getD 0 0).toNat ≠ 48 := fun e => by have := h0 e; omega
   have hge := jM l (by omega) hd hne k (by omega)
   have hpos : 1 <= 10 ^ k := Nat.pow_pos (by omega)
   rw [ZS l (k + 1) h, zaR f _ (by omega)]
   have e1 : (zn (l.take (k + 1)) * 10 + ((l.getD (k + 1) 0).toNat - 48)) / 10 = zn (l.take (k + 1)) := by omega
   have e2 : (zn (l.take (k + 1)) * 10 + ((l.getD (k + 1) 0).toNat - 48)) % 10 = (l.getD (k + 1) 0).toNat - 48 := by omega
   rw [e1, e2, ih (by omega) f (by omega), last _ hc.1 hc.2, tk (k + 1) h]
theorem qz (l : List UInt8) (h : zO l) : ZF 19 (zn l) = l := by
 have hl : l.length <= 19 := by
  rcases Nat.lt_or_ge 19 l.length with h1 | h1
  ·exact absurd h (zeh l h1)
  ·exact h1
 obtain ⟨h1, h2, h3, h4⟩ := h
 have := zdh l h3 h2 (l.length - 1) (by omega) 19 (by omega)
 rwa [show l.length - 1 + 1 = l.length by omega, List.take_length] at this
