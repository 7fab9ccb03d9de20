/- octet.Hex and the document's own Hex: the digits of bytes. -/
import Derived.Deep.RegionHeld3
import Derived.Deep.AppendLies
import Derived.Deep.DrawnRows
import Derived.Deep.QuietTactic
import Derived.BigQuiet
import Derived.Test.YthemfblckliclaaNumber
namespace Go.Proofs.Ythemfblckliclaa
open Go.RowKit
set_option linter.unusedVariables false
attribute [local go_sem ↓] Go.wp_at_zero Go.wp_at_succ

/-- A digit's sign. -/
def hdN (j : Nat) : Nat := if j < 10 then 48 + j else 87 + j

theorem hdN_lt (j : Nat) (h : j < 16) : hdN j < 256 := by unfold hdN; split <;> omega

/-- The digits of bytes. -/
def hexOf : List UInt8 → List UInt8
  | [] => []
  | b :: l => ub (hdN (b.toNat / 16)) :: ub (hdN (b.toNat % 16)) :: hexOf l

theorem hexOf_snoc (l : List UInt8) (b : UInt8) : hexOf (l ++ [b]) = hexOf l ++ [ub (hdN (b.toNat / 16)), ub (hdN (b.toNat % 16))] := by
  induction l with
  | nil => rfl
  | cons a l ih => simp [hexOf, ih]

theorem hexOf_length (l : List UInt8) : (hexOf l).length = 2 * l.length := by
  induction l with
  | nil => rfl
  | cons a l ih => simp [hexOf, ih]; omega

theorem hexOf_take (bs : List UInt8) (k : Nat) (h : k < bs.length) : hexOf (bs.take (k + 1)) = hexOf (bs.take k) ++ [ub (hdN ((bs.getD k 0).toNat / 16)), ub (hdN ((bs.getD k 0).toNat % 16))] := by
  rw [take_snoc bs k h, hexOf_snoc]

theorem hd_at (j : Nat) (h : j < 16) (h' : j < (({ data := #[48, 49, 50, 51, 52, 53, 54, 55, 56, 57, 97, 98, 99, 100, 101, 102] } : ByteArray)).size) : ((({ data := #[48, 49, 50, 51, 52, 53, 54, 55, 56, 57, 97, 98, 99, 100, 101, 102] } : ByteArray)[j]'h').toNat : Int) = (hdN j : Int) := by
  have := hexdig ⟨j, h⟩
  simp only at this
  unfold hdN
  omega

/-- 'out = append(out, x, y)' as one step of a region that draws its order. -/
theorem step_app2 {ops : Array Oper} {o : Oper} {a : Act} {K : Act → World → Prop} {Q : Exit → Act → World → Prop} {E : Prop} {w0 : World} (s x : Operand) (z1 z2 : Int) (k1 k2 : Nat) (base : Nat) (v : Value) (out : List UInt8)
    (hgd : o.guard = none) (ho : o.op = .call { callee := .builtin .append, args := #[s, x], argTypes := #[58, 58] })
    (hs : a.eval s = v) (hx : a.eval x = .slice (some ⟨w0.heap.size, 0, none⟩) 2 2) (hown : Own base w0 v out) (hk1 : k1 < 256) (hk2 : k2 < 256) (hz1 : z1 = (k1 : Int)) (hz2 : z2 = (k2 : Int)) (hlen : out.length ≤ 1099511627776) (hbase : base ≤ w0.heap.size)
    (h : ∀ g cap w', Own base w' (.slice (some ⟨g, 0, none⟩) (out.length + 2) cap) (out ++ [ub k1, ub k2]) → Below base w0 w' → K (a.put o.dst (.slice (some ⟨g, 0, none⟩) (out.length + 2) cap)) w') :
    if Region.wanted o (yielded ops a.tmps) = true then Oper.wp Try.prog o a ((w0.alloc (.cells #[.int .u8 z1, .int .u8 z2] 5)).drew) K Q else E := by
  obtain ⟨i0, hi, hz0, hzz1, hzz2⟩ := info_parts Try.info5
  subst hz1 hz2
  refine step_append_lies (w := (w0.alloc (.cells #[.int .u8 (k1 : Int), .int .u8 (k2 : Int)] 5)).drew) hgd s x 58 ho base 5 i0 (.int .u8 0) 1 1 Try.underlying58 hi hz0 hzz1 hzz2 rfl (by decide) v out.length (out.map B8) hs (World.ownsRow.drew (World.ownsRow.alloc hown _))
    ⟨w0.heap.size, 0, none⟩ 2 2 [.int .u8 (k1 : Int), .int .u8 (k2 : Int)] hx rfl (World.news_of_block (cs := #[.int .u8 (k1 : Int), .int .u8 (k2 : Int)]) (t := 5) (fr := (0, 0)) (heap_alloc_new w0 _)) (by simp [Value.oneCell'])
    (by omega) (by unfold maxLen; omega) (by omega) (by simp; omega) (w0.heap.size + 1) (by simp) ?_
  intro g cap w' h1 h2 _ _
  refine h g cap w' ?_ ?_
  · have e2 : out.map B8 ++ [.int .u8 (k1 : Int), .int .u8 (k2 : Int)] = (out ++ [ub k1, ub k2]).map B8 := by simp [B8, ub_toNat k1 hk1, ub_toNat k2 hk2]
    rw [e2] at h1
    have e : out.length + 2 = (out ++ [ub k1, ub k2]).length := by simp
    unfold Own
    rw [← e]
    exact h1
  · exact (((Below.refl base w0).alloc hbase _).drew).grown h2 (by simp; omega) hown.block

set_option maxRecDepth 100000 in
set_option maxHeartbeats 1600000 in
theorem hex_full (b off cap : Nat) (bs : List UInt8) (w : World) (hc : ∀ j, j < bs.length → w.cell? ⟨b, off + j, none⟩ = some (.int .u8 ((bs.getD j 0).toNat : Int))) (hmax : bs.length ≤ 268435456) (hpos : 0 < bs.length) :
    Calls Try.prog 53 #[.slice (some ⟨b, off, none⟩) bs.length cap] w fun e w' => e = .returned (.string ⟨(hexOf bs).toArray⟩) ∧ Below w.heap.size w w' := by
  have HC : Hid (∀ j, j < bs.length → w.cell? ⟨b, off + j, none⟩ = some (.int .u8 ((bs.getD j 0).toNat : Int))) := hc
  have hblt : b < w.heap.size := lt_of_cell (hc 0 hpos)
  clear hc
  go_enter Try.func53, Try.ntmps53
  go_wp2
  go_loopw [3, 8] (fun v i wr => ∃ (k : Nat) (out : List UInt8), k ≤ bs.length ∧ i = .int .i64 k ∧ out.length = 2 * k ∧ Hid (out = hexOf (bs.take k)) ∧ Own w.heap.size wr v out ∧ Below w.heap.size w wr) (fun _ i _ => bs.length - (intOf i).toNat)
  case atStart => exact ⟨0, [], Nat.zero_le _, rfl, rfl, rfl, Own.nil _ _, Below.refl _ _⟩
  case round =>
    obtain ⟨k, out, hk, rfl, hol, hout, hown, hbel⟩ := hrel
    have hsz := hbel.size
    have HOL : Hid (out.length = 2 * k) := hol
    have hol2 : out.length ≤ 1099511627776 := by omega
    clear hol
    by_cases hlt : k < bs.length
    · obtain ⟨c, hcn⟩ : ∃ c, c = (bs.getD k 0).toNat := ⟨_, rfl⟩
      have hc256 : c < 256 := by rw [hcn]; exact UInt8.toNat_lt _
      have hcell : wr.cell? ⟨b, off + k, none⟩ = some (.int .u8 (c : Int)) := by rw [hbel.cell (by exact hblt), hcn]; exact HC.out k hlt
      have hm15 : bits .and .u8 (c : Int) 15 = (c : Int) % 16 := bits_mask .u8 8 (by decide) wraps_u8 4 (by decide) c (by omega) (by omega)
      have HO : Hid (out ++ [ub (hdN (c / 16)), ub (hdN (c % 16))] = hexOf (bs.take (k + 1))) := by show _ = _; rw [hexOf_take bs k hlt, hout.out, hcn]
      clear hcn hout
      have i1 : (0 : Int) ≤ (c : Int) / 16 := by omega
      have i2 : (c : Int) / 16 < 16 := by omega
      have i3 : (0 : Int) ≤ (c : Int) % 16 := by omega
      have i4 : (c : Int) % 16 < 16 := by omega
      go_wp2
      go_region_held3 (fun _ => True) (trivial) ((refine step_app2 (.tmp 12) (.tmp 19) _ _ (hdN (c / 16)) (hdN (c % 16)) w.heap.size _ out (by rfl) (by rfl) (by rfl) (by rfl) hown (hdN_lt _ (by omega)) (hdN_lt _ (by omega)) (hd_at _ (by omega) _) (hd_at _ (by omega) _) hol2 hsz ?_; intro g cap' w1 hown' hbel'))
      all_goals
        have hb1 := hbel.trans hbel'
        clear hown hbel hbel' hcell
        go_wp2
        go_roundw
        case rel => exact ⟨k + 1, _, by omega, by go_num, by have := HOL.out; simp; omega, HO, hown', hb1⟩
        case measure => simp [intOf]; omega
    · obtain ⟨a2, cap2, rfl, hle2, hmx2, hrow2⟩ := hown.row
      have hcs := conv_row hrow2 cap2
      have HO : Hid (out = hexOf bs) := by show _ = _; rw [hout.out, List.take_of_length_le (by omega)]
      clear hown hrow2 hout
      go_wp2
      go_ret
      exact ⟨by rw [← HO.out]; rfl, hbel⟩

set_option maxRecDepth 100000 in
set_option maxHeartbeats 400000 in
theorem hex_none (a : Option Addr) (cap : Nat) (w : World) :
    Calls Try.prog 53 #[.slice a 0 cap] w fun e w' => e = .returned (.string ⟨(hexOf []).toArray⟩) ∧ Below w.heap.size w w' := by
  have hcs := conv_zero w none 0
  go_enter Try.func53, Try.ntmps53
  go_wp2
  refine wp_loop_rounds 1 ?_
  rw [rounds_succ]
  go_wp2
  go_ret
  exact ⟨rfl, Below.refl _ _⟩

theorem hex_any (a : Option Addr) (cap : Nat) (bs : List UInt8) (w : World) (hrow : Row w a bs) (hmax : bs.length ≤ 268435456) :
    Calls Try.prog 53 #[.slice a bs.length cap] w fun e w' => e = .returned (.string ⟨(hexOf bs).toArray⟩) ∧ Below w.heap.size w w' := by
  rcases hrow with rfl | ⟨b, off, rfl, hc⟩
  · exact hex_none a cap w
  · rcases Nat.eq_zero_or_pos bs.length with h | h
    · have : bs = [] := List.eq_nil_of_length_eq_zero h
      subst this
      exact hex_none _ cap w
    · exact hex_full b off cap bs w hc hmax h

theorem cat_two (l : List UInt8) (x y : UInt8) : ((⟨l.toArray⟩ ++ ⟨#[x]⟩ : ByteArray) ++ ⟨#[y]⟩ : ByteArray) = ⟨(l ++ [x, y]).toArray⟩ := by
  apply ByteArray.ext
  simp

theorem drewN_more {w wr : World} (h : ∃ q, wr = w.drewN q) (n : Nat) : ∃ q, wr.drewN n = w.drewN q := by
  obtain ⟨q, rfl⟩ := h
  exact ⟨q + n, by simp⟩

theorem cut16 : ∀ d : Fin 16, ({ data := #[48, 49, 50, 51, 52, 53, 54, 55, 56, 57, 97, 98, 99, 100, 101, 102] } : ByteArray).extract d.val (d.val + 1) = ⟨#[ub (hdN d.val)]⟩ := by decide +kernel

end Go.Proofs.Ythemfblckliclaa
