/- digest.Text: the digits of a digest. -/
import Derived.Test.YtbigkblkfnnfkaaDoorMeth
import Derived.Lib.Bytealg
import Derived.Deep.RegionHeld3
import Derived.Deep.AppendLies
import Derived.Deep.DrawnRows
namespace Go.Proofs.YtbigkblkfnnfkaaDoor
open Go.RowKit
set_option linter.unusedVariables false
attribute [local go_sem ↓] Go.wp_at_zero Go.wp_at_succ

theorem take_snoc (bs : List UInt8) (k : Nat) (h : k < bs.length) : bs.take (k + 1) = bs.take k ++ [bs.getD k 0] := by
  rw [List.take_succ_eq_append_getElem h]
  simp [List.getD, List.getElem?_eq_getElem h]

theorem hexdig : ∀ j : Fin 16, (({ data := #[48, 49, 50, 51, 52, 53, 54, 55, 56, 57, 97, 98, 99, 100, 101, 102] } : ByteArray)[j.val]'(j.isLt)).toNat = if j.val < 10 then 48 + j.val else 87 + j.val := by decide +kernel

/-- A digit's sign. -/
def hdN (j : Nat) : Nat := if j < 10 then 48 + j else 87 + j

theorem hdN_lt (j : Nat) (h : j < 16) : hdN j < 256 := by unfold hdN; split <;> omega

/-- The digits of bytes. -/
def hexOf : List UInt8 → List UInt8
  | [] => []
  | b :: l => ub (hdN (b.toNat / 16)) :: ub (hdN (b.toNat % 16)) :: hexOf l

theorem hexOf_snoc (l : List UInt8) (b : UInt8) : hexOf (l ++ [b]) = hexOf l ++ [ub (hdN (b.toNat / 16)), ub (hdN (b.toNat % 16))] := by
  induction l with
  | nil => rfl
  | cons a l ih => simp [hexOf, ih]

theorem hexOf_length (l : List UInt8) : (hexOf l).length = 2 * l.length := by
  induction l with
  | nil => rfl
  | cons a l ih => simp [hexOf, ih]; omega

theorem hexOf_take (bs : List UInt8) (k : Nat) (h : k < bs.length) : hexOf (bs.take (k + 1)) = hexOf (bs.take k) ++ [ub (hdN ((bs.getD k 0).toNat / 16)), ub (hdN ((bs.getD k 0).toNat % 16))] := by
  rw [take_snoc bs k h, hexOf_snoc]

theorem hd_at (j : Nat) (h : j < 16) (h' : j < (({ data := #[48, 49, 50, 51, 52, 53, 54, 55, 56, 57, 97, 98, 99, 100, 101, 102] } : ByteArray)).size) : ((({ data := #[48, 49, 50, 51, 52, 53, 54, 55, 56, 57, 97, 98, 99, 100, 101, 102] } : ByteArray)[j]'h').toNat : Int) = (hdN j : Int) := by
  have := hexdig ⟨j, h⟩
  simp only at this
  unfold hdN
  omega

/-- 'out = append(out, x, y)' as one step of a region that draws its order. -/
theorem step_app2 {ops : Array Oper} {o : Oper} {a : Act} {K : Act → World → Prop} {Q : Exit → Act → World → Prop} {E : Prop} {w0 : World} (s x : Operand) (z1 z2 : Int) (k1 k2 : Nat) (base : Nat) (v : Value) (out : List UInt8)
    (hgd : o.guard = none) (ho : o.op = .call { callee := .builtin .append, args := #[s, x], argTypes := #[22, 22] })
    (hs : a.eval s = v) (hx : a.eval x = .slice (some ⟨w0.heap.size, 0, none⟩) 2 2) (hown : Own base w0 v out) (hk1 : k1 < 256) (hk2 : k2 < 256) (hz1 : z1 = (k1 : Int)) (hz2 : z2 = (k2 : Int)) (hlen : out.length ≤ 1099511627776) (hbase : base ≤ w0.heap.size)
    (h : ∀ g cap w', Own base w' (.slice (some ⟨g, 0, none⟩) (out.length + 2) cap) (out ++ [ub k1, ub k2]) → Below base w0 w' → K (a.put o.dst (.slice (some ⟨g, 0, none⟩) (out.length + 2) cap)) w') :
    if Region.wanted o (yielded ops a.tmps) = true then Oper.wp Tryd.prog o a ((w0.alloc (.cells #[.int .u8 z1, .int .u8 z2] 5)).drew) K Q else E := by
  obtain ⟨i0, hi, hz0, hzz1, hzz2⟩ := info_parts Tryd.info5
  subst hz1 hz2
  refine step_append_lies (w := (w0.alloc (.cells #[.int .u8 (k1 : Int), .int .u8 (k2 : Int)] 5)).drew) hgd s x 22 ho base 5 i0 (.int .u8 0) 1 1 Tryd.underlying22 hi hz0 hzz1 hzz2 rfl (by decide) v out.length (out.map B8) hs (World.ownsRow.drew (World.ownsRow.alloc hown _))
    ⟨w0.heap.size, 0, none⟩ 2 2 [.int .u8 (k1 : Int), .int .u8 (k2 : Int)] hx rfl (World.news_of_block (cs := #[.int .u8 (k1 : Int), .int .u8 (k2 : Int)]) (t := 5) (fr := (0, 0)) (heap_alloc_new w0 _)) (by simp [Value.oneCell'])
    (by omega) (by unfold maxLen; omega) (by omega) (by simp; omega) (w0.heap.size + 1) (by simp) ?_
  intro g cap w' h1 h2 _ _
  refine h g cap w' ?_ ?_
  · have e2 : out.map B8 ++ [.int .u8 (k1 : Int), .int .u8 (k2 : Int)] = (out ++ [ub k1, ub k2]).map B8 := by simp [B8, ub_toNat k1 hk1, ub_toNat k2 hk2]
    rw [e2] at h1
    have e : out.length + 2 = (out ++ [ub k1, ub k2]).length := by simp
    unfold Own
    rw [← e]
    exact h1
  · exact (((Below.refl base w0).alloc hbase _).drew).grown h2 (by simp; omega) hown.block

set_option maxRecDepth 100000 in
set_option maxHeartbeats 400000 in
theorem indexByte_any (s : ByteArray) (c : Int) (w : World) :
    Calls Tryd.prog 40 #[.string s, .int .u8 c] w fun e w' => e = .returned (.int .i64 (Lib.indexByte s.data.toList c.toNat.toUInt8)) ∧ w' = w := by
  have hcf : ∀ w, Sem.run Tryd.prog (callFunc 48 #[.string s, .int .u8 c]) w = .ok (.value (.int .i64 (Lib.indexByte s.data.toList c.toNat.toUInt8))) w := fun w => by
    rw [run_callFunc_extern Tryd.func48 (by kernel_rfl) (by kernel_rfl) (by kernel_rfl) (e := Extern.BytealgIndexByte.indexByte) (by kernel_rfl), Lib.run_indexByteString]
    rfl
  go_enter Tryd.func40, Tryd.ntmps40
  go_wp2
  go_ret
  exact ⟨rfl, rfl⟩
/-- A digit's value; 16: it is none. -/
def dv (c : Nat) : Nat := if 48 ≤ c ∧ c ≤ 57 then c - 48 else if 97 ≤ c ∧ c ≤ 102 then c - 87 else 16

theorem idx16_nat : ∀ c : Nat, c < 256 → Lib.indexByte (({ data := #[48, 49, 50, 51, 52, 53, 54, 55, 56, 57, 97, 98, 99, 100, 101, 102] } : ByteArray)).data.toList ((c : Int).toNat.toUInt8) = if dv c < 16 then (dv c : Int) else -1 := by decide +kernel

theorem idx16_yes (c : Nat) (hc : c < 256) (h : dv c < 16) (w : World) :
    Calls Tryd.prog 40 #[.string ({ data := #[48, 49, 50, 51, 52, 53, 54, 55, 56, 57, 97, 98, 99, 100, 101, 102] } : ByteArray), .int .u8 (c : Int)] w fun e w' => e = .returned (.int .i64 (dv c : Int)) ∧ w' = w := by
  have h' := indexByte_any ({ data := #[48, 49, 50, 51, 52, 53, 54, 55, 56, 57, 97, 98, 99, 100, 101, 102] } : ByteArray) (c : Int) w
  rw [idx16_nat c hc, if_pos h] at h'
  exact h'

theorem idx16_no (c : Nat) (hc : c < 256) (h : ¬ dv c < 16) (w : World) :
    Calls Tryd.prog 40 #[.string ({ data := #[48, 49, 50, 51, 52, 53, 54, 55, 56, 57, 97, 98, 99, 100, 101, 102] } : ByteArray), .int .u8 (c : Int)] w fun e w' => e = .returned (.int .i64 (-1)) ∧ w' = w := by
  have h' := indexByte_any ({ data := #[48, 49, 50, 51, 52, 53, 54, 55, 56, 57, 97, 98, 99, 100, 101, 102] } : ByteArray) (c : Int) w
  rw [idx16_nat c hc, if_neg h] at h'
  exact h'

/-- A digit's value as Go has it. -/
def dvI (c : Nat) : Int := if dv c < 16 then (dv c : Int) else -1

theorem idx16_any (c : Nat) (hc : c < 256) (d : Int) (h : Hid (d = dvI c)) (w : World) :
    Calls Tryd.prog 40 #[.string ({ data := #[48, 49, 50, 51, 52, 53, 54, 55, 56, 57, 97, 98, 99, 100, 101, 102] } : ByteArray), .int .u8 (c : Int)] w fun e w' => e = .returned (.int .i64 d) ∧ w' = w := by
  rw [h.out, dvI]
  split
  · exact idx16_yes c hc ‹_› w
  · exact idx16_no c hc ‹_› w

theorem or16 : ∀ x y : Nat, x < 16 → y < 16 → x * 16 ||| y = 16 * x + y := by
  intro x y hx hy
  rw [nat_join 4 (x * 16) y (by omega) hy]
  omega

theorem or16i (x y : Nat) (hx : x < 16) (hy : y < 16) : bits .or .i64 ((x : Int) * 16) (y : Int) = ((16 * x + y : Nat) : Int) := by
  have h := bits_nat .i64 63 (by decide) (fun n h0 h1 => by rw [IntKind.wrap_i64]; omega) (x * 16) y (by omega) (by omega)
  have e : (x : Int) * 16 = ((x * 16 : Nat) : Int) := by omega
  rw [e, h.2, or16 x y hx hy]


set_option maxRecDepth 100000 in
set_option maxHeartbeats 1600000 in
theorem text_any (bs : List UInt8) (w : World) (h32 : bs.length = 32) :
    Calls Tryd.prog 19 #[.agg (bs.map B8).toArray] w fun e w' => e = .returned (.string ⟨(hexOf bs).toArray⟩) ∧ Below w.heap.size w w' := by
  have hib := i25' bs h32
  go_enter Tryd.func19, Tryd.ntmps19
  go_wp2_with (first | ((with_reducible show wpList _ _ _ _ _ _); refine wpList_box_at rfl 25 (.tmp 0) rfl (bs.map B8) rfl ?_; intro w1 hA1 hb1 hs1) | ((with_reducible show wpList _ _ _ _ _ _); refine wpList_load_at (P := Tryd.prog) rfl 25 (.tmp 1) rfl w.heap.size rfl 25 (bs.map B8) hA1 _ Tryd.underlying25 rfl hib ?_))
  have hbw : Below w.heap.size w w1 := hb1
  clear hA1 hb1
  go_loopw [3, 7] (fun v i wr => ∃ (k : Nat) (out : List UInt8), k ≤ 32 ∧ i = .int .i64 k ∧ out.length = 2 * k ∧ Hid (out = hexOf (bs.take k)) ∧ Own w.heap.size wr v out ∧ Below w.heap.size w wr) (fun _ i _ => 32 - (intOf i).toNat)
  case atStart => exact ⟨0, [], Nat.zero_le _, rfl, rfl, rfl, Own.nil _ _, hbw⟩
  case round =>
    obtain ⟨k, out, hk, rfl, hol, hout, hown, hbel⟩ := hrel
    have hsz := hbel.size
    have HOL : Hid (out.length = 2 * k) := hol
    have hol2 : out.length ≤ 1099511627776 := by omega
    clear hol hbw
    by_cases hlt : k < 32
    · obtain ⟨c, hcn⟩ : ∃ c, c = (bs.getD k 0).toNat := ⟨_, rfl⟩
      have hc256 : c < 256 := by rw [hcn]; exact UInt8.toNat_lt _
      have hI : (bs.map B8)[k]? = some (.int .u8 (c : Int)) := by rw [hcn]; simp [B8, List.getD, List.getElem?_eq_getElem (show k < bs.length by omega)]
      have hJ : ∀ u, (Instr.index 25 (.agg (bs.map B8).toArray) (.int .i64 (k : Int))).run Tryd.prog u = .ok (.int .u8 (c : Int)) u := fun u => run_index25 _ k _ u hlt hI
      have hm15 : bits .and .u8 (c : Int) 15 = (c : Int) % 16 := bits_mask .u8 8 (by decide) wraps_u8 4 (by decide) c (by omega) (by omega)
      have HO : Hid (out ++ [ub (hdN (c / 16)), ub (hdN (c % 16))] = hexOf (bs.take (k + 1))) := by show _ = _; rw [hexOf_take bs k (by omega), hout.out, hcn]
      clear hcn hout hI
      have i1 : (0 : Int) ≤ (c : Int) / 16 := by omega
      have i2 : (c : Int) / 16 < 16 := by omega
      have i3 : (0 : Int) ≤ (c : Int) % 16 := by omega
      have i4 : (c : Int) % 16 < 16 := by omega
      go_wp2_with fail
      go_region_held3 (fun _ => True) (trivial) ((refine step_app2 (.tmp 10) (.tmp 17) _ _ (hdN (c / 16)) (hdN (c % 16)) w.heap.size _ out (by rfl) (by rfl) (by rfl) (by rfl) hown (hdN_lt _ (by omega)) (hdN_lt _ (by omega)) (hd_at _ (by omega) _) (hd_at _ (by omega) _) hol2 hsz ?_; intro g cap' w1 hown' hbel'))
      all_goals
        have hb1 := hbel.trans hbel'
        clear hown hbel hbel'
        go_wp2
        go_roundw
        case rel => exact ⟨k + 1, _, by omega, by go_num, by have := HOL.out; simp; omega, HO, hown', hb1⟩
        case measure => simp [intOf]; omega
    · obtain ⟨a2, cap2, rfl, hle2, hmx2, hrow2⟩ := hown.row
      have hcs := conv_row hrow2 cap2
      have HO : Hid (out = hexOf bs) := by show _ = _; rw [hout.out, List.take_of_length_le (by omega)]
      clear hown hrow2 hout
      go_wp2
      go_ret
      exact ⟨by rw [← HO.out]; rfl, hbel⟩
end Go.Proofs.YtbigkblkfnnfkaaDoor
