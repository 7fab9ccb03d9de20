/- digest's put: bytes are put behind the others. -/
import Derived.Test.YtbigkblkfnnfkaaDoorPutMath
namespace Go.Proofs.YtbigkblkfnnfkaaDoor
open Go.RowKit
set_option linter.unusedVariables false
attribute [local go_sem ↓] Go.wp_at_zero Go.wp_at_succ

theorem run_slice56 (g r : Nat) (hr : r < 64) (u : World) : (Instr.sliceAt 56 (.pointer (some ⟨g, 8, none⟩)) (some (.int .i64 (r : Int))) none none).run Tryd.prog u = .ok (.slice (some ⟨g, 8 + r, none⟩) (64 - r) (64 - r)) u := by
  have he : Tryd.prog.elem 56 = 5 := by kernel_rfl
  have hl : Tryd.prog.arrayLen 56 = 64 := by kernel_rfl
  rw [run_sliceAt_array_l u 56 ⟨g, 8, none⟩ (by rw [he, hl]; exact Tryd.underlying56) .i64 (r : Int) (by omega) (by rw [hl]; omega), he, hl, size5]
  simp [Result.andThen, slicedAt, show ¬ 64 = r by omega, Addr.add]

theorem slice_from {b off R c n : Nat} (hn : n ≤ R) (hc : R ≤ c) : ∃ A : Option Addr, (n < R → A = some ⟨b, off + n, none⟩) ∧ ∀ u, (Instr.slice 22 (.slice (some ⟨b, off, none⟩) R c) (some (.int .i64 (n : Int))) none none).run Tryd.prog u = .ok (.slice A (R - n) (c - n)) u := by
  have he : Tryd.prog.elem 22 = 5 := by simp [Program.elem, Tryd.underlying22]
  refine ⟨if c = n then some ⟨b, off, none⟩ else some ⟨b, off + n, none⟩, fun h => by rw [if_neg (by omega)], fun u => ?_⟩
  rw [run_slice_l u 22 (some ⟨b, off, none⟩) R c (by rw [he]; exact Tryd.underlying22) .i64 (n : Int) (by omega) (by omega), he, size5]
  by_cases h : c = n
  · simp [Result.andThen, sliced, h]
  · simp [Result.andThen, sliced, h, Addr.add_mid]

theorem take_more (m bs : List UInt8) (j n : Nat) : m ++ bs.take (j + n) = (m ++ bs.take j) ++ (bs.drop j).take n := by
  rw [List.append_assoc, List.take_add]

theorem wp_store_words {o : Oper} {a : Act} {w : World} {K : Act → World → Prop} {Q : Exit → Act → World → Prop} (x y : Operand) (ho : o.op = .store 55 x y)
    (g : Nat) (hs ws : List Nat) (bk : List UInt8) (n : Nat) (hx : a.eval x = .pointer (some ⟨g, 0, none⟩)) (hy : a.eval y = .agg (ws.map U32).toArray)
    (hg : At 58 w g (hashOf hs bk n)) (h8 : hs.length = 8) (hw8 : ws.length = 8)
    (h : ∀ w', At 58 w' g (hashOf ws bk n) → But g w w' → w'.heap.size = w.heap.size → K (a.put o.dst undef) w') : o.wp Tryd.prog a w K Q := by
  have hrun := run_storeCells_at (P := Tryd.prog) g 0 58 (ws.map U32) 0 (hashOf hs bk n).toArray w hg (by simp [hashOf, h8, hw8]) (u32_one ws)
  have e : (hashOf hs bk n).toArray.toList.take (0 + 0) ++ ws.map U32 ++ (hashOf hs bk n).toArray.toList.drop (0 + 0 + (ws.map U32).length) = hashOf ws bk n := by
    simp [hashOf, h8, hw8]
  rw [e] at hrun
  have hst : (storeVar 55 ⟨g, 0, none⟩ (.agg (ws.map U32).toArray)).run Tryd.prog w = .ok () (w.setRow g (hashOf ws bk n).toArray) := by
    cases hq : Tryd.prog.info? 55 with
    | none => have := i55; simp [hq] at this
    | some i =>
      have hs : i.size = 8 := by have := i55; simpa [hq] using this
      simp [storeVar, sizeOf, typeInfo, hq, Value.cells, hs, hw8, hrun]
  unfold Oper.wp execOp
  simp only [ho, hx, hy, Instr.storeAt, Instr.sureAddr, Sem.run_bind, Sem.run_pure, Result.andThen_ok, hst]
  exact h _ (setRow_heap w g _ _ 58 _ hg) ⟨rfl, rfl, rfl, by simp, fun k _ hk => setRow_other w g k _ hk⟩ (by simp)

theorem spread_hid (bk : List UInt8) (ws : List Nat) (hws : Hid (ws = extW (loadW bk 64) 48)) (w : World) (h64 : bk.length = 64) :
    Calls Tryd.prog 44 #[.agg (bk.map B8).toArray] w fun e w' => e = .returned (.agg (ws.map U32).toArray) ∧ Below w.heap.size w w' := by
  rw [hws.out]
  exact spread_any bk w h64

theorem mix_hid (hs ns ws : List Nat) (h8 : hs.length = 8) (hn : Hid (ns = addTo hs (rnds roots ws (toSt hs) 64).list 8)) (w : World) (h64 : ws.length = 64) (hR : Roots w) :
    Calls Tryd.prog 43 #[.agg (hs.map U32).toArray, .agg (ws.map U32).toArray] w fun e w' => e = .returned (.agg (ns.map U32).toArray) ∧ Below w.heap.size w w' := by
  have h := mix_any (toSt hs) ws w h64 hR
  rw [toSt_list hs h8] at h
  rw [hn.out]
  exact h

theorem range_block {w : World} {g n : Nat} {hs : List Nat} {bk : List UInt8} (h : At 58 w g (hashOf hs bk n)) (h8 : hs.length = 8) (h64 : bk.length = 64) : w.rangeAt g 8 (bk.map B8) := fun j v hv => by
  rw [h.cell]; exact hash_block hs bk n j v h8 h64 hv
theorem range_words {w : World} {g n : Nat} {hs : List Nat} {bk : List UInt8} (h : At 58 w g (hashOf hs bk n)) (h8 : hs.length = 8) : w.rangeAt g 0 (hs.map U32) := fun j v hv => by
  have hj : j < 8 := by
    rcases Nat.lt_or_ge j 8 with h | h
    · exact h
    · rw [List.getElem?_eq_none (by simp; omega)] at hv; cases hv
  rw [Nat.zero_add, h.cell, hash_word hs bk n j h8 hj, ← hv]
  simp [U32, List.getD, List.getElem?_eq_getElem (show j < hs.length by omega)]

set_option maxRecDepth 100000 in
set_option maxHeartbeats 1600000 in
theorem put_some (g b off cap : Nat) (m bs : List UInt8) (w : World) (hH : HashIs w g m) (hc : ∀ j, j < bs.length → w.cell? ⟨b, off + j, none⟩ = some (.int .u8 ((bs.getD j 0).toNat : Int))) (hbg : b ≠ g) (hcap : bs.length ≤ cap) (hmax : m.length + bs.length ≤ 1099511627776) (hR : Roots w) (hg0 : 0 < g) :
    Calls Tryd.prog 32 #[.pointer (some ⟨g, 0, none⟩), .slice (some ⟨b, off, none⟩) bs.length cap] w fun e w' => e = .returned (.tuple #[]) ∧ HashIs w' g (m ++ bs) ∧ But g w w' := by
  go_enter Tryd.func32, Tryd.ntmps32
  go_wp2_with fail
  go_loopw [1] (fun v wr => ∃ (j : Nat) (ad : Option Addr) (c : Nat), j ≤ bs.length ∧ v = .slice ad (bs.length - j) c ∧ bs.length - j ≤ c ∧ (j < bs.length → ad = some ⟨b, off + j, none⟩) ∧ HashIs wr g (m ++ bs.take j) ∧ But g w wr) (fun v _ => lenOf v)
  case atStart => exact ⟨0, _, _, Nat.zero_le _, rfl, hcap, fun _ => rfl, by simpa using hH, But.refl _ _⟩
  case round =>
    obtain ⟨j, ad, c, hj, rfl, hcj, had, hHr, hbut⟩ := hrel
    clear hH
    by_cases hlt : j < bs.length
    · obtain rfl := had hlt
      obtain ⟨blk, h64, hAt, hblk⟩ := hHr
      obtain ⟨m', hm'⟩ : ∃ m', Hid (m' = m ++ bs.take j) := ⟨_, rfl⟩
      rw [← hm'.out] at hAt hblk
      have hml : Hid (m'.length = m.length + j) := by show _ = _; rw [hm'.out, List.length_append, List.length_take]; omega
      obtain ⟨L, hL⟩ : ∃ L, Hid (L = m'.length) := ⟨_, rfl⟩
      obtain ⟨hs, hhs⟩ : ∃ hs, Hid (hs = Hn m' (m'.length / 64)) := ⟨_, rfl⟩
      have hs8 : Hid (hs.length = 8) := by rw [hhs.out]; exact Hn_length _ _
      rw [← hhs.out, ← hL.out] at hAt
      have hLb : L ≤ 1099511627776 := by rw [hL.out, hml.out]; omega
      obtain ⟨R, hRr⟩ : ∃ R, Hid (R = bs.length - j) := ⟨_, rfl⟩
      have hRp : 0 < R := by rw [hRr.out]; omega
      have hRb : R ≤ 1099511627776 := by rw [hRr.out]; omega
      have h72 : wr.cell? ⟨g, 72, none⟩ = some (.int .i64 (L : Int)) := by rw [hAt.cell]; exact hash_cell72 _ _ _ hs8.out h64
      obtain ⟨n, hn⟩ : ∃ n, Hid (n = Nat.min R (64 - L % 64)) := ⟨_, rfl⟩
      obtain ⟨ch, hch⟩ : ∃ ch, Hid (ch = (bs.drop j).take n) := ⟨_, rfl⟩
      have hcl : Hid (ch.length = n) := by
        show _ = _
        rw [hch.out, List.length_take, List.length_drop, ← hRr.out, hn.out]
        exact Nat.min_eq_left (Nat.min_le_left _ _)
      rw [← hRr.out]
      have hsz1 : (Tryd.prog.info? 5).map (·.size) = some 1 := by kernel_rfl
      obtain ⟨r, hr⟩ : ∃ r, Hid (r = L % 64) := ⟨_, rfl⟩
      have hr64 : r < 64 := by rw [hr.out]; omega
      have hmod : (L : Int).tmod 64 = (r : Int) := by rw [hr.out, Int.tmod_eq_emod_of_nonneg (by omega)]; omega
      have hsl := run_slice56 g r hr64
      have hn64 : Hid (r + n ≤ 64 ∧ n ≤ R ∧ 0 < n ∧ (r + n < 64 → n = R)) := by
        show _ ∧ _
        rcases Nat.le_total R (64 - r) with h | h
        · rw [hn.out, ← hr.out, show Nat.min R (64 - r) = R from Nat.min_eq_left h]; omega
        · rw [hn.out, ← hr.out, show Nat.min R (64 - r) = 64 - r from Nat.min_eq_right h]; omega
      obtain ⟨cs, hcs⟩ : ∃ cs, Hid (cs = ch.map B8) := ⟨_, rfl⟩
      have hcsl : cs.length = n := by rw [hcs.out, List.length_map]; exact hcl.out
      have hcn : Hid (cs.length = Nat.min R (64 - r)) := by show _ = _; rw [hcsl, hn.out, ← hr.out]
      have hsrc : Hid (∀ i v, cs[i]? = some v → wr.drew.cell? ((⟨b, off + j, none⟩ : Addr).add i) = some v) := by
        intro i v hv
        have hi : i < n := by
          rcases Nat.lt_or_ge i n with h | h
          · exact h
          · rw [List.getElem?_eq_none (by omega)] at hv; cases hv
        have hjl : j + i < bs.length := by have := hn64.out; have := hRr.out; omega
        have e : (⟨b, off + j, none⟩ : Addr).add i = ⟨b, off + (j + i), none⟩ := by rw [Addr.add_mid, Nat.add_assoc]
        rw [e]
        show wr.cell? _ = _
        rw [World.cell?_of_block (w := w) (hbut.block b (lt_of_cell (hc 0 (by omega))) hbg), hc _ hjl, ← hv, hcs.out, hch.out]
        simp [B8, List.getD, List.getElem?_take_of_lt hi, List.getElem?_eq_getElem hjl]
      have hone : Hid (∀ v ∈ cs, v.oneCell' = true) := by rw [hcs.out]; exact b8_one _
      have hlen74 : (hashOf hs blk L).length = 74 := hashOf_length _ _ _ hs8.out h64
      have hfit : Hid (8 + r + cs.length ≤ (hashOf hs blk L).length) := by show _ ≤ _; have := hn64.out; omega
      have hsp : Hid (splice (hashOf hs blk L) (8 + r) cs = hashOf hs (splice blk r ch) L) := by
        rw [hcs.out]; exact splice_hash hs blk ch L r hs8.out h64 (by rw [hcl.out]; exact hn64.out.1)
      have hb64 : Hid ((splice blk r ch).length = 64) := splice_length blk ch r h64 (by rw [hcl.out]; exact hn64.out.1)
      go_wp2_with fail
      go_region_held3 (fun w' => w'.cell? ⟨g, 72, none⟩ = some (.int .i64 (L : Int))) (first | exact h72b | exact h72) (first | (refine step_copy_at (by rfl) (.tmp 16) (.tmp 17) 22 22 (by rfl) 5 Tryd.underlying22 hsz1 (64 - r) (64 - r) R c ⟨b, off + j, none⟩ g (8 + r) (by rfl) (by rfl) (hashOf hs blk L) 58 (by exact hAt) cs hcn.out hsrc.out hfit.out hone.out ?_; intro w1 hA1 hb1 hsz; have h72b : w1.cell? ⟨g, 72, none⟩ = some (.int .i64 (L : Int)) := by rw [hsp.out] at hA1; rw [hA1.cell]; exact hash_cell72 _ _ _ hs8.out hb64.out))
      rw [hsp.out] at hA1
      obtain ⟨bk, hbk⟩ : ∃ bk, Hid (bk = splice blk r ch) := ⟨_, rfl⟩
      rw [← hbk.out] at hA1
      have hbk64 : bk.length = 64 := by rw [hbk.out]; exact hb64.out
      have hF := hA1.frozen 72
      have hnb : n ≤ 64 := by have := hn64.out; omega
      have hw1 : IntKind.i64.wrap ((L : Int) + (n : Int)) = (L : Int) + (n : Int) := by rw [IntKind.wrap_i64]; omega
      obtain ⟨A, hA, hsl2⟩ : ∃ A : Option Addr, Hid (n < R → A = some ⟨b, off + (j + n), none⟩) ∧ ∀ u, (Instr.slice 22 (.slice (some ⟨b, off + j, none⟩) R c) (some (.int .i64 (n : Int))) none none).run Tryd.prog u = .ok (.slice A (R - n) (c - n)) u := by
        obtain ⟨A, h1, h2⟩ := slice_from (b := b) (off := off + j) (R := R) (c := c) (n := n) hn64.out.2.1 (by rw [hRr.out]; exact hcj)
        exact ⟨A, fun h => by rw [h1 h, Nat.add_assoc], h2⟩
      have hAL : At 58 (w1.setCell ⟨g, 72, none⟩ (.int .i64 ((L : Int) + (n : Int)))) g (hashOf hs bk (L + n)) := by
        have := hA1.set 72 (.int .i64 ((L : Int) + (n : Int)))
        rw [hash_len hs bk L (L + n) _ hs8.out hbk64 (by simp)] at this
        exact this
      have hbutL : But g w (w1.setCell ⟨g, 72, none⟩ (.int .i64 ((L : Int) + (n : Int)))) := (hbut.trans (show But g wr w1 from ⟨hb1.os, hb1.tape, hb1.output, hb1.size, hb1.block⟩)).setCell 72 _
      have hnew : Hid (m ++ bs.take (j + n) = m' ++ ch) := by show _ = _; rw [take_more, hm'.out, hch.out]
      have hnl : Hid ((m' ++ ch).length = L + n) := by show _ = _; rw [List.length_append, hcl.out, hL.out]
      have hjn : Hid (j + n ≤ bs.length ∧ R - n = bs.length - (j + n) ∧ bs.length - (j + n) ≤ c - n ∧ (j + n < bs.length → n < R)) := by
        have := hn64.out; have := hRr.out; show _ ∧ _; omega
      have h64' : Hid (blk.length = 64) := h64
      by_cases hz : (L + n) % 64 = 0
      · have hzb : (((L : Int) + (n : Int)) % 64 == 0) = true := by simp; omega
        have hfull : Hid (_ ∧ _ ∧ _) := put_full m' ch blk h64 (hblk) (by rw [hcl.out, ← hL.out, ← hr.out]; have := hn64.out; have := hr.out; omega)
        obtain ⟨ws, hws⟩ : ∃ ws, Hid (ws = extW (loadW bk 64) 48) := ⟨_, rfl⟩
        have hwl : Hid (ws.length = 64) := by rw [hws.out, extW_length, loadW_length]; rfl
        obtain ⟨ns, hns⟩ : ∃ ns, Hid (ns = addTo hs (rnds roots ws (toSt hs) 64).list 8) := ⟨_, rfl⟩
        have hns8 : Hid (ns.length = 8) := by rw [hns.out, addTo_length]; exact hs8.out
        have hcomp : Hid (ns = comp hs bk) := by rw [hns.out, hws.out]; rfl
        obtain ⟨w2, hw2⟩ : ∃ u, Hid (u = w1.setCell ⟨g, 72, none⟩ (.int .i64 ((L : Int) + (n : Int)))) := ⟨_, rfl⟩
        rw [← hw2.out] at hAL hbutL
        have hR2 : Roots w2 := hR.but hbutL hg0
        clear hsl h72 hlen74 h64 hAt hcsl hsz hc hblk
        go_wp2_with fail
        rw [← hw2.out]
        have HSW : w2.drew.rangeAt g 8 (bk.map B8) := range_block (show At 58 w2.drew g _ from hAL) hs8.out hbk64
        have hibk : (Tryd.prog.info? 56).map (·.size) = some (bk.map B8).length := by rw [List.length_map, hbk64]; exact i56
        have hihs := i55' hs hs8.out
        refine wp_region_held_drew (S := fun w' => w'.rangeAt g 8 (bk.map B8)) (by kernel_rfl) HSW (fun _ => ?_)
        refine wpAnyH_take (i := 0) (oi := { dst := some 36, op := .move (.tmp 0), type := _, pos := _, after := _, guard := none }) (v := .pointer (some ⟨g, 0, none⟩)) rfl (by kernel_rfl) (by kernel_rfl) (by kernel_rfl) (fun _ _ _ h => h) (Or.inl ⟨by rfl, ?_⟩) HSW ?_
        · intro w hSw
          go_simp
        simp only [Act.put, List.setIfInBounds_toArray, List.set_cons_zero, List.set_cons_succ]
        refine wpAnyH_take (i := 1) (oi := { dst := some 37, op := .move (.tmp 0), type := _, pos := _, after := _, guard := none }) (v := .pointer (some ⟨g, 0, none⟩)) rfl (by kernel_rfl) (by kernel_rfl) (by kernel_rfl) (fun _ _ _ h => h) (Or.inl ⟨by rfl, ?_⟩) HSW ?_
        · intro w hSw
          go_simp
        simp only [Act.put, List.setIfInBounds_toArray, List.set_cons_zero, List.set_cons_succ]
        refine wpAnyH_take (i := 2) (oi := { dst := some 38, op := .nilCheck (.tmp 37), type := _, pos := _, after := _, guard := none }) (v := .pointer (some ⟨g, 0, none⟩)) rfl (by kernel_rfl) (by kernel_rfl) (by kernel_rfl) (fun _ _ _ h => h) (Or.inl ⟨by rfl, ?_⟩) HSW ?_
        · intro w hSw
          go_simp
        simp only [Act.put, List.setIfInBounds_toArray, List.set_cons_zero, List.set_cons_succ]
        refine wpAnyH_take (i := 3) (oi := { dst := some 39, op := .fieldAddr 58 (.tmp 38) 0, type := _, pos := _, after := _, guard := none }) (v := .pointer (some ⟨g, 0, none⟩)) rfl (by kernel_rfl) (by kernel_rfl) (by kernel_rfl) (fun _ _ _ h => h) (Or.inl ⟨by rfl, ?_⟩) HSW ?_
        · intro w hSw
          go_simp
        simp only [Act.put, List.setIfInBounds_toArray, List.set_cons_zero, List.set_cons_succ]
        refine wpAnyH_take (i := 5) (oi := { dst := some 41, op := .move (.tmp 0), type := _, pos := _, after := _, guard := none }) (v := .pointer (some ⟨g, 0, none⟩)) rfl (by kernel_rfl) (by kernel_rfl) (by kernel_rfl) (fun _ _ _ h => h) (Or.inl ⟨by rfl, ?_⟩) HSW ?_
        · intro w hSw
          go_simp
        simp only [Act.put, List.setIfInBounds_toArray, List.set_cons_zero, List.set_cons_succ]
        refine wpAnyH_take (i := 6) (oi := { dst := some 42, op := .nilCheck (.tmp 41), type := _, pos := _, after := _, guard := none }) (v := .pointer (some ⟨g, 0, none⟩)) rfl (by kernel_rfl) (by kernel_rfl) (by kernel_rfl) (fun _ _ _ h => h) (Or.inl ⟨by rfl, ?_⟩) HSW ?_
        · intro w hSw
          go_simp
        simp only [Act.put, List.setIfInBounds_toArray, List.set_cons_zero, List.set_cons_succ]
        refine wpAnyH_take (i := 7) (oi := { dst := some 43, op := .fieldAddr 58 (.tmp 42) 1, type := _, pos := _, after := _, guard := none }) (v := .pointer (some ⟨g, 8, none⟩)) rfl (by kernel_rfl) (by kernel_rfl) (by kernel_rfl) (fun _ _ _ h => h) (Or.inl ⟨by rfl, ?_⟩) HSW ?_
        · intro w hSw
          go_simp
        simp only [Act.put, List.setIfInBounds_toArray, List.set_cons_zero, List.set_cons_succ]
        refine wpAnyH_take (i := 8) (oi := { dst := some 44, op := .load 56 (.tmp 43), type := _, pos := _, after := _, guard := none }) rfl (by kernel_rfl) (by kernel_rfl) (by kernel_rfl) (fun _ _ _ h => h) (yieldsIf_load_mid (by rfl) 56 (.tmp 43) rfl g 8 rfl (bk.map B8) _ (fun w hSw => hSw) Tryd.underlying56 rfl hibk) HSW ?_
        simp only [Act.put, List.setIfInBounds_toArray, List.set_cons_zero, List.set_cons_succ]
        refine wpAnyH_ready (rs := [4, 9]) (by kernel_rfl) (by simp) ?_
        refine AllReadyH.cons (o := { dst := some 40, op := .load 55 (.tmp 39), type := _, pos := _, after := _, guard := none }) rfl (fun K hK => ?_) (AllReadyH.cons (o := { dst := some 45, op := .call { callee := .value (.func 44), args := #[.tmp 44], argTypes := #[56] }, type := _, pos := _, after := _, guard := none }) rfl (fun K hK => ?_) AllReadyH.nil)
        · skip
          rw [if_pos (by rfl)]
          refine wp_load_mid 55 (.tmp 39) rfl g 0 rfl (hs.map U32) _ (range_words (show At 58 w2.drew g _ from hAL) hs8.out) Tryd.underlying55 rfl hihs ?_
          refine hK.out _ _ HSW (fun _ => ?_)
          simp only [Act.put, List.setIfInBounds_toArray, List.set_cons_zero, List.set_cons_succ]
          refine wpAnyH_ready (rs := [9]) (by kernel_rfl) (by simp) ?_
          refine AllReadyH.cons (o := { dst := some 45, op := .call { callee := .value (.func 44), args := #[.tmp 44], argTypes := #[56] }, type := _, pos := _, after := _, guard := none }) rfl (fun K hK => ?_) AllReadyH.nil
          rw [if_pos (by rfl)]
          go_wp2_with (go_at_call 44; refine (spread_hid bk ws hws _ hbk64).mono ?_; rintro e w3 ⟨rfl, hb3⟩)
          have hA3 : At 58 w3 g (hashOf hs bk (L + n)) := (show At 58 w2.drew g _ from hAL).below hb3
          have HS3 := range_block hA3 hs8.out hbk64
          refine hK.out _ _ HS3 (fun _ => ?_)
          refine wpAnyH_ready (rs := [10]) (by kernel_rfl) (by simp) ?_
          refine AllReadyH.cons (o := { dst := some 46, op := .call { callee := .value (.func 43), args := #[.tmp 40, .tmp 45], argTypes := #[55, 66] }, type := _, pos := _, after := _, guard := none }) rfl (fun K hK => ?_) AllReadyH.nil
          rw [if_pos (by rfl)]
          go_wp2_with (go_at_call 43; refine (mix_hid hs ns ws hs8.out hns _ hwl.out ((show Roots w2.drew from hR2).below hb3)).mono ?_; rintro e w4 ⟨rfl, hb4⟩)
          have hA4 := hA3.below hb4
          have HS4 := range_block hA4 hs8.out hbk64
          refine hK.out _ _ HS4 (fun _ => ?_)
          refine wpAnyH_take (i := 11) (oi := { dst := some 47, op := .nilCheck (.tmp 36), type := _, pos := _, after := _, guard := none }) (v := .pointer (some ⟨g, 0, none⟩)) rfl (by kernel_rfl) (by kernel_rfl) (by kernel_rfl) (fun _ _ _ h => h) (Or.inl ⟨by rfl, ?_⟩) HS4 ?_
          · intro w hSw
            go_simp
          simp only [Act.put, List.setIfInBounds_toArray, List.set_cons_zero, List.set_cons_succ]
          refine wpAnyH_take (i := 12) (oi := { dst := some 48, op := .fieldAddr 58 (.tmp 47) 0, type := _, pos := _, after := _, guard := none }) (v := .pointer (some ⟨g, 0, none⟩)) rfl (by kernel_rfl) (by kernel_rfl) (by kernel_rfl) (fun _ _ _ h => h) (Or.inl ⟨by rfl, ?_⟩) HS4 ?_
          · intro w hSw
            go_simp
          simp only [Act.put, List.setIfInBounds_toArray, List.set_cons_zero, List.set_cons_succ]
          refine wpAnyH_ready (rs := [13]) (by kernel_rfl) (by simp) ?_
          refine AllReadyH.cons (o := { dst := none, op := .store 55 (.tmp 48) (.tmp 46), type := _, pos := _, after := _, guard := none }) rfl (fun K hK => ?_) AllReadyH.nil
          rw [if_pos (by rfl)]
          refine wp_store_words (.tmp 48) (.tmp 46) rfl g hs ns bk (L + n) rfl rfl hA4 hs8.out hns8.out ?_
          intro w5 hA5 hb5 hs5
          refine hK.out _ _ (range_block hA5 hns8.out hbk64) (fun _ => ?_)
          simp only [Act.put]
          refine wpAnyH_done (by kernel_rfl) ?_ _
          have HF : Hid (HashIs w5 g (m ++ bs.take (j + n))) := by
            show HashIs _ _ _
            rw [hnew.out]
            refine ⟨bk, hbk64, ?_, ?_⟩
            · rw [← hfull.out.1, hnl.out, ← hhs.out, ← hL.out, ← hr.out, ← hbk.out, ← hcomp.out]; exact hA5
            · rw [hfull.out.2.1, hfull.out.2.2]; rfl
          have hbut5 : But g w w5 := hbutL.trans ((show But g w2 w3 from ⟨hb3.os, hb3.tape, hb3.output, hb3.size, fun k hk _ => hb3.block k hk⟩).trans ((But.of_below hb4).trans hb5))
          go_wp2
          go_roundw
          case rel => exact ⟨j + n, A, c - n, hjn.out.1, by rw [← hjn.out.2.1], hjn.out.2.2.1, fun h => hA.out (hjn.out.2.2.2 h), HF.out, hbut5⟩
          case measure => simp [lenOf]; have := hn64.out; omega
        · skip
          rw [if_pos (by rfl)]
          go_wp2_with (go_at_call 44; refine (spread_hid bk ws hws _ hbk64).mono ?_; rintro e w3 ⟨rfl, hb3⟩)
          have hA3 : At 58 w3 g (hashOf hs bk (L + n)) := (show At 58 w2.drew g _ from hAL).below hb3
          have HS3 := range_block hA3 hs8.out hbk64
          refine hK.out _ _ HS3 (fun _ => ?_)
          refine wpAnyH_ready (rs := [4]) (by kernel_rfl) (by simp) ?_
          refine AllReadyH.cons (o := { dst := some 40, op := .load 55 (.tmp 39), type := _, pos := _, after := _, guard := none }) rfl (fun K hK => ?_) AllReadyH.nil
          rw [if_pos (by rfl)]
          refine wp_load_mid 55 (.tmp 39) rfl g 0 rfl (hs.map U32) _ (range_words hA3 hs8.out) Tryd.underlying55 rfl hihs ?_
          refine hK.out _ _ HS3 (fun _ => ?_)
          simp only [Act.put, List.setIfInBounds_toArray, List.set_cons_zero, List.set_cons_succ]
          refine wpAnyH_ready (rs := [10]) (by kernel_rfl) (by simp) ?_
          refine AllReadyH.cons (o := { dst := some 46, op := .call { callee := .value (.func 43), args := #[.tmp 40, .tmp 45], argTypes := #[55, 66] }, type := _, pos := _, after := _, guard := none }) rfl (fun K hK => ?_) AllReadyH.nil
          rw [if_pos (by rfl)]
          go_wp2_with (go_at_call 43; refine (mix_hid hs ns ws hs8.out hns _ hwl.out ((show Roots w2.drew from hR2).below hb3)).mono ?_; rintro e w4 ⟨rfl, hb4⟩)
          have hA4 := hA3.below hb4
          have HS4 := range_block hA4 hs8.out hbk64
          refine hK.out _ _ HS4 (fun _ => ?_)
          refine wpAnyH_take (i := 11) (oi := { dst := some 47, op := .nilCheck (.tmp 36), type := _, pos := _, after := _, guard := none }) (v := .pointer (some ⟨g, 0, none⟩)) rfl (by kernel_rfl) (by kernel_rfl) (by kernel_rfl) (fun _ _ _ h => h) (Or.inl ⟨by rfl, ?_⟩) HS4 ?_
          · intro w hSw
            go_simp
          simp only [Act.put, List.setIfInBounds_toArray, List.set_cons_zero, List.set_cons_succ]
          refine wpAnyH_take (i := 12) (oi := { dst := some 48, op := .fieldAddr 58 (.tmp 47) 0, type := _, pos := _, after := _, guard := none }) (v := .pointer (some ⟨g, 0, none⟩)) rfl (by kernel_rfl) (by kernel_rfl) (by kernel_rfl) (fun _ _ _ h => h) (Or.inl ⟨by rfl, ?_⟩) HS4 ?_
          · intro w hSw
            go_simp
          simp only [Act.put, List.setIfInBounds_toArray, List.set_cons_zero, List.set_cons_succ]
          refine wpAnyH_ready (rs := [13]) (by kernel_rfl) (by simp) ?_
          refine AllReadyH.cons (o := { dst := none, op := .store 55 (.tmp 48) (.tmp 46), type := _, pos := _, after := _, guard := none }) rfl (fun K hK => ?_) AllReadyH.nil
          rw [if_pos (by rfl)]
          refine wp_store_words (.tmp 48) (.tmp 46) rfl g hs ns bk (L + n) rfl rfl hA4 hs8.out hns8.out ?_
          intro w5 hA5 hb5 hs5
          refine hK.out _ _ (range_block hA5 hns8.out hbk64) (fun _ => ?_)
          simp only [Act.put]
          refine wpAnyH_done (by kernel_rfl) ?_ _
          have HF : Hid (HashIs w5 g (m ++ bs.take (j + n))) := by
            show HashIs _ _ _
            rw [hnew.out]
            refine ⟨bk, hbk64, ?_, ?_⟩
            · rw [← hfull.out.1, hnl.out, ← hhs.out, ← hL.out, ← hr.out, ← hbk.out, ← hcomp.out]; exact hA5
            · rw [hfull.out.2.1, hfull.out.2.2]; rfl
          have hbut5 : But g w w5 := hbutL.trans ((show But g w2 w3 from ⟨hb3.os, hb3.tape, hb3.output, hb3.size, fun k hk _ => hb3.block k hk⟩).trans ((But.of_below hb4).trans hb5))
          go_wp2
          go_roundw
          case rel => exact ⟨j + n, A, c - n, hjn.out.1, by rw [← hjn.out.2.1], hjn.out.2.2.1, fun h => hA.out (hjn.out.2.2.2 h), HF.out, hbut5⟩
          case measure => simp [lenOf]; have := hn64.out; omega
      · have hzb : (((L : Int) + (n : Int)) % 64 == 0) = false := by simp; omega
        have hpart := put_part m' ch blk h64 hblk (by rw [hcl.out, ← hL.out, ← hr.out]; have := hn64.out; have := hr.out; omega)
        have HF : Hid (HashIs (w1.setCell ⟨g, 72, none⟩ (.int .i64 ((L : Int) + (n : Int)))) g (m ++ bs.take (j + n))) := by
          show HashIs _ _ _
          rw [hnew.out]
          refine ⟨bk, hbk64, ?_, ?_⟩
          · rw [← hpart.1, hnl.out, ← hhs.out]; exact hAL
          · rw [hbk.out, hr.out, hL.out]; exact hpart.2
        clear hpart hAL hsl h72 hlen74 h64 hAt hcsl hsz hc hblk
        go_wp2
        go_roundw
        case rel => exact ⟨j + n, A, c - n, hjn.out.1, by rw [← hjn.out.2.1], hjn.out.2.2.1, fun h => hA.out (hjn.out.2.2.2 h), HF.out, hbutL⟩
        case measure => simp [lenOf]; have := hn64.out; omega
    · have hjl : Hid (j = bs.length) := by show _ = _; omega
      have hz0 : bs.length - j = 0 := by omega
      have HF : Hid (HashIs wr g (m ++ bs)) := by
        show HashIs _ _ _
        rw [hjl.out, List.take_length] at hHr
        exact hHr
      clear hHr had hc
      go_wp2
      go_end0
      exact ⟨rfl, HF.out, hbut⟩
end Go.Proofs.YtbigkblkfnnfkaaDoor
