/- assizeref02.block: the eight words behind a block of a slice. -/
import Derived.Test.YtbigkblkfnnfkaaDoorSpread
namespace Go.Proofs.YtbigkblkfnnfkaaDoor
open Go.RowKit
set_option linter.unusedVariables false

/-- The words at the head of round t. -/
def wAt (bs : List UInt8) (t : Nat) : List Nat := if t ≤ 16 then loadW bs (4 * t) else extW (loadW bs 64) (t - 16)

theorem wAt_length (bs : List UInt8) (t : Nat) : (wAt bs t).length = 64 := by
  unfold wAt; split
  · exact loadW_length _ _
  · rw [extW_length, loadW_length]
theorem wAt_small (bs : List UInt8) (t : Nat) (h : t < 16) : wAt bs t = loadW bs (4 * t + 0) ∧ wAt bs (t + 1) = loadW bs (4 * t + 4) := by
  unfold wAt; rw [if_pos (by omega), if_pos (by omega)]; exact ⟨rfl, rfl⟩
theorem wAt_great (bs : List UInt8) (t : Nat) (h : 16 ≤ t) : wAt bs t = extW (loadW bs 64) (t - 16) := by
  unfold wAt; split
  · obtain rfl : t = 16 := by omega
    rfl
  · rfl

theorem quiet_more {P : Program} {f : FuncId} {args : Array Value} {w : World} {n m : Nat} {v : Value}
    (h : Calls P f args (w.drewN (n + m)) fun e w' => e = .returned v ∧ ∃ k, w' = (w.drewN (n + m)).drewN k) : Calls P f args (w.drewN (n + m)) fun e w'' => e = .returned v ∧ ∃ k, w'' = w.drewN (n + k) :=
  h.mono fun _ _ ⟨he, k, hk⟩ => ⟨he, m + k, by rw [hk, World.drewN_drewN, Nat.add_assoc]⟩

theorem len8 (s : St) : (s.list.map U32).length = 8 := rfl
theorem u32_one (l : List Nat) : ∀ v ∈ l.map U32, v.oneCell' = true := by
  intro v hv; simp at hv; obtain ⟨x, _, rfl⟩ := hv; rfl

theorem cell55 {w : World} {g : Nat} {l : List Nat} (h : At 55 w g (l.map U32)) (i : Nat) (hi : i < l.length) : w.cell? ⟨g, i, none⟩ = some (.int .u32 ((l.getD i 0 : Nat) : Int)) := by
  rw [h.cell]; simp [U32, List.getD, List.getElem?_eq_getElem hi]

attribute [local go_sem] xor32_eq and32_eq or32_eq not32_eq

set_option maxRecDepth 100000 in
set_option maxHeartbeats 3200000 in
theorem block_any (s0 : St) (b off cap at0 : Nat) (all bs : List UInt8) (w : World) (hc : ∀ j, j < all.length → w.cell? ⟨b, off + j, none⟩ = some (.int .u8 ((all.getD j 0).toNat : Int))) (hat : at0 + 64 ≤ all.length) (hmax : all.length ≤ 1099511627776) (hbs : Hid (bs = (all.drop at0).take 64)) (ws : List Nat) (hws : Hid (ws = extW (loadW bs 64) 48)) :
    Calls Tryd.prog 37 #[.agg (s0.list.map U32).toArray, .agg (roots.map U32).toArray, .slice (some ⟨b, off, none⟩) all.length cap, .int .i64 (at0 : Int)] w fun e w' => e = .returned (.agg ((addTo s0.list (rnds roots ws s0 64).list 8).map U32).toArray) ∧ Below w.heap.size w w' := by
  go_enter Tryd.func37, Tryd.ntmps37
  go_wp2_with (first | (refine wpList_box_at rfl 55 (.tmp 0) rfl (s0.list.map U32) rfl ?_; intro w1 hA1 hb1 hs1) | (refine wpList_box_at rfl 66 (.tmp 1) rfl (roots.map U32) rfl ?_; intro w2 hA2 hb2 hs2) | (refine wpList_alloc_at rfl 55 rfl _ 8 z55 ?_; intro w3 hA3 hb3 hs3) | (refine wpList_alloc_at rfl 66 rfl _ 64 z66 ?_; intro w4 hA4 hb4 hs4))
  have hbel : Below w.heap.size w w4 := hb1.trans ((hb2.mono (by omega)).trans ((hb3.mono (by omega)).trans (hb4.mono (by omega))))
  have hB1 : At 55 w4 w.heap.size (s0.list.map U32) := ((hA1.below hb2).below hb3).below hb4
  have hB2 : At 66 w4 (w.heap.size + 1) (roots.map U32) := by rw [← hs1]; exact (hA2.below hb3).below hb4
  have hB3 : At 55 w4 (w.heap.size + 1 + 1) (List.replicate 8 (Value.int .u32 0)) := by rw [← hs1, ← hs2]; exact hA3.below hb4
  have hB4 : At 66 w4 (w.heap.size + 1 + 1 + 1) (List.replicate 64 (Value.int .u32 0)) := by rw [← hs1, ← hs2, ← hs3]; exact hA4
  have hblt : b < w.heap.size := lt_of_cell (hc 0 (by omega))
  clear hA1 hA2 hA3 hA4 hb1 hb2 hb3 hb4 hs1 hs2 hs3 hs4
  go_loopw [10] (fun t wr => ∃ k : Nat, k ≤ 64 ∧ t = .int .i64 k ∧ At 66 wr (w.heap.size + 1 + 1 + 1) ((wAt bs k).map U32) ∧ But (w.heap.size + 1 + 1 + 1) w4 wr) (fun t _ => 64 - (intOf t).toNat)
  case atStart => exact ⟨0, by omega, rfl, hB4, But.refl _ _⟩
  case round =>
    obtain ⟨k, hk, rfl, hC, hbut⟩ := hrel
    by_cases hlt : k < 64
    · by_cases h16 : k < 16
      · clear hB1 hB2 hB3 hB4
        have hd16 : decide ((k : Int) < 16) = true := by simp; omega
        go_wp2_with fail
        go_loopw [11] (fun t wr => ∃ i : Nat, i ≤ 4 ∧ t = .int .i64 i ∧ At 66 wr (w.heap.size + 1 + 1 + 1) ((loadW bs (4 * k + i)).map U32) ∧ But (w.heap.size + 1 + 1 + 1) w4 wr) (fun t _ => 4 - (intOf t).toNat)
        case atStart => exact ⟨0, by omega, rfl, by rw [← (wAt_small bs k h16).1]; exact hC, hbut⟩
        case round =>
          obtain ⟨i, hi, rfl, hD, hbut2⟩ := hrel
          clear hC hbut
          by_cases hi4 : i < 4
          · have hP : wr.cell? ⟨b, off + (at0 + 4 * k + i), none⟩ = some (.int .u8 (((bs.getD (4 * k + i) 0).toNat : Nat) : Int)) := by
              rw [World.cell?_of_block (w := w4) (hbut2.block b (Nat.lt_of_lt_of_le hblt hbel.size) (by omega)), hbel.cell (by exact hblt), hc _ (by omega), hbs.out]
              have e : ((all.drop at0).take 64).getD (4 * k + i) 0 = all.getD (at0 + 4 * k + i) 0 := by
                simp [List.getD, List.getElem?_take_of_lt (show 4 * k + i < 64 by omega), Nat.add_assoc]
              rw [e]
            have hW := cell32 hD k (by rw [loadW_length]; omega)
            have hF := hD.frozen k
            obtain ⟨c, hcc⟩ : ∃ c, Hid (c = (bs.getD (4 * k + i) 0).toNat) := ⟨_, rfl⟩
            obtain ⟨x, hx⟩ : ∃ x, Hid (x = (loadW bs (4 * k + i)).getD k 0) := ⟨_, rfl⟩
            rw [← hcc.out] at hP
            rw [← hx.out] at hW
            have hO := sh8_eq x c
            have hcm : (c : Int) % 4294967296 = c := by have := UInt8.toNat_lt (bs.getD (4 * k + i) 0); rw [hcc.out]; omega
            have HS : Hid (((loadW bs (4 * k + i)).map U32).set k (.int .u32 ((or32 (x * 256 % 4294967296) c : Nat) : Int)) = (loadW bs (4 * k + (i + 1))).map U32) := by
              have := load_step bs (4 * k + i) x c (by rw [hx.out]; congr 1; omega) hcc.out
              rw [show (4 * k + i) / 4 = k by omega] at this
              exact this
            have i1 : (0 : Int) ≤ (at0 : Int) + 4 * (k : Int) + (i : Int) := by omega
            have i2 : (at0 : Int) + 4 * (k : Int) + (i : Int) < (all.length : Int) := by omega
            have i3 : ((at0 : Int) + 4 * (k : Int) + (i : Int)).toNat = at0 + 4 * k + i := by omega
            clear hc hbel
            go_wp2_with fail
            go_region
            go_wp2
            go_roundw
            case rel => exact ⟨i + 1, by omega, by go_num, by rw [← HS.out]; exact (hD.set _ _).drew, (hbut2.setCell _ _).drewN 1⟩
            case measure => simp [intOf]; omega
          · have hi44 : Hid (i = 4) := by show _ = _; omega
            go_wp2
            go_roundw
            case rel => exact ⟨k + 1, by omega, by go_num, by rw [(wAt_small bs k h16).2]; rw [hi44.out] at hD; exact hD, hbut2⟩
            case measure => simp [intOf]; omega
      · have hd16 : decide ((k : Int) < 16) = false := by simp; omega
        have hlen := wAt_length bs k
        have q2 := cell32 hC (k - 2) (by omega)
        have q7 := cell32 hC (k - 7) (by omega)
        have q15 := cell32 hC (k - 15) (by omega)
        have q16 := cell32 hC (k - 16) (by omega)
        have hFr := hC.frozen k
        have hcell := cell32 hC k (by omega)
        obtain ⟨a, ha⟩ : ∃ c, Hid (c = (wAt bs k).getD (k - 2) 0) := ⟨_, rfl⟩
        obtain ⟨x7, hx7⟩ : ∃ c, Hid (c = (wAt bs k).getD (k - 7) 0) := ⟨_, rfl⟩
        obtain ⟨c, hcc⟩ : ∃ c, Hid (c = (wAt bs k).getD (k - 15) 0) := ⟨_, rfl⟩
        obtain ⟨d, hd⟩ : ∃ c, Hid (c = (wAt bs k).getD (k - 16) 0) := ⟨_, rfl⟩
        obtain ⟨z, hz⟩ : ∃ c, Hid (c = (wAt bs k).getD k 0) := ⟨_, rfl⟩
        rw [← ha.out] at q2
        rw [← hx7.out] at q7
        rw [← hcc.out] at q15
        rw [← hd.out] at q16
        rw [← hz.out] at hcell
        have ht1 : 16 ≤ k := by omega
        have HS : Hid (((wAt bs k).map U32).set k (.int .u32 ((((sg1 a : Nat) : Int) + (x7 : Int) + ((sg0 c : Nat) : Int) + (d : Int)) % 4294967296)) = (wAt bs (k + 1)).map U32) := by
          have e1 := wAt_great bs k ht1
          have e2 := wAt_great bs (k + 1) (by omega)
          rw [e2, show k + 1 - 16 = (k - 16) + 1 by omega, ← ext_step (loadW bs 64) (k - 16) a x7 c d (by rw [ha.out, e1]; congr 1; omega) (by rw [hx7.out, e1]; congr 1; omega) (by rw [hcc.out, e1]; congr 1; omega) (by rw [hd.out, e1]; congr 1; omega), ← e1]
          show _ = _
          congr 1
          omega
        have s0' := sg0_eq c
        have s1' := sg1_eq a
        clear hB1 hB2 hB3 hB4 hc hbel
        go_wp2_with fail
        go_quiet (first | (go_at_call_of 45 (Value.int IntKind.i64 7); first | exact Calls.quiet_of (right_lit _ 7 _ _ rfl (by decide)) | exact quiet_more (right_lit _ 7 _ _ rfl (by decide))) | (go_at_call_of 45 (Value.int IntKind.i64 18); first | exact Calls.quiet_of (right_lit _ 18 _ _ rfl (by decide)) | exact quiet_more (right_lit _ 18 _ _ rfl (by decide))))
        go_wp2_with fail
        go_quiet (first | (go_at_call_of 45 (Value.int IntKind.i64 17); first | exact Calls.quiet_of (right_lit _ 17 _ _ rfl (by decide)) | exact quiet_more (right_lit _ 17 _ _ rfl (by decide))) | (go_at_call_of 45 (Value.int IntKind.i64 19); first | exact Calls.quiet_of (right_lit _ 19 _ _ rfl (by decide)) | exact quiet_more (right_lit _ 19 _ _ rfl (by decide))))
        go_wp2_with fail
        go_region
        go_wp2
        go_roundw
        case rel => exact ⟨k + 1, by omega, by go_num, by rw [← HS.out]; exact (hC.drewN _).set _ _, (hbut.drewN _).setCell _ _⟩
        case measure => simp [intOf]; omega
    · have hk64 : Hid (k = 64) := by show _ = _; omega
      have hCw : At 66 wr (w.heap.size + 1 + 1 + 1) (ws.map U32) := by
        have e := wAt_great bs 64 (by omega)
        rw [hk64.out, e] at hC
        rw [hws.out]
        exact hC
      have hD1 := hbut.at hB1 (by omega)
      have hD2 := hbut.at hB2 (by omega)
      have hD3 := hbut.at hB3 (by omega)
      have hbl : Below w.heap.size w wr := hbut.below hbel (by omega) hbel.size
      have hi8 : ∀ s : St, (Tryd.prog.info? 55).map (·.size) = some (s.list.map U32).length := fun _ => i55
      have ho8 : (List.replicate 8 (Value.int .u32 0)).length = (s0.list.map U32).length := rfl
      have hlw : ws.length = 64 := by rw [hws.out, extW_length, loadW_length]
      clear hB1 hB2 hB3 hB4 hbel hc hC hbut
      go_wp2_with ((with_reducible show wpList _ _ _ _ _ _); first | (refine wpList_load_at (P := Tryd.prog) rfl 55 (.tmp 4) rfl w.heap.size rfl 55 (s0.list.map U32) hD1 _ Tryd.underlying55 rfl (hi8 s0) ?_) | (refine wpList_alloc_at rfl 55 rfl _ 8 z55 ?_; intro w5 hA5 hb5 hs5) | (refine wpList_store_at (P := Tryd.prog) rfl 55 (.tmp 14) (.tmp 95) rfl wr.heap.size (s0.list.map U32) rfl rfl 55 _ hA5 (hi8 s0) ho8 (u32_one s0.list) ?_; intro w6 hA6 hb6 hs6))
      obtain ⟨g, hg⟩ : ∃ g, g = wr.heap.size := ⟨_, rfl⟩
      rw [← hg] at hA6 hb6 hA5 ⊢
      have hgg : Hid (w.heap.size + 1 + 1 + 1 < g) := by rw [hg]; exact hCw.lt
      have hE1 := hb6.at (hD1.below hb5) (by have := hgg.out; omega)
      have hE2 := hb6.at (hD2.below hb5) (by have := hgg.out; omega)
      have hE3 := hb6.at (hD3.below hb5) (by have := hgg.out; omega)
      have hE4 := hb6.at (hCw.below hb5) (by have := hgg.out; omega)
      have hbel6 : Below w.heap.size w w6 := hb6.below (hbl.trans (hb5.mono hbl.size)) (by have := hgg.out; omega) (Nat.le_trans hbl.size hb5.size)
      clear hD1 hD2 hD3 hCw hbl hA5 hb5 hs5 hb6 hs6 hg
      go_loopw [15] (fun t wr => ∃ (k : Nat) (s : St), k ≤ 64 ∧ t = .int .i64 k ∧ Hid (s = rnds roots ws s0 k) ∧ At 55 wr g (s.list.map U32) ∧ But g w6 wr) (fun t _ => 64 - (intOf t).toNat)
      case atStart => exact ⟨0, s0, by omega, rfl, rfl, hA6, But.refl _ _⟩
      case round =>
        obtain ⟨k, s, hk, rfl, hs, hG, hbut⟩ := hrel
        clear hA6
        by_cases hlt : k < 64
        · have c0 : wr.cell? ⟨g, 0, none⟩ = some (.int .u32 (s.a : Int)) := by rw [hG.cell]; rfl
          have c1 : wr.cell? ⟨g, 1, none⟩ = some (.int .u32 (s.b : Int)) := by rw [hG.cell]; rfl
          have c2 : wr.cell? ⟨g, 2, none⟩ = some (.int .u32 (s.c : Int)) := by rw [hG.cell]; rfl
          have c3 : wr.cell? ⟨g, 3, none⟩ = some (.int .u32 (s.d : Int)) := by rw [hG.cell]; rfl
          have c4 : wr.cell? ⟨g, 4, none⟩ = some (.int .u32 (s.e : Int)) := by rw [hG.cell]; rfl
          have c5 : wr.cell? ⟨g, 5, none⟩ = some (.int .u32 (s.f : Int)) := by rw [hG.cell]; rfl
          have c6 : wr.cell? ⟨g, 6, none⟩ = some (.int .u32 (s.g : Int)) := by rw [hG.cell]; rfl
          have c7 : wr.cell? ⟨g, 7, none⟩ = some (.int .u32 (s.h : Int)) := by rw [hG.cell]; rfl
          have hK := cell32 (hbut.at hE2 (by have := hgg.out; omega)) k (by rw [roots_length]; omega)
          have hW := cell32 (hbut.at hE4 (by have := hgg.out; omega)) k (by omega)
          obtain ⟨x, hx⟩ : ∃ x, Hid (x = ws.getD k 0) := ⟨_, rfl⟩
          obtain ⟨y, hy⟩ : ∃ y, Hid (y = roots.getD k 0) := ⟨_, rfl⟩
          rw [← hx.out] at hW
          rw [← hy.out] at hK
          clear hE1 hE2 hE3 hE4 hbel6
          go_wp2_with fail
          go_quiet (first | (go_at_call_of 45 (Value.int IntKind.i64 6); first | exact Calls.quiet_of (right_lit _ 6 _ _ rfl (by decide)) | exact quiet_more (right_lit _ 6 _ _ rfl (by decide))) | (go_at_call_of 45 (Value.int IntKind.i64 11); first | exact Calls.quiet_of (right_lit _ 11 _ _ rfl (by decide)) | exact quiet_more (right_lit _ 11 _ _ rfl (by decide))) | (go_at_call_of 45 (Value.int IntKind.i64 25); first | exact Calls.quiet_of (right_lit _ 25 _ _ rfl (by decide)) | exact quiet_more (right_lit _ 25 _ _ rfl (by decide))))
          go_wp2_with fail
          go_quiet (first | (go_at_call_of 45 (Value.int IntKind.i64 2); first | exact Calls.quiet_of (right_lit _ 2 _ _ rfl (by decide)) | exact quiet_more (right_lit _ 2 _ _ rfl (by decide))) | (go_at_call_of 45 (Value.int IntKind.i64 13); first | exact Calls.quiet_of (right_lit _ 13 _ _ rfl (by decide)) | exact quiet_more (right_lit _ 13 _ _ rfl (by decide))) | (go_at_call_of 45 (Value.int IntKind.i64 22); first | exact Calls.quiet_of (right_lit _ 22 _ _ rfl (by decide)) | exact quiet_more (right_lit _ 22 _ _ rfl (by decide))))
          go_wp2_with ((with_reducible show wpList _ _ _ _ _ _); refine wpList_store_at (P := Tryd.prog) rfl 55 (.tmp 14) (.tmp 183) rfl g ((rnd y x s).list.map U32) rfl ?hv 55 (s.list.map U32) (by exact hG) (hi8 _) ((len8 s).trans (len8 _).symm) (u32_one _) ?_)
          case hv =>
            show Value.agg _ = Value.agg _
            simp [rnd, pOf, qOf, St.list, U32]
          intro w7 hA7 hb7 hs7
          go_wp2
          go_roundw
          case rel => exact ⟨k + 1, rnd y x s, by omega, by go_num, (by rw [hs.out, hx.out, hy.out]; rfl), hA7, hbut.trans ⟨hb7.os, hb7.tape, hb7.output, hb7.size, hb7.block⟩⟩
          case measure => simp [intOf]; omega
        · have hk65 : Hid (k = 64) := by show _ = _; omega
          have hF1 := hbut.at hE1 (by have := hgg.out; omega)
          have hF3 := hbut.at hE3 (by have := hgg.out; omega)
          have hbl : Below w.heap.size w wr := hbut.below hbel6 (by have := hgg.out; omega) hbel6.size
          clear hE1 hE2 hE3 hE4 hbel6 hbut
          go_wp2_with fail
          go_loopw [18] (fun t wr => ∃ k : Nat, k ≤ 8 ∧ t = .int .i64 k ∧ At 55 wr w.heap.size ((addTo s0.list s.list k).map U32) ∧ At 55 wr g (s.list.map U32) ∧ At 55 wr (w.heap.size + 1 + 1) (List.replicate 8 (Value.int .u32 0)) ∧ Below w.heap.size w wr)
            (fun t _ => 8 - (intOf t).toNat)
          case atStart => exact ⟨0, by omega, rfl, hF1, hG, hF3, hbl⟩
          case round =>
            obtain ⟨k, hk, rfl, hC1, hC4, hC3, hbk⟩ := hrel
            clear hF1 hG hF3 hbl
            by_cases hlt : k < 8
            · have hI := cell55 hC4 k hlt
              have hW : wr.cell? ⟨w.heap.size, k, none⟩ = some (.int .u32 ((s0.list.getD k 0 : Nat) : Int)) := by
                rw [hC1.cell, List.getElem?_map, addTo_get _ _ _ _ (Nat.le_refl _)]
                simp [U32, List.getD, List.getElem?_eq_getElem (show k < s0.list.length from hlt)]
              have hF := hC1.frozen k
              obtain ⟨x, hx⟩ : ∃ x, Hid (x = s.list.getD k 0) := ⟨_, rfl⟩
              obtain ⟨y, hy⟩ : ∃ y, Hid (y = s0.list.getD k 0) := ⟨_, rfl⟩
              rw [← hx.out] at hI
              rw [← hy.out] at hW
              have HS : Hid (((addTo s0.list s.list k).map U32).set k (.int .u32 (((y : Int) + (x : Int)) % 4294967296)) = (addTo s0.list s.list (k + 1)).map U32) := addTo_step s0.list s.list k hlt _ (by rw [hx.out, hy.out]; simp [U32])
              go_wp2_with fail
              go_region
              go_wp2
              go_roundw
              case rel => exact ⟨k + 1, by omega, by go_num, by rw [← HS.out]; exact (hC1.set _ _).drew, (hC4.setOther _ _ (by have := hgg.out; simp; omega)).drew, (hC3.setOther _ _ (by simp; omega)).drew, (hbk.setCell (Nat.le_refl _) _).drew⟩
              case measure => simp [intOf]; omega
            · have hk8 : Hid (k = 8) := by show _ = _; omega
              rw [hk8.out] at hC1
              obtain ⟨cs, hcs⟩ : ∃ cs, Hid (cs = addTo s0.list s.list 8) := ⟨_, rfl⟩
              rw [← hcs.out] at hC1
              have hl : (cs.map U32).length = 8 := by rw [hcs.out]; simp [addTo_length]; rfl
              have hic : (Tryd.prog.info? 55).map (·.size) = some (cs.map U32).length := by rw [hl]; exact i55
              have hoc : (List.replicate 8 (Value.int .u32 0)).length = (cs.map U32).length := by rw [hl]; rfl
              go_wp2_with ((with_reducible show wpList _ _ _ _ _ _); first | (refine wpList_load_at (P := Tryd.prog) rfl 55 (.tmp 4) rfl w.heap.size rfl 55 (cs.map U32) hC1 _ Tryd.underlying55 rfl hic ?_) | (refine wpList_store_at (P := Tryd.prog) rfl 55 (.tmp 8) (.tmp 197) rfl (w.heap.size + 1 + 1) (cs.map U32) rfl rfl 55 _ hC3 hic hoc (u32_one _) ?_; intro w8 hA8 hb8 hs8))
              refine bodyPost_ret (results_at rfl _ _ (w.heap.size + 1 + 1) 55 (cs.map U32) _ rfl hA8 Tryd.underlying55 rfl hic) rfl ?_
              exact ⟨by rw [hcs.out, hs.out, hk65.out], hb8.below hbk (by omega) hbk.size⟩
end Go.Proofs.YtbigkblkfnnfkaaDoor
