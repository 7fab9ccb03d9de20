/- digest.spread: the 64 words of a block. -/
import Derived.Test.YtbigkblkfnnfkaaDoorMix
namespace Go.Proofs.YtbigkblkfnnfkaaDoor
open Go.RowKit
set_option linter.unusedVariables false

def put8 (l : List Nat) (i c : Nat) : List Nat := l.set (i / 4) (or32 (l.getD (i / 4) 0 * 256 % 4294967296) c)
def loadW (bs : List UInt8) : Nat → List Nat
  | 0 => List.replicate 64 0
  | n + 1 => put8 (loadW bs n) n (bs.getD n 0).toNat
def sg0 (x : Nat) : Nat := xor32 (xor32 (rot x 7) (rot x 18)) (x / 8)
def sg1 (x : Nat) : Nat := xor32 (xor32 (rot x 17) (rot x 19)) (x / 1024)
def extS (l : List Nat) (t : Nat) : List Nat := l.set t ((sg1 (l.getD (t - 2) 0) + l.getD (t - 7) 0 + sg0 (l.getD (t - 15) 0) + l.getD (t - 16) 0) % 4294967296)
def extW (l : List Nat) : Nat → List Nat
  | 0 => l
  | n + 1 => extS (extW l n) (16 + n)

theorem loadW_length (bs : List UInt8) (n : Nat) : (loadW bs n).length = 64 := by
  induction n with
  | zero => simp [loadW]
  | succ n ih => simp [loadW, put8, ih]
theorem extW_length (l : List Nat) (n : Nat) : (extW l n).length = l.length := by
  induction n with
  | zero => rfl
  | succ n ih => simp [extW, extS, ih]

theorem sh8_eq (x c : Nat) : bits .or .u32 ((x : Int) * 256 % 4294967296) (c : Int) = ((or32 (x * 256 % 4294967296) c : Nat) : Int) := by
  rw [← or32_eq]; simp
theorem sg0_eq (x : Nat) : bits .xor .u32 ((xor32 (rot x 7) (rot x 18) : Nat) : Int) ((x : Int) / 8) = ((sg0 x : Nat) : Int) := by
  have h := xor32_eq (xor32 (rot x 7) (rot x 18)) (x / 8)
  rw [Int.natCast_ediv] at h
  exact h
theorem sg1_eq (x : Nat) : bits .xor .u32 ((xor32 (rot x 17) (rot x 19) : Nat) : Int) ((x : Int) / 1024) = ((sg1 x : Nat) : Int) := by
  have h := xor32_eq (xor32 (rot x 17) (rot x 19)) (x / 1024)
  rw [Int.natCast_ediv] at h
  exact h

theorem cell32 {w : World} {g : Nat} {l : List Nat} (h : At 66 w g (l.map U32)) (i : Nat) (hi : i < l.length) : w.cell? ⟨g, i, none⟩ = some (.int .u32 ((l.getD i 0 : Nat) : Int)) := by
  rw [h.cell]; simp [U32, List.getD, List.getElem?_eq_getElem hi]

theorem load_step (bs : List UInt8) (k x c : Nat) (hx : x = (loadW bs k).getD (k / 4) 0) (hc : c = (bs.getD k 0).toNat) : ((loadW bs k).map U32).set (k / 4) (.int .u32 ((or32 (x * 256 % 4294967296) c : Nat) : Int)) = (loadW bs (k + 1)).map U32 := by
  rw [loadW, put8, List.map_set, hx, hc]; rfl

theorem ext_step (l : List Nat) (n a b c d : Nat) (ha : a = (extW l n).getD (16 + n - 2) 0) (hb : b = (extW l n).getD (16 + n - 7) 0) (hc : c = (extW l n).getD (16 + n - 15) 0) (hd : d = (extW l n).getD (16 + n - 16) 0) :
    ((extW l n).map U32).set (16 + n) (.int .u32 ((((sg1 a : Nat) : Int) + (b : Int) + ((sg0 c : Nat) : Int) + (d : Int)) % 4294967296)) = (extW l (n + 1)).map U32 := by
  rw [extW, extS, List.map_set, ha, hb, hc, hd]
  simp [U32]

attribute [local go_sem] xor32_eq and32_eq or32_eq not32_eq

set_option maxRecDepth 100000 in
set_option maxHeartbeats 1600000 in
theorem spread_any (bs : List UInt8) (w : World) (h64 : bs.length = 64) :
    Calls Tryd.prog 44 #[.agg (bs.map B8).toArray] w fun e w' => e = .returned (.agg ((extW (loadW bs 64) 48).map U32).toArray) ∧ Below w.heap.size w w' := by
  have hl64 : (bs.map B8).length = 64 := by simpa using h64
  go_enter Tryd.func44, Tryd.ntmps44
  go_wp2_with (first | (refine wpList_box_at rfl 56 (.tmp 0) rfl (bs.map B8) rfl ?_; intro w1 hA1 hb1 hs1) | (refine wpList_alloc_at (o := { dst := some 2, .. }) rfl 66 rfl _ 64 z66 ?_; intro w2 hA2 hb2 hs2) | (refine wpList_alloc_at rfl 66 rfl _ 64 z66 ?_; intro w3 hA3 hb3 hs3) | (refine wpList_load_at rfl 56 (.tmp 1) rfl w.heap.size rfl 56 _ ((hA1.below hb2).below hb3) _ Tryd.underlying56 rfl (by rw [hl64]; exact i56) ?_))
  have hbel : Below w.heap.size w w3 := hb1.trans ((hb2.mono (by omega)).trans (hb3.mono (by omega)))
  have hB1 : At 66 w3 (w.heap.size + 1) (List.replicate 64 (Value.int .u32 0)) := by rw [← hs1]; exact hA2.below hb3
  have hB2 : At 66 w3 (w.heap.size + 1 + 1) (List.replicate 64 (Value.int .u32 0)) := by rw [← hs1, ← hs2]; exact hA3
  clear hA1 hA2 hA3 hb1 hb2 hb3 hs1 hs2 hs3
  go_loopw [12] (fun t wr => ∃ k : Nat, k ≤ 64 ∧ t = .int .i64 k ∧ At 66 wr (w.heap.size + 1 + 1) ((loadW bs k).map U32) ∧ At 66 wr (w.heap.size + 1) (List.replicate 64 (Value.int .u32 0)) ∧ Below w.heap.size w wr)
    (fun t _ => 64 - (intOf t).toNat)
  case atStart => exact ⟨0, by omega, rfl, hB2, hB1, hbel⟩
  case round =>
    obtain ⟨k, hk, rfl, hC1, hC2, hbl⟩ := hrel
    clear hB1 hB2 hbel
    by_cases hlt : k < 64
    · have hI : (bs.map B8)[k]? = some (.int .u8 (((bs.getD k 0).toNat : Nat) : Int)) := by simp [B8, List.getD, List.getElem?_eq_getElem (show k < bs.length by omega)]
      have hW := cell32 hC1 (k / 4) (by rw [loadW_length]; omega)
      have hF := hC1.frozen (k / 4)
      obtain ⟨c, hc⟩ : ∃ c, Hid (c = (bs.getD k 0).toNat) := ⟨_, rfl⟩
      obtain ⟨x, hx⟩ : ∃ x, Hid (x = (loadW bs k).getD (k / 4) 0) := ⟨_, rfl⟩
      rw [← hc.out] at hI
      rw [← hx.out] at hW
      have hJ : ∀ u, (Instr.index 56 (.agg (bs.map B8).toArray) (.int .i64 (k : Int))).run Tryd.prog u = .ok (.int .u8 (c : Int)) u := fun u => run_index56 _ k _ u hlt hI
      have hO := sh8_eq x c
      have hcm : (c : Int) % 4294967296 = c := by have := UInt8.toNat_lt (bs.getD k 0); rw [hc.out]; omega
      clear hI
      go_wp2
      go_roundw
      case rel => exact ⟨k + 1, by omega, by go_num, by rw [← load_step bs k x c hx.out hc.out]; exact hC1.set _ _, hC2.setOther _ _ (by simp), hbl.setCell (by simp; omega) _⟩
      case measure => simp [intOf]; omega
    · have hk64 : Hid (k = 64) := by show _ = _; omega
      rw [hk64.out] at hC1
      go_wp2_with fail
      go_loopw [6] (fun t wr => ∃ n : Nat, n ≤ 48 ∧ t = .int .i64 ((16 + n : Nat) : Int) ∧ At 66 wr (w.heap.size + 1 + 1) ((extW (loadW bs 64) n).map U32) ∧ At 66 wr (w.heap.size + 1) (List.replicate 64 (Value.int .u32 0)) ∧ Below w.heap.size w wr)
        (fun t _ => 64 - (intOf t).toNat)
      case atStart => exact ⟨0, by omega, rfl, hC1, hC2, hbl⟩
      case round =>
        obtain ⟨n, hn, rfl, hD1, hD2, hbd⟩ := hrel
        clear hC1 hC2 hbl
        have hlen : (extW (loadW bs 64) n).length = 64 := by rw [extW_length, loadW_length]
        by_cases hlt : n < 48
        · have q2 := cell32 hD1 (16 + n - 2) (by omega)
          have q7 := cell32 hD1 (16 + n - 7) (by omega)
          have q15 := cell32 hD1 (16 + n - 15) (by omega)
          have q16 := cell32 hD1 (16 + n - 16) (by omega)
          obtain ⟨t, ht⟩ : ∃ t, Hid (t = 16 + n) := ⟨_, rfl⟩
          have hFr := hD1.frozen t
          have hcell : wr.cell? ⟨w.heap.size + 1 + 1, t, none⟩ = some (.int .u32 (((extW (loadW bs 64) n).getD t 0 : Nat) : Int)) := cell32 hD1 t (by rw [ht.out]; omega)
          obtain ⟨a, ha⟩ : ∃ c, Hid (c = (extW (loadW bs 64) n).getD (16 + n - 2) 0) := ⟨_, rfl⟩
          obtain ⟨b, hb⟩ : ∃ c, Hid (c = (extW (loadW bs 64) n).getD (16 + n - 7) 0) := ⟨_, rfl⟩
          obtain ⟨c, hc⟩ : ∃ c, Hid (c = (extW (loadW bs 64) n).getD (16 + n - 15) 0) := ⟨_, rfl⟩
          obtain ⟨d, hd⟩ : ∃ c, Hid (c = (extW (loadW bs 64) n).getD (16 + n - 16) 0) := ⟨_, rfl⟩
          obtain ⟨z, hz⟩ : ∃ c, Hid (c = (extW (loadW bs 64) n).getD t 0) := ⟨_, rfl⟩
          rw [← ha.out] at q2
          rw [← hb.out] at q7
          rw [← hc.out] at q15
          rw [← hd.out] at q16
          rw [← hz.out] at hcell
          have ht1 : 16 ≤ t := by rw [ht.out]; omega
          have ht2 : t < 64 := by rw [ht.out]; omega
          rw [← ht.out] at q2 q7 q15 q16 ⊢
          have s0 := sg0_eq c
          have s1 := sg1_eq a
          go_wp2_with fail
          go_quiet (fail)
          go_wp2_with (first | (go_at_call_of 47 (Value.int IntKind.u64 7); refine (turn_lit _ 7 _ _ rfl (by decide)).mono ?_; rintro e w9 ⟨rfl, rfl⟩) | (go_at_call_of 47 (Value.int IntKind.u64 18); refine (turn_lit _ 18 _ _ rfl (by decide)).mono ?_; rintro e w9 ⟨rfl, rfl⟩) | (go_at_call_of 47 (Value.int IntKind.u64 17); refine (turn_lit _ 17 _ _ rfl (by decide)).mono ?_; rintro e w9 ⟨rfl, rfl⟩) | (go_at_call_of 47 (Value.int IntKind.u64 19); refine (turn_lit _ 19 _ _ rfl (by decide)).mono ?_; rintro e w9 ⟨rfl, rfl⟩))
          go_region
          go_wp2
          go_roundw
          case rel => exact ⟨n + 1, by omega, (by rw [ht.out]; go_num), by rw [← ext_step _ n a b c d ha.out hb.out hc.out hd.out, ← ht.out]; exact (hD1.drewN _).set _ _, (hD2.drewN _).setOther _ _ (by simp), (show Below w.heap.size w (wr.drewN _) from ⟨hbd.os, hbd.tape, hbd.output, hbd.size, hbd.block⟩).setCell (by simp; omega) _⟩
          case measure => simp [intOf]; omega
        · obtain rfl : n = 48 := by omega
          have hl : ((extW (loadW bs 64) 48).map U32).length = 64 := by simpa using hlen
          go_wp2_with (first | (refine wpList_load_at rfl 66 (.tmp 3) rfl (w.heap.size + 1 + 1) rfl 66 _ hD1 _ Tryd.underlying66 rfl (by rw [hl]; exact i66) ?_) | (refine wpList_store_at rfl 66 (.tmp 2) (.tmp 71) rfl (w.heap.size + 1) _ rfl rfl 66 _ hD2 (by rw [hl]; exact i66) (by rw [hl]; simp) (by intro v hv; simp at hv; obtain ⟨x, _, rfl⟩ := hv; rfl) ?_; intro w5 hA5 hb5 hs5))
          refine bodyPost_ret (results_at rfl _ _ (w.heap.size + 1) 66 _ _ rfl hA5 Tryd.underlying66 rfl (by rw [hl]; exact i66)) rfl ?_
          exact ⟨rfl, hb5.below hbd (by omega) hbd.size⟩
end Go.Proofs.YtbigkblkfnnfkaaDoor
