/- assizeref02.Parse: the digest of digits. -/
import Derived.Test.YtbigkblkfnnfkaaDoorRefText
namespace Go.Proofs.YtbigkblkfnnfkaaDoor
open Go.RowKit
set_option linter.unusedVariables false

/-- The bytes when i digits were read, one by one. -/
def unq (s : List UInt8) : Nat → List UInt8
  | 0 => List.replicate 32 0
  | i + 1 => (unq s i).set (i / 2) (ub (((unq s i).getD (i / 2) 0).toNat * 16 % 256 + dv (s.getD i 0).toNat))
theorem unq_length (s : List UInt8) (k : Nat) : (unq s k).length = 32 := by
  induction k with
  | zero => simp [unq]
  | succ k ih => simp [unq, ih]

theorem unz_zero (s : List UInt8) (k j : Nat) (h : k ≤ j) : (unz s k).getD j 0 = 0 := by
  induction k with
  | zero => rw [unz, List.getD_eq_getElem?_getD, List.getElem?_replicate]; split <;> rfl
  | succ k ih =>
    have := ih (by omega)
    rw [unz, List.getD_eq_getElem?_getD, List.getElem?_set_ne (by omega)]
    simpa [List.getD] using this

theorem unq_unz (s : List UInt8) (k : Nat) (hk : k ≤ 32) (h : ∀ i, i < 2 * k → dv (s.getD i 0).toNat < 16) : unq s (2 * k) = unz s k := by
  induction k with
  | zero => rfl
  | succ k ih =>
    have ih := ih (by omega) (fun i hi => h i (by omega))
    have h1 := h (2 * k) (by omega)
    have h2 := h (2 * k + 1) (by omega)
    have hz := unz_zero s k k (Nat.le_refl _)
    have hl := unz_length s k
    rw [show 2 * (k + 1) = 2 * k + 1 + 1 by omega, unq, unq, ih, unz]
    rw [show 2 * k / 2 = k by omega, show (2 * k + 1) / 2 = k by omega, hz]
    have hg : ((unz s k).set k (ub (UInt8.toNat 0 * 16 % 256 + dv (s.getD (2 * k) 0).toNat))).getD k 0 = ub (dv (s.getD (2 * k) 0).toNat) := by
      rw [List.getD_eq_getElem?_getD, List.getElem?_set_self (by omega)]
      simp
    rw [hg, List.set_set, ub_toNat _ (by omega)]
    congr 2
    omega

theorem digit_is : ∀ c : Nat, c < 256 → ∀ k : Nat, k < 16 → ((c : Int) == (hdN k : Int)) = decide (dv c = k) := by decide +kernel

/-- What the document's Parse tells. -/
def parsedR (s : List UInt8) : Value := match parse s with
  | some d => .tuple #[.agg (d.map B8).toArray, .int .i64 0]
  | none => .tuple #[.agg dig0.toArray, .int .i64 4]
theorem parsedR_eq (s : List UInt8) : parsedR s = parsed s := rfl

set_option maxRecDepth 100000 in
set_option maxHeartbeats 1600000 in
theorem refParse_any (s : List UInt8) (hmax : s.length ≤ 1099511627776) (w : World) :
    Calls Tryd.prog 16 #[.string ⟨s.toArray⟩] w fun e w' => e = .returned (parsed s) ∧ Below w.heap.size w w' := by
  have hsz : (⟨s.toArray⟩ : ByteArray).size = s.length := by simp [ByteArray.size]
  have hall : Hid (∀ u ∈ dig0, u.oneCell' = true) := by unfold dig0; intro u hu; rw [List.eq_of_mem_replicate hu]; rfl
  by_cases h64 : s.length = 64
  · have hd : ((s.length : Int) != 64) = false := by simp; omega
    go_enter Tryd.func16, Tryd.ntmps16
    go_wp2_with (first | ((with_reducible show wpList _ _ _ _ _ _); refine wpList_alloc_at (o := { dst := some 2, .. }) rfl 25 rfl dig0 32 z25 ?_; intro w1 hA1 hb1 hs1) | ((with_reducible show wpList _ _ _ _ _ _); refine wpList_alloc_at rfl 25 rfl dig0 32 z25 ?_; intro w2 hA2 hb2 hs2))
    have hB1 := hA1.below hb2
    have hB2 : At 25 w2 (w.heap.size + 1) dig0 := by rw [← hs1]; exact hA2
    have hbel : Below w.heap.size w w2 := hb1.trans (hb2.mono (by omega))
    clear hA1 hA2 hb1 hb2 hs1 hs2
    go_loopw [5] (fun t wr => ∃ i : Nat, i ≤ 64 ∧ t = .int .i64 i ∧ Hid (∀ j, j < i → dv (s.getD j 0).toNat < 16) ∧ At 25 wr (w.heap.size + 1) ((unq s i).map B8) ∧ At 25 wr w.heap.size dig0 ∧ Below w.heap.size w wr) (fun t _ => 64 - (intOf t).toNat)
    case atStart => exact ⟨0, by omega, rfl, fun i hi => absurd hi (by omega), hB2, hB1, hbel⟩
    case round =>
      obtain ⟨i, hi, rfl, hval, hC1, hC2, hbl⟩ := hrel
      clear hB1 hB2 hbel
      by_cases hlt : i < 64
      · obtain ⟨c, hc⟩ : ∃ c, Hid (c = (s.getD i 0).toNat) := ⟨_, rfl⟩
        have hcl : c < 256 := by rw [hc.out]; exact UInt8.toNat_lt _
        have x1 := fun u => run_index9 s i (i : Int) rfl c hc.out (by omega) u
        go_wp2_with fail
        go_loopw [6, 7] (fun v t wr2 => ∃ (k n : Nat), k ≤ 16 ∧ t = .int .i64 k ∧ v = .int .i64 (if dv c < k then (dv c : Int) else -1) ∧ wr2 = wr.drewN n) (fun _ t _ => 16 - (intOf t).toNat)
        case atStart => exact ⟨0, 0, by omega, rfl, by simp, rfl⟩
        case round =>
          obtain ⟨k, n, hk, rfl, rfl, rfl⟩ := hrel
          by_cases hk16 : k < 16
          · have hdig := digit_is c hcl k hk16
            have hcm : IntKind.u8.wrap (k : Int) = (k : Int) := by unfold IntKind.wrap; simp [IntKind.signed, IntKind.bits]; omega
            obtain ⟨v, hv⟩ : ∃ v, Hid (v = (if dv c < k then (dv c : Int) else -1)) := ⟨_, rfl⟩
            rw [← hv.out]
            by_cases hq : dv c = k
            · have hb : ((c : Int) == (hdN k : Int)) = true := by rw [hdig]; simp [hq]
              have hnew : Hid ((k : Int) = (if dv c < k + 1 then (dv c : Int) else -1)) := by show _ = _; rw [if_pos (by omega), hq]
              clear hdig hC1 hC2
              go_wp2_with fail
              go_quiet (first | (go_at_call 41; refine (digit_lit k _ rfl hk16 _).mono ?_; rintro e w9 ⟨rfl, hw9⟩; exact ⟨rfl, _, hw9⟩))
              go_wp2
              go_roundw
              case rel => exact ⟨k + 1, _, by omega, by go_num, by rw [← hnew.out], by first | rfl | exact World.drewN_drewN _ _ _⟩
              case measure => simp [intOf]; omega
            · have hb : ((c : Int) == (hdN k : Int)) = false := by rw [hdig]; simp [hq]
              have hnew : Hid (v = (if dv c < k + 1 then (dv c : Int) else -1)) := by
                show _ = _
                rw [hv.out]
                by_cases h : dv c < k
                · rw [if_pos h, if_pos (by omega)]
                · rw [if_neg h, if_neg (by omega)]
              clear hdig hC1 hC2
              go_wp2_with fail
              go_quiet (first | (go_at_call 41; refine (digit_lit k _ rfl hk16 _).mono ?_; rintro e w9 ⟨rfl, hw9⟩; exact ⟨rfl, _, hw9⟩))
              go_wp2
              go_roundw
              case rel => exact ⟨k + 1, _, by omega, by go_num, by rw [← hnew.out], by first | rfl | exact World.drewN_drewN _ _ _⟩
              case measure => simp [intOf]; omega
          · obtain ⟨v, hv⟩ : ∃ v, Hid (v = (if dv c < k then (dv c : Int) else -1)) := ⟨_, rfl⟩
            rw [← hv.out]
            by_cases hv1 : dv c < 16
            · obtain ⟨x, hx⟩ : ∃ x, Hid (x = dv c) := ⟨_, rfl⟩
              have hx16 : x < 16 := by rw [hx.out]; exact hv1
              have hvx : v = (x : Int) := by rw [hv.out, if_pos (by omega), hx.out]
              subst hvx
              obtain ⟨o, ho⟩ : ∃ o, Hid (o = ((unq s i).getD (i / 2) 0).toNat) := ⟨_, rfl⟩
              have ho256 : o < 256 := by rw [ho.out]; exact UInt8.toNat_lt _
              obtain ⟨y, hy⟩ : ∃ y, Hid (y = (o * 16 % 256 + x) % 256) := ⟨_, rfl⟩
              have hCk : wr.cell? ⟨w.heap.size + 1, i / 2, none⟩ = some (.int .u8 (o : Int)) := by
                rw [hC1.cell, ho.out]; simp [B8, List.getD, List.getElem?_eq_getElem (show i / 2 < (unq s i).length by rw [unq_length]; omega)]
              have hF := hC1.frozen (i / 2)
              have HS : Hid (((unq s i).map B8).set (i / 2) (.int .u8 (y : Int)) = (unq s (i + 1)).map B8) := by
                show _ = _
                rw [unq, List.map_set]
                congr 1
                rw [B8, ← hc.out, ← hx.out, ← ho.out, hy.out]
                simp [ub]
              have hvn : Hid (∀ j, j < i + 1 → dv (s.getD j 0).toNat < 16) := by
                intro j hj
                rcases Nat.lt_or_ge j i with h | h
                · exact hval.out j h
                · have : j = i := by omega
                  subst this
                  rw [← hc.out]; exact hv1
              have j1 : (i : Int).tdiv 2 = ((i / 2 : Nat) : Int) := by rw [Int.tdiv_eq_ediv_of_nonneg (by omega)]; omega
              have j2 : IntKind.i64.wrap ((i / 2 : Nat) : Int) = ((i / 2 : Nat) : Int) := by rw [IntKind.wrap_i64]; omega
              have j3 : IntKind.u8.wrap (x : Int) = (x : Int) := by unfold IntKind.wrap; simp [IntKind.signed, IntKind.bits]; omega
              have j4 : IntKind.u8.wrap ((o : Int) * 16) = ((o * 16 % 256 : Nat) : Int) := by unfold IntKind.wrap; simp [IntKind.signed, IntKind.bits]
              clear hv1 hval
              go_wp2
              go_roundw
              case rel => exact ⟨i + 1, by omega, by go_num, hvn, by rw [← HS.out]; have hyy : (y : Int) = (o : Int) * 16 % 256 + x := (by rw [hy.out]; omega); rw [hyy]; exact (hC1.drewN _).set _ _, (hC2.drewN _).setOther _ _ (by simp), (show Below w.heap.size w (wr.drewN _) from ⟨hbl.os, hbl.tape, hbl.output, hbl.size, hbl.block⟩).setCell (by simp) _⟩
              case measure => simp [intOf]; omega
            · have hvx : v = -1 := by rw [hv.out, if_neg (by omega)]
              subst hvx
              have hp : Hid (parsed s = .tuple #[.agg dig0.toArray, .int .i64 4]) := parsed_no s i (by omega) (by rw [← hc.out]; exact hv1)
              have hC2n : ∀ n, At 25 (wr.drewN n) w.heap.size dig0 := fun n => hC2.drewN n
              clear hC1 hC2 hval
              go_wp2_with (first | ((with_reducible show wpList _ _ _ _ _ _); refine wpList_build_at rfl 25 #[] rfl dig0 (by kernel_rfl) ?_) | ((with_reducible show wpList _ _ _ _ _ _); refine wpList_store_at (P := Tryd.prog) rfl 25 (.tmp 2) (.tmp 30) rfl w.heap.size dig0 rfl rfl 25 dig0 (hC2n _) i25 rfl hall.out ?_; intro w9 hA9 hb9 hs9))
              refine bodyPost_ret (results_at_tmp rfl _ _ w.heap.size 25 dig0 _ rfl hA9 Tryd.underlying25 rfl i25) rfl ?_
              exact ⟨by rw [hp.out]; rfl, hb9.below ⟨hbl.os, hbl.tape, hbl.output, hbl.size, hbl.block⟩ (Nat.le_refl _) hbl.size⟩
      · have hk64 : Hid (i = 64) := by show _ = _; omega
        obtain ⟨ds, hds⟩ : ∃ ds, Hid (ds = unq s i) := ⟨_, rfl⟩
        have hp : Hid (parsed s = .tuple #[.agg (ds.map B8).toArray, .int .i64 0]) := by
          unfold parsed parse
          rw [if_pos ⟨h64, List.all_eq_true.2 (fun j hj => decide_eq_true (hval.out j (by have := List.mem_range.1 hj; have := hk64.out; omega)))⟩, hds.out, hk64.out, show 64 = 2 * 32 by omega, unq_unz s 32 (by omega) (fun j hj => hval.out j (by have := hk64.out; omega))]
          rfl
        rw [← hds.out] at hC1
        have hid := i25' ds (by rw [hds.out, unq_length])
        have hod : dig0.length = (ds.map B8).length := by rw [List.length_map, hds.out, unq_length]; rfl
        go_wp2_with (first | ((with_reducible show wpList _ _ _ _ _ _); refine wpList_load_at (P := Tryd.prog) rfl 25 (.tmp 4) rfl (w.heap.size + 1) rfl 25 (ds.map B8) hC1 _ Tryd.underlying25 rfl hid ?_) | ((with_reducible show wpList _ _ _ _ _ _); refine wpList_store_at (P := Tryd.prog) rfl 25 (.tmp 2) (.tmp 42) rfl w.heap.size (ds.map B8) rfl rfl 25 dig0 hC2 hid hod (b8_one _) ?_; intro w9 hA9 hb9 hs9))
        refine bodyPost_ret (results_at_tmp rfl _ _ w.heap.size 25 (ds.map B8) _ rfl hA9 Tryd.underlying25 rfl hid) rfl ?_
        exact ⟨by rw [hp.out]; rfl, hb9.below hbl (Nat.le_refl _) hbl.size⟩
  · have hp : Hid (parsed s = .tuple #[.agg dig0.toArray, .int .i64 4]) := by
      unfold parsed parse; rw [if_neg (by omega)]; rfl
    have hd : ((s.length : Int) != 64) = true := by simp; omega
    go_enter Tryd.func16, Tryd.ntmps16
    go_wp2_with (first | ((with_reducible show wpList _ _ _ _ _ _); refine wpList_alloc_at (o := { dst := some 2, .. }) rfl 25 rfl dig0 32 z25 ?_; intro w1 hA1 hb1 hs1) | ((with_reducible show wpList _ _ _ _ _ _); refine wpList_alloc_at rfl 25 rfl dig0 32 z25 ?_; intro w2 hA2 hb2 hs2; have hAA : At 25 w2 (w.heap.size + 1) dig0 := (by rw [← hs1]; exact hA2)) | ((with_reducible show wpList _ _ _ _ _ _); refine wpList_load_at (P := Tryd.prog) rfl 25 (.tmp 4) rfl (w.heap.size + 1) rfl 25 dig0 hAA _ Tryd.underlying25 rfl i25 ?_) | ((with_reducible show wpList _ _ _ _ _ _); refine wpList_store_at (P := Tryd.prog) rfl 25 (.tmp 2) (.tmp 11) rfl w.heap.size dig0 rfl rfl 25 dig0 (hA1.below hb2) i25 rfl hall.out ?_; intro w3 hA3 hb3 hs3))
    refine bodyPost_ret (results_at_tmp rfl _ _ w.heap.size 25 dig0 _ rfl hA3 Tryd.underlying25 rfl i25) rfl ?_
    exact ⟨by rw [hp.out]; rfl, hb3.below (hb1.trans (hb2.mono (by omega))) (Nat.le_refl _) (by omega)⟩
end Go.Proofs.YtbigkblkfnnfkaaDoor
