/- digest.Parse: the digest of digits. -/
import Derived.Test.YtbigkblkfnnfkaaDoorText
import Derived.Test.YtbigkblkfnnfkaaDoorNil
namespace Go.Proofs.YtbigkblkfnnfkaaDoor
open Go.RowKit
set_option linter.unusedVariables false

theorem results_at_tmp {P : Program} {fn : Func} {p u : Tmp} {ty : TypeId} (h : fn.results = #[.cell p ty, .tmp u]) (tmps : Array Value) (w : World) (g : Nat) (t : TypeId) (cs : List Value) (d : TypeDesc)
    (hp : tmps.getD p undef = .pointer (some ⟨g, 0, none⟩)) (hg : At t w g cs)
    (hu : P.underlying ty = some d) (hd : (match d with | .struct _ | .array _ _ => true | _ => false) = true) (hi : (P.info? ty).map (·.size) = some cs.length) :
    (results fn tmps).run P w = .ok (.tuple #[.agg cs.toArray, tmps.getD u undef]) w := by
  have hp' : tmps[p]?.getD undef = .pointer (some ⟨g, 0, none⟩) := by simpa using hp
  have hl := run_loadVar_row (P := P) w g t ty cs.toArray (0, 0) d hg hu hd (by simpa using hi)
  simp [results, h, hp', asAddr, hl]

theorem run_index9 (l : List UInt8) (k : Nat) (z : Int) (hz : z = (k : Int)) (c : Nat) (hc : c = (l.getD k 0).toNat) (h : k < l.length) (w : World) : (Instr.index 9 (.string ⟨l.toArray⟩) (.int .i64 z)).run Tryd.prog w = .ok (.int .u8 (c : Int)) w := by
  subst hz hc
  have h1 : (⟨l.toArray⟩ : ByteArray)[k]? = some (l.getD k 0) := by
    have hs : (⟨l.toArray⟩ : ByteArray).size = l.length := by simp [ByteArray.size]
    rw [getElem?_pos _ k (by rw [hs]; exact h)]
    simp [List.getD, List.getElem?_eq_getElem h]
    rfl
  simp [Instr.index, asIntOf, run_underlying Tryd.underlying9, h1, go_sem]

/-- The first k bytes of digits, the rest noughts. -/
def unz (s : List UInt8) : Nat → List UInt8
  | 0 => List.replicate 32 0
  | k + 1 => (unz s k).set k (ub (16 * dv (s.getD (2 * k) 0).toNat + dv (s.getD (2 * k + 1) 0).toNat))
theorem unz_length (s : List UInt8) (k : Nat) : (unz s k).length = 32 := by
  induction k with
  | zero => simp [unz]
  | succ k ih => simp [unz, ih]

/-- The digest whose digits these are. -/
def parse (s : List UInt8) : Option (List UInt8) := if s.length = 64 ∧ (List.range 64).all (fun i => decide (dv (s.getD i 0).toNat < 16)) = true then some (unz s 32) else none

/-- What Parse tells. -/
def parsed (s : List UInt8) : Value := match parse s with
  | some d => .tuple #[.agg (d.map B8).toArray, .int .i64 0]
  | none => .tuple #[.agg dig0.toArray, .int .i64 4]

theorem unz_step (s : List UInt8) (k : Nat) (v : Value) (hv : v = .int .u8 ((16 * dv (s.getD (2 * k) 0).toNat + dv (s.getD (2 * k + 1) 0).toNat : Nat) : Int)) (h1 : dv (s.getD (2 * k) 0).toNat < 16) (h2 : dv (s.getD (2 * k + 1) 0).toNat < 16) : ((unz s k).map B8).set k v = (unz s (k + 1)).map B8 := by
  rw [unz, List.map_set, hv]
  unfold B8
  rw [ub_toNat _ (by omega)]

theorem parsed_no (s : List UInt8) (i : Nat) (hi : i < 64) (h : ¬ dv (s.getD i 0).toNat < 16) : Hid (parsed s = .tuple #[.agg dig0.toArray, .int .i64 4]) := by
  show _ = _
  unfold parsed parse
  rw [if_neg]
  rintro ⟨_, ha⟩
  exact h (of_decide_eq_true (List.all_eq_true.1 ha i (List.mem_range.2 hi)))

set_option maxRecDepth 100000 in
set_option maxHeartbeats 1600000 in
theorem parse_any (s : List UInt8) (hmax : s.length ≤ 1099511627776) (w : World) :
    Calls Tryd.prog 15 #[.string ⟨s.toArray⟩] w fun e w' => e = .returned (parsed s) ∧ Below w.heap.size w w' := by
  have hsz : (⟨s.toArray⟩ : ByteArray).size = s.length := by simp [ByteArray.size]
  have hall : Hid (∀ u ∈ dig0, u.oneCell' = true) := by unfold dig0; intro u hu; rw [List.eq_of_mem_replicate hu]; rfl
  by_cases h64 : s.length = 64
  · have hd : ((s.length : Int) != 64) = false := by simp; omega
    go_enter Tryd.func15, Tryd.ntmps15
    go_wp2_with (first | ((with_reducible show wpList _ _ _ _ _ _); refine wpList_alloc_at (o := { dst := some 2, .. }) rfl 25 rfl dig0 32 z25 ?_; intro w1 hA1 hb1 hs1) | ((with_reducible show wpList _ _ _ _ _ _); refine wpList_alloc_at rfl 25 rfl dig0 32 z25 ?_; intro w2 hA2 hb2 hs2))
    have hB1 := hA1.below hb2
    have hB2 : At 25 w2 (w.heap.size + 1) dig0 := by rw [← hs1]; exact hA2
    have hbel : Below w.heap.size w w2 := hb1.trans (hb2.mono (by omega))
    clear hA1 hA2 hb1 hb2 hs1 hs2
    go_loopw [12] (fun t wr => ∃ k : Nat, k ≤ 32 ∧ t = .int .i64 k ∧ Hid (∀ i, i < 2 * k → dv (s.getD i 0).toNat < 16) ∧ At 25 wr (w.heap.size + 1) ((unz s k).map B8) ∧ At 25 wr w.heap.size dig0 ∧ Below w.heap.size w wr) (fun t _ => 32 - (intOf t).toNat)
    case atStart => exact ⟨0, by omega, rfl, fun i hi => absurd hi (by omega), hB2, hB1, hbel⟩
    case round =>
      obtain ⟨k, hk, rfl, hval, hC1, hC2, hbl⟩ := hrel
      clear hB1 hB2 hbel
      by_cases hlt : k < 32
      · obtain ⟨c, hc⟩ : ∃ c, Hid (c = (s.getD (2 * k) 0).toNat) := ⟨_, rfl⟩
        obtain ⟨d, hd'⟩ : ∃ d, Hid (d = (s.getD (2 * k + 1) 0).toNat) := ⟨_, rfl⟩
        have hcl : c < 256 := by rw [hc.out]; exact UInt8.toNat_lt _
        have hdl : d < 256 := by rw [hd'.out]; exact UInt8.toNat_lt _
        have x1 := fun u => run_index9 s (2 * k) (2 * (k : Int)) (by omega) c hc.out (by omega) u
        have x2 := fun u => run_index9 s (2 * k + 1) (2 * (k : Int) + 1) (by omega) d hd'.out (by omega) u
        by_cases hv1 : dv c < 16
        · by_cases hv2 : dv d < 16
          · have hor := or16i (dv c) (dv d) hv1 hv2
            obtain ⟨x, hx⟩ : ∃ x, Hid (x = dv c) := ⟨_, rfl⟩
            obtain ⟨y, hy⟩ : ∃ y, Hid (y = dv d) := ⟨_, rfl⟩
            have hx16 : x < 16 := by rw [hx.out]; exact hv1
            have hy16 : y < 16 := by rw [hy.out]; exact hv2
            have hX : Hid ((x : Int) = dvI c) := by rw [hx.out, dvI, if_pos hv1]; rfl
            have hY : Hid ((y : Int) = dvI d) := by rw [hy.out, dvI, if_pos hv2]; rfl
            rw [← hx.out, ← hy.out] at hor
            have HS : Hid (((unz s k).map B8).set k (.int .u8 (16 * (x : Int) + (y : Int))) = (unz s (k + 1)).map B8) := unz_step s k _ (by rw [hx.out, hy.out, hc.out, hd'.out]; simp) (by rw [← hc.out]; exact hv1) (by rw [← hd'.out]; exact hv2)
            have hF := hC1.frozen k
            have hCk : wr.cell? ⟨w.heap.size + 1, k, none⟩ = some (.int .u8 (((unz s k).getD k 0).toNat : Int)) := by
              rw [hC1.cell]; simp [B8, List.getD, List.getElem?_eq_getElem (show k < (unz s k).length by rw [unz_length]; exact hlt)]
            have hvn : Hid (∀ i, i < 2 * (k + 1) → dv (s.getD i 0).toNat < 16) := by
              intro i hi
              rcases Nat.lt_or_ge i (2 * k) with h | h
              · exact hval.out i h
              · have : i = 2 * k ∨ i = 2 * k + 1 := by omega
                rcases this with rfl | rfl
                · rw [← hc.out]; exact hv1
                · rw [← hd'.out]; exact hv2
            clear hv1 hv2
            go_wp2_with fail
            go_quiet (first | (go_at_call_of 40 (Value.int IntKind.u8 (c : Int)); exact Calls.quiet_of_same (idx16_any c hcl x hX _)) | (go_at_call_of 40 (Value.int IntKind.u8 (d : Int)); exact Calls.quiet_of_same (idx16_any d hdl y hY _)))
            go_wp2
            go_roundw
            case rel => exact ⟨k + 1, by omega, by go_num, hvn, by rw [← HS.out]; exact (hC1.drewN _).set _ _, (hC2.drewN _).setOther _ _ (by simp), (show Below w.heap.size w (wr.drewN _) from ⟨hbl.os, hbl.tape, hbl.output, hbl.size, hbl.block⟩).setCell (by simp) _⟩
            case measure => simp [intOf]; omega
          · have hp : Hid (parsed s = .tuple #[.agg dig0.toArray, .int .i64 4]) := parsed_no s (2 * k + 1) (by omega) (by rw [← hd'.out]; exact hv2)
            obtain ⟨x, hx⟩ : ∃ x, Hid (x = dv c) := ⟨_, rfl⟩
            have hx16 : x < 16 := by rw [hx.out]; exact hv1
            have hX : Hid ((x : Int) = dvI c) := by rw [hx.out, dvI, if_pos hv1]; rfl
            have hY : Hid ((-1 : Int) = dvI d) := by rw [dvI, if_neg hv2]; rfl
            have hC2n : ∀ n, At 25 (wr.drewN n) w.heap.size dig0 := fun n => hC2.drewN n
            clear hC1 hC2 hval
            go_wp2_with fail
            go_quiet (first | (go_at_call_of 40 (Value.int IntKind.u8 (c : Int)); exact Calls.quiet_of_same (idx16_any c hcl _ hX _)) | (go_at_call_of 40 (Value.int IntKind.u8 (d : Int)); exact Calls.quiet_of_same (idx16_any d hdl _ hY _)))
            go_wp2_with (first | ((with_reducible show wpList _ _ _ _ _ _); refine wpList_build_at rfl 25 #[] rfl dig0 (by kernel_rfl) ?_) | ((with_reducible show wpList _ _ _ _ _ _); refine wpList_store_at (P := Tryd.prog) rfl 25 (.tmp 2) (.tmp 32) rfl w.heap.size dig0 rfl rfl 25 dig0 (hC2n _) i25 rfl hall.out ?_; intro w9 hA9 hb9 hs9))
            refine bodyPost_ret (results_at_tmp rfl _ _ w.heap.size 25 dig0 _ rfl hA9 Tryd.underlying25 rfl i25) rfl ?_
            exact ⟨by rw [hp.out]; rfl, hb9.below ⟨hbl.os, hbl.tape, hbl.output, hbl.size, hbl.block⟩ (Nat.le_refl _) hbl.size⟩
        · have hp : Hid (parsed s = .tuple #[.agg dig0.toArray, .int .i64 4]) := parsed_no s (2 * k) (by omega) (by rw [← hc.out]; exact hv1)
          obtain ⟨y, hy⟩ : ∃ y, Hid (y = dvI d) := ⟨_, rfl⟩
          have hX : Hid ((-1 : Int) = dvI c) := by rw [dvI, if_neg hv1]; rfl
          have hY : Hid (y = dvI d) := hy
          have hC2n : ∀ n, At 25 (wr.drewN n) w.heap.size dig0 := fun n => hC2.drewN n
          clear hC1 hC2 hval
          go_wp2_with fail
          go_quiet (first | (go_at_call_of 40 (Value.int IntKind.u8 (c : Int)); exact Calls.quiet_of_same (idx16_any c hcl _ hX _)) | (go_at_call_of 40 (Value.int IntKind.u8 (d : Int)); exact Calls.quiet_of_same (idx16_any d hdl _ hY _)))
          go_wp2_with (first | ((with_reducible show wpList _ _ _ _ _ _); refine wpList_build_at rfl 25 #[] rfl dig0 (by kernel_rfl) ?_) | ((with_reducible show wpList _ _ _ _ _ _); refine wpList_store_at (P := Tryd.prog) rfl 25 (.tmp 2) (.tmp 32) rfl w.heap.size dig0 rfl rfl 25 dig0 (hC2n _) i25 rfl hall.out ?_; intro w9 hA9 hb9 hs9))
          refine bodyPost_ret (results_at_tmp rfl _ _ w.heap.size 25 dig0 _ rfl hA9 Tryd.underlying25 rfl i25) rfl ?_
          exact ⟨by rw [hp.out]; rfl, hb9.below ⟨hbl.os, hbl.tape, hbl.output, hbl.size, hbl.block⟩ (Nat.le_refl _) hbl.size⟩
      · have hk32 : Hid (k = 32) := by show _ = _; omega
        obtain ⟨ds, hds⟩ : ∃ ds, Hid (ds = unz s k) := ⟨_, rfl⟩
        have hp : Hid (parsed s = .tuple #[.agg (ds.map B8).toArray, .int .i64 0]) := by
          unfold parsed parse
          rw [if_pos ⟨h64, List.all_eq_true.2 (fun i hi => decide_eq_true (hval.out i (by have := List.mem_range.1 hi; have := hk32.out; omega)))⟩, hds.out, hk32.out]
          rfl
        rw [← hds.out] at hC1
        have hid := i25' ds (by rw [hds.out, unz_length])
        have hod : dig0.length = (ds.map B8).length := by rw [List.length_map, hds.out, unz_length]; rfl
        go_wp2_with (first | ((with_reducible show wpList _ _ _ _ _ _); refine wpList_load_at (P := Tryd.prog) rfl 25 (.tmp 4) rfl (w.heap.size + 1) rfl 25 (ds.map B8) hC1 _ Tryd.underlying25 rfl hid ?_) | ((with_reducible show wpList _ _ _ _ _ _); refine wpList_store_at (P := Tryd.prog) rfl 25 (.tmp 2) (.tmp 41) rfl w.heap.size (ds.map B8) rfl rfl 25 dig0 hC2 hid hod (b8_one _) ?_; intro w9 hA9 hb9 hs9))
        refine bodyPost_ret (results_at_tmp rfl _ _ w.heap.size 25 (ds.map B8) _ rfl hA9 Tryd.underlying25 rfl hid) rfl ?_
        exact ⟨by rw [hp.out]; rfl, hb9.below hbl (Nat.le_refl _) hbl.size⟩
  · have hp : Hid (parsed s = .tuple #[.agg dig0.toArray, .int .i64 4]) := by
      unfold parsed parse; rw [if_neg (by omega)]; rfl
    have hd : ((s.length : Int) != 64) = true := by simp; omega
    go_enter Tryd.func15, Tryd.ntmps15
    go_wp2_with (first | ((with_reducible show wpList _ _ _ _ _ _); refine wpList_alloc_at (o := { dst := some 2, .. }) rfl 25 rfl dig0 32 z25 ?_; intro w1 hA1 hb1 hs1) | ((with_reducible show wpList _ _ _ _ _ _); refine wpList_alloc_at rfl 25 rfl dig0 32 z25 ?_; intro w2 hA2 hb2 hs2) | ((with_reducible show wpList _ _ _ _ _ _); refine wpList_build_at rfl 25 #[] rfl dig0 (by kernel_rfl) ?_) | ((with_reducible show wpList _ _ _ _ _ _); refine wpList_store_at (P := Tryd.prog) rfl 25 (.tmp 2) (.tmp 11) rfl w.heap.size dig0 rfl rfl 25 dig0 (hA1.below hb2) i25 rfl hall.out ?_; intro w3 hA3 hb3 hs3))
    refine bodyPost_ret (results_at_tmp rfl _ _ w.heap.size 25 dig0 _ rfl hA3 Tryd.underlying25 rfl i25) rfl ?_
    exact ⟨by rw [hp.out]; rfl, hb3.below (hb1.trans (hb2.mono (by omega))) (Nat.le_refl _) (by omega)⟩
end Go.Proofs.YtbigkblkfnnfkaaDoor
