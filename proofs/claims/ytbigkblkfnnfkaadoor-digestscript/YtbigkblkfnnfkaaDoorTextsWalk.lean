/- The law DigestTexts, walked. -/
import Derived.Test.YtbigkblkfnnfkaaDoorTextsParts
import Derived.Test.YtbigkblkfnnfkaaDoorTokens
import Derived.Test.YtbigkblkfnnfkaaDoorRefJoin
import Derived.Test.YtbigkblkfnnfkaaDoorRefText
import Derived.Test.YtbigkblkfnnfkaaDoorRefParse
namespace Go.Proofs.YtbigkblkfnnfkaaDoor
open Go.RowKit
set_option linter.unusedVariables false

theorem keepS4 {u u' w6 : World} {g1 g2 g3 g4 : Nat} {c1 c2 c3 c4 : List Value} (hb : Below u.heap.size u u') (h : u.rangeAt g1 0 c1 ∧ u.rangeAt g2 0 c2 ∧ u.rangeAt g3 0 c3 ∧ u.rangeAt g4 0 c4 ∧ Below w6.heap.size w6 u) :
    u'.rangeAt g1 0 c1 ∧ u'.rangeAt g2 0 c2 ∧ u'.rangeAt g3 0 c3 ∧ u'.rangeAt g4 0 c4 ∧ Below w6.heap.size w6 u' :=
  ⟨range_below h.1 hb, range_below h.2.1 hb, range_below h.2.2.1 hb, range_below h.2.2.2.1 hb, h.2.2.2.2.trans (hb.mono h.2.2.2.2.size)⟩
theorem drewS4 {u w6 : World} {g1 g2 g3 g4 : Nat} {c1 c2 c3 c4 : List Value} (h : u.rangeAt g1 0 c1 ∧ u.rangeAt g2 0 c2 ∧ u.rangeAt g3 0 c3 ∧ u.rangeAt g4 0 c4 ∧ Below w6.heap.size w6 u) :
    u.drew.rangeAt g1 0 c1 ∧ u.drew.rangeAt g2 0 c2 ∧ u.drew.rangeAt g3 0 c3 ∧ u.drew.rangeAt g4 0 c4 ∧ Below w6.heap.size w6 u.drew :=
  ⟨h.1, h.2.1, h.2.2.1, h.2.2.2.1, h.2.2.2.2.drew⟩

/-- What Parse tells, as a list of 32 bytes and an error. -/
theorem parsed_is (s : List UInt8) : ∃ (pd : List UInt8) (E : Int), pd.length = 32 ∧ parsed s = .tuple #[.agg (pd.map B8).toArray, .int .i64 E] := by
  unfold parsed
  cases h : parse s with
  | some d =>
    refine ⟨d, 0, ?_, rfl⟩
    unfold parse at h
    split at h
    · have e := Option.some.inj h
      rw [← e]; exact unz_length s _
    · exact absurd h (by simp)
  | none => exact ⟨List.replicate 32 0, 4, by simp, by rw [List.map_replicate]; rfl⟩

set_option maxRecDepth 100000 in
set_option maxHeartbeats 1600000 in
theorem parse_long (s : List UInt8) (h64 : ¬ s.length = 64) (hmax : s.length ≤ 9223372036854775807) (w : World) :
    Calls Tryd.prog 15 #[.string ⟨s.toArray⟩] w fun e w' => e = .returned (parsed s) ∧ Below w.heap.size w w' := by
  have hsz : (⟨s.toArray⟩ : ByteArray).size = s.length := by simp [ByteArray.size]
  have hall : Hid (∀ u ∈ dig0, u.oneCell' = true) := by unfold dig0; intro u hu; rw [List.eq_of_mem_replicate hu]; rfl
  have hp : Hid (parsed s = .tuple #[.agg dig0.toArray, .int .i64 4]) := by
    unfold parsed parse; rw [if_neg (by omega)]; rfl
  have hd : ((s.length : Int) != 64) = true := by simp; omega
  go_enter Tryd.func15, Tryd.ntmps15
  go_wp2_with (first | ((with_reducible show wpList _ _ _ _ _ _); refine wpList_alloc_at (o := { dst := some 2, .. }) rfl 25 rfl dig0 32 z25 ?_; intro w1 hA1 hb1 hs1) | ((with_reducible show wpList _ _ _ _ _ _); refine wpList_alloc_at rfl 25 rfl dig0 32 z25 ?_; intro w2 hA2 hb2 hs2) | ((with_reducible show wpList _ _ _ _ _ _); refine wpList_build_at rfl 25 #[] rfl dig0 (by kernel_rfl) ?_) | ((with_reducible show wpList _ _ _ _ _ _); refine wpList_store_at (P := Tryd.prog) rfl 25 (.tmp 2) (.tmp 11) rfl w.heap.size dig0 rfl rfl 25 dig0 (hA1.below hb2) i25 rfl hall.out ?_; intro w3 hA3 hb3 hs3))
  refine bodyPost_ret (results_at_tmp rfl _ _ w.heap.size 25 dig0 _ rfl hA3 Tryd.underlying25 rfl i25) rfl ?_
  exact ⟨by rw [hp.out]; rfl, hb3.below (hb1.trans (hb2.mono (by omega))) (Nat.le_refl _) (by omega)⟩

set_option maxRecDepth 100000 in
set_option maxHeartbeats 1600000 in
theorem refParse_long (s : List UInt8) (h64 : ¬ s.length = 64) (hmax : s.length ≤ 9223372036854775807) (w : World) :
    Calls Tryd.prog 16 #[.string ⟨s.toArray⟩] w fun e w' => e = .returned (parsed s) ∧ Below w.heap.size w w' := by
  have hsz : (⟨s.toArray⟩ : ByteArray).size = s.length := by simp [ByteArray.size]
  have hall : Hid (∀ u ∈ dig0, u.oneCell' = true) := by unfold dig0; intro u hu; rw [List.eq_of_mem_replicate hu]; rfl
  have hp : Hid (parsed s = .tuple #[.agg dig0.toArray, .int .i64 4]) := by
    unfold parsed parse; rw [if_neg (by omega)]; rfl
  have hd : ((s.length : Int) != 64) = true := by simp; omega
  go_enter Tryd.func16, Tryd.ntmps16
  go_wp2_with (first | ((with_reducible show wpList _ _ _ _ _ _); refine wpList_alloc_at (o := { dst := some 2, .. }) rfl 25 rfl dig0 32 z25 ?_; intro w1 hA1 hb1 hs1) | ((with_reducible show wpList _ _ _ _ _ _); refine wpList_alloc_at rfl 25 rfl dig0 32 z25 ?_; intro w2 hA2 hb2 hs2; have hAA : At 25 w2 (w.heap.size + 1) dig0 := (by rw [← hs1]; exact hA2)) | ((with_reducible show wpList _ _ _ _ _ _); refine wpList_load_at (P := Tryd.prog) rfl 25 (.tmp 4) rfl (w.heap.size + 1) rfl 25 dig0 hAA _ Tryd.underlying25 rfl i25 ?_) | ((with_reducible show wpList _ _ _ _ _ _); refine wpList_store_at (P := Tryd.prog) rfl 25 (.tmp 2) (.tmp 11) rfl w.heap.size dig0 rfl rfl 25 dig0 (hA1.below hb2) i25 rfl hall.out ?_; intro w3 hA3 hb3 hs3))
  refine bodyPost_ret (results_at_tmp rfl _ _ w.heap.size 25 dig0 _ rfl hA3 Tryd.underlying25 rfl i25) rfl ?_
  exact ⟨by rw [hp.out]; rfl, hb3.below (hb1.trans (hb2.mono (by omega))) (Nat.le_refl _) (by omega)⟩

set_option maxRecDepth 100000 in
set_option maxHeartbeats 3200000 in
theorem texts_walk (a : Option Addr) (cap : Nat) (ps : List (List UInt8)) (b : List UInt8) (s : List UInt8) (w : World) (hrow : RowL w a ps) (hR : Roots w) (hb : b.length = 32) (hn : ps.length ≤ 9223372036854775807) (hlen : ∀ j, j < ps.length → (ps.getD j []).length ≤ 1125899906842624) (p15 : ∀ w, Calls Tryd.prog 15 #[.string ⟨s.toArray⟩] w fun e w' => e = .returned (parsed s) ∧ Below w.heap.size w w') (p16 : ∀ w, Calls Tryd.prog 16 #[.string ⟨s.toArray⟩] w fun e w' => e = .returned (parsed s) ∧ Below w.heap.size w w') :
    Calls Tryd.prog 4 #[.slice a ps.length cap, .agg (b.map B8).toArray, .string ⟨s.toArray⟩] w fun e w' => e = .returned (.bool true) ∧ Below w.heap.size w w' := by
  have hib := i25' b hb
  go_enter Tryd.func4, Tryd.ntmps4
  go_wp2_with (first | ((with_reducible show wpList _ _ _ _ _ _); refine wpList_box_at rfl 25 (.tmp 1) rfl (b.map B8) rfl ?_; intro w1 hA1 hb1 hs1))
  have hrow1 := hrow.below hb1
  have hR1 := hR.below hb1
  go_loop [7, 8] (fun t i => ∃ (k N : Nat), k ≤ ps.length ∧ N ≤ 20000 ∧ i = .int .i64 (k : Int) ∧ t = .int .i64 (N : Int) ∧ Hid (N = sumLen (ps.take k))) (fun _ i => ps.length - (intOf i).toNat)
  case atStart => exact ⟨0, 0, Nat.zero_le _, Nat.zero_le _, rfl, rfl, (by show _ = _; simp [sumLen])⟩
  case round =>
    obtain ⟨k, N, hk, hN, rfl, rfl, hNv⟩ := hrel
    by_cases hlt : k < ps.length
    · rcases hrow1 with h0 | ⟨bb, off, rfl, hc⟩
      · rw [h0] at hlt; simp at hlt
      · obtain ⟨fa, fc, hcell, _, _, _⟩ := hc k hlt
        obtain ⟨m, hm⟩ : ∃ m, m = (ps.getD k []).length := ⟨_, rfl⟩
        have hml := hlen k hlt
        rw [← hm] at hcell hml
        have HS : Hid (N + m = sumLen (ps.take (k + 1))) := by show _ = _; rw [sumLen_step ps k hlt, hNv.out, hm]
        clear hNv hc hm hrow hR hR1 hA1
        have d1 : (((k : Nat) : Int) < (ps.length : Int)) := by omega
        by_cases hgt : N + m ≤ 20000
        · go_wp2
          go_round
          case rel => exact ⟨k + 1, N + m, by omega, hgt, by go_num, by go_num, HS⟩
          case measure => simp [intOf]; omega
        · go_wp2
          go_ret
          exact ⟨rfl, hb1⟩
    · obtain rfl : k = ps.length := by omega
      rw [List.take_length] at hNv
      have hsl : sumLen ps ≤ 20000 := by rw [← hNv.out]; exact hN
      clear hNv
      by_cases h100 : ps.length ≤ 100
      · have hpm : ∀ j, j < ps.length → (ps.getD j []).length ≤ 1099511627776 := fun j hj => Nat.le_trans (sumLen_at ps j hj) (by omega)
        have hjl : (joined ps).length ≤ 1099511627 := by rw [joined_sumLen]; omega
        obtain ⟨ds, hds⟩ : ∃ ds, Hid (ds = sha (joined ps)) := ⟨_, rfl⟩
        have hdl : Hid (ds.length = 32) := by show _ = _; rw [hds.out]; exact sha_length _
        have hids := i25' ds hdl.out
        have hod : (List.replicate 32 (Value.int .u8 0)).length = (ds.map B8).length := by rw [List.length_map, hdl.out]; simp
        obtain ⟨pd, E, hpl, hpe⟩ := parsed_is s
        have hipd := i25' pd hpl
        have hop : (List.replicate 32 (Value.int .u8 0)).length = (pd.map B8).length := by rw [List.length_map, hpl]; simp
        have k15 : ∀ w, Calls Tryd.prog 15 #[.string ⟨s.toArray⟩] w fun e w' => e = .returned (.tuple #[.agg (pd.map B8).toArray, .int .i64 E]) ∧ Below w.heap.size w w' := fun w => by rw [← hpe]; exact p15 w
        have k16 : ∀ w, Calls Tryd.prog 16 #[.string ⟨s.toArray⟩] w fun e w' => e = .returned (.tuple #[.agg (pd.map B8).toArray, .int .i64 E]) ∧ Below w.heap.size w w' := fun w => by rw [← hpe]; exact p16 w
        clear hpe p15 p16
        go_wp2_with fail
        refine (lentLists_any a cap ps _ hrow1 (by omega) hpm).mono ?_
        rintro e w2 ⟨v, L, rfl, hLp, hown, hin2, hb2⟩
        obtain ⟨a2, cap2, rfl, hcap2, hL2⟩ := hown.row
        have hLl : L.length = ps.length := by rw [← hLp, List.length_map]
        rw [hLl] at hcap2 ⊢
        have HLp : Hid (L.map (fun x => x.2) = ps) := hLp
        have hrowL2 := hL2.rowL hin2 hLp
        clear hown hLp hLl
        go_wp2_with (first | (go_at_call 14; refine (join_hid a2 cap2 ps ds hds _ hrowL2 hjl (hR1.below hb2) (by omega)).mono ?_; rintro e w3 ⟨rfl, hb3⟩) | ((with_reducible show wpList _ _ _ _ _ _); refine wpList_alloc_at rfl 25 rfl _ 32 z25 ?_; intro w4 hA4 hb4 hs4) | ((with_reducible show wpList _ _ _ _ _ _); refine wpList_store_at (P := Tryd.prog) rfl 25 (.tmp 10) (.tmp 36) rfl w3.heap.size (ds.map B8) rfl rfl 25 _ hA4 hids hod (b8_one _) ?_; intro w5 hA5 hb5 hs5))
        go_wp2_with (first | (go_at_call 15; refine (k15 _).mono ?_; rintro e w6 ⟨rfl, hb6⟩) | ((with_reducible show wpList _ _ _ _ _ _); refine wpList_alloc_at rfl 25 rfl _ 32 z25 ?_; intro w7 hA7 hb7 hs7) | ((with_reducible show wpList _ _ _ _ _ _); refine wpList_store_at (P := Tryd.prog) rfl 25 (.tmp 11) (.tmp 40) rfl w6.heap.size (pd.map B8) rfl rfl 25 _ hA7 hipd hop (b8_one _) ?_; intro w8 hA8 hb8 hs8))
        go_wp2_with (first | (go_at_call 16; refine (k16 _).mono ?_; rintro e w9 ⟨rfl, hb9⟩) | ((with_reducible show wpList _ _ _ _ _ _); refine wpList_alloc_at rfl 25 rfl _ 32 z25 ?_; intro w10 hA10 hb10 hs10) | ((with_reducible show wpList _ _ _ _ _ _); refine wpList_store_at (P := Tryd.prog) rfl 25 (.tmp 13) (.tmp 45) rfl w9.heap.size (pd.map B8) rfl rfl 25 _ hA10 hipd hop (b8_one _) ?_; intro w11 hA11 hb11 hs11))
        try simp only [Act.put, List.setIfInBounds_toArray, List.set_cons_zero, List.set_cons_succ]
        have z2 := hb2.size
        have z3 := hb3.size
        have z6 := hb6.size
        have z9 := hb9.size
        have c4 : Below w2.heap.size w2 w4 := hb3.trans (hb4.mono (by omega))
        have c5 : Below w2.heap.size w2 w5 := hb5.below c4 (by omega) (by omega)
        have c7 : Below w2.heap.size w2 w7 := (c5.trans (hb6.mono (by omega))).trans (hb7.mono (by omega))
        have c8 : Below w2.heap.size w2 w8 := hb8.below c7 (by omega) (by omega)
        have c10 : Below w2.heap.size w2 w10 := (c8.trans (hb9.mono (by omega))).trans (hb10.mono (by omega))
        have c11 : Below w2.heap.size w2 w11 := hb11.below c10 (by omega) (by omega)
        have c12 : Below w1.heap.size w1 w11 := hb2.trans (c11.mono (by omega))
        have cAll : Below w.heap.size w w11 := hb1.trans (c12.mono (by omega))
        have q5 : At 25 w5 w.heap.size (b.map B8) := hb5.at (((hA1.below hb2).below hb3).below hb4) (by omega)
        have q8 : At 25 w8 w.heap.size (b.map B8) := hb8.at ((q5.below hb6).below hb7) (by omega)
        have q11 : At 25 w11 w.heap.size (b.map B8) := hb11.at ((q8.below hb9).below hb10) (by omega)
        have r8 : At 25 w8 w3.heap.size (ds.map B8) := hb8.at ((hA5.below hb6).below hb7) (by omega)
        have r11 : At 25 w11 w3.heap.size (ds.map B8) := hb11.at ((r8.below hb9).below hb10) (by omega)
        have t11 : At 25 w11 w6.heap.size (pd.map B8) := hb11.at ((hA8.below hb9).below hb10) (by omega)
        have hS : w11.rangeAt w.heap.size 0 (b.map B8) ∧ w11.rangeAt w3.heap.size 0 (ds.map B8) ∧ w11.rangeAt w6.heap.size 0 (pd.map B8) ∧ w11.rangeAt w9.heap.size 0 (pd.map B8) ∧ Below w11.heap.size w11 w11 := ⟨q11.range, r11.range, t11.range, hA11.range, Below.refl _ _⟩
        have hrowE : RowL w11 a ps := hrow1.below c12
        have hLE : LRow w11 a2 L := hL2.below c11
        have hinE : LentIn w11 L := hin2.below c11
        obtain ⟨g10, hg10⟩ : ∃ g, g = w3.heap.size := ⟨_, rfl⟩
        obtain ⟨g11, hg11⟩ : ∃ g, g = w6.heap.size := ⟨_, rfl⟩
        obtain ⟨g13, hg13⟩ : ∃ g, g = w9.heap.size := ⟨_, rfl⟩
        rw [← hg10, ← hg11, ← hg13] at hS ⊢
        clear hA1 hA4 hA5 hA7 hA8 hA10 hA11 hb1 hb2 hb3 hb4 hb5 hb6 hb7 hb8 hb9 hb10 hb11 hs1 hs4 hs5 hs7 hs8 hs10 hs11 z2 z3 z6 z9 c4 c5 c7 c8 c10 c11 c12 q5 q8 q11 r8 r11 t11 hg10 hg11 hg13 hod hop hrowL2 hL2 hin2 k15 k16 hrow1 hR1
        have hSd := drewS4 hS
        have q1 := fun u => run_same ds ds hdl.out hdl.out u
        have q2 := fun u => run_same pd pd hpl hpl u
        have edd : (ds == ds) = true := by simp
        have epp : (pd == pd) = true := by simp
        obtain ⟨tx, htx⟩ : ∃ tx, Hid (hexOf b = tx) := ⟨_, (rfl : hexOf b = _)⟩
        have ett : (tx == tx) = true := by simp
        have k17 : ∀ u, Below w11.heap.size w11 u → Calls Tryd.prog 17 #[.slice a ps.length cap] u fun e w' => e = .returned (.agg (ds.map B8).toArray) ∧ Below u.heap.size u w' := fun u hu => refJoin_hid a cap ps ds hds u (hrowE.below hu) hjl (by omega)
        have k18 : ∀ u, Below w11.heap.size w11 u → Calls Tryd.prog 18 #[.slice a2 ps.length cap2, .slice a ps.length cap] u fun e w' => e = .returned (.bool true) ∧ Below u.heap.size u w' := fun u hu => keptLists_any a cap a2 cap2 L ps HLp u (hLE.below hu) (hinE.below hu) (hrowE.below hu) (by omega) hpm
        have k19 : ∀ u, Calls Tryd.prog 19 #[.agg (b.map B8).toArray] u fun e w' => e = .returned (.string ⟨tx.toArray⟩) ∧ Below u.heap.size u w' := fun u => by rw [← htx.out]; exact text_any b u hb
        have k20 : ∀ u, Calls Tryd.prog 20 #[.agg (b.map B8).toArray] u fun e w' => e = .returned (.string ⟨tx.toArray⟩) ∧ Below u.heap.size u w' := fun u => refText_lit b tx htx u hb
        clear hds htx hrowE hLE hinE HLp hjl hpm hrow hR hlen hN hsl
        refine wp_region_held_drew (S := (fun w' => w'.rangeAt w.heap.size 0 (b.map B8) ∧ w'.rangeAt g10 0 (ds.map B8) ∧ w'.rangeAt g11 0 (pd.map B8) ∧ w'.rangeAt g13 0 (pd.map B8) ∧ Below w11.heap.size w11 w')) (by kernel_rfl) hSd (fun _ => ?_)
        refine wpAnyH_take (i := 0) (oi := { dst := some 47, op := .load 25 (.tmp 10), type := _, pos := _, after := _, guard := none }) rfl (by kernel_rfl) (by kernel_rfl) (by kernel_rfl) (fun _ _ _ h => h) (yieldsIf_load_mid (by rfl) 25 (.tmp 10) rfl g10 0 rfl (ds.map B8) _ (fun w hSw => hSw.2.1) Tryd.underlying25 rfl hids) hSd ?_
        simp only [Act.put, List.setIfInBounds_toArray, List.set_cons_zero, List.set_cons_succ]
        refine wpAnyH_take (i := 1) (oi := { dst := some 48, op := .move (.tmp 0), type := _, pos := _, after := _, guard := none }) (v := .slice a ps.length cap) rfl (by kernel_rfl) (by kernel_rfl) (by kernel_rfl) (fun _ _ _ h => h) (Or.inl ⟨by rfl, ?_⟩) hSd ?_
        · intro w hSw
          go_simp
        simp only [Act.put, List.setIfInBounds_toArray, List.set_cons_zero, List.set_cons_succ]
        refine wpAnyH_ready (rs := [2]) (by kernel_rfl) (by simp) ?_
        refine AllReadyH.cons (o := { dst := some 49, op := .call { callee := .value (.func 17), args := #[.tmp 48], argTypes := #[29] }, type := _, pos := _, after := _, guard := none }) rfl (fun K hK => ?_) AllReadyH.nil
        rw [if_pos (by rfl)]
        go_wp2_with (go_at_call 17; refine (k17 _ hSd.2.2.2.2).mono ?_; rintro e w21 ⟨rfl, hb21⟩)
        have hS21 := keepS4 hb21 hSd
        refine hK.out _ _ hS21 (fun _ => ?_)
        refine wpAnyH_take (i := 3) (oi := { dst := some 50, op := .binOp .eql 25 (.tmp 47) (.tmp 49) 25, type := _, pos := _, after := _, guard := none }) (v := .bool true) rfl (by kernel_rfl) (by kernel_rfl) (by kernel_rfl) (fun _ _ _ h => h) (Or.inl ⟨by rfl, ?_⟩) hS21 ?_
        · intro w hSw
          go_simp
        simp only [Act.put, List.setIfInBounds_toArray, List.set_cons_zero, List.set_cons_succ]
        refine wpAnyH_take (i := 4) (oi := { dst := some 51, op := .move (.tmp 50), type := _, pos := _, after := _, guard := none }) (v := .bool true) rfl (by kernel_rfl) (by kernel_rfl) (by kernel_rfl) (fun _ _ _ h => h) (Or.inl ⟨by rfl, ?_⟩) hS21 ?_
        · intro w hSw
          go_simp
        simp only [Act.put, List.setIfInBounds_toArray, List.set_cons_zero, List.set_cons_succ]
        refine wpAnyH_take (i := 5) (oi := { dst := some 52, op := .move (.tmp 9), type := _, pos := _, after := _, guard := some (4, true) }) (v := .slice a2 ps.length cap2) rfl (by kernel_rfl) (by kernel_rfl) (by kernel_rfl) (fun _ _ _ h => h) (Or.inl ⟨by rfl, ?_⟩) hS21 ?_
        · intro w hSw
          go_simp
        simp only [Act.put, List.setIfInBounds_toArray, List.set_cons_zero, List.set_cons_succ]
        refine wpAnyH_take (i := 6) (oi := { dst := some 53, op := .move (.tmp 0), type := _, pos := _, after := _, guard := some (4, true) }) (v := .slice a ps.length cap) rfl (by kernel_rfl) (by kernel_rfl) (by kernel_rfl) (fun _ _ _ h => h) (Or.inl ⟨by rfl, ?_⟩) hS21 ?_
        · intro w hSw
          go_simp
        simp only [Act.put, List.setIfInBounds_toArray, List.set_cons_zero, List.set_cons_succ]
        refine wpAnyH_ready (rs := [7]) (by kernel_rfl) (by simp) ?_
        refine AllReadyH.cons (o := { dst := some 54, op := .call { callee := .value (.func 18), args := #[.tmp 52, .tmp 53], argTypes := #[29, 29] }, type := _, pos := _, after := _, guard := some (4, true) }) rfl (fun K hK => ?_) AllReadyH.nil
        rw [if_pos (by rfl)]
        go_wp2_with (go_at_call 18; refine (k18 _ hS21.2.2.2.2).mono ?_; rintro e w22 ⟨rfl, hb22⟩)
        have hS22 := keepS4 hb22 hS21
        refine hK.out _ _ hS22 (fun _ => ?_)
        refine wpAnyH_take (i := 8) (oi := { dst := some 55, op := .pick (.tmp 51) (.tmp 54) (.const (.bool false)), type := _, pos := _, after := _, guard := none }) (v := .bool true) rfl (by kernel_rfl) (by kernel_rfl) (by kernel_rfl) (fun _ _ _ h => h) (Or.inl ⟨by rfl, ?_⟩) hS22 ?_
        · intro w hSw
          go_simp
        simp only [Act.put, List.setIfInBounds_toArray, List.set_cons_zero, List.set_cons_succ]
        refine wpAnyH_take (i := 9) (oi := { dst := some 56, op := .move (.tmp 55), type := _, pos := _, after := _, guard := none }) (v := .bool true) rfl (by kernel_rfl) (by kernel_rfl) (by kernel_rfl) (fun _ _ _ h => h) (Or.inl ⟨by rfl, ?_⟩) hS22 ?_
        · intro w hSw
          go_simp
        simp only [Act.put, List.setIfInBounds_toArray, List.set_cons_zero, List.set_cons_succ]
        refine wpAnyH_take (i := 10) (oi := { dst := some 57, op := .load 25 (.tmp 4), type := _, pos := _, after := _, guard := some (9, true) }) rfl (by kernel_rfl) (by kernel_rfl) (by kernel_rfl) (fun _ _ _ h => h) (yieldsIf_load_mid (by rfl) 25 (.tmp 4) rfl w.heap.size 0 rfl (b.map B8) _ (fun w hSw => hSw.1) Tryd.underlying25 rfl hib) hS22 ?_
        simp only [Act.put, List.setIfInBounds_toArray, List.set_cons_zero, List.set_cons_succ]
        refine wpAnyH_take (i := 12) (oi := { dst := some 59, op := .load 25 (.tmp 4), type := _, pos := _, after := _, guard := some (9, true) }) rfl (by kernel_rfl) (by kernel_rfl) (by kernel_rfl) (fun _ _ _ h => h) (yieldsIf_load_mid (by rfl) 25 (.tmp 4) rfl w.heap.size 0 rfl (b.map B8) _ (fun w hSw => hSw.1) Tryd.underlying25 rfl hib) hS22 ?_
        simp only [Act.put, List.setIfInBounds_toArray, List.set_cons_zero, List.set_cons_succ]
        refine wpAnyH_ready (rs := [11]) (by kernel_rfl) (by simp) ?_
        refine AllReadyH.cons (o := { dst := some 58, op := .call { callee := .value (.func 19), args := #[.tmp 57], argTypes := #[25] }, type := _, pos := _, after := _, guard := some (9, true) }) rfl (fun K hK => ?_) AllReadyH.nil
        rw [if_pos (by rfl)]
        go_wp2_with (go_at_call 19; refine (k19 _).mono ?_; rintro e w23 ⟨rfl, hb23⟩)
        have hS23 := keepS4 hb23 hS22
        refine hK.out _ _ hS23 (fun _ => ?_)
        refine wpAnyH_ready (rs := [13]) (by kernel_rfl) (by simp) ?_
        refine AllReadyH.cons (o := { dst := some 60, op := .call { callee := .value (.func 20), args := #[.tmp 59], argTypes := #[25] }, type := _, pos := _, after := _, guard := some (9, true) }) rfl (fun K hK => ?_) AllReadyH.nil
        rw [if_pos (by rfl)]
        go_wp2_with (go_at_call 20; refine (k20 _).mono ?_; rintro e w24 ⟨rfl, hb24⟩)
        have hS24 := keepS4 hb24 hS23
        refine hK.out _ _ hS24 (fun _ => ?_)
        refine wpAnyH_take (i := 14) (oi := { dst := some 61, op := .binOp .eql 9 (.tmp 58) (.tmp 60) 9, type := _, pos := _, after := _, guard := some (9, true) }) (v := .bool true) rfl (by kernel_rfl) (by kernel_rfl) (by kernel_rfl) (fun _ _ _ h => h) (Or.inl ⟨by rfl, ?_⟩) hS24 ?_
        · intro w hSw
          go_simp
        simp only [Act.put, List.setIfInBounds_toArray, List.set_cons_zero, List.set_cons_succ]
        refine wpAnyH_take (i := 15) (oi := { dst := some 62, op := .pick (.tmp 56) (.tmp 61) (.const (.bool false)), type := _, pos := _, after := _, guard := none }) (v := .bool true) rfl (by kernel_rfl) (by kernel_rfl) (by kernel_rfl) (fun _ _ _ h => h) (Or.inl ⟨by rfl, ?_⟩) hS24 ?_
        · intro w hSw
          go_simp
        simp only [Act.put, List.setIfInBounds_toArray, List.set_cons_zero, List.set_cons_succ]
        refine wpAnyH_take (i := 16) (oi := { dst := some 63, op := .move (.tmp 62), type := _, pos := _, after := _, guard := none }) (v := .bool true) rfl (by kernel_rfl) (by kernel_rfl) (by kernel_rfl) (fun _ _ _ h => h) (Or.inl ⟨by rfl, ?_⟩) hS24 ?_
        · intro w hSw
          go_simp
        simp only [Act.put, List.setIfInBounds_toArray, List.set_cons_zero, List.set_cons_succ]
        refine wpAnyH_take (i := 17) (oi := { dst := some 64, op := .load 25 (.tmp 11), type := _, pos := _, after := _, guard := some (16, true) }) rfl (by kernel_rfl) (by kernel_rfl) (by kernel_rfl) (fun _ _ _ h => h) (yieldsIf_load_mid (by rfl) 25 (.tmp 11) rfl g11 0 rfl (pd.map B8) _ (fun w hSw => hSw.2.2.1) Tryd.underlying25 rfl hipd) hS24 ?_
        simp only [Act.put, List.setIfInBounds_toArray, List.set_cons_zero, List.set_cons_succ]
        refine wpAnyH_take (i := 18) (oi := { dst := some 65, op := .load 25 (.tmp 13), type := _, pos := _, after := _, guard := some (16, true) }) rfl (by kernel_rfl) (by kernel_rfl) (by kernel_rfl) (fun _ _ _ h => h) (yieldsIf_load_mid (by rfl) 25 (.tmp 13) rfl g13 0 rfl (pd.map B8) _ (fun w hSw => hSw.2.2.2.1) Tryd.underlying25 rfl hipd) hS24 ?_
        simp only [Act.put, List.setIfInBounds_toArray, List.set_cons_zero, List.set_cons_succ]
        refine wpAnyH_take (i := 19) (oi := { dst := some 66, op := .binOp .eql 25 (.tmp 64) (.tmp 65) 25, type := _, pos := _, after := _, guard := some (16, true) }) (v := .bool true) rfl (by kernel_rfl) (by kernel_rfl) (by kernel_rfl) (fun _ _ _ h => h) (Or.inl ⟨by rfl, ?_⟩) hS24 ?_
        · intro w hSw
          go_simp
        simp only [Act.put, List.setIfInBounds_toArray, List.set_cons_zero, List.set_cons_succ]
        refine wpAnyH_take (i := 20) (oi := { dst := some 67, op := .pick (.tmp 63) (.tmp 66) (.const (.bool false)), type := _, pos := _, after := _, guard := none }) (v := .bool true) rfl (by kernel_rfl) (by kernel_rfl) (by kernel_rfl) (fun _ _ _ h => h) (Or.inl ⟨by rfl, ?_⟩) hS24 ?_
        · intro w hSw
          go_simp
        simp only [Act.put, List.setIfInBounds_toArray, List.set_cons_zero, List.set_cons_succ]
        refine wpAnyH_take (i := 21) (oi := { dst := some 68, op := .move (.tmp 67), type := _, pos := _, after := _, guard := none }) (v := .bool true) rfl (by kernel_rfl) (by kernel_rfl) (by kernel_rfl) (fun _ _ _ h => h) (Or.inl ⟨by rfl, ?_⟩) hS24 ?_
        · intro w hSw
          go_simp
        simp only [Act.put, List.setIfInBounds_toArray, List.set_cons_zero, List.set_cons_succ]
        refine wpAnyH_take (i := 22) (oi := { dst := some 69, op := .move (.tmp 12), type := _, pos := _, after := _, guard := some (21, true) }) (v := .int .i64 E) rfl (by kernel_rfl) (by kernel_rfl) (by kernel_rfl) (fun _ _ _ h => h) (Or.inl ⟨by rfl, ?_⟩) hS24 ?_
        · intro w hSw
          go_simp
        simp only [Act.put, List.setIfInBounds_toArray, List.set_cons_zero, List.set_cons_succ]
        refine wpAnyH_take (i := 23) (oi := { dst := some 70, op := .move (.tmp 14), type := _, pos := _, after := _, guard := some (21, true) }) (v := .int .i64 E) rfl (by kernel_rfl) (by kernel_rfl) (by kernel_rfl) (fun _ _ _ h => h) (Or.inl ⟨by rfl, ?_⟩) hS24 ?_
        · intro w hSw
          go_simp
        simp only [Act.put, List.setIfInBounds_toArray, List.set_cons_zero, List.set_cons_succ]
        refine wpAnyH_take (i := 24) (oi := { dst := some 71, op := .binOp .eql 3 (.tmp 69) (.tmp 70) 3, type := _, pos := _, after := _, guard := some (21, true) }) (v := .bool true) rfl (by kernel_rfl) (by kernel_rfl) (by kernel_rfl) (fun _ _ _ h => h) (Or.inl ⟨by rfl, ?_⟩) hS24 ?_
        · intro w hSw
          go_simp
        simp only [Act.put, List.setIfInBounds_toArray, List.set_cons_zero, List.set_cons_succ]
        refine wpAnyH_take (i := 25) (oi := { dst := some 72, op := .pick (.tmp 68) (.tmp 71) (.const (.bool false)), type := _, pos := _, after := _, guard := none }) (v := .bool true) rfl (by kernel_rfl) (by kernel_rfl) (by kernel_rfl) (fun _ _ _ h => h) (Or.inl ⟨by rfl, ?_⟩) hS24 ?_
        · intro w hSw
          go_simp
        simp only [Act.put, List.setIfInBounds_toArray, List.set_cons_zero, List.set_cons_succ]
        refine wpAnyH_take (i := 26) (oi := { dst := some 6, op := .assign (.tmp 72), type := _, pos := _, after := _, guard := none }) (v := .bool true) rfl (by kernel_rfl) (by kernel_rfl) (by kernel_rfl) (fun _ _ _ h => h) (Or.inl ⟨by rfl, ?_⟩) hS24 ?_
        · intro w hSw
          go_simp
        simp only [Act.put, List.setIfInBounds_toArray, List.set_cons_zero, List.set_cons_succ]
        refine wpAnyH_done (by kernel_rfl) ?_ _
        go_wp2
        go_ret
        exact ⟨rfl, cAll.trans (hS24.2.2.2.2.mono cAll.size)⟩
      · go_wp2
        go_ret
        exact ⟨rfl, hb1⟩

end Go.Proofs.YtbigkblkfnnfkaaDoor
