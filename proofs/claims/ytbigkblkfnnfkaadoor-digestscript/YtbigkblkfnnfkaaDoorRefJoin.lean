/- assizeref02.Join tells the digest of parts joined. -/
import Derived.Test.YtbigkblkfnnfkaaDoorJoin
namespace Go.Proofs.YtbigkblkfnnfkaaDoor
open Go.RowKit
set_option linter.unusedVariables false

set_option maxRecDepth 100000 in
set_option maxHeartbeats 800000 in
theorem refJoin_hid (a : Option Addr) (cap : Nat) (ps : List (List UInt8)) (ds : List UInt8) (hds : Hid (ds = sha (joined ps))) (w : World) (hrow : RowL w a ps) (hmax : (joined ps).length ≤ 1099511627) (hn : ps.length ≤ 1099511627776) :
    Calls Tryd.prog 17 #[.slice a ps.length cap] w fun e w' => e = .returned (.agg (ds.map B8).toArray) ∧ Below w.heap.size w w' := by
  have hdl : ds.length = 32 := by rw [hds.out]; exact sha_length _
  have hid := i25' ds hdl
  have hod : (List.replicate 32 (Value.int .u8 0)).length = (ds.map B8).length := by rw [List.length_map, hdl]; simp
  go_enter Tryd.func17, Tryd.ntmps17
  go_wp2_with ((with_reducible show wpList _ _ _ _ _ _); refine wpList_alloc_at rfl 25 rfl _ 32 z25 ?_; intro w1 hA1 hb1 hs1)
  go_loopw [3, 4] (fun v t wr => ∃ k : Nat, k ≤ ps.length ∧ t = .int .i64 k ∧ Own (w.heap.size + 1) wr v (joined (ps.take k)) ∧ At 25 wr w.heap.size (List.replicate 32 (Value.int .u8 0)) ∧ Below w.heap.size w wr ∧ w.heap.size + 1 ≤ wr.heap.size) (fun _ t _ => ps.length - (intOf t).toNat)
  case atStart => exact ⟨0, Nat.zero_le _, rfl, Own.nil _ _, hA1, hb1, by omega⟩
  case round =>
    obtain ⟨k, hk, rfl, hown, hA, hbl, hbz⟩ := hrel
    clear hA1 hb1 hs1
    by_cases hlt : k < ps.length
    · obtain ⟨b, off, rfl, hcs⟩ : ∃ b off, a = some ⟨b, off, none⟩ ∧ ∀ j, j < ps.length → ∃ fa fc, w.cell? ⟨b, off + j, none⟩ = some (.slice fa (ps.getD j []).length fc) ∧ Row w fa (ps.getD j []) ∧ (ps.getD j []).length ≤ fc ∧ (fa = none → fc = 0) := by
        rcases hrow with h0 | h
        · rw [h0] at hlt; simp at hlt
        · exact h
      obtain ⟨fa, fc, hcell, hfr, hfc, hfn⟩ := hcs k hlt
      have hmono := joined_mono ps k hlt
      have hstep : Hid (_ = _) := joined_step ps k hlt
      obtain ⟨p, hp⟩ : ∃ p, Hid (p = ps.getD k []) := ⟨_, rfl⟩
      rw [← hp.out] at hcell hfr hfc hmono
      have hcellr : wr.cell? ⟨b, off + k, none⟩ = some (.slice fa p.length fc) := by rw [hbl.cell (lt_of_cell hcell)]; exact hcell
      have hbw : Hid (b < w.heap.size) := lt_of_cell hcell
      have hrrw : Hid (∀ u : World, Below w.heap.size w u → Row u fa p) := fun u hu => hfr.below hu
      obtain ⟨J, hJ⟩ : ∃ J, Hid (J = joined (ps.take k)) := ⟨_, rfl⟩
      rw [← hJ.out] at hown hmono
      have hl8 : (eight p.length 8).length = 8 := eight_length _ _
      have hfn' : Hid (fa = none → fc = 0) := hfn
      have hpl : p.length ≤ 1099511627 := by omega
      clear hcs hcell hrow hfr hfn
      obtain ⟨e8, he8⟩ : ∃ e8, Hid (e8 = eight p.length 8) := ⟨_, rfl⟩
      have hl88 : e8.length = 8 := by rw [he8.out]; exact hl8
      have ceight : Hid (∀ (u : World) (z : Int), z = (p.length : Int) → Calls Tryd.prog 34 #[.int .u64 z] u fun e w' => ∃ v, e = .returned v ∧ Own u.heap.size w' v e8 ∧ Below u.heap.size u w') := fun u z hz => by
        rw [he8.out]
        exact eight_lit p.length z u hz (by omega)
      clear hl8
      go_wp2_with (first | (go_at_call 34; refine (ceight.out _ _ (by omega)).mono ?_; rintro e w5 ⟨v5, rfl, hown5, hbel5⟩; obtain ⟨a5, c5, rfl, hle5, hcm5, hrow5⟩ := hown5.row; have hcell5 : w5.cell? ⟨b, off + k, none⟩ = some (.slice fa p.length fc) := by rw [hbel5.cell (lt_of_cell hcellr)]; exact hcellr) | (at_builtin; refine appRow (.tmp 11) (.tmp 18) (w.heap.size + 1) _ J a5 _ c5 e8 rfl rfl rfl rfl (hown.below hbel5) hrow5 (by first | exact hl88 | rfl) (Row.notNil hrow5 (by omega)) (by omega) (Nat.le_trans hbz hbel5.size) ?_; intro v6 w6 hown6 hbel6; have hcell6 : w6.cell? ⟨b, off + k, none⟩ = some (.slice fa p.length fc) := by rw [hbel6.cell (by have := hbw.out; show b < _; omega)]; exact hcell5) | (at_builtin; refine appRow (.tmp 20) (.tmp 24) (w.heap.size + 1) _ (J ++ e8) fa _ fc p rfl rfl rfl rfl hown6 (hrrw.out _ (by exact (hbl.trans (hbel5.mono hbl.size)).trans (hbel6.mono (by omega)))) rfl hfn'.out (by simp; omega) (Nat.le_trans (Nat.le_trans hbz hbel5.size) hbel6.size) ?_; intro v7 w7 hown7 hbel7))
      have hbl7 : Below w.heap.size w w7 := ((hbl.trans (hbel5.mono hbl.size)).trans (hbel6.mono (by omega))).trans (hbel7.mono (by omega))
      have hA7 : At 25 w7 w.heap.size (List.replicate 32 (Value.int .u8 0)) := by
        unfold At
        rw [hbel7.block _ (by omega), hbel6.block _ (by omega), hbel5.block _ (by omega)]
        exact hA
      go_roundw
      case rel => exact ⟨k + 1, by omega, by go_num, by rw [hstep.out, ← hp.out, ← hJ.out, ← he8.out]; exact hown7, hA7, hbl7, Nat.le_trans (Nat.le_trans (Nat.le_trans hbz hbel5.size) hbel6.size) hbel7.size⟩
      case measure => simp [intOf]; omega
    · have hkn : Hid (k = ps.length) := by show _ = _; omega
      rw [hkn.out, List.take_length] at hown
      obtain ⟨av, cv, rfl, hle, hcm, hrw⟩ := hown.row
      obtain ⟨J, hJ⟩ : ∃ J, Hid (J = joined ps) := ⟨_, rfl⟩
      rw [← hJ.out] at hle hrw hmax hds ⊢
      have hnil : Hid (av = none → cv = 0) := by
        intro h0
        have := hown.2
        rcases this with ⟨e, _⟩ | ⟨g, c', cur, e, _⟩
        · simp only [Value.slice.injEq] at e; exact e.2.2
        · rw [h0] at e; simp at e
      clear hown hkn
      go_wp2_with (first | (go_at_call 11; refine (refSum_hid av cv J ds hds _ hrw hnil.out hmax).mono ?_; rintro e w5 ⟨rfl, hb5⟩) | ((with_reducible show wpList _ _ _ _ _ _); refine wpList_store_at (P := Tryd.prog) rfl 25 (.tmp 2) (.tmp 27) rfl w.heap.size (ds.map B8) rfl rfl 25 _ (hA.below hb5) hid hod (b8_one _) ?_; intro w7 hA7 hb7 hs7))
      refine bodyPost_ret (results_at rfl _ _ w.heap.size 25 (ds.map B8) _ rfl hA7 Tryd.underlying25 rfl hid) rfl ?_
      exact ⟨rfl, hb7.below (hbl.trans (hb5.mono hbl.size)) (Nat.le_refl _) (Nat.le_trans hbl.size hb5.size)⟩
end Go.Proofs.YtbigkblkfnnfkaaDoor
