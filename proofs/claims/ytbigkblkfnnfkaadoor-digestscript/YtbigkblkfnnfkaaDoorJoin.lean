/- digest.Join: the digest of parts joined. -/
import Derived.Test.YtbigkblkfnnfkaaDoorParse
namespace Go.Proofs.YtbigkblkfnnfkaaDoor
open Go.RowKit
set_option linter.unusedVariables false

/-- What a slice of slices of bytes that is read is known by. -/
def RowL (w : World) (a : Option Addr) (fs : List (List UInt8)) : Prop :=
  fs = [] ∨ ∃ b off, a = some ⟨b, off, none⟩ ∧ ∀ j, j < fs.length → ∃ fa fc, w.cell? ⟨b, off + j, none⟩ = some (.slice fa (fs.getD j []).length fc) ∧ Row w fa (fs.getD j []) ∧ (fs.getD j []).length ≤ fc ∧ (fa = none → fc = 0)

theorem RowL.below {w w' : World} {a : Option Addr} {fs : List (List UInt8)} (h : RowL w a fs) (hb : Below w.heap.size w w') : RowL w' a fs := by
  rcases h with h | ⟨b, off, e, h⟩
  · exact .inl h
  · refine .inr ⟨b, off, e, fun j hj => ?_⟩
    obtain ⟨fa, fc, h1, h2, h3, h4⟩ := h j hj
    exact ⟨fa, fc, by rw [hb.cell (lt_of_cell h1)]; exact h1, h2.below hb, h3, h4⟩

/-- Parts joined. -/
def joined : List (List UInt8) → List UInt8
  | [] => []
  | p :: ps => eight p.length 8 ++ p ++ joined ps
theorem joined_snoc (l : List (List UInt8)) (p : List UInt8) : joined (l ++ [p]) = joined l ++ eight p.length 8 ++ p := by
  induction l with
  | nil => simp [joined]
  | cons a l ih => simp [joined, ih]
theorem take_snocL (l : List (List UInt8)) (k : Nat) (h : k < l.length) : l.take (k + 1) = l.take k ++ [l.getD k []] := by
  rw [List.take_succ_eq_append_getElem h]; simp [List.getD, List.getElem?_eq_getElem h]
theorem joined_step (l : List (List UInt8)) (k : Nat) (h : k < l.length) : joined (l.take (k + 1)) = joined (l.take k) ++ eight (l.getD k []).length 8 ++ l.getD k [] := by
  rw [take_snocL l k h, joined_snoc]
theorem joined_mono (l : List (List UInt8)) (k : Nat) (h : k < l.length) : (joined (l.take k)).length + 8 + (l.getD k []).length ≤ (joined l).length := by
  have h1 : (joined (l.take (k + 1))).length ≤ (joined l).length := by
    have e : ∀ (x y : List (List UInt8)), (joined (x ++ y)).length = (joined x).length + (joined y).length := by
      intro x y
      induction x with
      | nil => simp [joined]
      | cons a x ih => simp [joined, ih]; omega
    have := e (l.take (k + 1)) (l.drop (k + 1))
    rw [List.take_append_drop] at this
    omega
  rw [joined_step l k h] at h1
  simp [eight_length] at h1
  simp
  omega

set_option maxRecDepth 100000 in
set_option maxHeartbeats 800000 in
theorem join_hid (a : Option Addr) (cap : Nat) (ps : List (List UInt8)) (ds : List UInt8) (hds : Hid (ds = sha (joined ps))) (w : World) (hrow : RowL w a ps) (hmax : (joined ps).length ≤ 1099511627) (hR : Roots w) (hn : ps.length ≤ 1099511627776) :
    Calls Tryd.prog 14 #[.slice a ps.length cap] w fun e w' => e = .returned (.agg (ds.map B8).toArray) ∧ Below w.heap.size w w' := by
  have hi : (Tryd.prog.info? 58).map (·.size) = some (hashOf init8 (List.replicate 64 0) 0).length := i58
  have ho : hash0.length = (hashOf init8 (List.replicate 64 0) 0).length := rfl
  have h1 : Hid (∀ v ∈ hashOf init8 (List.replicate 64 0) 0, v.oneCell' = true) := hash_one _ _ _
  have hdl : ds.length = 32 := by rw [hds.out]; exact sha_length _
  have hid := i25' ds hdl
  have hod : (List.replicate 32 (Value.int .u8 0)).length = (ds.map B8).length := by rw [List.length_map, hdl]; simp
  have hpos := hR.pos
  go_enter Tryd.func14, Tryd.ntmps14
  go_wp2_with (first | ((with_reducible show wpList _ _ _ _ _ _); refine wpList_alloc_at rfl 25 rfl _ 32 z25 ?_; intro w1 hA1 hb1 hs1) | (go_at_call 31; refine (start_any _).mono ?_; rintro e w2 ⟨rfl, hb2⟩) | ((with_reducible show wpList _ _ _ _ _ _); refine wpList_alloc_at rfl 58 rfl _ 74 z58 ?_; intro w3 hA3 hb3 hs3) | ((with_reducible show wpList _ _ _ _ _ _); refine wpList_store_at (P := Tryd.prog) rfl 58 (.tmp 3) (.tmp 6) rfl w2.heap.size (hashOf init8 (List.replicate 64 0) 0) rfl rfl 58 _ hA3 hi ho h1.out ?_; intro w4 hA4 hb4 hs4))
  have e1 := hb1.size
  have e2 := hb2.size
  have e3 := hb3.size
  have hbel4 : Below w.heap.size w w4 := hb4.below (hb1.trans ((hb2.mono (by omega)).trans (hb3.mono (by omega)))) (by omega) (by omega)
  have hD4 := hb4.at ((hA1.below hb2).below hb3) (by omega)
  obtain ⟨g, hg⟩ : ∃ g, g = w2.heap.size := ⟨_, rfl⟩
  rw [← hg] at hA4 ⊢
  have hgw : Hid (w.heap.size < g) := by show _ < _; omega
  have hH4 := hash_new hA4
  clear hA3 hb3 hs3 hA4 hb4 hs4 hb1 hb2 hs1 hA1 hg e1 e2 e3
  go_loopw [9] (fun t wr => ∃ k : Nat, k ≤ ps.length ∧ t = .int .i64 k ∧ HashIs wr g (joined (ps.take k)) ∧ At 25 wr w.heap.size (List.replicate 32 (Value.int .u8 0)) ∧ Below w.heap.size w wr) (fun t _ => ps.length - (intOf t).toNat)
  case atStart => exact ⟨0, Nat.zero_le _, rfl, hH4, hD4, hbel4⟩
  case round =>
    obtain ⟨k, hk, rfl, hH, hD, hbl⟩ := hrel
    clear hH4 hD4 hbel4
    by_cases hlt : k < ps.length
    · obtain ⟨b, off, rfl, hcs⟩ : ∃ b off, a = some ⟨b, off, none⟩ ∧ ∀ j, j < ps.length → ∃ fa fc, w.cell? ⟨b, off + j, none⟩ = some (.slice fa (ps.getD j []).length fc) ∧ Row w fa (ps.getD j []) ∧ (ps.getD j []).length ≤ fc ∧ (fa = none → fc = 0) := by
        rcases hrow with h0 | h
        · rw [h0] at hlt; simp at hlt
        · exact h
      obtain ⟨fa, fc, hcell, hfr, hfc, hfn⟩ := hcs k hlt
      have hmono := joined_mono ps k hlt
      have hstep : Hid (_ = _) := joined_step ps k hlt
      obtain ⟨p, hp⟩ : ∃ p, Hid (p = ps.getD k []) := ⟨_, rfl⟩
      rw [← hp.out] at hcell hfr hfc hmono
      have hcellr : wr.cell? ⟨b, off + k, none⟩ = some (.slice fa p.length fc) := by rw [hbl.cell (lt_of_cell hcell)]; exact hcell
      have hfb : Hid (∀ b' off', fa = some ⟨b', off', none⟩ → b' ≠ g ∨ p = []) := by
        intro b' off' hf
        rcases hfr with h0 | ⟨b2, off2, e, hc2⟩
        · exact .inr h0
        · by_cases h0 : p.length = 0
          · exact .inr (List.eq_nil_of_length_eq_zero h0)
          · left
            rw [hf] at e
            cases e
            have := lt_of_cell (hc2 0 (by omega))
            have := hgw.out
            simp at *
            omega
      have hRr := hR.below hbl
      have hrr := hfr.below hbl
      have hpl : p.length ≤ 1099511627 := by omega
      obtain ⟨J, hJ⟩ : ∃ J, Hid (J = joined (ps.take k)) := ⟨_, rfl⟩
      rw [← hJ.out] at hH hmono
      have hput : Hid (∀ u : World, HashIs u g (J ++ eight p.length 8) → But g wr u → Calls Tryd.prog 32 #[.pointer (some ⟨g, 0, none⟩), .slice fa p.length fc] u fun e w' => e = .returned (.tuple #[]) ∧ HashIs w' g (J ++ eight p.length 8 ++ p) ∧ But g u w') := by
        intro u hu hbu
        by_cases h0 : p = []
        · rw [h0]
          refine (put_none g fa fc u).mono ?_
          rintro e w' ⟨rfl, hw'⟩
          rw [h0] at hu
          subst hw'
          exact ⟨rfl, by simpa using hu, But.refl _ _⟩
        · have hru : Row u fa p := by
            rcases hrr with h | ⟨b', off', rfl, hc'⟩
            · exact .inl h
            · exact .inr ⟨b', off', rfl, fun j hj => by
                rw [World.cell?_of_block (w := wr) (hbu.block b' (lt_of_cell (hc' j hj)) ((hfb.out b' off' rfl).resolve_right h0))]
                exact hc' j hj⟩
          exact put_any g fa fc _ p u hu hru (fun b' off' h => (hfb.out b' off' h).resolve_right h0) hfc (by simp [eight_length]; omega) (hRr.but hbu (by have := hgw.out; omega)) (by have := hgw.out; omega)
      clear hcs hcell hrow hfr hrr
      go_wp2_with (first | (go_at_call 39; refine (putLength_lit g p.length _ (by omega) J _ hH (by omega) (by omega) hRr (by have := hgw.out; omega)).mono ?_; rintro e w5 ⟨rfl, hH5, hb5⟩) | (go_at_call 32; refine (hput.out _ hH5 hb5).mono ?_; rintro e w6 ⟨rfl, hH6, hb6⟩))
      go_roundw
      case rel => exact ⟨k + 1, by omega, by go_num, by rw [hstep.out, ← hp.out, ← hJ.out]; exact hH6, hb6.at (hb5.at hD (by have := hgw.out; omega)) (by have := hgw.out; omega), (hb6.below (hb5.below hbl (by have := hgw.out; omega) hbl.size) (by have := hgw.out; omega) (Nat.le_trans hbl.size hb5.size))⟩
      case measure => simp [intOf]; omega
    · have hkn : Hid (k = ps.length) := by show _ = _; omega
      have hHp : HashIs wr g (joined ps) := by rw [hkn.out, List.take_length] at hH; exact hH
      have hend : Hid (Calls Tryd.prog 33 #[.pointer (some ⟨g, 0, none⟩)] wr fun e w' => e = .returned (.agg (ds.map B8).toArray) ∧ But g wr w') := by
        rw [hds.out]
        exact end_any g (joined ps) wr hHp hmax (hR.below hbl) (by have := hgw.out; omega)
      clear hH hHp
      go_wp2_with (first | (go_at_call 33; refine hend.out.mono ?_; rintro e w5 ⟨rfl, hb5⟩) | ((with_reducible show wpList _ _ _ _ _ _); refine wpList_store_at (P := Tryd.prog) rfl 25 (.tmp 2) (.tmp 20) rfl w.heap.size (ds.map B8) rfl rfl 25 _ (hb5.at hD (by have := hgw.out; omega)) hid hod (b8_one _) ?_; intro w7 hA7 hb7 hs7))
      refine bodyPost_ret (results_at rfl _ _ w.heap.size 25 (ds.map B8) _ rfl hA7 Tryd.underlying25 rfl hid) rfl ?_
      exact ⟨rfl, hb7.below (hb5.below hbl (by have := hgw.out; omega) hbl.size) (Nat.le_refl _) (Nat.le_trans hbl.size hb5.size)⟩
end Go.Proofs.YtbigkblkfnnfkaaDoor
