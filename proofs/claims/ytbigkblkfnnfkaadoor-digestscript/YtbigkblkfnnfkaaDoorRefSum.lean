/- assizeref02.Sum tells the digest of what a slice of bytes holds. -/
import Derived.Test.YtbigkblkfnnfkaaDoorHash
namespace Go.Proofs.YtbigkblkfnnfkaaDoor
open Go.RowKit
set_option linter.unusedVariables false

/-- What a message is with the first j noughts behind it. -/
def padZ (m : List UInt8) (j : Nat) : List UInt8 := m ++ [128] ++ List.replicate j 0
theorem padZ_length (m : List UInt8) (j : Nat) : (padZ m j).length = m.length + 1 + j := by simp [padZ]; omega
theorem padZ_step (m : List UInt8) (j : Nat) : padZ m j ++ [0] = padZ m (j + 1) := by simp [padZ, List.replicate_succ']
theorem padZ_end (m : List UInt8) : padZ m (zeros m.length) ++ eight (8 * m.length) 8 = pad m := by simp [padZ, pad, tail]

theorem eight_lit (n : Nat) (z : Int) (w : World) (hz : z = (n : Int)) (hn : n < 18446744073709551616) :
    Calls Tryd.prog 34 #[.int .u64 z] w fun e w' => ∃ v, e = .returned v ∧ Own w.heap.size w' v (eight n 8) ∧ Below w.heap.size w w' := by
  subst hz
  exact eight_any n w hn

theorem Own.below {base : Nat} {w w' : World} {v : Value} {out : List UInt8} (h : Own base w v out) (hb : Below w.heap.size w w') : Own base w' v out := by
  obtain ⟨h1, ⟨h2, h3⟩ | ⟨g, cap, cur, h2, h3, h4, h5⟩⟩ := h
  · exact ⟨h1, .inl ⟨h2, h3⟩⟩
  · refine ⟨h1, .inr ⟨g, cap, cur, h2, h3, ?_, h5⟩⟩
    rw [hb.block g (Array.getElem?_eq_some_iff.1 h4).1]
    exact h4

theorem Row.notNil {w : World} {a : Option Addr} {bs : List UInt8} {c : Nat} (h : Row w a bs) (hl : 0 < bs.length) : a = none → c = 0 := by
  intro h0
  rcases h with h | ⟨b, off, e, _⟩
  · rw [h] at hl; simp at hl
  · rw [h0] at e; cases e

theorem block_comp (hs : List Nat) (h8 : hs.length = 8) (b off cap at0 : Nat) (z : Int) (hz : z = (at0 : Int)) (all : List UInt8) (w : World) (hc : ∀ j, j < all.length → w.cell? ⟨b, off + j, none⟩ = some (.int .u8 ((all.getD j 0).toNat : Int))) (hat : at0 + 64 ≤ all.length) (hmax : all.length ≤ 1099511627776) :
    Calls Tryd.prog 37 #[.agg (hs.map U32).toArray, .agg (roots.map U32).toArray, .slice (some ⟨b, off, none⟩) all.length cap, .int .i64 z] w fun e w' => e = .returned (.agg ((comp hs ((all.drop at0).take 64)).map U32).toArray) ∧ Below w.heap.size w w' := by
  subst hz
  have h := block_any (toSt hs) b off cap at0 all ((all.drop at0).take 64) w hc hat hmax rfl _ rfl
  rw [toSt_list hs h8] at h
  exact h

/-- A slice's length. -/
def lenOf : Value → Nat
  | .slice _ n _ => n
  | _ => 0

set_option maxRecDepth 100000 in
set_option maxHeartbeats 1600000 in
theorem refSum_any (a : Option Addr) (cap : Nat) (m : List UInt8) (w : World) (hrow : Row w a m) (hnil : a = none → cap = 0) (hmax : m.length ≤ 1099511627) :
    Calls Tryd.prog 11 #[.slice a m.length cap] w fun e w' => e = .returned (.agg ((sha m).map B8).toArray) ∧ Below w.heap.size w w' := by
  go_enter Tryd.func11, Tryd.ntmps11
  go_wp2_with (first | ((with_reducible show wpList _ _ _ _ _ _); refine wpList_alloc_at rfl 25 rfl _ 32 z25 ?_; intro w1 hA1 hb1 hs1) | (at_builtin; refine appRow (.tmp 9) (.tmp 10) (w.heap.size + 1) _ [] a m.length cap m rfl rfl rfl rfl (by have := own_empty w1; rw [hs1] at this; exact this) (hrow.below (hb1.alloc (by omega) _)) rfl hnil (by simp; omega) (by simp; omega) ?_))
  intro v2 w2 hown2 hbel2
  have hbz : w.heap.size + 1 ≤ w2.heap.size := by have := hbel2.size; simp at this; omega
  have hA2 : At 25 w2 w.heap.size (List.replicate 32 (Value.int .u8 0)) := by
    unfold At
    rw [hbel2.block _ (by omega), Below.heap_alloc _ _ _ (by omega)]
    exact hA1
  have hb2 : Below w.heap.size w w2 := (hb1.alloc (by omega) _).trans (hbel2.mono (by omega))
  clear hA1 hb1 hs1 hbel2
  go_wp2_with (at_builtin; refine app1 (.tmp 12) (.tmp 13) 128 128 (w.heap.size + 1) _ m rfl rfl rfl rfl hown2 rfl (by omega) hbz ?_)
  intro v3 w3 hown3 hbel3
  have hA3 : At 25 w3 w.heap.size (List.replicate 32 (Value.int .u8 0)) := by
    unfold At
    rw [hbel3.block _ (by omega)]
    exact hA2
  have hb3 : Below w.heap.size w w3 := hb2.trans (hbel3.mono (by omega))
  have hbz3 : w.heap.size + 1 ≤ w3.heap.size := Nat.le_trans hbz hbel3.size
  clear hA2 hb2 hbel3 hown2 hbz
  go_wp2_with fail
  go_loopw [3] (fun v wr => ∃ j : Nat, j ≤ zeros m.length ∧ Own (w.heap.size + 1) wr v (padZ m j) ∧ At 25 wr w.heap.size (List.replicate 32 (Value.int .u8 0)) ∧ Below w.heap.size w wr ∧ w.heap.size + 1 ≤ wr.heap.size) (fun v _ => m.length + 1 + zeros m.length - lenOf v)
  case atStart => exact ⟨0, Nat.zero_le _, by simpa [padZ] using hown3, hA3, hb3, hbz3⟩
  case round =>
    obtain ⟨j, hj, hown, hA, hb, hbz⟩ := hrel
    clear hown3 hA3 hb3 hbz3
    have hown0 := hown
    obtain ⟨av, cv, rfl, hle, hcm, hrw⟩ := hown.row
    have hpl := padZ_length m j
    have hz64 := zeros_lt m.length
    rw [hpl] at hown hown0 hle ⊢
    by_cases hlt : j < zeros m.length
    · have ht := zeros_not m.length j hlt
      have hd : ((m.length + 1 + j : Nat) : Int) % 64 ≠ 56 := by omega
      go_wp2_with (first | (at_builtin; refine app1 (.tmp 19) (.tmp 20) 0 0 (w.heap.size + 1) _ (padZ m j) rfl rfl rfl rfl hown0 rfl (by omega) hbz ?_; intro v4 w4 hown4 hbel4))
      go_roundw
      case rel => exact ⟨j + 1, by omega, by rw [← padZ_step]; exact hown4, (by unfold At; rw [hbel4.block _ (by omega)]; exact hA), hb.trans (hbel4.mono (by omega)), Nat.le_trans hbz hbel4.size⟩
      case measure =>
        obtain ⟨_, _, rfl, _⟩ := hown4.row
        simp [lenOf, hpl]
        omega
    · obtain rfl : j = zeros m.length := by omega
      have ht := zeros_end m.length
      have hd : ((m.length + 1 + zeros m.length : Nat) : Int) % 64 = 56 := by omega
      have hmw : IntKind.u64.wrap (8 * (m.length : Int)) = 8 * (m.length : Int) := by rw [IntKind.wrap_u64]; omega
      have hl8 : (eight (8 * m.length) 8).length = 8 := eight_length _ _
      go_wp2_with (first | (go_at_call 34; refine (eight_lit (8 * m.length) _ _ (by omega) (by omega)).mono ?_; rintro e w5 ⟨v5, rfl, hown5, hbel5⟩; obtain ⟨a5, c5, rfl, hle5, hcm5, hrow5⟩ := hown5.row) | (at_builtin; refine appRow (.tmp 22) (.tmp 27) (w.heap.size + 1) _ (padZ m (zeros m.length)) a5 _ c5 (eight (8 * m.length) 8) rfl rfl rfl rfl (hown.below hbel5) hrow5 rfl (Row.notNil hrow5 (by omega)) (by rw [hpl]; omega) (Nat.le_trans hbz hbel5.size) ?_))
      intro v6 w6 hown6 hbel6
      rw [padZ_end] at hown6
      have hA6 : At 25 w6 w.heap.size (List.replicate 32 (Value.int .u8 0)) := by
        unfold At
        rw [hbel6.block _ (by omega), hbel5.block _ (by omega)]
        exact hA
      have hb6 : Below w.heap.size w w6 := (hb.trans (hbel5.mono (by omega))).trans (hbel6.mono (by omega))
      have hbz6 : w.heap.size + 1 ≤ w6.heap.size := Nat.le_trans (Nat.le_trans hbz hbel5.size) hbel6.size
      clear hA hb hbz hbel5 hbel6 hown hown0 hown5 hrow5 hrw hle hle5 hcm hcm5
      obtain ⟨av6, cv6, rfl, hle6, hcm6, hrow6⟩ := hown6.row
      have hi8 := i55' init8 rfl
      have ho8 : (List.replicate 8 (Value.int .u32 0)).length = (init8.map U32).length := rfl
      have hi64 := i66' roots roots_length
      have ho64 : (List.replicate 64 (Value.int .u32 0)).length = (roots.map U32).length := by rw [List.length_map, roots_length]; simp
      go_wp2_with (first | (go_at_call 35; refine (begin_any _).mono ?_; rintro e w7 ⟨rfl, hb7⟩) | ((with_reducible show wpList _ _ _ _ _ _); refine wpList_alloc_at rfl 55 rfl _ 8 z55 ?_; intro w8 hA8 hb8 hs8) | ((with_reducible show wpList _ _ _ _ _ _); refine wpList_store_at (P := Tryd.prog) rfl 55 (.tmp 4) (.tmp 29) rfl w7.heap.size (init8.map U32) rfl rfl 55 _ hA8 hi8 ho8 (u32_one _) ?_; intro w9 hA9 hb9 hs9) | (go_at_call 36; refine (table_any _).mono ?_; rintro e w10 ⟨rfl, hb10⟩) | ((with_reducible show wpList _ _ _ _ _ _); refine wpList_alloc_at rfl 66 rfl _ 64 z66 ?_; intro w11 hA11 hb11 hs11) | ((with_reducible show wpList _ _ _ _ _ _); refine wpList_store_at (P := Tryd.prog) rfl 66 (.tmp 5) (.tmp 30) rfl w10.heap.size (roots.map U32) rfl rfl 66 _ hA11 hi64 ho64 (u32_one _) ?_; intro w12 hA12 hb12 hs12))
      have hA12' : At 25 w12 w.heap.size (List.replicate 32 (Value.int .u8 0)) := by
        have e1 := hb7.size
        have e2 := hb10.size
        exact hb12.at (((hb9.at ((hA6.below hb7).below hb8) (by omega)).below hb10).below hb11) (by omega)
      have hH12 : At 55 w12 w7.heap.size (init8.map U32) := by
        have e2 := hb10.size
        exact hb12.at ((hA9.below hb10).below hb11) (by omega)
      have hne7 : Hid (w.heap.size + 1 ≤ w7.heap.size) := Nat.le_trans hbz6 hb7.size
      have hne10 : Hid (w7.heap.size < w10.heap.size) := by show _ < _; have := hb10.size; omega
      have hb12' : Below w.heap.size w w12 := by
        have e1 := hb7.size
        have e2 := hb10.size
        exact hb12.below ((((hb9.below ((hb6.trans (hb7.mono (by omega))).trans (hb8.mono (by omega))) (by omega) (by omega)).trans (hb10.mono (by omega)))).trans (hb11.mono (by omega))) (by omega) (by omega)
      have hlpad := pad_length m
      have hplen : (pad m).length = m.length + 1 + zeros m.length + 8 := by rw [pad, List.length_append, tail_length]; omega
      obtain ⟨b, off, rfl, hcell6⟩ : ∃ b off, av6 = some ⟨b, off, none⟩ ∧ ∀ j, j < (pad m).length → w6.cell? ⟨b, off + j, none⟩ = some (.int .u8 (((pad m).getD j 0).toNat : Int)) := by
        rcases hrow6 with h0 | h
        · rw [h0] at hplen; simp at hplen
        · exact h
      have hb6lt : b < w6.heap.size := lt_of_cell (hcell6 0 (by omega))
      have hcell12 : ∀ j, j < (pad m).length → w12.cell? ⟨b, off + j, none⟩ = some (.int .u8 (((pad m).getD j 0).toNat : Int)) := by
        intro j hj
        have e1 := hb7.size
        have e2 := hb10.size
        rw [World.cell?_of_block (w := w11) (hb12.block b (by omega) (by omega)), hb11.cell (by show b < _; omega), hb10.cell (by show b < _; omega), World.cell?_of_block (w := w8) (hb9.block b (by omega) (by omega)), hb8.cell (by show b < _; omega), hb7.cell (by show b < _; omega)]
        exact hcell6 j hj
      have hbne : Hid (b < w7.heap.size) := Nat.lt_of_lt_of_le hb6lt hb7.size
      obtain ⟨all, hall⟩ : ∃ all, Hid (all = pad m) := ⟨_, rfl⟩
      rw [← hall.out] at hcell12 hlpad hplen ⊢
      obtain ⟨N, hN⟩ : ∃ N, Hid (N = all.length / 64) := ⟨_, rfl⟩
      rw [← hN.out] at hlpad
      have hlp : Hid (all.length = 64 * N) := hlpad
      have hlb : all.length ≤ 1099511627776 := by omega
      clear hlpad hplen hl8 hpl ht hd hmw hz64 hj hlt
      clear hA6 hb6 hbz6 hown6 hle6 hcm6 hcell6 hb6lt hb7 hb8 hA8 hs8 hA9 hb9 hs9 hb10 hA11 hb11 hs11 hb12 hs12 hi8 ho8 ho64 hrow6
      go_loopw [6] (fun t wr => ∃ n : Nat, n ≤ N ∧ t = .int .i64 ((64 * n : Nat) : Int) ∧ At 55 wr w7.heap.size ((Hn all n).map U32) ∧ But w7.heap.size w12 wr) (fun t _ => all.length - (intOf t).toNat)
      case atStart => exact ⟨0, Nat.zero_le _, rfl, hH12, But.refl _ _⟩
      case round =>
        obtain ⟨n, hn, rfl, hH, hbut⟩ := hrel
        clear hH12
        by_cases hlt2 : n < N
        · have hK := hbut.at hA12 (by have := hne10.out; omega)
          have hcr : Hid (∀ j, j < all.length → wr.cell? ⟨b, off + j, none⟩ = some (.int .u8 ((all.getD j 0).toNat : Int))) := by
            intro j hj
            rw [World.cell?_of_block (w := w12) (hbut.block b (lt_of_cell (hcell12 j hj)) (by have := hbne.out; omega))]
            exact hcell12 j hj
          have hih := i55' (Hn all n) (Hn_length all n)
          have hic := i55' (comp (Hn all n) ((all.drop (64 * n)).take 64)) (by rw [comp_length, Hn_length])
          have hoc : ((Hn all n).map U32).length = ((comp (Hn all n) ((all.drop (64 * n)).take 64)).map U32).length := by rw [List.length_map, List.length_map, comp_length]
          obtain ⟨hs, hhs⟩ : ∃ hs, Hid (hs = Hn all n) := ⟨_, rfl⟩
          have hs8 : Hid (hs.length = 8) := by rw [hhs.out]; exact Hn_length _ _
          rw [← hhs.out] at hih hic hoc hH
          obtain ⟨cs, hcs⟩ : ∃ cs, Hid (cs = comp hs ((all.drop (64 * n)).take 64)) := ⟨_, rfl⟩
          rw [← hcs.out] at hic hoc
          have hl0 : (0 : Int) ≤ 64 * (n : Int) := by omega
          have hl1 : 64 * (n : Int) < (all.length : Int) := by have := hlp.out; omega
          clear hcell12 hA12' hA12 hb12'
          go_wp2_with (first | ((with_reducible show wpList _ _ _ _ _ _); refine wpList_load_at (P := Tryd.prog) rfl 55 (.tmp 4) rfl w7.heap.size rfl 55 (hs.map U32) hH _ Tryd.underlying55 rfl hih ?_) | ((with_reducible show wpList _ _ _ _ _ _); refine wpList_load_at (P := Tryd.prog) rfl 66 (.tmp 5) rfl w10.heap.size rfl 66 (roots.map U32) hK _ Tryd.underlying66 rfl hi64 ?_) | (go_at_call 37; refine (block_comp hs hs8.out b off _ (64 * n) _ (by omega) all _ hcr.out (by have := hlp.out; omega) hlb).mono ?_; rintro e w20 ⟨rfl, hb20⟩; rw [← hcs.out]) | ((with_reducible show wpList _ _ _ _ _ _); refine wpList_store_at (P := Tryd.prog) rfl 55 (.tmp 4) (.tmp 41) rfl w7.heap.size (cs.map U32) rfl rfl 55 _ (hH.below hb20) hic hoc (u32_one _) ?_; intro w21 hA21 hb21 hs21))
          go_wp2
          go_roundw
          case rel => exact ⟨n + 1, by omega, by go_num, by rw [Hn, ← hhs.out, ← hcs.out]; exact hA21, hbut.trans ((But.of_below hb20).trans hb21)⟩
          case measure => have := hlp.out; simp [intOf]; omega
        · have hnN : Hid (n = N) := by show _ = _; omega
          have hH' : At 55 wr w7.heap.size ((Hn all N).map U32) := by rw [← hnN.out]; exact hH
          have hD := hbut.at hA12' (by have := hne7.out; omega)
          have hbl : Below w.heap.size w wr := hbut.below hb12' (by have := hne7.out; omega) hb12'.size
          obtain ⟨hs, hhs⟩ : ∃ hs, Hid (hs = Hn all N) := ⟨_, rfl⟩
          have hs8 : hs.length = 8 := by rw [hhs.out]; exact Hn_length _ _
          rw [← hhs.out] at hH'
          have hl0 : (0 : Int) ≤ 64 * (n : Int) := by omega
          have hl1 : ¬ 64 * (n : Int) < (all.length : Int) := by have := hlp.out; have := hnN.out; omega
          clear hH hA12 hA12' hb12' hcell12 hbut hi64
          go_wp2_with ((with_reducible show wpList _ _ _ _ _ _); refine wpList_alloc_at rfl 25 rfl _ 32 z25 ?_; intro w30 hA30 hb30 hs30)
          obtain ⟨g, hg⟩ : ∃ g, g = wr.heap.size := ⟨_, rfl⟩
          have hgw : Hid (w.heap.size < g) := by rw [hg]; exact hD.lt
          have hg7 : Hid (w7.heap.size < g) := by rw [hg]; exact hH'.lt
          rw [← hg] at hA30 ⊢
          have hH30 := hH'.below hb30
          have hD30 := hD.below hb30
          have hbl30 : Below w.heap.size w w30 := hbl.trans (hb30.mono hbl.size)
          clear hH' hD hbl hb30 hs30 hg
          go_loopw [8] (fun t wr => ∃ k : Nat, k ≤ 32 ∧ t = .int .i64 k ∧ At 25 wr g ((dgs hs k).map B8) ∧ But g w30 wr) (fun t _ => 32 - (intOf t).toNat)
          case atStart => exact ⟨0, by omega, rfl, (by simpa [dgs, B8] using hA30), But.refl _ _⟩
          case round =>
            obtain ⟨k, hk, rfl, hG, hbut⟩ := hrel
            clear hA30
            by_cases hlt3 : k < 32
            · have hW := cell55 (hbut.at hH30 (by have := hg7.out; omega)) (k / 4) (by omega)
              obtain ⟨x, hx⟩ : ∃ x, Hid (x = hs.getD (k / 4) 0) := ⟨_, rfl⟩
              rw [← hx.out] at hW
              have HS : Hid _ := dg_step hs k x hx.out
              have hF := hG.frozen k
              have hCk : wr.cell? ⟨g, k, none⟩ = some (.int .u8 (((dgs hs k).getD k 0).toNat : Int)) := by
                rw [hG.cell]; simp [B8, List.getD, List.getElem?_eq_getElem (show k < (dgs hs k).length by rw [dgs_length]; exact hlt3)]
              clear hH30 hD30 hbl30
              go_wp2
              go_roundw
              case rel => exact ⟨k + 1, by omega, by go_num, by rw [← HS.out]; exact hG.set _ _, hbut.setCell _ _⟩
              case measure => simp [intOf]; omega
            · have hk32 : Hid (k = 32) := by show _ = _; omega
              obtain ⟨ds, hds⟩ : ∃ ds, Hid (ds = dgs hs k) := ⟨_, rfl⟩
              rw [← hds.out] at hG
              have hid := i25' ds (by rw [hds.out, dgs_length])
              have hod : (List.replicate 32 (Value.int .u8 0)).length = (ds.map B8).length := by rw [List.length_map, hds.out, dgs_length]; simp
              have hR0 := hbut.at hD30 (by have := hgw.out; omega)
              have hbl : Below w.heap.size w wr := hbut.below hbl30 (by have := hgw.out; omega) hbl30.size
              clear hH30 hD30 hbl30 hbut
              go_wp2_with (first | ((with_reducible show wpList _ _ _ _ _ _); refine wpList_load_at (P := Tryd.prog) rfl 25 (.tmp 7) rfl g rfl 25 (ds.map B8) hG _ Tryd.underlying25 rfl hid ?_) | ((with_reducible show wpList _ _ _ _ _ _); refine wpList_store_at (P := Tryd.prog) rfl 25 (.tmp 2) (.tmp 58) rfl w.heap.size (ds.map B8) rfl rfl 25 _ hR0 hid hod (b8_one _) ?_; intro w40 hA40 hb40 hs40))
              refine bodyPost_ret (results_at rfl _ _ w.heap.size 25 (ds.map B8) _ rfl hA40 Tryd.underlying25 rfl hid) rfl ?_
              exact ⟨by rw [hds.out, hhs.out, hk32.out, hN.out, hall.out]; rfl, hb40.below hbl (Nat.le_refl _) hbl.size⟩
end Go.Proofs.YtbigkblkfnnfkaaDoor
