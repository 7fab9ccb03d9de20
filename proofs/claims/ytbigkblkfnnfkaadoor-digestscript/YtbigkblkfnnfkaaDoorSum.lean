/- digest's end, and Sum: they tell the digest. -/
import Derived.Test.YtbigkblkfnnfkaaDoorEnd
namespace Go.Proofs.YtbigkblkfnnfkaaDoor
open Go.RowKit
set_option linter.unusedVariables false

theorem put1_lit (g q : Nat) (m : List UInt8) (b : UInt8) (z : Int) (hz : z = (b.toNat : Int)) (w : World) (hq : q = w.heap.size) (hH : HashIs w g m) (hmax : m.length + 1 ≤ 1099511627776) (hR : Roots w) (hg0 : 0 < g) :
    Calls Tryd.prog 32 #[.pointer (some ⟨g, 0, none⟩), .slice (some ⟨q, 0, none⟩) 1 1] (w.alloc (.cells #[.int .u8 z] 5)) fun e w' => e = .returned (.tuple #[]) ∧ HashIs w' g (m ++ [b]) ∧ But g w w' := by
  subst hq
  exact put1_any g m b z hz w hH hmax hR hg0

theorem padZ_zero (m : List UInt8) : padZ m 0 = m ++ [128] := by simp [padZ]

set_option maxRecDepth 100000 in
set_option maxHeartbeats 1600000 in
theorem end_any (g : Nat) (m : List UInt8) (w : World) (hH : HashIs w g m) (hmax : m.length ≤ 1099511627) (hR : Roots w) (hg0 : 0 < g) :
    Calls Tryd.prog 33 #[.pointer (some ⟨g, 0, none⟩)] w fun e w' => e = .returned (.agg ((sha m).map B8).toArray) ∧ But g w w' := by
  have hgw := hH.lt
  go_enter Tryd.func33, Tryd.ntmps33
  go_wp2_with ((with_reducible show wpList _ _ _ _ _ _); refine wpList_alloc_at rfl 25 rfl _ 32 z25 ?_; intro w1 hA1 hb1 hs1; have h72 := (hH.below hb1).cell72; have hmw : IntKind.u64.wrap ((m.length : Int) * 8) = (m.length : Int) * 8 := by rw [IntKind.wrap_u64]; omega)
  refine (put1_lit g (w.heap.size + 1) m 128 128 rfl w1 hs1.symm (hH.below hb1) (by omega) (hR.below hb1) hg0).mono ?_
  rintro e w2 ⟨rfl, hH2, hb2⟩
  rw [← padZ_zero] at hH2
  have hbw2 : But g w w2 := (But.of_below hb1).trans hb2
  have hA2 := hb2.at hA1 (by omega)
  have hz64 := zeros_lt m.length
  clear hA1 hb1 hs1 hb2 h72
  go_wp2_with fail
  go_loopw [15] (fun _ wr => ∃ j : Nat, j ≤ zeros m.length ∧ HashIs wr g (padZ m j) ∧ At 25 wr w.heap.size (List.replicate 32 (Value.int .u8 0)) ∧ But g w wr) (fun _ wr => m.length + 1 + zeros m.length - lenCell wr g)
  case atStart => exact ⟨0, Nat.zero_le _, hH2, hA2, hbw2⟩
  case round =>
    obtain ⟨j, hj, hHj, hAj, hbj⟩ := hrel
    clear hH2 hA2 hbw2
    have hpl := padZ_length m j
    have h72 := hHj.cell72
    rw [hpl] at h72
    have hRj : Roots wr := hR.but hbj hg0
    by_cases hlt : j < zeros m.length
    · have ht := zeros_not m.length j hlt
      have hd : (((m.length + 1 + j : Nat) : Int).tmod 64 != 56) = true := by rw [Int.tmod_eq_emod_of_nonneg (by omega)]; simp; omega
      have hd2 : (((m.length + 1 + j : Nat) : Int) % 64 != 56) = true := by simp; omega
      obtain ⟨L, hL⟩ : ∃ L, Hid (L = m.length + 1 + j) := ⟨_, rfl⟩
      rw [← hL.out] at h72 hd hd2
      go_wp2_with (go_at_call 32; refine (put1_lit g _ (padZ m j) 0 0 rfl wr rfl hHj (by omega) hRj hg0).mono ?_; rintro e w3 ⟨rfl, hH3, hb3⟩)
      go_roundw
      case rel => exact ⟨j + 1, by omega, by rw [← padZ_step]; exact hH3, hb3.at hAj (by omega), hbj.trans hb3⟩
      case measure => rw [hH3.lenCell, hHj.lenCell]; simp [hpl]; omega
    · obtain rfl : j = zeros m.length := by omega
      have ht := zeros_end m.length
      have hd : (((m.length + 1 + zeros m.length : Nat) : Int).tmod 64 != 56) = false := by rw [Int.tmod_eq_emod_of_nonneg (by omega)]; simp; omega
      have hd2 : (((m.length + 1 + zeros m.length : Nat) : Int) % 64 != 56) = false := by simp; omega
      obtain ⟨L, hL⟩ : ∃ L, Hid (L = m.length + 1 + zeros m.length) := ⟨_, rfl⟩
      rw [← hL.out] at h72 hd hd2
      go_wp2_with (first | (go_at_call 39; refine (putLength_lit g (8 * m.length) _ (by omega) (padZ m (zeros m.length)) wr hHj (by omega) (by omega) hRj hg0).mono ?_; rintro e w4 ⟨rfl, hH4, hb4⟩) | ((with_reducible show wpList _ _ _ _ _ _); refine wpList_alloc_at rfl 25 rfl _ 32 z25 ?_; intro w5 hA5 hb5 hs5))
      rw [padZ_end] at hH4
      have hA4 := (hb4.at hAj (by omega)).below hb5
      have hH5 := hH4.below hb5
      have hbw5 : But g w w5 := (hbj.trans hb4).trans (But.of_below hb5)
      obtain ⟨hs, hhs⟩ : ∃ hs, Hid (hs = Hn (pad m) ((pad m).length / 64)) := ⟨_, rfl⟩
      have hgg : Hid (g < w4.heap.size) := hH4.lt
      have hgw4 : Hid (w.heap.size < w4.heap.size) := (hb4.at hAj (by omega)).lt
      have hword : Hid (∀ i, i < 8 → w5.cell? ⟨g, i, none⟩ = some (.int .u32 ((hs.getD i 0 : Nat) : Int))) := fun i hi => by rw [hhs.out]; exact hH5.word i hi
      clear hH4 hH5 hAj hHj hbj hb4 hb5 h72 hs5 hpl hz64 ht
      obtain ⟨q, hq⟩ : ∃ q, q = w4.heap.size := ⟨_, rfl⟩
      rw [← hq] at hA5 hgg hgw4 ⊢
      clear hq
      go_loopw [27] (fun t wr => ∃ k : Nat, k ≤ 32 ∧ t = .int .i64 k ∧ At 25 wr q ((dgs hs k).map B8) ∧ But q w5 wr) (fun t _ => 32 - (intOf t).toNat)
      case atStart => exact ⟨0, by omega, rfl, (by simpa [dgs, B8] using hA5), But.refl _ _⟩
      case round =>
        obtain ⟨k, hk, rfl, hG, hbut⟩ := hrel
        clear hA5
        by_cases hlt3 : k < 32
        · have hW : wr.cell? ⟨g, k / 4, none⟩ = some (.int .u32 ((hs.getD (k / 4) 0 : Nat) : Int)) := by
            have := hword.out (k / 4) (by omega)
            rw [World.cell?_of_block (w := w5) (hbut.block g (lt_of_cell this) (by have := hgg.out; omega))]
            exact this
          obtain ⟨x, hx⟩ : ∃ x, Hid (x = hs.getD (k / 4) 0) := ⟨_, rfl⟩
          rw [← hx.out] at hW
          have HS : Hid _ := dg_step hs k x hx.out
          have hF := hG.frozen k
          have hCk : wr.cell? ⟨q, k, none⟩ = some (.int .u8 (((dgs hs k).getD k 0).toNat : Int)) := by
            rw [hG.cell]; simp [B8, List.getD, List.getElem?_eq_getElem (show k < (dgs hs k).length by rw [dgs_length]; exact hlt3)]
          clear hA4
          go_wp2
          go_roundw
          case rel => exact ⟨k + 1, by omega, by go_num, by rw [← HS.out]; exact hG.set _ _, hbut.setCell _ _⟩
          case measure => simp [intOf]; omega
        · have hk32 : Hid (k = 32) := by show _ = _; omega
          obtain ⟨ds, hds⟩ : ∃ ds, Hid (ds = dgs hs k) := ⟨_, rfl⟩
          rw [← hds.out] at hG
          have hid := i25' ds (by rw [hds.out, dgs_length])
          have hod : (List.replicate 32 (Value.int .u8 0)).length = (ds.map B8).length := by rw [List.length_map, hds.out, dgs_length]; simp
          have hR0 := hbut.at hA4 (by have := hgw4.out; omega)
          have hne : Hid (w.heap.size ≤ q ∧ w.heap.size ≤ w5.heap.size) := ⟨Nat.le_of_lt hgw4.out, hbw5.size⟩
          clear hA4
          go_wp2_with (first | ((with_reducible show wpList _ _ _ _ _ _); refine wpList_load_at (P := Tryd.prog) rfl 25 (.tmp 4) rfl q rfl 25 (ds.map B8) hG _ Tryd.underlying25 rfl hid ?_) | ((with_reducible show wpList _ _ _ _ _ _); refine wpList_store_at (P := Tryd.prog) rfl 25 (.tmp 2) (.tmp 46) rfl w.heap.size (ds.map B8) rfl rfl 25 _ hR0 hid hod (b8_one _) ?_; intro w40 hA40 hb40 hs40))
          refine bodyPost_ret (results_at rfl _ _ w.heap.size 25 (ds.map B8) _ rfl hA40 Tryd.underlying25 rfl hid) rfl ?_
          refine ⟨by rw [hds.out, hhs.out, hk32.out]; rfl, ?_⟩
          have e1 := hne.out
          exact ⟨hb40.os.trans (hbut.os.trans hbw5.os), hb40.tape.trans (hbut.tape.trans hbw5.tape), hb40.output.trans (hbut.output.trans hbw5.output), Nat.le_trans hbw5.size (Nat.le_trans hbut.size hb40.size), fun i hi hn => by
            rw [hb40.block i (Nat.lt_of_lt_of_le (Nat.lt_of_lt_of_le hi hbw5.size) hbut.size) (by omega), hbut.block i (Nat.lt_of_lt_of_le hi hbw5.size) (by omega)]
            exact hbw5.block i hi hn⟩

theorem hash_new {w : World} {g : Nat} (h : At 58 w g (hashOf init8 (List.replicate 64 0) 0)) : HashIs w g [] := ⟨List.replicate 64 0, by simp, h, rfl⟩

set_option maxRecDepth 100000 in
theorem sum_any (a : Option Addr) (cap : Nat) (m : List UInt8) (w : World) (hrow : Row w a m) (hcap : m.length ≤ cap) (hmax : m.length ≤ 1099511627) (hR : Roots w) :
    Calls Tryd.prog 10 #[.slice a m.length cap] w fun e w' => e = .returned (.agg ((sha m).map B8).toArray) ∧ Below w.heap.size w w' := by
  have hi : (Tryd.prog.info? 58).map (·.size) = some (hashOf init8 (List.replicate 64 0) 0).length := i58
  have ho : hash0.length = (hashOf init8 (List.replicate 64 0) 0).length := rfl
  have h1 : Hid (∀ v ∈ hashOf init8 (List.replicate 64 0) 0, v.oneCell' = true) := by
    intro u hu
    have : ((hashOf init8 (List.replicate 64 0) 0).all fun u => u.oneCell') = true := by kernel_rfl
    exact List.all_eq_true.1 this u hu
  have hi25 := i25' (sha m) (sha_length m)
  obtain ⟨ds, hds⟩ : ∃ ds, Hid (ds = sha m) := ⟨_, rfl⟩
  rw [← hds.out] at hi25 ⊢
  have hod : (List.replicate 32 (Value.int .u8 0)).length = (ds.map B8).length := by rw [List.length_map, hds.out, sha_length]; simp
  have hpos := hR.pos
  go_enter Tryd.func10, Tryd.ntmps10
  go_wp2_with (first | ((with_reducible show wpList _ _ _ _ _ _); refine wpList_alloc_at rfl 25 rfl _ 32 z25 ?_; intro w1 hA1 hb1 hs1) | (go_at_call 31; refine (start_any _).mono ?_; rintro e w2 ⟨rfl, hb2⟩) | ((with_reducible show wpList _ _ _ _ _ _); refine wpList_alloc_at rfl 58 rfl _ 74 z58 ?_; intro w3 hA3 hb3 hs3) | ((with_reducible show wpList _ _ _ _ _ _); refine wpList_store_at (P := Tryd.prog) rfl 58 (.tmp 3) (.tmp 4) rfl w2.heap.size (hashOf init8 (List.replicate 64 0) 0) rfl rfl 58 _ hA3 hi ho h1.out ?_; intro w4 hA4 hb4 hs4))
  have e1 := hb1.size
  have e2 := hb2.size
  have e3 := hb3.size
  have hbel3 : Below w.heap.size w w3 := hb1.trans ((hb2.mono (by omega)).trans (hb3.mono (by omega)))
  have hbel4 : Below w.heap.size w w4 := hb4.below hbel3 (by omega) (by omega)
  have hD4 := hb4.at ((hA1.below hb2).below hb3) (by omega)
  obtain ⟨g, hg⟩ : ∃ g, g = w2.heap.size := ⟨_, rfl⟩
  rw [← hg] at hA4 ⊢
  have hgw : w.heap.size < g := by omega
  have hR4 := hR.below hbel4
  have hrow4 := hrow.below hbel4
  have hnb : ∀ b off, a = some ⟨b, off, none⟩ → b ≠ g ∨ m = [] := by
    intro b off ha
    rcases hrow with h0 | ⟨b', off', e, hc⟩
    · exact .inr h0
    · by_cases h0 : m.length = 0
      · exact .inr (List.eq_nil_of_length_eq_zero h0)
      · left
        rw [ha] at e
        cases e
        have := lt_of_cell (hc 0 (by omega))
        simp at this
        omega
  have hput : Calls Tryd.prog 32 #[.pointer (some ⟨g, 0, none⟩), .slice a m.length cap] w4 fun e w' => e = .returned (.tuple #[]) ∧ HashIs w' g m ∧ But g w4 w' := by
    by_cases h0 : m = []
    · subst h0
      refine (put_none g a cap w4).mono ?_
      rintro e w' ⟨rfl, rfl⟩
      exact ⟨rfl, hash_new hA4, But.refl _ _⟩
    · have := put_any g a cap [] m w4 (hash_new hA4) hrow4 (fun b off h => (hnb b off h).resolve_right h0) hcap (by simp; omega) hR4 (by omega)
      rw [List.nil_append] at this
      exact this
  clear hA3 hb3 hs3 hA4 hb4 hs4 hb1 hb2 hs1 hA1 hbel3 hrow4 hnb hg e1 e2 e3
  go_wp2_with (first | (go_at_call 32; refine hput.mono ?_; rintro e w5 ⟨rfl, hH5, hb5⟩) | (go_at_call 33; refine (end_any g m _ hH5 hmax (hR4.but hb5 (by omega)) (by omega)).mono ?_; rintro e w6 ⟨rfl, hb6⟩; rw [← hds.out]) | ((with_reducible show wpList _ _ _ _ _ _); refine wpList_store_at (P := Tryd.prog) rfl 25 (.tmp 2) (.tmp 7) rfl w.heap.size (ds.map B8) rfl rfl 25 _ (hb6.at (hb5.at hD4 (by omega)) (by omega)) hi25 hod (b8_one _) ?_; intro w7 hA7 hb7 hs7))
  refine bodyPost_ret (results_at rfl _ _ w.heap.size 25 (ds.map B8) _ rfl hA7 Tryd.underlying25 rfl hi25) rfl ?_
  exact ⟨rfl, hb7.below (hb6.below (hb5.below hbel4 (by omega) hbel4.size) (by omega) (Nat.le_trans hbel4.size hb5.size)) (Nat.le_refl _) (Nat.le_trans (Nat.le_trans hbel4.size hb5.size) hb6.size)⟩
end Go.Proofs.YtbigkblkfnnfkaaDoor
