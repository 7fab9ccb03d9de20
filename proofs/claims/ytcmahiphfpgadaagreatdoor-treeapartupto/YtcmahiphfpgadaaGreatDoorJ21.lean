/- Joined texts of the proof. -/
import Derived.Test.YtcmahiphfpgadaaGreatDoorJ20
import Derived.Lib.SliceRun
import Derived.Test.YtcmahiphfpgadaaGreatDoorJ9
import Derived.Great.BuildSlice

/- Rows are copied. -/
namespace Go.Proofs.YtcmahiphfpgadaaGreatDoor
open Go.RowKit
set_option linter.unusedVariables false
theorem f56 : (Tryz.prog.info? 56).map (fun i => (i.zero, i.size, i.bytes)) = some (some (.agg [Value.string ⟨#[]⟩, .int .u8 0, .int .u64 0].toArray), 3, 32) := by kernel_rfl

/-- What copying does. -/
def CopyVW (B : Nat) (x : VT) : Prop := ∀ w, x.In B w → B ≤ w.heap.size → Calls Tryz.prog 57 #[.agg x.cells.toArray] w fun r w' => ∃ y : VT, r = .returned (.agg y.cells.toArray) ∧ y.vr = x.vr ∧ y.In w'.heap.size w' ∧ y.Up w.heap.size ∧ Below w.heap.size w w'

set_option maxRecDepth 100000 in
set_option maxHeartbeats 3200000 in
theorem copiedV_of (B : Nat) (xs : List VT) (hS : ∀ x ∈ xs, CopyVW B x) (a : Option Addr) (c : Nat) (w : World) (h : RowV B w a c xs) (hBw : B ≤ w.heap.size) :
    Calls Tryz.prog 56 #[.slice a xs.length c, .func (.func 57) #[] #[]] w fun r w' => ∃ (a' : Option Addr) (c' : Nat) (ys : List VT), r = .returned (.slice a' ys.length c') ∧ ys.map VT.vr = xs.map VT.vr ∧ RowV w'.heap.size w' a' c' ys ∧ (ys = [] ∨ ∃ g o, a' = some ⟨g, o, none⟩ ∧ w.heap.size ≤ g) ∧ VT.Ups w.heap.size ys ∧ Below w.heap.size w w' := by
  obtain ⟨n, hn⟩ : ∃ n, Hid (n = xs.length) := ⟨_, (rfl : xs.length = _)⟩
  have hl := h.1
  have hk := h.2.1
  rw [← hn.out] at hl hk ⊢
  have HS : Hid (∀ x ∈ xs, CopyVW B x) := hS
  have HR : Hid (RowV B w a c xs) := h
  clear hS h
  cases a with
  | none =>
    have hx : Hid (xs = []) := by
      obtain ⟨_, _, h | ⟨g, o, h, _⟩⟩ := HR.out
      · exact h
      · cases h
    clear HR HS
    have hnil := fun u => Lib.run_eql_slice_nil (P := Tryz.prog) u 22 56 none n c 0 0 Tryz.underlying22
    go_enter Tryz.func56, Tryz.ntmps56
    go_wp2_with fail
    go_ret
    exact ⟨none, 0, [], rfl, by rw [hx.out], ⟨by simp, by simp, .inl rfl⟩, .inl rfl, VT.Ups.of (fun e he => by cases he), Below.refl _ _⟩
  | some ad =>
    have hnil := fun u => Lib.run_eql_slice_nil (P := Tryz.prog) u 22 56 (some ad) n c 0 0 Tryz.underlying22
    go_enter Tryz.func56, Tryz.ntmps56
    go_wp2_with (first
      | ((with_reducible show wpList _ _ _ _ _ _); refine wpList_make_at (P := Tryz.prog) rfl (.tmp 11) (.tmp 11) 22 rfl 56 _ 3 32 Tryz.underlying22 f56 n rfl rfl (by omega) (by omega) ?_; intro w1 ht1 hb1 hs1; refine Hid.out ?_))
    refine hidU ?_
    have H1 : Hid (w1.there w.heap.size 0 (n * 3) ∧ Below w.heap.size w w1 ∧ w.heap.size < w1.heap.size) := ⟨ht1, hb1, hs1⟩
    clear ht1 hb1 hs1
    go_wp2_with fail
    go_loopw [15] (fun j wr => ∃ i : Nat, j = .int .i64 (i : Int) ∧ i ≤ n ∧ Hid (∃ ys : List VT, ys.length = i ∧ ys.map VT.vr = (xs.take i).map VT.vr ∧ Below w.heap.size w wr ∧ wr.there w.heap.size 0 (n * 3) ∧ w.heap.size < wr.heap.size ∧ ∀ (q : Nat) (y : VT), ys[q]? = some y → wr.rangeAt w.heap.size (q * 3) y.cells ∧ y.In wr.heap.size wr ∧ y.Up (w.heap.size + 1))) (fun j _ => n - (intOf j).toNat)
    case atStart => exact ⟨0, rfl, by omega, [], rfl, rfl, H1.out.2.1, H1.out.1, H1.out.2.2, fun q y h => by simp at h⟩
    case round =>
      clear H1
      obtain ⟨i, rfl, hi, hX⟩ := hrel
      by_cases hc : i < n
      · obtain ⟨x, hx⟩ : ∃ k, xs[i]? = some k := ⟨xs[i]'(by rw [← hn.out]; exact hc), by rw [List.getElem?_eq_getElem]⟩
        obtain ⟨ys, hyl, hym, hbw, hth, hlt, hall⟩ := hX.out
        have hold : Old B w wr := Old.of_below hbw hBw
        obtain ⟨g1, o1, had, hg1, hr1, hx1⟩ := (HR.out.old hold).at i x hx
        cases had
        have HY : Hid (ys.length = i ∧ ys.map VT.vr = (xs.take i).map VT.vr ∧ Below w.heap.size w wr ∧ wr.there w.heap.size 0 (n * 3) ∧ ∀ (q : Nat) (y : VT), ys[q]? = some y → wr.rangeAt w.heap.size (q * 3) y.cells ∧ y.In wr.heap.size wr ∧ y.Up (w.heap.size + 1)) := ⟨hyl, hym, hbw, hth, hall⟩
        have HK : Hid (x.In B wr ∧ B ≤ wr.heap.size) := ⟨hx1, by have := hbw.size; omega⟩
        have HTK : Hid ((xs.take (i + 1)).map VT.vr = (xs.take i).map VT.vr ++ [x.vr]) := by
          show _ = _
          rw [List.take_add_one, hx]
          simp
        have hIx := HS.out x (List.mem_of_getElem? hx)
        have HI : Hid (∀ w, x.In B w → B ≤ w.heap.size → Calls Tryz.prog 57 #[.agg x.cells.toArray] w fun r w' => ∃ y : VT, r = .returned (.agg y.cells.toArray) ∧ y.vr = x.vr ∧ y.In w'.heap.size w' ∧ y.Up w.heap.size ∧ Below w.heap.size w w') := hIx
        clear hX hyl hym hbw hth hall hold hx1 HR HS hIx
        go_wp2_with (first
          | ((with_reducible show wpList _ _ _ _ _ _); refine wpList_load_mid (P := Tryz.prog) rfl 56 (.tmp 18) rfl g1 (o1 + i * 3) (by first | rfl | (simp; done)) x.cells _ hr1 Tryz.underlying56 rfl i79 ?_)
          | ((with_reducible show wpList _ _ _ _ _ _); refine wpList_alloc_at rfl 56 rfl _ 3 z79 ?_; intro w2 hA2 hb2 hs2)
          | ((with_reducible show wpList _ _ _ _ _ _); refine wpList_store_at (P := Tryz.prog) rfl 56 (.tmp 7) (.tmp 19) rfl wr.heap.size x.cells rfl rfl 56 _ hA2 i79 rfl x.one ?_; intro w3 hA3 hb3 hs3; refine Hid.out ?_))
        refine hidU ?_
        have hB3 : Below wr.heap.size wr w3 := hb3.below hb2 (Nat.le_refl _) (by omega)
        have hC := HI.out w3 (HK.out.1.old (Old.of_below hB3 HK.out.2)) (by have := hB3.size; have := HK.out.2; omega)
        have H3 : Hid (Below wr.heap.size wr w3) := hB3
        clear hb3 hb2 hA2 hr1 hs2 hs3 HI HK hB3
        go_wp2_with (first
          | ((with_reducible show wpList _ _ _ _ _ _); refine wpList_load_at (P := Tryz.prog) rfl 56 (.tmp 7) rfl wr.heap.size rfl 56 x.cells hA3 _ Tryz.underlying56 rfl i79 ?_))
        refine hC.mono ?_
        rintro r w4 ⟨y, rfl, hye, hyi, hyu, hb4⟩
        have hw4 : Below wr.heap.size wr w4 := H3.out.trans (hb4.mono H3.out.size)
        have hht : w4.there w.heap.size (i * 3) y.cells.toArray.size := by
          intro j hj
          have hlen : y.cells.toArray.size = 3 := by simp [VT.cells]
          rw [hlen] at hj
          have hin : i * 3 + j < n * 3 := by
            have : (i + 1) * 3 ≤ n * 3 := Nat.mul_le_mul_right _ (by omega)
            omega
          have h0 := HY.out.2.2.2.1 (i * 3 + j) hin
          rw [Nat.zero_add] at h0
          rw [World.cell?_of_block (w := wr) (w' := w4) (hw4.block _ hlt), World.frozen?_of_block (w := wr) (w' := w4) (hw4.block _ hlt)]
          exact h0
        clear hC hA3
        go_wp2_with (first
          | ((with_reducible show wpList _ _ _ _ _ _); refine wpList_store_mid (P := Tryz.prog) rfl 56 (.tmp 25) (.tmp 24) rfl w.heap.size (i * 3) y.cells.toArray (by first | rfl | (simp; done)) rfl hht (by rw [show y.cells.toArray.size = 3 by simp [VT.cells]]; exact i79) (all_oneCell_toArray y.one) ?_; refine Hid.out ?_))
        refine hidU ?_
        have hlen : y.cells.length = 3 := by simp [VT.cells]
        have HF : Hid (∃ ys : List VT, ys.length = i + 1 ∧ ys.map VT.vr = (xs.take (i + 1)).map VT.vr ∧ Below w.heap.size w (w4.setCells w.heap.size (i * 3) y.cells.toArray.toList) ∧ (w4.setCells w.heap.size (i * 3) y.cells.toArray.toList).there w.heap.size 0 (n * 3) ∧ w.heap.size < (w4.setCells w.heap.size (i * 3) y.cells.toArray.toList).heap.size ∧ ∀ (q : Nat) (y' : VT), ys[q]? = some y' → (w4.setCells w.heap.size (i * 3) y.cells.toArray.toList).rangeAt w.heap.size (q * 3) y'.cells ∧ y'.In (w4.setCells w.heap.size (i * 3) y.cells.toArray.toList).heap.size (w4.setCells w.heap.size (i * 3) y.cells.toArray.toList) ∧ y'.Up (w.heap.size + 1)) := by
          obtain ⟨hyl, hym, hbw, hth, hall⟩ := HY.out
          have hsz := size_setCells w.heap.size y.cells.toArray.toList (i * 3) w4
          have hBut : But w.heap.size w4 (w4.setCells w.heap.size (i * 3) y.cells.toArray.toList) := But.setCells _ _ _ (But.refl _ _)
          have hw04 : Below w.heap.size w w4 := hbw.trans (hw4.mono hbw.size)
          have hs4 : wr.heap.size ≤ w4.heap.size := hw4.size
          have hs34 : w3.heap.size ≤ w4.heap.size := hb4.size
          have hs3 : wr.heap.size ≤ w3.heap.size := H3.out.size
          have hMid : ∀ C, C ≤ w4.heap.size → Mid (w.heap.size + 1) C w4 (w4.setCells w.heap.size (i * 3) y.cells.toArray.toList) := fun C hC k h1 h2 => hBut.block k (by omega) (by omega)
          refine ⟨ys ++ [y], by simp [hyl], by rw [List.map_append, hym, HTK.out]; simp [hye], hBut.below hw04 (Nat.le_refl _) (by omega), ?_, by omega, ?_⟩
          · refine World.there_setCells ?_ _ _ _
            intro j hj
            rw [World.cell?_of_block (w := wr) (w' := w4) (hw4.block _ hlt), World.frozen?_of_block (w := wr) (w' := w4) (hw4.block _ hlt)]
            exact hth j hj
          · intro q y' hq
            rw [hsz]
            by_cases hqi : q < i
            · rw [List.getElem?_append_left (by omega)] at hq
              obtain ⟨r1, r2, r3⟩ := hall q y' hq
              have hl' : y'.cells.length = 3 := by simp [VT.cells]
              refine ⟨World.rangeAt_setCells_apart (fun j v hj => ?_) _ _ _ (.inr (.inl ?_)), ?_, r3⟩
              · rw [World.cell?_of_block (w := wr) (w' := w4) (hw4.block _ hlt)]
                exact r1 j v hj
              · rw [hl']
                have : (q + 1) * 3 ≤ i * 3 := Nat.mul_le_mul_right _ (by omega)
                omega
              · exact ((r2.old (Old.of_below hw4 (Nat.le_refl _))).up hs4).keep (hMid _ (Nat.le_refl _)) r3
            · rw [List.getElem?_append_right (by omega), hyl] at hq
              have hqe : q = i := by
                have := (List.getElem?_eq_some_iff.1 hq).1
                simp at this
                omega
              subst hqe
              simp at hq
              subst hq
              have hu := hyu.mono (show w.heap.size + 1 ≤ w3.heap.size by omega)
              refine ⟨?_, hyi.keep (hMid _ (Nat.le_refl _)) hu, hu⟩
              have h0 := World.rangeAt_setCells_same w4 w.heap.size (q * 3) y.cells.toArray.toList (by simpa using hht)
              simpa using h0
        clear HY HTK H3 hye hyi hyu hb4 hw4 hht hlen
        go_wp2
        go_roundw
        case rel => exact ⟨i + 1, by go_num, by omega, HF⟩
        case measure => simp [intOf]; omega
      · have hin : i = n := by omega
        have HY : Hid (∃ (a' : Option Addr) (c' : Nat) (ys : List VT), Value.slice (some ⟨w.heap.size, 0, none⟩) n n = .slice a' ys.length c' ∧ ys.map VT.vr = xs.map VT.vr ∧ RowV wr.heap.size wr a' c' ys ∧ (ys = [] ∨ ∃ g o, a' = some ⟨g, o, none⟩ ∧ w.heap.size ≤ g) ∧ VT.Ups w.heap.size ys ∧ Below w.heap.size w wr) := by
          obtain ⟨ys, hyl, hym, hbw, hth, hlt, hall⟩ := hX.out
          rw [hin, hn.out, List.take_length] at hym
          rw [hin] at hyl
          exact ⟨_, n, ys, by rw [hyl], hym, RowV.of (by omega) (by omega) hlt (fun q y hy => ⟨(hall q y hy).1, (hall q y hy).2.1⟩), .inr ⟨_, _, rfl, Nat.le_refl _⟩, VT.Ups.of (fun y hy => by
            obtain ⟨q, hq⟩ := List.mem_iff_getElem?.1 hy
            exact (hall q y hq).2.2.mono (by omega)), hbw⟩
        clear hX hin HR HS
        go_wp2
        go_ret
        obtain ⟨a', c', ys, e1, e2⟩ := HY.out
        exact ⟨a', c', ys, by rw [← e1]; rfl, e2⟩
end Go.Proofs.YtcmahiphfpgadaaGreatDoor

/- Rows are copied. -/
namespace Go.Proofs.YtcmahiphfpgadaaGreatDoor
open Go.RowKit
set_option linter.unusedVariables false
theorem f34 : (Tryz.prog.info? 34).map (fun i => (i.zero, i.size, i.bytes)) = some (some (.agg (ex5 0 0 0 ⟨#[]⟩ (.slice none 0 0)).toArray), 5, 64) := by kernel_rfl

/-- What copying does. -/
def CopyEW (B : Nat) (x : ET) : Prop := ∀ w, x.In B w → B ≤ w.heap.size → Calls Tryz.prog 118 #[.agg x.cells.toArray] w fun r w' => ∃ y : ET, r = .returned (.agg y.cells.toArray) ∧ y.ex = x.ex ∧ y.In w'.heap.size w' ∧ y.Up w.heap.size ∧ Below w.heap.size w w'

set_option maxRecDepth 100000 in
set_option maxHeartbeats 3200000 in
theorem copiedE_of (B : Nat) (xs : List ET) (hS : ∀ x ∈ xs, CopyEW B x) (a : Option Addr) (c : Nat) (w : World) (h : RowE B w a c xs) (hBw : B ≤ w.heap.size) :
    Calls Tryz.prog 141 #[.slice a xs.length c, .func (.func 118) #[] #[]] w fun r w' => ∃ (a' : Option Addr) (c' : Nat) (ys : List ET), r = .returned (.slice a' ys.length c') ∧ ys.map ET.ex = xs.map ET.ex ∧ RowE w'.heap.size w' a' c' ys ∧ (ys = [] ∨ ∃ g o, a' = some ⟨g, o, none⟩ ∧ w.heap.size ≤ g) ∧ ET.Ups w.heap.size ys ∧ Below w.heap.size w w' := by
  obtain ⟨n, hn⟩ : ∃ n, Hid (n = xs.length) := ⟨_, (rfl : xs.length = _)⟩
  have hl := h.1
  have hk := h.2.1
  rw [← hn.out] at hl hk ⊢
  have HS : Hid (∀ x ∈ xs, CopyEW B x) := hS
  have HR : Hid (RowE B w a c xs) := h
  clear hS h
  cases a with
  | none =>
    have hx : Hid (xs = []) := by
      obtain ⟨_, _, h | ⟨g, o, h, _⟩⟩ := HR.out
      · exact h
      · cases h
    clear HR HS
    have hnil := fun u => Lib.run_eql_slice_nil (P := Tryz.prog) u 32 34 none n c 0 0 Tryz.underlying32
    go_enter Tryz.func141, Tryz.ntmps141
    go_wp2_with fail
    go_ret
    exact ⟨none, 0, [], rfl, by rw [hx.out], ⟨by simp, by simp, .inl rfl⟩, .inl rfl, ET.Ups.of (fun e he => by cases he), Below.refl _ _⟩
  | some ad =>
    have hnil := fun u => Lib.run_eql_slice_nil (P := Tryz.prog) u 32 34 (some ad) n c 0 0 Tryz.underlying32
    go_enter Tryz.func141, Tryz.ntmps141
    go_wp2_with (first
      | ((with_reducible show wpList _ _ _ _ _ _); refine wpList_make_at (P := Tryz.prog) rfl (.tmp 11) (.tmp 11) 32 rfl 34 _ 5 64 Tryz.underlying32 f34 n rfl rfl (by omega) (by omega) ?_; intro w1 ht1 hb1 hs1; refine Hid.out ?_))
    refine hidU ?_
    have H1 : Hid (w1.there w.heap.size 0 (n * 5) ∧ Below w.heap.size w w1 ∧ w.heap.size < w1.heap.size) := ⟨ht1, hb1, hs1⟩
    clear ht1 hb1 hs1
    go_wp2_with fail
    go_loopw [15] (fun j wr => ∃ i : Nat, j = .int .i64 (i : Int) ∧ i ≤ n ∧ Hid (∃ ys : List ET, ys.length = i ∧ ys.map ET.ex = (xs.take i).map ET.ex ∧ Below w.heap.size w wr ∧ wr.there w.heap.size 0 (n * 5) ∧ w.heap.size < wr.heap.size ∧ ∀ (q : Nat) (y : ET), ys[q]? = some y → wr.rangeAt w.heap.size (q * 5) y.cells ∧ y.In wr.heap.size wr ∧ y.Up (w.heap.size + 1))) (fun j _ => n - (intOf j).toNat)
    case atStart => exact ⟨0, rfl, by omega, [], rfl, rfl, H1.out.2.1, H1.out.1, H1.out.2.2, fun q y h => by simp at h⟩
    case round =>
      clear H1
      obtain ⟨i, rfl, hi, hX⟩ := hrel
      by_cases hc : i < n
      · obtain ⟨x, hx⟩ : ∃ k, xs[i]? = some k := ⟨xs[i]'(by rw [← hn.out]; exact hc), by rw [List.getElem?_eq_getElem]⟩
        obtain ⟨ys, hyl, hym, hbw, hth, hlt, hall⟩ := hX.out
        have hold : Old B w wr := Old.of_below hbw hBw
        obtain ⟨g1, o1, had, hg1, hr1, hx1⟩ := (HR.out.old hold).at i x hx
        cases had
        have HY : Hid (ys.length = i ∧ ys.map ET.ex = (xs.take i).map ET.ex ∧ Below w.heap.size w wr ∧ wr.there w.heap.size 0 (n * 5) ∧ ∀ (q : Nat) (y : ET), ys[q]? = some y → wr.rangeAt w.heap.size (q * 5) y.cells ∧ y.In wr.heap.size wr ∧ y.Up (w.heap.size + 1)) := ⟨hyl, hym, hbw, hth, hall⟩
        have HK : Hid (x.In B wr ∧ B ≤ wr.heap.size) := ⟨hx1, by have := hbw.size; omega⟩
        have HTK : Hid ((xs.take (i + 1)).map ET.ex = (xs.take i).map ET.ex ++ [x.ex]) := by
          show _ = _
          rw [List.take_add_one, hx]
          simp
        have hIx := HS.out x (List.mem_of_getElem? hx)
        have HI : Hid (∀ w, x.In B w → B ≤ w.heap.size → Calls Tryz.prog 118 #[.agg x.cells.toArray] w fun r w' => ∃ y : ET, r = .returned (.agg y.cells.toArray) ∧ y.ex = x.ex ∧ y.In w'.heap.size w' ∧ y.Up w.heap.size ∧ Below w.heap.size w w') := hIx
        clear hX hyl hym hbw hth hall hold hx1 HR HS hIx
        go_wp2_with (first
          | ((with_reducible show wpList _ _ _ _ _ _); refine wpList_load_mid (P := Tryz.prog) rfl 34 (.tmp 18) rfl g1 (o1 + i * 5) (by first | rfl | (simp; done)) x.cells _ hr1 Tryz.underlying34 rfl (by rw [ET.cells_len]; exact i29) ?_)
          | ((with_reducible show wpList _ _ _ _ _ _); refine wpList_alloc_at rfl 34 rfl _ 5 z29 ?_; intro w2 hA2 hb2 hs2)
          | ((with_reducible show wpList _ _ _ _ _ _); refine wpList_store_at (P := Tryz.prog) rfl 34 (.tmp 7) (.tmp 19) rfl wr.heap.size x.cells rfl rfl 34 _ hA2 (by rw [ET.cells_len]; exact i29) (by rw [ET.cells_len]; rfl) x.one ?_; intro w3 hA3 hb3 hs3; refine Hid.out ?_))
        refine hidU ?_
        have hB3 : Below wr.heap.size wr w3 := hb3.below hb2 (Nat.le_refl _) (by omega)
        have hC := HI.out w3 (HK.out.1.old (Old.of_below hB3 HK.out.2)) (by have := hB3.size; have := HK.out.2; omega)
        have H3 : Hid (Below wr.heap.size wr w3) := hB3
        clear hb3 hb2 hA2 hr1 hs2 hs3 HI HK hB3
        go_wp2_with (first
          | ((with_reducible show wpList _ _ _ _ _ _); refine wpList_load_at (P := Tryz.prog) rfl 34 (.tmp 7) rfl wr.heap.size rfl 34 x.cells hA3 _ Tryz.underlying34 rfl (by rw [ET.cells_len]; exact i29) ?_))
        refine hC.mono ?_
        rintro r w4 ⟨y, rfl, hye, hyi, hyu, hb4⟩
        have hw4 : Below wr.heap.size wr w4 := H3.out.trans (hb4.mono H3.out.size)
        have hht : w4.there w.heap.size (i * 5) y.cells.toArray.size := by
          intro j hj
          have hlen : y.cells.toArray.size = 5 := by simp [ET.cells_len]
          rw [hlen] at hj
          have hin : i * 5 + j < n * 5 := by
            have : (i + 1) * 5 ≤ n * 5 := Nat.mul_le_mul_right _ (by omega)
            omega
          have h0 := HY.out.2.2.2.1 (i * 5 + j) hin
          rw [Nat.zero_add] at h0
          rw [World.cell?_of_block (w := wr) (w' := w4) (hw4.block _ hlt), World.frozen?_of_block (w := wr) (w' := w4) (hw4.block _ hlt)]
          exact h0
        clear hC hA3
        go_wp2_with (first
          | ((with_reducible show wpList _ _ _ _ _ _); refine wpList_store_mid (P := Tryz.prog) rfl 34 (.tmp 25) (.tmp 24) rfl w.heap.size (i * 5) y.cells.toArray (by first | rfl | (simp; done)) rfl hht (by rw [show y.cells.toArray.size = 5 by simp [ET.cells_len]]; exact i29) (all_oneCell_toArray y.one) ?_; refine Hid.out ?_))
        refine hidU ?_
        have hlen : y.cells.length = 5 := by simp [ET.cells_len]
        have HF : Hid (∃ ys : List ET, ys.length = i + 1 ∧ ys.map ET.ex = (xs.take (i + 1)).map ET.ex ∧ Below w.heap.size w (w4.setCells w.heap.size (i * 5) y.cells.toArray.toList) ∧ (w4.setCells w.heap.size (i * 5) y.cells.toArray.toList).there w.heap.size 0 (n * 5) ∧ w.heap.size < (w4.setCells w.heap.size (i * 5) y.cells.toArray.toList).heap.size ∧ ∀ (q : Nat) (y' : ET), ys[q]? = some y' → (w4.setCells w.heap.size (i * 5) y.cells.toArray.toList).rangeAt w.heap.size (q * 5) y'.cells ∧ y'.In (w4.setCells w.heap.size (i * 5) y.cells.toArray.toList).heap.size (w4.setCells w.heap.size (i * 5) y.cells.toArray.toList) ∧ y'.Up (w.heap.size + 1)) := by
          obtain ⟨hyl, hym, hbw, hth, hall⟩ := HY.out
          have hsz := size_setCells w.heap.size y.cells.toArray.toList (i * 5) w4
          have hBut : But w.heap.size w4 (w4.setCells w.heap.size (i * 5) y.cells.toArray.toList) := But.setCells _ _ _ (But.refl _ _)
          have hw04 : Below w.heap.size w w4 := hbw.trans (hw4.mono hbw.size)
          have hs4 : wr.heap.size ≤ w4.heap.size := hw4.size
          have hs34 : w3.heap.size ≤ w4.heap.size := hb4.size
          have hs3 : wr.heap.size ≤ w3.heap.size := H3.out.size
          have hMid : ∀ C, C ≤ w4.heap.size → Mid (w.heap.size + 1) C w4 (w4.setCells w.heap.size (i * 5) y.cells.toArray.toList) := fun C hC k h1 h2 => hBut.block k (by omega) (by omega)
          refine ⟨ys ++ [y], by simp [hyl], by rw [List.map_append, hym, HTK.out]; simp [hye], hBut.below hw04 (Nat.le_refl _) (by omega), ?_, by omega, ?_⟩
          · refine World.there_setCells ?_ _ _ _
            intro j hj
            rw [World.cell?_of_block (w := wr) (w' := w4) (hw4.block _ hlt), World.frozen?_of_block (w := wr) (w' := w4) (hw4.block _ hlt)]
            exact hth j hj
          · intro q y' hq
            rw [hsz]
            by_cases hqi : q < i
            · rw [List.getElem?_append_left (by omega)] at hq
              obtain ⟨r1, r2, r3⟩ := hall q y' hq
              have hl' : y'.cells.length = 5 := by simp [ET.cells_len]
              refine ⟨World.rangeAt_setCells_apart (fun j v hj => ?_) _ _ _ (.inr (.inl ?_)), ?_, r3⟩
              · rw [World.cell?_of_block (w := wr) (w' := w4) (hw4.block _ hlt)]
                exact r1 j v hj
              · rw [hl']
                have : (q + 1) * 5 ≤ i * 5 := Nat.mul_le_mul_right _ (by omega)
                omega
              · exact ((r2.old (Old.of_below hw4 (Nat.le_refl _))).up hs4).keep (hMid _ (Nat.le_refl _)) r3
            · rw [List.getElem?_append_right (by omega), hyl] at hq
              have hqe : q = i := by
                have := (List.getElem?_eq_some_iff.1 hq).1
                simp at this
                omega
              subst hqe
              simp at hq
              subst hq
              have hu := hyu.mono (show w.heap.size + 1 ≤ w3.heap.size by omega)
              refine ⟨?_, hyi.keep (hMid _ (Nat.le_refl _)) hu, hu⟩
              have h0 := World.rangeAt_setCells_same w4 w.heap.size (q * 5) y.cells.toArray.toList (by simpa using hht)
              simpa using h0
        clear HY HTK H3 hye hyi hyu hb4 hw4 hht hlen
        go_wp2
        go_roundw
        case rel => exact ⟨i + 1, by go_num, by omega, HF⟩
        case measure => simp [intOf]; omega
      · have hin : i = n := by omega
        have HY : Hid (∃ (a' : Option Addr) (c' : Nat) (ys : List ET), Value.slice (some ⟨w.heap.size, 0, none⟩) n n = .slice a' ys.length c' ∧ ys.map ET.ex = xs.map ET.ex ∧ RowE wr.heap.size wr a' c' ys ∧ (ys = [] ∨ ∃ g o, a' = some ⟨g, o, none⟩ ∧ w.heap.size ≤ g) ∧ ET.Ups w.heap.size ys ∧ Below w.heap.size w wr) := by
          obtain ⟨ys, hyl, hym, hbw, hth, hlt, hall⟩ := hX.out
          rw [hin, hn.out, List.take_length] at hym
          rw [hin] at hyl
          exact ⟨_, n, ys, by rw [hyl], hym, RowE.of (by omega) (by omega) hlt (fun q y hy => ⟨(hall q y hy).1, (hall q y hy).2.1⟩), .inr ⟨_, _, rfl, Nat.le_refl _⟩, ET.Ups.of (fun y hy => by
            obtain ⟨q, hq⟩ := List.mem_iff_getElem?.1 hy
            exact (hall q y hq).2.2.mono (by omega)), hbw⟩
        clear hX hin HR HS
        go_wp2
        go_ret
        obtain ⟨a', c', ys, e1, e2⟩ := HY.out
        exact ⟨a', c', ys, by rw [← e1]; rfl, e2⟩
end Go.Proofs.YtcmahiphfpgadaaGreatDoor

/- Expressions are made. -/
namespace Go.Proofs.YtcmahiphfpgadaaGreatDoor
open Go.RowKit
set_option linter.unusedVariables false

theorem ex5_one (op t b : Nat) (nm : ByteArray) (a : Option Addr) (n c : Nat) : ∀ v ∈ ex5 op t b nm (.slice a n c), v.oneCell' = true := by
  intro v hv
  simp [ex5] at hv
  rcases hv with rfl | rfl | rfl | rfl | rfl <;> rfl

set_option maxRecDepth 100000 in
set_option maxHeartbeats 1600000 in
theorem name17 (s : ByteArray) (w : World) : Calls Tryz.prog 47 #[.string s] w fun r w' => r = .returned (.agg (ET.mk 2 0 0 s none 0 []).cells.toArray) ∧ Below w.heap.size w w' := by
  go_enter Tryz.func47, Tryz.ntmps47
  go_wp2_with (first
    | ((with_reducible show wpList _ _ _ _ _ _); refine wpList_alloc_at rfl 34 rfl _ 5 z29 ?_; intro w1 hA1 hb1 hs1)
    | ((with_reducible show wpList _ _ _ _ _ _); refine wpList_build_at (P := Tryz.prog) rfl 34 #[(0, .const (.int .u8 2)), (2, .tmp 3)] rfl (ex5 2 0 0 s (.slice none 0 0)) (by kernel_rfl) ?_)
    | ((with_reducible show wpList _ _ _ _ _ _); refine wpList_store_at (P := Tryz.prog) rfl 34 (.tmp 2) (.tmp 4) rfl w.heap.size (ex5 2 0 0 s (.slice none 0 0)) rfl rfl 34 _ hA1 i29 rfl (ex5_one _ _ _ _ _ _ _) ?_; intro w2 hA2 hb2 hs2; refine Hid.out ?_))
  refine hidU ?_
  have hbb : Below w.heap.size w w2 := hb2.below hb1 (Nat.le_refl _) (by omega)
  clear hb1 hb2 hs1 hs2 hA1
  go_wp2
  refine bodyPost_ret (results_at rfl _ _ w.heap.size 34 (ex5 2 0 0 s (.slice none 0 0)) _ rfl hA2 Tryz.underlying34 rfl i29) rfl ?_
  exact ⟨rfl, hbb⟩

set_option maxRecDepth 100000 in
set_option maxHeartbeats 1600000 in
theorem whole18 (b : Nat) (w : World) : Calls Tryz.prog 48 #[.int .u64 (b : Int)] w fun r w' => r = .returned (.agg (ET.mk 1 1 b ⟨#[]⟩ none 0 []).cells.toArray) ∧ Below w.heap.size w w' := by
  go_enter Tryz.func48, Tryz.ntmps48
  go_wp2_with (first
    | ((with_reducible show wpList _ _ _ _ _ _); refine wpList_alloc_at rfl 34 rfl _ 5 z29 ?_; intro w1 hA1 hb1 hs1)
    | ((with_reducible show wpList _ _ _ _ _ _); refine wpList_build_at (P := Tryz.prog) rfl 31 #[(0, .const (.int .u8 1)), (1, .tmp 3)] rfl [.int .u8 1, .int .u64 (b : Int)] (by kernel_rfl) ?_)
    | ((with_reducible show wpList _ _ _ _ _ _); refine wpList_build_at (P := Tryz.prog) rfl 34 #[(0, .const (.int .u8 1)), (1, .tmp 4)] rfl (ex5 1 1 b ⟨#[]⟩ (.slice none 0 0)) (by kernel_rfl) ?_)
    | ((with_reducible show wpList _ _ _ _ _ _); refine wpList_store_at (P := Tryz.prog) rfl 34 (.tmp 2) (.tmp 5) rfl w.heap.size (ex5 1 1 b ⟨#[]⟩ (.slice none 0 0)) rfl rfl 34 _ hA1 i29 rfl (ex5_one _ _ _ _ _ _ _) ?_; intro w2 hA2 hb2 hs2; refine Hid.out ?_))
  refine hidU ?_
  have hbb : Below w.heap.size w w2 := hb2.below hb1 (Nat.le_refl _) (by omega)
  clear hb1 hb2 hs1 hs2 hA1
  go_wp2
  refine bodyPost_ret (results_at rfl _ _ w.heap.size 34 (ex5 1 1 b ⟨#[]⟩ (.slice none 0 0)) _ rfl hA2 Tryz.underlying34 rfl i29) rfl ?_
  exact ⟨rfl, hbb⟩

theorem Try.i29' : (Tryz.prog.info? 34).map (fun i => (i.zero, i.size, i.bytes)) = some (some (.agg (ex5 0 0 0 ⟨#[]⟩ (.slice none 0 0)).toArray), 5, 64) := by kernel_rfl

section
variable {ops : Array Oper} {rest : List Oper} {o : Oper} {a : Act} {w : World} {Q : Exit → Act → World → Prop}
/-- One expression is laid as a row. -/
theorem wpList_exprs1 (hgd : o.guard = none) (x : Operand) (ho : o.op = .buildSlice 32 1 #[(0, x)]) (op t b : Nat) (nm : ByteArray) (ea : Option Addr) (n c : Nat) (hx : a.eval x = .agg (ex5 op t b nm (.slice ea n c)).toArray)
    (h : ∀ w', At 34 w' w.heap.size (ex5 op t b nm (.slice ea n c)) → Below w.heap.size w w' → wpList Tryz.prog ops Q rest (a.put o.dst (.slice (some ⟨w.heap.size, 0, none⟩) 1 1)) w') :
    wpList Tryz.prog ops Q (o :: rest) a w := by
  obtain ⟨ie, hi, hz0, hz1, hz2⟩ := info_parts Try.i29'
  refine wpList_buildSlice hgd 32 34 1 #[(0, x)] ho (ex5 op t b nm (.slice ea n c)).toArray ie (.agg (ex5 0 0 0 ⟨#[]⟩ (.slice none 0 0)).toArray) Tryz.underlying32 hi hz0 (by rw [hz1]; decide) (by rw [hz1]; decide) ?_ ?_
  · rw [hz1]
    simp only [List.map_toArray, List.map_cons, List.map_nil, hx]
    kernel_rfl
  · exact h _ (_root_.Go.heap_alloc_new w _) ((Below.refl _ w).alloc (Nat.le_refl _) _)
/-- Two expressions are laid as a row. -/
theorem wpList_exprs2 (hgd : o.guard = none) (x y : Operand) (ho : o.op = .buildSlice 32 2 #[(0, x), (1, y)]) (op t b : Nat) (nm : ByteArray) (ea : Option Addr) (n c : Nat) (hx : a.eval x = .agg (ex5 op t b nm (.slice ea n c)).toArray)
    (op' t' b' : Nat) (nm' : ByteArray) (ea' : Option Addr) (n' c' : Nat) (hy : a.eval y = .agg (ex5 op' t' b' nm' (.slice ea' n' c')).toArray)
    (h : ∀ w', At 34 w' w.heap.size (ex5 op t b nm (.slice ea n c) ++ ex5 op' t' b' nm' (.slice ea' n' c')) → Below w.heap.size w w' → wpList Tryz.prog ops Q rest (a.put o.dst (.slice (some ⟨w.heap.size, 0, none⟩) 2 2)) w') :
    wpList Tryz.prog ops Q (o :: rest) a w := by
  obtain ⟨ie, hi, hz0, hz1, hz2⟩ := info_parts Try.i29'
  refine wpList_buildSlice hgd 32 34 2 #[(0, x), (1, y)] ho (ex5 op t b nm (.slice ea n c) ++ ex5 op' t' b' nm' (.slice ea' n' c')).toArray ie (.agg (ex5 0 0 0 ⟨#[]⟩ (.slice none 0 0)).toArray) Tryz.underlying32 hi hz0 (by rw [hz1]; decide) (by rw [hz1]; decide) ?_ ?_
  · rw [hz1]
    simp only [List.map_toArray, List.map_cons, List.map_nil, hx, hy]
    kernel_rfl
  · exact h _ (_root_.Go.heap_alloc_new w _) ((Below.refl _ w).alloc (Nat.le_refl _) _)
end

end Go.Proofs.YtcmahiphfpgadaaGreatDoor
