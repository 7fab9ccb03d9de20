/- Joined texts of the proof. -/
import Derived.Test.YtcmahiphfpgadaaGreatDoorJ19
import Derived.Test.YtcmahiphfpgadaaGreatDoorJ8
import Derived.Test.YtcmahiphfpgadaaGreatDoorJ17
import Derived.Test.YtcmahiphfpgadaaGreatDoorJ18
import Derived.Test.YtcmahiphfpgadaaGreatDoorJ13

/- tree.Copy: a copy lies in blocks that may be written. -/
namespace Go.Proofs.YtcmahiphfpgadaaGreatDoor
open Go.RowKit
set_option linter.unusedVariables false

set_option maxRecDepth 100000 in
set_option maxHeartbeats 3200000 in
theorem softN_any (B : Nat) (xs : List ByteArray) (hS : ∀ x ∈ xs, x.size ≤ 281474976710656) (a : Option Addr) (c : Nat) (w : World) (h : RowN B w a c xs) (hBw : B ≤ w.heap.size) :
    Calls Tryz.prog 58 #[.slice a xs.length c, .func (.func 59) #[] #[]] w fun r w' => ∃ (a' : Option Addr), r = .returned (.slice a' xs.length xs.length) ∧ RowN w'.heap.size w' a' xs.length xs ∧ (xs = [] ∨ ∃ g o, a' = some ⟨g, o, none⟩ ∧ Fr w.heap.size w' g) ∧ Below w.heap.size w w' := by
  obtain ⟨n, hn⟩ : ∃ n, Hid (n = xs.length) := ⟨_, (rfl : xs.length = _)⟩
  have hl := h.1
  have hk := h.2.1
  rw [← hn.out] at hl hk ⊢
  have HS : Hid (∀ x ∈ xs, x.size ≤ 281474976710656) := hS
  have HR : Hid (RowN B w a c xs) := h
  clear hS h
  cases a with
  | none =>
    have hx : Hid (xs = []) := by
      obtain ⟨_, _, h | ⟨g, o, h, _⟩⟩ := HR.out
      · exact h
      · cases h
    have hn0 : Hid (n = 0) := by show n = 0; rw [hn.out, hx.out]; rfl
    clear HR HS
    have hnil := fun u => Lib.run_eql_slice_nil (P := Tryz.prog) u 23 9 none n c 0 0 Tryz.underlying23
    go_enter Tryz.func58, Tryz.ntmps58
    go_wp2_with fail
    go_ret
    exact ⟨none, by rw [hn0.out]; rfl, ⟨by rw [hx.out]; simp, by rw [hx.out]; simp, .inl hx.out⟩, .inl hx.out, Below.refl _ _⟩
  | some ad =>
    have hnil := fun u => Lib.run_eql_slice_nil (P := Tryz.prog) u 23 9 (some ad) n c 0 0 Tryz.underlying23
    go_enter Tryz.func58, Tryz.ntmps58
    go_wp2_with (first
      | ((with_reducible show wpList _ _ _ _ _ _); refine wpList_make_soft (P := Tryz.prog) rfl (.tmp 11) (.tmp 11) 23 rfl 9 _ 1 16 Tryz.underlying23 f9 n rfl rfl (by omega) (by omega) ?_; intro w1 ht1 hb1 hs1; refine Hid.out ?_))
    refine hidU ?_
    have H1 : Hid ((w1.there w.heap.size 0 (n * 1) ∧ Soft w1 w.heap.size) ∧ Below w.heap.size w w1 ∧ w.heap.size < w1.heap.size) := ⟨ht1, hb1, hs1⟩
    clear ht1 hb1 hs1
    go_wp2_with fail
    go_loopw [15] (fun j wr => ∃ i : Nat, j = .int .i64 (i : Int) ∧ i ≤ n ∧ Hid (Below w.heap.size w wr ∧ (wr.there w.heap.size 0 (n * 1) ∧ Soft wr w.heap.size) ∧ w.heap.size < wr.heap.size ∧ ∀ (q : Nat) (y : ByteArray), q < i → xs[q]? = some y → wr.cell? ⟨w.heap.size, q, none⟩ = some (.string y))) (fun j _ => n - (intOf j).toNat)
    case atStart => exact ⟨0, rfl, by omega, H1.out.2.1, H1.out.1, H1.out.2.2, fun q y h => by omega⟩
    case round =>
      clear H1
      obtain ⟨i, rfl, hi, hX⟩ := hrel
      by_cases hc : i < n
      · obtain ⟨x, hx⟩ : ∃ k, xs[i]? = some k := ⟨xs[i]'(by rw [← hn.out]; exact hc), by rw [List.getElem?_eq_getElem]⟩
        obtain ⟨hbw, hth, hlt, hall⟩ := hX.out
        have hold : Old B w wr := Old.of_below hbw hBw
        obtain ⟨g1, o1, had, hg1, hr1⟩ := (HR.out.old hold).at i x hx
        cases had
        have HY : Hid (Below w.heap.size w wr ∧ (wr.there w.heap.size 0 (n * 1) ∧ Soft wr w.heap.size) ∧ w.heap.size < wr.heap.size ∧ (∀ (q : Nat) (y : ByteArray), q < i → xs[q]? = some y → wr.cell? ⟨w.heap.size, q, none⟩ = some (.string y)) ∧ xs[i]? = some x) := ⟨hbw, hth, hlt, hall, hx⟩
        have hC := clone59 x wr (HS.out x (List.mem_of_getElem? hx))
        clear hX hbw hth hall hold hlt hx
        go_wp2_with fail
        refine hC.mono ?_
        rintro r w4 ⟨rfl, hw4⟩
        obtain ⟨v0, hv0⟩ : ∃ v, w4.cell? ⟨w.heap.size, i, none⟩ = some v := by
          have h0 := (HY.out.2.1.1 i (by omega)).1
          rw [Nat.zero_add] at h0
          rw [World.cell?_of_block (w := wr) (w' := w4) (hw4.block _ HY.out.2.2.1)]
          exact Option.isSome_iff_exists.1 h0
        have hf0 : w4.frozen? ⟨w.heap.size, i, none⟩ = false := by
          have h0 := (HY.out.2.1.1 i (by omega)).2
          rw [Nat.zero_add] at h0
          rw [World.frozen?_of_block (w := wr) (w' := w4) (hw4.block _ HY.out.2.2.1)]
          exact h0
        clear hC
        have HF : Hid (Below w.heap.size w (w4.setCell ⟨w.heap.size, i, none⟩ (.string x)) ∧ ((w4.setCell ⟨w.heap.size, i, none⟩ (.string x)).there w.heap.size 0 (n * 1) ∧ Soft (w4.setCell ⟨w.heap.size, i, none⟩ (.string x)) w.heap.size) ∧ w.heap.size < (w4.setCell ⟨w.heap.size, i, none⟩ (.string x)).heap.size ∧ ∀ (q : Nat) (y : ByteArray), q < i + 1 → xs[q]? = some y → (w4.setCell ⟨w.heap.size, i, none⟩ (.string x)).cell? ⟨w.heap.size, q, none⟩ = some (.string y)) := by
          obtain ⟨hbw, hth, hlt, hall, hx⟩ := HY.out
          have hw04 : Below w.heap.size w w4 := hbw.trans (hw4.mono hbw.size)
          have hs4 := hw4.size
          have hBut : But w.heap.size w4 (w4.setCells w.heap.size i [.string x]) := But.setCells _ _ _ (But.refl _ _)
          have hth4 : w4.there w.heap.size 0 (n * 1) := by
            intro j hj
            rw [World.cell?_of_block (w := wr) (w' := w4) (hw4.block _ hlt), World.frozen?_of_block (w := wr) (w' := w4) (hw4.block _ hlt)]
            exact hth.1 j hj
          have hsz := size_setCells w.heap.size [.string x] i w4
          refine ⟨hBut.below hw04 (Nat.le_refl _) (by omega), ⟨World.there_setCells hth4 _ i [.string x], Soft.setCells [.string x] i _ w4 (hth.2.keep (hw4.block _ hlt))⟩, by show _ < (w4.setCells w.heap.size i [.string x]).heap.size; omega, ?_⟩
          intro q y hq hy
          by_cases hqi : q = i
          · subst hqi
            rw [hx] at hy
            cases hy
            have ht1 : w4.there w.heap.size q [Value.string x].length := by
              intro j hj
              have hj0 : j = 0 := by simpa using hj
              subst hj0
              exact ⟨by rw [Nat.add_zero, hv0]; rfl, by rw [Nat.add_zero]; exact hf0⟩
            have h0 := World.rangeAt_setCells_same w4 w.heap.size q [.string x] ht1
            exact h0 0 _ rfl
          · have h1 : w4.rangeAt w.heap.size q [.string y] := fun j v hj => by
              cases j with
              | zero =>
                simp at hj
                subst hj
                rw [Nat.add_zero, World.cell?_of_block (w := wr) (w' := w4) (hw4.block _ hlt)]
                exact hall q y (by omega) hy
              | succ j => simp at hj
            have h0 := World.rangeAt_setCells_apart h1 w.heap.size i [.string x] (by simp; omega)
            exact h0 0 _ rfl
        clear HY hw4
        go_wp2
        go_roundw
        case rel => exact ⟨i + 1, by go_num, by omega, HF⟩
        case measure => simp [intOf]; omega
      · have hin : i = n := by omega
        have HY : Hid (RowN wr.heap.size wr (some ⟨w.heap.size, 0, none⟩) n xs ∧ Below w.heap.size w wr ∧ Soft wr w.heap.size) := by
          obtain ⟨hbw, hth, hlt, hall⟩ := hX.out
          refine ⟨⟨by rw [← hn.out]; exact hl, by rw [← hn.out]; exact Nat.le_refl _, .inr ⟨_, 0, rfl, hlt, fun q y hy => ?_⟩⟩, hbw, hth.2⟩
          rw [Nat.zero_add]
          refine hall q y ?_ hy
          have := (List.getElem?_eq_some_iff.1 hy).1
          rw [← hn.out] at this
          omega
        clear hX hin HR HS
        go_wp2
        go_ret
        exact ⟨_, rfl, HY.out.1, .inr ⟨_, _, rfl, Nat.le_refl _, HY.out.2.2⟩, HY.out.2.1⟩

set_option maxRecDepth 100000 in
set_option maxHeartbeats 3200000 in
theorem soThread_of (B : Nat) (nm : ByteArray) (a1 : Option Addr) (c1 : Nat) (ls : List VT) (a2 : Option Addr) (c2 : Nat) (bs : List ST) (hnm : nm.size ≤ 281474976710656) (hS1 : ∀ s ∈ ls, SoVW B s) (hS2 : ∀ s ∈ bs, SoSW B s) : SoTW B ⟨nm, a1, c1, ls, a2, c2, bs⟩ := by
  intro w hin hBw
  have hC := fun w (_ : Below w.heap.size w w) => clone59 nm w hnm
  obtain ⟨z3, z4⟩ := hin
  have hO : ∀ w2, Below w.heap.size w w2 → ∀ x, Below w2.heap.size w2 x → Old B w x ∧ B ≤ x.heap.size := fun w2 h2 x hx => ⟨Old.of_below (h2.trans (hx.mono h2.size)) hBw, by have := h2.size; have := hx.size; omega⟩
  obtain ⟨n1, hn1⟩ : ∃ n, Hid (n = ls.length) := ⟨_, (rfl : ls.length = _)⟩
  obtain ⟨n2, hn2⟩ : ∃ n, Hid (n = bs.length) := ⟨_, (rfl : bs.length = _)⟩
  have G1 : ∀ w2, Below w.heap.size w w2 → ∀ x, Below w2.heap.size w2 x → Calls Tryz.prog 56 #[.slice a1 n1 c1, .func (.func 57) #[] #[]] x fun r w' => ∃ (a' : Option Addr) (c' : Nat) (ys : List VT), r = .returned (.slice a' ys.length c') ∧ ys.map VT.vr = ls.map VT.vr ∧ RowV w'.heap.size w' a' c' ys ∧ (ys = [] ∨ ∃ g o, a' = some ⟨g, o, none⟩ ∧ Fr x.heap.size w' g) ∧ VT.LiesL (Fr x.heap.size w') ys ∧ Below x.heap.size x w' := fun w2 h2 x hx => by
    rw [hn1.out]
    exact softV_of B ls hS1 a1 c1 x (RowV.old z3 (hO w2 h2 x hx).1) (hO w2 h2 x hx).2
  have G2 : ∀ w2, Below w.heap.size w w2 → ∀ x, Below w2.heap.size w2 x → Calls Tryz.prog 92 #[.slice a2 n2 c2, .func (.func 93) #[] #[]] x fun r w' => ∃ (a' : Option Addr) (c' : Nat) (ys : List ST), r = .returned (.slice a' ys.length c') ∧ ys.map ST.st = bs.map ST.st ∧ RowS w'.heap.size w' a' c' ys ∧ (ys = [] ∨ ∃ g o, a' = some ⟨g, o, none⟩ ∧ Fr x.heap.size w' g) ∧ ST.LiesL (Fr x.heap.size w') ys ∧ Below x.heap.size x w' := fun w2 h2 x hx => by
    rw [hn2.out]
    exact softS_of B bs hS2 a2 c2 x (RowS.old z4 (hO w2 h2 x hx).1) (hO w2 h2 x hx).2
  have HG : Hid (∀ w2, Below w.heap.size w w2 → (∀ x, Below w2.heap.size w2 x → Calls Tryz.prog 56 #[.slice a1 n1 c1, .func (.func 57) #[] #[]] x fun r w' => ∃ (a' : Option Addr) (c' : Nat) (ys : List VT), r = .returned (.slice a' ys.length c') ∧ ys.map VT.vr = ls.map VT.vr ∧ RowV w'.heap.size w' a' c' ys ∧ (ys = [] ∨ ∃ g o, a' = some ⟨g, o, none⟩ ∧ Fr x.heap.size w' g) ∧ VT.LiesL (Fr x.heap.size w') ys ∧ Below x.heap.size x w') ∧ (∀ x, Below w2.heap.size w2 x → Calls Tryz.prog 92 #[.slice a2 n2 c2, .func (.func 93) #[] #[]] x fun r w' => ∃ (a' : Option Addr) (c' : Nat) (ys : List ST), r = .returned (.slice a' ys.length c') ∧ ys.map ST.st = bs.map ST.st ∧ RowS w'.heap.size w' a' c' ys ∧ (ys = [] ∨ ∃ g o, a' = some ⟨g, o, none⟩ ∧ Fr x.heap.size w' g) ∧ ST.LiesL (Fr x.heap.size w') ys ∧ Below x.heap.size x w')) := fun w2 h2 => ⟨G1 w2 h2, G2 w2 h2⟩
  clear z3 z4 hO hS1 hS2 G1 G2
  have hgo : Calls Tryz.prog 61 #[.agg [.string nm, .slice a1 n1 c1, .slice a2 n2 c2].toArray] w fun r w' => Hid (∃ y : TT, r = .returned (.agg y.cells.toArray) ∧ y.th = (TT.mk nm a1 c1 ls a2 c2 bs).th ∧ y.In w'.heap.size w' ∧ y.Lies (Fr w.heap.size w') ∧ Below w.heap.size w w') := by
    go_enter Tryz.func61, Tryz.ntmps61
    go_wp2_with (first
      | ((with_reducible show wpList _ _ _ _ _ _); refine wpList_box_at rfl 59 (.tmp 0) rfl [.string nm, .slice a1 n1 c1, .slice a2 n2 c2] rfl ?_; intro w1 hA1 hb1 hs1; clear hs1)
      | ((with_reducible show wpList _ _ _ _ _ _); refine wpList_alloc_at rfl 59 rfl _ 3 z42 ?_; intro w2 hA2 hb2 hs2; clear hs2; refine Hid.out ?_))
    refine hidU ?_
    have hA12 := hA1.below hb2
    have hbw : Below w.heap.size w w2 := hb1.trans (hb2.mono hb1.size)
    have hlt : w.heap.size < w1.heap.size := hA1.lt
    have HK : Hid (∀ x, Below w2.heap.size w2 x → x.cell? ⟨w.heap.size, 0, none⟩ = some (.string nm) ∧ x.cell? ⟨w.heap.size, 1, none⟩ = some (.slice a1 n1 c1) ∧ x.cell? ⟨w.heap.size, 2, none⟩ = some (.slice a2 n2 c2)) := fun x hx => by
      have hA := hA12.below hx
      refine ⟨?_, ?_, ?_⟩ <;> (rw [hA.cell]; rfl)
    have HK' : Hid (∀ x, Below w2.heap.size w2 x → ∀ vs, (x.setCells w1.heap.size 0 vs).cell? ⟨w.heap.size, 0, none⟩ = some (.string nm) ∧ (x.setCells w1.heap.size 0 vs).cell? ⟨w.heap.size, 1, none⟩ = some (.slice a1 n1 c1) ∧ (x.setCells w1.heap.size 0 vs).cell? ⟨w.heap.size, 2, none⟩ = some (.slice a2 n2 c2)) := fun x hx vs => by
      have hA := (But.setCells vs 0 x (But.refl w1.heap.size x)).at (hA12.below hx) (by omega)
      refine ⟨?_, ?_, ?_⟩ <;> (rw [hA.cell]; rfl)
    have hB0 : Below w2.heap.size w2 w2.drew := Below.drew (Below.refl _ _)
    have hS0 := HK.out _ hB0
    clear hA1 hb1 hb2 hA12
    obtain ⟨q1, q2⟩ := HG.out w2 hbw
    have H1 : Hid _ := q1
    have H2 : Hid _ := q2
    clear HG q1 q2
    go_wp2_with fail
    refine wp_region_held_drew (S := fun w' => w'.cell? ⟨w.heap.size, 0, none⟩ = some (.string nm) ∧ w'.cell? ⟨w.heap.size, 1, none⟩ = some (.slice a1 n1 c1) ∧ w'.cell? ⟨w.heap.size, 2, none⟩ = some (.slice a2 n2 c2)) (by kernel_rfl) hS0 (fun _ => ?_)
    refine wpAnyH_take (i := 0) (oi := { dst := some 3, op := .fieldAddr 59 (.tmp 1) 0, type := _, pos := _, after := _, guard := none }) (v := .pointer (some ⟨w.heap.size, 0, none⟩)) rfl (by kernel_rfl) (by kernel_rfl) (by kernel_rfl) (fun _ _ _ h => h) (Or.inl ⟨by rfl, ?_⟩) hS0 ?_
    · intro w hSw
      go_simp
    simp only [Act.put, List.setIfInBounds_toArray, List.set_cons_zero, List.set_cons_succ]
    refine wpAnyH_take (i := 1) (oi := { dst := some 4, op := .load 9 (.tmp 3), type := _, pos := _, after := _, guard := none }) (v := .string nm) rfl (by kernel_rfl) (by kernel_rfl) (by kernel_rfl) (fun _ _ _ h => h) (Or.inl ⟨by rfl, ?_⟩) hS0 ?_
    · intro w hSw
      have z0 := hSw.1
      go_simp
    simp only [Act.put, List.setIfInBounds_toArray, List.set_cons_zero, List.set_cons_succ]
    refine wpAnyH_take (i := 3) (oi := { dst := some 6, op := .fieldAddr 59 (.tmp 1) 1, type := _, pos := _, after := _, guard := none }) (v := .pointer (some ⟨w.heap.size, 1, none⟩)) rfl (by kernel_rfl) (by kernel_rfl) (by kernel_rfl) (fun _ _ _ h => h) (Or.inl ⟨by rfl, ?_⟩) hS0 ?_
    · intro w hSw
      go_simp
    simp only [Act.put, List.setIfInBounds_toArray, List.set_cons_zero, List.set_cons_succ]
    refine wpAnyH_take (i := 4) (oi := { dst := some 7, op := .load 22 (.tmp 6), type := _, pos := _, after := _, guard := none }) (v := .slice a1 n1 c1) rfl (by kernel_rfl) (by kernel_rfl) (by kernel_rfl) (fun _ _ _ h => h) (Or.inl ⟨by rfl, ?_⟩) hS0 ?_
    · intro w hSw
      have z0 := hSw.2.1
      go_simp
    simp only [Act.put, List.setIfInBounds_toArray, List.set_cons_zero, List.set_cons_succ]
    refine wpAnyH_take (i := 6) (oi := { dst := some 9, op := .fieldAddr 59 (.tmp 1) 2, type := _, pos := _, after := _, guard := none }) (v := .pointer (some ⟨w.heap.size, 2, none⟩)) rfl (by kernel_rfl) (by kernel_rfl) (by kernel_rfl) (fun _ _ _ h => h) (Or.inl ⟨by rfl, ?_⟩) hS0 ?_
    · intro w hSw
      go_simp
    simp only [Act.put, List.setIfInBounds_toArray, List.set_cons_zero, List.set_cons_succ]
    refine wpAnyH_take (i := 7) (oi := { dst := some 10, op := .load 57 (.tmp 9), type := _, pos := _, after := _, guard := none }) (v := .slice a2 n2 c2) rfl (by kernel_rfl) (by kernel_rfl) (by kernel_rfl) (fun _ _ _ h => h) (Or.inl ⟨by rfl, ?_⟩) hS0 ?_
    · intro w hSw
      have z0 := hSw.2.2
      go_simp
    simp only [Act.put, List.setIfInBounds_toArray, List.set_cons_zero, List.set_cons_succ]
    refine wpAnyH_ready (rs := [2]) (by kernel_rfl) (by simp) ?_
    refine AllReadyH.cons (o := { dst := some 5, op := .call { callee := .value (.func 59), args := #[.tmp 4], argTypes := #[9] }, type := _, pos := _, after := _, guard := none }) rfl (fun K hK => ?_) AllReadyH.nil
    rw [if_pos (by rfl)]
    go_wp2_with (go_at_call 59; refine (hC _ (Below.refl _ _)).mono ?_; rintro e x1 ⟨rfl, hb1⟩)
    have hB1 := hB0.trans (hb1.mono hB0.size)
    have hS1 := HK.out x1 hB1
    refine hK.out _ _ hS1 (fun _ => ?_)
    refine wpAnyH_ready (rs := [5]) (by kernel_rfl) (by simp) ?_
    refine AllReadyH.cons (o := { dst := some 8, op := .call { callee := .value (.func 56), args := #[.tmp 7, .func 57], argTypes := #[22, 92] }, type := _, pos := _, after := _, guard := none }) rfl (fun K hK => ?_) AllReadyH.nil
    rw [if_pos (by rfl)]
    go_wp2_with (go_at_call 56; refine (H1.out _ hB1).mono ?_; rintro e x2 ⟨d1, e1, ys1, rfl, hm1, hr1, ha1, hu1, hb2⟩)
    have hB2 := hB1.trans (hb2.mono hB1.size)
    have hS2 := HK.out x2 hB2
    refine hK.out _ _ hS2 (fun _ => ?_)
    refine wpAnyH_ready (rs := [8]) (by kernel_rfl) (by simp) ?_
    refine AllReadyH.cons (o := { dst := some 11, op := .call { callee := .value (.func 92), args := #[.tmp 10, .func 93], argTypes := #[57, 123] }, type := _, pos := _, after := _, guard := none }) rfl (fun K hK => ?_) AllReadyH.nil
    rw [if_pos (by rfl)]
    go_wp2_with (go_at_call 92; refine (H2.out _ hB2).mono ?_; rintro e x3 ⟨d2, e2, ys2, rfl, hm2, hr2, ha2, hu2, hb3⟩)
    have hB3 := hB2.trans (hb3.mono hB2.size)
    have hS3 := HK.out x3 hB3
    refine hK.out _ _ hS3 (fun _ => ?_)
    refine wpAnyH_take (i := 9) (oi := { dst := some 12, op := .build 59 #[(0, .tmp 5), (1, .tmp 8), (2, .tmp 11)], type := _, pos := _, after := _, guard := none }) (v := .agg ([.string nm, .slice d1 ys1.length e1, .slice d2 ys2.length e2]).toArray) rfl (by kernel_rfl) (by kernel_rfl) (by kernel_rfl) (fun _ _ _ h => h) (Or.inl ⟨by rfl, ?_⟩) hS3 ?_
    · intro w hSw
      go_simp
    simp only [Act.put, List.setIfInBounds_toArray, List.set_cons_zero, List.set_cons_succ]
    refine wpAnyH_ready (rs := [10]) (by kernel_rfl) (by simp) ?_
    refine AllReadyH.cons (o := { dst := none, op := .store 59 (.tmp 2) (.tmp 12), type := _, pos := _, after := _, guard := none }) rfl (fun K hK => ?_) AllReadyH.nil
    rw [if_pos (by rfl)]
    have hAr := hA2.below hB3
    refine wp_store_mid (P := Tryz.prog) 59 (.tmp 2) (.tmp 12) rfl w1.heap.size 0 ([.string nm, .slice d1 ys1.length e1, .slice d2 ys2.length e2]).toArray rfl rfl (hAr.there 0 _ (Nat.le_refl _)) i42 (all_oneCell_toArray (one59 nm d1 ys1.length e1 d2 ys2.length e2)) ?_
    refine hK.out _ _ (HK'.out x3 hB3 _) (fun _ => ?_)
    refine wpAnyH_done (by kernel_rfl) ?_ _
    have hAf : At 59 (x3.setCells w1.heap.size 0 [.string nm, .slice d1 ys1.length e1, .slice d2 ys2.length e2]) w1.heap.size [.string nm, .slice d1 ys1.length e1, .slice d2 ys2.length e2] := At.setCells _ 0 _ _ hAr
    have hw04 : Below w.heap.size w x3 := hbw.trans (hB3.mono hbw.size)
    have hBut : But w1.heap.size x3 (x3.setCells w1.heap.size 0 [.string nm, .slice d1 ys1.length e1, .slice d2 ys2.length e2]) := But.setCells _ 0 _ (But.refl _ _)
    have hBf : Below w.heap.size w (x3.setCells w1.heap.size 0 [.string nm, .slice d1 ys1.length e1, .slice d2 ys2.length e2]) := hBut.below hw04 (by omega) (by have := hw04.size; omega)
    have hszf := size_setCells w1.heap.size [.string nm, .slice d1 ys1.length e1, .slice d2 ys2.length e2] 0 x3
    have hl1 : w1.heap.size < x1.heap.size := (hA2.below hB1).lt
    have HF : Hid (∃ y : TT, Value.agg ([.string nm, .slice d1 ys1.length e1, .slice d2 ys2.length e2]).toArray = .agg y.cells.toArray ∧ y.th = (TT.mk nm a1 c1 ls a2 c2 bs).th ∧ y.In (x3.setCells w1.heap.size 0 [.string nm, .slice d1 ys1.length e1, .slice d2 ys2.length e2]).heap.size (x3.setCells w1.heap.size 0 [.string nm, .slice d1 ys1.length e1, .slice d2 ys2.length e2]) ∧ y.Lies (Fr w.heap.size (x3.setCells w1.heap.size 0 [.string nm, .slice d1 ys1.length e1, .slice d2 ys2.length e2]))) := by
      have hl2 := hb2.size
      have hl3 := hb3.size
      have hlw := (hbw.trans (hB1.mono hbw.size)).size
      have z1 := RowV.keepF (A := x1.heap.size) (w' := x3) (fun k _ h2 => hb3.block k h2) hr1 ha1
      have hU : (TT.mk nm d1 e1 ys1 d2 e2 ys2).Lies (Fr x1.heap.size x3) := ⟨z1.1, at_frm hl2 ha2, hu2.mono fun k q => q.mono hl2⟩
      refine ⟨⟨nm, d1, e1, ys1, d2, e2, ys2⟩, rfl, ?_, ?_⟩
      · show Th.mk nm.data.toList (ys1.map VT.vr) (ys2.map ST.st) = Th.mk nm.data.toList (ls.map VT.vr) (bs.map ST.st)
        rw [hm1, hm2]
      · rw [hszf]
        have hI : (TT.mk nm d1 e1 ys1 d2 e2 ys2).In x3.heap.size x3 := ⟨(hr1.old (Old.of_below hb3 (Nat.le_refl _))).up hl3, hr2⟩
        have z := TT.keepF (A := x1.heap.size) (w' := (x3.setCells w1.heap.size 0 [.string nm, .slice d1 ys1.length e1, .slice d2 ys2.length e2])) (fun k h1 h2 => hBut.block k (by omega) (by omega)) hI hU
        exact ⟨z.1, z.2.mono fun k q => q.mono hlw⟩
    clear H1 H2 HK HK' hA2 hAr hm1 hr1 ha1 hu1 hm2 hr2 ha2 hu2 hBut
    go_wp2
    refine bodyPost_ret (results_at rfl _ _ w1.heap.size 59 [.string nm, .slice d1 ys1.length e1, .slice d2 ys2.length e2] _ rfl hAf Tryz.underlying59 rfl i42) rfl ?_
    obtain ⟨y, e1, e2, e3, e4⟩ := HF.out
    exact ⟨y, congrArg Ending.returned e1, e2, e3, e4, hBf⟩
  have hcl : (TT.mk nm a1 c1 ls a2 c2 bs).cells = [.string nm, .slice a1 n1 c1, .slice a2 n2 c2] := by
    rw [hn1.out, hn2.out]
    rfl
  rw [hcl]
  exact hgo

set_option maxRecDepth 100000 in
set_option maxHeartbeats 3200000 in
theorem so_of (B : Nat) (p : PT) (hS1 : ∀ s ∈ p.shared, SoVW B s) (hS2 : ∀ s ∈ p.mutexes, s.size ≤ 281474976710656) (hS3 : ∀ s ∈ p.threads, SoTW B s) (w : World) (hin : p.In B w) (hBw : B ≤ w.heap.size) :
    Calls Tryz.prog 24 #[.agg p.cells.toArray] w fun r w' => Hid (∃ y : PT, r = .returned (.agg y.cells.toArray) ∧ y.pg = p.pg ∧ y.In w'.heap.size w' ∧ (y.Lies (Fr w.heap.size w') ∧ y.c2 = y.mutexes.length) ∧ Below w.heap.size w w') := by
  obtain ⟨z1, z2, z3⟩ := hin
  have hO : ∀ w2, Below w.heap.size w w2 → ∀ x, Below w2.heap.size w2 x → Old B w x ∧ B ≤ x.heap.size := fun w2 h2 x hx => ⟨Old.of_below (h2.trans (hx.mono h2.size)) hBw, by have := h2.size; have := hx.size; omega⟩
  obtain ⟨n1, hn1⟩ : ∃ n, Hid (n = p.shared.length) := ⟨_, (rfl : p.shared.length = _)⟩
  obtain ⟨n2, hn2⟩ : ∃ n, Hid (n = p.mutexes.length) := ⟨_, (rfl : p.mutexes.length = _)⟩
  obtain ⟨n3, hn3⟩ : ∃ n, Hid (n = p.threads.length) := ⟨_, (rfl : p.threads.length = _)⟩
  have G1 : ∀ w2, Below w.heap.size w w2 → ∀ x, Below w2.heap.size w2 x → Calls Tryz.prog 56 #[.slice p.a1 n1 p.c1, .func (.func 57) #[] #[]] x fun r w' => ∃ (a' : Option Addr) (c' : Nat) (ys : List VT), r = .returned (.slice a' ys.length c') ∧ ys.map VT.vr = p.shared.map VT.vr ∧ RowV w'.heap.size w' a' c' ys ∧ (ys = [] ∨ ∃ g o, a' = some ⟨g, o, none⟩ ∧ Fr x.heap.size w' g) ∧ VT.LiesL (Fr x.heap.size w') ys ∧ Below x.heap.size x w' := fun w2 h2 x hx => by
    rw [hn1.out]
    exact softV_of B p.shared hS1 p.a1 p.c1 x (RowV.old z1 (hO w2 h2 x hx).1) (hO w2 h2 x hx).2
  have G2 : ∀ w2, Below w.heap.size w w2 → ∀ x, Below w2.heap.size w2 x → Calls Tryz.prog 58 #[.slice p.a2 n2 p.c2, .func (.func 59) #[] #[]] x fun r w' => ∃ (a' : Option Addr), r = .returned (.slice a' n2 n2) ∧ RowN w'.heap.size w' a' p.mutexes.length p.mutexes ∧ (p.mutexes = [] ∨ ∃ g o, a' = some ⟨g, o, none⟩ ∧ Fr x.heap.size w' g) ∧ Below x.heap.size x w' := fun w2 h2 x hx => by
    rw [hn2.out]
    exact softN_any B p.mutexes hS2 p.a2 p.c2 x (RowN.old z2 (hO w2 h2 x hx).1) (hO w2 h2 x hx).2
  have G3 : ∀ w2, Below w.heap.size w w2 → ∀ x, Below w2.heap.size w2 x → Calls Tryz.prog 60 #[.slice p.a3 n3 p.c3, .func (.func 61) #[] #[]] x fun r w' => ∃ (a' : Option Addr) (c' : Nat) (ys : List TT), r = .returned (.slice a' ys.length c') ∧ ys.map TT.th = p.threads.map TT.th ∧ RowT w'.heap.size w' a' c' ys ∧ (ys = [] ∨ ∃ g o, a' = some ⟨g, o, none⟩ ∧ Fr x.heap.size w' g) ∧ TT.LiesL (Fr x.heap.size w') ys ∧ Below x.heap.size x w' := fun w2 h2 x hx => by
    rw [hn3.out]
    exact softT_of B p.threads hS3 p.a3 p.c3 x (RowT.old z3 (hO w2 h2 x hx).1) (hO w2 h2 x hx).2
  have HG : Hid (∀ w2, Below w.heap.size w w2 → (∀ x, Below w2.heap.size w2 x → Calls Tryz.prog 56 #[.slice p.a1 n1 p.c1, .func (.func 57) #[] #[]] x fun r w' => ∃ (a' : Option Addr) (c' : Nat) (ys : List VT), r = .returned (.slice a' ys.length c') ∧ ys.map VT.vr = p.shared.map VT.vr ∧ RowV w'.heap.size w' a' c' ys ∧ (ys = [] ∨ ∃ g o, a' = some ⟨g, o, none⟩ ∧ Fr x.heap.size w' g) ∧ VT.LiesL (Fr x.heap.size w') ys ∧ Below x.heap.size x w') ∧ (∀ x, Below w2.heap.size w2 x → Calls Tryz.prog 58 #[.slice p.a2 n2 p.c2, .func (.func 59) #[] #[]] x fun r w' => ∃ (a' : Option Addr), r = .returned (.slice a' n2 n2) ∧ RowN w'.heap.size w' a' p.mutexes.length p.mutexes ∧ (p.mutexes = [] ∨ ∃ g o, a' = some ⟨g, o, none⟩ ∧ Fr x.heap.size w' g) ∧ Below x.heap.size x w') ∧ (∀ x, Below w2.heap.size w2 x → Calls Tryz.prog 60 #[.slice p.a3 n3 p.c3, .func (.func 61) #[] #[]] x fun r w' => ∃ (a' : Option Addr) (c' : Nat) (ys : List TT), r = .returned (.slice a' ys.length c') ∧ ys.map TT.th = p.threads.map TT.th ∧ RowT w'.heap.size w' a' c' ys ∧ (ys = [] ∨ ∃ g o, a' = some ⟨g, o, none⟩ ∧ Fr x.heap.size w' g) ∧ TT.LiesL (Fr x.heap.size w') ys ∧ Below x.heap.size x w')) := fun w2 h2 => ⟨G1 w2 h2, G2 w2 h2, G3 w2 h2⟩
  clear z1 z2 z3 hO hS1 hS2 hS3 G1 G2 G3
  have hcl : p.cells = [.slice p.a1 n1 p.c1, .slice p.a2 n2 p.c2, .slice p.a3 n3 p.c3] := by
    rw [hn1.out, hn2.out, hn3.out]
    rfl
  rw [hcl]
  go_enter Tryz.func24, Tryz.ntmps24
  go_wp2_with (first
    | ((with_reducible show wpList _ _ _ _ _ _); refine wpList_box_at rfl 26 (.tmp 0) rfl [.slice p.a1 n1 p.c1, .slice p.a2 n2 p.c2, .slice p.a3 n3 p.c3] rfl ?_; intro w1 hA1 hb1 hs1; clear hs1)
    | ((with_reducible show wpList _ _ _ _ _ _); refine wpList_alloc_at rfl 26 rfl _ 3 z46' ?_; intro w2 hA2 hb2 hs2; clear hs2; refine Hid.out ?_))
  refine hidU ?_
  have hA12 := hA1.below hb2
  have hbw : Below w.heap.size w w2 := hb1.trans (hb2.mono hb1.size)
  have hlt : w.heap.size < w1.heap.size := hA1.lt
  have HK : Hid (∀ x, Below w2.heap.size w2 x → x.cell? ⟨w.heap.size, 0, none⟩ = some (.slice p.a1 n1 p.c1) ∧ x.cell? ⟨w.heap.size, 1, none⟩ = some (.slice p.a2 n2 p.c2) ∧ x.cell? ⟨w.heap.size, 2, none⟩ = some (.slice p.a3 n3 p.c3)) := fun x hx => by
    have hA := hA12.below hx
    refine ⟨?_, ?_, ?_⟩ <;> (rw [hA.cell]; rfl)
  have HK' : Hid (∀ x, Below w2.heap.size w2 x → ∀ vs, (x.setCells w1.heap.size 0 vs).cell? ⟨w.heap.size, 0, none⟩ = some (.slice p.a1 n1 p.c1) ∧ (x.setCells w1.heap.size 0 vs).cell? ⟨w.heap.size, 1, none⟩ = some (.slice p.a2 n2 p.c2) ∧ (x.setCells w1.heap.size 0 vs).cell? ⟨w.heap.size, 2, none⟩ = some (.slice p.a3 n3 p.c3)) := fun x hx vs => by
    have hA := (But.setCells vs 0 x (But.refl w1.heap.size x)).at (hA12.below hx) (by omega)
    refine ⟨?_, ?_, ?_⟩ <;> (rw [hA.cell]; rfl)
  have hB0 : Below w2.heap.size w2 w2.drew := Below.drew (Below.refl _ _)
  have hS0 := HK.out _ hB0
  clear hA1 hb1 hb2 hA12
  obtain ⟨q1, q2, q3⟩ := HG.out w2 hbw
  have H1 : Hid _ := q1
  have H2 : Hid _ := q2
  have H3 : Hid _ := q3
  clear HG q1 q2 q3
  go_wp2_with fail
  refine wp_region_held_drew (S := fun w' => w'.cell? ⟨w.heap.size, 0, none⟩ = some (.slice p.a1 n1 p.c1) ∧ w'.cell? ⟨w.heap.size, 1, none⟩ = some (.slice p.a2 n2 p.c2) ∧ w'.cell? ⟨w.heap.size, 2, none⟩ = some (.slice p.a3 n3 p.c3)) (by kernel_rfl) hS0 (fun _ => ?_)
  refine wpAnyH_take (i := 0) (oi := { dst := some 3, op := .fieldAddr 26 (.tmp 1) 0, type := _, pos := _, after := _, guard := none }) (v := .pointer (some ⟨w.heap.size, 0, none⟩)) rfl (by kernel_rfl) (by kernel_rfl) (by kernel_rfl) (fun _ _ _ h => h) (Or.inl ⟨by rfl, ?_⟩) hS0 ?_
  · intro w hSw
    go_simp
  simp only [Act.put, List.setIfInBounds_toArray, List.set_cons_zero, List.set_cons_succ]
  refine wpAnyH_take (i := 1) (oi := { dst := some 4, op := .load 22 (.tmp 3), type := _, pos := _, after := _, guard := none }) (v := .slice p.a1 n1 p.c1) rfl (by kernel_rfl) (by kernel_rfl) (by kernel_rfl) (fun _ _ _ h => h) (Or.inl ⟨by rfl, ?_⟩) hS0 ?_
  · intro w hSw
    have z0 := hSw.1
    go_simp
  simp only [Act.put, List.setIfInBounds_toArray, List.set_cons_zero, List.set_cons_succ]
  refine wpAnyH_take (i := 3) (oi := { dst := some 6, op := .fieldAddr 26 (.tmp 1) 1, type := _, pos := _, after := _, guard := none }) (v := .pointer (some ⟨w.heap.size, 1, none⟩)) rfl (by kernel_rfl) (by kernel_rfl) (by kernel_rfl) (fun _ _ _ h => h) (Or.inl ⟨by rfl, ?_⟩) hS0 ?_
  · intro w hSw
    go_simp
  simp only [Act.put, List.setIfInBounds_toArray, List.set_cons_zero, List.set_cons_succ]
  refine wpAnyH_take (i := 4) (oi := { dst := some 7, op := .load 23 (.tmp 6), type := _, pos := _, after := _, guard := none }) (v := .slice p.a2 n2 p.c2) rfl (by kernel_rfl) (by kernel_rfl) (by kernel_rfl) (fun _ _ _ h => h) (Or.inl ⟨by rfl, ?_⟩) hS0 ?_
  · intro w hSw
    have z0 := hSw.2.1
    go_simp
  simp only [Act.put, List.setIfInBounds_toArray, List.set_cons_zero, List.set_cons_succ]
  refine wpAnyH_take (i := 6) (oi := { dst := some 9, op := .fieldAddr 26 (.tmp 1) 2, type := _, pos := _, after := _, guard := none }) (v := .pointer (some ⟨w.heap.size, 2, none⟩)) rfl (by kernel_rfl) (by kernel_rfl) (by kernel_rfl) (fun _ _ _ h => h) (Or.inl ⟨by rfl, ?_⟩) hS0 ?_
  · intro w hSw
    go_simp
  simp only [Act.put, List.setIfInBounds_toArray, List.set_cons_zero, List.set_cons_succ]
  refine wpAnyH_take (i := 7) (oi := { dst := some 10, op := .load 24 (.tmp 9), type := _, pos := _, after := _, guard := none }) (v := .slice p.a3 n3 p.c3) rfl (by kernel_rfl) (by kernel_rfl) (by kernel_rfl) (fun _ _ _ h => h) (Or.inl ⟨by rfl, ?_⟩) hS0 ?_
  · intro w hSw
    have z0 := hSw.2.2
    go_simp
  simp only [Act.put, List.setIfInBounds_toArray, List.set_cons_zero, List.set_cons_succ]
  refine wpAnyH_ready (rs := [2]) (by kernel_rfl) (by simp) ?_
  refine AllReadyH.cons (o := { dst := some 5, op := .call { callee := .value (.func 56), args := #[.tmp 4, .func 57], argTypes := #[22, 92] }, type := _, pos := _, after := _, guard := none }) rfl (fun K hK => ?_) AllReadyH.nil
  rw [if_pos (by rfl)]
  go_wp2_with (go_at_call 56; refine (H1.out _ hB0).mono ?_; rintro e x1 ⟨d1, e1, ys1, rfl, hm1, hr1, ha1, hu1, hb1⟩)
  have hB1 := hB0.trans (hb1.mono hB0.size)
  have hS1 := HK.out x1 hB1
  refine hK.out _ _ hS1 (fun _ => ?_)
  refine wpAnyH_ready (rs := [5]) (by kernel_rfl) (by simp) ?_
  refine AllReadyH.cons (o := { dst := some 8, op := .call { callee := .value (.func 58), args := #[.tmp 7, .func 59], argTypes := #[23, 94] }, type := _, pos := _, after := _, guard := none }) rfl (fun K hK => ?_) AllReadyH.nil
  rw [if_pos (by rfl)]
  go_wp2_with (go_at_call 58; refine (H2.out _ hB1).mono ?_; rintro e x2 ⟨d2, rfl, hr2, ha2, hb2⟩)
  have hB2 := hB1.trans (hb2.mono hB1.size)
  have hS2 := HK.out x2 hB2
  refine hK.out _ _ hS2 (fun _ => ?_)
  refine wpAnyH_ready (rs := [8]) (by kernel_rfl) (by simp) ?_
  refine AllReadyH.cons (o := { dst := some 11, op := .call { callee := .value (.func 60), args := #[.tmp 10, .func 61], argTypes := #[24, 96] }, type := _, pos := _, after := _, guard := none }) rfl (fun K hK => ?_) AllReadyH.nil
  rw [if_pos (by rfl)]
  go_wp2_with (go_at_call 60; refine (H3.out _ hB2).mono ?_; rintro e x3 ⟨d3, e3, ys3, rfl, hm3, hr3, ha3, hu3, hb3⟩)
  have hB3 := hB2.trans (hb3.mono hB2.size)
  have hS3 := HK.out x3 hB3
  refine hK.out _ _ hS3 (fun _ => ?_)
  refine wpAnyH_take (i := 9) (oi := { dst := some 12, op := .build 26 #[(0, .tmp 5), (1, .tmp 8), (2, .tmp 11)], type := _, pos := _, after := _, guard := none }) (v := .agg ([.slice d1 ys1.length e1, .slice d2 n2 n2, .slice d3 ys3.length e3]).toArray) rfl (by kernel_rfl) (by kernel_rfl) (by kernel_rfl) (fun _ _ _ h => h) (Or.inl ⟨by rfl, ?_⟩) hS3 ?_
  · intro w hSw
    go_simp
  simp only [Act.put, List.setIfInBounds_toArray, List.set_cons_zero, List.set_cons_succ]
  refine wpAnyH_ready (rs := [10]) (by kernel_rfl) (by simp) ?_
  refine AllReadyH.cons (o := { dst := none, op := .store 26 (.tmp 2) (.tmp 12), type := _, pos := _, after := _, guard := none }) rfl (fun K hK => ?_) AllReadyH.nil
  rw [if_pos (by rfl)]
  have hAr := hA2.below hB3
  refine wp_store_mid (P := Tryz.prog) 26 (.tmp 2) (.tmp 12) rfl w1.heap.size 0 ([.slice d1 ys1.length e1, .slice d2 n2 n2, .slice d3 ys3.length e3]).toArray rfl rfl (hAr.there 0 _ (Nat.le_refl _)) i46 (all_oneCell_toArray (one26 d1 ys1.length e1 d2 n2 n2 d3 ys3.length e3)) ?_
  refine hK.out _ _ (HK'.out x3 hB3 _) (fun _ => ?_)
  refine wpAnyH_done (by kernel_rfl) ?_ _
  have hAf : At 26 (x3.setCells w1.heap.size 0 [.slice d1 ys1.length e1, .slice d2 n2 n2, .slice d3 ys3.length e3]) w1.heap.size [.slice d1 ys1.length e1, .slice d2 n2 n2, .slice d3 ys3.length e3] := At.setCells _ 0 _ _ hAr
  have hw04 : Below w.heap.size w x3 := hbw.trans (hB3.mono hbw.size)
  have hBut : But w1.heap.size x3 (x3.setCells w1.heap.size 0 [.slice d1 ys1.length e1, .slice d2 n2 n2, .slice d3 ys3.length e3]) := But.setCells _ 0 _ (But.refl _ _)
  have hBf : Below w.heap.size w (x3.setCells w1.heap.size 0 [.slice d1 ys1.length e1, .slice d2 n2 n2, .slice d3 ys3.length e3]) := hBut.below hw04 (by omega) (by have := hw04.size; omega)
  have hszf := size_setCells w1.heap.size [.slice d1 ys1.length e1, .slice d2 n2 n2, .slice d3 ys3.length e3] 0 x3
  have hl0 : w1.heap.size < w2.heap.size := hA2.lt
  have HF : Hid (∃ y : PT, Value.agg ([.slice d1 ys1.length e1, .slice d2 n2 n2, .slice d3 ys3.length e3]).toArray = .agg y.cells.toArray ∧ y.pg = p.pg ∧ y.In (x3.setCells w1.heap.size 0 [.slice d1 ys1.length e1, .slice d2 n2 n2, .slice d3 ys3.length e3]).heap.size (x3.setCells w1.heap.size 0 [.slice d1 ys1.length e1, .slice d2 n2 n2, .slice d3 ys3.length e3]) ∧ y.Lies (Fr w.heap.size (x3.setCells w1.heap.size 0 [.slice d1 ys1.length e1, .slice d2 n2 n2, .slice d3 ys3.length e3])) ∧ y.c2 = y.mutexes.length) := by
    have hs0 := hB0.size
    have hl2 := hb2.size
    have hl3 := hb3.size
    have hl1 := hB1.size
    have hd0 : w2.drew.heap.size = w2.heap.size := rfl
    refine ⟨⟨d1, e1, ys1, d2, p.mutexes.length, p.mutexes, d3, e3, ys3⟩, by rw [hn2.out]; rfl, ?_, ?_⟩
    · show Pg.mk (ys1.map VT.vr) (p.mutexes.map (fun s => s.data.toList)) (ys3.map TT.th) = Pg.mk (p.shared.map VT.vr) (p.mutexes.map (fun s => s.data.toList)) (p.threads.map TT.th)
      rw [hm1, hm3]
    · rw [hszf]
      have hMid : Mid (w1.heap.size + 1) x3.heap.size x3 (x3.setCells w1.heap.size 0 [.slice d1 ys1.length e1, .slice d2 n2 n2, .slice d3 ys3.length e3]) := fun k h1 h2 => hBut.block k (by omega) (by omega)
      have hw2 := hbw.size
      have v1 := RowV.keepF (A := w2.drew.heap.size) (w' := x3) (fun k _ h2 => by rw [hb3.block k (by omega), hb2.block k h2]) hr1 ha1
      have v2 := RowN.keepF (A := x1.heap.size) (w' := x3) (fun k _ h2 => hb3.block k h2) hr2 ha2
      have u1 := RowV.keepF (A := w1.heap.size + 1) hMid (v1.2.up (C := x3.heap.size) (by omega)) (at_frm (by omega) v1.1)
      have u2 := RowN.keepF (A := w1.heap.size + 1) hMid (v2.2.up (C := x3.heap.size) (by omega)) (at_frm (by omega) v2.1)
      have u3 := RowT.keepF (A := w1.heap.size + 1) hMid hr3 (at_frm (by omega) ha3) (fun v hv => (hu3 v hv).mono fun k q => q.mono (by omega))
      exact ⟨⟨u1.2, u2.2, u3.2.2⟩, ⟨at_frm (by omega) u1.1, at_frm (by omega) u2.1, at_frm (by omega) u3.1, fun v hv => (u3.2.1 v hv).mono fun k q => q.mono (by omega)⟩, rfl⟩
  clear H1 H2 H3 HK HK' hA2 hAr hm1 hr1 ha1 hu1 hr2 ha2 hm3 hr3 ha3 hu3 hBut
  go_wp2
  refine bodyPost_ret (results_at rfl _ _ w1.heap.size 26 [.slice d1 ys1.length e1, .slice d2 n2 n2, .slice d3 ys3.length e3] _ rfl hAf Tryz.underlying26 rfl i46) rfl ?_
  obtain ⟨y, e1, e2, e3, e4⟩ := HF.out
  exact ⟨y, congrArg Ending.returned e1, e2, e3, e4, hBf⟩

end Go.Proofs.YtcmahiphfpgadaaGreatDoor

/- Copies of programs. -/
namespace Go.Proofs.YtcmahiphfpgadaaGreatDoor
open Go.RowKit
set_option linter.unusedVariables false

theorem PT.In.stay {B : Nat} {S : Nat → Prop} {w w' : World} (hM : ∀ k, S k → k < B → w'.heap[k]? = w.heap[k]?) {p : PT} (h : p.In B w) (u : p.Lies S) : p.In B w' := by
  refine ⟨RowV.mid (A := 0) S hM h.1 u.1, RowN.mid (A := 0) S hM h.2.1 u.2.1, ?_⟩
  obtain ⟨h1, h2, h | ⟨g, o, e, hg, hr⟩⟩ := h.2.2
  · exact ⟨h1, h2, .inl h⟩
  · rcases u.2.2.1 with q | ⟨g', o', e', q⟩
    · exact ⟨h1, h2, .inl q⟩
    · rw [e] at e'
      cases e'
      refine ⟨h1, h2, .inr ⟨g, o, e, hg, fun i v hv => ⟨fun j x hj => ?_, TT.In.stay hM (hr i v hv).2 (u.2.2.2 v (List.mem_of_getElem? hv))⟩⟩⟩
      rw [World.cell?_of_block (w := w) (hM g q hg)]
      exact (hr i v hv).1 j x hj
theorem PT.Lies.mono {S S' : Nat → Prop} (hS : ∀ k, S k → S' k) {p : PT} (h : p.Lies S) : p.Lies S' := ⟨at_imp hS h.1, at_imp hS h.2.1, at_imp hS h.2.2.1, fun t ht => (h.2.2.2 t ht).mono hS⟩
theorem PT.In.lies {B : Nat} {S : Nat → Prop} {w : World} {p : PT} (h : p.In B w) (u : p.Lies S) : p.Lies (fun k => S k ∧ k < B) := by
  obtain ⟨⟨-, -, h1⟩, ⟨-, -, h2⟩, -, -, h3⟩ := h
  obtain ⟨u1, u2, u3, u4⟩ := u
  refine ⟨?_, ?_, ?_⟩
  · rcases h1 with h | ⟨g, o, ha, hg, hr⟩
    · exact .inl h
    · rcases u1 with q | ⟨g', o', ha', hg'⟩
      · exact .inl q
      · rw [ha] at ha'
        cases ha'
        exact .inr ⟨g, o, ha, hg', hg⟩
  · rcases h2 with h | ⟨g, o, ha, hg, hr⟩
    · exact .inl h
    · rcases u2 with q | ⟨g', o', ha', hg'⟩
      · exact .inl q
      · rw [ha] at ha'
        cases ha'
        exact .inr ⟨g, o, ha, hg', hg⟩
  · rcases h3 with h | ⟨g, o, ha, hg, hr⟩
    · exact ⟨.inl h, fun t ht => by rw [h] at ht; cases ht⟩
    · refine ⟨?_, fun t ht => ?_⟩
      · rcases u3 with q | ⟨g', o', ha', hg'⟩
        · exact .inl q
        · rw [ha] at ha'
          cases ha'
          exact .inr ⟨g, o, ha, hg', hg⟩
      · obtain ⟨i, hi⟩ := List.mem_iff_getElem?.1 ht
        exact TT.In.lies (hr i t hi).2 (u4 t ht)
theorem PT.keepF {A B : Nat} {w w' : World} (hM : Mid A B w w') {p : PT} (h : p.In B w) (u : p.Lies (Fr A w)) : p.In B w' ∧ p.Lies (Fr A w') :=
  ⟨PT.In.stay (fun k hk hl => hM k hk.1 hl) h u, (PT.In.lies h u).mono fun k hk => ⟨hk.1.1, hk.1.2.keep (hM k hk.1.1 hk.2)⟩⟩

theorem kcProgram_any (B : Nat) (p : PT) (w : World) (hin : p.In B w) (hBw : B ≤ w.heap.size) (hn : p.NilOk) :
    Calls Tryz.prog 8 #[.agg p.cells.toArray] w fun r w' => Hid (∃ y : PT, r = .returned (.agg y.cells.toArray) ∧ y.pg = p.pg ∧ y.In w'.heap.size w' ∧ y.Lies (fun k => w.heap.size ≤ k) ∧ Below w.heap.size w w') := by
  refine (kcProgram_at B p.shared p.a1 p.c1 p.mutexes p.a2 p.c2 p.threads p.a3 p.c3 w hin.1 hin.2.1 hin.2.2 hBw hn.1 hn.2.1 hn.2.2).mono ?_
  rintro r w' ⟨y, h1, h2, h3, h4, h5, h6, h7⟩
  refine ⟨y, h1, ?_, h5, h6, h7⟩
  show Pg.mk (y.shared.map VT.vr) (y.mutexes.map (fun s => s.data.toList)) (y.threads.map TT.th) = Pg.mk (p.shared.map VT.vr) (p.mutexes.map (fun s => s.data.toList)) (p.threads.map TT.th)
  rw [h2, h3, h4]

theorem nm_size2 (s : ByteArray) : s.size = s.data.toList.length := by rw [Array.length_toList]; rfl
theorem so_any (p : PT) (B : Nat) (hw : pgW p.pg ≤ 1048576) (w : World) (hin : p.In B w) (hBw : B ≤ w.heap.size) :
    Calls Tryz.prog 24 #[.agg p.cells.toArray] w fun r w' => Hid (∃ y : PT, r = .returned (.agg y.cells.toArray) ∧ y.pg = p.pg ∧ y.In w'.heap.size w' ∧ (y.Lies (Fr w.heap.size w') ∧ y.c2 = y.mutexes.length) ∧ Below w.heap.size w w') := by
  have hw' : ((p.shared.map VT.vr).map vrW).sum + ((p.mutexes.map fun s : ByteArray => s.data.toList).map fun m => m.length + 1).sum + ((p.threads.map TT.th).map thW).sum ≤ 1048576 := hw
  refine so_of B p (fun v hv => soVar_any B v ?_) (fun s hs => ?_) (fun t ht => ?_) w hin hBw
  · have h1 := le_sum vrW (p.shared.map VT.vr) v.vr (List.mem_map_of_mem hv)
    have h2 : vrW v.vr = v.nm.data.toList.length + 1 := rfl
    have h3 := nm_size2 v.nm
    omega
  · have h1 := le_sum (fun m : List UInt8 => m.length + 1) (p.mutexes.map fun s : ByteArray => s.data.toList) s.data.toList (List.mem_map_of_mem (f := fun s : ByteArray => s.data.toList) hs)
    have h3 := nm_size2 s
    omega
  · have h1 := le_sum thW (p.threads.map TT.th) t.th (List.mem_map_of_mem ht)
    obtain ⟨nm, a1, c1, ls, a2, c2, bs⟩ := t
    have h2 : thW (TT.th ⟨nm, a1, c1, ls, a2, c2, bs⟩) = nm.data.toList.length + 1 + ((ls.map VT.vr).map vrW).sum + stWs (bs.map ST.st) := rfl
    refine soThread_of B nm a1 c1 ls a2 c2 bs ?_ (fun v hv => soVar_any B v ?_) (fun s hs => soStmt_any B _ s (Nat.lt_succ_self _) ?_)
    · have h3 := nm_size2 nm
      omega
    · have h4 := le_sum vrW (ls.map VT.vr) v.vr (List.mem_map_of_mem hv)
      have h5 : vrW v.vr = v.nm.data.toList.length + 1 := rfl
      have h3 := nm_size2 v.nm
      omega
    · have h4 := stWs_mem (bs.map ST.st) s.st (List.mem_map_of_mem hs)
      omega

end Go.Proofs.YtcmahiphfpgadaaGreatDoor
