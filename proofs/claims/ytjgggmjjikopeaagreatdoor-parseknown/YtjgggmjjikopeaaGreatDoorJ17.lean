/- The reader of programs: threads. -/
import Derived.Test.YtjgggmjjikopeaaGreatDoorJ16
namespace Go.Proofs.YtjgggmjjikopeaaGreatDoor
open Go.RowKit
set_option linter.unusedVariables false

theorem wp_store_one {P : Program} {o : Oper} {a : Act} {w : World} {K : Act → World → Prop} {Q : Exit → Act → World → Prop} (ty : TypeId) (x y : Operand) (ho : o.op = .store ty x y)
    (g off : Nat) (v : Value) (hx : a.eval x = .pointer (some ⟨g, off, none⟩)) (hy : a.eval y = v)
    (t : TypeId) (old : List Value) (hg : At t w g old) (hold : off + 1 ≤ old.length) (hi : (P.info? ty).map (·.size) = some 1) (hc : v.cells = #[v]) (h1 : v.oneCell' = true)
    (h : ∀ w', At t w' g (old.set off v) → But g w w' → w'.heap.size = w.heap.size → K (a.put o.dst undef) w') : o.wp P a w K Q := by
  have := h _ (hg.set off v) ((But.refl g w).setCell off v) (by simp)
  unfold Oper.wp execOp
  simp only [ho, hx, hy, Instr.storeAt, Instr.sureAddr, Sem.run_bind, Sem.run_pure, Result.andThen_ok, run_storeVar_cell w g off ty v (hg.there off 1 hold) hi hc h1]
  exact this
theorem c3_cells {t : TypeId} {w : World} {g : Nat} {a b c : Value} (h : At t w g [a, b, c]) : w.cell? ⟨g, 0, none⟩ = some a ∧ w.cell? ⟨g, 1, none⟩ = some b ∧ w.cell? ⟨g, 2, none⟩ = some c := ⟨by rw [h.cell]; rfl, by rw [h.cell]; rfl, by rw [h.cell]; rfl⟩
/-- A row of variables that lies in blocks from A on. -/
def Tv (A : Nat) (w : World) (a : Option Addr) (c : Nat) (vs : List VT) : Prop := RowV w.heap.size w a c vs ∧ (vs = [] ∨ ∃ g o, a = some ⟨g, o, none⟩ ∧ A ≤ g)
theorem Tv.but {A k : Nat} {w w' : World} {a : Option Addr} {c : Nat} {vs : List VT} (h : Tv A w a c vs) (hb : But k w w') (hk : k < A ∨ w.heap.size ≤ k) : Tv A w' a c vs := by
  obtain ⟨⟨h1, h2, h3⟩, h4⟩ := h
  refine ⟨⟨h1, h2, ?_⟩, h4⟩
  rcases h3 with h3 | ⟨g, o, ha, hg, hr⟩
  · exact .inl h3
  · rcases h4 with h4 | ⟨g', o', ha', hg'⟩
    · exact .inl h4
    · rw [ha] at ha'
      cases ha'
      refine .inr ⟨g, o, ha, Nat.lt_of_lt_of_le hg hb.size, fun i v hv => ⟨fun j u hj => ?_, (hr i v hv).2⟩⟩
      rw [World.cell?_of_block (w := w) (hb.block g hg (by omega))]
      exact (hr i v hv).1 j u hj
theorem Tv.low {A A' : Nat} {w : World} {a : Option Addr} {c : Nat} {vs : List VT} (h : Tv A w a c vs) (hA : A' ≤ A) : Tv A' w a c vs := by
  refine ⟨h.1, ?_⟩
  rcases h.2 with q | ⟨g, o, ha, hg⟩
  · exact .inl q
  · exact .inr ⟨g, o, ha, by omega⟩
theorem Gr.vars {A : Nat} {w : World} {a : Option Addr} {n c : Nat} {ys : List VT} (h : Gr eV A w (.slice a n c) ys) (hl : ys.length ≤ 1048576) : Tv A w a c ys := by
  obtain ⟨h1, h2⟩ := h.cell
  rcases h2 with rfl | ⟨g, rfl, hg, hlt, hr⟩
  · exact ⟨⟨by simp, Nat.zero_le _, .inl rfl⟩, .inl rfl⟩
  · refine ⟨⟨hl, h1, .inr ⟨g, 0, rfl, hlt, fun i v hv => ⟨fun j u hj => ?_, h.ins v (List.mem_of_getElem? hv)⟩⟩⟩, .inr ⟨g, 0, rfl, hg⟩⟩
    have := hr _ u (flat_cells_at VT.cells 3 (fun _ => rfl) ys i v hv j u hj)
    rwa [show 0 + (i * 3 + j) = 0 + i * 3 + j by omega] at this
/-- A thread that lies whole in blocks from A on. -/
def Tt (A : Nat) (w : World) (y : TT) : Prop := Tv A w y.a1 y.c1 y.locals ∧ Tl A w y.a2 y.c2 y.body
theorem Tt.but {A k : Nat} {w w' : World} {y : TT} (h : Tt A w y) (hb : But k w w') (hk : k < A ∨ w.heap.size ≤ k) : Tt A w' y := ⟨h.1.but hb hk, h.2.but hb hk⟩
theorem Tt.low {A A' : Nat} {w : World} {y : TT} (h : Tt A w y) (hA : A' ≤ A) : Tt A' w y := ⟨h.1.low hA, h.2.low hA⟩
/-- What the reader of a thread tells. -/
def PostTh (B g : Nat) (w : World) (R : Rs Th) (r : Ending) (w' : World) : Prop :=
  match R with
  | .ok t l => ∃ y : TT, r = .returned (.agg y.cells.toArray) ∧ y.th = t ∧ Tt w.heap.size w' y ∧ Rd B w' g l ∧ But g w w'
  | .bad e p => r = PanW e p ∧ But g w w'

set_option maxRecDepth 100000 in
set_option maxHeartbeats 12800000 in
theorem thread_any {B : Nat} (g : Nat) (l : List Tk) (w : World) (h : Rd B w g l) (hBw : B ≤ w.heap.size) (hlm : l.length ≤ 1048576) : Calls Tryz.prog 59 #[.pointer (some ⟨g, 0, none⟩)] w (PostTh B g w (threadR l)) := by
  have lg := h.lt
  have H57 : Hid (∀ u, Below w.heap.size w u → Calls Tryz.prog 57 #[.pointer (some ⟨g, 0, none⟩)] u (PostN B g u (nameR l))) := fun u hu => readName_any g l u (h.below hu)
  have hnl := nameR_left l
  clear h
  obtain ⟨D, hD⟩ : ∃ D, Hid (D = threadR l) := ⟨_, (rfl : threadR l = _)⟩
  rw [← hD.out]
  unfold threadR at hD
  generalize nameR l = N at H57 hD hnl
  go_enter Tryz.func59, Tryz.ntmps59
  go_wp2_with (first
    | ((with_reducible show wpList _ _ _ _ _ _); refine wpList_alloc_at (o := { dst := some 2, .. }) rfl 53 rfl [.string ⟨#[]⟩, .slice none 0 0, .slice none 0 0] 3 z42 ?_; intro w1 hA2 hb1 hs1; clear hs1; refine Hid.out ?_))
  refine hidU ?_
  have l01 := hA2.lt
  have C57 := H57.out w1 hb1
  clear H57
  cases N with
  | bad e p =>
    have hD' : D = .bad e p := hD.out
    subst hD'
    go_wp2_with (go_at_call 57; refine C57.mono ?_; rintro r w2 ⟨hr, hb2⟩; unfold PanW at hr; subst hr)
    exact ⟨rfl, rfl, (But.of_below hb1).trans hb2⟩
  | ok x r1 =>
  have hr1 : r1.length < l.length := hnl
  have hD1 : Hid (D = (mustR [123] r1).bind fun _ r => (localsR (r.length + 1) r).bind fun vs r => (stmtsR (4 * r.length + 4) 0 r).bind fun b r => .ok ⟨x, vs, b⟩ r) := hD
  clear hD hnl
  go_wp2_with (first
    | (go_at_call 57; refine C57.mono ?_; rintro r w2 ⟨rfl, hR, hb2⟩)
    | ((with_reducible show wpList _ _ _ _ _ _); refine wpList_build_at rfl 53 _ rfl [.string ⟨x.toArray⟩, .slice none 0 0, .slice none 0 0] (by kernel_rfl) ?_)
    | ((with_reducible show wpList _ _ _ _ _ _); refine wpList_alloc_at (o := { dst := some 3, .. }) rfl 53 rfl [.string ⟨#[]⟩, .slice none 0 0, .slice none 0 0] 3 z42 ?_; intro w3 hA3 hb3 hs3; clear hs3)
    | ((with_reducible show wpList _ _ _ _ _ _); refine wpList_store_at (P := Tryz.prog) rfl 53 (.tmp 3) (.tmp 6) rfl w2.heap.size [.string ⟨x.toArray⟩, .slice none 0 0, .slice none 0 0] rfl rfl 53 _ hA3 i42 rfl (by intro v hv; simp at hv; rcases hv with rfl | rfl | rfl <;> rfl) ?_; intro w4 hA3 hb4 hs4; clear hs4; refine Hid.out ?_))
  refine hidU ?_
  have h24 : Below w2.heap.size w2 w4 := hb4.below hb3 (Nat.le_refl _) hb3.size
  have l12 := hb2.size
  have l24 := hA3.lt
  have hA2 := (hb2.at hA2 (by omega)).below h24
  have hR := hR.below h24
  have hbt : But g w w4 := ((But.of_below hb1).trans hb2).trans (But.of_below h24)
  obtain ⟨g3, hg3⟩ : ∃ q, q = w2.heap.size := ⟨_, rfl⟩
  rw [← hg3] at hA3 l24 ⊢
  have lg3 : w.heap.size < g3 := by omega
  clear C57 hb1 hb2 hb3 hb4 h24 hg3 l12
  have CM := must_any g r1 ⟨#[123]⟩ (by decide) w4 hR
  have eb : bytes ⟨#[123]⟩ = [123] := rfl
  rw [eb] at CM
  have hml := mustR_left (x := [123]) (l := r1) (by decide)
  clear hR eb
  generalize mustR [123] r1 = N at CM hD1 hml
  cases N with
  | bad e p =>
    have hD' : D = .bad e p := hD1.out
    subst hD'
    go_wp2_with (go_at_call 58; refine CM.mono ?_; rintro r w5 ⟨hr, hb5⟩; unfold PanW at hr; subst hr)
    exact ⟨rfl, rfl, hbt.trans hb5⟩
  | ok u r2 =>
  have hr2 : r2.length < r1.length := hml
  have hD2 : Hid (D = (localsR (r2.length + 1) r2).bind fun vs r => (stmtsR (4 * r.length + 4) 0 r).bind fun b r => .ok ⟨x, vs, b⟩ r) := hD1
  clear hD1 hml
  go_wp2_with (go_at_call 58; refine CM.mono ?_; rintro r w5 ⟨rfl, hR, hb5⟩; refine Hid.out ?_)
  refine hidU ?_
  have hA2 := hb5.at hA2 (by omega)
  have hA3 := hb5.at hA3 (by omega)
  have hbt := hbt.trans hb5
  have l45 := hb5.size
  obtain ⟨M, hM⟩ : ∃ q, q = w5.heap.size := ⟨_, rfl⟩
  have hg3M : g3 < M := by omega
  have HI : Hid (∃ (l' : List Tk) (f' : Nat) (aV : Option Addr) (k cV : Nat) (vs : List VT), vs.length = k ∧ At 53 w5 g3 [.string ⟨x.toArray⟩, .slice aV k cV, .slice none 0 0] ∧ At 53 w5 w.heap.size [.string ⟨#[]⟩, .slice none 0 0, .slice none 0 0] ∧ Gr eV M w5 (.slice aV k cV) vs ∧ Rd B w5 g l' ∧ But g w w5 ∧ k + l'.length ≤ l.length ∧ l'.length + 1 ≤ f' ∧ M ≤ w5.heap.size ∧ D = ((localsR f' l').bind fun ss r => .ok (vs.map VT.vr ++ ss) r).bind fun vs r => (stmtsR (4 * r.length + 4) 0 r).bind fun b r => .ok ⟨x, vs, b⟩ r) := by
    refine ⟨r2, r2.length + 1, none, 0, 0, [], rfl, hA3, hA2, Gr.nil (by omega), hR, hbt, by omega, by omega, by omega, ?_⟩
    rw [hD2.out]
    cases localsR (r2.length + 1) r2 <;> rfl
  clear CM hb5 hA2 hA3 hR hbt hD2 hM
  go_wp2_with fail
  go_loopw [10] (fun _ wr => Hid (∃ (l' : List Tk) (f' : Nat) (aV : Option Addr) (k cV : Nat) (vs : List VT), vs.length = k ∧ At 53 wr g3 [.string ⟨x.toArray⟩, .slice aV k cV, .slice none 0 0] ∧ At 53 wr w.heap.size [.string ⟨#[]⟩, .slice none 0 0, .slice none 0 0] ∧ Gr eV M wr (.slice aV k cV) vs ∧ Rd B wr g l' ∧ But g w wr ∧ k + l'.length ≤ l.length ∧ l'.length + 1 ≤ f' ∧ M ≤ wr.heap.size ∧ D = ((localsR f' l').bind fun ss r => .ok (vs.map VT.vr ++ ss) r).bind fun vs r => (stmtsR (4 * r.length + 4) 0 r).bind fun b r => .ok ⟨x, vs, b⟩ r)) (fun _ wr => tokLen wr g)
  case atStart => exact HI
  case round =>
    clear HI
    obtain ⟨l', f', aV, k, cV, vs, hyl, hA3, hA2, hG, hR, hbt, hkl, hf', lM, hD⟩ := hrel.out
    clear hrel
    obtain ⟨f', rfl⟩ : ∃ q, f' = q + 1 := ⟨f' - 1, by omega⟩
    have HD : Hid (D = ((localsR (f' + 1) l').bind fun ss r => .ok (vs.map VT.vr ++ ss) r).bind fun vs r => (stmtsR (4 * r.length + 4) 0 r).bind fun b r => .ok ⟨x, vs, b⟩ r) := hD
    rw [localsR] at HD
    clear hD
    have htk := hR.len
    by_cases c0 : (hdT l').text = [108, 111, 99, 97, 108]
    · rw [if_pos c0] at HD
      have htl := tail_lt (l := l') (by rw [c0]; decide)
      have C55 := takes_yes g l' ⟨#[108, 111, 99, 97, 108]⟩ (by decide) c0 wr hR
      clear hR c0
      go_wp2_with (go_at_call 55; refine C55.mono ?_; rintro r w2 ⟨rfl, hR, hb2⟩; refine Hid.out ?_)
      refine hidU ?_
      have hA2 := hb2.at hA2 (by omega)
      have hA3 := hb2.at hA3 (by omega)
      have hG := hG.but hb2 (by omega)
      have hbt := hbt.trans hb2
      have l2 := hb2.size
      clear C55 hb2
      go_wp2_with fail
      cases hN : variableR l'.tail with
      | bad e p =>
        rw [hN] at HD
        have hD' : D = .bad e p := HD.out
        subst hD'
        have hS0r : At 53 w2.drew g3 [.string ⟨x.toArray⟩, .slice aV k cV, .slice none 0 0] := hA3.drew
        refine wp_region_S (S := fun xS => At 53 xS g3 [.string ⟨x.toArray⟩, .slice aV k cV, .slice none 0 0]) (St := [7]) (by kernel_rfl) hS0r ?_
        have hB0 : Below w2.heap.size w2 w2.drew := Below.drew (Below.refl _ _)
        obtain ⟨x0r, hx0⟩ : ∃ x, x = w2.drew := ⟨_, rfl⟩
        rw [← hx0] at hS0r hB0 ⊢
        clear hx0
        intro hH
        refine wpAnyS_pure (i := 0) (oi := { dst := some 11, op := .fieldAddr 53 (.tmp 3) 1, type := _, pos := _, after := _, guard := none }) (v := .pointer (some ⟨g3, 1, none⟩)) rfl (by kernel_rfl) (by kernel_rfl) (by kernel_rfl) (by kernel_rfl) (fun _ _ _ h => h) (Or.inl ⟨by rfl, ?_⟩) hH (fun hH => ?_)
        · intro wS hSw
          go_simp
        simp only [Act.put, List.setIfInBounds_toArray, List.set_cons_zero, List.set_cons_succ]
        refine wpAnyS_take [5, 6, 7] (i := 1) (oi := { dst := some 12, op := .load 22 (.tmp 11), type := _, pos := _, after := _, guard := none }) (v := .slice aV k cV) rfl (by kernel_rfl) (by kernel_rfl) (by kernel_rfl) (by kernel_rfl) (by kernel_rfl) (by kernel_rfl) (by kernel_rfl) (fun _ _ _ h => h) (Or.inl ⟨by rfl, ?_⟩) hH (fun hH => ?_)
        · intro wS hSw
          have z0 := (c3_cells hSw).2.1
          go_simp
        simp only [Act.put, List.setIfInBounds_toArray, List.set_cons_zero, List.set_cons_succ]
        refine wpAnyS_pure (i := 2) (oi := { dst := some 13, op := .move (.tmp 0), type := _, pos := _, after := _, guard := none }) (v := .pointer (some ⟨g, 0, none⟩)) rfl (by kernel_rfl) (by kernel_rfl) (by kernel_rfl) (by kernel_rfl) (fun _ _ _ h => h) (Or.inl ⟨by rfl, ?_⟩) hH (fun hH => ?_)
        · intro wS hSw
          go_simp
        simp only [Act.put, List.setIfInBounds_toArray, List.set_cons_zero, List.set_cons_succ]
        refine wpAnyS_ready (rs := [3]) (by kernel_rfl) (by simp) ?_
        refine AllReadyS.cons (o := { dst := some 14, op := .call { callee := .value (.func 56), args := #[.tmp 13], argTypes := #[66] }, type := _, pos := _, after := _, guard := none }) rfl (fun K hK => ?_) AllReadyS.nil
        rw [if_pos (by rfl)]
        have CV := variable_any g l'.tail x0r (hR.below hB0) (by have := hB0.size; omega)
        rw [hN] at CV
        go_wp2_with (go_at_call 56; refine CV.mono ?_; rintro e' x1r ⟨hr, hb1r⟩; unfold PanW at hr; subst hr)
        exact ⟨rfl, rfl, (hbt.trans (But.of_below hB0)).trans hb1r⟩
      | ok v r3 =>
        have hvl' := variableR_left l'.tail
        rw [hN] at hvl'
        have hr3 : r3.length < l'.tail.length := hvl'
        rw [hN] at HD
        have hD' : D = (((localsR f' r3).bind fun ss r => .ok (v :: ss) r).bind fun ss r => .ok (vs.map VT.vr ++ ss) r).bind fun vs r => (stmtsR (4 * r.length + 4) 0 r).bind fun b r => .ok ⟨x, vs, b⟩ r := HD.out
        rw [Rs.bind_bind (localsR f' r3)] at hD'
        clear HD hvl'
        have hS0r : At 53 w2.drew g3 [.string ⟨x.toArray⟩, .slice aV k cV, .slice none 0 0] := hA3.drew
        refine wp_region_S (S := fun xS => At 53 xS g3 [.string ⟨x.toArray⟩, .slice aV k cV, .slice none 0 0]) (St := [7]) (by kernel_rfl) hS0r ?_
        have hB0 : Below w2.heap.size w2 w2.drew := Below.drew (Below.refl _ _)
        obtain ⟨x0r, hx0⟩ : ∃ x, x = w2.drew := ⟨_, rfl⟩
        rw [← hx0] at hS0r hB0 ⊢
        clear hx0
        intro hH
        refine wpAnyS_pure (i := 0) (oi := { dst := some 11, op := .fieldAddr 53 (.tmp 3) 1, type := _, pos := _, after := _, guard := none }) (v := .pointer (some ⟨g3, 1, none⟩)) rfl (by kernel_rfl) (by kernel_rfl) (by kernel_rfl) (by kernel_rfl) (fun _ _ _ h => h) (Or.inl ⟨by rfl, ?_⟩) hH (fun hH => ?_)
        · intro wS hSw
          go_simp
        simp only [Act.put, List.setIfInBounds_toArray, List.set_cons_zero, List.set_cons_succ]
        refine wpAnyS_take [5, 6, 7] (i := 1) (oi := { dst := some 12, op := .load 22 (.tmp 11), type := _, pos := _, after := _, guard := none }) (v := .slice aV k cV) rfl (by kernel_rfl) (by kernel_rfl) (by kernel_rfl) (by kernel_rfl) (by kernel_rfl) (by kernel_rfl) (by kernel_rfl) (fun _ _ _ h => h) (Or.inl ⟨by rfl, ?_⟩) hH (fun hH => ?_)
        · intro wS hSw
          have z0 := (c3_cells hSw).2.1
          go_simp
        simp only [Act.put, List.setIfInBounds_toArray, List.set_cons_zero, List.set_cons_succ]
        refine wpAnyS_pure (i := 2) (oi := { dst := some 13, op := .move (.tmp 0), type := _, pos := _, after := _, guard := none }) (v := .pointer (some ⟨g, 0, none⟩)) rfl (by kernel_rfl) (by kernel_rfl) (by kernel_rfl) (by kernel_rfl) (fun _ _ _ h => h) (Or.inl ⟨by rfl, ?_⟩) hH (fun hH => ?_)
        · intro wS hSw
          go_simp
        simp only [Act.put, List.setIfInBounds_toArray, List.set_cons_zero, List.set_cons_succ]
        refine wpAnyS_ready (rs := [3]) (by kernel_rfl) (by simp) ?_
        refine AllReadyS.cons (o := { dst := some 14, op := .call { callee := .value (.func 56), args := #[.tmp 13], argTypes := #[66] }, type := _, pos := _, after := _, guard := none }) rfl (fun K hK => ?_) AllReadyS.nil
        rw [if_pos (by rfl)]
        have CV := variable_any g l'.tail x0r (hR.below hB0) (by have := hB0.size; omega)
        rw [hN] at CV
        go_wp2_with (go_at_call 56; refine CV.mono ?_; rintro e' x1r ⟨rfl, hvl, hR1, hb1r⟩)
        have ls0 := hB0.size
        have ls1 := hb1r.size
        have hS1r := (hb1r.at hS0r (by omega))
        refine hK.out _ _ (Hold.of hS1r) (fun hH => ?_)
        clear hK K
        refine wpAnyS_ready (rs := [4]) (by kernel_rfl) (by simp) ?_
        refine AllReadyS.cons (o := { dst := some 15, op := .buildSlice 22 1 #[(0, .tmp 14)], type := _, pos := _, after := _, guard := none }) rfl (fun K hK => ?_) AllReadyS.nil
        rw [if_pos (by rfl)]
        refine wp_layV (.tmp 14) rfl (VT.cells ⟨⟨v.nm.toArray⟩, v.t, v.b⟩) rfl rfl ?_
        intro x2r hA2r hb2r
        have ls2 := hb2r.size
        have hS2r := (hS1r.below hb2r)
        refine hK.out _ _ (Hold.of hS2r) (fun hH => ?_)
        clear hK K
        refine wpAnyS_ready (rs := [5]) (by kernel_rfl) (by simp) ?_
        refine AllReadyS.cons (o := { dst := some 16, op := .call { callee := .builtin .append, args := #[.tmp 12, .tmp 15], argTypes := #[22, 22] }, type := _, pos := _, after := _, guard := none }) rfl (fun K hK => ?_) AllReadyS.nil
        rw [if_pos (by rfl)]
        have hGx : Gr eV M x2r (.slice aV k cV) vs := (((hG.below hB0).but hb1r (by omega)).below hb2r)
        refine wp_grow (e := eV) (A := M) (ys := vs) (.tmp 12) (.tmp 15) 22 _ 32 rfl Tryz.underlying22 f48 rfl (by decide) rfl x1r.heap.size rfl hGx (⟨⟨v.nm.toArray⟩, v.t, v.b⟩ : VT) hA2r hvl trivial k hyl (by omega) (by decide) ?_
        intro gW cW x3r hG3r hb3r
        have ls3 := hb3r.size
        have hS3r := (hS2r.belowA hb3r hg3M)
        refine hK.out _ _ (Hold.of hS3r) (fun hH => ?_)
        clear hK K
        refine wpAnyS_pure (i := 6) (oi := { dst := some 17, op := .fieldAddr 53 (.tmp 3) 1, type := _, pos := _, after := _, guard := none }) (v := .pointer (some ⟨g3, 1, none⟩)) rfl (by kernel_rfl) (by kernel_rfl) (by kernel_rfl) (by kernel_rfl) (fun _ _ _ h => h) (Or.inl ⟨by rfl, ?_⟩) hH (fun hH => ?_)
        · intro wS hSw
          go_simp
        simp only [Act.put, List.setIfInBounds_toArray, List.set_cons_zero, List.set_cons_succ]
        refine wpAnyS_ready (rs := [7]) (by kernel_rfl) (by simp) ?_
        refine AllReadyS.cons (o := { dst := none, op := .store 22 (.tmp 17) (.tmp 16), type := _, pos := _, after := _, guard := none }) rfl (fun K hK => ?_) AllReadyS.nil
        rw [if_pos (by rfl)]
        refine wp_store_one 22 (.tmp 17) (.tmp 16) rfl g3 1 (.slice (some ⟨gW, 0, none⟩) (k + 1) cW) rfl rfl 53 _ hS3r (show 1 + 1 ≤ 3 by decide) (by kernel_rfl) rfl rfl ?_
        intro x4r hA4r hb4r hs4r
        refine hK.out _ _ (Hold.over (s := 7) (by decide) (by rfl)) (fun hH => ?_)
        clear hK K
        refine wpAnyS_done (by kernel_rfl) ?_ _
        have hR4 : Rd B x4r g r3 := ((hR1.below hb2r).low hb3r (by omega)).but hb4r (by omega)
        have hA24 : At 53 x4r w.heap.size [.string ⟨#[]⟩, .slice none 0 0, .slice none 0 0] := hb4r.at ((((hb1r.at (hA2.below hB0) (by omega)).below hb2r)).belowA hb3r (by omega)) (by omega)
        have HRel : Hid (∃ (l' : List Tk) (f' : Nat) (aV : Option Addr) (k cV : Nat) (vs : List VT), vs.length = k ∧ At 53 x4r g3 [.string ⟨x.toArray⟩, .slice aV k cV, .slice none 0 0] ∧ At 53 x4r w.heap.size [.string ⟨#[]⟩, .slice none 0 0, .slice none 0 0] ∧ Gr eV M x4r (.slice aV k cV) vs ∧ Rd B x4r g l' ∧ But g w x4r ∧ k + l'.length ≤ l.length ∧ l'.length + 1 ≤ f' ∧ M ≤ x4r.heap.size ∧ D = ((localsR f' l').bind fun ss r => .ok (vs.map VT.vr ++ ss) r).bind fun vs r => (stmtsR (4 * r.length + 4) 0 r).bind fun b r => .ok ⟨x, vs, b⟩ r) := by
          refine ⟨r3, f', some ⟨gW, 0, none⟩, k + 1, cW, vs ++ [_], by rw [List.length_append, hyl]; rfl, hA4r, hA24, hG3r.but hb4r hg3M, hR4, ?_, by omega, by omega, by have := hb4r.size; omega, ?_⟩
          · have h1 := ((hbt.trans (But.of_below hB0)).trans hb1r).trans (But.of_below hb2r)
            have h2 : But g w x3r := ⟨hb3r.os.trans h1.os, hb3r.tape.trans h1.tape, hb3r.output.trans h1.output, Nat.le_trans h1.size hb3r.size, fun q hq hne => (hb3r.block q (by omega)).trans (h1.block q hq hne)⟩
            exact h2.fresh hb4r (by omega)
          · rw [hD']
            congr 2
            funext ss r
            show Rs.ok (vs.map VT.vr ++ v :: ss) r = _
            rw [List.map_append, List.append_assoc]
            rfl
        have hm : tokLen x4r g < tokLen wr g := by rw [hR4.len, htk]; omega
        clear hR4 hA24 hA4r hb4r hb3r hb2r hb1r hB0 hG3r hR1 hvl hD' hA2 hA3 hG hR hbt hA2r hGx hs4r ls0 ls1 ls2 ls3 htk
        go_wp2_with fail
        go_roundw
        case rel => exact ⟨_, _, _, _, _, _, _, _, _, HRel, rfl⟩
        case measure => exact hm
    · rw [if_neg c0] at HD
      have hD' : D = (stmtsR (4 * l'.length + 4) 0 l').bind fun b r => .ok ⟨x, vs.map VT.vr ++ [], b⟩ r := HD.out
      rw [List.append_nil] at hD'
      have C55 := takes_no g l' ⟨#[108, 111, 99, 97, 108]⟩ (by decide) c0 wr hR
      clear hR c0 HD htk
      go_wp2_with (go_at_call 55; refine C55.mono ?_; rintro r w2 ⟨rfl, hR, hb2⟩; refine Hid.out ?_)
      refine hidU ?_
      have hA2 := hb2.at hA2 (by omega)
      have hA3 := hb2.at hA3 (by omega)
      have hG := hG.but hb2 (by omega)
      have hbt := hbt.trans hb2
      have l2 := hb2.size
      clear C55 hb2
      have CS : Calls Tryz.prog 96 #[.pointer (some ⟨g, 0, none⟩), .int .i64 0] w2 (PostL B g w2 (stmtsR (4 * l'.length + 4) 0 l')) := stmts96_any l' _ 0 (Nat.le_refl _) (by decide) (by omega) B g w2 hR (by omega)
      clear hR
      generalize stmtsR (4 * l'.length + 4) 0 l' = N at CS hD'
      cases N with
      | bad e p =>
        have hD' : D = .bad e p := hD'
        subst hD'
        clear hG hA2 hA3
        go_wp2_with (go_at_call 96; refine CS.mono ?_; rintro r w3 ⟨hr, hb3⟩; unfold PanW at hr; subst hr)
        exact ⟨rfl, rfl, hbt.trans hb3⟩
      | ok ss r3 =>
      have hD' : D = .ok ⟨x, vs.map VT.vr, ss⟩ r3 := hD'
      subst hD'
      have hT0 := hG.vars (by omega)
      go_wp2_with (go_at_call 96; refine CS.mono ?_; rintro r w3 ⟨a2, c2, ys, rfl, hys, hT, hR, hb3⟩; refine Hid.out ?_)
      refine hidU ?_
      obtain ⟨n2, hn2⟩ : ∃ q, Hid (q = ys.length) := ⟨_, (rfl : ys.length = _)⟩
      rw [← hn2.out]
      have hA2 := hb3.at hA2 (by omega)
      have hA3 := hb3.at hA3 (by omega)
      have hT0 := hT0.but hb3 (.inl (by omega))
      have hbt := hbt.trans hb3
      have l3 := hb3.size
      clear CS hb3 hG
      go_wp2_with (first
        | ((with_reducible show wpList _ _ _ _ _ _); refine wpList_store_one (P := Tryz.prog) rfl 49 (.tmp 20) (.tmp 19) rfl g3 2 (.slice a2 n2 c2) rfl rfl 53 _ hA3 (show 2 + 1 ≤ 3 by decide) (by kernel_rfl) rfl rfl ?_; intro w4 hA3 hb4 hs4; clear hs4; refine Hid.out ?_))
      refine hidU ?_
      have hA3 : At 53 w4 g3 [.string ⟨x.toArray⟩, .slice aV k cV, .slice a2 n2 c2] := hA3
      have hA2 := hb4.at hA2 (by omega)
      have hT0 := hT0.but hb4 (.inl (by omega))
      have hT := hT.but hb4 (.inl (by omega))
      have hR := hR.but hb4 (by omega)
      have hbt := hbt.fresh hb4 (by omega)
      have l4 := hb4.size
      clear hb4
      have hcs : (⟨⟨x.toArray⟩, aV, cV, vs, a2, c2, ys⟩ : TT).cells = [.string ⟨x.toArray⟩, .slice aV k cV, .slice a2 n2 c2] := by
        show [Value.string ⟨x.toArray⟩, .slice aV vs.length cV, .slice a2 ys.length c2] = _
        rw [hyl, hn2.out]
      go_wp2_with (first
        | ((with_reducible show wpList _ _ _ _ _ _); refine wpList_load_at (P := Tryz.prog) rfl 53 (.tmp 3) rfl g3 rfl 53 [.string ⟨x.toArray⟩, .slice aV k cV, .slice a2 n2 c2] hA3 _ Tryz.underlying53 rfl i42 ?_)
        | ((with_reducible show wpList _ _ _ _ _ _); refine wpList_store_at (P := Tryz.prog) rfl 53 (.tmp 2) (.tmp 21) rfl w.heap.size [.string ⟨x.toArray⟩, .slice aV k cV, .slice a2 n2 c2] rfl rfl 53 _ hA2 i42 rfl (by rw [← hcs]; exact TT.one _) ?_; intro wE hAE hbE hsE; clear hsE))
      refine bodyPost_ret (results_at rfl _ _ w.heap.size 53 [.string ⟨x.toArray⟩, .slice aV k cV, .slice a2 n2 c2] _ rfl hAE Tryz.underlying53 rfl i42) rfl ?_
      refine ⟨⟨⟨x.toArray⟩, aV, cV, vs, a2, c2, ys⟩, by rw [hcs], ?_, ⟨(hT0.but hbE (.inl (by omega))).low (by omega), (hT.but hbE (.inl (by omega))).low (by omega)⟩, hR.but hbE hBw, hbt.fresh hbE (Nat.le_refl _)⟩
      show Th.mk _ _ _ = _
      rw [hys]
end Go.Proofs.YtjgggmjjikopeaaGreatDoor
