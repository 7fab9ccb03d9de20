/- race.partedFrom: of each event how many of each other thread are parted from it. -/
import Derived.Test.YtmkhobaclpiceaaJ19
namespace Go.Proofs.Ytmkhobaclpiceaa
open Go.RowKit
set_option linter.unusedVariables false
attribute [local go_sem ↓] Go.wp_at_zero Go.wp_at_succ

theorem run_storeVar_cell {P : Program} (w : World) (b o : Nat) (ty : TypeId) (v : Value) (ht : w.there b o 1) (hi : (P.info? ty).map (·.size) = some 1) (hc : v.cells = #[v]) (h1 : v.oneCell' = true) :
    (storeVar ty ⟨b, o, none⟩ v).run P w = .ok () (w.setCell ⟨b, o, none⟩ v) := by
  have := run_storeCells_cells (P := P) b o [v] 0 w (fun j hj => by simpa using (ht j (by simpa using hj)).1) (fun j hj => by simpa using (ht j (by simpa using hj)).2) (fun u hu => by simp at hu; subst hu; exact h1)
  cases hq : P.info? ty with
  | none => simp [hq] at hi
  | some i =>
    have hs : i.size = 1 := by simp [hq] at hi; omega
    simp only [Nat.add_zero] at this
    simp [storeVar, sizeOf, typeInfo, hq, hc, hs, this, World.setCells]
section
variable {o : Oper} {a : Act} {w : World} {K : Act → World → Prop} {Q : Exit → Act → World → Prop}
theorem wp_store_one (ty : TypeId) (x y : Operand) (ho : o.op = .store ty x y)
    (g off : Nat) (v : Value) (hx : a.eval x = .pointer (some ⟨g, off, none⟩)) (hy : a.eval y = v)
    (t : TypeId) (old : List Value) (hg : At t w g old) (hold : off + 1 ≤ old.length) (hi : (Try.prog.info? ty).map (·.size) = some 1) (hc : v.cells = #[v]) (h1 : v.oneCell' = true)
    (h : ∀ w', At t w' g (old.set off v) → But g w w' → w'.heap.size = w.heap.size → K (a.put o.dst undef) w') : o.wp Try.prog a w K Q := by
  have := h _ (hg.set off v) ((But.refl g w).setCell off v) (by simp)
  unfold Oper.wp execOp
  simp only [ho, hx, hy, Instr.storeAt, Instr.sureAddr, Sem.run_bind, Sem.run_pure, Result.andThen_ok, run_storeVar_cell w g off ty v (hg.there off 1 hold) hi hc h1]
  exact this
end
/-- Cells that hold numbers. -/
def OnI (cs : List Value) (zs : List Int) : Prop := ∀ (k : Nat) (z : Int), zs[k]? = some z → cs[k]? = some (Value.int .i64 z)
theorem WrI.parts {w : World} {g : Nat} {zs : List Int} (h : WrI w g 0 zs) : ∃ cs, At 3 w g cs ∧ OnI cs zs ∧ zs.length ≤ cs.length := by
  obtain ⟨cs, h1, h2⟩ := h
  refine ⟨cs, h1, fun k z hz => by have := h2 k z hz; rwa [Nat.zero_add] at this, ?_⟩
  rcases Nat.eq_zero_or_pos zs.length with h0 | h0
  · omega
  · have := h2 (zs.length - 1) _ (List.getElem?_eq_getElem (by omega))
    have := (List.getElem?_eq_some_iff.1 this).1
    omega
theorem OnI.wr {w : World} {g : Nat} {cs : List Value} {zs : List Int} (h : OnI cs zs) (hA : At 3 w g cs) : WrI w g 0 zs := ⟨cs, hA, fun k z hz => by rw [Nat.zero_add]; exact h k z hz⟩
theorem OnI.set {cs : List Value} {zs : List Int} (h : OnI cs zs) (s : Nat) (v : Int) (hl : zs.length ≤ cs.length) : OnI (cs.set s (.int .i64 v)) (zs.set s v) := by
  intro k z hz
  by_cases hks : k = s
  · subst hks
    have hk : k < zs.length := by
      have := (List.getElem?_eq_some_iff.1 hz).1
      simpa using this
    rw [List.getElem?_set_self hk] at hz
    cases hz
    rw [List.getElem?_set_self (by omega)]
  · rw [List.getElem?_set_ne (fun e => hks e.symm)] at hz ⊢
    exact h k z hz
theorem map_range_succ {α : Type} (f : Nat → α) (k : Nat) : (List.range (k + 1)).map f = (List.range k).map f ++ [f k] := by rw [List.range_succ, List.map_append]; rfl
theorem map_range_at {α : Type} (f : Nat → α) {m k : Nat} (h : k < m) : ((List.range m).map f)[k]? = some (f k) := by simp [h]
theorem map_range_take {α : Type} (f : Nat → α) {m k : Nat} (h : k ≤ m) : ((List.range m).map f).take k = (List.range k).map f := by
  rw [← List.map_take, List.take_range, Nat.min_eq_left h]

set_option maxRecDepth 100000 in
set_option maxHeartbeats 6400000 in
theorem parted_any (es : List Ev) (n m : Nat) (a1 a2 : Option Addr) (c1 c2 : Nat) (w : World) (hX : RowII w a1 (clksL (evAt es) n m)) (hm0 : es.length = m) (hE : RowEv w a2 es) (hok : ∀ x ∈ es, x.ok) (hth : ∀ x ∈ es, 0 ≤ x.th ∧ x.th < n) (hn1 : 0 < n) (hn2 : n ≤ 16) (hm : m ≤ 1024) (hc1 : m ≤ c1) (hc2 : m ≤ c2) :
    Calls Try.prog 46 #[.slice a1 m c1, .slice a2 m c2, .int .i64 n] w fun r w' => ∃ H, r = .returned (.slice (some ⟨H, 0, none⟩) m m) ∧ RowII w' (some ⟨H, 0, none⟩) ((List.range m).map (parL es n)) ∧ Below w.heap.size w w' := by
  obtain ⟨i0, hi, hz0, hz1, hz2⟩ := info_parts Try.info32
  obtain ⟨ev, hev⟩ : ∃ ev, Hid (ev = evAt es) := ⟨_, (rfl : _ = evAt _)⟩
  rw [← hev.out] at hX
  have HE : Hid (RowEv w a2 es ∧ (∀ x ∈ es, x.ok) ∧ ∀ x ∈ es, 0 ≤ x.th ∧ x.th < n) := ⟨hE, hok, hth⟩
  have HX : Hid (RowII w a1 (clksL ev n m)) := hX
  have HM0 : Hid (es.length = m) := hm0
  clear hE hok hth hX hm0
  obtain ⟨G, hG⟩ : ∃ G, Hid (G = w.heap.size) := ⟨_, (rfl : _ = w.heap.size)⟩
  go_enter Try.func46, Try.ntmps46
  go_wp2_with (at_make; refine wpList_make_full _ rfl (.tmp 14) (.tmp 14) 46 rfl w.heap.size 32 i0 (.slice none 0 0) 1 Try.underlying46 hi hz0 hz1 .i64 .i64 _ _ m rfl rfl rfl rfl (by rw [hz2]; omega) (by unfold maxLen; omega) (Nat.le_refl _) ?_)
  intro w1 hown1 hgrow1
  have hb1 : Hid (Below w.heap.size w w1) := (Below.refl _ w).grown hgrow1 (Nat.le_refl _) (by intro k hk; cases hk)
  have hA1 : Hid (∃ cs : List Value, cs.length = m ∧ At 32 w1 G cs) := by
    obtain ⟨_, ⟨h, _⟩ | ⟨g, cp, cur, h, hg, hh, _, _, hs, ht⟩⟩ := hown1
    · cases h
    · cases h
      exact ⟨cur.toList, by simpa using hs, by unfold At; rw [hG.out, hh]⟩
  rw [← hG.out]
  clear hown1 hgrow1
  go_wp2_with fail
  go_loopw [18] (fun t wr => ∃ k : Nat, k ≤ m ∧ t = .int .i64 k ∧ Hid (∃ (hs : List Value) (top : Nat), hs.length = m ∧ Lay w.heap.size top wr G n hs ((List.range k).map (pstL ev n))) ∧ Hid (Below w.heap.size w wr)) (fun t _ => m - (intOf t).toNat)
  case atStart =>
    obtain ⟨cs, h1, h2⟩ := hA1.out
    exact ⟨0, Nat.zero_le _, rfl, ⟨cs, G + 1, h1, h2, by rw [hG.out]; exact Nat.le_refl _, Nat.lt_succ_self _, h2.lt, fun i zs hz => by simp at hz⟩, hb1.out⟩
  case round =>
    obtain ⟨k, hk, rfl, hL, hB⟩ := hrel
    clear hA1 hb1
    by_cases hlt : k < m
    · obtain ⟨hs, top, hsl, hLy⟩ := hL.out
      obtain ⟨x, hx⟩ : ∃ x, es[k]? = some x := ⟨es[k]'(by rw [HM0.out]; exact hlt), by rw [List.getElem?_eq_getElem]⟩
      have hxth := HE.out.2.2 x (List.mem_of_getElem? hx)
      obtain ⟨s, hs0⟩ : ∃ s : Nat, x.th = (s : Int) := ⟨x.th.toNat, by omega⟩
      have hsn : s < n := by omega
      have hevk : ev k = x := by rw [hev.out]; exact evAt_eq hx
      obtain ⟨g1, o1, b1, k1, rfl, r1, i1, i2, -⟩ := (HX.out.below hB.out).at k _ (clksL_at hlt)
      rw [clkL_length] at r1 i2
      have HCl := clone_any b1 n k1 (clkL ev n k) wr i1 (clkL_length _ _ _) hn1 (by omega) i2
      obtain ⟨ga, oa, rfl, -⟩ := HE.out.1.at k x hx
      have hkl : k < hs.length := by omega
      obtain ⟨v0, hv0⟩ : ∃ v, hs[k]? = some v := ⟨hs[k], List.getElem?_eq_getElem hkl⟩
      have hv : (clkL ev n k)[s]? = some ((clk ev k (s : Int) : Nat) : Int) := clkL_at hsn
      obtain ⟨v, hvv⟩ : ∃ v : Nat, v = clk ev k (s : Int) := ⟨_, rfl⟩
      rw [← hvv] at hv
      have hvb : v ≤ 1025 := by rw [hvv]; have := clk_le' ev k (s : Int); omega
      have HLy : Hid (Lay w.heap.size top wr G n hs ((List.range k).map (pstL ev n))) := hLy
      have HV : Hid ((clkL ev n k)[s]? = some (v : Int)) := hv
      have HP : Hid ((clkL ev n k).set s ((v : Int) - 1) = pstL ev n k) := by
        show _ = _
        exact pstL_of (by rw [hevk]; exact hs0) hsn _ hv
      have HZ : Hid (es[k]? = some x ∧ x.th = (s : Int)) := ⟨hx, hs0⟩
      have HH : Hid (hs.length = m ∧ hs[k]? = some v0) := ⟨hsl, hv0⟩
      clear hL hLy hx hxth hs0 hevk hv hvv i1 hsl hv0
      go_wp2_with (go_at_call 58; refine HCl.mono ?_; rintro _ w2 ⟨g, cap, rfl, hcap, hW, hg, hb2⟩; have y1 : w2.cell? ⟨G, k, none⟩ = some v0 := (by rw [(HLy.out.below hb2).blk.cell]; exact HH.out.2); have y2 : w2.frozen? ⟨G, k, none⟩ = false := (HLy.out.below hb2).blk.frozen k)
      have hsz := hB.out.size
      have hGw := hG.out
      have htop := HLy.out.tp
      have htg := HLy.out.gt
      have hgG : g ≠ G := by omega
      obtain ⟨w3, hw3⟩ : ∃ x, x = w2.setCell ⟨G, k, none⟩ (.slice (some ⟨g, 0, none⟩) n cap) := ⟨_, rfl⟩
      have hBut3 : But G w2 w3 := by rw [hw3]; exact (But.refl G w2).setCell k _
      have hB2 : Below w.heap.size w w2 := hB.out.trans (hb2.mono hsz)
      have HB3 : Hid (Below w.heap.size w w3) := hBut3.below hB2 (by omega) hB2.size
      have HL3' : Hid (Lay w.heap.size top w3 G n (hs.set k (.slice (some ⟨g, 0, none⟩) n cap)) ((List.range k).map (pstL ev n))) := by
        rw [hw3]
        exact (HLy.out.below hb2).set (by simp) _
      have HG3 : Hid ((hs.set k (.slice (some ⟨g, 0, none⟩) n cap))[k]? = some (.slice (some ⟨g, 0, none⟩) n cap) ∧ (hs.set k (.slice (some ⟨g, 0, none⟩) n cap)).length = m) := ⟨List.getElem?_set_self hkl, by rw [List.length_set]; exact HH.out.1⟩
      obtain ⟨cs, hA, hOn, hcl⟩ := (hW.but hBut3 hgG).parts
      rw [clkL_length] at hcl
      have HA3 : Hid (At 3 w3 g cs) := hA
      have HL3 : Hid (s < cs.length) := by show s < _; omega
      have HOn : Hid (OnI cs (clkL ev n k) ∧ n ≤ cs.length) := ⟨hOn, hcl⟩
      have z1 : w3.cell? ⟨G, k, none⟩ = some (.slice (some ⟨g, 0, none⟩) n cap) := (HL3'.out.blk.cell k).trans HG3.out.1
      have z2 : w3.cell? ⟨ga, oa + k * 3, none⟩ = some (.int .i64 (s : Int)) := by
        obtain ⟨g5, o5, h5, h6⟩ := (HE.out.1.below HB3.out).at k x HZ.out.1
        cases h5
        rw [(range_cells h6).1, HZ.out.2]
      have z3 : w3.cell? ⟨g, s, none⟩ = some (.int .i64 (v : Int)) := (hA.cell s).trans (hOn s _ HV.out)
      have hg3 : Hid (wr.heap.size ≤ g ∧ w2.heap.size ≤ w3.heap.size ∧ wr.heap.size ≤ w2.heap.size) := ⟨hg, hBut3.size, hb2.size⟩
      rw [← hw3]
      clear hw3 hBut3 hB2 hb2 hW hA hOn hcl y1 y2 hB hg hGw hsz htop htg r1
      have hwp : IntKind.i64.wrap ((v : Int) - 1) = (v : Int) - 1 := by rw [IntKind.wrap_i64]; omega
      have hS0a : Below w3.heap.size w3 w3.drew := Below.drew (Below.refl _ _)
      refine wp_region_S (S := fun xS => Below w3.heap.size w3 xS) (St := [13]) (by kernel_rfl) hS0a ?_
      obtain ⟨x0a, hx0⟩ : ∃ x, x = w3.drew := ⟨_, rfl⟩
      rw [← hx0] at hS0a  ⊢
      clear hx0
      intro hH
      refine wpAnyS_pure (i := 0) (oi := { dst := some 28, op := .move (.tmp 7), type := _, pos := _, after := _, guard := none }) (v := .slice (some ⟨G, 0, none⟩) m m) rfl (by kernel_rfl) (by kernel_rfl) (by kernel_rfl) (by kernel_rfl) (fun _ _ _ h => h) (Or.inl ⟨by rfl, ?_⟩) hH (fun hH => ?_)
      · intro wS hSw
        go_simp
      simp only [Act.put, List.setIfInBounds_toArray, List.set_cons_zero, List.set_cons_succ]
      refine wpAnyS_pure (i := 1) (oi := { dst := some 29, op := .move (.tmp 8), type := _, pos := _, after := _, guard := none }) (v := .int .i64 (k : Int)) rfl (by kernel_rfl) (by kernel_rfl) (by kernel_rfl) (by kernel_rfl) (fun _ _ _ h => h) (Or.inl ⟨by rfl, ?_⟩) hH (fun hH => ?_)
      · intro wS hSw
        go_simp
      simp only [Act.put, List.setIfInBounds_toArray, List.set_cons_zero, List.set_cons_succ]
      refine wpAnyS_pure (i := 2) (oi := { dst := some 30, op := .indexAddr 46 (.tmp 28) (.tmp 29), type := _, pos := _, after := _, guard := none }) (v := .pointer (some ⟨G, k, none⟩)) rfl (by kernel_rfl) (by kernel_rfl) (by kernel_rfl) (by kernel_rfl) (fun _ _ _ h => h) (Or.inl ⟨by rfl, ?_⟩) hH (fun hH => ?_)
      · intro wS hSw
        go_simp
      simp only [Act.put, List.setIfInBounds_toArray, List.set_cons_zero, List.set_cons_succ]
      refine wpAnyS_take [9, 10, 11, 12, 13] (i := 3) (oi := { dst := some 31, op := .load 32 (.tmp 30), type := _, pos := _, after := _, guard := none }) (v := .slice (some ⟨g, 0, none⟩) n cap) rfl (by kernel_rfl) (by kernel_rfl) (by kernel_rfl) (by kernel_rfl) (by kernel_rfl) (by kernel_rfl) (by kernel_rfl) (fun _ _ _ h => h) (Or.inl ⟨by rfl, ?_⟩) hH (fun hH => ?_)
      · intro wS hSw
        have z0 := (hSw.cell (lt_of_cell z1)).trans z1
        go_simp
      simp only [Act.put, List.setIfInBounds_toArray, List.set_cons_zero, List.set_cons_succ]
      refine wpAnyS_pure (i := 4) (oi := { dst := some 32, op := .move (.tmp 1), type := _, pos := _, after := _, guard := none }) (v := .slice (some ⟨ga, oa, none⟩) m c2) rfl (by kernel_rfl) (by kernel_rfl) (by kernel_rfl) (by kernel_rfl) (fun _ _ _ h => h) (Or.inl ⟨by rfl, ?_⟩) hH (fun hH => ?_)
      · intro wS hSw
        go_simp
      simp only [Act.put, List.setIfInBounds_toArray, List.set_cons_zero, List.set_cons_succ]
      refine wpAnyS_pure (i := 5) (oi := { dst := some 33, op := .move (.tmp 8), type := _, pos := _, after := _, guard := none }) (v := .int .i64 (k : Int)) rfl (by kernel_rfl) (by kernel_rfl) (by kernel_rfl) (by kernel_rfl) (fun _ _ _ h => h) (Or.inl ⟨by rfl, ?_⟩) hH (fun hH => ?_)
      · intro wS hSw
        go_simp
      simp only [Act.put, List.setIfInBounds_toArray, List.set_cons_zero, List.set_cons_succ]
      refine wpAnyS_pure (i := 6) (oi := { dst := some 34, op := .indexAddr 22 (.tmp 32) (.tmp 33), type := _, pos := _, after := _, guard := none }) (v := .pointer (some ⟨ga, oa + k * 3, none⟩)) rfl (by kernel_rfl) (by kernel_rfl) (by kernel_rfl) (by kernel_rfl) (fun _ _ _ h => h) (Or.inl ⟨by rfl, ?_⟩) hH (fun hH => ?_)
      · intro wS hSw
        go_simp
      simp only [Act.put, List.setIfInBounds_toArray, List.set_cons_zero, List.set_cons_succ]
      refine wpAnyS_pure (i := 7) (oi := { dst := some 35, op := .fieldAddr 24 (.tmp 34) 0, type := _, pos := _, after := _, guard := none }) (v := .pointer (some ⟨ga, oa + k * 3, none⟩)) rfl (by kernel_rfl) (by kernel_rfl) (by kernel_rfl) (by kernel_rfl) (fun _ _ _ h => h) (Or.inl ⟨by rfl, ?_⟩) hH (fun hH => ?_)
      · intro wS hSw
        go_simp
      simp only [Act.put, List.setIfInBounds_toArray, List.set_cons_zero, List.set_cons_succ]
      refine wpAnyS_take [9, 10, 11, 12, 13] (i := 8) (oi := { dst := some 36, op := .load 3 (.tmp 35), type := _, pos := _, after := _, guard := none }) (v := .int .i64 (s : Int)) rfl (by kernel_rfl) (by kernel_rfl) (by kernel_rfl) (by kernel_rfl) (by kernel_rfl) (by kernel_rfl) (by kernel_rfl) (fun _ _ _ h => h) (Or.inl ⟨by rfl, ?_⟩) hH (fun hH => ?_)
      · intro wS hSw
        have z0 := (hSw.cell (lt_of_cell z2)).trans z2
        go_simp
      simp only [Act.put, List.setIfInBounds_toArray, List.set_cons_zero, List.set_cons_succ]
      refine wpAnyS_pure (i := 9) (oi := { dst := some 37, op := .indexAddr 32 (.tmp 31) (.tmp 36), type := _, pos := _, after := _, guard := none }) (v := .pointer (some ⟨g, s, none⟩)) rfl (by kernel_rfl) (by kernel_rfl) (by kernel_rfl) (by kernel_rfl) (fun _ _ _ h => h) (Or.inl ⟨by rfl, ?_⟩) hH (fun hH => ?_)
      · intro wS hSw
        go_simp
      simp only [Act.put, List.setIfInBounds_toArray, List.set_cons_zero, List.set_cons_succ]
      refine wpAnyS_take [11, 12, 13] (i := 10) (oi := { dst := some 38, op := .load 3 (.tmp 37), type := _, pos := _, after := _, guard := none }) (v := .int .i64 (v : Int)) rfl (by kernel_rfl) (by kernel_rfl) (by kernel_rfl) (by kernel_rfl) (by kernel_rfl) (by kernel_rfl) (by kernel_rfl) (fun _ _ _ h => h) (Or.inl ⟨by rfl, ?_⟩) hH (fun hH => ?_)
      · intro wS hSw
        have z0 := (hSw.cell (lt_of_cell z3)).trans z3
        go_simp
      simp only [Act.put, List.setIfInBounds_toArray, List.set_cons_zero, List.set_cons_succ]
      refine wpAnyS_pure (i := 11) (oi := { dst := some 39, op := .binOp .sub 3 (.tmp 38) (.const (.int .i64 1)) 3, type := _, pos := _, after := _, guard := none }) (v := .int .i64 ((v : Int) - 1)) rfl (by kernel_rfl) (by kernel_rfl) (by kernel_rfl) (by kernel_rfl) (fun _ _ _ h => h) (Or.inl ⟨by rfl, ?_⟩) hH (fun hH => ?_)
      · intro wS hSw
        (go_simp; try exact hwp)
      simp only [Act.put, List.setIfInBounds_toArray, List.set_cons_zero, List.set_cons_succ]
      refine wpAnyS_pure (i := 12) (oi := { dst := some 40, op := .indexAddr 32 (.tmp 31) (.tmp 36), type := _, pos := _, after := _, guard := none }) (v := .pointer (some ⟨g, s, none⟩)) rfl (by kernel_rfl) (by kernel_rfl) (by kernel_rfl) (by kernel_rfl) (fun _ _ _ h => h) (Or.inl ⟨by rfl, ?_⟩) hH (fun hH => ?_)
      · intro wS hSw
        go_simp
      simp only [Act.put, List.setIfInBounds_toArray, List.set_cons_zero, List.set_cons_succ]
      refine wpAnyS_ready (rs := [13]) (by kernel_rfl) (by simp) ?_
      refine AllReadyS.cons (o := { dst := none, op := .store 3 (.tmp 40) (.tmp 39), type := _, pos := _, after := _, guard := none }) rfl (fun K hK => ?_) AllReadyS.nil
      rw [if_pos (by rfl)]
      refine wp_store_one 3 (.tmp 40) (.tmp 39) rfl g (s) (.int .i64 ((v : Int) - 1)) rfl rfl 3 _ (HA3.out.below hS0a) (by have := HL3.out; omega) (by kernel_rfl) rfl rfl ?_
      intro x1a hA1a hb1a hs1a
      refine hK.out _ _ (Hold.over (s := 13) (by decide) (by rfl)) (fun hH => ?_)
      clear hK K
      refine wpAnyS_done (by kernel_rfl) ?_ _

      have HLf : Hid (∃ (hs : List Value) (top : Nat), hs.length = m ∧ Lay w.heap.size top x1a G n hs ((List.range (k + 1)).map (pstL ev n))) := by
        obtain ⟨j1, j2, j3⟩ := hg3.out
        have t1 := HLy.out.tp
        have t2 := hS0a.size
        refine ⟨_, x1a.heap.size, HG3.out.2, ?_⟩
        rw [map_range_succ]
        refine ((HL3'.out.below hS0a).but hb1a (by omega)).snoc (g := g) (c := cap) ?_ hcap ?_ hA1a.lt ?_ (Nat.le_refl _) hgG (pstL_length _ _ _) ?_
        · rw [List.length_map, List.length_range]; exact HG3.out.1
        · have := HLy.out.bg; have := HLy.out.gt; omega
        · omega
        · rw [← HP.out]
          exact (HOn.out.1.set s _ (by rw [clkL_length]; exact HOn.out.2)).wr hA1a
      have HBf : Hid (Below w.heap.size w x1a) := by
        obtain ⟨j1, j2, j3⟩ := hg3.out
        have t1 := HB3.out.size
        have t2 := HLy.out.tp
        have t3 := HLy.out.bg
        have t4 := HLy.out.gt
        exact hb1a.below (HB3.out.trans (hS0a.mono t1)) (by omega) (Nat.le_trans t1 hS0a.size)
      clear hA1a hb1a hs1a hS0a z1 z2 z3
      go_wp2_with fail
      go_roundw
      case rel => exact ⟨k + 1, by omega, by go_num, HLf.out, HBf.out⟩
      case measure => simp [intOf]; omega
    · obtain ⟨hs, top, hsl, hLy⟩ := hL.out
      have hkm : k = m := by omega
      rw [hkm] at hLy
      obtain ⟨wa, rfl⟩ : ∃ x, x = wr := ⟨wr, rfl⟩
      have HL1 : Hid (Lay w.heap.size top wa G n hs ((List.range m).map (pstL ev n))) := hLy
      have HBa : Hid (Below w.heap.size w wa) := hB.out
      obtain ⟨H, hH⟩ : ∃ H, Hid (H = wa.heap.size) := ⟨_, (rfl : _ = wa.heap.size)⟩
      clear hL hLy hB hsl hkm
      go_wp2_with (at_make; refine wpList_make_full _ rfl (.tmp 43) (.tmp 43) 46 rfl wa.heap.size 32 i0 (.slice none 0 0) 1 Try.underlying46 hi hz0 hz1 .i64 .i64 _ _ m rfl rfl rfl rfl (by rw [hz2]; omega) (by unfold maxLen; omega) (Nat.le_refl _) ?_)
      intro w4 hown4 hgrow4
      have hb4 : Hid (Below wa.heap.size wa w4) := (Below.refl _ wa).grown hgrow4 (Nat.le_refl _) (by intro k hk; cases hk)
      have hA4 : Hid (∃ cs : List Value, cs.length = m ∧ At 32 w4 H cs) := by
        obtain ⟨_, ⟨h, _⟩ | ⟨g, cp, cur, h, hg, hh, _, _, hs, ht⟩⟩ := hown4
        · cases h
        · cases h
          exact ⟨cur.toList, by simpa using hs, by unfold At; rw [hH.out, hh]⟩
      rw [← hH.out]
      clear hown4 hgrow4
      go_wp2_with fail
      go_loopw [47] (fun t wr => ∃ k : Nat, k ≤ m ∧ t = .int .i64 k ∧ Hid (∃ (hs : List Value) (top : Nat), hs.length = m ∧ Lay wa.heap.size top wr H n hs ((List.range k).map (parL es n))) ∧ Hid (Lay w.heap.size top wr G n hs ((List.range m).map (pstL ev n))) ∧ Hid (Below wa.heap.size wa wr)) (fun t _ => m - (intOf t).toNat)
      case atStart =>
        obtain ⟨cs, h1, h2⟩ := hA4.out
        exact ⟨0, Nat.zero_le _, rfl, ⟨cs, H + 1, h1, h2, by rw [hH.out]; exact Nat.le_refl _, Nat.lt_succ_self _, h2.lt, fun i zs hz => by simp at hz⟩, HL1.out.below hb4.out, hb4.out⟩
      case round =>
        obtain ⟨k, hk, rfl, hL, hLp, hB⟩ := hrel
        clear hA4 hb4
        by_cases hlt : k < m
        · obtain ⟨hs2, top2, hsl, hLy⟩ := hL.out
          obtain ⟨x, hx⟩ : ∃ x, es[k]? = some x := ⟨es[k]'(by rw [HM0.out]; exact hlt), by rw [List.getElem?_eq_getElem]⟩
          have hBw : Below w.heap.size w wr := HBa.out.trans (hB.out.mono HBa.out.size)
          have hEw := HE.out.1.below hBw
          obtain ⟨ga, oa, rfl, hr⟩ := hEw.at k x hx
          obtain ⟨q1, q2, q3⟩ := range_cells hr
          have hgaw : ga < wr.heap.size := lt_of_cell q1
          have hxm := List.mem_of_getElem? hx
          have HNy : Hid (∀ u, Below wr.heap.size wr u → Calls Try.prog 59 #[.slice (some ⟨G, 0, none⟩) k m, .slice (some ⟨ga, oa, none⟩) k c2, .int .i64 n, .agg x.cells.toArray] u fun r w' => ∃ g, r = .returned (.tuple #[.slice (some ⟨g, 0, none⟩) n n, .int .i64 0]) ∧ WrI w' g 0 (parL es n k) ∧ u.heap.size ≤ g ∧ Below u.heap.size u w') := fun u hu => by
            have hle : (es.take k).length = k := by rw [List.length_take, HM0.out]; omega
            have hr1 := ((hLp.out.below hu).row (by omega)).take k
            rw [map_range_take _ hk] at hr1
            have := next_ok ((List.range k).map (pstL ev n)) (es.take k) x n (some ⟨G, 0, none⟩) (some ⟨ga, oa, none⟩) m c2 u hr1 (fun zs hz => by obtain ⟨i, _, rfl⟩ := List.mem_map.1 hz; exact pstL_length _ _ _) (by simp [hle]) ((hEw.below hu).take k) (fun G' O' h => by cases h; exact Nat.lt_of_lt_of_le hgaw hu.size) (fun y hy => HE.out.2.1 y (List.mem_of_mem_take hy)) (HE.out.2.1 x hxm) (wrongZ_of (by omega) (by omega) (by rw [List.length_append, hle]; simp; omega) (fun y hy => by
              rcases List.mem_append.1 hy with h | h
              · exact HE.out.2.2 y (List.mem_of_mem_take h)
              · simp at h; subst h; exact HE.out.2.2 _ hxm)) (by omega) (by omega)
            rw [hle] at this
            have e : flZ ((List.range k).map (pstL ev n)) (es.take k) x (List.replicate n 0) = parL es n k := by unfold parL; rw [evAt_eq hx, hev.out]
            rw [e] at this
            exact this
          have HLy : Hid (Lay wa.heap.size top2 wr H n hs2 ((List.range k).map (parL es n))) := hLy
          have HLen : Hid ((parL es n k).length = n) := parL_length es n k (by rw [HM0.out]; exact hlt)
          have HSL : Hid (hs2.length = m) := hsl
          have s1 := fun u => runII_slice_to u (some ⟨G, 0, none⟩) m m k (k : Int) rfl (by omega)
          have s2 := fun u => runE_slice_to u (some ⟨ga, oa, none⟩) m c2 k (k : Int) rfl (by omega)
          obtain ⟨xt, xk, xo⟩ := x
          simp only [Ev.cells] at HNy
          dsimp only at q1 q2 q3
          clear hL hLy hr hBw hEw hx hxm hsl
          go_wp2_with fail
          obtain ⟨eb, heb⟩ : ∃ eb, eb = wr.heap.size := ⟨_, rfl⟩
          obtain ⟨w5, hw5⟩ : ∃ x, x = wr.alloc (.cells #[.int .i64 xt, .int .i64 xk, .int .i64 xo] 24) := ⟨_, rfl⟩
          have e1 : w5.cell? ⟨eb, 0, none⟩ = some (.int .i64 xt) := by rw [hw5, heb]; unfold World.cell?; rw [heap_new]; rfl
          have e2 : w5.cell? ⟨eb, 1, none⟩ = some (.int .i64 xk) := by rw [hw5, heb]; unfold World.cell?; rw [heap_new]; rfl
          have e3 : w5.cell? ⟨eb, 2, none⟩ = some (.int .i64 xo) := by rw [hw5, heb]; unfold World.cell?; rw [heap_new]; rfl
          have hb5 : Below wr.heap.size wr w5 := by rw [hw5]; exact (Below.refl _ wr).alloc (Nat.le_refl _) _
          have HAH : Hid (At 32 w5 H hs2) := HLy.out.blk.below hb5
          have HHL : Hid (k < hs2.length) := by rw [HSL.out]; exact hlt
          have HNx : Hid (∀ u, Below w5.heap.size w5 u → Calls Try.prog 59 #[.slice (some ⟨G, 0, none⟩) k m, .slice (some ⟨ga, oa, none⟩) k c2, .int .i64 n, .agg #[.int .i64 xt, .int .i64 xk, .int .i64 xo]] u fun r w' => ∃ g, r = .returned (.tuple #[.slice (some ⟨g, 0, none⟩) n n, .int .i64 0]) ∧ Hid (WrI w' g 0 (parL es n k)) ∧ Hid (u.heap.size ≤ g) ∧ Below u.heap.size u w') := fun u hu => HNy.out u (hb5.trans (hu.mono hb5.size))
          have HB5 : Hid (Below wr.heap.size wr w5) := hb5
          rw [← heb, ← hw5]
          clear hw5 heb hb5 HNy q1 q2 q3
          have hS0b : Below w5.heap.size w5 w5.drew := Below.drew (Below.refl _ _)
          refine wp_region_S (S := fun xS => Below w5.heap.size w5 xS) (St := [15]) (by kernel_rfl) hS0b ?_
          obtain ⟨x0b, hx0⟩ : ∃ x, x = w5.drew := ⟨_, rfl⟩
          rw [← hx0] at hS0b  ⊢
          clear hx0
          intro hH
          refine wpAnyS_pure (i := 0) (oi := { dst := some 53, op := .move (.tmp 10), type := _, pos := _, after := _, guard := none }) (v := .slice (some ⟨H, 0, none⟩) m m) rfl (by kernel_rfl) (by kernel_rfl) (by kernel_rfl) (by kernel_rfl) (fun _ _ _ h => h) (Or.inl ⟨by rfl, ?_⟩) hH (fun hH => ?_)
          · intro wS hSw
            go_simp
          simp only [Act.put, List.setIfInBounds_toArray, List.set_cons_zero, List.set_cons_succ]
          refine wpAnyS_pure (i := 1) (oi := { dst := some 54, op := .move (.tmp 11), type := _, pos := _, after := _, guard := none }) (v := .int .i64 (k : Int)) rfl (by kernel_rfl) (by kernel_rfl) (by kernel_rfl) (by kernel_rfl) (fun _ _ _ h => h) (Or.inl ⟨by rfl, ?_⟩) hH (fun hH => ?_)
          · intro wS hSw
            go_simp
          simp only [Act.put, List.setIfInBounds_toArray, List.set_cons_zero, List.set_cons_succ]
          refine wpAnyS_pure (i := 2) (oi := { dst := some 55, op := .move (.tmp 7), type := _, pos := _, after := _, guard := none }) (v := .slice (some ⟨G, 0, none⟩) m m) rfl (by kernel_rfl) (by kernel_rfl) (by kernel_rfl) (by kernel_rfl) (fun _ _ _ h => h) (Or.inl ⟨by rfl, ?_⟩) hH (fun hH => ?_)
          · intro wS hSw
            go_simp
          simp only [Act.put, List.setIfInBounds_toArray, List.set_cons_zero, List.set_cons_succ]
          refine wpAnyS_pure (i := 3) (oi := { dst := some 56, op := .move (.tmp 11), type := _, pos := _, after := _, guard := none }) (v := .int .i64 (k : Int)) rfl (by kernel_rfl) (by kernel_rfl) (by kernel_rfl) (by kernel_rfl) (fun _ _ _ h => h) (Or.inl ⟨by rfl, ?_⟩) hH (fun hH => ?_)
          · intro wS hSw
            go_simp
          simp only [Act.put, List.setIfInBounds_toArray, List.set_cons_zero, List.set_cons_succ]
          refine wpAnyS_pure (i := 4) (oi := { dst := some 57, op := .slice 46 (.tmp 55) none (some (.tmp 56)) none, type := _, pos := _, after := _, guard := none }) (v := .slice (some ⟨G, 0, none⟩) k m) rfl (by kernel_rfl) (by kernel_rfl) (by kernel_rfl) (by kernel_rfl) (fun _ _ _ h => h) (Or.inl ⟨by rfl, ?_⟩) hH (fun hH => ?_)
          · intro wS hSw
            go_simp
          simp only [Act.put, List.setIfInBounds_toArray, List.set_cons_zero, List.set_cons_succ]
          refine wpAnyS_pure (i := 5) (oi := { dst := some 58, op := .move (.tmp 1), type := _, pos := _, after := _, guard := none }) (v := .slice (some ⟨ga, oa, none⟩) m c2) rfl (by kernel_rfl) (by kernel_rfl) (by kernel_rfl) (by kernel_rfl) (fun _ _ _ h => h) (Or.inl ⟨by rfl, ?_⟩) hH (fun hH => ?_)
          · intro wS hSw
            go_simp
          simp only [Act.put, List.setIfInBounds_toArray, List.set_cons_zero, List.set_cons_succ]
          refine wpAnyS_pure (i := 6) (oi := { dst := some 59, op := .move (.tmp 11), type := _, pos := _, after := _, guard := none }) (v := .int .i64 (k : Int)) rfl (by kernel_rfl) (by kernel_rfl) (by kernel_rfl) (by kernel_rfl) (fun _ _ _ h => h) (Or.inl ⟨by rfl, ?_⟩) hH (fun hH => ?_)
          · intro wS hSw
            go_simp
          simp only [Act.put, List.setIfInBounds_toArray, List.set_cons_zero, List.set_cons_succ]
          refine wpAnyS_pure (i := 7) (oi := { dst := some 60, op := .slice 22 (.tmp 58) none (some (.tmp 59)) none, type := _, pos := _, after := _, guard := none }) (v := .slice (some ⟨ga, oa, none⟩) k c2) rfl (by kernel_rfl) (by kernel_rfl) (by kernel_rfl) (by kernel_rfl) (fun _ _ _ h => h) (Or.inl ⟨by rfl, ?_⟩) hH (fun hH => ?_)
          · intro wS hSw
            go_simp
          simp only [Act.put, List.setIfInBounds_toArray, List.set_cons_zero, List.set_cons_succ]
          refine wpAnyS_pure (i := 8) (oi := { dst := some 61, op := .move (.tmp 2), type := _, pos := _, after := _, guard := none }) (v := .int .i64 (n : Int)) rfl (by kernel_rfl) (by kernel_rfl) (by kernel_rfl) (by kernel_rfl) (fun _ _ _ h => h) (Or.inl ⟨by rfl, ?_⟩) hH (fun hH => ?_)
          · intro wS hSw
            go_simp
          simp only [Act.put, List.setIfInBounds_toArray, List.set_cons_zero, List.set_cons_succ]
          refine wpAnyS_take [10, 11, 12, 13, 14, 15] (i := 9) (oi := { dst := some 62, op := .load 24 (.tmp 12), type := _, pos := _, after := _, guard := none }) (v := .agg #[.int .i64 xt, .int .i64 xk, .int .i64 xo]) rfl (by kernel_rfl) (by kernel_rfl) (by kernel_rfl) (by kernel_rfl) (by kernel_rfl) (by kernel_rfl) (by kernel_rfl) (fun _ _ _ h => h) (Or.inl ⟨by rfl, ?_⟩) hH (fun hH => ?_)
          · intro wS hSw
            have z0 := (hSw.cell (lt_of_cell e1)).trans e1
            have z1 := (hSw.cell (lt_of_cell e2)).trans e2
            have z2 := (hSw.cell (lt_of_cell e3)).trans e3
            go_simp
          simp only [Act.put, List.setIfInBounds_toArray, List.set_cons_zero, List.set_cons_succ]
          refine wpAnyS_ready (rs := [10]) (by kernel_rfl) (by simp) ?_
          refine AllReadyS.cons (o := { dst := some 63, op := .call { callee := .value (.func 59), args := #[.tmp 57, .tmp 60, .tmp 61, .tmp 62], argTypes := #[46, 22, 3, 24] }, type := _, pos := _, after := _, guard := none }) rfl (fun K hK => ?_) AllReadyS.nil
          rw [if_pos (by rfl)]
          go_wp2_with (go_at_call 59; refine (HNx.out x0b hS0b).mono ?_; rintro e x1b ⟨g, rfl, hW1b, hg1b, hb1b⟩)
          have hS1b := hS0b.trans (hb1b.mono hS0b.size)
          refine hK.out _ _ (Hold.of hS1b) (fun hH => ?_)
          clear hK K
          refine wpAnyS_pure (i := 11) (oi := { dst := some 52, op := .move (.tmp 63), type := _, pos := _, after := _, guard := none }) (v := .tuple #[.slice (some ⟨g, 0, none⟩) n n, .int .i64 0]) rfl (by kernel_rfl) (by kernel_rfl) (by kernel_rfl) (by kernel_rfl) (fun _ _ _ h => h) (Or.inl ⟨by rfl, ?_⟩) hH (fun hH => ?_)
          · intro wS hSw
            go_simp
          simp only [Act.put, List.setIfInBounds_toArray, List.set_cons_zero, List.set_cons_succ]
          refine wpAnyS_pure (i := 12) (oi := { dst := some 64, op := .extract (.tmp 52) 0, type := _, pos := _, after := _, guard := none }) (v := .slice (some ⟨g, 0, none⟩) n n) rfl (by kernel_rfl) (by kernel_rfl) (by kernel_rfl) (by kernel_rfl) (fun _ _ _ h => h) (Or.inl ⟨by rfl, ?_⟩) hH (fun hH => ?_)
          · intro wS hSw
            go_simp
          simp only [Act.put, List.setIfInBounds_toArray, List.set_cons_zero, List.set_cons_succ]
          refine wpAnyS_pure (i := 13) (oi := { dst := some 65, op := .extract (.tmp 52) 1, type := _, pos := _, after := _, guard := none }) (v := .int .i64 0) rfl (by kernel_rfl) (by kernel_rfl) (by kernel_rfl) (by kernel_rfl) (fun _ _ _ h => h) (Or.inl ⟨by rfl, ?_⟩) hH (fun hH => ?_)
          · intro wS hSw
            go_simp
          simp only [Act.put, List.setIfInBounds_toArray, List.set_cons_zero, List.set_cons_succ]
          refine wpAnyS_pure (i := 14) (oi := { dst := some 66, op := .indexAddr 46 (.tmp 53) (.tmp 54), type := _, pos := _, after := _, guard := none }) (v := .pointer (some ⟨H, k, none⟩)) rfl (by kernel_rfl) (by kernel_rfl) (by kernel_rfl) (by kernel_rfl) (fun _ _ _ h => h) (Or.inl ⟨by rfl, ?_⟩) hH (fun hH => ?_)
          · intro wS hSw
            go_simp
          simp only [Act.put, List.setIfInBounds_toArray, List.set_cons_zero, List.set_cons_succ]
          refine wpAnyS_ready (rs := [15]) (by kernel_rfl) (by simp) ?_
          refine AllReadyS.cons (o := { dst := none, op := .store 32 (.tmp 66) (.tmp 64), type := _, pos := _, after := _, guard := none }) rfl (fun K hK => ?_) AllReadyS.nil
          rw [if_pos (by rfl)]
          refine wp_store_one 32 (.tmp 66) (.tmp 64) rfl H (k) (.slice (some ⟨g, 0, none⟩) n n) rfl rfl 32 _ (HAH.out.below hS1b) (by have := HHL.out; omega) (by kernel_rfl) rfl rfl ?_
          intro x2b hA2b hb2b hs2b
          refine hK.out _ _ (Hold.over (s := 15) (by decide) (by rfl)) (fun hH => ?_)
          clear hK K
          refine wpAnyS_done (by kernel_rfl) ?_ _

          have j1 := HB5.out.size
          have j2 := hS0b.size
          have j3 := hb1b.size
          have j4 := hb2b.size
          have j5 := HLy.out.tp
          have j6 := HLy.out.gt
          have j7 := HLy.out.bg
          have j8 := hg1b.out
          have j9 := hLp.out.tp
          have hb15 : Below wr.heap.size wr x1b := HB5.out.trans (hS1b.mono HB5.out.size)
          have hgH : g ≠ H := by omega
          have HLf : Hid (∃ (hs : List Value) (top : Nat), hs.length = m ∧ Lay wa.heap.size top x2b H n hs ((List.range (k + 1)).map (parL es n))) := by
            refine ⟨hs2.set k (.slice (some ⟨g, 0, none⟩) n n), x2b.heap.size, by rw [List.length_set]; exact HSL.out, ?_⟩
            rw [map_range_succ]
            refine Lay.snoc (top := top2) (g := g) (c := n) ⟨hA2b, j7, j6, by omega, fun i zs hz => ?_⟩ ?_ (Nat.le_refl _) ?_ ?_ (by omega) (Nat.le_refl _) hgH HLen.out (hW1b.out.but hb2b hgH)
            · obtain ⟨g1, c, h1, h2, h3, h4, h5, h6, h7⟩ := (HLy.out.below hb15).rows i zs hz
              have hi := (List.getElem?_eq_some_iff.1 hz).1
              rw [List.length_map, List.length_range] at hi
              exact ⟨g1, c, by rw [List.getElem?_set_ne (by omega)]; exact h1, h2, h3, h4, h5, h6, h7.but hb2b h5⟩
            · rw [List.length_map, List.length_range]; exact List.getElem?_set_self HHL.out
            · omega
            · have := hW1b.out.lt; omega
          have HLq : Hid (Lay w.heap.size top x2b G n hs ((List.range m).map (pstL ev n))) := (hLp.out.below hb15).but hb2b (by have := HL1.out.tp; omega)
          have HBf : Hid (Below wa.heap.size wa x2b) := hb2b.below (hB.out.trans (hb15.mono hB.out.size)) (by omega) (by have := hB.out.size; omega)
          clear hA2b hb1b hb2b hs2b hS0b hS1b e1 e2 e3 j1 j2 j3 j4 j5 j6 j7 j8 j9 hb15 hW1b hg1b s1 s2
          go_wp2_with fail
          go_roundw
          case rel => exact ⟨k + 1, by omega, by go_num, HLf.out, HLq.out, HBf.out⟩
          case measure => simp [intOf]; omega
        · obtain ⟨hs2, top2, hsl, hLy⟩ := hL.out
          have hkm : k = m := by omega
          rw [hkm] at hLy
          have HR : Hid (RowII wr (some ⟨H, 0, none⟩) ((List.range m).map (parL es n))) := hLy.row (by omega)
          have HBf : Hid (Below w.heap.size w wr) := HBa.out.trans (hB.out.mono HBa.out.size)
          clear hL hLy hLp hB
          go_wp2_with fail
          go_ret
          exact ⟨H, rfl, HR.out, HBf.out⟩
end Go.Proofs.Ytmkhobaclpiceaa
