/- Joined texts of the proof. -/
import Derived.Test.YtefklmckkigllaaJ15
import Derived.Deep.AppendLies
import Derived.Great.BuildSlice

/- Codes written over: numbers are turned in place; OverValues 29. -/
namespace Go.Proofs.Ytefklmckkigllaa
open Go.RowKit
set_option linter.unusedVariables false

/-- Blocks that w0 has not stand, from w to w'. -/
structure Out (n : Nat) (w w' : World) : Prop where
  size : w.heap.size ≤ w'.heap.size
  block : ∀ k, n ≤ k → k < w.heap.size → w'.heap[k]? = w.heap[k]?
theorem Out.refl (n : Nat) (w : World) : Out n w w := ⟨Nat.le_refl _, fun _ _ _ => rfl⟩
theorem Out.trans {n : Nat} {a b c : World} (h : Out n a b) (k : Out n b c) : Out n a c := ⟨Nat.le_trans h.size k.size, fun i h1 h2 => (k.block i h1 (Nat.lt_of_lt_of_le h2 h.size)).trans (h.block i h1 h2)⟩
theorem Out.of_below {n : Nat} {w w' : World} (h : Below w.heap.size w w') : Out n w w' := ⟨h.size, fun k _ hk => h.block k hk⟩
theorem Out.of_but {n g : Nat} {w w' : World} (h : But g w w') (hg : g < n) : Out n w w' := ⟨h.size, fun k h1 h2 => h.block k h2 (by omega)⟩
theorem Out.at {n : Nat} {t : TypeId} {k : Nat} {w w' : World} {cs : List Value} (h : Out n w w') (ha : At t w k cs) (hn : n ≤ k) : At t w' k cs := (h.block k hn ha.lt).trans ha

/-- From A on all stands as it was but for numbers; below A all stands. -/
structure Ov (A : Nat) (w0 w : World) : Prop where
  bel : Below A w0 w
  soft : ∀ g, Fr A w0 g → Soft w g
  cell : ∀ g o u, Fr A w0 g → w0.cell? ⟨g, o, none⟩ = some u → ∃ v, w.cell? ⟨g, o, none⟩ = some v ∧ (v = u ∨ ∃ k a b, u = .int k a ∧ v = .int k b)
theorem Ov.refl (A : Nat) (w : World) : Ov A w w := ⟨Below.refl _ _, fun _ f => f.2, fun _ _ u _ h => ⟨u, h, .inl rfl⟩⟩
theorem Ov.grow {A : Nat} {w0 w w' : World} (h : Ov A w0 w) (hb : Below w.heap.size w w') (hA : A ≤ w0.heap.size) : Ov A w0 w' :=
  ⟨h.bel.trans (hb.mono (Nat.le_trans hA h.bel.size)), fun g f => (h.soft g f).keep (hb.block g (h.soft g f).lt), fun g o u f hu => by
    obtain ⟨v, h1, h2⟩ := h.cell g o u f hu
    exact ⟨v, by rw [World.cell?_of_block (w := w) (hb.block g (h.soft g f).lt)]; exact h1, h2⟩⟩
section
variable {A : Nat} {w0 w : World} {g : Nat}
theorem Ov.slice (k : Ov A w0 w) (f : Fr A w0 g) {o : Nat} {a : Option Addr} {n c : Nat} (h : w0.cell? ⟨g, o, none⟩ = some (.slice a n c)) : w.cell? ⟨g, o, none⟩ = some (.slice a n c) := by
  obtain ⟨v, h1, rfl | ⟨_, _, _, h2, _⟩⟩ := k.cell g o _ f h
  · exact h1
  · cases h2
theorem Ov.int (k : Ov A w0 w) (f : Fr A w0 g) {o : Nat} {i : IntKind} {a : Int} (h : w0.cell? ⟨g, o, none⟩ = some (.int i a)) : ∃ b, w.cell? ⟨g, o, none⟩ = some (.int i b) := by
  obtain ⟨v, h1, rfl | ⟨_, _, b, h2, rfl⟩⟩ := k.cell g o _ f h
  · exact ⟨a, h1⟩
  · cases h2
    exact ⟨b, h1⟩
theorem Ov.set (k : Ov A w0 w) (f : Fr A w0 g) {o : Nat} {i : IntKind} {a b : Int} (hu : w0.cell? ⟨g, o, none⟩ = some (.int i a)) {t : TypeId} {cs : List Value} (hA : At t w g cs) {w' : World} (hA' : At t w' g (cs.set o (.int i b))) (hb : But g w w') : Ov A w0 w' := by
  have hl := hA.lt
  have f1 := f.1
  refine ⟨hb.below k.bel f.1 (by omega), fun g' f' => ?_, fun g' o' u' f' hu' => ?_⟩
  · by_cases e : g' = g
    · subst e
      exact ⟨t, _, hA'⟩
    · exact (k.soft g' f').keep (hb.block g' (k.soft g' f').lt e)
  · obtain ⟨v0, h1, h2⟩ := k.cell g' o' u' f' hu'
    by_cases e : g' = g
    · subst e
      rw [hA.cell] at h1
      have h3 := (List.getElem?_eq_some_iff.1 h1).1
      by_cases e2 : o' = o
      · subst e2
        rw [hu] at hu'
        cases hu'
        exact ⟨_, by rw [hA'.cell, List.getElem?_set_self h3], .inr ⟨i, a, b, rfl, rfl⟩⟩
      · refine ⟨v0, ?_, h2⟩
        rw [hA'.cell, List.getElem?_set_ne (by omega)]
        exact h1
    · refine ⟨v0, ?_, h2⟩
      rw [World.cell?_of_block (w := w) (hb.block g' (k.soft g' f').lt e)]
      exact h1
end
section
variable {P : Program} {o : Oper} {a : Act} {w w0 : World} {K : Act → World → Prop} {Q : Exit → Act → World → Prop}
/-- A number is stored in the place of one of its kind. -/
theorem wp_store_ov (ty : TypeId) (x y : Operand) (ho : o.op = .store ty x y) (g off : Nat) (i : IntKind) (n z : Int) (hx : a.eval x = .pointer (some ⟨g, off, none⟩)) (hy : a.eval y = .int i n)
    (A : Nat) (hov : Ov A w0 w) (f : Fr A w0 g) (hu : w0.cell? ⟨g, off, none⟩ = some (.int i z)) (hi : (P.info? ty).map (·.size) = some 1)
    (h : ∀ w', Ov A w0 w' → But g w w' → K (a.put o.dst undef) w') : o.wp P a w K Q := by
  obtain ⟨t, cs, hA⟩ := hov.soft g f
  obtain ⟨b, hb⟩ := hov.int f hu
  rw [hA.cell] at hb
  have hl := (List.getElem?_eq_some_iff.1 hb).1
  refine wp_store_one ty x y ho g off (.int i n) hx hy t cs hA hl hi rfl rfl ?_
  intro w' h1 h2 _
  exact h w' (hov.set f hu hA h1 h2) h2
theorem wpList_store_ov {ops : Array Oper} {rest : List Oper} (hgd : o.guard = none) (ty : TypeId) (x y : Operand) (ho : o.op = .store ty x y) (g off : Nat) (i : IntKind) (n z : Int) (hx : a.eval x = .pointer (some ⟨g, off, none⟩)) (hy : a.eval y = .int i n)
    (A : Nat) (hov : Ov A w0 w) (f : Fr A w0 g) (hu : w0.cell? ⟨g, off, none⟩ = some (.int i z)) (hi : (P.info? ty).map (·.size) = some 1)
    (h : ∀ w', Ov A w0 w' → But g w w' → wpList P ops Q rest (a.put o.dst undef) w') : wpList P ops Q (o :: rest) a w := by
  refine wpList_plain hgd fun K hK => ?_
  exact wp_store_ov ty x y ho g off i n z hx hy A hov f hu hi fun w' h1 h2 => hK _ _ (h w' h1 h2)
end
set_option maxRecDepth 100000 in
set_option maxHeartbeats 3200000 in
theorem overV_any (A B : Nat) (w0 : World) (xs : List Vl) (a : Option Addr) (c : Nat) (w : World) (hrow : RowVl B w0 a c xs) (hat : RowL (Fr A w0) a xs) (hov : Ov A w0 w) :
    Calls Try.prog 29 #[.slice a xs.length c] w fun r w' => r = .returned (.tuple #[]) ∧ Ov A w0 w' ∧ Out w0.heap.size w w' := by
  obtain ⟨n, hn⟩ : ∃ n, Hid (n = xs.length) := ⟨_, (rfl : xs.length = _)⟩
  have hl := hrow.1
  rw [← hn.out] at hl ⊢
  have HR : Hid (RowVl B w0 a c xs) := hrow
  have HT : Hid (RowL (Fr A w0) a xs) := hat
  have HV : Hid (Ov A w0 w) := hov
  clear hrow hat hov
  go_enter Try.func29, Try.ntmps29
  go_wp2_with fail
  go_loopw [2] (fun j wr => ∃ i : Nat, j = .int .i64 (i : Int) ∧ i ≤ n ∧ Hid (Ov A w0 wr ∧ Out w0.heap.size w wr)) (fun j _ => n - (intOf j).toNat)
  case atStart => exact ⟨0, rfl, Nat.zero_le _, HV.out, Out.refl _ _⟩
  case round =>
    obtain ⟨i, rfl, hi, HV2⟩ := hrel
    clear HV
    by_cases hc : i < n
    · obtain ⟨x, hx⟩ : ∃ k, xs[i]? = some k := ⟨xs[i]'(by rw [← hn.out]; exact hc), by rw [List.getElem?_eq_getElem]⟩
      obtain ⟨g1, o1, rfl, -, hr1, -⟩ := HR.out.at i x hx
      have hm := List.mem_of_getElem? hx
      have hg1 : Fr A w0 g1 := by
        rcases HT.out with q | ⟨g', o', e', q⟩
        · rw [q] at hm; cases hm
        · cases e'; exact q
      have hu : w0.cell? ⟨g1, o1 + i * 2 + 1, none⟩ = some (.int .u64 (x.b : Int)) := hr1 1 _ rfl
      obtain ⟨b, r0⟩ := HV2.out.1.int hg1 hu
      have HC : Hid (w0.cell? ⟨g1, o1 + i * 2 + 1, none⟩ = some (.int .u64 (x.b : Int)) ∧ Fr A w0 g1) := ⟨hu, hg1⟩
      clear hx hm hr1 hg1 HR HT hu
      go_wp2_with (first
        | ((with_reducible show wpList _ _ _ _ _ _); refine wpList_store_ov (P := Try.prog) rfl 33 (.tmp 18) (.tmp 16) rfl g1 (o1 + i * 2 + 1) .u64 _ _ (by first | rfl | (simp; done)) rfl A HV2.out.1 HC.out.2 HC.out.1 (by kernel_rfl) ?_; intro w2 hv2 hb2; refine Hid.out ?_))
      refine hidU ?_
      have HV3 : Hid (Ov A w0 w2 ∧ Out w0.heap.size w w2) := ⟨hv2, HV2.out.2.trans (Out.of_but hb2 HC.out.2.2.lt)⟩
      clear hv2 hb2 r0 HV2
      go_wp2_with fail
      go_roundw
      case rel => exact ⟨i + 1, by go_num, by omega, HV3.out⟩
      case measure => simp [intOf]; omega
    · clear HR HT
      go_wp2_with fail
      go_end0
      exact ⟨rfl, HV2.out⟩
end Go.Proofs.Ytefklmckkigllaa

/- Codes written over: OverCode 11. -/
namespace Go.Proofs.Ytefklmckkigllaa
open Go.RowKit
set_option linter.unusedVariables false

theorem RowL.at {α : Type} {S : Nat → Prop} {g o : Nat} {ks : List α} (h : RowL S (some ⟨g, o, none⟩) ks) {i : Nat} {k : α} (hk : ks[i]? = some k) : S g := by
  rcases h with q | ⟨g', o', e, q⟩
  · rw [q] at hk; simp at hk
  · cases e; exact q
set_option maxRecDepth 100000 in
set_option maxHeartbeats 12800000 in
theorem overC_any (A B : Nat) (w0 : World) (x : CT) (w : World) (hx : x.In B w0) (hli : x.Lies (Fr A w0)) (hov : Ov A w0 w) (hA : A ≤ w0.heap.size) :
    Calls Try.prog 11 #[.agg x.cells.toArray] w fun r w' => r = .returned (.tuple #[]) ∧ Ov A w0 w' ∧ Out w0.heap.size w w' := by
  obtain ⟨a, c, ls, m, d, f, bs⟩ := x
  simp only [CT.cells]
  have hsz := hov.bel.size
  obtain ⟨nl, hnl⟩ : ∃ q, Hid (q = ls.length) := ⟨_, (rfl : ls.length = _)⟩
  obtain ⟨n, hn⟩ : ∃ q, Hid (q = bs.length) := ⟨_, (rfl : bs.length = _)⟩
  have Q29 : Hid (∀ u, Ov A w0 u → Calls Try.prog 29 #[.slice a nl c] u fun r w' => r = .returned (.tuple #[]) ∧ Ov A w0 w' ∧ Out w0.heap.size u w') := fun u hu => by
    rw [hnl.out]
    exact overV_any A B w0 ls a c u hx.1 hli.1 hu
  have hln : n ≤ 1048576 := by rw [hn.out]; exact hx.2.2.1
  have HR : Hid (RowBT B w0 d f bs ∧ RowL (Fr A w0) d bs ∧ ∀ y ∈ bs, y.Lies (Fr A w0)) := ⟨hx.2.2, hli.2⟩
  have HV : Hid (Ov A w0 w) := hov
  rw [← hnl.out, ← hn.out]
  clear hx hli hov
  go_enter Try.func11, Try.ntmps11
  go_wp2_with (first
    | ((with_reducible show wpList _ _ _ _ _ _); refine wpList_box_at rfl 25 (.tmp 0) rfl [.slice a nl c, .int .i64 m, .slice d n f] rfl ?_; intro w1 hA1 hb1 hs1; clear hs1; refine Hid.out ?_))
  refine hidU ?_
  have k0 : w1.cell? ⟨w.heap.size, 0, none⟩ = some (.slice a nl c) := by rw [hA1.cell]; rfl
  have HA : Hid (At 25 w1 w.heap.size [.slice a nl c, .int .i64 m, .slice d n f]) := hA1
  have C1 := Q29.out w1 (HV.out.grow hb1 hA)
  have HB : Hid (Out w0.heap.size w w1) := Out.of_below hb1
  clear hA1 hb1 HV
  go_wp2_with (go_at_call 29; refine C1.mono ?_; rintro e w2 ⟨rfl, hv2, ho2⟩; refine Hid.out ?_)
  refine hidU ?_
  have HV2 : Hid (Ov A w0 w2 ∧ Out w0.heap.size w1 w2) := ⟨hv2, ho2⟩
  clear hv2 ho2 C1 k0 Q29
  go_wp2_with fail
  go_loopw [2] (fun j wr => ∃ i : Nat, j = .int .i64 (i : Int) ∧ i ≤ n ∧ Hid (Ov A w0 wr ∧ Out w0.heap.size w1 wr)) (fun j _ => n - (intOf j).toNat)
  case atStart => exact ⟨0, rfl, Nat.zero_le _, HV2.out⟩
  case round =>
    obtain ⟨i, rfl, hi, HVr⟩ := hrel
    clear HV2
    have t2 : wr.cell? ⟨w.heap.size, 2, none⟩ = some (.slice d n f) := by rw [(HVr.out.2.at HA.out hsz).cell]; rfl
    by_cases hc : i < n
    · obtain ⟨x, hx⟩ : ∃ k, bs[i]? = some k := ⟨bs[i]'(by rw [← hn.out]; exact hc), by rw [List.getElem?_eq_getElem]⟩
      obtain ⟨g1, o1, rfl, -, hr1, hxi⟩ := HR.out.1.at i x hx
      have hF1 : Fr A w0 g1 := HR.out.2.1.at hx
      have hxl := HR.out.2.2 x (List.mem_of_getElem? hx)
      obtain ⟨p, pc, vs, s, e, ec, ns⟩ := x
      obtain ⟨lv, hlv⟩ : ∃ q, Hid (q = vs.length) := ⟨_, (rfl : vs.length = _)⟩
      obtain ⟨m', hm'⟩ : ∃ q, Hid (q = ns.length) := ⟨_, (rfl : ns.length = _)⟩
      have z0 : w0.cell? ⟨g1, o1 + i * 3, none⟩ = some (.slice p lv pc) := by have := hr1 0 _ rfl; rw [hlv.out]; exact this
      have z1 : w0.cell? ⟨g1, o1 + i * 3 + 1, none⟩ = some (.int .i64 s) := hr1 1 _ rfl
      have z2 : w0.cell? ⟨g1, o1 + i * 3 + 2, none⟩ = some (.slice e m' ec) := by have := hr1 2 _ rfl; rw [hm'.out]; exact this
      have HX : Hid (Fr A w0 g1 ∧ w0.cell? ⟨g1, o1 + i * 3, none⟩ = some (.slice p lv pc) ∧ w0.cell? ⟨g1, o1 + i * 3 + 1, none⟩ = some (.int .i64 s) ∧ w0.cell? ⟨g1, o1 + i * 3 + 2, none⟩ = some (.slice e m' ec)) := ⟨hF1, z0, z1, z2⟩
      have C5 : Calls Try.prog 29 #[.slice p lv pc] wr fun r w' => r = .returned (.tuple #[]) ∧ Ov A w0 w' ∧ Out w0.heap.size wr w' := by
        rw [hlv.out]
        exact overV_any A B w0 vs p pc wr hxi.1 hxl.1 HVr.out.1
      have p0 := HVr.out.1.slice hF1 z0
      have HN : Hid (RowNT B w0 e ec ns ∧ RowL (Fr A w0) e ns ∧ ∀ y ∈ ns, y.Lies (Fr A w0)) := ⟨hxi.2.2, hxl.2⟩
      have hlm : m' ≤ 1048576 := by rw [hm'.out]; exact hxi.2.2.1
      clear hx hxi hxl hr1 hF1 z0 z1 z2
      go_wp2_with (go_at_call 29; refine C5.mono ?_; rintro e' w3 ⟨rfl, hv3, ho3⟩; refine Hid.out ?_)
      refine hidU ?_
      have HV3 : Hid (Ov A w0 w3 ∧ Out w0.heap.size w1 w3) := ⟨hv3, HVr.out.2.trans ho3⟩
      clear hv3 ho3 C5 p0 t2 HVr
      have t2 : w3.cell? ⟨w.heap.size, 2, none⟩ = some (.slice (some ⟨g1, o1, none⟩) n f) := by rw [(HV3.out.2.at HA.out hsz).cell]; rfl
      obtain ⟨b1, q1⟩ := HV3.out.1.int HX.out.1 HX.out.2.2.1
      go_wp2_with fail
      have hS0d : Below w3.heap.size w3 w3.drew := Below.drew (Below.refl _ _)
      refine wp_region_S (S := fun x => Below w3.heap.size w3 x) (St := [12]) (by kernel_rfl) hS0d ?_
      obtain ⟨x0d, hx0⟩ : ∃ x, x = w3.drew := ⟨_, rfl⟩
      rw [← hx0] at hS0d ⊢
      clear hx0
      intro hH
      refine wpAnyS_pure (i := 0) (oi := { dst := some 23, op := .fieldAddr 25 (.tmp 1) 2, type := _, pos := _, after := _, guard := none }) (v := .pointer (some ⟨w.heap.size, 2, none⟩)) rfl (by kernel_rfl) (by kernel_rfl) (by kernel_rfl) (by kernel_rfl) (fun _ _ _ h => h) (Or.inl ⟨by rfl, ?_⟩) hH (fun hH => ?_)
      · intro wS hSw
        go_simp
      simp only [Act.put, List.setIfInBounds_toArray, List.set_cons_zero, List.set_cons_succ]
      refine wpAnyS_take [10, 11, 12] (i := 1) (oi := { dst := some 24, op := .load 23 (.tmp 23), type := _, pos := _, after := _, guard := none }) (v := .slice (some ⟨g1, o1, none⟩) n f) rfl (by kernel_rfl) (by kernel_rfl) (by kernel_rfl) (by kernel_rfl) (by kernel_rfl) (by kernel_rfl) (by kernel_rfl) (fun _ _ _ h => h) (Or.inl ⟨by rfl, ?_⟩) hH (fun hH => ?_)
      · intro wS hSw
        have z0 := (hSw.cell (lt_of_cell t2)).trans t2
        go_simp
      simp only [Act.put, List.setIfInBounds_toArray, List.set_cons_zero, List.set_cons_succ]
      refine wpAnyS_pure (i := 2) (oi := { dst := some 25, op := .move (.tmp 2), type := _, pos := _, after := _, guard := none }) (v := .int .i64 (i : Int)) rfl (by kernel_rfl) (by kernel_rfl) (by kernel_rfl) (by kernel_rfl) (fun _ _ _ h => h) (Or.inl ⟨by rfl, ?_⟩) hH (fun hH => ?_)
      · intro wS hSw
        go_simp
      simp only [Act.put, List.setIfInBounds_toArray, List.set_cons_zero, List.set_cons_succ]
      refine wpAnyS_pure (i := 3) (oi := { dst := some 26, op := .fieldAddr 25 (.tmp 1) 2, type := _, pos := _, after := _, guard := none }) (v := .pointer (some ⟨w.heap.size, 2, none⟩)) rfl (by kernel_rfl) (by kernel_rfl) (by kernel_rfl) (by kernel_rfl) (fun _ _ _ h => h) (Or.inl ⟨by rfl, ?_⟩) hH (fun hH => ?_)
      · intro wS hSw
        go_simp
      simp only [Act.put, List.setIfInBounds_toArray, List.set_cons_zero, List.set_cons_succ]
      refine wpAnyS_take [6, 7, 8, 9, 10, 11, 12] (i := 4) (oi := { dst := some 27, op := .load 23 (.tmp 26), type := _, pos := _, after := _, guard := none }) (v := .slice (some ⟨g1, o1, none⟩) n f) rfl (by kernel_rfl) (by kernel_rfl) (by kernel_rfl) (by kernel_rfl) (by kernel_rfl) (by kernel_rfl) (by kernel_rfl) (fun _ _ _ h => h) (Or.inl ⟨by rfl, ?_⟩) hH (fun hH => ?_)
      · intro wS hSw
        have z0 := (hSw.cell (lt_of_cell t2)).trans t2
        go_simp
      simp only [Act.put, List.setIfInBounds_toArray, List.set_cons_zero, List.set_cons_succ]
      refine wpAnyS_pure (i := 5) (oi := { dst := some 28, op := .move (.tmp 2), type := _, pos := _, after := _, guard := none }) (v := .int .i64 (i : Int)) rfl (by kernel_rfl) (by kernel_rfl) (by kernel_rfl) (by kernel_rfl) (fun _ _ _ h => h) (Or.inl ⟨by rfl, ?_⟩) hH (fun hH => ?_)
      · intro wS hSw
        go_simp
      simp only [Act.put, List.setIfInBounds_toArray, List.set_cons_zero, List.set_cons_succ]
      refine wpAnyS_pure (i := 6) (oi := { dst := some 29, op := .indexAddr 23 (.tmp 27) (.tmp 28), type := _, pos := _, after := _, guard := none }) (v := .pointer (some ⟨g1, o1 + i * 3, none⟩)) rfl (by kernel_rfl) (by kernel_rfl) (by kernel_rfl) (by kernel_rfl) (fun _ _ _ h => h) (Or.inl ⟨by rfl, ?_⟩) hH (fun hH => ?_)
      · intro wS hSw
        go_simp
      simp only [Act.put, List.setIfInBounds_toArray, List.set_cons_zero, List.set_cons_succ]
      refine wpAnyS_pure (i := 7) (oi := { dst := some 30, op := .fieldAddr 45 (.tmp 29) 1, type := _, pos := _, after := _, guard := none }) (v := .pointer (some ⟨g1, o1 + i * 3 + 1, none⟩)) rfl (by kernel_rfl) (by kernel_rfl) (by kernel_rfl) (by kernel_rfl) (fun _ _ _ h => h) (Or.inl ⟨by rfl, ?_⟩) hH (fun hH => ?_)
      · intro wS hSw
        go_simp
      simp only [Act.put, List.setIfInBounds_toArray, List.set_cons_zero, List.set_cons_succ]
      refine wpAnyS_take [9, 10, 11, 12] (i := 8) (oi := { dst := some 31, op := .load 3 (.tmp 30), type := _, pos := _, after := _, guard := none }) (v := .int .i64 b1) rfl (by kernel_rfl) (by kernel_rfl) (by kernel_rfl) (by kernel_rfl) (by kernel_rfl) (by kernel_rfl) (by kernel_rfl) (fun _ _ _ h => h) (Or.inl ⟨by rfl, ?_⟩) hH (fun hH => ?_)
      · intro wS hSw
        have z0 := (hSw.cell (lt_of_cell q1)).trans q1
        go_simp
      simp only [Act.put, List.setIfInBounds_toArray, List.set_cons_zero, List.set_cons_succ]
      refine wpAnyS_pure (i := 9) (oi := { dst := some 32, op := .binOp .xor 3 (.tmp 31) (.const (.int .i64 1)) 3, type := _, pos := _, after := _, guard := none }) (v := .int .i64 (bits .xor .i64 b1 1)) rfl (by kernel_rfl) (by kernel_rfl) (by kernel_rfl) (by kernel_rfl) (fun _ _ _ h => h) (Or.inl ⟨by rfl, ?_⟩) hH (fun hH => ?_)
      · intro wS hSw
        go_simp
      simp only [Act.put, List.setIfInBounds_toArray, List.set_cons_zero, List.set_cons_succ]
      refine wpAnyS_pure (i := 10) (oi := { dst := some 33, op := .indexAddr 23 (.tmp 24) (.tmp 25), type := _, pos := _, after := _, guard := none }) (v := .pointer (some ⟨g1, o1 + i * 3, none⟩)) rfl (by kernel_rfl) (by kernel_rfl) (by kernel_rfl) (by kernel_rfl) (fun _ _ _ h => h) (Or.inl ⟨by rfl, ?_⟩) hH (fun hH => ?_)
      · intro wS hSw
        go_simp
      simp only [Act.put, List.setIfInBounds_toArray, List.set_cons_zero, List.set_cons_succ]
      refine wpAnyS_pure (i := 11) (oi := { dst := some 34, op := .fieldAddr 45 (.tmp 33) 1, type := _, pos := _, after := _, guard := none }) (v := .pointer (some ⟨g1, o1 + i * 3 + 1, none⟩)) rfl (by kernel_rfl) (by kernel_rfl) (by kernel_rfl) (by kernel_rfl) (fun _ _ _ h => h) (Or.inl ⟨by rfl, ?_⟩) hH (fun hH => ?_)
      · intro wS hSw
        go_simp
      simp only [Act.put, List.setIfInBounds_toArray, List.set_cons_zero, List.set_cons_succ]
      refine wpAnyS_ready (rs := [12]) (by kernel_rfl) (by simp) ?_
      refine AllReadyS.cons (o := { dst := none, op := .store 3 (.tmp 34) (.tmp 32), type := _, pos := _, after := _, guard := none }) rfl (fun K hK => ?_) AllReadyS.nil
      rw [if_pos (by rfl)]
      refine wp_store_ov 3 (.tmp 34) (.tmp 32) rfl g1 (o1 + i * 3 + 1) .i64 _ _ rfl rfl A (HV3.out.1.grow hS0d hA) HX.out.1 HX.out.2.2.1 (by kernel_rfl) ?_
      intro x1d hv1d hb1d
      refine hK.out _ _ (Hold.over (s := 12) (by decide) (by rfl)) (fun hH => ?_)
      clear hK K
      refine wpAnyS_done (by kernel_rfl) ?_ _
      have HV4 : Hid (Ov A w0 x1d ∧ Out w0.heap.size w1 x1d) := ⟨hv1d, HV3.out.2.trans ((Out.of_below hS0d).trans (Out.of_but hb1d HX.out.1.2.lt))⟩
      clear hv1d hb1d hS0d HV3 t2 q1
      obtain ⟨wo, hwo⟩ : ∃ x, x = wr := ⟨_, rfl⟩
      subst hwo
      go_wp2_with fail
      go_loopw [3] (fun j wr => ∃ k : Nat, j = .int .i64 (k : Int) ∧ k ≤ m' ∧ Hid (Ov A w0 wr ∧ Out w0.heap.size w1 wr)) (fun j _ => m' - (intOf j).toNat)
      case atStart => exact ⟨0, rfl, Nat.zero_le _, HV4.out⟩
      case round =>
        obtain ⟨k, rfl, hk, HVz⟩ := hrel
        obtain ⟨wz, hwz⟩ : ∃ x, x = wr := ⟨_, rfl⟩
        subst hwz
        clear HV4
        have t2 : wz.cell? ⟨w.heap.size, 2, none⟩ = some (.slice (some ⟨g1, o1, none⟩) n f) := by rw [(HVz.out.2.at HA.out hsz).cell]; rfl
        have q2 := HVz.out.1.slice HX.out.1 HX.out.2.2.2
        by_cases hck : k < m'
        · obtain ⟨z, hz⟩ : ∃ q, ns[k]? = some q := ⟨ns[k]'(by rw [← hm'.out]; exact hck), by rw [List.getElem?_eq_getElem]⟩
          obtain ⟨g2, o2, rfl, -, hr2, hzi⟩ := HN.out.1.at k z hz
          have hF2 : Fr A w0 g2 := HN.out.2.1.at hz
          have hzl := HN.out.2.2 z (List.mem_of_getElem? hz)
          obtain ⟨za, zc, ⟨zs, z1', z2', z3', z4'⟩⟩ := z
          obtain ⟨lz, hlz⟩ : ∃ q, Hid (q = zs.length) := ⟨_, (rfl : zs.length = _)⟩
          have y0 : w0.cell? ⟨g2, o2 + k * 5, none⟩ = some (.slice za lz zc) := by have := hr2 0 _ rfl; rw [hlz.out]; exact this
          have y1 : w0.cell? ⟨g2, o2 + k * 5 + 1, none⟩ = some (.int .i64 z1') := hr2 1 _ rfl
          have y3 : w0.cell? ⟨g2, o2 + k * 5 + 3, none⟩ = some (.int .i64 z3') := hr2 3 _ rfl
          have HZ : Hid (Fr A w0 g2 ∧ w0.cell? ⟨g2, o2 + k * 5, none⟩ = some (.slice za lz zc) ∧ w0.cell? ⟨g2, o2 + k * 5 + 1, none⟩ = some (.int .i64 z1') ∧ w0.cell? ⟨g2, o2 + k * 5 + 3, none⟩ = some (.int .i64 z3')) := ⟨hF2, y0, y1, y3⟩
          have HI : Hid (RowIr B w0 za zc zs ∧ RowL (Fr A w0) za zs) := ⟨hzi.1, hzl⟩
          have hlz' : lz ≤ 1048576 := by rw [hlz.out]; exact hzi.1.1
          obtain ⟨b2, r1⟩ := HVz.out.1.int hF2 y1
          clear hz hzi hzl hr2 hF2 y0 y1 y3
          go_wp2_with (first
            | ((with_reducible show wpList _ _ _ _ _ _); refine wpList_store_ov (P := Try.prog) rfl 3 (.tmp 61) (.tmp 59) rfl g2 (o2 + k * 5 + 1) .i64 _ _ (by first | rfl | (simp; done)) rfl A HVz.out.1 HZ.out.1 HZ.out.2.2.1 (by kernel_rfl) ?_; intro w4 hv4 hb4; refine Hid.out ?_))
          refine hidU ?_
          have HV4 : Hid (Ov A w0 w4 ∧ Out w0.heap.size w1 w4) := ⟨hv4, HVz.out.2.trans (Out.of_but hb4 HZ.out.1.2.lt)⟩
          obtain ⟨b3, r3⟩ := HV4.out.1.int HZ.out.1 HZ.out.2.2.2
          clear hv4 hb4 HVz t2 q2 r1
          go_wp2_with (first
            | ((with_reducible show wpList _ _ _ _ _ _); refine wpList_store_ov (P := Try.prog) rfl 3 (.tmp 69) (.tmp 67) rfl g2 (o2 + k * 5 + 3) .i64 _ _ (by first | rfl | (simp; done)) rfl A HV4.out.1 HZ.out.1 HZ.out.2.2.2 (by kernel_rfl) ?_; intro w5 hv5 hb5; refine Hid.out ?_))
          refine hidU ?_
          have HV5 : Hid (Ov A w0 w5 ∧ Out w0.heap.size w1 w5) := ⟨hv5, HV4.out.2.trans (Out.of_but hb5 HZ.out.1.2.lt)⟩
          clear hv5 hb5 HV4 r3
          go_wp2_with fail
          go_loopw [5] (fun j wr => ∃ q : Nat, j = .int .i64 (q : Int) ∧ q ≤ lz ∧ Hid (Ov A w0 wr ∧ Out w0.heap.size w1 wr)) (fun j _ => lz - (intOf j).toNat)
          case atStart => exact ⟨0, rfl, Nat.zero_le _, HV5.out⟩
          case round =>
            obtain ⟨j, rfl, hj, HV6⟩ := hrel
            obtain ⟨wy, hwy⟩ : ∃ x, x = wr := ⟨_, rfl⟩
            subst hwy
            clear HV5
            have c0 := HV6.out.1.slice HZ.out.1 HZ.out.2.1
            by_cases hcj : j < lz
            · obtain ⟨y, hy⟩ : ∃ q, zs[j]? = some q := ⟨zs[j]'(by rw [← hlz.out]; exact hcj), by rw [List.getElem?_eq_getElem]⟩
              obtain ⟨g3, o3, rfl, -, hr3, -⟩ := HI.out.1.at j y hy
              have hF3 : Fr A w0 g3 := HI.out.2.at hy
              have y0 : w0.cell? ⟨g3, o3 + j * 4, none⟩ = some (.int .u8 (y.op : Int)) := by have := hr3 0 _ rfl; exact this
              have HY : Hid (Fr A w0 g3 ∧ w0.cell? ⟨g3, o3 + j * 4, none⟩ = some (.int .u8 (y.op : Int))) := ⟨hF3, y0⟩
              obtain ⟨b4, c1⟩ := HV6.out.1.int hF3 y0
              clear hy hr3 hF3 y0
              go_wp2_with fail
              have hS0e : Below wy.heap.size wy wy.drew := Below.drew (Below.refl _ _)
              refine wp_region_S (S := fun x => Below wy.heap.size wy x) (St := [16]) (by kernel_rfl) hS0e ?_
              obtain ⟨x0e, hx0⟩ : ∃ x, x = wy.drew := ⟨_, rfl⟩
              rw [← hx0] at hS0e ⊢
              clear hx0
              intro hH
              refine wpAnyS_pure (i := 0) (oi := { dst := some 79, op := .move (.tmp 4), type := _, pos := _, after := _, guard := none }) (v := .pointer (some ⟨g2, o2 + k * 5, none⟩)) rfl (by kernel_rfl) (by kernel_rfl) (by kernel_rfl) (by kernel_rfl) (fun _ _ _ h => h) (Or.inl ⟨by rfl, ?_⟩) hH (fun hH => ?_)
              · intro wS hSw
                go_simp
              simp only [Act.put, List.setIfInBounds_toArray, List.set_cons_zero, List.set_cons_succ]
              refine wpAnyS_pure (i := 1) (oi := { dst := some 80, op := .nilCheck (.tmp 79), type := _, pos := _, after := _, guard := none }) (v := .pointer (some ⟨g2, o2 + k * 5, none⟩)) rfl (by kernel_rfl) (by kernel_rfl) (by kernel_rfl) (by kernel_rfl) (fun _ _ _ h => h) (Or.inl ⟨by rfl, ?_⟩) hH (fun hH => ?_)
              · intro wS hSw
                go_simp
              simp only [Act.put, List.setIfInBounds_toArray, List.set_cons_zero, List.set_cons_succ]
              refine wpAnyS_pure (i := 2) (oi := { dst := some 81, op := .fieldAddr 49 (.tmp 80) 0, type := _, pos := _, after := _, guard := none }) (v := .pointer (some ⟨g2, o2 + k * 5, none⟩)) rfl (by kernel_rfl) (by kernel_rfl) (by kernel_rfl) (by kernel_rfl) (fun _ _ _ h => h) (Or.inl ⟨by rfl, ?_⟩) hH (fun hH => ?_)
              · intro wS hSw
                go_simp
              simp only [Act.put, List.setIfInBounds_toArray, List.set_cons_zero, List.set_cons_succ]
              refine wpAnyS_take [14, 15, 16] (i := 3) (oi := { dst := some 82, op := .load 38 (.tmp 81), type := _, pos := _, after := _, guard := none }) (v := .slice (some ⟨g3, o3, none⟩) lz zc) rfl (by kernel_rfl) (by kernel_rfl) (by kernel_rfl) (by kernel_rfl) (by kernel_rfl) (by kernel_rfl) (by kernel_rfl) (fun _ _ _ h => h) (Or.inl ⟨by rfl, ?_⟩) hH (fun hH => ?_)
              · intro wS hSw
                have z0 := (hSw.cell (lt_of_cell c0)).trans c0
                go_simp
              simp only [Act.put, List.setIfInBounds_toArray, List.set_cons_zero, List.set_cons_succ]
              refine wpAnyS_pure (i := 4) (oi := { dst := some 83, op := .move (.tmp 5), type := _, pos := _, after := _, guard := none }) (v := .int .i64 (j : Int)) rfl (by kernel_rfl) (by kernel_rfl) (by kernel_rfl) (by kernel_rfl) (fun _ _ _ h => h) (Or.inl ⟨by rfl, ?_⟩) hH (fun hH => ?_)
              · intro wS hSw
                go_simp
              simp only [Act.put, List.setIfInBounds_toArray, List.set_cons_zero, List.set_cons_succ]
              refine wpAnyS_pure (i := 5) (oi := { dst := some 84, op := .move (.tmp 4), type := _, pos := _, after := _, guard := none }) (v := .pointer (some ⟨g2, o2 + k * 5, none⟩)) rfl (by kernel_rfl) (by kernel_rfl) (by kernel_rfl) (by kernel_rfl) (fun _ _ _ h => h) (Or.inl ⟨by rfl, ?_⟩) hH (fun hH => ?_)
              · intro wS hSw
                go_simp
              simp only [Act.put, List.setIfInBounds_toArray, List.set_cons_zero, List.set_cons_succ]
              refine wpAnyS_pure (i := 6) (oi := { dst := some 85, op := .nilCheck (.tmp 84), type := _, pos := _, after := _, guard := none }) (v := .pointer (some ⟨g2, o2 + k * 5, none⟩)) rfl (by kernel_rfl) (by kernel_rfl) (by kernel_rfl) (by kernel_rfl) (fun _ _ _ h => h) (Or.inl ⟨by rfl, ?_⟩) hH (fun hH => ?_)
              · intro wS hSw
                go_simp
              simp only [Act.put, List.setIfInBounds_toArray, List.set_cons_zero, List.set_cons_succ]
              refine wpAnyS_pure (i := 7) (oi := { dst := some 86, op := .fieldAddr 49 (.tmp 85) 0, type := _, pos := _, after := _, guard := none }) (v := .pointer (some ⟨g2, o2 + k * 5, none⟩)) rfl (by kernel_rfl) (by kernel_rfl) (by kernel_rfl) (by kernel_rfl) (fun _ _ _ h => h) (Or.inl ⟨by rfl, ?_⟩) hH (fun hH => ?_)
              · intro wS hSw
                go_simp
              simp only [Act.put, List.setIfInBounds_toArray, List.set_cons_zero, List.set_cons_succ]
              refine wpAnyS_take [10, 11, 12, 13, 14, 15, 16] (i := 8) (oi := { dst := some 87, op := .load 38 (.tmp 86), type := _, pos := _, after := _, guard := none }) (v := .slice (some ⟨g3, o3, none⟩) lz zc) rfl (by kernel_rfl) (by kernel_rfl) (by kernel_rfl) (by kernel_rfl) (by kernel_rfl) (by kernel_rfl) (by kernel_rfl) (fun _ _ _ h => h) (Or.inl ⟨by rfl, ?_⟩) hH (fun hH => ?_)
              · intro wS hSw
                have z0 := (hSw.cell (lt_of_cell c0)).trans c0
                go_simp
              simp only [Act.put, List.setIfInBounds_toArray, List.set_cons_zero, List.set_cons_succ]
              refine wpAnyS_pure (i := 9) (oi := { dst := some 88, op := .move (.tmp 5), type := _, pos := _, after := _, guard := none }) (v := .int .i64 (j : Int)) rfl (by kernel_rfl) (by kernel_rfl) (by kernel_rfl) (by kernel_rfl) (fun _ _ _ h => h) (Or.inl ⟨by rfl, ?_⟩) hH (fun hH => ?_)
              · intro wS hSw
                go_simp
              simp only [Act.put, List.setIfInBounds_toArray, List.set_cons_zero, List.set_cons_succ]
              refine wpAnyS_pure (i := 10) (oi := { dst := some 89, op := .indexAddr 38 (.tmp 87) (.tmp 88), type := _, pos := _, after := _, guard := none }) (v := .pointer (some ⟨g3, o3 + j * 4, none⟩)) rfl (by kernel_rfl) (by kernel_rfl) (by kernel_rfl) (by kernel_rfl) (fun _ _ _ h => h) (Or.inl ⟨by rfl, ?_⟩) hH (fun hH => ?_)
              · intro wS hSw
                go_simp
              simp only [Act.put, List.setIfInBounds_toArray, List.set_cons_zero, List.set_cons_succ]
              refine wpAnyS_pure (i := 11) (oi := { dst := some 90, op := .fieldAddr 37 (.tmp 89) 0, type := _, pos := _, after := _, guard := none }) (v := .pointer (some ⟨g3, o3 + j * 4, none⟩)) rfl (by kernel_rfl) (by kernel_rfl) (by kernel_rfl) (by kernel_rfl) (fun _ _ _ h => h) (Or.inl ⟨by rfl, ?_⟩) hH (fun hH => ?_)
              · intro wS hSw
                go_simp
              simp only [Act.put, List.setIfInBounds_toArray, List.set_cons_zero, List.set_cons_succ]
              refine wpAnyS_take [13, 14, 15, 16] (i := 12) (oi := { dst := some 91, op := .load 31 (.tmp 90), type := _, pos := _, after := _, guard := none }) (v := .int .u8 b4) rfl (by kernel_rfl) (by kernel_rfl) (by kernel_rfl) (by kernel_rfl) (by kernel_rfl) (by kernel_rfl) (by kernel_rfl) (fun _ _ _ h => h) (Or.inl ⟨by rfl, ?_⟩) hH (fun hH => ?_)
              · intro wS hSw
                have z0 := (hSw.cell (lt_of_cell c1)).trans c1
                go_simp
              simp only [Act.put, List.setIfInBounds_toArray, List.set_cons_zero, List.set_cons_succ]
              refine wpAnyS_pure (i := 13) (oi := { dst := some 92, op := .binOp .xor 31 (.tmp 91) (.const (.int .u8 1)) 31, type := _, pos := _, after := _, guard := none }) (v := .int .u8 (bits .xor .u8 b4 1)) rfl (by kernel_rfl) (by kernel_rfl) (by kernel_rfl) (by kernel_rfl) (fun _ _ _ h => h) (Or.inl ⟨by rfl, ?_⟩) hH (fun hH => ?_)
              · intro wS hSw
                go_simp
              simp only [Act.put, List.setIfInBounds_toArray, List.set_cons_zero, List.set_cons_succ]
              refine wpAnyS_pure (i := 14) (oi := { dst := some 93, op := .indexAddr 38 (.tmp 82) (.tmp 83), type := _, pos := _, after := _, guard := none }) (v := .pointer (some ⟨g3, o3 + j * 4, none⟩)) rfl (by kernel_rfl) (by kernel_rfl) (by kernel_rfl) (by kernel_rfl) (fun _ _ _ h => h) (Or.inl ⟨by rfl, ?_⟩) hH (fun hH => ?_)
              · intro wS hSw
                go_simp
              simp only [Act.put, List.setIfInBounds_toArray, List.set_cons_zero, List.set_cons_succ]
              refine wpAnyS_pure (i := 15) (oi := { dst := some 94, op := .fieldAddr 37 (.tmp 93) 0, type := _, pos := _, after := _, guard := none }) (v := .pointer (some ⟨g3, o3 + j * 4, none⟩)) rfl (by kernel_rfl) (by kernel_rfl) (by kernel_rfl) (by kernel_rfl) (fun _ _ _ h => h) (Or.inl ⟨by rfl, ?_⟩) hH (fun hH => ?_)
              · intro wS hSw
                go_simp
              simp only [Act.put, List.setIfInBounds_toArray, List.set_cons_zero, List.set_cons_succ]
              refine wpAnyS_ready (rs := [16]) (by kernel_rfl) (by simp) ?_
              refine AllReadyS.cons (o := { dst := none, op := .store 31 (.tmp 94) (.tmp 92), type := _, pos := _, after := _, guard := none }) rfl (fun K hK => ?_) AllReadyS.nil
              rw [if_pos (by rfl)]
              refine wp_store_ov 31 (.tmp 94) (.tmp 92) rfl g3 (o3 + j * 4) .u8 _ _ rfl rfl A (HV6.out.1.grow hS0e hA) HY.out.1 HY.out.2 (by kernel_rfl) ?_
              intro x1e hv1e hb1e
              refine hK.out _ _ (Hold.over (s := 16) (by decide) (by rfl)) (fun hH => ?_)
              clear hK K
              refine wpAnyS_done (by kernel_rfl) ?_ _
              have HV7 : Hid (Ov A w0 x1e ∧ Out w0.heap.size w1 x1e) := ⟨hv1e, HV6.out.2.trans ((Out.of_below hS0e).trans (Out.of_but hb1e HY.out.1.2.lt))⟩
              clear hv1e hb1e hS0e HV6 c0 c1
              go_wp2_with fail
              go_roundw
              case rel => exact ⟨j + 1, by go_num, by omega, HV7.out⟩
              case measure => simp [intOf]; omega
            · clear HI
              go_wp2_with fail
              go_roundw
              case rel => exact ⟨k + 1, by go_num, by omega, HV6.out⟩
              case measure => simp [intOf]; omega
        · clear HN
          go_wp2_with fail
          go_roundw
          case rel => exact ⟨i + 1, by go_num, by omega, HVz.out⟩
          case measure => simp [intOf]; omega
    · clear HR
      go_wp2_with fail
      go_end0
      exact ⟨rfl, HVr.out.1, HB.out.trans HVr.out.2⟩
end Go.Proofs.Ytefklmckkigllaa

/- Rows that grow by append, of elements that own rows themselves; copies by append onto an empty list. -/
namespace Go.Proofs.Ytefklmckkigllaa
open Go.RowKit
set_option linter.unusedVariables false

theorem At.ne {t t' : TypeId} {w : World} {g g' : Nat} {cs cs' : List Value} (h : At t w g cs) (h' : At t' w g' cs') (ht : t ≠ t') : g ≠ g' := by
  rintro rfl
  unfold At at h h'
  rw [h] at h'
  injection h' with h'
  injection h' with _ e _
  exact ht e
theorem At.belowA {t : TypeId} {w w' : World} {g A : Nat} {cs : List Value} (h : At t w g cs) (hb : Below A w w') (hg : g < A) : At t w' g cs := (hb.block g hg).trans h
theorem own_stay {w w' : World} {A E sz n : Nat} {v : Value} {xs : List Value} (h : w.ownsRow A E sz v n xs) (hk : ∀ k, v.ownBlock = some k → w'.heap[k]? = w.heap[k]?) : w'.ownsRow A E sz v n xs := by
  obtain ⟨h1, h2 | ⟨g, cap, cur, hv, hg, hc, h3⟩⟩ := h
  · exact ⟨h1, .inl h2⟩
  · exact ⟨h1, .inr ⟨g, cap, cur, hv, hg, (hk g (by rw [hv]; rfl)).trans hc, h3⟩⟩
theorem own_below {w w' : World} {A E sz n : Nat} {v : Value} {xs : List Value} (h : w.ownsRow A E sz v n xs) (hb : Below w.heap.size w w') : w'.ownsRow A E sz v n xs :=
  own_stay h fun k hk => hb.block k (h.lt k hk).2

/-- What the elements of a row are. -/
structure Elt (α δ : Type) where
  cl : α → List Value
  n : Nat
  E : TypeId
  hlen : ∀ y, (cl y).length = n
  hone : ∀ y, ∀ v ∈ cl y, v.oneCell' = true
  dat : α → δ
  In : Nat → World → α → Prop
  Lies : (Nat → Prop) → α → Prop
  mono : ∀ {S T : Nat → Prop} {y : α}, Lies S y → (∀ k, S k → T k) → Lies T y
  stay : ∀ {S : Nat → Prop} {B B' : Nat} {w w' : World} {y : α}, In B w y → Lies S y → B ≤ B' → (∀ k, S k → k < B → w'.heap[k]? = w.heap[k]?) → In B' w' y
  lies : ∀ {S T : Nat → Prop} {B : Nat} {w : World} {y : α}, In B w y → Lies S y → (∀ k, S k → k < B → T k) → Lies T y
def eN : Elt NT Nd := ⟨NT.cells, 5, 49, fun _ => rfl, NT.one, NT.nd, fun B w x => x.In B w, fun S x => x.Lies S, NT.Lies.mono, NT.In.stay, NT.In.lies⟩
def eB : Elt BT Bd := ⟨BT.cells, 3, 45, fun _ => rfl, BT.one, BT.bd, fun B w x => x.In B w, fun S x => x.Lies S, BT.Lies.mono, BT.In.stay, BT.In.lies⟩

/-- A row that grows. -/
structure Gr {α δ : Type} (e : Elt α δ) (A : Nat) (w : World) (v : Value) (ys : List α) : Prop where
  own : w.ownsRow A e.E e.n v ys.length (ys.flatMap e.cl)
  ins : ∀ y ∈ ys, e.In w.heap.size w y
  off : ∀ y ∈ ys, e.Lies (fun k => A ≤ k ∧ some k ≠ v.ownBlock) y
  size : A ≤ w.heap.size
section
variable {α δ : Type} {e : Elt α δ} {A : Nat} {w w' : World} {v : Value} {ys : List α}
theorem Gr.nil (h : A ≤ w.heap.size) : Gr e A w (.slice none 0 0) [] := ⟨World.ownsRow_nil w A e.E e.n, fun _ h => (by cases h), fun _ h => (by cases h), h⟩
theorem Gr.keep (h : Gr e A w v ys) (hs : w.heap.size ≤ w'.heap.size) (hM : ∀ k, A ≤ k → k < w.heap.size → w'.heap[k]? = w.heap[k]?) : Gr e A w' v ys :=
  ⟨own_stay h.own fun k hk => hM k (h.own.lt k hk).1 (h.own.lt k hk).2, fun y hy => e.stay (h.ins y hy) (h.off y hy) hs fun k hk hl => hM k hk.1 hl, h.off, Nat.le_trans h.size hs⟩
theorem Gr.below (h : Gr e A w v ys) (hb : Below w.heap.size w w') : Gr e A w' v ys := h.keep hb.size fun k _ hk => hb.block k hk
theorem Gr.but {g : Nat} (h : Gr e A w v ys) (hb : But g w w') (hg : g < A) : Gr e A w' v ys := h.keep hb.size fun k h1 hk => hb.block k hk (by omega)
/-- What is made later lies off the row. -/
theorem Gr.fresh (h : Gr e A w v ys) {y : α} (hy : e.Lies (fun k => w.heap.size ≤ k) y) : e.Lies (fun k => A ≤ k ∧ some k ≠ v.ownBlock) y :=
  e.mono hy fun k hk => ⟨Nat.le_trans h.size hk, fun q => by have := (h.own.lt k q.symm).2; omega⟩
theorem Gr.app {y : α} {g cap : Nat} (h : Gr e A w v ys) (hi : e.In w.heap.size w y) (hy : e.Lies (fun k => A ≤ k ∧ some k ≠ v.ownBlock) y)
    (ho : w'.ownsRow A e.E e.n (.slice (some ⟨g, 0, none⟩) (ys.length + 1) cap) (ys.length + 1) (ys.flatMap e.cl ++ e.cl y)) (hg : w.grownBy w' v.ownBlock) (hw : v.ownBlock = some g ∨ g = w.heap.size) :
    Gr e A w' (.slice (some ⟨g, 0, none⟩) (ys.length + 1) cap) (ys ++ [y]) := by
  have hin : ∀ z : α, e.In w.heap.size w z → e.Lies (fun k => A ≤ k ∧ some k ≠ v.ownBlock) z → e.In w'.heap.size w' z := fun z h1 h2 => e.stay h1 h2 hg.size fun k hk hl => hg.block k hl hk.2
  have hoff : ∀ z : α, e.In w.heap.size w z → e.Lies (fun k => A ≤ k ∧ some k ≠ v.ownBlock) z → e.Lies (fun k => A ≤ k ∧ some k ≠ (Value.slice (some ⟨g, 0, none⟩) (ys.length + 1) cap).ownBlock) z := fun z h1 h2 => by
    refine e.lies h1 h2 fun k hk hl => ⟨hk.1, fun q => ?_⟩
    have e1 : some k = some g := q
    cases e1
    rcases hw with q | q
    · exact hk.2 q.symm
    · omega
  refine ⟨?_, fun z hz => ?_, fun z hz => ?_, Nat.le_trans h.size hg.size⟩
  · rw [List.flatMap_append, List.flatMap_cons, List.flatMap_nil, List.append_nil, List.length_append]
    exact ho
  · rcases List.mem_append.1 hz with q | q
    · exact hin z (h.ins z q) (h.off z q)
    · rw [List.mem_singleton.1 q]; exact hin y hi hy
  · rcases List.mem_append.1 hz with q | q
    · exact hoff z (h.ins z q) (h.off z q)
    · rw [List.mem_singleton.1 q]; exact hoff y hi hy
/-- What the row is when it is done. -/
theorem Gr.done (hn : 0 < e.n) (h : Gr e A w v ys) (hl : ys.length ≤ 1048576) : ∃ a c, v = .slice a ys.length c ∧ RowG e.cl e.n (e.In w.heap.size w) w.heap.size w a c ys ∧ RowL (fun k => A ≤ k) a ys := by
  obtain ⟨h1, ⟨h2, h3⟩ | ⟨g, cap, cur, hv, hg, hc, hn, h3⟩⟩ := id h.own
  · have e : ys = [] := List.length_eq_zero_iff.mp h3
    subst e
    exact ⟨none, 0, h2, ⟨Nat.zero_le _, Nat.le_refl _, .inl rfl⟩, .inl rfl⟩
  · have hlt : g < w.heap.size := (h.own.lt g (by rw [hv]; rfl)).2
    refine ⟨some ⟨g, 0, none⟩, cap, hv, ⟨hl, hn, .inr ⟨g, 0, rfl, hlt, fun i y hy => ⟨fun j u hj => ?_, h.ins y (List.mem_of_getElem? hy)⟩⟩⟩, .inr ⟨g, 0, rfl, hg⟩⟩
    have z := h.own.cells (g := g) (by rw [hv]; rfl) _ u (flat_cells_at e.cl e.n e.hlen ys i y hy j u hj)
    rw [Addr.add_mid] at z
    rw [show 0 + i * e.n + j = 0 + (i * e.n + j) by omega]
    exact z
theorem Gr.row {a : Option Addr} {n c : Nat} (hn : 0 < e.n) (h : Gr e A w (.slice a n c) ys) (hl : ys.length ≤ 1048576) : RowG e.cl e.n (e.In w.heap.size w) w.heap.size w a c ys ∧ RowL (fun k => A ≤ k) a ys := by
  obtain ⟨a', c', e1, h1⟩ := h.done hn hl
  injection e1 with e1 e2 e3
  subst e1 e3
  exact h1
/-- 'out = append(out, y)'. -/
theorem wpList_grow {ops : Array Oper} {rest : List Oper} {o : Oper} {a : Act} {Q : Exit → Act → World → Prop} (hgd : o.guard = none) (s x : Operand) (T : TypeId) (z : Value) (bytes : Nat) (ho : o.op = .call { callee := .builtin .append, args := #[s, x], argTypes := #[T, T] })
    (ht : Try.prog.underlying T = some (.slice e.E)) (hif : (Try.prog.info? e.E).map (fun i => (i.zero, i.size, i.bytes)) = some (some z, e.n, bytes)) (hzs : z.cells.size = e.n) (hsz : 0 < e.n)
    (hs : a.eval s = v) (b : Nat) (hx : a.eval x = .slice (some ⟨b, 0, none⟩) 1 1) (h : Gr e A w v ys) (y : α) (hA : At e.E w b (e.cl y)) (hi : e.In w.heap.size w y) (hy : e.Lies (fun k => A ≤ k ∧ some k ≠ v.ownBlock) y)
    (k : Nat) (hk : ys.length = k) (hl : k ≤ 1048576) (hby : bytes ≤ 1024)
    (hK : ∀ g cap w', Gr e A w' (.slice (some ⟨g, 0, none⟩) (k + 1) cap) (ys ++ [y]) → Below A w w' → wpList Try.prog ops Q rest (a.put o.dst (.slice (some ⟨g, 0, none⟩) (k + 1) cap)) w') : wpList Try.prog ops Q (o :: rest) a w := by
  obtain ⟨i0, hi0, hz0, hz1, hz2⟩ := info_parts hif
  subst hk
  refine wpList_append_lies (P := Try.prog) w hgd s x T ho A e.E i0 z e.n bytes ht hi0 hz0 hz1 hz2 hzs hsz v ys.length (ys.flatMap e.cl) hs h.own ⟨b, 0, none⟩ 1 1 (e.cl y) hx (by rw [e.hlen, Nat.one_mul]) (fun j u hj => ?_) (e.hone y) (by decide) (by unfold maxLen; omega) (by have : (ys.length + 1) * bytes ≤ 1048577 * 1024 := Nat.mul_le_mul (by omega) hby; omega) h.size w.heap.size rfl ?_
  · rw [Addr.add_mid, Nat.zero_add, hA.cell]; exact hj
  · intro g cap w' h1 h2 h3 _
    exact hK g cap w' (h.app hi hy h1 h2 h3) ((Below.refl A w).grown h2 h.size fun k hk => (h.own.lt k hk).1)
end
section
variable {o : Oper} {a : Act} {w : World} {K : Act → World → Prop} {Q : Exit → Act → World → Prop}
/-- An empty list. -/
theorem wp_empty22 (ho : o.op = .buildSlice 22 0 #[])
    (h : ∀ w', w'.ownsRow w.heap.size 35 2 (.slice (some ⟨w.heap.size, 0, none⟩) 0 0) 0 [] → Below w.heap.size w w' → w.heap.size < w'.heap.size → K (a.put o.dst (.slice (some ⟨w.heap.size, 0, none⟩) 0 0)) w') : o.wp Try.prog a w K Q := by
  have h' := h (w.alloc (.cells #[] 35)) (World.ownsRow_made w #[] 0 (Nat.le_refl _) (by unfold maxLen; omega) rfl) ((Below.refl _ _).alloc (Nat.le_refl _) _) (by simp)
  unfold Oper.wp execOp
  simp only [ho]
  go_simp
  exact h'
/-- An empty list. -/
theorem wp_empty38 (ho : o.op = .buildSlice 38 0 #[])
    (h : ∀ w', w'.ownsRow w.heap.size 37 4 (.slice (some ⟨w.heap.size, 0, none⟩) 0 0) 0 [] → Below w.heap.size w w' → w.heap.size < w'.heap.size → K (a.put o.dst (.slice (some ⟨w.heap.size, 0, none⟩) 0 0)) w') : o.wp Try.prog a w K Q := by
  have h' := h (w.alloc (.cells #[] 37)) (World.ownsRow_made w #[] 0 (Nat.le_refl _) (by unfold maxLen; omega) rfl) ((Below.refl _ _).alloc (Nat.le_refl _) _) (by simp)
  unfold Oper.wp execOp
  simp only [ho]
  go_simp
  exact h'
theorem wp_store_at {P : Program} (ty : TypeId) (x y : Operand) (ho : o.op = .store ty x y)
    (g : Nat) (cs : List Value) (hx : a.eval x = .pointer (some ⟨g, 0, none⟩)) (hy : a.eval y = .agg cs.toArray)
    (t : TypeId) (old : List Value) (hg : At t w g old) (hi : (P.info? ty).map (·.size) = some cs.length) (hold : old.length = cs.length) (h1 : ∀ v ∈ cs, v.oneCell' = true)
    (h : ∀ w', At t w' g cs → But g w w' → w'.heap.size = w.heap.size → K (a.put o.dst undef) w') : o.wp P a w K Q := by
  refine wp_store_row ty x y ho g cs.toArray hx hy t old.toArray hg (by simpa using hi) (by simpa using hold) (by simpa using h1) ?_
  exact h _ (setRow_heap w g _ _ t _ hg) ⟨rfl, rfl, rfl, by simp, fun k _ hn => setRow_other w g k _ hn⟩ (by simp)
/-- 'append([]T{}, xs...)'. -/
theorem wp_copyRow {α : Type} (cl : α → List Value) (n : Nat) (hlen : ∀ y, (cl y).length = n) (hn : 0 < n) (hone : ∀ y, ∀ v ∈ cl y, v.oneCell' = true) (Pr : α → Prop) (s x : Operand) (T E : TypeId) (z : Value) (bytes : Nat) (ho : o.op = .call { callee := .builtin .append, args := #[s, x], argTypes := #[T, T] })
    (ht : Try.prog.underlying T = some (.slice E)) (hif : (Try.prog.info? E).map (fun i => (i.zero, i.size, i.bytes)) = some (some z, n, bytes)) (hzs : z.cells.size = n) (hby : bytes ≤ 1024)
    (b : Nat) (hs : a.eval s = .slice (some ⟨b, 0, none⟩) 0 0) (hown : w.ownsRow b E n (.slice (some ⟨b, 0, none⟩) 0 0) 0 []) (xs : List α) (m : Nat) (hm : m = xs.length) (ad : Option Addr) (c : Nat) (hx : a.eval x = .slice ad m c) (B : Nat) (hr : RowG cl n Pr B w ad c xs) (hnil : ad = none → c = 0)
    (h : ∀ g cap w', RowG cl n Pr w'.heap.size w' (some ⟨g, 0, none⟩) cap xs → b ≤ g → (∃ cs, At E w' g cs) → But b w w' → K (a.put o.dst (.slice (some ⟨g, 0, none⟩) m cap)) w') : o.wp Try.prog a w K Q := by
  obtain ⟨i0, hi0, hz0, hz1, hz2⟩ := info_parts hif
  have hbl := (hown.lt b rfl).2
  have fin : ∀ v' w', w'.ownsRow b E n v' (0 + m) ([] ++ xs.flatMap cl) → w.grownBy w' (some b) → (v' = .slice none 0 0 → False) → K (a.put o.dst v') w' := by
    intro v' w' q1 q2 q3
    obtain ⟨e1, ⟨e2, _⟩ | ⟨g, cap, cur, hv, hg, hc, hcp, h3⟩⟩ := id q1
    · exact absurd e2 q3
    · have hlt : g < w'.heap.size := (q1.lt g (by rw [hv]; rfl)).2
      rw [hv, Nat.zero_add]
      rw [Nat.zero_add] at hcp
      refine h g cap w' ⟨hr.1, by omega, .inr ⟨g, 0, rfl, hlt, fun i y hy => ⟨fun j u hj => ?_, RowG.all hr y (List.mem_of_getElem? hy)⟩⟩⟩ hg ⟨cur.toList, hc⟩ ⟨q2.os, q2.tape, q2.output, q2.size, fun k hk hne => q2.block k hk (fun q => hne (by injection q))⟩
      have z := q1.cells (g := g) (by rw [hv]; rfl) _ u (by rw [List.nil_append]; exact flat_cells_at cl n hlen xs i y hy j u hj)
      rw [Addr.add_mid] at z
      rw [show 0 + i * n + j = 0 + (i * n + j) by omega]
      exact z
  cases ad with
  | none =>
    have hx0 : xs = [] := by
      obtain ⟨_, _, q | ⟨g, o, q, _⟩⟩ := hr
      · exact q
      · cases q
    subst hx0
    obtain rfl := hnil rfl
    obtain rfl : m = 0 := hm
    have hrun := run_append_owned_none (P := Try.prog) (w := w) b T o.type E i0 n ht hi0 _ 0 [] hown
    unfold Oper.wp
    simp [execOp, ho, resolve, invoke, builtin, hs, hx, hrun, Result.andThen]
    exact fin _ w (by simpa using hown) ⟨rfl, rfl, rfl, Nat.le_refl _, fun _ _ _ => rfl⟩ (fun q => by cases q)
  | some ad =>
    have hl := hr.1
    refine wp_append_own w s x T ho b E i0 z n bytes ht hi0 hz0 hz1 hz2 hzs hn _ 0 [] hs hown ad m c (xs.flatMap cl) hx (by rw [flat_cells cl n hlen, hm]) (fun j u hj => ?_) (one_flat hone xs) (by unfold maxLen; omega) (by have : (0 + m) * bytes ≤ 1048576 * 1024 := Nat.mul_le_mul (by omega) hby; omega) (Nat.le_of_lt hbl) fun v' w' q1 q2 q3 => fin v' w' q1 q2 fun q => by have := (q3.1 q).1; cases this
    obtain ⟨_, _, q | ⟨g, o, q, _, hrr⟩⟩ := hr
    · rw [q] at hj; simp at hj
    · cases q
      rw [Addr.add_mid]
      exact row_flat hlen hn (fun i k hk => (hrr i k hk).1) j u hj
theorem wpList_empty38 {ops : Array Oper} {rest : List Oper} (hgd : o.guard = none) (ho : o.op = .buildSlice 38 0 #[])
    (h : ∀ w', w'.ownsRow w.heap.size 37 4 (.slice (some ⟨w.heap.size, 0, none⟩) 0 0) 0 [] → Below w.heap.size w w' → w.heap.size < w'.heap.size → wpList Try.prog ops Q rest (a.put o.dst (.slice (some ⟨w.heap.size, 0, none⟩) 0 0)) w') : wpList Try.prog ops Q (o :: rest) a w :=
  wpList_plain hgd fun K hK => wp_empty38 ho fun w' h1 h2 h3 => hK _ _ (h w' h1 h2 h3)
theorem wpList_copyRow {ops : Array Oper} {rest : List Oper} (hgd : o.guard = none) {α : Type} (cl : α → List Value) (n : Nat) (hlen : ∀ y, (cl y).length = n) (hn : 0 < n) (hone : ∀ y, ∀ v ∈ cl y, v.oneCell' = true) (Pr : α → Prop) (s x : Operand) (T E : TypeId) (z : Value) (bytes : Nat) (ho : o.op = .call { callee := .builtin .append, args := #[s, x], argTypes := #[T, T] })
    (ht : Try.prog.underlying T = some (.slice E)) (hif : (Try.prog.info? E).map (fun i => (i.zero, i.size, i.bytes)) = some (some z, n, bytes)) (hzs : z.cells.size = n) (hby : bytes ≤ 1024)
    (b : Nat) (hs : a.eval s = .slice (some ⟨b, 0, none⟩) 0 0) (hown : w.ownsRow b E n (.slice (some ⟨b, 0, none⟩) 0 0) 0 []) (xs : List α) (m : Nat) (hm : m = xs.length) (ad : Option Addr) (c : Nat) (hx : a.eval x = .slice ad m c) (B : Nat) (hr : RowG cl n Pr B w ad c xs) (hnil : ad = none → c = 0)
    (h : ∀ g cap w', RowG cl n Pr w'.heap.size w' (some ⟨g, 0, none⟩) cap xs → b ≤ g → (∃ cs, At E w' g cs) → But b w w' → wpList Try.prog ops Q rest (a.put o.dst (.slice (some ⟨g, 0, none⟩) m cap)) w') : wpList Try.prog ops Q (o :: rest) a w :=
  wpList_plain hgd fun K hK => wp_copyRow cl n hlen hn hone Pr s x T E z bytes ho ht hif hzs hby b hs hown xs m hm ad c hx B hr hnil fun g cap w' h1 h2 h3 h4 => hK _ _ (h g cap w' h1 h2 h3 h4)
end
end Go.Proofs.Ytefklmckkigllaa
