/- Joined texts of the proof. -/
import Derived.Test.YtbamocalhojmeaaJ14
import Derived.Test.YtbamocalhojmeaaJ15
import Derived.RangeFuncBox

/- norm's ready: what is told of its heap, and its Push. -/
namespace Go.Proofs.Ytbamocalhojmeaa
open Go.RowKit
set_option linter.unusedVariables false
attribute [local go_sem ↓] Go.wp_at_zero Go.wp_at_succ

/-- All stands but the block gH and the row o; the row is o', which is o or new. -/
structure Chg (gH : Nat) (o o' : Option Nat) (w w' : World) : Prop where
  os : w'.os = w.os
  tape : w'.tape = w.tape
  output : w'.output = w.output
  size : w.heap.size ≤ w'.heap.size
  block : ∀ k, k < w.heap.size → k ≠ gH → some k ≠ o → w'.heap[k]? = w.heap[k]?
  own : o' = o ∨ ∀ k, o' = some k → w.heap.size ≤ k
section
variable {gH : Nat} {o o' o'' : Option Nat} {w w' w'' : World}
theorem Chg.refl (gH : Nat) (o : Option Nat) (w : World) : Chg gH o o w w := ⟨rfl, rfl, rfl, Nat.le_refl _, fun _ _ _ _ => rfl, .inl rfl⟩
theorem Chg.trans (h : Chg gH o o' w w') (k : Chg gH o' o'' w' w'') : Chg gH o o'' w w'' := by
  refine ⟨k.os.trans h.os, k.tape.trans h.tape, k.output.trans h.output, Nat.le_trans h.size k.size, fun i hi h1 h2 => ?_, ?_⟩
  · refine (k.block i (Nat.lt_of_lt_of_le hi h.size) h1 ?_).trans (h.block i hi h1 h2)
    intro e
    rcases h.own with q | q
    · exact h2 (by rw [← q]; exact e)
    · have := q i e.symm
      omega
  · rcases k.own with q | q
    · rw [q]
      exact h.own
    · exact .inr fun i e => Nat.le_trans h.size (q i e)
theorem Chg.of_below (h : Below w.heap.size w w') : Chg gH o o w w' := ⟨h.os, h.tape, h.output, h.size, fun k hk _ _ => h.block k hk, .inl rfl⟩
theorem Chg.drewN (h : Chg gH o o' w w') (n : Nat) : Chg gH o o' w (w'.drewN n) := ⟨h.os, h.tape, h.output, h.size, h.block, h.own⟩
theorem Chg.at {t : TypeId} {k : Nat} {cs : List Value} (h : Chg gH o o' w w') (ha : At t w k cs) (h1 : k ≠ gH) (h2 : some k ≠ o) : At t w' k cs := by
  unfold At
  rw [h.block k ha.lt h1 h2]
  exact ha
theorem Chg.below {B : Nat} (h : Chg gH o o' w w') (hB : B ≤ gH) (ho : ∀ k, o = some k → B ≤ k) (hs : B ≤ w.heap.size) : Below B w w' :=
  ⟨h.os, h.tape, h.output, h.size, fun k hk => h.block k (by omega) (by omega) (fun e => by have := ho k e.symm; omega)⟩
theorem Chg.setH (gH : Nat) (o : Option Nat) (w : World) (i : Nat) (v : Value) : Chg gH o o w (w.setCell ⟨gH, i, none⟩ v) :=
  ⟨rfl, rfl, rfl, by simp, fun k hk h1 _ => Below.heap_setCell _ _ _ k h1, .inl rfl⟩
theorem Chg.setO (gH g : Nat) (w : World) (i : Nat) (v : Value) : Chg gH (some g) (some g) w (w.setCell ⟨g, i, none⟩ v) :=
  ⟨rfl, rfl, rfl, by simp, fun k hk _ h2 => Below.heap_setCell _ _ _ k (fun e => h2 (by rw [e])), .inl rfl⟩
end

/-- The heap object: the trace, and the numbers in it, whose row is the call's own. -/
structure Rdo (B : Nat) (w : World) (gH : Nat) (a : Option Addr) (m c : Nat) (N : List Nat) (v : Value) : Prop where
  hd : At 81 w gH [.slice a m c, v]
  lt : gH < B
  own : OwnI B w v (natI N)
theorem OwnI.ne {B : Nat} {w : World} {v : Value} {zs : List Int} (h : OwnI B w v zs) {g : Nat} (hg : g < B) : some g ≠ v.ownBlock := fun e => by
  have := h.block g e.symm
  omega
theorem OwnI.at {B : Nat} {w : World} {v : Value} {zs : List Int} (h : OwnI B w v zs) (h0 : 0 < zs.length) : ∃ g cp, v = .slice (some ⟨g, 0, none⟩) zs.length cp ∧ B ≤ g ∧ zs.length ≤ cp ∧ (∀ i z, zs[i]? = some z → w.cell? ⟨g, i, none⟩ = some (.int .i64 z)) ∧ ∀ i, w.frozen? ⟨g, i, none⟩ = false := by
  obtain ⟨h1, ⟨rfl, h2⟩ | ⟨g, cap, cur, rfl, hg, hh, hn, hm, hs, ht⟩⟩ := h
  · omega
  · refine ⟨g, cap, rfl, hg, hn, fun i z hz => ?_, fun i => by simp [World.frozen?, hh]⟩
    have hi : i < zs.length := (List.getElem?_eq_some_iff.1 hz).1
    have e1 : (cur.toList.take (zs.length * 1))[i]? = some (I64 z) := by rw [ht, List.getElem?_map, hz]; rfl
    rw [List.getElem?_take_of_lt (by omega)] at e1
    simp only [World.cell?, hh]
    simpa [I64] using e1

section
variable {o : Oper} {a : Act} {w : World} {K : Act → World → Prop} {Q : Exit → Act → World → Prop}
theorem wp_layI1 (x : Operand) (ho : o.op = .buildSlice 23 1 #[(0, x)]) (z : Int) (hx : a.eval x = .int .i64 z)
    (h : K (a.put o.dst (.slice (some ⟨w.heap.size, 0, none⟩) 1 1)) (w.alloc (.cells #[.int .i64 z] 3))) : o.wp Try.prog a w K Q := by
  obtain ⟨ie, hi, hz0, hz1, hz2⟩ := info_parts Try.info3
  refine wp_buildSlice 23 3 1 #[(0, x)] ho #[.int .i64 z] ie _ Try.underlying23 hi hz0 (by rw [hz1]; decide) (by rw [hz1]; decide) ?_ ?_
  · rw [hz1]
    simp only [List.map_toArray, List.map_cons, List.map_nil, hx]
    (show _ = _)
    kernel_rfl
  · exact h
theorem wp_appF (s x : Operand) (ho : o.op = .call { callee := .builtin .append, args := #[s, x], argTypes := #[23, 23] }) (base : Nat) (v : Value) (zs : List Int) (g1 : Nat) (z : Int)
    (hs : a.eval s = v) (hx : a.eval x = .slice (some ⟨g1, 0, none⟩) 1 1) (hc : w.cell? ⟨g1, 0, none⟩ = some (.int .i64 z)) (hown : OwnI base w v zs) (hl : zs.length ≤ 1048576) (hbase : base ≤ w.heap.size)
    (h : ∀ v' w', OwnI base w' v' (zs ++ [z]) → w.grownBy w' v.ownBlock → (v'.ownBlock = v.ownBlock ∨ v'.ownBlock = some w.heap.size) → K (a.put o.dst v') w') : o.wp Try.prog a w K Q := by
  obtain ⟨ie, hi, hz0, hz1, hz2⟩ := info_parts Try.info3
  obtain ⟨v', w', hr, h2, h3, h4⟩ := app_fresh (P := Try.prog) w base 23 o.type 3 ie (.int .i64 0) 1 8 Try.underlying23 hi hz0 hz1 hz2 rfl (by decide) v zs.length (zs.map I64) hown ⟨g1, 0, none⟩ 1 1 [.int .i64 z] rfl
    (by
      intro j u hj
      match j, hj with
      | 0, hj => simp at hj; subst hj; simpa [Addr.add] using hc) (by intro u hu; simp at hu; subst hu; rfl) (by omega) (by unfold maxLen; omega) (by omega) hbase
  unfold Oper.wp execOp
  simp only [ho, resolve, invoke, builtin, Sem.run_bind, Sem.run_pure, Result.andThen_ok, List.map_toArray, List.map_cons, List.map_nil, hs, hx, hr]
  exact h v' w' (by simpa [OwnI, I64] using h2) h3 h4
end

theorem tassert3 (x : Int) (w : World) : (Instr.typeAssert (.iface 3 (.int .i64 x)) 20 3 false).run Try.prog w = .ok (.int .i64 x) w := by kernel_rfl
set_option maxRecDepth 100000 in
set_option maxHeartbeats 3200000 in
theorem rPush (B : Nat) (w : World) (gH : Nat) (a : Option Addr) (m c : Nat) (N : List Nat) (v : Value) (x : Nat) (hR : Rdo B w gH a m c N v) (hN : N.length ≤ 1048576) (hB : B ≤ w.heap.size) :
    Calls Try.prog 108 #[.pointer (some ⟨gH, 0, none⟩), .iface 3 (.int .i64 (x : Int))] w fun r w' => r = .returned (.tuple #[]) ∧ ∃ v', Rdo B w' gH a m c (N ++ [x]) v' ∧ Chg gH v.ownBlock v'.ownBlock w w' := by
  have c1 : w.cell? ⟨gH, 1, none⟩ = some v := by rw [hR.hd.cell]; rfl
  have HR : Hid (Rdo B w gH a m c N v) := hR
  clear hR
  go_enter Try.func108, Try.ntmps108
  go_wp2_with fail
  refine wp_region_S (S := fun x => Below w.heap.size w x) (St := [8, 11]) (by kernel_rfl) (Below.refl _ w).drew ?_
  have hS0 : Below w.heap.size w w.drew := (Below.refl _ w).drew
  obtain ⟨w0, hw0⟩ : ∃ u, u = w.drew := ⟨_, rfl⟩
  rw [← hw0] at hS0 ⊢
  clear hw0
  intro hH
  refine wpAnyS_pure (i := 0) (oi := { dst := some 4, op := .move (.tmp 0), type := _, pos := _, after := _, guard := none }) (v := .pointer (some ⟨gH, 0, none⟩)) rfl (by kernel_rfl) (by kernel_rfl) (by kernel_rfl) (by kernel_rfl) (fun _ _ _ h => h) (Or.inl ⟨by rfl, ?_⟩) hH (fun hH => ?_)
  · intro wS hSw
    go_simp
  simp only [Act.put, List.setIfInBounds_toArray, List.set_cons_zero, List.set_cons_succ]
  refine wpAnyS_pure (i := 1) (oi := { dst := some 5, op := .move (.tmp 0), type := _, pos := _, after := _, guard := none }) (v := .pointer (some ⟨gH, 0, none⟩)) rfl (by kernel_rfl) (by kernel_rfl) (by kernel_rfl) (by kernel_rfl) (fun _ _ _ h => h) (Or.inl ⟨by rfl, ?_⟩) hH (fun hH => ?_)
  · intro wS hSw
    go_simp
  simp only [Act.put, List.setIfInBounds_toArray, List.set_cons_zero, List.set_cons_succ]
  refine wpAnyS_pure (i := 2) (oi := { dst := some 6, op := .nilCheck (.tmp 5), type := _, pos := _, after := _, guard := none }) (v := .pointer (some ⟨gH, 0, none⟩)) rfl (by kernel_rfl) (by kernel_rfl) (by kernel_rfl) (by kernel_rfl) (fun _ _ _ h => h) (Or.inl ⟨by rfl, ?_⟩) hH (fun hH => ?_)
  · intro wS hSw
    go_simp
  simp only [Act.put, List.setIfInBounds_toArray, List.set_cons_zero, List.set_cons_succ]
  refine wpAnyS_pure (i := 3) (oi := { dst := some 7, op := .fieldAddr 81 (.tmp 6) 1, type := _, pos := _, after := _, guard := none }) (v := .pointer (some ⟨gH, 1, none⟩)) rfl (by kernel_rfl) (by kernel_rfl) (by kernel_rfl) (by kernel_rfl) (fun _ _ _ h => h) (Or.inl ⟨by rfl, ?_⟩) hH (fun hH => ?_)
  · intro wS hSw
    go_simp
  simp only [Act.put, List.setIfInBounds_toArray, List.set_cons_zero, List.set_cons_succ]
  refine wpAnyS_pure (i := 5) (oi := { dst := some 9, op := .move (.tmp 1), type := _, pos := _, after := _, guard := none }) (v := .iface 3 (.int .i64 (x : Int))) rfl (by kernel_rfl) (by kernel_rfl) (by kernel_rfl) (by kernel_rfl) (fun _ _ _ h => h) (Or.inl ⟨by rfl, ?_⟩) hH (fun hH => ?_)
  · intro wS hSw
    go_simp
  simp only [Act.put, List.setIfInBounds_toArray, List.set_cons_zero, List.set_cons_succ]
  refine wpAnyS_pure (i := 6) (oi := { dst := some 10, op := .typeAssert (.tmp 9) 20 3 false, type := _, pos := _, after := _, guard := none }) (v := .int .i64 (x : Int)) rfl (by kernel_rfl) (by kernel_rfl) (by kernel_rfl) (by kernel_rfl) (fun _ _ _ h => h) (Or.inl ⟨by rfl, ?_⟩) hH (fun hH => ?_)
  · intro wS hSw
    have z0 := tassert3 (x : Int) wS
    go_simp
  simp only [Act.put, List.setIfInBounds_toArray, List.set_cons_zero, List.set_cons_succ]
  refine wpAnyS_take [8, 11] (i := 4) (oi := { dst := some 8, op := .load 23 (.tmp 7), type := _, pos := _, after := _, guard := none }) (v := v) rfl (by kernel_rfl) (by kernel_rfl) (by kernel_rfl) (by kernel_rfl) (by kernel_rfl) (by kernel_rfl) (by kernel_rfl) (fun _ _ _ h => h) (Or.inl ⟨by rfl, ?_⟩) hH (fun hH => ?_)
  · intro wS hSw
    have z0 := (hSw.cell (lt_of_cell c1)).trans c1
    go_simp
  simp only [Act.put, List.setIfInBounds_toArray, List.set_cons_zero, List.set_cons_succ]
  refine wpAnyS_ready (rs := [7]) (by kernel_rfl) (by simp) ?_
  refine AllReadyS.cons (o := { dst := some 11, op := .buildSlice 23 1 #[(0, .tmp 10)], type := _, pos := _, after := _, guard := none }) rfl (fun K hK => ?_) AllReadyS.nil
  rw [if_pos (by rfl)]
  refine wp_layI1 (.tmp 10) rfl (x : Int) rfl ?_
  have hS1 : Below w.heap.size w (w0.alloc (.cells #[.int .i64 (x : Int)] 3)) := hS0.alloc hS0.size _
  have hcx : (w0.alloc (.cells #[.int .i64 (x : Int)] 3)).cell? ⟨w0.heap.size, 0, none⟩ = some (.int .i64 (x : Int)) := by simp
  obtain ⟨g1, hg1⟩ : ∃ g, g = w0.heap.size := ⟨_, rfl⟩
  rw [← hg1] at hcx ⊢
  obtain ⟨w1, hw1⟩ : ∃ u, u = w0.alloc (.cells #[.int .i64 (x : Int)] 3) := ⟨_, rfl⟩
  rw [← hw1] at hS1 hcx ⊢
  clear hw1 hS0
  refine hK.out _ _ (Hold.of hS1) (fun hH => ?_)
  clear hK K
  simp only [Act.put, List.setIfInBounds_toArray, List.set_cons_zero, List.set_cons_succ]
  refine wpAnyS_ready (rs := [8]) (by kernel_rfl) (by simp) ?_
  refine AllReadyS.cons (o := { dst := some 12, op := .call { callee := .builtin .append, args := #[.tmp 8, .tmp 11], argTypes := #[23, 23] }, type := _, pos := _, after := _, guard := none }) rfl (fun K hK => ?_) AllReadyS.nil
  rw [if_pos (by rfl)]
  refine wp_appF (.tmp 8) (.tmp 11) rfl B v (natI N) g1 (x : Int) rfl rfl hcx (HR.out.own.below hS1) (by rw [natI_length]; exact hN) (Nat.le_trans hB hS1.size) ?_
  intro v' w2 hO2 hg2 hf2
  obtain ⟨g', cp', rfl⟩ : ∃ g cap, v' = .slice (some ⟨g, 0, none⟩) ((natI N).length + 1) cap := by
    have := hO2
    unfold OwnI at this
    rw [List.length_append] at this
    exact ownsRow_succ this
  have hA2 : At 81 w2 gH [.slice a m c, v] := by
    unfold At
    have hA := HR.out.hd.below hS1
    rw [hg2.block gH hA.lt (HR.out.own.ne HR.out.lt)]
    exact hA
  have hC2 : Chg gH v.ownBlock (some g') w w2 := by
    have q1 : Chg gH v.ownBlock v.ownBlock w w1 := Chg.of_below hS1
    refine q1.trans ⟨hg2.os, hg2.tape, hg2.output, hg2.size, fun k hk _ h => hg2.block k hk h, ?_⟩
    rcases hf2 with q | q
    · exact .inl q
    · exact .inr fun k e => by
        have : some g' = some w1.heap.size := q
        cases this
        cases e
        exact Nat.le_refl _
  refine hK.out _ _ (Hold.over (s := 8) (by decide) (by rfl)) (fun hH => ?_)
  clear hK K
  simp only [Act.put, List.setIfInBounds_toArray, List.set_cons_zero, List.set_cons_succ]
  refine wpAnyS_pure (i := 9) (oi := { dst := some 13, op := .nilCheck (.tmp 4), type := _, pos := _, after := _, guard := none }) (v := .pointer (some ⟨gH, 0, none⟩)) rfl (by kernel_rfl) (by kernel_rfl) (by kernel_rfl) (by kernel_rfl) (fun _ _ _ h => h) (Or.inl ⟨by rfl, ?_⟩) hH (fun hH => ?_)
  · intro wS hSw
    go_simp
  simp only [Act.put, List.setIfInBounds_toArray, List.set_cons_zero, List.set_cons_succ]
  refine wpAnyS_pure (i := 10) (oi := { dst := some 14, op := .fieldAddr 81 (.tmp 13) 1, type := _, pos := _, after := _, guard := none }) (v := .pointer (some ⟨gH, 1, none⟩)) rfl (by kernel_rfl) (by kernel_rfl) (by kernel_rfl) (by kernel_rfl) (fun _ _ _ h => h) (Or.inl ⟨by rfl, ?_⟩) hH (fun hH => ?_)
  · intro wS hSw
    go_simp
  simp only [Act.put, List.setIfInBounds_toArray, List.set_cons_zero, List.set_cons_succ]
  refine wpAnyS_ready (rs := [11]) (by kernel_rfl) (by simp) ?_
  refine AllReadyS.cons (o := { dst := none, op := .store 23 (.tmp 14) (.tmp 12), type := _, pos := _, after := _, guard := none }) rfl (fun K hK => ?_) AllReadyS.nil
  rw [if_pos (by rfl)]
  refine wp_store_one 23 (.tmp 14) (.tmp 12) rfl gH 1 _ rfl rfl 81 _ hA2 (by simp) (by kernel_rfl) rfl rfl ?_
  intro w3 hA3 hb3 hs3
  refine hK.out _ _ (Hold.over (s := 11) (by decide) (by rfl)) (fun hH => ?_)
  clear hK K
  refine wpAnyS_done (by kernel_rfl) ?_ _
  have hO3 : OwnI B w3 (.slice (some ⟨g', 0, none⟩) ((natI N).length + 1) cp') (natI (N ++ [x])) := by
    have e : natI (N ++ [x]) = natI N ++ [(x : Int)] := by simp [natI]
    rw [e]
    have hgg := hO2.block g' rfl
    have hlt := HR.out.lt
    exact hO2.kept (row := some gH) ⟨hb3.os, hb3.tape, hb3.output, hb3.size, fun k hk hn => hb3.block k hk (fun e => hn (by rw [e]))⟩ (.inr (by simp [Value.ownBlock]; omega))
  have hC3 : Chg gH v.ownBlock (some g') w w3 := hC2.trans ⟨hb3.os, hb3.tape, hb3.output, hb3.size, fun k hk h1 _ => hb3.block k hk h1, .inl rfl⟩
  have HF : Hid (∃ v', Rdo B w3 gH a m c (N ++ [x]) v' ∧ Chg gH v.ownBlock v'.ownBlock w w3) := ⟨_, ⟨hA3, HR.out.lt, hO3⟩, hC3⟩
  clear hA3 hO3 hC3 hC2 hA2 hO2 hg2 hf2 hb3 hs3 hS1 hcx
  go_wp2_with fail
  go_end0
  exact ⟨rfl, HF.out⟩
end Go.Proofs.Ytbamocalhojmeaa

/- The given answer's Schedule and At. -/
namespace Go.Proofs.Ytbamocalhojmeaa
open Go.RowKit
set_option linter.unusedVariables false
attribute [local go_sem ↓] Go.wp_at_zero Go.wp_at_succ

/-- Is the i-th number of an order one of m, and none that came before? -/
def goodAt (zs : List Int) (m i : Nat) : Bool := decide (0 ≤ zs.getD i 0 ∧ zs.getD i 0 < (m : Int)) && !decide (zs.getD i 0 ∈ zs.take i)
def goodTo (zs : List Int) (m k : Nat) : Bool := (List.range k).all (goodAt zs m)
theorem goodTo_step (zs : List Int) (m k : Nat) : goodTo zs m (k + 1) = (goodTo zs m k && goodAt zs m k) := by simp [goodTo, List.range_succ]
theorem goodTo_mono {zs : List Int} {m k k' : Nat} (h : k ≤ k') (h2 : goodTo zs m k = false) : goodTo zs m k' = false := by
  rw [Bool.eq_false_iff] at h2 ⊢
  intro h3
  refine h2 (List.all_eq_true.2 fun i hi => ?_)
  have := List.mem_range.1 hi
  exact List.all_eq_true.1 h3 i (List.mem_range.2 (by omega))
def orderOk (zs : List Int) (m : Nat) : Bool := decide (zs.length = m) && goodTo zs m zs.length
def thOf (ev : Nat → Ev) (zs : List Int) : List Int := zs.map fun z => (ev z.toNat).th
def schedZ (es : List Ev) (zs : List Int) : List Int := if orderOk zs es.length then thOf (evAt es) zs else []
def schedW (es : List Ev) (zs : List Int) : Int := if orderOk zs es.length then 0 else 2
def metB (zs : List Int) (k x : Nat) : Bool := decide ((x : Int) ∈ zs.take k)
theorem met_set {zs : List Int} {m k z : Nat} (hz : z < m) (hk : zs[k]? = some (z : Int)) : (cellsB m (metB zs k)).set z (.bool true) = cellsB m (metB zs (k + 1)) := by
  have ht : zs.take (k + 1) = zs.take k ++ [(z : Int)] := by rw [List.take_add_one, hk]; rfl
  have e : true = metB zs (k + 1) z := by unfold metB; rw [ht]; simp
  rw [e]
  refine cellsB_set hz fun x _ hx => ?_
  unfold metB
  rw [ht, Bool.eq_iff_iff, decide_eq_true_eq, decide_eq_true_eq, List.mem_append]
  constructor
  · exact fun h => .inl h
  · rintro (h | h)
    · exact h
    · simp at h
      omega
theorem met_none (zs : List Int) (m : Nat) : cellsB m (metB zs 0) = List.replicate m (.bool false) := by
  apply List.ext_getElem?
  intro x
  rcases Nat.lt_or_ge x m with hx | hx
  · rw [cellsB_at hx, List.getElem?_replicate, if_pos hx]
    simp [metB]
  · rw [List.getElem?_eq_none (by rw [cellsB_length]; exact hx), List.getElem?_eq_none (by simp; exact hx)]
theorem thOf_next {ev : Nat → Ev} {zs : List Int} {k z : Nat} (hk : zs[k]? = some (z : Int)) : thOf ev (zs.take (k + 1)) = thOf ev (zs.take k) ++ [(ev z).th] := by
  have ht : zs.take (k + 1) = zs.take k ++ [(z : Int)] := by rw [List.take_add_one, hk]; rfl
  rw [ht]
  simp [thOf]

set_option maxRecDepth 100000 in
set_option maxHeartbeats 6400000 in
theorem refSchedule_any (es : List Ev) (zs : List Int) (a b : Option Addr) (c d : Nat) (w : World) (hE : RowEv w a es) (hr : RowI w b zs) (hc : es.length ≤ c) (hd : zs.length ≤ d) (hm : es.length ≤ 1048576) (hm2 : zs.length ≤ 1048576) :
    Calls Try.prog 17 #[.slice a es.length c, .slice b zs.length d] w fun r w' => ∃ ap cp, r = .returned (.tuple #[.slice ap (schedZ es zs).length cp, .int .i64 (schedW es zs)]) ∧ (schedZ es zs).length ≤ cp ∧ RowI w' ap (schedZ es zs) ∧ Below w.heap.size w w' := by
  obtain ⟨i0, hi0, hz0, hz1, hz2⟩ := info_parts Try.info4
  obtain ⟨ev, hev⟩ : ∃ ev, Hid (ev = evAt es) := ⟨_, (rfl : _ = evAt _)⟩
  obtain ⟨m, hmm⟩ : ∃ m, Hid (m = es.length) := ⟨_, (rfl : _ = es.length)⟩
  obtain ⟨N, hN⟩ : ∃ N, Hid (N = zs.length) := ⟨_, (rfl : _ = zs.length)⟩
  obtain ⟨Z, hZ⟩ : ∃ Z, Hid (Z = schedZ es zs) := ⟨_, (rfl : _ = schedZ _ _)⟩
  obtain ⟨V, hV⟩ : ∃ V, Hid (V = schedW es zs) := ⟨_, (rfl : _ = schedW _ _)⟩
  have HR : Hid (RowEv w a es ∧ RowI w b zs) := ⟨hE, hr⟩
  have HBAD : Hid (orderOk zs m = false → Z = [] ∧ V = 2) := fun h => by
    rw [hZ.out, hV.out, schedZ, schedW, ← hmm.out, h]
    exact ⟨rfl, rfl⟩
  have HGOOD : Hid (orderOk zs m = true → Z = thOf ev zs ∧ V = 0) := fun h => by
    rw [hZ.out, hV.out, schedZ, schedW, ← hmm.out, h, hev.out]
    exact ⟨rfl, rfl⟩
  rw [← hmm.out, ← hN.out, ← hZ.out, ← hV.out]
  rw [← hmm.out] at hc hm
  rw [← hN.out] at hd hm2
  clear hE hr
  go_enter Try.func17, Try.ntmps17
  go_wp2_with (at_make; refine wpList_make_full _ rfl (.tmp 10) (.tmp 10) 65 rfl w.heap.size 4 i0 (.bool false) 1 Try.underlying65 hi0 hz0 hz1 .i64 .i64 _ _ m rfl rfl rfl rfl (by rw [hz2]; omega) (by unfold maxLen; omega) (Nat.le_refl _) ?_)
  intro w4 hown4 hgrow4
  obtain ⟨gi, hgi⟩ : ∃ g, Hid (g = w.heap.size) := ⟨_, (rfl : _ = w.heap.size)⟩
  have HB4 : Hid (Below w.heap.size w w4) := (Below.refl _ w).grown hgrow4 (Nat.le_refl _) (by intro k hk; cases hk)
  have HA4 : Hid (At 4 w4 gi (cellsB m (metB zs 0))) := by
    obtain ⟨_, ⟨h, _⟩ | ⟨g, cp, cur, h, hg, hh, _, _, hs, ht⟩⟩ := hown4
    · cases h
    · cases h
      show At _ _ _ _
      rw [hgi.out, met_none, ← toList_madeCells_one]
      unfold At
      rw [hh]
      have e : cur.toList = (madeCells #[Value.bool false] m).toList := by rw [← ht, List.take_of_length_le (by simp [hs])]
      rw [← e]
  rw [← hgi.out]
  obtain ⟨base, hbase⟩ : ∃ b, Hid (b = w4.heap.size) := ⟨_, (rfl : _ = w4.heap.size)⟩
  have hgb2 : gi < base := by rw [hbase.out]; exact HA4.out.lt
  clear hown4 hgrow4
  by_cases hNm : N = m
  · have hNm2 : Hid (N = m) := hNm
    subst hNm
    go_wp2_with fail
    go_loopw [7, 8] (fun v t wr => ∃ k : Nat, k ≤ N ∧ t = .int .i64 k ∧ Hid (goodTo zs N k = true) ∧ Hid (OwnI base wr v (thOf ev (zs.take k))) ∧ Hid (At 4 wr gi (cellsB N (metB zs k))) ∧ Hid (Below w.heap.size w wr) ∧ Hid (base ≤ wr.heap.size)) (fun _ t _ => N - (intOf t).toNat)
    case atStart => exact ⟨0, Nat.zero_le _, rfl, (show _ = _ from rfl), World.ownsRow_nil _ _ _ _, HA4.out, HB4.out, (by show _ ≤ _; rw [hbase.out]; exact Nat.le_refl _)⟩
    case round =>
      obtain ⟨k, hk, rfl, hgood, hown, hA, hB, hbs⟩ := hrel
      clear HA4 HB4
      by_cases hkN : k < N
      · obtain ⟨z, hz⟩ : ∃ z, zs[k]? = some z := ⟨zs[k]'(by rw [← hN.out]; exact hkN), by rw [List.getElem?_eq_getElem]⟩
        obtain ⟨gb, ob, rfl, q1⟩ := (HR.out.2.below hB.out).at k z hz
        have hgd : zs.getD k 0 = z := by simp [List.getD, hz]
        have k1 : (k : Int) < (N : Int) := by omega
        have bad : goodAt zs N k = false → Z = [] ∧ V = 2 := fun h => HBAD.out (by
          unfold orderOk
          rw [← hN.out, Bool.and_eq_false_iff]
          exact .inr (goodTo_mono (show k + 1 ≤ N from hkN) (by rw [goodTo_step, h, Bool.and_false])))
        have HX : Hid (zs[k]? = some z) := hz
        clear hz
        by_cases hz0 : z < 0
        · obtain ⟨hZ0, hV0⟩ := bad (by unfold goodAt; rw [hgd, decide_eq_false (by omega)]; rfl)
          have HZ0 : Hid (Z = [] ∧ V = 2) := ⟨hZ0, hV0⟩
          clear hZ0 hV0
          clear bad
          go_wp2_with fail
          go_ret2
          exact ⟨none, 0, by rw [HZ0.out.1, HZ0.out.2]; rfl, by rw [HZ0.out.1]; exact Nat.le_refl _, .inl HZ0.out.1, hB.out⟩
        · by_cases hzN : (N : Int) ≤ z
          · obtain ⟨hZ0, hV0⟩ := bad (by unfold goodAt; rw [hgd, decide_eq_false (by omega)]; rfl)
            have HZ0 : Hid (Z = [] ∧ V = 2) := ⟨hZ0, hV0⟩
            clear hZ0 hV0
            clear bad
            go_wp2_with fail
            go_ret2
            exact ⟨none, 0, by rw [HZ0.out.1, HZ0.out.2]; rfl, by rw [HZ0.out.1]; exact Nat.le_refl _, .inl HZ0.out.1, hB.out⟩
          · obtain ⟨x, rfl⟩ : ∃ x : Nat, z = (x : Int) := ⟨z.toNat, by omega⟩
            have hxN : x < N := by omega
            have hin : wr.cell? ⟨gi, x, none⟩ = some (.bool (metB zs k x)) := by rw [hA.out.cell]; exact cellsB_at hxN
            obtain ⟨M, hM⟩ : ∃ M, M = metB zs k x := ⟨_, rfl⟩
            rw [← hM] at hin
            have z3 : (x : Int) < (N : Int) := by omega
            have z4 : ¬ (x : Int) < 0 := by omega
            have z5 : ¬ (N : Int) ≤ (x : Int) := by omega
            cases M
            · have hg1 : goodAt zs N k = true := by
                unfold goodAt
                rw [hgd, decide_eq_true ⟨by omega, z3⟩]
                unfold metB at hM
                rw [← hM]
                rfl
              have HG2 : Hid (goodTo zs N (k + 1) = true) := by show _ = _; rw [goodTo_step, hgood.out, hg1]; rfl
              obtain ⟨ex, hex⟩ : ∃ e, es[x]? = some e := ⟨es[x]'(by rw [← hmm.out]; exact hxN), by rw [List.getElem?_eq_getElem]⟩
              have hevx : Hid (ev x = ex) := by show _ = _; rw [hev.out]; exact evAt_eq hex
              have HXE : Hid (es[x]? = some ex) := hex
              clear bad hz0 hzN hgd hg1 hM hex
              obtain ⟨ga, oa, rfl, -⟩ := HR.out.1.at x ex HXE.out
              have HAk : Hid (At 4 wr gi (cellsB N (metB zs k))) := hA.out
              go_wp2_with (first | (refine wpList_store1 rfl 4 (.tmp 51) (.const (.bool true)) rfl gi x (.bool true) rfl rfl 4 _ HAk.out (by rw [cellsB_length]; omega) (by kernel_rfl) rfl rfl ?_; intro w5 hA5 hb5 hs5; refine Hid.out ?_))
              refine hidU ?_
              have HA5 : Hid (At 4 w5 gi (cellsB N (metB zs (k + 1)))) := by
                show At _ _ _ _
                rw [← met_set hxN HX.out]
                exact hA5
              have HO5 : Hid _ := hown.out.but hb5 hgb2
              have HB5 : Hid (Below w.heap.size w w5) := hb5.below hB.out (by rw [hgi.out]; exact Nat.le_refl _) hB.out.size
              have hsz : base ≤ w5.heap.size := by rw [hs5]; exact hbs.out
              obtain ⟨g6, o6, hg6, q5⟩ := (HR.out.2.below HB5.out).at k _ HX.out
              cases hg6
              obtain ⟨g6, o6, hg6, hre⟩ := (HR.out.1.below HB5.out).at x ex HXE.out
              cases hg6
              obtain ⟨e5, -, -⟩ := range_cells hre
              have hlo : (thOf ev (zs.take k)).length ≤ 1048576 := by
                unfold thOf
                rw [List.length_map]
                have := List.length_take_le k zs
                omega
              have HTN : Hid (thOf ev (zs.take (k + 1)) = thOf ev (zs.take k) ++ [ex.th]) := by show _ = _; rw [thOf_next HX.out, hevx.out]
              obtain ⟨xt, xk, xo⟩ := ex
              dsimp only at e5 HTN
              clear hA5 hb5 hs5 HAk hown hA hB hbs hre q1 hin hgood
              go_wp2_with (first | (at_builtin; refine appI (.tmp 52) (.tmp 61) xt base _ (thOf ev (zs.take k)) rfl rfl rfl rfl HO5.out hlo hsz ?_; intro v6 w6 hown6 hb6))
              go_roundw
              case rel =>
                refine ⟨k + 1, by omega, by go_num, HG2.out, (show OwnI _ _ _ _ by rw [HTN.out]; exact hown6), ?_, ?_, (show _ ≤ _ from Nat.le_trans hsz hb6.size)⟩
                · show At _ _ _ _
                  unfold At
                  rw [hb6.block gi hgb2]
                  exact HA5.out
                · exact HB5.out.trans (hb6.mono (by rw [← hgi.out]; omega))
              case measure => simp [intOf]; omega
            · have hg1 : goodAt zs N k = false := by
                unfold goodAt
                unfold metB at hM
                rw [hgd, ← hM]
                simp
              obtain ⟨hZ0, hV0⟩ := bad hg1
              have HZ0 : Hid (Z = [] ∧ V = 2) := ⟨hZ0, hV0⟩
              clear hZ0 hV0
              clear bad hg1 hM
              go_wp2_with fail
              go_ret2
              exact ⟨none, 0, by rw [HZ0.out.1, HZ0.out.2]; rfl, by rw [HZ0.out.1]; exact Nat.le_refl _, .inl HZ0.out.1, hB.out⟩
      · have hfin := HGOOD.out (by
          unfold orderOk
          rw [← hN.out, decide_eq_true rfl]
          have := hgood.out
          rwa [show k = N by omega] at this)
        obtain ⟨hZ2, hV0⟩ := hfin
        have HV0 : Hid (V = 0) := hV0
        clear hV0
        have HZ2 : Hid (thOf ev (zs.take k) = Z) := by show _ = _; rw [hZ2, List.take_of_length_le (by rw [← hN.out]; omega)]
        obtain ⟨ap, cp, rfl, hcp, hrp⟩ := hown.out.row
        rw [HZ2.out] at hcp hrp ⊢
        have HRP : Hid (RowI wr ap Z) := hrp
        have k1 : ¬ (k : Int) < (N : Int) := by omega
        clear hZ2 hrp
        go_wp2_with fail
        go_ret2
        exact ⟨ap, cp, by rw [HV0.out]; rfl, hcp, HRP.out, hB.out⟩
  · obtain ⟨hZ0, hV0⟩ := HBAD.out (by unfold orderOk; rw [← hN.out, decide_eq_false hNm]; rfl)
    have HZ0 : Hid (Z = [] ∧ V = 2) := ⟨hZ0, hV0⟩
    clear hZ0 hV0
    have k1 : ¬ (N : Int) = (m : Int) := by omega
    have k2 : ((N : Int) == (m : Int)) = false := by rw [beq_eq_false_iff_ne]; omega
    clear hNm
    go_wp2_with fail
    go_ret2
    exact ⟨none, 0, by rw [HZ0.out.1, HZ0.out.2]; rfl, by rw [HZ0.out.1]; exact Nat.le_refl _, .inl HZ0.out.1, HB4.out⟩
end Go.Proofs.Ytbamocalhojmeaa
