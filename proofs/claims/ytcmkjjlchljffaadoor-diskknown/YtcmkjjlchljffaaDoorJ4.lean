/- Joined texts of the proof. -/
import Derived.Test.YtcmkjjlchljffaaDoorJ3
import Derived.Maps.RangeWalk
import Derived.Sort.Walk0
import Derived.Test.YtcmkjjlchljffaaDoorJ1

/- Ranging over a map of texts; the sorted names of a map. -/
namespace Go.Proofs.YtcmkjjlchljffaaDoor
open Go.RowKit Go.Maps Go.MapKept Go.WideMaps
set_option linter.unusedVariables false
set_option maxRecDepth 100000

section
variable {α : Type} {t : Mt α} {w w' : World} {b r : Nat} {m : List (ByteArray × α)}
/-- A range over a map under way: what was told, what is left. -/
def Rg (t : Mt α) (w : World) (b r : Nat) (m dn lf : List (ByteArray × α)) : Prop :=
  ∃ es clock since seen c0, w.heap[b]? = some (.map es clock) ∧ Stamped es clock ∧ es.toList.map (fun e => (e.key, e.val)) = m.map (fun p => (Value.string p.1, t.val p.2)) ∧
    w.heap[r]? = some (.mapIter (some b) since seen c0) ∧ (∀ x ∈ es.toList, x.born < since) ∧ since ≤ c0 ∧ since ≤ clock ∧
    (es.toList.filter fun e => !seen.contains e.born).map (fun e => (e.key, e.val)) = lf.map (fun p => (Value.string p.1, t.val p.2)) ∧ (dn ++ lf).Perm m
theorem Rg.same {dn lf : List (ByteArray × α)} (h : Rg t w b r m dn lf) (e1 : w'.heap[b]? = w.heap[b]?) (e2 : w'.heap[r]? = w.heap[r]?) : Rg t w' b r m dn lf := by
  obtain ⟨es, clock, since, seen, c0, h1, h2, h3, h4, h5⟩ := h
  exact ⟨es, clock, since, seen, c0, e1.trans h1, h2, h3, e2.trans h4, h5⟩
theorem Rg.lt {dn lf : List (ByteArray × α)} (h : Rg t w b r m dn lf) : b < w.heap.size ∧ r < w.heap.size := by
  obtain ⟨es, clock, since, seen, c0, h1, h2, h3, h4, h5⟩ := h
  exact ⟨heapLt h1, heapLt h4⟩
theorem Rg.below {dn lf : List (ByteArray × α)} (h : Rg t w b r m dn lf) (hb : Below w.heap.size w w') : Rg t w' b r m dn lf := h.same (hb.block b h.lt.1) (hb.block r h.lt.2)
theorem Rg.perm {dn lf : List (ByteArray × α)} (h : Rg t w b r m dn lf) : (dn ++ lf).Perm m := by
  obtain ⟨es, clock, since, seen, c0, h1, h2, h3, h4, h5, h6, h7, h8, h9⟩ := h
  exact h9
theorem Rg.left {dn lf : List (ByteArray × α)} (h : Rg t w b r m dn lf) : w.rangeLeft b r = lf.length := by
  obtain ⟨es, clock, since, seen, c0, h1, h2, h3, h4, h5, h6, h7, h8, h9⟩ := h
  have := congrArg List.length h8
  simp only [List.length_map] at this
  simp only [World.rangeLeft, h1, h4, leftOf]
  rw [← this, ← Array.toList_filter, Array.length_toList]
theorem MapS.range (h : MapS t w b m) : ∃ w', (Instr.range t.T (.map (some b))).run Tryd.prog w = .ok (.pointer (some ⟨w.heap.size, 0, none⟩)) w' ∧ Rg t w' b w.heap.size m [] m ∧ Below w.heap.size w w' ∧ w'.heap.size = w.heap.size + 1 := by
  have hlt := h.lt
  obtain ⟨es, clock, h1, h2, h3, h4⟩ := h
  refine ⟨_, run_range_map w t.T 9 t.E b es clock t.und h1, ⟨es, clock, clock, #[], clock, ((MapKept.heap_alloc w _).2 b hlt).trans h1, h2, h3, (MapKept.heap_alloc w _).1, h2.1, Nat.le_refl _, Nat.le_refl _, ?_, by simp⟩, (Below.refl _ w).alloc (Nat.le_refl _) _, by simp⟩
  rw [List.filter_eq_self.2 (fun x _ => by simp)]
  exact h3
theorem filter_split {α : Type} (f g : α → Bool) (l1 l2 : List α) (e : α) (he : g e = false) (h1 : ∀ x ∈ l1 ++ l2, g x = f x) (hf : f e = true) : (l1 ++ e :: l2).filter f = l1.filter f ++ e :: l2.filter f ∧ (l1 ++ e :: l2).filter g = l1.filter f ++ l2.filter f := by
  constructor
  · rw [List.filter_append, List.filter_cons_of_pos hf]
  · rw [List.filter_append, List.filter_cons_of_neg (by rw [he]; simp)]
    congr 1
    · exact List.filter_congr fun x hx => h1 x (List.mem_append.2 (.inl hx))
    · exact List.filter_congr fun x hx => h1 x (List.mem_append.2 (.inr hx))
theorem Rg.next {dn lf : List (ByteArray × α)} (h : Rg t w b r m dn lf) (ty : TypeId) :
    (lf = [] ∧ (Instr.next (.pointer (some ⟨r, 0, none⟩)) false ty).run Tryd.prog w = .ok (.tuple #[.bool false]) w) ∨
    ∃ p lf' w', (Instr.next (.pointer (some ⟨r, 0, none⟩)) false ty).run Tryd.prog w = .ok (.tuple #[.bool true, .string p.1, t.val p.2]) w' ∧ lf.Perm (p :: lf') ∧ Rg t w' b r m (dn ++ [p]) lf' ∧ But r w w' ∧ w'.heap.size = w.heap.size ∧
      (Instr.entry (.pointer (some ⟨r, 0, none⟩))).run Tryd.prog w' = .ok (.tuple #[.string p.1, t.val p.2]) w' := by
  obtain ⟨es, clock, since, seen, c0, h1, h2, h3, h4, h5, h6, h7, h8, h9⟩ := h
  have hst := (stamped_iff es clock).1 h2
  rcases run_next_at (P := Tryd.prog) w ty r b since c0 seen es clock h4 h1 h5 h6 with ⟨h0, hrun⟩ | ⟨e, he, w1, hal, hrun⟩
  · refine .inl ⟨?_, hrun⟩
    have e1 : (es.toList.filter fun e => !seen.contains e.born) = [] := by
      unfold leftOf at h0
      rw [← Array.toList_filter]
      rw [Array.eq_empty_of_size_eq_zero h0]
    rw [e1] at h8
    cases lf with
    | nil => rfl
    | cons a l => cases h8
  · obtain ⟨hem, hes⟩ := mem_left he
    obtain ⟨l1, l2, hl⟩ := List.append_of_mem hem
    have hnd : (es.toList.map (·.born)).Nodup := h2.2.1
    have hne : ∀ x ∈ l1 ++ l2, (x.born == e.born) = false := by
      rw [hl, List.map_append, List.map_cons, List.nodup_append] at hnd
      obtain ⟨n1, n2, n3⟩ := hnd
      rw [List.nodup_cons] at n2
      intro x hx
      rw [beq_eq_false_iff_ne]
      rcases List.mem_append.1 hx with q | q
      · exact n3 _ (List.mem_map.2 ⟨x, q, rfl⟩) _ (.head _)
      · intro e1
        exact n2.1 (e1 ▸ List.mem_map.2 ⟨x, q, rfl⟩)
    obtain ⟨f1, f2⟩ := filter_split (fun x : MapEntry => !seen.contains x.born) (fun x => !(seen.push e.born).contains x.born) l1 l2 e (by rw [contains_push]; simp) (fun x hx => by rw [contains_push, hne x hx, Bool.or_false]) (by rw [hes]; rfl)
    rw [← hl] at f1 f2
    rw [f1, List.map_append, List.map_cons] at h8
    obtain ⟨a1, a2, rfl, b1, b2⟩ := List.map_eq_append_iff.1 h8.symm
    cases a2 with
    | nil => cases b2
    | cons p a2 =>
      rw [List.map_cons] at b2
      injection b2 with b2 b3
      injection b2 with k1 k2
      have hr1 : w1.heap[r]? = some (.mapIter (some b) since seen c0) := by rcases hal with rfl | rfl <;> exact h4
      have hb1 : w1.heap[b]? = some (.map es clock) := by rcases hal with rfl | rfl <;> exact h1
      have hset := heap_set (o' := .mapIter (some b) since (seen.push e.born) clock) hr1
      have hbr : b ≠ r := by rintro rfl; rw [h1] at h4; cases h4
      have hb' := (hset.2 b hbr).trans hb1
      have hen := run_entry_at (P := Tryd.prog) (ChangeMaps.setBlock w1 r (.mapIter (some b) since (seen.push e.born) clock)) r b since seen es clock e hset.1 hb' hem hnd
      rw [← k1, ← k2] at hrun hen
      refine .inr ⟨p, a1 ++ a2, _, hrun, List.perm_middle, ⟨es, clock, since, seen.push e.born, clock, hb', h2, h3, hset.1, h5, h7, h7, ?_, ?_⟩, ?_, ?_, hen⟩
      · rw [f2, List.map_append, List.map_append, b1, b3]
      · rw [List.append_assoc]
        exact (show (dn ++ p :: (a1 ++ a2)).Perm m from (List.Perm.append_left dn (List.perm_middle (l₁ := a1) (l₂ := a2) (a := p)).symm).trans h9)
      · rcases hal with rfl | rfl <;> exact ⟨rfl, rfl, rfl, by simp [ChangeMaps.setBlock], fun i _ hi => hset.2 i hi⟩
      · rcases hal with rfl | rfl <;> simp [ChangeMaps.setBlock]
end
section
variable {α : Type} (t : Mt α) {o : Oper} {a : Act} {w : World} {Q : Exit → Act → World → Prop} {ops : Array Oper} {rest : List Oper} {b r : Nat} {m dn lf : List (ByteArray × α)}
theorem wpList_range (hg : o.guard = none) (mo : Operand) (hop : o.op = Op.range t.T mo) (hm : a.eval mo = .map (some b)) (h : MapS t w b m)
    (hK : ∀ w', Rg t w' b w.heap.size m [] m → Below w.heap.size w w' → w'.heap.size = w.heap.size + 1 → wpList Tryd.prog ops Q rest (a.put o.dst (.pointer (some ⟨w.heap.size, 0, none⟩))) w') : wpList Tryd.prog ops Q (o :: rest) a w := by
  refine wpList_plain hg fun K' hK' => ?_
  obtain ⟨w', hrun, r1, r2, r3⟩ := h.range
  unfold Oper.wp
  simp [execOp, hop, hm, hrun, Result.andThen]
  exact hK' _ _ (hK w' r1 r2 r3)
theorem wpList_next (hg : o.guard = none) (it : Operand) (hop : o.op = Op.next it false) (hit : a.eval it = .pointer (some ⟨r, 0, none⟩)) (h : Rg t w b r m dn lf)
    (hDone : lf = [] → wpList Tryd.prog ops Q rest (a.put o.dst (.tuple #[.bool false])) w)
    (hMore : ∀ p lf' w', lf.Perm (p :: lf') → Rg t w' b r m (dn ++ [p]) lf' → But r w w' → w'.heap.size = w.heap.size →
      (Instr.entry (.pointer (some ⟨r, 0, none⟩))).run Tryd.prog w' = .ok (.tuple #[.string p.1, t.val p.2]) w' → wpList Tryd.prog ops Q rest (a.put o.dst (.tuple #[.bool true, .string p.1, t.val p.2])) w') : wpList Tryd.prog ops Q (o :: rest) a w := by
  refine wpList_plain hg fun K' hK' => ?_
  unfold Oper.wp
  rcases h.next o.type with ⟨h0, hrun⟩ | ⟨p, lf', w', hrun, r1, r2, r3, r4, r5⟩
  · simp [execOp, hop, hit, hrun, Result.andThen]
    exact hK' _ _ (hDone h0)
  · simp [execOp, hop, hit, hrun, Result.andThen]
    exact hK' _ _ (hMore p lf' w' r1 r2 r3 r4 r5)
/-- An update as one step of a region that draws its order. -/
theorem wp_upd {K : Act → World → Prop} (mo xo vo : Operand) (hop : o.op = Op.mapUpdate t.T mo xo vo) (s : ByteArray) (x : α) (hm : a.eval mo = .map (some b)) (hx : a.eval xo = .string s) (hv : a.eval vo = t.val x) (h : MapS t w b m) (hs : s.size ≤ maxLen)
    (hK : ∀ w', MapS t w' b (updM m s x) → But b w w' → w'.heap.size = w.heap.size → K (a.put o.dst undef) w') : o.wp Tryd.prog a w K Q := by
  obtain ⟨w', hrun, r1, r2, r3⟩ := h.update hs x
  unfold Oper.wp
  simp [execOp, hop, hm, hx, hv, hrun, Result.andThen]
  exact hK w' r1 r2 r3
theorem wp_del {K : Act → World → Prop} (mo xo : Operand) (hop : o.op = Op.call { callee := Callee.builtin Builtin.delete, args := #[mo, xo], argTypes := #[t.T, 9] }) (s : ByteArray) (hm : a.eval mo = .map (some b)) (hx : a.eval xo = .string s) (h : MapS t w b m) (hs : s.size ≤ maxLen)
    (hK : ∀ w', MapS t w' b (delM m s) → But b w w' → w'.heap.size = w.heap.size → K (a.put o.dst (.tuple #[])) w') : o.wp Tryd.prog a w K Q := by
  obtain ⟨w', hrun, r1, r2, r3⟩ := h.delete hs o.type
  unfold Oper.wp
  simp [execOp, hop, resolve, invoke, builtin, hm, hx, hrun, Result.andThen]
  exact hK w' r1 r2 r3
end
end Go.Proofs.YtcmkjjlchljffaaDoor

/- The landed disk: a file is put into the map; a file is cut, or made safe. -/
namespace Go.Proofs.YtcmkjjlchljffaaDoor
open Go.RowKit
set_option linter.unusedVariables false
set_option maxRecDepth 100000
set_option maxHeartbeats 6400000

theorem size66 (w : World) : (sizeOf 66).run Tryd.prog w = .ok 3 w := by kernel_rfl
/-- put: the map has the file; nothing else has changed. -/
theorem put_any (g mb : Nat) (m : FMap) (a : Option Addr) (n c : Nat) (bs : List UInt8) (sf : Nat) (hd : Bool) (nm : ByteArray) (w : World) (q : w.cell? ⟨g, 2, none⟩ = some (.map (some mb))) (hp : MapS mF w mb m) (hs40 : nm.size ≤ 281474976710656) :
    Calls Tryd.prog 38 #[.pointer (some ⟨g, 0, none⟩), .string nm, .agg #[.slice a n c, .int .i64 (sf : Int), .bool hd]] w fun r w' => r = .returned (.tuple #[]) ∧ MapS mF w' mb (updM m nm ⟨.slice a n c, bs, sf, hd⟩) ∧ ∃ y, Below w.heap.size w y ∧ But mb y w' := by
  have hsz : nm.size ≤ maxLen := by unfold maxLen; omega
  go_enter Tryd.func38, Tryd.ntmps38
  go_wp2
  obtain ⟨y, hx⟩ : ∃ x, x = w.alloc (.cells #[.slice a n c, .int .i64 (sf : Int), .bool hd] 66) := ⟨_, rfl⟩
  have hA : At 66 y w.heap.size [.slice a n c, .int .i64 (sf : Int), .bool hd] := by rw [hx]; exact _root_.Go.heap_alloc_new w _
  have hBx : Hid (Below w.heap.size w y) := by rw [hx]; exact (Below.refl _ w).alloc (Nat.le_refl _) _
  have HP := hidU (hp.below hBx.out)
  have q := (hBx.out.cell (lt_of_cell q)).trans q
  have c0 : y.cell? ⟨w.heap.size, 0, none⟩ = some (.slice a n c) := by rw [hA.cell]; rfl
  have c1 : y.cell? ⟨w.heap.size, 1, none⟩ = some (.int .i64 (sf : Int)) := by rw [hA.cell]; rfl
  have c2 : y.cell? ⟨w.heap.size, 2, none⟩ = some (.bool hd) := by rw [hA.cell]; rfl
  try rw [← hx]
  clear hx hp hA
  have hS0 : Below y.heap.size y y.drew := Below.drew (Below.refl _ _)
  refine wp_region_S (S := fun xS => Below y.heap.size y xS) (St := [7]) (by kernel_rfl) hS0 ?_
  obtain ⟨x0, hx0⟩ : ∃ x, x = y.drew := ⟨_, rfl⟩
  rw [← hx0] at hS0  ⊢
  clear hx0
  intro hH
  refine wpAnyS_pure (i := 0) (oi := { dst := some 6, op := .move (.tmp 0), type := _, pos := _, after := _, guard := none }) (v := .pointer (some ⟨g, 0, none⟩)) rfl (by kernel_rfl) (by kernel_rfl) (by kernel_rfl) (by kernel_rfl) (fun _ _ _ h => h) (Or.inl ⟨by rfl, ?_⟩) hH (fun hH => ?_)
  · intro wS hSw
    go_simp
  simp only [Act.put, List.setIfInBounds_toArray, List.set_cons_zero, List.set_cons_succ]
  refine wpAnyS_pure (i := 1) (oi := { dst := some 7, op := .nilCheck (.tmp 6), type := _, pos := _, after := _, guard := none }) (v := .pointer (some ⟨g, 0, none⟩)) rfl (by kernel_rfl) (by kernel_rfl) (by kernel_rfl) (by kernel_rfl) (fun _ _ _ h => h) (Or.inl ⟨by rfl, ?_⟩) hH (fun hH => ?_)
  · intro wS hSw
    go_simp
  simp only [Act.put, List.setIfInBounds_toArray, List.set_cons_zero, List.set_cons_succ]
  refine wpAnyS_pure (i := 2) (oi := { dst := some 8, op := .fieldAddr 35 (.tmp 7) 2, type := _, pos := _, after := _, guard := none }) (v := .pointer (some ⟨g, 2, none⟩)) rfl (by kernel_rfl) (by kernel_rfl) (by kernel_rfl) (by kernel_rfl) (fun _ _ _ h => h) (Or.inl ⟨by rfl, ?_⟩) hH (fun hH => ?_)
  · intro wS hSw
    go_simp
  simp only [Act.put, List.setIfInBounds_toArray, List.set_cons_zero, List.set_cons_succ]
  refine wpAnyS_take [7] (i := 3) (oi := { dst := some 9, op := .load 33 (.tmp 8), type := _, pos := _, after := _, guard := none }) (v := .map (some mb)) rfl (by kernel_rfl) (by kernel_rfl) (by kernel_rfl) (by kernel_rfl) (by kernel_rfl) (by kernel_rfl) (by kernel_rfl) (fun _ _ _ h => h) (Or.inl ⟨by rfl, ?_⟩) hH (fun hH => ?_)
  · intro wS hSw
    have z0 := (hSw.cell (lt_of_cell q)).trans q
    go_simp
  simp only [Act.put, List.setIfInBounds_toArray, List.set_cons_zero, List.set_cons_succ]
  refine wpAnyS_pure (i := 4) (oi := { dst := some 10, op := .move (.tmp 1), type := _, pos := _, after := _, guard := none }) (v := .string nm) rfl (by kernel_rfl) (by kernel_rfl) (by kernel_rfl) (by kernel_rfl) (fun _ _ _ h => h) (Or.inl ⟨by rfl, ?_⟩) hH (fun hH => ?_)
  · intro wS hSw
    go_simp
  simp only [Act.put, List.setIfInBounds_toArray, List.set_cons_zero, List.set_cons_succ]
  refine wpAnyS_take [7] (i := 6) (oi := { dst := some 12, op := .load 66 (.tmp 5), type := _, pos := _, after := _, guard := none }) (v := .agg #[.slice a n c, .int .i64 (sf : Int), .bool hd]) rfl (by kernel_rfl) (by kernel_rfl) (by kernel_rfl) (by kernel_rfl) (by kernel_rfl) (by kernel_rfl) (by kernel_rfl) (fun _ _ _ h => h) (Or.inl ⟨by rfl, ?_⟩) hH (fun hH => ?_)
  · intro wS hSw
    have z0 := (hSw.cell (lt_of_cell c0)).trans c0
    have z1 := (hSw.cell (lt_of_cell c1)).trans c1
    have z2 := (hSw.cell (lt_of_cell c2)).trans c2
    go_simp
  simp only [Act.put, List.setIfInBounds_toArray, List.set_cons_zero, List.set_cons_succ]
  refine wpAnyS_ready (rs := [5]) (by kernel_rfl) (by simp) ?_
  refine AllReadyS.cons (o := { dst := some 11, op := .call { callee := .value (.func 61), args := #[.tmp 10], argTypes := #[9] }, type := _, pos := _, after := _, guard := none }) rfl (fun K hK => ?_) AllReadyS.nil
  rw [if_pos (by rfl)]
  go_wp2_with (go_at_call 61; refine (str_clone nm x0 hs40).mono ?_; rintro e x1 ⟨rfl, hb1⟩)
  have hS1 := hS0.trans (hb1.mono hS0.size)
  refine hK.out _ _ (Hold.of hS1) (fun hH => ?_)
  clear hK K
  refine wpAnyS_ready (rs := [7]) (by kernel_rfl) (by simp) ?_
  refine AllReadyS.cons (o := { dst := none, op := .mapUpdate 33 (.tmp 9) (.tmp 11) (.tmp 12), type := _, pos := _, after := _, guard := none }) rfl (fun K hK => ?_) AllReadyS.nil
  rw [if_pos (by rfl)]
  refine wp_upd mF (.tmp 9) (.tmp 11) (.tmp 12) rfl nm ⟨.slice a n c, bs, sf, hd⟩ rfl rfl rfl (HP.out.below hS1) hsz ?_
  intro x2 hM2 hb2 hs2
  refine hK.out _ _ (Hold.over (s := 7) (by decide) (by rfl)) (fun hH => ?_)
  clear hK K
  refine wpAnyS_done (by kernel_rfl) ?_ _
  go_end0
  exact ⟨rfl, hM2, _, (hBx.out.trans (hS1.mono hBx.out.size)), hb2⟩
end Go.Proofs.YtcmkjjlchljffaaDoor

/- The landed disk: a file is cut, or made safe. -/
namespace Go.Proofs.YtcmkjjlchljffaaDoor
open Go.RowKit
set_option linter.unusedVariables false
set_option maxRecDepth 100000
set_option maxHeartbeats 3200000

theorem z66 : (Tryd.prog.info? 66).map (fun i => (i.zero, i.size)) = some (some (.agg [Value.slice none 0 0, .int .i64 0, .bool false].toArray), 3) := by kernel_rfl
theorem i66 : (Tryd.prog.info? 66).map (·.size) = some 3 := by kernel_rfl
theorem one3 {a : Option Addr} {n c : Nat} {x : Int} {b : Bool} : ∀ v ∈ [Value.slice a n c, .int .i64 x, .bool b], v.oneCell' = true := by
  intro v hv
  simp at hv
  rcases hv with rfl | rfl | rfl <;> rfl
/-- safely: all of a file's bytes are safe. -/
theorem safely_any (a : Option Addr) (n c : Nat) (sf : Nat) (hd : Bool) (w : World) : Calls Tryd.prog 55 #[.agg #[.slice a n c, .int .i64 (sf : Int), .bool hd]] w fun r w' => r = .returned (.agg #[.slice a n c, .int .i64 (n : Int), .bool hd]) ∧ Below w.heap.size w w' := by
  go_enter Tryd.func55, Tryd.ntmps55
  go_wp2_with (first
    | (refine wpList_box_at rfl 66 (.tmp 0) rfl [.slice a n c, .int .i64 (sf : Int), .bool hd] rfl ?_; intro w1 hA1 hb1 hs1)
    | (refine wpList_alloc_at rfl 66 rfl [.slice none 0 0, .int .i64 0, .bool false] 3 z66 ?_; intro w2 hA2 hb2 hs2; refine Hid.out ?_))
  obtain ⟨g1, hg1⟩ : ∃ g, g = w.heap.size := ⟨_, rfl⟩
  obtain ⟨g2, hg2⟩ : ∃ g, g = w.heap.size + 1 := ⟨_, rfl⟩
  have hA1 := hA1.below hb2
  rw [← hg1] at hA1
  rw [hs1, ← hg2] at hA2
  have hne : g1 ≠ g2 := by omega
  have HB := hidU (hb1.trans (hb2.mono hb1.size))
  have hl2 : w.heap.size ≤ g2 := by omega
  have hl1 : w.heap.size ≤ g1 := by omega
  refine hidU ?_
  rw [← hg2, ← hg1]
  have HG := hidU hg1
  clear hg1 hg2 hb1 hb2 hs1 hs2
  have c0 : w2.cell? ⟨g1, 0, none⟩ = some (.slice a n c) := by rw [hA1.cell]; rfl
  go_wp2_with (refine wpList_store1 rfl 3 (.tmp 6) (.tmp 5) rfl g1 1 (.int .i64 (n : Int)) rfl rfl 66 _ hA1 (by simp) i3 rfl rfl ?_; intro w3 hA3 hb3 hs3; refine Hid.out ?_)
  simp only [List.set] at hA3
  have hA2 := hb3.at hA2 hne.symm
  refine hidU ?_
  clear c0
  go_wp2_with (first
    | (refine wpList_load_at rfl 66 (.tmp 1) rfl g1 rfl 66 _ hA3 _ Tryd.underlying66 rfl i66 ?_)
    | (refine wpList_store_at rfl 66 (.tmp 2) (.tmp 7) rfl g2 [.slice a n c, .int .i64 (n : Int), .bool hd] rfl rfl 66 _ hA2 i66 rfl one3 ?_; intro w4 hA4 hb4 hs4))
  refine bodyPost_ret (results_at rfl _ _ g2 66 [.slice a n c, .int .i64 (n : Int), .bool hd] _ rfl hA4 Tryd.underlying66 rfl i66) rfl ?_
  have B3 := hb3.below HB.out hl1 HB.out.size
  exact ⟨rfl, hb4.below B3 hl2 B3.size⟩
theorem clone_any (a : Option Addr) (n c : Nat) (bs : List UInt8) (w : World) (h : Row w a bs) (hn : bs.length = n) (hc : n ≤ c) (h0 : a = none → c = 0) (hm : n ≤ 140737488355328) :
    Calls Tryd.prog 50 #[.slice a n c] w fun r w' => ∃ v, r = .returned v ∧ OwnX eB w.heap.size w' v bs ∧ Below w.heap.size w w' := by
  cases a with
  | some ad => exact clone_some ad n c bs w h hn hc hm
  | none =>
    have := h0 rfl
    have hb : bs = [] := List.length_eq_zero_iff.1 (by omega)
    refine (clone_nil n c w).mono ?_
    rintro r w' ⟨rfl, rfl⟩
    exact ⟨_, rfl, by rw [hb]; exact OwnX.nil _ _ _, Below.refl _ _⟩
theorem one3' {v : Value} {x : Int} {b : Bool} (hv : v.oneCell' = true) : ∀ u ∈ [v, .int .i64 x, .bool b], u.oneCell' = true := by
  intro u hu
  simp at hu
  rcases hu with rfl | rfl | rfl
  · exact hv
  · rfl
  · rfl
theorem own_slice {α : Type} {e : El α} {base : Nat} {w : World} {v : Value} {xs : List α} (h : OwnX e base w v xs) : ∃ a c, v = .slice a xs.length c := by
  obtain ⟨a, c, e, _⟩ := h.row
  exact ⟨a, c, e⟩
/-- cut: a file with the first so many of its bytes, in memory of its own. -/
theorem cut_any (a : Option Addr) (n c : Nat) (bs : List UInt8) (sf : Nat) (hd : Bool) (z : Nat) (w : World) (h : Row w a bs) (hn : bs.length = n) (hc : n ≤ c) (h0 : a = none → c = 0) (hz : z ≤ n) (hm : n ≤ 67108864) (hsf : sf ≤ n) :
    Calls Tryd.prog 53 #[.agg #[.slice a n c, .int .i64 (sf : Int), .bool hd], .int .i64 (z : Int)] w fun r w' => ∃ v, r = .returned (.agg #[v, .int .i64 ((min sf z : Nat) : Int), .bool hd]) ∧ OwnX eB w.heap.size w' v (bs.take z) ∧ Below w.heap.size w w' := by
  have HR := hidU h
  obtain ⟨M, hM⟩ : ∃ M : Nat, Hid (M = min sf z) := ⟨_, (rfl : _ = min sf z)⟩
  rw [← hM.out]
  clear h
  go_enter Tryd.func53, Tryd.ntmps53
  go_wp2_with (first
    | (refine wpList_box_at rfl 66 (.tmp 0) rfl [.slice a n c, .int .i64 (sf : Int), .bool hd] rfl ?_; intro w1 hA1 hb1 hs1)
    | (refine wpList_alloc_at rfl 66 rfl [.slice none 0 0, .int .i64 0, .bool false] 3 z66 ?_; intro w2 hA2 hb2 hs2; refine Hid.out ?_))
  obtain ⟨g1, hg1⟩ : ∃ g, g = w.heap.size := ⟨_, rfl⟩
  obtain ⟨g2, hg2⟩ : ∃ g, g = w.heap.size + 1 := ⟨_, rfl⟩
  have hA1 := hA1.below hb2
  rw [← hg1] at hA1
  rw [hs1, ← hg2] at hA2
  have hne : g1 ≠ g2 := by omega
  have HB := hidU (hb1.trans (hb2.mono hb1.size))
  have hl2 : w.heap.size ≤ g2 := by omega
  have hl1 : w.heap.size ≤ g1 := by omega
  refine hidU ?_
  rw [← hg2, ← hg1]
  clear hg1 hg2 hb1 hb2 hs1 hs2
  have c0 : w2.cell? ⟨g1, 0, none⟩ = some (.slice a n c) := by rw [hA1.cell]; rfl
  have HC := hidU (clone_any a z c (bs.take z) w2 ((HR.out.below HB.out).take z) (by rw [List.length_take]; omega) (by omega) h0 (by omega))
  have hlz : (bs.take z).length = z := by rw [List.length_take]; omega
  have hsl := fun w => run_slice_to w a n c z (z : Int) rfl (by omega)
  go_wp2_with (first
    | (go_at_call 50; refine HC.out.mono ?_; rintro _ w3 ⟨v, rfl, hO, hb3⟩; have hA13 := hA1.below hb3; have hA23 := hA2.below hb3; obtain ⟨av, cv, rfl⟩ := own_slice hO; rw [hlz] at hO)
    | (refine wpList_store1 rfl 29 (.tmp 10) (.tmp 9) rfl g1 0 (.slice av z cv) rfl rfl 66 _ hA13 (by simp) i30 rfl rfl ?_; intro w4 hA4 hb4 hs4; refine Hid.out ?_))
  simp only [List.set] at hA4
  have hA24 := hb4.at hA23 hne.symm
  have lO : w2.heap.size ≤ w3.heap.size := hb3.size
  have lw2 := hA2.lt
  have lg1 := hA1.lt
  have HO4 : Hid (OwnX eB w2.heap.size w4 (.slice av z cv) (bs.take z)) := hO.same fun k hk => hb4.block k (hO.block k hk).2.1 (by have := (hO.block k hk).1; omega)
  have HB3 := hidU (HB.out.trans (hb3.mono HB.out.size))
  have HB4 := hidU (hb4.below HB3.out hl1 HB3.out.size)
  refine hidU ?_
  clear hA13 hA23 hO hb3 hb4 hs4 c0 hA1 hA2 HC hsl lO
  have c1 : w4.cell? ⟨g1, 1, none⟩ = some (.int .i64 (sf : Int)) := by rw [hA4.cell]; rfl
  by_cases hlt : (z : Int) < (sf : Int)
  · have e : M = z := by rw [hM.out]; omega
    subst e
    go_wp2_with (refine wpList_store1 rfl 3 (.tmp 15) (.tmp 14) rfl g1 1 (.int .i64 (min (sf : Int) (M : Int))) rfl rfl 66 _ hA4 (by simp) i3 rfl rfl ?_; intro w5 hA5 hb5 hs5; refine Hid.out ?_)
    simp only [List.set] at hA5
    rw [show min (sf : Int) (M : Int) = (M : Int) by omega] at hA5
    rw [show min (sf : Int) (M : Int) = (M : Int) by omega]
    have hA25 := hb5.at hA24 hne.symm
    refine hidU ?_
    have HO5 : Hid (OwnX eB w2.heap.size w5 (.slice av M cv) (bs.take M)) := HO4.out.same fun k hk => hb5.block k (HO4.out.block k hk).2.1 (by have := (HO4.out.block k hk).1; omega)
    have HB5 := hidU (hb5.below HB4.out hl1 HB4.out.size)
    clear hb5 hs5 c1 hA4 hA24 HO4
    go_wp2_with (first
      | (refine wpList_load_at rfl 66 (.tmp 2) rfl g1 rfl 66 _ hA5 _ Tryd.underlying66 rfl i66 ?_)
      | (refine wpList_store_at rfl 66 (.tmp 4) (.tmp 16) rfl g2 _ rfl rfl 66 _ hA25 i66 rfl one3 ?_; intro w6 hA6 hb6 hs6))
    refine bodyPost_ret (results_at rfl _ _ g2 66 _ _ rfl hA6 Tryd.underlying66 rfl i66) rfl ?_
    refine ⟨_, rfl, (HO5.out.same fun k hk => hb6.block k (HO5.out.block k hk).2.1 (by have := (HO5.out.block k hk).1; omega)).less HB.out.size, hb6.below HB5.out hl2 HB5.out.size⟩
  · have e : M = sf := by rw [hM.out]; omega
    subst e
    go_wp2_with (refine wpList_store1 rfl 3 (.tmp 15) (.tmp 14) rfl g1 1 (.int .i64 (min (M : Int) (z : Int))) rfl rfl 66 _ hA4 (by simp) i3 rfl rfl ?_; intro w5 hA5 hb5 hs5; refine Hid.out ?_)
    simp only [List.set] at hA5
    rw [show min (M : Int) (z : Int) = (M : Int) by omega] at hA5
    rw [show min (M : Int) (z : Int) = (M : Int) by omega]
    have hA25 := hb5.at hA24 hne.symm
    refine hidU ?_
    have HO5 : Hid (OwnX eB w2.heap.size w5 (.slice av z cv) (bs.take z)) := HO4.out.same fun k hk => hb5.block k (HO4.out.block k hk).2.1 (by have := (HO4.out.block k hk).1; omega)
    have HB5 := hidU (hb5.below HB4.out hl1 HB4.out.size)
    clear hb5 hs5 c1 hA4 hA24 HO4
    go_wp2_with (first
      | (refine wpList_load_at rfl 66 (.tmp 2) rfl g1 rfl 66 _ hA5 _ Tryd.underlying66 rfl i66 ?_)
      | (refine wpList_store_at rfl 66 (.tmp 4) (.tmp 16) rfl g2 _ rfl rfl 66 _ hA25 i66 rfl one3 ?_; intro w6 hA6 hb6 hs6))
    refine bodyPost_ret (results_at rfl _ _ g2 66 _ _ rfl hA6 Tryd.underlying66 rfl i66) rfl ?_
    refine ⟨_, rfl, (HO5.out.same fun k hk => hb6.block k (HO5.out.block k hk).2.1 (by have := (HO5.out.block k hk).1; omega)).less HB.out.size, hb6.below HB5.out hl2 HB5.out.size⟩
end Go.Proofs.YtcmkjjlchljffaaDoor

/- The landed disk: what its map comes to when a file is put or taken away, beside the list of files. -/
namespace Go.Proofs.YtcmkjjlchljffaaDoor
open Go.RowKit
set_option linter.unusedVariables false

section
variable {α : Type} {m : List (ByteArray × α)} {s : ByteArray} {x y : α}
theorem find_split {α : Type} {p : α → Bool} : ∀ {l : List α} {a : α}, l.find? p = some a → ∃ l1 l2, l = l1 ++ a :: l2 ∧ (∀ x ∈ l1, p x = false) ∧ p a = true
  | b :: l, a, h => by
    cases hb : p b with
    | true =>
      rw [List.find?_cons_of_pos hb] at h
      cases h
      exact ⟨[], l, rfl, fun x hx => (by cases hx), hb⟩
    | false =>
      rw [List.find?_cons_of_neg (by rw [hb]; simp)] at h
      obtain ⟨l1, l2, rfl, h1, h2⟩ := find_split h
      exact ⟨b :: l1, l2, rfl, fun x hx => by
        rcases List.mem_cons.1 hx with e | e
        · rw [e]; exact hb
        · exact h1 x e, h2⟩
theorem keyB_self (s : ByteArray) (x : α) : keyB s (s, x) = true := keyB_iff.2 rfl
theorem look_split (hn : (m.map (·.1)).Nodup) (h : lookM m s = some x) : ∃ l1 l2, m = l1 ++ (s, x) :: l2 ∧ (∀ p ∈ l1 ++ l2, keyB s p = false) := by
  unfold lookM at h
  cases hf : m.find? (keyB s) with
  | none => rw [hf] at h; cases h
  | some p =>
    rw [hf] at h
    obtain ⟨l1, l2, rfl, h1, h2⟩ := find_split hf
    have e1 := keyB_iff.1 h2
    injection h with h
    obtain ⟨p1, p2⟩ := p
    simp only at e1 h
    subst e1 h
    refine ⟨l1, l2, rfl, fun q hq => ?_⟩
    rcases List.mem_append.1 hq with e | e
    · exact h1 q e
    · rw [keyB_not]
      intro e2
      rw [List.map_append, List.map_cons, List.nodup_append] at hn
      have := (List.nodup_cons.1 hn.2.1).1
      exact this (e2 ▸ List.mem_map.2 ⟨q, e, rfl⟩)
theorem del_split {l1 l2 : List (ByteArray × α)} (h : ∀ p ∈ l1 ++ l2, keyB s p = false) : delM (l1 ++ (s, x) :: l2) s = l1 ++ l2 := by
  unfold delM
  rw [List.filter_append, List.filter_cons_of_neg (by rw [keyB_self]; simp)]
  congr 1
  · exact List.filter_eq_self.2 fun p hp => by rw [h p (List.mem_append.2 (.inl hp))]; rfl
  · exact List.filter_eq_self.2 fun p hp => by rw [h p (List.mem_append.2 (.inr hp))]; rfl
theorem look_none (h : lookM m s = none) : ∀ p ∈ m, keyB s p = false := by
  unfold lookM at h
  rw [Option.map_eq_none_iff, List.find?_eq_none] at h
  intro p hp
  simpa using h p hp
theorem updM_perm (hn : (m.map (·.1)).Nodup) : (updM m s x).Perm ((s, x) :: delM m s) := by
  unfold updM
  cases hl : lookM m s with
  | none =>
    simp only [Option.isSome_none, Bool.false_eq_true, if_false]
    have : delM m s = m := List.filter_eq_self.2 fun p hp => by rw [look_none hl p hp]; rfl
    rw [this]
    exact List.perm_append_comm (l₂ := [(s, x)])
  | some y =>
    simp only [Option.isSome_some, if_true]
    obtain ⟨l1, l2, rfl, h⟩ := look_split hn hl
    rw [del_split h, List.map_append, List.map_cons]
    rw [if_pos (keyB_self s y)]
    have e : ∀ l : List (ByteArray × α), (∀ p ∈ l, keyB s p = false) → l.map (fun p => if keyB s p then (s, x) else p) = l := fun l hl => by
      rw [List.map_congr_left (g := id) (fun p hp => by rw [hl p hp]; rfl), List.map_id]
    rw [e l1 fun p hp => h p (List.mem_append.2 (.inl hp)), e l2 fun p hp => h p (List.mem_append.2 (.inr hp))]
    exact List.perm_middle
theorem mem_del {p : ByteArray × α} (h : p ∈ delM m s) : p ∈ m ∧ p.1 ≠ s := by
  unfold delM at h
  obtain ⟨h1, h2⟩ := List.mem_filter.1 h
  exact ⟨h1, keyB_not.1 (by simpa using h2)⟩
theorem mem_upd (hn : (m.map (·.1)).Nodup) {p : ByteArray × α} (h : p ∈ updM m s x) : p = (s, x) ∨ (p ∈ m ∧ p.1 ≠ s) := by
  rcases List.mem_cons.1 ((updM_perm hn).mem_iff.1 h) with e | e
  · exact .inl e
  · exact .inr (mem_del e)
theorem nodup_upd (hn : (m.map (·.1)).Nodup) : ((updM m s x).map (·.1)).Nodup := by
  refine ((updM_perm hn).map (·.1)).nodup_iff.2 ?_
  rw [List.map_cons, List.nodup_cons]
  refine ⟨fun h => ?_, ?_⟩
  · obtain ⟨p, hp, e⟩ := List.mem_map.1 h
    exact (mem_del hp).2 e
  · exact hn.sublist (List.Sublist.map _ List.filter_sublist)
end
section
variable {m : FMap} {fs : List Fi} {nm : ByteArray} {f : Fi} {g : FM} {u : Fi → Fi}
theorem del_fi : ∀ (m : FMap) (nm : ByteArray), (delM m nm).map toFi = (m.map toFi).filter fun x => !isN nm x
  | [], _ => rfl
  | p :: m, nm => by
    have ih := del_fi m nm
    unfold delM at ih ⊢
    have e : isN nm (toFi p) = keyB nm p := rfl
    rw [List.map_cons]
    cases hk : keyB nm p with
    | true => rw [List.filter_cons_of_neg (by rw [hk]; simp), List.filter_cons_of_neg (by rw [e, hk]; simp), ih]
    | false => rw [List.filter_cons_of_pos (by rw [hk]; simp), List.filter_cons_of_pos (by rw [e, hk]; simp), List.map_cons, ih]
theorem upd_fs (hp : (m.map toFi).Perm fs) (hn : (m.map (·.1)).Nodup) : ((updM m nm g).map toFi).Perm (toFi (nm, g) :: fs.filter fun x => !isN nm x) := by
  refine ((updM_perm hn).map toFi).trans ?_
  rw [List.map_cons, del_fi]
  exact (hp.filter _).cons _
theorem insL_perm (f : Fi) : ∀ fs : List Fi, (insL f fs).Perm (f :: fs)
  | [] => List.Perm.refl _
  | t :: ts => by
    unfold insL
    split
    · exact List.Perm.refl _
    · exact ((insL_perm f ts).cons t).trans (List.Perm.swap f t ts)
theorem setL_perm : ∀ {fs : List Fi}, (fs.map Fi.nm).Nodup → fs.find? (isN nm) = some f → (setL nm u fs).Perm (u f :: fs.filter fun x => !isN nm x)
  | t :: ts, hn, h => by
    rw [List.map_cons, List.nodup_cons] at hn
    unfold setL
    cases ht : isN nm t with
    | true =>
      rw [List.find?_cons_of_pos ht] at h
      cases h
      rw [if_pos rfl, List.filter_cons_of_neg (by rw [ht]; simp)]
      rw [List.filter_eq_self.2 fun x hx => ?_]
      · have e1 : f.nm = nm := toL_inj (beq_iff_eq.1 ht)
        rw [(isN_inj (a := nm) (b := x.nm) rfl).2 fun e => hn.1 (by rw [e1, e]; exact List.mem_map.2 ⟨x, hx, rfl⟩)]
        rfl
    | false =>
      rw [List.find?_cons_of_neg (by rw [ht]; simp)] at h
      rw [if_neg (by simp), List.filter_cons_of_pos (by rw [ht]; rfl)]
      exact ((setL_perm hn.2 h).cons t).trans (List.Perm.swap _ _ _)
end
/-- What a write leaves of the map's blocks. -/
structure Wrt (B : Nat) (w w' : World) (mb : Nat) (m m' : FMap) : Prop where
  mp : MapS mF w' mb m'
  own : ∀ p ∈ m', OwnX eB B w' p.2.v p.2.bs
  apart : ∀ p ∈ m', ∀ q ∈ m', p.1 ≠ q.1 → ∀ k, p.2.v.ownBlock = some k → q.2.v.ownBlock ≠ some k
  ns : ∀ p ∈ m', p.1.size ≤ 40
  chg : Chg (fun k => k = mb ∨ ∃ p ∈ m, p.2.v.ownBlock = some k) w w'
  new : ∀ p ∈ m', ∀ k, p.2.v.ownBlock = some k → (∃ q ∈ m, q.2.v.ownBlock = some k) ∨ w.heap.size ≤ k
section
variable {B g mb : Nat} {w w' : World} {m m' : FMap} {sz wr : Nat} {lf : Int} {nm : ByteArray} {f : FM}
/-- A file is put, whose bytes lie where those of the file of that name lay, or in a new block. -/
theorem Wrt.upd (h : Ds B w g mb m sz lf wr) (hm : MapS mF w' mb (updM m nm f)) (ho : OwnX eB B w' f.v f.bs) (hk : nm.size ≤ 40) (hc : Chg (fun k => k = mb ∨ ∃ p, lookM m nm = some p ∧ p.v.ownBlock = some k) w w')
    (hv : ∀ k, f.v.ownBlock = some k → (∃ p, lookM m nm = some p ∧ p.v.ownBlock = some k) ∨ w.heap.size ≤ k) : Wrt B w w' mb m (updM m nm f) := by
  have hn := h.mp.nodup
  have other : ∀ p ∈ m, p.1 ≠ nm → ∀ k, p.2.v.ownBlock = some k → w'.heap[k]? = w.heap[k]? := fun p hp hne k hk => by
    refine hc.block k ((h.own p hp).block k hk).2.1 ?_
    rintro (e | ⟨q, hq, e⟩)
    · exact h.neM hp (e ▸ hk)
    · exact h.apart p hp (nm, q) (look_mem hq) hne k hk e
  refine ⟨hm, fun p hp => ?_, fun p hp q hq hne k h1 h2 => ?_, fun p hp => ?_, hc.mono fun k hlt e => ?_, fun p hp k hk => ?_⟩
  · rcases mem_upd hn hp with rfl | ⟨h1, h2⟩
    · exact ho
    · exact (h.own p h1).same (other p h1 h2)
  · rcases mem_upd hn hp with rfl | ⟨p1, p2⟩ <;> rcases mem_upd hn hq with rfl | ⟨q1, q2⟩
    · exact hne rfl
    · rcases hv k h1 with ⟨o, e1, e2⟩ | e
      · exact h.apart (nm, o) (look_mem e1) q q1 (fun e => q2 e.symm) k e2 h2
      · have := ((h.own q q1).block k h2).2.1; omega
    · rcases hv k h2 with ⟨o, e1, e2⟩ | e
      · exact h.apart (nm, o) (look_mem e1) p p1 (fun e => p2 e.symm) k e2 h1
      · have := ((h.own p p1).block k h1).2.1; omega
    · exact h.apart p p1 q q1 hne k h1 h2
  · rcases mem_upd hn hp with rfl | ⟨h1, _⟩
    · exact hk
    · exact h.ns p h1
  · rcases e with e | ⟨q, h1, h2⟩
    · exact .inl e
    · exact .inr ⟨(nm, q), look_mem h1, h2⟩
  · rcases mem_upd hn hp with rfl | ⟨h1, _⟩
    · rcases hv k hk with ⟨q, e1, e2⟩ | e
      · exact .inl ⟨(nm, q), look_mem e1, e2⟩
      · exact .inr e
    · exact .inl ⟨p, h1, hk⟩
theorem Wrt.del (h : Ds B w g mb m sz lf wr) (hm : MapS mF w' mb (delM m nm)) (hc : But mb w w') : Wrt B w w' mb m (delM m nm) := by
  refine ⟨hm, fun p hp => ?_, fun p hp q hq => h.apart p (mem_del hp).1 q (mem_del hq).1, fun p hp => h.ns p (mem_del hp).1, Chg.of_but hc (.inl rfl), fun p hp k hk => .inl ⟨p, (mem_del hp).1, hk⟩⟩
  exact (h.own p (mem_del hp).1).same fun k hk => hc.block k ((h.own p (mem_del hp).1).block k hk).2.1 fun e => h.neM (mem_del hp).1 (e ▸ hk)
/-- A file takes another one's name. -/
theorem Wrt.ren {to : ByteArray} (h : Ds B w g mb m sz lf wr) (hl : lookM m nm = some f) (hne : nm ≠ to) (hd : Bool) (hto : to.size ≤ 40) (hm : MapS mF w' mb (delM (updM m to { f with hd := hd }) nm)) (hc : But mb w w') : Wrt B w w' mb m (delM (updM m to { f with hd := hd }) nm) := by
  have hn := h.mp.nodup
  have hf := look_mem hl
  have mem : ∀ p ∈ delM (updM m to { f with hd := hd }) nm, p = (to, { f with hd := hd }) ∨ (p ∈ m ∧ p.1 ≠ to ∧ p.1 ≠ nm) := fun p hp => by
    obtain ⟨h1, h2⟩ := mem_del hp
    rcases mem_upd hn h1 with e | ⟨e1, e2⟩
    · exact .inl e
    · exact .inr ⟨e1, e2, h2⟩
  have st : ∀ p ∈ m, OwnX eB B w' p.2.v p.2.bs := fun p hp => (h.own p hp).same fun k hk => hc.block k ((h.own p hp).block k hk).2.1 fun e => h.neM hp (e ▸ hk)
  refine ⟨hm, fun p hp => ?_, fun p hp q hq hpq k h1 h2 => ?_, fun p hp => ?_, Chg.of_but hc (.inl rfl), fun p hp k hk => ?_⟩
  · rcases mem p hp with rfl | ⟨h1, _⟩
    · exact (st (nm, f) hf : OwnX eB B w' f.v f.bs)
    · exact st p h1
  · rcases mem p hp with rfl | ⟨p1, p2, p3⟩ <;> rcases mem q hq with rfl | ⟨q1, q2, q3⟩
    · exact hpq rfl
    · exact h.apart (nm, f) hf q q1 (fun e => q3 e.symm) k h1 h2
    · exact h.apart (nm, f) hf p p1 (fun e => p3 e.symm) k h2 h1
    · exact h.apart p p1 q q1 hpq k h1 h2
  · rcases mem p hp with rfl | ⟨h1, _⟩
    · exact hto
    · exact h.ns p h1
  · rcases mem p hp with rfl | ⟨h1, _⟩
    · exact .inl ⟨(nm, f), hf, hk⟩
    · exact .inl ⟨p, h1, hk⟩
/-- The disk behind a write. -/
theorem Wrt.ds {w2 : World} {lf' : Int} {wr' : Nat} (h : Ds B w g mb m sz lf wr) (k : Wrt B w w' mb m m') (hb : But g w' w2) (hA : At 35 w2 g [.pointer (some ⟨g, 0, none⟩), .int .i64 (sz : Int), .map (some mb), .int .i64 lf', .int .i64 (wr' : Int)]) : Ds B w2 g mb m' sz lf' wr' := by
  have hg : ∀ p ∈ m', p.2.v.ownBlock ≠ some g := fun p hp e => by
    rcases k.new p hp g e with ⟨q, hq, e⟩ | e
    · exact h.neG hq e
    · have := heapLt h.at_; omega
  exact ⟨hA, k.mp.same (hb.block _ k.mp.lt h.ne.symm), fun p hp => (k.own p hp).same fun i hi => hb.block i ((k.own p hp).block i hi).2.1 (fun e => hg p hp (e ▸ hi)), k.apart, h.bg, h.bm, k.ns⟩
theorem Wrt.at_ {cs : List Value} (h : Ds B w g mb m sz lf wr) (k : Wrt B w w' mb m m') (hA : At 35 w g cs) : At 35 w' g cs := by
  refine hA.same (k.chg.block g hA.lt ?_)
  rintro (e | ⟨p, hp, e⟩)
  · exact h.ne e
  · exact h.neG hp e
end
end Go.Proofs.YtcmkjjlchljffaaDoor

/- The landed disk: names that may be; how many bytes all files have. -/
namespace Go.Proofs.YtcmkjjlchljffaaDoor
open Go.RowKit
set_option linter.unusedVariables false
set_option maxRecDepth 100000
set_option maxHeartbeats 3200000

def lettersB : ByteArray := ⟨#[97, 98, 99, 100, 101, 102, 103, 104, 105, 106, 107, 108, 109, 110, 111, 112, 113, 114, 115, 116, 117, 118, 119, 120, 121, 122, 48, 49, 50, 51, 52, 53, 54, 55, 56, 57, 46, 45]⟩
theorem ch_letters : ∀ n : Nat, n < 256 → chOk (UInt8.ofNat n) = lettersB.data.toList.contains (UInt8.ofNat n) := by decide +kernel
theorem ch_letter (b : UInt8) : chOk b = lettersB.data.toList.contains b := by
  have := ch_letters b.toNat b.toNat_lt
  rwa [UInt8.ofNat_toNat] at this
theorem dropWhile_nil {α : Type} {p : α → Bool} : ∀ {l : List α}, l.dropWhile p = [] ↔ ∀ x ∈ l, p x = true
  | [] => by simp
  | a :: l => by
    cases h : p a with
    | true => rw [List.dropWhile_cons_of_pos h, dropWhile_nil]; simp [h]
    | false => rw [List.dropWhile_cons_of_neg (by rw [h]; simp)]; simp [h]
theorem trim_nil (l cs : List UInt8) : Lib.trimS l cs = [] ↔ ∀ x ∈ l, cs.contains x = true := by
  unfold Lib.trimS Lib.trimLeftS Lib.trimRightS
  rw [dropWhile_nil]
  constructor
  · intro h x hx
    by_cases q : ∀ y ∈ l.reverse, cs.contains y = true
    · exact q x (List.mem_reverse.2 hx)
    · exfalso
      have : (l.reverse.dropWhile (cs.contains ·)) ≠ [] := fun e => q (dropWhile_nil.1 e)
      obtain ⟨a, t, e⟩ := List.exists_cons_of_ne_nil this
      have h1 := h a (by rw [e]; simp)
      have h2 := List.head_dropWhile_not (p := (cs.contains ·)) (l := l.reverse) this
      simp only [e, List.head_cons] at h2
      rw [h1] at h2
      cases h2
  · intro h x hx
    refine h x ?_
    have := List.mem_reverse.1 hx
    exact List.mem_reverse.1 ((List.dropWhile_sublist _).subset this)
theorem isName_any (s : ByteArray) (w : World) (hs : s.size ≤ 9223372036854775807) : Calls Tryd.prog 34 #[.string s] w fun r w' => r = .returned (.bool (nmOk s)) ∧ Below w.heap.size w w' := by
  obtain ⟨R, hR⟩ : ∃ R, Hid (R = nmOk s) := ⟨_, (rfl : _ = nmOk _)⟩
  rw [← hR.out]
  have hl : s.data.toList.length = s.size := Array.length_toList
  have hlen : s.toList.length = s.size := by rw [ByteArray.toList_eq]; exact Array.length_toList
  by_cases h0 : s.size = 0
  · have e : R = false := by rw [hR.out, nmOk, decide_eq_false (by omega : ¬ 1 ≤ s.size)]; simp
    have h1 : s.toList = [] := List.length_eq_zero_iff.1 (by omega)
    subst e
    clear hl hlen hR h0
    go_enter Tryd.func34, Tryd.ntmps34
    go_wp2
    go_ret
    exact ⟨rfl, Below.refl _ _⟩
  · have h1 : ¬ s.toList = [] := fun e => by rw [e] at hlen; exact h0 hlen.symm
    have h2 : s.toList.isEmpty = false := by rw [List.isEmpty_eq_false_iff]; exact h1
    by_cases h40 : 40 < s.size
    · have e : R = false := by rw [hR.out, nmOk, decide_eq_false (by omega : ¬ s.size ≤ 40)]; simp
      have c1 : ¬ (s.size : Int) ≤ 40 := by omega
      subst e
      clear hl hlen hR h0
      go_enter Tryd.func34, Tryd.ntmps34
      go_wp2
      go_ret
      exact ⟨rfl, Below.refl _ _⟩
    · have c1 : (s.size : Int) ≤ 40 := by omega
      have HT := hidU (Tryd.trim_any s lettersB w hs (by decide +kernel) (ascii_of_all (by decide +kernel)))
      obtain ⟨T, hT⟩ : ∃ T, Hid (T = (⟨(Lib.trimS s.data.toList lettersB.data.toList).toArray⟩ : ByteArray)) := ⟨_, (rfl : _ = (⟨(Lib.trimS s.data.toList lettersB.data.toList).toArray⟩ : ByteArray))⟩
      rw [← hT.out] at HT
      have hTl : Hid (T.toList.isEmpty = R) := by
        have e1 : T.toList = Lib.trimS s.data.toList lettersB.data.toList := by rw [hT.out, ByteArray.toList_eq]
        show _ = _
        rw [e1, hR.out, nmOk, decide_eq_true (by omega : s.size ≤ 40), decide_eq_true (by omega : 1 ≤ s.size)]
        rw [Bool.and_self, Bool.and_true]
        rw [Bool.eq_iff_iff, List.isEmpty_iff, trim_nil, List.all_eq_true]
        exact ⟨fun q x hx => by rw [ch_letter]; exact q x hx, fun q x hx => by rw [← ch_letter]; exact q x hx⟩
      have hTl := hTl.out
      clear hl hlen hR h0 hT
      go_enter Tryd.func34, Tryd.ntmps34
      go_wp2_with (go_at_call 62; refine HT.out.mono ?_; rintro _ w1 ⟨rfl, hb⟩)
      go_ret
      exact ⟨by first | rfl | rw [hTl], hb⟩
end Go.Proofs.YtcmkjjlchljffaaDoor

/- The landed disk: how many bytes all files have; whether there is room. -/
namespace Go.Proofs.YtcmkjjlchljffaaDoor
open Go.RowKit
set_option linter.unusedVariables false
set_option maxRecDepth 100000
set_option maxHeartbeats 3200000

def sumM (m : FMap) : Nat := (m.map fun p => p.2.bs.length).sum
theorem sumM_app (a b : FMap) : sumM (a ++ b) = sumM a + sumM b := by simp [sumM]
theorem sumM_perm {a b : FMap} (h : a.Perm b) : sumM a = sumM b := (h.map _).sum_nat
section
variable {B g mb : Nat} {w : World} {m : FMap} {sz wr : Nat} {lf : Int} {nm : ByteArray}
theorem used_p (h : Ds B w g mb m sz lf wr) (hb : sumM m ≤ 67108864) : Calls Tryd.prog 21 #[.pointer (some ⟨g, 0, none⟩)] w fun r w' => r = .returned (.int .i64 (sumM m : Int)) ∧ Below w.heap.size w w' := by
  have HM := hidU (made_yes h.at_)
  have q := h.files
  have HP := hidU h.mp
  have HV := hidU (fun (p : ByteArray × FM) (hp : p ∈ m) => (h.own p hp).row)
  obtain ⟨r0, hr0⟩ : ∃ r, Hid (r = w.heap.size) := ⟨_, (rfl : _ = w.heap.size)⟩
  clear h
  go_enter Tryd.func21, Tryd.ntmps21
  go_wp2_with (first
    | (go_at_call 33; refine HM.out.mono ?_; rintro _ w1 ⟨rfl, hw⟩; obtain rfl : w = w1 := hw.symm; clear hw)
    | (refine wpList_range mF rfl (.tmp 12) rfl rfl HP.out ?_; intro w0 hrg hbw hsw; have HR := hidU hrg; have HB := hidU hbw; clear hrg hbw hsw))
  go_frame
  rw [← hr0.out] at HR ⊢
  clear q
  go_loopw [3] (fun U x => ∃ (u : Nat) (dn lf : FMap), U = .int .i64 (u : Int) ∧ Hid (Rg mF x mb r0 m dn lf) ∧ Hid (u = sumM dn) ∧ Hid (Below w.heap.size w x)) (fun _ x => x.rangeLeft mb r0)
  case atStart => exact ⟨0, [], m, rfl, HR, rfl, HB⟩
  case round =>
    obtain ⟨u, dn, lf, rfl, HRg, hu, HBx⟩ := hrel
    go_wp2_with (first
      | (at_next; refine wpList_next mF rfl (.tmp 13) rfl rfl HRg.out ?_ ?_)
      | go_in)
    · intro h0
      go_wp2
      go_ret
      refine ⟨?_, HBx.out⟩
      have := sumM_perm HRg.out.perm
      rw [h0, List.append_nil] at this
      rw [hu.out, this]
      rfl
    · intro nm fm lf' x1 hp hrg1 hb1 hs1 hen
      obtain ⟨v, bs, sf, hd⟩ := fm
      obtain ⟨a, c, hv, _⟩ := HV.out (nm, ⟨v, bs, sf, hd⟩) (HRg.out.perm.mem_iff.1 (List.mem_append.2 (.inr (hp.mem_iff.2 (.head _)))))
      simp only at hv
      subst hv
      obtain ⟨n, hn⟩ : ∃ n, Hid (bs.length = n) := ⟨_, (rfl : bs.length = _)⟩
      simp only [mF, FM.val, hn.out] at hen ⊢
      have HRg1 := hidU hrg1
      have HB1 : Hid (Below w.heap.size w x1) := hidU (hb1.below HBx.out (by rw [hr0.out]; exact Nat.le_refl _) HBx.out.size)
      have HL1 : Hid (x1.rangeLeft mb r0 < wr.rangeLeft mb r0) := hidU (by rw [hrg1.left, HRg.out.left, hp.length_eq]; simp)
      have hu1 : Hid (u + n = sumM (dn ++ [(nm, ⟨.slice a bs.length c, bs, sf, hd⟩)])) := hidU (by rw [sumM_app, ← hu.out, ← hn.out]; simp [sumM])
      have hle : Hid (u + n ≤ 67108864) := hidU (by
        have h1 := sumM_perm hrg1.perm
        rw [sumM_app] at h1
        have h2 := hu1.out
        omega)
      clear hrg1 hb1 hs1 hp
      go_wp2_with (first
        | (refine wpList_alloc_at rfl 66 rfl [.slice none 0 0, .int .i64 0, .bool false] 3 z66 ?_; intro x2 hA2 hb2 hs2; refine Hid.out ?_))
      refine hidU ?_
      obtain ⟨gb, hgb⟩ : ∃ gb, gb = x1.heap.size := ⟨_, rfl⟩
      rw [← hgb] at hA2 ⊢
      have HB2 := hidU (HB1.out.trans (hb2.mono HB1.out.size))
      have HRg2 := hidU (HRg1.out.below hb2)
      have hgl : w.heap.size ≤ gb := by rw [hgb]; exact HB1.out.size
      have hgr : mb ≠ gb ∧ r0 ≠ gb := by have := HRg1.out.lt; omega
      have HL2 : Hid (x2.rangeLeft mb r0 < wr.rangeLeft mb r0) := hidU (by rw [HRg2.out.left]; have := HL1.out; rwa [HRg1.out.left] at this)
      clear hb2 hs2 HB1 HRg1 HL1 hgb hen
      go_wp2_with (first
        | (refine wpList_store_at rfl 66 (.tmp 5) (.tmp 17) rfl gb [.slice a n c, .int .i64 (sf : Int), .bool hd] rfl rfl 66 _ hA2 i66 rfl one3 ?_; intro x3 hA3 hb3 hs3; refine Hid.out ?_))
      refine hidU ?_
      have HRg3 := hidU (HRg2.out.same (hb3.block mb HRg2.out.lt.1 hgr.1) (hb3.block r0 HRg2.out.lt.2 hgr.2))
      have HB3 := hidU (hb3.below HB2.out hgl HB2.out.size)
      have HL3 : Hid (x3.rangeLeft mb r0 < wr.rangeLeft mb r0) := hidU (by rw [HRg3.out.left]; have := HL2.out; rwa [HRg2.out.left] at this)
      have c0 : x3.cell? ⟨gb, 0, none⟩ = some (.slice a n c) := by rw [hA3.cell]; rfl
      have hw : IntKind.i64.wrap ((u : Int) + (n : Int)) = (u : Int) + n := by rw [IntKind.wrap_i64]; have := hle.out; omega
      clear hA2 hA3 hb3 hs3 HB2 HRg2 HL2 hgr hgl
      go_wp2
      go_roundw
      · exact ⟨u + n, _, lf', by simp, HRg3, hu1, HB3⟩
      · exact HL3.out
end
end Go.Proofs.YtcmkjjlchljffaaDoor

/- The landed disk: whether there is room. -/
namespace Go.Proofs.YtcmkjjlchljffaaDoor
open Go.RowKit
set_option linter.unusedVariables false
set_option maxRecDepth 100000
set_option maxHeartbeats 6400000

def roomB (m : FMap) (nm : ByteArray) (sz n : Nat) : Bool := ((lookM m nm).isSome || decide (m.length < 256)) && decide ((n : Int) ≤ (sz : Int) - (sumM m : Int))
theorem room_1 (g mb B : Nat) (w : World) (m : FMap) (sz wr n : Nat) (lf : Int) (nm : ByteArray) (h : Ds B w g mb m sz lf wr) (hb : sumM m ≤ 67108864) (hsz : sz ≤ 67108864) (hs : nm.size ≤ 9223372036854775807) {f : FM} (hl : lookM m nm = some f) (hle : (n : Int) ≤ (sz : Int) - (sumM m : Int)) :
    Calls Tryd.prog 35 #[.pointer (some ⟨g, 0, none⟩), .string nm, .int .i64 (n : Int)] w fun r w' => r = .returned (.bool true) ∧ Below w.heap.size w w' := by
  have HP0 := hidU h.mp
  have q2 := h.files
  have q1 := h.at_.cell 1
  simp only [List.getElem?_cons_zero, List.getElem?_cons_succ] at q1
  obtain ⟨su, hsu⟩ : ∃ su, Hid (su = sumM m) := ⟨_, (rfl : _ = sumM m)⟩
  have hsu1 : su ≤ 67108864 := by rw [hsu.out]; exact hb
  have hlu := h.lt
  have hH := hidU h
  obtain ⟨a, n1, c, bs, sf, hd, rfl, hn1, _⟩ := look_parts h hl
  have HL := hidU hl
  clear h hl hlu
  go_enter Tryd.func35, Tryd.ntmps35
  go_wp2_with (first
    | (refine wpList_look mF rfl (.tmp 13) (.tmp 14) true rfl nm rfl rfl HP0.out hs (.tuple #[.agg #[.slice a n1 c, .int .i64 (sf : Int), .bool hd], .bool true]) (by rw [HL.out]; rfl) ?_)
    | (refine wpList_alloc_at rfl 66 rfl [.slice none 0 0, .int .i64 0, .bool false] 3 z66 ?_; intro w1 hA1 hb1 hs1)
    | (refine wpList_store_at rfl 66 (.tmp 7) (.tmp 16) rfl w.heap.size [.slice a n1 c, .int .i64 (sf : Int), .bool hd] rfl rfl 66 _ hA1 i66 rfl one3 ?_; intro y hA2 hb2 hs2; refine Hid.out ?_))
  have hB0 : Hid (Below w.heap.size w y) := hidU (hb2.below hb1 (Nat.le_refl _) hb1.size)
  have HP := hidU (HP0.out.below hB0.out)
  have q2 := (hB0.out.cell (lt_of_cell q2)).trans q2
  have q1 := (hB0.out.cell (lt_of_cell q1)).trans q1
  refine hidU ?_
  have HU : Hid (∀ x, Below y.heap.size y x → Calls Tryd.prog 21 #[.pointer (some ⟨g, 0, none⟩)] x fun r w' => r = .returned (.int .i64 (su : Int)) ∧ Below x.heap.size x w') := hidU (fun x hx => by
    rw [hsu.out]
    exact used_p (hH.out.below (hB0.out.trans (hx.mono hB0.out.size))) hb)
  obtain ⟨ml, hml⟩ : ∃ ml, Hid (m.length = ml) := ⟨_, (rfl : m.length = _)⟩
  have hwr : Hid (IntKind.i64.wrap ((sz : Int) - (su : Int)) = (sz : Int) - (su : Int)) := by show _ = _; rw [IntKind.wrap_i64]; omega
  have hle : Hid ((n : Int) ≤ (sz : Int) - (su : Int)) := hidU (by have := hsu.out; omega)
  clear hA1 hA2 hb1 hb2 hs1 hs2 hsu HL HP0
  go_wp2
  have hS0 : Below y.heap.size y y.drew := Below.drew (Below.refl _ _)
  refine wp_region_held_drew (S := fun xS => Below y.heap.size y xS) (by kernel_rfl) hS0 ?_
  obtain ⟨x0, hx0⟩ : ∃ x, x = y.drew := ⟨_, rfl⟩
  rw [← hx0] at hS0  ⊢
  clear hx0
  intro _
  refine wpAnyH_take (i := 0) (oi := { dst := some 18, op := .move (.tmp 8), type := _, pos := _, after := _, guard := none }) (v := .bool true) rfl (by kernel_rfl) (by kernel_rfl) (by kernel_rfl) (fun _ _ _ h => h) (Or.inl ⟨by rfl, ?_⟩) hS0 ?_
  · intro wS hSw
    go_simp
  simp only [Act.put, List.setIfInBounds_toArray, List.set_cons_zero, List.set_cons_succ]
  refine wpAnyH_take (i := 1) (oi := { dst := some 19, op := .move (.tmp 18), type := _, pos := _, after := _, guard := none }) (v := .bool true) rfl (by kernel_rfl) (by kernel_rfl) (by kernel_rfl) (fun _ _ _ h => h) (Or.inl ⟨by rfl, ?_⟩) hS0 ?_
  · intro wS hSw
    go_simp
  simp only [Act.put, List.setIfInBounds_toArray, List.set_cons_zero, List.set_cons_succ]
  refine wpAnyH_take (i := 2) (oi := { dst := some 20, op := .move (.tmp 0), type := _, pos := _, after := _, guard := some (1, false) }) (v := undef) rfl (by kernel_rfl) (by kernel_rfl) (by kernel_rfl) (fun _ _ _ h => h) (Or.inr ⟨by rfl, rfl⟩) hS0 ?_
  simp only [Act.put, List.setIfInBounds_toArray, List.set_cons_zero, List.set_cons_succ]
  refine wpAnyH_take (i := 3) (oi := { dst := some 21, op := .nilCheck (.tmp 20), type := _, pos := _, after := _, guard := some (1, false) }) (v := undef) rfl (by kernel_rfl) (by kernel_rfl) (by kernel_rfl) (fun _ _ _ h => h) (Or.inr ⟨by rfl, rfl⟩) hS0 ?_
  simp only [Act.put, List.setIfInBounds_toArray, List.set_cons_zero, List.set_cons_succ]
  refine wpAnyH_take (i := 4) (oi := { dst := some 22, op := .fieldAddr 35 (.tmp 21) 2, type := _, pos := _, after := _, guard := some (1, false) }) (v := undef) rfl (by kernel_rfl) (by kernel_rfl) (by kernel_rfl) (fun _ _ _ h => h) (Or.inr ⟨by rfl, rfl⟩) hS0 ?_
  simp only [Act.put, List.setIfInBounds_toArray, List.set_cons_zero, List.set_cons_succ]
  refine wpAnyH_take (i := 5) (oi := { dst := some 23, op := .load 33 (.tmp 22), type := _, pos := _, after := _, guard := some (1, false) }) (v := undef) rfl (by kernel_rfl) (by kernel_rfl) (by kernel_rfl) (fun _ _ _ h => h) (Or.inr ⟨by rfl, rfl⟩) hS0 ?_
  simp only [Act.put, List.setIfInBounds_toArray, List.set_cons_zero, List.set_cons_succ]
  refine wpAnyH_take (i := 6) (oi := { dst := some 24, op := .call { callee := .builtin .len, args := #[.tmp 23], argTypes := #[33] }, type := _, pos := _, after := _, guard := some (1, false) }) (v := undef) rfl (by kernel_rfl) (by kernel_rfl) (by kernel_rfl) (fun _ _ _ h => h) (Or.inr ⟨by rfl, rfl⟩) hS0 ?_
  simp only [Act.put, List.setIfInBounds_toArray, List.set_cons_zero, List.set_cons_succ]
  refine wpAnyH_take (i := 7) (oi := { dst := some 25, op := .binOp .lss 3 (.tmp 24) (.const (.int .i64 256)) 3, type := _, pos := _, after := _, guard := some (1, false) }) (v := undef) rfl (by kernel_rfl) (by kernel_rfl) (by kernel_rfl) (fun _ _ _ h => h) (Or.inr ⟨by rfl, rfl⟩) hS0 ?_
  simp only [Act.put, List.setIfInBounds_toArray, List.set_cons_zero, List.set_cons_succ]
  refine wpAnyH_take (i := 8) (oi := { dst := some 26, op := .pick (.tmp 19) (.const (.bool true)) (.tmp 25), type := _, pos := _, after := _, guard := none }) (v := .bool true) rfl (by kernel_rfl) (by kernel_rfl) (by kernel_rfl) (fun _ _ _ h => h) (Or.inl ⟨by rfl, ?_⟩) hS0 ?_
  · intro wS hSw
    go_simp
  simp only [Act.put, List.setIfInBounds_toArray, List.set_cons_zero, List.set_cons_succ]
  refine wpAnyH_take (i := 9) (oi := { dst := some 27, op := .move (.tmp 26), type := _, pos := _, after := _, guard := none }) (v := .bool true) rfl (by kernel_rfl) (by kernel_rfl) (by kernel_rfl) (fun _ _ _ h => h) (Or.inl ⟨by rfl, ?_⟩) hS0 ?_
  · intro wS hSw
    go_simp
  simp only [Act.put, List.setIfInBounds_toArray, List.set_cons_zero, List.set_cons_succ]
  refine wpAnyH_take (i := 10) (oi := { dst := some 28, op := .move (.tmp 2), type := _, pos := _, after := _, guard := some (9, true) }) (v := .int .i64 (n : Int)) rfl (by kernel_rfl) (by kernel_rfl) (by kernel_rfl) (fun _ _ _ h => h) (Or.inl ⟨by rfl, ?_⟩) hS0 ?_
  · intro wS hSw
    go_simp
  simp only [Act.put, List.setIfInBounds_toArray, List.set_cons_zero, List.set_cons_succ]
  refine wpAnyH_take (i := 11) (oi := { dst := some 29, op := .move (.tmp 0), type := _, pos := _, after := _, guard := some (9, true) }) (v := .pointer (some ⟨g, 0, none⟩)) rfl (by kernel_rfl) (by kernel_rfl) (by kernel_rfl) (fun _ _ _ h => h) (Or.inl ⟨by rfl, ?_⟩) hS0 ?_
  · intro wS hSw
    go_simp
  simp only [Act.put, List.setIfInBounds_toArray, List.set_cons_zero, List.set_cons_succ]
  refine wpAnyH_take (i := 12) (oi := { dst := some 30, op := .nilCheck (.tmp 29), type := _, pos := _, after := _, guard := some (9, true) }) (v := .pointer (some ⟨g, 0, none⟩)) rfl (by kernel_rfl) (by kernel_rfl) (by kernel_rfl) (fun _ _ _ h => h) (Or.inl ⟨by rfl, ?_⟩) hS0 ?_
  · intro wS hSw
    go_simp
  simp only [Act.put, List.setIfInBounds_toArray, List.set_cons_zero, List.set_cons_succ]
  refine wpAnyH_take (i := 13) (oi := { dst := some 31, op := .fieldAddr 35 (.tmp 30) 1, type := _, pos := _, after := _, guard := some (9, true) }) (v := .pointer (some ⟨g, 1, none⟩)) rfl (by kernel_rfl) (by kernel_rfl) (by kernel_rfl) (fun _ _ _ h => h) (Or.inl ⟨by rfl, ?_⟩) hS0 ?_
  · intro wS hSw
    go_simp
  simp only [Act.put, List.setIfInBounds_toArray, List.set_cons_zero, List.set_cons_succ]
  refine wpAnyH_take (i := 14) (oi := { dst := some 32, op := .load 3 (.tmp 31), type := _, pos := _, after := _, guard := some (9, true) }) (v := .int .i64 (sz : Int)) rfl (by kernel_rfl) (by kernel_rfl) (by kernel_rfl) (fun _ _ _ h => h) (Or.inl ⟨by rfl, ?_⟩) hS0 ?_
  · intro wS hSw
    have z0 := (hSw.cell (lt_of_cell q1)).trans q1
    go_simp
  simp only [Act.put, List.setIfInBounds_toArray, List.set_cons_zero, List.set_cons_succ]
  refine wpAnyH_take (i := 15) (oi := { dst := some 33, op := .move (.tmp 0), type := _, pos := _, after := _, guard := some (9, true) }) (v := .pointer (some ⟨g, 0, none⟩)) rfl (by kernel_rfl) (by kernel_rfl) (by kernel_rfl) (fun _ _ _ h => h) (Or.inl ⟨by rfl, ?_⟩) hS0 ?_
  · intro wS hSw
    go_simp
  simp only [Act.put, List.setIfInBounds_toArray, List.set_cons_zero, List.set_cons_succ]
  refine wpAnyH_ready (rs := [16]) (by kernel_rfl) (by simp) ?_
  refine AllReadyH.cons (o := { dst := some 34, op := .call { callee := .value (.func 21), args := #[.tmp 33], argTypes := #[22] }, type := _, pos := _, after := _, guard := some (9, true) }) rfl (fun K hK => ?_) AllReadyH.nil
  rw [if_pos (by rfl)]
  have sv1 := hS0.size
  go_wp2_with (go_at_call 21; refine (HU.out _ hS0).mono ?_; rintro e x1 ⟨rfl, hb1⟩)
  have sz1 := hb1.size
  have hS1 := hS0.trans (hb1.mono hS0.size)
  refine hK.out _ _ hS1 (fun _ => ?_)
  clear hK K
  refine wpAnyH_take (i := 17) (oi := { dst := some 35, op := .binOp .sub 3 (.tmp 32) (.tmp 34) 3, type := _, pos := _, after := _, guard := some (9, true) }) (v := .int .i64 ((sz : Int) - (su : Int))) rfl (by kernel_rfl) (by kernel_rfl) (by kernel_rfl) (fun _ _ _ h => h) (Or.inl ⟨by rfl, ?_⟩) hS1 ?_
  · intro wS hSw
    go_simp
    try rw [hwr.out]
    try rfl
  simp only [Act.put, List.setIfInBounds_toArray, List.set_cons_zero, List.set_cons_succ]
  refine wpAnyH_take (i := 18) (oi := { dst := some 36, op := .binOp .leq 3 (.tmp 28) (.tmp 35) 3, type := _, pos := _, after := _, guard := some (9, true) }) (v := .bool true) rfl (by kernel_rfl) (by kernel_rfl) (by kernel_rfl) (fun _ _ _ h => h) (Or.inl ⟨by rfl, ?_⟩) hS1 ?_
  · intro wS hSw
    go_simp
    have hz := hle.out
    omega
  simp only [Act.put, List.setIfInBounds_toArray, List.set_cons_zero, List.set_cons_succ]
  refine wpAnyH_take (i := 19) (oi := { dst := some 37, op := .pick (.tmp 27) (.tmp 36) (.const (.bool false)), type := _, pos := _, after := _, guard := none }) (v := .bool true) rfl (by kernel_rfl) (by kernel_rfl) (by kernel_rfl) (fun _ _ _ h => h) (Or.inl ⟨by rfl, ?_⟩) hS1 ?_
  · intro wS hSw
    go_simp
  simp only [Act.put, List.setIfInBounds_toArray, List.set_cons_zero, List.set_cons_succ]
  refine wpAnyH_take (i := 20) (oi := { dst := some 6, op := .assign (.tmp 37), type := _, pos := _, after := _, guard := none }) (v := .bool true) rfl (by kernel_rfl) (by kernel_rfl) (by kernel_rfl) (fun _ _ _ h => h) (Or.inl ⟨by rfl, ?_⟩) hS1 ?_
  · intro wS hSw
    go_simp
  simp only [Act.put, List.setIfInBounds_toArray, List.set_cons_zero, List.set_cons_succ]
  refine wpAnyH_done (by kernel_rfl) ?_ _
  go_wp2
  go_ret
  exact ⟨rfl, hB0.out.trans (hS1.mono hB0.out.size)⟩

theorem room_2 (g mb B : Nat) (w : World) (m : FMap) (sz wr n : Nat) (lf : Int) (nm : ByteArray) (h : Ds B w g mb m sz lf wr) (hb : sumM m ≤ 67108864) (hsz : sz ≤ 67108864) (hs : nm.size ≤ 9223372036854775807) {f : FM} (hl : lookM m nm = some f) (hle : ¬ (n : Int) ≤ (sz : Int) - (sumM m : Int)) :
    Calls Tryd.prog 35 #[.pointer (some ⟨g, 0, none⟩), .string nm, .int .i64 (n : Int)] w fun r w' => r = .returned (.bool false) ∧ Below w.heap.size w w' := by
  have HP0 := hidU h.mp
  have q2 := h.files
  have q1 := h.at_.cell 1
  simp only [List.getElem?_cons_zero, List.getElem?_cons_succ] at q1
  obtain ⟨su, hsu⟩ : ∃ su, Hid (su = sumM m) := ⟨_, (rfl : _ = sumM m)⟩
  have hsu1 : su ≤ 67108864 := by rw [hsu.out]; exact hb
  have hlu := h.lt
  have hH := hidU h
  obtain ⟨a, n1, c, bs, sf, hd, rfl, hn1, _⟩ := look_parts h hl
  have HL := hidU hl
  clear h hl hlu
  go_enter Tryd.func35, Tryd.ntmps35
  go_wp2_with (first
    | (refine wpList_look mF rfl (.tmp 13) (.tmp 14) true rfl nm rfl rfl HP0.out hs (.tuple #[.agg #[.slice a n1 c, .int .i64 (sf : Int), .bool hd], .bool true]) (by rw [HL.out]; rfl) ?_)
    | (refine wpList_alloc_at rfl 66 rfl [.slice none 0 0, .int .i64 0, .bool false] 3 z66 ?_; intro w1 hA1 hb1 hs1)
    | (refine wpList_store_at rfl 66 (.tmp 7) (.tmp 16) rfl w.heap.size [.slice a n1 c, .int .i64 (sf : Int), .bool hd] rfl rfl 66 _ hA1 i66 rfl one3 ?_; intro y hA2 hb2 hs2; refine Hid.out ?_))
  have hB0 : Hid (Below w.heap.size w y) := hidU (hb2.below hb1 (Nat.le_refl _) hb1.size)
  have HP := hidU (HP0.out.below hB0.out)
  have q2 := (hB0.out.cell (lt_of_cell q2)).trans q2
  have q1 := (hB0.out.cell (lt_of_cell q1)).trans q1
  refine hidU ?_
  have HU : Hid (∀ x, Below y.heap.size y x → Calls Tryd.prog 21 #[.pointer (some ⟨g, 0, none⟩)] x fun r w' => r = .returned (.int .i64 (su : Int)) ∧ Below x.heap.size x w') := hidU (fun x hx => by
    rw [hsu.out]
    exact used_p (hH.out.below (hB0.out.trans (hx.mono hB0.out.size))) hb)
  obtain ⟨ml, hml⟩ : ∃ ml, Hid (m.length = ml) := ⟨_, (rfl : m.length = _)⟩
  have hwr : Hid (IntKind.i64.wrap ((sz : Int) - (su : Int)) = (sz : Int) - (su : Int)) := by show _ = _; rw [IntKind.wrap_i64]; omega
  have hle : Hid (¬ (n : Int) ≤ (sz : Int) - (su : Int)) := hidU (by have := hsu.out; omega)
  clear hA1 hA2 hb1 hb2 hs1 hs2 hsu HL HP0
  go_wp2
  have hS0 : Below y.heap.size y y.drew := Below.drew (Below.refl _ _)
  refine wp_region_held_drew (S := fun xS => Below y.heap.size y xS) (by kernel_rfl) hS0 ?_
  obtain ⟨x0, hx0⟩ : ∃ x, x = y.drew := ⟨_, rfl⟩
  rw [← hx0] at hS0  ⊢
  clear hx0
  intro _
  refine wpAnyH_take (i := 0) (oi := { dst := some 18, op := .move (.tmp 8), type := _, pos := _, after := _, guard := none }) (v := .bool true) rfl (by kernel_rfl) (by kernel_rfl) (by kernel_rfl) (fun _ _ _ h => h) (Or.inl ⟨by rfl, ?_⟩) hS0 ?_
  · intro wS hSw
    go_simp
  simp only [Act.put, List.setIfInBounds_toArray, List.set_cons_zero, List.set_cons_succ]
  refine wpAnyH_take (i := 1) (oi := { dst := some 19, op := .move (.tmp 18), type := _, pos := _, after := _, guard := none }) (v := .bool true) rfl (by kernel_rfl) (by kernel_rfl) (by kernel_rfl) (fun _ _ _ h => h) (Or.inl ⟨by rfl, ?_⟩) hS0 ?_
  · intro wS hSw
    go_simp
  simp only [Act.put, List.setIfInBounds_toArray, List.set_cons_zero, List.set_cons_succ]
  refine wpAnyH_take (i := 2) (oi := { dst := some 20, op := .move (.tmp 0), type := _, pos := _, after := _, guard := some (1, false) }) (v := undef) rfl (by kernel_rfl) (by kernel_rfl) (by kernel_rfl) (fun _ _ _ h => h) (Or.inr ⟨by rfl, rfl⟩) hS0 ?_
  simp only [Act.put, List.setIfInBounds_toArray, List.set_cons_zero, List.set_cons_succ]
  refine wpAnyH_take (i := 3) (oi := { dst := some 21, op := .nilCheck (.tmp 20), type := _, pos := _, after := _, guard := some (1, false) }) (v := undef) rfl (by kernel_rfl) (by kernel_rfl) (by kernel_rfl) (fun _ _ _ h => h) (Or.inr ⟨by rfl, rfl⟩) hS0 ?_
  simp only [Act.put, List.setIfInBounds_toArray, List.set_cons_zero, List.set_cons_succ]
  refine wpAnyH_take (i := 4) (oi := { dst := some 22, op := .fieldAddr 35 (.tmp 21) 2, type := _, pos := _, after := _, guard := some (1, false) }) (v := undef) rfl (by kernel_rfl) (by kernel_rfl) (by kernel_rfl) (fun _ _ _ h => h) (Or.inr ⟨by rfl, rfl⟩) hS0 ?_
  simp only [Act.put, List.setIfInBounds_toArray, List.set_cons_zero, List.set_cons_succ]
  refine wpAnyH_take (i := 5) (oi := { dst := some 23, op := .load 33 (.tmp 22), type := _, pos := _, after := _, guard := some (1, false) }) (v := undef) rfl (by kernel_rfl) (by kernel_rfl) (by kernel_rfl) (fun _ _ _ h => h) (Or.inr ⟨by rfl, rfl⟩) hS0 ?_
  simp only [Act.put, List.setIfInBounds_toArray, List.set_cons_zero, List.set_cons_succ]
  refine wpAnyH_take (i := 6) (oi := { dst := some 24, op := .call { callee := .builtin .len, args := #[.tmp 23], argTypes := #[33] }, type := _, pos := _, after := _, guard := some (1, false) }) (v := undef) rfl (by kernel_rfl) (by kernel_rfl) (by kernel_rfl) (fun _ _ _ h => h) (Or.inr ⟨by rfl, rfl⟩) hS0 ?_
  simp only [Act.put, List.setIfInBounds_toArray, List.set_cons_zero, List.set_cons_succ]
  refine wpAnyH_take (i := 7) (oi := { dst := some 25, op := .binOp .lss 3 (.tmp 24) (.const (.int .i64 256)) 3, type := _, pos := _, after := _, guard := some (1, false) }) (v := undef) rfl (by kernel_rfl) (by kernel_rfl) (by kernel_rfl) (fun _ _ _ h => h) (Or.inr ⟨by rfl, rfl⟩) hS0 ?_
  simp only [Act.put, List.setIfInBounds_toArray, List.set_cons_zero, List.set_cons_succ]
  refine wpAnyH_take (i := 8) (oi := { dst := some 26, op := .pick (.tmp 19) (.const (.bool true)) (.tmp 25), type := _, pos := _, after := _, guard := none }) (v := .bool true) rfl (by kernel_rfl) (by kernel_rfl) (by kernel_rfl) (fun _ _ _ h => h) (Or.inl ⟨by rfl, ?_⟩) hS0 ?_
  · intro wS hSw
    go_simp
  simp only [Act.put, List.setIfInBounds_toArray, List.set_cons_zero, List.set_cons_succ]
  refine wpAnyH_take (i := 9) (oi := { dst := some 27, op := .move (.tmp 26), type := _, pos := _, after := _, guard := none }) (v := .bool true) rfl (by kernel_rfl) (by kernel_rfl) (by kernel_rfl) (fun _ _ _ h => h) (Or.inl ⟨by rfl, ?_⟩) hS0 ?_
  · intro wS hSw
    go_simp
  simp only [Act.put, List.setIfInBounds_toArray, List.set_cons_zero, List.set_cons_succ]
  refine wpAnyH_take (i := 10) (oi := { dst := some 28, op := .move (.tmp 2), type := _, pos := _, after := _, guard := some (9, true) }) (v := .int .i64 (n : Int)) rfl (by kernel_rfl) (by kernel_rfl) (by kernel_rfl) (fun _ _ _ h => h) (Or.inl ⟨by rfl, ?_⟩) hS0 ?_
  · intro wS hSw
    go_simp
  simp only [Act.put, List.setIfInBounds_toArray, List.set_cons_zero, List.set_cons_succ]
  refine wpAnyH_take (i := 11) (oi := { dst := some 29, op := .move (.tmp 0), type := _, pos := _, after := _, guard := some (9, true) }) (v := .pointer (some ⟨g, 0, none⟩)) rfl (by kernel_rfl) (by kernel_rfl) (by kernel_rfl) (fun _ _ _ h => h) (Or.inl ⟨by rfl, ?_⟩) hS0 ?_
  · intro wS hSw
    go_simp
  simp only [Act.put, List.setIfInBounds_toArray, List.set_cons_zero, List.set_cons_succ]
  refine wpAnyH_take (i := 12) (oi := { dst := some 30, op := .nilCheck (.tmp 29), type := _, pos := _, after := _, guard := some (9, true) }) (v := .pointer (some ⟨g, 0, none⟩)) rfl (by kernel_rfl) (by kernel_rfl) (by kernel_rfl) (fun _ _ _ h => h) (Or.inl ⟨by rfl, ?_⟩) hS0 ?_
  · intro wS hSw
    go_simp
  simp only [Act.put, List.setIfInBounds_toArray, List.set_cons_zero, List.set_cons_succ]
  refine wpAnyH_take (i := 13) (oi := { dst := some 31, op := .fieldAddr 35 (.tmp 30) 1, type := _, pos := _, after := _, guard := some (9, true) }) (v := .pointer (some ⟨g, 1, none⟩)) rfl (by kernel_rfl) (by kernel_rfl) (by kernel_rfl) (fun _ _ _ h => h) (Or.inl ⟨by rfl, ?_⟩) hS0 ?_
  · intro wS hSw
    go_simp
  simp only [Act.put, List.setIfInBounds_toArray, List.set_cons_zero, List.set_cons_succ]
  refine wpAnyH_take (i := 14) (oi := { dst := some 32, op := .load 3 (.tmp 31), type := _, pos := _, after := _, guard := some (9, true) }) (v := .int .i64 (sz : Int)) rfl (by kernel_rfl) (by kernel_rfl) (by kernel_rfl) (fun _ _ _ h => h) (Or.inl ⟨by rfl, ?_⟩) hS0 ?_
  · intro wS hSw
    have z0 := (hSw.cell (lt_of_cell q1)).trans q1
    go_simp
  simp only [Act.put, List.setIfInBounds_toArray, List.set_cons_zero, List.set_cons_succ]
  refine wpAnyH_take (i := 15) (oi := { dst := some 33, op := .move (.tmp 0), type := _, pos := _, after := _, guard := some (9, true) }) (v := .pointer (some ⟨g, 0, none⟩)) rfl (by kernel_rfl) (by kernel_rfl) (by kernel_rfl) (fun _ _ _ h => h) (Or.inl ⟨by rfl, ?_⟩) hS0 ?_
  · intro wS hSw
    go_simp
  simp only [Act.put, List.setIfInBounds_toArray, List.set_cons_zero, List.set_cons_succ]
  refine wpAnyH_ready (rs := [16]) (by kernel_rfl) (by simp) ?_
  refine AllReadyH.cons (o := { dst := some 34, op := .call { callee := .value (.func 21), args := #[.tmp 33], argTypes := #[22] }, type := _, pos := _, after := _, guard := some (9, true) }) rfl (fun K hK => ?_) AllReadyH.nil
  rw [if_pos (by rfl)]
  have sv1 := hS0.size
  go_wp2_with (go_at_call 21; refine (HU.out _ hS0).mono ?_; rintro e x1 ⟨rfl, hb1⟩)
  have sz1 := hb1.size
  have hS1 := hS0.trans (hb1.mono hS0.size)
  refine hK.out _ _ hS1 (fun _ => ?_)
  clear hK K
  refine wpAnyH_take (i := 17) (oi := { dst := some 35, op := .binOp .sub 3 (.tmp 32) (.tmp 34) 3, type := _, pos := _, after := _, guard := some (9, true) }) (v := .int .i64 ((sz : Int) - (su : Int))) rfl (by kernel_rfl) (by kernel_rfl) (by kernel_rfl) (fun _ _ _ h => h) (Or.inl ⟨by rfl, ?_⟩) hS1 ?_
  · intro wS hSw
    go_simp
    try rw [hwr.out]
    try rfl
  simp only [Act.put, List.setIfInBounds_toArray, List.set_cons_zero, List.set_cons_succ]
  refine wpAnyH_take (i := 18) (oi := { dst := some 36, op := .binOp .leq 3 (.tmp 28) (.tmp 35) 3, type := _, pos := _, after := _, guard := some (9, true) }) (v := .bool false) rfl (by kernel_rfl) (by kernel_rfl) (by kernel_rfl) (fun _ _ _ h => h) (Or.inl ⟨by rfl, ?_⟩) hS1 ?_
  · intro wS hSw
    go_simp
    have hz := hle.out
    omega
  simp only [Act.put, List.setIfInBounds_toArray, List.set_cons_zero, List.set_cons_succ]
  refine wpAnyH_take (i := 19) (oi := { dst := some 37, op := .pick (.tmp 27) (.tmp 36) (.const (.bool false)), type := _, pos := _, after := _, guard := none }) (v := .bool false) rfl (by kernel_rfl) (by kernel_rfl) (by kernel_rfl) (fun _ _ _ h => h) (Or.inl ⟨by rfl, ?_⟩) hS1 ?_
  · intro wS hSw
    go_simp
  simp only [Act.put, List.setIfInBounds_toArray, List.set_cons_zero, List.set_cons_succ]
  refine wpAnyH_take (i := 20) (oi := { dst := some 6, op := .assign (.tmp 37), type := _, pos := _, after := _, guard := none }) (v := .bool false) rfl (by kernel_rfl) (by kernel_rfl) (by kernel_rfl) (fun _ _ _ h => h) (Or.inl ⟨by rfl, ?_⟩) hS1 ?_
  · intro wS hSw
    go_simp
  simp only [Act.put, List.setIfInBounds_toArray, List.set_cons_zero, List.set_cons_succ]
  refine wpAnyH_done (by kernel_rfl) ?_ _
  go_wp2
  go_ret
  exact ⟨rfl, hB0.out.trans (hS1.mono hB0.out.size)⟩

theorem room_3 (g mb B : Nat) (w : World) (m : FMap) (sz wr n : Nat) (lf : Int) (nm : ByteArray) (h : Ds B w g mb m sz lf wr) (hb : sumM m ≤ 67108864) (hsz : sz ≤ 67108864) (hs : nm.size ≤ 9223372036854775807) (hl : lookM m nm = none) (hm : m.length < 256) (hle : (n : Int) ≤ (sz : Int) - (sumM m : Int)) :
    Calls Tryd.prog 35 #[.pointer (some ⟨g, 0, none⟩), .string nm, .int .i64 (n : Int)] w fun r w' => r = .returned (.bool true) ∧ Below w.heap.size w w' := by
  have HP0 := hidU h.mp
  have q2 := h.files
  have q1 := h.at_.cell 1
  simp only [List.getElem?_cons_zero, List.getElem?_cons_succ] at q1
  obtain ⟨su, hsu⟩ : ∃ su, Hid (su = sumM m) := ⟨_, (rfl : _ = sumM m)⟩
  have hsu1 : su ≤ 67108864 := by rw [hsu.out]; exact hb
  have hlu := h.lt
  have hH := hidU h
  have HL := hidU hl
  clear h hl hlu
  go_enter Tryd.func35, Tryd.ntmps35
  go_wp2_with (first
    | (refine wpList_look mF rfl (.tmp 13) (.tmp 14) true rfl nm rfl rfl HP0.out hs (.tuple #[.agg #[.slice none 0 0, .int .i64 0, .bool false], .bool false]) (by rw [HL.out]; rfl) ?_)
    | (refine wpList_alloc_at rfl 66 rfl [.slice none 0 0, .int .i64 0, .bool false] 3 z66 ?_; intro w1 hA1 hb1 hs1)
    | (refine wpList_store_at rfl 66 (.tmp 7) (.tmp 16) rfl w.heap.size [.slice none 0 0, .int .i64 0, .bool false] rfl rfl 66 _ hA1 i66 rfl one3 ?_; intro y hA2 hb2 hs2; refine Hid.out ?_))
  have hB0 : Hid (Below w.heap.size w y) := hidU (hb2.below hb1 (Nat.le_refl _) hb1.size)
  have HP := hidU (HP0.out.below hB0.out)
  have q2 := (hB0.out.cell (lt_of_cell q2)).trans q2
  have q1 := (hB0.out.cell (lt_of_cell q1)).trans q1
  refine hidU ?_
  have HU : Hid (∀ x, Below y.heap.size y x → Calls Tryd.prog 21 #[.pointer (some ⟨g, 0, none⟩)] x fun r w' => r = .returned (.int .i64 (su : Int)) ∧ Below x.heap.size x w') := hidU (fun x hx => by
    rw [hsu.out]
    exact used_p (hH.out.below (hB0.out.trans (hx.mono hB0.out.size))) hb)
  obtain ⟨ml, hml⟩ : ∃ ml, Hid (m.length = ml) := ⟨_, (rfl : m.length = _)⟩
  have hwr : Hid (IntKind.i64.wrap ((sz : Int) - (su : Int)) = (sz : Int) - (su : Int)) := by show _ = _; rw [IntKind.wrap_i64]; omega
  have hlt : Hid ((ml : Int) < 256) := hidU (by have := hml.out; omega)
  have hle : Hid ((n : Int) ≤ (sz : Int) - (su : Int)) := hidU (by have := hsu.out; omega)
  clear hA1 hA2 hb1 hb2 hs1 hs2 hsu HL HP0
  go_wp2
  have hS0 : Below y.heap.size y y.drew := Below.drew (Below.refl _ _)
  refine wp_region_held_drew (S := fun xS => Below y.heap.size y xS) (by kernel_rfl) hS0 ?_
  obtain ⟨x0, hx0⟩ : ∃ x, x = y.drew := ⟨_, rfl⟩
  rw [← hx0] at hS0  ⊢
  clear hx0
  intro _
  refine wpAnyH_take (i := 0) (oi := { dst := some 18, op := .move (.tmp 8), type := _, pos := _, after := _, guard := none }) (v := .bool false) rfl (by kernel_rfl) (by kernel_rfl) (by kernel_rfl) (fun _ _ _ h => h) (Or.inl ⟨by rfl, ?_⟩) hS0 ?_
  · intro wS hSw
    go_simp
  simp only [Act.put, List.setIfInBounds_toArray, List.set_cons_zero, List.set_cons_succ]
  refine wpAnyH_take (i := 1) (oi := { dst := some 19, op := .move (.tmp 18), type := _, pos := _, after := _, guard := none }) (v := .bool false) rfl (by kernel_rfl) (by kernel_rfl) (by kernel_rfl) (fun _ _ _ h => h) (Or.inl ⟨by rfl, ?_⟩) hS0 ?_
  · intro wS hSw
    go_simp
  simp only [Act.put, List.setIfInBounds_toArray, List.set_cons_zero, List.set_cons_succ]
  refine wpAnyH_take (i := 2) (oi := { dst := some 20, op := .move (.tmp 0), type := _, pos := _, after := _, guard := some (1, false) }) (v := .pointer (some ⟨g, 0, none⟩)) rfl (by kernel_rfl) (by kernel_rfl) (by kernel_rfl) (fun _ _ _ h => h) (Or.inl ⟨by rfl, ?_⟩) hS0 ?_
  · intro wS hSw
    go_simp
  simp only [Act.put, List.setIfInBounds_toArray, List.set_cons_zero, List.set_cons_succ]
  refine wpAnyH_take (i := 3) (oi := { dst := some 21, op := .nilCheck (.tmp 20), type := _, pos := _, after := _, guard := some (1, false) }) (v := .pointer (some ⟨g, 0, none⟩)) rfl (by kernel_rfl) (by kernel_rfl) (by kernel_rfl) (fun _ _ _ h => h) (Or.inl ⟨by rfl, ?_⟩) hS0 ?_
  · intro wS hSw
    go_simp
  simp only [Act.put, List.setIfInBounds_toArray, List.set_cons_zero, List.set_cons_succ]
  refine wpAnyH_take (i := 4) (oi := { dst := some 22, op := .fieldAddr 35 (.tmp 21) 2, type := _, pos := _, after := _, guard := some (1, false) }) (v := .pointer (some ⟨g, 2, none⟩)) rfl (by kernel_rfl) (by kernel_rfl) (by kernel_rfl) (fun _ _ _ h => h) (Or.inl ⟨by rfl, ?_⟩) hS0 ?_
  · intro wS hSw
    go_simp
  simp only [Act.put, List.setIfInBounds_toArray, List.set_cons_zero, List.set_cons_succ]
  refine wpAnyH_take (i := 5) (oi := { dst := some 23, op := .load 33 (.tmp 22), type := _, pos := _, after := _, guard := some (1, false) }) (v := .map (some mb)) rfl (by kernel_rfl) (by kernel_rfl) (by kernel_rfl) (fun _ _ _ h => h) (Or.inl ⟨by rfl, ?_⟩) hS0 ?_
  · intro wS hSw
    have z0 := (hSw.cell (lt_of_cell q2)).trans q2
    go_simp
  simp only [Act.put, List.setIfInBounds_toArray, List.set_cons_zero, List.set_cons_succ]
  refine wpAnyH_take (i := 6) (oi := { dst := some 24, op := .call { callee := .builtin .len, args := #[.tmp 23], argTypes := #[33] }, type := _, pos := _, after := _, guard := some (1, false) }) (v := .int .i64 (ml : Int)) rfl (by kernel_rfl) (by kernel_rfl) (by kernel_rfl) (fun _ _ _ h => h) (Or.inl ⟨by rfl, ?_⟩) hS0 ?_
  · intro wS hSw
    have hz := (HP.out.below hSw).len 3
    simp only [mF, hml.out] at hz
    go_simp
    try rw [hz]
    try rfl
  simp only [Act.put, List.setIfInBounds_toArray, List.set_cons_zero, List.set_cons_succ]
  refine wpAnyH_take (i := 7) (oi := { dst := some 25, op := .binOp .lss 3 (.tmp 24) (.const (.int .i64 256)) 3, type := _, pos := _, after := _, guard := some (1, false) }) (v := .bool true) rfl (by kernel_rfl) (by kernel_rfl) (by kernel_rfl) (fun _ _ _ h => h) (Or.inl ⟨by rfl, ?_⟩) hS0 ?_
  · intro wS hSw
    go_simp
    have hz := hlt.out
    omega
  simp only [Act.put, List.setIfInBounds_toArray, List.set_cons_zero, List.set_cons_succ]
  refine wpAnyH_take (i := 8) (oi := { dst := some 26, op := .pick (.tmp 19) (.const (.bool true)) (.tmp 25), type := _, pos := _, after := _, guard := none }) (v := .bool true) rfl (by kernel_rfl) (by kernel_rfl) (by kernel_rfl) (fun _ _ _ h => h) (Or.inl ⟨by rfl, ?_⟩) hS0 ?_
  · intro wS hSw
    go_simp
  simp only [Act.put, List.setIfInBounds_toArray, List.set_cons_zero, List.set_cons_succ]
  refine wpAnyH_take (i := 9) (oi := { dst := some 27, op := .move (.tmp 26), type := _, pos := _, after := _, guard := none }) (v := .bool true) rfl (by kernel_rfl) (by kernel_rfl) (by kernel_rfl) (fun _ _ _ h => h) (Or.inl ⟨by rfl, ?_⟩) hS0 ?_
  · intro wS hSw
    go_simp
  simp only [Act.put, List.setIfInBounds_toArray, List.set_cons_zero, List.set_cons_succ]
  refine wpAnyH_take (i := 10) (oi := { dst := some 28, op := .move (.tmp 2), type := _, pos := _, after := _, guard := some (9, true) }) (v := .int .i64 (n : Int)) rfl (by kernel_rfl) (by kernel_rfl) (by kernel_rfl) (fun _ _ _ h => h) (Or.inl ⟨by rfl, ?_⟩) hS0 ?_
  · intro wS hSw
    go_simp
  simp only [Act.put, List.setIfInBounds_toArray, List.set_cons_zero, List.set_cons_succ]
  refine wpAnyH_take (i := 11) (oi := { dst := some 29, op := .move (.tmp 0), type := _, pos := _, after := _, guard := some (9, true) }) (v := .pointer (some ⟨g, 0, none⟩)) rfl (by kernel_rfl) (by kernel_rfl) (by kernel_rfl) (fun _ _ _ h => h) (Or.inl ⟨by rfl, ?_⟩) hS0 ?_
  · intro wS hSw
    go_simp
  simp only [Act.put, List.setIfInBounds_toArray, List.set_cons_zero, List.set_cons_succ]
  refine wpAnyH_take (i := 12) (oi := { dst := some 30, op := .nilCheck (.tmp 29), type := _, pos := _, after := _, guard := some (9, true) }) (v := .pointer (some ⟨g, 0, none⟩)) rfl (by kernel_rfl) (by kernel_rfl) (by kernel_rfl) (fun _ _ _ h => h) (Or.inl ⟨by rfl, ?_⟩) hS0 ?_
  · intro wS hSw
    go_simp
  simp only [Act.put, List.setIfInBounds_toArray, List.set_cons_zero, List.set_cons_succ]
  refine wpAnyH_take (i := 13) (oi := { dst := some 31, op := .fieldAddr 35 (.tmp 30) 1, type := _, pos := _, after := _, guard := some (9, true) }) (v := .pointer (some ⟨g, 1, none⟩)) rfl (by kernel_rfl) (by kernel_rfl) (by kernel_rfl) (fun _ _ _ h => h) (Or.inl ⟨by rfl, ?_⟩) hS0 ?_
  · intro wS hSw
    go_simp
  simp only [Act.put, List.setIfInBounds_toArray, List.set_cons_zero, List.set_cons_succ]
  refine wpAnyH_take (i := 14) (oi := { dst := some 32, op := .load 3 (.tmp 31), type := _, pos := _, after := _, guard := some (9, true) }) (v := .int .i64 (sz : Int)) rfl (by kernel_rfl) (by kernel_rfl) (by kernel_rfl) (fun _ _ _ h => h) (Or.inl ⟨by rfl, ?_⟩) hS0 ?_
  · intro wS hSw
    have z0 := (hSw.cell (lt_of_cell q1)).trans q1
    go_simp
  simp only [Act.put, List.setIfInBounds_toArray, List.set_cons_zero, List.set_cons_succ]
  refine wpAnyH_take (i := 15) (oi := { dst := some 33, op := .move (.tmp 0), type := _, pos := _, after := _, guard := some (9, true) }) (v := .pointer (some ⟨g, 0, none⟩)) rfl (by kernel_rfl) (by kernel_rfl) (by kernel_rfl) (fun _ _ _ h => h) (Or.inl ⟨by rfl, ?_⟩) hS0 ?_
  · intro wS hSw
    go_simp
  simp only [Act.put, List.setIfInBounds_toArray, List.set_cons_zero, List.set_cons_succ]
  refine wpAnyH_ready (rs := [16]) (by kernel_rfl) (by simp) ?_
  refine AllReadyH.cons (o := { dst := some 34, op := .call { callee := .value (.func 21), args := #[.tmp 33], argTypes := #[22] }, type := _, pos := _, after := _, guard := some (9, true) }) rfl (fun K hK => ?_) AllReadyH.nil
  rw [if_pos (by rfl)]
  have sv1 := hS0.size
  go_wp2_with (go_at_call 21; refine (HU.out _ hS0).mono ?_; rintro e x1 ⟨rfl, hb1⟩)
  have sz1 := hb1.size
  have hS1 := hS0.trans (hb1.mono hS0.size)
  refine hK.out _ _ hS1 (fun _ => ?_)
  clear hK K
  refine wpAnyH_take (i := 17) (oi := { dst := some 35, op := .binOp .sub 3 (.tmp 32) (.tmp 34) 3, type := _, pos := _, after := _, guard := some (9, true) }) (v := .int .i64 ((sz : Int) - (su : Int))) rfl (by kernel_rfl) (by kernel_rfl) (by kernel_rfl) (fun _ _ _ h => h) (Or.inl ⟨by rfl, ?_⟩) hS1 ?_
  · intro wS hSw
    go_simp
    try rw [hwr.out]
    try rfl
  simp only [Act.put, List.setIfInBounds_toArray, List.set_cons_zero, List.set_cons_succ]
  refine wpAnyH_take (i := 18) (oi := { dst := some 36, op := .binOp .leq 3 (.tmp 28) (.tmp 35) 3, type := _, pos := _, after := _, guard := some (9, true) }) (v := .bool true) rfl (by kernel_rfl) (by kernel_rfl) (by kernel_rfl) (fun _ _ _ h => h) (Or.inl ⟨by rfl, ?_⟩) hS1 ?_
  · intro wS hSw
    go_simp
    have hz := hle.out
    omega
  simp only [Act.put, List.setIfInBounds_toArray, List.set_cons_zero, List.set_cons_succ]
  refine wpAnyH_take (i := 19) (oi := { dst := some 37, op := .pick (.tmp 27) (.tmp 36) (.const (.bool false)), type := _, pos := _, after := _, guard := none }) (v := .bool true) rfl (by kernel_rfl) (by kernel_rfl) (by kernel_rfl) (fun _ _ _ h => h) (Or.inl ⟨by rfl, ?_⟩) hS1 ?_
  · intro wS hSw
    go_simp
  simp only [Act.put, List.setIfInBounds_toArray, List.set_cons_zero, List.set_cons_succ]
  refine wpAnyH_take (i := 20) (oi := { dst := some 6, op := .assign (.tmp 37), type := _, pos := _, after := _, guard := none }) (v := .bool true) rfl (by kernel_rfl) (by kernel_rfl) (by kernel_rfl) (fun _ _ _ h => h) (Or.inl ⟨by rfl, ?_⟩) hS1 ?_
  · intro wS hSw
    go_simp
  simp only [Act.put, List.setIfInBounds_toArray, List.set_cons_zero, List.set_cons_succ]
  refine wpAnyH_done (by kernel_rfl) ?_ _
  go_wp2
  go_ret
  exact ⟨rfl, hB0.out.trans (hS1.mono hB0.out.size)⟩

theorem room_4 (g mb B : Nat) (w : World) (m : FMap) (sz wr n : Nat) (lf : Int) (nm : ByteArray) (h : Ds B w g mb m sz lf wr) (hb : sumM m ≤ 67108864) (hsz : sz ≤ 67108864) (hs : nm.size ≤ 9223372036854775807) (hl : lookM m nm = none) (hm : m.length < 256) (hle : ¬ (n : Int) ≤ (sz : Int) - (sumM m : Int)) :
    Calls Tryd.prog 35 #[.pointer (some ⟨g, 0, none⟩), .string nm, .int .i64 (n : Int)] w fun r w' => r = .returned (.bool false) ∧ Below w.heap.size w w' := by
  have HP0 := hidU h.mp
  have q2 := h.files
  have q1 := h.at_.cell 1
  simp only [List.getElem?_cons_zero, List.getElem?_cons_succ] at q1
  obtain ⟨su, hsu⟩ : ∃ su, Hid (su = sumM m) := ⟨_, (rfl : _ = sumM m)⟩
  have hsu1 : su ≤ 67108864 := by rw [hsu.out]; exact hb
  have hlu := h.lt
  have hH := hidU h
  have HL := hidU hl
  clear h hl hlu
  go_enter Tryd.func35, Tryd.ntmps35
  go_wp2_with (first
    | (refine wpList_look mF rfl (.tmp 13) (.tmp 14) true rfl nm rfl rfl HP0.out hs (.tuple #[.agg #[.slice none 0 0, .int .i64 0, .bool false], .bool false]) (by rw [HL.out]; rfl) ?_)
    | (refine wpList_alloc_at rfl 66 rfl [.slice none 0 0, .int .i64 0, .bool false] 3 z66 ?_; intro w1 hA1 hb1 hs1)
    | (refine wpList_store_at rfl 66 (.tmp 7) (.tmp 16) rfl w.heap.size [.slice none 0 0, .int .i64 0, .bool false] rfl rfl 66 _ hA1 i66 rfl one3 ?_; intro y hA2 hb2 hs2; refine Hid.out ?_))
  have hB0 : Hid (Below w.heap.size w y) := hidU (hb2.below hb1 (Nat.le_refl _) hb1.size)
  have HP := hidU (HP0.out.below hB0.out)
  have q2 := (hB0.out.cell (lt_of_cell q2)).trans q2
  have q1 := (hB0.out.cell (lt_of_cell q1)).trans q1
  refine hidU ?_
  have HU : Hid (∀ x, Below y.heap.size y x → Calls Tryd.prog 21 #[.pointer (some ⟨g, 0, none⟩)] x fun r w' => r = .returned (.int .i64 (su : Int)) ∧ Below x.heap.size x w') := hidU (fun x hx => by
    rw [hsu.out]
    exact used_p (hH.out.below (hB0.out.trans (hx.mono hB0.out.size))) hb)
  obtain ⟨ml, hml⟩ : ∃ ml, Hid (m.length = ml) := ⟨_, (rfl : m.length = _)⟩
  have hwr : Hid (IntKind.i64.wrap ((sz : Int) - (su : Int)) = (sz : Int) - (su : Int)) := by show _ = _; rw [IntKind.wrap_i64]; omega
  have hlt : Hid ((ml : Int) < 256) := hidU (by have := hml.out; omega)
  have hle : Hid (¬ (n : Int) ≤ (sz : Int) - (su : Int)) := hidU (by have := hsu.out; omega)
  clear hA1 hA2 hb1 hb2 hs1 hs2 hsu HL HP0
  go_wp2
  have hS0 : Below y.heap.size y y.drew := Below.drew (Below.refl _ _)
  refine wp_region_held_drew (S := fun xS => Below y.heap.size y xS) (by kernel_rfl) hS0 ?_
  obtain ⟨x0, hx0⟩ : ∃ x, x = y.drew := ⟨_, rfl⟩
  rw [← hx0] at hS0  ⊢
  clear hx0
  intro _
  refine wpAnyH_take (i := 0) (oi := { dst := some 18, op := .move (.tmp 8), type := _, pos := _, after := _, guard := none }) (v := .bool false) rfl (by kernel_rfl) (by kernel_rfl) (by kernel_rfl) (fun _ _ _ h => h) (Or.inl ⟨by rfl, ?_⟩) hS0 ?_
  · intro wS hSw
    go_simp
  simp only [Act.put, List.setIfInBounds_toArray, List.set_cons_zero, List.set_cons_succ]
  refine wpAnyH_take (i := 1) (oi := { dst := some 19, op := .move (.tmp 18), type := _, pos := _, after := _, guard := none }) (v := .bool false) rfl (by kernel_rfl) (by kernel_rfl) (by kernel_rfl) (fun _ _ _ h => h) (Or.inl ⟨by rfl, ?_⟩) hS0 ?_
  · intro wS hSw
    go_simp
  simp only [Act.put, List.setIfInBounds_toArray, List.set_cons_zero, List.set_cons_succ]
  refine wpAnyH_take (i := 2) (oi := { dst := some 20, op := .move (.tmp 0), type := _, pos := _, after := _, guard := some (1, false) }) (v := .pointer (some ⟨g, 0, none⟩)) rfl (by kernel_rfl) (by kernel_rfl) (by kernel_rfl) (fun _ _ _ h => h) (Or.inl ⟨by rfl, ?_⟩) hS0 ?_
  · intro wS hSw
    go_simp
  simp only [Act.put, List.setIfInBounds_toArray, List.set_cons_zero, List.set_cons_succ]
  refine wpAnyH_take (i := 3) (oi := { dst := some 21, op := .nilCheck (.tmp 20), type := _, pos := _, after := _, guard := some (1, false) }) (v := .pointer (some ⟨g, 0, none⟩)) rfl (by kernel_rfl) (by kernel_rfl) (by kernel_rfl) (fun _ _ _ h => h) (Or.inl ⟨by rfl, ?_⟩) hS0 ?_
  · intro wS hSw
    go_simp
  simp only [Act.put, List.setIfInBounds_toArray, List.set_cons_zero, List.set_cons_succ]
  refine wpAnyH_take (i := 4) (oi := { dst := some 22, op := .fieldAddr 35 (.tmp 21) 2, type := _, pos := _, after := _, guard := some (1, false) }) (v := .pointer (some ⟨g, 2, none⟩)) rfl (by kernel_rfl) (by kernel_rfl) (by kernel_rfl) (fun _ _ _ h => h) (Or.inl ⟨by rfl, ?_⟩) hS0 ?_
  · intro wS hSw
    go_simp
  simp only [Act.put, List.setIfInBounds_toArray, List.set_cons_zero, List.set_cons_succ]
  refine wpAnyH_take (i := 5) (oi := { dst := some 23, op := .load 33 (.tmp 22), type := _, pos := _, after := _, guard := some (1, false) }) (v := .map (some mb)) rfl (by kernel_rfl) (by kernel_rfl) (by kernel_rfl) (fun _ _ _ h => h) (Or.inl ⟨by rfl, ?_⟩) hS0 ?_
  · intro wS hSw
    have z0 := (hSw.cell (lt_of_cell q2)).trans q2
    go_simp
  simp only [Act.put, List.setIfInBounds_toArray, List.set_cons_zero, List.set_cons_succ]
  refine wpAnyH_take (i := 6) (oi := { dst := some 24, op := .call { callee := .builtin .len, args := #[.tmp 23], argTypes := #[33] }, type := _, pos := _, after := _, guard := some (1, false) }) (v := .int .i64 (ml : Int)) rfl (by kernel_rfl) (by kernel_rfl) (by kernel_rfl) (fun _ _ _ h => h) (Or.inl ⟨by rfl, ?_⟩) hS0 ?_
  · intro wS hSw
    have hz := (HP.out.below hSw).len 3
    simp only [mF, hml.out] at hz
    go_simp
    try rw [hz]
    try rfl
  simp only [Act.put, List.setIfInBounds_toArray, List.set_cons_zero, List.set_cons_succ]
  refine wpAnyH_take (i := 7) (oi := { dst := some 25, op := .binOp .lss 3 (.tmp 24) (.const (.int .i64 256)) 3, type := _, pos := _, after := _, guard := some (1, false) }) (v := .bool true) rfl (by kernel_rfl) (by kernel_rfl) (by kernel_rfl) (fun _ _ _ h => h) (Or.inl ⟨by rfl, ?_⟩) hS0 ?_
  · intro wS hSw
    go_simp
    have hz := hlt.out
    omega
  simp only [Act.put, List.setIfInBounds_toArray, List.set_cons_zero, List.set_cons_succ]
  refine wpAnyH_take (i := 8) (oi := { dst := some 26, op := .pick (.tmp 19) (.const (.bool true)) (.tmp 25), type := _, pos := _, after := _, guard := none }) (v := .bool true) rfl (by kernel_rfl) (by kernel_rfl) (by kernel_rfl) (fun _ _ _ h => h) (Or.inl ⟨by rfl, ?_⟩) hS0 ?_
  · intro wS hSw
    go_simp
  simp only [Act.put, List.setIfInBounds_toArray, List.set_cons_zero, List.set_cons_succ]
  refine wpAnyH_take (i := 9) (oi := { dst := some 27, op := .move (.tmp 26), type := _, pos := _, after := _, guard := none }) (v := .bool true) rfl (by kernel_rfl) (by kernel_rfl) (by kernel_rfl) (fun _ _ _ h => h) (Or.inl ⟨by rfl, ?_⟩) hS0 ?_
  · intro wS hSw
    go_simp
  simp only [Act.put, List.setIfInBounds_toArray, List.set_cons_zero, List.set_cons_succ]
  refine wpAnyH_take (i := 10) (oi := { dst := some 28, op := .move (.tmp 2), type := _, pos := _, after := _, guard := some (9, true) }) (v := .int .i64 (n : Int)) rfl (by kernel_rfl) (by kernel_rfl) (by kernel_rfl) (fun _ _ _ h => h) (Or.inl ⟨by rfl, ?_⟩) hS0 ?_
  · intro wS hSw
    go_simp
  simp only [Act.put, List.setIfInBounds_toArray, List.set_cons_zero, List.set_cons_succ]
  refine wpAnyH_take (i := 11) (oi := { dst := some 29, op := .move (.tmp 0), type := _, pos := _, after := _, guard := some (9, true) }) (v := .pointer (some ⟨g, 0, none⟩)) rfl (by kernel_rfl) (by kernel_rfl) (by kernel_rfl) (fun _ _ _ h => h) (Or.inl ⟨by rfl, ?_⟩) hS0 ?_
  · intro wS hSw
    go_simp
  simp only [Act.put, List.setIfInBounds_toArray, List.set_cons_zero, List.set_cons_succ]
  refine wpAnyH_take (i := 12) (oi := { dst := some 30, op := .nilCheck (.tmp 29), type := _, pos := _, after := _, guard := some (9, true) }) (v := .pointer (some ⟨g, 0, none⟩)) rfl (by kernel_rfl) (by kernel_rfl) (by kernel_rfl) (fun _ _ _ h => h) (Or.inl ⟨by rfl, ?_⟩) hS0 ?_
  · intro wS hSw
    go_simp
  simp only [Act.put, List.setIfInBounds_toArray, List.set_cons_zero, List.set_cons_succ]
  refine wpAnyH_take (i := 13) (oi := { dst := some 31, op := .fieldAddr 35 (.tmp 30) 1, type := _, pos := _, after := _, guard := some (9, true) }) (v := .pointer (some ⟨g, 1, none⟩)) rfl (by kernel_rfl) (by kernel_rfl) (by kernel_rfl) (fun _ _ _ h => h) (Or.inl ⟨by rfl, ?_⟩) hS0 ?_
  · intro wS hSw
    go_simp
  simp only [Act.put, List.setIfInBounds_toArray, List.set_cons_zero, List.set_cons_succ]
  refine wpAnyH_take (i := 14) (oi := { dst := some 32, op := .load 3 (.tmp 31), type := _, pos := _, after := _, guard := some (9, true) }) (v := .int .i64 (sz : Int)) rfl (by kernel_rfl) (by kernel_rfl) (by kernel_rfl) (fun _ _ _ h => h) (Or.inl ⟨by rfl, ?_⟩) hS0 ?_
  · intro wS hSw
    have z0 := (hSw.cell (lt_of_cell q1)).trans q1
    go_simp
  simp only [Act.put, List.setIfInBounds_toArray, List.set_cons_zero, List.set_cons_succ]
  refine wpAnyH_take (i := 15) (oi := { dst := some 33, op := .move (.tmp 0), type := _, pos := _, after := _, guard := some (9, true) }) (v := .pointer (some ⟨g, 0, none⟩)) rfl (by kernel_rfl) (by kernel_rfl) (by kernel_rfl) (fun _ _ _ h => h) (Or.inl ⟨by rfl, ?_⟩) hS0 ?_
  · intro wS hSw
    go_simp
  simp only [Act.put, List.setIfInBounds_toArray, List.set_cons_zero, List.set_cons_succ]
  refine wpAnyH_ready (rs := [16]) (by kernel_rfl) (by simp) ?_
  refine AllReadyH.cons (o := { dst := some 34, op := .call { callee := .value (.func 21), args := #[.tmp 33], argTypes := #[22] }, type := _, pos := _, after := _, guard := some (9, true) }) rfl (fun K hK => ?_) AllReadyH.nil
  rw [if_pos (by rfl)]
  have sv1 := hS0.size
  go_wp2_with (go_at_call 21; refine (HU.out _ hS0).mono ?_; rintro e x1 ⟨rfl, hb1⟩)
  have sz1 := hb1.size
  have hS1 := hS0.trans (hb1.mono hS0.size)
  refine hK.out _ _ hS1 (fun _ => ?_)
  clear hK K
  refine wpAnyH_take (i := 17) (oi := { dst := some 35, op := .binOp .sub 3 (.tmp 32) (.tmp 34) 3, type := _, pos := _, after := _, guard := some (9, true) }) (v := .int .i64 ((sz : Int) - (su : Int))) rfl (by kernel_rfl) (by kernel_rfl) (by kernel_rfl) (fun _ _ _ h => h) (Or.inl ⟨by rfl, ?_⟩) hS1 ?_
  · intro wS hSw
    go_simp
    try rw [hwr.out]
    try rfl
  simp only [Act.put, List.setIfInBounds_toArray, List.set_cons_zero, List.set_cons_succ]
  refine wpAnyH_take (i := 18) (oi := { dst := some 36, op := .binOp .leq 3 (.tmp 28) (.tmp 35) 3, type := _, pos := _, after := _, guard := some (9, true) }) (v := .bool false) rfl (by kernel_rfl) (by kernel_rfl) (by kernel_rfl) (fun _ _ _ h => h) (Or.inl ⟨by rfl, ?_⟩) hS1 ?_
  · intro wS hSw
    go_simp
    have hz := hle.out
    omega
  simp only [Act.put, List.setIfInBounds_toArray, List.set_cons_zero, List.set_cons_succ]
  refine wpAnyH_take (i := 19) (oi := { dst := some 37, op := .pick (.tmp 27) (.tmp 36) (.const (.bool false)), type := _, pos := _, after := _, guard := none }) (v := .bool false) rfl (by kernel_rfl) (by kernel_rfl) (by kernel_rfl) (fun _ _ _ h => h) (Or.inl ⟨by rfl, ?_⟩) hS1 ?_
  · intro wS hSw
    go_simp
  simp only [Act.put, List.setIfInBounds_toArray, List.set_cons_zero, List.set_cons_succ]
  refine wpAnyH_take (i := 20) (oi := { dst := some 6, op := .assign (.tmp 37), type := _, pos := _, after := _, guard := none }) (v := .bool false) rfl (by kernel_rfl) (by kernel_rfl) (by kernel_rfl) (fun _ _ _ h => h) (Or.inl ⟨by rfl, ?_⟩) hS1 ?_
  · intro wS hSw
    go_simp
  simp only [Act.put, List.setIfInBounds_toArray, List.set_cons_zero, List.set_cons_succ]
  refine wpAnyH_done (by kernel_rfl) ?_ _
  go_wp2
  go_ret
  exact ⟨rfl, hB0.out.trans (hS1.mono hB0.out.size)⟩

theorem room_5 (g mb B : Nat) (w : World) (m : FMap) (sz wr n : Nat) (lf : Int) (nm : ByteArray) (h : Ds B w g mb m sz lf wr) (hb : sumM m ≤ 67108864) (hsz : sz ≤ 67108864) (hs : nm.size ≤ 9223372036854775807) (hl : lookM m nm = none) (hm : ¬ m.length < 256) :
    Calls Tryd.prog 35 #[.pointer (some ⟨g, 0, none⟩), .string nm, .int .i64 (n : Int)] w fun r w' => r = .returned (.bool false) ∧ Below w.heap.size w w' := by
  have HP0 := hidU h.mp
  have q2 := h.files
  have q1 := h.at_.cell 1
  simp only [List.getElem?_cons_zero, List.getElem?_cons_succ] at q1
  obtain ⟨su, hsu⟩ : ∃ su, Hid (su = sumM m) := ⟨_, (rfl : _ = sumM m)⟩
  have hsu1 : su ≤ 67108864 := by rw [hsu.out]; exact hb
  have hlu := h.lt
  have hH := hidU h
  have HL := hidU hl
  clear h hl hlu
  go_enter Tryd.func35, Tryd.ntmps35
  go_wp2_with (first
    | (refine wpList_look mF rfl (.tmp 13) (.tmp 14) true rfl nm rfl rfl HP0.out hs (.tuple #[.agg #[.slice none 0 0, .int .i64 0, .bool false], .bool false]) (by rw [HL.out]; rfl) ?_)
    | (refine wpList_alloc_at rfl 66 rfl [.slice none 0 0, .int .i64 0, .bool false] 3 z66 ?_; intro w1 hA1 hb1 hs1)
    | (refine wpList_store_at rfl 66 (.tmp 7) (.tmp 16) rfl w.heap.size [.slice none 0 0, .int .i64 0, .bool false] rfl rfl 66 _ hA1 i66 rfl one3 ?_; intro y hA2 hb2 hs2; refine Hid.out ?_))
  have hB0 : Hid (Below w.heap.size w y) := hidU (hb2.below hb1 (Nat.le_refl _) hb1.size)
  have HP := hidU (HP0.out.below hB0.out)
  have q2 := (hB0.out.cell (lt_of_cell q2)).trans q2
  have q1 := (hB0.out.cell (lt_of_cell q1)).trans q1
  refine hidU ?_
  have HU : Hid (∀ x, Below y.heap.size y x → Calls Tryd.prog 21 #[.pointer (some ⟨g, 0, none⟩)] x fun r w' => r = .returned (.int .i64 (su : Int)) ∧ Below x.heap.size x w') := hidU (fun x hx => by
    rw [hsu.out]
    exact used_p (hH.out.below (hB0.out.trans (hx.mono hB0.out.size))) hb)
  obtain ⟨ml, hml⟩ : ∃ ml, Hid (m.length = ml) := ⟨_, (rfl : m.length = _)⟩
  have hwr : Hid (IntKind.i64.wrap ((sz : Int) - (su : Int)) = (sz : Int) - (su : Int)) := by show _ = _; rw [IntKind.wrap_i64]; omega
  have hlt : Hid (¬ (ml : Int) < 256) := hidU (by have := hml.out; omega)
  clear hA1 hA2 hb1 hb2 hs1 hs2 hsu HL HP0
  go_wp2
  have hS0 : Below y.heap.size y y.drew := Below.drew (Below.refl _ _)
  refine wp_region_held_drew (S := fun xS => Below y.heap.size y xS) (by kernel_rfl) hS0 ?_
  obtain ⟨x0, hx0⟩ : ∃ x, x = y.drew := ⟨_, rfl⟩
  rw [← hx0] at hS0  ⊢
  clear hx0
  intro _
  refine wpAnyH_take (i := 0) (oi := { dst := some 18, op := .move (.tmp 8), type := _, pos := _, after := _, guard := none }) (v := .bool false) rfl (by kernel_rfl) (by kernel_rfl) (by kernel_rfl) (fun _ _ _ h => h) (Or.inl ⟨by rfl, ?_⟩) hS0 ?_
  · intro wS hSw
    go_simp
  simp only [Act.put, List.setIfInBounds_toArray, List.set_cons_zero, List.set_cons_succ]
  refine wpAnyH_take (i := 1) (oi := { dst := some 19, op := .move (.tmp 18), type := _, pos := _, after := _, guard := none }) (v := .bool false) rfl (by kernel_rfl) (by kernel_rfl) (by kernel_rfl) (fun _ _ _ h => h) (Or.inl ⟨by rfl, ?_⟩) hS0 ?_
  · intro wS hSw
    go_simp
  simp only [Act.put, List.setIfInBounds_toArray, List.set_cons_zero, List.set_cons_succ]
  refine wpAnyH_take (i := 2) (oi := { dst := some 20, op := .move (.tmp 0), type := _, pos := _, after := _, guard := some (1, false) }) (v := .pointer (some ⟨g, 0, none⟩)) rfl (by kernel_rfl) (by kernel_rfl) (by kernel_rfl) (fun _ _ _ h => h) (Or.inl ⟨by rfl, ?_⟩) hS0 ?_
  · intro wS hSw
    go_simp
  simp only [Act.put, List.setIfInBounds_toArray, List.set_cons_zero, List.set_cons_succ]
  refine wpAnyH_take (i := 3) (oi := { dst := some 21, op := .nilCheck (.tmp 20), type := _, pos := _, after := _, guard := some (1, false) }) (v := .pointer (some ⟨g, 0, none⟩)) rfl (by kernel_rfl) (by kernel_rfl) (by kernel_rfl) (fun _ _ _ h => h) (Or.inl ⟨by rfl, ?_⟩) hS0 ?_
  · intro wS hSw
    go_simp
  simp only [Act.put, List.setIfInBounds_toArray, List.set_cons_zero, List.set_cons_succ]
  refine wpAnyH_take (i := 4) (oi := { dst := some 22, op := .fieldAddr 35 (.tmp 21) 2, type := _, pos := _, after := _, guard := some (1, false) }) (v := .pointer (some ⟨g, 2, none⟩)) rfl (by kernel_rfl) (by kernel_rfl) (by kernel_rfl) (fun _ _ _ h => h) (Or.inl ⟨by rfl, ?_⟩) hS0 ?_
  · intro wS hSw
    go_simp
  simp only [Act.put, List.setIfInBounds_toArray, List.set_cons_zero, List.set_cons_succ]
  refine wpAnyH_take (i := 5) (oi := { dst := some 23, op := .load 33 (.tmp 22), type := _, pos := _, after := _, guard := some (1, false) }) (v := .map (some mb)) rfl (by kernel_rfl) (by kernel_rfl) (by kernel_rfl) (fun _ _ _ h => h) (Or.inl ⟨by rfl, ?_⟩) hS0 ?_
  · intro wS hSw
    have z0 := (hSw.cell (lt_of_cell q2)).trans q2
    go_simp
  simp only [Act.put, List.setIfInBounds_toArray, List.set_cons_zero, List.set_cons_succ]
  refine wpAnyH_take (i := 6) (oi := { dst := some 24, op := .call { callee := .builtin .len, args := #[.tmp 23], argTypes := #[33] }, type := _, pos := _, after := _, guard := some (1, false) }) (v := .int .i64 (ml : Int)) rfl (by kernel_rfl) (by kernel_rfl) (by kernel_rfl) (fun _ _ _ h => h) (Or.inl ⟨by rfl, ?_⟩) hS0 ?_
  · intro wS hSw
    have hz := (HP.out.below hSw).len 3
    simp only [mF, hml.out] at hz
    go_simp
    try rw [hz]
    try rfl
  simp only [Act.put, List.setIfInBounds_toArray, List.set_cons_zero, List.set_cons_succ]
  refine wpAnyH_take (i := 7) (oi := { dst := some 25, op := .binOp .lss 3 (.tmp 24) (.const (.int .i64 256)) 3, type := _, pos := _, after := _, guard := some (1, false) }) (v := .bool false) rfl (by kernel_rfl) (by kernel_rfl) (by kernel_rfl) (fun _ _ _ h => h) (Or.inl ⟨by rfl, ?_⟩) hS0 ?_
  · intro wS hSw
    go_simp
    have hz := hlt.out
    omega
  simp only [Act.put, List.setIfInBounds_toArray, List.set_cons_zero, List.set_cons_succ]
  refine wpAnyH_take (i := 8) (oi := { dst := some 26, op := .pick (.tmp 19) (.const (.bool true)) (.tmp 25), type := _, pos := _, after := _, guard := none }) (v := .bool false) rfl (by kernel_rfl) (by kernel_rfl) (by kernel_rfl) (fun _ _ _ h => h) (Or.inl ⟨by rfl, ?_⟩) hS0 ?_
  · intro wS hSw
    go_simp
  simp only [Act.put, List.setIfInBounds_toArray, List.set_cons_zero, List.set_cons_succ]
  refine wpAnyH_take (i := 9) (oi := { dst := some 27, op := .move (.tmp 26), type := _, pos := _, after := _, guard := none }) (v := .bool false) rfl (by kernel_rfl) (by kernel_rfl) (by kernel_rfl) (fun _ _ _ h => h) (Or.inl ⟨by rfl, ?_⟩) hS0 ?_
  · intro wS hSw
    go_simp
  simp only [Act.put, List.setIfInBounds_toArray, List.set_cons_zero, List.set_cons_succ]
  refine wpAnyH_take (i := 10) (oi := { dst := some 28, op := .move (.tmp 2), type := _, pos := _, after := _, guard := some (9, true) }) (v := undef) rfl (by kernel_rfl) (by kernel_rfl) (by kernel_rfl) (fun _ _ _ h => h) (Or.inr ⟨by rfl, rfl⟩) hS0 ?_
  simp only [Act.put, List.setIfInBounds_toArray, List.set_cons_zero, List.set_cons_succ]
  refine wpAnyH_take (i := 11) (oi := { dst := some 29, op := .move (.tmp 0), type := _, pos := _, after := _, guard := some (9, true) }) (v := undef) rfl (by kernel_rfl) (by kernel_rfl) (by kernel_rfl) (fun _ _ _ h => h) (Or.inr ⟨by rfl, rfl⟩) hS0 ?_
  simp only [Act.put, List.setIfInBounds_toArray, List.set_cons_zero, List.set_cons_succ]
  refine wpAnyH_take (i := 12) (oi := { dst := some 30, op := .nilCheck (.tmp 29), type := _, pos := _, after := _, guard := some (9, true) }) (v := undef) rfl (by kernel_rfl) (by kernel_rfl) (by kernel_rfl) (fun _ _ _ h => h) (Or.inr ⟨by rfl, rfl⟩) hS0 ?_
  simp only [Act.put, List.setIfInBounds_toArray, List.set_cons_zero, List.set_cons_succ]
  refine wpAnyH_take (i := 13) (oi := { dst := some 31, op := .fieldAddr 35 (.tmp 30) 1, type := _, pos := _, after := _, guard := some (9, true) }) (v := undef) rfl (by kernel_rfl) (by kernel_rfl) (by kernel_rfl) (fun _ _ _ h => h) (Or.inr ⟨by rfl, rfl⟩) hS0 ?_
  simp only [Act.put, List.setIfInBounds_toArray, List.set_cons_zero, List.set_cons_succ]
  refine wpAnyH_take (i := 14) (oi := { dst := some 32, op := .load 3 (.tmp 31), type := _, pos := _, after := _, guard := some (9, true) }) (v := undef) rfl (by kernel_rfl) (by kernel_rfl) (by kernel_rfl) (fun _ _ _ h => h) (Or.inr ⟨by rfl, rfl⟩) hS0 ?_
  simp only [Act.put, List.setIfInBounds_toArray, List.set_cons_zero, List.set_cons_succ]
  refine wpAnyH_take (i := 15) (oi := { dst := some 33, op := .move (.tmp 0), type := _, pos := _, after := _, guard := some (9, true) }) (v := undef) rfl (by kernel_rfl) (by kernel_rfl) (by kernel_rfl) (fun _ _ _ h => h) (Or.inr ⟨by rfl, rfl⟩) hS0 ?_
  simp only [Act.put, List.setIfInBounds_toArray, List.set_cons_zero, List.set_cons_succ]
  refine wpAnyH_take (i := 16) (oi := { dst := some 34, op := .call { callee := .value (.func 21), args := #[.tmp 33], argTypes := #[22] }, type := _, pos := _, after := _, guard := some (9, true) }) (v := undef) rfl (by kernel_rfl) (by kernel_rfl) (by kernel_rfl) (fun _ _ _ h => h) (Or.inr ⟨by rfl, rfl⟩) hS0 ?_
  simp only [Act.put, List.setIfInBounds_toArray, List.set_cons_zero, List.set_cons_succ]
  refine wpAnyH_take (i := 17) (oi := { dst := some 35, op := .binOp .sub 3 (.tmp 32) (.tmp 34) 3, type := _, pos := _, after := _, guard := some (9, true) }) (v := undef) rfl (by kernel_rfl) (by kernel_rfl) (by kernel_rfl) (fun _ _ _ h => h) (Or.inr ⟨by rfl, rfl⟩) hS0 ?_
  simp only [Act.put, List.setIfInBounds_toArray, List.set_cons_zero, List.set_cons_succ]
  refine wpAnyH_take (i := 18) (oi := { dst := some 36, op := .binOp .leq 3 (.tmp 28) (.tmp 35) 3, type := _, pos := _, after := _, guard := some (9, true) }) (v := undef) rfl (by kernel_rfl) (by kernel_rfl) (by kernel_rfl) (fun _ _ _ h => h) (Or.inr ⟨by rfl, rfl⟩) hS0 ?_
  simp only [Act.put, List.setIfInBounds_toArray, List.set_cons_zero, List.set_cons_succ]
  refine wpAnyH_take (i := 19) (oi := { dst := some 37, op := .pick (.tmp 27) (.tmp 36) (.const (.bool false)), type := _, pos := _, after := _, guard := none }) (v := .bool false) rfl (by kernel_rfl) (by kernel_rfl) (by kernel_rfl) (fun _ _ _ h => h) (Or.inl ⟨by rfl, ?_⟩) hS0 ?_
  · intro wS hSw
    go_simp
  simp only [Act.put, List.setIfInBounds_toArray, List.set_cons_zero, List.set_cons_succ]
  refine wpAnyH_take (i := 20) (oi := { dst := some 6, op := .assign (.tmp 37), type := _, pos := _, after := _, guard := none }) (v := .bool false) rfl (by kernel_rfl) (by kernel_rfl) (by kernel_rfl) (fun _ _ _ h => h) (Or.inl ⟨by rfl, ?_⟩) hS0 ?_
  · intro wS hSw
    go_simp
  simp only [Act.put, List.setIfInBounds_toArray, List.set_cons_zero, List.set_cons_succ]
  refine wpAnyH_done (by kernel_rfl) ?_ _
  go_wp2
  go_ret
  exact ⟨rfl, hB0.out.trans (hS0.mono hB0.out.size)⟩

end Go.Proofs.YtcmkjjlchljffaaDoor

/- The landed disk: the file of a name, or the zero file; appends that tell where the row lies. -/
namespace Go.Proofs.YtcmkjjlchljffaaDoor
open Go.RowKit
set_option linter.unusedVariables false

theorem app_fresh {P : Program} (w : World) (base : Nat) (t ty e : TypeId) (i : TypeInfo) (z : Value) (size bytes : Nat) (ht : P.underlying t = some (.slice e)) (hi : P.info? e = some i) (hz : i.zero = some z)
    (hsize : i.size = size) (hby : i.bytes = bytes) (hzs : z.cells.size = size) (hsz : 0 < size)
    (v : Value) (n : Nat) (xs : List Value) (hown : w.ownsRow base e size v n xs)
    (a : Addr) (m c : Nat) (news : List Value) (hl : news.length = m * size) (hnews : ∀ j u, news[j]? = some u → w.cell? (a.add j) = some u) (h1 : ∀ u ∈ news, u.oneCell' = true)
    (h63 : n + m ≤ maxLen) (hbytes : (n + m) * bytes ≤ 140737488355328) (hbase : base ≤ w.heap.size) :
    ∃ v' w', (Builtin.append_ #[t, t] ty #[v, .slice (some a) m c]).run P w = .ok v' w' ∧ w'.ownsRow base e size v' (n + m) (xs ++ news) ∧ w.grownBy w' v.ownBlock ∧
      (v'.ownBlock = v.ownBlock ∨ v'.ownBlock = some w.heap.size) := by
  obtain ⟨v', w', h2, h3, h4, h5⟩ := run_append_own (P := P) w base t ty e i z size bytes ht hi hz hsize hby hzs hsz v n xs hown a m c news hl hnews h1 h63 hbytes hbase
  refine ⟨v', w', h2, h3, h4, ?_⟩
  subst hsize
  subst hby
  have hmm : n + m ≤ 9223372036854775807 := by simp only [maxLen] at h63; omega
  rcases hown.2 with ⟨rfl, rfl⟩ | ⟨g, cap, cur, rfl, hbg, hg, hnc, hcm, hcs, htake⟩
  · by_cases hm : m = 0
    · exact .inl (by rw [h5.2 ⟨rfl, hm⟩])
    · have hr := run_append_nil (P := P) w t ty e i z ht hi hz a m c news hl hnews (by omega) (by omega) (by have hb := hbytes; simp only [Nat.zero_add] at hb; omega)
      rw [h2] at hr
      cases hr
      exact .inr rfl
  · by_cases hroom : n + m ≤ cap
    · have hfit : n * i.size + news.length ≤ cur.size := by rw [hl, hcs, ← Nat.add_mul]; exact Nat.mul_le_mul_right _ hroom
      have hr := run_append_room (P := P) w t ty e i ht hi g n cap cur hg a m c news hl hnews h1 hroom hfit
      rw [h2] at hr
      cases hr
      exact .inl rfl
    · have hr := run_append_grow (P := P) w t ty e i z ht hi hz ⟨g, 0, none⟩ n cap xs hown.1 (hown.cells (g := g) rfl) a m c news hl hnews (by omega) (by omega) (growslice_fits (by omega) hbytes)
      rw [h2] at hr
      cases hr
      exact .inr rfl
section
variable {o : Oper} {a : Act} {w : World} {Q : Exit → Act → World → Prop} {ops : Array Oper} {rest : List Oper} {bs ys : List UInt8}
theorem wpList_appF (hgd : o.guard = none) (s x : Operand) (ho : o.op = .call { callee := .builtin .append, args := #[s, x], argTypes := #[29, 29] }) (base : Nat) (v : Value) (b : Option Addr) (m c : Nat)
    (hs : a.eval s = v) (hx : a.eval x = .slice b m c) (hown : OwnX eB base w v bs) (hm : ys.length = m) (hnil : b = none → c = 0) (hc : m ≤ c) (hrow : Row w b ys) (hl : bs.length + m ≤ 1048576000) (hbase : base ≤ w.heap.size)
    (h : ∀ v' w', OwnX eB base w' v' (bs ++ ys) → w.grownBy w' v.ownBlock → (v'.ownBlock = v.ownBlock ∨ v'.ownBlock = some w.heap.size) → wpList Tryd.prog ops Q rest (a.put o.dst v') w') : wpList Tryd.prog ops Q (o :: rest) a w := by
  refine wpList_plain hgd fun K hK => ?_
  obtain ⟨i0, hi, hz0, hz1, hz2⟩ := info_parts Tryd.info5
  cases b with
  | none =>
    obtain rfl : c = 0 := hnil rfl
    obtain rfl : m = 0 := by omega
    have hf : ys = [] := List.length_eq_zero_iff.1 hm
    subst hf
    have := hK _ _ (h v w (by rw [List.append_nil]; exact hown) ⟨rfl, rfl, rfl, Nat.le_refl _, fun _ _ _ => rfl⟩ (.inl rfl))
    have hrun := run_append_owned_none (P := Tryd.prog) (w := w) base 29 o.type 5 i0 1 Tryd.underlying29 hi v bs.length (eB.flat bs) hown
    unfold Oper.wp
    simp [execOp, ho, resolve, invoke, builtin, hs, hx, hrun, Result.andThen]
    exact this
  | some ad =>
    have hnews : ∀ j u, (eB.flat ys)[j]? = some u → w.cell? (ad.add j) = some u := by
      intro j u hj
      rcases rowB.2 hrow with h0 | ⟨g, off, hb, hr⟩
      · rw [h0] at hj; simp [El.flat] at hj
      · cases hb
        rw [add_none]
        exact hr j u hj
    have hfl : (eB.flat ys).length = m * 1 := by rw [flat_len, hm]; rfl
    obtain ⟨v', w', h2, h3, h4, h5⟩ := app_fresh (P := Tryd.prog) w base 29 o.type 5 i0 (.int .u8 0) 1 1 Tryd.underlying29 hi hz0 hz1 hz2 rfl (by decide) v bs.length (eB.flat bs) hown ad m c (eB.flat ys) hfl hnews (flat_one eB ys) (by unfold maxLen; omega) (by omega) hbase
    unfold Oper.wp
    simp [execOp, ho, resolve, invoke, builtin, hs, hx, h2, Result.andThen]
    refine hK _ _ (h v' w' ?_ h4 h5)
    unfold OwnX
    rw [List.length_append, hm, flat_app]
    exact h3
end
section
variable {B g mb : Nat} {w w' : World} {m : FMap} {sz wr : Nat} {lf : Int} {nm : ByteArray}
def zeroF : FM := ⟨.slice none 0 0, [], 0, false⟩
def fileM (m : FMap) (nm : ByteArray) : FM := (lookM m nm).getD zeroF
theorem fileM_val (m : FMap) (nm : ByteArray) : ((lookM m nm).map mF.val).getD mF.z = (fileM m nm).val := by
  unfold fileM
  cases lookM m nm <;> rfl
theorem file_none (h : lookM m nm = none) : fileM m nm = zeroF := by unfold fileM; rw [h]; rfl
theorem file_some {f : FM} (h : lookM m nm = some f) : fileM m nm = f := by unfold fileM; rw [h]; rfl
theorem sum_mem {p : ByteArray × FM} : ∀ {m : FMap}, p ∈ m → p.2.bs.length ≤ sumM m
  | q :: m, h => by
    rw [show sumM (q :: m) = q.2.bs.length + sumM m by simp [sumM]]
    rcases List.mem_cons.1 h with e | e
    · rw [e]; omega
    · have := sum_mem e; omega
theorem file_parts (h : Ds B w g mb m sz lf wr) (hsf : ∀ p ∈ m, p.2.sf ≤ p.2.bs.length) (nm : ByteArray) : ∃ a n c bs sf hd, fileM m nm = ⟨.slice a n c, bs, sf, hd⟩ ∧ bs.length = n ∧ n ≤ c ∧ (a = none → c = 0) ∧ Row w a bs ∧ OwnX eB B w (.slice a n c) bs ∧ n ≤ sumM m ∧ sf ≤ n := by
  cases hl : lookM m nm with
  | none => exact ⟨none, 0, 0, [], 0, false, file_none hl, rfl, Nat.le_refl _, fun _ => rfl, .inl rfl, OwnX.nil _ _ _, Nat.zero_le _, Nat.le_refl _⟩
  | some f =>
    obtain ⟨a, n, c, bs, sf, hd, rfl, hn, h1, h2, h3, h4, h5⟩ := look_parts h hl
    have h6 := sum_mem (look_mem hl)
    have h7 := hsf _ (look_mem hl)
    simp only [hn] at h6 h7
    exact ⟨a, n, c, bs, sf, hd, file_some hl, hn, h1, h3, h4, h5, h6, h7⟩
theorem MapS.lookF (h : MapS mF w mb m) (hs : nm.size ≤ maxLen) : (Instr.lookup 33 (.map (some mb)) (.string nm) false).run Tryd.prog w = .ok (fileM m nm).val w := by
  have := h.look hs false
  rw [fileM_val] at this
  exact this
theorem MapS.lookT (h : MapS mF w mb m) (hs : nm.size ≤ maxLen) : (Instr.lookup 33 (.map (some mb)) (.string nm) true).run Tryd.prog w = .ok (.tuple #[(fileM m nm).val, .bool (lookM m nm).isSome]) w := by
  have := h.look hs true
  rw [fileM_val] at this
  exact this
/-- A struct is stored into a block that holds one: one step of a region that draws its order. -/
theorem wp_store3 {o : Oper} {a : Act} {w : World} {K : Act → World → Prop} {Q : Exit → Act → World → Prop} (x y : Operand) (ho : o.op = .store 66 x y)
    (g : Nat) (cs : List Value) (hx : a.eval x = .pointer (some ⟨g, 0, none⟩)) (hy : a.eval y = .agg cs.toArray)
    (old : List Value) (hg : At 66 w g old) (hc : cs.length = 3) (hold : old.length = cs.length) (h1 : ∀ v ∈ cs, v.oneCell' = true)
    (h : ∀ w', At 66 w' g cs → But g w w' → w'.heap.size = w.heap.size → K (a.put o.dst undef) w') : o.wp Tryd.prog a w K Q := by
  refine wp_store_row 66 x y ho g cs.toArray hx hy 66 old.toArray hg (by rw [i66]; simp [hc]) (by simpa using hold) (by simpa using h1) ?_
  exact h _ (setRow_heap w g _ _ 66 _ hg) ⟨rfl, rfl, rfl, by simp, fun k _ hn => setRow_other w g k _ hn⟩ (by simp)
theorem room_any (n : Nat) (h : Ds B w g mb m sz lf wr) (hb : sumM m ≤ 67108864) (hsz : sz ≤ 67108864) (hs : nm.size ≤ 9223372036854775807) :
    Calls Tryd.prog 35 #[.pointer (some ⟨g, 0, none⟩), .string nm, .int .i64 (n : Int)] w fun r w' => r = .returned (.bool (roomB m nm sz n)) ∧ Below w.heap.size w w' := by
  unfold roomB
  by_cases hle : (n : Int) ≤ (sz : Int) - (sumM m : Int)
  · rw [decide_eq_true hle, Bool.and_true]
    cases hl : lookM m nm with
    | some f => exact room_1 g mb B w m sz wr n lf nm h hb hsz hs hl hle
    | none =>
      by_cases hm : m.length < 256
      · rw [decide_eq_true hm]; exact room_3 g mb B w m sz wr n lf nm h hb hsz hs hl hm hle
      · rw [decide_eq_false hm]; exact room_5 g mb B w m sz wr n lf nm h hb hsz hs hl hm
  · rw [decide_eq_false hle, Bool.and_false]
    cases hl : lookM m nm with
    | some f => exact room_2 g mb B w m sz wr n lf nm h hb hsz hs hl hle
    | none =>
      by_cases hm : m.length < 256
      · exact room_4 g mb B w m sz wr n lf nm h hb hsz hs hl hm hle
      · exact room_5 g mb B w m sz wr n lf nm h hb hsz hs hl hm
end
end Go.Proofs.YtcmkjjlchljffaaDoor
