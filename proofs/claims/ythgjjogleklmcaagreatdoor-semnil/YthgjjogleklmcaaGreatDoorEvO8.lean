/- The reckoner: part EvO8. -/
import Derived.Test.YthgjjogleklmcaaGreatDoorEvO7
namespace Go.Proofs.YthgjjogleklmcaaGreatDoor.Ev
open Go.RowKit
set_option linter.unusedVariables false
section
variable {P : Tb} {w0 : Base} {E : Env} {H H' : St} {w : World} {s : Lc} {L : Ls} {a : Act} {o : Oper} {v c d : Value}

theorem map_parts (parts : Array (Nat × Operand)) : (parts.map fun (i, x) => (i, a.eval x)).toList = parts.toList.map (fun p => (p.1, a.eval p.2)) := by simp

theorem valueOf_cells {z : List Value} {g : Bool} (h1 : allL oneCell z = true) (h2 : g = false → z.length = 1) : (valueOf z g).cells = z.toArray := by
  cases g with
  | true => rfl
  | false =>
    have := h2 rfl
    match z, this with
    | [x], _ =>
      have hx := (bsel_and h1).1
      show x.cells = #[x]
      cases x <;> first | rfl | (cases hx)
theorem TyOk.zeroCells {Q : Program} {t : TypeId} {i : TyI} (h : TyOk Q t i) {z : List Value} (hz : i.zero = some z) : (valueOf z i.agg).cells.toList = z := by
  obtain ⟨j, h1, h2, h3, h4⟩ := h.info
  obtain ⟨v, h5, h6, h7, h8, _, h9⟩ := h4 z hz
  rw [← h9]; exact h6

theorem mapM_run {α β : Type} (Q : Program) (w : World) (f : α → Sem β) (g : α → β) : ∀ (l : List α), (∀ x ∈ l, (f x).run Q w = .ok (g x) w) → (l.mapM f).run Q w = .ok (l.map g) w
  | [], _ => by simp
  | x :: r, h => by
    rw [List.mapM_cons, Sem.run_bind, h x (by simp)]
    simp only [Result.andThen]
    rw [Sem.run_bind, mapM_run Q w f g r (fun y hy => h y (by simp [hy]))]
    simp

theorem xBuild_ok (K : TbOk P) {t : TypeId} {parts : Array (Nat × Operand)} (hS : LocR E s L a) (hop : o.op = .build t parts) (h : xBuild t parts P s L H o = .ok v H') : H' = H ∧ Quiet P E w o a v := by
  obtain ⟨i, h1, h⟩ := osel_did h (by simp)
  obtain ⟨z, h2, h⟩ := osel_did h (by simp)
  obtain ⟨ps, h3, h⟩ := osel_did h (by simp)
  have hi := K.ty t i h1
  obtain ⟨cs, hcs, hl, hp⟩ := partsL_ok hS h3
  have hz := hi.zero h2
  have hzv := hi.zeroValue h2 (w := w)
  have hzc := hi.zeroCells h2
  have hzVR : VRL E z z := VRL.of_plain E z hz.1
  have hun := hi.under
  unfold buildD at h
  split at h
  · rename_i fs hfs
    obtain ⟨l, h4, h⟩ := osel_did h (by simp)
    obtain ⟨rfl, rfl⟩ := ok_inj h
    rw [hfs] at hun
    have hall : ∀ f ∈ fs.toList, (Prod.mk f.offset <$> Go.sizeOf f.type : Sem (Nat × Nat)).run P.P w = .ok (f.offset, cellsOf P.P f.type) w := fun f hf => by
      obtain ⟨j, hj⟩ := hi.fields fs hfs f hf
      simp [Go.sizeOf, Go.typeInfo, hj, cellsOf]
    have hm := mapM_run P.P w _ _ fs.toList hall
    obtain ⟨m, h6, h7⟩ := fill_ok (place' := fun i => Option.map (fun f => (f.offset, cellsOf P.P f.type)) fs[i]?) (fun i q hq => by
      obtain ⟨f, g1, hq⟩ := osel_opt hq
      obtain ⟨j, g2, hq⟩ := osel_opt hq
      cases hq
      obtain ⟨jj, g3, g4, _⟩ := (K.ty _ _ g2).typeInfo
      simp [g1, cellsOf, g3, g4]) hl hp hzVR h4
    refine ⟨rfl, _, .agg h7, ?_⟩
    have e1 : (valueOf z i.agg).cells = z.toArray := by apply Array.ext'; rw [hzc]
    have e2 : parts.toList.map (fun p => (p.1, a.eval p.2)) = cs := hcs.symm
    have hm2 : (fs.mapM fun f => (Prod.mk f.offset <$> Go.sizeOf f.type : Sem (Nat × Nat))).run P.P w = .ok (fs.map fun f => (f.offset, cellsOf P.P f.type)) w := by
      rw [← Array.toArray_toList (xs := fs), List.mapM_toArray, Sem.run_map, hm]
      simp only [Result.andThen]
      congr 1
      apply Array.ext'
      simp
    simp [execOp, hop, Instr.build, hzv, e1, run_underlying hun, e2]
    rw [hm2]
    simp [h6]
  · rename_i n e hfs
    obtain ⟨j, h5, h⟩ := osel_did h (by simp)
    obtain ⟨l, h4, h⟩ := osel_did h (by simp)
    obtain ⟨rfl, rfl⟩ := ok_inj h
    rw [hfs] at hun
    have hsz := (K.ty e j h5).sizeOf w
    obtain ⟨m, h6, h7⟩ := fill_ok (place' := fun i => some (i * j.size, j.size)) (fun i q h => h) hl hp hzVR h4
    refine ⟨rfl, _, .agg h7, ?_⟩
    have e1 : (valueOf z i.agg).cells = z.toArray := by apply Array.ext'; rw [hzc]
    have e2 : parts.toList.map (fun p => (p.1, a.eval p.2)) = cs := hcs.symm
    simp [execOp, hop, Instr.build, hzv, e1, run_underlying hun, hsz, e2, h6]
  · cases h

/-! ### new blocks -/
theorem tree_get {vs : List Value} {dd i : Nat} {u : Value} (h : (treeOf vs dd).get i = some u) : vs[i]? = some u := by
  rcases BT.get_putL vs 0 _ i u h with ⟨_, h⟩ | ⟨_, h⟩
  · simpa using h
  · rw [BT.get_mk] at h; cases h

/-- A NEW ROW. -/
theorem Rep.row (hR : Rep P.P w0 E H w) {elem : TypeId} {vs : List Value} {C : Array Value} {fr : Nat × Nat} {g st : Bool} {n cp : Nat}
    (hn : n ≤ C.size) (hvn : vs.length ≤ n) (h1 : ∀ (i : Nat) (u : Value), vs[i]? = some u → ∃ c : Value, C[i]? = some c ∧ VR E u c) (h2 : g = false → C.size = n) (h3 : g = true → C.size = cp * cellsOf P.P elem)
    (h4 : ∀ i, i < C.size → ¬ (fr.1 ≤ i ∧ i < fr.2)) (h5 : st = false → fr.1 = fr.2) {dd : Nat} :
    E.le (E.with H.next w.heap.size cp) ∧ Rep P.P w0 (E.with H.next w.heap.size cp) (newB H (mkCells elem vs n dd g st)) (w.alloc (.cells C elem fr)) ∧ (E.with H.next w.heap.size cp).bl H.next = some w.heap.size := by
  have hle := Env.le_with (E := E) (B := w.heap.size) (c := cp) (hR.fresh H.next (Nat.le_refl _))
  refine ⟨hle, hR.new ⟨C, fr, rfl, hn, h2, fun hg => by rw [Env.with_cp]; exact h3 hg, fun i u hu => ?_, fun i u hu => ?_, fun _ i _ hi => h4 i hi, fun hs => .inl (h5 hs)⟩, Env.with_bl⟩
  · exact Nat.lt_of_lt_of_le (List.getElem?_eq_some_iff.1 (tree_get hu)).1 hvn
  · obtain ⟨c, hc, hv⟩ := h1 i u (tree_get hu)
    exact ⟨c, hc, hv.mono hle⟩
theorem Rep.cells (hR : Rep P.P w0 E H w) (elem : TypeId) {vs cs : List Value} (hv : VRL E vs cs) :
    E.le (E.with H.next w.heap.size 0) ∧ Rep P.P w0 (E.with H.next w.heap.size 0) (newCells H elem vs false false) (w.alloc (.cells ⟨cs⟩ elem)) ∧ (E.with H.next w.heap.size 0).bl H.next = some w.heap.size :=
  hR.row (fr := (0, 0)) (by show vs.length ≤ cs.length; rw [hv.length]; exact Nat.le_refl _) (Nat.le_refl _) (fun i u hu => by simpa using hv.get i u hu) (fun _ => hv.length.symm) (fun h => by cases h) (fun i _ => by simp) (fun _ => rfl)

/-- the operation acts: it yields the value, and the world is another one -/
def Acted (P : Tb) (w0 : Base) (E : Env) (H' : St) (w : World) (o : Oper) (a : Act) (v : Value) : Prop :=
  ∃ E' w' c n, E.le E' ∧ Rep P.P w0 E' H' w' ∧ VR E' v c ∧ (n = .value c ∨ (n = .skip ∧ c = undef)) ∧ (execOp a.eval o).run P.P w = .ok n w'
theorem Quiet.acted (hR : Rep P.P w0 E H w) (h : Quiet P E w o a v) : Acted P w0 E H w o a v :=
  let ⟨c, h1, h2⟩ := h
  ⟨E, w, c, _, .refl E, hR, h1, .inl rfl, h2⟩

theorem run_newRow (Q : Program) (e : TypeId) (C : Array Value) (w : World) : (newRow e C).run Q w = .ok ⟨w.heap.size, 0, none⟩ (w.alloc (.cells C e)) := by
  simp [newRow]

theorem xAlloc_ok (K : TbOk P) (hR : Rep P.P w0 E H w) {t : TypeId} (hop : o.op = .alloc t) (h : xAlloc t P s L H o = .ok v H') : Acted P w0 E H' w o a v := by
  obtain ⟨i, h1, h⟩ := osel_did h (by simp)
  obtain ⟨z, h2, h⟩ := osel_did h (by simp)
  obtain ⟨rfl, rfl⟩ := ok_inj h
  have hi := K.ty t i h1
  obtain ⟨h3, h4, h5⟩ := hR.cells t (VRL.of_plain E z (hi.zero h2).1)
  have hzv := hi.zeroValue h2 (w := w)
  have e1 : (valueOf z i.agg).cells = z.toArray := by apply Array.ext'; rw [hi.zeroCells h2]
  refine ⟨_, _, _, _, h3, h4, .ptr h5, .inl rfl, ?_⟩
  simp [execOp, hop, Instr.alloc, hzv, newVar, e1, run_newRow]

theorem xBox_ok (hR : Rep P.P w0 E H w) {t : TypeId} {x : Operand} (hS : LocR E s L a) (hop : o.op = .box t x) (h : xBox t x P s L H o = .ok v H') : Acted P w0 E H' w o a v := by
  obtain ⟨u, h1, h⟩ := osel_did h (by simp)
  obtain ⟨rfl, rfl⟩ := ok_inj h
  obtain ⟨h3, h4, h5⟩ := hR.cells t (cellsL_VR (hS x u h1))
  refine ⟨_, _, _, _, h3, h4, .ptr h5, .inl rfl, ?_⟩
  simp [execOp, hop, Instr.box, newVar, run_newRow]

theorem xMakeMap_ok (hR : Rep P.P w0 E H w) {t : TypeId} {r : Option Operand} (hop : o.op = .makeMap t r) (h : xMakeMap r P s L H o = .ok v H') : Acted P w0 E H' w o a v := by
  cases r with
  | some r => cases h
  | none =>
    obtain ⟨rfl, rfl⟩ := ok_inj h
    have hle := Env.le_with (E := E) (B := w.heap.size) (c := 0) (hR.fresh H.next (Nat.le_refl _))
    refine ⟨_, _, _, _, hle, hR.new (k := .map [] 0) ⟨[], rfl, .nil⟩, .map Env.with_bl, .inl rfl, ?_⟩
    simp [execOp, hop, Instr.makeMap]

theorem elemTy_ok (K : TbOk P) {t : TypeId} {p : TypeId × TyI} (h : elemTy P t = some p) : P.P.underlying t = some (.slice p.1) ∧ P.ty.get p.1 = some p.2 ∧ TyOk P.P p.1 p.2 := by
  obtain ⟨i, h1, h⟩ := osel_opt h
  obtain ⟨e, h2, h⟩ := osel_opt h
  obtain ⟨j, h3, h⟩ := osel_opt h
  cases h
  have hu := (K.ty t i h1).under
  refine ⟨?_, h3, K.ty _ _ h3⟩
  cases hd : i.under with
  | slice e' => rw [hd] at h2 hu; cases h2; exact hu
  | _ => rw [hd] at h2; cases h2

theorem repL_get (z : List Value) : ∀ (n i : Nat), i < n * z.length → (repL z n)[i]? = z[i % z.length]?
  | 0, i, h => by simp at h
  | n + 1, i, h => by
    rw [repL]
    by_cases h1 : i < z.length
    · rw [List.getElem?_append_left h1, Nat.mod_eq_of_lt h1]
    · rw [List.getElem?_append_right (by omega), repL_get z n _ (by rw [Nat.succ_mul] at h; omega)]
      congr 1
      conv => rhs; rw [Nat.mod_eq_sub_mod (by omega)]
theorem repL_length (z : List Value) : ∀ n, (repL z n).length = n * z.length
  | 0 => by simp [repL]
  | n + 1 => by rw [repL, List.length_append, repL_length z n, Nat.succ_mul]; omega
theorem repL_eq (z : List Value) (n : Nat) : ((Array.range (n * z.length)).map fun i => z.toArray[i % z.toArray.size]!) = (repL z n).toArray := by
  apply Array.ext_getElem?
  intro i
  simp only [List.size_toArray, List.getElem?_toArray]
  by_cases h : i < n * z.length
  · rw [repL_get z n i h]
    have hz : 0 < z.length := by rcases Nat.eq_zero_or_pos z.length with h0 | h0; (rw [h0] at h; simp at h); exact h0
    simp [h, Nat.mod_lt _ hz]
  · have h2 := repL_length z n
    rw [List.getElem?_eq_none (by omega)]
    simp [h]
theorem repL_plain {z : List Value} (h : plainL z = true) : ∀ n, VRL E (repL z n) (repL z n)
  | 0 => .nil
  | n + 1 => (VRL.of_plain E z h).append (repL_plain h n)

theorem capLit {n : Nat} (h : n ≤ 9223372036854775807) : CapR E n n := .inl ⟨h, rfl⟩

theorem xBuildSlice_ok (K : TbOk P) (hR : Rep P.P w0 E H w) {t : TypeId} {len : Nat} {parts : Array (Nat × Operand)} (hS : LocR E s L a) (hop : o.op = .buildSlice t len parts)
    (h : xBuildSlice t len parts P s L H o = .ok v H') : Acted P w0 E H' w o a v := by
  obtain ⟨e, h1, h⟩ := osel_did h (by simp)
  obtain ⟨z, h2, h⟩ := osel_did h (by simp)
  obtain ⟨ps, h3, h⟩ := osel_did h (by simp)
  obtain ⟨h4, h⟩ := bsel_did h (by simp)
  obtain ⟨l, h5, h⟩ := osel_did h (by simp)
  obtain ⟨rfl, rfl⟩ := ok_inj h
  obtain ⟨hu, he, hi⟩ := elemTy_ok K h1
  obtain ⟨cs, hcs, hl, hp⟩ := partsL_ok hS h3
  have hz := hi.zero h2
  have hzv := hi.zeroValue h2 (w := w)
  have e1 : (valueOf z e.2.agg).cells = z.toArray := by apply Array.ext'; rw [hi.zeroCells h2]
  have h4 : len * (e.2.size + 1) ≤ 100000 := Nat.le_of_ble_eq_true h4
  rw [Nat.mul_add, Nat.mul_one] at h4
  obtain ⟨m, h6, h7⟩ := fill_ok (place' := fun i => some (i * e.2.size, e.2.size)) (fun i q h => h) hl hp (repL_plain hz.1 len) h5
  obtain ⟨h8, h9, h10⟩ := hR.cells e.1 h7
  have hlen : len ≤ 9223372036854775807 := by omega
  refine ⟨_, _, _, _, h8, h9, .slice h10 (capLit hlen), .inl rfl, ?_⟩
  have hz16 : ¬ (len * e.2.size > 2 ^ 24) := by omega
  have hrep := repL_eq z len
  rw [hz.2] at hrep
  have e2 : parts.toList.map (fun p => (p.1, a.eval p.2)) = cs := hcs.symm
  rw [← hrep] at h6
  by_cases h0 : len * e.2.size = 0
  · have e0 : ∀ f : Nat → Value, (Array.map f (Array.range 0)) = #[] := fun f => by apply Array.ext'; simp
    rw [h0, e0] at h6
    simp [execOp, hop, Instr.buildSlice, run_underlying hu, hi.sizeOf w, h0, e2]
    rw [e0, h6]
    simp [run_newRow]
  · simp at h6
    simp [execOp, hop, Instr.buildSlice, run_underlying hu, hi.sizeOf w, hz16, h0, hzv, e1, e2]
    rw [h6]
    simp [run_newRow]
end
end Go.Proofs.YthgjjogleklmcaaGreatDoor.Ev
