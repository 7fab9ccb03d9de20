/- One cell stored into a known block; two structs handed back. -/
import Derived.Test.YtinofdmdfhklpaaDoorRefSign
namespace Go.Proofs.YtinofdmdfhklpaaDoor
open Go.RowKit
set_option linter.unusedVariables false

theorem run_storeVar_cell {P : Program} (w : World) (b o : Nat) (ty : TypeId) (v : Value) (ht : w.there b o 1) (hi : (P.info? ty).map (·.size) = some 1) (hc : v.cells = #[v]) (h1 : v.oneCell' = true) :
    (storeVar ty ⟨b, o, none⟩ v).run P w = .ok () (w.setCell ⟨b, o, none⟩ v) := by
  have := run_storeCells_cells (P := P) b o [v] 0 w (fun j hj => by simpa using (ht j (by simpa using hj)).1) (fun j hj => by simpa using (ht j (by simpa using hj)).2) (fun u hu => by simp at hu; subst hu; exact h1)
  cases hq : P.info? ty with
  | none => simp [hq] at hi
  | some i =>
    have hs : i.size = 1 := by simp [hq] at hi; omega
    simp only [Nat.add_zero] at this
    simp [storeVar, sizeOf, typeInfo, hq, hc, hs, this, World.setCells]

/-- One cell is stored into a block that is known. -/
theorem wpList_store_one {P : Program} {ops : Array Oper} {rest : List Oper} {o : Oper} {a : Act} {w : World} {Q : Exit → Act → World → Prop} (hgd : o.guard = none) (ty : TypeId) (x y : Operand) (ho : o.op = .store ty x y)
    (g off : Nat) (v : Value) (hx : a.eval x = .pointer (some ⟨g, off, none⟩)) (hy : a.eval y = v)
    (t : TypeId) (old : List Value) (hg : At t w g old) (hold : off + 1 ≤ old.length) (hi : (P.info? ty).map (·.size) = some 1) (hc : v.cells = #[v]) (h1 : v.oneCell' = true)
    (h : ∀ w', At t w' g (old.set off v) → But g w w' → w'.heap.size = w.heap.size → wpList P ops Q rest (a.put o.dst undef) w') : wpList P ops Q (o :: rest) a w := by
  refine wpList_plain hgd fun K hK => ?_
  have := hK _ _ (h _ (hg.set off v) ((But.refl g w).setCell off v) (by simp))
  unfold Oper.wp execOp
  simp only [ho, hx, hy, Instr.storeAt, Instr.sureAddr, Sem.run_bind, Sem.run_pure, Result.andThen_ok, run_storeVar_cell w g off ty v (hg.there off 1 hold) hi hc h1]
  exact this

theorem results_at_at {P : Program} {fn : Func} {p u : Tmp} {ty tu : TypeId} (h : fn.results = #[.cell p ty, .cell u tu]) (tmps : Array Value) (w : World) (g g' : Nat) (t t' : TypeId) (cs cs' : List Value) (d d' : TypeDesc)
    (hp : tmps.getD p undef = .pointer (some ⟨g, 0, none⟩)) (hg : At t w g cs) (hu : P.underlying ty = some d) (hd : (match d with | .struct _ | .array _ _ => true | _ => false) = true) (hi : (P.info? ty).map (·.size) = some cs.length)
    (hp' : tmps.getD u undef = .pointer (some ⟨g', 0, none⟩)) (hg' : At t' w g' cs') (hu' : P.underlying tu = some d') (hd' : (match d' with | .struct _ | .array _ _ => true | _ => false) = true) (hi' : (P.info? tu).map (·.size) = some cs'.length) :
    (results fn tmps).run P w = .ok (.tuple #[.agg cs.toArray, .agg cs'.toArray]) w := by
  have e1 : tmps[p]?.getD undef = .pointer (some ⟨g, 0, none⟩) := by simpa using hp
  have e2 : tmps[u]?.getD undef = .pointer (some ⟨g', 0, none⟩) := by simpa using hp'
  have hl := run_loadVar_row (P := P) w g t ty cs.toArray (0, 0) d hg hu hd (by simpa using hi)
  have hl' := run_loadVar_row (P := P) w g' t' tu cs'.toArray (0, 0) d' hg' hu' hd' (by simpa using hi')
  simp [results, h, e1, e2, asAddr, hl, hl']

theorem i3 : (Tryd.prog.info? 3).map (·.size) = some 1 := by kernel_rfl
theorem i9 : (Tryd.prog.info? 9).map (·.size) = some 1 := by kernel_rfl

/-- The number's scan, by digits. -/
theorem nm_dg (r : List UInt8) : nmN r = if isPt (r.drop (dgN r)) then (3, dgN r + 1 + dgN (r.drop (dgN r + 1))) else (2, dgN r) := by
  induction r with
  | nil => rfl
  | cons c q ih =>
    by_cases hd : isDig c.toNat = true
    · have hnp : isPt (c :: q) = false := by
        cases q with
        | nil => rfl
        | cons d p =>
          have : ¬ c = 46 := by
            rintro rfl
            exact absurd hd (by decide)
          simp [isPt, this]
      have e1 : dgN (c :: q) = dgN q + 1 := by simp [dgN, hd]
      have e2 : nmN (c :: q) = ((nmN q).1, (nmN q).2 + 1) := by simp [nmN, hnp, hd]
      rw [e1, e2, ih, List.drop_succ_cons, List.drop_succ_cons]
      split
      · simp only [Prod.mk.injEq, true_and]; omega
      · rfl
    · have e1 : dgN (c :: q) = 0 := by simp [dgN, hd]
      rw [e1, List.drop_zero]
      by_cases hp : isPt (c :: q) = true
      · have e2 : nmN (c :: q) = (3, dgN q + 1) := by simp [nmN, hp]
        rw [e2, if_pos hp, Nat.zero_add, List.drop_succ_cons, List.drop_zero]
        simp only [Prod.mk.injEq, true_and]; omega
      · have e2 : nmN (c :: q) = (2, 0) := by simp [nmN, hp, hd]
        rw [e2, if_neg hp]

/-- A number's kind and length, as the document's own number finds them. -/
theorem end_num (s : ByteArray) (k : Nat) (hk : k < s.size) (hd : isDig s[k].toNat = true) (hl : isLet s[k].toNat = false) :
    endOf ((bytes s).drop k) = if isPt ((bytes s).drop (k + dgN ((bytes s).drop k))) then (3, dgN ((bytes s).drop k) + 1 + dgN ((bytes s).drop (k + dgN ((bytes s).drop k) + 1))) else (2, dgN ((bytes s).drop k)) := by
  have h1 := dgN_yes s k hk hd
  have h2 : endOf ((bytes s).drop k) = ((nmN ((bytes s).drop (k + 1))).1, (nmN ((bytes s).drop (k + 1))).2 + 1) := by
    rw [drop_at s k hk]; simp only [endOf, hl, hd, if_true]; rfl
  rw [h2, nm_dg, h1, List.drop_drop, List.drop_drop]
  rw [show k + 1 + dgN ((bytes s).drop (k + 1)) = k + (dgN ((bytes s).drop (k + 1)) + 1) by omega, show k + 1 + (dgN ((bytes s).drop (k + 1)) + 1) = k + (dgN ((bytes s).drop (k + 1)) + 1) + 1 by omega]
  split
  · simp only [Prod.mk.injEq, true_and]; omega
  · rfl

/-- What one answers. -/
def oneTok (s : ByteArray) (k K n : Nat) : List Value :=
  if errOf K (((bytes s).drop k).take n) = 0 ∧ clB K ((bytes s).drop (k + n)) = false then tok5 K (s.extract k (k + n)) k (valT K) (valB K (((bytes s).drop k).take n)) else tok5 0 ⟨#[]⟩ 0 0 0
def oneFa (s : ByteArray) (k K n : Nat) : List Value :=
  if errOf K (((bytes s).drop k).take n) ≠ 0 then fa2 (errOf K (((bytes s).drop k).take n)) k else if clB K ((bytes s).drop (k + n)) = true then fa2 4 (k + n) else fa2 0 0

theorem pt_yes (s : ByteArray) (j : Nat) (h : isPt ((bytes s).drop j) = true) : ∃ hj : j + 1 < s.size, (s[j].toNat : Int) = 46 ∧ isDig s[j + 1].toNat = true := by
  by_cases hj : j + 1 < s.size
  · refine ⟨hj, ?_⟩
    rw [drop_at s j (by omega), drop_at s (j + 1) hj] at h
    simp only [isPt, Bool.and_eq_true, decide_eq_true_eq] at h
    exact ⟨by rw [h.1]; rfl, h.2⟩
  · rw [isPt_short _ (by rw [List.length_drop, bytes_length]; omega)] at h
    simp at h

theorem pt_no (s : ByteArray) (j : Nat) (h : isPt ((bytes s).drop j) = false) : ¬ j + 1 < s.size ∨ ∃ hj : j + 1 < s.size, ((s[j].toNat : Int) == 46) = false ∨ ((s[j].toNat : Int) = 46 ∧ isDig s[j + 1].toNat = false) := by
  by_cases hj : j + 1 < s.size
  · refine .inr ⟨hj, ?_⟩
    rw [drop_at s j (by omega), drop_at s (j + 1) hj] at h
    by_cases h46 : s[j].toNat = 46
    · right
      refine ⟨by omega, ?_⟩
      have : s[j] = 46 := UInt8.toNat_inj.1 h46
      simpa [isPt, this] using h
    · exact .inl (by rw [beq_eq_false_iff_ne]; omega)
  · exact .inl hj

theorem cl_yes (s : ByteArray) (j K : Nat) (h : clB K ((bytes s).drop j) = true) : ∃ hj : j < s.size, isLet s[j].toNat = true ∨ (isLet s[j].toNat = false ∧ (s[j].toNat : Int) = 46) := by
  by_cases hj : j < s.size
  · refine ⟨hj, ?_⟩
    rw [drop_at s j hj] at h
    simp only [clB, Bool.and_eq_true, Bool.or_eq_true, decide_eq_true_eq] at h
    rcases h.2 with h1 | h1
    · exact .inl h1
    · cases h2 : isLet s[j].toNat
      · exact .inr ⟨rfl, by omega⟩
      · exact .inl rfl
  · rw [drop_end s j hj] at h
    simp [clB] at h

theorem cl_no (s : ByteArray) (j K : Nat) (hK : K = 2 ∨ K = 3) (h : clB K ((bytes s).drop j) = false) : ¬ j < s.size ∨ ∃ hj : j < s.size, isLet s[j].toNat = false ∧ ((s[j].toNat : Int) == 46) = false := by
  by_cases hj : j < s.size
  · refine .inr ⟨hj, ?_⟩
    rw [drop_at s j hj] at h
    have hKb : (decide (K = 2) || decide (K = 3)) = true := by simpa using hK
    simp only [clB, hKb, Bool.true_and, Bool.or_eq_false_iff, decide_eq_false_iff_not] at h
    refine ⟨h.1, ?_⟩
    rw [beq_eq_false_iff_ne]
    have := h.2
    omega
  · exact .inl hj

theorem letter_46 (w : World) : Calls Tryd.prog 27 #[.int .u8 46] w fun e w' => e = .returned (.bool false) ∧ w' = w := letter_at 46 w false rfl


end Go.Proofs.YtinofdmdfhklpaaDoor
