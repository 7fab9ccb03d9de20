/- The reckoner: part EvD8. -/
import Derived.Test.YthgjjogleklmcaaGreatDoorEvD6
import Derived.Test.YthgjjogleklmcaaGreatDoorEvD7
import Derived.Orders
namespace Go.Proofs.YthgjjogleklmcaaGreatDoor.Ev
open Go.RowKit
set_option linter.unusedVariables false
section
variable {P : Tb} {E : Env} {s si : Lc} {L Li : Ls} {a : Act}

/-! ### what one operation reads, as a list -/
noncomputable def bare (s : Lc) : Lc := ⟨s.ng, 0, s.N, s.T, s.D⟩
noncomputable def sel (ts : List Nat) (s : Lc) (L : Ls) : Ls := ts.filterMap fun t => (getT s L t).map fun v => (t, v)
theorem scan_sel {s : Lc} {L : Ls} : ∀ (ts : List Nat) (t : Nat), scan (sel ts s L) t = if t ∈ ts then getT s L t else none
  | [], t => by simp [sel, scan_nil]
  | x :: r, t => by
    have ih := scan_sel (s := s) (L := L) r t
    have e : sel (x :: r) s L = match getT s L x with | none => sel r s L | some v => (x, v) :: sel r s L := by
      unfold sel
      rw [List.filterMap_cons]
      cases getT s L x <;> rfl
    rw [e]
    cases hx : getT s L x with
    | none =>
      show scan (sel r s L) t = _
      rw [ih]
      by_cases ht : t = x
      · subst ht; simp [hx]
      · simp [ht]
    | some v =>
      show scan ((x, v) :: sel r s L) t = _
      rw [scan_cons]
      by_cases ht : x = t
      · subst ht
        rw [Nat.beq_refl, bsel_t]; simp [hx]
      · have : Nat.beq x t = false := by
          cases hb : Nat.beq x t with
          | false => rfl
          | true => exact absurd (Nat.eq_of_beq_eq_true hb) ht
        rw [this, bsel_f, ih]
        simp [Ne.symm ht]
theorem getT_bare (L' : Ls) (t : Nat) : getT (bare s) L' t = scan L' t := by
  unfold getT
  rw [show (bare s).mask = 0 from rfl, bit_zero, bsel_f]
theorem alike_sel {ts : List Nat} (hng : si.ng = s.ng) {x : Operand} (hx : ∀ t, x = .tmp t → t ∈ ts) : Alike si Li (bare s) (sel ts si Li) x := by
  unfold Alike
  cases x with
  | tmp t => show getT (bare s) (sel ts si Li) t = getT si Li t; rw [getT_bare, scan_sel, if_pos (hx t rfl)]
  | const v => rfl
  | global g => show bsel (Nat.ble (Nat.succ g) s.ng) _ _ = bsel (Nat.ble (Nat.succ g) si.ng) _ _; rw [hng]
  | func f => rfl
theorem want_sel {ts : List Nat} {all : Array Oper} {gd : Option (Nat × Bool)} (h : ∀ g o d, gd = some g → all[g.1]? = some o → o.dst = some d → d ∈ ts) : wantG all (bare s) (sel ts si Li) gd = wantG all si Li gd := by
  cases gd with
  | none => rfl
  | some g =>
    unfold wantG
    dsimp only
    rw [nth_eq]
    cases ho : all.toList[g.1]? with
    | none => rfl
    | some o =>
      rw [osel_s, osel_s]
      cases hd : o.dst with
      | none => rfl
      | some d => rw [osel_s, osel_s, getT_bare, scan_sel, if_pos (h g o d rfl (by simpa using ho) hd)]
theorem fr_bare (hng : s.ng = P.nglob) (hsz : a.tmps.size = s.N) (hg : ∀ g, g < s.ng → E.bl g = some g) (hd : DefsR P E s.D a.defers) : FrR P E (bare s) a :=
  ⟨hng, hsz, fun t v h => (by rw [show (bare s).mask = 0 from rfl, bit_zero] at h; cases h), hg, hd⟩
theorem lr_sel {ts : List Nat} (hT : ∀ t, t ∈ ts → ∀ u, getT si Li t = some u → VR E u (a.tmps.getD t undef)) : LR E (bare s) (sel ts si Li) a := fun t v _ h => by
  rw [scan_sel] at h
  by_cases ht : t ∈ ts
  · rw [if_pos ht] at h; exact hT t ht v h
  · rw [if_neg ht] at h; cases h

/-- what one operation reads -/
def tsOf (all : Array Oper) (o : Oper) : List Nat := o.op.operands.toList.filterMap readsOf ++ (match o.guard with | some g => ((all[g.1]?).bind (·.dst)).toList | none => [])
theorem ts_op {all : Array Oper} {o : Oper} {t : Nat} (h : Operand.tmp t ∈ o.op.operands.toList) : t ∈ tsOf all o := List.mem_append_left _ (List.mem_filterMap.2 ⟨_, h, rfl⟩)
theorem ts_guard {all : Array Oper} {o o' : Oper} {g : Nat × Bool} {d : Nat} (hg : o.guard = some g) (ho : all[g.1]? = some o') (hd : o'.dst = some d) : d ∈ tsOf all o := by
  refine List.mem_append_right _ ?_
  rw [hg]
  simp [ho, hd]
theorem ts_inv {all : Array Oper} {o : Oper} {t : Nat} (h : t ∈ tsOf all o) : Operand.tmp t ∈ o.op.operands.toList ∨ ∃ g o', o.guard = some g ∧ all[g.1]? = some o' ∧ o'.dst = some t := by
  rcases List.mem_append.1 h with h | h
  · obtain ⟨x, hx, h⟩ := List.mem_filterMap.1 h
    cases x with
    | tmp q => obtain rfl : q = t := by simpa [readsOf] using h
               exact .inl hx
    | _ => cases h
  · cases hg : o.guard with
    | none => rw [hg] at h; cases h
    | some g =>
      rw [hg] at h
      cases ho : all[g.1]? with
      | none => simp [ho] at h
      | some o' => exact .inr ⟨g, o', rfl, ho, by simpa [ho] using h⟩
end
/-- the canonical run and its checks -/
structure Ctx (P : Tb) (all : Array Oper) (R : List Rec) (HS : List St) (LF : Ls) (s sF : Lc) (HF : St) (pm : List Nat) : Prop where
  ops : all.toList = R.map (·.o)
  step : ∀ i c, R[i]? = some c → StepAt P all R HS [] s i c
  wrF : Wr R R.length [] s LF sF
  HFat : HS[nA R R.length]? = some HF
  len : HS.length = nA R R.length + 1
  N : sF.N = s.N
  D : sF.D = s.D
  ng : sF.ng = s.ng
  fin : FinOk P all R HS LF sF pm
  pmat : ∀ j c, R[j]? = some c → ∃ m, pm[j]? = some m ∧ edgeBits (pm.take j) j c.o.after.toList = some m ∧ readsOk all.toList m j c.o.op.operands.toList = true ∧ guardOk m c.o.guard = true
  pml : pm.length = R.length
theorem ctx_of {P : Tb} {all : Array Oper} {R : List Rec} {hh : List St} {LF : Ls} {s sF : Lc} {H HF : St} {pm : List Nat} (h : Tr P all all.toList R hh [] s H LF sF HF) (hF : FinOk P all R (H :: hh) LF sF pm) : Ctx P all R (H :: hh) LF s sF HF pm := by
  obtain ⟨h1, h2, h3, h4, h5, h6, h7, h8⟩ := h.facts
  obtain ⟨tl, e1, e2, e3⟩ := preds_at hF.preds rfl
  obtain rfl : pm = tl := by simpa using e1
  refine ⟨h1, h2, h3, h4, by rw [List.length_cons, h5], h6, h7, h8, hF, fun j c hc => ?_, by rw [e2, h1, List.length_map]⟩
  obtain ⟨m, g1, g2, g3⟩ := e3 j c.o (by rw [h1]; simp [hc])
  exact ⟨m, g1, by simpa using g2, by simpa using g3⟩
section
variable {P : Tb} {all : Array Oper} {R : List Rec} {HS : List St} {LF : Ls} {s sF : Lc} {HF : St} {pm : List Nat}
theorem Ctx.at_ (C : Ctx P all R HS LF s sF HF pm) {i : Nat} {c : Rec} (h : R[i]? = some c) : all[i]? = some c.o := by
  have : all.toList[i]? = some c.o := by rw [C.ops]; simp [h]
  simpa using this
theorem Ctx.size (C : Ctx P all R HS LF s sF HF pm) : all.size = R.length := by
  have := congrArg List.length C.ops
  simpa using this
theorem Ctx.toL (C : Ctx P all R HS LF s sF HF pm) {i : Nat} {c : Rec} (h : R[i]? = some c) : all.toList[i]? = some c.o := by rw [C.ops]; simp [h]
theorem Ctx.pm_lt (C : Ctx P all R HS LF s sF HF pm) : ∀ (i m : Nat), pm[i]? = some m → ∀ t, bitAt m t = true → t < i := fun i => by
  induction i using Nat.strongRecOn with
  | ind i ih =>
    intro m hm t ht
    have hi : i < R.length := by rw [← C.pml]; exact (List.getElem?_eq_some_iff.1 hm).1
    obtain ⟨m', h1, h2, _⟩ := C.pmat i _ (List.getElem?_eq_getElem hi)
    obtain rfl : m = m' := by rw [hm] at h1; exact Option.some.inj h1
    obtain ⟨e, _, _, g3, g4⟩ := edge_out h2 ht
    rcases g4 with rfl | ⟨q, g5, g6⟩
    · exact g3
    · rw [List.getElem?_take_of_lt g3] at g5
      have := ih e.on g3 q g5 t g6
      omega
/-- all that write what an operation reads come ahead of it, or behind it -/
theorem Ctx.writers (C : Ctx P all R HS LF s sF HF pm) {i m : Nat} {c : Rec} (hc : R[i]? = some c) (hm : pm[i]? = some m) {t : Nat} (ht : t ∈ tsOf all c.o) {j : Nat} {c' : Rec} (hj : R[j]? = some c') (hd : c'.o.dst = some t) : bitAt m j = true ∨ j = i ∨ ∃ e ∈ c'.o.after.toList, bindsE e = true ∧ e.on = i := by
  obtain ⟨m', h1, h2, h3, h4⟩ := C.pmat i c hc
  obtain rfl : m = m' := by rw [hm] at h1; exact Option.some.inj h1
  rcases ts_inv ht with h | ⟨g, o', g1, g2, g3⟩
  · exact reads_at h3 h (C.toL hj) hd
  · have : g.1 = j := dsts_apart C.fin.apart (by simpa using g2) (C.toL hj) g3 hd
    rw [g1] at h4
    rw [← this]
    exact .inl h4
theorem Ctx.writersS (C : Ctx P all R HS LF s sF HF pm) {i m : Nat} {c : Rec} (hc : R[i]? = some c) (hm : pm[i]? = some m) (hs : readsS all.toList m c.o.op.operands.toList = true) {t : Nat} (ht : t ∈ tsOf all c.o) {j : Nat} {c' : Rec} (hj : R[j]? = some c') (hd : c'.o.dst = some t) : bitAt m j = true := by
  obtain ⟨m', h1, h2, h3, h4⟩ := C.pmat i c hc
  obtain rfl : m = m' := by rw [hm] at h1; exact Option.some.inj h1
  rcases ts_inv ht with h | ⟨g, o', g1, g2, g3⟩
  · exact readsS_at hs h (C.toL hj) hd
  · have : g.1 = j := dsts_apart C.fin.apart (by simpa using g2) (C.toL hj) g3 hd
    rw [g1] at h4
    rw [← this]
    exact h4
end
end Go.Proofs.YthgjjogleklmcaaGreatDoor.Ev
