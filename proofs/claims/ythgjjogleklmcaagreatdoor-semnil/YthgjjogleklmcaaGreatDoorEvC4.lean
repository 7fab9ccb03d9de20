/- The reckoner: part EvC4. -/
import Derived.Test.YthgjjogleklmcaaGreatDoorEvC3
namespace Go.Proofs.YthgjjogleklmcaaGreatDoor.Ev
open Go.RowKit
set_option linter.unusedVariables false
section
variable {P : Tb} {w0 : Base} {E E' : Env} {H H' : St} {w : World} {s s' : Lc} {L : Ls} {a : Act} {o : Oper} {v c d : Value}

/-! ### functions -/
def resSem (ts : Array Value) : ResultVar → Sem Value
  | .tmp t => pure (ts.getD t undef)
  | .cell b t => do loadVar t (← asAddr (ts.getD b undef))
theorem results_eq (fn : Func) (ts : Array Value) : results fn ts = (do
    let vs ← fn.results.mapM (resSem ts)
    pure (if h : vs.size = 1 then vs[0] else .tuple vs)) := by
  unfold results
  congr 1
theorem resOne_ok (K : TbOk P) (hR : Rep P.P w0 E H w) (hF : FrR P E s a) {r : ResultVar} (h : resOne P s H r = some v) :
    ∃ c, VR E v c ∧ (resSem a.tmps r).run P.P w = .ok c w := by
  cases r with
  | tmp t => exact ⟨_, getT_ok hF LR.nil h, rfl⟩
  | cell b t =>
    obtain ⟨u, h1, h⟩ := osel_opt h
    have hu := getT_ok hF LR.nil h1
    cases u with
    | pointer p =>
      cases p with
      | none => cases h
      | some q =>
        cases hl : loadAddr P H t q with
        | ok z H2 =>
          have h : (match loadAddr P H t q with | .ok v _ => some v | _ => none) = some v := h
          rw [hl] at h
          cases h
          obtain ⟨_, c', h2, _, ad, h3, h4⟩ := loadAddr_ok K hR hu hl
          exact ⟨c', h2, by simp [resSem, h3, asAddr, h4]⟩
        | _ =>
          have h : (match loadAddr P H t q with | .ok v _ => some v | _ => none) = some v := h
          rw [hl] at h; cases h
    | _ => cases h
theorem resAll_ok (K : TbOk P) (hR : Rep P.P w0 E H w) (hF : FrR P E s a) : ∀ (rs : List ResultVar) (l : List Value), mapO (resOne P s H) rs = some l →
    ∃ cs : List Value, VRL E l cs ∧ (rs.mapM (resSem a.tmps)).run P.P w = .ok cs w := fun rs => by
  induction rs with
  | nil => intro l h; cases h; exact ⟨[], .nil, by simp⟩
  | cons r rs ih =>
    intro l h
    rw [mapO_cons] at h
    obtain ⟨u, h1, h⟩ := osel_opt h
    obtain ⟨us, h2, h⟩ := osel_opt h
    cases h
    obtain ⟨c, h3, h4⟩ := resOne_ok K hR hF h1
    obtain ⟨cs, h5, h6⟩ := ih us h2
    refine ⟨c :: cs, .cons h3 h5, ?_⟩
    rw [List.mapM_cons, Sem.run_bind, h4]
    simp only [Result.andThen]
    rw [Sem.run_bind, h6]
    simp [Result.andThen]
theorem results_ok (K : TbOk P) (hR : Rep P.P w0 E H w) (hF : FrR P E s a) {fn : Func} {l : List Value} (h : mapO (resOne P s H) fn.results.toList = some l) :
    ∃ c, VR E (resV l) c ∧ (results fn a.tmps).run P.P w = .ok c w := by
  obtain ⟨cs, h1, h2⟩ := resAll_ok K hR hF _ _ h
  have h3 : (fn.results.mapM (resSem a.tmps)).run P.P w = .ok cs.toArray w := by
    rw [← Array.toArray_toList (xs := fn.results), List.mapM_toArray, Sem.run_map, h2]
    simp [Result.andThen]
  have h4 : (results fn a.tmps).run P.P w = .ok (if h : cs.toArray.size = 1 then cs.toArray[0] else .tuple cs.toArray) w := by
    rw [results_eq, Sem.run_bind, h3]
    simp [Result.andThen]
  refine ⟨_, ?_, h4⟩
  cases h1 with
  | nil => exact .tuple .nil
  | cons g1 g2 =>
    cases g2 with
    | nil => exact g1
    | cons g3 g4 => exact .tuple (.cons g1 (.cons g3 g4))

/-- the panic of a frame that is left -/
def ModeR (E : Env) : Option Value → FrameMode → Prop
  | none, u => u = .returning
  | some v, u => ∃ c, VR E v c ∧ u = .panicking [{ v := c, recovered := false }]
theorem ModeR.mono (hE : E.le E') {p : Option Value} {u : FrameMode} (h : ModeR E p u) : ModeR E' p u := by
  cases p with
  | none => exact h
  | some v => obtain ⟨c, h1, h2⟩ := h; exact ⟨c, h1.mono hE, h2⟩

def CallDOk (P : Tb) (f : FuncId) (args : List Value) (H : St) (p : Option Value) (H' : St) (p' : Option Value) : Prop :=
  ∀ w0 E w cargs u, Rep P.P w0 E H w → VRL E args cargs → (∀ g, g < P.nglob → E.bl g = some g) → ModeR E p u →
    CallsD P.P f cargs.toArray u w fun en u' w' => ∃ E' c, E.le E' ∧ Rep P.P w0 E' H' w' ∧ en = .returned c ∧ ModeR E' p' (settle u')

def GotQ (P : Tb) (w0 : Base) (E : Env) : Got → Ending → World → Prop
  | .val v H' => ValQ P w0 E v H'
  | .pan v H' => PanQ P w0 E v H'
  | _ => fun _ _ => True

theorem leaveD_ok (K : TbOk P) {ih : Job → Got} (hD : ∀ f args H p H' p', ih (.callD f args H p) = .valD H' p' → CallDOk P f args H p H' p') {fn : Func} {E0 : Env} :
    ∀ (D : List (FuncId × List Value)) (ds : List Deferred) (E : Env) (H : St) (p : Option Value) (w : World) (u : FrameMode) (g : Got), leaveD ih (finish P fn s) D H p = g → (∃ v H', g = .val v H' ∨ g = .pan v H') →
      E0.le E → Rep P.P w0 E H w → FrR P E s a → DefsR P E D ds → ModeR E p u → Leaves P.P fn a.tmps (GotQ P w0 E0 g) ds u w := fun D => by
  induction D with
  | nil =>
    intro ds E H p w u g hg hgv hE hR hF hd hm
    cases hd
    cases p with
    | none =>
      cases hm
      have hg : osel (mapO (resOne P s H) fn.results.toList) (.fail 320) (fun l => .val (resV l) H) = g := hg
      cases hr : mapO (resOne P s H) fn.results.toList with
      | none => rw [hr] at hg; obtain ⟨v, H', h | h⟩ := hgv <;> (rw [← hg] at h; cases h)
      | some l =>
        rw [hr, osel_s] at hg
        subst hg
        obtain ⟨c, h1, h2⟩ := results_ok K hR hF hr
        exact ⟨c, h2, E, c, hE, hR, h1, rfl⟩
    | some v =>
      obtain ⟨c, h1, rfl⟩ := hm
      have hg : Got.pan v H = g := hg
      subst hg
      exact ⟨E, c, hE, hR, h1, rfl⟩
  | cons fa D ihD =>
    intro ds E H p w u g hg hgv hE hR hF hd hm
    obtain ⟨f, args⟩ := fa
    cases hd with | cons h h' => ?_
    obtain ⟨fv, cap, cargs, h1, h2, h3⟩ := h
    have hg : (match ih (.callD f args H p) with
      | .valD H p => leaveD ih (finish P fn s) D H p
      | .fail w => .fail w
      | _ => .fail 321) = g := hg
    have hbad : ∀ n, g ≠ .fail n := fun n e => by obtain ⟨v, H', h | h⟩ := hgv <;> (rw [e] at h; cases h)
    cases hc : ih (.callD f args H p) with
    | valD H1 p1 =>
      rw [hc] at hg
      refine ⟨?_, fv, cap, f, cargs.toArray, h1, h3 w, ?_⟩
      · cases p with
        | none => cases hm; simp
        | some v => obtain ⟨c, _, rfl⟩ := hm; simp
      · refine (hD _ _ _ _ _ _ hc w0 E w cargs u hR h2 (fun q hq => hF.glob q (by rw [hF.ng]; exact hq)) hm).mono fun en u' w' hq => ?_
        obtain ⟨E1, c, q1, q2, rfl, q3⟩ := hq
        exact ihD _ E1 H1 p1 w' (settle u') g hg hgv (hE.trans q1) q2 (hF.mono q1) (h'.mono q1) q3
    | fail n => rw [hc] at hg; exact absurd hg.symm (hbad n)
    | _ => rw [hc] at hg; exact absurd hg.symm (hbad 321)

theorem leaves_of (K : TbOk P) {ih : Job → Got} (hD : ∀ f args H p H' p', ih (.callD f args H p) = .valD H' p' → CallDOk P f args H p H' p') {fn : Func} {e : Ex} {e1 : Exit} {g : Got}
    (hg : leaveG P ih fn (.code e s H) = g) (hgv : ∃ v H', g = .val v H' ∨ g = .pan v H') (h : CodeQ P w0 E e s H e1 a w) : bodyPostD P.P fn (GotQ P w0 E g) e1 a w := by
  obtain ⟨E1, h1, h2, h3, h4⟩ := h
  have hbad : ∀ n, g ≠ .fail n := fun n e => by obtain ⟨v, H', h | h⟩ := hgv <;> (rw [e] at h; cases h)
  cases h4 with
  | normal => exact leaveD_ok K hD s.D a.defers E1 H none w .returning g hg hgv h1 h2 h3 h3.defs rfl
  | ret => exact leaveD_ok K hD s.D a.defers E1 H none w .returning g hg hgv h1 h2 h3 h3.defs rfl
  | panic hv => exact leaveD_ok K hD s.D a.defers E1 H (some _) w _ g hg hgv h1 h2 h3 h3.defs ⟨_, hv, rfl⟩
  | exit id => exact absurd hg.symm (hbad 322)
  | goto l => exact absurd hg.symm (hbad 322)
end
end Go.Proofs.YthgjjogleklmcaaGreatDoor.Ev
