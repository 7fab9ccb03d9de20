/- The reckoner: part EvC7. -/
import Derived.Test.YthgjjogleklmcaaGreatDoorEvC6
namespace Go.Proofs.YthgjjogleklmcaaGreatDoor.Ev
open Go.RowKit
set_option linter.unusedVariables false
section
variable {P : Tb} {w0 : Base} {E E' E0 : Env} {H H' : St} {w : World} {s s' : Lc} {L : Ls} {a : Act} {o : Oper} {v c d : Value}
variable {p p' : Option Value} {u : FrameMode} {c₀ : Frame} {cs0 : List Frame}

theorem leaveS_ok (K : TbOk P) {fn : Func} {H1 : St} {p1 : Option Value} {e : Ex} {sf : Lc} {Hf : St} {pf : Option Value} (hg : leaveS P fn (.codeS e sf Hf pf) = .valD H1 p1)
    {e1 : Exit} {a1 : Act} {cs1 : List Frame} {w1 : World} (hq : CodeSQ P w0 E e sf Hf pf c₀ cs0 e1 a1 cs1 w1) :
    bodyPostS P.P fn c₀ cs0 (fun en u' w' => ∃ E' c, E.le E' ∧ Rep P.P w0 E' H1 w' ∧ en = .returned c ∧ ModeR E' p1 (settle u')) e1 a1 cs1 w1 := by
  obtain ⟨E1, q1, q2, q3, q4, u1, rfl, q6⟩ := hq
  have hd := q3.defs
  cases hD : sf.D with
  | cons x r =>
    unfold leaveS at hg
    dsimp only at hg
    rw [hD] at hg; cases hg
  | nil =>
    unfold leaveS at hg
    dsimp only at hg
    rw [hD] at hg hd
    have hds : a1.defers = [] := by generalize a1.defers = ds at hd; cases hd; rfl
    have fin : ∀ n, osel (mapO (resOne P sf Hf) fn.results.toList) (.fail n) (fun _ => Got.valD Hf pf) = .valD H1 p1 → a1.defers = [] ∧ ∃ u', ({ c₀ with mode := u1 } :: cs0) = { c₀ with mode := u' } :: cs0 ∧ ∃ v, (results fn a1.tmps).run P.P w1 = .ok v w1 ∧
        (∃ E' c, E.le E' ∧ Rep P.P w0 E' H1 w1 ∧ Ending.returned v = .returned c ∧ ModeR E' p1 (settle u')) := by
      intro n hn
      cases hr : mapO (resOne P sf Hf) fn.results.toList with
      | none => rw [hr] at hn; cases hn
      | some l =>
        rw [hr, osel_s] at hn
        cases hn
        obtain ⟨c, h1, h2⟩ := results_ok K q2 q3 hr
        exact ⟨hds, u1, rfl, c, h2, E1, c, q1, q2, rfl, q6.settle⟩
    cases q4 with
    | normal => exact fin _ hg
    | ret => exact fin _ hg
    | _ => cases hg

theorem enterD_ok (K : TbOk P) {ih : Job → Got} (hj : ∀ j, JobD P j (ih j)) {f : FuncId} {args : List Value} : JobD P (.callD f args H p) (osel (P.fn.get f) (.fail 361) (enterD P ih f args H p)) := by
  cases hg : osel (P.fn.get f) (.fail 361) (enterD P ih f args H p) with
  | valD H1 p1 =>
    intro w0 E w cargs u hR ha hgl hm
    cases hf : P.fn.get f with
    | none => rw [hf] at hg; cases hg
    | some fn =>
      rw [hf, osel_s] at hg
      unfold enterD at hg
      cases hb : fn.body with
      | none => rw [hb] at hg; cases hg
      | some cd =>
        rw [hb, osel_s] at hg
        cases hs : lc0 P f fn args with
        | none => rw [hs] at hg; cases hg
        | some s =>
          rw [hs, osel_s] at hg
          have hc := hj (.codeS cd s H p)
          refine callsD_of_wpS (K.fn f fn hf).1 hb fun c₀ cs hcm => ?_
          cases hr : ih (.codeS cd s H p) with
          | codeS e sf Hf pf =>
            rw [hr] at hg hc
            have h0 : c₀ :: cs = { c₀ with mode := u } :: cs := by rw [← hcm]
            rw [h0]
            intro b k hkd hro
            obtain ⟨ee, a', cs', w', hq, harr⟩ := hc w0 E E w _ c₀ cs u (.refl E) hR (entry_ok hs ha hgl) hm.pan b k hkd hro
            exact ⟨ee, a', cs', w', leaveS_ok K hg hq, harr⟩
          | _ => rw [hr] at hg; cases hg
  | _ => trivial
end
end Go.Proofs.YthgjjogleklmcaaGreatDoor.Ev
