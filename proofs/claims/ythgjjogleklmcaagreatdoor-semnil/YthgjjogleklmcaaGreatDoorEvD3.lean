/- The reckoner: part EvD3. -/
import Derived.Test.YthgjjogleklmcaaGreatDoorEvD2
namespace Go.Proofs.YthgjjogleklmcaaGreatDoor.Ev
open Go.RowKit
set_option linter.unusedVariables false
section
variable {P : Tb} {w0 : Base} {E : Env} {H H' : St} {w : World} {s : Lc} {L : Ls} {a : Act} {o : Oper} {v : Value}

/-! ### what does not act, and makes no block, yields a value alone -/
theorem onlyOk_inv {d : Did} {v : Value} {H' : St} (h : onlyOk d = .ok v H') : d = .ok v H' := by
  cases d with
  | ok v H' => exact h
  | _ => cases h
theorem quiet_ok (K : TbOk P) (hR : Rep P.P w0 E H w) (hS : LocR E s L a) (ha : actsO o = false) (hn : H.next = H'.next) (h : execT o.op P s L H o = .ok v H') : Quiet P E w o a v := by
  have pure : (∀ cs b, o.op ≠ .select cs b) → onlyOk (execPure P s L H o) = .ok v H' → Quiet P E w o a v := fun hs h => (execPure_ok hS hs (onlyOk_inv h)).2
  generalize hop : o.op = op at *
  cases op with
  | move x => exact (xMove_ok hS (.inl hop) (onlyOk_inv h)).2
  | assign x => exact (xMove_ok hS (.inr hop) (onlyOk_inv h)).2
  | pick c x y => exact (xPick_ok hS hop (onlyOk_inv h)).2
  | alloc t => rw [actsO, hop] at ha; cases ha
  | box t x => rw [actsO, hop] at ha; cases ha
  | build t ps => exact (xBuild_ok K hS hop (onlyOk_inv h)).2
  | buildSlice t n ps => rw [actsO, hop] at ha; cases ha
  | load t x => exact (xLoad_ok K hR hS hop (onlyOk_inv h)).2
  | store t x y => rw [actsO, hop] at ha; cases ha
  | nilCheck x => exact (xNilCheck_ok hS hop (onlyOk_inv h)).2
  | binOp b t x y yt => exact (xBin_ok K hS hop (onlyOk_inv h)).2
  | convert t u x =>
    rcases xConvert_ok (w := w) K hR hS hop (onlyOk_inv h) with ⟨_, hq⟩ | ⟨e, i, _, _, _, _, _, u, _, h7⟩
    · exact hq
    · cases u <;> first | (cases h7; done) | skip
      injection h7 with _ h8
      subst h8
      exact absurd hn (Nat.ne_of_lt (Nat.lt_succ_self _))
  | makeInterface t x => exact (xMakeInterface_ok K hS hop (onlyOk_inv h)).2
  | makeFunc f x y => exact (xMakeFunc_ok hS hop (onlyOk_inv h)).2
  | makeMap t r => rw [actsO, hop] at ha; cases ha
  | makeSlice t x y => rw [actsO, hop] at ha; cases ha
  | slice t x lo hi mx => exact (xSlice_ok K hR hS hop (onlyOk_inv h)).2
  | fieldAddr t x f => exact (xFieldAddr_ok K hS hop (onlyOk_inv h)).2
  | field t x f => exact (xField_ok K hS hop (onlyOk_inv h)).2
  | indexAddr t x i => exact (xIndexAddr_ok K hS hop (onlyOk_inv h)).2
  | index t x i => exact (xIndex_ok K hS hop (onlyOk_inv h)).2
  | lookup t m k ok => exact (xLookup_ok K hR hS hop (onlyOk_inv h)).2
  | mapUpdate t m k x => rw [actsO, hop] at ha; cases ha
  | insert t m k x => rw [actsO, hop] at ha; cases ha
  | extract x i => exact (xExtract_ok hS hop (onlyOk_inv h)).2
  | typeAssert x t u ok => exact (xTypeAssert_ok K hS hop (onlyOk_inv h)).2
  | call cl =>
    obtain ⟨args, h1, h⟩ := osel_did h (by simp)
    have hv := evL_ok hS h1
    cases hc : cl.callee with
    | value f => rw [actsO, hop] at ha; simp only [hc] at ha; cases ha
    | invoke r n => rw [actsO, hop] at ha; simp only [hc] at ha; cases ha
    | builtin b =>
      rw [actsO, hop] at ha
      simp only [hc] at ha
      rw [hc] at h
      cases b
      case len =>
        have h : onlyOk (len1 P H cl.argTypes.toList args) = .ok v H' := h
        obtain ⟨rfl, h2, h3⟩ := len1_ok (ty := o.type) (w := w) K hR hv (onlyOk_inv h)
        refine ⟨v, VR.of_plain E v h2, ?_⟩
        simp only [execOp, hop, resolve, hc, toArr, Sem.run_bind, Sem.run_pure, Result.andThen_ok, invoke, builtin, h3]
      case min =>
        have h : onlyOk (execPure P s L H o) = .ok v H' := h
        exact (execPure_ok hS (by simp [hop]) (onlyOk_inv h)).2
      case max =>
        have h : onlyOk (execPure P s L H o) = .ok v H' := h
        exact (execPure_ok hS (by simp [hop]) (onlyOk_inv h)).2
      all_goals cases ha
  | defer cl => rw [actsO, hop] at ha; cases ha
  | panic x => rw [actsO, hop] at ha; cases ha
  | select cs b => cases h
  | _ => exact pure (by simp) h
end
end Go.Proofs.YthgjjogleklmcaaGreatDoor.Ev
