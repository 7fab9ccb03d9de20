/- The reckoner: part EvC5. -/
import Derived.Test.YthgjjogleklmcaaGreatDoorEvC4
namespace Go.Proofs.YthgjjogleklmcaaGreatDoor.Ev
open Go.RowKit
set_option linter.unusedVariables false
section
variable {P : Tb} {w0 : Base} {E E' : Env} {H H' : St} {w : World} {s s' : Lc} {L : Ls} {a : Act} {o : Oper} {v c d : Value}

/-! ### calls -/
theorem entry_ok {f : FuncId} {fn : Func} {args cargs : List Value} (h : lc0 P f fn args = some s) (ha : VRL E args cargs) (hg : ∀ g, g < P.nglob → E.bl g = some g) :
    FrR P E s { tmps := cargs.toArray ++ Array.replicate (fn.ntmps - cargs.toArray.size) undef, defers := [] } := by
  unfold lc0 at h
  obtain ⟨m, h1, h⟩ := osel_opt h
  obtain ⟨h2, h⟩ := bsel_opt h
  cases h
  have hl := ha.length
  have h2 := Nat.le_of_ble_eq_true h2
  refine ⟨rfl, ?_, ?_, hg, .nil⟩
  · simp; omega
  · intro t v _ ht
    rcases BT.get_putL _ _ _ _ _ ht with ⟨_, h3⟩ | ⟨_, h3⟩
    · obtain ⟨c, h4, h5⟩ := ha.get _ _ h3
      have hlt : t < cargs.length := by
        rcases Nat.lt_or_ge t cargs.length with h6 | h6
        · exact h6
        · rw [Nat.sub_zero] at h4; rw [List.getElem?_eq_none h6] at h4; cases h4
      have : (cargs.toArray ++ Array.replicate (fn.ntmps - cargs.toArray.size) undef).getD t undef = c := by
        rw [Nat.sub_zero, List.getElem?_eq_getElem hlt] at h4
        have h4 := Option.some.inj h4
        have hlt2 : t < (cargs.toArray ++ Array.replicate (fn.ntmps - cargs.toArray.size) undef).size := by simp; omega
        rw [Array.getD, dif_pos hlt2]
        show (cargs.toArray ++ Array.replicate (fn.ntmps - cargs.toArray.size) undef)[t] = c
        rw [Array.getElem_append_left (by simpa using hlt)]
        simpa using h4
      rw [this]; exact h5
    · rw [BT.get_mk] at h3; cases h3

theorem stepF0_ok (K : TbOk P) {ih : Job → Got} (hi : ∀ j, JobOk P j (ih j)) (hD : ∀ f args H p H' p', ih (.callD f args H p) = .valD H' p' → CallDOk P f args H p H' p') {f : FuncId} {args : List Value} :
    JobOk P (.call f args H) (stepF0 P ih f args H) := by
  have key : ∀ g, stepF0 P ih f args H = g → (∃ v H', g = .val v H' ∨ g = .pan v H') → ∀ w0 E w cargs, Rep P.P w0 E H w → VRL E args cargs → (∀ g, g < P.nglob → E.bl g = some g) →
      Calls P.P f cargs.toArray w (GotQ P w0 E g) := by
    intro g hg hgv w0 E w cargs hR ha hgl
    have hbad : ∀ n, g ≠ .fail n := fun n e => by obtain ⟨v, H', h | h⟩ := hgv <;> (rw [e] at h; cases h)
    unfold stepF0 at hg
    cases hf : P.fn.get f with
    | none => rw [hf] at hg; exact absurd hg.symm (hbad 360)
    | some fn =>
      rw [hf, osel_s] at hg
      unfold enterF at hg
      cases hb : fn.body with
      | none => rw [hb] at hg; exact absurd hg.symm (hbad 324)
      | some cd =>
        rw [hb, osel_s] at hg
        cases hs : lc0 P f fn args with
        | none => rw [hs] at hg; exact absurd hg.symm (hbad 325)
        | some s =>
          rw [hs, osel_s] at hg
          have hc := hi (.code cd s H)
          refine calls_of_wp_defers (K.fn f fn hf).1 hb ?_
          cases hr : ih (.code cd s H) with
          | code e s1 H1 =>
            rw [hr] at hg hc
            exact Go.wp_mono (hc w0 E w _ hR (entry_ok hs ha hgl)) fun e1 a1 w1 hq => leaves_of K hD hg hgv hq
          | fail n => rw [hr] at hg; exact absurd hg.symm (hbad n)
          | _ => rw [hr] at hg; exact absurd hg.symm (hbad 323)
  cases hg : stepF0 P ih f args H with
  | val v H1 => exact fun w0 E w cargs hR ha hgl => key _ hg ⟨v, H1, .inl rfl⟩ w0 E w cargs hR ha hgl
  | pan v H1 => exact fun w0 E w cargs hR ha hgl => key _ hg ⟨v, H1, .inr rfl⟩ w0 E w cargs hR ha hgl
  | _ => trivial
end
end Go.Proofs.YthgjjogleklmcaaGreatDoor.Ev
