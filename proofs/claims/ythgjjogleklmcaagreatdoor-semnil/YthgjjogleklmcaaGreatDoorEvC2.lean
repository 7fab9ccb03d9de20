/- The reckoner: part EvC2. -/
import Derived.Test.YthgjjogleklmcaaGreatDoorEvC
import Derived.Scope
namespace Go.Proofs.YthgjjogleklmcaaGreatDoor.Ev
open Go.RowKit
set_option linter.unusedVariables false
section
variable {P : Tb} {w0 : Base} {E E' : Env} {H H' : St} {w : World} {s s' : Lc} {L : Ls} {a : Act} {o : Oper} {v c d : Value}

theorem scopeOut_ok {b : Code} {g : Got} (hx : JobOk P (.code b s H) g) : JobOk P (.code (.scope b) s H) (scopeOut g) := by
  cases g with
  | code e s1 H1 =>
    have fall : JobOk P (.code b s H) (.code e s1 H1) → (∀ l, e ≠ .goto l) → JobOk P (.code (.scope b) s H) (.code e s1 H1) := fun hx hne w0 E w a hR hF => wp_scope_straight (wp_mono (hx w0 E w a hR hF) fun e1 a1 w1 hq => by
      obtain ⟨E2, h1, h2, h3, h4⟩ := hq
      cases h4 with
      | goto i => exact absurd rfl (hne i)
      | normal => exact ⟨E2, h1, h2, h3, .normal⟩
      | exit l => exact ⟨E2, h1, h2, h3, .exit l⟩
      | ret => exact ⟨E2, h1, h2, h3, .ret⟩
      | panic h => exact ⟨E2, h1, h2, h3, .panic h⟩)
    cases e with
    | goto l => trivial
    | normal => exact fall hx (by simp)
    | exit l => exact fall hx (by simp)
    | ret => exact fall hx (by simp)
    | panic v => exact fall hx (by simp)
  | _ => trivial

theorem condCode_ok {ih : Job → Got} (hi : ∀ j, JobOk P j (ih j)) {x : Operand} {p q : Code} (h1 : evO s [] x = some v) : JobOk P (.code (.cond x p q) s H) (condCode ih p q s H v) := by
  cases v with
  | bool t =>
    show JobOk P _ (bsel t (ih (.code p s H)) (ih (.code q s H)))
    cases t with
    | true =>
      rw [bsel_t]
      have hp := hi (.code p s H)
      cases hg : ih (.code p s H) with
      | code e s1 H1 =>
        rw [hg] at hp
        exact fun w0 E w a hR hF => wp_cond_true ((locR hF LR.nil x _ h1).plain rfl) (hp w0 E w a hR hF)
      | _ => trivial
    | false =>
      rw [bsel_f]
      have hp := hi (.code q s H)
      cases hg : ih (.code q s H) with
      | code e s1 H1 =>
        rw [hg] at hp
        exact fun w0 E w a hR hF => wp_cond_false ((locR hF LR.nil x _ h1).plain rfl) (hp w0 E w a hR hF)
      | _ => trivial
  | _ => trivial

/-- all but the loop -/
theorem stepCode_ok {ih : Job → Got} (hi : ∀ j, JobOk P j (ih j)) (cd : Code) (hl : ∀ b, cd ≠ .loop b) (hd : ∀ i ops, cd ≠ .region i ops true) : JobOk P (.code cd s H) (stepCode ih s H cd) := by
  cases cd with
  | skip => exact fun w0 E w a hR hF => wp_skip (.refl hR hF .normal)
  | label l => exact fun w0 E w a hR hF => wp_label (.refl hR hF .normal)
  | exit id => exact fun w0 E w a hR hF => wp_exit (.refl hR hF (.exit id))
  | goto l => exact fun w0 E w a hR hF => wp_goto (.refl hR hF (.goto l))
  | ret => exact fun w0 E w a hR hF => wp_ret (.refl hR hF .ret)
  | seq x y => exact thenCode_ok hi (hi _) fun h => wp_seq h
  | cond x p q =>
    show JobOk P _ (osel (evO s [] x) (.fail 312) (condCode ih p q s H))
    cases h1 : evO s [] x with
    | none => trivial
    | some v => rw [osel_s]; exact condCode_ok hi h1
  | block id b => exact blockOut_ok (hi _)
  | scope b => exact scopeOut_ok (hi _)
  | loop b => exact absurd rfl (hl b)
  | region i ops draw =>
    cases draw with
    | true => exact absurd rfl (hd i ops)
    | false =>
      show JobOk P _ (ih (.ops ops.toList ops [] s H))
      have hp := hi (.ops ops.toList ops [] s H)
      cases hg : ih (.ops ops.toList ops [] s H) with
      | code e s1 H1 =>
        rw [hg] at hp
        exact fun w0 E w a hR hF => wp_region_list (hp w0 E w a hR hF LR.nil)
      | _ => trivial
  | rangeFunc _ _ _ _ => trivial
  | refuse _ => trivial

theorem run_succ (P : Tb) (n : Nat) (j : Job) : run P (n + 1) j = step P (run P n) j := rfl

/-- a loop: by the fuel that is left -/
theorem loop_ok {N : Nat} (hS : ∀ m, m < N → ∀ j, JobOk P j (run P m j)) (b : Code) : JobOk P (.code (.loop b) s H) (run P N (.code (.loop b) s H)) := by
  cases hg : run P N (.code (.loop b) s H) with
  | code e sf Hf =>
    intro w0 E w a hR hF
    let I : Nat → Act → World → Prop := fun n a w => n ≤ N ∧ ∃ s H E', run P n (.code (.loop b) s H) = .code e sf Hf ∧ E.le E' ∧ Rep P.P w0 E' H w ∧ FrR P E' s a
    have hmin : ∀ a w, (∃ n, I n a w) → ∃ n, I n a w ∧ ∀ m, m < n → ¬ I m a w := fun a w h => by
      obtain ⟨n, hn⟩ := h
      induction n using Nat.strongRecOn with
      | _ n ihn =>
        by_cases hex : ∃ m, m < n ∧ I m a w
        · obtain ⟨m, hm, hI⟩ := hex; exact ihn m hm hI
        · exact ⟨n, hn, fun m hm hI => hex ⟨m, hm, hI⟩⟩
    let μ : Act → World → Nat := fun a w => @dite _ (∃ n, I n a w) (Classical.propDecidable _) (fun h => (hmin a w h).choose) (fun _ => 0)
    have hμ : ∀ a w, (∃ n, I n a w) → I (μ a w) a w ∧ ∀ m, I m a w → μ a w ≤ m := fun a w h => by
      have e1 : μ a w = (hmin a w h).choose := by simp only [μ]; exact dif_pos h
      have hs := (hmin a w h).choose_spec
      rw [e1]
      exact ⟨hs.1, fun m hm => Nat.le_of_not_lt fun hlt => hs.2 m hlt hm⟩
    refine wp_loop (fun a w => ∃ n, I n a w) μ ⟨N, Nat.le_refl _, s, H, E, hg, .refl E, hR, hF⟩ ?_
    intro a1 w1 hI
    obtain ⟨⟨hle, s1, H1, E1, hrun, hE1, hR1, hF1⟩, hleast⟩ := hμ a1 w1 hI
    cases hm : μ a1 w1 with
    | zero => rw [hm] at hrun; cases hrun
    | succ m =>
      rw [hm] at hrun hle
      have hrun : thenCode (run P m) (.loop b) (run P m (.code b s1 H1)) = .code e sf Hf := hrun
      have hb := hS m (by omega) (.code b s1 H1)
      cases hg2 : run P m (.code b s1 H1) with
      | code e2 s2 H2 =>
        rw [hg2] at hb hrun
        refine wp_mono (hb w0 E1 w1 a1 hR1 hF1) fun e3 a3 w3 hq => ?_
        obtain ⟨E3, h1, h2, h3, h4⟩ := hq
        cases h4 with
        | normal =>
          have hrun : run P m (.code (.loop b) s2 H2) = .code e sf Hf := hrun
          have hI3 : I m a3 w3 := ⟨by omega, s2, H2, E3, hrun, hE1.trans h1, h2, h3⟩
          exact ⟨⟨m, hI3⟩, by have := (hμ a3 w3 ⟨m, hI3⟩).2 m hI3; omega⟩
        | exit id => cases hrun; exact ⟨E3, hE1.trans h1, h2, h3, .exit id⟩
        | goto l => cases hrun; exact ⟨E3, hE1.trans h1, h2, h3, .goto l⟩
        | ret => cases hrun; exact ⟨E3, hE1.trans h1, h2, h3, .ret⟩
        | panic h => cases hrun; exact ⟨E3, hE1.trans h1, h2, h3, .panic h⟩
      | _ => rw [hg2] at hrun; cases hrun
  | _ => trivial
end
end Go.Proofs.YthgjjogleklmcaaGreatDoor.Ev
