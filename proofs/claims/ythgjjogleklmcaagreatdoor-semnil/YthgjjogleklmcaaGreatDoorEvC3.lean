/- The reckoner: part EvC3. -/
import Derived.Test.YthgjjogleklmcaaGreatDoorEvC2
namespace Go.Proofs.YthgjjogleklmcaaGreatDoor.Ev
open Go.RowKit
set_option linter.unusedVariables false
section
variable {P : Tb} {w0 : Base} {E E' : Env} {H H' : St} {w : World} {s s' : Lc} {L : Ls} {a : Act} {o : Oper} {v c d : Value}

/-- the next operations, with a value in a temporary -/
theorem goOn_ok {ih : Job → Got} (hi : ∀ j, JobOk P j (ih j)) {all : Array Oper} {r : List Oper} {dst : Option Tmp} {e : Ex} {sf : Lc} {Hf : St}
    (h : putThen (fun L s => ih (.ops r all L s H)) L s v dst = .code e sf Hf) (hE : E.le E') (hR : Rep P.P w0 E' H w) (hF : FrR P E' s a) (hL : LR E' s L a) (hv : VR E' v c) :
    wpList P.P all (CodeQ P w0 E e sf Hf) r (a.put dst c) w := by
  rcases put_ok hF hL hv h with ⟨n, hn⟩ | ⟨L', s', h1, h2, h3, _⟩
  · cases hn
  · have hp := hi (.ops r all L' s' H)
    rw [h1] at hp
    have := hp w0 E' w (a.put dst c) hR h2 h3
    exact wpList_mono' (fun e1 a1 w1 hq => hq.up hE) this
where
  wpList_mono' {Q Q' : Exit → Act → World → Prop} {all : Array Oper} {r : List Oper} {a : Act} {w : World} (hq : ∀ e a w, Q e a w → Q' e a w) (h : wpList P.P all Q r a w) : wpList P.P all Q' r a w := by
    induction r generalizing a w with
    | nil => exact hq _ _ _ h
    | cons o r ihr =>
      unfold wpList at h ⊢
      split
      · rename_i hw
        rw [if_pos hw] at h
        rcases h with h | ⟨h1, ⟨a', w', h2⟩⟩
        · left
          unfold Oper.wp at *
          generalize (execOp a.eval o).run P.P w = res at *
          cases res with
          | ok n w' =>
            cases n <;> simp only [Oper.upon] at h ⊢ <;> first
              | exact ihr h
              | exact Calls.mono h (fun e w'' he => by cases e <;> first | exact ihr he | exact hq _ _ _ he | (obtain ⟨a', w', h2⟩ := he; exact ⟨a', w', hq _ _ _ h2⟩))
              | exact Rows.mono h (fun _ _ he => ihr he)
          | halt x w' => cases x <;> simp only [Oper.upon] at h ⊢ <;> exact hq _ _ _ h
        · exact .inr ⟨h1, a', w', hq _ _ _ h2⟩
      · rename_i hw
        rw [if_neg hw] at h
        exact ihr h

theorem opsStep_ok (K : TbOk P) {ih : Job → Got} (hi : ∀ j, JobOk P j (ih j)) {all : Array Oper} {l : List Oper} : JobOk P (.ops l all L s H) (opsStep P ih all L s H l) := by
  cases hg : opsStep P ih all L s H l with
  | code e sf Hf =>
    intro w0 E w a hR hF hL
    cases l with
    | nil => cases hg; exact .refl hR hF .normal
    | cons o r =>
      unfold opsStep at hg
      dsimp only at hg
      cases hw : wantG all s L o.guard with
      | none => rw [hw] at hg; cases hg
      | some b =>
        rw [hw, osel_s] at hg
        have hwant := wantG_ok hF hL hw
        unfold wpList
        cases b with
        | false =>
          rw [bsel_f] at hg
          rw [if_neg (by rw [hwant]; simp)]
          exact goOn_ok hi hg (.refl E) hR hF hL (.tuple .nil)
        | true =>
          rw [bsel_t] at hg
          rw [if_pos hwant]
          left
          have hd := exec_ok (o := o) K hR (locR hF hL)
          unfold Oper.wp
          cases hx : execT o.op P s L H o with
          | ok v H1 =>
            rw [hx] at hg hd
            obtain ⟨E', w', c, n, h1, h2, h3, h4, h5⟩ := hd
            rw [h5]
            rcases h4 with rfl | ⟨rfl, rfl⟩
            · exact goOn_ok hi hg h1 h2 (hF.mono h1) (hL.mono h1) h3
            · exact goOn_ok hi hg h1 h2 (hF.mono h1) (hL.mono h1) h3
          | call f args =>
            rw [hx] at hg hd
            obtain ⟨cargs, h1, h2⟩ := hd
            rw [h2]
            have hc := hi (.call f args H)
            have hg : afterCall (fun v H => putThen (fun L s => ih (.ops r all L s H)) L s v o.dst) s (ih (.call f args H)) = .code e sf Hf := hg
            have hgl : ∀ g, g < P.nglob → E.bl g = some g := fun g hg => hF.glob g (by rw [hF.ng]; exact hg)
            cases hr : ih (.call f args H) with
            | val v H1 =>
              rw [hr] at hg hc
              refine (hc w0 E w cargs hR h1 hgl).mono fun en w' hq => ?_
              obtain ⟨E', c, q1, q2, q3, rfl⟩ := hq
              exact goOn_ok hi hg q1 q2 (hF.mono q1) (hL.mono q1) q3
            | pan v H1 =>
              rw [hr] at hg hc
              cases hg
              refine (hc w0 E w cargs hR h1 hgl).mono fun en w' hq => ?_
              obtain ⟨E', c, q1, q2, q3, rfl⟩ := hq
              exact ⟨E', q1, q2, hF.mono q1, .panic q3⟩
            | _ => rw [hr] at hg; cases hg
          | pan v =>
            rw [hx] at hg hd
            cases hg
            obtain ⟨c, h1, h2⟩ := hd
            rw [h2]
            exact .refl hR hF (.panic h1)
          | defer f args =>
            rw [hx] at hg hd
            obtain ⟨dd, h1, h2⟩ := hd
            rw [h1]
            exact goOn_ok (a := { a with defers := dd :: a.defers }) hi hg (.refl E) hR ⟨hF.ng, hF.size, hF.tmp, hF.glob, .cons h2 hF.defs⟩ hL (.tuple .nil)
          | recover => rw [hx] at hg; cases hg
          | fail n => rw [hx] at hg; cases hg
  | _ => trivial
end
end Go.Proofs.YthgjjogleklmcaaGreatDoor.Ev
