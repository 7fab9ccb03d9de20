/- The reckoner: part EvC6. -/
import Derived.Test.YthgjjogleklmcaaGreatDoorEvC5
namespace Go.Proofs.YthgjjogleklmcaaGreatDoor.Ev
open Go.RowKit
set_option linter.unusedVariables false
section
variable {P : Tb} {w0 : Base} {E E' E0 : Env} {H H' : St} {w : World} {s s' : Lc} {L : Ls} {a : Act} {o : Oper} {v c d : Value}

/-! ### a deferred call, which may recover -/
def PanM (E : Env) : Option Value → FrameMode → Prop
  | none, u => u = .returning ∨ ∃ c, u = .panicking [{ v := c, recovered := true }]
  | some v, u => ∃ c, VR E v c ∧ u = .panicking [{ v := c, recovered := false }]
theorem PanM.mono (hE : E.le E') {p : Option Value} {u : FrameMode} (h : PanM E p u) : PanM E' p u := by
  cases p with
  | none => exact h
  | some v => obtain ⟨c, h1, h2⟩ := h; exact ⟨c, h1.mono hE, h2⟩
theorem ModeR.pan {p : Option Value} {u : FrameMode} (h : ModeR E p u) : PanM E p u := by
  cases p with
  | none => exact .inl h
  | some v => exact h
theorem PanM.settle {p : Option Value} {u : FrameMode} (h : PanM E p u) : ModeR E p (settle u) := by
  cases p with
  | none => rcases h with rfl | ⟨c, rfl⟩ <;> rfl
  | some v => obtain ⟨c, h1, rfl⟩ := h; exact ⟨c, h1, rfl⟩

def CodeSQ (P : Tb) (w0 : Base) (E0 : Env) (e : Ex) (s' : Lc) (H' : St) (p' : Option Value) (c₀ : Frame) (cs0 : List Frame) : Exit → Act → List Frame → World → Prop :=
  fun e1 a1 cs1 w1 => ∃ E', E0.le E' ∧ Rep P.P w0 E' H' w1 ∧ FrR P E' s' a1 ∧ ExR E' e e1 ∧ ∃ u', cs1 = { c₀ with mode := u' } :: cs0 ∧ PanM E' p' u'

def JobD (P : Tb) : Job → Got → Prop
  | .codeS c s H p, .codeS e s' H' p' => ∀ w0 E0 E w a c₀ cs0 u, E0.le E → Rep P.P w0 E H w → FrR P E s a → PanM E p u → c.wpS P.P (CodeSQ P w0 E0 e s' H' p' c₀ cs0) a ({ c₀ with mode := u } :: cs0) w
  | .opsS l all L s H p, .codeS e s' H' p' => ∀ w0 E0 E w a c₀ cs0 u (is : List Nat), is.map (fun i => all[i]?) = l.map some → E0.le E → Rep P.P w0 E H w → FrR P E s a → LR E s L a → PanM E p u →
      wpOpsS P.P all (CodeSQ P w0 E0 e s' H' p' c₀ cs0) is a ({ c₀ with mode := u } :: cs0) w
  | .callD f args H p, .valD H' p' => CallDOk P f args H p H' p'
  | _, _ => True

variable {p p' : Option Value} {u : FrameMode} {c₀ : Frame} {cs0 : List Frame}

theorem liftS_ok {ih : Job → Got} (hi : ∀ j, JobOk P j (ih j)) {cd : Code} {e : Ex} {sf : Lc} {Hf : St} {pf : Option Value} (h : liftS p (ih (.code cd s H)) = .codeS e sf Hf pf)
    (hE : E0.le E) (hR : Rep P.P w0 E H w) (hF : FrR P E s a) (hp : PanM E p u) : cd.wpS P.P (CodeSQ P w0 E0 e sf Hf pf c₀ cs0) a ({ c₀ with mode := u } :: cs0) w := by
  have hc := hi (.code cd s H)
  cases hr : ih (.code cd s H) with
  | code e1 s1 H1 =>
    rw [hr] at h hc
    cases h
    refine wpS_of_wp (Go.wp_mono (hc w0 E w a hR hF) fun e1 a1 w1 hq => ?_)
    obtain ⟨E1, q1, q2, q3, q4⟩ := hq
    exact ⟨E1, hE.trans q1, q2, q3, q4, u, rfl, hp.mono q1⟩
  | _ => rw [hr] at h; cases h

theorem stepS_ok {ih : Job → Got} (hi : ∀ j, JobOk P j (ih j)) (hj : ∀ j, JobD P j (ih j)) (cd : Code) : JobD P (.codeS cd s H p) (stepS ih s H p cd) := by
  cases hg : stepS ih s H p cd with
  | codeS e sf Hf pf =>
    intro w0 E0 E w a c₀ cs0 u hE hR hF hp
    cases cd with
    | seq x y =>
      have hg : thenS ih y (ih (.codeS x s H p)) = .codeS e sf Hf pf := hg
      have hx := hj (.codeS x s H p)
      cases hr : ih (.codeS x s H p) with
      | codeS e1 s1 H1 p1 =>
        rw [hr] at hg hx
        apply wpS_seq
        have hxx := hx w0 E E w a c₀ cs0 u (.refl E) hR hF hp
        intro b k hb hro
        obtain ⟨ee, a', cs', w', hq, harr⟩ := hxx b k hb hro
        refine ⟨ee, a', cs', w', ?_, harr⟩
        obtain ⟨E1, q1, q2, q3, q4, u1, rfl, q6⟩ := hq
        cases q4 with
        | normal =>
          have hg : ih (.codeS y s1 H1 p1) = .codeS e sf Hf pf := hg
          have hy := hj (.codeS y s1 H1 p1)
          rw [hg] at hy
          exact hy w0 E0 E1 w' a' c₀ cs0 u1 (hE.trans q1) q2 q3 q6
        | exit id => cases hg; exact ⟨E1, hE.trans q1, q2, q3, .exit id, u1, rfl, q6⟩
        | goto l => cases hg; exact ⟨E1, hE.trans q1, q2, q3, .goto l, u1, rfl, q6⟩
        | ret => cases hg; exact ⟨E1, hE.trans q1, q2, q3, .ret, u1, rfl, q6⟩
        | panic hv => cases hg; exact ⟨E1, hE.trans q1, q2, q3, .panic hv, u1, rfl, q6⟩
      | _ => rw [hr] at hg; cases hg
    | cond x y z =>
      have hg : osel (evO s [] x) (.fail 332) (condS ih y z s H p) = .codeS e sf Hf pf := hg
      cases hx : evO s [] x with
      | none => rw [hx] at hg; cases hg
      | some v =>
        rw [hx, osel_s] at hg
        have hv := locR hF LR.nil x v hx
        cases v with
        | bool t =>
          refine wpS_cond (hv.plain rfl) ?_
          cases t with
          | true =>
            have hg : ih (.codeS y s H p) = .codeS e sf Hf pf := hg
            have hy := hj (.codeS y s H p)
            rw [hg] at hy
            exact hy w0 E0 E w a c₀ cs0 u hE hR hF hp
          | false =>
            have hg : ih (.codeS z s H p) = .codeS e sf Hf pf := hg
            have hy := hj (.codeS z s H p)
            rw [hg] at hy
            exact hy w0 E0 E w a c₀ cs0 u hE hR hF hp
        | _ => cases hg
    | region id ops draw =>
      cases draw with
      | true => cases hg
      | false =>
        have hg : ih (.opsS ops.toList ops [] s H p) = .codeS e sf Hf pf := hg
        have hy := hj (.opsS ops.toList ops [] s H p)
        rw [hg] at hy
        apply wpS_region
        refine hy w0 E0 E w a c₀ cs0 u (List.range ops.size) ?_ hE hR hF LR.nil hp
        apply List.ext_getElem
        · simp
        · intro i h1 h2
          simp at h1
          simp [h1]
    | _ => exact liftS_ok hi hg hE hR hF hp
  | _ => trivial

theorem goOnS_ok {ih : Job → Got} (hj : ∀ j, JobD P j (ih j)) {all : Array Oper} {r : List Oper} {is : List Nat} {dst : Option Tmp} {e : Ex} {sf : Lc} {Hf : St} {pf : Option Value}
    (h : putThen (fun L s => ih (.opsS r all L s H p)) L s v dst = .codeS e sf Hf pf) (hl : is.map (fun i => all[i]?) = r.map some) (hE : E0.le E) (hR : Rep P.P w0 E H w) (hF : FrR P E s a) (hL : LR E s L a) (hv : VR E v c) (hp : PanM E p u) :
    wpOpsS P.P all (CodeSQ P w0 E0 e sf Hf pf c₀ cs0) is (a.put dst c) ({ c₀ with mode := u } :: cs0) w := by
  rcases put_ok hF hL hv h with ⟨n, hn⟩ | ⟨L', s', h1, h2, h3, _⟩
  · cases hn
  · have hq := hj (.opsS r all L' s' H p)
    rw [h1] at hq
    exact hq w0 E0 E w (a.put dst c) c₀ cs0 u is hl hE hR h2 h3 hp

theorem recoverD_ok (hp : PanM E p u) : (∃ v c u', p = some v ∧ VR E v c ∧ recoverD ({ c₀ with mode := u } :: cs0) = some (c, { c₀ with mode := u' } :: cs0) ∧ PanM E none u') ∨
    (p = none ∧ recoverD ({ c₀ with mode := u } :: cs0) = none) := by
  cases p with
  | none => rcases hp with rfl | ⟨c, rfl⟩ <;> exact .inr ⟨rfl, rfl⟩
  | some v => obtain ⟨c, h1, rfl⟩ := hp; exact .inl ⟨v, c, _, rfl, h1, rfl, .inr ⟨c, rfl⟩⟩

theorem opsSStep_ok (K : TbOk P) {ih : Job → Got} (hi : ∀ j, JobOk P j (ih j)) (hj : ∀ j, JobD P j (ih j)) {all : Array Oper} {l : List Oper} : JobD P (.opsS l all L s H p) (opsSStep P ih all L s H p l) := by
  cases hg : opsSStep P ih all L s H p l with
  | codeS e sf Hf pf =>
    intro w0 E0 E w a c₀ cs0 u is hl hE hR hF hL hp
    cases l with
    | nil =>
      cases hg
      cases is with
      | nil => exact ⟨E, hE, hR, hF, .normal, u, rfl, hp⟩
      | cons i is => cases hl
    | cons o r =>
      cases is with
      | nil => cases hl
      | cons i is =>
        have ho : all[i]? = some o := (List.cons.inj hl).1
        have hl := (List.cons.inj hl).2
        unfold opsSStep at hg
        dsimp only at hg
        cases hw : wantG all s L o.guard with
        | none => rw [hw] at hg; cases hg
        | some b =>
          rw [hw, osel_s] at hg
          have hwant := wantG_ok hF hL hw
          simp only [wpOpsS, ho]
          cases b with
          | false =>
            rw [bsel_f] at hg
            rw [if_neg (by rw [hwant]; simp)]
            exact goOnS_ok hj hg hl hE hR hF hL (.tuple .nil) hp
          | true =>
            rw [bsel_t] at hg
            rw [if_pos hwant]
            have hd := exec_ok (o := o) K hR (locR hF hL)
            cases hx : execT o.op P s L H o with
            | ok v H1 =>
              rw [hx] at hg hd
              obtain ⟨E', w', c, n, h1, h2, h3, h4, h5⟩ := hd
              rw [h5]
              rcases h4 with rfl | ⟨rfl, rfl⟩
              · exact goOnS_ok hj hg hl (hE.trans h1) h2 (hF.mono h1) (hL.mono h1) h3 (hp.mono h1)
              · exact goOnS_ok hj hg hl (hE.trans h1) h2 (hF.mono h1) (hL.mono h1) h3 (hp.mono h1)
            | call f args =>
              rw [hx] at hg hd
              obtain ⟨cargs, h1, h2⟩ := hd
              rw [h2]
              have hc := hi (.call f args H)
              have hg : afterSC ih all r o.dst L s p (ih (.call f args H)) = .codeS e sf Hf pf := hg
              have hgl : ∀ g, g < P.nglob → E.bl g = some g := fun g hg => hF.glob g (by rw [hF.ng]; exact hg)
              cases hr : ih (.call f args H) with
              | val v H1 =>
                rw [hr] at hg hc
                refine (hc w0 E w cargs hR h1 hgl).mono fun en w' hq => ?_
                obtain ⟨E', c, q1, q2, q3, rfl⟩ := hq
                exact goOnS_ok hj hg hl (hE.trans q1) q2 (hF.mono q1) (hL.mono q1) q3 (hp.mono q1)
              | _ => rw [hr] at hg; cases hg
            | recover =>
              rw [hx] at hg hd
              have hd : (execOp a.eval o).run P.P w = .ok .recover w := hd
              have hg : putThen (fun L s => ih (.opsS r all L s H none)) L s (osel p .nilIface fun v => v) o.dst = .codeS e sf Hf pf := hg
              rw [hd]
              dsimp only
              rcases recoverD_ok (c₀ := c₀) (cs0 := cs0) hp with ⟨v, c, u', rfl, q1, q2, q3⟩ | ⟨rfl, q2⟩
              · rw [q2]
                exact goOnS_ok hj hg hl hE hR hF hL q1 q3
              · rw [q2]
                exact goOnS_ok hj hg hl hE hR hF hL (show VR E .nilIface .nilIface from VR.of_plain E .nilIface rfl) hp
            | pan v => rw [hx] at hg; cases hg
            | defer f args => rw [hx] at hg; cases hg
            | fail n => rw [hx] at hg; cases hg
  | _ => trivial
end
end Go.Proofs.YthgjjogleklmcaaGreatDoor.Ev
