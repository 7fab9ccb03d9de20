/- The reckoner: part EvC. -/
import Derived.Test.YthgjjogleklmcaaGreatDoorEvO18
import Derived.Tactics
import Derived.Recover
namespace Go.Proofs.YthgjjogleklmcaaGreatDoor.Ev
open Go.RowKit
set_option linter.unusedVariables false

/-- the deferred calls of a frame -/
inductive DefsR (P : Tb) (E : Env) : List (FuncId × List Value) → List Deferred → Prop where
  | nil : DefsR P E [] []
  | cons {f : FuncId} {args : List Value} {dd : Deferred} {D : List (FuncId × List Value)} {ds : List Deferred} (h : DefR P E f args dd) (h' : DefsR P E D ds) : DefsR P E ((f, args) :: D) (dd :: ds)
theorem DefR.mono {P : Tb} {E E' : Env} (hE : E.le E') {f : FuncId} {args : List Value} {dd : Deferred} (h : DefR P E f args dd) : DefR P E' f args dd :=
  let ⟨fv, cap, cargs, h1, h2, h3⟩ := h
  ⟨fv, cap, cargs, h1, h2.mono hE, h3⟩
theorem DefsR.mono {P : Tb} {E E' : Env} (hE : E.le E') {D : List (FuncId × List Value)} {ds : List Deferred} (h : DefsR P E D ds) : DefsR P E' D ds := by
  induction h with
  | nil => exact .nil
  | cons h h' ih => exact .cons (h.mono hE) ih

/-- A FRAME. -/
structure FrR (P : Tb) (E : Env) (s : Lc) (a : Act) : Prop where
  ng : s.ng = P.nglob
  size : a.tmps.size = s.N
  tmp : ∀ t v, bitAt s.mask t = true → s.T.get t = some v → VR E v (a.tmps.getD t undef)
  glob : ∀ g, g < s.ng → E.bl g = some g
  defs : DefsR P E s.D a.defers
/-- what a region has of its own -/
def LR (E : Env) (s : Lc) (L : Ls) (a : Act) : Prop := ∀ t v, bitAt s.mask t = false → scan L t = some v → VR E v (a.tmps.getD t undef)

section
variable {P : Tb} {w0 : Base} {E E' : Env} {H H' : St} {w : World} {s s' : Lc} {L : Ls} {a : Act} {o : Oper} {v c d : Value}

theorem FrR.mono (hE : E.le E') (h : FrR P E s a) : FrR P E' s a := ⟨h.ng, h.size, fun t v h1 h2 => (h.tmp t v h1 h2).mono hE, fun g hg => hE.bl _ _ (h.glob g hg), h.defs.mono hE⟩
theorem LR.mono (hE : E.le E') (h : LR E s L a) : LR E' s L a := fun t v h1 h2 => (h t v h1 h2).mono hE
theorem scan_nil (t : Nat) : scan [] t = none := rfl
theorem scan_cons (p : Nat × Value) (L : Ls) (t : Nat) : scan (p :: L) t = bsel (Nat.beq p.1 t) (some p.2) (scan L t) := rfl
theorem LR.nil : LR E s [] a := fun t v _ h => by cases h

theorem getT_ok (hF : FrR P E s a) (hL : LR E s L a) {t : Nat} (h : getT s L t = some v) : VR E v (a.tmps.getD t undef) := by
  unfold getT at h
  cases hb : bitAt s.mask t with
  | true => rw [hb, bsel_t] at h; exact hF.tmp t v hb h
  | false => rw [hb, bsel_f] at h; exact hL t v hb h
theorem locR (hF : FrR P E s a) (hL : LR E s L a) : LocR E s L a := fun x v h => by
  cases x with
  | tmp t => exact getT_ok hF hL h
  | const u =>
    obtain ⟨h1, h⟩ := bsel_opt h
    cases h
    exact VR.of_plain E _ h1
  | global g =>
    obtain ⟨h1, h⟩ := bsel_opt h
    cases h
    exact .ptr (hF.glob g (Nat.le_of_ble_eq_true h1))
  | func f => cases h; exact .func .nil .nil

/-- a value is put into a temporary -/
theorem put_ok (hF : FrR P E s a) (hL : LR E s L a) (hv : VR E v c) {k : Ls → Lc → Got} {dst : Option Tmp} {g : Got} (h : putThen k L s v dst = g) :
    (∃ n, g = .fail n) ∨ ∃ L' s', k L' s' = g ∧ FrR P E s' (a.put dst c) ∧ LR E s' L' (a.put dst c) ∧ s'.D = s.D := by
  cases dst with
  | none => exact .inr ⟨L, s, h, hF, hL, rfl⟩
  | some t =>
    unfold putThen at h
    dsimp only at h
    cases h1 : Nat.ble (Nat.succ t) s.N with
    | false => rw [h1] at h; exact .inl ⟨_, h.symm⟩
    | true =>
      rw [h1, bsel_t] at h
      have hlt : t < s.N := Nat.le_of_ble_eq_true h1
      have hsz : t < a.tmps.size := by rw [hF.size]; exact hlt
      have hself : (a.put (some t) c).tmps.getD t undef = c := by simp [Act.put, Array.getD, hsz]
      have hother : ∀ q, q ≠ t → (a.put (some t) c).tmps.getD q undef = a.tmps.getD q undef := fun q hq => by
        simp only [Act.put, Array.getD_eq_getD_getElem?]
        rw [Array.getElem?_setIfInBounds_ne (Ne.symm hq)]
      right
      cases h2 : bitAt s.mask t with
      | true =>
        rw [h2, bsel_t] at h
        refine ⟨L, _, h, ⟨hF.ng, by simp [Act.put, putS, hF.size], fun q u h3 h4 => ?_, hF.glob, hF.defs⟩, fun q u h3 h4 => ?_, rfl⟩
        · rcases BT.get_put _ _ _ _ _ h4 with ⟨rfl, h5⟩ | ⟨h5, h6⟩
          · cases h5; rw [hself]; exact hv
          · rw [hother q h5]; exact hF.tmp q u h3 h6
        · have : q ≠ t := fun e => by subst e; have h3 : bitAt s.mask q = false := h3; rw [h2] at h3; cases h3
          rw [hother q this]; exact hL q u h3 h4
      | false =>
        rw [h2, bsel_f] at h
        refine ⟨_, s, h, ⟨hF.ng, by simp [Act.put, hF.size], fun q u h3 h4 => ?_, hF.glob, hF.defs⟩, fun q u h3 h4 => ?_, rfl⟩
        · have : q ≠ t := fun e => by subst e; rw [h2] at h3; cases h3
          rw [hother q this]; exact hF.tmp q u h3 h4
        · rw [scan_cons] at h4
          cases h5 : Nat.beq t q with
          | true =>
            have : t = q := Nat.eq_of_beq_eq_true h5
            subst this
            rw [h5, bsel_t] at h4
            cases h4
            rw [hself]; exact hv
          | false =>
            rw [h5, bsel_f] at h4
            have : q ≠ t := fun e => by subst e; rw [Nat.beq_refl] at h5; cases h5
            rw [hother q this]; exact hL q u h3 h4

/-- is the operation wanted? -/
theorem wantG_ok (hF : FrR P E s a) (hL : LR E s L a) {all : Array Oper} {b : Bool} (h : wantG all s L o.guard = some b) : Region.wanted o (yielded all a.tmps) = b := by
  unfold wantG at h
  unfold Region.wanted
  cases hg : o.guard with
  | none => rw [hg] at h; cases h; rfl
  | some g =>
    rw [hg] at h
    obtain ⟨o', h1, h⟩ := osel_opt h
    obtain ⟨t, h2, h⟩ := osel_opt h
    obtain ⟨u, h3, h⟩ := osel_opt h
    have hu := getT_ok hF hL h3
    rw [nth_eq] at h1
    have h1 : all[g.1]? = some o' := by simpa using h1
    have hlt : a.tmps.getD t undef ≠ undef → t < a.tmps.size := fun hne => by
      rcases Nat.lt_or_ge t a.tmps.size with h | h
      · exact h
      · exact absurd (by simp [Array.getD, Nat.not_lt.2 h]) hne
    obtain ⟨gi, gb⟩ := g
    simp only [yielded, h1, Option.bind_some, h2]
    cases u with
    | bool b' =>
      have e1 : a.tmps.getD t undef = .bool b' := hu.plain rfl
      have hl := hlt (by rw [e1]; simp [undef])
      have e2 : a.tmps[t]? = some (.bool b') := by
        rw [Array.getElem?_eq_getElem hl]
        rw [← e1]; simp [Array.getD, hl]
      rw [e2]
      have h := Option.some.inj h
      rw [← h]
      cases b' <;> cases gb <;> rfl
    | tuple vs =>
      obtain ⟨cs, e1, _⟩ := hu.tuple_inv
      cases h
      cases e2 : a.tmps[t]? with
      | none => rfl
      | some z =>
        have hl := (Array.getElem?_eq_some_iff.1 e2).1
        have : z = .tuple ⟨cs⟩ := by
          rw [← e1]
          have := (Array.getElem?_eq_some_iff.1 e2).2
          simp [Array.getD, hl, this]
        subst this
        rfl
    | _ => cases h

/-! ### the endings of code -/
inductive ExR (E : Env) : Ex → Exit → Prop where
  | normal : ExR E .normal .normal
  | exit (id : Nat) : ExR E (.exit id) (.exit id)
  | goto (l : Nat) : ExR E (.goto l) (.goto l)
  | ret : ExR E .ret .ret
  | panic {v c : Value} (h : VR E v c) : ExR E (.panic v) (.panic [{ v := c, recovered := false }])

def CodeQ (P : Tb) (w0 : Base) (E : Env) (e : Ex) (s' : Lc) (H' : St) : Exit → Act → World → Prop :=
  fun e1 a1 w1 => ∃ E', E.le E' ∧ Rep P.P w0 E' H' w1 ∧ FrR P E' s' a1 ∧ ExR E' e e1
theorem CodeQ.up (hE : E.le E') {e : Ex} {e1 : Exit} {a1 : Act} {w1 : World} (h : CodeQ P w0 E' e s' H' e1 a1 w1) : CodeQ P w0 E e s' H' e1 a1 w1 :=
  let ⟨E2, h1, h2⟩ := h
  ⟨E2, hE.trans h1, h2⟩

def ValQ (P : Tb) (w0 : Base) (E : Env) (v : Value) (H' : St) : Ending → World → Prop := fun e w' => ∃ E' c, E.le E' ∧ Rep P.P w0 E' H' w' ∧ VR E' v c ∧ e = .returned c
def PanQ (P : Tb) (w0 : Base) (E : Env) (v : Value) (H' : St) : Ending → World → Prop := fun e w' => ∃ E' c, E.le E' ∧ Rep P.P w0 E' H' w' ∧ VR E' v c ∧ e = .panicked [{ v := c, recovered := false }]

/-- WHAT IS CLAIMED OF A JOB AND ITS ANSWER -/
def JobOk (P : Tb) : Job → Got → Prop
  | .code c s H, .code e s' H' => ∀ w0 E w a, Rep P.P w0 E H w → FrR P E s a → c.wp P.P (CodeQ P w0 E e s' H') a w
  | .ops l all L s H, .code e s' H' => ∀ w0 E w a, Rep P.P w0 E H w → FrR P E s a → LR E s L a → wpList P.P all (CodeQ P w0 E e s' H') l a w
  | .call f args H, .val v H' => ∀ w0 E w cargs, Rep P.P w0 E H w → VRL E args cargs → (∀ g, g < P.nglob → E.bl g = some g) → Calls P.P f cargs.toArray w (ValQ P w0 E v H')
  | .call f args H, .pan v H' => ∀ w0 E w cargs, Rep P.P w0 E H w → VRL E args cargs → (∀ g, g < P.nglob → E.bl g = some g) → Calls P.P f cargs.toArray w (PanQ P w0 E v H')
  | _, _ => True

/-! ### code -/
theorem thenCode_ok {ih : Job → Got} (hi : ∀ j, JobOk P j (ih j)) {x y : Code} {g : Got} (hx : JobOk P (.code x s H) g) {cd : Code}
    (hseq : ∀ {Q : Exit → Act → World → Prop} {a : Act} {w : World}, x.wp P.P (Exit.then (y.wp P.P Q) Q) a w → cd.wp P.P Q a w) : JobOk P (.code cd s H) (thenCode ih y g) := by
  cases g with
  | code e s1 H1 =>
    have fall : ∀ {e : Ex}, JobOk P (.code x s H) (.code e s1 H1) → (∀ e1 E, ExR E e e1 → e1 ≠ .normal) → JobOk P (.code cd s H) (.code e s1 H1) := fun {e} hx hne w0 E w a hR hF => hseq (wp_mono (hx w0 E w a hR hF) fun e1 a1 w1 hq => by
      obtain ⟨E2, h1, h2, h3, h4⟩ := hq
      cases e1 with
      | normal => exact absurd rfl (hne _ _ h4)
      | _ => exact ⟨E2, h1, h2, h3, h4⟩)
    cases e with
    | normal =>
      show JobOk P (.code cd s H) (ih (.code y s1 H1))
      have hy := hi (.code y s1 H1)
      cases hg : ih (.code y s1 H1) with
      | code e2 s2 H2 =>
        rw [hg] at hy
        intro w0 E w a hR hF
        refine hseq (wp_mono (hx w0 E w a hR hF) fun e1 a1 w1 hq => ?_)
        obtain ⟨E2, h1, h2, h3, h4⟩ := hq
        cases h4
        exact wp_mono (hy w0 E2 w1 a1 h2 h3) fun e3 a3 w3 hq => hq.up h1
      | _ => trivial
    | exit id => exact fall hx fun e1 E h => by cases h; simp
    | goto l => exact fall hx fun e1 E h => by cases h; simp
    | ret => exact fall hx fun e1 E h => by cases h; simp
    | panic v => exact fall hx fun e1 E h => by cases h; simp
  | _ => trivial

theorem CodeQ.refl (hR : Rep P.P w0 E H w) (hF : FrR P E s a) {e : Ex} {e1 : Exit} (he : ExR E e e1) : CodeQ P w0 E e s H e1 a w := ⟨E, .refl E, hR, hF, he⟩

theorem blockOut_ok {id : Nat} {b : Code} {g : Got} (hx : JobOk P (.code b s H) g) : JobOk P (.code (.block id b) s H) (blockOut id g) := by
  cases g with
  | code e s1 H1 =>
    have fall : JobOk P (.code b s H) (.code e s1 H1) → (∀ i, e ≠ .exit i) → JobOk P (.code (.block id b) s H) (.code e s1 H1) := fun hx hne w0 E w a hR hF => wp_block (wp_mono (hx w0 E w a hR hF) fun e1 a1 w1 hq => by
      obtain ⟨E2, h1, h2, h3, h4⟩ := hq
      cases h4 with
      | exit i => exact absurd rfl (hne i)
      | normal => exact ⟨E2, h1, h2, h3, .normal⟩
      | goto l => exact ⟨E2, h1, h2, h3, .goto l⟩
      | ret => exact ⟨E2, h1, h2, h3, .ret⟩
      | panic h => exact ⟨E2, h1, h2, h3, .panic h⟩)
    cases e with
    | exit i =>
      show JobOk P (.code (.block id b) s H) (bsel (Nat.beq i id) (.code .normal s1 H1) (.code (.exit i) s1 H1))
      cases hb : Nat.beq i id with
      | true =>
        have : i = id := Nat.eq_of_beq_eq_true hb
        subst this
        rw [bsel_t]
        exact fun w0 E w a hR hF => wp_block (wp_mono (hx w0 E w a hR hF) fun e1 a1 w1 hq => by
          obtain ⟨E2, h1, h2, h3, h4⟩ := hq
          cases h4
          show (if i = i then _ else _)
          rw [if_pos rfl]
          exact ⟨E2, h1, h2, h3, .normal⟩)
      | false =>
        have : ¬ i = id := fun e => by subst e; rw [Nat.beq_refl] at hb; cases hb
        rw [bsel_f]
        exact fun w0 E w a hR hF => wp_block (wp_mono (hx w0 E w a hR hF) fun e1 a1 w1 hq => by
          obtain ⟨E2, h1, h2, h3, h4⟩ := hq
          cases h4
          show (if i = id then _ else _)
          rw [if_neg this]
          exact ⟨E2, h1, h2, h3, .exit i⟩)
    | normal => exact fall hx (by simp)
    | goto l => exact fall hx (by simp)
    | ret => exact fall hx (by simp)
    | panic v => exact fall hx (by simp)
  | _ => trivial
end
end Go.Proofs.YthgjjogleklmcaaGreatDoor.Ev
