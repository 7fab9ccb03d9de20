/- The reckoner: part EvD5. -/
import Derived.Test.YthgjjogleklmcaaGreatDoorEvD4
namespace Go.Proofs.YthgjjogleklmcaaGreatDoor.Ev
open Go.RowKit
set_option linter.unusedVariables false
section
variable {P : Tb} {n : Nat} {H H' H1 HF : St} {s s' s1 sF : Lc} {L L1 LF : Ls} {o : Oper} {v : Value} {all : Array Oper} {l r : List Oper} {rs : List Rec} {hs : List St}

/-! ### the canonical run of a drawn region -/
structure PutR (L : Ls) (s : Lc) (v : Value) (dst : Option Tmp) (L' : Ls) (s' : Lc) : Prop where
  N : s'.N = s.N
  D : s'.D = s.D
  ng : s'.ng = s.ng
  lt : ∀ t, dst = some t → t < s.N
  get : ∀ t u, getT s' L' t = some u → (dst = some t ∧ u = v) ∨ (dst ≠ some t ∧ getT s L t = some u)
theorem put_r {k : Ls → Lc → Got} {dst : Option Tmp} {e : Ex} (h : putThen k L s v dst = .code e sF HF) : ∃ L' s', k L' s' = .code e sF HF ∧ PutR L s v dst L' s' := by
  cases dst with
  | none => exact ⟨L, s, h, rfl, rfl, rfl, fun t h => (by cases h), fun t u h => .inr ⟨by simp, h⟩⟩
  | some d =>
    unfold putThen at h
    dsimp only at h
    cases h1 : Nat.ble (Nat.succ d) s.N with
    | false => rw [h1] at h; cases h
    | true =>
      rw [h1, bsel_t] at h
      have hlt : d < s.N := Nat.le_of_ble_eq_true h1
      cases h2 : bitAt s.mask d with
      | true =>
        rw [h2, bsel_t] at h
        refine ⟨L, _, h, rfl, rfl, rfl, fun t e => (by cases e; exact hlt), fun t u hu => ?_⟩
        unfold getT at hu ⊢
        cases h3 : bitAt s.mask t with
        | true =>
          have h3' : bitAt (putS d v s).mask t = true := h3
          rw [h3', bsel_t] at hu
          rw [bsel_t]
          rcases BT.get_put _ _ _ _ _ hu with ⟨rfl, q⟩ | ⟨q, q2⟩
          · exact .inl ⟨rfl, (Option.some.inj q).symm⟩
          · exact .inr ⟨fun e => q (Option.some.inj e).symm, q2⟩
        | false =>
          have h3' : bitAt (putS d v s).mask t = false := h3
          rw [h3', bsel_f] at hu
          rw [bsel_f]
          exact .inr ⟨fun e => (by obtain rfl := Option.some.inj e; rw [h2] at h3; cases h3), hu⟩
      | false =>
        rw [h2, bsel_f] at h
        refine ⟨_, s, h, rfl, rfl, rfl, fun t e => (by cases e; exact hlt), fun t u hu => ?_⟩
        unfold getT at hu ⊢
        cases h3 : bitAt s.mask t with
        | true =>
          rw [h3, bsel_t] at hu
          rw [bsel_t]
          exact .inr ⟨fun e => (by obtain rfl := Option.some.inj e; rw [h2] at h3; cases h3), hu⟩
        | false =>
          rw [h3, bsel_f, scan_cons] at hu
          rw [bsel_f]
          cases h4 : Nat.beq d t with
          | true =>
            rw [h4, bsel_t] at hu
            exact .inl ⟨by rw [Nat.eq_of_beq_eq_true h4], (Option.some.inj hu).symm⟩
          | false =>
            rw [h4, bsel_f] at hu
            exact .inr ⟨fun e => (by obtain rfl := Option.some.inj e; rw [Nat.beq_refl] at h4; cases h4), hu⟩

/-- what acts -/
def DoesA (P : Tb) (s : Lc) (L : Ls) (H : St) (o : Oper) (v : Value) (H1 : St) : Prop :=
  execT o.op P s L H o = .ok v H1 ∨ ∃ f args, execT o.op P s L H o = .call f args ∧ JobOk P (.call f args H) (.val v H1)
/-- what an operation does in the canonical run -/
def Does (P : Tb) (all : Array Oper) (s : Lc) (L : Ls) (H : St) (c : Rec) (H1 : St) : Prop :=
  (c.skip = true ∧ c.act = false ∧ c.v = undefV ∧ H1 = H ∧ wantG all s L c.o.guard = some false) ∨
  (c.skip = false ∧ c.act = false ∧ H1 = H ∧ wantG all s L c.o.guard = some true ∧ actsO c.o = false ∧ ∃ H', H.next = H'.next ∧ execT c.o.op P s L H c.o = .ok c.v H') ∨
  (c.skip = false ∧ c.act = true ∧ wantG all s L c.o.guard = some true ∧ DoesA P s L H c.o c.v H1 ∧ H.next ≤ H1.next ∧ bndsO s L H c.o = true)
inductive Tr (P : Tb) (all : Array Oper) : List Oper → List Rec → List St → Ls → Lc → St → Ls → Lc → St → Prop
  | nil (L : Ls) (s : Lc) (H : St) : Tr P all [] [] [] L s H L s H
  | quiet {o : Oper} {r : List Oper} {c : Rec} {rs : List Rec} {hs : List St} {L L1 LF : Ls} {s s1 sF : Lc} {H HF : St} (ho : c.o = o) (ha : c.act = false) (hd : Does P all s L H c H) (hp : PutR L s c.v o.dst L1 s1) (h : Tr P all r rs hs L1 s1 H LF sF HF) : Tr P all (o :: r) (c :: rs) hs L s H LF sF HF
  | act {o : Oper} {r : List Oper} {c : Rec} {rs : List Rec} {hs : List St} {L L1 LF : Ls} {s s1 sF : Lc} {H H1 HF : St} (ho : c.o = o) (ha : c.act = true) (hd : Does P all s L H c H1) (hp : PutR L s c.v o.dst L1 s1) (h : Tr P all r rs hs L1 s1 H1 LF sF HF) : Tr P all (o :: r) (c :: rs) (H1 :: hs) L s H LF sF HF
structure FinOk (P : Tb) (all : Array Oper) (RS : List Rec) (HS : List St) (LF : Ls) (sF : Lc) (pm : List Nat) : Prop where
  preds : predsL all.toList all.toList [] 0 = some pm
  apart : dstsApart all.toList = true
  row : rowOk P RS pm 0 0 = true
  quiet : HS.length ≤ 1 ∨ quietOk P all.toList LF sF pm (actsOf RS 0) HS RS 0 = true
theorem osel_got {α : Type} {x : Option α} {m : Nat} {f : α → Got} {e : Ex} (h : osel x (.fail m) f = .code e sF HF) : ∃ y, x = some y ∧ f y = .code e sF HF := by
  cases x with
  | none => cases h
  | some y => exact ⟨y, rfl, h⟩
theorem bsel_got {b : Bool} {m : Nat} {g : Got} {e : Ex} (h : bsel b g (.fail m) = .code e sF HF) : b = true ∧ g = .code e sF HF := by
  cases b with
  | false => cases h
  | true => exact ⟨rfl, h⟩
theorem tr_of : ∀ {l : List Oper} {n : Nat} {rs : List Rec} {hs : List St} {L : Ls} {s : Lc} {H : St} {e : Ex}, (∀ m, m ≤ n → SoundAt P m) → run P n (.dops l all rs hs L s H) = .code e sF HF →
    e = .normal ∧ ∃ R hh LF, Tr P all l R hh L s H LF sF HF ∧ ∃ pm, FinOk P all (rs.reverse ++ R) (hs.reverse ++ hh) LF sF pm
  | l, 0, rs, hs, L, s, H, e, _, h => by cases h
  | [], n + 1, rs, hs, L, s, H, e, hS, h => by
    obtain ⟨pm, h1, h⟩ := osel_got (show dopsStep P (run P n) all rs hs L s H [] = _ from h)
    obtain ⟨h2, h⟩ := bsel_got h
    obtain ⟨h3, h⟩ := bsel_got h
    obtain ⟨h4, h⟩ := bsel_got h
    injection h with e1 e2 e3
    subst e1 e2 e3
    refine ⟨rfl, [], [], L, .nil _ _ _, pm, h1, h2, by simpa using h3, ?_⟩
    rw [List.append_nil, List.append_nil]
    cases hs with
    | nil => exact .inl (by simp)
    | cons x t =>
      cases t with
      | nil => exact .inl (by simp)
      | cons y t => exact .inr h4
  | o :: r, n + 1, rs, hs, L, s, H, e, hS, h => by
    have hS' : ∀ m, m ≤ n → SoundAt P m := fun m hm => hS m (by omega)
    have push : ∀ {c : Rec} {R : List Rec}, (c :: rs).reverse ++ R = rs.reverse ++ c :: R := fun {c R} => by simp
    have pushH : ∀ {c : St} {R : List St}, (c :: hs).reverse ++ R = hs.reverse ++ c :: R := fun {c R} => by simp
    obtain ⟨b, h1, h⟩ := osel_got (show dopsStep P (run P n) all rs hs L s H (o :: r) = _ from h)
    cases b with
    | false =>
      rw [bsel_f] at h
      obtain ⟨L', s', h, hp⟩ := put_r h
      obtain ⟨e1, R, hh, LF, hT, pm, hF⟩ := tr_of hS' h
      rw [push] at hF
      exact ⟨e1, _, hh, LF, .quiet (c := ⟨o, undefV, false, true⟩) rfl rfl (.inl ⟨rfl, rfl, rfl, rfl, h1⟩) hp hT, pm, hF⟩
    | true =>
      rw [bsel_t] at h
      cases hx : execT o.op P s L H o with
      | ok v H1 =>
        rw [hx] at h
        have h : bsel (actsO o) (bsel (bsel (Nat.ble H.next H1.next) (bndsO s L H o) false) (putThen (fun L s => run P n (.dops r all (⟨o, v, true, false⟩ :: rs) (H1 :: hs) L s H1)) L s v o.dst) (.fail 348))
          (bsel (Nat.beq H.next H1.next) (putThen (fun L s => run P n (.dops r all (⟨o, v, false, false⟩ :: rs) hs L s H)) L s v o.dst) (.fail 350)) = .code e sF HF := h
        cases ha : actsO o with
        | true =>
          rw [ha, bsel_t] at h
          obtain ⟨hnb, h⟩ := bsel_got h
          obtain ⟨hn, hb⟩ := bsel_and hnb
          obtain ⟨L', s', h, hp⟩ := put_r h
          obtain ⟨e1, R, hh, LF, hT, pm, hF⟩ := tr_of hS' h
          rw [push, pushH] at hF
          exact ⟨e1, _, _, LF, .act (c := ⟨o, v, true, false⟩) rfl rfl (.inr (.inr ⟨rfl, rfl, h1, .inl hx, Nat.le_of_ble_eq_true hn, hb⟩)) hp hT, pm, hF⟩
        | false =>
          rw [ha, bsel_f] at h
          obtain ⟨hn, h⟩ := bsel_got h
          obtain ⟨L', s', h, hp⟩ := put_r h
          obtain ⟨e1, R, hh, LF, hT, pm, hF⟩ := tr_of hS' h
          rw [push] at hF
          exact ⟨e1, _, hh, LF, .quiet (c := ⟨o, v, false, false⟩) rfl rfl (.inr (.inl ⟨rfl, rfl, rfl, h1, ha, H1, Nat.eq_of_beq_eq_true hn, hx⟩)) hp hT, pm, hF⟩
      | call f args =>
        rw [hx] at h
        have hc := (hS n (Nat.le_succ n) (.call f args H)).1
        have h : (match run P n (.call f args H) with
          | .val v H' => bsel (bsel (Nat.ble H.next H'.next) (bndsO s L H o) false) (putThen (fun L s => run P n (.dops r all (⟨o, v, true, false⟩ :: rs) (H' :: hs) L s H')) L s v o.dst) (.fail 349)
          | .pan v H' => .fail 351
          | .fail w => .fail w
          | _ => .fail 352) = .code e sF HF := h
        cases hr : run P n (.call f args H) with
        | val v H1 =>
          rw [hr] at h hc
          obtain ⟨hnb, h⟩ := bsel_got h
          obtain ⟨hn, hb⟩ := bsel_and hnb
          obtain ⟨L', s', h, hp⟩ := put_r h
          obtain ⟨e1, R, hh, LF, hT, pm, hF⟩ := tr_of hS' h
          rw [push, pushH] at hF
          exact ⟨e1, _, _, LF, .act (c := ⟨o, v, true, false⟩) rfl rfl (.inr (.inr ⟨rfl, rfl, h1, .inr ⟨f, args, hx, hc⟩, Nat.le_of_ble_eq_true hn, hb⟩)) hp hT, pm, hF⟩
        | _ => rw [hr] at h; cases h
      | _ => rw [hx] at h; cases h
end
end Go.Proofs.YthgjjogleklmcaaGreatDoor.Ev
