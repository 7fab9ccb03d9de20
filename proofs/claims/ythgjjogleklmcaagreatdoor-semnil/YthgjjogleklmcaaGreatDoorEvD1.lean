/- The reckoner: part EvD1. -/
import Derived.Test.YthgjjogleklmcaaGreatDoorEvC8
namespace Go.Proofs.YthgjjogleklmcaaGreatDoor.Ev
open Go.RowKit
set_option linter.unusedVariables false
section
variable {P : Tb} {H : St} {s s' : Lc} {L L' : Ls}

/-! ### an operation's answer hangs on its operands alone -/
theorem mapO_congr {α β : Type} {f g : α → Option β} : ∀ {l : List α}, (∀ x ∈ l, f x = g x) → mapO f l = mapO g l
  | [], _ => rfl
  | x :: r, h => by
    rw [mapO_cons, mapO_cons, h x (by simp), mapO_congr fun y hy => h y (by simp [hy])]
theorem allL_congr {α : Type} {f g : α → Bool} : ∀ {l : List α}, (∀ x ∈ l, f x = g x) → allL f l = allL g l
  | [], _ => rfl
  | x :: r, h => by
    have h1 := h x (by simp)
    have h2 := allL_congr (l := r) fun y hy => h y (by simp [hy])
    show bsel (f x) (allL f r) false = bsel (g x) (allL g r) false
    rw [h1, h2]

/-- both read these alike -/
def Alike (s : Lc) (L : Ls) (s' : Lc) (L' : Ls) (x : Operand) : Prop := evO s' L' x = evO s L x

theorem execPure_congr {o : Oper} (hs : ∀ cs b, o.op ≠ .select cs b) (h : ∀ x ∈ o.op.operands.toList, Alike s L s' L' x) : execPure P s' L' H o = execPure P s L H o := by
  unfold execPure
  have h1 : allL (plainO s' L') o.op.operands.toList = allL (plainO s L) o.op.operands.toList := allL_congr fun x hx => by unfold plainO; rw [h x hx]
  have h2 : execOp (fun x => (evO s' L' x).getD (.tuple #[])) o = execOp (fun x => (evO s L x).getD (.tuple #[])) o := execOp_congr o hs fun x hx => by rw [h x (by simpa using hx)]
  rw [h1, h2]
theorem evL_congr {l : List Operand} (h : ∀ x ∈ l, Alike s L s' L' x) : evL s' L' l = evL s L l := mapO_congr h
theorem partsL_congr {l : List (Nat × Operand)} (h : ∀ p ∈ l, Alike s L s' L' p.2) : partsL s' L' l = partsL s L l := mapO_congr fun p hp => by rw [h p hp]
theorem boundOr_congr {d : Nat} {x : Option Operand} (h : ∀ y ∈ x, Alike s L s' L' y) : boundOr d s' L' x = boundOr d s L x := by
  cases x with
  | none => rfl
  | some y => show asNat (evO s' L' y) = asNat (evO s L y); rw [show evO s' L' y = evO s L y from h y rfl]
theorem sliceD_congr {lo hi mx : Option Operand} {v : Value} {t : TypeDesc} (h1 : ∀ y ∈ lo, Alike s L s' L' y) (h2 : ∀ y ∈ hi, Alike s L s' L' y) (h3 : ∀ y ∈ mx, Alike s L s' L' y) :
    sliceD P s' L' H lo hi mx v t = sliceD P s L H lo hi mx v t := by
  have e1 := fun d => boundOr_congr (d := d) h1
  have e2 := fun d => boundOr_congr (d := d) h2
  have e3 := fun d => boundOr_congr (d := d) h3
  have eV : ∀ e n, sliceV e s' L' H n lo hi mx v = sliceV e s L H n lo hi mx v := fun e n => by cases v <;> first | rfl | (simp only [sliceV, e1, e2, e3])
  have eA : ∀ n m, sliceA s' L' H n m lo hi mx v = sliceA s L H n m lo hi mx v := fun n m => by cases v <;> first | rfl | (rename_i a; cases a <;> first | rfl | (simp only [sliceA, e1, e2, e3]))
  have eS : strSlice s' L' H lo hi v = strSlice s L H lo hi v := by cases v <;> first | rfl | (simp only [strSlice, e1, e2])
  cases t <;> simp only [sliceD, eV, eA, eS]

theorem execT_congr {o : Oper} (h : ∀ x ∈ o.op.operands.toList, Alike s L s' L' x) : execT o.op P s' L' H o = execT o.op P s L H o := by
  by_cases hs : ∃ cs b, o.op = .select cs b
  · obtain ⟨cs, b, hs⟩ := hs
    rw [hs]; rfl
  have hs2 : ∀ cs b, o.op ≠ .select cs b := fun cs b e => hs ⟨cs, b, e⟩
  clear hs
  have hp := execPure_congr (P := P) (H := H) hs2 h
  obtain ⟨dst, op, type, pos, after, guard⟩ := o
  dsimp only at h hs2 hp ⊢
  clear hs2
  cases op <;> simp only [Op.operands] at h <;> simp only [execT] <;> first
    | rfl
    | (rw [hp]; done)
    | skip
  case move x => simp only [xMove, show evO s' L' x = evO s L x from h x (by simp)]
  case assign x => simp only [xMove, show evO s' L' x = evO s L x from h x (by simp)]
  case pick c a b => simp only [xPick, show evO s' L' c = evO s L c from h c (by simp), show evO s' L' a = evO s L a from h a (by simp), show evO s' L' b = evO s L b from h b (by simp)]
  case box t x => simp only [xBox, show evO s' L' x = evO s L x from h x (by simp)]
  case build t ps => simp only [xBuild, partsL_congr (s := s) (L := L) (s' := s') (L' := L') (l := ps.toList) fun p hp => h p.2 (by simp; exact ⟨p.1, by simpa using hp⟩)]
  case buildSlice t n ps => simp only [xBuildSlice, partsL_congr (s := s) (L := L) (s' := s') (L' := L') (l := ps.toList) fun p hp => h p.2 (by simp; exact ⟨p.1, by simpa using hp⟩)]
  case load t x => simp only [xLoad, show evO s' L' x = evO s L x from h x (by simp)]
  case store t x y => simp only [xStore, show evO s' L' x = evO s L x from h x (by simp), show evO s' L' y = evO s L y from h y (by simp)]
  case nilCheck x => simp only [xNilCheck, show evO s' L' x = evO s L x from h x (by simp)]
  case binOp op t x y f => simp only [xBin, hp, show evO s' L' x = evO s L x from h x (by simp), show evO s' L' y = evO s L y from h y (by simp)]
  case convert a b x => simp only [xConvert, hp, show evO s' L' x = evO s L x from h x (by simp)]
  case makeInterface t x => simp only [xMakeInterface, show evO s' L' x = evO s L x from h x (by simp)]
  case makeFunc f a b => simp only [xMakeFunc, evL_congr (s := s) (L := L) (s' := s') (L' := L') (l := a.toList) fun x hx => h x (by simp at hx; simp [hx]), evL_congr (s := s) (L := L) (s' := s') (L' := L') (l := b.toList) fun x hx => h x (by simp at hx; simp [hx])]
  case makeSlice t l c => simp only [xMakeSlice, show evO s' L' l = evO s L l from h l (by simp), show evO s' L' c = evO s L c from h c (by simp)]
  case slice t x lo hi mx =>
    simp only [xSlice, show evO s' L' x = evO s L x from h x (by simp),
      fun v t => sliceD_congr (P := P) (H := H) (v := v) (t := t) (s := s) (L := L) (s' := s') (L' := L') (lo := lo) (hi := hi) (mx := mx) (fun y hy => h y (by cases hy; simp)) (fun y hy => h y (by cases hy; simp)) (fun y hy => h y (by cases hy; simp))]
  case fieldAddr t x f => simp only [xFieldAddr, show evO s' L' x = evO s L x from h x (by simp)]
  case field t x f => simp only [xField, show evO s' L' x = evO s L x from h x (by simp)]
  case indexAddr t x i => simp only [xIndexAddr, show evO s' L' x = evO s L x from h x (by simp), show evO s' L' i = evO s L i from h i (by simp)]
  case index t x i => simp only [xIndex, show evO s' L' x = evO s L x from h x (by simp), show evO s' L' i = evO s L i from h i (by simp)]
  case lookup t m k ok => simp only [xLookup, show evO s' L' m = evO s L m from h m (by simp), show evO s' L' k = evO s L k from h k (by simp)]
  case mapUpdate t m k v => simp only [xMapUpdate, show evO s' L' m = evO s L m from h m (by simp), show evO s' L' k = evO s L k from h k (by simp), show evO s' L' v = evO s L v from h v (by simp)]
  case insert t m k v => simp only [xMapUpdate, show evO s' L' m = evO s L m from h m (by simp), show evO s' L' k = evO s L k from h k (by simp), show evO s' L' v = evO s L v from h v (by simp)]
  case extract x i => simp only [xExtract, show evO s' L' x = evO s L x from h x (by simp)]
  case typeAssert x t a ok => simp only [xTypeAssert, show evO s' L' x = evO s L x from h x (by simp)]
  case panic x => simp only [xPanic, show evO s' L' x = evO s L x from h x (by simp)]
  case call c =>
    simp only [Call.operands] at h
    have ha := evL_congr (s := s) (L := L) (s' := s') (L' := L') (l := c.args.toList) fun x hx => h x (by simp at hx; simp [hx])
    simp only [xCall, hp, ha]
    congr 1
    funext args
    cases hc : c.callee with
    | value f => simp only [calleeD, show evO s' L' f = evO s L f from h f (by simp [hc])]
    | invoke r n => simp only [calleeD, show evO s' L' r = evO s L r from h r (by simp [hc])]
    | builtin b => rfl
  case defer c =>
    simp only [Call.operands] at h
    have ha := evL_congr (s := s) (L := L) (s' := s') (L' := L') (l := c.args.toList) fun x hx => h x (by simp at hx; simp [hx])
    unfold xDefer
    cases hc : c.callee with
    | value f => simp only [ha, show evO s' L' f = evO s L f from h f (by simp [hc])]
    | invoke r n => rfl
    | builtin b => rfl
end
end Go.Proofs.YthgjjogleklmcaaGreatDoor.Ev
