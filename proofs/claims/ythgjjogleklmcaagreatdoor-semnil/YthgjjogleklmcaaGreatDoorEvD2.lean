/- The reckoner: part EvD2. -/
import Derived.Test.YthgjjogleklmcaaGreatDoorEvD1
namespace Go.Proofs.YthgjjogleklmcaaGreatDoor.Ev
open Go.RowKit
set_option linter.unusedVariables false
section
variable {P : Tb} {H : St} {s s' : Lc} {L L' : Ls}

/-! ### what neither acts nor looks tells the same of every heap -/
def Still (f : St → Did) : Prop := (∀ H, ∃ n, f H = .fail n) ∨ ∃ v, ∀ H, f H = .ok v H
theorem still_fail (n : Nat) : Still (fun _ => .fail n) := .inl fun _ => ⟨n, rfl⟩
theorem still_ok (v : Value) : Still (fun H => .ok v H) := .inr ⟨v, fun _ => rfl⟩
theorem still_osel {α : Type} {x : Option α} {n : Nat} {f : α → St → Did} (h : ∀ y, Still (f y)) : Still (fun H => osel x (.fail n) fun y => f y H) := by
  cases x with
  | none => exact still_fail n
  | some y => exact h y
theorem still_bsel {b : Bool} {f g : St → Did} (hf : Still f) (hg : Still g) : Still (fun H => bsel b (f H) (g H)) := by
  cases b with
  | true => exact hf
  | false => exact hg
theorem still_only {f : St → Did} (h : Still f) : Still (fun H => onlyOk (f H)) := by
  rcases h with h | ⟨v, h⟩
  · exact .inl fun H => by obtain ⟨n, e⟩ := h H; exact ⟨n, by show onlyOk (f H) = _; rw [e]; rfl⟩
  · exact .inr ⟨v, fun H => by show onlyOk (f H) = _; rw [h]; rfl⟩
theorem still_with {k : Addr → St → Did} {v : Value} (h : ∀ a, Still (k a)) : Still (fun H => withAddr (fun a => k a H) v) := by
  cases v with
  | pointer p => cases p with
    | none => exact still_fail 30
    | some a => exact h a
  | _ => exact still_fail 30
theorem still_pure {o : Oper} : Still (fun H => execPure P s L H o) := by
  unfold execPure
  refine still_bsel ?_ (still_fail 42)
  cases pureRun P.P (execOp (fun x => (evO s L x).getD (.tuple #[])) o) with
  | none => exact still_fail 41
  | some n => cases n <;> first | exact still_fail 41 | exact still_bsel (still_ok _) (still_fail 40)
theorem still_eqOp {f : Bool → Bool} {k : St → Did} (hk : Still k) {x : Option Bool} : Still (fun H => eqOp H f (k H) x) := by
  cases x with
  | none => exact hk
  | some b => exact still_ok _
theorem still_fromO {k : St → Did} (hk : Still k) {x : Option Value} : Still (fun H => fromO H (k H) x) := by
  cases x with
  | none => exact hk
  | some b => exact still_ok _
theorem still_part {t : TyI} {cs : List Value} {off : Nat} : Still (fun H => partV H t cs off) := still_bsel (still_ok _) (still_osel fun v => still_ok v)
theorem still_agg {k : List Value → St → Did} {v : Value} (h : ∀ l, Still (k l)) : Still (fun H => aggV (fun l => k l H) v) := by
  cases v <;> first | exact h _ | exact still_fail 146
theorem still_pick {a b : Option Value} {v : Value} : Still (fun H => pickV a b H v) := by
  cases v <;> first | exact still_osel fun v => still_ok v | exact still_fail 45
theorem still_build {z : List Value} {ps : List (Nat × Value)} {t : TypeDesc} : Still (fun H => buildD P H z ps t) := by
  cases t <;> first | exact still_osel fun l => still_ok _ | exact still_osel fun t => still_osel fun l => still_ok _ | exact still_fail 56
theorem still_nil {v : Value} : Still (fun H => nilV H v) := by
  cases v with
  | pointer p => cases p <;> first | exact still_fail 68 | exact still_ok _
  | iface t v => exact still_ok _
  | func f a b => cases f <;> first | exact still_ok _ | exact still_fail 68
  | _ => exact still_fail 68
noncomputable def eqAny (op : BinOp) (H : St) (k : Did) (i : TyI) (a b : Value) : Did := match op with
    | .eql => eqOp H idB k (eqV i.under a b)
    | .neq => eqOp H not k (eqV i.under a b)
    | _ => k
noncomputable def nilAny (op : BinOp) (H : St) : Did := match op with | .eql => .ok (.bool true) H | .neq => .ok (.bool false) H | _ => .fail 71
theorem still_eqAny {op : BinOp} {k : St → Did} (hk : Still k) {i : TyI} {a b : Value} : Still (fun H => eqAny op H (k H) i a b) := by
  cases op <;> first | exact still_eqOp hk | exact hk
theorem still_nilAny {op : BinOp} : Still (fun H => nilAny op H) := by cases op <;> first | exact still_ok _ | exact still_fail 71
theorem still_ptr {op : BinOp} {k : St → Did} (hk : Still k) {x : Option Bool} : Still (fun H => match op with
      | .eql => eqOp H idB (k H) x
      | .neq => eqOp H not (k H) x
      | _ => .fail 69) := by cases op <;> first | exact still_eqOp hk | exact still_fail 69
theorem still_bin {op : BinOp} {t : TypeId} {x y : Operand} {k : St → Did} (hk : Still k) {a b : Value} : Still (fun H => binV P op t x y H (k H) a b) := by
  have gen : ∀ a b : Value, Still (fun H => osel (P.ty.get t) (.fail 68) fun i => eqAny op H (k H) i a b) := fun a b => still_osel (f := fun i H => eqAny op H (k H) i a b) fun i => still_eqAny hk
  cases a with
  | pointer p => cases p with
    | none => cases b <;> exact gen _ _
    | some p => cases b with
      | pointer q => cases q with
        | none => exact gen _ _
        | some q => exact still_ptr hk
      | _ => exact gen _ _
  | int k a => cases b <;> first | exact gen _ _ | exact still_bsel (still_fromO hk) hk
  | string a => cases b <;> first | exact gen _ _ | exact still_fromO hk
  | nilIface =>
    cases b with
    | nilIface =>
      exact still_osel (f := fun (i : TyI) H => bsel (isIface i.under) (bsel (bsel (isConst x) true (isConst y)) (nilAny op H) (.fail 70)) (.fail 70)) fun i => still_bsel (still_bsel still_nilAny (still_fail 70)) (still_fail 70)
    | _ => exact gen _ _
  | _ => first | exact gen _ _ | (cases b <;> exact gen _ _)
theorem still_idx {a : Addr} {len i size : Nat} : Still (fun H => idxA H a len i size) := still_bsel (still_ok _) (still_fail 150)
theorem still_idxAddr {i : Nat} {v : Value} {t : TypeDesc} : Still (fun H => indexAddrD P H i v t) := by
  cases t with
  | slice e => exact still_osel fun j => by cases v with
    | slice a _ _ => cases a <;> first | exact still_idx | exact still_fail 152
    | _ => exact still_fail 152
  | array n e => exact still_osel fun j => by cases v with
    | pointer a => cases a <;> first | exact still_idx | exact still_fail 154
    | _ => exact still_fail 154
  | _ => exact still_fail 155
theorem still_index {i : Nat} {v : Value} {t : TypeDesc} : Still (fun H => indexD P H i v t) := by
  cases t with
  | string => cases v <;> first | exact still_osel fun c => still_ok _ | exact still_fail 161
  | array n e => exact still_osel fun j => still_bsel (still_agg fun l => still_part) (still_fail 163)
  | _ => exact still_fail 164
theorem still_assert {t : TypeId} {ok : Bool} {i : TyI} {v : Value} : Still (fun H => assertV P H t ok i v) := by
  cases v <;> first
    | exact still_bsel (still_osel fun z => still_ok _) (still_fail 195)
    | exact still_bsel (still_fail 196) (still_bsel (still_ok _) (still_bsel (still_osel fun z => still_ok _) (still_fail 198)))
    | exact still_fail 199
theorem still_mk {fn : Fn} {a b : List Value} : Still (fun H => match fn with
    | .func f => Did.ok (.func (.func f) a.toArray b.toArray) H
    | _ => .fail 105) := by cases fn <;> first | exact still_ok _ | exact still_fail 105
theorem still_ext {i : Nat} {v : Value} : Still (fun H => match v with
    | .tuple vs => osel (nth vs.toList i) (.fail 192) fun v => Did.ok v H
    | _ => .fail 193) := by cases v <;> first | exact still_osel fun v => still_ok v | exact still_fail 193
theorem still_of {o : Oper} (ha : actsO o = false) (hl : looks o = false) : Still (fun H => execT o.op P s L H o) := by
  have hp : Still (fun H => execPure P s L H o) := still_pure
  obtain ⟨dst, op, type, pos, after, guard⟩ := o
  cases op
  case makeFunc fn a b => exact still_only (still_osel fun a => still_osel fun b => still_mk)
  case extract x i => exact still_only (still_osel fun v => still_ext)
  all_goals first
    | (cases ha; done)
    | (cases hl; done)
    | exact still_only hp
    | exact still_only still_pure
    | exact still_only (still_osel fun v => still_ok v)
    | exact still_only (still_osel fun v => still_pick)
    | exact still_only (still_osel fun i => still_osel fun z => still_osel fun ps => still_build)
    | exact still_only (still_osel fun v => still_nil)
    | exact still_only (still_osel fun a => still_osel fun b => still_bin hp)
    | exact still_only (still_osel fun i => still_bsel (still_fail 101) (still_osel fun v => still_ok _))
    | exact still_only (still_osel fun p => still_bsel (still_fail 143) (still_osel fun v => still_with fun a => still_ok _))
    | exact still_only (still_osel fun p => still_osel fun v => still_agg fun l => still_part)
    | exact still_only (still_osel fun i => still_osel fun v => still_osel fun k => still_idxAddr)
    | exact still_only (still_osel fun i => still_osel fun v => still_osel fun k => still_index)
    | exact still_only (still_osel fun i => still_osel fun v => still_assert)
    | exact still_fail 49
    | exact still_fail 285
end
end Go.Proofs.YthgjjogleklmcaaGreatDoor.Ev
