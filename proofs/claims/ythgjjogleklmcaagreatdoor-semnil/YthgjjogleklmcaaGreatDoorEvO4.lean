/- The reckoner: part EvO4. -/
import Derived.Test.YthgjjogleklmcaaGreatDoorEvO3
import Derived.Laws.BytesString
import Derived.Laws.Strings
namespace Go.Proofs.YthgjjogleklmcaaGreatDoor.Ev
open Go.RowKit
set_option linter.unusedVariables false
section
variable {P : Tb} {w0 : Base} {E : Env} {H H' : St} {w : World} {s : Lc} {L : Ls} {a : Act} {o : Oper} {v : Value}

/-! ### operators of two -/
theorem eqGuard_free {Q : Program} {op : BinOp} {t : TypeId} {x y : Operand} {c d : Value} (h1 : c ≠ .nilIface ∨ d ≠ .nilIface) (h2 : ∀ z, c ≠ .agg z) : (eqGuard op t x y c d).run Q w = .ok () w := by
  cases c with
  | agg z => exact absurd rfl (h2 z)
  | nilIface => cases d <;> first | (cases op <;> rfl; done) | (simp at h1; done)
  | _ => cases op <;> rfl
theorem recEq (a b : Bool) : (Bool.rec (motive := fun _ => Bool) (!b) b a : Bool) = (a == b) := by cases a <;> cases b <;> rfl

theorem eqV_any (dd : Nat) {Q : Program} {t : TypeId} {u : TypeDesc} {x y c d : Value} {r : Bool} (hu : Q.underlying t = some u) (hx : VR E x c) (hy : VR E y d) (h : eqV u x y = some r) :
    (Op.equalIn (dd + 1) t c d).run Q w = .ok r w ∧ (c ≠ .nilIface ∨ d ≠ .nilIface) ∧ ∀ z, c ≠ .agg z := by
  unfold eqV at h
  split at h <;> try (cases h; done)
  all_goals obtain rfl := Option.some.inj h
  · obtain rfl := hx.plain rfl; obtain rfl := hy.plain rfl
    rw [recEq]
    exact ⟨by simp [Op.equalIn, run_underlying hu], .inl (by simp), by simp⟩
  · obtain rfl := hx.plain rfl; obtain rfl := hy.plain rfl
    exact ⟨by simp [Op.equalIn, run_underlying hu], .inl (by simp), by simp⟩
  · obtain rfl := hx.plain rfl; obtain ⟨B, hB, rfl⟩ := hy.pointer_inv
    exact ⟨by simp [Op.equalIn, run_underlying hu], .inl (by simp), by simp⟩
  · obtain rfl := hy.plain rfl; obtain ⟨B, hB, rfl⟩ := hx.pointer_inv
    exact ⟨by simp [Op.equalIn, run_underlying hu], .inl (by simp), by simp⟩
  · obtain rfl := hx.plain rfl; obtain ⟨z, rfl, _⟩ := hy.iface_inv
    exact ⟨by simp [Op.equalIn, run_underlying hu], .inr (by simp), by simp⟩
  · obtain rfl := hy.plain rfl; obtain ⟨z, rfl, _⟩ := hx.iface_inv
    exact ⟨by simp [Op.equalIn, run_underlying hu], .inl (by simp), by simp⟩
  · obtain rfl := hx.plain rfl; obtain rfl := hy.plain rfl
    exact ⟨by simp [Op.equalIn, run_underlying hu], .inl (by simp), by simp⟩
  · obtain rfl := hx.plain rfl; obtain ⟨B, k, rfl, _, _⟩ := hy.slice_inv
    exact ⟨by simp [Op.equalIn, run_underlying hu], .inl (by simp), by simp⟩
  · obtain rfl := hy.plain rfl; obtain ⟨B, k, rfl, _, _⟩ := hx.slice_inv
    exact ⟨by simp [Op.equalIn, run_underlying hu], .inl (by simp), by simp⟩
  · obtain rfl := hx.plain rfl; obtain rfl := hy.plain rfl
    exact ⟨by simp [Op.equalIn, run_underlying hu], .inl (by simp), by simp⟩
  · obtain rfl := hx.plain rfl; obtain ⟨B, rfl, _⟩ := hy.map_inv
    exact ⟨by simp [Op.equalIn, run_underlying hu], .inl (by simp), by simp⟩
  · obtain rfl := hy.plain rfl; obtain ⟨B, rfl, _⟩ := hx.map_inv
    exact ⟨by simp [Op.equalIn, run_underlying hu], .inl (by simp), by simp⟩
  · obtain rfl := hx.plain rfl; obtain rfl := hy.plain rfl
    exact ⟨by simp [Op.equalIn, run_underlying hu], .inl (by simp), by simp⟩
  · obtain rfl := hx.plain rfl
    cases hy with
    | flat h => simp [Go.Proofs.YthgjjogleklmcaaGreatDoor.Ev.flat] at h
    | func _ _ => exact ⟨by simp [Op.equalIn, run_underlying hu], .inl (by simp), by simp⟩
  · obtain rfl := hy.plain rfl
    cases hx with
    | flat h => simp [Go.Proofs.YthgjjogleklmcaaGreatDoor.Ev.flat] at h
    | func _ _ => exact ⟨by simp [Op.equalIn, run_underlying hu], .inl (by simp), by simp⟩

theorem eqV_ok {Q : Program} {t : TypeId} {u : TypeDesc} {x y c d : Value} {r : Bool} (hu : Q.underlying t = some u) (hx : VR E x c) (hy : VR E y d) (h : eqV u x y = some r) :
    (Op.equal t c d).run Q w = .ok r w ∧ (c ≠ .nilIface ∨ d ≠ .nilIface) ∧ ∀ z, c ≠ .agg z := eqV_any 9999 hu hx hy h

theorem eqOp_ok {f : Bool → Bool} {k : Did} {r : Option Bool} (h : eqOp H f k r = .ok v H') : (∃ b, r = some b ∧ v = .bool (f b) ∧ H' = H) ∨ (k = .ok v H') := by
  cases r with
  | none => exact .inr h
  | some b => obtain ⟨rfl, rfl⟩ := ok_inj h; exact .inl ⟨b, rfl, rfl, rfl⟩
theorem fromO_ok {k : Did} {r : Option Value} (h : fromO H k r = .ok v H') : (r = some v ∧ H' = H) ∨ (k = .ok v H') := by
  cases r with
  | none => exact .inr h
  | some b => obtain ⟨rfl, rfl⟩ := ok_inj h; exact .inl ⟨rfl, rfl⟩

/-- '==' and '!=' of what is equal or not -/
theorem bin_eq {op : BinOp} {t : TypeId} {x y : Operand} {yt : TypeId} (hop : o.op = .binOp op t x y yt) {c d : Value} (hc : a.eval x = c) (hd : a.eval y = d) {r : Bool}
    (hq : (Op.equal t c d).run P.P w = .ok r w) (h1 : c ≠ .nilIface ∨ d ≠ .nilIface) (h2 : ∀ z, c ≠ .agg z)
    (hb : ∀ op', op' = .eql ∨ op' = .neq → binOp op' t c d = (if op' = .eql then do pure (.bool (← Op.equal t c d)) else do pure (.bool (!(← Op.equal t c d)))))
    {f : Bool → Bool} (hf : (op = .eql ∧ f = idB) ∨ (op = .neq ∧ f = not)) : (execOp a.eval o).run P.P w = .ok (.value (.bool (f r))) w := by
  have hg := eqGuard_free (Q := P.P) (w := w) (op := op) (t := t) (x := x) (y := y) h1 h2
  rcases hf with ⟨rfl, rfl⟩ | ⟨rfl, rfl⟩
  · have := hb .eql (.inl rfl)
    simp [execOp, hop, hc, hd, hg, this, hq, idB]
  · have := hb .neq (.inr rfl)
    simp [execOp, hop, hc, hd, hg, this, hq]

theorem strOp_ok {op : BinOp} {x y : ByteArray} {u : Value} (h : strOp op x.data.toList y.data.toList = some u) : (Op.stringOp op x y).run P.P w = .ok u w := by
  have hb : ∀ x : ByteArray, x.data.toList = x.toList := fun x => (Go.ByteArray.toList_eq x).symm
  cases op with
  | add =>
    obtain ⟨hl, h⟩ := bsel_opt h
    obtain rfl := Option.some.inj h
    have hl := Nat.le_of_ble_eq_true hl
    have e : (⟨(x.data.toList ++ y.data.toList).toArray⟩ : ByteArray) = x ++ y := by
      have : (x ++ y).data = x.data ++ y.data := by simp
      have e2 : (x.data.toList ++ y.data.toList).toArray = (x ++ y).data := by rw [this]; apply Array.ext'; simp
      rw [e2]
    have h1 : x.data.toList.length = x.size := Array.length_toList
    have h2 : y.data.toList.length = y.size := Array.length_toList
    have hl : (x.size : Int) + (y.size : Int) ≤ 9223372036854775807 := by
      have : x.data.toList.length + y.data.toList.length ≤ 1000000 := hl
      omega
    simp [Op.stringOp, e, hl]
  | eql => obtain rfl := Option.some.inj h; rw [bytesEq_eq, hb, hb]; simp only [Op.stringOp]; rfl
  | neq => obtain rfl := Option.some.inj h; rw [bytesEq_eq, hb, hb]; simp only [Op.stringOp]; rfl
  | _ => cases h
end
end Go.Proofs.YthgjjogleklmcaaGreatDoor.Ev
