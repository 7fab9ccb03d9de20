/- The reckoner: part EvO7. -/
import Derived.Test.YthgjjogleklmcaaGreatDoorEvO6
namespace Go.Proofs.YthgjjogleklmcaaGreatDoor.Ev
open Go.RowKit
set_option linter.unusedVariables false
section
variable {P : Tb} {w0 : Base} {E : Env} {H H' : St} {w : World} {s : Lc} {L : Ls} {a : Act} {o : Oper} {v c d : Value}

/-! ### making values of parts -/
theorem cellsL_VR {x : Value} (h : VR E x c) : VRL E (cellsL x) c.cells.toList := by
  cases h with
  | flat hf =>
    cases c <;> first | (exact .cons (.flat hf) .nil) | (cases hf)
  | hole => rw [E.one]; exact .cons .hole .nil
  | agg h => exact h
  | ptr h => exact (.cons (.ptr h) .nil)
  | slice h hc => exact (.cons (.slice h hc) .nil)
  | map h => exact (.cons (.map h) .nil)
  | iface h => exact (.cons (.iface h) .nil)
  | tuple h => exact (.cons (.tuple h) .nil)
  | func h h' => exact (.cons (.func h h') .nil)

theorem partsL_ok (hS : LocR E s L a) : ∀ {l : List (Nat × Operand)} {ps : List (Nat × Value)}, partsL s L l = some ps →
    ∃ cs : List (Nat × Value), cs = l.map (fun p => (p.1, a.eval p.2)) ∧ ps.length = cs.length ∧ ∀ (i : Nat) (p q : Nat × Value), ps[i]? = some p → cs[i]? = some q → p.1 = q.1 ∧ VR E p.2 q.2
  | [], ps, h => by cases h; exact ⟨[], rfl, rfl, by simp⟩
  | x :: r, ps, h => by
    unfold partsL at h
    rw [mapO_cons] at h
    obtain ⟨u, h1, h⟩ := osel_opt h
    obtain ⟨us, h2, h⟩ := osel_opt h
    cases h
    obtain ⟨y, h3, h4⟩ := osel_opt h1
    cases h4
    obtain ⟨cs, rfl, h5, h6⟩ := partsL_ok hS (l := r) h2
    refine ⟨_, rfl, by simpa using h5, fun i p q hp hq => ?_⟩
    cases i with
    | zero => simp at hp hq; subst hp; subst hq; exact ⟨rfl, hS _ _ h3⟩
    | succ i => exact h6 i p q (by simpa using hp) (by simpa using hq)

theorem foldl_set (v : Array Value) : ∀ (l : List Value) (k off : Nat) (cs : Array Value), (l.zipIdx k).foldl (fun cs (x : Value × Nat) => cs.setIfInBounds (off + x.2) x.1) cs = setA cs (off + k) l
  | [], k, off, cs => rfl
  | x :: r, k, off, cs => by
    rw [List.zipIdx_cons, List.foldl_cons, foldl_set v r (k + 1) off, setA]
    rfl
theorem setA_list (cs : List Value) (off : Nat) (l : List Value) (h : off + l.length ≤ cs.length) : (setA cs.toArray off l).toList = cs.take off ++ (l ++ cs.drop (off + l.length)) := by
  apply List.ext_getElem?
  intro i
  rw [Array.getElem?_toList, setA_get]
  simp only [List.size_toArray, List.getElem?_toArray]
  by_cases h1 : i < off
  · rw [if_neg (by omega), List.getElem?_append_left (by simp; omega), List.getElem?_take_of_lt h1]
  · rw [List.getElem?_append_right (by simp; omega)]
    have e : (cs.take off).length = off := by simp; omega
    rw [e]
    by_cases h2 : i < off + l.length
    · rw [if_pos (by omega), List.getElem?_append_left (by omega)]
    · rw [if_neg (by omega), List.getElem?_append_right (by omega), List.getElem?_drop]
      congr 1; omega

theorem fill_ok {place : Nat → Option (Nat × Nat)} {place' : Nat → Option (Nat × Nat)} (hp : ∀ i q, place i = some q → place' i = some q) :
    ∀ {ps : List (Nat × Value)} {cs : List (Nat × Value)} {z l : List Value} {y : List Value}, ps.length = cs.length → (∀ (i : Nat) (p q : Nat × Value), ps[i]? = some p → cs[i]? = some q → p.1 = q.1 ∧ VR E p.2 q.2) → VRL E z y →
      fillL place z ps = some l → ∃ m : List Value, Instr.fill place' y.toArray cs = some m.toArray ∧ VRL E l m
  | [], [], z, l, y, _, _, hz, h => by cases h; exact ⟨y, rfl, hz⟩
  | [], _ :: _, _, _, _, hl, _, _, _ => by simp at hl
  | _ :: _, [], _, _, _, hl, _, _, _ => by simp at hl
  | p :: ps, q :: cs, z, l, y, hl, hv, hz, h => by
    obtain ⟨q1, h1, h⟩ := osel_opt h
    obtain ⟨h2, h⟩ := bsel_opt h
    obtain ⟨h3, h⟩ := bsel_opt h
    obtain ⟨e1, e2⟩ := hv 0 p q rfl rfl
    have h2 : (cellsL p.2).length = q1.2 := Nat.eq_of_beq_eq_true h2
    have h3 : q1.1 + q1.2 ≤ z.length := Nat.le_of_ble_eq_true h3
    have hc : VRL E (cellsL p.2) q.2.cells.toList := cellsL_VR e2
    have hlen := hc.length
    have hzl := hz.length
    have hset : (setA y.toArray q1.1 q.2.cells.toList).toList = y.take q1.1 ++ (q.2.cells.toList ++ y.drop (q1.1 + q1.2)) := by
      rw [setA_list y q1.1 _ (by omega)]
      congr 3; omega
    have hz' : VRL E (z.take q1.1 ++ (cellsL p.2 ++ z.drop (q1.1 + q1.2))) (y.take q1.1 ++ (q.2.cells.toList ++ y.drop (q1.1 + q1.2))) := (hz.take _).append (hc.append (hz.drop _))
    obtain ⟨m, h4, h5⟩ := fill_ok hp (by simpa using hl) (fun i p q h h' => hv (i + 1) p q (by simpa using h) (by simpa using h')) hz' h
    refine ⟨m, ?_, h5⟩
    obtain ⟨p1, p2⟩ := p
    obtain ⟨r1, r2⟩ := q
    obtain ⟨o1, o2⟩ := q1
    simp only at e1 e2 h1 h2 h3 hlen hset h4 ⊢
    subst e1
    have hsz : r2.cells.size = o2 := by have : r2.cells.toList.length = r2.cells.size := Array.length_toList; omega
    have hge : ¬ (o1 + o2 > y.length) := by omega
    have hfold : (r2.cells.zipIdx.foldl (fun cs (x : Value × Nat) => cs.setIfInBounds (o1 + x.2) x.1) y.toArray) = (y.take o1 ++ (r2.cells.toList ++ y.drop (o1 + o2))).toArray := by
      rw [← Array.foldl_toList, Array.toList_zipIdx, foldl_set #[] r2.cells.toList 0 o1 y.toArray]
      apply Array.ext'
      rw [Nat.add_zero, hset]
    unfold Instr.fill
    rw [hp _ _ h1]
    simp only []
    rw [if_neg (by simp [hsz]; omega), hfold]
    exact h4
end
end Go.Proofs.YthgjjogleklmcaaGreatDoor.Ev
