/- The reckoner: part EvS. -/
import Derived.Test.YthgjjogleklmcaaGreatDoorEvB
import Derived.Below
import Derived.Deep.AppendSrc
import Derived.Deep.MidRow
import Derived.Laws.Cells
namespace Go.Proofs.YthgjjogleklmcaaGreatDoor.Ev
open Go.RowKit
set_option linter.unusedVariables false

/-! ### the words of the reckoner, as one reads them -/
theorem bsel_t {α : Type} (t e : α) : bsel true t e = t := rfl
theorem bsel_f {α : Type} (t e : α) : bsel false t e = e := rfl
theorem osel_n {α β : Type} (n : β) (s : α → β) : osel none n s = n := rfl
theorem osel_s {α β : Type} (n : β) (s : α → β) (x : α) : osel (some x) n s = s x := rfl
theorem osel_did {α : Type} {o : Option α} {n : Nat} {s : α → Did} {d : Did} (h : osel o (.fail n) s = d) (hd : ∀ n, d ≠ .fail n) : ∃ x, o = some x ∧ s x = d := by
  cases o with
  | none => exact absurd h.symm (hd n)
  | some x => exact ⟨x, rfl, h⟩
theorem bsel_did {b : Bool} {n : Nat} {t d : Did} (h : bsel b t (.fail n) = d) (hd : ∀ n, d ≠ .fail n) : b = true ∧ t = d := by
  cases b with
  | false => exact absurd h.symm (hd n)
  | true => exact ⟨rfl, h⟩
theorem bsel_didN {b : Bool} {n : Nat} {t d : Did} (h : bsel b (.fail n) t = d) (hd : ∀ n, d ≠ .fail n) : b = false ∧ t = d := by
  cases b with
  | true => exact absurd h.symm (hd n)
  | false => exact ⟨rfl, h⟩
theorem osel_opt {α β : Type} {o : Option α} {s : α → Option β} {r : β} (h : osel o none s = some r) : ∃ x, o = some x ∧ s x = some r := by
  cases o with
  | none => cases h
  | some x => exact ⟨x, rfl, h⟩
theorem bsel_opt {β : Type} {b : Bool} {t : Option β} {r : β} (h : bsel b t none = some r) : b = true ∧ t = some r := by
  cases b with
  | false => cases h
  | true => exact ⟨rfl, h⟩
theorem bsel_and {a b : Bool} (h : bsel a b false = true) : a = true ∧ b = true := by
  cases a with
  | false => cases h
  | true => exact ⟨rfl, h⟩
theorem noSpot_iff {a : Addr} (h : noSpot a = true) : a.spot = none := by
  unfold noSpot at h
  cases hs : a.spot with
  | none => rfl
  | some x => rw [hs] at h; cases h

/-! ### trees -/
theorem BT.get_leaf {α : Type} (key k : Nat) (v : Option α) : (BT.leaf key v).get k = bsel (Nat.beq key k) v none := rfl
theorem BT.get_node {α : Type} (m k : Nat) (l r : BT α) : (BT.node m l r).get k = bsel (Nat.ble m k) (r.get k) (l.get k) := rfl
theorem BT.put_leaf {α : Type} (key k : Nat) (v x : Option α) : (BT.leaf key v).put k x = bsel (Nat.beq key k) (.leaf key x) (.leaf key v) := rfl
theorem BT.put_node {α : Type} (m k : Nat) (l r : BT α) (x : Option α) : (BT.node m l r).put k x = bsel (Nat.ble m k) (.node m l (r.put k x)) (.node m (l.put k x) r) := rfl

theorem BT.get_put {α : Type} : ∀ (t : BT α) (k j : Nat) (x : Option α) (v : α), (t.put k x).get j = some v → (j = k ∧ x = some v) ∨ (j ≠ k ∧ t.get j = some v)
  | .leaf key u, k, j, x, v, h => by
    rw [BT.put_leaf] at h
    cases h1 : Nat.beq key k with
    | true =>
      rw [h1, bsel_t, BT.get_leaf] at h
      cases h2 : Nat.beq key j with
      | true => rw [h2, bsel_t] at h; exact .inl ⟨(Nat.eq_of_beq_eq_true h2).symm.trans (Nat.eq_of_beq_eq_true h1), h⟩
      | false => rw [h2, bsel_f] at h; cases h
    | false =>
      rw [h1, bsel_f] at h
      refine .inr ⟨?_, h⟩
      rintro rfl
      rw [BT.get_leaf, h1, bsel_f] at h
      cases h
  | .node m l r, k, j, x, v, h => by
    rw [BT.put_node] at h
    cases h1 : Nat.ble m k with
    | true =>
      rw [h1, bsel_t, BT.get_node] at h
      cases h2 : Nat.ble m j with
      | true =>
        rw [h2, bsel_t] at h
        rcases BT.get_put r k j x v h with h | ⟨h, h'⟩
        · exact .inl h
        · exact .inr ⟨h, by rw [BT.get_node, h2, bsel_t]; exact h'⟩
      | false =>
        rw [h2, bsel_f] at h
        refine .inr ⟨?_, by rw [BT.get_node, h2, bsel_f]; exact h⟩
        rintro rfl; rw [h1] at h2; cases h2
    | false =>
      rw [h1, bsel_f, BT.get_node] at h
      cases h2 : Nat.ble m j with
      | true =>
        rw [h2, bsel_t] at h
        refine .inr ⟨?_, by rw [BT.get_node, h2, bsel_t]; exact h⟩
        rintro rfl; rw [h1] at h2; cases h2
      | false =>
        rw [h2, bsel_f] at h
        rcases BT.get_put l k j x v h with h | ⟨h, h'⟩
        · exact .inl h
        · exact .inr ⟨h, by rw [BT.get_node, h2, bsel_f]; exact h'⟩

theorem BT.mk_zero {α : Type} (b : Nat) : (BT.mk 0 b : BT α) = .leaf b none := rfl
theorem BT.mk_succ {α : Type} (d b : Nat) : (BT.mk (d + 1) b : BT α) = .node (Nat.add b (Nat.pow 2 d)) (BT.mk d b) (BT.mk d (Nat.add b (Nat.pow 2 d))) := rfl
theorem BT.get_mk {α : Type} : ∀ (d b k : Nat), (BT.mk d b : BT α).get k = none
  | 0, b, k => by rw [BT.mk_zero, BT.get_leaf]; cases Nat.beq b k <;> rfl
  | d + 1, b, k => by rw [BT.mk_succ, BT.get_node]; cases Nat.ble _ k with
    | false => exact BT.get_mk d _ k
    | true => exact BT.get_mk d _ k

theorem BT.putL_nil {α : Type} (i : Nat) (t : BT α) : BT.putL [] i t = t := rfl
theorem BT.putL_cons {α : Type} (v : α) (r : List α) (i : Nat) (t : BT α) : BT.putL (v :: r) i t = BT.putL r (i + 1) (t.put i (some v)) := rfl
theorem BT.get_putL {α : Type} : ∀ (vs : List α) (i : Nat) (t : BT α) (j : Nat) (v : α), (BT.putL vs i t).get j = some v →
    (i ≤ j ∧ vs[j - i]? = some v) ∨ (¬ (i ≤ j ∧ j < i + vs.length) ∧ t.get j = some v)
  | [], i, t, j, v, h => .inr ⟨by simp, h⟩
  | x :: r, i, t, j, v, h => by
    rw [BT.putL_cons] at h
    rcases BT.get_putL r (i + 1) _ j v h with ⟨h1, h2⟩ | ⟨h1, h2⟩
    · refine .inl ⟨by omega, ?_⟩
      have : j - i = (j - (i + 1)) + 1 := by omega
      rw [this]; simpa using h2
    · rcases BT.get_put _ _ _ _ _ h2 with ⟨rfl, h3⟩ | ⟨h3, h4⟩
      · exact .inl ⟨Nat.le_refl _, by simpa using h3⟩
      · exact .inr ⟨by simp only [List.length_cons]; omega, h4⟩

theorem BT.getL_zero {α : Type} (t : BT α) (i : Nat) : BT.getL t 0 i = some [] := rfl
theorem BT.getL_succ {α : Type} (t : BT α) (n i : Nat) : BT.getL t (n + 1) i = osel (t.get i) none fun v => osel (BT.getL t n (i + 1)) none fun r => some (v :: r) := rfl
theorem BT.getL_some {α : Type} : ∀ (t : BT α) (n i : Nat) (l : List α), BT.getL t n i = some l → l.length = n ∧ ∀ j v, l[j]? = some v → t.get (i + j) = some v
  | t, 0, i, l, h => by rw [BT.getL_zero] at h; cases h; exact ⟨rfl, fun j v h => by simp at h⟩
  | t, n + 1, i, l, h => by
    rw [BT.getL_succ] at h
    obtain ⟨v, h1, h⟩ := osel_opt h
    obtain ⟨r, h2, h⟩ := osel_opt h
    cases h
    obtain ⟨h3, h4⟩ := BT.getL_some t n (i + 1) r h2
    refine ⟨by simp [h3], fun j u hj => ?_⟩
    cases j with
    | zero => simp at hj; subst hj; exact h1
    | succ j => have := h4 j u (by simpa using hj); rwa [show i + (j + 1) = i + 1 + j by omega]

theorem mapO_nil {α β : Type} (f : α → Option β) : mapO f [] = some [] := rfl
theorem mapO_cons {α β : Type} (f : α → Option β) (x : α) (l : List α) : mapO f (x :: l) = osel (f x) none fun y => osel (mapO f l) none fun r => some (y :: r) := rfl
theorem nth_eq {α : Type} : ∀ (l : List α) (i : Nat), nth l i = l[i]?
  | [], _ => rfl
  | x :: r, 0 => rfl
  | x :: r, i + 1 => by show nth r i = _; rw [nth_eq r i]; simp
theorem bytesEq_eq : ∀ (a b : List UInt8), bytesEq a b = (a == b)
  | [], [] => rfl
  | [], _ :: _ => rfl
  | _ :: _, [] => rfl
  | x :: a, y :: b => by
    show bsel (Nat.beq x.toNat y.toNat) (bytesEq a b) false = _
    rw [bytesEq_eq a b]
    by_cases h : x = y
    · subst h; simp [Nat.beq_refl, bsel]
    · have : Nat.beq x.toNat y.toNat = false := by
        rw [← Bool.not_eq_true]; intro hh; exact h (UInt8.toNat_inj.1 (Nat.eq_of_beq_eq_true hh))
      rw [this, bsel_f]
      simp [h]

/-! ### values -/
structure Env where
  bl : Nat → Option Nat
  cp : Nat → Nat
  hole : Nat → Value
  one : ∀ k, (hole k).cells = #[hole k]

/-- a later reading of the numbers -/
structure Env.le (E E' : Env) : Prop where
  bl : ∀ b B, E.bl b = some B → E'.bl b = some B
  cp : ∀ b B, E.bl b = some B → E'.cp b = E.cp b
  hole : E'.hole = E.hole
theorem Env.le.refl (E : Env) : E.le E := ⟨fun _ _ h => h, fun _ _ _ => rfl, rfl⟩
theorem Env.le.trans {E E' E'' : Env} (h : E.le E') (k : E'.le E'') : E.le E'' :=
  ⟨fun b B hb => k.bl b B (h.bl b B hb), fun b B hb => (k.cp b B (h.bl b B hb)).trans (h.cp b B hb), k.hole.trans h.hole⟩

/-- what a capacity is: a number, or what the block of that number has, less so many -/
def CapR (E : Env) (c c' : Nat) : Prop :=
  (c ≤ 9223372036854775807 ∧ c' = c) ∨ ∃ b B j, 9223372036854775807 < c ∧ c + j = BIG * (b + 1) ∧ j < BIG ∧ E.bl b = some B ∧ c' + j = E.cp b

def flat : Value → Bool
  | .bool _ | .int _ _ | .float _ _ | .complex _ _ _ | .string _ | .nilFunc | .nilIface => true
  | .pointer none | .map none | .chan none | .slice none _ _ => true
  | _ => false

mutual
inductive VR (E : Env) : Value → Value → Prop where
  | flat {v : Value} (h : flat v = true) : VR E v v
  | ptr {b B o : Nat} {sp : Option Nat} (h : E.bl b = some B) : VR E (.pointer (some ⟨b, o, sp⟩)) (.pointer (some ⟨B, o, sp⟩))
  | slice {b B o n c c' : Nat} {sp : Option Nat} (h : E.bl b = some B) (hc : CapR E c c') : VR E (.slice (some ⟨b, o, sp⟩) n c) (.slice (some ⟨B, o, sp⟩) n c')
  | map {b B : Nat} (h : E.bl b = some B) : VR E (.map (some b)) (.map (some B))
  | hole {k : Nat} : VR E (.chan (some k)) (E.hole k)
  | iface {t : TypeId} {v c : Value} (h : VR E v c) : VR E (.iface t v) (.iface t c)
  | agg {vs cs : List Value} (h : VRL E vs cs) : VR E (.agg ⟨vs⟩) (.agg ⟨cs⟩)
  | tuple {vs cs : List Value} (h : VRL E vs cs) : VR E (.tuple ⟨vs⟩) (.tuple ⟨cs⟩)
  | func {f : FuncId} {vs cs us ds : List Value} (h : VRL E vs cs) (h' : VRL E us ds) : VR E (.func (.func f) ⟨vs⟩ ⟨us⟩) (.func (.func f) ⟨cs⟩ ⟨ds⟩)
inductive VRL (E : Env) : List Value → List Value → Prop where
  | nil : VRL E [] []
  | cons {v c : Value} {vs cs : List Value} (h : VR E v c) (h' : VRL E vs cs) : VRL E (v :: vs) (c :: cs)
end

theorem CapR.mono {E E' : Env} (hE : E.le E') {c c' : Nat} (h : CapR E c c') : CapR E' c c' := by
  rcases h with h | ⟨b, B, j, h0, h1, h1', h2, h3⟩
  · exact .inl h
  · exact .inr ⟨b, B, j, h0, h1, h1', hE.bl _ _ h2, by rw [hE.cp _ _ h2]; exact h3⟩
mutual
theorem VR.mono {E E' : Env} (hE : E.le E') {v c : Value} : VR E v c → VR E' v c
  | .flat h => .flat h
  | .ptr h => .ptr (hE.bl _ _ h)
  | .slice h hc => .slice (hE.bl _ _ h) (hc.mono hE)
  | .map h => .map (hE.bl _ _ h)
  | .hole => hE.hole ▸ .hole
  | .iface h => .iface (VR.mono hE h)
  | .agg h => .agg (VRL.mono hE h)
  | .tuple h => .tuple (VRL.mono hE h)
  | .func h h' => .func (VRL.mono hE h) (VRL.mono hE h')
theorem VRL.mono {E E' : Env} (hE : E.le E') {vs cs : List Value} : VRL E vs cs → VRL E' vs cs
  | .nil => .nil
  | .cons h h' => .cons (VR.mono hE h) (VRL.mono hE h')
end

theorem VRL.length {E : Env} {vs cs : List Value} : VRL E vs cs → vs.length = cs.length
  | .nil => rfl
  | .cons _ h => by simp [VRL.length h]
theorem VRL.get {E : Env} {vs cs : List Value} : VRL E vs cs → ∀ (i : Nat) (v : Value), vs[i]? = some v → ∃ c, cs[i]? = some c ∧ VR E v c
  | .nil, i, v, h => by simp at h
  | .cons h h', 0, v, hv => by simp at hv; subst hv; exact ⟨_, rfl, h⟩
  | .cons h h', i + 1, v, hv => by simpa using VRL.get h' i v (by simpa using hv)
theorem VRL.of_get {E : Env} : ∀ {vs cs : List Value}, vs.length = cs.length → (∀ (i : Nat) (v c : Value), vs[i]? = some v → cs[i]? = some c → VR E v c) → VRL E vs cs
  | [], [], _, _ => .nil
  | v :: vs, c :: cs, hl, h => .cons (h 0 v c rfl rfl) (VRL.of_get (by simpa using hl) fun i v c hv hc => h (i + 1) v c (by simpa using hv) (by simpa using hc))
  | [], _ :: _, hl, _ => by simp at hl
  | _ :: _, [], hl, _ => by simp at hl
theorem VRL.append {E : Env} {vs cs us ds : List Value} : VRL E vs cs → VRL E us ds → VRL E (vs ++ us) (cs ++ ds)
  | .nil, k => k
  | .cons h h', k => .cons h (VRL.append h' k)
theorem VRL.take {E : Env} {vs cs : List Value} : VRL E vs cs → ∀ n, VRL E (vs.take n) (cs.take n)
  | .nil, n => by simp; exact .nil
  | .cons h h', 0 => by simp; exact .nil
  | .cons h h', n + 1 => by simp; exact .cons h (VRL.take h' n)
theorem VRL.drop {E : Env} {vs cs : List Value} : VRL E vs cs → ∀ n, VRL E (vs.drop n) (cs.drop n)
  | .nil, n => by simp; exact .nil
  | .cons h h', 0 => by simp; exact .cons h h'
  | .cons h h', n + 1 => by simp; exact VRL.drop h' n

mutual
/-- a plain value is read as itself -/
theorem VR.plain {E : Env} {v c : Value} : VR E v c → plain v = true → c = v
  | .flat _, _ => rfl
  | .ptr _, h => by simp [Go.Proofs.YthgjjogleklmcaaGreatDoor.Ev.plain] at h
  | .slice _ _, h => by simp [Go.Proofs.YthgjjogleklmcaaGreatDoor.Ev.plain] at h
  | .map _, h => by simp [Go.Proofs.YthgjjogleklmcaaGreatDoor.Ev.plain] at h
  | .hole, h => by simp [Go.Proofs.YthgjjogleklmcaaGreatDoor.Ev.plain] at h
  | .iface k, h => by rw [VR.plain k (by simpa [Go.Proofs.YthgjjogleklmcaaGreatDoor.Ev.plain] using h)]
  | .agg k, h => by rw [VRL.plain k (by simpa [Go.Proofs.YthgjjogleklmcaaGreatDoor.Ev.plain] using h)]
  | .tuple k, h => by rw [VRL.plain k (by simpa [Go.Proofs.YthgjjogleklmcaaGreatDoor.Ev.plain] using h)]
  | .func k k', h => by
    have h := bsel_and (by simpa [Go.Proofs.YthgjjogleklmcaaGreatDoor.Ev.plain] using h)
    rw [VRL.plain k h.1, VRL.plain k' h.2]
theorem VRL.plain {E : Env} {vs cs : List Value} : VRL E vs cs → plainL vs = true → cs = vs
  | .nil, _ => rfl
  | .cons k k', h => by
    have h := bsel_and (by simpa [plainL] using h)
    rw [VR.plain k h.1, VRL.plain k' h.2]
end
mutual
theorem VR.of_plain (E : Env) : ∀ (v : Value), Go.Proofs.YthgjjogleklmcaaGreatDoor.Ev.plain v = true → VR E v v
  | .bool _, _ | .int _ _, _ | .float _ _, _ | .complex _ _ _, _ | .string _, _ | .nilFunc, _ | .nilIface, _ => .flat rfl
  | .pointer none, _ | .map none, _ | .chan none, _ | .slice none _ _, _ => .flat rfl
  | .iface t v, h => .iface (VR.of_plain E v (by simpa [Go.Proofs.YthgjjogleklmcaaGreatDoor.Ev.plain] using h))
  | .agg ⟨cs⟩, h => .agg (VRL.of_plain E cs (by simpa [Go.Proofs.YthgjjogleklmcaaGreatDoor.Ev.plain] using h))
  | .tuple ⟨cs⟩, h => .tuple (VRL.of_plain E cs (by simpa [Go.Proofs.YthgjjogleklmcaaGreatDoor.Ev.plain] using h))
  | .func (.func f) ⟨a⟩ ⟨b⟩, h => by
    have h := bsel_and (by simpa [Go.Proofs.YthgjjogleklmcaaGreatDoor.Ev.plain] using h)
    exact .func (VRL.of_plain E a h.1) (VRL.of_plain E b h.2)
  | .pointer (some _), h | .map (some _), h | .chan (some _), h | .slice (some _) _ _, h => by simp [Go.Proofs.YthgjjogleklmcaaGreatDoor.Ev.plain] at h
  | .func (.method _) _ _, h | .func (.methodOf _ _) _ _, h | .func (.via _ _ _ _) _ _, h | .func (.yield _) _ _, h => by simp [Go.Proofs.YthgjjogleklmcaaGreatDoor.Ev.plain] at h
theorem VRL.of_plain (E : Env) : ∀ (vs : List Value), plainL vs = true → VRL E vs vs
  | [], _ => .nil
  | v :: r, h => by
    have h := bsel_and (by simpa [plainL] using h)
    exact .cons (VR.of_plain E v h.1) (VRL.of_plain E r h.2)
end
end Go.Proofs.YthgjjogleklmcaaGreatDoor.Ev
