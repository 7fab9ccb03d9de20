/- Joined texts of the proof. -/
import Derived.Test.YtjgggmjjikopeaaGreatDoorJ6
import Derived.Test.YtjgggmjjikopeaaGreatDoorJ3
import Derived.Test.YtjgggmjjikopeaaGreatDoorJ1
import Derived.Test.YtjgggmjjikopeaaGreatDoorJ2
import Derived.Test.YtjgggmjjikopeaaGreatDoorJ4

/- Reading expressions, as plain functions on lists of tokens: by how tight signs bind (the code), by rules (the document); both are one. -/
namespace Go.Proofs.YtjgggmjjikopeaaGreatDoor
set_option linter.unusedVariables false

/-- The token that is next. -/
def hdT : List Tk → Tk
  | [] => ⟨0, [], 0, 0⟩
  | t :: _ => t

/-- What a part of the reader tells: a value and the tokens left, or an error and its place. -/
inductive Rs (α : Type) where
  | ok (v : α) (r : List Tk)
  | bad (e p : Nat)

/-- What a sign of two operands does, and how tight it binds. -/
def bindOf (x : List UInt8) : Nat × Nat :=
  if x = [124, 124] then (3, 1) else if x = [38, 38] then (4, 2)
  else if x = [61, 61] then (5, 3) else if x = [33, 61] then (6, 3) else if x = [60] then (7, 3) else if x = [60, 61] then (8, 3) else if x = [62] then (9, 3) else if x = [62, 61] then (10, 3)
  else if x = [43] then (11, 4) else if x = [45] then (12, 4)
  else if x = [42] then (13, 5) else if x = [47] then (14, 5) else if x = [37] then (15, 5) else (0, 0)

/-- What a sign or word ahead of its one operand does. -/
def openOf (x : List UInt8) : Nat :=
  if x = [45] then 16 else if x = [33] then 17 else if x = [105, 110, 116] then 18 else if x = [114, 101, 97, 108] then 19 else 0

/-- A literal's type and bits. -/
def litTk (t : Tk) : Option (Nat × Nat) :=
  if t.text = [116, 114, 117, 101] then some (2, 1) else if t.text = [102, 97, 108, 115, 101] then some (2, 0)
  else if t.text = [110, 97, 110] then some (3, 9221120237041090560) else if t.text = [105, 110, 102] then some (3, 9218868437227405312)
  else if t.kind = 2 ∨ t.kind = 3 then some (valT t.kind, t.bits) else none

/-- A literal or a name. -/
def leafR (l : List Tk) : Rs Ex :=
  match litTk (hdT l) with
  | some v => .ok (.mk 1 v.1 v.2 [] []) l.tail
  | none => if isNm (hdT l).text then .ok (.mk 2 0 0 (hdT l).text []) l.tail else .bad 4 (hdT l).place

/-- An expression of its operands, refused at its sign, if it is too high. -/
def nodeR (p op : Nat) (ks : List Ex) (r : List Tk) : Rs Ex := if 32 < htX (.mk op 0 0 [] ks) then .bad 160 p else .ok (.mk op 0 0 [] ks) r

/-- This word or sign. -/
def mustR (x : List UInt8) (l : List Tk) : Rs Unit := if (hdT l).text = x then .ok () l.tail else .bad 4 (hdT l).place

/-- How tight the next sign may bind. -/
def mostOf (t : Nat) : Nat := if t = 3 then 2 else t

mutual
/-- Operands and the signs between them that bind at least so tight. -/
def rowF : Nat → Nat → Nat → List Tk → Option (Rs Ex)
  | 0, _, _, _ => none
  | f + 1, least, d, l => match operF f d l with
    | none => none
    | some (.bad e p) => some (.bad e p)
    | some (.ok x r) => loopF f least 5 d x r
def loopF : Nat → Nat → Nat → Nat → Ex → List Tk → Option (Rs Ex)
  | 0, _, _, _, _, _ => none
  | f + 1, least, most, d, x, l =>
    if (bindOf (hdT l).text).2 < least ∨ most < (bindOf (hdT l).text).2 then some (.ok x l)
    else match rowF f ((bindOf (hdT l).text).2 + 1) d l.tail with
      | none => none
      | some (.bad e p) => some (.bad e p)
      | some (.ok y r) => match nodeR (hdT l).place (bindOf (hdT l).text).1 [x, y] r with
        | .bad e p => some (.bad e p)
        | .ok z r => loopF f least (mostOf (bindOf (hdT l).text).2) d z r
/-- What stands between signs of two operands. -/
def operF : Nat → Nat → List Tk → Option (Rs Ex)
  | 0, _, _ => none
  | f + 1, d, l =>
    if openOf (hdT l).text = 0 ∧ (hdT l).text ≠ [40] then some (leafR l)
    else if 32 ≤ d then some (.bad 160 (hdT l).place)
    else if openOf (hdT l).text = 16 ∨ openOf (hdT l).text = 17 then
      match operF f (d + 1) l.tail with
      | none => none
      | some (.bad e p) => some (.bad e p)
      | some (.ok y r) => some (nodeR (hdT l).place (openOf (hdT l).text) [y] r)
    else if openOf (hdT l).text = 0 then brkF f d l
    else match brkF f d l.tail with
      | none => none
      | some (.bad e p) => some (.bad e p)
      | some (.ok y r) => some (nodeR (hdT l).place (openOf (hdT l).text) [y] r)
/-- An expression in round brackets. -/
def brkF : Nat → Nat → List Tk → Option (Rs Ex)
  | 0, _, _ => none
  | f + 1, d, l => match mustR [40] l with
    | .bad e p => some (.bad e p)
    | .ok _ r => match rowF f 1 (d + 1) r with
      | none => none
      | some (.bad e p) => some (.bad e p)
      | some (.ok y r) => match mustR [41] r with
        | .bad e p => some (.bad e p)
        | .ok _ r => some (.ok y r)
end

/-- More rounds tell the same. -/
theorem more (f : Nat) :
    (∀ n d l r, rowF f n d l = some r → rowF (f + 1) n d l = some r) ∧
    (∀ n m d x l r, loopF f n m d x l = some r → loopF (f + 1) n m d x l = some r) ∧
    (∀ d l r, operF f d l = some r → operF (f + 1) d l = some r) ∧
    (∀ d l r, brkF f d l = some r → brkF (f + 1) d l = some r) := by
  induction f with
  | zero => exact ⟨fun n d l r h => by simp [rowF] at h, fun n m d x l r h => by simp [loopF] at h, fun d l r h => by simp [operF] at h, fun d l r h => by simp [brkF] at h⟩
  | succ f ih =>
    obtain ⟨ih1, ih2, ih3, ih4⟩ := ih
    refine ⟨fun n d l r h => ?_, fun n m d x l r h => ?_, fun d l r h => ?_, fun d l r h => ?_⟩
    · rw [rowF] at h ⊢
      cases hc : operF f d l with
      | none => rw [hc] at h; cases h
      | some y =>
        rw [hc] at h
        rw [ih3 d l y hc]
        cases y with
        | bad e p => exact h
        | ok y r' => exact ih2 _ _ _ _ _ _ h
    · rw [loopF] at h ⊢
      split at h
      · next hc => rw [if_pos hc]; exact h
      · next hc =>
        rw [if_neg hc]
        cases hc : rowF f ((bindOf (hdT l).text).2 + 1) d l.tail with
        | none => rw [hc] at h; cases h
        | some y =>
          rw [hc] at h
          rw [ih1 _ _ _ y hc]
          cases y with
          | bad e p => exact h
          | ok y r' =>
            dsimp only at h ⊢
            cases hn : nodeR (hdT l).place (bindOf (hdT l).text).1 [x, y] r' with
            | bad e p => rw [hn] at h; exact h
            | ok z r'' => rw [hn] at h; exact ih2 _ _ _ _ _ _ h
    · rw [operF] at h ⊢
      split at h
      · next hc => rw [if_pos hc]; exact h
      · next hc =>
        rw [if_neg hc]
        split at h
        · next hc => rw [if_pos hc]; exact h
        · next hc =>
          rw [if_neg hc]
          split at h
          · next hc =>
            rw [if_pos hc]
            cases hc : operF f (d + 1) l.tail with
            | none => rw [hc] at h; cases h
            | some y => rw [hc] at h; rw [ih3 _ _ y hc]; exact h
          · next hc =>
            rw [if_neg hc]
            split at h
            · next hc => rw [if_pos hc]; exact ih4 _ _ _ h
            · next hc =>
              rw [if_neg hc]
              cases hc : brkF f d l.tail with
              | none => rw [hc] at h; cases h
              | some y => rw [hc] at h; rw [ih4 _ _ y hc]; exact h
    · rw [brkF] at h ⊢
      cases hm : mustR [40] l with
      | bad e p => rw [hm] at h; exact h
      | ok u r' =>
        rw [hm] at h
        dsimp only at h ⊢
        cases hc : rowF f 1 (d + 1) r' with
        | none => rw [hc] at h; cases h
        | some y => rw [hc] at h; rw [ih1 _ _ _ y hc]; exact h
theorem rowF_le {f g n d l r} (h : rowF f n d l = some r) (hfg : f ≤ g) : rowF g n d l = some r := by
  induction hfg with
  | refl => exact h
  | step _ ih => exact (more _).1 _ _ _ _ ih
theorem loopF_le {f g n m d x l r} (h : loopF f n m d x l = some r) (hfg : f ≤ g) : loopF g n m d x l = some r := by
  induction hfg with
  | refl => exact h
  | step _ ih => exact (more _).2.1 _ _ _ _ _ _ ih
theorem operF_le {f g d l r} (h : operF f d l = some r) (hfg : f ≤ g) : operF g d l = some r := by
  induction hfg with
  | refl => exact h
  | step _ ih => exact (more _).2.2.1 _ _ _ ih
theorem brkF_le {f g d l r} (h : brkF f d l = some r) (hfg : f ≤ g) : brkF g d l = some r := by
  induction hfg with
  | refl => exact h
  | step _ ih => exact (more _).2.2.2 _ _ _ ih

/-- What is told leaves fewer than so many tokens. -/
def Rs.Left {α : Type} (n : Nat) : Rs α → Prop
  | .ok _ r => r.length < n
  | .bad _ _ => True

theorem tail_lt {l : List Tk} (h : (hdT l).text ≠ []) : l.tail.length < l.length := by
  cases l with
  | nil => exact absurd rfl h
  | cons t r => simp

theorem nodeR_left {p op : Nat} {ks : List Ex} {r : List Tk} {n : Nat} (h : r.length < n) : (nodeR p op ks r).Left n := by
  unfold nodeR
  split
  · trivial
  · exact h
theorem leafR_left (l : List Tk) : (leafR l).Left l.length := by
  cases l with
  | nil =>
    have h1 : litTk (hdT []) = none := rfl
    have h2 : isNm (hdT []).text = false := rfl
    unfold leafR
    rw [h1, h2]
    trivial
  | cons t r =>
    unfold leafR
    split
    · simp [Rs.Left]
    · split
      · simp [Rs.Left]
      · trivial
theorem mustR_left {x : List UInt8} {l : List Tk} (hx : x ≠ []) : (mustR x l).Left l.length := by
  unfold mustR
  split
  · next h => exact tail_lt (by rw [h]; exact hx)
  · trivial
theorem bind_nil {l : List Tk} (h : 1 ≤ (bindOf (hdT l).text).2) : (hdT l).text ≠ [] := by
  intro e
  rw [e] at h
  exact absurd h (by decide)
theorem open_nil {l : List Tk} (h : ¬ (openOf (hdT l).text = 0 ∧ (hdT l).text ≠ [40])) : (hdT l).text ≠ [] := by
  intro e
  rw [e] at h
  exact h ⟨by decide, by decide⟩

/-- The reader comes to an end. -/
theorem total (N : Nat) : ∀ l : List Tk, l.length ≤ N →
    (∀ d, ∃ f r, operF f d l = some r ∧ r.Left l.length) ∧
    (∀ d, ∃ f r, brkF f d l = some r ∧ r.Left l.length) ∧
    (∀ n d, 1 ≤ n → ∃ f r, rowF f n d l = some r ∧ r.Left l.length) ∧
    (∀ n m d x, 1 ≤ n → ∃ f r, loopF f n m d x l = some r ∧ r.Left (l.length + 1)) := by
  induction N with
  | zero =>
    intro l hl
    obtain rfl : l = [] := List.eq_nil_of_length_eq_zero (by omega)
    have ho : ∀ d, operF 1 d [] = some (.bad 4 0) := fun d => by rw [operF, if_pos ⟨by decide, by decide⟩]; rfl
    refine ⟨fun d => ⟨1, _, ho d, trivial⟩, fun d => ⟨1, .bad 4 0, by rw [brkF]; rfl, trivial⟩, fun n d _ => ⟨2, .bad 4 0, ?_, trivial⟩, fun n m d x hn => ⟨1, .ok x [], ?_, by simp [Rs.Left]⟩⟩
    · rw [rowF, ho]
    · rw [loopF, if_pos (.inl (by show 0 < n; omega))]
  | succ N ih =>
    intro l hl
    have hB : ∀ d, ∃ f r, brkF f d l = some r ∧ r.Left l.length := by
      intro d
      have hm := mustR_left (x := [40]) (l := l) (by decide)
      cases h1 : mustR [40] l with
      | bad e p => exact ⟨1, .bad e p, by rw [brkF, h1], trivial⟩
      | ok u r =>
        rw [h1] at hm
        have hm : r.length < l.length := hm
        obtain ⟨f, y, hy, hl2⟩ := (ih r (by omega)).2.2.1 1 (d + 1) (Nat.le_refl _)
        cases y with
        | bad e p => exact ⟨f + 1, .bad e p, by rw [brkF, h1]; dsimp only; rw [hy], trivial⟩
        | ok y r2 =>
          have hl2 : r2.length < r.length := hl2
          have hm2 := mustR_left (x := [41]) (l := r2) (by decide)
          cases h2 : mustR [41] r2 with
          | bad e p => exact ⟨f + 1, .bad e p, by rw [brkF, h1]; dsimp only; rw [hy]; dsimp only; rw [h2], trivial⟩
          | ok u r3 =>
            rw [h2] at hm2
            have hm2 : r3.length < r2.length := hm2
            exact ⟨f + 1, .ok y r3, by rw [brkF, h1]; dsimp only; rw [hy]; dsimp only; rw [h2], by show r3.length < _; omega⟩
    have hO : ∀ d, ∃ f r, operF f d l = some r ∧ r.Left l.length := by
      intro d
      by_cases c1 : openOf (hdT l).text = 0 ∧ (hdT l).text ≠ [40]
      · exact ⟨1, leafR l, by rw [operF, if_pos c1], leafR_left l⟩
      · have ht := tail_lt (open_nil c1)
        by_cases c2 : 32 ≤ d
        · exact ⟨1, .bad 160 (hdT l).place, by rw [operF, if_neg c1, if_pos c2], trivial⟩
        · by_cases c3 : openOf (hdT l).text = 16 ∨ openOf (hdT l).text = 17
          · obtain ⟨f, y, hy, hl2⟩ := (ih l.tail (by omega)).1 (d + 1)
            cases y with
            | bad e p => exact ⟨f + 1, .bad e p, by rw [operF, if_neg c1, if_neg c2, if_pos c3, hy], trivial⟩
            | ok y r2 => exact ⟨f + 1, _, by rw [operF, if_neg c1, if_neg c2, if_pos c3, hy], nodeR_left (by have : r2.length < l.tail.length := hl2; omega)⟩
          · by_cases c4 : openOf (hdT l).text = 0
            · obtain ⟨f, y, hy, hl2⟩ := hB d
              exact ⟨f + 1, y, by rw [operF, if_neg c1, if_neg c2, if_neg c3, if_pos c4, hy], hl2⟩
            · obtain ⟨f, y, hy, hl2⟩ := (ih l.tail (by omega)).2.1 d
              cases y with
              | bad e p => exact ⟨f + 1, .bad e p, by rw [operF, if_neg c1, if_neg c2, if_neg c3, if_neg c4, hy], trivial⟩
              | ok y r2 => exact ⟨f + 1, _, by rw [operF, if_neg c1, if_neg c2, if_neg c3, if_neg c4, hy], nodeR_left (by have : r2.length < l.tail.length := hl2; omega)⟩
    refine ⟨hO, hB, fun n d hn => ?_, fun n m d x hn => ?_⟩
    · obtain ⟨f, y, hy, hl2⟩ := hO d
      cases y with
      | bad e p => exact ⟨f + 1, .bad e p, by rw [rowF, hy], trivial⟩
      | ok y r2 =>
        have hl2 : r2.length < l.length := hl2
        obtain ⟨f2, z, hz, hl3⟩ := (ih r2 (by omega)).2.2.2 n 5 d y hn
        refine ⟨max f f2 + 1, z, ?_, ?_⟩
        · rw [rowF, operF_le hy (by omega)]
          exact loopF_le hz (by omega)
        · cases z with
          | bad e p => trivial
          | ok z r3 => show r3.length < _; have : r3.length < r2.length + 1 := hl3; omega
    · by_cases c1 : (bindOf (hdT l).text).2 < n ∨ m < (bindOf (hdT l).text).2
      · exact ⟨1, .ok x l, by rw [loopF, if_pos c1], by simp [Rs.Left]⟩
      · have ht := tail_lt (bind_nil (l := l) (by omega))
        obtain ⟨f, y, hy, hl2⟩ := (ih l.tail (by omega)).2.2.1 ((bindOf (hdT l).text).2 + 1) d (by omega)
        cases y with
        | bad e p => exact ⟨f + 1, .bad e p, by rw [loopF, if_neg c1, hy], trivial⟩
        | ok y r2 =>
          have hl2 : r2.length < l.tail.length := hl2
          cases hn2 : nodeR (hdT l).place (bindOf (hdT l).text).1 [x, y] r2 with
          | bad e p => exact ⟨f + 1, .bad e p, by rw [loopF, if_neg c1, hy]; dsimp only; rw [hn2], trivial⟩
          | ok z r3 =>
            have h3 : r3 = r2 := by
              unfold nodeR at hn2
              split at hn2
              · cases hn2
              · cases hn2; rfl
            subst h3
            obtain ⟨f2, u, hu, hl4⟩ := (ih r3 (by omega)).2.2.2 n (mostOf (bindOf (hdT l).text).2) d z hn
            refine ⟨max f f2 + 1, u, ?_, ?_⟩
            · rw [loopF, if_neg c1, rowF_le hy (show f ≤ max f f2 by omega)]
              dsimp only
              rw [hn2]
              exact loopF_le hu (by omega)
            · cases u with
              | bad e p => trivial
              | ok u r5 => show r5.length < _; have : r5.length < r3.length + 1 := hl4; omega

theorem row_one {f g n d l r s} (h : rowF f n d l = some r) (k : rowF g n d l = some s) : r = s := by
  have h1 := rowF_le h (show f ≤ max f g by omega)
  have h2 := rowF_le k (show g ≤ max f g by omega)
  rw [h1] at h2
  exact Option.some.inj h2
mutual
/-- An expression of a rule of the document (0: or .. 4: product; above: unary). -/
def ruleF : Nat → Nat → Nat → List Tk → Option (Rs Ex)
  | 0, _, _, _ => none
  | f + 1, n, d, l => if 4 < n then unF f d l else match ruleF f (n + 1) d l with
    | none => none
    | some (.bad e p) => some (.bad e p)
    | some (.ok x r) => lpF f n d x r
def lpF : Nat → Nat → Nat → Ex → List Tk → Option (Rs Ex)
  | 0, _, _, _, _ => none
  | f + 1, n, d, x, l =>
    if (bindOf (hdT l).text).2 ≠ n + 1 then some (.ok x l)
    else match ruleF f (n + 1) d l.tail with
      | none => none
      | some (.bad e p) => some (.bad e p)
      | some (.ok y r) => match nodeR (hdT l).place (bindOf (hdT l).text).1 [x, y] r with
        | .bad e p => some (.bad e p)
        | .ok z r => if n = 2 then some (.ok z r) else lpF f n d z r
def unF : Nat → Nat → List Tk → Option (Rs Ex)
  | 0, _, _ => none
  | f + 1, d, l =>
    if openOf (hdT l).text = 0 ∧ (hdT l).text ≠ [40] then some (leafR l)
    else if 32 ≤ d then some (.bad 160 (hdT l).place)
    else if openOf (hdT l).text = 16 ∨ openOf (hdT l).text = 17 then
      match unF f (d + 1) l.tail with
      | none => none
      | some (.bad e p) => some (.bad e p)
      | some (.ok y r) => some (nodeR (hdT l).place (openOf (hdT l).text) [y] r)
    else if openOf (hdT l).text = 0 then bkF f d l
    else match bkF f d l.tail with
      | none => none
      | some (.bad e p) => some (.bad e p)
      | some (.ok y r) => some (nodeR (hdT l).place (openOf (hdT l).text) [y] r)
def bkF : Nat → Nat → List Tk → Option (Rs Ex)
  | 0, _, _ => none
  | f + 1, d, l => match mustR [40] l with
    | .bad e p => some (.bad e p)
    | .ok _ r => match ruleF f 0 (d + 1) r with
      | none => none
      | some (.bad e p) => some (.bad e p)
      | some (.ok y r) => match mustR [41] r with
        | .bad e p => some (.bad e p)
        | .ok _ r => some (.ok y r)
end

theorem more2 (f : Nat) :
    (∀ n d l r, ruleF f n d l = some r → ruleF (f + 1) n d l = some r) ∧
    (∀ n d x l r, lpF f n d x l = some r → lpF (f + 1) n d x l = some r) ∧
    (∀ d l r, unF f d l = some r → unF (f + 1) d l = some r) ∧
    (∀ d l r, bkF f d l = some r → bkF (f + 1) d l = some r) := by
  induction f with
  | zero => exact ⟨fun n d l r h => by simp [ruleF] at h, fun n d x l r h => by simp [lpF] at h, fun d l r h => by simp [unF] at h, fun d l r h => by simp [bkF] at h⟩
  | succ f ih =>
    obtain ⟨ih1, ih2, ih3, ih4⟩ := ih
    refine ⟨fun n d l r h => ?_, fun n d x l r h => ?_, fun d l r h => ?_, fun d l r h => ?_⟩
    · rw [ruleF] at h ⊢
      split at h
      · next hc => rw [if_pos hc]; exact ih3 _ _ _ h
      · next hc =>
        rw [if_neg hc]
        cases hc : ruleF f (n + 1) d l with
        | none => rw [hc] at h; cases h
        | some y =>
          rw [hc] at h
          rw [ih1 _ _ _ y hc]
          cases y with
          | bad e p => exact h
          | ok y r' => exact ih2 _ _ _ _ _ h
    · rw [lpF] at h ⊢
      split at h
      · next hc => rw [if_pos hc]; exact h
      · next hc =>
        rw [if_neg hc]
        cases hc : ruleF f (n + 1) d l.tail with
        | none => rw [hc] at h; cases h
        | some y =>
          rw [hc] at h
          rw [ih1 _ _ _ y hc]
          cases y with
          | bad e p => exact h
          | ok y r' =>
            dsimp only at h ⊢
            cases hn : nodeR (hdT l).place (bindOf (hdT l).text).1 [x, y] r' with
            | bad e p => rw [hn] at h; exact h
            | ok z r'' =>
              rw [hn] at h
              dsimp only at h ⊢
              split at h
              · next hc => rw [if_pos hc]; exact h
              · next hc => rw [if_neg hc]; exact ih2 _ _ _ _ _ h
    · rw [unF] at h ⊢
      split at h
      · next hc => rw [if_pos hc]; exact h
      · next hc =>
        rw [if_neg hc]
        split at h
        · next hc => rw [if_pos hc]; exact h
        · next hc =>
          rw [if_neg hc]
          split at h
          · next hc =>
            rw [if_pos hc]
            cases hc : unF f (d + 1) l.tail with
            | none => rw [hc] at h; cases h
            | some y => rw [hc] at h; rw [ih3 _ _ y hc]; exact h
          · next hc =>
            rw [if_neg hc]
            split at h
            · next hc => rw [if_pos hc]; exact ih4 _ _ _ h
            · next hc =>
              rw [if_neg hc]
              cases hc : bkF f d l.tail with
              | none => rw [hc] at h; cases h
              | some y => rw [hc] at h; rw [ih4 _ _ y hc]; exact h
    · rw [bkF] at h ⊢
      cases hm : mustR [40] l with
      | bad e p => rw [hm] at h; exact h
      | ok u r' =>
        rw [hm] at h
        dsimp only at h ⊢
        cases hc : ruleF f 0 (d + 1) r' with
        | none => rw [hc] at h; cases h
        | some y => rw [hc] at h; rw [ih1 _ _ _ y hc]; exact h
theorem ruleF_le {f g n d l r} (h : ruleF f n d l = some r) (hfg : f ≤ g) : ruleF g n d l = some r := by
  induction hfg with
  | refl => exact h
  | step _ ih => exact (more2 _).1 _ _ _ _ ih
theorem lpF_le {f g n d x l r} (h : lpF f n d x l = some r) (hfg : f ≤ g) : lpF g n d x l = some r := by
  induction hfg with
  | refl => exact h
  | step _ ih => exact (more2 _).2.1 _ _ _ _ _ ih

def RU (n d : Nat) (l : List Tk) (r : Rs Ex) : Prop := ∃ f, ruleF f n d l = some r
def LP (n d : Nat) (x : Ex) (l : List Tk) (r : Rs Ex) : Prop := ∃ f, lpF f n d x l = some r
theorem RU.of {n d : Nat} {l : List Tk} {r1 r : Rs Ex} (hn : n ≤ 4) (h : RU (n + 1) d l r1) (k : match r1 with | .bad e p => r = .bad e p | .ok y k => LP n d y k r) : RU n d l r := by
  obtain ⟨f, h⟩ := h
  cases r1 with
  | bad e p =>
    cases k
    exact ⟨f + 1, by rw [ruleF, if_neg (by omega), h]⟩
  | ok y k' =>
    obtain ⟨g, k⟩ := k
    refine ⟨max f g + 1, ?_⟩
    rw [ruleF, if_neg (by omega), ruleF_le h (by omega)]
    exact lpF_le k (by omega)
theorem LP.step {n d : Nat} {x : Ex} {l : List Tk} {r1 r : Rs Ex} (ht : (bindOf (hdT l).text).2 = n + 1) (h : RU (n + 1) d l.tail r1)
    (k : match r1 with
      | .bad e p => r = .bad e p
      | .ok y k => match nodeR (hdT l).place (bindOf (hdT l).text).1 [x, y] k with
        | .bad e p => r = .bad e p
        | .ok z k => if n = 2 then r = .ok z k else LP n d z k r) : LP n d x l r := by
  obtain ⟨f, h⟩ := h
  cases r1 with
  | bad e p =>
    cases k
    exact ⟨f + 1, by rw [lpF, if_neg (by omega), h]⟩
  | ok y k' =>
    dsimp only at k
    cases hn : nodeR (hdT l).place (bindOf (hdT l).text).1 [x, y] k' with
    | bad e p =>
      rw [hn] at k
      cases k
      exact ⟨f + 1, by rw [lpF, if_neg (by omega), h]; dsimp only; rw [hn]⟩
    | ok z k2 =>
      rw [hn] at k
      dsimp only at k
      split at k
      · next h2 =>
        cases k
        exact ⟨f + 1, by rw [lpF, if_neg (by omega), h]; dsimp only; rw [hn]; dsimp only; rw [if_pos h2]⟩
      · next h2 =>
        obtain ⟨g, k⟩ := k
        refine ⟨max f g + 1, ?_⟩
        rw [lpF, if_neg (by omega), ruleF_le h (show f ≤ max f g by omega)]
        dsimp only
        rw [hn]
        dsimp only
        rw [if_neg h2]
        exact lpF_le k (by omega)
theorem bind_le (x : List UInt8) : (bindOf x).2 ≤ 5 := by
  have go : ∀ (c : Prop) [Decidable c] (a b : Nat × Nat), a.2 ≤ 5 → b.2 ≤ 5 → (if c then a else b).2 ≤ 5 := fun c _ a b h1 h2 => by
    by_cases h : c
    · rw [if_pos h]; exact h1
    · rw [if_neg h]; exact h2
  unfold bindOf
  repeat' (first | exact (by decide : (5 : Nat) ≤ 5) | apply go)
  all_goals exact Nat.le_of_ble_eq_true rfl

end Go.Proofs.YtjgggmjjikopeaaGreatDoor

/- What a sign or a word does. -/
namespace Go.Proofs.YtjgggmjjikopeaaGreatDoor
open Go.RowKit
set_option linter.unusedVariables false

theorem ne_bytes {s : ByteArray} {l : List UInt8} (h : ¬ bytes s = l) : (s.toList == l) = false := by rw [toList_bytes, beq_eq_false_iff_ne]; exact h
set_option maxRecDepth 100000 in
set_option maxHeartbeats 3200000 in
theorem binds_any (s : ByteArray) (w : World) : Calls Tryz.prog 108 #[.string s] w fun r w' => r = .returned (.tuple #[.int .u8 ((bindOf (bytes s)).1 : Int), .int .i64 ((bindOf (bytes s)).2 : Int)]) ∧ w' = w := by
  by_cases h0 : bytes s = [124, 124]
  · have hs : s = ⟨#[124, 124]⟩ := by rw [mk_bytes s, h0]
    clear h0
    subst hs
    go_enter Tryz.func108, Tryz.ntmps108
    go_wp2
    go_ret2
    exact ⟨rfl, rfl⟩
  have n0 := ne_bytes h0
  by_cases h1 : bytes s = [38, 38]
  · have hs : s = ⟨#[38, 38]⟩ := by rw [mk_bytes s, h1]
    clear n0 h0
    clear h1
    subst hs
    go_enter Tryz.func108, Tryz.ntmps108
    go_wp2
    go_ret2
    exact ⟨rfl, rfl⟩
  have n1 := ne_bytes h1
  by_cases h2 : bytes s = [61, 61]
  · have hs : s = ⟨#[61, 61]⟩ := by rw [mk_bytes s, h2]
    clear n0 h0
    clear n1 h1
    clear h2
    subst hs
    go_enter Tryz.func108, Tryz.ntmps108
    go_wp2
    go_ret2
    exact ⟨rfl, rfl⟩
  have n2 := ne_bytes h2
  by_cases h3 : bytes s = [33, 61]
  · have hs : s = ⟨#[33, 61]⟩ := by rw [mk_bytes s, h3]
    clear n0 h0
    clear n1 h1
    clear n2 h2
    clear h3
    subst hs
    go_enter Tryz.func108, Tryz.ntmps108
    go_wp2
    go_ret2
    exact ⟨rfl, rfl⟩
  have n3 := ne_bytes h3
  by_cases h4 : bytes s = [60]
  · have hs : s = ⟨#[60]⟩ := by rw [mk_bytes s, h4]
    clear n0 h0
    clear n1 h1
    clear n2 h2
    clear n3 h3
    clear h4
    subst hs
    go_enter Tryz.func108, Tryz.ntmps108
    go_wp2
    go_ret2
    exact ⟨rfl, rfl⟩
  have n4 := ne_bytes h4
  by_cases h5 : bytes s = [60, 61]
  · have hs : s = ⟨#[60, 61]⟩ := by rw [mk_bytes s, h5]
    clear n0 h0
    clear n1 h1
    clear n2 h2
    clear n3 h3
    clear n4 h4
    clear h5
    subst hs
    go_enter Tryz.func108, Tryz.ntmps108
    go_wp2
    go_ret2
    exact ⟨rfl, rfl⟩
  have n5 := ne_bytes h5
  by_cases h6 : bytes s = [62]
  · have hs : s = ⟨#[62]⟩ := by rw [mk_bytes s, h6]
    clear n0 h0
    clear n1 h1
    clear n2 h2
    clear n3 h3
    clear n4 h4
    clear n5 h5
    clear h6
    subst hs
    go_enter Tryz.func108, Tryz.ntmps108
    go_wp2
    go_ret2
    exact ⟨rfl, rfl⟩
  have n6 := ne_bytes h6
  by_cases h7 : bytes s = [62, 61]
  · have hs : s = ⟨#[62, 61]⟩ := by rw [mk_bytes s, h7]
    clear n0 h0
    clear n1 h1
    clear n2 h2
    clear n3 h3
    clear n4 h4
    clear n5 h5
    clear n6 h6
    clear h7
    subst hs
    go_enter Tryz.func108, Tryz.ntmps108
    go_wp2
    go_ret2
    exact ⟨rfl, rfl⟩
  have n7 := ne_bytes h7
  by_cases h8 : bytes s = [43]
  · have hs : s = ⟨#[43]⟩ := by rw [mk_bytes s, h8]
    clear n0 h0
    clear n1 h1
    clear n2 h2
    clear n3 h3
    clear n4 h4
    clear n5 h5
    clear n6 h6
    clear n7 h7
    clear h8
    subst hs
    go_enter Tryz.func108, Tryz.ntmps108
    go_wp2
    go_ret2
    exact ⟨rfl, rfl⟩
  have n8 := ne_bytes h8
  by_cases h9 : bytes s = [45]
  · have hs : s = ⟨#[45]⟩ := by rw [mk_bytes s, h9]
    clear n0 h0
    clear n1 h1
    clear n2 h2
    clear n3 h3
    clear n4 h4
    clear n5 h5
    clear n6 h6
    clear n7 h7
    clear n8 h8
    clear h9
    subst hs
    go_enter Tryz.func108, Tryz.ntmps108
    go_wp2
    go_ret2
    exact ⟨rfl, rfl⟩
  have n9 := ne_bytes h9
  by_cases h10 : bytes s = [42]
  · have hs : s = ⟨#[42]⟩ := by rw [mk_bytes s, h10]
    clear n0 h0
    clear n1 h1
    clear n2 h2
    clear n3 h3
    clear n4 h4
    clear n5 h5
    clear n6 h6
    clear n7 h7
    clear n8 h8
    clear n9 h9
    clear h10
    subst hs
    go_enter Tryz.func108, Tryz.ntmps108
    go_wp2
    go_ret2
    exact ⟨rfl, rfl⟩
  have n10 := ne_bytes h10
  by_cases h11 : bytes s = [47]
  · have hs : s = ⟨#[47]⟩ := by rw [mk_bytes s, h11]
    clear n0 h0
    clear n1 h1
    clear n2 h2
    clear n3 h3
    clear n4 h4
    clear n5 h5
    clear n6 h6
    clear n7 h7
    clear n8 h8
    clear n9 h9
    clear n10 h10
    clear h11
    subst hs
    go_enter Tryz.func108, Tryz.ntmps108
    go_wp2
    go_ret2
    exact ⟨rfl, rfl⟩
  have n11 := ne_bytes h11
  by_cases h12 : bytes s = [37]
  · have hs : s = ⟨#[37]⟩ := by rw [mk_bytes s, h12]
    clear n0 h0
    clear n1 h1
    clear n2 h2
    clear n3 h3
    clear n4 h4
    clear n5 h5
    clear n6 h6
    clear n7 h7
    clear n8 h8
    clear n9 h9
    clear n10 h10
    clear n11 h11
    clear h12
    subst hs
    go_enter Tryz.func108, Tryz.ntmps108
    go_wp2
    go_ret2
    exact ⟨rfl, rfl⟩
  have n12 := ne_bytes h12
  have e : bindOf (bytes s) = (0, 0) := by unfold bindOf; rw [if_neg h0, if_neg h1, if_neg h2, if_neg h3, if_neg h4, if_neg h5, if_neg h6, if_neg h7, if_neg h8, if_neg h9, if_neg h10, if_neg h11, if_neg h12]
  rw [e]
  clear h0 h1 h2 h3 h4 h5 h6 h7 h8 h9 h10 h11 h12 e
  go_enter Tryz.func108, Tryz.ntmps108
  go_wp2
  go_ret2
  exact ⟨rfl, rfl⟩

set_option maxRecDepth 100000 in
set_option maxHeartbeats 3200000 in
theorem opens_any (s : ByteArray) (w : World) : Calls Tryz.prog 139 #[.string s] w fun r w' => r = .returned (.int .u8 (openOf (bytes s) : Int)) ∧ w' = w := by
  by_cases h0 : bytes s = [45]
  · have hs : s = ⟨#[45]⟩ := by rw [mk_bytes s, h0]
    clear h0
    subst hs
    go_enter Tryz.func139, Tryz.ntmps139
    go_wp2
    go_ret
    exact ⟨rfl, rfl⟩
  have n0 := ne_bytes h0
  by_cases h1 : bytes s = [33]
  · have hs : s = ⟨#[33]⟩ := by rw [mk_bytes s, h1]
    clear n0 h0
    clear h1
    subst hs
    go_enter Tryz.func139, Tryz.ntmps139
    go_wp2
    go_ret
    exact ⟨rfl, rfl⟩
  have n1 := ne_bytes h1
  by_cases h2 : bytes s = [105, 110, 116]
  · have hs : s = ⟨#[105, 110, 116]⟩ := by rw [mk_bytes s, h2]
    clear n0 h0
    clear n1 h1
    clear h2
    subst hs
    go_enter Tryz.func139, Tryz.ntmps139
    go_wp2
    go_ret
    exact ⟨rfl, rfl⟩
  have n2 := ne_bytes h2
  by_cases h3 : bytes s = [114, 101, 97, 108]
  · have hs : s = ⟨#[114, 101, 97, 108]⟩ := by rw [mk_bytes s, h3]
    clear n0 h0
    clear n1 h1
    clear n2 h2
    clear h3
    subst hs
    go_enter Tryz.func139, Tryz.ntmps139
    go_wp2
    go_ret
    exact ⟨rfl, rfl⟩
  have n3 := ne_bytes h3
  have e : openOf (bytes s) = 0 := by unfold openOf; rw [if_neg h0, if_neg h1, if_neg h2, if_neg h3]
  rw [e]
  clear h0 h1 h2 h3 e
  go_enter Tryz.func139, Tryz.ntmps139
  go_wp2
  go_ret
  exact ⟨rfl, rfl⟩

end Go.Proofs.YtjgggmjjikopeaaGreatDoor

/- What strconv.ParseInt answers at digits. -/
namespace Go.Proofs.YtjgggmjjikopeaaGreatDoor

/-- Digits alone. -/
def allDg (l : List UInt8) : Prop := ∀ c ∈ l, 48 ≤ c.toNat ∧ c.toNat ≤ 57

/-- A digit more. -/
def dstep (n : Nat) (c : UInt8) : Nat := n * 10 + (c.toNat - 48)

/-- Digits read on from a number. -/
def fo (acc : Nat) (l : List UInt8) : Nat := l.foldl dstep acc

theorem fo_nil (acc : Nat) : fo acc [] = acc := rfl
theorem fo_cons (acc : Nat) (c : UInt8) (r : List UInt8) : fo acc (c :: r) = fo (dstep acc c) r := List.foldl_cons ..
theorem fo_val (l : List UInt8) : fo 0 l = decVal l := rfl

theorem fo_ge (l : List UInt8) : ∀ acc : Nat, acc ≤ fo acc l := by
  induction l with
  | nil => intro acc; exact Nat.le_refl _
  | cons c r ih => intro acc; rw [fo_cons]; exact Nat.le_trans (by unfold dstep; omega) (ih (dstep acc c))

theorem um_nil (M acc : Nat) : Lib.parseUintM M acc [] = .ok acc := by simp only [Lib.parseUintM]
theorem um_cons (M acc : Nat) (c : UInt8) (r : List UInt8) (hc : 48 ≤ c.toNat ∧ c.toNat ≤ 57) : Lib.parseUintM M acc (c :: r) = if 1844674407370955162 ≤ acc then .range else if M < dstep acc c then .range else Lib.parseUintM M (dstep acc c) r := by
  have hd : dstep acc c = acc * 10 + (c.toNat - 48) := rfl
  rw [hd]
  simp only [Lib.parseUintM, hc.1, hc.2, and_self, if_true]

theorem uint_digits (M : Nat) (hM : 9 + 1844674407370955161 * 10 ≥ M) (l : List UInt8) (h : allDg l) : ∀ acc : Nat, acc ≤ M →
    (fo acc l ≤ M ∧ Lib.parseUintM M acc l = .ok (fo acc l)) ∨ (M < fo acc l ∧ Lib.parseUintM M acc l = .range) := by
  induction l with
  | nil => intro acc ha; left; rw [fo_nil, um_nil]; exact ⟨ha, rfl⟩
  | cons c r ih =>
    intro acc ha
    have hc := h c List.mem_cons_self
    have hr : allDg r := fun d hd => h d (List.mem_cons_of_mem _ hd)
    have hge := fo_ge r (dstep acc c)
    have hds : dstep acc c = acc * 10 + (c.toNat - 48) := rfl
    rw [um_cons M acc c r hc, fo_cons]
    by_cases h1 : 1844674407370955162 ≤ acc
    · rw [if_pos h1]; right; exact ⟨by omega, rfl⟩
    · rw [if_neg h1]
      by_cases h2 : M < dstep acc c
      · rw [if_pos h2]; right; exact ⟨by omega, rfl⟩
      · rw [if_neg h2]; exact ih hr _ (by omega)

theorem int_digits (l : List UInt8) (h : allDg l) (hp : 0 < l.length) :
    Lib.parseIntB 64 l = if decVal l ≤ 9223372036854775807 then .ok (decVal l : Int) else .range := by
  match l, hp with
  | c :: r, _ =>
    have hc := h c List.mem_cons_self
    have h43 : ¬ (c.toNat = 43 ∨ c.toNat = 45) := by omega
    have h45 : ¬ c.toNat = 45 := by omega
    obtain ⟨M, hM⟩ : ∃ M : Nat, M = 18446744073709551615 := ⟨_, rfl⟩
    have hu := uint_digits M (by omega) (c :: r) h 0 (by omega)
    have hv : fo 0 (c :: r) = decVal (c :: r) := fo_val _
    rw [hv] at hu
    simp only [Lib.parseIntB, Lib.parseUintB, if_neg h43, show (2 ^ 64 - 1 : Nat) = M from hM.symm, reduceCtorEq, if_false]
    generalize decVal (c :: r) = V at hu ⊢
    rcases hu with ⟨h1, hu⟩ | ⟨h1, hu⟩
    · rw [hu]
      simp only [h45, not_false_eq_true, true_and, false_and, if_false, show (2 ^ (64 - 1) : Nat) = 9223372036854775808 from rfl]
      by_cases h2 : V ≤ 9223372036854775807
      · rw [if_pos h2, if_neg (by omega)]
      · rw [if_neg h2, if_pos (by omega)]
    · rw [hu, if_neg (by omega)]

/-- Digits may be a number, if no nought is ahead and they are not too many. -/
theorem good_iff (l : List UInt8) (h : allDg l) (hp : 0 < l.length) : GoodDec l ↔ ((l.getD 0 0).toNat = 48 → l.length = 1) ∧ decVal l ≤ 9223372036854775807 := by
  constructor
  · intro g; exact ⟨g.2.1, g.2.2.2⟩
  · rintro ⟨h1, h2⟩
    refine ⟨hp, h1, ?_, h2⟩
    intro j hj
    have : l.getD j 0 ∈ l := by simp [List.getD, List.getElem?_eq_getElem hj]
    exact h _ this

theorem nm_take (r : List UInt8) (h : (nmN r).1 = 2) : allDg (r.take (nmN r).2) := by
  induction r with
  | nil => intro c hc; simp [nmN] at hc
  | cons d q ih =>
    simp only [nmN] at h ⊢
    split at h
    · simp at h
    · next h0 =>
      rw [if_neg h0]
      split at h
      · next hd =>
        rw [if_pos hd]
        intro c hc
        simp only [List.take_succ_cons] at hc
        rcases List.mem_cons.1 hc with rfl | hc
        · simpa [isDig] using hd
        · exact ih h c hc
      · next hd => rw [if_neg hd]; intro c hc; simp at hc

/-- A number's bytes are digits. -/
theorem end_digits (l : List UInt8) (h : (endOf l).1 = 2) : allDg (l.take (endOf l).2) := by
  match l with
  | [] => intro c hc; simp at hc
  | d :: r =>
    simp only [endOf] at h ⊢
    split at h
    · simp at h
    · next h0 =>
      rw [if_neg h0]
      split at h
      · next hd =>
        rw [if_pos hd]
        intro c hc
        simp only [List.take_succ_cons] at hc
        rcases List.mem_cons.1 hc with rfl | hc
        · simpa [isDig] using hd
        · exact nm_take r h c hc
      · simp at h

end Go.Proofs.YtjgggmjjikopeaaGreatDoor

/- lex.number, lex.point, lex.clings, strings.Clone. -/
namespace Go.Proofs.YtjgggmjjikopeaaGreatDoor
open Go.RowKit
set_option linter.unusedVariables false

/-- The library's error is laid. -/
def ErrR (w : World) : Prop := ∃ ev, w.cell? ⟨2, 0, none⟩ = some ev ∧ (ev = .nilIface ∨ ∃ te pe, ev = .iface te pe)

theorem ErrR.below {w w' : World} (h : ErrR w) (hb : Below w.heap.size w w') : ErrR w' := by
  obtain ⟨ev, h1, h2⟩ := h
  exact ⟨ev, by rw [hb.cell (lt_of_cell h1)]; exact h1, h2⟩

theorem results_at_tmp {P : Program} {fn : Func} {p u : Tmp} {ty : TypeId} (h : fn.results = #[.cell p ty, .tmp u]) (tmps : Array Value) (w : World) (g : Nat) (t : TypeId) (cs : List Value) (d : TypeDesc)
    (hp : tmps.getD p undef = .pointer (some ⟨g, 0, none⟩)) (hg : At t w g cs)
    (hu : P.underlying ty = some d) (hd : (match d with | .struct _ | .array _ _ => true | _ => false) = true) (hi : (P.info? ty).map (·.size) = some cs.length) :
    (results fn tmps).run P w = .ok (.tuple #[.agg cs.toArray, tmps.getD u undef]) w := by
  have hp' : tmps[p]?.getD undef = .pointer (some ⟨g, 0, none⟩) := by simpa using hp
  have hl := run_loadVar_row (P := P) w g t ty cs.toArray (0, 0) d hg hu hd (by simpa using hi)
  simp [results, h, hp', asAddr, hl]

theorem results_tmp_at {P : Program} {fn : Func} {p u : Tmp} {ty : TypeId} (h : fn.results = #[.tmp u, .cell p ty]) (tmps : Array Value) (w : World) (g : Nat) (t : TypeId) (cs : List Value) (d : TypeDesc)
    (hp : tmps.getD p undef = .pointer (some ⟨g, 0, none⟩)) (hg : At t w g cs)
    (hu : P.underlying ty = some d) (hd : (match d with | .struct _ | .array _ _ => true | _ => false) = true) (hi : (P.info? ty).map (·.size) = some cs.length) :
    (results fn tmps).run P w = .ok (.tuple #[tmps.getD u undef, .agg cs.toArray]) w := by
  have hp' : tmps[p]?.getD undef = .pointer (some ⟨g, 0, none⟩) := by simpa using hp
  have hl := run_loadVar_row (P := P) w g t ty cs.toArray (0, 0) d hg hu hd (by simpa using hi)
  simp [results, h, hp', asAddr, hl]

/-- A value's two cells. -/
def val2 (t b : Nat) : List Value := [.int .u8 (t : Int), .int .u64 (b : Int)]
theorem z32 : (Tryz.prog.info? 40).map (fun i => (i.zero, i.size)) = some (some (.agg (val2 0 0).toArray), 2) := by kernel_rfl
theorem i32 : (Tryz.prog.info? 40).map (·.size) = some 2 := by kernel_rfl
theorem one2 (t b : Nat) : ∀ v ∈ val2 t b, v.oneCell' = true := by intro v hv; simp [val2] at hv; rcases hv with rfl | rfl <;> rfl

theorem clone_any (s : ByteArray) (w : World) (hlim : s.size ≤ 1099511627776) : Calls Tryz.prog 87 #[.string s] w fun e w' => e = .returned (.string s) ∧ Below w.heap.size w w' := by
  go_enter Tryz.func87, Tryz.ntmps87
  go_wp2_with fail
  refine (Tryz.stringslite_Clone s _ (by omega)).mono ?_
  rintro e w1 ⟨rfl, hb⟩
  go_wp2
  go_ret
  exact ⟨rfl, hb⟩

theorem clings_any (K : Nat) (s : ByteArray) (w : World) : Calls Tryz.prog 53 #[.int .i64 (K : Int), .string s] w fun e w' => e = .returned (.bool (clB K (bytes s))) ∧ w' = w := by
  by_cases h0 : s.size = 0
  · have he := is_empty h0
    have hn : bytes s = [] := List.eq_nil_of_length_eq_zero (by rw [bytes_length]; exact h0)
    rw [hn, clB, Bool.and_false]
    go_enter Tryz.func53, Tryz.ntmps53
    go_wp2
    go_ret
    exact ⟨rfl, rfl⟩
  · have hp : 0 < s.size := by omega
    have he := not_empty hp
    have hd := drop_at s 0 hp
    rw [List.drop_zero] at hd
    rw [hd, clB]
    by_cases hK : K = 2 ∨ K = 3
    · have hKb : (decide (K = 2) || decide (K = 3)) = true := by simpa using hK
      rw [hKb, Bool.true_and]
      have hK' : (K : Int) = 2 ∨ (K : Int) = 3 := by omega
      cases hl : isLet s[0].toNat
      · rcases hK' with h | h
        all_goals
          rw [h]
          go_enter Tryz.func53, Tryz.ntmps53
          go_wp2_with (first | (go_at_call 91; refine (isLetter_at _ _ false hl).mono ?_; rintro e w1 ⟨rfl, rfl⟩))
          go_ret
          refine ⟨?_, rfl⟩
          simp
          try (rw [Bool.eq_iff_iff]; simp)
          try omega
      · rcases hK' with h | h
        all_goals
          rw [h]
          go_enter Tryz.func53, Tryz.ntmps53
          go_wp2_with (first | (go_at_call 91; refine (isLetter_at _ _ true hl).mono ?_; rintro e w1 ⟨rfl, rfl⟩))
          go_ret
          exact ⟨rfl, rfl⟩
    · have hKb : (decide (K = 2) || decide (K = 3)) = false := by simpa using hK
      rw [hKb, Bool.false_and]
      have h2 : ((K : Int) != 2) = true := by simp; omega
      have h3 : ((K : Int) != 3) = true := by simp; omega
      go_enter Tryz.func53, Tryz.ntmps53
      go_wp2
      go_ret
      exact ⟨rfl, rfl⟩

end Go.Proofs.YtjgggmjjikopeaaGreatDoor

/- lex.number and lex.point: the value of digits. -/
namespace Go.Proofs.YtjgggmjjikopeaaGreatDoor
open Go.RowKit
set_option linter.unusedVariables false

/-- What number and point answer. -/
def ValPost (good : Prop) (t b : Nat) (e : Ending) : Prop :=
  (good ∧ e = .returned (.tuple #[.agg (val2 t b).toArray, .bool true])) ∨ (¬ good ∧ e = .returned (.tuple #[.agg (val2 0 0).toArray, .bool false]))

theorem bytesWorld_or {w w' : World} {t : TypeId} (h : w' = w ∨ ∃ x, w' = Lib.bytesWorld w t x) : Below w.heap.size w w' := by
  rcases h with rfl | ⟨x, rfl⟩
  · exact Below.refl _ _
  · exact Lib.bytesWorld_below _ _ _

set_option maxRecDepth 100000 in
set_option maxHeartbeats 800000 in
theorem lexNumber_any (S : ByteArray) (w : World) (hp : 0 < S.size) (hmax : S.size ≤ 1099511627776) (hd : allDg (bytes S)) (hE : ErrR w) :
    Calls Tryz.prog 88 #[.string S] w fun e w' => ValPost (GoodDec (bytes S)) 1 (decVal (bytes S)) e ∧ Below w.heap.size w w' := by
  have hgi := good_iff (bytes S) hd (by rw [bytes_length]; exact hp)
  have hint := int_digits (bytes S) hd (by rw [bytes_length]; exact hp)
  rw [bytes_length, bytes_at S 0 hp] at hgi
  obtain ⟨V, hV⟩ : ∃ V, Hid (V = decVal (bytes S)) := ⟨_, (rfl : decVal (bytes S) = _)⟩
  obtain ⟨c0, hc0⟩ : ∃ c0 : Nat, S[0].toNat = c0 := ⟨_, rfl⟩
  rw [← hV.out] at hgi hint ⊢
  rw [hc0] at hgi
  obtain ⟨G, hG⟩ : ∃ G, Hid (G = GoodDec (bytes S)) := ⟨_, (rfl : GoodDec (bytes S) = _)⟩
  rw [← hG.out] at hgi ⊢
  have HGI : Hid (G ↔ (c0 = 48 → S.size = 1) ∧ V ≤ 9223372036854775807) := hgi
  have HI : Hid (Lib.parseIntB 64 S.data.toList = if V ≤ 9223372036854775807 then .ok (V : Int) else .range) := hint
  clear hgi hint hd
  by_cases hz : c0 = 48 ∧ 1 < S.size
  · obtain ⟨h1, h2⟩ := hz
    have hno : ¬ G := fun g => by have := (HGI.out.1 g).1 h1; omega
    have hc' : (c0 : Int) = 48 := by omega
    go_enter Tryz.func88, Tryz.ntmps88
    go_wp2_with (first | ((with_reducible show wpList _ _ _ _ _ _); refine wpList_alloc_at rfl 40 rfl (val2 0 0) 2 z32 ?_; intro w1 hA1 hb1 hs1) | ((with_reducible show wpList _ _ _ _ _ _); refine wpList_build_at rfl 40 #[] rfl (val2 0 0) (by kernel_rfl) ?_) | ((with_reducible show wpList _ _ _ _ _ _); refine wpList_store_at (P := Tryz.prog) rfl 40 (.tmp 2) (.tmp 14) rfl w.heap.size (val2 0 0) rfl rfl 40 (val2 0 0) hA1 i32 rfl (one2 0 0) ?_; intro w9 hA9 hb9 hs9))
    refine bodyPost_ret (results_at_tmp rfl _ _ w.heap.size 40 (val2 0 0) _ rfl hA9 Tryz.underlying40 rfl i32) rfl ?_
    exact ⟨.inr ⟨hno, rfl⟩, hb9.below hb1 (Nat.le_refl _) (by omega)⟩
  · have hz' : ((c0 : Int) == 48) = true ∧ decide (1 < (S.size : Int)) = false ∨ ((c0 : Int) == 48) = false := by
      by_cases h : c0 = 48
      · left
        refine ⟨by rw [beq_iff_eq]; omega, ?_⟩
        simp; omega
      · right; rw [beq_eq_false_iff_ne]; omega
    have hone : c0 = 48 → S.size = 1 := fun h => by
      have : ¬ 1 < S.size := fun h2 => hz ⟨h, h2⟩
      omega
    clear hz
    by_cases hv : V ≤ 9223372036854775807
    · have hyes : G := HGI.out.2 ⟨hone, hv⟩
      have hok : Lib.parseIntB 64 S.data.toList = .ok (V : Int) := by rw [HI.out, if_pos hv]
      have hcall := fun w => Tryz.strconv_ParseInt_10_at64_ok S (by omega) (V : Int) hok w
      have HC : Hid (∀ w, Calls Tryz.prog 124 #[.string S, .int .i64 10, .int .i64 64] w fun e w' => e = .returned (.tuple #[.int .i64 (V : Int), .nilIface]) ∧ (w' = w ∨ ∃ t, w' = Lib.bytesWorld w 5 t)) := hcall
      clear hcall hok HI hone
      rcases hz' with ⟨hz1, hz2⟩ | hz1
      all_goals
        go_enter Tryz.func88, Tryz.ntmps88
        go_wp2_with (first | ((with_reducible show wpList _ _ _ _ _ _); refine wpList_alloc_at rfl 40 rfl (val2 0 0) 2 z32 ?_; intro w1 hA1 hb1 hs1))
        refine (HC.out _).mono ?_
        rintro e w2 ⟨rfl, hW⟩
        have hb2 := bytesWorld_or hW
        have hA2 := hA1.below hb2
        have hb12 := hb1.trans (hb2.mono (by omega))
        clear hW
        go_wp2_with (first | ((with_reducible show wpList _ _ _ _ _ _); refine wpList_build_at rfl 40 _ rfl (val2 1 V) (by kernel_rfl) ?_) | ((with_reducible show wpList _ _ _ _ _ _); refine wpList_store_at (P := Tryz.prog) rfl 40 (.tmp 2) (.tmp 25) rfl w.heap.size (val2 1 V) rfl rfl 40 (val2 0 0) hA2 i32 rfl (one2 1 V) ?_; intro w9 hA9 hb9 hs9))
        refine bodyPost_ret (results_at_tmp rfl _ _ w.heap.size 40 (val2 1 V) _ rfl hA9 Tryz.underlying40 rfl i32) rfl ?_
        exact ⟨.inl ⟨hyes, rfl⟩, hb9.below hb12 (Nat.le_refl _) hb12.size⟩
    · have hno : ¬ G := fun g => hv (HGI.out.1 g).2
      have hrg : Lib.parseIntB 64 S.data.toList = .range := by rw [HI.out, if_neg hv]
      obtain ⟨ev, hev1, hev2⟩ := hE
      have hcall := fun (w : World) hv => Tryz.strconv_ParseInt_10_at64_range S (by omega) hrg ev w hv hev2
      have HC : Hid (∀ w : World, w.cell? ⟨2, 0, none⟩ = some ev → Calls Tryz.prog 124 #[.string S, .int .i64 10, .int .i64 64] w fun e w' => ∃ n N, e = .returned (.tuple #[.int .i64 n, .iface 200 (.pointer (some ⟨N, 0, none⟩))]) ∧ Below w.heap.size w w') := by
        intro w hv
        refine (hcall w hv).mono ?_
        rintro e w' ⟨N, h1, _, _, h4⟩
        exact ⟨_, N, h1, h4⟩
      have HEV : Hid (w.cell? ⟨2, 0, none⟩ = some ev) := hev1
      clear hcall hrg HI hone hev1 hev2
      rcases hz' with ⟨hz1, hz2⟩ | hz1
      all_goals
        go_enter Tryz.func88, Tryz.ntmps88
        go_wp2_with (first | ((with_reducible show wpList _ _ _ _ _ _); refine wpList_alloc_at rfl 40 rfl (val2 0 0) 2 z32 ?_; intro w1 hA1 hb1 hs1))
        refine (HC.out _ (by rw [hb1.cell (lt_of_cell HEV.out)]; exact HEV.out)).mono ?_
        rintro e w2 ⟨n, N, rfl, hb2⟩
        have hA2 := hA1.below hb2
        have hb12 := hb1.trans (hb2.mono (by omega))
        go_wp2_with (first | ((with_reducible show wpList _ _ _ _ _ _); refine wpList_build_at rfl 40 #[] rfl (val2 0 0) (by kernel_rfl) ?_) | ((with_reducible show wpList _ _ _ _ _ _); refine wpList_store_at (P := Tryz.prog) rfl 40 (.tmp 2) (.tmp 22) rfl w.heap.size (val2 0 0) rfl rfl 40 (val2 0 0) hA2 i32 rfl (one2 0 0) ?_; intro w9 hA9 hb9 hs9))
        refine bodyPost_ret (results_at_tmp rfl _ _ w.heap.size 40 (val2 0 0) _ rfl hA9 Tryz.underlying40 rfl i32) rfl ?_
        exact ⟨.inr ⟨hno, rfl⟩, hb9.below hb12 (Nat.le_refl _) hb12.size⟩

theorem parse_str (S : ByteArray) (w : World) (hmax : S.size ≤ 1099511627775) :
    Calls Tryz.prog 125 #[.string S] w fun e w' => ParsePost (bytes S) e ∧ ∃ q, w' = w.drewN q := by
  have h := parse_any (bytes S) w (by rw [bytes_length]; exact hmax)
  rwa [← mk_bytes S] at h

set_option maxRecDepth 100000 in
set_option maxHeartbeats 800000 in
theorem point_any (S : ByteArray) (w : World) (hmax : S.size ≤ 1099511627775) :
    Calls Tryz.prog 89 #[.string S] w fun e w' => ValPost (IsLit (bytes S)) 3 (quo (litNum (bytes S)) (10 ^ (behindOf (bytes S)).length)) e ∧ Below w.heap.size w w' := by
  have hcall := fun w => parse_str S w hmax
  have hPP : ∀ e, ParsePost (bytes S) e → (IsLit (bytes S) ∧ e = .returned (.tuple #[.int .u64 (quo (litNum (bytes S)) (10 ^ (behindOf (bytes S)).length) : Nat), .int .i64 0])) ∨ (¬ IsLit (bytes S) ∧ e = .returned (.tuple #[.int .u64 0, .int .i64 4])) := fun e h => h
  obtain ⟨V, hV⟩ : ∃ V, Hid (V = quo (litNum (bytes S)) (10 ^ (behindOf (bytes S)).length)) := ⟨_, (rfl : quo (litNum (bytes S)) (10 ^ (behindOf (bytes S)).length) = _)⟩
  rw [← hV.out] at hPP ⊢
  obtain ⟨G, hG⟩ : ∃ G, Hid (G = IsLit (bytes S)) := ⟨_, (rfl : IsLit (bytes S) = _)⟩
  rw [← hG.out] at hPP ⊢
  have HC : Hid (∀ w, Calls Tryz.prog 125 #[.string S] w fun e w' => ((G ∧ e = .returned (.tuple #[.int .u64 (V : Nat), .int .i64 0])) ∨ (¬ G ∧ e = .returned (.tuple #[.int .u64 0, .int .i64 4]))) ∧ ∃ q, w' = w.drewN q) := by
    intro w
    refine (hcall w).mono ?_
    rintro e w' ⟨h1, h2⟩
    exact ⟨hPP e h1, h2⟩
  clear hcall hPP
  go_enter Tryz.func89, Tryz.ntmps89
  go_wp2_with (first | ((with_reducible show wpList _ _ _ _ _ _); refine wpList_alloc_at rfl 40 rfl (val2 0 0) 2 z32 ?_; intro w1 hA1 hb1 hs1))
  refine (HC.out _).mono ?_
  rintro e w2 ⟨⟨hg, rfl⟩ | ⟨hg, rfl⟩, q, hw2⟩
  · have hA2 : At 40 w2 w.heap.size (val2 0 0) := by rw [hw2]; exact hA1.drewN q
    have hb12 : Below w.heap.size w w2 := by rw [hw2]; exact ⟨hb1.os, hb1.tape, hb1.output, hb1.size, hb1.block⟩
    clear hw2
    go_wp2_with (first | ((with_reducible show wpList _ _ _ _ _ _); refine wpList_build_at rfl 40 _ rfl (val2 3 V) (by kernel_rfl) ?_) | ((with_reducible show wpList _ _ _ _ _ _); refine wpList_store_at (P := Tryz.prog) rfl 40 (.tmp 2) (.tmp 15) rfl w.heap.size (val2 3 V) rfl rfl 40 (val2 0 0) hA2 i32 rfl (one2 3 V) ?_; intro w9 hA9 hb9 hs9))
    refine bodyPost_ret (results_at_tmp rfl _ _ w.heap.size 40 (val2 3 V) _ rfl hA9 Tryz.underlying40 rfl i32) rfl ?_
    exact ⟨.inl ⟨hg, rfl⟩, hb9.below hb12 (Nat.le_refl _) hb12.size⟩
  · have hA2 : At 40 w2 w.heap.size (val2 0 0) := by rw [hw2]; exact hA1.drewN q
    have hb12 : Below w.heap.size w w2 := by rw [hw2]; exact ⟨hb1.os, hb1.tape, hb1.output, hb1.size, hb1.block⟩
    clear hw2
    go_wp2_with (first | ((with_reducible show wpList _ _ _ _ _ _); refine wpList_build_at rfl 40 #[] rfl (val2 0 0) (by kernel_rfl) ?_) | ((with_reducible show wpList _ _ _ _ _ _); refine wpList_store_at (P := Tryz.prog) rfl 40 (.tmp 2) (.tmp 13) rfl w.heap.size (val2 0 0) rfl rfl 40 (val2 0 0) hA2 i32 rfl (one2 0 0) ?_; intro w9 hA9 hb9 hs9))
    refine bodyPost_ret (results_at_tmp rfl _ _ w.heap.size 40 (val2 0 0) _ rfl hA9 Tryz.underlying40 rfl i32) rfl ?_
    exact ⟨.inr ⟨hg, rfl⟩, hb9.below hb12 (Nat.le_refl _) hb12.size⟩

end Go.Proofs.YtjgggmjjikopeaaGreatDoor
