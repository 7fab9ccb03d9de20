/- Joined texts of the proof. -/
import Derived.WalkKit
import Derived.WalkSpells
import Derived.Test.YtcmahiphfpgadaaGreatDoorRows
import Derived.BigQuiet
import Derived.Deep.QuietTactic
import Derived.Deep.WholeRow
import Derived.Deep.RegionHeld3
import Derived.Deep.MidRow

/- Prepared for layer 5, no program is named: the text of an expression tells it apart from any other. -/
namespace Go.Proofs.YtcmahiphfpgadaaGreatDoor

/-- An expression, as data. -/
inductive Ex where
  | mk (op t b : Nat) (nm : List UInt8) (kids : List Ex)

/-- The bytes of names, numbers and words. -/
def tokch (c : UInt8) : Bool := (decide (97 ≤ c.toNat) && decide (c.toNat ≤ 122)) || (decide (65 ≤ c.toNat) && decide (c.toNat ≤ 90)) || (decide (48 ≤ c.toNat) && decide (c.toNat ≤ 57)) || decide (c.toNat = 95) || decide (c.toNat = 46)

/-- The signs of two operands. -/
def sgT : Nat → List UInt8
  | 3 => [124, 124]
  | 4 => [38, 38]
  | 5 => [61, 61]
  | 6 => [33, 61]
  | 7 => [60]
  | 8 => [60, 61]
  | 9 => [62]
  | 10 => [62, 61]
  | 11 => [43]
  | 12 => [45]
  | 13 => [42]
  | 14 => [47]
  | 15 => [37]
  | _ => []

theorem sgT_inj : ∀ a, a < 16 → ∀ b, b < 16 → 3 ≤ a → 3 ≤ b → sgT a = sgT b → a = b := by decide
theorem sgT_free : ∀ a, a < 16 → ∀ c ∈ sgT a, ¬ c = 32 := by decide

section
variable (lit : Nat → Nat → Option (List UInt8)) (isName : List UInt8 → Bool)

/-- An expression's text. -/
def prE : Ex → Option (List UInt8)
  | .mk op t b nm [] => if op = 1 then (if nm = [] then lit t b else none) else if op = 2 then (if t = 0 ∧ b = 0 ∧ isName nm = true then some nm else none) else none
  | .mk op t b nm [a] => if t = 0 ∧ b = 0 ∧ nm = [] then
      (match prE a with
       | none => none
       | some x => if op = 16 then some (45 :: x) else if op = 17 then some (33 :: x) else if op = 18 then some ([105, 110, 116] ++ 40 :: (x ++ [41])) else if op = 19 then some ([114, 101, 97, 108] ++ 40 :: (x ++ [41])) else none)
      else none
  | .mk op t b nm [a, c] => if t = 0 ∧ b = 0 ∧ nm = [] ∧ 3 ≤ op ∧ op < 16 then
      (match prE a, prE c with
       | some x, some y => some (40 :: (x ++ 32 :: (sgT op ++ 32 :: (y ++ [41]))))
       | _, _ => none)
      else none
  | .mk _ _ _ _ (_ :: _ :: _ :: _) => none

/-- What is asked of literals and names. -/
structure Fits : Prop where
  litTok : ∀ t b x, lit t b = some x → x ≠ [] ∧ ∀ c ∈ x, tokch c = true
  litInj : ∀ t b t' b' x, lit t b = some x → lit t' b' = some x → t = t' ∧ b = b'
  nameTok : ∀ x, isName x = true → x ≠ [] ∧ ∀ c ∈ x, tokch c = true
  apart : ∀ t b x, lit t b = some x → isName x = false

/-- What may come behind an expression. -/
def Delim (r : List UInt8) : Prop := ∃ c q, r = c :: q ∧ (c = 32 ∨ c = 41 ∨ c = 59)

theorem delim_tok {c : UInt8} (h : c = 32 ∨ c = 41 ∨ c = 59) : tokch c = false ∧ ¬ c = 40 := by
  rcases h with rfl | rfl | rfl <;> decide

theorem run_eq : ∀ (x y : List UInt8) (c d : UInt8) (r q : List UInt8), (∀ u ∈ x, tokch u = true) → (∀ u ∈ y, tokch u = true) → tokch c = false → tokch d = false → x ++ c :: r = y ++ d :: q → x = y ∧ c = d ∧ r = q
  | [], [], c, d, r, q, _, _, _, _, h => by simp at h; exact ⟨rfl, h⟩
  | [], u :: y, c, d, r, q, _, hy, hc, _, h => by
    simp at h
    have := hy u List.mem_cons_self
    rw [← h.1, hc] at this
    cases this
  | u :: x, [], c, d, r, q, hx, _, _, hd, h => by
    simp at h
    have := hx u List.mem_cons_self
    rw [h.1, hd] at this
    cases this
  | u :: x, v :: y, c, d, r, q, hx, hy, hc, hd, h => by
    simp at h
    obtain ⟨h1, h2⟩ := h
    obtain ⟨e1, e2, e3⟩ := run_eq x y c d r q (fun a ha => hx a (List.mem_cons_of_mem _ ha)) (fun a ha => hy a (List.mem_cons_of_mem _ ha)) hc hd h2
    exact ⟨by rw [h1, e1], e2, e3⟩

/-- Cut at the first byte of a kind. -/
theorem cut_eq (k : UInt8) : ∀ (x y r q : List UInt8), (∀ u ∈ x, ¬ u = k) → (∀ u ∈ y, ¬ u = k) → x ++ k :: r = y ++ k :: q → x = y ∧ r = q
  | [], [], r, q, _, _, h => by simp at h; exact ⟨rfl, h⟩
  | [], u :: y, r, q, _, hy, h => by simp at h; exact absurd h.1.symm (hy u List.mem_cons_self)
  | u :: x, [], r, q, hx, _, h => by simp at h; exact absurd h.1 (hx u List.mem_cons_self)
  | u :: x, v :: y, r, q, hx, hy, h => by
    simp at h
    obtain ⟨e1, e2⟩ := cut_eq k x y r q (fun a ha => hx a (List.mem_cons_of_mem _ ha)) (fun a ha => hy a (List.mem_cons_of_mem _ ha)) h.2
    exact ⟨by rw [h.1, e1], e2⟩

/-- How an expression that has a text looks. -/
inductive Shape : Ex → List UInt8 → Prop
  | lit (t b : Nat) (x : List UInt8) (h : lit t b = some x) : Shape (.mk 1 t b [] []) x
  | name (x : List UInt8) (h : isName x = true) : Shape (.mk 2 0 0 x []) x
  | one (op : Nat) (p : UInt8) (a : Ex) (x : List UInt8) (hp : (op = 16 ∧ p = 45) ∨ (op = 17 ∧ p = 33)) (h : prE lit isName a = some x) : Shape (.mk op 0 0 [] [a]) (p :: x)
  | conv (op : Nat) (w : List UInt8) (a : Ex) (x : List UInt8) (hp : (op = 18 ∧ w = [105, 110, 116]) ∨ (op = 19 ∧ w = [114, 101, 97, 108])) (h : prE lit isName a = some x) : Shape (.mk op 0 0 [] [a]) (w ++ 40 :: (x ++ [41]))
  | two (op : Nat) (a c : Ex) (x y : List UInt8) (h3 : 3 ≤ op) (h16 : op < 16) (ha : prE lit isName a = some x) (hc : prE lit isName c = some y) : Shape (.mk op 0 0 [] [a, c]) (40 :: (x ++ 32 :: (sgT op ++ 32 :: (y ++ [41]))))

theorem shape_of (e : Ex) (x : List UInt8) (h : prE lit isName e = some x) : Shape lit isName e x := by
  match e, h with
  | .mk op t b nm [], h =>
    simp only [prE] at h
    split at h
    · next h1 =>
      split at h
      · next h2 => subst h1 h2; exact .lit t b x h
      · cases h
    · split at h
      · next h1 =>
        split at h
        · next h2 =>
          obtain ⟨rfl, rfl, h4⟩ := h2
          subst h1
          injection h with h
          subst h
          exact .name nm h4
        · cases h
      · cases h
  | .mk op t b nm [a], h =>
    simp only [prE] at h
    split at h
    · next h1 =>
      obtain ⟨rfl, rfl, rfl⟩ := h1
      split at h
      · cases h
      · next y hy =>
        split at h
        · next h2 => injection h with h; subst h h2; exact .one 16 45 a y (.inl ⟨rfl, rfl⟩) hy
        · split at h
          · next h2 => injection h with h; subst h h2; exact .one 17 33 a y (.inr ⟨rfl, rfl⟩) hy
          · split at h
            · next h2 => injection h with h; subst h h2; exact .conv 18 _ a y (.inl ⟨rfl, rfl⟩) hy
            · split at h
              · next h2 => injection h with h; subst h h2; exact .conv 19 _ a y (.inr ⟨rfl, rfl⟩) hy
              · cases h
    · cases h
  | .mk op t b nm [a, c], h =>
    simp only [prE] at h
    split at h
    · next h1 =>
      obtain ⟨rfl, rfl, rfl, h3, h16⟩ := h1
      split at h
      · next y z hy hz => injection h with h; subst h; exact .two op a c y z h3 h16 hy hz
      · cases h
    · cases h
  | .mk _ _ _ _ (_ :: _ :: _ :: _), h => simp [prE] at h

variable {lit isName}

/-- The first byte of an expression's text. -/
theorem shape_head (F : Fits lit isName) {e : Ex} {x : List UInt8} (h : Shape lit isName e x) : ∃ c q, x = c :: q ∧ (c = 40 ∨ c = 45 ∨ c = 33 ∨ tokch c = true) := by
  cases h with
  | lit t b x h =>
    obtain ⟨h1, h2⟩ := F.litTok t b x h
    match x, h1 with
    | c :: q, _ => exact ⟨c, q, rfl, .inr (.inr (.inr (h2 c List.mem_cons_self)))⟩
  | name x h =>
    obtain ⟨h1, h2⟩ := F.nameTok x h
    match x, h1 with
    | c :: q, _ => exact ⟨c, q, rfl, .inr (.inr (.inr (h2 c List.mem_cons_self)))⟩
  | one op p a x hp h =>
    rcases hp with ⟨_, rfl⟩ | ⟨_, rfl⟩
    · exact ⟨45, x, rfl, .inr (.inl rfl)⟩
    · exact ⟨33, x, rfl, .inr (.inr (.inl rfl))⟩
  | conv op w a x hp h =>
    rcases hp with ⟨_, rfl⟩ | ⟨_, rfl⟩
    · exact ⟨105, _, rfl, .inr (.inr (.inr (by decide)))⟩
    · exact ⟨114, _, rfl, .inr (.inr (.inr (by decide)))⟩
  | two op a c x y h3 h16 ha hc => exact ⟨40, _, rfl, .inl rfl⟩

/-- Words that stand at the beginning: an atom, or a conversion's. -/
theorem word_tok (w : List UInt8) (op : Nat) (hp : (op = 18 ∧ w = [105, 110, 116]) ∨ (op = 19 ∧ w = [114, 101, 97, 108])) : ∀ u ∈ w, tokch u = true := by
  rcases hp with ⟨_, rfl⟩ | ⟨_, rfl⟩ <;> decide

theorem head_tok {x r : List UInt8} (hx : x ≠ [] ∧ ∀ c ∈ x, tokch c = true) {p : UInt8} {q : List UInt8} (h : x ++ r = p :: q) : tokch p = true := by
  match x, hx with
  | c :: z, hx =>
    simp at h
    rw [← h.1]
    exact hx.2 c List.mem_cons_self

theorem apart_atoms {x y r r' : List UInt8} (hx : x ≠ [] ∧ ∀ c ∈ x, tokch c = true) (hy : y ≠ [] ∧ ∀ c ∈ y, tokch c = true) (hr : Delim r) (hr' : Delim r') (h : x ++ r = y ++ r') : x = y ∧ r = r' := by
  obtain ⟨c, q, rfl, hc⟩ := hr
  obtain ⟨d, q', rfl, hd⟩ := hr'
  obtain ⟨h1, h2, h3⟩ := run_eq x y c d q q' hx.2 hy.2 (delim_tok hc).1 (delim_tok hd).1 h
  exact ⟨h1, by rw [h2, h3]⟩

theorem atom_conv {x w r q : List UInt8} (hx : x ≠ [] ∧ ∀ c ∈ x, tokch c = true) (hw : ∀ u ∈ w, tokch u = true) (hr : Delim r) (h : x ++ r = w ++ 40 :: q) : False := by
  obtain ⟨c, s, rfl, hc⟩ := hr
  obtain ⟨_, h2, _⟩ := run_eq x w c 40 s q hx.2 hw (delim_tok hc).1 (by decide) h
  exact (delim_tok hc).2 h2

/-- Two expressions have one text just if they are the same; and what comes behind is the same. -/
theorem exprs_apart (F : Fits lit isName) : ∀ (a b : Ex) (x y r r' : List UInt8), prE lit isName a = some x → prE lit isName b = some y → Delim r → Delim r' → x ++ r = y ++ r' → a = b ∧ x = y ∧ r = r' := by
  intro a
  suffices H : ∀ n, ∀ (a : Ex), SizeOf.sizeOf a < n → ∀ (b : Ex) (x y r r' : List UInt8), prE lit isName a = some x → prE lit isName b = some y → Delim r → Delim r' → x ++ r = y ++ r' → a = b ∧ x = y ∧ r = r' from H (SizeOf.sizeOf a + 1) a (by omega)
  intro n
  induction n with
  | zero => intro a h; omega
  | succ n ih =>
    intro a hn b x y r r' ha hb hr hr' h
    have sa := shape_of lit isName a x ha
    have sb := shape_of lit isName b y hb
    cases sa with
    | lit t b1 x hx =>
      have tx := F.litTok _ _ _ hx
      cases sb with
      | lit t' b2 y hy =>
        obtain ⟨rfl, rfl⟩ := apart_atoms tx (F.litTok _ _ _ hy) hr hr' h
        obtain ⟨rfl, rfl⟩ := F.litInj _ _ _ _ _ hx hy
        exact ⟨rfl, rfl, rfl⟩
      | name y hy =>
        obtain ⟨rfl, rfl⟩ := apart_atoms tx (F.nameTok _ hy) hr hr' h
        rw [F.apart _ _ _ hx] at hy; cases hy
      | one op p c z hp hz =>
        have := head_tok tx h
        rcases hp with ⟨_, rfl⟩ | ⟨_, rfl⟩ <;> exact absurd this (by decide)
      | conv op w c z hp hz =>
        rw [List.append_assoc, List.cons_append] at h
        exact (atom_conv tx (word_tok w op hp) hr h).elim
      | two op c d z u h3 h16 hc hd => exact absurd (head_tok tx h) (by decide)
    | name x hx =>
      have tx := F.nameTok _ hx
      cases sb with
      | lit t' b2 y hy =>
        obtain ⟨rfl, rfl⟩ := apart_atoms tx (F.litTok _ _ _ hy) hr hr' h
        rw [F.apart _ _ _ hy] at hx; cases hx
      | name y hy =>
        obtain ⟨rfl, rfl⟩ := apart_atoms tx (F.nameTok _ hy) hr hr' h
        exact ⟨rfl, rfl, rfl⟩
      | one op p c z hp hz =>
        have := head_tok tx h
        rcases hp with ⟨_, rfl⟩ | ⟨_, rfl⟩ <;> exact absurd this (by decide)
      | conv op w c z hp hz =>
        rw [List.append_assoc, List.cons_append] at h
        exact (atom_conv tx (word_tok w op hp) hr h).elim
      | two op c d z u h3 h16 hc hd => exact absurd (head_tok tx h) (by decide)
    | one op p a1 x1 hp hx1 =>
      have hsz : SizeOf.sizeOf a1 < n := by simp at hn; omega
      cases sb with
      | lit t' b2 y hy =>
        have := head_tok (F.litTok _ _ _ hy) h.symm
        rcases hp with ⟨_, rfl⟩ | ⟨_, rfl⟩ <;> exact absurd this (by decide)
      | name y hy =>
        have := head_tok (F.nameTok _ hy) h.symm
        rcases hp with ⟨_, rfl⟩ | ⟨_, rfl⟩ <;> exact absurd this (by decide)
      | one op' p' c z hp' hz =>
        simp only [List.cons_append, List.cons.injEq] at h
        obtain ⟨rfl, h⟩ := h
        obtain ⟨rfl, rfl, rfl⟩ := ih a1 hsz c x1 z r r' hx1 hz hr hr' h
        rcases hp with ⟨rfl, rfl⟩ | ⟨rfl, rfl⟩ <;> rcases hp' with ⟨rfl, h2⟩ | ⟨rfl, h2⟩
        · exact ⟨rfl, rfl, rfl⟩
        · exact absurd h2 (by decide)
        · exact absurd h2 (by decide)
        · exact ⟨rfl, rfl, rfl⟩
      | conv op' w c z hp' hz =>
        rcases hp' with ⟨_, rfl⟩ | ⟨_, rfl⟩ <;> rcases hp with ⟨_, rfl⟩ | ⟨_, rfl⟩ <;> simp at h
      | two op' c d z u h3 h16 hc hd =>
        rcases hp with ⟨_, rfl⟩ | ⟨_, rfl⟩ <;> simp at h
    | conv op w a1 x1 hp hx1 =>
      have hsz : SizeOf.sizeOf a1 < n := by simp at hn; omega
      cases sb with
      | lit t' b2 y hy =>
        rw [List.append_assoc, List.cons_append] at h
        exact (atom_conv (F.litTok _ _ _ hy) (word_tok w op hp) hr' h.symm).elim
      | name y hy =>
        rw [List.append_assoc, List.cons_append] at h
        exact (atom_conv (F.nameTok _ hy) (word_tok w op hp) hr' h.symm).elim
      | one op' p' c z hp' hz =>
        rcases hp with ⟨_, rfl⟩ | ⟨_, rfl⟩ <;> rcases hp' with ⟨_, rfl⟩ | ⟨_, rfl⟩ <;> simp at h
      | conv op' w' c z hp' hz =>
        simp only [List.append_assoc, List.cons_append, List.nil_append] at h
        obtain ⟨h1, _, h3⟩ := run_eq w w' 40 40 _ _ (word_tok w op hp) (word_tok w' op' hp') (by decide) (by decide) h
        obtain ⟨rfl, rfl, h4⟩ := ih a1 hsz c x1 z _ _ hx1 hz ⟨41, r, rfl, .inr (.inl rfl)⟩ ⟨41, r', rfl, .inr (.inl rfl)⟩ h3
        have hop : op = op' := by
          rcases hp with ⟨rfl, rfl⟩ | ⟨rfl, rfl⟩ <;> rcases hp' with ⟨rfl, h2⟩ | ⟨rfl, h2⟩
          · rfl
          · rw [h2] at h1; simp at h1
          · rw [h2] at h1; simp at h1
          · rfl
        subst hop h1
        simp at h4
        exact ⟨rfl, rfl, h4⟩
      | two op' c d z u h3 h16 hc hd =>
        rcases hp with ⟨_, rfl⟩ | ⟨_, rfl⟩ <;> simp at h
    | two op a1 a2 x1 x2 h3 h16 hx1 hx2 =>
      have hsz1 : SizeOf.sizeOf a1 < n := by simp at hn; omega
      have hsz2 : SizeOf.sizeOf a2 < n := by simp at hn; omega
      cases sb with
      | lit t' b2 y hy => exact absurd (head_tok (F.litTok _ _ _ hy) h.symm) (by decide)
      | name y hy => exact absurd (head_tok (F.nameTok _ hy) h.symm) (by decide)
      | one op' p' c z hp' hz =>
        rcases hp' with ⟨_, rfl⟩ | ⟨_, rfl⟩ <;> simp at h
      | conv op' w c z hp' hz =>
        rcases hp' with ⟨_, rfl⟩ | ⟨_, rfl⟩ <;> simp at h
      | two op' c d z u h3' h16' hc hd =>
        simp only [List.cons_append, List.cons.injEq, true_and, List.append_assoc] at h
        obtain ⟨rfl, rfl, h1⟩ := ih a1 hsz1 c x1 z _ _ hx1 hc ⟨32, _, rfl, .inl rfl⟩ ⟨32, _, rfl, .inl rfl⟩ h
        simp only [List.cons.injEq, true_and] at h1
        obtain ⟨h2, h4⟩ := cut_eq 32 (sgT op) (sgT op') _ _ (sgT_free op h16) (sgT_free op' h16') h1
        have hop := sgT_inj op h16 op' h16' h3 h3' h2
        subst hop
        simp only [List.nil_append] at h4
        obtain ⟨rfl, rfl, h5⟩ := ih a2 hsz2 d x2 u _ _ hx2 hd ⟨41, r, rfl, .inr (.inl rfl)⟩ ⟨41, r', rfl, .inr (.inl rfl)⟩ h4
        simp at h5
        exact ⟨rfl, rfl, h5⟩

end
end Go.Proofs.YtcmahiphfpgadaaGreatDoor

/- The plain functions of bytes, numbers and digits that the contracts speak of, and small facts about them: no program is named here. -/
namespace Go.Proofs.YtcmahiphfpgadaaGreatDoor

/-- A byte as a cell holds it. -/
def B8 (b : UInt8) : Value := .int .u8 (b.toNat : Int)

/-- The byte of a number. -/
def ub (n : Nat) : UInt8 := UInt8.ofNat n

theorem ub_toNat (n : Nat) (h : n < 256) : (ub n).toNat = n := by simp [ub]; omega

/-- A number's shortest bytes: 'f' groups more at most. -/
def short : Nat → Nat → List UInt8
  | 0, n => [ub n]
  | f + 1, n => if n < 128 then [ub n] else ub (n % 128 + 128) :: short f (n / 128)

theorem short_small (f n : Nat) (h : n < 128) : short f n = [ub n] := by
  cases f with
  | zero => rfl
  | succ f => simp [short, h]

theorem short_big (f n : Nat) (h : 128 ≤ n) : short (f + 1) n = ub (n % 128 + 128) :: short f (n / 128) := by
  simp [short, show ¬ n < 128 by omega]

theorem short_length (f n : Nat) : (short f n).length ≤ f + 1 := by
  induction f generalizing n with
  | zero => simp [short]
  | succ f ih => unfold short; split <;> simp; have := ih (n / 128); omega

end Go.Proofs.YtcmahiphfpgadaaGreatDoor

/- Small laws for walks over slices of bytes: an append of one byte to a row that the call itself made. -/
namespace Go.Proofs.YtcmahiphfpgadaaGreatDoor
open Go.RowKit

theorem Tryz.info5 : (Tryz.prog.info? 5).map (fun i => (i.zero, i.size, i.bytes)) = some (some (.int .u8 0), 1, 1) := by kernel_rfl

/-- The call's own row of bytes. -/
def Own (base : Nat) (w : World) (v : Value) (out : List UInt8) : Prop := w.ownsRow base 5 1 v out.length (out.map B8)

theorem Own.nil (base : Nat) (w : World) : Own base w (.slice none 0 0) [] := World.ownsRow_nil _ _ _ _

theorem Own.block {base : Nat} {w : World} {v : Value} {out : List UInt8} (h : Own base w v out) : ∀ k, v.ownBlock = some k → base ≤ k := by
  intro k hk
  obtain ⟨_, ⟨rfl, _⟩ | ⟨g, cap, cur, rfl, hg, _⟩⟩ := h
  · simp [Value.ownBlock] at hk
  · simp [Value.ownBlock] at hk
    omega

/-- 'out = append(out, b)'. -/
theorem app1 {ops : Array Oper} {rest : List Oper} {o : Oper} {a : Act} {Q : Exit → Act → World → Prop} {w0 : World} (s x : Operand) (z : Int) (b : UInt8) (base : Nat) (v : Value) (out : List UInt8)
    (hgd : o.guard = none) (ho : o.op = .call { callee := .builtin .append, args := #[s, x], argTypes := #[63, 63] })
    (hs : a.eval s = v) (hx : a.eval x = .slice (some ⟨w0.heap.size, 0, none⟩) 1 1) (hown : Own base w0 v out) (hz : z = (b.toNat : Int)) (hlen : out.length ≤ 1099511627776) (hbase : base ≤ w0.heap.size)
    (h : ∀ v' w', Own base w' v' (out ++ [b]) → Below base w0 w' → wpList Tryz.prog ops Q rest (a.put o.dst v') w') :
    wpList Tryz.prog ops Q (o :: rest) a (w0.alloc (.cells #[.int .u8 z] 5)) := by
  obtain ⟨i0, hi, hz0, hz1, hz2⟩ := info_parts Tryz.info5
  refine wpList_append_own (w := w0.alloc (.cells #[.int .u8 z] 5)) hgd s x 63 ho base 5 i0 (.int .u8 0) 1 1 Tryz.underlying63 hi hz0 hz1 hz2 rfl (by decide) v out.length (out.map B8) hs (World.ownsRow.alloc hown _)
    ⟨w0.heap.size, 0, none⟩ 1 1 [.int .u8 z] hx rfl ?c1 ?c2 ?c3 ?c4 ?c5 ?_
  case c1 =>
    intro j u hj
    match j, hj with
    | 0, hj => simp at hj; subst hj; simp [Addr.add]
  case c2 => intro u hu; simp at hu; subst hu; rfl
  case c3 => unfold maxLen; omega
  case c4 => omega
  case c5 => simp; omega
  intro v' w' h1 h2 _
  refine h v' w' ?_ ?_
  · subst hz
    simpa [Own, B8] using h1
  · exact ((Below.refl base w0).alloc hbase _).grown h2 (by simp; omega) hown.block

/-- The same, the byte told by its number. -/
theorem app1n {ops : Array Oper} {rest : List Oper} {o : Oper} {a : Act} {Q : Exit → Act → World → Prop} {w0 : World} (s x : Operand) (z : Int) (k : Nat) (base : Nat) (v : Value) (out : List UInt8)
    (hgd : o.guard = none) (ho : o.op = .call { callee := .builtin .append, args := #[s, x], argTypes := #[63, 63] })
    (hs : a.eval s = v) (hx : a.eval x = .slice (some ⟨w0.heap.size, 0, none⟩) 1 1) (hown : Own base w0 v out) (hk : k < 256) (hz : z = (k : Int)) (hlen : out.length ≤ 1099511627776) (hbase : base ≤ w0.heap.size)
    (h : ∀ v' w', Own base w' v' (out ++ [ub k]) → Below base w0 w' → wpList Tryz.prog ops Q rest (a.put o.dst v') w') :
    wpList Tryz.prog ops Q (o :: rest) a (w0.alloc (.cells #[.int .u8 z] 5)) :=
  app1 s x z (ub k) base v out hgd ho hs hx hown (by rw [ub_toNat k hk]; exact hz) hlen hbase h

/-- What a slice of bytes that is read is known by: it has no bytes; or it leads to plain cells that hold them. -/
def Row (w : World) (a : Option Addr) (bs : List UInt8) : Prop :=
  bs = [] ∨ ∃ b off, a = some ⟨b, off, none⟩ ∧ ∀ j, j < bs.length → w.cell? ⟨b, off + j, none⟩ = some (.int .u8 ((bs.getD j 0).toNat : Int))

theorem lt_of_cell {w : World} {p : Addr} {v : Value} (h : w.cell? p = some v) : p.block < w.heap.size := by
  unfold World.cell? at h
  by_cases hp : p.block < w.heap.size
  · exact hp
  · rw [Array.getElem?_eq_none (by omega)] at h; simp at h

theorem Row.below {w w' : World} {a : Option Addr} {bs : List UInt8} (h : Row w a bs) (hb : Below w.heap.size w w') : Row w' a bs := by
  rcases h with h | ⟨b, off, rfl, hc⟩
  · exact .inl h
  · exact .inr ⟨b, off, rfl, fun j hj => by rw [hb.cell (lt_of_cell (hc j hj))]; exact hc j hj⟩

theorem Own.row {base : Nat} {w : World} {v : Value} {out : List UInt8} (h : Own base w v out) : ∃ a cap, v = .slice a out.length cap ∧ out.length ≤ cap ∧ cap ≤ maxLen ∧ Row w a out := by
  obtain ⟨h1, ⟨rfl, h0⟩ | ⟨g, cap, cur, rfl, hg, hh, hc, hm, hs, ht⟩⟩ := h
  · have : out = [] := List.length_eq_zero_iff.1 h0
    subst this
    exact ⟨none, 0, rfl, Nat.le_refl _, Nat.zero_le _, .inl rfl⟩
  · refine ⟨_, cap, rfl, hc, hm, .inr ⟨g, 0, rfl, fun j hj => ?_⟩⟩
    simp only [World.cell?, hh]
    have e1 : (cur.toList.take (out.length * 1))[j]? = some (B8 (out.getD j 0)) := by
      rw [ht]
      simp [List.getElem?_map, List.getElem?_eq_getElem hj, List.getD]
    rw [List.getElem?_take_of_lt (by omega)] at e1
    simpa [B8] using e1

theorem size5 (w : World) : (sizeOf 5).run Tryz.prog w = .ok 1 w := by kernel_rfl

/-- 'b[:h]'. -/
theorem run_slice_to (w : World) (a : Option Addr) (len cap h : Nat) (x : Int) (hx : x = (h : Int)) (hh : h ≤ cap) :
    (Instr.slice 63 (.slice a len cap) none (some (.int .i64 x)) none).run Tryz.prog w = .ok (.slice a h cap) w := by
  have he : Tryz.prog.elem 63 = 5 := by simp [Program.elem, Tryz.underlying63]
  rw [run_slice_h w 63 a len cap (by rw [he]; exact Tryz.underlying63) .i64 x (by omega) (by omega), he, size5]
  have hz : ∀ p : Addr, p.add 0 = p := fun p => by cases p; simp [Addr.add]
  have hm : a.map (fun p => p.add 0) = a := by cases a <;> simp [hz]
  simp only [Result.andThen, sliced, Nat.zero_mul, hm, Nat.sub_zero]
  rw [show x.toNat = h by omega]
  simp

end Go.Proofs.YtcmahiphfpgadaaGreatDoor

/- Blocks of arrays and structs as lists of cells, and steps of a walk over whole ones: the world behind a step is a letter, with what is known of it. -/
namespace Go.Proofs.YtcmahiphfpgadaaGreatDoor
open Go.RowKit
set_option linter.unusedVariables false

/-- A block of any type, its cells known. -/
def At (t : TypeId) (w : World) (g : Nat) (cs : List Value) : Prop := w.heap[g]? = some (.cells cs.toArray t (0, 0))

section
variable {t : TypeId} {w : World} {g : Nat} {cs : List Value}
theorem At.cell (h : At t w g cs) (i : Nat) : w.cell? ⟨g, i, none⟩ = cs[i]? := by
  simp [World.cell?, show w.heap[g]? = _ from h]
theorem At.frozen (h : At t w g cs) (i : Nat) : w.frozen? ⟨g, i, none⟩ = false := by
  simp [World.frozen?, show w.heap[g]? = _ from h]
theorem At.lt (h : At t w g cs) : g < w.heap.size := by
  rcases Nat.lt_or_ge g w.heap.size with hlt | hge
  · exact hlt
  · unfold At at h; rw [Array.getElem?_eq_none hge] at h; simp at h
theorem At.set (h : At t w g cs) (i : Nat) (v : Value) : At t (w.setCell ⟨g, i, none⟩ v) g (cs.set i v) := by
  have := heap_setCell_same w g i cs.toArray t v h
  unfold At
  rw [this]
  simp
theorem At.setOther (h : At t w g cs) (a : Addr) (v : Value) (hn : g ≠ a.block) : At t (w.setCell a v) g cs := by
  unfold At
  rw [heap_setCell_other w a g v hn]
  exact h
theorem At.below {w' : World} (h : At t w g cs) (hb : Below w.heap.size w w') : At t w' g cs := by
  unfold At
  rw [hb.block g h.lt]
  exact h
theorem At.drewN (h : At t w g cs) (n : Nat) : At t (w.drewN n) g cs := h
theorem At.drew (h : At t w g cs) : At t w.drew g cs := h
end

/-- All blocks but one are as they were. -/
structure But (g : Nat) (w w' : World) : Prop where
  os : w'.os = w.os
  tape : w'.tape = w.tape
  output : w'.output = w.output
  size : w.heap.size ≤ w'.heap.size
  block : ∀ k, k < w.heap.size → k ≠ g → w'.heap[k]? = w.heap[k]?

theorem But.refl (g : Nat) (w : World) : But g w w := ⟨rfl, rfl, rfl, Nat.le_refl _, fun _ _ _ => rfl⟩
theorem But.trans {g : Nat} {a b c : World} (h : But g a b) (k : But g b c) : But g a c :=
  ⟨k.os.trans h.os, k.tape.trans h.tape, k.output.trans h.output, Nat.le_trans h.size k.size, fun i hi hn => (k.block i (Nat.lt_of_lt_of_le hi h.size) hn).trans (h.block i hi hn)⟩
theorem But.of_below {g : Nat} {w w' : World} (h : Below w.heap.size w w') : But g w w' := ⟨h.os, h.tape, h.output, h.size, fun k hk _ => h.block k hk⟩
theorem But.below {g B : Nat} {w0 w w' : World} (h : But g w w') (hb : Below B w0 w) (hB : B ≤ g) (hs : B ≤ w.heap.size) : Below B w0 w' :=
  ⟨h.os.trans hb.os, h.tape.trans hb.tape, h.output.trans hb.output, Nat.le_trans hb.size h.size, fun k hk => (h.block k (by omega) (by omega)).trans (hb.block k hk)⟩
theorem But.at {t : TypeId} {g k : Nat} {w w' : World} {cs : List Value} (h : But g w w') (ha : At t w k cs) (hn : k ≠ g) : At t w' k cs := by
  unfold At
  rw [h.block k ha.lt hn]
  exact ha
theorem But.drewN {g : Nat} {a w : World} (h : But g a w) (n : Nat) : But g a (w.drewN n) := ⟨h.os, h.tape, h.output, h.size, h.block⟩
theorem But.setCell {g : Nat} {a w : World} (h : But g a w) (i : Nat) (v : Value) : But g a (w.setCell ⟨g, i, none⟩ v) :=
  ⟨h.os, h.tape, h.output, by simpa using h.size, fun k hk hn => by rw [heap_setCell_other w ⟨g, i, none⟩ k v hn]; exact h.block k hk hn⟩
theorem But.row {g : Nat} {w w' : World} (h : But g w w') {a : Option Addr} {bs : List UInt8} (hr : Row w a bs) (hn : ∀ b off, a = some ⟨b, off, none⟩ → b ≠ g) : Row w' a bs := by
  rcases hr with hr | ⟨b, off, rfl, hc⟩
  · exact .inl hr
  · exact .inr ⟨b, off, rfl, fun j hj => by rw [World.cell?_of_block (w := w) (h.block b (lt_of_cell (hc j hj)) (hn b off rfl))]; exact hc j hj⟩
section
variable {P : Program} {ops : Array Oper} {rest : List Oper} {o : Oper} {a : Act} {w : World} {Q : Exit → Act → World → Prop}

/-- A whole array or struct is laid into a new block. -/
theorem wpList_box_at (hgd : o.guard = none) (t : TypeId) (x : Operand) (ho : o.op = .box t x) (cs : List Value) (hx : a.eval x = .agg cs.toArray)
    (h : ∀ w', At t w' w.heap.size cs → Below w.heap.size w w' → w'.heap.size = w.heap.size + 1 → wpList P ops Q rest (a.put o.dst (.pointer (some ⟨w.heap.size, 0, none⟩))) w') :
    wpList P ops Q (o :: rest) a w := by
  refine wpList_plain hgd fun K hK => ?_
  have := hK _ _ (h (w.alloc (.cells cs.toArray t)) (_root_.Go.heap_alloc_new w _) ((Below.refl _ w).alloc (Nat.le_refl _) _) (by show (w.heap.push _).size = _; simp))
  unfold Oper.wp execOp
  simp only [ho, hx, Instr.box, Sem.run_bind]
  simpa [newVar, go_sem, Value.cells] using this

/-- A new block with the zero value of its type. -/
theorem wpList_alloc_at (hgd : o.guard = none) (t : TypeId) (ho : o.op = .alloc t) (cs : List Value) (n : Nat) (hz : (P.info? t).map (fun i => (i.zero, i.size)) = some (some (.agg cs.toArray), n))
    (h : ∀ w', At t w' w.heap.size cs → Below w.heap.size w w' → w'.heap.size = w.heap.size + 1 → wpList P ops Q rest (a.put o.dst (.pointer (some ⟨w.heap.size, 0, none⟩))) w') :
    wpList P ops Q (o :: rest) a w := by
  refine wpList_plain hgd fun K hK => ?_
  have := hK _ _ (h (w.alloc (.cells cs.toArray t)) (_root_.Go.heap_alloc_new w _) ((Below.refl _ w).alloc (Nat.le_refl _) _) (by show (w.heap.push _).size = _; simp))
  have h0 := (zero_of_info hz).1
  unfold Oper.wp execOp
  simp only [ho, Instr.alloc, Sem.run_bind, h0]
  simpa [newVar, go_sem, Value.cells] using this

/-- A whole array or struct is stored into a block that holds one. -/
theorem wpList_store_at (hgd : o.guard = none) (ty : TypeId) (x y : Operand) (ho : o.op = .store ty x y)
    (g : Nat) (cs : List Value) (hx : a.eval x = .pointer (some ⟨g, 0, none⟩)) (hy : a.eval y = .agg cs.toArray)
    (t : TypeId) (old : List Value) (hg : At t w g old) (hi : (P.info? ty).map (·.size) = some cs.length) (hold : old.length = cs.length) (h1 : ∀ v ∈ cs, v.oneCell' = true)
    (h : ∀ w', At t w' g cs → But g w w' → w'.heap.size = w.heap.size → wpList P ops Q rest (a.put o.dst undef) w') : wpList P ops Q (o :: rest) a w := by
  refine wpList_store_row hgd ty x y ho g cs.toArray hx hy t old.toArray hg (by simpa using hi) (by simpa using hold) (by simpa using h1) ?_
  refine h _ (setRow_heap w g _ _ t _ hg) ⟨rfl, rfl, rfl, by simp, fun k _ hn => setRow_other w g k _ hn⟩ (by simp)

/-- A whole array or struct is made. -/
theorem wpList_build_at (hgd : o.guard = none) (t : TypeId) (parts : Array (Nat × Operand)) (ho : o.op = .build t parts) (cs : List Value)
    (hb : P.built t (parts.map fun (i, x) => (i, a.eval x)).toList = some cs.toArray)
    (h : wpList P ops Q rest (a.put o.dst (.agg cs.toArray)) w) : wpList P ops Q (o :: rest) a w :=
  wpList_build hgd t parts ho (by rw [hb]; rfl) (by rw [hb]; exact h)

/-- A whole array or struct is read. -/
theorem wpList_load_at (hgd : o.guard = none) (ty : TypeId) (x : Operand) (ho : o.op = .load ty x)
    (g : Nat) (hx : a.eval x = .pointer (some ⟨g, 0, none⟩)) (t : TypeId) (cs : List Value) (hg : At t w g cs) (d : TypeDesc)
    (hu : P.underlying ty = some d) (hd : (match d with | .struct _ | .array _ _ => true | _ => false) = true) (hi : (P.info? ty).map (·.size) = some cs.length)
    (h : wpList P ops Q rest (a.put o.dst (.agg cs.toArray)) w) : wpList P ops Q (o :: rest) a w :=
  wpList_load_row hgd ty x ho g hx t cs.toArray (0, 0) d hg hu hd (by simpa using hi) h
end

theorem At.range {t : TypeId} {w : World} {g : Nat} {cs : List Value} (h : At t w g cs) (o n : Nat) : w.rangeAt g o ((cs.drop o).take n) := by
  intro j v hj
  rw [h.cell]
  rw [List.getElem?_take] at hj
  split at hj
  · rw [List.getElem?_drop] at hj; exact hj
  · simp at hj

theorem At.there {t : TypeId} {w : World} {g : Nat} {cs : List Value} (h : At t w g cs) (o n : Nat) (hn : o + n ≤ cs.length) : w.there g o n := by
  intro j hj
  rw [h.cell, h.frozen]
  simp
  omega

/-- A struct of two cells is stored into the middle of a block. -/
theorem wpList_store_two {P : Program} {ops : Array Oper} {rest : List Oper} {o : Oper} {a : Act} {w : World} {Q : Exit → Act → World → Prop} (hgd : o.guard = none) (ty : TypeId) (x y : Operand) (ho : o.op = .store ty x y)
    (g off : Nat) (v0 v1 : Value) (hx : a.eval x = .pointer (some ⟨g, off, none⟩)) (hy : a.eval y = .agg [v0, v1].toArray)
    (t : TypeId) (old : List Value) (hg : At t w g old) (hold : off + 2 ≤ old.length) (hi : (P.info? ty).map (·.size) = some 2) (h1 : ∀ v ∈ [v0, v1], v.oneCell' = true)
    (h : ∀ w', At t w' g ((old.set off v0).set (off + 1) v1) → But g w w' → w'.heap.size = w.heap.size → wpList P ops Q rest (a.put o.dst undef) w') : wpList P ops Q (o :: rest) a w := by
  refine wpList_store_mid hgd ty x y ho g off [v0, v1].toArray hx hy (hg.there off 2 hold) (by simpa using hi) (all_oneCell_toArray h1) ?_
  refine h _ ((hg.set off v0).set (off + 1) v1) (((But.refl g w).setCell off v0).setCell (off + 1) v1) ?_
  show ((w.setCell ⟨g, off, none⟩ v0).setCell ⟨g, off + 1, none⟩ v1).heap.size = _
  simp

theorem results_at {P : Program} {fn : Func} {p : Tmp} {ty : TypeId} (h : fn.results = #[.cell p ty]) (tmps : Array Value) (w : World) (g : Nat) (t : TypeId) (cs : List Value) (d : TypeDesc)
    (hp : tmps.getD p undef = .pointer (some ⟨g, 0, none⟩)) (hg : At t w g cs)
    (hu : P.underlying ty = some d) (hd : (match d with | .struct _ | .array _ _ => true | _ => false) = true) (hi : (P.info? ty).map (·.size) = some cs.length) :
    (results fn tmps).run P w = .ok (.agg cs.toArray) w :=
  results_cell_row h tmps w g t cs.toArray (0, 0) d hp hg hu hd (by simpa using hi)
end Go.Proofs.YtcmahiphfpgadaaGreatDoor

/- Signs, operands, types' texts. -/
namespace Go.Proofs.YtcmahiphfpgadaaGreatDoor
open Go.RowKit
set_option linter.unusedVariables false

theorem sgT_none (op : Nat) (h : ¬ (3 ≤ op ∧ op < 16)) : sgT op = [] := by
  unfold sgT
  split <;> first | rfl | (exfalso; omega)

set_option maxRecDepth 100000 in
set_option maxHeartbeats 1600000 in
theorem sign_lit (w : World) : ∀ op : Nat, op < 16 → 3 ≤ op → Calls Tryz.prog 81 #[.int .u8 (op : Int)] w fun e w' => e = .returned (.string ⟨(sgT op).toArray⟩) ∧ w' = w := by
  intro op h1 h2
  have : op = 3 ∨ op = 4 ∨ op = 5 ∨ op = 6 ∨ op = 7 ∨ op = 8 ∨ op = 9 ∨ op = 10 ∨ op = 11 ∨ op = 12 ∨ op = 13 ∨ op = 14 ∨ op = 15 := by omega
  rcases this with rfl | rfl | rfl | rfl | rfl | rfl | rfl | rfl | rfl | rfl | rfl | rfl | rfl <;>
    (go_enter Tryz.func81, Tryz.ntmps81
     go_wp2
     go_ret
     exact ⟨rfl, rfl⟩)

set_option maxRecDepth 100000 in
set_option maxHeartbeats 1600000 in
theorem sign_any (op : Nat) (w : World) : Calls Tryz.prog 81 #[.int .u8 (op : Int)] w fun e w' => e = .returned (.string ⟨(sgT op).toArray⟩) ∧ w' = w := by
  by_cases h : 3 ≤ op ∧ op < 16
  · exact sign_lit w op h.2 h.1
  · rw [sgT_none op h]
    have e3 : ((op : Int) == 3) = false := by rw [beq_eq_false_iff_ne]; omega
    have e4 : ((op : Int) == 4) = false := by rw [beq_eq_false_iff_ne]; omega
    have e5 : ((op : Int) == 5) = false := by rw [beq_eq_false_iff_ne]; omega
    have e6 : ((op : Int) == 6) = false := by rw [beq_eq_false_iff_ne]; omega
    have e7 : ((op : Int) == 7) = false := by rw [beq_eq_false_iff_ne]; omega
    have e8 : ((op : Int) == 8) = false := by rw [beq_eq_false_iff_ne]; omega
    have e9 : ((op : Int) == 9) = false := by rw [beq_eq_false_iff_ne]; omega
    have e10 : ((op : Int) == 10) = false := by rw [beq_eq_false_iff_ne]; omega
    have e11 : ((op : Int) == 11) = false := by rw [beq_eq_false_iff_ne]; omega
    have e12 : ((op : Int) == 12) = false := by rw [beq_eq_false_iff_ne]; omega
    have e13 : ((op : Int) == 13) = false := by rw [beq_eq_false_iff_ne]; omega
    have e14 : ((op : Int) == 14) = false := by rw [beq_eq_false_iff_ne]; omega
    have e15 : ((op : Int) == 15) = false := by rw [beq_eq_false_iff_ne]; omega
    clear h
    go_enter Tryz.func81, Tryz.ntmps81
    go_wp2
    go_ret
    exact ⟨rfl, rfl⟩

/-- How many operands an operator has. -/
def opnds (op : Nat) : Int := if op = 1 ∨ op = 2 then 0 else if 16 ≤ op ∧ op < 20 then 1 else if 3 ≤ op ∧ op < 16 then 2 else -1

set_option maxRecDepth 100000 in
set_option maxHeartbeats 1600000 in
theorem operands_any (op : Nat) (w : World) : Calls Tryz.prog 78 #[.int .u8 (op : Int)] w fun e w' => e = .returned (.int .i64 (opnds op)) ∧ w' = w := by
  have hs := sign_any op
  by_cases h0 : op = 1 ∨ op = 2
  · rcases h0 with rfl | rfl <;>
    (go_enter Tryz.func78, Tryz.ntmps78
     go_wp2_with fail
     go_ret
     exact ⟨rfl, rfl⟩)
  by_cases h1 : 16 ≤ op ∧ op < 20
  · have : op = 16 ∨ op = 17 ∨ op = 18 ∨ op = 19 := by omega
    rcases this with rfl | rfl | rfl | rfl <;>
    (go_enter Tryz.func78, Tryz.ntmps78
     go_wp2_with fail
     go_ret
     exact ⟨rfl, rfl⟩)
  have e1 : ((op : Int) == 1) = false := by rw [beq_eq_false_iff_ne]; omega
  have e2 : ((op : Int) == 2) = false := by rw [beq_eq_false_iff_ne]; omega
  have e16 : ((op : Int) == 16) = false := by rw [beq_eq_false_iff_ne]; omega
  have e17 : ((op : Int) == 17) = false := by rw [beq_eq_false_iff_ne]; omega
  have e18 : ((op : Int) == 18) = false := by rw [beq_eq_false_iff_ne]; omega
  have e19 : ((op : Int) == 19) = false := by rw [beq_eq_false_iff_ne]; omega
  by_cases h2 : 3 ≤ op ∧ op < 16
  · have he : opnds op = 2 := by unfold opnds; rw [if_neg h0, if_neg h1, if_pos h2]
    have hne : ((sgT op) == []) = false := by
      have : ∀ op, op < 16 → 3 ≤ op → ((sgT op) == []) = false := by decide
      exact this op h2.2 h2.1
    rw [he]
    obtain ⟨L, hL⟩ : ∃ L, L = sgT op := ⟨_, rfl⟩
    rw [← hL] at hs hne
    clear hL he h0 h1 h2
    go_enter Tryz.func78, Tryz.ntmps78
    go_wp2_with fail
    refine (hs _).mono ?_
    rintro e w' ⟨rfl, rfl⟩
    go_wp2
    go_ret
    exact ⟨rfl, rfl⟩
  · have he : opnds op = -1 := by unfold opnds; rw [if_neg h0, if_neg h1, if_neg h2]
    rw [he]
    rw [sgT_none op h2] at hs
    clear he h0 h1 h2
    go_enter Tryz.func78, Tryz.ntmps78
    go_wp2_with fail
    refine (hs _).mono ?_
    rintro e w' ⟨rfl, rfl⟩
    go_wp2
    go_ret
    exact ⟨rfl, rfl⟩

/-- A type's text. -/
def tyT (t : Nat) : List UInt8 := if t = 1 then [105, 110, 116] else if t = 2 then [98, 111, 111, 108] else [114, 101, 97, 108]

set_option maxRecDepth 100000 in
set_option maxHeartbeats 1600000 in
theorem typeText_any (t : Nat) (w : World) : Calls Tryz.prog 98 #[.int .u8 (t : Int)] w fun e w' => e = .returned (.string ⟨(tyT t).toArray⟩) ∧ w' = w := by
  by_cases h1 : t = 1
  · subst h1
    go_enter Tryz.func98, Tryz.ntmps98
    go_wp2
    go_ret
    exact ⟨rfl, rfl⟩
  by_cases h2 : t = 2
  · subst h2
    go_enter Tryz.func98, Tryz.ntmps98
    go_wp2
    go_ret
    exact ⟨rfl, rfl⟩
  have e1 : ((t : Int) == 1) = false := by rw [beq_eq_false_iff_ne]; omega
  have e2 : ((t : Int) == 2) = false := by rw [beq_eq_false_iff_ne]; omega
  have he : tyT t = [114, 101, 97, 108] := by unfold tyT; rw [if_neg h1, if_neg h2]
  rw [he]
  clear he h1 h2
  go_enter Tryz.func98, Tryz.ntmps98
  go_wp2
  go_ret
  exact ⟨rfl, rfl⟩

end Go.Proofs.YtcmahiphfpgadaaGreatDoor
