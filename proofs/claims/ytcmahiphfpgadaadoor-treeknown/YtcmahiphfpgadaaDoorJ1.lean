/- Joined texts of the proof. -/
import Derived.WalkKit
import Derived.WalkSpells
import Derived.Test.YtcmahiphfpgadaaDoorRows

/- Prepared for layer 5, no program is named: the text of an expression tells it apart from any other. -/
namespace Go.Proofs.YtcmahiphfpgadaaDoor

/-- An expression, as data. -/
inductive Ex where
  | mk (op t b : Nat) (nm : List UInt8) (kids : List Ex)

/-- The bytes of names, numbers and words. -/
def tokch (c : UInt8) : Bool := (decide (97 ≤ c.toNat) && decide (c.toNat ≤ 122)) || (decide (65 ≤ c.toNat) && decide (c.toNat ≤ 90)) || (decide (48 ≤ c.toNat) && decide (c.toNat ≤ 57)) || decide (c.toNat = 95) || decide (c.toNat = 46)

/-- The signs of two operands. -/
def sgT : Nat → List UInt8
  | 3 => [124, 124]
  | 4 => [38, 38]
  | 5 => [61, 61]
  | 6 => [33, 61]
  | 7 => [60]
  | 8 => [60, 61]
  | 9 => [62]
  | 10 => [62, 61]
  | 11 => [43]
  | 12 => [45]
  | 13 => [42]
  | 14 => [47]
  | 15 => [37]
  | _ => []

theorem sgT_inj : ∀ a, a < 16 → ∀ b, b < 16 → 3 ≤ a → 3 ≤ b → sgT a = sgT b → a = b := by decide
theorem sgT_free : ∀ a, a < 16 → ∀ c ∈ sgT a, ¬ c = 32 := by decide

section
variable (lit : Nat → Nat → Option (List UInt8)) (isName : List UInt8 → Bool)

/-- An expression's text. -/
def prE : Ex → Option (List UInt8)
  | .mk op t b nm [] => if op = 1 then (if nm = [] then lit t b else none) else if op = 2 then (if t = 0 ∧ b = 0 ∧ isName nm = true then some nm else none) else none
  | .mk op t b nm [a] => if t = 0 ∧ b = 0 ∧ nm = [] then
      (match prE a with
       | none => none
       | some x => if op = 16 then some (45 :: x) else if op = 17 then some (33 :: x) else if op = 18 then some ([105, 110, 116] ++ 40 :: (x ++ [41])) else if op = 19 then some ([114, 101, 97, 108] ++ 40 :: (x ++ [41])) else none)
      else none
  | .mk op t b nm [a, c] => if t = 0 ∧ b = 0 ∧ nm = [] ∧ 3 ≤ op ∧ op < 16 then
      (match prE a, prE c with
       | some x, some y => some (40 :: (x ++ 32 :: (sgT op ++ 32 :: (y ++ [41]))))
       | _, _ => none)
      else none
  | .mk _ _ _ _ (_ :: _ :: _ :: _) => none

/-- What is asked of literals and names. -/
structure Fits : Prop where
  litTok : ∀ t b x, lit t b = some x → x ≠ [] ∧ ∀ c ∈ x, tokch c = true
  litInj : ∀ t b t' b' x, lit t b = some x → lit t' b' = some x → t = t' ∧ b = b'
  nameTok : ∀ x, isName x = true → x ≠ [] ∧ ∀ c ∈ x, tokch c = true
  apart : ∀ t b x, lit t b = some x → isName x = false

/-- What may come behind an expression. -/
def Delim (r : List UInt8) : Prop := ∃ c q, r = c :: q ∧ (c = 32 ∨ c = 41 ∨ c = 59)

theorem delim_tok {c : UInt8} (h : c = 32 ∨ c = 41 ∨ c = 59) : tokch c = false ∧ ¬ c = 40 := by
  rcases h with rfl | rfl | rfl <;> decide

theorem run_eq : ∀ (x y : List UInt8) (c d : UInt8) (r q : List UInt8), (∀ u ∈ x, tokch u = true) → (∀ u ∈ y, tokch u = true) → tokch c = false → tokch d = false → x ++ c :: r = y ++ d :: q → x = y ∧ c = d ∧ r = q
  | [], [], c, d, r, q, _, _, _, _, h => by simp at h; exact ⟨rfl, h⟩
  | [], u :: y, c, d, r, q, _, hy, hc, _, h => by
    simp at h
    have := hy u List.mem_cons_self
    rw [← h.1, hc] at this
    cases this
  | u :: x, [], c, d, r, q, hx, _, _, hd, h => by
    simp at h
    have := hx u List.mem_cons_self
    rw [h.1, hd] at this
    cases this
  | u :: x, v :: y, c, d, r, q, hx, hy, hc, hd, h => by
    simp at h
    obtain ⟨h1, h2⟩ := h
    obtain ⟨e1, e2, e3⟩ := run_eq x y c d r q (fun a ha => hx a (List.mem_cons_of_mem _ ha)) (fun a ha => hy a (List.mem_cons_of_mem _ ha)) hc hd h2
    exact ⟨by rw [h1, e1], e2, e3⟩

/-- Cut at the first byte of a kind. -/
theorem cut_eq (k : UInt8) : ∀ (x y r q : List UInt8), (∀ u ∈ x, ¬ u = k) → (∀ u ∈ y, ¬ u = k) → x ++ k :: r = y ++ k :: q → x = y ∧ r = q
  | [], [], r, q, _, _, h => by simp at h; exact ⟨rfl, h⟩
  | [], u :: y, r, q, _, hy, h => by simp at h; exact absurd h.1.symm (hy u List.mem_cons_self)
  | u :: x, [], r, q, hx, _, h => by simp at h; exact absurd h.1 (hx u List.mem_cons_self)
  | u :: x, v :: y, r, q, hx, hy, h => by
    simp at h
    obtain ⟨e1, e2⟩ := cut_eq k x y r q (fun a ha => hx a (List.mem_cons_of_mem _ ha)) (fun a ha => hy a (List.mem_cons_of_mem _ ha)) h.2
    exact ⟨by rw [h.1, e1], e2⟩

/-- How an expression that has a text looks. -/
inductive Shape : Ex → List UInt8 → Prop
  | lit (t b : Nat) (x : List UInt8) (h : lit t b = some x) : Shape (.mk 1 t b [] []) x
  | name (x : List UInt8) (h : isName x = true) : Shape (.mk 2 0 0 x []) x
  | one (op : Nat) (p : UInt8) (a : Ex) (x : List UInt8) (hp : (op = 16 ∧ p = 45) ∨ (op = 17 ∧ p = 33)) (h : prE lit isName a = some x) : Shape (.mk op 0 0 [] [a]) (p :: x)
  | conv (op : Nat) (w : List UInt8) (a : Ex) (x : List UInt8) (hp : (op = 18 ∧ w = [105, 110, 116]) ∨ (op = 19 ∧ w = [114, 101, 97, 108])) (h : prE lit isName a = some x) : Shape (.mk op 0 0 [] [a]) (w ++ 40 :: (x ++ [41]))
  | two (op : Nat) (a c : Ex) (x y : List UInt8) (h3 : 3 ≤ op) (h16 : op < 16) (ha : prE lit isName a = some x) (hc : prE lit isName c = some y) : Shape (.mk op 0 0 [] [a, c]) (40 :: (x ++ 32 :: (sgT op ++ 32 :: (y ++ [41]))))

theorem shape_of (e : Ex) (x : List UInt8) (h : prE lit isName e = some x) : Shape lit isName e x := by
  match e, h with
  | .mk op t b nm [], h =>
    simp only [prE] at h
    split at h
    · next h1 =>
      split at h
      · next h2 => subst h1 h2; exact .lit t b x h
      · cases h
    · split at h
      · next h1 =>
        split at h
        · next h2 =>
          obtain ⟨rfl, rfl, h4⟩ := h2
          subst h1
          injection h with h
          subst h
          exact .name nm h4
        · cases h
      · cases h
  | .mk op t b nm [a], h =>
    simp only [prE] at h
    split at h
    · next h1 =>
      obtain ⟨rfl, rfl, rfl⟩ := h1
      split at h
      · cases h
      · next y hy =>
        split at h
        · next h2 => injection h with h; subst h h2; exact .one 16 45 a y (.inl ⟨rfl, rfl⟩) hy
        · split at h
          · next h2 => injection h with h; subst h h2; exact .one 17 33 a y (.inr ⟨rfl, rfl⟩) hy
          · split at h
            · next h2 => injection h with h; subst h h2; exact .conv 18 _ a y (.inl ⟨rfl, rfl⟩) hy
            · split at h
              · next h2 => injection h with h; subst h h2; exact .conv 19 _ a y (.inr ⟨rfl, rfl⟩) hy
              · cases h
    · cases h
  | .mk op t b nm [a, c], h =>
    simp only [prE] at h
    split at h
    · next h1 =>
      obtain ⟨rfl, rfl, rfl, h3, h16⟩ := h1
      split at h
      · next y z hy hz => injection h with h; subst h; exact .two op a c y z h3 h16 hy hz
      · cases h
    · cases h
  | .mk _ _ _ _ (_ :: _ :: _ :: _), h => simp [prE] at h

variable {lit isName}

/-- The first byte of an expression's text. -/
theorem shape_head (F : Fits lit isName) {e : Ex} {x : List UInt8} (h : Shape lit isName e x) : ∃ c q, x = c :: q ∧ (c = 40 ∨ c = 45 ∨ c = 33 ∨ tokch c = true) := by
  cases h with
  | lit t b x h =>
    obtain ⟨h1, h2⟩ := F.litTok t b x h
    match x, h1 with
    | c :: q, _ => exact ⟨c, q, rfl, .inr (.inr (.inr (h2 c List.mem_cons_self)))⟩
  | name x h =>
    obtain ⟨h1, h2⟩ := F.nameTok x h
    match x, h1 with
    | c :: q, _ => exact ⟨c, q, rfl, .inr (.inr (.inr (h2 c List.mem_cons_self)))⟩
  | one op p a x hp h =>
    rcases hp with ⟨_, rfl⟩ | ⟨_, rfl⟩
    · exact ⟨45, x, rfl, .inr (.inl rfl)⟩
    · exact ⟨33, x, rfl, .inr (.inr (.inl rfl))⟩
  | conv op w a x hp h =>
    rcases hp with ⟨_, rfl⟩ | ⟨_, rfl⟩
    · exact ⟨105, _, rfl, .inr (.inr (.inr (by decide)))⟩
    · exact ⟨114, _, rfl, .inr (.inr (.inr (by decide)))⟩
  | two op a c x y h3 h16 ha hc => exact ⟨40, _, rfl, .inl rfl⟩

/-- Words that stand at the beginning: an atom, or a conversion's. -/
theorem word_tok (w : List UInt8) (op : Nat) (hp : (op = 18 ∧ w = [105, 110, 116]) ∨ (op = 19 ∧ w = [114, 101, 97, 108])) : ∀ u ∈ w, tokch u = true := by
  rcases hp with ⟨_, rfl⟩ | ⟨_, rfl⟩ <;> decide

theorem head_tok {x r : List UInt8} (hx : x ≠ [] ∧ ∀ c ∈ x, tokch c = true) {p : UInt8} {q : List UInt8} (h : x ++ r = p :: q) : tokch p = true := by
  match x, hx with
  | c :: z, hx =>
    simp at h
    rw [← h.1]
    exact hx.2 c List.mem_cons_self

theorem apart_atoms {x y r r' : List UInt8} (hx : x ≠ [] ∧ ∀ c ∈ x, tokch c = true) (hy : y ≠ [] ∧ ∀ c ∈ y, tokch c = true) (hr : Delim r) (hr' : Delim r') (h : x ++ r = y ++ r') : x = y ∧ r = r' := by
  obtain ⟨c, q, rfl, hc⟩ := hr
  obtain ⟨d, q', rfl, hd⟩ := hr'
  obtain ⟨h1, h2, h3⟩ := run_eq x y c d q q' hx.2 hy.2 (delim_tok hc).1 (delim_tok hd).1 h
  exact ⟨h1, by rw [h2, h3]⟩

theorem atom_conv {x w r q : List UInt8} (hx : x ≠ [] ∧ ∀ c ∈ x, tokch c = true) (hw : ∀ u ∈ w, tokch u = true) (hr : Delim r) (h : x ++ r = w ++ 40 :: q) : False := by
  obtain ⟨c, s, rfl, hc⟩ := hr
  obtain ⟨_, h2, _⟩ := run_eq x w c 40 s q hx.2 hw (delim_tok hc).1 (by decide) h
  exact (delim_tok hc).2 h2

/-- Two expressions have one text just if they are the same; and what comes behind is the same. -/
theorem exprs_apart (F : Fits lit isName) : ∀ (a b : Ex) (x y r r' : List UInt8), prE lit isName a = some x → prE lit isName b = some y → Delim r → Delim r' → x ++ r = y ++ r' → a = b ∧ x = y ∧ r = r' := by
  intro a
  suffices H : ∀ n, ∀ (a : Ex), SizeOf.sizeOf a < n → ∀ (b : Ex) (x y r r' : List UInt8), prE lit isName a = some x → prE lit isName b = some y → Delim r → Delim r' → x ++ r = y ++ r' → a = b ∧ x = y ∧ r = r' from H (SizeOf.sizeOf a + 1) a (by omega)
  intro n
  induction n with
  | zero => intro a h; omega
  | succ n ih =>
    intro a hn b x y r r' ha hb hr hr' h
    have sa := shape_of lit isName a x ha
    have sb := shape_of lit isName b y hb
    cases sa with
    | lit t b1 x hx =>
      have tx := F.litTok _ _ _ hx
      cases sb with
      | lit t' b2 y hy =>
        obtain ⟨rfl, rfl⟩ := apart_atoms tx (F.litTok _ _ _ hy) hr hr' h
        obtain ⟨rfl, rfl⟩ := F.litInj _ _ _ _ _ hx hy
        exact ⟨rfl, rfl, rfl⟩
      | name y hy =>
        obtain ⟨rfl, rfl⟩ := apart_atoms tx (F.nameTok _ hy) hr hr' h
        rw [F.apart _ _ _ hx] at hy; cases hy
      | one op p c z hp hz =>
        have := head_tok tx h
        rcases hp with ⟨_, rfl⟩ | ⟨_, rfl⟩ <;> exact absurd this (by decide)
      | conv op w c z hp hz =>
        rw [List.append_assoc, List.cons_append] at h
        exact (atom_conv tx (word_tok w op hp) hr h).elim
      | two op c d z u h3 h16 hc hd => exact absurd (head_tok tx h) (by decide)
    | name x hx =>
      have tx := F.nameTok _ hx
      cases sb with
      | lit t' b2 y hy =>
        obtain ⟨rfl, rfl⟩ := apart_atoms tx (F.litTok _ _ _ hy) hr hr' h
        rw [F.apart _ _ _ hy] at hx; cases hx
      | name y hy =>
        obtain ⟨rfl, rfl⟩ := apart_atoms tx (F.nameTok _ hy) hr hr' h
        exact ⟨rfl, rfl, rfl⟩
      | one op p c z hp hz =>
        have := head_tok tx h
        rcases hp with ⟨_, rfl⟩ | ⟨_, rfl⟩ <;> exact absurd this (by decide)
      | conv op w c z hp hz =>
        rw [List.append_assoc, List.cons_append] at h
        exact (atom_conv tx (word_tok w op hp) hr h).elim
      | two op c d z u h3 h16 hc hd => exact absurd (head_tok tx h) (by decide)
    | one op p a1 x1 hp hx1 =>
      have hsz : SizeOf.sizeOf a1 < n := by simp at hn; omega
      cases sb with
      | lit t' b2 y hy =>
        have := head_tok (F.litTok _ _ _ hy) h.symm
        rcases hp with ⟨_, rfl⟩ | ⟨_, rfl⟩ <;> exact absurd this (by decide)
      | name y hy =>
        have := head_tok (F.nameTok _ hy) h.symm
        rcases hp with ⟨_, rfl⟩ | ⟨_, rfl⟩ <;> exact absurd this (by decide)
      | one op' p' c z hp' hz =>
        simp only [List.cons_append, List.cons.injEq] at h
        obtain ⟨rfl, h⟩ := h
        obtain ⟨rfl, rfl, rfl⟩ := ih a1 hsz c x1 z r r' hx1 hz hr hr' h
        rcases hp with ⟨rfl, rfl⟩ | ⟨rfl, rfl⟩ <;> rcases hp' with ⟨rfl, h2⟩ | ⟨rfl, h2⟩
        · exact ⟨rfl, rfl, rfl⟩
        · exact absurd h2 (by decide)
        · exact absurd h2 (by decide)
        · exact ⟨rfl, rfl, rfl⟩
      | conv op' w c z hp' hz =>
        rcases hp' with ⟨_, rfl⟩ | ⟨_, rfl⟩ <;> rcases hp with ⟨_, rfl⟩ | ⟨_, rfl⟩ <;> simp at h
      | two op' c d z u h3 h16 hc hd =>
        rcases hp with ⟨_, rfl⟩ | ⟨_, rfl⟩ <;> simp at h
    | conv op w a1 x1 hp hx1 =>
      have hsz : SizeOf.sizeOf a1 < n := by simp at hn; omega
      cases sb with
      | lit t' b2 y hy =>
        rw [List.append_assoc, List.cons_append] at h
        exact (atom_conv (F.litTok _ _ _ hy) (word_tok w op hp) hr' h.symm).elim
      | name y hy =>
        rw [List.append_assoc, List.cons_append] at h
        exact (atom_conv (F.nameTok _ hy) (word_tok w op hp) hr' h.symm).elim
      | one op' p' c z hp' hz =>
        rcases hp with ⟨_, rfl⟩ | ⟨_, rfl⟩ <;> rcases hp' with ⟨_, rfl⟩ | ⟨_, rfl⟩ <;> simp at h
      | conv op' w' c z hp' hz =>
        simp only [List.append_assoc, List.cons_append, List.nil_append] at h
        obtain ⟨h1, _, h3⟩ := run_eq w w' 40 40 _ _ (word_tok w op hp) (word_tok w' op' hp') (by decide) (by decide) h
        obtain ⟨rfl, rfl, h4⟩ := ih a1 hsz c x1 z _ _ hx1 hz ⟨41, r, rfl, .inr (.inl rfl)⟩ ⟨41, r', rfl, .inr (.inl rfl)⟩ h3
        have hop : op = op' := by
          rcases hp with ⟨rfl, rfl⟩ | ⟨rfl, rfl⟩ <;> rcases hp' with ⟨rfl, h2⟩ | ⟨rfl, h2⟩
          · rfl
          · rw [h2] at h1; simp at h1
          · rw [h2] at h1; simp at h1
          · rfl
        subst hop h1
        simp at h4
        exact ⟨rfl, rfl, h4⟩
      | two op' c d z u h3 h16 hc hd =>
        rcases hp with ⟨_, rfl⟩ | ⟨_, rfl⟩ <;> simp at h
    | two op a1 a2 x1 x2 h3 h16 hx1 hx2 =>
      have hsz1 : SizeOf.sizeOf a1 < n := by simp at hn; omega
      have hsz2 : SizeOf.sizeOf a2 < n := by simp at hn; omega
      cases sb with
      | lit t' b2 y hy => exact absurd (head_tok (F.litTok _ _ _ hy) h.symm) (by decide)
      | name y hy => exact absurd (head_tok (F.nameTok _ hy) h.symm) (by decide)
      | one op' p' c z hp' hz =>
        rcases hp' with ⟨_, rfl⟩ | ⟨_, rfl⟩ <;> simp at h
      | conv op' w c z hp' hz =>
        rcases hp' with ⟨_, rfl⟩ | ⟨_, rfl⟩ <;> simp at h
      | two op' c d z u h3' h16' hc hd =>
        simp only [List.cons_append, List.cons.injEq, true_and, List.append_assoc] at h
        obtain ⟨rfl, rfl, h1⟩ := ih a1 hsz1 c x1 z _ _ hx1 hc ⟨32, _, rfl, .inl rfl⟩ ⟨32, _, rfl, .inl rfl⟩ h
        simp only [List.cons.injEq, true_and] at h1
        obtain ⟨h2, h4⟩ := cut_eq 32 (sgT op) (sgT op') _ _ (sgT_free op h16) (sgT_free op' h16') h1
        have hop := sgT_inj op h16 op' h16' h3 h3' h2
        subst hop
        simp only [List.nil_append] at h4
        obtain ⟨rfl, rfl, h5⟩ := ih a2 hsz2 d x2 u _ _ hx2 hd ⟨41, r, rfl, .inr (.inl rfl)⟩ ⟨41, r', rfl, .inr (.inl rfl)⟩ h4
        simp at h5
        exact ⟨rfl, rfl, h5⟩

end
end Go.Proofs.YtcmahiphfpgadaaDoor

/- The plain functions of bytes, numbers and digits that the contracts speak of, and small facts about them: no program is named here. -/
namespace Go.Proofs.YtcmahiphfpgadaaDoor

/-- A byte as a cell holds it. -/
def B8 (b : UInt8) : Value := .int .u8 (b.toNat : Int)

/-- The byte of a number. -/
def ub (n : Nat) : UInt8 := UInt8.ofNat n

theorem ub_toNat (n : Nat) (h : n < 256) : (ub n).toNat = n := by simp [ub]; omega

/-- A number's shortest bytes: 'f' groups more at most. -/
def short : Nat → Nat → List UInt8
  | 0, n => [ub n]
  | f + 1, n => if n < 128 then [ub n] else ub (n % 128 + 128) :: short f (n / 128)

theorem short_small (f n : Nat) (h : n < 128) : short f n = [ub n] := by
  cases f with
  | zero => rfl
  | succ f => simp [short, h]

theorem short_big (f n : Nat) (h : 128 ≤ n) : short (f + 1) n = ub (n % 128 + 128) :: short f (n / 128) := by
  simp [short, show ¬ n < 128 by omega]

theorem short_length (f n : Nat) : (short f n).length ≤ f + 1 := by
  induction f generalizing n with
  | zero => simp [short]
  | succ f ih => unfold short; split <;> simp; have := ih (n / 128); omega

end Go.Proofs.YtcmahiphfpgadaaDoor

/- Small laws for walks over slices of bytes: an append of one byte to a row that the call itself made. -/
namespace Go.Proofs.YtcmahiphfpgadaaDoor
open Go.RowKit

theorem Tryd.info5 : (Tryd.prog.info? 5).map (fun i => (i.zero, i.size, i.bytes)) = some (some (.int .u8 0), 1, 1) := by kernel_rfl

/-- The call's own row of bytes. -/
def Own (base : Nat) (w : World) (v : Value) (out : List UInt8) : Prop := w.ownsRow base 5 1 v out.length (out.map B8)

theorem Own.nil (base : Nat) (w : World) : Own base w (.slice none 0 0) [] := World.ownsRow_nil _ _ _ _

theorem Own.block {base : Nat} {w : World} {v : Value} {out : List UInt8} (h : Own base w v out) : ∀ k, v.ownBlock = some k → base ≤ k := by
  intro k hk
  obtain ⟨_, ⟨rfl, _⟩ | ⟨g, cap, cur, rfl, hg, _⟩⟩ := h
  · simp [Value.ownBlock] at hk
  · simp [Value.ownBlock] at hk
    omega

/-- 'out = append(out, b)'. -/
theorem app1 {ops : Array Oper} {rest : List Oper} {o : Oper} {a : Act} {Q : Exit → Act → World → Prop} {w0 : World} (s x : Operand) (z : Int) (b : UInt8) (base : Nat) (v : Value) (out : List UInt8)
    (hgd : o.guard = none) (ho : o.op = .call { callee := .builtin .append, args := #[s, x], argTypes := #[50, 50] })
    (hs : a.eval s = v) (hx : a.eval x = .slice (some ⟨w0.heap.size, 0, none⟩) 1 1) (hown : Own base w0 v out) (hz : z = (b.toNat : Int)) (hlen : out.length ≤ 1099511627776) (hbase : base ≤ w0.heap.size)
    (h : ∀ v' w', Own base w' v' (out ++ [b]) → Below base w0 w' → wpList Tryd.prog ops Q rest (a.put o.dst v') w') :
    wpList Tryd.prog ops Q (o :: rest) a (w0.alloc (.cells #[.int .u8 z] 5)) := by
  obtain ⟨i0, hi, hz0, hz1, hz2⟩ := info_parts Tryd.info5
  refine wpList_append_own (w := w0.alloc (.cells #[.int .u8 z] 5)) hgd s x 50 ho base 5 i0 (.int .u8 0) 1 1 Tryd.underlying50 hi hz0 hz1 hz2 rfl (by decide) v out.length (out.map B8) hs (World.ownsRow.alloc hown _)
    ⟨w0.heap.size, 0, none⟩ 1 1 [.int .u8 z] hx rfl ?c1 ?c2 ?c3 ?c4 ?c5 ?_
  case c1 =>
    intro j u hj
    match j, hj with
    | 0, hj => simp at hj; subst hj; simp [Addr.add]
  case c2 => intro u hu; simp at hu; subst hu; rfl
  case c3 => unfold maxLen; omega
  case c4 => omega
  case c5 => simp; omega
  intro v' w' h1 h2 _
  refine h v' w' ?_ ?_
  · subst hz
    simpa [Own, B8] using h1
  · exact ((Below.refl base w0).alloc hbase _).grown h2 (by simp; omega) hown.block

/-- The same, the byte told by its number. -/
theorem app1n {ops : Array Oper} {rest : List Oper} {o : Oper} {a : Act} {Q : Exit → Act → World → Prop} {w0 : World} (s x : Operand) (z : Int) (k : Nat) (base : Nat) (v : Value) (out : List UInt8)
    (hgd : o.guard = none) (ho : o.op = .call { callee := .builtin .append, args := #[s, x], argTypes := #[50, 50] })
    (hs : a.eval s = v) (hx : a.eval x = .slice (some ⟨w0.heap.size, 0, none⟩) 1 1) (hown : Own base w0 v out) (hk : k < 256) (hz : z = (k : Int)) (hlen : out.length ≤ 1099511627776) (hbase : base ≤ w0.heap.size)
    (h : ∀ v' w', Own base w' v' (out ++ [ub k]) → Below base w0 w' → wpList Tryd.prog ops Q rest (a.put o.dst v') w') :
    wpList Tryd.prog ops Q (o :: rest) a (w0.alloc (.cells #[.int .u8 z] 5)) :=
  app1 s x z (ub k) base v out hgd ho hs hx hown (by rw [ub_toNat k hk]; exact hz) hlen hbase h

/-- What a slice of bytes that is read is known by: it has no bytes; or it leads to plain cells that hold them. -/
def Row (w : World) (a : Option Addr) (bs : List UInt8) : Prop :=
  bs = [] ∨ ∃ b off, a = some ⟨b, off, none⟩ ∧ ∀ j, j < bs.length → w.cell? ⟨b, off + j, none⟩ = some (.int .u8 ((bs.getD j 0).toNat : Int))

theorem lt_of_cell {w : World} {p : Addr} {v : Value} (h : w.cell? p = some v) : p.block < w.heap.size := by
  unfold World.cell? at h
  by_cases hp : p.block < w.heap.size
  · exact hp
  · rw [Array.getElem?_eq_none (by omega)] at h; simp at h

theorem Row.below {w w' : World} {a : Option Addr} {bs : List UInt8} (h : Row w a bs) (hb : Below w.heap.size w w') : Row w' a bs := by
  rcases h with h | ⟨b, off, rfl, hc⟩
  · exact .inl h
  · exact .inr ⟨b, off, rfl, fun j hj => by rw [hb.cell (lt_of_cell (hc j hj))]; exact hc j hj⟩

theorem Own.row {base : Nat} {w : World} {v : Value} {out : List UInt8} (h : Own base w v out) : ∃ a cap, v = .slice a out.length cap ∧ out.length ≤ cap ∧ cap ≤ maxLen ∧ Row w a out := by
  obtain ⟨h1, ⟨rfl, h0⟩ | ⟨g, cap, cur, rfl, hg, hh, hc, hm, hs, ht⟩⟩ := h
  · have : out = [] := List.length_eq_zero_iff.1 h0
    subst this
    exact ⟨none, 0, rfl, Nat.le_refl _, Nat.zero_le _, .inl rfl⟩
  · refine ⟨_, cap, rfl, hc, hm, .inr ⟨g, 0, rfl, fun j hj => ?_⟩⟩
    simp only [World.cell?, hh]
    have e1 : (cur.toList.take (out.length * 1))[j]? = some (B8 (out.getD j 0)) := by
      rw [ht]
      simp [List.getElem?_map, List.getElem?_eq_getElem hj, List.getD]
    rw [List.getElem?_take_of_lt (by omega)] at e1
    simpa [B8] using e1

theorem size5 (w : World) : (sizeOf 5).run Tryd.prog w = .ok 1 w := by kernel_rfl

/-- 'b[:h]'. -/
theorem run_slice_to (w : World) (a : Option Addr) (len cap h : Nat) (x : Int) (hx : x = (h : Int)) (hh : h ≤ cap) :
    (Instr.slice 50 (.slice a len cap) none (some (.int .i64 x)) none).run Tryd.prog w = .ok (.slice a h cap) w := by
  have he : Tryd.prog.elem 50 = 5 := by simp [Program.elem, Tryd.underlying50]
  rw [run_slice_h w 50 a len cap (by rw [he]; exact Tryd.underlying50) .i64 x (by omega) (by omega), he, size5]
  have hz : ∀ p : Addr, p.add 0 = p := fun p => by cases p; simp [Addr.add]
  have hm : a.map (fun p => p.add 0) = a := by cases a <;> simp [hz]
  simp only [Result.andThen, sliced, Nat.zero_mul, hm, Nat.sub_zero]
  rw [show x.toNat = h by omega]
  simp

end Go.Proofs.YtcmahiphfpgadaaDoor
