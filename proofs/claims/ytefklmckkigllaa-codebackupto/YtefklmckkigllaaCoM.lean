/- What is written is read, and what is read is written: the mathematics. -/
import Derived.Test.YtefklmckkigllaaRdG
namespace Go.Proofs.Ytefklmckkigllaa
open Go.RowKit
set_option linter.unusedVariables false

/-- A reader and its writer. -/
structure Cod {α : Type} (f : St → α × St) (e : α → List UInt8) (p : α → Prop) : Prop where
  to : ∀ x r, p x → f (e x ++ r, false) = (x, (r, false))
  back : ∀ b x r, f (b, false) = (x, (r, false)) → b = e x ++ r ∧ p x
  bad : ∀ b, (f (b, true)).2.2 = true
theorem Cod.good {α : Type} {f : St → α × St} {e : α → List UInt8} {p : α → Prop} (h : Cod f e p) {st : St} (hb : (f st).2.2 = false) : st.2 = false := by
  obtain ⟨b, q⟩ := st
  cases q
  · rfl
  · rw [h.bad b] at hb; cases hb

theorem bytesOf_mod (s n : Nat) : ∀ k, bytesOf s (n + k * 256 ^ s) = bytesOf s n := by
  induction s with
  | zero => intro k; rfl
  | succ s ih =>
    intro k
    have e : n + k * 256 ^ (s + 1) = n + (k * 256) * 256 ^ s := by rw [Nat.pow_succ, Nat.mul_assoc, Nat.mul_comm 256]
    have hp : 0 < 256 ^ s := Nat.pow_pos (by decide)
    rw [bytesOf, bytesOf, e, ih (k * 256), Nat.add_mul_div_right _ _ hp]
    congr 2
    omega
theorem number_cons (b : UInt8) (l : List UInt8) : number (b :: l) = b.toNat * 256 ^ l.length + number l := by
  have go : ∀ (l : List UInt8) (n : Nat), l.foldl (fun n b => n * 256 + b.toNat) n = n * 256 ^ l.length + l.foldl (fun n b => n * 256 + b.toNat) 0 := by
    intro l
    induction l with
    | nil => intro n; simp
    | cons c l ih =>
      intro n
      rw [List.foldl_cons, List.foldl_cons, ih (n * 256 + c.toNat), ih (0 * 256 + c.toNat), List.length_cons, Nat.pow_succ, Nat.add_mul, Nat.zero_mul, Nat.zero_add, Nat.mul_assoc, Nat.mul_comm 256, Nat.add_assoc]
  unfold number
  rw [List.foldl_cons, go, Nat.zero_mul, Nat.zero_add]
theorem bytesOf_number : ∀ l : List UInt8, bytesOf l.length (number l) = l
  | [] => rfl
  | b :: l => by
    have hn := number_lt l
    have hp : 0 < 256 ^ l.length := Nat.pow_pos (by decide)
    rw [List.length_cons, bytesOf, number_cons]
    have e1 : (b.toNat * 256 ^ l.length + number l) / 256 ^ l.length % 256 = b.toNat := by
      rw [Nat.add_comm, Nat.add_mul_div_right _ _ hp, Nat.div_eq_of_lt hn, Nat.zero_add]
      have := UInt8.toNat_lt b
      omega
    rw [e1, Nat.add_comm, bytesOf_mod, bytesOf_number l]
    congr 1
    simp [ub]
theorem number_bytesOf (s n : Nat) (h : n < 256 ^ s) : number (bytesOf s n) = n := by
  induction s generalizing n with
  | zero => simp at h; subst h; rfl
  | succ s ih =>
    have hp : 0 < 256 ^ s := Nat.pow_pos (by decide)
    rw [bytesOf, number_cons, bytesOf_length, ub_toNat _ (Nat.mod_lt _ (by decide))]
    have hd : n / 256 ^ s < 256 := by rw [Nat.div_lt_iff_lt_mul hp]; rw [Nat.pow_succ, Nat.mul_comm] at h; exact h
    rw [Nat.mod_eq_of_lt hd]
    have e : bytesOf s n = bytesOf s (n % 256 ^ s) := by
      have := bytesOf_mod s (n % 256 ^ s) (n / 256 ^ s)
      rw [show n % 256 ^ s + n / 256 ^ s * 256 ^ s = n by rw [Nat.mul_comm]; exact Nat.mod_add_div n _] at this
      exact this
    rw [e, ih _ (Nat.mod_lt _ hp), Nat.mul_comm]
    exact Nat.div_add_mod n _
theorem codNum (s : Nat) : Cod (numR s) (bytesOf s) (fun n => n < 256 ^ s) where
  to x r hx := by
    unfold numR
    dsimp only
    have hl := bytesOf_length s x
    rw [if_neg (by rw [List.length_append]; simp; omega), List.take_left' hl, List.drop_left' hl, number_bytesOf s x hx]
  back b x r h := by
    unfold numR at h
    dsimp only at h
    split at h
    · cases h
    · next hn =>
      have hl : (b.take s).length = s := by rw [List.length_take]; simp at hn; omega
      have h1 : number (b.take s) = x := congrArg Prod.fst h
      have h2 : b.drop s = r := congrArg (fun q => q.2.1) h
      have hb := bytesOf_number (b.take s)
      have hlt := number_lt (b.take s)
      rw [hl, h1] at hb hlt
      exact ⟨by rw [hb, ← h2, List.take_append_drop], hlt⟩
  bad b := by
    unfold numR
    rw [if_pos (Or.inl rfl)]

/-- One behind the other. -/
def thenR {α β : Type} (f : St → α × St) (g : St → β × St) (st : St) : (α × β) × St := (((f st).1, (g (f st).2).1), (g (f st).2).2)
theorem Cod.then {α β : Type} {f : St → α × St} {g : St → β × St} {e : α → List UInt8} {d : β → List UInt8} {p : α → Prop} {q : β → Prop} (h : Cod f e p) (k : Cod g d q) : Cod (thenR f g) (fun x => e x.1 ++ d x.2) (fun x => p x.1 ∧ q x.2) where
  to x r hx := by
    unfold thenR
    rw [List.append_assoc, h.to x.1 _ hx.1]
    dsimp only
    rw [k.to x.2 r hx.2]
  back b x r hx := by
    unfold thenR at hx
    obtain ⟨a, b1, c, hF⟩ : ∃ a b1 c, f (b, false) = (a, (b1, c)) := ⟨_, _, _, rfl⟩
    rw [hF] at hx
    dsimp only at hx
    obtain ⟨y, s2, hG⟩ : ∃ y s2, g (b1, c) = (y, s2) := ⟨_, _, rfl⟩
    rw [hG] at hx
    dsimp only at hx
    injection hx with h1 h2
    subst h1 h2
    have hc : c = false := k.good (st := (b1, c)) (by rw [hG])
    subst hc
    obtain ⟨e1, e2⟩ := h.back _ _ _ hF
    obtain ⟨e3, e4⟩ := k.back _ _ _ hG
    exact ⟨by rw [List.append_assoc, ← e3]; exact e1, e2, e4⟩
  bad b := by
    show (g (f (b, true)).2).2.2 = true
    cases hq : (g (f (b, true)).2).2.2
    · have := k.good hq
      rw [h.bad] at this
      cases this
    · rfl
/-- The same, by another name. -/
theorem Cod.map {α β : Type} {f : St → α × St} {e : α → List UInt8} {p : α → Prop} (h : Cod f e p) (to : α → β) (of : β → α) (E : β → List UInt8) (P : β → Prop) (hE : ∀ y, P y → E y = e (of y)) (hP : ∀ y, P y → p (of y)) (hto : ∀ y, P y → to (of y) = y) (hback : ∀ x, p x → P (to x) ∧ of (to x) = x) : Cod (fun st => (to (f st).1, (f st).2)) E P where
  to y r hy := by rw [hE y hy, h.to _ r (hP y hy), hto y hy]
  back b y r hy := by
    have h1 : to (f (b, false)).1 = y := congrArg Prod.fst hy
    have h2 : (f (b, false)).2 = (r, false) := congrArg Prod.snd hy
    have h3 : f (b, false) = ((f (b, false)).1, (r, false)) := by rw [← h2]
    obtain ⟨e1, e2⟩ := h.back _ _ _ h3
    obtain ⟨b1, b2⟩ := hback _ e2
    rw [h1] at b1 b2
    exact ⟨by rw [hE y b1, b2]; exact e1, b1⟩
  bad b := h.bad b

/-- So many of them. -/
theorem Cod.times_to {α : Type} {f : St → α × St} {e : α → List UInt8} {p : α → Prop} (h : Cod f e p) : ∀ (l : List α) (r : List UInt8), (∀ x ∈ l, p x) → timesR f l.length (l.flatMap e ++ r, false) = (l, (r, false))
  | [], r, _ => rfl
  | x :: l, r, hl => by
    rw [List.length_cons, timesR, List.flatMap_cons, List.append_assoc, h.to x _ (hl x List.mem_cons_self)]
    dsimp only
    rw [Cod.times_to h l r fun y hy => hl y (List.mem_cons_of_mem _ hy)]
theorem Cod.times_bad {α : Type} {f : St → α × St} {e : α → List UInt8} {p : α → Prop} (h : Cod f e p) : ∀ (k : Nat) (st : St), (timesR f k st).2.2 = false → st.2 = false
  | 0, st, hs => hs
  | k + 1, st, hs => h.good (Cod.times_bad h k _ hs)
theorem Cod.times_back {α : Type} {f : St → α × St} {e : α → List UInt8} {p : α → Prop} (h : Cod f e p) : ∀ (k : Nat) (b : List UInt8) (l : List α) (r : List UInt8), timesR f k (b, false) = (l, (r, false)) → b = l.flatMap e ++ r ∧ (∀ x ∈ l, p x) ∧ l.length = k
  | 0, b, l, r, hl => by
    injection hl with h1 h2
    injection h2 with h2 h3
    subst h1 h2
    exact ⟨rfl, fun x hx => (by cases hx), rfl⟩
  | k + 1, b, l, r, hl => by
    rw [timesR] at hl
    obtain ⟨a, b1, c, hF⟩ : ∃ a b1 c, f (b, false) = (a, (b1, c)) := ⟨_, _, _, rfl⟩
    rw [hF] at hl
    dsimp only at hl
    obtain ⟨y, s2, hG⟩ : ∃ y s2, timesR f k (b1, c) = (y, s2) := ⟨_, _, rfl⟩
    rw [hG] at hl
    dsimp only at hl
    injection hl with h1 h2
    subst h1 h2
    have hc : c = false := Cod.times_bad h k (b1, c) (by rw [hG])
    subst hc
    obtain ⟨e1, e2⟩ := h.back _ _ _ hF
    obtain ⟨e3, e4, e5⟩ := Cod.times_back h k _ _ _ hG
    refine ⟨by rw [List.flatMap_cons, List.append_assoc, ← e3]; exact e1, fun x hx => ?_, by rw [List.length_cons, e5]⟩
    rcases List.mem_cons.1 hx with hx | hx
    · rw [hx]; exact e2
    · exact e4 x hx
theorem Cod.list {α : Type} {f : St → α × St} {e : α → List UInt8} {p : α → Prop} (h : Cod f e p) (s most : Nat) : Cod (listR f s most) (fun l => bytesOf s l.length ++ l.flatMap e) (fun l => l.length ≤ most ∧ l.length < 256 ^ s ∧ ∀ x ∈ l, p x) where
  to l r hl := by
    unfold listR
    rw [List.append_assoc, (codNum s).to _ _ hl.2.1]
    dsimp only
    by_cases h0 : l.length = 0
    · have : l = [] := List.length_eq_zero_iff.1 h0
      subst this
      rw [if_pos (by exact Or.inr (Or.inr rfl))]
      simp
    · rw [if_neg (by rintro (q | q | q); cases q; omega; exact h0 q)]
      exact h.times_to l r hl.2.2
  back b l r hl := by
    unfold listR at hl
    have hb : ∀ (x : Nat) (q : List UInt8), (numR s (b, false)) = (x, (q, false)) → b = bytesOf s x ++ q ∧ x < 256 ^ s := fun x q hq => (codNum s).back b x q hq
    generalize numR s (b, false) = Z at *
    obtain ⟨k, q, bad⟩ := Z
    dsimp only at hl
    split at hl
    · next hc =>
      have h1 : [] = l := congrArg Prod.fst hl
      have h2 : q = r := congrArg (fun x => x.2.1) hl
      have h3 : (bad || decide (most < k)) = false := congrArg (fun x => x.2.2) hl
      rw [Bool.or_eq_false_iff] at h3
      have hk : k = 0 := by
        rcases hc with c | c | c
        · rw [h3.1] at c; cases c
        · exact absurd c (of_decide_eq_false h3.2)
        · exact c
      subst h1 h2 hk
      rw [h3.1] at hb
      obtain ⟨e1, e2⟩ := hb 0 q rfl
      exact ⟨by simpa using e1, Nat.zero_le _, e2, fun x hx => by cases hx⟩
    · next hc =>
      have hbad : bad = false := by cases bad; rfl; exact absurd (Or.inl rfl) hc
      subst hbad
      obtain ⟨e1, e2⟩ := hb k q rfl
      obtain ⟨e3, e4, e5⟩ := h.times_back k q l r hl
      rw [e5]
      exact ⟨by rw [List.append_assoc, ← e3]; exact e1, Nat.le_of_not_lt fun c => hc (Or.inr (Or.inl c)), e2, e4⟩
  bad b := by
    unfold listR
    have hb := (codNum s).bad b
    rw [if_pos (Or.inl hb), hb]
    rfl
end Go.Proofs.Ytefklmckkigllaa
