/- Joined texts of the proof. -/
import Derived.Test.YtjgggmjjikopeaaGreatDoorJ7

/- lex, as plain functions on lists of bytes: what is passed over, the token at a place, the tokens of a text. -/
namespace Go.Proofs.YtjgggmjjikopeaaGreatDoor

/-- A blank. -/
def isBl (n : Nat) : Bool := decide (n = 9) || decide (n = 10) || decide (n = 13) || decide (n = 32)

/-- How many bytes of blanks and comments stand ahead; in a comment, or not. -/
def skF : Bool → List UInt8 → Nat
  | _, [] => 0
  | true, c :: r => if c.toNat = 10 then skF false r + 1 else skF true r + 1
  | false, c :: r => if isBl c.toNat then skF false r + 1 else if c.toNat = 35 then skF true r + 1 else 0

/-- How many bytes of blanks and comments stand ahead. -/
def skN (l : List UInt8) : Nat := skF false l

/-- The error of a token, by its kind and bytes; 0: there is none. -/
def errOf (K : Nat) (x : List UInt8) : Nat :=
  if K = 1 then (if 24 < x.length then 5 else 0)
  else if K = 2 then (if GoodDec x then 0 else 4)
  else if K = 3 then (if IsLit x then 0 else 4)
  else (if isSg x then 0 else 4)

/-- The type of a token's value. -/
def valT (K : Nat) : Nat := if K = 2 then 1 else if K = 3 then 3 else 0

/-- The bits of a token's value. -/
def valB (K : Nat) (x : List UInt8) : Nat := if K = 2 then decVal x else if K = 3 then quo (litNum x) (10 ^ (behindOf x).length) else 0

/-- May what comes next not stand directly behind such a token? -/
def clB (K : Nat) (r : List UInt8) : Bool :=
  (decide (K = 2) || decide (K = 3)) && (match r with | [] => false | c :: _ => isLet c.toNat || decide (c.toNat = 46))

/-- A token. -/
structure Tk where
  kind : Nat
  text : List UInt8
  place : Nat
  bits : Nat
  deriving DecidableEq

/-- A token as its cells. -/
def Tk.cells (t : Tk) : List Value := [.int .i64 (t.kind : Int), .string ⟨t.text.toArray⟩, .int .i64 (t.place : Int), .int .u8 (valT t.kind : Nat), .int .u64 (t.bits : Nat)]

/-- The token of a kind and bytes at a place. -/
def tkOf (K : Nat) (x : List UInt8) (p : Nat) : Tk := ⟨K, x, p, valB K x⟩

/-- Tokens, or an error and its place. -/
structure Out where
  toks : List Tk
  err : Nat
  place : Nat
  deriving DecidableEq

/-- Tokens ahead of an answer. -/
def Out.ahead (acc : List Tk) (r : Out) : Out := if r.err = 0 then ⟨acc ++ r.toks, 0, 0⟩ else r

/-- The tokens from a place on where neither a blank nor a comment stands; f: how many at most. -/
def lexA (l : List UInt8) : Nat → Nat → Out
  | 0, _ => ⟨[], 0, 0⟩
  | f + 1, p =>
    if l.length ≤ p then ⟨[], 0, 0⟩
    else
      let K := (endOf (l.drop p)).1
      let n := (endOf (l.drop p)).2
      let x := (l.drop p).take n
      if errOf K x ≠ 0 then ⟨[], errOf K x, p⟩
      else if clB K (l.drop (p + n)) = true then ⟨[], 4, p + n⟩
      else (lexA l f (p + n + skN (l.drop (p + n)))).ahead [tkOf K x p]

/-- What Lex answers. -/
def lexS (l : List UInt8) : Out := if 16384 < l.length then ⟨[], 3, 16384⟩ else lexA l (l.length + 1) (skN l)

theorem Out.ahead_nil (r : Out) (h : r.err = 0 → r.place = 0) : r.ahead [] = r := by
  unfold Out.ahead
  split
  · next h0 => cases r; simp at h0 h ⊢; exact ⟨h0.symm, (h h0).symm⟩
  · rfl

theorem Out.ahead_ahead (a b : List Tk) (r : Out) : (r.ahead b).ahead a = r.ahead (a ++ b) := by
  unfold Out.ahead
  split
  · simp
  · rfl

theorem skF_le (b : Bool) (l : List UInt8) : skF b l ≤ l.length := by
  induction l generalizing b with
  | nil => cases b <;> simp [skF]
  | cons c r ih =>
    have h1 := ih true
    have h2 := ih false
    cases b <;> simp only [skF, List.length_cons] <;> split <;> (try split) <;> omega

theorem lexA_end (l : List UInt8) (f p : Nat) (h : l.length ≤ p) : lexA l f p = ⟨[], 0, 0⟩ := by
  cases f <;> simp [lexA, h]

theorem lexA_err (l : List UInt8) (f p : Nat) (h : p < l.length) (he : errOf (endOf (l.drop p)).1 ((l.drop p).take (endOf (l.drop p)).2) ≠ 0) :
    lexA l (f + 1) p = ⟨[], errOf (endOf (l.drop p)).1 ((l.drop p).take (endOf (l.drop p)).2), p⟩ := by
  simp only [lexA, show ¬ l.length ≤ p by omega, if_false, he, ne_eq, not_false_eq_true, if_true]

theorem lexA_clings (l : List UInt8) (f p : Nat) (h : p < l.length) (he : errOf (endOf (l.drop p)).1 ((l.drop p).take (endOf (l.drop p)).2) = 0) (hc : clB (endOf (l.drop p)).1 (l.drop (p + (endOf (l.drop p)).2)) = true) :
    lexA l (f + 1) p = ⟨[], 4, p + (endOf (l.drop p)).2⟩ := by
  simp only [lexA, show ¬ l.length ≤ p by omega, if_false, he, ne_eq, not_true_eq_false, hc, if_true]

theorem lexA_step (l : List UInt8) (f p : Nat) (h : p < l.length) (he : errOf (endOf (l.drop p)).1 ((l.drop p).take (endOf (l.drop p)).2) = 0) (hc : clB (endOf (l.drop p)).1 (l.drop (p + (endOf (l.drop p)).2)) = false) :
    lexA l (f + 1) p = (lexA l f (p + (endOf (l.drop p)).2 + skN (l.drop (p + (endOf (l.drop p)).2)))).ahead [tkOf (endOf (l.drop p)).1 ((l.drop p).take (endOf (l.drop p)).2) p] := by
  simp only [lexA, show ¬ l.length ≤ p by omega, if_false, he, ne_eq, not_true_eq_false, hc]
  rfl

theorem alN_le' (l : List UInt8) : alN l ≤ l.length := by
  induction l with
  | nil => simp [alN]
  | cons c r ih => simp only [alN]; split <;> simp; omega

theorem dgN_le (l : List UInt8) : dgN l ≤ l.length := by
  induction l with
  | nil => simp [dgN]
  | cons c r ih => simp only [dgN]; split <;> simp; omega

theorem nmN_le (l : List UInt8) : (nmN l).2 ≤ l.length := by
  induction l with
  | nil => simp [nmN]
  | cons c r ih => have := dgN_le r; simp only [nmN]; split <;> (try split) <;> simp <;> omega

theorem nmN_kind (l : List UInt8) : (nmN l).1 = 2 ∨ (nmN l).1 = 3 := by
  induction l with
  | nil => exact .inl rfl
  | cons d q ih => simp only [nmN]; split; exact .inr rfl; split; exact ih; exact .inl rfl

/-- A token's kind and length. -/
theorem endOf_bounds (l : List UInt8) (h : 0 < l.length) : 1 ≤ (endOf l).2 ∧ (endOf l).2 ≤ l.length ∧ ((endOf l).1 = 1 ∨ (endOf l).1 = 2 ∨ (endOf l).1 = 3 ∨ (endOf l).1 = 4) := by
  match l, h with
  | c :: r, _ =>
    have h1 := alN_le' r
    have h2 := nmN_le r
    have h3 := nmN_kind r
    simp only [endOf, List.length_cons]
    split
    · simp; omega
    · split
      · refine ⟨by simp, by simp; omega, ?_⟩
        simp only []
        omega
      · cases r with
        | nil => simp [sgN]
        | cons d q => simp only [sgN]; split <;> simp

end Go.Proofs.YtjgggmjjikopeaaGreatDoor
