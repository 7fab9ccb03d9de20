/- How far a token goes: plain functions on lists of bytes. -/
import Derived.Test.YtinofdmdfhklpaaDoorLexMath
namespace Go.Proofs.YtinofdmdfhklpaaDoor

/-- How many letters and digits stand ahead. -/
def alN : List UInt8 → Nat
  | [] => 0
  | c :: r => if isLet c.toNat || isDig c.toNat then alN r + 1 else 0

/-- How many digits stand ahead. -/
def dgN : List UInt8 → Nat
  | [] => 0
  | c :: r => if isDig c.toNat then dgN r + 1 else 0

/-- How many digits, or digits with one point and digits, stand ahead; 3 with the point, 2 without. -/
def nmN : List UInt8 → Nat × Nat
  | [] => (2, 0)
  | c :: r => if isPt (c :: r) then (3, dgN r + 1) else if isDig c.toNat then ((nmN r).1, (nmN r).2 + 1) else (2, 0)

/-- One, if a sign of two goes on. -/
def sgN (c : UInt8) : List UInt8 → Nat
  | [] => 0
  | d :: _ => if isSg [c, d] then 1 else 0

/-- A token's kind and length. -/
def endOf : List UInt8 → Nat × Nat
  | [] => (4, 0)
  | c :: r => if isLet c.toNat then (1, alN r + 1) else if isDig c.toNat then ((nmN r).1, (nmN r).2 + 1) else (4, sgN c r + 1)

theorem drop_at (s : ByteArray) (k : Nat) (h : k < s.size) : (bytes s).drop k = s[k] :: (bytes s).drop (k + 1) := by
  rw [← bytes_at s k h]
  have h' : k < (bytes s).length := by rw [bytes_length]; exact h
  rw [List.drop_eq_getElem_cons h']
  simp [List.getD, h']

theorem drop_end (s : ByteArray) (k : Nat) (h : ¬ k < s.size) : (bytes s).drop k = [] := by
  apply List.drop_eq_nil_of_le
  rw [bytes_length]
  omega

theorem bytes_extract (s : ByteArray) (i j : Nat) : bytes (s.extract i j) = ((bytes s).drop i).take (j - i) := Lib.extract_data s i j

theorem bytes_from (s : ByteArray) (i : Nat) : bytes (s.extract i s.size) = (bytes s).drop i := by
  rw [bytes_extract, List.take_of_length_le]
  rw [List.length_drop, bytes_length]; exact Nat.le_refl _

/-- No sign has three bytes. -/
theorem isSg_three (l : List UInt8) (h : 3 ≤ l.length) : isSg l = false := by
  simp only [isSg, decide_eq_false_iff_not]
  intro hm
  simp only [signs, List.mem_cons, List.not_mem_nil, or_false] at hm
  rcases hm with rfl | rfl | rfl | rfl | rfl | rfl | rfl | rfl | rfl | rfl | rfl | rfl | rfl | rfl | rfl | rfl | rfl | rfl | rfl | rfl <;> simp at h

end Go.Proofs.YtinofdmdfhklpaaDoor
