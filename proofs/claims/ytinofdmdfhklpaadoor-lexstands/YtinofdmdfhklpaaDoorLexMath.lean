/- The plain functions of letters, digits, signs and words that the contracts of lex speak of: no program is named here. -/
import Derived.WalkKit
import Derived.Lib.Bytealg
import Derived.Test.YtinofdmdfhklpaaDoorRefReadDec
namespace Go.Proofs.YtinofdmdfhklpaaDoor

/-- A letter. -/
def isLet (n : Nat) : Bool := (decide (97 ≤ n) && decide (n ≤ 122)) || (decide (65 ≤ n) && decide (n ≤ 90)) || decide (n = 95)

/-- A digit. -/
def isDig (n : Nat) : Bool := decide (48 ≤ n) && decide (n ≤ 57)

/-- What a byte begins: a word 1, a number 2, a sign 4. -/
def kindN (n : Nat) : Nat := if isLet n then 1 else if isDig n then 2 else 4

/-- The signs. -/
def signs : List (List UInt8) := [[59], [123], [125], [40], [41], [61], [61, 61], [33, 61], [60], [60, 61], [62], [62, 61], [43], [45], [42], [47], [37], [33], [38, 38], [124, 124]]

/-- A sign. -/
def isSg (l : List UInt8) : Bool := decide (l ∈ signs)

/-- The words of the language. -/
def words : List (List UInt8) := [[115, 104, 97, 114, 101, 100], [109, 117, 116, 101, 120], [116, 104, 114, 101, 97, 100], [108, 111, 99, 97, 108], [105, 110, 116], [98, 111, 111, 108], [114, 101, 97, 108], [108, 111, 99, 107], [117, 110, 108, 111, 99, 107], [97, 115, 115, 101, 114, 116], [105, 102], [101, 108, 115, 101], [119, 104, 105, 108, 101], [115, 107, 105, 112], [116, 114, 117, 101], [102, 97, 108, 115, 101], [110, 97, 110], [105, 110, 102]]

/-- A word of the language. -/
def isWd (l : List UInt8) : Bool := decide (l ∈ words)

theorem toList_bytes (s : ByteArray) : s.toList = bytes s := Lib.toList_data s

theorem mk_bytes (s : ByteArray) : s = ⟨(bytes s).toArray⟩ := by
  apply ByteArray.ext
  simp [bytes]

/-- A point and a digit come next. -/
def isPt : List UInt8 → Bool
  | c :: d :: _ => decide (c = 46) && isDig d.toNat
  | _ => false

theorem isPt_two (l : List UInt8) (h : 1 < l.length) : isPt l = (decide ((l.getD 0 0).toNat = 46) && isDig (l.getD 1 0).toNat) := by
  match l, h with
  | c :: d :: r, _ =>
    simp only [isPt, List.getD_cons_zero, List.getD_cons_succ]
    congr 1
    rw [Bool.eq_iff_iff]
    simp only [decide_eq_true_eq]
    constructor
    · rintro rfl; rfl
    · intro h; exact UInt8.toNat_inj.1 h

theorem isPt_short (l : List UInt8) (h : ¬ 1 < l.length) : isPt l = false := by
  match l, h with
  | [], _ => rfl
  | [_], _ => rfl
  | _ :: _ :: _, h => exact absurd (by simp) h

theorem isPt_str (s : ByteArray) (h : 1 < s.size) : isPt (bytes s) = (decide (s[0].toNat = 46) && isDig s[1].toNat) := by
  rw [isPt_two _ (by rw [bytes_length]; exact h), bytes_at s 0 (by omega), bytes_at s 1 h]

end Go.Proofs.YtinofdmdfhklpaaDoor
