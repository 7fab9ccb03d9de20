/- octet.Dec and the document's own Dec. -/
import Derived.Test.YtinofdmdfhklpaaDoorReadDec
namespace Go.Proofs.YtinofdmdfhklpaaDoor
open Go.RowKit
set_option linter.unusedVariables false

/-- A number's digits: 'f' more at most. -/
def digs : Nat → Nat → List UInt8
  | 0, n => [ub (48 + n % 10)]
  | f + 1, n => if n < 10 then [ub (48 + n % 10)] else digs f (n / 10) ++ [ub (48 + n % 10)]

theorem digs_small (f n : Nat) (h : n < 10) : digs f n = [ub (48 + n % 10)] := by
  cases f with
  | zero => rfl
  | succ f => simp [digs, h]

theorem digs_big (f n : Nat) (h : 10 ≤ n) : digs (f + 1) n = digs f (n / 10) ++ [ub (48 + n % 10)] := by
  simp [digs, show ¬ n < 10 by omega]

/-- The digits of a number, with - ahead of one below 0. -/
def decOf (n : Int) : List UInt8 := if n < 0 then ub 45 :: digs 19 n.natAbs else digs 19 n.natAbs

theorem hexdig : ∀ j : Fin 16, (({ data := #[48, 49, 50, 51, 52, 53, 54, 55, 56, 57, 97, 98, 99, 100, 101, 102] } : ByteArray)[j.val]'(j.isLt)).toNat = if j.val < 10 then 48 + j.val else 87 + j.val := by decide +kernel

theorem dig_at (j : Nat) (h : j < 10) (h' : j < (({ data := #[48, 49, 50, 51, 52, 53, 54, 55, 56, 57, 97, 98, 99, 100, 101, 102] } : ByteArray)).size) : ((({ data := #[48, 49, 50, 51, 52, 53, 54, 55, 56, 57, 97, 98, 99, 100, 101, 102] } : ByteArray)[j]'h').toNat : Int) = ((48 + j % 10 : Nat) : Int) := by
  have := hexdig ⟨j, by omega⟩
  simp only [h, if_true] at this
  rw [this]
  omega

theorem digs_step {N f m : Nat} {back : List UInt8} (hb : 10 ≤ m) (hm : m < 10 ^ (f + 1)) (hf : f + back.length = 19) (h : digs f m ++ back.reverse = digs 19 N) :
    ∃ f', f = f' + 1 ∧ f' + (back ++ [ub (48 + m % 10)]).length = 19 ∧ m / 10 < 10 ^ (f' + 1) ∧ digs f' (m / 10) ++ (back ++ [ub (48 + m % 10)]).reverse = digs 19 N := by
  cases f with
  | zero => simp at hm; omega
  | succ f =>
    refine ⟨f, rfl, by simp; omega, ?_, ?_⟩
    · rw [Nat.div_lt_iff_lt_mul (by omega)]; rwa [Nat.pow_succ] at hm
    · rw [← h, digs_big f m hb]; simp

theorem drop_reverse (B : List UInt8) (k : Nat) (h : k < B.length) : (B.drop (k + 1)).reverse ++ [B.getD k 0] = (B.drop k).reverse := by
  rw [List.drop_eq_getElem_cons h, List.reverse_cons]
  simp [List.getD, List.getElem?_eq_getElem h]

end Go.Proofs.YtinofdmdfhklpaaDoor
