/- The document's own Dec. -/
import Derived.Test.YtinofdmdfhklpaaDoorDec
namespace Go.Proofs.YtinofdmdfhklpaaDoor
open Go.RowKit
set_option linter.unusedVariables false

theorem cut10 : ∀ d : Fin 10, ({ data := #[48, 49, 50, 51, 52, 53, 54, 55, 56, 57] } : ByteArray).extract d.val (d.val + 1) = ⟨#[ub (48 + d.val % 10)]⟩ := by decide +kernel

theorem cat_one (x : UInt8) (l : List UInt8) : (⟨#[x]⟩ ++ ⟨l.toArray⟩ : ByteArray) = ⟨(x :: l).toArray⟩ := by
  apply ByteArray.ext
  simp

theorem digs_up {N f m : Nat} {l : List UInt8} (hb : 10 ≤ m) (hm : m < 10 ^ (f + 1)) (hf : f + l.length = 19) (h : digs f m ++ l = digs 19 N) :
    ∃ f', f = f' + 1 ∧ f' + (ub (48 + m % 10) :: l).length = 19 ∧ m / 10 < 10 ^ (f' + 1) ∧ digs f' (m / 10) ++ (ub (48 + m % 10) :: l) = digs 19 N := by
  cases f with
  | zero => simp at hm; omega
  | succ f =>
    refine ⟨f, rfl, by simp; omega, ?_, ?_⟩
    · rw [Nat.div_lt_iff_lt_mul (by omega)]; rwa [Nat.pow_succ] at hm
    · rw [← h, digs_big f m hb]; simp

theorem tmod_neg (m : Nat) : (-(m : Int)).tmod 10 = -((m : Int) % 10) := by
  rw [Int.neg_tmod, Int.tmod_eq_emod_of_nonneg (by omega)]

theorem tdiv_neg (m : Nat) : (-(m : Int)).tdiv 10 = -((m : Int) / 10) := by
  rw [Int.neg_tdiv, Int.tdiv_eq_ediv_of_nonneg (by omega)]

end Go.Proofs.YtinofdmdfhklpaaDoor
