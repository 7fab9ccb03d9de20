/- assizeref02.Sum tells the digest of what a slice of bytes holds. -/
import Derived.Test.YtbigkblkfnnfkabDoorHash
namespace Go.Proofs.YtbigkblkfnnfkabDoor
open Go.RowKit
set_option linter.unusedVariables false

/-- What a message is with the first j noughts behind it. -/
def padZ (m : List UInt8) (j : Nat) : List UInt8 := m ++ [128] ++ List.replicate j 0
theorem padZ_length (m : List UInt8) (j : Nat) : (padZ m j).length = m.length + 1 + j := by simp [padZ]; omega
theorem padZ_step (m : List UInt8) (j : Nat) : padZ m j ++ [0] = padZ m (j + 1) := by simp [padZ, List.replicate_succ']
theorem padZ_end (m : List UInt8) : padZ m (zeros m.length) ++ eight (8 * m.length) 8 = pad m := by simp [padZ, pad, tail]

theorem Own.below {base : Nat} {w w' : World} {v : Value} {out : List UInt8} (h : Own base w v out) (hb : Below w.heap.size w w') : Own base w' v out := by
  obtain ⟨h1, ⟨h2, h3⟩ | ⟨g, cap, cur, h2, h3, h4, h5⟩⟩ := h
  · exact ⟨h1, .inl ⟨h2, h3⟩⟩
  · refine ⟨h1, .inr ⟨g, cap, cur, h2, h3, ?_, h5⟩⟩
    rw [hb.block g (Array.getElem?_eq_some_iff.1 h4).1]
    exact h4

theorem Row.notNil {w : World} {a : Option Addr} {bs : List UInt8} {c : Nat} (h : Row w a bs) (hl : 0 < bs.length) : a = none → c = 0 := by
  intro h0
  rcases h with h | ⟨b, off, e, _⟩
  · rw [h] at hl; simp at hl
  · rw [h0] at e; cases e

/-- A slice's length. -/
def lenOf : Value → Nat
  | .slice _ n _ => n
  | _ => 0

end Go.Proofs.YtbigkblkfnnfkabDoor
