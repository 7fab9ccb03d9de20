/- The document's own ReadDec. -/
import Derived.Test.YtinofdmdfhklpaaDoorDecMath
namespace Go.Proofs.YtinofdmdfhklpaaDoor
open Go.RowKit
set_option linter.unusedVariables false

/-- The bytes of a text. -/
def bytes (s : ByteArray) : List UInt8 := s.data.toList

theorem bytes_length (s : ByteArray) : (bytes s).length = s.size := by simp [bytes]

theorem bytes_at (s : ByteArray) (k : Nat) (h : k < s.size) : (bytes s).getD k 0 = s[k] := by
  have : k < s.data.toList.length := by simpa using h
  simp [bytes, List.getD, h]
  rfl

theorem ret_pair {k1 k2 : IntKind} {a b a' b' : Int} (h : a = a') (h' : b = b') : Ending.returned (.tuple #[.int k1 a, .int k2 b]) = .returned (.tuple #[.int k1 a', .int k2 b']) := by rw [h, h']

end Go.Proofs.YtinofdmdfhklpaaDoor
