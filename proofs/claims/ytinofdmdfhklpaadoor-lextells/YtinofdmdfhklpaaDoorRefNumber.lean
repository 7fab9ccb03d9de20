/- The document's own number: the token that begins with a digit. -/
import Derived.Test.YtinofdmdfhklpaaDoorNum2a
import Derived.Test.YtinofdmdfhklpaaDoorNum2b
import Derived.Test.YtinofdmdfhklpaaDoorNum2c
import Derived.Test.YtinofdmdfhklpaaDoorNum3
namespace Go.Proofs.YtinofdmdfhklpaaDoor
open Go.RowKit
set_option linter.unusedVariables false

theorem refNumber_any (s : ByteArray) (k K n : Nat) (w : World) (hk : k < s.size) (hs : s.size ≤ 1099511627775) (hd : isDig s[k].toNat = true) (hl : isLet s[k].toNat = false) (hKn : endOf ((bytes s).drop k) = (K, n)) :
    Calls Tryd.prog 26 #[.string s, .int .i64 (k : Int)] w fun e w' => e = .returned (.tuple #[.agg (oneTok s k K n).toArray, .agg (oneFa s k K n).toArray]) ∧ Below w.heap.size w w' := by
  cases hpt : isPt ((bytes s).drop (k + dgN ((bytes s).drop k)))
  · rcases pt_no s _ hpt with h1 | ⟨h1, h2 | ⟨h2, h3⟩⟩
    · exact refNumber_2a s k K n w hk hs hd hl hKn hpt h1
    · exact refNumber_2b s k K n w hk hs hd hl hKn hpt h1 (by rw [bytes_at s _ (by omega)]; exact h2)
    · exact refNumber_2c s k K n w hk hs hd hl hKn hpt h1 (by rw [bytes_at s _ (by omega)]; exact h2) (by rw [bytes_at s _ h1]; exact h3)
  · exact refNumber_3 s k K n w hk hs hd hl hKn hpt

end Go.Proofs.YtinofdmdfhklpaaDoor
