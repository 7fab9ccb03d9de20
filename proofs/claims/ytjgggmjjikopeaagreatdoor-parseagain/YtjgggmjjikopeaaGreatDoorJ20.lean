/- Joined texts of the proof. -/
import Derived.Test.YtjgggmjjikopeaaGreatDoorJ19

/- The document's own Lex: the tokens of a text, or its first fault. -/
namespace Go.Proofs.YtjgggmjjikopeaaGreatDoor
open Go.RowKit
set_option linter.unusedVariables false

theorem run_eq25 (e p e' p' : Nat) (u : World) : (Op.equalIn 10000 29 (.agg (fa2 e p).toArray) (.agg (fa2 e' p').toArray)).run Tryz.prog u = .ok (decide (e = e') && decide (p = p')) u := by
  unfold fa2
  by_cases h1 : e = e'
  · by_cases h2 : p = p'
    · subst h1 h2
      go_simp
    · have hp : ((p : Int) == (p' : Int)) = false := by rw [beq_eq_false_iff_ne]; omega
      subst h1
      simp only [h2, decide_false, Bool.and_false]
      go_simp
  · have he : ((e : Int) == (e' : Int)) = false := by rw [beq_eq_false_iff_ne]; omega
    simp only [h1, decide_false, Bool.false_and]
    go_simp

end Go.Proofs.YtjgggmjjikopeaaGreatDoor
