/- The law CompileKnown, reckoned: calls that are reckoned ahead of it. -/
import Derived.Test.YtlebhmdjejoaeaaGreatDoorEvK
namespace Go.Proofs.YtlebhmdjejoaeaaGreatDoor.Ev
open Go.RowKit
set_option linter.unusedVariables false
noncomputable def m1937 : Memo := ⟨5, [.string ⟨⟨[116, 104, 114, 101, 97, 100, 32, 116, 32, 123, 32, 105, 102, 32, 116, 114, 117, 101, 32, 123, 32, 125, 32, 101, 108, 115, 101, 32, 123, 32, 115, 107, 105, 112, 59, 32, 125, 32, 115, 107, 105, 112, 59, 32, 125]⟩⟩, .int .i64 (.ofNat 0), .agg ⟨[.slice none 0 0, .int .i64 (.ofNat 6), .int .i64 (.ofNat 0), .int .i64 (.ofNat 2), .int .i64 (.ofNat 1)]⟩], [], .bool true, [], 1959⟩
theorem m1937_in : ∀ p ∈ ([] : List (Nat × Memo)), Memoed Tryz.prog p := fun p hp => by cases hp
theorem m1937_ok : Memoed Tryz.prog (1452, m1937) :=
  memoed mixed_ok exs_ok (nt := 269) (nf := 225) (hints := hs) (md := 12) m1937_in (n := 1000000) (D := 12) (by kernel_rfl)
end Go.Proofs.YtlebhmdjejoaeaaGreatDoor.Ev
