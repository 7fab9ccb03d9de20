/- The law CompileKnown, reckoned: calls that are reckoned ahead of it. -/
import Derived.Test.YtlebhmdjejoaeaaGreatDoorEvK
namespace Go.Proofs.YtlebhmdjejoaeaaGreatDoor.Ev
open Go.RowKit
set_option linter.unusedVariables false
noncomputable def m4049 : Memo := ⟨6, [.string ⟨⟨[115, 104, 97, 114, 101, 100, 32, 120, 32, 105, 110, 116, 59, 32, 116, 104, 114, 101, 97, 100, 32, 116, 32, 123, 32, 108, 111, 99, 97, 108, 32, 105, 32, 105, 110, 116, 59, 32, 105, 32, 61, 32, 120, 32, 43, 32, 49, 32, 42, 32, 50, 59, 32, 125]⟩⟩], [], .tuple ⟨[.agg ⟨[.slice (some ⟨3514, 0, none⟩) 1 1, .int .i64 (.ofNat 0), .slice (some ⟨3516, 0, none⟩) 1 1]⟩, .bool true]⟩, [(3568, ⟨42, 20, 5, [.int .u8 (.ofNat 31), .int .i64 (.ofNat 0), .int .u8 (.ofNat 0), .int .u64 (.ofNat 0), .int .u8 (.ofNat 1), .int .i64 (.ofNat 0), .int .u8 (.ofNat 1), .int .u64 (.ofNat 1), .int .u8 (.ofNat 1), .int .i64 (.ofNat 0), .int .u8 (.ofNat 1), .int .u64 (.ofNat 2), .int .u8 (.ofNat 13), .int .i64 (.ofNat 0), .int .u8 (.ofNat 0), .int .u64 (.ofNat 0), .int .u8 (.ofNat 11), .int .i64 (.ofNat 0), .int .u8 (.ofNat 0), .int .u64 (.ofNat 0)], true, 0, false, false⟩), (3532, ⟨26, 5, 3, [.slice (some ⟨3568, 0, none⟩) 5 65836429599069389717504, .int .i64 (.ofNat 1), .int .i64 (.ofNat 0), .int .i64 (.ofNat 1), .int .i64 (.ofNat 0)], false, 0, false, false⟩), (3570, ⟨40, 2, 1, [.int .u8 (.ofNat 1), .int .u64 (.ofNat 0)], false, 0, false, false⟩), (3516, ⟨35, 3, 2, [.slice (some ⟨3570, 0, none⟩) 1 1, .int .i64 (.ofNat 3), .slice (some ⟨3532, 0, none⟩) 1 1], false, 0, false, false⟩), (3514, ⟨40, 2, 1, [.int .u8 (.ofNat 1), .int .u64 (.ofNat 0)], false, 0, false, false⟩)], 3573⟩
theorem m4049_in : ∀ p ∈ ([] : List (Nat × Memo)), Memoed Tryz.prog p := fun p hp => by cases hp
theorem m4049_ok : Memoed Tryz.prog (2973, m4049) :=
  memoed mixed_ok exs_ok (nt := 269) (nf := 225) (hints := hs) (md := 12) m4049_in (n := 1000000) (D := 12) (by kernel_rfl)
end Go.Proofs.YtlebhmdjejoaeaaGreatDoor.Ev
