/- The law DepKnown, reckoned: calls that are reckoned ahead of it. -/
import Derived.Test.YtdmpnjlkjlllbaaGreatDoorEvK
import Derived.Test.YtdmpnjlkjlllbaaGreatDoorEvR1
namespace Go.Proofs.YtdmpnjlkjlllbaaGreatDoor.Ev
open Go.RowKit
set_option linter.unusedVariables false
noncomputable def m5 : Memo := ⟨10, [], [], .agg ⟨[.slice (some ⟨1124, 0, none⟩) 1 1, .int .i64 (.ofNat 1), .slice (some ⟨1126, 0, none⟩) 2 2]⟩, [(1250, ⟨96, 12, 4, [.int .u8 (.ofNat 30), .int .i64 (.ofNat 0), .int .u8 (.ofNat 0), .int .u64 (.ofNat 0), .int .u8 (.ofNat 1), .int .i64 (.ofNat 0), .int .u8 (.ofNat 1), .int .u64 (.ofNat 1), .int .u8 (.ofNat 5), .int .i64 (.ofNat 0), .int .u8 (.ofNat 0), .int .u64 (.ofNat 0)], true, 0, false, false⟩), (1226, ⟨96, 4, 2, [.int .u8 (.ofNat 31), .int .i64 (.ofNat 0), .int .u8 (.ofNat 0), .int .u64 (.ofNat 0)], true, 0, false, false⟩), (1196, ⟨92, 15, 4, [.slice none 0 0, .int .i64 (.ofNat 3), .int .i64 (.ofNat 0), .int .i64 (.ofNat 1), .int .i64 (.ofNat 0), .slice (some ⟨1226, 0, none⟩) 1 22634154978441619832832, .int .i64 (.ofNat 1), .int .i64 (.ofNat 0), .int .i64 (.ofNat 2), .int .i64 (.ofNat 0), .slice (some ⟨1250, 0, none⟩) 3 23076876836210649071616, .int .i64 (.ofNat 5), .int .i64 (.ofNat 0), .int .i64 (.ofNat 3), .int .i64 (.ofNat 0)], false, 0, false, false⟩), (1252, ⟨61, 2, 1, [.int .u8 (.ofNat 1), .int .u64 (.ofNat 0)], false, 0, false, false⟩), (1171, ⟨96, 12, 4, [.int .u8 (.ofNat 1), .int .i64 (.ofNat 0), .int .u8 (.ofNat 1), .int .u64 (.ofNat 7), .int .u8 (.ofNat 1), .int .i64 (.ofNat 0), .int .u8 (.ofNat 1), .int .u64 (.ofNat 2), .int .u8 (.ofNat 14), .int .i64 (.ofNat 0), .int .u8 (.ofNat 0), .int .u64 (.ofNat 0)], true, 0, false, false⟩), (1142, ⟨92, 10, 4, [.slice (some ⟨1171, 0, none⟩) 3 21619584054387594493952, .int .i64 (.ofNat 2), .int .i64 (.ofNat 0), .int .i64 (.ofNat 1), .int .i64 (.ofNat 0), .slice none 0 0, .int .i64 (.ofNat 3), .int .i64 (.ofNat 0), .int .i64 (.ofNat 2), .int .i64 (.ofNat 0)], false, 0, false, false⟩), (1179, ⟨61, 0, 0, [], false, 0, false, false⟩), (1126, ⟨68, 6, 3, [.slice (some ⟨1179, 0, none⟩) 0 0, .int .i64 (.ofNat 2), .slice (some ⟨1142, 0, none⟩) 2 2, .slice (some ⟨1252, 0, none⟩) 1 1, .int .i64 (.ofNat 2), .slice (some ⟨1196, 0, none⟩) 3 3], false, 0, false, false⟩), (1124, ⟨61, 2, 1, [.int .u8 (.ofNat 1), .int .u64 (.ofNat 1)], false, 0, false, false⟩)], 1255⟩
theorem m5_in : ∀ p ∈ ([(19, m7)] : List (Nat × Memo)), Memoed Tryz.prog p := by
  intro p hp
  simp only [List.mem_cons, List.not_mem_nil, or_false] at hp
  rcases hp with rfl
  · exact m7_ok
theorem m5_ok : Memoed Tryz.prog (17, m5) :=
  memoed mixed_ok exs_ok (nt := 373) (nf := 321) (hints := hs) (md := 12) m5_in (n := 1000000) (D := 12) (by kernel_rfl)
end Go.Proofs.YtdmpnjlkjlllbaaGreatDoor.Ev
