/- What the methods answer of a hash that is nil, or that nobody made. -/
import Derived.Test.YtbigkblkfnnfkaaDoorArr
import Derived.Test.YtbigkblkfnnfkaaDoorArg
namespace Go.Proofs.YtbigkblkfnnfkaaDoor
open Go.RowKit
set_option linter.unusedVariables false

/-- A hash that is nil, or that nobody made. -/
def Unmade (w : World) (v : Value) : Prop := v = .pointer none ∨ ∃ b, v = .pointer (some ⟨b, 0, none⟩) ∧ w.cell? ⟨b, 73, none⟩ = some (.bool false)

set_option maxRecDepth 100000 in
theorem isMade_no (v : Value) (w : World) (h : Unmade w v) :
    Calls Tryd.prog 42 #[v] w fun e w' => e = .returned (.bool false) ∧ w' = w := by
  rcases h with rfl | ⟨b, rfl, hc⟩
  · go_enter Tryd.func42, Tryd.ntmps42
    go_wp2
    go_ret
    exact ⟨rfl, rfl⟩
  · go_enter Tryd.func42, Tryd.ntmps42
    go_wp2
    go_ret
    exact ⟨rfl, rfl⟩

set_option maxRecDepth 100000 in
theorem write_no (v x : Value) (w : World) (h : Unmade w v) :
    Calls Tryd.prog 24 #[v, x] w fun e w' => e = .returned (.int .i64 1) ∧ w' = w := by
  go_enter Tryd.func24, Tryd.ntmps24
  go_wp2_with (go_at_call 42; refine (isMade_no v _ h).mono ?_; rintro e w1 ⟨rfl, rfl⟩)
  go_ret
  exact ⟨rfl, rfl⟩

set_option maxRecDepth 100000 in
theorem len_no (v : Value) (w : World) (h : Unmade w v) :
    Calls Tryd.prog 29 #[v] w fun e w' => e = .returned (.int .i64 0) ∧ w' = w := by
  go_enter Tryd.func29, Tryd.ntmps29
  go_wp2_with (go_at_call 42; refine (isMade_no v _ h).mono ?_; rintro e w1 ⟨rfl, rfl⟩)
  go_ret
  exact ⟨rfl, rfl⟩

set_option maxRecDepth 100000 in
theorem clone_no (v : Value) (w : World) (h : Unmade w v) :
    Calls Tryd.prog 28 #[v] w fun e w' => e = .returned (.pointer none) ∧ w' = w := by
  go_enter Tryd.func28, Tryd.ntmps28
  go_wp2_with (go_at_call 42; refine (isMade_no v _ h).mono ?_; rintro e w1 ⟨rfl, rfl⟩)
  go_ret
  exact ⟨rfl, rfl⟩
theorem Unmade.below {w w' : World} {v : Value} (h : Unmade w v) (hb : Below w.heap.size w w') : Unmade w' v := by
  rcases h with h | ⟨b, h, hc⟩
  · exact .inl h
  · refine .inr ⟨b, h, ?_⟩
    rw [hb.cell (lt_of_cell hc)]
    exact hc

/-- The digest of nothing: 32 noughts. -/
def dig0 : List Value := List.replicate 32 (Value.int .u8 0)

set_option maxRecDepth 100000 in
theorem sum_no (v : Value) (w : World) (h : Unmade w v) :
    Calls Tryd.prog 27 #[v] w fun e w' => e = .returned (.agg dig0.toArray) ∧ Below w.heap.size w w' := by
  have hall : ∀ u ∈ dig0, u.oneCell' = true := by unfold dig0; intro u hu; rw [List.eq_of_mem_replicate hu]; rfl
  go_enter Tryd.func27, Tryd.ntmps27
  go_wp2_with (first | (refine wpList_alloc_at rfl 25 rfl dig0 32 z25 ?_; intro w1 hA1 hb1 hs1) | (refine wpList_build_at rfl 25 #[] rfl dig0 (by kernel_rfl) ?_) | (refine wpList_store_at rfl 25 (.tmp 2) (.tmp 7) rfl w.heap.size dig0 rfl rfl 25 dig0 hA1 i25 rfl hall ?_; intro w2 hA2 hb2 hs2) | (go_at_call 42; refine (isMade_no v _ (h.below hb1)).mono ?_; rintro e w9 ⟨rfl, rfl⟩))
  refine bodyPost_ret (results_at rfl _ _ w.heap.size 25 dig0 _ rfl hA2 Tryd.underlying25 rfl i25) rfl ?_
  exact ⟨rfl, hb2.below hb1 (Nat.le_refl _) (by omega)⟩
end Go.Proofs.YtbigkblkfnnfkaaDoor
