/- Joined texts of the proof. -/
import Derived.Test.YtjgggmjjikopeaaGreatDoorJ30
import Derived.Defers
import Derived.Recover

/- What is told of a fault. -/
namespace Go.Proofs.YtjgggmjjikopeaaGreatDoor
open Go.RowKit
set_option linter.unusedVariables false

set_option maxRecDepth 100000 in
set_option maxHeartbeats 3200000 in
theorem faultOf_nil (w : World) : Calls Tryz.prog 24 #[.nilIface] w fun r w' => r = .returned (.agg (fa2 0 0).toArray) ∧ Below w.heap.size w w' := by
  go_enter Tryz.func24, Tryz.ntmps24
  go_wp2_with (first
    | ((with_reducible show wpList _ _ _ _ _ _); refine wpList_alloc_at (o := { dst := some 2, .. }) rfl 29 rfl (fa2 0 0) 2 z25 ?_; intro w1 hA1 hb1 hs1; clear hs1)
    | ((with_reducible show wpList _ _ _ _ _ _); refine wpList_build_at rfl 29 _ rfl (fa2 0 0) (by kernel_rfl) ?_)
    | ((with_reducible show wpList _ _ _ _ _ _); refine wpList_store_at (P := Tryz.prog) rfl 29 (.tmp 2) (.tmp 5) rfl w.heap.size (fa2 0 0) rfl rfl 29 _ hA1 i25 rfl (one2f _ _) ?_; intro w9 hA9 hb9 hs9))
  refine bodyPost_ret (results_at rfl _ _ w.heap.size 29 (fa2 0 0) _ rfl hA9 Tryz.underlying29 rfl i25) rfl ?_
  exact ⟨rfl, hb9.below hb1 (Nat.le_refl _) hb1.size⟩

set_option maxRecDepth 100000 in
set_option maxHeartbeats 3200000 in
theorem assert_fault (e p : Int) (w : World) : (Instr.typeAssert (.iface 29 (.agg #[.int .i64 e, .int .i64 p])) 20 29 false).run Tryz.prog w = .ok (.agg #[.int .i64 e, .int .i64 p]) w := by kernel_rfl

set_option maxRecDepth 100000 in
set_option maxHeartbeats 3200000 in
theorem faultOf_some (e p : Nat) (w : World) : Calls Tryz.prog 24 #[.iface 29 (.agg #[.int .i64 (e : Int), .int .i64 (p : Int)])] w fun r w' => r = .returned (.agg (fa2 e p).toArray) ∧ Below w.heap.size w w' := by
  have ha := fun w => assert_fault e p w
  go_enter Tryz.func24, Tryz.ntmps24
  go_wp2_with (first
    | ((with_reducible show wpList _ _ _ _ _ _); refine wpList_alloc_at (o := { dst := some 2, .. }) rfl 29 rfl (fa2 0 0) 2 z25 ?_; intro w1 hA1 hb1 hs1; clear hs1)
    | ((with_reducible show wpList _ _ _ _ _ _); refine wpList_store_at (P := Tryz.prog) rfl 29 (.tmp 2) (.tmp 7) rfl w.heap.size (fa2 e p) rfl rfl 29 _ hA1 i25 rfl (one2f _ _) ?_; intro w9 hA9 hb9 hs9))
  refine bodyPost_ret (results_at rfl _ _ w.heap.size 29 (fa2 e p) _ rfl hA9 Tryz.underlying29 rfl i25) rfl ?_
  exact ⟨rfl, hb9.below hb1 (Nat.le_refl _) hb1.size⟩

set_option maxRecDepth 100000 in
set_option maxHeartbeats 3200000 in
theorem caught_some (b e p : Nat) (older : List PanicEntry) (w : World) (x y : Nat) (hA : At 29 w b (fa2 x y)) :
    CallsD Tryz.prog 37 #[.pointer (some ⟨b, 0, none⟩)] (.panicking ({ v := .iface 29 (.agg #[.int .i64 (e : Int), .int .i64 (p : Int)]), recovered := false } :: older)) w fun r u' w' =>
      r = .returned (.tuple #[]) ∧ u' = .panicking ({ v := .iface 29 (.agg #[.int .i64 (e : Int), .int .i64 (p : Int)]), recovered := true } :: older) ∧ At 29 w' b (fa2 e p) ∧ But b w w' := by
  refine callsD_of_wpS Tryz.func37 rfl fun c₀ cs hu => ?_
  apply wpS_region
  simp [wpOpsS, go_sem, recoverD, hu, Tryz.ntmps37]
  refine (faultOf_some e p w).mono ?_
  rintro r w1 ⟨rfl, hb1⟩
  have hA1 := hA.below hb1
  have z0 := hA1.frozen 0
  have z1 := hA1.frozen 1
  obtain ⟨c0, c1⟩ := fa_cells hA1
  have hA2 : At 29 ((w1.setCell ⟨b, 0, none⟩ (.int .i64 (e : Int))).setCell ⟨b, 1, none⟩ (.int .i64 (p : Int))) b (fa2 e p) := (hA1.set 0 _).set 1 _
  have hB2 : But b w ((w1.setCell ⟨b, 0, none⟩ (.int .i64 (e : Int))).setCell ⟨b, 1, none⟩ (.int .i64 (p : Int))) := ((But.of_below hb1).setCell 0 _).setCell 1 _
  simp [fa2, go_sem, c0, c1, z0, z1, bodyPostS, results, Tryz.results37]
  exact ⟨hA2, hB2⟩

set_option maxRecDepth 100000 in
set_option maxHeartbeats 3200000 in
theorem caught_nil (b : Nat) (w : World) (x y : Nat) (hA : At 29 w b (fa2 x y)) :
    CallsD Tryz.prog 37 #[.pointer (some ⟨b, 0, none⟩)] .returning w fun r u' w' => r = .returned (.tuple #[]) ∧ u' = .returning ∧ At 29 w' b (fa2 0 0) ∧ But b w w' := by
  refine callsD_of_wpS Tryz.func37 rfl fun c₀ cs hu => ?_
  apply wpS_region
  simp [wpOpsS, go_sem, recoverD, hu, Tryz.ntmps37]
  refine (faultOf_nil w).mono ?_
  rintro r w1 ⟨rfl, hb1⟩
  have hA1 := hA.below hb1
  have z0 := hA1.frozen 0
  have z1 := hA1.frozen 1
  obtain ⟨c0, c1⟩ := fa_cells hA1
  have hA2 : At 29 ((w1.setCell ⟨b, 0, none⟩ (.int .i64 0)).setCell ⟨b, 1, none⟩ (.int .i64 0)) b (fa2 0 0) := (hA1.set 0 _).set 1 _
  have hB2 : But b w ((w1.setCell ⟨b, 0, none⟩ (.int .i64 0)).setCell ⟨b, 1, none⟩ (.int .i64 0)) := ((But.of_below hb1).setCell 0 _).setCell 1 _
  cases c₀
  simp_all [fa2, go_sem, bodyPostS, results, Tryz.results37]

end Go.Proofs.YtjgggmjjikopeaaGreatDoor
