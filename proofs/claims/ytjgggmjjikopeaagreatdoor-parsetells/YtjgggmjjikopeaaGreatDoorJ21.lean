/- J -/
import Derived.Test.YtjgggmjjikopeaaGreatDoorJ20
import Derived.Defers
import Derived.Recover
set_option linter.unusedVariables false
set_option maxRecDepth 100000
set_option maxHeartbeats 6400000
open Go.RowKit
namespace Go.Proofs.YtjgggmjjikopeaaGreatDoor
theorem JK (w : World) : Calls Tryz.prog 24 #[.nilIface] w fun r w' => r = .returned (.agg (fa2 0 0).toArray) /\ Below w.heap.size w w' := by
 go_enter Tryz.func24, Tryz.ntmps24
 go_wp2_with (first
  | (refine aL (o := { dst := some 2, .. }) rfl rfl z25 ?_; intro w1 hA1 hb1)
  | (refine zF rfl rfl (fa2 0 0) ?_)
  | (refine zl rfl rfl hA1 (fa2 0 0) rfl rfl i25 rfl (yq _ _) ?_; intro w9 hA9 hb9 hs9))
 refine zr (zh rfl _ _ w.heap.size 29 (fa2 0 0) _ rfl hA9 Tryz.underlying29 rfl i25) rfl ?_
 exact ⟨rfl, hb9.below hb1 (zj _) hb1.size⟩
theorem qE (e p : Int) (w : World) : (Instr.typeAssert (.iface 29 (.agg #[.int .i64 e, .int .i64 p])) 20 29 false).run Tryz.prog w = .ok (.agg #[.int .i64 e, .int .i64 p]) w := by kernel_rfl
theorem V0 (e p : Nat) (w : World) : Calls Tryz.prog 24 #[.iface 29 (.agg #[.int .i64 (e : Int), .int .i64 (p : Int)])] w fun r w' => r = .returned (.agg (fa2 e p).toArray) /\ Below w.heap.size w w' := by
 have ha := fun w => qE e p w
 go_enter Tryz.func24, Tryz.ntmps24
 go_wp2_with (first
  | (refine aL (o := { dst := some 2, .. }) rfl rfl z25 ?_; intro w1 hA1 hb1)
  | (refine zl rfl rfl hA1 (fa2 e p) rfl rfl i25 rfl (yq _ _) ?_; intro w9 hA9 hb9 hs9))
 refine zr (zh rfl _ _ w.heap.size 29 (fa2 e p) _ rfl hA9 Tryz.underlying29 rfl i25) rfl ?_
 exact ⟨rfl, hb9.below hb1 (zj _) hb1.size⟩
theorem XZ (b e p : Nat) (older : List PanicEntry) (w : World) (x y : Nat) (hA : At 29 w b (fa2 x y)) :
  CallsD Tryz.prog 37 #[.pointer (some ⟨b, 0, none⟩)] (.panicking ({ v := .iface 29 (.agg #[.int .i64 (e : Int), .int .i64 (p : Int)]), recovered := false } :: older)) w fun r u' w' =>
   r = .returned (.tuple #[]) /\ u' = .panicking ({ v := .iface 29 (.agg #[.int .i64 (e : Int), .int .i64 (p : Int)]), recovered := true } :: older) /\ At 29 w' b (fa2 e p) /\ But b w w' := by
 refine callsD_of_wpS Tryz.func37 rfl fun c₀ cs hu => ?_
 apply wpS_region
 simp [wpOpsS, go_sem, recoverD, hu, Tryz.ntmps37]
 refine (V0 e p w).mono ?_
 rintro r w1 ⟨rfl, hb1⟩
 have hA1 := hA.below hb1
 have z0 := hA1.frozen 0
 have z1 := hA1.frozen 1
 obtain ⟨c0, c1⟩ := y8 hA1
 have hA2 : At 29 ((w1.setCell ⟨b, 0, none⟩ (.int .i64 (e : Int))).setCell ⟨b, 1, none⟩ (.int .i64 (p : Int))) b (fa2 e p) := (hA1.set 0 _).set 1 _
 have hB2 : But b w ((w1.setCell ⟨b, 0, none⟩ (.int .i64 (e : Int))).setCell ⟨b, 1, none⟩ (.int .i64 (p : Int))) := ((But.of_below hb1).setCell 0 _).setCell 1 _
 simp [fa2, go_sem, c0, c1, z0, z1, bodyPostS, results, Tryz.results37]
 exact ⟨hA2, hB2⟩
theorem zbJ (b : Nat) (w : World) (x y : Nat) (hA : At 29 w b (fa2 x y)) :
  CallsD Tryz.prog 37 #[.pointer (some ⟨b, 0, none⟩)] .returning w fun r u' w' => r = .returned (.tuple #[]) /\ u' = .returning /\ At 29 w' b (fa2 0 0) /\ But b w w' := by
 refine callsD_of_wpS Tryz.func37 rfl fun c₀ cs hu => ?_
 apply wpS_region
 simp [wpOpsS, go_sem, recoverD, hu, Tryz.ntmps37]
 refine (JK w).mono ?_
 rintro r w1 ⟨rfl, hb1⟩
 have hA1 := hA.below hb1
 have z0 := hA1.frozen 0
 have z1 := hA1.frozen 1
 obtain ⟨c0, c1⟩ := y8 hA1
 have hA2 : At 29 ((w1.setCell ⟨b, 0, none⟩ (.int .i64 0)).setCell ⟨b, 1, none⟩ (.int .i64 0)) b (fa2 0 0) := (hA1.set 0 _).set 1 _
 have hB2 : But b w ((w1.setCell ⟨b, 0, none⟩ (.int .i64 0)).setCell ⟨b, 1, none⟩ (.int .i64 0)) := ((But.of_below hb1).setCell 0 _).setCell 1 _
 cases c₀
 simp_all [fa2, go_sem, bodyPostS, results, Tryz.results37]
