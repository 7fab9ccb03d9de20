/- Joined texts of the proof. -/
import Derived.Test.YtjgggmjjikopeaaGreatDoorJ39
import Derived.Test.YtjgggmjjikopeaaGreatDoorJ49

/- Faults told of texts; a text so often. -/
namespace Go.Proofs.YtjgggmjjikopeaaGreatDoor
open Go.RowKit
set_option linter.unusedVariables false

set_option maxRecDepth 100000 in
set_option maxHeartbeats 3200000 in
theorem faultE_any (s : ByteArray) (e p : Nat) (hmax : s.size ≤ 9223372036854775807) (hx : exO (bytes s) (exprR (toksOf (bytes s))) = (noX.ex, e, p)) (w : World) (hE : ErrR w) :
    Calls Tryz.prog 16 #[.string s, .bool false, .int .i64 (e : Int), .int .i64 (p : Int)] w fun r w' => r = .returned (.bool true) ∧ Below w.heap.size w w' := by
  have HP := parseExpr_any s w hmax hE _ ⟨_, exprR_row _⟩
  rw [hx] at HP
  clear hE hx hmax
  go_enter Tryz.func16, Tryz.ntmps16
  go_wp2_with (first
    | (go_at_call 13; refine HP.mono ?_; rintro _ w1 ⟨y, rfl, hy, hTy, hb1⟩)
    | ((with_reducible show wpList _ _ _ _ _ _); refine wpList_alloc_at (o := { dst := some 11, .. }) rfl 43 rfl [.int .u8 0, .int .u8 0, .int .u64 0, .string ⟨#[]⟩, .slice none 0 0] 5 z29 ?_; intro w2 hA2 hb2 hs2; clear hs2)
    | ((with_reducible show wpList _ _ _ _ _ _); refine wpList_alloc_at (o := { dst := some 12, .. }) rfl 29 rfl (fa2 0 0) 2 z25 ?_; intro w3 hA3 hb3 hs3; clear hs3)
    | ((with_reducible show wpList _ _ _ _ _ _); refine wpList_store_at (P := Tryz.prog) rfl 43 (.tmp 11) (.tmp 46) rfl w1.heap.size y.cells rfl rfl 43 _ (hA2.below hb3) (i43 _) (len43 _) (ET.one _) ?_; intro w4 hA4 hb4 hs4; clear hs4; have hA34 := hb4.at hA3 (by have := hA2.lt; omega))
    | ((with_reducible show wpList _ _ _ _ _ _); refine wpList_store_at (P := Tryz.prog) rfl 29 (.tmp 12) (.tmp 47) rfl w2.heap.size (fa2 e p) rfl rfl 29 _ hA34 i25 rfl (one2f _ _) ?_; intro w5 hA5 hb5 hs; clear hs; refine Hid.out ?_))
  refine hidU ?_
  have l1 := hb1.size
  have l2 := hA2.lt
  have l3 := hA3.lt
  have l4 := hb4.size
  have l5 := hb5.size
  have hB3 : Below w1.heap.size w1 w3 := hb2.trans (hb3.mono hb2.size)
  have hB5 : Below w1.heap.size w1 w5 := hb5.below (hb4.below hB3 (Nat.le_refl _) (by omega)) (by omega) (by omega)
  have hBw : Below w.heap.size w w5 := hb1.trans (hB5.mono l1)
  have hA45 := hb5.at hA4 (by omega)
  obtain ⟨c0, c1⟩ := fa_cells hA5
  obtain ⟨op, t, b, nm, a, c, ks⟩ := y
  have hop : op = 0 := by
    have := congrArg (fun x : Ex => match x with | .mk op _ _ _ _ => op) hy
    simpa [ET.ex, noX] using this
  subst hop
  have d0 : w5.cell? ⟨w1.heap.size, 0, none⟩ = some (.int .u8 0) := by rw [hA45.cell]; rfl
  have e1 : ((e : Int) == (e : Int)) = true := by simp
  have e2 : ((p : Int) == (p : Int)) = true := by simp
  clear hA2 hA3 hA4 hA34 hb1 hb2 hb3 hb4 hb5 hB3 hTy HP hy hA45 hA5
  go_wp2
  go_ret
  exact ⟨rfl, hBw⟩

set_option maxRecDepth 100000 in
set_option maxHeartbeats 3200000 in
theorem faultP_any (s : ByteArray) (e p : Nat) (hmax : s.size ≤ 9223372036854775807) (hx : pgO (bytes s) (programR (toksOf (bytes s))) = (noP.pg, e, p)) (w : World) (hE : ErrR w) :
    Calls Tryz.prog 16 #[.string s, .bool true, .int .i64 (e : Int), .int .i64 (p : Int)] w fun r w' => r = .returned (.bool true) ∧ Below w.heap.size w w' := by
  have HP := parseP_any s w hmax hE
  rw [hx] at HP
  clear hE hx hmax
  go_enter Tryz.func16, Tryz.ntmps16
  go_wp2_with (go_at_call 8; refine HP.mono ?_; rintro _ w1 ⟨y, rfl, hy, hTy, hb1⟩; refine Hid.out ?_)
  refine hidU ?_
  obtain ⟨a1, c1, s1, a2, c2, s2, a3, c3, s3⟩ := y
  have hq : s1 = [] ∧ s2 = [] ∧ s3 = [] := by
    have h1 := congrArg Pg.shared hy
    have h2 := congrArg Pg.mutexes hy
    have h3 := congrArg Pg.threads hy
    exact ⟨List.map_eq_nil_iff.1 h1, List.map_eq_nil_iff.1 h2, List.map_eq_nil_iff.1 h3⟩
  obtain ⟨rfl, rfl, rfl⟩ := hq
  have hcs : (⟨a1, c1, [], a2, c2, [], a3, c3, []⟩ : PT).cells = [.slice a1 0 c1, .slice a2 0 c2, .slice a3 0 c3] := rfl
  rw [hcs]
  clear hy hTy hcs HP
  go_wp2_with (first
    | ((with_reducible show wpList _ _ _ _ _ _); refine wpList_alloc_at (o := { dst := some 9, .. }) rfl 26 rfl [.slice none 0 0, .slice none 0 0, .slice none 0 0] 3 zz26 ?_; intro w2 hA2 hb2 hs2; clear hs2)
    | ((with_reducible show wpList _ _ _ _ _ _); refine wpList_alloc_at (o := { dst := some 10, .. }) rfl 29 rfl (fa2 0 0) 2 z25 ?_; intro w3 hA3 hb3 hs3; clear hs3)
    | ((with_reducible show wpList _ _ _ _ _ _); refine wpList_store_at (P := Tryz.prog) rfl 26 (.tmp 9) (.tmp 17) rfl w1.heap.size [.slice a1 0 c1, .slice a2 0 c2, .slice a3 0 c3] rfl rfl 26 _ (hA2.below hb3) i26 rfl (by intro v hv; simp at hv; rcases hv with rfl | rfl | rfl <;> rfl) ?_; intro w4 hA4 hb4 hs4; clear hs4; have hA34 := hb4.at hA3 (by have := hA2.lt; omega))
    | ((with_reducible show wpList _ _ _ _ _ _); refine wpList_store_at (P := Tryz.prog) rfl 29 (.tmp 10) (.tmp 18) rfl w2.heap.size (fa2 e p) rfl rfl 29 _ hA34 i25 rfl (one2f _ _) ?_; intro w5 hA5 hb5 hs; clear hs; refine Hid.out ?_))
  refine hidU ?_
  have l1 := hb1.size
  have l2 := hA2.lt
  have l3 := hA3.lt
  have l4 := hb4.size
  have l5 := hb5.size
  have hB3 : Below w1.heap.size w1 w3 := hb2.trans (hb3.mono hb2.size)
  have hB5 : Below w1.heap.size w1 w5 := hb5.below (hb4.below hB3 (Nat.le_refl _) (by omega)) (by omega) (by omega)
  have hBw : Below w.heap.size w w5 := hb1.trans (hB5.mono l1)
  have hA45 := hb5.at hA4 (by omega)
  obtain ⟨c0, c1'⟩ := fa_cells hA5
  obtain ⟨d0, d1, d2⟩ := c3_cells hA45
  have e1 : ((e : Int) == (e : Int)) = true := by simp
  have e2 : ((p : Int) == (p : Int)) = true := by simp
  clear hA2 hA3 hA4 hA34 hb1 hb2 hb3 hb4 hb5 hB3 hA45 hA5
  go_wp2
  go_ret
  exact ⟨rfl, hBw⟩

end Go.Proofs.YtjgggmjjikopeaaGreatDoor
