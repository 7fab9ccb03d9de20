/- The reader: an instruction. -/
import Derived.Test.YtefklmckkigllaaRdB
import Derived.ArgAppend
namespace Go.Proofs.Ytefklmckkigllaa
open Go.RowKit
set_option linter.unusedVariables false

/-- An instruction is read. -/
def insR (st : St) : Ir × St :=
  if (numR 1 st).1 = 1 then (⟨(numR 1 st).1, ((numR 1 (numR 1 st).2).1 : Int), (valR (numR 1 (numR 1 st).2).2).1⟩, (valR (numR 1 (numR 1 st).2).2).2)
  else (⟨(numR 1 st).1, ((numR 1 (numR 1 st).2).1 : Int), ⟨0, 0⟩⟩, (numR 1 (numR 1 st).2).2)
theorem insR_ok (st : St) : (insR st).1.Ok := by
  have h1 := numR_lt 1 st
  have h2 := numR_lt 1 (numR 1 st).2
  unfold insR
  split
  · exact ⟨by dsimp only; omega, ⟨by dsimp only; omega, by dsimp only; omega⟩, valR_ok _⟩
  · exact ⟨by dsimp only; omega, ⟨by dsimp only; omega, by dsimp only; omega⟩, ⟨by show (0 : Nat) < 256; decide, by show (0 : Nat) < 18446744073709551616; decide⟩⟩

set_option maxRecDepth 100000 in
set_option maxHeartbeats 3200000 in
theorem insR_any {B : Nat} (g : Nat) (st : St) (w : World) (h : Rr B w g st) (hBw : B ≤ w.heap.size) :
    Calls Try.prog 80 #[.pointer (some ⟨g, 0, none⟩)] w fun e w' => e = .returned (.agg (insR st).1.cells.toArray) ∧ Rr B w' g (insR st).2 ∧ But g w w' := by
  have hlow := h.low
  have Q1 : Hid (∀ u, Rr B u g st → Calls Try.prog 63 #[.pointer (some ⟨g, 0, none⟩), .int .i64 1] u fun e w' => e = .returned (.int .u64 ((numR 1 st).1 : Int)) ∧ Rr B w' g (numR 1 st).2 ∧ But g u w') := fun u hu => numR_any g st 1 (by omega) (by omega) u hu
  have Q2 : Hid (∀ u, Rr B u g (numR 1 st).2 → Calls Try.prog 40 #[.pointer (some ⟨g, 0, none⟩), .int .i64 1] u fun e w' => e = .returned (.int .i64 ((numR 1 (numR 1 st).2).1 : Int)) ∧ Rr B w' g (numR 1 (numR 1 st).2).2 ∧ But g u w') := fun u hu => takeR_any g _ 1 (by omega) (by omega) u hu
  have Q3 : Hid (∀ u, Rr B u g (numR 1 (numR 1 st).2).2 → B ≤ u.heap.size → Calls Try.prog 39 #[.pointer (some ⟨g, 0, none⟩)] u fun e w' => e = .returned (.agg (valR (numR 1 (numR 1 st).2).2).1.cells.toArray) ∧ Rr B w' g (valR (numR 1 (numR 1 st).2).2).2 ∧ But g u w') := fun u hu hB => valR_any g _ u hu hB
  have hl : (numR 1 st).1 < 256 := numR_lt 1 st
  have HR : Hid (Rr B w g st) := h
  clear h
  unfold insR
  generalize valR (numR 1 (numR 1 st).2).2 = X at *
  generalize numR 1 (numR 1 st).2 = Y at *
  generalize numR 1 st = Z at *
  obtain ⟨z, s1⟩ := Z
  obtain ⟨y, s2⟩ := Y
  obtain ⟨⟨vt, vb⟩, s3⟩ := X
  simp only [Vl.cells] at Q3
  dsimp only at Q1 Q2 Q3 hl ⊢
  have hW : IntKind.u8.wrap (z : Int) = (z : Int) := by rw [IntKind.wrap_u8]; omega
  by_cases hz : z = 1
  · rw [if_pos hz]
    simp only [Ir.cells]
    have hz' : ((z : Int) == 1) = true := by rw [beq_iff_eq]; omega
    clear hz
    go_enter Try.func80, Try.ntmps80
    go_wp2_with (first
      | ((with_reducible show wpList _ _ _ _ _ _); refine wpList_alloc_at (o := { dst := some 2, .. }) rfl 37 rfl [.int .u8 0, .int .i64 0, .int .u8 0, .int .u64 0] 4 z37 ?_; intro w1 hA1 hb1 hs1; clear hs1; refine Hid.out ?_))
    refine hidU ?_
    have hR1 := HR.out.below hb1
    have l1 := hA1.lt
    go_wp2_with (first
      | (go_at_call 63; refine (Q1.out _ hR1).mono ?_; rintro _ w2 ⟨rfl, hR2, hb2⟩; clear hR1)
      | (go_at_call 40; refine (Q2.out _ hR2).mono ?_; rintro _ w3 ⟨rfl, hR3, hb3⟩; clear hR2)
      | ((with_reducible show wpList _ _ _ _ _ _); refine wpList_build_at rfl 37 _ rfl [.int .u8 (z : Int), .int .i64 (y : Int), .int .u8 0, .int .u64 0] (by kernel_rfl) ?_)
      | ((with_reducible show wpList _ _ _ _ _ _); refine wpList_alloc_at (o := { dst := some 3, .. }) rfl 37 rfl [.int .u8 0, .int .i64 0, .int .u8 0, .int .u64 0] 4 z37 ?_; intro w4 hA4 hb4 hs4; clear hs4)
      | ((with_reducible show wpList _ _ _ _ _ _); refine wpList_store_at (P := Try.prog) rfl 37 (.tmp 3) (.tmp 9) rfl w3.heap.size [.int .u8 (z : Int), .int .i64 (y : Int), .int .u8 0, .int .u64 0] rfl rfl 37 _ hA4 i37 rfl (Ir.one ⟨z, y, ⟨0, 0⟩⟩) ?_; intro w5 hA5 hb5 hs5; clear hs5; refine Hid.out ?_))
    refine hidU ?_
    have l2 := hb2.size
    have l3 := hb3.size
    have l4 := hA4.lt
    have l5 := hb5.size
    have hA15 := hb5.at ((hb3.at (hb2.at hA1 (by omega)) (by omega)).below hb4) (by omega)
    have hR5 : Rr B w5 g s2 := (hR3.below hb4).but hb5 (by omega)
    have hB5 : But g w w5 := ((((But.of_below hb1).trans hb2).trans hb3).trans (But.of_below hb4)).fresh hb5 (by omega)
    have d0 : w5.cell? ⟨w3.heap.size, 0, none⟩ = some (.int .u8 (z : Int)) := by rw [hA5.cell]; rfl
    clear hA1 hb1 hb2 hb3 hA4 hb4 hb5 hR3
    go_wp2_with (first
      | (go_at_call 39; refine (Q3.out _ hR5 (by omega)).mono ?_; rintro _ w6 ⟨rfl, hR6, hb6⟩; have hA56 := hb6.at hA5 (by omega); have hA16 := hb6.at hA15 (by omega); clear hA5 hA15 d0)
      | ((with_reducible show wpList _ _ _ _ _ _); refine wpList_store_two rfl 35 (.tmp 15) (.tmp 14) rfl w3.heap.size 2 (.int .u8 (vt : Int)) (.int .u64 (vb : Int)) rfl rfl 37 _ hA56 (show 2 + 2 ≤ 4 by decide) i35 (Vl.one ⟨vt, vb⟩) ?_; intro w7 hA7 hb7 hs7; clear hs7; refine Hid.out ?_))
    refine hidU ?_
    have hA7 : At 37 w7 w3.heap.size [.int .u8 (z : Int), .int .i64 (y : Int), .int .u8 (vt : Int), .int .u64 (vb : Int)] := hA7
    have hA17 := hb7.at hA16 (by omega)
    have l6 := hb6.size
    clear hA56 hA16
    go_wp2_with (first
      | ((with_reducible show wpList _ _ _ _ _ _); refine wpList_load_at (P := Try.prog) rfl 37 (.tmp 3) rfl w3.heap.size rfl 37 [.int .u8 (z : Int), .int .i64 (y : Int), .int .u8 (vt : Int), .int .u64 (vb : Int)] hA7 _ Try.underlying37 rfl i37 ?_)
      | ((with_reducible show wpList _ _ _ _ _ _); refine wpList_store_at (P := Try.prog) rfl 37 (.tmp 2) (.tmp 16) rfl w.heap.size [.int .u8 (z : Int), .int .i64 (y : Int), .int .u8 (vt : Int), .int .u64 (vb : Int)] rfl rfl 37 _ hA17 i37 rfl (Ir.one ⟨z, y, ⟨vt, vb⟩⟩) ?_; intro w9 hA9 hb9 hs9; clear hs9))
    refine bodyPost_ret (results_at rfl _ _ w.heap.size 37 [.int .u8 (z : Int), .int .i64 (y : Int), .int .u8 (vt : Int), .int .u64 (vb : Int)] _ rfl hA9 Try.underlying37 rfl i37) rfl ?_
    exact ⟨rfl, (hR6.but hb7 (by omega)).but hb9 hBw, ((hB5.trans hb6).fresh hb7 (by omega)).fresh hb9 (Nat.le_refl _)⟩
  · rw [if_neg hz]
    simp only [Ir.cells]
    have hz' : ((z : Int) == 1) = false := by rw [beq_eq_false_iff_ne]; omega
    clear hz Q3
    go_enter Try.func80, Try.ntmps80
    go_wp2_with (first
      | ((with_reducible show wpList _ _ _ _ _ _); refine wpList_alloc_at (o := { dst := some 2, .. }) rfl 37 rfl [.int .u8 0, .int .i64 0, .int .u8 0, .int .u64 0] 4 z37 ?_; intro w1 hA1 hb1 hs1; clear hs1; refine Hid.out ?_))
    refine hidU ?_
    have hR1 := HR.out.below hb1
    have l1 := hA1.lt
    go_wp2_with (first
      | (go_at_call 63; refine (Q1.out _ hR1).mono ?_; rintro _ w2 ⟨rfl, hR2, hb2⟩; clear hR1)
      | (go_at_call 40; refine (Q2.out _ hR2).mono ?_; rintro _ w3 ⟨rfl, hR3, hb3⟩; clear hR2)
      | ((with_reducible show wpList _ _ _ _ _ _); refine wpList_build_at rfl 37 _ rfl [.int .u8 (z : Int), .int .i64 (y : Int), .int .u8 0, .int .u64 0] (by kernel_rfl) ?_)
      | ((with_reducible show wpList _ _ _ _ _ _); refine wpList_alloc_at (o := { dst := some 3, .. }) rfl 37 rfl [.int .u8 0, .int .i64 0, .int .u8 0, .int .u64 0] 4 z37 ?_; intro w4 hA4 hb4 hs4; clear hs4)
      | ((with_reducible show wpList _ _ _ _ _ _); refine wpList_store_at (P := Try.prog) rfl 37 (.tmp 3) (.tmp 9) rfl w3.heap.size [.int .u8 (z : Int), .int .i64 (y : Int), .int .u8 0, .int .u64 0] rfl rfl 37 _ hA4 i37 rfl (Ir.one ⟨z, y, ⟨0, 0⟩⟩) ?_; intro w5 hA5 hb5 hs5; clear hs5; refine Hid.out ?_))
    refine hidU ?_
    have l2 := hb2.size
    have l3 := hb3.size
    have l4 := hA4.lt
    have l5 := hb5.size
    have hA15 := hb5.at ((hb3.at (hb2.at hA1 (by omega)) (by omega)).below hb4) (by omega)
    have hR5 : Rr B w5 g s2 := (hR3.below hb4).but hb5 (by omega)
    have hB5 : But g w w5 := ((((But.of_below hb1).trans hb2).trans hb3).trans (But.of_below hb4)).fresh hb5 (by omega)
    have d0 : w5.cell? ⟨w3.heap.size, 0, none⟩ = some (.int .u8 (z : Int)) := by rw [hA5.cell]; rfl
    clear hA1 hb1 hb2 hb3 hA4 hb4 hb5 hR3
    go_wp2_with (first
      | ((with_reducible show wpList _ _ _ _ _ _); refine wpList_load_at (P := Try.prog) rfl 37 (.tmp 3) rfl w3.heap.size rfl 37 [.int .u8 (z : Int), .int .i64 (y : Int), .int .u8 0, .int .u64 0] hA5 _ Try.underlying37 rfl i37 ?_)
      | ((with_reducible show wpList _ _ _ _ _ _); refine wpList_store_at (P := Try.prog) rfl 37 (.tmp 2) (.tmp 16) rfl w.heap.size [.int .u8 (z : Int), .int .i64 (y : Int), .int .u8 0, .int .u64 0] rfl rfl 37 _ hA15 i37 rfl (Ir.one ⟨z, y, ⟨0, 0⟩⟩) ?_; intro w9 hA9 hb9 hs9; clear hs9))
    refine bodyPost_ret (results_at rfl _ _ w.heap.size 37 [.int .u8 (z : Int), .int .i64 (y : Int), .int .u8 0, .int .u64 0] _ rfl hA9 Try.underlying37 rfl i37) rfl ?_
    exact ⟨rfl, hR5.but hb9 hBw, hB5.fresh hb9 (Nat.le_refl _)⟩

end Go.Proofs.Ytefklmckkigllaa
