/- The reader: small numbers, values. -/
import Derived.Test.YtefklmckkigllaaRdA
namespace Go.Proofs.Ytefklmckkigllaa
open Go.RowKit
set_option linter.unusedVariables false

set_option maxRecDepth 100000 in
set_option maxHeartbeats 3200000 in
theorem takeR_any {B : Nat} (g : Nat) (st : St) (s : Nat) (h1 : 1 ≤ s) (h8 : s ≤ 2) (w : World) (h : Rr B w g st) :
    Calls Try.prog 40 #[.pointer (some ⟨g, 0, none⟩), .int .i64 (s : Int)] w fun e w' => e = .returned (.int .i64 ((numR s st).1 : Int)) ∧ Rr B w' g (numR s st).2 ∧ But g w w' := by
  have hN := numR_any g st s h1 (by omega) w h
  have hl : (numR s st).1 < 65536 := by
    have := numR_lt s st
    have h2 : 256 ^ s ≤ 256 ^ 2 := Nat.pow_le_pow_right (by decide) h8
    omega
  generalize numR s st = Z at *
  clear h
  obtain ⟨z, s2⟩ := Z
  dsimp only at hN hl ⊢
  have hW : IntKind.i64.wrap (z : Int) = (z : Int) := by rw [IntKind.wrap_i64]; omega
  go_enter Try.func40, Try.ntmps40
  go_wp2_with (first
    | (go_at_call 63; refine hN.mono ?_; rintro _ w1 ⟨rfl, hR1, hb1⟩))
  go_ret
  exact ⟨rfl, hR1, hb1⟩

/-- A value is read. -/
def valR (st : St) : Vl × St := (⟨(numR 1 st).1, (numR 8 (numR 1 st).2).1⟩, (numR 8 (numR 1 st).2).2)
theorem valR_ok (st : St) : (valR st).1.Ok := by
  have h1 := numR_lt 1 st
  have h2 := numR_lt 8 (numR 1 st).2
  exact ⟨by show (numR 1 st).1 < 256; omega, by show (numR 8 (numR 1 st).2).1 < 18446744073709551616; omega⟩

set_option maxRecDepth 100000 in
set_option maxHeartbeats 3200000 in
theorem valR_any {B : Nat} (g : Nat) (st : St) (w : World) (h : Rr B w g st) (hBw : B ≤ w.heap.size) :
    Calls Try.prog 39 #[.pointer (some ⟨g, 0, none⟩)] w fun e w' => e = .returned (.agg (valR st).1.cells.toArray) ∧ Rr B w' g (valR st).2 ∧ But g w w' := by
  have hlow := h.low
  have Q1 : Hid (∀ u, Rr B u g st → Calls Try.prog 63 #[.pointer (some ⟨g, 0, none⟩), .int .i64 1] u fun e w' => e = .returned (.int .u64 ((numR 1 st).1 : Int)) ∧ Rr B w' g (numR 1 st).2 ∧ But g u w') := fun u hu => numR_any g st 1 (by omega) (by omega) u hu
  have Q2 : Hid (∀ u, Rr B u g (numR 1 st).2 → Calls Try.prog 63 #[.pointer (some ⟨g, 0, none⟩), .int .i64 8] u fun e w' => e = .returned (.int .u64 ((numR 8 (numR 1 st).2).1 : Int)) ∧ Rr B w' g (numR 8 (numR 1 st).2).2 ∧ But g u w') := fun u hu => numR_any g _ 8 (by omega) (by omega) u hu
  have hl : (numR 1 st).1 < 256 := numR_lt 1 st
  have HR : Hid (Rr B w g st) := h
  clear h
  unfold valR
  generalize numR 8 (numR 1 st).2 = Y at *
  generalize numR 1 st = Z at *
  obtain ⟨z, s1⟩ := Z
  obtain ⟨y, s2⟩ := Y
  simp only [Vl.cells]
  dsimp only at Q1 Q2 hl
  have hW : IntKind.u8.wrap (z : Int) = (z : Int) := by rw [IntKind.wrap_u8]; omega
  go_enter Try.func39, Try.ntmps39
  go_wp2_with (first
    | ((with_reducible show wpList _ _ _ _ _ _); refine wpList_alloc_at (o := { dst := some 2, .. }) rfl 35 rfl [.int .u8 0, .int .u64 0] 2 z35 ?_; intro w1 hA1 hb1 hs1; clear hs1; refine Hid.out ?_))
  refine hidU ?_
  have hR1 := HR.out.below hb1
  have l1 := hA1.lt
  go_wp2_with (first
    | (go_at_call 63; first | (refine (Q1.out _ hR1).mono ?_; rintro _ w2 ⟨rfl, hR2, hb2⟩; clear hR1) | (refine (Q2.out _ hR2).mono ?_; rintro _ w3 ⟨rfl, hR3, hb3⟩))
    | ((with_reducible show wpList _ _ _ _ _ _); refine wpList_build_at rfl 35 _ rfl [.int .u8 (z : Int), .int .u64 (y : Int)] (by kernel_rfl) ?_)
    | ((with_reducible show wpList _ _ _ _ _ _); refine wpList_store_at (P := Try.prog) rfl 35 (.tmp 2) (.tmp 8) rfl w.heap.size [.int .u8 (z : Int), .int .u64 (y : Int)] rfl rfl 35 _ (hb3.at (hb2.at hA1 (by omega)) (by omega)) i35 rfl (Vl.one ⟨z, y⟩) ?_; intro w9 hA9 hb9 hs9; clear hs9))
  refine bodyPost_ret (results_at rfl _ _ w.heap.size 35 [.int .u8 (z : Int), .int .u64 (y : Int)] _ rfl hA9 Try.underlying35 rfl i35) rfl ?_
  exact ⟨rfl, hR3.but hb9 hBw, (((But.of_below hb1).trans hb2).trans hb3).fresh hb9 (Nat.le_refl _)⟩
end Go.Proofs.Ytefklmckkigllaa
