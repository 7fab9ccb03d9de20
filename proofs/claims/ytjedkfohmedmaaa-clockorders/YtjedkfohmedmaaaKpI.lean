/- assizekit.KeptInts: what was lent and not written is found as it was. -/
import Derived.Test.YtjedkfohmedmaaaLnI
import Derived.Deep.RegionHeld3
import Derived.Deep.DrawnRows
namespace Go.Proofs.Ytjedkfohmedmaaa
open Go.RowKit
set_option linter.unusedVariables false
attribute [local go_sem ↓] Go.wp_at_zero Go.wp_at_succ

theorem size3 (w : World) : (sizeOf 3).run Try.prog w = .ok 1 w := by kernel_rfl
/-- 'b[:h]' of numbers. -/
theorem runI_slice_to (w : World) (a : Option Addr) (len cap h : Nat) (x : Int) (hx : x = (h : Int)) (hh : h ≤ cap) :
    (Instr.slice 26 (.slice a len cap) none (some (.int .i64 x)) none).run Try.prog w = .ok (.slice a h cap) w := by
  have he : Try.prog.elem 26 = 3 := by simp [Program.elem, Try.underlying26]
  rw [run_slice_h w 26 a len cap (by rw [he]; exact Try.underlying26) .i64 x (by omega) (by omega), he, size3]
  have hz : ∀ p : Addr, p.add 0 = p := fun p => by cases p; simp [Addr.add]
  have hm : a.map (fun p => p.add 0) = a := by cases a <;> simp [hz]
  simp only [Result.andThen, sliced, Nat.zero_mul, hm, Nat.sub_zero]
  rw [show x.toNat = h by omega]
  simp
theorem sameInts_len (xs ys : List Int) (a1 a2 : Option Addr) (n1 n2 c1 c2 : Nat) (w : World) (h1 : RowI w a1 xs) (h2 : RowI w a2 ys) (e1 : xs.length = n1) (e2 : ys.length = n2) (hl1 : n1 ≤ 4611686018427387904) (hl2 : n2 ≤ 4611686018427387904) (hk1 : n1 ≤ c1) (hk2 : n2 ≤ c2) :
    Calls Try.prog 17 #[.slice a1 n1 c1, .slice a2 n2 c2] w fun r w' => r = .returned (.bool (decide (xs = ys))) ∧ Below w.heap.size w w' := by
  subst e1 e2
  exact sameInts_any xs ys a1 a2 c1 c2 w h1 h2 hl1 hl2 hk1 hk2
theorem RowI.drew {w : World} {a : Option Addr} {zs : List Int} (h : RowI w a zs) : RowI w.drew a zs := h

set_option maxRecDepth 100000 in
set_option maxHeartbeats 800000 in
theorem keptInts_any (a : Option Addr) (cap g : Nat) (bs : List Int) (w : World) (hrow : RowI w a bs) (hblk : BlkI w g ((lentI bs).map I64)) (hmax : bs.length ≤ 1099511627776) :
    Calls Try.prog 40 #[.slice (some ⟨g, 0, none⟩) bs.length (bs.length + 3), .slice a bs.length cap] w fun e w' => e = .returned (.bool true) ∧ Below w.heap.size w w' := by
  have i1 : (0 : Int) ≤ (bs.length : Int) := by omega
  have i2 : (bs.length : Int) + 3 ≤ 1099511627779 := by omega
  have hs1 := fun w => runI_slice_to w (some ⟨g, 0, none⟩) bs.length (bs.length + 3) (bs.length + 3) ((bs.length : Int) + 3) (by omega) (by omega)
  have hs2 := fun w => runI_slice_to w (some ⟨g, 0, none⟩) bs.length (bs.length + 3) (bs.length + 3) ((bs.length + 3 : Nat) : Int) (by omega) (by omega)
  have hs3 := fun w0 => runI_slice_to w0 (some ⟨w.heap.size, 0, none⟩) bs.length (bs.length + 3) (bs.length + 3) ((bs.length : Int) + 3) (by omega) (by omega)
  have hw3 : IntKind.i64.wrap ((bs.length : Int) + 3) = (bs.length : Int) + 3 := by rw [IntKind.wrap_i64]; omega
  go_enter Try.func40, Try.ntmps40
  go_wp2
  go_region_held3 (fun _ => True) (trivial) (first | (go_at_call 28; refine (lentInts_any a cap bs _ hrow.drew hmax).mono ?_; rintro e w1 ⟨rfl, hblk1, hbel1⟩) | (go_at_call 17; refine (sameInts_len (lentI bs) (lentI bs) _ _ _ _ _ _ _ (hblk.drew.below hbel1).row_all hblk1.row_all (lentI_length bs) (lentI_length bs) (by omega) (by omega) (by omega) (by omega)).mono ?_; rintro e w2 ⟨rfl, hbel2⟩))
  go_wp2
  go_ret
  exact ⟨rfl, ((Below.refl _ w).drew.trans hbel1).trans (hbel2.mono (by have := hbel1.size; omega))⟩
end Go.Proofs.Ytjedkfohmedmaaa
