/- Joined texts of the proof. -/
import Derived.Test.YtjgggmjjikopeaaGreatDoorJ22
import Derived.Test.YtjgggmjjikopeaaGreatDoorJ6
import Derived.Test.YtjgggmjjikopeaaGreatDoorJ4
import Derived.Test.YtjgggmjjikopeaaGreatDoorJ7
import Derived.Lib.LaidTab
import Derived.Stop.LaidErr
import Derived.LaidMore
import Derived.ProofKit
import Derived.OpenShut

/- The awake. -/
namespace Go.Proofs.YtjgggmjjikopeaaGreatDoor
open Go.RowKit
set_option linter.unusedVariables false

mutual
theorem samX_refl : ∀ x : Ex, samX x x = true
  | .mk op t b nm ks => by simp [samX, samL_refl ks]
theorem samL_refl : ∀ xs : List Ex, samL xs xs = true
  | [] => by simp [samL]
  | x :: r => by simp [samL, samX_refl x, samL_refl r]
end
theorem parseA (w : World) (hE : ErrR w) : Calls Tryz.prog 13 #[.string ⟨#[97, 32, 45, 32, 98, 32, 45, 32, 99, 32, 42, 32, 45, 100]⟩] w fun r w' => ∃ y : ET, r = .returned (.tuple #[.agg y.cells.toArray, .agg (fa2 0 0).toArray]) ∧ mayE 32 y.ex = true ∧ exT y.ex = bytes ⟨#[40, 40, 97, 32, 45, 32, 98, 41, 32, 45, 32, 40, 99, 32, 42, 32, 45, 100, 41, 41]⟩ ∧ Tw w.heap.size w' y ∧ Below w.heap.size w w' := by
  refine (parseExpr_any ⟨#[97, 32, 45, 32, 98, 32, 45, 32, 99, 32, 42, 32, 45, 100]⟩ w (by decide) hE rsA evA).mono ?_
  rintro r w' ⟨y, rfl, hy, hT, hb⟩
  have h2 : (exO (bytes ⟨#[97, 32, 45, 32, 98, 32, 45, 32, 99, 32, 42, 32, 45, 100]⟩) rsA).2 = (0, 0) := exA_ev
  refine ⟨y, ?_, ?_, ?_, hT, hb⟩
  · rw [h2]
  · rw [hy]; exact exA_may
  · rw [hy]; exact exA_tx
theorem parseB (w : World) (hE : ErrR w) : Calls Tryz.prog 13 #[.string ⟨#[97, 32, 60, 32, 98, 32, 60, 32, 99]⟩] w fun r w' => ∃ y : ET, r = .returned (.tuple #[.agg y.cells.toArray, .agg (fa2 4 6).toArray]) ∧ y.ex = noX.ex ∧ Tw w.heap.size w' y ∧ Below w.heap.size w w' := by
  refine (parseExpr_any ⟨#[97, 32, 60, 32, 98, 32, 60, 32, 99]⟩ w (by decide) hE rsB evB).mono ?_
  rintro r w' ⟨y, rfl, hy, hT, hb⟩
  have h2 : exO (bytes ⟨#[97, 32, 60, 32, 98, 32, 60, 32, 99]⟩) rsB = (noX.ex, 4, 6) := exB_ev
  rw [h2] at hy ⊢
  exact ⟨y, rfl, hy, hT, hb⟩

set_option maxRecDepth 100000 in
set_option maxHeartbeats 3200000 in
theorem printed_yes (w : World) (hE : ErrR w) (hT : Tab w) (h16 : gB ≤ w.heap.size) :
    Calls Tryz.prog 36 #[.string ⟨#[97, 32, 45, 32, 98, 32, 45, 32, 99, 32, 42, 32, 45, 100]⟩, .string ⟨#[40, 40, 97, 32, 45, 32, 98, 41, 32, 45, 32, 40, 99, 32, 42, 32, 45, 100, 41, 41]⟩] w fun r w' => r = .returned (.bool true) ∧ Below w.heap.size w w' := by
  have HP := parseA w hE
  clear hE
  go_enter Tryz.func36, Tryz.ntmps36
  go_wp2_with (first
    | (go_at_call 13; refine HP.mono ?_; rintro _ w1 ⟨y, rfl, hm, hx, hTy, hb1⟩)
    | ((with_reducible show wpList _ _ _ _ _ _); refine wpList_alloc_at (o := { dst := some 5, .. }) rfl 43 rfl [.int .u8 0, .int .u8 0, .int .u64 0, .string ⟨#[]⟩, .slice none 0 0] 5 z29 ?_; intro w2 hA2 hb2 hs2; clear hs2)
    | ((with_reducible show wpList _ _ _ _ _ _); refine wpList_alloc_at (o := { dst := some 6, .. }) rfl 29 rfl (fa2 0 0) 2 z25 ?_; intro w3 hA3 hb3 hs3; clear hs3)
    | ((with_reducible show wpList _ _ _ _ _ _); refine wpList_store_at (P := Tryz.prog) rfl 43 (.tmp 5) (.tmp 12) rfl w1.heap.size y.cells rfl rfl 43 _ (hA2.below hb3) (i43 _) (len43 _) (ET.one _) ?_; intro w4 hA4 hb4 hs4; clear hs4; have hA34 := hb4.at hA3 (by have := hA2.lt; omega))
    | ((with_reducible show wpList _ _ _ _ _ _); refine wpList_store_at (P := Tryz.prog) rfl 29 (.tmp 6) (.tmp 13) rfl w2.heap.size (fa2 0 0) rfl rfl 29 _ hA34 i25 rfl (one2f _ _) ?_; intro w5 hA5 hb5 hs; clear hs; refine Hid.out ?_))
  refine hidU ?_
  have l1 := hb1.size
  have l2 := hA2.lt
  have l3 := hA3.lt
  have l4 := hb4.size
  have l5 := hb5.size
  have hB3 : Below w1.heap.size w1 w3 := hb2.trans (hb3.mono hb2.size)
  have hB5 : Below w1.heap.size w1 w5 := hb5.below (hb4.below hB3 (Nat.le_refl _) (by omega)) (by omega) (by omega)
  have hBw : Below w.heap.size w w5 := hb1.trans (hB5.mono l1)
  have hA45 := hb5.at hA4 (by omega)
  have hTy5 := hTy.below hB5
  have hlen : (exT y.ex).length ≤ 70368744177664 := by rw [hx]; decide
  have HX := expr4_any y w5.heap.size w5 hTy5.1 (Nat.le_refl _) (hT.below hBw h16) (Nat.le_trans h16 hBw.size) hlen
  rw [if_pos hm, if_pos hm, hx] at HX
  clear hA2 hA3 hA4 hA34 hb1 hb2 hb3 hb4 hb5 hB3 hTy hm hx hlen HP
  go_wp2_with (first
    | ((with_reducible show wpList _ _ _ _ _ _); refine wpList_load_at (P := Tryz.prog) rfl 43 (.tmp 5) rfl w1.heap.size rfl 43 y.cells hA45 _ Tryz.underlying43 rfl (i43 _) ?_)
    | (go_at_call 70; refine HX.mono ?_; rintro _ w6 ⟨rfl, hb6⟩; have hA56 := hA5.below hb6; obtain ⟨c0, c1⟩ := fa_cells hA56))
  go_ret
  refine ⟨?_, hBw.trans (hb6.mono hBw.size)⟩
  rfl

end Go.Proofs.YtjgggmjjikopeaaGreatDoor

/- The law of ParseExpr. -/
namespace Go.Proofs.YtjgggmjjikopeaaGreatDoor
open Go.RowKit
set_option linter.unusedVariables false

set_option maxRecDepth 100000 in
set_option maxHeartbeats 3200000 in
theorem fault_yes (w : World) (hE : ErrR w) :
    Calls Tryz.prog 16 #[.string ⟨#[97, 32, 60, 32, 98, 32, 60, 32, 99]⟩, .bool false, .int .i64 4, .int .i64 6] w fun r w' => r = .returned (.bool true) ∧ Below w.heap.size w w' := by
  have HP := parseB w hE
  clear hE
  go_enter Tryz.func16, Tryz.ntmps16
  go_wp2_with (first
    | (go_at_call 13; refine HP.mono ?_; rintro _ w1 ⟨y, rfl, hy, hTy, hb1⟩)
    | ((with_reducible show wpList _ _ _ _ _ _); refine wpList_alloc_at (o := { dst := some 11, .. }) rfl 43 rfl [.int .u8 0, .int .u8 0, .int .u64 0, .string ⟨#[]⟩, .slice none 0 0] 5 z29 ?_; intro w2 hA2 hb2 hs2; clear hs2)
    | ((with_reducible show wpList _ _ _ _ _ _); refine wpList_alloc_at (o := { dst := some 12, .. }) rfl 29 rfl (fa2 0 0) 2 z25 ?_; intro w3 hA3 hb3 hs3; clear hs3)
    | ((with_reducible show wpList _ _ _ _ _ _); refine wpList_store_at (P := Tryz.prog) rfl 43 (.tmp 11) (.tmp 46) rfl w1.heap.size y.cells rfl rfl 43 _ (hA2.below hb3) (i43 _) (len43 _) (ET.one _) ?_; intro w4 hA4 hb4 hs4; clear hs4; have hA34 := hb4.at hA3 (by have := hA2.lt; omega))
    | ((with_reducible show wpList _ _ _ _ _ _); refine wpList_store_at (P := Tryz.prog) rfl 29 (.tmp 12) (.tmp 47) rfl w2.heap.size (fa2 4 6) rfl rfl 29 _ hA34 i25 rfl (one2f _ _) ?_; intro w5 hA5 hb5 hs; clear hs; refine Hid.out ?_))
  refine hidU ?_
  have l1 := hb1.size
  have l2 := hA2.lt
  have l3 := hA3.lt
  have l4 := hb4.size
  have l5 := hb5.size
  have hB3 : Below w1.heap.size w1 w3 := hb2.trans (hb3.mono hb2.size)
  have hB5 : Below w1.heap.size w1 w5 := hb5.below (hb4.below hB3 (Nat.le_refl _) (by omega)) (by omega) (by omega)
  have hBw : Below w.heap.size w w5 := hb1.trans (hB5.mono l1)
  have hA45 := hb5.at hA4 (by omega)
  obtain ⟨c0, c1⟩ := fa_cells hA5
  obtain ⟨op, t, b, nm, a, c, ks⟩ := y
  have hop : op = 0 := by
    have := congrArg (fun x : Ex => match x with | .mk op _ _ _ _ => op) hy
    simpa [ET.ex, noX] using this
  subst hop
  have d0 : w5.cell? ⟨w1.heap.size, 0, none⟩ = some (.int .u8 0) := by rw [hA45.cell]; rfl
  clear hA2 hA3 hA4 hA34 hb1 hb2 hb3 hb4 hb5 hB3 hTy HP hy hA45 hA5
  go_wp2
  go_ret
  refine ⟨?_, hBw⟩
  rfl

end Go.Proofs.YtjgggmjjikopeaaGreatDoor

/- The awake, whole. -/
namespace Go.Proofs.YtjgggmjjikopeaaGreatDoor
open Go.RowKit
set_option linter.unusedVariables false

set_option maxRecDepth 100000 in
set_option maxHeartbeats 3200000 in
theorem awake6 (w : World) (hE : ErrR w) (hT : Tab w) (h16 : gB ≤ w.heap.size) : Calls Tryz.prog 12 #[] w fun r w' => r = .returned (.bool true) ∧ Below w.heap.size w w' := by
  have HP := printed_yes w hE hT h16
  go_enter Tryz.func12, Tryz.ntmps12
  go_wp2_with (first
    | (go_at_call 36; refine HP.mono ?_; rintro _ w1 ⟨rfl, hb1⟩)
    | (go_at_call 16; refine (fault_yes w1 (hE.below hb1)).mono ?_; rintro _ w2 ⟨rfl, hb2⟩))
  go_ret
  exact ⟨rfl, hb1.trans (hb2.mono hb1.size)⟩

end Go.Proofs.YtjgggmjjikopeaaGreatDoor

/- The law of ParseExpr. -/
namespace Go.Proofs.YtjgggmjjikopeaaGreatDoor
open Go.RowKit
set_option linter.unusedVariables false

set_option maxRecDepth 100000 in
set_option maxHeartbeats 3200000 in
/-- The law of ParseExpr. -/
theorem law4 (s : ByteArray) (w : World) (hmax : s.size ≤ 9223372036854775807) (hE : ErrR w) (hT : Tab w) (h16 : gB ≤ w.heap.size) :
    Calls Tryz.prog 4 #[.string s] w fun r w' => r = .returned (.bool true) ∧ Below w.heap.size w w' := by
  obtain ⟨f, R, hR⟩ := row_total (toksOf (bytes s)) 1 0 (by omega)
  have HP := parseExpr_any s w hmax hE R ⟨f, hR⟩
  have HQ : Hid (∀ u, Calls Tryz.prog 14 #[.string s] u fun r w' => PostP u (exO (bytes s) R) r w') := fun u => refText_any s u hmax R ⟨f, hR⟩
  clear hR
  generalize exO (bytes s) R = o at *
  obtain ⟨X, e, p⟩ := o
  unfold PostP at HP HQ
  dsimp only at HP HQ
  go_enter Tryz.func4, Tryz.ntmps4
  go_wp2_with (first
    | (go_at_call 13; refine HP.mono ?_; rintro _ w1 ⟨y, rfl, hy, hTy, hb1⟩)
    | ((with_reducible show wpList _ _ _ _ _ _); refine wpList_alloc_at (o := { dst := some 3, .. }) rfl 43 rfl [.int .u8 0, .int .u8 0, .int .u64 0, .string ⟨#[]⟩, .slice none 0 0] 5 z29 ?_; intro w2 hA2 hb2 hs2; clear hs2)
    | ((with_reducible show wpList _ _ _ _ _ _); refine wpList_alloc_at (o := { dst := some 4, .. }) rfl 29 rfl (fa2 0 0) 2 z25 ?_; intro w3 hA3 hb3 hs3; clear hs3)
    | ((with_reducible show wpList _ _ _ _ _ _); refine wpList_store_at (P := Tryz.prog) rfl 43 (.tmp 3) (.tmp 10) rfl w1.heap.size y.cells rfl rfl 43 _ (hA2.below hb3) (i43 _) (len43 _) (ET.one _) ?_; intro w4 hA4 hb4 hs4; clear hs4; have hA34 := hb4.at hA3 (by have := hA2.lt; omega))
    | ((with_reducible show wpList _ _ _ _ _ _); refine wpList_store_at (P := Tryz.prog) rfl 29 (.tmp 4) (.tmp 11) rfl w2.heap.size (fa2 e p) rfl rfl 29 _ hA34 i25 rfl (one2f _ _) ?_; intro w5 hA5 hb5 hs; clear hs; refine Hid.out ?_))
  refine hidU ?_
  have l1 := hb1.size
  have l2 := hA2.lt
  have l3 := hA3.lt
  have l4 := hb4.size
  have l5 := hb5.size
  have hB3 : Below w1.heap.size w1 w3 := hb2.trans (hb3.mono hb2.size)
  have hB5 : Below w1.heap.size w1 w5 := hb5.below (hb4.below hB3 (Nat.le_refl _) (by omega)) (by omega) (by omega)
  have hBw : Below w.heap.size w w5 := hb1.trans (hB5.mono l1)
  have hA45 := hb5.at hA4 (by omega)
  have hTy5 := hTy.below hB5
  have ly : w1.heap.size < w5.heap.size := by omega
  have lz : w2.heap.size < w5.heap.size := by omega
  clear hA2 hA3 hA4 hA34 hb1 hb2 hb3 hb4 hb5 hB3 hTy HP l1 l2 l3 l4 l5 hB5
  go_wp2_with (first
    | (go_at_call 14; refine (HQ.out _).mono ?_; rintro _ u1 ⟨z, rfl, hz, hTz, kb1⟩)
    | ((with_reducible show wpList _ _ _ _ _ _); refine wpList_alloc_at (o := { dst := some 5, .. }) rfl 43 rfl [.int .u8 0, .int .u8 0, .int .u64 0, .string ⟨#[]⟩, .slice none 0 0] 5 z29 ?_; intro u2 kA2 kb2 ks2; clear ks2)
    | ((with_reducible show wpList _ _ _ _ _ _); refine wpList_alloc_at (o := { dst := some 6, .. }) rfl 29 rfl (fa2 0 0) 2 z25 ?_; intro u3 kA3 kb3 ks3; clear ks3)
    | ((with_reducible show wpList _ _ _ _ _ _); refine wpList_store_at (P := Tryz.prog) rfl 43 (.tmp 5) (.tmp 15) rfl u1.heap.size z.cells rfl rfl 43 _ (kA2.below kb3) (i43 _) (len43 _) (ET.one _) ?_; intro u4 kA4 kb4 ks4; clear ks4; have kA34 := kb4.at kA3 (by have := kA2.lt; omega))
    | ((with_reducible show wpList _ _ _ _ _ _); refine wpList_store_at (P := Tryz.prog) rfl 29 (.tmp 6) (.tmp 16) rfl u2.heap.size (fa2 e p) rfl rfl 29 _ kA34 i25 rfl (one2f _ _) ?_; intro u5 kA5 kb5 hs; clear hs; refine Hid.out ?_))
  refine hidU ?_
  have l1 := kb1.size
  have l2 := kA2.lt
  have l3 := kA3.lt
  have l4 := kb4.size
  have l5 := kb5.size
  have kB3 : Below u1.heap.size u1 u3 := kb2.trans (kb3.mono kb2.size)
  have kB5 : Below u1.heap.size u1 u5 := kb5.below (kb4.below kB3 (Nat.le_refl _) (by omega)) (by omega) (by omega)
  have kBw : Below w5.heap.size w5 u5 := kb1.trans (kB5.mono l1)
  have kA45 := kb5.at kA4 (by omega)
  have hTz5 := hTz.below kB5
  have hTy6 := hTy5.below kBw
  have hAy := hA45.below kBw
  have hAf := hA5.below kBw
  have hBu : Below w.heap.size w u5 := hBw.trans (kBw.mono hBw.size)
  have HS := kitExpr_any u5.heap.size _ y (Nat.lt_succ_self _) z u5 hTy6.1 hTz5.1 (Nat.le_refl _)
  rw [hy, hz, samX_refl] at HS
  clear kA2 kA3 kA4 kA34 kb1 kb2 kb3 kb4 kb5 kB3 hTz hTy5 hTy6 hTz5 hA45 hA5 hBw kBw kB5 hy hz HQ l1 l2 l3 l4 l5 ly lz
  go_wp2_with (first
    | ((with_reducible show wpList _ _ _ _ _ _); refine wpList_load_at (P := Tryz.prog) rfl 43 (.tmp 3) rfl w1.heap.size rfl 43 y.cells hAy _ Tryz.underlying43 rfl (i43 _) ?_)
    | ((with_reducible show wpList _ _ _ _ _ _); refine wpList_load_at (P := Tryz.prog) rfl 43 (.tmp 5) rfl u1.heap.size rfl 43 z.cells kA45 _ Tryz.underlying43 rfl (i43 _) ?_)
    | (go_at_call 15; refine HS.mono ?_; rintro _ u6 ⟨rfl, kb6⟩; have hBv : Below w.heap.size w u6 := hBu.trans (kb6.mono hBu.size); obtain ⟨c0, c1⟩ := fa_cells (hAf.below kb6); obtain ⟨d0, d1⟩ := fa_cells (kA5.below kb6))
    | (go_at_call 12; refine (awake6 u6 (hE.below hBv) (hT.below hBv h16) (Nat.le_trans h16 hBv.size)).mono ?_; rintro _ u7 ⟨rfl, kb7⟩))
  go_ret
  exact ⟨rfl, hBv.trans (kb7.mono hBv.size)⟩

end Go.Proofs.YtjgggmjjikopeaaGreatDoor

/- What the card's listed variables give the walks: the library's error of the range and the table of powers of ten are laid. -/
namespace Go.Proofs.YtjgggmjjikopeaaGreatDoor
open Go.ChangeShapes Go.WideShapes Go.ChangeAt Go.RowKit
set_option linter.unusedVariables false

def laidL : List (String × DataW Unit) := [("math/bits.deBruijn32tab", Rows.laid_math_bits_deBruijn32tab), ("math/bits.deBruijn64tab", Rows.laid_math_bits_deBruijn64tab), ("internal/strconv.uint64pow10", Rows.laid_internal_strconv_uint64pow10), ("strconv.ErrRange", Rows.laid_strconv_ErrRange), ("strconv.ErrSyntax", Rows.laid_strconv_ErrSyntax)]

theorem gER : Tryz.prog.globalNamed "strconv.ErrRange" = some 2 := by kernel_rfl
theorem gERType : (Tryz.prog.globals[2]?).map (·.type) = some 143 := by kernel_rfl
theorem cellsES : Tryz.prog.cellsOf 225 = 1 := by kernel_rfl
theorem cells9x : Tryz.prog.cellsOf 9 = 1 := by kernel_rfl
theorem starES : "*" ++ "errors.errorString" = "*errors.errorString" := by decide
theorem rowES (u : TypeId) (h : Tryz.prog.typeName? 3 u = some "*errors.errorString") : u = 223 :=
  typeName_ptr_named (nm := "errors.errorString") (by rw [starES]; kernel_rfl) (by kernel_rfl) (by decide) u (by rw [starES]; exact h)

theorem errR_of_laid {W : World} (h : laidMetH Tryz.prog laidL W) : ErrR W := by
  rw [MakeChecks.laidMetH_plain _ _ _ (by kernel_rfl)] at h
  obtain ⟨a1, s1, hv1, -, -, -⟩ := laid_sentinel h.tail.tail.tail gER gERType Tryz.underlying143 rowES Tryz.underlying223 Tryz.underlying225 rfl rfl Tryz.underlying9 cellsES cells9x
  exact ⟨_, by have h0 := World.var?_cell gER hv1 0; simpa using h0, .inr ⟨_, _, rfl⟩⟩

theorem gP10 : Tryz.prog.globalNamed "internal/strconv.uint64pow10" = some 4 := by kernel_rfl
theorem gP10Type : (Tryz.prog.globals[4]?).map (·.type) = some 218 := by kernel_rfl
theorem cells38x : Tryz.prog.cellsOf 38 = 1 := by kernel_rfl
theorem cells218 : Tryz.prog.cellsOf 218 = 20 := by kernel_rfl
theorem gDb : Tryz.prog.globalNamed "math/bits.deBruijn64tab" = some 6 := by kernel_rfl

theorem size_of_laid {W : World} (h : laidMetH Tryz.prog laidL W) : gB ≤ W.heap.size := by
  rw [MakeChecks.laidMetH_plain _ _ _ (by kernel_rfl)] at h
  obtain ⟨ps, ⟨g', t', cs, fuel, p, q, hg', ht', hvar, hd, _, _⟩, _⟩ := laidMet.tail h
  obtain rfl := Option.some.inj (gDb.symm.trans hg')
  unfold World.var? at hvar
  obtain ⟨g, hg, hx⟩ := Option.bind_eq_some_iff.1 hvar
  obtain rfl := Option.some.inj (gDb.symm.trans hg)
  show 7 ≤ W.heap.size
  by_cases hs : 6 < W.heap.size
  · omega
  · rw [Array.getElem?_eq_none (by omega)] at hx
    simp at hx

theorem tab_of_laid {W : World} (h : laidMetH Tryz.prog laidL W) : Tab W := by
  rw [MakeChecks.laidMetH_plain _ _ _ (by kernel_rfl)] at h
  exact Lib.tabIs_of_head gP10 gP10Type Tryz.underlying218 Tryz.underlying38 cells38x cells218 (laidMet.tail (laidMet.tail h))

/-- The door's own heap meets the condition. -/
theorem door_met (os : Os) (args : Array Value) : laidMetH Tryz.prog laidL ((World.doorLaid Tryz.prog 400 os).forCall (fun _ _ => 0) ⟨#[], args, []⟩).memory :=
  laidMetH_of_parts3 (fuel := 8) (laidMet_of_run' 8 (by kernel_rfl) (by kernel_rfl)) (by kernel_rfl) (by kernel_rfl)
end Go.Proofs.YtjgggmjjikopeaaGreatDoor
