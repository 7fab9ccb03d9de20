/- J -/
import Derived.Test.YtjgggmjjikopeaaGreatDoorJ11
set_option linter.unusedVariables false
set_option maxRecDepth 100000
set_option maxHeartbeats 6400000
open Go.RowKit
namespace Go.Proofs.YtjgggmjjikopeaaGreatDoor
theorem qb (s : ByteArray) (k K n : Nat) (w : World) (hk : k < s.size) (hs : s.size <= 1099511627775) (hd : zY s[k].toNat = true) (hl : z7 s[k].toNat = false) (hKn : zI ((bytes s).drop k) = (K, n)) (hpt0 : Z0 ((bytes s).drop (k + dgN ((bytes s).drop k))) = false) (hp10 : ¬ k + dgN ((bytes s).drop k) + 1 < s.size) :
  Calls Tryz.prog 98 #[.string s, .int .i64 (k : Int)] w fun e w' => e = .returned (.tuple #[.agg (yR s k K n).toArray, .agg (Zx s k K n).toArray]) /\ Below w.heap.size w w' := by
 have hbd := Zv ((bytes s).drop k) (by rw [yC, zc]; omega)
 rw [hKn, yC, zc] at hbd
 obtain ⟨hn1, hn2, _⟩ := hbd
 simp only [] at hn1 hn2
 have hdig : K = 2 -> ZP (((bytes s).drop k).take n) := fun h => by have := YV ((bytes s).drop k) (by rw [hKn]; exact h); rwa [hKn] at this
 have hbS : bytes (s.extract k (k + n)) = ((bytes s).drop k).take n := by rw [yp, XP]
 have hen := J3 s k hk hd hl
 rw [hKn] at hen
 have hrun := fun w => X7 s k false w (by omega) (by omega)
 have hru : ruN false ((bytes s).drop k) = dgN ((bytes s).drop k) := rfl
 rw [hru] at hrun
 have hmle := KD ((bytes s).drop k)
 rw [yC, zc] at hmle
 have hm1 := Xv s k hk hd
 obtain ⟨m, hm⟩ : ∃ m, Hid (m = dgN ((bytes s).drop k)) := ⟨_, (rfl : dgN ((bytes s).drop k) = _)⟩
 rw [<- hm.out] at hen hrun hmle hm1
 have hpt := hpt0
 have hp1 := hp10
 clear hpt0 hp10
 simp only [<- hm.out] at hpt hp1
 obtain ⟨S, hS⟩ : ∃ S, Hid (S = s.extract k (k + n)) := ⟨_, (rfl : s.extract k (k + n) = _)⟩
 have hSz : S.size = n := by rw [hS.out, <- zc, hbS, Yj, yC, zc]; omega
 obtain ⟨E, hE⟩ : ∃ E, E = k + n := ⟨_, rfl⟩
 have HPost : Hid (∀ e : Ending, e = .returned (.tuple #[.agg (yR s k K n).toArray, .agg (Zx s k K n).toArray]) ↔ e = .returned (.tuple #[.agg (if zG K (bytes S) = 0 /\ clB K ((bytes s).drop E) = false then zm K S k (yh K) (ZT K (bytes S)) else zm 0 ⟨#[]⟩ 0 0 0).toArray, .agg (if zG K (bytes S) ≠ 0 then fa2 (zG K (bytes S)) k else if clB K ((bytes s).drop E) = true then fa2 4 E else fa2 0 0).toArray])) := by
  intro e; rw [yR, Zx, hS.out, hbS, hE]
 have HDig : Hid (K = 2 -> ZP (bytes S)) := by show K = 2 -> _; rw [hS.out, hbS]; exact hdig
 have HRun : Hid (∀ w, Calls Tryz.prog 100 #[.string s, .int .i64 (k : Int), .bool false] w fun e w' => e = .returned (.int .i64 ((k + m : Nat) : Int)) /\ w' = w) := hrun
 have hEle : E <= s.size := by omega
 have hkE : k <= E := by omega
 have hS2 : Hid (s.extract k E = S) := by show _ = _; rw [hS.out, hE]
 have hmp : 1 <= m := by omega
 clear hrun hdig hKn hru hm1
 rw [hpt] at hen
 simp only [ZV, if_false, Prod.mk.injEq] at hen
 obtain ⟨rfl, rfl⟩ := hen
 have HPT : Hid (Z0 ((bytes s).drop (k + n)) = false) := hpt
 clear hpt
 obtain rfl := hE
 go_enter Tryz.func98, Tryz.ntmps98
 go_wp2_with (first | (refine zD (o := { dst := some 4, .. }) rfl rfl z34 ?_; intro w1 hA1 hb1 hs1) | (refine zD rfl rfl z25 ?_; intro w2 hA2 hb2 hs2; rw [hs1] at hA2))
 refine (HRun.out _).mono ?_
 rintro e wr ⟨rfl, hwr⟩
 rw [hwr]; clear hwr
 go_wp2_with (first | (refine zg rfl 64 _ rfl (zm 2 ⟨#[]⟩ k 0 0) (by kernel_rfl) ?_) | (refine zD rfl rfl z34 ?_; intro w3 hA3 hb3 hs3) | (refine zl rfl rfl hA3 (zm 2 ⟨#[]⟩ k 0 0) rfl rfl i34 rfl (yo _ _ _ _ _) ?_; intro w4 hA4 hb4 hs4; refine zb ?_))
 refine Lib.hid ?_
 have hB4 : Below w.heap.size w w4 := hb4.below ((hb1.trans (hb2.mono (by omega))).trans (hb3.mono (by omega))) (by omega) (by omega)
 have hR44 : At 64 w4 w.heap.size (zm 0 ⟨#[]⟩ 0 0 0) := hb4.at ((hA1.below hb2).below hb3) (by omega)
 have hR54 : At 29 w4 (w.heap.size + 1) (fa2 0 0) := hb4.at (hA2.below hb3) (by omega)
 rw [hs2, hs1] at hA4
 clear hA1 hb1 hA2 hb2 hA3 hb3 hb4
 go_wp2_with (first | (refine YQ rfl rfl hA4 1 (.string S) rfl (congrArg Value.string hS2.out) i9 ?_; intro w6 hA6' hb6 hs6; refine zb ?_))
 refine Lib.hid ?_
 have hA6 : At 64 w6 (w.heap.size + 1 + 1) (zm 2 S k 0 0) := hA6'
 have hB6 : Below w.heap.size w w6 := hb6.below hB4 (by omega) (by omega)
 have hR4 : At 64 w6 w.heap.size (zm 0 ⟨#[]⟩ 0 0 0) := hb6.at hR44 (by omega)
 have hR5 : At 29 w6 (w.heap.size + 1) (fa2 0 0) := hb6.at hR54 (by omega)
 clear hA6' hb6
 have hcell0 : w6.cell? ⟨w.heap.size + 1 + 1, 0, none⟩ = some (.int .i64 2) := by rw [hA6.cell]; rfl
 have hcell1 : w6.cell? ⟨w.heap.size + 1 + 1, 1, none⟩ = some (.string S) := by rw [hA6.cell]; rfl
 go_wp2_with fail
 refine (V9 S _ (by omega) (by omega) (HDig.out (by trivial))).mono ?_
 rintro e wx ⟨⟨hg, rfl⟩ | ⟨hg, nx, hnx, rfl⟩, hwx⟩
 ·have hfin : Hid (zG 2 (bytes S) = 0) := by simp [Hid, zG, hg]
  rw [hwx]; clear hwx
  have hval : Hid (ZT 2 (bytes S) = zn (bytes S)) := by simp [Hid, ZT]
  obtain ⟨V, hV⟩ : ∃ V, Hid (V = zn (bytes S)) := ⟨_, (rfl : zn (bytes S) = _)⟩
  rw [<- hV.out]
  go_wp2_with (first | (refine zg rfl 40 _ rfl (zy 1 V) (by kernel_rfl) ?_) | (refine yV rfl rfl hA6 3 (.int .u8 1) (.int .u64 (V : Int)) rfl rfl i32 (yj 1 V) ?_; intro w7 hA7' hb7 hs7; refine zb ?_))
  refine Lib.hid ?_
  have hB7 : Below w.heap.size w w7 := hb7.below hB6 (by omega) (by have := hB6.size; omega)
  have hR47 : At 64 w7 w.heap.size (zm 0 ⟨#[]⟩ 0 0 0) := hb7.at hR4 (by omega)
  have hR57 : At 29 w7 (w.heap.size + 1) (fa2 0 0) := hb7.at hR5 (by omega)
  have hA7 : At 64 w7 (w.heap.size + 1 + 1) (zm 2 S k 1 V) := hA7'
  clear hA7'
  cases hcb : clB 2 ((bytes s).drop (k + n))
  ·have hcs := zcn s (k + n) 2 (by decide) hcb
   have HCB : Hid (clB 2 ((bytes s).drop (k + n)) = false) := hcb
   clear hcb
   rcases hcs with hc1 | ⟨hc1, hc2, hc3⟩
   focus
    go_wp2_with (first | (refine lL rfl rfl hA7 rfl Tryz.underlying64 rfl i34 ?_) | (refine zg rfl 29 _ rfl (fa2 0 0) (by kernel_rfl) ?_) | (refine zl rfl rfl hR47 (zm 2 S k 1 V) rfl rfl i34 rfl (yo _ _ _ _ _) ?_; intro w8 hA8 hb8 hs8) | (refine zl rfl rfl (hb8.at hR57 (by omega)) (fa2 0 0) rfl rfl i25 rfl (yq _ _) ?_; intro w9 hA9 hb9 hs9))
   rotate_left
   focus
    go_wp2_with (first | (refine lL rfl rfl hA7 rfl Tryz.underlying64 rfl i34 ?_) | (refine zg rfl 29 _ rfl (fa2 0 0) (by kernel_rfl) ?_) | (refine zl rfl rfl hR47 (zm 2 S k 1 V) rfl rfl i34 rfl (yo _ _ _ _ _) ?_; intro w8 hA8 hb8 hs8) | (refine zl rfl rfl (hb8.at hR57 (by omega)) (fa2 0 0) rfl rfl i25 rfl (yq _ _) ?_; intro w9 hA9 hb9 hs9) | (go_at_call 99; refine (yS _ _ false hc2).mono ?_; rintro e w2' ⟨rfl, rfl⟩))
   rotate_left
   all_goals
    refine zr (zU rfl _ _ w.heap.size (w.heap.size + 1) 64 29 (zm 2 S k 1 V) (fa2 0 0) _ _ rfl (hb9.at hA8 (by omega)) Tryz.underlying64 rfl i34 rfl hA9 Tryz.underlying29 rfl i25) rfl ?_
    exact ⟨(HPost.out _).2 (by rw [hfin.out, HCB.out, hval.out, <- hV.out]; rfl), hb9.below (hb8.below hB7 (zj _) hB7.size) (by omega) (by have := hB7.size; omega)⟩
  ·have hcs := qD s (k + n) 2 hcb
   have HCB : Hid (clB 2 ((bytes s).drop (k + n)) = true) := hcb
   clear hcb
   obtain ⟨hc1, hcs⟩ := hcs
   rcases hcs with hc2 | ⟨hc2, hc3⟩
   focus
    go_wp2_with (first | (refine zg rfl 64 #[] rfl (zm 0 ⟨#[]⟩ 0 0 0) (by kernel_rfl) ?_) | (refine zg rfl 29 _ rfl (fa2 4 (k + n)) (by kernel_rfl) ?_) | (refine zl rfl rfl hR47 (zm 0 ⟨#[]⟩ 0 0 0) rfl rfl i34 rfl (yo _ _ _ _ _) ?_; intro w8 hA8 hb8 hs8) | (refine zl rfl rfl (hb8.at hR57 (by omega)) (fa2 4 (k + n)) rfl rfl i25 rfl (yq _ _) ?_; intro w9 hA9 hb9 hs9) | (go_at_call 99; refine (yS _ _ true hc2).mono ?_; rintro e w2' ⟨rfl, rfl⟩))
   rotate_left
   focus
    go_wp2_with (first | (refine zg rfl 64 #[] rfl (zm 0 ⟨#[]⟩ 0 0 0) (by kernel_rfl) ?_) | (refine zg rfl 29 _ rfl (fa2 4 (k + n)) (by kernel_rfl) ?_) | (refine zl rfl rfl hR47 (zm 0 ⟨#[]⟩ 0 0 0) rfl rfl i34 rfl (yo _ _ _ _ _) ?_; intro w8 hA8 hb8 hs8) | (refine zl rfl rfl (hb8.at hR57 (by omega)) (fa2 4 (k + n)) rfl rfl i25 rfl (yq _ _) ?_; intro w9 hA9 hb9 hs9) | (go_at_call 99; refine (Jg _).mono ?_; rintro e w2' ⟨rfl, rfl⟩))
   rotate_left
   all_goals
    refine zr (zU rfl _ _ w.heap.size (w.heap.size + 1) 64 29 (zm 0 ⟨#[]⟩ 0 0 0) (fa2 4 (k + n)) _ _ rfl (hb9.at hA8 (by omega)) Tryz.underlying64 rfl i34 rfl hA9 Tryz.underlying29 rfl i25) rfl ?_
    exact ⟨(HPost.out _).2 (by rw [hfin.out, HCB.out]; rfl), hb9.below (hb8.below hB7 (zj _) hB7.size) (by omega) (by have := hB7.size; omega)⟩
 ·have hfin : Hid (zG 2 (bytes S) = 4) := by simp [Hid, zG, hg]
  rw [hwx]; clear hwx
  go_wp2_with (first | (refine zg rfl 40 _ rfl (zy 1 nx) (by kernel_rfl) ?_) | (refine yV rfl rfl hA6 3 (.int .u8 1) (.int .u64 (nx : Int)) rfl rfl i32 (yj 1 nx) ?_; intro w7 hA7' hb7 hs7; refine zb ?_))
  refine Lib.hid ?_
  have hB7 : Below w.heap.size w w7 := hb7.below hB6 (by omega) (by have := hB6.size; omega)
  have hR47 : At 64 w7 w.heap.size (zm 0 ⟨#[]⟩ 0 0 0) := hb7.at hR4 (by omega)
  have hR57 : At 29 w7 (w.heap.size + 1) (fa2 0 0) := hb7.at hR5 (by omega)
  have hA7 : At 64 w7 (w.heap.size + 1 + 1) (zm 2 S k 1 nx) := hA7'
  clear hA7'
  go_wp2_with (first | (refine zg rfl 64 #[] rfl (zm 0 ⟨#[]⟩ 0 0 0) (by kernel_rfl) ?_) | (refine zg rfl 29 _ rfl (fa2 4 k) (by kernel_rfl) ?_) | (refine zl rfl rfl hR47 (zm 0 ⟨#[]⟩ 0 0 0) rfl rfl i34 rfl (yo _ _ _ _ _) ?_; intro w8 hA8 hb8 hs8) | (refine zl rfl rfl (hb8.at hR57 (by omega)) (fa2 4 k) rfl rfl i25 rfl (yq _ _) ?_; intro w9 hA9 hb9 hs9))
  refine zr (zU rfl _ _ w.heap.size (w.heap.size + 1) 64 29 (zm 0 ⟨#[]⟩ 0 0 0) (fa2 4 k) _ _ rfl (hb9.at hA8 (by omega)) Tryz.underlying64 rfl i34 rfl hA9 Tryz.underlying29 rfl i25) rfl ?_
  exact ⟨(HPost.out _).2 (by rw [hfin.out]; rfl), hb9.below (hb8.below hB7 (zj _) hB7.size) (by omega) (by have := hB7.size; omega)⟩
