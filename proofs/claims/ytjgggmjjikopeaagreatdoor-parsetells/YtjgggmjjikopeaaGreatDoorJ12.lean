/- J -/
import Derived.Test.YtjgggmjjikopeaaGreatDoorJ11
set_option linter.unusedVariables false
set_option maxRecDepth 100000
set_option maxHeartbeats 6400000
open Go.RowKit
namespace Go.Proofs.YtjgggmjjikopeaaGreatDoor
theorem zae (s : ByteArray) (k K n : Nat) (w : World) (hk : k < s.size) (hs : s.size <= 1099511627775) (hd : zY s[k].toNat = true) (hl : z7 s[k].toNat = false) (hKn : zI ((bytes s).drop k) = (K, n)) (hpt0 : Z0 ((bytes s).drop (k + dgN ((bytes s).drop k))) = true) :
  Calls Tryz.prog 98 #[.string s, .int .i64 (k : Int)] w fun e w' => e = .returned (.tuple #[.agg (yR s k K n).toArray, .agg (Zx s k K n).toArray]) /\ Below w.heap.size w w' := by
 have hbd := Zv ((bytes s).drop k) (by rw [yC, zc]; omega)
 rw [hKn, yC, zc] at hbd
 obtain ⟨hn1, hn2, _⟩ := hbd
 simp only [] at hn1 hn2
 have hdig : K = 2 -> ZP (((bytes s).drop k).take n) := fun h => by have := YV ((bytes s).drop k) (by rw [hKn]; exact h); rwa [hKn] at this
 have hbS : bytes (s.extract k (k + n)) = ((bytes s).drop k).take n := by rw [yp, XP]
 have hen := J3 s k hk hd hl
 rw [hKn] at hen
 have hrun := fun w => X7 s k false w (by omega) (by omega)
 have hru : ruN false ((bytes s).drop k) = dgN ((bytes s).drop k) := rfl
 rw [hru] at hrun
 have hmle := KD ((bytes s).drop k)
 rw [yC, zc] at hmle
 have hm1 := Xv s k hk hd
 obtain ⟨m, hm⟩ : ∃ m, Hid (m = dgN ((bytes s).drop k)) := ⟨_, (rfl : dgN ((bytes s).drop k) = _)⟩
 rw [<- hm.out] at hen hrun hmle hm1
 have hpt := hpt0
 clear hpt0
 rw [<- hm.out] at hpt
 obtain ⟨S, hS⟩ : ∃ S, Hid (S = s.extract k (k + n)) := ⟨_, (rfl : s.extract k (k + n) = _)⟩
 have hSz : S.size = n := by rw [hS.out, <- zc, hbS, Yj, yC, zc]; omega
 obtain ⟨E, hE⟩ : ∃ E, E = k + n := ⟨_, rfl⟩
 have HPost : Hid (∀ e : Ending, e = .returned (.tuple #[.agg (yR s k K n).toArray, .agg (Zx s k K n).toArray]) ↔ e = .returned (.tuple #[.agg (if zG K (bytes S) = 0 /\ clB K ((bytes s).drop E) = false then zm K S k (yh K) (ZT K (bytes S)) else zm 0 ⟨#[]⟩ 0 0 0).toArray, .agg (if zG K (bytes S) ≠ 0 then fa2 (zG K (bytes S)) k else if clB K ((bytes s).drop E) = true then fa2 4 E else fa2 0 0).toArray])) := by
  intro e; rw [yR, Zx, hS.out, hbS, hE]
 have HDig : Hid (K = 2 -> ZP (bytes S)) := by show K = 2 -> _; rw [hS.out, hbS]; exact hdig
 have HRun : Hid (∀ w, Calls Tryz.prog 100 #[.string s, .int .i64 (k : Int), .bool false] w fun e w' => e = .returned (.int .i64 ((k + m : Nat) : Int)) /\ w' = w) := hrun
 have hEle : E <= s.size := by omega
 have hkE : k <= E := by omega
 have hS2 : Hid (s.extract k E = S) := by show _ = _; rw [hS.out, hE]
 have hmp : 1 <= m := by omega
 clear hrun hdig hKn hru hm1
 rw [hpt] at hen
 simp only [if_true, Prod.mk.injEq] at hen
 obtain ⟨rfl, hn3⟩ := hen
 obtain ⟨hp1, hp2, hp3⟩ := zgp s (k + m) hpt
 have hrun2 := fun w => X7 s (k + m + 1) false w (by omega) (by omega)
 have hru2 : ruN false ((bytes s).drop (k + m + 1)) = dgN ((bytes s).drop (k + m + 1)) := rfl
 rw [hru2, show k + m + 1 + dgN ((bytes s).drop (k + m + 1)) = E by omega] at hrun2
 have HRun2 : Hid (∀ w, Calls Tryz.prog 100 #[.string s, .int .i64 ((k + m + 1 : Nat) : Int), .bool false] w fun e w' => e = .returned (.int .i64 (E : Int)) /\ w' = w) := hrun2
 clear hrun2 hpt hn3 hE
 go_enter Tryz.func98, Tryz.ntmps98
 go_wp2_with (first | (refine zD (o := { dst := some 4, .. }) rfl rfl z34 ?_; intro w1 hA1 hb1 hs1) | (refine zD rfl rfl z25 ?_; intro w2 hA2 hb2 hs2; rw [hs1] at hA2))
 refine (HRun.out _).mono ?_
 rintro e wr ⟨rfl, hwr⟩
 rw [hwr]; clear hwr
 go_wp2_with (first | (refine zg rfl 64 _ rfl (zm 2 ⟨#[]⟩ k 0 0) (by kernel_rfl) ?_) | (refine zD rfl rfl z34 ?_; intro w3 hA3 hb3 hs3) | (refine zl rfl rfl hA3 (zm 2 ⟨#[]⟩ k 0 0) rfl rfl i34 rfl (yo _ _ _ _ _) ?_; intro w4 hA4 hb4 hs4; refine zb ?_))
 refine Lib.hid ?_
 have hB4 : Below w.heap.size w w4 := hb4.below ((hb1.trans (hb2.mono (by omega))).trans (hb3.mono (by omega))) (by omega) (by omega)
 have hR44 : At 64 w4 w.heap.size (zm 0 ⟨#[]⟩ 0 0 0) := hb4.at ((hA1.below hb2).below hb3) (by omega)
 have hR54 : At 29 w4 (w.heap.size + 1) (fa2 0 0) := hb4.at (hA2.below hb3) (by omega)
 rw [hs2, hs1] at hA4
 clear hA1 hb1 hA2 hb2 hA3 hb3 hb4
 go_wp2_with (first | (refine YQ rfl rfl hA4 0 (.int .i64 3) rfl rfl i3 ?_; intro w5 hA5' hb5 hs5; refine zb ?_) | (go_at_call 97; refine (ZA _ _ true hp3).mono ?_; rintro e w2' ⟨rfl, rfl⟩) | (go_at_call 100; refine (HRun2.out _).mono ?_; rintro e w2' ⟨rfl, rfl⟩))
 refine Lib.hid ?_
 have hA5 : At 64 w5 (w.heap.size + 1 + 1) (zm 3 ⟨#[]⟩ k 0 0) := hA5'
 have hB5 : Below w.heap.size w w5 := hb5.below hB4 (by omega) (by omega)
 have hR45 : At 64 w5 w.heap.size (zm 0 ⟨#[]⟩ 0 0 0) := hb5.at hR44 (by omega)
 have hR55 : At 29 w5 (w.heap.size + 1) (fa2 0 0) := hb5.at hR54 (by omega)
 clear hA5' hb5 hR44 hR54 hA4
 go_wp2_with (first | (refine YQ rfl rfl hA5 1 (.string S) rfl (congrArg Value.string hS2.out) i9 ?_; intro w6 hA6' hb6 hs6; refine zb ?_))
 refine Lib.hid ?_
 have hA6 : At 64 w6 (w.heap.size + 1 + 1) (zm 3 S k 0 0) := hA6'
 have hB6 : Below w.heap.size w w6 := hb6.below hB5 (by omega) (by omega)
 have hR4 : At 64 w6 w.heap.size (zm 0 ⟨#[]⟩ 0 0 0) := hb6.at hR45 (by omega)
 have hR5 : At 29 w6 (w.heap.size + 1) (fa2 0 0) := hb6.at hR55 (by omega)
 clear hA6' hb6
 have hcell0 : w6.cell? ⟨w.heap.size + 1 + 1, 0, none⟩ = some (.int .i64 3) := by rw [hA6.cell]; rfl
 have hcell1 : w6.cell? ⟨w.heap.size + 1 + 1, 1, none⟩ = some (.string S) := by rw [hA6.cell]; rfl
 go_wp2_with fail
 refine (j7 S _ (by omega)).mono ?_
 rintro e wx ⟨⟨hg, rfl⟩ | ⟨hg, rfl⟩, hqx⟩
 ·have hfin : Hid (zG 3 (bytes S) = 0) := by simp [Hid, zG, hg]
  have hA6x : At 64 wx (w.heap.size + 1 + 1) (zm 3 S k 0 0) := by obtain ⟨q, hq⟩ := hqx; rw [hq]; exact hA6.drewN q
  have hR4x : At 64 wx w.heap.size (zm 0 ⟨#[]⟩ 0 0 0) := by obtain ⟨q, hq⟩ := hqx; rw [hq]; exact hR4.drewN q
  have hR5x : At 29 wx (w.heap.size + 1) (fa2 0 0) := by obtain ⟨q, hq⟩ := hqx; rw [hq]; exact hR5.drewN q
  have hB6x : Below w.heap.size w wx := by obtain ⟨q, hq⟩ := hqx; rw [hq]; exact ⟨hB6.os, hB6.tape, hB6.output, hB6.size, hB6.block⟩
  clear hqx hcell0 hcell1
  have hval : Hid (ZT 3 (bytes S) = quo (yE (bytes S)) (10 ^ (zu (bytes S)).length)) := by simp [Hid, ZT]
  obtain ⟨V, hV⟩ : ∃ V, Hid (V = quo (yE (bytes S)) (10 ^ (zu (bytes S)).length)) := ⟨_, (rfl : quo (yE (bytes S)) (10 ^ (zu (bytes S)).length) = _)⟩
  rw [<- hV.out]
  go_wp2_with (first | (refine zg rfl 40 _ rfl (zy 3 V) (by kernel_rfl) ?_) | (refine yV rfl rfl hA6x 3 (.int .u8 3) (.int .u64 (V : Int)) rfl rfl i32 (yj 3 V) ?_; intro w7 hA7' hb7 hs7; refine zb ?_))
  refine Lib.hid ?_
  have hB7 : Below w.heap.size w w7 := hb7.below hB6x (by omega) (by have := hB6x.size; omega)
  have hR47 : At 64 w7 w.heap.size (zm 0 ⟨#[]⟩ 0 0 0) := hb7.at hR4x (by omega)
  have hR57 : At 29 w7 (w.heap.size + 1) (fa2 0 0) := hb7.at hR5x (by omega)
  have hA7 : At 64 w7 (w.heap.size + 1 + 1) (zm 3 S k 3 V) := hA7'
  clear hA7'
  cases hcb : clB 3 ((bytes s).drop E)
  ·have hcs := zcn s E 3 (by decide) hcb
   have HCB : Hid (clB 3 ((bytes s).drop E) = false) := hcb
   clear hcb
   rcases hcs with hc1 | ⟨hc1, hc2, hc3⟩
   focus
    go_wp2_with (first | (refine lL rfl rfl hA7 rfl Tryz.underlying64 rfl i34 ?_) | (refine zg rfl 29 _ rfl (fa2 0 0) (by kernel_rfl) ?_) | (refine zl rfl rfl hR47 (zm 3 S k 3 V) rfl rfl i34 rfl (yo _ _ _ _ _) ?_; intro w8 hA8 hb8 hs8) | (refine zl rfl rfl (hb8.at hR57 (by omega)) (fa2 0 0) rfl rfl i25 rfl (yq _ _) ?_; intro w9 hA9 hb9 hs9))
   rotate_left
   focus
    go_wp2_with (first | (refine lL rfl rfl hA7 rfl Tryz.underlying64 rfl i34 ?_) | (refine zg rfl 29 _ rfl (fa2 0 0) (by kernel_rfl) ?_) | (refine zl rfl rfl hR47 (zm 3 S k 3 V) rfl rfl i34 rfl (yo _ _ _ _ _) ?_; intro w8 hA8 hb8 hs8) | (refine zl rfl rfl (hb8.at hR57 (by omega)) (fa2 0 0) rfl rfl i25 rfl (yq _ _) ?_; intro w9 hA9 hb9 hs9) | (go_at_call 99; refine (yS _ _ false hc2).mono ?_; rintro e w2' ⟨rfl, rfl⟩))
   rotate_left
   all_goals
    refine zr (zU rfl _ _ w.heap.size (w.heap.size + 1) 64 29 (zm 3 S k 3 V) (fa2 0 0) _ _ rfl (hb9.at hA8 (by omega)) Tryz.underlying64 rfl i34 rfl hA9 Tryz.underlying29 rfl i25) rfl ?_
    exact ⟨(HPost.out _).2 (by rw [hfin.out, HCB.out, hval.out, <- hV.out]; rfl), hb9.below (hb8.below hB7 (zj _) hB7.size) (by omega) (by have := hB7.size; omega)⟩
  ·have hcs := qD s E 3 hcb
   have HCB : Hid (clB 3 ((bytes s).drop E) = true) := hcb
   clear hcb
   obtain ⟨hc1, hcs⟩ := hcs
   rcases hcs with hc2 | ⟨hc2, hc3⟩
   focus
    go_wp2_with (first | (refine zg rfl 64 #[] rfl (zm 0 ⟨#[]⟩ 0 0 0) (by kernel_rfl) ?_) | (refine zg rfl 29 _ rfl (fa2 4 E) (by kernel_rfl) ?_) | (refine zl rfl rfl hR47 (zm 0 ⟨#[]⟩ 0 0 0) rfl rfl i34 rfl (yo _ _ _ _ _) ?_; intro w8 hA8 hb8 hs8) | (refine zl rfl rfl (hb8.at hR57 (by omega)) (fa2 4 E) rfl rfl i25 rfl (yq _ _) ?_; intro w9 hA9 hb9 hs9) | (go_at_call 99; refine (yS _ _ true hc2).mono ?_; rintro e w2' ⟨rfl, rfl⟩))
   rotate_left
   focus
    go_wp2_with (first | (refine zg rfl 64 #[] rfl (zm 0 ⟨#[]⟩ 0 0 0) (by kernel_rfl) ?_) | (refine zg rfl 29 _ rfl (fa2 4 E) (by kernel_rfl) ?_) | (refine zl rfl rfl hR47 (zm 0 ⟨#[]⟩ 0 0 0) rfl rfl i34 rfl (yo _ _ _ _ _) ?_; intro w8 hA8 hb8 hs8) | (refine zl rfl rfl (hb8.at hR57 (by omega)) (fa2 4 E) rfl rfl i25 rfl (yq _ _) ?_; intro w9 hA9 hb9 hs9) | (go_at_call 99; refine (Jg _).mono ?_; rintro e w2' ⟨rfl, rfl⟩))
   rotate_left
   all_goals
    refine zr (zU rfl _ _ w.heap.size (w.heap.size + 1) 64 29 (zm 0 ⟨#[]⟩ 0 0 0) (fa2 4 E) _ _ rfl (hb9.at hA8 (by omega)) Tryz.underlying64 rfl i34 rfl hA9 Tryz.underlying29 rfl i25) rfl ?_
    exact ⟨(HPost.out _).2 (by rw [hfin.out, HCB.out]; rfl), hb9.below (hb8.below hB7 (zj _) hB7.size) (by omega) (by have := hB7.size; omega)⟩
 ·have hfin : Hid (zG 3 (bytes S) = 4) := by simp [Hid, zG, hg]
  have hA6x : At 64 wx (w.heap.size + 1 + 1) (zm 3 S k 0 0) := by obtain ⟨q, hq⟩ := hqx; rw [hq]; exact hA6.drewN q
  have hR4x : At 64 wx w.heap.size (zm 0 ⟨#[]⟩ 0 0 0) := by obtain ⟨q, hq⟩ := hqx; rw [hq]; exact hR4.drewN q
  have hR5x : At 29 wx (w.heap.size + 1) (fa2 0 0) := by obtain ⟨q, hq⟩ := hqx; rw [hq]; exact hR5.drewN q
  have hB6x : Below w.heap.size w wx := by obtain ⟨q, hq⟩ := hqx; rw [hq]; exact ⟨hB6.os, hB6.tape, hB6.output, hB6.size, hB6.block⟩
  clear hqx hcell0 hcell1
  go_wp2_with (first | (refine zg rfl 40 _ rfl (zy 3 0) (by kernel_rfl) ?_) | (refine yV rfl rfl hA6x 3 (.int .u8 3) (.int .u64 0) rfl rfl i32 (yj 3 0) ?_; intro w7 hA7' hb7 hs7; refine zb ?_))
  refine Lib.hid ?_
  have hB7 : Below w.heap.size w w7 := hb7.below hB6x (by omega) (by have := hB6x.size; omega)
  have hR47 : At 64 w7 w.heap.size (zm 0 ⟨#[]⟩ 0 0 0) := hb7.at hR4x (by omega)
  have hR57 : At 29 w7 (w.heap.size + 1) (fa2 0 0) := hb7.at hR5x (by omega)
  have hA7 : At 64 w7 (w.heap.size + 1 + 1) (zm 3 S k 3 0) := hA7'
  clear hA7'
  go_wp2_with (first | (refine zg rfl 64 #[] rfl (zm 0 ⟨#[]⟩ 0 0 0) (by kernel_rfl) ?_) | (refine zg rfl 29 _ rfl (fa2 4 k) (by kernel_rfl) ?_) | (refine zl rfl rfl hR47 (zm 0 ⟨#[]⟩ 0 0 0) rfl rfl i34 rfl (yo _ _ _ _ _) ?_; intro w8 hA8 hb8 hs8) | (refine zl rfl rfl (hb8.at hR57 (by omega)) (fa2 4 k) rfl rfl i25 rfl (yq _ _) ?_; intro w9 hA9 hb9 hs9))
  refine zr (zU rfl _ _ w.heap.size (w.heap.size + 1) 64 29 (zm 0 ⟨#[]⟩ 0 0 0) (fa2 4 k) _ _ rfl (hb9.at hA8 (by omega)) Tryz.underlying64 rfl i34 rfl hA9 Tryz.underlying29 rfl i25) rfl ?_
  exact ⟨(HPost.out _).2 (by rw [hfin.out]; rfl), hb9.below (hb8.below hB7 (zj _) hB7.size) (by omega) (by have := hB7.size; omega)⟩
