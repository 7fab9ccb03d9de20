/- The document's own number, without a point (2c). -/
import Derived.Test.YtinofdmdfhklpaaDoorOne
namespace Go.Proofs.YtinofdmdfhklpaaDoor
open Go.RowKit
set_option linter.unusedVariables false

set_option maxRecDepth 100000 in
set_option maxHeartbeats 4000000 in
theorem refNumber_2c (s : ByteArray) (k K n : Nat) (w : World) (hk : k < s.size) (hs : s.size ≤ 1099511627775) (hd : isDig s[k].toNat = true) (hl : isLet s[k].toNat = false) (hKn : endOf ((bytes s).drop k) = (K, n)) (hpt0 : isPt ((bytes s).drop (k + dgN ((bytes s).drop k))) = false) (hp10 : k + dgN ((bytes s).drop k) + 1 < s.size) (hp20 : (((bytes s).getD (k + dgN ((bytes s).drop k)) 0).toNat : Int) = 46) (hp30 : isDig ((bytes s).getD (k + dgN ((bytes s).drop k) + 1) 0).toNat = false) :
    Calls Tryd.prog 26 #[.string s, .int .i64 (k : Int)] w fun e w' => e = .returned (.tuple #[.agg (oneTok s k K n).toArray, .agg (oneFa s k K n).toArray]) ∧ Below w.heap.size w w' := by
  have hbd := endOf_bounds ((bytes s).drop k) (by rw [List.length_drop, bytes_length]; omega)
  rw [hKn, List.length_drop, bytes_length] at hbd
  obtain ⟨hn1, hn2, _⟩ := hbd
  simp only [] at hn1 hn2
  have hdig : K = 2 → allDg (((bytes s).drop k).take n) := fun h => by have := end_digits ((bytes s).drop k) (by rw [hKn]; exact h); rwa [hKn] at this
  have hbS : bytes (s.extract k (k + n)) = ((bytes s).drop k).take n := by rw [bytes_extract, Nat.add_sub_cancel_left]
  have hen := end_num s k hk hd hl
  rw [hKn] at hen
  have hrun := fun w => run_any s k false w (by omega) (by omega)
  have hru : ruN false ((bytes s).drop k) = dgN ((bytes s).drop k) := rfl
  rw [hru] at hrun
  have hmle := dgN_le ((bytes s).drop k)
  rw [List.length_drop, bytes_length] at hmle
  have hm1 := dgN_yes s k hk hd
  obtain ⟨m, hm⟩ : ∃ m, Hid (m = dgN ((bytes s).drop k)) := ⟨_, (rfl : dgN ((bytes s).drop k) = _)⟩
  rw [← hm.out] at hen hrun hmle hm1
  have hpt := hpt0
  have hp1 := hp10
  have hp2 := hp20
  have hp3 := hp30
  clear hpt0 hp30 hp20 hp10
  simp only [← hm.out] at hpt hp1 hp2 hp3
  rw [bytes_at s (k + m) (Nat.lt_of_succ_lt hp1)] at hp2
  rw [bytes_at s (k + m + 1) hp1] at hp3
  obtain ⟨S, hS⟩ : ∃ S, Hid (S = s.extract k (k + n)) := ⟨_, (rfl : s.extract k (k + n) = _)⟩
  have hSz : S.size = n := by rw [hS.out, ← bytes_length, hbS, List.length_take, List.length_drop, bytes_length]; omega
  obtain ⟨E, hE⟩ : ∃ E, E = k + n := ⟨_, rfl⟩
  have HPost : Hid (∀ e : Ending, e = .returned (.tuple #[.agg (oneTok s k K n).toArray, .agg (oneFa s k K n).toArray]) ↔ e = .returned (.tuple #[.agg (if errOf K (bytes S) = 0 ∧ clB K ((bytes s).drop E) = false then tok5 K S k (valT K) (valB K (bytes S)) else tok5 0 ⟨#[]⟩ 0 0 0).toArray, .agg (if errOf K (bytes S) ≠ 0 then fa2 (errOf K (bytes S)) k else if clB K ((bytes s).drop E) = true then fa2 4 E else fa2 0 0).toArray])) := by
    intro e; rw [oneTok, oneFa, hS.out, hbS, hE]
  have HDig : Hid (K = 2 → allDg (bytes S)) := by show K = 2 → _; rw [hS.out, hbS]; exact hdig
  have HRun : Hid (∀ w, Calls Tryd.prog 28 #[.string s, .int .i64 (k : Int), .bool false] w fun e w' => e = .returned (.int .i64 ((k + m : Nat) : Int)) ∧ w' = w) := hrun
  have hEle : E ≤ s.size := by omega
  have hkE : k ≤ E := by omega
  have hS2 : Hid (s.extract k E = S) := by show _ = _; rw [hS.out, hE]
  have hmp : 1 ≤ m := by omega
  clear hrun hdig hKn hru hm1
  rw [hpt] at hen
  simp only [Bool.false_eq_true, if_false, Prod.mk.injEq] at hen
  obtain ⟨rfl, rfl⟩ := hen
  have HPT : Hid (isPt ((bytes s).drop (k + n)) = false) := hpt
  clear hpt
  obtain rfl := hE
  go_enter Tryd.func26, Tryd.ntmps26
  go_wp2_with (first | ((with_reducible show wpList _ _ _ _ _ _); refine wpList_alloc_at (o := { dst := some 4, .. }) rfl 34 rfl (tok5 0 ⟨#[]⟩ 0 0 0) 5 z34 ?_; intro w1 hA1 hb1 hs1) | ((with_reducible show wpList _ _ _ _ _ _); refine wpList_alloc_at rfl 25 rfl (fa2 0 0) 2 z25 ?_; intro w2 hA2 hb2 hs2; rw [hs1] at hA2))
  refine (HRun.out _).mono ?_
  rintro e wr ⟨rfl, hwr⟩
  rw [hwr]; clear hwr
  go_wp2_with (first | ((with_reducible show wpList _ _ _ _ _ _); refine wpList_build_at rfl 34 _ rfl (tok5 2 ⟨#[]⟩ k 0 0) (by kernel_rfl) ?_) | ((with_reducible show wpList _ _ _ _ _ _); refine wpList_alloc_at rfl 34 rfl (tok5 0 ⟨#[]⟩ 0 0 0) 5 z34 ?_; intro w3 hA3 hb3 hs3) | ((with_reducible show wpList _ _ _ _ _ _); refine wpList_store_at (P := Tryd.prog) rfl 34 (.tmp 7) (.tmp 17) rfl w2.heap.size (tok5 2 ⟨#[]⟩ k 0 0) rfl rfl 34 (tok5 0 ⟨#[]⟩ 0 0 0) hA3 i34 rfl (one5 _ _ _ _ _) ?_; intro w4 hA4 hb4 hs4; refine Hid.out ?_))
  refine Lib.hid ?_
  have hB4 : Below w.heap.size w w4 := hb4.below ((hb1.trans (hb2.mono (by omega))).trans (hb3.mono (by omega))) (by omega) (by omega)
  have hR44 : At 34 w4 w.heap.size (tok5 0 ⟨#[]⟩ 0 0 0) := hb4.at ((hA1.below hb2).below hb3) (by omega)
  have hR54 : At 25 w4 (w.heap.size + 1) (fa2 0 0) := hb4.at (hA2.below hb3) (by omega)
  rw [hs2, hs1] at hA4
  clear hA1 hb1 hA2 hb2 hA3 hb3 hb4
  go_wp2_with (first | ((with_reducible show wpList _ _ _ _ _ _); refine wpList_store_one (P := Tryd.prog) rfl 9 (.tmp 45) (.tmp 44) rfl (w.heap.size + 1 + 1) 1 (.string S) rfl (congrArg Value.string hS2.out) 34 (tok5 2 ⟨#[]⟩ k 0 0) hA4 (show 1 + 1 ≤ 5 by decide) i9 rfl rfl ?_; intro w6 hA6' hb6 hs6; refine Hid.out ?_) | (go_at_call 25; refine (digit4_at _ _ false hp3).mono ?_; rintro e w2' ⟨rfl, rfl⟩))
  refine Lib.hid ?_
  have hA6 : At 34 w6 (w.heap.size + 1 + 1) (tok5 2 S k 0 0) := hA6'
  have hB6 : Below w.heap.size w w6 := hb6.below hB4 (by omega) (by omega)
  have hR4 : At 34 w6 w.heap.size (tok5 0 ⟨#[]⟩ 0 0 0) := hb6.at hR44 (by omega)
  have hR5 : At 25 w6 (w.heap.size + 1) (fa2 0 0) := hb6.at hR54 (by omega)
  clear hA6' hb6
  have hcell0 : w6.cell? ⟨w.heap.size + 1 + 1, 0, none⟩ = some (.int .i64 2) := by rw [hA6.cell]; rfl
  have hcell1 : w6.cell? ⟨w.heap.size + 1 + 1, 1, none⟩ = some (.string S) := by rw [hA6.cell]; rfl
  go_wp2_with fail
  refine (whole_any S _ (by omega) (by omega) (HDig.out (by trivial))).mono ?_
  rintro e wx ⟨⟨hg, rfl⟩ | ⟨hg, nx, hnx, rfl⟩, hwx⟩
  · have hfin : Hid (errOf 2 (bytes S) = 0) := by simp [Hid, errOf, hg]
    rw [hwx]; clear hwx
    have hval : Hid (valB 2 (bytes S) = decVal (bytes S)) := by simp [Hid, valB]
    obtain ⟨V, hV⟩ : ∃ V, Hid (V = decVal (bytes S)) := ⟨_, (rfl : decVal (bytes S) = _)⟩
    rw [← hV.out]
    go_wp2_with (first | ((with_reducible show wpList _ _ _ _ _ _); refine wpList_build_at rfl 32 _ rfl (val2 1 V) (by kernel_rfl) ?_) | ((with_reducible show wpList _ _ _ _ _ _); refine wpList_store_two (P := Tryd.prog) rfl 32 (.tmp 57) (.tmp 56) rfl (w.heap.size + 1 + 1) 3 (.int .u8 1) (.int .u64 (V : Int)) rfl rfl 34 (tok5 2 S k 0 0) hA6 (show 3 + 2 ≤ 5 by decide) i32 (one2 1 V) ?_; intro w7 hA7' hb7 hs7; refine Hid.out ?_))
    refine Lib.hid ?_
    have hB7 : Below w.heap.size w w7 := hb7.below hB6 (by omega) (by have := hB6.size; omega)
    have hR47 : At 34 w7 w.heap.size (tok5 0 ⟨#[]⟩ 0 0 0) := hb7.at hR4 (by omega)
    have hR57 : At 25 w7 (w.heap.size + 1) (fa2 0 0) := hb7.at hR5 (by omega)
    have hA7 : At 34 w7 (w.heap.size + 1 + 1) (tok5 2 S k 1 V) := hA7'
    clear hA7'
    cases hcb : clB 2 ((bytes s).drop (k + n))
    · have hcs := cl_no s (k + n) 2 (by decide) hcb
      have HCB : Hid (clB 2 ((bytes s).drop (k + n)) = false) := hcb
      clear hcb
      rcases hcs with hc1 | ⟨hc1, hc2, hc3⟩
      · exfalso; omega
      · exfalso; rw [hp2] at hc3; simp at hc3
    · have hcs := cl_yes s (k + n) 2 hcb
      have HCB : Hid (clB 2 ((bytes s).drop (k + n)) = true) := hcb
      clear hcb
      obtain ⟨hc1, hcs⟩ := hcs
      rcases hcs with hc2 | ⟨hc2, hc3⟩
      · exfalso; rw [show s[k + n].toNat = 46 by omega] at hc2; exact absurd hc2 (by decide)
      · go_wp2_with (first | ((with_reducible show wpList _ _ _ _ _ _); refine wpList_build_at rfl 34 #[] rfl (tok5 0 ⟨#[]⟩ 0 0 0) (by kernel_rfl) ?_) | ((with_reducible show wpList _ _ _ _ _ _); refine wpList_build_at rfl 25 _ rfl (fa2 4 (k + n)) (by kernel_rfl) ?_) | ((with_reducible show wpList _ _ _ _ _ _); refine wpList_store_at (P := Tryd.prog) rfl 34 (.tmp 4) (.tmp 91) rfl w.heap.size (tok5 0 ⟨#[]⟩ 0 0 0) rfl rfl 34 (tok5 0 ⟨#[]⟩ 0 0 0) hR47 i34 rfl (one5 _ _ _ _ _) ?_; intro w8 hA8 hb8 hs8) | ((with_reducible show wpList _ _ _ _ _ _); refine wpList_store_at (P := Tryd.prog) rfl 25 (.tmp 5) (.tmp 93) rfl (w.heap.size + 1) (fa2 4 (k + n)) rfl rfl 25 (fa2 0 0) (hb8.at hR57 (by omega)) i25 rfl (one2f _ _) ?_; intro w9 hA9 hb9 hs9) | (go_at_call 27; refine (letter_46 _).mono ?_; rintro e w2' ⟨rfl, rfl⟩))
        refine bodyPost_ret (results_at_at rfl _ _ w.heap.size (w.heap.size + 1) 34 25 (tok5 0 ⟨#[]⟩ 0 0 0) (fa2 4 (k + n)) _ _ rfl (hb9.at hA8 (by omega)) Tryd.underlying34 rfl i34 rfl hA9 Tryd.underlying25 rfl i25) rfl ?_
        exact ⟨(HPost.out _).2 (by rw [hfin.out, HCB.out]; rfl), hb9.below (hb8.below hB7 (Nat.le_refl _) hB7.size) (by omega) (by have := hB7.size; omega)⟩
  · have hfin : Hid (errOf 2 (bytes S) = 4) := by simp [Hid, errOf, hg]
    rw [hwx]; clear hwx
    go_wp2_with (first | ((with_reducible show wpList _ _ _ _ _ _); refine wpList_build_at rfl 32 _ rfl (val2 1 nx) (by kernel_rfl) ?_) | ((with_reducible show wpList _ _ _ _ _ _); refine wpList_store_two (P := Tryd.prog) rfl 32 (.tmp 57) (.tmp 56) rfl (w.heap.size + 1 + 1) 3 (.int .u8 1) (.int .u64 (nx : Int)) rfl rfl 34 (tok5 2 S k 0 0) hA6 (show 3 + 2 ≤ 5 by decide) i32 (one2 1 nx) ?_; intro w7 hA7' hb7 hs7; refine Hid.out ?_))
    refine Lib.hid ?_
    have hB7 : Below w.heap.size w w7 := hb7.below hB6 (by omega) (by have := hB6.size; omega)
    have hR47 : At 34 w7 w.heap.size (tok5 0 ⟨#[]⟩ 0 0 0) := hb7.at hR4 (by omega)
    have hR57 : At 25 w7 (w.heap.size + 1) (fa2 0 0) := hb7.at hR5 (by omega)
    have hA7 : At 34 w7 (w.heap.size + 1 + 1) (tok5 2 S k 1 nx) := hA7'
    clear hA7'
    go_wp2_with (first | ((with_reducible show wpList _ _ _ _ _ _); refine wpList_build_at rfl 34 #[] rfl (tok5 0 ⟨#[]⟩ 0 0 0) (by kernel_rfl) ?_) | ((with_reducible show wpList _ _ _ _ _ _); refine wpList_build_at rfl 25 _ rfl (fa2 4 k) (by kernel_rfl) ?_) | ((with_reducible show wpList _ _ _ _ _ _); refine wpList_store_at (P := Tryd.prog) rfl 34 (.tmp 4) (.tmp 72) rfl w.heap.size (tok5 0 ⟨#[]⟩ 0 0 0) rfl rfl 34 (tok5 0 ⟨#[]⟩ 0 0 0) hR47 i34 rfl (one5 _ _ _ _ _) ?_; intro w8 hA8 hb8 hs8) | ((with_reducible show wpList _ _ _ _ _ _); refine wpList_store_at (P := Tryd.prog) rfl 25 (.tmp 5) (.tmp 74) rfl (w.heap.size + 1) (fa2 4 k) rfl rfl 25 (fa2 0 0) (hb8.at hR57 (by omega)) i25 rfl (one2f _ _) ?_; intro w9 hA9 hb9 hs9))
    refine bodyPost_ret (results_at_at rfl _ _ w.heap.size (w.heap.size + 1) 34 25 (tok5 0 ⟨#[]⟩ 0 0 0) (fa2 4 k) _ _ rfl (hb9.at hA8 (by omega)) Tryd.underlying34 rfl i34 rfl hA9 Tryd.underlying25 rfl i25) rfl ?_
    exact ⟨(HPost.out _).2 (by rw [hfin.out]; rfl), hb9.below (hb8.below hB7 (Nat.le_refl _) hB7.size) (by omega) (by have := hB7.size; omega)⟩

end Go.Proofs.YtinofdmdfhklpaaDoor
