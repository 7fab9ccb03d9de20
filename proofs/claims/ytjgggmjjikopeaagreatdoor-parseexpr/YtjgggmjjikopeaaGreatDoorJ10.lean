/- Joined texts of the proof. -/
import Derived.Test.YtjgggmjjikopeaaGreatDoorJ9

/- The document's own number, without a point (2b). -/
namespace Go.Proofs.YtjgggmjjikopeaaGreatDoor
open Go.RowKit
set_option linter.unusedVariables false

set_option maxRecDepth 100000 in
set_option maxHeartbeats 4000000 in
theorem refNumber_2b (s : ByteArray) (k K n : Nat) (w : World) (hk : k < s.size) (hs : s.size ≤ 1099511627775) (hd : isDig s[k].toNat = true) (hl : isLet s[k].toNat = false) (hKn : endOf ((bytes s).drop k) = (K, n)) (hpt0 : isPt ((bytes s).drop (k + dgN ((bytes s).drop k))) = false) (hp10 : k + dgN ((bytes s).drop k) + 1 < s.size) (hp20 : ((((bytes s).getD (k + dgN ((bytes s).drop k)) 0).toNat : Int) == 46) = false) :
    Calls Tryz.prog 98 #[.string s, .int .i64 (k : Int)] w fun e w' => e = .returned (.tuple #[.agg (oneTok s k K n).toArray, .agg (oneFa s k K n).toArray]) ∧ Below w.heap.size w w' := by
  have hbd := endOf_bounds ((bytes s).drop k) (by rw [List.length_drop, bytes_length]; omega)
  rw [hKn, List.length_drop, bytes_length] at hbd
  obtain ⟨hn1, hn2, _⟩ := hbd
  simp only [] at hn1 hn2
  have hdig : K = 2 → allDg (((bytes s).drop k).take n) := fun h => by have := end_digits ((bytes s).drop k) (by rw [hKn]; exact h); rwa [hKn] at this
  have hbS : bytes (s.extract k (k + n)) = ((bytes s).drop k).take n := by rw [bytes_extract, Nat.add_sub_cancel_left]
  have hen := end_num s k hk hd hl
  rw [hKn] at hen
  have hrun := fun w => run_any s k false w (by omega) (by omega)
  have hru : ruN false ((bytes s).drop k) = dgN ((bytes s).drop k) := rfl
  rw [hru] at hrun
  have hmle := dgN_le ((bytes s).drop k)
  rw [List.length_drop, bytes_length] at hmle
  have hm1 := dgN_yes s k hk hd
  obtain ⟨m, hm⟩ : ∃ m, Hid (m = dgN ((bytes s).drop k)) := ⟨_, (rfl : dgN ((bytes s).drop k) = _)⟩
  rw [← hm.out] at hen hrun hmle hm1
  have hpt := hpt0
  have hp1 := hp10
  have hp2 := hp20
  clear hpt0 hp20 hp10
  simp only [← hm.out] at hpt hp1 hp2
  rw [bytes_at s (k + m) (Nat.lt_of_succ_lt hp1)] at hp2
  obtain ⟨S, hS⟩ : ∃ S, Hid (S = s.extract k (k + n)) := ⟨_, (rfl : s.extract k (k + n) = _)⟩
  have hSz : S.size = n := by rw [hS.out, ← bytes_length, hbS, List.length_take, List.length_drop, bytes_length]; omega
  obtain ⟨E, hE⟩ : ∃ E, E = k + n := ⟨_, rfl⟩
  have HPost : Hid (∀ e : Ending, e = .returned (.tuple #[.agg (oneTok s k K n).toArray, .agg (oneFa s k K n).toArray]) ↔ e = .returned (.tuple #[.agg (if errOf K (bytes S) = 0 ∧ clB K ((bytes s).drop E) = false then tok5 K S k (valT K) (valB K (bytes S)) else tok5 0 ⟨#[]⟩ 0 0 0).toArray, .agg (if errOf K (bytes S) ≠ 0 then fa2 (errOf K (bytes S)) k else if clB K ((bytes s).drop E) = true then fa2 4 E else fa2 0 0).toArray])) := by
    intro e; rw [oneTok, oneFa, hS.out, hbS, hE]
  have HDig : Hid (K = 2 → allDg (bytes S)) := by show K = 2 → _; rw [hS.out, hbS]; exact hdig
  have HRun : Hid (∀ w, Calls Tryz.prog 100 #[.string s, .int .i64 (k : Int), .bool false] w fun e w' => e = .returned (.int .i64 ((k + m : Nat) : Int)) ∧ w' = w) := hrun
  have hEle : E ≤ s.size := by omega
  have hkE : k ≤ E := by omega
  have hS2 : Hid (s.extract k E = S) := by show _ = _; rw [hS.out, hE]
  have hmp : 1 ≤ m := by omega
  clear hrun hdig hKn hru hm1
  rw [hpt] at hen
  simp only [Bool.false_eq_true, if_false, Prod.mk.injEq] at hen
  obtain ⟨rfl, rfl⟩ := hen
  have HPT : Hid (isPt ((bytes s).drop (k + n)) = false) := hpt
  clear hpt
  obtain rfl := hE
  go_enter Tryz.func98, Tryz.ntmps98
  go_wp2_with (first | ((with_reducible show wpList _ _ _ _ _ _); refine wpList_alloc_at (o := { dst := some 4, .. }) rfl 64 rfl (tok5 0 ⟨#[]⟩ 0 0 0) 5 z34 ?_; intro w1 hA1 hb1 hs1) | ((with_reducible show wpList _ _ _ _ _ _); refine wpList_alloc_at rfl 29 rfl (fa2 0 0) 2 z25 ?_; intro w2 hA2 hb2 hs2; rw [hs1] at hA2))
  refine (HRun.out _).mono ?_
  rintro e wr ⟨rfl, hwr⟩
  rw [hwr]; clear hwr
  go_wp2_with (first | ((with_reducible show wpList _ _ _ _ _ _); refine wpList_build_at rfl 64 _ rfl (tok5 2 ⟨#[]⟩ k 0 0) (by kernel_rfl) ?_) | ((with_reducible show wpList _ _ _ _ _ _); refine wpList_alloc_at rfl 64 rfl (tok5 0 ⟨#[]⟩ 0 0 0) 5 z34 ?_; intro w3 hA3 hb3 hs3) | ((with_reducible show wpList _ _ _ _ _ _); refine wpList_store_at (P := Tryz.prog) rfl 64 (.tmp 7) (.tmp 17) rfl w2.heap.size (tok5 2 ⟨#[]⟩ k 0 0) rfl rfl 64 (tok5 0 ⟨#[]⟩ 0 0 0) hA3 i34 rfl (one5T _ _ _ _ _) ?_; intro w4 hA4 hb4 hs4; refine Hid.out ?_))
  refine Lib.hid ?_
  have hB4 : Below w.heap.size w w4 := hb4.below ((hb1.trans (hb2.mono (by omega))).trans (hb3.mono (by omega))) (by omega) (by omega)
  have hR44 : At 64 w4 w.heap.size (tok5 0 ⟨#[]⟩ 0 0 0) := hb4.at ((hA1.below hb2).below hb3) (by omega)
  have hR54 : At 29 w4 (w.heap.size + 1) (fa2 0 0) := hb4.at (hA2.below hb3) (by omega)
  rw [hs2, hs1] at hA4
  clear hA1 hb1 hA2 hb2 hA3 hb3 hb4
  go_wp2_with (first | ((with_reducible show wpList _ _ _ _ _ _); refine wpList_store_one (P := Tryz.prog) rfl 9 (.tmp 45) (.tmp 44) rfl (w.heap.size + 1 + 1) 1 (.string S) rfl (congrArg Value.string hS2.out) 64 (tok5 2 ⟨#[]⟩ k 0 0) hA4 (show 1 + 1 ≤ 5 by decide) i9 rfl rfl ?_; intro w6 hA6' hb6 hs6; refine Hid.out ?_))
  refine Lib.hid ?_
  have hA6 : At 64 w6 (w.heap.size + 1 + 1) (tok5 2 S k 0 0) := hA6'
  have hB6 : Below w.heap.size w w6 := hb6.below hB4 (by omega) (by omega)
  have hR4 : At 64 w6 w.heap.size (tok5 0 ⟨#[]⟩ 0 0 0) := hb6.at hR44 (by omega)
  have hR5 : At 29 w6 (w.heap.size + 1) (fa2 0 0) := hb6.at hR54 (by omega)
  clear hA6' hb6
  have hcell0 : w6.cell? ⟨w.heap.size + 1 + 1, 0, none⟩ = some (.int .i64 2) := by rw [hA6.cell]; rfl
  have hcell1 : w6.cell? ⟨w.heap.size + 1 + 1, 1, none⟩ = some (.string S) := by rw [hA6.cell]; rfl
  go_wp2_with fail
  refine (whole_any S _ (by omega) (by omega) (HDig.out (by trivial))).mono ?_
  rintro e wx ⟨⟨hg, rfl⟩ | ⟨hg, nx, hnx, rfl⟩, hwx⟩
  · have hfin : Hid (errOf 2 (bytes S) = 0) := by simp [Hid, errOf, hg]
    rw [hwx]; clear hwx
    have hval : Hid (valB 2 (bytes S) = decVal (bytes S)) := by simp [Hid, valB]
    obtain ⟨V, hV⟩ : ∃ V, Hid (V = decVal (bytes S)) := ⟨_, (rfl : decVal (bytes S) = _)⟩
    rw [← hV.out]
    go_wp2_with (first | ((with_reducible show wpList _ _ _ _ _ _); refine wpList_build_at rfl 40 _ rfl (val2 1 V) (by kernel_rfl) ?_) | ((with_reducible show wpList _ _ _ _ _ _); refine wpList_store_two (P := Tryz.prog) rfl 40 (.tmp 57) (.tmp 56) rfl (w.heap.size + 1 + 1) 3 (.int .u8 1) (.int .u64 (V : Int)) rfl rfl 64 (tok5 2 S k 0 0) hA6 (show 3 + 2 ≤ 5 by decide) i32 (one2 1 V) ?_; intro w7 hA7' hb7 hs7; refine Hid.out ?_))
    refine Lib.hid ?_
    have hB7 : Below w.heap.size w w7 := hb7.below hB6 (by omega) (by have := hB6.size; omega)
    have hR47 : At 64 w7 w.heap.size (tok5 0 ⟨#[]⟩ 0 0 0) := hb7.at hR4 (by omega)
    have hR57 : At 29 w7 (w.heap.size + 1) (fa2 0 0) := hb7.at hR5 (by omega)
    have hA7 : At 64 w7 (w.heap.size + 1 + 1) (tok5 2 S k 1 V) := hA7'
    clear hA7'
    cases hcb : clB 2 ((bytes s).drop (k + n))
    · have hcs := cl_no s (k + n) 2 (by decide) hcb
      have HCB : Hid (clB 2 ((bytes s).drop (k + n)) = false) := hcb
      clear hcb
      rcases hcs with hc1 | ⟨hc1, hc2, hc3⟩
      · exfalso; omega
      · go_wp2_with (first | ((with_reducible show wpList _ _ _ _ _ _); refine wpList_load_at (P := Tryz.prog) rfl 64 (.tmp 7) rfl (w.heap.size + 1 + 1) rfl 64 (tok5 2 S k 1 V) hA7 _ Tryz.underlying64 rfl i34 ?_) | ((with_reducible show wpList _ _ _ _ _ _); refine wpList_build_at rfl 29 _ rfl (fa2 0 0) (by kernel_rfl) ?_) | ((with_reducible show wpList _ _ _ _ _ _); refine wpList_store_at (P := Tryz.prog) rfl 64 (.tmp 4) (.tmp 94) rfl w.heap.size (tok5 2 S k 1 V) rfl rfl 64 (tok5 0 ⟨#[]⟩ 0 0 0) hR47 i34 rfl (one5T _ _ _ _ _) ?_; intro w8 hA8 hb8 hs8) | ((with_reducible show wpList _ _ _ _ _ _); refine wpList_store_at (P := Tryz.prog) rfl 29 (.tmp 5) (.tmp 95) rfl (w.heap.size + 1) (fa2 0 0) rfl rfl 29 (fa2 0 0) (hb8.at hR57 (by omega)) i25 rfl (one2f _ _) ?_; intro w9 hA9 hb9 hs9) | (go_at_call 99; refine (letterL_at _ _ false hc2).mono ?_; rintro e w2' ⟨rfl, rfl⟩))
        refine bodyPost_ret (results_at_at rfl _ _ w.heap.size (w.heap.size + 1) 64 29 (tok5 2 S k 1 V) (fa2 0 0) _ _ rfl (hb9.at hA8 (by omega)) Tryz.underlying64 rfl i34 rfl hA9 Tryz.underlying29 rfl i25) rfl ?_
        exact ⟨(HPost.out _).2 (by rw [hfin.out, HCB.out, hval.out, ← hV.out]; rfl), hb9.below (hb8.below hB7 (Nat.le_refl _) hB7.size) (by omega) (by have := hB7.size; omega)⟩
    · have hcs := cl_yes s (k + n) 2 hcb
      have HCB : Hid (clB 2 ((bytes s).drop (k + n)) = true) := hcb
      clear hcb
      obtain ⟨hc1, hcs⟩ := hcs
      rcases hcs with hc2 | ⟨hc2, hc3⟩
      · go_wp2_with (first | ((with_reducible show wpList _ _ _ _ _ _); refine wpList_build_at rfl 64 #[] rfl (tok5 0 ⟨#[]⟩ 0 0 0) (by kernel_rfl) ?_) | ((with_reducible show wpList _ _ _ _ _ _); refine wpList_build_at rfl 29 _ rfl (fa2 4 (k + n)) (by kernel_rfl) ?_) | ((with_reducible show wpList _ _ _ _ _ _); refine wpList_store_at (P := Tryz.prog) rfl 64 (.tmp 4) (.tmp 91) rfl w.heap.size (tok5 0 ⟨#[]⟩ 0 0 0) rfl rfl 64 (tok5 0 ⟨#[]⟩ 0 0 0) hR47 i34 rfl (one5T _ _ _ _ _) ?_; intro w8 hA8 hb8 hs8) | ((with_reducible show wpList _ _ _ _ _ _); refine wpList_store_at (P := Tryz.prog) rfl 29 (.tmp 5) (.tmp 93) rfl (w.heap.size + 1) (fa2 4 (k + n)) rfl rfl 29 (fa2 0 0) (hb8.at hR57 (by omega)) i25 rfl (one2f _ _) ?_; intro w9 hA9 hb9 hs9) | (go_at_call 99; refine (letterL_at _ _ true hc2).mono ?_; rintro e w2' ⟨rfl, rfl⟩))
        refine bodyPost_ret (results_at_at rfl _ _ w.heap.size (w.heap.size + 1) 64 29 (tok5 0 ⟨#[]⟩ 0 0 0) (fa2 4 (k + n)) _ _ rfl (hb9.at hA8 (by omega)) Tryz.underlying64 rfl i34 rfl hA9 Tryz.underlying29 rfl i25) rfl ?_
        exact ⟨(HPost.out _).2 (by rw [hfin.out, HCB.out]; rfl), hb9.below (hb8.below hB7 (Nat.le_refl _) hB7.size) (by omega) (by have := hB7.size; omega)⟩
      · exfalso; rw [hc3] at hp2; simp at hp2
  · have hfin : Hid (errOf 2 (bytes S) = 4) := by simp [Hid, errOf, hg]
    rw [hwx]; clear hwx
    go_wp2_with (first | ((with_reducible show wpList _ _ _ _ _ _); refine wpList_build_at rfl 40 _ rfl (val2 1 nx) (by kernel_rfl) ?_) | ((with_reducible show wpList _ _ _ _ _ _); refine wpList_store_two (P := Tryz.prog) rfl 40 (.tmp 57) (.tmp 56) rfl (w.heap.size + 1 + 1) 3 (.int .u8 1) (.int .u64 (nx : Int)) rfl rfl 64 (tok5 2 S k 0 0) hA6 (show 3 + 2 ≤ 5 by decide) i32 (one2 1 nx) ?_; intro w7 hA7' hb7 hs7; refine Hid.out ?_))
    refine Lib.hid ?_
    have hB7 : Below w.heap.size w w7 := hb7.below hB6 (by omega) (by have := hB6.size; omega)
    have hR47 : At 64 w7 w.heap.size (tok5 0 ⟨#[]⟩ 0 0 0) := hb7.at hR4 (by omega)
    have hR57 : At 29 w7 (w.heap.size + 1) (fa2 0 0) := hb7.at hR5 (by omega)
    have hA7 : At 64 w7 (w.heap.size + 1 + 1) (tok5 2 S k 1 nx) := hA7'
    clear hA7'
    go_wp2_with (first | ((with_reducible show wpList _ _ _ _ _ _); refine wpList_build_at rfl 64 #[] rfl (tok5 0 ⟨#[]⟩ 0 0 0) (by kernel_rfl) ?_) | ((with_reducible show wpList _ _ _ _ _ _); refine wpList_build_at rfl 29 _ rfl (fa2 4 k) (by kernel_rfl) ?_) | ((with_reducible show wpList _ _ _ _ _ _); refine wpList_store_at (P := Tryz.prog) rfl 64 (.tmp 4) (.tmp 72) rfl w.heap.size (tok5 0 ⟨#[]⟩ 0 0 0) rfl rfl 64 (tok5 0 ⟨#[]⟩ 0 0 0) hR47 i34 rfl (one5T _ _ _ _ _) ?_; intro w8 hA8 hb8 hs8) | ((with_reducible show wpList _ _ _ _ _ _); refine wpList_store_at (P := Tryz.prog) rfl 29 (.tmp 5) (.tmp 74) rfl (w.heap.size + 1) (fa2 4 k) rfl rfl 29 (fa2 0 0) (hb8.at hR57 (by omega)) i25 rfl (one2f _ _) ?_; intro w9 hA9 hb9 hs9))
    refine bodyPost_ret (results_at_at rfl _ _ w.heap.size (w.heap.size + 1) 64 29 (tok5 0 ⟨#[]⟩ 0 0 0) (fa2 4 k) _ _ rfl (hb9.at hA8 (by omega)) Tryz.underlying64 rfl i34 rfl hA9 Tryz.underlying29 rfl i25) rfl ?_
    exact ⟨(HPost.out _).2 (by rw [hfin.out]; rfl), hb9.below (hb8.below hB7 (Nat.le_refl _) hB7.size) (by omega) (by have := hB7.size; omega)⟩

end Go.Proofs.YtjgggmjjikopeaaGreatDoor

/- The document's own number, without a point (2c). -/
namespace Go.Proofs.YtjgggmjjikopeaaGreatDoor
open Go.RowKit
set_option linter.unusedVariables false

set_option maxRecDepth 100000 in
set_option maxHeartbeats 4000000 in
theorem refNumber_2c (s : ByteArray) (k K n : Nat) (w : World) (hk : k < s.size) (hs : s.size ≤ 1099511627775) (hd : isDig s[k].toNat = true) (hl : isLet s[k].toNat = false) (hKn : endOf ((bytes s).drop k) = (K, n)) (hpt0 : isPt ((bytes s).drop (k + dgN ((bytes s).drop k))) = false) (hp10 : k + dgN ((bytes s).drop k) + 1 < s.size) (hp20 : (((bytes s).getD (k + dgN ((bytes s).drop k)) 0).toNat : Int) = 46) (hp30 : isDig ((bytes s).getD (k + dgN ((bytes s).drop k) + 1) 0).toNat = false) :
    Calls Tryz.prog 98 #[.string s, .int .i64 (k : Int)] w fun e w' => e = .returned (.tuple #[.agg (oneTok s k K n).toArray, .agg (oneFa s k K n).toArray]) ∧ Below w.heap.size w w' := by
  have hbd := endOf_bounds ((bytes s).drop k) (by rw [List.length_drop, bytes_length]; omega)
  rw [hKn, List.length_drop, bytes_length] at hbd
  obtain ⟨hn1, hn2, _⟩ := hbd
  simp only [] at hn1 hn2
  have hdig : K = 2 → allDg (((bytes s).drop k).take n) := fun h => by have := end_digits ((bytes s).drop k) (by rw [hKn]; exact h); rwa [hKn] at this
  have hbS : bytes (s.extract k (k + n)) = ((bytes s).drop k).take n := by rw [bytes_extract, Nat.add_sub_cancel_left]
  have hen := end_num s k hk hd hl
  rw [hKn] at hen
  have hrun := fun w => run_any s k false w (by omega) (by omega)
  have hru : ruN false ((bytes s).drop k) = dgN ((bytes s).drop k) := rfl
  rw [hru] at hrun
  have hmle := dgN_le ((bytes s).drop k)
  rw [List.length_drop, bytes_length] at hmle
  have hm1 := dgN_yes s k hk hd
  obtain ⟨m, hm⟩ : ∃ m, Hid (m = dgN ((bytes s).drop k)) := ⟨_, (rfl : dgN ((bytes s).drop k) = _)⟩
  rw [← hm.out] at hen hrun hmle hm1
  have hpt := hpt0
  have hp1 := hp10
  have hp2 := hp20
  have hp3 := hp30
  clear hpt0 hp30 hp20 hp10
  simp only [← hm.out] at hpt hp1 hp2 hp3
  rw [bytes_at s (k + m) (Nat.lt_of_succ_lt hp1)] at hp2
  rw [bytes_at s (k + m + 1) hp1] at hp3
  obtain ⟨S, hS⟩ : ∃ S, Hid (S = s.extract k (k + n)) := ⟨_, (rfl : s.extract k (k + n) = _)⟩
  have hSz : S.size = n := by rw [hS.out, ← bytes_length, hbS, List.length_take, List.length_drop, bytes_length]; omega
  obtain ⟨E, hE⟩ : ∃ E, E = k + n := ⟨_, rfl⟩
  have HPost : Hid (∀ e : Ending, e = .returned (.tuple #[.agg (oneTok s k K n).toArray, .agg (oneFa s k K n).toArray]) ↔ e = .returned (.tuple #[.agg (if errOf K (bytes S) = 0 ∧ clB K ((bytes s).drop E) = false then tok5 K S k (valT K) (valB K (bytes S)) else tok5 0 ⟨#[]⟩ 0 0 0).toArray, .agg (if errOf K (bytes S) ≠ 0 then fa2 (errOf K (bytes S)) k else if clB K ((bytes s).drop E) = true then fa2 4 E else fa2 0 0).toArray])) := by
    intro e; rw [oneTok, oneFa, hS.out, hbS, hE]
  have HDig : Hid (K = 2 → allDg (bytes S)) := by show K = 2 → _; rw [hS.out, hbS]; exact hdig
  have HRun : Hid (∀ w, Calls Tryz.prog 100 #[.string s, .int .i64 (k : Int), .bool false] w fun e w' => e = .returned (.int .i64 ((k + m : Nat) : Int)) ∧ w' = w) := hrun
  have hEle : E ≤ s.size := by omega
  have hkE : k ≤ E := by omega
  have hS2 : Hid (s.extract k E = S) := by show _ = _; rw [hS.out, hE]
  have hmp : 1 ≤ m := by omega
  clear hrun hdig hKn hru hm1
  rw [hpt] at hen
  simp only [Bool.false_eq_true, if_false, Prod.mk.injEq] at hen
  obtain ⟨rfl, rfl⟩ := hen
  have HPT : Hid (isPt ((bytes s).drop (k + n)) = false) := hpt
  clear hpt
  obtain rfl := hE
  go_enter Tryz.func98, Tryz.ntmps98
  go_wp2_with (first | ((with_reducible show wpList _ _ _ _ _ _); refine wpList_alloc_at (o := { dst := some 4, .. }) rfl 64 rfl (tok5 0 ⟨#[]⟩ 0 0 0) 5 z34 ?_; intro w1 hA1 hb1 hs1) | ((with_reducible show wpList _ _ _ _ _ _); refine wpList_alloc_at rfl 29 rfl (fa2 0 0) 2 z25 ?_; intro w2 hA2 hb2 hs2; rw [hs1] at hA2))
  refine (HRun.out _).mono ?_
  rintro e wr ⟨rfl, hwr⟩
  rw [hwr]; clear hwr
  go_wp2_with (first | ((with_reducible show wpList _ _ _ _ _ _); refine wpList_build_at rfl 64 _ rfl (tok5 2 ⟨#[]⟩ k 0 0) (by kernel_rfl) ?_) | ((with_reducible show wpList _ _ _ _ _ _); refine wpList_alloc_at rfl 64 rfl (tok5 0 ⟨#[]⟩ 0 0 0) 5 z34 ?_; intro w3 hA3 hb3 hs3) | ((with_reducible show wpList _ _ _ _ _ _); refine wpList_store_at (P := Tryz.prog) rfl 64 (.tmp 7) (.tmp 17) rfl w2.heap.size (tok5 2 ⟨#[]⟩ k 0 0) rfl rfl 64 (tok5 0 ⟨#[]⟩ 0 0 0) hA3 i34 rfl (one5T _ _ _ _ _) ?_; intro w4 hA4 hb4 hs4; refine Hid.out ?_))
  refine Lib.hid ?_
  have hB4 : Below w.heap.size w w4 := hb4.below ((hb1.trans (hb2.mono (by omega))).trans (hb3.mono (by omega))) (by omega) (by omega)
  have hR44 : At 64 w4 w.heap.size (tok5 0 ⟨#[]⟩ 0 0 0) := hb4.at ((hA1.below hb2).below hb3) (by omega)
  have hR54 : At 29 w4 (w.heap.size + 1) (fa2 0 0) := hb4.at (hA2.below hb3) (by omega)
  rw [hs2, hs1] at hA4
  clear hA1 hb1 hA2 hb2 hA3 hb3 hb4
  go_wp2_with (first | ((with_reducible show wpList _ _ _ _ _ _); refine wpList_store_one (P := Tryz.prog) rfl 9 (.tmp 45) (.tmp 44) rfl (w.heap.size + 1 + 1) 1 (.string S) rfl (congrArg Value.string hS2.out) 64 (tok5 2 ⟨#[]⟩ k 0 0) hA4 (show 1 + 1 ≤ 5 by decide) i9 rfl rfl ?_; intro w6 hA6' hb6 hs6; refine Hid.out ?_) | (go_at_call 97; refine (digit4_at _ _ false hp3).mono ?_; rintro e w2' ⟨rfl, rfl⟩))
  refine Lib.hid ?_
  have hA6 : At 64 w6 (w.heap.size + 1 + 1) (tok5 2 S k 0 0) := hA6'
  have hB6 : Below w.heap.size w w6 := hb6.below hB4 (by omega) (by omega)
  have hR4 : At 64 w6 w.heap.size (tok5 0 ⟨#[]⟩ 0 0 0) := hb6.at hR44 (by omega)
  have hR5 : At 29 w6 (w.heap.size + 1) (fa2 0 0) := hb6.at hR54 (by omega)
  clear hA6' hb6
  have hcell0 : w6.cell? ⟨w.heap.size + 1 + 1, 0, none⟩ = some (.int .i64 2) := by rw [hA6.cell]; rfl
  have hcell1 : w6.cell? ⟨w.heap.size + 1 + 1, 1, none⟩ = some (.string S) := by rw [hA6.cell]; rfl
  go_wp2_with fail
  refine (whole_any S _ (by omega) (by omega) (HDig.out (by trivial))).mono ?_
  rintro e wx ⟨⟨hg, rfl⟩ | ⟨hg, nx, hnx, rfl⟩, hwx⟩
  · have hfin : Hid (errOf 2 (bytes S) = 0) := by simp [Hid, errOf, hg]
    rw [hwx]; clear hwx
    have hval : Hid (valB 2 (bytes S) = decVal (bytes S)) := by simp [Hid, valB]
    obtain ⟨V, hV⟩ : ∃ V, Hid (V = decVal (bytes S)) := ⟨_, (rfl : decVal (bytes S) = _)⟩
    rw [← hV.out]
    go_wp2_with (first | ((with_reducible show wpList _ _ _ _ _ _); refine wpList_build_at rfl 40 _ rfl (val2 1 V) (by kernel_rfl) ?_) | ((with_reducible show wpList _ _ _ _ _ _); refine wpList_store_two (P := Tryz.prog) rfl 40 (.tmp 57) (.tmp 56) rfl (w.heap.size + 1 + 1) 3 (.int .u8 1) (.int .u64 (V : Int)) rfl rfl 64 (tok5 2 S k 0 0) hA6 (show 3 + 2 ≤ 5 by decide) i32 (one2 1 V) ?_; intro w7 hA7' hb7 hs7; refine Hid.out ?_))
    refine Lib.hid ?_
    have hB7 : Below w.heap.size w w7 := hb7.below hB6 (by omega) (by have := hB6.size; omega)
    have hR47 : At 64 w7 w.heap.size (tok5 0 ⟨#[]⟩ 0 0 0) := hb7.at hR4 (by omega)
    have hR57 : At 29 w7 (w.heap.size + 1) (fa2 0 0) := hb7.at hR5 (by omega)
    have hA7 : At 64 w7 (w.heap.size + 1 + 1) (tok5 2 S k 1 V) := hA7'
    clear hA7'
    cases hcb : clB 2 ((bytes s).drop (k + n))
    · have hcs := cl_no s (k + n) 2 (by decide) hcb
      have HCB : Hid (clB 2 ((bytes s).drop (k + n)) = false) := hcb
      clear hcb
      rcases hcs with hc1 | ⟨hc1, hc2, hc3⟩
      · exfalso; omega
      · exfalso; rw [hp2] at hc3; simp at hc3
    · have hcs := cl_yes s (k + n) 2 hcb
      have HCB : Hid (clB 2 ((bytes s).drop (k + n)) = true) := hcb
      clear hcb
      obtain ⟨hc1, hcs⟩ := hcs
      rcases hcs with hc2 | ⟨hc2, hc3⟩
      · exfalso; rw [show s[k + n].toNat = 46 by omega] at hc2; exact absurd hc2 (by decide)
      · go_wp2_with (first | ((with_reducible show wpList _ _ _ _ _ _); refine wpList_build_at rfl 64 #[] rfl (tok5 0 ⟨#[]⟩ 0 0 0) (by kernel_rfl) ?_) | ((with_reducible show wpList _ _ _ _ _ _); refine wpList_build_at rfl 29 _ rfl (fa2 4 (k + n)) (by kernel_rfl) ?_) | ((with_reducible show wpList _ _ _ _ _ _); refine wpList_store_at (P := Tryz.prog) rfl 64 (.tmp 4) (.tmp 91) rfl w.heap.size (tok5 0 ⟨#[]⟩ 0 0 0) rfl rfl 64 (tok5 0 ⟨#[]⟩ 0 0 0) hR47 i34 rfl (one5T _ _ _ _ _) ?_; intro w8 hA8 hb8 hs8) | ((with_reducible show wpList _ _ _ _ _ _); refine wpList_store_at (P := Tryz.prog) rfl 29 (.tmp 5) (.tmp 93) rfl (w.heap.size + 1) (fa2 4 (k + n)) rfl rfl 29 (fa2 0 0) (hb8.at hR57 (by omega)) i25 rfl (one2f _ _) ?_; intro w9 hA9 hb9 hs9) | (go_at_call 99; refine (letter_46 _).mono ?_; rintro e w2' ⟨rfl, rfl⟩))
        refine bodyPost_ret (results_at_at rfl _ _ w.heap.size (w.heap.size + 1) 64 29 (tok5 0 ⟨#[]⟩ 0 0 0) (fa2 4 (k + n)) _ _ rfl (hb9.at hA8 (by omega)) Tryz.underlying64 rfl i34 rfl hA9 Tryz.underlying29 rfl i25) rfl ?_
        exact ⟨(HPost.out _).2 (by rw [hfin.out, HCB.out]; rfl), hb9.below (hb8.below hB7 (Nat.le_refl _) hB7.size) (by omega) (by have := hB7.size; omega)⟩
  · have hfin : Hid (errOf 2 (bytes S) = 4) := by simp [Hid, errOf, hg]
    rw [hwx]; clear hwx
    go_wp2_with (first | ((with_reducible show wpList _ _ _ _ _ _); refine wpList_build_at rfl 40 _ rfl (val2 1 nx) (by kernel_rfl) ?_) | ((with_reducible show wpList _ _ _ _ _ _); refine wpList_store_two (P := Tryz.prog) rfl 40 (.tmp 57) (.tmp 56) rfl (w.heap.size + 1 + 1) 3 (.int .u8 1) (.int .u64 (nx : Int)) rfl rfl 64 (tok5 2 S k 0 0) hA6 (show 3 + 2 ≤ 5 by decide) i32 (one2 1 nx) ?_; intro w7 hA7' hb7 hs7; refine Hid.out ?_))
    refine Lib.hid ?_
    have hB7 : Below w.heap.size w w7 := hb7.below hB6 (by omega) (by have := hB6.size; omega)
    have hR47 : At 64 w7 w.heap.size (tok5 0 ⟨#[]⟩ 0 0 0) := hb7.at hR4 (by omega)
    have hR57 : At 29 w7 (w.heap.size + 1) (fa2 0 0) := hb7.at hR5 (by omega)
    have hA7 : At 64 w7 (w.heap.size + 1 + 1) (tok5 2 S k 1 nx) := hA7'
    clear hA7'
    go_wp2_with (first | ((with_reducible show wpList _ _ _ _ _ _); refine wpList_build_at rfl 64 #[] rfl (tok5 0 ⟨#[]⟩ 0 0 0) (by kernel_rfl) ?_) | ((with_reducible show wpList _ _ _ _ _ _); refine wpList_build_at rfl 29 _ rfl (fa2 4 k) (by kernel_rfl) ?_) | ((with_reducible show wpList _ _ _ _ _ _); refine wpList_store_at (P := Tryz.prog) rfl 64 (.tmp 4) (.tmp 72) rfl w.heap.size (tok5 0 ⟨#[]⟩ 0 0 0) rfl rfl 64 (tok5 0 ⟨#[]⟩ 0 0 0) hR47 i34 rfl (one5T _ _ _ _ _) ?_; intro w8 hA8 hb8 hs8) | ((with_reducible show wpList _ _ _ _ _ _); refine wpList_store_at (P := Tryz.prog) rfl 29 (.tmp 5) (.tmp 74) rfl (w.heap.size + 1) (fa2 4 k) rfl rfl 29 (fa2 0 0) (hb8.at hR57 (by omega)) i25 rfl (one2f _ _) ?_; intro w9 hA9 hb9 hs9))
    refine bodyPost_ret (results_at_at rfl _ _ w.heap.size (w.heap.size + 1) 64 29 (tok5 0 ⟨#[]⟩ 0 0 0) (fa2 4 k) _ _ rfl (hb9.at hA8 (by omega)) Tryz.underlying64 rfl i34 rfl hA9 Tryz.underlying29 rfl i25) rfl ?_
    exact ⟨(HPost.out _).2 (by rw [hfin.out]; rfl), hb9.below (hb8.below hB7 (Nat.le_refl _) hB7.size) (by omega) (by have := hB7.size; omega)⟩

end Go.Proofs.YtjgggmjjikopeaaGreatDoor

/- The document's own number, with a point. -/
namespace Go.Proofs.YtjgggmjjikopeaaGreatDoor
open Go.RowKit
set_option linter.unusedVariables false

set_option maxRecDepth 100000 in
set_option maxHeartbeats 4000000 in
theorem refNumber_3 (s : ByteArray) (k K n : Nat) (w : World) (hk : k < s.size) (hs : s.size ≤ 1099511627775) (hd : isDig s[k].toNat = true) (hl : isLet s[k].toNat = false) (hKn : endOf ((bytes s).drop k) = (K, n)) (hpt0 : isPt ((bytes s).drop (k + dgN ((bytes s).drop k))) = true) :
    Calls Tryz.prog 98 #[.string s, .int .i64 (k : Int)] w fun e w' => e = .returned (.tuple #[.agg (oneTok s k K n).toArray, .agg (oneFa s k K n).toArray]) ∧ Below w.heap.size w w' := by
  have hbd := endOf_bounds ((bytes s).drop k) (by rw [List.length_drop, bytes_length]; omega)
  rw [hKn, List.length_drop, bytes_length] at hbd
  obtain ⟨hn1, hn2, _⟩ := hbd
  simp only [] at hn1 hn2
  have hdig : K = 2 → allDg (((bytes s).drop k).take n) := fun h => by have := end_digits ((bytes s).drop k) (by rw [hKn]; exact h); rwa [hKn] at this
  have hbS : bytes (s.extract k (k + n)) = ((bytes s).drop k).take n := by rw [bytes_extract, Nat.add_sub_cancel_left]
  have hen := end_num s k hk hd hl
  rw [hKn] at hen
  have hrun := fun w => run_any s k false w (by omega) (by omega)
  have hru : ruN false ((bytes s).drop k) = dgN ((bytes s).drop k) := rfl
  rw [hru] at hrun
  have hmle := dgN_le ((bytes s).drop k)
  rw [List.length_drop, bytes_length] at hmle
  have hm1 := dgN_yes s k hk hd
  obtain ⟨m, hm⟩ : ∃ m, Hid (m = dgN ((bytes s).drop k)) := ⟨_, (rfl : dgN ((bytes s).drop k) = _)⟩
  rw [← hm.out] at hen hrun hmle hm1
  have hpt := hpt0
  clear hpt0
  rw [← hm.out] at hpt
  obtain ⟨S, hS⟩ : ∃ S, Hid (S = s.extract k (k + n)) := ⟨_, (rfl : s.extract k (k + n) = _)⟩
  have hSz : S.size = n := by rw [hS.out, ← bytes_length, hbS, List.length_take, List.length_drop, bytes_length]; omega
  obtain ⟨E, hE⟩ : ∃ E, E = k + n := ⟨_, rfl⟩
  have HPost : Hid (∀ e : Ending, e = .returned (.tuple #[.agg (oneTok s k K n).toArray, .agg (oneFa s k K n).toArray]) ↔ e = .returned (.tuple #[.agg (if errOf K (bytes S) = 0 ∧ clB K ((bytes s).drop E) = false then tok5 K S k (valT K) (valB K (bytes S)) else tok5 0 ⟨#[]⟩ 0 0 0).toArray, .agg (if errOf K (bytes S) ≠ 0 then fa2 (errOf K (bytes S)) k else if clB K ((bytes s).drop E) = true then fa2 4 E else fa2 0 0).toArray])) := by
    intro e; rw [oneTok, oneFa, hS.out, hbS, hE]
  have HDig : Hid (K = 2 → allDg (bytes S)) := by show K = 2 → _; rw [hS.out, hbS]; exact hdig
  have HRun : Hid (∀ w, Calls Tryz.prog 100 #[.string s, .int .i64 (k : Int), .bool false] w fun e w' => e = .returned (.int .i64 ((k + m : Nat) : Int)) ∧ w' = w) := hrun
  have hEle : E ≤ s.size := by omega
  have hkE : k ≤ E := by omega
  have hS2 : Hid (s.extract k E = S) := by show _ = _; rw [hS.out, hE]
  have hmp : 1 ≤ m := by omega
  clear hrun hdig hKn hru hm1
  rw [hpt] at hen
  simp only [if_true, Prod.mk.injEq] at hen
  obtain ⟨rfl, hn3⟩ := hen
  obtain ⟨hp1, hp2, hp3⟩ := pt_yes s (k + m) hpt
  have hrun2 := fun w => run_any s (k + m + 1) false w (by omega) (by omega)
  have hru2 : ruN false ((bytes s).drop (k + m + 1)) = dgN ((bytes s).drop (k + m + 1)) := rfl
  rw [hru2, show k + m + 1 + dgN ((bytes s).drop (k + m + 1)) = E by omega] at hrun2
  have HRun2 : Hid (∀ w, Calls Tryz.prog 100 #[.string s, .int .i64 ((k + m + 1 : Nat) : Int), .bool false] w fun e w' => e = .returned (.int .i64 (E : Int)) ∧ w' = w) := hrun2
  clear hrun2 hpt hn3 hE
  go_enter Tryz.func98, Tryz.ntmps98
  go_wp2_with (first | ((with_reducible show wpList _ _ _ _ _ _); refine wpList_alloc_at (o := { dst := some 4, .. }) rfl 64 rfl (tok5 0 ⟨#[]⟩ 0 0 0) 5 z34 ?_; intro w1 hA1 hb1 hs1) | ((with_reducible show wpList _ _ _ _ _ _); refine wpList_alloc_at rfl 29 rfl (fa2 0 0) 2 z25 ?_; intro w2 hA2 hb2 hs2; rw [hs1] at hA2))
  refine (HRun.out _).mono ?_
  rintro e wr ⟨rfl, hwr⟩
  rw [hwr]; clear hwr
  go_wp2_with (first | ((with_reducible show wpList _ _ _ _ _ _); refine wpList_build_at rfl 64 _ rfl (tok5 2 ⟨#[]⟩ k 0 0) (by kernel_rfl) ?_) | ((with_reducible show wpList _ _ _ _ _ _); refine wpList_alloc_at rfl 64 rfl (tok5 0 ⟨#[]⟩ 0 0 0) 5 z34 ?_; intro w3 hA3 hb3 hs3) | ((with_reducible show wpList _ _ _ _ _ _); refine wpList_store_at (P := Tryz.prog) rfl 64 (.tmp 7) (.tmp 17) rfl w2.heap.size (tok5 2 ⟨#[]⟩ k 0 0) rfl rfl 64 (tok5 0 ⟨#[]⟩ 0 0 0) hA3 i34 rfl (one5T _ _ _ _ _) ?_; intro w4 hA4 hb4 hs4; refine Hid.out ?_))
  refine Lib.hid ?_
  have hB4 : Below w.heap.size w w4 := hb4.below ((hb1.trans (hb2.mono (by omega))).trans (hb3.mono (by omega))) (by omega) (by omega)
  have hR44 : At 64 w4 w.heap.size (tok5 0 ⟨#[]⟩ 0 0 0) := hb4.at ((hA1.below hb2).below hb3) (by omega)
  have hR54 : At 29 w4 (w.heap.size + 1) (fa2 0 0) := hb4.at (hA2.below hb3) (by omega)
  rw [hs2, hs1] at hA4
  clear hA1 hb1 hA2 hb2 hA3 hb3 hb4
  go_wp2_with (first | ((with_reducible show wpList _ _ _ _ _ _); refine wpList_store_one (P := Tryz.prog) rfl 3 (.tmp 40) (.const (.int .i64 3)) rfl (w.heap.size + 1 + 1) 0 (.int .i64 3) rfl rfl 64 (tok5 2 ⟨#[]⟩ k 0 0) hA4 (show 0 + 1 ≤ 5 by decide) i3 rfl rfl ?_; intro w5 hA5' hb5 hs5; refine Hid.out ?_) | (go_at_call 97; refine (digit4_at _ _ true hp3).mono ?_; rintro e w2' ⟨rfl, rfl⟩) | (go_at_call 100; refine (HRun2.out _).mono ?_; rintro e w2' ⟨rfl, rfl⟩))
  refine Lib.hid ?_
  have hA5 : At 64 w5 (w.heap.size + 1 + 1) (tok5 3 ⟨#[]⟩ k 0 0) := hA5'
  have hB5 : Below w.heap.size w w5 := hb5.below hB4 (by omega) (by omega)
  have hR45 : At 64 w5 w.heap.size (tok5 0 ⟨#[]⟩ 0 0 0) := hb5.at hR44 (by omega)
  have hR55 : At 29 w5 (w.heap.size + 1) (fa2 0 0) := hb5.at hR54 (by omega)
  clear hA5' hb5 hR44 hR54 hA4
  go_wp2_with (first | ((with_reducible show wpList _ _ _ _ _ _); refine wpList_store_one (P := Tryz.prog) rfl 9 (.tmp 45) (.tmp 44) rfl (w.heap.size + 1 + 1) 1 (.string S) rfl (congrArg Value.string hS2.out) 64 (tok5 3 ⟨#[]⟩ k 0 0) hA5 (show 1 + 1 ≤ 5 by decide) i9 rfl rfl ?_; intro w6 hA6' hb6 hs6; refine Hid.out ?_))
  refine Lib.hid ?_
  have hA6 : At 64 w6 (w.heap.size + 1 + 1) (tok5 3 S k 0 0) := hA6'
  have hB6 : Below w.heap.size w w6 := hb6.below hB5 (by omega) (by omega)
  have hR4 : At 64 w6 w.heap.size (tok5 0 ⟨#[]⟩ 0 0 0) := hb6.at hR45 (by omega)
  have hR5 : At 29 w6 (w.heap.size + 1) (fa2 0 0) := hb6.at hR55 (by omega)
  clear hA6' hb6
  have hcell0 : w6.cell? ⟨w.heap.size + 1 + 1, 0, none⟩ = some (.int .i64 3) := by rw [hA6.cell]; rfl
  have hcell1 : w6.cell? ⟨w.heap.size + 1 + 1, 1, none⟩ = some (.string S) := by rw [hA6.cell]; rfl
  go_wp2_with fail
  refine (refParse_any S _ (by omega)).mono ?_
  rintro e wx ⟨⟨hg, rfl⟩ | ⟨hg, rfl⟩, hqx⟩
  · have hfin : Hid (errOf 3 (bytes S) = 0) := by simp [Hid, errOf, hg]
    have hA6x : At 64 wx (w.heap.size + 1 + 1) (tok5 3 S k 0 0) := by obtain ⟨q, hq⟩ := hqx; rw [hq]; exact hA6.drewN q
    have hR4x : At 64 wx w.heap.size (tok5 0 ⟨#[]⟩ 0 0 0) := by obtain ⟨q, hq⟩ := hqx; rw [hq]; exact hR4.drewN q
    have hR5x : At 29 wx (w.heap.size + 1) (fa2 0 0) := by obtain ⟨q, hq⟩ := hqx; rw [hq]; exact hR5.drewN q
    have hB6x : Below w.heap.size w wx := by obtain ⟨q, hq⟩ := hqx; rw [hq]; exact ⟨hB6.os, hB6.tape, hB6.output, hB6.size, hB6.block⟩
    clear hqx hcell0 hcell1
    have hval : Hid (valB 3 (bytes S) = quo (litNum (bytes S)) (10 ^ (behindOf (bytes S)).length)) := by simp [Hid, valB]
    obtain ⟨V, hV⟩ : ∃ V, Hid (V = quo (litNum (bytes S)) (10 ^ (behindOf (bytes S)).length)) := ⟨_, (rfl : quo (litNum (bytes S)) (10 ^ (behindOf (bytes S)).length) = _)⟩
    rw [← hV.out]
    go_wp2_with (first | ((with_reducible show wpList _ _ _ _ _ _); refine wpList_build_at rfl 40 _ rfl (val2 3 V) (by kernel_rfl) ?_) | ((with_reducible show wpList _ _ _ _ _ _); refine wpList_store_two (P := Tryz.prog) rfl 40 (.tmp 67) (.tmp 66) rfl (w.heap.size + 1 + 1) 3 (.int .u8 3) (.int .u64 (V : Int)) rfl rfl 64 (tok5 3 S k 0 0) hA6x (show 3 + 2 ≤ 5 by decide) i32 (one2 3 V) ?_; intro w7 hA7' hb7 hs7; refine Hid.out ?_))
    refine Lib.hid ?_
    have hB7 : Below w.heap.size w w7 := hb7.below hB6x (by omega) (by have := hB6x.size; omega)
    have hR47 : At 64 w7 w.heap.size (tok5 0 ⟨#[]⟩ 0 0 0) := hb7.at hR4x (by omega)
    have hR57 : At 29 w7 (w.heap.size + 1) (fa2 0 0) := hb7.at hR5x (by omega)
    have hA7 : At 64 w7 (w.heap.size + 1 + 1) (tok5 3 S k 3 V) := hA7'
    clear hA7'
    cases hcb : clB 3 ((bytes s).drop E)
    · have hcs := cl_no s E 3 (by decide) hcb
      have HCB : Hid (clB 3 ((bytes s).drop E) = false) := hcb
      clear hcb
      rcases hcs with hc1 | ⟨hc1, hc2, hc3⟩
      · go_wp2_with (first | ((with_reducible show wpList _ _ _ _ _ _); refine wpList_load_at (P := Tryz.prog) rfl 64 (.tmp 7) rfl (w.heap.size + 1 + 1) rfl 64 (tok5 3 S k 3 V) hA7 _ Tryz.underlying64 rfl i34 ?_) | ((with_reducible show wpList _ _ _ _ _ _); refine wpList_build_at rfl 29 _ rfl (fa2 0 0) (by kernel_rfl) ?_) | ((with_reducible show wpList _ _ _ _ _ _); refine wpList_store_at (P := Tryz.prog) rfl 64 (.tmp 4) (.tmp 94) rfl w.heap.size (tok5 3 S k 3 V) rfl rfl 64 (tok5 0 ⟨#[]⟩ 0 0 0) hR47 i34 rfl (one5T _ _ _ _ _) ?_; intro w8 hA8 hb8 hs8) | ((with_reducible show wpList _ _ _ _ _ _); refine wpList_store_at (P := Tryz.prog) rfl 29 (.tmp 5) (.tmp 95) rfl (w.heap.size + 1) (fa2 0 0) rfl rfl 29 (fa2 0 0) (hb8.at hR57 (by omega)) i25 rfl (one2f _ _) ?_; intro w9 hA9 hb9 hs9))
        refine bodyPost_ret (results_at_at rfl _ _ w.heap.size (w.heap.size + 1) 64 29 (tok5 3 S k 3 V) (fa2 0 0) _ _ rfl (hb9.at hA8 (by omega)) Tryz.underlying64 rfl i34 rfl hA9 Tryz.underlying29 rfl i25) rfl ?_
        exact ⟨(HPost.out _).2 (by rw [hfin.out, HCB.out, hval.out, ← hV.out]; rfl), hb9.below (hb8.below hB7 (Nat.le_refl _) hB7.size) (by omega) (by have := hB7.size; omega)⟩
      · go_wp2_with (first | ((with_reducible show wpList _ _ _ _ _ _); refine wpList_load_at (P := Tryz.prog) rfl 64 (.tmp 7) rfl (w.heap.size + 1 + 1) rfl 64 (tok5 3 S k 3 V) hA7 _ Tryz.underlying64 rfl i34 ?_) | ((with_reducible show wpList _ _ _ _ _ _); refine wpList_build_at rfl 29 _ rfl (fa2 0 0) (by kernel_rfl) ?_) | ((with_reducible show wpList _ _ _ _ _ _); refine wpList_store_at (P := Tryz.prog) rfl 64 (.tmp 4) (.tmp 94) rfl w.heap.size (tok5 3 S k 3 V) rfl rfl 64 (tok5 0 ⟨#[]⟩ 0 0 0) hR47 i34 rfl (one5T _ _ _ _ _) ?_; intro w8 hA8 hb8 hs8) | ((with_reducible show wpList _ _ _ _ _ _); refine wpList_store_at (P := Tryz.prog) rfl 29 (.tmp 5) (.tmp 95) rfl (w.heap.size + 1) (fa2 0 0) rfl rfl 29 (fa2 0 0) (hb8.at hR57 (by omega)) i25 rfl (one2f _ _) ?_; intro w9 hA9 hb9 hs9) | (go_at_call 99; refine (letterL_at _ _ false hc2).mono ?_; rintro e w2' ⟨rfl, rfl⟩))
        refine bodyPost_ret (results_at_at rfl _ _ w.heap.size (w.heap.size + 1) 64 29 (tok5 3 S k 3 V) (fa2 0 0) _ _ rfl (hb9.at hA8 (by omega)) Tryz.underlying64 rfl i34 rfl hA9 Tryz.underlying29 rfl i25) rfl ?_
        exact ⟨(HPost.out _).2 (by rw [hfin.out, HCB.out, hval.out, ← hV.out]; rfl), hb9.below (hb8.below hB7 (Nat.le_refl _) hB7.size) (by omega) (by have := hB7.size; omega)⟩
    · have hcs := cl_yes s E 3 hcb
      have HCB : Hid (clB 3 ((bytes s).drop E) = true) := hcb
      clear hcb
      obtain ⟨hc1, hcs⟩ := hcs
      rcases hcs with hc2 | ⟨hc2, hc3⟩
      · go_wp2_with (first | ((with_reducible show wpList _ _ _ _ _ _); refine wpList_build_at rfl 64 #[] rfl (tok5 0 ⟨#[]⟩ 0 0 0) (by kernel_rfl) ?_) | ((with_reducible show wpList _ _ _ _ _ _); refine wpList_build_at rfl 29 _ rfl (fa2 4 E) (by kernel_rfl) ?_) | ((with_reducible show wpList _ _ _ _ _ _); refine wpList_store_at (P := Tryz.prog) rfl 64 (.tmp 4) (.tmp 91) rfl w.heap.size (tok5 0 ⟨#[]⟩ 0 0 0) rfl rfl 64 (tok5 0 ⟨#[]⟩ 0 0 0) hR47 i34 rfl (one5T _ _ _ _ _) ?_; intro w8 hA8 hb8 hs8) | ((with_reducible show wpList _ _ _ _ _ _); refine wpList_store_at (P := Tryz.prog) rfl 29 (.tmp 5) (.tmp 93) rfl (w.heap.size + 1) (fa2 4 E) rfl rfl 29 (fa2 0 0) (hb8.at hR57 (by omega)) i25 rfl (one2f _ _) ?_; intro w9 hA9 hb9 hs9) | (go_at_call 99; refine (letterL_at _ _ true hc2).mono ?_; rintro e w2' ⟨rfl, rfl⟩))
        refine bodyPost_ret (results_at_at rfl _ _ w.heap.size (w.heap.size + 1) 64 29 (tok5 0 ⟨#[]⟩ 0 0 0) (fa2 4 E) _ _ rfl (hb9.at hA8 (by omega)) Tryz.underlying64 rfl i34 rfl hA9 Tryz.underlying29 rfl i25) rfl ?_
        exact ⟨(HPost.out _).2 (by rw [hfin.out, HCB.out]; rfl), hb9.below (hb8.below hB7 (Nat.le_refl _) hB7.size) (by omega) (by have := hB7.size; omega)⟩
      · go_wp2_with (first | ((with_reducible show wpList _ _ _ _ _ _); refine wpList_build_at rfl 64 #[] rfl (tok5 0 ⟨#[]⟩ 0 0 0) (by kernel_rfl) ?_) | ((with_reducible show wpList _ _ _ _ _ _); refine wpList_build_at rfl 29 _ rfl (fa2 4 E) (by kernel_rfl) ?_) | ((with_reducible show wpList _ _ _ _ _ _); refine wpList_store_at (P := Tryz.prog) rfl 64 (.tmp 4) (.tmp 91) rfl w.heap.size (tok5 0 ⟨#[]⟩ 0 0 0) rfl rfl 64 (tok5 0 ⟨#[]⟩ 0 0 0) hR47 i34 rfl (one5T _ _ _ _ _) ?_; intro w8 hA8 hb8 hs8) | ((with_reducible show wpList _ _ _ _ _ _); refine wpList_store_at (P := Tryz.prog) rfl 29 (.tmp 5) (.tmp 93) rfl (w.heap.size + 1) (fa2 4 E) rfl rfl 29 (fa2 0 0) (hb8.at hR57 (by omega)) i25 rfl (one2f _ _) ?_; intro w9 hA9 hb9 hs9) | (go_at_call 99; refine (letter_46 _).mono ?_; rintro e w2' ⟨rfl, rfl⟩))
        refine bodyPost_ret (results_at_at rfl _ _ w.heap.size (w.heap.size + 1) 64 29 (tok5 0 ⟨#[]⟩ 0 0 0) (fa2 4 E) _ _ rfl (hb9.at hA8 (by omega)) Tryz.underlying64 rfl i34 rfl hA9 Tryz.underlying29 rfl i25) rfl ?_
        exact ⟨(HPost.out _).2 (by rw [hfin.out, HCB.out]; rfl), hb9.below (hb8.below hB7 (Nat.le_refl _) hB7.size) (by omega) (by have := hB7.size; omega)⟩
  · have hfin : Hid (errOf 3 (bytes S) = 4) := by simp [Hid, errOf, hg]
    have hA6x : At 64 wx (w.heap.size + 1 + 1) (tok5 3 S k 0 0) := by obtain ⟨q, hq⟩ := hqx; rw [hq]; exact hA6.drewN q
    have hR4x : At 64 wx w.heap.size (tok5 0 ⟨#[]⟩ 0 0 0) := by obtain ⟨q, hq⟩ := hqx; rw [hq]; exact hR4.drewN q
    have hR5x : At 29 wx (w.heap.size + 1) (fa2 0 0) := by obtain ⟨q, hq⟩ := hqx; rw [hq]; exact hR5.drewN q
    have hB6x : Below w.heap.size w wx := by obtain ⟨q, hq⟩ := hqx; rw [hq]; exact ⟨hB6.os, hB6.tape, hB6.output, hB6.size, hB6.block⟩
    clear hqx hcell0 hcell1
    go_wp2_with (first | ((with_reducible show wpList _ _ _ _ _ _); refine wpList_build_at rfl 40 _ rfl (val2 3 0) (by kernel_rfl) ?_) | ((with_reducible show wpList _ _ _ _ _ _); refine wpList_store_two (P := Tryz.prog) rfl 40 (.tmp 67) (.tmp 66) rfl (w.heap.size + 1 + 1) 3 (.int .u8 3) (.int .u64 0) rfl rfl 64 (tok5 3 S k 0 0) hA6x (show 3 + 2 ≤ 5 by decide) i32 (one2 3 0) ?_; intro w7 hA7' hb7 hs7; refine Hid.out ?_))
    refine Lib.hid ?_
    have hB7 : Below w.heap.size w w7 := hb7.below hB6x (by omega) (by have := hB6x.size; omega)
    have hR47 : At 64 w7 w.heap.size (tok5 0 ⟨#[]⟩ 0 0 0) := hb7.at hR4x (by omega)
    have hR57 : At 29 w7 (w.heap.size + 1) (fa2 0 0) := hb7.at hR5x (by omega)
    have hA7 : At 64 w7 (w.heap.size + 1 + 1) (tok5 3 S k 3 0) := hA7'
    clear hA7'
    go_wp2_with (first | ((with_reducible show wpList _ _ _ _ _ _); refine wpList_build_at rfl 64 #[] rfl (tok5 0 ⟨#[]⟩ 0 0 0) (by kernel_rfl) ?_) | ((with_reducible show wpList _ _ _ _ _ _); refine wpList_build_at rfl 29 _ rfl (fa2 4 k) (by kernel_rfl) ?_) | ((with_reducible show wpList _ _ _ _ _ _); refine wpList_store_at (P := Tryz.prog) rfl 64 (.tmp 4) (.tmp 72) rfl w.heap.size (tok5 0 ⟨#[]⟩ 0 0 0) rfl rfl 64 (tok5 0 ⟨#[]⟩ 0 0 0) hR47 i34 rfl (one5T _ _ _ _ _) ?_; intro w8 hA8 hb8 hs8) | ((with_reducible show wpList _ _ _ _ _ _); refine wpList_store_at (P := Tryz.prog) rfl 29 (.tmp 5) (.tmp 74) rfl (w.heap.size + 1) (fa2 4 k) rfl rfl 29 (fa2 0 0) (hb8.at hR57 (by omega)) i25 rfl (one2f _ _) ?_; intro w9 hA9 hb9 hs9))
    refine bodyPost_ret (results_at_at rfl _ _ w.heap.size (w.heap.size + 1) 64 29 (tok5 0 ⟨#[]⟩ 0 0 0) (fa2 4 k) _ _ rfl (hb9.at hA8 (by omega)) Tryz.underlying64 rfl i34 rfl hA9 Tryz.underlying29 rfl i25) rfl ?_
    exact ⟨(HPost.out _).2 (by rw [hfin.out]; rfl), hb9.below (hb8.below hB7 (Nat.le_refl _) hB7.size) (by omega) (by have := hB7.size; omega)⟩

end Go.Proofs.YtjgggmjjikopeaaGreatDoor

/- The document's own one: the token at a place. -/
namespace Go.Proofs.YtjgggmjjikopeaaGreatDoor
open Go.RowKit
set_option linter.unusedVariables false

/-- The document's own number. -/
theorem refNumber_any (s : ByteArray) (k K n : Nat) (w : World) (hk : k < s.size) (hs : s.size ≤ 1099511627775) (hd : isDig s[k].toNat = true) (hl : isLet s[k].toNat = false) (hKn : endOf ((bytes s).drop k) = (K, n)) :
    Calls Tryz.prog 98 #[.string s, .int .i64 (k : Int)] w fun e w' => e = .returned (.tuple #[.agg (oneTok s k K n).toArray, .agg (oneFa s k K n).toArray]) ∧ Below w.heap.size w w' := by
  cases hpt : isPt ((bytes s).drop (k + dgN ((bytes s).drop k)))
  · rcases pt_no s _ hpt with h1 | ⟨h1, h2 | ⟨h2, h3⟩⟩
    · exact refNumber_2a s k K n w hk hs hd hl hKn hpt h1
    · exact refNumber_2b s k K n w hk hs hd hl hKn hpt h1 (by rw [bytes_at s _ (by omega)]; exact h2)
    · exact refNumber_2c s k K n w hk hs hd hl hKn hpt h1 (by rw [bytes_at s _ (by omega)]; exact h2) (by rw [bytes_at s _ h1]; exact h3)
  · exact refNumber_3 s k K n w hk hs hd hl hKn hpt

/-- 'out = append(out, t)', and no other block is changed. -/
theorem wpList_appT2 {ops : Array Oper} {rest : List Oper} {o : Oper} {a : Act} {w : World} {Q : Exit → Act → World → Prop} (hgd : o.guard = none) (s x : Operand) (ho : o.op = .call { callee := .builtin .append, args := #[s, x], argTypes := #[60, 60] })
    (base g : Nat) (v : Value) (ts : List Tk) (tk : Tk) (hs : a.eval s = v) (hx : a.eval x = .slice (some ⟨g, 0, none⟩) 1 1) (hown : Toks base w v ts) (hA : At 64 w g tk.cells)
    (hlen : ts.length ≤ 1048576) (hbase : base ≤ w.heap.size)
    (h : ∀ v' w', Toks base w' v' (ts ++ [tk]) → Below base w w' → w.grownBy w' v.ownBlock → wpList Tryz.prog ops Q rest (a.put o.dst v') w') :
    wpList Tryz.prog ops Q (o :: rest) a w := by
  obtain ⟨ie, hi, hz0, hz1, hz2⟩ := info_parts Try.i34'
  refine wpList_append_own_at w hgd s x 60 ho base 64 ie (.agg (tok5 0 ⟨#[]⟩ 0 0 0).toArray) 5 48 Tryz.underlying60 hi hz0 hz1 hz2 rfl (by decide) v ts.length (flat ts) hs hown
    ⟨g, 0, none⟩ 1 1 tk.cells hx rfl ?_ ?_ ?_ ?_ hbase ?_
  · intro j u hj
    rw [Addr.add_mid, hA.cell, Nat.zero_add]; exact hj
  · intro u hu
    simp [Tk.cells] at hu
    rcases hu with rfl | rfl | rfl | rfl | rfl <;> rfl
  · unfold maxLen; omega
  · omega
  · intro v' w' h1 h2 _ _
    refine h v' w' ?_ ?_ h2
    · have e : flat (ts ++ [tk]) = flat ts ++ tk.cells := by rw [flat_append]; simp [flat]
      unfold Toks
      rw [e, List.length_append]
      exact h1
    · exact (Below.refl base w).grown h2 hbase hown.block

theorem Toks.blockLt {base : Nat} {w : World} {v : Value} {ts : List Tk} (h : Toks base w v ts) : ∀ k, v.ownBlock = some k → k < w.heap.size := by
  intro k hk
  obtain ⟨_, ⟨rfl, _⟩ | ⟨g, cap, cur, rfl, hg, hh, _⟩⟩ := h
  · simp [Value.ownBlock] at hk
  · simp [Value.ownBlock] at hk
    subst hk
    rcases Nat.lt_or_ge g w.heap.size with hlt | hge
    · exact hlt
    · rw [Array.getElem?_eq_none hge] at hh; simp at hh

theorem oneTok_cases (s : ByteArray) (k K n : Nat) : (∃ (K' : Nat) (S : ByteArray) (p t b : Nat), oneTok s k K n = tok5 K' S p t b) := by
  unfold oneTok; split <;> exact ⟨_, _, _, _, _, rfl⟩
theorem oneFa_cases (s : ByteArray) (k K n : Nat) : ∃ e p, oneFa s k K n = fa2 e p := by
  unfold oneFa; split
  · exact ⟨_, _, rfl⟩
  · split <;> exact ⟨_, _, rfl⟩

set_option maxRecDepth 100000 in
set_option maxHeartbeats 1600000 in
theorem one_any (s : ByteArray) (k K n : Nat) (w : World) (hk : k < s.size) (hs : s.size ≤ 1099511627775) (hKn : endOf ((bytes s).drop k) = (K, n)) :
    Calls Tryz.prog 62 #[.string s, .int .i64 (k : Int)] w fun e w' => e = .returned (.tuple #[.agg (oneTok s k K n).toArray, .agg (oneFa s k K n).toArray]) ∧ Below w.heap.size w w' := by
  have hdr := drop_at s k hk
  cases hl : isLet s[k].toNat
  · cases hd : isDig s[k].toNat
    · have he : endOf ((bytes s).drop k) = (4, sgN s[k] ((bytes s).drop (k + 1)) + 1) := by rw [hdr]; simp only [endOf, hl, hd]; rfl
      rw [hKn] at he
      obtain ⟨rfl, hn⟩ : K = 4 ∧ n = sgN s[k] ((bytes s).drop (k + 1)) + 1 := by simpa using he
      have hsg := sgFrom_zero s[k] ((bytes s).drop (k + 1))
      rw [← hdr, ← hn] at hsg
      have hbS : bytes (s.extract k (k + n)) = ((bytes s).drop k).take n := by rw [bytes_extract, Nat.add_sub_cancel_left]
      obtain ⟨X, hX⟩ : ∃ X, Hid (X = sgFrom 0 ((bytes s).drop k)) := ⟨_, (rfl : sgFrom 0 ((bytes s).drop k) = _)⟩
      have hcall := fun w => refSignA_any s k w hk (by omega)
      rw [← hX.out] at hcall hsg
      have HC : Hid (∀ w, Calls Tryz.prog 101 #[.string s, .int .i64 (k : Int)] w fun e w' => e = .returned (.string ⟨X.toArray⟩) ∧ Below w.heap.size w w') := hcall
      clear hcall hKn he
      cases hgood : isSg (((bytes s).drop k).take n)
      · rw [hgood] at hsg
        simp only [Bool.false_eq_true, if_false] at hsg
        have hT : Hid (oneTok s k 4 n = tok5 0 ⟨#[]⟩ 0 0 0) := by simp [Hid, oneTok, errOf, hgood]
        have hF : Hid (oneFa s k 4 n = fa2 4 k) := by simp [Hid, oneFa, errOf, hgood]
        rw [hT.out, hF.out]
        clear hdr hbS hgood
        subst hsg
        go_enter Tryz.func62, Tryz.ntmps62
        go_wp2_with (first | ((with_reducible show wpList _ _ _ _ _ _); refine wpList_alloc_at (o := { dst := some 4, .. }) rfl 64 rfl (tok5 0 ⟨#[]⟩ 0 0 0) 5 z34 ?_; intro w1 hA1 hb1 hs1) | ((with_reducible show wpList _ _ _ _ _ _); refine wpList_alloc_at rfl 29 rfl (fa2 0 0) 2 z25 ?_; intro w2 hA2 hb2 hs2; rw [hs1] at hA2) | (go_at_call 97; refine (digit4_at _ _ false hd).mono ?_; rintro e w2' ⟨rfl, rfl⟩) | (go_at_call 99; refine (letterL_at _ _ false hl).mono ?_; rintro e w2' ⟨rfl, rfl⟩))
        refine (HC.out _).mono ?_
        rintro e w3 ⟨rfl, hb3⟩
        have hR4 : At 64 w3 w.heap.size (tok5 0 ⟨#[]⟩ 0 0 0) := (hA1.below hb2).below hb3
        have hR5 : At 29 w3 (w.heap.size + 1) (fa2 0 0) := hA2.below hb3
        have hB3 : Below w.heap.size w w3 := (hb1.trans (hb2.mono (by omega))).trans (hb3.mono (by omega))
        clear hA1 hb1 hA2 hb2 hb3
        go_wp2_with (first | ((with_reducible show wpList _ _ _ _ _ _); refine wpList_build_at rfl 64 #[] rfl (tok5 0 ⟨#[]⟩ 0 0 0) (by kernel_rfl) ?_) | ((with_reducible show wpList _ _ _ _ _ _); refine wpList_build_at rfl 29 _ rfl (fa2 4 k) (by kernel_rfl) ?_) | ((with_reducible show wpList _ _ _ _ _ _); refine wpList_store_at (P := Tryz.prog) rfl 64 (.tmp 4) (.tmp 43) rfl w.heap.size (tok5 0 ⟨#[]⟩ 0 0 0) rfl rfl 64 (tok5 0 ⟨#[]⟩ 0 0 0) hR4 i34 rfl (one5T _ _ _ _ _) ?_; intro w8 hA8 hb8 hs8) | ((with_reducible show wpList _ _ _ _ _ _); refine wpList_store_at (P := Tryz.prog) rfl 29 (.tmp 5) (.tmp 45) rfl (w.heap.size + 1) (fa2 4 k) rfl rfl 29 (fa2 0 0) (hb8.at hR5 (by omega)) i25 rfl (one2f _ _) ?_; intro w9 hA9 hb9 hs9))
        refine bodyPost_ret (results_at_at rfl _ _ w.heap.size (w.heap.size + 1) 64 29 (tok5 0 ⟨#[]⟩ 0 0 0) (fa2 4 k) _ _ rfl (hb9.at hA8 (by omega)) Tryz.underlying64 rfl i34 rfl hA9 Tryz.underlying29 rfl i25) rfl ?_
        exact ⟨rfl, hb9.below (hb8.below hB3 (Nat.le_refl _) hB3.size) (by omega) (by have := hB3.size; omega)⟩
      · rw [hgood] at hsg
        simp only [if_true] at hsg
        obtain ⟨S, hS⟩ : ∃ S : ByteArray, Hid (S = ⟨X.toArray⟩) := ⟨_, (rfl : (⟨X.toArray⟩ : ByteArray) = _)⟩
        have hSx : s.extract k (k + n) = S := by rw [mk_bytes (s.extract k (k + n)), hbS, hS.out, hsg]
        have hT : Hid (oneTok s k 4 n = tok5 4 S k 0 0) := by simp [Hid, oneTok, errOf, hgood, clB, hSx, valT, valB]
        have hF : Hid (oneFa s k 4 n = fa2 0 0) := by simp [Hid, oneFa, errOf, hgood, clB]
        rw [hT.out, hF.out]
        have hne : S.toList.isEmpty = false := by
          refine not_empty ?_
          rw [← hSx, ← bytes_length, hbS, List.length_take, List.length_drop, bytes_length]
          omega
        have HC2 : Hid (∀ w, Calls Tryz.prog 101 #[.string s, .int .i64 (k : Int)] w fun e w' => e = .returned (.string S) ∧ Below w.heap.size w w') := by
          intro w; rw [hS.out]; exact HC.out w
        clear hdr hbS hgood HC hsg hSx
        go_enter Tryz.func62, Tryz.ntmps62
        go_wp2_with (first | ((with_reducible show wpList _ _ _ _ _ _); refine wpList_alloc_at (o := { dst := some 4, .. }) rfl 64 rfl (tok5 0 ⟨#[]⟩ 0 0 0) 5 z34 ?_; intro w1 hA1 hb1 hs1) | ((with_reducible show wpList _ _ _ _ _ _); refine wpList_alloc_at rfl 29 rfl (fa2 0 0) 2 z25 ?_; intro w2 hA2 hb2 hs2; rw [hs1] at hA2) | (go_at_call 97; refine (digit4_at _ _ false hd).mono ?_; rintro e w2' ⟨rfl, rfl⟩) | (go_at_call 99; refine (letterL_at _ _ false hl).mono ?_; rintro e w2' ⟨rfl, rfl⟩))
        refine (HC2.out _).mono ?_
        rintro e w3 ⟨rfl, hb3⟩
        have hR4 : At 64 w3 w.heap.size (tok5 0 ⟨#[]⟩ 0 0 0) := (hA1.below hb2).below hb3
        have hR5 : At 29 w3 (w.heap.size + 1) (fa2 0 0) := hA2.below hb3
        have hB3 : Below w.heap.size w w3 := (hb1.trans (hb2.mono (by omega))).trans (hb3.mono (by omega))
        clear hA1 hb1 hA2 hb2 hb3
        go_wp2_with (first | ((with_reducible show wpList _ _ _ _ _ _); refine wpList_build_at rfl 64 _ rfl (tok5 4 S k 0 0) (by kernel_rfl) ?_) | ((with_reducible show wpList _ _ _ _ _ _); refine wpList_build_at rfl 29 _ rfl (fa2 0 0) (by kernel_rfl) ?_) | ((with_reducible show wpList _ _ _ _ _ _); refine wpList_store_at (P := Tryz.prog) rfl 64 (.tmp 4) (.tmp 48) rfl w.heap.size (tok5 4 S k 0 0) rfl rfl 64 (tok5 0 ⟨#[]⟩ 0 0 0) hR4 i34 rfl (one5T _ _ _ _ _) ?_; intro w8 hA8 hb8 hs8) | ((with_reducible show wpList _ _ _ _ _ _); refine wpList_store_at (P := Tryz.prog) rfl 29 (.tmp 5) (.tmp 49) rfl (w.heap.size + 1) (fa2 0 0) rfl rfl 29 (fa2 0 0) (hb8.at hR5 (by omega)) i25 rfl (one2f _ _) ?_; intro w9 hA9 hb9 hs9))
        refine bodyPost_ret (results_at_at rfl _ _ w.heap.size (w.heap.size + 1) 64 29 (tok5 4 S k 0 0) (fa2 0 0) _ _ rfl (hb9.at hA8 (by omega)) Tryz.underlying64 rfl i34 rfl hA9 Tryz.underlying29 rfl i25) rfl ?_
        exact ⟨rfl, hb9.below (hb8.below hB3 (Nat.le_refl _) hB3.size) (by omega) (by have := hB3.size; omega)⟩
    · have hcall := fun w => refNumber_any s k K n w hk hs hd hl hKn
      obtain ⟨K', S, p, t, b, hT⟩ := oneTok_cases s k K n
      obtain ⟨fe, fp, hF⟩ := oneFa_cases s k K n
      rw [hT, hF] at hcall ⊢
      have HC : Hid (∀ w, Calls Tryz.prog 98 #[.string s, .int .i64 (k : Int)] w fun e w' => e = .returned (.tuple #[.agg (tok5 K' S p t b).toArray, .agg (fa2 fe fp).toArray]) ∧ Below w.heap.size w w') := hcall
      clear hcall hT hF hKn hdr
      go_enter Tryz.func62, Tryz.ntmps62
      go_wp2_with (first | ((with_reducible show wpList _ _ _ _ _ _); refine wpList_alloc_at (o := { dst := some 4, .. }) rfl 64 rfl (tok5 0 ⟨#[]⟩ 0 0 0) 5 z34 ?_; intro w1 hA1 hb1 hs1) | ((with_reducible show wpList _ _ _ _ _ _); refine wpList_alloc_at rfl 29 rfl (fa2 0 0) 2 z25 ?_; intro w2 hA2 hb2 hs2; rw [hs1] at hA2) | (go_at_call 97; refine (digit4_at _ _ true hd).mono ?_; rintro e w2' ⟨rfl, rfl⟩))
      refine (HC.out _).mono ?_
      rintro e w3 ⟨rfl, hb3⟩
      have hR4 : At 64 w3 w.heap.size (tok5 0 ⟨#[]⟩ 0 0 0) := (hA1.below hb2).below hb3
      have hR5 : At 29 w3 (w.heap.size + 1) (fa2 0 0) := hA2.below hb3
      have hB3 : Below w.heap.size w w3 := (hb1.trans (hb2.mono (by omega))).trans (hb3.mono (by omega))
      clear hA1 hb1 hA2 hb2 hb3
      go_wp2_with (first | ((with_reducible show wpList _ _ _ _ _ _); refine wpList_store_at (P := Tryz.prog) rfl 64 (.tmp 4) (.tmp 15) rfl w.heap.size (tok5 K' S p t b) rfl rfl 64 (tok5 0 ⟨#[]⟩ 0 0 0) hR4 i34 rfl (one5T _ _ _ _ _) ?_; intro w8 hA8 hb8 hs8) | ((with_reducible show wpList _ _ _ _ _ _); refine wpList_store_at (P := Tryz.prog) rfl 29 (.tmp 5) (.tmp 16) rfl (w.heap.size + 1) (fa2 fe fp) rfl rfl 29 (fa2 0 0) (hb8.at hR5 (by omega)) i25 rfl (one2f _ _) ?_; intro w9 hA9 hb9 hs9))
      refine bodyPost_ret (results_at_at rfl _ _ w.heap.size (w.heap.size + 1) 64 29 (tok5 K' S p t b) (fa2 fe fp) _ _ rfl (hb9.at hA8 (by omega)) Tryz.underlying64 rfl i34 rfl hA9 Tryz.underlying29 rfl i25) rfl ?_
      exact ⟨rfl, hb9.below (hb8.below hB3 (Nat.le_refl _) hB3.size) (by omega) (by have := hB3.size; omega)⟩
  · have hd : isDig s[k].toNat = false := by
      cases h : isDig s[k].toNat
      · rfl
      · simp only [isLet, isDig, Bool.or_eq_true, Bool.and_eq_true, decide_eq_true_eq] at hl h; omega
    have he : endOf ((bytes s).drop k) = (1, alN ((bytes s).drop (k + 1)) + 1) := by rw [hdr]; simp only [endOf, hl, if_true]
    rw [hKn] at he
    obtain ⟨rfl, hn⟩ : K = 1 ∧ n = alN ((bytes s).drop (k + 1)) + 1 := by simpa using he
    have hrun := fun w => run_any s k true w (by omega) (by omega)
    have hru : ruN true ((bytes s).drop k) = n := by
      have := alN_yes s k hk (by rw [hl]; rfl)
      rw [hn]; exact this
    rw [hru] at hrun
    have hle : n ≤ s.size - k := by
      have := alN_le' ((bytes s).drop k)
      rw [List.length_drop, bytes_length] at this
      have h2 : alN ((bytes s).drop k) = n := hru
      omega
    have HC : Hid (∀ w, Calls Tryz.prog 100 #[.string s, .int .i64 (k : Int), .bool true] w fun e w' => e = .returned (.int .i64 ((k + n : Nat) : Int)) ∧ w' = w) := hrun
    have hbl : (((bytes s).drop k).take n).length = n := by rw [List.length_take, List.length_drop, bytes_length]; omega
    clear hrun hru hKn he hdr
    by_cases h24 : 24 < n
    · have hT : Hid (oneTok s k 1 n = tok5 0 ⟨#[]⟩ 0 0 0) := by simp [Hid, oneTok, errOf, hbl, h24]
      have hF : Hid (oneFa s k 1 n = fa2 5 k) := by simp [Hid, oneFa, errOf, hbl, h24]
      rw [hT.out, hF.out]
      clear hbl hn
      go_enter Tryz.func62, Tryz.ntmps62
      go_wp2_with (first | ((with_reducible show wpList _ _ _ _ _ _); refine wpList_alloc_at (o := { dst := some 4, .. }) rfl 64 rfl (tok5 0 ⟨#[]⟩ 0 0 0) 5 z34 ?_; intro w1 hA1 hb1 hs1) | ((with_reducible show wpList _ _ _ _ _ _); refine wpList_alloc_at rfl 29 rfl (fa2 0 0) 2 z25 ?_; intro w2 hA2 hb2 hs2; rw [hs1] at hA2) | (go_at_call 97; refine (digit4_at _ _ false hd).mono ?_; rintro e w2' ⟨rfl, rfl⟩) | (go_at_call 99; refine (letterL_at _ _ true hl).mono ?_; rintro e w2' ⟨rfl, rfl⟩))
      refine (HC.out _).mono ?_
      rintro e w3 ⟨rfl, hw3⟩
      rw [hw3]; clear hw3
      have hR4 : At 64 w2' w.heap.size (tok5 0 ⟨#[]⟩ 0 0 0) := hA1.below hb2
      have hR5 : At 29 w2' (w.heap.size + 1) (fa2 0 0) := hA2
      have hB3 : Below w.heap.size w w2' := hb1.trans (hb2.mono (by omega))
      clear hA1 hb1 hA2 hb2
      go_wp2_with (first | ((with_reducible show wpList _ _ _ _ _ _); refine wpList_build_at rfl 64 #[] rfl (tok5 0 ⟨#[]⟩ 0 0 0) (by kernel_rfl) ?_) | ((with_reducible show wpList _ _ _ _ _ _); refine wpList_build_at rfl 29 _ rfl (fa2 5 k) (by kernel_rfl) ?_) | ((with_reducible show wpList _ _ _ _ _ _); refine wpList_store_at (P := Tryz.prog) rfl 64 (.tmp 4) (.tmp 28) rfl w.heap.size (tok5 0 ⟨#[]⟩ 0 0 0) rfl rfl 64 (tok5 0 ⟨#[]⟩ 0 0 0) hR4 i34 rfl (one5T _ _ _ _ _) ?_; intro w8 hA8 hb8 hs8) | ((with_reducible show wpList _ _ _ _ _ _); refine wpList_store_at (P := Tryz.prog) rfl 29 (.tmp 5) (.tmp 30) rfl (w.heap.size + 1) (fa2 5 k) rfl rfl 29 (fa2 0 0) (hb8.at hR5 (by omega)) i25 rfl (one2f _ _) ?_; intro w9 hA9 hb9 hs9))
      refine bodyPost_ret (results_at_at rfl _ _ w.heap.size (w.heap.size + 1) 64 29 (tok5 0 ⟨#[]⟩ 0 0 0) (fa2 5 k) _ _ rfl (hb9.at hA8 (by omega)) Tryz.underlying64 rfl i34 rfl hA9 Tryz.underlying29 rfl i25) rfl ?_
      exact ⟨rfl, hb9.below (hb8.below hB3 (Nat.le_refl _) hB3.size) (by omega) (by have := hB3.size; omega)⟩
    · obtain ⟨S, hS⟩ : ∃ S, Hid (S = s.extract k (k + n)) := ⟨_, (rfl : s.extract k (k + n) = _)⟩
      have hT : Hid (oneTok s k 1 n = tok5 1 S k 0 0) := by simp [Hid, oneTok, errOf, hbl, h24, clB, hS.out, valT, valB]
      have hF : Hid (oneFa s k 1 n = fa2 0 0) := by simp [Hid, oneFa, errOf, hbl, h24, clB]
      rw [hT.out, hF.out, hS.out]
      clear hbl hn
      go_enter Tryz.func62, Tryz.ntmps62
      go_wp2_with (first | ((with_reducible show wpList _ _ _ _ _ _); refine wpList_alloc_at (o := { dst := some 4, .. }) rfl 64 rfl (tok5 0 ⟨#[]⟩ 0 0 0) 5 z34 ?_; intro w1 hA1 hb1 hs1) | ((with_reducible show wpList _ _ _ _ _ _); refine wpList_alloc_at rfl 29 rfl (fa2 0 0) 2 z25 ?_; intro w2 hA2 hb2 hs2; rw [hs1] at hA2) | (go_at_call 97; refine (digit4_at _ _ false hd).mono ?_; rintro e w2' ⟨rfl, rfl⟩) | (go_at_call 99; refine (letterL_at _ _ true hl).mono ?_; rintro e w2' ⟨rfl, rfl⟩))
      refine (HC.out _).mono ?_
      rintro e w3 ⟨rfl, hw3⟩
      rw [hw3]; clear hw3
      have hR4 : At 64 w2' w.heap.size (tok5 0 ⟨#[]⟩ 0 0 0) := hA1.below hb2
      have hR5 : At 29 w2' (w.heap.size + 1) (fa2 0 0) := hA2
      have hB3 : Below w.heap.size w w2' := hb1.trans (hb2.mono (by omega))
      clear hA1 hb1 hA2 hb2
      go_wp2_with (first | ((with_reducible show wpList _ _ _ _ _ _); refine wpList_build_at rfl 64 _ rfl (tok5 1 (s.extract k (k + n)) k 0 0) (by kernel_rfl) ?_) | ((with_reducible show wpList _ _ _ _ _ _); refine wpList_build_at rfl 29 _ rfl (fa2 0 0) (by kernel_rfl) ?_) | ((with_reducible show wpList _ _ _ _ _ _); refine wpList_store_at (P := Tryz.prog) rfl 64 (.tmp 4) (.tmp 36) rfl w.heap.size (tok5 1 (s.extract k (k + n)) k 0 0) rfl rfl 64 (tok5 0 ⟨#[]⟩ 0 0 0) hR4 i34 rfl (one5T _ _ _ _ _) ?_; intro w8 hA8 hb8 hs8) | ((with_reducible show wpList _ _ _ _ _ _); refine wpList_store_at (P := Tryz.prog) rfl 29 (.tmp 5) (.tmp 37) rfl (w.heap.size + 1) (fa2 0 0) rfl rfl 29 (fa2 0 0) (hb8.at hR5 (by omega)) i25 rfl (one2f _ _) ?_; intro w9 hA9 hb9 hs9))
      refine bodyPost_ret (results_at_at rfl _ _ w.heap.size (w.heap.size + 1) 64 29 (tok5 1 (s.extract k (k + n)) k 0 0) (fa2 0 0) _ _ rfl (hb9.at hA8 (by omega)) Tryz.underlying64 rfl i34 rfl hA9 Tryz.underlying29 rfl i25) rfl ?_
      exact ⟨rfl, hb9.below (hb8.below hB3 (Nat.le_refl _) hB3.size) (by omega) (by have := hB3.size; omega)⟩

end Go.Proofs.YtjgggmjjikopeaaGreatDoor
