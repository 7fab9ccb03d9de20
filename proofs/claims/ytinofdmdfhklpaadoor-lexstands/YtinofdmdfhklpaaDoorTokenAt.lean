/- lex.tokenAt: the token at a place, or its error. -/
import Derived.Test.YtinofdmdfhklpaaDoorNumPoint
namespace Go.Proofs.YtinofdmdfhklpaaDoor
open Go.RowKit
set_option linter.unusedVariables false

/-- A token's five cells. -/
def tok5 (K : Nat) (S : ByteArray) (p t b : Nat) : List Value := [.int .i64 (K : Int), .string S, .int .i64 (p : Int), .int .u8 (t : Int), .int .u64 (b : Int)]
theorem z34 : (Tryd.prog.info? 34).map (fun i => (i.zero, i.size)) = some (some (.agg (tok5 0 ⟨#[]⟩ 0 0 0).toArray), 5) := by kernel_rfl
theorem i34 : (Tryd.prog.info? 34).map (·.size) = some 5 := by kernel_rfl
theorem one5 (K : Nat) (S : ByteArray) (p t b : Nat) : ∀ v ∈ tok5 K S p t b, v.oneCell' = true := by intro v hv; simp [tok5] at hv; rcases hv with rfl | rfl | rfl | rfl | rfl <;> rfl

/-- What tokenAt answers. -/
def TokPost (s : ByteArray) (k K n : Nat) (e : Ending) : Prop :=
  e = .returned (.tuple #[.agg (if errOf K (((bytes s).drop k).take n) = 0 then tok5 K (s.extract k (k + n)) k (valT K) (valB K (((bytes s).drop k).take n)) else tok5 0 ⟨#[]⟩ 0 0 0).toArray, .int .i64 (errOf K (((bytes s).drop k).take n) : Nat)])

set_option maxRecDepth 100000 in
set_option maxHeartbeats 800000 in
theorem tokenAt_any (s : ByteArray) (k K n : Nat) (w : World) (hk : k < s.size) (hs : s.size ≤ 1099511627775) (hE : ErrR w) (hKn : endOf ((bytes s).drop k) = (K, n)) :
    Calls Tryd.prog 14 #[.string s, .int .i64 (k : Int)] w fun e w' => TokPost s k K n e ∧ Below w.heap.size w w' := by
  have hend := tokenEnd_any s k
  rw [hKn] at hend
  have hbd := endOf_bounds ((bytes s).drop k) (by rw [List.length_drop, bytes_length]; omega)
  rw [hKn, List.length_drop, bytes_length] at hbd
  obtain ⟨hn1, hn2, hKs⟩ := hbd
  simp only [] at hn1 hn2 hKs
  have hdig : K = 2 → allDg (((bytes s).drop k).take n) := fun h => by have := end_digits ((bytes s).drop k) (by rw [hKn]; exact h); rwa [hKn] at this
  have hbS : bytes (s.extract k (k + n)) = ((bytes s).drop k).take n := by rw [bytes_extract, Nat.add_sub_cancel_left]
  obtain ⟨S, hS⟩ : ∃ S, Hid (S = s.extract k (k + n)) := ⟨_, (rfl : s.extract k (k + n) = _)⟩
  have hSz : S.size = n := by rw [hS.out, ← bytes_length, hbS, List.length_take, List.length_drop, bytes_length]; omega
  have HPost : Hid (∀ e, TokPost s k K n e ↔ e = .returned (.tuple #[.agg (if errOf K (bytes S) = 0 then tok5 K S k (valT K) (valB K (bytes S)) else tok5 0 ⟨#[]⟩ 0 0 0).toArray, .int .i64 (errOf K (bytes S) : Nat)])) := by
    intro e; rw [TokPost, hS.out, hbS]
  have hdig' : K = 2 → allDg (bytes S) := by rw [hS.out, hbS]; exact hdig
  have HEnd : Hid (∀ w, Calls Tryd.prog 19 #[.string s, .int .i64 (k : Int)] w fun e w' => e = .returned (.tuple #[.int .i64 (K : Int), .int .i64 ((k + n : Nat) : Int)]) ∧ w' = w) := fun w => hend w hk (by omega)
  have HDig : Hid (K = 2 → allDg (bytes S)) := hdig'
  clear hend hdig hdig' hKn
  have hle : k + n ≤ s.size := by omega
  go_enter Tryd.func14, Tryd.ntmps14
  go_wp2_with (first | ((with_reducible show wpList _ _ _ _ _ _); refine wpList_alloc_at rfl 34 rfl (tok5 0 ⟨#[]⟩ 0 0 0) 5 z34 ?_; intro w1 hA1 hb1 hs1))
  refine (HEnd.out _).mono ?_
  rintro e w1' ⟨rfl, hw1⟩
  rw [hw1]
  clear hw1
  go_wp2_with fail
  rw [← hS.out]
  refine (clone_any S _ (by omega)).mono ?_
  rintro e w2 ⟨rfl, hb2⟩
  have hA2 := hA1.below hb2
  have hb12 := hb1.trans (hb2.mono (by omega))
  have hlt2 : w.heap.size < w2.heap.size := hA2.lt
  clear hb2
  go_wp2_with (first | ((with_reducible show wpList _ _ _ _ _ _); refine wpList_build_at rfl 34 _ rfl (tok5 K S k 0 0) (by kernel_rfl) ?_) | ((with_reducible show wpList _ _ _ _ _ _); refine wpList_alloc_at rfl 34 rfl (tok5 0 ⟨#[]⟩ 0 0 0) 5 z34 ?_; intro w3 hA3 hb3 hs3) | ((with_reducible show wpList _ _ _ _ _ _); refine wpList_store_at (P := Tryd.prog) rfl 34 (.tmp 8) (.tmp 23) rfl w2.heap.size (tok5 K S k 0 0) rfl rfl 34 (tok5 0 ⟨#[]⟩ 0 0 0) hA3 i34 rfl (one5 K S k 0 0) ?_; intro w4 hA4 hb4 hs4; refine Hid.out ?_))
  refine Lib.hid ?_
  have hB4 : Below w.heap.size w w4 := hb4.below (hb12.trans (hb3.mono hb12.size)) (by omega) (by omega)
  have hAr4 : At 34 w4 w.heap.size (tok5 0 ⟨#[]⟩ 0 0 0) := hb4.at (hA2.below hb3) (by omega)
  have hcell1 : w4.cell? ⟨w2.heap.size, 1, none⟩ = some (.string S) := by rw [hA4.cell]; rfl
  clear hb3 hA3 hb4 hA2 hA1 hb12
  have hlen : (bytes S).length = n := by rw [bytes_length]; exact hSz
  rcases hKs with rfl | rfl | rfl | rfl
  · by_cases h24 : 24 < n
    · have hfin : Hid (errOf 1 (bytes S) = 5) := by simp [Hid, errOf, hlen, h24]
      go_wp2_with (first | ((with_reducible show wpList _ _ _ _ _ _); refine wpList_build_at rfl 34 #[] rfl (tok5 0 ⟨#[]⟩ 0 0 0) (by kernel_rfl) ?_) | ((with_reducible show wpList _ _ _ _ _ _); refine wpList_store_at (P := Tryd.prog) rfl 34 (.tmp 4) (.tmp 34) rfl w.heap.size (tok5 0 ⟨#[]⟩ 0 0 0) rfl rfl 34 (tok5 0 ⟨#[]⟩ 0 0 0) hAr4 i34 rfl (one5 _ _ _ _ _) ?_; intro w9 hA9 hb9 hs9))
      refine bodyPost_ret (results_at_tmp rfl _ _ w.heap.size 34 (tok5 0 ⟨#[]⟩ 0 0 0) _ rfl hA9 Tryd.underlying34 rfl i34) rfl ?_
      exact ⟨(HPost.out _).2 (by rw [hfin.out]; rfl), hb9.below hB4 (Nat.le_refl _) hB4.size⟩
    · have hfin : Hid (errOf 1 (bytes S) = 0) := by simp [Hid, errOf, hlen, h24]
      go_wp2_with (first | ((with_reducible show wpList _ _ _ _ _ _); refine wpList_load_at (P := Tryd.prog) rfl 34 (.tmp 8) rfl w2.heap.size rfl 34 (tok5 1 S k 0 0) hA4 _ Tryd.underlying34 rfl i34 ?_) | ((with_reducible show wpList _ _ _ _ _ _); refine wpList_store_at (P := Tryd.prog) rfl 34 (.tmp 4) (.tmp 56) rfl w.heap.size (tok5 1 S k 0 0) rfl rfl 34 (tok5 0 ⟨#[]⟩ 0 0 0) hAr4 i34 rfl (one5 _ _ _ _ _) ?_; intro w9 hA9 hb9 hs9))
      refine bodyPost_ret (results_at_tmp rfl _ _ w.heap.size 34 (tok5 1 S k 0 0) _ rfl hA9 Tryd.underlying34 rfl i34) rfl ?_
      exact ⟨(HPost.out _).2 (by rw [hfin.out]; rfl), hb9.below hB4 (Nat.le_refl _) hB4.size⟩
  · go_wp2_with fail
    refine (number_any S _ (by omega) (by omega) (HDig.out (by trivial)) (hE.below hB4)).mono ?_
    rintro e w5 ⟨⟨hg, rfl⟩ | ⟨hg, rfl⟩, hb5⟩
    · have hfin : Hid (errOf 2 (bytes S) = 0) := by simp [Hid, errOf, hg]
      have hval : Hid (valB 2 (bytes S) = decVal (bytes S)) := by simp [Hid, valB]
      obtain ⟨V, hV⟩ : ∃ V, Hid (V = decVal (bytes S)) := ⟨_, (rfl : decVal (bytes S) = _)⟩
      rw [← hV.out]
      have hA5 := hA4.below hb5
      have hAr5 := hAr4.below hb5
      have hB5 := hB4.trans (hb5.mono hB4.size)
      have hlt5 : w.heap.size < w5.heap.size := hAr5.lt
      go_wp2_with (first | ((with_reducible show wpList _ _ _ _ _ _); refine wpList_store_two (P := Tryd.prog) rfl 32 (.tmp 43) (.tmp 41) rfl w2.heap.size 3 (.int .u8 1) (.int .u64 (V : Int)) rfl rfl 34 (tok5 2 S k 0 0) hA5 (show 3 + 2 ≤ 5 by decide) i32 (one2 1 V) ?_; intro w6 hA6 hb6 hs6; refine Hid.out ?_))
      refine Lib.hid ?_
      have hB6 : Below w.heap.size w w6 := hb6.below hB5 (by omega) (by omega)
      have hAr6 : At 34 w6 w.heap.size (tok5 0 ⟨#[]⟩ 0 0 0) := hb6.at hAr5 (by omega)
      have hA6' : At 34 w6 w2.heap.size (tok5 2 S k 1 V) := hA6
      go_wp2_with (first | ((with_reducible show wpList _ _ _ _ _ _); refine wpList_load_at (P := Tryd.prog) rfl 34 (.tmp 8) rfl w2.heap.size rfl 34 (tok5 2 S k 1 V) hA6' _ Tryd.underlying34 rfl i34 ?_) | ((with_reducible show wpList _ _ _ _ _ _); refine wpList_store_at (P := Tryd.prog) rfl 34 (.tmp 4) (.tmp 56) rfl w.heap.size (tok5 2 S k 1 V) rfl rfl 34 (tok5 0 ⟨#[]⟩ 0 0 0) hAr6 i34 rfl (one5 _ _ _ _ _) ?_; intro w9 hA9 hb9 hs9))
      refine bodyPost_ret (results_at_tmp rfl _ _ w.heap.size 34 (tok5 2 S k 1 V) _ rfl hA9 Tryd.underlying34 rfl i34) rfl ?_
      exact ⟨(HPost.out _).2 (by rw [hfin.out, hval.out, ← hV.out]; rfl), hb9.below hB6 (Nat.le_refl _) hB6.size⟩
    · have hfin : Hid (errOf 2 (bytes S) = 4) := by simp [Hid, errOf, hg]
      have hA5 := hA4.below hb5
      have hAr5 := hAr4.below hb5
      have hB5 := hB4.trans (hb5.mono hB4.size)
      have hlt5 : w.heap.size < w5.heap.size := hAr5.lt
      go_wp2_with (first | ((with_reducible show wpList _ _ _ _ _ _); refine wpList_store_two (P := Tryd.prog) rfl 32 (.tmp 43) (.tmp 41) rfl w2.heap.size 3 (.int .u8 0) (.int .u64 0) rfl rfl 34 (tok5 2 S k 0 0) hA5 (show 3 + 2 ≤ 5 by decide) i32 (one2 0 0) ?_; intro w6 hA6 hb6 hs6; refine Hid.out ?_))
      refine Lib.hid ?_
      have hB6 : Below w.heap.size w w6 := hb6.below hB5 (by omega) (by omega)
      have hAr6 : At 34 w6 w.heap.size (tok5 0 ⟨#[]⟩ 0 0 0) := hb6.at hAr5 (by omega)
      go_wp2_with (first | ((with_reducible show wpList _ _ _ _ _ _); refine wpList_build_at rfl 34 #[] rfl (tok5 0 ⟨#[]⟩ 0 0 0) (by kernel_rfl) ?_) | ((with_reducible show wpList _ _ _ _ _ _); refine wpList_store_at (P := Tryd.prog) rfl 34 (.tmp 4) (.tmp 55) rfl w.heap.size (tok5 0 ⟨#[]⟩ 0 0 0) rfl rfl 34 (tok5 0 ⟨#[]⟩ 0 0 0) hAr6 i34 rfl (one5 _ _ _ _ _) ?_; intro w9 hA9 hb9 hs9))
      refine bodyPost_ret (results_at_tmp rfl _ _ w.heap.size 34 (tok5 0 ⟨#[]⟩ 0 0 0) _ rfl hA9 Tryd.underlying34 rfl i34) rfl ?_
      exact ⟨(HPost.out _).2 (by rw [hfin.out]; rfl), hb9.below hB6 (Nat.le_refl _) hB6.size⟩
  · go_wp2_with fail
    refine (point_any S _ (by omega)).mono ?_
    rintro e w5 ⟨⟨hg, rfl⟩ | ⟨hg, rfl⟩, hb5⟩
    · have hfin : Hid (errOf 3 (bytes S) = 0) := by simp [Hid, errOf, hg]
      have hval : Hid (valB 3 (bytes S) = quo (litNum (bytes S)) (10 ^ (behindOf (bytes S)).length)) := by simp [Hid, valB]
      obtain ⟨V, hV⟩ : ∃ V, Hid (V = quo (litNum (bytes S)) (10 ^ (behindOf (bytes S)).length)) := ⟨_, (rfl : quo (litNum (bytes S)) (10 ^ (behindOf (bytes S)).length) = _)⟩
      rw [← hV.out]
      have hA5 := hA4.below hb5
      have hAr5 := hAr4.below hb5
      have hB5 := hB4.trans (hb5.mono hB4.size)
      have hlt5 : w.heap.size < w5.heap.size := hAr5.lt
      go_wp2_with (first | ((with_reducible show wpList _ _ _ _ _ _); refine wpList_store_two (P := Tryd.prog) rfl 32 (.tmp 52) (.tmp 50) rfl w2.heap.size 3 (.int .u8 3) (.int .u64 (V : Int)) rfl rfl 34 (tok5 3 S k 0 0) hA5 (show 3 + 2 ≤ 5 by decide) i32 (one2 3 V) ?_; intro w6 hA6 hb6 hs6; refine Hid.out ?_))
      refine Lib.hid ?_
      have hB6 : Below w.heap.size w w6 := hb6.below hB5 (by omega) (by omega)
      have hAr6 : At 34 w6 w.heap.size (tok5 0 ⟨#[]⟩ 0 0 0) := hb6.at hAr5 (by omega)
      have hA6' : At 34 w6 w2.heap.size (tok5 3 S k 3 V) := hA6
      go_wp2_with (first | ((with_reducible show wpList _ _ _ _ _ _); refine wpList_load_at (P := Tryd.prog) rfl 34 (.tmp 8) rfl w2.heap.size rfl 34 (tok5 3 S k 3 V) hA6' _ Tryd.underlying34 rfl i34 ?_) | ((with_reducible show wpList _ _ _ _ _ _); refine wpList_store_at (P := Tryd.prog) rfl 34 (.tmp 4) (.tmp 56) rfl w.heap.size (tok5 3 S k 3 V) rfl rfl 34 (tok5 0 ⟨#[]⟩ 0 0 0) hAr6 i34 rfl (one5 _ _ _ _ _) ?_; intro w9 hA9 hb9 hs9))
      refine bodyPost_ret (results_at_tmp rfl _ _ w.heap.size 34 (tok5 3 S k 3 V) _ rfl hA9 Tryd.underlying34 rfl i34) rfl ?_
      exact ⟨(HPost.out _).2 (by rw [hfin.out, hval.out, ← hV.out]; rfl), hb9.below hB6 (Nat.le_refl _) hB6.size⟩
    · have hfin : Hid (errOf 3 (bytes S) = 4) := by simp [Hid, errOf, hg]
      have hA5 := hA4.below hb5
      have hAr5 := hAr4.below hb5
      have hB5 := hB4.trans (hb5.mono hB4.size)
      have hlt5 : w.heap.size < w5.heap.size := hAr5.lt
      go_wp2_with (first | ((with_reducible show wpList _ _ _ _ _ _); refine wpList_store_two (P := Tryd.prog) rfl 32 (.tmp 52) (.tmp 50) rfl w2.heap.size 3 (.int .u8 0) (.int .u64 0) rfl rfl 34 (tok5 3 S k 0 0) hA5 (show 3 + 2 ≤ 5 by decide) i32 (one2 0 0) ?_; intro w6 hA6 hb6 hs6; refine Hid.out ?_))
      refine Lib.hid ?_
      have hB6 : Below w.heap.size w w6 := hb6.below hB5 (by omega) (by omega)
      have hAr6 : At 34 w6 w.heap.size (tok5 0 ⟨#[]⟩ 0 0 0) := hb6.at hAr5 (by omega)
      go_wp2_with (first | ((with_reducible show wpList _ _ _ _ _ _); refine wpList_build_at rfl 34 #[] rfl (tok5 0 ⟨#[]⟩ 0 0 0) (by kernel_rfl) ?_) | ((with_reducible show wpList _ _ _ _ _ _); refine wpList_store_at (P := Tryd.prog) rfl 34 (.tmp 4) (.tmp 55) rfl w.heap.size (tok5 0 ⟨#[]⟩ 0 0 0) rfl rfl 34 (tok5 0 ⟨#[]⟩ 0 0 0) hAr6 i34 rfl (one5 _ _ _ _ _) ?_; intro w9 hA9 hb9 hs9))
      refine bodyPost_ret (results_at_tmp rfl _ _ w.heap.size 34 (tok5 0 ⟨#[]⟩ 0 0 0) _ rfl hA9 Tryd.underlying34 rfl i34) rfl ?_
      exact ⟨(HPost.out _).2 (by rw [hfin.out]; rfl), hb9.below hB6 (Nat.le_refl _) hB6.size⟩
  · cases hsg : isSg (bytes S)
    · have hfin : Hid (errOf 4 (bytes S) = 4) := by simp [Hid, errOf, hsg]
      have HSG : Hid (isSg (bytes S) = false) := hsg
      clear hsg
      go_wp2_with fail
      refine (isSign_any S _).mono ?_
      rw [HSG.out]
      rintro e w5 ⟨rfl, hw5⟩
      rw [hw5]
      clear hw5
      go_wp2_with (first | ((with_reducible show wpList _ _ _ _ _ _); refine wpList_build_at rfl 34 #[] rfl (tok5 0 ⟨#[]⟩ 0 0 0) (by kernel_rfl) ?_) | ((with_reducible show wpList _ _ _ _ _ _); refine wpList_store_at (P := Tryd.prog) rfl 34 (.tmp 4) (.tmp 55) rfl w.heap.size (tok5 0 ⟨#[]⟩ 0 0 0) rfl rfl 34 (tok5 0 ⟨#[]⟩ 0 0 0) hAr4 i34 rfl (one5 _ _ _ _ _) ?_; intro w9 hA9 hb9 hs9))
      refine bodyPost_ret (results_at_tmp rfl _ _ w.heap.size 34 (tok5 0 ⟨#[]⟩ 0 0 0) _ rfl hA9 Tryd.underlying34 rfl i34) rfl ?_
      exact ⟨(HPost.out _).2 (by rw [hfin.out]; rfl), hb9.below hB4 (Nat.le_refl _) hB4.size⟩
    · have hfin : Hid (errOf 4 (bytes S) = 0) := by simp [Hid, errOf, hsg]
      have HSG : Hid (isSg (bytes S) = true) := hsg
      clear hsg
      go_wp2_with fail
      refine (isSign_any S _).mono ?_
      rw [HSG.out]
      rintro e w5 ⟨rfl, hw5⟩
      rw [hw5]
      clear hw5
      go_wp2_with (first | ((with_reducible show wpList _ _ _ _ _ _); refine wpList_load_at (P := Tryd.prog) rfl 34 (.tmp 8) rfl w2.heap.size rfl 34 (tok5 4 S k 0 0) hA4 _ Tryd.underlying34 rfl i34 ?_) | ((with_reducible show wpList _ _ _ _ _ _); refine wpList_store_at (P := Tryd.prog) rfl 34 (.tmp 4) (.tmp 56) rfl w.heap.size (tok5 4 S k 0 0) rfl rfl 34 (tok5 0 ⟨#[]⟩ 0 0 0) hAr4 i34 rfl (one5 _ _ _ _ _) ?_; intro w9 hA9 hb9 hs9))
      refine bodyPost_ret (results_at_tmp rfl _ _ w.heap.size 34 (tok5 4 S k 0 0) _ rfl hA9 Tryd.underlying34 rfl i34) rfl ?_
      exact ⟨(HPost.out _).2 (by rw [hfin.out]; rfl), hb9.below hB4 (Nat.le_refl _) hB4.size⟩

end Go.Proofs.YtinofdmdfhklpaaDoor
