/- Joined texts of the proof. -/
import Derived.Test.YtjgggmjjikopeaaGreatDoorJ7
import Derived.Great.BuildSlice
import Derived.Maps.AppendAt
import Derived.Test.YtjgggmjjikopeaaGreatDoorJ6
import Derived.Test.YtjgggmjjikopeaaGreatDoorJ3
import Derived.Test.YtjgggmjjikopeaaGreatDoorJ2

/- lex.tokenAt: the token at a place, or its error. -/
namespace Go.Proofs.YtjgggmjjikopeaaGreatDoor
open Go.RowKit
set_option linter.unusedVariables false

/-- A token's five cells. -/
def tok5 (K : Nat) (S : ByteArray) (p t b : Nat) : List Value := [.int .i64 (K : Int), .string S, .int .i64 (p : Int), .int .u8 (t : Int), .int .u64 (b : Int)]
theorem z34 : (Tryz.prog.info? 64).map (fun i => (i.zero, i.size)) = some (some (.agg (tok5 0 ⟨#[]⟩ 0 0 0).toArray), 5) := by kernel_rfl
theorem i34 : (Tryz.prog.info? 64).map (·.size) = some 5 := by kernel_rfl
theorem one5T (K : Nat) (S : ByteArray) (p t b : Nat) : ∀ v ∈ tok5 K S p t b, v.oneCell' = true := by intro v hv; simp [tok5] at hv; rcases hv with rfl | rfl | rfl | rfl | rfl <;> rfl

/-- What tokenAt answers. -/
def TokPost (s : ByteArray) (k K n : Nat) (e : Ending) : Prop :=
  e = .returned (.tuple #[.agg (if errOf K (((bytes s).drop k).take n) = 0 then tok5 K (s.extract k (k + n)) k (valT K) (valB K (((bytes s).drop k).take n)) else tok5 0 ⟨#[]⟩ 0 0 0).toArray, .int .i64 (errOf K (((bytes s).drop k).take n) : Nat)])

set_option maxRecDepth 100000 in
set_option maxHeartbeats 800000 in
theorem tokenAt_any (s : ByteArray) (k K n : Nat) (w : World) (hk : k < s.size) (hs : s.size ≤ 1099511627775) (hE : ErrR w) (hKn : endOf ((bytes s).drop k) = (K, n)) :
    Calls Tryz.prog 52 #[.string s, .int .i64 (k : Int)] w fun e w' => TokPost s k K n e ∧ Below w.heap.size w w' := by
  have hend := tokenEnd_any s k
  rw [hKn] at hend
  have hbd := endOf_bounds ((bytes s).drop k) (by rw [List.length_drop, bytes_length]; omega)
  rw [hKn, List.length_drop, bytes_length] at hbd
  obtain ⟨hn1, hn2, hKs⟩ := hbd
  simp only [] at hn1 hn2 hKs
  have hdig : K = 2 → allDg (((bytes s).drop k).take n) := fun h => by have := end_digits ((bytes s).drop k) (by rw [hKn]; exact h); rwa [hKn] at this
  have hbS : bytes (s.extract k (k + n)) = ((bytes s).drop k).take n := by rw [bytes_extract, Nat.add_sub_cancel_left]
  obtain ⟨S, hS⟩ : ∃ S, Hid (S = s.extract k (k + n)) := ⟨_, (rfl : s.extract k (k + n) = _)⟩
  have hSz : S.size = n := by rw [hS.out, ← bytes_length, hbS, List.length_take, List.length_drop, bytes_length]; omega
  have HPost : Hid (∀ e, TokPost s k K n e ↔ e = .returned (.tuple #[.agg (if errOf K (bytes S) = 0 then tok5 K S k (valT K) (valB K (bytes S)) else tok5 0 ⟨#[]⟩ 0 0 0).toArray, .int .i64 (errOf K (bytes S) : Nat)])) := by
    intro e; rw [TokPost, hS.out, hbS]
  have hdig' : K = 2 → allDg (bytes S) := by rw [hS.out, hbS]; exact hdig
  have HEnd : Hid (∀ w, Calls Tryz.prog 86 #[.string s, .int .i64 (k : Int)] w fun e w' => e = .returned (.tuple #[.int .i64 (K : Int), .int .i64 ((k + n : Nat) : Int)]) ∧ w' = w) := fun w => hend w hk (by omega)
  have HDig : Hid (K = 2 → allDg (bytes S)) := hdig'
  clear hend hdig hdig' hKn
  have hle : k + n ≤ s.size := by omega
  go_enter Tryz.func52, Tryz.ntmps52
  go_wp2_with (first | ((with_reducible show wpList _ _ _ _ _ _); refine wpList_alloc_at rfl 64 rfl (tok5 0 ⟨#[]⟩ 0 0 0) 5 z34 ?_; intro w1 hA1 hb1 hs1))
  refine (HEnd.out _).mono ?_
  rintro e w1' ⟨rfl, hw1⟩
  rw [hw1]
  clear hw1
  go_wp2_with fail
  rw [← hS.out]
  refine (clone_any S _ (by omega)).mono ?_
  rintro e w2 ⟨rfl, hb2⟩
  have hA2 := hA1.below hb2
  have hb12 := hb1.trans (hb2.mono (by omega))
  have hlt2 : w.heap.size < w2.heap.size := hA2.lt
  clear hb2
  go_wp2_with (first | ((with_reducible show wpList _ _ _ _ _ _); refine wpList_build_at rfl 64 _ rfl (tok5 K S k 0 0) (by kernel_rfl) ?_) | ((with_reducible show wpList _ _ _ _ _ _); refine wpList_alloc_at rfl 64 rfl (tok5 0 ⟨#[]⟩ 0 0 0) 5 z34 ?_; intro w3 hA3 hb3 hs3) | ((with_reducible show wpList _ _ _ _ _ _); refine wpList_store_at (P := Tryz.prog) rfl 64 (.tmp 8) (.tmp 23) rfl w2.heap.size (tok5 K S k 0 0) rfl rfl 64 (tok5 0 ⟨#[]⟩ 0 0 0) hA3 i34 rfl (one5T K S k 0 0) ?_; intro w4 hA4 hb4 hs4; refine Hid.out ?_))
  refine Lib.hid ?_
  have hB4 : Below w.heap.size w w4 := hb4.below (hb12.trans (hb3.mono hb12.size)) (by omega) (by omega)
  have hAr4 : At 64 w4 w.heap.size (tok5 0 ⟨#[]⟩ 0 0 0) := hb4.at (hA2.below hb3) (by omega)
  have hcell1 : w4.cell? ⟨w2.heap.size, 1, none⟩ = some (.string S) := by rw [hA4.cell]; rfl
  clear hb3 hA3 hb4 hA2 hA1 hb12
  have hlen : (bytes S).length = n := by rw [bytes_length]; exact hSz
  rcases hKs with rfl | rfl | rfl | rfl
  · by_cases h24 : 24 < n
    · have hfin : Hid (errOf 1 (bytes S) = 5) := by simp [Hid, errOf, hlen, h24]
      go_wp2_with (first | ((with_reducible show wpList _ _ _ _ _ _); refine wpList_build_at rfl 64 #[] rfl (tok5 0 ⟨#[]⟩ 0 0 0) (by kernel_rfl) ?_) | ((with_reducible show wpList _ _ _ _ _ _); refine wpList_store_at (P := Tryz.prog) rfl 64 (.tmp 4) (.tmp 34) rfl w.heap.size (tok5 0 ⟨#[]⟩ 0 0 0) rfl rfl 64 (tok5 0 ⟨#[]⟩ 0 0 0) hAr4 i34 rfl (one5T _ _ _ _ _) ?_; intro w9 hA9 hb9 hs9))
      refine bodyPost_ret (results_at_tmp rfl _ _ w.heap.size 64 (tok5 0 ⟨#[]⟩ 0 0 0) _ rfl hA9 Tryz.underlying64 rfl i34) rfl ?_
      exact ⟨(HPost.out _).2 (by rw [hfin.out]; rfl), hb9.below hB4 (Nat.le_refl _) hB4.size⟩
    · have hfin : Hid (errOf 1 (bytes S) = 0) := by simp [Hid, errOf, hlen, h24]
      go_wp2_with (first | ((with_reducible show wpList _ _ _ _ _ _); refine wpList_load_at (P := Tryz.prog) rfl 64 (.tmp 8) rfl w2.heap.size rfl 64 (tok5 1 S k 0 0) hA4 _ Tryz.underlying64 rfl i34 ?_) | ((with_reducible show wpList _ _ _ _ _ _); refine wpList_store_at (P := Tryz.prog) rfl 64 (.tmp 4) (.tmp 56) rfl w.heap.size (tok5 1 S k 0 0) rfl rfl 64 (tok5 0 ⟨#[]⟩ 0 0 0) hAr4 i34 rfl (one5T _ _ _ _ _) ?_; intro w9 hA9 hb9 hs9))
      refine bodyPost_ret (results_at_tmp rfl _ _ w.heap.size 64 (tok5 1 S k 0 0) _ rfl hA9 Tryz.underlying64 rfl i34) rfl ?_
      exact ⟨(HPost.out _).2 (by rw [hfin.out]; rfl), hb9.below hB4 (Nat.le_refl _) hB4.size⟩
  · go_wp2_with fail
    refine (lexNumber_any S _ (by omega) (by omega) (HDig.out (by trivial)) (hE.below hB4)).mono ?_
    rintro e w5 ⟨⟨hg, rfl⟩ | ⟨hg, rfl⟩, hb5⟩
    · have hfin : Hid (errOf 2 (bytes S) = 0) := by simp [Hid, errOf, hg]
      have hval : Hid (valB 2 (bytes S) = decVal (bytes S)) := by simp [Hid, valB]
      obtain ⟨V, hV⟩ : ∃ V, Hid (V = decVal (bytes S)) := ⟨_, (rfl : decVal (bytes S) = _)⟩
      rw [← hV.out]
      have hA5 := hA4.below hb5
      have hAr5 := hAr4.below hb5
      have hB5 := hB4.trans (hb5.mono hB4.size)
      have hlt5 : w.heap.size < w5.heap.size := hAr5.lt
      go_wp2_with (first | ((with_reducible show wpList _ _ _ _ _ _); refine wpList_store_two (P := Tryz.prog) rfl 40 (.tmp 43) (.tmp 41) rfl w2.heap.size 3 (.int .u8 1) (.int .u64 (V : Int)) rfl rfl 64 (tok5 2 S k 0 0) hA5 (show 3 + 2 ≤ 5 by decide) i32 (one2 1 V) ?_; intro w6 hA6 hb6 hs6; refine Hid.out ?_))
      refine Lib.hid ?_
      have hB6 : Below w.heap.size w w6 := hb6.below hB5 (by omega) (by omega)
      have hAr6 : At 64 w6 w.heap.size (tok5 0 ⟨#[]⟩ 0 0 0) := hb6.at hAr5 (by omega)
      have hA6' : At 64 w6 w2.heap.size (tok5 2 S k 1 V) := hA6
      go_wp2_with (first | ((with_reducible show wpList _ _ _ _ _ _); refine wpList_load_at (P := Tryz.prog) rfl 64 (.tmp 8) rfl w2.heap.size rfl 64 (tok5 2 S k 1 V) hA6' _ Tryz.underlying64 rfl i34 ?_) | ((with_reducible show wpList _ _ _ _ _ _); refine wpList_store_at (P := Tryz.prog) rfl 64 (.tmp 4) (.tmp 56) rfl w.heap.size (tok5 2 S k 1 V) rfl rfl 64 (tok5 0 ⟨#[]⟩ 0 0 0) hAr6 i34 rfl (one5T _ _ _ _ _) ?_; intro w9 hA9 hb9 hs9))
      refine bodyPost_ret (results_at_tmp rfl _ _ w.heap.size 64 (tok5 2 S k 1 V) _ rfl hA9 Tryz.underlying64 rfl i34) rfl ?_
      exact ⟨(HPost.out _).2 (by rw [hfin.out, hval.out, ← hV.out]; rfl), hb9.below hB6 (Nat.le_refl _) hB6.size⟩
    · have hfin : Hid (errOf 2 (bytes S) = 4) := by simp [Hid, errOf, hg]
      have hA5 := hA4.below hb5
      have hAr5 := hAr4.below hb5
      have hB5 := hB4.trans (hb5.mono hB4.size)
      have hlt5 : w.heap.size < w5.heap.size := hAr5.lt
      go_wp2_with (first | ((with_reducible show wpList _ _ _ _ _ _); refine wpList_store_two (P := Tryz.prog) rfl 40 (.tmp 43) (.tmp 41) rfl w2.heap.size 3 (.int .u8 0) (.int .u64 0) rfl rfl 64 (tok5 2 S k 0 0) hA5 (show 3 + 2 ≤ 5 by decide) i32 (one2 0 0) ?_; intro w6 hA6 hb6 hs6; refine Hid.out ?_))
      refine Lib.hid ?_
      have hB6 : Below w.heap.size w w6 := hb6.below hB5 (by omega) (by omega)
      have hAr6 : At 64 w6 w.heap.size (tok5 0 ⟨#[]⟩ 0 0 0) := hb6.at hAr5 (by omega)
      go_wp2_with (first | ((with_reducible show wpList _ _ _ _ _ _); refine wpList_build_at rfl 64 #[] rfl (tok5 0 ⟨#[]⟩ 0 0 0) (by kernel_rfl) ?_) | ((with_reducible show wpList _ _ _ _ _ _); refine wpList_store_at (P := Tryz.prog) rfl 64 (.tmp 4) (.tmp 55) rfl w.heap.size (tok5 0 ⟨#[]⟩ 0 0 0) rfl rfl 64 (tok5 0 ⟨#[]⟩ 0 0 0) hAr6 i34 rfl (one5T _ _ _ _ _) ?_; intro w9 hA9 hb9 hs9))
      refine bodyPost_ret (results_at_tmp rfl _ _ w.heap.size 64 (tok5 0 ⟨#[]⟩ 0 0 0) _ rfl hA9 Tryz.underlying64 rfl i34) rfl ?_
      exact ⟨(HPost.out _).2 (by rw [hfin.out]; rfl), hb9.below hB6 (Nat.le_refl _) hB6.size⟩
  · go_wp2_with fail
    refine (point_any S _ (by omega)).mono ?_
    rintro e w5 ⟨⟨hg, rfl⟩ | ⟨hg, rfl⟩, hb5⟩
    · have hfin : Hid (errOf 3 (bytes S) = 0) := by simp [Hid, errOf, hg]
      have hval : Hid (valB 3 (bytes S) = quo (litNum (bytes S)) (10 ^ (behindOf (bytes S)).length)) := by simp [Hid, valB]
      obtain ⟨V, hV⟩ : ∃ V, Hid (V = quo (litNum (bytes S)) (10 ^ (behindOf (bytes S)).length)) := ⟨_, (rfl : quo (litNum (bytes S)) (10 ^ (behindOf (bytes S)).length) = _)⟩
      rw [← hV.out]
      have hA5 := hA4.below hb5
      have hAr5 := hAr4.below hb5
      have hB5 := hB4.trans (hb5.mono hB4.size)
      have hlt5 : w.heap.size < w5.heap.size := hAr5.lt
      go_wp2_with (first | ((with_reducible show wpList _ _ _ _ _ _); refine wpList_store_two (P := Tryz.prog) rfl 40 (.tmp 52) (.tmp 50) rfl w2.heap.size 3 (.int .u8 3) (.int .u64 (V : Int)) rfl rfl 64 (tok5 3 S k 0 0) hA5 (show 3 + 2 ≤ 5 by decide) i32 (one2 3 V) ?_; intro w6 hA6 hb6 hs6; refine Hid.out ?_))
      refine Lib.hid ?_
      have hB6 : Below w.heap.size w w6 := hb6.below hB5 (by omega) (by omega)
      have hAr6 : At 64 w6 w.heap.size (tok5 0 ⟨#[]⟩ 0 0 0) := hb6.at hAr5 (by omega)
      have hA6' : At 64 w6 w2.heap.size (tok5 3 S k 3 V) := hA6
      go_wp2_with (first | ((with_reducible show wpList _ _ _ _ _ _); refine wpList_load_at (P := Tryz.prog) rfl 64 (.tmp 8) rfl w2.heap.size rfl 64 (tok5 3 S k 3 V) hA6' _ Tryz.underlying64 rfl i34 ?_) | ((with_reducible show wpList _ _ _ _ _ _); refine wpList_store_at (P := Tryz.prog) rfl 64 (.tmp 4) (.tmp 56) rfl w.heap.size (tok5 3 S k 3 V) rfl rfl 64 (tok5 0 ⟨#[]⟩ 0 0 0) hAr6 i34 rfl (one5T _ _ _ _ _) ?_; intro w9 hA9 hb9 hs9))
      refine bodyPost_ret (results_at_tmp rfl _ _ w.heap.size 64 (tok5 3 S k 3 V) _ rfl hA9 Tryz.underlying64 rfl i34) rfl ?_
      exact ⟨(HPost.out _).2 (by rw [hfin.out, hval.out, ← hV.out]; rfl), hb9.below hB6 (Nat.le_refl _) hB6.size⟩
    · have hfin : Hid (errOf 3 (bytes S) = 4) := by simp [Hid, errOf, hg]
      have hA5 := hA4.below hb5
      have hAr5 := hAr4.below hb5
      have hB5 := hB4.trans (hb5.mono hB4.size)
      have hlt5 : w.heap.size < w5.heap.size := hAr5.lt
      go_wp2_with (first | ((with_reducible show wpList _ _ _ _ _ _); refine wpList_store_two (P := Tryz.prog) rfl 40 (.tmp 52) (.tmp 50) rfl w2.heap.size 3 (.int .u8 0) (.int .u64 0) rfl rfl 64 (tok5 3 S k 0 0) hA5 (show 3 + 2 ≤ 5 by decide) i32 (one2 0 0) ?_; intro w6 hA6 hb6 hs6; refine Hid.out ?_))
      refine Lib.hid ?_
      have hB6 : Below w.heap.size w w6 := hb6.below hB5 (by omega) (by omega)
      have hAr6 : At 64 w6 w.heap.size (tok5 0 ⟨#[]⟩ 0 0 0) := hb6.at hAr5 (by omega)
      go_wp2_with (first | ((with_reducible show wpList _ _ _ _ _ _); refine wpList_build_at rfl 64 #[] rfl (tok5 0 ⟨#[]⟩ 0 0 0) (by kernel_rfl) ?_) | ((with_reducible show wpList _ _ _ _ _ _); refine wpList_store_at (P := Tryz.prog) rfl 64 (.tmp 4) (.tmp 55) rfl w.heap.size (tok5 0 ⟨#[]⟩ 0 0 0) rfl rfl 64 (tok5 0 ⟨#[]⟩ 0 0 0) hAr6 i34 rfl (one5T _ _ _ _ _) ?_; intro w9 hA9 hb9 hs9))
      refine bodyPost_ret (results_at_tmp rfl _ _ w.heap.size 64 (tok5 0 ⟨#[]⟩ 0 0 0) _ rfl hA9 Tryz.underlying64 rfl i34) rfl ?_
      exact ⟨(HPost.out _).2 (by rw [hfin.out]; rfl), hb9.below hB6 (Nat.le_refl _) hB6.size⟩
  · cases hsg : isSg (bytes S)
    · have hfin : Hid (errOf 4 (bytes S) = 4) := by simp [Hid, errOf, hsg]
      have HSG : Hid (isSg (bytes S) = false) := hsg
      clear hsg
      go_wp2_with fail
      refine (isSign_any S _).mono ?_
      rw [HSG.out]
      rintro e w5 ⟨rfl, hw5⟩
      rw [hw5]
      clear hw5
      go_wp2_with (first | ((with_reducible show wpList _ _ _ _ _ _); refine wpList_build_at rfl 64 #[] rfl (tok5 0 ⟨#[]⟩ 0 0 0) (by kernel_rfl) ?_) | ((with_reducible show wpList _ _ _ _ _ _); refine wpList_store_at (P := Tryz.prog) rfl 64 (.tmp 4) (.tmp 55) rfl w.heap.size (tok5 0 ⟨#[]⟩ 0 0 0) rfl rfl 64 (tok5 0 ⟨#[]⟩ 0 0 0) hAr4 i34 rfl (one5T _ _ _ _ _) ?_; intro w9 hA9 hb9 hs9))
      refine bodyPost_ret (results_at_tmp rfl _ _ w.heap.size 64 (tok5 0 ⟨#[]⟩ 0 0 0) _ rfl hA9 Tryz.underlying64 rfl i34) rfl ?_
      exact ⟨(HPost.out _).2 (by rw [hfin.out]; rfl), hb9.below hB4 (Nat.le_refl _) hB4.size⟩
    · have hfin : Hid (errOf 4 (bytes S) = 0) := by simp [Hid, errOf, hsg]
      have HSG : Hid (isSg (bytes S) = true) := hsg
      clear hsg
      go_wp2_with fail
      refine (isSign_any S _).mono ?_
      rw [HSG.out]
      rintro e w5 ⟨rfl, hw5⟩
      rw [hw5]
      clear hw5
      go_wp2_with (first | ((with_reducible show wpList _ _ _ _ _ _); refine wpList_load_at (P := Tryz.prog) rfl 64 (.tmp 8) rfl w2.heap.size rfl 64 (tok5 4 S k 0 0) hA4 _ Tryz.underlying64 rfl i34 ?_) | ((with_reducible show wpList _ _ _ _ _ _); refine wpList_store_at (P := Tryz.prog) rfl 64 (.tmp 4) (.tmp 56) rfl w.heap.size (tok5 4 S k 0 0) rfl rfl 64 (tok5 0 ⟨#[]⟩ 0 0 0) hAr4 i34 rfl (one5T _ _ _ _ _) ?_; intro w9 hA9 hb9 hs9))
      refine bodyPost_ret (results_at_tmp rfl _ _ w.heap.size 64 (tok5 4 S k 0 0) _ rfl hA9 Tryz.underlying64 rfl i34) rfl ?_
      exact ⟨(HPost.out _).2 (by rw [hfin.out]; rfl), hb9.below hB4 (Nat.le_refl _) hB4.size⟩

end Go.Proofs.YtjgggmjjikopeaaGreatDoor

/- Rows of tokens: appended to, kept, read. -/
namespace Go.Proofs.YtjgggmjjikopeaaGreatDoor
open Go.RowKit
set_option linter.unusedVariables false

/-- The cells of tokens, one behind the other. -/
def flat (ts : List Tk) : List Value := (ts.map Tk.cells).flatten

theorem flat_length (ts : List Tk) : (flat ts).length = ts.length * 5 := by
  induction ts with
  | nil => rfl
  | cons t r ih => simp [flat, Tk.cells] at ih ⊢; omega

theorem flat_append (a b : List Tk) : flat (a ++ b) = flat a ++ flat b := by simp [flat]

theorem flat_at (ts : List Tk) (i : Nat) (t : Tk) (h : ts[i]? = some t) : ((flat ts).drop (i * 5)).take 5 = t.cells := by
  induction ts generalizing i with
  | nil => simp at h
  | cons u r ih =>
    cases i with
    | zero =>
      simp at h
      subst h
      simp [flat, Tk.cells]
    | succ j =>
      have := ih j (by simpa using h)
      rw [show (j + 1) * 5 = 5 + j * 5 by omega, ← List.drop_drop]
      simpa [flat, Tk.cells] using this

/-- A row of tokens of the call's own. -/
def Toks (base : Nat) (w : World) (v : Value) (ts : List Tk) : Prop := w.ownsRow base 64 5 v ts.length (flat ts)

theorem Toks.nil (base : Nat) (w : World) : Toks base w (.slice none 0 0) [] := ⟨rfl, .inl ⟨rfl, rfl⟩⟩

theorem Toks.keep {base : Nat} {w w' : World} {v : Value} {ts : List Tk} (h : Toks base w v ts) (hk : ∀ g, v.ownBlock = some g → g < w.heap.size → w'.heap[g]? = w.heap[g]?) : Toks base w' v ts := by
  obtain ⟨h1, h2 | ⟨g, cap, cur, rfl, hg, hh, hr⟩⟩ := h
  · exact ⟨h1, .inl h2⟩
  · have hlt : g < w.heap.size := by
      rcases Nat.lt_or_ge g w.heap.size with hlt | hge
      · exact hlt
      · rw [Array.getElem?_eq_none hge] at hh; simp at hh
    exact ⟨h1, .inr ⟨g, cap, cur, rfl, hg, by rw [hk g rfl hlt]; exact hh, hr⟩⟩

theorem Toks.below {base : Nat} {w w' : World} {v : Value} {ts : List Tk} (h : Toks base w v ts) (hb : Below w.heap.size w w') : Toks base w' v ts :=
  h.keep fun g _ hlt => hb.block g hlt

theorem Toks.low {base base' : Nat} {w : World} {v : Value} {ts : List Tk} (h : Toks base w v ts) (hb : base' ≤ base) : Toks base' w v ts := by
  obtain ⟨h1, h2 | ⟨g, cap, cur, rfl, hg, hh, hr⟩⟩ := h
  · exact ⟨h1, .inl h2⟩
  · exact ⟨h1, .inr ⟨g, cap, cur, rfl, by omega, hh, hr⟩⟩

theorem Toks.block {base : Nat} {w : World} {v : Value} {ts : List Tk} (h : Toks base w v ts) : ∀ k, v.ownBlock = some k → base ≤ k := by
  intro k hk
  obtain ⟨_, ⟨rfl, _⟩ | ⟨g, cap, cur, rfl, hg, _⟩⟩ := h
  · simp [Value.ownBlock] at hk
  · simp [Value.ownBlock] at hk
    omega

/-- What a row of tokens is known by when it is read. -/
theorem Toks.open {base : Nat} {w : World} {v : Value} {ts : List Tk} (h : Toks base w v ts) :
    (v = .slice none 0 0 ∧ ts = []) ∨ ∃ g cap, v = .slice (some ⟨g, 0, none⟩) ts.length cap ∧ base ≤ g ∧ g < w.heap.size ∧ ts.length ≤ cap ∧ cap ≤ maxLen ∧ (∀ i t, ts[i]? = some t → w.rangeAt g (i * 5) t.cells) ∧ (∀ i, i < ts.length → w.there g (i * 5) 5) := by
  obtain ⟨h1, ⟨rfl, h2⟩ | ⟨g, cap, cur, rfl, hg, hh, hc, hm, hs, ht⟩⟩ := h
  · exact .inl ⟨rfl, List.length_eq_zero_iff.1 h2⟩
  · have hlt : g < w.heap.size := by
      rcases Nat.lt_or_ge g w.heap.size with hlt | hge
      · exact hlt
      · rw [Array.getElem?_eq_none hge] at hh; simp at hh
    have hA : At 64 w g cur.toList := by simpa [At] using hh
    refine .inr ⟨g, cap, rfl, hg, hlt, hc, hm, ?_, ?_⟩
    · intro i t hi
      have hil : i < ts.length := (List.getElem?_eq_some_iff.1 hi).1
      have := hA.range (i * 5) 5
      have e : (cur.toList.drop (i * 5)).take 5 = t.cells := by
        rw [← flat_at ts i t hi, ← ht, List.drop_take, List.take_take]
        congr 1
        omega
      rwa [e] at this
    · intro i hi
      exact hA.there (i * 5) 5 (by rw [Array.length_toList, hs]; omega)

theorem Try.i34' : (Tryz.prog.info? 64).map (fun i => (i.zero, i.size, i.bytes)) = some (some (.agg (tok5 0 ⟨#[]⟩ 0 0 0).toArray), 5, 48) := by kernel_rfl

section
variable {ops : Array Oper} {rest : List Oper} {o : Oper} {a : Act} {w : World} {Q : Exit → Act → World → Prop}

/-- One token is laid as a row. -/
theorem wpList_slice1 (hgd : o.guard = none) (x : Operand) (ho : o.op = .buildSlice 60 1 #[(0, x)]) (K : Nat) (S : ByteArray) (p t b : Nat) (hx : a.eval x = .agg (tok5 K S p t b).toArray)
    (h : ∀ w', At 64 w' w.heap.size (tok5 K S p t b) → Below w.heap.size w w' → w'.heap.size = w.heap.size + 1 → wpList Tryz.prog ops Q rest (a.put o.dst (.slice (some ⟨w.heap.size, 0, none⟩) 1 1)) w') :
    wpList Tryz.prog ops Q (o :: rest) a w := by
  obtain ⟨ie, hi, hz0, hz1, hz2⟩ := info_parts Try.i34'
  refine wpList_buildSlice hgd 60 64 1 #[(0, x)] ho (tok5 K S p t b).toArray ie (.agg (tok5 0 ⟨#[]⟩ 0 0 0).toArray) Tryz.underlying60 hi hz0 (by rw [hz1]; decide) (by rw [hz1]; decide) ?_ ?_
  · rw [hz1]
    simp only [List.map_toArray, List.map_cons, List.map_nil, hx]
    kernel_rfl
  · exact h _ (_root_.Go.heap_alloc_new w _) ((Below.refl _ w).alloc (Nat.le_refl _) _) (by show (w.heap.push _).size = _; simp)

/-- 'tokens = append(tokens, token)', the token laid as a row. -/
theorem wpList_appT (hgd : o.guard = none) (s x : Operand) (ho : o.op = .call { callee := .builtin .append, args := #[s, x], argTypes := #[60, 60] })
    (base g : Nat) (v : Value) (ts : List Tk) (tk : Tk) (hs : a.eval s = v) (hx : a.eval x = .slice (some ⟨g, 0, none⟩) 1 1) (hown : Toks base w v ts) (hA : At 64 w g tk.cells)
    (hlen : ts.length ≤ 1048576) (hbase : base ≤ w.heap.size)
    (h : ∀ v' w', Toks base w' v' (ts ++ [tk]) → Below base w w' → wpList Tryz.prog ops Q rest (a.put o.dst v') w') :
    wpList Tryz.prog ops Q (o :: rest) a w := by
  obtain ⟨ie, hi, hz0, hz1, hz2⟩ := info_parts Try.i34'
  refine wpList_append_own_at w hgd s x 60 ho base 64 ie (.agg (tok5 0 ⟨#[]⟩ 0 0 0).toArray) 5 48 Tryz.underlying60 hi hz0 hz1 hz2 rfl (by decide) v ts.length (flat ts) hs hown
    ⟨g, 0, none⟩ 1 1 tk.cells hx rfl ?_ ?_ ?_ ?_ hbase ?_
  · intro j u hj
    rw [Addr.add_mid, hA.cell, Nat.zero_add]; exact hj
  · intro u hu
    simp [Tk.cells] at hu
    rcases hu with rfl | rfl | rfl | rfl | rfl <;> rfl
  · unfold maxLen; omega
  · omega
  · intro v' w' h1 h2 _ _
    refine h v' w' ?_ ?_
    · have e : flat (ts ++ [tk]) = flat ts ++ tk.cells := by rw [flat_append]; simp [flat]
      unfold Toks
      rw [e, List.length_append]
      exact h1
    · exact (Below.refl base w).grown h2 hbase hown.block
end

end Go.Proofs.YtjgggmjjikopeaaGreatDoor

/- lex.lineEnd and lex.skip: what is passed over. -/
namespace Go.Proofs.YtjgggmjjikopeaaGreatDoor
open Go.RowKit
set_option linter.unusedVariables false

/-- How many bytes stand ahead of the next byte 10, or of the end. -/
def lnN : List UInt8 → Nat
  | [] => 0
  | c :: r => if c.toNat = 10 then 0 else lnN r + 1

theorem u8_eq {c d : UInt8} : c = d ↔ c.toNat = d.toNat := UInt8.toNat_inj.symm

theorem lnN_le (l : List UInt8) : lnN l ≤ l.length := by
  induction l with
  | nil => simp [lnN]
  | cons c r ih => simp only [lnN]; split <;> simp; omega

theorem lnN_index (l : List UInt8) : (Lib.indexByte l 10 = -1 ∧ lnN l = l.length) ∨ Lib.indexByte l 10 = (lnN l : Int) := by
  induction l with
  | nil => exact .inl ⟨rfl, rfl⟩
  | cons c r ih =>
    simp only [Lib.indexByte, lnN]
    by_cases h : c.toNat = 10
    · have : (c == 10) = true := by rw [beq_iff_eq, u8_eq]; exact h
      simp [this, h]
    · have : (c == 10) = false := by rw [beq_eq_false_iff_ne, ne_eq, u8_eq]; exact h
      have ge := Lib.indexByte_ge r 10
      rcases ih with ⟨h1, h2⟩ | h1
      · left; simp [this, h, h1, h2]
      · right
        have hne : (Lib.indexByte r 10 == -1) = false := by rw [beq_eq_false_iff_ne]; omega
        simp [this, h, h1]

theorem skF_true (l : List UInt8) : skF true l = lnN l + skF false (l.drop (lnN l)) := by
  induction l with
  | nil => rfl
  | cons c r ih =>
    simp only [lnN]
    by_cases h : c.toNat = 10
    · simp [skF, h, isBl]
    · simp only [skF, h, if_false, ih, List.drop_succ_cons]
      omega

theorem sk_blank (s : ByteArray) (k : Nat) (hk : k < s.size) (h : isBl s[k].toNat = true) : k + skN ((bytes s).drop k) = k + 1 + skN ((bytes s).drop (k + 1)) := by
  rw [drop_at s k hk]
  simp only [skN, skF, h, if_true]
  omega

theorem sk_note (s : ByteArray) (k : Nat) (hk : k < s.size) (h : s[k].toNat = 35) : k + skN ((bytes s).drop k) = k + lnN ((bytes s).drop k) + skN ((bytes s).drop (k + lnN ((bytes s).drop k))) := by
  rw [drop_at s k hk]
  have hb : isBl s[k].toNat = false := by rw [h]; rfl
  have e : lnN (s[k] :: (bytes s).drop (k + 1)) = lnN ((bytes s).drop (k + 1)) + 1 := by simp [lnN, h]
  rw [e]
  simp only [skN, skF, h, if_true, skF_true, List.drop_drop]
  rw [show k + (lnN ((bytes s).drop (k + 1)) + 1) = k + 1 + lnN ((bytes s).drop (k + 1)) by omega, show isBl 35 = false from rfl]
  simp only [Bool.false_eq_true, if_false]
  omega

theorem sk_none (s : ByteArray) (k : Nat) (hk : k < s.size) (hb : isBl s[k].toNat = false) (h : ¬ s[k].toNat = 35) : skN ((bytes s).drop k) = 0 := by
  rw [drop_at s k hk]
  simp [skN, skF, hb, h]

theorem sk_end (s : ByteArray) (k : Nat) (hk : ¬ k < s.size) : skN ((bytes s).drop k) = 0 := by
  rw [drop_end s k hk]; rfl

theorem lineEnd_any (s : ByteArray) (k : Nat) (w : World) (hk : k ≤ s.size) (hs : s.size ≤ 1099511627776) :
    Calls Tryz.prog 85 #[.string s, .int .i64 (k : Int)] w fun e w' => e = .returned (.int .i64 ((k + lnN ((bytes s).drop k) : Nat) : Int)) ∧ w' = w := by
  have hle := lnN_le ((bytes s).drop k)
  rw [List.length_drop, bytes_length] at hle
  have hix := lnN_index ((bytes s).drop k)
  rw [List.length_drop, bytes_length] at hix
  obtain ⟨N, hN⟩ : ∃ N, Hid (N = lnN ((bytes s).drop k)) := ⟨_, (rfl : lnN ((bytes s).drop k) = _)⟩
  rw [← hN.out] at hle hix ⊢
  have hcall : ∀ w, Calls Tryz.prog 119 #[.string (s.extract k s.size), .int .u8 10] w fun e w' => e = .returned (.int .i64 (Lib.indexByte ((bytes s).drop k) 10)) ∧ w' = w := by
    intro w
    have := indexByte_any (s.extract k s.size) 10 w
    rw [show (s.extract k s.size).data.toList = bytes (s.extract k s.size) from rfl, bytes_from] at this
    exact this
  obtain ⟨I, hI⟩ : ∃ I, Hid (I = Lib.indexByte ((bytes s).drop k) 10) := ⟨_, (rfl : Lib.indexByte ((bytes s).drop k) 10 = _)⟩
  rw [← hI.out] at hix hcall
  have HC : Hid (∀ w, Calls Tryz.prog 119 #[.string (s.extract k s.size), .int .u8 10] w fun e w' => e = .returned (.int .i64 I) ∧ w' = w) := hcall
  clear hcall
  rcases hix with ⟨rfl, h2⟩ | rfl
  · go_enter Tryz.func85, Tryz.ntmps85
    go_wp2_with (first | (go_at_call 119; refine (HC.out _).mono ?_; rintro e w1 ⟨rfl, rfl⟩))
    go_ret
    exact ⟨by rw [h2, show k + (s.size - k) = s.size by omega]; rfl, rfl⟩
  · go_enter Tryz.func85, Tryz.ntmps85
    go_wp2_with (first | (go_at_call 119; refine (HC.out _).mono ?_; rintro e w1 ⟨rfl, rfl⟩))
    go_ret
    exact ⟨by go_num, rfl⟩

set_option maxRecDepth 100000 in
set_option maxHeartbeats 800000 in
theorem skip_any (s : ByteArray) (k : Nat) (w : World) (hk : k ≤ s.size) (hs : s.size ≤ 1099511627776) :
    Calls Tryz.prog 51 #[.string s, .int .i64 (k : Int)] w fun e w' => e = .returned (.int .i64 ((k + skN ((bytes s).drop k) : Nat) : Int)) ∧ w' = w := by
  obtain ⟨T, hT⟩ : ∃ T, Hid (T = k + skN ((bytes s).drop k)) := ⟨_, (rfl : k + skN ((bytes s).drop k) = _)⟩
  rw [← hT.out]
  go_enter Tryz.func51, Tryz.ntmps51
  go_wp2
  go_loopw [1] (fun j wr => ∃ i : Nat, j = .int .i64 (i : Int) ∧ i ≤ s.size ∧ Hid (i + skN ((bytes s).drop i) = T) ∧ wr = w) (fun j _ => s.size - (intOf j).toNat)
  case atStart => exact ⟨k, rfl, hk, hT.out.symm, rfl⟩
  case round =>
    obtain ⟨i, rfl, hi, hr, rfl⟩ := hrel
    by_cases hc : i < s.size
    · by_cases hb : isBl s[i].toNat = true
      · have hr' : Hid (i + 1 + skN ((bytes s).drop (i + 1)) = T) := by show _ = _; rw [← hr.out]; exact (sk_blank s i hc hb).symm
        clear hr
        have hb' : (s[i].toNat : Int) = 9 ∨ (s[i].toNat : Int) = 10 ∨ (s[i].toNat : Int) = 13 ∨ (s[i].toNat : Int) = 32 := by
          simp only [isBl, Bool.or_eq_true, decide_eq_true_eq] at hb; omega
        obtain ⟨c, hcc⟩ : ∃ c : Int, c = (s[i].toNat : Int) := ⟨_, rfl⟩
        rw [← hcc] at hb'
        rcases hb' with h | h | h | h
        all_goals
          have hcb : (s[i].toNat : Int) = c := hcc.symm
          rw [h] at hcb
          clear hb hcc
          go_wp2
          go_roundw
          case rel => exact ⟨i + 1, by go_num, by omega, hr', trivial⟩
          case measure => simp [intOf]; omega
      · have hb' : ¬ (s[i].toNat : Int) = 9 ∧ ¬ (s[i].toNat : Int) = 10 ∧ ¬ (s[i].toNat : Int) = 13 ∧ ¬ (s[i].toNat : Int) = 32 := by
          simp only [isBl, Bool.or_eq_true, decide_eq_true_eq] at hb; omega
        obtain ⟨h1, h2, h3, h4⟩ := hb'
        by_cases hn : s[i].toNat = 35
        · have hL : Hid (i + lnN ((bytes s).drop i) + skN ((bytes s).drop (i + lnN ((bytes s).drop i))) = T) := by show _ = _; rw [← hr.out]; exact (sk_note s i hc hn).symm
          have hle := lnN_le ((bytes s).drop i)
          rw [List.length_drop, bytes_length] at hle
          have hpos : 1 ≤ lnN ((bytes s).drop i) := by rw [drop_at s i hc]; simp [lnN, hn]
          have hcl := lineEnd_any s i wr (by omega) hs
          obtain ⟨N, hN⟩ : ∃ N, Hid (N = lnN ((bytes s).drop i)) := ⟨_, (rfl : lnN ((bytes s).drop i) = _)⟩
          have hL2 : Hid (i + N + skN ((bytes s).drop (i + N)) = T) := by show _ = _; rw [hN.out]; exact hL.out
          rw [← hN.out] at hle hpos hcl
          have HCL : Hid (Calls Tryz.prog 85 #[.string s, .int .i64 (i : Int)] wr fun e w' => e = .returned (.int .i64 ((i + N : Nat) : Int)) ∧ w' = wr) := hcl
          clear hL hcl hr hb
          have hn' : (s[i].toNat : Int) = 35 := by omega
          go_wp2_with (first | (go_at_call 85; refine (HCL.out).mono ?_; rintro e w1 ⟨rfl, rfl⟩))
          go_roundw
          case rel => exact ⟨i + N, rfl, by omega, hL2, trivial⟩
          case measure => simp [intOf]; omega
        · have hz := sk_none s i hc (by simpa using hb) hn
          have hfin : Hid (i = T) := by show _ = _; have := hr.out; omega
          have h5 : ¬ (s[i].toNat : Int) = 35 := by omega
          clear hb hz hr
          go_wp2
          go_ret
          exact ⟨by rw [← hfin.out]; rfl, rfl⟩
    · have hz := sk_end s i hc
      have hfin : Hid (i = T) := by show _ = _; have := hr.out; omega
      clear hz hr
      go_wp2
      go_ret
      exact ⟨by rw [hfin.out]; rfl, rfl⟩

end Go.Proofs.YtjgggmjjikopeaaGreatDoor

/- lex.Lex: the tokens of a text, or its first fault. -/
namespace Go.Proofs.YtjgggmjjikopeaaGreatDoor
open Go.RowKit
set_option linter.unusedVariables false

/-- A fault's two cells. -/
def fa2 (e p : Nat) : List Value := [.int .i64 (e : Int), .int .i64 (p : Int)]
theorem z25 : (Tryz.prog.info? 29).map (fun i => (i.zero, i.size)) = some (some (.agg (fa2 0 0).toArray), 2) := by kernel_rfl
theorem i25 : (Tryz.prog.info? 29).map (·.size) = some 2 := by kernel_rfl
theorem one2f (e p : Nat) : ∀ v ∈ fa2 e p, v.oneCell' = true := by intro v hv; simp [fa2] at hv; rcases hv with rfl | rfl <;> rfl

theorem lexA_place (l : List UInt8) (f p : Nat) : (lexA l f p).err = 0 → (lexA l f p).place = 0 := by
  induction f generalizing p with
  | zero => intro _; rfl
  | succ f ih =>
    simp only [lexA]
    split
    · intro _; rfl
    · split
      · next h => intro h0; exact absurd h0 h
      · split
        · intro h0; simp at h0
        · intro h0
          simp only [Out.ahead] at h0 ⊢
          split
          · rfl
          · next h => rw [if_neg h] at h0; exact absurd h0 h

/-- What Lex answers, and what it leaves. -/
def LexPost (w : World) (O : Out) (e : Ending) (w' : World) : Prop :=
  ∃ v, e = .returned (.tuple #[v, .agg (fa2 O.err O.place).toArray]) ∧ Toks w.heap.size w' v O.toks ∧ Below w.heap.size w w'

theorem clings_at (K : Nat) (s : ByteArray) (k : Nat) (w : World) (b : Bool) (hb : clB K ((bytes s).drop k) = b) : Calls Tryz.prog 53 #[.int .i64 (K : Int), .string (s.extract k s.size)] w fun e w' => e = .returned (.bool b) ∧ w' = w := by
  have := clings_any K (s.extract k s.size) w
  rw [bytes_from, hb] at this
  exact this

theorem cells_tok5 (K : Nat) (s : ByteArray) (k n : Nat) : tok5 K (s.extract k (k + n)) k (valT K) (valB K (((bytes s).drop k).take n)) = (tkOf K (((bytes s).drop k).take n) k).cells := by
  have hbS : bytes (s.extract k (k + n)) = ((bytes s).drop k).take n := by rw [bytes_extract, Nat.add_sub_cancel_left]
  have := mk_bytes (s.extract k (k + n))
  rw [hbS] at this
  simp only [tok5, tkOf, Tk.cells, this]

set_option maxRecDepth 100000 in
set_option maxHeartbeats 1600000 in
theorem lex_any (s : ByteArray) (w : World) (hmax : s.size ≤ 9223372036854775807) (hE : ErrR w) :
    Calls Tryz.prog 22 #[.string s] w fun e w' => LexPost w (lexS (bytes s)) e w' := by
  by_cases hlong : 16384 < s.size
  · have hO : lexS (bytes s) = ⟨[], 3, 16384⟩ := by simp only [lexS, bytes_length, hlong, if_true]
    rw [hO]
    go_enter Tryz.func22, Tryz.ntmps22
    go_wp2_with (first | ((with_reducible show wpList _ _ _ _ _ _); refine wpList_alloc_at rfl 29 rfl (fa2 0 0) 2 z25 ?_; intro w1 hA1 hb1 hs1) | ((with_reducible show wpList _ _ _ _ _ _); refine wpList_build_at rfl 29 _ rfl (fa2 3 16384) (by kernel_rfl) ?_) | ((with_reducible show wpList _ _ _ _ _ _); refine wpList_store_at (P := Tryz.prog) rfl 29 (.tmp 3) (.tmp 11) rfl w.heap.size (fa2 3 16384) rfl rfl 29 (fa2 0 0) hA1 i25 rfl (one2f _ _) ?_; intro w9 hA9 hb9 hs9))
    refine bodyPost_ret (results_tmp_at rfl _ _ w.heap.size 29 (fa2 3 16384) _ rfl hA9 Tryz.underlying29 rfl i25) rfl ?_
    exact ⟨_, rfl, Toks.nil _ _, hb9.below hb1 (Nat.le_refl _) (by omega)⟩
  · obtain ⟨O, hO⟩ : ∃ O, Hid (O = lexS (bytes s)) := ⟨_, (rfl : lexS (bytes s) = _)⟩
    have hO2 : Hid (O = lexA (bytes s) (s.size + 1) (skN (bytes s))) := by show _ = _; rw [hO.out, lexS, bytes_length, if_neg hlong]
    rw [← hO.out]
    have hsk := skF_le false (bytes s)
    rw [bytes_length] at hsk
    have hs16 : s.size ≤ 16384 := by omega
    have hskip0 := fun w => skip_any s 0 w (by omega) (by omega)
    rw [List.drop_zero, Nat.zero_add] at hskip0
    obtain ⟨p0, hp0⟩ : ∃ p0, Hid (p0 = skN (bytes s)) := ⟨_, (rfl : skN (bytes s) = _)⟩
    have hp0le : p0 ≤ s.size := by rw [hp0.out]; exact hsk
    rw [← hp0.out] at hskip0
    have HSK0 : Hid (∀ w, Calls Tryz.prog 51 #[.string s, .int .i64 0] w fun e w' => e = .returned (.int .i64 (p0 : Int)) ∧ w' = w) := hskip0
    clear hskip0 hsk
    go_enter Tryz.func22, Tryz.ntmps22
    go_wp2_with (first | ((with_reducible show wpList _ _ _ _ _ _); refine wpList_alloc_at rfl 29 rfl (fa2 0 0) 2 z25 ?_; intro w1 hA1 hb1 hs1))
    refine (HSK0.out _).mono ?_
    rintro e w1' ⟨rfl, hw1⟩
    rw [hw1]
    clear hw1
    have hE1 : ErrR w1 := hE.below hb1
    go_wp2
    go_loopw [4, 5] (fun v p wr => ∃ (i f : Nat) (acc : List Tk), p = .int .i64 (i : Int) ∧ i ≤ s.size ∧ s.size < f + i ∧ acc.length ≤ i ∧ Hid ((lexA (bytes s) f i).ahead acc = O) ∧ Toks w1.heap.size wr v acc ∧ Below w1.heap.size w1 wr) (fun _ p _ => s.size - (intOf p).toNat)
    case atStart => exact ⟨p0, s.size + 1, [], rfl, hp0le, by omega, by simp, by
      show _ = _
      rw [hO2.out, ← hp0.out]
      refine Out.ahead_nil _ ?_
      exact lexA_place _ _ _, Toks.nil _ _, Below.refl _ _⟩
    case round =>
      obtain ⟨i, f, acc, rfl, hi, hf, hal, hr, hown, hbl⟩ := hrel
      have hEr : ErrR wr := hE1.below hbl
      have hAr : At 29 wr w.heap.size (fa2 0 0) := by
        unfold At; rw [hbl.block w.heap.size (by omega)]; exact hA1
      have hbw : Below w.heap.size w wr := hb1.trans (hbl.mono (by omega))
      by_cases hc : i < s.size
      · obtain ⟨f', rfl⟩ : ∃ f', f = f' + 1 := ⟨f - 1, by omega⟩
        obtain ⟨K, n, hKn⟩ : ∃ K n, endOf ((bytes s).drop i) = (K, n) := ⟨_, _, rfl⟩
        have hbd := endOf_bounds ((bytes s).drop i) (by rw [List.length_drop, bytes_length]; omega)
        rw [hKn, List.length_drop, bytes_length] at hbd
        obtain ⟨hn1, hn2, hKs⟩ := hbd
        simp only [] at hn1 hn2
        clear hKs
        have hle : i + n ≤ s.size := by omega
        have hlA := lexA_err (bytes s) f' i (by rw [bytes_length]; exact hc)
        have hlC := lexA_clings (bytes s) f' i (by rw [bytes_length]; exact hc)
        have hlS := lexA_step (bytes s) f' i (by rw [bytes_length]; exact hc)
        rw [hKn] at hlA hlC hlS
        simp only [] at hlA hlC hlS
        have htok := tokenAt_any s i K n wr hc (by omega) hEr hKn
        unfold TokPost at htok
        rw [cells_tok5] at htok
        have hcl := clings_at K s (i + n)
        have hx5 := cells_tok5 K s i n
        obtain ⟨S, hS⟩ : ∃ S, Hid (S = s.extract i (i + n)) := ⟨_, (rfl : s.extract i (i + n) = _)⟩
        have hSz : S.size = n := by rw [hS.out, ← bytes_length, bytes_extract, Nat.add_sub_cancel_left, List.length_take, List.length_drop, bytes_length]; omega
        obtain ⟨x, hx⟩ : ∃ x, Hid (x = ((bytes s).drop i).take n) := ⟨_, (rfl : ((bytes s).drop i).take n = _)⟩
        rw [← hx.out] at hlA hlC hlS htok hx5
        rw [← hS.out] at hx5
        have HX5 : Hid ((tkOf K x i).cells = tok5 K S i (valT K) (valB K x)) := hx5.symm
        clear hx5 hKn
        by_cases he : errOf K x = 0
        · rw [if_pos he, he, HX5.out] at htok
          obtain ⟨T, hT⟩ : ∃ T, Hid (T = valT K) := ⟨_, (rfl : valT K = _)⟩
          obtain ⟨V, hV⟩ : ∃ V, Hid (V = valB K x) := ⟨_, (rfl : valB K x = _)⟩
          rw [← hT.out, ← hV.out] at htok
          have HX6 : Hid ((tkOf K x i).cells = tok5 K S i T V) := by show _ = _; rw [HX5.out, hT.out, hV.out]
          have HTOK : Hid (Calls Tryz.prog 52 #[.string s, .int .i64 (i : Int)] wr fun e w' => e = .returned (.tuple #[.agg (tok5 K S i T V).toArray, .int .i64 ((0 : Nat) : Int)]) ∧ Below wr.heap.size wr w') := htok
          clear htok hlA
          cases hcb : clB K ((bytes s).drop (i + n))
          · have HO : Hid (O = (lexA (bytes s) f' (i + n + skN ((bytes s).drop (i + n)))).ahead (acc ++ [tkOf K x i])) := by
              show _ = _
              rw [← hr.out, hlS he hcb, Out.ahead_ahead]
            have HCL : Hid (∀ w, Calls Tryz.prog 53 #[.int .i64 (K : Int), .string (s.extract (i + n) s.size)] w fun e w' => e = .returned (.bool false) ∧ w' = w) := fun w => hcl w false hcb
            have hskle := skF_le false ((bytes s).drop (i + n))
            rw [List.length_drop, bytes_length] at hskle
            have hskc := fun w => skip_any s (i + n) w hle (by omega)
            obtain ⟨q0, hq0⟩ : ∃ q0, Hid (q0 = skN ((bytes s).drop (i + n))) := ⟨_, (rfl : skN ((bytes s).drop (i + n)) = _)⟩
            have hq0le : q0 ≤ s.size - (i + n) := by rw [hq0.out]; exact hskle
            rw [← hq0.out] at hskc
            have HSKC : Hid (∀ w, Calls Tryz.prog 51 #[.string s, .int .i64 ((i + n : Nat) : Int)] w fun e w' => e = .returned (.int .i64 ((i + n + q0 : Nat) : Int)) ∧ w' = w) := hskc
            have HO2 : Hid (O = (lexA (bytes s) f' (i + n + q0)).ahead (acc ++ [tkOf K x i])) := by show _ = _; rw [HO.out, hq0.out]
            clear hskc hskle hcl hlC hlS hcb HO hr he
            go_wp2_with fail
            refine (HTOK.out).mono ?_
            rintro e wA ⟨rfl, hbA⟩
            go_wp2_with (first | ((with_reducible show wpList _ _ _ _ _ _); refine wpList_alloc_at rfl 64 rfl (tok5 0 ⟨#[]⟩ 0 0 0) 5 z34 ?_; intro wB hAB hbB hsB) | ((with_reducible show wpList _ _ _ _ _ _); refine wpList_store_at (P := Tryz.prog) rfl 64 (.tmp 6) (.tmp 25) rfl wA.heap.size (tok5 K S i T V) rfl rfl 64 (tok5 0 ⟨#[]⟩ 0 0 0) hAB i34 rfl (one5T _ _ _ _ _) ?_; intro wC hAC hbC hsC; refine Hid.out ?_))
            refine Lib.hid ?_
            have hbCw : Below wr.heap.size wr wC := hbC.below (hbA.trans (hbB.mono hbA.size)) hbA.size (by have := hbA.size; omega)
            have hownC := hown.below hbCw
            have hcell0 : wC.cell? ⟨wA.heap.size, 0, none⟩ = some (.int .i64 (K : Int)) := by rw [hAC.cell]; rfl
            have hcell1 : wC.cell? ⟨wA.heap.size, 1, none⟩ = some (.string S) := by rw [hAC.cell]; rfl
            have hbl2 : Below w1.heap.size w1 wC := hbl.trans (hbCw.mono hbl.size)
            clear hAB hbB hbC hbA hbCw
            go_wp2_with fail
            go_quiet (first | (go_at_call 53; exact Calls.quiet_of_same (HCL.out _)))
            have hszC : w1.heap.size ≤ wC.heap.size := hbl2.size
            go_wp2_with (first | ((with_reducible show wpList _ _ _ _ _ _); refine wpList_load_at (P := Tryz.prog) rfl 64 (.tmp 6) rfl wA.heap.size rfl 64 (tok5 K S i T V) (hAC.drewN _) _ Tryz.underlying64 rfl i34 ?_) | ((with_reducible show wpList _ _ _ _ _ _); refine wpList_slice1 rfl (.tmp 46) rfl K S i T V rfl ?_; intro wD hAD hbD hsD) | ((with_reducible show wpList _ _ _ _ _ _); refine wpList_appT rfl (.tmp 45) (.tmp 47) rfl w1.heap.size wC.heap.size _ acc (tkOf K x i) rfl rfl ((show Toks w1.heap.size (wC.drewN _) u4 acc from hownC).below hbD) (by rw [HX6.out]; exact hAD) (by omega) (by have := hbD.size; exact Nat.le_trans hszC this) ?_; intro v' wE hownE hbE; refine Hid.out ?_))
            refine Lib.hid ?_
            have hbE2 : Below w1.heap.size w1 wE := (hbl2.trans (show Below w1.heap.size wC wD from ⟨hbD.os, hbD.tape, hbD.output, hbD.size, fun k hk => hbD.block k (Nat.lt_of_lt_of_le hk hszC)⟩)).trans hbE
            clear hAD hbD hbE hAC hbl2 hownC
            go_wp2_with (first | (go_at_call 51; refine (HSKC.out _).mono ?_; rintro e wF ⟨rfl, rfl⟩))
            go_roundw
            case rel => exact ⟨i + n + q0, f', acc ++ [tkOf K x i], rfl, by omega, by omega, by simp; omega, HO2.out.symm, hownE, hbE2⟩
            case measure => simp [intOf]; omega
          · have HO : Hid (O = ⟨[], 4, i + n⟩) := by
              show _ = _
              rw [← hr.out, hlC he hcb]
              rfl
            have HCL : Hid (∀ w, Calls Tryz.prog 53 #[.int .i64 (K : Int), .string (s.extract (i + n) s.size)] w fun e w' => e = .returned (.bool true) ∧ w' = w) := fun w => hcl w true hcb
            clear hcl hlC hlS hcb hr he
            go_wp2_with fail
            refine (HTOK.out).mono ?_
            rintro e wA ⟨rfl, hbA⟩
            go_wp2_with (first | ((with_reducible show wpList _ _ _ _ _ _); refine wpList_alloc_at rfl 64 rfl (tok5 0 ⟨#[]⟩ 0 0 0) 5 z34 ?_; intro wB hAB hbB hsB) | ((with_reducible show wpList _ _ _ _ _ _); refine wpList_store_at (P := Tryz.prog) rfl 64 (.tmp 6) (.tmp 25) rfl wA.heap.size (tok5 K S i T V) rfl rfl 64 (tok5 0 ⟨#[]⟩ 0 0 0) hAB i34 rfl (one5T _ _ _ _ _) ?_; intro wC hAC hbC hsC; refine Hid.out ?_))
            refine Lib.hid ?_
            have hbCw : Below wr.heap.size wr wC := hbC.below (hbA.trans (hbB.mono hbA.size)) hbA.size (by have := hbA.size; omega)
            have hcell0 : wC.cell? ⟨wA.heap.size, 0, none⟩ = some (.int .i64 (K : Int)) := by rw [hAC.cell]; rfl
            have hcell1 : wC.cell? ⟨wA.heap.size, 1, none⟩ = some (.string S) := by rw [hAC.cell]; rfl
            have hArC := hAr.below hbCw
            have hbwC := hbw.trans (hbCw.mono hbw.size)
            clear hAB hbB hbC hbA hbCw
            go_wp2_with fail
            go_quiet (first | (go_at_call 53; exact Calls.quiet_of_same (HCL.out _)))
            go_wp2_with (first | ((with_reducible show wpList _ _ _ _ _ _); refine wpList_build_at rfl 29 _ rfl (fa2 4 (i + n)) (by kernel_rfl) ?_) | ((with_reducible show wpList _ _ _ _ _ _); refine wpList_store_at (P := Tryz.prog) rfl 29 (.tmp 3) (.tmp 44) rfl w.heap.size (fa2 4 (i + n)) rfl rfl 29 (fa2 0 0) (hArC.drewN _) i25 rfl (one2f _ _) ?_; intro w9 hA9 hb9 hs9))
            refine bodyPost_ret (results_tmp_at rfl _ _ w.heap.size 29 (fa2 4 (i + n)) _ rfl hA9 Tryz.underlying29 rfl i25) rfl ?_
            exact ⟨_, by rw [HO.out], by rw [HO.out]; exact Toks.nil _ _, (show But w.heap.size wC w9 from ⟨hb9.os, hb9.tape, hb9.output, hb9.size, hb9.block⟩).below hbwC (Nat.le_refl _) hbwC.size⟩
        · have HO : Hid (O = ⟨[], errOf K x, i⟩) := by
            show _ = _
            rw [← hr.out, hlA he, Out.ahead, if_neg he]
          obtain ⟨E, hEE⟩ : ∃ E, Hid (E = errOf K x) := ⟨_, (rfl : errOf K x = _)⟩
          rw [if_neg he] at htok
          rw [← hEE.out] at htok he
          have HO2 : Hid (O = ⟨[], E, i⟩) := by show _ = _; rw [HO.out, hEE.out]
          have HTOK : Hid (Calls Tryz.prog 52 #[.string s, .int .i64 (i : Int)] wr fun e w' => e = .returned (.tuple #[.agg (tok5 0 ⟨#[]⟩ 0 0 0).toArray, .int .i64 (E : Int)]) ∧ Below wr.heap.size wr w') := htok
          have hne : ((E : Int) != 0) = true := by simp; omega
          clear htok hlA hlC hlS hcl hr HO
          go_wp2_with fail
          refine (HTOK.out).mono ?_
          rintro e wA ⟨rfl, hbA⟩
          go_wp2_with (first | ((with_reducible show wpList _ _ _ _ _ _); refine wpList_alloc_at rfl 64 rfl (tok5 0 ⟨#[]⟩ 0 0 0) 5 z34 ?_; intro wB hAB hbB hsB) | ((with_reducible show wpList _ _ _ _ _ _); refine wpList_store_at (P := Tryz.prog) rfl 64 (.tmp 6) (.tmp 25) rfl wA.heap.size (tok5 0 ⟨#[]⟩ 0 0 0) rfl rfl 64 (tok5 0 ⟨#[]⟩ 0 0 0) hAB i34 rfl (one5T _ _ _ _ _) ?_; intro wC hAC hbC hsC; refine Hid.out ?_))
          refine Lib.hid ?_
          have hbCw : Below wr.heap.size wr wC := hbC.below (hbA.trans (hbB.mono hbA.size)) hbA.size (by have := hbA.size; omega)
          have hArC := hAr.below hbCw
          have hbwC := hbw.trans (hbCw.mono hbw.size)
          clear hAB hbB hbC hbA hbCw
          go_wp2_with (first | ((with_reducible show wpList _ _ _ _ _ _); refine wpList_build_at rfl 29 _ rfl (fa2 E i) (by kernel_rfl) ?_) | ((with_reducible show wpList _ _ _ _ _ _); refine wpList_store_at (P := Tryz.prog) rfl 29 (.tmp 3) (.tmp 31) rfl w.heap.size (fa2 E i) rfl rfl 29 (fa2 0 0) hArC i25 rfl (one2f _ _) ?_; intro w9 hA9 hb9 hs9))
          refine bodyPost_ret (results_tmp_at rfl _ _ w.heap.size 29 (fa2 E i) _ rfl hA9 Tryz.underlying29 rfl i25) rfl ?_
          exact ⟨_, by rw [HO2.out], by rw [HO2.out]; exact Toks.nil _ _, hb9.below hbwC (Nat.le_refl _) hbwC.size⟩
      · have hend : Hid (O = ⟨acc, 0, 0⟩) := by
          show _ = _
          rw [← hr.out, lexA_end _ _ _ (by rw [bytes_length]; omega)]
          simp [Out.ahead]
        go_wp2_with (first | ((with_reducible show wpList _ _ _ _ _ _); refine wpList_build_at rfl 29 _ rfl (fa2 0 0) (by kernel_rfl) ?_) | ((with_reducible show wpList _ _ _ _ _ _); refine wpList_store_at (P := Tryz.prog) rfl 29 (.tmp 3) (.tmp 50) rfl w.heap.size (fa2 0 0) rfl rfl 29 (fa2 0 0) hAr i25 rfl (one2f _ _) ?_; intro w9 hA9 hb9 hs9))
        refine bodyPost_ret (results_tmp_at rfl _ _ w.heap.size 29 (fa2 0 0) _ rfl hA9 Tryz.underlying29 rfl i25) rfl ?_
        refine ⟨_, by rw [hend.out], by rw [hend.out]; exact Toks.low (base := w1.heap.size) (hown.keep fun g hg hlt => hb9.block g hlt (by have := hown.block g hg; omega)) (by omega), hb9.below hbw (Nat.le_refl _) hbw.size⟩

end Go.Proofs.YtjgggmjjikopeaaGreatDoor

/- The document's own Parse: it answers as the code's does. -/
namespace Go.Proofs.YtjgggmjjikopeaaGreatDoor
open Go.RowKit
set_option linter.unusedVariables false

/-- Where the digits' loop stands. -/
def place (p i : Nat) : Nat := if i ≤ p then i else i - 1

end Go.Proofs.YtjgggmjjikopeaaGreatDoor

/- The document's own Parse, walked. -/
namespace Go.Proofs.YtjgggmjjikopeaaGreatDoor
open Go.RowKit
set_option linter.unusedVariables false

end Go.Proofs.YtjgggmjjikopeaaGreatDoor

/- The document's own blank, run, whole and sign. -/
namespace Go.Proofs.YtjgggmjjikopeaaGreatDoor
open Go.RowKit
set_option linter.unusedVariables false

end Go.Proofs.YtjgggmjjikopeaaGreatDoor

/- The document's own whole and sign. -/
namespace Go.Proofs.YtjgggmjjikopeaaGreatDoor
open Go.RowKit
set_option linter.unusedVariables false

end Go.Proofs.YtjgggmjjikopeaaGreatDoor

/- The document's own sign: the longest sign that begins at a place. -/
namespace Go.Proofs.YtjgggmjjikopeaaGreatDoor
open Go.RowKit
set_option linter.unusedVariables false

end Go.Proofs.YtjgggmjjikopeaaGreatDoor

/- One cell stored into a known block; two structs handed back. -/
namespace Go.Proofs.YtjgggmjjikopeaaGreatDoor
open Go.RowKit
set_option linter.unusedVariables false

theorem run_storeVar_cell {P : Program} (w : World) (b o : Nat) (ty : TypeId) (v : Value) (ht : w.there b o 1) (hi : (P.info? ty).map (·.size) = some 1) (hc : v.cells = #[v]) (h1 : v.oneCell' = true) :
    (storeVar ty ⟨b, o, none⟩ v).run P w = .ok () (w.setCell ⟨b, o, none⟩ v) := by
  have := run_storeCells_cells (P := P) b o [v] 0 w (fun j hj => by simpa using (ht j (by simpa using hj)).1) (fun j hj => by simpa using (ht j (by simpa using hj)).2) (fun u hu => by simp at hu; subst hu; exact h1)
  cases hq : P.info? ty with
  | none => simp [hq] at hi
  | some i =>
    have hs : i.size = 1 := by simp [hq] at hi; omega
    simp only [Nat.add_zero] at this
    simp [storeVar, sizeOf, typeInfo, hq, hc, hs, this, World.setCells]

/-- One cell is stored into a block that is known. -/
theorem wpList_store_one {P : Program} {ops : Array Oper} {rest : List Oper} {o : Oper} {a : Act} {w : World} {Q : Exit → Act → World → Prop} (hgd : o.guard = none) (ty : TypeId) (x y : Operand) (ho : o.op = .store ty x y)
    (g off : Nat) (v : Value) (hx : a.eval x = .pointer (some ⟨g, off, none⟩)) (hy : a.eval y = v)
    (t : TypeId) (old : List Value) (hg : At t w g old) (hold : off + 1 ≤ old.length) (hi : (P.info? ty).map (·.size) = some 1) (hc : v.cells = #[v]) (h1 : v.oneCell' = true)
    (h : ∀ w', At t w' g (old.set off v) → But g w w' → w'.heap.size = w.heap.size → wpList P ops Q rest (a.put o.dst undef) w') : wpList P ops Q (o :: rest) a w := by
  refine wpList_plain hgd fun K hK => ?_
  have := hK _ _ (h _ (hg.set off v) ((But.refl g w).setCell off v) (by simp))
  unfold Oper.wp execOp
  simp only [ho, hx, hy, Instr.storeAt, Instr.sureAddr, Sem.run_bind, Sem.run_pure, Result.andThen_ok, run_storeVar_cell w g off ty v (hg.there off 1 hold) hi hc h1]
  exact this

theorem i3 : (Tryz.prog.info? 3).map (·.size) = some 1 := by kernel_rfl
theorem i9 : (Tryz.prog.info? 9).map (·.size) = some 1 := by kernel_rfl

end Go.Proofs.YtjgggmjjikopeaaGreatDoor

/- The document's own number, without a point (2a). -/
namespace Go.Proofs.YtjgggmjjikopeaaGreatDoor
open Go.RowKit
set_option linter.unusedVariables false

end Go.Proofs.YtjgggmjjikopeaaGreatDoor

/- The document's own number, without a point (2b). -/
namespace Go.Proofs.YtjgggmjjikopeaaGreatDoor
open Go.RowKit
set_option linter.unusedVariables false

end Go.Proofs.YtjgggmjjikopeaaGreatDoor

/- The document's own number, without a point (2c). -/
namespace Go.Proofs.YtjgggmjjikopeaaGreatDoor
open Go.RowKit
set_option linter.unusedVariables false

end Go.Proofs.YtjgggmjjikopeaaGreatDoor

/- The document's own number, with a point. -/
namespace Go.Proofs.YtjgggmjjikopeaaGreatDoor
open Go.RowKit
set_option linter.unusedVariables false

end Go.Proofs.YtjgggmjjikopeaaGreatDoor

/- The document's own one: the token at a place. -/
namespace Go.Proofs.YtjgggmjjikopeaaGreatDoor
open Go.RowKit
set_option linter.unusedVariables false

end Go.Proofs.YtjgggmjjikopeaaGreatDoor

/- The document's own Lex: the tokens of a text, or its first fault. -/
namespace Go.Proofs.YtjgggmjjikopeaaGreatDoor
open Go.RowKit
set_option linter.unusedVariables false

end Go.Proofs.YtjgggmjjikopeaaGreatDoor

/- The reader: its next token. -/
namespace Go.Proofs.YtjgggmjjikopeaaGreatDoor
open Go.RowKit
set_option linter.unusedVariables false

/-- The last token is the one without bytes. -/
def Ends (l : List Tk) : Prop := ∃ pre p, l = pre ++ [⟨0, [], p, 0⟩]
theorem Ends.ne {l : List Tk} (h : Ends l) : l ≠ [] := by
  obtain ⟨pre, p, rfl⟩ := h
  simp
theorem Ends.cons {l : List Tk} (h : Ends l) : l = hdT l :: l.tail := by
  cases l with
  | nil => exact absurd rfl h.ne
  | cons t r => rfl
theorem Ends.tail {l : List Tk} (h : Ends l) (hn : (hdT l).text ≠ [] ∨ (hdT l).kind ≠ 0) : Ends l.tail := by
  obtain ⟨pre, p, rfl⟩ := h
  cases pre with
  | nil => exact absurd hn (by simp [hdT])
  | cons t r => exact ⟨r, p, rfl⟩

/-- A reader lies in a block, its tokens in another one. -/
structure RdAt (w : World) (g gt o c : Nat) (l : List Tk) : Prop where
  cell : At 97 w g [.slice (some ⟨gt, o, none⟩) l.length c]
  ne : gt ≠ g
  cap : l.length ≤ c
  toks : w.rangeAt gt o (flat l)
  ends : Ends l
  bits : ∀ t ∈ l, t.bits < 18446744073709551616
/-- A reader, and the tokens that it has ahead. -/
def Rd (B : Nat) (w : World) (g : Nat) (l : List Tk) : Prop := ∃ gt o c, RdAt w g gt o c l ∧ gt < B ∧ g < B

theorem flat_cons (t : Tk) (r : List Tk) : flat (t :: r) = t.cells ++ flat r := rfl
theorem cells_lt {w : World} {g o : Nat} {v : Value} (h : w.cell? ⟨g, o, none⟩ = some v) : g < w.heap.size := lt_of_cell h
theorem RdAt.head {w : World} {g gt o c : Nat} {l : List Tk} (h : RdAt w g gt o c l) : w.rangeAt gt o (hdT l).cells := by
  intro j v hj
  refine h.toks j v ?_
  rw [h.ends.cons, flat_cons, List.getElem?_append_left (List.getElem?_eq_some_iff.1 hj).1]
  exact hj
theorem RdAt.gt_lt {w : World} {g gt o c : Nat} {l : List Tk} (h : RdAt w g gt o c l) : gt < w.heap.size := cells_lt (h.head 0 _ rfl)
theorem RdAt.g_lt {w : World} {g gt o c : Nat} {l : List Tk} (h : RdAt w g gt o c l) : g < w.heap.size := h.cell.lt
theorem Rd.lt {B : Nat} {w : World} {g : Nat} {l : List Tk} (h : Rd B w g l) : g < w.heap.size := by
  obtain ⟨_, _, _, h, _⟩ := h
  exact h.g_lt
theorem RdAt.below {w w' : World} {g gt o c : Nat} {l : List Tk} (h : RdAt w g gt o c l) (hb : Below w.heap.size w w') : RdAt w' g gt o c l :=
  ⟨h.cell.below hb, h.ne, h.cap, fun j v hj => by rw [World.cell?_of_block (w := w) (hb.block gt h.gt_lt)]; exact h.toks j v hj, h.ends, h.bits⟩
theorem Rd.below {B : Nat} {w w' : World} {g : Nat} {l : List Tk} (h : Rd B w g l) (hb : Below w.heap.size w w') : Rd B w' g l := by
  obtain ⟨gt, o, c, h, h2⟩ := h
  exact ⟨gt, o, c, h.below hb, h2⟩
/-- Another block is written. -/
theorem RdAt.but {w w' : World} {g gt o c k : Nat} {l : List Tk} (h : RdAt w g gt o c l) (hb : But k w w') (h1 : g ≠ k) (h2 : gt ≠ k) : RdAt w' g gt o c l :=
  ⟨hb.at h.cell h1, h.ne, h.cap, fun j v hj => by rw [World.cell?_of_block (w := w) (hb.block gt h.gt_lt h2)]; exact h.toks j v hj, h.ends, h.bits⟩

/-- A block from B on is written. -/
theorem Rd.but {B : Nat} {w w' : World} {g k : Nat} {l : List Tk} (h : Rd B w g l) (hb : But k w w') (hk : B ≤ k) : Rd B w' g l := by
  obtain ⟨gt, o, c, h, h1, h2⟩ := h
  exact ⟨gt, o, c, h.but hb (by omega) (by omega), h1, h2⟩

theorem tk_cells {w : World} {g o : Nat} {t : Tk} (h : w.rangeAt g o t.cells) : w.cell? ⟨g, o, none⟩ = some (.int .i64 (t.kind : Int)) ∧ w.cell? ⟨g, o + 1, none⟩ = some (.string ⟨t.text.toArray⟩) ∧ w.cell? ⟨g, o + 2, none⟩ = some (.int .i64 (t.place : Int)) ∧ w.cell? ⟨g, o + 3, none⟩ = some (.int .u8 (valT t.kind : Nat)) ∧ w.cell? ⟨g, o + 4, none⟩ = some (.int .u64 (t.bits : Nat)) :=
  ⟨h 0 _ rfl, h 1 _ rfl, h 2 _ rfl, h 3 _ rfl, h 4 _ rfl⟩

set_option maxRecDepth 100000 in
set_option maxHeartbeats 3200000 in
theorem next_any {B : Nat} (g : Nat) (l : List Tk) (w : World) (h : Rd B w g l) :
    Calls Tryz.prog 92 #[.pointer (some ⟨g, 0, none⟩)] w fun r w' => r = .returned (.agg (hdT l).cells.toArray) ∧ Below w.heap.size w w' := by
  obtain ⟨gt, o, c, h, _⟩ := h
  obtain ⟨q0, q1, q2, q3, q4⟩ := tk_cells h.head
  have hl : l.length = l.tail.length + 1 := by rw [h.ends.cons]; rfl
  have hc := h.cell.cell 0
  have hlt := h.gt_lt
  have hlg := h.g_lt
  generalize hdT l = t at q0 q1 q2 q3 q4 ⊢
  generalize l.tail.length = m at hl
  rw [hl] at hc
  clear h hl
  show Calls Tryz.prog 92 #[.pointer (some ⟨g, 0, none⟩)] w fun r w' => r = .returned (.agg (tok5 t.kind ⟨t.text.toArray⟩ t.place (valT t.kind) t.bits).toArray) ∧ Below w.heap.size w w'
  obtain ⟨K, T, p, b⟩ := t
  generalize valT K = vt at *
  have hc : w.cell? ⟨g, 0, none⟩ = some (.slice (some ⟨gt, o, none⟩) (m + 1) c) := hc
  dsimp only at q0 q1 q2 q3 q4 ⊢
  go_enter Tryz.func92, Tryz.ntmps92
  go_wp2_with (first
    | ((with_reducible show wpList _ _ _ _ _ _); refine wpList_alloc_at rfl 64 rfl (tok5 0 ⟨#[]⟩ 0 0 0) 5 z34 ?_; intro w1 hA1 hb1 hs1; rw [← hb1.cell hlt] at q0 q1 q2 q3 q4; rw [← hb1.cell hlg] at hc)
    | ((with_reducible show wpList _ _ _ _ _ _); refine wpList_store_at (P := Tryz.prog) rfl 64 (.tmp 2) (.tmp 8) rfl w.heap.size (tok5 K ⟨T.toArray⟩ p vt b) rfl rfl 64 (tok5 0 ⟨#[]⟩ 0 0 0) hA1 i34 rfl (one5T _ _ _ _ _) ?_; intro w9 hA9 hb9 hs9))
  refine bodyPost_ret (results_at rfl _ _ w.heap.size 64 (tok5 K ⟨T.toArray⟩ p vt b) _ rfl hA9 Tryz.underlying64 rfl i34) rfl ?_
  exact ⟨rfl, hb9.below hb1 (Nat.le_refl _) (by omega)⟩

theorem i60 : (Tryz.prog.info? 60).map (·.size) = some 1 := by kernel_rfl
theorem run_slice_one (w : World) (gt o m c : Nat) (hm : m + 1 ≤ c) (h1 : 1 ≤ m) : (Instr.slice 60 (.slice (some ⟨gt, o, none⟩) (m + 1) c) (some (.int .i64 1)) none none).run Tryz.prog w = .ok (.slice (some ⟨gt, o + 5, none⟩) m (c - 1)) w := by
  simp [go_sem, Instr.slice]
  rw [if_pos (by omega), if_neg (by omega)]

set_option maxRecDepth 100000 in
set_option maxHeartbeats 3200000 in
theorem take_any {B : Nat} (g : Nat) (l : List Tk) (w : World) (h : Rd B w g l) (hn : (hdT l).text ≠ [] ∨ (hdT l).kind ≠ 0) :
    Calls Tryz.prog 93 #[.pointer (some ⟨g, 0, none⟩)] w fun r w' => r = .returned (.tuple #[]) ∧ Rd B w' g l.tail ∧ But g w w' := by
  obtain ⟨gt, o, c, h, hB⟩ := h
  have hl : l.length = l.tail.length + 1 := by rw [h.ends.cons]; rfl
  have hc := h.cell.cell 0
  have HA : Hid (At 97 w g [.slice (some ⟨gt, o, none⟩) l.length c]) := h.cell
  have hcap := h.cap
  have hm1 : 1 ≤ l.tail.length := List.length_pos_iff.2 (h.ends.tail hn).ne
  have HG : Hid (∀ w', At 97 w' g [.slice (some ⟨gt, o + 5, none⟩) l.tail.length (c - 1)] → But g w w' → Rd B w' g l.tail) := fun w' h1 h2 =>
    ⟨gt, o + 5, c - 1, ⟨h1, h.ne, by have := h.cap; omega, fun j v hj => by
      rw [World.cell?_of_block (w := w) (h2.block gt h.gt_lt h.ne)]
      have := h.toks (j + 5) v (by
        rw [h.ends.cons, flat_cons, List.getElem?_append_right (by show 5 ≤ j + 5; omega)]
        exact hj)
      rw [show o + 5 + j = o + (j + 5) by omega]
      exact this, h.ends.tail hn, fun t ht => h.bits t (List.mem_of_mem_tail ht)⟩, hB⟩
  generalize l.tail.length = m at hl HG hm1
  rw [hl] at hc hcap HA
  clear h hl
  have hc : w.cell? ⟨g, 0, none⟩ = some (.slice (some ⟨gt, o, none⟩) (m + 1) c) := hc
  have hS := fun w => run_slice_one w gt o m c hcap hm1
  go_enter Tryz.func93, Tryz.ntmps93
  go_wp2_with (first
    | ((with_reducible show wpList _ _ _ _ _ _); refine wpList_store_one (P := Tryz.prog) rfl 60 (.tmp 9) (.tmp 7) rfl g 0 (.slice (some ⟨gt, o + 5, none⟩) m (c - 1)) rfl rfl 97 _ HA.out (show 0 + 1 ≤ 1 by decide) i60 rfl rfl ?_; intro w6 hA6 hb6 hs6; refine Hid.out ?_))
  refine hidU ?_
  have hR := HG.out w6 hA6 hb6
  clear HG hA6 HA hS hc hcap
  go_wp2
  go_end0
  exact ⟨rfl, hR, hb6⟩

end Go.Proofs.YtjgggmjjikopeaaGreatDoor
