/- lex.number and lex.point: the value of digits. -/
import Derived.Test.YtinofdmdfhklpaaDoorPieces
namespace Go.Proofs.YtinofdmdfhklpaaDoor
open Go.RowKit
set_option linter.unusedVariables false

/-- What number and point answer. -/
def ValPost (good : Prop) (t b : Nat) (e : Ending) : Prop :=
  (good ∧ e = .returned (.tuple #[.agg (val2 t b).toArray, .bool true])) ∨ (¬ good ∧ e = .returned (.tuple #[.agg (val2 0 0).toArray, .bool false]))

theorem bytesWorld_or {w w' : World} {t : TypeId} (h : w' = w ∨ ∃ x, w' = Lib.bytesWorld w t x) : Below w.heap.size w w' := by
  rcases h with rfl | ⟨x, rfl⟩
  · exact Below.refl _ _
  · exact Lib.bytesWorld_below _ _ _

set_option maxRecDepth 100000 in
set_option maxHeartbeats 800000 in
theorem number_any (S : ByteArray) (w : World) (hp : 0 < S.size) (hmax : S.size ≤ 1099511627776) (hd : allDg (bytes S)) (hE : ErrR w) :
    Calls Tryd.prog 21 #[.string S] w fun e w' => ValPost (GoodDec (bytes S)) 1 (decVal (bytes S)) e ∧ Below w.heap.size w w' := by
  have hgi := good_iff (bytes S) hd (by rw [bytes_length]; exact hp)
  have hint := int_digits (bytes S) hd (by rw [bytes_length]; exact hp)
  rw [bytes_length, bytes_at S 0 hp] at hgi
  obtain ⟨V, hV⟩ : ∃ V, Hid (V = decVal (bytes S)) := ⟨_, (rfl : decVal (bytes S) = _)⟩
  obtain ⟨c0, hc0⟩ : ∃ c0 : Nat, S[0].toNat = c0 := ⟨_, rfl⟩
  rw [← hV.out] at hgi hint ⊢
  rw [hc0] at hgi
  obtain ⟨G, hG⟩ : ∃ G, Hid (G = GoodDec (bytes S)) := ⟨_, (rfl : GoodDec (bytes S) = _)⟩
  rw [← hG.out] at hgi ⊢
  have HGI : Hid (G ↔ (c0 = 48 → S.size = 1) ∧ V ≤ 9223372036854775807) := hgi
  have HI : Hid (Lib.parseIntB 64 S.data.toList = if V ≤ 9223372036854775807 then .ok (V : Int) else .range) := hint
  clear hgi hint hd
  by_cases hz : c0 = 48 ∧ 1 < S.size
  · obtain ⟨h1, h2⟩ := hz
    have hno : ¬ G := fun g => by have := (HGI.out.1 g).1 h1; omega
    have hc' : (c0 : Int) = 48 := by omega
    go_enter Tryd.func21, Tryd.ntmps21
    go_wp2_with (first | ((with_reducible show wpList _ _ _ _ _ _); refine wpList_alloc_at rfl 32 rfl (val2 0 0) 2 z32 ?_; intro w1 hA1 hb1 hs1) | ((with_reducible show wpList _ _ _ _ _ _); refine wpList_build_at rfl 32 #[] rfl (val2 0 0) (by kernel_rfl) ?_) | ((with_reducible show wpList _ _ _ _ _ _); refine wpList_store_at (P := Tryd.prog) rfl 32 (.tmp 2) (.tmp 14) rfl w.heap.size (val2 0 0) rfl rfl 32 (val2 0 0) hA1 i32 rfl (one2 0 0) ?_; intro w9 hA9 hb9 hs9))
    refine bodyPost_ret (results_at_tmp rfl _ _ w.heap.size 32 (val2 0 0) _ rfl hA9 Tryd.underlying32 rfl i32) rfl ?_
    exact ⟨.inr ⟨hno, rfl⟩, hb9.below hb1 (Nat.le_refl _) (by omega)⟩
  · have hz' : ((c0 : Int) == 48) = true ∧ decide (1 < (S.size : Int)) = false ∨ ((c0 : Int) == 48) = false := by
      by_cases h : c0 = 48
      · left
        refine ⟨by rw [beq_iff_eq]; omega, ?_⟩
        simp; omega
      · right; rw [beq_eq_false_iff_ne]; omega
    have hone : c0 = 48 → S.size = 1 := fun h => by
      have : ¬ 1 < S.size := fun h2 => hz ⟨h, h2⟩
      omega
    clear hz
    by_cases hv : V ≤ 9223372036854775807
    · have hyes : G := HGI.out.2 ⟨hone, hv⟩
      have hok : Lib.parseIntB 64 S.data.toList = .ok (V : Int) := by rw [HI.out, if_pos hv]
      have hcall := fun w => Tryd.strconv_ParseInt_10_at64_ok S (by omega) (V : Int) hok w
      have HC : Hid (∀ w, Calls Tryd.prog 35 #[.string S, .int .i64 10, .int .i64 64] w fun e w' => e = .returned (.tuple #[.int .i64 (V : Int), .nilIface]) ∧ (w' = w ∨ ∃ t, w' = Lib.bytesWorld w 5 t)) := hcall
      clear hcall hok HI hone
      rcases hz' with ⟨hz1, hz2⟩ | hz1
      all_goals
        go_enter Tryd.func21, Tryd.ntmps21
        go_wp2_with (first | ((with_reducible show wpList _ _ _ _ _ _); refine wpList_alloc_at rfl 32 rfl (val2 0 0) 2 z32 ?_; intro w1 hA1 hb1 hs1))
        refine (HC.out _).mono ?_
        rintro e w2 ⟨rfl, hW⟩
        have hb2 := bytesWorld_or hW
        have hA2 := hA1.below hb2
        have hb12 := hb1.trans (hb2.mono (by omega))
        clear hW
        go_wp2_with (first | ((with_reducible show wpList _ _ _ _ _ _); refine wpList_build_at rfl 32 _ rfl (val2 1 V) (by kernel_rfl) ?_) | ((with_reducible show wpList _ _ _ _ _ _); refine wpList_store_at (P := Tryd.prog) rfl 32 (.tmp 2) (.tmp 25) rfl w.heap.size (val2 1 V) rfl rfl 32 (val2 0 0) hA2 i32 rfl (one2 1 V) ?_; intro w9 hA9 hb9 hs9))
        refine bodyPost_ret (results_at_tmp rfl _ _ w.heap.size 32 (val2 1 V) _ rfl hA9 Tryd.underlying32 rfl i32) rfl ?_
        exact ⟨.inl ⟨hyes, rfl⟩, hb9.below hb12 (Nat.le_refl _) hb12.size⟩
    · have hno : ¬ G := fun g => hv (HGI.out.1 g).2
      have hrg : Lib.parseIntB 64 S.data.toList = .range := by rw [HI.out, if_neg hv]
      obtain ⟨ev, hev1, hev2⟩ := hE
      have hcall := fun (w : World) hv => Tryd.strconv_ParseInt_10_at64_range S (by omega) hrg ev w hv hev2
      have HC : Hid (∀ w : World, w.cell? ⟨2, 0, none⟩ = some ev → Calls Tryd.prog 35 #[.string S, .int .i64 10, .int .i64 64] w fun e w' => ∃ n N, e = .returned (.tuple #[.int .i64 n, .iface 79 (.pointer (some ⟨N, 0, none⟩))]) ∧ Below w.heap.size w w') := by
        intro w hv
        refine (hcall w hv).mono ?_
        rintro e w' ⟨N, h1, _, _, h4⟩
        exact ⟨_, N, h1, h4⟩
      have HEV : Hid (w.cell? ⟨2, 0, none⟩ = some ev) := hev1
      clear hcall hrg HI hone hev1 hev2
      rcases hz' with ⟨hz1, hz2⟩ | hz1
      all_goals
        go_enter Tryd.func21, Tryd.ntmps21
        go_wp2_with (first | ((with_reducible show wpList _ _ _ _ _ _); refine wpList_alloc_at rfl 32 rfl (val2 0 0) 2 z32 ?_; intro w1 hA1 hb1 hs1))
        refine (HC.out _ (by rw [hb1.cell (lt_of_cell HEV.out)]; exact HEV.out)).mono ?_
        rintro e w2 ⟨n, N, rfl, hb2⟩
        have hA2 := hA1.below hb2
        have hb12 := hb1.trans (hb2.mono (by omega))
        go_wp2_with (first | ((with_reducible show wpList _ _ _ _ _ _); refine wpList_build_at rfl 32 #[] rfl (val2 0 0) (by kernel_rfl) ?_) | ((with_reducible show wpList _ _ _ _ _ _); refine wpList_store_at (P := Tryd.prog) rfl 32 (.tmp 2) (.tmp 22) rfl w.heap.size (val2 0 0) rfl rfl 32 (val2 0 0) hA2 i32 rfl (one2 0 0) ?_; intro w9 hA9 hb9 hs9))
        refine bodyPost_ret (results_at_tmp rfl _ _ w.heap.size 32 (val2 0 0) _ rfl hA9 Tryd.underlying32 rfl i32) rfl ?_
        exact ⟨.inr ⟨hno, rfl⟩, hb9.below hb12 (Nat.le_refl _) hb12.size⟩

theorem parse_str (S : ByteArray) (w : World) (hmax : S.size ≤ 1099511627775) :
    Calls Tryd.prog 36 #[.string S] w fun e w' => ParsePost (bytes S) e ∧ ∃ q, w' = w.drewN q := by
  have h := parse_any (bytes S) w (by rw [bytes_length]; exact hmax)
  rwa [← mk_bytes S] at h

set_option maxRecDepth 100000 in
set_option maxHeartbeats 800000 in
theorem point_any (S : ByteArray) (w : World) (hmax : S.size ≤ 1099511627775) :
    Calls Tryd.prog 22 #[.string S] w fun e w' => ValPost (IsLit (bytes S)) 3 (quo (litNum (bytes S)) (10 ^ (behindOf (bytes S)).length)) e ∧ Below w.heap.size w w' := by
  have hcall := fun w => parse_str S w hmax
  have hPP : ∀ e, ParsePost (bytes S) e → (IsLit (bytes S) ∧ e = .returned (.tuple #[.int .u64 (quo (litNum (bytes S)) (10 ^ (behindOf (bytes S)).length) : Nat), .int .i64 0])) ∨ (¬ IsLit (bytes S) ∧ e = .returned (.tuple #[.int .u64 0, .int .i64 4])) := fun e h => h
  obtain ⟨V, hV⟩ : ∃ V, Hid (V = quo (litNum (bytes S)) (10 ^ (behindOf (bytes S)).length)) := ⟨_, (rfl : quo (litNum (bytes S)) (10 ^ (behindOf (bytes S)).length) = _)⟩
  rw [← hV.out] at hPP ⊢
  obtain ⟨G, hG⟩ : ∃ G, Hid (G = IsLit (bytes S)) := ⟨_, (rfl : IsLit (bytes S) = _)⟩
  rw [← hG.out] at hPP ⊢
  have HC : Hid (∀ w, Calls Tryd.prog 36 #[.string S] w fun e w' => ((G ∧ e = .returned (.tuple #[.int .u64 (V : Nat), .int .i64 0])) ∨ (¬ G ∧ e = .returned (.tuple #[.int .u64 0, .int .i64 4]))) ∧ ∃ q, w' = w.drewN q) := by
    intro w
    refine (hcall w).mono ?_
    rintro e w' ⟨h1, h2⟩
    exact ⟨hPP e h1, h2⟩
  clear hcall hPP
  go_enter Tryd.func22, Tryd.ntmps22
  go_wp2_with (first | ((with_reducible show wpList _ _ _ _ _ _); refine wpList_alloc_at rfl 32 rfl (val2 0 0) 2 z32 ?_; intro w1 hA1 hb1 hs1))
  refine (HC.out _).mono ?_
  rintro e w2 ⟨⟨hg, rfl⟩ | ⟨hg, rfl⟩, q, hw2⟩
  · have hA2 : At 32 w2 w.heap.size (val2 0 0) := by rw [hw2]; exact hA1.drewN q
    have hb12 : Below w.heap.size w w2 := by rw [hw2]; exact ⟨hb1.os, hb1.tape, hb1.output, hb1.size, hb1.block⟩
    clear hw2
    go_wp2_with (first | ((with_reducible show wpList _ _ _ _ _ _); refine wpList_build_at rfl 32 _ rfl (val2 3 V) (by kernel_rfl) ?_) | ((with_reducible show wpList _ _ _ _ _ _); refine wpList_store_at (P := Tryd.prog) rfl 32 (.tmp 2) (.tmp 15) rfl w.heap.size (val2 3 V) rfl rfl 32 (val2 0 0) hA2 i32 rfl (one2 3 V) ?_; intro w9 hA9 hb9 hs9))
    refine bodyPost_ret (results_at_tmp rfl _ _ w.heap.size 32 (val2 3 V) _ rfl hA9 Tryd.underlying32 rfl i32) rfl ?_
    exact ⟨.inl ⟨hg, rfl⟩, hb9.below hb12 (Nat.le_refl _) hb12.size⟩
  · have hA2 : At 32 w2 w.heap.size (val2 0 0) := by rw [hw2]; exact hA1.drewN q
    have hb12 : Below w.heap.size w w2 := by rw [hw2]; exact ⟨hb1.os, hb1.tape, hb1.output, hb1.size, hb1.block⟩
    clear hw2
    go_wp2_with (first | ((with_reducible show wpList _ _ _ _ _ _); refine wpList_build_at rfl 32 #[] rfl (val2 0 0) (by kernel_rfl) ?_) | ((with_reducible show wpList _ _ _ _ _ _); refine wpList_store_at (P := Tryd.prog) rfl 32 (.tmp 2) (.tmp 13) rfl w.heap.size (val2 0 0) rfl rfl 32 (val2 0 0) hA2 i32 rfl (one2 0 0) ?_; intro w9 hA9 hb9 hs9))
    refine bodyPost_ret (results_at_tmp rfl _ _ w.heap.size 32 (val2 0 0) _ rfl hA9 Tryd.underlying32 rfl i32) rfl ?_
    exact ⟨.inr ⟨hg, rfl⟩, hb9.below hb12 (Nat.le_refl _) hb12.size⟩

end Go.Proofs.YtinofdmdfhklpaaDoor
