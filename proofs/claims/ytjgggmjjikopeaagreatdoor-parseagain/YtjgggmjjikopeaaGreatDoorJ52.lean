/- Joined texts of the proof. -/
import Derived.Test.YtjgggmjjikopeaaGreatDoorJ51
import Derived.Test.YtjgggmjjikopeaaGreatDoorJ50

/- ParseKnown: the walk. -/
namespace Go.Proofs.YtjgggmjjikopeaaGreatDoor
open Go.RowKit
set_option linter.unusedVariables false

def wantS : ST := .mk 1 ⟨#[120]⟩ (.mk 1 1 1 ⟨#[]⟩ none 0 []) none 0 [] none 0 []
def wantP (g1 g2 g3 g4 : Nat) : PT := ⟨some ⟨g1, 0, none⟩, 1, [⟨⟨#[120]⟩, 1, 18446744073709551613⟩], some ⟨g2, 0, none⟩, 1, [⟨#[109]⟩], some ⟨g4, 0, none⟩, 1, [⟨⟨#[116]⟩, none, 0, [], some ⟨g3, 0, none⟩, 1, [wantS]⟩]⟩
theorem want_pg (g1 g2 g3 g4 : Nat) : (wantP g1 g2 g3 g4).pg = pgK1 := by rfl
theorem samP_k1 : samP pgK1 pgK1 = true := by kernel_rfl
theorem wantS_in (B : Nat) (w : World) : wantS.In B w := by
  unfold wantS ST.In ET.In
  exact ⟨⟨by decide, by decide⟩, ⟨by decide, by decide, by decide, by simp, by simp, .inl rfl⟩, ⟨by simp, by simp, .inl rfl⟩, by simp, by simp, .inl rfl⟩
theorem At.all5 {t : TypeId} {w : World} {g : Nat} {cs : List Value} (h : At t w g cs) : w.rangeAt g 0 cs := fun j v hj => by rw [h.cell]; simpa using hj
theorem want_in (g1 g2 g3 g4 : Nat) (w : World) (h1 : At 48 w g1 [.string ⟨#[120]⟩, .int .u8 1, .int .u64 18446744073709551613]) (h2 : At 9 w g2 [.string ⟨#[109]⟩]) (h3 : At 51 w g3 (st9 1 ⟨#[120]⟩ (ex5 1 1 1 ⟨#[]⟩ (.slice none 0 0)) (.slice none 0 0) (.slice none 0 0))) (h4 : At 53 w g4 [.string ⟨#[116]⟩, .slice none 0 0, .slice (some ⟨g3, 0, none⟩) 1 1]) : (wantP g1 g2 g3 g4).In w.heap.size w := by
  refine ⟨⟨by simp [wantP], by simp [wantP], .inr ⟨g1, 0, rfl, h1.lt, ?_⟩⟩, ⟨by simp [wantP], by simp [wantP], .inr ⟨g2, 0, rfl, h2.lt, ?_⟩⟩, by simp [wantP], by simp [wantP], .inr ⟨g4, 0, rfl, h4.lt, ?_⟩⟩
  · intro i v hv
    cases i with
    | zero =>
      simp [wantP] at hv
      subst hv
      exact ⟨At.all5 h1, by decide, by decide⟩
    | succ i => simp [wantP] at hv
  · intro i v hv
    cases i with
    | zero =>
      simp [wantP] at hv
      subst hv
      rw [h2.cell]; rfl
    | succ i => simp [wantP] at hv
  · intro i v hv
    cases i with
    | zero =>
      simp [wantP] at hv
      subst hv
      refine ⟨At.all5 h4, ⟨by simp, by simp, .inl rfl⟩, by simp, by simp, .inr ⟨g3, 0, rfl, h3.lt, ?_⟩⟩
      unfold ST.Row
      exact ⟨At.all5 h3, wantS_in _ _, trivial⟩
    | succ i => simp [wantP] at hv

theorem one26w (g1 g2 g4 : Nat) : ∀ v ∈ [Value.slice (some ⟨g1, 0, none⟩) 1 1, .slice (some ⟨g2, 0, none⟩) 1 1, .slice (some ⟨g4, 0, none⟩) 1 1], v.oneCell' = true := by
  intro v hv
  simp at hv
  rcases hv with rfl | rfl | rfl <;> rfl
theorem fault2 (w : World) (hE : ErrR w) : Calls Tryz.prog 16 #[.string ⟨#[40, 97]⟩, .bool false, .int .i64 4, .int .i64 2] w fun r w' => r = .returned (.bool true) ∧ Below w.heap.size w w' := faultE_any ⟨#[40, 97]⟩ 4 2 (by decide) k2 w hE
theorem fault3 (w : World) (hE : ErrR w) : Calls Tryz.prog 16 #[.string ⟨#[105, 110, 116, 32, 97]⟩, .bool false, .int .i64 4, .int .i64 4] w fun r w' => r = .returned (.bool true) ∧ Below w.heap.size w w' := faultE_any ⟨#[105, 110, 116, 32, 97]⟩ 4 4 (by decide) k3 w hE
theorem fault4 (w : World) (hE : ErrR w) : Calls Tryz.prog 16 #[.string ⟨#[115, 104, 97, 114, 101, 100, 32, 120, 32, 105, 110, 116, 32, 61, 32, 116, 114, 117, 101, 59]⟩, .bool true, .int .i64 9, .int .i64 15] w fun r w' => r = .returned (.bool true) ∧ Below w.heap.size w w' := faultP_any ⟨#[115, 104, 97, 114, 101, 100, 32, 120, 32, 105, 110, 116, 32, 61, 32, 116, 114, 117, 101, 59]⟩ 9 15 (by decide) k4 w hE
theorem fault5 (w : World) (hE : ErrR w) : Calls Tryz.prog 16 #[.string ⟨#[116, 104, 114, 101, 97, 100, 32, 116, 32, 123, 32, 120, 32, 61, 32, 49, 32, 125]⟩, .bool true, .int .i64 4, .int .i64 17] w fun r w' => r = .returned (.bool true) ∧ Below w.heap.size w w' := faultP_any ⟨#[116, 104, 114, 101, 97, 100, 32, 116, 32, 123, 32, 120, 32, 61, 32, 49, 32, 125]⟩ 4 17 (by decide) k5 w hE
theorem fault6 (w : World) (hE : ErrR w) : Calls Tryz.prog 16 #[.string ((⟨#[49]⟩ : ByteArray) ++ ⟨(manyS [32, 43, 32, 49] 32).toArray⟩), .bool false, .int .i64 160, .int .i64 126] w fun r w' => r = .returned (.bool true) ∧ Below w.heap.size w w' := by
  have he : ((⟨#[49]⟩ : ByteArray) ++ ⟨(manyS [32, 43, 32, 49] 32).toArray⟩) = ⟨(49 :: manyS [32, 43, 32, 49] 32).toArray⟩ := app_ba [49] _
  rw [he]
  exact faultE_any ⟨(49 :: manyS [32, 43, 32, 49] 32).toArray⟩ 160 126 (by show (49 :: manyS [32, 43, 32, 49] 32).length ≤ _; rw [List.length_cons, manyS_len]; decide) k6 w hE
theorem fault7 (w : World) (hE : ErrR w) : Calls Tryz.prog 16 #[.string ⟨(manyS [40] 33).toArray⟩, .bool false, .int .i64 160, .int .i64 32] w fun r w' => r = .returned (.bool true) ∧ Below w.heap.size w w' :=
  faultE_any ⟨(manyS [40] 33).toArray⟩ 160 32 (by show (manyS [40] 33).length ≤ _; rw [manyS_len]; decide) k7 w hE
theorem parse1 (w : World) (hE : ErrR w) : Calls Tryz.prog 8 #[.string ⟨#[115, 104, 97, 114, 101, 100, 32, 120, 32, 105, 110, 116, 32, 61, 32, 45, 51, 59, 32, 109, 117, 116, 101, 120, 32, 109, 59, 32, 116, 104, 114, 101, 97, 100, 32, 116, 32, 123, 32, 120, 32, 61, 32, 49, 59, 32, 125]⟩] w fun r w' => PostPP w (pgK1, 0, 0) r w' := by
  have := parseP_any ⟨#[115, 104, 97, 114, 101, 100, 32, 120, 32, 105, 110, 116, 32, 61, 32, 45, 51, 59, 32, 109, 117, 116, 101, 120, 32, 109, 59, 32, 116, 104, 114, 101, 97, 100, 32, 116, 32, 123, 32, 120, 32, 61, 32, 49, 59, 32, 125]⟩ w (by decide) hE
  have hb : bytes (⟨#[115, 104, 97, 114, 101, 100, 32, 120, 32, 105, 110, 116, 32, 61, 32, 45, 51, 59, 32, 109, 117, 116, 101, 120, 32, 109, 59, 32, 116, 104, 114, 101, 97, 100, 32, 116, 32, 123, 32, 120, 32, 61, 32, 49, 59, 32, 125]⟩ : ByteArray) = tK1 := rfl
  rw [hb, k1] at this
  exact this

set_option maxRecDepth 100000 in
set_option maxHeartbeats 6400000 in
/-- The examples. -/
theorem known5 (w : World) (hE : ErrR w) (hT : Tab w) (h16 : gB ≤ w.heap.size) :
    Calls Tryz.prog 5 #[] w fun r w' => r = .returned (.bool true) ∧ Below w.heap.size w w' := by
  have HP := parse1 w hE
  have HE : Hid (∀ u, Below w.heap.size w u → ErrR u) := fun u h => hE.below h
  have HT : Hid (∀ u, Below w.heap.size w u → Tab u ∧ gB ≤ u.heap.size) := fun u h => ⟨hT.below h h16, Nat.le_trans h16 h.size⟩
  clear hE hT h16
  go_enter Tryz.func5, Tryz.ntmps5
  go_wp2_with (go_at_call 8; refine HP.mono ?_; rintro _ w1 ⟨y, rfl, hy, hTy, hb1⟩; refine Hid.out ?_)
  refine hidU ?_
  clear HP
  obtain ⟨a1, n1, c1, a2, n2, c2, a3, n3, c3, hcs⟩ : ∃ a1 n1 c1 a2 n2 c2 a3 n3 c3, Hid (y.cells = [.slice a1 n1 c1, .slice a2 n2 c2, .slice a3 n3 c3]) := ⟨_, _, _, _, _, _, _, _, _, (rfl : y.cells = _)⟩
  rw [hcs.out]
  have HY : Hid (y.pg = pgK1 ∧ Py w.heap.size w1 y) := ⟨hy, hTy⟩
  clear hy hTy
  go_wp2_with (first
    | ((with_reducible show wpList _ _ _ _ _ _); refine wpList_alloc_at (o := { dst := some 1, .. }) rfl 26 rfl [.slice none 0 0, .slice none 0 0, .slice none 0 0] 3 zz26 ?_; intro w2 hA2 hb2 hs2; clear hs2)
    | ((with_reducible show wpList _ _ _ _ _ _); refine wpList_alloc_at (o := { dst := some 2, .. }) rfl 29 rfl (fa2 0 0) 2 z25 ?_; intro w3 hA3 hb3 hs3; clear hs3)
    | ((with_reducible show wpList _ _ _ _ _ _); refine wpList_store_at (P := Tryz.prog) rfl 26 (.tmp 1) (.tmp 7) rfl w1.heap.size [.slice a1 n1 c1, .slice a2 n2 c2, .slice a3 n3 c3] rfl rfl 26 _ (hA2.below hb3) i26 rfl (by intro v hv; simp at hv; rcases hv with rfl | rfl | rfl <;> rfl) ?_; intro w4 hA4 hb4 hs4; clear hs4; have hA34 := hb4.at hA3 (by have := hA2.lt; omega))
    | ((with_reducible show wpList _ _ _ _ _ _); refine wpList_store_at (P := Tryz.prog) rfl 29 (.tmp 2) (.tmp 8) rfl w2.heap.size (fa2 0 0) rfl rfl 29 _ hA34 i25 rfl (one2f _ _) ?_; intro w5 hA5 hb5 hs; clear hs; refine Hid.out ?_))
  refine hidU ?_
  have l1 := hb1.size
  have l2 := hA2.lt
  have l3 := hA3.lt
  have l4 := hb4.size
  have l5 := hb5.size
  have hB3 : Below w1.heap.size w1 w3 := hb2.trans (hb3.mono hb2.size)
  have hB5 : Below w1.heap.size w1 w5 := hb5.below (hb4.below hB3 (Nat.le_refl _) (by omega)) (by omega) (by omega)
  have hBw : Below w.heap.size w w5 := hb1.trans (hB5.mono l1)
  have hA45 := hb5.at hA4 (by omega)
  clear hA2 hA3 hA4 hA34 hb2 hb3 hb4 hb5 hB3 l1 l2 l3 l4 l5
  go_wp2_with (first
    | ((with_reducible show wpList _ _ _ _ _ _); refine wpList_build_at (P := Tryz.prog) rfl 40 #[(0, .const (.int .u8 1)), (1, .tmp 10)] rfl [.int .u8 1, .int .u64 18446744073709551613] (by kernel_rfl) ?_; refine Hid.out ?_))
  refine hidU ?_
  go_wp2_with (first
    | ((with_reducible show wpList _ _ _ _ _ _); refine wpList_build_at (P := Tryz.prog) rfl 48 #[(0, .const (.string ⟨#[120]⟩)), (1, .tmp 11)] rfl [.string ⟨#[120]⟩, .int .u8 1, .int .u64 18446744073709551613] (by kernel_rfl) ?_)
    | ((with_reducible show wpList _ _ _ _ _ _); refine wpList_layV rfl (.tmp 12) rfl [.string ⟨#[120]⟩, .int .u8 1, .int .u64 18446744073709551613] rfl rfl ?_; intro v1 hV1 kb1)
    | ((with_reducible show wpList _ _ _ _ _ _); refine wpList_strs rfl 1 #[(0, .const (.string ⟨#[109]⟩))] rfl [⟨#[109]⟩] rfl (by decide) (by decide) (by kernel_rfl) ?_; intro v2 hV2 kb2 ks2; clear ks2)
    | ((with_reducible show wpList _ _ _ _ _ _); refine wpList_build_at (P := Tryz.prog) rfl 40 #[(0, .const (.int .u8 1)), (1, .const (.int .u64 1))] rfl [.int .u8 1, .int .u64 1] (by kernel_rfl) ?_; refine Hid.out ?_))
  refine hidU ?_
  go_wp2_with (first
    | ((with_reducible show wpList _ _ _ _ _ _); refine wpList_build_at (P := Tryz.prog) rfl 43 #[(0, .const (.int .u8 1)), (1, .tmp 15)] rfl (ex5 1 1 1 ⟨#[]⟩ (.slice none 0 0)) (by kernel_rfl) ?_)
    | ((with_reducible show wpList _ _ _ _ _ _); refine wpList_build_at (P := Tryz.prog) rfl 51 #[(0, .const (.int .i64 1)), (1, .const (.string ⟨#[120]⟩)), (2, .tmp 16)] rfl (st9 1 ⟨#[120]⟩ (ex5 1 1 1 ⟨#[]⟩ (.slice none 0 0)) (.slice none 0 0) (.slice none 0 0)) (by kernel_rfl) ?_)
    | ((with_reducible show wpList _ _ _ _ _ _); refine wpList_layS rfl (.tmp 17) rfl (st9 1 ⟨#[120]⟩ (ex5 1 1 1 ⟨#[]⟩ (.slice none 0 0)) (.slice none 0 0) (.slice none 0 0)) rfl rfl ?_; intro v3 hV3 kb3)
    | ((with_reducible show wpList _ _ _ _ _ _); refine wpList_build_at (P := Tryz.prog) rfl 53 #[(0, .const (.string ⟨#[116]⟩)), (2, .tmp 18)] rfl [.string ⟨#[116]⟩, .slice none 0 0, .slice (some ⟨v2.heap.size, 0, none⟩) 1 1] (by kernel_rfl) ?_)
    | ((with_reducible show wpList _ _ _ _ _ _); refine wpList_layT rfl (.tmp 19) rfl [.string ⟨#[116]⟩, .slice none 0 0, .slice (some ⟨v2.heap.size, 0, none⟩) 1 1] rfl rfl ?_; intro v4 hV4 kb4; refine Hid.out ?_))
  refine hidU ?_
  have k1s := kb1.size
  have k2s := kb2.size
  have k3s := kb3.size
  have k4s := kb4.size
  have hq1 := hV1.lt
  have hq2 := hV2.lt
  have hq3 := hV3.lt
  have hq4 := hV4.lt
  have hB4 : Below w5.heap.size w5 v4 := kb1.trans ((kb2.trans ((kb3.trans (kb4.mono k3s)).mono k2s)).mono k1s)
  have hI := want_in w5.heap.size v1.heap.size v2.heap.size v3.heap.size v4 (hV1.below (kb2.trans ((kb3.trans (kb4.mono k3s)).mono k2s))) (hV2.below (kb3.trans (kb4.mono k3s))) (hV3.below kb4) hV4
  clear hV1 hV2 hV3 hV4 kb1 kb2 kb3 kb4 k1s k2s k3s k4s hq1 hq2 hq3 hq4
  generalize hg1 : v1.heap.size = g1 at *
  generalize hg2 : v2.heap.size = g2 at *
  generalize hg3 : v3.heap.size = g3 at *
  clear hg1 hg2 hg3
  go_wp2_with (first
    | ((with_reducible show wpList _ _ _ _ _ _); refine wpList_build_at (P := Tryz.prog) rfl 26 #[(0, .tmp 13), (1, .tmp 14), (2, .tmp 20)] rfl [.slice (some ⟨w5.heap.size, 0, none⟩) 1 1, .slice (some ⟨g1, 0, none⟩) 1 1, .slice (some ⟨g3, 0, none⟩) 1 1] (by kernel_rfl) ?_)
    | ((with_reducible show wpList _ _ _ _ _ _); refine wpList_alloc_at (o := { dst := some 4, .. }) rfl 26 rfl [.slice none 0 0, .slice none 0 0, .slice none 0 0] 3 zz26 ?_; intro u1 kA1 jb1 js1; clear js1)
    | ((with_reducible show wpList _ _ _ _ _ _); refine wpList_store_at (P := Tryz.prog) rfl 26 (.tmp 4) (.tmp 21) rfl v4.heap.size [.slice (some ⟨w5.heap.size, 0, none⟩) 1 1, .slice (some ⟨g1, 0, none⟩) 1 1, .slice (some ⟨g3, 0, none⟩) 1 1] rfl rfl 26 _ kA1 i26 rfl (one26w _ _ _) ?_; intro u2 kA2 jb2 js2; clear js2; refine Hid.out ?_))
  refine hidU ?_
  have j1 := jb1.size
  have j2 := jb2.size
  have jB : Below v4.heap.size v4 u2 := jb2.below jb1 (Nat.le_refl _) (by omega)
  have hB6 : Below w5.heap.size w5 u2 := hB4.trans (jB.mono hB4.size)
  have hB7 : Below w1.heap.size w1 u2 := hB5.trans (hB6.mono hB5.size)
  have hBu : Below w.heap.size w u2 := hBw.trans (hB6.mono hBw.size)
  have hO4 : Old v4.heap.size v4 u2 := Old.of_below jB (Nat.le_refl _)
  have hl : v4.heap.size ≤ u2.heap.size := jB.size
  have hO1 : Old w1.heap.size w1 u2 := Old.of_below hB7 (Nat.le_refl _)
  have hl1 : w1.heap.size ≤ u2.heap.size := hB7.size
  have hl2 : w1.heap.size ≤ v4.heap.size := Nat.le_trans hB5.size hB4.size
  have hk1 : ∀ q, w.heap.size ≤ q → q < w1.heap.size → u2.heap[q]? = w1.heap[q]? := fun q _ h2 => hB7.block q h2
  have hwI : (wantP w5.heap.size g1 g2 g3).In v4.heap.size u2 := ⟨hI.1.old hO4, hI.2.1.old hO4, hI.2.2.old hO4⟩
  have hyI' : y.In v4.heap.size u2 := ⟨HY.out.2.1.1.1.stay HY.out.2.2.1 hl2 hk1, HY.out.2.1.1.2.1.stay HY.out.2.2.2.1 hl2 hk1, HY.out.2.1.1.2.2.stay HY.out.2.2.2.2.1 HY.out.2.2.2.2.2 hl2 hk1⟩
  have HS := kitProgram_any v4.heap.size y (wantP w5.heap.size g1 g2 g3) u2 hyI' hwI hl
  rw [HY.out.1, want_pg, samP_k1, hcs.out] at HS
  have HS' : Hid (Calls Tryz.prog 10 #[.agg #[.slice a1 n1 c1, .slice a2 n2 c2, .slice a3 n3 c3], .agg #[.slice (some ⟨w5.heap.size, 0, none⟩) 1 1, .slice (some ⟨g1, 0, none⟩) 1 1, .slice (some ⟨g3, 0, none⟩) 1 1]] u2 fun r w' => r = .returned (.bool true) ∧ Below u2.heap.size u2 w') := HS
  obtain ⟨d0, d1, d2⟩ := c3_cells (hA45.below hB6)
  obtain ⟨e0, e1, e2⟩ := c3_cells kA2
  obtain ⟨f0, f1⟩ := fa_cells (hA5.below hB6)
  clear HS hk1 hyI' hwI hI hO1 hO4 hB4 hB5 hB6 hB7 jB jb1 jb2 j1 j2 kA1 kA2 hA45 hA5 HY hcs hBw hb1 hl hl1 hl2
  go_wp2_with (first
    | ((with_reducible show wpList _ _ _ _ _ _); refine wpList_build_at (P := Tryz.prog) rfl 29 #[] rfl [.int .i64 0, .int .i64 0] (by kernel_rfl) ?_)
    | (go_at_call 10; refine HS'.out.mono ?_; rintro _ u3 ⟨rfl, ib3⟩; have hB3 := hBu.trans (ib3.mono hBu.size))
    | (go_at_call 12; refine (awake6 u3 (HE.out _ hB3) (HT.out _ hB3).1 (HT.out _ hB3).2).mono ?_; rintro _ u4 ⟨rfl, ib4⟩; have hB4 := hB3.trans (ib4.mono hB3.size); refine Hid.out ?_))
  refine hidU ?_
  clear d0 d1 d2 e0 e1 e2 f0 f1 HS' ib3 ib4 hBu hB3
  go_wp2_with (go_at_call 16; refine (fault2 _ (HE.out _ hB4)).mono ?_; rintro _ u5 ⟨rfl, ib⟩; have hB5 := hB4.trans (ib.mono hB4.size); refine Hid.out ?_)
  refine hidU ?_
  clear ib hB4
  go_wp2_with (go_at_call 16; refine (fault3 _ (HE.out _ hB5)).mono ?_; rintro _ u6 ⟨rfl, ib⟩; have hB6 := hB5.trans (ib.mono hB5.size); refine Hid.out ?_)
  refine hidU ?_
  clear ib hB5
  go_wp2_with (go_at_call 16; refine (fault4 _ (HE.out _ hB6)).mono ?_; rintro _ u7 ⟨rfl, ib⟩; have hB7 := hB6.trans (ib.mono hB6.size); refine Hid.out ?_)
  refine hidU ?_
  clear ib hB6
  go_wp2_with (go_at_call 16; refine (fault5 _ (HE.out _ hB7)).mono ?_; rintro _ u8 ⟨rfl, ib⟩; have hB8 := hB7.trans (ib.mono hB7.size); refine Hid.out ?_)
  refine hidU ?_
  clear ib hB7
  have HM : Hid (∀ u, Calls Tryz.prog 17 #[.string ⟨#[32, 43, 32, 49]⟩, .int .i64 32] u fun r w' => r = .returned (.string ⟨(manyS [32, 43, 32, 49] 32).toArray⟩) ∧ w' = u) := fun u => many_any [32, 43, 32, 49] 32 (by decide) (by decide) u
  have HM2 : Hid (∀ u, Calls Tryz.prog 17 #[.string ⟨#[40]⟩, .int .i64 33] u fun r w' => r = .returned (.string ⟨(manyS [40] 33).toArray⟩) ∧ w' = u) := fun u => many_any [40] 33 (by decide) (by decide) u
  have HF6 : Hid (∀ u, ErrR u → Calls Tryz.prog 16 #[.string ((⟨#[49]⟩ : ByteArray) ++ ⟨(manyS [32, 43, 32, 49] 32).toArray⟩), .bool false, .int .i64 160, .int .i64 126] u fun r w' => r = .returned (.bool true) ∧ Below u.heap.size u w') := fault6
  have HF7 : Hid (∀ u, ErrR u → Calls Tryz.prog 16 #[.string ⟨(manyS [40] 33).toArray⟩, .bool false, .int .i64 160, .int .i64 32] u fun r w' => r = .returned (.bool true) ∧ Below u.heap.size u w') := fault7
  have hsz : ¬ (9223372036854775807 < (⟨#[49]⟩ : ByteArray).size + (⟨(manyS [32, 43, 32, 49] 32).toArray⟩ : ByteArray).size) := by
    show ¬ (9223372036854775807 < 1 + (manyS [32, 43, 32, 49] 32).length)
    rw [manyS_len]
    decide
  generalize (⟨(manyS [32, 43, 32, 49] 32).toArray⟩ : ByteArray) = M1 at *
  generalize (⟨(manyS [40] 33).toArray⟩ : ByteArray) = M2 at *
  go_wp2_with (first
    | (go_at_call 17; refine (HM.out _).mono ?_; rintro _ _ ⟨rfl, rfl⟩)
    | (go_at_call 16; refine (HF6.out _ (HE.out _ hB8)).mono ?_; rintro _ u9 ⟨rfl, ib⟩; have hB9 := hB8.trans (ib.mono hB8.size); refine Hid.out ?_))
  refine hidU ?_
  clear ib hB8
  go_wp2_with (first
    | (go_at_call 17; refine (HM2.out _).mono ?_; rintro _ _ ⟨rfl, rfl⟩)
    | (go_at_call 16; refine (HF7.out _ (HE.out _ hB9)).mono ?_; rintro _ u10 ⟨rfl, ib⟩; have hB10 := hB9.trans (ib.mono hB9.size)))
  go_ret
  exact ⟨rfl, hB10⟩
end Go.Proofs.YtjgggmjjikopeaaGreatDoor
