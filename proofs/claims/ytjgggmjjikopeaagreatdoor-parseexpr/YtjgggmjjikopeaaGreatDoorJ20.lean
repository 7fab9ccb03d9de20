/- The document's unary. -/
import Derived.Test.YtjgggmjjikopeaaGreatDoorJ19
namespace Go.Proofs.YtjgggmjjikopeaaGreatDoor
open Go.RowKit
set_option linter.unusedVariables false

theorem un_spec {f d p op : Nat} {l : List Tk} {R : Rs Ex}
    (h : (match unF f (d + 1) l with | none => none | some (.bad e p) => some (.bad e p) | some (.ok y r) => some (nodeR p op [y] r) : Option (Rs Ex)) = some R) :
    ∃ Y : Rs Ex, unF f (d + 1) l = some Y ∧ R = Y.andThen fun e r => nodeR p op [e] r := by
  cases hk : unF f (d + 1) l with
  | none => rw [hk] at h; cases h
  | some Y =>
    rw [hk] at h
    refine ⟨Y, rfl, ?_⟩
    cases Y with
    | bad e q => cases h; rfl
    | ok e r => cases h; rfl
theorem un_ht {f d op : Nat} {l : List Tk} {Y : Rs Ex} {y : ET} {ne ne' : Nat} (hY : unF f d l = some Y) (hy : ∀ e r, Y = .ok e r → y.ex = e ∧ ne' = ne) {l2 : List Tk}
    (q : (Y.andThen fun _ r => (.ok () r : Rs Unit)) = .ok () l2) : htX (.mk op 0 0 [] [y.ex]) ≤ 1048576 := by
  cases Y with
  | bad e p => cases q
  | ok e r =>
    have h1 := (hy e r rfl).1
    have h2 := (rule_ht f).2.2.1 _ _ _ _ hY
    rw [h1]
    simp only [htX, htL]
    omega
theorem un_end {L : List Tk} {en k er pl p op : Nat} {Y : Rs Ex} {y N : ET} {ne ne' : Nat}
    (hS : StOf L en k er pl ((Y.andThen fun _ r => (.ok () r : Rs Unit)).andThen fun _ r => (if 32 < htX N.ex then .bad 160 p else .ok () r : Rs Unit)))
    (hN : N.ex = .mk op 0 0 [] [y.ex]) (hy : ∀ e r, Y = .ok e r → y.ex = e ∧ ne' = ne) : StOf L en k er pl (Y.andThen fun e r => nodeR p op [e] r) := by
  cases Y with
  | bad e q => exact hS
  | ok e r =>
    have h1 := (hy e r rfl).1
    simp only [andThen_ok] at hS ⊢
    unfold nodeR
    rw [hN, h1] at hS
    split
    · next hc => rw [if_pos hc] at hS; exact hS
    · next hc => rw [if_neg hc] at hS; exact hS
theorem un_val {p op : Nat} {Y : Rs Ex} {y N : ET} {ne ne' : Nat} {e : Ex} {l2 : List Tk} (he : (Y.andThen fun e r => nodeR p op [e] r) = .ok e l2)
    (hN : N.ex = .mk op 0 0 [] [y.ex]) (hy : ∀ e r, Y = .ok e r → y.ex = e ∧ ne' = ne + 1) : N.ex = e ∧ ne' - 1 = ne := by
  cases Y with
  | bad e q => cases he
  | ok e' r =>
    have h1 := hy e' r rfl
    simp only [andThen_ok] at he
    unfold nodeR at he
    split at he
    · cases he
    · cases he
      exact ⟨by rw [hN, h1.1], by omega⟩

set_option maxRecDepth 100000 in
set_option maxHeartbeats 6400000 in
theorem unary_of (f : Nat) (hU : UnW f) (hP : PrW (f + 1)) : UnW (f + 1) := by
  intro R B g L a c k en d bl w hd hok h hQ hB
  have hlt := hQ.lt
  have hlow := hQ.low
  have HQ : Hid (∀ u, Below w.heap.size w u → Qd B u g L a c k en 0 0 d bl) := fun u hu => hQ.below hu
  have HN : Hid (∀ u, Qd B u g L a c k en 0 0 d bl → Calls Tryz.prog 41 #[.pointer (some ⟨g, 0, none⟩)] u fun r w' => r = .returned (.int .i64 ((hdT (aheadT L k en)).place : Int)) ∧ ∃ m, w' = u.drewN m) := fun u hu => here_any g L a c k en 0 0 d bl u hu
  have HI : Hid (∀ u, Qd B u g L a c k en 0 0 d bl → Calls Tryz.prog 63 #[.pointer (some ⟨g, 0, none⟩), .string ⟨#[45]⟩] u fun r w' => r = .returned (.bool (decide ((hdT (aheadT L k en)).text = [45]))) ∧ ∃ m, w' = u.drewN m) := fun u hu => is_any g L a c k en 0 0 d bl ⟨#[45]⟩ (by decide) u hu
  have HJ : Hid (∀ u, Qd B u g L a c k en 0 0 d bl → Calls Tryz.prog 63 #[.pointer (some ⟨g, 0, none⟩), .string ⟨#[33]⟩] u fun r w' => r = .returned (.bool (decide ((hdT (aheadT L k en)).text = [33]))) ∧ ∃ m, w' = u.drewN m) := fun u hu => is_any g L a c k en 0 0 d bl ⟨#[33]⟩ (by decide) u hu
  have hat := @ahead_tl L k en
  by_cases i1 : (hdT (aheadT L k en)).text = [45]
  · rw [unF] at h
    generalize aheadT L k en = l at *
    have h0 : openOf (hdT l).text = 16 := by rw [i1]; decide
    obtain ⟨hk, htl⟩ := hat (.inl (by rw [i1]; decide))
    rw [if_neg (by rw [h0]; simp), h0, if_pos (show ((16 : Nat) = 16 ∨ (16 : Nat) = 17) by decide), htl] at h
    simp only [decide_eq_true i1] at HI
    simp only [decide_eq_false (show ¬ (hdT l).text = [33] by rw [i1]; decide)] at HJ
    have hdl : d ≤ 1048576 := by omega
    generalize hp : (hdT l).place = p at *
    clear h0 htl hat hP hp
    by_cases hd32 : 32 ≤ d
    · rw [if_pos hd32] at h
      obtain rfl := Option.some.inj h
      clear h hU
      go_enter Tryz.func143, Tryz.ntmps143
      go_wp2_with (first
        | ((with_reducible show wpList _ _ _ _ _ _); refine wpList_alloc_at (o := { dst := some 2, .. }) rfl 43 rfl [.int .u8 0, .int .u8 0, .int .u64 0, .string ⟨#[]⟩, .slice none 0 0] 5 z29 ?_; intro w1 hA1 hb1 hs1; clear hs1)
        | (go_at_call 41; refine (HN.out _ (HQ.out _ hb1)).mono ?_; rintro r w5 ⟨rfl, m, hw⟩; have hb5 : Below w1.heap.size w1 w5 := (by rw [hw]; exact below_drewN _ _); clear hw m)
        | (go_at_call_of 63 (Value.string ⟨#[45]⟩); refine (HI.out _ ((HQ.out _ hb1).below hb5)).mono ?_; rintro r w6 ⟨rfl, m, hw⟩; have hb6 : Below w5.heap.size w5 w6 := (by rw [hw]; exact below_drewN _ _); clear hw m)
        | (go_at_call_of 63 (Value.string ⟨#[33]⟩); refine (HJ.out _ (((HQ.out _ hb1).below hb5).below hb6)).mono ?_; rintro r w7 ⟨rfl, m, hw⟩; have hb7 : Below w6.heap.size w6 w7 := (by rw [hw]; exact below_drewN _ _); clear hw m; refine Hid.out ?_))
      refine hidU ?_
      have l1 := hA1.lt
      have l5 := hb5.size
      have l6 := hb6.size
      have l7 := hb7.size
      have hA17 := ((hA1.below hb5).below hb6).below hb7
      have hQ7 := (((HQ.out _ hb1).below hb5).below hb6).below hb7
      have hB7 : But g w w7 := (((But.of_below hb1).trans (But.of_below hb5)).trans (But.of_below hb6)).trans (But.of_below hb7)
      clear hA1 hb1 hb5 hb6 hb7 HQ HN HI HJ
      obtain ⟨q0, q1, q2, q3, q4, q5, q6⟩ := q7_cells hQ7.cell
      have hlen := hQ7.len
      go_wp2_with (first
        | ((with_reducible show wpList _ _ _ _ _ _); refine wpList_store_one (P := Tryz.prog) rfl 3 (.tmp 22) (.tmp 20) rfl g 1 (.int .i64 ((k : Int) + 1)) rfl rfl 71 _ hQ7.cell (show 1 + 1 ≤ 7 by decide) i3 rfl rfl ?_; intro w8 hA8 hb8 hs; clear hs; refine Hid.out ?_))
      refine hidU ?_
      have hQ8 : Qd B w8 g L a c (k + 1) en 0 0 d bl := hQ7.set hA8 hb8 hk
      have hA18 := hb8.at hA17 (by omega)
      have hD := deeper_any g L a c (k + 1) en d bl p hdl _ hQ8
      simp only [if_pos hd32] at hD
      clear q0 q1 q2 q3 q4 q5 q6 hA8 hQ7 hA17 hlen
      go_wp2_with (first
        | (go_at_call 169; refine hD.mono ?_; rintro r w9 ⟨rfl, hQ9, hb9⟩; have hA19 := hb9.at hA18 (by omega))
        | (go_at_call 30; refine (refOk_any g L.length a c L.length en 160 p (d + 1) bl _ hQ9.cell).mono ?_; rintro r u ⟨rfl, hu⟩; obtain rfl := hu.symm)
        | ((with_reducible show wpList _ _ _ _ _ _); refine wpList_build_at rfl 43 _ rfl noX.cells (by kernel_rfl) ?_)
        | ((with_reducible show wpList _ _ _ _ _ _); refine wpList_store_at (P := Tryz.prog) rfl 43 (.tmp 2) (.tmp 29) rfl w.heap.size noX.cells rfl rfl 43 _ hA19 (i43 _) (len43 _) (ET.one _) ?_; intro wz hAz hbz hsz; clear hsz))
      refine bodyPost_ret (results_at rfl _ _ w.heap.size 43 noX.cells _ rfl hAz Tryz.underlying43 rfl (i43 _)) rfl ?_
      exact ⟨noX, _, _, _, d + 1, rfl, noX_tw _ _, ((hB7.trans hb8).trans hb9).fresh hbz (Nat.le_refl _), hQ9.but hbz hB, ⟨rfl, rfl, rfl, by decide⟩, by omega, by omega, fun e l he => by cases he⟩
    · rw [if_neg hd32] at h
      obtain ⟨Y, hY, rfl⟩ := un_spec h
      clear h
      go_enter Tryz.func143, Tryz.ntmps143
      go_wp2_with (first
        | ((with_reducible show wpList _ _ _ _ _ _); refine wpList_alloc_at (o := { dst := some 2, .. }) rfl 43 rfl [.int .u8 0, .int .u8 0, .int .u64 0, .string ⟨#[]⟩, .slice none 0 0] 5 z29 ?_; intro w1 hA1 hb1 hs1; clear hs1)
        | (go_at_call 41; refine (HN.out _ (HQ.out _ hb1)).mono ?_; rintro r w5 ⟨rfl, m, hw⟩; have hb5 : Below w1.heap.size w1 w5 := (by rw [hw]; exact below_drewN _ _); clear hw m)
        | (go_at_call_of 63 (Value.string ⟨#[45]⟩); refine (HI.out _ ((HQ.out _ hb1).below hb5)).mono ?_; rintro r w6 ⟨rfl, m, hw⟩; have hb6 : Below w5.heap.size w5 w6 := (by rw [hw]; exact below_drewN _ _); clear hw m)
        | (go_at_call_of 63 (Value.string ⟨#[33]⟩); refine (HJ.out _ (((HQ.out _ hb1).below hb5).below hb6)).mono ?_; rintro r w7 ⟨rfl, m, hw⟩; have hb7 : Below w6.heap.size w6 w7 := (by rw [hw]; exact below_drewN _ _); clear hw m; refine Hid.out ?_))
      refine hidU ?_
      have l1 := hA1.lt
      have l5 := hb5.size
      have l6 := hb6.size
      have l7 := hb7.size
      have hA17 := ((hA1.below hb5).below hb6).below hb7
      have hQ7 := (((HQ.out _ hb1).below hb5).below hb6).below hb7
      have hB7 : But g w w7 := (((But.of_below hb1).trans (But.of_below hb5)).trans (But.of_below hb6)).trans (But.of_below hb7)
      clear hA1 hb1 hb5 hb6 hb7 HQ HN HI HJ
      obtain ⟨q0, q1, q2, q3, q4, q5, q6⟩ := q7_cells hQ7.cell
      have hlen := hQ7.len
      go_wp2_with (first
        | ((with_reducible show wpList _ _ _ _ _ _); refine wpList_store_one (P := Tryz.prog) rfl 3 (.tmp 22) (.tmp 20) rfl g 1 (.int .i64 ((k : Int) + 1)) rfl rfl 71 _ hQ7.cell (show 1 + 1 ≤ 7 by decide) i3 rfl rfl ?_; intro w8 hA8 hb8 hs; clear hs; refine Hid.out ?_))
      refine hidU ?_
      have hQ8 : Qd B w8 g L a c (k + 1) en 0 0 d bl := hQ7.set hA8 hb8 hk
      have hA18 := hb8.at hA17 (by omega)
      have hD := deeper_any g L a c (k + 1) en d bl p hdl _ hQ8
      simp only [if_neg hd32] at hD
      clear q0 q1 q2 q3 q4 q5 q6 hA8 hQ7 hA17 hlen
      go_wp2_with (first
        | (go_at_call 169; refine hD.mono ?_; rintro r w9 ⟨rfl, hQ9, hb9⟩; have hA19 := hb9.at hA18 (by omega))
        | (go_at_call 30; refine (refOk_any g L.length a c (k + 1) en 0 0 (d + 1) bl _ hQ9.cell).mono ?_; rintro r u ⟨rfl, hu⟩; obtain rfl := hu.symm)
        | (go_at_call 143; refine (hU Y B g L a c (k + 1) en (d + 1) bl _ (by omega) hok hY hQ9 (by have := hb8.size; have := hb9.size; omega)).mono ?_; rintro _ w11 ⟨y, k11, er11, pl11, ne11, rfl, hT11, hb11, hQ11, hS11, hn1, hn2, hy⟩)
        | ((with_reducible show wpList _ _ _ _ _ _); refine wpList_alloc_at (o := { dst := some 5, .. }) rfl 43 rfl [.int .u8 0, .int .u8 0, .int .u64 0, .string ⟨#[]⟩, .slice none 0 0] 5 z29 ?_; intro w12 hA12 hb12 hs12; clear hs12)
        | ((with_reducible show wpList _ _ _ _ _ _); refine wpList_store_at (P := Tryz.prog) rfl 43 (.tmp 5) (.tmp 31) rfl w11.heap.size y.cells rfl rfl 43 _ hA12 (i43 _) (len43 _) (ET.one _) ?_; intro w13 hA13 hb13 hs13; clear hs13; refine Hid.out ?_))
      refine hidU ?_
      have l8 := hb8.size
      have l9 := hb9.size
      have l11 := hb11.size
      have l12 := hA12.lt
      have l13 := hb13.size
      have hA113 := hb13.at ((hb11.at hA19 (by omega)).below hb12) (by omega)
      have hT13 := hT11.but ((But.of_below (g := g) hb12).fresh hb13 (Nat.le_refl _)) (.inl (by omega))
      have hQ13 := (hQ11.below hb12).but hb13 (by omega)
      have hB13 : But g w w13 := ((((hB7.trans hb8).trans hb9).trans hb11).trans (But.of_below hb12)).fresh hb13 (by omega)
      clear hQ8 hA18 hA19 hB7 hb8 hb9 hb11 hb12 hb13 hQ9 hQ11 hA12 hT11 hD
      obtain ⟨q0, q1, q2, q3, q4, q5, q6⟩ := q7_cells hQ13.cell
      go_wp2_with (first
        | ((with_reducible show wpList _ _ _ _ _ _); refine wpList_store_one (P := Tryz.prog) rfl 3 (.tmp 38) (.tmp 36) rfl g 5 (.int .i64 ((ne11 : Int) - 1)) rfl rfl 71 _ hQ13.cell (show 5 + 1 ≤ 7 by decide) i3 rfl rfl ?_; intro w15 hA15 hb15 hs; clear hs; refine Hid.out ?_))
      refine hidU ?_
      have hsub : (ne11 : Int) - 1 = ((ne11 - 1 : Nat) : Int) := by omega
      rw [hsub] at hA15
      have hQ15 : Qd B w15 g L a c k11 en er11 pl11 (ne11 - 1) bl := hQ13.set hA15 hb15 hQ13.le
      have l15 := hb15.size
      have hA1315 := hb15.at hA13 (by omega)
      have hA115 := hb15.at hA113 (by omega)
      have hT15 := hT13.but hb15 (.inl (by omega))
      have hB15 := hB13.trans hb15
      clear q0 q1 q2 q3 q4 q5 q6 hsub hA15 hb15 hQ13 hA13 hA113 hT13 hB13
      go_wp2_with (first
        | ((with_reducible show wpList _ _ _ _ _ _); refine wpList_load_at (P := Tryz.prog) rfl 43 (.tmp 5) rfl w11.heap.size rfl 43 y.cells hA1315 _ Tryz.underlying43 rfl (i43 _) ?_)
        | ((with_reducible show wpList _ _ _ _ _ _); refine wpList_kid1 rfl (.tmp 41) rfl y rfl ?_; intro w16 hA16 hb16 hs16; clear hs16; refine Hid.out ?_))
      refine hidU ?_
      have l16 := hb16.size
      have hN := kid1_in (op := 16) hA16 (hT15.below hb16) (by decide) (by omega)
      obtain ⟨N, hNd⟩ : ∃ N : ET, N = ET.mk 16 0 0 ⟨#[]⟩ (some ⟨w15.heap.size, 0, none⟩) 1 [y] := ⟨_, rfl⟩
      have hNc : N.cells = [.int .u8 16, .int .u8 0, .int .u64 0, .string ⟨#[]⟩, .slice (some ⟨w15.heap.size, 0, none⟩) 1 1] := by rw [hNd]; rfl
      have hNx : N.ex = .mk 16 0 0 [] [y.ex] := by rw [hNd]; rfl
      rw [← hNd] at hN
      have hM := made_gen (B := B) g L a c k11 en er11 pl11 (ne11 - 1) bl _ hS11.unit N p w16 (hQ15.below hb16) (by omega) hN (by omega) (fun l2 q => by rw [hNx]; exact un_ht hY hy q)
      have hA116 := hA115.below hb16
      have hB16 : But g w w16 := hB15.trans (But.of_below hb16)
      rw [hNc] at hM
      clear hNd hA16 hb16 hQ15 hT15 hB15 hA115 hA1315
      go_wp2_with (first
        | ((with_reducible show wpList _ _ _ _ _ _); refine wpList_build_at rfl 43 _ rfl [.int .u8 16, .int .u8 0, .int .u64 0, .string ⟨#[]⟩, .slice (some ⟨w15.heap.size, 0, none⟩) 1 1] (by kernel_rfl) ?_)
        | (go_at_call 145; refine hM.mono ?_; rintro r w17 ⟨rfl, hT17, k17, er17, pl17, hQ17, hS17, hb17⟩; have hA117 := hb17.at hA116 (by omega))
        | ((with_reducible show wpList _ _ _ _ _ _); refine wpList_store_at (P := Tryz.prog) rfl 43 (.tmp 2) (.tmp 45) rfl w.heap.size [.int .u8 16, .int .u8 0, .int .u64 0, .string ⟨#[]⟩, .slice (some ⟨w15.heap.size, 0, none⟩) 1 1] rfl rfl 43 _ hA117 i29 rfl (by rw [← hNc]; exact ET.one N) ?_; intro wz hAz hbz hsz; clear hsz))
      rw [← hNc] at hAz
      refine bodyPost_ret (results_at rfl _ _ w.heap.size 43 N.cells _ rfl hAz Tryz.underlying43 rfl (i43 _)) rfl ?_
      refine ⟨N, k17, er17, pl17, ne11 - 1, rfl, (hT17.but hbz (.inl (by omega))).low (by omega), (hB16.trans hb17).fresh hbz (Nat.le_refl _), hQ17.but hbz hB, ?_, by omega, by omega, ?_⟩
      · exact un_end hS17 hNx hy
      · exact fun e l2 he => un_val he hNx hy
  · by_cases i2 : (hdT (aheadT L k en)).text = [33]
    · rw [unF] at h
      generalize aheadT L k en = l at *
      have h0 : openOf (hdT l).text = 17 := by rw [i2]; decide
      obtain ⟨hk, htl⟩ := hat (.inl (by rw [i2]; decide))
      rw [if_neg (by rw [h0]; simp), h0, if_pos (show ((17 : Nat) = 16 ∨ (17 : Nat) = 17) by decide), htl] at h
      simp only [decide_eq_false i1] at HI
      simp only [decide_eq_true i2] at HJ
      have hdl : d ≤ 1048576 := by omega
      generalize hp : (hdT l).place = p at *
      clear h0 htl hat hP hp
      by_cases hd32 : 32 ≤ d
      · rw [if_pos hd32] at h
        obtain rfl := Option.some.inj h
        clear h hU
        go_enter Tryz.func143, Tryz.ntmps143
        go_wp2_with (first
          | ((with_reducible show wpList _ _ _ _ _ _); refine wpList_alloc_at (o := { dst := some 2, .. }) rfl 43 rfl [.int .u8 0, .int .u8 0, .int .u64 0, .string ⟨#[]⟩, .slice none 0 0] 5 z29 ?_; intro w1 hA1 hb1 hs1; clear hs1)
          | (go_at_call 41; refine (HN.out _ (HQ.out _ hb1)).mono ?_; rintro r w5 ⟨rfl, m, hw⟩; have hb5 : Below w1.heap.size w1 w5 := (by rw [hw]; exact below_drewN _ _); clear hw m)
          | (go_at_call_of 63 (Value.string ⟨#[45]⟩); refine (HI.out _ ((HQ.out _ hb1).below hb5)).mono ?_; rintro r w6 ⟨rfl, m, hw⟩; have hb6 : Below w5.heap.size w5 w6 := (by rw [hw]; exact below_drewN _ _); clear hw m)
          | (go_at_call_of 63 (Value.string ⟨#[33]⟩); refine (HJ.out _ (((HQ.out _ hb1).below hb5).below hb6)).mono ?_; rintro r w7 ⟨rfl, m, hw⟩; have hb7 : Below w6.heap.size w6 w7 := (by rw [hw]; exact below_drewN _ _); clear hw m; refine Hid.out ?_))
        refine hidU ?_
        have l1 := hA1.lt
        have l5 := hb5.size
        have l6 := hb6.size
        have l7 := hb7.size
        have hA17 := ((hA1.below hb5).below hb6).below hb7
        have hQ7 := (((HQ.out _ hb1).below hb5).below hb6).below hb7
        have hB7 : But g w w7 := (((But.of_below hb1).trans (But.of_below hb5)).trans (But.of_below hb6)).trans (But.of_below hb7)
        clear hA1 hb1 hb5 hb6 hb7 HQ HN HI HJ
        obtain ⟨q0, q1, q2, q3, q4, q5, q6⟩ := q7_cells hQ7.cell
        have hlen := hQ7.len
        go_wp2_with (first
          | ((with_reducible show wpList _ _ _ _ _ _); refine wpList_store_one (P := Tryz.prog) rfl 3 (.tmp 22) (.tmp 20) rfl g 1 (.int .i64 ((k : Int) + 1)) rfl rfl 71 _ hQ7.cell (show 1 + 1 ≤ 7 by decide) i3 rfl rfl ?_; intro w8 hA8 hb8 hs; clear hs; refine Hid.out ?_))
        refine hidU ?_
        have hQ8 : Qd B w8 g L a c (k + 1) en 0 0 d bl := hQ7.set hA8 hb8 hk
        have hA18 := hb8.at hA17 (by omega)
        have hD := deeper_any g L a c (k + 1) en d bl p hdl _ hQ8
        simp only [if_pos hd32] at hD
        clear q0 q1 q2 q3 q4 q5 q6 hA8 hQ7 hA17 hlen
        go_wp2_with (first
          | (go_at_call 169; refine hD.mono ?_; rintro r w9 ⟨rfl, hQ9, hb9⟩; have hA19 := hb9.at hA18 (by omega))
          | (go_at_call 30; refine (refOk_any g L.length a c L.length en 160 p (d + 1) bl _ hQ9.cell).mono ?_; rintro r u ⟨rfl, hu⟩; obtain rfl := hu.symm)
          | ((with_reducible show wpList _ _ _ _ _ _); refine wpList_build_at rfl 43 _ rfl noX.cells (by kernel_rfl) ?_)
          | ((with_reducible show wpList _ _ _ _ _ _); refine wpList_store_at (P := Tryz.prog) rfl 43 (.tmp 2) (.tmp 29) rfl w.heap.size noX.cells rfl rfl 43 _ hA19 (i43 _) (len43 _) (ET.one _) ?_; intro wz hAz hbz hsz; clear hsz))
        refine bodyPost_ret (results_at rfl _ _ w.heap.size 43 noX.cells _ rfl hAz Tryz.underlying43 rfl (i43 _)) rfl ?_
        exact ⟨noX, _, _, _, d + 1, rfl, noX_tw _ _, ((hB7.trans hb8).trans hb9).fresh hbz (Nat.le_refl _), hQ9.but hbz hB, ⟨rfl, rfl, rfl, by decide⟩, by omega, by omega, fun e l he => by cases he⟩
      · rw [if_neg hd32] at h
        obtain ⟨Y, hY, rfl⟩ := un_spec h
        clear h
        go_enter Tryz.func143, Tryz.ntmps143
        go_wp2_with (first
          | ((with_reducible show wpList _ _ _ _ _ _); refine wpList_alloc_at (o := { dst := some 2, .. }) rfl 43 rfl [.int .u8 0, .int .u8 0, .int .u64 0, .string ⟨#[]⟩, .slice none 0 0] 5 z29 ?_; intro w1 hA1 hb1 hs1; clear hs1)
          | (go_at_call 41; refine (HN.out _ (HQ.out _ hb1)).mono ?_; rintro r w5 ⟨rfl, m, hw⟩; have hb5 : Below w1.heap.size w1 w5 := (by rw [hw]; exact below_drewN _ _); clear hw m)
          | (go_at_call_of 63 (Value.string ⟨#[45]⟩); refine (HI.out _ ((HQ.out _ hb1).below hb5)).mono ?_; rintro r w6 ⟨rfl, m, hw⟩; have hb6 : Below w5.heap.size w5 w6 := (by rw [hw]; exact below_drewN _ _); clear hw m)
          | (go_at_call_of 63 (Value.string ⟨#[33]⟩); refine (HJ.out _ (((HQ.out _ hb1).below hb5).below hb6)).mono ?_; rintro r w7 ⟨rfl, m, hw⟩; have hb7 : Below w6.heap.size w6 w7 := (by rw [hw]; exact below_drewN _ _); clear hw m; refine Hid.out ?_))
        refine hidU ?_
        have l1 := hA1.lt
        have l5 := hb5.size
        have l6 := hb6.size
        have l7 := hb7.size
        have hA17 := ((hA1.below hb5).below hb6).below hb7
        have hQ7 := (((HQ.out _ hb1).below hb5).below hb6).below hb7
        have hB7 : But g w w7 := (((But.of_below hb1).trans (But.of_below hb5)).trans (But.of_below hb6)).trans (But.of_below hb7)
        clear hA1 hb1 hb5 hb6 hb7 HQ HN HI HJ
        obtain ⟨q0, q1, q2, q3, q4, q5, q6⟩ := q7_cells hQ7.cell
        have hlen := hQ7.len
        go_wp2_with (first
          | ((with_reducible show wpList _ _ _ _ _ _); refine wpList_store_one (P := Tryz.prog) rfl 3 (.tmp 22) (.tmp 20) rfl g 1 (.int .i64 ((k : Int) + 1)) rfl rfl 71 _ hQ7.cell (show 1 + 1 ≤ 7 by decide) i3 rfl rfl ?_; intro w8 hA8 hb8 hs; clear hs; refine Hid.out ?_))
        refine hidU ?_
        have hQ8 : Qd B w8 g L a c (k + 1) en 0 0 d bl := hQ7.set hA8 hb8 hk
        have hA18 := hb8.at hA17 (by omega)
        have hD := deeper_any g L a c (k + 1) en d bl p hdl _ hQ8
        simp only [if_neg hd32] at hD
        clear q0 q1 q2 q3 q4 q5 q6 hA8 hQ7 hA17 hlen
        go_wp2_with (first
          | (go_at_call 169; refine hD.mono ?_; rintro r w9 ⟨rfl, hQ9, hb9⟩; have hA19 := hb9.at hA18 (by omega))
          | (go_at_call 30; refine (refOk_any g L.length a c (k + 1) en 0 0 (d + 1) bl _ hQ9.cell).mono ?_; rintro r u ⟨rfl, hu⟩; obtain rfl := hu.symm)
          | (go_at_call 143; refine (hU Y B g L a c (k + 1) en (d + 1) bl _ (by omega) hok hY hQ9 (by have := hb8.size; have := hb9.size; omega)).mono ?_; rintro _ w11 ⟨y, k11, er11, pl11, ne11, rfl, hT11, hb11, hQ11, hS11, hn1, hn2, hy⟩)
          | ((with_reducible show wpList _ _ _ _ _ _); refine wpList_alloc_at (o := { dst := some 5, .. }) rfl 43 rfl [.int .u8 0, .int .u8 0, .int .u64 0, .string ⟨#[]⟩, .slice none 0 0] 5 z29 ?_; intro w12 hA12 hb12 hs12; clear hs12)
          | ((with_reducible show wpList _ _ _ _ _ _); refine wpList_store_at (P := Tryz.prog) rfl 43 (.tmp 5) (.tmp 31) rfl w11.heap.size y.cells rfl rfl 43 _ hA12 (i43 _) (len43 _) (ET.one _) ?_; intro w13 hA13 hb13 hs13; clear hs13; refine Hid.out ?_))
        refine hidU ?_
        have l8 := hb8.size
        have l9 := hb9.size
        have l11 := hb11.size
        have l12 := hA12.lt
        have l13 := hb13.size
        have hA113 := hb13.at ((hb11.at hA19 (by omega)).below hb12) (by omega)
        have hT13 := hT11.but ((But.of_below (g := g) hb12).fresh hb13 (Nat.le_refl _)) (.inl (by omega))
        have hQ13 := (hQ11.below hb12).but hb13 (by omega)
        have hB13 : But g w w13 := ((((hB7.trans hb8).trans hb9).trans hb11).trans (But.of_below hb12)).fresh hb13 (by omega)
        clear hQ8 hA18 hA19 hB7 hb8 hb9 hb11 hb12 hb13 hQ9 hQ11 hA12 hT11 hD
        obtain ⟨q0, q1, q2, q3, q4, q5, q6⟩ := q7_cells hQ13.cell
        go_wp2_with (first
          | ((with_reducible show wpList _ _ _ _ _ _); refine wpList_store_one (P := Tryz.prog) rfl 3 (.tmp 38) (.tmp 36) rfl g 5 (.int .i64 ((ne11 : Int) - 1)) rfl rfl 71 _ hQ13.cell (show 5 + 1 ≤ 7 by decide) i3 rfl rfl ?_; intro w15 hA15 hb15 hs; clear hs; refine Hid.out ?_))
        refine hidU ?_
        have hsub : (ne11 : Int) - 1 = ((ne11 - 1 : Nat) : Int) := by omega
        rw [hsub] at hA15
        have hQ15 : Qd B w15 g L a c k11 en er11 pl11 (ne11 - 1) bl := hQ13.set hA15 hb15 hQ13.le
        have l15 := hb15.size
        have hA1315 := hb15.at hA13 (by omega)
        have hA115 := hb15.at hA113 (by omega)
        have hT15 := hT13.but hb15 (.inl (by omega))
        have hB15 := hB13.trans hb15
        clear q0 q1 q2 q3 q4 q5 q6 hsub hA15 hb15 hQ13 hA13 hA113 hT13 hB13
        go_wp2_with (first
          | ((with_reducible show wpList _ _ _ _ _ _); refine wpList_load_at (P := Tryz.prog) rfl 43 (.tmp 5) rfl w11.heap.size rfl 43 y.cells hA1315 _ Tryz.underlying43 rfl (i43 _) ?_)
          | ((with_reducible show wpList _ _ _ _ _ _); refine wpList_kid1 rfl (.tmp 41) rfl y rfl ?_; intro w16 hA16 hb16 hs16; clear hs16; refine Hid.out ?_))
        refine hidU ?_
        have l16 := hb16.size
        have hN := kid1_in (op := 17) hA16 (hT15.below hb16) (by decide) (by omega)
        obtain ⟨N, hNd⟩ : ∃ N : ET, N = ET.mk 17 0 0 ⟨#[]⟩ (some ⟨w15.heap.size, 0, none⟩) 1 [y] := ⟨_, rfl⟩
        have hNc : N.cells = [.int .u8 17, .int .u8 0, .int .u64 0, .string ⟨#[]⟩, .slice (some ⟨w15.heap.size, 0, none⟩) 1 1] := by rw [hNd]; rfl
        have hNx : N.ex = .mk 17 0 0 [] [y.ex] := by rw [hNd]; rfl
        rw [← hNd] at hN
        have hM := made_gen (B := B) g L a c k11 en er11 pl11 (ne11 - 1) bl _ hS11.unit N p w16 (hQ15.below hb16) (by omega) hN (by omega) (fun l2 q => by rw [hNx]; exact un_ht hY hy q)
        have hA116 := hA115.below hb16
        have hB16 : But g w w16 := hB15.trans (But.of_below hb16)
        rw [hNc] at hM
        clear hNd hA16 hb16 hQ15 hT15 hB15 hA115 hA1315
        go_wp2_with (first
          | ((with_reducible show wpList _ _ _ _ _ _); refine wpList_build_at rfl 43 _ rfl [.int .u8 17, .int .u8 0, .int .u64 0, .string ⟨#[]⟩, .slice (some ⟨w15.heap.size, 0, none⟩) 1 1] (by kernel_rfl) ?_)
          | (go_at_call 145; refine hM.mono ?_; rintro r w17 ⟨rfl, hT17, k17, er17, pl17, hQ17, hS17, hb17⟩; have hA117 := hb17.at hA116 (by omega))
          | ((with_reducible show wpList _ _ _ _ _ _); refine wpList_store_at (P := Tryz.prog) rfl 43 (.tmp 2) (.tmp 45) rfl w.heap.size [.int .u8 17, .int .u8 0, .int .u64 0, .string ⟨#[]⟩, .slice (some ⟨w15.heap.size, 0, none⟩) 1 1] rfl rfl 43 _ hA117 i29 rfl (by rw [← hNc]; exact ET.one N) ?_; intro wz hAz hbz hsz; clear hsz))
        rw [← hNc] at hAz
        refine bodyPost_ret (results_at rfl _ _ w.heap.size 43 N.cells _ rfl hAz Tryz.underlying43 rfl (i43 _)) rfl ?_
        refine ⟨N, k17, er17, pl17, ne11 - 1, rfl, (hT17.but hbz (.inl (by omega))).low (by omega), (hB16.trans hb17).fresh hbz (Nat.le_refl _), hQ17.but hbz hB, ?_, by omega, by omega, ?_⟩
        · exact un_end hS17 hNx hy
        · exact fun e l2 he => un_val he hNx hy
    · have ho16 : openOf (hdT (aheadT L k en)).text ≠ 16 := by
        unfold openOf
        rw [if_neg i1, if_neg i2]
        split
        · decide
        · split <;> decide
      have ho17 : openOf (hdT (aheadT L k en)).text ≠ 17 := by
        unfold openOf
        rw [if_neg i1, if_neg i2]
        split
        · decide
        · split <;> decide
      have HP : Hid (∀ u, Qd B u g L a c k en 0 0 d bl → B ≤ u.heap.size → Calls Tryz.prog 168 #[.pointer (some ⟨g, 0, none⟩)] u fun r w' => PostR B g L a c en d bl u R r w') := fun u hu hs => hP R B g L a c k en d bl u hd hok ho16 ho17 h hu hs
      simp only [decide_eq_false i1] at HI
      simp only [decide_eq_false i2] at HJ
      generalize (hdT (aheadT L k en)).place = p at HN
      clear h hat i1 i2 ho16 ho17 hU hP hQ
      go_enter Tryz.func143, Tryz.ntmps143
      go_wp2_with (first
        | ((with_reducible show wpList _ _ _ _ _ _); refine wpList_alloc_at (o := { dst := some 2, .. }) rfl 43 rfl [.int .u8 0, .int .u8 0, .int .u64 0, .string ⟨#[]⟩, .slice none 0 0] 5 z29 ?_; intro w1 hA1 hb1 hs1; clear hs1)
        | (go_at_call 41; refine (HN.out _ (HQ.out _ hb1)).mono ?_; rintro r w5 ⟨rfl, m, hw⟩; have hb5 : Below w1.heap.size w1 w5 := (by rw [hw]; exact below_drewN _ _); clear hw m)
        | (go_at_call_of 63 (Value.string ⟨#[45]⟩); refine (HI.out _ ((HQ.out _ hb1).below hb5)).mono ?_; rintro r w6 ⟨rfl, m, hw⟩; have hb6 : Below w5.heap.size w5 w6 := (by rw [hw]; exact below_drewN _ _); clear hw m)
        | (go_at_call_of 63 (Value.string ⟨#[33]⟩); refine (HJ.out _ (((HQ.out _ hb1).below hb5).below hb6)).mono ?_; rintro r w7 ⟨rfl, m, hw⟩; have hb7 : Below w6.heap.size w6 w7 := (by rw [hw]; exact below_drewN _ _); clear hw m; refine Hid.out ?_))
      refine hidU ?_
      have l1 := hA1.lt
      have l5 := hb5.size
      have l6 := hb6.size
      have l7 := hb7.size
      have hA17 := ((hA1.below hb5).below hb6).below hb7
      have hQ7 := (((HQ.out _ hb1).below hb5).below hb6).below hb7
      have hB7 : But g w w7 := (((But.of_below hb1).trans (But.of_below hb5)).trans (But.of_below hb6)).trans (But.of_below hb7)
      clear hA1 hb1 hb5 hb6 hb7 HQ HN HI HJ
      go_wp2_with (first
        | (go_at_call 168; refine (HP.out _ hQ7 (by omega)).mono ?_; rintro _ w8 ⟨y, k8, er8, pl8, ne8, rfl, hT8, hb8, hQ8, hS8, hn1, hn2, hy⟩; have hA18 := hb8.at hA17 (by omega))
        | ((with_reducible show wpList _ _ _ _ _ _); refine wpList_store_at (P := Tryz.prog) rfl 43 (.tmp 2) (.tmp 15) rfl w.heap.size y.cells rfl rfl 43 _ hA18 (i43 _) (len43 _) (ET.one _) ?_; intro wz hAz hbz hsz; clear hsz))
      refine bodyPost_ret (results_at rfl _ _ w.heap.size 43 y.cells _ rfl hAz Tryz.underlying43 rfl (i43 _)) rfl ?_
      exact ⟨y, k8, er8, pl8, ne8, rfl, (hT8.but hbz (.inl (by omega))).low (by omega), (hB7.trans hb8).fresh hbz (Nat.le_refl _), hQ8.but hbz hB, hS8, hn1, hn2, hy⟩

end Go.Proofs.YtjgggmjjikopeaaGreatDoor
