/- J -/
import Derived.Test.YtjgggmjjikopeaaGreatDoorJ32
set_option linter.unusedVariables false
set_option maxRecDepth 100000
set_option maxHeartbeats 6400000
open Go.RowKit
namespace Go.Proofs.YtjgggmjjikopeaaGreatDoor
theorem zb0 {f d p op : Nat} {l : List Tk} {R : Rs Ex}
  (h : (match unF f (d + 1) l with | none => none | some (.bad e p) => some (.bad e p) | some (.ok y r) => some (yg p op [y] r) : Option (Rs Ex)) = some R) :
  ∃ Y : Rs Ex, unF f (d + 1) l = some Y /\ R = Y.andThen fun e r => yg p op [e] r := by
 cases hk : unF f (d + 1) l with
 | none => rw [hk] at h; cases h
 | some Y =>
  rw [hk] at h
  refine ⟨Y, rfl, ?_⟩
  cases Y with
  | bad e q => cases h; rfl
  | ok e r => cases h; rfl
theorem zf5 {f d op : Nat} {l : List Tk} {Y : Rs Ex} {y : ET} {ne ne' : Nat} (hY : unF f d l = some Y) (hy : ∀ e r, Y = .ok e r -> y.ex = e /\ ne' = ne) {l2 : List Tk}
  (q : (Y.andThen fun _ r => (.ok () r : Rs Unit)) = .ok () l2) : htX (.mk op 0 0 [] [y.ex]) <= 1048576 := by
 cases Y with
 | bad e p => cases q
 | ok e r =>
  have h1 := (hy e r rfl).1
  have h2 := (JY f).2.2.1 _ _ _ _ hY
  rw [h1]
  simp only [htX, htL]
  omega
theorem zdN {L : List Tk} {en k er pl p op : Nat} {Y : Rs Ex} {y N : ET} {ne ne' : Nat}
  (hS : StOf L en k er pl ((Y.andThen fun _ r => (.ok () r : Rs Unit)).andThen fun _ r => (if 32 < htX N.ex then .bad 160 p else .ok () r : Rs Unit)))
  (hN : N.ex = .mk op 0 0 [] [y.ex]) (hy : ∀ e r, Y = .ok e r -> y.ex = e /\ ne' = ne) : StOf L en k er pl (Y.andThen fun e r => yg p op [e] r) := by
 cases Y with
 | bad e q => exact hS
 | ok e r =>
  have h1 := (hy e r rfl).1
  simp only [andThen_ok] at hS ⊢
  unfold yg
  rw [hN, h1] at hS
  split
  ·next hc => rw [zi hc] at hS; exact hS
  ·next hc => rw [ze hc] at hS; exact hS
theorem zdM {p op : Nat} {Y : Rs Ex} {y N : ET} {ne ne' : Nat} {e : Ex} {l2 : List Tk} (he : (Y.andThen fun e r => yg p op [e] r) = .ok e l2)
  (hN : N.ex = .mk op 0 0 [] [y.ex]) (hy : ∀ e r, Y = .ok e r -> y.ex = e /\ ne' = ne + 1) : N.ex = e /\ ne' - 1 = ne := by
 cases Y with
 | bad e q => cases he
 | ok e' r =>
  have h1 := hy e' r rfl
  simp only [andThen_ok] at he
  unfold yg at he
  split at he
  ·cases he
  ·cases he
   exact ⟨by rw [hN, h1.1], by omega⟩
theorem zdL (f : Nat) (hU : UnW f) (hP : PrW (f + 1)) : UnW (f + 1) := by
 intro R B g L a c k en d bl w hd hok h hQ hB
 have hlt := hQ.lt
 have hlow := hQ.low
 have HQ : Hid (∀ u, Below w.heap.size w u -> Qd B u g L a c k en 0 0 d bl) := fun u hu => hQ.below hu
 have HN : Hid (∀ u, Qd B u g L a c k en 0 0 d bl -> Calls Tryz.prog 41 #[.pointer (some ⟨g, 0, none⟩)] u fun r w' => r = .returned (.int .i64 ((hdT (za L k en)).place : Int)) /\ ∃ m, w' = u.drewN m) := fun u hu => ZU g L a c k en 0 0 d bl u hu
 have HI : Hid (∀ u, Qd B u g L a c k en 0 0 d bl -> Calls Tryz.prog 63 #[.pointer (some ⟨g, 0, none⟩), .string ⟨#[45]⟩] u fun r w' => r = .returned (.bool (decide ((hdT (za L k en)).text = [45]))) /\ ∃ m, w' = u.drewN m) := fun u hu => YT g L a c k en 0 0 d bl ⟨#[45]⟩ (by decide) u hu
 have HJ : Hid (∀ u, Qd B u g L a c k en 0 0 d bl -> Calls Tryz.prog 63 #[.pointer (some ⟨g, 0, none⟩), .string ⟨#[33]⟩] u fun r w' => r = .returned (.bool (decide ((hdT (za L k en)).text = [33]))) /\ ∃ m, w' = u.drewN m) := fun u hu => YT g L a c k en 0 0 d bl ⟨#[33]⟩ (by decide) u hu
 have hat := @V5 L k en
 by_cases i1 : (hdT (za L k en)).text = [45]
 ·rw [unF] at h
  generalize za L k en = l at *
  have h0 : zL (hdT l).text = 16 := by rw [i1]; decide
  obtain ⟨hk, htl⟩ := hat (.inl (by rw [i1]; decide))
  rw [ze (by rw [h0]; simp), h0, zi (show ((16 : Nat) = 16 \/ (16 : Nat) = 17) by decide), htl] at h
  simp only [yy i1] at HI
  simp only [zN (show ¬ (hdT l).text = [33] by rw [i1]; decide)] at HJ
  have hdl : d <= 1048576 := by omega
  generalize hp : (hdT l).place = p at *
  clear h0 htl hat hP hp
  go_enter Tryz.func143, Tryz.ntmps143
  go_wp2_with (first
   | (refine aL (o := { dst := some 2, .. }) rfl rfl z29 ?_; intro w1 hA1 hb1)
   | (go_at_call 41; refine (HN.out _ (HQ.out _ hb1)).mono ?_; rintro r w5 ⟨rfl, m, hw⟩; have hb5 : Below w1.heap.size w1 w5 := (by rw [hw]; exact below_drewN _ _); clear hw m)
   | (go_at_call_of 63 (Value.string ⟨#[45]⟩); refine (HI.out _ ((HQ.out _ hb1).below hb5)).mono ?_; rintro r w6 ⟨rfl, m, hw⟩; have hb6 : Below w5.heap.size w5 w6 := (by rw [hw]; exact below_drewN _ _); clear hw m)
   | (go_at_call_of 63 (Value.string ⟨#[33]⟩); refine (HJ.out _ (((HQ.out _ hb1).below hb5).below hb6)).mono ?_; rintro r w7 ⟨rfl, m, hw⟩; have hb7 : Below w6.heap.size w6 w7 := (by rw [hw]; exact below_drewN _ _); clear hw m; refine zb ?_))
  refine zd ?_
  have l1 := hA1.lt
  have l5 := hb5.size
  have l6 := hb6.size
  have l7 := hb7.size
  have hA17 := ((hA1.below hb5).below hb6).below hb7
  have hQ7 := (((HQ.out _ hb1).below hb5).below hb6).below hb7
  have hB7 : But g w w7 := (((But.of_below hb1).trans (But.of_below hb5)).trans (But.of_below hb6)).trans (But.of_below hb7)
  clear hA1 hb1 hb5 hb6 hb7 HQ HN HI HJ
  obtain ⟨q0, q1, q2, q3, q4, q5, q6⟩ := zv hQ7.cell
  have hlen := hQ7.len
  go_wp2_with (first
   | (refine zz rfl rfl hQ7.cell 1 (.int .i64 ((k : Int) + 1)) rfl rfl i3 ?_; intro w8 hA8 hb8; refine zb ?_))
  refine zd ?_
  have hQ8 : Qd B w8 g L a c (k + 1) en 0 0 d bl := hQ7.set hA8 hb8 hk
  have hA18 := hb8.at hA17 (by omega)
  have hD := Vw g L a c (k + 1) en d bl p hdl _ hQ8
  by_cases hd32 : 32 <= d
  ·rw [zi hd32] at h
   obtain rfl := yZ h
   clear h hU
   simp only [zi hd32] at hD
   clear q0 q1 q2 q3 q4 q5 q6 hA8 hQ7 hA17 hlen
   go_wp2_with (first
    | (go_at_call 169; refine hD.mono ?_; rintro r w9 ⟨rfl, hQ9, hb9⟩; have hA19 := hb9.at hA18 (by omega))
    | (go_at_call 30; refine (zJ g L.length a c L.length en 160 p (d + 1) bl _ hQ9.cell).mono ?_; rintro r u ⟨rfl, hu⟩; obtain rfl := hu.symm)
    | (refine zF rfl rfl noX.cells ?_)
    | (refine sL rfl rfl hA19 noX.cells rfl rfl (i43 _) (yP _) (ET.one _) ?_; intro wz hAz hbz))
   refine zr (zh rfl _ _ w.heap.size 43 noX.cells _ rfl hAz zR rfl (i43 _)) rfl ?_
   exact ⟨noX, _, _, _, d + 1, rfl, Ym _ _, ((hB7.trans hb8).trans hb9).fresh hbz (zj _), hQ9.but hbz hB, ⟨rfl, rfl, rfl, by decide⟩, by omega, by omega, fun e l he => by cases he⟩
  ·rw [ze hd32] at h
   obtain ⟨Y, hY, rfl⟩ := zb0 h
   clear h
   simp only [ze hd32] at hD
   clear q0 q1 q2 q3 q4 q5 q6 hA8 hQ7 hA17 hlen
   go_wp2_with (first
    | (go_at_call 169; refine hD.mono ?_; rintro r w9 ⟨rfl, hQ9, hb9⟩; have hA19 := hb9.at hA18 (by omega))
    | (go_at_call 30; refine (zJ g L.length a c (k + 1) en 0 0 (d + 1) bl _ hQ9.cell).mono ?_; rintro r u ⟨rfl, hu⟩; obtain rfl := hu.symm)
    | (go_at_call 143; refine (hU Y B g L a c (k + 1) en (d + 1) bl _ (by omega) hok hY hQ9 (by have := hb8.size; have := hb9.size; omega)).mono ?_; rintro _ w11 ⟨y, k11, er11, pl11, ne11, rfl, hT11, hb11, hQ11, hS11, hn1, hn2, hy⟩)
    | (refine aL (o := { dst := some 5, .. }) rfl rfl z29 ?_; intro w12 hA12 hb12)
    | (refine sL rfl rfl hA12 y.cells rfl rfl (i43 _) (yP _) (ET.one _) ?_; intro w13 hA13 hb13; refine zb ?_))
   refine zd ?_
   have l8 := hb8.size
   have l9 := hb9.size
   have l11 := hb11.size
   have l12 := hA12.lt
   have l13 := hb13.size
   have hA113 := hb13.at ((hb11.at hA19 (by omega)).below hb12) (by omega)
   have hT13 := hT11.but ((But.of_below (g := g) hb12).fresh hb13 (zj _)) (.inl (by omega))
   have hQ13 := (hQ11.below hb12).but hb13 (by omega)
   have hB13 : But g w w13 := ((((hB7.trans hb8).trans hb9).trans hb11).trans (But.of_below hb12)).fresh hb13 (by omega)
   clear hQ8 hA18 hA19 hB7 hb8 hb9 hb11 hb12 hb13 hQ9 hQ11 hA12 hT11 hD
   obtain ⟨q0, q1, q2, q3, q4, q5, q6⟩ := zv hQ13.cell
   go_wp2_with (first
    | (refine zz rfl rfl hQ13.cell 5 (.int .i64 ((ne11 : Int) - 1)) rfl rfl i3 ?_; intro w15 hA15 hb15; refine zb ?_))
   refine zd ?_
   have hsub : (ne11 : Int) - 1 = ((ne11 - 1 : Nat) : Int) := by omega
   rw [hsub] at hA15
   have hQ15 : Qd B w15 g L a c k11 en er11 pl11 (ne11 - 1) bl := hQ13.set hA15 hb15 hQ13.le
   have l15 := hb15.size
   have hA1315 := hb15.at hA13 (by omega)
   have hA115 := hb15.at hA113 (by omega)
   have hT15 := hT13.but hb15 (.inl (by omega))
   have hB15 := hB13.trans hb15
   clear q0 q1 q2 q3 q4 q5 q6 hsub hA15 hb15 hQ13 hA13 hA113 hT13 hB13
   go_wp2_with (first
    | (refine lL rfl rfl hA1315 rfl zR rfl (i43 _) ?_)
    | (refine YZ rfl (.tmp 41) rfl y rfl ?_; intro w16 hA16 hb16 hs16; clear hs16; refine zb ?_))
   refine zd ?_
   have l16 := hb16.size
   have hN := Y3 (op := 16) hA16 (hT15.below hb16) (by decide) (by omega)
   obtain ⟨N, hNd⟩ : ∃ N : ET, N = ET.mk 16 0 0 ⟨#[]⟩ (some ⟨w15.heap.size, 0, none⟩) 1 [y] := ⟨_, rfl⟩
   have hNc : N.cells = [.int .u8 16, .int .u8 0, .int .u64 0, .string ⟨#[]⟩, .slice (some ⟨w15.heap.size, 0, none⟩) 1 1] := by rw [hNd]; rfl
   have hNx : N.ex = .mk 16 0 0 [] [y.ex] := by rw [hNd]; rfl
   rw [<- hNd] at hN
   have hM := XQ (B := B) g L a c k11 en er11 pl11 (ne11 - 1) bl _ hS11.unit N p w16 (hQ15.below hb16) (by omega) hN (by omega) (fun l2 q => by rw [hNx]; exact zf5 hY hy q)
   have hA116 := hA115.below hb16
   have hB16 : But g w w16 := hB15.trans (But.of_below hb16)
   rw [hNc] at hM
   clear hNd hA16 hb16 hQ15 hT15 hB15 hA115 hA1315
   go_wp2_with (first
    | (refine zF rfl rfl [.int .u8 16, .int .u8 0, .int .u64 0, .string ⟨#[]⟩, .slice (some ⟨w15.heap.size, 0, none⟩) 1 1] ?_)
    | (go_at_call 145; refine hM.mono ?_; rintro r w17 ⟨rfl, hT17, k17, er17, pl17, hQ17, hS17, hb17⟩; have hA117 := hb17.at hA116 (by omega))
    | (refine sL rfl rfl hA117 [.int .u8 16, .int .u8 0, .int .u64 0, .string ⟨#[]⟩, .slice (some ⟨w15.heap.size, 0, none⟩) 1 1] rfl rfl i29 rfl (by rw [<- hNc]; exact ET.one N) ?_; intro wz hAz hbz))
   rw [<- hNc] at hAz
   refine zr (zh rfl _ _ w.heap.size 43 N.cells _ rfl hAz zR rfl (i43 _)) rfl ?_
   refine ⟨N, k17, er17, pl17, ne11 - 1, rfl, (hT17.but hbz (.inl (by omega))).low (by omega), (hB16.trans hb17).fresh hbz (zj _), hQ17.but hbz hB, ?_, by omega, by omega, ?_⟩
   ·exact zdN hS17 hNx hy
   ·exact fun e l2 he => zdM he hNx hy
 ·by_cases i2 : (hdT (za L k en)).text = [33]
  focus
   rw [unF] at h
   generalize za L k en = l at *
   have h0 : zL (hdT l).text = 17 := by rw [i2]; decide
   obtain ⟨hk, htl⟩ := hat (.inl (by rw [i2]; decide))
   rw [ze (by rw [h0]; simp), h0, zi (show ((17 : Nat) = 16 \/ (17 : Nat) = 17) by decide), htl] at h
   simp only [zN i1] at HI
   simp only [yy i2] at HJ
   have hdl : d <= 1048576 := by omega
   generalize hp : (hdT l).place = p at *
   clear h0 htl hat hP hp
  rotate_left
  focus
   have ho16 : zL (hdT (za L k en)).text ≠ 16 := by
    unfold zL
    rw [ze i1, ze i2]
    split
    ·decide
    ·split <;> decide
   have ho17 : zL (hdT (za L k en)).text ≠ 17 := by
    unfold zL
    rw [ze i1, ze i2]
    split
    ·decide
    ·split <;> decide
   have HP : Hid (∀ u, Qd B u g L a c k en 0 0 d bl -> B <= u.heap.size -> Calls Tryz.prog 168 #[.pointer (some ⟨g, 0, none⟩)] u fun r w' => Y5 B g L a c en d bl u R r w') := fun u hu hs => hP R B g L a c k en d bl u hd hok ho16 ho17 h hu hs
   simp only [zN i1] at HI
   simp only [zN i2] at HJ
   generalize (hdT (za L k en)).place = p at HN
   clear h hat i1 i2 ho16 ho17 hU hP hQ
  rotate_left
  all_goals
   go_enter Tryz.func143, Tryz.ntmps143
   go_wp2_with (first
    | (refine aL (o := { dst := some 2, .. }) rfl rfl z29 ?_; intro w1 hA1 hb1)
    | (go_at_call 41; refine (HN.out _ (HQ.out _ hb1)).mono ?_; rintro r w5 ⟨rfl, m, hw⟩; have hb5 : Below w1.heap.size w1 w5 := (by rw [hw]; exact below_drewN _ _); clear hw m)
    | (go_at_call_of 63 (Value.string ⟨#[45]⟩); refine (HI.out _ ((HQ.out _ hb1).below hb5)).mono ?_; rintro r w6 ⟨rfl, m, hw⟩; have hb6 : Below w5.heap.size w5 w6 := (by rw [hw]; exact below_drewN _ _); clear hw m)
    | (go_at_call_of 63 (Value.string ⟨#[33]⟩); refine (HJ.out _ (((HQ.out _ hb1).below hb5).below hb6)).mono ?_; rintro r w7 ⟨rfl, m, hw⟩; have hb7 : Below w6.heap.size w6 w7 := (by rw [hw]; exact below_drewN _ _); clear hw m; refine zb ?_))
   refine zd ?_
   have l1 := hA1.lt
   have l5 := hb5.size
   have l6 := hb6.size
   have l7 := hb7.size
   have hA17 := ((hA1.below hb5).below hb6).below hb7
   have hQ7 := (((HQ.out _ hb1).below hb5).below hb6).below hb7
   have hB7 : But g w w7 := (((But.of_below hb1).trans (But.of_below hb5)).trans (But.of_below hb6)).trans (But.of_below hb7)
   clear hA1 hb1 hb5 hb6 hb7 HQ HN HI HJ
  ·obtain ⟨q0, q1, q2, q3, q4, q5, q6⟩ := zv hQ7.cell
   have hlen := hQ7.len
   go_wp2_with (first
    | (refine zz rfl rfl hQ7.cell 1 (.int .i64 ((k : Int) + 1)) rfl rfl i3 ?_; intro w8 hA8 hb8; refine zb ?_))
   refine zd ?_
   have hQ8 : Qd B w8 g L a c (k + 1) en 0 0 d bl := hQ7.set hA8 hb8 hk
   have hA18 := hb8.at hA17 (by omega)
   have hD := Vw g L a c (k + 1) en d bl p hdl _ hQ8
   by_cases hd32 : 32 <= d
   ·rw [zi hd32] at h
    obtain rfl := yZ h
    clear h hU
    simp only [zi hd32] at hD
    clear q0 q1 q2 q3 q4 q5 q6 hA8 hQ7 hA17 hlen
    go_wp2_with (first
     | (go_at_call 169; refine hD.mono ?_; rintro r w9 ⟨rfl, hQ9, hb9⟩; have hA19 := hb9.at hA18 (by omega))
     | (go_at_call 30; refine (zJ g L.length a c L.length en 160 p (d + 1) bl _ hQ9.cell).mono ?_; rintro r u ⟨rfl, hu⟩; obtain rfl := hu.symm)
     | (refine zF rfl rfl noX.cells ?_)
     | (refine sL rfl rfl hA19 noX.cells rfl rfl (i43 _) (yP _) (ET.one _) ?_; intro wz hAz hbz))
    refine zr (zh rfl _ _ w.heap.size 43 noX.cells _ rfl hAz zR rfl (i43 _)) rfl ?_
    exact ⟨noX, _, _, _, d + 1, rfl, Ym _ _, ((hB7.trans hb8).trans hb9).fresh hbz (zj _), hQ9.but hbz hB, ⟨rfl, rfl, rfl, by decide⟩, by omega, by omega, fun e l he => by cases he⟩
   ·rw [ze hd32] at h
    obtain ⟨Y, hY, rfl⟩ := zb0 h
    clear h
    simp only [ze hd32] at hD
    clear q0 q1 q2 q3 q4 q5 q6 hA8 hQ7 hA17 hlen
    go_wp2_with (first
     | (go_at_call 169; refine hD.mono ?_; rintro r w9 ⟨rfl, hQ9, hb9⟩; have hA19 := hb9.at hA18 (by omega))
     | (go_at_call 30; refine (zJ g L.length a c (k + 1) en 0 0 (d + 1) bl _ hQ9.cell).mono ?_; rintro r u ⟨rfl, hu⟩; obtain rfl := hu.symm)
     | (go_at_call 143; refine (hU Y B g L a c (k + 1) en (d + 1) bl _ (by omega) hok hY hQ9 (by have := hb8.size; have := hb9.size; omega)).mono ?_; rintro _ w11 ⟨y, k11, er11, pl11, ne11, rfl, hT11, hb11, hQ11, hS11, hn1, hn2, hy⟩)
     | (refine aL (o := { dst := some 5, .. }) rfl rfl z29 ?_; intro w12 hA12 hb12)
     | (refine sL rfl rfl hA12 y.cells rfl rfl (i43 _) (yP _) (ET.one _) ?_; intro w13 hA13 hb13; refine zb ?_))
    refine zd ?_
    have l8 := hb8.size
    have l9 := hb9.size
    have l11 := hb11.size
    have l12 := hA12.lt
    have l13 := hb13.size
    have hA113 := hb13.at ((hb11.at hA19 (by omega)).below hb12) (by omega)
    have hT13 := hT11.but ((But.of_below (g := g) hb12).fresh hb13 (zj _)) (.inl (by omega))
    have hQ13 := (hQ11.below hb12).but hb13 (by omega)
    have hB13 : But g w w13 := ((((hB7.trans hb8).trans hb9).trans hb11).trans (But.of_below hb12)).fresh hb13 (by omega)
    clear hQ8 hA18 hA19 hB7 hb8 hb9 hb11 hb12 hb13 hQ9 hQ11 hA12 hT11 hD
    obtain ⟨q0, q1, q2, q3, q4, q5, q6⟩ := zv hQ13.cell
    go_wp2_with (first
     | (refine zz rfl rfl hQ13.cell 5 (.int .i64 ((ne11 : Int) - 1)) rfl rfl i3 ?_; intro w15 hA15 hb15; refine zb ?_))
    refine zd ?_
    have hsub : (ne11 : Int) - 1 = ((ne11 - 1 : Nat) : Int) := by omega
    rw [hsub] at hA15
    have hQ15 : Qd B w15 g L a c k11 en er11 pl11 (ne11 - 1) bl := hQ13.set hA15 hb15 hQ13.le
    have l15 := hb15.size
    have hA1315 := hb15.at hA13 (by omega)
    have hA115 := hb15.at hA113 (by omega)
    have hT15 := hT13.but hb15 (.inl (by omega))
    have hB15 := hB13.trans hb15
    clear q0 q1 q2 q3 q4 q5 q6 hsub hA15 hb15 hQ13 hA13 hA113 hT13 hB13
    go_wp2_with (first
     | (refine lL rfl rfl hA1315 rfl zR rfl (i43 _) ?_)
     | (refine YZ rfl (.tmp 41) rfl y rfl ?_; intro w16 hA16 hb16 hs16; clear hs16; refine zb ?_))
    refine zd ?_
    have l16 := hb16.size
    have hN := Y3 (op := 17) hA16 (hT15.below hb16) (by decide) (by omega)
    obtain ⟨N, hNd⟩ : ∃ N : ET, N = ET.mk 17 0 0 ⟨#[]⟩ (some ⟨w15.heap.size, 0, none⟩) 1 [y] := ⟨_, rfl⟩
    have hNc : N.cells = [.int .u8 17, .int .u8 0, .int .u64 0, .string ⟨#[]⟩, .slice (some ⟨w15.heap.size, 0, none⟩) 1 1] := by rw [hNd]; rfl
    have hNx : N.ex = .mk 17 0 0 [] [y.ex] := by rw [hNd]; rfl
    rw [<- hNd] at hN
    have hM := XQ (B := B) g L a c k11 en er11 pl11 (ne11 - 1) bl _ hS11.unit N p w16 (hQ15.below hb16) (by omega) hN (by omega) (fun l2 q => by rw [hNx]; exact zf5 hY hy q)
    have hA116 := hA115.below hb16
    have hB16 : But g w w16 := hB15.trans (But.of_below hb16)
    rw [hNc] at hM
    clear hNd hA16 hb16 hQ15 hT15 hB15 hA115 hA1315
    go_wp2_with (first
     | (refine zF rfl rfl [.int .u8 17, .int .u8 0, .int .u64 0, .string ⟨#[]⟩, .slice (some ⟨w15.heap.size, 0, none⟩) 1 1] ?_)
     | (go_at_call 145; refine hM.mono ?_; rintro r w17 ⟨rfl, hT17, k17, er17, pl17, hQ17, hS17, hb17⟩; have hA117 := hb17.at hA116 (by omega))
     | (refine sL rfl rfl hA117 [.int .u8 17, .int .u8 0, .int .u64 0, .string ⟨#[]⟩, .slice (some ⟨w15.heap.size, 0, none⟩) 1 1] rfl rfl i29 rfl (by rw [<- hNc]; exact ET.one N) ?_; intro wz hAz hbz))
    rw [<- hNc] at hAz
    refine zr (zh rfl _ _ w.heap.size 43 N.cells _ rfl hAz zR rfl (i43 _)) rfl ?_
    refine ⟨N, k17, er17, pl17, ne11 - 1, rfl, (hT17.but hbz (.inl (by omega))).low (by omega), (hB16.trans hb17).fresh hbz (zj _), hQ17.but hbz hB, ?_, by omega, by omega, ?_⟩
    ·exact zdN hS17 hNx hy
    ·exact fun e l2 he => zdM he hNx hy
  ·go_wp2_with (first
    | (go_at_call 168; refine (HP.out _ hQ7 (by omega)).mono ?_; rintro _ w8 ⟨y, k8, er8, pl8, ne8, rfl, hT8, hb8, hQ8, hS8, hn1, hn2, hy⟩; have hA18 := hb8.at hA17 (by omega))
    | (refine sL rfl rfl hA18 y.cells rfl rfl (i43 _) (yP _) (ET.one _) ?_; intro wz hAz hbz))
   refine zr (zh rfl _ _ w.heap.size 43 y.cells _ rfl hAz zR rfl (i43 _)) rfl ?_
   exact ⟨y, k8, er8, pl8, ne8, rfl, (hT8.but hbz (.inl (by omega))).low (by omega), (hB7.trans hb8).fresh hbz (zj _), hQ8.but hbz hB, hS8, hn1, hn2, hy⟩
def yn (ok : Bool) (n : Nat) (x : List UInt8) : Nat := if (ok && decide ((zB x).2 = n + 1)) = true then (zB x).1 else 0
theorem ir9 : (Tryz.prog.info? 9).map (fun i => (i.zero, i.size, i.bytes)) = some (some (.string ⟨#[]⟩), 1, 16) := by kernel_rfl
theorem zho : (Tryz.prog.info? 23).map (fun i => (i.zero, i.size, i.bytes)) = some (some (.slice none 0 0), 1, 24) := by kernel_rfl
theorem zet : (Tryz.prog.info? 36).map (fun i => (i.zero, i.size, i.bytes)) = some (some (.int .u8 0), 1, 1) := by kernel_rfl
theorem zg8 : (Tryz.prog.info? 186).map (fun i => (i.zero, i.size, i.bytes)) = some (some (.slice none 0 0), 1, 24) := by kernel_rfl
theorem yz {ops : Array Oper} {rest : List Oper} {o : Oper} {a : Act} {w : World} {Q : Exit -> Act -> World -> Prop} (hgd : o.guard = none) (t e n : Nat) (parts : Array (Nat × Operand)) (ho : o.op = .buildSlice t n parts) {z : Value} {by' : Nat} (hu : Tryz.prog.underlying t = some (.slice e)) (hi : (Tryz.prog.info? e).map (fun i => (i.zero, i.size, i.bytes)) = some (some z, 1, by')) (cs : List Value) (h0 : 0 < n) (hn : n <= 1000)
  (hf : Instr.fill (fun i => some (i * 1, 1)) ((Array.range (n * 1)).map (z.cells[· % z.cells.size]!)) (parts.map fun (i, x) => (i, a.eval x)).toList = some cs.toArray)
  (h : ∀ w', At e w' w.heap.size cs -> Below w.heap.size w w' -> w'.heap.size = w.heap.size + 1 -> wpList Tryz.prog ops Q rest (a.put o.dst (.slice (some ⟨w.heap.size, 0, none⟩) n n)) w') :
  wpList Tryz.prog ops Q (o :: rest) a w := by
 obtain ⟨ie, hi, hz0, hz1, hz2⟩ := info_parts hi
 refine wpList_buildSlice hgd t e n parts ho cs.toArray ie z hu hi hz0 (by rw [hz1]; omega) (by rw [hz1]; omega) ?_ ?_
 ·rw [hz1]; exact hf
 ·exact h _ (_root_.Go.heap_alloc_new w _) ((Below.refl _ w).alloc (zj _) _) (by show (w.heap.push _).size = _; simp)
theorem bgo {r : Nat} (c : Prop) [Decidable c] (a b : Nat × Nat) (h1 : c -> a.2 ≠ r) (h2 : b.2 ≠ r) : (if c then a else b).2 ≠ r := by
 by_cases h : c
 ·rw [zi h]; exact h1 h
 ·rw [ze h]; exact h2
theorem zbP (x : List UInt8) (h : (zB x).2 = 1) : x = [124, 124] := by
 by_cases hx : x = [124, 124]
 ·exact hx
 ·exfalso
  have hx' : x ≠ [124, 124] := by
   exact hx
  revert h
  unfold zB
  refine bgo _ _ _ (fun c => ?_) (bgo _ _ _ (fun c => ?_) (bgo _ _ _ (fun c => ?_) (bgo _ _ _ (fun c => ?_) (bgo _ _ _ (fun c => ?_) (bgo _ _ _ (fun c => ?_) (bgo _ _ _ (fun c => ?_) (bgo _ _ _ (fun c => ?_) (bgo _ _ _ (fun c => ?_) (bgo _ _ _ (fun c => ?_) (bgo _ _ _ (fun c => ?_) (bgo _ _ _ (fun c => ?_) (bgo _ _ _ (fun c => ?_) ?_))))))))))))
  all_goals first | decide | exact absurd c (by simp [hx'])
theorem zbO (x : List UInt8) (h : (zB x).2 = 2) : x = [38, 38] := by
 by_cases hx : x = [38, 38]
 ·exact hx
 ·exfalso
  have hx' : x ≠ [38, 38] := by
   exact hx
  revert h
  unfold zB
  refine bgo _ _ _ (fun c => ?_) (bgo _ _ _ (fun c => ?_) (bgo _ _ _ (fun c => ?_) (bgo _ _ _ (fun c => ?_) (bgo _ _ _ (fun c => ?_) (bgo _ _ _ (fun c => ?_) (bgo _ _ _ (fun c => ?_) (bgo _ _ _ (fun c => ?_) (bgo _ _ _ (fun c => ?_) (bgo _ _ _ (fun c => ?_) (bgo _ _ _ (fun c => ?_) (bgo _ _ _ (fun c => ?_) (bgo _ _ _ (fun c => ?_) ?_))))))))))))
  all_goals first | decide | exact absurd c (by simp [hx'])
theorem zbN (x : List UInt8) (h : (zB x).2 = 3) : x = [61, 61] \/ x = [33, 61] \/ x = [60] \/ x = [60, 61] \/ x = [62] \/ x = [62, 61] := by
 by_cases hx : x = [61, 61] \/ x = [33, 61] \/ x = [60] \/ x = [60, 61] \/ x = [62] \/ x = [62, 61]
 ·exact hx
 ·exfalso
  have hx' : x ≠ [61, 61] /\ x ≠ [33, 61] /\ x ≠ [60] /\ x ≠ [60, 61] /\ x ≠ [62] /\ x ≠ [62, 61] := by
   refine ⟨fun e => hx (by simp [e]), fun e => hx (by simp [e]), fun e => hx (by simp [e]), fun e => hx (by simp [e]), fun e => hx (by simp [e]), fun e => hx (by simp [e])⟩
  revert h
  unfold zB
  refine bgo _ _ _ (fun c => ?_) (bgo _ _ _ (fun c => ?_) (bgo _ _ _ (fun c => ?_) (bgo _ _ _ (fun c => ?_) (bgo _ _ _ (fun c => ?_) (bgo _ _ _ (fun c => ?_) (bgo _ _ _ (fun c => ?_) (bgo _ _ _ (fun c => ?_) (bgo _ _ _ (fun c => ?_) (bgo _ _ _ (fun c => ?_) (bgo _ _ _ (fun c => ?_) (bgo _ _ _ (fun c => ?_) (bgo _ _ _ (fun c => ?_) ?_))))))))))))
  all_goals first | decide | exact absurd c (by simp [hx'])
theorem zbM (x : List UInt8) (h : (zB x).2 = 4) : x = [43] \/ x = [45] := by
 by_cases hx : x = [43] \/ x = [45]
 ·exact hx
 ·exfalso
  have hx' : x ≠ [43] /\ x ≠ [45] := by
   refine ⟨fun e => hx (by simp [e]), fun e => hx (by simp [e])⟩
  revert h
  unfold zB
  refine bgo _ _ _ (fun c => ?_) (bgo _ _ _ (fun c => ?_) (bgo _ _ _ (fun c => ?_) (bgo _ _ _ (fun c => ?_) (bgo _ _ _ (fun c => ?_) (bgo _ _ _ (fun c => ?_) (bgo _ _ _ (fun c => ?_) (bgo _ _ _ (fun c => ?_) (bgo _ _ _ (fun c => ?_) (bgo _ _ _ (fun c => ?_) (bgo _ _ _ (fun c => ?_) (bgo _ _ _ (fun c => ?_) (bgo _ _ _ (fun c => ?_) ?_))))))))))))
  all_goals first | decide | exact absurd c (by simp [hx'])
theorem zbL (x : List UInt8) (h : (zB x).2 = 5) : x = [42] \/ x = [47] \/ x = [37] := by
 by_cases hx : x = [42] \/ x = [47] \/ x = [37]
 ·exact hx
 ·exfalso
  have hx' : x ≠ [42] /\ x ≠ [47] /\ x ≠ [37] := by
   refine ⟨fun e => hx (by simp [e]), fun e => hx (by simp [e]), fun e => hx (by simp [e])⟩
  revert h
  unfold zB
  refine bgo _ _ _ (fun c => ?_) (bgo _ _ _ (fun c => ?_) (bgo _ _ _ (fun c => ?_) (bgo _ _ _ (fun c => ?_) (bgo _ _ _ (fun c => ?_) (bgo _ _ _ (fun c => ?_) (bgo _ _ _ (fun c => ?_) (bgo _ _ _ (fun c => ?_) (bgo _ _ _ (fun c => ?_) (bgo _ _ _ (fun c => ?_) (bgo _ _ _ (fun c => ?_) (bgo _ _ _ (fun c => ?_) (bgo _ _ _ (fun c => ?_) ?_))))))))))))
  all_goals first | decide | exact absurd c (by simp [hx'])
set_option maxHeartbeats 12800000 in
theorem KW {B : Nat} (g n : Nat) (hn : n <= 4) (L : List Tk) (a : Option Addr) (c k en er pl ne bl : Nat) (w : World) (h : Qd B w g L a c k en er pl ne bl) :
  Calls Tryz.prog 144 #[.pointer (some ⟨g, 0, none⟩), .int .i64 (n : Int)] w fun q w' => q = .returned (.int .u8 (yn (decide (er = 0) && decide (pl = 0)) n (hdT (za L k en)).text : Int)) /\ Below w.heap.size w w' := by
 have HI : Hid (∀ (x : ByteArray) (u : World), bytes x ≠ [] -> Below w.heap.size w u -> Calls Tryz.prog 63 #[.pointer (some ⟨g, 0, none⟩), .string x] u fun q w' => q = .returned (.bool ((decide (er = 0) && decide (pl = 0)) && decide ((hdT (za L k en)).text = bytes x))) /\ ∃ m, w' = u.drewN m) := fun x u hx hu => YT g L a c k en er pl ne bl x hx u (h.below hu)
 generalize (decide (er = 0) && decide (pl = 0)) = ok at *
 generalize (hdT (za L k en)).text = T at *
 clear h
 obtain ⟨N, hN⟩ : ∃ N : Int, N = (n : Int) := ⟨_, rfl⟩
 rw [<- hN]
 go_enter Tryz.func144, Tryz.ntmps144
 go_wp2_with (first | (refine yz (o := { dst := some 8, .. }) rfl 23 9 1 _ rfl Tryz.underlying23 ir9 [.string ⟨#[124, 124]⟩] (by decide) (by decide) (by kernel_rfl) ?_; intro s1 hS1 hs1 hs; clear hs; refine zb ?_))
 refine zd ?_
 go_wp2_with (first | (refine yz (o := { dst := some 9, .. }) rfl 23 9 1 _ rfl Tryz.underlying23 ir9 [.string ⟨#[38, 38]⟩] (by decide) (by decide) (by kernel_rfl) ?_; intro s2 hS2 hs2 hs; clear hs; refine zb ?_))
 refine zd ?_
 go_wp2_with (first | (refine yz (o := { dst := some 10, .. }) rfl 23 9 6 _ rfl Tryz.underlying23 ir9 [.string ⟨#[61, 61]⟩, .string ⟨#[33, 61]⟩, .string ⟨#[60]⟩, .string ⟨#[60, 61]⟩, .string ⟨#[62]⟩, .string ⟨#[62, 61]⟩] (by decide) (by decide) (by kernel_rfl) ?_; intro s3 hS3 hs3 hs; clear hs; refine zb ?_))
 refine zd ?_
 go_wp2_with (first | (refine yz (o := { dst := some 11, .. }) rfl 23 9 2 _ rfl Tryz.underlying23 ir9 [.string ⟨#[43]⟩, .string ⟨#[45]⟩] (by decide) (by decide) (by kernel_rfl) ?_; intro s4 hS4 hs4 hs; clear hs; refine zb ?_))
 refine zd ?_
 go_wp2_with (first | (refine yz (o := { dst := some 12, .. }) rfl 23 9 3 _ rfl Tryz.underlying23 ir9 [.string ⟨#[42]⟩, .string ⟨#[47]⟩, .string ⟨#[37]⟩] (by decide) (by decide) (by kernel_rfl) ?_; intro s5 hS5 hs5 hs; clear hs; refine zb ?_))
 refine zd ?_
 go_wp2_with (first | (refine yz (o := { dst := some 13, .. }) rfl 185 23 5 _ rfl Tryz.underlying185 zho [.slice (some ⟨w.heap.size, 0, none⟩) 1 1, .slice (some ⟨s1.heap.size, 0, none⟩) 1 1, .slice (some ⟨s2.heap.size, 0, none⟩) 6 6, .slice (some ⟨s3.heap.size, 0, none⟩) 2 2, .slice (some ⟨s4.heap.size, 0, none⟩) 3 3] (by decide) (by decide) (by kernel_rfl) ?_; intro s6 hS6 hs6 hs; clear hs; refine zb ?_))
 refine zd ?_
 go_wp2_with (first | (refine yz (o := { dst := some 14, .. }) rfl 186 36 1 _ rfl Tryz.underlying186 zet [.int .u8 3] (by decide) (by decide) (by kernel_rfl) ?_; intro o1 hO1 ho1 hs; clear hs; refine zb ?_))
 refine zd ?_
 go_wp2_with (first | (refine yz (o := { dst := some 15, .. }) rfl 186 36 1 _ rfl Tryz.underlying186 zet [.int .u8 4] (by decide) (by decide) (by kernel_rfl) ?_; intro o2 hO2 ho2 hs; clear hs; refine zb ?_))
 refine zd ?_
 go_wp2_with (first | (refine yz (o := { dst := some 16, .. }) rfl 186 36 6 _ rfl Tryz.underlying186 zet [.int .u8 5, .int .u8 6, .int .u8 7, .int .u8 8, .int .u8 9, .int .u8 10] (by decide) (by decide) (by kernel_rfl) ?_; intro o3 hO3 ho3 hs; clear hs; refine zb ?_))
 refine zd ?_
 go_wp2_with (first | (refine yz (o := { dst := some 17, .. }) rfl 186 36 2 _ rfl Tryz.underlying186 zet [.int .u8 11, .int .u8 12] (by decide) (by decide) (by kernel_rfl) ?_; intro o4 hO4 ho4 hs; clear hs; refine zb ?_))
 refine zd ?_
 go_wp2_with (first | (refine yz (o := { dst := some 18, .. }) rfl 186 36 3 _ rfl Tryz.underlying186 zet [.int .u8 13, .int .u8 14, .int .u8 15] (by decide) (by decide) (by kernel_rfl) ?_; intro o5 hO5 ho5 hs; clear hs; refine zb ?_))
 refine zd ?_
 go_wp2_with (first | (refine yz (o := { dst := some 19, .. }) rfl 187 186 5 _ rfl Tryz.underlying187 zg8 [.slice (some ⟨s6.heap.size, 0, none⟩) 1 1, .slice (some ⟨o1.heap.size, 0, none⟩) 1 1, .slice (some ⟨o2.heap.size, 0, none⟩) 6 6, .slice (some ⟨o3.heap.size, 0, none⟩) 2 2, .slice (some ⟨o4.heap.size, 0, none⟩) 3 3] (by decide) (by decide) (by kernel_rfl) ?_; intro o6 hO6 ho6 hs; clear hs; refine zb ?_))
 refine zd ?_
 have c1 := ((((((hS6).below ho1).below ho2).below ho3).below ho4).below ho5).below ho6
 have hB : Below w.heap.size w o6 := ((((((((((hs1.trans (hs2.mono hs1.size)).trans (hs3.mono (zQ hs1.size hs2.size))).trans (hs4.mono (by have := hs1.size; have := hs2.size; have := hs3.size; omega))).trans (hs5.mono (by have := hs1.size; have := hs2.size; have := hs3.size; have := hs4.size; omega))).trans (hs6.mono (by have := hs1.size; have := hs2.size; have := hs3.size; have := hs4.size; have := hs5.size; omega))).trans (ho1.mono (by have := hs1.size; have := hs2.size; have := hs3.size; have := hs4.size; have := hs5.size; have := hs6.size; omega))).trans (ho2.mono (by have := hs1.size; have := hs2.size; have := hs3.size; have := hs4.size; have := hs5.size; have := hs6.size; have := ho1.size; omega))).trans (ho3.mono (by have := hs1.size; have := hs2.size; have := hs3.size; have := hs4.size; have := hs5.size; have := hs6.size; have := ho1.size; have := ho2.size; omega))).trans (ho4.mono (by have := hs1.size; have := hs2.size; have := hs3.size; have := hs4.size; have := hs5.size; have := hs6.size; have := ho1.size; have := ho2.size; have := ho3.size; omega))).trans (ho5.mono (by have := hs1.size; have := hs2.size; have := hs3.size; have := hs4.size; have := hs5.size; have := hs6.size; have := ho1.size; have := ho2.size; have := ho3.size; have := ho4.size; omega))).trans (ho6.mono (by have := hs1.size; have := hs2.size; have := hs3.size; have := hs4.size; have := hs5.size; have := hs6.size; have := ho1.size; have := ho2.size; have := ho3.size; have := ho4.size; have := ho5.size; omega))
 rcases (show n = 0 \/ n = 1 \/ n = 2 \/ n = 3 \/ n = 4 by omega) with rfl | rfl | rfl | rfl | rfl
 focus
  obtain rfl : N = 0 := hN
  have c2 := (((((((((((hS1).below hs2).below hs3).below hs4).below hs5).below hs6).below ho1).below ho2).below ho3).below ho4).below ho5).below ho6
  have c4 := (((((hO1).below ho2).below ho3).below ho4).below ho5).below ho6
  have d1 : o6.cell? ⟨s5.heap.size, 0, none⟩ = some (.slice (some ⟨w.heap.size, 0, none⟩) 1 1) := by rw [c1.cell]; rfl
  have d3 : o6.cell? ⟨o5.heap.size, 0, none⟩ = some (.slice (some ⟨s6.heap.size, 0, none⟩) 1 1) := by rw [hO6.cell]; rfl
  have e0 : o6.cell? ⟨w.heap.size, 0, none⟩ = some (.string ⟨#[124, 124]⟩) := by rw [c2.cell]; rfl
  have f0 : o6.cell? ⟨s6.heap.size, 0, none⟩ = some (.int .u8 3) := by rw [c4.cell]; rfl
 rotate_left
 focus
  obtain rfl : N = 1 := hN
  have c2 := ((((((((((hS2).below hs3).below hs4).below hs5).below hs6).below ho1).below ho2).below ho3).below ho4).below ho5).below ho6
  have c4 := ((((hO2).below ho3).below ho4).below ho5).below ho6
  have d1 : o6.cell? ⟨s5.heap.size, 1, none⟩ = some (.slice (some ⟨s1.heap.size, 0, none⟩) 1 1) := by rw [c1.cell]; rfl
  have d3 : o6.cell? ⟨o5.heap.size, 1, none⟩ = some (.slice (some ⟨o1.heap.size, 0, none⟩) 1 1) := by rw [hO6.cell]; rfl
  have e0 : o6.cell? ⟨s1.heap.size, 0, none⟩ = some (.string ⟨#[38, 38]⟩) := by rw [c2.cell]; rfl
  have f0 : o6.cell? ⟨o1.heap.size, 0, none⟩ = some (.int .u8 4) := by rw [c4.cell]; rfl
 rotate_left
 focus
  obtain rfl : N = 2 := hN
  have c2 := (((((((((hS3).below hs4).below hs5).below hs6).below ho1).below ho2).below ho3).below ho4).below ho5).below ho6
  have c4 := (((hO3).below ho4).below ho5).below ho6
  have d1 : o6.cell? ⟨s5.heap.size, 2, none⟩ = some (.slice (some ⟨s2.heap.size, 0, none⟩) 6 6) := by rw [c1.cell]; rfl
  have d3 : o6.cell? ⟨o5.heap.size, 2, none⟩ = some (.slice (some ⟨o2.heap.size, 0, none⟩) 6 6) := by rw [hO6.cell]; rfl
  have e0 : o6.cell? ⟨s2.heap.size, 0, none⟩ = some (.string ⟨#[61, 61]⟩) := by rw [c2.cell]; rfl
  have f0 : o6.cell? ⟨o2.heap.size, 0, none⟩ = some (.int .u8 5) := by rw [c4.cell]; rfl
  have e1 : o6.cell? ⟨s2.heap.size, 1, none⟩ = some (.string ⟨#[33, 61]⟩) := by rw [c2.cell]; rfl
  have f1 : o6.cell? ⟨o2.heap.size, 1, none⟩ = some (.int .u8 6) := by rw [c4.cell]; rfl
  have e2 : o6.cell? ⟨s2.heap.size, 2, none⟩ = some (.string ⟨#[60]⟩) := by rw [c2.cell]; rfl
  have f2 : o6.cell? ⟨o2.heap.size, 2, none⟩ = some (.int .u8 7) := by rw [c4.cell]; rfl
  have e3 : o6.cell? ⟨s2.heap.size, 3, none⟩ = some (.string ⟨#[60, 61]⟩) := by rw [c2.cell]; rfl
  have f3 : o6.cell? ⟨o2.heap.size, 3, none⟩ = some (.int .u8 8) := by rw [c4.cell]; rfl
  have e4 : o6.cell? ⟨s2.heap.size, 4, none⟩ = some (.string ⟨#[62]⟩) := by rw [c2.cell]; rfl
  have f4 : o6.cell? ⟨o2.heap.size, 4, none⟩ = some (.int .u8 9) := by rw [c4.cell]; rfl
  have e5 : o6.cell? ⟨s2.heap.size, 5, none⟩ = some (.string ⟨#[62, 61]⟩) := by rw [c2.cell]; rfl
  have f5 : o6.cell? ⟨o2.heap.size, 5, none⟩ = some (.int .u8 10) := by rw [c4.cell]; rfl
 rotate_left
 focus
  obtain rfl : N = 3 := hN
  have c2 := ((((((((hS4).below hs5).below hs6).below ho1).below ho2).below ho3).below ho4).below ho5).below ho6
  have c4 := ((hO4).below ho5).below ho6
  have d1 : o6.cell? ⟨s5.heap.size, 3, none⟩ = some (.slice (some ⟨s3.heap.size, 0, none⟩) 2 2) := by rw [c1.cell]; rfl
  have d3 : o6.cell? ⟨o5.heap.size, 3, none⟩ = some (.slice (some ⟨o3.heap.size, 0, none⟩) 2 2) := by rw [hO6.cell]; rfl
  have e0 : o6.cell? ⟨s3.heap.size, 0, none⟩ = some (.string ⟨#[43]⟩) := by rw [c2.cell]; rfl
  have f0 : o6.cell? ⟨o3.heap.size, 0, none⟩ = some (.int .u8 11) := by rw [c4.cell]; rfl
  have e1 : o6.cell? ⟨s3.heap.size, 1, none⟩ = some (.string ⟨#[45]⟩) := by rw [c2.cell]; rfl
  have f1 : o6.cell? ⟨o3.heap.size, 1, none⟩ = some (.int .u8 12) := by rw [c4.cell]; rfl
 rotate_left
 focus
  obtain rfl : N = 4 := hN
  have c2 := (((((((hS5).below hs6).below ho1).below ho2).below ho3).below ho4).below ho5).below ho6
  have c4 := (hO5).below ho6
  have d1 : o6.cell? ⟨s5.heap.size, 4, none⟩ = some (.slice (some ⟨s4.heap.size, 0, none⟩) 3 3) := by rw [c1.cell]; rfl
  have d3 : o6.cell? ⟨o5.heap.size, 4, none⟩ = some (.slice (some ⟨o4.heap.size, 0, none⟩) 3 3) := by rw [hO6.cell]; rfl
  have e0 : o6.cell? ⟨s4.heap.size, 0, none⟩ = some (.string ⟨#[42]⟩) := by rw [c2.cell]; rfl
  have f0 : o6.cell? ⟨o4.heap.size, 0, none⟩ = some (.int .u8 13) := by rw [c4.cell]; rfl
  have e1 : o6.cell? ⟨s4.heap.size, 1, none⟩ = some (.string ⟨#[47]⟩) := by rw [c2.cell]; rfl
  have f1 : o6.cell? ⟨o4.heap.size, 1, none⟩ = some (.int .u8 14) := by rw [c4.cell]; rfl
  have e2 : o6.cell? ⟨s4.heap.size, 2, none⟩ = some (.string ⟨#[37]⟩) := by rw [c2.cell]; rfl
  have f2 : o6.cell? ⟨o4.heap.size, 2, none⟩ = some (.int .u8 15) := by rw [c4.cell]; rfl
 rotate_left
 all_goals
  clear c1 c2 c4 hS1 hS2 hS3 hS4 hS5 hS6 hO1 hO2 hO3 hO4 hO5 hO6 hs1 hs2 hs3 hs4 hs5 hs6 ho1 ho2 ho3 ho4 ho5 ho6
  go_wp2_with fail
 ·go_loopw [7] (fun j wr => ∃ i : Nat, j = .int .i64 (i : Int) /\ i <= 1 /\ Hid ((0 < i -> (ok && decide (T = [124, 124])) = false)) /\ ∃ q, wr = o6.drewN q) (fun j _ => 1 - (intOf j).toNat)
  case atStart => exact ⟨0, rfl, by omega, fun h => absurd h (by omega), 0, rfl⟩
  case round =>
   obtain ⟨i, rfl, hi, hP, q, rfl⟩ := hrel
   have hBq : Below w.heap.size w (o6.drewN q) := hB.trans ((below_drewN o6 q).mono hB.size)
   rcases (show i = 0 \/ i = 1 by omega) with rfl | rfl
   ·have hC := HI.out ⟨#[124, 124]⟩ _ (by decide) hBq
    rw [show bytes ⟨#[124, 124]⟩ = [124, 124] from rfl] at hC
    by_cases hb : (ok && decide (T = [124, 124])) = true
    ·rw [hb] at hC
     have HV : Hid (yn ok 0 T = 3) := by
      simp only [yX, decide_eq_true_iff] at hb
      show yn ok 0 T = 3
      rw [hb.1, hb.2]
      decide
     clear hb hP
     go_wp2_with (first | (go_at_call 63; refine hC.mono ?_; rintro r u ⟨rfl, m, rfl⟩))
     go_ret
     exact ⟨by rw [HV.out]; rfl, hB.trans ((below_drewN o6 _).mono hB.size)⟩
    ·have hb := Bool.eq_false_iff.2 hb
     rw [hb] at hC
     have hP2 : Hid ((0 < 1 -> (ok && decide (T = [124, 124])) = false)) := fun h => hb
     clear hb hP
     go_wp2_with (first | (go_at_call 63; refine hC.mono ?_; rintro r u ⟨rfl, m, rfl⟩))
     refine ⟨?_, ?measure⟩
     (repeat apply Exists.intro)
     refine ⟨?rel, rfl⟩
     case rel => exact ⟨1, by go_num, by omega, hP2, _, rfl⟩
     case measure => simp [intOf]
   ·have HV : Hid (yn ok 0 T = 0) := by
     show yn ok 0 T = 0
     unfold yn
     rw [ze]
     intro hh
     simp only [yX, decide_eq_true_iff] at hh
     rcases zbP T hh.2 with e
     have := hP.out (by omega); rw [hh.1, e] at this; exact absurd this (by decide)
    clear hP
    go_wp2
    go_ret
    exact ⟨by rw [HV.out]; rfl, hBq⟩
 ·go_loopw [7] (fun j wr => ∃ i : Nat, j = .int .i64 (i : Int) /\ i <= 1 /\ Hid ((0 < i -> (ok && decide (T = [38, 38])) = false)) /\ ∃ q, wr = o6.drewN q) (fun j _ => 1 - (intOf j).toNat)
  case atStart => exact ⟨0, rfl, by omega, fun h => absurd h (by omega), 0, rfl⟩
  case round =>
   obtain ⟨i, rfl, hi, hP, q, rfl⟩ := hrel
   have hBq : Below w.heap.size w (o6.drewN q) := hB.trans ((below_drewN o6 q).mono hB.size)
   rcases (show i = 0 \/ i = 1 by omega) with rfl | rfl
   ·have hC := HI.out ⟨#[38, 38]⟩ _ (by decide) hBq
    rw [show bytes ⟨#[38, 38]⟩ = [38, 38] from rfl] at hC
    by_cases hb : (ok && decide (T = [38, 38])) = true
    ·rw [hb] at hC
     have HV : Hid (yn ok 1 T = 4) := by
      simp only [yX, decide_eq_true_iff] at hb
      show yn ok 1 T = 4
      rw [hb.1, hb.2]
      decide
     clear hb hP
     go_wp2_with (first | (go_at_call 63; refine hC.mono ?_; rintro r u ⟨rfl, m, rfl⟩))
     go_ret
     exact ⟨by rw [HV.out]; rfl, hB.trans ((below_drewN o6 _).mono hB.size)⟩
    ·have hb := Bool.eq_false_iff.2 hb
     rw [hb] at hC
     have hP2 : Hid ((0 < 1 -> (ok && decide (T = [38, 38])) = false)) := fun h => hb
     clear hb hP
     go_wp2_with (first | (go_at_call 63; refine hC.mono ?_; rintro r u ⟨rfl, m, rfl⟩))
     refine ⟨?_, ?measure⟩
     (repeat apply Exists.intro)
     refine ⟨?rel, rfl⟩
     case rel => exact ⟨1, by go_num, by omega, hP2, _, rfl⟩
     case measure => simp [intOf]
   ·have HV : Hid (yn ok 1 T = 0) := by
     show yn ok 1 T = 0
     unfold yn
     rw [ze]
     intro hh
     simp only [yX, decide_eq_true_iff] at hh
     rcases zbO T hh.2 with e
     have := hP.out (by omega); rw [hh.1, e] at this; exact absurd this (by decide)
    clear hP
    go_wp2
    go_ret
    exact ⟨by rw [HV.out]; rfl, hBq⟩
 ·go_loopw [7] (fun j wr => ∃ i : Nat, j = .int .i64 (i : Int) /\ i <= 6 /\ Hid ((0 < i -> (ok && decide (T = [61, 61])) = false) /\ (1 < i -> (ok && decide (T = [33, 61])) = false) /\ (2 < i -> (ok && decide (T = [60])) = false) /\ (3 < i -> (ok && decide (T = [60, 61])) = false) /\ (4 < i -> (ok && decide (T = [62])) = false) /\ (5 < i -> (ok && decide (T = [62, 61])) = false)) /\ ∃ q, wr = o6.drewN q) (fun j _ => 6 - (intOf j).toNat)
  case atStart => exact ⟨0, rfl, by omega, ⟨fun h => absurd h (by omega), fun h => absurd h (by omega), fun h => absurd h (by omega), fun h => absurd h (by omega), fun h => absurd h (by omega), fun h => absurd h (by omega)⟩, 0, rfl⟩
  case round =>
   obtain ⟨i, rfl, hi, hP, q, rfl⟩ := hrel
   have hBq : Below w.heap.size w (o6.drewN q) := hB.trans ((below_drewN o6 q).mono hB.size)
   rcases (show i = 0 \/ i = 1 \/ i = 2 \/ i = 3 \/ i = 4 \/ i = 5 \/ i = 6 by omega) with rfl | rfl | rfl | rfl | rfl | rfl | rfl
   ·have hC := HI.out ⟨#[61, 61]⟩ _ (by decide) hBq
    rw [show bytes ⟨#[61, 61]⟩ = [61, 61] from rfl] at hC
    by_cases hb : (ok && decide (T = [61, 61])) = true
    ·rw [hb] at hC
     have HV : Hid (yn ok 2 T = 5) := by
      simp only [yX, decide_eq_true_iff] at hb
      show yn ok 2 T = 5
      rw [hb.1, hb.2]
      decide
     clear hb hP
     go_wp2_with (first | (go_at_call 63; refine hC.mono ?_; rintro r u ⟨rfl, m, rfl⟩))
     go_ret
     exact ⟨by rw [HV.out]; rfl, hB.trans ((below_drewN o6 _).mono hB.size)⟩
    ·have hb := Bool.eq_false_iff.2 hb
     rw [hb] at hC
     have hP2 : Hid ((0 < 1 -> (ok && decide (T = [61, 61])) = false) /\ (1 < 1 -> (ok && decide (T = [33, 61])) = false) /\ (2 < 1 -> (ok && decide (T = [60])) = false) /\ (3 < 1 -> (ok && decide (T = [60, 61])) = false) /\ (4 < 1 -> (ok && decide (T = [62])) = false) /\ (5 < 1 -> (ok && decide (T = [62, 61])) = false)) := ⟨fun h => hb, fun h => absurd h (by omega), fun h => absurd h (by omega), fun h => absurd h (by omega), fun h => absurd h (by omega), fun h => absurd h (by omega)⟩
     clear hb hP
     go_wp2_with (first | (go_at_call 63; refine hC.mono ?_; rintro r u ⟨rfl, m, rfl⟩))
     refine ⟨?_, ?measure⟩
     (repeat apply Exists.intro)
     refine ⟨?rel, rfl⟩
     case rel => exact ⟨1, by go_num, by omega, hP2, _, rfl⟩
     case measure => simp [intOf]
   ·have hC := HI.out ⟨#[33, 61]⟩ _ (by decide) hBq
    rw [show bytes ⟨#[33, 61]⟩ = [33, 61] from rfl] at hC
    by_cases hb : (ok && decide (T = [33, 61])) = true
    ·rw [hb] at hC
     have HV : Hid (yn ok 2 T = 6) := by
      simp only [yX, decide_eq_true_iff] at hb
      show yn ok 2 T = 6
      rw [hb.1, hb.2]
      decide
     clear hb hP
     go_wp2_with (first | (go_at_call 63; refine hC.mono ?_; rintro r u ⟨rfl, m, rfl⟩))
     go_ret
     exact ⟨by rw [HV.out]; rfl, hB.trans ((below_drewN o6 _).mono hB.size)⟩
    ·have hb := Bool.eq_false_iff.2 hb
     rw [hb] at hC
     have hP2 : Hid ((0 < 2 -> (ok && decide (T = [61, 61])) = false) /\ (1 < 2 -> (ok && decide (T = [33, 61])) = false) /\ (2 < 2 -> (ok && decide (T = [60])) = false) /\ (3 < 2 -> (ok && decide (T = [60, 61])) = false) /\ (4 < 2 -> (ok && decide (T = [62])) = false) /\ (5 < 2 -> (ok && decide (T = [62, 61])) = false)) := ⟨fun h => hP.out.1 (by omega), fun h => hb, fun h => absurd h (by omega), fun h => absurd h (by omega), fun h => absurd h (by omega), fun h => absurd h (by omega)⟩
     clear hb hP
     go_wp2_with (first | (go_at_call 63; refine hC.mono ?_; rintro r u ⟨rfl, m, rfl⟩))
     refine ⟨?_, ?measure⟩
     (repeat apply Exists.intro)
     refine ⟨?rel, rfl⟩
     case rel => exact ⟨2, by go_num, by omega, hP2, _, rfl⟩
     case measure => simp [intOf]
   ·have hC := HI.out ⟨#[60]⟩ _ (by decide) hBq
    rw [show bytes ⟨#[60]⟩ = [60] from rfl] at hC
    by_cases hb : (ok && decide (T = [60])) = true
    ·rw [hb] at hC
     have HV : Hid (yn ok 2 T = 7) := by
      simp only [yX, decide_eq_true_iff] at hb
      show yn ok 2 T = 7
      rw [hb.1, hb.2]
      decide
     clear hb hP
     go_wp2_with (first | (go_at_call 63; refine hC.mono ?_; rintro r u ⟨rfl, m, rfl⟩))
     go_ret
     exact ⟨by rw [HV.out]; rfl, hB.trans ((below_drewN o6 _).mono hB.size)⟩
    ·have hb := Bool.eq_false_iff.2 hb
     rw [hb] at hC
     have hP2 : Hid ((0 < 3 -> (ok && decide (T = [61, 61])) = false) /\ (1 < 3 -> (ok && decide (T = [33, 61])) = false) /\ (2 < 3 -> (ok && decide (T = [60])) = false) /\ (3 < 3 -> (ok && decide (T = [60, 61])) = false) /\ (4 < 3 -> (ok && decide (T = [62])) = false) /\ (5 < 3 -> (ok && decide (T = [62, 61])) = false)) := ⟨fun h => hP.out.1 (by omega), fun h => hP.out.2.1 (by omega), fun h => hb, fun h => absurd h (by omega), fun h => absurd h (by omega), fun h => absurd h (by omega)⟩
     clear hb hP
     go_wp2_with (first | (go_at_call 63; refine hC.mono ?_; rintro r u ⟨rfl, m, rfl⟩))
     refine ⟨?_, ?measure⟩
     (repeat apply Exists.intro)
     refine ⟨?rel, rfl⟩
     case rel => exact ⟨3, by go_num, by omega, hP2, _, rfl⟩
     case measure => simp [intOf]
   ·have hC := HI.out ⟨#[60, 61]⟩ _ (by decide) hBq
    rw [show bytes ⟨#[60, 61]⟩ = [60, 61] from rfl] at hC
    by_cases hb : (ok && decide (T = [60, 61])) = true
    ·rw [hb] at hC
     have HV : Hid (yn ok 2 T = 8) := by
      simp only [yX, decide_eq_true_iff] at hb
      show yn ok 2 T = 8
      rw [hb.1, hb.2]
      decide
     clear hb hP
     go_wp2_with (first | (go_at_call 63; refine hC.mono ?_; rintro r u ⟨rfl, m, rfl⟩))
     go_ret
     exact ⟨by rw [HV.out]; rfl, hB.trans ((below_drewN o6 _).mono hB.size)⟩
    ·have hb := Bool.eq_false_iff.2 hb
     rw [hb] at hC
     have hP2 : Hid ((0 < 4 -> (ok && decide (T = [61, 61])) = false) /\ (1 < 4 -> (ok && decide (T = [33, 61])) = false) /\ (2 < 4 -> (ok && decide (T = [60])) = false) /\ (3 < 4 -> (ok && decide (T = [60, 61])) = false) /\ (4 < 4 -> (ok && decide (T = [62])) = false) /\ (5 < 4 -> (ok && decide (T = [62, 61])) = false)) := ⟨fun h => hP.out.1 (by omega), fun h => hP.out.2.1 (by omega), fun h => hP.out.2.2.1 (by omega), fun h => hb, fun h => absurd h (by omega), fun h => absurd h (by omega)⟩
     clear hb hP
     go_wp2_with (first | (go_at_call 63; refine hC.mono ?_; rintro r u ⟨rfl, m, rfl⟩))
     refine ⟨?_, ?measure⟩
     (repeat apply Exists.intro)
     refine ⟨?rel, rfl⟩
     case rel => exact ⟨4, by go_num, by omega, hP2, _, rfl⟩
     case measure => simp [intOf]
   ·have hC := HI.out ⟨#[62]⟩ _ (by decide) hBq
    rw [show bytes ⟨#[62]⟩ = [62] from rfl] at hC
    by_cases hb : (ok && decide (T = [62])) = true
    ·rw [hb] at hC
     have HV : Hid (yn ok 2 T = 9) := by
      simp only [yX, decide_eq_true_iff] at hb
      show yn ok 2 T = 9
      rw [hb.1, hb.2]
      decide
     clear hb hP
     go_wp2_with (first | (go_at_call 63; refine hC.mono ?_; rintro r u ⟨rfl, m, rfl⟩))
     go_ret
     exact ⟨by rw [HV.out]; rfl, hB.trans ((below_drewN o6 _).mono hB.size)⟩
    ·have hb := Bool.eq_false_iff.2 hb
     rw [hb] at hC
     have hP2 : Hid ((0 < 5 -> (ok && decide (T = [61, 61])) = false) /\ (1 < 5 -> (ok && decide (T = [33, 61])) = false) /\ (2 < 5 -> (ok && decide (T = [60])) = false) /\ (3 < 5 -> (ok && decide (T = [60, 61])) = false) /\ (4 < 5 -> (ok && decide (T = [62])) = false) /\ (5 < 5 -> (ok && decide (T = [62, 61])) = false)) := ⟨fun h => hP.out.1 (by omega), fun h => hP.out.2.1 (by omega), fun h => hP.out.2.2.1 (by omega), fun h => hP.out.2.2.2.1 (by omega), fun h => hb, fun h => absurd h (by omega)⟩
     clear hb hP
     go_wp2_with (first | (go_at_call 63; refine hC.mono ?_; rintro r u ⟨rfl, m, rfl⟩))
     refine ⟨?_, ?measure⟩
     (repeat apply Exists.intro)
     refine ⟨?rel, rfl⟩
     case rel => exact ⟨5, by go_num, by omega, hP2, _, rfl⟩
     case measure => simp [intOf]
   ·have hC := HI.out ⟨#[62, 61]⟩ _ (by decide) hBq
    rw [show bytes ⟨#[62, 61]⟩ = [62, 61] from rfl] at hC
    by_cases hb : (ok && decide (T = [62, 61])) = true
    ·rw [hb] at hC
     have HV : Hid (yn ok 2 T = 10) := by
      simp only [yX, decide_eq_true_iff] at hb
      show yn ok 2 T = 10
      rw [hb.1, hb.2]
      decide
     clear hb hP
     go_wp2_with (first | (go_at_call 63; refine hC.mono ?_; rintro r u ⟨rfl, m, rfl⟩))
     go_ret
     exact ⟨by rw [HV.out]; rfl, hB.trans ((below_drewN o6 _).mono hB.size)⟩
    ·have hb := Bool.eq_false_iff.2 hb
     rw [hb] at hC
     have hP2 : Hid ((0 < 6 -> (ok && decide (T = [61, 61])) = false) /\ (1 < 6 -> (ok && decide (T = [33, 61])) = false) /\ (2 < 6 -> (ok && decide (T = [60])) = false) /\ (3 < 6 -> (ok && decide (T = [60, 61])) = false) /\ (4 < 6 -> (ok && decide (T = [62])) = false) /\ (5 < 6 -> (ok && decide (T = [62, 61])) = false)) := ⟨fun h => hP.out.1 (by omega), fun h => hP.out.2.1 (by omega), fun h => hP.out.2.2.1 (by omega), fun h => hP.out.2.2.2.1 (by omega), fun h => hP.out.2.2.2.2.1 (by omega), fun h => hb⟩
     clear hb hP
     go_wp2_with (first | (go_at_call 63; refine hC.mono ?_; rintro r u ⟨rfl, m, rfl⟩))
     refine ⟨?_, ?measure⟩
     (repeat apply Exists.intro)
     refine ⟨?rel, rfl⟩
     case rel => exact ⟨6, by go_num, by omega, hP2, _, rfl⟩
     case measure => simp [intOf]
   ·have HV : Hid (yn ok 2 T = 0) := by
     show yn ok 2 T = 0
     unfold yn
     rw [ze]
     intro hh
     simp only [yX, decide_eq_true_iff] at hh
     rcases zbN T hh.2 with e | e | e | e | e | e
     ·have := hP.out.1 (by omega); rw [hh.1, e] at this; exact absurd this (by decide)
     ·have := hP.out.2.1 (by omega); rw [hh.1, e] at this; exact absurd this (by decide)
     ·have := hP.out.2.2.1 (by omega); rw [hh.1, e] at this; exact absurd this (by decide)
     ·have := hP.out.2.2.2.1 (by omega); rw [hh.1, e] at this; exact absurd this (by decide)
     ·have := hP.out.2.2.2.2.1 (by omega); rw [hh.1, e] at this; exact absurd this (by decide)
     ·have := hP.out.2.2.2.2.2 (by omega); rw [hh.1, e] at this; exact absurd this (by decide)
    clear hP
    go_wp2
    go_ret
    exact ⟨by rw [HV.out]; rfl, hBq⟩
 ·go_loopw [7] (fun j wr => ∃ i : Nat, j = .int .i64 (i : Int) /\ i <= 2 /\ Hid ((0 < i -> (ok && decide (T = [43])) = false) /\ (1 < i -> (ok && decide (T = [45])) = false)) /\ ∃ q, wr = o6.drewN q) (fun j _ => 2 - (intOf j).toNat)
  case atStart => exact ⟨0, rfl, by omega, ⟨fun h => absurd h (by omega), fun h => absurd h (by omega)⟩, 0, rfl⟩
  case round =>
   obtain ⟨i, rfl, hi, hP, q, rfl⟩ := hrel
   have hBq : Below w.heap.size w (o6.drewN q) := hB.trans ((below_drewN o6 q).mono hB.size)
   rcases (show i = 0 \/ i = 1 \/ i = 2 by omega) with rfl | rfl | rfl
   ·have hC := HI.out ⟨#[43]⟩ _ (by decide) hBq
    rw [show bytes ⟨#[43]⟩ = [43] from rfl] at hC
    by_cases hb : (ok && decide (T = [43])) = true
    ·rw [hb] at hC
     have HV : Hid (yn ok 3 T = 11) := by
      simp only [yX, decide_eq_true_iff] at hb
      show yn ok 3 T = 11
      rw [hb.1, hb.2]
      decide
     clear hb hP
     go_wp2_with (first | (go_at_call 63; refine hC.mono ?_; rintro r u ⟨rfl, m, rfl⟩))
     go_ret
     exact ⟨by rw [HV.out]; rfl, hB.trans ((below_drewN o6 _).mono hB.size)⟩
    ·have hb := Bool.eq_false_iff.2 hb
     rw [hb] at hC
     have hP2 : Hid ((0 < 1 -> (ok && decide (T = [43])) = false) /\ (1 < 1 -> (ok && decide (T = [45])) = false)) := ⟨fun h => hb, fun h => absurd h (by omega)⟩
     clear hb hP
     go_wp2_with (first | (go_at_call 63; refine hC.mono ?_; rintro r u ⟨rfl, m, rfl⟩))
     refine ⟨?_, ?measure⟩
     (repeat apply Exists.intro)
     refine ⟨?rel, rfl⟩
     case rel => exact ⟨1, by go_num, by omega, hP2, _, rfl⟩
     case measure => simp [intOf]
   ·have hC := HI.out ⟨#[45]⟩ _ (by decide) hBq
    rw [show bytes ⟨#[45]⟩ = [45] from rfl] at hC
    by_cases hb : (ok && decide (T = [45])) = true
    ·rw [hb] at hC
     have HV : Hid (yn ok 3 T = 12) := by
      simp only [yX, decide_eq_true_iff] at hb
      show yn ok 3 T = 12
      rw [hb.1, hb.2]
      decide
     clear hb hP
     go_wp2_with (first | (go_at_call 63; refine hC.mono ?_; rintro r u ⟨rfl, m, rfl⟩))
     go_ret
     exact ⟨by rw [HV.out]; rfl, hB.trans ((below_drewN o6 _).mono hB.size)⟩
    ·have hb := Bool.eq_false_iff.2 hb
     rw [hb] at hC
     have hP2 : Hid ((0 < 2 -> (ok && decide (T = [43])) = false) /\ (1 < 2 -> (ok && decide (T = [45])) = false)) := ⟨fun h => hP.out.1 (by omega), fun h => hb⟩
     clear hb hP
     go_wp2_with (first | (go_at_call 63; refine hC.mono ?_; rintro r u ⟨rfl, m, rfl⟩))
     refine ⟨?_, ?measure⟩
     (repeat apply Exists.intro)
     refine ⟨?rel, rfl⟩
     case rel => exact ⟨2, by go_num, by omega, hP2, _, rfl⟩
     case measure => simp [intOf]
   ·have HV : Hid (yn ok 3 T = 0) := by
     show yn ok 3 T = 0
     unfold yn
     rw [ze]
     intro hh
     simp only [yX, decide_eq_true_iff] at hh
     rcases zbM T hh.2 with e | e
     ·have := hP.out.1 (by omega); rw [hh.1, e] at this; exact absurd this (by decide)
     ·have := hP.out.2 (by omega); rw [hh.1, e] at this; exact absurd this (by decide)
    clear hP
    go_wp2
    go_ret
    exact ⟨by rw [HV.out]; rfl, hBq⟩
 ·go_loopw [7] (fun j wr => ∃ i : Nat, j = .int .i64 (i : Int) /\ i <= 3 /\ Hid ((0 < i -> (ok && decide (T = [42])) = false) /\ (1 < i -> (ok && decide (T = [47])) = false) /\ (2 < i -> (ok && decide (T = [37])) = false)) /\ ∃ q, wr = o6.drewN q) (fun j _ => 3 - (intOf j).toNat)
  case atStart => exact ⟨0, rfl, by omega, ⟨fun h => absurd h (by omega), fun h => absurd h (by omega), fun h => absurd h (by omega)⟩, 0, rfl⟩
  case round =>
   obtain ⟨i, rfl, hi, hP, q, rfl⟩ := hrel
   have hBq : Below w.heap.size w (o6.drewN q) := hB.trans ((below_drewN o6 q).mono hB.size)
   rcases (show i = 0 \/ i = 1 \/ i = 2 \/ i = 3 by omega) with rfl | rfl | rfl | rfl
   ·have hC := HI.out ⟨#[42]⟩ _ (by decide) hBq
    rw [show bytes ⟨#[42]⟩ = [42] from rfl] at hC
    by_cases hb : (ok && decide (T = [42])) = true
    ·rw [hb] at hC
     have HV : Hid (yn ok 4 T = 13) := by
      simp only [yX, decide_eq_true_iff] at hb
      show yn ok 4 T = 13
      rw [hb.1, hb.2]
      decide
     clear hb hP
     go_wp2_with (first | (go_at_call 63; refine hC.mono ?_; rintro r u ⟨rfl, m, rfl⟩))
     go_ret
     exact ⟨by rw [HV.out]; rfl, hB.trans ((below_drewN o6 _).mono hB.size)⟩
    ·have hb := Bool.eq_false_iff.2 hb
     rw [hb] at hC
     have hP2 : Hid ((0 < 1 -> (ok && decide (T = [42])) = false) /\ (1 < 1 -> (ok && decide (T = [47])) = false) /\ (2 < 1 -> (ok && decide (T = [37])) = false)) := ⟨fun h => hb, fun h => absurd h (by omega), fun h => absurd h (by omega)⟩
     clear hb hP
     go_wp2_with (first | (go_at_call 63; refine hC.mono ?_; rintro r u ⟨rfl, m, rfl⟩))
     refine ⟨?_, ?measure⟩
     (repeat apply Exists.intro)
     refine ⟨?rel, rfl⟩
     case rel => exact ⟨1, by go_num, by omega, hP2, _, rfl⟩
     case measure => simp [intOf]
   ·have hC := HI.out ⟨#[47]⟩ _ (by decide) hBq
    rw [show bytes ⟨#[47]⟩ = [47] from rfl] at hC
    by_cases hb : (ok && decide (T = [47])) = true
    ·rw [hb] at hC
     have HV : Hid (yn ok 4 T = 14) := by
      simp only [yX, decide_eq_true_iff] at hb
      show yn ok 4 T = 14
      rw [hb.1, hb.2]
      decide
     clear hb hP
     go_wp2_with (first | (go_at_call 63; refine hC.mono ?_; rintro r u ⟨rfl, m, rfl⟩))
     go_ret
     exact ⟨by rw [HV.out]; rfl, hB.trans ((below_drewN o6 _).mono hB.size)⟩
    ·have hb := Bool.eq_false_iff.2 hb
     rw [hb] at hC
     have hP2 : Hid ((0 < 2 -> (ok && decide (T = [42])) = false) /\ (1 < 2 -> (ok && decide (T = [47])) = false) /\ (2 < 2 -> (ok && decide (T = [37])) = false)) := ⟨fun h => hP.out.1 (by omega), fun h => hb, fun h => absurd h (by omega)⟩
     clear hb hP
     go_wp2_with (first | (go_at_call 63; refine hC.mono ?_; rintro r u ⟨rfl, m, rfl⟩))
     refine ⟨?_, ?measure⟩
     (repeat apply Exists.intro)
     refine ⟨?rel, rfl⟩
     case rel => exact ⟨2, by go_num, by omega, hP2, _, rfl⟩
     case measure => simp [intOf]
   ·have hC := HI.out ⟨#[37]⟩ _ (by decide) hBq
    rw [show bytes ⟨#[37]⟩ = [37] from rfl] at hC
    by_cases hb : (ok && decide (T = [37])) = true
    ·rw [hb] at hC
     have HV : Hid (yn ok 4 T = 15) := by
      simp only [yX, decide_eq_true_iff] at hb
      show yn ok 4 T = 15
      rw [hb.1, hb.2]
      decide
     clear hb hP
     go_wp2_with (first | (go_at_call 63; refine hC.mono ?_; rintro r u ⟨rfl, m, rfl⟩))
     go_ret
     exact ⟨by rw [HV.out]; rfl, hB.trans ((below_drewN o6 _).mono hB.size)⟩
    ·have hb := Bool.eq_false_iff.2 hb
     rw [hb] at hC
     have hP2 : Hid ((0 < 3 -> (ok && decide (T = [42])) = false) /\ (1 < 3 -> (ok && decide (T = [47])) = false) /\ (2 < 3 -> (ok && decide (T = [37])) = false)) := ⟨fun h => hP.out.1 (by omega), fun h => hP.out.2.1 (by omega), fun h => hb⟩
     clear hb hP
     go_wp2_with (first | (go_at_call 63; refine hC.mono ?_; rintro r u ⟨rfl, m, rfl⟩))
     refine ⟨?_, ?measure⟩
     (repeat apply Exists.intro)
     refine ⟨?rel, rfl⟩
     case rel => exact ⟨3, by go_num, by omega, hP2, _, rfl⟩
     case measure => simp [intOf]
   ·have HV : Hid (yn ok 4 T = 0) := by
     show yn ok 4 T = 0
     unfold yn
     rw [ze]
     intro hh
     simp only [yX, decide_eq_true_iff] at hh
     rcases zbL T hh.2 with e | e | e
     ·have := hP.out.1 (by omega); rw [hh.1, e] at this; exact absurd this (by decide)
     ·have := hP.out.2.1 (by omega); rw [hh.1, e] at this; exact absurd this (by decide)
     ·have := hP.out.2.2 (by omega); rw [hh.1, e] at this; exact absurd this (by decide)
    clear hP
    go_wp2
    go_ret
    exact ⟨by rw [HV.out]; rfl, hBq⟩
theorem zeV (x : List UInt8) (h : (zB x).2 ≠ 0) : (zB x).1 ≠ 0 := by
 have go : ∀ (c : Prop) [Decidable c] (a b : Nat × Nat), a.1 ≠ 0 -> (b.2 ≠ 0 -> b.1 ≠ 0) -> ((if c then a else b).2 ≠ 0 -> (if c then a else b).1 ≠ 0) := fun c _ a b h1 h2 => by
  by_cases h : c
  ·rw [zi h]; exact fun _ => h1
  ·rw [ze h]; exact h2
 revert h
 unfold zB
 refine go _ _ _ (by decide) (go _ _ _ (by decide) (go _ _ _ (by decide) (go _ _ _ (by decide) (go _ _ _ (by decide) (go _ _ _ (by decide) (go _ _ _ (by decide) (go _ _ _ (by decide) (go _ _ _ (by decide) (go _ _ _ (by decide) (go _ _ _ (by decide) (go _ _ _ (by decide) (go _ _ _ (by decide) ?_))))))))))))
 intro h
 exact absurd rfl h
def kOf (w : World) (g : Nat) : Nat := match w.cell? ⟨g, 1, none⟩ with | some (.int _ z) => z.toNat | _ => 0
theorem Qd.kOf {B : Nat} {w : World} {g : Nat} {L : List Tk} {a : Option Addr} {c k en er pl ne bl : Nat} (h : Qd B w g L a c k en er pl ne bl) : kOf w g = k := by
 have := (zv h.cell).2.1
 unfold YtjgggmjjikopeaaGreatDoor.kOf
 rw [this]
 rfl
def RuI (B g n : Nat) (L : List Tk) (a : Option Addr) (c en d bl : Nat) (w : World) (b1 A f : Nat) (R : Rs Ex) (wr : World) : Prop :=
 ∃ (R0 : Rs Ex) (y : ET) (k er pl ne : Nat), StOf L en k er pl R0 /\ Qd B wr g L a c k en er pl ne bl /\ d <= ne /\ ne <= 33 /\ (∀ e l, R0 = .ok e l -> y.ex = e /\ ne = d /\ htX e <= 32 /\ ∃ j, j <= f /\ lpF j n d e l = some R) /\ (∀ e p, R0 = .bad e p -> R = .bad e p) /\ Tz A b1 wr y /\ At 43 wr b1 y.cells /\ At 43 wr w.heap.size [.int .u8 0, .int .u8 0, .int .u64 0, .string ⟨#[]⟩, .slice none 0 0] /\ But g w wr /\ A <= wr.heap.size /\ b1 < wr.heap.size
theorem zfa {L : List Tk} {en k er pl p op : Nat} {x : Ex} {Y : Rs Ex} {y z N : ET} {ne ne' : Nat}
  (hS : StOf L en k er pl ((Y.andThen fun _ r => (.ok () r : Rs Unit)).andThen fun _ r => (if 32 < htX N.ex then .bad 160 p else .ok () r : Rs Unit)))
  (hN : N.ex = .mk op 0 0 [] [y.ex, z.ex]) (hx : y.ex = x) (hy : ∀ e r, Y = .ok e r -> z.ex = e /\ ne' = ne) : StOf L en k er pl (Y.andThen fun e r => yg p op [x, e] r) := by
 cases Y with
 | bad e q => exact hS
 | ok e r =>
  have h1 := (hy e r rfl).1
  simp only [andThen_ok] at hS ⊢
  unfold yg
  rw [hN, h1, hx] at hS
  split
  ·next hc => rw [zi hc] at hS; exact hS
  ·next hc => rw [ze hc] at hS; exact hS
theorem ze9 {p op : Nat} {x : Ex} {Y : Rs Ex} {y z N : ET} {ne ne' : Nat} {e : Ex} {l2 : List Tk} (he : (Y.andThen fun e r => yg p op [x, e] r) = .ok e l2)
  (hN : N.ex = .mk op 0 0 [] [y.ex, z.ex]) (hx : y.ex = x) (hy : ∀ e r, Y = .ok e r -> z.ex = e /\ ne' = ne) : N.ex = e /\ ne' = ne /\ htX e <= 32 := by
 cases Y with
 | bad e q => cases he
 | ok e' r =>
  have h1 := hy e' r rfl
  simp only [andThen_ok] at he
  have h2 := Yv he
  unfold yg at he
  split at he
  ·cases he
  ·cases he
   exact ⟨by rw [hN, h1.1, hx], h1.2, h2⟩
theorem zgd {j m d op : Nat} {l : List Tk} {Y : Rs Ex} {y z : ET} {x : Ex} {ne ne' : Nat} (hY : yJ j m d l = some Y) (hx : y.ex = x) (hhx : htX x <= 32) (hy : ∀ e r, Y = .ok e r -> z.ex = e /\ ne' = ne) {l2 : List Tk}
  (q : (Y.andThen fun _ r => (.ok () r : Rs Unit)) = .ok () l2) : htX (.mk op 0 0 [] [y.ex, z.ex]) <= 1048576 := by
 cases Y with
 | bad e p => cases q
 | ok e r =>
  have h1 := (hy e r rfl).1
  have h2 := (JY j).1 _ _ _ _ _ hY
  rw [h1, hx]
  simp only [htX, htL]
  omega
theorem zdP {n p op : Nat} {x : Ex} {Y R : Rs Ex} (F : Ex -> List Tk -> Option (Rs Ex))
  (h : (match (some Y : Option (Rs Ex)) with | none => none | some (.bad e p) => some (.bad e p) | some (.ok y r) => match yg p op [x, y] r with | .bad e p => some (.bad e p) | .ok z r => if n = 2 then some (.ok z r) else F z r : Option (Rs Ex)) = some R) :
  (∀ e l, (Y.andThen fun e r => yg p op [x, e] r) = .ok e l -> if n = 2 then R = .ok e l else F e l = some R) /\ (∀ e q, (Y.andThen fun e r => yg p op [x, e] r) = .bad e q -> R = .bad e q) := by
 cases Y with
 | bad e q => cases h; exact ⟨(fun e l he => by cases he), (fun e q he => by cases he; rfl)⟩
 | ok y r =>
  dsimp only at h
  simp only [andThen_ok]
  cases hm : yg p op [x, y] r with
  | bad e q => rw [hm] at h; cases h; exact ⟨(fun e l he => by cases he), (fun e q he => by cases he; rfl)⟩
  | ok z r2 =>
   rw [hm] at h
   dsimp only at h
   refine ⟨fun e l he => ?_, (fun e q he => by cases he)⟩
   cases he
   split
   ·next hc => rw [zi hc] at h; exact (yZ h).symm
   ·next hc => rw [ze hc] at h; exact h
theorem zbh {f n d : Nat} {l : List Tk} {Y : Rs Ex} (hn : n <= 5) (h : yJ f n d l = some Y) : Y.Left l.length := by
 obtain ⟨f', r', h1⟩ := zcP l (n + 1) d (by omega)
 have h2 := jm (by omega) h1
 obtain ⟨f2, h3⟩ := (zgb f').1 (n + 1) d l r' (by omega) (by omega) h1
 rw [show n + 1 - 1 = n by omega] at h3
 have h4 := VO h3 (show f2 <= max f f2 by omega)
 rw [VO h (show f <= max f f2 by omega)] at h4
 rw [yZ h4]
 exact h2
theorem jx (L : List Tk) (k en : Nat) : (za L k en).length = L.length - k + 1 := by
 unfold za
 simp
theorem zgK {L : List Tk} {k k' en er pl p op j m d : Nat} {x : Ex} {Y : Rs Ex} (hm : m <= 5) (hY : yJ j m d (za L (k + 1) en) = some Y) (hk : k < L.length) (hk' : k' <= L.length) (hS : StOf L en k' er pl (Y.andThen fun e r => yg p op [x, e] r)) : L.length - k' < L.length - k := by
 have hl := zbh hm hY
 cases Y with
 | bad e q =>
  obtain ⟨-, -, h3, -⟩ := hS
  omega
 | ok e r =>
  simp only [andThen_ok] at hS
  have hl : r.length < (za L (k + 1) en).length := hl
  rw [jx] at hl
  unfold yg at hS
  split at hS
  ·obtain ⟨-, -, h3, -⟩ := hS
   omega
  ·obtain ⟨-, -, h3⟩ := hS
   rw [<- h3, jx] at hl
   omega
theorem zfj (f : Nat) (hU : UnW f) (hR : ∀ j, j <= f -> RuW j) : RuW (f + 1) := by
 intro n R B g L a c k en d bl w hn hd hok h hQ hB
 have hlt := hQ.lt
 have hlow := hQ.low
 rw [yJ] at h
 by_cases hn4 : 4 < n
 ·rw [zi hn4] at h
  have HC : Hid (∀ u, Below w.heap.size w u -> Calls Tryz.prog 143 #[.pointer (some ⟨g, 0, none⟩)] u fun r w' => Y5 B g L a c en d bl u R r w') := fun u hu => hU R B g L a c k en d bl u hd hok h (hQ.below hu) (zQ hB hu.size)
  clear h hQ hU hR
  go_enter Tryz.func110, Tryz.ntmps110
  go_wp2_with (first
   | (refine aL (o := { dst := some 4, .. }) rfl rfl z29 ?_; intro w1 hA1 hb1)
   | (go_at_call 143; refine (HC.out _ hb1).mono ?_; rintro _ w2 ⟨y, k2, er2, pl2, ne2, rfl, hT2, hb2, hQ2, hS2, hn1, hn2, hy⟩; have hA12 := hb2.at hA1 (by omega))
   | (refine sL rfl rfl hA12 y.cells rfl rfl (i43 _) (yP _) (ET.one _) ?_; intro wz hAz hbz))
  refine zr (zh rfl _ _ w.heap.size 43 y.cells _ rfl hAz zR rfl (i43 _)) rfl ?_
  have l1 := hA1.lt
  exact ⟨y, k2, er2, pl2, ne2, rfl, (hT2.but hbz (.inl l1)).low hb1.size, ((But.of_below hb1).trans hb2).fresh hbz (zj _), hQ2.but hbz hB, hS2, hn1, hn2, hy⟩
 ·rw [ze hn4] at h
  cases hx : yJ f (n + 1) d (za L k en) with
  | none => rw [hx] at h; cases h
  | some R0 =>
   rw [hx] at h
   have HC : Hid (∀ u, Below w.heap.size w u -> Calls Tryz.prog 110 #[.pointer (some ⟨g, 0, none⟩), .int .i64 ((n : Int) + 1)] u fun r w' => Y5 B g L a c en d bl u R0 r w') := fun u hu => by
    have := hR f (zj _) (n + 1) R0 B g L a c k en d bl u (by omega) hd hok hx (hQ.below hu) (zQ hB hu.size)
    rwa [show ((n + 1 : Nat) : Int) = (n : Int) + 1 by omega] at this
   have HX : Hid ((∀ e l, R0 = .ok e l -> htX e <= 32 /\ ∃ j, j <= f /\ lpF j n d e l = some R) /\ ∀ e p, R0 = .bad e p -> R = .bad e p) := ⟨fun e l he => by subst he; exact ⟨(JY f).1 _ _ _ _ _ hx, f, zj _, h⟩, fun e p he => by subst he; cases h; rfl⟩
   have HR : Hid (∀ j, j <= f -> RuW j) := hR
   clear h hx hQ hU hR
   go_enter Tryz.func110, Tryz.ntmps110
   go_wp2_with (first
    | (refine aL (o := { dst := some 4, .. }) rfl rfl z29 ?_; intro w1 hA1 hb1)
    | (go_at_call 110; refine (HC.out _ hb1).mono ?_; rintro _ w2 ⟨y, k2, er2, pl2, ne2, rfl, hT, hb2, hQ2, hS2, hn1, hn2, hy⟩)
    | (refine aL (o := { dst := some 5, .. }) rfl rfl z29 ?_; intro w3 hA3 hb3)
    | (refine sL rfl rfl hA3 y.cells rfl rfl (i43 _) (yP _) (ET.one _) ?_; intro w4 hA4 hb4; refine zb ?_))
   refine zd ?_
   have l1 := hA1.lt
   have l2 := hb2.size
   have l3 := hA3.lt
   have l4 := hb4.size
   have l0 := hb1.size
   have hT : Tz w1.heap.size w2.heap.size w2 y := ⟨hT.1, (ET.In.lies hT.1.1 hT.2).mono fun k hk => ⟨hk.1, by omega⟩⟩
   have HI : Hid (RuI B g n L a c en d bl w w2.heap.size w1.heap.size f R w4) :=
    ⟨R0, y, k2, er2, pl2, ne2, hS2, (hQ2.below hb3).but hb4 (by omega), hn1, hn2, fun e l he => ⟨(hy e l he).1, (hy e l he).2, HX.out.1 e l he⟩, HX.out.2, (hT.below hb3).but hb4 (.inr (.inl rfl)), hA4, hb4.at ((hb2.at hA1 (by omega)).below hb3) (by omega), (((But.of_below hb1).trans hb2).trans (But.of_below hb3)).fresh hb4 (by omega), by omega, by omega⟩
   clear hA1 hA3 hA4 hb1 hb2 hb3 hb4 hT HC hQ2 hS2 hy HX hn1 hn2
   go_wp2_with fail
   go_loopw [6] (fun _ wr => Hid (RuI B g n L a c en d bl w w2.heap.size w1.heap.size f R wr)) (fun _ wr => L.length - kOf wr g)
   case atStart => exact HI
   case round =>
    clear HI
    obtain ⟨R0, y, k, er, pl, ne, hS, hQ, hn1, hn2, hy, hbd, hT, hA5, hA4, hBw, hAs, hbs⟩ := hrel.out
    clear hrel
    have hSg := KW g n (by omega) L a c k en er pl ne bl wr hQ
    have hkO := hQ.kOf
    cases R0 with
    | bad e p =>
     obtain ⟨rfl, rfl, rfl, he0⟩ := hS
     have hv : yn (decide (er = 0) && decide (pl = 0)) n (hdT (za L L.length en)).text = 0 := by rw [zN he0]; rfl
     rw [hv] at hSg
     obtain rfl := hbd _ _ rfl
     clear hv hy hbd HR
     go_wp2_with (first
      | (go_at_call 144; refine hSg.mono ?_; rintro r u2 ⟨rfl, hb2⟩; have hA52 := hA5.below hb2; have hA42 := hA4.below hb2)
      | (refine lL rfl rfl hA52 rfl zR rfl (i43 _) ?_)
      | (refine sL rfl rfl hA42 y.cells rfl rfl (i43 _) (yP _) (ET.one _) ?_; intro wz hAz hbz))
     refine zr (zh rfl _ _ w.heap.size 43 y.cells _ rfl hAz zR rfl (i43 _)) rfl ?_
     exact ⟨y, _, _, _, ne, rfl, (((hT.below hb2).tw).but hbz (.inl (by omega))).low (by omega), (hBw.trans (But.of_below hb2)).fresh hbz (zj _), (hQ.below hb2).but hbz hB, ⟨rfl, rfl, rfl, he0⟩, hn1, hn2, fun e l he => by cases he⟩
    | ok x l =>
     obtain ⟨rfl, rfl, hl⟩ := hS
     obtain ⟨hyx, hned, hhx, j, hj, hlp⟩ := hy x l rfl
     subst hned
     cases j with
     | zero => simp [lpF] at hlp
     | succ j =>
      rw [lpF] at hlp
      have hat := @V5 L k en
      rw [hl] at hSg hat
      by_cases hc : (zB (hdT l).text).2 ≠ n + 1
      ·rw [zi hc] at hlp
       obtain rfl := yZ hlp
       have hv : yn (decide ((0 : Nat) = 0) && decide ((0 : Nat) = 0)) n (hdT l).text = 0 := by
        unfold yn
        rw [ze]
        intro hh
        simp only [yX, decide_eq_true_iff] at hh
        exact hc hh.2
       rw [hv] at hSg
       clear hv hy hbd HR hlp hc hat
       go_wp2_with (first
        | (go_at_call 144; refine hSg.mono ?_; rintro r u2 ⟨rfl, hb2⟩; have hA52 := hA5.below hb2; have hA42 := hA4.below hb2)
        | (refine lL rfl rfl hA52 rfl zR rfl (i43 _) ?_)
        | (refine sL rfl rfl hA42 y.cells rfl rfl (i43 _) (yP _) (ET.one _) ?_; intro wz hAz hbz))
       refine zr (zh rfl _ _ w.heap.size 43 y.cells _ rfl hAz zR rfl (i43 _)) rfl ?_
       exact ⟨y, k, 0, 0, ne, rfl, (((hT.below hb2).tw).but hbz (.inl (by omega))).low (by omega), (hBw.trans (But.of_below hb2)).fresh hbz (zj _), (hQ.below hb2).but hbz hB, ⟨rfl, rfl, hl⟩, hn1, hn2, fun e l he => by cases he; exact ⟨hyx, rfl⟩⟩
      ·have ht : (zB (hdT l).text).2 = n + 1 := by omega
       rw [ze hc] at hlp
       obtain ⟨hk, htl⟩ := hat (.inl (X1 (by omega)))
       have hop0 := zeV (hdT l).text (by omega)
       have hop := zcq (hdT l).text
       have hv : yn (decide ((0 : Nat) = 0) && decide ((0 : Nat) = 0)) n (hdT l).text = (zB (hdT l).text).1 := by
        unfold yn
        rw [zi]
        simp [ht]
       rw [hv] at hSg
       have HN : Hid (∀ u, Below wr.heap.size wr u -> Calls Tryz.prog 41 #[.pointer (some ⟨g, 0, none⟩)] u fun r w' => r = .returned (.int .i64 ((hdT l).place : Int)) /\ ∃ m, w' = u.drewN m) := fun u hu => by
        have := ZU g L a c k en 0 0 ne bl u (hQ.below hu)
        rwa [hl] at this
       rw [htl] at hlp
       cases hx : yJ j (n + 1) ne (za L (k + 1) en) with
       | none => rw [hx] at hlp; cases hlp
       | some Y =>
        rw [hx] at hlp
        have hsp := zdP (fun z r => lpF j n ne z r) hlp
        have HC : Hid (∀ u, Qd B u g L a c (k + 1) en 0 0 ne bl -> B <= u.heap.size -> Calls Tryz.prog 110 #[.pointer (some ⟨g, 0, none⟩), .int .i64 ((n : Int) + 1)] u fun r w' => Y5 B g L a c en ne bl u Y r w') := fun u hu hs => by
         have := HR.out j (by omega) (n + 1) Y B g L a c (k + 1) en ne bl u (by omega) hd hok hx hu hs
         rwa [show ((n + 1 : Nat) : Int) = (n : Int) + 1 by omega] at this
        generalize (zB (hdT l).text).1 = op at *
        generalize (hdT l).place = p at *
        clear hlp hc hat hv ht htl hy hbd hl
        have hop0' : ¬ (op : Int) = 0 := by omega
        have hlen := hQ.len
        go_wp2_with (first
         | (go_at_call 144; refine hSg.mono ?_; rintro r u2 ⟨rfl, hb2⟩)
         | (go_at_call 41; refine (HN.out _ hb2).mono ?_; rintro r u3 ⟨rfl, m, hw⟩; have hb3 : Below u2.heap.size u2 u3 := (by rw [hw]; exact below_drewN _ _); clear hw m; have hQ3 := (hQ.below hb2).below hb3; obtain ⟨q0, q1, q2, q3, q4, q5, q6⟩ := zv hQ3.cell)
         | (refine zz rfl rfl hQ3.cell 1 (.int .i64 ((k : Int) + 1)) rfl rfl i3 ?_; intro u4 hA4' hb4; refine zb ?_))
        refine zd ?_
        have hQ4 : Qd B u4 g L a c (k + 1) en 0 0 ne bl := hQ3.set hA4' hb4 hk
        have l2' := hb2.size
        have l3' := hb3.size
        have l4' := hb4.size
        have hA54 := hb4.at ((hA5.below hb2).below hb3) (by omega)
        have hA44 := hb4.at ((hA4.below hb2).below hb3) (by omega)
        have hT4 := ((hT.below hb2).below hb3).but hb4 (.inl (by omega))
        have hB4 := ((hBw.trans (But.of_below hb2)).trans (But.of_below hb3)).trans hb4
        clear q0 q1 q2 q3 q4 q5 q6 hb2 hb3 hb4 hQ hQ3 hA5 hA4 hT hBw hA4' hSg HN
        go_wp2_with (first
         | (go_at_call 110; refine (HC.out _ hQ4 (by omega)).mono ?_; rintro _ u5 ⟨z, k5, er5, pl5, ne5, rfl, hTz, hb5, hQ5, hS5, m1, m2, hz⟩)
         | (refine aL (o := { dst := some 8, .. }) rfl rfl z29 ?_; intro u6 hA6 hb6)
         | (refine sL rfl rfl hA6 z.cells rfl rfl (i43 _) (yP _) (ET.one _) ?_; intro u8 hA8 hb8; refine zb ?_))
        refine zd ?_
        have l5' := hb5.size
        have l6' := hA6.lt
        have l8' := hb8.size
        have hA58 := hb8.at ((hb5.at hA54 (by omega)).below hb6) (by omega)
        have hA48 := hb8.at ((hb5.at hA44 (by omega)).below hb6) (by omega)
        have hT8 := (hT4.but hb5 (.inl (by omega))).but ((But.of_below (g := g) hb6).fresh hb8 (zj _)) (.inl (by omega))
        have hTz8 : Tw u4.heap.size u8 z := hTz.but ((But.of_below (g := g) hb6).fresh hb8 (zj _)) (.inl (by omega))
        have hQ8 := (hQ5.below hb6).but hb8 (by omega)
        have hB8 : But g w u8 := ((hB4.trans hb5).trans (But.of_below hb6)).fresh hb8 (by have := hB4.size; omega)
        clear hb5 hb6 hb8 hA6 hT4 hTz hQ4 hQ5 hB4 hA54 hA44 HC
        go_wp2_with (first
         | (refine lL rfl rfl hA58 rfl zR rfl (i43 _) ?_)
         | (refine lL rfl rfl hA8 rfl zR rfl (i43 _) ?_)
         | (refine Jo rfl (.tmp 38) (.tmp 39) rfl y z rfl rfl ?_; intro u9 hA9 hb9 hs9; clear hs9; refine zb ?_))
        refine zd ?_
        have l9' := hA9.lt
        have hTy9 := hT8.below hb9
        have hTz9 := hTz8.below hb9
        have hk9 := zcc (op := op) hA9 hTy9.tw (hTz9.low (by omega)) hop (by omega)
        have hkl : (ET.mk op 0 0 ⟨#[]⟩ (some ⟨u8.heap.size, 0, none⟩) 2 [y, z]).Lies (fun j => w1.heap.size <= j /\ j ≠ w2.heap.size) := jy hTy9.2 (hTz9.2.mono fun j hj => ⟨by omega, by omega⟩) ⟨by omega, by omega⟩
        obtain ⟨N, hNd⟩ : ∃ N : ET, N = ET.mk op 0 0 ⟨#[]⟩ (some ⟨u8.heap.size, 0, none⟩) 2 [y, z] := ⟨_, rfl⟩
        have hNc : N.cells = [.int .u8 (op : Int), .int .u8 0, .int .u64 0, .string ⟨#[]⟩, .slice (some ⟨u8.heap.size, 0, none⟩) 2 2] := by rw [hNd]; rfl
        have hNx : N.ex = .mk op 0 0 [] [y.ex, z.ex] := by rw [hNd]; rfl
        rw [<- hNd] at hk9 hkl
        have hM := XQ (B := B) g L a c k5 en er5 pl5 ne5 bl _ hS5.unit N p u9 (hQ8.below hb9) (by omega) hk9 (by omega) (fun l2 q => by rw [hNx]; exact zgd hx hyx hhx hz q)
        rw [hNc] at hM
        have hA59 := hA58.below hb9
        have hA49 := hA48.below hb9
        have hB9 : But g w u9 := hB8.trans (But.of_below hb9)
        clear hNd hA58 hA48 hQ8 hB8 hT8 hTz8 hTy9 hTz9 hA9 hb9 hA8
        go_wp2_with (first
         | (refine zF rfl rfl [.int .u8 (op : Int), .int .u8 0, .int .u64 0, .string ⟨#[]⟩, .slice (some ⟨u8.heap.size, 0, none⟩) 2 2] ?_)
         | (go_at_call 145; refine hM.mono ?_; rintro r u10 ⟨rfl, hT10, k10, er10, pl10, hQ10, hS10, hb10⟩; have hA5a := hb10.at hA59 (by omega))
         | (refine sL rfl rfl hA5a [.int .u8 (op : Int), .int .u8 0, .int .u64 0, .string ⟨#[]⟩, .slice (some ⟨u8.heap.size, 0, none⟩) 2 2] rfl rfl i29 (by rw [ET.cells5]; rfl) (by rw [<- hNc]; exact ET.one N) ?_; intro u11 hA11 hb11; refine zb ?_))
        refine zd ?_
        rw [<- hNc] at hA11
        have l10' := hb10.size
        have l11' := hb11.size
        have hTN : Tz w1.heap.size w2.heap.size u11 N := (Tz.but (w := u9) ⟨hk9.1, hkl⟩ hb10 (.inl (by omega))).but hb11 (.inr (.inl rfl))
        have hA4b := hb11.at (hb10.at hA49 (by omega)) (by omega)
        have hQb := hQ10.but hb11 (by omega)
        have hBb : But g w u11 := (hB9.trans hb10).fresh hb11 (by have := hB9.size; omega)
        have hSb := zfa hS10 hNx hyx hz
        have hfar := zgK (by omega) hx hk hQ10.le hSb
        have hval := fun e l (he : (Y.andThen fun e r => yg p op [x, e] r) = .ok e l) => ze9 (e := e) (l2 := l) he hNx hyx hz
        clear hA59 hA49 hB9 hk9 hkl hM hT10 hQ10 hb10 hb11 hA5a hx hS5 hz hS10 hNx hNc
        by_cases n2 : n = 2
        ·subst n2
         have hRR : R = Y.andThen fun e r => yg p op [x, e] r := by
          cases hq : Y.andThen fun e r => yg p op [x, e] r with
          | ok e l => have := hsp.1 e l hq; rwa [zi rfl] at this
          | bad e q => exact hsp.2 e q hq
         subst hRR
         go_wp2_with (first
          | (refine lL rfl rfl hA11 rfl zR rfl (i43 _) ?_)
          | (refine sL rfl rfl hA4b N.cells rfl rfl (i43 _) (yP _) (ET.one _) ?_; intro wz hAz hbz))
         refine zr (zh rfl _ _ w.heap.size 43 N.cells _ rfl hAz zR rfl (i43 _)) rfl ?_
         exact ⟨N, k10, er10, pl10, ne5, rfl, ((hTN.tw).but hbz (.inl (by omega))).low (by omega), hBb.fresh hbz (zj _), hQb.but hbz hB, hSb, m1, m2, fun e l he => ⟨(hval e l he).1, (hval e l he).2.1⟩⟩
        ·have HI2 : Hid (RuI B g n L a c en ne bl w w2.heap.size w1.heap.size f R u11) :=
          ⟨_, N, k10, er10, pl10, ne5, hSb, hQb, m1, m2, fun e l he => ⟨(hval e l he).1, (hval e l he).2.1, (hval e l he).2.2, j, by omega, by have := hsp.1 e l he; rwa [ze n2] at this⟩, hsp.2, hTN, hA11, hA4b, hBb, by omega, by omega⟩
         have hkN := hQb.kOf
         clear hTN hA4b hQb hBb hA11 hSb hval hsp
         go_wp2_with fail
         go_roundw
         case rel => exact HI2
         case measure => rw [hkN, hkO]; exact hfar
theorem zhb : ∀ f, (∀ j, j <= f -> RuW j) /\ (∀ j, j <= f -> UnW j) := by
 intro f
 induction f with
 | zero =>
  refine ⟨fun j hj => ?_, fun j hj => ?_⟩
  ·obtain rfl : j = 0 := by omega
   intro n R B g L a c k en d bl w _ _ _ h
   simp [yJ] at h
  ·obtain rfl : j = 0 := by omega
   intro R B g L a c k en d bl w _ _ h
   simp [unF] at h
 | succ f ih =>
  have hU := zdL f (ih.2 f (zj _)) (zbo f fun j hj => ih.1 j (by omega))
  have hR := zfj f (ih.2 f (zj _)) ih.1
  refine ⟨fun j hj => ?_, fun j hj => ?_⟩
  ·by_cases h : j <= f
   ·exact ih.1 j h
   ·obtain rfl : j = f + 1 := by omega
    exact hR
  ·by_cases h : j <= f
   ·exact ih.2 j h
   ·obtain rfl : j = f + 1 := by omega
    exact hU
theorem zg1 (f : Nat) : RuW f := (zhb f).1 f (zj _)
theorem zdE (f : Nat) (R : Rs Ex) (B g : Nat) (L : List Tk) (a : Option Addr) (c k en d bl : Nat) (w : World) (hok : ∀ t ∈ L, Zd t) (h : yJ f 0 0 (za L k en) = some R) (hQ : Qd B w g L a c k en 0 0 d bl) (hB : B <= w.heap.size) :
  Calls Tryz.prog 39 #[.pointer (some ⟨g, 0, none⟩)] w fun r w' => Y5 B g L a c en 0 bl w R r w' := by
 have hlt := hQ.lt
 have HR : Hid (∀ u, Qd B u g L a c k en 0 0 0 bl -> B <= u.heap.size -> Calls Tryz.prog 72 #[.pointer (some ⟨g, 0, none⟩)] u fun r w' => Y5 B g L a c en 0 bl u R r w') := fun u hu hs => Kf f (zg1 f) R B g L a c k en 0 bl u (by omega) hok h hu hs
 have HQ : Hid (Qd B w g L a c k en 0 0 d bl) := hQ
 have hA := hQ.cell
 have hle := hQ.le
 clear h hQ
 generalize hn : L.length = n at *
 go_enter Tryz.func39, Tryz.ntmps39
 go_wp2_with (first
  | (refine aL (o := { dst := some 2, .. }) rfl rfl z29 ?_; intro w1 hA1 hb1)
  | (refine zz rfl rfl (hA.below hb1) 5 (.int .i64 0) rfl rfl i3 ?_; intro w2 hA2 hb2; refine zb ?_))
 refine zd ?_
 have l1 := hA1.lt
 have l2 := hb2.size
 have hA2 : At 71 w2 g (q7 a n c k en 0 0 0 bl) := hA2
 have hQ2 : Qd B w2 g L a c k en 0 0 0 bl := by subst hn; exact (HQ.out.below hb1).set hA2 hb2 hle
 have hA12 := hb2.at hA1 (by omega)
 have hs1' := hb1.size
 clear hA hA2 hA1
 go_wp2_with (first
  | (go_at_call 72; refine (HR.out _ hQ2 (by omega)).mono ?_; rintro _ w3 ⟨y, k', er', pl', ne', rfl, hT, hb3, hQ3, hS3, hn1, hn2, hy⟩; have hA13 := hb3.at hA12 (by omega))
  | (refine sL rfl rfl hA13 y.cells rfl rfl (i43 _) (yP _) (ET.one _) ?_; intro w9 hA9 hb9))
 refine zr (zh rfl _ _ w.heap.size 43 y.cells _ rfl hA9 zR rfl (i43 _)) rfl ?_
 exact ⟨y, k', er', pl', ne', rfl, (hT.but hb9 (.inl (by omega))).low (by omega), (((But.of_below hb1).trans hb2).trans hb3).fresh hb9 (zj _), hQ3.but hb9 hB, hS3, hn1, hn2, hy⟩
