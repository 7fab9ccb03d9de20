/- J -/
import Derived.Test.YtjgggmjjikopeaaGreatDoorJ30
set_option linter.unusedVariables false
set_option maxRecDepth 100000
set_option maxHeartbeats 6400000
open Go.RowKit
namespace Go.Proofs.YtjgggmjjikopeaaGreatDoor
theorem YZ {ops : Array Oper} {rest : List Oper} {o : Oper} {a : Act} {w : World} {Q : Exit -> Act -> World -> Prop} (hgd : o.guard = none) (x : Operand) (ho : o.op = .buildSlice 41 1 #[(0, x)]) (y : ET) (hx : a.eval x = .agg y.cells.toArray)
  (h : ∀ w', At 43 w' w.heap.size y.cells -> Below w.heap.size w w' -> w'.heap.size = w.heap.size + 1 -> wpList Tryz.prog ops Q rest (a.put o.dst (.slice (some ⟨w.heap.size, 0, none⟩) 1 1)) w') : wpList Tryz.prog ops Q (o :: rest) a w :=
 wpList_plain hgd fun K hK => VC x ho y hx fun w' h1 h2 h3 => hK _ _ (h w' h1 h2 h3)
theorem StOf.unit {L : List Tk} {en k er pl : Nat} {R : Rs Ex} (h : StOf L en k er pl R) : StOf L en k er pl (R.andThen fun _ l => (.ok () l : Rs Unit)) := by
 cases R with
 | ok e l => exact h
 | bad e p => exact h
theorem zcm {d p j op : Nat} {l : List Tk} {Y : Rs Ex} {y : ET} {ne ne' : Nat} (hY : ∀ l2, ((brS d p l).andThen fun _ r => zq [40] r) = .ok () l2 -> d < 32 /\ yJ j 0 (d + 1) l2 = some Y)
  (hy : ∀ e r, (((brS d p l).andThen fun _ r => zq [40] r).andThen fun _ _ => Y) = .ok e r -> y.ex = e /\ ne' = ne) {l2 : List Tk}
  (q : (((((brS d p l).andThen fun _ r => zq [40] r).andThen fun _ _ => Y).andThen fun _ r => (.ok () r : Rs Unit)).andThen fun _ r => zq [41] r) = .ok () l2) : htX (.mk op 0 0 [] [y.ex]) <= 1048576 := by
 cases hs : (brS d p l).andThen fun _ r => zq [40] r with
 | bad e p => rw [hs] at q; cases q
 | ok u l3 =>
  rw [hs] at q hy
  have hr := (hY l3 (by rw [hs])).2
  cases Y with
  | bad e p => cases q
  | ok e r =>
   have h1 := (hy e r rfl).1
   have h2 := (JY j).1 _ _ _ _ _ hr
   rw [h1]
   simp only [htX, htL]
   omega
theorem zaW {L : List Tk} {en k er pl d p op : Nat} {l : List Tk} {Y : Rs Ex} {y N : ET} {ne ne' : Nat}
  (hS : StOf L en k er pl ((((((brS d p l).andThen fun _ r => zq [40] r).andThen fun _ _ => Y).andThen fun _ r => (.ok () r : Rs Unit)).andThen fun _ r => zq [41] r).andThen fun _ r => (if 32 < htX N.ex then .bad 160 p else .ok () r : Rs Unit)))
  (hN : N.ex = .mk op 0 0 [] [y.ex])
  (hy : ∀ e r, (((brS d p l).andThen fun _ r => zq [40] r).andThen fun _ _ => Y) = .ok e r -> y.ex = e /\ ne' = ne) :
  StOf L en k er pl ((((brS d p l).andThen fun _ r => zq [40] r).andThen fun _ _ => Y).andThen fun e r => (zq [41] r).andThen fun _ r2 => yg p op [e] r2) := by
 cases hs : ((brS d p l).andThen fun _ r => zq [40] r).andThen fun _ _ => Y with
 | bad e q => rw [hs] at hS; exact hS
 | ok e r =>
  rw [hs] at hS
  have h1 := (hy e r hs).1
  simp only [andThen_ok] at hS ⊢
  cases hm : zq [41] r with
  | bad e2 q => rw [hm] at hS; exact hS
  | ok u r2 =>
   rw [hm] at hS
   simp only [andThen_ok] at hS ⊢
   unfold yg
   rw [hN, h1] at hS
   split
   ·next hc => rw [zi hc] at hS; exact hS
   ·next hc => rw [ze hc] at hS; exact hS
theorem zaV {d p op : Nat} {l : List Tk} {Y : Rs Ex} {y N : ET} {ne ne' : Nat} {e : Ex} {l2 : List Tk}
  (he : ((((brS d p l).andThen fun _ r => zq [40] r).andThen fun _ _ => Y).andThen fun e r => (zq [41] r).andThen fun _ r2 => yg p op [e] r2) = .ok e l2)
  (hN : N.ex = .mk op 0 0 [] [y.ex])
  (hy : ∀ e r, (((brS d p l).andThen fun _ r => zq [40] r).andThen fun _ _ => Y) = .ok e r -> y.ex = e /\ ne' = ne + 1) : N.ex = e /\ ne' - 1 = ne := by
 cases hs : ((brS d p l).andThen fun _ r => zq [40] r).andThen fun _ _ => Y with
 | bad e q => rw [hs] at he; cases he
 | ok e' r =>
  rw [hs] at he
  have h1 := hy e' r hs
  simp only [andThen_ok] at he
  cases hm : zq [41] r with
  | bad e2 q => rw [hm] at he; cases he
  | ok u r2 =>
   rw [hm] at he
   simp only [andThen_ok] at he
   unfold yg at he
   split at he
   ·cases he
   ·cases he
    exact ⟨by rw [hN, h1.1], by omega⟩
theorem zfT {L : List Tk} {en k er pl : Nat} {S : Rs Unit} {Y : Rs Ex}
  (hS : StOf L en k er pl (((S.andThen fun _ _ => Y).andThen fun _ r => (.ok () r : Rs Unit)).andThen fun _ r => zq [41] r)) :
  StOf L en k er pl ((S.andThen fun _ _ => Y).andThen fun e r => (zq [41] r).andThen fun _ r2 => (.ok e r2 : Rs Ex)) := by
 cases hs : S.andThen fun _ _ => Y with
 | bad e q => rw [hs] at hS; exact hS
 | ok e r =>
  rw [hs] at hS
  simp only [andThen_ok] at hS ⊢
  cases hm : zq [41] r with
  | bad e2 q => rw [hm] at hS; exact hS
  | ok u r2 => rw [hm] at hS; exact hS
theorem zfS {S : Rs Unit} {Y : Rs Ex} {y : ET} {ne ne' : Nat} {e : Ex} {l2 : List Tk}
  (he : ((S.andThen fun _ _ => Y).andThen fun e r => (zq [41] r).andThen fun _ r2 => (.ok e r2 : Rs Ex)) = .ok e l2)
  (hy : ∀ e r, (S.andThen fun _ _ => Y) = .ok e r -> y.ex = e /\ ne' = ne + 1) : y.ex = e /\ ne' - 1 = ne := by
 cases hs : S.andThen fun _ _ => Y with
 | bad e q => rw [hs] at he; cases he
 | ok e' r =>
  rw [hs] at he
  have h1 := hy e' r hs
  simp only [andThen_ok] at he
  cases hm : zq [41] r with
  | bad e2 q => rw [hm] at he; cases he
  | ok u r2 =>
   rw [hm] at he
   cases he
   exact ⟨h1.1, by omega⟩
def PrW (f : Nat) : Prop := ∀ (R : Rs Ex) (B g : Nat) (L : List Tk) (a : Option Addr) (c k en d bl : Nat) (w : World), d <= 32 -> (∀ t ∈ L, Zd t) -> zL (hdT (za L k en)).text ≠ 16 -> zL (hdT (za L k en)).text ≠ 17 -> unF f d (za L k en) = some R -> Qd B w g L a c k en 0 0 d bl -> B <= w.heap.size ->
 Calls Tryz.prog 168 #[.pointer (some ⟨g, 0, none⟩)] w fun r w' => Y5 B g L a c en d bl w R r w'
theorem zei {t : Tk} (hok : Zd t) (h : (zW t).isSome = true) : zL t.text = 0 /\ t.text ≠ [40] := by
 by_cases hk : t.kind = 2 \/ t.kind = 3
 ·have hd := hok.2 hk
  have ne : ∀ (x : List UInt8), (x.getD 0 0).toNat < 48 \/ 57 < (x.getD 0 0).toNat -> t.text ≠ x := fun x hx e => by rw [e] at hd; omega
  refine ⟨?_, ne _ (by decide)⟩
  unfold zL
  rw [ze (ne _ (by decide)), ze (ne _ (by decide)), ze (ne _ (by decide)), ze (ne _ (by decide))]
 ·unfold zW at h
  by_cases h1 : t.text = [116, 114, 117, 101]
  ·rw [h1]; exact ⟨by decide, by decide⟩
  by_cases h2 : t.text = [102, 97, 108, 115, 101]
  ·rw [h2]; exact ⟨by decide, by decide⟩
  by_cases h3 : t.text = [110, 97, 110]
  ·rw [h3]; exact ⟨by decide, by decide⟩
  by_cases h4 : t.text = [105, 110, 102]
  ·rw [h4]; exact ⟨by decide, by decide⟩
  rw [ze h1, ze h2, ze h3, ze h4, ze hk] at h
  cases h
theorem jJ {L : List Tk} {k en : Nat} (hok : ∀ t ∈ L, Zd t) : Zd (hdT (za L k en)) := by
 by_cases hk : k < L.length
 ·rw [(YD (yD hk)).1]
  exact hok _ (List.getElem_mem hk)
 ·rw [Zn (by omega)]
  show (0 : Nat) < 18446744073709551616 /\ ((0 : Nat) = 2 \/ (0 : Nat) = 3 -> _)
  exact ⟨by omega, fun h => by omega⟩
theorem V5 {L : List Tk} {k en : Nat} (h : (hdT (za L k en)).text ≠ [] \/ (hdT (za L k en)).kind ≠ 0) : k < L.length /\ (za L k en).tail = za L (k + 1) en := by
 by_cases hk : k < L.length
 ·exact ⟨hk, (YD (yD hk)).2⟩
 ·rw [Zn (by omega)] at h
  simp [hdT] at h
theorem zbo (f : Nat) (hR : ∀ j, j < f -> RuW j) : PrW (f + 1) := by
 intro R B g L a c k en d bl w hd hok ho16 ho17 h hQ hB
 have hlt := hQ.lt
 have hlow := hQ.low
 have hL := jn (B := B) g L a c k en d bl hok
 have hOt := jJ (k := k) (en := en) hok
 rw [unF] at h
 have HL : Hid (∀ u, Below w.heap.size w u -> Calls Tryz.prog 132 #[.pointer (some ⟨g, 0, none⟩)] u fun r w' => r = .returned (.tuple #[.agg (zy (JU (zW (hdT (za L k en)))).1 (JU (zW (hdT (za L k en)))).2).toArray, .bool (zW (hdT (za L k en))).isSome]) /\ Qd B w' g L a c (if (zW (hdT (za L k en))).isSome = true then k + 1 else k) en 0 0 d bl /\ But g u w') := fun u hu => hL u (hQ.below hu) (zQ hB hu.size)
 clear hL
 cases hl : zW (hdT (za L k en)) with
 | some v =>
  have hop := zei hOt (by rw [hl]; rfl)
  have hne := Kq (t := hdT (za L k en)) (by rw [hl]; rfl)
  have htl := V5 hne
  have hle : ZN (za L k en) = .ok (.mk 1 v.1 v.2 [] []) (za L (k + 1) en) := by unfold ZN; rw [hl, htl.2]
  rw [zi hop, hle] at h
  obtain rfl := yZ h
  have hv := Jf hOt.1
  have hv2 : ZC (hdT (za L k en)) = v := by unfold ZC; rw [hl]; rfl
  rw [hv2] at hv
  rw [hl] at HL
  obtain ⟨vt, vb⟩ := v
  have HL : Hid (∀ u, Below w.heap.size w u -> Calls Tryz.prog 132 #[.pointer (some ⟨g, 0, none⟩)] u fun r w' => r = .returned (.tuple #[.agg (zy vt vb).toArray, .bool true]) /\ Qd B w' g L a c (k + 1) en 0 0 d bl /\ But g u w') := HL
  clear h hQ hop hne htl hle hv2 hl ho16 ho17 hOt hR
  go_enter Tryz.func168, Tryz.ntmps168
  go_wp2_with (first
   | (refine aL (o := { dst := some 2, .. }) rfl rfl z29 ?_; intro w1 hA1 hb1)
   | (go_at_call 132; refine (HL.out _ hb1).mono ?_; rintro r w2 ⟨rfl, hQ2, hb2⟩)
   | (refine aL (o := { dst := some 3, .. }) rfl rfl z32 ?_; intro w3 hA3 hb3)
   | (refine sL rfl rfl hA3 (zy vt vb) rfl rfl i32 rfl (yj _ _) ?_; intro w4 hA4 hb4; refine zb ?_))
  refine zd ?_
  have l1 := hA1.lt
  have l2 := hb2.size
  have l3 := hA3.lt
  have hA14 := hb4.at ((hb2.at hA1 (by omega)).below hb3) (by omega)
  have hQ4 := (hQ2.below hb3).but hb4 (by omega)
  have hB4 : But g w w4 := (((But.of_below hb1).trans hb2).trans (But.of_below hb3)).fresh hb4 (by omega)
  obtain ⟨c0, c1⟩ := yu hA4
  clear hA1 hA3 hb1 hb2 hb3 hb4 hQ2 HL
  go_wp2_with (first
   | (refine zF rfl rfl (ET.mk 1 vt vb ⟨#[]⟩ none 0 []).cells ?_)
   | (refine sL rfl rfl hA14 (ET.mk 1 vt vb ⟨#[]⟩ none 0 []).cells rfl rfl (i43 _) (yP _) (ET.one _) ?_; intro w9 hA9 hb9))
  refine zr (zh rfl _ _ w.heap.size 43 (ET.mk 1 vt vb ⟨#[]⟩ none 0 []).cells _ rfl hA9 zR rfl (i43 _)) rfl ?_
  exact ⟨_, k + 1, 0, 0, d, rfl, X9 _ _ _ _ _ _ (by decide) hv.1 hv.2, hB4.fresh hb9 (zj _), hQ4.but hb9 hB, ⟨rfl, rfl, rfl⟩, zj _, by omega, fun e l he => by cases he; exact ⟨rfl, rfl⟩⟩
 | none =>
  rw [hl] at HL
  have HL : Hid (∀ u, Below w.heap.size w u -> Calls Tryz.prog 132 #[.pointer (some ⟨g, 0, none⟩)] u fun r w' => r = .returned (.tuple #[.agg (zy 0 0).toArray, .bool false]) /\ Qd B w' g L a c k en 0 0 d bl /\ But g u w') := HL
  have HN : Hid (∀ u, Qd B u g L a c k en 0 0 d bl -> Calls Tryz.prog 41 #[.pointer (some ⟨g, 0, none⟩)] u fun r w' => r = .returned (.int .i64 ((hdT (za L k en)).place : Int)) /\ ∃ m, w' = u.drewN m) := fun u hu => ZU g L a c k en 0 0 d bl u hu
  have HI : Hid (∀ u, Qd B u g L a c k en 0 0 d bl -> Calls Tryz.prog 63 #[.pointer (some ⟨g, 0, none⟩), .string ⟨#[105, 110, 116]⟩] u fun r w' => r = .returned (.bool (decide ((hdT (za L k en)).text = [105, 110, 116]))) /\ ∃ m, w' = u.drewN m) := fun u hu => YT g L a c k en 0 0 d bl ⟨#[105, 110, 116]⟩ (by decide) u hu
  have HJ : Hid (∀ u, Qd B u g L a c k en 0 0 d bl -> Calls Tryz.prog 63 #[.pointer (some ⟨g, 0, none⟩), .string ⟨#[114, 101, 97, 108]⟩] u fun r w' => r = .returned (.bool (decide ((hdT (za L k en)).text = [114, 101, 97, 108]))) /\ ∃ m, w' = u.drewN m) := fun u hu => YT g L a c k en 0 0 d bl ⟨#[114, 101, 97, 108]⟩ (by decide) u hu
  have HT : Hid (∀ u, Qd B u g L a c k en 0 0 d bl -> Calls Tryz.prog 64 #[.pointer (some ⟨g, 0, none⟩), .string ⟨#[40]⟩] u fun r w' => r = .returned (.bool (decide ((hdT (za L k en)).text = [40]))) /\ Qd B w' g L a c (if decide ((hdT (za L k en)).text = [40]) = true then k + 1 else k) en 0 0 d bl /\ But g u w') := fun u hu => Zs g L a c k en 0 0 d bl ⟨#[40]⟩ (by decide) u hu
  have HM : Hid (∀ u, Qd B u g L a c k en 0 0 d bl -> B <= u.heap.size -> Calls Tryz.prog 66 #[.pointer (some ⟨g, 0, none⟩)] u fun r w' => r = .returned (.string ⟨(zhi (zM (za L k en))).toArray⟩) /\ KL B g L a c en d bl (zM (za L k en)) w' /\ But g u w') := fun u hu hs => Ya g L a c k en d bl u hu hs
  have hlf : ZN (za L k en) = (zM (za L k en)).andThen fun x l => .ok (.mk 2 0 0 x []) l := by
   unfold ZN zM
   rw [hl]
   dsimp only
   split <;> rfl
  have hat := @V5 L k en
  clear hl hOt
  generalize za L k en = l at *
  by_cases i1 : (hdT l).text = [105, 110, 116]
  ·have h0 : zL (hdT l).text = 18 := by rw [i1]; decide
   obtain ⟨hk, htl⟩ := hat (.inl (by rw [i1]; decide))
   rw [ze (by rw [h0]; simp), h0, ze (show ¬ ((18 : Nat) = 16 \/ (18 : Nat) = 17) by decide), ze (show ¬ (18 : Nat) = 0 by decide), htl] at h
   simp only [yy i1] at HI
   simp only [zN (show ¬ (hdT l).text = [114, 101, 97, 108] by rw [i1]; decide)] at HJ
   have hdl : d <= 1048576 := by omega
   generalize hp : (hdT l).place = p at *
   obtain ⟨j, Y, hRj, hY, rfl⟩ := jH hR h
   clear h h0 htl hat ho16 ho17 hR hlf HT HM hp
   go_enter Tryz.func168, Tryz.ntmps168
   go_wp2_with (first
    | (refine aL (o := { dst := some 2, .. }) rfl rfl z29 ?_; intro w1 hA1 hb1)
    | (go_at_call 132; refine (HL.out _ hb1).mono ?_; rintro r w2 ⟨rfl, hQ2, hb2⟩)
    | (refine aL (o := { dst := some 3, .. }) rfl rfl z32 ?_; intro w3 hA3 hb3)
    | (refine sL rfl rfl hA3 (zy 0 0) rfl rfl i32 rfl (yj _ _) ?_; intro w4 hA4 hb4; have hQ4 := (hQ2.below hb3).but hb4 (by have := hb1.size; have := hb2.size; omega))
    | (go_at_call 41; refine (HN.out _ hQ4).mono ?_; rintro r w5 ⟨rfl, m, hw⟩; have hb5 : Below w4.heap.size w4 w5 := (by rw [hw]; exact below_drewN _ _); clear hw m)
    | (go_at_call_of 63 (Value.string ⟨#[105, 110, 116]⟩); refine (HI.out _ (hQ4.below hb5)).mono ?_; rintro r w6 ⟨rfl, m, hw⟩; have hb6 : Below w5.heap.size w5 w6 := (by rw [hw]; exact below_drewN _ _); clear hw m)
    | (go_at_call_of 63 (Value.string ⟨#[114, 101, 97, 108]⟩); refine (HJ.out _ ((hQ4.below hb5).below hb6)).mono ?_; rintro r w7 ⟨rfl, m, hw⟩; have hb7 : Below w6.heap.size w6 w7 := (by rw [hw]; exact below_drewN _ _); clear hw m; refine zb ?_))
   refine zd ?_
   have l1 := hA1.lt
   have l2 := hb2.size
   have l3 := hA3.lt
   have l4 := hb4.size
   have l5 := hb5.size
   have l6 := hb6.size
   have l7 := hb7.size
   have hA17 := (((hb4.at ((hb2.at hA1 (by omega)).below hb3) (by omega)).below hb5).below hb6).below hb7
   have hQ7 := ((hQ4.below hb5).below hb6).below hb7
   have hB7 : But g w w7 := (((((((But.of_below hb1).trans hb2).trans (But.of_below hb3)).fresh hb4 (by omega)).trans (But.of_below hb5)).trans (But.of_below hb6)).trans (But.of_below hb7))
   clear hA1 hA3 hA4 hb1 hb2 hb3 hb4 hb5 hb6 hb7 hQ2 hQ4 HL HN HI HJ
   obtain ⟨q0, q1, q2, q3, q4, q5, q6⟩ := zv hQ7.cell
   have hlen := hQ7.len
   go_wp2_with (first
    | (refine zz rfl rfl hQ7.cell 1 (.int .i64 ((k : Int) + 1)) rfl rfl i3 ?_; intro w8 hA8 hb8; refine zb ?_))
   refine zd ?_
   have hQ8 : Qd B w8 g L a c (k + 1) en 0 0 d bl := hQ7.set hA8 hb8 hk
   have hA18 := hb8.at hA17 (by omega)
   have hB8 := hB7.trans hb8
   have l8 := hb8.size
   clear q0 q1 q2 q3 q4 q5 q6 hA8 hb8 hQ7 hA17 hB7 hlen
   go_wp2_with (first
    | (go_at_call 169; refine (Vv g L a c (k + 1) en d bl p hdl _ hQ8).mono ?_; rintro r w9 ⟨rfl, k9, er9, pl9, hQ9, hS9, hb9⟩)
    | (go_at_call_of 67 (Value.string ⟨#[40]⟩); refine (Yb g L a c k9 en er9 pl9 (d + 1) bl _ hS9 ⟨#[40]⟩ (by decide) _ hQ9).mono ?_; rintro r w10 ⟨rfl, k10, er10, pl10, hQ10, hS10, hb10⟩)
    | (go_at_call 72; refine (XM j hRj _ Y B g L a c k10 en er10 pl10 (d + 1) bl _ (by omega) (fun l2 q => by have := (hY l2 q).1; omega) hok hS10 (fun l2 q => (hY l2 q).2) hQ10 (by have := hb9.size; have := hb10.size; omega)).mono ?_; rintro _ w11 ⟨y, k11, er11, pl11, ne11, rfl, hT11, hb11, hQ11, hS11, hn1, hn2, hy⟩)
    | (refine aL (o := { dst := some 7, .. }) rfl rfl z29 ?_; intro w12 hA12 hb12)
    | (refine sL rfl rfl hA12 y.cells rfl rfl (i43 _) (yP _) (ET.one _) ?_; intro w13 hA13 hb13; refine zb ?_))
   refine zd ?_
   have l9 := hb9.size
   have l10 := hb10.size
   have l11 := hb11.size
   have l12 := hA12.lt
   have l13 := hb13.size
   have hA113 := hb13.at ((hb11.at (hb10.at (hb9.at hA18 (by omega)) (by omega)) (by omega)).below hb12) (by omega)
   have hT13 := hT11.but ((But.of_below (g := g) hb12).fresh hb13 (zj _)) (.inl (by omega))
   have hQ13 := (hQ11.below hb12).but hb13 (by omega)
   have hB13 : But g w w13 := ((((hB8.trans hb9).trans hb10).trans hb11).trans (But.of_below hb12)).fresh hb13 (by omega)
   clear hQ8 hA18 hB8 hb9 hb10 hb11 hb12 hb13 hQ9 hQ10 hQ11 hA12 hT11
   go_wp2_with (first
    | (go_at_call_of 67 (Value.string ⟨#[41]⟩); refine (Yb g L a c k11 en er11 pl11 ne11 bl _ hS11.unit ⟨#[41]⟩ (by decide) _ hQ13).mono ?_; rintro r w14 ⟨rfl, k14, er14, pl14, hQ14, hS14, hb14⟩; obtain ⟨q0, q1, q2, q3, q4, q5, q6⟩ := zv hQ14.cell)
    | (refine zz rfl rfl hQ14.cell 5 (.int .i64 ((ne11 : Int) - 1)) rfl rfl i3 ?_; intro w15 hA15 hb15; refine zb ?_))
   refine zd ?_
   have hsub : (ne11 : Int) - 1 = ((ne11 - 1 : Nat) : Int) := by omega
   rw [hsub] at hA15
   have hQ15 : Qd B w15 g L a c k14 en er14 pl14 (ne11 - 1) bl := hQ14.set hA15 hb15 hQ14.le
   have l14 := hb14.size
   have l15 := hb15.size
   have hA1315 := hb15.at (hb14.at hA13 (by omega)) (by omega)
   have hA115 := hb15.at (hb14.at hA113 (by omega)) (by omega)
   have hT15 := (hT13.but hb14 (.inl (by omega))).but hb15 (.inl (by omega))
   have hB15 := (hB13.trans hb14).trans hb15
   clear q0 q1 q2 q3 q4 q5 q6 hsub hA15 hb14 hb15 hQ13 hQ14 hA13 hA113 hT13 hB13
   go_wp2_with (first
    | (refine lL rfl rfl hA1315 rfl zR rfl (i43 _) ?_)
    | (refine YZ rfl (.tmp 50) rfl y rfl ?_; intro w16 hA16 hb16 hs16; clear hs16; refine zb ?_))
   refine zd ?_
   have l16 := hb16.size
   have hN := Y3 (op := 18) hA16 (hT15.below hb16) (by decide) (by omega)
   obtain ⟨N, hNd⟩ : ∃ N : ET, N = ET.mk 18 0 0 ⟨#[]⟩ (some ⟨w15.heap.size, 0, none⟩) 1 [y] := ⟨_, rfl⟩
   have hNc : N.cells = [.int .u8 18, .int .u8 0, .int .u64 0, .string ⟨#[]⟩, .slice (some ⟨w15.heap.size, 0, none⟩) 1 1] := by rw [hNd]; rfl
   have hNx : N.ex = .mk 18 0 0 [] [y.ex] := by rw [hNd]; rfl
   rw [<- hNd] at hN
   have hM := XQ (B := B) g L a c k14 en er14 pl14 (ne11 - 1) bl _ hS14 N p w16 (hQ15.below hb16) (by omega) hN (by omega) (fun l2 q => by rw [hNx]; exact zcm hY hy q)
   have hA116 := hA115.below hb16
   have hB16 : But g w w16 := hB15.trans (But.of_below hb16)
   rw [hNc] at hM
   clear hNd hA16 hb16 hQ15 hT15 hB15 hA115 hA1315
   go_wp2_with (first
    | (refine zF rfl rfl [.int .u8 18, .int .u8 0, .int .u64 0, .string ⟨#[]⟩, .slice (some ⟨w15.heap.size, 0, none⟩) 1 1] ?_)
    | (go_at_call 145; refine hM.mono ?_; rintro r w17 ⟨rfl, hT17, k17, er17, pl17, hQ17, hS17, hb17⟩; have hA117 := hb17.at hA116 (by omega))
    | (refine sL rfl rfl hA117 [.int .u8 18, .int .u8 0, .int .u64 0, .string ⟨#[]⟩, .slice (some ⟨w15.heap.size, 0, none⟩) 1 1] rfl rfl i29 rfl (by rw [<- hNc]; exact ET.one N) ?_; intro wz hAz hbz))
   rw [<- hNc] at hAz
   refine zr (zh rfl _ _ w.heap.size 43 N.cells _ rfl hAz zR rfl (i43 _)) rfl ?_
   refine ⟨N, k17, er17, pl17, ne11 - 1, rfl, (hT17.but hbz (.inl (by omega))).low (by omega), (hB16.trans hb17).fresh hbz (zj _), hQ17.but hbz hB, ?_, by omega, by omega, ?_⟩
   ·exact zaW hS17 hNx hy
   ·exact fun e l2 he => zaV he hNx hy
  ·by_cases i2 : (hdT l).text = [114, 101, 97, 108]
   ·have h0 : zL (hdT l).text = 19 := by rw [i2]; decide
    obtain ⟨hk, htl⟩ := hat (.inl (by rw [i2]; decide))
    rw [ze (by rw [h0]; simp), h0, ze (show ¬ ((19 : Nat) = 16 \/ (19 : Nat) = 17) by decide), ze (show ¬ (19 : Nat) = 0 by decide), htl] at h
    simp only [zN i1] at HI
    simp only [yy i2] at HJ
    have hdl : d <= 1048576 := by omega
    generalize hp : (hdT l).place = p at *
    obtain ⟨j, Y, hRj, hY, rfl⟩ := jH hR h
    clear h h0 htl hat ho16 ho17 hR hlf HT HM hp
    go_enter Tryz.func168, Tryz.ntmps168
    go_wp2_with (first
     | (refine aL (o := { dst := some 2, .. }) rfl rfl z29 ?_; intro w1 hA1 hb1)
     | (go_at_call 132; refine (HL.out _ hb1).mono ?_; rintro r w2 ⟨rfl, hQ2, hb2⟩)
     | (refine aL (o := { dst := some 3, .. }) rfl rfl z32 ?_; intro w3 hA3 hb3)
     | (refine sL rfl rfl hA3 (zy 0 0) rfl rfl i32 rfl (yj _ _) ?_; intro w4 hA4 hb4; have hQ4 := (hQ2.below hb3).but hb4 (by have := hb1.size; have := hb2.size; omega))
     | (go_at_call 41; refine (HN.out _ hQ4).mono ?_; rintro r w5 ⟨rfl, m, hw⟩; have hb5 : Below w4.heap.size w4 w5 := (by rw [hw]; exact below_drewN _ _); clear hw m)
     | (go_at_call_of 63 (Value.string ⟨#[105, 110, 116]⟩); refine (HI.out _ (hQ4.below hb5)).mono ?_; rintro r w6 ⟨rfl, m, hw⟩; have hb6 : Below w5.heap.size w5 w6 := (by rw [hw]; exact below_drewN _ _); clear hw m)
     | (go_at_call_of 63 (Value.string ⟨#[114, 101, 97, 108]⟩); refine (HJ.out _ ((hQ4.below hb5).below hb6)).mono ?_; rintro r w7 ⟨rfl, m, hw⟩; have hb7 : Below w6.heap.size w6 w7 := (by rw [hw]; exact below_drewN _ _); clear hw m; refine zb ?_))
    refine zd ?_
    have l1 := hA1.lt
    have l2 := hb2.size
    have l3 := hA3.lt
    have l4 := hb4.size
    have l5 := hb5.size
    have l6 := hb6.size
    have l7 := hb7.size
    have hA17 := (((hb4.at ((hb2.at hA1 (by omega)).below hb3) (by omega)).below hb5).below hb6).below hb7
    have hQ7 := ((hQ4.below hb5).below hb6).below hb7
    have hB7 : But g w w7 := (((((((But.of_below hb1).trans hb2).trans (But.of_below hb3)).fresh hb4 (by omega)).trans (But.of_below hb5)).trans (But.of_below hb6)).trans (But.of_below hb7))
    clear hA1 hA3 hA4 hb1 hb2 hb3 hb4 hb5 hb6 hb7 hQ2 hQ4 HL HN HI HJ
    obtain ⟨q0, q1, q2, q3, q4, q5, q6⟩ := zv hQ7.cell
    have hlen := hQ7.len
    go_wp2_with (first
     | (refine zz rfl rfl hQ7.cell 1 (.int .i64 ((k : Int) + 1)) rfl rfl i3 ?_; intro w8 hA8 hb8; refine zb ?_))
    refine zd ?_
    have hQ8 : Qd B w8 g L a c (k + 1) en 0 0 d bl := hQ7.set hA8 hb8 hk
    have hA18 := hb8.at hA17 (by omega)
    have hB8 := hB7.trans hb8
    have l8 := hb8.size
    clear q0 q1 q2 q3 q4 q5 q6 hA8 hb8 hQ7 hA17 hB7 hlen
    go_wp2_with (first
     | (go_at_call 169; refine (Vv g L a c (k + 1) en d bl p hdl _ hQ8).mono ?_; rintro r w9 ⟨rfl, k9, er9, pl9, hQ9, hS9, hb9⟩)
     | (go_at_call_of 67 (Value.string ⟨#[40]⟩); refine (Yb g L a c k9 en er9 pl9 (d + 1) bl _ hS9 ⟨#[40]⟩ (by decide) _ hQ9).mono ?_; rintro r w10 ⟨rfl, k10, er10, pl10, hQ10, hS10, hb10⟩)
     | (go_at_call 72; refine (XM j hRj _ Y B g L a c k10 en er10 pl10 (d + 1) bl _ (by omega) (fun l2 q => by have := (hY l2 q).1; omega) hok hS10 (fun l2 q => (hY l2 q).2) hQ10 (by have := hb9.size; have := hb10.size; omega)).mono ?_; rintro _ w11 ⟨y, k11, er11, pl11, ne11, rfl, hT11, hb11, hQ11, hS11, hn1, hn2, hy⟩)
     | (refine aL (o := { dst := some 7, .. }) rfl rfl z29 ?_; intro w12 hA12 hb12)
     | (refine sL rfl rfl hA12 y.cells rfl rfl (i43 _) (yP _) (ET.one _) ?_; intro w13 hA13 hb13; refine zb ?_))
    refine zd ?_
    have l9 := hb9.size
    have l10 := hb10.size
    have l11 := hb11.size
    have l12 := hA12.lt
    have l13 := hb13.size
    have hA113 := hb13.at ((hb11.at (hb10.at (hb9.at hA18 (by omega)) (by omega)) (by omega)).below hb12) (by omega)
    have hT13 := hT11.but ((But.of_below (g := g) hb12).fresh hb13 (zj _)) (.inl (by omega))
    have hQ13 := (hQ11.below hb12).but hb13 (by omega)
    have hB13 : But g w w13 := ((((hB8.trans hb9).trans hb10).trans hb11).trans (But.of_below hb12)).fresh hb13 (by omega)
    clear hQ8 hA18 hB8 hb9 hb10 hb11 hb12 hb13 hQ9 hQ10 hQ11 hA12 hT11
    go_wp2_with (first
     | (go_at_call_of 67 (Value.string ⟨#[41]⟩); refine (Yb g L a c k11 en er11 pl11 ne11 bl _ hS11.unit ⟨#[41]⟩ (by decide) _ hQ13).mono ?_; rintro r w14 ⟨rfl, k14, er14, pl14, hQ14, hS14, hb14⟩; obtain ⟨q0, q1, q2, q3, q4, q5, q6⟩ := zv hQ14.cell)
     | (refine zz rfl rfl hQ14.cell 5 (.int .i64 ((ne11 : Int) - 1)) rfl rfl i3 ?_; intro w15 hA15 hb15; refine zb ?_))
    refine zd ?_
    have hsub : (ne11 : Int) - 1 = ((ne11 - 1 : Nat) : Int) := by omega
    rw [hsub] at hA15
    have hQ15 : Qd B w15 g L a c k14 en er14 pl14 (ne11 - 1) bl := hQ14.set hA15 hb15 hQ14.le
    have l14 := hb14.size
    have l15 := hb15.size
    have hA1315 := hb15.at (hb14.at hA13 (by omega)) (by omega)
    have hA115 := hb15.at (hb14.at hA113 (by omega)) (by omega)
    have hT15 := (hT13.but hb14 (.inl (by omega))).but hb15 (.inl (by omega))
    have hB15 := (hB13.trans hb14).trans hb15
    clear q0 q1 q2 q3 q4 q5 q6 hsub hA15 hb14 hb15 hQ13 hQ14 hA13 hA113 hT13 hB13
    go_wp2_with (first
     | (refine lL rfl rfl hA1315 rfl zR rfl (i43 _) ?_)
     | (refine YZ rfl (.tmp 50) rfl y rfl ?_; intro w16 hA16 hb16 hs16; clear hs16; refine zb ?_))
    refine zd ?_
    have l16 := hb16.size
    have hN := Y3 (op := 19) hA16 (hT15.below hb16) (by decide) (by omega)
    obtain ⟨N, hNd⟩ : ∃ N : ET, N = ET.mk 19 0 0 ⟨#[]⟩ (some ⟨w15.heap.size, 0, none⟩) 1 [y] := ⟨_, rfl⟩
    have hNc : N.cells = [.int .u8 19, .int .u8 0, .int .u64 0, .string ⟨#[]⟩, .slice (some ⟨w15.heap.size, 0, none⟩) 1 1] := by rw [hNd]; rfl
    have hNx : N.ex = .mk 19 0 0 [] [y.ex] := by rw [hNd]; rfl
    rw [<- hNd] at hN
    have hM := XQ (B := B) g L a c k14 en er14 pl14 (ne11 - 1) bl _ hS14 N p w16 (hQ15.below hb16) (by omega) hN (by omega) (fun l2 q => by rw [hNx]; exact zcm hY hy q)
    have hA116 := hA115.below hb16
    have hB16 : But g w w16 := hB15.trans (But.of_below hb16)
    rw [hNc] at hM
    clear hNd hA16 hb16 hQ15 hT15 hB15 hA115 hA1315
    go_wp2_with (first
     | (refine zF rfl rfl [.int .u8 19, .int .u8 0, .int .u64 0, .string ⟨#[]⟩, .slice (some ⟨w15.heap.size, 0, none⟩) 1 1] ?_)
     | (go_at_call 145; refine hM.mono ?_; rintro r w17 ⟨rfl, hT17, k17, er17, pl17, hQ17, hS17, hb17⟩; have hA117 := hb17.at hA116 (by omega))
     | (refine sL rfl rfl hA117 [.int .u8 19, .int .u8 0, .int .u64 0, .string ⟨#[]⟩, .slice (some ⟨w15.heap.size, 0, none⟩) 1 1] rfl rfl i29 rfl (by rw [<- hNc]; exact ET.one N) ?_; intro wz hAz hbz))
    rw [<- hNc] at hAz
    refine zr (zh rfl _ _ w.heap.size 43 N.cells _ rfl hAz zR rfl (i43 _)) rfl ?_
    refine ⟨N, k17, er17, pl17, ne11 - 1, rfl, (hT17.but hbz (.inl (by omega))).low (by omega), (hB16.trans hb17).fresh hbz (zj _), hQ17.but hbz hB, ?_, by omega, by omega, ?_⟩
    ·exact zaW hS17 hNx hy
    ·exact fun e l2 he => zaV he hNx hy
   ·by_cases i3 : (hdT l).text = [40]
    focus
     have h0 : zL (hdT l).text = 0 := by rw [i3]; decide
     obtain ⟨hk, htl⟩ := hat (.inl (by rw [i3]; decide))
     rw [ze (fun q => q.2 i3), h0, ze (show ¬ ((0 : Nat) = 16 \/ (0 : Nat) = 17) by decide), zi rfl] at h
     simp only [zN i1] at HI
     simp only [zN i2] at HJ
     simp only [yy i3, if_true] at HT
     have hdl : d <= 1048576 := by omega
     generalize hp : (hdT l).place = p at *
     obtain ⟨j, Y, hRj, hY, rfl⟩ := zeR hR i3 h
     rw [htl] at hY ⊢
     clear h h0 htl hat ho16 ho17 hR hlf HM hp i1 i2 i3
    rotate_left
    focus
     have h0 : zL (hdT l).text = 0 := by
      unfold zL at ho16 ho17 ⊢
      split at ho16
      ·exact absurd rfl ho16
      ·next e1 =>
       rw [ze e1] at ho17
       split at ho17
       ·exact absurd rfl ho17
       ·next e2 => rw [ze e1, ze e2, ze i1, ze i2]
     rw [zi ⟨h0, i3⟩, hlf] at h
     obtain rfl := yZ h
     rw [zN i1] at HI
     rw [zN i2] at HJ
     simp only [zN i3, ZV, if_false] at HT
     clear h hlf hat h0 i1 i2 i3 ho16 ho17 hR
     generalize (hdT l).place = p at *
    rotate_left
    all_goals
     go_enter Tryz.func168, Tryz.ntmps168
     go_wp2_with (first
      | (refine aL (o := { dst := some 2, .. }) rfl rfl z29 ?_; intro w1 hA1 hb1)
      | (go_at_call 132; refine (HL.out _ hb1).mono ?_; rintro r w2 ⟨rfl, hQ2, hb2⟩)
      | (refine aL (o := { dst := some 3, .. }) rfl rfl z32 ?_; intro w3 hA3 hb3)
      | (refine sL rfl rfl hA3 (zy 0 0) rfl rfl i32 rfl (yj _ _) ?_; intro w4 hA4 hb4; have hQ4 := (hQ2.below hb3).but hb4 (by have := hb1.size; have := hb2.size; omega))
      | (go_at_call 41; refine (HN.out _ hQ4).mono ?_; rintro r w5 ⟨rfl, m, hw⟩; have hb5 : Below w4.heap.size w4 w5 := (by rw [hw]; exact below_drewN _ _); clear hw m)
      | (go_at_call_of 63 (Value.string ⟨#[105, 110, 116]⟩); refine (HI.out _ (hQ4.below hb5)).mono ?_; rintro r w6 ⟨rfl, m, hw⟩; have hb6 : Below w5.heap.size w5 w6 := (by rw [hw]; exact below_drewN _ _); clear hw m)
      | (go_at_call_of 63 (Value.string ⟨#[114, 101, 97, 108]⟩); refine (HJ.out _ ((hQ4.below hb5).below hb6)).mono ?_; rintro r w7 ⟨rfl, m, hw⟩; have hb7 : Below w6.heap.size w6 w7 := (by rw [hw]; exact below_drewN _ _); clear hw m; refine zb ?_))
     refine zd ?_
     have l1 := hA1.lt
     have l2 := hb2.size
     have l3 := hA3.lt
     have l4 := hb4.size
     have l5 := hb5.size
     have l6 := hb6.size
     have l7 := hb7.size
     have hA17 := (((hb4.at ((hb2.at hA1 (by omega)).below hb3) (by omega)).below hb5).below hb6).below hb7
     have hQ7 := ((hQ4.below hb5).below hb6).below hb7
     have hB7 : But g w w7 := (((((((But.of_below hb1).trans hb2).trans (But.of_below hb3)).fresh hb4 (by omega)).trans (But.of_below hb5)).trans (But.of_below hb6)).trans (But.of_below hb7))
     clear hA1 hA3 hA4 hb1 hb2 hb3 hb4 hb5 hb6 hb7 hQ2 hQ4 HL HN HI HJ
    ·go_wp2_with (first
      | (go_at_call 64; refine (HT.out _ hQ7).mono ?_; rintro r w8 ⟨rfl, hQ8, hb8⟩)
      | (go_at_call 169; refine (Vv g L a c (k + 1) en d bl p hdl _ hQ8).mono ?_; rintro r w9 ⟨rfl, k9, er9, pl9, hQ9, hS9, hb9⟩)
      | (go_at_call 72; refine (XM j hRj (brS d p (za L (k + 1) en)) Y B g L a c k9 en er9 pl9 (d + 1) bl _ (by omega) (fun l2 q => by have := (hY l2 q).1; omega) hok hS9 (fun l2 q => (hY l2 q).2) hQ9 (by have := hb8.size; have := hb9.size; omega)).mono ?_; rintro _ w11 ⟨y, k11, er11, pl11, ne11, rfl, hT11, hb11, hQ11, hS11, hn1, hn2, hy⟩)
      | (refine aL (o := { dst := some 8, .. }) rfl rfl z29 ?_; intro w12 hA12 hb12)
      | (refine sL rfl rfl hA12 y.cells rfl rfl (i43 _) (yP _) (ET.one _) ?_; intro w13 hA13 hb13; refine zb ?_))
     refine zd ?_
     have l8 := hb8.size
     have l9 := hb9.size
     have l11 := hb11.size
     have l12 := hA12.lt
     have l13 := hb13.size
     have hA113 := hb13.at ((hb11.at (hb9.at (hb8.at hA17 (by omega)) (by omega)) (by omega)).below hb12) (by omega)
     have hT13 := hT11.but ((But.of_below (g := g) hb12).fresh hb13 (zj _)) (.inl (by omega))
     have hQ13 := (hQ11.below hb12).but hb13 (by omega)
     have hB13 : But g w w13 := ((((hB7.trans hb8).trans hb9).trans hb11).trans (But.of_below hb12)).fresh hb13 (by omega)
     clear hQ7 hQ8 hA17 hB7 hb8 hb9 hb11 hb12 hb13 hQ9 hQ11 hA12 hT11 HT
     go_wp2_with (first
      | (go_at_call_of 67 (Value.string ⟨#[41]⟩); refine (Yb g L a c k11 en er11 pl11 ne11 bl _ hS11.unit ⟨#[41]⟩ (by decide) _ hQ13).mono ?_; rintro r w14 ⟨rfl, k14, er14, pl14, hQ14, hS14, hb14⟩; obtain ⟨q0, q1, q2, q3, q4, q5, q6⟩ := zv hQ14.cell)
      | (refine zz rfl rfl hQ14.cell 5 (.int .i64 ((ne11 : Int) - 1)) rfl rfl i3 ?_; intro w15 hA15 hb15; refine zb ?_))
     refine zd ?_
     have hsub : (ne11 : Int) - 1 = ((ne11 - 1 : Nat) : Int) := by omega
     rw [hsub] at hA15
     have hQ15 : Qd B w15 g L a c k14 en er14 pl14 (ne11 - 1) bl := hQ14.set hA15 hb15 hQ14.le
     have l14 := hb14.size
     have l15 := hb15.size
     have hA1315 := hb15.at (hb14.at hA13 (by omega)) (by omega)
     have hA115 := hb15.at (hb14.at hA113 (by omega)) (by omega)
     have hT15 := (hT13.but hb14 (.inl (by omega))).but hb15 (.inl (by omega))
     have hB15 := (hB13.trans hb14).trans hb15
     clear q0 q1 q2 q3 q4 q5 q6 hsub hA15 hb14 hb15 hQ13 hQ14 hA13 hA113 hT13 hB13
     go_wp2_with (first
      | (refine lL rfl rfl hA1315 rfl zR rfl (i43 _) ?_)
      | (refine sL rfl rfl hA115 y.cells rfl rfl (i43 _) (yP _) (ET.one _) ?_; intro wz hAz hbz))
     refine zr (zh rfl _ _ w.heap.size 43 y.cells _ rfl hAz zR rfl (i43 _)) rfl ?_
     refine ⟨y, k14, er14, pl14, ne11 - 1, rfl, (hT15.but hbz (.inl (by omega))).low (by omega), hB15.fresh hbz (zj _), hQ15.but hbz hB, ?_, by omega, by omega, ?_⟩
     ·exact zfT hS14
     ·exact fun e l2 he => zfS he hy
    ·cases hn : zM l with
     | ok x l2 =>
      rw [hn] at HM
      go_wp2_with (first
       | (go_at_call 64; refine (HT.out _ hQ7).mono ?_; rintro r w8 ⟨rfl, hQ8, hb8⟩; have hA18 := hb8.at hA17 (by omega))
       | (go_at_call 66; refine (HM.out _ hQ8 (by have := hb8.size; omega)).mono ?_; rintro r w9 ⟨rfl, ⟨k9, hl9, hQ9⟩, hb9⟩; have hA19 := hb9.at hA18 (by omega))
       | (refine zF rfl rfl (ET.mk 2 0 0 ⟨x.toArray⟩ none 0 []).cells ?_)
       | (refine sL rfl rfl hA19 (ET.mk 2 0 0 ⟨x.toArray⟩ none 0 []).cells rfl rfl (i43 _) (yP _) (ET.one _) ?_; intro wz hAz hbz))
      refine zr (zh rfl _ _ w.heap.size 43 (ET.mk 2 0 0 ⟨x.toArray⟩ none 0 []).cells _ rfl hAz zR rfl (i43 _)) rfl ?_
      show Y5 B g L a c en d bl w ((zM l).andThen fun x l => .ok (.mk 2 0 0 x []) l) _ _
      rw [hn]
      exact ⟨_, k9, 0, 0, d, rfl, X9 _ _ _ _ _ _ (by decide) (by decide) (by decide), ((hB7.trans hb8).trans hb9).fresh hbz (zj _), hQ9.but hbz hB, ⟨rfl, rfl, hl9.symm⟩, zj _, by omega, fun e l he => by cases he; exact ⟨rfl, rfl⟩⟩
     | bad e q =>
      rw [hn] at HM
      have he : e ≠ 0 := by
       unfold zM at hn
       split at hn
       ·cases hn
       ·cases hn; decide
      go_wp2_with (first
       | (go_at_call 64; refine (HT.out _ hQ7).mono ?_; rintro r w8 ⟨rfl, hQ8, hb8⟩; have hA18 := hb8.at hA17 (by omega))
       | (go_at_call 66; refine (HM.out _ hQ8 (by have := hb8.size; omega)).mono ?_; rintro r w9 ⟨rfl, hQ9, hb9⟩; have hA19 := hb9.at hA18 (by omega))
       | (refine zF rfl rfl (ET.mk 2 0 0 ⟨#[]⟩ none 0 []).cells ?_)
       | (refine sL rfl rfl hA19 (ET.mk 2 0 0 ⟨#[]⟩ none 0 []).cells rfl rfl (i43 _) (yP _) (ET.one _) ?_; intro wz hAz hbz))
      refine zr (zh rfl _ _ w.heap.size 43 (ET.mk 2 0 0 ⟨#[]⟩ none 0 []).cells _ rfl hAz zR rfl (i43 _)) rfl ?_
      show Y5 B g L a c en d bl w ((zM l).andThen fun x l => .ok (.mk 2 0 0 x []) l) _ _
      rw [hn]
      exact ⟨_, _, _, _, d, rfl, X9 _ _ _ _ _ _ (by decide) (by decide) (by decide), ((hB7.trans hb8).trans hb9).fresh hbz (zj _), hQ9.but hbz hB, ⟨rfl, rfl, rfl, he⟩, zj _, by omega, fun e l he => by cases he⟩
