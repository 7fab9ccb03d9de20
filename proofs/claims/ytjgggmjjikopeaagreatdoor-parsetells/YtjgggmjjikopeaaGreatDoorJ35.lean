/- J -/
import Derived.Test.YtjgggmjjikopeaaGreatDoorJ33
set_option linter.unusedVariables false
set_option maxRecDepth 100000
set_option maxHeartbeats 6400000
open Go.RowKit
namespace Go.Proofs.YtjgggmjjikopeaaGreatDoor
def Xy (B g : Nat) (L : List Tk) (a : Option Addr) (c en ne bl : Nat) (w : World) (R : Rs (Nat × Nat)) (r : Ending) (w' : World) : Prop :=
 ∃ (v b k er pl : Nat), r = .returned (.agg (zy v b).toArray) /\ Qd B w' g L a c k en er pl ne bl /\ StOf L en k er pl R /\ But g w w' /\ (v < 256 /\ b < 18446744073709551616) /\ ∀ x l, R = .ok x l -> x = (v, b)
theorem zfG : (Tryz.prog.info? 38).map (·.size) = some 1 := by kernel_rfl
theorem j4 {B : Nat} (g t : Nat) (L : List Tk) (a : Option Addr) (c k en ne bl : Nat) (hok : ∀ t ∈ L, Zd t) (hlit : ∀ t ∈ L, Yk t) (w : World) (h : Qd B w g L a c k en 0 0 ne bl) (hBw : B <= w.heap.size) :
  Calls Tryz.prog 102 #[.pointer (some ⟨g, 0, none⟩), .int .u8 (t : Int)] w (Xy B g L a c en ne bl w (Zh t (za L k en))) := by
 have HOK : Hid (∀ t ∈ L, Zd t) := hok
 have HLI : Hid (∀ t ∈ L, Yk t) := hlit
 have HBw : Hid (B <= w.heap.size) := hBw
 have HQ : Hid (Qd B w g L a c k en 0 0 ne bl) := h
 clear hok hlit hBw h
 obtain ⟨R, hR⟩ : ∃ R, Hid (R = Zh t (za L k en)) := ⟨_, (rfl : Zh t (za L k en) = _)⟩
 rw [<- hR.out]
 go_enter Tryz.func102, Tryz.ntmps102
 go_wp2_with (refine aL (o := { dst := some 4, .. }) rfl rfl z32 ?_; intro u1 hA1 hb1; refine zb ?_)
 refine zd ?_
 have hV : Vs B w 40 (zy 0 0) g L a c k en 0 0 ne bl u1 := ⟨HQ.out.below hb1, But.of_below hb1, hA1, HQ.out.lt⟩
 clear hA1 hb1 HQ
 go_wp2_with (go_at_call 41; refine (hV.c41).mono ?_; rintro _ u2 ⟨rfl, hV2, hV2b⟩; refine zb ?_)
 refine zd ?_
 clear hV hV2b
 generalize hpa : (hdT (za L k en)).place = pa
 have C64 := hV2.c64 ⟨#[45]⟩ (by decide)
 rw [Xb] at C64
 by_cases hm : (hdT (za L k en)).text = [45]
 ·have hm' : decide ((hdT (za L k en)).text = bytes ⟨#[45]⟩) = true := yy hm
  rw [hm', zi rfl] at C64
  have hR' : R = yI true t pa (za L (k + 1) en) := by rw [hR.out]; unfold Zh; rw [zi hm, zP (by decide) hm, hpa]
  clear hR
  go_wp2_with (go_at_call 64; refine C64.mono ?_; rintro _ u3 ⟨rfl, hV, hVb⟩; refine zb ?_)
  refine zd ?_
  clear C64 hVb hV2 hm' hm
  have HR : Hid (R = yI true t pa (za L (k + 1) en)) := hR'
  clear hR' hpa
  generalize k + 1 = k at *
  have hTL := zej HLI.out k en
  have hTO := zb8 HOK.out k en
  have C1 := fun (u : World) (h : Vs B w 40 (zy 0 0) g L a c k en 0 0 ne bl u) => h.c63 ⟨#[110, 97, 110]⟩ (by decide)
  have C2 := fun (u : World) (h : Vs B w 40 (zy 0 0) g L a c k en 0 0 ne bl u) => h.c63 ⟨#[116, 114, 117, 101]⟩ (by decide)
  have C3 := fun (u : World) (h : Vs B w 40 (zy 0 0) g L a c k en 0 0 ne bl u) => h.c63 ⟨#[102, 97, 108, 115, 101]⟩ (by decide)
  simp only [Xb] at C1 C2 C3
  obtain ⟨b1, hB1⟩ : ∃ b, decide ((hdT (za L k en)).text = bytes ⟨#[110, 97, 110]⟩) = b := ⟨_, rfl⟩
  obtain ⟨b2, hB2⟩ : ∃ b, decide ((hdT (za L k en)).text = bytes ⟨#[116, 114, 117, 101]⟩) = b := ⟨_, rfl⟩
  obtain ⟨b3, hB3⟩ : ∃ b, decide ((hdT (za L k en)).text = bytes ⟨#[102, 97, 108, 115, 101]⟩) = b := ⟨_, rfl⟩
  have hbare : X2 (hdT (za L k en)).text = (b1 || (b2 || b3)) := by rw [<- hB1, <- hB2, <- hB3]; rfl
  rw [hB1] at C1
  rw [hB2] at C2
  rw [hB3] at C3
  clear hB1 hB2 hB3
  have HC1 : Hid _ := C1
  have HC2 : Hid _ := C2
  have HC3 : Hid _ := C3
  clear C1 C2 C3
  cases b1 with
  | true =>
   have hR : R = .bad 4 (hdT (za L k en)).place := by
    rw [HR.out]
    obtain ⟨v, hv⟩ := Jl (t := hdT (za L k en)) (by rw [hbare]; rfl)
    unfold yI
    rw [hv]
    dsimp only
    rw [V4 hTL v hv, hbare]
    rfl
   have HR2 : Hid _ := hR
   clear HR hR hbare hTL hTO
   go_wp2_with (go_at_call 63; refine (HC1.out _ hV).mono ?_; rintro _ v1 ⟨rfl, hW1, hW1b⟩; refine zb ?_)
   refine zd ?_
   clear hV hW1b
   clear HC1 HC2 HC3
   go_wp2_with (go_at_call 41; refine (hW1.c41).mono ?_; rintro _ x1 ⟨rfl, hX1, hX1b⟩; refine zb ?_)
   refine zd ?_
   clear hW1 hX1b
   go_wp2_with (go_at_call 40; refine (hX1.c40 4 _).mono ?_; rintro _ x2 ⟨rfl, hV, hVb⟩; refine zb ?_)
   refine zd ?_
   clear hX1 hVb
   generalize (hdT (za L k en)).place = pp at *
   have C132 := hV.c132b (by decide) HBw.out
   go_wp2_with (first
    | (go_at_call 132; refine C132.mono ?_; rintro _ u5 ⟨rfl, hV5, hb5⟩)
    | (refine aL (o := { dst := some 7, .. }) rfl rfl z32 ?_; intro u6 hA6 hb6)
    | (refine sL rfl rfl hA6 (zy 0 0) rfl rfl i32 rfl (yj _ _) ?_; intro u7 hZ hb7; refine zb ?_))
   refine zd ?_
   have hw5 : w.heap.size < u5.heap.size := hV5.own.lt
   have hV6 := hV5.below hb6
   have hV7 := hV6.other HBw.out hb7 hw5
   have hg5 := hV5.lt
   obtain ⟨Z, hZe⟩ : ∃ Z, u5.heap.size = Z := ⟨_, rfl⟩
   rw [hZe] at hZ hw5 ⊢
   clear C132 hV hV5 hV6 hb5 hb6 hb7 hA6 hZe
   go_wp2_with (go_at_call 41; refine (hV7.c41).mono ?_; rintro _ u8 ⟨rfl, hV8, hV8b⟩; refine zb ?_)
   refine zd ?_
   have hZ := hV8b.at hZ (by omega)
   clear hV7 hV8b
   go_wp2_with (go_at_call 40; refine (hV8.c40b (by decide) 4 _).mono ?_; rintro _ u9 ⟨rfl, hV9, hV9b⟩; refine zb ?_)
   refine zd ?_
   have hZ := hV9b.at hZ (by omega)
   clear hV8 hV9b
   have hV := hV9
   clear hV9
   have C30 := hV.c30b (by decide)
   obtain ⟨z0, z1⟩ := yu hZ
   go_wp2_with (go_at_call 30; refine C30.mono ?_; rintro _ _ ⟨rfl, rfl⟩; refine zb ?_)
   refine zd ?_
   clear C30
   go_wp2_with (first
    | (refine lL rfl rfl hZ rfl Tryz.underlying40 rfl i32 ?_)
    | (refine sL rfl rfl hV.own (zy 0 0) rfl rfl i32 rfl (yj _ _) ?_; intro u9 hA9 hb9))
   refine zr (zh rfl _ _ w.heap.size 40 (zy 0 0) _ rfl hA9 Tryz.underlying40 rfl i32) rfl ?_
   show Xy B g L a c en ne bl w R _ _
   rw [HR2.out]
   exact ⟨0, 0, _, _, _, rfl, hV.q.but hb9 HBw.out, ⟨rfl, rfl, rfl, by decide⟩, hV.bt.fresh hb9 (zj _), ⟨by decide, by decide⟩, fun x l q => by cases q⟩
  | false =>
   go_wp2_with (go_at_call 63; refine (HC1.out _ hV).mono ?_; rintro _ v1 ⟨rfl, hW1, hW1b⟩; refine zb ?_)
   refine zd ?_
   clear hV hW1b
   go_wp2_with (go_at_call 63; refine (HC2.out _ hW1).mono ?_; rintro _ v2 ⟨rfl, hW2, hW2b⟩; refine zb ?_)
   refine zd ?_
   clear hW1 hW2b
   cases b2 with
   | true =>
    have hR : R = .bad 4 (hdT (za L k en)).place := by
     rw [HR.out]
     obtain ⟨v, hv⟩ := Jl (t := hdT (za L k en)) (by rw [hbare]; rfl)
     unfold yI
     rw [hv]
     dsimp only
     rw [V4 hTL v hv, hbare]
     rfl
    have HR2 : Hid _ := hR
    clear HR hR hbare hTL hTO
    clear HC1 HC2 HC3
    go_wp2_with (go_at_call 41; refine (hW2.c41).mono ?_; rintro _ x1 ⟨rfl, hX1, hX1b⟩; refine zb ?_)
    refine zd ?_
    clear hW2 hX1b
    go_wp2_with (go_at_call 40; refine (hX1.c40 4 _).mono ?_; rintro _ x2 ⟨rfl, hV, hVb⟩; refine zb ?_)
    refine zd ?_
    clear hX1 hVb
    generalize (hdT (za L k en)).place = pp at *
    have C132 := hV.c132b (by decide) HBw.out
    go_wp2_with (first
     | (go_at_call 132; refine C132.mono ?_; rintro _ u5 ⟨rfl, hV5, hb5⟩)
     | (refine aL (o := { dst := some 7, .. }) rfl rfl z32 ?_; intro u6 hA6 hb6)
     | (refine sL rfl rfl hA6 (zy 0 0) rfl rfl i32 rfl (yj _ _) ?_; intro u7 hZ hb7; refine zb ?_))
    refine zd ?_
    have hw5 : w.heap.size < u5.heap.size := hV5.own.lt
    have hV6 := hV5.below hb6
    have hV7 := hV6.other HBw.out hb7 hw5
    have hg5 := hV5.lt
    obtain ⟨Z, hZe⟩ : ∃ Z, u5.heap.size = Z := ⟨_, rfl⟩
    rw [hZe] at hZ hw5 ⊢
    clear C132 hV hV5 hV6 hb5 hb6 hb7 hA6 hZe
    go_wp2_with (go_at_call 41; refine (hV7.c41).mono ?_; rintro _ u8 ⟨rfl, hV8, hV8b⟩; refine zb ?_)
    refine zd ?_
    have hZ := hV8b.at hZ (by omega)
    clear hV7 hV8b
    go_wp2_with (go_at_call 40; refine (hV8.c40b (by decide) 4 _).mono ?_; rintro _ u9 ⟨rfl, hV9, hV9b⟩; refine zb ?_)
    refine zd ?_
    have hZ := hV9b.at hZ (by omega)
    clear hV8 hV9b
    have hV := hV9
    clear hV9
    have C30 := hV.c30b (by decide)
    obtain ⟨z0, z1⟩ := yu hZ
    go_wp2_with (go_at_call 30; refine C30.mono ?_; rintro _ _ ⟨rfl, rfl⟩; refine zb ?_)
    refine zd ?_
    clear C30
    go_wp2_with (first
     | (refine lL rfl rfl hZ rfl Tryz.underlying40 rfl i32 ?_)
     | (refine sL rfl rfl hV.own (zy 0 0) rfl rfl i32 rfl (yj _ _) ?_; intro u9 hA9 hb9))
    refine zr (zh rfl _ _ w.heap.size 40 (zy 0 0) _ rfl hA9 Tryz.underlying40 rfl i32) rfl ?_
    show Xy B g L a c en ne bl w R _ _
    rw [HR2.out]
    exact ⟨0, 0, _, _, _, rfl, hV.q.but hb9 HBw.out, ⟨rfl, rfl, rfl, by decide⟩, hV.bt.fresh hb9 (zj _), ⟨by decide, by decide⟩, fun x l q => by cases q⟩
   | false =>
    go_wp2_with (go_at_call 63; refine (HC3.out _ hW2).mono ?_; rintro _ v3 ⟨rfl, hW3, hW3b⟩; refine zb ?_)
    refine zd ?_
    clear hW2 hW3b
    clear HC1 HC2 HC3
    cases b3 with
    | true =>
     have hR : R = .bad 4 (hdT (za L k en)).place := by
      rw [HR.out]
      obtain ⟨v, hv⟩ := Jl (t := hdT (za L k en)) (by rw [hbare]; rfl)
      unfold yI
      rw [hv]
      dsimp only
      rw [V4 hTL v hv, hbare]
      rfl
     have HR2 : Hid _ := hR
     clear HR hR hbare hTL hTO
     go_wp2_with (go_at_call 41; refine (hW3.c41).mono ?_; rintro _ x1 ⟨rfl, hX1, hX1b⟩; refine zb ?_)
     refine zd ?_
     clear hW3 hX1b
     go_wp2_with (go_at_call 40; refine (hX1.c40 4 _).mono ?_; rintro _ x2 ⟨rfl, hV, hVb⟩; refine zb ?_)
     refine zd ?_
     clear hX1 hVb
     generalize (hdT (za L k en)).place = pp at *
     have C132 := hV.c132b (by decide) HBw.out
     go_wp2_with (first
      | (go_at_call 132; refine C132.mono ?_; rintro _ u5 ⟨rfl, hV5, hb5⟩)
      | (refine aL (o := { dst := some 7, .. }) rfl rfl z32 ?_; intro u6 hA6 hb6)
      | (refine sL rfl rfl hA6 (zy 0 0) rfl rfl i32 rfl (yj _ _) ?_; intro u7 hZ hb7; refine zb ?_))
     refine zd ?_
     have hw5 : w.heap.size < u5.heap.size := hV5.own.lt
     have hV6 := hV5.below hb6
     have hV7 := hV6.other HBw.out hb7 hw5
     have hg5 := hV5.lt
     obtain ⟨Z, hZe⟩ : ∃ Z, u5.heap.size = Z := ⟨_, rfl⟩
     rw [hZe] at hZ hw5 ⊢
     clear C132 hV hV5 hV6 hb5 hb6 hb7 hA6 hZe
     go_wp2_with (go_at_call 41; refine (hV7.c41).mono ?_; rintro _ u8 ⟨rfl, hV8, hV8b⟩; refine zb ?_)
     refine zd ?_
     have hZ := hV8b.at hZ (by omega)
     clear hV7 hV8b
     go_wp2_with (go_at_call 40; refine (hV8.c40b (by decide) 4 _).mono ?_; rintro _ u9 ⟨rfl, hV9, hV9b⟩; refine zb ?_)
     refine zd ?_
     have hZ := hV9b.at hZ (by omega)
     clear hV8 hV9b
     have hV := hV9
     clear hV9
     have C30 := hV.c30b (by decide)
     obtain ⟨z0, z1⟩ := yu hZ
     go_wp2_with (go_at_call 30; refine C30.mono ?_; rintro _ _ ⟨rfl, rfl⟩; refine zb ?_)
     refine zd ?_
     clear C30
     go_wp2_with (first
      | (refine lL rfl rfl hZ rfl Tryz.underlying40 rfl i32 ?_)
      | (refine sL rfl rfl hV.own (zy 0 0) rfl rfl i32 rfl (yj _ _) ?_; intro u9 hA9 hb9))
     refine zr (zh rfl _ _ w.heap.size 40 (zy 0 0) _ rfl hA9 Tryz.underlying40 rfl i32) rfl ?_
     show Xy B g L a c en ne bl w R _ _
     rw [HR2.out]
     exact ⟨0, 0, _, _, _, rfl, hV.q.but hb9 HBw.out, ⟨rfl, rfl, rfl, by decide⟩, hV.bt.fresh hb9 (zj _), ⟨by decide, by decide⟩, fun x l q => by cases q⟩
    | false =>
     have hV := hW3
     clear hW3
     cases hl : zW (hdT (za L k en))
     focus
      have hR : R = .bad 4 (hdT (za L k en)).place := by rw [HR.out]; unfold yI; rw [hl]
      have HR2 : Hid _ := hR
      clear HR hR hbare hTL hTO
      have C132 := hV.c132 HOK.out HBw.out
      rw [hl] at C132
      simp only [JU, Option.getD_none, Option.isSome_none] at C132
      rw [ze (by decide)] at C132
      go_wp2_with (first
       | (go_at_call 132; refine C132.mono ?_; rintro _ u5 ⟨rfl, hV5, hb5⟩)
       | (refine aL (o := { dst := some 7, .. }) rfl rfl z32 ?_; intro u6 hA6 hb6)
       | (refine sL rfl rfl hA6 (zy 0 0) rfl rfl i32 rfl (yj _ _) ?_; intro u7 hZ hb7; refine zb ?_))
     rotate_left
     focus
      rename_i v
      obtain ⟨vt, vb⟩ := v
      have hnum := zfz hTL _ hl hbare
      have hlt := zca hTO hl
      have htl := ju hl
      have hR : R = if vt = t then .ok (XG (vt, vb)) (za L (k + 1) en) else .bad 9 pa := by
       rw [HR.out]; unfold yI; rw [hl]; dsimp only; rw [V4 hTL _ hl, hbare, htl]; rfl
      have HR2 : Hid _ := hR
      clear HR hR hbare hTL hTO htl
      dsimp only at hnum hlt
      have C132 := hV.c132 HOK.out HBw.out
      rw [hl] at C132
      simp only [JU, Option.getD_some, Option.isSome_some, if_true] at C132
      go_wp2_with (first
       | (go_at_call 132; refine C132.mono ?_; rintro _ u5 ⟨rfl, hV5, hb5⟩)
       | (refine aL (o := { dst := some 7, .. }) rfl rfl z32 ?_; intro u6 hA6 hb6)
       | (refine sL rfl rfl hA6 (zy vt vb) rfl rfl i32 rfl (yj _ _) ?_; intro u7 hZ hb7; refine zb ?_))
     rotate_left
     all_goals
      refine zd ?_
      have hw5 : w.heap.size < u5.heap.size := hV5.own.lt
      have hV6 := hV5.below hb6
      have hV7 := hV6.other HBw.out hb7 hw5
      have hg5 := hV5.lt
      obtain ⟨Z, hZe⟩ : ∃ Z, u5.heap.size = Z := ⟨_, rfl⟩
      rw [hZe] at hZ hw5 ⊢
      clear C132 hV hV5 hV6 hb5 hb6 hb7 hA6 hZe
     ·go_wp2_with (go_at_call 41; refine (hV7.c41).mono ?_; rintro _ u8 ⟨rfl, hV8, hV8b⟩; refine zb ?_)
      refine zd ?_
      have hZ := hV8b.at hZ (by omega)
      clear hV7 hV8b
      go_wp2_with (go_at_call 40; refine (hV8.c40 4 _).mono ?_; rintro _ u9 ⟨rfl, hV9, hV9b⟩; refine zb ?_)
      refine zd ?_
      have hZ := hV9b.at hZ (by omega)
      clear hV8 hV9b
      have hV := hV9
      clear hV9
      have C30 := hV.c30b (by decide)
      obtain ⟨z0, z1⟩ := yu hZ
      go_wp2_with (go_at_call 30; refine C30.mono ?_; rintro _ _ ⟨rfl, rfl⟩; refine zb ?_)
      refine zd ?_
      clear C30
      go_wp2_with (first
       | (refine lL rfl rfl hZ rfl Tryz.underlying40 rfl i32 ?_)
       | (refine sL rfl rfl hV.own (zy 0 0) rfl rfl i32 rfl (yj _ _) ?_; intro u9 hA9 hb9))
      refine zr (zh rfl _ _ w.heap.size 40 (zy 0 0) _ rfl hA9 Tryz.underlying40 rfl i32) rfl ?_
      show Xy B g L a c en ne bl w R _ _
      rw [HR2.out]
      exact ⟨0, 0, _, _, _, rfl, hV.q.but hb9 HBw.out, ⟨rfl, rfl, rfl, by decide⟩, hV.bt.fresh hb9 (zj _), ⟨by decide, by decide⟩, fun x l q => by cases q⟩
     ·clear hl
      have hV := hV7
      clear hV7
      have C30 := hV.c30
      obtain ⟨z0, z1⟩ := yu hZ
      by_cases ht : vt = t
      ·rw [zi ht] at HR2
       have e1 : ((vt : Int) == (t : Int)) = true := by rw [beq_iff_eq]; omega
       go_wp2_with (go_at_call 30; refine C30.mono ?_; rintro _ _ ⟨rfl, rfl⟩; refine zb ?_)
       refine zd ?_
       clear C30
       rcases hnum with h1 | ⟨h1, hnan⟩
       focus
        have e2 : ((vt : Int) == 1) = true := by rw [beq_iff_eq]; omega
        have e3 : ((vt : Int) == 3) = false := by rw [zt]; omega
        have hn := qj vb hlt.2
        obtain ⟨nb, hnb⟩ : ∃ q, Hid (q = (18446744073709551616 - vb) % 18446744073709551616) := ⟨_, (rfl : (18446744073709551616 - vb) % 18446744073709551616 = _)⟩
        rw [<- hnb.out] at hn
        go_wp2_with (refine zz rfl rfl hZ 1 (.int .u64 (nb : Int)) rfl (by first | rfl | (simp only [hn]; rfl)) zfG ?_; intro u8 hZ8 hb8; refine zb ?_)
       rotate_left
       focus
        have e2 : ((vt : Int) == 1) = false := by rw [zt]; omega
        have e3 : ((vt : Int) == 3) = true := by rw [beq_iff_eq]; omega
        obtain ⟨nb, hnb⟩ : ∃ q, Hid (q = YI vb) := ⟨_, (rfl : YI vb = _)⟩
        have hx : bits .xor .u64 (vb : Int) 9223372036854775808 = ((nb : Nat) : Int) := by
         have hq := bits_xor_u64_nat vb 9223372036854775808 hlt.2 (by decide)
         rw [zaN vb hnan hlt.2, <- hnb.out] at hq
         exact hq
        go_wp2_with (refine zz rfl rfl hZ 1 (.int .u64 (nb : Int)) rfl (by first | rfl | (simp only [hx]; rfl) | (show Value.int _ _ = _; rw [hx])) zfG ?_; intro u8 hZ8 hb8; refine zb ?_)
       rotate_left
       all_goals
        refine zd ?_
        have hZ : At 40 u8 Z (zy vt nb) := hZ8
        have hV := hV.other HBw.out hb8 hw5
       focus
        clear hZ8 hb8 z0 z1 hn
       rotate_left
       focus
        clear hZ8 hb8 z0 z1 hx
       rotate_left
       all_goals
        obtain ⟨z0, z1⟩ := yu hZ
        go_wp2_with (first
         | (refine lL rfl rfl hZ rfl Tryz.underlying40 rfl i32 ?_)
         | (refine sL rfl rfl hV.own (zy vt nb) rfl rfl i32 rfl (yj _ _) ?_; intro u9 hA9 hb9))
        refine zr (zh rfl _ _ w.heap.size 40 (zy vt nb) _ rfl hA9 Tryz.underlying40 rfl i32) rfl ?_
        show Xy B g L a c en ne bl w R _ _
        rw [HR2.out]
        exact ⟨vt, nb, _, _, _, rfl, hV.q.but hb9 HBw.out, ⟨rfl, rfl, rfl⟩, hV.bt.fresh hb9 (zj _), ⟨hlt.1, by rw [hnb.out]; first | exact Nat.mod_lt _ (by decide) | exact qu hlt.2⟩, fun x l q => by cases q; show XG (vt, vb) = (vt, nb); unfold XG; rw [hnb.out]; first | (rw [zi h1, h1]) | (rw [ze (by show ¬ vt = 1; omega), h1])⟩
      ·rw [ze ht] at HR2
       have e1 : ((vt : Int) == (t : Int)) = false := by rw [zt]; omega
       go_wp2_with (go_at_call 30; refine C30.mono ?_; rintro _ _ ⟨rfl, rfl⟩; refine zb ?_)
       refine zd ?_
       clear C30
       go_wp2_with (go_at_call 40; refine (hV.c40 9 pa).mono ?_; rintro _ u9 ⟨rfl, hV9, hV9b⟩; refine zb ?_)
       refine zd ?_
       have hZ := hV9b.at hZ (by omega)
       have hV := hV9
       clear hV9 hV9b z0 z1
       obtain ⟨z0, z1⟩ := yu hZ
       rcases hnum with h1 | ⟨h1, hnan⟩
       focus
        have e2 : ((vt : Int) == 1) = true := by rw [beq_iff_eq]; omega
        have e3 : ((vt : Int) == 3) = false := by rw [zt]; omega
        have hn := qj vb hlt.2
        obtain ⟨nb, hnb⟩ : ∃ q, Hid (q = (18446744073709551616 - vb) % 18446744073709551616) := ⟨_, (rfl : (18446744073709551616 - vb) % 18446744073709551616 = _)⟩
        rw [<- hnb.out] at hn
        go_wp2_with (refine zz rfl rfl hZ 1 (.int .u64 (nb : Int)) rfl (by first | rfl | (simp only [hn]; rfl)) zfG ?_; intro u8 hZ8 hb8; refine zb ?_)
       rotate_left
       focus
        have e2 : ((vt : Int) == 1) = false := by rw [zt]; omega
        have e3 : ((vt : Int) == 3) = true := by rw [beq_iff_eq]; omega
        obtain ⟨nb, hnb⟩ : ∃ q, Hid (q = YI vb) := ⟨_, (rfl : YI vb = _)⟩
        have hx : bits .xor .u64 (vb : Int) 9223372036854775808 = ((nb : Nat) : Int) := by
         have hq := bits_xor_u64_nat vb 9223372036854775808 hlt.2 (by decide)
         rw [zaN vb hnan hlt.2, <- hnb.out] at hq
         exact hq
        go_wp2_with (refine zz rfl rfl hZ 1 (.int .u64 (nb : Int)) rfl (by first | rfl | (simp only [hx]; rfl) | (show Value.int _ _ = _; rw [hx])) zfG ?_; intro u8 hZ8 hb8; refine zb ?_)
       rotate_left
       all_goals
        refine zd ?_
        have hZ : At 40 u8 Z (zy vt nb) := hZ8
        have hV := hV.other HBw.out hb8 hw5
       focus
        clear hZ8 hb8 z0 z1 hn
       rotate_left
       focus
        clear hZ8 hb8 z0 z1 hx
       rotate_left
       all_goals
        obtain ⟨z0, z1⟩ := yu hZ
        go_wp2_with (first
         | (refine lL rfl rfl hZ rfl Tryz.underlying40 rfl i32 ?_)
         | (refine sL rfl rfl hV.own (zy vt nb) rfl rfl i32 rfl (yj _ _) ?_; intro u9 hA9 hb9))
        refine zr (zh rfl _ _ w.heap.size 40 (zy vt nb) _ rfl hA9 Tryz.underlying40 rfl i32) rfl ?_
        show Xy B g L a c en ne bl w R _ _
        rw [HR2.out]
        exact ⟨vt, nb, _, _, _, rfl, hV.q.but hb9 HBw.out, ⟨rfl, rfl, rfl, by decide⟩, hV.bt.fresh hb9 (zj _), ⟨hlt.1, by rw [hnb.out]; first | exact Nat.mod_lt _ (by decide) | exact qu hlt.2⟩, fun x l q => by cases q⟩
 ·have hm' : decide ((hdT (za L k en)).text = bytes ⟨#[45]⟩) = false := zN hm
  rw [hm', ze (by decide)] at C64
  have hR' : R = yI false t pa (za L k en) := by rw [hR.out]; unfold Zh; rw [ze hm, hpa]
  clear hR
  go_wp2_with (go_at_call 64; refine C64.mono ?_; rintro _ u3 ⟨rfl, hV, hVb⟩; refine zb ?_)
  refine zd ?_
  clear C64 hVb hV2 hm' hm
  have HR : Hid (R = yI false t pa (za L k en)) := hR'
  clear hR' hpa
  cases hl : zW (hdT (za L k en))
  focus
   have hR : R = .bad 4 (hdT (za L k en)).place := by rw [HR.out]; unfold yI; rw [hl]
   have HR2 : Hid _ := hR
   clear HR hR
   have C132 := hV.c132 HOK.out HBw.out
   rw [hl] at C132
   simp only [JU, Option.getD_none, Option.isSome_none] at C132
   rw [ze (by decide)] at C132
   go_wp2_with (first
    | (go_at_call 132; refine C132.mono ?_; rintro _ u5 ⟨rfl, hV5, hb5⟩)
    | (refine aL (o := { dst := some 7, .. }) rfl rfl z32 ?_; intro u6 hA6 hb6)
    | (refine sL rfl rfl hA6 (zy 0 0) rfl rfl i32 rfl (yj _ _) ?_; intro u7 hZ hb7; refine zb ?_))
  rotate_left
  focus
   rename_i v
   obtain ⟨vt, vb⟩ := v
   have htl := ju hl
   have hlt := zca (zb8 HOK.out k en) hl
   have hR : R = if vt = t then .ok (vt, vb) (za L (k + 1) en) else .bad 9 pa := by
    rw [HR.out]; unfold yI; rw [hl]; dsimp only; rw [htl]; rfl
   have HR2 : Hid _ := hR
   clear HR hR htl
   have C132 := hV.c132 HOK.out HBw.out
   rw [hl] at C132
   simp only [JU, Option.getD_some, Option.isSome_some, if_true] at C132
   go_wp2_with (first
    | (go_at_call 132; refine C132.mono ?_; rintro _ u5 ⟨rfl, hV5, hb5⟩)
    | (refine aL (o := { dst := some 7, .. }) rfl rfl z32 ?_; intro u6 hA6 hb6)
    | (refine sL rfl rfl hA6 (zy vt vb) rfl rfl i32 rfl (yj _ _) ?_; intro u7 hZ hb7; refine zb ?_))
  rotate_left
  all_goals
   refine zd ?_
   have hw5 : w.heap.size < u5.heap.size := hV5.own.lt
   have hV6 := hV5.below hb6
   have hV7 := hV6.other HBw.out hb7 hw5
   have hg5 := hV5.lt
   obtain ⟨Z, hZe⟩ : ∃ Z, u5.heap.size = Z := ⟨_, rfl⟩
   rw [hZe] at hZ hw5 ⊢
   clear C132 hV hV5 hV6 hb5 hb6 hb7 hA6 hZe
  ·go_wp2_with (go_at_call 41; refine (hV7.c41).mono ?_; rintro _ u8 ⟨rfl, hV8, hV8b⟩; refine zb ?_)
   refine zd ?_
   have hZ := hV8b.at hZ (by omega)
   clear hV7 hV8b
   go_wp2_with (go_at_call 40; refine (hV8.c40 4 _).mono ?_; rintro _ u9 ⟨rfl, hV9, hV9b⟩; refine zb ?_)
   refine zd ?_
   have hZ := hV9b.at hZ (by omega)
   clear hV8 hV9b
   have hV := hV9
   clear hV9
   have C30 := hV.c30b (by decide)
   obtain ⟨z0, z1⟩ := yu hZ
   go_wp2_with (go_at_call 30; refine C30.mono ?_; rintro _ _ ⟨rfl, rfl⟩; refine zb ?_)
   refine zd ?_
   clear C30
   go_wp2_with (first
    | (refine lL rfl rfl hZ rfl Tryz.underlying40 rfl i32 ?_)
    | (refine sL rfl rfl hV.own (zy 0 0) rfl rfl i32 rfl (yj _ _) ?_; intro u9 hA9 hb9))
   refine zr (zh rfl _ _ w.heap.size 40 (zy 0 0) _ rfl hA9 Tryz.underlying40 rfl i32) rfl ?_
   show Xy B g L a c en ne bl w R _ _
   rw [HR2.out]
   exact ⟨0, 0, _, _, _, rfl, hV.q.but hb9 HBw.out, ⟨rfl, rfl, rfl, by decide⟩, hV.bt.fresh hb9 (zj _), ⟨by decide, by decide⟩, fun x l q => by cases q⟩
  ·clear hl
   have hV := hV7
   clear hV7
   have C30 := hV.c30
   obtain ⟨z0, z1⟩ := yu hZ
   by_cases ht : vt = t
   focus
    rw [zi ht] at HR2
    have e1 : ((vt : Int) == (t : Int)) = true := by rw [beq_iff_eq]; omega
   rotate_left
   focus
    rw [ze ht] at HR2
    have e1 : ((vt : Int) == (t : Int)) = false := by rw [zt]; omega
   rotate_left
   all_goals
    go_wp2_with (go_at_call 30; refine C30.mono ?_; rintro _ _ ⟨rfl, rfl⟩; refine zb ?_)
    refine zd ?_
    clear C30
   rotate_left
   focus
    go_wp2_with (go_at_call 40; refine (hV.c40 9 pa).mono ?_; rintro _ u9 ⟨rfl, hV9, hV9b⟩; refine zb ?_)
    refine zd ?_
    have hZ := hV9b.at hZ (by omega)
    have hV := hV9
    clear hV9 hV9b z0 z1
    obtain ⟨z0, z1⟩ := yu hZ
   rotate_left
   all_goals
    go_wp2_with (first
     | (refine lL rfl rfl hZ rfl Tryz.underlying40 rfl i32 ?_)
     | (refine sL rfl rfl hV.own (zy vt vb) rfl rfl i32 rfl (yj _ _) ?_; intro u9 hA9 hb9))
    refine zr (zh rfl _ _ w.heap.size 40 (zy vt vb) _ rfl hA9 Tryz.underlying40 rfl i32) rfl ?_
    show Xy B g L a c en ne bl w R _ _
    rw [HR2.out]
   ·exact ⟨vt, vb, _, _, _, rfl, hV.q.but hb9 HBw.out, ⟨rfl, rfl, rfl⟩, hV.bt.fresh hb9 (zj _), hlt, fun x l q => by cases q; rfl⟩
   ·exact ⟨vt, vb, _, _, _, rfl, hV.q.but hb9 HBw.out, ⟨rfl, rfl, rfl, by decide⟩, hV.bt.fresh hb9 (zj _), hlt, fun x l q => by cases q⟩
