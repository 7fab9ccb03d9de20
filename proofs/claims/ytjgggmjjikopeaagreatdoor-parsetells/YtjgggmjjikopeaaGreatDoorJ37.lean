/- J -/
import Derived.Test.YtjgggmjjikopeaaGreatDoorJ35
set_option linter.unusedVariables false
set_option maxRecDepth 100000
set_option maxHeartbeats 6400000
open Go.RowKit
namespace Go.Proofs.YtjgggmjjikopeaaGreatDoor
def Rs.shape {α : Type} (R : Rs α) : Rs Unit := R.andThen fun _ l => .ok () l
theorem StOf.shape {L : List Tk} {en k er pl : Nat} {α : Type} {R : Rs α} (h : StOf L en k er pl R) : StOf L en k er pl R.shape := by cases R <;> exact h
theorem StOf.of_shape {L : List Tk} {en k er pl : Nat} {α : Type} {R : Rs α} (h : StOf L en k er pl R.shape) : StOf L en k er pl R := by cases R <;> exact h
theorem StOf.of {L : List Tk} {en k er pl : Nat} {α : Type} {R : Rs α} {S : Rs Unit} (h : StOf L en k er pl S) (he : R.shape = S) : StOf L en k er pl R := StOf.of_shape (by rw [he]; exact h)
section
variable {B : Nat} {w : World} {T : TypeId} {cs : List Value} {g : Nat} {L : List Tk} {a : Option Addr} {c k en er pl ne bl : Nat} {u : World}
theorem Vs.c64b (h : Vs B w T cs g L a c k en er pl ne bl u) (he : er ≠ 0) (x : ByteArray) (hx : bytes x ≠ []) : Calls Tryz.prog 64 #[.pointer (some ⟨g, 0, none⟩), .string x] u (VsC B w T cs g L a c k en er pl ne bl u (.returned (.bool false))) := by
 have := h.c64 x hx
 have hie : isB er pl (za L k en) (bytes x) = false := by unfold isB; rw [zN he]; rfl
 rw [hie] at this
 exact this
theorem Vs.c67b (h : Vs B w T cs g L a c k en er pl ne bl u) (he : er ≠ 0) (x : ByteArray) (hx : bytes x ≠ []) : Calls Tryz.prog 67 #[.pointer (some ⟨g, 0, none⟩), .string x] u (VsC B w T cs g L a c L.length en er pl ne bl u (.returned (.tuple #[]))) := by
 refine (Zo g L a c k en er pl ne bl he x hx u h.q).mono ?_
 rintro r u' ⟨rfl, hq, hb⟩
 exact ⟨rfl, h.step hq hb, hb⟩
theorem Vs.c67 (h : Vs B w T cs g L a c k en er pl ne bl u) (S : Rs Unit) (hS : StOf L en k er pl S) (x : ByteArray) (hx : bytes x ≠ []) : Calls Tryz.prog 67 #[.pointer (some ⟨g, 0, none⟩), .string x] u fun r u' => r = .returned (.tuple #[]) /\ ∃ k' er' pl', Vs B w T cs g L a c k' en er' pl' ne bl u' /\ But g u u' /\ StOf L en k' er' pl' (S.andThen fun _ l => zq (bytes x) l) := by
 refine (Yb g L a c k en er pl ne bl S hS x hx u h.q).mono ?_
 rintro r u' ⟨rfl, k', er', pl', hq, hS', hb⟩
 exact ⟨rfl, k', er', pl', h.step hq hb, hb, hS'⟩
theorem Vs.c66 (h : Vs B w T cs g L a c k en 0 0 ne bl u) (hBw : B <= w.heap.size) (hn : Yg (hdT (za L k en)).text = true) : Calls Tryz.prog 66 #[.pointer (some ⟨g, 0, none⟩)] u (VsC B w T cs g L a c (k + 1) en 0 0 ne bl u (.returned (.string ⟨(hdT (za L k en)).text.toArray⟩))) := by
 refine (Ya g L a c k en ne bl u h.q (zQ hBw h.bt.size)).mono ?_
 rintro r u' ⟨rfl, hq, hb⟩
 unfold zM at hq ⊢
 rw [zi hn] at hq ⊢
 obtain ⟨k', hk', hq⟩ := hq
 have hlt := zP (L := L) (k := k) (en := en) (Km hn) rfl
 rw [hlt] at hk'
 have hkk : k' = k + 1 := by
  have h1 := congrArg List.length hk'
  simp [za] at h1
  have := hq.le
  by_cases hk : k < L.length
  ·omega
  ·rw [Zn (by omega)] at hn
   exact absurd (show Yg [] = true from hn) (by decide)
 subst hkk
 exact ⟨rfl, h.step hq hb, hb⟩
theorem Vs.c66n (h : Vs B w T cs g L a c k en 0 0 ne bl u) (hBw : B <= w.heap.size) (hn : Yg (hdT (za L k en)).text = false) : Calls Tryz.prog 66 #[.pointer (some ⟨g, 0, none⟩)] u (VsC B w T cs g L a c L.length en 4 (hdT (za L k en)).place ne bl u (.returned (.string ⟨#[]⟩))) := by
 refine (Ya g L a c k en ne bl u h.q (zQ hBw h.bt.size)).mono ?_
 rintro r u' ⟨rfl, hq, hb⟩
 unfold zM at hq ⊢
 rw [ze (by rw [hn]; decide)] at hq ⊢
 exact ⟨rfl, h.step hq hb, hb⟩
theorem Vs.c102 (h : Vs B w T cs g L a c k en 0 0 ne bl u) (hBw : B <= w.heap.size) (hok : ∀ t ∈ L, Zd t) (hlit : ∀ t ∈ L, Yk t) (t : Nat) : Calls Tryz.prog 102 #[.pointer (some ⟨g, 0, none⟩), .int .u8 (t : Int)] u fun r u' => ∃ v b k' er' pl', r = .returned (.agg (zy v b).toArray) /\ Vs B w T cs g L a c k' en er' pl' ne bl u' /\ But g u u' /\ StOf L en k' er' pl' (Zh t (za L k en)) /\ (v < 256 /\ b < 18446744073709551616) /\ ∀ x l, Zh t (za L k en) = .ok x l -> x = (v, b) := by
 refine (j4 g t L a c k en ne bl hok hlit u h.q (zQ hBw h.bt.size)).mono ?_
 rintro r u' ⟨v, b, k', er', pl', rfl, hq, hS, hb, hlt, hv⟩
 exact ⟨v, b, k', er', pl', rfl, h.step hq hb, hb, hS, hlt, hv⟩
end
def YK (B g : Nat) (L : List Tk) (a : Option Addr) (c en ne bl : Nat) (w : World) (R : Rs Vr) (r : Ending) (w' : World) : Prop :=
 ∃ (v : VT) (k er pl : Nat), r = .returned (.agg v.cells.toArray) /\ (v.t < 256 /\ v.b < 18446744073709551616) /\ Qd B w' g L a c k en er pl ne bl /\ StOf L en k er pl R /\ But g w w' /\ ∀ x l, R = .ok x l -> v.vr = x
theorem zgE : (Tryz.prog.info? 37).map (·.size) = some 1 := by kernel_rfl
def vr3 (s : ByteArray) (t b : Nat) : List Value := [.string s, .int .u8 (t : Int), .int .u64 (b : Int)]
theorem Ja {w : World} {g : Nat} {s : ByteArray} {t b : Nat} (h : At 48 w g (vr3 s t b)) : w.cell? ⟨g, 0, none⟩ = some (.string s) /\ w.cell? ⟨g, 1, none⟩ = some (.int .u8 (t : Int)) /\ w.cell? ⟨g, 2, none⟩ = some (.int .u64 (b : Int)) := by
 refine ⟨?_, ?_, ?_⟩ <;> (rw [h.cell]; rfl)
theorem Yq (s : ByteArray) (t b : Nat) : ∀ v ∈ vr3 s t b, v.oneCell' = true := by
 intro v hv
 simp [vr3] at hv
 rcases hv with rfl | rfl | rfl <;> rfl
theorem YL (x : List UInt8) (R : Rs (Nat × Nat)) : (R.bind fun v r => (zq [59] r).bind fun _ r => (.ok ⟨x, v.1, v.2⟩ r : Rs Vr)).shape = R.shape.andThen fun _ l => zq [59] l := by
 cases R with
 | bad e p => rfl
 | ok v r =>
  show ((zq [59] r).bind fun _ r => (.ok ⟨x, v.1, v.2⟩ r : Rs Vr)).shape = zq [59] r
  cases zq [59] r <;> rfl
theorem Jb {x : List UInt8} {R : Rs (Nat × Nat)} {t b : Nat} (h : ∀ v l, R = .ok v l -> v = (t, b)) (y : Vr) (l : List Tk) (hy : (R.bind fun v r => (zq [59] r).bind fun _ r => (.ok ⟨x, v.1, v.2⟩ r : Rs Vr)) = .ok y l) : y = ⟨x, t, b⟩ := by
 cases R with
 | bad e p => cases hy
 | ok v r =>
  have hv := h v r rfl
  subst hv
  have hy : ((zq [59] r).bind fun _ r => (.ok ⟨x, t, b⟩ r : Rs Vr)) = .ok y l := hy
  cases hm : zq [59] r with
  | bad e p => rw [hm] at hy; cases hy
  | ok u r2 => rw [hm] at hy; cases hy; rfl
theorem XC {B : Nat} (g : Nat) (L : List Tk) (a : Option Addr) (c k en ne bl : Nat) (hok : ∀ t ∈ L, Zd t) (hlit : ∀ t ∈ L, Yk t) (w : World) (h : Qd B w g L a c k en 0 0 ne bl) (hBw : B <= w.heap.size) :
  Calls Tryz.prog 65 #[.pointer (some ⟨g, 0, none⟩)] w (YK B g L a c en ne bl w (yA (za L k en))) := by
 have HOK : Hid (∀ t ∈ L, Zd t) := hok
 have HLI : Hid (∀ t ∈ L, Yk t) := hlit
 have HBw : Hid (B <= w.heap.size) := hBw
 have HQ : Hid (Qd B w g L a c k en 0 0 ne bl) := h
 clear hok hlit hBw h
 obtain ⟨R, hR⟩ : ∃ R, Hid (R = yA (za L k en)) := ⟨_, (rfl : yA (za L k en) = _)⟩
 rw [<- hR.out]
 go_enter Tryz.func65, Tryz.ntmps65
 go_wp2_with (refine aL (o := { dst := some 2, .. }) rfl rfl z79 ?_; intro u1 hA1 hb1; refine zb ?_)
 refine zd ?_
 have hV : Vs B w 48 [.string ⟨#[]⟩, .int .u8 0, .int .u64 0] g L a c k en 0 0 ne bl u1 := ⟨HQ.out.below hb1, But.of_below hb1, hA1, HQ.out.lt⟩
 clear hA1 hb1 HQ
 cases hn : Yg (hdT (za L k en)).text
 focus
  have HR : Hid (R = .bad 4 (hdT (za L k en)).place) := by
   rw [hR.out]; unfold yA zM; rw [ze (by rw [hn]; decide)]; rfl
  clear hR
  go_wp2_with (go_at_call 66; refine (hV.c66n HBw.out hn).mono ?_; rintro _ u2 ⟨rfl, hV2, hV2b⟩; refine zb ?_)
  refine zd ?_
  clear hV hV2b hn
  go_wp2_with (first
   | (refine zF rfl rfl (vr3 ⟨#[]⟩ 0 0) ?_)
   | (refine aL (o := { dst := some 3, .. }) rfl rfl z79 ?_; intro u3 hA3 hb3)
   | (refine sL rfl rfl hA3 (vr3 ⟨#[]⟩ 0 0) rfl rfl i79 rfl (Yq _ _ _) ?_; intro u4 hZ hb4; refine zb ?_))
 rotate_left
 focus
  have hR1 : R = (ZI (za L (k + 1) en)).bind fun t r => (Zj t r).bind fun v r => (zq [59] r).bind fun _ r => .ok ⟨(hdT (za L k en)).text, v.1, v.2⟩ r := by
   rw [hR.out]; unfold yA zM; rw [zi hn, Rs.bind_ok, zP (Km hn) rfl]
  have HR1 : Hid _ := hR1
  clear hR hR1
  go_wp2_with (go_at_call 66; refine (hV.c66 HBw.out hn).mono ?_; rintro _ u2 ⟨rfl, hV2, hV2b⟩; refine zb ?_)
  refine zd ?_
  clear hV hV2b hn
  generalize (hdT (za L k en)).text = x at *
  generalize k + 1 = k at *
  go_wp2_with (first
   | (refine zF rfl rfl (vr3 ⟨x.toArray⟩ 0 0) ?_)
   | (refine aL (o := { dst := some 3, .. }) rfl rfl z79 ?_; intro u3 hA3 hb3)
   | (refine sL rfl rfl hA3 (vr3 ⟨x.toArray⟩ 0 0) rfl rfl i79 rfl (Yq _ _ _) ?_; intro u4 hZ hb4; refine zb ?_))
 rotate_left
 all_goals
  refine zd ?_
  have hwZ : w.heap.size < u2.heap.size := hV2.own.lt
  have hV3 := hV2.below hb3
  have hV := hV3.other HBw.out hb4 hwZ
  have hgw := hV2.lt
  obtain ⟨Z, hZe⟩ : ∃ Z, u2.heap.size = Z := ⟨_, rfl⟩
  rw [hZe] at hZ hwZ ⊢
  clear hV2 hV3 hb3 hb4 hA3 hZe
 ·go_wp2_with (go_at_call 64; refine (hV.c64b (by decide) ⟨#[105, 110, 116]⟩ (by decide)).mono ?_; rintro _ x0 ⟨rfl, hX0, hX0b⟩; refine zb ?_)
  refine zd ?_
  have hZ := hX0b.at hZ (by omega)
  clear hV hX0b
  go_wp2_with (go_at_call 64; refine (hX0.c64b (by decide) ⟨#[98, 111, 111, 108]⟩ (by decide)).mono ?_; rintro _ x1 ⟨rfl, hX1, hX1b⟩; refine zb ?_)
  refine zd ?_
  have hZ := hX1b.at hZ (by omega)
  clear hX0 hX1b
  go_wp2_with (go_at_call 64; refine (hX1.c64b (by decide) ⟨#[114, 101, 97, 108]⟩ (by decide)).mono ?_; rintro _ x2 ⟨rfl, hX2, hX2b⟩; refine zb ?_)
  refine zd ?_
  have hZ := hX2b.at hZ (by omega)
  clear hX1 hX2b
  go_wp2_with (go_at_call 41; refine (hX2.c41).mono ?_; rintro _ x5 ⟨rfl, hX5, hX5b⟩; refine zb ?_)
  refine zd ?_
  have hZ := hX5b.at hZ (by omega)
  clear hX2 hX5b
  go_wp2_with (go_at_call 40; refine (hX5.c40b (by decide) 4 _).mono ?_; rintro _ x6 ⟨rfl, hV, hVb⟩; refine zb ?_)
  refine zd ?_
  have hZ := hVb.at hZ (by omega)
  clear hX5 hVb
  go_wp2_with (go_at_call 64; refine (hV.c64b (by decide) ⟨#[61]⟩ (by decide)).mono ?_; rintro _ y1 ⟨rfl, hY1, hY1b⟩; refine zb ?_)
  refine zd ?_
  have hZ := hY1b.at hZ (by omega)
  clear hV hY1b
  go_wp2_with (go_at_call 67; refine (hY1.c67b (by decide) ⟨#[59]⟩ (by decide)).mono ?_; rintro _ y2 ⟨rfl, hV, hVb⟩; refine zb ?_)
  refine zd ?_
  have hZ := hVb.at hZ (by omega)
  clear hY1 hVb
  go_wp2_with (first
   | (refine lL rfl rfl hZ rfl Tryz.underlying48 rfl i79 ?_)
   | (refine sL rfl rfl hV.own (vr3 ⟨#[]⟩ 0 0) rfl rfl i79 rfl (Yq _ _ _) ?_; intro u9 hA9 hb9))
  refine zr (zh rfl _ _ w.heap.size 48 (vr3 ⟨#[]⟩ 0 0) _ rfl hA9 Tryz.underlying48 rfl i79) rfl ?_
  show YK B g L a c en ne bl w R _ _
  exact ⟨⟨⟨#[]⟩, 0, 0⟩, _, _, _, rfl, ⟨show (0 : Nat) < 256 by decide, show (0 : Nat) < 18446744073709551616 by decide⟩, hV.q.but hb9 HBw.out, StOf.of_shape (by rw [HR.out]; exact ⟨rfl, rfl, rfl, by decide⟩), hV.bt.fresh hb9 (zj _), fun x l q => by rw [HR.out] at q; cases q⟩
 ·have C0 := hV.c64 ⟨#[105, 110, 116]⟩ (by decide)
  rw [Xb] at C0
  by_cases t0 : (hdT (za L k en)).text = [105, 110, 116]
  ·have ht' : decide ((hdT (za L k en)).text = bytes ⟨#[105, 110, 116]⟩) = true := yy t0
   rw [ht', zi rfl] at C0
   have hR2 : R = (Zj 1 (za L (k + 1) en)).bind fun v r => (zq [59] r).bind fun _ r => .ok ⟨x, v.1, v.2⟩ r := by
    rw [HR1.out]; unfold ZI; rw [zi t0, zP (by decide) t0]; rfl
   have HR : Hid _ := hR2
   clear HR1 hR2  t0 ht'
   go_wp2_with (go_at_call 64; refine C0.mono ?_; rintro _ x0 ⟨rfl, hX, hXb⟩; refine zb ?_)
   refine zd ?_
   have hZ := hXb.at hZ (by omega)
   clear C0 hV hXb
   generalize k + 1 = k at *
   go_wp2_with (refine zz rfl rfl hZ 1 (.int .u8 1) rfl rfl zgE ?_; intro x9 hZ9 hb9; refine zb ?_)
   refine zd ?_
   have hZ : At 48 x9 Z (vr3 ⟨x.toArray⟩ 1 0) := hZ9
   have hV := hX.other HBw.out hb9 hwZ
   clear hZ9 hb9 hX
   have C61 := hV.c64 ⟨#[61]⟩ (by decide)
   rw [Xb] at C61
   by_cases he : (hdT (za L k en)).text = [61]
   focus
    have he' : decide ((hdT (za L k en)).text = bytes ⟨#[61]⟩) = true := yy he
    rw [he', zi rfl] at C61
    have hI : Zj 1 (za L k en) = Zh 1 (za L (k + 1) en) := by unfold Zj; rw [zi he, zP (by decide) he]
   rotate_left
   focus
    have he' : decide ((hdT (za L k en)).text = bytes ⟨#[61]⟩) = false := zN he
    rw [he', ze (by decide)] at C61
    have hI : Zj 1 (za L k en) = .ok (1, 0) (za L k en) := by unfold Zj; rw [ze he]
   rotate_left
   all_goals
    rw [hI] at HR
    clear hI he he'
    go_wp2_with (go_at_call 64; refine C61.mono ?_; rintro _ y1 ⟨rfl, hY1, hY1b⟩; refine zb ?_)
    refine zd ?_
    have hZ := hY1b.at hZ (by omega)
    clear C61 hV hY1b
   focus
    obtain ⟨z0, z1, z2⟩ := Ja hZ
    have C102 := hY1.c102 HBw.out HOK.out HLI.out 1
    go_wp2_with (go_at_call 102; refine C102.mono ?_; rintro _ y2 ⟨vt, vb, k3, er3, pl3, rfl, hY2, hY2b, hS2, hlt, hval⟩; refine zb ?_)
    refine zd ?_
    have hZ := hY2b.at hZ (by omega)
    clear C102 hY1 hY2b z0 z1 z2
    go_wp2_with (refine yV rfl rfl hZ 1 (.int .u8 (vt : Int)) (.int .u64 (vb : Int)) rfl rfl i32 (yj _ _) ?_; intro y3 hZ3 hb3 hs3; clear hs3; refine zb ?_)
    refine zd ?_
    have hZ : At 48 y3 Z (vr3 ⟨x.toArray⟩ vt vb) := hZ3
    have hV := hY2.other HBw.out hb3 hwZ
    have hS3 := hS2.shape
    clear hZ3 hb3 hY2 hS2
    have C67 := hV.c67 _ hS3 ⟨#[59]⟩ (by decide)
   rotate_left
   focus
    have hS3 : StOf L en k 0 0 (Rs.ok () (za L k en)) := ⟨rfl, rfl, rfl⟩
    have C67 := hY1.c67 _ hS3 ⟨#[59]⟩ (by decide)
   rotate_left
   all_goals
    clear hS3
    go_wp2_with (go_at_call 67; refine C67.mono ?_; rintro _ y4 ⟨rfl, k4, er4, pl4, hV4, hV4b, hS4⟩; refine zb ?_)
    refine zd ?_
    have hZ := hV4b.at hZ (by omega)
    have hV := hV4
   ·clear C67 hV4 hV4b
    go_wp2_with (first
     | (refine lL rfl rfl hZ rfl Tryz.underlying48 rfl i79 ?_)
     | (refine sL rfl rfl hV.own (vr3 ⟨x.toArray⟩ vt vb) rfl rfl i79 rfl (Yq _ _ _) ?_; intro u9 hA9 hb9))
    refine zr (zh rfl _ _ w.heap.size 48 (vr3 ⟨x.toArray⟩ vt vb) _ rfl hA9 Tryz.underlying48 rfl i79) rfl ?_
    show YK B g L a c en ne bl w R _ _
    exact ⟨⟨⟨x.toArray⟩, vt, vb⟩, _, _, _, rfl, hlt, hV.q.but hb9 HBw.out, hS4.of (by rw [HR.out]; exact YL _ _), hV.bt.fresh hb9 (zj _), fun y l q => by rw [HR.out] at q; rw [Jb hval y l q]; rfl⟩
   ·clear C67 hV4 hV4b hY1
    go_wp2_with (first
     | (refine lL rfl rfl hZ rfl Tryz.underlying48 rfl i79 ?_)
     | (refine sL rfl rfl hV.own (vr3 ⟨x.toArray⟩ 1 0) rfl rfl i79 rfl (Yq _ _ _) ?_; intro u9 hA9 hb9))
    refine zr (zh rfl _ _ w.heap.size 48 (vr3 ⟨x.toArray⟩ 1 0) _ rfl hA9 Tryz.underlying48 rfl i79) rfl ?_
    show YK B g L a c en ne bl w R _ _
    exact ⟨⟨⟨x.toArray⟩, 1, 0⟩, _, _, _, rfl, ⟨show (1 : Nat) < 256 by decide, show (0 : Nat) < 18446744073709551616 by decide⟩, hV.q.but hb9 HBw.out, hS4.of (by rw [HR.out]; exact YL x (Rs.ok (1, 0) (za L k en))), hV.bt.fresh hb9 (zj _), fun y l q => by rw [HR.out] at q; rw [Jb (R := Rs.ok (1, 0) (za L k en)) (t := 1) (b := 0) (fun v l q => by cases q; rfl) y l q]; rfl⟩
  ·have ht' : decide ((hdT (za L k en)).text = bytes ⟨#[105, 110, 116]⟩) = false := zN t0
   rw [ht', ze (by decide)] at C0
   clear ht'
   go_wp2_with (go_at_call 64; refine C0.mono ?_; rintro _ x0 ⟨rfl, hX0, hXb⟩; refine zb ?_)
   refine zd ?_
   have hZ := hXb.at hZ (by omega)
   clear C0 hV hXb
   have hV := hX0
   clear hX0
   have C1 := hV.c64 ⟨#[98, 111, 111, 108]⟩ (by decide)
   rw [Xb] at C1
   by_cases t1 : (hdT (za L k en)).text = [98, 111, 111, 108]
   ·have ht' : decide ((hdT (za L k en)).text = bytes ⟨#[98, 111, 111, 108]⟩) = true := yy t1
    rw [ht', zi rfl] at C1
    have hR2 : R = (Zj 2 (za L (k + 1) en)).bind fun v r => (zq [59] r).bind fun _ r => .ok ⟨x, v.1, v.2⟩ r := by
     rw [HR1.out]; unfold ZI; rw [ze t0, zi t1, zP (by decide) t1]; rfl
    have HR : Hid _ := hR2
    clear HR1 hR2 t0 t1 ht'
    go_wp2_with (go_at_call 64; refine C1.mono ?_; rintro _ x1 ⟨rfl, hX, hXb⟩; refine zb ?_)
    refine zd ?_
    have hZ := hXb.at hZ (by omega)
    clear C1 hV hXb
    generalize k + 1 = k at *
    go_wp2_with (refine zz rfl rfl hZ 1 (.int .u8 2) rfl rfl zgE ?_; intro x9 hZ9 hb9; refine zb ?_)
    refine zd ?_
    have hZ : At 48 x9 Z (vr3 ⟨x.toArray⟩ 2 0) := hZ9
    have hV := hX.other HBw.out hb9 hwZ
    clear hZ9 hb9 hX
    have C61 := hV.c64 ⟨#[61]⟩ (by decide)
    rw [Xb] at C61
    by_cases he : (hdT (za L k en)).text = [61]
    focus
     have he' : decide ((hdT (za L k en)).text = bytes ⟨#[61]⟩) = true := yy he
     rw [he', zi rfl] at C61
     have hI : Zj 2 (za L k en) = Zh 2 (za L (k + 1) en) := by unfold Zj; rw [zi he, zP (by decide) he]
    rotate_left
    focus
     have he' : decide ((hdT (za L k en)).text = bytes ⟨#[61]⟩) = false := zN he
     rw [he', ze (by decide)] at C61
     have hI : Zj 2 (za L k en) = .ok (2, 0) (za L k en) := by unfold Zj; rw [ze he]
    rotate_left
    all_goals
     rw [hI] at HR
     clear hI he he'
     go_wp2_with (go_at_call 64; refine C61.mono ?_; rintro _ y1 ⟨rfl, hY1, hY1b⟩; refine zb ?_)
     refine zd ?_
     have hZ := hY1b.at hZ (by omega)
     clear C61 hV hY1b
    focus
     obtain ⟨z0, z1, z2⟩ := Ja hZ
     have C102 := hY1.c102 HBw.out HOK.out HLI.out 2
     go_wp2_with (go_at_call 102; refine C102.mono ?_; rintro _ y2 ⟨vt, vb, k3, er3, pl3, rfl, hY2, hY2b, hS2, hlt, hval⟩; refine zb ?_)
     refine zd ?_
     have hZ := hY2b.at hZ (by omega)
     clear C102 hY1 hY2b z0 z1 z2
     go_wp2_with (refine yV rfl rfl hZ 1 (.int .u8 (vt : Int)) (.int .u64 (vb : Int)) rfl rfl i32 (yj _ _) ?_; intro y3 hZ3 hb3 hs3; clear hs3; refine zb ?_)
     refine zd ?_
     have hZ : At 48 y3 Z (vr3 ⟨x.toArray⟩ vt vb) := hZ3
     have hV := hY2.other HBw.out hb3 hwZ
     have hS3 := hS2.shape
     clear hZ3 hb3 hY2 hS2
     have C67 := hV.c67 _ hS3 ⟨#[59]⟩ (by decide)
    rotate_left
    focus
     have hS3 : StOf L en k 0 0 (Rs.ok () (za L k en)) := ⟨rfl, rfl, rfl⟩
     have C67 := hY1.c67 _ hS3 ⟨#[59]⟩ (by decide)
    rotate_left
    all_goals
     clear hS3
     go_wp2_with (go_at_call 67; refine C67.mono ?_; rintro _ y4 ⟨rfl, k4, er4, pl4, hV4, hV4b, hS4⟩; refine zb ?_)
     refine zd ?_
     have hZ := hV4b.at hZ (by omega)
     have hV := hV4
    ·clear C67 hV4 hV4b
     go_wp2_with (first
      | (refine lL rfl rfl hZ rfl Tryz.underlying48 rfl i79 ?_)
      | (refine sL rfl rfl hV.own (vr3 ⟨x.toArray⟩ vt vb) rfl rfl i79 rfl (Yq _ _ _) ?_; intro u9 hA9 hb9))
     refine zr (zh rfl _ _ w.heap.size 48 (vr3 ⟨x.toArray⟩ vt vb) _ rfl hA9 Tryz.underlying48 rfl i79) rfl ?_
     show YK B g L a c en ne bl w R _ _
     exact ⟨⟨⟨x.toArray⟩, vt, vb⟩, _, _, _, rfl, hlt, hV.q.but hb9 HBw.out, hS4.of (by rw [HR.out]; exact YL _ _), hV.bt.fresh hb9 (zj _), fun y l q => by rw [HR.out] at q; rw [Jb hval y l q]; rfl⟩
    ·clear C67 hV4 hV4b hY1
     go_wp2_with (first
      | (refine lL rfl rfl hZ rfl Tryz.underlying48 rfl i79 ?_)
      | (refine sL rfl rfl hV.own (vr3 ⟨x.toArray⟩ 2 0) rfl rfl i79 rfl (Yq _ _ _) ?_; intro u9 hA9 hb9))
     refine zr (zh rfl _ _ w.heap.size 48 (vr3 ⟨x.toArray⟩ 2 0) _ rfl hA9 Tryz.underlying48 rfl i79) rfl ?_
     show YK B g L a c en ne bl w R _ _
     exact ⟨⟨⟨x.toArray⟩, 2, 0⟩, _, _, _, rfl, ⟨show (2 : Nat) < 256 by decide, show (0 : Nat) < 18446744073709551616 by decide⟩, hV.q.but hb9 HBw.out, hS4.of (by rw [HR.out]; exact YL x (Rs.ok (2, 0) (za L k en))), hV.bt.fresh hb9 (zj _), fun y l q => by rw [HR.out] at q; rw [Jb (R := Rs.ok (2, 0) (za L k en)) (t := 2) (b := 0) (fun v l q => by cases q; rfl) y l q]; rfl⟩
   ·have ht' : decide ((hdT (za L k en)).text = bytes ⟨#[98, 111, 111, 108]⟩) = false := zN t1
    rw [ht', ze (by decide)] at C1
    clear ht'
    go_wp2_with (go_at_call 64; refine C1.mono ?_; rintro _ x1 ⟨rfl, hX1, hXb⟩; refine zb ?_)
    refine zd ?_
    have hZ := hXb.at hZ (by omega)
    clear C1 hV hXb
    have hV := hX1
    clear hX1
    have C2 := hV.c64 ⟨#[114, 101, 97, 108]⟩ (by decide)
    rw [Xb] at C2
    by_cases t2 : (hdT (za L k en)).text = [114, 101, 97, 108]
    ·have ht' : decide ((hdT (za L k en)).text = bytes ⟨#[114, 101, 97, 108]⟩) = true := yy t2
     rw [ht', zi rfl] at C2
     have hR2 : R = (Zj 3 (za L (k + 1) en)).bind fun v r => (zq [59] r).bind fun _ r => .ok ⟨x, v.1, v.2⟩ r := by
      rw [HR1.out]; unfold ZI; rw [ze t0, ze t1, zi t2, zP (by decide) t2]; rfl
     have HR : Hid _ := hR2
     clear HR1 hR2 t0 t1 t2 ht'
     go_wp2_with (go_at_call 64; refine C2.mono ?_; rintro _ x2 ⟨rfl, hX, hXb⟩; refine zb ?_)
     refine zd ?_
     have hZ := hXb.at hZ (by omega)
     clear C2 hV hXb
     generalize k + 1 = k at *
     go_wp2_with (refine zz rfl rfl hZ 1 (.int .u8 3) rfl rfl zgE ?_; intro x9 hZ9 hb9; refine zb ?_)
     refine zd ?_
     have hZ : At 48 x9 Z (vr3 ⟨x.toArray⟩ 3 0) := hZ9
     have hV := hX.other HBw.out hb9 hwZ
     clear hZ9 hb9 hX
     have C61 := hV.c64 ⟨#[61]⟩ (by decide)
     rw [Xb] at C61
     by_cases he : (hdT (za L k en)).text = [61]
     focus
      have he' : decide ((hdT (za L k en)).text = bytes ⟨#[61]⟩) = true := yy he
      rw [he', zi rfl] at C61
      have hI : Zj 3 (za L k en) = Zh 3 (za L (k + 1) en) := by unfold Zj; rw [zi he, zP (by decide) he]
     rotate_left
     focus
      have he' : decide ((hdT (za L k en)).text = bytes ⟨#[61]⟩) = false := zN he
      rw [he', ze (by decide)] at C61
      have hI : Zj 3 (za L k en) = .ok (3, 0) (za L k en) := by unfold Zj; rw [ze he]
     rotate_left
     all_goals
      rw [hI] at HR
      clear hI he he'
      go_wp2_with (go_at_call 64; refine C61.mono ?_; rintro _ y1 ⟨rfl, hY1, hY1b⟩; refine zb ?_)
      refine zd ?_
      have hZ := hY1b.at hZ (by omega)
      clear C61 hV hY1b
     focus
      obtain ⟨z0, z1, z2⟩ := Ja hZ
      have C102 := hY1.c102 HBw.out HOK.out HLI.out 3
      go_wp2_with (go_at_call 102; refine C102.mono ?_; rintro _ y2 ⟨vt, vb, k3, er3, pl3, rfl, hY2, hY2b, hS2, hlt, hval⟩; refine zb ?_)
      refine zd ?_
      have hZ := hY2b.at hZ (by omega)
      clear C102 hY1 hY2b z0 z1 z2
      go_wp2_with (refine yV rfl rfl hZ 1 (.int .u8 (vt : Int)) (.int .u64 (vb : Int)) rfl rfl i32 (yj _ _) ?_; intro y3 hZ3 hb3 hs3; clear hs3; refine zb ?_)
      refine zd ?_
      have hZ : At 48 y3 Z (vr3 ⟨x.toArray⟩ vt vb) := hZ3
      have hV := hY2.other HBw.out hb3 hwZ
      have hS3 := hS2.shape
      clear hZ3 hb3 hY2 hS2
      have C67 := hV.c67 _ hS3 ⟨#[59]⟩ (by decide)
     rotate_left
     focus
      have hS3 : StOf L en k 0 0 (Rs.ok () (za L k en)) := ⟨rfl, rfl, rfl⟩
      have C67 := hY1.c67 _ hS3 ⟨#[59]⟩ (by decide)
     rotate_left
     all_goals
      clear hS3
      go_wp2_with (go_at_call 67; refine C67.mono ?_; rintro _ y4 ⟨rfl, k4, er4, pl4, hV4, hV4b, hS4⟩; refine zb ?_)
      refine zd ?_
      have hZ := hV4b.at hZ (by omega)
      have hV := hV4
     ·clear C67 hV4 hV4b
      go_wp2_with (first
       | (refine lL rfl rfl hZ rfl Tryz.underlying48 rfl i79 ?_)
       | (refine sL rfl rfl hV.own (vr3 ⟨x.toArray⟩ vt vb) rfl rfl i79 rfl (Yq _ _ _) ?_; intro u9 hA9 hb9))
      refine zr (zh rfl _ _ w.heap.size 48 (vr3 ⟨x.toArray⟩ vt vb) _ rfl hA9 Tryz.underlying48 rfl i79) rfl ?_
      show YK B g L a c en ne bl w R _ _
      exact ⟨⟨⟨x.toArray⟩, vt, vb⟩, _, _, _, rfl, hlt, hV.q.but hb9 HBw.out, hS4.of (by rw [HR.out]; exact YL _ _), hV.bt.fresh hb9 (zj _), fun y l q => by rw [HR.out] at q; rw [Jb hval y l q]; rfl⟩
     ·clear C67 hV4 hV4b hY1
      go_wp2_with (first
       | (refine lL rfl rfl hZ rfl Tryz.underlying48 rfl i79 ?_)
       | (refine sL rfl rfl hV.own (vr3 ⟨x.toArray⟩ 3 0) rfl rfl i79 rfl (Yq _ _ _) ?_; intro u9 hA9 hb9))
      refine zr (zh rfl _ _ w.heap.size 48 (vr3 ⟨x.toArray⟩ 3 0) _ rfl hA9 Tryz.underlying48 rfl i79) rfl ?_
      show YK B g L a c en ne bl w R _ _
      exact ⟨⟨⟨x.toArray⟩, 3, 0⟩, _, _, _, rfl, ⟨show (3 : Nat) < 256 by decide, show (0 : Nat) < 18446744073709551616 by decide⟩, hV.q.but hb9 HBw.out, hS4.of (by rw [HR.out]; exact YL x (Rs.ok (3, 0) (za L k en))), hV.bt.fresh hb9 (zj _), fun y l q => by rw [HR.out] at q; rw [Jb (R := Rs.ok (3, 0) (za L k en)) (t := 3) (b := 0) (fun v l q => by cases q; rfl) y l q]; rfl⟩
    ·have ht' : decide ((hdT (za L k en)).text = bytes ⟨#[114, 101, 97, 108]⟩) = false := zN t2
     rw [ht', ze (by decide)] at C2
     clear ht'
     go_wp2_with (go_at_call 64; refine C2.mono ?_; rintro _ x2 ⟨rfl, hX2, hXb⟩; refine zb ?_)
     refine zd ?_
     have hZ := hXb.at hZ (by omega)
     clear C2 hV hXb
     have hV := hX2
     clear hX2
     have HR : Hid (R = .bad 4 (hdT (za L k en)).place) := by
      rw [HR1.out]; unfold ZI; rw [ze t0, ze t1, ze t2]; rfl
     clear HR1 t0 t1 t2
     go_wp2_with (go_at_call 41; refine (hV.c41).mono ?_; rintro _ x5 ⟨rfl, hX5, hX5b⟩; refine zb ?_)
     refine zd ?_
     have hZ := hX5b.at hZ (by omega)
     clear hV hX5b
     go_wp2_with (go_at_call 40; refine (hX5.c40 4 _).mono ?_; rintro _ x6 ⟨rfl, hV, hVb⟩; refine zb ?_)
     refine zd ?_
     have hZ := hVb.at hZ (by omega)
     clear hX5 hVb
     go_wp2_with (go_at_call 64; refine (hV.c64b (by decide) ⟨#[61]⟩ (by decide)).mono ?_; rintro _ y1 ⟨rfl, hY1, hY1b⟩; refine zb ?_)
     refine zd ?_
     have hZ := hY1b.at hZ (by omega)
     clear hV hY1b
     go_wp2_with (go_at_call 67; refine (hY1.c67b (by decide) ⟨#[59]⟩ (by decide)).mono ?_; rintro _ y2 ⟨rfl, hV, hVb⟩; refine zb ?_)
     refine zd ?_
     have hZ := hVb.at hZ (by omega)
     clear hY1 hVb
     go_wp2_with (first
      | (refine lL rfl rfl hZ rfl Tryz.underlying48 rfl i79 ?_)
      | (refine sL rfl rfl hV.own (vr3 ⟨x.toArray⟩ 0 0) rfl rfl i79 rfl (Yq _ _ _) ?_; intro u9 hA9 hb9))
     refine zr (zh rfl _ _ w.heap.size 48 (vr3 ⟨x.toArray⟩ 0 0) _ rfl hA9 Tryz.underlying48 rfl i79) rfl ?_
     show YK B g L a c en ne bl w R _ _
     exact ⟨⟨⟨x.toArray⟩, 0, 0⟩, _, _, _, rfl, ⟨show (0 : Nat) < 256 by decide, show (0 : Nat) < 18446744073709551616 by decide⟩, hV.q.but hb9 HBw.out, StOf.of_shape (by rw [HR.out]; exact ⟨rfl, rfl, rfl, by decide⟩), hV.bt.fresh hb9 (zj _), fun x l q => by rw [HR.out] at q; cases q⟩
