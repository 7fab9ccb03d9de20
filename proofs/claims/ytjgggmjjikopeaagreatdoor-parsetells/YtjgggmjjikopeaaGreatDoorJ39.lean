/- J -/
import Derived.Test.YtjgggmjjikopeaaGreatDoorJ38
set_option linter.unusedVariables false
set_option maxRecDepth 100000
open Go.RowKit
namespace Go.Proofs.YtjgggmjjikopeaaGreatDoor
def BlG (f d : Nat) : Prop := ∀ (S : Rs Unit) (B g : Nat) (L : List Tk) (a : Option Addr) (c k en er pl ne : Nat) (u : World), (∀ t ∈ L, Zd t) -> L.length <= 1048575 -> StOf L en k er pl S -> (∀ l, S = .ok () l -> 4 * l.length + 4 <= f) -> Qd B u g L a c k en er pl ne d -> B <= u.heap.size ->
  Calls Tryz.prog 134 #[.pointer (some ⟨g, 0, none⟩)] u fun r u' => ∃ (ys : List ST) (aa : Option Addr) (cc k' er' pl' ne' : Nat), r = .returned (.slice aa ys.length cc) /\ Tl u.heap.size u' aa cc ys /\ But g u u' /\ Qd B u' g L a c k' en er' pl' ne' d /\ StOf L en k' er' pl' (S.andThen fun _ l => blockR f d l) /\ ∀ ss l, (S.andThen fun _ l => blockR f d l) = .ok ss l -> ys.map ST.st = ss
theorem Vs.c134 {B : Nat} {w : World} {T : TypeId} {cs : List Value} {g : Nat} {L : List Tk} {a : Option Addr} {c k en er pl ne d f : Nat} {u : World} (h : Vs B w T cs g L a c k en er pl ne d u) (HB : BlG f d) (hBw : B <= w.heap.size) (hok : ∀ t ∈ L, Zd t) (hL : L.length <= 1048575) (S : Rs Unit) (hS : StOf L en k er pl S) (hf : ∀ l, S = .ok () l -> 4 * l.length + 4 <= f) :
  Calls Tryz.prog 134 #[.pointer (some ⟨g, 0, none⟩)] u fun r u' => ∃ (ys : List ST) (aa : Option Addr) (cc k' er' pl' ne' : Nat), r = .returned (.slice aa ys.length cc) /\ Tl u.heap.size u' aa cc ys /\ Vs B w T cs g L a c k' en er' pl' ne' d u' /\ But g u u' /\ StOf L en k' er' pl' (S.andThen fun _ l => blockR f d l) /\ ∀ ss l, (S.andThen fun _ l => blockR f d l) = .ok ss l -> ys.map ST.st = ss := by
 refine (HB S B g L a c k en er pl ne u hok hL hS hf h.q (zQ hBw h.bt.size)).mono ?_
 rintro r u' ⟨ys, aa, cc, k', er', pl', ne', rfl, hT, hb, hq, hS', hy⟩
 exact ⟨ys, aa, cc, k', er', pl', ne', rfl, hT, h.step hq hb, hb, hS', hy⟩
def YW (B g : Nat) (L : List Tk) (a : Option Addr) (c en d : Nat) (w : World) (R : Rs St) (r : Ending) (w' : World) : Prop :=
 ∃ (y : ST) (k er pl ne : Nat), r = .returned (.agg y.cells.toArray) /\ Ts w.heap.size w' y /\ But g w w' /\ Qd B w' g L a c k en er pl ne d /\ StOf L en k er pl R /\ ∀ s l, R = .ok s l -> y.st = s
theorem jV (k : Int) (nm : ByteArray) (e : ET) (s1 s2 : Value) : (st9 k nm e.cells s1 s2).length = 9 := by cases e; rfl
theorem qX (k : Int) (nm : ByteArray) (e : ET) (s1 s2 v : Value) : (st9 k nm e.cells s1 s2).set 7 v = st9 k nm e.cells v s2 := by cases e; rfl
theorem zdY (k : Int) (nm : ByteArray) (e : ET) (s1 s2 v : Value) : (st9 k nm e.cells s1 s2).set 8 v = st9 k nm e.cells s1 v := by cases e; rfl
theorem zgD : (Tryz.prog.info? 49).map (·.size) = some 1 := by kernel_rfl
theorem i9u : (Tryz.prog.info? 9).map (·.size) = some 1 := by kernel_rfl
theorem zaa {α : Type} {R : Rs α} {l : List Tk} (h : R.shape = .ok () l) : ∃ x, R = .ok x l := by
 cases R with
 | bad e p => cases h
 | ok x r => cases h; exact ⟨x, rfl⟩
theorem zfK {f d : Nat} {l r : List Tk} {b : List St} (h : ebR f d l = .ok b r) : r.length < l.length := by
 unfold ebR at h
 have h1 := Zu l
 cases he : yd l with
 | bad e p => rw [he] at h; cases h
 | ok e r1 =>
  rw [he] at h h1
  have h : blockR f d r1 = .ok b r := h
  have h1 : r1.length < l.length := h1
  have h2 := (Xf f d r1).2.2.1
  rw [h] at h2
  have h2 : r.length < r1.length := h2
  omega
set_option maxHeartbeats 12800000 in
theorem zbi (f d : Nat) (HB1 : BlG f d) (HB2 : ∀ f', f = f' + 1 -> BlG f' d) {B : Nat} (g : Nat) (L : List Tk) (a : Option Addr) (c k en ne : Nat) (hok : ∀ t ∈ L, Zd t) (hL : L.length <= 1048575) (w : World) (hf : 4 * (za L k en).length + 3 <= f + 1) (h : Qd B w g L a c k en 0 0 ne d) (hBw : B <= w.heap.size) :
  Calls Tryz.prog 104 #[.pointer (some ⟨g, 0, none⟩)] w (YW B g L a c en d w (Yh (f + 1) d (za L k en))) := by
 have HOK : Hid (∀ t ∈ L, Zd t) := hok
 have HLL : Hid (L.length <= 1048575) := hL
 have HBw : Hid (B <= w.heap.size) := hBw
 have HQ : Hid (Qd B w g L a c k en 0 0 ne d) := h
 have HF : Hid (4 * (za L k en).length + 3 <= f + 1) := hf
 have HB : Hid (BlG f d /\ ∀ f', f = f' + 1 -> BlG f' d) := ⟨HB1, HB2⟩
 clear hok hBw h hf HB1 HB2 hL
 obtain ⟨R, hR⟩ : ∃ R, Hid (R = Yh (f + 1) d (za L k en)) := ⟨_, (rfl : Yh (f + 1) d (za L k en) = _)⟩
 rw [<- hR.out]
 unfold Yh at hR
 go_enter Tryz.func104, Tryz.ntmps104
 go_wp2_with (first
  | (refine aL (o := { dst := some 2, .. }) rfl rfl z51 ?_; intro u1 hA1 hb1; refine zb ?_))
 refine zd ?_
 have hV0 : Vs B w 51 (ST.cells (.mk 0 ⟨#[]⟩ noX none 0 [] none 0 [])) g L a c k en 0 0 ne d u1 := ⟨HQ.out.below hb1, But.of_below hb1, hA1, HQ.out.lt⟩
 clear hA1 hb1 HQ
 go_wp2_with (first
  | (refine zF rfl rfl (st9 0 ⟨#[]⟩ noX.cells (.slice none 0 0) (.slice none 0 0)) ?_)
  | (refine aL (o := { dst := some 3, .. }) rfl rfl z51 ?_; intro u3 hA3 hb3)
  | (refine sL rfl rfl hA3 (st9 0 ⟨#[]⟩ noX.cells (.slice none 0 0) (.slice none 0 0)) rfl rfl (i51 (.mk 0 ⟨#[]⟩ noX none 0 [] none 0 [])) rfl (ST.one (.mk 0 ⟨#[]⟩ noX none 0 [] none 0 [])) ?_; intro u4 hZ hb4; refine zb ?_))
 refine zd ?_
 have hwZ : w.heap.size < u1.heap.size := hV0.own.lt
 have hV := (hV0.below hb3).other HBw.out hb4 hwZ
 have hgw := hV0.lt
 obtain ⟨Z, hZe⟩ : ∃ Z, u1.heap.size = Z := ⟨_, rfl⟩
 rw [hZe] at hZ hwZ ⊢
 clear hV0 hb3 hb4 hA3 hZe
 have C0 := hV.c64 ⟨#[105, 102]⟩ (by decide)
 rw [Xb] at C0
 by_cases t0 : (hdT (za L k en)).text = [105, 102]
 ·have ht' : decide ((hdT (za L k en)).text = bytes ⟨#[105, 102]⟩) = true := yy t0
  rw [ht', zi rfl] at C0
  have htl := zP (by decide) t0
  rw [zi t0] at hR
  go_wp2_with (go_at_call 64; refine C0.mono ?_; rintro _ x1 ⟨rfl, hV2, hbC⟩; refine zb ?_)
  refine zd ?_
  have hZ := hbC.at hZ (by omega)
  clear C0 hV hbC ht'
  have hV := hV2
  clear hV2
  have HR : Hid (R = ((yd (za L (k + 1) en)).bind fun e r => (blockR f d r).bind fun b r => (elseR f d r).bind fun c r => (.ok (.mk 5 [] e b c) r : Rs St))) := by
   have q := hR.out
   rw [htl] at q
   exact q
  have hF : 4 * (za L (k + 1) en).length + 6 <= f := by have := yl (l := za L k en) (by rw [t0]; decide); rw [htl] at this; have := HF.out; omega
  have HF1 : Hid (4 * (za L (k + 1) en).length + 6 <= f) := hF
  clear hR htl HF t0 hF
  go_wp2_with (refine zz rfl rfl hZ 0 (.int .i64 5) rfl rfl i3 ?_; intro x2 hZ9 hbS; refine zb ?_)
  refine zd ?_
  have hZ : At 51 x2 Z (st9 5 ⟨#[]⟩ noX.cells (.slice none 0 0) (.slice none 0 0)) := hZ9
  have hV := hV.other HBw.out hbS hwZ
  clear hZ9 hbS
  have hS0 : StOf L en (k + 1) 0 0 (Rs.ok () (za L (k + 1) en)) := ⟨rfl, rfl, rfl⟩
  have C39 := hV.c39 HBw.out HOK.out _ hS0
  have hA1 : ∃ A1, A1 = w.heap.size := ⟨_, rfl⟩
  go_wp2_with (go_at_call 39; refine C39.mono ?_; rintro _ x3 ⟨y, k3, er3, pl3, ne3, rfl, hT, hV2, hbC, hS3, hye⟩; refine zb ?_)
  refine zd ?_
  clear C39 hA1
  have hZA := hZ.lt
  have hZ := hbC.at hZ (by omega)
  clear hbC hV
  have hV := hV2
  clear hV2
  go_wp2_with (refine ZW rfl (.tmp 20) (.tmp 19) rfl Z y rfl rfl 5 ⟨#[]⟩ noX (.slice none 0 0) (.slice none 0 0) hZ ?_; intro x4 hZ9 hbS hs9; clear hs9; refine zb ?_)
  refine zd ?_
  have hZ : At 51 x4 Z (st9 5 ⟨#[]⟩ y.cells (.slice none 0 0) (.slice none 0 0)) := hZ9
  have hV := hV.other HBw.out hbS hwZ
  have hT := hT.but hbS (.inl (by omega))
  clear hZ9 hbS
  have hfb : ∀ l, (yd (za L (k + 1) en)).shape = .ok () l -> 4 * l.length + 4 <= f := by
   intro l q
   obtain ⟨e, q⟩ := zaa q
   have h1 := Zu (za L (k + 1) en)
   rw [q] at h1
   have h1 : l.length < (za L (k + 1) en).length := h1
   have := HF1.out
   omega
  have C134 := hV.c134 HB.out.1 HBw.out HOK.out HLL.out (yd (za L (k + 1) en)).shape hS3.shape hfb
  go_wp2_with (go_at_call 134; refine C134.mono ?_; rintro _ x5 ⟨ys1, aa1, cc1, k4, er4, pl4, ne4, rfl, hL1, hV2, hbC, hS4, hys⟩; refine zb ?_)
  refine zd ?_
  have hZB1 := hZ.lt
  clear C134 hV
  have hV := hV2
  clear hV2
  have hZ := hbC.at hZ (by omega)
  have hT := hT.but hbC (.inl (by omega))
  clear hbC
  obtain ⟨ln1, hln1⟩ : ∃ q, Hid (q = ys1.length) := ⟨_, (rfl : ys1.length = _)⟩
  rw [<- hln1.out]
  go_wp2_with (refine ZQ (P := Tryz.prog) rfl 49 (.tmp 23) (.tmp 22) rfl Z 7 (.slice aa1 ln1 cc1) rfl rfl 51 _ hZ (by rw [jV]; decide) zgD rfl rfl ?_; intro x6 hZ9 hbS hs9; clear hs9; refine zb ?_)
  refine zd ?_
  have hZ : At 51 x6 Z (st9 5 ⟨#[]⟩ y.cells (.slice aa1 ln1 cc1) (.slice none 0 0)) := (by rw [qX] at hZ9; exact hZ9)
  have hV := hV.other HBw.out hbS hwZ
  have hT := hT.but hbS (.inl (by omega))
  have hL1 := hL1.but hbS (.inl (by omega))
  clear hZ9 hbS
  have hE4 : StOf L en k4 er4 pl4 (ebR f d (za L (k + 1) en)) := hS4
  have hys1 : ∀ ss l, ebR f d (za L (k + 1) en) = .ok ss l -> ys1.map ST.st = ss := hys
  clear hS4 hys hfb hS3 hS0
  rw [hln1.out] at hZ
  cases hE : ebR f d (za L (k + 1) en) with
  | bad e p =>
   rw [hE] at hE4
   obtain ⟨rfl, rfl, rfl, he⟩ := hE4
   have C64 := hV.c64b he ⟨#[101, 108, 115, 101]⟩ (by decide)
   go_wp2_with (go_at_call 64; refine C64.mono ?_; rintro _ x7 ⟨rfl, hV2, hbC⟩; refine zb ?_)
   refine zd ?_
   have hZ := hbC.at hZ (by omega)
   have hT := hT.but hbC (.inl (by omega))
   have hL1 := hL1.but hbC (.inl (by omega))
   clear C64 hV hbC
   have hV := hV2
   clear hV2
   go_wp2_with (first
    | (refine lL rfl rfl hZ rfl Tryz.underlying51 rfl (i51 (.mk 5 ⟨#[]⟩ y aa1 cc1 ys1 none 0 [])) ?_)
    | (refine sL rfl rfl hV.own (st9 5 ⟨#[]⟩ y.cells (.slice aa1 ys1.length cc1) (.slice none 0 0)) rfl rfl (i51 (.mk 5 ⟨#[]⟩ y aa1 cc1 ys1 none 0 [])) (Yw (.mk 0 ⟨#[]⟩ noX none 0 [] none 0 []) (.mk 5 ⟨#[]⟩ y aa1 cc1 ys1 none 0 [])) (ST.one (.mk 5 ⟨#[]⟩ y aa1 cc1 ys1 none 0 [])) ?_; intro u9 hA9 hb9))
   refine zr (zh rfl _ _ w.heap.size 51 (st9 5 ⟨#[]⟩ y.cells (.slice aa1 ys1.length cc1) (.slice none 0 0)) _ rfl hA9 Tryz.underlying51 rfl (i51 (.mk 5 ⟨#[]⟩ y aa1 cc1 ys1 none 0 []))) rfl ?_
   show YW B g L a c en d w R _ _
   exact ⟨(.mk 5 ⟨#[]⟩ y aa1 cc1 ys1 none 0 []), _, _, _, _, rfl, XB 5 ⟨by decide, by decide⟩ ⟨#[]⟩ ((hT.but hb9 (.inl (by omega))).low (by omega)) ((hL1.but hb9 (.inl (by omega))).low (by omega)) (Tl.nil _ _), hV.bt.fresh hb9 (zj _), hV.q.but hb9 HBw.out, StOf.of (S := .bad er4 pl4) ⟨rfl, rfl, rfl, he⟩ (by rw [HR.out, Kx]; unfold qy; rw [hE]; rfl), fun s l q => by rw [HR.out] at q; obtain ⟨_, _, b, r2, _, -, hb, -⟩ := zeu q; rw [hE] at hb; cases hb⟩
  | ok b1 r1 =>
   rw [hE] at hE4
   obtain ⟨rfl, rfl, hk4⟩ := hE4
   have hl4 := zfK hE
   have C64 := hV.c64 ⟨#[101, 108, 115, 101]⟩ (by decide)
   rw [Xb] at C64
   obtain ⟨f1, hf1⟩ : ∃ f1, f = f1 + 1 := ⟨f - 1, by have := HF1.out; omega⟩
   by_cases te : (hdT (za L k4 en)).text = [101, 108, 115, 101]
   ·have ht' : decide ((hdT (za L k4 en)).text = bytes ⟨#[101, 108, 115, 101]⟩) = true := yy te
    rw [ht', zi rfl] at C64
    have htl := zP (by decide) te
    have htn := yl (l := za L k4 en) (by rw [te]; decide)
    rw [htl] at htn
    have hEl : qy f d (za L (k + 1) en) = blockR f1 d (za L (k4 + 1) en) := by unfold qy; rw [hE, hf1]; show elseR (f1 + 1) d r1 = _; rw [<- hk4]; unfold elseR; rw [zi te, htl]
    have hfe : ∀ l, (Rs.ok () (za L (k4 + 1) en)) = .ok () l -> 4 * l.length + 4 <= f1 := by
     intro l q
     cases q
     have := HF1.out
     rw [hk4] at htn
     omega
    go_wp2_with (go_at_call 64; refine C64.mono ?_; rintro _ x8 ⟨rfl, hV2, hbC⟩; refine zb ?_)
    refine zd ?_
    have hZ := hbC.at hZ (by omega)
    have hT := hT.but hbC (.inl (by omega))
    have hL1 := hL1.but hbC (.inl (by omega))
    clear C64 hV hbC ht' te htl htn
    have hV := hV2
    clear hV2
    have hS0 : StOf L en (k4 + 1) 0 0 (Rs.ok () (za L (k4 + 1) en)) := ⟨rfl, rfl, rfl⟩
    have HFF : Hid (f = f1 + 1) := hf1
    have HKK : Hid (za L k4 en = r1) := hk4
    clear hf1 hk4 hl4
    have C134 := hV.c134 (HB.out.2 f1 HFF.out) HBw.out HOK.out HLL.out _ hS0 hfe
    go_wp2_with (go_at_call 134; refine C134.mono ?_; rintro _ x10 ⟨ys2, aa2, cc2, k7, er7, pl7, ne7, rfl, hL2, hV2, hbC, hS6, hys2⟩; refine zb ?_)
    refine zd ?_
    have hZB2 := hZ.lt
    clear C134 hV
    have hV := hV2
    clear hV2
    have hZ := hbC.at hZ (by omega)
    have hT := hT.but hbC (.inl (by omega))
    have hL1 := hL1.but hbC (.inl (by omega))
    clear hbC
    obtain ⟨ln2, hln2⟩ : ∃ q, Hid (q = ys2.length) := ⟨_, (rfl : ys2.length = _)⟩
    rw [<- hln2.out]
    go_wp2_with (refine ZQ (P := Tryz.prog) rfl 49 (.tmp 28) (.tmp 27) rfl Z 8 (.slice aa2 ln2 cc2) rfl rfl 51 _ hZ (by rw [jV]; decide) zgD rfl rfl ?_; intro x11 hZ9 hbS hs9; clear hs9; refine zb ?_)
    refine zd ?_
    have hZ : At 51 x11 Z (st9 5 ⟨#[]⟩ y.cells (.slice aa1 ys1.length cc1) (.slice aa2 ln2 cc2)) := (by rw [zdY] at hZ9; exact hZ9)
    have hV := hV.other HBw.out hbS hwZ
    have hT := hT.but hbS (.inl (by omega))
    have hL1 := hL1.but hbS (.inl (by omega))
    have hL2 := hL2.but hbS (.inl (by omega))
    clear hZ9 hbS
    rw [hln2.out] at hZ
    go_wp2_with (first
     | (refine lL rfl rfl hZ rfl Tryz.underlying51 rfl (i51 (.mk 5 ⟨#[]⟩ y aa1 cc1 ys1 aa2 cc2 ys2)) ?_)
     | (refine sL rfl rfl hV.own (st9 5 ⟨#[]⟩ y.cells (.slice aa1 ys1.length cc1) (.slice aa2 ys2.length cc2)) rfl rfl (i51 (.mk 5 ⟨#[]⟩ y aa1 cc1 ys1 aa2 cc2 ys2)) (Yw (.mk 0 ⟨#[]⟩ noX none 0 [] none 0 []) (.mk 5 ⟨#[]⟩ y aa1 cc1 ys1 aa2 cc2 ys2)) (ST.one (.mk 5 ⟨#[]⟩ y aa1 cc1 ys1 aa2 cc2 ys2)) ?_; intro u9 hA9 hb9))
    refine zr (zh rfl _ _ w.heap.size 51 (st9 5 ⟨#[]⟩ y.cells (.slice aa1 ys1.length cc1) (.slice aa2 ys2.length cc2)) _ rfl hA9 Tryz.underlying51 rfl (i51 (.mk 5 ⟨#[]⟩ y aa1 cc1 ys1 aa2 cc2 ys2))) rfl ?_
    show YW B g L a c en d w R _ _
    exact ⟨(.mk 5 ⟨#[]⟩ y aa1 cc1 ys1 aa2 cc2 ys2), _, _, _, _, rfl, XB 5 ⟨by decide, by decide⟩ ⟨#[]⟩ ((hT.but hb9 (.inl (by omega))).low (by omega)) ((hL1.but hb9 (.inl (by omega))).low (by omega)) ((hL2.but hb9 (.inl (by omega))).low (by omega)), hV.bt.fresh hb9 (zj _), hV.q.but hb9 HBw.out, hS6.shape.of (by rw [HR.out, Kx, hEl]; rfl), fun s l q => by rw [HR.out] at q; obtain ⟨e, r, b, r2, c2, he, hb, hc, rfl⟩ := zeu q; rw [hEl] at hc; unfold ST.st; rw [hye e r he, ST.sts_eq, ST.sts_eq, hys1 b r2 hb, hys2 c2 l hc]; try rfl⟩
   ·have ht' : decide ((hdT (za L k4 en)).text = bytes ⟨#[101, 108, 115, 101]⟩) = false := zN te
    rw [ht', ze (by decide)] at C64
    have hEl : qy f d (za L (k + 1) en) = .ok [] (za L k4 en) := by unfold qy; rw [hE, hf1]; show elseR (f1 + 1) d r1 = _; rw [<- hk4]; unfold elseR; rw [ze te]
    go_wp2_with (go_at_call 64; refine C64.mono ?_; rintro _ x9 ⟨rfl, hV2, hbC⟩; refine zb ?_)
    refine zd ?_
    have hZ := hbC.at hZ (by omega)
    have hT := hT.but hbC (.inl (by omega))
    have hL1 := hL1.but hbC (.inl (by omega))
    clear C64 hV hbC ht' te hf1 hl4
    have hV := hV2
    clear hV2
    go_wp2_with (first
     | (refine lL rfl rfl hZ rfl Tryz.underlying51 rfl (i51 (.mk 5 ⟨#[]⟩ y aa1 cc1 ys1 none 0 [])) ?_)
     | (refine sL rfl rfl hV.own (st9 5 ⟨#[]⟩ y.cells (.slice aa1 ys1.length cc1) (.slice none 0 0)) rfl rfl (i51 (.mk 5 ⟨#[]⟩ y aa1 cc1 ys1 none 0 [])) (Yw (.mk 0 ⟨#[]⟩ noX none 0 [] none 0 []) (.mk 5 ⟨#[]⟩ y aa1 cc1 ys1 none 0 [])) (ST.one (.mk 5 ⟨#[]⟩ y aa1 cc1 ys1 none 0 [])) ?_; intro u9 hA9 hb9))
    refine zr (zh rfl _ _ w.heap.size 51 (st9 5 ⟨#[]⟩ y.cells (.slice aa1 ys1.length cc1) (.slice none 0 0)) _ rfl hA9 Tryz.underlying51 rfl (i51 (.mk 5 ⟨#[]⟩ y aa1 cc1 ys1 none 0 []))) rfl ?_
    show YW B g L a c en d w R _ _
    exact ⟨(.mk 5 ⟨#[]⟩ y aa1 cc1 ys1 none 0 []), _, _, _, _, rfl, XB 5 ⟨by decide, by decide⟩ ⟨#[]⟩ ((hT.but hb9 (.inl (by omega))).low (by omega)) ((hL1.but hb9 (.inl (by omega))).low (by omega)) (Tl.nil _ _), hV.bt.fresh hb9 (zj _), hV.q.but hb9 HBw.out, StOf.of (S := .ok () (za L k4 en)) ⟨rfl, rfl, rfl⟩ (by rw [HR.out, Kx, hEl]; rfl), fun s l q => by rw [HR.out] at q; obtain ⟨e, r, b, r2, c2, he, hb, hc, rfl⟩ := zeu q; rw [hEl] at hc; cases hc; unfold ST.st; rw [hye e r he, ST.sts_eq, ST.sts_eq, hys1 b r2 hb]; try rfl⟩
 ·have ht' : decide ((hdT (za L k en)).text = bytes ⟨#[105, 102]⟩) = false := zN t0
  rw [ht', ze (by decide)] at C0
  go_wp2_with (go_at_call 64; refine C0.mono ?_; rintro _ x12 ⟨rfl, hV2, hbC⟩; refine zb ?_)
  refine zd ?_
  have hZ := hbC.at hZ (by omega)
  clear C0 hV hbC ht'
  have hV := hV2
  clear hV2
  have C1 := hV.c64 ⟨#[119, 104, 105, 108, 101]⟩ (by decide)
  rw [Xb] at C1
  by_cases t1 : (hdT (za L k en)).text = [119, 104, 105, 108, 101]
  ·have ht' : decide ((hdT (za L k en)).text = bytes ⟨#[119, 104, 105, 108, 101]⟩) = true := yy t1
   rw [ht', zi rfl] at C1
   have htl := zP (by decide) t1
   rw [ze t0, zi t1] at hR
   go_wp2_with (go_at_call 64; refine C1.mono ?_; rintro _ x13 ⟨rfl, hV2, hbC⟩; refine zb ?_)
   refine zd ?_
   have hZ := hbC.at hZ (by omega)
   clear C1 hV hbC ht'
   have hV := hV2
   clear hV2
   have HR : Hid (R = ((yd (za L (k + 1) en)).bind fun e r => (blockR f d r).bind fun b r => (.ok (.mk 6 [] e b []) r : Rs St))) := by
    have q := hR.out
    rw [htl] at q
    exact q
   have hF : 4 * (za L (k + 1) en).length + 6 <= f := by have := yl (l := za L k en) (by rw [t1]; decide); rw [htl] at this; have := HF.out; omega
   have HF1 : Hid (4 * (za L (k + 1) en).length + 6 <= f) := hF
   clear hR htl HF t0 t1 hF
   go_wp2_with (refine zz rfl rfl hZ 0 (.int .i64 6) rfl rfl i3 ?_; intro x14 hZ9 hbS; refine zb ?_)
   refine zd ?_
   have hZ : At 51 x14 Z (st9 6 ⟨#[]⟩ noX.cells (.slice none 0 0) (.slice none 0 0)) := hZ9
   have hV := hV.other HBw.out hbS hwZ
   clear hZ9 hbS
   have hS0 : StOf L en (k + 1) 0 0 (Rs.ok () (za L (k + 1) en)) := ⟨rfl, rfl, rfl⟩
   have C39 := hV.c39 HBw.out HOK.out _ hS0
   have hA1 : ∃ A1, A1 = w.heap.size := ⟨_, rfl⟩
   go_wp2_with (go_at_call 39; refine C39.mono ?_; rintro _ x15 ⟨y, k3, er3, pl3, ne3, rfl, hT, hV2, hbC, hS3, hye⟩; refine zb ?_)
   refine zd ?_
   clear C39 hA1
   have hZA := hZ.lt
   have hZ := hbC.at hZ (by omega)
   clear hbC hV
   have hV := hV2
   clear hV2
   go_wp2_with (refine ZW rfl (.tmp 36) (.tmp 35) rfl Z y rfl rfl 6 ⟨#[]⟩ noX (.slice none 0 0) (.slice none 0 0) hZ ?_; intro x16 hZ9 hbS hs9; clear hs9; refine zb ?_)
   refine zd ?_
   have hZ : At 51 x16 Z (st9 6 ⟨#[]⟩ y.cells (.slice none 0 0) (.slice none 0 0)) := hZ9
   have hV := hV.other HBw.out hbS hwZ
   have hT := hT.but hbS (.inl (by omega))
   clear hZ9 hbS
   have hfb : ∀ l, (yd (za L (k + 1) en)).shape = .ok () l -> 4 * l.length + 4 <= f := by
    intro l q
    obtain ⟨e, q⟩ := zaa q
    have h1 := Zu (za L (k + 1) en)
    rw [q] at h1
    have h1 : l.length < (za L (k + 1) en).length := h1
    have := HF1.out
    omega
   have C134 := hV.c134 HB.out.1 HBw.out HOK.out HLL.out (yd (za L (k + 1) en)).shape hS3.shape hfb
   go_wp2_with (go_at_call 134; refine C134.mono ?_; rintro _ x17 ⟨ys1, aa1, cc1, k4, er4, pl4, ne4, rfl, hL1, hV2, hbC, hS4, hys⟩; refine zb ?_)
   refine zd ?_
   have hZB1 := hZ.lt
   clear C134 hV
   have hV := hV2
   clear hV2
   have hZ := hbC.at hZ (by omega)
   have hT := hT.but hbC (.inl (by omega))
   clear hbC
   obtain ⟨ln1, hln1⟩ : ∃ q, Hid (q = ys1.length) := ⟨_, (rfl : ys1.length = _)⟩
   rw [<- hln1.out]
   go_wp2_with (refine ZQ (P := Tryz.prog) rfl 49 (.tmp 39) (.tmp 38) rfl Z 7 (.slice aa1 ln1 cc1) rfl rfl 51 _ hZ (by rw [jV]; decide) zgD rfl rfl ?_; intro x18 hZ9 hbS hs9; clear hs9; refine zb ?_)
   refine zd ?_
   have hZ : At 51 x18 Z (st9 6 ⟨#[]⟩ y.cells (.slice aa1 ln1 cc1) (.slice none 0 0)) := (by rw [qX] at hZ9; exact hZ9)
   have hV := hV.other HBw.out hbS hwZ
   have hT := hT.but hbS (.inl (by omega))
   have hL1 := hL1.but hbS (.inl (by omega))
   clear hZ9 hbS
   rw [hln1.out] at hZ
   go_wp2_with (first
    | (refine lL rfl rfl hZ rfl Tryz.underlying51 rfl (i51 (.mk 6 ⟨#[]⟩ y aa1 cc1 ys1 none 0 [])) ?_)
    | (refine sL rfl rfl hV.own (st9 6 ⟨#[]⟩ y.cells (.slice aa1 ys1.length cc1) (.slice none 0 0)) rfl rfl (i51 (.mk 6 ⟨#[]⟩ y aa1 cc1 ys1 none 0 [])) (Yw (.mk 0 ⟨#[]⟩ noX none 0 [] none 0 []) (.mk 6 ⟨#[]⟩ y aa1 cc1 ys1 none 0 [])) (ST.one (.mk 6 ⟨#[]⟩ y aa1 cc1 ys1 none 0 [])) ?_; intro u9 hA9 hb9))
   refine zr (zh rfl _ _ w.heap.size 51 (st9 6 ⟨#[]⟩ y.cells (.slice aa1 ys1.length cc1) (.slice none 0 0)) _ rfl hA9 Tryz.underlying51 rfl (i51 (.mk 6 ⟨#[]⟩ y aa1 cc1 ys1 none 0 []))) rfl ?_
   show YW B g L a c en d w R _ _
   exact ⟨(.mk 6 ⟨#[]⟩ y aa1 cc1 ys1 none 0 []), _, _, _, _, rfl, XB 6 ⟨by decide, by decide⟩ ⟨#[]⟩ ((hT.but hb9 (.inl (by omega))).low (by omega)) ((hL1.but hb9 (.inl (by omega))).low (by omega)) (Tl.nil _ _), hV.bt.fresh hb9 (zj _), hV.q.but hb9 HBw.out, hS4.shape.of (by rw [HR.out]; exact qM _ _ _), fun s l q => by rw [HR.out] at q; obtain ⟨e, r, b, he, hb, rfl⟩ := zdF q; unfold ST.st; rw [hye e r he, ST.sts_eq, ST.sts_eq, hys b l hb]; try rfl⟩
  ·have ht' : decide ((hdT (za L k en)).text = bytes ⟨#[119, 104, 105, 108, 101]⟩) = false := zN t1
   rw [ht', ze (by decide)] at C1
   go_wp2_with (go_at_call 64; refine C1.mono ?_; rintro _ x19 ⟨rfl, hV2, hbC⟩; refine zb ?_)
   refine zd ?_
   have hZ := hbC.at hZ (by omega)
   clear C1 hV hbC ht'
   have hV := hV2
   clear hV2
   have C2 := hV.c64 ⟨#[108, 111, 99, 107]⟩ (by decide)
   rw [Xb] at C2
   by_cases t2 : (hdT (za L k en)).text = [108, 111, 99, 107]
   ·have ht' : decide ((hdT (za L k en)).text = bytes ⟨#[108, 111, 99, 107]⟩) = true := yy t2
    rw [ht', zi rfl] at C2
    have htl := zP (by decide) t2
    rw [ze t0, ze t1] at hR
    go_wp2_with (go_at_call 64; refine C2.mono ?_; rintro _ x20 ⟨rfl, hV2, hbC⟩; refine zb ?_)
    refine zd ?_
    have hZ := hbC.at hZ (by omega)
    clear C2 hV hbC ht'
    have hV := hV2
    clear hV2
    have HR : Hid (R = XL ((zM (za L (k + 1) en)).bind fun x r => .ok (.mk 2 x noE [] []) r)) := by
     rw [hR.out]; unfold Zr; rw [zi t2, htl]; rfl
    clear hR htl HF t0 t1 t2
    go_wp2_with (refine zz rfl rfl hZ 0 (.int .i64 2) rfl rfl i3 ?_; intro x21 hZ9 hbS; refine zb ?_)
    refine zd ?_
    have hZ : At 51 x21 Z (st9 2 ⟨#[]⟩ noX.cells (.slice none 0 0) (.slice none 0 0)) := hZ9
    have hV := hV.other HBw.out hbS hwZ
    clear hZ9 hbS
    have C66 := hV.c66g HBw.out
    go_wp2_with (go_at_call 66; refine C66.mono ?_; rintro _ x22 ⟨nm, k2, er2, pl2, rfl, hV2, hbC, hS1, hnm⟩; refine zb ?_)
    refine zd ?_
    clear hV C66
    have hV := hV2
    clear hV2
    have hZ := hbC.at hZ (by omega)
    clear hbC
    go_wp2_with (refine zz rfl rfl hZ 1 (.string nm) rfl rfl i9u ?_; intro x23 hZ9 hbS; refine zb ?_)
    refine zd ?_
    have hZ : At 51 x23 Z (st9 2 nm noX.cells (.slice none 0 0) (.slice none 0 0)) := hZ9
    have hV := hV.other HBw.out hbS hwZ
    clear hZ9 hbS
    have C67 := hV.c67 _ hS1.shape ⟨#[59]⟩ (by decide)
    go_wp2_with (go_at_call 67; refine C67.mono ?_; rintro _ x24 ⟨rfl, k5, er5, pl5, hV2, hbC, hS5⟩; refine zb ?_)
    refine zd ?_
    clear C67 hV
    have hV := hV2
    clear hV2
    have hZ := hbC.at hZ (by omega)
    clear hbC
    go_wp2_with (first
     | (refine lL rfl rfl hZ rfl Tryz.underlying51 rfl (i51 (.mk 2 nm noX none 0 [] none 0 [])) ?_)
     | (refine sL rfl rfl hV.own (st9 2 nm noX.cells (.slice none 0 0) (.slice none 0 0)) rfl rfl (i51 (.mk 2 nm noX none 0 [] none 0 [])) (Yw (.mk 0 ⟨#[]⟩ noX none 0 [] none 0 []) (.mk 2 nm noX none 0 [] none 0 [])) (ST.one (.mk 2 nm noX none 0 [] none 0 [])) ?_; intro u9 hA9 hb9))
    refine zr (zh rfl _ _ w.heap.size 51 (st9 2 nm noX.cells (.slice none 0 0) (.slice none 0 0)) _ rfl hA9 Tryz.underlying51 rfl (i51 (.mk 2 nm noX none 0 [] none 0 []))) rfl ?_
    show YW B g L a c en d w R _ _
    exact ⟨(.mk 2 nm noX none 0 [] none 0 []), _, _, _, _, rfl, XB 2 ⟨by decide, by decide⟩ nm (Ym _ _) (Tl.nil _ _) (Tl.nil _ _), hV.bt.fresh hb9 (zj _), hV.q.but hb9 HBw.out, hS5.of (by rw [HR.out]; exact YS _ _), fun s l q => by rw [HR.out] at q; obtain ⟨x, r, hx, rfl⟩ := VM q; rw [hnm x r hx]; rfl⟩
   ·have ht' : decide ((hdT (za L k en)).text = bytes ⟨#[108, 111, 99, 107]⟩) = false := zN t2
    rw [ht', ze (by decide)] at C2
    go_wp2_with (go_at_call 64; refine C2.mono ?_; rintro _ x25 ⟨rfl, hV2, hbC⟩; refine zb ?_)
    refine zd ?_
    have hZ := hbC.at hZ (by omega)
    clear C2 hV hbC ht'
    have hV := hV2
    clear hV2
    have C3 := hV.c64 ⟨#[117, 110, 108, 111, 99, 107]⟩ (by decide)
    rw [Xb] at C3
    by_cases t3 : (hdT (za L k en)).text = [117, 110, 108, 111, 99, 107]
    ·have ht' : decide ((hdT (za L k en)).text = bytes ⟨#[117, 110, 108, 111, 99, 107]⟩) = true := yy t3
     rw [ht', zi rfl] at C3
     have htl := zP (by decide) t3
     rw [ze t0, ze t1] at hR
     go_wp2_with (go_at_call 64; refine C3.mono ?_; rintro _ x26 ⟨rfl, hV2, hbC⟩; refine zb ?_)
     refine zd ?_
     have hZ := hbC.at hZ (by omega)
     clear C3 hV hbC ht'
     have hV := hV2
     clear hV2
     have HR : Hid (R = XL ((zM (za L (k + 1) en)).bind fun x r => .ok (.mk 3 x noE [] []) r)) := by
      rw [hR.out]; unfold Zr; rw [ze t2, zi t3, htl]; rfl
     clear hR htl HF t0 t1 t2 t3
     go_wp2_with (refine zz rfl rfl hZ 0 (.int .i64 3) rfl rfl i3 ?_; intro x27 hZ9 hbS; refine zb ?_)
     refine zd ?_
     have hZ : At 51 x27 Z (st9 3 ⟨#[]⟩ noX.cells (.slice none 0 0) (.slice none 0 0)) := hZ9
     have hV := hV.other HBw.out hbS hwZ
     clear hZ9 hbS
     have C66 := hV.c66g HBw.out
     go_wp2_with (go_at_call 66; refine C66.mono ?_; rintro _ x28 ⟨nm, k2, er2, pl2, rfl, hV2, hbC, hS1, hnm⟩; refine zb ?_)
     refine zd ?_
     clear hV C66
     have hV := hV2
     clear hV2
     have hZ := hbC.at hZ (by omega)
     clear hbC
     go_wp2_with (refine zz rfl rfl hZ 1 (.string nm) rfl rfl i9u ?_; intro x29 hZ9 hbS; refine zb ?_)
     refine zd ?_
     have hZ : At 51 x29 Z (st9 3 nm noX.cells (.slice none 0 0) (.slice none 0 0)) := hZ9
     have hV := hV.other HBw.out hbS hwZ
     clear hZ9 hbS
     have C67 := hV.c67 _ hS1.shape ⟨#[59]⟩ (by decide)
     go_wp2_with (go_at_call 67; refine C67.mono ?_; rintro _ x30 ⟨rfl, k5, er5, pl5, hV2, hbC, hS5⟩; refine zb ?_)
     refine zd ?_
     clear C67 hV
     have hV := hV2
     clear hV2
     have hZ := hbC.at hZ (by omega)
     clear hbC
     go_wp2_with (first
      | (refine lL rfl rfl hZ rfl Tryz.underlying51 rfl (i51 (.mk 3 nm noX none 0 [] none 0 [])) ?_)
      | (refine sL rfl rfl hV.own (st9 3 nm noX.cells (.slice none 0 0) (.slice none 0 0)) rfl rfl (i51 (.mk 3 nm noX none 0 [] none 0 [])) (Yw (.mk 0 ⟨#[]⟩ noX none 0 [] none 0 []) (.mk 3 nm noX none 0 [] none 0 [])) (ST.one (.mk 3 nm noX none 0 [] none 0 [])) ?_; intro u9 hA9 hb9))
     refine zr (zh rfl _ _ w.heap.size 51 (st9 3 nm noX.cells (.slice none 0 0) (.slice none 0 0)) _ rfl hA9 Tryz.underlying51 rfl (i51 (.mk 3 nm noX none 0 [] none 0 []))) rfl ?_
     show YW B g L a c en d w R _ _
     exact ⟨(.mk 3 nm noX none 0 [] none 0 []), _, _, _, _, rfl, XB 3 ⟨by decide, by decide⟩ nm (Ym _ _) (Tl.nil _ _) (Tl.nil _ _), hV.bt.fresh hb9 (zj _), hV.q.but hb9 HBw.out, hS5.of (by rw [HR.out]; exact YS _ _), fun s l q => by rw [HR.out] at q; obtain ⟨x, r, hx, rfl⟩ := VM q; rw [hnm x r hx]; rfl⟩
    ·have ht' : decide ((hdT (za L k en)).text = bytes ⟨#[117, 110, 108, 111, 99, 107]⟩) = false := zN t3
     rw [ht', ze (by decide)] at C3
     go_wp2_with (go_at_call 64; refine C3.mono ?_; rintro _ x31 ⟨rfl, hV2, hbC⟩; refine zb ?_)
     refine zd ?_
     have hZ := hbC.at hZ (by omega)
     clear C3 hV hbC ht'
     have hV := hV2
     clear hV2
     have C4 := hV.c64 ⟨#[97, 115, 115, 101, 114, 116]⟩ (by decide)
     rw [Xb] at C4
     by_cases t4 : (hdT (za L k en)).text = [97, 115, 115, 101, 114, 116]
     ·have ht' : decide ((hdT (za L k en)).text = bytes ⟨#[97, 115, 115, 101, 114, 116]⟩) = true := yy t4
      rw [ht', zi rfl] at C4
      have htl := zP (by decide) t4
      rw [ze t0, ze t1] at hR
      go_wp2_with (go_at_call 64; refine C4.mono ?_; rintro _ x32 ⟨rfl, hV2, hbC⟩; refine zb ?_)
      refine zd ?_
      have hZ := hbC.at hZ (by omega)
      clear C4 hV hbC ht'
      have hV := hV2
      clear hV2
      have HR : Hid (R = XL ((yd (za L (k + 1) en)).bind fun e r => .ok (.mk 4 [] e [] []) r)) := by
       rw [hR.out]; unfold Zr; rw [ze t2, ze t3, zi t4, htl]; rfl
      clear hR htl HF t0 t1 t2 t3 t4
      go_wp2_with (refine zz rfl rfl hZ 0 (.int .i64 4) rfl rfl i3 ?_; intro x33 hZ9 hbS; refine zb ?_)
      refine zd ?_
      have hZ : At 51 x33 Z (st9 4 ⟨#[]⟩ noX.cells (.slice none 0 0) (.slice none 0 0)) := hZ9
      have hV := hV.other HBw.out hbS hwZ
      clear hZ9 hbS
      have hS0 : StOf L en (k + 1) 0 0 (Rs.ok () (za L (k + 1) en)) := ⟨rfl, rfl, rfl⟩
      have C39 := hV.c39 HBw.out HOK.out _ hS0
      have hA1 : ∃ A1, A1 = w.heap.size := ⟨_, rfl⟩
      go_wp2_with (go_at_call 39; refine C39.mono ?_; rintro _ x34 ⟨y, k3, er3, pl3, ne3, rfl, hT, hV2, hbC, hS3, hye⟩; refine zb ?_)
      refine zd ?_
      clear C39 hA1
      have hZA := hZ.lt
      have hZ := hbC.at hZ (by omega)
      clear hbC hV
      have hV := hV2
      clear hV2
      go_wp2_with (refine ZW rfl (.tmp 61) (.tmp 60) rfl Z y rfl rfl 4 ⟨#[]⟩ noX (.slice none 0 0) (.slice none 0 0) hZ ?_; intro x35 hZ9 hbS hs9; clear hs9; refine zb ?_)
      refine zd ?_
      have hZ : At 51 x35 Z (st9 4 ⟨#[]⟩ y.cells (.slice none 0 0) (.slice none 0 0)) := hZ9
      have hV := hV.other HBw.out hbS hwZ
      have hT := hT.but hbS (.inl (by omega))
      clear hZ9 hbS
      have C67 := hV.c67 _ hS3.shape ⟨#[59]⟩ (by decide)
      go_wp2_with (go_at_call 67; refine C67.mono ?_; rintro _ x36 ⟨rfl, k5, er5, pl5, hV2, hbC, hS5⟩; refine zb ?_)
      refine zd ?_
      clear C67 hV
      have hV := hV2
      clear hV2
      have hZ := hbC.at hZ (by omega)
      have hT := hT.but hbC (.inl (by omega))
      clear hbC
      go_wp2_with (first
       | (refine lL rfl rfl hZ rfl Tryz.underlying51 rfl (i51 (.mk 4 ⟨#[]⟩ y none 0 [] none 0 [])) ?_)
       | (refine sL rfl rfl hV.own (st9 4 ⟨#[]⟩ y.cells (.slice none 0 0) (.slice none 0 0)) rfl rfl (i51 (.mk 4 ⟨#[]⟩ y none 0 [] none 0 [])) (Yw (.mk 0 ⟨#[]⟩ noX none 0 [] none 0 []) (.mk 4 ⟨#[]⟩ y none 0 [] none 0 [])) (ST.one (.mk 4 ⟨#[]⟩ y none 0 [] none 0 [])) ?_; intro u9 hA9 hb9))
      refine zr (zh rfl _ _ w.heap.size 51 (st9 4 ⟨#[]⟩ y.cells (.slice none 0 0) (.slice none 0 0)) _ rfl hA9 Tryz.underlying51 rfl (i51 (.mk 4 ⟨#[]⟩ y none 0 [] none 0 []))) rfl ?_
      show YW B g L a c en d w R _ _
      exact ⟨(.mk 4 ⟨#[]⟩ y none 0 [] none 0 []), _, _, _, _, rfl, XB 4 ⟨by decide, by decide⟩ ⟨#[]⟩ ((hT.but hb9 (.inl (by omega))).low (by omega)) (Tl.nil _ _) (Tl.nil _ _), hV.bt.fresh hb9 (zj _), hV.q.but hb9 HBw.out, hS5.of (by rw [HR.out]; exact YS (yd (za L (k + 1) en)) fun e => .mk 4 [] e [] []), fun s l q => by rw [HR.out] at q; obtain ⟨e, r, he, rfl⟩ := VM q; show St.mk 4 [] y.ex [] [] = _; rw [hye e r he]⟩
     ·have ht' : decide ((hdT (za L k en)).text = bytes ⟨#[97, 115, 115, 101, 114, 116]⟩) = false := zN t4
      rw [ht', ze (by decide)] at C4
      go_wp2_with (go_at_call 64; refine C4.mono ?_; rintro _ x37 ⟨rfl, hV2, hbC⟩; refine zb ?_)
      refine zd ?_
      have hZ := hbC.at hZ (by omega)
      clear C4 hV hbC ht'
      have hV := hV2
      clear hV2
      have C5 := hV.c64 ⟨#[115, 107, 105, 112]⟩ (by decide)
      rw [Xb] at C5
      by_cases t5 : (hdT (za L k en)).text = [115, 107, 105, 112]
      ·have ht' : decide ((hdT (za L k en)).text = bytes ⟨#[115, 107, 105, 112]⟩) = true := yy t5
       rw [ht', zi rfl] at C5
       have htl := zP (by decide) t5
       rw [ze t0, ze t1] at hR
       go_wp2_with (go_at_call 64; refine C5.mono ?_; rintro _ x38 ⟨rfl, hV2, hbC⟩; refine zb ?_)
       refine zd ?_
       have hZ := hbC.at hZ (by omega)
       clear C5 hV hbC ht'
       have hV := hV2
       clear hV2
       have HR : Hid (R = XL (Rs.bind (Rs.ok () (za L (k + 1) en)) fun _ r => .ok (.mk 7 [] noE [] []) r)) := by
        rw [hR.out]; unfold Zr; rw [ze t2, ze t3, ze t4, zi t5, htl]; rfl
       clear hR htl HF t0 t1 t2 t3 t4 t5
       go_wp2_with (refine zz rfl rfl hZ 0 (.int .i64 7) rfl rfl i3 ?_; intro x39 hZ9 hbS; refine zb ?_)
       refine zd ?_
       have hZ : At 51 x39 Z (st9 7 ⟨#[]⟩ noX.cells (.slice none 0 0) (.slice none 0 0)) := hZ9
       have hV := hV.other HBw.out hbS hwZ
       clear hZ9 hbS
       have hS0 : StOf L en (k + 1) 0 0 (Rs.ok () (za L (k + 1) en)) := ⟨rfl, rfl, rfl⟩
       have C67 := hV.c67 _ hS0 ⟨#[59]⟩ (by decide)
       go_wp2_with (go_at_call 67; refine C67.mono ?_; rintro _ x40 ⟨rfl, k5, er5, pl5, hV2, hbC, hS5⟩; refine zb ?_)
       refine zd ?_
       clear C67 hV
       have hV := hV2
       clear hV2
       have hZ := hbC.at hZ (by omega)
       clear hbC
       go_wp2_with (first
        | (refine lL rfl rfl hZ rfl Tryz.underlying51 rfl (i51 (.mk 7 ⟨#[]⟩ noX none 0 [] none 0 [])) ?_)
        | (refine sL rfl rfl hV.own (st9 7 ⟨#[]⟩ noX.cells (.slice none 0 0) (.slice none 0 0)) rfl rfl (i51 (.mk 7 ⟨#[]⟩ noX none 0 [] none 0 [])) (Yw (.mk 0 ⟨#[]⟩ noX none 0 [] none 0 []) (.mk 7 ⟨#[]⟩ noX none 0 [] none 0 [])) (ST.one (.mk 7 ⟨#[]⟩ noX none 0 [] none 0 [])) ?_; intro u9 hA9 hb9))
       refine zr (zh rfl _ _ w.heap.size 51 (st9 7 ⟨#[]⟩ noX.cells (.slice none 0 0) (.slice none 0 0)) _ rfl hA9 Tryz.underlying51 rfl (i51 (.mk 7 ⟨#[]⟩ noX none 0 [] none 0 []))) rfl ?_
       show YW B g L a c en d w R _ _
       exact ⟨(.mk 7 ⟨#[]⟩ noX none 0 [] none 0 []), _, _, _, _, rfl, XB 7 ⟨by decide, by decide⟩ ⟨#[]⟩ (Ym _ _) (Tl.nil _ _) (Tl.nil _ _), hV.bt.fresh hb9 (zj _), hV.q.but hb9 HBw.out, hS5.of (by rw [HR.out]; exact YS (Rs.ok () (za L (k + 1) en)) fun _ => .mk 7 [] noE [] []), fun s l q => by rw [HR.out] at q; obtain ⟨x, r, -, rfl⟩ := VM q; rfl⟩
      ·have ht' : decide ((hdT (za L k en)).text = bytes ⟨#[115, 107, 105, 112]⟩) = false := zN t5
       rw [ht', ze (by decide)] at C5
       go_wp2_with (go_at_call 64; refine C5.mono ?_; rintro _ x41 ⟨rfl, hV2, hbC⟩; refine zb ?_)
       refine zd ?_
       have hZ := hbC.at hZ (by omega)
       clear C5 hV hbC ht'
       have hV := hV2
       clear hV2
       rw [ze t0, ze t1] at hR
       have HR : Hid (R = XL (zeW (za L k en))) := by
        rw [hR.out]; unfold Zr; rw [ze t2, ze t3, ze t4, ze t5]; rfl
       clear hR HF t0 t1 t2 t3 t4 t5
       go_wp2_with (refine zz rfl rfl hZ 0 (.int .i64 1) rfl rfl i3 ?_; intro x42 hZ9 hbS; refine zb ?_)
       refine zd ?_
       have hZ : At 51 x42 Z (st9 1 ⟨#[]⟩ noX.cells (.slice none 0 0) (.slice none 0 0)) := hZ9
       have hV := hV.other HBw.out hbS hwZ
       clear hZ9 hbS
       have C66 := hV.c66g HBw.out
       go_wp2_with (go_at_call 66; refine C66.mono ?_; rintro _ x43 ⟨nm, k2, er2, pl2, rfl, hV2, hbC, hS1, hnm⟩; refine zb ?_)
       refine zd ?_
       clear hV C66
       have hV := hV2
       clear hV2
       have hZ := hbC.at hZ (by omega)
       clear hbC
       go_wp2_with (refine zz rfl rfl hZ 1 (.string nm) rfl rfl i9u ?_; intro x44 hZ9 hbS; refine zb ?_)
       refine zd ?_
       have hZ : At 51 x44 Z (st9 1 nm noX.cells (.slice none 0 0) (.slice none 0 0)) := hZ9
       have hV := hV.other HBw.out hbS hwZ
       clear hZ9 hbS
       have C67 := hV.c67 _ hS1.shape ⟨#[61]⟩ (by decide)
       go_wp2_with (go_at_call 67; refine C67.mono ?_; rintro _ x45 ⟨rfl, k5, er5, pl5, hV2, hbC, hS2⟩; refine zb ?_)
       refine zd ?_
       clear C67 hV
       have hV := hV2
       clear hV2
       have hZ := hbC.at hZ (by omega)
       clear hbC
       have C39 := hV.c39 HBw.out HOK.out _ hS2
       have hA1 : ∃ A1, A1 = w.heap.size := ⟨_, rfl⟩
       go_wp2_with (go_at_call 39; refine C39.mono ?_; rintro _ x46 ⟨y, k3, er3, pl3, ne3, rfl, hT, hV2, hbC, hS3, hye⟩; refine zb ?_)
       refine zd ?_
       clear C39 hA1
       have hZA := hZ.lt
       have hZ := hbC.at hZ (by omega)
       clear hbC hV
       have hV := hV2
       clear hV2
       go_wp2_with (refine ZW rfl (.tmp 13) (.tmp 12) rfl Z y rfl rfl 1 nm noX (.slice none 0 0) (.slice none 0 0) hZ ?_; intro x47 hZ9 hbS hs9; clear hs9; refine zb ?_)
       refine zd ?_
       have hZ : At 51 x47 Z (st9 1 nm y.cells (.slice none 0 0) (.slice none 0 0)) := hZ9
       have hV := hV.other HBw.out hbS hwZ
       have hT := hT.but hbS (.inl (by omega))
       clear hZ9 hbS
       have hS3 : StOf L en k3 er3 pl3 (zdv (za L k en)) := hS3
       have hye : ∀ e l, zdv (za L k en) = .ok e l -> y.ex = e := hye
       have C67 := hV.c67 _ hS3.shape ⟨#[59]⟩ (by decide)
       go_wp2_with (go_at_call 67; refine C67.mono ?_; rintro _ x48 ⟨rfl, k6, er6, pl6, hV2, hbC, hS5⟩; refine zb ?_)
       refine zd ?_
       clear C67 hV
       have hV := hV2
       clear hV2
       have hZ := hbC.at hZ (by omega)
       have hT := hT.but hbC (.inl (by omega))
       clear hbC
       go_wp2_with (first
        | (refine lL rfl rfl hZ rfl Tryz.underlying51 rfl (i51 (.mk 1 nm y none 0 [] none 0 [])) ?_)
        | (refine sL rfl rfl hV.own (st9 1 nm y.cells (.slice none 0 0) (.slice none 0 0)) rfl rfl (i51 (.mk 1 nm y none 0 [] none 0 [])) (Yw (.mk 0 ⟨#[]⟩ noX none 0 [] none 0 []) (.mk 1 nm y none 0 [] none 0 [])) (ST.one (.mk 1 nm y none 0 [] none 0 [])) ?_; intro u9 hA9 hb9))
       refine zr (zh rfl _ _ w.heap.size 51 (st9 1 nm y.cells (.slice none 0 0) (.slice none 0 0)) _ rfl hA9 Tryz.underlying51 rfl (i51 (.mk 1 nm y none 0 [] none 0 []))) rfl ?_
       show YW B g L a c en d w R _ _
       exact ⟨(.mk 1 nm y none 0 [] none 0 []), _, _, _, _, rfl, XB 1 ⟨by decide, by decide⟩ nm ((hT.but hb9 (.inl (by omega))).low (by omega)) (Tl.nil _ _) (Tl.nil _ _), hV.bt.fresh hb9 (zj _), hV.q.but hb9 HBw.out, hS5.of (by rw [HR.out]; exact zdu _), fun s l q => by rw [HR.out] at q; obtain ⟨x, r1, e, r2, hx, he, rfl⟩ := zgT q; rw [hnm x r1 hx]; show St.mk 1 x y.ex [] [] = _; rw [hye e r2 he]⟩
