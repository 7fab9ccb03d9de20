/- J -/
import Derived.Test.YtjgggmjjikopeaaGreatDoorJ39
set_option linter.unusedVariables false
set_option maxRecDepth 100000
set_option maxHeartbeats 6400000
open Go.RowKit
namespace Go.Proofs.YtjgggmjjikopeaaGreatDoor
def cN (w : World) (g i : Nat) : Nat := match w.cell? ⟨g, i, none⟩ with
 | some (.int _ n) => n.toNat
 | _ => 0
theorem Qd.cN1 {B : Nat} {w : World} {g : Nat} {L : List Tk} {a : Option Addr} {c k en er pl ne bl : Nat} (h : Qd B w g L a c k en er pl ne bl) : cN w g 1 = k /\ cN w g 3 = er := by
 obtain ⟨q0, q1, q2, q3, q4, q5, q6⟩ := zv h.cell
 unfold cN
 rw [q1, q3]
 exact ⟨rfl, rfl⟩
theorem zH (L : List Tk) (k en : Nat) : (za L k en).length = L.length - k + 1 := by simp [za]
def StW (f d : Nat) : Prop := ∀ (B g : Nat) (L : List Tk) (a : Option Addr) (c k en ne : Nat) (w : World), (∀ t ∈ L, Zd t) -> L.length <= 1048575 -> 4 * (za L k en).length + 3 <= f -> Qd B w g L a c k en 0 0 ne d -> B <= w.heap.size ->
  Calls Tryz.prog 104 #[.pointer (some ⟨g, 0, none⟩)] w (YW B g L a c en d w (Yh f d (za L k en)))
def ze3 (B g : Nat) (L : List Tk) (a : Option Addr) (c en d : Nat) (w : World) (D : Rs (List St)) (r : Ending) (w' : World) : Prop :=
 ∃ (ys : List ST) (aa : Option Addr) (cc k er pl ne : Nat), r = .returned (.slice aa ys.length cc) /\ Tl w.heap.size w' aa cc ys /\ But g w w' /\ Qd B w' g L a c k en er pl ne d /\ ((er = 0 /\ pl = 0 /\ (hdT (za L k en)).text = [125] /\ D = .ok (ys.map ST.st) (za L k en).tail) \/ (er ≠ 0 /\ k = L.length /\ D = .bad er pl))
theorem Jy (f d : Nat) (hS : ∀ f', f' < f -> StW f' d) (B g : Nat) (L : List Tk) (a : Option Addr) (c k en ne : Nat) (w : World) (hok : ∀ t ∈ L, Zd t) (hL : L.length <= 1048575) (hf : 4 * (za L k en).length + 4 <= f) (h : Qd B w g L a c k en 0 0 ne d) (hBw : B <= w.heap.size) :
  Calls Tryz.prog 68 #[.pointer (some ⟨g, 0, none⟩)] w (ze3 B g L a c en d w (stmtsR f d (za L k en))) := by
 have lg := h.lt
 obtain ⟨D, hD⟩ : ∃ D, Hid (D = stmtsR f d (za L k en)) := ⟨_, (rfl : stmtsR f d (za L k en) = _)⟩
 rw [<- hD.out]
 have HS : Hid (∀ f', f' < f -> StW f' d) := hS
 have HOK : Hid (∀ t ∈ L, Zd t) := hok
 have HI : Hid (∃ (k er pl ne f' : Nat) (ys : List ST), ys.length = 0 /\ Gr eS w.heap.size w (.slice none 0 0) ys /\ Qd B w g L a c k en er pl ne d /\ But g w w /\ 0 <= 1048576 /\ (er = 0 -> 0 + (L.length - k) <= L.length) /\ ((er = 0 /\ pl = 0 /\ 4 * (za L k en).length + 4 <= f' /\ f' <= f /\ D = (stmtsR f' d (za L k en)).bind fun ss r => .ok (ys.map ST.st ++ ss) r) \/ (er ≠ 0 /\ k = L.length /\ D = .bad er pl))) := by
  refine ⟨k, 0, 0, ne, f, [], rfl, Gr.nil (zj _), h, But.refl _ _, by omega, fun _ => by omega, .inl ⟨rfl, rfl, hf, zj _, ?_⟩⟩
  rw [hD.out]
  cases stmtsR f d (za L k en) <;> rfl
 clear h hS hD hf hok
 go_enter Tryz.func68, Tryz.ntmps68
 go_wp2_with fail
 go_loopw [3] (fun v wr => ∃ (aV : Option Addr) (nV cV : Nat), v = .slice aV nV cV /\ Hid (∃ (k er pl ne f' : Nat) (ys : List ST), ys.length = nV /\ Gr eS w.heap.size wr (.slice aV nV cV) ys /\ Qd B wr g L a c k en er pl ne d /\ But g w wr /\ nV <= 1048576 /\ (er = 0 -> nV + (L.length - k) <= L.length) /\ ((er = 0 /\ pl = 0 /\ 4 * (za L k en).length + 4 <= f' /\ f' <= f /\ D = (stmtsR f' d (za L k en)).bind fun ss r => .ok (ys.map ST.st ++ ss) r) \/ (er ≠ 0 /\ k = L.length /\ D = .bad er pl)))) (fun _ wr => 2 * (L.length - cN wr g 1) + (if cN wr g 3 = 0 then 1 else 0))
 case atStart => exact ⟨none, 0, 0, rfl, HI.out⟩
 case round =>
  obtain ⟨aV, nV, cV, rfl, hX⟩ := hrel
  clear HI
  obtain ⟨k, er, pl, ne, f', ys, hyl, hG, hQ, hbt, hnm, hkl, hD⟩ := hX.out
  clear hX
  have hme := hQ.cN1
  have lr := hbt.size
  rcases hD with ⟨rfl, rfl, hf', hff, hD⟩ | ⟨he, rfl, hD⟩
  ·have hkl := hkl rfl
   obtain ⟨f', rfl⟩ : ∃ q, f' = q + 1 := ⟨f' - 1, by omega⟩
   have HD : Hid (D = (stmtsR (f' + 1) d (za L k en)).bind fun ss r => .ok (ys.map ST.st ++ ss) r) := hD
   clear hD
   rw [stmtsR] at HD
   have C30 : Calls Tryz.prog 30 #[.pointer (some ⟨g, 0, none⟩)] wr fun r w' => r = .returned (.bool true) /\ w' = wr := zJ g L.length a c k en 0 0 ne d wr hQ.cell
   have C63 : Calls Tryz.prog 63 #[.pointer (some ⟨g, 0, none⟩), .string ⟨#[125]⟩] wr fun r w' => r = .returned (.bool (decide ((hdT (za L k en)).text = [125]))) /\ Below wr.heap.size wr w' := (YT g L a c k en 0 0 ne d ⟨#[125]⟩ (by decide) wr hQ).mono (by rintro r w' ⟨rfl, m, rfl⟩; exact ⟨by rw [Xb]; rfl, below_drewN wr m⟩)
   by_cases c0 : (hdT (za L k en)).text = [125]
   focus
    rw [zi c0] at HD
    have hD' : D = .ok (ys.map ST.st ++ []) (za L k en).tail := HD.out
    rw [List.append_nil] at hD'
    rw [yy c0] at C63
    clear HD HS
   rotate_left
   focus
    rw [ze c0] at HD
    rw [zN c0] at C63
    clear c0
   rotate_left
   all_goals
    go_wp2_with (first
     | (go_at_call 30; refine C30.mono ?_; rintro _ wq ⟨rfl, hwq⟩; obtain rfl : wr = wq := hwq.symm; clear hwq)
     | (go_at_call 63; refine C63.mono ?_; rintro _ w2 ⟨rfl, hb2⟩; refine zb ?_))
    refine zd ?_
    have hG := hG.below hb2
    have hbt := hbt.trans (But.of_below hb2)
    have hQ := hQ.below hb2
   ·clear C30 C63 hb2
    go_wp2_with fail
    go_ret
    exact ⟨ys, aV, cV, k, 0, 0, ne, by rw [hyl]; rfl, hG.stmts (by omega), hbt, hQ, .inl ⟨rfl, rfl, c0, hD'⟩⟩
   ·have l2 := hb2.size
    clear C30 C63 hb2
    have CS := HS.out f' (by omega) B g L a c k en ne w2 HOK.out hL (by omega) hQ (by omega)
    have hsl := (Xf f' d (za L k en)).1
    have hkL := hQ.le
    clear hQ
    go_wp2_with (go_at_call 104; refine CS.mono ?_; rintro _ w3 ⟨y, k3, er3, pl3, ne3, rfl, hyt, hb3, hQ, hS3, hye⟩; refine zb ?_)
    refine zd ?_
    have hyo : eS.Lies (fun q => w.heap.size <= q /\ some q ≠ (Value.slice aV nV cV).ownBlock) y := Gr.fresh hG hyt.2
    have hG := hG.but hb3 lg
    have hbt := hbt.trans hb3
    have l3 := hb3.size
    have hk3 := hQ.le
    have hrel2 : (er3 = 0 /\ pl3 = 0 /\ 4 * (za L k3 en).length + 4 <= f' /\ f' <= f /\ nV + 1 + (L.length - k3) <= L.length /\ L.length - k3 < L.length - k /\ D = (stmtsR f' d (za L k3 en)).bind fun ss r => .ok ((ys ++ [y]).map ST.st ++ ss) r) \/ (er3 ≠ 0 /\ k3 = L.length /\ D = .bad er3 pl3) := by
     cases hN : Yh f' d (za L k en) with
     | bad e p =>
      rw [hN] at hS3 HD
      obtain ⟨rfl, rfl, rfl, he⟩ := hS3
      exact .inr ⟨he, rfl, HD.out⟩
     | ok s r1 =>
      rw [hN] at hS3 HD hsl hye
      obtain ⟨rfl, rfl, rfl⟩ := hS3
      have hr1 : (za L k3 en).length < (za L k en).length := hsl
      rw [zH, zH] at hr1
      rw [zH] at hf'
      refine .inl ⟨rfl, rfl, by rw [zH]; omega, by omega, by omega, by omega, ?_⟩
      have hD' : D = ((stmtsR f' d (za L k3 en)).bind fun ss r => .ok (s :: ss) r).bind fun ss r => .ok (ys.map ST.st ++ ss) r := HD.out
      rw [hD', Rs.bind_bind]
      congr 1
      funext ss r
      show Rs.ok (ys.map ST.st ++ s :: ss) r = _
      rw [List.map_append, X4, <- hye s _ rfl]
      rfl
    have HV : Hid (ys.length = nV /\ Gr eS w.heap.size w3 (.slice aV nV cV) ys /\ eS.In w3.heap.size w3 y /\ eS.Lies (fun q => w.heap.size <= q /\ some q ≠ (Value.slice aV nV cV).ownBlock) y) := ⟨hyl, hG, hyt.1, hyo⟩
    have HR2 : Hid _ := hrel2
    have HME : Hid _ := hme
    clear CS hb3 hG hyt hyo hye hyl HD hsl hS3 hrel2 hme hf'
    go_wp2_with (first
     | (refine Jn rfl (.tmp 13) rfl y.cells rfl (ST.cells_len y) ?_; intro w4 hA4 hb4; refine zb ?_))
    refine zd ?_
    have HV4 : Hid (Gr eS w.heap.size w4 (.slice aV nV cV) ys /\ eS.In w4.heap.size w4 y) := ⟨HV.out.2.1.below hb4, ST.Sn.up hb4.size (ST.Sn.old (Old.of_below hb4 (zj _)) HV.out.2.2.1)⟩
    have hQ := hQ.below hb4
    have hbt := hbt.trans (But.of_below hb4)
    have l4 := hb4.size
    have HA4 : Hid (At 51 w4 w3.heap.size y.cells) := hA4
    clear hb4 hA4
    go_wp2_with (first
     | (refine XI (e := eS) (A := w.heap.size) (ys := ys) rfl (.tmp 11) (.tmp 14) 49 _ 136 rfl Tryz.underlying49 f51 rfl (by decide) rfl w3.heap.size rfl HV4.out.1 y HA4.out HV4.out.2 HV.out.2.2.2 nV HV.out.1 (by omega) (by decide) ?_; intro gW cW w5 hG5 hb5; refine zb ?_))
    refine zd ?_
    have hQ5 : Qd B w5 g L a c k3 en er3 pl3 ne3 d := hQ.keep fun j _ hj => hb5.block j (by omega)
    have hbt5 : But g w w5 := ⟨hb5.os.trans hbt.os, hb5.tape.trans hbt.tape, hb5.output.trans hbt.output, zQ hbt.size hb5.size, fun q hq hne => (hb5.block q hq).trans (hbt.block q hq hne)⟩
    have hm5 := hQ5.cN1
    have hm : 2 * (L.length - cN w5 g 1) + (if cN w5 g 3 = 0 then 1 else 0) < 2 * (L.length - cN wr g 1) + (if cN wr g 3 = 0 then 1 else 0) := by
     rw [hm5.1, hm5.2, HME.out.1, HME.out.2]
     rcases HR2.out with ⟨h1, -, -, -, -, h2, -⟩ | ⟨h1, h2, -⟩
     ·rw [zi h1, zi rfl]; omega
     ·rw [ze h1, zi rfl]; omega
    have HRel : Hid (∃ (k er pl ne f' : Nat) (ys : List ST), ys.length = (nV + 1) /\ Gr eS w.heap.size w5 (.slice (some ⟨gW, 0, none⟩) (nV + 1) cW) ys /\ Qd B w5 g L a c k en er pl ne d /\ But g w w5 /\ (nV + 1) <= 1048576 /\ (er = 0 -> (nV + 1) + (L.length - k) <= L.length) /\ ((er = 0 /\ pl = 0 /\ 4 * (za L k en).length + 4 <= f' /\ f' <= f /\ D = (stmtsR f' d (za L k en)).bind fun ss r => .ok (ys.map ST.st ++ ss) r) \/ (er ≠ 0 /\ k = L.length /\ D = .bad er pl))) := by
     rcases HR2.out with ⟨h1, h2, h3, h4, h5, h6, h7⟩ | ⟨h1, h2, h3⟩
     ·exact ⟨k3, er3, pl3, ne3, f', ys ++ [y], by rw [yN, HV.out.1]; rfl, hG5, hQ5, hbt5, by omega, fun _ => h5, .inl ⟨h1, h2, h3, h4, h7⟩⟩
     ·exact ⟨k3, er3, pl3, ne3, f', ys ++ [y], by rw [yN, HV.out.1]; rfl, hG5, hQ5, hbt5, by omega, fun q => absurd q h1, .inr ⟨h1, h2, h3⟩⟩
    clear hG5 hb5 hQ hQ5 HV HV4 HA4 HS hm5 HME HR2 hbt5
    go_wp2_with fail
    go_roundw
    case rel => exact ⟨some ⟨gW, 0, none⟩, nV + 1, cW, rfl, HRel.out⟩
    case measure => exact hm
  ·have C30 : Calls Tryz.prog 30 #[.pointer (some ⟨g, 0, none⟩)] wr fun r w' => r = .returned (.bool false) /\ w' = wr := by
    have := zJ g L.length a c L.length en er pl ne d wr hQ.cell
    rw [zN he, Bool.false_and] at this
    exact this
   go_wp2_with (go_at_call 30; refine C30.mono ?_; rintro _ _ ⟨rfl, rfl⟩; refine zb ?_)
   refine zd ?_
   go_wp2_with fail
   go_ret
   exact ⟨ys, aV, cV, _, er, pl, ne, by rw [hyl]; rfl, hG.stmts (by omega), hbt, hQ, .inr ⟨he, rfl, hD⟩⟩
theorem zag (f d : Nat) (hd : d <= 32) (hS : d < 32 -> ∀ f', f' < f -> StW f' (d + 1)) (B g : Nat) (L : List Tk) (a : Option Addr) (c k en ne : Nat) (w : World) (hok : ∀ t ∈ L, Zd t) (hL : L.length <= 1048575) (hf : 4 * (za L k en).length + 4 <= f + 1) (h : Qd B w g L a c k en 0 0 ne d) (hBw : B <= w.heap.size) :
  Calls Tryz.prog 134 #[.pointer (some ⟨g, 0, none⟩)] w fun r w' => ∃ (ys : List ST) (aa : Option Addr) (cc k' er' pl' ne' : Nat), r = .returned (.slice aa ys.length cc) /\ Tl w.heap.size w' aa cc ys /\ But g w w' /\ Qd B w' g L a c k' en er' pl' ne' d /\ StOf L en k' er' pl' (blockR (f + 1) d (za L k en)) /\ ∀ ss l, blockR (f + 1) d (za L k en) = .ok ss l -> ys.map ST.st = ss := by
 have lg := h.lt
 have C41 : Calls Tryz.prog 41 #[.pointer (some ⟨g, 0, none⟩)] w fun r w' => r = .returned (.int .i64 ((hdT (za L k en)).place : Int)) /\ Below w.heap.size w w' := (ZU g L a c k en 0 0 ne d w h).mono (by rintro r w' ⟨rfl, m, rfl⟩; exact ⟨rfl, below_drewN w m⟩)
 have HS : Hid (d < 32 -> ∀ f', f' < f -> StW f' (d + 1)) := hS
 have HOK : Hid (∀ t ∈ L, Zd t) := hok
 have HQ : Hid (Qd B w g L a c k en 0 0 ne d) := h
 obtain ⟨R, hR⟩ : ∃ R, Hid (R = blockR (f + 1) d (za L k en)) := ⟨_, (rfl : blockR (f + 1) d (za L k en) = _)⟩
 rw [<- hR.out]
 unfold blockR at hR
 clear h hS hok
 go_enter Tryz.func134, Tryz.ntmps134
 go_wp2_with (go_at_call 41; refine C41.mono ?_; rintro _ u1 ⟨rfl, hb1⟩; refine zb ?_)
 refine zd ?_
 have hQ := HQ.out.below hb1
 have hB : But g w u1 := But.of_below hb1
 clear C41 hb1 HQ
 generalize hpa : (hdT (za L k en)).place = pa at *
 have C67 := Xq g L a c k en ne d ⟨#[123]⟩ (by decide) u1 hQ
 have C67 : Calls Tryz.prog 67 #[.pointer (some ⟨g, 0, none⟩), .string ⟨#[123]⟩] u1 fun r w' => r = .returned (.tuple #[]) /\ KL B g L a c en ne d (zq [123] (za L k en)) w' /\ But g u1 w' := C67
 by_cases c0 : (hdT (za L k en)).text = [123]
 focus
  have hM : zq [123] (za L k en) = .ok () (za L (k + 1) en) := by unfold zq; rw [zi c0, zP (by decide) c0]
  have htn := yl (l := za L k en) (by rw [c0]; decide)
  rw [zP (by decide) c0] at htn
  rw [hM] at C67 hR
  clear hM c0
  go_wp2_with (go_at_call 67; refine C67.mono ?_; rintro _ u2 ⟨rfl, ⟨k2, hk2, hQ'⟩, hbC⟩; refine zb ?_)
  refine zd ?_
 rotate_left
 focus
  have hM : zq [123] (za L k en) = .bad 4 pa := by unfold zq; rw [ze c0, hpa]
  rw [hM] at C67 hR
  have hR' : Hid (R = .bad 4 pa) := hR
  clear hM c0 hR
  go_wp2_with (go_at_call 67; refine C67.mono ?_; rintro _ u2 ⟨rfl, hQ', hbC⟩; refine zb ?_)
  refine zd ?_
  have hQ' : Qd B u2 g L a c L.length en 4 pa ne d := hQ'
 rotate_left
 all_goals
  have hB' := hB.trans hbC
  clear C67 hQ hB hbC
  have hQ := hQ'
  have hB := hB'
  clear hQ' hB'
 focus
  rw [hk2] at hR htn
  clear hk2
 all_goals
  have hA2 := hQ.cell
  obtain ⟨q0, q1, q2, q3, q4, q5, q6⟩ := zv hA2
  have hkl := hQ.le
  have hw1 : IntKind.i64.wrap ((d : Int) + 1) = ((d + 1 : Nat) : Int) := by rw [IntKind.wrap_i64]; omega
  go_wp2_with (refine zz rfl rfl hA2 6 (.int .i64 ((d + 1 : Nat) : Int)) rfl (by first | rfl | (simp only [hw1]; rfl) | (show Value.int _ _ = _; rw [hw1])) i3 ?_; intro u3 hA3 hbS; refine zb ?_)
  refine zd ?_
 focus
  have hA3 : At 71 u3 g (q7 a L.length c k2 en 0 0 ne (d + 1)) := hA3
 rotate_left
 focus
  have hA3 : At 71 u3 g (q7 a L.length c L.length en 4 pa ne (d + 1)) := hA3
 rotate_left
 all_goals
  have hQ' := hQ.set hA3 hbS hkl
  have hB' := hB.trans hbS
  clear hA2 hA3 hbS hkl q0 q1 q2 q3 q4 q5 q6 hw1 hQ hB
  have hQ := hQ'
  have hB := hB'
  clear hQ' hB'
 ·have C30 : Calls Tryz.prog 30 #[.pointer (some ⟨g, 0, none⟩)] u3 fun r w' => r = .returned (.bool true) /\ w' = u3 := zJ g L.length a c k2 en 0 0 ne (d + 1) u3 hQ.cell
  obtain ⟨q0, q1, q2, q3, q4, q5, q6⟩ := zv hQ.cell
  by_cases hdd : 32 <= d
  ·have hR' : Hid (R = .bad 160 pa) := by have q := hR.out; rw [Rs.bind_ok, zi hdd] at q; exact q
   have e32 : (32 < ((d + 1 : Nat) : Int)) := by omega
   clear hR
   go_wp2_with (first
    | (go_at_call 30; refine C30.mono ?_; rintro _ wq ⟨rfl, hwq⟩; obtain rfl : u3 = wq := hwq.symm; clear hwq; refine zb ?_))
   refine zd ?_
   have C40 : Calls Tryz.prog 40 #[.pointer (some ⟨g, 0, none⟩), .int .i64 160, .int .i64 (pa : Int)] u3 fun r w' => r = .returned (.tuple #[]) /\ Qd B w' g L a c L.length en 160 pa ne (d + 1) /\ But g u3 w' := (YJ g L a c k2 en 0 0 ne (d + 1) 160 pa u3 hQ).mono (by rintro r w' ⟨rfl, hq, hb⟩; rw [zi ⟨rfl, rfl⟩] at hq; exact ⟨rfl, hq, hb⟩)
   go_wp2_with (go_at_call 40; refine C40.mono ?_; rintro _ u4 ⟨rfl, hQ', hbC⟩; refine zb ?_)
   refine zd ?_
   have hB' := hB.trans hbC
   clear C30 C40 hbC hQ hB q0 q1 q2 q3 q4 q5 q6 e32
   have hQ := hQ'
   have hB := hB'
   clear hQ' hB'
   have C68 := YH g L a c L.length en 160 pa ne (d + 1) (by decide) _ hQ
   have C67 := Zo g L a c L.length en 160 pa ne (d + 1) (by decide) ⟨#[125]⟩ (by decide) _ hQ
   go_wp2_with (first
    | (go_at_call 68; refine C68.mono ?_; rintro _ wq ⟨rfl, hwq⟩; obtain rfl : u4 = wq := hwq.symm; clear hwq)
    | (go_at_call 67; refine C67.mono ?_; rintro _ z1 ⟨rfl, hQ', hbC⟩; refine zb ?_))
   refine zd ?_
   have hB' := hB.trans hbC
   clear C68 C67 hbC hQ hB
   have hQ := hQ'
   have hB := hB'
   clear hQ' hB'
   have hA2 := hQ.cell
   obtain ⟨q0, q1, q2, q3, q4, q5, q6⟩ := zv hA2
   have hkl := hQ.le
   have hw1 : IntKind.i64.wrap (((d + 1 : Nat) : Int) - 1) = ((d : Nat) : Int) := by rw [IntKind.wrap_i64]; omega
   go_wp2_with (refine zz rfl rfl hA2 6 (.int .i64 ((d : Nat) : Int)) rfl (by first | rfl | (simp only [hw1]; rfl) | (show Value.int _ _ = _; rw [hw1])) i3 ?_; intro z2 hA3 hbS; refine zb ?_)
   refine zd ?_
   have hA3 : At 71 z2 g (q7 a L.length c L.length en 160 pa ne (d)) := hA3
   have hQ' := hQ.set hA3 hbS hkl
   have hB' := hB.trans hbS
   clear hA2 hA3 hbS hkl q0 q1 q2 q3 q4 q5 q6 hw1 hQ hB
   have hQ := hQ'
   have hB := hB'
   clear hQ' hB'
   go_wp2_with fail
   go_ret
   exact ⟨[], none, 0, L.length, 160, pa, ne, rfl, Tl.nil _ _, hB, hQ, by rw [hR'.out]; exact ⟨rfl, rfl, rfl, by decide⟩, fun ss l q => by rw [hR'.out] at q; cases q⟩
  ·have hR' : Hid (R = stmtsR f (d + 1) (za L k2 en)) := by have q := hR.out; rw [Rs.bind_ok, ze hdd] at q; exact q
   have e32 : ¬ (32 < ((d + 1 : Nat) : Int)) := by omega
   clear hR
   have l3 := hB.size
   have C68 := Jy f (d + 1) (HS.out (by omega)) B g L a c k2 en ne u3 HOK.out hL (by omega) hQ (by omega)
   rw [<- hR'.out] at C68
   go_wp2_with (first
    | (go_at_call 30; refine C30.mono ?_; rintro _ wq ⟨rfl, hwq⟩; obtain rfl : u3 = wq := hwq.symm; clear hwq)
    | (go_at_call 68; refine C68.mono ?_; rintro _ u4 ⟨ys, aa, cc, k4, er4, pl4, ne4, rfl, hTl, hbC, hQ', hres⟩; refine zb ?_))
   refine zd ?_
   have hTl := hTl.low l3
   have hB' := hB.trans hbC
   clear C30 C68 hbC hQ hB q0 q1 q2 q3 q4 q5 q6 e32 hR'
   have hQ := hQ'
   have hB := hB'
   clear hQ' hB'
   obtain ⟨ln, hln⟩ : ∃ q, Hid (q = ys.length) := ⟨_, (rfl : ys.length = _)⟩
   rw [<- hln.out]
   rcases hres with ⟨rfl, rfl, ctx, hRR⟩ | ⟨he, rfl, hRR⟩
   focus
    have htl := zP (by decide) ctx
    have hM : zq [125] (za L k4 en) = .ok () (za L (k4 + 1) en) := by unfold zq; rw [zi ctx, htl]
    have C67 : Calls Tryz.prog 67 #[.pointer (some ⟨g, 0, none⟩), .string ⟨#[125]⟩] u4 fun r w' => r = .returned (.tuple #[]) /\ KL B g L a c en ne4 (d + 1) (zq [125] (za L k4 en)) w' /\ But g u4 w' := Xq g L a c k4 en ne4 (d + 1) ⟨#[125]⟩ (by decide) u4 hQ
    rw [hM] at C67
    rw [htl] at hRR
    have HRR : Hid _ := hRR
    clear hRR hM htl ctx
    go_wp2_with (go_at_call 67; refine C67.mono ?_; rintro _ z1 ⟨rfl, ⟨k5, hk5, hQ'⟩, hbC⟩; refine zb ?_)
   rotate_left
   focus
    have C67 := Zo g L a c L.length en er4 pl4 ne4 (d + 1) he ⟨#[125]⟩ (by decide) u4 hQ
    have HRR : Hid _ := hRR
    clear hRR
    go_wp2_with (go_at_call 67; refine C67.mono ?_; rintro _ z1 ⟨rfl, hQ', hbC⟩; refine zb ?_)
   rotate_left
   all_goals
    refine zd ?_
    have hB' := hB.trans hbC
    have hTl := hTl.but hbC (.inl lg)
    clear C67 hbC hQ hB
    have hQ := hQ'
    have hB := hB'
    clear hQ' hB'
    have hA2 := hQ.cell
    obtain ⟨q0, q1, q2, q3, q4, q5, q6⟩ := zv hA2
    have hkl := hQ.le
    have hw1 : IntKind.i64.wrap (((d + 1 : Nat) : Int) - 1) = ((d : Nat) : Int) := by rw [IntKind.wrap_i64]; omega
    go_wp2_with (refine zz rfl rfl hA2 6 (.int .i64 ((d : Nat) : Int)) rfl (by first | rfl | (simp only [hw1]; rfl) | (show Value.int _ _ = _; rw [hw1])) i3 ?_; intro z2 hA3 hbS; refine zb ?_)
    refine zd ?_
   focus
    have hA3 : At 71 z2 g (q7 a L.length c k5 en 0 0 ne4 (d)) := hA3
   rotate_left
   focus
    have hA3 : At 71 z2 g (q7 a L.length c L.length en er4 pl4 ne4 (d)) := hA3
   rotate_left
   all_goals
    have hQ' := hQ.set hA3 hbS hkl
    have hB' := hB.trans hbS
    have hTl := hTl.but hbS (.inl lg)
    clear hA2 hA3 hbS hkl q0 q1 q2 q3 q4 q5 q6 hw1 hQ hB
    have hQ := hQ'
    have hB := hB'
    clear hQ' hB'
    go_wp2_with fail
    go_ret
   ·exact ⟨ys, aa, cc, k5, 0, 0, ne4, by rw [hln.out]; rfl, hTl, hB, hQ, by rw [HRR.out]; exact ⟨rfl, rfl, hk5.symm⟩, fun ss l q => by rw [HRR.out] at q; cases q; rfl⟩
   ·exact ⟨ys, aa, cc, L.length, er4, pl4, ne4, by rw [hln.out]; rfl, hTl, hB, hQ, by rw [HRR.out]; exact ⟨rfl, rfl, rfl, he⟩, fun ss l q => by rw [HRR.out] at q; cases q⟩
 ·have C30 : Calls Tryz.prog 30 #[.pointer (some ⟨g, 0, none⟩)] u3 fun r w' => r = .returned (.bool false) /\ w' = u3 := by
   have := zJ g L.length a c L.length en 4 pa ne (d + 1) u3 hQ.cell
   rw [zN (by decide), Bool.false_and] at this
   exact this
  go_wp2_with (go_at_call 30; refine C30.mono ?_; rintro _ wq ⟨rfl, hwq⟩; obtain rfl : u3 = wq := hwq.symm; clear hwq; refine zb ?_)
  refine zd ?_
  clear C30
  have C68 := YH g L a c L.length en 4 pa ne (d + 1) (by decide) _ hQ
  have C67 := Zo g L a c L.length en 4 pa ne (d + 1) (by decide) ⟨#[125]⟩ (by decide) _ hQ
  go_wp2_with (first
   | (go_at_call 68; refine C68.mono ?_; rintro _ wq ⟨rfl, hwq⟩; obtain rfl : u3 = wq := hwq.symm; clear hwq)
   | (go_at_call 67; refine C67.mono ?_; rintro _ z1 ⟨rfl, hQ', hbC⟩; refine zb ?_))
  refine zd ?_
  have hB' := hB.trans hbC
  clear C68 C67 hbC hQ hB
  have hQ := hQ'
  have hB := hB'
  clear hQ' hB'
  have hA2 := hQ.cell
  obtain ⟨q0, q1, q2, q3, q4, q5, q6⟩ := zv hA2
  have hkl := hQ.le
  have hw1 : IntKind.i64.wrap (((d + 1 : Nat) : Int) - 1) = ((d : Nat) : Int) := by rw [IntKind.wrap_i64]; omega
  go_wp2_with (refine zz rfl rfl hA2 6 (.int .i64 ((d : Nat) : Int)) rfl (by first | rfl | (simp only [hw1]; rfl) | (show Value.int _ _ = _; rw [hw1])) i3 ?_; intro z2 hA3 hbS; refine zb ?_)
  refine zd ?_
  have hA3 : At 71 z2 g (q7 a L.length c L.length en 4 pa ne (d)) := hA3
  have hQ' := hQ.set hA3 hbS hkl
  have hB' := hB.trans hbS
  clear hA2 hA3 hbS hkl q0 q1 q2 q3 q4 q5 q6 hw1 hQ hB
  have hQ := hQ'
  have hB := hB'
  clear hQ' hB'
  go_wp2_with fail
  go_ret
  exact ⟨[], none, 0, L.length, 4, pa, ne, rfl, Tl.nil _ _, hB, hQ, by rw [hR'.out]; exact ⟨rfl, rfl, rfl, by decide⟩, fun ss l q => by rw [hR'.out] at q; cases q⟩
theorem qc (f d : Nat) (hd : d <= 32) (hS : d < 32 -> ∀ f', f' + 1 < f -> StW f' (d + 1)) : BlG f d := by
 intro S B g L a c k en er pl ne u hok hL hSt hf h hB
 cases S with
 | bad e p =>
  obtain ⟨rfl, rfl, rfl, he⟩ := hSt
  refine (qd g L a c _ en er pl ne d he (by omega) u h).mono ?_
  rintro r u' ⟨rfl, hq, hb⟩
  exact ⟨[], none, 0, _, _, _, _, rfl, Tl.nil _ _, hb, hq, ⟨rfl, rfl, rfl, he⟩, fun ss l q => by cases q⟩
 | ok x l =>
  obtain ⟨rfl, rfl, rfl⟩ := hSt
  have hf := hf _ rfl
  obtain ⟨f, rfl⟩ : ∃ q, f = q + 1 := ⟨f - 1, by omega⟩
  exact zag f d hd (fun q f' h' => hS q f' (by omega)) B g L a c k en ne u hok hL hf h hB
theorem zhm (f : Nat) : ∀ d, d <= 32 -> StW f d /\ BlG f d := by
 induction f using Nat.strongRecOn with
 | _ f ih =>
  intro d hd
  refine ⟨?_, qc f d hd fun q f' h' => (ih f' (by omega) (d + 1) (by omega)).1⟩
  intro B g L a c k en ne w hok hL hf h hB
  obtain ⟨f, rfl⟩ : ∃ q, f = q + 1 := ⟨f - 1, by omega⟩
  exact zbi f d (ih f (by omega) d hd).2 (fun f' e => (ih f' (by omega) d hd).2) g L a c k en ne hok hL w hf h hB
theorem j5 (f d : Nat) (hd : d <= 32) (B g : Nat) (L : List Tk) (a : Option Addr) (c k en ne : Nat) (w : World) (hok : ∀ t ∈ L, Zd t) (hL : L.length <= 1048575) (hf : 4 * (za L k en).length + 4 <= f) (h : Qd B w g L a c k en 0 0 ne d) (hBw : B <= w.heap.size) :
  Calls Tryz.prog 68 #[.pointer (some ⟨g, 0, none⟩)] w (ze3 B g L a c en d w (stmtsR f d (za L k en))) :=
 Jy f d (fun f' _ => (zhm f' d hd).1) B g L a c k en ne w hok hL hf h hBw
theorem JS {B : Nat} (g : Nat) (L : List Tk) (a : Option Addr) (c k en er pl ne bl : Nat) (he : er ≠ 0) (w : World) (h : Qd B w g L a c k en er pl ne bl) :
  Calls Tryz.prog 66 #[.pointer (some ⟨g, 0, none⟩)] w fun r w' => r = .returned (.string ⟨#[]⟩) /\ Qd B w' g L a c L.length en er pl ne bl /\ But g w w' := by
 have HQ : Hid (Qd B w g L a c k en er pl ne bl) := h
 have HO : Hid (∀ u, At 71 u g (q7 a L.length c k en er pl ne bl) -> Calls Tryz.prog 30 #[.pointer (some ⟨g, 0, none⟩)] u fun r w' => r = .returned (.bool false) /\ w' = u) := fun u hu => by
  have := zJ g L.length a c k en er pl ne bl u hu
  rw [zN he, Bool.false_and] at this
  exact this
 have HN : Hid (∀ u, Qd B u g L a c k en er pl ne bl -> Calls Tryz.prog 41 #[.pointer (some ⟨g, 0, none⟩)] u fun r w' => r = .returned (.int .i64 ((hdT (za L k en)).place : Int)) /\ ∃ m, w' = u.drewN m) := fun u hu => ZU g L a c k en er pl ne bl u hu
 generalize (hdT (za L k en)).place = p at HN
 have HB : Hid (∀ u, Qd B u g L a c k en er pl ne bl -> Calls Tryz.prog 40 #[.pointer (some ⟨g, 0, none⟩), .int .i64 4, .int .i64 (p : Int)] u fun r w' => r = .returned (.tuple #[]) /\ Qd B w' g L a c L.length en er pl ne bl /\ But g u w') := fun u hu => by
  have := YJ g L a c k en er pl ne bl 4 p u hu
  simpa [he] using this
 clear h he
 go_enter Tryz.func66, Tryz.ntmps66
 go_wp2_with fail
 have hS0r : At 71 w.drew g (q7 a L.length c k en er pl ne bl) := HQ.out.cell.drew
 refine wp_region_held_drew (S := fun xS => At 71 xS g (q7 a L.length c k en er pl ne bl)) (by kernel_rfl) hS0r ?_
 have hQ0 : Qd B w.drew g L a c k en er pl ne bl := HQ.out.below (Below.drew (Below.refl _ _))
 have hB0 : Below w.heap.size w w.drew := Below.drew (Below.refl _ _)
 obtain ⟨x0r, hx0⟩ : ∃ x, x = w.drew := ⟨_, rfl⟩
 rw [<- hx0] at hS0r hQ0 hB0 ⊢
 clear hx0
 intro _
 refine tY 0 (.pointer (some ⟨g, 0, none⟩)) (oi := { dst := some 3, op := .move (.tmp 0), guard := none, .. }) rfl hS0r ?_ ?_
 ·intro wS hSw
  go_simp
 simp only [Act.put, sA, sB, sC]
 refine wpAnyH_ready (rs := [1]) (by kernel_rfl) (by simp) ?_
 refine AllReadyH.cons (o := { dst := some 4, op := .call { callee := .value (.func 30), args := #[.tmp 3], argTypes := #[69] }, guard := none, .. }) rfl (fun K hK => ?_) AllReadyH.nil
 rw [zi (by rfl)]
 go_wp2_with (go_at_call 30; refine (HO.out _ hS0r).mono ?_; rintro _ x1r ⟨rfl, hx1r⟩; obtain rfl : x0r = x1r := hx1r.symm; clear hx1r)
 refine hK.out _ _ hS0r (fun _ => ?_)
 clear hK K
 refine tY 2 (.bool false) (oi := { dst := some 5, op := .move (.tmp 4), guard := none, .. }) rfl hS0r ?_ ?_
 ·intro wS hSw
  go_simp
 simp only [Act.put, sA, sB, sC]
 refine tN 3 (oi := { dst := some 6, op := .move (.tmp 0), guard := some (2, true), .. }) rfl hS0r ?_
 simp only [Act.put, sA, sB, sC]
 refine tN 4 (oi := { dst := some 7, op := .nilCheck (.tmp 6), guard := some (2, true), .. }) rfl hS0r ?_
 simp only [Act.put, sA, sB, sC]
 refine tN 5 (oi := { dst := some 8, op := .fieldAddr 71 (.tmp 7) 1, guard := some (2, true), .. }) rfl hS0r ?_
 simp only [Act.put, sA, sB, sC]
 refine tN 6 (oi := { dst := some 9, op := .load 3 (.tmp 8), guard := some (2, true), .. }) rfl hS0r ?_
 simp only [Act.put, sA, sB, sC]
 refine tN 7 (oi := { dst := some 10, op := .move (.tmp 0), guard := some (2, true), .. }) rfl hS0r ?_
 simp only [Act.put, sA, sB, sC]
 refine tN 8 (oi := { dst := some 11, op := .nilCheck (.tmp 10), guard := some (2, true), .. }) rfl hS0r ?_
 simp only [Act.put, sA, sB, sC]
 refine tN 9 (oi := { dst := some 12, op := .fieldAddr 71 (.tmp 11) 0, guard := some (2, true), .. }) rfl hS0r ?_
 simp only [Act.put, sA, sB, sC]
 refine tN 10 (oi := { dst := some 13, op := .load 60 (.tmp 12), guard := some (2, true), .. }) rfl hS0r ?_
 simp only [Act.put, sA, sB, sC]
 refine tN 11 (oi := { dst := some 14, op := .call { callee := .builtin .len, args := #[.tmp 13], argTypes := #[60] }, guard := some (2, true), .. }) rfl hS0r ?_
 simp only [Act.put, sA, sB, sC]
 refine tN 12 (oi := { dst := some 15, op := .binOp .lss 3 (.tmp 9) (.tmp 14) 3, guard := some (2, true), .. }) rfl hS0r ?_
 simp only [Act.put, sA, sB, sC]
 refine tY 13 (.bool false) (oi := { dst := some 16, op := .pick (.tmp 5) (.tmp 15) (.const (.bool false)), guard := none, .. }) rfl hS0r ?_ ?_
 ·intro wS hSw
  go_simp
 simp only [Act.put, sA, sB, sC]
 refine tY 14 (.bool false) (oi := { dst := some 17, op := .move (.tmp 16), guard := none, .. }) rfl hS0r ?_ ?_
 ·intro wS hSw
  go_simp
 simp only [Act.put, sA, sB, sC]
 refine tN 15 (oi := { dst := some 18, op := .move (.tmp 0), guard := some (14, true), .. }) rfl hS0r ?_
 simp only [Act.put, sA, sB, sC]
 refine tN 16 (oi := { dst := some 19, op := .nilCheck (.tmp 18), guard := some (14, true), .. }) rfl hS0r ?_
 simp only [Act.put, sA, sB, sC]
 refine tN 17 (oi := { dst := some 20, op := .fieldAddr 71 (.tmp 19) 0, guard := some (14, true), .. }) rfl hS0r ?_
 simp only [Act.put, sA, sB, sC]
 refine tN 18 (oi := { dst := some 21, op := .load 60 (.tmp 20), guard := some (14, true), .. }) rfl hS0r ?_
 simp only [Act.put, sA, sB, sC]
 refine tN 19 (oi := { dst := some 22, op := .move (.tmp 0), guard := some (14, true), .. }) rfl hS0r ?_
 simp only [Act.put, sA, sB, sC]
 refine tN 20 (oi := { dst := some 23, op := .nilCheck (.tmp 22), guard := some (14, true), .. }) rfl hS0r ?_
 simp only [Act.put, sA, sB, sC]
 refine tN 21 (oi := { dst := some 24, op := .fieldAddr 71 (.tmp 23) 1, guard := some (14, true), .. }) rfl hS0r ?_
 simp only [Act.put, sA, sB, sC]
 refine tN 22 (oi := { dst := some 25, op := .load 3 (.tmp 24), guard := some (14, true), .. }) rfl hS0r ?_
 simp only [Act.put, sA, sB, sC]
 refine tN 23 (oi := { dst := some 26, op := .indexAddr 60 (.tmp 21) (.tmp 25), guard := some (14, true), .. }) rfl hS0r ?_
 simp only [Act.put, sA, sB, sC]
 refine tN 24 (oi := { dst := some 27, op := .fieldAddr 64 (.tmp 26) 1, guard := some (14, true), .. }) rfl hS0r ?_
 simp only [Act.put, sA, sB, sC]
 refine tN 25 (oi := { dst := some 28, op := .load 9 (.tmp 27), guard := some (14, true), .. }) rfl hS0r ?_
 simp only [Act.put, sA, sB, sC]
 refine tN 26 (oi := { dst := some 29, op := .call { callee := .value (.func 103), args := #[.tmp 28], argTypes := #[9] }, guard := some (14, true), .. }) rfl hS0r ?_
 simp only [Act.put, sA, sB, sC]
 refine tY 27 (.bool false) (oi := { dst := some 30, op := .pick (.tmp 17) (.tmp 29) (.const (.bool false)), guard := none, .. }) rfl hS0r ?_ ?_
 ·intro wS hSw
  go_simp
 simp only [Act.put, sA, sB, sC]
 refine wpAnyH_done (by kernel_rfl) ?_ _
 go_wp2_with (first
  | (go_at_call 41; refine (HN.out _ hQ0).mono ?_; rintro r w2 ⟨rfl, m, rfl⟩)
  | (go_at_call 40; refine (HB.out _ (hQ0.drewN m)).mono ?_; rintro r w3 ⟨rfl, hR3, hb3⟩))
 go_ret
 exact ⟨rfl, hR3, ((But.of_below hB0).drewN m).trans hb3⟩
theorem zaw {B : Nat} (g : Nat) (L : List Tk) (a : Option Addr) (c k en er pl ne bl : Nat) (S : Rs Unit) (hS : StOf L en k er pl S) (w : World) (h : Qd B w g L a c k en er pl ne bl) (hBw : B <= w.heap.size) :
  Calls Tryz.prog 66 #[.pointer (some ⟨g, 0, none⟩)] w fun r w' => ∃ (nm : ByteArray) (k' er' pl' : Nat), r = .returned (.string nm) /\ Qd B w' g L a c k' en er' pl' ne bl /\ But g w w' /\ StOf L en k' er' pl' (S.andThen fun _ l => zM l) /\ ∀ x l, (S.andThen fun _ l => zM l) = .ok x l -> nm = ⟨x.toArray⟩ := by
 cases S with
 | bad e p =>
  obtain ⟨rfl, rfl, rfl, he⟩ := hS
  refine (JS g L a c _ en er pl ne bl he w h).mono ?_
  rintro r w' ⟨rfl, hq, hb⟩
  exact ⟨⟨#[]⟩, _, _, _, rfl, hq, hb, ⟨rfl, rfl, rfl, he⟩, fun x l q => by cases q⟩
 | ok v l =>
  obtain ⟨rfl, rfl, rfl⟩ := hS
  refine (Ya g L a c k en ne bl w h hBw).mono ?_
  rintro r w' ⟨rfl, hq, hb⟩
  show ∃ (nm : ByteArray) (k' er' pl' : Nat), _ /\ Qd B w' g L a c k' en er' pl' ne bl /\ But g w w' /\ StOf L en k' er' pl' (zM (za L k en)) /\ ∀ x l, zM (za L k en) = .ok x l -> nm = ⟨x.toArray⟩
  have hnz : ∀ e p, zM (za L k en) = .bad e p -> e ≠ 0 := fun e p q => by
   unfold zM at q
   split at q
   ·cases q
   ·cases q; decide
  cases hN : zM (za L k en) with
  | ok x l =>
   rw [hN] at hq
   obtain ⟨k', hk', hq⟩ := hq
   exact ⟨_, k', 0, 0, rfl, hq, hb, ⟨rfl, rfl, hk'.symm⟩, fun x' l' q => by cases q; rfl⟩
  | bad e p =>
   rw [hN] at hq
   exact ⟨_, L.length, e, p, rfl, hq, hb, ⟨rfl, rfl, rfl, hnz e p hN⟩, fun x' l' q => by cases q⟩
theorem zcJ {B : Nat} {β : Type} (g : Nat) (L : List Tk) (a : Option Addr) (c k en er pl ne : Nat) (hok : ∀ t ∈ L, Zd t) (hL : L.length <= 1048575) (E : Rs β) (K : List St -> List Tk -> Rs β)
  (hE : (er = 0 /\ pl = 0 /\ E = (stmtsR (4 * (za L k en).length + 4) 0 (za L k en)).bind K) \/ (er ≠ 0 /\ k = L.length /\ E = .bad er pl)) (w : World) (h : Qd B w g L a c k en er pl ne 0) (hBw : B <= w.heap.size) :
  Calls Tryz.prog 68 #[.pointer (some ⟨g, 0, none⟩)] w fun r w' => ∃ (ys : List ST) (aa : Option Addr) (cc k' er' pl' ne' : Nat), r = .returned (.slice aa ys.length cc) /\ Tl w.heap.size w' aa cc ys /\ But g w w' /\ Qd B w' g L a c k' en er' pl' ne' 0 /\
   ((er' = 0 /\ pl' = 0 /\ (hdT (za L k' en)).text = [125] /\ E = K (ys.map ST.st) (za L k' en).tail) \/ (er' ≠ 0 /\ k' = L.length /\ E = .bad er' pl')) := by
 rcases hE with ⟨rfl, rfl, hE⟩ | ⟨he, rfl, hE⟩
 ·refine (j5 _ 0 (by decide) B g L a c k en ne w hok hL (zj _) h hBw).mono ?_
  rintro r w' ⟨ys, aa, cc, k', er', pl', ne', rfl, hT, hb, hq, hD⟩
  refine ⟨ys, aa, cc, k', er', pl', ne', rfl, hT, hb, hq, ?_⟩
  rcases hD with ⟨h1, h2, h3, h4⟩ | ⟨h1, h2, h3⟩
  ·exact .inl ⟨h1, h2, h3, by rw [hE, h4]; rfl⟩
  ·exact .inr ⟨h1, h2, by rw [hE, h3]; rfl⟩
 ·refine (YH g L a c _ en er pl ne 0 he w h).mono ?_
  rintro r w' ⟨rfl, rfl⟩
  exact ⟨[], none, 0, _, er, pl, ne, rfl, Tl.nil _ _, But.refl _ _, h, .inr ⟨he, rfl, hE⟩⟩
theorem zdl {B : Nat} {β : Type} (g : Nat) (L : List Tk) (a : Option Addr) (c k en er pl ne : Nat) (E : Rs β) (K : List Tk -> Rs β)
  (hE : (er = 0 /\ pl = 0 /\ (hdT (za L k en)).text = [125] /\ E = K (za L k en).tail) \/ (er ≠ 0 /\ k = L.length /\ E = .bad er pl)) (w : World) (h : Qd B w g L a c k en er pl ne 0) :
  Calls Tryz.prog 67 #[.pointer (some ⟨g, 0, none⟩), .string ⟨#[125]⟩] w fun r w' => r = .returned (.tuple #[]) /\ ∃ k' er' pl', Qd B w' g L a c k' en er' pl' ne 0 /\ But g w w' /\
   ((er' = 0 /\ pl' = 0 /\ L.length - k' < L.length - k /\ E = K (za L k' en)) \/ (er' ≠ 0 /\ k' = L.length /\ E = .bad er' pl')) := by
 rcases hE with ⟨rfl, rfl, ctx, hE⟩ | ⟨he, rfl, hE⟩
 ·have htl := zP (by decide) ctx
  have hlt := yl (l := za L k en) (by rw [ctx]; decide)
  have hM : zq [125] (za L k en) = .ok () (za L (k + 1) en) := by unfold zq; rw [zi ctx, htl]
  have C67 : Calls Tryz.prog 67 #[.pointer (some ⟨g, 0, none⟩), .string ⟨#[125]⟩] w fun r w' => r = .returned (.tuple #[]) /\ KL B g L a c en ne 0 (zq [125] (za L k en)) w' /\ But g w w' := Xq g L a c k en ne 0 ⟨#[125]⟩ (by decide) w h
  rw [hM] at C67
  refine C67.mono ?_
  rintro r w' ⟨rfl, ⟨k', hk', hq⟩, hb⟩
  rw [htl, hk', zH, zH] at hlt
  exact ⟨rfl, k', 0, 0, hq, hb, .inl ⟨rfl, rfl, by omega, by rw [hE, htl, hk']⟩⟩
 ·refine (Zo g L a c _ en er pl ne 0 he ⟨#[125]⟩ (by decide) w h).mono ?_
  rintro r w' ⟨rfl, hq, hb⟩
  exact ⟨rfl, _, er, pl, hq, hb, .inr ⟨he, rfl, hE⟩⟩
