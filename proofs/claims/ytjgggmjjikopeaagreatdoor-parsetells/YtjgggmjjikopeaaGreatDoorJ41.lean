/- J -/
import Derived.Test.YtjgggmjjikopeaaGreatDoorJ40
set_option linter.unusedVariables false
set_option maxRecDepth 100000
open Go.RowKit
namespace Go.Proofs.YtjgggmjjikopeaaGreatDoor
theorem zd4 {B : Nat} (g : Nat) (L : List Tk) (a : Option Addr) (c k en ne bl : Nat) (w : World) (h : Qd B w g L a c k en 0 0 ne bl) (hBw : B <= w.heap.size) :
  Calls Tryz.prog 66 #[.pointer (some ⟨g, 0, none⟩)] w fun r w' => ∃ (nm : ByteArray) (k' er' pl' : Nat), r = .returned (.string nm) /\ Qd B w' g L a c k' en er' pl' ne bl /\ But g w w' /\ StOf L en k' er' pl' (zM (za L k en)) /\ ∀ x l, zM (za L k en) = .ok x l -> nm = ⟨x.toArray⟩ :=
 zaw g L a c k en 0 0 ne bl (.ok () (za L k en)) ⟨rfl, rfl, rfl⟩ w h hBw
theorem zax {x : List UInt8} {m : ByteArray} (h : m = ⟨x.toArray⟩) : m.data.toList = x := by rw [h]
def zcv (B g : Nat) (L : List Tk) (a : Option Addr) (c en : Nat) (w : World) (D : Rs Pg) (r : Ending) (w' : World) : Prop :=
 ∃ (y : PT) (k er pl ne : Nat), r = .returned (.agg y.cells.toArray) /\ y.In w'.heap.size w' /\ y.Lies (fun q => w.heap.size <= q) /\ But g w w' /\ Qd B w' g L a c k en er pl ne 0 /\ ((er = 0 /\ pl = 0 /\ ∃ r, D = .ok y.pg r) \/ (er ≠ 0 /\ D = .bad er pl))
set_option maxHeartbeats 51200000 in
theorem KX {B : Nat} (g : Nat) (L : List Tk) (a : Option Addr) (c k en ne : Nat) (w : World) (hok : ∀ t ∈ L, Zd t) (hlit : ∀ t ∈ L, Yk t) (hL : L.length <= 1048575) (h : Qd B w g L a c k en 0 0 ne 0) (hBw : B <= w.heap.size) :
  Calls Tryz.prog 29 #[.pointer (some ⟨g, 0, none⟩)] w (zcv B g L a c en w ((yf (za L k en)).bind fun p r => (Zc r).bind fun _ r => .ok p r)) := by
 have lg := h.lt
 have HQ : Hid (Qd B w g L a c k en 0 0 ne 0) := h
 have HOK : Hid (∀ t ∈ L, Zd t) := hok
 have HLI : Hid (∀ t ∈ L, Yk t) := hlit
 have hkl := h.le
 clear h hok hlit
 obtain ⟨D, hD⟩ : ∃ D, Hid (D = (yf (za L k en)).bind fun p r => (Zc r).bind fun _ r => .ok p r) := ⟨_, (rfl : ((yf (za L k en)).bind fun p r => (Zc r).bind fun _ r => .ok p r) = _)⟩
 rw [<- hD.out]
 unfold yf at hD
 go_enter Tryz.func29, Tryz.ntmps29
 go_wp2_with (first
  | (refine aL (o := { dst := some 2, .. }) rfl rfl VB ?_; intro w1 hA2 hb1)
  | (refine aL (o := { dst := some 3, .. }) rfl rfl VB ?_; intro w5 hA3 hb2; refine zb ?_))
 refine zd ?_
 have l01 := hA2.lt
 have hw5 : Below w.heap.size w w5 := hb1.trans (hb2.mono hb1.size)
 have hA2 := hA2.below hb2
 obtain ⟨g3, hg3⟩ : ∃ q, q = w1.heap.size := ⟨_, rfl⟩
 rw [<- hg3] at hA3 ⊢
 have lg3 : w.heap.size < g3 := by omega
 obtain ⟨M, hM⟩ : ∃ q, q = w5.heap.size := ⟨_, rfl⟩
 have hg3M : g3 < M := by rw [hM]; exact hA3.lt
 have HI : Hid (∃ (k er pl ne f' : Nat) (aV : Option Addr) (k1 cV : Nat) (vs : List VT) (aN : Option Addr) (k2 cM : Nat) (ms : List ByteArray), (vs.length = k1 /\ ms.length = k2) /\ At 26 w5 g3 [.slice aV k1 cV, .slice aN k2 cM, .slice none 0 0] /\ At 26 w5 w.heap.size [.slice none 0 0, .slice none 0 0, .slice none 0 0] /\ (Gr eV M w5 (.slice aV k1 cV) vs /\ Gr eN M w5 (.slice aN k2 cM) ms) /\ Qd B w5 g L a c k en er pl ne 0 /\ But g w w5 /\ k1 + k2 <= 1048576 /\ M <= w5.heap.size /\ ((er = 0 /\ pl = 0 /\ k1 + k2 + (L.length - k) <= L.length /\ (za L k en).length + 1 <= f' /\ D = ((yx f' (za L k en)).bind fun x r => .ok (vs.map VT.vr ++ x.1, ms.map (fun m => m.data.toList) ++ x.2) r).bind fun x r => (zA (r.length + 1) r).bind fun ts r => (Zc r).bind fun _ r => .ok (⟨x.1, x.2, ts⟩ : Pg) r) \/ (er ≠ 0 /\ k = L.length /\ D = .bad er pl))) := by
  refine ⟨k, 0, 0, ne, (za L k en).length + 1, none, 0, 0, [], none, 0, 0, [], ⟨rfl, rfl⟩, hA3, hA2, ⟨Gr.nil (by omega), Gr.nil (by omega)⟩, HQ.out.below hw5, But.of_below hw5, by omega, by omega, .inl ⟨rfl, rfl, by omega, zj _, ?_⟩⟩
  rw [hD.out]
  cases yx ((za L k en).length + 1) (za L k en) with
  | bad e p => rfl
  | ok x r =>
   show ((zA (r.length + 1) r).bind fun ts r => .ok (⟨x.1, x.2, ts⟩ : Pg) r).bind _ = _
   rw [Rs.bind_bind]
   rfl
 clear hb1 hb2 hw5 hA2 hA3 hg3 hM HQ hD
 go_wp2_with fail
 go_loopw [6] (fun _ wr => Hid (∃ (k er pl ne f' : Nat) (aV : Option Addr) (k1 cV : Nat) (vs : List VT) (aN : Option Addr) (k2 cM : Nat) (ms : List ByteArray), (vs.length = k1 /\ ms.length = k2) /\ At 26 wr g3 [.slice aV k1 cV, .slice aN k2 cM, .slice none 0 0] /\ At 26 wr w.heap.size [.slice none 0 0, .slice none 0 0, .slice none 0 0] /\ (Gr eV M wr (.slice aV k1 cV) vs /\ Gr eN M wr (.slice aN k2 cM) ms) /\ Qd B wr g L a c k en er pl ne 0 /\ But g w wr /\ k1 + k2 <= 1048576 /\ M <= wr.heap.size /\ ((er = 0 /\ pl = 0 /\ k1 + k2 + (L.length - k) <= L.length /\ (za L k en).length + 1 <= f' /\ D = ((yx f' (za L k en)).bind fun x r => .ok (vs.map VT.vr ++ x.1, ms.map (fun m => m.data.toList) ++ x.2) r).bind fun x r => (zA (r.length + 1) r).bind fun ts r => (Zc r).bind fun _ r => .ok (⟨x.1, x.2, ts⟩ : Pg) r) \/ (er ≠ 0 /\ k = L.length /\ D = .bad er pl)))) (fun _ wr => 2 * (L.length - cN wr g 1) + (if cN wr g 3 = 0 then 1 else 0))
 case atStart => exact HI
 case round =>
  clear HI
  obtain ⟨k, er, pl, ne, f', aV, k1, cV, vs, aN, k2, cM, ms, ⟨hl1, hl2⟩, hA3, hA2, ⟨hGV, hGN⟩, hQ, hbt, hkk, lM, hDD⟩ := hrel.out
  clear hrel
  have hme := hQ.cN1
  have hkl := hQ.le
  have lr := hbt.size
  by_cases hcs : er = 0 /\ ((hdT (za L k en)).text = [115, 104, 97, 114, 101, 100] \/ (hdT (za L k en)).text = [109, 117, 116, 101, 120])
  ·obtain ⟨he, hcs⟩ := hcs
   rcases hDD with ⟨-, rfl, hkL, hf', hD⟩ | ⟨q, -, -⟩
   case inr => exact absurd he q
   subst he
   obtain ⟨f', rfl⟩ : ∃ q, f' = q + 1 := ⟨f' - 1, by omega⟩
   have HD : Hid (D = ((yx (f' + 1) (za L k en)).bind fun x r => .ok (vs.map VT.vr ++ x.1, ms.map (fun m => m.data.toList) ++ x.2) r).bind fun x r => (zA (r.length + 1) r).bind fun ts r => (Zc r).bind fun _ r => .ok (⟨x.1, x.2, ts⟩ : Pg) r) := hD
   rw [yx] at HD
   clear hD
   have C30 : Calls Tryz.prog 30 #[.pointer (some ⟨g, 0, none⟩)] wr fun r w' => r = .returned (.bool true) /\ w' = wr := zJ g L.length a c k en 0 0 ne 0 wr hQ.cell
   have H63 : Hid (∀ (x : ByteArray) (u : World), bytes x ≠ [] -> Qd B u g L a c k en 0 0 ne 0 -> Calls Tryz.prog 63 #[.pointer (some ⟨g, 0, none⟩), .string x] u fun r w' => r = .returned (.bool (decide ((hdT (za L k en)).text = bytes x))) /\ Below u.heap.size u w') := fun x u hx hu => (YT g L a c k en 0 0 ne 0 x hx u hu).mono (by rintro r w' ⟨rfl, m, rfl⟩; exact ⟨by rw [Xb], below_drewN u m⟩)
   have H64 : Hid (∀ (u : World), Qd B u g L a c k en 0 0 ne 0 -> Calls Tryz.prog 64 #[.pointer (some ⟨g, 0, none⟩), .string ⟨#[115, 104, 97, 114, 101, 100]⟩] u fun r w' => r = .returned (.bool (decide ((hdT (za L k en)).text = [115, 104, 97, 114, 101, 100]))) /\ Qd B w' g L a c (if (hdT (za L k en)).text = [115, 104, 97, 114, 101, 100] then k + 1 else k) en 0 0 ne 0 /\ But g u w') := fun u hu => (Zs g L a c k en 0 0 ne 0 ⟨#[115, 104, 97, 114, 101, 100]⟩ (by decide) u hu).mono (by
    rintro r w' ⟨rfl, hq, hb⟩
    rw [Xb] at hq ⊢
    simp only [Yz] at hq
    exact ⟨rfl, hq, hb⟩)
   by_cases c0 : (hdT (za L k en)).text = [115, 104, 97, 114, 101, 100]
   focus
    rw [zi c0] at HD
    have htl := yl (l := za L k en) (by rw [c0]; decide)
    have hta := zP (by decide) c0
   rotate_left
   focus
    rw [ze c0] at HD
    have c1 : (hdT (za L k en)).text = [109, 117, 116, 101, 120] := hcs.resolve_left c0
    rw [zi c1] at HD
    have htl := yl (l := za L k en) (by rw [c1]; decide)
    have hta := zP (by decide) c1
   rotate_left
   all_goals
    rw [hta] at HD htl
    have hk1 : k < L.length := by rw [zH, zH] at htl; omega
   focus
    have H63a : Hid (∀ u, Qd B u g L a c k en 0 0 ne 0 -> Calls Tryz.prog 63 #[.pointer (some ⟨g, 0, none⟩), .string ⟨#[115, 104, 97, 114, 101, 100]⟩] u fun r w' => r = .returned (.bool true) /\ Below u.heap.size u w') := fun u hu => by
     have := H63.out ⟨#[115, 104, 97, 114, 101, 100]⟩ u (by decide) hu
     rwa [show bytes ⟨#[115, 104, 97, 114, 101, 100]⟩ = [115, 104, 97, 114, 101, 100] from rfl, yy c0] at this
    have H64a : Hid (∀ u, Qd B u g L a c k en 0 0 ne 0 -> Calls Tryz.prog 64 #[.pointer (some ⟨g, 0, none⟩), .string ⟨#[115, 104, 97, 114, 101, 100]⟩] u fun r w' => r = .returned (.bool true) /\ Qd B w' g L a c (k + 1) en 0 0 ne 0 /\ But g u w') := fun u hu => by
     have := H64.out u hu
     rwa [yy c0, zi c0] at this
    clear H63 H64 c0 hcs hta
    go_wp2_with (first
     | (go_at_call 30; refine C30.mono ?_; rintro _ wq ⟨rfl, hwq⟩; obtain rfl : wr = wq := hwq.symm; clear hwq)
     | (go_at_call 63; refine (H63a.out _ hQ).mono ?_; rintro _ w1' ⟨rfl, hb1⟩)
     | (go_at_call 64; refine (H64a.out _ (hQ.below hb1)).mono ?_; rintro _ w2 ⟨rfl, hQ2, hb2⟩; refine zb ?_))
    refine zd ?_
    have hQ := hQ2
    have l1 := hb1.size
    have l2 := hb2.size
    have hA2 := hb2.at (hA2.below hb1) (by omega)
    have hA3 := hb2.at (hA3.below hb1) (by omega)
    have hGV := (hGV.below hb1).but hb2 (by omega)
    have hGN := (hGN.below hb1).but hb2 (by omega)
    have hbt := (hbt.trans (But.of_below hb1)).trans hb2
    clear C30 H63a H64a hb1 hb2 hQ2
    go_wp2_with fail
    have hvl' := ZH (za L (k + 1) en)
    have hS0r : At 26 w2.drew g3 [.slice aV k1 cV, .slice aN k2 cM, .slice none 0 0] := hA3.drew
   rotate_left
   focus
    have H63a : Hid (∀ u, Qd B u g L a c k en 0 0 ne 0 -> Calls Tryz.prog 63 #[.pointer (some ⟨g, 0, none⟩), .string ⟨#[115, 104, 97, 114, 101, 100]⟩] u fun r w' => r = .returned (.bool false) /\ Below u.heap.size u w') := fun u hu => by
     have := H63.out ⟨#[115, 104, 97, 114, 101, 100]⟩ u (by decide) hu
     rwa [show bytes ⟨#[115, 104, 97, 114, 101, 100]⟩ = [115, 104, 97, 114, 101, 100] from rfl, zN c0] at this
    have H63b : Hid (∀ u, Qd B u g L a c k en 0 0 ne 0 -> Calls Tryz.prog 63 #[.pointer (some ⟨g, 0, none⟩), .string ⟨#[109, 117, 116, 101, 120]⟩] u fun r w' => r = .returned (.bool true) /\ Below u.heap.size u w') := fun u hu => by
     have := H63.out ⟨#[109, 117, 116, 101, 120]⟩ u (by decide) hu
     rwa [show bytes ⟨#[109, 117, 116, 101, 120]⟩ = [109, 117, 116, 101, 120] from rfl, yy c1] at this
    have H64a : Hid (∀ u, Qd B u g L a c k en 0 0 ne 0 -> Calls Tryz.prog 64 #[.pointer (some ⟨g, 0, none⟩), .string ⟨#[115, 104, 97, 114, 101, 100]⟩] u fun r w' => r = .returned (.bool false) /\ Qd B w' g L a c k en 0 0 ne 0 /\ But g u w') := fun u hu => by
     have := H64.out u hu
     rwa [zN c0, ze c0] at this
    clear H63 H64 c0 c1 hcs hta
    have hlen := hQ.len
    go_wp2_with (first
     | (go_at_call 30; refine C30.mono ?_; rintro _ wq ⟨rfl, hwq⟩; obtain rfl : wr = wq := hwq.symm; clear hwq)
     | (go_at_call 63; refine (H63a.out _ hQ).mono ?_; rintro _ w1' ⟨rfl, hb1⟩; refine zb ?_))
    refine zd ?_
    clear H63a C30
    go_wp2_with (first
     | (go_at_call 63; refine (H63b.out _ (hQ.below hb1)).mono ?_; rintro _ w1'' ⟨rfl, hb1'⟩)
     | (go_at_call 64; refine (H64a.out _ ((hQ.below hb1).below hb1')).mono ?_; rintro _ w2 ⟨rfl, hQ2, hb2⟩; refine zb ?_))
    refine zd ?_
    have hQ := hQ2
    have l1 := hb1.size
    have l1' := hb1'.size
    have l2 := hb2.size
    have hA2 := hb2.at ((hA2.below hb1).below hb1') (by omega)
    have hA3 := hb2.at ((hA3.below hb1).below hb1') (by omega)
    have hGV := ((hGV.below hb1).below hb1').but hb2 (by omega)
    have hGN := ((hGN.below hb1).below hb1').but hb2 (by omega)
    have hbt := ((hbt.trans (But.of_below hb1)).trans (But.of_below hb1')).trans hb2
    clear H63b H64a hb1 hb1' hb2 hQ2
    obtain ⟨q0, q1, q2, q3, q4, q5, q6⟩ := zv hQ.cell
    go_wp2_with (first
     | (refine zz rfl rfl hQ.cell 1 (.int .i64 ((k : Int) + 1)) rfl rfl i3 ?_; intro w3 hA7 hb3; refine zb ?_))
    refine zd ?_
    have hQ3 : Qd B w3 g L a c (k + 1) en 0 0 ne 0 := hQ.set hA7 hb3 hk1
    have l3 := hb3.size
    have hA2 := hb3.at hA2 (by omega)
    have hA3 := hb3.at hA3 (by omega)
    have hGV := hGV.but hb3 (by omega)
    have hGN := hGN.but hb3 (by omega)
    have hbt := hbt.trans hb3
    clear q0 q1 q2 q3 q4 q5 q6 hb3 hA7 hQ
    have hQ := hQ3
    clear hQ3
    go_wp2_with fail
    have hvl' := ZM (za L (k + 1) en)
    have hS0r : At 26 w3.drew g3 [.slice aV k1 cV, .slice aN k2 cM, .slice none 0 0] := hA3.drew
   rotate_left
   all_goals
    refine Z1 (S := fun xS => At 26 xS g3 [.slice aV k1 cV, .slice aN k2 cM, .slice none 0 0]) (St := [7]) (by kernel_rfl) hS0r ?_
   focus
    have hB0 : Below w2.heap.size w2 w2.drew := Below.drew (Below.refl _ _)
    obtain ⟨x0r, hx0⟩ : ∃ x, x = w2.drew := ⟨_, rfl⟩
    rw [<- hx0] at hS0r hB0 ⊢
    clear hx0
    intro hH
    refine zS (i := 0) (oi := { dst := some 17, op := .fieldAddr 26 (.tmp 3) 0, guard := none, .. }) (v := .pointer (some ⟨g3, 0, none⟩)) rfl (by kernel_rfl) (by kernel_rfl) (by kernel_rfl) (by kernel_rfl) (fun _ _ _ h => h) (Or.inl ⟨by rfl, ?_⟩) hH (fun hH => ?_)
    ·intro wS hSw
     go_simp
   rotate_left
   focus
    have hB0 : Below w3.heap.size w3 w3.drew := Below.drew (Below.refl _ _)
    obtain ⟨x0r, hx0⟩ : ∃ x, x = w3.drew := ⟨_, rfl⟩
    rw [<- hx0] at hS0r hB0 ⊢
    clear hx0
    intro hH
    refine zS (i := 0) (oi := { dst := some 31, op := .fieldAddr 26 (.tmp 3) 1, guard := none, .. }) (v := .pointer (some ⟨g3, 1, none⟩)) rfl (by kernel_rfl) (by kernel_rfl) (by kernel_rfl) (by kernel_rfl) (fun _ _ _ h => h) (Or.inl ⟨by rfl, ?_⟩) hH (fun hH => ?_)
    ·intro wS hSw
     go_simp
   rotate_left
   all_goals
    simp only [Act.put, sA, sB, sC]
   focus
    refine ZG [5, 6, 7] (i := 1) (oi := { dst := some 18, op := .load 22 (.tmp 17), guard := none, .. }) (v := .slice aV k1 cV) rfl (by kernel_rfl) (by kernel_rfl) (by kernel_rfl) (by kernel_rfl) (by kernel_rfl) (by kernel_rfl) (by kernel_rfl) (fun _ _ _ h => h) (Or.inl ⟨by rfl, ?_⟩) hH (fun hH => ?_)
    ·intro wS hSw
     have z0 := (YB hSw).1
     go_simp
   rotate_left
   focus
    refine ZG [5, 6, 7] (i := 1) (oi := { dst := some 32, op := .load 23 (.tmp 31), guard := none, .. }) (v := .slice aN k2 cM) rfl (by kernel_rfl) (by kernel_rfl) (by kernel_rfl) (by kernel_rfl) (by kernel_rfl) (by kernel_rfl) (by kernel_rfl) (fun _ _ _ h => h) (Or.inl ⟨by rfl, ?_⟩) hH (fun hH => ?_)
    ·intro wS hSw
     have z0 := (YB hSw).2.1
     go_simp
   rotate_left
   all_goals
    simp only [Act.put, sA, sB, sC]
   focus
    refine zS (i := 2) (oi := { dst := some 19, op := .move (.tmp 0), guard := none, .. }) (v := .pointer (some ⟨g, 0, none⟩)) rfl (by kernel_rfl) (by kernel_rfl) (by kernel_rfl) (by kernel_rfl) (fun _ _ _ h => h) (Or.inl ⟨by rfl, ?_⟩) hH (fun hH => ?_)
    ·intro wS hSw
     go_simp
   rotate_left
   focus
    refine zS (i := 2) (oi := { dst := some 33, op := .move (.tmp 0), guard := none, .. }) (v := .pointer (some ⟨g, 0, none⟩)) rfl (by kernel_rfl) (by kernel_rfl) (by kernel_rfl) (by kernel_rfl) (fun _ _ _ h => h) (Or.inl ⟨by rfl, ?_⟩) hH (fun hH => ?_)
    ·intro wS hSw
     go_simp
   rotate_left
   all_goals
    simp only [Act.put, sA, sB, sC]
    refine zE (rs := [3]) (by kernel_rfl) (by simp) ?_
   focus
    refine AllReadyS.cons (o := { dst := some 20, op := .call { callee := .value (.func 65), args := #[.tmp 19], argTypes := #[69] }, guard := none, .. }) rfl (fun K hK => ?_) AllReadyS.nil
    rw [zi (by rfl)]
    have CV := XC g L a c (k + 1) en ne 0 HOK.out HLI.out x0r (hQ.below hB0) (by have := hB0.size; omega)
    go_wp2_with (go_at_call 65; refine CV.mono ?_; rintro _ x1r ⟨v, k4, er4, pl4, rfl, hvl, hQ1, hS1, hb1r, hve⟩)
   rotate_left
   focus
    refine AllReadyS.cons (o := { dst := some 34, op := .call { callee := .value (.func 66), args := #[.tmp 33], argTypes := #[69] }, guard := none, .. }) rfl (fun K hK => ?_) AllReadyS.nil
    rw [zi (by rfl)]
    have CV := zd4 g L a c (k + 1) en ne 0 x0r (hQ.below hB0) (by have := hB0.size; omega)
    go_wp2_with (go_at_call 66; refine CV.mono ?_; rintro _ x1r ⟨m, k4, er4, pl4, rfl, hQ1, hb1r, hS1, hve⟩)
   rotate_left
   all_goals
    have ls0 := hB0.size
    have ls1 := hb1r.size
    have hS1r := (hb1r.at hS0r (by omega))
    refine hK.out _ _ (Hold.of hS1r) (fun hH => ?_)
    clear hK K
    refine zE (rs := [4]) (by kernel_rfl) (by simp) ?_
   focus
    refine AllReadyS.cons (o := { dst := some 21, op := .buildSlice 22 1 #[(0, .tmp 20)], guard := none, .. }) rfl (fun K hK => ?_) AllReadyS.nil
    rw [zi (by rfl)]
    refine JW (.tmp 20) rfl v.cells rfl rfl ?_
   rotate_left
   focus
    refine AllReadyS.cons (o := { dst := some 35, op := .buildSlice 23 1 #[(0, .tmp 34)], guard := none, .. }) rfl (fun K hK => ?_) AllReadyS.nil
    rw [zi (by rfl)]
    refine zbX (.tmp 34) rfl m rfl ?_
   rotate_left
   all_goals
    intro x2r hA2r hb2r
    have ls2 := hb2r.size
    have hS2r := (hS1r.below hb2r)
    refine hK.out _ _ (Hold.of hS2r) (fun hH => ?_)
    clear hK K
    refine zE (rs := [5]) (by kernel_rfl) (by simp) ?_
   focus
    refine AllReadyS.cons (o := { dst := some 22, op := .call { callee := .builtin .append, args := #[.tmp 18, .tmp 21], argTypes := #[22, 22] }, guard := none, .. }) rfl (fun K hK => ?_) AllReadyS.nil
    rw [zi (by rfl)]
    have hGx : Gr eV M x2r (.slice aV k1 cV) vs := (((hGV.below hB0).but hb1r (by omega)).below hb2r)
    have hNx : Gr eN M x2r (.slice aN k2 cM) ms := (((hGN.below hB0).but hb1r (by omega)).below hb2r)
    refine Xd (e := eV) (A := M) (ys := vs) (.tmp 18) (.tmp 21) 22 _ 32 rfl Tryz.underlying22 f48 rfl (by decide) rfl x1r.heap.size rfl hGx v hA2r hvl trivial k1 hl1 (by omega) (by decide) ?_
   rotate_left
   focus
    refine AllReadyS.cons (o := { dst := some 36, op := .call { callee := .builtin .append, args := #[.tmp 32, .tmp 35], argTypes := #[23, 23] }, guard := none, .. }) rfl (fun K hK => ?_) AllReadyS.nil
    rw [zi (by rfl)]
    have hGx : Gr eN M x2r (.slice aN k2 cM) ms := (((hGN.below hB0).but hb1r (by omega)).below hb2r)
    have hVx : Gr eV M x2r (.slice aV k1 cV) vs := (((hGV.below hB0).but hb1r (by omega)).below hb2r)
    refine Xd (e := eN) (A := M) (ys := ms) (.tmp 32) (.tmp 35) 23 _ 16 rfl Tryz.underlying23 f9 rfl (by decide) rfl x1r.heap.size rfl hGx m hA2r trivial trivial k2 hl2 (by omega) (by decide) ?_
   rotate_left
   all_goals
    intro gW cW x3r hG3r hgb
    have hb3r : Below M x2r x3r := (Below.refl _ _).grown hgb hGx.size fun q hq => (hGx.own.lt q hq).1
    have ls3 := hb3r.size
    have hS3r := (hS2r.belowA hb3r hg3M)
    refine hK.out _ _ (Hold.of hS3r) (fun hH => ?_)
    clear hK K
   focus
    refine zS (i := 6) (oi := { dst := some 23, op := .fieldAddr 26 (.tmp 3) 0, guard := none, .. }) (v := .pointer (some ⟨g3, 0, none⟩)) rfl (by kernel_rfl) (by kernel_rfl) (by kernel_rfl) (by kernel_rfl) (fun _ _ _ h => h) (Or.inl ⟨by rfl, ?_⟩) hH (fun hH => ?_)
    ·intro wS hSw
     go_simp
   rotate_left
   focus
    refine zS (i := 6) (oi := { dst := some 37, op := .fieldAddr 26 (.tmp 3) 1, guard := none, .. }) (v := .pointer (some ⟨g3, 1, none⟩)) rfl (by kernel_rfl) (by kernel_rfl) (by kernel_rfl) (by kernel_rfl) (fun _ _ _ h => h) (Or.inl ⟨by rfl, ?_⟩) hH (fun hH => ?_)
    ·intro wS hSw
     go_simp
   rotate_left
   all_goals
    simp only [Act.put, sA, sB, sC]
    refine zE (rs := [7]) (by kernel_rfl) (by simp) ?_
   focus
    refine AllReadyS.cons (o := { dst := none, op := .store 22 (.tmp 23) (.tmp 22), guard := none, .. }) rfl (fun K hK => ?_) AllReadyS.nil
    rw [zi (by rfl)]
    refine Zp 22 (.tmp 23) (.tmp 22) rfl g3 0 (.slice (some ⟨gW, 0, none⟩) (k1 + 1) cW) rfl rfl 26 _ hS3r (show 0 + 1 <= 3 by decide) (by kernel_rfl) rfl rfl ?_
   rotate_left
   focus
    refine AllReadyS.cons (o := { dst := none, op := .store 23 (.tmp 37) (.tmp 36), guard := none, .. }) rfl (fun K hK => ?_) AllReadyS.nil
    rw [zi (by rfl)]
    refine Zp 23 (.tmp 37) (.tmp 36) rfl g3 1 (.slice (some ⟨gW, 0, none⟩) (k2 + 1) cW) rfl rfl 26 _ hS3r (show 1 + 1 <= 3 by decide) (by kernel_rfl) rfl rfl ?_
   rotate_left
   all_goals
    intro x4r hA4r hb4r hs4r
    refine hK.out _ _ (Hold.over (s := 7) (by decide) (by rfl)) (fun hH => ?_)
    clear hK K
    refine Z2 (by kernel_rfl) ?_ _
    simp only [Act.put]
    have hQ4 : Qd B x4r g L a c k4 en er4 pl4 ne 0 := ((hQ1.below hb2r).keep fun j _ hj => hb3r.block j (by omega)).but hb4r (by omega)
    have hA24 : At 26 x4r w.heap.size [.slice none 0 0, .slice none 0 0, .slice none 0 0] := hb4r.at ((((hb1r.at (hA2.below hB0) (by omega)).below hb2r)).belowA hb3r (by omega)) (by omega)
   focus
    have hN3 : Gr eN M x3r (.slice aN k2 cM) ms := hNx.grown hGx (by decide) hgb fun _ _ => trivial
   rotate_left
   focus
    have hV3 : Gr eV M x3r (.slice aV k1 cV) vs := hVx.grown hGx (by decide) hgb fun _ _ => trivial
   rotate_left
   all_goals
    have hbt4 : But g w x4r := by
     have h1 := ((hbt.trans (But.of_below hB0)).trans hb1r).trans (But.of_below hb2r)
     have h2 : But g w x3r := ⟨hb3r.os.trans h1.os, hb3r.tape.trans h1.tape, hb3r.output.trans h1.output, zQ h1.size hb3r.size, fun q hq hne => (hb3r.block q (by omega)).trans (h1.block q hq hne)⟩
     exact h2.fresh hb4r (by omega)
   focus
    have hk4 := hQ4.le
    have hrel2 : (er4 = 0 /\ pl4 = 0 /\ L.length - k4 < L.length - k /\ D = ((yx f' (za L k4 en)).bind fun x r => .ok ((vs ++ [v]).map VT.vr ++ x.1, ms.map (fun m => m.data.toList) ++ x.2) r).bind fun x r => (zA (r.length + 1) r).bind fun ts r => (Zc r).bind fun _ r => .ok (⟨x.1, x.2, ts⟩ : Pg) r) \/ (er4 ≠ 0 /\ k4 = L.length /\ D = .bad er4 pl4) := by
     cases hN : yA (za L (k + 1) en) with
     | bad e p =>
      rw [hN] at hS1 HD
      obtain ⟨rfl, rfl, rfl, he⟩ := hS1
      exact .inr ⟨he, rfl, HD.out⟩
     | ok s r1 =>
      rw [hN] at hS1 HD hvl' hve
      obtain ⟨rfl, rfl, rfl⟩ := hS1
      have hr1 : (za L k4 en).length < (za L (k + 1) en).length := hvl'
      rw [zH, zH] at hr1
      refine .inl ⟨rfl, rfl, by omega, ?_⟩
      have hD' : D = (((yx f' (za L k4 en)).bind fun x r => .ok (s :: x.1, x.2) r).bind fun x r => .ok (vs.map VT.vr ++ x.1, ms.map (fun m => m.data.toList) ++ x.2) r).bind fun x r => (zA (r.length + 1) r).bind fun ts r => (Zc r).bind fun _ r => .ok (⟨x.1, x.2, ts⟩ : Pg) r := HD.out
      rw [hD', Rs.bind_bind (yx f' (za L k4 en)), <- hve s _ rfl]
      congr 2
      funext x r
      show Rs.ok (vs.map VT.vr ++ v.vr :: x.1, _) r = _
      rw [List.map_append, X4]
      rfl
    have HRel : Hid (∃ (k er pl ne f' : Nat) (aV : Option Addr) (k1 cV : Nat) (vs : List VT) (aN : Option Addr) (k2 cM : Nat) (ms : List ByteArray), (vs.length = k1 /\ ms.length = k2) /\ At 26 x4r g3 [.slice aV k1 cV, .slice aN k2 cM, .slice none 0 0] /\ At 26 x4r w.heap.size [.slice none 0 0, .slice none 0 0, .slice none 0 0] /\ (Gr eV M x4r (.slice aV k1 cV) vs /\ Gr eN M x4r (.slice aN k2 cM) ms) /\ Qd B x4r g L a c k en er pl ne 0 /\ But g w x4r /\ k1 + k2 <= 1048576 /\ M <= x4r.heap.size /\ ((er = 0 /\ pl = 0 /\ k1 + k2 + (L.length - k) <= L.length /\ (za L k en).length + 1 <= f' /\ D = ((yx f' (za L k en)).bind fun x r => .ok (vs.map VT.vr ++ x.1, ms.map (fun m => m.data.toList) ++ x.2) r).bind fun x r => (zA (r.length + 1) r).bind fun ts r => (Zc r).bind fun _ r => .ok (⟨x.1, x.2, ts⟩ : Pg) r) \/ (er ≠ 0 /\ k = L.length /\ D = .bad er pl))) := by
     rw [zH] at hf'
     rcases hrel2 with ⟨h1, h2, h3, h4⟩ | ⟨h1, h2, h3⟩
     ·exact ⟨k4, er4, pl4, ne, f', some ⟨gW, 0, none⟩, k1 + 1, cW, vs ++ [v], aN, k2, cM, ms, ⟨by rw [yN, hl1]; rfl, hl2⟩, hA4r, hA24, ⟨hG3r.but hb4r hg3M, hN3.but hb4r hg3M⟩, hQ4, hbt4, by omega, by have := hb4r.size; omega, .inl ⟨h1, h2, by omega, by rw [zH]; omega, h4⟩⟩
     ·exact ⟨k4, er4, pl4, ne, f', some ⟨gW, 0, none⟩, k1 + 1, cW, vs ++ [v], aN, k2, cM, ms, ⟨by rw [yN, hl1]; rfl, hl2⟩, hA4r, hA24, ⟨hG3r.but hb4r hg3M, hN3.but hb4r hg3M⟩, hQ4, hbt4, by omega, by have := hb4r.size; omega, .inr ⟨h1, h2, h3⟩⟩
    have hm5 := hQ4.cN1
    have hm : 2 * (L.length - cN x4r g 1) + (if cN x4r g 3 = 0 then 1 else 0) < 2 * (L.length - cN wr g 1) + (if cN wr g 3 = 0 then 1 else 0) := by
     rw [hm5.1, hm5.2, hme.1, hme.2]
     rcases hrel2 with ⟨h1, -, h2, -⟩ | ⟨h1, h2, -⟩
     ·rw [zi h1, zi rfl]; omega
     ·rw [ze h1, zi rfl]; omega
    clear hrel2 hQ4 hA24 hA4r hb4r hb3r hb2r hb1r hB0 hG3r hQ1 hvl HD hA2 hA3 hGV hGN hQ hbt hA2r hGx hNx hN3 hs4r ls0 ls1 ls2 ls3 hgb hS1 hve hvl' hbt4 hm5 hme
   rotate_left
   focus
    have hV4 := hV3.but hb4r hg3M
    have hN4 := hG3r.but hb4r hg3M
    have l4 := hb4r.size
    have lM4 : M <= x4r.heap.size := by omega
    have CM := Yb g L a c k4 en er4 pl4 ne 0 _ hS1.shape ⟨#[59]⟩ (by decide) x4r hQ4
    clear hQ4 hb4r hb3r hb2r hb1r hB0 hG3r hQ1 hA2 hA3 hGV hGN hQ hbt hA2r hGx hVx hV3 hs4r ls0 ls1 ls2 ls3 hgb
    go_wp2_with (go_at_call 67; refine CM.mono ?_; rintro _ wF ⟨rfl, k5, er5, pl5, hQF, hSF, hbF⟩; refine zb ?_)
    refine zd ?_
    have hk5 := hQF.le
    have lF := hbF.size
    have hrel2 : (er5 = 0 /\ pl5 = 0 /\ L.length - k5 < L.length - k /\ D = ((yx f' (za L k5 en)).bind fun x r => .ok (vs.map VT.vr ++ x.1, (ms ++ [m]).map (fun m => m.data.toList) ++ x.2) r).bind fun x r => (zA (r.length + 1) r).bind fun ts r => (Zc r).bind fun _ r => .ok (⟨x.1, x.2, ts⟩ : Pg) r) \/ (er5 ≠ 0 /\ k5 = L.length /\ D = .bad er5 pl5) := by
     cases hN : zM (za L (k + 1) en) with
     | bad e p =>
      rw [hN] at hSF HD
      obtain ⟨rfl, rfl, rfl, he⟩ := hSF
      exact .inr ⟨he, rfl, HD.out⟩
     | ok s r1 =>
      rw [hN] at hSF HD hvl' hve
      have hr1 : r1.length < (za L (k + 1) en).length := hvl'
      have hD1 : D = (((zq [59] r1).bind fun _ r => (yx f' r).bind fun x r => .ok (x.1, s :: x.2) r).bind fun x r => .ok (vs.map VT.vr ++ x.1, ms.map (fun m => m.data.toList) ++ x.2) r).bind fun x r => (zA (r.length + 1) r).bind fun ts r => (Zc r).bind fun _ r => .ok (⟨x.1, x.2, ts⟩ : Pg) r := HD.out
      have hSF : StOf L en k5 er5 pl5 (zq [59] r1) := hSF
      have hml := yG (x := [59]) (l := r1) (by decide)
      cases hM : zq [59] r1 with
      | bad e p =>
       rw [hM] at hSF hD1
       obtain ⟨rfl, rfl, rfl, he⟩ := hSF
       exact .inr ⟨he, rfl, hD1⟩
      | ok s2 r2 =>
       rw [hM] at hSF hD1 hml
       obtain ⟨rfl, rfl, rfl⟩ := hSF
       have hr2 : (za L k5 en).length < r1.length := hml
       rw [zH] at hr1 hr2
       refine .inl ⟨rfl, rfl, by omega, ?_⟩
       have hD' : D = (((yx f' (za L k5 en)).bind fun x r => .ok (x.1, s :: x.2) r).bind fun x r => .ok (vs.map VT.vr ++ x.1, ms.map (fun m => m.data.toList) ++ x.2) r).bind fun x r => (zA (r.length + 1) r).bind fun ts r => (Zc r).bind fun _ r => .ok (⟨x.1, x.2, ts⟩ : Pg) r := hD1
       rw [hD', Rs.bind_bind (yx f' (za L k5 en)), <- zax (hve s _ rfl)]
       congr 2
       funext x r
       show Rs.ok (_, ms.map (fun m => m.data.toList) ++ m.data.toList :: x.2) r = _
       rw [List.map_append, X4]
       rfl
    have HRel : Hid (∃ (k er pl ne f' : Nat) (aV : Option Addr) (k1 cV : Nat) (vs : List VT) (aN : Option Addr) (k2 cM : Nat) (ms : List ByteArray), (vs.length = k1 /\ ms.length = k2) /\ At 26 wF g3 [.slice aV k1 cV, .slice aN k2 cM, .slice none 0 0] /\ At 26 wF w.heap.size [.slice none 0 0, .slice none 0 0, .slice none 0 0] /\ (Gr eV M wF (.slice aV k1 cV) vs /\ Gr eN M wF (.slice aN k2 cM) ms) /\ Qd B wF g L a c k en er pl ne 0 /\ But g w wF /\ k1 + k2 <= 1048576 /\ M <= wF.heap.size /\ ((er = 0 /\ pl = 0 /\ k1 + k2 + (L.length - k) <= L.length /\ (za L k en).length + 1 <= f' /\ D = ((yx f' (za L k en)).bind fun x r => .ok (vs.map VT.vr ++ x.1, ms.map (fun m => m.data.toList) ++ x.2) r).bind fun x r => (zA (r.length + 1) r).bind fun ts r => (Zc r).bind fun _ r => .ok (⟨x.1, x.2, ts⟩ : Pg) r) \/ (er ≠ 0 /\ k = L.length /\ D = .bad er pl))) := by
     rw [zH] at hf'
     rcases hrel2 with ⟨h1, h2, h3, h4⟩ | ⟨h1, h2, h3⟩
     ·exact ⟨k5, er5, pl5, ne, f', aV, k1, cV, vs, some ⟨gW, 0, none⟩, k2 + 1, cW, ms ++ [m], ⟨hl1, by rw [yN, hl2]; rfl⟩, hbF.at hA4r (by omega), hbF.at hA24 (by omega), ⟨hV4.but hbF (by omega), hN4.but hbF (by omega)⟩, hQF, hbt4.trans hbF, by omega, by omega, .inl ⟨h1, h2, by omega, by rw [zH]; omega, h4⟩⟩
     ·exact ⟨k5, er5, pl5, ne, f', aV, k1, cV, vs, some ⟨gW, 0, none⟩, k2 + 1, cW, ms ++ [m], ⟨hl1, by rw [yN, hl2]; rfl⟩, hbF.at hA4r (by omega), hbF.at hA24 (by omega), ⟨hV4.but hbF (by omega), hN4.but hbF (by omega)⟩, hQF, hbt4.trans hbF, by omega, by omega, .inr ⟨h1, h2, h3⟩⟩
    have hm5 := hQF.cN1
    have hm : 2 * (L.length - cN wF g 1) + (if cN wF g 3 = 0 then 1 else 0) < 2 * (L.length - cN wr g 1) + (if cN wr g 3 = 0 then 1 else 0) := by
     rw [hm5.1, hm5.2, hme.1, hme.2]
     rcases hrel2 with ⟨h1, -, h2, -⟩ | ⟨h1, h2, -⟩
     ·rw [zi h1, zi rfl]; omega
     ·rw [ze h1, zi rfl]; omega
    clear hrel2 CM hQF hbF hA4r hA24 hV4 hN4 hbt4 HD hS1 hSF hve hvl' hm5 hme
   rotate_left
   all_goals
    go_wp2_with fail
    go_roundw
    case rel => exact HRel
    case measure => exact hm
  ·rcases hDD with ⟨rfl, rfl, hkL, hf', hD⟩ | ⟨he, rfl, hD⟩
   ·have c0 : ¬ (hdT (za L k en)).text = [115, 104, 97, 114, 101, 100] := fun q => hcs ⟨rfl, .inl q⟩
    have c1 : ¬ (hdT (za L k en)).text = [109, 117, 116, 101, 120] := fun q => hcs ⟨rfl, .inr q⟩
    obtain ⟨f', rfl⟩ : ∃ q, f' = q + 1 := ⟨f' - 1, by omega⟩
    have HD : Hid (D = ((yx (f' + 1) (za L k en)).bind fun x r => .ok (vs.map VT.vr ++ x.1, ms.map (fun m => m.data.toList) ++ x.2) r).bind fun x r => (zA (r.length + 1) r).bind fun ts r => (Zc r).bind fun _ r => .ok (⟨x.1, x.2, ts⟩ : Pg) r) := hD
    rw [yx, ze c0, ze c1] at HD
    have hD1 : Hid (D = (zA ((za L k en).length + 1) (za L k en)).bind fun ts r => (Zc r).bind fun _ r => .ok (⟨vs.map VT.vr ++ [], ms.map (fun m => m.data.toList) ++ [], ts⟩ : Pg) r) := HD
    rw [List.append_nil, List.append_nil] at hD1
    have C30 : Calls Tryz.prog 30 #[.pointer (some ⟨g, 0, none⟩)] wr fun r w' => r = .returned (.bool true) /\ w' = wr := zJ g L.length a c k en 0 0 ne 0 wr hQ.cell
    have H63a : Hid (∀ u, Qd B u g L a c k en 0 0 ne 0 -> Calls Tryz.prog 63 #[.pointer (some ⟨g, 0, none⟩), .string ⟨#[115, 104, 97, 114, 101, 100]⟩] u fun r w' => r = .returned (.bool false) /\ Below u.heap.size u w') := fun u hu => (YT g L a c k en 0 0 ne 0 ⟨#[115, 104, 97, 114, 101, 100]⟩ (by decide) u hu).mono (by rintro r w' ⟨rfl, m, rfl⟩; exact ⟨by rw [Xb, show bytes ⟨#[115, 104, 97, 114, 101, 100]⟩ = [115, 104, 97, 114, 101, 100] from rfl, zN c0], below_drewN u m⟩)
    have H63b : Hid (∀ u, Qd B u g L a c k en 0 0 ne 0 -> Calls Tryz.prog 63 #[.pointer (some ⟨g, 0, none⟩), .string ⟨#[109, 117, 116, 101, 120]⟩] u fun r w' => r = .returned (.bool false) /\ Below u.heap.size u w') := fun u hu => (YT g L a c k en 0 0 ne 0 ⟨#[109, 117, 116, 101, 120]⟩ (by decide) u hu).mono (by rintro r w' ⟨rfl, m, rfl⟩; exact ⟨by rw [Xb, show bytes ⟨#[109, 117, 116, 101, 120]⟩ = [109, 117, 116, 101, 120] from rfl, zN c1], below_drewN u m⟩)
    clear HD hD hcs c0 c1 hme
    go_wp2_with (first
     | (go_at_call 30; refine C30.mono ?_; rintro _ wq ⟨rfl, hwq⟩; obtain rfl : wr = wq := hwq.symm; clear hwq)
     | (go_at_call 63; refine (H63a.out _ hQ).mono ?_; rintro _ w1' ⟨rfl, hb1⟩; refine zb ?_))
    refine zd ?_
    clear H63a C30
    go_wp2_with (first
     | (go_at_call 63; refine (H63b.out _ (hQ.below hb1)).mono ?_; rintro _ w3 ⟨rfl, hb3⟩; refine zb ?_))
    refine zd ?_
    have hQ := (hQ.below hb1).below hb3
    have l1 := hb1.size
    have l3 := hb3.size
    have hA2 := (hA2.below hb1).below hb3
    have hA3 := (hA3.below hb1).below hb3
    have hGV := (hGV.below hb1).below hb3
    have hGN := (hGN.below hb1).below hb3
    have hbt := (hbt.trans (But.of_below hb1)).trans (But.of_below hb3)
    have hTv := hGV.vars (by omega)
    have hTn := hGN.names (by omega)
    obtain ⟨M2, hM2⟩ : ∃ q, q = w3.heap.size := ⟨_, rfl⟩
    have hg3M2 : g3 < M2 := by omega
    have lMM : M <= M2 := by omega
    have HU : Hid ((vs = [] \/ ∃ g o, aV = some ⟨g, o, none⟩ /\ M <= g) /\ (ms = [] \/ ∃ g o, aN = some ⟨g, o, none⟩ /\ M <= g) /\ (ms = [] -> cM = 0)) := ⟨hTv.2, hTn.2.1, hTn.2.2⟩
    have HI : Hid (∃ (k er pl ne f' : Nat) (aT : Option Addr) (k3 cT : Nat) (ts : List TT), ts.length = k3 /\ At 26 w3 g3 [.slice aV k1 cV, .slice aN k2 cM, .slice aT k3 cT] /\ At 26 w3 w.heap.size [.slice none 0 0, .slice none 0 0, .slice none 0 0] /\ Gr eT M2 w3 (.slice aT k3 cT) ts /\ Qd B w3 g L a c k en er pl ne 0 /\ But g w w3 /\ (RowVn M2 w3 aV cV vs /\ RowNn M2 w3 aN cM ms) /\ k3 <= 1048576 /\ M2 <= w3.heap.size /\ ((er = 0 /\ pl = 0 /\ k3 + (L.length - k) <= L.length /\ (za L k en).length + 1 <= f' /\ D = ((zA f' (za L k en)).bind fun ss r => .ok (ts.map TT.th ++ ss) r).bind fun ts r => (Zc r).bind fun _ r => .ok (⟨vs.map VT.vr, ms.map (fun m => m.data.toList), ts⟩ : Pg) r) \/ (er ≠ 0 /\ k = L.length /\ D = .bad er pl))) := by
     refine ⟨k, 0, 0, ne, (za L k en).length + 1, none, 0, 0, [], rfl, hA3, hA2, Gr.nil (by omega), hQ, hbt, ⟨by rw [hM2]; exact hTv.1, by rw [hM2]; exact hTn.1⟩, by omega, by omega, .inl ⟨rfl, rfl, by omega, zj _, ?_⟩⟩
     rw [hD1.out]
     cases zA ((za L k en).length + 1) (za L k en) <;> rfl
    clear H63b hb1 hb3 hA2 hA3 hGV hGN hQ hbt hTv hTn hM2 hD1 hf' hkL
    go_wp2_with fail
    go_loopw [41] (fun _ wr => Hid (∃ (k er pl ne f' : Nat) (aT : Option Addr) (k3 cT : Nat) (ts : List TT), ts.length = k3 /\ At 26 wr g3 [.slice aV k1 cV, .slice aN k2 cM, .slice aT k3 cT] /\ At 26 wr w.heap.size [.slice none 0 0, .slice none 0 0, .slice none 0 0] /\ Gr eT M2 wr (.slice aT k3 cT) ts /\ Qd B wr g L a c k en er pl ne 0 /\ But g w wr /\ (RowVn M2 wr aV cV vs /\ RowNn M2 wr aN cM ms) /\ k3 <= 1048576 /\ M2 <= wr.heap.size /\ ((er = 0 /\ pl = 0 /\ k3 + (L.length - k) <= L.length /\ (za L k en).length + 1 <= f' /\ D = ((zA f' (za L k en)).bind fun ss r => .ok (ts.map TT.th ++ ss) r).bind fun ts r => (Zc r).bind fun _ r => .ok (⟨vs.map VT.vr, ms.map (fun m => m.data.toList), ts⟩ : Pg) r) \/ (er ≠ 0 /\ k = L.length /\ D = .bad er pl)))) (fun _ wr => 2 * (L.length - cN wr g 1) + (if cN wr g 3 = 0 then 1 else 0))
    case atStart => exact HI
    case round =>
     clear HI
     obtain ⟨k, er, pl, ne, f', aT, k3, cT, ts, hl3, hA3, hA2, hGT, hQ, hbt, hst, hk3, lM2, hDD⟩ := hrel.out
     clear hrel
     have hme := hQ.cN1
     have hkl := hQ.le
     have lr := hbt.size
     have hlen := hQ.len
     by_cases hcs : er = 0 /\ k < L.length
     ·obtain ⟨he, hk0⟩ := hcs
      rcases hDD with ⟨-, rfl, hkL, hf', hD⟩ | ⟨q, -, -⟩
      case inr => exact absurd he q
      subst he
      obtain ⟨k0, hk00⟩ : ∃ q, q = k := ⟨_, rfl⟩
      obtain ⟨m0, hm0⟩ : ∃ q, Hid (q = 2 * (L.length - cN wr g 1) + (if cN wr g 3 = 0 then 1 else 0)) := ⟨_, (rfl : 2 * (L.length - cN wr g 1) + (if cN wr g 3 = 0 then 1 else 0) = _)⟩
      have hm1 : m0 = 2 * (L.length - k0) + 1 := by rw [hm0.out, hme.1, hme.2, zi rfl, hk00]
      clear hme
      obtain ⟨E, hE⟩ : ∃ E, Hid (E = (zq [116, 104, 114, 101, 97, 100] (za L k en)).bind fun _ r => Zf r) := ⟨_, (rfl : ((zq [116, 104, 114, 101, 97, 100] (za L k en)).bind fun _ r => Zf r) = _)⟩
      obtain ⟨f', rfl⟩ : ∃ q, f' = q + 1 := ⟨f' - 1, by omega⟩
      have HD : Hid (D = (E.bind fun t r => (zA f' r).bind fun ss r => .ok (ts.map TT.th ++ t :: ss) r).bind fun ts r => (Zc r).bind fun _ r => .ok (⟨vs.map VT.vr, ms.map (fun m => m.data.toList), ts⟩ : Pg) r) := by
       have hD : D = ((zA (f' + 1) (za L k en)).bind fun ss r => .ok (ts.map TT.th ++ ss) r).bind fun ts r => (Zc r).bind fun _ r => .ok (⟨vs.map VT.vr, ms.map (fun m => m.data.toList), ts⟩ : Pg) r := hD
       show D = _
       rw [hD, hE.out, zA]
       unfold zq
       by_cases c0 : (hdT (za L k en)).text = [116, 104, 114, 101, 97, 100]
       ·rw [zi c0, zi c0]
        show (((Zf (za L k en).tail).bind fun t r => (zA f' r).bind fun ss r => .ok (t :: ss) r).bind _).bind _ = ((Zf (za L k en).tail).bind _).bind _
        rw [Rs.bind_bind (Zf (za L k en).tail)]
        congr 2
        funext t r
        rw [Rs.bind_bind]
        rfl
       ·rw [ze c0, ze c0]
        show (Zc (za L k en)).bind _ = .bad 4 _
        unfold Zc
        rw [zi (by rw [zH]; omega)]
        rfl
      have hEl : ∀ t r, E = .ok t r -> r.length < (za L k en).length := fun t r q => by
       rw [hE.out] at q
       have h1 := yG (x := [116, 104, 114, 101, 97, 100]) (l := za L k en) (by decide)
       cases hM : zq [116, 104, 114, 101, 97, 100] (za L k en) with
       | bad e p => rw [hM] at q; cases q
       | ok u l1 =>
        rw [hM] at q h1
        have h1 : l1.length < (za L k en).length := h1
        have q : Zf l1 = .ok t r := q
        have h2 := VI l1
        rw [q] at h2
        have h2 : r.length < l1.length := h2
        omega
      have HEl : Hid _ := hEl
      clear hD hEl
      have H30 : Hid (∀ u, At 71 u g (q7 a L.length c k en 0 0 ne 0) -> Calls Tryz.prog 30 #[.pointer (some ⟨g, 0, none⟩)] u fun r w' => r = .returned (.bool true) /\ w' = u) := fun u hu => zJ g L.length a c k en 0 0 ne 0 u hu
      go_wp2_with fail
      have hS0r : At 71 wr.drew g (q7 a L.length c k en 0 0 ne 0) := hQ.cell.drew
      refine wp_region_held_drew (S := fun xS => At 71 xS g (q7 a L.length c k en 0 0 ne 0)) (by kernel_rfl) hS0r ?_
      have hB0 : Below wr.heap.size wr wr.drew := Below.drew (Below.refl _ _)
      obtain ⟨x0r, hx0⟩ : ∃ x, x = wr.drew := ⟨_, rfl⟩
      rw [<- hx0] at hS0r hB0 ⊢
      clear hx0
      intro _
      refine tY 0 (.pointer (some ⟨g, 0, none⟩)) (oi := { dst := some 40, op := .move (.tmp 0), guard := none, .. }) rfl hS0r ?_ ?_
      ·intro wS hSw
       go_simp
      simp only [Act.put, sA, sB, sC]
      refine wpAnyH_ready (rs := [1]) (by kernel_rfl) (by simp) ?_
      refine AllReadyH.cons (o := { dst := some 41, op := .call { callee := .value (.func 30), args := #[.tmp 40], argTypes := #[69] }, guard := none, .. }) rfl (fun K hK => ?_) AllReadyH.nil
      rw [zi (by rfl)]
      go_wp2_with (go_at_call 30; refine (H30.out _ hS0r).mono ?_; rintro _ x1r ⟨rfl, hx1r⟩; obtain rfl : x0r = x1r := hx1r.symm; clear hx1r)
      refine hK.out _ _ hS0r (fun _ => ?_)
      clear hK K
      refine tY 2 (.bool true) (oi := { dst := some 42, op := .move (.tmp 41), guard := none, .. }) rfl hS0r ?_ ?_
      ·intro wS hSw
       go_simp
      simp only [Act.put, sA, sB, sC]
      refine tY 3 (.pointer (some ⟨g, 0, none⟩)) (oi := { dst := some 43, op := .move (.tmp 0), guard := some (2, true), .. }) rfl hS0r ?_ ?_
      ·intro wS hSw
       go_simp
      simp only [Act.put, sA, sB, sC]
      refine tY 4 (.pointer (some ⟨g, 0, none⟩)) (oi := { dst := some 44, op := .nilCheck (.tmp 43), guard := some (2, true), .. }) rfl hS0r ?_ ?_
      ·intro wS hSw
       go_simp
      simp only [Act.put, sA, sB, sC]
      refine tY 5 (.pointer (some ⟨g, 1, none⟩)) (oi := { dst := some 45, op := .fieldAddr 71 (.tmp 44) 1, guard := some (2, true), .. }) rfl hS0r ?_ ?_
      ·intro wS hSw
       go_simp
      simp only [Act.put, sA, sB, sC]
      refine tY 6 (.int .i64 (k : Int)) (oi := { dst := some 46, op := .load 3 (.tmp 45), guard := some (2, true), .. }) rfl hS0r ?_ ?_
      ·intro wS hSw
       have z0 := (zv hSw).2.1
       go_simp
      simp only [Act.put, sA, sB, sC]
      refine tY 7 (.pointer (some ⟨g, 0, none⟩)) (oi := { dst := some 47, op := .move (.tmp 0), guard := some (2, true), .. }) rfl hS0r ?_ ?_
      ·intro wS hSw
       go_simp
      simp only [Act.put, sA, sB, sC]
      refine tY 8 (.pointer (some ⟨g, 0, none⟩)) (oi := { dst := some 48, op := .nilCheck (.tmp 47), guard := some (2, true), .. }) rfl hS0r ?_ ?_
      ·intro wS hSw
       go_simp
      simp only [Act.put, sA, sB, sC]
      refine tY 9 (.pointer (some ⟨g, 0, none⟩)) (oi := { dst := some 49, op := .fieldAddr 71 (.tmp 48) 0, guard := some (2, true), .. }) rfl hS0r ?_ ?_
      ·intro wS hSw
       go_simp
      simp only [Act.put, sA, sB, sC]
      refine tY 10 (.slice a L.length c) (oi := { dst := some 50, op := .load 60 (.tmp 49), guard := some (2, true), .. }) rfl hS0r ?_ ?_
      ·intro wS hSw
       have z0 := (zv hSw).1
       go_simp
      simp only [Act.put, sA, sB, sC]
      refine tY 11 (.int .i64 (L.length : Int)) (oi := { dst := some 51, op := .call { callee := .builtin .len, args := #[.tmp 50], argTypes := #[60] }, guard := some (2, true), .. }) rfl hS0r ?_ ?_
      ·intro wS hSw
       go_simp
      simp only [Act.put, sA, sB, sC]
      refine tY 12 (.bool true) (oi := { dst := some 52, op := .binOp .lss 3 (.tmp 46) (.tmp 51) 3, guard := some (2, true), .. }) rfl hS0r ?_ ?_
      ·intro wS hSw
       go_simp; try omega
      simp only [Act.put, sA, sB, sC]
      refine tY 13 (.bool true) (oi := { dst := some 53, op := .pick (.tmp 42) (.tmp 52) (.const (.bool false)), guard := none, .. }) rfl hS0r ?_ ?_
      ·intro wS hSw
       go_simp
      simp only [Act.put, sA, sB, sC]
      refine wpAnyH_done (by kernel_rfl) ?_ _
      clear H30
      have CM : Calls Tryz.prog 67 #[.pointer (some ⟨g, 0, none⟩), .string ⟨#[116, 104, 114, 101, 97, 100]⟩] x0r fun r w' => r = .returned (.tuple #[]) /\ ∃ k' er' pl', Qd B w' g L a c k' en er' pl' ne 0 /\ StOf L en k' er' pl' (zq [116, 104, 114, 101, 97, 100] (za L k en)) /\ But g x0r w' := Yb g L a c k en 0 0 ne 0 (.ok () (za L k en)) ⟨rfl, rfl, rfl⟩ ⟨#[116, 104, 114, 101, 97, 100]⟩ (by decide) x0r (hQ.below hB0)
      have l0 := hB0.size
      go_wp2_with (go_at_call 67; refine CM.mono ?_; rintro _ w3' ⟨rfl, k1', er1, pl1, hQ1, hS1, hb1⟩; refine zb ?_)
      refine zd ?_
      have l1' := hb1.size
      have CN := zaw g L a c k1' en er1 pl1 ne 0 _ hS1 w3' hQ1 (by omega)
      clear CM
      go_wp2_with (first
       | (go_at_call 66; refine CN.mono ?_; rintro _ w4 ⟨nm, k2', er2, pl2, rfl, hQ2, hb2, hS2, hnm⟩)
       | (refine zF rfl rfl [.string nm, .slice none 0 0, .slice none 0 0] ?_)
       | (refine aL (o := { dst := some 4, .. }) rfl rfl z42 ?_; intro w5 hA5 hb5)
       | (refine Zw (P := Tryz.prog) rfl 53 (.tmp 4) (.tmp 58) rfl w4.heap.size [.string nm, .slice none 0 0, .slice none 0 0] rfl rfl 53 _ hA5 i42 rfl (by intro v hv; simp at hv; rcases hv with rfl | rfl | rfl <;> rfl) ?_; intro w6 hA4 hb6 hs6; clear hs6; refine zb ?_))
      refine zd ?_
      have l2' := hb2.size
      have l5 := hb5.size
      have l6 := hb6.size
      obtain ⟨g4, hg4⟩ : ∃ q, q = w4.heap.size := ⟨_, rfl⟩
      rw [<- hg4] at hA4 hb6 ⊢
      have lg4 : w4.heap.size <= g4 := by omega
      have hbt6 : But g w4 w6 := (But.of_below hb5).fresh hb6 (by omega)
      have hQ6 : Qd B w6 g L a c k2' en er2 pl2 ne 0 := (hQ2.below hb5).but hb6 (by omega)
      have H4 : Hid (At 26 w4 g3 [.slice aV k1 cV, .slice aN k2 cM, .slice aT k3 cT] /\ At 26 w4 w.heap.size [.slice none 0 0, .slice none 0 0, .slice none 0 0] /\ Gr eT M2 w4 (.slice aT k3 cT) ts /\ But g w w4 /\ RowVn M2 w4 aV cV vs /\ RowNn M2 w4 aN cM ms) := by
       have hbq : But g wr w4 := ((But.of_below hB0).trans hb1).trans hb2
       exact ⟨hbq.at hA3 (by omega), hbq.at hA2 (by omega), hGT.but hbq (by omega), hbt.trans hbq, hst.1.stay HU.out.1 (zj _) fun q hq hl => hbq.block q (by omega) (by omega), hst.2.stay HU.out.2.1 HU.out.2.2 (zj _) fun q hq hl => hbq.block q (by omega) (by omega)⟩
      obtain ⟨M3, hM3⟩ : ∃ q, q = w6.heap.size := ⟨_, rfl⟩
      have hg4M3 : g4 < M3 := by rw [hM3]; exact hA4.lt
      have CB := Yb g L a c k2' en er2 pl2 ne 0 _ hS2.shape ⟨#[123]⟩ (by decide) w6 hQ6
      clear hg4 CN hb1 hb2 hb5 hb6 hB0 hA5 hQ1 hQ2 hQ hA3 hA2 hGT hbt hst
      go_wp2_with (go_at_call 67; refine CB.mono ?_; rintro _ w7 ⟨rfl, k3', er3, pl3, hQ7, hS3, hb7⟩; refine zb ?_)
      refine zd ?_
      have l7 := hb7.size
      have HI3 : Hid (∃ (k er pl f' : Nat) (aL : Option Addr) (kL cL : Nat) (ls : List VT), ls.length = kL /\ At 53 w7 g4 [.string nm, .slice aL kL cL, .slice none 0 0] /\ Gr eV M3 w7 (.slice aL kL cL) ls /\ Qd B w7 g L a c k en er pl ne 0 /\ But g w4 w7 /\ kL <= 1048576 /\ M3 <= w7.heap.size /\ ((er = 0 /\ pl = 0 /\ kL + (L.length - k) <= L.length /\ (za L k en).length + 1 <= f' /\ ∃ x : List UInt8, nm = ⟨x.toArray⟩ /\ E = ((ym f' (za L k en)).bind fun vs r => .ok (ls.map VT.vr ++ vs) r).bind fun vs r => (stmtsR (4 * r.length + 4) 0 r).bind fun b r => .ok (⟨x, vs, b⟩ : Th) r) \/ (er ≠ 0 /\ k = L.length /\ E = .bad er pl))) := by
       refine ⟨k3', er3, pl3, (za L k3' en).length + 1, none, 0, 0, [], rfl, hb7.at hA4 (by omega), Gr.nil (by omega), hQ7, hbt6.trans hb7, by omega, by omega, ?_⟩
       have hk3' := hQ7.le
       cases hM1 : zq [116, 104, 114, 101, 97, 100] (za L k en) with
       | bad e p =>
        rw [hM1] at hS3 hE
        obtain ⟨rfl, rfl, rfl, he⟩ := hS3
        exact .inr ⟨he, rfl, hE.out⟩
       | ok u la =>
        rw [hM1] at hS3 hE hnm
        have hE : E = Zf la := hE.out
        unfold Zf at hE
        have hnm : ∀ x l, zM la = .ok x l -> nm = ⟨x.toArray⟩ := hnm
        have hS3 : StOf L en k3' er3 pl3 ((zM la).shape.andThen fun _ l => zq [123] l) := hS3
        cases hN1 : zM la with
        | bad e p =>
         rw [hN1] at hS3 hE
         obtain ⟨rfl, rfl, rfl, he⟩ := hS3
         exact .inr ⟨he, rfl, hE⟩
        | ok x lb =>
         rw [hN1] at hS3 hE
         have hS3 : StOf L en k3' er3 pl3 (zq [123] lb) := hS3
         have hE : E = (zq [123] lb).bind fun _ r => (ym (r.length + 1) r).bind fun vs r => (stmtsR (4 * r.length + 4) 0 r).bind fun b r => .ok (⟨x, vs, b⟩ : Th) r := hE
         cases hB1 : zq [123] lb with
         | bad e p =>
          rw [hB1] at hS3 hE
          obtain ⟨rfl, rfl, rfl, he⟩ := hS3
          exact .inr ⟨he, rfl, hE⟩
         | ok u2 lc =>
          rw [hB1] at hS3 hE
          obtain ⟨rfl, rfl, rfl⟩ := hS3
          refine .inl ⟨rfl, rfl, by omega, zj _, x, hnm x lb hN1, ?_⟩
          rw [hE]
          show (ym ((za L k3' en).length + 1) (za L k3' en)).bind _ = _
          cases ym ((za L k3' en).length + 1) (za L k3' en) <;> rfl
      obtain ⟨N0, hN0⟩ : ∃ q, q = w7.heap.size := ⟨_, rfl⟩
      clear CB hb7 hA4 hbt6 hQ6 hQ7 hS1 hS2 hS3 hnm hM3 hN0
      go_wp2_with fail
      go_loopw [62] (fun _ wr => Hid (∃ (k er pl f' : Nat) (aL : Option Addr) (kL cL : Nat) (ls : List VT), ls.length = kL /\ At 53 wr g4 [.string nm, .slice aL kL cL, .slice none 0 0] /\ Gr eV M3 wr (.slice aL kL cL) ls /\ Qd B wr g L a c k en er pl ne 0 /\ But g w4 wr /\ kL <= 1048576 /\ M3 <= wr.heap.size /\ ((er = 0 /\ pl = 0 /\ kL + (L.length - k) <= L.length /\ (za L k en).length + 1 <= f' /\ ∃ x : List UInt8, nm = ⟨x.toArray⟩ /\ E = ((ym f' (za L k en)).bind fun vs r => .ok (ls.map VT.vr ++ vs) r).bind fun vs r => (stmtsR (4 * r.length + 4) 0 r).bind fun b r => .ok (⟨x, vs, b⟩ : Th) r) \/ (er ≠ 0 /\ k = L.length /\ E = .bad er pl)))) (fun _ wr => 2 * (L.length - cN wr g 1) + (if cN wr g 3 = 0 then 1 else 0))
      case atStart => exact HI3
      case round =>
       clear HI3
       obtain ⟨k, er, pl, f'', aL, kL, cL, ls, hlL, hA4, hGL, hQ, hbt4, hkL', lM3, hEE⟩ := hrel.out
       clear hrel
       have hme' := hQ.cN1
       have hkl' := hQ.le
       have lr' := hbt4.size
       by_cases hcs : er = 0 /\ (hdT (za L k en)).text = [108, 111, 99, 97, 108]
       focus
        obtain ⟨he, c0⟩ := hcs
        rcases hEE with ⟨-, rfl, hkLL, hf'', x, hnx, hE1⟩ | ⟨q, -, -⟩
        case inr => exact absurd he q
        subst he
        have HNX : Hid (nm = ⟨x.toArray⟩) := hnx
        clear hnx
        obtain ⟨f'', rfl⟩ : ∃ q, f'' = q + 1 := ⟨f'' - 1, by omega⟩
        have HE : Hid (E = ((ym (f'' + 1) (za L k en)).bind fun vs r => .ok (ls.map VT.vr ++ vs) r).bind fun vs r => (stmtsR (4 * r.length + 4) 0 r).bind fun b r => .ok (⟨x, vs, b⟩ : Th) r) := hE1
        rw [ym, zi c0] at HE
        have htl := yl (l := za L k en) (by rw [c0]; decide)
        have hta := zP (by decide) c0
        rw [hta] at HE htl
        have hk1 : k < L.length := by rw [zH, zH] at htl; omega
        have C64 : Calls Tryz.prog 64 #[.pointer (some ⟨g, 0, none⟩), .string ⟨#[108, 111, 99, 97, 108]⟩] wr fun r w' => r = .returned (.bool true) /\ Qd B w' g L a c (k + 1) en 0 0 ne 0 /\ But g wr w' := by
         have := Zs g L a c k en 0 0 ne 0 ⟨#[108, 111, 99, 97, 108]⟩ (by decide) wr hQ
         rw [Xb, show bytes ⟨#[108, 111, 99, 97, 108]⟩ = [108, 111, 99, 97, 108] from rfl, yy c0] at this
         exact this
        clear hE1 c0 hta
       rotate_left
       focus
        have hib : isB er pl (za L k en) [108, 111, 99, 97, 108] = false := by
         unfold isB
         by_cases he : er = 0
         ·rw [zN (fun q => hcs ⟨he, q⟩), Bool.and_false]
         ·rw [zN he]; rfl
        have C64 : Calls Tryz.prog 64 #[.pointer (some ⟨g, 0, none⟩), .string ⟨#[108, 111, 99, 97, 108]⟩] wr fun r w' => r = .returned (.bool false) /\ Qd B w' g L a c k en er pl ne 0 /\ But g wr w' := by
         have := Zs g L a c k en er pl ne 0 ⟨#[108, 111, 99, 97, 108]⟩ (by decide) wr hQ
         rw [show bytes ⟨#[108, 111, 99, 97, 108]⟩ = [108, 111, 99, 97, 108] from rfl, hib] at this
         exact this
        have hE4 : (er = 0 /\ pl = 0 /\ E = (stmtsR (4 * (za L k en).length + 4) 0 (za L k en)).bind fun b r => .ok (⟨nm.data.toList, ls.map VT.vr, b⟩ : Th) r) \/ (er ≠ 0 /\ k = L.length /\ E = .bad er pl) := by
         rcases hEE with ⟨h1, h2, h3, h4, x, hnx, h5⟩ | h
         ·refine .inl ⟨h1, h2, ?_⟩
          obtain ⟨f'', rfl⟩ : ∃ q, f'' = q + 1 := ⟨f'' - 1, by omega⟩
          rw [h5, ym, ze (fun q => hcs ⟨h1, q⟩), zax hnx]
          show (stmtsR (4 * (za L k en).length + 4) 0 (za L k en)).bind _ = _
          rw [List.append_nil]
         ·exact .inr h
        clear hib hEE hcs
       rotate_left
       all_goals
        go_wp2_with (go_at_call 64; refine C64.mono ?_; rintro _ w5 ⟨rfl, hQ2, hb2⟩; refine zb ?_)
        refine zd ?_
        have hQ := hQ2
        have l2 := hb2.size
        have hA4 := hb2.at hA4 (by omega)
        have hGL := hGL.but hb2 (by omega)
        have hbt4 := hbt4.trans hb2
       focus
        clear C64 hb2 hQ2
        go_wp2_with fail
        have hvl' := ZH (za L (k + 1) en)
        have hS0r : At 53 w5.drew g4 [.string nm, .slice aL kL cL, .slice none 0 0] := hA4.drew
        refine Z1 (S := fun xS => At 53 xS g4 [.string nm, .slice aL kL cL, .slice none 0 0]) (St := [7]) (by kernel_rfl) hS0r ?_
        have hB0 : Below w5.heap.size w5 w5.drew := Below.drew (Below.refl _ _)
        obtain ⟨x0r, hx0⟩ : ∃ x, x = w5.drew := ⟨_, rfl⟩
        rw [<- hx0] at hS0r hB0 ⊢
        clear hx0
        intro hH
        refine zS (i := 0) (oi := { dst := some 63, op := .fieldAddr 53 (.tmp 4) 1, guard := none, .. }) (v := .pointer (some ⟨g4, 1, none⟩)) rfl (by kernel_rfl) (by kernel_rfl) (by kernel_rfl) (by kernel_rfl) (fun _ _ _ h => h) (Or.inl ⟨by rfl, ?_⟩) hH (fun hH => ?_)
        ·intro wS hSw
         go_simp
        simp only [Act.put, sA, sB, sC]
        refine ZG [5, 6, 7] (i := 1) (oi := { dst := some 64, op := .load 22 (.tmp 63), guard := none, .. }) (v := .slice aL kL cL) rfl (by kernel_rfl) (by kernel_rfl) (by kernel_rfl) (by kernel_rfl) (by kernel_rfl) (by kernel_rfl) (by kernel_rfl) (fun _ _ _ h => h) (Or.inl ⟨by rfl, ?_⟩) hH (fun hH => ?_)
        ·intro wS hSw
         have z0 := (YB hSw).2.1
         go_simp
        simp only [Act.put, sA, sB, sC]
        refine zS (i := 2) (oi := { dst := some 65, op := .move (.tmp 0), guard := none, .. }) (v := .pointer (some ⟨g, 0, none⟩)) rfl (by kernel_rfl) (by kernel_rfl) (by kernel_rfl) (by kernel_rfl) (fun _ _ _ h => h) (Or.inl ⟨by rfl, ?_⟩) hH (fun hH => ?_)
        ·intro wS hSw
         go_simp
        simp only [Act.put, sA, sB, sC]
        refine zE (rs := [3]) (by kernel_rfl) (by simp) ?_
        refine AllReadyS.cons (o := { dst := some 66, op := .call { callee := .value (.func 65), args := #[.tmp 65], argTypes := #[69] }, guard := none, .. }) rfl (fun K hK => ?_) AllReadyS.nil
        rw [zi (by rfl)]
        have CV := XC g L a c (k + 1) en ne 0 HOK.out HLI.out x0r (hQ.below hB0) (by have := hB0.size; omega)
        go_wp2_with (go_at_call 65; refine CV.mono ?_; rintro _ x1r ⟨v, k4, er4, pl4, rfl, hvl, hQ1, hS1, hb1r, hve⟩)
        have ls0 := hB0.size
        have ls1 := hb1r.size
        have hS1r := (hb1r.at hS0r (by omega))
        refine hK.out _ _ (Hold.of hS1r) (fun hH => ?_)
        clear hK K
        refine zE (rs := [4]) (by kernel_rfl) (by simp) ?_
        refine AllReadyS.cons (o := { dst := some 67, op := .buildSlice 22 1 #[(0, .tmp 66)], guard := none, .. }) rfl (fun K hK => ?_) AllReadyS.nil
        rw [zi (by rfl)]
        refine JW (.tmp 66) rfl v.cells rfl rfl ?_
        intro x2r hA2r hb2r
        have ls2 := hb2r.size
        have hS2r := (hS1r.below hb2r)
        refine hK.out _ _ (Hold.of hS2r) (fun hH => ?_)
        clear hK K
        refine zE (rs := [5]) (by kernel_rfl) (by simp) ?_
        refine AllReadyS.cons (o := { dst := some 68, op := .call { callee := .builtin .append, args := #[.tmp 64, .tmp 67], argTypes := #[22, 22] }, guard := none, .. }) rfl (fun K hK => ?_) AllReadyS.nil
        rw [zi (by rfl)]
        have hGx : Gr eV M3 x2r (.slice aL kL cL) ls := (((hGL.below hB0).but hb1r (by omega)).below hb2r)
        refine Xd (e := eV) (A := M3) (ys := ls) (.tmp 64) (.tmp 67) 22 _ 32 rfl Tryz.underlying22 f48 rfl (by decide) rfl x1r.heap.size rfl hGx v hA2r hvl trivial kL hlL (by omega) (by decide) ?_
        intro gW cW x3r hG3r hgb
        have hb3r : Below M3 x2r x3r := (Below.refl _ _).grown hgb hGx.size fun q hq => (hGx.own.lt q hq).1
        have ls3 := hb3r.size
        have hS3r := (hS2r.belowA hb3r hg4M3)
        refine hK.out _ _ (Hold.of hS3r) (fun hH => ?_)
        clear hK K
        refine zS (i := 6) (oi := { dst := some 69, op := .fieldAddr 53 (.tmp 4) 1, guard := none, .. }) (v := .pointer (some ⟨g4, 1, none⟩)) rfl (by kernel_rfl) (by kernel_rfl) (by kernel_rfl) (by kernel_rfl) (fun _ _ _ h => h) (Or.inl ⟨by rfl, ?_⟩) hH (fun hH => ?_)
        ·intro wS hSw
         go_simp
        simp only [Act.put, sA, sB, sC]
        refine zE (rs := [7]) (by kernel_rfl) (by simp) ?_
        refine AllReadyS.cons (o := { dst := none, op := .store 22 (.tmp 69) (.tmp 68), guard := none, .. }) rfl (fun K hK => ?_) AllReadyS.nil
        rw [zi (by rfl)]
        refine Zp 22 (.tmp 69) (.tmp 68) rfl g4 1 (.slice (some ⟨gW, 0, none⟩) (kL + 1) cW) rfl rfl 53 _ hS3r (show 1 + 1 <= 3 by decide) (by kernel_rfl) rfl rfl ?_
        intro x4r hA4r hb4r hs4r
        refine hK.out _ _ (Hold.over (s := 7) (by decide) (by rfl)) (fun hH => ?_)
        clear hK K
        refine Z2 (by kernel_rfl) ?_ _
        simp only [Act.put]
        have hQ4 : Qd B x4r g L a c k4 en er4 pl4 ne 0 := ((hQ1.below hb2r).keep fun j _ hj => hb3r.block j (by omega)).but hb4r (by omega)
        have hbt5 : But g w4 x4r := by
         have h1 := ((hbt4.trans (But.of_below hB0)).trans hb1r).trans (But.of_below hb2r)
         have h2 : But g w4 x3r := ⟨hb3r.os.trans h1.os, hb3r.tape.trans h1.tape, hb3r.output.trans h1.output, zQ h1.size hb3r.size, fun q hq hne => (hb3r.block q (by omega)).trans (h1.block q hq hne)⟩
         exact h2.fresh hb4r (by omega)
        have hk4 := hQ4.le
        have hrel2 : (er4 = 0 /\ pl4 = 0 /\ L.length - k4 < L.length - k /\ E = ((ym f'' (za L k4 en)).bind fun vs r => .ok ((ls ++ [v]).map VT.vr ++ vs) r).bind fun vs r => (stmtsR (4 * r.length + 4) 0 r).bind fun b r => .ok (⟨x, vs, b⟩ : Th) r) \/ (er4 ≠ 0 /\ k4 = L.length /\ E = .bad er4 pl4) := by
         cases hN : yA (za L (k + 1) en) with
         | bad e p =>
          rw [hN] at hS1 HE
          obtain ⟨rfl, rfl, rfl, he⟩ := hS1
          exact .inr ⟨he, rfl, HE.out⟩
         | ok s r1 =>
          rw [hN] at hS1 HE hvl' hve
          obtain ⟨rfl, rfl, rfl⟩ := hS1
          have hr1 : (za L k4 en).length < (za L (k + 1) en).length := hvl'
          rw [zH, zH] at hr1
          refine .inl ⟨rfl, rfl, by omega, ?_⟩
          have hD' : E = (((ym f'' (za L k4 en)).bind fun vs r => .ok (s :: vs) r).bind fun vs r => .ok (ls.map VT.vr ++ vs) r).bind fun vs r => (stmtsR (4 * r.length + 4) 0 r).bind fun b r => .ok (⟨x, vs, b⟩ : Th) r := HE.out
          rw [hD', Rs.bind_bind (ym f'' (za L k4 en)), <- hve s _ rfl]
          congr 2
          funext vs r
          show Rs.ok (ls.map VT.vr ++ v.vr :: vs) r = _
          rw [List.map_append, X4]
          rfl
        have HRel : Hid (∃ (k er pl f' : Nat) (aL : Option Addr) (kL cL : Nat) (ls : List VT), ls.length = kL /\ At 53 x4r g4 [.string nm, .slice aL kL cL, .slice none 0 0] /\ Gr eV M3 x4r (.slice aL kL cL) ls /\ Qd B x4r g L a c k en er pl ne 0 /\ But g w4 x4r /\ kL <= 1048576 /\ M3 <= x4r.heap.size /\ ((er = 0 /\ pl = 0 /\ kL + (L.length - k) <= L.length /\ (za L k en).length + 1 <= f' /\ ∃ x : List UInt8, nm = ⟨x.toArray⟩ /\ E = ((ym f' (za L k en)).bind fun vs r => .ok (ls.map VT.vr ++ vs) r).bind fun vs r => (stmtsR (4 * r.length + 4) 0 r).bind fun b r => .ok (⟨x, vs, b⟩ : Th) r) \/ (er ≠ 0 /\ k = L.length /\ E = .bad er pl))) := by
         rw [zH] at hf''
         rcases hrel2 with ⟨h1, h2, h3, h4⟩ | ⟨h1, h2, h3⟩
         ·exact ⟨k4, er4, pl4, f'', some ⟨gW, 0, none⟩, kL + 1, cW, ls ++ [v], by rw [yN, hlL]; rfl, hA4r, hG3r.but hb4r hg4M3, hQ4, hbt5, by omega, by have := hb4r.size; omega, .inl ⟨h1, h2, by omega, by rw [zH]; omega, x, HNX.out, h4⟩⟩
         ·exact ⟨k4, er4, pl4, f'', some ⟨gW, 0, none⟩, kL + 1, cW, ls ++ [v], by rw [yN, hlL]; rfl, hA4r, hG3r.but hb4r hg4M3, hQ4, hbt5, by omega, by have := hb4r.size; omega, .inr ⟨h1, h2, h3⟩⟩
        have hm5 := hQ4.cN1
        have hm : 2 * (L.length - cN x4r g 1) + (if cN x4r g 3 = 0 then 1 else 0) < 2 * (L.length - cN wr g 1) + (if cN wr g 3 = 0 then 1 else 0) := by
         rw [hm5.1, hm5.2, hme'.1, hme'.2]
         rcases hrel2 with ⟨h1, -, h2, -⟩ | ⟨h1, h2, -⟩
         ·rw [zi h1, zi rfl]; omega
         ·rw [ze h1, zi rfl]; omega
        clear hrel2 HNX hQ4 hA4r hb4r hb3r hb2r hb1r hB0 hG3r hQ1 hvl HE hA4 hGL hQ hbt4 hA2r hGx hs4r ls0 ls1 ls2 ls3 hgb hS1 hve hvl' hbt5 hm5 hme'
       rotate_left
       focus
        have hTv := hGL.vars (by omega)
        have C68 := zcJ g L a c k en er pl ne HOK.out hL E _ hE4 w5 hQ (by have := hbt4.size; omega)
        clear C64 hb2 hQ2 hE4 hGL hQ hme'
        go_wp2_with (go_at_call 68; refine C68.mono ?_; rintro _ w8 ⟨ys, aa, cc, k8, er8, pl8, ne8, rfl, hTl, hb8, hQ8, hE5⟩; refine zb ?_)
        refine zd ?_
        obtain ⟨n2, hn2⟩ : ∃ q, Hid (q = ys.length) := ⟨_, (rfl : ys.length = _)⟩
        rw [<- hn2.out]
        have l8 := hb8.size
        have hA4 := hb8.at hA4 (by omega)
        have hTv := hTv.but hb8 (.inl (by omega))
        have hbt4 := hbt4.trans hb8
        clear C68 hb8
        go_wp2_with (first
         | (refine zz rfl rfl hA4 2 (.slice aa n2 cc) rfl rfl (by kernel_rfl) ?_; intro w9 hA4' hb9; refine zb ?_))
        refine zd ?_
        have hA4 : At 53 w9 g4 [.string nm, .slice aL kL cL, .slice aa n2 cc] := hA4'
        have l9 := hb9.size
        have hTv := hTv.but hb9 (.inl (by omega))
        have hTl := hTl.but hb9 (.inl (by omega))
        have hQ9 := hQ8.but hb9 (by omega)
        have hbt4 := hbt4.fresh hb9 (by omega)
        have C67 := zdl g L a c k8 en er8 pl8 ne8 E (fun r => .ok (⟨nm.data.toList, ls.map VT.vr, ys.map ST.st⟩ : Th) r) hE5 w9 hQ9
        clear hb9 hA4' hQ8 hQ9 hE5
        go_wp2_with (go_at_call 67; refine C67.mono ?_; rintro _ wA ⟨rfl, k9, er9, pl9, hQ9, hb9, hE6⟩; refine zb ?_)
        refine zd ?_
        have lA := hb9.size
        have hA4 := hb9.at hA4 (by omega)
        have hTv := hTv.but hb9 (.inl (by omega))
        have hTl := hTl.but hb9 (.inl (by omega))
        have hbt4 := hbt4.trans hb9
        clear C67 hb9
        obtain ⟨y, hy⟩ : ∃ y : TT, Hid (y = ⟨nm, aL, cL, ls, aa, cc, ys⟩) := ⟨_, (rfl : (⟨nm, aL, cL, ls, aa, cc, ys⟩ : TT) = _)⟩
        have hyc : [.string nm, .slice aL kL cL, .slice aa n2 cc] = y.cells := by
         rw [hy.out]
         show _ = [Value.string nm, .slice aL ls.length cL, .slice aa ys.length cc]
         rw [hlL, hn2.out]
        rw [hyc] at hA4
        have hyin : eT.In wA.heap.size wA y := by rw [hy.out]; exact ⟨⟨hTv.1.1, hTl.1.1⟩, hTv.1.2, hTl.1.2.1, hTl.1.2.2⟩
        obtain ⟨hA3, hA2, hGT, hbt, hst⟩ := H4.out
        have l4w := hbt4.size
        have hylo : eT.Lies (fun q => w4.heap.size <= q) y := by
         rw [hy.out]
         exact ⟨yU (fun q hq => by omega) hTv.2, yU (fun q hq => by omega) hTl.2.1, hTl.2.2.mono fun q hq => by omega⟩
        have hyoff : eT.Lies (fun q => M2 <= q /\ some q ≠ (Value.slice aT k3 cT).ownBlock) y := Gr.fresh hGT hylo
        have hyth : y.th = ⟨nm.data.toList, ls.map VT.vr, ys.map ST.st⟩ := by rw [hy.out]; rfl
        have l4b := hbt.size
        have hGT := hGT.but hbt4 (by omega)
        have hA3 := hbt4.at hA3 (by omega)
        have hA2 := hbt4.at hA2 (by omega)
        have hst : RowVn M2 wA aV cV vs /\ RowNn M2 wA aN cM ms := ⟨hst.1.stay HU.out.1 (zj _) fun q hq hl => hbt4.block q (by omega) (by omega), hst.2.stay HU.out.2.1 HU.out.2.2 (zj _) fun q hq hl => hbt4.block q (by omega) (by omega)⟩
        have hbt := hbt.trans hbt4
        clear hy hyc hTv hTl hylo H4
        obtain ⟨d0, d1, d2⟩ := YB hA3
        have HV : Hid (Gr eT M2 wA (.slice aT k3 cT) ts /\ eT.In wA.heap.size wA y /\ eT.Lies (fun q => M2 <= q /\ some q ≠ (Value.slice aT k3 cT).ownBlock) y) := ⟨hGT, hyin, hyoff⟩
        clear hGT hyin hyoff
        go_wp2_with (first
         | (refine lL rfl rfl hA4 rfl Tryz.underlying53 rfl i42 ?_)
         | (refine qK rfl (.tmp 77) rfl y.cells rfl rfl ?_; intro wB hAB hbB; refine zb ?_))
        refine zd ?_
        have lB := hbB.size
        have HV4 : Hid (Gr eT M2 wB (.slice aT k3 cT) ts /\ eT.In wB.heap.size wB y) := ⟨HV.out.1.below hbB, eT.stay HV.out.2.1 HV.out.2.2 hbB.size fun q _ hl => hbB.block q hl⟩
        have HAB : Hid (At 53 wB wA.heap.size y.cells) := hAB
        clear hAB d0 d1 d2
        go_wp2_with (first
         | (refine XI (e := eT) (A := M2) (ys := ts) rfl (.tmp 76) (.tmp 78) 24 _ 64 rfl Tryz.underlying24 f53 rfl (by decide) rfl wA.heap.size rfl HV4.out.1 y HAB.out HV4.out.2 HV.out.2.2 k3 hl3 (by omega) (by decide) ?_; intro gW cW wC hGC hbC; refine zb ?_))
        refine zd ?_
        have lC := hbC.size
        have hA3C : At 26 wC g3 [.slice aV k1 cV, .slice aN k2 cM, .slice aT k3 cT] := (hA3.below hbB).belowA hbC hg3M2
        go_wp2_with (first
         | (refine zz rfl rfl hA3C 2 (.slice (some ⟨gW, 0, none⟩) (k3 + 1) cW) rfl rfl (by kernel_rfl) ?_; intro wE hA3E hbE; refine zb ?_))
        refine zd ?_
        have hA3E : At 26 wE g3 [.slice aV k1 cV, .slice aN k2 cM, .slice (some ⟨gW, 0, none⟩) (k3 + 1) cW] := hA3E
        have lE := hbE.size
        have hA2E : At 26 wE w.heap.size [.slice none 0 0, .slice none 0 0, .slice none 0 0] := hbE.at ((hA2.below hbB).belowA hbC (by omega)) (by omega)
        have hQE : Qd B wE g L a c k9 en er9 pl9 ne8 0 := ((hQ9.below hbB).keep fun j _ hj => hbC.block j (by omega)).but hbE (by omega)
        have hkeep : ∀ q, M <= q -> q < M2 -> wE.heap[q]? = wA.heap[q]? := fun q h1 h2 => (hbE.block q (by omega) (by omega)).trans ((hbC.block q h2).trans (hbB.block q (by omega)))
        have hbtE : But g w wE := by
         have h1 := hbt.trans (But.of_below hbB)
         have h2 : But g w wC := ⟨hbC.os.trans h1.os, hbC.tape.trans h1.tape, hbC.output.trans h1.output, zQ h1.size hbC.size, fun q hq hne => (hbC.block q (by omega)).trans (h1.block q hq hne)⟩
         exact h2.fresh hbE (by omega)
        have hk9 := hQE.le
        have hrel2 : (er9 = 0 /\ pl9 = 0 /\ L.length - k9 < L.length - k0 /\ D = ((zA f' (za L k9 en)).bind fun ss r => .ok ((ts ++ [y]).map TT.th ++ ss) r).bind fun ts r => (Zc r).bind fun _ r => .ok (⟨vs.map VT.vr, ms.map (fun m => m.data.toList), ts⟩ : Pg) r) \/ (er9 ≠ 0 /\ k9 = L.length /\ D = .bad er9 pl9) := by
         rcases hE6 with ⟨h1, h2, -, h4⟩ | ⟨h1, h2, h3⟩
         ·have hq := HEl.out _ _ h4
          rw [zH, zH, <- hk00] at hq
          refine .inl ⟨h1, h2, by omega, ?_⟩
          rw [HD.out, h4]
          show ((zA f' (za L k9 en)).bind _).bind _ = _
          congr 2
          funext ss r
          show Rs.ok (ts.map TT.th ++ _ :: ss) r = _
          rw [List.map_append, X4, <- hyth]
          rfl
         ·exact .inr ⟨h1, h2, by rw [HD.out, h3]; rfl⟩
        have HRel : Hid (∃ (k er pl ne f' : Nat) (aT : Option Addr) (k3 cT : Nat) (ts : List TT), ts.length = k3 /\ At 26 wE g3 [.slice aV k1 cV, .slice aN k2 cM, .slice aT k3 cT] /\ At 26 wE w.heap.size [.slice none 0 0, .slice none 0 0, .slice none 0 0] /\ Gr eT M2 wE (.slice aT k3 cT) ts /\ Qd B wE g L a c k en er pl ne 0 /\ But g w wE /\ (RowVn M2 wE aV cV vs /\ RowNn M2 wE aN cM ms) /\ k3 <= 1048576 /\ M2 <= wE.heap.size /\ ((er = 0 /\ pl = 0 /\ k3 + (L.length - k) <= L.length /\ (za L k en).length + 1 <= f' /\ D = ((zA f' (za L k en)).bind fun ss r => .ok (ts.map TT.th ++ ss) r).bind fun ts r => (Zc r).bind fun _ r => .ok (⟨vs.map VT.vr, ms.map (fun m => m.data.toList), ts⟩ : Pg) r) \/ (er ≠ 0 /\ k = L.length /\ D = .bad er pl))) := by
         rw [zH] at hf'
         rcases hrel2 with ⟨h1, h2, h3, h4⟩ | ⟨h1, h2, h3⟩
         ·exact ⟨k9, er9, pl9, ne8, f', some ⟨gW, 0, none⟩, k3 + 1, cW, ts ++ [y], by rw [yN, hl3]; rfl, hA3E, hA2E, hGC.but hbE hg3M2, hQE, hbtE, ⟨hst.1.stay HU.out.1 (zj _) hkeep, hst.2.stay HU.out.2.1 HU.out.2.2 (zj _) hkeep⟩, by omega, by omega, .inl ⟨h1, h2, by omega, by rw [zH]; omega, h4⟩⟩
         ·exact ⟨k9, er9, pl9, ne8, f', some ⟨gW, 0, none⟩, k3 + 1, cW, ts ++ [y], by rw [yN, hl3]; rfl, hA3E, hA2E, hGC.but hbE hg3M2, hQE, hbtE, ⟨hst.1.stay HU.out.1 (zj _) hkeep, hst.2.stay HU.out.2.1 HU.out.2.2 (zj _) hkeep⟩, by omega, by omega, .inr ⟨h1, h2, h3⟩⟩
        have hm5 := hQE.cN1
        have hm : 2 * (L.length - cN wE g 1) + (if cN wE g 3 = 0 then 1 else 0) < m0 := by
         rw [hm5.1, hm5.2, hm1]
         rcases hrel2 with ⟨h1, -, h2, -⟩ | ⟨h1, h2, -⟩
         ·rw [zi h1]; omega
         ·rw [ze h1]; omega
        rw [hm0.out] at hm
        clear hrel2 hkeep hst hA2E hA3E hA3C hGC hbC hbE hbB hQE hQ9 hbtE hbt hbt4 HV HV4 HAB HD hE HEl hA2 hA3 hA4 hm5 hm0 hm1 hE6
       rotate_left
       all_goals
        go_wp2_with fail
        go_roundw
        case rel => exact HRel
        case measure => exact hm
     ·rcases hDD with ⟨rfl, rfl, hkL, hf', hD⟩ | ⟨he, rfl, hD⟩
      focus
       have hkE : L.length <= k := by
        rcases Nat.lt_or_ge k L.length with q | q
        ·exact absurd ⟨rfl, q⟩ hcs
        ·exact q
       have c0 : ¬ (hdT (za L k en)).text = [116, 104, 114, 101, 97, 100] := fun c0 => by
        have htl := yl (l := za L k en) (by rw [c0]; decide)
        rw [zP (by decide) c0, zH, zH] at htl
        omega
       obtain ⟨f', rfl⟩ : ∃ q, f' = q + 1 := ⟨f' - 1, by omega⟩
       have hDk : Hid (∃ r, D = .ok (⟨aV, cV, vs, aN, cM, ms, aT, cT, ts⟩ : PT).pg r) := by
        refine ⟨za L k en, ?_⟩
        rw [hD, zA, ze c0]
        show (Zc (za L k en)).bind _ = _
        unfold Zc
        rw [ze (by rw [zH]; omega)]
        show Rs.ok (⟨_, _, ts.map TT.th ++ []⟩ : Pg) _ = _
        rw [List.append_nil]
        rfl
       have H30 : Hid (∀ u, At 71 u g (q7 a L.length c k en 0 0 ne 0) -> Calls Tryz.prog 30 #[.pointer (some ⟨g, 0, none⟩)] u fun r w' => r = .returned (.bool true) /\ w' = u) := fun u hu => zJ g L.length a c k en 0 0 ne 0 u hu
       clear hD c0 hf' hme hcs
       go_wp2_with fail
       have hS0r : At 71 wr.drew g (q7 a L.length c k en 0 0 ne 0) := hQ.cell.drew
       refine wp_region_held_drew (S := fun xS => At 71 xS g (q7 a L.length c k en 0 0 ne 0)) (by kernel_rfl) hS0r ?_
      rotate_left
      focus
       have H30 : Hid (∀ u, At 71 u g (q7 a L.length c L.length en er pl ne 0) -> Calls Tryz.prog 30 #[.pointer (some ⟨g, 0, none⟩)] u fun r w' => r = .returned (.bool false) /\ w' = u) := fun u hu => by
        have := zJ g L.length a c L.length en er pl ne 0 u hu
        rw [zN he, Bool.false_and] at this
        exact this
       have HD : Hid (D = .bad er pl) := hD
       have HEE : Hid (er ≠ 0) := he
       clear hD hme hcs he
       go_wp2_with fail
       have hS0r : At 71 wr.drew g (q7 a L.length c L.length en er pl ne 0) := hQ.cell.drew
       refine wp_region_held_drew (S := fun xS => At 71 xS g (q7 a L.length c L.length en er pl ne 0)) (by kernel_rfl) hS0r ?_
      rotate_left
      all_goals
       have hB0 : Below wr.heap.size wr wr.drew := Below.drew (Below.refl _ _)
       obtain ⟨x0r, hx0⟩ : ∃ x, x = wr.drew := ⟨_, rfl⟩
       rw [<- hx0] at hS0r hB0 ⊢
       clear hx0
       intro _
       refine tY 0 (.pointer (some ⟨g, 0, none⟩)) (oi := { dst := some 40, op := .move (.tmp 0), guard := none, .. }) rfl hS0r ?_ ?_
       ·intro wS hSw
        go_simp
       simp only [Act.put, sA, sB, sC]
       refine wpAnyH_ready (rs := [1]) (by kernel_rfl) (by simp) ?_
       refine AllReadyH.cons (o := { dst := some 41, op := .call { callee := .value (.func 30), args := #[.tmp 40], argTypes := #[69] }, guard := none, .. }) rfl (fun K hK => ?_) AllReadyH.nil
       rw [zi (by rfl)]
       go_wp2_with (go_at_call 30; refine (H30.out _ hS0r).mono ?_; rintro _ x1r ⟨rfl, hx1r⟩; obtain rfl : x0r = x1r := hx1r.symm; clear hx1r)
       refine hK.out _ _ hS0r (fun _ => ?_)
       clear hK K
      focus
       refine tY 2 (.bool true) (oi := { dst := some 42, op := .move (.tmp 41), guard := none, .. }) rfl hS0r ?_ ?_
       ·intro wS hSw
        go_simp
      rotate_left
      focus
       refine tY 2 (.bool false) (oi := { dst := some 42, op := .move (.tmp 41), guard := none, .. }) rfl hS0r ?_ ?_
       ·intro wS hSw
        go_simp
      rotate_left
      all_goals
       simp only [Act.put, sA, sB, sC]
      focus
       refine tY 3 (.pointer (some ⟨g, 0, none⟩)) (oi := { dst := some 43, op := .move (.tmp 0), guard := some (2, true), .. }) rfl hS0r ?_ ?_
       ·intro wS hSw
        go_simp
      rotate_left
      focus
       refine tN 3 (oi := { dst := some 43, op := .move (.tmp 0), guard := some (2, true), .. }) rfl hS0r ?_
      rotate_left
      all_goals
       simp only [Act.put, sA, sB, sC]
      focus
       refine tY 4 (.pointer (some ⟨g, 0, none⟩)) (oi := { dst := some 44, op := .nilCheck (.tmp 43), guard := some (2, true), .. }) rfl hS0r ?_ ?_
       ·intro wS hSw
        go_simp
      rotate_left
      focus
       refine tN 4 (oi := { dst := some 44, op := .nilCheck (.tmp 43), guard := some (2, true), .. }) rfl hS0r ?_
      rotate_left
      all_goals
       simp only [Act.put, sA, sB, sC]
      focus
       refine tY 5 (.pointer (some ⟨g, 1, none⟩)) (oi := { dst := some 45, op := .fieldAddr 71 (.tmp 44) 1, guard := some (2, true), .. }) rfl hS0r ?_ ?_
       ·intro wS hSw
        go_simp
      rotate_left
      focus
       refine tN 5 (oi := { dst := some 45, op := .fieldAddr 71 (.tmp 44) 1, guard := some (2, true), .. }) rfl hS0r ?_
      rotate_left
      all_goals
       simp only [Act.put, sA, sB, sC]
      focus
       refine tY 6 (.int .i64 (k : Int)) (oi := { dst := some 46, op := .load 3 (.tmp 45), guard := some (2, true), .. }) rfl hS0r ?_ ?_
       ·intro wS hSw
        have z0 := (zv hSw).2.1
        go_simp
      rotate_left
      focus
       refine tN 6 (oi := { dst := some 46, op := .load 3 (.tmp 45), guard := some (2, true), .. }) rfl hS0r ?_
      rotate_left
      all_goals
       simp only [Act.put, sA, sB, sC]
      focus
       refine tY 7 (.pointer (some ⟨g, 0, none⟩)) (oi := { dst := some 47, op := .move (.tmp 0), guard := some (2, true), .. }) rfl hS0r ?_ ?_
       ·intro wS hSw
        go_simp
      rotate_left
      focus
       refine tN 7 (oi := { dst := some 47, op := .move (.tmp 0), guard := some (2, true), .. }) rfl hS0r ?_
      rotate_left
      all_goals
       simp only [Act.put, sA, sB, sC]
      focus
       refine tY 8 (.pointer (some ⟨g, 0, none⟩)) (oi := { dst := some 48, op := .nilCheck (.tmp 47), guard := some (2, true), .. }) rfl hS0r ?_ ?_
       ·intro wS hSw
        go_simp
      rotate_left
      focus
       refine tN 8 (oi := { dst := some 48, op := .nilCheck (.tmp 47), guard := some (2, true), .. }) rfl hS0r ?_
      rotate_left
      all_goals
       simp only [Act.put, sA, sB, sC]
      focus
       refine tY 9 (.pointer (some ⟨g, 0, none⟩)) (oi := { dst := some 49, op := .fieldAddr 71 (.tmp 48) 0, guard := some (2, true), .. }) rfl hS0r ?_ ?_
       ·intro wS hSw
        go_simp
      rotate_left
      focus
       refine tN 9 (oi := { dst := some 49, op := .fieldAddr 71 (.tmp 48) 0, guard := some (2, true), .. }) rfl hS0r ?_
      rotate_left
      all_goals
       simp only [Act.put, sA, sB, sC]
      focus
       refine tY 10 (.slice a L.length c) (oi := { dst := some 50, op := .load 60 (.tmp 49), guard := some (2, true), .. }) rfl hS0r ?_ ?_
       ·intro wS hSw
        have z0 := (zv hSw).1
        go_simp
      rotate_left
      focus
       refine tN 10 (oi := { dst := some 50, op := .load 60 (.tmp 49), guard := some (2, true), .. }) rfl hS0r ?_
      rotate_left
      all_goals
       simp only [Act.put, sA, sB, sC]
      focus
       refine tY 11 (.int .i64 (L.length : Int)) (oi := { dst := some 51, op := .call { callee := .builtin .len, args := #[.tmp 50], argTypes := #[60] }, guard := some (2, true), .. }) rfl hS0r ?_ ?_
       ·intro wS hSw
        go_simp
      rotate_left
      focus
       refine tN 11 (oi := { dst := some 51, op := .call { callee := .builtin .len, args := #[.tmp 50], argTypes := #[60] }, guard := some (2, true), .. }) rfl hS0r ?_
      rotate_left
      all_goals
       simp only [Act.put, sA, sB, sC]
      focus
       refine tY 12 (.bool false) (oi := { dst := some 52, op := .binOp .lss 3 (.tmp 46) (.tmp 51) 3, guard := some (2, true), .. }) rfl hS0r ?_ ?_
       ·intro wS hSw
        go_simp; try omega
      rotate_left
      focus
       refine tN 12 (oi := { dst := some 52, op := .binOp .lss 3 (.tmp 46) (.tmp 51) 3, guard := some (2, true), .. }) rfl hS0r ?_
      rotate_left
      all_goals
       simp only [Act.put, sA, sB, sC]
       refine tY 13 (.bool false) (oi := { dst := some 53, op := .pick (.tmp 42) (.tmp 52) (.const (.bool false)), guard := none, .. }) rfl hS0r ?_ ?_
       ·intro wS hSw
        go_simp
       simp only [Act.put, sA, sB, sC]
       refine wpAnyH_done (by kernel_rfl) ?_ _
       have hA3 := hA3.below hB0
       have hA2 := hA2.below hB0
       have hGT := hGT.below hB0
       have hQ := hQ.below hB0
       have hbt := hbt.trans (But.of_below hB0)
       have l0 := hB0.size
       have hst : RowVn M2 x0r aV cV vs /\ RowNn M2 x0r aN cM ms := ⟨hst.1.stay HU.out.1 (zj _) fun q hq hl => hB0.block q (by omega), hst.2.stay HU.out.2.1 HU.out.2.2 (zj _) fun q hq hl => hB0.block q (by omega)⟩
       have hcc : (⟨aV, cV, vs, aN, cM, ms, aT, cT, ts⟩ : PT).cells = [.slice aV k1 cV, .slice aN k2 cM, .slice aT k3 cT] := by
        show [Value.slice aV vs.length cV, .slice aN ms.length cM, .slice aT ts.length cT] = _
        rw [hl1, hl2, hl3]
       go_wp2_with (first
        | (refine lL rfl rfl hA3 rfl Tryz.underlying26 rfl i26 ?_)
        | (refine sL rfl rfl hA2 [.slice aV k1 cV, .slice aN k2 cM, .slice aT k3 cT] rfl rfl i26 rfl (by rw [<- hcc]; exact PT.one _) ?_; intro wE hAE hbE))
       refine zr (zh rfl _ _ w.heap.size 26 [.slice aV k1 cV, .slice aN k2 cM, .slice aT k3 cT] _ rfl hAE Tryz.underlying26 rfl i26) rfl ?_
       have hT := (hGT.but hbE (by omega)).threads (by omega)
       have lE := hbE.size
       have k1' := hst.1.stay (B' := wE.heap.size) (w' := wE) HU.out.1 (by omega) fun q hq hl => hbE.block q (by omega) (by omega)
       have k2' := hst.2.stay (B' := wE.heap.size) (w' := wE) HU.out.2.1 HU.out.2.2 (by omega) fun q hq hl => hbE.block q (by omega) (by omega)
      ·exact ⟨⟨aV, cV, vs, aN, cM, ms, aT, cT, ts⟩, _, _, _, ne, by rw [hcc], ⟨k1'.1, k2'.1, hT.1.1⟩, ⟨yU (fun q hq => by omega) HU.out.1, yU (fun q hq => by omega) HU.out.2.1, yU (fun q hq => by omega) hT.2.1, fun y hy => eT.mono (hT.2.2 y hy) fun q hq => by omega⟩, hbt.fresh hbE (zj _), hQ.but hbE hBw, .inl ⟨rfl, rfl, hDk.out⟩⟩
      ·exact ⟨⟨aV, cV, vs, aN, cM, ms, aT, cT, ts⟩, _, _, _, ne, by rw [hcc], ⟨k1'.1, k2'.1, hT.1.1⟩, ⟨yU (fun q hq => by omega) HU.out.1, yU (fun q hq => by omega) HU.out.2.1, yU (fun q hq => by omega) hT.2.1, fun y hy => eT.mono (hT.2.2 y hy) fun q hq => by omega⟩, hbt.fresh hbE (zj _), hQ.but hbE hBw, .inr ⟨HEE.out, HD.out⟩⟩
   ·have C30 : Calls Tryz.prog 30 #[.pointer (some ⟨g, 0, none⟩)] wr fun r w' => r = .returned (.bool false) /\ w' = wr := by
     have := zJ g L.length a c L.length en er pl ne 0 wr hQ.cell
     rw [zN he, Bool.false_and] at this
     exact this
    have HD : Hid (D = .bad er pl) := hD
    have HEE : Hid (er ≠ 0) := he
    have HI : Hid (At 26 wr g3 [.slice aV k1 cV, .slice aN k2 cM, .slice none 0 0] /\ At 26 wr w.heap.size [.slice none 0 0, .slice none 0 0, .slice none 0 0] /\ Gr eV M wr (.slice aV k1 cV) vs /\ Gr eN M wr (.slice aN k2 cM) ms /\ Qd B wr g L a c L.length en er pl ne 0 /\ But g w wr) := ⟨hA3, hA2, hGV, hGN, hQ, hbt⟩
    clear hD hme hcs he hA3 hA2 hGV hGN hQ hbt
    go_wp2_with (go_at_call 30; refine C30.mono ?_; rintro _ wq ⟨rfl, hwq⟩; obtain rfl : wr = wq := hwq.symm; clear hwq; refine zb ?_)
    refine zd ?_
    clear C30
    go_wp2_with fail
    go_loopw [41] (fun _ wr => Hid (At 26 wr g3 [.slice aV k1 cV, .slice aN k2 cM, .slice none 0 0] /\ At 26 wr w.heap.size [.slice none 0 0, .slice none 0 0, .slice none 0 0] /\ Gr eV M wr (.slice aV k1 cV) vs /\ Gr eN M wr (.slice aN k2 cM) ms /\ Qd B wr g L a c L.length en er pl ne 0 /\ But g w wr)) (fun _ _ => 0)
    case atStart => exact HI
    case round =>
     clear HI
     obtain ⟨hA3, hA2, hGV, hGN, hQ, hbt⟩ := hrel.out
     clear hrel
     have H30 : Hid (∀ u, At 71 u g (q7 a L.length c L.length en er pl ne 0) -> Calls Tryz.prog 30 #[.pointer (some ⟨g, 0, none⟩)] u fun r w' => r = .returned (.bool false) /\ w' = u) := fun u hu => by
      have := zJ g L.length a c L.length en er pl ne 0 u hu
      rw [zN HEE.out, Bool.false_and] at this
      exact this
     have lr := hbt.size
     have lG := hGV.size
     go_wp2_with fail
     have hS0r : At 71 wr.drew g (q7 a L.length c L.length en er pl ne 0) := hQ.cell.drew
     refine wp_region_held_drew (S := fun xS => At 71 xS g (q7 a L.length c L.length en er pl ne 0)) (by kernel_rfl) hS0r ?_
     have hB0 : Below wr.heap.size wr wr.drew := Below.drew (Below.refl _ _)
     obtain ⟨x0r, hx0⟩ : ∃ x, x = wr.drew := ⟨_, rfl⟩
     rw [<- hx0] at hS0r hB0 ⊢
     clear hx0
     intro _
     refine tY 0 (.pointer (some ⟨g, 0, none⟩)) (oi := { dst := some 40, op := .move (.tmp 0), guard := none, .. }) rfl hS0r ?_ ?_
     ·intro wS hSw
      go_simp
     simp only [Act.put, sA, sB, sC]
     refine wpAnyH_ready (rs := [1]) (by kernel_rfl) (by simp) ?_
     refine AllReadyH.cons (o := { dst := some 41, op := .call { callee := .value (.func 30), args := #[.tmp 40], argTypes := #[69] }, guard := none, .. }) rfl (fun K hK => ?_) AllReadyH.nil
     rw [zi (by rfl)]
     go_wp2_with (go_at_call 30; refine (H30.out _ hS0r).mono ?_; rintro _ x1r ⟨rfl, hx1r⟩; obtain rfl : x0r = x1r := hx1r.symm; clear hx1r)
     refine hK.out _ _ hS0r (fun _ => ?_)
     clear hK K
     refine tY 2 (.bool false) (oi := { dst := some 42, op := .move (.tmp 41), guard := none, .. }) rfl hS0r ?_ ?_
     ·intro wS hSw
      go_simp
     simp only [Act.put, sA, sB, sC]
     refine tN 3 (oi := { dst := some 43, op := .move (.tmp 0), guard := some (2, true), .. }) rfl hS0r ?_
     simp only [Act.put, sA, sB, sC]
     refine tN 4 (oi := { dst := some 44, op := .nilCheck (.tmp 43), guard := some (2, true), .. }) rfl hS0r ?_
     simp only [Act.put, sA, sB, sC]
     refine tN 5 (oi := { dst := some 45, op := .fieldAddr 71 (.tmp 44) 1, guard := some (2, true), .. }) rfl hS0r ?_
     simp only [Act.put, sA, sB, sC]
     refine tN 6 (oi := { dst := some 46, op := .load 3 (.tmp 45), guard := some (2, true), .. }) rfl hS0r ?_
     simp only [Act.put, sA, sB, sC]
     refine tN 7 (oi := { dst := some 47, op := .move (.tmp 0), guard := some (2, true), .. }) rfl hS0r ?_
     simp only [Act.put, sA, sB, sC]
     refine tN 8 (oi := { dst := some 48, op := .nilCheck (.tmp 47), guard := some (2, true), .. }) rfl hS0r ?_
     simp only [Act.put, sA, sB, sC]
     refine tN 9 (oi := { dst := some 49, op := .fieldAddr 71 (.tmp 48) 0, guard := some (2, true), .. }) rfl hS0r ?_
     simp only [Act.put, sA, sB, sC]
     refine tN 10 (oi := { dst := some 50, op := .load 60 (.tmp 49), guard := some (2, true), .. }) rfl hS0r ?_
     simp only [Act.put, sA, sB, sC]
     refine tN 11 (oi := { dst := some 51, op := .call { callee := .builtin .len, args := #[.tmp 50], argTypes := #[60] }, guard := some (2, true), .. }) rfl hS0r ?_
     simp only [Act.put, sA, sB, sC]
     refine tN 12 (oi := { dst := some 52, op := .binOp .lss 3 (.tmp 46) (.tmp 51) 3, guard := some (2, true), .. }) rfl hS0r ?_
     simp only [Act.put, sA, sB, sC]
     refine tY 13 (.bool false) (oi := { dst := some 53, op := .pick (.tmp 42) (.tmp 52) (.const (.bool false)), guard := none, .. }) rfl hS0r ?_ ?_
     ·intro wS hSw
      go_simp
     simp only [Act.put, sA, sB, sC]
     refine wpAnyH_done (by kernel_rfl) ?_ _
     have hA3 := hA3.below hB0
     have hA2 := hA2.below hB0
     have hGV := hGV.below hB0
     have hGN := hGN.below hB0
     have hQ := hQ.below hB0
     have hbt := hbt.trans (But.of_below hB0)
     have l0 := hB0.size
     have hcc : (⟨aV, cV, vs, aN, cM, ms, none, 0, []⟩ : PT).cells = [.slice aV k1 cV, .slice aN k2 cM, .slice none 0 0] := by
      show [Value.slice aV vs.length cV, .slice aN ms.length cM, .slice none 0 0] = _
      rw [hl1, hl2]
     go_wp2_with (first
      | (refine lL rfl rfl hA3 rfl Tryz.underlying26 rfl i26 ?_)
      | (refine sL rfl rfl hA2 [.slice aV k1 cV, .slice aN k2 cM, .slice none 0 0] rfl rfl i26 rfl (by rw [<- hcc]; exact PT.one _) ?_; intro wE hAE hbE))
     refine zr (zh rfl _ _ w.heap.size 26 [.slice aV k1 cV, .slice aN k2 cM, .slice none 0 0] _ rfl hAE Tryz.underlying26 rfl i26) rfl ?_
     have lE := hbE.size
     have hTv := (hGV.but hbE (by omega)).vars (by omega)
     have hTn := (hGN.but hbE (by omega)).names (by omega)
     exact ⟨⟨aV, cV, vs, aN, cM, ms, none, 0, []⟩, _, _, _, ne, by rw [hcc], ⟨hTv.1.1, hTn.1.1, ⟨by simp, zj _, .inl rfl⟩⟩, ⟨yU (fun q hq => by omega) hTv.2, yU (fun q hq => by omega) hTn.2.1, .inl rfl, fun y hy => by cases hy⟩, hbt.fresh hbE (zj _), hQ.but hbE hBw, .inr ⟨HEE.out, HD.out⟩⟩
