/- J -/
import Derived.Test.YtjgggmjjikopeaaGreatDoorJ34
import Derived.Test.YtjgggmjjikopeaaGreatDoorJ43
set_option linter.unusedVariables false
set_option maxRecDepth 100000
set_option maxHeartbeats 6400000
open Go.RowKit
namespace Go.Proofs.YtjgggmjjikopeaaGreatDoor
mutual
theorem zcO : ∀ x : St, Kc x x = true
 | .mk k nm e b c => by simp [Kc, ji e, samSL_refl b, samSL_refl c]
theorem samSL_refl : ∀ xs : List St, samSL xs xs = true
 | [] => by simp [samSL]
 | x :: r => by simp [samSL, zcO x, samSL_refl r]
end
theorem XX {α : Type} (f : α -> α -> Bool) (h : ∀ x, f x x = true) : ∀ l : List α, eqL f l l = true
 | [] => by simp [eqL]
 | x :: r => by simp [eqL, h x, XX f h r]
theorem jj (v : Vr) : XF v v = true := by simp [XF]
theorem zcN (t : Th) : JQ t t = true := by simp [JQ, XX XF jj, samSL_refl]
theorem jk (p : Pg) : zgl p p = true := by simp [zgl, XX XF jj, XX KU (fun x => by simp [KU]), XX JQ zcN]
theorem zg5 (l : List UInt8) : pgW (pgO l (yf (yK l))).1 <= 536870912 := by
 have h0 : pgW noP.pg <= 536870912 := by decide
 unfold pgO
 split
 ·cases h : yf (yK l) with
  | bad e p => exact h0
  | ok x r =>
   dsimp only
   cases Zc r with
   | bad e p => exact h0
   | ok u r' => exact zam h
 ·exact h0
theorem PT.In.up5 {B C : Nat} {w : World} {y : PT} (hBC : B <= C) (h : y.In B w) : y.In C w :=
 ⟨h.1.stay (S := fun _ => True) (yU (fun _ _ => trivial) h.1.bound) hBC fun _ _ _ => rfl, h.2.1.stay (S := fun _ => True) (by
   obtain ⟨_, _, q | ⟨g, o, ha, hg, _⟩⟩ := h.2.1
   ·exact .inl q
   ·exact .inr ⟨g, o, ha, trivial⟩) hBC fun _ _ _ => rfl, by
  obtain ⟨h1, h2, q | ⟨g, o, ha, hg, hr⟩⟩ := h.2.2
  ·exact ⟨h1, h2, .inl q⟩
  ·refine ⟨h1, h2, .inr ⟨g, o, ha, by omega, fun i v hv => ⟨(hr i v hv).1, ?_⟩⟩⟩
   have h3 := (hr i v hv).2
   refine ⟨h3.1.stay (S := fun _ => True) (yU (fun _ _ => trivial) h3.1.bound) hBC fun _ _ _ => rfl, ?_⟩
   obtain ⟨k1, k2, q | ⟨g, o, ha, hg, hr⟩⟩ := h3.2
   ·exact ⟨k1, k2, .inl q⟩
   ·exact ⟨k1, k2, .inr ⟨g, o, ha, by omega, ST.Row.up hBC hr⟩⟩⟩
theorem Py.keep {A : Nat} {w w' : World} {y : PT} (h : Py A w y) (hb : Below w.heap.size w w') : y.In w.heap.size w' /\ y.Sf w' := by
 have hq : ∀ q, A <= q -> q < w.heap.size -> w'.heap[q]? = w.heap[q]? := fun q _ h2 => hb.block q h2
 obtain ⟨⟨⟨i1, i2, i3⟩, ⟨s1, s2, s3, s4⟩, s5⟩, l1, l2, l3, l4⟩ := h
 have k1 := RowVn.stay (B' := w.heap.size) (w' := w') ⟨i1, s1⟩ l1 (zj _) hq
 have k2 := RowNn.stay (B' := w.heap.size) (w' := w') ⟨i2, s2⟩ l2 s5 (zj _) hq
 have hT : ∀ t ∈ y.threads, eT.In w.heap.size w t := fun t ht => by
  obtain ⟨_, _, q | ⟨g, o, ha, hg, hr⟩⟩ := i3
  ·rw [q] at ht; cases ht
  ·obtain ⟨i, hi⟩ := List.mem_iff_getElem?.1 ht
   exact ⟨(hr i t hi).2, s4 t ht⟩
 have hb3 : y.threads = [] \/ ∃ g o, y.a3 = some ⟨g, o, none⟩ /\ g < w.heap.size := by
  obtain ⟨_, _, q | ⟨g, o, ha, hg, hr⟩⟩ := i3
  ·exact .inl q
  ·exact .inr ⟨g, o, ha, hg⟩
 exact ⟨⟨k1.1, k2.1, i3.stay l3 l4 (zj _) hq⟩, k1.2, k2.2, Ye (Yf l3 s3) hb3 (fun q hq' l => hq'.2.keep (hq q hq'.1 l)), fun t ht => (eT.stay (hT t ht) (l4 t ht) (zj _) hq).2⟩
theorem Pw.apt {A B C : Nat} {w w' : World} {y : PT} (h : Pw C w y) (hb : Apt A B w w') (hC : B <= C) : Pw C w' y := by
 have hq : ∀ q, C <= q -> q < w.heap.size -> w'.heap[q]? = w.heap[q]? := fun q h1 h2 => hb.block q h2 (.inr (by omega))
 exact ⟨⟨h.1.1.stay h.2.1 hb.size hq, h.1.2.1.stay h.2.2.1 hb.size hq, h.1.2.2.stay h.2.2.2.1 h.2.2.2.2 hb.size hq⟩, h.2⟩
theorem Pw.below {A : Nat} {w w' : World} {y : PT} (h : Pw A w y) (hb : Below w.heap.size w w') : Pw A w' y := h.but (But.of_below (g := w.heap.size) hb) (.inr (zj _))
theorem At.apt {A B : Nat} {t : TypeId} {w w' : World} {g : Nat} {cs : List Value} (h : At t w g cs) (hb : Apt A B w w') (hg : B <= g) : At t w' g cs := (hb.block g h.lt (.inr hg)).trans h
theorem Apt.below {A B : Nat} {w0 w w' : World} (h : Apt A B w w') (hb : Below A w0 w) (hA : A <= w.heap.size) : Below A w0 w' :=
 ⟨h.os.trans hb.os, h.tape.trans hb.tape, h.output.trans hb.output, zQ hb.size h.size, fun k hk => (h.block k (by omega) (.inl hk)).trans (hb.block k hk)⟩
theorem zhn (s : ByteArray) (w : World) (hmax : s.size <= 9223372036854775807) (hE : ErrR w) (hT : Tab w) (h16 : gB <= w.heap.size) :
  Calls Tryz.prog 3 #[.string s] w fun r w' => r = .returned (.bool true) /\ Below w.heap.size w w' := by
 have HP : Hid (∀ u, ErrR u -> Calls Tryz.prog 8 #[.string s] u fun r w' => zbT u (pgO (bytes s) (yf (yK (bytes s)))) r w') := fun u hu => zbp s u hmax hu
 have HQ : Hid (∀ u, Calls Tryz.prog 9 #[.string s] u fun r w' => KN u (pgO (bytes s) (yf (yK (bytes s)))) r w') := fun u => KZ s u hmax
 have hW := zg5 (bytes s)
 generalize pgO (bytes s) (yf (yK (bytes s))) = o at *
 obtain ⟨X, e, p⟩ := o
 unfold zbT at HP
 unfold KN at HQ
 dsimp only at HP HQ hW
 have HW : Hid (pgW X <= 536870912) := hW
 clear hW
 go_enter Tryz.func3, Tryz.ntmps3
 go_wp2_with (first
  | (go_at_call 8; refine (HP.out _ hE).mono ?_; rintro _ v1 ⟨y, rfl, hy, hTy, vb1⟩)
  | (refine aL (o := { dst := some 3, .. }) rfl rfl VB ?_; intro v2 vA2 vb2)
  | (refine aL (o := { dst := some 4, .. }) rfl rfl z25 ?_; intro v3 vA3 vb3)
  | (refine sL rfl rfl (vA2.below vb3) y.cells rfl rfl (YU _) (Ks _) (PT.one _) ?_; intro v4 vA4 vb4; have vA34 := vb4.at vA3 (by have := vA2.lt; omega))
  | (refine sL rfl rfl vA34 (fa2 e p) rfl rfl i25 rfl (yq _ _) ?_; intro v5 vA5 vb5; refine zb ?_))
 refine zd ?_
 have vl1 := vb1.size
 have vl2 := vA2.lt
 have vl3 := vA3.lt
 have vl4 := vb4.size
 have vl5 := vb5.size
 have vB3 : Below v1.heap.size v1 v3 := vb2.trans (vb3.mono vb2.size)
 have vB5 : Below v1.heap.size v1 v5 := vb5.below (vb4.below vB3 (zj _) (by omega)) (by omega) (by omega)
 have vBw : Below w.heap.size w v5 := vb1.trans (vB5.mono vl1)
 have vA45 := vb5.at vA4 (by omega)
 clear vA2 vA3 vA4 vA34 vb1 vb2 vb3 vb4 vb5 vB3
 go_wp2_with (first
  | (go_at_call 9; refine (HQ.out _).mono ?_; rintro _ u1 ⟨z, rfl, hz, hTz, ub1⟩)
  | (refine aL (o := { dst := some 5, .. }) rfl rfl VB ?_; intro u2 uA2 ub2)
  | (refine aL (o := { dst := some 6, .. }) rfl rfl z25 ?_; intro u3 uA3 ub3)
  | (refine sL rfl rfl (uA2.below ub3) z.cells rfl rfl (YU _) (Ks _) (PT.one _) ?_; intro u4 uA4 ub4; have uA34 := ub4.at uA3 (by have := uA2.lt; omega))
  | (refine sL rfl rfl uA34 (fa2 e p) rfl rfl i25 rfl (yq _ _) ?_; intro u5 uA5 ub5; refine zb ?_))
 refine zd ?_
 have ul1 := ub1.size
 have ul2 := uA2.lt
 have ul3 := uA3.lt
 have ul4 := ub4.size
 have ul5 := ub5.size
 have uB3 : Below u1.heap.size u1 u3 := ub2.trans (ub3.mono ub2.size)
 have uB5 : Below u1.heap.size u1 u5 := ub5.below (ub4.below uB3 (zj _) (by omega)) (by omega) (by omega)
 have uBw : Below v5.heap.size v5 u5 := ub1.trans (uB5.mono ul1)
 have uA45 := ub5.at uA4 (by omega)
 clear uA2 uA3 uA4 uA34 ub1 ub2 ub3 ub4 ub5 uB3
 have hB1u : Below v1.heap.size v1 u5 := vB5.trans (uBw.mono (by omega))
 have hy5 := hTy.keep hB1u
 have hz5 := hTz.below uB5
 have hBu : Below w.heap.size w u5 := vBw.trans (uBw.mono vBw.size)
 have hAy := vA45.below uBw
 have hAf := vA5.below uBw
 have lu : v5.heap.size <= u1.heap.size := ul1
 have hS1 := XT u5.heap.size y z u5 (PT.In.up5 (show v1.heap.size <= u5.heap.size by omega) hy5.1) hz5.1 (zj _)
 rw [hy, hz, jk] at hS1
 have HY : Hid (y.pg = X /\ z.pg = X /\ Py w.heap.size v1 y) := ⟨hy, hz, hTy⟩
 clear vA45 vA5 vBw hTy hy5 hTz hy hz
 go_wp2_with (first
  | (refine lL rfl rfl hAy rfl Tryz.underlying26 rfl (YU _) ?_)
  | (refine lL rfl rfl uA45 rfl Tryz.underlying26 rfl (YU _) ?_)
  | (go_at_call 10; refine hS1.mono ?_; rintro _ u6 ⟨rfl, kb6⟩; obtain ⟨c0, c1⟩ := y8 (hAf.below kb6); obtain ⟨d0, d1⟩ := y8 (uA5.below kb6); refine zb ?_))
 refine zd ?_
 have l6 := kb6.size
 have hAy6 := hAy.below kb6
 have hAz6 := uA45.below kb6
 have hAg6 := uA5.below kb6
 have hz6 := hz5.below kb6
 have hB6 : Below w.heap.size w u6 := hBu.trans (kb6.mono hBu.size)
 have hy6 := HY.out.2.2.keep (hB1u.trans (kb6.mono (by omega)))
 have hO := JT w.heap.size v1.heap.size y u6 hy6.1 hy6.2 HY.out.2.2.1.2.2 HY.out.2.2.2 (by omega) (by omega) (by rw [HY.out.1]; exact HW.out)
 clear hS1 hAy hAf uA45 uA5 hz5 hBu hB1u hy6 kb6
 go_wp2_with (first
  | (refine lL rfl rfl hAy6 rfl Tryz.underlying26 rfl (YU _) ?_)
  | (go_at_call 11; refine hO.mono ?_; rintro _ u7 ⟨rfl, hAp⟩; refine zb ?_))
 refine zd ?_
 have l7 := hAp.size
 have hAz7 := hAz6.apt hAp (by omega)
 have hAg7 := hAg6.apt hAp (by omega)
 have hz7 := hz6.apt hAp (by omega)
 have hB7 := hAp.below hB6 (by omega)
 have hE7 := hE.below hB7
 clear hO c0 c1 d0 d1 hAy6 hAz6 hAg6 hz6 hB6 hAp
 go_wp2_with (first
  | (go_at_call 8; refine (HP.out _ hE7).mono ?_; rintro _ k1 ⟨y2, rfl, hy2, hTy2, kb1⟩)
  | (refine aL (o := { dst := some 7, .. }) rfl rfl VB ?_; intro k2 kA2 kb2)
  | (refine aL (o := { dst := some 8, .. }) rfl rfl z25 ?_; intro k3 kA3 kb3)
  | (refine sL rfl rfl (kA2.below kb3) y2.cells rfl rfl (YU _) (Ks _) (PT.one _) ?_; intro k4 kA4 kb4; have kA34 := kb4.at kA3 (by have := kA2.lt; omega))
  | (refine sL rfl rfl kA34 (fa2 e p) rfl rfl i25 rfl (yq _ _) ?_; intro k5 kA5 kb5; refine zb ?_))
 refine zd ?_
 have kl1 := kb1.size
 have kl2 := kA2.lt
 have kl3 := kA3.lt
 have kl4 := kb4.size
 have kl5 := kb5.size
 have kB3 : Below k1.heap.size k1 k3 := kb2.trans (kb3.mono kb2.size)
 have kB5 : Below k1.heap.size k1 k5 := kb5.below (kb4.below kB3 (zj _) (by omega)) (by omega) (by omega)
 have kBw : Below u7.heap.size u7 k5 := kb1.trans (kB5.mono kl1)
 have kA45 := kb5.at kA4 (by omega)
 clear kA2 kA3 kA4 kA34 kb1 kb2 kb3 kb4 kb5 kB3
 have hy25 := hTy2.keep kB5
 have hz8 := hz7.below kBw
 have hAz8 := hAz7.below kBw
 have hAg8 := hAg7.below kBw
 have hB8 : Below w.heap.size w k5 := hB7.trans (kBw.mono hB7.size)
 have hS2 := XT k5.heap.size y2 z k5 (PT.In.up5 (show k1.heap.size <= k5.heap.size by omega) hy25.1) hz8.1 (zj _)
 rw [hy2, HY.out.2.1, jk] at hS2
 clear hAz7 hAg7 hz7 hy25 hz8 hTy2 HY HP HQ hE7
 go_wp2_with (first
  | (refine lL rfl rfl kA45 rfl Tryz.underlying26 rfl (YU _) ?_)
  | (refine lL rfl rfl hAz8 rfl Tryz.underlying26 rfl (YU _) ?_)
  | (go_at_call 10; refine hS2.mono ?_; rintro _ k6 ⟨rfl, kb6⟩; have hBv : Below w.heap.size w k6 := hB8.trans (kb6.mono hB8.size); obtain ⟨c0, c1⟩ := y8 (kA5.below kb6); obtain ⟨d0, d1⟩ := y8 (hAg8.below kb6))
  | (go_at_call 12; refine (zgS k6 (hE.below hBv) (hT.below hBv h16) (zQ h16 hBv.size)).mono ?_; rintro _ k7 ⟨rfl, kb7⟩))
 go_ret
 exact ⟨rfl, hBv.trans (kb7.mono hBv.size)⟩
