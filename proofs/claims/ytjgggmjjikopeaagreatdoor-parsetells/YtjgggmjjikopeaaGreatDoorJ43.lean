/- J -/
import Derived.Test.YtjgggmjjikopeaaGreatDoorJ41
import Derived.Test.YtjgggmjjikopeaaGreatDoorJ42
set_option linter.unusedVariables false
set_option maxRecDepth 100000
set_option maxHeartbeats 6400000
open Go.RowKit
namespace Go.Proofs.YtjgggmjjikopeaaGreatDoor
def Pw (A : Nat) (w : World) (y : PT) : Prop := y.In w.heap.size w /\ y.Lies (fun k => A <= k)
theorem Pw.but {A k : Nat} {w w' : World} {y : PT} (h : Pw A w y) (hb : But k w w') (hk : k < A \/ w.heap.size <= k) : Pw A w' y := by
 have hq : ∀ q, A <= q -> q < w.heap.size -> w'.heap[q]? = w.heap[q]? := fun q h1 h2 => hb.block q h2 (by omega)
 exact ⟨⟨h.1.1.stay h.2.1 hb.size hq, h.1.2.1.stay h.2.2.1 hb.size hq, h.1.2.2.stay h.2.2.2.1 h.2.2.2.2 hb.size hq⟩, h.2⟩
theorem Pw.low {A A' : Nat} {w : World} {y : PT} (h : Pw A w y) (hA : A' <= A) : Pw A' w y :=
 ⟨h.1, yU (fun q hq => zQ hA hq) h.2.1, yU (fun q hq => zQ hA hq) h.2.2.1, yU (fun q hq => zQ hA hq) h.2.2.2.1, fun t ht => eT.mono (h.2.2.2.2 t ht) fun q hq => zQ hA hq⟩
theorem zea (A : Nat) (w : World) : Pw A w noP := ⟨(Kl A w).1.1, (Kl A w).2⟩
def KN (w : World) (o : Pg × Nat × Nat) (r : Ending) (w' : World) : Prop :=
 ∃ y : PT, r = .returned (.tuple #[.agg y.cells.toArray, .agg (fa2 o.2.1 o.2.2).toArray]) /\ y.pg = o.1 /\ Pw w.heap.size w' y /\ Below w.heap.size w w'
def pgR (D : Rs Pg) : Pg × Nat × Nat := match D with
 | .bad e p => (noP.pg, e, p)
 | .ok x _ => (x, 0, 0)
theorem KY (s : ByteArray) (er pl : Nat) (hc : er ≠ 0) (w : World) (ts : List Tk) (HL : Hid (∀ u, Calls Tryz.prog 28 #[.string s] u fun e w' => Y6 u ⟨ts, er, pl⟩ e w')) :
  Calls Tryz.prog 9 #[.string s] w fun r w' => KN w (noP.pg, er, pl) r w' := by
 unfold Y6 at HL
 dsimp only at HL
 go_enter Tryz.func9, Tryz.ntmps9
 go_wp2_with (first
  | (refine aL (o := { dst := some 2, .. }) rfl rfl VB ?_; intro w1 hA1 hb1)
  | (refine aL (o := { dst := some 3, .. }) rfl rfl z25 ?_; intro w2 hA2 hb2)
  | (go_at_call 28; refine (HL.out _).mono ?_; rintro r w3 ⟨v, rfl, hTk, hb3⟩)
  | (refine aL (o := { dst := some 5, .. }) rfl rfl z25 ?_; intro w4 hA4 hb4)
  | (refine sL rfl rfl hA4 (fa2 er pl) rfl rfl i25 rfl (yq _ _) ?_; intro w5 hA5 hb5; refine zb ?_))
 refine zd ?_
 have l1 := hA1.lt
 have l2 := hA2.lt
 have l3 := hb3.size
 have l4 := hA4.lt
 have l5 := hb5.size
 have s1 := hb1.size
 have s2 := hb2.size
 have hB2 : Below w.heap.size w w2 := hb1.trans (hb2.mono s1)
 have hB3 : Below w.heap.size w w3 := hB2.trans (hb3.mono (by omega))
 have hB5 : Below w.heap.size w w5 := hb5.below (hB3.trans (hb4.mono (by omega))) (by omega) (by omega)
 have hA15 := hb5.at (((hA1.below hb2).below hb3).below hb4) (by omega)
 have hA25 := hb5.at ((hA2.below hb3).below hb4) (by omega)
 obtain ⟨c0, c1⟩ := y8 hA5
 clear hA1 hA2 hA4 hb1 hb2 hb3 hb4 hb5 hTk hB2 hB3
 go_wp2
 have hRa : At 26 w5 w.heap.size noP.cells := hA15
 have hRb := hA25
 have hBW := hB5
 have hS0 : At 29 w5.drew w3.heap.size (fa2 er pl) := hA5.drew
 refine wp_region_held_drew (S := fun x => At 29 x w3.heap.size (fa2 er pl)) (by kernel_rfl) hS0 (fun _ => ?_)
 refine tY 0 (.agg noP.cells.toArray) (oi := { dst := some 16, op := .build 26 #[], guard := none, .. }) rfl hS0 ?_ ?_
 ·intro w hSw
  go_simp; rfl
 simp only [Act.put, sA, sB, sC]
 refine tY 1 (.agg #[.int .i64 (er : Int), .int .i64 (pl : Int)]) (oi := { dst := some 17, op := .load 29 (.tmp 5), guard := none, .. }) rfl hS0 ?_ ?_
 ·intro w hSw
  obtain ⟨c0, c1⟩ := y8 hSw; go_simp
 simp only [Act.put, sA, sB, sC]
 refine wpAnyH_ready (rs := [2]) (by kernel_rfl) (by simp) ?_
 refine AllReadyH.cons (o := { dst := none, op := .store 26 (.tmp 2) (.tmp 16), guard := none, .. }) rfl (fun K hK => ?_) AllReadyH.nil
 rw [zi (by rfl)]
 have hD1 : At 26 w5.drew w.heap.size noP.cells := hRa.drew
 have hD2 : At 29 w5.drew w1.heap.size (fa2 0 0) := hRb.drew
 refine wp_store_mid (P := Tryz.prog) 26 (.tmp 2) (.tmp 16) rfl w.heap.size 0 noP.cells.toArray rfl rfl (hD1.there 0 3 (by decide)) (YU noP) (all_oneCell_toArray (PT.one noP)) ?_
 have hbu : But w.heap.size w5.drew (w5.drew.setCells w.heap.size 0 noP.cells) := (((But.refl _ _).setCell 0 _).setCell 1 _).setCell 2 _
 have hS1 := hbu.at hS0 (by omega)
 have hD3 : At 26 (w5.drew.setCells w.heap.size 0 noP.cells) w.heap.size noP.cells := ((hD1.set 0 _).set 1 _).set 2 _
 have hD4 := hbu.at hD2 (by omega)
 refine hK.out _ _ hS1 (fun _ => ?_)
 clear hK K
 generalize w5.drew.setCells w.heap.size 0 noP.cells = wy at *
 refine wpAnyH_ready (rs := [3]) (by kernel_rfl) (by simp) ?_
 refine AllReadyH.cons (o := { dst := none, op := .store 29 (.tmp 3) (.tmp 17), guard := none, .. }) rfl (fun K hK => ?_) AllReadyH.nil
 rw [zi (by rfl)]
 refine wp_store_mid (P := Tryz.prog) 29 (.tmp 3) (.tmp 17) rfl w1.heap.size 0 (fa2 er pl).toArray rfl rfl (hD4.there 0 2 (by decide)) i25 (all_oneCell_toArray (yq _ _)) ?_
 have hbv : But w1.heap.size wy (wy.setCells w1.heap.size 0 (fa2 er pl)) := ((But.refl _ _).setCell 0 _).setCell 1 _
 have hS2 := hbv.at hS1 (by omega)
 have hD5 : At 29 (wy.setCells w1.heap.size 0 (fa2 er pl)) w1.heap.size (fa2 er pl) := (hD4.set 0 _).set 1 _
 have hD6 := hbv.at hD3 (by omega)
 refine hK.out _ _ hS2 (fun _ => ?_)
 clear hK K
 generalize wy.setCells w1.heap.size 0 (fa2 er pl) = wz at *
 refine wpAnyH_done (by kernel_rfl) ?_ _
 go_wp2
 refine zr (yL (P := Tryz.prog) (fn := Tryz.f9) (p := 2) (q := 3) (ty := 26) (tz := 29) rfl _ _ w.heap.size w1.heap.size 26 29 noP.cells (fa2 er pl) _ _ rfl rfl hD6 hD5 Tryz.underlying26 rfl (YU _) Tryz.underlying29 rfl i25) rfl ?_
 have l7 := hbu.size
 have hBd : Below w.heap.size w w5.drew := Below.drew hBW
 have l8 := hBd.size
 exact ⟨noP, rfl, rfl, zea _ _, hbv.below (hbu.below hBd (zj _) (by omega)) (by omega) (by omega)⟩
theorem j8 (s : ByteArray) (hmax : s.size <= 9223372036854775807) (w : World) (ts : List Tk) (hok : ∀ t ∈ ts, Zd t) (hlit : ∀ t ∈ ts, Yk t) (hlen : ts.length <= 16385) (HL : Hid (∀ u, Calls Tryz.prog 28 #[.string s] u fun e w' => Y6 u ⟨ts, 0, 0⟩ e w')) :
  Calls Tryz.prog 9 #[.string s] w fun r w' => KN w (pgR ((yf (za ts 0 s.size)).bind fun p r => (Zc r).bind fun _ r => .ok p r)) r w' := by
 have HK : Hid (∀ (B g : Nat) (a : Option Addr) (c : Nat) (u : World), Qd B u g ts a c 0 s.size 0 0 0 0 -> B <= u.heap.size -> Calls Tryz.prog 29 #[.pointer (some ⟨g, 0, none⟩)] u (zcv B g ts a c s.size u ((yf (za ts 0 s.size)).bind fun p r => (Zc r).bind fun _ r => .ok p r))) := fun B g a c u hu hB => KX g ts a c 0 s.size 0 u hok hlit (by omega) hu hB
 generalize ((yf (za ts 0 s.size)).bind fun p r => (Zc r).bind fun _ r => .ok p r) = D at HK ⊢
 obtain ⟨O, hO⟩ : ∃ O : Pg × Nat × Nat, O = pgR D := ⟨_, rfl⟩
 rw [<- hO]
 have HP : Hid (O = pgR D) := hO
 clear hO
 unfold Y6 at HL
 dsimp only at HL
 go_enter Tryz.func9, Tryz.ntmps9
 go_wp2_with (first
  | (refine aL (o := { dst := some 2, .. }) rfl rfl VB ?_; intro w1 hA1 hb1)
  | (refine aL (o := { dst := some 3, .. }) rfl rfl z25 ?_; intro w2 hA2 hb2)
  | (go_at_call 28; refine (HL.out _).mono ?_; rintro r w3 ⟨v, rfl, hTk, hb3⟩)
  | (refine aL (o := { dst := some 5, .. }) rfl rfl z25 ?_; intro w4 hA4 hb4)
  | (refine sL rfl rfl hA4 (fa2 0 0) rfl rfl i25 rfl (yq _ _) ?_; intro w5 hA5 hb5; refine zb ?_))
 refine zd ?_
 have l1 := hA1.lt
 have l2 := hA2.lt
 have l3 := hb3.size
 have l4 := hA4.lt
 have l5 := hb5.size
 have s1 := hb1.size
 have s2 := hb2.size
 have hB2 : Below w.heap.size w w2 := hb1.trans (hb2.mono s1)
 have hB3 : Below w.heap.size w w3 := hB2.trans (hb3.mono (by omega))
 have hB5 : Below w.heap.size w w5 := hb5.below (hB3.trans (hb4.mono (by omega))) (by omega) (by omega)
 have hA15 := hb5.at (((hA1.below hb2).below hb3).below hb4) (by omega)
 have hA25 := hb5.at ((hA2.below hb3).below hb4) (by omega)
 obtain ⟨c0, c1⟩ := y8 hA5
 have hv : ∃ a c, v = .slice a ts.length c /\ (ts = [] \/ ∃ gt, a = some ⟨gt, 0, none⟩ /\ gt < w3.heap.size /\ w3.rangeAt gt 0 (Yp ts)) := by
  rcases hTk.open with ⟨rfl, rfl⟩ | ⟨gt, cap, rfl, g1, g2, g3, g4, g5, g6⟩
  ·exact ⟨none, 0, rfl, .inl rfl⟩
  ·exact ⟨_, cap, rfl, .inr ⟨gt, rfl, g2, KB g5⟩⟩
 obtain ⟨a, c, rfl, htk⟩ := hv
 have hk5 : ∀ gt, gt < w3.heap.size -> w5.heap[gt]? = w3.heap[gt]? := fun gt h => by rw [hb5.block gt (by omega) (by omega), hb4.block gt h]
 clear hA1 hA2 hA4 hb1 hb2 hb3 hb4 hb5 hTk hB2 hB3 HL
 go_wp2_with (first
  | (refine zg rfl 71 _ rfl (q7 a ts.length c 0 s.size 0 0 0 0) (by kernel_rfl) ?_)
  | (refine yF rfl rfl (q7 a ts.length c 0 s.size 0 0 0 0) rfl ?_; intro w6 hA6 hb6; refine zb ?_))
 refine zd ?_
 have l6 := hA6.lt
 have hB6 : Below w.heap.size w w6 := hB5.trans (hb6.mono (by omega))
 have hA16 := hA15.below hb6
 have hA26 := hA25.below hb6
 have hQ6 : Qd w6.heap.size w6 w5.heap.size ts a c 0 s.size 0 0 0 0 := by
  refine ⟨hA6, ?_, Vm _, by omega, l6⟩
  rcases htk with h | ⟨gt, rfl, hl, hr⟩
  ·exact .inl h
  ·refine .inr ⟨gt, rfl, by omega, by omega, fun j v hj => ?_⟩
   rw [World.cell?_of_block (w := w3) (by rw [hb6.block gt (by omega), hk5 gt hl])]
   exact hr j v hj
 have lg : w1.heap.size < w5.heap.size := by omega
 have lw : w.heap.size < w1.heap.size := by omega
 clear hA6 hb6 hA15 hA25 hA5 c0 c1 htk hk5 hB5 l1 l2 l3 l4 l5 s1 s2
 generalize w5.heap.size = g at *
 go_wp2_with (first
  | (go_at_call 29; refine (HK.out w6.heap.size g a c w6 hQ6 (zj _)).mono ?_; rintro _ w7 ⟨y, k', er', pl', ne', rfl, hTi, hTl, hb7, hQ7, hS7⟩)
  | (refine aL (o := { dst := some 7, .. }) rfl rfl VB ?_; intro w8 hA8 hb8)
  | (refine sL rfl rfl hA8 y.cells rfl rfl (YU _) (Ks _) (PT.one _) ?_; intro w9 hA9 hb9; refine zb ?_))
 refine zd ?_
 have l7 := hb7.size
 have l8 := hb8.size
 have l9 := hb9.size
 have hB7 : Below w.heap.size w w7 := hb7.below hB6 (by omega) (by omega)
 have hB9 : Below w.heap.size w w9 := hb9.below (hB7.trans (hb8.mono hB7.size)) hB7.size (by omega)
 have hA19 : At 26 w9 w.heap.size noP.cells := hb9.at ((hb7.at hA16 (by omega)).below hb8) (by omega)
 have hA29 := hb9.at ((hb7.at hA26 (by omega)).below hb8) (by omega)
 have hQ9 := (hQ7.below hb8).but hb9 l7
 have hT9 : Pw w6.heap.size w9 y := Pw.but (w := w7) ⟨hTi, hTl⟩ ((But.of_below (g := g) hb8).fresh hb9 (zj _)) (.inl (by omega))
 clear hA16 hA26 hA8 hb7 hb8 hb9 hQ6 hQ7 hTi hTl hB6 hB7 HK
 have hQa := hQ9
 rcases hS7 with ⟨rfl, rfl, r0, hS7⟩ | ⟨he, hS7⟩
 ·have hP := HP.out
  rw [hS7] at hP
  have hP : O = (y.pg, 0, 0) := hP
  subst hP
  clear hS7
  have hRa' := hA19
  have hRb' := hA29
  go_wp2_with (first
   | (go_at_call 30; refine (zJ g ts.length a c _ s.size 0 0 ne' 0 w9 hQa.cell).mono ?_; rintro r u ⟨hr, hu⟩; rw [show (decide (0 = 0) && decide (0 = 0)) = true by decide] at hr; subst hr; obtain rfl := hu.symm)
   | (refine lL rfl rfl hA9 rfl Tryz.underlying26 rfl (YU _) ?_)
   | (refine zg rfl 29 _ rfl (fa2 0 0) (by kernel_rfl) ?_)
   | (refine sL rfl rfl hRa' y.cells rfl rfl (YU _) (Ks _) (PT.one _) ?_; intro wd hAd hbd; have hBd2 := hbd.at hRb' (by omega))
   | (refine sL rfl rfl hBd2 (fa2 0 0) rfl rfl i25 rfl (yq _ _) ?_; intro we hAe hbe; refine zb ?_))
  refine zd ?_
  have hD6 := hbe.at hAd (by omega)
  go_wp2
  refine zr (yL (P := Tryz.prog) (fn := Tryz.f9) (p := 2) (q := 3) (ty := 26) (tz := 29) rfl _ _ w.heap.size w1.heap.size 26 29 y.cells (fa2 0 0) _ _ rfl rfl hD6 hAe Tryz.underlying26 rfl (YU _) Tryz.underlying29 rfl i25) rfl ?_
  have ld := hbd.size
  exact ⟨y, rfl, rfl, ((hT9.but hbd (.inl (by omega))).but hbe (.inl (by omega))).low (by omega), hbe.below (hbd.below hB9 (zj _) (by omega)) (by omega) (by omega)⟩
 ·have hP := HP.out
  rw [hS7] at hP
  have hP : O = (noP.pg, er', pl') := hP
  subst hP
  clear hS7
  have hRa' := hA19
  have hRb' := hA29
  have hBa := hB9
  clear hA19 hA29 hB9 hQ9 hT9 hA9
  obtain ⟨wa, hwa⟩ : ∃ x, x = w9 := ⟨_, rfl⟩
  rw [<- hwa] at hQa hRa' hRb' hBa l9 ⊢
  clear hwa
  have H30 : Calls Tryz.prog 30 #[.pointer (some ⟨g, 0, none⟩)] wa fun r w' => r = .returned (.bool false) /\ w' = wa := by
   have := zJ g ts.length a c k' s.size er' pl' ne' 0 wa hQa.cell
   rwa [zN he, Bool.false_and] at this
  go_wp2_with (first
   | (go_at_call 30; refine H30.mono ?_; rintro r u ⟨rfl, hu⟩; obtain rfl := hu.symm; refine zb ?_))
  refine zd ?_
  go_wp2_with fail
  have hRa := hRa'
  have hRb := hRb'
  have hBW := hBa
  have hQn := hQa
  have hS0 : At 71 wa.drew g (q7 a ts.length c k' s.size er' pl' ne' 0) := hQn.cell.drew
  refine wp_region_held_drew (S := fun x => At 71 x g (q7 a ts.length c k' s.size er' pl' ne' 0)) (by kernel_rfl) hS0 (fun _ => ?_)
  refine tY 0 (.agg noP.cells.toArray) (oi := { dst := some 28, op := .build 26 #[], guard := none, .. }) rfl hS0 ?_ ?_
  ·intro w hSw
   go_simp; rfl
  simp only [Act.put, sA, sB, sC]
  refine tY 1 (.pointer (some ⟨g, 0, none⟩)) (oi := { dst := some 29, op := .move (.tmp 6), guard := none, .. }) rfl hS0 ?_ ?_
  ·intro w hSw
   go_simp
  simp only [Act.put, sA, sB, sC]
  refine tY 2 (.pointer (some ⟨g, 0, none⟩)) (oi := { dst := some 30, op := .nilCheck (.tmp 29), guard := none, .. }) rfl hS0 ?_ ?_
  ·intro w hSw
   go_simp
  simp only [Act.put, sA, sB, sC]
  refine tY 3 (.pointer (some ⟨g, 3, none⟩)) (oi := { dst := some 31, op := .fieldAddr 71 (.tmp 30) 3, guard := none, .. }) rfl hS0 ?_ ?_
  ·intro w hSw
   obtain ⟨q0, q1, q2, q3, q4, q5, q6⟩ := zv hSw; go_simp
  simp only [Act.put, sA, sB, sC]
  refine tY 4 (.agg #[.int .i64 (er' : Int), .int .i64 (pl' : Int)]) (oi := { dst := some 32, op := .load 29 (.tmp 31), guard := none, .. }) rfl hS0 ?_ ?_
  ·intro w hSw
   obtain ⟨q0, q1, q2, q3, q4, q5, q6⟩ := zv hSw; go_simp
  simp only [Act.put, sA, sB, sC]
  refine wpAnyH_ready (rs := [5]) (by kernel_rfl) (by simp) ?_
  refine AllReadyH.cons (o := { dst := none, op := .store 26 (.tmp 2) (.tmp 28), guard := none, .. }) rfl (fun K hK => ?_) AllReadyH.nil
  rw [zi (by rfl)]
  have hD1 : At 26 wa.drew w.heap.size noP.cells := hRa.drew
  have hD2 : At 29 wa.drew w1.heap.size (fa2 0 0) := hRb.drew
  refine wp_store_mid (P := Tryz.prog) 26 (.tmp 2) (.tmp 28) rfl w.heap.size 0 noP.cells.toArray rfl rfl (hD1.there 0 3 (by decide)) (YU noP) (all_oneCell_toArray (PT.one noP)) ?_
  have hbu : But w.heap.size wa.drew (wa.drew.setCells w.heap.size 0 noP.cells) := (((But.refl _ _).setCell 0 _).setCell 1 _).setCell 2 _
  have hS1 := hbu.at hS0 (by omega)
  have hD3 : At 26 (wa.drew.setCells w.heap.size 0 noP.cells) w.heap.size noP.cells := ((hD1.set 0 _).set 1 _).set 2 _
  have hD4 := hbu.at hD2 (by omega)
  refine hK.out _ _ hS1 (fun _ => ?_)
  clear hK K
  generalize wa.drew.setCells w.heap.size 0 noP.cells = wy at *
  refine wpAnyH_ready (rs := [6]) (by kernel_rfl) (by simp) ?_
  refine AllReadyH.cons (o := { dst := none, op := .store 29 (.tmp 3) (.tmp 32), guard := none, .. }) rfl (fun K hK => ?_) AllReadyH.nil
  rw [zi (by rfl)]
  refine wp_store_mid (P := Tryz.prog) 29 (.tmp 3) (.tmp 32) rfl w1.heap.size 0 (fa2 er' pl').toArray rfl rfl (hD4.there 0 2 (by decide)) i25 (all_oneCell_toArray (yq _ _)) ?_
  have hbv : But w1.heap.size wy (wy.setCells w1.heap.size 0 (fa2 er' pl')) := ((But.refl _ _).setCell 0 _).setCell 1 _
  have hS2 := hbv.at hS1 (by omega)
  have hD5 : At 29 (wy.setCells w1.heap.size 0 (fa2 er' pl')) w1.heap.size (fa2 er' pl') := (hD4.set 0 _).set 1 _
  have hD6 := hbv.at hD3 (by omega)
  refine hK.out _ _ hS2 (fun _ => ?_)
  clear hK K
  generalize wy.setCells w1.heap.size 0 (fa2 er' pl') = wz at *
  refine wpAnyH_done (by kernel_rfl) ?_ _
  go_wp2
  refine zr (yL (P := Tryz.prog) (fn := Tryz.f9) (p := 2) (q := 3) (ty := 26) (tz := 29) rfl _ _ w.heap.size w1.heap.size 26 29 noP.cells (fa2 er' pl') _ _ rfl rfl hD6 hD5 Tryz.underlying26 rfl (YU _) Tryz.underlying29 rfl i25) rfl ?_
  have l7 := hbu.size
  have hBd : Below w.heap.size w wa.drew := Below.drew hBW
  have l8 := hBd.size
  exact ⟨noP, rfl, rfl, zea _ _, hbv.below (hbu.below hBd (zj _) (by omega)) (by omega) (by omega)⟩
theorem KZ (s : ByteArray) (w : World) (hmax : s.size <= 9223372036854775807) :
  Calls Tryz.prog 9 #[.string s] w fun r w' => KN w (pgO (bytes s) (yf (yK (bytes s)))) r w' := by
 have HL : Hid (∀ u, Calls Tryz.prog 28 #[.string s] u fun e w' => Y6 u (y9 (bytes s)) e w') := fun u => zbl s u hmax
 have hok := qm (bytes s)
 have hlit := zek (bytes s)
 have hpl := zby (bytes s)
 unfold pgO yK
 rw [zc]
 generalize y9 (bytes s) = O at *
 obtain ⟨ts, er, pl⟩ := O
 dsimp only at hok hlit hpl ⊢
 by_cases hc : er = 0
 ·obtain rfl := hpl hc
  subst hc
  rw [zi rfl]
  have h := j8 s hmax w ts hok.1 hlit hok.2 HL
  have e1 : za ts 0 s.size = ts ++ [⟨0, [], s.size, 0⟩] := by unfold za; simp
  rw [e1] at h
  have e2 : pgR ((yf (ts ++ [⟨0, [], s.size, 0⟩])).bind fun p r => (Zc r).bind fun _ r => .ok p r) = (match yf (ts ++ [⟨0, [], s.size, 0⟩]) with
   | .bad e p => (noP.pg, e, p)
   | .ok x r => match Zc r with
    | .bad e p => (noP.pg, e, p)
    | .ok _ _ => (x, 0, 0)) := by
   cases yf (ts ++ [⟨0, [], s.size, 0⟩]) with
   | bad e p => rfl
   | ok x r =>
    show pgR ((Zc r).bind fun _ r => .ok x r) = _
    dsimp only
    cases Zc r <;> rfl
  rw [e2] at h
  exact h
 ·rw [ze hc]
  exact KY s er pl hc w ts HL
