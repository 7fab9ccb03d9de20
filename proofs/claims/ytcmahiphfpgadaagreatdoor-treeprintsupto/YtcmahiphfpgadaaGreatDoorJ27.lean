/- Joined texts of the proof. -/
import Derived.Test.YtcmahiphfpgadaaGreatDoorJ25
import Derived.Test.YtcmahiphfpgadaaGreatDoorJ26
import Derived.Test.YtcmahiphfpgadaaGreatDoorJ13
import Derived.Test.YtcmahiphfpgadaaGreatDoorJ9
import Derived.Test.YtcmahiphfpgadaaGreatDoorJ14
import Derived.Test.YtcmahiphfpgadaaGreatDoorJ6
import Derived.Test.YtcmahiphfpgadaaGreatDoorJ19
import Derived.Test.YtcmahiphfpgadaaGreatDoorJ15
import Derived.Test.YtcmahiphfpgadaaGreatDoorJ10
import Derived.Test.YtcmahiphfpgadaaGreatDoorJ16
import Derived.Test.YtcmahiphfpgadaaGreatDoorJ4
import Derived.Lib.LaidTab
import Derived.Stop.LaidErr
import Derived.LaidMore
import Derived.ProofKit
import Derived.OpenShut

/- The document's own lines of statements: any. -/
namespace Go.Proofs.YtcmahiphfpgadaaGreatDoor
open Go.RowKit
set_option linter.unusedVariables false

theorem stOks_mem : ∀ (l : List St) (s : St), s ∈ l → stOks l → stOk s
 | [], s, h, _ => by cases h
 | e :: r, s, h, hk => by
  rw [stOks] at hk
  rcases List.mem_cons.1 h with rfl | h
  ·exact hk.1
  ·exact stOks_mem r s h hk.2

theorem refStmt_any (B : Nat) (M : Nat) : ∀ x : ST, SizeOf.sizeOf x < M → ∀ d, d ≤ 32 → stOk x.st → stW x.st ≤ 1048576 → RsW B d x := by
 induction M with
 | zero => intro x h; omega
 | succ M ih =>
  rintro ⟨k, nm, ⟨op, t, b, enm, ea, ec, eks⟩, a1, c1, b1, a2, c2, b2⟩ hN d hd hk hW
  have e : (ST.mk k nm (.mk op t b enm ea ec eks) a1 c1 b1 a2 c2 b2).st = .mk k nm.data.toList (ET.mk op t b enm ea ec eks).ex (b1.map ST.st) (b2.map ST.st) := by
   rw [ST.st, ST.sts_eq, ST.sts_eq]
  have hW2 := hW
  rw [e, stW] at hW
  rw [e, stOk] at hk
  have h1 : RbW B (d + 1) b1 := by
   refine refStmts_of B (d + 1) (by omega) b1 (fun hd2 s hs => ih s ?_ (d + 1) hd2 ?_ ?_) (by omega)
   ·have := ST.sz1 (k := k) (nm := nm) (e := .mk op t b enm ea ec eks) (a1 := a1) (a2 := a2) (c1 := c1) (c2 := c2) (els := b2) hs
    omega
   ·exact stOks_mem _ _ (List.mem_map_of_mem hs) hk.2.1
   ·have := stWs_mem (b1.map ST.st) s.st (List.mem_map_of_mem hs)
    omega
  have h2 : RbW B (d + 1) b2 := by
   refine refStmts_of B (d + 1) (by omega) b2 (fun hd2 s hs => ih s ?_ (d + 1) hd2 ?_ ?_) (by omega)
   ·have := ST.sz2 (k := k) (nm := nm) (e := .mk op t b enm ea ec eks) (a1 := a1) (a2 := a2) (c1 := c1) (c2 := c2) (body := b1) hs
    omega
   ·exact stOks_mem _ _ (List.mem_map_of_mem hs) hk.2.2
   ·have := stWs_mem (b2.map ST.st) s.st (List.mem_map_of_mem hs)
    omega
  by_cases hp : 0 < b1.length
  ·exact refStmt_pos B d hd k nm op t b enm ea ec eks a1 c1 b1 a2 c2 b2 h1 h2 hk.1 hp hW2
  ·exact refStmt_zero B d hd k nm op t b enm ea ec eks a1 c1 b1 a2 c2 b2 h1 h2 hk.1 (by show _ = _; omega) hW2

/-- The document's own lines of a block. -/
theorem refStmts_any (B d : Nat) (hd : d ≤ 40) (xs : List ST) (hk : stOks (xs.map ST.st)) (hW : stWs (xs.map ST.st) ≤ 1048576) : RbW B d xs :=
 refStmts_of B d hd xs (fun hd2 s hs => refStmt_any B _ s (Nat.lt_succ_self _) d hd2 (stOks_mem _ _ (List.mem_map_of_mem hs) hk) (Nat.le_trans (stWs_mem (xs.map ST.st) s.st (List.mem_map_of_mem hs)) hW)) hW

end Go.Proofs.YtcmahiphfpgadaaGreatDoor

/- The document's own Print: any program. -/
namespace Go.Proofs.YtcmahiphfpgadaaGreatDoor
open Go.RowKit
set_option linter.unusedVariables false

theorem sum_mem5 {α : Type} (f : α → Nat) : ∀ (l : List α) (x : α), x ∈ l → f x ≤ (l.map f).sum
 | [], x, h => by cases h
 | e :: r, x, h => by
  rw [List.map_cons, List.sum_cons]
  rcases List.mem_cons.1 h with rfl | h
  ·omega
  ·have := sum_mem5 f r x h; omega

/-- The document's own Print. -/
theorem refPrintP_any (B : Nat) (p : PT) (w : World) (hp : p.In B w) (hBw : B ≤ w.heap.size) (hk : pgOk p.pg) (hW : pgW p.pg ≤ 1048576) :
  Calls Tryz.prog 11 #[.agg [.slice p.a1 p.shared.length p.c1, .slice p.a2 p.mutexes.length p.c2, .slice p.a3 p.threads.length p.c3].toArray] w fun r w' => r = .returned (.tuple #[.string ⟨(rpR p.pg).toArray⟩, .int .i64 (rpE p.pg)]) ∧ Below w.heap.size w w' := by
 obtain ⟨i1, i2, i3⟩ := hp
 have e3 : p.pg.threads = p.threads.map TT.th := rfl
 have hW3 : ((p.threads.map TT.th).map thW).sum ≤ 1048576 := by
  rw [pgW, e3] at hW
  omega
 refine refPrintP_at B p.shared p.a1 p.c1 p.mutexes p.a2 p.c2 p.threads p.a3 p.c3 w i1 i2 i3 hBw (fun t ht => ?_) hW3
 have ht2 : t.th ∈ p.threads.map TT.th := List.mem_map_of_mem ht
 refine refStmts_any B 0 (by omega) t.body (hk.2 t.th ht2).2 ?_
 have := sum_mem5 thW _ _ ht2
 have e : thW t.th = t.th.nm.length + 1 + (t.th.locals.map vrW).sum + stWs (t.body.map ST.st) := rfl
 omega

end Go.Proofs.YtcmahiphfpgadaaGreatDoor

/- The statement on printing, walked. -/
namespace Go.Proofs.YtcmahiphfpgadaaGreatDoor
open Go.RowKit
set_option linter.unusedVariables false

set_option maxRecDepth 100000 in
set_option maxHeartbeats 12800000 in
theorem prints_at (p : PT) (ee : ET) (t b : Nat) (p1 p2 p3 e1 e2 e3 e4 e5 v1 v2 : Value) (hp : p.cells = [p1, p2, p3]) (he : ee.cells = [e1, e2, e3, e4, e5]) (hv : [Value.int .u8 (t : Int), .int .u64 (b : Int)] = [v1, v2]) (w : World) (hpi : p.In w.heap.size w) (hei : ee.In w.heap.size w) (ht : t < 256) (hb : b < 18446744073709551616) (hpw : pgW p.pg ≤ 1048576) (hew : exW ee.ex ≤ 1048576) (hpn : p.NilOk) (hok : pgOk p.pg) (hlp : (pgT p.pg).length ≤ 70368744177664) (hle : (exT ee.ex).length ≤ 70368744177664) (hT : Tab w) (h4 : gB ≤ w.heap.size) :
  Calls Tryz.prog 3 #[.agg [p1, p2, p3].toArray, .agg [e1, e2, e3, e4, e5].toArray, .agg [v1, v2].toArray] w fun r w' => r = .returned (.bool true) ∧ Below w.heap.size w w' := by
 have H6 : Hid (∀ x, Below w.heap.size w x → Calls Tryz.prog 6 #[.agg #[p1, p2, p3]] x fun r w' => IsB r ∧ Below x.heap.size x w') := fun x hx => by
  have := large_any w.heap.size p x (hpi.old (Old.of_below hx (Nat.le_refl _))) hx.size
  rw [hp] at this
  exact this
 have H7 : Hid (∀ x, Below w.heap.size w x → Calls Tryz.prog 7 #[.agg #[e1, e2, e3, e4, e5]] x fun r w' => IsI r ∧ Below x.heap.size x w') := fun x hx => by
  have := weight_any w.heap.size _ ee (Nat.lt_succ_self _) x (hei.old (Old.of_below hx (Nat.le_refl _))) hx.size
  rw [he] at this
  exact this
 have H8 : Hid (∀ x, Below w.heap.size w x → Calls Tryz.prog 8 #[.agg #[p1, p2, p3]] x fun r w' => ∃ (y1 y2 y3 : Value) (Y : PT), r = .returned (.agg #[y1, y2, y3]) ∧ Y.cells = [y1, y2, y3] ∧ Y.pg = p.pg ∧ Y.In w'.heap.size w' ∧ Y.Lies (fun k => x.heap.size ≤ k) ∧ Below x.heap.size x w') := fun x hx => by
  have := kcProgram_any w.heap.size p x (hpi.old (Old.of_below hx (Nat.le_refl _))) hx.size hpn
  rw [hp] at this
  refine this.mono ?_
  rintro r w' ⟨y, rfl, h1, h2, h3, h4⟩
  exact ⟨_, _, _, y, rfl, rfl, h1, h2, h3, h4⟩
 have H9 : Hid (∀ x, Below w.heap.size w x → Calls Tryz.prog 9 #[.agg #[e1, e2, e3, e4, e5]] x fun r w' => ∃ (y1 y2 y3 y4 y5 : Value) (Y : ET), r = .returned (.agg #[y1, y2, y3, y4, y5]) ∧ Y.cells = [y1, y2, y3, y4, y5] ∧ Y.ex = ee.ex ∧ Y.In w'.heap.size w' ∧ Y.Lies (fun k => x.heap.size ≤ k) ∧ Below x.heap.size x w') := fun x hx => by
  have := kitCopy_any w.heap.size _ ee (Nat.lt_succ_self _) x (hei.old (Old.of_below hx (Nat.le_refl _))) hx.size
  rw [he] at this
  refine this.mono ?_
  rintro r w' ⟨⟨o, t, b, nm, a, c, ks⟩, rfl, h1, h2, h3, h4⟩
  exact ⟨_, _, _, _, _, .mk o t b nm a c ks, rfl, rfl, h1, h2, ET.Up.lies h3, h4⟩
 have HI : Hid (p.In w.heap.size w ∧ ee.In w.heap.size w ∧ Tab w) := ⟨hpi, hei, hT⟩
 have HW : Hid (pgW p.pg ≤ 1048576 ∧ exW ee.ex ≤ 1048576 ∧ gB ≤ w.heap.size ∧ pgOk p.pg ∧ (pgT p.pg).length ≤ 70368744177664 ∧ (exT ee.ex).length ≤ 70368744177664) := ⟨hpw, hew, h4, hok, hlp, hle⟩
 have HV : Hid (t < 256 ∧ b < 18446744073709551616 ∧ [Value.int .u8 (t : Int), .int .u64 (b : Int)] = [v1, v2]) := ⟨ht, hb, hv⟩
 have HE : Hid (p.cells = [p1, p2, p3] ∧ ee.cells = [e1, e2, e3, e4, e5]) := ⟨hp, he⟩
 obtain ⟨X, hX⟩ : ∃ X, Hid (X = rpR p.pg) := ⟨_, (rfl : rpR p.pg = _)⟩
 obtain ⟨g, hg⟩ : ∃ g, Hid (g = rpE p.pg) := ⟨_, (rfl : rpE p.pg = _)⟩
 obtain ⟨Y, hY⟩ : ∃ X, Hid (X = rxT ee.ex) := ⟨_, (rfl : rxT ee.ex = _)⟩
 obtain ⟨h, hh⟩ : ∃ g, Hid (g = rxE ee.ex) := ⟨_, (rfl : rxE ee.ex = _)⟩
 obtain ⟨Z, hZ⟩ : ∃ X, Hid (X = rvT t b) := ⟨_, (rfl : rvT t b = _)⟩
 obtain ⟨i, hi⟩ : ∃ g, Hid (g = rvE t b) := ⟨_, (rfl : rvE t b = _)⟩
 clear hp he hv hpi hei ht hb hpw hew hpn hok hlp hle hT h4
 go_enter Tryz.func3, Tryz.ntmps3
 go_wp2_with (first
  | ((with_reducible show wpList _ _ _ _ _ _); refine wpList_box_at rfl 26 (.tmp 0) rfl [p1, p2, p3] rfl ?_; intro w1 hA1 hb1 hs1; clear hs1)
  | ((with_reducible show wpList _ _ _ _ _ _); refine wpList_box_at rfl 34 (.tmp 1) rfl [e1, e2, e3, e4, e5] rfl ?_; intro w2 hA2 hb2 hs2; clear hs2)
  | ((with_reducible show wpList _ _ _ _ _ _); refine wpList_box_at rfl 31 (.tmp 2) rfl [v1, v2] rfl ?_; intro w3 hA3 hb3 hs3; clear hs3; refine Hid.out ?_))
 refine hidU ?_
 have l01 : w.heap.size < w1.heap.size := hA1.lt
 have l12 : w1.heap.size < w2.heap.size := hA2.lt
 have l23 : w2.heap.size < w3.heap.size := hA3.lt
 have hb13 := hb2.trans (hb3.mono hb2.size)
 have hw3 : Below w.heap.size w w3 := hb1.trans (hb13.mono hb1.size)
 have HA : Hid (∀ u, Below w3.heap.size w3 u → At 26 u w.heap.size [p1, p2, p3] ∧ At 34 u w1.heap.size [e1, e2, e3, e4, e5] ∧ At 31 u w2.heap.size [v1, v2] ∧ Below w.heap.size w u) := fun u hu => ⟨(hA1.below hb13).below hu, (hA2.below hb3).below hu, hA3.below hu, hw3.trans (hu.mono hw3.size)⟩
 clear hA1 hA2 hA3 hb1 hb2 hb3 hb13 hw3
 have g3 := HA.out w3 (Below.refl _ _)
 obtain ⟨c0, c1, c2⟩ := pg_cells g3.1
 have hC6 := H6.out w3 g3.2.2.2
 clear g3
 go_wp2_with (go_at_call 6; refine hC6.mono ?_; rintro r w4 ⟨⟨b1, rfl⟩, hb4⟩; refine Hid.out ?_)
 refine hidU ?_
 clear hC6 c0 c1 c2
 have g4 := HA.out w4 hb4
 cases b1 with
 | true =>
  have hw4 := g4.2.2.2
  clear g4
  go_wp2_with fail
  go_ret
  exact ⟨rfl, hw4⟩
 | false =>
  obtain ⟨c0, c1, c2, c3, c4⟩ := ex_cells5 g4.2.1
  have hC7 := H7.out w4 g4.2.2.2
  clear g4
  go_wp2_with (go_at_call 7; refine hC7.mono ?_; rintro r W ⟨⟨z, rfl⟩, hb6'⟩; refine Hid.out ?_)
  refine hidU ?_
  have hb6 := hb4.trans (hb6'.mono hb4.size)
  clear hC7 c0 c1 c2 c3 c4 hb6' hb4
  obtain ⟨gp, ge, gv, hwW⟩ := HA.out W hb6
  by_cases hz : 3000 < z
  ·clear gp ge gv
   go_wp2_with fail
   go_ret
   exact ⟨rfl, hwW⟩
  ·have l3W := hb6.size
   go_wp2_with fail
   refine Code.wp_mono ?_ (prints_three p ee p1 p2 p3 e1 e2 e3 e4 e5 v1 v2 w w1 w2 W _ _ _ _ _ _ _ hwW l01 (by omega) ⟨gp, ge⟩ H8 H9 _ rfl)
   rintro e a x ⟨rfl, ga, gb, a1, a2, a3, f1, f2, f3, f4, f5, rfl, A, F, hAc, hFc, hAp, hFp, hAi, hFi, hGa, hGb, hWx, lga, lgb⟩
   have hb6x := hb6.trans (hWx.mono hb6.size)
   obtain ⟨gp, ge, gv, hwx⟩ := HA.out x hb6x
   have HX : Hid (∀ u, Below x.heap.size x u → At 26 u w.heap.size [p1, p2, p3] ∧ At 34 u w1.heap.size [e1, e2, e3, e4, e5] ∧ At 31 u w2.heap.size [v1, v2] ∧ At 26 u ga [a1, a2, a3] ∧ At 34 u gb [f1, f2, f3, f4, f5]) := fun u hu => ⟨gp.below hu, ge.below hu, gv.below hu, hGa.below hu, hGb.below hu⟩
   have HO : Hid (∀ u, Below x.heap.size x u → p.In w.heap.size u ∧ ee.In w.heap.size u ∧ A.In x.heap.size u ∧ F.In x.heap.size u ∧ w.heap.size ≤ u.heap.size ∧ Tab u ∧ gB ≤ u.heap.size) := fun u hu => by
    have hwu := hwx.trans (hu.mono hwx.size)
    have ho := Old.of_below hwu (Nat.le_refl _)
    have ho2 := Old.of_below hu (Nat.le_refl _)
    exact ⟨HI.out.1.old ho, HI.out.2.1.old ho, hAi.old ho2, hFi.old ho2, hwu.size, HI.out.2.2.below hwu HW.out.2.2.1, by have := hwu.size; have := HW.out.2.2.1; omega⟩
   have KP : Hid (∀ u, Below x.heap.size x u → Calls Tryz.prog 10 #[.agg #[a1, a2, a3]] u fun r w' => r = .returned (.tuple #[.string ⟨X.toArray⟩, .int .i64 g]) ∧ Below u.heap.size u w') := fun u hu => by
    have := print8_any A x.heap.size u (HO.out u hu).2.2.1 hu.size (HO.out u hu).2.2.2.2.2.1 (HO.out u hu).2.2.2.2.2.2 (by rw [hAp]; exact HW.out.2.2.2.2.1)
    rw [hAc, hAp] at this
    rw [hX.out, hg.out]
    exact this
   have KQ : Hid (∀ u, Below x.heap.size x u → Calls Tryz.prog 11 #[.agg #[p1, p2, p3]] u fun r w' => r = .returned (.tuple #[.string ⟨X.toArray⟩, .int .i64 g]) ∧ Below u.heap.size u w') := fun u hu => by
    have := refPrintP_any w.heap.size p u (HO.out u hu).1 (HO.out u hu).2.2.2.2.1 HW.out.2.2.2.1 HW.out.1
    have hpc : [.slice p.a1 p.shared.length p.c1, .slice p.a2 p.mutexes.length p.c2, .slice p.a3 p.threads.length p.c3] = [p1, p2, p3] := HE.out.1
    rw [hpc] at this
    rw [hX.out, hg.out]
    exact this
   have KE : Hid (∀ u, Below x.heap.size x u → Calls Tryz.prog 12 #[.agg #[f1, f2, f3, f4, f5]] u fun r w' => r = .returned (.tuple #[.string ⟨Y.toArray⟩, .int .i64 h]) ∧ Below u.heap.size u w') := fun u hu => by
    have := expr4_any F x.heap.size u (HO.out u hu).2.2.2.1 hu.size (HO.out u hu).2.2.2.2.2.1 (HO.out u hu).2.2.2.2.2.2 (by rw [hFp]; exact HW.out.2.2.2.2.2)
    rw [hFc, hFp] at this
    rw [hY.out, hh.out]
    exact this
   have KD : Hid (∀ u, Below x.heap.size x u → Calls Tryz.prog 13 #[.agg #[e1, e2, e3, e4, e5]] u fun r w' => r = .returned (.tuple #[.string ⟨Y.toArray⟩, .int .i64 h]) ∧ Below u.heap.size u w') := fun u hu => by
    have := refExprP_any w.heap.size ee HW.out.2.1 u (HO.out u hu).2.1 (HO.out u hu).2.2.2.2.1
    rw [HE.out.2] at this
    rw [hY.out, hh.out]
    exact this
   have KV : Hid (∀ u, Below x.heap.size x u → Calls Tryz.prog 14 #[.agg #[v1, v2]] u fun r w' => r = .returned (.tuple #[.string ⟨Z.toArray⟩, .int .i64 i]) ∧ Below u.heap.size u w') := fun u hu => by
    have := value_any t b HV.out.1 HV.out.2.1 u (HO.out u hu).2.2.2.2.2.1 (HO.out u hu).2.2.2.2.2.2
    rw [HV.out.2.2] at this
    rw [hZ.out, hi.out]
    exact this
   have KW : Hid (∀ u, Below x.heap.size x u → Calls Tryz.prog 15 #[.agg #[v1, v2]] u fun r w' => r = .returned (.tuple #[.string ⟨Z.toArray⟩, .int .i64 i]) ∧ Below u.heap.size u w') := fun u hu => by
    have := refValue_any t b HV.out.1 HV.out.2.1 u
    have hve := HV.out.2.2
    cases hve
    rw [hZ.out, hi.out]
    exact this
   have KA : Hid (∀ u, Below x.heap.size x u → Calls Tryz.prog 16 #[.agg #[a1, a2, a3], .agg #[p1, p2, p3]] u fun r w' => r = .returned (.bool true) ∧ Below u.heap.size u w') := fun u hu => by
    have := kitProgram_any x.heap.size A p u (HO.out u hu).2.2.1 ((HO.out u hu).1.up hwx.size) hu.size
    rw [hAc, HE.out.1, hAp, (samP_eq _ _).2 rfl] at this
    exact this
   have KF : Hid (∀ u, Below x.heap.size x u → Calls Tryz.prog 17 #[.agg #[f1, f2, f3, f4, f5], .agg #[e1, e2, e3, e4, e5]] u fun r w' => r = .returned (.bool true) ∧ Below u.heap.size u w') := fun u hu => by
    have := kitExpr_any x.heap.size _ F (Nat.lt_succ_self _) ee u (HO.out u hu).2.2.2.1 ((HO.out u hu).2.1.up hwx.size) hu.size
    rw [hFc, HE.out.2, hFp, (samX_eq _ _).2 rfl] at this
    exact this
   clear hAc hFc hAp hFp hAi hFi hGa hGb hWx lga lgb hb6x gp ge gv hb6 hwW H6 H7 H8 H9 HA HI l3W hX hg hY hh hZ hi HV HE
   obtain ⟨c0, c1, c2⟩ := pg_cells (HX.out _ (Below.refl _ _)).2.2.2.1
   have hC := KP.out _ (Below.refl _ _)
   go_wp2_with (go_at_call 10; refine hC.mono ?_; rintro r x1 ⟨rfl, hb⟩; refine Hid.out ?_)
   refine hidU ?_
   have hx1 := (Below.refl _ _).trans (hb.mono (Nat.le_refl _))
   clear hC hb c0 c1 c2
   obtain ⟨c0, c1, c2⟩ := pg_cells (HX.out _ hx1).1
   have hC := KQ.out _ hx1
   go_wp2_with (go_at_call 11; refine hC.mono ?_; rintro r x2 ⟨rfl, hb⟩; refine Hid.out ?_)
   refine hidU ?_
   have hx2 := hx1.trans (hb.mono hx1.size)
   clear hC hb c0 c1 c2
   obtain ⟨c0, c1, c2, c3, c4⟩ := ex_cells5 (HX.out _ hx2).2.2.2.2
   have hC := KE.out _ hx2
   go_wp2_with (go_at_call 12; refine hC.mono ?_; rintro r x3 ⟨rfl, hb⟩; refine Hid.out ?_)
   refine hidU ?_
   have hx3 := hx2.trans (hb.mono hx2.size)
   clear hC hb c0 c1 c2 c3 c4
   obtain ⟨c0, c1, c2, c3, c4⟩ := ex_cells5 (HX.out _ hx3).2.1
   have hC := KD.out _ hx3
   go_wp2_with (go_at_call 13; refine hC.mono ?_; rintro r x4 ⟨rfl, hb⟩; refine Hid.out ?_)
   refine hidU ?_
   have hx4 := hx3.trans (hb.mono hx3.size)
   clear hC hb c0 c1 c2 c3 c4
   obtain ⟨c0, c1⟩ := vl_cells (HX.out _ hx4).2.2.1
   have hC := KV.out _ hx4
   go_wp2_with (go_at_call 14; refine hC.mono ?_; rintro r x5 ⟨rfl, hb⟩; refine Hid.out ?_)
   refine hidU ?_
   have hx5 := hx4.trans (hb.mono hx4.size)
   clear hC hb c0 c1
   obtain ⟨c0, c1⟩ := vl_cells (HX.out _ hx5).2.2.1
   have hC := KW.out _ hx5
   go_wp2_with (go_at_call 15; refine hC.mono ?_; rintro r x6 ⟨rfl, hb⟩; refine Hid.out ?_)
   refine hidU ?_
   have hx6 := hx5.trans (hb.mono hx5.size)
   clear hC hb c0 c1
   have hCa := fun u hu => awake9 u (HO.out u hu).2.2.2.2.2.1 (HO.out u hu).2.2.2.2.2.2
   clear HO KP KQ KE KD KV KW
   have eX : (X == X) = true := by simp
   have eY : (Y == Y) = true := by simp
   have eZ : (Z == Z) = true := by simp
   obtain ⟨c0, c1, c2⟩ := pg_cells (HX.out _ hx6).2.2.2.1
   obtain ⟨d0, d1, d2⟩ := pg_cells (HX.out _ hx6).1
   have hC := KA.out _ hx6
   go_wp2_with (go_at_call 16; refine hC.mono ?_; rintro r x7 ⟨rfl, hb⟩; refine Hid.out ?_)
   refine hidU ?_
   have hx7 := hx6.trans (hb.mono hx6.size)
   clear hC hb c0 c1 c2 d0 d1 d2
   obtain ⟨c0, c1, c2, c3, c4⟩ := ex_cells5 (HX.out _ hx7).2.2.2.2
   obtain ⟨d0, d1, d2, d3, d4⟩ := ex_cells5 (HX.out _ hx7).2.1
   have hC := KF.out _ hx7
   go_wp2_with (go_at_call 17; refine hC.mono ?_; rintro r x8 ⟨rfl, hb⟩; refine Hid.out ?_)
   refine hidU ?_
   have hx8 := hx7.trans (hb.mono hx7.size)
   clear hC hb c0 c1 c2 c3 c4 d0 d1 d2 d3 d4
   have hC := hCa x8 hx8
   go_wp2_with (go_at_call 18; refine hC.mono ?_; rintro r x9 ⟨rfl, hb⟩; refine Hid.out ?_)
   refine hidU ?_
   have hx9 := hx8.trans (hb.mono hx8.size)
   have hwf := hwx.trans (hx9.mono hwx.size)
   clear hC hb HX hCa KA KF
   go_wp2_with fail
   go_ret
   exact ⟨rfl, hwf⟩

end Go.Proofs.YtcmahiphfpgadaaGreatDoor

/- What the card's listed variables give the walks: the table of powers of ten is laid. -/
namespace Go.Proofs.YtcmahiphfpgadaaGreatDoor
open Go.ChangeShapes Go.WideShapes Go.ChangeAt Go.RowKit
set_option linter.unusedVariables false

def laidL : List (String × DataW Unit) := [("math/bits.deBruijn32tab", Rows.laid_math_bits_deBruijn32tab), ("math/bits.deBruijn64tab", Rows.laid_math_bits_deBruijn64tab), ("internal/strconv.uint64pow10", Rows.laid_internal_strconv_uint64pow10)]

theorem gP10 : Tryz.prog.globalNamed "internal/strconv.uint64pow10" = some 1 := by kernel_rfl
theorem gP10Type : (Tryz.prog.globals[1]?).map (·.type) = some 166 := by kernel_rfl
theorem cells29x : Tryz.prog.cellsOf 29 = 1 := by kernel_rfl
theorem cells166 : Tryz.prog.cellsOf 166 = 20 := by kernel_rfl

theorem gDb : Tryz.prog.globalNamed "math/bits.deBruijn64tab" = some 3 := by kernel_rfl

theorem size_of_laid {W : World} (h : laidMetH Tryz.prog laidL W) : gB ≤ W.heap.size := by
 rw [MakeChecks.laidMetH_plain _ _ _ (by kernel_rfl)] at h
 obtain ⟨ps, ⟨g', t', cs, fuel, p, q, hg', ht', hvar, hd, _, _⟩, _⟩ := laidMet.tail h
 obtain rfl := Option.some.inj (gDb.symm.trans hg')
 unfold World.var? at hvar
 obtain ⟨g, hg, hx⟩ := Option.bind_eq_some_iff.1 hvar
 obtain rfl := Option.some.inj (gDb.symm.trans hg)
 show 4 ≤ W.heap.size
 by_cases hs : 3 < W.heap.size
 ·omega
 ·rw [Array.getElem?_eq_none (by omega)] at hx
  simp at hx

theorem tab_of_laid {W : World} (h : laidMetH Tryz.prog laidL W) : Tab W := by
 rw [MakeChecks.laidMetH_plain _ _ _ (by kernel_rfl)] at h
 exact Lib.tabIs_of_head gP10 gP10Type Tryz.underlying166 Tryz.underlying29 cells29x cells166 (laidMet.tail (laidMet.tail h))

/-- The door's own heap meets the condition. -/
theorem door_met (os : Os) (args : Array Value) : laidMetH Tryz.prog laidL ((World.doorLaid Tryz.prog 400 os).forCall (fun _ _ => 0) ⟨#[], args, []⟩).memory :=
 laidMetH_of_parts3 (fuel := 8) (laidMet_of_run' 8 (by kernel_rfl) (by kernel_rfl)) (by kernel_rfl) (by kernel_rfl)
end Go.Proofs.YtcmahiphfpgadaaGreatDoor
