/- The reader: a node, a body, a code. -/
import Derived.Test.YtefklmckkigllaaRdE
namespace Go.Proofs.Ytefklmckkigllaa
open Go.RowKit
set_option linter.unusedVariables false

/-- What a list's reader tells, its row known. -/
theorem ListP.row {α δ : Type} {cl : α → List Value} {dat : α → δ} {El : Nat → World → α → Prop} {n B g most : Nat} {w : World} {D : List δ × St} {e : Ending} {w' : World} (h : ListP cl dat El n B g most w D e w') (P : World → α → Prop) (hP : ∀ y, El w.heap.size w' y → P w' y) (hm : most ≤ 1048576) :
    ∃ (a : Option Addr) (c : Nat) (ys : List α), e = .returned (.slice a ys.length c) ∧ ys.map dat = D.1 ∧ Rr B w' g D.2 ∧ But g w w' ∧ RowG cl n (P w') w'.heap.size w' a c ys ∧ RowU w.heap.size a ys ∧ ∀ y ∈ ys, El w.heap.size w' y := by
  obtain ⟨a, c, ys, he, hd, hR, hb, h1, h2, h3, h4⟩ := h
  have := rowOfRead (P := P w') h1 h2 hm h3 (fun y hy => hP y (h4 y hy))
  exact ⟨a, c, ys, he, hd, hR, hb, this.1, this.2, h4⟩

/-- A node is read. -/
def nodR (st : St) : Nd × St :=
  let L := listR insR 2 8192 st
  let k := numR 1 L.2
  let a := numR 1 k.2
  let n := numR 2 a.2
  let t := numR 2 n.2
  (⟨L.1, (k.1 : Int), (a.1 : Int), (n.1 : Int), (t.1 : Int)⟩, t.2)
theorem numR_i64 (s : Nat) (h : s ≤ 2) (st : St) : I64 ((numR s st).1 : Int) := by
  have := numR_lt s st
  have hp : 256 ^ s ≤ 256 ^ 2 := Nat.pow_le_pow_right (by decide) h
  unfold I64
  omega

set_option maxRecDepth 100000 in
set_option maxHeartbeats 6400000 in
theorem node_any {B : Nat} (g : Nat) (st : St) (w : World) (h : Rr B w g st) (hBw : B ≤ w.heap.size) :
    Calls Try.prog 65 #[.pointer (some ⟨g, 0, none⟩)] w fun e w' => ∃ y : NT, e = .returned (.agg y.cells.toArray) ∧ y.nd = (nodR st).1 ∧ Rr B w' g (nodR st).2 ∧ ElN w.heap.size w' y ∧ But g w w' := by
  have hlow := h.low
  unfold nodR
  dsimp only
  generalize hL : listR insR 2 8192 st = L
  obtain ⟨ks, s1⟩ := L
  have Q1 : Hid (∀ u, Rr B u g st → B ≤ u.heap.size → Calls Try.prog 79 #[.pointer (some ⟨g, 0, none⟩), .int .i64 2, .int .i64 8192, .func (.func 80) #[] #[]] u (ListP Ir.cells id (fun _ _ y => y.Ok) 4 B g 8192 u (ks, s1))) := fun u hu hB => by rw [← hL]; exact instrs_any g st u hu hB
  dsimp only
  have Q2 : Hid (∀ u s, Rr B u g s → Calls Try.prog 40 #[.pointer (some ⟨g, 0, none⟩), .int .i64 1] u fun e w' => e = .returned (.int .i64 ((numR 1 s).1 : Int)) ∧ Rr B w' g (numR 1 s).2 ∧ But g u w') := fun u s hu => takeR_any g s 1 (by omega) (by omega) u hu
  have Q3 : Hid (∀ u s, Rr B u g s → Calls Try.prog 40 #[.pointer (some ⟨g, 0, none⟩), .int .i64 2] u fun e w' => e = .returned (.int .i64 ((numR 2 s).1 : Int)) ∧ Rr B w' g (numR 2 s).2 ∧ But g u w') := fun u s hu => takeR_any g s 2 (by omega) (by omega) u hu
  have z1 := numR_i64 1 (by decide) s1
  have z2 := numR_i64 1 (by decide) (numR 1 s1).2
  have z3 := numR_i64 2 (by decide) (numR 1 (numR 1 s1).2).2
  have z4 := numR_i64 2 (by decide) (numR 2 (numR 1 (numR 1 s1).2).2).2
  have P2 := fun u hu => Q2.out u s1 hu
  have P3 := fun u hu => Q2.out u (numR 1 s1).2 hu
  have P4 := fun u hu => Q3.out u (numR 1 (numR 1 s1).2).2 hu
  have P5 := fun u hu => Q3.out u (numR 2 (numR 1 (numR 1 s1).2).2).2 hu
  generalize numR 2 (numR 2 (numR 1 (numR 1 s1).2).2).2 = N4 at *
  generalize numR 2 (numR 1 (numR 1 s1).2).2 = N3 at *
  generalize numR 1 (numR 1 s1).2 = N2 at *
  generalize numR 1 s1 = N1 at *
  obtain ⟨k1, s2⟩ := N1
  obtain ⟨k2, s3⟩ := N2
  obtain ⟨k3, s4⟩ := N3
  obtain ⟨k4, s5⟩ := N4
  dsimp only at *
  have HZ : Hid (I64 (k1 : Int) ∧ I64 (k2 : Int) ∧ I64 (k3 : Int) ∧ I64 (k4 : Int)) := ⟨z1, z2, z3, z4⟩
  have HR : Hid (Rr B w g st) := h
  have HP2 : Hid (∀ u, Rr B u g s1 → Calls Try.prog 40 #[.pointer (some ⟨g, 0, none⟩), .int .i64 1] u fun e w' => e = .returned (.int .i64 (k1 : Int)) ∧ Rr B w' g s2 ∧ But g u w') := P2
  have HP3 : Hid (∀ u, Rr B u g s2 → Calls Try.prog 40 #[.pointer (some ⟨g, 0, none⟩), .int .i64 1] u fun e w' => e = .returned (.int .i64 (k2 : Int)) ∧ Rr B w' g s3 ∧ But g u w') := P3
  have HP4 : Hid (∀ u, Rr B u g s3 → Calls Try.prog 40 #[.pointer (some ⟨g, 0, none⟩), .int .i64 2] u fun e w' => e = .returned (.int .i64 (k3 : Int)) ∧ Rr B w' g s4 ∧ But g u w') := P4
  have HP5 : Hid (∀ u, Rr B u g s4 → Calls Try.prog 40 #[.pointer (some ⟨g, 0, none⟩), .int .i64 2] u fun e w' => e = .returned (.int .i64 (k4 : Int)) ∧ Rr B w' g s5 ∧ But g u w') := P5
  clear h Q2 Q3 P2 P3 P4 P5 z1 z2 z3 z4 hL
  go_enter Try.func65, Try.ntmps65
  go_wp2_with (first
    | ((with_reducible show wpList _ _ _ _ _ _); refine wpList_alloc_at (o := { dst := some 2, .. }) rfl 49 rfl _ 5 z49 ?_; intro w1 hA1 hb1 hs1; clear hs1; refine Hid.out ?_))
  refine hidU ?_
  have hR1 := HR.out.below hb1
  have l1 := hA1.lt
  clear HR
  go_wp2_with (first
    | (go_at_call 79; refine (Q1.out _ hR1 (by omega)).mono ?_; intro e1 w2 hX; obtain ⟨a, c, ys, rfl, hd, hR2, hb2, hrow, hru, hel⟩ := hX.row (fun _ y => y.Ok) (fun _ h => h) (by decide); refine Hid.out ?_))
  refine hidU ?_
  have HX : Hid (ys.map id = ks ∧ RowG Ir.cells 4 (fun y => y.Ok) w2.heap.size w2 a c ys ∧ RowU w1.heap.size a ys) := ⟨hd, hrow, hru⟩
  have hR2 : Rr B w2 g s1 := hR2
  obtain ⟨n, hn⟩ : ∃ n, Hid (n = ys.length) := ⟨_, (rfl : ys.length = _)⟩
  rw [← hn.out]
  have l2 := hb2.size
  have hA2 := hb2.at hA1 (by omega)
  clear hX hd hrow hru hel hA1 Q1 hR1
  go_wp2_with (first
    | (go_at_call 40; first
        | (refine (HP2.out _ hR2).mono ?_; rintro _ w3 ⟨rfl, hR3, hb3⟩; clear hR2)
        | (refine (HP3.out _ hR3).mono ?_; rintro _ w4 ⟨rfl, hR4, hb4⟩; clear hR3)
        | (refine (HP4.out _ hR4).mono ?_; rintro _ w5 ⟨rfl, hR5, hb5⟩; clear hR4)
        | (refine (HP5.out _ hR5).mono ?_; rintro _ w6 ⟨rfl, hR6, hb6⟩; clear hR5; have hA6 := hb6.at (hb5.at (hb4.at (hb3.at hA2 (by omega)) (by omega)) (by omega)) (by omega)))
    | ((with_reducible show wpList _ _ _ _ _ _); refine wpList_build_at rfl 49 _ rfl [.slice a n c, .int .i64 (k1 : Int), .int .i64 (k2 : Int), .int .i64 (k3 : Int), .int .i64 (k4 : Int)] (by kernel_rfl) ?_)
    | ((with_reducible show wpList _ _ _ _ _ _); refine wpList_store_at (P := Try.prog) rfl 49 (.tmp 2) (.tmp 13) rfl w.heap.size [.slice a n c, .int .i64 (k1 : Int), .int .i64 (k2 : Int), .int .i64 (k3 : Int), .int .i64 (k4 : Int)] rfl rfl 49 _ hA6 i49 rfl (by intro x hx; simp only [List.mem_cons, List.mem_nil_iff, or_false] at hx; rcases hx with rfl | rfl | rfl | rfl | rfl <;> rfl) ?_; intro w9 hA9 hb9 hs9; clear hs9))
  refine bodyPost_ret (results_at rfl _ _ w.heap.size 49 [.slice a n c, .int .i64 (k1 : Int), .int .i64 (k2 : Int), .int .i64 (k3 : Int), .int .i64 (k4 : Int)] _ rfl hA9 Try.underlying49 rfl i49) rfl ?_
  obtain ⟨hd, hrow, hru⟩ := HX.out
  rw [List.map_id] at hd
  have l3 := hb3.size
  have l4 := hb4.size
  have l5 := hb5.size
  have l6 := hb6.size
  have l9 := hb9.size
  refine ⟨⟨a, c, ⟨ys, k1, k2, k3, k4⟩⟩, by rw [NT.cells, ← hn.out], by rw [hd], hR6.but hb9 hBw, ⟨⟨RowG.keepU hrow hru (by omega) (fun k h1 h2 => ?_) (fun _ _ h => h), HZ.out⟩, hru.mono (by omega)⟩, ((((((But.of_below hb1).trans hb2).trans hb3).trans hb4).trans hb5).trans hb6).fresh hb9 (Nat.le_refl _)⟩
  rw [hb9.block k (by omega) (by omega), hb6.block k (by omega) (by omega), hb5.block k (by omega) (by omega), hb4.block k (by omega) (by omega), hb3.block k (by omega) (by omega)]

/-- A body is read, a code is read. -/
def bodR (st : St) : Bd × St :=
  let L := listR valR 1 16 st
  let k := numR 1 L.2
  let M := listR nodR 2 1024 k.2
  (⟨L.1, (k.1 : Int), M.1⟩, M.2)
def codR (st : St) : Cd × St :=
  let L := listR valR 1 32 st
  let k := numR 1 L.2
  let M := listR bodR 1 16 k.2
  (⟨L.1, (k.1 : Int), M.1⟩, M.2)

set_option maxRecDepth 100000 in
set_option maxHeartbeats 6400000 in
theorem bod_any {B : Nat} (g : Nat) (st : St) (w : World) (h : Rr B w g st) (hBw : B ≤ w.heap.size) :
    Calls Try.prog 42 #[.pointer (some ⟨g, 0, none⟩)] w fun e w' => ∃ y : BT, e = .returned (.agg y.cells.toArray) ∧ y.bd = (bodR st).1 ∧ Rr B w' g (bodR st).2 ∧ ElB w.heap.size w' y ∧ But g w w' := by
  have hlow := h.low
  unfold bodR
  dsimp only
  generalize hL : listR valR 1 16 st = L
  obtain ⟨ks, s1⟩ := L
  have Q1 : Hid (∀ u, Rr B u g st → B ≤ u.heap.size → Calls Try.prog 38 #[.pointer (some ⟨g, 0, none⟩), .int .i64 1, .int .i64 16, .func (.func 39) #[] #[]] u (ListP Vl.cells id (fun _ _ y => y.Ok) 2 B g 16 u (ks, s1))) := fun u hu hB => by rw [← hL]; exact vals_any g 16 (by decide) st u hu hB
  dsimp only
  have Q2 : Hid (∀ u s, Rr B u g s → Calls Try.prog 40 #[.pointer (some ⟨g, 0, none⟩), .int .i64 1] u fun e w' => e = .returned (.int .i64 ((numR 1 s).1 : Int)) ∧ Rr B w' g (numR 1 s).2 ∧ But g u w') := fun u s hu => takeR_any g s 1 (by omega) (by omega) u hu
  have z1 := numR_i64 1 (by decide) s1
  have P2 := fun u hu => Q2.out u s1 hu
  generalize numR 1 s1 = N1 at *
  obtain ⟨k1, s2⟩ := N1
  dsimp only at *
  generalize hM : listR nodR 2 1024 s2 = M
  obtain ⟨ns, s3⟩ := M
  have Q3 : Hid (∀ u, Rr B u g s2 → B ≤ u.heap.size → Calls Try.prog 64 #[.pointer (some ⟨g, 0, none⟩), .int .i64 2, .int .i64 1024, .func (.func 65) #[] #[]] u (ListP NT.cells NT.nd ElN 5 B g 1024 u (ns, s3))) := fun u hu hB => by
    rw [← hM]
    exact list64_any NT.cells (fun _ => rfl) NT.one NT.nd nodR ElN ElN.mono ElN.keep g 2 1024 (by decide) (by decide) (by decide) s2 u hu hB fun u s hu hB => node_any g s u hu hB
  have HZ : Hid (I64 (k1 : Int)) := z1
  have HR : Hid (Rr B w g st) := h
  have HP2 : Hid (∀ u, Rr B u g s1 → Calls Try.prog 40 #[.pointer (some ⟨g, 0, none⟩), .int .i64 1] u fun e w' => e = .returned (.int .i64 (k1 : Int)) ∧ Rr B w' g s2 ∧ But g u w') := P2
  clear h Q2 P2 z1 hL hM
  dsimp only
  go_enter Try.func42, Try.ntmps42
  go_wp2_with (first
    | ((with_reducible show wpList _ _ _ _ _ _); refine wpList_alloc_at (o := { dst := some 2, .. }) rfl 45 rfl _ 3 z45 ?_; intro w1 hA1 hb1 hs1; clear hs1; refine Hid.out ?_))
  refine hidU ?_
  have hR1 := HR.out.below hb1
  have l1 := hA1.lt
  clear HR
  go_wp2_with (first
    | (go_at_call 38; refine (Q1.out _ hR1 (by omega)).mono ?_; intro e1 w2 hX; obtain ⟨a, c, ys, rfl, hd, hR2, hb2, hrow, hru, hel⟩ := hX.row (fun _ y => y.Ok) (fun _ h => h) (by decide); refine Hid.out ?_))
  refine hidU ?_
  have HX : Hid (ys.map id = ks ∧ RowG Vl.cells 2 (fun y => y.Ok) w2.heap.size w2 a c ys ∧ RowU w1.heap.size a ys) := ⟨hd, hrow, hru⟩
  have hR2 : Rr B w2 g s1 := hR2
  obtain ⟨n, hn⟩ : ∃ n, Hid (n = ys.length) := ⟨_, (rfl : ys.length = _)⟩
  rw [← hn.out]
  have l2 := hb2.size
  have hA2 := hb2.at hA1 (by omega)
  clear hX hd hrow hru hel hA1 Q1 hR1
  go_wp2_with (first
    | (go_at_call 40; refine (HP2.out _ hR2).mono ?_; rintro _ w3 ⟨rfl, hR3, hb3⟩; clear hR2; refine Hid.out ?_))
  refine hidU ?_
  have l3 := hb3.size
  have hA3 := hb3.at hA2 (by omega)
  clear HP2 hA2
  go_wp2_with (first
    | (go_at_call 64; refine (Q3.out _ hR3 (by omega)).mono ?_; intro e2 w4 hX4; obtain ⟨a', c', zs, rfl, hd4, hR4, hb4, hrow4, hru4, hel4⟩ := hX4.row (fun u y => y.In u.heap.size u) (fun _ h => h.1) (by decide); refine Hid.out ?_))
  refine hidU ?_
  have HX4 : Hid (zs.map NT.nd = ns ∧ RowG NT.cells 5 (fun y => y.In w4.heap.size w4) w4.heap.size w4 a' c' zs ∧ RowU w3.heap.size a' zs ∧ ∀ y ∈ zs, ElN w3.heap.size w4 y) := ⟨hd4, hrow4, hru4, hel4⟩
  have hR4 : Rr B w4 g s3 := hR4
  obtain ⟨m, hm⟩ : ∃ m, Hid (m = zs.length) := ⟨_, (rfl : zs.length = _)⟩
  rw [← hm.out]
  have l4 := hb4.size
  have hA4 := hb4.at hA3 (by omega)
  clear hX4 hd4 hrow4 hru4 hel4 hA3 Q3 hR3
  go_wp2_with (first
    | ((with_reducible show wpList _ _ _ _ _ _); refine wpList_build_at rfl 45 _ rfl [.slice a n c, .int .i64 (k1 : Int), .slice a' m c'] (by kernel_rfl) ?_)
    | ((with_reducible show wpList _ _ _ _ _ _); refine wpList_store_at (P := Try.prog) rfl 45 (.tmp 2) (.tmp 9) rfl w.heap.size [.slice a n c, .int .i64 (k1 : Int), .slice a' m c'] rfl rfl 45 _ hA4 i45 rfl (by intro x hx; simp only [List.mem_cons, List.mem_nil_iff, or_false] at hx; rcases hx with rfl | rfl | rfl <;> rfl) ?_; intro w9 hA9 hb9 hs9; clear hs9))
  refine bodyPost_ret (results_at rfl _ _ w.heap.size 45 [.slice a n c, .int .i64 (k1 : Int), .slice a' m c'] _ rfl hA9 Try.underlying45 rfl i45) rfl ?_
  obtain ⟨hd, hrow, hru⟩ := HX.out
  obtain ⟨hd4, hrow4, hru4, hel4⟩ := HX4.out
  rw [List.map_id] at hd
  have l9 := hb9.size
  refine ⟨⟨a, c, ys, k1, a', c', zs⟩, by rw [BT.cells, ← hn.out, ← hm.out], by rw [BT.bd, hd, hd4], hR4.but hb9 hBw, ⟨⟨RowG.keepU hrow hru (by omega) (fun k h1 h2 => ?_) (fun _ _ h => h), HZ.out, RowG.keepU hrow4 hru4 (by omega) (fun k h1 h2 => hb9.block k h2 (by omega)) (fun y hy h => h.keepU (hel4 y hy).2 (by omega) (fun k h1 h2 => hb9.block k h2 (by omega)))⟩, hru.mono (by omega), hru4.mono (by omega), fun y hy => (hel4 y hy).2.mono (by omega)⟩, ((((But.of_below hb1).trans hb2).trans hb3).trans hb4).fresh hb9 (Nat.le_refl _)⟩
  rw [hb9.block k (by omega) (by omega), hb4.block k (by omega) (by omega), hb3.block k (by omega) (by omega)]

set_option maxRecDepth 100000 in
set_option maxHeartbeats 6400000 in
theorem cod_any {B : Nat} (g : Nat) (st : St) (w : World) (h : Rr B w g st) (hBw : B ≤ w.heap.size) :
    Calls Try.prog 30 #[.pointer (some ⟨g, 0, none⟩)] w fun e w' => ∃ y : CT, e = .returned (.agg y.cells.toArray) ∧ y.cd = (codR st).1 ∧ Rr B w' g (codR st).2 ∧ ElC w.heap.size w' y ∧ But g w w' := by
  have hlow := h.low
  unfold codR
  dsimp only
  generalize hL : listR valR 1 32 st = L
  obtain ⟨ks, s1⟩ := L
  have Q1 : Hid (∀ u, Rr B u g st → B ≤ u.heap.size → Calls Try.prog 38 #[.pointer (some ⟨g, 0, none⟩), .int .i64 1, .int .i64 32, .func (.func 39) #[] #[]] u (ListP Vl.cells id (fun _ _ y => y.Ok) 2 B g 32 u (ks, s1))) := fun u hu hB => by rw [← hL]; exact vals_any g 32 (by decide) st u hu hB
  dsimp only
  have Q2 : Hid (∀ u s, Rr B u g s → Calls Try.prog 40 #[.pointer (some ⟨g, 0, none⟩), .int .i64 1] u fun e w' => e = .returned (.int .i64 ((numR 1 s).1 : Int)) ∧ Rr B w' g (numR 1 s).2 ∧ But g u w') := fun u s hu => takeR_any g s 1 (by omega) (by omega) u hu
  have z1 := numR_i64 1 (by decide) s1
  have P2 := fun u hu => Q2.out u s1 hu
  generalize numR 1 s1 = N1 at *
  obtain ⟨k1, s2⟩ := N1
  dsimp only at *
  generalize hM : listR bodR 1 16 s2 = M
  obtain ⟨ns, s3⟩ := M
  have Q3 : Hid (∀ u, Rr B u g s2 → B ≤ u.heap.size → Calls Try.prog 41 #[.pointer (some ⟨g, 0, none⟩), .int .i64 1, .int .i64 16, .func (.func 42) #[] #[]] u (ListP BT.cells BT.bd ElB 3 B g 16 u (ns, s3))) := fun u hu hB => by
    rw [← hM]
    exact list41_any BT.cells (fun _ => rfl) BT.one BT.bd bodR ElB ElB.mono ElB.keep g 1 16 (by decide) (by decide) (by decide) s2 u hu hB fun u s hu hB => bod_any g s u hu hB
  have HZ : Hid (I64 (k1 : Int)) := z1
  have HR : Hid (Rr B w g st) := h
  have HP2 : Hid (∀ u, Rr B u g s1 → Calls Try.prog 40 #[.pointer (some ⟨g, 0, none⟩), .int .i64 1] u fun e w' => e = .returned (.int .i64 (k1 : Int)) ∧ Rr B w' g s2 ∧ But g u w') := P2
  clear h Q2 P2 z1 hL hM
  dsimp only
  go_enter Try.func30, Try.ntmps30
  go_wp2_with (first
    | ((with_reducible show wpList _ _ _ _ _ _); refine wpList_alloc_at (o := { dst := some 2, .. }) rfl 25 rfl _ 3 z25 ?_; intro w1 hA1 hb1 hs1; clear hs1; refine Hid.out ?_))
  refine hidU ?_
  have hR1 := HR.out.below hb1
  have l1 := hA1.lt
  clear HR
  go_wp2_with (first
    | (go_at_call 38; refine (Q1.out _ hR1 (by omega)).mono ?_; intro e1 w2 hX; obtain ⟨a, c, ys, rfl, hd, hR2, hb2, hrow, hru, hel⟩ := hX.row (fun _ y => y.Ok) (fun _ h => h) (by decide); refine Hid.out ?_))
  refine hidU ?_
  have HX : Hid (ys.map id = ks ∧ RowG Vl.cells 2 (fun y => y.Ok) w2.heap.size w2 a c ys ∧ RowU w1.heap.size a ys) := ⟨hd, hrow, hru⟩
  have hR2 : Rr B w2 g s1 := hR2
  obtain ⟨n, hn⟩ : ∃ n, Hid (n = ys.length) := ⟨_, (rfl : ys.length = _)⟩
  rw [← hn.out]
  have l2 := hb2.size
  have hA2 := hb2.at hA1 (by omega)
  clear hX hd hrow hru hel hA1 Q1 hR1
  go_wp2_with (first
    | (go_at_call 40; refine (HP2.out _ hR2).mono ?_; rintro _ w3 ⟨rfl, hR3, hb3⟩; clear hR2; refine Hid.out ?_))
  refine hidU ?_
  have l3 := hb3.size
  have hA3 := hb3.at hA2 (by omega)
  clear HP2 hA2
  go_wp2_with (first
    | (go_at_call 41; refine (Q3.out _ hR3 (by omega)).mono ?_; intro e2 w4 hX4; obtain ⟨a', c', zs, rfl, hd4, hR4, hb4, hrow4, hru4, hel4⟩ := hX4.row (fun u y => y.In u.heap.size u) (fun _ h => h.1) (by decide); refine Hid.out ?_))
  refine hidU ?_
  have HX4 : Hid (zs.map BT.bd = ns ∧ RowG BT.cells 3 (fun y => y.In w4.heap.size w4) w4.heap.size w4 a' c' zs ∧ RowU w3.heap.size a' zs ∧ ∀ y ∈ zs, ElB w3.heap.size w4 y) := ⟨hd4, hrow4, hru4, hel4⟩
  have hR4 : Rr B w4 g s3 := hR4
  obtain ⟨m, hm⟩ : ∃ m, Hid (m = zs.length) := ⟨_, (rfl : zs.length = _)⟩
  rw [← hm.out]
  have l4 := hb4.size
  have hA4 := hb4.at hA3 (by omega)
  clear hX4 hd4 hrow4 hru4 hel4 hA3 Q3 hR3
  go_wp2_with (first
    | ((with_reducible show wpList _ _ _ _ _ _); refine wpList_build_at rfl 25 _ rfl [.slice a n c, .int .i64 (k1 : Int), .slice a' m c'] (by kernel_rfl) ?_)
    | ((with_reducible show wpList _ _ _ _ _ _); refine wpList_store_at (P := Try.prog) rfl 25 (.tmp 2) (.tmp 9) rfl w.heap.size [.slice a n c, .int .i64 (k1 : Int), .slice a' m c'] rfl rfl 25 _ hA4 i25 rfl (by intro x hx; simp only [List.mem_cons, List.mem_nil_iff, or_false] at hx; rcases hx with rfl | rfl | rfl <;> rfl) ?_; intro w9 hA9 hb9 hs9; clear hs9))
  refine bodyPost_ret (results_at rfl _ _ w.heap.size 25 [.slice a n c, .int .i64 (k1 : Int), .slice a' m c'] _ rfl hA9 Try.underlying25 rfl i25) rfl ?_
  obtain ⟨hd, hrow, hru⟩ := HX.out
  obtain ⟨hd4, hrow4, hru4, hel4⟩ := HX4.out
  rw [List.map_id] at hd
  have l9 := hb9.size
  refine ⟨⟨a, c, ys, k1, a', c', zs⟩, by rw [CT.cells, ← hn.out, ← hm.out], by rw [CT.cd, hd, hd4], hR4.but hb9 hBw, ⟨⟨RowG.keepU hrow hru (by omega) (fun k h1 h2 => ?_) (fun _ _ h => h), HZ.out, RowG.keepU hrow4 hru4 (by omega) (fun k h1 h2 => hb9.block k h2 (by omega)) (fun y hy h => h.keepU (hel4 y hy).2 (by omega) (fun k h1 h2 => hb9.block k h2 (by omega)))⟩, hru.mono (by omega), hru4.mono (by omega), fun y hy => (hel4 y hy).2.mono (by omega)⟩, ((((But.of_below hb1).trans hb2).trans hb3).trans hb4).fresh hb9 (Nat.le_refl _)⟩
  rw [hb9.block k (by omega) (by omega), hb4.block k (by omega) (by omega), hb3.block k (by omega) (by omega)]

end Go.Proofs.Ytefklmckkigllaa
