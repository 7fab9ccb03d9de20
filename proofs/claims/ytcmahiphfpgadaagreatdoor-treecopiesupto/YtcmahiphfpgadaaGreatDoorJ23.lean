/- Joined texts of the proof. -/
import Derived.Test.YtcmahiphfpgadaaGreatDoorJ22
import Derived.Test.YtcmahiphfpgadaaGreatDoorJ13
import Derived.Test.YtcmahiphfpgadaaGreatDoorJ12
import Derived.Test.YtcmahiphfpgadaaGreatDoorJ15
import Derived.Test.YtcmahiphfpgadaaGreatDoorJ9
import Derived.Test.YtcmahiphfpgadaaGreatDoorJ14
import Derived.Test.YtcmahiphfpgadaaGreatDoorJ3
import Derived.Lib.LaidTab
import Derived.Stop.LaidErr
import Derived.LaidMore
import Derived.ProofKit
import Derived.OpenShut

/- How many statements a program has: tree.Size and the document's own. -/
namespace Go.Proofs.YtcmahiphfpgadaaGreatDoor
open Go.RowKit
set_option linter.unusedVariables false

def szT (l : List Th) : Nat := (l.map fun t => szL t.body).sum
theorem szT_snoc (l : List Th) (t : Th) : szT (l ++ [t]) = szT l + szL t.body := by simp [szT]
theorem szT_take (l : List Th) (i : Nat) : szT (l.take i) ≤ szT l := by
  conv => rhs; rw [← List.take_append_drop i l]
  unfold szT
  rw [List.map_append, List.sum_append]
  omega
theorem szT_le : ∀ l : List Th, szT l ≤ (l.map thW).sum
  | [] => by simp [szT]
  | t :: r => by
    have := szT_le r
    have h2 := szL_le t.body
    unfold szT at this ⊢
    simp only [List.map_cons, List.sum_cons]
    have : stWs t.body ≤ thW t := by unfold thW; omega
    omega

set_option maxRecDepth 100000 in
set_option maxHeartbeats 3200000 in
theorem size23_at (B : Nat) (s1 s2 : Value) (a3 : Option Addr) (c3 : Nat) (xs : List TT) (hS : ∀ x ∈ xs, SzLW 55 B x.body) (hW : szT (xs.map TT.th) ≤ 1048576) (w : World) (h1 : RowT B w a3 c3 xs) (hBw : B ≤ w.heap.size) :
    Calls Tryz.prog 23 #[.agg [s1, s2, .slice a3 xs.length c3].toArray] w fun r w' => r = .returned (.int .i64 (szT (xs.map TT.th) : Int)) ∧ Below w.heap.size w w' := by
  obtain ⟨n, hn⟩ : ∃ n, Hid (n = xs.length) := ⟨_, (rfl : xs.length = _)⟩
  obtain ⟨T, hT⟩ : ∃ T : Nat, Hid (T = szT (xs.map TT.th) ∧ T ≤ 1048576) := ⟨_, (⟨rfl, hW⟩ : _ = szT (xs.map TT.th) ∧ _)⟩
  rw [← hT.out.1]
  have hl1 := h1.1
  have hk1 := h1.2.1
  rw [← hn.out] at hl1 hk1 ⊢
  have HR : Hid (RowT B w a3 c3 xs) := h1
  have HS : Hid (∀ x ∈ xs, SzLW 55 B x.body) := hS
  clear h1 hS hW
  go_enter Tryz.func23, Tryz.ntmps23
  go_wp2_with (first
    | ((with_reducible show wpList _ _ _ _ _ _); refine wpList_box_at rfl 26 (.tmp 0) rfl [s1, s2, .slice a3 n c3] rfl ?_; intro w1 hA1 hb1 hs1; clear hs1; refine Hid.out ?_))
  refine hidU ?_
  have HA : Hid (At 26 w1 w.heap.size [s1, s2, .slice a3 n c3]) := hA1
  clear hA1
  go_wp2_with fail
  go_loopw [3, 4] (fun u j wr => ∃ i : Nat, j = .int .i64 (i : Int) ∧ i ≤ n ∧ Hid ((∃ z : Nat, u = .int .i64 (z : Int) ∧ z = szT ((xs.map TT.th).take i)) ∧ Below w1.heap.size w1 wr)) (fun u j _ => n - (intOf j).toNat)
  case atStart => exact ⟨0, rfl, by omega, ⟨0, rfl, by simp [szT]⟩, Below.refl _ _⟩
  case round =>
    obtain ⟨i, rfl, hi, hX⟩ := hrel
    obtain ⟨⟨z, rfl, hz_⟩, hbr⟩ := hX.out
    have hz : Hid (z = szT ((xs.map TT.th).take i)) := hz_
    clear hz_
    have hwr : Below w.heap.size w wr := hb1.trans (hbr.mono hb1.size)
    obtain ⟨-, -, q2⟩ := pg_cells (HA.out.below hbr)
    by_cases hc : i < n
    · obtain ⟨x, hx⟩ : ∃ k, xs[i]? = some k := ⟨xs[i]'(by rw [← hn.out]; exact hc), by rw [List.getElem?_eq_getElem]⟩
      have hold : Old B w wr := Old.of_below hwr hBw
      obtain ⟨g1, o1, rfl, hg1, hr1, hx1⟩ := (HR.out.old hold).at i x hx
      have hKS := HS.out x (List.mem_of_getElem? hx)
      have HT1 : Hid (szT ((xs.map TT.th).take (i + 1)) = szT ((xs.map TT.th).take i) + szL (x.body.map ST.st)) := by
        show _ = _
        rw [List.take_add_one, List.getElem?_map, hx]
        exact szT_snoc _ _
      have HLe : Hid (szT ((xs.map TT.th).take (i + 1)) ≤ 1048576) := by
        have := szT_take (xs.map TT.th) (i + 1)
        have h3 := hT.out
        show _ ≤ _
        omega
      obtain ⟨nm, a1, c1, ls, a2, c2, bs⟩ := x
      have hsz : B ≤ wr.heap.size := by have := hwr.size; omega
      obtain ⟨Y, hY⟩ : ∃ Y : Nat, Hid (Y = szL (bs.map ST.st)) := ⟨_, (rfl : _ = szL (bs.map ST.st))⟩
      have k1 : ∀ w', Below wr.heap.size wr w' → Calls Tryz.prog 55 #[.slice a2 bs.length c2] w' fun r w'' => r = .returned (.int .i64 (Y : Int)) ∧ Below w'.heap.size w' w'' := fun w' h => by rw [hY.out]; exact hKS a2 c2 w' (hx1.2.old (Old.of_below h hsz)) (by have := h.size; omega)
      simp only [TT.cells] at hr1
      generalize ls.length = n1 at hr1
      generalize bs.length = n2 at k1 hr1
      have HA' : Hid (IntKind.i64.wrap ((z : Int) + (Y : Int)) = ((szT ((xs.map TT.th).take (i + 1)) : Nat) : Int) ∧ z + Y ≤ 1048576) := by
        have h1 := HT1.out
        have h3 := hz.out
        have h4 := HLe.out
        have h5 := hY.out
        have e1 : szT ((xs.map TT.th).take (i + 1)) = z + Y := by
          rw [h1, h3, h5]
        rw [e1] at h4 ⊢
        exact ⟨wr_add z Y h4, h4⟩
      have hzY : z + Y ≤ 1048576 := HA'.out.2
      have HE1 : Hid (z + Y = szT ((xs.map TT.th).take (i + 1))) := by show _ = _; rw [HT1.out, ← hz.out, hY.out]
      have K1 : Hid _ := k1
      clear hX hx hold hx1 hKS k1 HR HS hY HT1 HLe
      obtain ⟨-, -, r2⟩ := th_mid hr1
      clear hr1
      go_wp2_with fail
      refine (K1.out wr (Below.refl _ _)).mono ?_
      rintro r w3 ⟨rfl, hb3⟩
      have hw3 : Below w1.heap.size w1 w3 := hbr.trans (hb3.mono hbr.size)
      clear q2 r2 K1
      go_wp2
      go_roundw
      case rel => exact ⟨i + 1, by go_num, by omega, ⟨z + Y, by go_num, HE1.out⟩, hw3⟩
      case measure => simp [intOf]; omega
    · have hin : i = n := by omega
      have hzT : z = T := by
        rw [hz.out, hT.out.1, hin, hn.out, List.take_of_length_le (by simp)]
      clear hX hz
      go_wp2
      go_ret
      exact ⟨by rw [hzT]; rfl, hwr⟩

theorem size23_any (B : Nat) (p : PT) (hW : pgW p.pg ≤ 1048576) (w : World) (h : p.In B w) (hBw : B ≤ w.heap.size) : Calls Tryz.prog 23 #[.agg p.cells.toArray] w fun r w' => r = .returned (.int .i64 (szT (p.threads.map TT.th) : Int)) ∧ Below w.heap.size w w' := by
  have hw' : ((p.shared.map VT.vr).map vrW).sum + ((p.mutexes.map fun s : ByteArray => s.data.toList).map fun m => m.length + 1).sum + ((p.threads.map TT.th).map thW).sum ≤ 1048576 := hW
  refine size23_at B (.slice p.a1 p.shared.length p.c1) (.slice p.a2 p.mutexes.length p.c2) p.a3 p.c3 p.threads (fun t ht => sizeB55_any B t.body ?_) ?_ w h.2.2 hBw
  · have h1 := le_sum thW (p.threads.map TT.th) t.th (List.mem_map_of_mem ht)
    have h2 : thW t.th = t.nm.data.toList.length + 1 + ((t.locals.map VT.vr).map vrW).sum + stWs (t.body.map ST.st) := rfl
    omega
  · have := szT_le (p.threads.map TT.th)
    omega

set_option maxRecDepth 100000 in
set_option maxHeartbeats 3200000 in
theorem size22_at (B : Nat) (s1 s2 : Value) (a3 : Option Addr) (c3 : Nat) (xs : List TT) (hS : ∀ x ∈ xs, SzLW 54 B x.body) (hW : szT (xs.map TT.th) ≤ 1048576) (w : World) (h1 : RowT B w a3 c3 xs) (hBw : B ≤ w.heap.size) :
    Calls Tryz.prog 22 #[.agg [s1, s2, .slice a3 xs.length c3].toArray] w fun r w' => r = .returned (.int .i64 (szT (xs.map TT.th) : Int)) ∧ Below w.heap.size w w' := by
  obtain ⟨n, hn⟩ : ∃ n, Hid (n = xs.length) := ⟨_, (rfl : xs.length = _)⟩
  obtain ⟨T, hT⟩ : ∃ T : Nat, Hid (T = szT (xs.map TT.th) ∧ T ≤ 1048576) := ⟨_, (⟨rfl, hW⟩ : _ = szT (xs.map TT.th) ∧ _)⟩
  rw [← hT.out.1]
  have hl1 := h1.1
  have hk1 := h1.2.1
  rw [← hn.out] at hl1 hk1 ⊢
  have HR : Hid (RowT B w a3 c3 xs) := h1
  have HS : Hid (∀ x ∈ xs, SzLW 54 B x.body) := hS
  clear h1 hS hW
  go_enter Tryz.func22, Tryz.ntmps22
  go_wp2_with (first
    | ((with_reducible show wpList _ _ _ _ _ _); refine wpList_box_at rfl 26 (.tmp 0) rfl [s1, s2, .slice a3 n c3] rfl ?_; intro w1 hA1 hb1 hs1; clear hs1; refine Hid.out ?_))
  refine hidU ?_
  obtain ⟨-, -, q2⟩ := pg_cells hA1
  clear hA1
  go_wp2_with fail
  clear q2
  go_loopw [3, 9] (fun u j wr => ∃ i : Nat, j = .int .i64 (i : Int) ∧ i ≤ n ∧ Hid ((∃ z : Nat, u = .int .i64 (z : Int) ∧ z = szT ((xs.map TT.th).take i)) ∧ Below w1.heap.size w1 wr)) (fun u j _ => n - (intOf j).toNat)
  case atStart => exact ⟨0, rfl, by omega, ⟨0, rfl, by simp [szT]⟩, Below.refl _ _⟩
  case round =>
    obtain ⟨i, rfl, hi, hX⟩ := hrel
    obtain ⟨⟨z, rfl, hz_⟩, hbr⟩ := hX.out
    have hz : Hid (z = szT ((xs.map TT.th).take i)) := hz_
    clear hz_
    have hwr : Below w.heap.size w wr := hb1.trans (hbr.mono hb1.size)

    by_cases hc : i < n
    · obtain ⟨x, hx⟩ : ∃ k, xs[i]? = some k := ⟨xs[i]'(by rw [← hn.out]; exact hc), by rw [List.getElem?_eq_getElem]⟩
      have hold : Old B w wr := Old.of_below hwr hBw
      obtain ⟨g1, o1, rfl, hg1, hr1, hx1⟩ := (HR.out.old hold).at i x hx
      have hKS := HS.out x (List.mem_of_getElem? hx)
      have HT1 : Hid (szT ((xs.map TT.th).take (i + 1)) = szT ((xs.map TT.th).take i) + szL (x.body.map ST.st)) := by
        show _ = _
        rw [List.take_add_one, List.getElem?_map, hx]
        exact szT_snoc _ _
      have HLe : Hid (szT ((xs.map TT.th).take (i + 1)) ≤ 1048576) := by
        have := szT_take (xs.map TT.th) (i + 1)
        have h3 := hT.out
        show _ ≤ _
        omega
      obtain ⟨nm, a1, c1, ls, a2, c2, bs⟩ := x
      have hsz : B ≤ wr.heap.size := by have := hwr.size; omega
      obtain ⟨Y, hY⟩ : ∃ Y : Nat, Hid (Y = szL (bs.map ST.st)) := ⟨_, (rfl : _ = szL (bs.map ST.st))⟩
      have k1 : ∀ w', Below wr.heap.size wr w' → Calls Tryz.prog 54 #[.slice a2 bs.length c2] w' fun r w'' => r = .returned (.int .i64 (Y : Int)) ∧ Below w'.heap.size w' w'' := fun w' h => by rw [hY.out]; exact hKS a2 c2 w' (hx1.2.old (Old.of_below h hsz)) (by have := h.size; omega)
      simp only [TT.cells] at hr1
      generalize ls.length = n1 at hr1
      generalize bs.length = n2 at k1 hr1
      have HA' : Hid (IntKind.i64.wrap ((z : Int) + (Y : Int)) = ((szT ((xs.map TT.th).take (i + 1)) : Nat) : Int) ∧ z + Y ≤ 1048576) := by
        have h1 := HT1.out
        have h3 := hz.out
        have h4 := HLe.out
        have h5 := hY.out
        have e1 : szT ((xs.map TT.th).take (i + 1)) = z + Y := by
          rw [h1, h3, h5]
        rw [e1] at h4 ⊢
        exact ⟨wr_add z Y h4, h4⟩
      have hzY : z + Y ≤ 1048576 := HA'.out.2
      have HE1 : Hid (z + Y = szT ((xs.map TT.th).take (i + 1))) := by show _ = _; rw [HT1.out, ← hz.out, hY.out]
      have K1 : Hid _ := k1
      clear hX hx hold hx1 hKS k1 HR HS hY HT1 HLe
      go_wp2_with (first
        | ((with_reducible show wpList _ _ _ _ _ _); refine wpList_load_mid (P := Tryz.prog) rfl 59 (.tmp 11) rfl g1 (o1 + i * 3) (by first | rfl | (simp; done)) [.string nm, .slice a1 n1 c1, .slice a2 n2 c2] _ hr1 Tryz.underlying59 rfl i42 ?_)
        | ((with_reducible show wpList _ _ _ _ _ _); refine wpList_alloc_at rfl 59 rfl _ 3 z42 ?_; intro w2 hA2 hb2 hs2)
        | ((with_reducible show wpList _ _ _ _ _ _); refine wpList_store_at (P := Tryz.prog) rfl 59 (.tmp 5) (.tmp 12) rfl wr.heap.size [.string nm, .slice a1 n1 c1, .slice a2 n2 c2] rfl rfl 59 _ hA2 i42 rfl (one59 _ _ _ _ _ _ _) ?_; intro w4 hA4 hb4 hs4; refine Hid.out ?_))
      refine hidU ?_
      have hB4 : Below wr.heap.size wr w4 := hb4.below hb2 (Nat.le_refl _) (by omega)
      obtain ⟨-, -, r2⟩ := th_cells hA4
      clear hb4 hb2 hA2 hr1 hs2 hs4 hA4
      go_wp2_with fail
      refine (K1.out w4 hB4).mono ?_
      rintro r w3 ⟨rfl, hb3⟩
      have hw3 : Below w1.heap.size w1 w3 := hbr.trans ((hB4.trans (hb3.mono hB4.size)).mono hbr.size)
      clear r2 K1 hB4
      go_wp2
      go_roundw
      case rel => exact ⟨i + 1, by go_num, by omega, ⟨z + Y, by go_num, HE1.out⟩, hw3⟩
      case measure => simp [intOf]; omega
    · have hin : i = n := by omega
      have hzT : z = T := by
        rw [hz.out, hT.out.1, hin, hn.out, List.take_of_length_le (by simp)]
      clear hX hz
      go_wp2
      go_ret
      exact ⟨by rw [hzT]; rfl, hwr⟩

theorem size22_any (B : Nat) (p : PT) (hW : pgW p.pg ≤ 1048576) (w : World) (h : p.In B w) (hBw : B ≤ w.heap.size) : Calls Tryz.prog 22 #[.agg p.cells.toArray] w fun r w' => r = .returned (.int .i64 (szT (p.threads.map TT.th) : Int)) ∧ Below w.heap.size w w' := by
  have hw' : ((p.shared.map VT.vr).map vrW).sum + ((p.mutexes.map fun s : ByteArray => s.data.toList).map fun m => m.length + 1).sum + ((p.threads.map TT.th).map thW).sum ≤ 1048576 := hW
  refine size22_at B (.slice p.a1 p.shared.length p.c1) (.slice p.a2 p.mutexes.length p.c2) p.a3 p.c3 p.threads (fun t ht => sizeB54_any B t.body ?_) ?_ w h.2.2 hBw
  · have h1 := le_sum thW (p.threads.map TT.th) t.th (List.mem_map_of_mem ht)
    have h2 : thW t.th = t.nm.data.toList.length + 1 + ((t.locals.map VT.vr).map vrW).sum + stWs (t.body.map ST.st) := rfl
    omega
  · have := szT_le (p.threads.map TT.th)
    omega

end Go.Proofs.YtcmahiphfpgadaaGreatDoor

/- The chapter's examples: TreeKnown is walked. -/
namespace Go.Proofs.YtcmahiphfpgadaaGreatDoor
open Go.RowKit
set_option linter.unusedVariables false

end Go.Proofs.YtcmahiphfpgadaaGreatDoor

/- Copies: TreeCopies is walked. -/
namespace Go.Proofs.YtcmahiphfpgadaaGreatDoor
open Go.RowKit
set_option linter.unusedVariables false

set_option maxRecDepth 100000 in
set_option maxHeartbeats 12800000 in
theorem copies_at (p q : PT) (ee : ET) (p1 p2 p3 q1 q2 q3 e1 e2 e3 e4 e5 : Value) (hp : p.cells = [p1, p2, p3]) (hq : q.cells = [q1, q2, q3]) (he : ee.cells = [e1, e2, e3, e4, e5]) (w : World) (hpi : p.In w.heap.size w) (hqi : q.In w.heap.size w) (hei : ee.In w.heap.size w) (hpw : pgW p.pg ≤ 1048576) (hqw : pgW q.pg ≤ 1048576) (hew : exW ee.ex ≤ 1048576) (hpn : p.NilOk) (hqn : q.NilOk) (hT : Tab w) (h4 : gB ≤ w.heap.size) :
    Calls Tryz.prog 4 #[.agg [p1, p2, p3].toArray, .agg [q1, q2, q3].toArray, .agg [e1, e2, e3, e4, e5].toArray] w fun r w' => r = .returned (.bool true) ∧ Below w.heap.size w w' := by
  have H6p : Hid (∀ x, Below w.heap.size w x → Calls Tryz.prog 6 #[.agg #[p1, p2, p3]] x fun r w' => IsB r ∧ Below x.heap.size x w') := fun x hx => by
    have := large_any w.heap.size p x (hpi.old (Old.of_below hx (Nat.le_refl _))) hx.size
    rw [hp] at this
    exact this
  have H6q : Hid (∀ x, Below w.heap.size w x → Calls Tryz.prog 6 #[.agg #[q1, q2, q3]] x fun r w' => IsB r ∧ Below x.heap.size x w') := fun x hx => by
    have := large_any w.heap.size q x (hqi.old (Old.of_below hx (Nat.le_refl _))) hx.size
    rw [hq] at this
    exact this
  have H7 : Hid (∀ x, Below w.heap.size w x → Calls Tryz.prog 7 #[.agg #[e1, e2, e3, e4, e5]] x fun r w' => IsI r ∧ Below x.heap.size x w') := fun x hx => by
    have := weight_any w.heap.size _ ee (Nat.lt_succ_self _) x (hei.old (Old.of_below hx (Nat.le_refl _))) hx.size
    rw [he] at this
    exact this
  have H8p : Hid (∀ x, Below w.heap.size w x → Calls Tryz.prog 8 #[.agg #[p1, p2, p3]] x fun r w' => ∃ (y1 y2 y3 : Value) (Y : PT), r = .returned (.agg #[y1, y2, y3]) ∧ Y.cells = [y1, y2, y3] ∧ Y.pg = p.pg ∧ Y.In w'.heap.size w' ∧ Y.Lies (fun k => x.heap.size ≤ k) ∧ Below x.heap.size x w') := fun x hx => by
    have := kcProgram_any w.heap.size p x (hpi.old (Old.of_below hx (Nat.le_refl _))) hx.size hpn
    rw [hp] at this
    refine this.mono ?_
    rintro r w' ⟨y, rfl, h1, h2, h3, h4⟩
    exact ⟨_, _, _, y, rfl, rfl, h1, h2, h3, h4⟩
  have H8q : Hid (∀ x, Below w.heap.size w x → Calls Tryz.prog 8 #[.agg #[q1, q2, q3]] x fun r w' => ∃ (y1 y2 y3 : Value) (Y : PT), r = .returned (.agg #[y1, y2, y3]) ∧ Y.cells = [y1, y2, y3] ∧ Y.pg = q.pg ∧ Y.In w'.heap.size w' ∧ Y.Lies (fun k => x.heap.size ≤ k) ∧ Below x.heap.size x w') := fun x hx => by
    have := kcProgram_any w.heap.size q x (hqi.old (Old.of_below hx (Nat.le_refl _))) hx.size hqn
    rw [hq] at this
    refine this.mono ?_
    rintro r w' ⟨y, rfl, h1, h2, h3, h4⟩
    exact ⟨_, _, _, y, rfl, rfl, h1, h2, h3, h4⟩
  have HI : Hid (p.In w.heap.size w ∧ q.In w.heap.size w ∧ ee.In w.heap.size w ∧ Tab w) := ⟨hpi, hqi, hei, hT⟩
  have HW : Hid (pgW p.pg ≤ 1048576 ∧ exW ee.ex ≤ 1048576 ∧ gB ≤ w.heap.size) := ⟨hpw, hew, h4⟩
  have HE : Hid (p.cells = [p1, p2, p3] ∧ q.cells = [q1, q2, q3] ∧ ee.cells = [e1, e2, e3, e4, e5]) := ⟨hp, hq, he⟩
  clear hp hq he hpi hqi hei hpw hqw hew hpn hqn hT h4
  go_enter Tryz.func4, Tryz.ntmps4
  go_wp2_with (first
    | ((with_reducible show wpList _ _ _ _ _ _); refine wpList_box_at rfl 26 (.tmp 0) rfl [p1, p2, p3] rfl ?_; intro w1 hA1 hb1 hs1; clear hs1)
    | ((with_reducible show wpList _ _ _ _ _ _); refine wpList_box_at rfl 26 (.tmp 1) rfl [q1, q2, q3] rfl ?_; intro w2 hA2 hb2 hs2; clear hs2)
    | ((with_reducible show wpList _ _ _ _ _ _); refine wpList_box_at rfl 34 (.tmp 2) rfl [e1, e2, e3, e4, e5] rfl ?_; intro w3 hA3 hb3 hs3; clear hs3; refine Hid.out ?_))
  refine hidU ?_
  have l01 : w.heap.size < w1.heap.size := hA1.lt
  have l12 : w1.heap.size < w2.heap.size := hA2.lt
  have l23 : w2.heap.size < w3.heap.size := hA3.lt
  have hb13 := hb2.trans (hb3.mono hb2.size)
  have hw3 : Below w.heap.size w w3 := hb1.trans (hb13.mono hb1.size)
  have HA : Hid (∀ u, Below w3.heap.size w3 u → At 26 u w.heap.size [p1, p2, p3] ∧ At 26 u w1.heap.size [q1, q2, q3] ∧ At 34 u w2.heap.size [e1, e2, e3, e4, e5] ∧ Below w.heap.size w u) := fun u hu => ⟨(hA1.below hb13).below hu, (hA2.below hb3).below hu, hA3.below hu, hw3.trans (hu.mono hw3.size)⟩
  clear hA1 hA2 hA3 hb1 hb2 hb3 hb13 hw3
  have g3 := HA.out w3 (Below.refl _ _)
  obtain ⟨c0, c1, c2⟩ := pg_cells g3.1
  have hC6 := H6p.out w3 g3.2.2.2
  clear g3
  go_wp2_with (go_at_call 6; refine hC6.mono ?_; rintro r w4 ⟨⟨b1, rfl⟩, hb4⟩; refine Hid.out ?_)
  refine hidU ?_
  clear hC6 c0 c1 c2
  have g4 := HA.out w4 hb4
  cases b1 with
  | true =>
    have hw4 := g4.2.2.2
    clear g4
    go_wp2_with fail
    go_ret
    exact ⟨rfl, hw4⟩
  | false =>
    obtain ⟨c0, c1, c2⟩ := pg_cells g4.2.1
    have hC6 := H6q.out w4 g4.2.2.2
    clear g4
    go_wp2_with (go_at_call 6; refine hC6.mono ?_; rintro r w5 ⟨⟨b2, rfl⟩, hb5'⟩; refine Hid.out ?_)
    refine hidU ?_
    have hb5 := hb4.trans (hb5'.mono hb4.size)
    clear hC6 c0 c1 c2 hb5'
    have g5 := HA.out w5 hb5
    cases b2 with
    | true =>
      have hw5 := g5.2.2.2
      clear g5
      go_wp2_with fail
      go_ret
      exact ⟨rfl, hw5⟩
    | false =>
      obtain ⟨c0, c1, c2, c3, c4⟩ := ex_cells5 g5.2.2.1
      have hC7 := H7.out w5 g5.2.2.2
      clear g5
      go_wp2_with (go_at_call 7; refine hC7.mono ?_; rintro r W ⟨⟨z, rfl⟩, hb6'⟩; refine Hid.out ?_)
      refine hidU ?_
      have hb6 := hb5.trans (hb6'.mono hb5.size)
      clear hC7 c0 c1 c2 c3 c4 hb6' hb4
      obtain ⟨gp, gq, ge, hwW⟩ := HA.out W hb6
      by_cases hz : 3000 < z
      · clear gp gq ge
        go_wp2_with fail
        go_ret
        exact ⟨rfl, hwW⟩
      have l3W := hb6.size
      go_wp2_with fail
      refine Code.wp_mono ?_ (copies_three p q p1 p2 p3 q1 q2 q3 e1 e2 e3 e4 e5 w w1 w2 W _ _ _ _ _ _ _ _ _ _ _ hwW l01 (by omega) ⟨gp, gq⟩ H8p H8q _ rfl)
      rintro e a x ⟨rfl, ga, gb, a1, a2, a3, b1, b2, b3, rfl, A, B, hAc, hBc, hAp, hBp, hAi, hBi, hGa, hGb, hWx, lga, lgb⟩
      have hb6x := hb6.trans (hWx.mono hb6.size)
      obtain ⟨gp, gq, ge, hwx⟩ := HA.out x hb6x
      have HX : Hid (∀ u, Below x.heap.size x u → At 26 u w.heap.size [p1, p2, p3] ∧ At 26 u w1.heap.size [q1, q2, q3] ∧ At 34 u w2.heap.size [e1, e2, e3, e4, e5] ∧ At 26 u ga [a1, a2, a3] ∧ At 26 u gb [b1, b2, b3]) := fun u hu => ⟨gp.below hu, gq.below hu, ge.below hu, hGa.below hu, hGb.below hu⟩
      have HO : Hid (∀ u, Below x.heap.size x u → p.In w.heap.size u ∧ q.In w.heap.size u ∧ ee.In w.heap.size u ∧ A.In x.heap.size u ∧ B.In x.heap.size u ∧ w.heap.size ≤ u.heap.size ∧ Tab u ∧ gB ≤ u.heap.size) := fun u hu => by
        have hwu := hwx.trans (hu.mono hwx.size)
        have ho := Old.of_below hwu (Nat.le_refl _)
        have ho2 := Old.of_below hu (Nat.le_refl _)
        exact ⟨HI.out.1.old ho, HI.out.2.1.old ho, HI.out.2.2.1.old ho, hAi.old ho2, hBi.old ho2, hwu.size, HI.out.2.2.2.below hwu HW.out.2.2, by have := hwu.size; have := HW.out.2.2; omega⟩
      have K19 : Hid (∀ u, Below x.heap.size x u → Calls Tryz.prog 19 #[.agg #[a1, a2, a3], .agg #[b1, b2, b3]] u fun r w' => r = .returned (.bool (samP p.pg q.pg)) ∧ Below u.heap.size u w') := fun u hu => by
        have := same_any x.heap.size A B u (HO.out u hu).2.2.2.1 (HO.out u hu).2.2.2.2.1 hu.size
        rw [hAc, hBc, hAp, hBp] at this
        exact this
      have K16 : Hid (∀ u, Below x.heap.size x u → Calls Tryz.prog 16 #[.agg #[p1, p2, p3], .agg #[q1, q2, q3]] u fun r w' => r = .returned (.bool (samP p.pg q.pg)) ∧ Below u.heap.size u w') := fun u hu => by
        have := kitProgram_any w.heap.size p q u (HO.out u hu).1 (HO.out u hu).2.1 (HO.out u hu).2.2.2.2.2.1
        rw [HE.out.1, HE.out.2.1] at this
        exact this
      have K20 : Hid (∀ u, Below x.heap.size x u → Calls Tryz.prog 20 #[.agg #[e1, e2, e3, e4, e5]] u fun r w' => r = .returned (.int .i64 (htX ee.ex : Int)) ∧ Below u.heap.size u w') := fun u hu => by
        have := height20_any w.heap.size _ ee (Nat.lt_succ_self _) HW.out.2.1 u (HO.out u hu).2.2.1 (HO.out u hu).2.2.2.2.2.1
        rw [HE.out.2.2] at this
        exact this
      have K21 : Hid (∀ u, Below x.heap.size x u → Calls Tryz.prog 21 #[.agg #[e1, e2, e3, e4, e5]] u fun r w' => r = .returned (.int .i64 (htX ee.ex : Int)) ∧ Below u.heap.size u w') := fun u hu => by
        have := height21_any w.heap.size _ ee (Nat.lt_succ_self _) HW.out.2.1 u (HO.out u hu).2.2.1 (HO.out u hu).2.2.2.2.2.1
        rw [HE.out.2.2] at this
        exact this
      have hth : A.threads.map TT.th = p.threads.map TT.th := congrArg Pg.threads hAp
      have K22 : Hid (∀ u, Below x.heap.size x u → Calls Tryz.prog 22 #[.agg #[a1, a2, a3]] u fun r w' => r = .returned (.int .i64 (szT (p.threads.map TT.th) : Int)) ∧ Below u.heap.size u w') := fun u hu => by
        have := size22_any x.heap.size A (by rw [hAp]; exact HW.out.1) u (HO.out u hu).2.2.2.1 hu.size
        rw [hAc, hth] at this
        exact this
      have K23 : Hid (∀ u, Below x.heap.size x u → Calls Tryz.prog 23 #[.agg #[p1, p2, p3]] u fun r w' => r = .returned (.int .i64 (szT (p.threads.map TT.th) : Int)) ∧ Below u.heap.size u w') := fun u hu => by
        have := size23_any w.heap.size p HW.out.1 u (HO.out u hu).1 (HO.out u hu).2.2.2.2.2.1
        rw [HE.out.1] at this
        exact this
      have K24 : Hid (∀ u, Below x.heap.size x u → Calls Tryz.prog 24 #[.agg #[a1, a2, a3]] u fun r w' => ∃ (c1 c2 c3 : Value) (C : PT), r = .returned (.agg #[c1, c2, c3]) ∧ C.cells = [c1, c2, c3] ∧ C.pg = p.pg ∧ C.In w'.heap.size w' ∧ (C.Lies (Fr u.heap.size w') ∧ C.c2 = C.mutexes.length) ∧ Below u.heap.size u w') := fun u hu => by
        have := so_any A x.heap.size (by rw [hAp]; exact HW.out.1) u (HO.out u hu).2.2.2.1 hu.size
        rw [hAc, hAp] at this
        refine this.mono ?_
        rintro r w' ⟨y, rfl, h1, h2, h3, h4⟩
        exact ⟨_, _, _, y, rfl, rfl, h1, h2, h3, h4⟩
      have KAp : Hid (∀ u, Below x.heap.size x u → Calls Tryz.prog 16 #[.agg #[a1, a2, a3], .agg #[p1, p2, p3]] u fun r w' => r = .returned (.bool true) ∧ Below u.heap.size u w') := fun u hu => by
        have := kitProgram_any x.heap.size A p u (HO.out u hu).2.2.2.1 ((HO.out u hu).1.up hwx.size) hu.size
        rw [hAc, HE.out.1, hAp, (samP_eq _ _).2 rfl] at this
        exact this
      have KBq : Hid (∀ u, Below x.heap.size x u → Calls Tryz.prog 16 #[.agg #[b1, b2, b3], .agg #[q1, q2, q3]] u fun r w' => r = .returned (.bool true) ∧ Below u.heap.size u w') := fun u hu => by
        have := kitProgram_any x.heap.size B q u (HO.out u hu).2.2.2.2.1 ((HO.out u hu).2.1.up hwx.size) hu.size
        rw [hBc, HE.out.2.1, hBp, (samP_eq _ _).2 rfl] at this
        exact this
      have KCp : Hid (∀ (C : PT) (c1 c2 c3 : Value) (x3 u : World), C.cells = [c1, c2, c3] → C.pg = p.pg → C.In x3.heap.size x3 → Below x.heap.size x x3 → Below x3.heap.size x3 u → Calls Tryz.prog 16 #[.agg #[c1, c2, c3], .agg #[p1, p2, p3]] u fun r w' => r = .returned (.bool true) ∧ Below u.heap.size u w') := fun C c1 c2 c3 x3 u hc hcp hci h1 h2 => by
        have hu := h1.trans (h2.mono h1.size)
        have := kitProgram_any x3.heap.size C p u (hci.old (Old.of_below h2 (Nat.le_refl _))) ((HO.out u hu).1.up (by have := hwx.size; have := h1.size; omega)) h2.size
        rw [hc, HE.out.1, hcp, (samP_eq _ _).2 rfl] at this
        exact this
      have KCA : Hid (∀ (C : PT) (c1 c2 c3 : Value) (x3 u : World), C.cells = [c1, c2, c3] → C.pg = p.pg → C.In x3.heap.size x3 → Below x.heap.size x x3 → Below x3.heap.size x3 u → Calls Tryz.prog 19 #[.agg #[c1, c2, c3], .agg #[a1, a2, a3]] u fun r w' => r = .returned (.bool true) ∧ Below u.heap.size u w') := fun C c1 c2 c3 x3 u hc hcp hci h1 h2 => by
        have hu := h1.trans (h2.mono h1.size)
        have := same_any x3.heap.size C A u (hci.old (Old.of_below h2 (Nat.le_refl _))) ((HO.out u hu).2.2.2.1.up h1.size) h2.size
        rw [hc, hAc, hcp, hAp, (samP_eq _ _).2 rfl] at this
        exact this
      clear hAc hBc hAp hBp hAi hBi hGa hGb hWx lga lgb hb6x gp gq ge hth hb6 hwW H6p H6q H7 H8p H8q HA HI l3W
      go_wp2_with fail
      refine Code.wp_mono ?_ (copies_four p1 p2 p3 q1 q2 q3 e1 e2 e3 e4 e5 a1 a2 a3 b1 b2 b3 w w1 w2 x ga gb _ _ _ _ _ _ _ _ _ _ _ _ _ _ HX K19 K16 K20 K21 K22 K23 _ rfl)
      rintro e a x2 ⟨rfl, rfl, hx2⟩
      clear K19 K16 K20 K21 K22 K23
      obtain ⟨c0, c1, c2⟩ := pg_cells (HX.out x2 hx2).2.2.2.1
      have hC := K24.out x2 hx2
      go_wp2_with (go_at_call 24; refine hC.mono ?_; rintro r x3 ⟨y1, y2, y3, C, rfl, hCc, hCp, hCi, ⟨hCl, hCn⟩, hb3⟩; refine Hid.out ?_)
      refine hidU ?_
      have hone := PT.one C
      rw [hCc] at hone
      clear hC c0 c1 c2 K24
      go_wp2_with (first
        | ((with_reducible show wpList _ _ _ _ _ _); refine wpList_alloc_at rfl 26 rfl _ 3 z46' ?_; intro x4 hA4 hb4 hs4)
        | ((with_reducible show wpList _ _ _ _ _ _); refine wpList_store_at (P := Tryz.prog) rfl 26 (.tmp 9) (.tmp 47) rfl x3.heap.size [y1, y2, y3] rfl rfl 26 _ hA4 i46 rfl hone ?_; intro x5 hGc hb5 hs5; refine Hid.out ?_))
      refine hidU ?_
      have hB5 : Below x3.heap.size x3 x5 := hb5.below hb4 (Nat.le_refl _) (by omega)
      have hx3 := hx2.trans (hb3.mono hx2.size)
      clear hb5 hb4 hA4 hs4 hs5 hone
      have hx5 := hx3.trans (hB5.mono hx3.size)
      obtain ⟨c0, c1, c2⟩ := pg_cells hGc
      obtain ⟨d0, d1, d2⟩ := pg_cells (HX.out x5 hx5).1
      have hC := KCp.out C y1 y2 y3 x3 x5 hCc hCp hCi hx3 hB5
      go_wp2_with (go_at_call 16; refine hC.mono ?_; rintro r x6 ⟨rfl, hb6⟩; refine Hid.out ?_)
      refine hidU ?_
      have hB6 := hB5.trans (hb6.mono hB5.size)
      have hx6 := hx3.trans (hB6.mono hx3.size)
      have hGc6 := hGc.below hb6
      clear hC c0 c1 c2 d0 d1 d2 hGc hb6 hB5 hx5
      obtain ⟨c0, c1, c2⟩ := pg_cells hGc6
      obtain ⟨d0, d1, d2⟩ := pg_cells (HX.out x6 hx6).2.2.2.1
      have hC := KCA.out C y1 y2 y3 x3 x6 hCc hCp hCi hx3 hB6
      go_wp2_with (go_at_call 19; refine hC.mono ?_; rintro r x7 ⟨rfl, hb7⟩; refine Hid.out ?_)
      refine hidU ?_
      have hB7 := hB6.trans (hb7.mono hB6.size)
      have hx7 := hx3.trans (hB7.mono hx3.size)
      have hGc7 := hGc6.below hb7
      clear hC c0 c1 c2 d0 d1 d2 hGc6 hb7 hB6 hx6
      obtain ⟨c0, c1, c2⟩ := pg_cells hGc7
      have hkf := PT.keepF (A := x2.heap.size) (B := x3.heap.size) (w := x3) (w' := x7) (fun k _ h2 => hB7.block k h2) hCi hCl
      have hC := overProgram_any x2.heap.size x3.heap.size C x7 hkf.1 hkf.2 hB7.size (by have := hb3.size; have := hB7.size; omega) (by rw [hCp]; exact HW.out.1) hCn
      rw [hCc] at hC
      clear hkf
      go_wp2_with (go_at_call 25; refine hC.mono ?_; rintro r x8 ⟨rfl, hb8⟩; refine Hid.out ?_)
      refine hidU ?_
      have hx8 := hx7.trans (hb8.mono hx2.size)
      clear hC c0 c1 c2 hb8 hx7 hB7 hx3 hGc7 hCi hCl hCn hCc hCp KCp KCA hb3
      obtain ⟨c0, c1, c2⟩ := pg_cells (HX.out x8 hx8).2.2.2.1
      obtain ⟨d0, d1, d2⟩ := pg_cells (HX.out x8 hx8).1
      have hC := KAp.out x8 hx8
      go_wp2_with (go_at_call 16; refine hC.mono ?_; rintro r x9 ⟨rfl, hb9⟩; refine Hid.out ?_)
      refine hidU ?_
      have hx9 := hx8.trans (hb9.mono hx8.size)
      clear hC c0 c1 c2 d0 d1 d2 hb9 hx8
      obtain ⟨c0, c1, c2⟩ := pg_cells (HX.out x9 hx9).2.2.2.2
      obtain ⟨d0, d1, d2⟩ := pg_cells (HX.out x9 hx9).2.1
      have hC := KBq.out x9 hx9
      go_wp2_with (go_at_call 16; refine hC.mono ?_; rintro r x10 ⟨rfl, hb10⟩; refine Hid.out ?_)
      refine hidU ?_
      have hx10 := hx9.trans (hb10.mono hx9.size)
      clear hC c0 c1 c2 d0 d1 d2 hb10 hx9
      have hC := awake9 x10 (HO.out x10 hx10).2.2.2.2.2.2.1 (HO.out x10 hx10).2.2.2.2.2.2.2
      go_wp2_with (go_at_call 18; refine hC.mono ?_; rintro r x11 ⟨rfl, hb11⟩; refine Hid.out ?_)
      refine hidU ?_
      have hx11 := hx10.trans (hb11.mono hx10.size)
      have hwf := hwx.trans (hx11.mono hwx.size)
      clear hC hb11 hx10 HX HO KAp KBq
      go_wp2_with fail
      go_ret
      exact ⟨rfl, hwf⟩

end Go.Proofs.YtcmahiphfpgadaaGreatDoor

/- What the card's listed variables give the walks: the table of powers of ten is laid. -/
namespace Go.Proofs.YtcmahiphfpgadaaGreatDoor
open Go.ChangeShapes Go.WideShapes Go.ChangeAt Go.RowKit
set_option linter.unusedVariables false

def laidL : List (String × DataW Unit) := [("math/bits.deBruijn32tab", Rows.laid_math_bits_deBruijn32tab), ("math/bits.deBruijn64tab", Rows.laid_math_bits_deBruijn64tab), ("internal/strconv.uint64pow10", Rows.laid_internal_strconv_uint64pow10)]

theorem gP10 : Tryz.prog.globalNamed "internal/strconv.uint64pow10" = some 1 := by kernel_rfl
theorem gP10Type : (Tryz.prog.globals[1]?).map (·.type) = some 166 := by kernel_rfl
theorem cells29x : Tryz.prog.cellsOf 29 = 1 := by kernel_rfl
theorem cells166 : Tryz.prog.cellsOf 166 = 20 := by kernel_rfl

theorem gDb : Tryz.prog.globalNamed "math/bits.deBruijn64tab" = some 3 := by kernel_rfl

theorem size_of_laid {W : World} (h : laidMetH Tryz.prog laidL W) : gB ≤ W.heap.size := by
  rw [MakeChecks.laidMetH_plain _ _ _ (by kernel_rfl)] at h
  obtain ⟨ps, ⟨g', t', cs, fuel, p, q, hg', ht', hvar, hd, _, _⟩, _⟩ := laidMet.tail h
  obtain rfl := Option.some.inj (gDb.symm.trans hg')
  unfold World.var? at hvar
  obtain ⟨g, hg, hx⟩ := Option.bind_eq_some_iff.1 hvar
  obtain rfl := Option.some.inj (gDb.symm.trans hg)
  show 4 ≤ W.heap.size
  by_cases hs : 3 < W.heap.size
  · omega
  · rw [Array.getElem?_eq_none (by omega)] at hx
    simp at hx

theorem tab_of_laid {W : World} (h : laidMetH Tryz.prog laidL W) : Tab W := by
  rw [MakeChecks.laidMetH_plain _ _ _ (by kernel_rfl)] at h
  exact Lib.tabIs_of_head gP10 gP10Type Tryz.underlying166 Tryz.underlying29 cells29x cells166 (laidMet.tail (laidMet.tail h))

/-- The door's own heap meets the condition. -/
theorem door_met (os : Os) (args : Array Value) : laidMetH Tryz.prog laidL ((World.doorLaid Tryz.prog 400 os).forCall (fun _ _ => 0) ⟨#[], args, []⟩).memory :=
  laidMetH_of_parts3 (fuel := 8) (laidMet_of_run' 8 (by kernel_rfl) (by kernel_rfl)) (by kernel_rfl) (by kernel_rfl)
end Go.Proofs.YtcmahiphfpgadaaGreatDoor
