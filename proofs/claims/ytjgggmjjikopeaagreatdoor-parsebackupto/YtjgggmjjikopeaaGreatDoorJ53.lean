/- Joined texts of the proof. -/
import Derived.Test.YtjgggmjjikopeaaGreatDoorJ52

/- The law of ParseBack. -/
namespace Go.Proofs.YtjgggmjjikopeaaGreatDoor
open Go.RowKit
set_option linter.unusedVariables false

theorem bytes_mk (L : List UInt8) : bytes ⟨L.toArray⟩ = L := by simp [bytes]
theorem thW_mem : ∀ {l : List Th} {t : Th}, t ∈ l → stWs t.body ≤ (l.map thW).sum
  | x :: r, t, h => by
    rw [List.map_cons, List.sum_cons]
    rcases List.mem_cons.1 h with rfl | h
    · unfold thW; omega
    · have := thW_mem h; omega

set_option maxRecDepth 100000 in
set_option maxHeartbeats 6400000 in
theorem law6 (p : PT) (w : World) (h : p.In w.heap.size w) (hk : pgOk p.pg) (hlen : (pgT p.pg).length ≤ 70368744177664) (hW : pgW p.pg ≤ 4611686018427387904) (hE : ErrR w) (hT : Tab w) (h16 : gB ≤ w.heap.size) :
    Calls Tryz.prog 6 #[.agg p.cells.toArray] w fun r w' => r = .returned (.bool true) ∧ Below w.heap.size w w' := by
  have hI : ∀ u, Below w.heap.size w u → p.In w.heap.size u := fun u hu => ⟨h.1.old (Old.of_below hu (Nat.le_refl _)), h.2.1.old (Old.of_below hu (Nat.le_refl _)), h.2.2.old (Old.of_below hu (Nat.le_refl _))⟩
  have HK : Hid (∀ u, Below w.heap.size w u → Calls Tryz.prog 5 #[] u fun r w' => r = .returned (.bool true) ∧ Below u.heap.size u w') := fun u hu => known5 u (hE.below hu) (hT.below hu h16) (Nat.le_trans h16 hu.size)
  have hL := fun u (hu : Below w.heap.size w u) => large_any w.heap.size p u (hI u hu) hu.size
  have hP := fun u (hu : Below w.heap.size w u) => print8_any p w.heap.size u (hI u hu) hu.size (hT.below hu h16) (Nat.le_trans h16 hu.size) hlen
  have hB : mayP p.pg = true → (∀ t ∈ p.threads, wiB 0 (t.body.map ST.st) = true) → (pgT p.pg).length ≤ 16384 → ∀ u, Below w.heap.size w u → Calls Tryz.prog 8 #[.string ⟨(pgT p.pg).toArray⟩] u fun r w' => PostPP u (p.pg, 0, 0) r w' := fun h1 h2 h3 u hu => by
    have := parseP_any ⟨(pgT p.pg).toArray⟩ u (by show (pgT p.pg).length ≤ _; omega) (hE.below hu)
    rw [bytes_mk, back_math h1 (fun t ht => by obtain ⟨v, hv, rfl⟩ := List.mem_map.1 ht; exact h2 v hv) hk h3] at this
    exact this
  have hWi : ∀ t ∈ p.threads, ∀ u, Below w.heap.size w u → Calls Tryz.prog 19 #[.slice t.a2 t.body.length t.c2, .int .i64 0] u fun r w' => r = .returned (.bool (wiB 0 (t.body.map ST.st))) ∧ Below u.heap.size u w' := fun t ht u hu => by
    obtain ⟨i, hi⟩ := List.mem_iff_getElem?.1 ht
    obtain ⟨g, o, -, -, -, hti⟩ := (hI u hu).2.2.at i t hi
    refine within_any w.heap.size _ t.body (Nat.lt_succ_self _) 0 t.a2 t.c2 u ?_ hti.2 hu.size
    have h1 : stWs t.th.body ≤ (p.pg.threads.map thW).sum := thW_mem (List.mem_map_of_mem ht)
    have h2 : (p.pg.threads.map thW).sum ≤ pgW p.pg := by unfold pgW; omega
    show 0 + stWs t.th.body ≤ _
    omega
  obtain ⟨X, hX⟩ : ∃ X, Hid (X = p.pg) := ⟨_, (rfl : p.pg = _)⟩
  rw [← hX.out] at hP hB
  obtain ⟨a1, c1, vs, a2, c2, ms, a3, c3, ts⟩ := p
  have hl3 := h.2.2.1
  have hk3 := h.2.2.2.1
  obtain ⟨n1, hn1⟩ : ∃ n, Hid (n = vs.length) := ⟨_, (rfl : vs.length = _)⟩
  obtain ⟨n2, hn2⟩ : ∃ n, Hid (n = ms.length) := ⟨_, (rfl : ms.length = _)⟩
  obtain ⟨n3, hn3⟩ : ∃ n, Hid (n = ts.length) := ⟨_, (rfl : ts.length = _)⟩
  simp only [PT.cells] at hL hP ⊢
  dsimp only at hl3 hk3 hWi hB
  rw [← hn3.out] at hl3 hk3
  rw [← hn1.out, ← hn2.out, ← hn3.out] at hL hP ⊢
  have HI : Hid (∀ u, Below w.heap.size w u → PT.In w.heap.size u ⟨a1, c1, vs, a2, c2, ms, a3, c3, ts⟩) := hI
  have HL : Hid (∀ u, Below w.heap.size w u → Calls Tryz.prog 18 #[.agg [.slice a1 n1 c1, .slice a2 n2 c2, .slice a3 n3 c3].toArray] u fun r w' => IsB r ∧ Below u.heap.size u w') := hL
  obtain ⟨M, hM⟩ : ∃ M, Hid (M = mayP X) := ⟨_, (rfl : _ = mayP X)⟩
  obtain ⟨L, hL'⟩ : ∃ L, Hid (L = pgT X) := ⟨_, (rfl : _ = pgT X)⟩
  rw [← hM.out, ← hL'.out] at hP hB
  have HP : Hid (∀ u, Below w.heap.size w u → Calls Tryz.prog 20 #[.agg [.slice a1 n1 c1, .slice a2 n2 c2, .slice a3 n3 c3].toArray] u fun r w' => r = .returned (.tuple #[.string ⟨(if M = true ∧ L.length ≤ 16384 then L else []).toArray⟩, .int .i64 (if M = true then (if L.length ≤ 16384 then 0 else 3) else 2)]) ∧ Below u.heap.size u w') := hP
  have HB : Hid (M = true → (∀ t ∈ ts, wiB 0 (t.body.map ST.st) = true) → L.length ≤ 16384 → ∀ u, Below w.heap.size w u → Calls Tryz.prog 8 #[.string ⟨L.toArray⟩] u fun r w' => PostPP u (X, 0, 0) r w') := hB
  have HWi : Hid (∀ t ∈ ts, ∀ u, Below w.heap.size w u → Calls Tryz.prog 19 #[.slice t.a2 t.body.length t.c2, .int .i64 0] u fun r w' => r = .returned (.bool (wiB 0 (t.body.map ST.st))) ∧ Below u.heap.size u w') := hWi
  clear hP hB hWi hL hI hk hlen hW hE hT h
  go_enter Tryz.func6, Tryz.ntmps6
  go_wp2_with (first
    | ((with_reducible show wpList _ _ _ _ _ _); refine wpList_box_at rfl 26 (.tmp 0) rfl [.slice a1 n1 c1, .slice a2 n2 c2, .slice a3 n3 c3] rfl ?_; intro w1 hA1 hb1 hs1; clear hs1)
    | (go_at_call 5; refine (HK.out w1 hb1).mono ?_; rintro _ w2 ⟨rfl, hb2⟩; refine Hid.out ?_))
  refine hidU ?_
  have hA2 := hA1.below hb2
  have hw2 := hb1.trans (hb2.mono hb1.size)
  clear hA1 hb1 hb2 HK
  go_wp2_with (first
    | ((with_reducible show wpList _ _ _ _ _ _); refine wpList_load_at (P := Tryz.prog) rfl 26 (.tmp 1) rfl w.heap.size rfl 26 [.slice a1 n1 c1, .slice a2 n2 c2, .slice a3 n3 c3] hA2 _ Tryz.underlying26 rfl i26 ?_)
    | (go_at_call 18; refine (HL.out w2 hw2).mono ?_; rintro _ w3 ⟨⟨b, rfl⟩, hb3⟩; refine Hid.out ?_))
  refine hidU ?_
  have hA3 := hA2.below hb3
  have hw3 := hw2.trans (hb3.mono hw2.size)
  clear hA2 hw2 hb3 HL
  cases b with
  | true =>
    go_wp2_with fail
    go_ret
    exact ⟨rfl, hw3⟩
  | false =>
    have HA : Hid (At 26 w3 w.heap.size [.slice a1 n1 c1, .slice a2 n2 c2, .slice a3 n3 c3]) := hA3
    clear hA3
    go_wp2_with fail
    go_loopw [4] (fun j wr => ∃ i : Nat, j = .int .i64 (i : Int) ∧ i ≤ n3 ∧ Hid (Below w3.heap.size w3 wr ∧ ∀ t ∈ ts.take i, wiB 0 (t.body.map ST.st) = true)) (fun j _ => n3 - (intOf j).toNat)
    case atStart => exact ⟨0, rfl, by omega, Below.refl _ _, by simp⟩
    case round =>
      obtain ⟨i, rfl, hi, hX2⟩ := hrel
      obtain ⟨hbr, hall⟩ := hX2.out
      have hwr : Below w.heap.size w wr := hw3.trans (hbr.mono hw3.size)
      have hAr := HA.out.below hbr
      obtain ⟨q0, q1, q2⟩ := pg_cells hAr
      have HN : Hid (∀ t ∈ ts.take i, wiB 0 (t.body.map ST.st) = true) := hall
      clear hall hX2
      by_cases hc : i < n3
      · obtain ⟨t, ht⟩ : ∃ k, ts[i]? = some k := ⟨ts[i]'(by rw [← hn3.out]; exact hc), by rw [List.getElem?_eq_getElem]⟩
        obtain ⟨g1, o1, rfl, hg1, hr1, -⟩ := (HI.out wr hwr).2.2.at i t ht
        have hC := HWi.out t (List.mem_of_getElem? ht) wr hwr
        have HT' : Hid (ts[i]? = some t) := ht
        obtain ⟨M2, hM2⟩ : ∃ M2, Hid (M2 = wiB 0 (t.body.map ST.st)) := ⟨_, (rfl : _ = wiB 0 _)⟩
        rw [← hM2.out] at hC
        obtain ⟨tn, t1, d1, tl, t2, d2, tb⟩ := t
        obtain ⟨m, hm⟩ : ∃ m, Hid (m = tb.length) := ⟨_, (rfl : tb.length = _)⟩
        dsimp only at hC
        rw [← hm.out] at hC
        have r2 : wr.cell? ⟨g1, o1 + i * 3 + 2, none⟩ = some (.slice t2 m d2) := by
          rw [hm.out]
          exact hr1 2 _ rfl
        clear ht hr1
        go_wp2_with fail
        refine hC.mono ?_
        rintro _ u ⟨rfl, hu⟩
        clear hC r2 q0 q1 q2 hAr
        cases M2 with
        | false =>
          go_wp2_with fail
          go_ret
          exact ⟨rfl, hwr.trans (hu.mono hwr.size)⟩
        | true =>
          go_wp2_with fail
          go_roundw
          case rel =>
            refine ⟨i + 1, by go_num, by omega, hbr.trans (hu.mono hbr.size), fun x hx => ?_⟩
            rw [List.take_add_one, HT'.out, List.mem_append] at hx
            rcases hx with hx | hx
            · exact HN.out x hx
            · simp at hx; rw [hx]; exact hM2.out.symm
          case measure => simp [intOf]; omega
      · have hall : Hid (∀ t ∈ ts, wiB 0 (t.body.map ST.st) = true) := fun t ht => HN.out t (by rw [show i = n3 by omega, hn3.out, List.take_length]; exact ht)
        clear HN HA HWi
        by_cases h0 : M = true ∧ L.length ≤ 16384
        · have hP := HP.out wr hwr
          rw [if_pos h0, if_pos h0.1, if_pos h0.2] at hP
          have HB' : Hid (∀ u, Below w.heap.size w u → Calls Tryz.prog 8 #[.string ⟨L.toArray⟩] u fun r w' => PostPP u (X, 0, 0) r w') := HB.out h0.1 hall.out h0.2
          clear HP HB h0
          go_wp2_with (first
            | ((with_reducible show wpList _ _ _ _ _ _); refine wpList_load_at (P := Tryz.prog) rfl 26 (.tmp 1) rfl w.heap.size rfl 26 [.slice a1 n1 c1, .slice a2 n2 c2, .slice a3 n3 c3] hAr _ Tryz.underlying26 rfl i26 ?_)
            | (go_at_call 20; refine hP.mono ?_; rintro _ v0 ⟨rfl, hv0⟩; refine Hid.out ?_))
          refine hidU ?_
          have hw0 := hwr.trans (hv0.mono hwr.size)
          have hA0 := hAr.below hv0
          have hP8 := HB'.out v0 hw0
          unfold PostPP at hP8
          dsimp only at hP8
          clear hP hv0 hAr hbr hwr HB' q0 q1 q2
          go_wp2_with (first
            | (go_at_call 8; refine hP8.mono ?_; rintro _ v1 ⟨y, rfl, hy, hTy, vb1⟩)
            | ((with_reducible show wpList _ _ _ _ _ _); refine wpList_alloc_at (o := { dst := some 7, .. }) rfl 26 rfl [.slice none 0 0, .slice none 0 0, .slice none 0 0] 3 zz26 ?_; intro v2 vA2 vb2 hs2; clear hs2)
            | ((with_reducible show wpList _ _ _ _ _ _); refine wpList_alloc_at (o := { dst := some 8, .. }) rfl 29 rfl (fa2 0 0) 2 z25 ?_; intro v3 vA3 vb3 hs3; clear hs3)
            | ((with_reducible show wpList _ _ _ _ _ _); refine wpList_store_at (P := Tryz.prog) rfl 26 (.tmp 7) (.tmp 40) rfl v1.heap.size y.cells rfl rfl 26 _ (vA2.below vb3) (i26p _) (len26 _) (PT.one _) ?_; intro v4 vA4 vb4 hs4; clear hs4; have vA34 := vb4.at vA3 (by have := vA2.lt; omega))
            | ((with_reducible show wpList _ _ _ _ _ _); refine wpList_store_at (P := Tryz.prog) rfl 29 (.tmp 8) (.tmp 41) rfl v2.heap.size (fa2 0 0) rfl rfl 29 _ vA34 i25 rfl (one2f _ _) ?_; intro v5 vA5 vb5 hs; clear hs; refine Hid.out ?_))
          refine hidU ?_
          have vl1 := vb1.size
          have vl2 := vA2.lt
          have vl3 := vA3.lt
          have vl4 := vb4.size
          have vl5 := vb5.size
          have vB3 : Below v1.heap.size v1 v3 := vb2.trans (vb3.mono vb2.size)
          have vB5 : Below v1.heap.size v1 v5 := vb5.below (vb4.below vB3 (Nat.le_refl _) (by omega)) (by omega) (by omega)
          have vBw : Below v0.heap.size v0 v5 := vb1.trans (vB5.mono vl1)
          have vA45 := vb5.at vA4 (by omega)
          have hw5 := hw0.trans (vBw.mono hw0.size)
          have hA5 := hA0.below vBw
          have hl1 : v1.heap.size ≤ v5.heap.size := vB5.size
          have hl0 : w.heap.size ≤ v5.heap.size := hw5.size
          have hk1 : ∀ q, v0.heap.size ≤ q → q < v1.heap.size → v5.heap[q]? = v1.heap[q]? := fun q _ h2 => vB5.block q h2
          have hyI : y.In v5.heap.size v5 := ⟨hTy.1.1.1.stay hTy.2.1 hl1 hk1, hTy.1.1.2.1.stay hTy.2.2.1 hl1 hk1, hTy.1.1.2.2.stay hTy.2.2.2.1 hTy.2.2.2.2 hl1 hk1⟩
          have hS := kitProgram_any v5.heap.size y ⟨a1, c1, vs, a2, c2, ms, a3, c3, ts⟩ v5 hyI (PT.In.up hl0 (HI.out v5 hw5)) (Nat.le_refl _)
          rw [hy, ← hX.out, (samP_eq X X).2 rfl] at hS
          simp only [PT.cells] at hS
          rw [← hn1.out, ← hn2.out, ← hn3.out] at hS
          obtain ⟨b1, k1, e1, b2, k2, e2, b3, k3, e3, hcs⟩ : ∃ b1 k1 e1 b2 k2 e2 b3 k3 e3, Hid (y.cells = [.slice b1 k1 e1, .slice b2 k2 e2, .slice b3 k3 e3]) := ⟨_, _, _, _, _, _, _, _, _, (rfl : y.cells = _)⟩
          have hS' : Calls Tryz.prog 10 #[.agg #[.slice b1 k1 e1, .slice b2 k2 e2, .slice b3 k3 e3], .agg #[.slice a1 n1 c1, .slice a2 n2 c2, .slice a3 n3 c3]] v5 fun r w' => r = .returned (.bool true) ∧ Below v5.heap.size v5 w' := by
            have e : #[.slice b1 k1 e1, .slice b2 k2 e2, .slice b3 k3 e3] = y.cells.toArray := by rw [hcs.out]
            rw [e]
            exact hS
          rw [hcs.out] at vA45
          obtain ⟨y0, y1, y2⟩ := c3_cells vA45
          obtain ⟨x0, x1, x2⟩ := c3_cells hA5
          obtain ⟨f0, f1⟩ := fa_cells vA5
          clear vA2 vA3 vA4 vA34 vA45 vA5 vb1 vb2 vb3 vb4 vb5 vB3 vB5 vBw hS hP8 hA0 hA5 hTy hyI hk1 hcs hall hn1 hn2 hn3 hy hX HI
          go_wp2_with (first
            | ((with_reducible show wpList _ _ _ _ _ _); refine wpList_build_at (P := Tryz.prog) rfl 29 #[] rfl [.int .i64 0, .int .i64 0] (by kernel_rfl) ?_)
            | (go_at_call 10; refine hS'.mono ?_; rintro _ v6 ⟨rfl, hb6⟩))
          go_ret
          exact ⟨rfl, hw5.trans (hb6.mono hw5.size)⟩
        · have hP := HP.out wr hwr
          rw [if_neg h0] at hP
          obtain ⟨e, he, hne⟩ : ∃ e : Int, (if M = true then (if L.length ≤ 16384 then 0 else 3) else 2 : Int) = e ∧ (e == 0) = false := by
            by_cases hM : M = true
            · rw [if_pos hM, if_neg (fun hl => h0 ⟨hM, hl⟩)]
              exact ⟨3, rfl, rfl⟩
            · rw [if_neg hM]
              exact ⟨2, rfl, rfl⟩
          rw [he] at hP
          clear HP HB he h0
          go_wp2_with (first
            | ((with_reducible show wpList _ _ _ _ _ _); refine wpList_load_at (P := Tryz.prog) rfl 26 (.tmp 1) rfl w.heap.size rfl 26 [.slice a1 n1 c1, .slice a2 n2 c2, .slice a3 n3 c3] hAr _ Tryz.underlying26 rfl i26 ?_)
            | (go_at_call 20; refine hP.mono ?_; rintro _ v0 ⟨rfl, hv0⟩; refine Hid.out ?_))
          refine hidU ?_
          have hw0 := hwr.trans (hv0.mono hwr.size)
          clear hP hv0 hAr hbr hwr q0 q1 q2
          go_wp2_with fail
          go_ret
          exact ⟨rfl, hw0⟩

end Go.Proofs.YtjgggmjjikopeaaGreatDoor
