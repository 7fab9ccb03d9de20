/- Joined texts of the proof. -/
import Derived.Test.YtjgggmjjikopeaaGreatDoorJ52

/- The law of ParseAgain. -/
namespace Go.Proofs.YtjgggmjjikopeaaGreatDoor
open Go.RowKit
set_option linter.unusedVariables false

theorem bytes_of (L : List UInt8) : bytes ⟨L.toArray⟩ = L := by simp [bytes]
/-- A row of tokens, as the walk meets it. -/
theorem toks_row {base : Nat} {w : World} {v : Value} {ts : List Tk} (h : Toks base w v ts) : ∃ a c, v = .slice a ts.length c ∧ ts.length ≤ c ∧ ∀ i t, ts[i]? = some t → ∃ g o, a = some ⟨g, o, none⟩ ∧ w.cell? ⟨g, o + i * 5 + 1, none⟩ = some (.string ⟨t.text.toArray⟩) := by
  rcases h.open with ⟨rfl, rfl⟩ | ⟨g, cap, rfl, h1, h2, h3, h4, h5, h6⟩
  · exact ⟨none, 0, rfl, Nat.le_refl _, fun i t ht => by simp at ht⟩
  · exact ⟨_, cap, rfl, h3, fun i t ht => ⟨g, 0, rfl, by rw [Nat.zero_add]; exact h5 i t ht 1 _ rfl⟩⟩
/-- A program that was read lies where it lay. -/
theorem Py.kept {A : Nat} {w w' : World} {y : PT} (h : Py A w y) (hb : Below w.heap.size w w') : y.In w'.heap.size w' := by
  have hk : ∀ q, A ≤ q → q < w.heap.size → w'.heap[q]? = w.heap[q]? := fun q _ h2 => hb.block q h2
  exact ⟨h.1.1.1.stay h.2.1 hb.size hk, h.1.1.2.1.stay h.2.2.1 hb.size hk, h.1.1.2.2.stay h.2.2.2.1 h.2.2.2.2 hb.size hk⟩

set_option maxRecDepth 100000 in
set_option maxHeartbeats 6400000 in
theorem law7 (s : ByteArray) (w : World) (hmax : s.size ≤ 9223372036854775807) (hE : ErrR w) (hT : Tab w) (h16 : gB ≤ w.heap.size) :
    Calls Tryz.prog 7 #[.string s] w fun r w' => r = .returned (.bool true) ∧ Below w.heap.size w w' := by
  have HK := known5 w hE hT h16
  have HP : Hid (∀ u, Below w.heap.size w u → Calls Tryz.prog 8 #[.string s] u fun r w' => PostPP u (pgO (bytes s) (programR (toksOf (bytes s)))) r w') := fun u hu => parseP_any s u hmax (hE.below hu)
  have AM := again_math (bytes s)
  have hX := lex_any s
  have hfit := lexS_fit (bytes s)
  have hok := (lexS_ok (bytes s)).2
  generalize pgO (bytes s) (programR (toksOf (bytes s))) = o at *
  obtain ⟨X, e, p⟩ := o
  unfold LexPost at hX
  generalize lexS (bytes s) = O at *
  obtain ⟨ts, er, pl⟩ := O
  dsimp only at AM hX hfit hok
  have HX : Hid (∀ u, Below w.heap.size w u → Calls Tryz.prog 22 #[.string s] u fun e w' => ∃ v, e = .returned (.tuple #[v, .agg (fa2 er pl).toArray]) ∧ Toks u.heap.size w' v ts ∧ Below u.heap.size u w') := fun u hu => hX u hmax (hE.below hu)
  have HPA : Hid (∀ (L : List UInt8) u, Below w.heap.size w u → L.length ≤ 16384 → pgO L (programR (toksOf L)) = (X, 0, 0) → Calls Tryz.prog 8 #[.string ⟨L.toArray⟩] u fun r w' => PostPP u (X, 0, 0) r w') := fun L u hu hL h => by
    have := parseP_any ⟨L.toArray⟩ u (by show L.length ≤ _; omega) (hE.below hu)
    rw [bytes_of, h] at this
    exact this
  have HPr : Hid (∀ (y : PT) u, y.pg = X → y.In u.heap.size u → Below w.heap.size w u → pgOk X → pgW X ≤ 1048576 → Calls Tryz.prog 20 #[.agg y.cells.toArray] u fun r w' => r = .returned (.tuple #[.string ⟨(if mayP X = true ∧ (pgT X).length ≤ 16384 then pgT X else []).toArray⟩, .int .i64 (if mayP X = true then (if (pgT X).length ≤ 16384 then 0 else 3) else 2)]) ∧ Below u.heap.size u w') := fun y u hy hI hu hk hw => by
    have := print8_any y u.heap.size u hI (Nat.le_refl _) (hT.below hu h16) (Nat.le_trans h16 hu.size) (by rw [hy]; exact pgT_len X hk hw)
    rw [hy] at this
    exact this
  unfold PostPP at HP HPA
  dsimp only at HP HPA
  have HM : Hid ((∀ X', (X, e, p) = (X', 0, 0) → PPg X' ∧ pgW X' ≤ 1048576 ∧ er = 0 ∧ ((jnT ts).length ≤ 16384 → pgO (jnT ts) (programR (toksOf (jnT ts))) = (X', 0, 0))) ∧ (∀ t ∈ ts, TkFit t) ∧ (er = 0 → pl = 0) ∧ ts.length ≤ 16385) := ⟨AM, hfit.1, hfit.2, hok⟩
  clear AM hX hfit hok hE hT h16
  go_enter Tryz.func7, Tryz.ntmps7
  go_wp2_with (first
    | (go_at_call 5; refine HK.mono ?_; rintro _ w1 ⟨rfl, hb1⟩)
    | (go_at_call 8; refine (HP.out w1 hb1).mono ?_; rintro _ v1 ⟨y, rfl, hy, hTy, vb1⟩)
    | ((with_reducible show wpList _ _ _ _ _ _); refine wpList_alloc_at (o := { dst := some 4, .. }) rfl 26 rfl [.slice none 0 0, .slice none 0 0, .slice none 0 0] 3 zz26 ?_; intro v2 vA2 vb2 hs2; clear hs2)
    | ((with_reducible show wpList _ _ _ _ _ _); refine wpList_alloc_at (o := { dst := some 5, .. }) rfl 29 rfl (fa2 0 0) 2 z25 ?_; intro v3 vA3 vb3 hs3; clear hs3)
    | ((with_reducible show wpList _ _ _ _ _ _); refine wpList_store_at (P := Tryz.prog) rfl 26 (.tmp 4) (.tmp 20) rfl v1.heap.size y.cells rfl rfl 26 _ (vA2.below vb3) (i26p _) (len26 _) (PT.one _) ?_; intro v4 vA4 vb4 hs4; clear hs4; have vA34 := vb4.at vA3 (by have := vA2.lt; omega))
    | ((with_reducible show wpList _ _ _ _ _ _); refine wpList_store_at (P := Tryz.prog) rfl 29 (.tmp 5) (.tmp 21) rfl v2.heap.size (fa2 e p) rfl rfl 29 _ vA34 i25 rfl (one2f _ _) ?_; intro v5 vA5 vb5 hs; clear hs; refine Hid.out ?_))
  refine hidU ?_
  have vl1 := vb1.size
  have vl2 := vA2.lt
  have vl3 := vA3.lt
  have vl4 := vb4.size
  have vl5 := vb5.size
  have vB3 : Below v1.heap.size v1 v3 := vb2.trans (vb3.mono vb2.size)
  have vB5 : Below v1.heap.size v1 v5 := vb5.below (vb4.below vB3 (Nat.le_refl _) (by omega)) (by omega) (by omega)
  have vBW := vb1.trans (vB5.mono vl1)
  have vA45 := vb5.at vA4 (by omega)
  clear vA2 vA3 vA4 vA34 vb1 vb2 vb3 vb4 vb5 vB3 vl1 vl2 vl3 vl4 vl5
  have hw5 := hb1.trans (vBW.mono hb1.size)
  have hq := fun u => eqF e p u
  obtain ⟨f0, f1⟩ := fa_cells vA5
  clear HK HP hb1 vBW
  by_cases hnz : ¬ (e = 0 ∧ p = 0)
  · have e1 : (decide (e = 0) && decide (p = 0)) = false := by
      rw [Bool.eq_false_iff]
      intro h
      simp at h
      exact hnz h
    rw [e1] at hq
    clear e1 hnz HM
    go_wp2_with (first
      | ((with_reducible show wpList _ _ _ _ _ _); refine wpList_build_at (P := Tryz.prog) rfl 29 #[] rfl [.int .i64 0, .int .i64 0] (by kernel_rfl) ?_))
    go_ret
    exact ⟨rfl, hw5⟩
  have hz := Decidable.not_not.1 hnz
  clear hnz
  have e1 : (decide (e = 0) && decide (p = 0)) = true := by rw [decide_eq_true hz.1, decide_eq_true hz.2]; rfl
  rw [e1] at hq
  clear e1
  obtain ⟨HQ, hfit, hpl, hlen⟩ := HM.out
  obtain ⟨hpg, hpw, her, hjn⟩ := HQ X (by rw [hz.1, hz.2])
  have hp0 := hpl her
  clear hpl HM HQ
  subst her hp0
  have HJ : Hid (PPg X ∧ ((jnT ts).length ≤ 16384 → pgO (jnT ts) (programR (toksOf (jnT ts))) = (X, 0, 0)) ∧ (∀ t ∈ ts, TkFit t) ∧ ts.length ≤ 16385) := ⟨hpg, hjn, hfit, hlen⟩
  have HY : Hid (y.pg = X ∧ Py w1.heap.size v1 y) := ⟨hy, hTy⟩
  have hP := HPr.out y v5 hy (hTy.kept vB5) hw5 hpg.2.2 hpw
  rw [if_pos hpg.1] at hP
  clear hpg hjn hfit hlen hpw hy hTy HPr
  obtain ⟨L, hL⟩ : ∃ L, Hid (L = pgT X) := ⟨_, (rfl : _ = pgT X)⟩
  rw [← hL.out] at hP
  have hk0 := fun u => eqF 0 0 u
  rw [show (decide (0 = 0) && decide (0 = 0)) = true from rfl] at hk0
  by_cases hl : L.length ≤ 16384
  focus
    rw [if_pos ⟨HJ.out.1.1, hl⟩, if_pos hl] at hP
    have HB := HPA.out L
    have HB2 : Hid (pgO L (programR (toksOf L)) = (X, 0, 0)) := by rw [hL.out]; exact back_math HJ.out.1.1 HJ.out.1.2.1 HJ.out.1.2.2 (by rw [← hL.out]; exact hl)
    have HB3 : Hid (∀ u, Below w.heap.size w u → Calls Tryz.prog 8 #[.string ⟨L.toArray⟩] u fun r w' => ∃ y : PT, r = .returned (.tuple #[.agg y.cells.toArray, .agg (fa2 0 0).toArray]) ∧ y.pg = X ∧ Py u.heap.size w' y ∧ Below u.heap.size u w') := fun u hu => HB u hu hl HB2.out
    clear HB HB2
    go_wp2_with (first
      | ((with_reducible show wpList _ _ _ _ _ _); refine wpList_build_at (P := Tryz.prog) rfl 29 #[] rfl [.int .i64 0, .int .i64 0] (by kernel_rfl) ?_)
      | ((with_reducible show wpList _ _ _ _ _ _); refine wpList_load_at (P := Tryz.prog) rfl 26 (.tmp 4) rfl v1.heap.size rfl 26 y.cells vA45 _ Tryz.underlying26 rfl (i26p _) ?_)
      | (go_at_call 20; refine hP.mono ?_; rintro _ u0 ⟨rfl, ub0⟩; refine Hid.out ?_))
    refine hidU ?_
    have hu0 := hw5.trans (ub0.mono hw5.size)
    clear hP hq f0 f1
    go_wp2_with (first
      | (go_at_call 8; refine (HB3.out u0 hu0).mono ?_; rintro _ u1 ⟨x, rfl, hx, hTx, ub1⟩)
      | ((with_reducible show wpList _ _ _ _ _ _); refine wpList_alloc_at (o := { dst := some 8, .. }) rfl 26 rfl [.slice none 0 0, .slice none 0 0, .slice none 0 0] 3 zz26 ?_; intro u2 uA2 ub2 hs2; clear hs2)
      | ((with_reducible show wpList _ _ _ _ _ _); refine wpList_alloc_at (o := { dst := some 9, .. }) rfl 29 rfl (fa2 0 0) 2 z25 ?_; intro u3 uA3 ub3 hs3; clear hs3)
      | ((with_reducible show wpList _ _ _ _ _ _); refine wpList_store_at (P := Tryz.prog) rfl 26 (.tmp 8) (.tmp 36) rfl u1.heap.size x.cells rfl rfl 26 _ (uA2.below ub3) (i26p _) (len26 _) (PT.one _) ?_; intro u4 uA4 ub4 hs4; clear hs4; have uA34 := ub4.at uA3 (by have := uA2.lt; omega))
      | ((with_reducible show wpList _ _ _ _ _ _); refine wpList_store_at (P := Tryz.prog) rfl 29 (.tmp 9) (.tmp 37) rfl u2.heap.size (fa2 0 0) rfl rfl 29 _ uA34 i25 rfl (one2f _ _) ?_; intro u5 uA5 ub5 hs; clear hs; refine Hid.out ?_))
    refine hidU ?_
    have ul1 := ub1.size
    have ul2 := uA2.lt
    have ul3 := uA3.lt
    have ul4 := ub4.size
    have ul5 := ub5.size
    have uB3 : Below u1.heap.size u1 u3 := ub2.trans (ub3.mono ub2.size)
    have uB5 : Below u1.heap.size u1 u5 := ub5.below (ub4.below uB3 (Nat.le_refl _) (by omega)) (by omega) (by omega)
    have uBW := ub1.trans (uB5.mono ul1)
    have uA45 := ub5.at uA4 (by omega)
    clear uA2 uA3 uA4 uA34 ub1 ub2 ub3 ub4 ub5 uB3 ul1 ul2 ul3 ul4 ul5
    have hu5 := hu0.trans (uBW.mono hu0.size)
    have hv05 : Below v5.heap.size v5 u5 := ub0.trans (uBW.mono ub0.size)
    have hY5 : Below v1.heap.size v1 u5 := vB5.trans (hv05.mono vB5.size)
    have hS := same_any u5.heap.size x y u5 (hTx.kept uB5) (HY.out.2.kept hY5) (Nat.le_refl _)
    rw [hx, HY.out.1, (samP_eq X X).2 rfl] at hS
    obtain ⟨d0, d1⟩ := fa_cells uA5
    have hA5 := vA45.below hv05
    obtain ⟨y1, m1, k1, y2, m2, k2, y3, m3, k3, hcy⟩ : ∃ a1 n1 c1 a2 n2 c2 a3 n3 c3, Hid (y.cells = [.slice a1 n1 c1, .slice a2 n2 c2, .slice a3 n3 c3]) := ⟨_, _, _, _, _, _, _, _, _, (rfl : y.cells = _)⟩
    obtain ⟨z1, i1, j1, z2, i2, j2, z3, i3, j3, hcz⟩ : ∃ a1 n1 c1 a2 n2 c2 a3 n3 c3, Hid (x.cells = [.slice a1 n1 c1, .slice a2 n2 c2, .slice a3 n3 c3]) := ⟨_, _, _, _, _, _, _, _, _, (rfl : x.cells = _)⟩
    have hS' : Calls Tryz.prog 21 #[.agg #[.slice z1 i1 j1, .slice z2 i2 j2, .slice z3 i3 j3], .agg #[.slice y1 m1 k1, .slice y2 m2 k2, .slice y3 m3 k3]] u5 fun r w' => r = .returned (.bool true) ∧ Below u5.heap.size u5 w' := by
      have e1 : #[.slice z1 i1 j1, .slice z2 i2 j2, .slice z3 i3 j3] = x.cells.toArray := by rw [hcz.out]
      have e2 : #[.slice y1 m1 k1, .slice y2 m2 k2, .slice y3 m3 k3] = y.cells.toArray := by rw [hcy.out]
      rw [e1, e2]
      exact hS
    have uA := uA45
    rw [hcz.out] at uA
    have vA := hA5
    rw [hcy.out] at vA
    obtain ⟨q0, q1, q2⟩ := c3_cells uA
    obtain ⟨r0, r1, r2⟩ := c3_cells vA
    clear uA45 uA5 uBW uB5 hS hTx hx hu0 uA vA ub0 hv05 HB3 hcy hcz
    go_wp2_with (first
      | ((with_reducible show wpList _ _ _ _ _ _); refine wpList_build_at (P := Tryz.prog) rfl 29 #[] rfl [.int .i64 0, .int .i64 0] (by kernel_rfl) ?_)
      | (go_at_call 21; refine hS'.mono ?_; rintro _ v6 ⟨rfl, hb6⟩; refine Hid.out ?_))
    refine hidU ?_
    have hw6 := hu5.trans (hb6.mono hu5.size)
    have hA6 := hA5.below hb6
    have hY6 : Below v1.heap.size v1 v6 := hY5.trans (hb6.mono hY5.size)
    clear hS' d0 d1 q0 q1 q2 r0 r1 r2 hb6 hA5 hu5 hY5 hl vA45 vA5 vB5 hw5
    go_wp2_with (go_at_call 22; refine (HX.out v6 hw6).mono ?_; rintro _ v7 ⟨V, rfl, hTk, hb7⟩; refine Hid.out ?_)
    refine hidU ?_
  rotate_left
  focus
    rw [if_neg (fun h => hl h.2), if_neg hl] at hP
    go_wp2_with (first
      | ((with_reducible show wpList _ _ _ _ _ _); refine wpList_build_at (P := Tryz.prog) rfl 29 #[] rfl [.int .i64 0, .int .i64 0] (by kernel_rfl) ?_)
      | ((with_reducible show wpList _ _ _ _ _ _); refine wpList_load_at (P := Tryz.prog) rfl 26 (.tmp 4) rfl v1.heap.size rfl 26 y.cells vA45 _ Tryz.underlying26 rfl (i26p _) ?_)
      | (go_at_call 20; refine hP.mono ?_; rintro _ v6 ⟨rfl, hb6⟩; refine Hid.out ?_))
    refine hidU ?_
    have hw6 := hw5.trans (hb6.mono hw5.size)
    have hA6 := vA45.below hb6
    have hY6 : Below v1.heap.size v1 v6 := vB5.trans (hb6.mono vB5.size)
    clear hP hq f0 f1 hb6 hl vA45 vA5 vB5 hw5
    go_wp2_with (go_at_call 22; refine (HX.out v6 hw6).mono ?_; rintro _ v7 ⟨V, rfl, hTk, hb7⟩; refine Hid.out ?_)
    refine hidU ?_
  all_goals
    have hw7 := hw6.trans (hb7.mono hw6.size)
    have hA7 := hA6.below hb7
    have hY7 : Below v1.heap.size v1 v7 := hY6.trans (hb7.mono hY6.size)
    clear HX hw6 hA6 hY6 hb7
    obtain ⟨ra, rc, rfl, hrc, hrow⟩ := toks_row hTk
    obtain ⟨n, hn⟩ : ∃ n, Hid (n = ts.length) := ⟨_, (rfl : ts.length = _)⟩
    have hn16 : n ≤ 16385 := by rw [hn.out]; exact HJ.out.2.2.2
    rw [← hn.out] at hrc ⊢
    go_wp2_with (first
      | ((with_reducible show wpList _ _ _ _ _ _); refine wpList_alloc_at (o := { dst := some 11, .. }) rfl 29 rfl (fa2 0 0) 2 z25 ?_; intro v8 A8 b8 hs8; clear hs8)
      | ((with_reducible show wpList _ _ _ _ _ _); refine wpList_store_at (P := Tryz.prog) rfl 29 (.tmp 11) (.tmp 55) rfl v7.heap.size (fa2 0 0) rfl rfl 29 _ A8 i25 rfl (one2f _ _) ?_; intro v9 A9 b9 hs9; clear hs9; refine Hid.out ?_))
    refine hidU ?_
    have l8 := b8.size
    have l9 := b9.size
    have hB9 : Below v7.heap.size v7 v9 := b9.below b8 (Nat.le_refl _) (by omega)
    have hw9 := hw7.trans (hB9.mono hw7.size)
    have hA9 := hA7.below hB9
    have hY9 : Below v1.heap.size v1 v9 := hY7.trans (hB9.mono hY7.size)
    obtain ⟨g0, g1⟩ := fa_cells A9
    have HR : Hid (∀ i t, ts[i]? = some t → ∃ g o, ra = some ⟨g, o, none⟩ ∧ v9.cell? ⟨g, o + i * 5 + 1, none⟩ = some (.string ⟨t.text.toArray⟩)) := fun i t ht => by
      obtain ⟨g, o, h1, h2⟩ := hrow i t ht
      refine ⟨g, o, h1, ?_⟩
      rw [World.cell?_of_block (w := v7) (hB9.block g (lt_of_cell h2))]
      exact h2
    clear A8 A9 b8 b9 hrow hTk hB9 hA7 hY7 hw7 l8 l9
    go_wp2_with (first
      | ((with_reducible show wpList _ _ _ _ _ _); refine wpList_build_at (P := Tryz.prog) rfl 29 #[] rfl [.int .i64 0, .int .i64 0] (by kernel_rfl) ?_))
    go_loopw [12, 13] (fun J j wr => ∃ i : Nat, j = .int .i64 (i : Int) ∧ i ≤ n ∧ J = .string ⟨(jnT (ts.take i)).toArray⟩ ∧ wr = v9) (fun _ j _ => n - (intOf j).toNat)
    case atStart => exact ⟨0, rfl, Nat.zero_le _, rfl, rfl⟩
    case round =>
      obtain ⟨i, rfl, hi, rfl, hwr⟩ := hrel
      have hwr := hwr.symm
      subst hwr
      have hj := jnT_len (ts.take i) fun t ht => HJ.out.2.2.1 t (List.mem_of_mem_take ht)
      have hti : (ts.take i).length ≤ 16385 := by
        have h1 := HJ.out.2.2.2
        rw [List.length_take]
        omega
      by_cases hc : i < n
      · obtain ⟨t, ht⟩ : ∃ t, ts[i]? = some t := ⟨ts[i]'(by rw [← hn.out]; exact hc), by rw [List.getElem?_eq_getElem]⟩
        obtain ⟨g, o, rfl, hcell⟩ := HR.out i t ht
        have ht24 := fit_len (HJ.out.2.2.1 t (List.mem_of_getElem? ht))
        have hjt : jnT (ts.take (i + 1)) = jnT (ts.take i) ++ t.text ++ [32] := by
          rw [List.take_add_one, ht, jnT_app]
          show jnT (ts.take i) ++ (t.text ++ 32 :: []) = _
          simp
        have HS : Hid (jnT (ts.take (i + 1)) = jnT (ts.take i) ++ t.text ++ [32]) := hjt
        obtain ⟨A, hA⟩ : ∃ A, Hid (A = jnT (ts.take i)) := ⟨_, (rfl : _ = jnT (ts.take i))⟩
        rw [← hA.out] at hj ⊢
        have a1 := app_ba A t.text
        have a2 := app_ba (A ++ t.text) [32]
        have hs1 : ¬ (9223372036854775807 < (⟨A.toArray⟩ : ByteArray).size + (⟨t.text.toArray⟩ : ByteArray).size) := by
          show ¬ (9223372036854775807 < A.toArray.size + t.text.toArray.size)
          simp
          omega
        have hs2 : ¬ (9223372036854775807 < (⟨(A ++ t.text).toArray⟩ : ByteArray).size + (⟨#[32]⟩ : ByteArray).size) := by
          show ¬ (9223372036854775807 < (A ++ t.text).toArray.size + 1)
          simp
          omega
        have a2 : (⟨(A ++ t.text).toArray⟩ : ByteArray) ++ (⟨#[32]⟩ : ByteArray) = ⟨(A ++ t.text ++ [32]).toArray⟩ := a2
        clear ht hjt
        go_wp2_with fail
        go_roundw
        case rel => exact ⟨i + 1, by go_num, by omega, by have e5 := HS.out; rw [← hA.out] at e5; first | (rw [e5, List.append_assoc]; done) | (rw [e5, a1, a2, List.append_assoc]; done) | (rw [e5]; done) | (rw [e5]; simp; done) | (simp [e5, a1, a2]; done), trivial⟩
        case measure => simp [intOf]; omega
      · have hin : ts.take i = ts := by rw [show i = n by omega, hn.out, List.take_length]
        rw [hin] at hj ⊢
        clear hin hti HR
        obtain ⟨A, hA⟩ : ∃ A, Hid (A = jnT ts) := ⟨_, (rfl : _ = jnT ts)⟩
        rw [← hA.out] at hj ⊢
        have hsz : (⟨A.toArray⟩ : ByteArray).size = A.length := by show A.toArray.size = _; simp
        have hlt := HJ.out.2.2.2
        by_cases hl : A.length ≤ 16384
        · have hgt : ¬ ((16384 : Int) < (A.length : Int)) := by omega
          have HB3 : Hid (∀ u, Below w.heap.size w u → Calls Tryz.prog 8 #[.string ⟨A.toArray⟩] u fun r w' => ∃ y : PT, r = .returned (.tuple #[.agg y.cells.toArray, .agg (fa2 0 0).toArray]) ∧ y.pg = X ∧ Py u.heap.size w' y ∧ Below u.heap.size u w') := fun u hu => HPA.out A u hu hl (by rw [hA.out]; exact HJ.out.2.1 (by rw [← hA.out]; exact hl))
          go_wp2_with (first
            | (go_at_call 8; refine (HB3.out v9 hw9).mono ?_; rintro _ k1 ⟨g, rfl, hg, hTg, kb1⟩)
            | ((with_reducible show wpList _ _ _ _ _ _); refine wpList_alloc_at (o := { dst := some 14, .. }) rfl 26 rfl [.slice none 0 0, .slice none 0 0, .slice none 0 0] 3 zz26 ?_; intro k2 kA2 kb2 hs2; clear hs2)
            | ((with_reducible show wpList _ _ _ _ _ _); refine wpList_alloc_at (o := { dst := some 15, .. }) rfl 29 rfl (fa2 0 0) 2 z25 ?_; intro k3 kA3 kb3 hs3; clear hs3)
            | ((with_reducible show wpList _ _ _ _ _ _); refine wpList_store_at (P := Tryz.prog) rfl 26 (.tmp 14) (.tmp 80) rfl k1.heap.size g.cells rfl rfl 26 _ (kA2.below kb3) (i26p _) (len26 _) (PT.one _) ?_; intro k4 kA4 kb4 hs4; clear hs4; have kA34 := kb4.at kA3 (by have := kA2.lt; omega))
            | ((with_reducible show wpList _ _ _ _ _ _); refine wpList_store_at (P := Tryz.prog) rfl 29 (.tmp 15) (.tmp 81) rfl k2.heap.size (fa2 0 0) rfl rfl 29 _ kA34 i25 rfl (one2f _ _) ?_; intro k5 kA5 kb5 hs; clear hs; refine Hid.out ?_))
          refine hidU ?_
          have kl1 := kb1.size
          have kl2 := kA2.lt
          have kl3 := kA3.lt
          have kl4 := kb4.size
          have kl5 := kb5.size
          have kB3 : Below k1.heap.size k1 k3 := kb2.trans (kb3.mono kb2.size)
          have kB5 : Below k1.heap.size k1 k5 := kb5.below (kb4.below kB3 (Nat.le_refl _) (by omega)) (by omega) (by omega)
          have kBW := kb1.trans (kB5.mono kl1)
          have kA45 := kb5.at kA4 (by omega)
          clear kA2 kA3 kA4 kA34 kb1 kb2 kb3 kb4 kb5 kB3 kl1 kl2 kl3 kl4 kl5
          have hk5 := hw9.trans (kBW.mono hw9.size)
          have hY5 : Below v1.heap.size v1 k5 := hY9.trans (kBW.mono hY9.size)
          have hS := kitProgram_any k5.heap.size g y k5 (hTg.kept kB5) (HY.out.2.kept hY5) (Nat.le_refl _)
          rw [hg, HY.out.1, (samP_eq X X).2 rfl] at hS
          obtain ⟨d0, d1⟩ := fa_cells kA5
          obtain ⟨y1, m1, k1', y2, m2, k2', y3, m3, k3', hcy⟩ : ∃ a1 n1 c1 a2 n2 c2 a3 n3 c3, Hid (y.cells = [.slice a1 n1 c1, .slice a2 n2 c2, .slice a3 n3 c3]) := ⟨_, _, _, _, _, _, _, _, _, (rfl : y.cells = _)⟩
          obtain ⟨z1, i1, j1, z2, i2, j2, z3, i3, j3, hcz⟩ : ∃ a1 n1 c1 a2 n2 c2 a3 n3 c3, Hid (g.cells = [.slice a1 n1 c1, .slice a2 n2 c2, .slice a3 n3 c3]) := ⟨_, _, _, _, _, _, _, _, _, (rfl : g.cells = _)⟩
          have hS' : Calls Tryz.prog 10 #[.agg #[.slice z1 i1 j1, .slice z2 i2 j2, .slice z3 i3 j3], .agg #[.slice y1 m1 k1', .slice y2 m2 k2', .slice y3 m3 k3']] k5 fun r w' => r = .returned (.bool true) ∧ Below k5.heap.size k5 w' := by
            have e1 : #[.slice z1 i1 j1, .slice z2 i2 j2, .slice z3 i3 j3] = g.cells.toArray := by rw [hcz.out]
            have e2 : #[.slice y1 m1 k1', .slice y2 m2 k2', .slice y3 m3 k3'] = y.cells.toArray := by rw [hcy.out]
            rw [e1, e2]
            exact hS
          have uA := kA45
          rw [hcz.out] at uA
          have vA := hA9.below kBW
          rw [hcy.out] at vA
          obtain ⟨q0, q1, q2⟩ := c3_cells uA
          obtain ⟨r0, r1, r2⟩ := c3_cells vA
          clear kA45 kA5 kBW kB5 hS hTg hg uA vA HB3 hcy hcz hA9 hY9 hY5 hw9 HJ HY HPA hA hn
          go_wp2_with (first
            | ((with_reducible show wpList _ _ _ _ _ _); refine wpList_build_at (P := Tryz.prog) rfl 29 #[] rfl [.int .i64 0, .int .i64 0] (by kernel_rfl) ?_)
            | (go_at_call 10; refine hS'.mono ?_; rintro _ k6 ⟨rfl, hb6⟩))
          go_ret
          exact ⟨rfl, hk5.trans (hb6.mono hk5.size)⟩
        · have hgt : (16384 : Int) < (A.length : Int) := by omega
          go_wp2_with fail
          go_ret
          exact ⟨rfl, hw9⟩

end Go.Proofs.YtjgggmjjikopeaaGreatDoor
