/- Joined texts of the proof. -/
import Derived.Test.YtjgggmjjikopeaaGreatDoorJ28

/- A row of operands and signs. -/
namespace Go.Proofs.YtjgggmjjikopeaaGreatDoor
open Go.RowKit
set_option linter.unusedVariables false

theorem kid2_lies {S : Nat → Prop} {b op c : Nat} {x y : ET} (hx : x.Lies S) (hy : y.Lies S) (hb : S b) : (ET.mk op 0 0 ⟨#[]⟩ (some ⟨b, 0, none⟩) c [x, y]).Lies S := by
  unfold ET.Lies
  refine ⟨.inr ⟨b, 0, rfl, hb⟩, ?_⟩
  unfold ET.LiesL
  refine ⟨hx, ?_⟩
  unfold ET.LiesL
  exact ⟨hy, by unfold ET.LiesL; trivial⟩
/-- An expression in blocks from one on, apart from another one. -/
def Tz (A b : Nat) (w : World) (y : ET) : Prop := y.Sn w.heap.size w ∧ y.Lies (fun j => A ≤ j ∧ j ≠ b)
theorem Tz.tw {A b : Nat} {w : World} {y : ET} (h : Tz A b w y) : Tw A w y := ⟨h.1, h.2.mono fun k hk => hk.1⟩
theorem Tz.but {A b k : Nat} {w w' : World} {y : ET} (h : Tz A b w y) (hb : But k w w') (hk : k < A ∨ k = b ∨ w.heap.size ≤ k) : Tz A b w' y :=
  ⟨ET.Sn.up hb.size (ET.Sn.stay (fun j hj hl => hb.block j hl (by omega)) h.1 h.2), h.2⟩
theorem Tz.below {A b : Nat} {w w' : World} {y : ET} (h : Tz A b w y) (hb : Below w.heap.size w w') : Tz A b w' y :=
  ⟨ET.Sn.up hb.size (ET.Sn.stay (fun j hj hl => hb.block j hl) h.1 h.2), h.2⟩
/-- What a row's loop keeps. -/
def RowI (B g n d : Nat) (w : World) (b1 A f : Nat) (R : Rs Ex) (most : Nat) (wr : World) : Prop :=
  ∃ (k : Nat) (x : Ex) (l : List Tk) (y : ET), k ≤ f ∧ loopF k n most d x l = some R ∧ y.ex = x ∧ htX x ≤ 32 ∧ Tz A b1 wr y ∧ At 43 wr b1 y.cells ∧ At 43 wr w.heap.size [.int .u8 0, .int .u8 0, .int .u64 0, .string ⟨#[]⟩, .slice none 0 0] ∧ Rd B wr g l ∧ But g w wr ∧ A ≤ wr.heap.size ∧ b1 < wr.heap.size

set_option maxRecDepth 100000 in
set_option maxHeartbeats 6400000 in
theorem row_of (f : Nat) (hO : OperW f) (hR : ∀ k, k < f → RowW k) : RowW (f + 1) := by
  intro n d l R hn hn6 hd h B g w hr hB
  have hlt := hr.lt
  rw [rowF] at h
  cases hx : operF f d l with
  | none => rw [hx] at h; cases h
  | some Y =>
    rw [hx] at h
    have HC : Hid (∀ u, Below w.heap.size w u → Calls Tryz.prog 107 #[.pointer (some ⟨g, 0, none⟩), .int .i64 (d : Int)] u fun r w' => PostX B g u Y r w') := fun u hu => hO d l Y hd hx B g u (hr.below hu) (Nat.le_trans hB hu.size)
    have hh : Hid (∀ e r, some Y = some (.ok e r) → htX e ≤ 32) := fun e r hY => (read_ht f).2.2.1 d l e r (hx.trans hY)
    clear hx hr hO
    cases Y with
    | bad e q =>
      cases h
      clear hR hh
      go_enter Tryz.func71, Tryz.ntmps71
      go_wp2_with (first
        | ((with_reducible show wpList _ _ _ _ _ _); refine wpList_alloc_at (o := { dst := some 6, .. }) rfl 43 rfl [.int .u8 0, .int .u8 0, .int .u64 0, .string ⟨#[]⟩, .slice none 0 0] 5 z29 ?_; intro w1 hA1 hb1 hs1; clear hs1)
        | (go_at_call 107; refine (HC.out _ hb1).mono ?_; rintro r w2 ⟨hr, hb2⟩; unfold PanW at hr; subst hr))
      exact ⟨rfl, rfl, (But.of_below hb1).trans hb2⟩
    | ok x r =>
      have hh := hh.out x r rfl
      have HL : Hid (loopF f n 5 d x r = some R) := h
      have HW : Hid (∀ k, k < f → RowW k) := hR
      clear h hR
      go_enter Tryz.func71, Tryz.ntmps71
      go_wp2_with (first
        | ((with_reducible show wpList _ _ _ _ _ _); refine wpList_alloc_at (o := { dst := some 6, .. }) rfl 43 rfl [.int .u8 0, .int .u8 0, .int .u64 0, .string ⟨#[]⟩, .slice none 0 0] 5 z29 ?_; intro w1 hA1 hb1 hs1; clear hs1)
        | (go_at_call 107; refine (HC.out _ hb1).mono ?_; rintro _ w2 ⟨y, rfl, he, hT, hR2, hb2⟩)
        | ((with_reducible show wpList _ _ _ _ _ _); refine wpList_alloc_at (o := { dst := some 7, .. }) rfl 43 rfl [.int .u8 0, .int .u8 0, .int .u64 0, .string ⟨#[]⟩, .slice none 0 0] 5 z29 ?_; intro w3 hA3 hb3 hs3; clear hs3)
        | ((with_reducible show wpList _ _ _ _ _ _); refine wpList_store_at (P := Tryz.prog) rfl 43 (.tmp 7) (.tmp 15) rfl w2.heap.size y.cells rfl rfl 43 _ hA3 (i43 _) (len43 _) (ET.one _) ?_; intro w4 hA4 hb4 hs4; clear hs4; refine Hid.out ?_))
      refine hidU ?_
      have l1 := hA1.lt
      have l2 := hb2.size
      have l3 := hA3.lt
      have l4 := hb4.size
      have l0 := hb1.size
      have hT : Tz w1.heap.size w2.heap.size w2 y := ⟨hT.1, (ET.In.lies hT.1.1 hT.2).mono fun k hk => ⟨hk.1, by omega⟩⟩
      have HI : Hid (RowI B g n d w w2.heap.size w1.heap.size f R 5 w4) :=
        ⟨f, x, r, y, Nat.le_refl _, HL.out, he, hh, (hT.below hb3).but hb4 (.inr (.inl rfl)), hA4, hb4.at ((hb2.at hA1 (by omega)).below hb3) (by omega), (hR2.below hb3).but hb4 (by omega), (((But.of_below hb1).trans hb2).trans (But.of_below hb3)).fresh hb4 (by omega), by omega, by omega⟩
      clear hA1 hA3 hA4 hb1 hb2 hb3 hb4 hT hR2 HC he HL hh
      go_wp2_with fail
      go_loopw [8] (fun u wr => ∃ most : Nat, u = .int .i64 (most : Int) ∧ most ≤ 5 ∧ Hid (RowI B g n d w w2.heap.size w1.heap.size f R most wr)) (fun _ wr => tokLen wr g)
      case atStart => exact ⟨5, rfl, Nat.le_refl _, HI⟩
      case round =>
        obtain ⟨most, rfl, hm5, hX⟩ := hrel
        clear HI
        obtain ⟨k, x, l, y, hk, hL, he, hht, hT, hA7, hA6, hRd, hBw, hAs, hbs⟩ := hX.out
        clear hX
        cases k with
        | zero => simp [loopF] at hL
        | succ k =>
          rw [loopF] at hL
          have hN := next_any g l wr hRd
          have HB := fun w => binds_any ⟨(hdT l).text.toArray⟩ w
          have hlt2 := bind_le (hdT l).text
          have hop := bind_lt (hdT l).text
          have hlen := hRd.len
          have HT : Hid (∀ u, Rd B u g l → 1 ≤ (bindOf (hdT l).text).2 → Calls Tryz.prog 93 #[.pointer (some ⟨g, 0, none⟩)] u fun r w' => r = .returned (.tuple #[]) ∧ Rd B w' g l.tail ∧ But g u w') := fun u hu hn => take_any g l u hu (.inl (bind_nil hn))
          have htl : 1 ≤ (bindOf (hdT l).text).2 → l.tail.length < l.length := fun h => tail_lt (bind_nil h)
          generalize hdT l = t at *
          obtain ⟨K, T, p, b⟩ := t
          have hN : Calls Tryz.prog 92 #[.pointer (some ⟨g, 0, none⟩)] wr fun r w' => r = .returned (.agg (tok5 K ⟨T.toArray⟩ p (valT K) b).toArray) ∧ Below wr.heap.size wr w' := hN
          have HB : ∀ w, Calls Tryz.prog 108 #[.string ⟨T.toArray⟩] w fun r w' => r = .returned (.tuple #[.int .u8 ((bindOf T).1 : Int), .int .i64 ((bindOf T).2 : Int)]) ∧ w' = w := HB
          dsimp only at hL HT htl hlt2 hop
          generalize valT K = vt at *
          generalize (bindOf T).1 = op at *
          generalize (bindOf T).2 = t at *
          go_wp2_with (first
            | (go_at_call 92; refine hN.mono ?_; rintro r u2 ⟨rfl, hb2⟩)
            | ((with_reducible show wpList _ _ _ _ _ _); refine wpList_alloc_at (o := { dst := some 9, .. }) rfl 64 rfl (tok5 0 ⟨#[]⟩ 0 0 0) 5 z34 ?_; intro u3 hA3 hb3 hs3; clear hs3)
            | ((with_reducible show wpList _ _ _ _ _ _); refine wpList_store_at (P := Tryz.prog) rfl 64 (.tmp 9) (.tmp 17) rfl u2.heap.size (tok5 K ⟨T.toArray⟩ p vt b) rfl rfl 64 _ hA3 i34 rfl (one5T _ _ _ _ _) ?_; intro u4 hA4 hb4 hs4; clear hs4; refine Hid.out ?_))
          refine hidU ?_
          have l2' := hb2.size
          have l3' := hA3.lt
          have l4' := hb4.size
          have hA7 := hb4.at ((hA7.below hb2).below hb3) (by omega)
          have hA6 := hb4.at ((hA6.below hb2).below hb3) (by omega)
          have hT := hT.but (((But.of_below (g := g) hb2).trans (But.of_below hb3)).fresh hb4 (by omega)) (.inl (by omega))
          have hRd := ((hRd.below hb2).below hb3).but hb4 (by omega)
          have hBw : But g w u4 := (((hBw.trans (But.of_below hb2)).trans (But.of_below hb3))).fresh hb4 (by have := hBw.size; omega)
          clear hb2 hb3 hb4 hA3 hN
          obtain ⟨q0, q1, q2, q3, q4⟩ := tk5_cells hA4
          by_cases hc : t < n ∨ most < t
          · rw [if_pos hc] at hL
            obtain rfl := Option.some.inj hL
            clear hL HT HW htl
            by_cases hc1 : t < n
            rotate_left
            focus
              have hc2 : most < t := by omega
            rotate_left
            all_goals
              go_wp2_with (first
                | (go_at_call 108; refine (HB _).mono ?_; rintro r u ⟨rfl, rfl⟩)
                | ((with_reducible show wpList _ _ _ _ _ _); refine wpList_load_at (P := Tryz.prog) rfl 43 (.tmp 7) rfl w2.heap.size rfl 43 y.cells hA7 _ Tryz.underlying43 rfl (i43 _) ?_)
                | ((with_reducible show wpList _ _ _ _ _ _); refine wpList_store_at (P := Tryz.prog) rfl 43 (.tmp 6) (.tmp 32) rfl w.heap.size y.cells rfl rfl 43 _ hA6 (i43 _) (len43 _) (ET.one _) ?_; intro w9 hA9 hb9 hs9; clear hs9))
              refine bodyPost_ret (results_at rfl _ _ w.heap.size 43 y.cells _ rfl hA9 Tryz.underlying43 rfl (i43 _)) rfl ?_
              exact ⟨y, rfl, he, (hT.tw.but hb9 (.inl (by omega))).low (by omega), hRd.but hb9 hB, hBw.fresh hb9 (Nat.le_refl _)⟩
          · rw [if_neg hc] at hL
            have t1 : n ≤ t := by omega
            have t2 : t ≤ most := by omega
            have hT93 := HT.out u4 hRd (by omega)
            have htl := htl (by omega)
            clear hc HT
            cases hx : rowF k (t + 1) d l.tail with
            | none => rw [hx] at hL; cases hL
            | some Y =>
              rw [hx] at hL
              have hleft := rowF_left (by omega) hx
              have hht2 : Hid (∀ e r, some Y = some (.ok e r) → htX e ≤ 32) := fun e r hY => (read_ht k).1 (t + 1) d l.tail e r (hx.trans hY)
              have HC : Hid (∀ u, Rd B u g l.tail → B ≤ u.heap.size → Calls Tryz.prog 71 #[.pointer (some ⟨g, 0, none⟩), .int .i64 ((t : Int) + 1), .int .i64 (d : Int)] u fun r w' => PostX B g u Y r w') := fun u hu hs => by
                have := HW.out k (by omega) (t + 1) d l.tail Y (by omega) (by omega) hd hx B g u hu hs
                rwa [show ((t + 1 : Nat) : Int) = (t : Int) + 1 by omega] at this
              clear hx
              have hBs := hBw.size
              cases Y with
              | bad e q =>
                cases hL
                clear HW hleft hht2
                go_wp2_with (first
                  | (go_at_call 108; refine (HB _).mono ?_; rintro r u ⟨rfl, rfl⟩)
                  | (go_at_call 93; refine hT93.mono ?_; rintro r u5 ⟨rfl, hR5, hb5⟩)
                  | (go_at_call 71; refine (HC.out _ hR5 (Nat.le_trans hB (Nat.le_trans hBs hb5.size))).mono ?_; rintro r u6 ⟨hr, hb6⟩; unfold PanW at hr; subst hr))
                exact ⟨rfl, rfl, (hBw.trans hb5).trans hb6⟩
              | ok x2 r2 =>
                dsimp only at hL
                have hleft : r2.length < l.tail.length := hleft
                have hh2 := hht2.out x2 r2 rfl
                clear hht2
                go_wp2_with (first
                  | (go_at_call 108; refine (HB _).mono ?_; rintro r u ⟨rfl, rfl⟩)
                  | (go_at_call 93; refine hT93.mono ?_; rintro r u5 ⟨rfl, hR5, hb5⟩)
                  | (go_at_call 71; refine (HC.out _ hR5 (Nat.le_trans hB (Nat.le_trans hBs hb5.size))).mono ?_; rintro _ u6 ⟨z, rfl, hez, hTz, hR6, hb6⟩)
                  | ((with_reducible show wpList _ _ _ _ _ _); refine wpList_alloc_at (o := { dst := some 12, .. }) rfl 43 rfl [.int .u8 0, .int .u8 0, .int .u64 0, .string ⟨#[]⟩, .slice none 0 0] 5 z29 ?_; intro u7 hA7' hb7' hs7; clear hs7)
                  | ((with_reducible show wpList _ _ _ _ _ _); refine wpList_store_at (P := Tryz.prog) rfl 43 (.tmp 12) (.tmp 39) rfl u6.heap.size z.cells rfl rfl 43 _ hA7' (i43 _) (len43 _) (ET.one _) ?_; intro u8 hA8 hb8 hs8; clear hs8; refine Hid.out ?_))
                refine hidU ?_
                have l5 := hb5.size
                have l6 := hb6.size
                have l7 := hA7'.lt
                have l8 := hb8.size
                have hA48 := hb8.at ((hb6.at (hb5.at hA4 (by omega)) (by omega)).below hb7') (by omega)
                have hA78 := hb8.at ((hb6.at (hb5.at hA7 (by omega)) (by omega)).below hb7') (by omega)
                have hA68 := hb8.at ((hb6.at (hb5.at hA6 (by omega)) (by omega)).below hb7') (by omega)
                have hT8 := (((hT.but hb5 (.inl (by omega))).but hb6 (.inl (by omega)))).but ((But.of_below (g := g) hb7').fresh hb8 (Nat.le_refl _)) (.inl (by omega))
                have hTz8 : Tw u5.heap.size u8 z := hTz.but ((But.of_below (g := g) hb7').fresh hb8 (Nat.le_refl _)) (.inl (by omega))
                have hR8 := (hR6.below hb7').but hb8 (by omega)
                have hB8 : But g w u8 := (((hBw.trans hb5).trans hb6).trans (But.of_below hb7')).fresh hb8 (by omega)
                clear q0 q1 q2 q3 q4 hb5 hb6 hb7' hb8 hA7' hT hTz hRd hR5 hR6 hBw hA4 hA6 hA7 hT93 HC
                obtain ⟨q0, q1, q2, q3, q4⟩ := tk5_cells hA48
                go_wp2_with (first
                  | ((with_reducible show wpList _ _ _ _ _ _); refine wpList_load_at (P := Tryz.prog) rfl 43 (.tmp 7) rfl w2.heap.size rfl 43 y.cells hA78 _ Tryz.underlying43 rfl (i43 _) ?_)
                  | ((with_reducible show wpList _ _ _ _ _ _); refine wpList_load_at (P := Tryz.prog) rfl 43 (.tmp 12) rfl u6.heap.size rfl 43 z.cells hA8 _ Tryz.underlying43 rfl (i43 _) ?_)
                  | ((with_reducible show wpList _ _ _ _ _ _); refine wpList_kid2 rfl (.tmp 43) (.tmp 44) rfl y z rfl rfl ?_; intro u9 hA9 hb9 hs9; clear hs9; refine Hid.out ?_))
                refine hidU ?_
                have l9 := hA9.lt
                have hTy9 := hT8.below hb9
                have hTz9 := hTz8.below hb9
                have hk9 := kid2_in (op := op) hA9 hTy9.tw (hTz9.low (by omega)) hop (by omega)
                have hkl : (ET.mk op 0 0 ⟨#[]⟩ (some ⟨u8.heap.size, 0, none⟩) 2 [y, z]).Lies (fun j => w1.heap.size ≤ j ∧ j ≠ w2.heap.size) := kid2_lies hTy9.2 (hTz9.2.mono fun j hj => ⟨by omega, by omega⟩) ⟨by omega, by omega⟩
                have ex : htX (ET.mk op 0 0 ⟨#[]⟩ (some ⟨u8.heap.size, 0, none⟩) 2 [y, z]).ex = htX (.mk op 0 0 [] [x, x2]) := by rw [← he, ← hez]; rfl
                have ex2 : (ET.mk op 0 0 ⟨#[]⟩ (some ⟨u8.heap.size, 0, none⟩) 2 [y, z]).ex = .mk op 0 0 [] [x, x2] := by rw [← he, ← hez]; rfl
                have hN := node_any p op (some ⟨u8.heap.size, 0, none⟩) 2 [y, z] u9 hk9.1.1 (by rw [ex]; simp only [htX, htL]; omega)
                rw [ex] at hN
                have hA79 := hA78.below hb9
                have hA69 := hA68.below hb9
                have hR9 := hR8.below hb9
                have hB9 : But g w u9 := hB8.trans (But.of_below hb9)
                clear hA78 hA68 hR8 hB8 hT8 hTz8 hTy9 hTz9 hA48 hb9 q0 q1 q2 q3 q4
                unfold nodeR at hL
                by_cases hhi : 32 < htX (.mk op 0 0 [] [x, x2])
                · rw [if_pos hhi] at hL
                  cases hL
                  go_wp2_with (first
                    | (go_at_call 109; refine hN.mono ?_; rintro r u10 ⟨hr, hb10⟩; rw [if_pos hhi] at hr; unfold PanW at hr; subst hr))
                  exact ⟨rfl, rfl, hB9.trans (But.of_below hb10)⟩
                · rw [if_neg hhi] at hL
                  dsimp only at hL
                  obtain ⟨N, hNd⟩ : ∃ N : ET, N = ET.mk op 0 0 ⟨#[]⟩ (some ⟨u8.heap.size, 0, none⟩) 2 [y, z] := ⟨_, rfl⟩
                  rw [← hNd] at hk9 hkl ex2 hN
                  clear hNd ex
                  go_wp2_with (first
                    | (go_at_call 109; refine hN.mono ?_; rintro r u10 ⟨hr, hb10⟩; rw [if_neg hhi] at hr; subst hr; have hA7a := hA79.below hb10)
                    | ((with_reducible show wpList _ _ _ _ _ _); refine wpList_store_at (P := Tryz.prog) rfl 43 (.tmp 7) (.tmp 46) rfl w2.heap.size N.cells rfl rfl 43 _ hA7a (i43 _) (len43' _ _) (ET.one _) ?_; intro u11 hA11 hb11 hs11; clear hs11; refine Hid.out ?_))
                  refine hidU ?_
                  have hTN : Tz w1.heap.size w2.heap.size u11 N := (Tz.below (w := u9) ⟨hk9.1, hkl⟩ hb10).but hb11 (.inr (.inl rfl))
                  have hA6b := hb11.at (hA69.below hb10) (by omega)
                  have l10 := hb10.size
                  have l11 := hb11.size
                  have hRb := (hR9.below hb10).but hb11 (by omega)
                  have hBb : But g w u11 := (hB9.trans (But.of_below hb10)).fresh hb11 (by omega)
                  have hlen2 := hRb.len
                  have HI2 : Hid (RowI B g n d w w2.heap.size w1.heap.size f R (mostOf t) u11) :=
                    ⟨k, _, r2, N, by omega, hL, ex2, by omega, hTN, hA11, hA6b, hRb, hBb, by omega, by omega⟩
                  clear hTN hA6b hRb hBb hA11 hb10 hb11 hA7a hA79 hA69 hR9 hB9 hk9 hkl hN hL
                  by_cases t3 : t = 3
                  · subst t3
                    go_wp2_with fail
                    go_roundw
                    case rel => exact ⟨2, by go_num, by omega, HI2⟩
                    case measure => rw [hlen2, hlen]; omega
                  · have e3 : mostOf t = t := by unfold mostOf; rw [if_neg t3]
                    rw [e3] at HI2
                    go_wp2_with fail
                    go_roundw
                    case rel => exact ⟨t, by go_num, by omega, HI2⟩
                    case measure => rw [hlen2, hlen]; omega

end Go.Proofs.YtjgggmjjikopeaaGreatDoor
