/- Joined texts of the proof. -/
import Derived.Test.YtjgggmjjikopeaaGreatDoorJ11
import Derived.Defers
import Derived.Recover
import Derived.Test.YtjgggmjjikopeaaGreatDoorJ1

/- Two expressions laid as a row; how many tokens are ahead. -/
namespace Go.Proofs.YtjgggmjjikopeaaGreatDoor
open Go.RowKit
set_option linter.unusedVariables false

/-- Two expressions are laid as a row. -/
theorem wpList_kid2 {ops : Array Oper} {rest : List Oper} {o : Oper} {a : Act} {w : World} {Q : Exit → Act → World → Prop} (hgd : o.guard = none) (x y : Operand) (ho : o.op = .buildSlice 41 2 #[(0, x), (1, y)]) (X Y : ET) (hx : a.eval x = .agg X.cells.toArray) (hy : a.eval y = .agg Y.cells.toArray)
    (h : ∀ w', At 43 w' w.heap.size (X.cells ++ Y.cells) → Below w.heap.size w w' → w'.heap.size = w.heap.size + 1 → wpList Tryz.prog ops Q rest (a.put o.dst (.slice (some ⟨w.heap.size, 0, none⟩) 2 2)) w') : wpList Tryz.prog ops Q (o :: rest) a w := by
  obtain ⟨ie, hi, hz0, hz1, hz2⟩ := info_parts f43
  refine wpList_buildSlice hgd 41 43 2 #[(0, x), (1, y)] ho (X.cells ++ Y.cells).toArray ie _ Tryz.underlying41 hi hz0 (by rw [hz1]; decide) (by rw [hz1]; decide) ?_ ?_
  · rw [hz1]
    simp only [List.map_toArray, List.map_cons, List.map_nil, hx, hy]
    cases X
    cases Y
    kernel_rfl
  · exact h _ (_root_.Go.heap_alloc_new w _) ((Below.refl _ w).alloc (Nat.le_refl _) _) (by show (w.heap.push _).size = _; simp)
theorem kid2_in {w : World} {b op A : Nat} {x y : ET} (hA : At 43 w b (x.cells ++ y.cells)) (hx : Tw A w x) (hy : Tw A w y) (hop : op < 256) (hb : A ≤ b) : Tw A w (ET.mk op 0 0 ⟨#[]⟩ (some ⟨b, 0, none⟩) 2 [x, y]) := by
  have hr := hA.range 0 10
  rw [List.drop_zero, List.take_of_length_le (by rw [List.length_append, ET.cells5, ET.cells5]; exact Nat.le_refl _)] at hr
  refine ⟨?_, ?_⟩
  · unfold ET.In
    refine ⟨hop, by decide, by decide, by simp, by simp, .inr ⟨b, 0, rfl, hA.lt, ?_⟩⟩
    unfold ET.Row
    refine ⟨fun j v hj => hr j v ?_, hx.1, ?_⟩
    · rw [List.getElem?_append_left (List.getElem?_eq_some_iff.1 hj).1]
      exact hj
    · unfold ET.Row
      refine ⟨fun j v hj => ?_, hy.1, by unfold ET.Row; trivial⟩
      have := hr (5 + j) v (by
        rw [List.getElem?_append_right (by rw [ET.cells5]; omega), ET.cells5, show 5 + j - 5 = j by omega]
        exact hj)
      rwa [show 0 + (5 + j) = 0 + 5 + j by omega] at this
  · unfold ET.Lies
    refine ⟨.inr ⟨b, 0, rfl, hb⟩, ?_⟩
    unfold ET.LiesL
    refine ⟨hx.2, ?_⟩
    unfold ET.LiesL
    exact ⟨hy.2, by unfold ET.LiesL; trivial⟩

/-- How many tokens a reader has ahead. -/
def tokLen (w : World) (g : Nat) : Nat := match w.cell? ⟨g, 0, none⟩ with | some (.slice _ n _) => n | _ => 0
theorem Rd.len {B : Nat} {w : World} {g : Nat} {l : List Tk} (h : Rd B w g l) : tokLen w g = l.length := by
  obtain ⟨gt, o, c, h, _⟩ := h
  have := h.cell.cell 0
  unfold tokLen
  rw [this]
  rfl
theorem rowF_left {f n d : Nat} {l : List Tk} {R : Rs Ex} (hn : 1 ≤ n) (h : rowF f n d l = some R) : R.Left l.length := by
  obtain ⟨f', r', h1, h2⟩ := (total l.length l (Nat.le_refl _)).2.2.1 n d hn
  rwa [row_one h h1]
theorem bind_lt (x : List UInt8) : (bindOf x).1 < 256 := by
  have go : ∀ (c : Prop) [Decidable c] (a b : Nat × Nat), a.1 < 256 → b.1 < 256 → (if c then a else b).1 < 256 := fun c _ a b h1 h2 => by
    by_cases h : c
    · rw [if_pos h]; exact h1
    · rw [if_neg h]; exact h2
  unfold bindOf
  refine go _ _ _ ?_ (go _ _ _ ?_ (go _ _ _ ?_ (go _ _ _ ?_ (go _ _ _ ?_ (go _ _ _ ?_ (go _ _ _ ?_ (go _ _ _ ?_ (go _ _ _ ?_ (go _ _ _ ?_ (go _ _ _ ?_ (go _ _ _ ?_ (go _ _ _ ?_ ?_))))))))))))
  all_goals exact of_decide_eq_true rfl

end Go.Proofs.YtjgggmjjikopeaaGreatDoor

/- A row of operands and signs. -/
namespace Go.Proofs.YtjgggmjjikopeaaGreatDoor
open Go.RowKit
set_option linter.unusedVariables false

theorem kid2_lies {S : Nat → Prop} {b op c : Nat} {x y : ET} (hx : x.Lies S) (hy : y.Lies S) (hb : S b) : (ET.mk op 0 0 ⟨#[]⟩ (some ⟨b, 0, none⟩) c [x, y]).Lies S := by
  unfold ET.Lies
  refine ⟨.inr ⟨b, 0, rfl, hb⟩, ?_⟩
  unfold ET.LiesL
  refine ⟨hx, ?_⟩
  unfold ET.LiesL
  exact ⟨hy, by unfold ET.LiesL; trivial⟩
/-- An expression in blocks from one on, apart from another one. -/
def Tz (A b : Nat) (w : World) (y : ET) : Prop := y.In w.heap.size w ∧ y.Lies (fun j => A ≤ j ∧ j ≠ b)
theorem Tz.tw {A b : Nat} {w : World} {y : ET} (h : Tz A b w y) : Tw A w y := ⟨h.1, h.2.mono fun k hk => hk.1⟩
theorem Tz.but {A b k : Nat} {w w' : World} {y : ET} (h : Tz A b w y) (hb : But k w w') (hk : k < A ∨ k = b ∨ w.heap.size ≤ k) : Tz A b w' y :=
  ⟨ET.In.up hb.size (ET.In.stay (fun j hj hl => hb.block j hl (by omega)) h.1 h.2), h.2⟩
theorem Tz.below {A b : Nat} {w w' : World} {y : ET} (h : Tz A b w y) (hb : Below w.heap.size w w') : Tz A b w' y :=
  ⟨ET.In.up hb.size (ET.In.stay (fun j hj hl => hb.block j hl) h.1 h.2), h.2⟩
/-- What a row's loop keeps. -/
def RowI (B g n d : Nat) (w : World) (b1 A f : Nat) (R : Rs Ex) (most : Nat) (wr : World) : Prop :=
  ∃ (k : Nat) (x : Ex) (l : List Tk) (y : ET), k ≤ f ∧ loopF k n most d x l = some R ∧ y.ex = x ∧ htX x ≤ 32 ∧ Tz A b1 wr y ∧ At 43 wr b1 y.cells ∧ At 43 wr w.heap.size [.int .u8 0, .int .u8 0, .int .u64 0, .string ⟨#[]⟩, .slice none 0 0] ∧ Rd B wr g l ∧ But g w wr ∧ A ≤ wr.heap.size ∧ b1 < wr.heap.size

set_option maxRecDepth 100000 in
set_option maxHeartbeats 6400000 in
theorem row_of (f : Nat) (hO : OperW f) (hR : ∀ k, k < f → RowW k) : RowW (f + 1) := by
  intro n d l R hn hn6 hd h B g w hr hB
  have hlt := hr.lt
  rw [rowF] at h
  cases hx : operF f d l with
  | none => rw [hx] at h; cases h
  | some Y =>
    rw [hx] at h
    have HC : Hid (∀ u, Below w.heap.size w u → Calls Tryz.prog 107 #[.pointer (some ⟨g, 0, none⟩), .int .i64 (d : Int)] u fun r w' => PostX B g u Y r w') := fun u hu => hO d l Y hd hx B g u (hr.below hu) (Nat.le_trans hB hu.size)
    have hh : Hid (∀ e r, some Y = some (.ok e r) → htX e ≤ 32) := fun e r hY => (read_ht f).2.2.1 d l e r (hx.trans hY)
    clear hx hr hO
    cases Y with
    | bad e q =>
      cases h
      clear hR hh
      go_enter Tryz.func71, Tryz.ntmps71
      go_wp2_with (first
        | ((with_reducible show wpList _ _ _ _ _ _); refine wpList_alloc_at (o := { dst := some 6, .. }) rfl 43 rfl [.int .u8 0, .int .u8 0, .int .u64 0, .string ⟨#[]⟩, .slice none 0 0] 5 z29 ?_; intro w1 hA1 hb1 hs1; clear hs1)
        | (go_at_call 107; refine (HC.out _ hb1).mono ?_; rintro r w2 ⟨hr, hb2⟩; unfold PanW at hr; subst hr))
      exact ⟨rfl, rfl, (But.of_below hb1).trans hb2⟩
    | ok x r =>
      have hh := hh.out x r rfl
      have HL : Hid (loopF f n 5 d x r = some R) := h
      have HW : Hid (∀ k, k < f → RowW k) := hR
      clear h hR
      go_enter Tryz.func71, Tryz.ntmps71
      go_wp2_with (first
        | ((with_reducible show wpList _ _ _ _ _ _); refine wpList_alloc_at (o := { dst := some 6, .. }) rfl 43 rfl [.int .u8 0, .int .u8 0, .int .u64 0, .string ⟨#[]⟩, .slice none 0 0] 5 z29 ?_; intro w1 hA1 hb1 hs1; clear hs1)
        | (go_at_call 107; refine (HC.out _ hb1).mono ?_; rintro _ w2 ⟨y, rfl, he, hT, hR2, hb2⟩)
        | ((with_reducible show wpList _ _ _ _ _ _); refine wpList_alloc_at (o := { dst := some 7, .. }) rfl 43 rfl [.int .u8 0, .int .u8 0, .int .u64 0, .string ⟨#[]⟩, .slice none 0 0] 5 z29 ?_; intro w3 hA3 hb3 hs3; clear hs3)
        | ((with_reducible show wpList _ _ _ _ _ _); refine wpList_store_at (P := Tryz.prog) rfl 43 (.tmp 7) (.tmp 15) rfl w2.heap.size y.cells rfl rfl 43 _ hA3 (i43 _) (len43 _) (ET.one _) ?_; intro w4 hA4 hb4 hs4; clear hs4; refine Hid.out ?_))
      refine hidU ?_
      have l1 := hA1.lt
      have l2 := hb2.size
      have l3 := hA3.lt
      have l4 := hb4.size
      have l0 := hb1.size
      have hT : Tz w1.heap.size w2.heap.size w2 y := ⟨hT.1, (ET.In.lies hT.1 hT.2).mono fun k hk => ⟨hk.1, by omega⟩⟩
      have HI : Hid (RowI B g n d w w2.heap.size w1.heap.size f R 5 w4) :=
        ⟨f, x, r, y, Nat.le_refl _, HL.out, he, hh, (hT.below hb3).but hb4 (.inr (.inl rfl)), hA4, hb4.at ((hb2.at hA1 (by omega)).below hb3) (by omega), (hR2.below hb3).but hb4 (by omega), (((But.of_below hb1).trans hb2).trans (But.of_below hb3)).fresh hb4 (by omega), by omega, by omega⟩
      clear hA1 hA3 hA4 hb1 hb2 hb3 hb4 hT hR2 HC he HL hh
      go_wp2_with fail
      go_loopw [8] (fun u wr => ∃ most : Nat, u = .int .i64 (most : Int) ∧ most ≤ 5 ∧ Hid (RowI B g n d w w2.heap.size w1.heap.size f R most wr)) (fun _ wr => tokLen wr g)
      case atStart => exact ⟨5, rfl, Nat.le_refl _, HI⟩
      case round =>
        obtain ⟨most, rfl, hm5, hX⟩ := hrel
        clear HI
        obtain ⟨k, x, l, y, hk, hL, he, hht, hT, hA7, hA6, hRd, hBw, hAs, hbs⟩ := hX.out
        clear hX
        cases k with
        | zero => simp [loopF] at hL
        | succ k =>
          rw [loopF] at hL
          have hN := next_any g l wr hRd
          have HB := fun w => binds_any ⟨(hdT l).text.toArray⟩ w
          have hlt2 := bind_le (hdT l).text
          have hop := bind_lt (hdT l).text
          have hlen := hRd.len
          have HT : Hid (∀ u, Rd B u g l → 1 ≤ (bindOf (hdT l).text).2 → Calls Tryz.prog 93 #[.pointer (some ⟨g, 0, none⟩)] u fun r w' => r = .returned (.tuple #[]) ∧ Rd B w' g l.tail ∧ But g u w') := fun u hu hn => take_any g l u hu (.inl (bind_nil hn))
          have htl : 1 ≤ (bindOf (hdT l).text).2 → l.tail.length < l.length := fun h => tail_lt (bind_nil h)
          generalize hdT l = t at *
          obtain ⟨K, T, p, b⟩ := t
          have hN : Calls Tryz.prog 92 #[.pointer (some ⟨g, 0, none⟩)] wr fun r w' => r = .returned (.agg (tok5 K ⟨T.toArray⟩ p (valT K) b).toArray) ∧ Below wr.heap.size wr w' := hN
          have HB : ∀ w, Calls Tryz.prog 108 #[.string ⟨T.toArray⟩] w fun r w' => r = .returned (.tuple #[.int .u8 ((bindOf T).1 : Int), .int .i64 ((bindOf T).2 : Int)]) ∧ w' = w := HB
          dsimp only at hL HT htl hlt2 hop
          generalize valT K = vt at *
          generalize (bindOf T).1 = op at *
          generalize (bindOf T).2 = t at *
          go_wp2_with (first
            | (go_at_call 92; refine hN.mono ?_; rintro r u2 ⟨rfl, hb2⟩)
            | ((with_reducible show wpList _ _ _ _ _ _); refine wpList_alloc_at (o := { dst := some 9, .. }) rfl 64 rfl (tok5 0 ⟨#[]⟩ 0 0 0) 5 z34 ?_; intro u3 hA3 hb3 hs3; clear hs3)
            | ((with_reducible show wpList _ _ _ _ _ _); refine wpList_store_at (P := Tryz.prog) rfl 64 (.tmp 9) (.tmp 17) rfl u2.heap.size (tok5 K ⟨T.toArray⟩ p vt b) rfl rfl 64 _ hA3 i34 rfl (one5T _ _ _ _ _) ?_; intro u4 hA4 hb4 hs4; clear hs4; refine Hid.out ?_))
          refine hidU ?_
          have l2' := hb2.size
          have l3' := hA3.lt
          have l4' := hb4.size
          have hA7 := hb4.at ((hA7.below hb2).below hb3) (by omega)
          have hA6 := hb4.at ((hA6.below hb2).below hb3) (by omega)
          have hT := hT.but (((But.of_below (g := g) hb2).trans (But.of_below hb3)).fresh hb4 (by omega)) (.inl (by omega))
          have hRd := ((hRd.below hb2).below hb3).but hb4 (by omega)
          have hBw : But g w u4 := (((hBw.trans (But.of_below hb2)).trans (But.of_below hb3))).fresh hb4 (by have := hBw.size; omega)
          clear hb2 hb3 hb4 hA3 hN
          obtain ⟨q0, q1, q2, q3, q4⟩ := tk5_cells hA4
          by_cases hc : t < n ∨ most < t
          · rw [if_pos hc] at hL
            obtain rfl := Option.some.inj hL
            clear hL HT HW htl
            by_cases hc1 : t < n
            · go_wp2_with (first
                | (go_at_call 108; refine (HB _).mono ?_; rintro r u ⟨rfl, rfl⟩)
                | ((with_reducible show wpList _ _ _ _ _ _); refine wpList_load_at (P := Tryz.prog) rfl 43 (.tmp 7) rfl w2.heap.size rfl 43 y.cells hA7 _ Tryz.underlying43 rfl (i43 _) ?_)
                | ((with_reducible show wpList _ _ _ _ _ _); refine wpList_store_at (P := Tryz.prog) rfl 43 (.tmp 6) (.tmp 32) rfl w.heap.size y.cells rfl rfl 43 _ hA6 (i43 _) (len43 _) (ET.one _) ?_; intro w9 hA9 hb9 hs9; clear hs9))
              refine bodyPost_ret (results_at rfl _ _ w.heap.size 43 y.cells _ rfl hA9 Tryz.underlying43 rfl (i43 _)) rfl ?_
              exact ⟨y, rfl, he, (hT.tw.but hb9 (.inl (by omega))).low (by omega), hRd.but hb9 hB, hBw.fresh hb9 (Nat.le_refl _)⟩
            · have hc2 : most < t := by omega
              go_wp2_with (first
                | (go_at_call 108; refine (HB _).mono ?_; rintro r u ⟨rfl, rfl⟩)
                | ((with_reducible show wpList _ _ _ _ _ _); refine wpList_load_at (P := Tryz.prog) rfl 43 (.tmp 7) rfl w2.heap.size rfl 43 y.cells hA7 _ Tryz.underlying43 rfl (i43 _) ?_)
                | ((with_reducible show wpList _ _ _ _ _ _); refine wpList_store_at (P := Tryz.prog) rfl 43 (.tmp 6) (.tmp 32) rfl w.heap.size y.cells rfl rfl 43 _ hA6 (i43 _) (len43 _) (ET.one _) ?_; intro w9 hA9 hb9 hs9; clear hs9))
              refine bodyPost_ret (results_at rfl _ _ w.heap.size 43 y.cells _ rfl hA9 Tryz.underlying43 rfl (i43 _)) rfl ?_
              exact ⟨y, rfl, he, (hT.tw.but hb9 (.inl (by omega))).low (by omega), hRd.but hb9 hB, hBw.fresh hb9 (Nat.le_refl _)⟩
          · rw [if_neg hc] at hL
            have t1 : n ≤ t := by omega
            have t2 : t ≤ most := by omega
            have hT93 := HT.out u4 hRd (by omega)
            have htl := htl (by omega)
            clear hc HT
            cases hx : rowF k (t + 1) d l.tail with
            | none => rw [hx] at hL; cases hL
            | some Y =>
              rw [hx] at hL
              have hleft := rowF_left (by omega) hx
              have hht2 : Hid (∀ e r, some Y = some (.ok e r) → htX e ≤ 32) := fun e r hY => (read_ht k).1 (t + 1) d l.tail e r (hx.trans hY)
              have HC : Hid (∀ u, Rd B u g l.tail → B ≤ u.heap.size → Calls Tryz.prog 71 #[.pointer (some ⟨g, 0, none⟩), .int .i64 ((t : Int) + 1), .int .i64 (d : Int)] u fun r w' => PostX B g u Y r w') := fun u hu hs => by
                have := HW.out k (by omega) (t + 1) d l.tail Y (by omega) (by omega) hd hx B g u hu hs
                rwa [show ((t + 1 : Nat) : Int) = (t : Int) + 1 by omega] at this
              clear hx
              have hBs := hBw.size
              cases Y with
              | bad e q =>
                cases hL
                clear HW hleft hht2
                go_wp2_with (first
                  | (go_at_call 108; refine (HB _).mono ?_; rintro r u ⟨rfl, rfl⟩)
                  | (go_at_call 93; refine hT93.mono ?_; rintro r u5 ⟨rfl, hR5, hb5⟩)
                  | (go_at_call 71; refine (HC.out _ hR5 (Nat.le_trans hB (Nat.le_trans hBs hb5.size))).mono ?_; rintro r u6 ⟨hr, hb6⟩; unfold PanW at hr; subst hr))
                exact ⟨rfl, rfl, (hBw.trans hb5).trans hb6⟩
              | ok x2 r2 =>
                dsimp only at hL
                have hleft : r2.length < l.tail.length := hleft
                have hh2 := hht2.out x2 r2 rfl
                clear hht2
                go_wp2_with (first
                  | (go_at_call 108; refine (HB _).mono ?_; rintro r u ⟨rfl, rfl⟩)
                  | (go_at_call 93; refine hT93.mono ?_; rintro r u5 ⟨rfl, hR5, hb5⟩)
                  | (go_at_call 71; refine (HC.out _ hR5 (Nat.le_trans hB (Nat.le_trans hBs hb5.size))).mono ?_; rintro _ u6 ⟨z, rfl, hez, hTz, hR6, hb6⟩)
                  | ((with_reducible show wpList _ _ _ _ _ _); refine wpList_alloc_at (o := { dst := some 12, .. }) rfl 43 rfl [.int .u8 0, .int .u8 0, .int .u64 0, .string ⟨#[]⟩, .slice none 0 0] 5 z29 ?_; intro u7 hA7' hb7' hs7; clear hs7)
                  | ((with_reducible show wpList _ _ _ _ _ _); refine wpList_store_at (P := Tryz.prog) rfl 43 (.tmp 12) (.tmp 39) rfl u6.heap.size z.cells rfl rfl 43 _ hA7' (i43 _) (len43 _) (ET.one _) ?_; intro u8 hA8 hb8 hs8; clear hs8; refine Hid.out ?_))
                refine hidU ?_
                have l5 := hb5.size
                have l6 := hb6.size
                have l7 := hA7'.lt
                have l8 := hb8.size
                have hA48 := hb8.at ((hb6.at (hb5.at hA4 (by omega)) (by omega)).below hb7') (by omega)
                have hA78 := hb8.at ((hb6.at (hb5.at hA7 (by omega)) (by omega)).below hb7') (by omega)
                have hA68 := hb8.at ((hb6.at (hb5.at hA6 (by omega)) (by omega)).below hb7') (by omega)
                have hT8 := (((hT.but hb5 (.inl (by omega))).but hb6 (.inl (by omega)))).but ((But.of_below (g := g) hb7').fresh hb8 (Nat.le_refl _)) (.inl (by omega))
                have hTz8 : Tw u5.heap.size u8 z := hTz.but ((But.of_below (g := g) hb7').fresh hb8 (Nat.le_refl _)) (.inl (by omega))
                have hR8 := (hR6.below hb7').but hb8 (by omega)
                have hB8 : But g w u8 := (((hBw.trans hb5).trans hb6).trans (But.of_below hb7')).fresh hb8 (by omega)
                clear q0 q1 q2 q3 q4 hb5 hb6 hb7' hb8 hA7' hT hTz hRd hR5 hR6 hBw hA4 hA6 hA7 hT93 HC
                obtain ⟨q0, q1, q2, q3, q4⟩ := tk5_cells hA48
                go_wp2_with (first
                  | ((with_reducible show wpList _ _ _ _ _ _); refine wpList_load_at (P := Tryz.prog) rfl 43 (.tmp 7) rfl w2.heap.size rfl 43 y.cells hA78 _ Tryz.underlying43 rfl (i43 _) ?_)
                  | ((with_reducible show wpList _ _ _ _ _ _); refine wpList_load_at (P := Tryz.prog) rfl 43 (.tmp 12) rfl u6.heap.size rfl 43 z.cells hA8 _ Tryz.underlying43 rfl (i43 _) ?_)
                  | ((with_reducible show wpList _ _ _ _ _ _); refine wpList_kid2 rfl (.tmp 43) (.tmp 44) rfl y z rfl rfl ?_; intro u9 hA9 hb9 hs9; clear hs9; refine Hid.out ?_))
                refine hidU ?_
                have l9 := hA9.lt
                have hTy9 := hT8.below hb9
                have hTz9 := hTz8.below hb9
                have hk9 := kid2_in (op := op) hA9 hTy9.tw (hTz9.low (by omega)) hop (by omega)
                have hkl : (ET.mk op 0 0 ⟨#[]⟩ (some ⟨u8.heap.size, 0, none⟩) 2 [y, z]).Lies (fun j => w1.heap.size ≤ j ∧ j ≠ w2.heap.size) := kid2_lies hTy9.2 (hTz9.2.mono fun j hj => ⟨by omega, by omega⟩) ⟨by omega, by omega⟩
                have ex : htX (ET.mk op 0 0 ⟨#[]⟩ (some ⟨u8.heap.size, 0, none⟩) 2 [y, z]).ex = htX (.mk op 0 0 [] [x, x2]) := by rw [← he, ← hez]; rfl
                have ex2 : (ET.mk op 0 0 ⟨#[]⟩ (some ⟨u8.heap.size, 0, none⟩) 2 [y, z]).ex = .mk op 0 0 [] [x, x2] := by rw [← he, ← hez]; rfl
                have hN := node_any p op (some ⟨u8.heap.size, 0, none⟩) 2 [y, z] u9 hk9.1 (by rw [ex]; simp only [htX, htL]; omega)
                rw [ex] at hN
                have hA79 := hA78.below hb9
                have hA69 := hA68.below hb9
                have hR9 := hR8.below hb9
                have hB9 : But g w u9 := hB8.trans (But.of_below hb9)
                clear hA78 hA68 hR8 hB8 hT8 hTz8 hTy9 hTz9 hA48 hb9 q0 q1 q2 q3 q4
                unfold nodeR at hL
                by_cases hhi : 32 < htX (.mk op 0 0 [] [x, x2])
                · rw [if_pos hhi] at hL
                  cases hL
                  go_wp2_with (first
                    | (go_at_call 109; refine hN.mono ?_; rintro r u10 ⟨hr, hb10⟩; rw [if_pos hhi] at hr; unfold PanW at hr; subst hr))
                  exact ⟨rfl, rfl, hB9.trans (But.of_below hb10)⟩
                · rw [if_neg hhi] at hL
                  dsimp only at hL
                  obtain ⟨N, hNd⟩ : ∃ N : ET, N = ET.mk op 0 0 ⟨#[]⟩ (some ⟨u8.heap.size, 0, none⟩) 2 [y, z] := ⟨_, rfl⟩
                  rw [← hNd] at hk9 hkl ex2 hN
                  clear hNd ex
                  go_wp2_with (first
                    | (go_at_call 109; refine hN.mono ?_; rintro r u10 ⟨hr, hb10⟩; rw [if_neg hhi] at hr; subst hr; have hA7a := hA79.below hb10)
                    | ((with_reducible show wpList _ _ _ _ _ _); refine wpList_store_at (P := Tryz.prog) rfl 43 (.tmp 7) (.tmp 46) rfl w2.heap.size N.cells rfl rfl 43 _ hA7a (i43 _) (len43' _ _) (ET.one _) ?_; intro u11 hA11 hb11 hs11; clear hs11; refine Hid.out ?_))
                  refine hidU ?_
                  have hTN : Tz w1.heap.size w2.heap.size u11 N := (Tz.below (w := u9) ⟨hk9.1, hkl⟩ hb10).but hb11 (.inr (.inl rfl))
                  have hA6b := hb11.at (hA69.below hb10) (by omega)
                  have l10 := hb10.size
                  have l11 := hb11.size
                  have hRb := (hR9.below hb10).but hb11 (by omega)
                  have hBb : But g w u11 := (hB9.trans (But.of_below hb10)).fresh hb11 (by omega)
                  have hlen2 := hRb.len
                  have HI2 : Hid (RowI B g n d w w2.heap.size w1.heap.size f R (mostOf t) u11) :=
                    ⟨k, _, r2, N, by omega, hL, ex2, by omega, hTN, hA11, hA6b, hRb, hBb, by omega, by omega⟩
                  clear hTN hA6b hRb hBb hA11 hb10 hb11 hA7a hA79 hA69 hR9 hB9 hk9 hkl hN hL
                  by_cases t3 : t = 3
                  · subst t3
                    go_wp2_with fail
                    go_roundw
                    case rel => exact ⟨2, by go_num, by omega, HI2⟩
                    case measure => rw [hlen2, hlen]; omega
                  · have e3 : mostOf t = t := by unfold mostOf; rw [if_neg t3]
                    rw [e3] at HI2
                    go_wp2_with fail
                    go_roundw
                    case rel => exact ⟨t, by go_num, by omega, HI2⟩
                    case measure => rw [hlen2, hlen]; omega

end Go.Proofs.YtjgggmjjikopeaaGreatDoor

/- An expression, and that nothing stands behind. -/
namespace Go.Proofs.YtjgggmjjikopeaaGreatDoor
open Go.RowKit
set_option linter.unusedVariables false

theorem zeroW : RowW 0 ∧ OperW 0 ∧ BrkW 0 :=
  ⟨fun n d l R _ _ _ h => by simp [rowF] at h, fun d l R _ h => by simp [operF] at h, fun d l R _ h => by simp [brkF] at h⟩
theorem readW (f : Nat) : ∀ k, k ≤ f → RowW k ∧ OperW k ∧ BrkW k := by
  induction f with
  | zero => intro k hk; obtain rfl : k = 0 := by omega
            exact zeroW
  | succ f ih =>
    intro k hk
    by_cases e : k = f + 1
    · subst e
      exact ⟨row_of f (ih f (Nat.le_refl _)).2.1 fun j hj => (ih j (by omega)).1, operand_of f (ih f (Nat.le_refl _)).2.1 (ih f (Nat.le_refl _)).2.2, bracket_of f (ih f (Nat.le_refl _)).1⟩
    · exact ih k (by omega)

/-- An expression. -/
theorem exprX_any (d : Nat) (l : List Tk) (R : Rs Ex) (hd : d ≤ 32) (h : ∃ f, rowF f 1 d l = some R) (B g : Nat) (w : World) (hr : Rd B w g l) (hB : B ≤ w.heap.size) :
    Calls Tryz.prog 38 #[.pointer (some ⟨g, 0, none⟩), .int .i64 (d : Int)] w fun r w' => PostX B g w R r w' := by
  obtain ⟨f, h⟩ := h
  exact expr_of f (readW f f (Nat.le_refl _)).1 d l R hd h B g w hr hB

/-- Nothing may stand behind. -/
def endR (l : List Tk) : Rs Unit := if 1 < l.length then .bad 4 (hdT l).place else .ok () l

set_option maxRecDepth 100000 in
set_option maxHeartbeats 3200000 in
theorem end_any {B : Nat} (g : Nat) (l : List Tk) (w : World) (h : Rd B w g l) :
    Calls Tryz.prog 27 #[.pointer (some ⟨g, 0, none⟩)] w fun r w' => PostU B g w (endR l) r w' := by
  obtain ⟨a, c, hc⟩ : ∃ a c, w.cell? ⟨g, 0, none⟩ = some (.slice a l.length c) := by
    obtain ⟨gt, o, c, h, _⟩ := h
    exact ⟨_, _, h.cell.cell 0⟩
  have hN := refuseNext_any g l w h
  have HR : Hid (Rd B w g l) := h
  have hlg := h.lt
  clear h
  by_cases hl : 1 < l.length
  · have e : endR l = .bad 4 (hdT l).place := by unfold endR; rw [if_pos hl]
    rw [e]
    generalize l.length = n at hc hl
    generalize (hdT l).place = p at hN ⊢
    go_enter Tryz.func27, Tryz.ntmps27
    go_wp2_with (first
      | (go_at_call 60; refine hN.mono ?_; rintro r w3 ⟨hr, hb3⟩; unfold PanW at hr; subst hr))
    exact ⟨rfl, rfl, But.of_below hb3⟩
  · have e : endR l = .ok () l := by unfold endR; rw [if_neg hl]
    rw [e]
    generalize hn : l.length = n at hc hl
    clear hn
    go_enter Tryz.func27, Tryz.ntmps27
    go_wp2
    go_end0
    exact ⟨rfl, HR.out, But.refl _ _⟩

end Go.Proofs.YtjgggmjjikopeaaGreatDoor

/- The reader of a text. -/
namespace Go.Proofs.YtjgggmjjikopeaaGreatDoor
open Go.RowKit
set_option linter.unusedVariables false

/-- What is known of each token. -/
def TkOk (t : Tk) : Prop := t.bits < 18446744073709551616 ∧ (t.kind = 2 ∨ t.kind = 3 → 48 ≤ (t.text.getD 0 0).toNat ∧ (t.text.getD 0 0).toNat ≤ 57)
theorem ahead_head (x : List UInt8) (h : 1 ≤ (aheadOf x).length) : (aheadOf x).getD 0 0 = x.getD 0 0 := by
  cases x with
  | nil => simp [aheadOf] at h
  | cons c r =>
    unfold aheadOf at h ⊢
    rw [List.takeWhile_cons] at h ⊢
    split at h
    · next hc => rw [if_pos hc]; rfl
    · simp at h
theorem tkOf_ok (K : Nat) (x : List UInt8) (p : Nat) (h : errOf K x = 0) : TkOk (tkOf K x p) := by
  unfold errOf at h
  unfold TkOk tkOf valB
  dsimp only
  by_cases k1 : K = 1
  · subst k1
    refine ⟨by rw [if_neg (by decide), if_neg (by decide)]; decide, fun q => by omega⟩
  rw [if_neg k1] at h
  by_cases k2 : K = 2
  · subst k2
    rw [if_pos rfl] at h ⊢
    by_cases hg : GoodDec x
    · exact ⟨by have := hg.2.2.2; omega, fun _ => hg.2.2.1 0 hg.1⟩
    · rw [if_neg hg] at h
      omega
  rw [if_neg k2] at h ⊢
  by_cases k3 : K = 3
  · subst k3
    rw [if_pos rfl] at h ⊢
    by_cases hg : IsLit x
    · refine ⟨quo_lt _ _, fun _ => ?_⟩
      rw [← ahead_head x hg.2.2.2.1.1]
      exact hg.2.2.2.1.2.2.1 0 hg.2.2.2.1.1
    · rw [if_neg hg] at h
      omega
  rw [if_neg k3]
  exact ⟨by decide, fun q => by omega⟩
theorem ahead_ok {a : List Tk} {r : Out} (ha : ∀ t ∈ a, TkOk t) (hr : ∀ t ∈ r.toks, TkOk t) : ∀ t ∈ (r.ahead a).toks, TkOk t := by
  unfold Out.ahead
  split
  · intro t ht
    rcases List.mem_append.1 ht with h | h
    · exact ha t h
    · exact hr t h
  · exact hr
theorem ahead_len {t : Tk} {r : Out} {n : Nat} (hr : r.toks.length ≤ n) : (r.ahead [t]).toks.length ≤ n + 1 := by
  unfold Out.ahead
  split
  · simp; omega
  · omega
theorem lexA_ok (l : List UInt8) (f : Nat) : ∀ p, (∀ t ∈ (lexA l f p).toks, TkOk t) ∧ (lexA l f p).toks.length ≤ f := by
  induction f with
  | zero => intro p; exact ⟨fun t ht => by simp [lexA] at ht, by simp [lexA]⟩
  | succ f ih =>
    intro p
    rw [lexA]
    dsimp only
    split
    · exact ⟨fun t ht => by simp at ht, by simp⟩
    · split
      · exact ⟨fun t ht => by simp at ht, by simp⟩
      · next he =>
        split
        · exact ⟨fun t ht => by simp at ht, by simp⟩
        · refine ⟨ahead_ok (fun t ht => ?_) (ih _).1, ahead_len (ih _).2⟩
          rw [List.mem_singleton.1 ht]
          exact tkOf_ok _ _ _ (by simpa using he)
theorem lexS_ok (l : List UInt8) : (∀ t ∈ (lexS l).toks, TkOk t) ∧ (lexS l).toks.length ≤ 16385 := by
  unfold lexS
  split
  · exact ⟨fun t ht => by simp at ht, by simp⟩
  · exact ⟨(lexA_ok l _ _).1, by have := (lexA_ok l (l.length + 1) (skN l)).2; omega⟩

/-- The tokens of a text, and the one behind them. -/
def toksOf (l : List UInt8) : List Tk := (lexS l).toks ++ [⟨0, [], l.length, 0⟩]
/-- What 'open' tells. -/
def PostO (w : World) (l : List UInt8) (r : Ending) (w' : World) : Prop :=
  if (lexS l).err = 0 then ∃ g, r = .returned (.pointer (some ⟨g, 0, none⟩)) ∧ Rd w'.heap.size w' g (toksOf l) ∧ w.heap.size ≤ g ∧ Below w.heap.size w w'
  else r = PanW (lexS l).err (lexS l).place ∧ Below w.heap.size w w'

theorem flat_range {w : World} {g : Nat} {L : List Tk} (h : ∀ i t, L[i]? = some t → w.rangeAt g (i * 5) t.cells) : w.rangeAt g 0 (flat L) := by
  intro j v hj
  have hjl : j < L.length * 5 := by rw [← flat_length]; exact (List.getElem?_eq_some_iff.1 hj).1
  obtain ⟨t, ht⟩ : ∃ t, L[j / 5]? = some t := ⟨L[j / 5]'(by omega), by rw [List.getElem?_eq_getElem]⟩
  have e := flat_at L (j / 5) t ht
  have := h (j / 5) t ht (j % 5) v (by
    rw [← e, List.getElem?_take, if_pos (by omega), List.getElem?_drop, show j / 5 * 5 + j % 5 = j by omega]
    exact hj)
  rwa [show j / 5 * 5 + j % 5 = 0 + j by omega] at this

theorem fa_cells {w : World} {g e p : Nat} (h : At 29 w g (fa2 e p)) : w.cell? ⟨g, 0, none⟩ = some (.int .i64 (e : Int)) ∧ w.cell? ⟨g, 1, none⟩ = some (.int .i64 (p : Int)) := by
  refine ⟨?_, ?_⟩ <;> (rw [h.cell]; rfl)

set_option maxRecDepth 100000 in
set_option maxHeartbeats 6400000 in
theorem open_any (s : ByteArray) (w : World) (hmax : s.size ≤ 9223372036854775807) (hE : ErrR w) :
    Calls Tryz.prog 25 #[.string s] w fun r w' => PostO w (bytes s) r w' := by
  have hL := lex_any s w hmax hE
  have hok := lexS_ok (bytes s)
  have hsz : (bytes s).length = s.size := bytes_length s
  have HP : Hid (∀ r w', PostO w (bytes s) r w' = if (lexS (bytes s)).err = 0 then ∃ g, r = .returned (.pointer (some ⟨g, 0, none⟩)) ∧ Rd w'.heap.size w' g ((lexS (bytes s)).toks ++ [⟨0, [], s.size, 0⟩]) ∧ w.heap.size ≤ g ∧ Below w.heap.size w w' else r = PanW (lexS (bytes s)).err (lexS (bytes s)).place ∧ Below w.heap.size w w') := fun r w' => by
    unfold PostO toksOf
    rw [hsz]
  unfold LexPost at hL
  generalize lexS (bytes s) = O at *
  obtain ⟨ts, er, pl⟩ := O
  dsimp only at hL HP hok
  by_cases hc : er = 0
  · subst hc
    refine Calls.mono (R := fun r w' => ∃ g, r = .returned (.pointer (some ⟨g, 0, none⟩)) ∧ Rd w'.heap.size w' g (ts ++ [⟨0, [], s.size, 0⟩]) ∧ w.heap.size ≤ g ∧ Below w.heap.size w w') ?_ (fun r w' h => by rw [HP.out, if_pos rfl]; exact h)
    clear HP
    go_enter Tryz.func25, Tryz.ntmps25
    go_wp2_with (first
      | (go_at_call 22; refine hL.mono ?_; rintro r w1 ⟨v, rfl, hTk, hb1⟩)
      | ((with_reducible show wpList _ _ _ _ _ _); refine wpList_alloc_at (o := { dst := some 4, .. }) rfl 29 rfl (fa2 0 0) 2 z25 ?_; intro w2 hA2 hb2 hs2; clear hs2)
      | ((with_reducible show wpList _ _ _ _ _ _); refine wpList_store_at (P := Tryz.prog) rfl 29 (.tmp 4) (.tmp 9) rfl w1.heap.size (fa2 0 pl) rfl rfl 29 _ hA2 i25 rfl (one2f _ _) ?_; intro w3 hA3 hb3 hs3; clear hs3; refine Hid.out ?_))
    refine hidU ?_
    have l1 := hb1.size
    have l2 := hb2.size
    have l3 := hb3.size
    have hB3 : Below w.heap.size w w3 := hb3.below (hb1.trans (hb2.mono hb1.size)) hb1.size (Nat.le_trans hb1.size hb2.size)
    obtain ⟨c0, c1⟩ := fa_cells hA3
    have hTk3 : Toks w.heap.size w3 v ts := hTk.keep fun g _ hlt => by rw [hb3.block g (by omega) (by omega), hb2.block g hlt]
    clear hL hTk hA2 hb1 hb2 hb3 hA3
    go_wp2_with (first
      | ((with_reducible show wpList _ _ _ _ _ _); refine wpList_build_at rfl 64 _ rfl (tok5 0 ⟨#[]⟩ s.size 0 0) (by kernel_rfl) ?_)
      | ((with_reducible show wpList _ _ _ _ _ _); refine wpList_slice1 rfl (.tmp 21) rfl 0 ⟨#[]⟩ s.size 0 0 rfl ?_; intro w4 hA4 hb4 hs4; clear hs4)
      | ((with_reducible show wpList _ _ _ _ _ _); refine wpList_appT rfl (.tmp 18) (.tmp 22) rfl w.heap.size w3.heap.size v ts ⟨0, [], s.size, 0⟩ rfl rfl (hTk3.below hb4) hA4 (by omega) (Nat.le_trans hB3.size hb4.size) ?_; intro v5 w5 hTk5 hb5; refine Hid.out ?_))
    refine hidU ?_
    rcases hTk5.open with ⟨_, h0⟩ | ⟨gt, cap, rfl, g1, g2, g3, g4, g5, g6⟩
    · simp at h0
    have hB5 : Below w.heap.size w w5 := (hB3.trans (hb4.mono hB3.size)).trans hb5
    have HR : Hid (∀ w6, At 97 w6 w5.heap.size [.slice (some ⟨gt, 0, none⟩) (ts ++ [(⟨0, [], s.size, 0⟩ : Tk)]).length cap] → Below w5.heap.size w5 w6 → Rd w6.heap.size w6 w5.heap.size (ts ++ [⟨0, [], s.size, 0⟩])) := fun w6 h1 h2 =>
      ⟨gt, 0, cap, ⟨h1, by omega, g3, fun j v hj => by rw [World.cell?_of_block (w := w5) (h2.block gt g2)]; exact flat_range g5 j v hj, ⟨ts, s.size, rfl⟩, fun t ht => by
        rcases List.mem_append.1 ht with q | q
        · exact (hok.1 t q).1
        · rw [List.mem_singleton.1 q]
          exact (by omega : 0 < 18446744073709551616)⟩, Nat.lt_of_lt_of_le g2 h2.size, h1.lt⟩
    generalize (ts ++ [(⟨0, [], s.size, 0⟩ : Tk)]).length = n at *
    clear hTk5 hTk3 hb4 hb5 hA4 g5 g6 hB3
    go_wp2_with (first
      | ((with_reducible show wpList _ _ _ _ _ _); refine wpList_build_at rfl 97 _ rfl [.slice (some ⟨gt, 0, none⟩) n cap] (by kernel_rfl) ?_)
      | ((with_reducible show wpList _ _ _ _ _ _); refine wpList_box_at rfl 97 (.tmp 24) rfl [.slice (some ⟨gt, 0, none⟩) n cap] rfl ?_; intro w6 hA6 hb6 hs6; clear hs6))
    go_ret
    exact ⟨w5.heap.size, rfl, HR.out w6 hA6 hb6, hB5.size, hB5.trans (hb6.mono hB5.size)⟩
  · refine Calls.mono (R := fun r w' => r = PanW er pl ∧ Below w.heap.size w w') ?_ (fun r w' h => by rw [HP.out, if_neg hc]; exact h)
    clear HP
    go_enter Tryz.func25, Tryz.ntmps25
    go_wp2_with (first
      | (go_at_call 22; refine hL.mono ?_; rintro r w1 ⟨v, rfl, hTk, hb1⟩)
      | ((with_reducible show wpList _ _ _ _ _ _); refine wpList_alloc_at (o := { dst := some 4, .. }) rfl 29 rfl (fa2 0 0) 2 z25 ?_; intro w2 hA2 hb2 hs2; clear hs2)
      | ((with_reducible show wpList _ _ _ _ _ _); refine wpList_store_at (P := Tryz.prog) rfl 29 (.tmp 4) (.tmp 9) rfl w1.heap.size (fa2 er pl) rfl rfl 29 _ hA2 i25 rfl (one2f _ _) ?_; intro w3 hA3 hb3 hs3; clear hs3; refine Hid.out ?_))
    refine hidU ?_
    have hB3 : Below w.heap.size w w3 := hb3.below (hb1.trans (hb2.mono hb1.size)) hb1.size (Nat.le_trans hb1.size hb2.size)
    obtain ⟨c0, c1⟩ := fa_cells hA3
    clear hL hTk hA2 hb1 hb2 hb3
    go_wp2_with (first
      | (go_at_call 54; refine (refuse_any er pl _).mono ?_; rintro r u ⟨hr, rfl⟩; unfold PanW at hr; subst hr))
    exact ⟨rfl, rfl, hB3⟩

end Go.Proofs.YtjgggmjjikopeaaGreatDoor

/- What is told of a fault. -/
namespace Go.Proofs.YtjgggmjjikopeaaGreatDoor
open Go.RowKit
set_option linter.unusedVariables false

set_option maxRecDepth 100000 in
set_option maxHeartbeats 3200000 in
theorem faultOf_nil (w : World) : Calls Tryz.prog 24 #[.nilIface] w fun r w' => r = .returned (.agg (fa2 0 0).toArray) ∧ Below w.heap.size w w' := by
  go_enter Tryz.func24, Tryz.ntmps24
  go_wp2_with (first
    | ((with_reducible show wpList _ _ _ _ _ _); refine wpList_alloc_at (o := { dst := some 2, .. }) rfl 29 rfl (fa2 0 0) 2 z25 ?_; intro w1 hA1 hb1 hs1; clear hs1)
    | ((with_reducible show wpList _ _ _ _ _ _); refine wpList_build_at rfl 29 _ rfl (fa2 0 0) (by kernel_rfl) ?_)
    | ((with_reducible show wpList _ _ _ _ _ _); refine wpList_store_at (P := Tryz.prog) rfl 29 (.tmp 2) (.tmp 5) rfl w.heap.size (fa2 0 0) rfl rfl 29 _ hA1 i25 rfl (one2f _ _) ?_; intro w9 hA9 hb9 hs9))
  refine bodyPost_ret (results_at rfl _ _ w.heap.size 29 (fa2 0 0) _ rfl hA9 Tryz.underlying29 rfl i25) rfl ?_
  exact ⟨rfl, hb9.below hb1 (Nat.le_refl _) hb1.size⟩

set_option maxRecDepth 100000 in
set_option maxHeartbeats 3200000 in
theorem assert_fault (e p : Int) (w : World) : (Instr.typeAssert (.iface 29 (.agg #[.int .i64 e, .int .i64 p])) 20 29 false).run Tryz.prog w = .ok (.agg #[.int .i64 e, .int .i64 p]) w := by kernel_rfl

set_option maxRecDepth 100000 in
set_option maxHeartbeats 3200000 in
theorem faultOf_some (e p : Nat) (w : World) : Calls Tryz.prog 24 #[.iface 29 (.agg #[.int .i64 (e : Int), .int .i64 (p : Int)])] w fun r w' => r = .returned (.agg (fa2 e p).toArray) ∧ Below w.heap.size w w' := by
  have ha := fun w => assert_fault e p w
  go_enter Tryz.func24, Tryz.ntmps24
  go_wp2_with (first
    | ((with_reducible show wpList _ _ _ _ _ _); refine wpList_alloc_at (o := { dst := some 2, .. }) rfl 29 rfl (fa2 0 0) 2 z25 ?_; intro w1 hA1 hb1 hs1; clear hs1)
    | ((with_reducible show wpList _ _ _ _ _ _); refine wpList_store_at (P := Tryz.prog) rfl 29 (.tmp 2) (.tmp 7) rfl w.heap.size (fa2 e p) rfl rfl 29 _ hA1 i25 rfl (one2f _ _) ?_; intro w9 hA9 hb9 hs9))
  refine bodyPost_ret (results_at rfl _ _ w.heap.size 29 (fa2 e p) _ rfl hA9 Tryz.underlying29 rfl i25) rfl ?_
  exact ⟨rfl, hb9.below hb1 (Nat.le_refl _) hb1.size⟩

set_option maxRecDepth 100000 in
set_option maxHeartbeats 3200000 in
theorem caught_some (b e p : Nat) (older : List PanicEntry) (w : World) (x y : Nat) (hA : At 29 w b (fa2 x y)) :
    CallsD Tryz.prog 37 #[.pointer (some ⟨b, 0, none⟩)] (.panicking ({ v := .iface 29 (.agg #[.int .i64 (e : Int), .int .i64 (p : Int)]), recovered := false } :: older)) w fun r u' w' =>
      r = .returned (.tuple #[]) ∧ u' = .panicking ({ v := .iface 29 (.agg #[.int .i64 (e : Int), .int .i64 (p : Int)]), recovered := true } :: older) ∧ At 29 w' b (fa2 e p) ∧ But b w w' := by
  refine callsD_of_wpS Tryz.func37 rfl fun c₀ cs hu => ?_
  apply wpS_region
  simp [wpOpsS, go_sem, recoverD, hu, Tryz.ntmps37]
  refine (faultOf_some e p w).mono ?_
  rintro r w1 ⟨rfl, hb1⟩
  have hA1 := hA.below hb1
  have z0 := hA1.frozen 0
  have z1 := hA1.frozen 1
  obtain ⟨c0, c1⟩ := fa_cells hA1
  have hA2 : At 29 ((w1.setCell ⟨b, 0, none⟩ (.int .i64 (e : Int))).setCell ⟨b, 1, none⟩ (.int .i64 (p : Int))) b (fa2 e p) := (hA1.set 0 _).set 1 _
  have hB2 : But b w ((w1.setCell ⟨b, 0, none⟩ (.int .i64 (e : Int))).setCell ⟨b, 1, none⟩ (.int .i64 (p : Int))) := ((But.of_below hb1).setCell 0 _).setCell 1 _
  simp [fa2, go_sem, c0, c1, z0, z1, bodyPostS, results, Tryz.results37]
  exact ⟨hA2, hB2⟩

set_option maxRecDepth 100000 in
set_option maxHeartbeats 3200000 in
theorem caught_nil (b : Nat) (w : World) (x y : Nat) (hA : At 29 w b (fa2 x y)) :
    CallsD Tryz.prog 37 #[.pointer (some ⟨b, 0, none⟩)] .returning w fun r u' w' => r = .returned (.tuple #[]) ∧ u' = .returning ∧ At 29 w' b (fa2 0 0) ∧ But b w w' := by
  refine callsD_of_wpS Tryz.func37 rfl fun c₀ cs hu => ?_
  apply wpS_region
  simp [wpOpsS, go_sem, recoverD, hu, Tryz.ntmps37]
  refine (faultOf_nil w).mono ?_
  rintro r w1 ⟨rfl, hb1⟩
  have hA1 := hA.below hb1
  have z0 := hA1.frozen 0
  have z1 := hA1.frozen 1
  obtain ⟨c0, c1⟩ := fa_cells hA1
  have hA2 : At 29 ((w1.setCell ⟨b, 0, none⟩ (.int .i64 0)).setCell ⟨b, 1, none⟩ (.int .i64 0)) b (fa2 0 0) := (hA1.set 0 _).set 1 _
  have hB2 : But b w ((w1.setCell ⟨b, 0, none⟩ (.int .i64 0)).setCell ⟨b, 1, none⟩ (.int .i64 0)) := ((But.of_below hb1).setCell 0 _).setCell 1 _
  cases c₀
  simp_all [fa2, go_sem, bodyPostS, results, Tryz.results37]

end Go.Proofs.YtjgggmjjikopeaaGreatDoor

/- parse.Expr. -/
namespace Go.Proofs.YtjgggmjjikopeaaGreatDoor
open Go.RowKit
set_option linter.unusedVariables false

/-- No expression. -/
def noX : ET := .mk 0 0 0 ⟨#[]⟩ none 0 []
/-- What a text's expression is, and its fault. -/
def exO (l : List UInt8) (R : Rs Ex) : Ex × Nat × Nat :=
  if (lexS l).err = 0 then match R with
    | .bad e p => (noX.ex, e, p)
    | .ok x r => match endR r with
      | .bad e p => (noX.ex, e, p)
      | .ok _ _ => (x, 0, 0)
  else (noX.ex, (lexS l).err, (lexS l).place)
/-- What parse.Expr tells. -/
def PostP (w : World) (o : Ex × Nat × Nat) (r : Ending) (w' : World) : Prop :=
  ∃ y : ET, r = .returned (.tuple #[.agg y.cells.toArray, .agg (fa2 o.2.1 o.2.2).toArray]) ∧ y.ex = o.1 ∧ Tw w.heap.size w' y ∧ Below w.heap.size w w'
theorem results_two {P : Program} {fn : Func} {p q : Tmp} {ty tz : TypeId} (h : fn.results = #[.cell p ty, .cell q tz]) (tmps : Array Value) (w : World) (g k : Nat) (t u : TypeId) (cs ds : List Value) (d e : TypeDesc)
    (hp : tmps.getD p undef = .pointer (some ⟨g, 0, none⟩)) (hq : tmps.getD q undef = .pointer (some ⟨k, 0, none⟩)) (hg : At t w g cs) (hk : At u w k ds)
    (hu : P.underlying ty = some d) (hd : (match d with | .struct _ | .array _ _ => true | _ => false) = true) (hi : (P.info? ty).map (·.size) = some cs.length)
    (hv : P.underlying tz = some e) (he : (match e with | .struct _ | .array _ _ => true | _ => false) = true) (hj : (P.info? tz).map (·.size) = some ds.length) :
    (results fn tmps).run P w = .ok (.tuple #[.agg cs.toArray, .agg ds.toArray]) w := by
  have hp' : tmps[p]?.getD undef = .pointer (some ⟨g, 0, none⟩) := by simpa using hp
  have hq' : tmps[q]?.getD undef = .pointer (some ⟨k, 0, none⟩) := by simpa using hq
  have hl := run_loadVar_row (P := P) w g t ty cs.toArray (0, 0) d hg hu hd (by simpa using hi)
  have hm := run_loadVar_row (P := P) w k u tz ds.toArray (0, 0) e hk hv he (by simpa using hj)
  simp [results, h, hp', hq', asAddr, hl, hm]
theorem noX_tw (A : Nat) (w : World) : Tw A w noX := leaf_tr A w 0 0 0 ⟨#[]⟩ (by decide) (by decide) (by decide)

set_option maxRecDepth 100000 in
set_option maxHeartbeats 6400000 in
theorem parseExpr_any (s : ByteArray) (w : World) (hmax : s.size ≤ 9223372036854775807) (hE : ErrR w) (R : Rs Ex) (hR : ∃ f, rowF f 1 0 (toksOf (bytes s)) = some R) :
    Calls Tryz.prog 13 #[.string s] w fun r w' => PostP w (exO (bytes s) R) r w' := by
  have HO : Hid (∀ u, Below w.heap.size w u → Calls Tryz.prog 25 #[.string s] u fun r w' => PostO u (bytes s) r w') := fun u hu => open_any s u hmax (hE.below hu)
  have hmf : ∀ (fn : Fn) (first cap : Array Value) (w : World), (Instr.makeFunc fn first cap).run Tryz.prog w = .ok (.func fn first cap) w := fun _ _ _ _ => rfl
  unfold PostO at HO
  unfold exO
  by_cases hc : (lexS (bytes s)).err = 0
  · rw [if_pos hc]
    simp only [if_pos hc] at HO
    have HX : Hid (∀ (g : Nat) (u : World), Rd u.heap.size u g (toksOf (bytes s)) → Calls Tryz.prog 38 #[.pointer (some ⟨g, 0, none⟩), .int .i64 0] u fun r w' => PostX u.heap.size g u R r w') := fun g u hu => exprX_any 0 _ R (by omega) hR u.heap.size g u hu (Nat.le_refl _)
    clear hR hc hE
    cases R with
    | bad e p =>
      go_enter_defers Tryz.func13, Tryz.ntmps13
      go_wp2_with (first
        | ((with_reducible show wpList _ _ _ _ _ _); refine wpList_alloc_at (o := { dst := some 2, .. }) rfl 43 rfl [.int .u8 0, .int .u8 0, .int .u64 0, .string ⟨#[]⟩, .slice none 0 0] 5 z29 ?_; intro w1 hA1 hb1 hs1; clear hs1)
        | ((with_reducible show wpList _ _ _ _ _ _); refine wpList_alloc_at (o := { dst := some 3, .. }) rfl 29 rfl (fa2 0 0) 2 z25 ?_; intro w2 hA2 hb2 hs2; clear hs2)
        | (go_at_call 25; refine (HO.out _ (hb1.trans (hb2.mono hb1.size))).mono ?_; rintro _ w3 ⟨g, rfl, hRd, hg, hb3⟩)
        | (go_at_call 38; refine (HX.out g _ hRd).mono ?_; rintro r w4 ⟨hr, hb4⟩; unfold PanW at hr; subst hr))
      have l1 := hA1.lt
      have l2 := hA2.lt
      have l3 := hb3.size
      have l4 := hb4.size
      have hB4 : Below w.heap.size w w4 := hb4.below ((hb1.trans (hb2.mono hb1.size)).trans (hb3.mono (by omega))) (by omega) (by omega)
      refine leaves_cons (f := 37) (args := #[.pointer (some ⟨w1.heap.size, 0, none⟩)]) (by simp) (by simp [go_sem]) ?_
      refine (caught_some w1.heap.size e p [] w4 0 0 (hb4.at (hA2.below hb3) (by omega))).mono ?_
      rintro _ u' w9 ⟨rfl, rfl, hA9, hb9⟩
      have hA19 : At 43 w9 w.heap.size noX.cells := hb9.at (hb4.at ((hA1.below hb2).below hb3) (by omega)) (by omega)
      have hB9 : Below w.heap.size w w9 := hb9.below hB4 (by omega) hB4.size
      have hres := results_two (P := Tryz.prog) (fn := Tryz.f13) (p := 2) (q := 3) (ty := 43) (tz := 29) rfl #[.string s, undef, .pointer (some ⟨w.heap.size, 0, none⟩), .pointer (some ⟨w1.heap.size, 0, none⟩), .pointer (some ⟨g, 0, none⟩), undef, .func (.func 37) #[] #[.pointer (some ⟨w1.heap.size, 0, none⟩)], .string s, .pointer (some ⟨g, 0, none⟩), .pointer (some ⟨g, 0, none⟩), undef, undef, undef, undef, undef] w9 w.heap.size w1.heap.size 43 29 noX.cells (fa2 e p) _ _ rfl rfl hA19 hA9 Tryz.underlying43 rfl (i43 _) Tryz.underlying29 rfl i25
      exact ⟨_, hres, noX, rfl, rfl, noX_tw _ _, hB9⟩
    | ok x r =>
      have HE : Hid (∀ (B g : Nat) (u : World), Rd B u g r → Calls Tryz.prog 27 #[.pointer (some ⟨g, 0, none⟩)] u fun q w' => PostU B g u (endR r) q w') := fun B g u hu => end_any g r u hu
      dsimp only
      cases hn : endR r with
      | bad e p =>
        rw [hn] at HE
        dsimp only
        go_enter_defers Tryz.func13, Tryz.ntmps13
        go_wp2_with (first
          | ((with_reducible show wpList _ _ _ _ _ _); refine wpList_alloc_at (o := { dst := some 2, .. }) rfl 43 rfl [.int .u8 0, .int .u8 0, .int .u64 0, .string ⟨#[]⟩, .slice none 0 0] 5 z29 ?_; intro w1 hA1 hb1 hs1; clear hs1)
          | ((with_reducible show wpList _ _ _ _ _ _); refine wpList_alloc_at (o := { dst := some 3, .. }) rfl 29 rfl (fa2 0 0) 2 z25 ?_; intro w2 hA2 hb2 hs2; clear hs2)
          | (go_at_call 25; refine (HO.out _ (hb1.trans (hb2.mono hb1.size))).mono ?_; rintro _ w3 ⟨g, rfl, hRd, hg, hb3⟩)
          | (go_at_call 38; refine (HX.out g _ hRd).mono ?_; rintro _ w4 ⟨y, rfl, he, hT, hR4, hb4⟩)
          | ((with_reducible show wpList _ _ _ _ _ _); refine wpList_alloc_at (o := { dst := some 5, .. }) rfl 43 rfl [.int .u8 0, .int .u8 0, .int .u64 0, .string ⟨#[]⟩, .slice none 0 0] 5 z29 ?_; intro w5 hA5 hb5 hs5; clear hs5)
          | ((with_reducible show wpList _ _ _ _ _ _); refine wpList_store_at (P := Tryz.prog) rfl 43 (.tmp 5) (.tmp 10) rfl w4.heap.size y.cells rfl rfl 43 _ hA5 (i43 _) (len43 _) (ET.one _) ?_; intro w6 hA6 hb6 hs6; clear hs6; refine Hid.out ?_))
        refine hidU ?_
        have l1 := hA1.lt
        have l2 := hA2.lt
        have l3 := hb3.size
        have l4 := hb4.size
        have l5 := hA5.lt
        have l6 := hb6.size
        have hB4 : Below w.heap.size w w4 := hb4.below ((hb1.trans (hb2.mono hb1.size)).trans (hb3.mono (by omega))) (by omega) (by omega)
        have hB6 : Below w.heap.size w w6 := hb6.below (hB4.trans (hb5.mono hB4.size)) (by omega) (by omega)
        have hA26 := hb6.at ((hb4.at (hA2.below hb3) (by omega)).below hb5) (by omega)
        have hA16 := hb6.at ((hb4.at ((hA1.below hb2).below hb3) (by omega)).below hb5) (by omega)
        have lg := hRd.lt
        have hT6 : Tz w3.heap.size g w6 y := Tz.but (w := w4) ⟨hT.1, hT.2.mono fun k hk => ⟨hk, by omega⟩⟩ ((But.of_below (g := g) hb5).fresh hb6 (Nat.le_refl _)) (.inr (.inl rfl))
        have hR6 := (hR4.below hb5).but hb6 (by omega)
        clear hA1 hA2 hA5 hb1 hb2 hb3 hb4 hb5 hb6 hT hR4 hRd
        go_wp2_with (first
          | (go_at_call 27; refine (HE.out _ g _ hR6).mono ?_; rintro q w7 ⟨hq, hb7⟩; unfold PanW at hq; subst hq))
        have hB7 : Below w.heap.size w w7 := hb7.below hB6 (by omega) hB6.size
        refine leaves_cons (f := 37) (args := #[.pointer (some ⟨w1.heap.size, 0, none⟩)]) (by simp) (by simp [go_sem]) ?_
        refine (caught_some w1.heap.size e p [] w7 0 0 (hb7.at hA26 (by omega))).mono ?_
        rintro _ u' w9 ⟨rfl, rfl, hA9, hb9⟩
        have hA19 : At 43 w9 w.heap.size noX.cells := hb9.at (hb7.at hA16 (by omega)) (by omega)
        have hB9 : Below w.heap.size w w9 := hb9.below hB7 (by omega) hB7.size
        have hres := results_two (P := Tryz.prog) (fn := Tryz.f13) (p := 2) (q := 3) (ty := 43) (tz := 29) rfl #[.string s, undef, .pointer (some ⟨w.heap.size, 0, none⟩), .pointer (some ⟨w1.heap.size, 0, none⟩), .pointer (some ⟨g, 0, none⟩), .pointer (some ⟨w4.heap.size, 0, none⟩), .func (.func 37) #[] #[.pointer (some ⟨w1.heap.size, 0, none⟩)], .string s, .pointer (some ⟨g, 0, none⟩), .pointer (some ⟨g, 0, none⟩), .agg y.cells.toArray, .pointer (some ⟨g, 0, none⟩), undef, undef, undef] w9 w.heap.size w1.heap.size 43 29 noX.cells (fa2 e p) _ _ rfl rfl hA19 hA9 Tryz.underlying43 rfl (i43 _) Tryz.underlying29 rfl i25
        exact ⟨_, hres, noX, rfl, rfl, noX_tw _ _, hB9⟩
      | ok u1 r1 =>
        rw [hn] at HE
        dsimp only
        go_enter_defers Tryz.func13, Tryz.ntmps13
        go_wp2_with (first
          | ((with_reducible show wpList _ _ _ _ _ _); refine wpList_alloc_at (o := { dst := some 2, .. }) rfl 43 rfl [.int .u8 0, .int .u8 0, .int .u64 0, .string ⟨#[]⟩, .slice none 0 0] 5 z29 ?_; intro w1 hA1 hb1 hs1; clear hs1)
          | ((with_reducible show wpList _ _ _ _ _ _); refine wpList_alloc_at (o := { dst := some 3, .. }) rfl 29 rfl (fa2 0 0) 2 z25 ?_; intro w2 hA2 hb2 hs2; clear hs2)
          | (go_at_call 25; refine (HO.out _ (hb1.trans (hb2.mono hb1.size))).mono ?_; rintro _ w3 ⟨g, rfl, hRd, hg, hb3⟩)
          | (go_at_call 38; refine (HX.out g _ hRd).mono ?_; rintro _ w4 ⟨y, rfl, he, hT, hR4, hb4⟩)
          | ((with_reducible show wpList _ _ _ _ _ _); refine wpList_alloc_at (o := { dst := some 5, .. }) rfl 43 rfl [.int .u8 0, .int .u8 0, .int .u64 0, .string ⟨#[]⟩, .slice none 0 0] 5 z29 ?_; intro w5 hA5 hb5 hs5; clear hs5)
          | ((with_reducible show wpList _ _ _ _ _ _); refine wpList_store_at (P := Tryz.prog) rfl 43 (.tmp 5) (.tmp 10) rfl w4.heap.size y.cells rfl rfl 43 _ hA5 (i43 _) (len43 _) (ET.one _) ?_; intro w6 hA6 hb6 hs6; clear hs6; refine Hid.out ?_))
        refine hidU ?_
        have l1 := hA1.lt
        have l2 := hA2.lt
        have l3 := hb3.size
        have l4 := hb4.size
        have l5 := hA5.lt
        have l6 := hb6.size
        have hB4 : Below w.heap.size w w4 := hb4.below ((hb1.trans (hb2.mono hb1.size)).trans (hb3.mono (by omega))) (by omega) (by omega)
        have hB6 : Below w.heap.size w w6 := hb6.below (hB4.trans (hb5.mono hB4.size)) (by omega) (by omega)
        have hA26 := hb6.at ((hb4.at (hA2.below hb3) (by omega)).below hb5) (by omega)
        have hA16 := hb6.at ((hb4.at ((hA1.below hb2).below hb3) (by omega)).below hb5) (by omega)
        have lg := hRd.lt
        have hT6 : Tz w3.heap.size g w6 y := Tz.but (w := w4) ⟨hT.1, hT.2.mono fun k hk => ⟨hk, by omega⟩⟩ ((But.of_below (g := g) hb5).fresh hb6 (Nat.le_refl _)) (.inr (.inl rfl))
        have hR6 := (hR4.below hb5).but hb6 (by omega)
        clear hA1 hA2 hA5 hb1 hb2 hb3 hb4 hb5 hb6 hT hR4 hRd
        go_wp2_with (first
          | (go_at_call 27; refine (HE.out _ g _ hR6).mono ?_; rintro q w7 ⟨rfl, hR7, hb7⟩; refine Hid.out ?_))
        refine hidU ?_
        have hB7 : Below w.heap.size w w7 := hb7.below hB6 (by omega) hB6.size
        have hA57 := hb7.at hA6 (by omega)
        have hA17 := hb7.at hA16 (by omega)
        have hA27 := hb7.at hA26 (by omega)
        have hT7 := hT6.but hb7 (.inr (.inl rfl))
        have l7 := hb7.size
        clear hb7 hA6 hA16 hA26 hT6 HE HX HO
        go_wp2_with (first
          | ((with_reducible show wpList _ _ _ _ _ _); refine wpList_load_at (P := Tryz.prog) rfl 43 (.tmp 5) rfl w4.heap.size rfl 43 y.cells hA57 _ Tryz.underlying43 rfl (i43 _) ?_)
          | ((with_reducible show wpList _ _ _ _ _ _); refine wpList_build_at rfl 29 _ rfl (fa2 0 0) (by kernel_rfl) ?_)
          | ((with_reducible show wpList _ _ _ _ _ _); refine wpList_store_at (P := Tryz.prog) rfl 43 (.tmp 2) (.tmp 13) rfl w.heap.size y.cells rfl rfl 43 _ hA17 (i43 _) (len43 _) (ET.one _) ?_; intro w8 hA8 hb8 hs8; clear hs8; have hA28 := hb8.at hA27 (by omega))
          | ((with_reducible show wpList _ _ _ _ _ _); refine wpList_store_at (P := Tryz.prog) rfl 29 (.tmp 3) (.tmp 14) rfl w1.heap.size (fa2 0 0) rfl rfl 29 _ hA28 i25 rfl (one2f _ _) ?_; intro w9 hA9 hb9 hs9; clear hs9))
        refine leaves_cons (f := 37) (args := #[.pointer (some ⟨w1.heap.size, 0, none⟩)]) (by simp) (by simp [go_sem]) ?_
        refine (caught_nil w1.heap.size w9 0 0 hA9).mono ?_
        rintro _ u' w10 ⟨rfl, rfl, hA10, hb10⟩
        have hA1a : At 43 w10 w.heap.size y.cells := hb10.at (hb9.at hA8 (by omega)) (by omega)
        have hB10 : Below w.heap.size w w10 := hb10.below (hb9.below (hb8.below hB7 (Nat.le_refl _) hB7.size) (by omega) (by have := hb8.size; omega)) (by omega) (by have := hb8.size; have := hb9.size; omega)
        have hT10 : Tw w.heap.size w10 y := ((((hT7.tw).but hb8 (.inl (by omega))).but hb9 (.inl (by omega))).but hb10 (.inl (by omega))).low (by omega)
        have hres := results_two (P := Tryz.prog) (fn := Tryz.f13) (p := 2) (q := 3) (ty := 43) (tz := 29) rfl #[.string s, undef, .pointer (some ⟨w.heap.size, 0, none⟩), .pointer (some ⟨w1.heap.size, 0, none⟩), .pointer (some ⟨g, 0, none⟩), .pointer (some ⟨w4.heap.size, 0, none⟩), .func (.func 37) #[] #[.pointer (some ⟨w1.heap.size, 0, none⟩)], .string s, .pointer (some ⟨g, 0, none⟩), .pointer (some ⟨g, 0, none⟩), .agg y.cells.toArray, .pointer (some ⟨g, 0, none⟩), .tuple #[], .agg y.cells.toArray, .agg (fa2 0 0).toArray] w10 w.heap.size w1.heap.size 43 29 y.cells (fa2 0 0) _ _ rfl rfl hA1a hA10 Tryz.underlying43 rfl (i43 _) Tryz.underlying29 rfl i25
        exact ⟨_, hres, y, rfl, he, hT10, hB10⟩
  · rw [if_neg hc]
    simp only [if_neg hc] at HO
    generalize (lexS (bytes s)).err = er at *
    generalize (lexS (bytes s)).place = pl at *
    go_enter_defers Tryz.func13, Tryz.ntmps13
    go_wp2_with (first
      | ((with_reducible show wpList _ _ _ _ _ _); refine wpList_alloc_at (o := { dst := some 2, .. }) rfl 43 rfl [.int .u8 0, .int .u8 0, .int .u64 0, .string ⟨#[]⟩, .slice none 0 0] 5 z29 ?_; intro w1 hA1 hb1 hs1; clear hs1)
      | ((with_reducible show wpList _ _ _ _ _ _); refine wpList_alloc_at (o := { dst := some 3, .. }) rfl 29 rfl (fa2 0 0) 2 z25 ?_; intro w2 hA2 hb2 hs2; clear hs2)
      | (go_at_call 25; refine (HO.out _ (hb1.trans (hb2.mono hb1.size))).mono ?_; rintro r w3 ⟨hr, hb3⟩; unfold PanW at hr; subst hr))
    refine leaves_cons (f := 37) (args := #[.pointer (some ⟨w1.heap.size, 0, none⟩)]) (by simp) (by simp [go_sem]) ?_
    have l1 := hA1.lt
    refine (caught_some w1.heap.size er pl [] w3 0 0 (hA2.below hb3)).mono ?_
    rintro e u' w9 ⟨rfl, rfl, hA9, hb9⟩
    have hA19 : At 43 w9 w.heap.size noX.cells := hb9.at ((hA1.below hb2).below hb3) (by omega)
    have hB9 : Below w.heap.size w w9 := hb9.below ((hb1.trans (hb2.mono hb1.size)).trans (hb3.mono (Nat.le_trans hb1.size hb2.size))) hb1.size (by have := hb1.size; have := hb2.size; have := hb3.size; omega)
    have hres := results_two (P := Tryz.prog) (fn := Tryz.f13) (p := 2) (q := 3) (ty := 43) (tz := 29) rfl #[.string s, undef, .pointer (some ⟨w.heap.size, 0, none⟩), .pointer (some ⟨w1.heap.size, 0, none⟩), undef, undef, .func (.func 37) #[] #[.pointer (some ⟨w1.heap.size, 0, none⟩)], .string s, undef, undef, undef, undef, undef, undef, undef] w9 w.heap.size w1.heap.size 43 29 noX.cells (fa2 er pl) _ _ rfl rfl hA19 hA9 Tryz.underlying43 rfl (i43 _) Tryz.underlying29 rfl i25
    exact ⟨_, hres, noX, rfl, rfl, noX_tw _ _, hB9⟩

end Go.Proofs.YtjgggmjjikopeaaGreatDoor

/- Prepared for layer 5, no program is named: the text of a program tells it apart from any other. -/
namespace Go.Proofs.YtjgggmjjikopeaaGreatDoor
set_option linter.unusedVariables false

/-- A statement, as data. -/
inductive St where
  | mk (kind : Int) (nm : List UInt8) (e : Ex) (body els : List St)

/-- No expression. -/
def noE : Ex := .mk 0 0 0 [] []

section
variable (prX : Ex → Option (List UInt8)) (isName : List UInt8 → Bool) (isNo : Ex → Bool)

variable {prX isName isNo}

end
end Go.Proofs.YtjgggmjjikopeaaGreatDoor

/- Prepared for layer 5, no program is named: statements' lines tell them apart. -/
namespace Go.Proofs.YtjgggmjjikopeaaGreatDoor
set_option linter.unusedVariables false
section
variable {prX : Ex → Option (List UInt8)} {isName : List UInt8 → Bool} {isNo : Ex → Bool}

end
end Go.Proofs.YtjgggmjjikopeaaGreatDoor

/- Prepared for layer 5, no program is named: a program's text tells it apart from any other. -/
namespace Go.Proofs.YtjgggmjjikopeaaGreatDoor
set_option linter.unusedVariables false

/-- A variable, a thread, a program, as data. -/
structure Vr where
  nm : List UInt8
  t : Nat
  b : Nat
structure Th where
  nm : List UInt8
  locals : List Vr
  body : List St
structure Pg where
  shared : List Vr
  mutexes : List (List UInt8)
  threads : List Th

section
variable (prX : Ex → Option (List UInt8)) (isName : List UInt8 → Bool) (isNo : Ex → Bool) (vtx : Nat → Nat → Option (List UInt8))

variable {prX isName isNo vtx}

end
end Go.Proofs.YtjgggmjjikopeaaGreatDoor
