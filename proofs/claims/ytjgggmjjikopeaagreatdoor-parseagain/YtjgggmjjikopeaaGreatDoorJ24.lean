/- Joined texts of the proof. -/
import Derived.Test.YtjgggmjjikopeaaGreatDoorJ23

/- An expression in brackets. -/
namespace Go.Proofs.YtjgggmjjikopeaaGreatDoor
open Go.RowKit
set_option linter.unusedVariables false

theorem ET.cells5 (e : ET) : e.cells.length = 5 := by cases e; rfl
theorem i43 (y : ET) : (Tryz.prog.info? 43).map (·.size) = some y.cells.length := by rw [ET.cells5]; exact i29
theorem len43 (y : ET) : ([.int .u8 0, .int .u8 0, .int .u64 0, .string ⟨#[]⟩, .slice none 0 0] : List Value).length = y.cells.length := by rw [ET.cells5]; rfl
theorem len43' (x y : ET) : x.cells.length = y.cells.length := by rw [ET.cells5, ET.cells5]

def RowW (f : Nat) : Prop := ∀ (n d : Nat) (l : List Tk) (R : Rs Ex), 1 ≤ n → n ≤ 6 → d ≤ 32 → rowF f n d l = some R → ∀ (B g : Nat) (w : World), Rd B w g l → B ≤ w.heap.size →
  Calls Tryz.prog 71 #[.pointer (some ⟨g, 0, none⟩), .int .i64 (n : Int), .int .i64 (d : Int)] w fun r w' => PostX B g w R r w'
def OperW (f : Nat) : Prop := ∀ (d : Nat) (l : List Tk) (R : Rs Ex), d ≤ 32 → operF f d l = some R → ∀ (B g : Nat) (w : World), Rd B w g l → B ≤ w.heap.size →
  Calls Tryz.prog 107 #[.pointer (some ⟨g, 0, none⟩), .int .i64 (d : Int)] w fun r w' => PostX B g w R r w'
def BrkW (f : Nat) : Prop := ∀ (d : Nat) (l : List Tk) (R : Rs Ex), d < 32 → brkF f d l = some R → ∀ (B g : Nat) (w : World), Rd B w g l → B ≤ w.heap.size →
  Calls Tryz.prog 141 #[.pointer (some ⟨g, 0, none⟩), .int .i64 (d : Int)] w fun r w' => PostX B g w R r w'

set_option maxRecDepth 100000 in
set_option maxHeartbeats 3200000 in
theorem expr_of (f : Nat) (hR : RowW f) (d : Nat) (l : List Tk) (R : Rs Ex) (hd : d ≤ 32) (h : rowF f 1 d l = some R) (B g : Nat) (w : World) (hr : Rd B w g l) (hB : B ≤ w.heap.size) :
    Calls Tryz.prog 38 #[.pointer (some ⟨g, 0, none⟩), .int .i64 (d : Int)] w fun r w' => PostX B g w R r w' := by
  have hlt := hr.lt
  have HR : Hid (∀ u, Below w.heap.size w u → Calls Tryz.prog 71 #[.pointer (some ⟨g, 0, none⟩), .int .i64 1, .int .i64 (d : Int)] u fun r w' => PostX B g u R r w') := fun u hu => hR 1 d l R (Nat.le_refl _) (by omega) hd h B g u (hr.below hu) (Nat.le_trans hB hu.size)
  clear h hr hd
  cases R with
  | bad e p =>
    go_enter Tryz.func38, Tryz.ntmps38
    go_wp2_with (first
      | ((with_reducible show wpList _ _ _ _ _ _); refine wpList_alloc_at (o := { dst := some 4, .. }) rfl 43 rfl [.int .u8 0, .int .u8 0, .int .u64 0, .string ⟨#[]⟩, .slice none 0 0] 5 z29 ?_; intro w1 hA1 hb1 hs1; clear hs1)
      | (go_at_call 71; refine (HR.out _ hb1).mono ?_; rintro r w2 ⟨hr, hb2⟩; unfold PanW at hr; subst hr))
    exact ⟨rfl, rfl, (But.of_below hb1).trans hb2⟩
  | ok x r =>
    go_enter Tryz.func38, Tryz.ntmps38
    go_wp2_with (first
      | ((with_reducible show wpList _ _ _ _ _ _); refine wpList_alloc_at (o := { dst := some 4, .. }) rfl 43 rfl [.int .u8 0, .int .u8 0, .int .u64 0, .string ⟨#[]⟩, .slice none 0 0] 5 z29 ?_; intro w1 hA1 hb1 hs1; clear hs1)
      | (go_at_call 71; refine (HR.out _ hb1).mono ?_; rintro _ w2 ⟨y, rfl, he, hT, hR2, hb2⟩; have hA12 := hb2.at hA1 (by omega))
      | ((with_reducible show wpList _ _ _ _ _ _); refine wpList_store_at (P := Tryz.prog) rfl 43 (.tmp 4) (.tmp 7) rfl w.heap.size y.cells rfl rfl 43 _ hA12 (i43 _) (len43 _) (ET.one _) ?_; intro w9 hA9 hb9 hs9; clear hs9))
    refine bodyPost_ret (results_at rfl _ _ w.heap.size 43 y.cells _ rfl hA9 Tryz.underlying43 rfl (i43 _)) rfl ?_
    have l1 := hA1.lt
    exact ⟨y, rfl, he, (hT.but hb9 (.inl l1)).low hb1.size, hR2.but hb9 hB, ((But.of_below hb1).trans hb2).fresh hb9 (Nat.le_refl _)⟩

set_option maxRecDepth 100000 in
set_option maxHeartbeats 3200000 in
theorem bracket_of (f : Nat) (hR : RowW f) : BrkW (f + 1) := by
  intro d l R hd h B g w hr hB
  have hlt := hr.lt
  have HM : Hid (∀ u, Below w.heap.size w u → Calls Tryz.prog 58 #[.pointer (some ⟨g, 0, none⟩), .string ⟨#[40]⟩] u fun r w' => PostU B g u (mustR [40] l) r w') := fun u hu => must_any g l ⟨#[40]⟩ (by decide) u (hr.below hu)
  rw [brkF] at h
  cases hm : mustR [40] l with
  | bad e p =>
    rw [hm] at h HM
    cases h
    clear hr hR hm
    go_enter Tryz.func141, Tryz.ntmps141
    go_wp2_with (first
      | ((with_reducible show wpList _ _ _ _ _ _); refine wpList_alloc_at (o := { dst := some 4, .. }) rfl 43 rfl [.int .u8 0, .int .u8 0, .int .u64 0, .string ⟨#[]⟩, .slice none 0 0] 5 z29 ?_; intro w1 hA1 hb1 hs1; clear hs1)
      | (go_at_call 58; refine (HM.out _ hb1).mono ?_; rintro r w2 ⟨hr, hb2⟩; unfold PanW at hr; subst hr))
    exact ⟨rfl, rfl, (But.of_below hb1).trans hb2⟩
  | ok u1 l1 =>
    rw [hm] at h HM
    dsimp only at h
    cases hx : rowF f 1 (d + 1) l1 with
    | none => rw [hx] at h; cases h
    | some Y =>
      rw [hx] at h
      have HX : Hid (∀ u, Rd B u g l1 → w.heap.size ≤ u.heap.size → Calls Tryz.prog 38 #[.pointer (some ⟨g, 0, none⟩), .int .i64 ((d : Int) + 1)] u fun r w' => PostX B g u Y r w') := fun u hu hs => by
        have := expr_of f hR (d + 1) l1 Y (by omega) hx B g u hu (by omega)
        rwa [show ((d + 1 : Nat) : Int) = (d : Int) + 1 by omega] at this
      have hdI : (d : Int) + 1 ≤ 9223372036854775807 := by omega
      clear hr hR hm hx
      cases Y with
      | bad e p =>
        cases h
        go_enter Tryz.func141, Tryz.ntmps141
        go_wp2_with (first
          | ((with_reducible show wpList _ _ _ _ _ _); refine wpList_alloc_at (o := { dst := some 4, .. }) rfl 43 rfl [.int .u8 0, .int .u8 0, .int .u64 0, .string ⟨#[]⟩, .slice none 0 0] 5 z29 ?_; intro w1 hA1 hb1 hs1; clear hs1)
          | (go_at_call 58; refine (HM.out _ hb1).mono ?_; rintro r w2 ⟨rfl, hR2, hb2⟩)
          | (go_at_call 38; refine (HX.out _ hR2 (Nat.le_trans hb1.size hb2.size)).mono ?_; rintro r w3 ⟨hr, hb3⟩; unfold PanW at hr; subst hr))
        exact ⟨rfl, rfl, ((But.of_below hb1).trans hb2).trans hb3⟩
      | ok y r2 =>
        dsimp only at h
        have HM2 : Hid (∀ u, Rd B u g r2 → Calls Tryz.prog 58 #[.pointer (some ⟨g, 0, none⟩), .string ⟨#[41]⟩] u fun r w' => PostU B g u (mustR [41] r2) r w') := fun u hu => must_any g r2 ⟨#[41]⟩ (by decide) u hu
        go_enter Tryz.func141, Tryz.ntmps141
        go_wp2_with (first
          | ((with_reducible show wpList _ _ _ _ _ _); refine wpList_alloc_at (o := { dst := some 4, .. }) rfl 43 rfl [.int .u8 0, .int .u8 0, .int .u64 0, .string ⟨#[]⟩, .slice none 0 0] 5 z29 ?_; intro w1 hA1 hb1 hs1; clear hs1)
          | (go_at_call 58; refine (HM.out _ hb1).mono ?_; rintro r w2 ⟨rfl, hR2, hb2⟩)
          | (go_at_call 38; refine (HX.out _ hR2 (Nat.le_trans hb1.size hb2.size)).mono ?_; rintro _ w3 ⟨y, rfl, he, hT, hR3, hb3⟩)
          | ((with_reducible show wpList _ _ _ _ _ _); refine wpList_alloc_at (o := { dst := some 5, .. }) rfl 43 rfl [.int .u8 0, .int .u8 0, .int .u64 0, .string ⟨#[]⟩, .slice none 0 0] 5 z29 ?_; intro w4 hA4 hb4 hs4; clear hs4)
          | ((with_reducible show wpList _ _ _ _ _ _); refine wpList_store_at (P := Tryz.prog) rfl 43 (.tmp 5) (.tmp 11) rfl w3.heap.size y.cells rfl rfl 43 _ hA4 (i43 _) (len43 _) (ET.one _) ?_; intro w5 hA5 hb5 hs5; clear hs5; refine Hid.out ?_))
        refine hidU ?_
        have l1 := hA1.lt
        have l2 := hb2.size
        have l3 := hb3.size
        have l4 := hA4.lt
        have l5 := hb5.size
        have l0 := hb1.size
        have hA15 := hb5.at ((hb3.at (hb2.at hA1 (by omega)) (by omega)).below hb4) (by omega)
        have hT5 := hT.but ((But.of_below (g := g) hb4).fresh hb5 (Nat.le_refl _)) (.inl (by omega))
        have hR5 := (hR3.below hb4).but hb5 (by omega)
        have hB5 : But g w w5 := ((((But.of_below hb1).trans hb2).trans hb3).trans (But.of_below hb4)).fresh hb5 (by omega)
        clear hA1 hA4 hb1 hb2 hb3 hb4 hb5 hT hR2 hR3 HM HX
        cases hm2 : mustR [41] r2 with
        | bad e p =>
          rw [hm2] at h HM2
          cases h
          go_wp2_with (first
            | (go_at_call 58; refine (HM2.out _ hR5).mono ?_; rintro r w6 ⟨hr, hb6⟩; unfold PanW at hr; subst hr))
          exact ⟨rfl, rfl, hB5.trans hb6⟩
        | ok u2 r3 =>
          rw [hm2] at h HM2
          cases h
          go_wp2_with (first
            | (go_at_call 58; refine (HM2.out _ hR5).mono ?_; rintro r w6 ⟨rfl, hR6, hb6⟩; refine Hid.out ?_))
          refine hidU ?_
          have hA56 := hb6.at hA5 (by omega)
          have hA16 := hb6.at hA15 (by omega)
          have hT6 := hT5.but hb6 (.inl (by omega))
          go_wp2_with (first
            | ((with_reducible show wpList _ _ _ _ _ _); refine wpList_load_at (P := Tryz.prog) rfl 43 (.tmp 5) rfl w3.heap.size rfl 43 y.cells hA56 _ Tryz.underlying43 rfl (i43 _) ?_)
            | ((with_reducible show wpList _ _ _ _ _ _); refine wpList_store_at (P := Tryz.prog) rfl 43 (.tmp 4) (.tmp 14) rfl w.heap.size y.cells rfl rfl 43 _ hA16 (i43 _) (len43 _) (ET.one _) ?_; intro w9 hA9 hb9 hs9; clear hs9))
          refine bodyPost_ret (results_at rfl _ _ w.heap.size 43 y.cells _ rfl hA9 Tryz.underlying43 rfl (i43 _)) rfl ?_
          exact ⟨y, rfl, he, (hT6.but hb9 (.inl (by omega))).low (by omega), hR6.but hb9 hB, (hB5.trans hb6).fresh hb9 (Nat.le_refl _)⟩

end Go.Proofs.YtjgggmjjikopeaaGreatDoor

/- How high what is read is; an expression laid as a row. -/
namespace Go.Proofs.YtjgggmjjikopeaaGreatDoor
open Go.RowKit
set_option linter.unusedVariables false

theorem f43 : (Tryz.prog.info? 43).map (fun i => (i.zero, i.size, i.bytes)) = some (some (.agg ([.int .u8 0, .int .u8 0, .int .u64 0, .string ⟨#[]⟩, .slice none 0 0] : List Value).toArray), 5, 64) := by kernel_rfl
/-- One expression is laid as a row. -/
theorem wp_kid1 {o : Oper} {a : Act} {w : World} {K : Act → World → Prop} {Q : Exit → Act → World → Prop} (x : Operand) (ho : o.op = .buildSlice 41 1 #[(0, x)]) (y : ET) (hx : a.eval x = .agg y.cells.toArray)
    (h : ∀ w', At 43 w' w.heap.size y.cells → Below w.heap.size w w' → w'.heap.size = w.heap.size + 1 → K (a.put o.dst (.slice (some ⟨w.heap.size, 0, none⟩) 1 1)) w') : o.wp Tryz.prog a w K Q := by
  obtain ⟨ie, hi, hz0, hz1, hz2⟩ := info_parts f43
  refine wp_buildSlice 41 43 1 #[(0, x)] ho y.cells.toArray ie _ Tryz.underlying41 hi hz0 (by rw [hz1]; decide) (by rw [hz1]; decide) ?_ ?_
  · rw [hz1]
    simp only [List.map_toArray, List.map_cons, List.map_nil, hx]
    cases y
    kernel_rfl
  · exact h _ (_root_.Go.heap_alloc_new w _) ((Below.refl _ w).alloc (Nat.le_refl _) _) (by show (w.heap.push _).size = _; simp)
theorem kid1_in {w : World} {b op A : Nat} {y : ET} (hA : At 43 w b y.cells) (hy : Tw A w y) (hop : op < 256) (hb : A ≤ b) : Tw A w (ET.mk op 0 0 ⟨#[]⟩ (some ⟨b, 0, none⟩) 1 [y]) := by
  refine ⟨⟨?_, ?_⟩, ?_⟩
  · unfold ET.In
    refine ⟨hop, by decide, by decide, by simp, by simp, .inr ⟨b, 0, rfl, hA.lt, ?_⟩⟩
    unfold ET.Row
    refine ⟨?_, hy.1.1, by unfold ET.Row; trivial⟩
    have := hA.range 0 5
    rwa [List.drop_zero, List.take_of_length_le (by rw [ET.cells5]; exact Nat.le_refl _)] at this
  · unfold ET.Lies
    refine ⟨.inr ⟨b, 0, rfl, _, _, hA, by decide⟩, ?_⟩
    unfold ET.LiesL
    exact ⟨hy.1.2, by unfold ET.LiesL; trivial⟩
  · unfold ET.Lies
    refine ⟨.inr ⟨b, 0, rfl, hb⟩, ?_⟩
    unfold ET.LiesL
    exact ⟨hy.2, by unfold ET.LiesL; trivial⟩

theorem nodeR_ht {p op : Nat} {ks : List Ex} {r r' : List Tk} {e : Ex} (h : nodeR p op ks r = .ok e r') : htX e ≤ 32 := by
  unfold nodeR at h
  split at h
  · cases h
  · cases h
    omega
theorem leafR_ht {l r : List Tk} {e : Ex} (h : leafR l = .ok e r) : htX e ≤ 32 := by
  unfold leafR at h
  split at h
  · cases h
    simp [htX, htL]
  · split at h
    · cases h
      simp [htX, htL]
    · cases h
/-- What is read is at most 32 high. -/
theorem read_ht (f : Nat) :
    (∀ n d l e r, rowF f n d l = some (.ok e r) → htX e ≤ 32) ∧
    (∀ n m d x l e r, htX x ≤ 32 → loopF f n m d x l = some (.ok e r) → htX e ≤ 32) ∧
    (∀ d l e r, operF f d l = some (.ok e r) → htX e ≤ 32) ∧
    (∀ d l e r, brkF f d l = some (.ok e r) → htX e ≤ 32) := by
  induction f with
  | zero => exact ⟨fun n d l e r h => by simp [rowF] at h, fun n m d x l e r _ h => by simp [loopF] at h, fun d l e r h => by simp [operF] at h, fun d l e r h => by simp [brkF] at h⟩
  | succ f ih =>
    obtain ⟨ih1, ih2, ih3, ih4⟩ := ih
    refine ⟨fun n d l e r h => ?_, fun n m d x l e r hx h => ?_, fun d l e r h => ?_, fun d l e r h => ?_⟩
    · rw [rowF] at h
      split at h
      · cases h
      · cases h
      · next hc => exact ih2 _ _ _ _ _ _ _ (ih3 _ _ _ _ hc) h
    · rw [loopF] at h
      split at h
      · cases h
        exact hx
      · split at h
        · cases h
        · cases h
        · split at h
          · cases h
          · next hn => exact ih2 _ _ _ _ _ _ _ (nodeR_ht hn) h
    · rw [operF] at h
      split at h
      · exact leafR_ht (Option.some.inj h)
      · split at h
        · cases h
        · split at h
          · split at h
            · cases h
            · cases h
            · exact nodeR_ht (Option.some.inj h)
          · split at h
            · exact ih4 _ _ _ _ h
            · split at h
              · cases h
              · cases h
              · exact nodeR_ht (Option.some.inj h)
    · rw [brkF] at h
      split at h
      · cases h
      · split at h
        · cases h
        · cases h
        · next hc =>
          split at h
          · cases h
          · cases h
            exact ih1 _ _ _ _ _ hc

end Go.Proofs.YtjgggmjjikopeaaGreatDoor
