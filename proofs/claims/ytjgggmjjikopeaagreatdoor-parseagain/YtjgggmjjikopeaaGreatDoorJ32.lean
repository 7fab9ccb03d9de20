/- Joined texts of the proof. -/
import Derived.Test.YtjgggmjjikopeaaGreatDoorJ31

/- parse.Expr. -/
namespace Go.Proofs.YtjgggmjjikopeaaGreatDoor
open Go.RowKit
set_option linter.unusedVariables false

/-- No expression. -/
def noX : ET := .mk 0 0 0 ⟨#[]⟩ none 0 []
/-- What a text's expression is, and its fault. -/
def exO (l : List UInt8) (R : Rs Ex) : Ex × Nat × Nat :=
  if (lexS l).err = 0 then match R with
    | .bad e p => (noX.ex, e, p)
    | .ok x r => match endR r with
      | .bad e p => (noX.ex, e, p)
      | .ok _ _ => (x, 0, 0)
  else (noX.ex, (lexS l).err, (lexS l).place)
/-- What parse.Expr tells. -/
def PostP (w : World) (o : Ex × Nat × Nat) (r : Ending) (w' : World) : Prop :=
  ∃ y : ET, r = .returned (.tuple #[.agg y.cells.toArray, .agg (fa2 o.2.1 o.2.2).toArray]) ∧ y.ex = o.1 ∧ Tw w.heap.size w' y ∧ Below w.heap.size w w'
theorem results_two {P : Program} {fn : Func} {p q : Tmp} {ty tz : TypeId} (h : fn.results = #[.cell p ty, .cell q tz]) (tmps : Array Value) (w : World) (g k : Nat) (t u : TypeId) (cs ds : List Value) (d e : TypeDesc)
    (hp : tmps.getD p undef = .pointer (some ⟨g, 0, none⟩)) (hq : tmps.getD q undef = .pointer (some ⟨k, 0, none⟩)) (hg : At t w g cs) (hk : At u w k ds)
    (hu : P.underlying ty = some d) (hd : (match d with | .struct _ | .array _ _ => true | _ => false) = true) (hi : (P.info? ty).map (·.size) = some cs.length)
    (hv : P.underlying tz = some e) (he : (match e with | .struct _ | .array _ _ => true | _ => false) = true) (hj : (P.info? tz).map (·.size) = some ds.length) :
    (results fn tmps).run P w = .ok (.tuple #[.agg cs.toArray, .agg ds.toArray]) w := by
  have hp' : tmps[p]?.getD undef = .pointer (some ⟨g, 0, none⟩) := by simpa using hp
  have hq' : tmps[q]?.getD undef = .pointer (some ⟨k, 0, none⟩) := by simpa using hq
  have hl := run_loadVar_row (P := P) w g t ty cs.toArray (0, 0) d hg hu hd (by simpa using hi)
  have hm := run_loadVar_row (P := P) w k u tz ds.toArray (0, 0) e hk hv he (by simpa using hj)
  simp [results, h, hp', hq', asAddr, hl, hm]
theorem noX_tw (A : Nat) (w : World) : Tw A w noX := leaf_tr A w 0 0 0 ⟨#[]⟩ (by decide) (by decide) (by decide)

set_option maxRecDepth 100000 in
set_option maxHeartbeats 6400000 in
theorem parseExpr_any (s : ByteArray) (w : World) (hmax : s.size ≤ 9223372036854775807) (hE : ErrR w) (R : Rs Ex) (hR : ∃ f, rowF f 1 0 (toksOf (bytes s)) = some R) :
    Calls Tryz.prog 13 #[.string s] w fun r w' => PostP w (exO (bytes s) R) r w' := by
  have HO : Hid (∀ u, Below w.heap.size w u → Calls Tryz.prog 25 #[.string s] u fun r w' => PostO u (bytes s) r w') := fun u hu => open_any s u hmax (hE.below hu)
  have hmf : ∀ (fn : Fn) (first cap : Array Value) (w : World), (Instr.makeFunc fn first cap).run Tryz.prog w = .ok (.func fn first cap) w := fun _ _ _ _ => rfl
  unfold PostO at HO
  unfold exO
  by_cases hc : (lexS (bytes s)).err = 0
  · rw [if_pos hc]
    simp only [if_pos hc] at HO
    have HX : Hid (∀ (g : Nat) (u : World), Rd u.heap.size u g (toksOf (bytes s)) → Calls Tryz.prog 38 #[.pointer (some ⟨g, 0, none⟩), .int .i64 0] u fun r w' => PostX u.heap.size g u R r w') := fun g u hu => exprX_any 0 _ R (by omega) hR u.heap.size g u hu (Nat.le_refl _)
    clear hR hc hE
    cases R with
    | bad e p =>
      go_enter_defers Tryz.func13, Tryz.ntmps13
      go_wp2_with (first
        | ((with_reducible show wpList _ _ _ _ _ _); refine wpList_alloc_at (o := { dst := some 2, .. }) rfl 43 rfl [.int .u8 0, .int .u8 0, .int .u64 0, .string ⟨#[]⟩, .slice none 0 0] 5 z29 ?_; intro w1 hA1 hb1 hs1; clear hs1)
        | ((with_reducible show wpList _ _ _ _ _ _); refine wpList_alloc_at (o := { dst := some 3, .. }) rfl 29 rfl (fa2 0 0) 2 z25 ?_; intro w2 hA2 hb2 hs2; clear hs2)
        | (go_at_call 25; refine (HO.out _ (hb1.trans (hb2.mono hb1.size))).mono ?_; rintro _ w3 ⟨g, rfl, hRd, hg, hb3⟩)
        | (go_at_call 38; refine (HX.out g _ hRd).mono ?_; rintro r w4 ⟨hr, hb4⟩; unfold PanW at hr; subst hr))
      have l1 := hA1.lt
      have l2 := hA2.lt
      have l3 := hb3.size
      have l4 := hb4.size
      have hB4 : Below w.heap.size w w4 := hb4.below ((hb1.trans (hb2.mono hb1.size)).trans (hb3.mono (by omega))) (by omega) (by omega)
      refine leaves_cons (f := 37) (args := #[.pointer (some ⟨w1.heap.size, 0, none⟩)]) (by simp) (by simp [go_sem]) ?_
      refine (caught_some w1.heap.size e p [] w4 0 0 (hb4.at (hA2.below hb3) (by omega))).mono ?_
      rintro _ u' w9 ⟨rfl, rfl, hA9, hb9⟩
      have hA19 : At 43 w9 w.heap.size noX.cells := hb9.at (hb4.at ((hA1.below hb2).below hb3) (by omega)) (by omega)
      have hB9 : Below w.heap.size w w9 := hb9.below hB4 (by omega) hB4.size
      have hres := results_two (P := Tryz.prog) (fn := Tryz.f13) (p := 2) (q := 3) (ty := 43) (tz := 29) rfl #[.string s, undef, .pointer (some ⟨w.heap.size, 0, none⟩), .pointer (some ⟨w1.heap.size, 0, none⟩), .pointer (some ⟨g, 0, none⟩), undef, .func (.func 37) #[] #[.pointer (some ⟨w1.heap.size, 0, none⟩)], .string s, .pointer (some ⟨g, 0, none⟩), .pointer (some ⟨g, 0, none⟩), undef, undef, undef, undef, undef] w9 w.heap.size w1.heap.size 43 29 noX.cells (fa2 e p) _ _ rfl rfl hA19 hA9 Tryz.underlying43 rfl (i43 _) Tryz.underlying29 rfl i25
      exact ⟨_, hres, noX, rfl, rfl, noX_tw _ _, hB9⟩
    | ok x r =>
      have HE : Hid (∀ (B g : Nat) (u : World), Rd B u g r → Calls Tryz.prog 27 #[.pointer (some ⟨g, 0, none⟩)] u fun q w' => PostU B g u (endR r) q w') := fun B g u hu => end_any g r u hu
      dsimp only
      cases hn : endR r
      focus
        rename_i u1 r1
      rotate_left
      focus
        rename_i e p
      rotate_left
      all_goals
        rw [hn] at HE
        dsimp only
        go_enter_defers Tryz.func13, Tryz.ntmps13
        go_wp2_with (first
          | ((with_reducible show wpList _ _ _ _ _ _); refine wpList_alloc_at (o := { dst := some 2, .. }) rfl 43 rfl [.int .u8 0, .int .u8 0, .int .u64 0, .string ⟨#[]⟩, .slice none 0 0] 5 z29 ?_; intro w1 hA1 hb1 hs1; clear hs1)
          | ((with_reducible show wpList _ _ _ _ _ _); refine wpList_alloc_at (o := { dst := some 3, .. }) rfl 29 rfl (fa2 0 0) 2 z25 ?_; intro w2 hA2 hb2 hs2; clear hs2)
          | (go_at_call 25; refine (HO.out _ (hb1.trans (hb2.mono hb1.size))).mono ?_; rintro _ w3 ⟨g, rfl, hRd, hg, hb3⟩)
          | (go_at_call 38; refine (HX.out g _ hRd).mono ?_; rintro _ w4 ⟨y, rfl, he, hT, hR4, hb4⟩)
          | ((with_reducible show wpList _ _ _ _ _ _); refine wpList_alloc_at (o := { dst := some 5, .. }) rfl 43 rfl [.int .u8 0, .int .u8 0, .int .u64 0, .string ⟨#[]⟩, .slice none 0 0] 5 z29 ?_; intro w5 hA5 hb5 hs5; clear hs5)
          | ((with_reducible show wpList _ _ _ _ _ _); refine wpList_store_at (P := Tryz.prog) rfl 43 (.tmp 5) (.tmp 10) rfl w4.heap.size y.cells rfl rfl 43 _ hA5 (i43 _) (len43 _) (ET.one _) ?_; intro w6 hA6 hb6 hs6; clear hs6; refine Hid.out ?_))
        refine hidU ?_
        have l1 := hA1.lt
        have l2 := hA2.lt
        have l3 := hb3.size
        have l4 := hb4.size
        have l5 := hA5.lt
        have l6 := hb6.size
        have hB4 : Below w.heap.size w w4 := hb4.below ((hb1.trans (hb2.mono hb1.size)).trans (hb3.mono (by omega))) (by omega) (by omega)
        have hB6 : Below w.heap.size w w6 := hb6.below (hB4.trans (hb5.mono hB4.size)) (by omega) (by omega)
        have hA26 := hb6.at ((hb4.at (hA2.below hb3) (by omega)).below hb5) (by omega)
        have hA16 := hb6.at ((hb4.at ((hA1.below hb2).below hb3) (by omega)).below hb5) (by omega)
        have lg := hRd.lt
        have hT6 : Tz w3.heap.size g w6 y := Tz.but (w := w4) ⟨hT.1, hT.2.mono fun k hk => ⟨hk, by omega⟩⟩ ((But.of_below (g := g) hb5).fresh hb6 (Nat.le_refl _)) (.inr (.inl rfl))
        have hR6 := (hR4.below hb5).but hb6 (by omega)
        clear hA1 hA2 hA5 hb1 hb2 hb3 hb4 hb5 hb6 hT hR4 hRd
      focus
        go_wp2_with (first
          | (go_at_call 27; refine (HE.out _ g _ hR6).mono ?_; rintro q w7 ⟨rfl, hR7, hb7⟩; refine Hid.out ?_))
        refine hidU ?_
      rotate_left
      focus
        go_wp2_with (first
          | (go_at_call 27; refine (HE.out _ g _ hR6).mono ?_; rintro q w7 ⟨hq, hb7⟩; unfold PanW at hq; subst hq))
      rotate_left
      all_goals
        have hB7 : Below w.heap.size w w7 := hb7.below hB6 (by omega) hB6.size
      focus
        have hA57 := hb7.at hA6 (by omega)
        have hA17 := hb7.at hA16 (by omega)
        have hA27 := hb7.at hA26 (by omega)
        have hT7 := hT6.but hb7 (.inr (.inl rfl))
        have l7 := hb7.size
        clear hb7 hA6 hA16 hA26 hT6 HE HX HO
        go_wp2_with (first
          | ((with_reducible show wpList _ _ _ _ _ _); refine wpList_load_at (P := Tryz.prog) rfl 43 (.tmp 5) rfl w4.heap.size rfl 43 y.cells hA57 _ Tryz.underlying43 rfl (i43 _) ?_)
          | ((with_reducible show wpList _ _ _ _ _ _); refine wpList_build_at rfl 29 _ rfl (fa2 0 0) (by kernel_rfl) ?_)
          | ((with_reducible show wpList _ _ _ _ _ _); refine wpList_store_at (P := Tryz.prog) rfl 43 (.tmp 2) (.tmp 13) rfl w.heap.size y.cells rfl rfl 43 _ hA17 (i43 _) (len43 _) (ET.one _) ?_; intro w8 hA8 hb8 hs8; clear hs8; have hA28 := hb8.at hA27 (by omega))
          | ((with_reducible show wpList _ _ _ _ _ _); refine wpList_store_at (P := Tryz.prog) rfl 29 (.tmp 3) (.tmp 14) rfl w1.heap.size (fa2 0 0) rfl rfl 29 _ hA28 i25 rfl (one2f _ _) ?_; intro w9 hA9 hb9 hs9; clear hs9))
      all_goals
        refine leaves_cons (f := 37) (args := #[.pointer (some ⟨w1.heap.size, 0, none⟩)]) (by simp) (by simp [go_sem]) ?_
      · refine (caught_nil w1.heap.size w9 0 0 hA9).mono ?_
        rintro _ u' w10 ⟨rfl, rfl, hA10, hb10⟩
        have hA1a : At 43 w10 w.heap.size y.cells := hb10.at (hb9.at hA8 (by omega)) (by omega)
        have hB10 : Below w.heap.size w w10 := hb10.below (hb9.below (hb8.below hB7 (Nat.le_refl _) hB7.size) (by omega) (by have := hb8.size; omega)) (by omega) (by have := hb8.size; have := hb9.size; omega)
        have hT10 : Tw w.heap.size w10 y := ((((hT7.tw).but hb8 (.inl (by omega))).but hb9 (.inl (by omega))).but hb10 (.inl (by omega))).low (by omega)
        have hres := results_two (P := Tryz.prog) (fn := Tryz.f13) (p := 2) (q := 3) (ty := 43) (tz := 29) rfl #[.string s, undef, .pointer (some ⟨w.heap.size, 0, none⟩), .pointer (some ⟨w1.heap.size, 0, none⟩), .pointer (some ⟨g, 0, none⟩), .pointer (some ⟨w4.heap.size, 0, none⟩), .func (.func 37) #[] #[.pointer (some ⟨w1.heap.size, 0, none⟩)], .string s, .pointer (some ⟨g, 0, none⟩), .pointer (some ⟨g, 0, none⟩), .agg y.cells.toArray, .pointer (some ⟨g, 0, none⟩), .tuple #[], .agg y.cells.toArray, .agg (fa2 0 0).toArray] w10 w.heap.size w1.heap.size 43 29 y.cells (fa2 0 0) _ _ rfl rfl hA1a hA10 Tryz.underlying43 rfl (i43 _) Tryz.underlying29 rfl i25
        exact ⟨_, hres, y, rfl, he, hT10, hB10⟩
      · refine (caught_some w1.heap.size e p [] w7 0 0 (hb7.at hA26 (by omega))).mono ?_
        rintro _ u' w9 ⟨rfl, rfl, hA9, hb9⟩
        have hA19 : At 43 w9 w.heap.size noX.cells := hb9.at (hb7.at hA16 (by omega)) (by omega)
        have hB9 : Below w.heap.size w w9 := hb9.below hB7 (by omega) hB7.size
        have hres := results_two (P := Tryz.prog) (fn := Tryz.f13) (p := 2) (q := 3) (ty := 43) (tz := 29) rfl #[.string s, undef, .pointer (some ⟨w.heap.size, 0, none⟩), .pointer (some ⟨w1.heap.size, 0, none⟩), .pointer (some ⟨g, 0, none⟩), .pointer (some ⟨w4.heap.size, 0, none⟩), .func (.func 37) #[] #[.pointer (some ⟨w1.heap.size, 0, none⟩)], .string s, .pointer (some ⟨g, 0, none⟩), .pointer (some ⟨g, 0, none⟩), .agg y.cells.toArray, .pointer (some ⟨g, 0, none⟩), undef, undef, undef] w9 w.heap.size w1.heap.size 43 29 noX.cells (fa2 e p) _ _ rfl rfl hA19 hA9 Tryz.underlying43 rfl (i43 _) Tryz.underlying29 rfl i25
        exact ⟨_, hres, noX, rfl, rfl, noX_tw _ _, hB9⟩
  · rw [if_neg hc]
    simp only [if_neg hc] at HO
    generalize (lexS (bytes s)).err = er at *
    generalize (lexS (bytes s)).place = pl at *
    go_enter_defers Tryz.func13, Tryz.ntmps13
    go_wp2_with (first
      | ((with_reducible show wpList _ _ _ _ _ _); refine wpList_alloc_at (o := { dst := some 2, .. }) rfl 43 rfl [.int .u8 0, .int .u8 0, .int .u64 0, .string ⟨#[]⟩, .slice none 0 0] 5 z29 ?_; intro w1 hA1 hb1 hs1; clear hs1)
      | ((with_reducible show wpList _ _ _ _ _ _); refine wpList_alloc_at (o := { dst := some 3, .. }) rfl 29 rfl (fa2 0 0) 2 z25 ?_; intro w2 hA2 hb2 hs2; clear hs2)
      | (go_at_call 25; refine (HO.out _ (hb1.trans (hb2.mono hb1.size))).mono ?_; rintro r w3 ⟨hr, hb3⟩; unfold PanW at hr; subst hr))
    refine leaves_cons (f := 37) (args := #[.pointer (some ⟨w1.heap.size, 0, none⟩)]) (by simp) (by simp [go_sem]) ?_
    have l1 := hA1.lt
    refine (caught_some w1.heap.size er pl [] w3 0 0 (hA2.below hb3)).mono ?_
    rintro e u' w9 ⟨rfl, rfl, hA9, hb9⟩
    have hA19 : At 43 w9 w.heap.size noX.cells := hb9.at ((hA1.below hb2).below hb3) (by omega)
    have hB9 : Below w.heap.size w w9 := hb9.below ((hb1.trans (hb2.mono hb1.size)).trans (hb3.mono (Nat.le_trans hb1.size hb2.size))) hb1.size (by have := hb1.size; have := hb2.size; have := hb3.size; omega)
    have hres := results_two (P := Tryz.prog) (fn := Tryz.f13) (p := 2) (q := 3) (ty := 43) (tz := 29) rfl #[.string s, undef, .pointer (some ⟨w.heap.size, 0, none⟩), .pointer (some ⟨w1.heap.size, 0, none⟩), undef, undef, .func (.func 37) #[] #[.pointer (some ⟨w1.heap.size, 0, none⟩)], .string s, undef, undef, undef, undef, undef, undef, undef] w9 w.heap.size w1.heap.size 43 29 noX.cells (fa2 er pl) _ _ rfl rfl hA19 hA9 Tryz.underlying43 rfl (i43 _) Tryz.underlying29 rfl i25
    exact ⟨_, hres, noX, rfl, rfl, noX_tw _ _, hB9⟩

end Go.Proofs.YtjgggmjjikopeaaGreatDoor
