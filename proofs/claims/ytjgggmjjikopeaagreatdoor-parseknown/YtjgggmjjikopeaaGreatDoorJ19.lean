/- Joined texts of the proof. -/
import Derived.Test.YtjgggmjjikopeaaGreatDoorJ18
import Derived.Test.YtjgggmjjikopeaaGreatDoorJ12
import Derived.Test.YtjgggmjjikopeaaGreatDoorJ3
import Derived.Test.YtjgggmjjikopeaaGreatDoorJ6
import Derived.Test.YtjgggmjjikopeaaGreatDoorJ14

/- parse.Parse. -/
namespace Go.Proofs.YtjgggmjjikopeaaGreatDoor
open Go.RowKit
set_option linter.unusedVariables false

/-- No program. -/
def noP : PT := ⟨none, 0, [], none, 0, [], none, 0, []⟩
/-- What a text's program is, and its fault. -/
def pgO (l : List UInt8) (R : Rs Pg) : Pg × Nat × Nat :=
  if (lexS l).err = 0 then match R with
    | .bad e p => (noP.pg, e, p)
    | .ok x r => match endR r with
      | .bad e p => (noP.pg, e, p)
      | .ok _ _ => (x, 0, 0)
  else (noP.pg, (lexS l).err, (lexS l).place)
/-- A program that lies whole in blocks from A on. -/
def Py (A : Nat) (w : World) (y : PT) : Prop := y.In w.heap.size w ∧ y.Lies (fun k => A ≤ k)
theorem RowT.stay {S : Nat → Prop} {B B' c : Nat} {w w' : World} {a : Option Addr} {ks : List TT} (h : RowT B w a c ks) (hu : ks = [] ∨ ∃ g o, a = some ⟨g, o, none⟩ ∧ S g) (hL : ∀ t ∈ ks, t.Lies S) (hB : B ≤ B') (hk : ∀ k, S k → k < B → w'.heap[k]? = w.heap[k]?) : RowT B' w' a c ks := by
  obtain ⟨h1, h2, h | ⟨g, o, ha, hg, hr⟩⟩ := h
  · exact ⟨h1, h2, .inl h⟩
  · rcases hu with hu | ⟨g', o', ha', hg'⟩
    · exact ⟨h1, h2, .inl hu⟩
    · rw [ha] at ha'
      cases ha'
      refine ⟨h1, h2, .inr ⟨g, o, ha, by omega, fun i v hv => ⟨fun j x hj => ?_, eT.stay (hr i v hv).2 (hL v (List.mem_of_getElem? hv)) hB hk⟩⟩⟩
      rw [World.cell?_of_block (w := w) (hk g hg' hg)]
      exact (hr i v hv).1 j x hj
theorem Py.but {A k : Nat} {w w' : World} {y : PT} (h : Py A w y) (hb : But k w w') (hk : k < A ∨ w.heap.size ≤ k) : Py A w' y := by
  have hq : ∀ q, A ≤ q → q < w.heap.size → w'.heap[q]? = w.heap[q]? := fun q h1 h2 => hb.block q h2 (by omega)
  exact ⟨⟨h.1.1.stay h.2.1 hb.size hq, h.1.2.1.stay h.2.2.1 hb.size hq, h.1.2.2.stay h.2.2.2.1 h.2.2.2.2 hb.size hq⟩, h.2⟩
theorem Py.low {A A' : Nat} {w : World} {y : PT} (h : Py A w y) (hA : A' ≤ A) : Py A' w y :=
  ⟨h.1, at_imp (fun q hq => Nat.le_trans hA hq) h.2.1, at_imp (fun q hq => Nat.le_trans hA hq) h.2.2.1, at_imp (fun q hq => Nat.le_trans hA hq) h.2.2.2.1, fun t ht => eT.mono (h.2.2.2.2 t ht) fun q hq => Nat.le_trans hA hq⟩
theorem noP_py (A : Nat) (w : World) : Py A w noP := ⟨⟨⟨by simp [noP], Nat.le_refl _, .inl rfl⟩, ⟨by simp [noP], Nat.le_refl _, .inl rfl⟩, ⟨by simp [noP], Nat.le_refl _, .inl rfl⟩⟩, .inl rfl, .inl rfl, .inl rfl, fun t ht => by cases ht⟩
/-- What parse.Parse tells. -/
def PostPP (w : World) (o : Pg × Nat × Nat) (r : Ending) (w' : World) : Prop :=
  ∃ y : PT, r = .returned (.tuple #[.agg y.cells.toArray, .agg (fa2 o.2.1 o.2.2).toArray]) ∧ y.pg = o.1 ∧ Py w.heap.size w' y ∧ Below w.heap.size w w'
theorem i26p (y : PT) : (Tryz.prog.info? 26).map (·.size) = some y.cells.length := i26
theorem len26 (y : PT) : ([.slice none 0 0, .slice none 0 0, .slice none 0 0] : List Value).length = y.cells.length := rfl
theorem toks_len (l : List UInt8) : (toksOf l).length ≤ 1048576 := by
  unfold toksOf
  have := (lexS_ok l).2
  rw [List.length_append]
  show _ + 1 ≤ _
  omega

set_option maxRecDepth 100000 in
set_option maxHeartbeats 3200000 in
theorem caughtP_some (b e p : Nat) (older : List PanicEntry) (w : World) (x y : Nat) (hA : At 29 w b (fa2 x y)) :
    CallsD Tryz.prog 23 #[.pointer (some ⟨b, 0, none⟩)] (.panicking ({ v := .iface 29 (.agg #[.int .i64 (e : Int), .int .i64 (p : Int)]), recovered := false } :: older)) w fun r u' w' =>
      r = .returned (.tuple #[]) ∧ u' = .panicking ({ v := .iface 29 (.agg #[.int .i64 (e : Int), .int .i64 (p : Int)]), recovered := true } :: older) ∧ At 29 w' b (fa2 e p) ∧ But b w w' := by
  refine callsD_of_wpS Tryz.func23 rfl fun c₀ cs hu => ?_
  apply wpS_region
  simp [wpOpsS, go_sem, recoverD, hu, Tryz.ntmps23]
  refine (faultOf_some e p w).mono ?_
  rintro r w1 ⟨rfl, hb1⟩
  have hA1 := hA.below hb1
  have z0 := hA1.frozen 0
  have z1 := hA1.frozen 1
  obtain ⟨c0, c1⟩ := fa_cells hA1
  have hA2 : At 29 ((w1.setCell ⟨b, 0, none⟩ (.int .i64 (e : Int))).setCell ⟨b, 1, none⟩ (.int .i64 (p : Int))) b (fa2 e p) := (hA1.set 0 _).set 1 _
  have hB2 : But b w ((w1.setCell ⟨b, 0, none⟩ (.int .i64 (e : Int))).setCell ⟨b, 1, none⟩ (.int .i64 (p : Int))) := ((But.of_below hb1).setCell 0 _).setCell 1 _
  simp [fa2, go_sem, c0, c1, z0, z1, bodyPostS, results, Tryz.results23]
  exact ⟨hA2, hB2⟩

set_option maxRecDepth 100000 in
set_option maxHeartbeats 3200000 in
theorem caughtP_nil (b : Nat) (w : World) (x y : Nat) (hA : At 29 w b (fa2 x y)) :
    CallsD Tryz.prog 23 #[.pointer (some ⟨b, 0, none⟩)] .returning w fun r u' w' => r = .returned (.tuple #[]) ∧ u' = .returning ∧ At 29 w' b (fa2 0 0) ∧ But b w w' := by
  refine callsD_of_wpS Tryz.func23 rfl fun c₀ cs hu => ?_
  apply wpS_region
  simp [wpOpsS, go_sem, recoverD, hu, Tryz.ntmps23]
  refine (faultOf_nil w).mono ?_
  rintro r w1 ⟨rfl, hb1⟩
  have hA1 := hA.below hb1
  have z0 := hA1.frozen 0
  have z1 := hA1.frozen 1
  obtain ⟨c0, c1⟩ := fa_cells hA1
  have hA2 : At 29 ((w1.setCell ⟨b, 0, none⟩ (.int .i64 0)).setCell ⟨b, 1, none⟩ (.int .i64 0)) b (fa2 0 0) := (hA1.set 0 _).set 1 _
  have hB2 : But b w ((w1.setCell ⟨b, 0, none⟩ (.int .i64 0)).setCell ⟨b, 1, none⟩ (.int .i64 0)) := ((But.of_below hb1).setCell 0 _).setCell 1 _
  cases c₀
  simp_all [fa2, go_sem, bodyPostS, results, Tryz.results23]

set_option maxRecDepth 100000 in
set_option maxHeartbeats 6400000 in
theorem parseP_any (s : ByteArray) (w : World) (hmax : s.size ≤ 9223372036854775807) (hE : ErrR w) :
    Calls Tryz.prog 8 #[.string s] w fun r w' => PostPP w (pgO (bytes s) (programR (toksOf (bytes s)))) r w' := by
  have HO : Hid (∀ u, Below w.heap.size w u → Calls Tryz.prog 25 #[.string s] u fun r w' => PostO u (bytes s) r w') := fun u hu => open_any s u hmax (hE.below hu)
  have hmf : ∀ (fn : Fn) (first cap : Array Value) (w : World), (Instr.makeFunc fn first cap).run Tryz.prog w = .ok (.func fn first cap) w := fun _ _ _ _ => rfl
  unfold PostO at HO
  unfold pgO
  by_cases hc : (lexS (bytes s)).err = 0
  · rw [if_pos hc]
    simp only [if_pos hc] at HO
    have HX : Hid (∀ (g : Nat) (u : World), Rd u.heap.size u g (toksOf (bytes s)) → Calls Tryz.prog 26 #[.pointer (some ⟨g, 0, none⟩)] u fun r w' => PostPg u.heap.size g u (programR (toksOf (bytes s))) r w') := fun g u hu => program_any g _ u hu (Nat.le_refl _) (toks_len _)
    clear hc hE
    generalize programR (toksOf (bytes s)) = R at HX ⊢
    cases R with
    | bad e p =>
      go_enter_defers Tryz.func8, Tryz.ntmps8
      go_wp2_with (first
        | ((with_reducible show wpList _ _ _ _ _ _); refine wpList_alloc_at (o := { dst := some 2, .. }) rfl 26 rfl [.slice none 0 0, .slice none 0 0, .slice none 0 0] 3 zz26 ?_; intro w1 hA1 hb1 hs1; clear hs1)
        | ((with_reducible show wpList _ _ _ _ _ _); refine wpList_alloc_at (o := { dst := some 3, .. }) rfl 29 rfl (fa2 0 0) 2 z25 ?_; intro w2 hA2 hb2 hs2; clear hs2)
        | (go_at_call 25; refine (HO.out _ (hb1.trans (hb2.mono hb1.size))).mono ?_; rintro _ w3 ⟨g, rfl, hRd, hg, hb3⟩)
        | (go_at_call 26; refine (HX.out g _ hRd).mono ?_; rintro r w4 ⟨hr, hb4⟩; unfold PanW at hr; subst hr))
      have l1 := hA1.lt
      have l2 := hA2.lt
      have l3 := hb3.size
      have l4 := hb4.size
      have hB4 : Below w.heap.size w w4 := hb4.below ((hb1.trans (hb2.mono hb1.size)).trans (hb3.mono (by omega))) (by omega) (by omega)
      refine leaves_cons (f := 23) (args := #[.pointer (some ⟨w1.heap.size, 0, none⟩)]) (by simp) (by simp [go_sem]) ?_
      refine (caughtP_some w1.heap.size e p [] w4 0 0 (hb4.at (hA2.below hb3) (by omega))).mono ?_
      rintro _ u' w9 ⟨rfl, rfl, hA9, hb9⟩
      have hA19 : At 26 w9 w.heap.size noP.cells := hb9.at (hb4.at ((hA1.below hb2).below hb3) (by omega)) (by omega)
      have hB9 : Below w.heap.size w w9 := hb9.below hB4 (by omega) hB4.size
      have hres := results_two (P := Tryz.prog) (fn := Tryz.f8) (p := 2) (q := 3) (ty := 26) (tz := 29) rfl #[.string s, undef, .pointer (some ⟨w.heap.size, 0, none⟩), .pointer (some ⟨w1.heap.size, 0, none⟩), .pointer (some ⟨g, 0, none⟩), undef, .func (.func 23) #[] #[.pointer (some ⟨w1.heap.size, 0, none⟩)], .string s, .pointer (some ⟨g, 0, none⟩), .pointer (some ⟨g, 0, none⟩), undef, undef, undef, undef, undef] w9 w.heap.size w1.heap.size 26 29 noP.cells (fa2 e p) _ _ rfl rfl hA19 hA9 Tryz.underlying26 rfl (i26p _) Tryz.underlying29 rfl i25
      exact ⟨_, hres, noP, rfl, rfl, noP_py _ _, hB9⟩
    | ok x r =>
      have HE : Hid (∀ (B g : Nat) (u : World), Rd B u g r → Calls Tryz.prog 27 #[.pointer (some ⟨g, 0, none⟩)] u fun q w' => PostU B g u (endR r) q w') := fun B g u hu => end_any g r u hu
      dsimp only
      cases hn : endR r with
      | bad e p =>
        rw [hn] at HE
        dsimp only
        go_enter_defers Tryz.func8, Tryz.ntmps8
        go_wp2_with (first
          | ((with_reducible show wpList _ _ _ _ _ _); refine wpList_alloc_at (o := { dst := some 2, .. }) rfl 26 rfl [.slice none 0 0, .slice none 0 0, .slice none 0 0] 3 zz26 ?_; intro w1 hA1 hb1 hs1; clear hs1)
          | ((with_reducible show wpList _ _ _ _ _ _); refine wpList_alloc_at (o := { dst := some 3, .. }) rfl 29 rfl (fa2 0 0) 2 z25 ?_; intro w2 hA2 hb2 hs2; clear hs2)
          | (go_at_call 25; refine (HO.out _ (hb1.trans (hb2.mono hb1.size))).mono ?_; rintro _ w3 ⟨g, rfl, hRd, hg, hb3⟩)
          | (go_at_call 26; refine (HX.out g _ hRd).mono ?_; rintro _ w4 ⟨y, rfl, he, hTi, hTl, hR4, hb4⟩)
          | ((with_reducible show wpList _ _ _ _ _ _); refine wpList_alloc_at (o := { dst := some 5, .. }) rfl 26 rfl [.slice none 0 0, .slice none 0 0, .slice none 0 0] 3 zz26 ?_; intro w5 hA5 hb5 hs5; clear hs5)
          | ((with_reducible show wpList _ _ _ _ _ _); refine wpList_store_at (P := Tryz.prog) rfl 26 (.tmp 5) (.tmp 10) rfl w4.heap.size y.cells rfl rfl 26 _ hA5 (i26p _) (len26 _) (PT.one _) ?_; intro w6 hA6 hb6 hs6; clear hs6; refine Hid.out ?_))
        refine hidU ?_
        have l1 := hA1.lt
        have l2 := hA2.lt
        have l3 := hb3.size
        have l4 := hb4.size
        have l5 := hA5.lt
        have l6 := hb6.size
        have hB4 : Below w.heap.size w w4 := hb4.below ((hb1.trans (hb2.mono hb1.size)).trans (hb3.mono (by omega))) (by omega) (by omega)
        have hB6 : Below w.heap.size w w6 := hb6.below (hB4.trans (hb5.mono hB4.size)) (by omega) (by omega)
        have hA26 := hb6.at ((hb4.at (hA2.below hb3) (by omega)).below hb5) (by omega)
        have hA16 := hb6.at ((hb4.at ((hA1.below hb2).below hb3) (by omega)).below hb5) (by omega)
        have lg := hRd.lt
        have hT6 : Py w3.heap.size w6 y := Py.but (w := w4) ⟨hTi, hTl⟩ ((But.of_below (g := g) hb5).fresh hb6 (Nat.le_refl _)) (.inl lg)
        have hR6 := (hR4.below hb5).but hb6 (by omega)
        clear hA1 hA2 hA5 hb1 hb2 hb3 hb4 hb5 hb6 hTi hTl hR4 hRd
        go_wp2_with (first
          | (go_at_call 27; refine (HE.out _ g _ hR6).mono ?_; rintro q w7 ⟨hq, hb7⟩; unfold PanW at hq; subst hq))
        have hB7 : Below w.heap.size w w7 := hb7.below hB6 (by omega) hB6.size
        refine leaves_cons (f := 23) (args := #[.pointer (some ⟨w1.heap.size, 0, none⟩)]) (by simp) (by simp [go_sem]) ?_
        refine (caughtP_some w1.heap.size e p [] w7 0 0 (hb7.at hA26 (by omega))).mono ?_
        rintro _ u' w9 ⟨rfl, rfl, hA9, hb9⟩
        have hA19 : At 26 w9 w.heap.size noP.cells := hb9.at (hb7.at hA16 (by omega)) (by omega)
        have hB9 : Below w.heap.size w w9 := hb9.below hB7 (by omega) hB7.size
        have hres := results_two (P := Tryz.prog) (fn := Tryz.f8) (p := 2) (q := 3) (ty := 26) (tz := 29) rfl #[.string s, undef, .pointer (some ⟨w.heap.size, 0, none⟩), .pointer (some ⟨w1.heap.size, 0, none⟩), .pointer (some ⟨g, 0, none⟩), .pointer (some ⟨w4.heap.size, 0, none⟩), .func (.func 23) #[] #[.pointer (some ⟨w1.heap.size, 0, none⟩)], .string s, .pointer (some ⟨g, 0, none⟩), .pointer (some ⟨g, 0, none⟩), .agg y.cells.toArray, .pointer (some ⟨g, 0, none⟩), undef, undef, undef] w9 w.heap.size w1.heap.size 26 29 noP.cells (fa2 e p) _ _ rfl rfl hA19 hA9 Tryz.underlying26 rfl (i26p _) Tryz.underlying29 rfl i25
        exact ⟨_, hres, noP, rfl, rfl, noP_py _ _, hB9⟩
      | ok u1 r1 =>
        rw [hn] at HE
        dsimp only
        go_enter_defers Tryz.func8, Tryz.ntmps8
        go_wp2_with (first
          | ((with_reducible show wpList _ _ _ _ _ _); refine wpList_alloc_at (o := { dst := some 2, .. }) rfl 26 rfl [.slice none 0 0, .slice none 0 0, .slice none 0 0] 3 zz26 ?_; intro w1 hA1 hb1 hs1; clear hs1)
          | ((with_reducible show wpList _ _ _ _ _ _); refine wpList_alloc_at (o := { dst := some 3, .. }) rfl 29 rfl (fa2 0 0) 2 z25 ?_; intro w2 hA2 hb2 hs2; clear hs2)
          | (go_at_call 25; refine (HO.out _ (hb1.trans (hb2.mono hb1.size))).mono ?_; rintro _ w3 ⟨g, rfl, hRd, hg, hb3⟩)
          | (go_at_call 26; refine (HX.out g _ hRd).mono ?_; rintro _ w4 ⟨y, rfl, he, hTi, hTl, hR4, hb4⟩)
          | ((with_reducible show wpList _ _ _ _ _ _); refine wpList_alloc_at (o := { dst := some 5, .. }) rfl 26 rfl [.slice none 0 0, .slice none 0 0, .slice none 0 0] 3 zz26 ?_; intro w5 hA5 hb5 hs5; clear hs5)
          | ((with_reducible show wpList _ _ _ _ _ _); refine wpList_store_at (P := Tryz.prog) rfl 26 (.tmp 5) (.tmp 10) rfl w4.heap.size y.cells rfl rfl 26 _ hA5 (i26p _) (len26 _) (PT.one _) ?_; intro w6 hA6 hb6 hs6; clear hs6; refine Hid.out ?_))
        refine hidU ?_
        have l1 := hA1.lt
        have l2 := hA2.lt
        have l3 := hb3.size
        have l4 := hb4.size
        have l5 := hA5.lt
        have l6 := hb6.size
        have hB4 : Below w.heap.size w w4 := hb4.below ((hb1.trans (hb2.mono hb1.size)).trans (hb3.mono (by omega))) (by omega) (by omega)
        have hB6 : Below w.heap.size w w6 := hb6.below (hB4.trans (hb5.mono hB4.size)) (by omega) (by omega)
        have hA26 := hb6.at ((hb4.at (hA2.below hb3) (by omega)).below hb5) (by omega)
        have hA16 := hb6.at ((hb4.at ((hA1.below hb2).below hb3) (by omega)).below hb5) (by omega)
        have lg := hRd.lt
        have hT6 : Py w3.heap.size w6 y := Py.but (w := w4) ⟨hTi, hTl⟩ ((But.of_below (g := g) hb5).fresh hb6 (Nat.le_refl _)) (.inl lg)
        have hR6 := (hR4.below hb5).but hb6 (by omega)
        clear hA1 hA2 hA5 hb1 hb2 hb3 hb4 hb5 hb6 hTi hTl hR4 hRd
        go_wp2_with (first
          | (go_at_call 27; refine (HE.out _ g _ hR6).mono ?_; rintro q w7 ⟨rfl, hR7, hb7⟩; refine Hid.out ?_))
        refine hidU ?_
        have hB7 : Below w.heap.size w w7 := hb7.below hB6 (by omega) hB6.size
        have hA57 := hb7.at hA6 (by omega)
        have hA17 := hb7.at hA16 (by omega)
        have hA27 := hb7.at hA26 (by omega)
        have hT7 := hT6.but hb7 (.inl lg)
        have l7 := hb7.size
        clear hb7 hA6 hA16 hA26 hT6 HE HX HO
        go_wp2_with (first
          | ((with_reducible show wpList _ _ _ _ _ _); refine wpList_load_at (P := Tryz.prog) rfl 26 (.tmp 5) rfl w4.heap.size rfl 26 y.cells hA57 _ Tryz.underlying26 rfl (i26p _) ?_)
          | ((with_reducible show wpList _ _ _ _ _ _); refine wpList_build_at rfl 29 _ rfl (fa2 0 0) (by kernel_rfl) ?_)
          | ((with_reducible show wpList _ _ _ _ _ _); refine wpList_store_at (P := Tryz.prog) rfl 26 (.tmp 2) (.tmp 13) rfl w.heap.size y.cells rfl rfl 26 _ hA17 (i26p _) (len26 _) (PT.one _) ?_; intro w8 hA8 hb8 hs8; clear hs8; have hA28 := hb8.at hA27 (by omega))
          | ((with_reducible show wpList _ _ _ _ _ _); refine wpList_store_at (P := Tryz.prog) rfl 29 (.tmp 3) (.tmp 14) rfl w1.heap.size (fa2 0 0) rfl rfl 29 _ hA28 i25 rfl (one2f _ _) ?_; intro w9 hA9 hb9 hs9; clear hs9))
        refine leaves_cons (f := 23) (args := #[.pointer (some ⟨w1.heap.size, 0, none⟩)]) (by simp) (by simp [go_sem]) ?_
        refine (caughtP_nil w1.heap.size w9 0 0 hA9).mono ?_
        rintro _ u' w10 ⟨rfl, rfl, hA10, hb10⟩
        have hA1a : At 26 w10 w.heap.size y.cells := hb10.at (hb9.at hA8 (by omega)) (by omega)
        have hB10 : Below w.heap.size w w10 := hb10.below (hb9.below (hb8.below hB7 (Nat.le_refl _) hB7.size) (by omega) (by have := hb8.size; omega)) (by omega) (by have := hb8.size; have := hb9.size; omega)
        have hT10 : Py w.heap.size w10 y := (((hT7.but hb8 (.inl (by omega))).but hb9 (.inl (by omega))).but hb10 (.inl (by omega))).low (by omega)
        have hres := results_two (P := Tryz.prog) (fn := Tryz.f8) (p := 2) (q := 3) (ty := 26) (tz := 29) rfl #[.string s, undef, .pointer (some ⟨w.heap.size, 0, none⟩), .pointer (some ⟨w1.heap.size, 0, none⟩), .pointer (some ⟨g, 0, none⟩), .pointer (some ⟨w4.heap.size, 0, none⟩), .func (.func 23) #[] #[.pointer (some ⟨w1.heap.size, 0, none⟩)], .string s, .pointer (some ⟨g, 0, none⟩), .pointer (some ⟨g, 0, none⟩), .agg y.cells.toArray, .pointer (some ⟨g, 0, none⟩), .tuple #[], .agg y.cells.toArray, .agg (fa2 0 0).toArray] w10 w.heap.size w1.heap.size 26 29 y.cells (fa2 0 0) _ _ rfl rfl hA1a hA10 Tryz.underlying26 rfl (i26p _) Tryz.underlying29 rfl i25
        exact ⟨_, hres, y, rfl, he, hT10, hB10⟩
  · rw [if_neg hc]
    simp only [if_neg hc] at HO
    generalize (lexS (bytes s)).err = er at *
    generalize (lexS (bytes s)).place = pl at *
    go_enter_defers Tryz.func8, Tryz.ntmps8
    go_wp2_with (first
      | ((with_reducible show wpList _ _ _ _ _ _); refine wpList_alloc_at (o := { dst := some 2, .. }) rfl 26 rfl [.slice none 0 0, .slice none 0 0, .slice none 0 0] 3 zz26 ?_; intro w1 hA1 hb1 hs1; clear hs1)
      | ((with_reducible show wpList _ _ _ _ _ _); refine wpList_alloc_at (o := { dst := some 3, .. }) rfl 29 rfl (fa2 0 0) 2 z25 ?_; intro w2 hA2 hb2 hs2; clear hs2)
      | (go_at_call 25; refine (HO.out _ (hb1.trans (hb2.mono hb1.size))).mono ?_; rintro r w3 ⟨hr, hb3⟩; unfold PanW at hr; subst hr))
    refine leaves_cons (f := 23) (args := #[.pointer (some ⟨w1.heap.size, 0, none⟩)]) (by simp) (by simp [go_sem]) ?_
    have l1 := hA1.lt
    refine (caughtP_some w1.heap.size er pl [] w3 0 0 (hA2.below hb3)).mono ?_
    rintro e u' w9 ⟨rfl, rfl, hA9, hb9⟩
    have hA19 : At 26 w9 w.heap.size noP.cells := hb9.at ((hA1.below hb2).below hb3) (by omega)
    have hB9 : Below w.heap.size w w9 := hb9.below ((hb1.trans (hb2.mono hb1.size)).trans (hb3.mono (Nat.le_trans hb1.size hb2.size))) hb1.size (by have := hb1.size; have := hb2.size; have := hb3.size; omega)
    have hres := results_two (P := Tryz.prog) (fn := Tryz.f8) (p := 2) (q := 3) (ty := 26) (tz := 29) rfl #[.string s, undef, .pointer (some ⟨w.heap.size, 0, none⟩), .pointer (some ⟨w1.heap.size, 0, none⟩), undef, undef, .func (.func 23) #[] #[.pointer (some ⟨w1.heap.size, 0, none⟩)], .string s, undef, undef, undef, undef, undef, undef, undef] w9 w.heap.size w1.heap.size 26 29 noP.cells (fa2 er pl) _ _ rfl rfl hA19 hA9 Tryz.underlying26 rfl (i26p _) Tryz.underlying29 rfl i25
    exact ⟨_, hres, noP, rfl, rfl, noP_py _ _, hB9⟩

end Go.Proofs.YtjgggmjjikopeaaGreatDoor

/- The document's reader. -/
namespace Go.Proofs.YtjgggmjjikopeaaGreatDoor
open Go.RowKit
set_option linter.unusedVariables false

/-- The document's reader: its seven cells. -/
def q7 (a : Option Addr) (n c k en er pl ne bl : Nat) : List Value := [.slice a n c, .int .i64 (k : Int), .int .i64 (en : Int), .int .i64 (er : Int), .int .i64 (pl : Int), .int .i64 (ne : Int), .int .i64 (bl : Int)]
/-- The document's reader, its tokens, how far it is, its fault, how deep. -/
structure Qd (B : Nat) (w : World) (g : Nat) (L : List Tk) (a : Option Addr) (c k en er pl ne bl : Nat) : Prop where
  cell : At 71 w g (q7 a L.length c k en er pl ne bl)
  toks : L = [] ∨ ∃ gt, a = some ⟨gt, 0, none⟩ ∧ gt ≠ g ∧ gt < B ∧ w.rangeAt gt 0 (flat L)
  le : k ≤ L.length
  len : L.length ≤ 1048576
  low : g < B
theorem Qd.lt {B : Nat} {w : World} {g : Nat} {L : List Tk} {a : Option Addr} {c k en er pl ne bl : Nat} (h : Qd B w g L a c k en er pl ne bl) : g < w.heap.size := h.cell.lt
theorem flat_lt {w : World} {gt : Nat} {L : List Tk} (hL : L ≠ []) (h : w.rangeAt gt 0 (flat L)) : gt < w.heap.size := by
  cases L with
  | nil => exact absurd rfl hL
  | cons t r => exact cells_lt (h 0 _ rfl)
/-- Other blocks are written. -/
theorem Qd.keep {B : Nat} {w w' : World} {g : Nat} {L : List Tk} {a : Option Addr} {c k en er pl ne bl : Nat} (h : Qd B w g L a c k en er pl ne bl) (hb : ∀ j, j < w.heap.size → j < B → w'.heap[j]? = w.heap[j]?) : Qd B w' g L a c k en er pl ne bl := by
  refine ⟨?_, ?_, h.le, h.len, h.low⟩
  · unfold At
    rw [hb g h.lt h.low]
    exact h.cell
  · by_cases hL : L = []
    · exact .inl hL
    · rcases h.toks with q | ⟨gt, h1, h2, h3, h4⟩
      · exact .inl q
      · exact .inr ⟨gt, h1, h2, h3, fun j v hj => by rw [World.cell?_of_block (w := w) (hb gt (flat_lt hL h4) h3)]; exact h4 j v hj⟩
theorem Qd.below {B : Nat} {w w' : World} {g : Nat} {L : List Tk} {a : Option Addr} {c k en er pl ne bl : Nat} (h : Qd B w g L a c k en er pl ne bl) (hb : Below w.heap.size w w') : Qd B w' g L a c k en er pl ne bl := h.keep fun j hj _ => hb.block j hj
theorem Qd.but {B : Nat} {w w' : World} {g b : Nat} {L : List Tk} {a : Option Addr} {c k en er pl ne bl : Nat} (h : Qd B w g L a c k en er pl ne bl) (hb : But b w w') (hB : B ≤ b) : Qd B w' g L a c k en er pl ne bl := h.keep fun j hj hl => hb.block j hj (by omega)
/-- The reader itself is written. -/
theorem Qd.set {B : Nat} {w w' : World} {g : Nat} {L : List Tk} {a : Option Addr} {c k en er pl ne bl k' er' pl' ne' bl' : Nat} (h : Qd B w g L a c k en er pl ne bl) (hA : At 71 w' g (q7 a L.length c k' en er' pl' ne' bl')) (hb : But g w w') (hk : k' ≤ L.length) : Qd B w' g L a c k' en er' pl' ne' bl' := by
  refine ⟨hA, ?_, hk, h.len, h.low⟩
  by_cases hL : L = []
  · exact .inl hL
  · rcases h.toks with q | ⟨gt, h1, h2, h3, h4⟩
    · exact .inl q
    · exact .inr ⟨gt, h1, h2, h3, fun j v hj => by rw [World.cell?_of_block (w := w) (hb.block gt (flat_lt hL h4) h2)]; exact h4 j v hj⟩
/-- What it has ahead. -/
def aheadT (L : List Tk) (k en : Nat) : List Tk := L.drop k ++ [⟨0, [], en, 0⟩]
end Go.Proofs.YtjgggmjjikopeaaGreatDoor

/- The document's reader: words and signs. -/
namespace Go.Proofs.YtjgggmjjikopeaaGreatDoor
open Go.RowKit
set_option linter.unusedVariables false

theorem Qd.drewN {B : Nat} {w : World} {g : Nat} {L : List Tk} {a : Option Addr} {c k en er pl ne bl : Nat} (h : Qd B w g L a c k en er pl ne bl) (m : Nat) : Qd B (w.drewN m) g L a c k en er pl ne bl := h.keep fun j _ _ => rfl
theorem below_drewN (w : World) (m : Nat) : Below w.heap.size w (w.drewN m) := ⟨rfl, rfl, rfl, Nat.le_refl _, fun _ _ => rfl⟩
end Go.Proofs.YtjgggmjjikopeaaGreatDoor

/- The document's reader: an expression is made. -/
namespace Go.Proofs.YtjgggmjjikopeaaGreatDoor
open Go.RowKit
set_option linter.unusedVariables false

end Go.Proofs.YtjgggmjjikopeaaGreatDoor

/- The document's own names. -/
namespace Go.Proofs.YtjgggmjjikopeaaGreatDoor
open Ieee Go.RowKit
set_option linter.unusedVariables false
end Go.Proofs.YtjgggmjjikopeaaGreatDoor

/- The document's reader: a name. -/
namespace Go.Proofs.YtjgggmjjikopeaaGreatDoor
open Go.RowKit
set_option linter.unusedVariables false

end Go.Proofs.YtjgggmjjikopeaaGreatDoor

/- The document's reader: a literal. -/
namespace Go.Proofs.YtjgggmjjikopeaaGreatDoor
open Go.RowKit
set_option linter.unusedVariables false

end Go.Proofs.YtjgggmjjikopeaaGreatDoor

/- The document's reader: a literal, or none. -/
namespace Go.Proofs.YtjgggmjjikopeaaGreatDoor
open Go.RowKit
set_option linter.unusedVariables false

end Go.Proofs.YtjgggmjjikopeaaGreatDoor

/- The document's reader, from any state. -/
namespace Go.Proofs.YtjgggmjjikopeaaGreatDoor
open Go.RowKit
set_option linter.unusedVariables false

/-- A part behind another one. -/
def Rs.andThen {α β : Type} (S : Rs α) (f : α → List Tk → Rs β) : Rs β := match S with
  | .ok v l => f v l
  | .bad e p => .bad e p
/-- How far the document's reader is, or its fault. -/
def StOf (L : List Tk) (en k er pl : Nat) {α : Type} (S : Rs α) : Prop := match S with
  | .ok _ l => er = 0 ∧ pl = 0 ∧ aheadT L k en = l
  | .bad e p => er = e ∧ pl = p ∧ k = L.length ∧ e ≠ 0

/-- What a part of the document that reads an expression leaves. -/
def PostR (B g : Nat) (L : List Tk) (a : Option Addr) (c en ne bl : Nat) (w : World) (R : Rs Ex) (r : Ending) (w' : World) : Prop :=
  ∃ (y : ET) (k er pl ne' : Nat), r = .returned (.agg y.cells.toArray) ∧ Tw w.heap.size w' y ∧ But g w w' ∧ Qd B w' g L a c k en er pl ne' bl ∧ StOf L en k er pl R ∧ ne ≤ ne' ∧ ne' ≤ 33 ∧ ∀ e l, R = .ok e l → y.ex = e ∧ ne' = ne

def RuW (f : Nat) : Prop := ∀ (n : Nat) (R : Rs Ex) (B g : Nat) (L : List Tk) (a : Option Addr) (c k en d bl : Nat) (w : World), n ≤ 5 → d ≤ 32 → (∀ t ∈ L, TkOk t) → ruleF f n d (aheadT L k en) = some R → Qd B w g L a c k en 0 0 d bl → B ≤ w.heap.size →
  Calls Tryz.prog 110 #[.pointer (some ⟨g, 0, none⟩), .int .i64 (n : Int)] w fun r w' => PostR B g L a c en d bl w R r w'
end Go.Proofs.YtjgggmjjikopeaaGreatDoor

/- Brackets and conversions, as the document reads them. -/
namespace Go.Proofs.YtjgggmjjikopeaaGreatDoor
open Go.RowKit
set_option linter.unusedVariables false

theorem RuW.zero : RuW 0 := fun n R B g L a c k en d bl w _ _ _ h => by simp [ruleF] at h
theorem andThen_ok {α β : Type} (v : α) (l : List Tk) (f : α → List Tk → Rs β) : (Rs.ok v l : Rs α).andThen f = f v l := rfl
end Go.Proofs.YtjgggmjjikopeaaGreatDoor

/- The document's primary. -/
namespace Go.Proofs.YtjgggmjjikopeaaGreatDoor
open Go.RowKit
set_option linter.unusedVariables false

end Go.Proofs.YtjgggmjjikopeaaGreatDoor

/- The document's unary. -/
namespace Go.Proofs.YtjgggmjjikopeaaGreatDoor
open Go.RowKit
set_option linter.unusedVariables false

end Go.Proofs.YtjgggmjjikopeaaGreatDoor

/- The document's signs of two operands. -/
namespace Go.Proofs.YtjgggmjjikopeaaGreatDoor
open Go.RowKit
set_option linter.unusedVariables false

end Go.Proofs.YtjgggmjjikopeaaGreatDoor

/- The document's rules. -/
namespace Go.Proofs.YtjgggmjjikopeaaGreatDoor
open Go.RowKit
set_option linter.unusedVariables false

end Go.Proofs.YtjgggmjjikopeaaGreatDoor

/- The document's rules, however far, and whole expressions. -/
namespace Go.Proofs.YtjgggmjjikopeaaGreatDoor
open Go.RowKit
set_option linter.unusedVariables false

end Go.Proofs.YtjgggmjjikopeaaGreatDoor

/- The document's Expr. -/
namespace Go.Proofs.YtjgggmjjikopeaaGreatDoor
open Go.RowKit
set_option linter.unusedVariables false

end Go.Proofs.YtjgggmjjikopeaaGreatDoor

/- The document's Expr, of tokens. -/
namespace Go.Proofs.YtjgggmjjikopeaaGreatDoor
open Go.RowKit
set_option linter.unusedVariables false

end Go.Proofs.YtjgggmjjikopeaaGreatDoor

/- The document's Expr, of any text. -/
namespace Go.Proofs.YtjgggmjjikopeaaGreatDoor
open Go.RowKit
set_option linter.unusedVariables false

end Go.Proofs.YtjgggmjjikopeaaGreatDoor

/- What stands for the awake's texts. -/
namespace Go.Proofs.YtjgggmjjikopeaaGreatDoor
open Go.RowKit
set_option linter.unusedVariables false

/-- The awake's texts. -/
def txA : List UInt8 := [97, 32, 45, 32, 98, 32, 45, 32, 99, 32, 42, 32, 45, 100]
def txB : List UInt8 := [97, 32, 60, 32, 98, 32, 60, 32, 99]
def rsA : Rs Ex := (rowF 60 1 0 (toksOf txA)).getD (.bad 0 0)
def rsB : Rs Ex := (rowF 60 1 0 (toksOf txB)).getD (.bad 0 0)
theorem getD_some {α : Type} {o : Option α} {d : α} (h : o.isSome = true) : o = some (o.getD d) := by
  cases o with
  | none => cases h
  | some x => rfl
theorem evA : ∃ f, rowF f 1 0 (toksOf txA) = some rsA := ⟨60, getD_some (by kernel_rfl)⟩
theorem evB : ∃ f, rowF f 1 0 (toksOf txB) = some rsB := ⟨60, getD_some (by kernel_rfl)⟩
theorem exB_ev : exO txB rsB = (noX.ex, 4, 6) := by kernel_rfl
theorem exA_ev : (exO txA rsA).2 = (0, 0) := by kernel_rfl
theorem exA_tx : exT (exO txA rsA).1 = [40, 40, 97, 32, 45, 32, 98, 41, 32, 45, 32, 40, 99, 32, 42, 32, 45, 100, 41, 41] := by kernel_rfl
theorem exA_may : mayE 32 (exO txA rsA).1 = true := by kernel_rfl

end Go.Proofs.YtjgggmjjikopeaaGreatDoor

/- The awake. -/
namespace Go.Proofs.YtjgggmjjikopeaaGreatDoor
open Go.RowKit
set_option linter.unusedVariables false

theorem parseA (w : World) (hE : ErrR w) : Calls Tryz.prog 13 #[.string ⟨#[97, 32, 45, 32, 98, 32, 45, 32, 99, 32, 42, 32, 45, 100]⟩] w fun r w' => ∃ y : ET, r = .returned (.tuple #[.agg y.cells.toArray, .agg (fa2 0 0).toArray]) ∧ mayE 32 y.ex = true ∧ exT y.ex = bytes ⟨#[40, 40, 97, 32, 45, 32, 98, 41, 32, 45, 32, 40, 99, 32, 42, 32, 45, 100, 41, 41]⟩ ∧ Tw w.heap.size w' y ∧ Below w.heap.size w w' := by
  refine (parseExpr_any ⟨#[97, 32, 45, 32, 98, 32, 45, 32, 99, 32, 42, 32, 45, 100]⟩ w (by decide) hE rsA evA).mono ?_
  rintro r w' ⟨y, rfl, hy, hT, hb⟩
  have h2 : (exO (bytes ⟨#[97, 32, 45, 32, 98, 32, 45, 32, 99, 32, 42, 32, 45, 100]⟩) rsA).2 = (0, 0) := exA_ev
  refine ⟨y, ?_, ?_, ?_, hT, hb⟩
  · rw [h2]
  · rw [hy]; exact exA_may
  · rw [hy]; exact exA_tx
theorem parseB (w : World) (hE : ErrR w) : Calls Tryz.prog 13 #[.string ⟨#[97, 32, 60, 32, 98, 32, 60, 32, 99]⟩] w fun r w' => ∃ y : ET, r = .returned (.tuple #[.agg y.cells.toArray, .agg (fa2 4 6).toArray]) ∧ y.ex = noX.ex ∧ Tw w.heap.size w' y ∧ Below w.heap.size w w' := by
  refine (parseExpr_any ⟨#[97, 32, 60, 32, 98, 32, 60, 32, 99]⟩ w (by decide) hE rsB evB).mono ?_
  rintro r w' ⟨y, rfl, hy, hT, hb⟩
  have h2 : exO (bytes ⟨#[97, 32, 60, 32, 98, 32, 60, 32, 99]⟩) rsB = (noX.ex, 4, 6) := exB_ev
  rw [h2] at hy ⊢
  exact ⟨y, rfl, hy, hT, hb⟩

set_option maxRecDepth 100000 in
set_option maxHeartbeats 3200000 in
theorem printed_yes (w : World) (hE : ErrR w) (hT : Tab w) (h16 : gB ≤ w.heap.size) :
    Calls Tryz.prog 36 #[.string ⟨#[97, 32, 45, 32, 98, 32, 45, 32, 99, 32, 42, 32, 45, 100]⟩, .string ⟨#[40, 40, 97, 32, 45, 32, 98, 41, 32, 45, 32, 40, 99, 32, 42, 32, 45, 100, 41, 41]⟩] w fun r w' => r = .returned (.bool true) ∧ Below w.heap.size w w' := by
  have HP := parseA w hE
  clear hE
  go_enter Tryz.func36, Tryz.ntmps36
  go_wp2_with (first
    | (go_at_call 13; refine HP.mono ?_; rintro _ w1 ⟨y, rfl, hm, hx, hTy, hb1⟩)
    | ((with_reducible show wpList _ _ _ _ _ _); refine wpList_alloc_at (o := { dst := some 5, .. }) rfl 43 rfl [.int .u8 0, .int .u8 0, .int .u64 0, .string ⟨#[]⟩, .slice none 0 0] 5 z29 ?_; intro w2 hA2 hb2 hs2; clear hs2)
    | ((with_reducible show wpList _ _ _ _ _ _); refine wpList_alloc_at (o := { dst := some 6, .. }) rfl 29 rfl (fa2 0 0) 2 z25 ?_; intro w3 hA3 hb3 hs3; clear hs3)
    | ((with_reducible show wpList _ _ _ _ _ _); refine wpList_store_at (P := Tryz.prog) rfl 43 (.tmp 5) (.tmp 12) rfl w1.heap.size y.cells rfl rfl 43 _ (hA2.below hb3) (i43 _) (len43 _) (ET.one _) ?_; intro w4 hA4 hb4 hs4; clear hs4; have hA34 := hb4.at hA3 (by have := hA2.lt; omega))
    | ((with_reducible show wpList _ _ _ _ _ _); refine wpList_store_at (P := Tryz.prog) rfl 29 (.tmp 6) (.tmp 13) rfl w2.heap.size (fa2 0 0) rfl rfl 29 _ hA34 i25 rfl (one2f _ _) ?_; intro w5 hA5 hb5 hs; clear hs; refine Hid.out ?_))
  refine hidU ?_
  have l1 := hb1.size
  have l2 := hA2.lt
  have l3 := hA3.lt
  have l4 := hb4.size
  have l5 := hb5.size
  have hB3 : Below w1.heap.size w1 w3 := hb2.trans (hb3.mono hb2.size)
  have hB5 : Below w1.heap.size w1 w5 := hb5.below (hb4.below hB3 (Nat.le_refl _) (by omega)) (by omega) (by omega)
  have hBw : Below w.heap.size w w5 := hb1.trans (hB5.mono l1)
  have hA45 := hb5.at hA4 (by omega)
  have hTy5 := hTy.below hB5
  have hlen : (exT y.ex).length ≤ 70368744177664 := by rw [hx]; decide
  have HX := expr4_any y w5.heap.size w5 hTy5.1 (Nat.le_refl _) (hT.below hBw h16) (Nat.le_trans h16 hBw.size) hlen
  rw [if_pos hm, if_pos hm, hx] at HX
  clear hA2 hA3 hA4 hA34 hb1 hb2 hb3 hb4 hb5 hB3 hTy hm hx hlen HP
  go_wp2_with (first
    | ((with_reducible show wpList _ _ _ _ _ _); refine wpList_load_at (P := Tryz.prog) rfl 43 (.tmp 5) rfl w1.heap.size rfl 43 y.cells hA45 _ Tryz.underlying43 rfl (i43 _) ?_)
    | (go_at_call 70; refine HX.mono ?_; rintro _ w6 ⟨rfl, hb6⟩; have hA56 := hA5.below hb6; obtain ⟨c0, c1⟩ := fa_cells hA56))
  go_ret
  refine ⟨?_, hBw.trans (hb6.mono hBw.size)⟩
  rfl

end Go.Proofs.YtjgggmjjikopeaaGreatDoor

/- The law of ParseExpr. -/
namespace Go.Proofs.YtjgggmjjikopeaaGreatDoor
open Go.RowKit
set_option linter.unusedVariables false

set_option maxRecDepth 100000 in
set_option maxHeartbeats 3200000 in
theorem fault_yes (w : World) (hE : ErrR w) :
    Calls Tryz.prog 16 #[.string ⟨#[97, 32, 60, 32, 98, 32, 60, 32, 99]⟩, .bool false, .int .i64 4, .int .i64 6] w fun r w' => r = .returned (.bool true) ∧ Below w.heap.size w w' := by
  have HP := parseB w hE
  clear hE
  go_enter Tryz.func16, Tryz.ntmps16
  go_wp2_with (first
    | (go_at_call 13; refine HP.mono ?_; rintro _ w1 ⟨y, rfl, hy, hTy, hb1⟩)
    | ((with_reducible show wpList _ _ _ _ _ _); refine wpList_alloc_at (o := { dst := some 11, .. }) rfl 43 rfl [.int .u8 0, .int .u8 0, .int .u64 0, .string ⟨#[]⟩, .slice none 0 0] 5 z29 ?_; intro w2 hA2 hb2 hs2; clear hs2)
    | ((with_reducible show wpList _ _ _ _ _ _); refine wpList_alloc_at (o := { dst := some 12, .. }) rfl 29 rfl (fa2 0 0) 2 z25 ?_; intro w3 hA3 hb3 hs3; clear hs3)
    | ((with_reducible show wpList _ _ _ _ _ _); refine wpList_store_at (P := Tryz.prog) rfl 43 (.tmp 11) (.tmp 46) rfl w1.heap.size y.cells rfl rfl 43 _ (hA2.below hb3) (i43 _) (len43 _) (ET.one _) ?_; intro w4 hA4 hb4 hs4; clear hs4; have hA34 := hb4.at hA3 (by have := hA2.lt; omega))
    | ((with_reducible show wpList _ _ _ _ _ _); refine wpList_store_at (P := Tryz.prog) rfl 29 (.tmp 12) (.tmp 47) rfl w2.heap.size (fa2 4 6) rfl rfl 29 _ hA34 i25 rfl (one2f _ _) ?_; intro w5 hA5 hb5 hs; clear hs; refine Hid.out ?_))
  refine hidU ?_
  have l1 := hb1.size
  have l2 := hA2.lt
  have l3 := hA3.lt
  have l4 := hb4.size
  have l5 := hb5.size
  have hB3 : Below w1.heap.size w1 w3 := hb2.trans (hb3.mono hb2.size)
  have hB5 : Below w1.heap.size w1 w5 := hb5.below (hb4.below hB3 (Nat.le_refl _) (by omega)) (by omega) (by omega)
  have hBw : Below w.heap.size w w5 := hb1.trans (hB5.mono l1)
  have hA45 := hb5.at hA4 (by omega)
  obtain ⟨c0, c1⟩ := fa_cells hA5
  obtain ⟨op, t, b, nm, a, c, ks⟩ := y
  have hop : op = 0 := by
    have := congrArg (fun x : Ex => match x with | .mk op _ _ _ _ => op) hy
    simpa [ET.ex, noX] using this
  subst hop
  have d0 : w5.cell? ⟨w1.heap.size, 0, none⟩ = some (.int .u8 0) := by rw [hA45.cell]; rfl
  clear hA2 hA3 hA4 hA34 hb1 hb2 hb3 hb4 hb5 hB3 hTy HP hy hA45 hA5
  go_wp2
  go_ret
  refine ⟨?_, hBw⟩
  rfl

end Go.Proofs.YtjgggmjjikopeaaGreatDoor

/- The awake, whole. -/
namespace Go.Proofs.YtjgggmjjikopeaaGreatDoor
open Go.RowKit
set_option linter.unusedVariables false

set_option maxRecDepth 100000 in
set_option maxHeartbeats 3200000 in
theorem awake6 (w : World) (hE : ErrR w) (hT : Tab w) (h16 : gB ≤ w.heap.size) : Calls Tryz.prog 12 #[] w fun r w' => r = .returned (.bool true) ∧ Below w.heap.size w w' := by
  have HP := printed_yes w hE hT h16
  go_enter Tryz.func12, Tryz.ntmps12
  go_wp2_with (first
    | (go_at_call 36; refine HP.mono ?_; rintro _ w1 ⟨rfl, hb1⟩)
    | (go_at_call 16; refine (fault_yes w1 (hE.below hb1)).mono ?_; rintro _ w2 ⟨rfl, hb2⟩))
  go_ret
  exact ⟨rfl, hb1.trans (hb2.mono hb1.size)⟩

end Go.Proofs.YtjgggmjjikopeaaGreatDoor

/- Faults told of texts; a text so often. -/
namespace Go.Proofs.YtjgggmjjikopeaaGreatDoor
open Go.RowKit
set_option linter.unusedVariables false

set_option maxRecDepth 100000 in
set_option maxHeartbeats 3200000 in
theorem faultE_any (s : ByteArray) (e p : Nat) (hmax : s.size ≤ 9223372036854775807) (hx : exO (bytes s) (exprR (toksOf (bytes s))) = (noX.ex, e, p)) (w : World) (hE : ErrR w) :
    Calls Tryz.prog 16 #[.string s, .bool false, .int .i64 (e : Int), .int .i64 (p : Int)] w fun r w' => r = .returned (.bool true) ∧ Below w.heap.size w w' := by
  have HP := parseExpr_any s w hmax hE _ ⟨_, exprR_row _⟩
  rw [hx] at HP
  clear hE hx hmax
  go_enter Tryz.func16, Tryz.ntmps16
  go_wp2_with (first
    | (go_at_call 13; refine HP.mono ?_; rintro _ w1 ⟨y, rfl, hy, hTy, hb1⟩)
    | ((with_reducible show wpList _ _ _ _ _ _); refine wpList_alloc_at (o := { dst := some 11, .. }) rfl 43 rfl [.int .u8 0, .int .u8 0, .int .u64 0, .string ⟨#[]⟩, .slice none 0 0] 5 z29 ?_; intro w2 hA2 hb2 hs2; clear hs2)
    | ((with_reducible show wpList _ _ _ _ _ _); refine wpList_alloc_at (o := { dst := some 12, .. }) rfl 29 rfl (fa2 0 0) 2 z25 ?_; intro w3 hA3 hb3 hs3; clear hs3)
    | ((with_reducible show wpList _ _ _ _ _ _); refine wpList_store_at (P := Tryz.prog) rfl 43 (.tmp 11) (.tmp 46) rfl w1.heap.size y.cells rfl rfl 43 _ (hA2.below hb3) (i43 _) (len43 _) (ET.one _) ?_; intro w4 hA4 hb4 hs4; clear hs4; have hA34 := hb4.at hA3 (by have := hA2.lt; omega))
    | ((with_reducible show wpList _ _ _ _ _ _); refine wpList_store_at (P := Tryz.prog) rfl 29 (.tmp 12) (.tmp 47) rfl w2.heap.size (fa2 e p) rfl rfl 29 _ hA34 i25 rfl (one2f _ _) ?_; intro w5 hA5 hb5 hs; clear hs; refine Hid.out ?_))
  refine hidU ?_
  have l1 := hb1.size
  have l2 := hA2.lt
  have l3 := hA3.lt
  have l4 := hb4.size
  have l5 := hb5.size
  have hB3 : Below w1.heap.size w1 w3 := hb2.trans (hb3.mono hb2.size)
  have hB5 : Below w1.heap.size w1 w5 := hb5.below (hb4.below hB3 (Nat.le_refl _) (by omega)) (by omega) (by omega)
  have hBw : Below w.heap.size w w5 := hb1.trans (hB5.mono l1)
  have hA45 := hb5.at hA4 (by omega)
  obtain ⟨c0, c1⟩ := fa_cells hA5
  obtain ⟨op, t, b, nm, a, c, ks⟩ := y
  have hop : op = 0 := by
    have := congrArg (fun x : Ex => match x with | .mk op _ _ _ _ => op) hy
    simpa [ET.ex, noX] using this
  subst hop
  have d0 : w5.cell? ⟨w1.heap.size, 0, none⟩ = some (.int .u8 0) := by rw [hA45.cell]; rfl
  have e1 : ((e : Int) == (e : Int)) = true := by simp
  have e2 : ((p : Int) == (p : Int)) = true := by simp
  clear hA2 hA3 hA4 hA34 hb1 hb2 hb3 hb4 hb5 hB3 hTy HP hy hA45 hA5
  go_wp2
  go_ret
  exact ⟨rfl, hBw⟩

set_option maxRecDepth 100000 in
set_option maxHeartbeats 3200000 in
theorem faultP_any (s : ByteArray) (e p : Nat) (hmax : s.size ≤ 9223372036854775807) (hx : pgO (bytes s) (programR (toksOf (bytes s))) = (noP.pg, e, p)) (w : World) (hE : ErrR w) :
    Calls Tryz.prog 16 #[.string s, .bool true, .int .i64 (e : Int), .int .i64 (p : Int)] w fun r w' => r = .returned (.bool true) ∧ Below w.heap.size w w' := by
  have HP := parseP_any s w hmax hE
  rw [hx] at HP
  clear hE hx hmax
  go_enter Tryz.func16, Tryz.ntmps16
  go_wp2_with (go_at_call 8; refine HP.mono ?_; rintro _ w1 ⟨y, rfl, hy, hTy, hb1⟩; refine Hid.out ?_)
  refine hidU ?_
  obtain ⟨a1, c1, s1, a2, c2, s2, a3, c3, s3⟩ := y
  have hq : s1 = [] ∧ s2 = [] ∧ s3 = [] := by
    have h1 := congrArg Pg.shared hy
    have h2 := congrArg Pg.mutexes hy
    have h3 := congrArg Pg.threads hy
    exact ⟨List.map_eq_nil_iff.1 h1, List.map_eq_nil_iff.1 h2, List.map_eq_nil_iff.1 h3⟩
  obtain ⟨rfl, rfl, rfl⟩ := hq
  have hcs : (⟨a1, c1, [], a2, c2, [], a3, c3, []⟩ : PT).cells = [.slice a1 0 c1, .slice a2 0 c2, .slice a3 0 c3] := rfl
  rw [hcs]
  clear hy hTy hcs HP
  go_wp2_with (first
    | ((with_reducible show wpList _ _ _ _ _ _); refine wpList_alloc_at (o := { dst := some 9, .. }) rfl 26 rfl [.slice none 0 0, .slice none 0 0, .slice none 0 0] 3 zz26 ?_; intro w2 hA2 hb2 hs2; clear hs2)
    | ((with_reducible show wpList _ _ _ _ _ _); refine wpList_alloc_at (o := { dst := some 10, .. }) rfl 29 rfl (fa2 0 0) 2 z25 ?_; intro w3 hA3 hb3 hs3; clear hs3)
    | ((with_reducible show wpList _ _ _ _ _ _); refine wpList_store_at (P := Tryz.prog) rfl 26 (.tmp 9) (.tmp 17) rfl w1.heap.size [.slice a1 0 c1, .slice a2 0 c2, .slice a3 0 c3] rfl rfl 26 _ (hA2.below hb3) i26 rfl (by intro v hv; simp at hv; rcases hv with rfl | rfl | rfl <;> rfl) ?_; intro w4 hA4 hb4 hs4; clear hs4; have hA34 := hb4.at hA3 (by have := hA2.lt; omega))
    | ((with_reducible show wpList _ _ _ _ _ _); refine wpList_store_at (P := Tryz.prog) rfl 29 (.tmp 10) (.tmp 18) rfl w2.heap.size (fa2 e p) rfl rfl 29 _ hA34 i25 rfl (one2f _ _) ?_; intro w5 hA5 hb5 hs; clear hs; refine Hid.out ?_))
  refine hidU ?_
  have l1 := hb1.size
  have l2 := hA2.lt
  have l3 := hA3.lt
  have l4 := hb4.size
  have l5 := hb5.size
  have hB3 : Below w1.heap.size w1 w3 := hb2.trans (hb3.mono hb2.size)
  have hB5 : Below w1.heap.size w1 w5 := hb5.below (hb4.below hB3 (Nat.le_refl _) (by omega)) (by omega) (by omega)
  have hBw : Below w.heap.size w w5 := hb1.trans (hB5.mono l1)
  have hA45 := hb5.at hA4 (by omega)
  obtain ⟨c0, c1'⟩ := fa_cells hA5
  obtain ⟨d0, d1, d2⟩ := c3_cells hA45
  have e1 : ((e : Int) == (e : Int)) = true := by simp
  have e2 : ((p : Int) == (p : Int)) = true := by simp
  clear hA2 hA3 hA4 hA34 hb1 hb2 hb3 hb4 hb5 hB3 hA45 hA5
  go_wp2
  go_ret
  exact ⟨rfl, hBw⟩

end Go.Proofs.YtjgggmjjikopeaaGreatDoor

/- A text so often. -/
namespace Go.Proofs.YtjgggmjjikopeaaGreatDoor
open Go.RowKit
set_option linter.unusedVariables false

/-- A text so often. -/
def manyS (s : List UInt8) : Nat → List UInt8
  | 0 => []
  | n + 1 => manyS s n ++ s
theorem manyS_len (s : List UInt8) : ∀ n, (manyS s n).length = n * s.length
  | 0 => by simp [manyS]
  | n + 1 => by rw [manyS, List.length_append, manyS_len s n, Nat.add_mul]; omega
theorem app_ba (x y : List UInt8) : (⟨x.toArray⟩ : ByteArray) ++ (⟨y.toArray⟩ : ByteArray) = ⟨(x ++ y).toArray⟩ := by
  apply ByteArray.ext
  simp
set_option maxRecDepth 100000 in
set_option maxHeartbeats 1600000 in
theorem many_any (s : List UInt8) (n : Nat) (hn : n ≤ 1000) (hs : s.length ≤ 1000) (w : World) :
    Calls Tryz.prog 17 #[.string ⟨s.toArray⟩, .int .i64 (n : Int)] w fun r w' => r = .returned (.string ⟨(manyS s n).toArray⟩) ∧ w' = w := by
  go_enter Tryz.func17, Tryz.ntmps17
  go_wp2_with fail
  go_loopw [5, 6] (fun v j wr => ∃ i : Nat, j = .int .i64 (i : Int) ∧ i ≤ n ∧ v = .string ⟨(manyS s i).toArray⟩ ∧ wr = w) (fun _ j _ => n - (intOf j).toNat)
  case atStart => exact ⟨0, rfl, Nat.zero_le _, rfl, rfl⟩
  case round =>
    obtain ⟨i, rfl, hi, rfl, rfl⟩ := hrel
    have hl := manyS_len s i
    have hb : i * s.length ≤ 1000 * 1000 := Nat.mul_le_mul (by omega) hs
    have he := app_ba (manyS s i) s
    by_cases hc : i < n
    · have hsz : ¬ (9223372036854775807 < (⟨(manyS s i).toArray⟩ : ByteArray).size + (⟨s.toArray⟩ : ByteArray).size) := by
        show ¬ (9223372036854775807 < (manyS s i).toArray.size + s.toArray.size)
        simp
        omega
      go_wp2_with fail
      go_roundw
      case rel => exact ⟨i + 1, by go_num, by omega, by rw [manyS, ← he], trivial⟩
      case measure => simp [intOf]; omega
    · have hin : i = n := by omega
      subst hin
      go_wp2_with fail
      go_ret
      exact ⟨rfl, rfl⟩
end Go.Proofs.YtjgggmjjikopeaaGreatDoor

/- The texts of the chapter's examples, reckoned. -/
namespace Go.Proofs.YtjgggmjjikopeaaGreatDoor
set_option linter.unusedVariables false

def tK1 : List UInt8 := [115, 104, 97, 114, 101, 100, 32, 120, 32, 105, 110, 116, 32, 61, 32, 45, 51, 59, 32, 109, 117, 116, 101, 120, 32, 109, 59, 32, 116, 104, 114, 101, 97, 100, 32, 116, 32, 123, 32, 120, 32, 61, 32, 49, 59, 32, 125]
def pgK1 : Pg := ⟨[⟨[120], 1, 18446744073709551613⟩], [[109]], [⟨[116], [], [.mk 1 [120] (.mk 1 1 1 [] []) [] []]⟩]⟩
set_option maxRecDepth 100000 in
theorem k1 : pgO tK1 (programR (toksOf tK1)) = (pgK1, 0, 0) := by kernel_rfl
set_option maxRecDepth 100000 in
theorem k2 : exO [40, 97] (exprR (toksOf [40, 97])) = (noX.ex, 4, 2) := by kernel_rfl
set_option maxRecDepth 100000 in
theorem k3 : exO [105, 110, 116, 32, 97] (exprR (toksOf [105, 110, 116, 32, 97])) = (noX.ex, 4, 4) := by kernel_rfl
set_option maxRecDepth 100000 in
theorem k4 : pgO [115, 104, 97, 114, 101, 100, 32, 120, 32, 105, 110, 116, 32, 61, 32, 116, 114, 117, 101, 59] (programR (toksOf [115, 104, 97, 114, 101, 100, 32, 120, 32, 105, 110, 116, 32, 61, 32, 116, 114, 117, 101, 59])) = (noP.pg, 9, 15) := by kernel_rfl
set_option maxRecDepth 100000 in
theorem k5 : pgO [116, 104, 114, 101, 97, 100, 32, 116, 32, 123, 32, 120, 32, 61, 32, 49, 32, 125] (programR (toksOf [116, 104, 114, 101, 97, 100, 32, 116, 32, 123, 32, 120, 32, 61, 32, 49, 32, 125])) = (noP.pg, 4, 17) := by kernel_rfl
set_option maxRecDepth 100000 in
theorem k6 : exO (49 :: manyS [32, 43, 32, 49] 32) (exprR (toksOf (49 :: manyS [32, 43, 32, 49] 32))) = (noX.ex, 160, 126) := by kernel_rfl
set_option maxRecDepth 100000 in
theorem k7 : exO (manyS [40] 33) (exprR (toksOf (manyS [40] 33))) = (noX.ex, 160, 32) := by kernel_rfl
end Go.Proofs.YtjgggmjjikopeaaGreatDoor

/- What 'same' is. -/
namespace Go.Proofs.YtjgggmjjikopeaaGreatDoor
open Go.RowKit
set_option linter.unusedVariables false

/-- What the parts are asked. -/
def AskB (w : World) (C : Nat) (args : Array Value) (p : Bool) : Prop := ∀ w', Below w.heap.size w w' → Calls Tryz.prog C args w' fun r w'' => r = .returned (.bool p) ∧ Below w'.heap.size w' w''
mutual
def samS : St → St → Bool
  | .mk k nm e b c, .mk k' nm' e' b' c' => decide (k = k') && (decide (nm = nm') && (samX e e' && (samSL b b' && samSL c c')))
def samSL : List St → List St → Bool
  | [], [] => true
  | x :: r, y :: s => samS x y && samSL r s
  | _, _ => false
end

theorem samSL_iff : ∀ (xs ys : List St), samSL xs ys = true ↔ xs.length = ys.length ∧ ∀ (i : Nat) (x y : St), xs[i]? = some x → ys[i]? = some y → samS x y = true
  | [], [] => by simp [samSL]
  | [], y :: s => by simp [samSL]
  | x :: r, [] => by simp [samSL]
  | x :: r, y :: s => by
    rw [samSL, Bool.and_eq_true, samSL_iff r s]
    constructor
    · rintro ⟨h1, h2, h3⟩
      refine ⟨by simp [h2], fun i a b ha hb => ?_⟩
      cases i with
      | zero => simp at ha hb; subst ha hb; exact h1
      | succ i => exact h3 i a b (by simpa using ha) (by simpa using hb)
    · rintro ⟨h1, h2⟩
      exact ⟨h2 0 x y rfl rfl, by simpa using h1, fun i a b ha hb => h2 (i + 1) a b (by simpa using ha) (by simpa using hb)⟩

def eqL {α : Type} (f : α → α → Bool) : List α → List α → Bool
  | [], [] => true
  | x :: r, y :: s => f x y && eqL f r s
  | _, _ => false

theorem eqL_iff {α : Type} (f : α → α → Bool) : ∀ (xs ys : List α), eqL f xs ys = true ↔ xs.length = ys.length ∧ ∀ (i : Nat) (x y : α), xs[i]? = some x → ys[i]? = some y → f x y = true
  | [], [] => by simp [eqL]
  | [], y :: s => by simp [eqL]
  | x :: r, [] => by simp [eqL]
  | x :: r, y :: s => by
    rw [eqL, Bool.and_eq_true, eqL_iff f r s]
    constructor
    · rintro ⟨h1, h2, h3⟩
      refine ⟨by simp [h2], fun i a b ha hb => ?_⟩
      cases i with
      | zero => simp at ha hb; subst ha hb; exact h1
      | succ i => exact h3 i a b (by simpa using ha) (by simpa using hb)
    · rintro ⟨h1, h2⟩
      exact ⟨h2 0 x y rfl rfl, by simpa using h1, fun i a b ha hb => h2 (i + 1) a b (by simpa using ha) (by simpa using hb)⟩

def samV (v u : Vr) : Bool := decide (v.nm = u.nm ∧ v.t = u.t ∧ v.b = u.b)
def samT (t u : Th) : Bool := decide (t.nm = u.nm) && (eqL samV t.locals u.locals && samSL t.body u.body)

def samN (a b : List UInt8) : Bool := decide (a = b)

theorem eqV (nm : ByteArray) (t b : Nat) (nm' : ByteArray) (t' b' : Nat) (u : World) : (Op.equalIn 10000 48 (.agg #[.string nm, .int .u8 (t : Int), .int .u64 (b : Int)]) (.agg #[.string nm', .int .u8 (t' : Int), .int .u64 (b' : Int)])).run Tryz.prog u = .ok (samV (VT.vr ⟨nm, t, b⟩) (VT.vr ⟨nm', t', b'⟩)) u := by
  unfold samV VT.vr
  by_cases h0 : nm.toList = nm'.toList
  · have e0 : (nm.toList == nm'.toList) = true := by rw [beq_iff_eq]; exact h0
    have f0 : nm.data.toList = nm'.data.toList := by rw [toList_bytes, toList_bytes] at h0; exact h0
    by_cases h1 : t = t'
    · subst h1
      by_cases h2 : b = b'
      · subst h2
        go_simp
      · have e2 : ((b : Int) == (b' : Int)) = false := by rw [beq_eq_false_iff_ne]; omega
        go_simp
    · have e1 : ((t : Int) == (t' : Int)) = false := by rw [beq_eq_false_iff_ne]; omega
      go_simp
  · have e0 : (nm.toList == nm'.toList) = false := by rw [beq_eq_false_iff_ne]; exact h0
    have f0 : ¬ nm.data.toList = nm'.data.toList := by rw [toList_bytes, toList_bytes] at h0; exact h0
    go_simp

def samP (p q : Pg) : Bool := eqL samV p.shared q.shared && (eqL samN p.mutexes q.mutexes && eqL samT p.threads q.threads)
end Go.Proofs.YtjgggmjjikopeaaGreatDoor
