/- Joined texts of the proof. -/
import Derived.Test.YtcmahiphfpgadaaDoorJ26
import Derived.Test.YtcmahiphfpgadaaDoorJ15
import Derived.Great.BuildSlice

/- tree.Print. -/
namespace Go.Proofs.YtcmahiphfpgadaaDoor
open Go.RowKit
set_option linter.unusedVariables false

mutual
theorem ST.In.up {B C : Nat} {w : World} (hBC : B ≤ C) : ∀ {s : ST}, s.In B w → s.In C w
  | .mk k nm e a1 c1 body a2 c2 els, h => by
    unfold ST.In at h ⊢
    obtain ⟨h1, h2, ⟨h3, h4, h5⟩, h6, h7, h8⟩ := h
    refine ⟨h1, h2.up hBC, ⟨h3, h4, ?_⟩, h6, h7, ?_⟩
    · rcases h5 with h5 | ⟨g, o, ha, hg, hr⟩
      · exact .inl h5
      · exact .inr ⟨g, o, ha, by omega, ST.Row.up hBC hr⟩
    · rcases h8 with h8 | ⟨g, o, ha, hg, hr⟩
      · exact .inl h8
      · exact .inr ⟨g, o, ha, by omega, ST.Row.up hBC hr⟩
theorem ST.Row.up {B C : Nat} {w : World} (hBC : B ≤ C) {g : Nat} : ∀ {ks : List ST} {o : Nat}, ST.Row B w g ks o → ST.Row C w g ks o
  | [], o, _ => trivial
  | e :: r, o, h => by
    unfold ST.Row at h ⊢
    exact ⟨h.1, ST.In.up hBC h.2.1, ST.Row.up hBC h.2.2⟩
end

theorem RowS.up {B C c : Nat} {w : World} {a : Option Addr} {ks : List ST} (hBC : B ≤ C) (h : RowS B w a c ks) : RowS C w a c ks := by
  obtain ⟨h1, h2, h | ⟨g, o, ha, hg, hr⟩⟩ := h
  · exact ⟨h1, h2, .inl h⟩
  · exact ⟨h1, h2, .inr ⟨g, o, ha, by omega, hr.up hBC⟩⟩
theorem RowV.up {B C c : Nat} {w : World} {a : Option Addr} {ks : List VT} (hBC : B ≤ C) (h : RowV B w a c ks) : RowV C w a c ks := by
  obtain ⟨h1, h2, h | ⟨g, o, ha, hg, hr⟩⟩ := h
  · exact ⟨h1, h2, .inl h⟩
  · exact ⟨h1, h2, .inr ⟨g, o, ha, by omega, hr⟩⟩
theorem RowN.up {B C c : Nat} {w : World} {a : Option Addr} {ks : List ByteArray} (hBC : B ≤ C) (h : RowN B w a c ks) : RowN C w a c ks := by
  obtain ⟨h1, h2, h | ⟨g, o, ha, hg, hr⟩⟩ := h
  · exact ⟨h1, h2, .inl h⟩
  · exact ⟨h1, h2, .inr ⟨g, o, ha, by omega, hr⟩⟩
theorem TT.In.up {B C : Nat} {w : World} (hBC : B ≤ C) {t : TT} (h : t.In B w) : t.In C w := ⟨h.1.up hBC, h.2.up hBC⟩
theorem RowT.up {B C c : Nat} {w : World} {a : Option Addr} {ks : List TT} (hBC : B ≤ C) (h : RowT B w a c ks) : RowT C w a c ks := by
  obtain ⟨h1, h2, h | ⟨g, o, ha, hg, hr⟩⟩ := h
  · exact ⟨h1, h2, .inl h⟩
  · exact ⟨h1, h2, .inr ⟨g, o, ha, by omega, fun i v hv => ⟨(hr i v hv).1, (hr i v hv).2.up hBC⟩⟩⟩
theorem PT.In.up {B C : Nat} {w : World} (hBC : B ≤ C) {p : PT} (h : p.In B w) : p.In C w := ⟨h.1.up hBC, h.2.1.up hBC, h.2.2.up hBC⟩
theorem PT.In.old {B : Nat} {w w' : World} (hO : Old B w w') {p : PT} (h : p.In B w) : p.In B w' := ⟨h.1.old hO, h.2.1.old hO, h.2.2.old hO⟩

theorem i46 : (Tryd.prog.info? 46).map (·.size) = some 3 := by kernel_rfl

set_option maxRecDepth 100000 in
set_option maxHeartbeats 1600000 in
theorem print8_any (p : PT) (B : Nat) (w : World) (h : p.In B w) (hBw : B ≤ w.heap.size) (hT : Tab w) (h16 : gB ≤ w.heap.size) (hlen : (pgT p.pg).length ≤ 70368744177664) :
    Calls Tryd.prog 8 #[.agg p.cells.toArray] w fun r w' => r = .returned (.tuple #[.string ⟨(if mayP p.pg = true ∧ (pgT p.pg).length ≤ 16384 then pgT p.pg else []).toArray⟩, .int .i64 (if mayP p.pg = true then (if (pgT p.pg).length ≤ 16384 then 0 else 3) else 2)]) ∧ Below w.heap.size w w' := by
  have hM := fun w h hB hT h16 => mayProgram_any p B w h hB hT h16
  have hW := fun C g (hC : gB ≤ C) hm w => program_any C g 16384 (by decide) hC p hm w []
  obtain ⟨M, hMM⟩ : ∃ M, Hid (M = mayP p.pg) := ⟨_, (rfl : _ = mayP p.pg)⟩
  rw [← hMM.out] at hM hW ⊢
  have HI : Hid (p.In B w ∧ Tab w) := ⟨h, hT⟩
  obtain ⟨X, hX⟩ : ∃ X, Hid (X = pgT p.pg) := ⟨_, (rfl : pgT p.pg = _)⟩
  rw [← hX.out] at hlen hW ⊢
  simp only [List.nil_append] at hW
  have HW : Hid (∀ C g, gB ≤ C → M = true → ∀ w, p.In C w → Txt C w g 16384 [] → C ≤ w.heap.size → Tab w → X.length ≤ 70368744177664 → Calls Tryd.prog 15 #[.pointer (some ⟨g, 0, none⟩), .agg p.cells.toArray] w fun r w' => r = .returned (.tuple #[]) ∧ Txt C w' g 16384 X ∧ Wr C g w w') := hW
  obtain ⟨cs, hcs⟩ : ∃ cs, Hid (cs = p.cells ∧ cs.length = 3) := ⟨_, (⟨rfl, rfl⟩ : p.cells = p.cells ∧ _)⟩
  rw [← hcs.out.1] at hM ⊢
  have hi46 : (Tryd.prog.info? 46).map (·.size) = some cs.length := by rw [hcs.out.2]; exact i46
  clear h hT hW
  obtain ⟨R, hR⟩ : ∃ R, Hid (R = (Value.tuple #[.string ⟨(if M = true ∧ X.length ≤ 16384 then X else []).toArray⟩, .int .i64 (if M = true then (if X.length ≤ 16384 then 0 else 3) else 2)])) := ⟨_, (rfl : _ = (Value.tuple #[.string ⟨(if M = true ∧ X.length ≤ 16384 then X else []).toArray⟩, .int .i64 (if M = true then (if X.length ≤ 16384 then 0 else 3) else 2)]))⟩
  rw [← hR.out]
  go_enter Tryd.func8, Tryd.ntmps8
  go_wp2_with (first
    | ((with_reducible show wpList _ _ _ _ _ _); refine wpList_box_at rfl 46 (.tmp 0) rfl cs rfl ?_; intro w1 hA1 hb1 hs1; clear hs1)
    | ((with_reducible show wpList _ _ _ _ _ _); refine wpList_load_at (P := Tryd.prog) rfl 46 (.tmp 1) rfl w.heap.size rfl 46 cs hA1 _ Tryd.underlying46 rfl hi46 ?_))
  refine (hM w1 (HI.out.1.old (Old.of_below hb1 hBw)) (by have := hb1.size; omega) (HI.out.2.below hb1 h16) (by have := hb1.size; omega)).mono ?_
  rintro r w2 ⟨rfl, hb2⟩
  have hA2 := hA1.below hb2
  have hw2 := hb1.trans (hb2.mono hb1.size)
  clear hM hA1 hb2 hb1
  cases M with
  | false =>
    go_wp2_with fail
    go_ret2
    exact ⟨by rw [hR.out]; rfl, hw2⟩
  | true =>
    go_wp2_with (first
      | ((with_reducible show wpList _ _ _ _ _ _); refine wpList_build_at (P := Tryd.prog) rfl 54 #[(1, .const (.int .i64 16384))] rfl [.pointer none, .slice none 0 0, .int .i64 16384] (by kernel_rfl) ?_)
      | ((with_reducible show wpList _ _ _ _ _ _); refine wpList_alloc_at rfl 54 rfl _ 3 z54 ?_; intro w3 hA3 hb3 hs3)
      | ((with_reducible show wpList _ _ _ _ _ _); refine wpList_store_at (P := Tryd.prog) rfl 54 (.tmp 4) (.tmp 8) rfl w2.heap.size [.pointer none, .slice none 0 0, .int .i64 16384] rfl rfl 54 _ hA3 i54 rfl (one54 _) ?_; intro w4 hA4 hb4 hs4; refine Hid.out ?_))
    refine hidU ?_
    have hB4 : Below w2.heap.size w2 w4 := hb4.below hb3 (Nat.le_refl _) (by omega)
    have hw4 := hw2.trans (hB4.mono hw2.size)
    have hA24 := hA2.below hB4
    have hBw2 : w.heap.size ≤ w2.heap.size := hw2.size
    have hE := HW.out w2.heap.size w2.heap.size (by omega) trivial w4 ((HI.out.1.old (Old.of_below hw4 hBw)).up (by omega)) (Txt.new (Nat.le_refl _) hA4) (by have := hB4.size; omega) (HI.out.2.below hw4 h16) hlen
    rw [← hcs.out.1] at hE
    clear HW hA3 hb3 hb4 hs3 hs4 hA2 hA4
    go_wp2_with (first
      | ((with_reducible show wpList _ _ _ _ _ _); refine wpList_load_at (P := Tryd.prog) rfl 46 (.tmp 1) rfl w.heap.size rfl 46 cs hA24 _ Tryd.underlying46 rfl hi46 ?_))
    refine hE.mono ?_
    rintro r w5 ⟨rfl, hT5, hW5⟩
    obtain ⟨bs, hbs, hbl, hraw⟩ := hT5
    have hs5 : w2.heap.size ≤ w5.heap.size := by have := hB4.size; have := hW5.size; omega
    have hS := string_any w2.heap.size w2.heap.size _ bs w5 hraw hs5
    have hN := len_any w2.heap.size w2.heap.size _ bs w5 hraw
    have hw5 : Below w.heap.size w w5 := hw4.trans ((hW5.below (Nat.le_refl _) (by have := hB4.size; omega)).mono hBw2)
    have hbl' : bs.length ≤ 70368744177664 := by omega
    clear hE hW5 hraw hA24 hw4 hB4
    go_wp2_with fail
    refine hN.mono ?_
    rintro r w6 ⟨rfl, rfl⟩
    clear hN
    by_cases hc : 16384 < bs.length
    · have hXl : ¬ X.length ≤ 16384 := by omega
      go_wp2_with fail
      go_ret2
      exact ⟨by rw [hR.out]; simp [hXl], hw5⟩
    · have hbX : bs = X := by
        rcases hbs with h | ⟨h, _⟩
        · exact h
        · omega
      have hXl : X.length ≤ 16384 := by rw [← hbX]; omega
      go_wp2_with fail
      refine hS.mono ?_
      rintro r w7 ⟨rfl, hb7⟩
      go_wp2_with fail
      go_ret2
      refine ⟨?_, hw5.trans (hb7.mono hBw2)⟩
      rw [hR.out]
      simp [hXl]

end Go.Proofs.YtcmahiphfpgadaaDoor

/- Expressions are made. -/
namespace Go.Proofs.YtcmahiphfpgadaaDoor
open Go.RowKit
set_option linter.unusedVariables false

theorem ex5_one (op t b : Nat) (nm : ByteArray) (a : Option Addr) (n c : Nat) : ∀ v ∈ ex5 op t b nm (.slice a n c), v.oneCell' = true := by
  intro v hv
  simp [ex5] at hv
  rcases hv with rfl | rfl | rfl | rfl | rfl <;> rfl

set_option maxRecDepth 100000 in
set_option maxHeartbeats 1600000 in
theorem name17 (s : ByteArray) (w : World) : Calls Tryd.prog 17 #[.string s] w fun r w' => r = .returned (.agg (ET.mk 2 0 0 s none 0 []).cells.toArray) ∧ Below w.heap.size w w' := by
  go_enter Tryd.func17, Tryd.ntmps17
  go_wp2_with (first
    | ((with_reducible show wpList _ _ _ _ _ _); refine wpList_alloc_at rfl 29 rfl _ 5 z29 ?_; intro w1 hA1 hb1 hs1)
    | ((with_reducible show wpList _ _ _ _ _ _); refine wpList_build_at (P := Tryd.prog) rfl 29 #[(0, .const (.int .u8 2)), (2, .tmp 3)] rfl (ex5 2 0 0 s (.slice none 0 0)) (by kernel_rfl) ?_)
    | ((with_reducible show wpList _ _ _ _ _ _); refine wpList_store_at (P := Tryd.prog) rfl 29 (.tmp 2) (.tmp 4) rfl w.heap.size (ex5 2 0 0 s (.slice none 0 0)) rfl rfl 29 _ hA1 i29 rfl (ex5_one _ _ _ _ _ _ _) ?_; intro w2 hA2 hb2 hs2; refine Hid.out ?_))
  refine hidU ?_
  have hbb : Below w.heap.size w w2 := hb2.below hb1 (Nat.le_refl _) (by omega)
  clear hb1 hb2 hs1 hs2 hA1
  go_wp2
  refine bodyPost_ret (results_at rfl _ _ w.heap.size 29 (ex5 2 0 0 s (.slice none 0 0)) _ rfl hA2 Tryd.underlying29 rfl i29) rfl ?_
  exact ⟨rfl, hbb⟩

set_option maxRecDepth 100000 in
set_option maxHeartbeats 1600000 in
theorem whole18 (b : Nat) (w : World) : Calls Tryd.prog 18 #[.int .u64 (b : Int)] w fun r w' => r = .returned (.agg (ET.mk 1 1 b ⟨#[]⟩ none 0 []).cells.toArray) ∧ Below w.heap.size w w' := by
  go_enter Tryd.func18, Tryd.ntmps18
  go_wp2_with (first
    | ((with_reducible show wpList _ _ _ _ _ _); refine wpList_alloc_at rfl 29 rfl _ 5 z29 ?_; intro w1 hA1 hb1 hs1)
    | ((with_reducible show wpList _ _ _ _ _ _); refine wpList_build_at (P := Tryd.prog) rfl 26 #[(0, .const (.int .u8 1)), (1, .tmp 3)] rfl [.int .u8 1, .int .u64 (b : Int)] (by kernel_rfl) ?_)
    | ((with_reducible show wpList _ _ _ _ _ _); refine wpList_build_at (P := Tryd.prog) rfl 29 #[(0, .const (.int .u8 1)), (1, .tmp 4)] rfl (ex5 1 1 b ⟨#[]⟩ (.slice none 0 0)) (by kernel_rfl) ?_)
    | ((with_reducible show wpList _ _ _ _ _ _); refine wpList_store_at (P := Tryd.prog) rfl 29 (.tmp 2) (.tmp 5) rfl w.heap.size (ex5 1 1 b ⟨#[]⟩ (.slice none 0 0)) rfl rfl 29 _ hA1 i29 rfl (ex5_one _ _ _ _ _ _ _) ?_; intro w2 hA2 hb2 hs2; refine Hid.out ?_))
  refine hidU ?_
  have hbb : Below w.heap.size w w2 := hb2.below hb1 (Nat.le_refl _) (by omega)
  clear hb1 hb2 hs1 hs2 hA1
  go_wp2
  refine bodyPost_ret (results_at rfl _ _ w.heap.size 29 (ex5 1 1 b ⟨#[]⟩ (.slice none 0 0)) _ rfl hA2 Tryd.underlying29 rfl i29) rfl ?_
  exact ⟨rfl, hbb⟩

theorem Try.i29' : (Tryd.prog.info? 29).map (fun i => (i.zero, i.size, i.bytes)) = some (some (.agg (ex5 0 0 0 ⟨#[]⟩ (.slice none 0 0)).toArray), 5, 64) := by kernel_rfl

section
variable {ops : Array Oper} {rest : List Oper} {o : Oper} {a : Act} {w : World} {Q : Exit → Act → World → Prop}
/-- One expression is laid as a row. -/
theorem wpList_exprs1 (hgd : o.guard = none) (x : Operand) (ho : o.op = .buildSlice 27 1 #[(0, x)]) (op t b : Nat) (nm : ByteArray) (ea : Option Addr) (n c : Nat) (hx : a.eval x = .agg (ex5 op t b nm (.slice ea n c)).toArray)
    (h : ∀ w', At 29 w' w.heap.size (ex5 op t b nm (.slice ea n c)) → Below w.heap.size w w' → wpList Tryd.prog ops Q rest (a.put o.dst (.slice (some ⟨w.heap.size, 0, none⟩) 1 1)) w') :
    wpList Tryd.prog ops Q (o :: rest) a w := by
  obtain ⟨ie, hi, hz0, hz1, hz2⟩ := info_parts Try.i29'
  refine wpList_buildSlice hgd 27 29 1 #[(0, x)] ho (ex5 op t b nm (.slice ea n c)).toArray ie (.agg (ex5 0 0 0 ⟨#[]⟩ (.slice none 0 0)).toArray) Tryd.underlying27 hi hz0 (by rw [hz1]; decide) (by rw [hz1]; decide) ?_ ?_
  · rw [hz1]
    simp only [List.map_toArray, List.map_cons, List.map_nil, hx]
    kernel_rfl
  · exact h _ (_root_.Go.heap_alloc_new w _) ((Below.refl _ w).alloc (Nat.le_refl _) _)
/-- Two expressions are laid as a row. -/
theorem wpList_exprs2 (hgd : o.guard = none) (x y : Operand) (ho : o.op = .buildSlice 27 2 #[(0, x), (1, y)]) (op t b : Nat) (nm : ByteArray) (ea : Option Addr) (n c : Nat) (hx : a.eval x = .agg (ex5 op t b nm (.slice ea n c)).toArray)
    (op' t' b' : Nat) (nm' : ByteArray) (ea' : Option Addr) (n' c' : Nat) (hy : a.eval y = .agg (ex5 op' t' b' nm' (.slice ea' n' c')).toArray)
    (h : ∀ w', At 29 w' w.heap.size (ex5 op t b nm (.slice ea n c) ++ ex5 op' t' b' nm' (.slice ea' n' c')) → Below w.heap.size w w' → wpList Tryd.prog ops Q rest (a.put o.dst (.slice (some ⟨w.heap.size, 0, none⟩) 2 2)) w') :
    wpList Tryd.prog ops Q (o :: rest) a w := by
  obtain ⟨ie, hi, hz0, hz1, hz2⟩ := info_parts Try.i29'
  refine wpList_buildSlice hgd 27 29 2 #[(0, x), (1, y)] ho (ex5 op t b nm (.slice ea n c) ++ ex5 op' t' b' nm' (.slice ea' n' c')).toArray ie (.agg (ex5 0 0 0 ⟨#[]⟩ (.slice none 0 0)).toArray) Tryd.underlying27 hi hz0 (by rw [hz1]; decide) (by rw [hz1]; decide) ?_ ?_
  · rw [hz1]
    simp only [List.map_toArray, List.map_cons, List.map_nil, hx, hy]
    kernel_rfl
  · exact h _ (_root_.Go.heap_alloc_new w _) ((Below.refl _ w).alloc (Nat.le_refl _) _)
end

end Go.Proofs.YtcmahiphfpgadaaDoor

/- Expressions are made of one and of two. -/
namespace Go.Proofs.YtcmahiphfpgadaaDoor
open Go.RowKit
set_option linter.unusedVariables false

theorem At.rangeAll {t : TypeId} {w : World} {g : Nat} {cs : List Value} (h : At t w g cs) : w.rangeAt g 0 cs := by
  intro j v hj
  rw [h.cell, Nat.zero_add]
  exact hj

set_option maxRecDepth 100000 in
set_option maxHeartbeats 1600000 in
theorem one5 (op : Nat) (hop : op < 256) (e : ET) (B : Nat) (w : World) (hin : e.In B w) (hBw : B ≤ w.heap.size) :
    Calls Tryd.prog 5 #[.int .u8 (op : Int), .agg e.cells.toArray] w fun r w' => ∃ a, r = .returned (.agg (ET.mk op 0 0 ⟨#[]⟩ a 1 [e]).cells.toArray) ∧ (ET.mk op 0 0 ⟨#[]⟩ a 1 [e]).In w'.heap.size w' ∧ Below w.heap.size w w' := by
  have HI : Hid (e.In B w) := hin
  clear hin
  obtain ⟨eop, t, b, nm, ea, ec, ks⟩ := e
  obtain ⟨n, hn⟩ : ∃ n, Hid (n = ks.length) := ⟨_, (rfl : ks.length = _)⟩
  show Calls Tryd.prog 5 #[.int .u8 (op : Int), .agg (ex5 eop t b nm (.slice ea ks.length ec)).toArray] w _
  rw [← hn.out]
  go_enter Tryd.func5, Tryd.ntmps5
  go_wp2_with (first
    | ((with_reducible show wpList _ _ _ _ _ _); refine wpList_box_at rfl 29 (.tmp 1) rfl (ex5 eop t b nm (.slice ea n ec)) rfl ?_; intro w1 hA1 hb1 hs1; clear hs1)
    | ((with_reducible show wpList _ _ _ _ _ _); refine wpList_alloc_at rfl 29 rfl _ 5 z29 ?_; intro w2 hA2 hb2 hs2; clear hs2; refine Hid.out ?_))
  refine hidU ?_
  have hA12 := hA1.below hb2
  have hw2 := hb1.trans (hb2.mono hb1.size)
  clear hA1 hb2
  go_wp2_with (first
    | ((with_reducible show wpList _ _ _ _ _ _); refine wpList_load_at (P := Tryd.prog) rfl 29 (.tmp 3) rfl w.heap.size rfl 29 (ex5 eop t b nm (.slice ea n ec)) hA12 _ Tryd.underlying29 rfl i29 ?_)
    | ((with_reducible show wpList _ _ _ _ _ _); refine wpList_exprs1 rfl (.tmp 6) rfl eop t b nm ea n ec rfl ?_; intro w3 hA3 hb3)
    | ((with_reducible show wpList _ _ _ _ _ _); refine wpList_build_at (P := Tryd.prog) rfl 29 #[(0, .tmp 5), (3, .tmp 7)] rfl (ex5 op 0 0 ⟨#[]⟩ (.slice (some ⟨w2.heap.size, 0, none⟩) 1 1)) (by kernel_rfl) ?_)
    | ((with_reducible show wpList _ _ _ _ _ _); refine wpList_store_at (P := Tryd.prog) rfl 29 (.tmp 4) (.tmp 8) rfl w1.heap.size (ex5 op 0 0 ⟨#[]⟩ (.slice (some ⟨w2.heap.size, 0, none⟩) 1 1)) rfl rfl 29 _ (hA2.below hb3) i29 rfl (ex5_one _ _ _ _ _ _ _) ?_; intro w4 hA4 hb4 hs4; refine Hid.out ?_))
  refine hidU ?_
  have hlt1 : w1.heap.size < w2.heap.size := hA2.lt
  have hw3 := hw2.trans (hb3.mono hw2.size)
  have hw4 : Below w.heap.size w w4 := hb4.below hw3 hb1.size hw3.size
  have hA34 : At 29 w4 w2.heap.size (ex5 eop t b nm (.slice ea n ec)) := hb4.at hA3 (by omega)
  clear hA2 hb4 hb3 hA12 hw2 hw3
  go_wp2
  refine bodyPost_ret (results_at rfl _ _ w1.heap.size 29 (ex5 op 0 0 ⟨#[]⟩ (.slice (some ⟨w2.heap.size, 0, none⟩) 1 1)) _ rfl hA4 Tryd.underlying29 rfl i29) rfl ?_
  refine ⟨some ⟨w2.heap.size, 0, none⟩, rfl, ?_, hw4⟩
  have hold : Old B w w4 := Old.of_below hw4 hBw
  have hin4 := (HI.out.old hold).up (C := w4.heap.size) (by have := hw4.size; omega)
  unfold ET.In
  refine ⟨hop, by decide, by decide, by simp, by simp, .inr ⟨w2.heap.size, 0, rfl, hA34.lt, ?_⟩⟩
  unfold ET.Row
  refine ⟨?_, hin4, by unfold ET.Row; trivial⟩
  have := hA34.rangeAll
  rw [hn.out] at this
  exact this

set_option maxRecDepth 100000 in
set_option maxHeartbeats 1600000 in
theorem two6 (op : Nat) (hop : op < 256) (e f : ET) (B : Nat) (w : World) (hin : e.In B w) (hif : f.In B w) (hBw : B ≤ w.heap.size) :
    Calls Tryd.prog 6 #[.int .u8 (op : Int), .agg e.cells.toArray, .agg f.cells.toArray] w fun r w' => ∃ a, r = .returned (.agg (ET.mk op 0 0 ⟨#[]⟩ a 2 [e, f]).cells.toArray) ∧ (ET.mk op 0 0 ⟨#[]⟩ a 2 [e, f]).In w'.heap.size w' ∧ Below w.heap.size w w' := by
  have HI : Hid (e.In B w ∧ f.In B w) := ⟨hin, hif⟩
  clear hin hif
  obtain ⟨eop, t, b, nm, ea, ec, ks⟩ := e
  obtain ⟨fop, t', b', nm', fa, fc, ks'⟩ := f
  obtain ⟨n, hn⟩ : ∃ n, Hid (n = ks.length) := ⟨_, (rfl : ks.length = _)⟩
  obtain ⟨n', hn'⟩ : ∃ n, Hid (n = ks'.length) := ⟨_, (rfl : ks'.length = _)⟩
  show Calls Tryd.prog 6 #[.int .u8 (op : Int), .agg (ex5 eop t b nm (.slice ea ks.length ec)).toArray, .agg (ex5 fop t' b' nm' (.slice fa ks'.length fc)).toArray] w _
  rw [← hn.out, ← hn'.out]
  go_enter Tryd.func6, Tryd.ntmps6
  go_wp2_with (first
    | ((with_reducible show wpList _ _ _ _ _ _); refine wpList_box_at rfl 29 (.tmp 1) rfl (ex5 eop t b nm (.slice ea n ec)) rfl ?_; intro w1 hA1 hb1 hs1; clear hs1)
    | ((with_reducible show wpList _ _ _ _ _ _); refine wpList_box_at rfl 29 (.tmp 2) rfl (ex5 fop t' b' nm' (.slice fa n' fc)) rfl ?_; intro v1 hB1 hd1 hs1; clear hs1)
    | ((with_reducible show wpList _ _ _ _ _ _); refine wpList_alloc_at rfl 29 rfl _ 5 z29 ?_; intro w2 hA2 hb2 hs2; clear hs2; refine Hid.out ?_))
  refine hidU ?_
  have hA12 := (hA1.below hd1).below hb2
  have hB12 := hB1.below hb2
  have hv1 := hb1.trans (hd1.mono hb1.size)
  have hw2 := hv1.trans (hb2.mono hv1.size)
  clear hA1 hB1 hb2
  go_wp2_with (first
    | ((with_reducible show wpList _ _ _ _ _ _); refine wpList_load_at (P := Tryd.prog) rfl 29 (.tmp 4) rfl w.heap.size rfl 29 (ex5 eop t b nm (.slice ea n ec)) hA12 _ Tryd.underlying29 rfl i29 ?_)
    | ((with_reducible show wpList _ _ _ _ _ _); refine wpList_load_at (P := Tryd.prog) rfl 29 (.tmp 5) rfl w1.heap.size rfl 29 (ex5 fop t' b' nm' (.slice fa n' fc)) hB12 _ Tryd.underlying29 rfl i29 ?_)
    | ((with_reducible show wpList _ _ _ _ _ _); refine wpList_exprs2 rfl (.tmp 8) (.tmp 9) rfl eop t b nm ea n ec rfl fop t' b' nm' fa n' fc rfl ?_; intro w3 hA3 hb3)
    | ((with_reducible show wpList _ _ _ _ _ _); refine wpList_build_at (P := Tryd.prog) rfl 29 #[(0, .tmp 7), (3, .tmp 10)] rfl (ex5 op 0 0 ⟨#[]⟩ (.slice (some ⟨w2.heap.size, 0, none⟩) 2 2)) (by kernel_rfl) ?_)
    | ((with_reducible show wpList _ _ _ _ _ _); refine wpList_store_at (P := Tryd.prog) rfl 29 (.tmp 6) (.tmp 11) rfl v1.heap.size (ex5 op 0 0 ⟨#[]⟩ (.slice (some ⟨w2.heap.size, 0, none⟩) 2 2)) rfl rfl 29 _ (hA2.below hb3) i29 rfl (ex5_one _ _ _ _ _ _ _) ?_; intro w4 hA4 hb4 hs4; refine Hid.out ?_))
  refine hidU ?_
  have hlt1 : v1.heap.size < w2.heap.size := hA2.lt
  have hw3 := hw2.trans (hb3.mono hw2.size)
  have hw4 : Below w.heap.size w w4 := hb4.below hw3 hv1.size hw3.size
  have hA34 : At 29 w4 w2.heap.size (ex5 eop t b nm (.slice ea n ec) ++ ex5 fop t' b' nm' (.slice fa n' fc)) := hb4.at hA3 (by omega)
  clear hA2 hb4 hb3 hA12 hB12 hw2 hw3
  go_wp2
  refine bodyPost_ret (results_at rfl _ _ v1.heap.size 29 (ex5 op 0 0 ⟨#[]⟩ (.slice (some ⟨w2.heap.size, 0, none⟩) 2 2)) _ rfl hA4 Tryd.underlying29 rfl i29) rfl ?_
  refine ⟨some ⟨w2.heap.size, 0, none⟩, rfl, ?_, hw4⟩
  have hold : Old B w w4 := Old.of_below hw4 hBw
  have hin4 := (HI.out.1.old hold).up (C := w4.heap.size) (by have := hw4.size; omega)
  have hif4 := (HI.out.2.old hold).up (C := w4.heap.size) (by have := hw4.size; omega)
  unfold ET.In
  refine ⟨hop, by decide, by decide, by simp, by simp, .inr ⟨w2.heap.size, 0, rfl, hA34.lt, ?_⟩⟩
  have hr := hA34.rangeAll
  rw [hn.out, hn'.out] at hr
  unfold ET.Row
  refine ⟨fun j v hj => ?_, hin4, ?_⟩
  · refine hr j v ?_
    have : j < 5 := by have := (List.getElem?_eq_some_iff.1 hj).1; rw [ET.cells_len] at this; exact this
    rw [List.getElem?_append_left (by simpa [ex5] using this)]
    exact hj
  · unfold ET.Row
    refine ⟨fun j v hj => ?_, hif4, by unfold ET.Row; trivial⟩
    have := hr (5 + j) v (by
      rw [List.getElem?_append_right (by simp [ex5])]
      have e : 5 + j - (ex5 eop t b nm (.slice ea ks.length ec)).length = j := by show 5 + j - 5 = j; omega
      rw [e]
      exact hj)
    rw [show 0 + 5 + j = 0 + (5 + j) by omega]
    exact this

end Go.Proofs.YtcmahiphfpgadaaDoor
