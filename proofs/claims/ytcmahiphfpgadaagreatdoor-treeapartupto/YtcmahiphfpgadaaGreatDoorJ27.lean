/- Joined texts of the proof. -/
import Derived.Test.YtcmahiphfpgadaaGreatDoorJ21
import Derived.Test.YtcmahiphfpgadaaGreatDoorJ20

/- Expressions are made of one and of two. -/
namespace Go.Proofs.YtcmahiphfpgadaaGreatDoor
open Go.RowKit
set_option linter.unusedVariables false

theorem At.rangeAll {t : TypeId} {w : World} {g : Nat} {cs : List Value} (h : At t w g cs) : w.rangeAt g 0 cs := by
  intro j v hj
  rw [h.cell, Nat.zero_add]
  exact hj

set_option maxRecDepth 100000 in
set_option maxHeartbeats 1600000 in
theorem one5 (op : Nat) (hop : op < 256) (e : ET) (B : Nat) (w : World) (hin : e.In B w) (hBw : B ≤ w.heap.size) :
    Calls Tryz.prog 49 #[.int .u8 (op : Int), .agg e.cells.toArray] w fun r w' => ∃ a, r = .returned (.agg (ET.mk op 0 0 ⟨#[]⟩ a 1 [e]).cells.toArray) ∧ (ET.mk op 0 0 ⟨#[]⟩ a 1 [e]).In w'.heap.size w' ∧ Below w.heap.size w w' := by
  have HI : Hid (e.In B w) := hin
  clear hin
  obtain ⟨eop, t, b, nm, ea, ec, ks⟩ := e
  obtain ⟨n, hn⟩ : ∃ n, Hid (n = ks.length) := ⟨_, (rfl : ks.length = _)⟩
  show Calls Tryz.prog 49 #[.int .u8 (op : Int), .agg (ex5 eop t b nm (.slice ea ks.length ec)).toArray] w _
  rw [← hn.out]
  go_enter Tryz.func49, Tryz.ntmps49
  go_wp2_with (first
    | ((with_reducible show wpList _ _ _ _ _ _); refine wpList_box_at rfl 34 (.tmp 1) rfl (ex5 eop t b nm (.slice ea n ec)) rfl ?_; intro w1 hA1 hb1 hs1; clear hs1)
    | ((with_reducible show wpList _ _ _ _ _ _); refine wpList_alloc_at rfl 34 rfl _ 5 z29 ?_; intro w2 hA2 hb2 hs2; clear hs2; refine Hid.out ?_))
  refine hidU ?_
  have hA12 := hA1.below hb2
  have hw2 := hb1.trans (hb2.mono hb1.size)
  clear hA1 hb2
  go_wp2_with (first
    | ((with_reducible show wpList _ _ _ _ _ _); refine wpList_load_at (P := Tryz.prog) rfl 34 (.tmp 3) rfl w.heap.size rfl 34 (ex5 eop t b nm (.slice ea n ec)) hA12 _ Tryz.underlying34 rfl i29 ?_)
    | ((with_reducible show wpList _ _ _ _ _ _); refine wpList_exprs1 rfl (.tmp 6) rfl eop t b nm ea n ec rfl ?_; intro w3 hA3 hb3)
    | ((with_reducible show wpList _ _ _ _ _ _); refine wpList_build_at (P := Tryz.prog) rfl 34 #[(0, .tmp 5), (3, .tmp 7)] rfl (ex5 op 0 0 ⟨#[]⟩ (.slice (some ⟨w2.heap.size, 0, none⟩) 1 1)) (by kernel_rfl) ?_)
    | ((with_reducible show wpList _ _ _ _ _ _); refine wpList_store_at (P := Tryz.prog) rfl 34 (.tmp 4) (.tmp 8) rfl w1.heap.size (ex5 op 0 0 ⟨#[]⟩ (.slice (some ⟨w2.heap.size, 0, none⟩) 1 1)) rfl rfl 34 _ (hA2.below hb3) i29 rfl (ex5_one _ _ _ _ _ _ _) ?_; intro w4 hA4 hb4 hs4; refine Hid.out ?_))
  refine hidU ?_
  have hlt1 : w1.heap.size < w2.heap.size := hA2.lt
  have hw3 := hw2.trans (hb3.mono hw2.size)
  have hw4 : Below w.heap.size w w4 := hb4.below hw3 hb1.size hw3.size
  have hA34 : At 34 w4 w2.heap.size (ex5 eop t b nm (.slice ea n ec)) := hb4.at hA3 (by omega)
  clear hA2 hb4 hb3 hA12 hw2 hw3
  go_wp2
  refine bodyPost_ret (results_at rfl _ _ w1.heap.size 34 (ex5 op 0 0 ⟨#[]⟩ (.slice (some ⟨w2.heap.size, 0, none⟩) 1 1)) _ rfl hA4 Tryz.underlying34 rfl i29) rfl ?_
  refine ⟨some ⟨w2.heap.size, 0, none⟩, rfl, ?_, hw4⟩
  have hold : Old B w w4 := Old.of_below hw4 hBw
  have hin4 := (HI.out.old hold).up (C := w4.heap.size) (by have := hw4.size; omega)
  unfold ET.In
  refine ⟨hop, by decide, by decide, by simp, by simp, .inr ⟨w2.heap.size, 0, rfl, hA34.lt, ?_⟩⟩
  unfold ET.Row
  refine ⟨?_, hin4, by unfold ET.Row; trivial⟩
  have := hA34.rangeAll
  rw [hn.out] at this
  exact this

set_option maxRecDepth 100000 in
set_option maxHeartbeats 1600000 in
theorem two6 (op : Nat) (hop : op < 256) (e f : ET) (B : Nat) (w : World) (hin : e.In B w) (hif : f.In B w) (hBw : B ≤ w.heap.size) :
    Calls Tryz.prog 46 #[.int .u8 (op : Int), .agg e.cells.toArray, .agg f.cells.toArray] w fun r w' => ∃ a, r = .returned (.agg (ET.mk op 0 0 ⟨#[]⟩ a 2 [e, f]).cells.toArray) ∧ (ET.mk op 0 0 ⟨#[]⟩ a 2 [e, f]).In w'.heap.size w' ∧ Below w.heap.size w w' := by
  have HI : Hid (e.In B w ∧ f.In B w) := ⟨hin, hif⟩
  clear hin hif
  obtain ⟨eop, t, b, nm, ea, ec, ks⟩ := e
  obtain ⟨fop, t', b', nm', fa, fc, ks'⟩ := f
  obtain ⟨n, hn⟩ : ∃ n, Hid (n = ks.length) := ⟨_, (rfl : ks.length = _)⟩
  obtain ⟨n', hn'⟩ : ∃ n, Hid (n = ks'.length) := ⟨_, (rfl : ks'.length = _)⟩
  show Calls Tryz.prog 46 #[.int .u8 (op : Int), .agg (ex5 eop t b nm (.slice ea ks.length ec)).toArray, .agg (ex5 fop t' b' nm' (.slice fa ks'.length fc)).toArray] w _
  rw [← hn.out, ← hn'.out]
  go_enter Tryz.func46, Tryz.ntmps46
  go_wp2_with (first
    | ((with_reducible show wpList _ _ _ _ _ _); refine wpList_box_at rfl 34 (.tmp 1) rfl (ex5 eop t b nm (.slice ea n ec)) rfl ?_; intro w1 hA1 hb1 hs1; clear hs1)
    | ((with_reducible show wpList _ _ _ _ _ _); refine wpList_box_at rfl 34 (.tmp 2) rfl (ex5 fop t' b' nm' (.slice fa n' fc)) rfl ?_; intro v1 hB1 hd1 hs1; clear hs1)
    | ((with_reducible show wpList _ _ _ _ _ _); refine wpList_alloc_at rfl 34 rfl _ 5 z29 ?_; intro w2 hA2 hb2 hs2; clear hs2; refine Hid.out ?_))
  refine hidU ?_
  have hA12 := (hA1.below hd1).below hb2
  have hB12 := hB1.below hb2
  have hv1 := hb1.trans (hd1.mono hb1.size)
  have hw2 := hv1.trans (hb2.mono hv1.size)
  clear hA1 hB1 hb2
  go_wp2_with (first
    | ((with_reducible show wpList _ _ _ _ _ _); refine wpList_load_at (P := Tryz.prog) rfl 34 (.tmp 4) rfl w.heap.size rfl 34 (ex5 eop t b nm (.slice ea n ec)) hA12 _ Tryz.underlying34 rfl i29 ?_)
    | ((with_reducible show wpList _ _ _ _ _ _); refine wpList_load_at (P := Tryz.prog) rfl 34 (.tmp 5) rfl w1.heap.size rfl 34 (ex5 fop t' b' nm' (.slice fa n' fc)) hB12 _ Tryz.underlying34 rfl i29 ?_)
    | ((with_reducible show wpList _ _ _ _ _ _); refine wpList_exprs2 rfl (.tmp 8) (.tmp 9) rfl eop t b nm ea n ec rfl fop t' b' nm' fa n' fc rfl ?_; intro w3 hA3 hb3)
    | ((with_reducible show wpList _ _ _ _ _ _); refine wpList_build_at (P := Tryz.prog) rfl 34 #[(0, .tmp 7), (3, .tmp 10)] rfl (ex5 op 0 0 ⟨#[]⟩ (.slice (some ⟨w2.heap.size, 0, none⟩) 2 2)) (by kernel_rfl) ?_)
    | ((with_reducible show wpList _ _ _ _ _ _); refine wpList_store_at (P := Tryz.prog) rfl 34 (.tmp 6) (.tmp 11) rfl v1.heap.size (ex5 op 0 0 ⟨#[]⟩ (.slice (some ⟨w2.heap.size, 0, none⟩) 2 2)) rfl rfl 34 _ (hA2.below hb3) i29 rfl (ex5_one _ _ _ _ _ _ _) ?_; intro w4 hA4 hb4 hs4; refine Hid.out ?_))
  refine hidU ?_
  have hlt1 : v1.heap.size < w2.heap.size := hA2.lt
  have hw3 := hw2.trans (hb3.mono hw2.size)
  have hw4 : Below w.heap.size w w4 := hb4.below hw3 hv1.size hw3.size
  have hA34 : At 34 w4 w2.heap.size (ex5 eop t b nm (.slice ea n ec) ++ ex5 fop t' b' nm' (.slice fa n' fc)) := hb4.at hA3 (by omega)
  clear hA2 hb4 hb3 hA12 hB12 hw2 hw3
  go_wp2
  refine bodyPost_ret (results_at rfl _ _ v1.heap.size 34 (ex5 op 0 0 ⟨#[]⟩ (.slice (some ⟨w2.heap.size, 0, none⟩) 2 2)) _ rfl hA4 Tryz.underlying34 rfl i29) rfl ?_
  refine ⟨some ⟨w2.heap.size, 0, none⟩, rfl, ?_, hw4⟩
  have hold : Old B w w4 := Old.of_below hw4 hBw
  have hin4 := (HI.out.1.old hold).up (C := w4.heap.size) (by have := hw4.size; omega)
  have hif4 := (HI.out.2.old hold).up (C := w4.heap.size) (by have := hw4.size; omega)
  unfold ET.In
  refine ⟨hop, by decide, by decide, by simp, by simp, .inr ⟨w2.heap.size, 0, rfl, hA34.lt, ?_⟩⟩
  have hr := hA34.rangeAll
  rw [hn.out, hn'.out] at hr
  unfold ET.Row
  refine ⟨fun j v hj => ?_, hin4, ?_⟩
  · refine hr j v ?_
    have : j < 5 := by have := (List.getElem?_eq_some_iff.1 hj).1; rw [ET.cells_len] at this; exact this
    rw [List.getElem?_append_left (by simpa [ex5] using this)]
    exact hj
  · unfold ET.Row
    refine ⟨fun j v hj => ?_, hif4, by unfold ET.Row; trivial⟩
    have := hr (5 + j) v (by
      rw [List.getElem?_append_right (by simp [ex5])]
      have e : 5 + j - (ex5 eop t b nm (.slice ea ks.length ec)).length = j := by show 5 + j - 5 = j; omega
      rw [e]
      exact hj)
    rw [show 0 + 5 + j = 0 + (5 + j) by omega]
    exact this

end Go.Proofs.YtcmahiphfpgadaaGreatDoor

/- Statements and threads are laid as rows; awake. -/
namespace Go.Proofs.YtcmahiphfpgadaaGreatDoor
open Go.RowKit
set_option linter.unusedVariables false

theorem i38' : (Tryz.prog.info? 87).map (fun i => (i.zero, i.size, i.bytes)) = some (some (.agg (st9 0 ⟨#[]⟩ (ex5 0 0 0 ⟨#[]⟩ (.slice none 0 0)) (.slice none 0 0) (.slice none 0 0)).toArray), 9, 136) := by kernel_rfl
theorem i42' : (Tryz.prog.info? 59).map (fun i => (i.zero, i.size, i.bytes)) = some (some (.agg [Value.string ⟨#[]⟩, .slice none 0 0, .slice none 0 0].toArray), 3, 64) := by kernel_rfl

section
variable {ops : Array Oper} {rest : List Oper} {o : Oper} {a : Act} {w : World} {Q : Exit → Act → World → Prop}
/-- One statement is laid as a row. -/
theorem wpList_stmts1 (hgd : o.guard = none) (x : Operand) (ho : o.op = .buildSlice 57 1 #[(0, x)]) (k : Int) (snm : ByteArray) (op t b : Nat) (nm : ByteArray) (ea : Option Addr) (n c : Nat) (a1 : Option Addr) (n1 c1 : Nat) (a2 : Option Addr) (n2 c2 : Nat)
    (hx : a.eval x = .agg (st9 k snm (ex5 op t b nm (.slice ea n c)) (.slice a1 n1 c1) (.slice a2 n2 c2)).toArray)
    (h : ∀ w', At 87 w' w.heap.size (st9 k snm (ex5 op t b nm (.slice ea n c)) (.slice a1 n1 c1) (.slice a2 n2 c2)) → Below w.heap.size w w' → wpList Tryz.prog ops Q rest (a.put o.dst (.slice (some ⟨w.heap.size, 0, none⟩) 1 1)) w') :
    wpList Tryz.prog ops Q (o :: rest) a w := by
  obtain ⟨ie, hi, hz0, hz1, hz2⟩ := info_parts i38'
  refine wpList_buildSlice hgd 57 87 1 #[(0, x)] ho (st9 k snm (ex5 op t b nm (.slice ea n c)) (.slice a1 n1 c1) (.slice a2 n2 c2)).toArray ie _ Tryz.underlying57 hi hz0 (by rw [hz1]; decide) (by rw [hz1]; decide) ?_ ?_
  · rw [hz1]
    simp only [List.map_toArray, List.map_cons, List.map_nil, hx]
    kernel_rfl
  · exact h _ (_root_.Go.heap_alloc_new w _) ((Below.refl _ w).alloc (Nat.le_refl _) _)
/-- One thread is laid as a row. -/
theorem wpList_threads1 (hgd : o.guard = none) (x : Operand) (ho : o.op = .buildSlice 24 1 #[(0, x)]) (nm : ByteArray) (a1 : Option Addr) (n1 c1 : Nat) (a2 : Option Addr) (n2 c2 : Nat)
    (hx : a.eval x = .agg [Value.string nm, .slice a1 n1 c1, .slice a2 n2 c2].toArray)
    (h : ∀ w', At 59 w' w.heap.size [Value.string nm, .slice a1 n1 c1, .slice a2 n2 c2] → Below w.heap.size w w' → wpList Tryz.prog ops Q rest (a.put o.dst (.slice (some ⟨w.heap.size, 0, none⟩) 1 1)) w') :
    wpList Tryz.prog ops Q (o :: rest) a w := by
  obtain ⟨ie, hi, hz0, hz1, hz2⟩ := info_parts i42'
  refine wpList_buildSlice hgd 24 59 1 #[(0, x)] ho [Value.string nm, .slice a1 n1 c1, .slice a2 n2 c2].toArray ie _ Tryz.underlying24 hi hz0 (by rw [hz1]; decide) (by rw [hz1]; decide) ?_ ?_
  · rw [hz1]
    simp only [List.map_toArray, List.map_cons, List.map_nil, hx]
    kernel_rfl
  · exact h _ (_root_.Go.heap_alloc_new w _) ((Below.refl _ w).alloc (Nat.le_refl _) _)
end

/-- The tree of 'thread t { skip; }', of statements at g1 and threads at g2. -/
def skipS : ST := .mk 7 ⟨#[]⟩ (.mk 0 0 0 ⟨#[]⟩ none 0 []) none 0 [] none 0 []
def skipP (g1 g2 : Nat) : PT := ⟨none, 0, [], none, 0, [], some ⟨g2, 0, none⟩, 1, [⟨⟨#[116]⟩, none, 0, [], some ⟨g1, 0, none⟩, 1, [skipS]⟩]⟩


theorem leaf_in (op t b : Nat) (nm : ByteArray) (B : Nat) (w : World) (h1 : op < 256) (h2 : t < 256) (h3 : b < 18446744073709551616) : (ET.mk op t b nm none 0 []).In B w := by
  unfold ET.In
  exact ⟨h1, h2, h3, by simp, by simp, .inl rfl⟩

theorem skipS_in (B : Nat) (w : World) : skipS.In B w := by
  unfold skipS ST.In
  exact ⟨⟨by decide, by decide⟩, leaf_in _ _ _ _ _ _ (by decide) (by decide) (by decide), ⟨by simp, by simp, .inl rfl⟩, by simp, by simp, .inl rfl⟩

/-- A program of one thread of one statement, in memory. -/
theorem one_in (s : ST) (nm : ByteArray) (g1 g2 B : Nat) (w : World) (hs : s.In B w) (hg1 : g1 < B) (hg2 : g2 < B) (h1 : At 87 w g1 s.cells) (h2 : At 59 w g2 [.string nm, .slice none 0 0, .slice (some ⟨g1, 0, none⟩) 1 1]) :
    (PT.mk none 0 [] none 0 [] (some ⟨g2, 0, none⟩) 1 [⟨nm, none, 0, [], some ⟨g1, 0, none⟩, 1, [s]⟩]).In B w := by
  refine ⟨⟨by simp, by simp, .inl rfl⟩, ⟨by simp, by simp, .inl rfl⟩, by simp, by simp, .inr ⟨g2, 0, rfl, hg2, ?_⟩⟩
  intro i v hv
  cases i with
  | zero =>
    simp at hv
    subst hv
    refine ⟨h2.rangeAll, ⟨by simp, by simp, .inl rfl⟩, by simp, by simp, .inr ⟨g1, 0, rfl, hg1, ?_⟩⟩
    unfold ST.Row
    exact ⟨h1.rangeAll, hs, trivial⟩
  | succ i => simp at hv

def awE (a1 a2 a3 : Option Addr) : ET := .mk 11 0 0 ⟨#[]⟩ a3 2 [.mk 2 0 0 ⟨#[120]⟩ none 0 [], .mk 13 0 0 ⟨#[]⟩ a2 2 [.mk 1 1 2 ⟨#[]⟩ none 0 [], .mk 16 0 0 ⟨#[]⟩ a1 1 [.mk 2 0 0 ⟨#[121]⟩ none 0 []]]]
theorem awE_may (a1 a2 a3 : Option Addr) : mayE 32 (awE a1 a2 a3).ex = true := by kernel_rfl
theorem awE_txt (a1 a2 a3 : Option Addr) : exT (awE a1 a2 a3).ex = [40, 120, 32, 43, 32, 40, 50, 32, 42, 32, 45, 121, 41, 41] := by kernel_rfl
theorem skipP_may (g1 g2 : Nat) : mayP (skipP g1 g2).pg = true := by kernel_rfl
theorem skipP_txt (g1 g2 : Nat) : pgT (skipP g1 g2).pg = [116, 104, 114, 101, 97, 100, 32, 116, 32, 123, 10, 32, 32, 115, 107, 105, 112, 59, 10, 125, 10] := by kernel_rfl

theorem awE_expr (a1 a2 a3 : Option Addr) (w : World) (h : (awE a1 a2 a3).In w.heap.size w) (hT : Tab w) (h16 : gB ≤ w.heap.size) :
    Calls Tryz.prog 12 #[.agg (awE a1 a2 a3).cells.toArray] w fun r w' => r = .returned (.tuple #[.string ⟨#[40, 120, 32, 43, 32, 40, 50, 32, 42, 32, 45, 121, 41, 41]⟩, .int .i64 0]) ∧ Below w.heap.size w w' := by
  have := expr4_any (awE a1 a2 a3) w.heap.size w h (Nat.le_refl _) hT h16 (by rw [awE_txt]; simp)
  rw [awE_may, awE_txt] at this
  exact this
theorem skipP_print (g1 g2 : Nat) (w : World) (h : (skipP g1 g2).In w.heap.size w) (hT : Tab w) (h16 : gB ≤ w.heap.size) :
    Calls Tryz.prog 10 #[.agg [.slice none 0 0, .slice none 0 0, .slice (some ⟨g2, 0, none⟩) 1 1].toArray] w fun r w' => r = .returned (.tuple #[.string ⟨#[116, 104, 114, 101, 97, 100, 32, 116, 32, 123, 10, 32, 32, 115, 107, 105, 112, 59, 10, 125, 10]⟩, .int .i64 0]) ∧ Below w.heap.size w w' := by
  have := print8_any (skipP g1 g2) w.heap.size w h (Nat.le_refl _) hT h16 (by rw [skipP_txt]; simp)
  rw [skipP_may, skipP_txt] at this
  exact this

set_option maxRecDepth 100000 in
set_option maxHeartbeats 1600000 in
theorem awake9 (w : World) (hT : Tab w) (h16 : gB ≤ w.heap.size) :
    Calls Tryz.prog 18 #[] w fun r w' => r = .returned (.bool true) ∧ Below w.heap.size w w' := by
  have HT : Hid (Tab w) := hT
  clear hT
  go_enter Tryz.func18, Tryz.ntmps18
  go_wp2_with fail
  refine (name17 ⟨#[120]⟩ w).mono ?_
  rintro r w1 ⟨rfl, b1⟩
  generalize hx : (ET.mk 2 0 0 ⟨#[120]⟩ none 0 []) = x
  have HX : Hid (x = ET.mk 2 0 0 ⟨#[120]⟩ none 0 []) := hx.symm
  clear hx
  go_wp2_with fail
  refine (whole18 2 w1).mono ?_
  rintro r w2 ⟨rfl, b2⟩
  generalize hx : (ET.mk 1 1 2 ⟨#[]⟩ none 0 []) = two
  have H2 : Hid (two = ET.mk 1 1 2 ⟨#[]⟩ none 0 []) := hx.symm
  clear hx
  go_wp2_with fail
  refine (name17 ⟨#[121]⟩ w2).mono ?_
  rintro r w3 ⟨rfl, b3⟩
  generalize hx : (ET.mk 2 0 0 ⟨#[121]⟩ none 0 []) = y
  have HY : Hid (y = ET.mk 2 0 0 ⟨#[121]⟩ none 0 []) := hx.symm
  clear hx
  have h13 := b1.trans (((b2.trans (b3.mono b2.size))).mono b1.size)
  have hY3 : y.In w3.heap.size w3 := by rw [HY.out]; exact leaf_in _ _ _ _ _ _ (by decide) (by decide) (by decide)
  go_wp2_with fail
  refine (one5 16 (by decide) y w3.heap.size w3 hY3 (Nat.le_refl _)).mono ?_
  rintro r w4 ⟨a1, rfl, hin4, b4⟩
  generalize hx : (ET.mk 16 0 0 ⟨#[]⟩ a1 1 [y]) = n at hin4 ⊢
  have HN : Hid (n = ET.mk 16 0 0 ⟨#[]⟩ a1 1 [y]) := hx.symm
  clear hx
  have h2i : two.In w4.heap.size w4 := by rw [H2.out]; exact leaf_in _ _ _ _ _ _ (by decide) (by decide) (by decide)
  go_wp2_with fail
  refine (two6 13 (by decide) two n w4.heap.size w4 h2i hin4 (Nat.le_refl _)).mono ?_
  rintro r w5 ⟨a2, rfl, hin5, b5⟩
  generalize hx : (ET.mk 13 0 0 ⟨#[]⟩ a2 2 [two, n]) = m at hin5 ⊢
  have HM : Hid (m = ET.mk 13 0 0 ⟨#[]⟩ a2 2 [two, n]) := hx.symm
  clear hx
  have hxi : x.In w5.heap.size w5 := by rw [HX.out]; exact leaf_in _ _ _ _ _ _ (by decide) (by decide) (by decide)
  go_wp2_with fail
  refine (two6 11 (by decide) x m w5.heap.size w5 hxi hin5 (Nat.le_refl _)).mono ?_
  rintro r w6 ⟨a3, rfl, hin6, b6⟩
  have he : ET.mk 11 0 0 ⟨#[]⟩ a3 2 [x, m] = awE a1 a2 a3 := by rw [HX.out, HM.out, H2.out, HN.out, HY.out]; rfl
  rw [he] at hin6 ⊢
  generalize hx : awE a1 a2 a3 = e at hin6 ⊢
  have h36 := h13.trans (((b4.trans ((b5.trans (b6.mono b5.size)).mono b4.size))).mono h13.size)
  have hE := awE_expr a1 a2 a3 w6 (by rw [hx]; exact hin6) (HT.out.below h36 h16) (by have := h36.size; omega)
  rw [hx] at hE
  clear he hx HX H2 HY HN HM hin4 hin5 hin6 hxi h2i hY3 b1 b2 b3 b4 b5 b6 h13
  go_wp2_with fail
  refine hE.mono ?_
  rintro r w7 ⟨rfl, b7⟩
  have h7 := h36.trans (b7.mono h36.size)
  clear hE b7 h36
  go_wp2_with (first
    | ((with_reducible show wpList _ _ _ _ _ _); refine wpList_build_at (P := Tryz.prog) rfl 87 #[(0, .const (.int .i64 7))] rfl (st9 7 ⟨#[]⟩ (ex5 0 0 0 ⟨#[]⟩ (.slice none 0 0)) (.slice none 0 0) (.slice none 0 0)) (by kernel_rfl) ?_)
    | ((with_reducible show wpList _ _ _ _ _ _); refine wpList_stmts1 rfl (.tmp 16) rfl 7 ⟨#[]⟩ 0 0 0 ⟨#[]⟩ none 0 0 none 0 0 none 0 0 rfl ?_; intro w8 hA8 b8)
    | ((with_reducible show wpList _ _ _ _ _ _); refine wpList_build_at (P := Tryz.prog) rfl 59 #[(0, .const (.string ⟨#[116]⟩)), (2, .tmp 17)] rfl [.string ⟨#[116]⟩, .slice none 0 0, .slice (some ⟨w7.heap.size, 0, none⟩) 1 1] (by kernel_rfl) ?_)
    | ((with_reducible show wpList _ _ _ _ _ _); refine wpList_threads1 rfl (.tmp 18) rfl ⟨#[116]⟩ none 0 0 (some ⟨w7.heap.size, 0, none⟩) 1 1 rfl ?_; intro w9 hA9 b9)
    | ((with_reducible show wpList _ _ _ _ _ _); refine wpList_build_at (P := Tryz.prog) rfl 26 #[(2, .tmp 19)] rfl [.slice none 0 0, .slice none 0 0, .slice (some ⟨w8.heap.size, 0, none⟩) 1 1] (by kernel_rfl) ?_))
  have h9 := h7.trans ((b8.trans (b9.mono b8.size)).mono h7.size)
  refine (skipP_print w7.heap.size w8.heap.size w9 (one_in skipS ⟨#[116]⟩ w7.heap.size w8.heap.size w9.heap.size w9 (skipS_in _ _) (by have := hA8.lt; have := b9.size; omega) hA9.lt (hA8.below b9) hA9) (HT.out.below h9 h16) (by have := h9.size; omega)).mono ?_
  rintro r w10 ⟨rfl, b10⟩
  have h10 := h9.trans (b10.mono h9.size)
  clear b10 h9 b9 b8 hA8 hA9 h7
  go_wp2_with fail
  go_ret
  exact ⟨rfl, h10⟩

end Go.Proofs.YtcmahiphfpgadaaGreatDoor

/- The chapter's examples: TreeKnown is walked. -/
namespace Go.Proofs.YtcmahiphfpgadaaGreatDoor
open Go.RowKit
set_option linter.unusedVariables false

def litT (t b : Nat) : ET := .mk 1 t b ⟨#[]⟩ none 0 []
def halfE (a1 a2 : Option Addr) : ET := .mk 17 0 0 ⟨#[]⟩ a2 1 [.mk 5 0 0 ⟨#[]⟩ a1 2 [litT 3 4602678819172646912, litT 3 9221120237041090560]]
theorem halfE_may (a1 a2 : Option Addr) : mayE 32 (halfE a1 a2).ex = true := by kernel_rfl
theorem halfE_txt (a1 a2 : Option Addr) : exT (halfE a1 a2).ex = [33, 40, 48, 46, 53, 32, 61, 61, 32, 110, 97, 110, 41] := by kernel_rfl
theorem halfE_expr (a1 a2 : Option Addr) (w : World) (h : (halfE a1 a2).In w.heap.size w) (hT : Tab w) (h16 : gB ≤ w.heap.size) :
    Calls Tryz.prog 12 #[.agg (halfE a1 a2).cells.toArray] w fun r w' => r = .returned (.tuple #[.string ⟨#[33, 40, 48, 46, 53, 32, 61, 61, 32, 110, 97, 110, 41]⟩, .int .i64 0]) ∧ Below w.heap.size w w' := by
  have := expr4_any (halfE a1 a2) w.heap.size w h (Nat.le_refl _) hT h16 (by rw [halfE_txt]; simp)
  rw [halfE_may, halfE_txt] at this
  exact this

theorem val_m3 (w : World) (hT : Tab w) (h16 : gB ≤ w.heap.size) : Calls Tryz.prog 14 #[.agg [.int .u8 1, .int .u64 18446744073709551613].toArray] w fun e w' => e = .returned (.tuple #[.string ⟨#[45, 51]⟩, .int .i64 0]) ∧ Below w.heap.size w w' := by
  have := value_any 1 18446744073709551613 (by decide) (by decide) w hT h16
  rw [show valOk 1 18446744073709551613 = true by kernel_rfl, show valTx 1 18446744073709551613 = [45, 51] by kernel_rfl] at this
  exact this
theorem val_m0 (w : World) (hT : Tab w) (h16 : gB ≤ w.heap.size) : Calls Tryz.prog 14 #[.agg [.int .u8 3, .int .u64 9223372036854775808].toArray] w fun e w' => e = .returned (.tuple #[.string ⟨#[45, 48, 46, 48]⟩, .int .i64 0]) ∧ Below w.heap.size w w' := by
  have := value_any 3 9223372036854775808 (by decide) (by decide) w hT h16
  rw [show valOk 3 9223372036854775808 = true by kernel_rfl, show valTx 3 9223372036854775808 = [45, 48, 46, 48] by kernel_rfl] at this
  exact this
theorem val_no (w : World) (hT : Tab w) (h16 : gB ≤ w.heap.size) : Calls Tryz.prog 14 #[.agg [.int .u8 1, .int .u64 9223372036854775808].toArray] w fun e w' => e = .returned (.tuple #[.string ⟨#[]⟩, .int .i64 2]) ∧ Below w.heap.size w w' := by
  have := value_any 1 9223372036854775808 (by decide) (by decide) w hT h16
  rw [show valOk 1 9223372036854775808 = false by kernel_rfl] at this
  exact this

def ifS (g : Nat) : ST := .mk 5 ⟨#[]⟩ (litT 2 1) (some ⟨g, 0, none⟩) 1 [skipS] (some ⟨g, 0, none⟩) 1 [skipS]
def ifP (g g1 g2 : Nat) : PT := ⟨none, 0, [], none, 0, [], some ⟨g2, 0, none⟩, 1, [⟨⟨#[116]⟩, none, 0, [], some ⟨g1, 0, none⟩, 1, [ifS g]⟩]⟩
theorem ifP_may (g g1 g2 : Nat) : mayP (ifP g g1 g2).pg = true := by kernel_rfl
theorem ifP_txt (g g1 g2 : Nat) : pgT (ifP g g1 g2).pg = [116, 104, 114, 101, 97, 100, 32, 116, 32, 123, 10, 32, 32, 105, 102, 32, 116, 114, 117, 101, 32, 123, 10, 32, 32, 32, 32, 115, 107, 105, 112, 59, 10, 32, 32, 125, 32, 101, 108, 115, 101, 32, 123, 10, 32, 32, 32, 32, 115, 107, 105, 112, 59, 10, 32, 32, 125, 10, 125, 10] := by kernel_rfl
theorem ifP_print (g g1 g2 : Nat) (w : World) (h : (ifP g g1 g2).In w.heap.size w) (hT : Tab w) (h16 : gB ≤ w.heap.size) :
    Calls Tryz.prog 10 #[.agg [.slice none 0 0, .slice none 0 0, .slice (some ⟨g2, 0, none⟩) 1 1].toArray] w fun r w' => r = .returned (.tuple #[.string ⟨#[116, 104, 114, 101, 97, 100, 32, 116, 32, 123, 10, 32, 32, 105, 102, 32, 116, 114, 117, 101, 32, 123, 10, 32, 32, 32, 32, 115, 107, 105, 112, 59, 10, 32, 32, 125, 32, 101, 108, 115, 101, 32, 123, 10, 32, 32, 32, 32, 115, 107, 105, 112, 59, 10, 32, 32, 125, 10, 125, 10]⟩, .int .i64 0]) ∧ Below w.heap.size w w' := by
  have := print8_any (ifP g g1 g2) w.heap.size w h (Nat.le_refl _) hT h16 (by rw [ifP_txt]; simp)
  rw [ifP_may, ifP_txt] at this
  exact this

theorem litT_in (t b B : Nat) (w : World) (h2 : t < 256) (h3 : b < 18446744073709551616) : (litT t b).In B w := leaf_in _ _ _ _ _ _ (by decide) h2 h3

theorem ifS_in (g B : Nat) (w : World) (hg : g < B) (h : At 87 w g skipS.cells) : (ifS g).In B w := by
  unfold ifS ST.In
  refine ⟨⟨by decide, by decide⟩, litT_in _ _ _ _ (by decide) (by decide), ⟨by simp, by simp, .inr ⟨g, 0, rfl, hg, ?_⟩⟩, by simp, by simp, .inr ⟨g, 0, rfl, hg, ?_⟩⟩
  all_goals
    unfold ST.Row
    exact ⟨h.rangeAll, skipS_in _ _, trivial⟩

set_option maxRecDepth 100000 in
set_option maxHeartbeats 3200000 in
theorem known3 (w : World) (hT : Tab w) (h16 : gB ≤ w.heap.size) :
    Calls Tryz.prog 26 #[] w fun r w' => r = .returned (.bool true) ∧ Below w.heap.size w w' := by
  have HT : Hid (Tab w) := hT
  clear hT
  go_enter Tryz.func26, Tryz.ntmps26
  go_wp2_with (first
    | ((with_reducible show wpList _ _ _ _ _ _); refine wpList_build_at (P := Tryz.prog) rfl 31 #[(0, .const (.int .u8 3)), (1, .const (.int .u64 4602678819172646912))] rfl [.int .u8 3, .int .u64 4602678819172646912] (by kernel_rfl) ?_)
    | ((with_reducible show wpList _ _ _ _ _ _); refine wpList_build_at (P := Tryz.prog) rfl 34 #[(0, .const (.int .u8 1)), (1, .tmp 16)] rfl (litT 3 4602678819172646912).cells (by kernel_rfl) ?_)
    | ((with_reducible show wpList _ _ _ _ _ _); refine wpList_alloc_at rfl 34 rfl _ 5 z29 ?_; intro w1 hA1 b1 s1)
    | ((with_reducible show wpList _ _ _ _ _ _); refine wpList_store_at (P := Tryz.prog) rfl 34 (.tmp 1) (.tmp 17) rfl w.heap.size (litT 3 4602678819172646912).cells rfl rfl 34 _ hA1 i29 rfl (ex5_one 1 3 4602678819172646912 ⟨#[]⟩ none 0 0) ?_; intro w2 hA2 b2 s2; refine Hid.out ?_))
  refine hidU ?_
  have h2 : Below w.heap.size w w2 := b2.below b1 (Nat.le_refl _) (by omega)
  clear b1 b2 s1 s2 hA1
  go_wp2_with (first
    | ((with_reducible show wpList _ _ _ _ _ _); refine wpList_build_at (P := Tryz.prog) rfl 31 #[(0, .const (.int .u8 3)), (1, .const (.int .u64 9221120237041090560))] rfl [.int .u8 3, .int .u64 9221120237041090560] (by kernel_rfl) ?_)
    | ((with_reducible show wpList _ _ _ _ _ _); refine wpList_build_at (P := Tryz.prog) rfl 34 #[(0, .const (.int .u8 1)), (1, .tmp 18)] rfl (litT 3 9221120237041090560).cells (by kernel_rfl) ?_)
    | ((with_reducible show wpList _ _ _ _ _ _); refine wpList_alloc_at rfl 34 rfl _ 5 z29 ?_; intro w3 hA3 b3 s3)
    | ((with_reducible show wpList _ _ _ _ _ _); refine wpList_store_at (P := Tryz.prog) rfl 34 (.tmp 2) (.tmp 19) rfl w2.heap.size (litT 3 9221120237041090560).cells rfl rfl 34 _ hA3 i29 rfl (ex5_one 1 3 9221120237041090560 ⟨#[]⟩ none 0 0) ?_; intro w4 hA4 b4 s4; refine Hid.out ?_))
  refine hidU ?_
  have h24 : Below w2.heap.size w2 w4 := b4.below b3 (Nat.le_refl _) (by omega)
  have h4 := h2.trans (h24.mono h2.size)
  have hB4 := hA2.below h24
  clear b3 b4 s3 s4 hA3 h24 hA2
  have hw4 : gB ≤ w4.heap.size := by have := h4.size; omega
  have hc4 : w.heap.size < w4.heap.size := hB4.lt
  go_wp2_with (first
    | ((with_reducible show wpList _ _ _ _ _ _); refine wpList_load_at (P := Tryz.prog) rfl 34 (.tmp 1) rfl w.heap.size rfl 34 (litT 3 4602678819172646912).cells hB4 _ Tryz.underlying34 rfl i29 ?_)
    | ((with_reducible show wpList _ _ _ _ _ _); refine wpList_load_at (P := Tryz.prog) rfl 34 (.tmp 2) rfl w2.heap.size rfl 34 (litT 3 9221120237041090560).cells hA4 _ Tryz.underlying34 rfl i29 ?_))
  refine (two6 5 (by decide) (litT 3 4602678819172646912) (litT 3 9221120237041090560) w4.heap.size w4 (litT_in _ _ _ _ (by decide) (by decide)) (litT_in _ _ _ _ (by decide) (by decide)) (Nat.le_refl _)).mono ?_
  rintro r w5 ⟨a1, rfl, hin5, b5⟩
  generalize hx : (ET.mk 5 0 0 ⟨#[]⟩ a1 2 [litT 3 4602678819172646912, litT 3 9221120237041090560]) = e at hin5 ⊢
  have HE : Hid (e = ET.mk 5 0 0 ⟨#[]⟩ a1 2 [litT 3 4602678819172646912, litT 3 9221120237041090560]) := hx.symm
  clear hx hA4 hB4
  go_wp2_with fail
  refine (one5 17 (by decide) e w5.heap.size w5 hin5 (Nat.le_refl _)).mono ?_
  rintro r w6 ⟨a2, rfl, hin6, b6⟩
  rw [HE.out] at hin6 ⊢
  rw [show ET.mk 17 0 0 ⟨#[]⟩ a2 1 [ET.mk 5 0 0 ⟨#[]⟩ a1 2 [litT 3 4602678819172646912, litT 3 9221120237041090560]] = halfE a1 a2 from rfl] at hin6 ⊢
  have h6 := h4.trans ((b5.trans (b6.mono b5.size)).mono h4.size)
  have hE := halfE_expr a1 a2 w6 hin6 (HT.out.below h6 h16) (by have := h6.size; omega)
  generalize hx : halfE a1 a2 = f at hE ⊢
  clear hx hin6 hin5 HE b5 b6 h4 h2
  go_wp2_with fail
  refine hE.mono ?_
  rintro r w7 ⟨rfl, b7⟩
  have h7 := h6.trans (b7.mono h6.size)
  have hV := val_m3 w7 (HT.out.below h7 h16) (by have := h7.size; omega)
  clear hE b7 h6
  go_wp2_with (first
    | ((with_reducible show wpList _ _ _ _ _ _); refine wpList_build_at (P := Tryz.prog) rfl 31 #[(0, .const (.int .u8 1)), (1, .tmp 30)] rfl [.int .u8 1, .int .u64 18446744073709551613] (by kernel_rfl) ?_))
  refine hV.mono ?_
  rintro r w8 ⟨rfl, b8⟩
  have h8 := h7.trans (b8.mono h7.size)
  clear hV b8 h7
  have hV := val_m0 w8 (HT.out.below h8 h16) (by have := h8.size; omega)
  go_wp2_with (first
    | ((with_reducible show wpList _ _ _ _ _ _); refine wpList_build_at (P := Tryz.prog) rfl 31 #[(0, .const (.int .u8 3)), (1, .const (.int .u64 9223372036854775808))] rfl [.int .u8 3, .int .u64 9223372036854775808] (by kernel_rfl) ?_))
  refine hV.mono ?_
  rintro r w9 ⟨rfl, b9⟩
  have h9 := h8.trans (b9.mono h8.size)
  clear hV b9 h8
  have hV := val_no w9 (HT.out.below h9 h16) (by have := h9.size; omega)
  go_wp2_with (first
    | ((with_reducible show wpList _ _ _ _ _ _); refine wpList_build_at (P := Tryz.prog) rfl 31 #[(0, .const (.int .u8 1)), (1, .const (.int .u64 9223372036854775808))] rfl [.int .u8 1, .int .u64 9223372036854775808] (by kernel_rfl) ?_))
  refine hV.mono ?_
  rintro r w10 ⟨rfl, b10⟩
  have h10 := h9.trans (b10.mono h9.size)
  clear hV b10 h9
  go_wp2_with (first
    | ((with_reducible show wpList _ _ _ _ _ _); refine wpList_build_at (P := Tryz.prog) rfl 87 #[(0, .const (.int .i64 7))] rfl skipS.cells (by kernel_rfl) ?_)
    | ((with_reducible show wpList _ _ _ _ _ _); refine wpList_stmts1 rfl (.tmp 45) rfl 7 ⟨#[]⟩ 0 0 0 ⟨#[]⟩ none 0 0 none 0 0 none 0 0 rfl ?_; intro w11 hA11 b11; refine Hid.out ?_))
  refine hidU ?_
  have h11 := h10.trans (b11.mono h10.size)
  clear h10
  go_wp2_with (first
    | ((with_reducible show wpList _ _ _ _ _ _); refine wpList_build_at (P := Tryz.prog) rfl 31 #[(0, .const (.int .u8 2)), (1, .const (.int .u64 1))] rfl [.int .u8 2, .int .u64 1] (by kernel_rfl) ?_)
    | ((with_reducible show wpList _ _ _ _ _ _); refine wpList_build_at (P := Tryz.prog) rfl 34 #[(0, .const (.int .u8 1)), (1, .tmp 47)] rfl (litT 2 1).cells (by kernel_rfl) ?_)
    | ((with_reducible show wpList _ _ _ _ _ _); refine wpList_alloc_at rfl 34 rfl _ 5 z29 ?_; intro w12 hA12 b12 s12)
    | ((with_reducible show wpList _ _ _ _ _ _); refine wpList_store_at (P := Tryz.prog) rfl 34 (.tmp 13) (.tmp 48) rfl w11.heap.size (litT 2 1).cells rfl rfl 34 _ hA12 i29 rfl (ex5_one 1 2 1 ⟨#[]⟩ none 0 0) ?_; intro w13 hA13 b13 s13; refine Hid.out ?_))
  refine hidU ?_
  have h1113 : Below w11.heap.size w11 w13 := b13.below b12 (Nat.le_refl _) (by omega)
  have h13 := h11.trans (h1113.mono h11.size)
  have hS13 := hA11.below h1113
  have hl13 : w10.heap.size < w13.heap.size := hS13.lt
  clear b12 b13 s12 s13 hA12 h1113 hA11 b11 h11
  go_wp2_with (first
    | ((with_reducible show wpList _ _ _ _ _ _); refine wpList_load_at (P := Tryz.prog) rfl 34 (.tmp 13) rfl w11.heap.size rfl 34 (litT 2 1).cells hA13 _ Tryz.underlying34 rfl i29 ?_)
    | ((with_reducible show wpList _ _ _ _ _ _); refine wpList_build_at (P := Tryz.prog) rfl 87 #[(0, .const (.int .i64 5)), (2, .tmp 50), (3, .tmp 51), (4, .tmp 52)] rfl (ifS w10.heap.size).cells (by kernel_rfl) ?_)
    | ((with_reducible show wpList _ _ _ _ _ _); refine wpList_stmts1 rfl (.tmp 53) rfl 5 ⟨#[]⟩ 1 2 1 ⟨#[]⟩ none 0 0 (some ⟨w10.heap.size, 0, none⟩) 1 1 (some ⟨w10.heap.size, 0, none⟩) 1 1 rfl ?_; intro w14 hA14 b14)
    | ((with_reducible show wpList _ _ _ _ _ _); refine wpList_build_at (P := Tryz.prog) rfl 59 #[(0, .const (.string ⟨#[116]⟩)), (2, .tmp 54)] rfl [.string ⟨#[116]⟩, .slice none 0 0, .slice (some ⟨w13.heap.size, 0, none⟩) 1 1] (by kernel_rfl) ?_)
    | ((with_reducible show wpList _ _ _ _ _ _); refine wpList_threads1 rfl (.tmp 55) rfl ⟨#[116]⟩ none 0 0 (some ⟨w13.heap.size, 0, none⟩) 1 1 rfl ?_; intro w15 hA15 b15)
    | ((with_reducible show wpList _ _ _ _ _ _); refine wpList_build_at (P := Tryz.prog) rfl 26 #[(2, .tmp 56)] rfl [.slice none 0 0, .slice none 0 0, .slice (some ⟨w14.heap.size, 0, none⟩) 1 1] (by kernel_rfl) ?_))
  have hb15 := b14.trans (b15.mono b14.size)
  have h15 := h13.trans (hb15.mono h13.size)
  have hl14 := hA14.lt
  have hP := ifP_print w10.heap.size w13.heap.size w14.heap.size w15 (one_in (ifS w10.heap.size) ⟨#[116]⟩ w13.heap.size w14.heap.size w15.heap.size w15 (ifS_in _ _ _ (by have := hb15.size; omega) (hS13.below hb15)) (by have := b15.size; omega) hA15.lt (hA14.below b15) hA15) (HT.out.below h15 h16) (by have := h15.size; omega)
  refine hP.mono ?_
  rintro r w16 ⟨rfl, b16⟩
  have h16' := h15.trans (b16.mono h15.size)
  clear b16 h15 hb15 b14 b15 hA14 hA15 hP hS13 hA13 h13
  have hK := awake9 w16 (HT.out.below h16' h16) (by have := h16'.size; omega)
  go_wp2_with fail
  refine hK.mono ?_
  rintro r w17 ⟨rfl, b17⟩
  have h17 := h16'.trans (b17.mono h16'.size)
  clear hK b17 h16'
  go_wp2_with fail
  go_ret
  exact ⟨rfl, h17⟩

end Go.Proofs.YtcmahiphfpgadaaGreatDoor
