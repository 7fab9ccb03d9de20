/- Joined texts of the proof. -/
import Derived.Test.YtcmahiphfpgadaaGreatDoorJ9
import Derived.Test.YtcmahiphfpgadaaGreatDoorJ11
import Derived.Test.YtcmahiphfpgadaaGreatDoorJ12
import Derived.Test.YtcmahiphfpgadaaGreatDoorJ10
import Derived.Test.YtcmahiphfpgadaaGreatDoorJ6

/- Expressions are made of one and of two. -/
namespace Go.Proofs.YtcmahiphfpgadaaGreatDoor
open Go.RowKit
set_option linter.unusedVariables false

theorem At.rangeAll {t : TypeId} {w : World} {g : Nat} {cs : List Value} (h : At t w g cs) : w.rangeAt g 0 cs := by
 intro j v hj
 rw [h.cell, Nat.zero_add]
 exact hj

set_option maxRecDepth 100000 in
set_option maxHeartbeats 1600000 in
theorem one5 (op : Nat) (hop : op < 256) (e : ET) (B : Nat) (w : World) (hin : e.In B w) (hBw : B ≤ w.heap.size) :
  Calls Tryz.prog 49 #[.int .u8 (op : Int), .agg e.cells.toArray] w fun r w' => ∃ a, r = .returned (.agg (ET.mk op 0 0 ⟨#[]⟩ a 1 [e]).cells.toArray) ∧ (ET.mk op 0 0 ⟨#[]⟩ a 1 [e]).In w'.heap.size w' ∧ Below w.heap.size w w' := by
 have HI : Hid (e.In B w) := hin
 clear hin
 obtain ⟨eop, t, b, nm, ea, ec, ks⟩ := e
 obtain ⟨n, hn⟩ : ∃ n, Hid (n = ks.length) := ⟨_, (rfl : ks.length = _)⟩
 show Calls Tryz.prog 49 #[.int .u8 (op : Int), .agg (ex5 eop t b nm (.slice ea ks.length ec)).toArray] w _
 rw [← hn.out]
 go_enter Tryz.func49, Tryz.ntmps49
 go_wp2_with (first
  | ((with_reducible show wpList _ _ _ _ _ _); refine wpList_box_at rfl 34 (.tmp 1) rfl (ex5 eop t b nm (.slice ea n ec)) rfl ?_; intro w1 hA1 hb1 hs1; clear hs1)
  | ((with_reducible show wpList _ _ _ _ _ _); refine wpList_alloc_at rfl 34 rfl _ 5 z29 ?_; intro w2 hA2 hb2 hs2; clear hs2; refine Hid.out ?_))
 refine hidU ?_
 have hA12 := hA1.below hb2
 have hw2 := hb1.trans (hb2.mono hb1.size)
 clear hA1 hb2
 go_wp2_with (first
  | ((with_reducible show wpList _ _ _ _ _ _); refine wpList_load_at (P := Tryz.prog) rfl 34 (.tmp 3) rfl w.heap.size rfl 34 (ex5 eop t b nm (.slice ea n ec)) hA12 _ Tryz.underlying34 rfl i29 ?_)
  | ((with_reducible show wpList _ _ _ _ _ _); refine wpList_exprs1 rfl (.tmp 6) rfl eop t b nm ea n ec rfl ?_; intro w3 hA3 hb3)
  | ((with_reducible show wpList _ _ _ _ _ _); refine wpList_build_at (P := Tryz.prog) rfl 34 #[(0, .tmp 5), (3, .tmp 7)] rfl (ex5 op 0 0 ⟨#[]⟩ (.slice (some ⟨w2.heap.size, 0, none⟩) 1 1)) (by kernel_rfl) ?_)
  | ((with_reducible show wpList _ _ _ _ _ _); refine wpList_store_at (P := Tryz.prog) rfl 34 (.tmp 4) (.tmp 8) rfl w1.heap.size (ex5 op 0 0 ⟨#[]⟩ (.slice (some ⟨w2.heap.size, 0, none⟩) 1 1)) rfl rfl 34 _ (hA2.below hb3) i29 rfl (ex5_one _ _ _ _ _ _ _) ?_; intro w4 hA4 hb4 hs4; refine Hid.out ?_))
 refine hidU ?_
 have hlt1 : w1.heap.size < w2.heap.size := hA2.lt
 have hw3 := hw2.trans (hb3.mono hw2.size)
 have hw4 : Below w.heap.size w w4 := hb4.below hw3 hb1.size hw3.size
 have hA34 : At 34 w4 w2.heap.size (ex5 eop t b nm (.slice ea n ec)) := hb4.at hA3 (by omega)
 clear hA2 hb4 hb3 hA12 hw2 hw3
 go_wp2
 refine bodyPost_ret (results_at rfl _ _ w1.heap.size 34 (ex5 op 0 0 ⟨#[]⟩ (.slice (some ⟨w2.heap.size, 0, none⟩) 1 1)) _ rfl hA4 Tryz.underlying34 rfl i29) rfl ?_
 refine ⟨some ⟨w2.heap.size, 0, none⟩, rfl, ?_, hw4⟩
 have hold : Old B w w4 := Old.of_below hw4 hBw
 have hin4 := (HI.out.old hold).up (C := w4.heap.size) (by have := hw4.size; omega)
 unfold ET.In
 refine ⟨hop, by decide, by decide, by simp, by simp, .inr ⟨w2.heap.size, 0, rfl, hA34.lt, ?_⟩⟩
 unfold ET.Row
 refine ⟨?_, hin4, by unfold ET.Row; trivial⟩
 have := hA34.rangeAll
 rw [hn.out] at this
 exact this

set_option maxRecDepth 100000 in
set_option maxHeartbeats 1600000 in
theorem two6 (op : Nat) (hop : op < 256) (e f : ET) (B : Nat) (w : World) (hin : e.In B w) (hif : f.In B w) (hBw : B ≤ w.heap.size) :
  Calls Tryz.prog 46 #[.int .u8 (op : Int), .agg e.cells.toArray, .agg f.cells.toArray] w fun r w' => ∃ a, r = .returned (.agg (ET.mk op 0 0 ⟨#[]⟩ a 2 [e, f]).cells.toArray) ∧ (ET.mk op 0 0 ⟨#[]⟩ a 2 [e, f]).In w'.heap.size w' ∧ Below w.heap.size w w' := by
 have HI : Hid (e.In B w ∧ f.In B w) := ⟨hin, hif⟩
 clear hin hif
 obtain ⟨eop, t, b, nm, ea, ec, ks⟩ := e
 obtain ⟨fop, t', b', nm', fa, fc, ks'⟩ := f
 obtain ⟨n, hn⟩ : ∃ n, Hid (n = ks.length) := ⟨_, (rfl : ks.length = _)⟩
 obtain ⟨n', hn'⟩ : ∃ n, Hid (n = ks'.length) := ⟨_, (rfl : ks'.length = _)⟩
 show Calls Tryz.prog 46 #[.int .u8 (op : Int), .agg (ex5 eop t b nm (.slice ea ks.length ec)).toArray, .agg (ex5 fop t' b' nm' (.slice fa ks'.length fc)).toArray] w _
 rw [← hn.out, ← hn'.out]
 go_enter Tryz.func46, Tryz.ntmps46
 go_wp2_with (first
  | ((with_reducible show wpList _ _ _ _ _ _); refine wpList_box_at rfl 34 (.tmp 1) rfl (ex5 eop t b nm (.slice ea n ec)) rfl ?_; intro w1 hA1 hb1 hs1; clear hs1)
  | ((with_reducible show wpList _ _ _ _ _ _); refine wpList_box_at rfl 34 (.tmp 2) rfl (ex5 fop t' b' nm' (.slice fa n' fc)) rfl ?_; intro v1 hB1 hd1 hs1; clear hs1)
  | ((with_reducible show wpList _ _ _ _ _ _); refine wpList_alloc_at rfl 34 rfl _ 5 z29 ?_; intro w2 hA2 hb2 hs2; clear hs2; refine Hid.out ?_))
 refine hidU ?_
 have hA12 := (hA1.below hd1).below hb2
 have hB12 := hB1.below hb2
 have hv1 := hb1.trans (hd1.mono hb1.size)
 have hw2 := hv1.trans (hb2.mono hv1.size)
 clear hA1 hB1 hb2
 go_wp2_with (first
  | ((with_reducible show wpList _ _ _ _ _ _); refine wpList_load_at (P := Tryz.prog) rfl 34 (.tmp 4) rfl w.heap.size rfl 34 (ex5 eop t b nm (.slice ea n ec)) hA12 _ Tryz.underlying34 rfl i29 ?_)
  | ((with_reducible show wpList _ _ _ _ _ _); refine wpList_load_at (P := Tryz.prog) rfl 34 (.tmp 5) rfl w1.heap.size rfl 34 (ex5 fop t' b' nm' (.slice fa n' fc)) hB12 _ Tryz.underlying34 rfl i29 ?_)
  | ((with_reducible show wpList _ _ _ _ _ _); refine wpList_exprs2 rfl (.tmp 8) (.tmp 9) rfl eop t b nm ea n ec rfl fop t' b' nm' fa n' fc rfl ?_; intro w3 hA3 hb3)
  | ((with_reducible show wpList _ _ _ _ _ _); refine wpList_build_at (P := Tryz.prog) rfl 34 #[(0, .tmp 7), (3, .tmp 10)] rfl (ex5 op 0 0 ⟨#[]⟩ (.slice (some ⟨w2.heap.size, 0, none⟩) 2 2)) (by kernel_rfl) ?_)
  | ((with_reducible show wpList _ _ _ _ _ _); refine wpList_store_at (P := Tryz.prog) rfl 34 (.tmp 6) (.tmp 11) rfl v1.heap.size (ex5 op 0 0 ⟨#[]⟩ (.slice (some ⟨w2.heap.size, 0, none⟩) 2 2)) rfl rfl 34 _ (hA2.below hb3) i29 rfl (ex5_one _ _ _ _ _ _ _) ?_; intro w4 hA4 hb4 hs4; refine Hid.out ?_))
 refine hidU ?_
 have hlt1 : v1.heap.size < w2.heap.size := hA2.lt
 have hw3 := hw2.trans (hb3.mono hw2.size)
 have hw4 : Below w.heap.size w w4 := hb4.below hw3 hv1.size hw3.size
 have hA34 : At 34 w4 w2.heap.size (ex5 eop t b nm (.slice ea n ec) ++ ex5 fop t' b' nm' (.slice fa n' fc)) := hb4.at hA3 (by omega)
 clear hA2 hb4 hb3 hA12 hB12 hw2 hw3
 go_wp2
 refine bodyPost_ret (results_at rfl _ _ v1.heap.size 34 (ex5 op 0 0 ⟨#[]⟩ (.slice (some ⟨w2.heap.size, 0, none⟩) 2 2)) _ rfl hA4 Tryz.underlying34 rfl i29) rfl ?_
 refine ⟨some ⟨w2.heap.size, 0, none⟩, rfl, ?_, hw4⟩
 have hold : Old B w w4 := Old.of_below hw4 hBw
 have hin4 := (HI.out.1.old hold).up (C := w4.heap.size) (by have := hw4.size; omega)
 have hif4 := (HI.out.2.old hold).up (C := w4.heap.size) (by have := hw4.size; omega)
 unfold ET.In
 refine ⟨hop, by decide, by decide, by simp, by simp, .inr ⟨w2.heap.size, 0, rfl, hA34.lt, ?_⟩⟩
 have hr := hA34.rangeAll
 rw [hn.out, hn'.out] at hr
 unfold ET.Row
 refine ⟨fun j v hj => ?_, hin4, ?_⟩
 ·refine hr j v ?_
  have : j < 5 := by have := (List.getElem?_eq_some_iff.1 hj).1; rw [ET.cells_len] at this; exact this
  rw [List.getElem?_append_left (by simpa [ex5] using this)]
  exact hj
 ·unfold ET.Row
  refine ⟨fun j v hj => ?_, hif4, by unfold ET.Row; trivial⟩
  have := hr (5 + j) v (by
   rw [List.getElem?_append_right (by simp [ex5])]
   have e : 5 + j - (ex5 eop t b nm (.slice ea ks.length ec)).length = j := by show 5 + j - 5 = j; omega
   rw [e]
   exact hj)
  rw [show 0 + 5 + j = 0 + (5 + j) by omega]
  exact this

end Go.Proofs.YtcmahiphfpgadaaGreatDoor

/- Statements and threads are laid as rows; awake. -/
namespace Go.Proofs.YtcmahiphfpgadaaGreatDoor
open Go.RowKit
set_option linter.unusedVariables false

theorem i38' : (Tryz.prog.info? 87).map (fun i => (i.zero, i.size, i.bytes)) = some (some (.agg (st9 0 ⟨#[]⟩ (ex5 0 0 0 ⟨#[]⟩ (.slice none 0 0)) (.slice none 0 0) (.slice none 0 0)).toArray), 9, 136) := by kernel_rfl
theorem i42' : (Tryz.prog.info? 59).map (fun i => (i.zero, i.size, i.bytes)) = some (some (.agg [Value.string ⟨#[]⟩, .slice none 0 0, .slice none 0 0].toArray), 3, 64) := by kernel_rfl

section
variable {ops : Array Oper} {rest : List Oper} {o : Oper} {a : Act} {w : World} {Q : Exit → Act → World → Prop}
/-- One statement is laid as a row. -/
theorem wpList_stmts1 (hgd : o.guard = none) (x : Operand) (ho : o.op = .buildSlice 57 1 #[(0, x)]) (k : Int) (snm : ByteArray) (op t b : Nat) (nm : ByteArray) (ea : Option Addr) (n c : Nat) (a1 : Option Addr) (n1 c1 : Nat) (a2 : Option Addr) (n2 c2 : Nat)
  (hx : a.eval x = .agg (st9 k snm (ex5 op t b nm (.slice ea n c)) (.slice a1 n1 c1) (.slice a2 n2 c2)).toArray)
  (h : ∀ w', At 87 w' w.heap.size (st9 k snm (ex5 op t b nm (.slice ea n c)) (.slice a1 n1 c1) (.slice a2 n2 c2)) → Below w.heap.size w w' → wpList Tryz.prog ops Q rest (a.put o.dst (.slice (some ⟨w.heap.size, 0, none⟩) 1 1)) w') :
  wpList Tryz.prog ops Q (o :: rest) a w := by
 obtain ⟨ie, hi, hz0, hz1, hz2⟩ := info_parts i38'
 refine wpList_buildSlice hgd 57 87 1 #[(0, x)] ho (st9 k snm (ex5 op t b nm (.slice ea n c)) (.slice a1 n1 c1) (.slice a2 n2 c2)).toArray ie _ Tryz.underlying57 hi hz0 (by rw [hz1]; decide) (by rw [hz1]; decide) ?_ ?_
 ·rw [hz1]
  simp only [List.map_toArray, List.map_cons, List.map_nil, hx]
  kernel_rfl
 ·exact h _ (_root_.Go.heap_alloc_new w _) ((Below.refl _ w).alloc (Nat.le_refl _) _)
/-- One thread is laid as a row. -/
theorem wpList_threads1 (hgd : o.guard = none) (x : Operand) (ho : o.op = .buildSlice 24 1 #[(0, x)]) (nm : ByteArray) (a1 : Option Addr) (n1 c1 : Nat) (a2 : Option Addr) (n2 c2 : Nat)
  (hx : a.eval x = .agg [Value.string nm, .slice a1 n1 c1, .slice a2 n2 c2].toArray)
  (h : ∀ w', At 59 w' w.heap.size [Value.string nm, .slice a1 n1 c1, .slice a2 n2 c2] → Below w.heap.size w w' → wpList Tryz.prog ops Q rest (a.put o.dst (.slice (some ⟨w.heap.size, 0, none⟩) 1 1)) w') :
  wpList Tryz.prog ops Q (o :: rest) a w := by
 obtain ⟨ie, hi, hz0, hz1, hz2⟩ := info_parts i42'
 refine wpList_buildSlice hgd 24 59 1 #[(0, x)] ho [Value.string nm, .slice a1 n1 c1, .slice a2 n2 c2].toArray ie _ Tryz.underlying24 hi hz0 (by rw [hz1]; decide) (by rw [hz1]; decide) ?_ ?_
 ·rw [hz1]
  simp only [List.map_toArray, List.map_cons, List.map_nil, hx]
  kernel_rfl
 ·exact h _ (_root_.Go.heap_alloc_new w _) ((Below.refl _ w).alloc (Nat.le_refl _) _)
end

/-- The tree of 'thread t { skip; }', of statements at g1 and threads at g2. -/
def skipS : ST := .mk 7 ⟨#[]⟩ (.mk 0 0 0 ⟨#[]⟩ none 0 []) none 0 [] none 0 []
def skipP (g1 g2 : Nat) : PT := ⟨none, 0, [], none, 0, [], some ⟨g2, 0, none⟩, 1, [⟨⟨#[116]⟩, none, 0, [], some ⟨g1, 0, none⟩, 1, [skipS]⟩]⟩

theorem leaf_in (op t b : Nat) (nm : ByteArray) (B : Nat) (w : World) (h1 : op < 256) (h2 : t < 256) (h3 : b < 18446744073709551616) : (ET.mk op t b nm none 0 []).In B w := by
 unfold ET.In
 exact ⟨h1, h2, h3, by simp, by simp, .inl rfl⟩

theorem skipS_in (B : Nat) (w : World) : skipS.In B w := by
 unfold skipS ST.In
 exact ⟨⟨by decide, by decide⟩, leaf_in _ _ _ _ _ _ (by decide) (by decide) (by decide), ⟨by simp, by simp, .inl rfl⟩, by simp, by simp, .inl rfl⟩

/-- A program of one thread of one statement, in memory. -/
theorem one_in (s : ST) (nm : ByteArray) (g1 g2 B : Nat) (w : World) (hs : s.In B w) (hg1 : g1 < B) (hg2 : g2 < B) (h1 : At 87 w g1 s.cells) (h2 : At 59 w g2 [.string nm, .slice none 0 0, .slice (some ⟨g1, 0, none⟩) 1 1]) :
  (PT.mk none 0 [] none 0 [] (some ⟨g2, 0, none⟩) 1 [⟨nm, none, 0, [], some ⟨g1, 0, none⟩, 1, [s]⟩]).In B w := by
 refine ⟨⟨by simp, by simp, .inl rfl⟩, ⟨by simp, by simp, .inl rfl⟩, by simp, by simp, .inr ⟨g2, 0, rfl, hg2, ?_⟩⟩
 intro i v hv
 cases i with
 | zero =>
  simp at hv
  subst hv
  refine ⟨h2.rangeAll, ⟨by simp, by simp, .inl rfl⟩, by simp, by simp, .inr ⟨g1, 0, rfl, hg1, ?_⟩⟩
  unfold ST.Row
  exact ⟨h1.rangeAll, hs, trivial⟩
 | succ i => simp at hv

def awE (a1 a2 a3 : Option Addr) : ET := .mk 11 0 0 ⟨#[]⟩ a3 2 [.mk 2 0 0 ⟨#[120]⟩ none 0 [], .mk 13 0 0 ⟨#[]⟩ a2 2 [.mk 1 1 2 ⟨#[]⟩ none 0 [], .mk 16 0 0 ⟨#[]⟩ a1 1 [.mk 2 0 0 ⟨#[121]⟩ none 0 []]]]
theorem awE_may (a1 a2 a3 : Option Addr) : mayE 32 (awE a1 a2 a3).ex = true := by kernel_rfl
theorem awE_txt (a1 a2 a3 : Option Addr) : exT (awE a1 a2 a3).ex = [40, 120, 32, 43, 32, 40, 50, 32, 42, 32, 45, 121, 41, 41] := by kernel_rfl
theorem skipP_may (g1 g2 : Nat) : mayP (skipP g1 g2).pg = true := by kernel_rfl
theorem skipP_txt (g1 g2 : Nat) : pgT (skipP g1 g2).pg = [116, 104, 114, 101, 97, 100, 32, 116, 32, 123, 10, 32, 32, 115, 107, 105, 112, 59, 10, 125, 10] := by kernel_rfl

theorem awE_expr (a1 a2 a3 : Option Addr) (w : World) (h : (awE a1 a2 a3).In w.heap.size w) (hT : Tab w) (h16 : gB ≤ w.heap.size) :
  Calls Tryz.prog 12 #[.agg (awE a1 a2 a3).cells.toArray] w fun r w' => r = .returned (.tuple #[.string ⟨#[40, 120, 32, 43, 32, 40, 50, 32, 42, 32, 45, 121, 41, 41]⟩, .int .i64 0]) ∧ Below w.heap.size w w' := by
 have := expr4_any (awE a1 a2 a3) w.heap.size w h (Nat.le_refl _) hT h16 (by rw [awE_txt]; simp)
 rw [awE_may, awE_txt] at this
 exact this
theorem skipP_print (g1 g2 : Nat) (w : World) (h : (skipP g1 g2).In w.heap.size w) (hT : Tab w) (h16 : gB ≤ w.heap.size) :
  Calls Tryz.prog 10 #[.agg [.slice none 0 0, .slice none 0 0, .slice (some ⟨g2, 0, none⟩) 1 1].toArray] w fun r w' => r = .returned (.tuple #[.string ⟨#[116, 104, 114, 101, 97, 100, 32, 116, 32, 123, 10, 32, 32, 115, 107, 105, 112, 59, 10, 125, 10]⟩, .int .i64 0]) ∧ Below w.heap.size w w' := by
 have := print8_any (skipP g1 g2) w.heap.size w h (Nat.le_refl _) hT h16 (by rw [skipP_txt]; simp)
 rw [skipP_may, skipP_txt] at this
 exact this

set_option maxRecDepth 100000 in
set_option maxHeartbeats 1600000 in
theorem awake9 (w : World) (hT : Tab w) (h16 : gB ≤ w.heap.size) :
  Calls Tryz.prog 18 #[] w fun r w' => r = .returned (.bool true) ∧ Below w.heap.size w w' := by
 have HT : Hid (Tab w) := hT
 clear hT
 go_enter Tryz.func18, Tryz.ntmps18
 go_wp2_with fail
 refine (name17 ⟨#[120]⟩ w).mono ?_
 rintro r w1 ⟨rfl, b1⟩
 generalize hx : (ET.mk 2 0 0 ⟨#[120]⟩ none 0 []) = x
 have HX : Hid (x = ET.mk 2 0 0 ⟨#[120]⟩ none 0 []) := hx.symm
 clear hx
 go_wp2_with fail
 refine (whole18 2 w1).mono ?_
 rintro r w2 ⟨rfl, b2⟩
 generalize hx : (ET.mk 1 1 2 ⟨#[]⟩ none 0 []) = two
 have H2 : Hid (two = ET.mk 1 1 2 ⟨#[]⟩ none 0 []) := hx.symm
 clear hx
 go_wp2_with fail
 refine (name17 ⟨#[121]⟩ w2).mono ?_
 rintro r w3 ⟨rfl, b3⟩
 generalize hx : (ET.mk 2 0 0 ⟨#[121]⟩ none 0 []) = y
 have HY : Hid (y = ET.mk 2 0 0 ⟨#[121]⟩ none 0 []) := hx.symm
 clear hx
 have h13 := b1.trans (((b2.trans (b3.mono b2.size))).mono b1.size)
 have hY3 : y.In w3.heap.size w3 := by rw [HY.out]; exact leaf_in _ _ _ _ _ _ (by decide) (by decide) (by decide)
 go_wp2_with fail
 refine (one5 16 (by decide) y w3.heap.size w3 hY3 (Nat.le_refl _)).mono ?_
 rintro r w4 ⟨a1, rfl, hin4, b4⟩
 generalize hx : (ET.mk 16 0 0 ⟨#[]⟩ a1 1 [y]) = n at hin4 ⊢
 have HN : Hid (n = ET.mk 16 0 0 ⟨#[]⟩ a1 1 [y]) := hx.symm
 clear hx
 have h2i : two.In w4.heap.size w4 := by rw [H2.out]; exact leaf_in _ _ _ _ _ _ (by decide) (by decide) (by decide)
 go_wp2_with fail
 refine (two6 13 (by decide) two n w4.heap.size w4 h2i hin4 (Nat.le_refl _)).mono ?_
 rintro r w5 ⟨a2, rfl, hin5, b5⟩
 generalize hx : (ET.mk 13 0 0 ⟨#[]⟩ a2 2 [two, n]) = m at hin5 ⊢
 have HM : Hid (m = ET.mk 13 0 0 ⟨#[]⟩ a2 2 [two, n]) := hx.symm
 clear hx
 have hxi : x.In w5.heap.size w5 := by rw [HX.out]; exact leaf_in _ _ _ _ _ _ (by decide) (by decide) (by decide)
 go_wp2_with fail
 refine (two6 11 (by decide) x m w5.heap.size w5 hxi hin5 (Nat.le_refl _)).mono ?_
 rintro r w6 ⟨a3, rfl, hin6, b6⟩
 have he : ET.mk 11 0 0 ⟨#[]⟩ a3 2 [x, m] = awE a1 a2 a3 := by rw [HX.out, HM.out, H2.out, HN.out, HY.out]; rfl
 rw [he] at hin6 ⊢
 generalize hx : awE a1 a2 a3 = e at hin6 ⊢
 have h36 := h13.trans (((b4.trans ((b5.trans (b6.mono b5.size)).mono b4.size))).mono h13.size)
 have hE := awE_expr a1 a2 a3 w6 (by rw [hx]; exact hin6) (HT.out.below h36 h16) (by have := h36.size; omega)
 rw [hx] at hE
 clear he hx HX H2 HY HN HM hin4 hin5 hin6 hxi h2i hY3 b1 b2 b3 b4 b5 b6 h13
 go_wp2_with fail
 refine hE.mono ?_
 rintro r w7 ⟨rfl, b7⟩
 have h7 := h36.trans (b7.mono h36.size)
 clear hE b7 h36
 go_wp2_with (first
  | ((with_reducible show wpList _ _ _ _ _ _); refine wpList_build_at (P := Tryz.prog) rfl 87 #[(0, .const (.int .i64 7))] rfl (st9 7 ⟨#[]⟩ (ex5 0 0 0 ⟨#[]⟩ (.slice none 0 0)) (.slice none 0 0) (.slice none 0 0)) (by kernel_rfl) ?_)
  | ((with_reducible show wpList _ _ _ _ _ _); refine wpList_stmts1 rfl (.tmp 16) rfl 7 ⟨#[]⟩ 0 0 0 ⟨#[]⟩ none 0 0 none 0 0 none 0 0 rfl ?_; intro w8 hA8 b8)
  | ((with_reducible show wpList _ _ _ _ _ _); refine wpList_build_at (P := Tryz.prog) rfl 59 #[(0, .const (.string ⟨#[116]⟩)), (2, .tmp 17)] rfl [.string ⟨#[116]⟩, .slice none 0 0, .slice (some ⟨w7.heap.size, 0, none⟩) 1 1] (by kernel_rfl) ?_)
  | ((with_reducible show wpList _ _ _ _ _ _); refine wpList_threads1 rfl (.tmp 18) rfl ⟨#[116]⟩ none 0 0 (some ⟨w7.heap.size, 0, none⟩) 1 1 rfl ?_; intro w9 hA9 b9)
  | ((with_reducible show wpList _ _ _ _ _ _); refine wpList_build_at (P := Tryz.prog) rfl 26 #[(2, .tmp 19)] rfl [.slice none 0 0, .slice none 0 0, .slice (some ⟨w8.heap.size, 0, none⟩) 1 1] (by kernel_rfl) ?_))
 have h9 := h7.trans ((b8.trans (b9.mono b8.size)).mono h7.size)
 refine (skipP_print w7.heap.size w8.heap.size w9 (one_in skipS ⟨#[116]⟩ w7.heap.size w8.heap.size w9.heap.size w9 (skipS_in _ _) (by have := hA8.lt; have := b9.size; omega) hA9.lt (hA8.below b9) hA9) (HT.out.below h9 h16) (by have := h9.size; omega)).mono ?_
 rintro r w10 ⟨rfl, b10⟩
 have h10 := h9.trans (b10.mono h9.size)
 clear b10 h9 b9 b8 hA8 hA9 h7
 go_wp2_with fail
 go_ret
 exact ⟨rfl, h10⟩

end Go.Proofs.YtcmahiphfpgadaaGreatDoor

/- The document's own copy of statements. -/
namespace Go.Proofs.YtcmahiphfpgadaaGreatDoor
open Go.RowKit
set_option linter.unusedVariables false

theorem RowS.keepM {A B c : Nat} {w w' : World} {a : Option Addr} {ks : List ST} (hM : Mid A B w w') (h : RowS B w a c ks) (ha : ks = [] ∨ ∃ g o, a = some ⟨g, o, none⟩ ∧ A ≤ g) (hu : ST.Ups A ks) : RowS B w' a c ks := by
 obtain ⟨h1, h2, h | ⟨g, o, e, hg, hr⟩⟩ := h
 ·exact ⟨h1, h2, .inl h⟩
 ·rcases ha with q | ⟨g', o', e', q⟩
  ·exact ⟨h1, h2, .inl q⟩
  ·rw [e] at e'
   cases e'
   exact ⟨h1, h2, .inr ⟨g, o, e, hg, ST.Row.keep hM q hg hr hu⟩⟩

def KcSW (B : Nat) (xs : List ST) : Prop := ∀ a c w, RowS B w a c xs → B ≤ w.heap.size → Calls Tryz.prog 29 #[.slice a xs.length c] w fun r w' => ∃ (a' : Option Addr) (c' : Nat) (ys : List ST), r = .returned (.slice a' ys.length c') ∧ ys.map ST.st = xs.map ST.st ∧ RowS w'.heap.size w' a' c' ys ∧ (ys = [] ∨ ∃ g o, a' = some ⟨g, o, none⟩ ∧ w.heap.size ≤ g) ∧ ST.Ups w.heap.size ys ∧ Below w.heap.size w w'

set_option maxRecDepth 100000 in
set_option maxHeartbeats 6400000 in
theorem kcStmts_of (B : Nat) (xs : List ST) (hS : ∀ k nm e a1 c1 b1 a2 c2 b2, ST.mk k nm e a1 c1 b1 a2 c2 b2 ∈ xs → KcSW B b1 ∧ KcSW B b2) : KcSW B xs := by
 intro a c w h hBw
 obtain ⟨n, hn⟩ : ∃ n, Hid (n = xs.length) := ⟨_, (rfl : xs.length = _)⟩
 have hl := h.1
 have hk := h.2.1
 rw [← hn.out] at hl hk ⊢
 have HS : Hid _ := hS
 have HR : Hid (RowS B w a c xs) := h
 clear hS h
 refine Calls.mono (R := fun r w' => Hid (∃ (a' : Option Addr) (c' : Nat) (ys : List ST), r = .returned (.slice a' ys.length c') ∧ ys.map ST.st = xs.map ST.st ∧ RowS w'.heap.size w' a' c' ys ∧ (ys = [] ∨ ∃ g o, a' = some ⟨g, o, none⟩ ∧ w.heap.size ≤ g) ∧ ST.Ups w.heap.size ys ∧ Below w.heap.size w w')) ?_ (fun _ _ h => h.out)
 go_enter Tryz.func29, Tryz.ntmps29
 go_wp2_with fail
 go_loopw [3, 4] (fun v j wr => ∃ i : Nat, j = .int .i64 (i : Int) ∧ i ≤ n ∧ ∃ ys, ys.length = i ∧ KT w.heap.size wr v ((xs.map ST.st).take i) ys ∧ Below w.heap.size w wr) (fun v j _ => n - (intOf j).toNat)
 case atStart => exact ⟨0, rfl, Nat.zero_le _, [], rfl, KT.nil (Nat.le_refl _), Below.refl _ _⟩
 case round =>
  obtain ⟨i, rfl, hi, ys, hyl, hL, hwr⟩ := hrel
  have HYL : Hid (ys.length = i) := hyl
  have hyb : ys.length ≤ 1048576 := by omega
  clear hyl
  have HL : Hid _ := hL
  clear hL
  by_cases hc : i < n
  ·obtain ⟨x, hx⟩ : ∃ k, xs[i]? = some k := ⟨xs[i]'(by rw [← hn.out]; exact hc), by rw [List.getElem?_eq_getElem]⟩
   have HX : Hid ((xs.map ST.st).take i ++ [x.st] = (xs.map ST.st).take (i + 1)) := by
    show _ = _
    rw [List.take_add_one, List.getElem?_map, hx]
    rfl
   obtain ⟨g1, o1, rfl, hg1, hr1, hx1⟩ := (HR.out.old (Old.of_below hwr hBw)).at i x hx
   obtain ⟨k, nm, ⟨op, t, b, enm, ea, ec, eks⟩, a1, c1, b1, a2, c2, b2⟩ := x
   obtain ⟨s1, s2⟩ := HS.out _ _ _ _ _ _ _ _ _ (List.mem_of_getElem? hx)
   unfold ST.In at hx1
   obtain ⟨v1, v2, v3, v4⟩ := hx1
   have HV : Hid (-9223372036854775808 ≤ k ∧ k ≤ 9223372036854775807) := v1
   have hBr : B ≤ wr.heap.size := by have := hwr.size; omega
   have GE : Hid (∀ u, Below wr.heap.size wr u → Calls Tryz.prog 9 #[.agg #[.int .u8 (op : Int), .int .u8 (t : Int), .int .u64 (b : Int), .string enm, .slice ea eks.length ec]] u fun r w' => ∃ y : ET, r = .returned (.agg y.cells.toArray) ∧ y.ex = (ET.mk op t b enm ea ec eks).ex ∧ y.In w'.heap.size w' ∧ y.Up u.heap.size ∧ Below u.heap.size u w') := fun u hu =>
    kitCopy_any B _ _ (Nat.lt_succ_self _) u (v2.old (Old.of_below hu hBr)) (by have := hu.size; omega)
   have G1 : Hid (∀ u, Below wr.heap.size wr u → Calls Tryz.prog 29 #[.slice a1 b1.length c1] u fun r w' => ∃ (a' : Option Addr) (c' : Nat) (ys : List ST), r = .returned (.slice a' ys.length c') ∧ ys.map ST.st = b1.map ST.st ∧ RowS w'.heap.size w' a' c' ys ∧ (ys = [] ∨ ∃ g o, a' = some ⟨g, o, none⟩ ∧ u.heap.size ≤ g) ∧ ST.Ups u.heap.size ys ∧ Below u.heap.size u w') := fun u hu =>
    s1 a1 c1 u (RowS.old v3 (Old.of_below hu hBr)) (by have := hu.size; omega)
   have G2 : Hid (∀ u, Below wr.heap.size wr u → Calls Tryz.prog 29 #[.slice a2 b2.length c2] u fun r w' => ∃ (a' : Option Addr) (c' : Nat) (ys : List ST), r = .returned (.slice a' ys.length c') ∧ ys.map ST.st = b2.map ST.st ∧ RowS w'.heap.size w' a' c' ys ∧ (ys = [] ∨ ∃ g o, a' = some ⟨g, o, none⟩ ∧ u.heap.size ≤ g) ∧ ST.Ups u.heap.size ys ∧ Below u.heap.size u w') := fun u hu =>
    s2 a2 c2 u (RowS.old v4 (Old.of_below hu hBr)) (by have := hu.size; omega)
   obtain ⟨q0, q1, q2, q3, q4, q5, q6, q7, q8⟩ := st_mid hr1
   clear v1 v2 v3 v4 s1 s2 hx hr1
   go_wp2_with (first
    | ((with_reducible show wpList _ _ _ _ _ _); refine wpList_alloc_at rfl 87 rfl _ 9 z38 ?_; intro u1 hA1 hb1 hs1)
    | ((with_reducible show wpList _ _ _ _ _ _); refine wpList_store_at rfl 87 (.tmp 5) (.tmp 15) rfl wr.heap.size (st9 k nm (ex5 op t b enm (.slice ea eks.length ec)) (.slice a1 b1.length c1) (.slice a2 b2.length c2)) rfl rfl 87 _ hA1 i38 rfl (st9_one _ _ _ _ _ _ _ _ _ _ _ _ _ _ _) ?_; intro u2 hA2 hb2 hs2; refine Hid.out ?_))
   refine hidU ?_
   have B2 : Below wr.heap.size wr u2 := hb2.below hb1 (Nat.le_refl _) hb1.size
   have l2 : wr.heap.size < u2.heap.size := hA2.lt
   obtain ⟨p0, p1, p2, p3, p4, p5, p6, p7, p8⟩ := st_cells hA2
   clear q0 q1 q2 q3 q4 q5 q6 q7 q8 hA1 hb1 hs1 hb2 hs2
   have hE := GE.out u2 B2
   go_wp2_with (first
    | (go_at_call 9; refine hE.mono ?_; rintro e u3 ⟨⟨yop, yt, yb, ynm, ya, yc, yk⟩, rfl, hye, hyi, hyu, hb3⟩; have hA3 := hA2.below hb3)
    | ((with_reducible show wpList _ _ _ _ _ _); refine wpList_store_mid rfl 34 (.tmp 19) (.tmp 18) rfl wr.heap.size 2 (ex5 yop yt yb ynm (.slice ya yk.length yc)).toArray rfl rfl (hA3.there 2 5 (by show 7 ≤ 9; decide)) i29 (all_oneCell_toArray (ex5_one _ _ _ _ _ _ _)) ?_; refine Hid.out ?_))
   refine hidU ?_
   have hA4 : At 87 (u3.setCells wr.heap.size 2 (ex5 yop yt yb ynm (.slice ya yk.length yc))) wr.heap.size (st9 k nm (ex5 yop yt yb ynm (.slice ya yk.length yc)) (.slice a1 b1.length c1) (.slice a2 b2.length c2)) := At.setCells (ex5 yop yt yb ynm (.slice ya yk.length yc)) 2 _ _ hA3
   have hb4 : But wr.heap.size u3 (u3.setCells wr.heap.size 2 (ex5 yop yt yb ynm (.slice ya yk.length yc))) := But.setCells _ 2 _ (But.refl _ _)
   have hs4 := size_setCells wr.heap.size (ex5 yop yt yb ynm (.slice ya yk.length yc)) 2 u3
   obtain ⟨u4, hu4⟩ : ∃ u, u = u3.setCells wr.heap.size 2 (ex5 yop yt yb ynm (.slice ya yk.length yc)) := ⟨_, rfl⟩
   have hu4' : (u3.setCells wr.heap.size 2 (ex5 yop yt yb ynm (.slice ya yk.length yc)).toArray.toList) = u4 := hu4.symm
   rw [← hu4] at hA4 hb4 hs4
   rw [hu4']
   clear hu4 hu4' p0 p1 p2 p3 p4 p5 p6 p7 p8 hE
   have B4 : Below wr.heap.size wr u4 := hb4.below (B2.trans (hb3.mono B2.size)) (Nat.le_refl _) (by have := hb3.size; omega)
   have p7 := (st_cells hA4).2.2.2.2.2.2.2.1
   have hE := G1.out u4 B4
   go_wp2_with (first
    | (go_at_call 29; refine hE.mono ?_; rintro e u5 ⟨d1, e1, ys1, rfl, hm1, hr1, ha1, hup1, hb5⟩; have hA5 := hA4.below hb5)
    | ((with_reducible show wpList _ _ _ _ _ _); refine wpList_store_sl rfl (.tmp 23) (.tmp 22) rfl wr.heap.size 7 d1 ys1.length e1 rfl rfl 87 _ hA5 (by show 7 < 9; decide) ?_; intro u6 hA6 hb6 hs6; refine Hid.out ?_))
   refine hidU ?_
   clear hE p7
   have hA6 : At 87 u6 wr.heap.size (st9 k nm (ex5 yop yt yb ynm (.slice ya yk.length yc)) (.slice d1 ys1.length e1) (.slice a2 b2.length c2)) := hA6
   have B6 : Below wr.heap.size wr u6 := hb6.below (B4.trans (hb5.mono B4.size)) (Nat.le_refl _) (by have := hb5.size; have := B4.size; omega)
   have p8 := (st_cells hA6).2.2.2.2.2.2.2.2
   have hE := G2.out u6 B6
   go_wp2_with (first
    | (go_at_call 29; refine hE.mono ?_; rintro e u7 ⟨d2, e2, ys2, rfl, hm2, hr2, ha2, hup2, hb7⟩; have hA7 := hA6.below hb7)
    | ((with_reducible show wpList _ _ _ _ _ _); refine wpList_store_sl rfl (.tmp 27) (.tmp 26) rfl wr.heap.size 8 d2 ys2.length e2 rfl rfl 87 _ hA7 (by show 8 < 9; decide) ?_; intro u8 hA8 hb8 hs8; refine Hid.out ?_))
   refine hidU ?_
   clear hE p8
   have hA8 : At 87 u8 wr.heap.size (st9 k nm (ex5 yop yt yb ynm (.slice ya yk.length yc)) (.slice d1 ys1.length e1) (.slice d2 ys2.length e2)) := hA8
   have B8 : Below wr.heap.size wr u8 := hb8.below (B6.trans (hb7.mono B6.size)) (Nat.le_refl _) (by have := hb7.size; have := B6.size; omega)
   obtain ⟨p0, p1, p2, p3, p4, p5, p6, p7, p8⟩ := st_cells hA8
   have hK8 := HL.out.below B8
   obtain ⟨ie, hie, hz0, hz1, hz2⟩ := info_parts i38'
   have HY : Hid (∃ Y : ST, Y.cells = (st9 k nm (ex5 yop yt yb ynm (.slice ya yk.length yc)) (.slice d1 ys1.length e1) (.slice d2 ys2.length e2)) ∧ Y.st = (ST.mk k nm (ET.mk op t b enm ea ec eks) a1 c1 b1 a2 c2 b2).st ∧ Y.In u8.heap.size u8 ∧ Y.Up wr.heap.size) := by
    have z3 := hb3.size
    have z5 := hb5.size
    have z7 := hb7.size
    refine ⟨.mk k nm (.mk yop yt yb ynm ya yc yk) d1 e1 ys1 d2 e2 ys2, rfl, ?_, ?_, ?_⟩
    ·show St.mk k nm.data.toList (ET.mk yop yt yb ynm ya yc yk).ex (ST.sts ys1) (ST.sts ys2) = St.mk k nm.data.toList (ET.mk op t b enm ea ec eks).ex (ST.sts b1) (ST.sts b2)
     rw [ST.sts_eq, ST.sts_eq, ST.sts_eq, ST.sts_eq, hm1, hm2, hye]
    ·unfold ST.In
     have M3 : ∀ k, u2.heap.size ≤ k → k < u3.heap.size → u8.heap[k]? = u3.heap[k]? := fun k h1 h2 => by
      rw [hb8.block k (by omega) (by omega), hb7.block k (by omega), hb6.block k (by omega) (by omega), hb5.block k (by omega), hb4.block k (by omega) (by omega)]
     have M5 : ∀ k, u4.heap.size ≤ k → k < u5.heap.size → u8.heap[k]? = u5.heap[k]? := fun k h1 h2 => by
      rw [hb8.block k (by omega) (by omega), hb7.block k (by omega), hb6.block k (by omega) (by omega)]
     have M7 : ∀ k, u6.heap.size ≤ k → k < u7.heap.size → u8.heap[k]? = u7.heap[k]? := fun k h1 h2 => by
      rw [hb8.block k (by omega) (by omega)]
     exact ⟨HV.out, (hyi.keep (A := u2.heap.size) M3 hyu).up (by omega), (RowS.keepM (A := u4.heap.size) M5 hr1 ha1 hup1).up (by omega), (RowS.keepM (A := u6.heap.size) M7 hr2 ha2 hup2).up (by omega)⟩
    ·unfold ST.Up
     exact ⟨hyu.mono (by omega), ⟨at_mono (by omega) ha1, hup1.mono (by omega)⟩, at_mono (by omega) ha2, hup2.mono (by omega)⟩
   clear hye hyi hyu hm1 hr1 ha1 hup1 hm2 hr2 ha2 hup2 hA2 hA3 hA4 hA5 hA6 hA7 hb3 hb4 hb5 hb6 hb7 hb8 GE G1 G2 HV hs8 hs6 hs4
   go_wp2_with (first
    | ((with_reducible show wpList _ _ _ _ _ _); refine wpList_buildSlice rfl 57 87 1 #[(0, .tmp 29)] rfl (st9 k nm (ex5 yop yt yb ynm (.slice ya yk.length yc)) (.slice d1 ys1.length e1) (.slice d2 ys2.length e2)).toArray ie _ Tryz.underlying57 hie hz0 (by rw [hz1]; decide) (by rw [hz1]; decide) (by rw [hz1]; kernel_rfl) ?_; refine Hid.out ?_))
   refine hidU ?_
   obtain ⟨u9, hu9⟩ : ∃ u, u = u8.alloc (.cells (st9 k nm (ex5 yop yt yb ynm (.slice ya yk.length yc)) (.slice d1 ys1.length e1) (.slice d2 ys2.length e2)).toArray 87) := ⟨_, rfl⟩
   have hb9 : Below u8.heap.size u8 u9 := by rw [hu9]; exact (Below.refl _ _).alloc (Nat.le_refl _) _
   have hA9 : At 87 u9 u8.heap.size (st9 k nm (ex5 yop yt yb ynm (.slice ya yk.length yc)) (.slice d1 ys1.length e1) (.slice d2 ys2.length e2)) := by rw [hu9]; exact _root_.Go.heap_alloc_new _ _
   rw [← hu9]
   clear hu9 p0 p1 p2 p3 p4 p5 p6 p7 p8
   have hK9 := hK8.below hb9
   refine wpList_append_lies u9 rfl (.tmp 28) (.tmp 30) 57 rfl w.heap.size 87 ie _ 9 136 Tryz.underlying57 hie hz0 hz1 hz2 rfl (by decide) _ ys.length (flatS ys) rfl hK9.own ⟨u8.heap.size, 0, none⟩ 1 1 (st9 k nm (ex5 yop yt yb ynm (.slice ya yk.length yc)) (.slice d1 ys1.length e1) (.slice d2 ys2.length e2)) rfl rfl ?_ (st9_one _ _ _ _ _ _ _ _ _ _ _ _ _ _ _) (by decide) (by unfold maxLen; omega) (by omega) hK9.size u9.heap.size rfl ?_
   ·intro j u hj
    rw [Addr.add_mid, hA9.cell, Nat.zero_add]
    exact hj
   intro g cap u10 hown hgr hg hlt
   have HF : Hid (∃ Y : ST, KT w.heap.size u10 (.slice (some ⟨g, 0, none⟩) (ys.length + 1) cap) ((xs.map ST.st).take (i + 1)) (ys ++ [Y]) ∧ Below w.heap.size w u10) := by
    obtain ⟨Y, e1, e2, e3, e4⟩ := HY.out
    rw [← e1] at hown
    refine ⟨Y, ?_, ?_⟩
    ·have := hK9.app ((e3.old (Old.of_below hb9 (Nat.le_refl _))).up hb9.size) (HL.out.fresh e4) hown hgr hg
     rw [e2, HX.out] at this
     exact this
    ·have z : Below w.heap.size w u9 := hwr.trans ((B8.trans (hb9.mono B8.size)).mono hwr.size)
     exact z.grown hgr hK9.size (fun k hk => (hK9.own.lt k hk).1)
   clear hie hz0 hz1 hz2 hown hgr hg hA9 hA8 hK8 hK9 HY B8 B6 B4 B2 hb9
   go_wp2_with fail
   go_roundw
   case rel =>
    obtain ⟨Y, f1, f2⟩ := HF.out
    exact ⟨i + 1, by go_num, by omega, ys ++ [Y], by rw [List.length_append, HYL.out]; rfl, f1, f2⟩
   case measure => simp [intOf]; omega
  ·have hin : i = n := by omega
   obtain ⟨sa, sc, rfl, hrow, hat, hups⟩ := HL.out.done hyb
   have HF : Hid (ys.map ST.st = xs.map ST.st) := by
    show _ = _
    rw [HL.out.ex, hin, hn.out, List.take_of_length_le (by simp)]
   have HQ : Hid (RowS wr.heap.size wr sa sc ys ∧ (ys = [] ∨ ∃ g o, sa = some ⟨g, o, none⟩ ∧ w.heap.size ≤ g) ∧ ST.Ups w.heap.size ys) := ⟨hrow, hat, hups⟩
   clear hrow hat hups HS HR hn HL
   go_wp2_with fail
   go_ret
   exact hidU ⟨sa, sc, ys, rfl, HF.out, HQ.out.1, HQ.out.2.1, HQ.out.2.2, hwr⟩

theorem kcStmts_any (B : Nat) (M : Nat) : ∀ xs : List ST, SizeOf.sizeOf xs < M → KcSW B xs := by
 induction M with
 | zero => intro x h; omega
 | succ M ih =>
  intro xs hN
  refine kcStmts_of B xs fun k nm e a1 c1 b1 a2 c2 b2 hm => ?_
  have h1 := List.sizeOf_lt_of_mem hm
  simp only [ST.mk.sizeOf_spec] at h1
  exact ⟨ih b1 (by omega), ih b2 (by omega)⟩
end Go.Proofs.YtcmahiphfpgadaaGreatDoor

/- The document's own copies of threads and of variables: where they lie while their row grows. -/
namespace Go.Proofs.YtcmahiphfpgadaaGreatDoor
open Go.RowKit
set_option linter.unusedVariables false

section
variable {α : Type} {w : World} {g n : Nat} {f : α → List Value}
theorem range_flat (hf : ∀ a, (f a).length = n) : ∀ (ys : List α) (o : Nat), w.rangeAt g o (ys.flatMap f) → ∀ i v, ys[i]? = some v → w.rangeAt g (o + i * n) (f v)
 | [], o, _, i, v, hv => by simp at hv
 | e :: r, o, h, i, v, hv => by
  rw [List.flatMap_cons] at h
  cases i with
  | zero =>
   simp at hv
   subst hv
   intro j u hj
   have hl : j < (f e).length := by
    rcases Nat.lt_or_ge j (f e).length with q | q
    ·exact q
    ·rw [List.getElem?_eq_none q] at hj; cases hj
   have := h j u (by rw [List.getElem?_append_left hl]; exact hj)
   rw [Nat.zero_mul, Nat.add_zero]
   exact this
  | succ i =>
   have hr : w.rangeAt g (o + n) (r.flatMap f) := fun j u hj => by
    have := h (n + j) u (by rw [List.getElem?_append_right (by rw [hf]; omega), hf, Nat.add_sub_cancel_left]; exact hj)
    rw [Nat.add_assoc]
    exact this
   have := range_flat hf r (o + n) hr i v (by simpa using hv)
   rw [Nat.succ_mul, Nat.add_comm (i * n) n, ← Nat.add_assoc]
   exact this
theorem flat_range (hf : ∀ a, (f a).length = n) : ∀ (ys : List α) (o : Nat), (∀ i v, ys[i]? = some v → w.rangeAt g (o + i * n) (f v)) → w.rangeAt g o (ys.flatMap f)
 | [], o, _ => fun j u hj => by simp at hj
 | e :: r, o, h => fun j u hj => by
  rw [List.flatMap_cons] at hj
  rcases Nat.lt_or_ge j (f e).length with q | q
  ·rw [List.getElem?_append_left q] at hj
   have := h 0 e rfl j u hj
   rw [Nat.zero_mul, Nat.add_zero] at this
   exact this
  ·rw [List.getElem?_append_right q] at hj
   have hr := flat_range hf r (o + n) (fun i v hv => by
    have := h (i + 1) v (by simpa using hv)
    rw [Nat.succ_mul, Nat.add_comm (i * n) n, ← Nat.add_assoc] at this
    exact this)
   have := hr _ u hj
   rw [hf] at this
   rw [hf] at q
   have e2 : o + n + (j - n) = o + j := by omega
   rw [e2] at this
   exact this
theorem flat_len (hf : ∀ a, (f a).length = n) : ∀ ys : List α, (ys.flatMap f).length = ys.length * n
 | [] => by simp
 | e :: r => by rw [List.flatMap_cons, List.length_append, hf, flat_len hf r, List.length_cons, Nat.succ_mul, Nat.add_comm]
end
theorem VT.cells3 (v : VT) : v.cells.length = 3 := rfl
theorem TT.cells3 (v : TT) : v.cells.length = 3 := rfl

/-- A row of variables of the call's own is a row of variables. -/
theorem RowV.of_own {A : Nat} {w : World} {v : Value} {ys : List VT} (h : w.ownsRow A 56 3 v ys.length (ys.flatMap VT.cells)) (hi : ∀ y ∈ ys, y.In 0 w) (hl : ys.length ≤ 1048576) : ∃ a c, v = .slice a ys.length c ∧ RowV w.heap.size w a c ys ∧ (ys = [] ∨ ∃ g o, a = some ⟨g, o, none⟩ ∧ A ≤ g) := by
 obtain ⟨h1, ⟨h2, h3⟩ | ⟨g, cap, cur, hv, hg, hc, hn, h3⟩⟩ := id h
 ·have e : ys = [] := List.length_eq_zero_iff.mp h3
  subst e
  exact ⟨none, 0, h2, ⟨Nat.zero_le _, Nat.le_refl _, .inl rfl⟩, .inl rfl⟩
 ·have hlt : g < w.heap.size := (h.lt g (by rw [hv]; rfl)).2
  refine ⟨some ⟨g, 0, none⟩, cap, hv, ⟨hl, hn, .inr ⟨g, 0, rfl, hlt, fun i y hy => ⟨range_flat VT.cells3 ys 0 (fun j u hj => ?_) i y hy, hi y (List.mem_of_getElem? hy)⟩⟩⟩, .inr ⟨g, 0, rfl, hg⟩⟩
  have z := h.cells (g := g) (by rw [hv]; rfl) j u hj
  rw [Addr.add_mid] at z
  exact z

def TT.Lies (S : Nat → Prop) (t : TT) : Prop := (t.locals = [] ∨ ∃ g o, t.a1 = some ⟨g, o, none⟩ ∧ S g) ∧ (t.body = [] ∨ ∃ g o, t.a2 = some ⟨g, o, none⟩ ∧ S g) ∧ ST.LiesL S t.body
theorem TT.Up.lies {A : Nat} {e : TT} (h : e.Up A) : e.Lies (fun k => A ≤ k) := ⟨h.1, h.2.1, ST.Ups.lies h.2.2⟩
theorem TT.Lies.up {A : Nat} {S : Nat → Prop} (hS : ∀ k, S k → A ≤ k) {e : TT} (h : e.Lies S) : e.Up A := ⟨at_imp hS h.1, at_imp hS h.2.1, ST.LiesL.up hS h.2.2⟩
theorem TT.Lies.mono {S S' : Nat → Prop} (hS : ∀ k, S k → S' k) {e : TT} (h : e.Lies S) : e.Lies S' := ⟨at_imp hS h.1, at_imp hS h.2.1, ST.LiesL.mono hS h.2.2⟩
theorem TT.In.stay {B : Nat} {S : Nat → Prop} {w w' : World} (hM : ∀ k, S k → k < B → w'.heap[k]? = w.heap[k]?) {e : TT} (h : e.In B w) (u : e.Lies S) : e.In B w' := by
 obtain ⟨⟨h1, h2, h3⟩, h4, h5, h6⟩ := h
 refine ⟨⟨h1, h2, ?_⟩, h4, h5, ?_⟩
 ·rcases h3 with h3 | ⟨g, o, ha, hg, hr⟩
  ·exact .inl h3
  ·rcases u.1 with hk | ⟨g', o', ha', hg'⟩
   ·exact .inl hk
   ·rw [ha] at ha'
    cases ha'
    refine .inr ⟨g, o, ha, hg, fun i v hv => ⟨fun j x hj => ?_, (hr i v hv).2⟩⟩
    rw [World.cell?_of_block (w := w) (w' := w') (hM g hg' hg)]
    exact (hr i v hv).1 j x hj
 ·rcases h6 with h6 | ⟨g, o, ha, hg, hr⟩
  ·exact .inl h6
  ·rcases u.2.1 with hk | ⟨g', o', ha', hg'⟩
   ·exact .inl hk
   ·rw [ha] at ha'
    cases ha'
    exact .inr ⟨g, o, ha, hg, ST.Row.stay hM hg' hg hr u.2.2⟩
theorem TT.In.lies {B : Nat} {S : Nat → Prop} {w : World} {e : TT} (h : e.In B w) (u : e.Lies S) : e.Lies (fun k => S k ∧ k < B) := by
 obtain ⟨⟨h1, h2, h3⟩, h4, h5, h6⟩ := h
 obtain ⟨u1, u2, u3⟩ := u
 refine ⟨?_, ?_⟩
 ·rcases h3 with h3 | ⟨g, o, ha, hg, hr⟩
  ·exact .inl h3
  ·rcases u1 with hk | ⟨g', o', ha', hg'⟩
   ·exact .inl hk
   ·rw [ha] at ha'
    cases ha'
    exact .inr ⟨g, o, ha, hg', hg⟩
 ·rcases h6 with h6 | ⟨g, o, ha, hg, hr⟩
  ·exact ⟨.inl h6, by rw [h6]; trivial⟩
  ·rcases u2 with hk | ⟨g', o', ha', hg'⟩
   ·exact ⟨.inl hk, by rw [hk]; trivial⟩
   ·rw [ha] at ha'
    cases ha'
    exact ⟨.inr ⟨g, o, ha, hg', hg⟩, ST.Row.lies hr u3⟩

def flatT (ys : List TT) : List Value := ys.flatMap TT.cells
theorem flatT_snoc (ys : List TT) (y : TT) : flatT (ys ++ [y]) = flatT ys ++ y.cells := by
 unfold flatT
 rw [List.flatMap_append]
 simp

/-- A row of copies that grows. -/
structure KU (A : Nat) (w : World) (v : Value) (xs : List Th) (ys : List TT) : Prop where
 own : w.ownsRow A 59 3 v ys.length (flatT ys)
 ex : ys.map TT.th = xs
 ins : ∀ y ∈ ys, y.In w.heap.size w
 off : ∀ y ∈ ys, y.Lies (fun k => A ≤ k ∧ some k ≠ v.ownBlock)
 size : A ≤ w.heap.size

theorem KU.nil {A : Nat} {w : World} (h : A ≤ w.heap.size) : KU A w (.slice none 0 0) [] [] :=
 ⟨World.ownsRow_nil w A 59 3, rfl, fun _ h => (by cases h), fun _ h => (by cases h), h⟩

theorem KU.keep {A : Nat} {w w' : World} {v : Value} {xs : List Th} {ys : List TT} (h : KU A w v xs ys) (hs : w.heap.size ≤ w'.heap.size) (hM : ∀ k, A ≤ k → k < w.heap.size → w'.heap[k]? = w.heap[k]?) : KU A w' v xs ys := by
 refine ⟨?_, h.ex, fun y hy => TT.In.up hs (TT.In.stay (S := fun k => A ≤ k) hM (h.ins y hy) ((h.off y hy).mono fun _ q => q.1)), h.off, Nat.le_trans h.size hs⟩
 obtain ⟨h1, h2 | ⟨g, cap, cur, hv, hg, hc, h3⟩⟩ := id h.own
 ·exact ⟨h1, .inl h2⟩
 ·have hl : g < w.heap.size := (h.own.lt g (by rw [hv]; rfl)).2
  exact ⟨h1, .inr ⟨g, cap, cur, hv, hg, (hM g hg hl).trans hc, h3⟩⟩

theorem KU.below {A : Nat} {w w' : World} {v : Value} {xs : List Th} {ys : List TT} (h : KU A w v xs ys) (hb : Below w.heap.size w w') : KU A w' v xs ys :=
 h.keep hb.size fun k _ hk => hb.block k hk

/-- What is made later lies off the row. -/
theorem KU.fresh {A : Nat} {w : World} {v : Value} {xs : List Th} {ys : List TT} (h : KU A w v xs ys) {y : TT} (hy : y.Up w.heap.size) : y.Lies (fun k => A ≤ k ∧ some k ≠ v.ownBlock) :=
 (TT.Up.lies hy).mono fun k hk => ⟨Nat.le_trans h.size hk, fun e => by have := (h.own.lt k e.symm).2; omega⟩

theorem KU.app {A : Nat} {w w' : World} {v : Value} {xs : List Th} {ys : List TT} {y : TT} {g cap : Nat} (h : KU A w v xs ys) (hi : y.In w.heap.size w) (hy : y.Lies (fun k => A ≤ k ∧ some k ≠ v.ownBlock))
  (ho : w'.ownsRow A 59 3 (.slice (some ⟨g, 0, none⟩) (ys.length + 1) cap) (ys.length + 1) (flatT ys ++ y.cells)) (hg : w.grownBy w' v.ownBlock) (hw : v.ownBlock = some g ∨ g = w.heap.size) :
  KU A w' (.slice (some ⟨g, 0, none⟩) (ys.length + 1) cap) (xs ++ [y.th]) (ys ++ [y]) := by
 have hin : ∀ z : TT, z.In w.heap.size w → z.Lies (fun k => A ≤ k ∧ some k ≠ v.ownBlock) → z.In w'.heap.size w' := fun z h1 h2 => TT.In.up hg.size (TT.In.stay (fun k hk hl => hg.block k hl hk.2) h1 h2)
 have hoff : ∀ z : TT, z.In w.heap.size w → z.Lies (fun k => A ≤ k ∧ some k ≠ v.ownBlock) → z.Lies (fun k => A ≤ k ∧ some k ≠ (Value.slice (some ⟨g, 0, none⟩) (ys.length + 1) cap).ownBlock) := fun z h1 h2 => by
  refine (TT.In.lies h1 h2).mono fun k hk => ⟨hk.1.1, fun e => ?_⟩
  have e1 : some k = some g := e
  cases e1
  rcases hw with q | q
  ·exact hk.1.2 q.symm
  ·have := hk.2; omega
 refine ⟨?_, by rw [List.map_append, h.ex]; rfl, fun z hz => ?_, fun z hz => ?_, Nat.le_trans h.size hg.size⟩
 ·rw [flatT_snoc, List.length_append]
  exact ho
 ·rcases List.mem_append.1 hz with q | q
  ·exact hin z (h.ins z q) (h.off z q)
  ·rw [List.mem_singleton.1 q]; exact hin y hi hy
 ·rcases List.mem_append.1 hz with q | q
  ·exact hoff z (h.ins z q) (h.off z q)
  ·rw [List.mem_singleton.1 q]; exact hoff y hi hy

theorem KU.done {A : Nat} {w : World} {v : Value} {xs : List Th} {ys : List TT} (h : KU A w v xs ys) (hl : ys.length ≤ 1048576) : ∃ a c, v = .slice a ys.length c ∧ RowT w.heap.size w a c ys ∧ (ys = [] ∨ ∃ g o, a = some ⟨g, o, none⟩ ∧ A ≤ g) ∧ TT.Ups A ys := by
 have hu : TT.Ups A ys := fun y hy => (h.off y hy).up fun _ q => q.1
 obtain ⟨h1, ⟨h2, h3⟩ | ⟨g, cap, cur, hv, hg, hc, hn, h3⟩⟩ := id h.own
 ·have e : ys = [] := List.length_eq_zero_iff.mp h3
  subst e
  exact ⟨none, 0, h2, ⟨Nat.zero_le _, Nat.le_refl _, .inl rfl⟩, .inl rfl, hu⟩
 ·have hlt : g < w.heap.size := (h.own.lt g (by rw [hv]; rfl)).2
  refine ⟨some ⟨g, 0, none⟩, cap, hv, ⟨hl, hn, .inr ⟨g, 0, rfl, hlt, fun i y hy => ⟨range_flat TT.cells3 ys 0 (fun j u hj => ?_) i y hy, h.ins y (List.mem_of_getElem? hy)⟩⟩⟩, .inr ⟨g, 0, rfl, hg⟩, hu⟩
  have z := h.own.cells (g := g) (by rw [hv]; rfl) j u hj
  rw [Addr.add_mid] at z
  exact z
end Go.Proofs.YtcmahiphfpgadaaGreatDoor

/- Copies lie in blocks that may be written. -/
namespace Go.Proofs.YtcmahiphfpgadaaGreatDoor
open Go.RowKit
set_option linter.unusedVariables false

/-- A block of cells that may be written. -/
def Soft (w : World) (g : Nat) : Prop := ∃ t cs, At t w g cs
theorem Soft.keep {w w' : World} {g : Nat} (h : w'.heap[g]? = w.heap[g]?) (s : Soft w g) : Soft w' g := by
 obtain ⟨t, cs, hA⟩ := s
 exact ⟨t, cs, h.trans hA⟩
theorem Soft.setCells {g : Nat} : ∀ (vs : List Value) (o k : Nat) (w : World), Soft w g → Soft (w.setCells k o vs) g
 | [], o, k, w, h => h
 | v :: vs, o, k, w, h => Soft.setCells vs (o + 1) k _ (by
   obtain ⟨t, cs, hA⟩ := h
   by_cases e : g = k
   ·subst e
    exact ⟨t, _, hA.set o v⟩
   ·exact ⟨t, cs, hA.setOther ⟨k, o, none⟩ v e⟩)
def Fr (A : Nat) (w : World) (k : Nat) : Prop := A ≤ k ∧ Soft w k
theorem Fr.mono {A B : Nat} (h : A ≤ B) {w : World} {k : Nat} (f : Fr B w k) : Fr A w k := ⟨Nat.le_trans h f.1, f.2⟩
def VT.Lies (S : Nat → Prop) (v : VT) : Prop := True
def VT.LiesL (S : Nat → Prop) (l : List VT) : Prop := True
theorem VT.LiesL.of {S : Nat → Prop} {l : List VT} (h : ∀ e ∈ l, e.Lies S) : VT.LiesL S l := trivial
theorem VT.Lies.mono {S S' : Nat → Prop} (hS : ∀ k, S k → S' k) {e : VT} (h : e.Lies S) : e.Lies S' := trivial
def TT.LiesL (S : Nat → Prop) (l : List TT) : Prop := ∀ t ∈ l, t.Lies S
theorem TT.LiesL.of {S : Nat → Prop} {l : List TT} (h : ∀ e ∈ l, e.Lies S) : TT.LiesL S l := h
def PT.Lies (S : Nat → Prop) (p : PT) : Prop := (p.shared = [] ∨ ∃ g o, p.a1 = some ⟨g, o, none⟩ ∧ S g) ∧ (p.mutexes = [] ∨ ∃ g o, p.a2 = some ⟨g, o, none⟩ ∧ S g) ∧ (p.threads = [] ∨ ∃ g o, p.a3 = some ⟨g, o, none⟩ ∧ S g) ∧ TT.LiesL S p.threads

section
variable {P : Program} {ops : Array Oper} {rest : List Oper} {o : Oper} {a : Act} {w : World} {Q : Exit → Act → World → Prop}
end

end Go.Proofs.YtcmahiphfpgadaaGreatDoor

/- What is written over keeps its form. -/
namespace Go.Proofs.YtcmahiphfpgadaaGreatDoor
open Go.RowKit
set_option linter.unusedVariables false

/-- One cell may stand in the place of the other: the same, a number for a number of its kind, or a text of at most K bytes more. -/
def Kin (K : Nat) (u v : Value) : Prop := v = u ∨ (∃ k a b, u = .int k a ∧ v = .int k b) ∨ ∃ s t : ByteArray, u = .string s ∧ v = .string t ∧ t.size ≤ s.size + K
theorem Kin.mono {K L : Nat} (h : K ≤ L) {u v : Value} (k : Kin K u v) : Kin L u v := by
 rcases k with k | k | ⟨s, t, h1, h2, h3⟩
 ·exact .inl k
 ·exact .inr (.inl k)
 ·exact .inr (.inr ⟨s, t, h1, h2, by omega⟩)
theorem Kin.slice {K : Nat} {a : Option Addr} {n c : Nat} {v : Value} (k : Kin K (.slice a n c) v) : v = .slice a n c := by
 rcases k with k | ⟨_, _, _, h, _⟩ | ⟨_, _, h, _⟩
 ·exact k
 ·cases h
 ·cases h
theorem Kin.int {K : Nat} {i : IntKind} {a : Int} {v : Value} (k : Kin K (.int i a) v) : ∃ b, v = .int i b := by
 rcases k with k | ⟨_, _, b, h, h'⟩ | ⟨_, _, h, _⟩
 ·exact ⟨a, k⟩
 ·cases h
  exact ⟨b, h'⟩
 ·cases h
/-- From A on all stands as it was but for numbers and texts; below A all stands. -/
structure Ov (A K : Nat) (w0 w : World) : Prop where
 bel : Below A w0 w
 soft : ∀ g, Fr A w0 g → Soft w g
 cell : ∀ g o u, Fr A w0 g → w0.cell? ⟨g, o, none⟩ = some u → ∃ v, w.cell? ⟨g, o, none⟩ = some v ∧ Kin K u v
theorem Ov.refl (A : Nat) (w : World) : Ov A 0 w w := ⟨Below.refl _ _, fun _ f => f.2, fun _ _ u _ h => ⟨u, h, .inl rfl⟩⟩
theorem Ov.mono {A K L : Nat} {w0 w : World} (h : K ≤ L) (k : Ov A K w0 w) : Ov A L w0 w :=
 ⟨k.bel, k.soft, fun g o u f hu => by obtain ⟨v, h1, h2⟩ := k.cell g o u f hu; exact ⟨v, h1, h2.mono h⟩⟩
section
variable {A K : Nat} {w0 w : World} {g : Nat}
theorem Ov.frozen (k : Ov A K w0 w) (f : Fr A w0 g) (o : Nat) : w.frozen? ⟨g, o, none⟩ = false := by
 obtain ⟨t, cs, hA⟩ := k.soft g f
 exact hA.frozen o
theorem Ov.lt (k : Ov A K w0 w) (f : Fr A w0 g) : g < w.heap.size := by
 obtain ⟨t, cs, hA⟩ := k.soft g f
 exact hA.lt
theorem Ov.slice (k : Ov A K w0 w) (f : Fr A w0 g) {o : Nat} {a : Option Addr} {n c : Nat} (h : w0.cell? ⟨g, o, none⟩ = some (.slice a n c)) : w.cell? ⟨g, o, none⟩ = some (.slice a n c) := by
 obtain ⟨v, h1, h2⟩ := k.cell g o _ f h
 rw [h1, h2.slice]
theorem Ov.int (k : Ov A K w0 w) (f : Fr A w0 g) {o : Nat} {i : IntKind} {a : Int} (h : w0.cell? ⟨g, o, none⟩ = some (.int i a)) : ∃ b, w.cell? ⟨g, o, none⟩ = some (.int i b) := by
 obtain ⟨v, h1, h2⟩ := k.cell g o _ f h
 obtain ⟨b, rfl⟩ := h2.int
 exact ⟨b, h1⟩
theorem Ov.set (k : Ov A K w0 w) (f : Fr A w0 g) {o : Nat} {u v : Value} (hu : w0.cell? ⟨g, o, none⟩ = some u) (hk : Kin K u v) : Ov A K w0 (w.setCell ⟨g, o, none⟩ v) := by
 have hb : But g w (w.setCell ⟨g, o, none⟩ v) := (But.refl g w).setCell o v
 obtain ⟨t, cs, hA⟩ := k.soft g f
 have hl := hA.lt
 have f1 := f.1
 have hA' := hA.set o v
 refine ⟨hb.below k.bel f.1 (by omega), fun g' f' => ?_, fun g' o' u' f' hu' => ?_⟩
 ·by_cases e : g' = g
  ·subst e
   exact ⟨t, _, hA'⟩
  ·exact (k.soft g' f').keep (hb.block g' (k.lt f') e)
 ·by_cases e : g' = g
  ·subst e
   by_cases e2 : o' = o
   ·subst e2
    rw [hu] at hu'
    cases hu'
    obtain ⟨v0, h1, -⟩ := k.cell g' o' u f hu
    rw [hA.cell] at h1
    have h3 := (List.getElem?_eq_some_iff.1 h1).1
    refine ⟨v, ?_, hk⟩
    rw [hA'.cell, List.getElem?_set_self h3]
   ·obtain ⟨v0, h1, h2⟩ := k.cell g' o' u' f hu'
    refine ⟨v0, ?_, h2⟩
    rw [hA'.cell, List.getElem?_set_ne (by omega), ← hA.cell]
    exact h1
  ·obtain ⟨v0, h1, h2⟩ := k.cell g' o' u' f' hu'
   refine ⟨v0, ?_, h2⟩
   rw [World.cell?_of_block (w := w) (hb.block g' (k.lt f') e)]
   exact h1
end
theorem exWs_take_succ : ∀ (ks : List Ex) (i : Nat) (k : Ex), ks[i]? = some k → exWs (ks.take (i + 1)) = exWs (ks.take i) + exW k
 | [], i, k, h => by simp at h
 | e :: r, 0, k, h => by
  simp at h
  subst h
  simp [exWs]
 | e :: r, i + 1, k, h => by
  have := exWs_take_succ r i k (by simpa using h)
  simp only [List.take_succ_cons, exWs]
  omega
theorem stWs_take_succ : ∀ (ks : List St) (i : Nat) (k : St), ks[i]? = some k → stWs (ks.take (i + 1)) = stWs (ks.take i) + stW k
 | [], i, k, h => by simp at h
 | e :: r, 0, k, h => by
  simp at h
  subst h
  simp [stWs]
 | e :: r, i + 1, k, h => by
  have := stWs_take_succ r i k (by simpa using h)
  simp only [List.take_succ_cons, stWs]
  omega
theorem stWs_take_le : ∀ (ks : List St) (i : Nat), stWs (ks.take i) ≤ stWs ks
 | [], i => by simp
 | e :: r, 0 => by simp [stWs]
 | e :: r, i + 1 => by
  have := stWs_take_le r i
  simp only [List.take_succ_cons, stWs]
  omega
end Go.Proofs.YtcmahiphfpgadaaGreatDoor

/- The document's own writing over of an expression. -/
namespace Go.Proofs.YtcmahiphfpgadaaGreatDoor
open Go.RowKit
set_option linter.unusedVariables false

end Go.Proofs.YtcmahiphfpgadaaGreatDoor

/- The document's own writing over of statements. -/
namespace Go.Proofs.YtcmahiphfpgadaaGreatDoor
open Go.RowKit
set_option linter.unusedVariables false

end Go.Proofs.YtcmahiphfpgadaaGreatDoor

/- The document's own writing over of names. -/
namespace Go.Proofs.YtcmahiphfpgadaaGreatDoor
open Go.RowKit
set_option linter.unusedVariables false

end Go.Proofs.YtcmahiphfpgadaaGreatDoor

/- The values' texts tell them apart. -/
namespace Go.Proofs.YtcmahiphfpgadaaGreatDoor
set_option linter.unusedVariables false

theorem dd_all : ∀ (N u : Nat), u < N → ∀ c ∈ Lib.decDigits u, 48 ≤ c.toNat ∧ c.toNat ≤ 57 := by
 intro N
 induction N with
 | zero => intro u h; omega
 | succ N ih =>
  intro u h c hc
  rw [Lib.decDigits] at hc
  split at hc
  ·rw [List.mem_singleton] at hc
   subst hc
   have : (UInt8.ofNat (48 + u)).toNat = 48 + u := by simp; omega
   omega
  ·rcases List.mem_append.1 hc with hc | hc
   ·exact ih (u / 10) (by omega) c hc
   ·rw [List.mem_singleton] at hc
    subst hc
    have : (UInt8.ofNat (48 + u % 10)).toNat = 48 + u % 10 := by simp; omega
    omega
theorem dd_dig (u : Nat) : ∀ c ∈ Lib.decDigits u, 48 ≤ c.toNat ∧ c.toNat ≤ 57 := dd_all (u + 1) u (by omega)
/-- A literal of a real: digits, and one point. -/
theorem litOf_chars (k n : Nat) (h1 : 1 ≤ k) (h6 : k ≤ 6) (hn : n < 1000000000000000) : (∃ c r, litOf k n = c :: r ∧ 48 ≤ c.toNat ∧ c.toNat ≤ 57) ∧ (46 : UInt8) ∈ litOf k n ∧ ∀ c ∈ litOf k n, (48 ≤ c.toNat ∧ c.toNat ≤ 57) ∨ c = 46 := by
 obtain ⟨hL, -, -, -⟩ := litOf_lit k n h1 h6 hn
 have hs := lit_split hL
 obtain ⟨g1, g2, g3, ⟨a1, a2, a3, a4⟩, b1, b2, b3, b4⟩ := hL
 have ha : ∀ c ∈ aheadOf (litOf k n), 48 ≤ c.toNat ∧ c.toNat ≤ 57 := by
  intro c hc
  obtain ⟨j, hj, rfl⟩ := List.getElem_of_mem hc
  have := a3 j hj
  rwa [List.getD_eq_getElem?_getD, List.getElem?_eq_getElem hj] at this
 have hb : ∀ c ∈ behindOf (litOf k n), 48 ≤ c.toNat ∧ c.toNat ≤ 57 := by
  intro c hc
  obtain ⟨j, hj, rfl⟩ := List.getElem_of_mem hc
  have := b3 (j + 1) (by simp; omega)
  simpa [List.getD_eq_getElem?_getD, List.getElem?_eq_getElem hj] using this
 refine ⟨?_, by rw [hs]; simp, fun c hc => ?_⟩
 ·cases hah : aheadOf (litOf k n) with
  | nil => rw [hah] at a1; simp at a1
  | cons c r =>
   refine ⟨c, r ++ 46 :: behindOf (litOf k n), ?_, ha c (by rw [hah]; simp)⟩
   conv => lhs; rw [hs, hah]
   rfl
 ·rw [hs] at hc
  rcases List.mem_append.1 hc with h | h
  ·exact .inl (ha c h)
  ·rcases List.mem_cons.1 h with h | h
   ·exact .inr h
   ·exact .inl (hb c h)

/-- The literals, the values' texts, of words of 64 bits. -/
def litF (t b : Nat) : Option (List UInt8) := if b < 18446744073709551616 ∧ litOk t b = true then some (valTx t b) else none
end Go.Proofs.YtcmahiphfpgadaaGreatDoor

/- The programs' texts tell them apart. -/
namespace Go.Proofs.YtcmahiphfpgadaaGreatDoor
set_option linter.unusedVariables false

mutual
theorem samX_eq : ∀ (x y : Ex), samX x y = true ↔ x = y
 | .mk op t b nm ks, .mk op' t' b' nm' ks' => by
  rw [samX]
  simp only [Bool.and_eq_true, decide_eq_true_eq, samL_eq ks ks', Ex.mk.injEq]
  constructor
  ·rintro ⟨h1, ⟨h2, h3⟩, h4, h5⟩; exact ⟨h1, h2, h3, h4, h5⟩
  ·rintro ⟨h1, h2, h3, h4, h5⟩; exact ⟨h1, ⟨h2, h3⟩, h4, h5⟩
theorem samL_eq : ∀ (x y : List Ex), samL x y = true ↔ x = y
 | [], [] => by simp [samL]
 | [], y :: s => by simp [samL]
 | x :: r, [] => by simp [samL]
 | x :: r, y :: s => by
  rw [samL, Bool.and_eq_true, samX_eq x y, samL_eq r s]
  simp
end
mutual
theorem samS_eq : ∀ (x y : St), samS x y = true ↔ x = y
 | .mk k nm e b c, .mk k' nm' e' b' c' => by
  rw [samS]
  simp only [Bool.and_eq_true, decide_eq_true_eq, samX_eq, samSL_eq b b', samSL_eq c c', St.mk.injEq]
theorem samSL_eq : ∀ (x y : List St), samSL x y = true ↔ x = y
 | [], [] => by simp [samSL]
 | [], y :: s => by simp [samSL]
 | x :: r, [] => by simp [samSL]
 | x :: r, y :: s => by
  rw [samSL, Bool.and_eq_true, samS_eq x y, samSL_eq r s]
  simp
end
theorem eqL_eq {α : Type} (f : α → α → Bool) (hf : ∀ x y, f x y = true ↔ x = y) : ∀ (x y : List α), eqL f x y = true ↔ x = y
 | [], [] => by simp [eqL]
 | [], y :: s => by simp [eqL]
 | x :: r, [] => by simp [eqL]
 | x :: r, y :: s => by
  rw [eqL, Bool.and_eq_true, hf x y, eqL_eq f hf r s]
  simp
theorem samV_eq (x y : Vr) : samV x y = true ↔ x = y := by
 obtain ⟨a, b, c⟩ := x
 obtain ⟨a', b', c'⟩ := y
 unfold samV
 simp
theorem samN_eq (x y : List UInt8) : samN x y = true ↔ x = y := by
 unfold samN
 simp
theorem samT_eq (x y : Th) : samT x y = true ↔ x = y := by
 obtain ⟨a, b, c⟩ := x
 obtain ⟨a', b', c'⟩ := y
 unfold samT
 simp only [Bool.and_eq_true, decide_eq_true_eq, eqL_eq samV samV_eq, samSL_eq, Th.mk.injEq]
theorem samP_eq (x y : Pg) : samP x y = true ↔ x = y := by
 obtain ⟨a, b, c⟩ := x
 obtain ⟨a', b', c'⟩ := y
 unfold samP
 simp only [Bool.and_eq_true, eqL_eq samV samV_eq, eqL_eq samN samN_eq, eqL_eq samT samT_eq, Pg.mk.injEq]

mutual
/-- All values are words of 64 bits. -/
def exOk : Ex → Prop
 | .mk _ _ b _ ks => b < 18446744073709551616 ∧ exOks ks
def exOks : List Ex → Prop
 | [] => True
 | e :: r => exOk e ∧ exOks r
end
mutual
def stOk : St → Prop
 | .mk _ _ e b c => exOk e ∧ stOks b ∧ stOks c
def stOks : List St → Prop
 | [] => True
 | e :: r => stOk e ∧ stOks r
end
def vrOk (v : Vr) : Prop := v.b < 18446744073709551616
def thOk (t : Th) : Prop := (∀ v ∈ t.locals, vrOk v) ∧ stOks t.body
def pgOk (p : Pg) : Prop := (∀ v ∈ p.shared, vrOk v) ∧ ∀ t ∈ p.threads, thOk t

def prX (e : Ex) : Option (List UInt8) := if mayE 32 e = true then prE litF isNm e else none
def isNo (e : Ex) : Bool := samX e noE

end Go.Proofs.YtcmahiphfpgadaaGreatDoor
