/- Joined texts of the proof. -/
import Derived.Test.YtcmahiphfpgadaaGreatDoorJ5
import Derived.Test.YtcmahiphfpgadaaGreatDoorJ6

/- An expression's text is written. -/
namespace Go.Proofs.YtcmahiphfpgadaaGreatDoor
open Go.RowKit
set_option linter.unusedVariables false

section
variable {ops : Array Oper} {rest : List Oper} {o : Oper} {a : Act} {w : World} {Q : Exit → Act → World → Prop}
/-- Texts are laid as a row. -/
theorem wpList_strs (hgd : o.guard = none) (n : Nat) (parts : Array (Nat × Operand)) (ho : o.op = .buildSlice 23 n parts) (ss : List ByteArray) (hn : n = ss.length) (h0 : 0 < n) (h1 : n ≤ 1000)
  (hf : Instr.fill (fun i => some (i * 1, 1)) ((Array.range (n * 1)).map ((Value.string ⟨#[]⟩).cells[· % (Value.string ⟨#[]⟩).cells.size]!)) (parts.map fun (i, x) => (i, a.eval x)).toList = some (ss.map Value.string).toArray)
  (h : ∀ w', At 9 w' w.heap.size (ss.map .string) → Below w.heap.size w w' → w'.heap.size = w.heap.size + 1 → wpList Tryz.prog ops Q rest (a.put o.dst (.slice (some ⟨w.heap.size, 0, none⟩) ss.length ss.length)) w') :
  wpList Tryz.prog ops Q (o :: rest) a w := by
 obtain ⟨ie, hi, hz0, hz1, hz2⟩ := info_parts i9s
 refine wpList_buildSlice hgd 23 9 n parts ho (ss.map Value.string).toArray ie (.string ⟨#[]⟩) Tryz.underlying23 hi hz0 (by rw [hz1]; omega) (by rw [hz1]; omega) (by rw [hz1]; exact hf) ?_
 rw [hn]
 exact h _ (_root_.Go.heap_alloc_new w _) ((Below.refl _ w).alloc (Nat.le_refl _) _) (by show (w.heap.push _).size = _; simp)
end

/-- What writing an expression does. -/
def ExprW (B g m : Nat) (e : ET) : Prop := ∀ (w : World) (F : List UInt8), e.In B w → Txt B w g m F → B ≤ w.heap.size → Tab w → (F ++ exT e.ex).length ≤ 70368744177664 →
  Calls Tryz.prog 38 #[.pointer (some ⟨g, 0, none⟩), .agg e.cells.toArray] w fun r w' => r = .returned (.tuple #[]) ∧ Txt B w' g m (F ++ exT e.ex) ∧ Wr B g w w'

theorem Tab.wr {B g : Nat} {w w' : World} (h : Tab w) (hw : Wr B g w w') (hB : B ≤ g) (hBw : B ≤ w.heap.size) (h16 : gB ≤ B) : Tab w' := h.below (hw.below hB hBw) h16

set_option maxRecDepth 100000 in
set_option maxHeartbeats 1600000 in
theorem around_of (B g m : Nat) (e : ET) (hm : m ≤ 9223372036854775807) (h16 : gB ≤ B) (hE : ExprW B g m e) (s1 s2 : ByteArray) (w : World) (F : List UInt8) (hin : e.In B w) (hT : Txt B w g m F) (hBw : B ≤ w.heap.size) (hTab : Tab w)
  (hlen : (F ++ (s1.data.toList ++ (exT e.ex ++ s2.data.toList))).length ≤ 70368744177664) :
  Calls Tryz.prog 80 #[.pointer (some ⟨g, 0, none⟩), .string s1, .agg e.cells.toArray, .string s2] w fun r w' => r = .returned (.tuple #[]) ∧ Txt B w' g m (F ++ (s1.data.toList ++ (exT e.ex ++ s2.data.toList))) ∧ Wr B g w w' := by
 have hBg := hT.base
 have hgw := hT.lt
 obtain ⟨X, hX⟩ : ∃ X, Hid (X = exT e.ex) := ⟨_, (rfl : exT e.ex = _)⟩
 have HE : Hid (∀ (w : World) (F : List UInt8), e.In B w → Txt B w g m F → B ≤ w.heap.size → Tab w → (F ++ X).length ≤ 70368744177664 → Calls Tryz.prog 38 #[.pointer (some ⟨g, 0, none⟩), .agg e.cells.toArray] w fun r w' => r = .returned (.tuple #[]) ∧ Txt B w' g m (F ++ X) ∧ Wr B g w w') := by
  rw [hX.out]; exact hE
 rw [← hX.out] at hlen ⊢
 simp only [List.length_append] at hlen
 have HI : Hid (e.In B w ∧ Tab w ∧ Txt B w g m F) := ⟨hin, hTab, hT⟩
 clear hE hin hTab hT
 go_enter Tryz.func80, Tryz.ntmps80
 go_wp2_with (first
  | ((with_reducible show wpList _ _ _ _ _ _); refine wpList_box_at rfl 34 (.tmp 2) rfl e.cells rfl ?_; intro w1 hA1 hb1 hs1; clear hs1)
  | ((with_reducible show wpList _ _ _ _ _ _); refine wpList_strs rfl 1 #[(0, .tmp 9)] rfl [s1] rfl (by decide) (by decide) (by kernel_rfl) ?_; intro w2 hA2 hb2 hs2; clear hs2))
 have hT2 : Txt B w2 g m F := (HI.out.2.2.below hb1).below hb2
 have hA12 := hA1.below hb2
 have hbw2 : Below w.heap.size w w2 := hb1.trans (hb2.mono hb1.size)
 refine (put_any B g m _ [s1] F _ hm hT2 hA2 (by simp only [cat, List.map_cons, List.map_nil, List.flatten_cons, List.flatten_nil, List.append_nil, List.length_append]; omega) (by simp)).mono ?_
 rintro r w3 ⟨rfl, hT3, hW3⟩
 have hA3 := hW3.at hA12 (by omega) (by decide)
 have e3 : F ++ cat [s1] = F ++ s1.data.toList := by simp [cat]
 rw [e3] at hT3
 have hw3 : Wr B g w w3 := (Wr.of_below hbw2).trans hW3
 have hI3 := HE.out w3 _ (HI.out.1.old (Old.of_wr hw3 hBg hBw)) hT3 (by have := hw3.size; omega) (HI.out.2.1.wr hw3 hBg hBw h16) (by simp only [List.length_append]; omega)
 clear hT2 hA12 hW3 hA1 hA2 hb1 hb2 hbw2 e3 HE
 go_wp2_with (first
  | ((with_reducible show wpList _ _ _ _ _ _); refine wpList_load_at (P := Tryz.prog) rfl 34 (.tmp 6) rfl w.heap.size rfl 34 e.cells hA3 _ Tryz.underlying34 rfl (by rw [ET.cells_len]; exact i29) ?_))
 refine hI3.mono ?_
 rintro r w4 ⟨rfl, hT4, hW4⟩
 have hw4 := hw3.trans hW4
 clear hI3 hA3 hT3 hw3 hW4
 go_wp2_with (first
  | ((with_reducible show wpList _ _ _ _ _ _); refine wpList_strs rfl 1 #[(0, .tmp 16)] rfl [s2] rfl (by decide) (by decide) (by kernel_rfl) ?_; intro w5 hA5 hb5 hs5; clear hs5))
 refine (put_any B g m _ [s2] _ _ hm (hT4.below hb5) hA5 (by simp only [cat, List.map_cons, List.map_nil, List.flatten_cons, List.flatten_nil, List.append_nil, List.length_append]; omega) (by simp)).mono ?_
 rintro r w6 ⟨rfl, hT6, hW6⟩
 have HF : Hid (Txt B w6 g m (F ++ (s1.data.toList ++ (X ++ s2.data.toList))) ∧ Wr B g w w6) := by
  refine ⟨?_, hw4.trans ((Wr.of_below hb5).trans hW6)⟩
  have e : F ++ s1.data.toList ++ X ++ cat [s2] = F ++ (s1.data.toList ++ (X ++ s2.data.toList)) := by simp [cat]
  rw [← e]
  exact hT6
 clear hT6 hW6 hw4 hT4 hA5 hb5
 go_wp2
 go_end0
 exact ⟨rfl, HF.out⟩

theorem mayE_len {h op t b : Nat} {nm : List UInt8} {ks : List Ex} (hm : mayE (h + 1) (.mk op t b nm ks) = true) : (ks.length : Int) = opnds op := by
 rw [mayE, Bool.and_eq_true] at hm
 exact of_decide_eq_true hm.1

theorem mayE_kids {h op t b : Nat} {nm : List UInt8} {ks : List Ex} (hm : mayE (h + 1) (.mk op t b nm ks) = true) (h1 : op ≠ 1) (h2 : op ≠ 2) : ∀ x ∈ ks, mayE h x = true := by
 rw [mayE, if_neg h1, if_neg h2, Bool.and_eq_true, Bool.and_eq_true] at hm
 exact List.all_eq_true.1 hm.2.1

/-- Operands of an expression that lies in memory. -/
theorem ET.kid1 {B : Nat} {w : World} {op t b c : Nat} {nm : ByteArray} {a : Option Addr} {x : ET} (h : (ET.mk op t b nm a c [x]).In B w) : ∃ g o, a = some ⟨g, o, none⟩ ∧ g < B ∧ w.rangeAt g o x.cells ∧ x.In B w ∧ 1 ≤ c := by
 unfold ET.In at h
 obtain ⟨_, _, _, _, hc, h | ⟨g, o, ha, hg, hr⟩⟩ := h
 ·cases h
 ·unfold ET.Row at hr
  exact ⟨g, o, ha, hg, hr.1, hr.2.1, hc⟩
theorem ET.kid2 {B : Nat} {w : World} {op t b c : Nat} {nm : ByteArray} {a : Option Addr} {x y : ET} (h : (ET.mk op t b nm a c [x, y]).In B w) : ∃ g o, a = some ⟨g, o, none⟩ ∧ g < B ∧ w.rangeAt g o x.cells ∧ w.rangeAt g (o + 5) y.cells ∧ x.In B w ∧ y.In B w ∧ 2 ≤ c := by
 unfold ET.In at h
 obtain ⟨_, _, _, _, hc, h | ⟨g, o, ha, hg, hr⟩⟩ := h
 ·cases h
 ·unfold ET.Row at hr
  obtain ⟨h1, h2, h3⟩ := hr
  unfold ET.Row at h3
  exact ⟨g, o, ha, hg, h1, h3.1, h2, h3.2.1, hc⟩

set_option maxRecDepth 100000 in
set_option maxHeartbeats 1600000 in
theorem expr_un16 (B g m : Nat) (hm : m ≤ 9223372036854775807) (h16 : gB ≤ B) (nm : ByteArray) (a : Option Addr) (c : Nat) (x : ET) (hE : ExprW B g m x) (t b : Nat) : ExprW B g m (.mk 16 t b nm a c [x]) := by
 intro w F hin hT hBw hTab hlen
 obtain ⟨gk, o, rfl, hgk, hrg, hx, hc⟩ := ET.kid1 hin
 have hBg := hT.base
 have hgw := hT.lt
 have hX : exT (ET.mk 16 t b nm (some ⟨gk, o, none⟩) c [x]).ex = [45] ++ (exT x.ex ++ []) := by
  show exT (.mk 16 t b nm.data.toList [x.ex]) = _
  simp [exT]
 rw [hX] at hlen ⊢
 have hA := fun w hin hT hBw hTab => around_of B g m x hm h16 hE ⟨#[45]⟩ ⟨#[]⟩ w F hin hT hBw hTab hlen
 have HI : Hid (x.In B w ∧ Tab w ∧ Txt B w g m F ∧ w.rangeAt gk o x.cells) := ⟨hx, hTab, hT, hrg⟩
 show Calls Tryz.prog 38 #[.pointer (some ⟨g, 0, none⟩), .agg (ex5 16 t b nm (.slice (some ⟨gk, o, none⟩) 1 c)).toArray] w _
 clear hin hX hE hT hTab hx hrg
 go_enter Tryz.func38, Tryz.ntmps38
 go_wp2_with (first
  | ((with_reducible show wpList _ _ _ _ _ _); refine wpList_box_at rfl 34 (.tmp 1) rfl (ex5 16 t b nm (.slice (some ⟨gk, o, none⟩) 1 c)) rfl ?_; intro w1 hA1 hb1 hs1; clear hs1; refine Hid.out ?_))
 refine hidU ?_
 have c0 : w1.cell? ⟨w.heap.size, 0, none⟩ = some (.int .u8 16) := by rw [hA1.cell]; rfl
 have c4 : w1.cell? ⟨w.heap.size, 4, none⟩ = some (.slice (some ⟨gk, o, none⟩) 1 c) := by rw [hA1.cell]; rfl
 obtain ⟨q1, q2, q3, q4⟩ := HI.out
 have hr1 : w1.rangeAt gk o x.cells := Old.range (Old.of_below hb1 hBw) hgk q4
 have hA' := hA w1 (q1.old (Old.of_below hb1 hBw)) (q3.below hb1) (by have := hb1.size; omega) (q2.below hb1 (by omega))
 clear hA q1 q2 q3 q4 HI hA1
 go_wp2_with (first
  | ((with_reducible show wpList _ _ _ _ _ _); refine wpList_load_mid (P := Tryz.prog) rfl 34 (.tmp 50) rfl gk o (by first | rfl | (simp; done)) x.cells _ hr1 Tryz.underlying34 rfl (by rw [ET.cells_len]; exact i29) ?_))
 refine hA'.mono ?_
 rintro r w2 ⟨rfl, hT2, hW2⟩
 have HF : Hid (Txt B w2 g m (F ++ ([45] ++ (exT x.ex ++ []))) ∧ Wr B g w w2) := ⟨hT2, (Wr.of_below hb1).trans hW2⟩
 clear hA' hT2 hW2 hr1
 go_wp2
 go_end0
 exact ⟨rfl, HF.out⟩

set_option maxRecDepth 100000 in
set_option maxHeartbeats 1600000 in
theorem expr_un17 (B g m : Nat) (hm : m ≤ 9223372036854775807) (h16 : gB ≤ B) (nm : ByteArray) (a : Option Addr) (c : Nat) (x : ET) (hE : ExprW B g m x) (t b : Nat) : ExprW B g m (.mk 17 t b nm a c [x]) := by
 intro w F hin hT hBw hTab hlen
 obtain ⟨gk, o, rfl, hgk, hrg, hx, hc⟩ := ET.kid1 hin
 have hBg := hT.base
 have hgw := hT.lt
 have hX : exT (ET.mk 17 t b nm (some ⟨gk, o, none⟩) c [x]).ex = [33] ++ (exT x.ex ++ []) := by
  show exT (.mk 17 t b nm.data.toList [x.ex]) = _
  simp [exT]
 rw [hX] at hlen ⊢
 have hA := fun w hin hT hBw hTab => around_of B g m x hm h16 hE ⟨#[33]⟩ ⟨#[]⟩ w F hin hT hBw hTab hlen
 have HI : Hid (x.In B w ∧ Tab w ∧ Txt B w g m F ∧ w.rangeAt gk o x.cells) := ⟨hx, hTab, hT, hrg⟩
 show Calls Tryz.prog 38 #[.pointer (some ⟨g, 0, none⟩), .agg (ex5 17 t b nm (.slice (some ⟨gk, o, none⟩) 1 c)).toArray] w _
 clear hin hX hE hT hTab hx hrg
 go_enter Tryz.func38, Tryz.ntmps38
 go_wp2_with (first
  | ((with_reducible show wpList _ _ _ _ _ _); refine wpList_box_at rfl 34 (.tmp 1) rfl (ex5 17 t b nm (.slice (some ⟨gk, o, none⟩) 1 c)) rfl ?_; intro w1 hA1 hb1 hs1; clear hs1; refine Hid.out ?_))
 refine hidU ?_
 have c0 : w1.cell? ⟨w.heap.size, 0, none⟩ = some (.int .u8 17) := by rw [hA1.cell]; rfl
 have c4 : w1.cell? ⟨w.heap.size, 4, none⟩ = some (.slice (some ⟨gk, o, none⟩) 1 c) := by rw [hA1.cell]; rfl
 obtain ⟨q1, q2, q3, q4⟩ := HI.out
 have hr1 : w1.rangeAt gk o x.cells := Old.range (Old.of_below hb1 hBw) hgk q4
 have hA' := hA w1 (q1.old (Old.of_below hb1 hBw)) (q3.below hb1) (by have := hb1.size; omega) (q2.below hb1 (by omega))
 clear hA q1 q2 q3 q4 HI hA1
 go_wp2_with (first
  | ((with_reducible show wpList _ _ _ _ _ _); refine wpList_load_mid (P := Tryz.prog) rfl 34 (.tmp 58) rfl gk o (by first | rfl | (simp; done)) x.cells _ hr1 Tryz.underlying34 rfl (by rw [ET.cells_len]; exact i29) ?_))
 refine hA'.mono ?_
 rintro r w2 ⟨rfl, hT2, hW2⟩
 have HF : Hid (Txt B w2 g m (F ++ ([33] ++ (exT x.ex ++ []))) ∧ Wr B g w w2) := ⟨hT2, (Wr.of_below hb1).trans hW2⟩
 clear hA' hT2 hW2 hr1
 go_wp2
 go_end0
 exact ⟨rfl, HF.out⟩

set_option maxRecDepth 100000 in
set_option maxHeartbeats 1600000 in
theorem expr_un18 (B g m : Nat) (hm : m ≤ 9223372036854775807) (h16 : gB ≤ B) (nm : ByteArray) (a : Option Addr) (c : Nat) (x : ET) (hE : ExprW B g m x) (t b : Nat) : ExprW B g m (.mk 18 t b nm a c [x]) := by
 intro w F hin hT hBw hTab hlen
 obtain ⟨gk, o, rfl, hgk, hrg, hx, hc⟩ := ET.kid1 hin
 have hBg := hT.base
 have hgw := hT.lt
 have hX : exT (ET.mk 18 t b nm (some ⟨gk, o, none⟩) c [x]).ex = [105, 110, 116, 40] ++ (exT x.ex ++ [41]) := by
  show exT (.mk 18 t b nm.data.toList [x.ex]) = _
  simp [exT]
 rw [hX] at hlen ⊢
 have hA := fun w hin hT hBw hTab => around_of B g m x hm h16 hE ⟨#[105, 110, 116, 40]⟩ ⟨#[41]⟩ w F hin hT hBw hTab hlen
 have HI : Hid (x.In B w ∧ Tab w ∧ Txt B w g m F ∧ w.rangeAt gk o x.cells) := ⟨hx, hTab, hT, hrg⟩
 show Calls Tryz.prog 38 #[.pointer (some ⟨g, 0, none⟩), .agg (ex5 18 t b nm (.slice (some ⟨gk, o, none⟩) 1 c)).toArray] w _
 clear hin hX hE hT hTab hx hrg
 go_enter Tryz.func38, Tryz.ntmps38
 go_wp2_with (first
  | ((with_reducible show wpList _ _ _ _ _ _); refine wpList_box_at rfl 34 (.tmp 1) rfl (ex5 18 t b nm (.slice (some ⟨gk, o, none⟩) 1 c)) rfl ?_; intro w1 hA1 hb1 hs1; clear hs1; refine Hid.out ?_))
 refine hidU ?_
 have c0 : w1.cell? ⟨w.heap.size, 0, none⟩ = some (.int .u8 18) := by rw [hA1.cell]; rfl
 have c4 : w1.cell? ⟨w.heap.size, 4, none⟩ = some (.slice (some ⟨gk, o, none⟩) 1 c) := by rw [hA1.cell]; rfl
 obtain ⟨q1, q2, q3, q4⟩ := HI.out
 have hr1 : w1.rangeAt gk o x.cells := Old.range (Old.of_below hb1 hBw) hgk q4
 have hA' := hA w1 (q1.old (Old.of_below hb1 hBw)) (q3.below hb1) (by have := hb1.size; omega) (q2.below hb1 (by omega))
 clear hA q1 q2 q3 q4 HI hA1
 go_wp2_with (first
  | ((with_reducible show wpList _ _ _ _ _ _); refine wpList_load_mid (P := Tryz.prog) rfl 34 (.tmp 66) rfl gk o (by first | rfl | (simp; done)) x.cells _ hr1 Tryz.underlying34 rfl (by rw [ET.cells_len]; exact i29) ?_))
 refine hA'.mono ?_
 rintro r w2 ⟨rfl, hT2, hW2⟩
 have HF : Hid (Txt B w2 g m (F ++ ([105, 110, 116, 40] ++ (exT x.ex ++ [41]))) ∧ Wr B g w w2) := ⟨hT2, (Wr.of_below hb1).trans hW2⟩
 clear hA' hT2 hW2 hr1
 go_wp2
 go_end0
 exact ⟨rfl, HF.out⟩

set_option maxRecDepth 100000 in
set_option maxHeartbeats 1600000 in
theorem expr_un19 (B g m : Nat) (hm : m ≤ 9223372036854775807) (h16 : gB ≤ B) (nm : ByteArray) (a : Option Addr) (c : Nat) (x : ET) (hE : ExprW B g m x) (t b : Nat) : ExprW B g m (.mk 19 t b nm a c [x]) := by
 intro w F hin hT hBw hTab hlen
 obtain ⟨gk, o, rfl, hgk, hrg, hx, hc⟩ := ET.kid1 hin
 have hBg := hT.base
 have hgw := hT.lt
 have hX : exT (ET.mk 19 t b nm (some ⟨gk, o, none⟩) c [x]).ex = [114, 101, 97, 108, 40] ++ (exT x.ex ++ [41]) := by
  show exT (.mk 19 t b nm.data.toList [x.ex]) = _
  simp [exT]
 rw [hX] at hlen ⊢
 have hA := fun w hin hT hBw hTab => around_of B g m x hm h16 hE ⟨#[114, 101, 97, 108, 40]⟩ ⟨#[41]⟩ w F hin hT hBw hTab hlen
 have HI : Hid (x.In B w ∧ Tab w ∧ Txt B w g m F ∧ w.rangeAt gk o x.cells) := ⟨hx, hTab, hT, hrg⟩
 show Calls Tryz.prog 38 #[.pointer (some ⟨g, 0, none⟩), .agg (ex5 19 t b nm (.slice (some ⟨gk, o, none⟩) 1 c)).toArray] w _
 clear hin hX hE hT hTab hx hrg
 go_enter Tryz.func38, Tryz.ntmps38
 go_wp2_with (first
  | ((with_reducible show wpList _ _ _ _ _ _); refine wpList_box_at rfl 34 (.tmp 1) rfl (ex5 19 t b nm (.slice (some ⟨gk, o, none⟩) 1 c)) rfl ?_; intro w1 hA1 hb1 hs1; clear hs1; refine Hid.out ?_))
 refine hidU ?_
 have c0 : w1.cell? ⟨w.heap.size, 0, none⟩ = some (.int .u8 19) := by rw [hA1.cell]; rfl
 have c4 : w1.cell? ⟨w.heap.size, 4, none⟩ = some (.slice (some ⟨gk, o, none⟩) 1 c) := by rw [hA1.cell]; rfl
 obtain ⟨q1, q2, q3, q4⟩ := HI.out
 have hr1 : w1.rangeAt gk o x.cells := Old.range (Old.of_below hb1 hBw) hgk q4
 have hA' := hA w1 (q1.old (Old.of_below hb1 hBw)) (q3.below hb1) (by have := hb1.size; omega) (q2.below hb1 (by omega))
 clear hA q1 q2 q3 q4 HI hA1
 go_wp2_with (first
  | ((with_reducible show wpList _ _ _ _ _ _); refine wpList_load_mid (P := Tryz.prog) rfl 34 (.tmp 74) rfl gk o (by first | rfl | (simp; done)) x.cells _ hr1 Tryz.underlying34 rfl (by rw [ET.cells_len]; exact i29) ?_))
 refine hA'.mono ?_
 rintro r w2 ⟨rfl, hT2, hW2⟩
 have HF : Hid (Txt B w2 g m (F ++ ([114, 101, 97, 108, 40] ++ (exT x.ex ++ [41]))) ∧ Wr B g w w2) := ⟨hT2, (Wr.of_below hb1).trans hW2⟩
 clear hA' hT2 hW2 hr1
 go_wp2
 go_end0
 exact ⟨rfl, HF.out⟩

end Go.Proofs.YtcmahiphfpgadaaGreatDoor

/- An expression's text is written: literals, names, two operands; all. -/
namespace Go.Proofs.YtcmahiphfpgadaaGreatDoor
open Go.RowKit
set_option linter.unusedVariables false

set_option maxRecDepth 100000 in
set_option maxHeartbeats 1600000 in
theorem expr_lit (B g m : Nat) (hm : m ≤ 9223372036854775807) (h16 : gB ≤ B) (nm : ByteArray) (a : Option Addr) (c : Nat) (ks : List ET) (t b : Nat) : ExprW B g m (.mk 1 t b nm a c ks) := by
 intro w F hin hT hBw hTab hlen
 have hBg := hT.base
 have hgw := hT.lt
 have hX : exT (ET.mk 1 t b nm a c ks).ex = valTx t b := by
  show exT (.mk 1 t b nm.data.toList _) = _
  unfold exT
  rw [if_pos rfl]
 rw [hX] at hlen ⊢
 unfold ET.In at hin
 obtain ⟨_, ht, hb, _⟩ := hin
 have hV := fun w hT h => valueText_any t b ht hb w hT h
 obtain ⟨L, hL⟩ : ∃ L, Hid (L = valTx t b) := ⟨_, (rfl : valTx t b = _)⟩
 rw [← hL.out] at hV hlen ⊢
 have HI : Hid (Tab w ∧ Txt B w g m F) := ⟨hTab, hT⟩
 obtain ⟨n, hn⟩ : ∃ n, Hid (n = ks.length) := ⟨_, (rfl : ks.length = _)⟩
 show Calls Tryz.prog 38 #[.pointer (some ⟨g, 0, none⟩), .agg (ex5 1 t b nm (.slice a ks.length c)).toArray] w _
 rw [← hn.out]
 clear hX hT hTab
 go_enter Tryz.func38, Tryz.ntmps38
 go_wp2_with (first
  | ((with_reducible show wpList _ _ _ _ _ _); refine wpList_box_at rfl 34 (.tmp 1) rfl (ex5 1 t b nm (.slice a n c)) rfl ?_; intro w1 hA1 hb1 hs1; clear hs1; refine Hid.out ?_))
 refine hidU ?_
 have c0 : w1.cell? ⟨w.heap.size, 0, none⟩ = some (.int .u8 1) := by rw [hA1.cell]; rfl
 have c1 : w1.cell? ⟨w.heap.size, 1, none⟩ = some (.int .u8 (t : Int)) := by rw [hA1.cell]; rfl
 have c2 : w1.cell? ⟨w.heap.size, 2, none⟩ = some (.int .u64 (b : Int)) := by rw [hA1.cell]; rfl
 have hV' := hV w1 (HI.out.1.below hb1 (by omega)) (by have := hb1.size; omega)
 clear hV
 go_wp2_with fail
 refine hV'.mono ?_
 rintro r w2 ⟨rfl, hb2⟩
 have hT2 : Txt B w2 g m F := (HI.out.2.below hb1).below hb2
 have hbb : Below w.heap.size w w2 := hb1.trans (hb2.mono hb1.size)
 clear hV' hb1 hb2 hA1 HI c0 c1 c2
 go_wp2_with (first
  | ((with_reducible show wpList _ _ _ _ _ _); refine wpList_strs rfl 1 #[(0, .tmp 35)] rfl [⟨L.toArray⟩] rfl (by decide) (by decide) (by kernel_rfl) ?_; intro w3 hA3 hb3 hs3; clear hs3))
 refine (put_any B g m _ [⟨L.toArray⟩] F _ hm (hT2.below hb3) hA3 (by simpa [cat] using hlen) (by simp)).mono ?_
 rintro r w4 ⟨rfl, hT4, hW4⟩
 have HF : Hid (Txt B w4 g m (F ++ L) ∧ Wr B g w w4) := ⟨by simpa [cat] using hT4, (Wr.of_below (hbb.trans (hb3.mono hbb.size))).trans hW4⟩
 clear hT4 hW4 hT2 hbb hA3 hb3
 go_wp2
 go_end0
 exact ⟨rfl, HF.out⟩

set_option maxRecDepth 100000 in
set_option maxHeartbeats 1600000 in
theorem expr_name (B g m : Nat) (hm : m ≤ 9223372036854775807) (h16 : gB ≤ B) (nm : ByteArray) (a : Option Addr) (c : Nat) (ks : List ET) (t b : Nat) : ExprW B g m (.mk 2 t b nm a c ks) := by
 intro w F hin hT hBw hTab hlen
 have hBg := hT.base
 have hgw := hT.lt
 have hX : exT (ET.mk 2 t b nm a c ks).ex = nm.data.toList := by
  show exT (.mk 2 t b nm.data.toList _) = _
  unfold exT
  rw [if_neg (by decide), if_pos rfl]
 rw [hX] at hlen ⊢
 have HI : Hid (Txt B w g m F) := hT
 obtain ⟨n, hn⟩ : ∃ n, Hid (n = ks.length) := ⟨_, (rfl : ks.length = _)⟩
 show Calls Tryz.prog 38 #[.pointer (some ⟨g, 0, none⟩), .agg (ex5 2 t b nm (.slice a ks.length c)).toArray] w _
 rw [← hn.out]
 clear hX hT hTab hin
 go_enter Tryz.func38, Tryz.ntmps38
 go_wp2_with (first
  | ((with_reducible show wpList _ _ _ _ _ _); refine wpList_box_at rfl 34 (.tmp 1) rfl (ex5 2 t b nm (.slice a n c)) rfl ?_; intro w1 hA1 hb1 hs1; clear hs1; refine Hid.out ?_))
 refine hidU ?_
 have c0 : w1.cell? ⟨w.heap.size, 0, none⟩ = some (.int .u8 2) := by rw [hA1.cell]; rfl
 have c3 : w1.cell? ⟨w.heap.size, 3, none⟩ = some (.string nm) := by rw [hA1.cell]; rfl
 go_wp2_with (first
  | ((with_reducible show wpList _ _ _ _ _ _); refine wpList_strs rfl 1 #[(0, .tmp 42)] rfl [nm] rfl (by decide) (by decide) (by kernel_rfl) ?_; intro w3 hA3 hb3 hs3; clear hs3))
 refine (put_any B g m _ [nm] F _ hm ((HI.out.below hb1).below hb3) hA3 (by simpa [cat] using hlen) (by simp)).mono ?_
 rintro r w4 ⟨rfl, hT4, hW4⟩
 have HF : Hid (Txt B w4 g m (F ++ nm.data.toList) ∧ Wr B g w w4) := ⟨by simpa [cat] using hT4, (Wr.of_below (hb1.trans (hb3.mono hb1.size))).trans hW4⟩
 clear hT4 hW4 hA3 hb3 hA1 hb1 c0 c3
 go_wp2
 go_end0
 exact ⟨rfl, HF.out⟩

set_option maxRecDepth 100000 in
set_option maxHeartbeats 1600000 in
theorem expr_two (B g m : Nat) (hm : m ≤ 9223372036854775807) (h16 : gB ≤ B) (nm : ByteArray) (a : Option Addr) (c : Nat) (x y : ET) (hE : ExprW B g m x) (hE2 : ExprW B g m y) (op t b : Nat) (h3 : 3 ≤ op) (ho : op < 16) : ExprW B g m (.mk op t b nm a c [x, y]) := by
 intro w F hin hT hBw hTab hlen
 obtain ⟨gk, o, rfl, hgk, hrx, hry, hx, hy, hc⟩ := ET.kid2 hin
 have hBg := hT.base
 have hgw := hT.lt
 have hX : exT (ET.mk op t b nm (some ⟨gk, o, none⟩) c [x, y]).ex = [40] ++ (exT x.ex ++ [32]) ++ sgT op ++ ([32] ++ (exT y.ex ++ [41])) := by
  show exT (.mk op t b nm.data.toList [x.ex, y.ex]) = _
  rw [exT, if_neg (by omega), if_neg (by omega)]
  simp
 rw [hX] at hlen ⊢
 have hS := sign_any op
 obtain ⟨S, hSS⟩ : ∃ S, Hid (S = sgT op) := ⟨_, (rfl : sgT op = _)⟩
 obtain ⟨X, hXX⟩ : ∃ X, Hid (X = exT x.ex) := ⟨_, (rfl : exT x.ex = _)⟩
 obtain ⟨Y, hYY⟩ : ∃ Y, Hid (Y = exT y.ex) := ⟨_, (rfl : exT y.ex = _)⟩
 rw [← hSS.out] at hS hlen ⊢
 rw [← hXX.out, ← hYY.out] at hlen ⊢
 have hA := fun w hin hT hBw hTab => around_of B g m x hm h16 hE ⟨#[40]⟩ ⟨#[32]⟩ w F hin hT hBw hTab (by rw [← hXX.out]; simp at hlen ⊢; omega)
 have hA2 := fun w hin hT hBw hTab => around_of B g m y hm h16 hE2 ⟨#[32]⟩ ⟨#[41]⟩ w (F ++ ([40] ++ (X ++ [32])) ++ S) hin hT hBw hTab (by rw [← hYY.out]; simp at hlen ⊢; omega)
 rw [← hXX.out] at hA
 rw [← hYY.out] at hA2
 have HI : Hid (x.In B w ∧ Tab w ∧ Txt B w g m F ∧ w.rangeAt gk o x.cells) := ⟨hx, hTab, hT, hrx⟩
 have HJ : Hid (y.In B w ∧ w.rangeAt gk (o + 5) y.cells) := ⟨hy, hry⟩
 have HL : Hid ((F ++ ([40] ++ (X ++ [32]) ++ S ++ ([32] ++ (Y ++ [41])))).length ≤ 70368744177664) := hlen
 have e1 : ((op : Int) == 1) = false := by rw [beq_eq_false_iff_ne]; omega
 have e2 : ((op : Int) == 2) = false := by rw [beq_eq_false_iff_ne]; omega
 have e16 : ((op : Int) == 16) = false := by rw [beq_eq_false_iff_ne]; omega
 have e17 : ((op : Int) == 17) = false := by rw [beq_eq_false_iff_ne]; omega
 have e18 : ((op : Int) == 18) = false := by rw [beq_eq_false_iff_ne]; omega
 have e19 : ((op : Int) == 19) = false := by rw [beq_eq_false_iff_ne]; omega
 show Calls Tryz.prog 38 #[.pointer (some ⟨g, 0, none⟩), .agg (ex5 op t b nm (.slice (some ⟨gk, o, none⟩) 2 c)).toArray] w _
 clear hin hX hE hE2 hT hTab hx hy hrx hry hlen
 go_enter Tryz.func38, Tryz.ntmps38
 go_wp2_with (first
  | ((with_reducible show wpList _ _ _ _ _ _); refine wpList_box_at rfl 34 (.tmp 1) rfl (ex5 op t b nm (.slice (some ⟨gk, o, none⟩) 2 c)) rfl ?_; intro w1 hA1 hb1 hs1; clear hs1; refine Hid.out ?_))
 refine hidU ?_
 have c0 : w1.cell? ⟨w.heap.size, 0, none⟩ = some (.int .u8 (op : Int)) := by rw [hA1.cell]; rfl
 have c4 : w1.cell? ⟨w.heap.size, 4, none⟩ = some (.slice (some ⟨gk, o, none⟩) 2 c) := by rw [hA1.cell]; rfl
 obtain ⟨q1, q2, q3, q4⟩ := HI.out
 have hr1 : w1.rangeAt gk o x.cells := Old.range (Old.of_below hb1 hBw) hgk q4
 have hA' := hA w1 (q1.old (Old.of_below hb1 hBw)) (q3.below hb1) (by have := hb1.size; omega) (q2.below hb1 (by omega))
 clear hA q1 q3 q4 HI
 go_wp2_with (first
  | ((with_reducible show wpList _ _ _ _ _ _); refine wpList_load_mid (P := Tryz.prog) rfl 34 (.tmp 11) rfl gk o (by first | rfl | (simp; done)) x.cells _ hr1 Tryz.underlying34 rfl (by rw [ET.cells_len]; exact i29) ?_))
 refine hA'.mono ?_
 rintro r w2 ⟨rfl, hT2, hW2⟩
 have hw2 : Wr B g w w2 := (Wr.of_below hb1).trans hW2
 have hA2b := hW2.at hA1 (by omega) (by decide)
 clear hA' hW2 hr1 c0 c4 hA1 hb1
 have c0 : w2.cell? ⟨w.heap.size, 0, none⟩ = some (.int .u8 (op : Int)) := by rw [hA2b.cell]; rfl
 go_wp2_with fail
 refine (hS _).mono ?_
 rintro r w2' ⟨rfl, hw2'⟩
 have hw2'' := hw2'.symm
 subst hw2''
 clear hw2' hS
 go_wp2_with (first
  | ((with_reducible show wpList _ _ _ _ _ _); refine wpList_strs rfl 1 #[(0, .tmp 17)] rfl [⟨S.toArray⟩] rfl (by decide) (by decide) (by kernel_rfl) ?_; intro w3 hA3 hb3 hs3; clear hs3))
 refine (put_any B g m _ [⟨S.toArray⟩] _ _ hm (hT2.below hb3) hA3 (by have := HL.out; simp [cat] at this ⊢; omega) (by simp)).mono ?_
 rintro r w4 ⟨rfl, hT4, hW4⟩
 have hT4' : Txt B w4 g m (F ++ ([40] ++ (X ++ [32])) ++ S) := by simpa [cat] using hT4
 have hA4 := hW4.at (hA2b.below hb3) (by omega) (by decide)
 have hw4 : Wr B g w w4 := hw2.trans ((Wr.of_below hb3).trans hW4)
 have hold : Old B w w4 := Old.of_wr hw4 hBg hBw
 have hr4 : w4.rangeAt gk (o + 5) y.cells := Old.range hold hgk HJ.out.2
 have hA5 := hA2 w4 (HJ.out.1.old hold) hT4' (by have := hw4.size; omega) (q2.wr hw4 hBg hBw h16)
 clear hA2 hT4 hT4' hW4 hA3 hb3 hA2b hw2 hT2 hold HJ q2 c0
 have c4 : w4.cell? ⟨w.heap.size, 4, none⟩ = some (.slice (some ⟨gk, o, none⟩) 2 c) := by rw [hA4.cell]; rfl
 go_wp2_with (first
  | ((with_reducible show wpList _ _ _ _ _ _); refine wpList_load_mid (P := Tryz.prog) rfl 34 (.tmp 23) rfl gk (o + 5) (by first | rfl | (simp; done)) y.cells _ hr4 Tryz.underlying34 rfl (by rw [ET.cells_len]; exact i29) ?_))
 refine hA5.mono ?_
 rintro r w6 ⟨rfl, hT6, hW6⟩
 have HF : Hid (Txt B w6 g m (F ++ ([40] ++ (X ++ [32]) ++ S ++ ([32] ++ (Y ++ [41])))) ∧ Wr B g w w6) := ⟨by simpa using hT6, hw4.trans hW6⟩
 clear hA5 hT6 hW6 hr4 hA4 hw4
 go_wp2
 go_end0
 exact ⟨rfl, HF.out⟩

/-- An expression that may be printed is written as its text. -/
theorem expr_any (B g m : Nat) (hm : m ≤ 9223372036854775807) (h16 : gB ≤ B) (h : Nat) : ∀ e : ET, mayE h e.ex = true → ExprW B g m e := by
 induction h with
 | zero => intro e he; simp [mayE] at he
 | succ h ih =>
  rintro ⟨op, t, b, nm, a, c, ks⟩ he
  have hl := mayE_len (show mayE (h + 1) (.mk op t b nm.data.toList (ET.exs ks)) = true from he)
  rw [ET.exs_eq, List.length_map] at hl
  by_cases h1 : op = 1
  ·subst h1; exact expr_lit B g m hm h16 nm a c ks t b
  by_cases h2 : op = 2
  ·subst h2; exact expr_name B g m hm h16 nm a c ks t b
  have hk := mayE_kids (show mayE (h + 1) (.mk op t b nm.data.toList (ET.exs ks)) = true from he) h1 h2
  rw [ET.exs_eq] at hk
  unfold opnds at hl
  rw [if_neg (by omega)] at hl
  by_cases h3 : 16 ≤ op ∧ op < 20
  ·rw [if_pos h3] at hl
   match ks, hl, hk with
   | [x], _, hk =>
    have hx := ih x (hk x.ex (by simp))
    have : op = 16 ∨ op = 17 ∨ op = 18 ∨ op = 19 := by omega
    rcases this with rfl | rfl | rfl | rfl
    ·exact expr_un16 B g m hm h16 nm a c x hx t b
    ·exact expr_un17 B g m hm h16 nm a c x hx t b
    ·exact expr_un18 B g m hm h16 nm a c x hx t b
    ·exact expr_un19 B g m hm h16 nm a c x hx t b
  ·rw [if_neg h3] at hl
   by_cases h4 : 3 ≤ op ∧ op < 16
   ·rw [if_pos h4] at hl
    match ks, hl, hk with
    | [x, y], _, hk => exact expr_two B g m hm h16 nm a c x y (ih x (hk x.ex (by simp))) (ih y (hk y.ex (by simp))) op t b h4.1 h4.2
   ·rw [if_neg h4] at hl
    omega

end Go.Proofs.YtcmahiphfpgadaaGreatDoor

/- A block's text is written. -/
namespace Go.Proofs.YtcmahiphfpgadaaGreatDoor
open Go.RowKit
set_option linter.unusedVariables false

mutual
/-- A statement's text, but for the blanks ahead of it and its last line's end. -/
def stT (bl : List UInt8) : St → List UInt8
 | .mk k nm e body els =>
  if k = 1 then (nm ++ [32, 61, 32]) ++ (exT e ++ [59])
  else if k = 2 then [108, 111, 99, 107, 32] ++ (nm ++ [59])
  else if k = 3 then [117, 110, 108, 111, 99, 107, 32] ++ (nm ++ [59])
  else if k = 4 then [97, 115, 115, 101, 114, 116, 32] ++ (exT e ++ [59])
  else if k = 5 then ([105, 102, 32] ++ (exT e ++ [32, 123, 10])) ++ (blT (bl ++ [32, 32]) body ++ ((if els.isEmpty then [] else (bl ++ [125, 32, 101, 108, 115, 101, 32, 123, 10]) ++ blT (bl ++ [32, 32]) els) ++ (bl ++ [125])))
  else if k = 6 then ([119, 104, 105, 108, 101, 32] ++ (exT e ++ [32, 123, 10])) ++ (blT (bl ++ [32, 32]) body ++ (bl ++ [125]))
  else if k = 7 then [115, 107, 105, 112, 59]
  else []
def blT (bl : List UInt8) : List St → List UInt8
 | [] => []
 | s :: r => bl ++ (stT bl s ++ ([10] ++ blT bl r))
end

theorem blT_append (bl : List UInt8) : ∀ a b : List St, blT bl (a ++ b) = blT bl a ++ blT bl b
 | [], b => by simp [blT]
 | s :: r, b => by rw [List.cons_append, blT, blT, blT_append bl r b]; simp

/-- What writing a statement does. -/
def StmtW (B g m : Nat) (s : ST) : Prop := ∀ (bl : ByteArray) (d : Nat) (w : World) (F : List UInt8), bl.size + 2 * (33 - d) ≤ 1000 → d ≤ 32 → mayS d s.st = true → s.In B w → Txt B w g m F → B ≤ w.heap.size → Tab w → (F ++ stT bl.data.toList s.st).length ≤ 70368744177664 →
  Calls Tryz.prog 100 #[.pointer (some ⟨g, 0, none⟩), .agg s.cells.toArray, .string bl] w fun r w' => r = .returned (.tuple #[]) ∧ Txt B w' g m (F ++ stT bl.data.toList s.st) ∧ Wr B g w w'

set_option maxRecDepth 100000 in
set_option maxHeartbeats 3200000 in
theorem block_of (B g m : Nat) (hm : m ≤ 9223372036854775807) (h16 : gB ≤ B) (ss : List ST) (hS : ∀ s ∈ ss, StmtW B g m s) (bl : ByteArray) (d : Nat) (hbl : bl.size + 2 * (33 - d) ≤ 1000) (hmay : mayB d (ss.map ST.st) = true) (a : Option Addr) (c : Nat) (w : World) (F : List UInt8)
  (hr : RowS B w a c ss) (hT : Txt B w g m F) (hBw : B ≤ w.heap.size) (hTab : Tab w) (hlen : (F ++ blT bl.data.toList (ss.map ST.st)).length ≤ 70368744177664) :
  Calls Tryz.prog 73 #[.pointer (some ⟨g, 0, none⟩), .slice a ss.length c, .string bl] w fun r w' => r = .returned (.tuple #[]) ∧ Txt B w' g m (F ++ blT bl.data.toList (ss.map ST.st)) ∧ Wr B g w w' := by
 have hBg := hT.base
 have hgw := hT.lt
 obtain ⟨n, hn⟩ : ∃ n, Hid (n = ss.length) := ⟨_, (rfl : ss.length = _)⟩
 have hl := hr.1
 have hk := hr.2.1
 rw [← hn.out] at hl hk ⊢
 have HS : Hid (∀ s ∈ ss, StmtW B g m s) := hS
 have HR : Hid (RowS B w a c ss ∧ Txt B w g m F ∧ Tab w ∧ mayB d (ss.map ST.st) = true) := ⟨hr, hT, hTab, hmay⟩
 have HL : Hid ((F ++ blT bl.data.toList (ss.map ST.st)).length ≤ 70368744177664) := hlen
 clear hS hr hT hTab hlen hmay
 go_enter Tryz.func73, Tryz.ntmps73
 go_wp2_with fail
 go_loopw [10] (fun j wr => ∃ i : Nat, j = .int .i64 (i : Int) ∧ i ≤ n ∧ Hid (Txt B wr g m (F ++ blT bl.data.toList ((ss.take i).map ST.st)) ∧ Wr B g w wr)) (fun j _ => n - (intOf j).toNat)
 case atStart => exact ⟨0, rfl, by omega, by simpa [blT] using HR.out.2.1, Wr.refl _ _ _⟩
 case round =>
  obtain ⟨i, rfl, hi, hX⟩ := hrel
  by_cases hc : i < n
  ·obtain ⟨s, hs⟩ : ∃ k, ss[i]? = some k := ⟨ss[i]'(by rw [← hn.out]; exact hc), by rw [List.getElem?_eq_getElem]⟩
   obtain ⟨hTr, hWr⟩ := hX.out
   have hold : Old B w wr := Old.of_wr hWr hBg hBw
   obtain ⟨g1, o1, rfl, hg1, hr1, hs1⟩ := (HR.out.1.old hold).at i s hs
   have hgr := hTr.lt
   have htk : blT bl.data.toList ((ss.take (i + 1)).map ST.st) = blT bl.data.toList ((ss.take i).map ST.st) ++ (bl.data.toList ++ (stT bl.data.toList s.st ++ [10])) := by
    rw [List.take_add_one, hs, List.map_append, blT_append]
    simp [blT]
   have hle : (F ++ blT bl.data.toList ((ss.take (i + 1)).map ST.st)).length ≤ (F ++ blT bl.data.toList (ss.map ST.st)).length := by
    have e : blT bl.data.toList (ss.map ST.st) = blT bl.data.toList ((ss.take (i + 1)).map ST.st) ++ blT bl.data.toList ((ss.drop (i + 1)).map ST.st) := by
     rw [← blT_append, ← List.map_append, List.take_append_drop]
    rw [e]
    simp only [List.length_append]
    omega
   have hms := (mayB_iff d _).1 HR.out.2.2.2
   have hd32 : d ≤ 32 := by
    rcases hms.1 with h | h
    ·have := congrArg List.length h
     rw [List.length_map, ← hn.out] at this
     simp at this
     omega
    ·exact h
   have hmay := hms.2 s.st (List.mem_map.2 ⟨s, List.mem_of_getElem? hs, rfl⟩)
   obtain ⟨X, hX2⟩ : ∃ X, Hid (X = stT bl.data.toList s.st) := ⟨_, (rfl : stT bl.data.toList s.st = _)⟩
   obtain ⟨G, hG⟩ : ∃ G, Hid (G = F ++ blT bl.data.toList ((ss.take i).map ST.st)) := ⟨_, (rfl : _ = F ++ blT _ _)⟩
   have HG : Hid (F ++ blT bl.data.toList ((ss.take (i + 1)).map ST.st) = G ++ (bl.data.toList ++ (X ++ [10]))) := by
    show _ = _
    rw [htk, hX2.out, hG.out, List.append_assoc]
   have hlen2 : G.length + bl.data.toList.length + X.length + 1 ≤ 70368744177664 := by
    have h1 := HL.out
    rw [HG.out] at hle
    simp only [List.length_append, List.length_singleton] at hle h1
    omega
   rw [← hG.out] at hTr
   have HI : Hid (∀ w' F', Old B wr w' → Txt B w' g m F' → B ≤ w'.heap.size → Tab w' → (F' ++ X).length ≤ 70368744177664 → Calls Tryz.prog 100 #[.pointer (some ⟨g, 0, none⟩), .agg s.cells.toArray, .string bl] w' fun r w'' => r = .returned (.tuple #[]) ∧ Txt B w'' g m (F' ++ X) ∧ Wr B g w' w'') := by
    intro w' F' ho ht hb htab hln
    have := HS.out s (List.mem_of_getElem? hs) bl d w' F' hbl hd32 hmay (hs1.old ho) ht hb htab (by rw [← hX2.out]; exact hln)
    rw [← hX2.out] at this
    exact this
   have HK : Hid (Txt B wr g m G ∧ Wr B g w wr ∧ Tab wr) := ⟨hTr, hWr, HR.out.2.2.1.wr hWr hBg hBw h16⟩
   have hBr : B ≤ wr.heap.size := by have := hWr.size; omega
   clear hX hs1 hold htk hle hms hmay hTr hWr hX2 hG HS
   go_wp2_with (first
    | ((with_reducible show wpList _ _ _ _ _ _); refine wpList_load_mid (P := Tryz.prog) rfl 87 (.tmp 12) rfl g1 (o1 + i * 9) (by first | rfl | (simp; done)) s.cells _ hr1 Tryz.underlying87 rfl (by rw [ST.cells_len]; exact i38) ?_)
    | ((with_reducible show wpList _ _ _ _ _ _); refine wpList_alloc_at rfl 87 rfl _ 9 z38 ?_; intro w2 hA2 hb2 hs2)
    | ((with_reducible show wpList _ _ _ _ _ _); refine wpList_store_at (P := Tryz.prog) rfl 87 (.tmp 7) (.tmp 13) rfl wr.heap.size s.cells rfl rfl 87 _ hA2 (by rw [ST.cells_len]; exact i38) (by rw [ST.cells_len]; rfl) s.one ?_; intro w3 hA3 hb3 hs3; refine Hid.out ?_))
   refine hidU ?_
   have hB3 : Below wr.heap.size wr w3 := hb3.below hb2 (Nat.le_refl _) (by omega)
   have hA3' := hA3
   clear hb3 hb2 hA2 hr1 hs2 hs3 hA3
   go_wp2_with (first
    | ((with_reducible show wpList _ _ _ _ _ _); refine wpList_strs rfl 1 #[(0, .tmp 15)] rfl [bl] rfl (by decide) (by decide) (by kernel_rfl) ?_; intro w4 hA4 hb4 hs4; clear hs4))
   have hw4 : Below wr.heap.size wr w4 := hB3.trans (hb4.mono hB3.size)
   refine (put_any B g m _ [bl] G _ hm (HK.out.1.below hw4) hA4 (by simp only [cat, List.map_cons, List.map_nil, List.flatten_cons, List.flatten_nil, List.append_nil, List.length_append]; omega) (by simp)).mono ?_
   rintro r w5 ⟨rfl, hT5, hW5⟩
   have hT5' : Txt B w5 g m (G ++ bl.data.toList) := by simpa [cat] using hT5
   have hA5 := hW5.at (hA3'.below hb4) (by omega) (by decide)
   have hw5 : Wr B g wr w5 := (Wr.of_below hw4).trans hW5
   have hI := HI.out w5 _ (Old.of_wr hw5 hBg hBr) hT5' (by have := hw5.size; omega) (HK.out.2.2.wr hw5 hBg hBr h16) (by simp only [List.length_append]; omega)
   clear hT5 hT5' hW5 hA4 hb4 hw4 hA3' hB3 HI
   go_wp2_with (first
    | ((with_reducible show wpList _ _ _ _ _ _); refine wpList_load_at (P := Tryz.prog) rfl 87 (.tmp 7) rfl wr.heap.size rfl 87 s.cells hA5 _ Tryz.underlying87 rfl (by rw [ST.cells_len]; exact i38) ?_))
   refine hI.mono ?_
   rintro r w6 ⟨rfl, hT6, hW6⟩
   have hw6 := hw5.trans hW6
   clear hI hA5 hw5 hW6
   go_wp2_with (first
    | ((with_reducible show wpList _ _ _ _ _ _); refine wpList_strs rfl 1 #[(0, .const (.string ⟨#[10]⟩))] rfl [⟨#[10]⟩] rfl (by decide) (by decide) (by kernel_rfl) ?_; intro w7 hA7 hb7 hs7; clear hs7))
   refine (put_any B g m _ [⟨#[10]⟩] _ _ hm (hT6.below hb7) hA7 (by simp only [cat, List.map_cons, List.map_nil, List.flatten_cons, List.flatten_nil, List.append_nil, List.length_append, List.length_singleton]; omega) (by simp)).mono ?_
   rintro r w8 ⟨rfl, hT8, hW8⟩
   have HF : Hid (Txt B w8 g m (F ++ blT bl.data.toList ((ss.take (i + 1)).map ST.st)) ∧ Wr B g w w8) := by
    refine ⟨?_, HK.out.2.1.trans (hw6.trans ((Wr.of_below hb7).trans hW8))⟩
    rw [HG.out]
    have e : G ++ bl.data.toList ++ X ++ cat [⟨#[10]⟩] = G ++ (bl.data.toList ++ (X ++ [10])) := by simp [cat]
    rw [← e]
    exact hT8
   clear hT8 hW8 hA7 hb7 hw6 hT6 HK HG
   go_wp2
   go_roundw
   case rel => exact ⟨i + 1, by go_num, by omega, HF⟩
   case measure => simp [intOf]; omega
  ·have hin : i = n := by omega
   have HY : Hid (Txt B wr g m (F ++ blT bl.data.toList (ss.map ST.st)) ∧ Wr B g w wr) := by
    have := hX.out
    rw [hin, hn.out, List.take_length] at this
    exact this
   clear hX hin
   go_wp2
   go_end0
   exact ⟨rfl, HY.out⟩

end Go.Proofs.YtcmahiphfpgadaaGreatDoor
