/- Joined texts of the proof. -/
import Derived.Test.YtcmahiphfpgadaaDoorJ21
import Derived.Test.YtcmahiphfpgadaaDoorJ15

/- Whether threads and programs may be printed. -/
namespace Go.Proofs.YtcmahiphfpgadaaDoor
open Go.RowKit
set_option linter.unusedVariables false

set_option maxRecDepth 100000 in
set_option maxHeartbeats 1600000 in
theorem mayThread_at (nm : ByteArray) (s1 s2 : Value) (p1 p2 p3 : Bool) (w : World) (h1 : AskB w 21 #[.string nm] p1) (h2 : AskB w 30 #[s1, .func (.func 31) #[] #[]] p2) (h3 : AskB w 48 #[s2, .int .i64 0] p3) :
    Calls Tryd.prog 34 #[.agg [.string nm, s1, s2].toArray] w fun r w' => r = .returned (.bool (p1 && (p2 && p3))) ∧ Below w.heap.size w w' := by
  obtain ⟨R, hR⟩ : ∃ R, Hid (R = (p1 && (p2 && p3))) := ⟨_, (rfl : _ = (p1 && (p2 && p3)))⟩
  rw [← hR.out]
  have H1 : Hid (AskB w 21 #[.string nm] p1) := h1
  have H2 : Hid (AskB w 30 #[s1, .func (.func 31) #[] #[]] p2) := h2
  have H3 : Hid (AskB w 48 #[s2, .int .i64 0] p3) := h3
  clear h1 h2 h3
  go_enter Tryd.func34, Tryd.ntmps34
  go_wp2_with (first
    | ((with_reducible show wpList _ _ _ _ _ _); refine wpList_box_at rfl 42 (.tmp 0) rfl [.string nm, s1, s2] rfl ?_; intro w1 hA1 hb1 hs1; clear hs1; refine Hid.out ?_))
  refine hidU ?_
  have c0 : w1.cell? ⟨w.heap.size, 0, none⟩ = some (.string nm) := by rw [hA1.cell]; rfl
  go_wp2_with fail
  refine (H1.out _ hb1).mono ?_
  rintro r w2 ⟨rfl, hb2⟩
  have hA2 := hA1.below hb2
  have hw2 := hb1.trans (hb2.mono hb1.size)
  clear hA1 hb2 hb1 c0
  have c1 : w2.cell? ⟨w.heap.size, 1, none⟩ = some s1 := by rw [hA2.cell]; rfl
  cases p1 with
  | false =>
    go_wp2_with fail
    go_ret
    exact ⟨by rw [hR.out]; rfl, hw2⟩
  | true =>
    go_wp2_with fail
    refine (H2.out _ hw2).mono ?_
    rintro r w3 ⟨rfl, hb3⟩
    have hA3 := hA2.below hb3
    have hw3 := hw2.trans (hb3.mono hw2.size)
    clear hA2 hb3 hw2 c1
    have c2 : w3.cell? ⟨w.heap.size, 2, none⟩ = some s2 := by rw [hA3.cell]; rfl
    cases p2 with
    | false =>
      go_wp2_with fail
      go_ret
      exact ⟨by rw [hR.out]; rfl, hw3⟩
    | true =>
      go_wp2_with fail
      refine (H3.out _ hw3).mono ?_
      rintro r w4 ⟨rfl, hb4⟩
      have hw4 := hw3.trans (hb4.mono hw3.size)
      clear hA3 hb4 hw3 c2
      go_wp2_with fail
      go_ret
      exact ⟨by rw [hR.out]; rfl, hw4⟩

theorem mayThread_any (v : TT) (B : Nat) (w : World) (h : v.In B w) (hBw : B ≤ w.heap.size) (hT : Tab w) (h16 : gB ≤ w.heap.size) :
    Calls Tryd.prog 34 #[.agg v.cells.toArray] w fun r w' => r = .returned (.bool (mayT v.th)) ∧ Below w.heap.size w w' := by
  have hsz : ∀ w', Below w.heap.size w w' → B ≤ w'.heap.size ∧ gB ≤ w'.heap.size ∧ Tab w' ∧ Old B w w' := fun w' h => ⟨by have := h.size; omega, by have := h.size; omega, hT.below h h16, Old.of_below h hBw⟩
  exact mayThread_at v.nm (.slice v.a1 v.locals.length v.c1) (.slice v.a2 v.body.length v.c2) (isNm v.nm.data.toList) ((v.locals.map VT.vr).all mayV) (mayB 0 (v.body.map ST.st)) w
    (fun w' h => (name_any v.nm w').mono (by rintro r w2 ⟨rfl, rfl⟩; exact ⟨rfl, Below.refl _ _⟩))
    (fun w' hb => allV_any B v.locals v.a1 v.c1 w' (h.1.old (hsz w' hb).2.2.2) (hsz w' hb).1 (hsz w' hb).2.2.1 (hsz w' hb).2.1)
    (fun w' hb => mayBlock_any B v.body 0 (by decide) v.a2 v.c2 w' (h.2.old (hsz w' hb).2.2.2) (hsz w' hb).1 (hsz w' hb).2.2.1 (hsz w' hb).2.1)

/-- A program, with where its lists lie. -/
structure PT where
  a1 : Option Addr
  c1 : Nat
  shared : List VT
  a2 : Option Addr
  c2 : Nat
  mutexes : List ByteArray
  a3 : Option Addr
  c3 : Nat
  threads : List TT
def PT.cells (p : PT) : List Value := [.slice p.a1 p.shared.length p.c1, .slice p.a2 p.mutexes.length p.c2, .slice p.a3 p.threads.length p.c3]
def PT.pg (p : PT) : Pg := ⟨p.shared.map VT.vr, p.mutexes.map (fun s => s.data.toList), p.threads.map TT.th⟩
def PT.In (B : Nat) (w : World) (p : PT) : Prop := RowV B w p.a1 p.c1 p.shared ∧ RowN B w p.a2 p.c2 p.mutexes ∧ RowT B w p.a3 p.c3 p.threads

set_option maxRecDepth 100000 in
set_option maxHeartbeats 1600000 in
theorem mayProgram_at (s1 s2 s3 : Value) (p1 p2 p3 : Bool) (w : World) (h1 : AskB w 30 #[s1, .func (.func 31) #[] #[]] p1) (h2 : AskB w 32 #[s2, .func (.func 21) #[] #[]] p2) (h3 : AskB w 33 #[s3, .func (.func 34) #[] #[]] p3) :
    Calls Tryd.prog 14 #[.agg [s1, s2, s3].toArray] w fun r w' => r = .returned (.bool (p1 && (p2 && p3))) ∧ Below w.heap.size w w' := by
  obtain ⟨R, hR⟩ : ∃ R, Hid (R = (p1 && (p2 && p3))) := ⟨_, (rfl : _ = (p1 && (p2 && p3)))⟩
  rw [← hR.out]
  have H1 : Hid (AskB w 30 #[s1, .func (.func 31) #[] #[]] p1) := h1
  have H2 : Hid (AskB w 32 #[s2, .func (.func 21) #[] #[]] p2) := h2
  have H3 : Hid (AskB w 33 #[s3, .func (.func 34) #[] #[]] p3) := h3
  clear h1 h2 h3
  go_enter Tryd.func14, Tryd.ntmps14
  go_wp2_with (first
    | ((with_reducible show wpList _ _ _ _ _ _); refine wpList_box_at rfl 46 (.tmp 0) rfl [s1, s2, s3] rfl ?_; intro w1 hA1 hb1 hs1; clear hs1; refine Hid.out ?_))
  refine hidU ?_
  have c0 : w1.cell? ⟨w.heap.size, 0, none⟩ = some s1 := by rw [hA1.cell]; rfl
  go_wp2_with fail
  refine (H1.out _ hb1).mono ?_
  rintro r w2 ⟨rfl, hb2⟩
  have hA2 := hA1.below hb2
  have hw2 := hb1.trans (hb2.mono hb1.size)
  clear hA1 hb2 hb1 c0
  have c1 : w2.cell? ⟨w.heap.size, 1, none⟩ = some s2 := by rw [hA2.cell]; rfl
  cases p1 with
  | false =>
    go_wp2_with fail
    go_ret
    exact ⟨by rw [hR.out]; rfl, hw2⟩
  | true =>
    go_wp2_with fail
    refine (H2.out _ hw2).mono ?_
    rintro r w3 ⟨rfl, hb3⟩
    have hA3 := hA2.below hb3
    have hw3 := hw2.trans (hb3.mono hw2.size)
    clear hA2 hb3 hw2 c1
    have c2 : w3.cell? ⟨w.heap.size, 2, none⟩ = some s3 := by rw [hA3.cell]; rfl
    cases p2 with
    | false =>
      go_wp2_with fail
      go_ret
      exact ⟨by rw [hR.out]; rfl, hw3⟩
    | true =>
      go_wp2_with fail
      refine (H3.out _ hw3).mono ?_
      rintro r w4 ⟨rfl, hb4⟩
      have hw4 := hw3.trans (hb4.mono hw3.size)
      clear hA3 hb4 hw3 c2
      go_wp2_with fail
      go_ret
      exact ⟨by rw [hR.out]; rfl, hw4⟩

theorem mayProgram_any (p : PT) (B : Nat) (w : World) (h : p.In B w) (hBw : B ≤ w.heap.size) (hT : Tab w) (h16 : gB ≤ w.heap.size) :
    Calls Tryd.prog 14 #[.agg p.cells.toArray] w fun r w' => r = .returned (.bool (mayP p.pg)) ∧ Below w.heap.size w w' := by
  have hsz : ∀ w', Below w.heap.size w w' → B ≤ w'.heap.size ∧ gB ≤ w'.heap.size ∧ Tab w' ∧ Old B w w' := fun w' h => ⟨by have := h.size; omega, by have := h.size; omega, hT.below h h16, Old.of_below h hBw⟩
  exact mayProgram_at (.slice p.a1 p.shared.length p.c1) (.slice p.a2 p.mutexes.length p.c2) (.slice p.a3 p.threads.length p.c3) ((p.shared.map VT.vr).all mayV) ((p.mutexes.map (fun s => s.data.toList)).all isNm) ((p.threads.map TT.th).all mayT) w
    (fun w' hb => allV_any B p.shared p.a1 p.c1 w' (h.1.old (hsz w' hb).2.2.2) (hsz w' hb).1 (hsz w' hb).2.2.1 (hsz w' hb).2.1)
    (fun w' hb => allN_any B p.mutexes p.a2 p.c2 w' (h.2.1.old (hsz w' hb).2.2.2) (hsz w' hb).1 (hsz w' hb).2.2.1 (hsz w' hb).2.1)
    (fun w' hb => allT_of B p.threads p.a3 p.c3 w' (h.2.2.old (hsz w' hb).2.2.2) (hsz w' hb).1 (hsz w' hb).2.2.1 (hsz w' hb).2.1 (fun s _ w hs hB hT h16 => mayThread_any s B w hs hB hT h16))

end Go.Proofs.YtcmahiphfpgadaaDoor

/- An expression's text is written. -/
namespace Go.Proofs.YtcmahiphfpgadaaDoor
open Go.RowKit
set_option linter.unusedVariables false

section
variable {ops : Array Oper} {rest : List Oper} {o : Oper} {a : Act} {w : World} {Q : Exit → Act → World → Prop}
/-- Texts are laid as a row. -/
theorem wpList_strs (hgd : o.guard = none) (n : Nat) (parts : Array (Nat × Operand)) (ho : o.op = .buildSlice 44 n parts) (ss : List ByteArray) (hn : n = ss.length) (h0 : 0 < n) (h1 : n ≤ 1000)
    (hf : Instr.fill (fun i => some (i * 1, 1)) ((Array.range (n * 1)).map ((Value.string ⟨#[]⟩).cells[· % (Value.string ⟨#[]⟩).cells.size]!)) (parts.map fun (i, x) => (i, a.eval x)).toList = some (ss.map Value.string).toArray)
    (h : ∀ w', At 9 w' w.heap.size (ss.map .string) → Below w.heap.size w w' → w'.heap.size = w.heap.size + 1 → wpList Tryd.prog ops Q rest (a.put o.dst (.slice (some ⟨w.heap.size, 0, none⟩) ss.length ss.length)) w') :
    wpList Tryd.prog ops Q (o :: rest) a w := by
  obtain ⟨ie, hi, hz0, hz1, hz2⟩ := info_parts i9s
  refine wpList_buildSlice hgd 44 9 n parts ho (ss.map Value.string).toArray ie (.string ⟨#[]⟩) Tryd.underlying44 hi hz0 (by rw [hz1]; omega) (by rw [hz1]; omega) (by rw [hz1]; exact hf) ?_
  rw [hn]
  exact h _ (_root_.Go.heap_alloc_new w _) ((Below.refl _ w).alloc (Nat.le_refl _) _) (by show (w.heap.push _).size = _; simp)
end

/-- What writing an expression does. -/
def ExprW (B g m : Nat) (e : ET) : Prop := ∀ (w : World) (F : List UInt8), e.In B w → Txt B w g m F → B ≤ w.heap.size → Tab w → (F ++ exT e.ex).length ≤ 70368744177664 →
    Calls Tryd.prog 11 #[.pointer (some ⟨g, 0, none⟩), .agg e.cells.toArray] w fun r w' => r = .returned (.tuple #[]) ∧ Txt B w' g m (F ++ exT e.ex) ∧ Wr B g w w'

theorem Tab.wr {B g : Nat} {w w' : World} (h : Tab w) (hw : Wr B g w w') (hB : B ≤ g) (hBw : B ≤ w.heap.size) (h16 : gB ≤ B) : Tab w' := h.below (hw.below hB hBw) h16

set_option maxRecDepth 100000 in
set_option maxHeartbeats 1600000 in
theorem around_of (B g m : Nat) (e : ET) (hm : m ≤ 9223372036854775807) (h16 : gB ≤ B) (hE : ExprW B g m e) (s1 s2 : ByteArray) (w : World) (F : List UInt8) (hin : e.In B w) (hT : Txt B w g m F) (hBw : B ≤ w.heap.size) (hTab : Tab w)
    (hlen : (F ++ (s1.data.toList ++ (exT e.ex ++ s2.data.toList))).length ≤ 70368744177664) :
    Calls Tryd.prog 23 #[.pointer (some ⟨g, 0, none⟩), .string s1, .agg e.cells.toArray, .string s2] w fun r w' => r = .returned (.tuple #[]) ∧ Txt B w' g m (F ++ (s1.data.toList ++ (exT e.ex ++ s2.data.toList))) ∧ Wr B g w w' := by
  have hBg := hT.base
  have hgw := hT.lt
  obtain ⟨X, hX⟩ : ∃ X, Hid (X = exT e.ex) := ⟨_, (rfl : exT e.ex = _)⟩
  have HE : Hid (∀ (w : World) (F : List UInt8), e.In B w → Txt B w g m F → B ≤ w.heap.size → Tab w → (F ++ X).length ≤ 70368744177664 → Calls Tryd.prog 11 #[.pointer (some ⟨g, 0, none⟩), .agg e.cells.toArray] w fun r w' => r = .returned (.tuple #[]) ∧ Txt B w' g m (F ++ X) ∧ Wr B g w w') := by
    rw [hX.out]; exact hE
  rw [← hX.out] at hlen ⊢
  simp only [List.length_append] at hlen
  have HI : Hid (e.In B w ∧ Tab w ∧ Txt B w g m F) := ⟨hin, hTab, hT⟩
  clear hE hin hTab hT
  go_enter Tryd.func23, Tryd.ntmps23
  go_wp2_with (first
    | ((with_reducible show wpList _ _ _ _ _ _); refine wpList_box_at rfl 29 (.tmp 2) rfl e.cells rfl ?_; intro w1 hA1 hb1 hs1; clear hs1)
    | ((with_reducible show wpList _ _ _ _ _ _); refine wpList_strs rfl 1 #[(0, .tmp 9)] rfl [s1] rfl (by decide) (by decide) (by kernel_rfl) ?_; intro w2 hA2 hb2 hs2; clear hs2))
  have hT2 : Txt B w2 g m F := (HI.out.2.2.below hb1).below hb2
  have hA12 := hA1.below hb2
  have hbw2 : Below w.heap.size w w2 := hb1.trans (hb2.mono hb1.size)
  refine (put_any B g m _ [s1] F _ hm hT2 hA2 (by simp only [cat, List.map_cons, List.map_nil, List.flatten_cons, List.flatten_nil, List.append_nil, List.length_append]; omega) (by simp)).mono ?_
  rintro r w3 ⟨rfl, hT3, hW3⟩
  have hA3 := hW3.at hA12 (by omega) (by decide)
  have e3 : F ++ cat [s1] = F ++ s1.data.toList := by simp [cat]
  rw [e3] at hT3
  have hw3 : Wr B g w w3 := (Wr.of_below hbw2).trans hW3
  have hI3 := HE.out w3 _ (HI.out.1.old (Old.of_wr hw3 hBg hBw)) hT3 (by have := hw3.size; omega) (HI.out.2.1.wr hw3 hBg hBw h16) (by simp only [List.length_append]; omega)
  clear hT2 hA12 hW3 hA1 hA2 hb1 hb2 hbw2 e3 HE
  go_wp2_with (first
    | ((with_reducible show wpList _ _ _ _ _ _); refine wpList_load_at (P := Tryd.prog) rfl 29 (.tmp 6) rfl w.heap.size rfl 29 e.cells hA3 _ Tryd.underlying29 rfl (by rw [ET.cells_len]; exact i29) ?_))
  refine hI3.mono ?_
  rintro r w4 ⟨rfl, hT4, hW4⟩
  have hw4 := hw3.trans hW4
  clear hI3 hA3 hT3 hw3 hW4
  go_wp2_with (first
    | ((with_reducible show wpList _ _ _ _ _ _); refine wpList_strs rfl 1 #[(0, .tmp 16)] rfl [s2] rfl (by decide) (by decide) (by kernel_rfl) ?_; intro w5 hA5 hb5 hs5; clear hs5))
  refine (put_any B g m _ [s2] _ _ hm (hT4.below hb5) hA5 (by simp only [cat, List.map_cons, List.map_nil, List.flatten_cons, List.flatten_nil, List.append_nil, List.length_append]; omega) (by simp)).mono ?_
  rintro r w6 ⟨rfl, hT6, hW6⟩
  have HF : Hid (Txt B w6 g m (F ++ (s1.data.toList ++ (X ++ s2.data.toList))) ∧ Wr B g w w6) := by
    refine ⟨?_, hw4.trans ((Wr.of_below hb5).trans hW6)⟩
    have e : F ++ s1.data.toList ++ X ++ cat [s2] = F ++ (s1.data.toList ++ (X ++ s2.data.toList)) := by simp [cat]
    rw [← e]
    exact hT6
  clear hT6 hW6 hw4 hT4 hA5 hb5
  go_wp2
  go_end0
  exact ⟨rfl, HF.out⟩


theorem mayE_len {h op t b : Nat} {nm : List UInt8} {ks : List Ex} (hm : mayE (h + 1) (.mk op t b nm ks) = true) : (ks.length : Int) = opnds op := by
  rw [mayE, Bool.and_eq_true] at hm
  exact of_decide_eq_true hm.1

theorem mayE_kids {h op t b : Nat} {nm : List UInt8} {ks : List Ex} (hm : mayE (h + 1) (.mk op t b nm ks) = true) (h1 : op ≠ 1) (h2 : op ≠ 2) : ∀ x ∈ ks, mayE h x = true := by
  rw [mayE, if_neg h1, if_neg h2, Bool.and_eq_true, Bool.and_eq_true] at hm
  exact List.all_eq_true.1 hm.2.1

/-- Operands of an expression that lies in memory. -/
theorem ET.kid1 {B : Nat} {w : World} {op t b c : Nat} {nm : ByteArray} {a : Option Addr} {x : ET} (h : (ET.mk op t b nm a c [x]).In B w) : ∃ g o, a = some ⟨g, o, none⟩ ∧ g < B ∧ w.rangeAt g o x.cells ∧ x.In B w ∧ 1 ≤ c := by
  unfold ET.In at h
  obtain ⟨_, _, _, _, hc, h | ⟨g, o, ha, hg, hr⟩⟩ := h
  · cases h
  · unfold ET.Row at hr
    exact ⟨g, o, ha, hg, hr.1, hr.2.1, hc⟩
theorem ET.kid2 {B : Nat} {w : World} {op t b c : Nat} {nm : ByteArray} {a : Option Addr} {x y : ET} (h : (ET.mk op t b nm a c [x, y]).In B w) : ∃ g o, a = some ⟨g, o, none⟩ ∧ g < B ∧ w.rangeAt g o x.cells ∧ w.rangeAt g (o + 5) y.cells ∧ x.In B w ∧ y.In B w ∧ 2 ≤ c := by
  unfold ET.In at h
  obtain ⟨_, _, _, _, hc, h | ⟨g, o, ha, hg, hr⟩⟩ := h
  · cases h
  · unfold ET.Row at hr
    obtain ⟨h1, h2, h3⟩ := hr
    unfold ET.Row at h3
    exact ⟨g, o, ha, hg, h1, h3.1, h2, h3.2.1, hc⟩

set_option maxRecDepth 100000 in
set_option maxHeartbeats 1600000 in
theorem expr_un16 (B g m : Nat) (hm : m ≤ 9223372036854775807) (h16 : gB ≤ B) (nm : ByteArray) (a : Option Addr) (c : Nat) (x : ET) (hE : ExprW B g m x) (t b : Nat) : ExprW B g m (.mk 16 t b nm a c [x]) := by
  intro w F hin hT hBw hTab hlen
  obtain ⟨gk, o, rfl, hgk, hrg, hx, hc⟩ := ET.kid1 hin
  have hBg := hT.base
  have hgw := hT.lt
  have hX : exT (ET.mk 16 t b nm (some ⟨gk, o, none⟩) c [x]).ex = [45] ++ (exT x.ex ++ []) := by
    show exT (.mk 16 t b nm.data.toList [x.ex]) = _
    simp [exT]
  rw [hX] at hlen ⊢
  have hA := fun w hin hT hBw hTab => around_of B g m x hm h16 hE ⟨#[45]⟩ ⟨#[]⟩ w F hin hT hBw hTab hlen
  have HI : Hid (x.In B w ∧ Tab w ∧ Txt B w g m F ∧ w.rangeAt gk o x.cells) := ⟨hx, hTab, hT, hrg⟩
  show Calls Tryd.prog 11 #[.pointer (some ⟨g, 0, none⟩), .agg (ex5 16 t b nm (.slice (some ⟨gk, o, none⟩) 1 c)).toArray] w _
  clear hin hX hE hT hTab hx hrg
  go_enter Tryd.func11, Tryd.ntmps11
  go_wp2_with (first
    | ((with_reducible show wpList _ _ _ _ _ _); refine wpList_box_at rfl 29 (.tmp 1) rfl (ex5 16 t b nm (.slice (some ⟨gk, o, none⟩) 1 c)) rfl ?_; intro w1 hA1 hb1 hs1; clear hs1; refine Hid.out ?_))
  refine hidU ?_
  have c0 : w1.cell? ⟨w.heap.size, 0, none⟩ = some (.int .u8 16) := by rw [hA1.cell]; rfl
  have c4 : w1.cell? ⟨w.heap.size, 4, none⟩ = some (.slice (some ⟨gk, o, none⟩) 1 c) := by rw [hA1.cell]; rfl
  obtain ⟨q1, q2, q3, q4⟩ := HI.out
  have hr1 : w1.rangeAt gk o x.cells := Old.range (Old.of_below hb1 hBw) hgk q4
  have hA' := hA w1 (q1.old (Old.of_below hb1 hBw)) (q3.below hb1) (by have := hb1.size; omega) (q2.below hb1 (by omega))
  clear hA q1 q2 q3 q4 HI hA1
  go_wp2_with (first
    | ((with_reducible show wpList _ _ _ _ _ _); refine wpList_load_mid (P := Tryd.prog) rfl 29 (.tmp 50) rfl gk o (by first | rfl | (simp; done)) x.cells _ hr1 Tryd.underlying29 rfl (by rw [ET.cells_len]; exact i29) ?_))
  refine hA'.mono ?_
  rintro r w2 ⟨rfl, hT2, hW2⟩
  have HF : Hid (Txt B w2 g m (F ++ ([45] ++ (exT x.ex ++ []))) ∧ Wr B g w w2) := ⟨hT2, (Wr.of_below hb1).trans hW2⟩
  clear hA' hT2 hW2 hr1
  go_wp2
  go_end0
  exact ⟨rfl, HF.out⟩

set_option maxRecDepth 100000 in
set_option maxHeartbeats 1600000 in
theorem expr_un17 (B g m : Nat) (hm : m ≤ 9223372036854775807) (h16 : gB ≤ B) (nm : ByteArray) (a : Option Addr) (c : Nat) (x : ET) (hE : ExprW B g m x) (t b : Nat) : ExprW B g m (.mk 17 t b nm a c [x]) := by
  intro w F hin hT hBw hTab hlen
  obtain ⟨gk, o, rfl, hgk, hrg, hx, hc⟩ := ET.kid1 hin
  have hBg := hT.base
  have hgw := hT.lt
  have hX : exT (ET.mk 17 t b nm (some ⟨gk, o, none⟩) c [x]).ex = [33] ++ (exT x.ex ++ []) := by
    show exT (.mk 17 t b nm.data.toList [x.ex]) = _
    simp [exT]
  rw [hX] at hlen ⊢
  have hA := fun w hin hT hBw hTab => around_of B g m x hm h16 hE ⟨#[33]⟩ ⟨#[]⟩ w F hin hT hBw hTab hlen
  have HI : Hid (x.In B w ∧ Tab w ∧ Txt B w g m F ∧ w.rangeAt gk o x.cells) := ⟨hx, hTab, hT, hrg⟩
  show Calls Tryd.prog 11 #[.pointer (some ⟨g, 0, none⟩), .agg (ex5 17 t b nm (.slice (some ⟨gk, o, none⟩) 1 c)).toArray] w _
  clear hin hX hE hT hTab hx hrg
  go_enter Tryd.func11, Tryd.ntmps11
  go_wp2_with (first
    | ((with_reducible show wpList _ _ _ _ _ _); refine wpList_box_at rfl 29 (.tmp 1) rfl (ex5 17 t b nm (.slice (some ⟨gk, o, none⟩) 1 c)) rfl ?_; intro w1 hA1 hb1 hs1; clear hs1; refine Hid.out ?_))
  refine hidU ?_
  have c0 : w1.cell? ⟨w.heap.size, 0, none⟩ = some (.int .u8 17) := by rw [hA1.cell]; rfl
  have c4 : w1.cell? ⟨w.heap.size, 4, none⟩ = some (.slice (some ⟨gk, o, none⟩) 1 c) := by rw [hA1.cell]; rfl
  obtain ⟨q1, q2, q3, q4⟩ := HI.out
  have hr1 : w1.rangeAt gk o x.cells := Old.range (Old.of_below hb1 hBw) hgk q4
  have hA' := hA w1 (q1.old (Old.of_below hb1 hBw)) (q3.below hb1) (by have := hb1.size; omega) (q2.below hb1 (by omega))
  clear hA q1 q2 q3 q4 HI hA1
  go_wp2_with (first
    | ((with_reducible show wpList _ _ _ _ _ _); refine wpList_load_mid (P := Tryd.prog) rfl 29 (.tmp 58) rfl gk o (by first | rfl | (simp; done)) x.cells _ hr1 Tryd.underlying29 rfl (by rw [ET.cells_len]; exact i29) ?_))
  refine hA'.mono ?_
  rintro r w2 ⟨rfl, hT2, hW2⟩
  have HF : Hid (Txt B w2 g m (F ++ ([33] ++ (exT x.ex ++ []))) ∧ Wr B g w w2) := ⟨hT2, (Wr.of_below hb1).trans hW2⟩
  clear hA' hT2 hW2 hr1
  go_wp2
  go_end0
  exact ⟨rfl, HF.out⟩

set_option maxRecDepth 100000 in
set_option maxHeartbeats 1600000 in
theorem expr_un18 (B g m : Nat) (hm : m ≤ 9223372036854775807) (h16 : gB ≤ B) (nm : ByteArray) (a : Option Addr) (c : Nat) (x : ET) (hE : ExprW B g m x) (t b : Nat) : ExprW B g m (.mk 18 t b nm a c [x]) := by
  intro w F hin hT hBw hTab hlen
  obtain ⟨gk, o, rfl, hgk, hrg, hx, hc⟩ := ET.kid1 hin
  have hBg := hT.base
  have hgw := hT.lt
  have hX : exT (ET.mk 18 t b nm (some ⟨gk, o, none⟩) c [x]).ex = [105, 110, 116, 40] ++ (exT x.ex ++ [41]) := by
    show exT (.mk 18 t b nm.data.toList [x.ex]) = _
    simp [exT]
  rw [hX] at hlen ⊢
  have hA := fun w hin hT hBw hTab => around_of B g m x hm h16 hE ⟨#[105, 110, 116, 40]⟩ ⟨#[41]⟩ w F hin hT hBw hTab hlen
  have HI : Hid (x.In B w ∧ Tab w ∧ Txt B w g m F ∧ w.rangeAt gk o x.cells) := ⟨hx, hTab, hT, hrg⟩
  show Calls Tryd.prog 11 #[.pointer (some ⟨g, 0, none⟩), .agg (ex5 18 t b nm (.slice (some ⟨gk, o, none⟩) 1 c)).toArray] w _
  clear hin hX hE hT hTab hx hrg
  go_enter Tryd.func11, Tryd.ntmps11
  go_wp2_with (first
    | ((with_reducible show wpList _ _ _ _ _ _); refine wpList_box_at rfl 29 (.tmp 1) rfl (ex5 18 t b nm (.slice (some ⟨gk, o, none⟩) 1 c)) rfl ?_; intro w1 hA1 hb1 hs1; clear hs1; refine Hid.out ?_))
  refine hidU ?_
  have c0 : w1.cell? ⟨w.heap.size, 0, none⟩ = some (.int .u8 18) := by rw [hA1.cell]; rfl
  have c4 : w1.cell? ⟨w.heap.size, 4, none⟩ = some (.slice (some ⟨gk, o, none⟩) 1 c) := by rw [hA1.cell]; rfl
  obtain ⟨q1, q2, q3, q4⟩ := HI.out
  have hr1 : w1.rangeAt gk o x.cells := Old.range (Old.of_below hb1 hBw) hgk q4
  have hA' := hA w1 (q1.old (Old.of_below hb1 hBw)) (q3.below hb1) (by have := hb1.size; omega) (q2.below hb1 (by omega))
  clear hA q1 q2 q3 q4 HI hA1
  go_wp2_with (first
    | ((with_reducible show wpList _ _ _ _ _ _); refine wpList_load_mid (P := Tryd.prog) rfl 29 (.tmp 66) rfl gk o (by first | rfl | (simp; done)) x.cells _ hr1 Tryd.underlying29 rfl (by rw [ET.cells_len]; exact i29) ?_))
  refine hA'.mono ?_
  rintro r w2 ⟨rfl, hT2, hW2⟩
  have HF : Hid (Txt B w2 g m (F ++ ([105, 110, 116, 40] ++ (exT x.ex ++ [41]))) ∧ Wr B g w w2) := ⟨hT2, (Wr.of_below hb1).trans hW2⟩
  clear hA' hT2 hW2 hr1
  go_wp2
  go_end0
  exact ⟨rfl, HF.out⟩

set_option maxRecDepth 100000 in
set_option maxHeartbeats 1600000 in
theorem expr_un19 (B g m : Nat) (hm : m ≤ 9223372036854775807) (h16 : gB ≤ B) (nm : ByteArray) (a : Option Addr) (c : Nat) (x : ET) (hE : ExprW B g m x) (t b : Nat) : ExprW B g m (.mk 19 t b nm a c [x]) := by
  intro w F hin hT hBw hTab hlen
  obtain ⟨gk, o, rfl, hgk, hrg, hx, hc⟩ := ET.kid1 hin
  have hBg := hT.base
  have hgw := hT.lt
  have hX : exT (ET.mk 19 t b nm (some ⟨gk, o, none⟩) c [x]).ex = [114, 101, 97, 108, 40] ++ (exT x.ex ++ [41]) := by
    show exT (.mk 19 t b nm.data.toList [x.ex]) = _
    simp [exT]
  rw [hX] at hlen ⊢
  have hA := fun w hin hT hBw hTab => around_of B g m x hm h16 hE ⟨#[114, 101, 97, 108, 40]⟩ ⟨#[41]⟩ w F hin hT hBw hTab hlen
  have HI : Hid (x.In B w ∧ Tab w ∧ Txt B w g m F ∧ w.rangeAt gk o x.cells) := ⟨hx, hTab, hT, hrg⟩
  show Calls Tryd.prog 11 #[.pointer (some ⟨g, 0, none⟩), .agg (ex5 19 t b nm (.slice (some ⟨gk, o, none⟩) 1 c)).toArray] w _
  clear hin hX hE hT hTab hx hrg
  go_enter Tryd.func11, Tryd.ntmps11
  go_wp2_with (first
    | ((with_reducible show wpList _ _ _ _ _ _); refine wpList_box_at rfl 29 (.tmp 1) rfl (ex5 19 t b nm (.slice (some ⟨gk, o, none⟩) 1 c)) rfl ?_; intro w1 hA1 hb1 hs1; clear hs1; refine Hid.out ?_))
  refine hidU ?_
  have c0 : w1.cell? ⟨w.heap.size, 0, none⟩ = some (.int .u8 19) := by rw [hA1.cell]; rfl
  have c4 : w1.cell? ⟨w.heap.size, 4, none⟩ = some (.slice (some ⟨gk, o, none⟩) 1 c) := by rw [hA1.cell]; rfl
  obtain ⟨q1, q2, q3, q4⟩ := HI.out
  have hr1 : w1.rangeAt gk o x.cells := Old.range (Old.of_below hb1 hBw) hgk q4
  have hA' := hA w1 (q1.old (Old.of_below hb1 hBw)) (q3.below hb1) (by have := hb1.size; omega) (q2.below hb1 (by omega))
  clear hA q1 q2 q3 q4 HI hA1
  go_wp2_with (first
    | ((with_reducible show wpList _ _ _ _ _ _); refine wpList_load_mid (P := Tryd.prog) rfl 29 (.tmp 74) rfl gk o (by first | rfl | (simp; done)) x.cells _ hr1 Tryd.underlying29 rfl (by rw [ET.cells_len]; exact i29) ?_))
  refine hA'.mono ?_
  rintro r w2 ⟨rfl, hT2, hW2⟩
  have HF : Hid (Txt B w2 g m (F ++ ([114, 101, 97, 108, 40] ++ (exT x.ex ++ [41]))) ∧ Wr B g w w2) := ⟨hT2, (Wr.of_below hb1).trans hW2⟩
  clear hA' hT2 hW2 hr1
  go_wp2
  go_end0
  exact ⟨rfl, HF.out⟩

end Go.Proofs.YtcmahiphfpgadaaDoor
