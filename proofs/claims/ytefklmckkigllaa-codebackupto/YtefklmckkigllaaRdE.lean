/- The reader: the other lists, a node. -/
import Derived.Test.YtefklmckkigllaaRdD
namespace Go.Proofs.Ytefklmckkigllaa
open Go.RowKit
set_option linter.unusedVariables false

/-- A row lies in a block from A on. -/
def RowU {α : Type} (A : Nat) (a : Option Addr) (ks : List α) : Prop := ks = [] ∨ ∃ g o, a = some ⟨g, o, none⟩ ∧ A ≤ g
theorem RowU.mono {α : Type} {A A' : Nat} {a : Option Addr} {ks : List α} (h : RowU A a ks) (hA : A' ≤ A) : RowU A' a ks := by
  rcases h with h | ⟨g, o, ha, hg⟩
  · exact .inl h
  · exact .inr ⟨g, o, ha, Nat.le_trans hA hg⟩
theorem RowG.keepU {α : Type} {cells : α → List Value} {n : Nat} {P Q : α → Prop} {A B B' : Nat} {w w' : World} {a : Option Addr} {c : Nat} {ks : List α} (h : RowG cells n P B w a c ks) (hu : RowU A a ks) (hB : B ≤ B') (hk : ∀ k, A ≤ k → k < B → w'.heap[k]? = w.heap[k]?) (hP : ∀ k ∈ ks, P k → Q k) : RowG cells n Q B' w' a c ks := by
  obtain ⟨h1, h2, h | ⟨g, o, ha, hg, hr⟩⟩ := h
  · exact ⟨h1, h2, .inl h⟩
  · rcases hu with hu | ⟨g', o', ha', hg'⟩
    · exact ⟨h1, h2, .inl hu⟩
    · rw [ha] at ha'
      cases ha'
      refine ⟨h1, h2, .inr ⟨g, o, ha, by omega, fun i v hv => ⟨fun j x hj => ?_, hP v (List.mem_of_getElem? hv) (hr i v hv).2⟩⟩⟩
      rw [World.cell?_of_block (w := w) (hk g hg' hg)]
      exact (hr i v hv).1 j x hj
def NT.Up (A : Nat) (x : NT) : Prop := RowU A x.a x.nd.code
def BT.Up (A : Nat) (x : BT) : Prop := RowU A x.a1 x.locals ∧ RowU A x.a2 x.nodes ∧ ∀ n ∈ x.nodes, n.Up A
def CT.Up (A : Nat) (x : CT) : Prop := RowU A x.a1 x.shared ∧ RowU A x.a2 x.bodies ∧ ∀ n ∈ x.bodies, n.Up A
theorem NT.Up.mono {A A' : Nat} {x : NT} (h : x.Up A) (hA : A' ≤ A) : x.Up A' := RowU.mono h hA
theorem BT.Up.mono {A A' : Nat} {x : BT} (h : x.Up A) (hA : A' ≤ A) : x.Up A' := ⟨h.1.mono hA, h.2.1.mono hA, fun n hn => (h.2.2 n hn).mono hA⟩
theorem CT.Up.mono {A A' : Nat} {x : CT} (h : x.Up A) (hA : A' ≤ A) : x.Up A' := ⟨h.1.mono hA, h.2.1.mono hA, fun n hn => (h.2.2 n hn).mono hA⟩
theorem NT.In.keepU {A B B' : Nat} {w w' : World} {x : NT} (h : x.In B w) (hu : x.Up A) (hB : B ≤ B') (hk : ∀ k, A ≤ k → k < B → w'.heap[k]? = w.heap[k]?) : x.In B' w' := ⟨RowG.keepU h.1 hu hB hk fun _ _ h => h, h.2⟩
theorem BT.In.keepU {A B B' : Nat} {w w' : World} {x : BT} (h : x.In B w) (hu : x.Up A) (hB : B ≤ B') (hk : ∀ k, A ≤ k → k < B → w'.heap[k]? = w.heap[k]?) : x.In B' w' :=
  ⟨RowG.keepU h.1 hu.1 hB hk fun _ _ h => h, h.2.1, RowG.keepU h.2.2 hu.2.1 hB hk fun n hn h => h.keepU (hu.2.2 n hn) hB hk⟩
theorem CT.In.keepU {A B B' : Nat} {w w' : World} {x : CT} (h : x.In B w) (hu : x.Up A) (hB : B ≤ B') (hk : ∀ k, A ≤ k → k < B → w'.heap[k]? = w.heap[k]?) : x.In B' w' :=
  ⟨RowG.keepU h.1 hu.1 hB hk fun _ _ h => h, h.2.1, RowG.keepU h.2.2 hu.2.1 hB hk fun n hn h => h.keepU (hu.2.2 n hn) hB hk⟩
/-- A node, a body, a code that lies whole in blocks from A on. -/
def ElN (A : Nat) (w : World) (x : NT) : Prop := x.In w.heap.size w ∧ x.Up A
def ElB (A : Nat) (w : World) (x : BT) : Prop := x.In w.heap.size w ∧ x.Up A
def ElC (A : Nat) (w : World) (x : CT) : Prop := x.In w.heap.size w ∧ x.Up A
theorem ElN.mono (A A' : Nat) (w : World) (x : NT) (hA : A' ≤ A) (h : ElN A w x) : ElN A' w x := ⟨h.1, h.2.mono hA⟩
theorem ElB.mono (A A' : Nat) (w : World) (x : BT) (hA : A' ≤ A) (h : ElB A w x) : ElB A' w x := ⟨h.1, h.2.mono hA⟩
theorem ElC.mono (A A' : Nat) (w : World) (x : CT) (hA : A' ≤ A) (h : ElC A w x) : ElC A' w x := ⟨h.1, h.2.mono hA⟩
theorem ElN.keep (A : Nat) (w w' : World) (x : NT) (h : ElN A w x) (hs : w.heap.size ≤ w'.heap.size) (hk : ∀ k, A ≤ k → k < w.heap.size → w'.heap[k]? = w.heap[k]?) : ElN A w' x := ⟨h.1.keepU h.2 hs hk, h.2⟩
theorem ElB.keep (A : Nat) (w w' : World) (x : BT) (h : ElB A w x) (hs : w.heap.size ≤ w'.heap.size) (hk : ∀ k, A ≤ k → k < w.heap.size → w'.heap[k]? = w.heap[k]?) : ElB A w' x := ⟨h.1.keepU h.2 hs hk, h.2⟩
theorem ElC.keep (A : Nat) (w w' : World) (x : CT) (h : ElC A w x) (hs : w.heap.size ≤ w'.heap.size) (hk : ∀ k, A ≤ k → k < w.heap.size → w'.heap[k]? = w.heap[k]?) : ElC A w' x := ⟨h.1.keepU h.2 hs hk, h.2⟩
/-- What was read is a row. -/
theorem rowOfRead {α : Type} {cl : α → List Value} {n most : Nat} {P : α → Prop} {A : Nat} {w' : World} {a : Option Addr} {c : Nat} {ys : List α} (h1 : ys.length ≤ c) (h2 : ys.length ≤ most) (hm : most ≤ 1048576) (h : ys = [] ∨ ∃ r, a = some ⟨r, 0, none⟩ ∧ A ≤ r ∧ r < w'.heap.size ∧ ∀ (i : Nat) (y : α), ys[i]? = some y → w'.rangeAt r (i * n) (cl y)) (hP : ∀ y ∈ ys, P y) : RowG cl n P w'.heap.size w' a c ys ∧ RowU A a ys := by
  rcases h with h | ⟨r, ha, hA, hr, hc⟩
  · exact ⟨⟨by omega, h1, .inl h⟩, .inl h⟩
  · exact ⟨⟨by omega, h1, .inr ⟨r, 0, ha, hr, fun i y hy => ⟨by rw [Nat.zero_add]; exact hc i y hy, hP y (List.mem_of_getElem? hy)⟩⟩⟩, .inr ⟨r, 0, ha, hA⟩⟩

theorem f37 : (Try.prog.info? 37).map (fun i => (i.zero, i.size, i.bytes)) = some (some ((Try.prog.info? 37).bind (·.zero) |>.getD undef), 4, 32) := by kernel_rfl
theorem wpList_bs37 {ops : Array Oper} {rest : List Oper} {o : Oper} {a : Act} {w : World} {Q : Exit → Act → World → Prop} (hgd : o.guard = none) (x : Operand) (ho : o.op = .buildSlice 38 1 #[(0, x)]) (ycs : List Value) (hx : a.eval x = .agg ycs.toArray) (hyn : ycs.length = 4)
    (h : wpList Try.prog ops Q rest (a.put o.dst (.slice (some ⟨w.heap.size, 0, none⟩) 1 1)) (w.alloc (.cells ycs.toArray 37))) : wpList Try.prog ops Q (o :: rest) a w := by
  obtain ⟨ie, hi, hz0, hz1, hz2⟩ := info_parts f37
  refine wpList_buildSlice hgd 38 37 1 #[(0, x)] ho ycs.toArray ie _ Try.underlying38 hi hz0 (by rw [hz1]; decide) (by rw [hz1]; decide) ?_ h
  rw [hz1]
  simp only [List.map_toArray, List.map_cons, List.map_nil, hx]
  match ycs, hyn with
  | [a0, a1, a2, a3], _ => (show _ = _); kernel_rfl
set_option maxRecDepth 100000 in
set_option maxHeartbeats 6400000 in
theorem list79_any {α δ : Type} (cl : α → List Value) (hlen : ∀ y, (cl y).length = 4) (hone1 : ∀ y, ∀ x ∈ cl y, x.oneCell' = true) (dat : α → δ) (one : St → δ × St) (El : Nat → World → α → Prop)
    (hmono : ∀ A A' u y, A' ≤ A → El A u y → El A' u y) (hkeep : ∀ A u u' y, El A u y → u.heap.size ≤ u'.heap.size → (∀ k, A ≤ k → k < u.heap.size → u'.heap[k]? = u.heap[k]?) → El A u' y)
    {B : Nat} (g : Nat) (size most : Nat) (h1 : 1 ≤ size) (h2 : size ≤ 2) (hmost : most ≤ 65536) (st : St) (w : World) (h : Rr B w g st) (hBw : B ≤ w.heap.size)
    (hOne : ∀ u s, Rr B u g s → B ≤ u.heap.size → Calls Try.prog 80 #[.pointer (some ⟨g, 0, none⟩)] u fun e u' => ∃ y, e = .returned (.agg (cl y).toArray) ∧ dat y = (one s).1 ∧ Rr B u' g (one s).2 ∧ El u.heap.size u' y ∧ But g u u') :
    Calls Try.prog 79 #[.pointer (some ⟨g, 0, none⟩), .int .i64 (size : Int), .int .i64 (most : Int), .func (.func 80) #[] #[]] w (ListP cl dat El 4 B g most w (listR one size most st)) := by
  have hlow := h.low
  have Q1 := takeR_any g st size h1 h2 w h
  have hl : (numR size st).1 < 65536 := by
    have := numR_lt size st
    have hp : 256 ^ size ≤ 256 ^ 2 := Nat.pow_le_pow_right (by decide) h2
    omega
  have HO : Hid (∀ u s, Rr B u g s → B ≤ u.heap.size → Calls Try.prog 80 #[.pointer (some ⟨g, 0, none⟩)] u fun e u' => ∃ y, e = .returned (.agg (cl y).toArray) ∧ dat y = (one s).1 ∧ Rr B u' g (one s).2 ∧ El u.heap.size u' y ∧ But g u u') := hOne
  have HM : Hid ((∀ A A' u y, A' ≤ A → El A u y → El A' u y) ∧ (∀ A u u' y, El A u y → u.heap.size ≤ u'.heap.size → (∀ k, A ≤ k → k < u.heap.size → u'.heap[k]? = u.heap[k]?) → El A u' y)) := ⟨hmono, hkeep⟩
  clear h hOne hmono hkeep
  obtain ⟨D, hD⟩ : ∃ D, Hid (D = listR one size most st) := ⟨_, (rfl : listR one size most st = _)⟩
  rw [← hD.out]
  unfold listR at hD
  generalize numR size st = Z at *
  obtain ⟨z, rest, bad⟩ := Z
  dsimp only at Q1 hl
  have HF : Hid (∀ (e : Ending) (w' : World), e = .returned (.slice none 0 0) → Rr B w' g (rest, bad || decide (most < z)) → But g w w' → (bad = true ∨ most < z ∨ z = 0) → ListP cl dat El 4 B g most w D e w') := fun e w' he hR hb hc => by
    have hD' := hD.out
    rw [if_pos hc] at hD'
    exact ⟨none, 0, [], he, by rw [hD']; rfl, by rw [hD']; exact hR, hb, Nat.le_refl _, Nat.zero_le _, .inl rfl, fun y hy => by cases hy⟩
  by_cases hm : most < z
  · have hm' : decide (most < z) = true := decide_eq_true hm
    have HC : Hid (bad = true ∨ most < z ∨ z = 0) := .inr (.inl hm)
    have HD : Hid ((bad || decide (most < z)) = true) := by show _ = _; rw [decide_eq_true hm, Bool.or_true]
    clear hm
    go_enter Try.func79, Try.ntmps79
    go_wp2_with (first
      | (go_at_call 40; refine Q1.mono ?_; rintro _ w1 ⟨rfl, hR1, hb1⟩; refine Hid.out ?_))
    refine hidU ?_
    obtain ⟨a, c, hRA⟩ := hR1
    have hcell := hRA.cell
    dsimp only at hcell
    have HRA : Hid (RrAt B w1 g a c (rest, bad)) := hRA
    obtain ⟨nr, hnr⟩ : ∃ nr, Hid (nr = rest.length) := ⟨_, (rfl : rest.length = _)⟩
    rw [← hnr.out] at hcell
    clear hRA Q1
    go_wp2_with (first
      | ((with_reducible show wpList _ _ _ _ _ _); refine wpList_store_one (P := Try.prog) rfl 4 (.tmp 19) (.const (.bool true)) rfl g 1 (.bool true) rfl rfl 69 _ hcell (show 1 + 1 ≤ 2 by decide) (by kernel_rfl) rfl rfl ?_; intro w3 hA3 hb3 hs3; clear hs3; refine Hid.out ?_))
    refine hidU ?_
    have hA3 : At 69 w3 g [.slice a nr c, .bool true] := hA3
    have hR3 : Rr B w3 g (rest, bad || decide (most < z)) := by
      rw [HD.out]
      have h0 := HRA.out
      rw [hnr.out] at hA3
      refine ⟨a, c, hA3, ?_, h0.cap, h0.low, h0.len⟩
      rcases h0.row with q | ⟨b, off, ha, hbB, hne, hc⟩
      · exact .inl q
      · exact .inr ⟨b, off, ha, hbB, hne, fun j hj => by
          rw [World.cell?_of_block (w := w1) (hb3.block b (lt_of_cell (hc j hj)) hne)]
          exact hc j hj⟩
    have q1 : w3.cell? ⟨g, 1, none⟩ = some (.bool true) := by rw [hA3.cell]; rfl
    have hB3 := hb1.trans hb3
    have HFin' : Hid (∀ e : Ending, e = .returned (.slice none 0 0) → ListP cl dat El 4 B g most w D e w3) := fun e he => HF.out e w3 he hR3 hB3 HC.out
    clear hA3 hb1 hb3 hR3 HRA hcell HF hD HC HD
    go_wp2
    go_ret
    exact HFin'.out _ rfl
  · have hm' : decide (most < z) = false := decide_eq_false hm
    have HD : Hid ((bad || decide (most < z)) = bad) := by show _ = _; rw [decide_eq_false hm, Bool.or_false]
    cases bad with
    | true =>
      have HC : Hid (true = true ∨ most < z ∨ z = 0) := .inl rfl
      have HFin : Hid (∀ (e : Ending) (w' : World), e = .returned (.slice none 0 0) → Rr B w' g (rest, true) → But g w w' → ListP cl dat El 4 B g most w D e w') := fun e w' he hR hb => HF.out e w' he (by rw [HD.out]; exact hR) hb HC.out
      clear HF HC HD
      go_enter Try.func79, Try.ntmps79
      go_wp2_with (first
        | (go_at_call 40; refine Q1.mono ?_; rintro _ w1 ⟨rfl, hR1, hb1⟩; refine Hid.out ?_))
      refine hidU ?_
      have q1 : w1.cell? ⟨g, 1, none⟩ = some (.bool true) := by
        obtain ⟨a, c, hRA⟩ := hR1
        rw [hRA.cell.cell]; rfl
      have HR1 : Hid (Rr B w1 g (rest, true)) := hR1
      clear hR1 Q1
      go_wp2
      go_ret
      exact HFin.out _ _ rfl HR1.out hb1
    | false =>
      by_cases hz : z = 0
      · have HC : Hid (false = true ∨ most < z ∨ z = 0) := .inr (.inr hz)
        have hz' : ((z : Int) == 0) = true := by rw [beq_iff_eq]; omega
        have HFin : Hid (∀ (e : Ending) (w' : World), e = .returned (.slice none 0 0) → Rr B w' g (rest, false) → But g w w' → ListP cl dat El 4 B g most w D e w') := fun e w' he hR hb => HF.out e w' he (by rw [HD.out]; exact hR) hb HC.out
        clear HF HC HD hz
        go_enter Try.func79, Try.ntmps79
        go_wp2_with (first
          | (go_at_call 40; refine Q1.mono ?_; rintro _ w1 ⟨rfl, hR1, hb1⟩; refine Hid.out ?_))
        refine hidU ?_
        have q1 : w1.cell? ⟨g, 1, none⟩ = some (.bool false) := by
          obtain ⟨a, c, hRA⟩ := hR1
          rw [hRA.cell.cell]; rfl
        have HR1 : Hid (Rr B w1 g (rest, false)) := hR1
        clear hR1 Q1
        go_wp2
        go_ret
        exact HFin.out _ _ rfl HR1.out hb1
      · have hz' : ((z : Int) == 0) = false := by rw [beq_eq_false_iff_ne]; omega
        have hN : ¬ (false = true ∨ most < z ∨ z = 0) := by
          rintro (q | q | q)
          · cases q
          · exact hm q
          · exact hz q
        have HDn : Hid (D = timesR one z (rest, false)) := by have hD' := hD.out; rw [if_neg hN] at hD'; exact hD'
        clear hD
        have hzm : z ≤ most := by omega
        clear HF HD hN
        go_enter Try.func79, Try.ntmps79
        go_wp2_with (first
          | (go_at_call 40; refine Q1.mono ?_; rintro _ w1 ⟨rfl, hR1, hb1⟩; refine Hid.out ?_))
        refine hidU ?_
        have q1 : w1.cell? ⟨g, 1, none⟩ = some (.bool false) := by
          obtain ⟨a, c, hRA⟩ := hR1
          rw [hRA.cell.cell]; rfl
        have HR1 : Hid (Rr B w1 g (rest, false)) := hR1
        have l1 := hb1.size
        have lg := hR1.lt
        clear hR1 Q1
        go_wp2_with (first
          | ((with_reducible show wpList _ _ _ _ _ _); refine wpList_make_room (P := Try.prog) rfl (.const (.int .i64 0)) (.tmp 28) 38 rfl 37 _ 4 32 Try.underlying38 f37 z rfl rfl (by omega) (by omega) ?_; intro w2 cs2 hA2 hc2 hb2 hs2; refine Hid.out ?_))
        refine hidU ?_
        have HI0 : Hid (Rr B w2 g (rest, false) ∧ But g w w2 ∧ At 37 w2 w1.heap.size cs2 ∧ cs2.length = z * 4) := ⟨HR1.out.below hb2, hb1.trans (But.of_below hb2), hA2, hc2⟩
        obtain ⟨r, hr⟩ : ∃ r, Hid (r = w1.heap.size) := ⟨_, (rfl : w1.heap.size = _)⟩
        rw [← hr.out] at HI0 hs2 ⊢
        have hrw : w.heap.size ≤ r := by rw [hr.out]; exact l1
        have hrg : g < r := by rw [hr.out]; exact lg
        clear hA2 hc2 hb2 q1 HR1 hb1 hr
        go_wp2_with fail
        go_loopw [10, 31] (fun v j wr => ∃ i : Nat, j = .int .i64 (i : Int) ∧ i ≤ z ∧ v = .slice (some ⟨r, 0, none⟩) i z ∧ Hid (∃ ys : List α, ys.length = i ∧ ys.map dat = (timesR one i (rest, false)).1 ∧ Rr B wr g (timesR one i (rest, false)).2 ∧ But g w wr ∧ (∃ tl, At 37 wr r (ys.flatMap cl ++ tl) ∧ (ys.flatMap cl ++ tl).length = z * 4) ∧ ∀ y ∈ ys, El (r + 1) wr y)) (fun _ j _ => z - (intOf j).toNat)
        case atStart => exact ⟨0, rfl, by omega, rfl, [], rfl, rfl, HI0.out.1, HI0.out.2.1, ⟨cs2, HI0.out.2.2.1, HI0.out.2.2.2⟩, fun y hy => by cases hy⟩
        case round =>
          obtain ⟨i, rfl, hi, rfl, hX⟩ := hrel
          by_cases hc : i < z
          · obtain ⟨ys, hyl, hyd, hRr, hBr, ⟨tl, hAr, htl⟩, hEl⟩ := hX.out
            have hC := HO.out wr _ hRr (Nat.le_trans hBw hBr.size)
            have lr := hAr.lt
            have HY : Hid (ys.length = i ∧ ys.map dat = (timesR one i (rest, false)).1 ∧ But g w wr ∧ At 37 wr r (ys.flatMap cl ++ tl) ∧ (ys.flatMap cl ++ tl).length = z * 4 ∧ ∀ y ∈ ys, El (r + 1) wr y) := ⟨hyl, hyd, hBr, hAr, htl, hEl⟩
            clear hX hyl hyd hRr hBr hAr htl hEl
            go_wp2_with fail
            refine hC.mono ?_
            rintro _ w4 ⟨y, rfl, hyd, hR4, hE4, hb4⟩
            have hy1 := hone1 y
            have hyn := hlen y
            obtain ⟨w5, hw5⟩ : ∃ x, x = w4.alloc (.cells (cl y).toArray 37) := ⟨_, rfl⟩
            have hb5 : Below w4.heap.size w4 w5 := by rw [hw5]; exact (Below.refl _ _).alloc (Nat.le_refl _) _
            have hA5 : At 37 w5 w4.heap.size (cl y) := by rw [hw5]; exact _root_.Go.heap_alloc_new w4 _
            have l4 := hb4.size
            have l5 := hb5.size
            have hAr5 : At 37 w5 r (ys.flatMap cl ++ tl) := (hb4.at HY.out.2.2.2.1 (by omega)).below hb5
            have HX2 : Hid (dat y = (one (timesR one i (rest, false)).2).1 ∧ Rr B w5 g (one (timesR one i (rest, false)).2).2 ∧ El wr.heap.size w5 y ∧ But g wr w5) := ⟨hyd, hR4.below hb5, HM.out.2 _ _ _ _ hE4 hb5.size (fun k _ hk => hb5.block k hk), hb4.trans (But.of_below hb5)⟩
            have hnews : ∀ j u, (cl y)[j]? = some u → w5.cell? ⟨w4.heap.size, j, none⟩ = some u := fun j u hj => by rw [hA5.cell]; exact hj
            have htl := HY.out.2.2.2.2.1
            clear hyd hR4 hE4 hb4 hb5 hA5 hC
            obtain ⟨ycs, hyc⟩ : ∃ x, Hid (x = cl y) := ⟨_, (rfl : cl y = _)⟩
            rw [← hyc.out] at hy1 hyn hw5 hnews ⊢
            go_wp2_with (first
              | ((with_reducible show wpList _ _ _ _ _ _); refine wpList_bs37 rfl (.tmp 36) rfl ycs rfl hyn ?_; rw [← hw5]; clear hw5)
              | ((with_reducible show wpList _ _ _ _ _ _); refine wpList_app_in (.tmp 33) (.tmp 37) 38 37 4 r i z w4.heap.size _ ycs rfl rfl Try.underlying38 i37 rfl rfl hAr5 htl hc hyn hy1 hnews ?_; intro w6 hA6 hb6 hs6; clear hs6; refine Hid.out ?_))
            refine hidU ?_
            have HN : Hid (∃ zs : List α, zs.length = i + 1 ∧ zs.map dat = (timesR one (i + 1) (rest, false)).1 ∧ Rr B w6 g (timesR one (i + 1) (rest, false)).2 ∧ But g w w6 ∧ (∃ tl, At 37 w6 r (zs.flatMap cl ++ tl) ∧ (zs.flatMap cl ++ tl).length = z * 4) ∧ ∀ y ∈ zs, El (r + 1) w6 y) := by
              obtain ⟨hyl, hyd, hBr, _, htl2, hEl⟩ := HY.out
              obtain ⟨hdy, hR5, hE5, hB5⟩ := HX2.out
              have hfl := flat_cells cl 4 hlen ys
              rw [hyl] at hfl
              rw [List.length_append, hfl] at htl2
              have l6 := hb6.size
              have l7 := hB5.size
              refine ⟨ys ++ [y], by rw [List.length_append, hyl]; rfl, ?_, ?_, (hBr.trans hB5).fresh hb6 hrw, ⟨tl.drop 4, ?_, ?_⟩, ?_⟩
              · rw [timesR_snoc, List.map_append, hyd]; show _ ++ [dat y] = _; rw [hdy]
              · rw [timesR_snoc]; exact hR5.but hb6 (by omega)
              · have e1 : (ys.flatMap cl ++ tl).take (i * 4) = ys.flatMap cl := List.take_left' hfl
                have e2 : (ys.flatMap cl ++ tl).drop (i * 4 + 4) = tl.drop 4 := by
                  first | rw [← List.drop_drop, List.drop_left' hfl] | rw [Nat.add_comm, ← List.drop_drop, List.drop_left' hfl]
                rw [e1, e2, hyc.out] at hA6
                rw [List.flatMap_append, List.flatMap_singleton]
                exact hA6
              · rw [List.length_append, flat_cells cl 4 hlen, List.length_append, hyl, List.length_drop, List.length_singleton]
                omega
              · intro x hx
                refine HM.out.2 (r + 1) w5 w6 x ?_ l6 (fun k h1 h2 => hb6.block k h2 (by omega))
                rcases List.mem_append.1 hx with hx | hx
                · exact HM.out.2 (r + 1) wr w5 x (hEl x hx) l7 (fun k h1 h2 => hB5.block k h2 (by omega))
                · rw [List.mem_singleton.1 hx]
                  exact HM.out.1 _ _ _ _ (by omega) hE5
            clear hA6 hb6 HY HX2 hAr5 hnews htl hyn hy1 hyc HI0
            go_wp2
            go_roundw
            case rel => exact ⟨i + 1, by go_num, by omega, rfl, HN.out⟩
            case measure => simp [intOf]; omega
          · have hin : i = z := by omega
            have HFin : Hid (∀ e : Ending, e = .returned (.slice (some ⟨r, 0, none⟩) i z) → ListP cl dat El 4 B g most w D e wr) := by
              obtain ⟨ys, hyl, hyd, hRr, hBr, ⟨tl, hAr, htl⟩, hEl⟩ := hX.out
              intro e he
              rw [hin] at hyl hyd hRr he
              rw [← HDn.out] at hyd hRr
              refine ⟨some ⟨r, 0, none⟩, z, ys, by rw [hyl]; exact he, hyd, hRr, hBr, by omega, by omega, .inr ⟨r, rfl, hrw, hAr.lt, ?_⟩, fun y hy => HM.out.1 _ _ _ _ (by omega) (hEl y hy)⟩
              intro k y hy j v hj
              rw [hAr.cell, List.getElem?_append_left]
              · exact flat_cells_at cl 4 hlen ys k y hy j v hj
              · exact (List.getElem?_eq_some_iff.1 (flat_cells_at cl 4 hlen ys k y hy j v hj)).1
            clear hX HI0 hin
            go_wp2
            go_ret
            exact HFin.out _ rfl

theorem f49 : (Try.prog.info? 49).map (fun i => (i.zero, i.size, i.bytes)) = some (some ((Try.prog.info? 49).bind (·.zero) |>.getD undef), 5, 56) := by kernel_rfl
theorem wpList_bs49 {ops : Array Oper} {rest : List Oper} {o : Oper} {a : Act} {w : World} {Q : Exit → Act → World → Prop} (hgd : o.guard = none) (x : Operand) (ho : o.op = .buildSlice 43 1 #[(0, x)]) (ycs : List Value) (hx : a.eval x = .agg ycs.toArray) (hyn : ycs.length = 5)
    (h : wpList Try.prog ops Q rest (a.put o.dst (.slice (some ⟨w.heap.size, 0, none⟩) 1 1)) (w.alloc (.cells ycs.toArray 49))) : wpList Try.prog ops Q (o :: rest) a w := by
  obtain ⟨ie, hi, hz0, hz1, hz2⟩ := info_parts f49
  refine wpList_buildSlice hgd 43 49 1 #[(0, x)] ho ycs.toArray ie _ Try.underlying43 hi hz0 (by rw [hz1]; decide) (by rw [hz1]; decide) ?_ h
  rw [hz1]
  simp only [List.map_toArray, List.map_cons, List.map_nil, hx]
  match ycs, hyn with
  | [a0, a1, a2, a3, a4], _ => (show _ = _); kernel_rfl
set_option maxRecDepth 100000 in
set_option maxHeartbeats 6400000 in
theorem list64_any {α δ : Type} (cl : α → List Value) (hlen : ∀ y, (cl y).length = 5) (hone1 : ∀ y, ∀ x ∈ cl y, x.oneCell' = true) (dat : α → δ) (one : St → δ × St) (El : Nat → World → α → Prop)
    (hmono : ∀ A A' u y, A' ≤ A → El A u y → El A' u y) (hkeep : ∀ A u u' y, El A u y → u.heap.size ≤ u'.heap.size → (∀ k, A ≤ k → k < u.heap.size → u'.heap[k]? = u.heap[k]?) → El A u' y)
    {B : Nat} (g : Nat) (size most : Nat) (h1 : 1 ≤ size) (h2 : size ≤ 2) (hmost : most ≤ 65536) (st : St) (w : World) (h : Rr B w g st) (hBw : B ≤ w.heap.size)
    (hOne : ∀ u s, Rr B u g s → B ≤ u.heap.size → Calls Try.prog 65 #[.pointer (some ⟨g, 0, none⟩)] u fun e u' => ∃ y, e = .returned (.agg (cl y).toArray) ∧ dat y = (one s).1 ∧ Rr B u' g (one s).2 ∧ El u.heap.size u' y ∧ But g u u') :
    Calls Try.prog 64 #[.pointer (some ⟨g, 0, none⟩), .int .i64 (size : Int), .int .i64 (most : Int), .func (.func 65) #[] #[]] w (ListP cl dat El 5 B g most w (listR one size most st)) := by
  have hlow := h.low
  have Q1 := takeR_any g st size h1 h2 w h
  have hl : (numR size st).1 < 65536 := by
    have := numR_lt size st
    have hp : 256 ^ size ≤ 256 ^ 2 := Nat.pow_le_pow_right (by decide) h2
    omega
  have HO : Hid (∀ u s, Rr B u g s → B ≤ u.heap.size → Calls Try.prog 65 #[.pointer (some ⟨g, 0, none⟩)] u fun e u' => ∃ y, e = .returned (.agg (cl y).toArray) ∧ dat y = (one s).1 ∧ Rr B u' g (one s).2 ∧ El u.heap.size u' y ∧ But g u u') := hOne
  have HM : Hid ((∀ A A' u y, A' ≤ A → El A u y → El A' u y) ∧ (∀ A u u' y, El A u y → u.heap.size ≤ u'.heap.size → (∀ k, A ≤ k → k < u.heap.size → u'.heap[k]? = u.heap[k]?) → El A u' y)) := ⟨hmono, hkeep⟩
  clear h hOne hmono hkeep
  obtain ⟨D, hD⟩ : ∃ D, Hid (D = listR one size most st) := ⟨_, (rfl : listR one size most st = _)⟩
  rw [← hD.out]
  unfold listR at hD
  generalize numR size st = Z at *
  obtain ⟨z, rest, bad⟩ := Z
  dsimp only at Q1 hl
  have HF : Hid (∀ (e : Ending) (w' : World), e = .returned (.slice none 0 0) → Rr B w' g (rest, bad || decide (most < z)) → But g w w' → (bad = true ∨ most < z ∨ z = 0) → ListP cl dat El 5 B g most w D e w') := fun e w' he hR hb hc => by
    have hD' := hD.out
    rw [if_pos hc] at hD'
    exact ⟨none, 0, [], he, by rw [hD']; rfl, by rw [hD']; exact hR, hb, Nat.le_refl _, Nat.zero_le _, .inl rfl, fun y hy => by cases hy⟩
  by_cases hm : most < z
  · have hm' : decide (most < z) = true := decide_eq_true hm
    have HC : Hid (bad = true ∨ most < z ∨ z = 0) := .inr (.inl hm)
    have HD : Hid ((bad || decide (most < z)) = true) := by show _ = _; rw [decide_eq_true hm, Bool.or_true]
    clear hm
    go_enter Try.func64, Try.ntmps64
    go_wp2_with (first
      | (go_at_call 40; refine Q1.mono ?_; rintro _ w1 ⟨rfl, hR1, hb1⟩; refine Hid.out ?_))
    refine hidU ?_
    obtain ⟨a, c, hRA⟩ := hR1
    have hcell := hRA.cell
    dsimp only at hcell
    have HRA : Hid (RrAt B w1 g a c (rest, bad)) := hRA
    obtain ⟨nr, hnr⟩ : ∃ nr, Hid (nr = rest.length) := ⟨_, (rfl : rest.length = _)⟩
    rw [← hnr.out] at hcell
    clear hRA Q1
    go_wp2_with (first
      | ((with_reducible show wpList _ _ _ _ _ _); refine wpList_store_one (P := Try.prog) rfl 4 (.tmp 19) (.const (.bool true)) rfl g 1 (.bool true) rfl rfl 69 _ hcell (show 1 + 1 ≤ 2 by decide) (by kernel_rfl) rfl rfl ?_; intro w3 hA3 hb3 hs3; clear hs3; refine Hid.out ?_))
    refine hidU ?_
    have hA3 : At 69 w3 g [.slice a nr c, .bool true] := hA3
    have hR3 : Rr B w3 g (rest, bad || decide (most < z)) := by
      rw [HD.out]
      have h0 := HRA.out
      rw [hnr.out] at hA3
      refine ⟨a, c, hA3, ?_, h0.cap, h0.low, h0.len⟩
      rcases h0.row with q | ⟨b, off, ha, hbB, hne, hc⟩
      · exact .inl q
      · exact .inr ⟨b, off, ha, hbB, hne, fun j hj => by
          rw [World.cell?_of_block (w := w1) (hb3.block b (lt_of_cell (hc j hj)) hne)]
          exact hc j hj⟩
    have q1 : w3.cell? ⟨g, 1, none⟩ = some (.bool true) := by rw [hA3.cell]; rfl
    have hB3 := hb1.trans hb3
    have HFin' : Hid (∀ e : Ending, e = .returned (.slice none 0 0) → ListP cl dat El 5 B g most w D e w3) := fun e he => HF.out e w3 he hR3 hB3 HC.out
    clear hA3 hb1 hb3 hR3 HRA hcell HF hD HC HD
    go_wp2
    go_ret
    exact HFin'.out _ rfl
  · have hm' : decide (most < z) = false := decide_eq_false hm
    have HD : Hid ((bad || decide (most < z)) = bad) := by show _ = _; rw [decide_eq_false hm, Bool.or_false]
    cases bad with
    | true =>
      have HC : Hid (true = true ∨ most < z ∨ z = 0) := .inl rfl
      have HFin : Hid (∀ (e : Ending) (w' : World), e = .returned (.slice none 0 0) → Rr B w' g (rest, true) → But g w w' → ListP cl dat El 5 B g most w D e w') := fun e w' he hR hb => HF.out e w' he (by rw [HD.out]; exact hR) hb HC.out
      clear HF HC HD
      go_enter Try.func64, Try.ntmps64
      go_wp2_with (first
        | (go_at_call 40; refine Q1.mono ?_; rintro _ w1 ⟨rfl, hR1, hb1⟩; refine Hid.out ?_))
      refine hidU ?_
      have q1 : w1.cell? ⟨g, 1, none⟩ = some (.bool true) := by
        obtain ⟨a, c, hRA⟩ := hR1
        rw [hRA.cell.cell]; rfl
      have HR1 : Hid (Rr B w1 g (rest, true)) := hR1
      clear hR1 Q1
      go_wp2
      go_ret
      exact HFin.out _ _ rfl HR1.out hb1
    | false =>
      by_cases hz : z = 0
      · have HC : Hid (false = true ∨ most < z ∨ z = 0) := .inr (.inr hz)
        have hz' : ((z : Int) == 0) = true := by rw [beq_iff_eq]; omega
        have HFin : Hid (∀ (e : Ending) (w' : World), e = .returned (.slice none 0 0) → Rr B w' g (rest, false) → But g w w' → ListP cl dat El 5 B g most w D e w') := fun e w' he hR hb => HF.out e w' he (by rw [HD.out]; exact hR) hb HC.out
        clear HF HC HD hz
        go_enter Try.func64, Try.ntmps64
        go_wp2_with (first
          | (go_at_call 40; refine Q1.mono ?_; rintro _ w1 ⟨rfl, hR1, hb1⟩; refine Hid.out ?_))
        refine hidU ?_
        have q1 : w1.cell? ⟨g, 1, none⟩ = some (.bool false) := by
          obtain ⟨a, c, hRA⟩ := hR1
          rw [hRA.cell.cell]; rfl
        have HR1 : Hid (Rr B w1 g (rest, false)) := hR1
        clear hR1 Q1
        go_wp2
        go_ret
        exact HFin.out _ _ rfl HR1.out hb1
      · have hz' : ((z : Int) == 0) = false := by rw [beq_eq_false_iff_ne]; omega
        have hN : ¬ (false = true ∨ most < z ∨ z = 0) := by
          rintro (q | q | q)
          · cases q
          · exact hm q
          · exact hz q
        have HDn : Hid (D = timesR one z (rest, false)) := by have hD' := hD.out; rw [if_neg hN] at hD'; exact hD'
        clear hD
        have hzm : z ≤ most := by omega
        clear HF HD hN
        go_enter Try.func64, Try.ntmps64
        go_wp2_with (first
          | (go_at_call 40; refine Q1.mono ?_; rintro _ w1 ⟨rfl, hR1, hb1⟩; refine Hid.out ?_))
        refine hidU ?_
        have q1 : w1.cell? ⟨g, 1, none⟩ = some (.bool false) := by
          obtain ⟨a, c, hRA⟩ := hR1
          rw [hRA.cell.cell]; rfl
        have HR1 : Hid (Rr B w1 g (rest, false)) := hR1
        have l1 := hb1.size
        have lg := hR1.lt
        clear hR1 Q1
        go_wp2_with (first
          | ((with_reducible show wpList _ _ _ _ _ _); refine wpList_make_room (P := Try.prog) rfl (.const (.int .i64 0)) (.tmp 28) 43 rfl 49 _ 5 56 Try.underlying43 f49 z rfl rfl (by omega) (by omega) ?_; intro w2 cs2 hA2 hc2 hb2 hs2; refine Hid.out ?_))
        refine hidU ?_
        have HI0 : Hid (Rr B w2 g (rest, false) ∧ But g w w2 ∧ At 49 w2 w1.heap.size cs2 ∧ cs2.length = z * 5) := ⟨HR1.out.below hb2, hb1.trans (But.of_below hb2), hA2, hc2⟩
        obtain ⟨r, hr⟩ : ∃ r, Hid (r = w1.heap.size) := ⟨_, (rfl : w1.heap.size = _)⟩
        rw [← hr.out] at HI0 hs2 ⊢
        have hrw : w.heap.size ≤ r := by rw [hr.out]; exact l1
        have hrg : g < r := by rw [hr.out]; exact lg
        clear hA2 hc2 hb2 q1 HR1 hb1 hr
        go_wp2_with fail
        go_loopw [10, 31] (fun v j wr => ∃ i : Nat, j = .int .i64 (i : Int) ∧ i ≤ z ∧ v = .slice (some ⟨r, 0, none⟩) i z ∧ Hid (∃ ys : List α, ys.length = i ∧ ys.map dat = (timesR one i (rest, false)).1 ∧ Rr B wr g (timesR one i (rest, false)).2 ∧ But g w wr ∧ (∃ tl, At 49 wr r (ys.flatMap cl ++ tl) ∧ (ys.flatMap cl ++ tl).length = z * 5) ∧ ∀ y ∈ ys, El (r + 1) wr y)) (fun _ j _ => z - (intOf j).toNat)
        case atStart => exact ⟨0, rfl, by omega, rfl, [], rfl, rfl, HI0.out.1, HI0.out.2.1, ⟨cs2, HI0.out.2.2.1, HI0.out.2.2.2⟩, fun y hy => by cases hy⟩
        case round =>
          obtain ⟨i, rfl, hi, rfl, hX⟩ := hrel
          by_cases hc : i < z
          · obtain ⟨ys, hyl, hyd, hRr, hBr, ⟨tl, hAr, htl⟩, hEl⟩ := hX.out
            have hC := HO.out wr _ hRr (Nat.le_trans hBw hBr.size)
            have lr := hAr.lt
            have HY : Hid (ys.length = i ∧ ys.map dat = (timesR one i (rest, false)).1 ∧ But g w wr ∧ At 49 wr r (ys.flatMap cl ++ tl) ∧ (ys.flatMap cl ++ tl).length = z * 5 ∧ ∀ y ∈ ys, El (r + 1) wr y) := ⟨hyl, hyd, hBr, hAr, htl, hEl⟩
            clear hX hyl hyd hRr hBr hAr htl hEl
            go_wp2_with fail
            refine hC.mono ?_
            rintro _ w4 ⟨y, rfl, hyd, hR4, hE4, hb4⟩
            have hy1 := hone1 y
            have hyn := hlen y
            obtain ⟨w5, hw5⟩ : ∃ x, x = w4.alloc (.cells (cl y).toArray 49) := ⟨_, rfl⟩
            have hb5 : Below w4.heap.size w4 w5 := by rw [hw5]; exact (Below.refl _ _).alloc (Nat.le_refl _) _
            have hA5 : At 49 w5 w4.heap.size (cl y) := by rw [hw5]; exact _root_.Go.heap_alloc_new w4 _
            have l4 := hb4.size
            have l5 := hb5.size
            have hAr5 : At 49 w5 r (ys.flatMap cl ++ tl) := (hb4.at HY.out.2.2.2.1 (by omega)).below hb5
            have HX2 : Hid (dat y = (one (timesR one i (rest, false)).2).1 ∧ Rr B w5 g (one (timesR one i (rest, false)).2).2 ∧ El wr.heap.size w5 y ∧ But g wr w5) := ⟨hyd, hR4.below hb5, HM.out.2 _ _ _ _ hE4 hb5.size (fun k _ hk => hb5.block k hk), hb4.trans (But.of_below hb5)⟩
            have hnews : ∀ j u, (cl y)[j]? = some u → w5.cell? ⟨w4.heap.size, j, none⟩ = some u := fun j u hj => by rw [hA5.cell]; exact hj
            have htl := HY.out.2.2.2.2.1
            clear hyd hR4 hE4 hb4 hb5 hA5 hC
            obtain ⟨ycs, hyc⟩ : ∃ x, Hid (x = cl y) := ⟨_, (rfl : cl y = _)⟩
            rw [← hyc.out] at hy1 hyn hw5 hnews ⊢
            go_wp2_with (first
              | ((with_reducible show wpList _ _ _ _ _ _); refine wpList_bs49 rfl (.tmp 36) rfl ycs rfl hyn ?_; rw [← hw5]; clear hw5)
              | ((with_reducible show wpList _ _ _ _ _ _); refine wpList_app_in (.tmp 33) (.tmp 37) 43 49 5 r i z w4.heap.size _ ycs rfl rfl Try.underlying43 i49 rfl rfl hAr5 htl hc hyn hy1 hnews ?_; intro w6 hA6 hb6 hs6; clear hs6; refine Hid.out ?_))
            refine hidU ?_
            have HN : Hid (∃ zs : List α, zs.length = i + 1 ∧ zs.map dat = (timesR one (i + 1) (rest, false)).1 ∧ Rr B w6 g (timesR one (i + 1) (rest, false)).2 ∧ But g w w6 ∧ (∃ tl, At 49 w6 r (zs.flatMap cl ++ tl) ∧ (zs.flatMap cl ++ tl).length = z * 5) ∧ ∀ y ∈ zs, El (r + 1) w6 y) := by
              obtain ⟨hyl, hyd, hBr, _, htl2, hEl⟩ := HY.out
              obtain ⟨hdy, hR5, hE5, hB5⟩ := HX2.out
              have hfl := flat_cells cl 5 hlen ys
              rw [hyl] at hfl
              rw [List.length_append, hfl] at htl2
              have l6 := hb6.size
              have l7 := hB5.size
              refine ⟨ys ++ [y], by rw [List.length_append, hyl]; rfl, ?_, ?_, (hBr.trans hB5).fresh hb6 hrw, ⟨tl.drop 5, ?_, ?_⟩, ?_⟩
              · rw [timesR_snoc, List.map_append, hyd]; show _ ++ [dat y] = _; rw [hdy]
              · rw [timesR_snoc]; exact hR5.but hb6 (by omega)
              · have e1 : (ys.flatMap cl ++ tl).take (i * 5) = ys.flatMap cl := List.take_left' hfl
                have e2 : (ys.flatMap cl ++ tl).drop (i * 5 + 5) = tl.drop 5 := by
                  first | rw [← List.drop_drop, List.drop_left' hfl] | rw [Nat.add_comm, ← List.drop_drop, List.drop_left' hfl]
                rw [e1, e2, hyc.out] at hA6
                rw [List.flatMap_append, List.flatMap_singleton]
                exact hA6
              · rw [List.length_append, flat_cells cl 5 hlen, List.length_append, hyl, List.length_drop, List.length_singleton]
                omega
              · intro x hx
                refine HM.out.2 (r + 1) w5 w6 x ?_ l6 (fun k h1 h2 => hb6.block k h2 (by omega))
                rcases List.mem_append.1 hx with hx | hx
                · exact HM.out.2 (r + 1) wr w5 x (hEl x hx) l7 (fun k h1 h2 => hB5.block k h2 (by omega))
                · rw [List.mem_singleton.1 hx]
                  exact HM.out.1 _ _ _ _ (by omega) hE5
            clear hA6 hb6 HY HX2 hAr5 hnews htl hyn hy1 hyc HI0
            go_wp2
            go_roundw
            case rel => exact ⟨i + 1, by go_num, by omega, rfl, HN.out⟩
            case measure => simp [intOf]; omega
          · have hin : i = z := by omega
            have HFin : Hid (∀ e : Ending, e = .returned (.slice (some ⟨r, 0, none⟩) i z) → ListP cl dat El 5 B g most w D e wr) := by
              obtain ⟨ys, hyl, hyd, hRr, hBr, ⟨tl, hAr, htl⟩, hEl⟩ := hX.out
              intro e he
              rw [hin] at hyl hyd hRr he
              rw [← HDn.out] at hyd hRr
              refine ⟨some ⟨r, 0, none⟩, z, ys, by rw [hyl]; exact he, hyd, hRr, hBr, by omega, by omega, .inr ⟨r, rfl, hrw, hAr.lt, ?_⟩, fun y hy => HM.out.1 _ _ _ _ (by omega) (hEl y hy)⟩
              intro k y hy j v hj
              rw [hAr.cell, List.getElem?_append_left]
              · exact flat_cells_at cl 5 hlen ys k y hy j v hj
              · exact (List.getElem?_eq_some_iff.1 (flat_cells_at cl 5 hlen ys k y hy j v hj)).1
            clear hX HI0 hin
            go_wp2
            go_ret
            exact HFin.out _ rfl

theorem f45 : (Try.prog.info? 45).map (fun i => (i.zero, i.size, i.bytes)) = some (some ((Try.prog.info? 45).bind (·.zero) |>.getD undef), 3, 56) := by kernel_rfl
theorem wpList_bs45 {ops : Array Oper} {rest : List Oper} {o : Oper} {a : Act} {w : World} {Q : Exit → Act → World → Prop} (hgd : o.guard = none) (x : Operand) (ho : o.op = .buildSlice 23 1 #[(0, x)]) (ycs : List Value) (hx : a.eval x = .agg ycs.toArray) (hyn : ycs.length = 3)
    (h : wpList Try.prog ops Q rest (a.put o.dst (.slice (some ⟨w.heap.size, 0, none⟩) 1 1)) (w.alloc (.cells ycs.toArray 45))) : wpList Try.prog ops Q (o :: rest) a w := by
  obtain ⟨ie, hi, hz0, hz1, hz2⟩ := info_parts f45
  refine wpList_buildSlice hgd 23 45 1 #[(0, x)] ho ycs.toArray ie _ Try.underlying23 hi hz0 (by rw [hz1]; decide) (by rw [hz1]; decide) ?_ h
  rw [hz1]
  simp only [List.map_toArray, List.map_cons, List.map_nil, hx]
  match ycs, hyn with
  | [a0, a1, a2], _ => (show _ = _); kernel_rfl
set_option maxRecDepth 100000 in
set_option maxHeartbeats 6400000 in
theorem list41_any {α δ : Type} (cl : α → List Value) (hlen : ∀ y, (cl y).length = 3) (hone1 : ∀ y, ∀ x ∈ cl y, x.oneCell' = true) (dat : α → δ) (one : St → δ × St) (El : Nat → World → α → Prop)
    (hmono : ∀ A A' u y, A' ≤ A → El A u y → El A' u y) (hkeep : ∀ A u u' y, El A u y → u.heap.size ≤ u'.heap.size → (∀ k, A ≤ k → k < u.heap.size → u'.heap[k]? = u.heap[k]?) → El A u' y)
    {B : Nat} (g : Nat) (size most : Nat) (h1 : 1 ≤ size) (h2 : size ≤ 2) (hmost : most ≤ 65536) (st : St) (w : World) (h : Rr B w g st) (hBw : B ≤ w.heap.size)
    (hOne : ∀ u s, Rr B u g s → B ≤ u.heap.size → Calls Try.prog 42 #[.pointer (some ⟨g, 0, none⟩)] u fun e u' => ∃ y, e = .returned (.agg (cl y).toArray) ∧ dat y = (one s).1 ∧ Rr B u' g (one s).2 ∧ El u.heap.size u' y ∧ But g u u') :
    Calls Try.prog 41 #[.pointer (some ⟨g, 0, none⟩), .int .i64 (size : Int), .int .i64 (most : Int), .func (.func 42) #[] #[]] w (ListP cl dat El 3 B g most w (listR one size most st)) := by
  have hlow := h.low
  have Q1 := takeR_any g st size h1 h2 w h
  have hl : (numR size st).1 < 65536 := by
    have := numR_lt size st
    have hp : 256 ^ size ≤ 256 ^ 2 := Nat.pow_le_pow_right (by decide) h2
    omega
  have HO : Hid (∀ u s, Rr B u g s → B ≤ u.heap.size → Calls Try.prog 42 #[.pointer (some ⟨g, 0, none⟩)] u fun e u' => ∃ y, e = .returned (.agg (cl y).toArray) ∧ dat y = (one s).1 ∧ Rr B u' g (one s).2 ∧ El u.heap.size u' y ∧ But g u u') := hOne
  have HM : Hid ((∀ A A' u y, A' ≤ A → El A u y → El A' u y) ∧ (∀ A u u' y, El A u y → u.heap.size ≤ u'.heap.size → (∀ k, A ≤ k → k < u.heap.size → u'.heap[k]? = u.heap[k]?) → El A u' y)) := ⟨hmono, hkeep⟩
  clear h hOne hmono hkeep
  obtain ⟨D, hD⟩ : ∃ D, Hid (D = listR one size most st) := ⟨_, (rfl : listR one size most st = _)⟩
  rw [← hD.out]
  unfold listR at hD
  generalize numR size st = Z at *
  obtain ⟨z, rest, bad⟩ := Z
  dsimp only at Q1 hl
  have HF : Hid (∀ (e : Ending) (w' : World), e = .returned (.slice none 0 0) → Rr B w' g (rest, bad || decide (most < z)) → But g w w' → (bad = true ∨ most < z ∨ z = 0) → ListP cl dat El 3 B g most w D e w') := fun e w' he hR hb hc => by
    have hD' := hD.out
    rw [if_pos hc] at hD'
    exact ⟨none, 0, [], he, by rw [hD']; rfl, by rw [hD']; exact hR, hb, Nat.le_refl _, Nat.zero_le _, .inl rfl, fun y hy => by cases hy⟩
  by_cases hm : most < z
  · have hm' : decide (most < z) = true := decide_eq_true hm
    have HC : Hid (bad = true ∨ most < z ∨ z = 0) := .inr (.inl hm)
    have HD : Hid ((bad || decide (most < z)) = true) := by show _ = _; rw [decide_eq_true hm, Bool.or_true]
    clear hm
    go_enter Try.func41, Try.ntmps41
    go_wp2_with (first
      | (go_at_call 40; refine Q1.mono ?_; rintro _ w1 ⟨rfl, hR1, hb1⟩; refine Hid.out ?_))
    refine hidU ?_
    obtain ⟨a, c, hRA⟩ := hR1
    have hcell := hRA.cell
    dsimp only at hcell
    have HRA : Hid (RrAt B w1 g a c (rest, bad)) := hRA
    obtain ⟨nr, hnr⟩ : ∃ nr, Hid (nr = rest.length) := ⟨_, (rfl : rest.length = _)⟩
    rw [← hnr.out] at hcell
    clear hRA Q1
    go_wp2_with (first
      | ((with_reducible show wpList _ _ _ _ _ _); refine wpList_store_one (P := Try.prog) rfl 4 (.tmp 19) (.const (.bool true)) rfl g 1 (.bool true) rfl rfl 69 _ hcell (show 1 + 1 ≤ 2 by decide) (by kernel_rfl) rfl rfl ?_; intro w3 hA3 hb3 hs3; clear hs3; refine Hid.out ?_))
    refine hidU ?_
    have hA3 : At 69 w3 g [.slice a nr c, .bool true] := hA3
    have hR3 : Rr B w3 g (rest, bad || decide (most < z)) := by
      rw [HD.out]
      have h0 := HRA.out
      rw [hnr.out] at hA3
      refine ⟨a, c, hA3, ?_, h0.cap, h0.low, h0.len⟩
      rcases h0.row with q | ⟨b, off, ha, hbB, hne, hc⟩
      · exact .inl q
      · exact .inr ⟨b, off, ha, hbB, hne, fun j hj => by
          rw [World.cell?_of_block (w := w1) (hb3.block b (lt_of_cell (hc j hj)) hne)]
          exact hc j hj⟩
    have q1 : w3.cell? ⟨g, 1, none⟩ = some (.bool true) := by rw [hA3.cell]; rfl
    have hB3 := hb1.trans hb3
    have HFin' : Hid (∀ e : Ending, e = .returned (.slice none 0 0) → ListP cl dat El 3 B g most w D e w3) := fun e he => HF.out e w3 he hR3 hB3 HC.out
    clear hA3 hb1 hb3 hR3 HRA hcell HF hD HC HD
    go_wp2
    go_ret
    exact HFin'.out _ rfl
  · have hm' : decide (most < z) = false := decide_eq_false hm
    have HD : Hid ((bad || decide (most < z)) = bad) := by show _ = _; rw [decide_eq_false hm, Bool.or_false]
    cases bad with
    | true =>
      have HC : Hid (true = true ∨ most < z ∨ z = 0) := .inl rfl
      have HFin : Hid (∀ (e : Ending) (w' : World), e = .returned (.slice none 0 0) → Rr B w' g (rest, true) → But g w w' → ListP cl dat El 3 B g most w D e w') := fun e w' he hR hb => HF.out e w' he (by rw [HD.out]; exact hR) hb HC.out
      clear HF HC HD
      go_enter Try.func41, Try.ntmps41
      go_wp2_with (first
        | (go_at_call 40; refine Q1.mono ?_; rintro _ w1 ⟨rfl, hR1, hb1⟩; refine Hid.out ?_))
      refine hidU ?_
      have q1 : w1.cell? ⟨g, 1, none⟩ = some (.bool true) := by
        obtain ⟨a, c, hRA⟩ := hR1
        rw [hRA.cell.cell]; rfl
      have HR1 : Hid (Rr B w1 g (rest, true)) := hR1
      clear hR1 Q1
      go_wp2
      go_ret
      exact HFin.out _ _ rfl HR1.out hb1
    | false =>
      by_cases hz : z = 0
      · have HC : Hid (false = true ∨ most < z ∨ z = 0) := .inr (.inr hz)
        have hz' : ((z : Int) == 0) = true := by rw [beq_iff_eq]; omega
        have HFin : Hid (∀ (e : Ending) (w' : World), e = .returned (.slice none 0 0) → Rr B w' g (rest, false) → But g w w' → ListP cl dat El 3 B g most w D e w') := fun e w' he hR hb => HF.out e w' he (by rw [HD.out]; exact hR) hb HC.out
        clear HF HC HD hz
        go_enter Try.func41, Try.ntmps41
        go_wp2_with (first
          | (go_at_call 40; refine Q1.mono ?_; rintro _ w1 ⟨rfl, hR1, hb1⟩; refine Hid.out ?_))
        refine hidU ?_
        have q1 : w1.cell? ⟨g, 1, none⟩ = some (.bool false) := by
          obtain ⟨a, c, hRA⟩ := hR1
          rw [hRA.cell.cell]; rfl
        have HR1 : Hid (Rr B w1 g (rest, false)) := hR1
        clear hR1 Q1
        go_wp2
        go_ret
        exact HFin.out _ _ rfl HR1.out hb1
      · have hz' : ((z : Int) == 0) = false := by rw [beq_eq_false_iff_ne]; omega
        have hN : ¬ (false = true ∨ most < z ∨ z = 0) := by
          rintro (q | q | q)
          · cases q
          · exact hm q
          · exact hz q
        have HDn : Hid (D = timesR one z (rest, false)) := by have hD' := hD.out; rw [if_neg hN] at hD'; exact hD'
        clear hD
        have hzm : z ≤ most := by omega
        clear HF HD hN
        go_enter Try.func41, Try.ntmps41
        go_wp2_with (first
          | (go_at_call 40; refine Q1.mono ?_; rintro _ w1 ⟨rfl, hR1, hb1⟩; refine Hid.out ?_))
        refine hidU ?_
        have q1 : w1.cell? ⟨g, 1, none⟩ = some (.bool false) := by
          obtain ⟨a, c, hRA⟩ := hR1
          rw [hRA.cell.cell]; rfl
        have HR1 : Hid (Rr B w1 g (rest, false)) := hR1
        have l1 := hb1.size
        have lg := hR1.lt
        clear hR1 Q1
        go_wp2_with (first
          | ((with_reducible show wpList _ _ _ _ _ _); refine wpList_make_room (P := Try.prog) rfl (.const (.int .i64 0)) (.tmp 28) 23 rfl 45 _ 3 56 Try.underlying23 f45 z rfl rfl (by omega) (by omega) ?_; intro w2 cs2 hA2 hc2 hb2 hs2; refine Hid.out ?_))
        refine hidU ?_
        have HI0 : Hid (Rr B w2 g (rest, false) ∧ But g w w2 ∧ At 45 w2 w1.heap.size cs2 ∧ cs2.length = z * 3) := ⟨HR1.out.below hb2, hb1.trans (But.of_below hb2), hA2, hc2⟩
        obtain ⟨r, hr⟩ : ∃ r, Hid (r = w1.heap.size) := ⟨_, (rfl : w1.heap.size = _)⟩
        rw [← hr.out] at HI0 hs2 ⊢
        have hrw : w.heap.size ≤ r := by rw [hr.out]; exact l1
        have hrg : g < r := by rw [hr.out]; exact lg
        clear hA2 hc2 hb2 q1 HR1 hb1 hr
        go_wp2_with fail
        go_loopw [10, 31] (fun v j wr => ∃ i : Nat, j = .int .i64 (i : Int) ∧ i ≤ z ∧ v = .slice (some ⟨r, 0, none⟩) i z ∧ Hid (∃ ys : List α, ys.length = i ∧ ys.map dat = (timesR one i (rest, false)).1 ∧ Rr B wr g (timesR one i (rest, false)).2 ∧ But g w wr ∧ (∃ tl, At 45 wr r (ys.flatMap cl ++ tl) ∧ (ys.flatMap cl ++ tl).length = z * 3) ∧ ∀ y ∈ ys, El (r + 1) wr y)) (fun _ j _ => z - (intOf j).toNat)
        case atStart => exact ⟨0, rfl, by omega, rfl, [], rfl, rfl, HI0.out.1, HI0.out.2.1, ⟨cs2, HI0.out.2.2.1, HI0.out.2.2.2⟩, fun y hy => by cases hy⟩
        case round =>
          obtain ⟨i, rfl, hi, rfl, hX⟩ := hrel
          by_cases hc : i < z
          · obtain ⟨ys, hyl, hyd, hRr, hBr, ⟨tl, hAr, htl⟩, hEl⟩ := hX.out
            have hC := HO.out wr _ hRr (Nat.le_trans hBw hBr.size)
            have lr := hAr.lt
            have HY : Hid (ys.length = i ∧ ys.map dat = (timesR one i (rest, false)).1 ∧ But g w wr ∧ At 45 wr r (ys.flatMap cl ++ tl) ∧ (ys.flatMap cl ++ tl).length = z * 3 ∧ ∀ y ∈ ys, El (r + 1) wr y) := ⟨hyl, hyd, hBr, hAr, htl, hEl⟩
            clear hX hyl hyd hRr hBr hAr htl hEl
            go_wp2_with fail
            refine hC.mono ?_
            rintro _ w4 ⟨y, rfl, hyd, hR4, hE4, hb4⟩
            have hy1 := hone1 y
            have hyn := hlen y
            obtain ⟨w5, hw5⟩ : ∃ x, x = w4.alloc (.cells (cl y).toArray 45) := ⟨_, rfl⟩
            have hb5 : Below w4.heap.size w4 w5 := by rw [hw5]; exact (Below.refl _ _).alloc (Nat.le_refl _) _
            have hA5 : At 45 w5 w4.heap.size (cl y) := by rw [hw5]; exact _root_.Go.heap_alloc_new w4 _
            have l4 := hb4.size
            have l5 := hb5.size
            have hAr5 : At 45 w5 r (ys.flatMap cl ++ tl) := (hb4.at HY.out.2.2.2.1 (by omega)).below hb5
            have HX2 : Hid (dat y = (one (timesR one i (rest, false)).2).1 ∧ Rr B w5 g (one (timesR one i (rest, false)).2).2 ∧ El wr.heap.size w5 y ∧ But g wr w5) := ⟨hyd, hR4.below hb5, HM.out.2 _ _ _ _ hE4 hb5.size (fun k _ hk => hb5.block k hk), hb4.trans (But.of_below hb5)⟩
            have hnews : ∀ j u, (cl y)[j]? = some u → w5.cell? ⟨w4.heap.size, j, none⟩ = some u := fun j u hj => by rw [hA5.cell]; exact hj
            have htl := HY.out.2.2.2.2.1
            clear hyd hR4 hE4 hb4 hb5 hA5 hC
            obtain ⟨ycs, hyc⟩ : ∃ x, Hid (x = cl y) := ⟨_, (rfl : cl y = _)⟩
            rw [← hyc.out] at hy1 hyn hw5 hnews ⊢
            go_wp2_with (first
              | ((with_reducible show wpList _ _ _ _ _ _); refine wpList_bs45 rfl (.tmp 36) rfl ycs rfl hyn ?_; rw [← hw5]; clear hw5)
              | ((with_reducible show wpList _ _ _ _ _ _); refine wpList_app_in (.tmp 33) (.tmp 37) 23 45 3 r i z w4.heap.size _ ycs rfl rfl Try.underlying23 i45 rfl rfl hAr5 htl hc hyn hy1 hnews ?_; intro w6 hA6 hb6 hs6; clear hs6; refine Hid.out ?_))
            refine hidU ?_
            have HN : Hid (∃ zs : List α, zs.length = i + 1 ∧ zs.map dat = (timesR one (i + 1) (rest, false)).1 ∧ Rr B w6 g (timesR one (i + 1) (rest, false)).2 ∧ But g w w6 ∧ (∃ tl, At 45 w6 r (zs.flatMap cl ++ tl) ∧ (zs.flatMap cl ++ tl).length = z * 3) ∧ ∀ y ∈ zs, El (r + 1) w6 y) := by
              obtain ⟨hyl, hyd, hBr, _, htl2, hEl⟩ := HY.out
              obtain ⟨hdy, hR5, hE5, hB5⟩ := HX2.out
              have hfl := flat_cells cl 3 hlen ys
              rw [hyl] at hfl
              rw [List.length_append, hfl] at htl2
              have l6 := hb6.size
              have l7 := hB5.size
              refine ⟨ys ++ [y], by rw [List.length_append, hyl]; rfl, ?_, ?_, (hBr.trans hB5).fresh hb6 hrw, ⟨tl.drop 3, ?_, ?_⟩, ?_⟩
              · rw [timesR_snoc, List.map_append, hyd]; show _ ++ [dat y] = _; rw [hdy]
              · rw [timesR_snoc]; exact hR5.but hb6 (by omega)
              · have e1 : (ys.flatMap cl ++ tl).take (i * 3) = ys.flatMap cl := List.take_left' hfl
                have e2 : (ys.flatMap cl ++ tl).drop (i * 3 + 3) = tl.drop 3 := by
                  first | rw [← List.drop_drop, List.drop_left' hfl] | rw [Nat.add_comm, ← List.drop_drop, List.drop_left' hfl]
                rw [e1, e2, hyc.out] at hA6
                rw [List.flatMap_append, List.flatMap_singleton]
                exact hA6
              · rw [List.length_append, flat_cells cl 3 hlen, List.length_append, hyl, List.length_drop, List.length_singleton]
                omega
              · intro x hx
                refine HM.out.2 (r + 1) w5 w6 x ?_ l6 (fun k h1 h2 => hb6.block k h2 (by omega))
                rcases List.mem_append.1 hx with hx | hx
                · exact HM.out.2 (r + 1) wr w5 x (hEl x hx) l7 (fun k h1 h2 => hB5.block k h2 (by omega))
                · rw [List.mem_singleton.1 hx]
                  exact HM.out.1 _ _ _ _ (by omega) hE5
            clear hA6 hb6 HY HX2 hAr5 hnews htl hyn hy1 hyc HI0
            go_wp2
            go_roundw
            case rel => exact ⟨i + 1, by go_num, by omega, rfl, HN.out⟩
            case measure => simp [intOf]; omega
          · have hin : i = z := by omega
            have HFin : Hid (∀ e : Ending, e = .returned (.slice (some ⟨r, 0, none⟩) i z) → ListP cl dat El 3 B g most w D e wr) := by
              obtain ⟨ys, hyl, hyd, hRr, hBr, ⟨tl, hAr, htl⟩, hEl⟩ := hX.out
              intro e he
              rw [hin] at hyl hyd hRr he
              rw [← HDn.out] at hyd hRr
              refine ⟨some ⟨r, 0, none⟩, z, ys, by rw [hyl]; exact he, hyd, hRr, hBr, by omega, by omega, .inr ⟨r, rfl, hrw, hAr.lt, ?_⟩, fun y hy => HM.out.1 _ _ _ _ (by omega) (hEl y hy)⟩
              intro k y hy j v hj
              rw [hAr.cell, List.getElem?_append_left]
              · exact flat_cells_at cl 3 hlen ys k y hy j v hj
              · exact (List.getElem?_eq_some_iff.1 (flat_cells_at cl 3 hlen ys k y hy j v hj)).1
            clear hX HI0 hin
            go_wp2
            go_ret
            exact HFin.out _ rfl

/-- The values, the instructions. -/
theorem vals_any {B : Nat} (g : Nat) (most : Nat) (hmost : most ≤ 65536) (st : St) (w : World) (h : Rr B w g st) (hBw : B ≤ w.heap.size) :
    Calls Try.prog 38 #[.pointer (some ⟨g, 0, none⟩), .int .i64 1, .int .i64 (most : Int), .func (.func 39) #[] #[]] w (ListP Vl.cells id (fun _ _ y => y.Ok) 2 B g most w (listR valR 1 most st)) :=
  list38_any Vl.cells (fun _ => rfl) Vl.one id valR (fun _ _ y => y.Ok) (fun _ _ _ _ _ h => h) (fun _ _ _ _ h _ _ => h) g 1 most (Nat.le_refl _) (by decide) hmost st w h hBw
    fun u s hu hB => (valR_any g s u hu hB).mono fun e u' q => ⟨_, q.1, rfl, q.2.1, valR_ok s, q.2.2⟩
theorem instrs_any {B : Nat} (g : Nat) (st : St) (w : World) (h : Rr B w g st) (hBw : B ≤ w.heap.size) :
    Calls Try.prog 79 #[.pointer (some ⟨g, 0, none⟩), .int .i64 2, .int .i64 8192, .func (.func 80) #[] #[]] w (ListP Ir.cells id (fun _ _ y => y.Ok) 4 B g 8192 w (listR insR 2 8192 st)) :=
  list79_any Ir.cells (fun _ => rfl) Ir.one id insR (fun _ _ y => y.Ok) (fun _ _ _ _ _ h => h) (fun _ _ _ _ h _ _ => h) g 2 8192 (by decide) (by decide) (by decide) st w h hBw
    fun u s hu hB => (insR_any g s u hu hB).mono fun e u' q => ⟨_, q.1, rfl, q.2.1, insR_ok s, q.2.2⟩

end Go.Proofs.Ytefklmckkigllaa
