/- The reader: lists. -/
import Derived.Test.YtefklmckkigllaaRdC
import Derived.Great.BuildSlice
namespace Go.Proofs.Ytefklmckkigllaa
open Go.RowKit
set_option linter.unusedVariables false

/-- So many are read. -/
def timesR {δ : Type} (one : St → δ × St) : Nat → St → List δ × St
  | 0, st => ([], st)
  | k + 1, st => ((one st).1 :: (timesR one k (one st).2).1, (timesR one k (one st).2).2)
theorem timesR_len {δ : Type} (one : St → δ × St) (k : Nat) (st : St) : (timesR one k st).1.length = k := by
  induction k generalizing st with
  | zero => rfl
  | succ k ih => simp [timesR, ih]
theorem timesR_snoc {δ : Type} (one : St → δ × St) (k : Nat) (st : St) : timesR one (k + 1) st = ((timesR one k st).1 ++ [(one (timesR one k st).2).1], (one (timesR one k st).2).2) := by
  induction k generalizing st with
  | zero => rfl
  | succ k ih => rw [timesR, ih]; rfl
/-- How many there are, and these. -/
def listR {δ : Type} (one : St → δ × St) (size most : Nat) (st : St) : List δ × St :=
  if (numR size st).2.2 = true ∨ most < (numR size st).1 ∨ (numR size st).1 = 0 then ([], ((numR size st).2.1, (numR size st).2.2 || decide (most < (numR size st).1)))
  else timesR one (numR size st).1 (numR size st).2

theorem But.below' {g : Nat} {w w' : World} (h : But g w w') (k : Nat) (hk : k < w.heap.size) (hn : k ≠ g) : w'.heap[k]? = w.heap[k]? := h.block k hk hn
/-- Cells are stored into a known block. -/
theorem At.setCells {t : TypeId} {g : Nat} : ∀ (news : List Value) (o : Nat) (w : World) (cs : List Value), At t w g cs → o + news.length ≤ cs.length → At t (w.setCells g o news) g (cs.take o ++ news ++ cs.drop (o + news.length))
  | [], o, w, cs, h, hl => by
    simp only [World.setCells, List.append_nil, List.length_nil, Nat.add_zero, List.take_append_drop]
    exact h
  | v :: r, o, w, cs, h, hl => by
    have hl' : o + (r.length + 1) ≤ cs.length := hl
    have h2 := At.setCells r (o + 1) (w.setCell ⟨g, o, none⟩ v) (cs.set o v) (h.set o v) (by rw [List.length_set]; omega)
    have e : (cs.set o v).take (o + 1) ++ r ++ (cs.set o v).drop (o + 1 + r.length) = cs.take o ++ (v :: r) ++ cs.drop (o + (v :: r).length) := by
      rw [List.drop_set_of_lt (by omega), List.length_cons, show o + (r.length + 1) = o + 1 + r.length by omega]
      have e1 : (cs.set o v).take (o + 1) = cs.take o ++ [v] := by
        rw [List.take_set, List.set_eq_take_append_cons_drop, if_pos (by rw [List.length_take]; omega)]
        rw [List.take_take, Nat.min_eq_left (by omega)]
        congr 2
        apply List.eq_nil_of_length_eq_zero
        rw [List.length_drop, List.length_take]
        omega
      rw [e1]
      simp
    rw [e] at h2
    exact h2
theorem But.setCells {g : Nat} {a : World} : ∀ (news : List Value) (o : Nat) (w : World), But g a w → But g a (w.setCells g o news)
  | [], o, w, h => h
  | v :: r, o, w, h => But.setCells r (o + 1) _ (h.setCell o v)

theorem setCells_hs (r : Nat) : ∀ (news : List Value) (o : Nat) (w : World), (w.setCells r o news).heap.size = w.heap.size
  | [], o, w => rfl
  | v :: q, o, w => by rw [World.setCells, setCells_hs r q]; simp
/-- 'append' where there is room, the block known whole. -/
theorem wpList_app_in {ops : Array Oper} {rest : List Oper} {o : Oper} {a : Act} {Q : Exit → Act → World → Prop} {w : World} (s x : Operand) (t e : TypeId) (size : Nat) (r i cap b : Nat) (cs news : List Value)
    (hgd : o.guard = none) (ho : o.op = .call { callee := .builtin .append, args := #[s, x], argTypes := #[t, t] }) (ht : Try.prog.underlying t = some (.slice e)) (hi : (Try.prog.info? e).map (·.size) = some size)
    (hs : a.eval s = .slice (some ⟨r, 0, none⟩) i cap) (hx : a.eval x = .slice (some ⟨b, 0, none⟩) 1 1) (hA : At e w r cs) (hcs : cs.length = cap * size) (hic : i < cap) (hn : news.length = size) (h1 : ∀ u ∈ news, u.oneCell' = true) (hb : ∀ j u, news[j]? = some u → w.cell? ⟨b, j, none⟩ = some u)
    (h : ∀ w', At e w' r (cs.take (i * size) ++ news ++ cs.drop (i * size + size)) → But r w w' → w'.heap.size = w.heap.size → wpList Try.prog ops Q rest (a.put o.dst (.slice (some ⟨r, 0, none⟩) (i + 1) cap)) w') :
    wpList Try.prog ops Q (o :: rest) a w := by
  obtain ⟨i0, hi0, hz⟩ := Option.map_eq_some_iff.1 hi
  have hm : i * size + size ≤ cap * size := by rw [← Nat.succ_mul]; exact Nat.mul_le_mul_right _ hic
  have hr := run_append_room_cells (P := Try.prog) w t o.type e i0 ht hi0 r 0 i cap ⟨b, 0, none⟩ 1 1 news (by rw [hz, hn, Nat.one_mul]) (fun j u hj => by
      have e : (⟨b, 0, none⟩ : Addr).add j = ⟨b, j, none⟩ := by rw [Addr.add_mid, Nat.zero_add]
      rw [e]; exact hb j u hj) h1 (by omega) (fun j hj => by
      rw [hz, Nat.zero_add, hA.cell, List.getElem?_eq_getElem (by rw [hn] at hj; omega)]; rfl) (fun j hj => hA.frozen _)
  rw [hz, Nat.zero_add] at hr
  refine wpList_plain hgd fun K hK => ?_
  have h2 := At.setCells news (i * size) w cs hA (by omega)
  rw [hn] at h2
  have := hK _ _ (h _ h2 (But.setCells news _ _ (But.refl r w)) (setCells_hs _ _ _ _))
  unfold Oper.wp
  simp [execOp, ho, resolve, invoke, builtin, hs, hx, hr, Result.andThen]
  exact this

section
variable {P : Program} {ops : Array Oper} {rest : List Oper} {o : Oper} {a : Act} {w : World} {Q : Exit → Act → World → Prop}
/-- A row without elements is made, with room. -/
theorem wpList_make_room (hgd : o.guard = none) (l c : Operand) (t : TypeId) (ho : o.op = .makeSlice t l c) (e : TypeId) (z : Value) (size bytes : Nat) (ht : P.underlying t = some (.slice e)) (hinfo : (P.info? e).map (fun i => (i.zero, i.size, i.bytes)) = some (some z, size, bytes))
    (n : Nat) (hl : a.eval l = .int .i64 0) (hc : a.eval c = .int .i64 (n : Int)) (hb : bytes * n ≤ 281474976710656) (h63 : n ≤ 9223372036854775807)
    (h : ∀ w' cs, At e w' w.heap.size cs → cs.length = n * size → Below w.heap.size w w' → w.heap.size < w'.heap.size → wpList P ops Q rest (a.put o.dst (.slice (some ⟨w.heap.size, 0, none⟩) 0 n)) w') :
    wpList P ops Q (o :: rest) a w := by
  obtain ⟨i, hi, hzz⟩ := Option.map_eq_some_iff.1 hinfo
  simp only [Prod.mk.injEq] at hzz
  obtain ⟨hz, hs, hbb⟩ := hzz
  have hb' : (i.bytes : Int) * (n : Int) ≤ 281474976710656 := by
    have h : ((i.bytes * n : Nat) : Int) ≤ 281474976710656 := by rw [hbb]; omega
    rwa [Int.natCast_mul] at h
  have hr := run_make (P := P) w t e i z ht hi hz .i64 .i64 0 n (by omega) (by omega) hb' (by omega)
  refine wpList_plain hgd fun K hK' => ?_
  unfold Oper.wp
  simp [execOp, ho, hl, hc, hr, Result.andThen]
  refine hK' _ _ (h _ (madeCells z.cells (n * i.size)).toList (_root_.Go.heap_alloc_new w _) ?_ ((Below.refl _ w).alloc (Nat.le_refl _) _) (by simp))
  rw [Array.length_toList, size_madeCells, hs]
end

theorem flat_cells {α : Type} (cl : α → List Value) (n : Nat) (hlen : ∀ y, (cl y).length = n) : ∀ ys : List α, (ys.flatMap cl).length = ys.length * n
  | [] => by simp
  | y :: r => by rw [List.flatMap_cons, List.length_append, hlen, flat_cells cl n hlen r, List.length_cons, Nat.add_mul]; omega
theorem flat_cells_at {α : Type} (cl : α → List Value) (n : Nat) (hlen : ∀ y, (cl y).length = n) : ∀ (ys : List α) (i : Nat) (y : α), ys[i]? = some y → ∀ j v, (cl y)[j]? = some v → (ys.flatMap cl)[i * n + j]? = some v
  | [], i, y, h => by simp at h
  | x :: r, 0, y, h => by
    simp at h
    subst h
    intro j v hj
    rw [List.flatMap_cons, Nat.zero_mul, Nat.zero_add, List.getElem?_append_left (List.getElem?_eq_some_iff.1 hj).1]
    exact hj
  | x :: r, i + 1, y, h => by
    intro j v hj
    rw [List.flatMap_cons, List.getElem?_append_right (by rw [hlen, Nat.add_mul]; omega), hlen, show (i + 1) * n + j - n = i * n + j by rw [Nat.add_mul]; omega]
    exact flat_cells_at cl n hlen r i y h j v hj
/-- What a list's reader tells: a row of its own, its elements. -/
def ListP {α δ : Type} (cl : α → List Value) (dat : α → δ) (El : Nat → World → α → Prop) (n B g most : Nat) (w : World) (D : List δ × St) (e : Ending) (w' : World) : Prop :=
  ∃ (a : Option Addr) (c : Nat) (ys : List α), e = .returned (.slice a ys.length c) ∧ ys.map dat = D.1 ∧ Rr B w' g D.2 ∧ But g w w' ∧
      ys.length ≤ c ∧ ys.length ≤ most ∧ (ys = [] ∨ ∃ r, a = some ⟨r, 0, none⟩ ∧ w.heap.size ≤ r ∧ r < w'.heap.size ∧ ∀ (i : Nat) (y : α), ys[i]? = some y → w'.rangeAt r (i * n) (cl y)) ∧ ∀ y ∈ ys, El w.heap.size w' y

theorem f35 : (Try.prog.info? 35).map (fun i => (i.zero, i.size, i.bytes)) = some (some ((Try.prog.info? 35).bind (·.zero) |>.getD undef), 2, 16) := by kernel_rfl
theorem wpList_bs35 {ops : Array Oper} {rest : List Oper} {o : Oper} {a : Act} {w : World} {Q : Exit → Act → World → Prop} (hgd : o.guard = none) (x : Operand) (ho : o.op = .buildSlice 22 1 #[(0, x)]) (ycs : List Value) (hx : a.eval x = .agg ycs.toArray) (hyn : ycs.length = 2)
    (h : wpList Try.prog ops Q rest (a.put o.dst (.slice (some ⟨w.heap.size, 0, none⟩) 1 1)) (w.alloc (.cells ycs.toArray 35))) : wpList Try.prog ops Q (o :: rest) a w := by
  obtain ⟨ie, hi, hz0, hz1, hz2⟩ := info_parts f35
  refine wpList_buildSlice hgd 22 35 1 #[(0, x)] ho ycs.toArray ie _ Try.underlying22 hi hz0 (by rw [hz1]; decide) (by rw [hz1]; decide) ?_ h
  rw [hz1]
  simp only [List.map_toArray, List.map_cons, List.map_nil, hx]
  match ycs, hyn with
  | [a0, a1], _ => (show _ = _); kernel_rfl
set_option maxRecDepth 100000 in
set_option maxHeartbeats 6400000 in
theorem list38_any {α δ : Type} (cl : α → List Value) (hlen : ∀ y, (cl y).length = 2) (hone1 : ∀ y, ∀ x ∈ cl y, x.oneCell' = true) (dat : α → δ) (one : St → δ × St) (El : Nat → World → α → Prop)
    (hmono : ∀ A A' u y, A' ≤ A → El A u y → El A' u y) (hkeep : ∀ A u u' y, El A u y → u.heap.size ≤ u'.heap.size → (∀ k, A ≤ k → k < u.heap.size → u'.heap[k]? = u.heap[k]?) → El A u' y)
    {B : Nat} (g : Nat) (size most : Nat) (h1 : 1 ≤ size) (h2 : size ≤ 2) (hmost : most ≤ 65536) (st : St) (w : World) (h : Rr B w g st) (hBw : B ≤ w.heap.size)
    (hOne : ∀ u s, Rr B u g s → B ≤ u.heap.size → Calls Try.prog 39 #[.pointer (some ⟨g, 0, none⟩)] u fun e u' => ∃ y, e = .returned (.agg (cl y).toArray) ∧ dat y = (one s).1 ∧ Rr B u' g (one s).2 ∧ El u.heap.size u' y ∧ But g u u') :
    Calls Try.prog 38 #[.pointer (some ⟨g, 0, none⟩), .int .i64 (size : Int), .int .i64 (most : Int), .func (.func 39) #[] #[]] w (ListP cl dat El 2 B g most w (listR one size most st)) := by
  have hlow := h.low
  have Q1 := takeR_any g st size h1 h2 w h
  have hl : (numR size st).1 < 65536 := by
    have := numR_lt size st
    have hp : 256 ^ size ≤ 256 ^ 2 := Nat.pow_le_pow_right (by decide) h2
    omega
  have HO : Hid (∀ u s, Rr B u g s → B ≤ u.heap.size → Calls Try.prog 39 #[.pointer (some ⟨g, 0, none⟩)] u fun e u' => ∃ y, e = .returned (.agg (cl y).toArray) ∧ dat y = (one s).1 ∧ Rr B u' g (one s).2 ∧ El u.heap.size u' y ∧ But g u u') := hOne
  have HM : Hid ((∀ A A' u y, A' ≤ A → El A u y → El A' u y) ∧ (∀ A u u' y, El A u y → u.heap.size ≤ u'.heap.size → (∀ k, A ≤ k → k < u.heap.size → u'.heap[k]? = u.heap[k]?) → El A u' y)) := ⟨hmono, hkeep⟩
  clear h hOne hmono hkeep
  obtain ⟨D, hD⟩ : ∃ D, Hid (D = listR one size most st) := ⟨_, (rfl : listR one size most st = _)⟩
  rw [← hD.out]
  unfold listR at hD
  generalize numR size st = Z at *
  obtain ⟨z, rest, bad⟩ := Z
  dsimp only at Q1 hl
  have HF : Hid (∀ (e : Ending) (w' : World), e = .returned (.slice none 0 0) → Rr B w' g (rest, bad || decide (most < z)) → But g w w' → (bad = true ∨ most < z ∨ z = 0) → ListP cl dat El 2 B g most w D e w') := fun e w' he hR hb hc => by
    have hD' := hD.out
    rw [if_pos hc] at hD'
    exact ⟨none, 0, [], he, by rw [hD']; rfl, by rw [hD']; exact hR, hb, Nat.le_refl _, Nat.zero_le _, .inl rfl, fun y hy => by cases hy⟩
  by_cases hm : most < z
  · have hm' : decide (most < z) = true := decide_eq_true hm
    have HC : Hid (bad = true ∨ most < z ∨ z = 0) := .inr (.inl hm)
    have HD : Hid ((bad || decide (most < z)) = true) := by show _ = _; rw [decide_eq_true hm, Bool.or_true]
    clear hm
    go_enter Try.func38, Try.ntmps38
    go_wp2_with (first
      | (go_at_call 40; refine Q1.mono ?_; rintro _ w1 ⟨rfl, hR1, hb1⟩; refine Hid.out ?_))
    refine hidU ?_
    obtain ⟨a, c, hRA⟩ := hR1
    have hcell := hRA.cell
    dsimp only at hcell
    have HRA : Hid (RrAt B w1 g a c (rest, bad)) := hRA
    obtain ⟨nr, hnr⟩ : ∃ nr, Hid (nr = rest.length) := ⟨_, (rfl : rest.length = _)⟩
    rw [← hnr.out] at hcell
    clear hRA Q1
    go_wp2_with (first
      | ((with_reducible show wpList _ _ _ _ _ _); refine wpList_store_one (P := Try.prog) rfl 4 (.tmp 19) (.const (.bool true)) rfl g 1 (.bool true) rfl rfl 69 _ hcell (show 1 + 1 ≤ 2 by decide) (by kernel_rfl) rfl rfl ?_; intro w3 hA3 hb3 hs3; clear hs3; refine Hid.out ?_))
    refine hidU ?_
    have hA3 : At 69 w3 g [.slice a nr c, .bool true] := hA3
    have hR3 : Rr B w3 g (rest, bad || decide (most < z)) := by
      rw [HD.out]
      have h0 := HRA.out
      rw [hnr.out] at hA3
      refine ⟨a, c, hA3, ?_, h0.cap, h0.low, h0.len⟩
      rcases h0.row with q | ⟨b, off, ha, hbB, hne, hc⟩
      · exact .inl q
      · exact .inr ⟨b, off, ha, hbB, hne, fun j hj => by
          rw [World.cell?_of_block (w := w1) (hb3.block b (lt_of_cell (hc j hj)) hne)]
          exact hc j hj⟩
    have q1 : w3.cell? ⟨g, 1, none⟩ = some (.bool true) := by rw [hA3.cell]; rfl
    have hB3 := hb1.trans hb3
    have HFin' : Hid (∀ e : Ending, e = .returned (.slice none 0 0) → ListP cl dat El 2 B g most w D e w3) := fun e he => HF.out e w3 he hR3 hB3 HC.out
    clear hA3 hb1 hb3 hR3 HRA hcell HF hD HC HD
    go_wp2
    go_ret
    exact HFin'.out _ rfl
  · have hm' : decide (most < z) = false := decide_eq_false hm
    have HD : Hid ((bad || decide (most < z)) = bad) := by show _ = _; rw [decide_eq_false hm, Bool.or_false]
    cases bad with
    | true =>
      have HC : Hid (true = true ∨ most < z ∨ z = 0) := .inl rfl
      have HFin : Hid (∀ (e : Ending) (w' : World), e = .returned (.slice none 0 0) → Rr B w' g (rest, true) → But g w w' → ListP cl dat El 2 B g most w D e w') := fun e w' he hR hb => HF.out e w' he (by rw [HD.out]; exact hR) hb HC.out
      clear HF HC HD
      go_enter Try.func38, Try.ntmps38
      go_wp2_with (first
        | (go_at_call 40; refine Q1.mono ?_; rintro _ w1 ⟨rfl, hR1, hb1⟩; refine Hid.out ?_))
      refine hidU ?_
      have q1 : w1.cell? ⟨g, 1, none⟩ = some (.bool true) := by
        obtain ⟨a, c, hRA⟩ := hR1
        rw [hRA.cell.cell]; rfl
      have HR1 : Hid (Rr B w1 g (rest, true)) := hR1
      clear hR1 Q1
      go_wp2
      go_ret
      exact HFin.out _ _ rfl HR1.out hb1
    | false =>
      by_cases hz : z = 0
      · have HC : Hid (false = true ∨ most < z ∨ z = 0) := .inr (.inr hz)
        have hz' : ((z : Int) == 0) = true := by rw [beq_iff_eq]; omega
        have HFin : Hid (∀ (e : Ending) (w' : World), e = .returned (.slice none 0 0) → Rr B w' g (rest, false) → But g w w' → ListP cl dat El 2 B g most w D e w') := fun e w' he hR hb => HF.out e w' he (by rw [HD.out]; exact hR) hb HC.out
        clear HF HC HD hz
        go_enter Try.func38, Try.ntmps38
        go_wp2_with (first
          | (go_at_call 40; refine Q1.mono ?_; rintro _ w1 ⟨rfl, hR1, hb1⟩; refine Hid.out ?_))
        refine hidU ?_
        have q1 : w1.cell? ⟨g, 1, none⟩ = some (.bool false) := by
          obtain ⟨a, c, hRA⟩ := hR1
          rw [hRA.cell.cell]; rfl
        have HR1 : Hid (Rr B w1 g (rest, false)) := hR1
        clear hR1 Q1
        go_wp2
        go_ret
        exact HFin.out _ _ rfl HR1.out hb1
      · have hz' : ((z : Int) == 0) = false := by rw [beq_eq_false_iff_ne]; omega
        have hN : ¬ (false = true ∨ most < z ∨ z = 0) := by
          rintro (q | q | q)
          · cases q
          · exact hm q
          · exact hz q
        have HDn : Hid (D = timesR one z (rest, false)) := by have hD' := hD.out; rw [if_neg hN] at hD'; exact hD'
        clear hD
        have hzm : z ≤ most := by omega
        clear HF HD hN
        go_enter Try.func38, Try.ntmps38
        go_wp2_with (first
          | (go_at_call 40; refine Q1.mono ?_; rintro _ w1 ⟨rfl, hR1, hb1⟩; refine Hid.out ?_))
        refine hidU ?_
        have q1 : w1.cell? ⟨g, 1, none⟩ = some (.bool false) := by
          obtain ⟨a, c, hRA⟩ := hR1
          rw [hRA.cell.cell]; rfl
        have HR1 : Hid (Rr B w1 g (rest, false)) := hR1
        have l1 := hb1.size
        have lg := hR1.lt
        clear hR1 Q1
        go_wp2_with (first
          | ((with_reducible show wpList _ _ _ _ _ _); refine wpList_make_room (P := Try.prog) rfl (.const (.int .i64 0)) (.tmp 28) 22 rfl 35 _ 2 16 Try.underlying22 f35 z rfl rfl (by omega) (by omega) ?_; intro w2 cs2 hA2 hc2 hb2 hs2; refine Hid.out ?_))
        refine hidU ?_
        have HI0 : Hid (Rr B w2 g (rest, false) ∧ But g w w2 ∧ At 35 w2 w1.heap.size cs2 ∧ cs2.length = z * 2) := ⟨HR1.out.below hb2, hb1.trans (But.of_below hb2), hA2, hc2⟩
        obtain ⟨r, hr⟩ : ∃ r, Hid (r = w1.heap.size) := ⟨_, (rfl : w1.heap.size = _)⟩
        rw [← hr.out] at HI0 hs2 ⊢
        have hrw : w.heap.size ≤ r := by rw [hr.out]; exact l1
        have hrg : g < r := by rw [hr.out]; exact lg
        clear hA2 hc2 hb2 q1 HR1 hb1 hr
        go_wp2_with fail
        go_loopw [10, 31] (fun v j wr => ∃ i : Nat, j = .int .i64 (i : Int) ∧ i ≤ z ∧ v = .slice (some ⟨r, 0, none⟩) i z ∧ Hid (∃ ys : List α, ys.length = i ∧ ys.map dat = (timesR one i (rest, false)).1 ∧ Rr B wr g (timesR one i (rest, false)).2 ∧ But g w wr ∧ (∃ tl, At 35 wr r (ys.flatMap cl ++ tl) ∧ (ys.flatMap cl ++ tl).length = z * 2) ∧ ∀ y ∈ ys, El (r + 1) wr y)) (fun _ j _ => z - (intOf j).toNat)
        case atStart => exact ⟨0, rfl, by omega, rfl, [], rfl, rfl, HI0.out.1, HI0.out.2.1, ⟨cs2, HI0.out.2.2.1, HI0.out.2.2.2⟩, fun y hy => by cases hy⟩
        case round =>
          obtain ⟨i, rfl, hi, rfl, hX⟩ := hrel
          by_cases hc : i < z
          · obtain ⟨ys, hyl, hyd, hRr, hBr, ⟨tl, hAr, htl⟩, hEl⟩ := hX.out
            have hC := HO.out wr _ hRr (Nat.le_trans hBw hBr.size)
            have lr := hAr.lt
            have HY : Hid (ys.length = i ∧ ys.map dat = (timesR one i (rest, false)).1 ∧ But g w wr ∧ At 35 wr r (ys.flatMap cl ++ tl) ∧ (ys.flatMap cl ++ tl).length = z * 2 ∧ ∀ y ∈ ys, El (r + 1) wr y) := ⟨hyl, hyd, hBr, hAr, htl, hEl⟩
            clear hX hyl hyd hRr hBr hAr htl hEl
            go_wp2_with fail
            refine hC.mono ?_
            rintro _ w4 ⟨y, rfl, hyd, hR4, hE4, hb4⟩
            have hy1 := hone1 y
            have hyn := hlen y
            obtain ⟨w5, hw5⟩ : ∃ x, x = w4.alloc (.cells (cl y).toArray 35) := ⟨_, rfl⟩
            have hb5 : Below w4.heap.size w4 w5 := by rw [hw5]; exact (Below.refl _ _).alloc (Nat.le_refl _) _
            have hA5 : At 35 w5 w4.heap.size (cl y) := by rw [hw5]; exact _root_.Go.heap_alloc_new w4 _
            have l4 := hb4.size
            have l5 := hb5.size
            have hAr5 : At 35 w5 r (ys.flatMap cl ++ tl) := (hb4.at HY.out.2.2.2.1 (by omega)).below hb5
            have HX2 : Hid (dat y = (one (timesR one i (rest, false)).2).1 ∧ Rr B w5 g (one (timesR one i (rest, false)).2).2 ∧ El wr.heap.size w5 y ∧ But g wr w5) := ⟨hyd, hR4.below hb5, HM.out.2 _ _ _ _ hE4 hb5.size (fun k _ hk => hb5.block k hk), hb4.trans (But.of_below hb5)⟩
            have hnews : ∀ j u, (cl y)[j]? = some u → w5.cell? ⟨w4.heap.size, j, none⟩ = some u := fun j u hj => by rw [hA5.cell]; exact hj
            have htl := HY.out.2.2.2.2.1
            clear hyd hR4 hE4 hb4 hb5 hA5 hC
            obtain ⟨ycs, hyc⟩ : ∃ x, Hid (x = cl y) := ⟨_, (rfl : cl y = _)⟩
            rw [← hyc.out] at hy1 hyn hw5 hnews ⊢
            go_wp2_with (first
              | ((with_reducible show wpList _ _ _ _ _ _); refine wpList_bs35 rfl (.tmp 36) rfl ycs rfl hyn ?_; rw [← hw5]; clear hw5)
              | ((with_reducible show wpList _ _ _ _ _ _); refine wpList_app_in (.tmp 33) (.tmp 37) 22 35 2 r i z w4.heap.size _ ycs rfl rfl Try.underlying22 i35 rfl rfl hAr5 htl hc hyn hy1 hnews ?_; intro w6 hA6 hb6 hs6; clear hs6; refine Hid.out ?_))
            refine hidU ?_
            have HN : Hid (∃ zs : List α, zs.length = i + 1 ∧ zs.map dat = (timesR one (i + 1) (rest, false)).1 ∧ Rr B w6 g (timesR one (i + 1) (rest, false)).2 ∧ But g w w6 ∧ (∃ tl, At 35 w6 r (zs.flatMap cl ++ tl) ∧ (zs.flatMap cl ++ tl).length = z * 2) ∧ ∀ y ∈ zs, El (r + 1) w6 y) := by
              obtain ⟨hyl, hyd, hBr, _, htl2, hEl⟩ := HY.out
              obtain ⟨hdy, hR5, hE5, hB5⟩ := HX2.out
              have hfl := flat_cells cl 2 hlen ys
              rw [hyl] at hfl
              rw [List.length_append, hfl] at htl2
              have l6 := hb6.size
              have l7 := hB5.size
              refine ⟨ys ++ [y], by rw [List.length_append, hyl]; rfl, ?_, ?_, (hBr.trans hB5).fresh hb6 hrw, ⟨tl.drop 2, ?_, ?_⟩, ?_⟩
              · rw [timesR_snoc, List.map_append, hyd]; show _ ++ [dat y] = _; rw [hdy]
              · rw [timesR_snoc]; exact hR5.but hb6 (by omega)
              · have e1 : (ys.flatMap cl ++ tl).take (i * 2) = ys.flatMap cl := List.take_left' hfl
                have e2 : (ys.flatMap cl ++ tl).drop (i * 2 + 2) = tl.drop 2 := by
                  first | rw [← List.drop_drop, List.drop_left' hfl] | rw [Nat.add_comm, ← List.drop_drop, List.drop_left' hfl]
                rw [e1, e2, hyc.out] at hA6
                rw [List.flatMap_append, List.flatMap_singleton]
                exact hA6
              · rw [List.length_append, flat_cells cl 2 hlen, List.length_append, hyl, List.length_drop, List.length_singleton]
                omega
              · intro x hx
                refine HM.out.2 (r + 1) w5 w6 x ?_ l6 (fun k h1 h2 => hb6.block k h2 (by omega))
                rcases List.mem_append.1 hx with hx | hx
                · exact HM.out.2 (r + 1) wr w5 x (hEl x hx) l7 (fun k h1 h2 => hB5.block k h2 (by omega))
                · rw [List.mem_singleton.1 hx]
                  exact HM.out.1 _ _ _ _ (by omega) hE5
            clear hA6 hb6 HY HX2 hAr5 hnews htl hyn hy1 hyc HI0
            go_wp2
            go_roundw
            case rel => exact ⟨i + 1, by go_num, by omega, rfl, HN.out⟩
            case measure => simp [intOf]; omega
          · have hin : i = z := by omega
            have HFin : Hid (∀ e : Ending, e = .returned (.slice (some ⟨r, 0, none⟩) i z) → ListP cl dat El 2 B g most w D e wr) := by
              obtain ⟨ys, hyl, hyd, hRr, hBr, ⟨tl, hAr, htl⟩, hEl⟩ := hX.out
              intro e he
              rw [hin] at hyl hyd hRr he
              rw [← HDn.out] at hyd hRr
              refine ⟨some ⟨r, 0, none⟩, z, ys, by rw [hyl]; exact he, hyd, hRr, hBr, by omega, by omega, .inr ⟨r, rfl, hrw, hAr.lt, ?_⟩, fun y hy => HM.out.1 _ _ _ _ (by omega) (hEl y hy)⟩
              intro k y hy j v hj
              rw [hAr.cell, List.getElem?_append_left]
              · exact flat_cells_at cl 2 hlen ys k y hy j v hj
              · exact (List.getElem?_eq_some_iff.1 (flat_cells_at cl 2 hlen ys k y hy j v hj)).1
            clear hX HI0 hin
            go_wp2
            go_ret
            exact HFin.out _ rfl

end Go.Proofs.Ytefklmckkigllaa
