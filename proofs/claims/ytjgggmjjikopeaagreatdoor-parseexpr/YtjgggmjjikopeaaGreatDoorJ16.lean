/- Joined texts of the proof. -/
import Derived.Test.YtjgggmjjikopeaaGreatDoorJ15
import Derived.Test.YtjgggmjjikopeaaGreatDoorJ3

/- The document's reader. -/
namespace Go.Proofs.YtjgggmjjikopeaaGreatDoor
open Go.RowKit
set_option linter.unusedVariables false

/-- The document's reader: its seven cells. -/
def q7 (a : Option Addr) (n c k en er pl ne bl : Nat) : List Value := [.slice a n c, .int .i64 (k : Int), .int .i64 (en : Int), .int .i64 (er : Int), .int .i64 (pl : Int), .int .i64 (ne : Int), .int .i64 (bl : Int)]
theorem q7_cells {w : World} {g : Nat} {a : Option Addr} {n c k en er pl ne bl : Nat} (h : At 71 w g (q7 a n c k en er pl ne bl)) : w.cell? ⟨g, 0, none⟩ = some (.slice a n c) ∧ w.cell? ⟨g, 1, none⟩ = some (.int .i64 (k : Int)) ∧ w.cell? ⟨g, 2, none⟩ = some (.int .i64 (en : Int)) ∧ w.cell? ⟨g, 3, none⟩ = some (.int .i64 (er : Int)) ∧ w.cell? ⟨g, 4, none⟩ = some (.int .i64 (pl : Int)) ∧ w.cell? ⟨g, 5, none⟩ = some (.int .i64 (ne : Int)) ∧ w.cell? ⟨g, 6, none⟩ = some (.int .i64 (bl : Int)) := by
  refine ⟨?_, ?_, ?_, ?_, ?_, ?_, ?_⟩ <;> (rw [h.cell]; rfl)
/-- The document's reader, its tokens, how far it is, its fault, how deep. -/
structure Qd (B : Nat) (w : World) (g : Nat) (L : List Tk) (a : Option Addr) (c k en er pl ne bl : Nat) : Prop where
  cell : At 71 w g (q7 a L.length c k en er pl ne bl)
  toks : L = [] ∨ ∃ gt, a = some ⟨gt, 0, none⟩ ∧ gt ≠ g ∧ gt < B ∧ w.rangeAt gt 0 (flat L)
  le : k ≤ L.length
  len : L.length ≤ 1048576
  low : g < B
theorem Qd.lt {B : Nat} {w : World} {g : Nat} {L : List Tk} {a : Option Addr} {c k en er pl ne bl : Nat} (h : Qd B w g L a c k en er pl ne bl) : g < w.heap.size := h.cell.lt
theorem flat_lt {w : World} {gt : Nat} {L : List Tk} (hL : L ≠ []) (h : w.rangeAt gt 0 (flat L)) : gt < w.heap.size := by
  cases L with
  | nil => exact absurd rfl hL
  | cons t r => exact cells_lt (h 0 _ rfl)
/-- Other blocks are written. -/
theorem Qd.keep {B : Nat} {w w' : World} {g : Nat} {L : List Tk} {a : Option Addr} {c k en er pl ne bl : Nat} (h : Qd B w g L a c k en er pl ne bl) (hb : ∀ j, j < w.heap.size → j < B → w'.heap[j]? = w.heap[j]?) : Qd B w' g L a c k en er pl ne bl := by
  refine ⟨?_, ?_, h.le, h.len, h.low⟩
  · unfold At
    rw [hb g h.lt h.low]
    exact h.cell
  · by_cases hL : L = []
    · exact .inl hL
    · rcases h.toks with q | ⟨gt, h1, h2, h3, h4⟩
      · exact .inl q
      · exact .inr ⟨gt, h1, h2, h3, fun j v hj => by rw [World.cell?_of_block (w := w) (hb gt (flat_lt hL h4) h3)]; exact h4 j v hj⟩
theorem Qd.below {B : Nat} {w w' : World} {g : Nat} {L : List Tk} {a : Option Addr} {c k en er pl ne bl : Nat} (h : Qd B w g L a c k en er pl ne bl) (hb : Below w.heap.size w w') : Qd B w' g L a c k en er pl ne bl := h.keep fun j hj _ => hb.block j hj
theorem Qd.but {B : Nat} {w w' : World} {g b : Nat} {L : List Tk} {a : Option Addr} {c k en er pl ne bl : Nat} (h : Qd B w g L a c k en er pl ne bl) (hb : But b w w') (hB : B ≤ b) : Qd B w' g L a c k en er pl ne bl := h.keep fun j hj hl => hb.block j hj (by omega)
/-- The reader itself is written. -/
theorem Qd.set {B : Nat} {w w' : World} {g : Nat} {L : List Tk} {a : Option Addr} {c k en er pl ne bl k' er' pl' ne' bl' : Nat} (h : Qd B w g L a c k en er pl ne bl) (hA : At 71 w' g (q7 a L.length c k' en er' pl' ne' bl')) (hb : But g w w') (hk : k' ≤ L.length) : Qd B w' g L a c k' en er' pl' ne' bl' := by
  refine ⟨hA, ?_, hk, h.len, h.low⟩
  by_cases hL : L = []
  · exact .inl hL
  · rcases h.toks with q | ⟨gt, h1, h2, h3, h4⟩
    · exact .inl q
    · exact .inr ⟨gt, h1, h2, h3, fun j v hj => by rw [World.cell?_of_block (w := w) (hb.block gt (flat_lt hL h4) h2)]; exact h4 j v hj⟩
/-- What it has ahead. -/
def aheadT (L : List Tk) (k en : Nat) : List Tk := L.drop k ++ [⟨0, [], en, 0⟩]
theorem ahead_at {L : List Tk} {k en : Nat} {t : Tk} (h : L[k]? = some t) : hdT (aheadT L k en) = t ∧ (aheadT L k en).tail = aheadT L (k + 1) en := by
  have hk := (List.getElem?_eq_some_iff.1 h).1
  have : L.drop k = t :: L.drop (k + 1) := by
    rw [List.drop_eq_getElem_cons hk]
    rw [List.getElem?_eq_getElem hk] at h
    rw [Option.some.inj h]
  unfold aheadT
  rw [this]
  exact ⟨rfl, rfl⟩
theorem ahead_end {L : List Tk} {k en : Nat} (h : L.length ≤ k) : aheadT L k en = [⟨0, [], en, 0⟩] := by
  unfold aheadT
  rw [List.drop_of_length_le h]
  rfl
theorem flat_tok {w : World} {gt k : Nat} {L : List Tk} {t : Tk} (h : w.rangeAt gt 0 (flat L)) (ht : L[k]? = some t) : w.rangeAt gt (k * 5) t.cells := by
  intro j v hj
  have hjl : j < 5 := (List.getElem?_eq_some_iff.1 hj).1
  have e := flat_at L k t ht
  have := h (k * 5 + j) v (by
    have q : (((flat L).drop (k * 5)).take 5)[j]? = some v := by rw [e]; exact hj
    rw [List.getElem?_take, if_pos hjl, List.getElem?_drop] at q
    exact q)
  rwa [Nat.zero_add] at this

theorem eqF (e p : Nat) (u : World) : (Op.equalIn 10000 29 (.agg #[.int .i64 (e : Int), .int .i64 (p : Int)]) (.agg #[.int .i64 0, .int .i64 0])).run Tryz.prog u = .ok (decide (e = 0) && decide (p = 0)) u := run_eq25 e p 0 0 u

set_option maxRecDepth 100000 in
set_option maxHeartbeats 3200000 in
theorem refOk_any (g n : Nat) (a : Option Addr) (c k en er pl ne bl : Nat) (w : World) (h : At 71 w g (q7 a n c k en er pl ne bl)) :
    Calls Tryz.prog 30 #[.pointer (some ⟨g, 0, none⟩)] w fun r w' => r = .returned (.bool (decide (er = 0) && decide (pl = 0))) ∧ w' = w := by
  obtain ⟨q0, q1, q2, q3, q4, q5, q6⟩ := q7_cells h
  have hq := fun u => eqF er pl u
  generalize (decide (er = 0) && decide (pl = 0)) = b at *
  clear h
  go_enter Tryz.func30, Tryz.ntmps30
  go_wp2
  go_ret
  exact ⟨rfl, rfl⟩

set_option maxRecDepth 100000 in
set_option maxHeartbeats 3200000 in
theorem bad_any {B : Nat} (g : Nat) (L : List Tk) (a : Option Addr) (c k en er pl ne bl : Nat) (e p : Nat) (w : World) (h : Qd B w g L a c k en er pl ne bl) :
    Calls Tryz.prog 40 #[.pointer (some ⟨g, 0, none⟩), .int .i64 (e : Int), .int .i64 (p : Int)] w fun r w' => r = .returned (.tuple #[]) ∧ (if er = 0 ∧ pl = 0 then Qd B w' g L a c L.length en e p ne bl else Qd B w' g L a c L.length en er pl ne bl) ∧ But g w w' := by
  have HQ : Hid (Qd B w g L a c k en er pl ne bl) := h
  have hA := h.cell
  have hlen := h.len
  clear h
  generalize hn : L.length = n at *
  have hq := fun u => eqF er pl u
  obtain ⟨q0, q1, q2, q3, q4, q5, q6⟩ := q7_cells hA
  by_cases hc : er = 0 ∧ pl = 0
  · simp only [if_pos hc]
    have e1 : (decide (er = 0) && decide (pl = 0)) = true := by rw [decide_eq_true hc.1, decide_eq_true hc.2]; rfl
    rw [e1] at hq
    clear e1
    go_enter Tryz.func40, Tryz.ntmps40
    go_wp2_with (first
      | ((with_reducible show wpList _ _ _ _ _ _); refine wpList_store_two rfl 29 (.tmp 17) (.tmp 15) rfl g 3 (.int .i64 (e : Int)) (.int .i64 (p : Int)) rfl rfl 71 _ hA (show 3 + 2 ≤ 7 by decide) i25 (one2f e p) ?_; intro w1 hA1 hb1 hs1; clear hs1; refine Hid.out ?_))
    refine hidU ?_
    have hA1 : At 71 w1 g (q7 a n c k en e p ne bl) := hA1
    clear q0 q1 q2 q3 q4 q5 q6
    obtain ⟨q0, q1, q2, q3, q4, q5, q6⟩ := q7_cells hA1
    go_wp2_with (first
      | ((with_reducible show wpList _ _ _ _ _ _); refine wpList_store_one (P := Tryz.prog) rfl 3 (.tmp 25) (.tmp 23) rfl g 1 (.int .i64 (n : Int)) rfl rfl 71 _ hA1 (show 1 + 1 ≤ 7 by decide) i3 rfl rfl ?_; intro w2 hA2 hb2 hs2; clear hs2; refine Hid.out ?_))
    refine hidU ?_
    have hA2 : At 71 w2 g (q7 a n c n en e p ne bl) := hA2
    clear q0 q1 q2 q3 q4 q5 q6
    go_wp2
    go_end0
    subst hn
    exact ⟨rfl, HQ.out.set hA2 (hb1.trans hb2) (Nat.le_refl _), hb1.trans hb2⟩
  · simp only [if_neg hc]
    have e1 : (decide (er = 0) && decide (pl = 0)) = false := by
      rw [← Bool.not_eq_true, Bool.and_eq_true, decide_eq_true_iff, decide_eq_true_iff]
      exact hc
    rw [e1] at hq
    clear e1
    go_enter Tryz.func40, Tryz.ntmps40
    go_wp2_with (first
      | ((with_reducible show wpList _ _ _ _ _ _); refine wpList_store_one (P := Tryz.prog) rfl 3 (.tmp 25) (.tmp 23) rfl g 1 (.int .i64 (n : Int)) rfl rfl 71 _ hA (show 1 + 1 ≤ 7 by decide) i3 rfl rfl ?_; intro w2 hA2 hb2 hs2; clear hs2; refine Hid.out ?_))
    refine hidU ?_
    have hA2 : At 71 w2 g (q7 a n c n en er pl ne bl) := hA2
    clear q0 q1 q2 q3 q4 q5 q6
    go_wp2
    go_end0
    subst hn
    exact ⟨rfl, HQ.out.set hA2 hb2 (Nat.le_refl _), hb2⟩

/-- Where the next token is, quietly. -/
theorem rd_tok {B : Nat} {w : World} {g : Nat} {L : List Tk} {a : Option Addr} {c k en er pl ne bl : Nat} (h : Qd B w g L a c k en er pl ne bl) (hk : k < L.length) : ∃ gt t, a = some ⟨gt, 0, none⟩ ∧ L[k]? = some t ∧ w.rangeAt gt (k * 5) t.cells ∧ hdT (aheadT L k en) = t ∧ gt < B := by
  rcases h.toks with q | ⟨gt, h1, h2, h3, h4⟩
  · rw [q] at hk; simp at hk
  · have ht : L[k]? = some (L[k]) := List.getElem?_eq_getElem hk
    exact ⟨gt, L[k], h1, ht, flat_tok h4 ht, (ahead_at ht).1, h3⟩

set_option maxRecDepth 100000 in
set_option maxHeartbeats 3200000 in
theorem here_any {B : Nat} (g : Nat) (L : List Tk) (a : Option Addr) (c k en er pl ne bl : Nat) (w : World) (h : Qd B w g L a c k en er pl ne bl) :
    Calls Tryz.prog 41 #[.pointer (some ⟨g, 0, none⟩)] w fun r w' => r = .returned (.int .i64 ((hdT (aheadT L k en)).place : Int)) ∧ ∃ m, w' = w.drewN m := by
  have hA := h.cell
  have hle := h.le
  have hlen := h.len
  obtain ⟨q0, q1, q2, q3, q4, q5, q6⟩ := q7_cells hA
  by_cases hc : k < L.length
  · obtain ⟨gt, t, rfl, ht, hr, hd, -⟩ := rd_tok h hc
    rw [hd]
    obtain ⟨t0, t1, t2, t3, t4⟩ := tk_cells hr
    obtain ⟨K, T, p, b⟩ := t
    dsimp only at t0 t1 t2 t3 t4 ⊢
    generalize L.length = n at *
    clear h hA hr hd ht
    go_enter Tryz.func41, Tryz.ntmps41
    go_wp2_with fail
    go_quiet (fail)
    go_wp2_with fail
    go_quiet (fail)
    go_wp2
    go_ret
    exact ⟨rfl, _, World.drewN_drewN _ _ _⟩
  · have hd : hdT (aheadT L k en) = ⟨0, [], en, 0⟩ := by rw [ahead_end (by omega)]; rfl
    rw [hd]
    dsimp only
    generalize L.length = n at *
    clear h hA hd
    go_enter Tryz.func41, Tryz.ntmps41
    go_wp2_with fail
    go_quiet (fail)
    go_wp2
    go_ret
    exact ⟨rfl, _, rfl⟩

/-- Is there no fault, and is the next token these bytes? -/
def isB (er pl : Nat) (l : List Tk) (x : List UInt8) : Bool := (decide (er = 0) && decide (pl = 0)) && decide ((hdT l).text = x)

set_option maxRecDepth 100000 in
set_option maxHeartbeats 6400000 in
theorem is_any {B : Nat} (g : Nat) (L : List Tk) (a : Option Addr) (c k en er pl ne bl : Nat) (x : ByteArray) (hx : bytes x ≠ []) (w : World) (h : Qd B w g L a c k en er pl ne bl) :
    Calls Tryz.prog 63 #[.pointer (some ⟨g, 0, none⟩), .string x] w fun r w' => r = .returned (.bool (isB er pl (aheadT L k en) (bytes x))) ∧ ∃ m, w' = w.drewN m := by
  have hA := h.cell
  have hle := h.le
  have hlen := h.len
  have hO := fun m => refOk_any g L.length a c k en er pl ne bl (w.drewN m) (hA.drewN m)
  obtain ⟨q0, q1, q2, q3, q4, q5, q6⟩ := q7_cells hA
  unfold isB
  cases hc : (decide (er = 0) && decide (pl = 0)) with
  | false =>
    rw [hc] at hO
    rw [Bool.false_and]
    generalize L.length = n at *
    clear h hA hx hc
    go_enter Tryz.func63, Tryz.ntmps63
    go_wp2_with fail
    go_quiet (first | (go_at_call 30; exact Calls.quiet_of_same (hO _)))
    go_wp2
    go_ret
    exact ⟨rfl, _, rfl⟩
  | true =>
    rw [hc] at hO
    rw [Bool.true_and]
    by_cases hk : k < L.length
    · obtain ⟨gt, t, rfl, ht, hr, hd, -⟩ := rd_tok h hk
      rw [hd]
      obtain ⟨t0, t1, t2, t3, t4⟩ := tk_cells hr
      obtain ⟨K, T, p, b⟩ := t
      dsimp only at t0 t1 t2 t3 t4 ⊢
      by_cases he : T = bytes x
      · have hs : (T == x.toList) = true := by rw [toList_bytes, beq_iff_eq]; exact he
        rw [decide_eq_true he]
        generalize L.length = n at *
        clear h hA hr hd ht hx hc he
        go_enter Tryz.func63, Tryz.ntmps63
        go_wp2_with fail
        go_quiet (first | (go_at_call 30; exact Calls.quiet_of_same (hO _)))
        go_wp2
        go_ret
        exact ⟨rfl, _, rfl⟩
      · have hs : (T == x.toList) = false := by rw [toList_bytes, beq_eq_false_iff_ne]; exact he
        rw [decide_eq_false he]
        generalize L.length = n at *
        clear h hA hr hd ht hx hc he
        go_enter Tryz.func63, Tryz.ntmps63
        go_wp2_with fail
        go_quiet (first | (go_at_call 30; exact Calls.quiet_of_same (hO _)))
        go_wp2
        go_ret
        exact ⟨rfl, _, rfl⟩
    · have hd : hdT (aheadT L k en) = ⟨0, [], en, 0⟩ := by rw [ahead_end (by omega)]; rfl
      rw [hd, decide_eq_false (fun e => hx e.symm)]
      generalize L.length = n at *
      clear h hA hd hx hc
      go_enter Tryz.func63, Tryz.ntmps63
      go_wp2_with fail
      go_quiet (first | (go_at_call 30; exact Calls.quiet_of_same (hO _)))
      go_wp2
      go_ret
      exact ⟨rfl, _, rfl⟩

end Go.Proofs.YtjgggmjjikopeaaGreatDoor

/- The document's reader: words and signs. -/
namespace Go.Proofs.YtjgggmjjikopeaaGreatDoor
open Go.RowKit
set_option linter.unusedVariables false

theorem Qd.drewN {B : Nat} {w : World} {g : Nat} {L : List Tk} {a : Option Addr} {c k en er pl ne bl : Nat} (h : Qd B w g L a c k en er pl ne bl) (m : Nat) : Qd B (w.drewN m) g L a c k en er pl ne bl := h.keep fun j _ _ => rfl
theorem below_drewN (w : World) (m : Nat) : Below w.heap.size w (w.drewN m) := ⟨rfl, rfl, rfl, Nat.le_refl _, fun _ _ => rfl⟩
theorem is_lt {er pl k en : Nat} {L : List Tk} {x : List UInt8} (hx : x ≠ []) (h : isB er pl (aheadT L k en) x = true) : k < L.length := by
  by_cases hk : k < L.length
  · exact hk
  · unfold isB at h
    rw [ahead_end (by omega)] at h
    simp only [Bool.and_eq_true, decide_eq_true_iff] at h
    exact absurd h.2.symm hx

set_option maxRecDepth 100000 in
set_option maxHeartbeats 3200000 in
theorem refTakes_any {B : Nat} (g : Nat) (L : List Tk) (a : Option Addr) (c k en er pl ne bl : Nat) (x : ByteArray) (hx : bytes x ≠ []) (w : World) (h : Qd B w g L a c k en er pl ne bl) :
    Calls Tryz.prog 64 #[.pointer (some ⟨g, 0, none⟩), .string x] w fun r w' => r = .returned (.bool (isB er pl (aheadT L k en) (bytes x))) ∧ Qd B w' g L a c (if isB er pl (aheadT L k en) (bytes x) = true then k + 1 else k) en er pl ne bl ∧ But g w w' := by
  have hI := is_any g L a c k en er pl ne bl x hx w h
  have HQ : Hid (Qd B w g L a c k en er pl ne bl) := h
  cases hb : isB er pl (aheadT L k en) (bytes x) with
  | false =>
    rw [hb] at hI
    simp only [Bool.false_eq_true, if_false]
    clear h hb hx
    go_enter Tryz.func64, Tryz.ntmps64
    go_wp2_with (first
      | (go_at_call 63; refine hI.mono ?_; rintro r w1 ⟨rfl, m, rfl⟩))
    go_ret
    exact ⟨rfl, HQ.out.drewN m, (But.refl g w).drewN m⟩
  | true =>
    have hk := is_lt hx hb
    rw [hb] at hI
    simp only [if_true]
    have hA := fun m => h.cell.drewN m
    have hlen := h.len
    clear h hb hx
    generalize hn : L.length = n at *
    go_enter Tryz.func64, Tryz.ntmps64
    go_wp2_with (first
      | (go_at_call 63; refine hI.mono ?_; rintro r w1 ⟨rfl, m, rfl⟩; obtain ⟨q0, q1, q2, q3, q4, q5, q6⟩ := q7_cells (hA m))
      | ((with_reducible show wpList _ _ _ _ _ _); refine wpList_store_one (P := Tryz.prog) rfl 3 (.tmp 14) (.tmp 12) rfl g 1 (.int .i64 ((k : Int) + 1)) rfl rfl 71 _ (hA m) (show 1 + 1 ≤ 7 by decide) i3 rfl rfl ?_; intro w2 hA2 hb2 hs; clear hs; refine Hid.out ?_))
    refine hidU ?_
    have hA2 : At 71 w2 g (q7 a n c (k + 1) en er pl ne bl) := hA2
    clear q0 q1 q2 q3 q4 q5 q6 hA
    go_wp2
    go_ret
    subst hn
    exact ⟨rfl, (HQ.out.drewN m).set hA2 hb2 hk, ((But.refl g w).drewN m).trans hb2⟩

/-- What a part of the document's reader leaves: read on, or a fault. -/
def QPost (B g : Nat) (L : List Tk) (a : Option Addr) (c en ne bl : Nat) {α : Type} (R : Rs α) (w' : World) : Prop :=
  match R with
  | .ok _ l => ∃ k, l = aheadT L k en ∧ Qd B w' g L a c k en 0 0 ne bl
  | .bad e p => Qd B w' g L a c L.length en e p ne bl

set_option maxRecDepth 100000 in
set_option maxHeartbeats 3200000 in
theorem refMust_ok {B : Nat} (g : Nat) (L : List Tk) (a : Option Addr) (c k en ne bl : Nat) (x : ByteArray) (hx : bytes x ≠ []) (w : World) (h : Qd B w g L a c k en 0 0 ne bl) :
    Calls Tryz.prog 67 #[.pointer (some ⟨g, 0, none⟩), .string x] w fun r w' => r = .returned (.tuple #[]) ∧ QPost B g L a c en ne bl (mustR (bytes x) (aheadT L k en)) w' ∧ But g w w' := by
  have hT := refTakes_any g L a c k en 0 0 ne bl x hx w h
  have hie : isB 0 0 (aheadT L k en) (bytes x) = decide ((hdT (aheadT L k en)).text = bytes x) := rfl
  by_cases hc : (hdT (aheadT L k en)).text = bytes x
  · have hm : mustR (bytes x) (aheadT L k en) = .ok () (aheadT L k en).tail := by unfold mustR; rw [if_pos hc]
    rw [hm]
    rw [hie, decide_eq_true hc] at hT
    simp only [if_true] at hT
    have HR : Hid (∀ w', Qd B w' g L a c (k + 1) en 0 0 ne bl → QPost B g L a c en ne bl (.ok () (aheadT L k en).tail : Rs Unit) w') := fun w' hQ => ⟨k + 1, by
      obtain ⟨t, ht⟩ : ∃ t, L[k]? = some t := by
        have hk := is_lt (er := 0) (pl := 0) hx (by rw [hie, decide_eq_true hc])
        exact ⟨_, List.getElem?_eq_getElem hk⟩
      exact (ahead_at ht).2, hQ⟩
    clear hc hx h hm hie
    go_enter Tryz.func67, Tryz.ntmps67
    go_wp2_with (first
      | (go_at_call 64; refine hT.mono ?_; rintro r w1 ⟨rfl, hR, hb1⟩))
    go_end0
    exact ⟨rfl, HR.out _ hR, hb1⟩
  · have hm : mustR (bytes x) (aheadT L k en) = .bad 4 (hdT (aheadT L k en)).place := by unfold mustR; rw [if_neg hc]
    rw [hm]
    rw [hie, decide_eq_false hc] at hT
    simp only [Bool.false_eq_true, if_false] at hT
    have HN : Hid (∀ u, Qd B u g L a c k en 0 0 ne bl → Calls Tryz.prog 41 #[.pointer (some ⟨g, 0, none⟩)] u fun r w' => r = .returned (.int .i64 ((hdT (aheadT L k en)).place : Int)) ∧ ∃ m, w' = u.drewN m) := fun u hu => here_any g L a c k en 0 0 ne bl u hu
    generalize (hdT (aheadT L k en)).place = p at HN ⊢
    have HB : Hid (∀ u, Qd B u g L a c k en 0 0 ne bl → Calls Tryz.prog 40 #[.pointer (some ⟨g, 0, none⟩), .int .i64 4, .int .i64 (p : Int)] u fun r w' => r = .returned (.tuple #[]) ∧ Qd B w' g L a c L.length en 4 p ne bl ∧ But g u w') := fun u hu => by
      have := bad_any g L a c k en 0 0 ne bl 4 p u hu
      simpa using this
    clear hc hx h hm hie
    go_enter Tryz.func67, Tryz.ntmps67
    go_wp2_with (first
      | (go_at_call 64; refine hT.mono ?_; rintro r w1 ⟨rfl, hR, hb1⟩)
      | (go_at_call 41; refine (HN.out _ hR).mono ?_; rintro r w2 ⟨rfl, m, rfl⟩)
      | (go_at_call 40; refine (HB.out _ (hR.drewN m)).mono ?_; rintro r w3 ⟨rfl, hR3, hb3⟩))
    go_end0
    exact ⟨rfl, hR3, (hb1.drewN m).trans hb3⟩

set_option maxRecDepth 100000 in
set_option maxHeartbeats 3200000 in
theorem refMust_bad {B : Nat} (g : Nat) (L : List Tk) (a : Option Addr) (c k en er pl ne bl : Nat) (he : er ≠ 0) (x : ByteArray) (hx : bytes x ≠ []) (w : World) (h : Qd B w g L a c k en er pl ne bl) :
    Calls Tryz.prog 67 #[.pointer (some ⟨g, 0, none⟩), .string x] w fun r w' => r = .returned (.tuple #[]) ∧ Qd B w' g L a c L.length en er pl ne bl ∧ But g w w' := by
  have hT := refTakes_any g L a c k en er pl ne bl x hx w h
  have hie : isB er pl (aheadT L k en) (bytes x) = false := by unfold isB; rw [decide_eq_false he]; rfl
  rw [hie] at hT
  simp only [Bool.false_eq_true, if_false] at hT
  have HN : Hid (∀ u, Qd B u g L a c k en er pl ne bl → Calls Tryz.prog 41 #[.pointer (some ⟨g, 0, none⟩)] u fun r w' => r = .returned (.int .i64 ((hdT (aheadT L k en)).place : Int)) ∧ ∃ m, w' = u.drewN m) := fun u hu => here_any g L a c k en er pl ne bl u hu
  generalize (hdT (aheadT L k en)).place = p at HN
  have HB : Hid (∀ u, Qd B u g L a c k en er pl ne bl → Calls Tryz.prog 40 #[.pointer (some ⟨g, 0, none⟩), .int .i64 4, .int .i64 (p : Int)] u fun r w' => r = .returned (.tuple #[]) ∧ Qd B w' g L a c L.length en er pl ne bl ∧ But g u w') := fun u hu => by
    have := bad_any g L a c k en er pl ne bl 4 p u hu
    simpa [he] using this
  clear hx h hie he
  go_enter Tryz.func67, Tryz.ntmps67
  go_wp2_with (first
    | (go_at_call 64; refine hT.mono ?_; rintro r w1 ⟨rfl, hR, hb1⟩)
    | (go_at_call 41; refine (HN.out _ hR).mono ?_; rintro r w2 ⟨rfl, m, rfl⟩)
    | (go_at_call 40; refine (HB.out _ (hR.drewN m)).mono ?_; rintro r w3 ⟨rfl, hR3, hb3⟩))
  go_end0
  exact ⟨rfl, hR3, (hb1.drewN m).trans hb3⟩

set_option maxRecDepth 100000 in
set_option maxHeartbeats 3200000 in
theorem deeper_any {B : Nat} (g : Nat) (L : List Tk) (a : Option Addr) (c k en ne bl : Nat) (p : Nat) (hne : ne ≤ 1048576) (w : World) (h : Qd B w g L a c k en 0 0 ne bl) :
    Calls Tryz.prog 169 #[.pointer (some ⟨g, 0, none⟩), .int .i64 (p : Int)] w fun r w' => r = .returned (.tuple #[]) ∧ (if 32 ≤ ne then Qd B w' g L a c L.length en 160 p (ne + 1) bl else Qd B w' g L a c k en 0 0 (ne + 1) bl) ∧ But g w w' := by
  have HQ : Hid (Qd B w g L a c k en 0 0 ne bl) := h
  have HB : Hid (∀ u, Qd B u g L a c k en 0 0 (ne + 1) bl → Calls Tryz.prog 40 #[.pointer (some ⟨g, 0, none⟩), .int .i64 160, .int .i64 (p : Int)] u fun r w' => r = .returned (.tuple #[]) ∧ Qd B w' g L a c L.length en 160 p (ne + 1) bl ∧ But g u w') := fun u hu => by
    have := bad_any g L a c k en 0 0 (ne + 1) bl 160 p u hu
    simpa using this
  have hA := h.cell
  have hle := h.le
  clear h
  generalize hn : L.length = n at *
  obtain ⟨q0, q1, q2, q3, q4, q5, q6⟩ := q7_cells hA
  by_cases hc : 32 ≤ ne
  · simp only [if_pos hc]
    go_enter Tryz.func169, Tryz.ntmps169
    go_wp2_with (first
      | ((with_reducible show wpList _ _ _ _ _ _); refine wpList_store_one (P := Tryz.prog) rfl 3 (.tmp 10) (.tmp 8) rfl g 5 (.int .i64 ((ne : Int) + 1)) rfl rfl 71 _ hA (show 5 + 1 ≤ 7 by decide) i3 rfl rfl ?_; intro w1 hA1 hb1 hs; clear hs; refine Hid.out ?_))
    refine hidU ?_
    have hA1 : At 71 w1 g (q7 a n c k en 0 0 (ne + 1) bl) := hA1
    clear q0 q1 q2 q3 q4 q5 q6
    obtain ⟨q0, q1, q2, q3, q4, q5, q6⟩ := q7_cells hA1
    have hQ1 : Qd B w1 g L a c k en 0 0 (ne + 1) bl := by subst hn; exact HQ.out.set hA1 hb1 hle
    go_wp2_with (first
      | (go_at_call 40; refine (HB.out _ hQ1).mono ?_; rintro r w3 ⟨rfl, hR3, hb3⟩))
    go_end0
    exact ⟨rfl, hR3, hb1.trans hb3⟩
  · simp only [if_neg hc]
    go_enter Tryz.func169, Tryz.ntmps169
    go_wp2_with (first
      | ((with_reducible show wpList _ _ _ _ _ _); refine wpList_store_one (P := Tryz.prog) rfl 3 (.tmp 10) (.tmp 8) rfl g 5 (.int .i64 ((ne : Int) + 1)) rfl rfl 71 _ hA (show 5 + 1 ≤ 7 by decide) i3 rfl rfl ?_; intro w1 hA1 hb1 hs; clear hs; refine Hid.out ?_))
    refine hidU ?_
    have hA1 : At 71 w1 g (q7 a n c k en 0 0 (ne + 1) bl) := hA1
    clear q0 q1 q2 q3 q4 q5 q6
    obtain ⟨q0, q1, q2, q3, q4, q5, q6⟩ := q7_cells hA1
    have hQ1 : Qd B w1 g L a c k en 0 0 (ne + 1) bl := by subst hn; exact HQ.out.set hA1 hb1 hle
    go_wp2
    go_end0
    exact ⟨rfl, hQ1, hb1⟩

end Go.Proofs.YtjgggmjjikopeaaGreatDoor

/- The document's reader: an expression is made. -/
namespace Go.Proofs.YtjgggmjjikopeaaGreatDoor
open Go.RowKit
set_option linter.unusedVariables false

theorem Tw.but2 {A k s : Nat} {w w' : World} {y : ET} (h : Tw A w y) (hb : But k w w') (hl : y.Lies (fun j => j < s)) (hk : s ≤ k) : Tw A w' y :=
  ⟨ET.In.up hb.size (ET.In.stay (fun j hj hl => hb.block j hl (by omega)) h.1 hl), h.2⟩

set_option maxRecDepth 100000 in
set_option maxHeartbeats 3200000 in
theorem made_bad {B A : Nat} (g : Nat) (L : List Tk) (a : Option Addr) (c k en er pl ne bl : Nat) (he : er ≠ 0) (y : ET) (p : Nat) (w : World) (h : Qd B w g L a c k en er pl ne bl) (hB : B ≤ w.heap.size) (hT : Tw A w y) :
    Calls Tryz.prog 145 #[.pointer (some ⟨g, 0, none⟩), .agg y.cells.toArray, .int .i64 (p : Int)] w fun r w' => r = .returned (.agg y.cells.toArray) ∧ Tw A w' y ∧ Qd B w' g L a c k en er pl ne bl ∧ But g w w' := by
  have HO : Hid (∀ u, Below w.heap.size w u → Calls Tryz.prog 30 #[.pointer (some ⟨g, 0, none⟩)] u fun r w' => r = .returned (.bool false) ∧ w' = u) := fun u hu => by
    have := refOk_any g L.length a c k en er pl ne bl u (h.below hu).cell
    rwa [decide_eq_false he, Bool.false_and] at this
  have HQ : Hid (∀ w', Old w.heap.size w w' → w.heap.size ≤ w'.heap.size → Tw A w' y ∧ Qd B w' g L a c k en er pl ne bl) := fun w' h1 h2 => ⟨⟨ET.In.up h2 (hT.1.old h1), hT.2⟩, h.keep fun j hj _ => h1 j hj⟩
  obtain ⟨y1, y2, y3, y4, y5, hy⟩ : ∃ y1 y2 y3 y4 y5, y.cells = [y1, y2, y3, y4, y5] := by cases y; exact ⟨_, _, _, _, _, rfl⟩
  have hone := ET.one y
  rw [hy] at hone ⊢
  clear h he hT hy
  go_enter Tryz.func145, Tryz.ntmps145
  go_wp2_with (first
    | ((with_reducible show wpList _ _ _ _ _ _); refine wpList_box_at rfl 43 (.tmp 1) rfl [y1, y2, y3, y4, y5] rfl ?_; intro w1 hA1 hb1 hs1; clear hs1)
    | ((with_reducible show wpList _ _ _ _ _ _); refine wpList_alloc_at (o := { dst := some 6, .. }) rfl 43 rfl [.int .u8 0, .int .u8 0, .int .u64 0, .string ⟨#[]⟩, .slice none 0 0] 5 z29 ?_; intro w2 hA2 hb2 hs2; clear hs2)
    | (go_at_call 30; refine (HO.out _ (hb1.trans (hb2.mono hb1.size))).mono ?_; rintro r u ⟨rfl, hu⟩; obtain rfl := hu.symm; have hA12 := hA1.below hb2; obtain ⟨c0, c1, c2, c3, c4⟩ := ex_cells5 hA12)
    | ((with_reducible show wpList _ _ _ _ _ _); refine wpList_store_at (P := Tryz.prog) rfl 43 (.tmp 6) (.tmp 17) rfl w1.heap.size [y1, y2, y3, y4, y5] rfl rfl 43 _ hA2 i29 rfl hone ?_; intro w9 hA9 hb9 hs; clear hs))
  refine bodyPost_ret (results_at rfl _ _ w1.heap.size 43 [y1, y2, y3, y4, y5] _ rfl hA9 Tryz.underlying43 rfl i29) rfl ?_
  have hB2 : Below w.heap.size w w2 := hb1.trans (hb2.mono hb1.size)
  have hB9 : Below w.heap.size w w9 := hb9.below hB2 hb1.size hB2.size
  exact ⟨rfl, (HQ.out w9 (Old.of_below hB9 (Nat.le_refl _)) hB9.size).1, (HQ.out w9 (Old.of_below hB9 (Nat.le_refl _)) hB9.size).2, But.of_below hB9⟩

set_option maxRecDepth 100000 in
set_option maxHeartbeats 6400000 in
theorem made_ok {B A : Nat} (g : Nat) (L : List Tk) (a : Option Addr) (c k en ne bl : Nat) (y : ET) (p : Nat) (w : World) (h : Qd B w g L a c k en 0 0 ne bl) (hB : B ≤ w.heap.size) (hT : Tw A w y) (hgA : g < A) (hh : htX y.ex ≤ 1048576) :
    Calls Tryz.prog 145 #[.pointer (some ⟨g, 0, none⟩), .agg y.cells.toArray, .int .i64 (p : Int)] w fun r w' => r = .returned (.agg y.cells.toArray) ∧ Tw A w' y ∧ (if 32 < htX y.ex then Qd B w' g L a c L.length en 160 p ne bl else Qd B w' g L a c k en 0 0 ne bl) ∧ But g w w' := by
  have HO : Hid (∀ u, Below w.heap.size w u → Calls Tryz.prog 30 #[.pointer (some ⟨g, 0, none⟩)] u fun r w' => r = .returned (.bool true) ∧ w' = u) := fun u hu => refOk_any g L.length a c k en 0 0 ne bl u (h.below hu).cell
  have HH : Hid (∀ u, Below w.heap.size w u → Calls Tryz.prog 170 #[.agg y.cells.toArray] u fun r w' => r = .returned (.int .i64 (htX y.ex : Int)) ∧ Below u.heap.size u w') := fun u hu =>
    height21_any w.heap.size _ y (Nat.lt_succ_self _) hh u (hT.1.old (Old.of_below hu (Nat.le_refl _))) hu.size
  have HB : Hid (∀ u, Qd B u g L a c k en 0 0 ne bl → Calls Tryz.prog 40 #[.pointer (some ⟨g, 0, none⟩), .int .i64 160, .int .i64 (p : Int)] u fun r w' => r = .returned (.tuple #[]) ∧ Qd B w' g L a c L.length en 160 p ne bl ∧ But g u w') := fun u hu => by
    have := bad_any g L a c k en 0 0 ne bl 160 p u hu
    simpa using this
  have HQ : Hid (∀ w', Old w.heap.size w w' → w.heap.size ≤ w'.heap.size → Tw A w' y ∧ Qd B w' g L a c k en 0 0 ne bl) := fun w' h1 h2 => ⟨⟨ET.In.up h2 (hT.1.old h1), hT.2⟩, h.keep fun j hj _ => h1 j hj⟩
  have HLs : Hid (y.Lies (fun j => j < w.heap.size)) := (ET.In.lies hT.1 hT.2).mono fun j hj => hj.2
  have hlt := h.lt
  obtain ⟨y1, y2, y3, y4, y5, hy⟩ : ∃ y1 y2 y3 y4 y5, y.cells = [y1, y2, y3, y4, y5] := by cases y; exact ⟨_, _, _, _, _, rfl⟩
  have hone := ET.one y
  rw [hy] at hone HH ⊢
  clear h hT hy
  generalize htX y.ex = hX at *
  by_cases hc : 32 < hX
  · simp only [if_pos hc]
    go_enter Tryz.func145, Tryz.ntmps145
    go_wp2_with (first
      | ((with_reducible show wpList _ _ _ _ _ _); refine wpList_box_at rfl 43 (.tmp 1) rfl [y1, y2, y3, y4, y5] rfl ?_; intro w1 hA1 hb1 hs1; clear hs1)
      | ((with_reducible show wpList _ _ _ _ _ _); refine wpList_alloc_at (o := { dst := some 6, .. }) rfl 43 rfl [.int .u8 0, .int .u8 0, .int .u64 0, .string ⟨#[]⟩, .slice none 0 0] 5 z29 ?_; intro w2 hA2 hb2 hs2; clear hs2)
      | (go_at_call 30; refine (HO.out _ (hb1.trans (hb2.mono hb1.size))).mono ?_; rintro r u ⟨rfl, hu⟩; obtain rfl := hu.symm; have hA12 := hA1.below hb2; obtain ⟨c0, c1, c2, c3, c4⟩ := ex_cells5 hA12)
      | (go_at_call 170; refine (HH.out _ (hb1.trans (hb2.mono hb1.size))).mono ?_; rintro r w3 ⟨rfl, hb3⟩; refine Hid.out ?_))
    refine hidU ?_
    have l1 := hA1.lt
    have l2 := hA2.lt
    have hB3 : Below w.heap.size w w3 := (hb1.trans (hb2.mono hb1.size)).trans (hb3.mono (Nat.le_trans hb1.size hb2.size))
    obtain ⟨hT3, hQ3⟩ := HQ.out w3 (Old.of_below hB3 (Nat.le_refl _)) hB3.size
    have hA13 := hA12.below hb3
    have hA23 := hA2.below hb3
    have hT3' : y.Lies (fun j => j < w.heap.size) := HLs.out
    clear c0 c1 c2 c3 c4 HO HH hb1 hb2 hb3 hA12 hA1 hA2
    go_wp2_with (first
      | (go_at_call 40; refine (HB.out _ hQ3).mono ?_; rintro r w4 ⟨rfl, hQ4, hb4⟩; refine Hid.out ?_))
    refine hidU ?_
    obtain ⟨c0, c1, c2, c3, c4⟩ := ex_cells5 (hb4.at hA13 (by omega))
    have hA24 := hb4.at hA23 (by omega)
    go_wp2_with (first
      | ((with_reducible show wpList _ _ _ _ _ _); refine wpList_store_at (P := Tryz.prog) rfl 43 (.tmp 6) (.tmp 17) rfl w1.heap.size [y1, y2, y3, y4, y5] rfl rfl 43 _ hA24 i29 rfl hone ?_; intro w9 hA9 hb9 hs; clear hs))
    refine bodyPost_ret (results_at rfl _ _ w1.heap.size 43 [y1, y2, y3, y4, y5] _ rfl hA9 Tryz.underlying43 rfl i29) rfl ?_
    exact ⟨rfl, (hT3.but hb4 (.inl hgA)).but2 hb9 hT3' (by omega), hQ4.but hb9 (by omega), ((But.of_below hB3).trans hb4).fresh hb9 (by omega)⟩
  · simp only [if_neg hc]
    go_enter Tryz.func145, Tryz.ntmps145
    go_wp2_with (first
      | ((with_reducible show wpList _ _ _ _ _ _); refine wpList_box_at rfl 43 (.tmp 1) rfl [y1, y2, y3, y4, y5] rfl ?_; intro w1 hA1 hb1 hs1; clear hs1)
      | ((with_reducible show wpList _ _ _ _ _ _); refine wpList_alloc_at (o := { dst := some 6, .. }) rfl 43 rfl [.int .u8 0, .int .u8 0, .int .u64 0, .string ⟨#[]⟩, .slice none 0 0] 5 z29 ?_; intro w2 hA2 hb2 hs2; clear hs2)
      | (go_at_call 30; refine (HO.out _ (hb1.trans (hb2.mono hb1.size))).mono ?_; rintro r u ⟨rfl, hu⟩; obtain rfl := hu.symm; have hA12 := hA1.below hb2; obtain ⟨c0, c1, c2, c3, c4⟩ := ex_cells5 hA12)
      | (go_at_call 170; refine (HH.out _ (hb1.trans (hb2.mono hb1.size))).mono ?_; rintro r w3 ⟨rfl, hb3⟩; refine Hid.out ?_))
    refine hidU ?_
    have l1 := hA1.lt
    have l2 := hA2.lt
    have hB3 : Below w.heap.size w w3 := (hb1.trans (hb2.mono hb1.size)).trans (hb3.mono (Nat.le_trans hb1.size hb2.size))
    have hA13 := hA12.below hb3
    have hA23 := hA2.below hb3
    clear c0 c1 c2 c3 c4 HO HH hb1 hb2 hb3 hA12 hA1 hA2
    obtain ⟨c0, c1, c2, c3, c4⟩ := ex_cells5 hA13
    go_wp2_with (first
      | ((with_reducible show wpList _ _ _ _ _ _); refine wpList_store_at (P := Tryz.prog) rfl 43 (.tmp 6) (.tmp 17) rfl w1.heap.size [y1, y2, y3, y4, y5] rfl rfl 43 _ hA23 i29 rfl hone ?_; intro w9 hA9 hb9 hs; clear hs))
    refine bodyPost_ret (results_at rfl _ _ w1.heap.size 43 [y1, y2, y3, y4, y5] _ rfl hA9 Tryz.underlying43 rfl i29) rfl ?_
    have hB9 : Below w.heap.size w w9 := hb9.below hB3 (by omega) hB3.size
    obtain ⟨hT9, hQ9⟩ := HQ.out w9 (Old.of_below hB9 (Nat.le_refl _)) hB9.size
    exact ⟨rfl, hT9, hQ9, But.of_below hB9⟩

end Go.Proofs.YtjgggmjjikopeaaGreatDoor

/- The document's own names. -/
namespace Go.Proofs.YtjgggmjjikopeaaGreatDoor
open Ieee Go.RowKit
set_option linter.unusedVariables false
theorem letterN_any (n : Nat) (w : World) : Calls Tryz.prog 99 #[.int .u8 (n : Int)] w fun e w' => e = .returned (.bool (isLet n)) ∧ w' = w := by
  go_enter Tryz.func99, Tryz.ntmps99
  go_wp2
  all_goals
    go_ret
    refine ⟨?_, rfl⟩
    simp [isLet]
    try (rw [Bool.eq_iff_iff]; simp)
    try omega

theorem digit_any (n : Nat) (w : World) : Calls Tryz.prog 97 #[.int .u8 (n : Int)] w fun e w' => e = .returned (.bool (isDig n)) ∧ w' = w := by
  go_enter Tryz.func97, Tryz.ntmps97
  go_wp2
  all_goals
    go_ret
    refine ⟨?_, rfl⟩
    simp [isDig]
    try (rw [Bool.eq_iff_iff]; simp)
    try omega

theorem digit_at (n : Nat) (w : World) (b : Bool) (hb : isDig n = b) : Calls Tryz.prog 97 #[.int .u8 (n : Int)] w fun e w' => e = .returned (.bool b) ∧ w' = w := by subst hb; exact digit_any n w
theorem letter_at (n : Nat) (w : World) (b : Bool) (hb : isLet n = b) : Calls Tryz.prog 99 #[.int .u8 (n : Int)] w fun e w' => e = .returned (.bool b) ∧ w' = w := by subst hb; exact letterN_any n w

set_option maxHeartbeats 400000 in
theorem refWords_any (w : World) : Calls Tryz.prog 167 #[] w fun e w' => e = .returned (.slice (some ⟨w.heap.size, 0, none⟩) 18 18) ∧ w' = w.alloc (.cells wordCells.toArray 9) := by
  go_enter Tryz.func167, Tryz.ntmps167
  go_wp2
  go_ret
  exact ⟨rfl, rfl⟩

set_option maxRecDepth 100000 in
set_option maxHeartbeats 800000 in
theorem refWord_any (s : ByteArray) (w : World) : Calls Tryz.prog 133 #[.string s] w fun e w' => e = .returned (.bool (isWd (bytes s))) ∧ Below w.heap.size w w' := by
  obtain ⟨B, hB⟩ : ∃ B, Hid (B = isWd (bytes s)) := ⟨_, (rfl : isWd (bytes s) = _)⟩
  rw [← hB.out]
  go_enter Tryz.func133, Tryz.ntmps133
  go_wp2_with fail
  refine (refWords_any _).mono ?_
  rintro e w1 ⟨rfl, hw1⟩
  have HC : Hid (∀ i, i < 18 → w1.cell? ⟨w.heap.size, i, none⟩ = some (.string ⟨(words.getD i []).toArray⟩)) := by
    intro i hi; rw [hw1]; exact wordCell w i hi
  have HB : Hid (Below w.heap.size w w1) := by
    show Below _ _ _
    rw [hw1]; exact (Below.refl _ _).alloc (Nat.le_refl _) _
  clear hw1
  go_wp2
  go_loopw [4] (fun j wr => ∃ i : Nat, j = .int .i64 (i : Int) ∧ i ≤ 18 ∧ Hid (wdFrom i (bytes s) = B) ∧ wr = w1) (fun j _ => 18 - (intOf j).toNat)
  case atStart => exact ⟨0, rfl, by omega, by show _ = _; rw [hB.out]; rfl, rfl⟩
  case round =>
    obtain ⟨i, rfl, hi, hr, rfl⟩ := hrel
    by_cases hc : i < 18
    · have hcell := HC.out i hc
      obtain ⟨W, hW⟩ : ∃ W : ByteArray, Hid (W = ⟨(words.getD i []).toArray⟩) := ⟨_, (rfl : (⟨(words.getD i []).toArray⟩ : ByteArray) = _)⟩
      rw [← hW.out] at hcell
      by_cases he : words.getD i [] = bytes s
      · have heq : (W.toList == s.toList) = true := by
          rw [hW.out, toList_bytes, toList_bytes, he]; simp [bytes]
        have hfin : Hid (B = true) := by show _ = _; rw [← hr.out]; exact wdFrom_yes i _ hc he
        clear he
        go_wp2
        go_ret
        exact ⟨by rw [hfin.out]; rfl, HB.out⟩
      · have heq : (W.toList == s.toList) = false := by
          rw [hW.out, toList_bytes, toList_bytes]
          simp only [beq_eq_false_iff_ne]
          intro h0
          exact he (by rw [← h0]; simp [bytes])
        have hr' : Hid (wdFrom (i + 1) (bytes s) = B) := by show _ = _; rw [← hr.out]; exact (wdFrom_no i _ hc he).symm
        clear he hr
        go_wp2
        go_roundw
        case rel => exact ⟨i + 1, by go_num, by omega, hr', trivial⟩
        case measure => simp [intOf]; omega
    · have hfin : Hid (B = false) := by
        show _ = _
        rw [← hr.out, show i = 18 by omega]
        simp [wdFrom, words]
      go_wp2
      go_ret
      exact ⟨by rw [hfin.out]; rfl, HB.out⟩

set_option maxRecDepth 100000 in
set_option maxHeartbeats 800000 in
theorem refName_any (s : ByteArray) (w : World) : Calls Tryz.prog 103 #[.string s] w fun e w' => e = .returned (.bool (isNm (bytes s))) ∧ Below w.heap.size w w' := by
  by_cases h0 : s.size = 0
  · rw [isNm_not s (.inl h0)]
    go_enter Tryz.func103, Tryz.ntmps103
    go_wp2
    go_ret
    exact ⟨rfl, Below.refl _ _⟩
  have hp : 0 < s.size := by omega
  by_cases h1 : 24 < s.size
  · rw [isNm_not s (.inr (.inl h1))]
    go_enter Tryz.func103, Tryz.ntmps103
    go_wp2
    go_ret
    exact ⟨rfl, Below.refl _ _⟩
  have hNM := isNm_ref s hp
  cases hlet : isLet s[0].toNat
  · rw [hNM, hlet]
    simp only [Bool.and_false, Bool.false_and]
    go_enter Tryz.func103, Tryz.ntmps103
    go_wp2_with (first | (go_at_call 99; refine (letter_at _ _ false hlet).mono ?_; rintro e w1 ⟨rfl, rfl⟩))
    go_ret
    exact ⟨rfl, Below.refl _ _⟩
  cases hw : isWd (bytes s)
  · have hNM2 : Hid (isNm (bytes s) = allAl (bytes s)) := by
      show _ = _
      rw [hNM, hlet, hw]; simp [show s.size ≤ 24 by omega]
    have HW : Hid (isWd (bytes s) = false) := hw
    rw [hNM2.out]
    obtain ⟨B, hB⟩ : ∃ B, Hid (B = allAl (bytes s)) := ⟨_, (rfl : allAl (bytes s) = _)⟩
    rw [← hB.out]
    clear hNM hNM2 hw
    go_enter Tryz.func103, Tryz.ntmps103
    go_wp2_with fail
    refine (letter_at _ _ true hlet).mono ?_
    rintro e w1 ⟨rfl, hw1⟩
    rw [hw1]
    clear hw1
    go_wp2_with fail
    refine (refWord_any s _).mono ?_
    rw [HW.out]
    rintro e w2 ⟨rfl, hb2⟩
    have HB2 : Hid (Below w.heap.size w w2) := hb2
    clear hb2
    go_wp2
    go_loopw [3] (fun j wr => ∃ i : Nat, j = .int .i64 (i : Int) ∧ i ≤ s.size ∧ Hid (allAl ((bytes s).drop i) = B) ∧ wr = w2) (fun j _ => s.size - (intOf j).toNat)
    case atStart => exact ⟨0, rfl, by omega, by show _ = _; rw [hB.out]; rfl, rfl⟩
    case round =>
      obtain ⟨i, rfl, hi, hr, rfl⟩ := hrel
      by_cases hc : i < s.size
      · cases a1 : isLet s[i].toNat
        · cases a2 : isDig s[i].toNat
          · have hfin : Hid (B = false) := by show _ = _; rw [← hr.out]; exact allAl_drop_no s i hc (by rw [a1, a2]; rfl)
            go_wp2_with (first | (go_at_call 99; refine (letter_at _ _ false a1).mono ?_; rintro e w3 ⟨rfl, rfl⟩) | (go_at_call 97; refine (digit_at _ _ false a2).mono ?_; rintro e w3 ⟨rfl, rfl⟩))
            go_ret
            exact ⟨by rw [hfin.out]; rfl, HB2.out⟩
          · have hr' : Hid (allAl ((bytes s).drop (i + 1)) = B) := by show _ = _; rw [← hr.out]; exact (allAl_drop_yes s i hc (by rw [a1, a2]; rfl)).symm
            clear hr
            go_wp2_with (first | (go_at_call 99; refine (letter_at _ _ false a1).mono ?_; rintro e w3 ⟨rfl, rfl⟩) | (go_at_call 97; refine (digit_at _ _ true a2).mono ?_; rintro e w3 ⟨rfl, rfl⟩))
            go_roundw
            case rel => exact ⟨i + 1, by go_num, by omega, hr', trivial⟩
            case measure => simp [intOf]; omega
        · have hr' : Hid (allAl ((bytes s).drop (i + 1)) = B) := by show _ = _; rw [← hr.out]; exact (allAl_drop_yes s i hc (by rw [a1]; rfl)).symm
          clear hr
          go_wp2_with (first | (go_at_call 99; refine (letter_at _ _ true a1).mono ?_; rintro e w3 ⟨rfl, rfl⟩))
          go_roundw
          case rel => exact ⟨i + 1, by go_num, by omega, hr', trivial⟩
          case measure => simp [intOf]; omega
      · have hfin : Hid (B = true) := by
          show _ = _
          rw [← hr.out, drop_end s i hc]; rfl
        go_wp2
        go_ret
        exact ⟨by rw [hfin.out]; rfl, HB2.out⟩
  · rw [isNm_not s (.inr (.inr hw))]
    have HW : Hid (isWd (bytes s) = true) := hw
    clear hNM hw
    go_enter Tryz.func103, Tryz.ntmps103
    go_wp2_with fail
    refine (letter_at _ _ true hlet).mono ?_
    rintro e w1 ⟨rfl, hw1⟩
    rw [hw1]
    clear hw1
    go_wp2_with fail
    refine (refWord_any s _).mono ?_
    rw [HW.out]
    rintro e w2 ⟨rfl, hb2⟩
    go_wp2
    go_ret
    exact ⟨rfl, hb2⟩

end Go.Proofs.YtjgggmjjikopeaaGreatDoor
