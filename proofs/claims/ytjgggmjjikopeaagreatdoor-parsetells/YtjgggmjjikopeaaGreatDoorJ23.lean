/- J -/
import Derived.Test.YtjgggmjjikopeaaGreatDoorJ22
set_option linter.unusedVariables false
set_option maxRecDepth 100000
set_option maxHeartbeats 6400000
open Go.RowKit
namespace Go.Proofs.YtjgggmjjikopeaaGreatDoor
def q7 (a : Option Addr) (n c k en er pl ne bl : Nat) : List Value := [.slice a n c, .int .i64 (k : Int), .int .i64 (en : Int), .int .i64 (er : Int), .int .i64 (pl : Int), .int .i64 (ne : Int), .int .i64 (bl : Int)]
theorem zv {w : World} {g : Nat} {a : Option Addr} {n c k en er pl ne bl : Nat} (h : At 71 w g (q7 a n c k en er pl ne bl)) : w.cell? ⟨g, 0, none⟩ = some (.slice a n c) /\ w.cell? ⟨g, 1, none⟩ = some (.int .i64 (k : Int)) /\ w.cell? ⟨g, 2, none⟩ = some (.int .i64 (en : Int)) /\ w.cell? ⟨g, 3, none⟩ = some (.int .i64 (er : Int)) /\ w.cell? ⟨g, 4, none⟩ = some (.int .i64 (pl : Int)) /\ w.cell? ⟨g, 5, none⟩ = some (.int .i64 (ne : Int)) /\ w.cell? ⟨g, 6, none⟩ = some (.int .i64 (bl : Int)) := by
 refine ⟨?_, ?_, ?_, ?_, ?_, ?_, ?_⟩ <;> (rw [h.cell]; rfl)
structure Qd (B : Nat) (w : World) (g : Nat) (L : List Tk) (a : Option Addr) (c k en er pl ne bl : Nat) : Prop where
 cell : At 71 w g (q7 a L.length c k en er pl ne bl)
 toks : L = [] \/ ∃ gt, a = some ⟨gt, 0, none⟩ /\ gt ≠ g /\ gt < B /\ w.rangeAt gt 0 (Yp L)
 le : k <= L.length
 len : L.length <= 1048576
 low : g < B
theorem Qd.lt {B : Nat} {w : World} {g : Nat} {L : List Tk} {a : Option Addr} {c k en er pl ne bl : Nat} (h : Qd B w g L a c k en er pl ne bl) : g < w.heap.size := h.cell.lt
theorem zce {w : World} {gt : Nat} {L : List Tk} (hL : L ≠ []) (h : w.rangeAt gt 0 (Yp L)) : gt < w.heap.size := by
 cases L with
 | nil => exact absurd rfl hL
 | cons t r => exact zaX (h 0 _ rfl)
theorem Qd.keep {B : Nat} {w w' : World} {g : Nat} {L : List Tk} {a : Option Addr} {c k en er pl ne bl : Nat} (h : Qd B w g L a c k en er pl ne bl) (hb : ∀ j, j < w.heap.size -> j < B -> w'.heap[j]? = w.heap[j]?) : Qd B w' g L a c k en er pl ne bl := by
 refine ⟨?_, ?_, h.le, h.len, h.low⟩
 ·unfold At
  rw [hb g h.lt h.low]
  exact h.cell
 ·by_cases hL : L = []
  ·exact .inl hL
  ·rcases h.toks with q | ⟨gt, h1, h2, h3, h4⟩
   ·exact .inl q
   ·exact .inr ⟨gt, h1, h2, h3, fun j v hj => by rw [World.cell?_of_block (w := w) (hb gt (zce hL h4) h3)]; exact h4 j v hj⟩
theorem Qd.below {B : Nat} {w w' : World} {g : Nat} {L : List Tk} {a : Option Addr} {c k en er pl ne bl : Nat} (h : Qd B w g L a c k en er pl ne bl) (hb : Below w.heap.size w w') : Qd B w' g L a c k en er pl ne bl := h.keep fun j hj _ => hb.block j hj
theorem Qd.but {B : Nat} {w w' : World} {g b : Nat} {L : List Tk} {a : Option Addr} {c k en er pl ne bl : Nat} (h : Qd B w g L a c k en er pl ne bl) (hb : But b w w') (hB : B <= b) : Qd B w' g L a c k en er pl ne bl := h.keep fun j hj hl => hb.block j hj (by omega)
theorem Qd.set {B : Nat} {w w' : World} {g : Nat} {L : List Tk} {a : Option Addr} {c k en er pl ne bl k' er' pl' ne' bl' : Nat} (h : Qd B w g L a c k en er pl ne bl) (hA : At 71 w' g (q7 a L.length c k' en er' pl' ne' bl')) (hb : But g w w') (hk : k' <= L.length) : Qd B w' g L a c k' en er' pl' ne' bl' := by
 refine ⟨hA, ?_, hk, h.len, h.low⟩
 by_cases hL : L = []
 ·exact .inl hL
 ·rcases h.toks with q | ⟨gt, h1, h2, h3, h4⟩
  ·exact .inl q
  ·exact .inr ⟨gt, h1, h2, h3, fun j v hj => by rw [World.cell?_of_block (w := w) (hb.block gt (zce hL h4) h2)]; exact h4 j v hj⟩
def za (L : List Tk) (k en : Nat) : List Tk := L.drop k ++ [⟨0, [], en, 0⟩]
theorem YD {L : List Tk} {k en : Nat} {t : Tk} (h : L[k]? = some t) : hdT (za L k en) = t /\ (za L k en).tail = za L (k + 1) en := by
 have hk := (List.getElem?_eq_some_iff.1 h).1
 have : L.drop k = t :: L.drop (k + 1) := by
  rw [List.drop_eq_getElem_cons hk]
  rw [yD hk] at h
  rw [yZ h]
 unfold za
 rw [this]
 exact ⟨rfl, rfl⟩
theorem Zn {L : List Tk} {k en : Nat} (h : L.length <= k) : za L k en = [⟨0, [], en, 0⟩] := by
 unfold za
 rw [List.drop_of_length_le h]
 rfl
theorem zeB {w : World} {gt k : Nat} {L : List Tk} {t : Tk} (h : w.rangeAt gt 0 (Yp L)) (ht : L[k]? = some t) : w.rangeAt gt (k * 5) t.cells := by
 intro j v hj
 have hjl : j < 5 := (List.getElem?_eq_some_iff.1 hj).1
 have e := qv L k t ht
 have := h (k * 5 + j) v (by
  have q : (((Yp L).drop (k * 5)).take 5)[j]? = some v := by rw [e]; exact hj
  rw [List.getElem?_take, zi hjl, List.getElem?_drop] at q
  exact q)
 rwa [Nat.zero_add] at this
theorem eqF (e p : Nat) (u : World) : (Op.equalIn 10000 29 (.agg #[.int .i64 (e : Int), .int .i64 (p : Int)]) (.agg #[.int .i64 0, .int .i64 0])).run Tryz.prog u = .ok (decide (e = 0) && decide (p = 0)) u := Ke e p 0 0 u
theorem zJ (g n : Nat) (a : Option Addr) (c k en er pl ne bl : Nat) (w : World) (h : At 71 w g (q7 a n c k en er pl ne bl)) :
  Calls Tryz.prog 30 #[.pointer (some ⟨g, 0, none⟩)] w fun r w' => r = .returned (.bool (decide (er = 0) && decide (pl = 0))) /\ w' = w := by
 obtain ⟨q0, q1, q2, q3, q4, q5, q6⟩ := zv h
 have hq := fun u => eqF er pl u
 generalize (decide (er = 0) && decide (pl = 0)) = b at *
 clear h
 go_enter Tryz.func30, Tryz.ntmps30
 go_wp2
 go_ret
 exact ⟨rfl, rfl⟩
theorem YJ {B : Nat} (g : Nat) (L : List Tk) (a : Option Addr) (c k en er pl ne bl : Nat) (e p : Nat) (w : World) (h : Qd B w g L a c k en er pl ne bl) :
  Calls Tryz.prog 40 #[.pointer (some ⟨g, 0, none⟩), .int .i64 (e : Int), .int .i64 (p : Int)] w fun r w' => r = .returned (.tuple #[]) /\ (if er = 0 /\ pl = 0 then Qd B w' g L a c L.length en e p ne bl else Qd B w' g L a c L.length en er pl ne bl) /\ But g w w' := by
 have HQ : Hid (Qd B w g L a c k en er pl ne bl) := h
 have hA := h.cell
 have hlen := h.len
 clear h
 generalize hn : L.length = n at *
 have hq := fun u => eqF er pl u
 obtain ⟨q0, q1, q2, q3, q4, q5, q6⟩ := zv hA
 by_cases hc : er = 0 /\ pl = 0
 ·simp only [zi hc]
  have e1 : (decide (er = 0) && decide (pl = 0)) = true := by rw [yy hc.1, yy hc.2]; rfl
  rw [e1] at hq
  clear e1
  go_enter Tryz.func40, Tryz.ntmps40
  go_wp2_with (first
   | (refine yV rfl rfl hA 3 (.int .i64 (e : Int)) (.int .i64 (p : Int)) rfl rfl i25 (yq e p) ?_; intro w1 hA1 hb1 hs1; clear hs1; refine zb ?_))
  refine zd ?_
  have hA1 : At 71 w1 g (q7 a n c k en e p ne bl) := hA1
  clear q0 q1 q2 q3 q4 q5 q6
  obtain ⟨q0, q1, q2, q3, q4, q5, q6⟩ := zv hA1
  go_wp2_with (first
   | (refine zz rfl rfl hA1 1 (.int .i64 (n : Int)) rfl rfl i3 ?_; intro w2 hA2 hb2; refine zb ?_))
  refine zd ?_
  have hA2 : At 71 w2 g (q7 a n c n en e p ne bl) := hA2
  clear q0 q1 q2 q3 q4 q5 q6
  go_wp2
  go_end0
  subst hn
  exact ⟨rfl, HQ.out.set hA2 (hb1.trans hb2) (zj _), hb1.trans hb2⟩
 ·simp only [ze hc]
  have e1 : (decide (er = 0) && decide (pl = 0)) = false := by
   rw [<- Bool.not_eq_true, yX, decide_eq_true_iff, decide_eq_true_iff]
   exact hc
  rw [e1] at hq
  clear e1
  go_enter Tryz.func40, Tryz.ntmps40
  go_wp2_with (first
   | (refine zz rfl rfl hA 1 (.int .i64 (n : Int)) rfl rfl i3 ?_; intro w2 hA2 hb2; refine zb ?_))
  refine zd ?_
  have hA2 : At 71 w2 g (q7 a n c n en er pl ne bl) := hA2
  clear q0 q1 q2 q3 q4 q5 q6
  go_wp2
  go_end0
  subst hn
  exact ⟨rfl, HQ.out.set hA2 hb2 (zj _), hb2⟩
theorem Kh {B : Nat} {w : World} {g : Nat} {L : List Tk} {a : Option Addr} {c k en er pl ne bl : Nat} (h : Qd B w g L a c k en er pl ne bl) (hk : k < L.length) : ∃ gt t, a = some ⟨gt, 0, none⟩ /\ L[k]? = some t /\ w.rangeAt gt (k * 5) t.cells /\ hdT (za L k en) = t /\ gt < B := by
 rcases h.toks with q | ⟨gt, h1, h2, h3, h4⟩
 ·rw [q] at hk; simp at hk
 ·have ht : L[k]? = some (L[k]) := yD hk
  exact ⟨gt, L[k], h1, ht, zeB h4 ht, (YD ht).1, h3⟩
theorem ZU {B : Nat} (g : Nat) (L : List Tk) (a : Option Addr) (c k en er pl ne bl : Nat) (w : World) (h : Qd B w g L a c k en er pl ne bl) :
  Calls Tryz.prog 41 #[.pointer (some ⟨g, 0, none⟩)] w fun r w' => r = .returned (.int .i64 ((hdT (za L k en)).place : Int)) /\ ∃ m, w' = w.drewN m := by
 have hA := h.cell
 have hle := h.le
 have hlen := h.len
 obtain ⟨q0, q1, q2, q3, q4, q5, q6⟩ := zv hA
 by_cases hc : k < L.length
 ·obtain ⟨gt, t, rfl, ht, hr, hd, -⟩ := Kh h hc
  rw [hd]
  obtain ⟨t0, t1, t2, t3, t4⟩ := J8 hr
  obtain ⟨K, T, p, b⟩ := t
  dsimp only at t0 t1 t2 t3 t4 ⊢
  generalize L.length = n at *
  clear h hA hr hd ht
  go_enter Tryz.func41, Tryz.ntmps41
  go_wp2_with fail
  go_quiet (fail)
  go_wp2_with fail
  go_quiet (fail)
  go_wp2
  go_ret
  exact ⟨rfl, _, World.drewN_drewN _ _ _⟩
 ·have hd : hdT (za L k en) = ⟨0, [], en, 0⟩ := by rw [Zn (by omega)]; rfl
  rw [hd]
  dsimp only
  generalize L.length = n at *
  clear h hA hd
  go_enter Tryz.func41, Tryz.ntmps41
  go_wp2_with fail
  go_quiet (fail)
  go_wp2
  go_ret
  exact ⟨rfl, _, rfl⟩
def isB (er pl : Nat) (l : List Tk) (x : List UInt8) : Bool := (decide (er = 0) && decide (pl = 0)) && decide ((hdT l).text = x)
theorem YT {B : Nat} (g : Nat) (L : List Tk) (a : Option Addr) (c k en er pl ne bl : Nat) (x : ByteArray) (hx : bytes x ≠ []) (w : World) (h : Qd B w g L a c k en er pl ne bl) :
  Calls Tryz.prog 63 #[.pointer (some ⟨g, 0, none⟩), .string x] w fun r w' => r = .returned (.bool (isB er pl (za L k en) (bytes x))) /\ ∃ m, w' = w.drewN m := by
 have hA := h.cell
 have hle := h.le
 have hlen := h.len
 have hO := fun m => zJ g L.length a c k en er pl ne bl (w.drewN m) (hA.drewN m)
 obtain ⟨q0, q1, q2, q3, q4, q5, q6⟩ := zv hA
 unfold isB
 cases hc : (decide (er = 0) && decide (pl = 0)) with
 | false =>
  rw [hc] at hO
  rw [Bool.false_and]
  generalize L.length = n at *
  clear h hA hx hc
  go_enter Tryz.func63, Tryz.ntmps63
  go_wp2_with fail
  go_quiet (first | (go_at_call 30; exact Calls.quiet_of_same (hO _)))
  go_wp2
  go_ret
  exact ⟨rfl, _, rfl⟩
 | true =>
  rw [hc] at hO
  rw [Bool.true_and]
  by_cases hk : k < L.length
  ·obtain ⟨gt, t, rfl, ht, hr, hd, -⟩ := Kh h hk
   rw [hd]
   obtain ⟨t0, t1, t2, t3, t4⟩ := J8 hr
   obtain ⟨K, T, p, b⟩ := t
   dsimp only at t0 t1 t2 t3 t4 ⊢
   by_cases he : T = bytes x
   focus
    have hs : (T == x.toList) = true := by rw [zf, beq_iff_eq]; exact he
    rw [yy he]
   rotate_left
   focus
    have hs : (T == x.toList) = false := by rw [zf, zt]; exact he
    rw [zN he]
   rotate_left
   all_goals
    generalize L.length = n at *
    clear h hA hr hd ht hx hc he
    go_enter Tryz.func63, Tryz.ntmps63
    go_wp2_with fail
    go_quiet (first | (go_at_call 30; exact Calls.quiet_of_same (hO _)))
    go_wp2
    go_ret
    exact ⟨rfl, _, rfl⟩
  ·have hd : hdT (za L k en) = ⟨0, [], en, 0⟩ := by rw [Zn (by omega)]; rfl
   rw [hd, zN (fun e => hx e.symm)]
   generalize L.length = n at *
   clear h hA hd hx hc
   go_enter Tryz.func63, Tryz.ntmps63
   go_wp2_with fail
   go_quiet (first | (go_at_call 30; exact Calls.quiet_of_same (hO _)))
   go_wp2
   go_ret
   exact ⟨rfl, _, rfl⟩
