/- J -/
import Derived.Test.YtjgggmjjikopeaaGreatDoorJ23
set_option linter.unusedVariables false
set_option maxRecDepth 100000
set_option maxHeartbeats 6400000
open Go.RowKit
namespace Go.Proofs.YtjgggmjjikopeaaGreatDoor
theorem Qd.drewN {B : Nat} {w : World} {g : Nat} {L : List Tk} {a : Option Addr} {c k en er pl ne bl : Nat} (h : Qd B w g L a c k en er pl ne bl) (m : Nat) : Qd B (w.drewN m) g L a c k en er pl ne bl := h.keep fun j _ _ => rfl
theorem below_drewN (w : World) (m : Nat) : Below w.heap.size w (w.drewN m) := ⟨rfl, rfl, rfl, zj _, fun _ _ => rfl⟩
theorem zf9 {er pl k en : Nat} {L : List Tk} {x : List UInt8} (hx : x ≠ []) (h : isB er pl (za L k en) x = true) : k < L.length := by
 by_cases hk : k < L.length
 ·exact hk
 ·unfold isB at h
  rw [Zn (by omega)] at h
  simp only [yX, decide_eq_true_iff] at h
  exact absurd h.2.symm hx
theorem Zs {B : Nat} (g : Nat) (L : List Tk) (a : Option Addr) (c k en er pl ne bl : Nat) (x : ByteArray) (hx : bytes x ≠ []) (w : World) (h : Qd B w g L a c k en er pl ne bl) :
  Calls Tryz.prog 64 #[.pointer (some ⟨g, 0, none⟩), .string x] w fun r w' => r = .returned (.bool (isB er pl (za L k en) (bytes x))) /\ Qd B w' g L a c (if isB er pl (za L k en) (bytes x) = true then k + 1 else k) en er pl ne bl /\ But g w w' := by
 have hI := YT g L a c k en er pl ne bl x hx w h
 have HQ : Hid (Qd B w g L a c k en er pl ne bl) := h
 cases hb : isB er pl (za L k en) (bytes x) with
 | false =>
  rw [hb] at hI
  simp only [ZV, if_false]
  clear h hb hx
  go_enter Tryz.func64, Tryz.ntmps64
  go_wp2_with (first
   | (go_at_call 63; refine hI.mono ?_; rintro r w1 ⟨rfl, m, rfl⟩))
  go_ret
  exact ⟨rfl, HQ.out.drewN m, (But.refl g w).drewN m⟩
 | true =>
  have hk := zf9 hx hb
  rw [hb] at hI
  simp only [if_true]
  have hA := fun m => h.cell.drewN m
  have hlen := h.len
  clear h hb hx
  generalize hn : L.length = n at *
  go_enter Tryz.func64, Tryz.ntmps64
  go_wp2_with (first
   | (go_at_call 63; refine hI.mono ?_; rintro r w1 ⟨rfl, m, rfl⟩; obtain ⟨q0, q1, q2, q3, q4, q5, q6⟩ := zv (hA m))
   | (refine zz rfl rfl (hA m) 1 (.int .i64 ((k : Int) + 1)) rfl rfl i3 ?_; intro w2 hA2 hb2; refine zb ?_))
  refine zd ?_
  have hA2 : At 71 w2 g (q7 a n c (k + 1) en er pl ne bl) := hA2
  clear q0 q1 q2 q3 q4 q5 q6 hA
  go_wp2
  go_ret
  subst hn
  exact ⟨rfl, (HQ.out.drewN m).set hA2 hb2 hk, ((But.refl g w).drewN m).trans hb2⟩
def KL (B g : Nat) (L : List Tk) (a : Option Addr) (c en ne bl : Nat) {α : Type} (R : Rs α) (w' : World) : Prop :=
 match R with
 | .ok _ l => ∃ k, l = za L k en /\ Qd B w' g L a c k en 0 0 ne bl
 | .bad e p => Qd B w' g L a c L.length en e p ne bl
theorem Xq {B : Nat} (g : Nat) (L : List Tk) (a : Option Addr) (c k en ne bl : Nat) (x : ByteArray) (hx : bytes x ≠ []) (w : World) (h : Qd B w g L a c k en 0 0 ne bl) :
  Calls Tryz.prog 67 #[.pointer (some ⟨g, 0, none⟩), .string x] w fun r w' => r = .returned (.tuple #[]) /\ KL B g L a c en ne bl (zq (bytes x) (za L k en)) w' /\ But g w w' := by
 have hT := Zs g L a c k en 0 0 ne bl x hx w h
 have hie : isB 0 0 (za L k en) (bytes x) = decide ((hdT (za L k en)).text = bytes x) := rfl
 by_cases hc : (hdT (za L k en)).text = bytes x
 ·have hm : zq (bytes x) (za L k en) = .ok () (za L k en).tail := by unfold zq; rw [zi hc]
  rw [hm]
  rw [hie, yy hc] at hT
  simp only [if_true] at hT
  have HR : Hid (∀ w', Qd B w' g L a c (k + 1) en 0 0 ne bl -> KL B g L a c en ne bl (.ok () (za L k en).tail : Rs Unit) w') := fun w' hQ => ⟨k + 1, by
   obtain ⟨t, ht⟩ : ∃ t, L[k]? = some t := by
    have hk := zf9 (er := 0) (pl := 0) hx (by rw [hie, yy hc])
    exact ⟨_, yD hk⟩
   exact (YD ht).2, hQ⟩
  clear hc hx h hm hie
  go_enter Tryz.func67, Tryz.ntmps67
  go_wp2_with (first
   | (go_at_call 64; refine hT.mono ?_; rintro r w1 ⟨rfl, hR, hb1⟩))
  go_end0
  exact ⟨rfl, HR.out _ hR, hb1⟩
 ·have hm : zq (bytes x) (za L k en) = .bad 4 (hdT (za L k en)).place := by unfold zq; rw [ze hc]
  rw [hm]
  rw [hie, zN hc] at hT
  simp only [ZV, if_false] at hT
  have HN : Hid (∀ u, Qd B u g L a c k en 0 0 ne bl -> Calls Tryz.prog 41 #[.pointer (some ⟨g, 0, none⟩)] u fun r w' => r = .returned (.int .i64 ((hdT (za L k en)).place : Int)) /\ ∃ m, w' = u.drewN m) := fun u hu => ZU g L a c k en 0 0 ne bl u hu
  generalize (hdT (za L k en)).place = p at HN ⊢
  have HB : Hid (∀ u, Qd B u g L a c k en 0 0 ne bl -> Calls Tryz.prog 40 #[.pointer (some ⟨g, 0, none⟩), .int .i64 4, .int .i64 (p : Int)] u fun r w' => r = .returned (.tuple #[]) /\ Qd B w' g L a c L.length en 4 p ne bl /\ But g u w') := fun u hu => by
   have := YJ g L a c k en 0 0 ne bl 4 p u hu
   simpa using this
  clear hc hx h hm hie
  go_enter Tryz.func67, Tryz.ntmps67
  go_wp2_with (first
   | (go_at_call 64; refine hT.mono ?_; rintro r w1 ⟨rfl, hR, hb1⟩)
   | (go_at_call 41; refine (HN.out _ hR).mono ?_; rintro r w2 ⟨rfl, m, rfl⟩)
   | (go_at_call 40; refine (HB.out _ (hR.drewN m)).mono ?_; rintro r w3 ⟨rfl, hR3, hb3⟩))
  go_end0
  exact ⟨rfl, hR3, (hb1.drewN m).trans hb3⟩
theorem Zo {B : Nat} (g : Nat) (L : List Tk) (a : Option Addr) (c k en er pl ne bl : Nat) (he : er ≠ 0) (x : ByteArray) (hx : bytes x ≠ []) (w : World) (h : Qd B w g L a c k en er pl ne bl) :
  Calls Tryz.prog 67 #[.pointer (some ⟨g, 0, none⟩), .string x] w fun r w' => r = .returned (.tuple #[]) /\ Qd B w' g L a c L.length en er pl ne bl /\ But g w w' := by
 have hT := Zs g L a c k en er pl ne bl x hx w h
 have hie : isB er pl (za L k en) (bytes x) = false := by unfold isB; rw [zN he]; rfl
 rw [hie] at hT
 simp only [ZV, if_false] at hT
 have HN : Hid (∀ u, Qd B u g L a c k en er pl ne bl -> Calls Tryz.prog 41 #[.pointer (some ⟨g, 0, none⟩)] u fun r w' => r = .returned (.int .i64 ((hdT (za L k en)).place : Int)) /\ ∃ m, w' = u.drewN m) := fun u hu => ZU g L a c k en er pl ne bl u hu
 generalize (hdT (za L k en)).place = p at HN
 have HB : Hid (∀ u, Qd B u g L a c k en er pl ne bl -> Calls Tryz.prog 40 #[.pointer (some ⟨g, 0, none⟩), .int .i64 4, .int .i64 (p : Int)] u fun r w' => r = .returned (.tuple #[]) /\ Qd B w' g L a c L.length en er pl ne bl /\ But g u w') := fun u hu => by
  have := YJ g L a c k en er pl ne bl 4 p u hu
  simpa [he] using this
 clear hx h hie he
 go_enter Tryz.func67, Tryz.ntmps67
 go_wp2_with (first
  | (go_at_call 64; refine hT.mono ?_; rintro r w1 ⟨rfl, hR, hb1⟩)
  | (go_at_call 41; refine (HN.out _ hR).mono ?_; rintro r w2 ⟨rfl, m, rfl⟩)
  | (go_at_call 40; refine (HB.out _ (hR.drewN m)).mono ?_; rintro r w3 ⟨rfl, hR3, hb3⟩))
 go_end0
 exact ⟨rfl, hR3, (hb1.drewN m).trans hb3⟩
theorem Vw {B : Nat} (g : Nat) (L : List Tk) (a : Option Addr) (c k en ne bl : Nat) (p : Nat) (hne : ne <= 1048576) (w : World) (h : Qd B w g L a c k en 0 0 ne bl) :
  Calls Tryz.prog 169 #[.pointer (some ⟨g, 0, none⟩), .int .i64 (p : Int)] w fun r w' => r = .returned (.tuple #[]) /\ (if 32 <= ne then Qd B w' g L a c L.length en 160 p (ne + 1) bl else Qd B w' g L a c k en 0 0 (ne + 1) bl) /\ But g w w' := by
 have HQ : Hid (Qd B w g L a c k en 0 0 ne bl) := h
 have HB : Hid (∀ u, Qd B u g L a c k en 0 0 (ne + 1) bl -> Calls Tryz.prog 40 #[.pointer (some ⟨g, 0, none⟩), .int .i64 160, .int .i64 (p : Int)] u fun r w' => r = .returned (.tuple #[]) /\ Qd B w' g L a c L.length en 160 p (ne + 1) bl /\ But g u w') := fun u hu => by
  have := YJ g L a c k en 0 0 (ne + 1) bl 160 p u hu
  simpa using this
 have hA := h.cell
 have hle := h.le
 clear h
 generalize hn : L.length = n at *
 obtain ⟨q0, q1, q2, q3, q4, q5, q6⟩ := zv hA
 by_cases hc : 32 <= ne
 focus
  simp only [zi hc]
 rotate_left
 focus
  simp only [ze hc]
 rotate_left
 all_goals
  go_enter Tryz.func169, Tryz.ntmps169
  go_wp2_with (first
   | (refine zz rfl rfl hA 5 (.int .i64 ((ne : Int) + 1)) rfl rfl i3 ?_; intro w1 hA1 hb1; refine zb ?_))
  refine zd ?_
  have hA1 : At 71 w1 g (q7 a n c k en 0 0 (ne + 1) bl) := hA1
  clear q0 q1 q2 q3 q4 q5 q6
  obtain ⟨q0, q1, q2, q3, q4, q5, q6⟩ := zv hA1
  have hQ1 : Qd B w1 g L a c k en 0 0 (ne + 1) bl := by subst hn; exact HQ.out.set hA1 hb1 hle
 ·go_wp2_with (first
   | (go_at_call 40; refine (HB.out _ hQ1).mono ?_; rintro r w3 ⟨rfl, hR3, hb3⟩))
  go_end0
  exact ⟨rfl, hR3, hb1.trans hb3⟩
 ·go_wp2
  go_end0
  exact ⟨rfl, hQ1, hb1⟩
