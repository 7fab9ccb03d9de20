/- J -/
import Derived.Test.YtjgggmjjikopeaaGreatDoorJ31
import Derived.Test.YtjgggmjjikopeaaGreatDoorJ32
set_option linter.unusedVariables false
open Go.RowKit
namespace Go.Proofs.YtjgggmjjikopeaaGreatDoor
structure Vs (B : Nat) (w : World) (T : TypeId) (cs : List Value) (g : Nat) (L : List Tk) (a : Option Addr) (c k en er pl ne bl : Nat) (u : World) : Prop where
 q : Qd B u g L a c k en er pl ne bl
 bt : But g w u
 own : At T u w.heap.size cs
 lt : g < w.heap.size
section
variable {B : Nat} {w : World} {T : TypeId} {cs : List Value} {g : Nat} {L : List Tk} {a : Option Addr} {c k en er pl ne bl : Nat} {u : World}
theorem Vs.below (h : Vs B w T cs g L a c k en er pl ne bl u) {u' : World} (hb : Below u.heap.size u u') : Vs B w T cs g L a c k en er pl ne bl u' :=
 ⟨h.q.below hb, h.bt.trans (But.of_below hb), h.own.below hb, h.lt⟩
theorem Vs.step (h : Vs B w T cs g L a c k en er pl ne bl u) {u' : World} {k' er' pl' ne' bl' : Nat} (hq : Qd B u' g L a c k' en er' pl' ne' bl') (hb : But g u u') : Vs B w T cs g L a c k' en er' pl' ne' bl' u' :=
 ⟨hq, h.bt.trans hb, hb.at h.own (by have := h.lt; omega), h.lt⟩
theorem Vs.other (h : Vs B w T cs g L a c k en er pl ne bl u) {u' : World} {b : Nat} (hB : B <= w.heap.size) (hb : But b u u') (hw : w.heap.size < b) : Vs B w T cs g L a c k en er pl ne bl u' :=
 ⟨h.q.but hb (by omega), h.bt.fresh hb (by omega), hb.at h.own (by omega), h.lt⟩
def VsC (B : Nat) (w : World) (T : TypeId) (cs : List Value) (g : Nat) (L : List Tk) (a : Option Addr) (c k en er pl ne bl : Nat) (u : World) (R : Ending) (r : Ending) (u' : World) : Prop :=
 r = R /\ Vs B w T cs g L a c k en er pl ne bl u' /\ But g u u'
theorem Vs.c41 (h : Vs B w T cs g L a c k en er pl ne bl u) : Calls Tryz.prog 41 #[.pointer (some ⟨g, 0, none⟩)] u (VsC B w T cs g L a c k en er pl ne bl u (.returned (.int .i64 ((hdT (za L k en)).place : Int)))) := by
 refine (ZU g L a c k en er pl ne bl u h.q).mono ?_
 rintro r u' ⟨rfl, m, rfl⟩
 exact ⟨rfl, h.below (below_drewN u m), But.of_below (below_drewN u m)⟩
theorem Vs.c63 (h : Vs B w T cs g L a c k en er pl ne bl u) (x : ByteArray) (hx : bytes x ≠ []) : Calls Tryz.prog 63 #[.pointer (some ⟨g, 0, none⟩), .string x] u (VsC B w T cs g L a c k en er pl ne bl u (.returned (.bool (isB er pl (za L k en) (bytes x))))) := by
 refine (YT g L a c k en er pl ne bl x hx u h.q).mono ?_
 rintro r u' ⟨rfl, m, rfl⟩
 exact ⟨rfl, h.below (below_drewN u m), But.of_below (below_drewN u m)⟩
theorem Vs.c64 (h : Vs B w T cs g L a c k en er pl ne bl u) (x : ByteArray) (hx : bytes x ≠ []) : Calls Tryz.prog 64 #[.pointer (some ⟨g, 0, none⟩), .string x] u (VsC B w T cs g L a c (if isB er pl (za L k en) (bytes x) = true then k + 1 else k) en er pl ne bl u (.returned (.bool (isB er pl (za L k en) (bytes x))))) := by
 refine (Zs g L a c k en er pl ne bl x hx u h.q).mono ?_
 rintro r u' ⟨rfl, hq, hb⟩
 exact ⟨rfl, h.step hq hb, hb⟩
theorem Vs.c40 (h : Vs B w T cs g L a c k en 0 0 ne bl u) (e p : Nat) : Calls Tryz.prog 40 #[.pointer (some ⟨g, 0, none⟩), .int .i64 (e : Int), .int .i64 (p : Int)] u (VsC B w T cs g L a c L.length en e p ne bl u (.returned (.tuple #[]))) := by
 refine (YJ g L a c k en 0 0 ne bl e p u h.q).mono ?_
 rintro r u' ⟨rfl, hq, hb⟩
 rw [zi ⟨rfl, rfl⟩] at hq
 exact ⟨rfl, h.step hq hb, hb⟩
theorem Vs.c40b (h : Vs B w T cs g L a c k en er pl ne bl u) (he : er ≠ 0) (e p : Nat) : Calls Tryz.prog 40 #[.pointer (some ⟨g, 0, none⟩), .int .i64 (e : Int), .int .i64 (p : Int)] u (VsC B w T cs g L a c L.length en er pl ne bl u (.returned (.tuple #[]))) := by
 refine (YJ g L a c k en er pl ne bl e p u h.q).mono ?_
 rintro r u' ⟨rfl, hq, hb⟩
 rw [ze (fun q => he q.1)] at hq
 exact ⟨rfl, h.step hq hb, hb⟩
theorem Vs.c30 (h : Vs B w T cs g L a c k en 0 0 ne bl u) : Calls Tryz.prog 30 #[.pointer (some ⟨g, 0, none⟩)] u fun r w' => r = .returned (.bool true) /\ w' = u := zJ g L.length a c k en 0 0 ne bl u h.q.cell
theorem Vs.c30b (h : Vs B w T cs g L a c k en er pl ne bl u) (he : er ≠ 0) : Calls Tryz.prog 30 #[.pointer (some ⟨g, 0, none⟩)] u fun r w' => r = .returned (.bool false) /\ w' = u := by
 have := zJ g L.length a c k en er pl ne bl u h.q.cell
 rw [zN he, Bool.false_and] at this
 exact this
theorem Vs.c132 (h : Vs B w T cs g L a c k en 0 0 ne bl u) (hok : ∀ t ∈ L, Zd t) (hBw : B <= w.heap.size) : Calls Tryz.prog 132 #[.pointer (some ⟨g, 0, none⟩)] u (VsC B w T cs g L a c (if (zW (hdT (za L k en))).isSome = true then k + 1 else k) en 0 0 ne bl u (.returned (.tuple #[.agg (zy (JU (zW (hdT (za L k en)))).1 (JU (zW (hdT (za L k en)))).2).toArray, .bool (zW (hdT (za L k en))).isSome]))) := by
 refine (jn g L a c k en ne bl hok u h.q (zQ hBw h.bt.size)).mono ?_
 rintro r u' ⟨rfl, hq, hb⟩
 exact ⟨rfl, h.step hq hb, hb⟩
theorem Vs.c132b (h : Vs B w T cs g L a c k en er pl ne bl u) (he : er ≠ 0) (hBw : B <= w.heap.size) : Calls Tryz.prog 132 #[.pointer (some ⟨g, 0, none⟩)] u (VsC B w T cs g L a c k en er pl ne bl u (.returned (.tuple #[.agg (zy 0 0).toArray, .bool false]))) := by
 refine (zbk g L a c k en er pl ne bl he u h.q (zQ hBw h.bt.size)).mono ?_
 rintro r u' ⟨rfl, hq, hb⟩
 exact ⟨rfl, h.step hq hb, hb⟩
end
theorem Xb (l : List Tk) (x : List UInt8) : isB 0 0 l x = decide ((hdT l).text = x) := by simp [isB]
theorem ju {L : List Tk} {k en : Nat} {v : Nat × Nat} (h : zW (hdT (za L k en)) = some v) : (za L k en).tail = za L (k + 1) en := by
 by_cases hk : k < L.length
 ·exact (YD (yD hk)).2
 ·rw [Zn (by omega)] at h
  cases h
theorem zP {L : List Tk} {k en : Nat} {x : List UInt8} (hx : x ≠ []) (h : (hdT (za L k en)).text = x) : (za L k en).tail = za L (k + 1) en := by
 by_cases hk : k < L.length
 ·exact (YD (yD hk)).2
 ·rw [Zn (by omega)] at h
  exact absurd h.symm hx
theorem zej {L : List Tk} (h : ∀ t ∈ L, Yk t) (k en : Nat) : Yk (hdT (za L k en)) := by
 by_cases hk : k < L.length
 ·rw [(YD (en := en) (yD hk)).1]
  exact h _ (List.getElem_mem hk)
 ·rw [Zn (by omega)]
  exact ⟨fun q => absurd (show (0 : Nat) = 3 from q) (by decide), fun q => absurd (show z7 (0 : UInt8).toNat = true from q) (by decide)⟩
theorem zb8 {L : List Tk} (h : ∀ t ∈ L, Zd t) (k en : Nat) : Zd (hdT (za L k en)) := jJ h
theorem zca {t : Tk} (h : Zd t) {v : Nat × Nat} (hv : zW t = some v) : v.1 < 256 /\ v.2 < 18446744073709551616 := by
 have := Jf h.1
 unfold ZC at this
 rw [hv] at this
 exact this
