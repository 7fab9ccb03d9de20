/- Joined texts of the proof. -/
import Derived.Test.YtcmahiphfpgadaaGreatDoorJ14
import Derived.Test.YtcmahiphfpgadaaGreatDoorJ13
import Derived.Test.YtcmahiphfpgadaaGreatDoorJ9
import Derived.Test.YtcmahiphfpgadaaGreatDoorJ17

/- Programs that came in are opened: nil rows have no room. -/
namespace Go.Proofs.YtcmahiphfpgadaaGreatDoor
open Go.ChangeShapes Go.WideShapes Go.ChangeAt Go.RowKit
set_option linter.unusedVariables false

/-- Nil rows have no room. -/
def PT.NilOk (p : PT) : Prop := (p.a1 = none → p.c1 = 0) ∧ (p.a2 = none → p.c2 = 0) ∧ ∀ t ∈ p.threads, t.a1 = none → t.c1 = 0

section
variable {H : Type} {enc : TypeId × Value → H} {w : World} {sp : Nat → Bool} {held : Bool}
theorem nil_row {fuel : Nat} {t e : TypeId} (ht : Tryz.prog.underlying t = some (.slice e)) {a : Option Addr} {n c : Nat} {x : DataW H × List MemPlace} (h : DataW.trod enc Tryz.prog w 0 sp held fuel t [.slice a n c] = some x) : a = none → c = 0 := by
 rintro rfl
 rcases DataW.trod_slice ht h with ⟨h1, -⟩ | ⟨ad, len, cap, elems, rest, m, hf, h1, -⟩
 ·simp at h1
  exact h1.2
 ·simp at h1
theorem open_th2 (fuel : Nat) (cs : List Value) (x : DataW H × List MemPlace) (h : DataW.trod enc Tryz.prog w 0 sp held fuel 59 cs = some x) (hN : Rows.uptoBulk x.1 ≤ 1048576) : ∃ v : TT, (cs = v.cells ∧ v.In w.heap.size w ∧ thOk v.th ∧ (v.a1 = none → v.c1 = 0)) ∧ thW v.th ≤ Rows.uptoBulk x.1 := by
 obtain ⟨v, ⟨rfl, h2, h3⟩, h4⟩ := open_th fuel cs x h hN
 refine ⟨v, ⟨rfl, h2, h3, ?_⟩, h4⟩
 obtain ⟨xs, n, hf, rfl, hl, hlen, hx⟩ := DataW.trod_struct Tryz.underlying59 h
 obtain ⟨y0, y1, y2, rfl⟩ := len3 (show xs.length = 3 from hlen)
 have f1 := hx 1 { name := "Locals", type := 22, offset := 1, embedded := false, tag := "", pkgPath := "", byteOffset := 16 } rfl
 dsimp only at f1
 rw [c22] at f1
 have f1 : DataW.trod enc Tryz.prog w 0 sp held n 22 [.slice v.a1 v.locals.length v.c1] = some y1 := f1
 exact nil_row Tryz.underlying22 f1

/-- A program that came in. -/
theorem open_pg2 (fuel : Nat) (cs : List Value) (x : DataW H × List MemPlace) (h : DataW.trod enc Tryz.prog w 0 sp held fuel 26 cs = some x) (hN : Rows.uptoBulk x.1 ≤ 1048576) : ∃ p : PT, (cs = p.cells ∧ p.In w.heap.size w ∧ pgOk p.pg) ∧ pgW p.pg ≤ 1048576 ∧ p.NilOk := by
 obtain ⟨xs, n, hf, rfl, hl, hlen, hx⟩ := DataW.trod_struct Tryz.underlying26 h
 rw [c26] at hl
 obtain ⟨a, b, c, rfl⟩ := len3 hl
 obtain ⟨y0, y1, y2, rfl⟩ := len3 (show xs.length = 3 from hlen)
 have f0 := hx 0 { name := "Shared", type := 22, offset := 0, embedded := false, tag := "", pkgPath := "", byteOffset := 0 } rfl
 dsimp only at f0
 rw [c22] at f0
 have f0 : DataW.trod enc Tryz.prog w 0 sp held n 22 [a] = some y0 := f0
 have f1 := hx 1 { name := "Mutexes", type := 23, offset := 1, embedded := false, tag := "", pkgPath := "", byteOffset := 24 } rfl
 dsimp only at f1
 rw [c23] at f1
 have f1 : DataW.trod enc Tryz.prog w 0 sp held n 23 [b] = some y1 := f1
 have f2 := hx 2 { name := "Threads", type := 24, offset := 2, embedded := false, tag := "", pkgPath := "", byteOffset := 48 } rfl
 dsimp only at f2
 rw [c24] at f2
 have f2 : DataW.trod enc Tryz.prog w 0 sp held n 24 [c] = some y2 := f2
 have hbk : Rows.uptoBulk y0.1 + (Rows.uptoBulk y1.1 + Rows.uptoBulk y2.1) + 1 ≤ 1048576 := by
  simpa [Rows.uptoBulk, Rows.uptoBulkAll] using hN
 obtain ⟨a1, c1', ks, e0, k1, k2, k3, k4⟩ := open_row 22 56 3 (by decide) Tryz.underlying22 c56 (fun v : VT => vrW v.vr) (fun (e : VT) cs' => cs' = e.cells ∧ e.In w.heap.size w ∧ vrOk e.vr) n _ _ f0 1048576 (by omega) (fun m hm cs' y hy hby => open_vr m cs' y hy)
 obtain ⟨a2, c2', ms, e1, m1, m2, m3, m4⟩ := open_row 23 9 1 (by decide) Tryz.underlying23 c9 (fun s : ByteArray => s.data.toList.length + 1) (fun (s : ByteArray) cs' => cs' = [.string s]) n _ _ f1 1048576 (by omega) (fun m hm cs' y hy hby => open_nm m cs' y hy)
 obtain ⟨a3, c3', ts, e2, l1, l2, l3, l4⟩ := open_row 24 59 3 (by decide) Tryz.underlying24 c59 (fun v : TT => thW v.th) (fun (e : TT) cs' => cs' = e.cells ∧ e.In w.heap.size w ∧ thOk e.th ∧ (e.a1 = none → e.c1 = 0)) n _ _ f2 1048576 (by omega) (fun m hm cs' y hy hby => open_th2 m cs' y hy hby)
 simp at e0 e1 e2
 subst e0 e1 e2
 obtain ⟨r1, o1⟩ := rowV_open k1 k2 k4
 refine ⟨⟨a1, c1', ks, a2, c2', ms, a3, c3', ts⟩, ⟨rfl, ⟨r1, ⟨m1, m2, ?_⟩, l1, l2, ?_⟩, o1, ?_⟩, ?_, nil_row Tryz.underlying22 f0, nil_row Tryz.underlying23 f1, ?_⟩
 ·rcases m4 with m4 | ⟨g, o, ha, hg, hr⟩
  ·exact .inl m4
  ·refine .inr ⟨g, o, ha, hg, fun i s hs => ?_⟩
   obtain ⟨cs', h1, rfl⟩ := hr i s hs
   have := h1 0 _ rfl
   simpa using this
 ·rcases l4 with l4 | ⟨g, o, ha, hg, hr⟩
  ·exact .inl l4
  ·refine .inr ⟨g, o, ha, hg, fun i e he => ?_⟩
   obtain ⟨cs', h1, rfl, h3, -⟩ := hr i e he
   exact ⟨h1, h3⟩
 ·intro t ht
  obtain ⟨e, he, rfl⟩ := List.mem_map.1 ht
  obtain ⟨i, hi⟩ := List.mem_iff_getElem?.1 he
  rcases l4 with l4 | ⟨g, o, ha, hg, hr⟩
  ·have he' : e ∈ ts := he
   rw [l4] at he'; cases he'
  ·obtain ⟨cs', -, -, -, h4, -⟩ := hr i e hi
   exact h4
 ·show ((ks.map VT.vr).map vrW).sum + ((ms.map fun s : ByteArray => s.data.toList).map fun m => m.length + 1).sum + ((ts.map TT.th).map thW).sum ≤ _
  rw [List.map_map, List.map_map, List.map_map]
  have e1 : (ks.map (vrW ∘ VT.vr)).sum = (ks.map fun v : VT => vrW v.vr).sum := rfl
  have e2 : (ms.map ((fun m : List UInt8 => m.length + 1) ∘ fun s : ByteArray => s.data.toList)).sum = (ms.map fun s : ByteArray => s.data.toList.length + 1).sum := rfl
  have e3 : (ts.map (thW ∘ TT.th)).sum = (ts.map fun v : TT => thW v.th).sum := rfl
  rw [e1, e2, e3]
  omega
 ·intro t ht
  obtain ⟨i, hi⟩ := List.mem_iff_getElem?.1 ht
  rcases l4 with l4 | ⟨g, o, ha, hg, hr⟩
  ·have ht' : t ∈ ts := ht
   rw [l4] at ht'; cases ht'
  ·obtain ⟨cs', -, -, -, -, h5⟩ := hr i t hi
   exact h5
end
end Go.Proofs.YtcmahiphfpgadaaGreatDoor

/- Rows are copied into blocks that may be written. -/
namespace Go.Proofs.YtcmahiphfpgadaaGreatDoor
open Go.RowKit
set_option linter.unusedVariables false

end Go.Proofs.YtcmahiphfpgadaaGreatDoor

/- Rows are copied into blocks that may be written. -/
namespace Go.Proofs.YtcmahiphfpgadaaGreatDoor
open Go.RowKit
set_option linter.unusedVariables false

end Go.Proofs.YtcmahiphfpgadaaGreatDoor

/- Rows are copied into blocks that may be written. -/
namespace Go.Proofs.YtcmahiphfpgadaaGreatDoor
open Go.RowKit
set_option linter.unusedVariables false

end Go.Proofs.YtcmahiphfpgadaaGreatDoor

/- Variables and expressions are copied into blocks that may be written. -/
namespace Go.Proofs.YtcmahiphfpgadaaGreatDoor
open Go.RowKit
set_option linter.unusedVariables false
end Go.Proofs.YtcmahiphfpgadaaGreatDoor

/- Statements are copied into blocks that may be written. -/
namespace Go.Proofs.YtcmahiphfpgadaaGreatDoor
open Go.RowKit
set_option linter.unusedVariables false
end Go.Proofs.YtcmahiphfpgadaaGreatDoor

/- Rows are copied into blocks that may be written. -/
namespace Go.Proofs.YtcmahiphfpgadaaGreatDoor
open Go.RowKit
set_option linter.unusedVariables false

end Go.Proofs.YtcmahiphfpgadaaGreatDoor

/- tree.Copy: a copy lies in blocks that may be written. -/
namespace Go.Proofs.YtcmahiphfpgadaaGreatDoor
open Go.RowKit
set_option linter.unusedVariables false

end Go.Proofs.YtcmahiphfpgadaaGreatDoor

/- Copies of programs. -/
namespace Go.Proofs.YtcmahiphfpgadaaGreatDoor
open Go.RowKit
set_option linter.unusedVariables false

theorem PT.In.stay {B : Nat} {S : Nat → Prop} {w w' : World} (hM : ∀ k, S k → k < B → w'.heap[k]? = w.heap[k]?) {p : PT} (h : p.In B w) (u : p.Lies S) : p.In B w' := by
 refine ⟨RowV.mid (A := 0) S hM h.1 u.1, RowN.mid (A := 0) S hM h.2.1 u.2.1, ?_⟩
 obtain ⟨h1, h2, h | ⟨g, o, e, hg, hr⟩⟩ := h.2.2
 ·exact ⟨h1, h2, .inl h⟩
 ·rcases u.2.2.1 with q | ⟨g', o', e', q⟩
  ·exact ⟨h1, h2, .inl q⟩
  ·rw [e] at e'
   cases e'
   refine ⟨h1, h2, .inr ⟨g, o, e, hg, fun i v hv => ⟨fun j x hj => ?_, TT.In.stay hM (hr i v hv).2 (u.2.2.2 v (List.mem_of_getElem? hv))⟩⟩⟩
   rw [World.cell?_of_block (w := w) (hM g q hg)]
   exact (hr i v hv).1 j x hj
theorem PT.Lies.mono {S S' : Nat → Prop} (hS : ∀ k, S k → S' k) {p : PT} (h : p.Lies S) : p.Lies S' := ⟨at_imp hS h.1, at_imp hS h.2.1, at_imp hS h.2.2.1, fun t ht => (h.2.2.2 t ht).mono hS⟩
theorem PT.In.lies {B : Nat} {S : Nat → Prop} {w : World} {p : PT} (h : p.In B w) (u : p.Lies S) : p.Lies (fun k => S k ∧ k < B) := by
 obtain ⟨⟨-, -, h1⟩, ⟨-, -, h2⟩, -, -, h3⟩ := h
 obtain ⟨u1, u2, u3, u4⟩ := u
 refine ⟨?_, ?_, ?_⟩
 ·rcases h1 with h | ⟨g, o, ha, hg, hr⟩
  ·exact .inl h
  ·rcases u1 with q | ⟨g', o', ha', hg'⟩
   ·exact .inl q
   ·rw [ha] at ha'
    cases ha'
    exact .inr ⟨g, o, ha, hg', hg⟩
 ·rcases h2 with h | ⟨g, o, ha, hg, hr⟩
  ·exact .inl h
  ·rcases u2 with q | ⟨g', o', ha', hg'⟩
   ·exact .inl q
   ·rw [ha] at ha'
    cases ha'
    exact .inr ⟨g, o, ha, hg', hg⟩
 ·rcases h3 with h | ⟨g, o, ha, hg, hr⟩
  ·exact ⟨.inl h, fun t ht => by rw [h] at ht; cases ht⟩
  ·refine ⟨?_, fun t ht => ?_⟩
   ·rcases u3 with q | ⟨g', o', ha', hg'⟩
    ·exact .inl q
    ·rw [ha] at ha'
     cases ha'
     exact .inr ⟨g, o, ha, hg', hg⟩
   ·obtain ⟨i, hi⟩ := List.mem_iff_getElem?.1 ht
    exact TT.In.lies (hr i t hi).2 (u4 t ht)
theorem kcProgram_any (B : Nat) (p : PT) (w : World) (hin : p.In B w) (hBw : B ≤ w.heap.size) (hn : p.NilOk) :
  Calls Tryz.prog 8 #[.agg p.cells.toArray] w fun r w' => Hid (∃ y : PT, r = .returned (.agg y.cells.toArray) ∧ y.pg = p.pg ∧ y.In w'.heap.size w' ∧ y.Lies (fun k => w.heap.size ≤ k) ∧ Below w.heap.size w w') := by
 refine (kcProgram_at B p.shared p.a1 p.c1 p.mutexes p.a2 p.c2 p.threads p.a3 p.c3 w hin.1 hin.2.1 hin.2.2 hBw hn.1 hn.2.1 hn.2.2).mono ?_
 rintro r w' ⟨y, h1, h2, h3, h4, h5, h6, h7⟩
 refine ⟨y, h1, ?_, h5, h6, h7⟩
 show Pg.mk (y.shared.map VT.vr) (y.mutexes.map (fun s => s.data.toList)) (y.threads.map TT.th) = Pg.mk (p.shared.map VT.vr) (p.mutexes.map (fun s => s.data.toList)) (p.threads.map TT.th)
 rw [h2, h3, h4]

end Go.Proofs.YtcmahiphfpgadaaGreatDoor

/- What the statement's first copies do. -/
namespace Go.Proofs.YtcmahiphfpgadaaGreatDoor
open Go.RowKit
set_option linter.unusedVariables false

theorem PT.one (p : PT) : ∀ v ∈ p.cells, v.oneCell' = true := one26 _ _ _ _ _ _ _ _ _

end Go.Proofs.YtcmahiphfpgadaaGreatDoor

/- What the statement's comparing does. -/
namespace Go.Proofs.YtcmahiphfpgadaaGreatDoor
open Go.RowKit
set_option linter.unusedVariables false

theorem ex_cells5 {w : World} {g : Nat} {s1 s2 s3 s4 s5 : Value} (h : At 34 w g [s1, s2, s3, s4, s5]) : w.cell? ⟨g, 0, none⟩ = some s1 ∧ w.cell? ⟨g, 1, none⟩ = some s2 ∧ w.cell? ⟨g, 2, none⟩ = some s3 ∧ w.cell? ⟨g, 3, none⟩ = some s4 ∧ w.cell? ⟨g, 4, none⟩ = some s5 := by
 refine ⟨?_, ?_, ?_, ?_, ?_⟩ <;> (rw [h.cell]; rfl)

end Go.Proofs.YtcmahiphfpgadaaGreatDoor
