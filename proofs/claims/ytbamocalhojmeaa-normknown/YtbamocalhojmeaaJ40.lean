/- Events that came in: a row of events. -/
import Derived.Test.YtbamocalhojmeaaJ4
import Derived.Test.YtbamocalhojmeaaRows
import Derived.WalkKit
import Derived.ProofKit
import Derived.OpenShut
import Derived.ShutString
import Derived.ChangeOld
import Derived.Below
import Derived.Deep.Slices
import Derived.ChangeSame
namespace Go.Proofs.Ytbamocalhojmeaa
open Go.ChangeShapes Go.WideShapes Go.ChangeAt Go.RowKit
set_option linter.unusedVariables false

theorem i64_of {x : Int} (h : (Lit.int .i64 x).wf = true) : -9223372036854775808 ≤ x ∧ x ≤ 9223372036854775807 := by simpa [Lit.wf, IntKind.min, IntKind.max, IntKind.signed, IntKind.bits] using h
section
variable {H : Type} {enc : TypeId × Value → H} {w : World} {base : Nat} {sp : Nat → Bool} {held : Bool}
set_option maxRecDepth 100000 in
theorem open_ev {fuel : Nat} {cs : List Value} {x : DataW H × List MemPlace} (h : DataW.trod enc Try.prog w base sp held fuel 50 cs = some x) : ∃ e : Ev, cs = e.cells ∧ e.ok := by
  obtain ⟨xs, k, hk, hxy, hl, hxl, hf⟩ := DataW.trod_struct Try.underlying50 h
  have hl3 : cs.length = 3 := hl
  match cs, hl3 with
  | [v0, v1, v2], _ =>
    have g0 := hf 0 _ rfl
    have g1 := hf 1 _ rfl
    have g2 := hf 2 _ rfl
    match xs, hxl with
    | [y0, y1, y2], _ =>
      obtain ⟨a, e1, _, hw1⟩ := DataW.trod_int Try.underlying3 (show DataW.trod enc Try.prog w base sp held k 3 [v0] = some y0 from g0)
      obtain ⟨b, e2, _, hw2⟩ := DataW.trod_int Try.underlying3 (show DataW.trod enc Try.prog w base sp held k 3 [v1] = some y1 from g1)
      obtain ⟨c, e3, _, hw3⟩ := DataW.trod_int Try.underlying3 (show DataW.trod enc Try.prog w base sp held k 3 [v2] = some y2 from g2)
      have e1' : v0 = .int .i64 a := by simpa using e1
      have e2' : v1 = .int .i64 b := by simpa using e2
      have e3' : v2 = .int .i64 c := by simpa using e3
      subst e1' e2' e3'
      have b1 := i64_of hw1
      have b2 := i64_of hw2
      have b3 := i64_of hw3
      exact ⟨⟨a, b, c⟩, rfl, ⟨b1, b2, b3⟩⟩

set_option maxRecDepth 100000 in
theorem open_events {a : Option Addr} {len cap : Nat} {d : DataW H} {ps : List MemPlace} (hd : DataW.Trod enc Try.prog w 0 sp held 22 (.slice a len cap) d ps) :
    ∃ es : List Ev, es.length = len ∧ len ≤ cap ∧ cap ≤ maxLen ∧ (∀ x ∈ es, x.ok) ∧ RowEv w a es ∧ (a = none → cap = 0) := by
  obtain ⟨fuel, hf⟩ := hd
  rcases Go.Deep.open_slice Try.underlying22 hf with ⟨hcs, _⟩ | ⟨x, l, c, m, n, D, Pl, hcs, _, hl, hm, hmm, hx, hcell⟩
  · simp [Value.cells] at hcs
    obtain ⟨rfl, rfl, rfl⟩ := hcs
    exact ⟨[], rfl, Nat.le_refl _, Nat.zero_le _, by simp, .inl rfl, fun _ => rfl⟩
  · simp [Value.cells] at hcs
    obtain ⟨rfl, rfl, rfl⟩ := hcs
    have hlm : len ≤ m := by rw [hmm]; split <;> omega
    have each : ∀ r, r < len → ∃ e : Ev, w.cells? 0 (x.add (r * 3)) 3 = some e.cells ∧ e.ok := by
      intro r hr
      obtain ⟨cs, h1, h2⟩ := hcell r (by omega)
      have h1 : w.cells? 0 (x.add (r * 3)) 3 = some cs := h1
      obtain ⟨e, he, ho⟩ := open_ev h2
      exact ⟨e, by rw [h1, he], ho⟩
    haveI : Inhabited Ev := ⟨⟨0, 0, 0⟩⟩
    obtain ⟨q, hq⟩ := Go.Deep.choose_lt each
    refine ⟨(List.range len).map q, by simp, hl, hm, fun y hy => ?_, ?_, fun h => by cases h⟩
    · obtain ⟨i, hi, rfl⟩ := List.mem_map.1 hy
      exact (hq i (by simpa using hi)).2
    · by_cases h0 : len = 0
      · left; subst h0; rfl
      · right
        obtain ⟨g, o, spot⟩ := x
        have hsp : spot = none := by
          obtain ⟨_, _, hcc⟩ := World.cells?_some (hq 0 (by omega)).1
          have := hcc 0 (by decide)
          rw [Nat.zero_mul] at this
          have h2 : w.cell? ⟨g, o, spot⟩ = some (.int .i64 (q 0).th) := by simpa [Addr.add, Ev.cells] using this
          exact World.cell?_spot h2
        subst hsp
        refine ⟨g, o, rfl, fun i e he j v hj => ?_⟩
        have hi : i < len := by have := (List.getElem?_eq_some_iff.1 he).1; simpa using this
        have he2 : q i = e := by simpa [hi] using he
        subst he2
        obtain ⟨_, _, hcc⟩ := World.cells?_some (hq i hi).1
        have hj3 : j < 3 := (List.getElem?_eq_some_iff.1 hj).1
        have := hcc j hj3
        rw [add_none, add_none] at this
        rw [this]
        exact hj
set_option maxRecDepth 100000 in
theorem open_nums {a : Option Addr} {len cap : Nat} {d : DataW H} {ps : List MemPlace} (hd : DataW.Trod enc Try.prog w 0 sp held 23 (.slice a len cap) d ps) :
    ∃ zs : List Int, zs.length = len ∧ len ≤ cap ∧ cap ≤ maxLen ∧ (∀ z ∈ zs, -9223372036854775808 ≤ z ∧ z < 9223372036854775808) ∧ RowI w a zs := by
  obtain ⟨fuel, hf⟩ := hd
  rcases Go.Deep.open_slice Try.underlying23 hf with ⟨hcs, _⟩ | ⟨x, l, c, m, n, D, Pl, hcs, _, hl, hm, hmm, hx, hcell⟩
  · simp [Value.cells] at hcs
    obtain ⟨rfl, rfl, rfl⟩ := hcs
    exact ⟨[], rfl, Nat.le_refl _, Nat.zero_le _, by simp, .inl rfl⟩
  · simp [Value.cells] at hcs
    obtain ⟨rfl, rfl, rfl⟩ := hcs
    have hlm : len ≤ m := by rw [hmm]; split <;> omega
    have each : ∀ r, r < len → ∃ z : Int, w.cells? 0 (x.add (r * 1)) 1 = some [.int .i64 z] ∧ -9223372036854775808 ≤ z ∧ z < 9223372036854775808 := by
      intro r hr
      obtain ⟨cs, h1, h2⟩ := hcell r (by omega)
      have h1 : w.cells? 0 (x.add (r * 1)) 1 = some cs := h1
      obtain ⟨z, e1, _, hw⟩ := DataW.trod_int Try.underlying3 h2
      have b := i64_of hw
      exact ⟨z, by rw [h1, e1], by omega, by omega⟩
    obtain ⟨q, hq⟩ := Go.Deep.choose_lt each
    refine ⟨(List.range len).map q, by simp, hl, hm, fun y hy => ?_, ?_⟩
    · obtain ⟨i, hi, rfl⟩ := List.mem_map.1 hy
      exact (hq i (by simpa using hi)).2
    · by_cases h0 : len = 0
      · left; subst h0; rfl
      · right
        obtain ⟨g, o, spot⟩ := x
        have hsp : spot = none := by
          obtain ⟨_, _, hcc⟩ := World.cells?_some (hq 0 (by omega)).1
          have := hcc 0 (by decide)
          rw [Nat.zero_mul] at this
          have h2 : w.cell? ⟨g, o, spot⟩ = some (.int .i64 (q 0)) := by simpa [Addr.add] using this
          exact World.cell?_spot h2
        subst hsp
        refine ⟨g, o, rfl, fun i z hz => ?_⟩
        have hi : i < len := by have := (List.getElem?_eq_some_iff.1 hz).1; simpa using this
        have he2 : q i = z := by simpa [hi] using hz
        subst he2
        obtain ⟨_, _, hcc⟩ := World.cells?_some (hq i hi).1
        have := hcc 0 (by decide)
        rw [add_none, add_none] at this
        rw [Nat.mul_one, Nat.add_zero] at this
        rw [this]
        rfl
end
end Go.Proofs.Ytbamocalhojmeaa
