/- Bytes, and rows of bytes, that came in. -/
import Derived.Test.YtbehmclligkbhaaFsG
import Derived.WalkKit
import Derived.ProofKit
import Derived.OpenShut
import Derived.ShutString
import Derived.ChangeOld
import Derived.Below
import Derived.Deep.Slices
import Derived.ChangeSame
namespace Go.Proofs.Ytbehmclligkbhaa
open Go.ChangeShapes Go.WideShapes Go.ChangeAt Go.RowKit
set_option linter.unusedVariables false

theorem i64_of {x : Int} (h : (Lit.int .i64 x).wf = true) : -9223372036854775808 ≤ x ∧ x ≤ 9223372036854775807 := by simpa [Lit.wf, IntKind.min, IntKind.max, IntKind.signed, IntKind.bits] using h
theorem u8_of {x : Int} (h : (Lit.int .u8 x).wf = true) : ∃ b : UInt8, x = (b.toNat : Int) := by
  have h2 : 0 ≤ x ∧ x ≤ 255 := by simpa [Lit.wf, IntKind.min, IntKind.max, IntKind.signed, IntKind.bits] using h
  refine ⟨UInt8.ofNat x.toNat, ?_⟩
  have : (UInt8.ofNat x.toNat).toNat = x.toNat := ub_toNat x.toNat (by omega)
  omega
section
variable {H : Type} {enc : TypeId × Value → H} {w : World} {sp : Nat → Bool} {held : Bool}
/-- A row that came in, of any kind of elements. -/
theorem open_x {α : Type} [Inhabited α] (e : El α) (hcl : Try.prog.cellsOf e.E = e.n) (P : α → Prop) {fuel : Nat} {cs : List Value} {y : DataW H × List MemPlace}
    (ho : ∀ k cs z, DataW.trod enc Try.prog w 0 sp held k e.E cs = some z → ∃ a, cs = e.cl a ∧ P a) (h : DataW.trod enc Try.prog w 0 sp held fuel e.T cs = some y) :
    ∃ (a : Option Addr) (c : Nat) (xs : List α), cs = [.slice a xs.length c] ∧ xs.length ≤ c ∧ c ≤ maxLen ∧ (a = none → c = 0) ∧ (∀ x ∈ xs, P x) ∧ RowX e w a xs ∧ (xs ≠ [] → ∀ ad, a = some ad → ad.block < w.heap.size) := by
  rcases Go.Deep.open_slice e.und h with ⟨rfl, _⟩ | ⟨x, len, cap, m, n, D, Pl, rfl, _, hl, hm, hmm, hx, hcell⟩
  · exact ⟨none, 0, [], rfl, Nat.le_refl _, Nat.zero_le _, fun _ => rfl, by simp, .inl rfl, fun h => absurd rfl h⟩
  · have hlm : len ≤ m := by rw [hmm]; split <;> omega
    have each : ∀ r, r < len → ∃ a : α, w.cells? 0 (x.add (r * e.n)) e.n = some (e.cl a) ∧ P a := by
      intro r hr
      obtain ⟨cs, h1, h2⟩ := hcell r (by omega)
      rw [hcl] at h1
      obtain ⟨a, he, hp⟩ := ho _ _ _ h2
      exact ⟨a, by rw [h1, he], hp⟩
    obtain ⟨q, hq⟩ := Go.Deep.choose_lt each
    have hlen : ((List.range len).map q).length = len := by simp
    by_cases h0 : len = 0
    · subst h0
      exact ⟨some x, cap, [], rfl, hl, hm, (fun h => by cases h), by simp, .inl rfl, fun h => absurd rfl h⟩
    have hpos := e.pos
    obtain ⟨g, o, spot⟩ := x
    obtain ⟨v0, hv0⟩ : ∃ v, (e.cl (q 0))[0]? = some v := ⟨_, List.getElem?_eq_getElem (by rw [e.len]; exact hpos)⟩
    have hsp : spot = none := by
      obtain ⟨_, _, hcc⟩ := World.cells?_some (hq 0 (by omega)).1
      have := hcc 0 hpos
      rw [hv0, Nat.zero_mul] at this
      have h2 : w.cell? ⟨g, o, spot⟩ = some v0 := by simpa [Addr.add] using this
      exact World.cell?_spot h2
    subst hsp
    have hcc : ∀ i, i < len → ∀ j v, (e.cl (q i))[j]? = some v → w.cell? ⟨g, o + (i * e.n + j), none⟩ = some v := by
      intro i hi j v hj
      obtain ⟨_, hln, hcc⟩ := World.cells?_some (hq i hi).1
      have hjn : j < e.n := by have := (List.getElem?_eq_some_iff.1 hj).1; rwa [e.len] at this
      have := hcc j hjn
      rw [hj, add_none, add_none, Nat.add_assoc] at this
      exact this
    have h00 := hcc 0 (by omega) 0 v0 hv0
    refine ⟨some ⟨g, o, none⟩, cap, (List.range len).map q, by rw [hlen], by rw [hlen]; exact hl, hm, (fun h => by cases h), fun y hy => ?_, ?_, ?_⟩
    · obtain ⟨i, hi, rfl⟩ := List.mem_map.1 hy
      exact (hq i (by simpa using hi)).2
    · refine .inr ⟨g, o, rfl, fun j v hj => ?_⟩
      have hjl : j < len * e.n := by have := (List.getElem?_eq_some_iff.1 hj).1; rwa [flat_len, hlen] at this
      have hd : j / e.n < len := by rw [Nat.div_lt_iff_lt_mul hpos]; exact hjl
      have hmod := Nat.mod_lt j hpos
      have hjj : j / e.n * e.n + j % e.n = j := by rw [Nat.mul_comm]; exact Nat.div_add_mod j e.n
      obtain ⟨u, hu⟩ : ∃ u, (e.cl (q (j / e.n)))[j % e.n]? = some u := ⟨_, List.getElem?_eq_getElem (by rw [e.len]; exact hmod)⟩
      have h2 := flat_at e ((List.range len).map q) (j / e.n) (q (j / e.n)) (by simp [hd]) (j % e.n) u hu
      rw [hjj, hj] at h2
      cases h2
      have h3 := hcc _ hd _ _ hu
      rw [hjj] at h3
      exact h3
    · rintro _ ad ⟨⟩
      exact (lt_of_cell h00 : (Addr.mk g (o + (0 * e.n + 0)) none).block < w.heap.size)
theorem open_byte (k : Nat) (cs : List Value) (z : DataW H × List MemPlace) (h : DataW.trod enc Try.prog w 0 sp held k 5 cs = some z) : ∃ b : UInt8, cs = eB.cl b ∧ True := by
  obtain ⟨x, e0, -, hw⟩ := DataW.trod_int Try.underlying5 h
  obtain ⟨b, rfl⟩ := u8_of hw
  exact ⟨b, e0, trivial⟩
instance : Inhabited BT := ⟨⟨none, [], 0⟩⟩
theorem open_row (k : Nat) (cs : List Value) (z : DataW H × List MemPlace) (h : DataW.trod enc Try.prog w 0 sp held k 22 cs = some z) : ∃ t : BT, cs = eR.cl t ∧ t.In w := by
  obtain ⟨x, c, xs, he, h1, h2, h3, _, h5, _⟩ := open_x eB (by kernel_rfl) (fun _ => True) open_byte h
  exact ⟨⟨x, xs, c⟩, he, rowB.1 h5, h1, h3⟩
theorem open_bytes {a : Option Addr} {len cap : Nat} {d : DataW H} {ps : List MemPlace} (hd : DataW.Trod enc Try.prog w 0 sp held 22 (.slice a len cap) d ps) :
    ∃ bs : List UInt8, bs.length = len ∧ Row w a bs ∧ bs.length ≤ cap ∧ (a = none → cap = 0) ∧ bs.length ≤ 9223372036854775807 := by
  obtain ⟨fuel, hf⟩ := hd
  obtain ⟨x, c, xs, he, h1, h2, h3, _, h5, _⟩ := open_x eB (by kernel_rfl) (fun _ => True) open_byte hf
  simp [Value.cells] at he
  obtain ⟨rfl, rfl, rfl⟩ := he
  exact ⟨xs, rfl, rowB.1 h5, h1, h3, Nat.le_trans h1 (Nat.le_trans h2 (by decide))⟩
theorem open_rows {a : Option Addr} {len cap : Nat} {d : DataW H} {ps : List MemPlace} (hd : DataW.Trod enc Try.prog w 0 sp held 27 (.slice a len cap) d ps) :
    ∃ xs : List BT, xs.length = len ∧ LB w a xs ∧ xs.length ≤ cap ∧ xs.length ≤ 9223372036854775807 := by
  obtain ⟨fuel, hf⟩ := hd
  obtain ⟨x, c, xs, he, h1, h2, h3, h4, h5, _⟩ := open_x eR (by kernel_rfl) (fun t : BT => t.In w) open_row hf
  simp [Value.cells] at he
  obtain ⟨rfl, rfl, rfl⟩ := he
  exact ⟨xs, rfl, ⟨h5, h4⟩, h1, Nat.le_trans h1 (Nat.le_trans h2 (by decide))⟩
end
end Go.Proofs.Ytbehmclligkbhaa
