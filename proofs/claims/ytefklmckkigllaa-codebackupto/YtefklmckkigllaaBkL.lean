/- CodeBack: the walk. -/
import Derived.Test.YtefklmckkigllaaKnB
import Derived.Test.YtefklmckkigllaaKtB
import Derived.Test.YtefklmckkigllaaLgA
import Derived.Test.YtefklmckkigllaaCbA
import Derived.Test.YtefklmckkigllaaCoN
namespace Go.Proofs.Ytefklmckkigllaa
open Go.RowKit
set_option linter.unusedVariables false

/-- Bytes that are no code. -/
theorem read_no (a : Option Addr) (n c : Nat) (bs : List UInt8) (hn : bs.length = n) (u : World) (hr : Row u a bs) (hc : n ≤ c) (hl : n ≤ 1099511627776) (h : readC bs = none) :
    Calls Try.prog 13 #[.slice a n c] u fun e w' => e = .returned (.tuple #[.agg #[.slice none 0 0, .int .i64 0, .slice none 0 0], .int .i64 4]) ∧ Below u.heap.size u w' := by
  subst hn
  refine (read_any a c bs u hr hc hl).mono ?_
  rintro e w' ⟨⟨y, k, he, _, q | q⟩, hb⟩
  · obtain ⟨_, rfl, rfl⟩ := q
    exact ⟨he, hb⟩
  · rw [h] at q
    cases q.1
/-- Bytes that are one. -/
theorem read_yes (a : Option Addr) (n c : Nat) (bs : List UInt8) (hn : bs.length = n) (u : World) (hr : Row u a bs) (hc : n ≤ c) (hl : n ≤ 1099511627776) (d : Cd) (h : readC bs = some d) :
    Calls Try.prog 13 #[.slice a n c] u fun e w' => (∃ y0 y1 y2, e = .returned (.tuple #[.agg #[y0, y1, y2], .int .i64 0]) ∧ ∃ y : CT, y.cells = [y0, y1, y2] ∧ y.cd = d ∧ y.In w'.heap.size w') ∧ Below u.heap.size u w' := by
  subst hn
  refine (read_any a c bs u hr hc hl).mono ?_
  rintro e w' ⟨⟨y, k, he, hE, q | q⟩, hb⟩
  · rw [h] at q
    cases q.1
  · obtain ⟨hd, rfl⟩ := q
    rw [h] at hd
    exact ⟨⟨_, _, _, he, y, rfl, (Option.some.inj hd).symm, hE.1⟩, hb⟩
/-- The bytes of a code that is one. -/
theorem bytes_yes (B : Nat) (x : CT) (w : World) (hx : x.In B w) (hB : B ≤ w.heap.size) (h : checkC x.cd = 0) :
    Calls Try.prog 16 #[.agg x.cells.toArray] w fun e w' => (∃ g cap, e = .returned (.tuple #[.slice (some ⟨g, 0, none⟩) (encC x.cd).length cap, .int .i64 0]) ∧ (encC x.cd).length ≤ cap ∧ w.heap.size ≤ g ∧ g < w'.heap.size ∧ ∀ j, j < (encC x.cd).length → w'.cell? ⟨g, j, none⟩ = some (.int .u8 (((encC x.cd).getD j 0).toNat : Int))) ∧ Below w.heap.size w w' := by
  refine (bytesC_any B x w hx hB).mono ?_
  rintro e w' ⟨q | ⟨_, v, he, hO⟩, hb⟩
  · exact absurd h q.1
  · have hne : encC x.cd ≠ [] := by
      unfold encC encVs
      simp
    obtain ⟨g, cap, rfl, hg, hlt, hc, hcell⟩ := hO.head hne
    exact ⟨⟨g, cap, he, hc, hg, hlt, hcell⟩, hb⟩
theorem bytes_no (B : Nat) (x : CT) (w : World) (hx : x.In B w) (hB : B ≤ w.heap.size) (h : checkC x.cd ≠ 0) :
    Calls Try.prog 16 #[.agg x.cells.toArray] w fun e w' => e = .returned (.tuple #[.slice none 0 0, .int .i64 (checkC x.cd : Int)]) ∧ Below w.heap.size w w' := by
  refine (bytesC_any B x w hx hB).mono ?_
  rintro e w' ⟨q | ⟨q, _⟩, hb⟩
  · exact ⟨q.2, hb⟩
  · exact absurd q h
theorem bytes_some (B : Nat) (x : CT) (w : World) (hx : x.In B w) (hB : B ≤ w.heap.size) :
    Calls Try.prog 16 #[.agg x.cells.toArray] w fun e w' => (∃ v k, e = .returned (.tuple #[v, .int .i64 k])) ∧ Below w.heap.size w w' := by
  refine (bytesC_any B x w hx hB).mono ?_
  rintro e w' ⟨q | ⟨_, v, he, hO⟩, hb⟩
  · exact ⟨⟨_, _, q.2⟩, hb⟩
  · exact ⟨⟨_, _, he⟩, hb⟩
theorem rowCells {u : World} {g : Nat} {bs : List UInt8} (h : ∀ j, j < bs.length → u.cell? ⟨g, j, none⟩ = some (.int .u8 ((bs.getD j 0).toNat : Int))) : Row u (some ⟨g, 0, none⟩) bs := .inr ⟨g, 0, rfl, fun j hj => by rw [Nat.zero_add]; exact h j hj⟩
theorem rowCells' {u : World} {g n : Nat} {bs : List UInt8} (h : Row u (some ⟨g, 0, none⟩) bs) (hn : bs.length = n) (hp : 0 < n) : ∀ j, j < bs.length → u.cell? ⟨g, j, none⟩ = some (.int .u8 ((bs.getD j 0).toNat : Int)) := by
  rcases h with h | ⟨b, off, ha, hc⟩
  · rw [h] at hn; simp at hn; omega
  · cases ha
    intro j hj
    have := hc j hj
    rwa [Nat.zero_add] at this
theorem row_take {u : World} {a : Option Addr} {bs : List UInt8} (h : Row u a bs) (k : Nat) : Row u a (bs.take k) := by
  rcases h with h | ⟨b, off, ha, hc⟩
  · exact .inl (by rw [h]; simp)
  · refine .inr ⟨b, off, ha, fun j hj => ?_⟩
    rw [List.length_take] at hj
    rw [hc j (by omega)]
    have hjk : j < k := by omega
    simp [List.getD, List.getElem?_take_of_lt hjk]

/-- What stands through the law: the two codes' own blocks. -/
def Bs (w : World) (b1 : Nat) (X Y : List Value) (u : World) : Prop := Below w.heap.size w u ∧ At 25 u w.heap.size X ∧ At 25 u b1 Y
theorem Bs.go {w : World} {b1 : Nat} {X Y : List Value} {u u' : World} (h : Bs w b1 X Y u) (hb : Below u.heap.size u u') : Bs w b1 X Y u' := ⟨h.1.trans (hb.mono h.1.size), h.2.1.below hb, h.2.2.below hb⟩

end Go.Proofs.Ytefklmckkigllaa
