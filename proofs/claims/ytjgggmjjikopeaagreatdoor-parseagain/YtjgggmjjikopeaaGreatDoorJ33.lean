/- Joined texts of the proof. -/
import Derived.Test.YtjgggmjjikopeaaGreatDoorJ32

/- The document's reader. -/
namespace Go.Proofs.YtjgggmjjikopeaaGreatDoor
open Go.RowKit
set_option linter.unusedVariables false

/-- The document's reader: its seven cells. -/
def q7 (a : Option Addr) (n c k en er pl ne bl : Nat) : List Value := [.slice a n c, .int .i64 (k : Int), .int .i64 (en : Int), .int .i64 (er : Int), .int .i64 (pl : Int), .int .i64 (ne : Int), .int .i64 (bl : Int)]
/-- The document's reader, its tokens, how far it is, its fault, how deep. -/
structure Qd (B : Nat) (w : World) (g : Nat) (L : List Tk) (a : Option Addr) (c k en er pl ne bl : Nat) : Prop where
  cell : At 71 w g (q7 a L.length c k en er pl ne bl)
  toks : L = [] ∨ ∃ gt, a = some ⟨gt, 0, none⟩ ∧ gt ≠ g ∧ gt < B ∧ w.rangeAt gt 0 (flat L)
  le : k ≤ L.length
  len : L.length ≤ 1048576
  low : g < B
theorem Qd.lt {B : Nat} {w : World} {g : Nat} {L : List Tk} {a : Option Addr} {c k en er pl ne bl : Nat} (h : Qd B w g L a c k en er pl ne bl) : g < w.heap.size := h.cell.lt
theorem flat_lt {w : World} {gt : Nat} {L : List Tk} (hL : L ≠ []) (h : w.rangeAt gt 0 (flat L)) : gt < w.heap.size := by
  cases L with
  | nil => exact absurd rfl hL
  | cons t r => exact cells_lt (h 0 _ rfl)
/-- Other blocks are written. -/
theorem Qd.keep {B : Nat} {w w' : World} {g : Nat} {L : List Tk} {a : Option Addr} {c k en er pl ne bl : Nat} (h : Qd B w g L a c k en er pl ne bl) (hb : ∀ j, j < w.heap.size → j < B → w'.heap[j]? = w.heap[j]?) : Qd B w' g L a c k en er pl ne bl := by
  refine ⟨?_, ?_, h.le, h.len, h.low⟩
  · unfold At
    rw [hb g h.lt h.low]
    exact h.cell
  · by_cases hL : L = []
    · exact .inl hL
    · rcases h.toks with q | ⟨gt, h1, h2, h3, h4⟩
      · exact .inl q
      · exact .inr ⟨gt, h1, h2, h3, fun j v hj => by rw [World.cell?_of_block (w := w) (hb gt (flat_lt hL h4) h3)]; exact h4 j v hj⟩
theorem Qd.below {B : Nat} {w w' : World} {g : Nat} {L : List Tk} {a : Option Addr} {c k en er pl ne bl : Nat} (h : Qd B w g L a c k en er pl ne bl) (hb : Below w.heap.size w w') : Qd B w' g L a c k en er pl ne bl := h.keep fun j hj _ => hb.block j hj
theorem Qd.but {B : Nat} {w w' : World} {g b : Nat} {L : List Tk} {a : Option Addr} {c k en er pl ne bl : Nat} (h : Qd B w g L a c k en er pl ne bl) (hb : But b w w') (hB : B ≤ b) : Qd B w' g L a c k en er pl ne bl := h.keep fun j hj hl => hb.block j hj (by omega)
/-- The reader itself is written. -/
theorem Qd.set {B : Nat} {w w' : World} {g : Nat} {L : List Tk} {a : Option Addr} {c k en er pl ne bl k' er' pl' ne' bl' : Nat} (h : Qd B w g L a c k en er pl ne bl) (hA : At 71 w' g (q7 a L.length c k' en er' pl' ne' bl')) (hb : But g w w') (hk : k' ≤ L.length) : Qd B w' g L a c k' en er' pl' ne' bl' := by
  refine ⟨hA, ?_, hk, h.len, h.low⟩
  by_cases hL : L = []
  · exact .inl hL
  · rcases h.toks with q | ⟨gt, h1, h2, h3, h4⟩
    · exact .inl q
    · exact .inr ⟨gt, h1, h2, h3, fun j v hj => by rw [World.cell?_of_block (w := w) (hb.block gt (flat_lt hL h4) h2)]; exact h4 j v hj⟩
/-- What it has ahead. -/
def aheadT (L : List Tk) (k en : Nat) : List Tk := L.drop k ++ [⟨0, [], en, 0⟩]
theorem eqF (e p : Nat) (u : World) : (Op.equalIn 10000 29 (.agg #[.int .i64 (e : Int), .int .i64 (p : Int)]) (.agg #[.int .i64 0, .int .i64 0])).run Tryz.prog u = .ok (decide (e = 0) && decide (p = 0)) u := run_eq25 e p 0 0 u

end Go.Proofs.YtjgggmjjikopeaaGreatDoor
