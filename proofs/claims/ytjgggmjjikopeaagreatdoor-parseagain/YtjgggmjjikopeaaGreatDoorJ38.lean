/- Joined texts of the proof. -/
import Derived.Test.YtjgggmjjikopeaaGreatDoorJ37

/- The document's reader: a literal, or none. -/
namespace Go.Proofs.YtjgggmjjikopeaaGreatDoor
open Go.RowKit
set_option linter.unusedVariables false

end Go.Proofs.YtjgggmjjikopeaaGreatDoor

/- The document's reader, from any state. -/
namespace Go.Proofs.YtjgggmjjikopeaaGreatDoor
open Go.RowKit
set_option linter.unusedVariables false

/-- A part behind another one. -/
def Rs.andThen {α β : Type} (S : Rs α) (f : α → List Tk → Rs β) : Rs β := match S with
  | .ok v l => f v l
  | .bad e p => .bad e p
/-- How far the document's reader is, or its fault. -/
def StOf (L : List Tk) (en k er pl : Nat) {α : Type} (S : Rs α) : Prop := match S with
  | .ok _ l => er = 0 ∧ pl = 0 ∧ aheadT L k en = l
  | .bad e p => er = e ∧ pl = p ∧ k = L.length ∧ e ≠ 0

/-- What a part of the document that reads an expression leaves. -/
def PostR (B g : Nat) (L : List Tk) (a : Option Addr) (c en ne bl : Nat) (w : World) (R : Rs Ex) (r : Ending) (w' : World) : Prop :=
  ∃ (y : ET) (k er pl ne' : Nat), r = .returned (.agg y.cells.toArray) ∧ Tw w.heap.size w' y ∧ But g w w' ∧ Qd B w' g L a c k en er pl ne' bl ∧ StOf L en k er pl R ∧ ne ≤ ne' ∧ ne' ≤ 33 ∧ ∀ e l, R = .ok e l → y.ex = e ∧ ne' = ne

def RuW (f : Nat) : Prop := ∀ (n : Nat) (R : Rs Ex) (B g : Nat) (L : List Tk) (a : Option Addr) (c k en d bl : Nat) (w : World), n ≤ 5 → d ≤ 32 → (∀ t ∈ L, TkOk t) → ruleF f n d (aheadT L k en) = some R → Qd B w g L a c k en 0 0 d bl → B ≤ w.heap.size →
  Calls Tryz.prog 110 #[.pointer (some ⟨g, 0, none⟩), .int .i64 (n : Int)] w fun r w' => PostR B g L a c en d bl w R r w'
end Go.Proofs.YtjgggmjjikopeaaGreatDoor

/- Brackets and conversions, as the document reads them. -/
namespace Go.Proofs.YtjgggmjjikopeaaGreatDoor
open Go.RowKit
set_option linter.unusedVariables false

theorem RuW.zero : RuW 0 := fun n R B g L a c k en d bl w _ _ _ h => by simp [ruleF] at h
theorem andThen_ok {α β : Type} (v : α) (l : List Tk) (f : α → List Tk → Rs β) : (Rs.ok v l : Rs α).andThen f = f v l := rfl
end Go.Proofs.YtjgggmjjikopeaaGreatDoor
