/- assizeref02.block: the eight words behind a block of a slice. -/
import Derived.Test.YtbigkblkfnnfkabDoorSpread
namespace Go.Proofs.YtbigkblkfnnfkabDoor
open Go.RowKit
set_option linter.unusedVariables false

/-- The words at the head of round t. -/
def wAt (bs : List UInt8) (t : Nat) : List Nat := if t ≤ 16 then loadW bs (4 * t) else extW (loadW bs 64) (t - 16)

theorem wAt_length (bs : List UInt8) (t : Nat) : (wAt bs t).length = 64 := by
  unfold wAt; split
  · exact loadW_length _ _
  · rw [extW_length, loadW_length]
theorem wAt_small (bs : List UInt8) (t : Nat) (h : t < 16) : wAt bs t = loadW bs (4 * t + 0) ∧ wAt bs (t + 1) = loadW bs (4 * t + 4) := by
  unfold wAt; rw [if_pos (by omega), if_pos (by omega)]; exact ⟨rfl, rfl⟩
theorem wAt_great (bs : List UInt8) (t : Nat) (h : 16 ≤ t) : wAt bs t = extW (loadW bs 64) (t - 16) := by
  unfold wAt; split
  · obtain rfl : t = 16 := by omega
    rfl
  · rfl

theorem quiet_more {P : Program} {f : FuncId} {args : Array Value} {w : World} {n m : Nat} {v : Value}
    (h : Calls P f args (w.drewN (n + m)) fun e w' => e = .returned v ∧ ∃ k, w' = (w.drewN (n + m)).drewN k) : Calls P f args (w.drewN (n + m)) fun e w'' => e = .returned v ∧ ∃ k, w'' = w.drewN (n + k) :=
  h.mono fun _ _ ⟨he, k, hk⟩ => ⟨he, m + k, by rw [hk, World.drewN_drewN, Nat.add_assoc]⟩

theorem len8 (s : St) : (s.list.map U32).length = 8 := rfl
theorem u32_one (l : List Nat) : ∀ v ∈ l.map U32, v.oneCell' = true := by
  intro v hv; simp at hv; obtain ⟨x, _, rfl⟩ := hv; rfl

theorem cell55 {w : World} {g : Nat} {l : List Nat} (h : At 39 w g (l.map U32)) (i : Nat) (hi : i < l.length) : w.cell? ⟨g, i, none⟩ = some (.int .u32 ((l.getD i 0 : Nat) : Int)) := by
  rw [h.cell]; simp [U32, List.getD, List.getElem?_eq_getElem hi]

attribute [local go_sem] xor32_eq and32_eq or32_eq not32_eq

end Go.Proofs.YtbigkblkfnnfkabDoor
