/- The reckoner: part EvC8. -/
import Derived.Test.YthgjjogleklmcaaGreatDoorEvC7
import Derived.Test.YthgjjogleklmcaaGreatDoorEvM
namespace Go.Proofs.YthgjjogleklmcaaGreatDoor.Ev
open Go.RowKit
set_option linter.unusedVariables false
section
variable {P : Tb}

/-! ### the whole, but for the regions whose order is drawn -/
def SoundAt (P : Tb) (n : Nat) : Prop := ∀ j, JobOk P j (run P n j) ∧ JobD P j (run P n j)
def DrawOk (P : Tb) : Prop := ∀ n, (∀ m, m ≤ n → SoundAt P m) → ∀ i ops s H, JobOk P (.code (.region i ops true) s H) (run P n (.dops ops.toList ops [] [H] [] s H))

theorem jobOk_of_ne {j : Job} {g : Got} (h1 : ∀ c s H, j ≠ .code c s H) (h2 : ∀ l all L s H, j ≠ .ops l all L s H) (h3 : ∀ f args H, j ≠ .call f args H) : JobOk P j g := by
  cases j with
  | code c s H => exact absurd rfl (h1 c s H)
  | ops l all L s H => exact absurd rfl (h2 l all L s H)
  | call f args H => exact absurd rfl (h3 f args H)
  | _ => trivial
theorem jobD_of_ne {j : Job} {g : Got} (h1 : ∀ c s H p, j ≠ .codeS c s H p) (h2 : ∀ l all L s H p, j ≠ .opsS l all L s H p) (h3 : ∀ f args H p, j ≠ .callD f args H p) : JobD P j g := by
  cases j with
  | codeS c s H p => exact absurd rfl (h1 c s H p)
  | opsS l all L s H p => exact absurd rfl (h2 l all L s H p)
  | callD f args H p => exact absurd rfl (h3 f args H p)
  | _ => trivial
theorem jobOk_fail {j : Job} {n : Nat} : JobOk P j (.fail n) := by cases j <;> trivial
theorem jobD_fail {j : Job} {n : Nat} : JobD P j (.fail n) := by cases j <;> trivial

theorem sound (K : TbOk P) (hM : MemosOk P) (hDr : DrawOk P) (n : Nat) : SoundAt P n := by
  induction n using Nat.strongRecOn with
  | ind n ihn =>
    cases n with
    | zero => exact fun j => ⟨jobOk_fail, jobD_fail⟩
    | succ n =>
      have hn := ihn n (Nat.lt_succ_self n)
      have hi : ∀ j, JobOk P j (run P n j) := fun j => (hn j).1
      have hj : ∀ j, JobD P j (run P n j) := fun j => (hn j).2
      have hD : ∀ f args H p H' p', run P n (.callD f args H p) = .valD H' p' → CallDOk P f args H p H' p' := fun f args H p H' p' h => by
        have := hj (.callD f args H p)
        rw [h] at this
        exact this
      intro j
      cases j with
      | code c s H =>
        refine ⟨?_, jobD_of_ne (by simp) (by simp) (by simp)⟩
        by_cases hl : ∃ b, c = .loop b
        · obtain ⟨b, rfl⟩ := hl
          exact loop_ok (fun m hm j => (ihn m hm j).1) b
        · by_cases hr : ∃ i ops, c = .region i ops true
          · obtain ⟨i, ops, rfl⟩ := hr
            exact hDr n (fun m hm => ihn m (Nat.lt_succ_of_le hm)) i ops s H
          · exact stepCode_ok hi c (fun b hb => hl ⟨b, hb⟩) (fun i ops ho => hr ⟨i, ops, ho⟩)
      | ops l all L s H => exact ⟨opsStep_ok K hi, jobD_of_ne (by simp) (by simp) (by simp)⟩
      | dops l all rs hs L s H => exact ⟨jobOk_of_ne (by simp) (by simp) (by simp), jobD_of_ne (by simp) (by simp) (by simp)⟩
      | call f args H => exact ⟨stepF_ok K hM hi hD, jobD_of_ne (by simp) (by simp) (by simp)⟩
      | codeS c s H p => exact ⟨jobOk_of_ne (by simp) (by simp) (by simp), stepS_ok hi hj c⟩
      | opsS l all L s H p => exact ⟨jobOk_of_ne (by simp) (by simp) (by simp), opsSStep_ok K hi hj⟩
      | callD f args H p => exact ⟨jobOk_of_ne (by simp) (by simp) (by simp), enterD_ok K hj⟩
end
end Go.Proofs.YthgjjogleklmcaaGreatDoor.Ev
