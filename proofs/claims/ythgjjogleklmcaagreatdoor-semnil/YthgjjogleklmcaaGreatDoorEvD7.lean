/- The reckoner: part EvD7. -/
import Derived.Test.YthgjjogleklmcaaGreatDoorEvC5
namespace Go.Proofs.YthgjjogleklmcaaGreatDoor.Ev
open Go.RowKit
set_option linter.unusedVariables false

theorem spot_eq {a b : Addr} (h1 : noSpot a = true) (h2 : noSpot b = true) (h3 : a.block = b.block) (h4 : a.off = b.off) : a = b := by
  have e1 := noSpot_iff h1
  have e2 := noSpot_iff h2
  cases a; cases b
  simp_all
theorem fnEq {f g : FuncId} (h : Nat.beq f g = true) : f = g := Nat.eq_of_beq_eq_true h
mutual
theorem sameV_eq (a b : Value) (h : sameV a b = true) : a = b := by
  unfold sameV at h
  split at h
  · rename_i a b
    cases a <;> cases b <;> first | rfl | cases h
  · obtain ⟨h1, h2⟩ := bsel_and h
    rw [kindEq_eq h1]
    rename_i j a k b
    rw [intEq_eq] at h2
    rw [eq_of_beq h2]
  · rename_i a b
    rw [bytesEq_eq] at h
    have h := eq_of_beq h
    cases a; cases b
    exact congrArg _ (congrArg _ (Array.ext' h))
  · rfl
  · obtain ⟨h1, h⟩ := bsel_and h
    obtain ⟨h2, h⟩ := bsel_and h
    obtain ⟨h3, h4⟩ := bsel_and h
    rw [spot_eq h1 h2 (Nat.eq_of_beq_eq_true h3) (Nat.eq_of_beq_eq_true h4)]
  · obtain ⟨h1, h2⟩ := bsel_and h
    rw [Nat.eq_of_beq_eq_true h1, Nat.eq_of_beq_eq_true h2]
  · obtain ⟨h1, h⟩ := bsel_and h
    obtain ⟨h2, h⟩ := bsel_and h
    obtain ⟨h3, h⟩ := bsel_and h
    obtain ⟨h4, h⟩ := bsel_and h
    obtain ⟨h5, h6⟩ := bsel_and h
    rw [spot_eq h1 h2 (Nat.eq_of_beq_eq_true h3) (Nat.eq_of_beq_eq_true h4), Nat.eq_of_beq_eq_true h5, Nat.eq_of_beq_eq_true h6]
  · rfl
  · rw [Nat.eq_of_beq_eq_true h]
  · rfl
  · rfl
  · obtain ⟨h1, h2⟩ := bsel_and h
    rw [Nat.eq_of_beq_eq_true h1, sameV_eq _ _ h2]
  · rw [sameL_eq _ _ h]
  · rw [sameL_eq _ _ h]
  · obtain ⟨h1, h⟩ := bsel_and h
    obtain ⟨h2, h3⟩ := bsel_and h
    rw [Nat.eq_of_beq_eq_true h1, sameL_eq _ _ h2, sameL_eq _ _ h3]
  · rw [Nat.eq_of_beq_eq_true h]
  · cases h
theorem sameL_eq (a b : List Value) (h : sameL a b = true) : a = b := by
  unfold sameL at h
  split at h
  · rfl
  · obtain ⟨h1, h2⟩ := bsel_and h
    rw [sameV_eq _ _ h1, sameL_eq _ _ h2]
  · cases h
end
end Go.Proofs.YthgjjogleklmcaaGreatDoor.Ev
