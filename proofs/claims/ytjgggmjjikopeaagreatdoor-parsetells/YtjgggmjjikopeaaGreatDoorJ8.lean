/- J -/
import Derived.Test.YtjgggmjjikopeaaGreatDoorJ6
set_option linter.unusedVariables false
open Go.RowKit
namespace Go.Proofs.YtjgggmjjikopeaaGreatDoor
section
open Ieee
theorem j0 (k : Nat) (h6 : k <= 6) : 1 <= 10 ^ k /\ 10 ^ k <= 1000000 :=
 ⟨Nat.pow_pos (by decide), show 10 ^ k <= 10 ^ 6 from Nat.pow_le_pow_right (by decide) h6⟩
theorem zgo (n s : Nat) : quo n s < 18446744073709551616 := zfb (fun x h => D.div_lt h)
end
theorem jC (l : List UInt8) : ∀ acc : Nat, l.foldl (fun n c => n * 10 + (c.toNat - 48)) acc = acc * 10 ^ l.length + zn l := by
 induction l with
 | nil => intro acc; simp [zn]
 | cons c l ih =>
  intro acc
  have h1 := ih (acc * 10 + (c.toNat - 48))
  have h2 := ih (0 * 10 + (c.toNat - 48))
  simp only [zn, List.foldl_cons, VX] at h1 h2 ⊢
  rw [h1, h2, Nat.pow_succ, Nat.add_mul, Nat.add_mul, Nat.zero_mul]
  rw [Nat.mul_assoc, Nat.mul_comm 10]
  omega
theorem JM (c : UInt8) (l : List UInt8) : zn (c :: l) = (c.toNat - 48) * 10 ^ l.length + zn l := by
 have := jC l (0 * 10 + (c.toNat - 48))
 unfold zn at this ⊢
 rw [List.foldl_cons, this]
 simp
theorem Jj (l : List UInt8) (h : ∀ j, j < l.length -> 48 <= (l.getD j 0).toNat /\ (l.getD j 0).toNat <= 57) : zn l < 10 ^ l.length := by
 have := za5 l l.length (zj _) h
 rwa [List.take_of_length_le (zj _)] at this
theorem Jt {c : UInt8} {l : List UInt8} (h : zO (c :: l)) : ∀ j, j < l.length -> 48 <= (l.getD j 0).toNat /\ (l.getD j 0).toNat <= 57 := by
 intro j hj
 have := h.2.2.1 (j + 1) (by simp; omega)
 simpa using this
theorem zd8 {b : List UInt8} (h : zO (49 :: b)) : zn (49 :: b) = 10 ^ b.length + zn b /\ zn b < 10 ^ b.length := by
 refine ⟨?_, Jj b (Jt h)⟩
 rw [JM]
 simp
theorem KE {l : List UInt8} (h : zO l) : YA ((zn l : Nat) : Int) = l := by
 unfold YA
 rw [ze (by omega), Int.natAbs_natCast]
 exact qz l h
theorem Je {l : List UInt8} (h : yO l) : l = zw l ++ 46 :: zu l := by
 by_cases hi : 0 <= Lib.indexByte l 46
 ·exact (KF l hi).2
 ·have ge := Lib.indexByte_ge l 46
  have := (KG l (by omega)).2
  have h1 := h.1
  rw [this] at h1
  simp at h1
theorem zaA {l : List UInt8} (h : yO l) : XD (zu l).length (yE l) = l /\ yE l < 1000000000000000 /\ yE l / 10 ^ (zu l).length = zn (zw l) := by
 have hs := Je h
 obtain ⟨h1, h2, h3, h4, h5⟩ := h
 obtain ⟨e1, e2⟩ := zd8 h5
 have hp : 0 < 10 ^ (zu l).length := Nat.pow_pos (by decide)
 have hn : yE l = zn (zw l) * 10 ^ (zu l).length + zn (zu l) := by
  unfold yE; rw [e1]; omega
 have hd : yE l / 10 ^ (zu l).length = zn (zw l) := by
  rw [hn, Nat.mul_comm, Nat.mul_add_div hp, Nat.div_eq_of_lt e2, Nat.add_zero]
 have hm : yE l % 10 ^ (zu l).length = zn (zu l) := by
  rw [hn, Nat.mul_comm, Nat.mul_add_mod, Nat.mod_eq_of_lt e2]
 refine ⟨?_, ?_, hd⟩
 ·unfold XD
  rw [hd, hm, KE h4, <- e1, KE h5]
  conv => rhs; rw [hs]
  simp
 ·have ha := qt h4
  have : yE l < 10 ^ ((zw l).length + (zu l).length) := by
   rw [hn, Nat.pow_add]
   have h6 : (zn (zw l) + 1) * 10 ^ (zu l).length <= 10 ^ (zw l).length * 10 ^ (zu l).length := Nat.mul_le_mul_right _ ha
   rw [Nat.add_mul, Nat.one_mul] at h6
   omega
  exact Zy this (show _ <= 10 ^ 15 from Nat.pow_le_pow_right (by decide) h3)
theorem zgP (a b : List UInt8) (h : ∀ c ∈ a, (c != 46) = true) : zw (a ++ 46 :: b) = a /\ zu (a ++ 46 :: b) = b := by
 induction a with
 | nil => exact ⟨rfl, rfl⟩
 | cons c a ih =>
  have hc := h c (by simp)
  obtain ⟨i1, i2⟩ := ih (fun x hx => h x (by simp [hx]))
  refine ⟨?_, ?_⟩
  ·unfold zw at i1 ⊢; rw [List.cons_append, List.takeWhile_cons, zi hc, i1]
  ·unfold zu at i2 ⊢; rw [List.cons_append, List.dropWhile_cons, zi hc, i2]
