/- The reckoner: part EvO3. -/
import Derived.Test.YthgjjogleklmcaaGreatDoorEvO2
namespace Go.Proofs.YthgjjogleklmcaaGreatDoor.Ev
open Go.RowKit
set_option linter.unusedVariables false
section
variable {P : Tb} {w0 : Base} {E : Env} {H H' : St} {w : World} {s : Lc} {L : Ls} {a : Act} {o : Oper} {v : Value}

/-! ### whole numbers -/
theorem wrap_bound {k : IntKind} (m : Nat) (hk : (m : Int) < 2 ^ k.bits) (hs : k.signed = true → (m : Int) < 2 ^ (k.bits - 1)) : k.wrap (Int.ofNat m) = Int.ofNat m := by
  have h1 : (Int.ofNat m) % (2 ^ k.bits : Int) = Int.ofNat m := Int.emod_eq_of_lt (Int.natCast_nonneg m) hk
  simp only [IntKind.wrap, h1]
  rw [if_neg]
  simp only [Bool.and_eq_true, decide_eq_true_eq, not_and, Int.not_le]
  exact hs
theorem wrap64_eq (n : Int) : wrap64 n = IntKind.i64.wrap n := by
  cases n with
  | ofNat m =>
    show bsel (Nat.ble m 9223372036854775807) _ _ = _
    cases h : Nat.ble m 9223372036854775807 with
    | false => exact bsel_f _ _
    | true =>
      have := Nat.le_of_ble_eq_true h
      rw [bsel_t]
      exact (wrap_bound (k := .i64) m (by simp only [IntKind.bits]; omega) (fun _ => by simp only [IntKind.bits]; omega)).symm
  | negSucc m =>
    show bsel (Nat.ble m 9223372036854775807) _ _ = _
    cases h : Nat.ble m 9223372036854775807 with
    | false => exact bsel_f _ _
    | true =>
      have := Nat.le_of_ble_eq_true h
      rw [bsel_t]
      exact (show IntKind.i64.wrap (Int.negSucc m) = Int.negSucc m by
        have e : Int.negSucc m = -(m : Int) - 1 := by omega
        have hm : (Int.negSucc m) % (2 ^ 64 : Int) = Int.negSucc m + 18446744073709551616 := by omega
        simp only [IntKind.wrap, IntKind.bits, IntKind.signed, hm]
        rw [if_pos]
        · omega
        · simp; omega).symm
theorem wrapB_eq (k : IntKind) (b : Nat) (n : Int) (hb : ∀ m : Nat, m ≤ b → k.wrap (Int.ofNat m) = Int.ofNat m) : wrapB k b n = k.wrap n := by
  cases n with
  | ofNat m =>
    show bsel (Nat.ble m b) _ _ = _
    cases h : Nat.ble m b with
    | false => exact bsel_f _ _
    | true => exact (hb m (Nat.le_of_ble_eq_true h)).symm
  | negSucc m => rfl
theorem wrapK_eq (k : IntKind) (n : Int) : wrapK k n = k.wrap n := by
  cases k
  case i64 => exact wrap64_eq n
  case u8 => exact wrapB_eq _ _ n fun m hm => wrap_bound m (by simp only [IntKind.bits]; omega) (fun h => nomatch h)
  case u64 => exact wrapB_eq _ _ n fun m hm => wrap_bound m (by simp only [IntKind.bits]; omega) (fun h => nomatch h)
  case u32 => exact wrapB_eq _ _ n fun m hm => wrap_bound m (by simp only [IntKind.bits]; omega) (fun h => nomatch h)
  case i32 => exact wrapB_eq _ _ n fun m hm => wrap_bound m (by simp only [IntKind.bits]; omega) (fun h => by simp only [IntKind.bits]; omega)
  all_goals rfl
theorem intEq_eq (a b : Int) : intEq a b = (a == b) := by
  cases a with
  | ofNat m =>
    cases b with
    | ofNat n => show Nat.beq m n = _; rw [Bool.eq_iff_iff]; simp; omega
    | negSucc n => show false = _; symm; simp
  | negSucc m =>
    cases b with
    | ofNat n => show false = _; symm; simp
    | negSucc n => show Nat.beq m n = _; rw [Bool.eq_iff_iff]; simp
theorem intLt_eq (a b : Int) : intLt a b = decide (a < b) := by
  cases a with
  | ofNat m =>
    cases b with
    | ofNat n => show Nat.ble (m + 1) n = _; rw [Bool.eq_iff_iff, Nat.ble_eq]; simp; omega
    | negSucc n => show false = _; symm; simp; omega
  | negSucc m =>
    cases b with
    | ofNat n => show true = _; symm; simp; omega
    | negSucc n => show Nat.ble (n + 1) m = _; rw [Bool.eq_iff_iff, Nat.ble_eq]; simp; omega
theorem kindEq_eq {j k : IntKind} (h : kindEq j k = true) : j = k := by
  cases j <;> cases k <;> first | rfl | (exact absurd h (by decide))

theorem aInt_ok {op : BinOp} {t : TypeId} {k : IntKind} {x y : Int} {u : Value} (h : aInt op k x y = some u) : (binOp op t (.int k x) (.int k y)).run P.P w = .ok u w := by
  cases op <;> simp only [aInt] at h <;> first
    | (cases h; done)
    | (obtain rfl := Option.some.inj h
       simp [binOp, Op.intArith, Op.intCmp, wrapK_eq, intEq_eq, intLt_eq, bne]
       try (first | rfl | (rw [Bool.eq_iff_iff]; simp)))
end
end Go.Proofs.YthgjjogleklmcaaGreatDoor.Ev
