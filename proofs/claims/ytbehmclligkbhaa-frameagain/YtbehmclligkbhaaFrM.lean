/- Checks and frames as plain functions of lists: no program is named here. -/
import Derived.Test.YtbehmclligkbhaaBytes
import Derived.Test.YtbehmclligkbhaaNumber
namespace Go.Proofs.Ytbehmclligkbhaa
set_option linter.unusedVariables false

/-- One of the check's eight steps. -/
def crS (c : Nat) : Nat := if c % 2 = 1 then (c / 2) ^^^ 2197175160 else c / 2
def crN : Nat → Nat → Nat
  | 0, c => c
  | n + 1, c => crN n (crS c)
/-- The check goes over one byte. -/
def crB (c : Nat) (b : UInt8) : Nat := crN 8 (c ^^^ b.toNat)
def crR (bs : List UInt8) : Nat := bs.foldl crB 4294967295
/-- The check. -/
def crc (bs : List UInt8) : Nat := 4294967295 ^^^ crR bs
theorem crS_lt {c : Nat} (h : c < 4294967296) : crS c < 4294967296 := by
  unfold crS
  split
  · exact Nat.xor_lt_two_pow (n := 32) (by omega) (by omega)
  · omega
theorem crN_lt : ∀ (n : Nat) {c : Nat}, c < 4294967296 → crN n c < 4294967296
  | 0, _, h => h
  | n + 1, _, h => crN_lt n (crS_lt h)
theorem crB_lt {c : Nat} (b : UInt8) (h : c < 4294967296) : crB c b < 4294967296 := by
  unfold crB
  exact crN_lt 8 (Nat.xor_lt_two_pow (n := 32) h (by have := b.toNat_lt; omega))
theorem foldB_lt : ∀ (bs : List UInt8) {c : Nat}, c < 4294967296 → bs.foldl crB c < 4294967296
  | [], _, h => h
  | b :: bs, _, h => foldB_lt bs (crB_lt b h)
theorem crR_lt (bs : List UInt8) : crR bs < 4294967296 := foldB_lt bs (by decide)
theorem crc_lt (bs : List UInt8) : crc bs < 4294967296 := Nat.xor_lt_two_pow (n := 32) (by decide) (crR_lt bs)
theorem crN_snoc (n c : Nat) : crN (n + 1) c = crS (crN n c) := by
  induction n generalizing c with
  | zero => rfl
  | succ n ih => exact ih (crS c)
theorem crR_snoc (bs : List UInt8) (b : UInt8) : crR (bs ++ [b]) = crB (crR bs) b := by simp [crR]
/-- The lowest bit that fell out is the highest of what comes. -/
theorem crS_top {c : Nat} (h : c < 4294967296) : (crS c).testBit 31 = decide (c % 2 = 1) := by
  have h2 : (c / 2).testBit 31 = false := Nat.testBit_lt_two_pow (by omega)
  unfold crS
  split
  · rename_i q
    rw [Nat.testBit_xor, h2, decide_eq_true q]; decide
  · rename_i q
    rw [h2, decide_eq_false q]
theorem xor_inj {a b c : Nat} (h : a ^^^ c = b ^^^ c) : a = b := by
  have : (a ^^^ c) ^^^ c = (b ^^^ c) ^^^ c := by rw [h]
  rwa [Nat.xor_assoc, Nat.xor_self, Nat.xor_zero, Nat.xor_assoc, Nat.xor_self, Nat.xor_zero] at this
theorem xor_inj' {a b c : Nat} (h : c ^^^ a = c ^^^ b) : a = b := xor_inj (c := c) (by rw [Nat.xor_comm a, Nat.xor_comm b, h])
theorem crS_inj {c d : Nat} (hc : c < 4294967296) (hd : d < 4294967296) (h : crS c = crS d) : c = d := by
  have h1 := crS_top hc
  have h2 := crS_top hd
  rw [h, h2] at h1
  have h3 : c % 2 = 1 ↔ d % 2 = 1 := by
    constructor
    · intro q; rw [decide_eq_true q] at h1; exact of_decide_eq_true h1
    · intro q; rw [decide_eq_true q] at h1; exact of_decide_eq_true h1.symm
  unfold crS at h
  by_cases q : c % 2 = 1
  · rw [if_pos q, if_pos (h3.1 q)] at h
    have := xor_inj h
    have := h3.1 q
    omega
  · rw [if_neg q, if_neg (fun p => q (h3.2 p))] at h
    have : ¬ d % 2 = 1 := fun p => q (h3.2 p)
    omega
theorem crN_inj : ∀ (n : Nat) {c d : Nat}, c < 4294967296 → d < 4294967296 → crN n c = crN n d → c = d
  | 0, _, _, _, _, h => h
  | n + 1, _, _, hc, hd, h => crS_inj hc hd (crN_inj n (crS_lt hc) (crS_lt hd) h)
theorem crB_inj {c d : Nat} {b : UInt8} (hc : c < 4294967296) (hd : d < 4294967296) (h : crB c b = crB d b) : c = d := by
  have hb := b.toNat_lt
  exact xor_inj (crN_inj 8 (Nat.xor_lt_two_pow (n := 32) hc (by omega)) (Nat.xor_lt_two_pow (n := 32) hd (by omega)) h)
theorem crB_byte {c : Nat} {a b : UInt8} (hc : c < 4294967296) (h : crB c a = crB c b) : a = b := by
  have ha := a.toNat_lt
  have hb := b.toNat_lt
  exact UInt8.toNat_inj.1 (xor_inj' (crN_inj 8 (Nat.xor_lt_two_pow (n := 32) hc (by omega)) (Nat.xor_lt_two_pow (n := 32) hc (by omega)) h))
theorem foldB_inj : ∀ (bs : List UInt8) {c d : Nat}, c < 4294967296 → d < 4294967296 → bs.foldl crB c = bs.foldl crB d → c = d
  | [], _, _, _, _, h => h
  | b :: bs, _, _, hc, hd, h => crB_inj hc hd (foldB_inj bs (crB_lt b hc) (crB_lt b hd) h)
/-- One byte that is another is told by the check. -/
theorem crc_other (xs ys : List UInt8) (a b : UInt8) (h : a ≠ b) : crc (xs ++ a :: ys) ≠ crc (xs ++ b :: ys) := by
  intro q
  have q := xor_inj' q
  unfold crR at q
  rw [List.foldl_append, List.foldl_append, List.foldl_cons, List.foldl_cons] at q
  have hx := foldB_lt xs (c := 4294967295) (by decide)
  exact h (crB_byte hx (foldB_inj ys (crB_lt a hx) (crB_lt b hx) q))
end Go.Proofs.Ytbehmclligkbhaa
