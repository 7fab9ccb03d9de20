/- digest.Same and Token. -/
import Derived.Test.YtbigkblkfnnfkabDoorNil
namespace Go.Proofs.YtbigkblkfnnfkabDoor
open Go.RowKit
set_option linter.unusedVariables false
attribute [local go_sem ↓] Go.wp_at_zero Go.wp_at_succ

/-- Whether the first k bytes are the same. -/
def sameTo (l m : List UInt8) : Nat → Bool
  | 0 => true
  | k + 1 => sameTo l m k && eqAt l m k
theorem sameTo_all (l m : List UInt8) (k : Nat) : sameTo l m k = (List.range k).all (eqAt l m) := by
  induction k with
  | zero => rfl
  | succ k ih => rw [sameTo, ih, List.range_succ, List.all_append]; simp

theorem or8_eq (u v : Nat) (hu : u < 256) (hv : v < 256) : bits .or .u8 (u : Int) (v : Int) = ((u ||| v : Nat) : Int) := u8_or_nat u v hu hv
theorem xor8_lt (x y : UInt8) : x.toNat ^^^ y.toNat < 256 := by
  have h1 := UInt8.toNat_lt x
  have h2 := UInt8.toNat_lt y
  exact Nat.xor_lt_two_pow (n := 8) h1 h2
theorem same_step (u : Nat) (x y : UInt8) (hu : u < 256) (q : Bool) (hq : (u = 0) = (q = true)) :
    (u ||| (x.toNat ^^^ y.toNat) < 256) ∧ ((u ||| (x.toNat ^^^ y.toNat) = 0) = ((q && (x == y)) = true)) := by
  refine ⟨Nat.or_lt_two_pow (n := 8) hu (xor8_lt x y), ?_⟩
  have h1 : (u ||| (x.toNat ^^^ y.toNat) = 0) ↔ (u = 0 ∧ x = y) := by
    rw [Nat.or_eq_zero_iff]
    constructor
    · rintro ⟨h, h2⟩
      have e : x.toNat ^^^ y.toNat ^^^ y.toNat = x.toNat := by rw [Nat.xor_assoc, Nat.xor_self, Nat.xor_zero]
      rw [h2, Nat.zero_xor] at e
      exact ⟨h, UInt8.toNat_inj.1 e.symm⟩
    · rintro ⟨h, rfl⟩
      exact ⟨h, Nat.xor_self _⟩
  rw [propext h1, hq]
  simp

theorem At.range {t : TypeId} {w : World} {g : Nat} {cs : List Value} (h : At t w g cs) : w.rangeAt g 0 cs := fun j v hv => by
  rw [Nat.zero_add, h.cell]; exact hv

theorem sum_hid (a : Option Addr) (cap : Nat) (m ds : List UInt8) (hds : Hid (ds = sha m)) (w : World) (hrow : Row w a m) (hcap : m.length ≤ cap) (hmax : m.length ≤ 1099511627) (hR : Roots w) :
    Calls Tryd.prog 8 #[.slice a m.length cap] w fun e w' => e = .returned (.agg (ds.map B8).toArray) ∧ Below w.heap.size w w' := by
  rw [hds.out]
  exact sum_any a cap m w hrow hcap hmax hR

theorem range_below {u u' : World} {g : Nat} {cs : List Value} (h : u.rangeAt g 0 cs) (hb : Below u.heap.size u u') : u'.rangeAt g 0 cs := fun j v hv => by
  have := h j v hv
  rw [hb.cell (lt_of_cell this)]
  exact this

/-- What holds through the law's two great statements. -/
theorem keepS {u u' w6 : World} {g1 g2 g3 : Nat} {c1 c2 c3 : List Value} (hb : Below u.heap.size u u') (h : u.rangeAt g1 0 c1 ∧ u.rangeAt g2 0 c2 ∧ u.rangeAt g3 0 c3 ∧ Below w6.heap.size w6 u) :
    u'.rangeAt g1 0 c1 ∧ u'.rangeAt g2 0 c2 ∧ u'.rangeAt g3 0 c3 ∧ Below w6.heap.size w6 u' :=
  ⟨range_below h.1 hb, range_below h.2.1 hb, range_below h.2.2.1 hb, h.2.2.2.trans (hb.mono h.2.2.2.size)⟩
theorem drewS {u w6 : World} {g1 g2 g3 : Nat} {c1 c2 c3 : List Value} (h : u.rangeAt g1 0 c1 ∧ u.rangeAt g2 0 c2 ∧ u.rangeAt g3 0 c3 ∧ Below w6.heap.size w6 u) :
    u.drew.rangeAt g1 0 c1 ∧ u.drew.rangeAt g2 0 c2 ∧ u.drew.rangeAt g3 0 c3 ∧ Below w6.heap.size w6 u.drew :=
  ⟨h.1, h.2.1, h.2.2.1, h.2.2.2.drew⟩

end Go.Proofs.YtbigkblkfnnfkabDoor
