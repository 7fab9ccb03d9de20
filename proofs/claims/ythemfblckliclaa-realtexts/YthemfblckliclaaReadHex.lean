/- octet.ReadHex and the document's own ReadHex: the bytes of digits. -/
import Derived.Test.YthemfblckliclaaBytes
namespace Go.Proofs.Ythemfblckliclaa
open Go.RowKit
set_option linter.unusedVariables false

/-- A digit's value; 16: it is none. -/
def dv (c : Nat) : Nat := if 48 ≤ c ∧ c ≤ 57 then c - 48 else if 97 ≤ c ∧ c ≤ 102 then c - 87 else 16

/-- The bytes whose digits these are; none: they are no digits of bytes. -/
def unhex : List UInt8 → Option (List UInt8)
  | [] => some []
  | [_] => none
  | x :: y :: l => if dv x.toNat < 16 ∧ dv y.toNat < 16 then (unhex l).map (ub (16 * dv x.toNat + dv y.toNat) :: ·) else none

theorem unhex_odd : ∀ (f : Nat) (l : List UInt8), l.length ≤ f → l.length % 2 = 1 → unhex l = none := by
  intro f
  induction f with
  | zero => intro l h h1; omega
  | succ f ih =>
    intro l h h1
    match l with
    | [] => simp at h1
    | [_] => rfl
    | x :: y :: l =>
      simp only [unhex]
      split
      · rw [ih l (by simp at h; omega) (by simp at h1; omega)]; rfl
      · rfl

theorem idx16_nat : ∀ c : Nat, c < 256 → Lib.indexByte (({ data := #[48, 49, 50, 51, 52, 53, 54, 55, 56, 57, 97, 98, 99, 100, 101, 102] } : ByteArray)).data.toList ((c : Int).toNat.toUInt8) = if dv c < 16 then (dv c : Int) else -1 := by decide +kernel

theorem idx16_yes (c : Nat) (hc : c < 256) (h : dv c < 16) (w : World) :
    Calls Try.prog 60 #[.string ({ data := #[48, 49, 50, 51, 52, 53, 54, 55, 56, 57, 97, 98, 99, 100, 101, 102] } : ByteArray), .int .u8 (c : Int)] w fun e w' => e = .returned (.int .i64 (dv c : Int)) ∧ w' = w := by
  have h' := indexByte_any ({ data := #[48, 49, 50, 51, 52, 53, 54, 55, 56, 57, 97, 98, 99, 100, 101, 102] } : ByteArray) (c : Int) w
  rw [idx16_nat c hc, if_pos h] at h'
  exact h'

theorem idx16_no (c : Nat) (hc : c < 256) (h : ¬ dv c < 16) (w : World) :
    Calls Try.prog 60 #[.string ({ data := #[48, 49, 50, 51, 52, 53, 54, 55, 56, 57, 97, 98, 99, 100, 101, 102] } : ByteArray), .int .u8 (c : Int)] w fun e w' => e = .returned (.int .i64 (-1)) ∧ w' = w := by
  have h' := indexByte_any ({ data := #[48, 49, 50, 51, 52, 53, 54, 55, 56, 57, 97, 98, 99, 100, 101, 102] } : ByteArray) (c : Int) w
  rw [idx16_nat c hc, if_neg h] at h'
  exact h'

/-- A digit's value as Go has it. -/
def dvI (c : Nat) : Int := if dv c < 16 then (dv c : Int) else -1

theorem idx16_any (c : Nat) (hc : c < 256) (d : Int) (h : Hid (d = dvI c)) (w : World) :
    Calls Try.prog 60 #[.string ({ data := #[48, 49, 50, 51, 52, 53, 54, 55, 56, 57, 97, 98, 99, 100, 101, 102] } : ByteArray), .int .u8 (c : Int)] w fun e w' => e = .returned (.int .i64 d) ∧ w' = w := by
  rw [h.out, dvI]
  split
  · exact idx16_yes c hc ‹_› w
  · exact idx16_no c hc ‹_› w

theorem or16 : ∀ x y : Nat, x < 16 → y < 16 → x * 16 ||| y = 16 * x + y := by
  intro x y hx hy
  rw [nat_join 4 (x * 16) y (by omega) hy]
  omega

theorem or16i (x y : Nat) (hx : x < 16) (hy : y < 16) : bits .or .i64 ((x : Int) * 16) (y : Int) = ((16 * x + y : Nat) : Int) := by
  have h := bits_nat .i64 63 (by decide) (fun n h0 h1 => by rw [IntKind.wrap_i64]; omega) (x * 16) y (by omega) (by omega)
  have e : (x : Int) * 16 = ((x * 16 : Nat) : Int) := by omega
  rw [e, h.2, or16 x y hx hy]

theorem drewN_below0 (w : World) (q B : Nat) : Below B w (w.drewN q) := ⟨rfl, rfl, rfl, Nat.le_refl _, fun _ _ => rfl⟩

theorem own_drewN {base : Nat} {w : World} {v : Value} {out : List UInt8} (h : Own base w v out) (n : Nat) : Own base (w.drewN n) v out := h

theorem unhex_step (r : ByteArray) (h : 1 < r.size) : unhex (bytes r) = if dv (r[0]'(by omega)).toNat < 16 ∧ dv (r[1]'h).toNat < 16 then (unhex ((bytes r).drop 2)).map (ub (16 * dv (r[0]'(by omega)).toNat + dv (r[1]'h).toNat) :: ·) else none := by
  have e0 := bytes_at r 0 (by omega)
  have e1 := bytes_at r 1 h
  have hl := bytes_length r
  match hb : bytes r with
  | [] => rw [hb] at hl; simp at hl; omega
  | [_] => rw [hb] at hl; simp at hl; omega
  | x :: y :: l =>
    rw [hb] at e0 e1
    simp [List.getD] at e0 e1
    rw [unhex, ← e0, ← e1]
    rfl

theorem extract_two (r : ByteArray) : bytes (r.extract 2 r.size) = (bytes r).drop 2 := by
  rw [bytes, Lib.extract_data, List.take_of_length_le]
  · rfl
  · simp

theorem unhex_drop (s : ByteArray) (k : Nat) (h : k + 1 < s.size) : unhex ((bytes s).drop k) = if dv (s[k]'(by omega)).toNat < 16 ∧ dv (s[k + 1]'h).toNat < 16 then (unhex ((bytes s).drop (k + 2))).map (ub (16 * dv (s[k]'(by omega)).toNat + dv (s[k + 1]'h).toNat) :: ·) else none := by
  have hl := bytes_length s
  have e0 := bytes_at s k (by omega)
  have e1 := bytes_at s (k + 1) h
  have d1 : (bytes s).drop k = (bytes s).getD k 0 :: (bytes s).getD (k + 1) 0 :: (bytes s).drop (k + 2) := by
    rw [List.drop_eq_getElem_cons (show k < (bytes s).length by omega), List.drop_eq_getElem_cons (show k + 1 < (bytes s).length by omega)]
    simp [List.getD, List.getElem?_eq_getElem (show k < (bytes s).length by omega), List.getElem?_eq_getElem (show k + 1 < (bytes s).length by omega)]
  rw [d1, unhex, e0, e1]

end Go.Proofs.Ythemfblckliclaa
