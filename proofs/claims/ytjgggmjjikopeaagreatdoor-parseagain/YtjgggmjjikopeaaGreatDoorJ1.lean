/- Joined texts of the proof. -/
import Derived.WalkKit
import Derived.WalkSpells
import Derived.Test.YtjgggmjjikopeaaGreatDoorRows
import Derived.Laws.BytesArg
import Derived.Lib.Bytealg

/- The plain functions of bytes, numbers and digits that the contracts speak of, and small facts about them: no program is named here. -/
namespace Go.Proofs.YtjgggmjjikopeaaGreatDoor

/-- A byte as a cell holds it. -/
def B8 (b : UInt8) : Value := .int .u8 (b.toNat : Int)

/-- The byte of a number. -/
def ub (n : Nat) : UInt8 := UInt8.ofNat n

theorem ub_toNat (n : Nat) (h : n < 256) : (ub n).toNat = n := by simp [ub]; omega

end Go.Proofs.YtjgggmjjikopeaaGreatDoor

/- Small laws for walks over slices of bytes: an append of one byte to a row that the call itself made. -/
namespace Go.Proofs.YtjgggmjjikopeaaGreatDoor
open Go.RowKit

theorem Tryz.info5 : (Tryz.prog.info? 5).map (fun i => (i.zero, i.size, i.bytes)) = some (some (.int .u8 0), 1, 1) := by kernel_rfl

/-- The call's own row of bytes. -/
def Own (base : Nat) (w : World) (v : Value) (out : List UInt8) : Prop := w.ownsRow base 5 1 v out.length (out.map B8)

theorem Own.nil (base : Nat) (w : World) : Own base w (.slice none 0 0) [] := World.ownsRow_nil _ _ _ _

theorem Own.block {base : Nat} {w : World} {v : Value} {out : List UInt8} (h : Own base w v out) : ∀ k, v.ownBlock = some k → base ≤ k := by
  intro k hk
  obtain ⟨_, ⟨rfl, _⟩ | ⟨g, cap, cur, rfl, hg, _⟩⟩ := h
  · simp [Value.ownBlock] at hk
  · simp [Value.ownBlock] at hk
    omega

/-- 'out = append(out, b)'. -/
theorem app1 {ops : Array Oper} {rest : List Oper} {o : Oper} {a : Act} {Q : Exit → Act → World → Prop} {w0 : World} (s x : Operand) (z : Int) (b : UInt8) (base : Nat) (v : Value) (out : List UInt8)
    (hgd : o.guard = none) (ho : o.op = .call { callee := .builtin .append, args := #[s, x], argTypes := #[84, 84] })
    (hs : a.eval s = v) (hx : a.eval x = .slice (some ⟨w0.heap.size, 0, none⟩) 1 1) (hown : Own base w0 v out) (hz : z = (b.toNat : Int)) (hlen : out.length ≤ 1099511627776) (hbase : base ≤ w0.heap.size)
    (h : ∀ v' w', Own base w' v' (out ++ [b]) → Below base w0 w' → wpList Tryz.prog ops Q rest (a.put o.dst v') w') :
    wpList Tryz.prog ops Q (o :: rest) a (w0.alloc (.cells #[.int .u8 z] 5)) := by
  obtain ⟨i0, hi, hz0, hz1, hz2⟩ := info_parts Tryz.info5
  refine wpList_append_own (w := w0.alloc (.cells #[.int .u8 z] 5)) hgd s x 84 ho base 5 i0 (.int .u8 0) 1 1 Tryz.underlying84 hi hz0 hz1 hz2 rfl (by decide) v out.length (out.map B8) hs (World.ownsRow.alloc hown _)
    ⟨w0.heap.size, 0, none⟩ 1 1 [.int .u8 z] hx rfl ?c1 ?c2 ?c3 ?c4 ?c5 ?_
  case c1 =>
    intro j u hj
    match j, hj with
    | 0, hj => simp at hj; subst hj; simp [Addr.add]
  case c2 => intro u hu; simp at hu; subst hu; rfl
  case c3 => unfold maxLen; omega
  case c4 => omega
  case c5 => simp; omega
  intro v' w' h1 h2 _
  refine h v' w' ?_ ?_
  · subst hz
    simpa [Own, B8] using h1
  · exact ((Below.refl base w0).alloc hbase _).grown h2 (by simp; omega) hown.block

/-- The same, the byte told by its number. -/
theorem app1n {ops : Array Oper} {rest : List Oper} {o : Oper} {a : Act} {Q : Exit → Act → World → Prop} {w0 : World} (s x : Operand) (z : Int) (k : Nat) (base : Nat) (v : Value) (out : List UInt8)
    (hgd : o.guard = none) (ho : o.op = .call { callee := .builtin .append, args := #[s, x], argTypes := #[84, 84] })
    (hs : a.eval s = v) (hx : a.eval x = .slice (some ⟨w0.heap.size, 0, none⟩) 1 1) (hown : Own base w0 v out) (hk : k < 256) (hz : z = (k : Int)) (hlen : out.length ≤ 1099511627776) (hbase : base ≤ w0.heap.size)
    (h : ∀ v' w', Own base w' v' (out ++ [ub k]) → Below base w0 w' → wpList Tryz.prog ops Q rest (a.put o.dst v') w') :
    wpList Tryz.prog ops Q (o :: rest) a (w0.alloc (.cells #[.int .u8 z] 5)) :=
  app1 s x z (ub k) base v out hgd ho hs hx hown (by rw [ub_toNat k hk]; exact hz) hlen hbase h

/-- What a slice of bytes that is read is known by: it has no bytes; or it leads to plain cells that hold them. -/
def Row (w : World) (a : Option Addr) (bs : List UInt8) : Prop :=
  bs = [] ∨ ∃ b off, a = some ⟨b, off, none⟩ ∧ ∀ j, j < bs.length → w.cell? ⟨b, off + j, none⟩ = some (.int .u8 ((bs.getD j 0).toNat : Int))

theorem lt_of_cell {w : World} {p : Addr} {v : Value} (h : w.cell? p = some v) : p.block < w.heap.size := by
  unfold World.cell? at h
  by_cases hp : p.block < w.heap.size
  · exact hp
  · rw [Array.getElem?_eq_none (by omega)] at h; simp at h

theorem Row.below {w w' : World} {a : Option Addr} {bs : List UInt8} (h : Row w a bs) (hb : Below w.heap.size w w') : Row w' a bs := by
  rcases h with h | ⟨b, off, rfl, hc⟩
  · exact .inl h
  · exact .inr ⟨b, off, rfl, fun j hj => by rw [hb.cell (lt_of_cell (hc j hj))]; exact hc j hj⟩

theorem Own.row {base : Nat} {w : World} {v : Value} {out : List UInt8} (h : Own base w v out) : ∃ a cap, v = .slice a out.length cap ∧ out.length ≤ cap ∧ cap ≤ maxLen ∧ Row w a out := by
  obtain ⟨h1, ⟨rfl, h0⟩ | ⟨g, cap, cur, rfl, hg, hh, hc, hm, hs, ht⟩⟩ := h
  · have : out = [] := List.length_eq_zero_iff.1 h0
    subst this
    exact ⟨none, 0, rfl, Nat.le_refl _, Nat.zero_le _, .inl rfl⟩
  · refine ⟨_, cap, rfl, hc, hm, .inr ⟨g, 0, rfl, fun j hj => ?_⟩⟩
    simp only [World.cell?, hh]
    have e1 : (cur.toList.take (out.length * 1))[j]? = some (B8 (out.getD j 0)) := by
      rw [ht]
      simp [List.getElem?_map, List.getElem?_eq_getElem hj, List.getD]
    rw [List.getElem?_take_of_lt (by omega)] at e1
    simpa [B8] using e1

end Go.Proofs.YtjgggmjjikopeaaGreatDoor

/- assizekit.SameBytes: it tells whether two slices of bytes hold the same bytes. -/
namespace Go.Proofs.YtjgggmjjikopeaaGreatDoor
open Go.RowKit
set_option linter.unusedVariables false

theorem strOfNums_bytes (bs : List UInt8) : strOfNums (bs.map fun b => (b.toNat : Int)) = ⟨bs.toArray⟩ := by
  unfold strOfNums
  congr 2
  rw [List.map_map]
  conv => rhs; rw [← List.map_id bs]
  apply List.map_congr_left
  intro b _
  simp

theorem conv_zero (w : World) (a : Option Addr) (c : Nat) : (convert 84 9 (.slice a 0 c)).run Tryz.prog w = .ok (.string ⟨#[]⟩) w := by
  rw [run_convert_bytes_string w 84 9 5 a 0 c Tryz.underlying84 Tryz.underlying5 Tryz.underlying9]
  cases a with
  | none => simp [Conv.bytesToString]; rfl
  | some p =>
    have := run_bytesToString (P := Tryz.prog) w p 0 c [] (by have := run_loadCells_list (P := Tryz.prog) w p [] (fun j v hj => by simp at hj); simpa using this)
    rw [this]
    rfl

theorem conv_row {w : World} {a : Option Addr} {bs : List UInt8} (h : Row w a bs) (c : Nat) : (convert 84 9 (.slice a bs.length c)).run Tryz.prog w = .ok (.string ⟨bs.toArray⟩) w := by
  rcases h with rfl | ⟨b, off, rfl, hc⟩
  · exact conv_zero w a c
  · have := run_convert_bytes_arg (P := Tryz.prog) w 84 5 Tryz.underlying84 Tryz.underlying5 b off bs.length c (bs.map fun b => (b.toNat : Int)) (by simp)
      (fun i hi => by rw [hc i hi]; simp [List.getD, List.getElem?_map, List.getElem?_eq_getElem hi]) 9 Tryz.underlying9
    rw [this, strOfNums_bytes]

end Go.Proofs.YtjgggmjjikopeaaGreatDoor

/- Decimal digits: plain facts on lists of bytes. -/
namespace Go.Proofs.YtjgggmjjikopeaaGreatDoor
set_option linter.unusedVariables false

/-- The number whose digits these are. -/
def decVal (l : List UInt8) : Nat := l.foldl (fun n c => n * 10 + (c.toNat - 48)) 0

/-- The digits of a number from 0 to 2^63 - 1. -/
def GoodDec (l : List UInt8) : Prop := 1 ≤ l.length ∧ ((l.getD 0 0).toNat = 48 → l.length = 1) ∧ (∀ j, j < l.length → 48 ≤ (l.getD j 0).toNat ∧ (l.getD j 0).toNat ≤ 57) ∧ decVal l ≤ 9223372036854775807

theorem val_snoc (l : List UInt8) (c : UInt8) : decVal (l ++ [c]) = decVal l * 10 + (c.toNat - 48) := by simp [decVal]

theorem val_take (l : List UInt8) (k : Nat) (h : k < l.length) : decVal (l.take (k + 1)) = decVal (l.take k) * 10 + ((l.getD k 0).toNat - 48) := by
  have e : l.take (k + 1) = l.take k ++ [l.getD k 0] := by
    rw [List.take_succ_eq_append_getElem h]
    simp [List.getD, List.getElem?_eq_getElem h]
  rw [e, val_snoc]

theorem val_mono_succ (l : List UInt8) (k : Nat) : decVal (l.take k) ≤ decVal (l.take (k + 1)) := by
  rcases Nat.lt_or_ge k l.length with h | h
  · rw [val_take l k h]; omega
  · rw [List.take_of_length_le h, List.take_of_length_le (by omega)]; exact Nat.le_refl _

theorem val_mono (l : List UInt8) (k : Nat) : ∀ d, decVal (l.take k) ≤ decVal (l.take (k + d)) := by
  intro d
  induction d with
  | zero => exact Nat.le_refl _
  | succ d ih => exact Nat.le_trans ih (val_mono_succ l (k + d))

theorem val_le (l : List UInt8) (k : Nat) : decVal (l.take k) ≤ decVal l := by
  have := val_mono l k l.length
  rwa [List.take_of_length_le (show l.length ≤ k + l.length by omega)] at this

theorem val_lt (l : List UInt8) : ∀ k, k ≤ l.length → (∀ j, j < k → 48 ≤ (l.getD j 0).toNat ∧ (l.getD j 0).toNat ≤ 57) → decVal (l.take k) < 10 ^ k := by
  intro k
  induction k with
  | zero => intro _ _; simp [decVal]
  | succ k ih =>
    intro h hd
    have := ih (by omega) (fun j hj => hd j (by omega))
    have h2 := hd k (by omega)
    rw [val_take l k (by omega), Nat.pow_succ]
    omega

theorem val_ge (l : List UInt8) (hl : 1 ≤ l.length) (hd : ∀ j, j < l.length → 48 ≤ (l.getD j 0).toNat ∧ (l.getD j 0).toNat ≤ 57) (h0 : (l.getD 0 0).toNat ≠ 48) : ∀ k, k < l.length → 10 ^ k ≤ decVal (l.take (k + 1)) := by
  intro k
  induction k with
  | zero =>
    intro h
    rw [val_take l 0 h]
    have := hd 0 h
    omega
  | succ k ih =>
    intro h
    have := ih (by omega)
    rw [val_take l (k + 1) h, Nat.pow_succ]
    omega

/-- Twenty digits, none of them a nought ahead, are of too great a number. -/
theorem long_bad (l : List UInt8) (h : 19 < l.length) : ¬ GoodDec l := by
  rintro ⟨h1, h2, h3, h4⟩
  have h0 : (l.getD 0 0).toNat ≠ 48 := fun e => by have := h2 e; omega
  have := val_ge l h1 h3 h0 19 h
  have := val_le l (19 + 1)
  omega

theorem digit_bad (l : List UInt8) (k : Nat) (hk : k < l.length) (h : (l.getD k 0).toNat < 48 ∨ 57 < (l.getD k 0).toNat) : ¬ GoodDec l := by
  rintro ⟨_, _, h3, _⟩
  have := h3 k hk
  omega

theorem great_bad (l : List UInt8) (k : Nat) (h : 9223372036854775807 < decVal (l.take k)) : ¬ GoodDec l := by
  rintro ⟨_, _, _, h4⟩
  have := val_le l k
  omega

theorem nought_bad (l : List UInt8) (h : (l.getD 0 0).toNat = 48) (h1 : 1 < l.length) : ¬ GoodDec l := by
  rintro ⟨_, h2, _, _⟩
  have := h2 h
  omega

theorem none_bad (l : List UInt8) (h : l.length < 1) : ¬ GoodDec l := by rintro ⟨h1, _⟩; omega

/-- What ReadDec answers: a number and an error. -/
def DecIs (l : List UInt8) (most d h : Int) : Prop :=
  (most < 0 ∧ d = 0 ∧ h = 2) ∨ (0 ≤ most ∧ ¬ GoodDec l ∧ d = 0 ∧ h = 4) ∨ (0 ≤ most ∧ GoodDec l ∧ most < decVal l ∧ d = 0 ∧ h = 3) ∨ (0 ≤ most ∧ GoodDec l ∧ (decVal l : Int) ≤ most ∧ d = decVal l ∧ h = 0)

theorem DecIs.one {l : List UInt8} {most d h d' h' : Int} (a : DecIs l most d h) (b : DecIs l most d' h') : d = d' ∧ h = h' := by
  rcases a with ⟨a1, rfl, rfl⟩ | ⟨a1, a2, rfl, rfl⟩ | ⟨a1, a2, a3, rfl, rfl⟩ | ⟨a1, a2, a3, rfl, rfl⟩ <;>
  rcases b with ⟨b1, rfl, rfl⟩ | ⟨b1, b2, rfl, rfl⟩ | ⟨b1, b2, b3, rfl, rfl⟩ | ⟨b1, b2, b3, rfl, rfl⟩ <;>
  first
    | exact ⟨rfl, rfl⟩
    | (exfalso; omega)
    | (exfalso; exact a2 b2)
    | (exfalso; exact b2 a2)

end Go.Proofs.YtjgggmjjikopeaaGreatDoor

/- The document's own ReadDec. -/
namespace Go.Proofs.YtjgggmjjikopeaaGreatDoor
open Go.RowKit
set_option linter.unusedVariables false

/-- The bytes of a text. -/
def bytes (s : ByteArray) : List UInt8 := s.data.toList

theorem bytes_length (s : ByteArray) : (bytes s).length = s.size := by simp [bytes]

theorem bytes_at (s : ByteArray) (k : Nat) (h : k < s.size) : (bytes s).getD k 0 = s[k] := by
  have : k < s.data.toList.length := by simpa using h
  simp [bytes, List.getD, h]
  rfl

end Go.Proofs.YtjgggmjjikopeaaGreatDoor

/- strings.IndexByte: the place of a byte in a text. -/
namespace Go.Proofs.YtjgggmjjikopeaaGreatDoor
open Go.RowKit
set_option linter.unusedVariables false

end Go.Proofs.YtjgggmjjikopeaaGreatDoor
