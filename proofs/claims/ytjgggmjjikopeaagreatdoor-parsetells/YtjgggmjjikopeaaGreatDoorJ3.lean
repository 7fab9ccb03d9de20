/- J -/
import Derived.Test.YtjgggmjjikopeaaGreatDoorJ2
import Derived.WalkSpells
import Derived.Test.YtjgggmjjikopeaaGreatDoorJ1
import Derived.Laws.BytesArg
import Derived.Lib.Bytealg
import Derived.Deep.QuietTactic
import Derived.BigQuiet
set_option linter.unusedVariables false
open Go.RowKit
namespace Go.Proofs.YtjgggmjjikopeaaGreatDoor
theorem Tryz.info5 : (Tryz.prog.info? 5).map (fun i => (i.zero, i.size, i.bytes)) = some (some (.int .u8 0), 1, 1) := by kernel_rfl
def Own (base : Nat) (w : World) (v : Value) (out : List UInt8) : Prop := w.ownsRow base 5 1 v out.length (out.map B8)
theorem Own.nil (base : Nat) (w : World) : Own base w (.slice none 0 0) [] := World.ownsRow_nil _ _ _ _
theorem Own.block {base : Nat} {w : World} {v : Value} {out : List UInt8} (h : Own base w v out) : ∀ k, v.ownBlock = some k -> base <= k := by
 intro k hk
 obtain ⟨_, ⟨rfl, _⟩ | ⟨g, cap, cur, rfl, hg, _⟩⟩ := h
 ·simp [Value.ownBlock] at hk
 ·simp [Value.ownBlock] at hk
  omega
theorem zhs {ops : Array Oper} {rest : List Oper} {o : Oper} {a : Act} {Q : Exit -> Act -> World -> Prop} {w0 : World} (s x : Operand) (z : Int) (b : UInt8) (base : Nat) (v : Value) (out : List UInt8)
  (hgd : o.guard = none) (ho : o.op = .call { callee := .builtin .append, args := #[s, x], argTypes := #[84, 84] })
  (hs : a.eval s = v) (hx : a.eval x = .slice (some ⟨w0.heap.size, 0, none⟩) 1 1) (hown : Own base w0 v out) (hz : z = (b.toNat : Int)) (hlen : out.length <= 1099511627776) (hbase : base <= w0.heap.size)
  (h : ∀ v' w', Own base w' v' (out ++ [b]) -> Below base w0 w' -> wpList Tryz.prog ops Q rest (a.put o.dst v') w') :
  wpList Tryz.prog ops Q (o :: rest) a (w0.alloc (.cells #[.int .u8 z] 5)) := by
 obtain ⟨i0, hi, hz0, hz1, hz2⟩ := info_parts Tryz.info5
 refine wpList_append_own (w := w0.alloc (.cells #[.int .u8 z] 5)) hgd s x 84 ho base 5 i0 (.int .u8 0) 1 1 Tryz.underlying84 hi hz0 hz1 hz2 rfl (by decide) v out.length (out.map B8) hs (World.ownsRow.alloc hown _)
  ⟨w0.heap.size, 0, none⟩ 1 1 [.int .u8 z] hx rfl ?c1 ?c2 ?c3 ?c4 ?c5 ?_
 case c1 =>
  intro j u hj
  match j, hj with
  | 0, hj => simp at hj; subst hj; simp [Addr.add]
 case c2 => intro u hu; simp at hu; subst hu; rfl
 case c3 => unfold maxLen; omega
 case c4 => omega
 case c5 => simp; omega
 intro v' w' h1 h2 _
 refine h v' w' ?_ ?_
 ·subst hz
  simpa [Own, B8] using h1
 ·exact ((Below.refl base w0).alloc hbase _).grown h2 (by simp; omega) hown.block
theorem JN {ops : Array Oper} {rest : List Oper} {o : Oper} {a : Act} {Q : Exit -> Act -> World -> Prop} {w0 : World} (s x : Operand) (z : Int) (k : Nat) (base : Nat) (v : Value) (out : List UInt8)
  (hgd : o.guard = none) (ho : o.op = .call { callee := .builtin .append, args := #[s, x], argTypes := #[84, 84] })
  (hs : a.eval s = v) (hx : a.eval x = .slice (some ⟨w0.heap.size, 0, none⟩) 1 1) (hown : Own base w0 v out) (hk : k < 256) (hz : z = (k : Int)) (hlen : out.length <= 1099511627776) (hbase : base <= w0.heap.size)
  (h : ∀ v' w', Own base w' v' (out ++ [ub k]) -> Below base w0 w' -> wpList Tryz.prog ops Q rest (a.put o.dst v') w') :
  wpList Tryz.prog ops Q (o :: rest) a (w0.alloc (.cells #[.int .u8 z] 5)) :=
 zhs s x z (ub k) base v out hgd ho hs hx hown (by rw [Xe k hk]; exact hz) hlen hbase h
def Row (w : World) (a : Option Addr) (bs : List UInt8) : Prop :=
 bs = [] \/ ∃ b off, a = some ⟨b, off, none⟩ /\ ∀ j, j < bs.length -> w.cell? ⟨b, off + j, none⟩ = some (.int .u8 ((bs.getD j 0).toNat : Int))
theorem Yn {w : World} {p : Addr} {v : Value} (h : w.cell? p = some v) : p.block < w.heap.size := by
 unfold World.cell? at h
 by_cases hp : p.block < w.heap.size
 ·exact hp
 ·rw [Array.getElem?_eq_none (by omega)] at h; simp at h
theorem Row.below {w w' : World} {a : Option Addr} {bs : List UInt8} (h : Row w a bs) (hb : Below w.heap.size w w') : Row w' a bs := by
 rcases h with h | ⟨b, off, rfl, hc⟩
 ·exact .inl h
 ·exact .inr ⟨b, off, rfl, fun j hj => by rw [hb.cell (Yn (hc j hj))]; exact hc j hj⟩
theorem Own.row {base : Nat} {w : World} {v : Value} {out : List UInt8} (h : Own base w v out) : ∃ a cap, v = .slice a out.length cap /\ out.length <= cap /\ cap <= maxLen /\ Row w a out := by
 obtain ⟨h1, ⟨rfl, h0⟩ | ⟨g, cap, cur, rfl, hg, hh, hc, hm, hs, ht⟩⟩ := h
 ·have : out = [] := List.length_eq_zero_iff.1 h0
  subst this
  exact ⟨none, 0, rfl, zj _, Vm _, .inl rfl⟩
 ·refine ⟨_, cap, rfl, hc, hm, .inr ⟨g, 0, rfl, fun j hj => ?_⟩⟩
  simp only [World.cell?, hh]
  have e1 : (cur.toList.take (out.length * 1))[j]? = some (B8 (out.getD j 0)) := by
   rw [ht]
   simp [List.getElem?_map, yD hj, List.getD]
  rw [List.getElem?_take_of_lt (by omega)] at e1
  simpa [B8] using e1
theorem JP (bs : List UInt8) : strOfNums (bs.map fun b => (b.toNat : Int)) = ⟨bs.toArray⟩ := by
 unfold strOfNums
 congr 2
 rw [List.map_map]
 conv => rhs; rw [<- List.map_id bs]
 apply List.map_congr_left
 intro b _
 simp
theorem jG (w : World) (a : Option Addr) (c : Nat) : (convert 84 9 (.slice a 0 c)).run Tryz.prog w = .ok (.string ⟨#[]⟩) w := by
 rw [run_convert_bytes_string w 84 9 5 a 0 c Tryz.underlying84 Tryz.underlying5 Tryz.underlying9]
 cases a with
 | none => simp [Conv.bytesToString]; rfl
 | some p =>
  have := run_bytesToString (P := Tryz.prog) w p 0 c [] (by have := run_loadCells_list (P := Tryz.prog) w p [] (fun j v hj => by simp at hj); simpa using this)
  rw [this]
  rfl
theorem KI {w : World} {a : Option Addr} {bs : List UInt8} (h : Row w a bs) (c : Nat) : (convert 84 9 (.slice a bs.length c)).run Tryz.prog w = .ok (.string ⟨bs.toArray⟩) w := by
 rcases h with rfl | ⟨b, off, rfl, hc⟩
 ·exact jG w a c
 ·have := run_convert_bytes_arg (P := Tryz.prog) w 84 5 Tryz.underlying84 Tryz.underlying5 b off bs.length c (bs.map fun b => (b.toNat : Int)) (by simp)
   (fun i hi => by rw [hc i hi]; simp [List.getD, List.getElem?_map, yD hi]) 9 Tryz.underlying9
  rw [this, JP]
def zn (l : List UInt8) : Nat := l.foldl (fun n c => n * 10 + (c.toNat - 48)) 0
def zO (l : List UInt8) : Prop := 1 <= l.length /\ ((l.getD 0 0).toNat = 48 -> l.length = 1) /\ (∀ j, j < l.length -> 48 <= (l.getD j 0).toNat /\ (l.getD j 0).toNat <= 57) /\ zn l <= 9223372036854775807
theorem zdI (l : List UInt8) (c : UInt8) : zn (l ++ [c]) = zn l * 10 + (c.toNat - 48) := by simp [zn]
theorem ZS (l : List UInt8) (k : Nat) (h : k < l.length) : zn (l.take (k + 1)) = zn (l.take k) * 10 + ((l.getD k 0).toNat - 48) := by
 have e : l.take (k + 1) = l.take k ++ [l.getD k 0] := by
  rw [List.take_succ_eq_append_getElem h]
  simp [List.getD, yD h]
 rw [e, zdI]
theorem KP (l : List UInt8) (k : Nat) : zn (l.take k) <= zn (l.take (k + 1)) := by
 rcases Nat.lt_or_ge k l.length with h | h
 ·rw [ZS l k h]; omega
 ·rw [List.take_of_length_le h, List.take_of_length_le (by omega)]; exact zj _
theorem zdJ (l : List UInt8) (k : Nat) : ∀ d, zn (l.take k) <= zn (l.take (k + d)) := by
 intro d
 induction d with
 | zero => exact zj _
 | succ d ih => exact zQ ih (KP l (k + d))
theorem za6 (l : List UInt8) (k : Nat) : zn (l.take k) <= zn l := by
 have := zdJ l k l.length
 rwa [List.take_of_length_le (show l.length <= k + l.length by omega)] at this
theorem za5 (l : List UInt8) : ∀ k, k <= l.length -> (∀ j, j < k -> 48 <= (l.getD j 0).toNat /\ (l.getD j 0).toNat <= 57) -> zn (l.take k) < 10 ^ k := by
 intro k
 induction k with
 | zero => intro _ _; simp [zn]
 | succ k ih =>
  intro h hd
  have := ih (by omega) (fun j hj => hd j (by omega))
  have h2 := hd k (by omega)
  rw [ZS l k (by omega), Nat.pow_succ]
  omega
theorem jM (l : List UInt8) (hl : 1 <= l.length) (hd : ∀ j, j < l.length -> 48 <= (l.getD j 0).toNat /\ (l.getD j 0).toNat <= 57) (h0 : (l.getD 0 0).toNat ≠ 48) : ∀ k, k < l.length -> 10 ^ k <= zn (l.take (k + 1)) := by
 intro k
 induction k with
 | zero =>
  intro h
  rw [ZS l 0 h]
  have := hd 0 h
  omega
 | succ k ih =>
  intro h
  have := ih (by omega)
  rw [ZS l (k + 1) h, Nat.pow_succ]
  omega
theorem zeh (l : List UInt8) (h : 19 < l.length) : ¬ zO l := by
 rintro ⟨h1, h2, h3, h4⟩
 have h0 : (l.getD 0 0).toNat ≠ 48 := fun e => by have := h2 e; omega
 have := jM l h1 h3 h0 19 h
 have := za6 l (19 + 1)
 omega
theorem zdi (l : List UInt8) (k : Nat) (hk : k < l.length) (h : (l.getD k 0).toNat < 48 \/ 57 < (l.getD k 0).toNat) : ¬ zO l := by
 rintro ⟨_, _, h3, _⟩
 have := h3 k hk
 omega
theorem zc9 (l : List UInt8) (k : Nat) (h : 9223372036854775807 < zn (l.take k)) : ¬ zO l := by
 rintro ⟨_, _, _, h4⟩
 have := za6 l k
 omega
theorem zbt (l : List UInt8) (h : (l.getD 0 0).toNat = 48) (h1 : 1 < l.length) : ¬ zO l := by
 rintro ⟨_, h2, _, _⟩
 have := h2 h
 omega
theorem zd9 (l : List UInt8) (h : l.length < 1) : ¬ zO l := by rintro ⟨h1, _⟩; omega
def DecIs (l : List UInt8) (most d h : Int) : Prop :=
 (most < 0 /\ d = 0 /\ h = 2) \/ (0 <= most /\ ¬ zO l /\ d = 0 /\ h = 4) \/ (0 <= most /\ zO l /\ most < zn l /\ d = 0 /\ h = 3) \/ (0 <= most /\ zO l /\ (zn l : Int) <= most /\ d = zn l /\ h = 0)
theorem DecIs.one {l : List UInt8} {most d h d' h' : Int} (a : DecIs l most d h) (b : DecIs l most d' h') : d = d' /\ h = h' := by
 rcases a with ⟨a1, rfl, rfl⟩ | ⟨a1, a2, rfl, rfl⟩ | ⟨a1, a2, a3, rfl, rfl⟩ | ⟨a1, a2, a3, rfl, rfl⟩ <;>
 rcases b with ⟨b1, rfl, rfl⟩ | ⟨b1, b2, rfl, rfl⟩ | ⟨b1, b2, b3, rfl, rfl⟩ | ⟨b1, b2, b3, rfl, rfl⟩ <;>
 first
  | exact ⟨rfl, rfl⟩
  | (exfalso; omega)
  | (exfalso; exact a2 b2)
  | (exfalso; exact b2 a2)
def bytes (s : ByteArray) : List UInt8 := s.data.toList
theorem zc (s : ByteArray) : (bytes s).length = s.size := by simp [bytes]
theorem yH (s : ByteArray) (k : Nat) (h : k < s.size) : (bytes s).getD k 0 = s[k] := by
 have : k < s.data.toList.length := by simpa using h
 simp [bytes, List.getD, h]
 rfl

def zdV : Value -> Nat | .string r => r.size | _ => 0
theorem jB : ∀ c : Nat, c < 256 -> Lib.indexByte (({ data := #[48, 49, 50, 51, 52, 53, 54, 55, 56, 57, 97, 98, 99, 100, 101, 102] } : ByteArray).extract 0 10).data.toList ((c : Int).toNat.toUInt8) = if 48 <= c /\ c <= 57 then (c : Int) - 48 else -1 := by decide +kernel
theorem Xi {s : ByteArray} (h : 0 < s.size) : s.toList.isEmpty = false := by
 rw [List.isEmpty_eq_false_iff, Lib.toList_data]
 intro h0
 have : s.size = 0 := by rw [<- zc s, bytes, h0]; rfl
 omega
theorem VY {s : ByteArray} (h : s.size = 0) : s.toList.isEmpty = true := by
 rw [List.isEmpty_iff, Lib.toList_data]
 apply List.eq_nil_of_length_eq_zero
 simpa using h
theorem JL (r : ByteArray) : bytes (r.extract 1 r.size) = (bytes r).drop 1 := by
 rw [bytes, Lib.extract_data, List.take_of_length_le]
 ·rfl
 ·simp
theorem XY {w wr : World} (h : ∃ q, wr = w.drewN q) (n : Nat) : ∃ q, wr.drewN n = w.drewN q := by
 obtain ⟨q, rfl⟩ := h
 exact ⟨q + n, by simp⟩
def zf3 (l : List UInt8) (e : Ending) : Prop := (zO l /\ e = .returned (.tuple #[.int .u64 (zn l), .bool true])) \/ (¬ zO l /\ e = .returned (.tuple #[.int .u64 0, .bool false]))
