/- What a hash holds, and what it holds when bytes were put behind the others: lists alone. -/
import Derived.Test.YtbigkblkfnnfkaaDoorRefSum
import Derived.Laws.CopyOwn
import Derived.Deep.MidRow
namespace Go.Proofs.YtbigkblkfnnfkaaDoor
open Go.RowKit
set_option linter.unusedVariables false

/-- The block holds the hash of a message. -/
def HashIs (w : World) (g : Nat) (m : List UInt8) : Prop :=
  ∃ blk : List UInt8, blk.length = 64 ∧ At 58 w g (hashOf (Hn m (m.length / 64)) blk m.length) ∧ blk.take (m.length % 64) = m.drop (64 * (m.length / 64))

theorem HashIs.below {w w' : World} {g : Nat} {m : List UInt8} (h : HashIs w g m) (hb : Below w.heap.size w w') : HashIs w' g m := by
  obtain ⟨blk, h1, h2, h3⟩ := h
  exact ⟨blk, h1, h2.below hb, h3⟩
theorem HashIs.lt {w : World} {g : Nat} {m : List UInt8} (h : HashIs w g m) : g < w.heap.size := by
  obtain ⟨blk, h1, h2, h3⟩ := h
  exact h2.lt

theorem put_full (m c blk : List UInt8) (h64 : blk.length = 64) (hblk : blk.take (m.length % 64) = m.drop (64 * (m.length / 64))) (hn : m.length % 64 + c.length = 64) :
    comp (Hn m (m.length / 64)) (splice blk (m.length % 64) c) = Hn (m ++ c) ((m ++ c).length / 64) ∧ (m ++ c).drop (64 * ((m ++ c).length / 64)) = [] ∧ (m ++ c).length % 64 = 0 := by
  have hl : (m ++ c).length = m.length + c.length := List.length_append
  have hq : (m ++ c).length / 64 = m.length / 64 + 1 := by omega
  refine ⟨?_, ?_, by omega⟩
  · rw [hq, Hn, Hn_append _ _ _ (by omega)]
    congr 1
    have e1 : splice blk (m.length % 64) c = m.drop (64 * (m.length / 64)) ++ c := by
      unfold splice
      rw [hblk, List.drop_of_length_le (l := blk) (by omega), List.append_nil]
    rw [e1, List.drop_append_of_le_length (by omega), List.take_of_length_le (by simp; omega)]
  · rw [List.drop_of_length_le (by omega)]

theorem put_part (m c blk : List UInt8) (h64 : blk.length = 64) (hblk : blk.take (m.length % 64) = m.drop (64 * (m.length / 64))) (hn : m.length % 64 + c.length < 64) :
    Hn m (m.length / 64) = Hn (m ++ c) ((m ++ c).length / 64) ∧ (splice blk (m.length % 64) c).take ((m ++ c).length % 64) = (m ++ c).drop (64 * ((m ++ c).length / 64)) := by
  have hl : (m ++ c).length = m.length + c.length := List.length_append
  have hq : (m ++ c).length / 64 = m.length / 64 := by omega
  have hr : (m ++ c).length % 64 = m.length % 64 + c.length := by omega
  have hbl : (blk.take (m.length % 64)).length = m.length % 64 := by rw [List.length_take]; omega
  refine ⟨?_, ?_⟩
  · rw [hq, Hn_append _ _ _ (by omega)]
  · rw [hq, hr, List.drop_append_of_le_length (by omega), ← hblk]
    unfold splice
    rw [← List.append_assoc, List.take_append_of_le_length (by simp; omega), List.take_of_length_le (by simp; omega)]

section
variable {P : Program}
theorem step_copy_at {ops : Array Oper} {o : Oper} {a : Act} {w : World} {K : Act → World → Prop} {Q : Exit → Act → World → Prop} {E : Prop} (hgd : o.guard = none) (d s : Operand) (dT sT : TypeId)
    (ho : o.op = .call { callee := .builtin .copy, args := #[d, s], argTypes := #[dT, sT] }) (elem : TypeId) (hu : P.underlying dT = some (.slice elem)) (hsz : (P.info? elem).map (·.size) = some 1)
    (dLen dCap sLen sCap : Nat) (ad : Addr) (g off : Nat) (hd : a.eval d = .slice (some ⟨g, off, none⟩) dLen dCap) (hs : a.eval s = .slice (some ad) sLen sCap)
    (cur : List Value) (t : TypeId) (hg : At t w g cur) (cs : List Value) (hn : cs.length = Nat.min sLen dLen)
    (hsrc : ∀ j v, cs[j]? = some v → w.cell? (ad.add j) = some v)
    (hfit : off + cs.length ≤ cur.length) (h1 : ∀ v ∈ cs, v.oneCell' = true)
    (h : ∀ w', At t w' g (splice cur off cs) → But g w w' → w'.heap.size = w.heap.size → K (a.put o.dst (goInt cs.length)) w') :
    if Region.wanted o (yielded ops a.tmps) = true then Oper.wp P o a w K Q else E := by
  have hw : Region.wanted o (yielded ops a.tmps) = true := by simp [Region.wanted, hgd]
  rw [if_pos hw]
  have hrun := run_copy_row (P := P) w dT sT o.type elem g off dLen dCap ad sLen sCap cur.toArray t cs hu hsz hg hn hsrc (by simpa using hfit) h1
  unfold Oper.wp
  simp [execOp, ho, resolve, invoke, builtin, hd, hs, hrun, Result.andThen]
  refine h _ ?_ ⟨rfl, rfl, rfl, by simp, fun k _ hk => setRow_other w g k _ hk⟩ (by simp)
  have := setRow_heap w g cur.toArray (splice cur off cs).toArray t (0, 0) hg
  simpa [splice, At] using this
end

theorem splice_length (blk c : List UInt8) (r : Nat) (h64 : blk.length = 64) (hn : r + c.length ≤ 64) : (splice blk r c).length = 64 := by
  rw [length_splice _ _ _ (by omega), h64]

theorem splice_hash (hs : List Nat) (blk c : List UInt8) (n r : Nat) (h8 : hs.length = 8) (h64 : blk.length = 64) (hn : r + c.length ≤ 64) :
    splice (hashOf hs blk n) (8 + r) (c.map B8) = hashOf hs (splice blk r c) n := by
  have e8 : (hs.map U32).length = 8 := by simpa using h8
  have e64 : (blk.map B8).length = 64 := by simpa using h64
  unfold splice hashOf
  rw [List.map_append, List.map_append, List.map_take, List.map_drop, List.length_map]
  rw [List.append_assoc (hs.map U32), List.take_append, List.drop_append, e8, show 8 + r - 8 = r by omega, show 8 + r + c.length - 8 = r + c.length by omega, List.take_of_length_le (by omega), List.drop_of_length_le (l := hs.map U32) (by omega)]
  rw [List.take_append_of_le_length (by omega), List.drop_append_of_le_length (by omega)]
  simp [List.append_assoc]

theorem hash_len (hs : List Nat) (blk : List UInt8) (n k : Nat) (v : Value) (h8 : hs.length = 8) (h64 : blk.length = 64) (hv : v = .int .i64 (k : Int)) : (hashOf hs blk n).set 72 v = hashOf hs blk k := by
  have e8 : (hs.map U32).length = 8 := by simpa using h8
  have e64 : (blk.map B8).length = 64 := by simpa using h64
  unfold hashOf
  rw [List.set_append_right _ _ (by simp; omega)]
  simp [h8, h64, hv]

theorem hash_cell72 (hs : List Nat) (blk : List UInt8) (n : Nat) (h8 : hs.length = 8) (h64 : blk.length = 64) : (hashOf hs blk n)[72]? = some (.int .i64 (n : Int)) := by
  unfold hashOf
  rw [List.getElem?_append_right (by simp; omega)]
  simp [h8, h64]
theorem hash_cell73 (hs : List Nat) (blk : List UInt8) (n : Nat) (h8 : hs.length = 8) (h64 : blk.length = 64) : (hashOf hs blk n)[73]? = some (.bool true) := by
  unfold hashOf
  rw [List.getElem?_append_right (by simp; omega)]
  simp [h8, h64]
theorem hash_word (hs : List Nat) (blk : List UInt8) (n i : Nat) (h8 : hs.length = 8) (hi : i < 8) : (hashOf hs blk n)[i]? = some (.int .u32 ((hs.getD i 0 : Nat) : Int)) := by
  unfold hashOf
  rw [List.append_assoc, List.getElem?_append_left (by simp; omega)]
  simp [U32, List.getD, List.getElem?_eq_getElem (show i < hs.length by omega)]
theorem hash_block (hs : List Nat) (blk : List UInt8) (n j : Nat) (v : Value) (h8 : hs.length = 8) (h64 : blk.length = 64) (hj : (blk.map B8)[j]? = some v) : (hashOf hs blk n)[8 + j]? = some v := by
  have hjl : j < 64 := by
    rcases Nat.lt_or_ge j 64 with h | h
    · exact h
    · rw [List.getElem?_eq_none (by simp; omega)] at hj; cases hj
  unfold hashOf
  rw [List.append_assoc, List.getElem?_append_right (by simp; omega), List.getElem?_append_left (by simp; omega)]
  simpa [h8] using hj

theorem hash_words (s s' : St) (blk : List UInt8) (n : Nat) :
    ((((((((hashOf s.list blk n).set 0 (U32 s'.a)).set 1 (U32 s'.b)).set 2 (U32 s'.c)).set 3 (U32 s'.d)).set 4 (U32 s'.e)).set 5 (U32 s'.f)).set 6 (U32 s'.g)).set 7 (U32 s'.h) = hashOf s'.list blk n := rfl
end Go.Proofs.YtbigkblkfnnfkaaDoor
