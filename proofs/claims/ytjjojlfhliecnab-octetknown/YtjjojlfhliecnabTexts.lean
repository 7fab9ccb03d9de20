/- Slices of texts: what is known of them; an append of one; assizekit.SameTexts. -/
import Derived.Lib.ConvBytes
import Derived.Test.YtjjojlfhliecnabCut
namespace Go.Proofs.Ytjjojlfhliecnab
open Go.RowKit
set_option linter.unusedVariables false

/-- A text as a cell holds it. -/
def S8 (l : List UInt8) : Value := .string ⟨l.toArray⟩

theorem Try.info9 : (Try.prog.info? 9).map (fun i => (i.zero, i.size, i.bytes)) = some (some (.string ⟨#[]⟩), 1, 16) := by kernel_rfl

/-- The call's own row of texts. -/
def OwnS (base : Nat) (w : World) (v : Value) (ws : List (List UInt8)) : Prop := w.ownsRow base 9 1 v ws.length (ws.map S8)

theorem OwnS.nil (base : Nat) (w : World) : OwnS base w (.slice none 0 0) [] := World.ownsRow_nil _ _ _ _

theorem OwnS.block {base : Nat} {w : World} {v : Value} {ws : List (List UInt8)} (h : OwnS base w v ws) : ∀ k, v.ownBlock = some k → base ≤ k := by
  intro k hk
  obtain ⟨_, ⟨rfl, _⟩ | ⟨g, cap, cur, rfl, hg, _⟩⟩ := h
  · simp [Value.ownBlock] at hk
  · simp [Value.ownBlock] at hk
    omega

theorem owns_below {w w' : World} {base : Nat} {e : TypeId} {size : Nat} {v : Value} {n : Nat} {xs : List Value} (h : w.ownsRow base e size v n xs) (hb : Below w.heap.size w w') : w'.ownsRow base e size v n xs := by
  obtain ⟨h1, h2⟩ := h
  refine ⟨h1, ?_⟩
  rcases h2 with h2 | ⟨g, cap, cur, e1, e2, e3, e4⟩
  · exact .inl h2
  · refine .inr ⟨g, cap, cur, e1, e2, ?_, e4⟩
    rw [hb.block g ?_]
    · exact e3
    · rcases Nat.lt_or_ge g w.heap.size with hlt | hge
      · exact hlt
      · rw [Array.getElem?_eq_none hge] at e3; simp at e3

theorem OwnS.below {w w' : World} {base : Nat} {v : Value} {ws : List (List UInt8)} (h : OwnS base w v ws) (hb : Below w.heap.size w w') : OwnS base w' v ws := owns_below h hb
theorem Own.below {w w' : World} {base : Nat} {v : Value} {bs : List UInt8} (h : Own base w v bs) (hb : Below w.heap.size w w') : Own base w' v bs := owns_below h hb

/-- 'out = append(out, s)'. -/
theorem appS {ops : Array Oper} {rest : List Oper} {o : Oper} {a : Act} {Q : Exit → Act → World → Prop} {w0 : World} (s x : Operand) (z : ByteArray) (l : List UInt8) (base : Nat) (v : Value) (out : List (List UInt8))
    (hgd : o.guard = none) (ho : o.op = .call { callee := .builtin .append, args := #[s, x], argTypes := #[34, 34] })
    (hs : a.eval s = v) (hx : a.eval x = .slice (some ⟨w0.heap.size, 0, none⟩) 1 1) (hown : OwnS base w0 v out) (hz : z = ⟨l.toArray⟩) (hlen : out.length ≤ 1099511627776) (hbase : base ≤ w0.heap.size)
    (h : ∀ v' w', OwnS base w' v' (out ++ [l]) → Below base w0 w' → wpList Try.prog ops Q rest (a.put o.dst v') w') :
    wpList Try.prog ops Q (o :: rest) a (w0.alloc (.cells #[.string z] 9)) := by
  obtain ⟨i0, hi, hz0, hz1, hz2⟩ := info_parts Try.info9
  refine wpList_append_own (w := w0.alloc (.cells #[.string z] 9)) hgd s x 34 ho base 9 i0 (.string ⟨#[]⟩) 1 16 Try.underlying34 hi hz0 hz1 hz2 rfl (by decide) v out.length (out.map S8) hs (World.ownsRow.alloc hown _)
    ⟨w0.heap.size, 0, none⟩ 1 1 [.string z] hx rfl ?c1 ?c2 ?c3 ?c4 ?c5 ?_
  case c1 =>
    intro j u hj
    match j, hj with
    | 0, hj => simp at hj; subst hj; simp [Addr.add]
  case c2 => intro u hu; simp at hu; subst hu; rfl
  case c3 => unfold maxLen; omega
  case c4 => omega
  case c5 => simp; omega
  intro v' w' h1 h2 _
  refine h v' w' ?_ ?_
  · subst hz
    simpa [OwnS, S8] using h1
  · exact ((Below.refl base w0).alloc hbase _).grown h2 (by simp; omega) hown.block

/-- What a slice of texts that is read is known by. -/
def RowS (w : World) (a : Option Addr) (ws : List (List UInt8)) : Prop :=
  ws = [] ∨ ∃ b off, a = some ⟨b, off, none⟩ ∧ ∀ j, j < ws.length → w.cell? ⟨b, off + j, none⟩ = some (S8 (ws.getD j []))

theorem RowS.below {w w' : World} {a : Option Addr} {ws : List (List UInt8)} (h : RowS w a ws) (hb : Below w.heap.size w w') : RowS w' a ws := by
  rcases h with h | ⟨b, off, rfl, hc⟩
  · exact .inl h
  · exact .inr ⟨b, off, rfl, fun j hj => by rw [hb.cell (lt_of_cell (hc j hj))]; exact hc j hj⟩

theorem OwnS.row {base : Nat} {w : World} {v : Value} {ws : List (List UInt8)} (h : OwnS base w v ws) : ∃ a cap, v = .slice a ws.length cap ∧ ws.length ≤ cap ∧ RowS w a ws := by
  obtain ⟨h1, ⟨rfl, h0⟩ | ⟨g, cap, cur, rfl, hg, hh, hc, hm, hs, ht⟩⟩ := h
  · have : ws = [] := List.length_eq_zero_iff.1 h0
    subst this
    exact ⟨none, 0, rfl, Nat.le_refl _, .inl rfl⟩
  · refine ⟨_, cap, rfl, hc, .inr ⟨g, 0, rfl, fun j hj => ?_⟩⟩
    simp only [World.cell?, hh]
    have e1 : (cur.toList.take (ws.length * 1))[j]? = some (S8 (ws.getD j [])) := by
      rw [ht]
      simp [List.getElem?_map, List.getElem?_eq_getElem hj, List.getD]
    rw [List.getElem?_take_of_lt (by omega)] at e1
    simpa using e1

/-- '[]byte(s)': a new row with the text's bytes. -/
theorem conv_bytes (s : ByteArray) (w : World) : ∃ (W : World) (cap : Nat), (convert 9 22 (.string s)).run Try.prog w = .ok (.slice (some ⟨w.heap.size, 0, none⟩) s.size cap) W ∧ s.size ≤ cap ∧
    (∀ j, j < (bytes s).length → W.cell? ⟨w.heap.size, 0 + j, none⟩ = some (.int .u8 (((bytes s).getD j 0).toNat : Int))) ∧ Below w.heap.size w W ∧ w.heap.size < W.heap.size := by
  refine ⟨_, _, Lib.run_convert_string_bytes w 9 22 5 s Try.underlying9 Try.underlying22 Try.underlying5, ?_, ?_, ?_, ?_⟩
  · exact grownCap_ge _ _ _ _
  · intro j hj
    rw [Nat.zero_add]
    exact Lib.bytesWorld_cell w 5 s j (by rwa [bytes_length] at hj)
  · exact ⟨rfl, rfl, rfl, by rw [Lib.bytesWorld_size]; omega, fun k hk => Lib.bytesWorld_at_old w 5 s k hk⟩
  · rw [Lib.bytesWorld_size]; omega

end Go.Proofs.Ytjjojlfhliecnab
