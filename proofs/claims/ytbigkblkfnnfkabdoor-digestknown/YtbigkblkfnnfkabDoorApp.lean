/- 'append(out, src...)' on a row of the call's own. -/
import Derived.Laws.AppendOwnNone
import Derived.Test.YtbigkblkfnnfkabDoorBlock
namespace Go.Proofs.YtbigkblkfnnfkabDoor
open Go.RowKit
set_option linter.unusedVariables false

/-- 'out = append(out, src...)'. -/
theorem appRow {ops : Array Oper} {rest : List Oper} {o : Oper} {a : Act} {Q : Exit → Act → World → Prop} {w : World} (s x : Operand) (base : Nat) (v : Value) (out : List UInt8) (src : Option Addr) (n c : Nat) (bs : List UInt8)
    (hgd : o.guard = none) (ho : o.op = .call { callee := .builtin .append, args := #[s, x], argTypes := #[26, 26] })
    (hs : a.eval s = v) (hx : a.eval x = .slice src n c) (hown : Own base w v out) (hrow : Row w src bs) (hn : bs.length = n) (hnil : src = none → c = 0) (hlen : out.length + n ≤ 1099511627776) (hbase : base ≤ w.heap.size)
    (h : ∀ v' w', Own base w' v' (out ++ bs) → Below base w w' → wpList Tryd.prog ops Q rest (a.put o.dst v') w') :
    wpList Tryd.prog ops Q (o :: rest) a w := by
  obtain ⟨i0, hi, hz0, hz1, hz2⟩ := info_parts Tryd.info5
  subst hn
  cases src with
  | none =>
    have hb : bs = [] := by
      rcases hrow with h | ⟨b, off, e, _⟩
      · exact h
      · cases e
    subst hb
    have hc := hnil rfl
    subst hc
    refine wpList_append_own_none (w := w) hgd s x 26 ho base 5 i0 1 Tryd.underlying26 hi v out.length (out.map B8) hs hown hx ?_
    exact h v w (by simpa using hown) (Below.refl _ _)
  | some ad =>
    refine wpList_append_own (w := w) hgd s x 26 ho base 5 i0 (.int .u8 0) 1 1 Tryd.underlying26 hi hz0 hz1 hz2 rfl (by decide) v out.length (out.map B8) hs hown
      ad bs.length c (bs.map B8) hx (by simp) ?c1 ?c2 ?c3 ?c4 ?c5 ?_
    case c1 =>
      intro j u hj
      have hjl : j < bs.length := by
        rcases Nat.lt_or_ge j bs.length with h | h
        · exact h
        · rw [List.getElem?_eq_none (by simpa using h)] at hj; cases hj
      rcases hrow with h | ⟨b, off, e, hcl⟩
      · subst h; simp at hjl
      · cases e
        have e2 : (⟨b, off, none⟩ : Addr).add j = ⟨b, off + j, none⟩ := by unfold Addr.add; split <;> simp_all
        rw [e2, hcl j hjl]
        simp [List.getElem?_eq_getElem hjl] at hj
        rw [← hj]
        simp [B8, List.getD, List.getElem?_eq_getElem hjl]
    case c2 => intro u hu; simp at hu; obtain ⟨b, _, rfl⟩ := hu; rfl
    case c3 => unfold maxLen; omega
    case c4 => omega
    case c5 => exact hbase
    intro v' w' h1 h2 _
    refine h v' w' ?_ ?_
    · unfold Own
      rw [List.map_append, List.length_append]
      exact h1
    · exact (Below.refl base w).grown h2 hbase hown.block

/-- '[]byte{}' is a row of the call's own, with nothing in it. -/
theorem own_empty (w : World) : Own w.heap.size (w.alloc (.cells #[] 5)) (.slice (some ⟨w.heap.size, 0, none⟩) 0 0) [] := by
  refine ⟨rfl, .inr ⟨w.heap.size, 0, #[], rfl, Nat.le_refl _, _root_.Go.heap_alloc_new w _, Nat.le_refl _, by unfold maxLen; omega, rfl, rfl⟩⟩

/-- A number's eight bytes. -/
def eight (n : Nat) : Nat → List UInt8
  | 0 => []
  | k + 1 => eight n k ++ [ub (n / 2 ^ (56 - 8 * k) % 256)]
theorem eight_length (n k : Nat) : (eight n k).length = k := by
  induction k with
  | zero => rfl
  | succ k ih => simp [eight, ih]

end Go.Proofs.YtbigkblkfnnfkabDoor
