/- 'append(out, src...)' on a row of the call's own. -/
import Derived.Test.YtbigkblkfnnfkaaDoorArr
import Derived.Laws.AppendOwnNone
namespace Go.Proofs.YtbigkblkfnnfkaaDoor
open Go.RowKit
set_option linter.unusedVariables false

/-- 'out = append(out, src...)'. -/
theorem appRow {ops : Array Oper} {rest : List Oper} {o : Oper} {a : Act} {Q : Exit → Act → World → Prop} {w : World} (s x : Operand) (base : Nat) (v : Value) (out : List UInt8) (src : Option Addr) (n c : Nat) (bs : List UInt8)
    (hgd : o.guard = none) (ho : o.op = .call { callee := .builtin .append, args := #[s, x], argTypes := #[22, 22] })
    (hs : a.eval s = v) (hx : a.eval x = .slice src n c) (hown : Own base w v out) (hrow : Row w src bs) (hn : bs.length = n) (hnil : src = none → c = 0) (hlen : out.length + n ≤ 1099511627776) (hbase : base ≤ w.heap.size)
    (h : ∀ v' w', Own base w' v' (out ++ bs) → Below base w w' → wpList Tryd.prog ops Q rest (a.put o.dst v') w') :
    wpList Tryd.prog ops Q (o :: rest) a w := by
  obtain ⟨i0, hi, hz0, hz1, hz2⟩ := info_parts Tryd.info5
  subst hn
  cases src with
  | none =>
    have hb : bs = [] := by
      rcases hrow with h | ⟨b, off, e, _⟩
      · exact h
      · cases e
    subst hb
    have hc := hnil rfl
    subst hc
    refine wpList_append_own_none (w := w) hgd s x 22 ho base 5 i0 1 Tryd.underlying22 hi v out.length (out.map B8) hs hown hx ?_
    exact h v w (by simpa using hown) (Below.refl _ _)
  | some ad =>
    refine wpList_append_own (w := w) hgd s x 22 ho base 5 i0 (.int .u8 0) 1 1 Tryd.underlying22 hi hz0 hz1 hz2 rfl (by decide) v out.length (out.map B8) hs hown
      ad bs.length c (bs.map B8) hx (by simp) ?c1 ?c2 ?c3 ?c4 ?c5 ?_
    case c1 =>
      intro j u hj
      have hjl : j < bs.length := by
        rcases Nat.lt_or_ge j bs.length with h | h
        · exact h
        · rw [List.getElem?_eq_none (by simpa using h)] at hj; cases hj
      rcases hrow with h | ⟨b, off, e, hcl⟩
      · subst h; simp at hjl
      · cases e
        have e2 : (⟨b, off, none⟩ : Addr).add j = ⟨b, off + j, none⟩ := by unfold Addr.add; split <;> simp_all
        rw [e2, hcl j hjl]
        simp [List.getElem?_eq_getElem hjl] at hj
        rw [← hj]
        simp [B8, List.getD, List.getElem?_eq_getElem hjl]
    case c2 => intro u hu; simp at hu; obtain ⟨b, _, rfl⟩ := hu; rfl
    case c3 => unfold maxLen; omega
    case c4 => omega
    case c5 => exact hbase
    intro v' w' h1 h2 _
    refine h v' w' ?_ ?_
    · unfold Own
      rw [List.map_append, List.length_append]
      exact h1
    · exact (Below.refl base w).grown h2 hbase hown.block

/-- '[]byte{}' is a row of the call's own, with nothing in it. -/
theorem own_empty (w : World) : Own w.heap.size (w.alloc (.cells #[] 5)) (.slice (some ⟨w.heap.size, 0, none⟩) 0 0) [] := by
  refine ⟨rfl, .inr ⟨w.heap.size, 0, #[], rfl, Nat.le_refl _, _root_.Go.heap_alloc_new w _, Nat.le_refl _, by unfold maxLen; omega, rfl, rfl⟩⟩

/-- A number's eight bytes. -/
def eight (n : Nat) : Nat → List UInt8
  | 0 => []
  | k + 1 => eight n k ++ [ub (n / 2 ^ (56 - 8 * k) % 256)]
theorem eight_length (n k : Nat) : (eight n k).length = k := by
  induction k with
  | zero => rfl
  | succ k ih => simp [eight, ih]

set_option maxRecDepth 100000 in
set_option maxHeartbeats 800000 in
theorem eight_any (n : Nat) (w : World) (hn : n < 18446744073709551616) :
    Calls Tryd.prog 34 #[.int .u64 (n : Int)] w fun e w' => ∃ v, e = .returned v ∧ Own w.heap.size w' v (eight n 8) ∧ Below w.heap.size w w' := by
  go_enter Tryd.func34, Tryd.ntmps34
  go_wp2_with fail
  go_loopw [3, 4] (fun v t wr => ∃ k : Nat, k ≤ 8 ∧ t = .int .i64 k ∧ Own w.heap.size wr v (eight n k) ∧ Below w.heap.size w wr) (fun _ t _ => 8 - (intOf t).toNat)
  case atStart => exact ⟨0, by omega, rfl, Own.nil _ _, Below.refl _ _⟩
  case round =>
    obtain ⟨k, hk, rfl, hown, hbel⟩ := hrel
    by_cases hlt : k < 8
    · have hll := eight_length n k
      have hz : (n : Int) / 2 ^ (56 - 8 * k) % 256 = ((n / 2 ^ (56 - 8 * k) % 256 : Nat) : Int) := by simp
      obtain ⟨m, hm⟩ : ∃ m, Hid (m = n / 2 ^ (56 - 8 * k) % 256) := ⟨_, rfl⟩
      rw [← hm.out] at hz
      have hm256 : m < 256 := by rw [hm.out]; omega
      go_wp2_with (at_builtin; refine app1n (.tmp 9) (.tmp 16) _ m w.heap.size _ (eight n k) rfl rfl rfl rfl hown hm256 rfl (by omega) hbel.size ?_)
      intro v' w' hown' hbel'
      go_wp2
      go_roundw
      case rel => exact ⟨k + 1, by omega, by go_num, by rw [eight, ← hm.out]; exact hown', hbel.trans hbel'⟩
      case measure => simp [intOf]; omega
    · have hk8 : Hid (k = 8) := by show _ = _; omega
      rw [hk8.out] at hown
      go_wp2
      go_ret
      exact ⟨_, rfl, hown, hbel⟩
end Go.Proofs.YtbigkblkfnnfkaaDoor
