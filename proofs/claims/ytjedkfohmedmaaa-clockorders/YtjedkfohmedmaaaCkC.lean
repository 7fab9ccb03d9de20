/- clock.Next's closure: whether a clock has not n numbers; of any of a row. -/
import Derived.Test.YtjedkfohmedmaaaCkB
namespace Go.Proofs.Ytjedkfohmedmaaa
open Go.RowKit
set_option linter.unusedVariables false
attribute [local go_sem ↓] Go.wp_at_zero Go.wp_at_succ

def othC (n : Int) (z : List Int) : Bool := !decide ((z.length : Int) = n)

set_option maxRecDepth 100000 in
theorem other_any (m c : Nat) (b : Option Addr) (n : Int) (g : Nat) (w : World) (hn : w.cell? ⟨g, 0, none⟩ = some (.int .i64 n)) :
    Calls Try.prog 35 #[.slice b m c, .pointer (some ⟨g, 0, none⟩)] w fun r w' => r = .returned (.bool (!decide ((m : Int) = n))) ∧ Below w.heap.size w w' := by
  have e : ((m : Int) != n) = !decide ((m : Int) = n) := by
    by_cases h : (m : Int) = n <;> simp [h]
  rw [← e]
  clear e
  go_enter Try.func35, Try.ntmps35
  go_wp2
  go_ret
  exact ⟨rfl, Below.refl _ _⟩

/-- The closure that asks whether a clock is another one's. -/
def fnOth (g : Nat) : Value := .func (.func 35) #[] #[.pointer (some ⟨g, 0, none⟩)]

set_option maxRecDepth 100000 in
set_option maxHeartbeats 1600000 in
theorem indexII_any (es : List (List Int)) (n : Int) (g : Nat) (a : Option Addr) (c : Nat) (w : World) (hn : w.cell? ⟨g, 0, none⟩ = some (.int .i64 n)) (h : RowII w a es) (hl : es.length ≤ 4611686018427387904) (hk : es.length ≤ c) :
    Calls Try.prog 46 #[.slice a es.length c, fnOth g] w fun r w' => ∃ z : Int, r = .returned (.int .i64 z) ∧ decide (0 ≤ z) = es.any (othC n) ∧ Below w.heap.size w w' := by
  obtain ⟨R, hR⟩ : ∃ R, Hid (R = es.any (othC n)) := ⟨_, (rfl : _ = List.any _ _)⟩
  rw [← hR.out]
  obtain ⟨m, hm⟩ : ∃ n, Hid (n = es.length) := ⟨_, (rfl : es.length = _)⟩
  rw [← hm.out] at hl hk ⊢
  have HR : Hid (RowII w a es) := h
  have HN : Hid (w.cell? ⟨g, 0, none⟩ = some (.int .i64 n)) := hn
  clear h hn
  unfold fnOth
  go_enter Try.func46, Try.ntmps46
  go_wp2_with fail
  go_loopw [8] (fun j wr => ∃ i : Nat, j = .int .i64 (i : Int) ∧ i ≤ m ∧ Hid (Below w.heap.size w wr) ∧ Hid (∀ (q : Nat) (e : List Int), q < i → es[q]? = some e → othC n e = false)) (fun j _ => m - (intOf j).toNat)
  case atStart => exact ⟨0, rfl, by omega, Below.refl _ _, fun q e hq => by omega⟩
  case round =>
    obtain ⟨i, rfl, hi, hbw, hX⟩ := hrel
    by_cases hc : i < m
    · obtain ⟨e, he⟩ : ∃ k, es[i]? = some k := ⟨es[i]'(by rw [← hm.out]; exact hc), by rw [List.getElem?_eq_getElem]⟩
      obtain ⟨g1, o1, b1, k1, rfl, hr, -, -, -⟩ := (HR.out.below hbw.out).at i e he
      have HE : Hid (es[i]? = some e) := he
      have HC := other_any e.length k1 b1 n g wr ((hbw.out.cell (lt_of_cell HN.out)).trans HN.out)
      obtain ⟨S, hS⟩ : ∃ S, Hid (S = othC n e) := ⟨_, (rfl : _ = othC _ _)⟩
      have HC' : Calls Try.prog 35 #[.slice b1 e.length k1, .pointer (some ⟨g, 0, none⟩)] wr fun r w' => r = .returned (.bool S) ∧ Below wr.heap.size wr w' := by rw [hS.out]; exact HC
      clear he HC
      obtain ⟨le, hle⟩ : ∃ l, l = e.length := ⟨_, rfl⟩
      rw [← hle] at hr HC'
      clear hle
      go_wp2_with (go_at_call 35; refine HC'.mono ?_; rintro e w2 ⟨rfl, hbel2⟩; have hB2 : Hid (Below w.heap.size w w2) := hbw.out.trans (hbel2.mono hbw.out.size); clear hbel2 hr HC' hbw; cases S)
      · go_roundw
        case rel =>
          refine ⟨i + 1, by go_num, by omega, hB2.out, fun q x hq hx => ?_⟩
          by_cases hqi : q = i
          · subst hqi
            rw [HE.out] at hx
            cases hx
            exact hS.out.symm
          · exact hX.out q x (by omega) hx
        case measure => simp [intOf]; omega
      · have hRt : R = true := by rw [hR.out]; exact List.any_eq_true.2 ⟨_, List.mem_of_getElem? HE.out, hS.out.symm⟩
        go_ret
        exact ⟨i, rfl, by rw [hRt]; simp, hB2.out⟩
    · have hRf : R = false := by
        rw [hR.out, Bool.eq_false_iff]
        intro hb
        obtain ⟨e, he, hb⟩ := List.any_eq_true.1 hb
        obtain ⟨q, hq⟩ := List.getElem?_of_mem he
        have := (List.getElem?_eq_some_iff.1 hq).1
        rw [← hm.out] at this
        rw [hX.out q e (by omega) hq] at hb
        cases hb
      clear hX
      go_wp2
      go_ret
      exact ⟨-1, rfl, by rw [hRf]; rfl, hbw.out⟩

set_option maxRecDepth 100000 in
theorem anyII_any (es : List (List Int)) (n : Int) (g : Nat) (a : Option Addr) (c : Nat) (w : World) (hn : w.cell? ⟨g, 0, none⟩ = some (.int .i64 n)) (h : RowII w a es) (hl : es.length ≤ 4611686018427387904) (hk : es.length ≤ c) :
    Calls Try.prog 36 #[.slice a es.length c, fnOth g] w fun r w' => r = .returned (.bool (es.any (othC n))) ∧ Below w.heap.size w w' := by
  have HC := indexII_any es n g a c w hn h hl hk
  obtain ⟨R, hR⟩ : ∃ R, R = es.any (othC n) := ⟨_, rfl⟩
  obtain ⟨m, hm⟩ : ∃ n, n = es.length := ⟨_, rfl⟩
  rw [← hR, ← hm] at HC
  rw [← hR, ← hm]
  unfold fnOth at *
  clear hn h hl hk hR hm
  go_enter Try.func36, Try.ntmps36
  go_wp2_with (go_at_call 46; refine HC.mono ?_; rintro e w2 ⟨z, rfl, hz, hbel⟩)
  go_ret
  exact ⟨by simp, hbel⟩
end Go.Proofs.Ytjedkfohmedmaaa
