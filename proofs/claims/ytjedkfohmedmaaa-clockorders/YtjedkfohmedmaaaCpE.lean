/- assizekit.CopyEvents: a row of its own. -/
import Derived.Test.YtjedkfohmedmaaaLnL
namespace Go.Proofs.Ytjedkfohmedmaaa
open Go.RowKit
set_option linter.unusedVariables false

theorem rowEv_cell {w : World} {g o : Nat} {es : List Ev} (h : RowEv w (some ⟨g, o, none⟩) es) (j : Nat) (v : Value) (hj : (flatE es)[j]? = some v) : w.cell? ⟨g, o + j, none⟩ = some v := by
  have hj2 : j < 3 * es.length := by have := (List.getElem?_eq_some_iff.1 hj).1; rwa [flatE_length] at this
  rcases h with h0 | ⟨g', o', ha, hc⟩
  · rw [h0] at hj2; simp at hj2
  · cases ha
    have hq : j / 3 < es.length := by omega
    have hx := List.getElem?_eq_getElem hq
    have hj3 : j % 3 < (es[j / 3]).cells.length := by simp [Ev.cells]; omega
    have hy := flatE_at es (j / 3) _ hx (j % 3) _ (List.getElem?_eq_getElem hj3)
    rw [show j / 3 * 3 + j % 3 = j by omega, hj] at hy
    have hz := hc (j / 3) _ hx (j % 3) _ (List.getElem?_eq_getElem hj3)
    rw [← (show o + j / 3 * 3 + j % 3 = o + j by omega), hz, ← hy]
theorem heap_new (w : World) (o : Obj) : (w.alloc o).heap[w.heap.size]? = some o := by
  unfold World.alloc
  exact Array.getElem?_push_size
theorem add_none (g o j : Nat) : (⟨g, o, none⟩ : Addr).add j = ⟨g, o + j, none⟩ := by unfold Addr.add; split <;> simp_all

set_option maxRecDepth 100000 in
set_option maxHeartbeats 1600000 in
theorem copyEvents_any (g o cap : Nat) (es : List Ev) (w : World) (hrow : RowEv w (some ⟨g, o, none⟩) es) (hmax : es.length ≤ 1048576) :
    Calls Try.prog 27 #[.slice (some ⟨g, o, none⟩) es.length cap] w fun e w' => ∃ v, e = .returned v ∧ w'.ownsRow w.heap.size 25 3 v es.length (flatE es) ∧ Below w.heap.size w w' := by
  obtain ⟨i0, hi, hz0, hz1, hz2⟩ := info_parts Try.info25
  have hal : Below w.heap.size w (w.alloc (.cells #[] 25)) := (Below.refl _ w).alloc (Nat.le_refl _) _
  have HO : (w.alloc (.cells #[] 25)).ownsRow w.heap.size 25 3 (.slice (some ⟨w.heap.size, 0, none⟩) 0 0) 0 [] := ⟨rfl, .inr ⟨w.heap.size, 0, #[], rfl, Nat.le_refl _, heap_new w _, Nat.le_refl _, by unfold maxLen; omega, rfl, rfl⟩⟩
  have HR := rowEv_cell (hrow.below hal)
  have HS : Hid (∀ j u, (flatE es)[j]? = some u → (w.alloc (.cells #[] 25)).cell? ((⟨g, o, none⟩ : Addr).add j) = some u) := fun j u hj => by rw [add_none]; exact HR j u hj
  have HO2 : Hid _ := HO
  clear HR hrow HO
  go_enter Try.func27, Try.ntmps27
  go_wp2_with (at_builtin; refine wpList_append_own (w := w.alloc (.cells #[] 25)) rfl (.tmp 3) (.tmp 4) 22 rfl w.heap.size 25 i0 _ 3 24 Try.underlying22 hi hz0 hz1 hz2 rfl (by decide) _ 0 [] rfl HO2.out ⟨g, o, none⟩ es.length cap (flatE es) rfl (by rw [flatE_length]; omega) HS.out (one_flatE es) (by unfold maxLen; omega) (by omega) (by simp) ?_; intro v' w' h1 h2 _)
  have hb : Below w.heap.size w w' := hal.grown h2 (by simp) (by intro k hk; cases hk; exact Nat.le_refl _)
  have h3 : Hid _ := h1
  clear h1 h2 HS HO2
  go_wp2
  go_ret
  exact ⟨_, rfl, by have := h3.out; rwa [Nat.zero_add, List.nil_append] at this, hb⟩
end Go.Proofs.Ytjedkfohmedmaaa
