/- Clocks reckoned one by one. Mathematics alone. -/
import Derived.Test.YtjedkfohmedmaaaCkN
namespace Go.Proofs.Ytjedkfohmedmaaa
set_option linter.unusedVariables false

/-- The first k clocks, each worked out of those ahead of it. -/
def clkC (es : List Ev) (n : Nat) : Nat → List (List Int)
  | 0 => []
  | k + 1 => clkC es n k ++ [flZ (clkC es n k) (es.take k) (evAt es k) (List.replicate n 0)]
theorem clksL_eq (es : List Ev) (n : Nat) (h : ∀ x ∈ es, 0 ≤ x.th ∧ x.th < n) : ∀ k, k ≤ es.length → clksL (evAt es) n k = clkC es n k
  | 0, _ => rfl
  | k + 1, hk => by
    have ih := clksL_eq es n h k (by omega)
    have hm : evAt es k ∈ es := by
      have := List.getElem?_eq_getElem (show k < es.length by omega)
      rw [evAt_eq this]
      exact List.getElem_mem _
    rw [clkC, ← ih, flZ_clk (evAt es) n k (clksL (evAt es) n k) (es.take k) (evAt es k) rfl (by rw [List.length_take]; omega) (fun i hi => by unfold evAt; simp [List.getD, hi]) (fun i hi => clksL_at hi) (h _ hm).1 (h _ hm).2]
    simp [clksL, List.range_succ]
/-- What happens ahead, reckoned. -/
def hbC (es : List Ev) (n : Nat) (cs : List (List Int)) (q p : Nat) : Bool := decide (p < q) && decide ((cs.getD p []).getD (evAt es p).th.toNat 0 ≤ (cs.getD q []).getD (evAt es p).th.toNat 0)
theorem hbC_eq (es : List Ev) (n : Nat) (h : ∀ x ∈ es, 0 ≤ x.th ∧ x.th < n) (q p : Nat) (hq : q < es.length) (hp : p < es.length) : hbB (evAt es) q p = hbC es n (clkC es n es.length) q p := by
  rw [← clksL_eq es n h es.length (Nat.le_refl _), hbC, ← hbB_tells]
  have hm : evAt es p ∈ es := by
    have := List.getElem?_eq_getElem hp
    rw [evAt_eq this]
    exact List.getElem_mem _
  obtain ⟨s, hs⟩ : ∃ s : Nat, (evAt es p).th = (s : Int) := ⟨(evAt es p).th.toNat, by have := h _ hm; omega⟩
  have hsn : s < n := by have := h _ hm; omega
  rw [hs, Int.toNat_natCast]
  have e1 : (clksL (evAt es) n es.length).getD p [] = clkL (evAt es) n p := by simp [List.getD, clksL_at hp]
  have e2 : (clksL (evAt es) n es.length).getD q [] = clkL (evAt es) n q := by simp [List.getD, clksL_at hq]
  rw [e1, e2]
  simp [List.getD, clkL_at hsn]

def exEs : List Ev := [⟨0, 2, 0⟩, ⟨1, 1, 0⟩, ⟨1, 0, 0⟩, ⟨0, 2, 1⟩, ⟨1, 1, 1⟩]
def exC : List (List Int) := [[1, 0], [1, 1], [1, 2], [2, 0], [2, 3]]
theorem ex_th : ∀ x ∈ exEs, 0 ≤ x.th ∧ x.th < (2 : Nat) := by decide
theorem ex_clk : clkC exEs 2 5 = exC := by decide
theorem ex_clocks : clksL (evAt exEs) 2 5 = exC := (clksL_eq exEs 2 ex_th 5 (by decide)).trans ex_clk
theorem ex_hb (q p : Nat) (hq : q < 5) (hp : p < 5) : hbB (evAt exEs) q p = hbC exEs 2 exC q p := by
  rw [hbC_eq exEs 2 ex_th q p hq hp]
  exact congrArg (fun c => hbC exEs 2 c q p) ex_clk
theorem ex_past : pastZ (evAt exEs) 4 4 = [0, 1, 2, 3] := by
  unfold pastZ
  rw [show (List.range 4).filter (hbB (evAt exEs) 4) = (List.range 4).filter (hbC exEs 2 exC 4) from List.filter_congr fun x hx => ex_hb 4 x (by omega) (by have := List.mem_range.1 hx; omega)]
  decide
theorem ex_ok : ∀ x ∈ exEs, x.ok := by
  intro x hx
  simp [exEs] at hx
  rcases hx with rfl | rfl | rfl | rfl | rfl <;> simp [Ev.ok, i64]
theorem ex_wrong2 : wrongZ exEs 2 = 0 := by decide
theorem ex_wrong1 : wrongZ exEs 1 = 2 := by decide
theorem ex_01 : hbB (evAt exEs) 1 0 = true := (ex_hb 1 0 (by decide) (by decide)).trans (by decide)
theorem ex_23 : hbB (evAt exEs) 3 2 = false := (ex_hb 3 2 (by decide) (by decide)).trans (by decide)
theorem ex_34 : hbB (evAt exEs) 4 3 = true := (ex_hb 4 3 (by decide) (by decide)).trans (by decide)
theorem ex_10 : hbB (evAt exEs) 0 1 = false := (ex_hb 0 1 (by decide) (by decide)).trans (by decide)
end Go.Proofs.Ytjedkfohmedmaaa
