/- What fill tells of clocks is the next clock. Mathematics alone. -/
import Derived.Test.YtjedkfohmedmaaaCkE
namespace Go.Proofs.Ytjedkfohmedmaaa
set_option linter.unusedVariables false

/-- A clock as numbers. -/
def clkL (ev : Nat → Ev) (n j : Nat) : List Int := (List.range n).map fun (t : Nat) => ((clk ev j (t : Int) : Nat) : Int)
theorem clkL_length (ev : Nat → Ev) (n j : Nat) : (clkL ev n j).length = n := by simp [clkL]
theorem clkL_at {ev : Nat → Ev} {n j t : Nat} (h : t < n) : (clkL ev n j)[t]? = some ((clk ev j (t : Int) : Nat) : Int) := by simp [clkL, h]
theorem flS_congr {c c' : Nat → List Int} {ev ev' : Nat → Ev} {e : Ev} {z : List Int} : ∀ K, (∀ i, i < K → c i = c' i ∧ ev i = ev' i) → flS c ev e z K = flS c' ev' e z K
  | 0, _ => rfl
  | K + 1, h => by
    rw [flS, flS, flS_congr K fun i hi => h i (by omega), (h K (by omega)).1, (h K (by omega)).2]
def maxL (ev : Nat → Ev) (n : Nat) (e : Ev) (K : Nat) : List Int := (List.range n).map fun (t : Nat) => ((maxN (fun i => clk ev i (t : Int)) (fun i => depB (ev i) e) K : Nat) : Int)
theorem maxL_at {ev : Nat → Ev} {n : Nat} {e : Ev} {K t : Nat} (h : t < n) : (maxL ev n e K)[t]? = some ((maxN (fun i => clk ev i (t : Int)) (fun i => depB (ev i) e) K : Nat) : Int) := by simp [maxL, h]
theorem gat_at {xs ys : List Int} {t : Nat} {x y : Int} (hx : xs[t]? = some x) (hy : ys[t]? = some y) : (gatL xs ys)[t]? = some (max x y) := by
  simp [gatL, List.getElem?_zipWith, hx, hy]
theorem maxN_none {f : Nat → Nat} {p : Nat → Bool} : ∀ K, (∀ i, i < K → p i = false) → maxN f p K = 0
  | 0, _ => rfl
  | K + 1, h => by
    rw [maxN, if_neg (by rw [h K (by omega)]; exact Bool.false_ne_true)]
    exact maxN_none K fun i hi => h i (by omega)
theorem flS_clk (ev : Nat → Ev) (n : Nat) (e : Ev) : ∀ K, ∃ f, flS (clkL ev n) ev e (List.replicate n 0) K = (maxL ev n e K, countN (fun i => decide ((ev i).th = e.th)) K, f) ∧ (f = true → ∀ i, i < K → depB (ev i) e = false)
  | 0 => ⟨true, by
      rw [flS, maxL]
      simp only [maxN, countN]
      refine Prod.ext ?_ rfl
      simp [List.map_const'], fun _ i hi => by omega⟩
  | K + 1 => by
    obtain ⟨f, h1, h2⟩ := flS_clk ev n e K
    by_cases hd : depB (ev K) e = true
    · refine ⟨false, ?_, fun h => by cases h⟩
      rw [flS, if_pos hd, h1]
      dsimp only
      refine Prod.ext ?_ (Prod.ext ?_ rfl)
      · dsimp only
        apply List.ext_getElem?
        intro t
        rcases Nat.lt_or_ge t n with ht | ht
        · rw [maxL_at ht, maxN, if_pos hd]
          cases f
          · rw [if_neg Bool.false_ne_true, gat_at (maxL_at ht) (clkL_at ht)]
            congr 1
            omega
          · rw [if_pos rfl, gat_at (clkL_at ht) (clkL_at ht), maxN_none K (h2 rfl)]
            congr 1
            omega
        · rw [List.getElem?_eq_none (l := maxL ev n e (K + 1)) (by simp [maxL]; exact ht), List.getElem?_eq_none]
          simp only [gatL, List.length_zipWith, clkL_length]
          omega
      · dsimp only
        rw [countN]
        simp
    · refine ⟨f, ?_, fun hf i hi => ?_⟩
      · rw [flS, if_neg hd, h1]
        have e1 : maxL ev n e (K + 1) = maxL ev n e K := by
          unfold maxL
          simp only [maxN, if_neg hd]
        have e2 : countN (fun i => decide ((ev i).th = e.th)) (K + 1) = countN (fun i => decide ((ev i).th = e.th)) K := by
          rw [countN, if_neg]
          · rfl
          · intro h
            exact hd (dep_same (of_decide_eq_true h))
        rw [e1, e2]
      · by_cases hiK : i = K
        · subst hiK; exact Bool.eq_false_iff.2 hd
        · exact h2 hf i (by omega)
/-- The clock that is told is the event's own. -/
theorem flZ_clk (ev : Nat → Ev) (n k : Nat) (xs : List (List Int)) (es : List Ev) (e : Ev) (he : e = ev k) (hes : es.length = k) (hev : ∀ i, i < k → evAt es i = ev i) (hxs : ∀ i, i < k → xs[i]? = some (clkL ev n i)) (h0 : 0 ≤ e.th) (hn : e.th < n) : flZ xs es e (List.replicate n 0) = clkL ev n k := by
  subst he
  unfold flZ
  rw [hes, flS_congr (c' := clkL ev n) (ev' := ev) k fun i hi => ⟨by simp [List.getD, hxs i hi], hev i hi⟩]
  obtain ⟨f, h1, _⟩ := flS_clk ev n (ev k) k
  rw [h1]
  dsimp only
  obtain ⟨p, hp⟩ : ∃ p : Nat, (ev k).th = (p : Int) := ⟨(ev k).th.toNat, by omega⟩
  have hpn : p < n := by omega
  rw [hp, Int.toNat_natCast]
  apply List.ext_getElem?
  intro t
  rcases Nat.lt_or_ge t n with ht | ht
  · rw [clkL_at ht]
    by_cases htp : t = p
    · subst htp
      rw [List.getElem?_set_self (by simp [maxL]; exact ht)]
      have e := clk_own ev k
      rw [hp] at e
      rw [e]
      rfl
    · rw [List.getElem?_set_ne (fun h => htp h.symm), maxL_at ht, clk_max ev k t (by rw [hp]; omega)]
  · rw [List.getElem?_eq_none (by simp [maxL]; exact ht), List.getElem?_eq_none (by rw [clkL_length]; exact ht)]
end Go.Proofs.Ytjedkfohmedmaaa
