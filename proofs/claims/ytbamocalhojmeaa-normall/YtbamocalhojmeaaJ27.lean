/- Joined texts of the proof. -/
import Derived.Test.YtbamocalhojmeaaJ26

/- Dependent neighbours of unlike threads, changed about, have another least form (mathematics). -/
namespace Go.Proofs.Ytbamocalhojmeaa
open Go.RowKit
set_option linter.unusedVariables false

theorem inj_count {s : Nat → Nat} {m : Nat} : ∀ k, (∀ x, x < k → s x < m) → (∀ x y, x < k → y < k → s x = s y → x = y) → ∀ p : Nat → Bool, countN (fun x => p (s x)) k ≤ countN p m
  | 0, _, _, p => Nat.zero_le _
  | k + 1, h1, h2, p => by
    have ih := inj_count (s := s) (m := m) k (fun x hx => h1 x (by omega)) (fun x y hx hy => h2 x y (by omega) (by omega)) (fun x => p x && !decide (x = s k))
    have e : countN (fun x => p (s x) && !decide (s x = s k)) k = countN (fun x => p (s x)) k := countN_congr k fun x hx => by
      rw [decide_eq_false (fun h => by have := h2 x k (by omega) (by omega) h; omega)]
      simp
    rw [e] at ih
    simp only [countN]
    by_cases hp : p (s k) = true
    · have h3 := countN_lt (p := fun x => p x && !decide (x = s k)) (q := p) m (fun i _ h => (Bool.and_eq_true_iff.1 h).1) (s k) (h1 k (by omega)) (by simp) hp
      rw [if_pos hp]
      omega
    · have h3 := countN_mono (p := fun x => p x && !decide (x = s k)) (q := p) m (fun i _ h => (Bool.and_eq_true_iff.1 h).1)
      rw [if_neg hp]
      omega
/-- How many earlier events of its thread an event has. -/
def rk (ev : Nat → Ev) (m i : Nat) : Nat := countN (fun x => decide ((ev x).th = (ev i).th) && decide (x < i)) m
theorem rk_lt {ev : Nat → Ev} {m p q : Nat} (hq : p < m) (hpq : p < q) (ht : (ev p).th = (ev q).th) : rk ev m p < rk ev m q := by
  unfold rk
  refine countN_lt m (fun i _ h => ?_) p hq (by simp) (by simp [ht, hpq])
  simp only [Bool.and_eq_true, decide_eq_true_eq] at h ⊢
  exact ⟨by rw [h.1, ht], by omega⟩
theorem rk_inj {ev : Nat → Ev} {m p q : Nat} (hp : p < m) (hq : q < m) (ht : (ev p).th = (ev q).th) (h : rk ev m p = rk ev m q) : p = q := by
  rcases Nat.lt_trichotomy p q with h1 | h1 | h1
  · have := rk_lt hp h1 ht
    omega
  · exact h1
  · have := rk_lt hq h1 ht.symm
    omega
theorem Ext.rk {ev ev' : Nat → Ev} {m : Nat} {s t : Nat → Nat} (h : Ext ev ev' m s t) {i : Nat} (hi : i < m) : rk ev' m (t i) = rk ev m i := by
  have tinj : ∀ x y, x < m → y < m → t x = t y → x = y := fun x y hx hy e => by have := congrArg s e; rwa [h.st x hx, h.st y hy] at this
  have sinj : ∀ x y, x < m → y < m → s x = s y → x = y := fun x y hx hy e => by have := congrArg t e; rwa [h.ts x hx, h.ts y hy] at this
  have cond : ∀ x, x < m → (decide ((ev' (t x)).th = (ev' (t i)).th) && decide (t x < t i)) = (decide ((ev x).th = (ev i).th) && decide (x < i)) := by
    intro x hx
    rw [h.is' hx, h.is' hi]
    by_cases ht : (ev x).th = (ev i).th
    · rw [decide_eq_true ht, Bool.true_and, Bool.true_and]
      rcases Nat.lt_trichotomy x i with h1 | h1 | h1
      · rw [decide_eq_true h1, decide_eq_true (h.ord x i h1 hi (dep_same ht))]
      · subst h1
        rw [decide_eq_false (Nat.lt_irrefl _), decide_eq_false (Nat.lt_irrefl _)]
      · have := h.ord i x h1 hx (dep_same ht.symm)
        rw [decide_eq_false (by omega), decide_eq_false (by omega)]
    · rw [decide_eq_false ht, Bool.false_and, Bool.false_and]
  unfold Go.Proofs.Ytbamocalhojmeaa.rk
  refine Nat.le_antisymm ?_ ?_
  · have h1 := inj_count (s := s) (m := m) m (fun x hx => h.sl x hx) (fun x y hx hy e => sinj x y hx hy e) (fun x => decide ((ev x).th = (ev i).th) && decide (x < i))
    refine Nat.le_trans (Nat.le_of_eq (countN_congr m fun x hx => ?_)) h1
    have := cond (s x) (h.sl x hx)
    rw [h.ts x hx] at this
    exact this
  · have h1 := inj_count (s := t) (m := m) m (fun x hx => h.tl x hx) (fun x y hx hy e => tinj x y hx hy e) (fun x => decide ((ev' x).th = (ev' (t i)).th) && decide (x < t i))
    exact Nat.le_trans (Nat.le_of_eq (countN_congr m fun x hx => (cond x hx).symm)) h1
/-- The ranks of two neighbours of unlike threads stay when they are changed about. -/
theorem rk_sw {ev : Nat → Ev} {m k i : Nat} (hk : k + 1 < m) (ht : (ev k).th ≠ (ev (k + 1)).th) (hi : i = k ∨ i = k + 1) : rk (fun x => ev (sw k x)) m (sw k i) = rk ev m i := by
  unfold rk
  rw [← countN_sw (fun x => decide ((ev x).th = (ev i).th) && decide (x < i)) k m (by omega)]
  refine countN_congr m fun x hx => ?_
  simp only [sw_sw]
  rcases hi with rfl | rfl
  · rw [sw_at]
    by_cases h1 : x = i
    · subst h1
      rw [sw_at, decide_eq_false (fun h => ht h.symm), Bool.false_and, Bool.false_and]
    · by_cases h2 : x = i + 1
      · subst h2
        rw [sw_next]
        simp
      · rw [sw_other h1 h2]
        congr 1
        exact decide_eq_decide.2 (by omega)
  · rw [sw_next]
    by_cases h1 : x = k
    · subst h1
      rw [sw_at]
      simp
    · by_cases h2 : x = k + 1
      · subst h2
        rw [sw_next, decide_eq_false ht, Bool.false_and, Bool.false_and]
      · rw [sw_other h1 h2]
        congr 1
        exact decide_eq_decide.2 (by omega)
theorem parts_sw {ev ev2 : Nat → Ev} {m k : Nat} {s1 t1 s2 t2 : Nat → Nat} (hk : k + 1 < m) (hd : depB (ev k) (ev (k + 1)) = true) (ht : (ev k).th ≠ (ev (k + 1)).th)
    (h1 : Ext ev ev2 m s1 t1) (h2 : Ext (fun x => ev (sw k x)) ev2 m s2 t2) : False := by
  have a1 := h1.ord k (k + 1) (Nat.lt_succ_self _) hk hd
  have a2 := h2.ord k (k + 1) (Nat.lt_succ_self _) hk (by simp only [sw_at, sw_next]; rw [depB_comm]; exact hd)
  have e1 : t1 k = t2 (k + 1) := by
    refine rk_inj (ev := ev2) (m := m) (h1.tl k (by omega)) (h2.tl (k + 1) hk) ?_ ?_
    · rw [h1.is' (show k < m by omega), h2.is' hk]
      simp only [sw_next]
    · rw [h1.rk (show k < m by omega), h2.rk hk]
      have := rk_sw (ev := ev) hk ht (.inl rfl)
      rw [sw_at] at this
      exact this.symm
  have e2 : t1 (k + 1) = t2 k := by
    refine rk_inj (ev := ev2) (m := m) (h1.tl (k + 1) hk) (h2.tl k (by omega)) ?_ ?_
    · rw [h1.is' hk, h2.is' (show k < m by omega)]
      simp only [sw_at]
    · rw [h1.rk hk, h2.rk (show k < m by omega)]
      have := rk_sw (ev := ev) hk ht (.inr rfl)
      rw [sw_next] at this
      exact this.symm
  omega
end Go.Proofs.Ytbamocalhojmeaa

/- Neighbours changed about: the least form stays just if they do not depend (mathematics, over lists). -/
namespace Go.Proofs.Ytbamocalhojmeaa
open Go.RowKit
set_option linter.unusedVariables false

def swL (es : List Ev) (k : Nat) : List Ev := (es.set k (evAt es (k + 1))).set (k + 1) (evAt es k)
theorem swL_length (es : List Ev) (k : Nat) : (swL es k).length = es.length := by simp [swL]
theorem evAt_swL {es : List Ev} {k : Nat} (hk : k + 1 < es.length) (i : Nat) : evAt (swL es k) i = evAt es (sw k i) := by
  by_cases h1 : i = k
  · subst h1
    rw [sw_at]
    refine evAt_eq ?_
    unfold swL
    rw [List.getElem?_set_ne (by omega), List.getElem?_set_self (by omega)]
  · by_cases h2 : i = k + 1
    · subst h2
      rw [sw_next]
      refine evAt_eq ?_
      unfold swL
      rw [List.getElem?_set_self (by simp; omega)]
    · rw [sw_other h1 h2]
      unfold evAt swL
      simp only [List.getD]
      rw [List.getElem?_set_ne (fun e => h2 e.symm), List.getElem?_set_ne (fun e => h1 e.symm)]
theorem Ext.congr {ev ev1 ev2 : Nat → Ev} {m : Nat} {s t : Nat → Nat} (h : Ext ev ev1 m s t) (he : ∀ x, x < m → ev2 x = ev1 x) : Ext ev ev2 m s t :=
  ⟨fun x hx => by rw [he x hx]; exact h.is x hx, h.sl, h.tl, h.ts, h.st, h.ord⟩
theorem least_sw {es : List Ev} {k : Nat} (hk : k + 1 < es.length) (hd : depB (evAt es k) (evAt es (k + 1)) = false) : leastE (swL es k) = leastE es :=
  Ext.same ((ext_sw hk hd).congr fun x _ => evAt_swL hk x) (swL_length es k)
theorem evAt_leastE (es : List Ev) {x : Nat} (hx : x < es.length) : evAt (leastE es) x = evAt es ((leastL (evAt es) es.length).getD x 0) := by
  have hl : x < (leastL (evAt es) es.length).length := by rw [leastL, leastN_length]; exact hx
  simp [leastE, evsAt, evAt, List.getD, List.getElem?_map, List.getElem?_eq_getElem hl]
theorem ext_least (es : List Ev) : ∃ s t, Ext (evAt es) (evAt (leastE es)) es.length s t := by
  obtain ⟨t, ht⟩ := (lin_least (evAt es) es.length).ext
  exact ⟨_, t, ht.congr fun x hx => evAt_leastE es hx⟩
theorem least_parts {es : List Ev} {k : Nat} (hk : k + 1 < es.length) (hd : depB (evAt es k) (evAt es (k + 1)) = true) (ht : (evAt es k).th ≠ (evAt es (k + 1)).th) : leastE (swL es k) ≠ leastE es := by
  intro he
  obtain ⟨s1, t1, h1⟩ := ext_least es
  obtain ⟨s2, t2, h2⟩ := ext_least (swL es k)
  rw [he, swL_length] at h2
  rw [show evAt (swL es k) = fun x => evAt es (sw k x) from funext fun x => evAt_swL hk x] at h2
  exact parts_sw hk hd ht h1 h2
/-- Levels, one behind the other, have the same least form. -/
theorem least_levels {es : List Ev} {n : Nat} (hth : ∀ i, i < es.length → 0 ≤ (evAt es i).th ∧ (evAt es i).th < (n : Int)) : leastE (evsAt (evAt es) (levelsE (evAt es) es.length n).flatten) = leastE es := (lin_levels hth).same
end Go.Proofs.Ytbamocalhojmeaa

/- Traces that come of one another by changing about; the least form is the first, thread by thread (mathematics). -/
namespace Go.Proofs.Ytbamocalhojmeaa
open Go.RowKit
set_option linter.unusedVariables false

/-- By changing about, again and again. -/
inductive Rch : List Ev → List Ev → Prop
  | refl (a : List Ev) : Rch a a
  | step {a b : List Ev} (k : Nat) : Rch a b → k + 1 < b.length → depB (evAt b k) (evAt b (k + 1)) = false → Rch a (swL b k)
theorem Rch.trans {a b c : List Ev} (h1 : Rch a b) (h2 : Rch b c) : Rch a c := by
  induction h2 with
  | refl => exact h1
  | step k _ h3 h4 ih => exact .step k ih h3 h4
theorem swL_swL {b : List Ev} {k : Nat} (hk : k + 1 < b.length) : swL (swL b k) k = b := by
  apply List.ext_getElem?
  intro i
  rcases Nat.lt_or_ge i b.length with hi | hi
  · have h1 : i < (swL (swL b k) k).length := by rw [swL_length, swL_length]; exact hi
    have e1 : evAt (swL (swL b k) k) i = evAt b i := by rw [evAt_swL (by rw [swL_length]; exact hk), evAt_swL hk, sw_sw]
    have e2 := evAt_eq (List.getElem?_eq_getElem h1)
    have e3 := evAt_eq (List.getElem?_eq_getElem hi)
    rw [List.getElem?_eq_getElem h1, List.getElem?_eq_getElem hi, ← e2, ← e3, e1]
  · rw [List.getElem?_eq_none (by rw [swL_length, swL_length]; exact hi), List.getElem?_eq_none hi]
theorem Rch.symm {a b : List Ev} (h : Rch a b) : Rch b a := by
  induction h with
  | refl => exact .refl _
  | @step b k h1 h2 h3 ih =>
    have e : Rch (swL b k) b := by
      have := Rch.step (a := swL b k) k (.refl _) (by rw [swL_length]; exact h2) (by rw [evAt_swL h2, evAt_swL h2, sw_at, sw_next, depB_comm]; exact h3)
      rwa [swL_swL h2] at this
    exact e.trans ih
theorem Rch.least {a b : List Ev} (h : Rch a b) : leastE b = leastE a := by
  induction h with
  | refl => rfl
  | step k _ h2 h3 ih => rw [least_sw h2 h3, ih]
theorem Rch.length {a b : List Ev} (h : Rch a b) : b.length = a.length := by
  induction h with
  | refl => rfl
  | step k _ _ _ ih => rw [swL_length, ih]
def sumN (f : Nat → Nat) : Nat → Nat
  | 0 => 0
  | n + 1 => sumN f n + f n
theorem sumN_congr {f g : Nat → Nat} : ∀ n, (∀ i, i < n → f i = g i) → sumN f n = sumN g n
  | 0, _ => rfl
  | n + 1, h => by simp only [sumN]; rw [sumN_congr n fun i hi => h i (by omega), h n (by omega)]
theorem sumN_le {f : Nat → Nat} {b : Nat} : ∀ n, (∀ i, i < n → f i ≤ b) → sumN f n ≤ n * b
  | 0, _ => by simp [sumN]
  | n + 1, h => by
    have h1 := sumN_le (f := f) (b := b) n fun i hi => h i (by omega)
    have h2 := h n (by omega)
    simp only [sumN]
    rw [Nat.succ_mul]
    omega
theorem sumN_sw (t : Nat → Nat) (k : Nat) : ∀ n, k + 2 ≤ n → sumN (fun i => i * t (sw k i)) n + t (k + 1) = sumN (fun i => i * t i) n + t k
  | 0, h => by omega
  | n + 1, h => by
    rcases Nat.lt_or_ge n (k + 2) with h1 | h1
    · obtain rfl : n = k + 1 := by omega
      have e : sumN (fun i => i * t (sw k i)) k = sumN (fun i => i * t i) k := sumN_congr k fun i hi => by rw [sw_other (by omega) (by omega)]
      simp only [sumN]
      rw [e, sw_at, sw_next, Nat.succ_mul, Nat.succ_mul]
      omega
    · have ih := sumN_sw t k n h1
      simp only [sumN]
      rw [sw_other (show n ≠ k by omega) (show n ≠ k + 1 by omega)]
      omega
theorem Ext.swap {es : List Ev} {ev' : Nat → Ev} {m k : Nat} {s t : Nat → Nat} (h : Ext (evAt es) ev' m s t) (hm : es.length = m) (hk : k + 1 < m) (hd : depB (evAt es k) (evAt es (k + 1)) = false) :
    Ext (evAt (swL es k)) ev' m (fun x => sw k (s x)) (fun i => t (sw k i)) := by
  have hk2 : k + 1 < es.length := by omega
  have sb : ∀ x, x < m → sw k x < m := by
    intro x hx
    unfold sw
    split
    · omega
    · split <;> omega
  refine ⟨fun x hx => by rw [evAt_swL hk2, sw_sw]; exact h.is x hx, fun x hx => sb _ (h.sl x hx), fun i hi => h.tl _ (sb i hi), fun x hx => by simp only [sw_sw]; exact h.ts x hx, fun i hi => by show sw k (s (t (sw k i))) = i; rw [h.st _ (sb i hi), sw_sw], fun i j hij hj hdep => ?_⟩
  rw [evAt_swL hk2, evAt_swL hk2] at hdep
  refine h.ord _ _ (sw_lt hij ?_) (sb j hj) hdep
  rintro ⟨rfl, rfl⟩
  rw [sw_at, sw_next, depB_comm, hd] at hdep
  cases hdep
theorem ext_lists {a b : List Ev} (hl : a.length = b.length) (h : ∀ i, i < a.length → evAt a i = evAt b i) : a = b := by
  apply List.ext_getElem?
  intro i
  rcases Nat.lt_or_ge i a.length with hi | hi
  · have e2 := evAt_eq (List.getElem?_eq_getElem hi)
    have e3 := evAt_eq (List.getElem?_eq_getElem (show i < b.length by omega))
    rw [List.getElem?_eq_getElem hi, List.getElem?_eq_getElem (show i < b.length by omega), ← e2, ← e3, h i hi]
  · rw [List.getElem?_eq_none hi, List.getElem?_eq_none (by omega)]
theorem Ext.same_list {es fs : List Ev} {m : Nat} {s t : Nat → Nat} (h : Ext (evAt es) (evAt fs) m s t) (he : es.length = m) (hf : fs.length = m) (hinv : ¬ ∃ k, k + 1 < m ∧ t (k + 1) < t k) : fs = es := by
  have inc : ∀ k, k + 1 < m → t k < t (k + 1) := by
    intro k hk
    rcases Nat.lt_trichotomy (t k) (t (k + 1)) with h1 | h1 | h1
    · exact h1
    · have := congrArg s h1
      rw [h.st k (by omega), h.st (k + 1) hk] at this
      omega
    · exact absurd ⟨k, hk, h1⟩ hinv
  have lo : ∀ i, i < m → i ≤ t i := by
    intro i
    induction i with
    | zero => intro _; exact Nat.zero_le _
    | succ i ih => intro hi; have := inc i hi; have := ih (by omega); omega
  have hi : ∀ d i, i + d + 1 = m → t i ≤ i := by
    intro d
    induction d with
    | zero => intro i e; have := h.tl i (by omega); omega
    | succ d ih => intro i e; have := inc i (by omega); have := ih (i + 1) (by omega); omega
  refine ext_lists (by omega) fun i hil => ?_
  have e : t i = i := Nat.le_antisymm (hi (m - i - 1) i (by omega)) (lo i (by omega))
  have := h.is' (show i < m by omega)
  rwa [e] at this
/-- An order in which dependent events keep theirs is reached by changing about. -/
theorem Ext.reach {fs : List Ev} {m : Nat} (hf : fs.length = m) : ∀ (d : Nat) (es : List Ev) (s t : Nat → Nat), es.length = m → Ext (evAt es) (evAt fs) m s t → m * (m * m) - sumN (fun i => i * t i) m ≤ d → Rch es fs := by
  have one : ∀ (es : List Ev) (s t : Nat → Nat) (k : Nat), es.length = m → Ext (evAt es) (evAt fs) m s t → k + 1 < m → t (k + 1) < t k → depB (evAt es k) (evAt es (k + 1)) = false := by
    intro es s t k hm h h1 h2
    rw [Bool.eq_false_iff]
    intro hd
    have := h.ord k (k + 1) (Nat.lt_succ_self _) h1 hd
    omega
  have bnd : ∀ (es : List Ev) (s t : Nat → Nat) (k : Nat), Ext (evAt es) (evAt fs) m s t → k + 1 < m → sumN (fun i => i * t (sw k i)) m ≤ m * (m * m) := by
    intro es s t k h h1
    refine sumN_le m fun i hi => Nat.mul_le_mul (by omega) ?_
    have : sw k i < m := by
      unfold sw
      split
      · omega
      · split <;> omega
    have := h.tl _ this
    omega
  intro d
  induction d with
  | zero =>
    intro es s t hm h hd
    by_cases hinv : ∃ k, k + 1 < m ∧ t (k + 1) < t k
    · obtain ⟨k, h1, h2⟩ := hinv
      have hb := bnd es s t k h h1
      have := sumN_sw t k m (by omega)
      omega
    · rw [h.same_list hm hf hinv]
      exact .refl _
  | succ d ih =>
    intro es s t hm h hd
    by_cases hinv : ∃ k, k + 1 < m ∧ t (k + 1) < t k
    · obtain ⟨k, h1, h2⟩ := hinv
      have hdep := one es s t k hm h h1 h2
      have hb := bnd es s t k h h1
      have hs := sumN_sw t k m (by omega)
      have hr := ih (swL es k) _ _ (by rw [swL_length]; exact hm) (h.swap hm h1 hdep) (by omega)
      exact (Rch.step k (.refl es) (by omega) hdep).trans hr
    · rw [h.same_list hm hf hinv]
      exact .refl _
theorem reach_least (es : List Ev) : Rch es (leastE es) := by
  obtain ⟨s, t, h⟩ := ext_least es
  exact Ext.reach (leastE_length es) _ es s t rfl h (Nat.le_refl _)
/-- Two traces come of one another by changing about just if they have one least form. -/
theorem rch_iff {a b : List Ev} : Rch a b ↔ leastE b = leastE a := by
  constructor
  · exact Rch.least
  · intro h
    have h1 := reach_least a
    have h2 := (reach_least b).symm
    rw [h] at h2
    exact h1.trans h2
/-- The least form is no later than the trace, thread by thread. -/
theorem least_first (es : List Ev) : ∀ p, p < es.length → (∀ q, q < p → (evAt (leastE es) q).th = (evAt es q).th) → (evAt (leastE es) p).th ≤ (evAt es p).th := by
  have key : ∀ p, p ≤ es.length → (∀ q, q < p → (evAt (leastE es) q).th = (evAt es q).th) → leastN (evAt es) es.length p = List.range p := by
    intro p
    induction p with
    | zero => intro _ _; rfl
    | succ p ih =>
      intro hp hq
      have h0 := ih (by omega) fun q h => hq q (by omega)
      obtain ⟨b, h1, h2, h3⟩ := best_is (ev := evAt es) (n := es.length) (s := p) (by omega)
      rw [leastN_next h1, h0, List.range_succ]
      have hm : mayE (evAt es) (leastN (evAt es) es.length p) p = true := by
        rw [h0, mayE_iff]
        exact ⟨by simp, fun i hi => List.mem_range.2 hi.lt⟩
      have hat : evAt (leastE es) p = evAt es b := by
        rw [evAt_leastE es (by omega)]
        congr 1
        have : (leastL (evAt es) es.length)[p]? = some b := by
          have hpre : ∀ k, p + 1 ≤ k → (leastN (evAt es) es.length k)[p]? = some b := by
            intro k
            induction k with
            | zero => intro h; omega
            | succ k ihk =>
              intro h
              rcases Nat.lt_or_ge p k with h5 | h5
              · unfold leastN
                rw [List.getElem?_append_left (by rw [leastN_length]; exact h5)]
                exact ihk h5
              · obtain rfl : p = k := by omega
                rw [leastN_next h1, List.getElem?_append_right (by rw [leastN_length]; exact Nat.le_refl _), leastN_length, Nat.sub_self]
                rfl
          exact hpre es.length (by omega)
        simp [List.getD, this]
      have hth := hq p (Nat.lt_succ_self _)
      rw [hat] at hth
      rw [may_one h3 hm hth]
  intro p hp hq
  have h0 := key p (by omega) hq
  obtain ⟨b, h1, h2, h3⟩ := best_is (ev := evAt es) (n := es.length) (s := p) hp
  have hm : mayE (evAt es) (leastN (evAt es) es.length p) p = true := by
    rw [h0, mayE_iff]
    exact ⟨by simp, fun i hi => List.mem_range.2 hi.lt⟩
  have hat : evAt (leastE es) p = evAt es b := by
    rw [evAt_leastE es hp]
    congr 1
    have : (leastL (evAt es) es.length)[p]? = some b := by
      have hpre : ∀ k, p + 1 ≤ k → (leastN (evAt es) es.length k)[p]? = some b := by
        intro k
        induction k with
        | zero => intro h; omega
        | succ k ihk =>
          intro h
          rcases Nat.lt_or_ge p k with h5 | h5
          · unfold leastN
            rw [List.getElem?_append_left (by rw [leastN_length]; exact h5)]
            exact ihk h5
          · obtain rfl : p = k := by omega
            rw [leastN_next h1, List.getElem?_append_right (by rw [leastN_length]; exact Nat.le_refl _), leastN_length, Nat.sub_self]
            rfl
      exact hpre es.length (by omega)
    simp [List.getD, this]
  rw [hat]
  rcases bestN_least h1 p hp hm with h | ⟨h, _⟩ <;> omega
end Go.Proofs.Ytbamocalhojmeaa

/- The given answer's Levels: its errors, and both in one form. -/
namespace Go.Proofs.Ytbamocalhojmeaa
open Go.RowKit
set_option linter.unusedVariables false
attribute [local go_sem ↓] Go.wp_at_zero Go.wp_at_succ

theorem refLevels_bad (es : List Ev) (n : Int) (a : Option Addr) (c : Nat) (w : World) (hE : RowEv w a es) (hl : es.length ≤ 4611686018427387904) (hc : es.length ≤ c) (hw : wrongZ es n ≠ 0) :
    Calls Try.prog 13 #[.slice a es.length c, .int .i64 n] w fun r w' => r = .returned (.tuple #[.slice none 0 0, .int .i64 (wrongZ es n)]) ∧ Below w.heap.size w w' := by
  have HW := refWrongU_any es n a c w hE hl hc
  obtain ⟨R, hR⟩ : ∃ R, R = wrongZ es n := ⟨_, rfl⟩
  rw [← hR] at HW hw ⊢
  have hw2 : (R == 0) = false := by rw [beq_eq_false_iff_ne]; exact hw
  clear hR
  go_enter Try.func13, Try.ntmps13
  go_wp2_with (first | (go_at_call 36; refine HW.mono ?_; rintro _ w1 ⟨rfl, hw⟩; obtain rfl : w = w1 := hw.symm; clear hw))
  go_ret2
  exact ⟨rfl, Below.refl _ _⟩
def leastZ (es : List Ev) (n : Int) : List Int := if wrongZ es n = 0 then natI (leastL (evAt es) es.length) else []
def levelsZ (es : List Ev) (n : Int) : List (List Int) := if wrongZ es n = 0 then (levelsE (evAt es) es.length n.toNat).map natI else []
theorem refLeast_tells (es : List Ev) (n : Int) (a : Option Addr) (c : Nat) (w : World) (hE : RowEv w a es) (hl : es.length ≤ 4611686018427387904) (hc : es.length ≤ c) :
    Calls Try.prog 11 #[.slice a es.length c, .int .i64 n] w fun r w' => ∃ ap cp, r = .returned (.tuple #[.slice ap (leastZ es n).length cp, .int .i64 (wrongZ es n)]) ∧ (leastZ es n).length ≤ cp ∧ RowI w' ap (leastZ es n) ∧ Below w.heap.size w w' := by
  unfold leastZ
  by_cases hw : wrongZ es n = 0
  · rw [if_pos hw]
    refine (refLeast_ok es n a c w hE hc hw).mono fun r w' ⟨v, d1, d2, d3⟩ => ?_
    obtain ⟨ap, cp, rfl, f2, f3⟩ := d2.row
    exact ⟨ap, cp, by rw [d1, hw], f2, f3, d3⟩
  · rw [if_neg hw]
    exact (refLeast_bad es n a c w hE hl hc hw).mono fun r w' ⟨d1, d3⟩ => ⟨none, 0, d1, Nat.le_refl _, .inl rfl, d3⟩
theorem rowII_of {base B : Nat} {w : World} {v : Value} {vs : List Value} {rows : List (List Nat)} (hown : OwnL base w v vs) (hr : RowsV B w vs rows) (hb : ∀ r ∈ rows, r.length ≤ 4611686018427387904) : ∃ a c, v = .slice a rows.length c ∧ rows.length ≤ c ∧ RowII w a (rows.map natI) := by
  obtain ⟨hlen, hat⟩ := hr
  obtain ⟨h0, ⟨rfl, h2⟩ | ⟨g, cap, cur, rfl, hg, hh, hl, hm, hs, ht⟩⟩ := hown
  · have : rows = [] := List.length_eq_zero_iff.1 (by omega)
    subst this
    exact ⟨none, 0, rfl, Nat.le_refl _, .inl rfl⟩
  · rw [hlen] at hl ⊢
    refine ⟨_, cap, rfl, hl, .inr ⟨g, 0, rfl, fun i zs hz => ?_⟩⟩
    rw [List.getElem?_map] at hz
    obtain ⟨r, hr1, rfl⟩ := Option.map_eq_some_iff.1 hz
    have hi : i < rows.length := (List.getElem?_eq_some_iff.1 hr1).1
    have hx := List.getElem?_eq_getElem (show i < vs.length by omega)
    obtain ⟨b, c, h5, h6, h7⟩ := (hat i _ r hx hr1).row
    have ht2 : cur.toList.take (vs.length * 1) = vs := ht
    have e1 : (cur.toList.take (vs.length * 1))[i]? = some vs[i] := by rw [ht2]; exact hx
    rw [List.getElem?_take_of_lt (by omega)] at e1
    refine ⟨b, c, ?_, h7, h6, by rw [natI_length]; exact hb r (List.mem_of_getElem? hr1)⟩
    rw [← h5]
    simp only [World.cell?, hh, Nat.zero_add]
    simpa using e1
end Go.Proofs.Ytbamocalhojmeaa
