/- Joined texts of the proof. -/
import Derived.Test.YtbamocalhojmeaaJ18
import Derived.Test.YtbamocalhojmeaaJ14

/- One least form for all orders in which dependent events keep theirs (mathematics). -/
namespace Go.Proofs.Ytbamocalhojmeaa
open Go.RowKit
set_option linter.unusedVariables false

/-- ev' is ev in another order (its place x is the old place s x, the old place i is its place t i), in which dependent events keep theirs. -/
structure Ext (ev ev' : Nat → Ev) (m : Nat) (s t : Nat → Nat) : Prop where
  is : ∀ x, x < m → ev' x = ev (s x)
  sl : ∀ x, x < m → s x < m
  tl : ∀ i, i < m → t i < m
  ts : ∀ x, x < m → t (s x) = x
  st : ∀ i, i < m → s (t i) = i
  ord : ∀ i j, i < j → j < m → depB (ev i) (ev j) = true → t i < t j
section
variable {ev ev' : Nat → Ev} {m : Nat} {s t : Nat → Nat}
theorem Ext.is' (h : Ext ev ev' m s t) {i : Nat} (hi : i < m) : ev' (t i) = ev i := by rw [h.is _ (h.tl i hi), h.st i hi]
theorem Ext.up (h : Ext ev ev' m s t) {i j : Nat} (hb : HB ev i j) (hj : j < m) : HB ev' (t i) (t j) := by
  induction hb with
  | @dep j h1 h2 => exact .dep (h.ord i j h1 hj h2) (by rw [h.is' (show i < m by omega), h.is' hj]; exact h2)
  | @step k j h0 h1 h2 ih => exact .step (ih (by omega)) (h.ord k j h1 hj h2) (by rw [h.is' (show k < m by omega), h.is' hj]; exact h2)
theorem Ext.lt (h : Ext ev ev' m s t) {x y : Nat} (hxy : x < y) (hy : y < m) (hd : depB (ev' x) (ev' y) = true) : s x < s y := by
  have hx : x < m := by omega
  rw [h.is x hx, h.is y hy] at hd
  rcases Nat.lt_or_ge (s x) (s y) with h1 | h1
  · exact h1
  · rcases Nat.lt_or_eq_of_le h1 with h2 | h2
    · have := h.ord (s y) (s x) h2 (h.sl x hx) (by rw [depB_comm]; exact hd)
      rw [h.ts x hx, h.ts y hy] at this
      omega
    · have := congrArg t h2
      rw [h.ts x hx, h.ts y hy] at this
      omega
theorem Ext.down (h : Ext ev ev' m s t) {x y : Nat} (hb : HB ev' x y) (hy : y < m) : HB ev (s x) (s y) := by
  induction hb with
  | @dep y h1 h2 => exact .dep (h.lt h1 hy h2) (by rw [← h.is x (by omega), ← h.is y hy]; exact h2)
  | @step k y h0 h1 h2 ih => exact .step (ih (by omega)) (h.lt h1 hy h2) (by rw [← h.is k (by omega), ← h.is y hy]; exact h2)
theorem Ext.may (h : Ext ev ev' m s t) {out : List Nat} (ho : ∀ x ∈ out, x < m) {x : Nat} (hx : x < m) : mayE ev' (out.map t) x = mayE ev out (s x) := by
  rw [Bool.eq_iff_iff, mayE_iff, mayE_iff]
  have hm : ∀ y, y < m → (y ∈ out.map t ↔ s y ∈ out) := by
    intro y hy
    rw [List.mem_map]
    constructor
    · rintro ⟨i, hi, rfl⟩
      rw [h.st i (ho i hi)]
      exact hi
    · intro hi
      exact ⟨s y, hi, h.ts y hy⟩
  rw [hm x hx]
  constructor
  · rintro ⟨h1, h2⟩
    refine ⟨h1, fun i hi => ?_⟩
    have hil : i < m := by have := hi.lt; have := h.sl x hx; omega
    have h3 := h.up hi (h.sl x hx)
    rw [h.ts x hx] at h3
    have h4 := (hm (t i) (h.tl i hil)).1 (h2 (t i) h3)
    rwa [h.st i hil] at h4
  · rintro ⟨h1, h2⟩
    refine ⟨h1, fun y hy => ?_⟩
    have hyl : y < m := by have := hy.lt; omega
    exact (hm y hyl).2 (h2 (s y) (h.down hy hx))
end
/-- Of one thread at most one event may come next. -/
theorem may_one {ev : Nat → Ev} {out : List Nat} {i j : Nat} (hi : mayE ev out i = true) (hj : mayE ev out j = true) (ht : (ev i).th = (ev j).th) : i = j := by
  rcases Nat.lt_trichotomy i j with h | h | h
  · exact absurd ((mayE_iff.1 hj).2 i (HB.same h ht)) (mayE_iff.1 hi).1
  · exact h
  · exact absurd ((mayE_iff.1 hi).2 j (HB.same h ht.symm)) (mayE_iff.1 hj).1
theorem Ext.best {ev ev' : Nat → Ev} {m : Nat} {s t : Nat → Nat} (h : Ext ev ev' m s t) {out : List Nat} (ho : ∀ x ∈ out, x < m) {b : Nat} (hb : bestN ev out m = some b) : bestN ev' (out.map t) m = some (t b) := by
  obtain ⟨h1, h2⟩ := bestN_lt hb
  have h3 : mayE ev' (out.map t) (t b) = true := by rw [h.may ho (h.tl b h1), h.st b h1]; exact h2
  cases hc : bestN ev' (out.map t) m with
  | none => exact absurd hc (bestN_some (h.tl b h1) h3)
  | some c =>
    obtain ⟨h4, h5⟩ := bestN_lt hc
    have h6 : mayE ev out (s c) = true := by rw [← h.may ho h4]; exact h5
    have l1 : (ev b).th ≤ (ev (s c)).th := by rcases bestN_least hb (s c) (h.sl c h4) h6 with h | ⟨h, _⟩ <;> omega
    have l2 : (ev' c).th ≤ (ev' (t b)).th := by rcases bestN_least hc (t b) (h.tl b h1) h3 with h | ⟨h, _⟩ <;> omega
    rw [h.is c h4, h.is' h1] at l2
    have := may_one h2 h6 (by omega)
    rw [this, h.ts c h4]
theorem Ext.least {ev ev' : Nat → Ev} {m : Nat} {s t : Nat → Nat} (h : Ext ev ev' m s t) : ∀ k, k ≤ m → leastN ev' m k = (leastN ev m k).map t
  | 0, _ => rfl
  | k + 1, hk => by
    obtain ⟨b, h1, h2, h3⟩ := best_is (ev := ev) (n := m) (s := k) (by omega)
    have ih := h.least k (by omega)
    have h4 := h.best (leastN_lt k (by omega)) h1
    rw [← ih] at h4
    rw [leastN_next h1, leastN_next h4, ih, List.map_append]
    rfl
/-- The least form's events are the same. -/
theorem Ext.same {es fs : List Ev} {s t : Nat → Nat} (h : Ext (evAt es) (evAt fs) es.length s t) (hl : fs.length = es.length) : leastE fs = leastE es := by
  unfold leastE evsAt leastL
  rw [hl, h.least _ (Nat.le_refl _), List.map_map]
  refine List.map_congr_left fun x hx => ?_
  exact h.is' (leastN_lt _ (Nat.le_refl _) x hx)
/-- Neighbours that do not depend on one another, changed about. -/
theorem ext_sw {ev : Nat → Ev} {m k : Nat} (hk : k + 1 < m) (hd : depB (ev k) (ev (k + 1)) = false) : Ext ev (fun i => ev (sw k i)) m (sw k) (sw k) := by
  have sl : ∀ x, x < m → sw k x < m := by
    intro x hx
    unfold sw
    split
    · omega
    · split <;> omega
  refine ⟨fun x _ => rfl, sl, sl, fun x _ => sw_sw k x, fun x _ => sw_sw k x, fun i j hij hj hdep => sw_lt hij ?_⟩
  rintro ⟨rfl, rfl⟩
  rw [hd] at hdep
  cases hdep
end Go.Proofs.Ytbamocalhojmeaa

/- Orders in which each event comes behind those that happen ahead: the least form, levels (mathematics). -/
namespace Go.Proofs.Ytbamocalhojmeaa
open Go.RowKit
set_option linter.unusedVariables false

/-- Each of the numbers below m once, each behind those that happen ahead of it. -/
structure Lin (ev : Nat → Ev) (out : List Nat) (m : Nat) : Prop where
  len : out.length = m
  lt : ∀ x ∈ out, x < m
  may : ∀ p x, out[p]? = some x → mayE ev (out.take p) x = true
theorem count_snoc {out : List Nat} {b m : Nat} (hb : b < m) (hn : memB out b = false) : countN (memB (out ++ [b])) m = countN (memB out) m + 1 := by
  have key : ∀ n, countN (memB (out ++ [b])) n = countN (memB out) n + if b < n then 1 else 0 := by
    intro n
    induction n with
    | zero => simp [countN]
    | succ n ih =>
      simp only [countN]
      rw [ih, memB_snoc]
      by_cases h : n = b
      · subst h
        rw [hn]
        simp
      · have h1 : decide (n = b) = false := decide_eq_false h
        rw [h1, Bool.or_false]
        by_cases h2 : b < n
        · have h3 : b < n + 1 := by omega
          rw [if_pos h2, if_pos h3]
          split <;> omega
        · have h3 : ¬ b < n + 1 := by omega
          rw [if_neg h2, if_neg h3]
          split <;> omega
  rw [key m, if_pos hb]
theorem Lin.count {ev : Nat → Ev} {out : List Nat} {m : Nat} (h : Lin ev out m) : ∀ p, p ≤ m → countN (memB (out.take p)) m = p
  | 0, _ => by rw [List.take_zero]; exact countN_zero m fun i _ => by simp [memB]
  | p + 1, hp => by
    have hl : p < out.length := by rw [h.len]; omega
    have hx := List.getElem?_eq_getElem hl
    have hm := (mayE_iff.1 (h.may p _ hx)).1
    rw [List.take_add_one, hx]
    show countN (memB (out.take p ++ [out[p]])) m = p + 1
    rw [count_snoc (h.lt _ (List.mem_of_getElem? hx)) (by simpa [memB] using hm), h.count p (by omega)]
theorem Lin.all {ev : Nat → Ev} {out : List Nat} {m : Nat} (h : Lin ev out m) {i : Nat} (hi : i < m) : i ∈ out := by
  have h1 := h.count m (Nat.le_refl _)
  rw [List.take_of_length_le (by rw [h.len]; exact Nat.le_refl _)] at h1
  cases hb : memB out i with
  | true => simpa [memB] using hb
  | false =>
    have h2 := countN_lt (p := memB out) (q := fun _ => true) m (fun _ _ _ => rfl) i hi hb rfl
    rw [countN_all m fun _ _ => rfl] at h2
    omega
theorem Lin.ext {ev : Nat → Ev} {out : List Nat} {m : Nat} (h : Lin ev out m) : ∃ t, Ext ev (fun x => ev (out.getD x 0)) m (fun x => out.getD x 0) t := by
  have hex : ∀ i, i < m → ∃ p, p < m ∧ out[p]? = some i := by
    intro i hi
    obtain ⟨p, hp, he⟩ := List.getElem_of_mem (h.all hi)
    exact ⟨p, by rw [← h.len]; exact hp, by rw [List.getElem?_eq_getElem hp, he]⟩
  have inj : ∀ (p q x : Nat), p < q → out[p]? = some x → out[q]? = some x → False := by
    intro p q x hpq h1 h2
    refine (mayE_iff.1 (h.may q x h2)).1 ?_
    exact List.mem_of_getElem? (by rw [List.getElem?_take_of_lt hpq]; exact h1)
  have at_ : ∀ x, x < m → out[x]? = some (out.getD x 0) := by
    intro x hx
    have hl : x < out.length := by rw [h.len]; exact hx
    simp [List.getD, List.getElem?_eq_getElem hl]
  refine ⟨fun i => if hi : i < m then Classical.choose (hex i hi) else 0, ?_⟩
  have tt : ∀ i (hi : i < m), (if hi : i < m then Classical.choose (hex i hi) else 0) < m ∧ out[(if hi : i < m then Classical.choose (hex i hi) else 0)]? = some i := by
    intro i hi
    rw [dif_pos hi]
    exact Classical.choose_spec (hex i hi)
  have sl : ∀ x, x < m → out.getD x 0 < m := fun x hx => h.lt _ (List.mem_of_getElem? (at_ x hx))
  refine ⟨fun x _ => rfl, sl, fun i hi => (tt i hi).1, fun x hx => ?_, fun i hi => ?_, fun i j hij hj hd => ?_⟩
  · obtain ⟨h1, h2⟩ := tt _ (sl x hx)
    rcases Nat.lt_trichotomy (if hi : out.getD x 0 < m then Classical.choose (hex _ hi) else 0) x with h3 | h3 | h3
    · exact absurd (inj _ _ _ h3 h2 (at_ x hx)) id
    · exact h3
    · exact absurd (inj _ _ _ h3 (at_ x hx) h2) id
  · obtain ⟨h1, h2⟩ := tt i hi
    show out.getD _ 0 = i
    simp [List.getD, h2]
  · obtain ⟨h1, h2⟩ := tt j hj
    obtain ⟨h3, h4⟩ := tt i (by omega)
    have h5 := (mayE_iff.1 (h.may _ j h2)).2 i (.dep hij hd)
    obtain ⟨p, hp, he⟩ := List.getElem_of_mem h5
    have hp2 : p < (if hi : j < m then Classical.choose (hex j hi) else 0) := by
      rw [List.length_take] at hp
      omega
    have h6 : out[p]? = some i := by
      have := List.getElem?_eq_getElem hp
      rw [he, List.getElem?_take_of_lt hp2] at this
      exact this
    rcases Nat.lt_trichotomy (if hi : i < m then Classical.choose (hex i hi) else 0) p with h7 | h7 | h7
    · omega
    · omega
    · exact absurd (inj _ _ _ h7 h6 h4) id
/-- Events in such an order have the same least form. -/
theorem Lin.same {es : List Ev} {out : List Nat} (h : Lin (evAt es) out es.length) : leastE (evsAt (evAt es) out) = leastE es := by
  obtain ⟨t, ht⟩ := h.ext
  have hl : (evsAt (evAt es) out).length = es.length := by rw [evsAt, List.length_map, h.len]
  refine Ext.same (s := fun x => out.getD x 0) (t := t) ⟨fun x hx => ?_, ht.sl, ht.tl, ht.ts, ht.st, ht.ord⟩ hl
  have hx2 : x < out.length := by rw [h.len]; exact hx
  simp [evsAt, evAt, List.getD, List.getElem?_map, List.getElem?_eq_getElem hx2]
theorem lin_least (ev : Nat → Ev) (m : Nat) : Lin ev (leastL ev m) m := by
  refine ⟨leastN_length ev m m, leastN_lt m (Nat.le_refl _), ?_⟩
  have key : ∀ k, k ≤ m → ∀ p x, (leastN ev m k)[p]? = some x → mayE ev ((leastN ev m k).take p) x = true := by
    intro k
    induction k with
    | zero => intro _ p x h; simp [leastN] at h
    | succ k ih =>
      intro hk p x hx
      obtain ⟨b, h1, h2, h3⟩ := best_is (ev := ev) (n := m) (s := k) (by omega)
      rw [leastN_next h1] at hx ⊢
      have hl := leastN_length ev m k
      rcases Nat.lt_or_ge p k with hp | hp
      · rw [List.getElem?_append_left (by omega)] at hx
        rw [List.take_append_of_le_length (by omega)]
        exact ih (by omega) p x hx
      · have hpk : p = k := by
          have := (List.getElem?_eq_some_iff.1 hx).1
          simp [hl] at this
          omega
        rw [List.getElem?_append_right (by omega), hpk, hl, Nat.sub_self] at hx
        cases hx
        rw [hpk, List.take_append_of_le_length (by omega), List.take_of_length_le (by omega)]
        exact h3
  exact key m (Nat.le_refl _)
/-- The least form is its own least form. -/
theorem least_own (es : List Ev) : leastE (leastE es) = leastE es := (lin_least (evAt es) es.length).same
end Go.Proofs.Ytbamocalhojmeaa

/- The least form by counts of what is left ahead, and a heap of what may come next: the mathematics. -/
namespace Go.Proofs.Ytbamocalhojmeaa
set_option linter.unusedVariables false

/-- With an event all that happens ahead of it. -/
def Dwn (ev : Nat → Ev) (out : List Nat) : Prop := ∀ i j, j ∈ out → HB ev i j → i ∈ out
theorem Dwn.nil (ev : Nat → Ev) : Dwn ev [] := fun i j h => by simp at h
theorem Dwn.snoc {ev : Nat → Ev} {out : List Nat} {b : Nat} (h : Dwn ev out) (hb : mayE ev out b = true) : Dwn ev (out ++ [b]) := fun i j hj hi => by
  rcases List.mem_append.1 hj with h1 | h1
  · exact List.mem_append_left _ (h i j h1 hi)
  · rw [List.mem_singleton] at h1
    subst h1
    exact List.mem_append_left _ ((mayE_iff.1 hb).2 i hi)
theorem least_dwn (ev : Nat → Ev) (n : Nat) : ∀ s, s ≤ n → Dwn ev (leastN ev n s)
  | 0, _ => Dwn.nil ev
  | s + 1, h => by
    obtain ⟨b, h1, _, h3⟩ := best_is (ev := ev) (n := n) (s := s) (by omega)
    rw [leastN_next h1]
    exact (least_dwn ev n s (by omega)).snoc h3
/-- A relation that happening ahead comes of. -/
structure Gen (ev : Nat → Ev) (R : Nat → Nat → Bool) (n : Nat) : Prop where
  hb : ∀ i j, j < n → R i j = true → HB ev i j
  gen : ∀ i j, j < n → HB ev i j → ∃ k, R k j = true ∧ (i = k ∨ HB ev i k)
theorem gen_hb (ev : Nat → Ev) (n : Nat) : Gen ev (fun i j => hbB ev j i) n := ⟨fun i j _ h => (hbB_iff ev j i).1 h, fun i j _ h => ⟨i, (hbB_iff ev j i).2 h, .inl rfl⟩⟩
theorem gen_dep (ev : Nat → Ev) (n : Nat) : Gen ev (fun i j => decide (i < j) && depB (ev i) (ev j)) n := by
  refine ⟨fun i j _ h => ?_, fun i j _ h => ?_⟩
  · simp only [Bool.and_eq_true, decide_eq_true_eq] at h
    exact .dep h.1 h.2
  · obtain ⟨k, h1, h2, h3⟩ := h.last
    exact ⟨k, by simp [h2, h3], h1⟩
theorem Gen.may {ev : Nat → Ev} {R : Nat → Nat → Bool} {n : Nat} (h : Gen ev R n) {out : List Nat} (hd : Dwn ev out) {j : Nat} (hj : j < n) : mayE ev out j = true ↔ j ∉ out ∧ ∀ i, i < n → R i j = true → i ∈ out := by
  rw [mayE_iff]
  constructor
  · rintro ⟨h1, h2⟩
    exact ⟨h1, fun i _ hr => h2 i (h.hb i j hj hr)⟩
  · rintro ⟨h1, h2⟩
    refine ⟨h1, fun i hi => ?_⟩
    obtain ⟨k, hk, h3⟩ := h.gen i j hj hi
    have hkj := (h.hb k j hj hk).lt
    have hko := h2 k (by omega) hk
    rcases h3 with rfl | h3
    · exact hko
    · exact hd i k hko h3
/-- How many are left ahead of it. -/
def lft (R : Nat → Nat → Bool) (out : List Nat) (n j : Nat) : Nat := countN (fun i => R i j && !memB out i) n
theorem countN_pos {p : Nat → Bool} : ∀ n, countN p n = 0 → ∀ i, i < n → p i = false
  | 0, _, i, h => by omega
  | n + 1, h, i, hi => by
    unfold countN at h
    by_cases hp : p n = true
    · rw [hp] at h
      simp at h
    · rw [Bool.not_eq_true] at hp
      rw [hp] at h
      by_cases he : i = n
      · rw [he]
        exact hp
      · exact countN_pos n (by simpa using h) i (by omega)
theorem memB_true {out : List Nat} {i : Nat} : memB out i = true ↔ i ∈ out := by simp [memB]
theorem lft_zero {R : Nat → Nat → Bool} {out : List Nat} {n j : Nat} : lft R out n j = 0 ↔ ∀ i, i < n → R i j = true → i ∈ out := by
  unfold lft
  constructor
  · intro h i hi hr
    have := countN_pos n h i hi
    rw [hr, Bool.true_and, Bool.not_eq_false'] at this
    exact memB_true.1 this
  · intro h
    refine countN_zero n fun i hi => ?_
    by_cases hr : R i j = true
    · rw [memB_true.2 (h i hi hr)]
      simp
    · rw [Bool.not_eq_true] at hr
      rw [hr, Bool.false_and]
theorem lft_snoc {R : Nat → Nat → Bool} {out : List Nat} {n b : Nat} (j : Nat) (hb : b < n) (hn : b ∉ out) : lft R out n j = lft R (out ++ [b]) n j + if R b j = true then 1 else 0 := by
  have key : ∀ m, countN (fun i => R i j && !memB out i) m = countN (fun i => R i j && !memB (out ++ [b]) i) m + if b < m ∧ R b j = true then 1 else 0 := by
    intro m
    induction m with
    | zero => simp [countN]
    | succ m ih =>
      unfold countN
      by_cases hm : m = b
      · subst hm
        have e1 : memB out m = false := by
          cases h : memB out m
          · rfl
          · exact absurd (memB_true.1 h) hn
        have e2 : memB (out ++ [m]) m = true := memB_true.2 (by simp)
        rw [ih, e1, e2, if_neg (show ¬ (m < m ∧ R m j = true) by omega)]
        by_cases hr : R m j = true
        · simp [hr]
        · simp [hr]
      · have e : memB (out ++ [b]) m = memB out m := by
          rw [memB_snoc]
          simp [hm]
        rw [ih, e]
        by_cases hr : R b j = true
        · by_cases hlt : b < m
          · simp only [hr, hlt, and_self, if_true, show b < m + 1 by omega]
            omega
          · have : ¬ b < m + 1 := by omega
            simp only [hlt, this, false_and, if_false]
            omega
        · simp only [hr, and_false, Bool.false_eq_true, if_false]
          omega
  have := key n
  unfold lft
  rw [this]
  by_cases hr : R b j = true <;> simp [hr, hb]
theorem may_snoc {ev : Nat → Ev} {R : Nat → Nat → Bool} {n : Nat} (h : Gen ev R n) {out : List Nat} {b : Nat} (hd : Dwn ev out) (hb : b < n) (hm : mayE ev out b = true) {j : Nat} (hj : j < n) :
    mayE ev (out ++ [b]) j = true ↔ j ≠ b ∧ (mayE ev out j = true ∨ (j ∉ out ∧ R b j = true ∧ lft R out n j = 1)) := by
  have hbo := (mayE_iff.1 hm).1
  rw [h.may (hd.snoc hm) hj, h.may hd hj, ← lft_zero, ← lft_zero]
  have e := lft_snoc (R := R) j hb hbo
  have hmem : j ∉ out ++ [b] ↔ j ∉ out ∧ j ≠ b := by
    rw [List.mem_append, List.mem_singleton]
    constructor
    · intro h
      exact ⟨fun h1 => h (.inl h1), fun h1 => h (.inr h1)⟩
    · rintro ⟨h1, h2⟩ (h3 | h3)
      · exact h1 h3
      · exact h2 h3
  rw [hmem]
  by_cases hr : R b j = true
  · rw [if_pos hr] at e
    constructor
    · rintro ⟨⟨h1, h2⟩, h3⟩
      exact ⟨h2, .inr ⟨h1, hr, by omega⟩⟩
    · rintro ⟨h2, ⟨h1, h3⟩ | ⟨h1, _, h3⟩⟩
      · omega
      · exact ⟨⟨h1, h2⟩, by omega⟩
  · rw [if_neg hr] at e
    constructor
    · rintro ⟨⟨h1, h2⟩, h3⟩
      exact ⟨h2, .inl ⟨h1, by omega⟩⟩
    · rintro ⟨h2, ⟨h1, h3⟩ | ⟨h1, h3, _⟩⟩
      · exact ⟨⟨h1, h2⟩, by omega⟩
      · exact absurd h3 hr
/-- What may come next, each once. -/
structure Rdy (ev : Nat → Ev) (n : Nat) (out H : List Nat) : Prop where
  once : H.Nodup
  mem : ∀ j, j ∈ H ↔ j < n ∧ mayE ev out j = true
theorem Rdy.perm {ev : Nat → Ev} {n : Nat} {out H H' : List Nat} (h : Rdy ev n out H) (hp : H.Perm H') : Rdy ev n out H' := ⟨hp.nodup_iff.1 h.once, fun j => by rw [← hp.mem_iff]; exact h.mem j⟩
theorem Rdy.best {ev : Nat → Ev} {n : Nat} {out H : List Nat} (h : Rdy ev n out H) {b : Nat} (hb : b ∈ H) (hl : ∀ y ∈ H, (ev b).th ≤ (ev y).th) : bestN ev out n = some b := by
  obtain ⟨h1, h2⟩ := (h.mem b).1 hb
  cases hx : bestN ev out n with
  | none => exact absurd hx (bestN_some h1 h2)
  | some c =>
    obtain ⟨c1, c2⟩ := bestN_lt hx
    have h3 := hl c ((h.mem c).2 ⟨c1, c2⟩)
    have h4 := bestN_least hx b h1 h2
    by_cases he : c = b
    · rw [he]
    · have h5 : HB ev c b := .same (by omega) (by omega)
      exact absurd ((mayE_iff.1 h2).2 c h5) (mayE_iff.1 c2).1
theorem Rdy.nil {ev : Nat → Ev} {n : Nat} {out : List Nat} (h : Rdy ev n out []) : ∀ j, j < n → mayE ev out j = false := fun j hj => by
  cases hm : mayE ev out j
  · rfl
  · have := (h.mem j).2 ⟨hj, hm⟩
    simp at this
theorem Rdy.step {ev : Nat → Ev} {R : Nat → Nat → Bool} {n : Nat} (hg : Gen ev R n) {out H : List Nat} {b : Nat} {new : List Nat} (hd : Dwn ev out) (h : Rdy ev n out (b :: H)) (hn : new.Nodup) (hm : ∀ j, j ∈ new ↔ j < n ∧ j ∉ out ∧ R b j = true ∧ lft R out n j = 1) : Rdy ev n (out ++ [b]) (H ++ new) := by
  obtain ⟨hb1, hb2⟩ := (h.mem b).1 (List.mem_cons_self ..)
  have hno := List.nodup_cons.1 h.once
  refine ⟨?_, fun j => ?_⟩
  · rw [List.nodup_append]
    refine ⟨hno.2, hn, fun x hx y hy he => ?_⟩
    subst he
    obtain ⟨h1, h2⟩ := (h.mem x).1 (List.mem_cons_of_mem _ hx)
    obtain ⟨_, _, _, h3⟩ := (hm x).1 hy
    have := lft_zero.2 ((hg.may hd h1).1 h2).2
    omega
  · rw [List.mem_append, hm]
    constructor
    · rintro (h1 | ⟨h1, h2, h3, h4⟩)
      · obtain ⟨h2, h3⟩ := (h.mem j).1 (List.mem_cons_of_mem _ h1)
        refine ⟨h2, (may_snoc hg hd hb1 hb2 h2).2 ⟨fun he => hno.1 (by rw [← he]; exact h1), .inl h3⟩⟩
      · refine ⟨h1, (may_snoc hg hd hb1 hb2 h1).2 ⟨fun he => ?_, .inr ⟨h2, h3, h4⟩⟩⟩
        subst he
        have := (hg.hb j j h1 h3).lt
        omega
    · rintro ⟨h1, h2⟩
      obtain ⟨h3, h4 | ⟨h4, h5, h6⟩⟩ := (may_snoc hg hd hb1 hb2 h1).1 h2
      · rcases List.mem_cons.1 ((h.mem j).2 ⟨h1, h4⟩) with h5 | h5
        · exact absurd h5 h3
        · exact .inl h5
      · exact .inr ⟨h1, h4, h5, h6⟩
theorem rdy_start {ev : Nat → Ev} {R : Nat → Nat → Bool} {n : Nat} (hg : Gen ev R n) : Rdy ev n [] ((List.range n).filter fun j => decide (lft R [] n j = 0)) := by
  refine ⟨List.Pairwise.filter _ List.nodup_range, fun j => ?_⟩
  rw [List.mem_filter, List.mem_range, decide_eq_true_eq, lft_zero]
  constructor
  · rintro ⟨h1, h2⟩
    exact ⟨h1, (hg.may (Dwn.nil ev) h1).2 ⟨by simp, h2⟩⟩
  · rintro ⟨h1, h2⟩
    exact ⟨h1, ((hg.may (Dwn.nil ev) h1).1 h2).2⟩
end Go.Proofs.Ytbamocalhojmeaa
