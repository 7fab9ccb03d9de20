/- Joined texts of the proof. -/
import Derived.Test.YtmkhobaclpiceaaJ9
import Derived.Test.YtmkhobaclpiceaaJ12
import Derived.Test.YtmkhobaclpiceaaJ13

/- Clocks of any order: what lock clocks tell, and what is parted from an event. Mathematics alone. -/
namespace Go.Proofs.Ytmkhobaclpiceaa
set_option linter.unusedVariables false

theorem hrB_false {R : Nat → Nat → Bool} {j i : Nat} (h : j ≤ i) : hrB R j i = false := by
  rw [Bool.eq_false_iff]
  intro h1
  have := ((hrB_iff R j i).1 h1).lt
  omega
/-- A clock of any order. -/
def clkR (R : Nat → Nat → Bool) (th : Nat → Int) (j : Nat) (t : Int) : Nat := countN (fun i => decide (th i = t) && (decide (i = j) || hrB R j i)) (j + 1)
theorem clkR_far (R : Nat → Nat → Bool) (th : Nat → Int) (i n : Nat) (t : Int) (h : i < n) : clkR R th i t = countN (fun k => decide (th k = t) && (decide (k = i) || hrB R i k)) n := by
  refine (countN_more (i + 1) n (by omega) fun k h1 h2 => ?_).symm
  rw [show decide (k = i) = false from decide_eq_false (by omega), hrB_false (by omega)]
  simp
theorem clkR_le {R : Nat → Nat → Bool} {th : Nat → Int} {i j : Nat} (h : HR R i j) (t : Int) : clkR R th i t ≤ clkR R th j t := by
  rw [clkR_far R th i (j + 1) t (by have := h.lt; omega), clkR]
  refine countN_mono (j + 1) fun k hk h2 => ?_
  simp only [Bool.and_eq_true, decide_eq_true_eq, Bool.or_eq_true] at h2 ⊢
  refine ⟨h2.1, .inr ((hrB_iff R j k).2 ?_)⟩
  rcases h2.2 with rfl | h3
  · exact h
  · exact ((hrB_iff R i k).1 h3).trans h
theorem clkR_tells {R : Nat → Nat → Bool} {th : Nat → Int} (hS : ∀ i j, i < j → th i = th j → R i j = true) (i j : Nat) (hij : i < j) : clkR R th i (th i) ≤ clkR R th j (th i) ↔ HR R i j := by
  constructor
  · intro hle
    rw [clkR_far R th i (j + 1) _ (by omega), clkR] at hle
    apply Classical.byContradiction
    intro hn
    have : countN (fun k => decide (th k = th i) && (decide (k = j) || hrB R j k)) (j + 1) < countN (fun k => decide (th k = th i) && (decide (k = i) || hrB R i k)) (j + 1) := by
      refine countN_lt (j + 1) (fun k hk h => ?_) i (by omega) ?_ ?_
      · simp only [Bool.and_eq_true, decide_eq_true_eq, Bool.or_eq_true] at h ⊢
        refine ⟨h.1, ?_⟩
        rcases h.2 with rfl | h2
        · exact absurd (.dep hij (hS _ _ hij h.1.symm)) hn
        · have hk2 := (hrB_iff R j k).1 h2
          rcases Nat.lt_trichotomy k i with h3 | h3 | h3
          · exact .inr ((hrB_iff R i k).2 (.dep h3 (hS _ _ h3 h.1)))
          · exact .inl h3
          · exact absurd ((HR.dep h3 (hS _ _ h3 h.1.symm)).trans hk2) hn
      · simp only [Bool.and_eq_false_iff, Bool.or_eq_false_iff, decide_eq_false_iff_not]
        right
        exact ⟨by omega, Bool.eq_false_iff.2 fun h => hn ((hrB_iff R j i).1 h)⟩
      · simp
    omega
  · intro h
    exact clkR_le h _
/-- A clock is the greatest of those just ahead, and one more for its own thread. -/
theorem clkR_step {R : Nat → Nat → Bool} {th : Nat → Int} (hS : ∀ i j, i < j → th i = th j → R i j = true) (j : Nat) (t : Int) :
    clkR R th j t = maxN (fun i => clkR R th i t) (fun i => R i j) j + (if th j = t then 1 else 0) := by
  have e1 : clkR R th j t = countN (fun i => decide (th i = t) && hrB R j i) j + (if th j = t then 1 else 0) := by
    rw [clkR, countN]
    congr 1
    · refine countN_congr j fun i hi => ?_
      rw [show decide (i = j) = false from decide_eq_false (by omega), Bool.false_or]
    · by_cases h : th j = t <;> simp [h]
  rw [e1]
  congr 1
  apply Nat.le_antisymm
  · by_cases hex : ∃ i, i < j ∧ (decide (th i = t) && hrB R j i) = true
    · obtain ⟨m, h1, h2, h3⟩ := last_of j hex
      simp only [Bool.and_eq_true, decide_eq_true_eq] at h2
      obtain ⟨k, h4, h5, h6⟩ := ((hrB_iff R j m).1 h2.2).last
      refine Nat.le_trans ?_ (le_maxN j k h5 h6)
      show _ ≤ clkR R th k t
      rw [clkR_far R th k j t h5]
      refine countN_mono j fun i hi h => ?_
      simp only [Bool.and_eq_true, decide_eq_true_eq, Bool.or_eq_true] at h ⊢
      refine ⟨h.1, ?_⟩
      have him : i ≤ m := by
        apply Decidable.byContradiction
        intro hn
        have := h3 i (by omega) hi
        rw [h.1, decide_eq_true rfl, h.2] at this
        cases this
      rcases Nat.lt_or_ge i m with h8 | h8
      · have h9 : HR R i m := .dep h8 (hS _ _ h8 (h.1.trans h2.1.symm))
        rcases h4 with rfl | h10
        · exact .inr ((hrB_iff R m i).2 h9)
        · exact .inr ((hrB_iff R k i).2 (h9.trans h10))
      · obtain rfl : i = m := by omega
        rcases h4 with rfl | h10
        · exact .inl rfl
        · exact .inr ((hrB_iff R k i).2 h10)
    · rw [countN_zero j fun i hi => Bool.eq_false_iff.2 fun h => hex ⟨i, hi, h⟩]
      exact Nat.zero_le _
  · refine maxN_le j fun i hi hd => ?_
    show clkR R th i t ≤ _
    rw [clkR_far R th i j t hi]
    refine countN_mono j fun k hk h2 => ?_
    simp only [Bool.and_eq_true, decide_eq_true_eq, Bool.or_eq_true] at h2 ⊢
    refine ⟨h2.1, (hrB_iff R j k).2 ?_⟩
    rcases h2.2 with rfl | h3
    · exact .dep hi hd
    · exact ((hrB_iff R i k).1 h3).trans (.dep hi hd)
/-! Lock clocks as numbers. -/
theorem lockR_same {ev : Nat → Ev} : ∀ i j, i < j → (ev i).th = (ev j).th → lockR ev i j = true := fun i j _ h => by simp [lockR, h]
def lkc (ev : Nat → Ev) (j : Nat) (t : Int) : Nat := clkR (lockR ev) (fun i => (ev i).th) j t
def lkL (ev : Nat → Ev) (n j : Nat) : List Int := (List.range n).map fun (t : Nat) => ((lkc ev j (t : Int) : Nat) : Int)
theorem lkL_length (ev : Nat → Ev) (n j : Nat) : (lkL ev n j).length = n := by simp [lkL]
theorem lkL_at {ev : Nat → Ev} {n j t : Nat} (h : t < n) : (lkL ev n j)[t]? = some ((lkc ev j (t : Int) : Nat) : Int) := by simp [lkL, h]
/-- The clock under way: of the events below k. -/
def lkM (ev : Nat → Ev) (n j k : Nat) : List Int := (List.range n).map fun (t : Nat) => ((maxN (fun i => lkc ev i (t : Int)) (fun i => lockR ev i j) k : Nat) : Int)
theorem lkM_length (ev : Nat → Ev) (n j k : Nat) : (lkM ev n j k).length = n := by simp [lkM]
theorem lkM_at {ev : Nat → Ev} {n j k t : Nat} (h : t < n) : (lkM ev n j k)[t]? = some ((maxN (fun i => lkc ev i (t : Int)) (fun i => lockR ev i j) k : Nat) : Int) := by simp [lkM, h]
theorem lkM_zero (ev : Nat → Ev) (n j : Nat) : lkM ev n j 0 = List.replicate n 0 := by
  unfold lkM
  simp only [maxN]
  simp [List.map_const']
theorem lkM_no {ev : Nat → Ev} {n j k : Nat} (h : lockR ev k j = false) : lkM ev n j (k + 1) = lkM ev n j k := by
  unfold lkM
  simp [maxN, h]
theorem lkM_yes {ev : Nat → Ev} {n j k : Nat} (h : lockR ev k j = true) : lkM ev n j (k + 1) = gatL (lkM ev n j k) (lkL ev n k) := by
  apply List.ext_getElem?
  intro t
  rcases Nat.lt_or_ge t n with ht | ht
  · rw [lkM_at ht, gat_at (lkM_at ht) (lkL_at ht), maxN, if_pos h]
    congr 1
    omega
  · rw [List.getElem?_eq_none (by rw [lkM_length]; exact ht), List.getElem?_eq_none]
    simp only [gatL, List.length_zipWith, lkM_length, lkL_length]
    omega
theorem lkM_done {ev : Nat → Ev} {n j s : Nat} (hs : (ev j).th = (s : Int)) (hn : s < n) (v : Int) (hv : (lkM ev n j j)[s]? = some v) : (lkM ev n j j).set s (v + 1) = lkL ev n j := by
  rw [lkM_at hn] at hv
  cases hv
  apply List.ext_getElem?
  intro t
  rcases Nat.lt_or_ge t n with ht | ht
  · rw [lkL_at ht]
    have e := clkR_step (lockR_same (ev := ev)) j (t : Int)
    show _ = some ((clkR (lockR ev) (fun i => (ev i).th) j (t : Int) : Nat) : Int)
    by_cases hts : t = s
    · subst hts
      rw [List.getElem?_set_self (by rw [lkM_length]; exact ht), e, if_pos hs]
      rfl
    · rw [List.getElem?_set_ne (fun h => hts h.symm), lkM_at ht, e, if_neg (by rw [hs]; omega)]
      rfl
  · rw [List.getElem?_eq_none (by simp [lkM]; exact ht), List.getElem?_eq_none (by rw [lkL_length]; exact ht)]
theorem lkc_tells (ev : Nat → Ev) (p q : Nat) : (decide (p < q) && decide (((lkc ev p (ev p).th : Nat) : Int) ≤ ((lkc ev q (ev p).th : Nat) : Int))) = hrB (lockR ev) q p := by
  rw [Bool.eq_iff_iff, hrB_iff]
  simp only [Bool.and_eq_true, decide_eq_true_eq]
  constructor
  · rintro ⟨h1, h2⟩
    exact (clkR_tells (lockR_same (ev := ev)) p q h1).1 (by unfold lkc at h2; omega)
  · intro h
    exact ⟨h.lt, by have := (clkR_tells (lockR_same (ev := ev)) p q h.lt).2 h; unfold lkc; omega⟩
theorem lkc_le (ev : Nat → Ev) (j : Nat) (t : Int) : lkc ev j t ≤ j + 1 := countN_le _ _
theorem clk_le' (ev : Nat → Ev) (j : Nat) (t : Int) : clk ev j t ≤ j + 1 := countN_le _ _
/-! What is parted. -/
def pst (ev : Nat → Ev) (j : Nat) (t : Int) : Nat := clk ev j t - (if (ev j).th = t then 1 else 0)
def pstL (ev : Nat → Ev) (n j : Nat) : List Int := (List.range n).map fun (t : Nat) => ((pst ev j (t : Int) : Nat) : Int)
theorem pstL_length (ev : Nat → Ev) (n j : Nat) : (pstL ev n j).length = n := by simp [pstL]
theorem pstL_at {ev : Nat → Ev} {n j t : Nat} (h : t < n) : (pstL ev n j)[t]? = some ((pst ev j (t : Int) : Nat) : Int) := by simp [pstL, h]
theorem pst_own (ev : Nat → Ev) (j : Nat) : 1 ≤ clk ev j (ev j).th := by rw [clk_own]; omega
theorem pstL_of {ev : Nat → Ev} {n j s : Nat} (hs : (ev j).th = (s : Int)) (hn : s < n) (v : Int) (hv : (clkL ev n j)[s]? = some v) : (clkL ev n j).set s (v - 1) = pstL ev n j := by
  rw [clkL_at hn] at hv
  cases hv
  have h1 := pst_own ev j
  rw [hs] at h1
  apply List.ext_getElem?
  intro t
  rcases Nat.lt_or_ge t n with ht | ht
  · rw [pstL_at ht, pst]
    by_cases hts : t = s
    · subst hts
      rw [List.getElem?_set_self (by rw [clkL_length]; exact ht), if_pos hs]
      congr 1
      omega
    · rw [List.getElem?_set_ne (fun h => hts h.symm), clkL_at ht, if_neg (by rw [hs]; omega)]
      rfl
  · rw [List.getElem?_eq_none (by simp [clkL]; exact ht), List.getElem?_eq_none (by rw [pstL_length]; exact ht)]
/-- An event is within a past just if it happens ahead. -/
theorem pst_tells (ev : Nat → Ev) (i k : Nat) : clk ev i (ev i).th ≤ pst ev k (ev i).th ↔ HB ev i k := by
  have ho := clk_own ev i
  rcases Nat.lt_trichotomy i k with h | h | h
  · rw [← clk_tells ev i k h, pst]
    by_cases ht : (ev k).th = (ev i).th
    · rw [if_pos ht]
      have hk := clk_own ev k
      rw [ht] at hk
      have : countN (fun x => decide ((ev x).th = (ev i).th)) i < countN (fun x => decide ((ev x).th = (ev i).th)) k := by
        have h1 : countN (fun x => decide ((ev x).th = (ev i).th)) (i + 1) = countN (fun x => decide ((ev x).th = (ev i).th)) i + 1 := by simp [countN]
        have h2 : ∀ d, countN (fun x => decide ((ev x).th = (ev i).th)) (i + 1) ≤ countN (fun x => decide ((ev x).th = (ev i).th)) (i + 1 + d) := by
          intro d
          induction d with
          | zero => exact Nat.le_refl _
          | succ d ih => exact Nat.le_trans ih (by rw [← Nat.add_assoc, countN]; omega)
        have h3 := h2 (k - (i + 1))
        rw [show i + 1 + (k - (i + 1)) = k by omega] at h3
        omega
      omega
    · rw [if_neg ht, Nat.sub_zero]
  · subst h
    rw [pst, if_pos rfl]
    constructor
    · intro h; omega
    · intro h; exact absurd h.lt (by omega)
  · constructor
    · intro hle
      exfalso
      have h1 : clk ev k (ev i).th < clk ev i (ev i).th := by
        rw [clk_far ev k (i + 1) _ (by omega), clk]
        refine countN_lt (i + 1) (fun x hx h2 => ?_) i (by omega) ?_ ?_
        · simp only [Bool.and_eq_true, decide_eq_true_eq, Bool.or_eq_true] at h2 ⊢
          refine ⟨h2.1, ?_⟩
          by_cases hxi : x = i
          · exact .inl hxi
          · exact .inr ((hbB_iff ev i x).2 (HB.same (by omega) h2.1))
        · have : hbB ev k i = false := by
            rw [Bool.eq_false_iff]
            intro h3
            have := ((hbB_iff ev k i).1 h3).lt
            omega
          rw [this, decide_eq_false (by omega : ¬ i = k)]
          simp
        · simp
      unfold pst at hle
      omega
    · intro h2; exact absurd h2.lt (by omega)
theorem gat_len {xs ys : List Int} : (gatL xs ys).length = min xs.length ys.length := by simp [gatL]
/-- What Next tells of pasts, of another thread. -/
def parM (ev : Nat → Ev) (n : Nat) (e : Ev) (K : Nat) : List Int := (List.range n).map fun (t : Nat) => ((maxN (fun i => pst ev i (t : Int)) (fun i => depB (ev i) e) K : Nat) : Int)
theorem parM_at {ev : Nat → Ev} {n : Nat} {e : Ev} {K t : Nat} (h : t < n) : (parM ev n e K)[t]? = some ((maxN (fun i => pst ev i (t : Int)) (fun i => depB (ev i) e) K : Nat) : Int) := by simp [parM, h]
theorem flS_pst (ev : Nat → Ev) (n : Nat) (e : Ev) : ∀ K, ∃ f m, flS (pstL ev n) ev e (List.replicate n 0) K = (parM ev n e K, m, f) ∧ (f = true → ∀ i, i < K → depB (ev i) e = false)
  | 0 => ⟨true, 0, by
      rw [flS, parM]
      simp only [maxN]
      refine Prod.ext ?_ rfl
      simp [List.map_const'], fun _ i hi => by omega⟩
  | K + 1 => by
    obtain ⟨f, m, h1, h2⟩ := flS_pst ev n e K
    by_cases hd : depB (ev K) e = true
    · refine ⟨false, m + (if (ev K).th = e.th then 1 else 0), ?_, fun h => by cases h⟩
      rw [flS, if_pos hd, h1]
      dsimp only
      refine Prod.ext ?_ rfl
      dsimp only
      apply List.ext_getElem?
      intro t
      rcases Nat.lt_or_ge t n with ht | ht
      · rw [parM_at ht, maxN, if_pos hd]
        cases f
        · rw [if_neg Bool.false_ne_true, gat_at (parM_at ht) (pstL_at ht)]
          congr 1
          omega
        · rw [if_pos rfl, gat_at (pstL_at ht) (pstL_at ht), maxN_none K (h2 rfl)]
          congr 1
          omega
      · rw [List.getElem?_eq_none (l := parM ev n e (K + 1)) (by simp [parM]; exact ht), List.getElem?_eq_none]
        simp only [gatL, List.length_zipWith, pstL_length]
        omega
    · refine ⟨f, m, ?_, fun hf i hi => ?_⟩
      · rw [flS, if_neg hd, h1]
        have e1 : parM ev n e (K + 1) = parM ev n e K := by
          unfold parM
          simp only [maxN, if_neg hd]
        rw [e1]
      · by_cases hiK : i = K
        · subst hiK; exact Bool.eq_false_iff.2 hd
        · exact h2 hf i (by omega)
/-- The row that Next tells of event j behind pasts. -/
def parL (es : List Ev) (n j : Nat) : List Int := flZ ((List.range j).map (pstL (evAt es) n)) (es.take j) (evAt es j) (List.replicate n 0)
theorem evAt_take {es : List Ev} {j i : Nat} (h : i < j) : evAt (es.take j) i = evAt es i := by simp [evAt, List.getD, List.getElem?_take_of_lt h]
theorem parL_eq (es : List Ev) (n j : Nat) (hj : j < es.length) : ∃ m : Int, parL es n j = (parM (evAt es) n (evAt es j) j).set (evAt es j).th.toNat m := by
  unfold parL flZ
  rw [List.length_take, Nat.min_eq_left (by omega), flS_congr (c' := pstL (evAt es) n) (ev' := evAt es) j fun i hi => ⟨by simp [List.getD, hi], evAt_take hi⟩]
  obtain ⟨f, m, h1, _⟩ := flS_pst (evAt es) n (evAt es j) j
  rw [h1]
  exact ⟨_, rfl⟩
theorem parL_length (es : List Ev) (n j : Nat) (hj : j < es.length) : (parL es n j).length = n := by
  obtain ⟨m, h⟩ := parL_eq es n j hj
  rw [h, List.length_set]
  simp [parM]
theorem parL_at (es : List Ev) (n j t : Nat) (hj : j < es.length) (ht : t < n) (h0 : 0 ≤ (evAt es j).th) (hne : (t : Int) ≠ (evAt es j).th) : (parL es n j)[t]? = some ((maxN (fun i => pst (evAt es) i (t : Int)) (fun i => depB (evAt es i) (evAt es j)) j : Nat) : Int) := by
  obtain ⟨m, h⟩ := parL_eq es n j hj
  rw [h, List.getElem?_set_ne (by omega), parM_at ht]
/-- A race just if the first one's own number is beyond what is parted from the second. -/
theorem race_tells (ev : Nat → Ev) (i j : Nat) (h1 : (ev i).th ≠ (ev j).th) (h2 : depB (ev i) (ev j) = true) : decide (((clk ev i (ev i).th : Nat) : Int) > ((maxN (fun k => pst ev k (ev i).th) (fun k => depB (ev k) (ev j)) j : Nat) : Int)) = raceP ev j i := by
  have e : raceP ev j i = !btw ev i j j := by
    unfold raceP
    rw [decide_eq_false h1, h2]
    simp
  rw [e]
  have h3 : btw ev i j j = true ↔ clk ev i (ev i).th ≤ maxN (fun k => pst ev k (ev i).th) (fun k => depB (ev k) (ev j)) j := by
    rw [btw_iff]
    constructor
    · rintro ⟨x, h4, h5⟩
      obtain ⟨k, h6, h7, h8⟩ := h5.last
      refine Nat.le_trans ?_ (le_maxN j k h7 h8)
      show _ ≤ pst ev k (ev i).th
      rw [pst_tells]
      rcases h6 with rfl | h6
      · exact h4
      · exact h4.trans h6
    · intro h4
      apply Classical.byContradiction
      intro hn
      have h5 : maxN (fun k => pst ev k (ev i).th) (fun k => depB (ev k) (ev j)) j ≤ clk ev i (ev i).th - 1 := maxN_le j fun k hk hd => by
        apply Decidable.byContradiction
        intro h6
        have h7 : clk ev i (ev i).th ≤ pst ev k (ev i).th := by
          have : ¬ pst ev k (ev i).th ≤ clk ev i (ev i).th - 1 := h6
          omega
        exact hn ⟨k, (pst_tells ev i k).1 h7, .dep hk hd⟩
      have := pst_own ev i
      omega
  cases hb : btw ev i j j
  · have : ¬ clk ev i (ev i).th ≤ _ := fun h => by rw [h3.2 h] at hb; cases hb
    simp only [Bool.not_false, decide_eq_true_eq]
    omega
  · have := h3.1 hb
    simp only [Bool.not_true, decide_eq_false_iff_not]
    omega
/-- Bound pairs. -/
def bndP (ev : Nat → Ev) (j i : Nat) : Bool := !decide ((ev i).th = (ev j).th) && depB (ev i) (ev j)
theorem data_tells (ev : Nat → Ev) (i j : Nat) (h : bndP ev j i = true) : (varB (ev i) && !hrB (lockR ev) j i) = dataP ev j i := by
  unfold bndP at h
  simp only [Bool.and_eq_true, Bool.not_eq_true', decide_eq_false_iff_not] at h
  obtain ⟨h1, h2⟩ := h
  unfold dataP
  rw [decide_eq_false h1, h2]
  cases hv : varB (ev i)
  · simp
  · have : varB (ev j) = true := by
      unfold depB at h2
      unfold varB at hv ⊢
      rw [decide_eq_false h1] at h2
      simp only [Bool.false_or, Bool.and_eq_true, Bool.or_eq_true, decide_eq_true_eq] at h2 hv ⊢
      omega
    rw [this]
    simp
end Go.Proofs.Ytmkhobaclpiceaa

/- clock.Next, where it tells a clock. -/
namespace Go.Proofs.Ytmkhobaclpiceaa
open Go.RowKit
set_option linter.unusedVariables false
attribute [local go_sem ↓] Go.wp_at_zero Go.wp_at_succ

theorem RowII.far {w u : World} {a : Option Addr} {xs : List (List Int)} {n g lo hi : Nat} (h : RowII w a xs) (hl : ∀ zs ∈ xs, zs.length = n) (hn : 0 < n) (hg : w.heap.size ≤ g) (hb : Below w.heap.size w u) : RowF u a xs n g lo hi := by
  rcases h with h | ⟨G, O, ha, hr⟩
  · exact .inl h
  rcases Nat.eq_zero_or_pos xs.length with h0 | h0
  · exact .inl (List.length_eq_zero_iff.1 h0)
  obtain ⟨b0, c0, k1, _⟩ := hr 0 _ (List.getElem?_eq_getElem h0)
  have hG : G < w.heap.size := lt_of_cell k1
  refine .inr ⟨G, O, ha, by omega, fun i zs hz => ?_⟩
  obtain ⟨b, c, h1, h2, h3, h4⟩ := hr i zs hz
  have hzl := hl zs (List.mem_of_getElem? hz)
  rw [hzl] at h1 h3
  refine ⟨b, c, (hb.cell (lt_of_cell h1)).trans h1, h2.below hb, h3, hzl, fun g' o' hb' => .inl ?_⟩
  obtain ⟨g2, o2, e2, e3⟩ := h2.at 0 _ (List.getElem?_eq_getElem (by omega))
  rw [hb'] at e2
  cases e2
  have : g' < w.heap.size := lt_of_cell e3
  omega
theorem any_oth {xs : List (List Int)} {n : Nat} (hl : ∀ zs ∈ xs, zs.length = n) : xs.any (othC n) = false := by
  rw [Bool.eq_false_iff]
  intro h
  obtain ⟨z, hz, h⟩ := List.any_eq_true.1 h
  unfold othC at h
  rw [hl z hz] at h
  simp at h

set_option maxRecDepth 100000 in
set_option maxHeartbeats 3200000 in
theorem next_ok (xs : List (List Int)) (es : List Ev) (e : Ev) (n : Nat) (a1 a2 : Option Addr) (c1 c2 : Nat) (w : World) (hX : RowII w a1 xs) (hl : ∀ zs ∈ xs, zs.length = n) (hxl : xs.length = es.length) (hE : RowEv w a2 es) (hEg : ∀ G O, a2 = some ⟨G, O, none⟩ → G < w.heap.size) (hok : ∀ x ∈ es, x.ok) (heo : e.ok) (hw : wrongZ (es ++ [e]) n = 0) (hk1 : es.length ≤ c1) (hk2 : es.length ≤ c2) :
    Calls Try.prog 59 #[.slice a1 es.length c1, .slice a2 es.length c2, .int .i64 n, .agg e.cells.toArray] w fun r w' => ∃ g, r = .returned (.tuple #[.slice (some ⟨g, 0, none⟩) n n, .int .i64 0]) ∧ WrI w' g 0 (flZ xs es e (List.replicate n 0)) ∧ w.heap.size ≤ g ∧ Below w.heap.size w w' := by
  obtain ⟨h1, h2, h3, h4⟩ := wrongZ_ok hw
  obtain ⟨i0, hi, hz0, hz1, hz2⟩ := info_parts Try.info3
  have hn1 : 0 < n := by omega
  have hn2 : n ≤ 16 := by omega
  have hlen : es.length ≤ 1023 := by rw [List.length_append] at h3; simp at h3; exact h3
  have het := h4 e (by simp)
  have HB : Hid (∀ u v, Below w.heap.size w u → Below u.heap.size u v → Below w.heap.size w v) := fun u v h1 h2 => h1.trans (h2.mono h1.size)
  have HR : Hid (∀ u gb, Below w.heap.size w u → RowEv u (some ⟨gb, 0, none⟩) [e] → Calls Try.prog 39 #[.int .i64 n, .slice a2 es.length c2, .slice (some ⟨gb, 0, none⟩) 1 1] u fun r w' => r = .returned (.int .i64 0) ∧ Below u.heap.size u w') := fun u gb hu hr => by
    have := refused_any es [e] n a2 (some ⟨gb, 0, none⟩) c2 1 u (hE.below hu) hr (by omega) (by simp) hk2 (by simp)
    rwa [hw] at this
  have HY : Hid (∀ u gb, Below w.heap.size w u → u.cell? ⟨gb, 0, none⟩ = some (.int .i64 n) → Calls Try.prog 63 #[.slice a1 es.length c1, fnOth gb] u fun r w' => r = .returned (.bool false) ∧ Below u.heap.size u w') := fun u gb hu hc => by
    have := anyII_any xs n gb a1 c1 u hc (hX.below hu) (by omega) (by omega)
    rwa [any_oth hl, hxl] at this
  obtain ⟨Z, hZ⟩ : ∃ Z, Hid (Z = flZ xs es e (List.replicate n 0)) := ⟨_, (rfl : _ = flZ _ _ _ _)⟩
  rw [← hZ.out]
  have HF : Hid (∀ u g, Below w.heap.size w u → w.heap.size ≤ g → WrI u g 0 (List.replicate n 0) → Calls Try.prog 57 #[.slice (some ⟨g, 0, none⟩) n n, .slice a1 es.length c1, .slice a2 es.length c2, .agg e.cells.toArray] u fun r w' => r = .returned (.tuple #[]) ∧ WrI w' g 0 Z ∧ Ovr g 0 (0 + n) u w') := fun u g hu hg hW => by
    rw [hZ.out]
    exact fill_any g 0 n n (List.replicate n 0) a1 c1 xs a2 c2 es e u hW (by simp) hn1 hn2 (hX.far hl hn1 hg hu) hxl (hE.below hu) (fun G O h => by have := hEg G O h; omega) hok heo het.1 het.2 (by omega) (Nat.le_refl _) hk1 hk2
  obtain ⟨m, hm⟩ : ∃ m, m = es.length := ⟨_, rfl⟩
  rw [← hm] at HR HY HF hk1 hk2 hlen ⊢
  clear hX hl hE hEg hok heo hw h1 h2 h3 h4 het hZ hm
  obtain ⟨et, ek, eo⟩ := e
  simp only [Ev.cells] at HF ⊢
  unfold fnOth at HY
  go_enter Try.func59, Try.ntmps59
  go_wp2_with (first | (refine wpList_box_at rfl 24 (.tmp 3) rfl [.int .i64 et, .int .i64 ek, .int .i64 eo] rfl ?_; intro w1 hA1 hb1 hs1; refine Hid.out ?_))
  refine hidU ?_
  obtain ⟨wa, hwa⟩ : ∃ wa, wa = w.alloc (.cells #[.int .i64 n] 3) := ⟨_, rfl⟩
  have hsa : wa.heap.size = w.heap.size + 1 := by rw [hwa]; simp
  have hba : Below w.heap.size w wa := by rw [hwa]; exact (Below.refl _ w).alloc (Nat.le_refl _) _
  have hca : wa.cell? ⟨w.heap.size, 0, none⟩ = some (.int .i64 n) := by rw [hwa]; unfold World.cell?; rw [heap_new]; rfl
  rw [← hwa] at hA1 hb1 hs1
  rw [hsa] at hA1 hs1
  clear hwa
  have hB1 : Hid (Below w.heap.size w w1) := HB.out _ _ hba hb1
  have c1' : w1.cell? ⟨w.heap.size, 0, none⟩ = some (.int .i64 n) := (hb1.cell (lt_of_cell hca)).trans hca
  have y0 : w1.cell? ⟨w.heap.size + 1, 0, none⟩ = some (.int .i64 et) := hA1.cell 0
  have y1 : w1.cell? ⟨w.heap.size + 1, 1, none⟩ = some (.int .i64 ek) := hA1.cell 1
  have y2 : w1.cell? ⟨w.heap.size + 1, 2, none⟩ = some (.int .i64 eo) := hA1.cell 2
  have HA1 : Hid (At 24 w1 (w.heap.size + 1) [.int .i64 et, .int .i64 ek, .int .i64 eo]) := hA1
  clear hA1 hb1 hs1 hsa hba hca
  go_wp2_with fail
  have hbb : Below w1.heap.size w1 (w1.alloc (.cells #[.int .i64 et, .int .i64 ek, .int .i64 eo] 24)) := (Below.refl _ w1).alloc (Nat.le_refl _) _
  have hrb : RowEv (w1.alloc (.cells #[.int .i64 et, .int .i64 ek, .int .i64 eo] 24)) (some ⟨w1.heap.size, 0, none⟩) [⟨et, ek, eo⟩] := by
    refine .inr ⟨w1.heap.size, 0, rfl, fun i x hx j v hj => ?_⟩
    have hi0 : i = 0 := by have := (List.getElem?_eq_some_iff.1 hx).1; simpa using this
    subst hi0
    simp at hx
    subst hx
    rw [Nat.zero_mul, Nat.zero_add]
    unfold World.cell?
    rw [heap_new]
    simpa [Ev.cells] using hj
  refine (HR.out _ w1.heap.size (HB.out _ _ hB1.out hbb) hrb).mono ?_
  rintro _ w2 ⟨rfl, hb2⟩
  have hb12 : Below w1.heap.size w1 w2 := hbb.trans (hb2.mono hbb.size)
  have hB2 : Hid (Below w.heap.size w w2) := HB.out _ _ hB1.out hb12
  have c2' : w2.cell? ⟨w.heap.size, 0, none⟩ = some (.int .i64 n) := (hb12.cell (lt_of_cell c1')).trans c1'
  have HA2 : Hid (At 24 w2 (w.heap.size + 1) [.int .i64 et, .int .i64 ek, .int .i64 eo]) := HA1.out.below hb12
  clear hbb hrb hb2 hb12 HA1 hB1 HR c1' y0 y1 y2
  go_wp2_with (go_at_call 63; refine (HY.out _ _ hB2.out c2').mono ?_; rintro _ w3 ⟨rfl, hb3⟩; refine Hid.out ?_)
  refine hidU ?_
  have c3' : w3.cell? ⟨w.heap.size, 0, none⟩ = some (.int .i64 n) := (hb3.cell (lt_of_cell c2')).trans c2'
  have hB3 : Hid (Below w.heap.size w w3) := HB.out _ _ hB2.out hb3
  have HA3 : Hid (At 24 w3 (w.heap.size + 1) [.int .i64 et, .int .i64 ek, .int .i64 eo]) := HA2.out.below hb3
  clear hb3 c2' hB2 HA2 HY
  go_wp2_with (at_make; refine wpList_make_full _ rfl (.tmp 32) (.tmp 32) 32 rfl w3.heap.size 3 i0 (.int .i64 0) 1 Try.underlying32 hi hz0 hz1 .i64 .i64 _ _ n rfl rfl rfl rfl (by rw [hz2]; omega) (by unfold maxLen; omega) (Nat.le_refl _) ?_)
  intro w4 hown4 hgrow4
  have hb4 : Below w3.heap.size w3 w4 := (Below.refl _ w3).grown hgrow4 (Nat.le_refl _) (by intro k hk; cases hk)
  have hW4 : Hid (WrI w4 w3.heap.size 0 (List.replicate n 0)) := by
    obtain ⟨_, ⟨h, _⟩ | ⟨g, cp, cur, h, hg, hh, _, _, hs, ht⟩⟩ := hown4
    · cases h
    · cases h
      have hcur : cur.toList = (madeCells #[Value.int .i64 0] n).toList := by rw [← ht, List.take_of_length_le (by simp [hs])]
      refine ⟨cur.toList, by unfold BlkI; rw [hh], fun k z hz => ?_⟩
      have htn : k < n := by have := (List.getElem?_eq_some_iff.1 hz).1; simpa using this
      rw [List.getElem?_replicate, if_pos htn] at hz
      cases hz
      rw [hcur, toList_madeCells_one, List.getElem?_replicate, if_pos (by omega)]
  have hB4 : Hid (Below w.heap.size w w4) := HB.out _ _ hB3.out hb4
  have hA4 := HA3.out.below hb4
  have y0 : w4.cell? ⟨w.heap.size + 1, 0, none⟩ = some (.int .i64 et) := hA4.cell 0
  have y1 : w4.cell? ⟨w.heap.size + 1, 1, none⟩ = some (.int .i64 ek) := hA4.cell 1
  have y2 : w4.cell? ⟨w.heap.size + 1, 2, none⟩ = some (.int .i64 eo) := hA4.cell 2
  have hg3 : w.heap.size ≤ w3.heap.size := hB3.out.size
  clear hown4 hgrow4 hb4 hA4 HA3 c3'
  obtain ⟨g, hg⟩ : ∃ g, g = w3.heap.size := ⟨_, rfl⟩
  rw [← hg] at hg3 hW4 ⊢
  clear hB3 hg
  go_wp2_with (go_at_call 57; refine (HF.out _ _ hB4.out hg3 hW4.out).mono ?_; rintro _ w5 ⟨rfl, hW5, hO5⟩; refine Hid.out ?_)
  refine hidU ?_
  have hB5 : Hid (Below w.heap.size w w5) := hO5.below hB4.out hg3 hB4.out.size
  have hW5' : Hid (WrI w5 g 0 Z) := hW5
  clear hW5 hO5 hW4 hB4 HF y0 y1 y2
  go_wp2_with fail
  go_ret2
  exact ⟨g, rfl, hW5'.out, hg3, hB5.out⟩
end Go.Proofs.Ytmkhobaclpiceaa
