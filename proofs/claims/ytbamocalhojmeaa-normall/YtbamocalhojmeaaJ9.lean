/- Joined texts of the proof. -/
import Derived.Test.YtbamocalhojmeaaJ8
import Derived.Test.YtbamocalhojmeaaJ4

/- What comes ahead of what by any relation (mathematics), and rows of it as cells. -/
namespace Go.Proofs.Ytbamocalhojmeaa
open Go.RowKit
set_option linter.unusedVariables false

/-- Event i happens ahead of event j. -/
inductive HR (R : Nat → Nat → Bool) : Nat → Nat → Prop
  | dep {i j : Nat} : i < j → R i j = true → HR R i j
  | step {i k j : Nat} : HR R i k → k < j → R k j = true → HR R i j
theorem HR.lt {R : Nat → Nat → Bool} {i j : Nat} (h : HR R i j) : i < j := by
  induction h with
  | dep h _ => exact h
  | step _ h _ ih => omega
theorem HR.trans {R : Nat → Nat → Bool} {i k j : Nat} (h : HR R i k) (h2 : HR R k j) : HR R i j := by
  induction h2 with
  | dep h1 h2 => exact .step h h1 h2
  | step _ h1 h2 ih => exact .step ih h1 h2
/-- The last step. -/
theorem HR.last {R : Nat → Nat → Bool} {i j : Nat} (h : HR R i j) : ∃ k, (i = k ∨ HR R i k) ∧ k < j ∧ R k j = true := by
  cases h with
  | dep h1 h2 => exact ⟨i, .inl rfl, h1, h2⟩
  | step h0 h1 h2 => exact ⟨_, .inr h0, h1, h2⟩
/-- The same, worked out. -/
def hrB (R : Nat → Nat → Bool) (j i : Nat) : Bool :=
  decide (i < j) && (R i j || (List.range j).attach.any fun k => hrB R k.1 i && R k.1 j)
termination_by j
decreasing_by have := List.mem_range.1 k.2; omega
theorem hrB_iff (R : Nat → Nat → Bool) (j : Nat) : ∀ i, hrB R j i = true ↔ HR R i j := by
  induction j using Nat.strongRecOn with
  | _ j ih =>
    intro i
    rw [hrB]
    simp only [Bool.and_eq_true, decide_eq_true_eq, Bool.or_eq_true, List.any_eq_true]
    constructor
    · rintro ⟨h1, h2 | ⟨⟨k, hk⟩, _, h3, h4⟩⟩
      · exact .dep h1 h2
      · have hk' := List.mem_range.1 hk
        exact .step ((ih k hk' i).1 h3) hk' h4
    · intro h
      refine ⟨h.lt, ?_⟩
      obtain ⟨k, h0 | h0, h1, h2⟩ := h.last
      · subst h0; exact .inl h2
      · exact .inr ⟨⟨k, List.mem_range.2 h1⟩, List.mem_attach _ _, (ih k h1 i).2 h0, h2⟩
/-- Of event j: whether k is one of those on which j depends, from place i on, or happens ahead of one. -/
def rowR (R : Nat → Nat → Bool) (j i k : Nat) : Bool := (List.range j).any fun x => decide (i ≤ x) && (R x j && (decide (k = x) || hrB R x k))
theorem rowR_iff {R : Nat → Nat → Bool} {j i k : Nat} : rowR R j i k = true ↔ ∃ x, x < j ∧ i ≤ x ∧ R x j = true ∧ (k = x ∨ HR R k x) := by
  unfold rowR
  simp only [List.any_eq_true, List.mem_range, Bool.and_eq_true, Bool.or_eq_true, decide_eq_true_eq, hrB_iff]
theorem rowR_start (R : Nat → Nat → Bool) (j k : Nat) : rowR R j j k = false := by
  rw [Bool.eq_false_iff]
  intro h
  obtain ⟨x, h1, h2, _⟩ := rowR_iff.1 h
  omega
theorem rowR_step (R : Nat → Nat → Bool) (j i k : Nat) (hi : i < j) : rowR R j i k = (rowR R j (i + 1) k || (R i j && (decide (k = i) || hrB R i k))) := by
  rw [Bool.eq_iff_iff]
  simp only [Bool.or_eq_true, Bool.and_eq_true, decide_eq_true_eq, hrB_iff, rowR_iff]
  constructor
  · rintro ⟨x, h1, h2, h3, h4⟩
    by_cases hx : x = i
    · subst hx; exact .inr ⟨h3, h4⟩
    · exact .inl ⟨x, h1, by omega, h3, h4⟩
  · rintro (⟨x, h1, h2, h3, h4⟩ | ⟨h3, h4⟩)
    · exact ⟨x, h1, by omega, h3, h4⟩
    · exact ⟨i, hi, Nat.le_refl _, h3, h4⟩
theorem rowR_done (R : Nat → Nat → Bool) (j k : Nat) : rowR R j 0 k = hrB R j k := by
  rw [Bool.eq_iff_iff, hrB_iff, rowR_iff]
  constructor
  · rintro ⟨x, h1, _, h3, rfl | h4⟩
    · exact .dep h1 h3
    · exact .step h4 h1 h3
  · intro h
    obtain ⟨x, h1, h2, h3⟩ := h.last
    exact ⟨x, h2, Nat.zero_le _, h3, h1⟩
/-- A piece that j does not depend on changes nothing. -/
theorem rowR_skip (R : Nat → Nat → Bool) (j i k : Nat) (hi : i < j) (hd : R i j = false) : rowR R j i k = rowR R j (i + 1) k := by
  rw [rowR_step R j i k hi, hd, Bool.false_and, Bool.or_false]
/-- The piece itself; those below it; those above it. -/
theorem rowR_at (R : Nat → Nat → Bool) (j i : Nat) (hi : i < j) (hd : R i j = true) : rowR R j i i = true := by
  rw [rowR_step R j i i hi, hd]; simp
theorem rowR_below (R : Nat → Nat → Bool) (j i k : Nat) (hi : i < j) (hk : k < i) (hd : R i j = true) : rowR R j i k = (rowR R j (i + 1) k || hrB R i k) := by
  rw [rowR_step R j i k hi, hd, decide_eq_false (by omega)]; simp
theorem rowR_above (R : Nat → Nat → Bool) (j i k : Nat) (hi : i < j) (hk : i < k) : rowR R j i k = rowR R j (i + 1) k := by
  rw [rowR_step R j i k hi, decide_eq_false (by omega), show hrB R i k = false from ?_]
  · simp
  · rw [Bool.eq_false_iff]
    intro h
    have := ((hrB_iff R i k).1 h).lt
    omega
def headsR (R : Nat → Nat → Bool) (n : Nat) : List (List Bool) := (List.range n).map fun j => (List.range j).map (hrB R j)
theorem headsR_succ (R : Nat → Nat → Bool) (n : Nat) : headsR R (n + 1) = headsR R n ++ [(List.range n).map (hrB R n)] := by simp [headsR, List.range_succ]
theorem headsR_length (R : Nat → Nat → Bool) (n : Nat) : (headsR R n).length = n := by simp [headsR]
/-- The row between two pieces: below k, and from i on, it is done. -/
def midR (R : Nat → Nat → Bool) (j i k x : Nat) : Bool := if x < k ∨ i ≤ x then rowR R j i x else rowR R j (i + 1) x
theorem midR_first (R : Nat → Nat → Bool) (j i : Nat) (hi : i < j) (hd : R i j = true) : (cellsB j (rowR R j (i + 1))).set i (.bool true) = cellsB j (midR R j i 0) := by
  have e : true = midR R j i 0 i := by rw [midR, if_pos (.inr (Nat.le_refl _)), rowR_at R j i hi hd]
  rw [e]
  refine cellsB_set hi fun x hx hxi => ?_
  unfold midR
  split
  · rename_i h
    rw [rowR_above R j i x hi (by omega)]
  · rfl
theorem midR_next (R : Nat → Nat → Bool) (j i k : Nat) (hi : i < j) (hk : k < i) (hd : R i j = true) : (cellsB j (midR R j i k)).set k (.bool (midR R j i k k || hrB R i k)) = cellsB j (midR R j i (k + 1)) := by
  have e : (midR R j i k k || hrB R i k) = midR R j i (k + 1) k := by
    rw [midR, if_neg (by omega), midR, if_pos (by omega), rowR_below R j i k hi hk hd]
  rw [e]
  refine cellsB_set (by omega) fun x hx hxk => ?_
  unfold midR
  by_cases h1 : x < k ∨ i ≤ x
  · rw [if_pos h1, if_pos (by omega)]
  · rw [if_neg h1, if_neg (by omega)]
theorem midR_last (R : Nat → Nat → Bool) (j i : Nat) : cellsB j (midR R j i i) = cellsB j (rowR R j i) := cellsB_congr fun x hx => by
  rw [midR, if_pos (by omega)]
theorem rowR_startq (R : Nat → Nat → Bool) (j : Nat) : cellsB j (rowR R j j) = List.replicate j (.bool false) := by
  rw [cellsB_congr (g := fun _ => false) fun x _ => rowR_start R j x]
  apply List.ext_getElem?
  intro x
  rcases Nat.lt_or_ge x j with hx | hx
  · rw [cellsB_at hx, List.getElem?_replicate, if_pos hx]
  · rw [List.getElem?_eq_none (by rw [cellsB_length]; exact hx), List.getElem?_eq_none (by simp; exact hx)]
theorem rowR_doneq (R : Nat → Nat → Bool) (j : Nat) : cellsB j (rowR R j 0) = ((List.range j).map (hrB R j)).map Value.bool := by
  rw [cellsB_congr fun x _ => rowR_done R j x, cellsB, List.map_map]
  rfl
theorem rowR_skipq (R : Nat → Nat → Bool) (j i : Nat) (hi : i < j) (hd : R i j = false) : cellsB j (rowR R j (i + 1)) = cellsB j (rowR R j i) := cellsB_congr fun x _ => (rowR_skip R j i x hi hd).symm
theorem HR.imp {R R' : Nat → Nat → Bool} {i j : Nat} (h : HR R i j) (H : ∀ a b, a < b → b ≤ j → R a b = true → R' a b = true) : HR R' i j := by
  induction h with
  | dep h1 h2 => exact .dep h1 (H _ _ h1 (Nat.le_refl _) h2)
  | step h0 h1 h2 ih => exact .step (ih fun a b h3 h4 h5 => H a b h3 (by omega) h5) h1 (H _ _ h1 (Nat.le_refl _) h2)
theorem hb_hr (ev : Nat → Ev) (i j : Nat) : HB ev i j ↔ HR (fun i j => depB (ev i) (ev j)) i j := by
  constructor
  · intro h
    induction h with
    | dep h1 h2 => exact .dep h1 h2
    | step h0 h1 h2 ih => exact .step ih h1 h2
  · intro h
    induction h with
    | dep h1 h2 => exact .dep h1 h2
    | step h0 h1 h2 ih => exact .step ih h1 h2
/-- Is there one between two, of which the first happens ahead, and that happens ahead of the second? -/
def btw (ev : Nat → Ev) (i j k : Nat) : Bool := (List.range k).any fun x => decide (i < x) && (hbB ev x i && hbB ev j x)
theorem btw_step (ev : Nat → Ev) (i j k : Nat) (h : i < k) : btw ev i j (k + 1) = (btw ev i j k || (hbB ev k i && hbB ev j k)) := by
  simp [btw, List.range_succ, h]
theorem btw_start (ev : Nat → Ev) (i j : Nat) : btw ev i j (i + 1) = false := by
  rw [Bool.eq_false_iff]
  intro h
  obtain ⟨x, hx, h⟩ := List.any_eq_true.1 h
  have := List.mem_range.1 hx
  simp at h
  omega
theorem btw_iff (ev : Nat → Ev) (i j : Nat) : btw ev i j j = true ↔ ∃ x, HB ev i x ∧ HB ev x j := by
  unfold btw
  simp only [List.any_eq_true, List.mem_range, Bool.and_eq_true, decide_eq_true_eq, hbB_iff]
  exact ⟨fun ⟨x, _, _, h1, h2⟩ => ⟨x, h1, h2⟩, fun ⟨x, h1, h2⟩ => ⟨x, h2.lt, h1.lt, h1, h2⟩⟩
/-- A race of i with j. -/
def raceP (ev : Nat → Ev) (j i : Nat) : Bool := !decide ((ev i).th = (ev j).th) && (depB (ev i) (ev j) && !btw ev i j j)
/-- Pairs gathered: by the second, then by the first. -/
def pairsTo (p : Nat → Nat → Bool) (j k : Nat) : List (Nat × Nat) := ((List.range k).filter (p j)).map fun i => (i, j)
def pairsL (p : Nat → Nat → Bool) (n : Nat) : List (Nat × Nat) := (List.range n).flatMap fun j => pairsTo p j j
theorem pairsTo_zero (p : Nat → Nat → Bool) (j : Nat) : pairsTo p j 0 = [] := rfl
theorem pairsTo_yes {p : Nat → Nat → Bool} {j k : Nat} (h : p j k = true) : pairsTo p j (k + 1) = pairsTo p j k ++ [(k, j)] := by simp [pairsTo, List.range_succ, List.filter_append, h]
theorem pairsTo_no {p : Nat → Nat → Bool} {j k : Nat} (h : p j k = false) : pairsTo p j (k + 1) = pairsTo p j k := by simp [pairsTo, List.range_succ, List.filter_append, h]
theorem pairsL_zero (p : Nat → Nat → Bool) : pairsL p 0 = [] := rfl
theorem pairsL_succ (p : Nat → Nat → Bool) (n : Nat) : pairsL p (n + 1) = pairsL p n ++ pairsTo p n n := by simp [pairsL, List.range_succ, List.flatMap_append]
theorem pairsTo_length (p : Nat → Nat → Bool) (j k : Nat) : (pairsTo p j k).length ≤ k := by
  unfold pairsTo
  rw [List.length_map]
  have := List.length_filter_le (p j) (List.range k)
  simpa using this
theorem pairsL_length (p : Nat → Nat → Bool) : ∀ n, (pairsL p n).length ≤ n * n
  | 0 => by simp [pairsL]
  | n + 1 => by
    rw [pairsL_succ, List.length_append, Nat.succ_mul]
    have h1 := pairsL_length p n
    have h2 := pairsTo_length p n n
    have h3 := Nat.mul_le_mul_left n (Nat.le_succ n)
    show _ ≤ n * (n + 1) + (n + 1)
    rw [Nat.mul_succ]
    omega
theorem mem_pairsL {p : Nat → Nat → Bool} {n i j : Nat} : (i, j) ∈ pairsL p n ↔ i < j ∧ j < n ∧ p j i = true := by
  unfold pairsL pairsTo
  simp only [List.mem_flatMap, List.mem_range, List.mem_map, List.mem_filter, Prod.mk.injEq]
  constructor
  · rintro ⟨b, h1, a, ⟨h2, h3⟩, rfl, rfl⟩
    exact ⟨h2, h1, h3⟩
  · rintro ⟨h1, h2, h3⟩
    exact ⟨j, h2, i, ⟨h1, h3⟩, rfl, rfl⟩
theorem pairsL_congr {p q : Nat → Nat → Bool} {n : Nat} (h : ∀ i j, i < j → j < n → p j i = q j i) : pairsL p n = pairsL q n := by
  unfold pairsL pairsTo
  rw [List.flatMap_def, List.flatMap_def]
  congr 1
  refine List.map_congr_left fun j hj => ?_
  congr 1
  refine List.filter_congr fun i hi => ?_
  exact h i j (List.mem_range.1 hi) (List.mem_range.1 hj)
/-- The threads' own order and the races. -/
def joinR (ev : Nat → Ev) (i j : Nat) : Bool := decide ((ev i).th = (ev j).th) || raceP ev j i
/-- What happens ahead comes of the threads' own order and of the races alone. -/
theorem hb_joins (ev : Nat → Ev) : ∀ d i j, j - i ≤ d → (HB ev i j ↔ HR (joinR ev) i j)
  | d, i, j, hd => by
    constructor
    · intro h
      have hlt := h.lt
      match d with
      | 0 => omega
      | d + 1 =>
        have viaMid : ∀ x, HB ev i x → HB ev x j → HR (joinR ev) i j := fun x h1 h2 =>
          ((hb_joins ev d i x (by have := h1.lt; have := h2.lt; omega)).1 h1).trans ((hb_joins ev d x j (by have := h1.lt; have := h2.lt; omega)).1 h2)
        cases h with
        | dep h1 h2 =>
          by_cases hb : btw ev i j j = true
          · obtain ⟨x, h3, h4⟩ := (btw_iff ev i j).1 hb
            exact viaMid x h3 h4
          · refine .dep h1 ?_
            unfold joinR raceP
            rw [h2]
            cases h5 : decide ((ev i).th = (ev j).th) <;> simp at hb ⊢
            exact hb
        | step h0 h1 h2 => exact viaMid _ h0 (.dep h1 h2)
    · intro h
      rw [hb_hr]
      refine h.imp fun a b h1 h2 h3 => ?_
      unfold joinR raceP at h3
      rcases Bool.or_eq_true_iff.1 h3 with h4 | h4
      · exact dep_same (of_decide_eq_true h4)
      · simp at h4
        exact h4.2.1
theorem hbB_joins (ev : Nat → Ev) (i j : Nat) : hbB ev j i = hrB (joinR ev) j i := by
  rw [Bool.eq_iff_iff, hbB_iff, hrB_iff]
  exact hb_joins ev (j - i) i j (Nat.le_refl _)
theorem hrB_congr {R R' : Nat → Nat → Bool} {j : Nat} (H : ∀ a b, a < b → b ≤ j → R a b = R' a b) (i : Nat) : hrB R j i = hrB R' j i := by
  rw [Bool.eq_iff_iff, hrB_iff, hrB_iff]
  exact ⟨fun h => h.imp fun a b h1 h2 h3 => by rw [← H a b h1 h2]; exact h3, fun h => h.imp fun a b h1 h2 h3 => by rw [H a b h1 h2]; exact h3⟩
/-- By locks. -/
def lockR (ev : Nat → Ev) (i j : Nat) : Bool := decide ((ev i).th = (ev j).th) || (decide ((ev i).kd = 4) && (decide ((ev j).kd = 3) && decide ((ev i).ob = (ev j).ob)))
def varB (e : Ev) : Bool := decide (e.kd = 1) || decide (e.kd = 2)
/-- A data race of i with j. -/
def dataP (ev : Nat → Ev) (j i : Nat) : Bool := !decide ((ev i).th = (ev j).th) && (varB (ev i) && (varB (ev j) && (depB (ev i) (ev j) && !hrB (lockR ev) j i)))
end Go.Proofs.Ytbamocalhojmeaa

/- Rows of answers that are read (Hds); the given answer's between, variable; the law's same. -/
namespace Go.Proofs.Ytbamocalhojmeaa
open Go.RowKit
set_option linter.unusedVariables false
attribute [local go_sem ↓] Go.wp_at_zero Go.wp_at_succ

/-- Rows of answers, each as long as its number. -/
def Hds (w : World) (g n : Nat) (f : Nat → Nat → Bool) : Prop := ∀ j, j < n → ∃ X, w.cell? ⟨g, j, none⟩ = some (.slice (some ⟨X, 0, none⟩) j j) ∧ ∀ i, i < j → w.cell? ⟨X, i, none⟩ = some (.bool (f j i))
theorem Hds.below {w w' : World} {g n : Nat} {f : Nat → Nat → Bool} (h : Hds w g n f) (hb : Below w.heap.size w w') : Hds w' g n f := fun j hj => by
  obtain ⟨X, h1, h2⟩ := h j hj
  exact ⟨X, (hb.cell (lt_of_cell h1)).trans h1, fun i hi => (hb.cell (lt_of_cell (h2 i hi))).trans (h2 i hi)⟩
theorem Hds.of {base : Nat} {w : World} {v : Value} {L : List (Nat × List Bool)} {n : Nat} {f : Nat → Nat → Bool} (hown : OwnH base w v (L.map rowV)) (hmap : L.map (·.2) = (List.range n).map fun j => (List.range j).map (f j)) (hin : RowsIn w L) :
    ∃ a cap, v = .slice a n cap ∧ n ≤ cap ∧ (0 < n → ∃ g, a = some ⟨g, 0, none⟩ ∧ Hds w g n f) := by
  have hL : L.length = n := by have := congrArg List.length hmap; simpa using this
  have hd : 0 < n → ∃ g cap, v = .slice (some ⟨g, 0, none⟩) n cap ∧ n ≤ cap ∧ Hds w g n f := by
    intro h0
    obtain ⟨g, cap, h1, h2, h3⟩ := hown.cell (List.getElem?_eq_getElem (show 0 < L.length by omega))
    refine ⟨g, cap, by rw [h1, hL], by omega, fun j hj => ?_⟩
    have hx := List.getElem?_eq_getElem (show j < L.length by omega)
    obtain ⟨g', cap', e1, e2, e3⟩ := hown.cell hx
    rw [h1] at e1
    cases e1
    have hx2 : (L[j]'(by omega)).2 = (List.range j).map (f j) := by
      have e := congrArg (·[j]?) hmap
      simp [hx, hj] at e
      exact e
    refine ⟨(L[j]'(by omega)).1, ?_, fun i hi => ?_⟩
    · rw [e3]
      simp [rowV, hx2]
    · rw [(hin _ (List.mem_of_getElem? hx)).cell, hx2]
      simp [hi]
  obtain ⟨h0, ⟨rfl, h2⟩ | ⟨g, cap, cur, rfl, hg, hh, hn, hm, hs, ht⟩⟩ := id hown
  · have : L.length = 0 := by simpa using h2
    exact ⟨none, 0, by rw [show n = 0 by omega], by omega, fun h => by omega⟩
  · rw [List.length_map, hL] at hn
    refine ⟨some ⟨g, 0, none⟩, cap, by rw [List.length_map, hL], hn, fun h => ?_⟩
    obtain ⟨g', cap', e1, e2, e3⟩ := hd h
    rw [List.length_map, hL] at e1
    cases e1
    exact ⟨g, rfl, e3⟩

end Go.Proofs.Ytbamocalhojmeaa

/- clock's small functions: isPlace, what is strange about an event, refused. -/
namespace Go.Proofs.Ytbamocalhojmeaa
open Go.RowKit
set_option linter.unusedVariables false
attribute [local go_sem ↓] Go.wp_at_zero Go.wp_at_succ

def plc (z m : Int) : Bool := decide (0 ≤ z) && decide (z < m)

set_option maxRecDepth 100000 in
theorem isPlace_any (z m : Int) (w : World) : Calls Try.prog 62 #[.int .i64 z, .int .i64 m] w fun r w' => r = .returned (.bool (plc z m)) ∧ w' = w := by
  by_cases h : 0 ≤ z
  · by_cases h2 : z < m
    · have e : plc z m = true := by simp [plc, h, h2]
      rw [e]
      go_enter Try.func62, Try.ntmps62
      go_wp2
      go_ret
      exact ⟨rfl, rfl⟩
    · have e : plc z m = false := by simp [plc, h2]
      rw [e]
      go_enter Try.func62, Try.ntmps62
      go_wp2
      go_ret
      exact ⟨rfl, rfl⟩
  · have e : plc z m = false := by simp [plc, h]
    rw [e]
    go_enter Try.func62, Try.ntmps62
    go_wp2
    go_ret
    exact ⟨rfl, rfl⟩

theorem badEv_plc (n : Int) (e : Ev) : badEv n e = !plc e.th n := by
  unfold badEv plc
  by_cases h : e.th < 0
  · simp [h]
  · by_cases h2 : n ≤ e.th
    · simp [h, h2]
    · simp [h, h2]; omega

set_option maxRecDepth 100000 in
theorem strange_any (e : Ev) (n : Int) (g : Nat) (w : World) (hn : w.cell? ⟨g, 0, none⟩ = some (.int .i64 n)) :
    Calls Try.prog 61 #[.agg e.cells.toArray, .pointer (some ⟨g, 0, none⟩)] w fun r w' => r = .returned (.bool (badEv n e)) ∧ Below w.heap.size w w' := by
  rw [badEv_plc]
  obtain ⟨S, hS⟩ : ∃ S, S = plc e.th n := ⟨_, rfl⟩
  have HP := fun u => isPlace_any e.th n u
  rw [← hS] at HP ⊢
  clear hS
  obtain ⟨t, k, o⟩ := e
  simp only [Ev.cells] at HP ⊢
  have hb : Below w.heap.size w (w.alloc (.cells #[.int .i64 t, .int .i64 k, .int .i64 o] 50)) := (Below.refl _ w).alloc (Nat.le_refl _) _
  have hn2 := (hb.cell (lt_of_cell hn)).trans hn
  go_enter Try.func61, Try.ntmps61
  go_wp2_with (go_at_call 62; refine (HP _).mono ?_; rintro e w2 ⟨rfl, rfl⟩)
  go_ret
  exact ⟨rfl, hb⟩

/-- The closure that asks whether an event is strange. -/
def fnStr (g : Nat) : Value := .func (.func 61) #[] #[.pointer (some ⟨g, 0, none⟩)]

set_option maxRecDepth 100000 in
set_option maxHeartbeats 1600000 in
theorem indexEv_any (es : List Ev) (n : Int) (g : Nat) (a : Option Addr) (c : Nat) (w : World) (hn : w.cell? ⟨g, 0, none⟩ = some (.int .i64 n)) (h : RowEv w a es) (hl : es.length ≤ 4611686018427387904) (hk : es.length ≤ c) :
    Calls Try.prog 80 #[.slice a es.length c, fnStr g] w fun r w' => ∃ z : Int, r = .returned (.int .i64 z) ∧ decide (0 ≤ z) = es.any (badEv n) ∧ Below w.heap.size w w' := by
  obtain ⟨R, hR⟩ : ∃ R, Hid (R = es.any (badEv n)) := ⟨_, (rfl : _ = List.any _ _)⟩
  rw [← hR.out]
  obtain ⟨m, hm⟩ : ∃ n, Hid (n = es.length) := ⟨_, (rfl : es.length = _)⟩
  rw [← hm.out] at hl hk ⊢
  have HR : Hid (RowEv w a es) := h
  have HN : Hid (w.cell? ⟨g, 0, none⟩ = some (.int .i64 n)) := hn
  clear h hn
  unfold fnStr
  go_enter Try.func80, Try.ntmps80
  go_wp2_with fail
  go_loopw [8] (fun j wr => ∃ i : Nat, j = .int .i64 (i : Int) ∧ i ≤ m ∧ Hid (Below w.heap.size w wr) ∧ Hid (∀ (q : Nat) (e : Ev), q < i → es[q]? = some e → badEv n e = false)) (fun j _ => m - (intOf j).toNat)
  case atStart => exact ⟨0, rfl, by omega, Below.refl _ _, fun q e hq => by omega⟩
  case round =>
    obtain ⟨i, rfl, hi, hbw, hX⟩ := hrel
    by_cases hc : i < m
    · obtain ⟨e, he⟩ : ∃ k, es[i]? = some k := ⟨es[i]'(by rw [← hm.out]; exact hc), by rw [List.getElem?_eq_getElem]⟩
      obtain ⟨g1, o1, rfl, hr⟩ := (HR.out.below hbw.out).at i e he
      obtain ⟨q1, q2, q3⟩ := range_cells hr
      have HE : Hid (es[i]? = some e) := he
      have HC := strange_any e n g wr ((hbw.out.cell (lt_of_cell HN.out)).trans HN.out)
      obtain ⟨S, hS⟩ : ∃ S, Hid (S = badEv n e) := ⟨_, (rfl : _ = badEv _ _)⟩
      rw [← hS.out] at HC
      clear he hr
      obtain ⟨t, k, o⟩ := e
      dsimp only at q1 q2 q3
      simp only [Ev.cells] at HC
      go_wp2_with (go_at_call 61; refine HC.mono ?_; rintro e w2 ⟨rfl, hbel2⟩; have hB2 : Hid (Below w.heap.size w w2) := hbw.out.trans (hbel2.mono hbw.out.size); clear hbel2 q1 q2 q3 HC hbw; cases S)
      · go_roundw
        case rel =>
          refine ⟨i + 1, by go_num, by omega, hB2.out, fun q x hq hx => ?_⟩
          by_cases hqi : q = i
          · subst hqi
            rw [HE.out] at hx
            cases hx
            exact hS.out.symm
          · exact hX.out q x (by omega) hx
        case measure => simp [intOf]; omega
      · have hRt : R = true := by rw [hR.out]; exact List.any_eq_true.2 ⟨_, List.mem_of_getElem? HE.out, hS.out.symm⟩
        go_ret
        exact ⟨i, rfl, by rw [hRt]; simp, hB2.out⟩
    · have hRf : R = false := by
        rw [hR.out, Bool.eq_false_iff]
        intro hb
        obtain ⟨e, he, hb⟩ := List.any_eq_true.1 hb
        obtain ⟨q, hq⟩ := List.getElem?_of_mem he
        have := (List.getElem?_eq_some_iff.1 hq).1
        rw [← hm.out] at this
        rw [hX.out q e (by omega) hq] at hb
        cases hb
      clear hX
      go_wp2
      go_ret
      exact ⟨-1, rfl, by rw [hRf]; rfl, hbw.out⟩

set_option maxRecDepth 100000 in
theorem anyEv_any (es : List Ev) (n : Int) (g : Nat) (a : Option Addr) (c : Nat) (w : World) (hn : w.cell? ⟨g, 0, none⟩ = some (.int .i64 n)) (h : RowEv w a es) (hl : es.length ≤ 4611686018427387904) (hk : es.length ≤ c) :
    Calls Try.prog 63 #[.slice a es.length c, fnStr g] w fun r w' => r = .returned (.bool (es.any (badEv n))) ∧ Below w.heap.size w w' := by
  have HC := indexEv_any es n g a c w hn h hl hk
  obtain ⟨R, hR⟩ : ∃ R, R = es.any (badEv n) := ⟨_, rfl⟩
  obtain ⟨m, hm⟩ : ∃ n, n = es.length := ⟨_, rfl⟩
  rw [← hR, ← hm] at HC
  rw [← hR, ← hm]
  unfold fnStr at *
  clear hn h hl hk hR hm
  go_enter Try.func63, Try.ntmps63
  go_wp2_with (go_at_call 80; refine HC.mono ?_; rintro e w2 ⟨z, rfl, hz, hbel⟩)
  go_ret
  exact ⟨by simp, hbel⟩
end Go.Proofs.Ytbamocalhojmeaa

/- clock.refused: why events, with more behind them, are no trace. -/
namespace Go.Proofs.Ytbamocalhojmeaa
open Go.RowKit
set_option linter.unusedVariables false
attribute [local go_sem ↓] Go.wp_at_zero Go.wp_at_succ

set_option maxRecDepth 100000 in
set_option maxHeartbeats 3200000 in
theorem refused_any (es ms : List Ev) (n : Int) (a1 a2 : Option Addr) (c1 c2 : Nat) (w : World) (h1 : RowEv w a1 es) (h2 : RowEv w a2 ms) (hl1 : es.length ≤ 4611686018427387904) (hl2 : ms.length ≤ 1) (hk1 : es.length ≤ c1) (hk2 : ms.length ≤ c2) :
    Calls Try.prog 50 #[.int .i64 n, .slice a1 es.length c1, .slice a2 ms.length c2] w fun r w' => r = .returned (.int .i64 (wrongZ (es ++ ms) n)) ∧ Below w.heap.size w w' := by
  obtain ⟨R, hR⟩ : ∃ R, Hid (R = wrongZ (es ++ ms) n) := ⟨_, (rfl : _ = wrongZ _ _)⟩
  rw [← hR.out]
  have hb0 : Below w.heap.size w (w.alloc (.cells #[.int .i64 n] 3)) := (Below.refl _ w).alloc (Nat.le_refl _) _
  have hcn : (w.alloc (.cells #[.int .i64 n] 3)).cell? ⟨w.heap.size, 0, none⟩ = some (.int .i64 n) := by unfold World.cell?; rw [heap_new]; rfl
  have HC1 := anyEv_any es n w.heap.size a1 c1 (w.alloc (.cells #[.int .i64 n] 3)) hcn (h1.below hb0) hl1 hk1
  have HC2 : ∀ u, Below (w.alloc (.cells #[.int .i64 n] 3)).heap.size (w.alloc (.cells #[.int .i64 n] 3)) u → Calls Try.prog 63 #[.slice a2 ms.length c2, fnStr w.heap.size] u fun r w' => r = .returned (.bool (ms.any (badEv n))) ∧ Below u.heap.size u w' := fun u hu => anyEv_any ms n w.heap.size a2 c2 u ((hu.cell (lt_of_cell hcn)).trans hcn) ((h2.below hb0).below hu) (by omega) hk2
  obtain ⟨m1, hm1⟩ : ∃ n, n = es.length := ⟨_, rfl⟩
  obtain ⟨m2, hm2⟩ : ∃ n, n = ms.length := ⟨_, rfl⟩
  have hR2 : Hid (R = if n < 1 ∨ 16 < n then 2 else if 1024 < m1 + m2 then 3 else if es.any (badEv n) || ms.any (badEv n) then 2 else 0) := by
    show R = _
    rw [hR.out, wrongZ, List.length_append, List.any_append, hm1, hm2]
  obtain ⟨A1, hA1⟩ : ∃ A, A = es.any (badEv n) := ⟨_, rfl⟩
  obtain ⟨A2, hA2⟩ : ∃ A, A = ms.any (badEv n) := ⟨_, rfl⟩
  rw [← hA1, ← hm1] at HC1
  rw [← hA2, ← hm2] at HC2
  rw [← hA1, ← hA2] at hR2
  rw [← hm1] at hl1 hk1 ⊢
  rw [← hm2] at hl2 hk2 ⊢
  have HC2' : Hid _ := HC2
  clear hR hA1 hA2 hm1 hm2 h1 h2 HC2
  unfold fnStr at HC1 HC2'
  by_cases hn1 : n < 1
  · have hRf : R = 2 := by rw [hR2.out, if_pos (.inl hn1)]
    subst hRf
    go_enter Try.func50, Try.ntmps50
    go_wp2
    go_ret
    exact ⟨rfl, hb0⟩
  by_cases hn2 : 16 < n
  · have hRf : R = 2 := by rw [hR2.out, if_pos (.inr hn2)]
    subst hRf
    go_enter Try.func50, Try.ntmps50
    go_wp2
    go_ret
    exact ⟨rfl, hb0⟩
  have hw : IntKind.i64.wrap ((m1 : Int) + (m2 : Int)) = (m1 : Int) + (m2 : Int) := by rw [IntKind.wrap_i64]; omega
  by_cases hm : 1024 < m1 + m2
  · have hRf : R = 3 := by rw [hR2.out, if_neg (by omega), if_pos hm]
    have hm' : (1024 : Int) < (m1 : Int) + (m2 : Int) := by omega
    subst hRf
    go_enter Try.func50, Try.ntmps50
    go_wp2
    go_ret
    exact ⟨rfl, hb0⟩
  have hm' : ¬ (1024 : Int) < (m1 : Int) + (m2 : Int) := by omega
  have hR3 : Hid (R = if A1 || A2 then 2 else 0) := by show R = _; rw [hR2.out, if_neg (by omega), if_neg hm]
  clear hR2
  go_enter Try.func50, Try.ntmps50
  go_wp2_with (first | (go_at_call_of 63 m1; refine HC1.mono ?_; rintro e w2 ⟨rfl, hbel2⟩; have hB2 : Hid (Below w.heap.size w w2) := hb0.trans (hbel2.mono hb0.size); have HC3 := HC2'.out w2 hbel2; clear hbel2 HC1 HC2'; cases A1) | (go_at_call_of 63 m2; refine HC3.mono ?_; rintro e w3 ⟨rfl, hbel3⟩; have hB3 : Hid (Below w.heap.size w w3) := hB2.out.trans (hbel3.mono hB2.out.size); clear hbel3 HC3; cases A2))
  all_goals (have hRf := hR3.out; subst hRf; go_ret)
  · exact ⟨rfl, hB3.out⟩
  · exact ⟨rfl, hB3.out⟩
  · exact ⟨rfl, hB2.out⟩
end Go.Proofs.Ytbamocalhojmeaa
