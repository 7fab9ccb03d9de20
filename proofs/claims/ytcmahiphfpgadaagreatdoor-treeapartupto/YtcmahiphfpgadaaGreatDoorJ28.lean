/- Joined texts of the proof. -/
import Derived.Test.YtcmahiphfpgadaaGreatDoorJ26
import Derived.Test.YtcmahiphfpgadaaGreatDoorJ27
import Derived.Test.YtcmahiphfpgadaaGreatDoorJ17
import Derived.Test.YtcmahiphfpgadaaGreatDoorJ12

/- One text for each tree: TreeApart is walked. -/
namespace Go.Proofs.YtcmahiphfpgadaaGreatDoor
open Go.RowKit
set_option linter.unusedVariables false

set_option maxRecDepth 100000 in
set_option maxHeartbeats 6400000 in
theorem apart_at (p1 p2 p3 q1 q2 q3 : Value) (A A' : List UInt8) (E E' : Int) (hE : E = 0 ∨ E = 2 ∨ E = 3) (hE' : E' = 0 ∨ E' = 2 ∨ E' = 3) (Z : Bool) (hZ : E = 0 → E' = 0 → (A = A' ↔ Z = true)) (w : World)
    (h26 : ∀ x, Below w.heap.size w x → Calls Tryz.prog 26 #[] x fun r w' => r = .returned (.bool true) ∧ Below x.heap.size x w')
    (h6p : ∀ x, Below w.heap.size w x → Calls Tryz.prog 6 #[.agg #[p1, p2, p3]] x fun r w' => IsB r ∧ Below x.heap.size x w')
    (h6q : ∀ x, Below w.heap.size w x → Calls Tryz.prog 6 #[.agg #[q1, q2, q3]] x fun r w' => IsB r ∧ Below x.heap.size x w')
    (h10p : ∀ x, Below w.heap.size w x → Calls Tryz.prog 10 #[.agg #[p1, p2, p3]] x fun r w' => r = .returned (.tuple #[.string ⟨A.toArray⟩, .int .i64 E]) ∧ Below x.heap.size x w')
    (h10q : ∀ x, Below w.heap.size w x → Calls Tryz.prog 10 #[.agg #[q1, q2, q3]] x fun r w' => r = .returned (.tuple #[.string ⟨A'.toArray⟩, .int .i64 E']) ∧ Below x.heap.size x w')
    (h24 : ∀ x, Below w.heap.size w x → Calls Tryz.prog 24 #[.agg #[p1, p2, p3]] x fun r w' => ∃ y1 y2 y3 : Value, r = .returned (.agg #[y1, y2, y3]) ∧ (∀ v ∈ [y1, y2, y3], v.oneCell' = true) ∧ (∀ x', Below w'.heap.size w' x' → Calls Tryz.prog 19 #[.agg #[y1, y2, y3], .agg #[p1, p2, p3]] x' fun r w'' => r = .returned (.bool true) ∧ Below x'.heap.size x' w'') ∧ Below x.heap.size x w')
    (h19 : ∀ x, Below w.heap.size w x → Calls Tryz.prog 19 #[.agg #[p1, p2, p3], .agg #[p1, p2, p3]] x fun r w' => r = .returned (.bool true) ∧ Below x.heap.size x w')
    (h16 : ∀ x, Below w.heap.size w x → Calls Tryz.prog 16 #[.agg #[p1, p2, p3], .agg #[q1, q2, q3]] x fun r w' => r = .returned (.bool Z) ∧ Below x.heap.size x w') :
    Calls Tryz.prog 5 #[.agg [p1, p2, p3].toArray, .agg [q1, q2, q3].toArray] w fun r w' => r = .returned (.bool true) ∧ Below w.heap.size w w' := by
  have H26 : Hid _ := h26
  have H6p : Hid _ := h6p
  have H6q : Hid _ := h6q
  have H10p : Hid _ := h10p
  have H10q : Hid _ := h10q
  have H24 : Hid _ := h24
  have H19 : Hid _ := h19
  have H16 : Hid _ := h16
  have HZ : Hid (E = 0 → E' = 0 → (A = A' ↔ Z = true)) := hZ
  have HE : Hid ((E = 0 ∨ E = 2 ∨ E = 3) ∧ (E' = 0 ∨ E' = 2 ∨ E' = 3)) := ⟨hE, hE'⟩
  clear h26 h6p h6q h10p h10q h24 h19 h16 hZ hE hE'
  go_enter Tryz.func5, Tryz.ntmps5
  go_wp2_with (first
    | ((with_reducible show wpList _ _ _ _ _ _); refine wpList_box_at rfl 26 (.tmp 0) rfl [p1, p2, p3] rfl ?_; intro w1 hA1 hb1 hs1; clear hs1)
    | ((with_reducible show wpList _ _ _ _ _ _); refine wpList_box_at rfl 26 (.tmp 1) rfl [q1, q2, q3] rfl ?_; intro w2 hA2q hb2 hs2; clear hs2; refine Hid.out ?_))
  refine hidU ?_
  have hA2 := hA1.below hb2
  have hw2 : Below w.heap.size w w2 := hb1.trans (hb2.mono hb1.size)
  clear hA1 hb1 hb2
  obtain ⟨c0, c1, c2⟩ := pg_cells hA2
  obtain ⟨d0, d1, d2⟩ := pg_cells hA2q
  go_wp2_with fail
  refine (H26.out _ hw2).mono ?_
  rintro r w3 ⟨rfl, hb3⟩
  have hA3 := hA2.below hb3
  have hA3q := hA2q.below hb3
  have hw3 := hw2.trans (hb3.mono hw2.size)
  clear hA2 hA2q hb3 hw2 c0 c1 c2 d0 d1 d2
  obtain ⟨c0, c1, c2⟩ := pg_cells hA3
  obtain ⟨d0, d1, d2⟩ := pg_cells hA3q
  go_wp2_with fail
  refine (H6p.out _ hw3).mono ?_
  rintro r w4 ⟨⟨b1, rfl⟩, hb4⟩
  have hA4 := hA3.below hb4
  have hA4q := hA3q.below hb4
  have hw4 := hw3.trans (hb4.mono hw3.size)
  clear hA3 hA3q hb4 hw3 c0 c1 c2 d0 d1 d2
  obtain ⟨c0, c1, c2⟩ := pg_cells hA4
  obtain ⟨d0, d1, d2⟩ := pg_cells hA4q
  cases b1 with
  | true =>
    go_wp2_with fail
    go_ret
    exact ⟨rfl, hw4⟩
  | false =>
    go_wp2_with fail
    refine (H6q.out _ hw4).mono ?_
    rintro r w5 ⟨⟨b2, rfl⟩, hb5⟩
    have hA5 := hA4.below hb5
    have hA5q := hA4q.below hb5
    have hw5 := hw4.trans (hb5.mono hw4.size)
    clear hA4 hA4q hb5 hw4 c0 c1 c2 d0 d1 d2
    obtain ⟨c0, c1, c2⟩ := pg_cells hA5
    obtain ⟨d0, d1, d2⟩ := pg_cells hA5q
    cases b2 with
    | true =>
      go_wp2_with fail
      go_ret
      exact ⟨rfl, hw5⟩
    | false =>
      go_wp2_with fail
      refine (H10p.out _ hw5).mono ?_
      rintro r w6 ⟨rfl, hb6⟩
      have hA6 := hA5.below hb6
      have hA6q := hA5q.below hb6
      have hw6 := hw5.trans (hb6.mono hw5.size)
      clear hA5 hA5q hb6 hw5 c0 c1 c2 d0 d1 d2
      obtain ⟨c0, c1, c2⟩ := pg_cells hA6
      obtain ⟨d0, d1, d2⟩ := pg_cells hA6q
      go_wp2_with fail
      refine (H10q.out _ hw6).mono ?_
      rintro r w7 ⟨rfl, hb7⟩
      have hA7 := hA6.below hb7
      have hA7q := hA6q.below hb7
      have hw7 := hw6.trans (hb7.mono hw6.size)
      clear hA6 hA6q hb7 hw6 c0 c1 c2 d0 d1 d2
      obtain ⟨c0, c1, c2⟩ := pg_cells hA7
      obtain ⟨d0, d1, d2⟩ := pg_cells hA7q
      go_wp2_with fail
      refine (H24.out _ hw7).mono ?_
      rintro r w8_ ⟨y1, y2, y3, rfl, hone, hS, hb8_⟩
      have HS : Hid _ := hS
      have hA8_ := hA7.below hb8_
      have hA8_q := hA7q.below hb8_
      have hw8_ := hw7.trans (hb8_.mono hw7.size)
      clear hA7 hA7q hb8_ hw7 c0 c1 c2 d0 d1 d2 hS
      go_wp2_with (first
        | ((with_reducible show wpList _ _ _ _ _ _); refine wpList_alloc_at rfl 26 rfl _ 3 z46' ?_; intro w9 hA9 hb9 hs9)
        | ((with_reducible show wpList _ _ _ _ _ _); refine wpList_store_at (P := Tryz.prog) rfl 26 (.tmp 10) (.tmp 30) rfl w8_.heap.size [y1, y2, y3] rfl rfl 26 _ hA9 i46 rfl hone ?_; intro w8 hA8y hb8 hs8; refine Hid.out ?_))
      refine hidU ?_
      have hB8 : Below w8_.heap.size w8_ w8 := hb8.below hb9 (Nat.le_refl _) (by omega)
      have hA8 := hA8_.below hB8
      have hA8q := hA8_q.below hB8
      have hw8 := hw8_.trans (hB8.mono hw8_.size)
      have H19y := HS.out w8 hB8
      clear hb8 hb9 hA9 hs9 hs8 hA8_ hA8_q hw8_ HS hB8
      obtain ⟨c0, c1, c2⟩ := pg_cells hA8
      obtain ⟨d0, d1, d2⟩ := pg_cells hA8q
      obtain ⟨e0, e1, e2⟩ := pg_cells hA8y
      go_wp2_with fail
      refine H19y.mono ?_
      rintro r w9 ⟨rfl, hb9⟩
      clear H19y e0 e1 e2 hA8y
      have hA9 := hA8.below hb9
      have hA9q := hA8q.below hb9
      have hw9 := hw8.trans (hb9.mono hw8.size)
      clear hA8 hA8q hb9 hw8 c0 c1 c2 d0 d1 d2
      obtain ⟨c0, c1, c2⟩ := pg_cells hA9
      obtain ⟨d0, d1, d2⟩ := pg_cells hA9q
      go_wp2_with fail
      refine (H19.out _ hw9).mono ?_
      rintro r w10 ⟨rfl, hb10⟩
      have hA10 := hA9.below hb10
      have hA10q := hA9q.below hb10
      have hw10 := hw9.trans (hb10.mono hw9.size)
      clear hA9 hA9q hb10 hw9 c0 c1 c2 d0 d1 d2
      obtain ⟨c0, c1, c2⟩ := pg_cells hA10
      obtain ⟨d0, d1, d2⟩ := pg_cells hA10q
      obtain ⟨hE, hE'⟩ := HE.out
      rcases hE with rfl | rfl | rfl
      · rcases hE' with rfl | rfl | rfl
        · skip
          have HZ' : Hid (A = A' ↔ Z = true) := HZ.out rfl rfl
          by_cases hAA : A = A'
          · have hZt : Z = true := HZ'.out.1 hAA
            subst hZt
            subst hAA
            go_wp2_with fail
            refine (H16.out _ hw10).mono ?_
            rintro r w11 ⟨rfl, hb11⟩
            have hw11 := hw10.trans (hb11.mono hw10.size)
            go_wp2_with fail
            all_goals first
              | (go_ret; exact ⟨rfl, hw11⟩)
              | (go_ret; exact ⟨by simp, hw11⟩)
          · have hZf : Z = false := by
              cases hz : Z with
              | false => rfl
              | true => exact absurd (HZ'.out.2 hz) hAA
            subst hZf
            have hne : ¬ (⟨A.toArray⟩ : ByteArray).toList = (⟨A'.toArray⟩ : ByteArray).toList := by
              rw [toList_bytes, toList_bytes]
              exact hAA
            go_wp2_with fail
            all_goals first
              | (exfalso; apply hne; assumption)
              | (refine (H16.out _ hw10).mono ?_
                 rintro r w11 ⟨rfl, hb11⟩
                 have hw11 := hw10.trans (hb11.mono hw10.size)
                 go_wp2_with fail
                 go_ret
                 exact ⟨by simp; exact hAA, hw11⟩)
        · skip
          go_wp2_with fail
          go_ret
          exact ⟨rfl, hw10⟩
        · skip
          go_wp2_with fail
          go_ret
          exact ⟨rfl, hw10⟩
      · skip
        go_wp2_with fail
        go_ret
        exact ⟨rfl, hw10⟩
      · skip
        go_wp2_with fail
        go_ret
        exact ⟨rfl, hw10⟩

end Go.Proofs.YtcmahiphfpgadaaGreatDoor

/- The values' texts tell them apart. -/
namespace Go.Proofs.YtcmahiphfpgadaaGreatDoor
set_option linter.unusedVariables false

theorem dd_all : ∀ (N u : Nat), u < N → ∀ c ∈ Lib.decDigits u, 48 ≤ c.toNat ∧ c.toNat ≤ 57 := by
  intro N
  induction N with
  | zero => intro u h; omega
  | succ N ih =>
    intro u h c hc
    rw [Lib.decDigits] at hc
    split at hc
    · rw [List.mem_singleton] at hc
      subst hc
      have : (UInt8.ofNat (48 + u)).toNat = 48 + u := by simp; omega
      omega
    · rcases List.mem_append.1 hc with hc | hc
      · exact ih (u / 10) (by omega) c hc
      · rw [List.mem_singleton] at hc
        subst hc
        have : (UInt8.ofNat (48 + u % 10)).toNat = 48 + u % 10 := by simp; omega
        omega
theorem dd_dig (u : Nat) : ∀ c ∈ Lib.decDigits u, 48 ≤ c.toNat ∧ c.toNat ≤ 57 := dd_all (u + 1) u (by omega)
theorem dd_ne (u : Nat) : Lib.decDigits u ≠ [] := by
  rw [Lib.decDigits]
  split <;> simp
theorem dd_val : ∀ (N u : Nat), u < N → decVal (Lib.decDigits u) = u := by
  intro N
  induction N with
  | zero => intro u h; omega
  | succ N ih =>
    intro u h
    rw [Lib.decDigits]
    split
    · have : (UInt8.ofNat (48 + u)).toNat = 48 + u := by simp; omega
      simp only [decVal, List.foldl_cons, List.foldl_nil]
      omega
    · have : (UInt8.ofNat (48 + u % 10)).toNat = 48 + u % 10 := by simp; omega
      rw [val_snoc, ih (u / 10) (by omega), this]
      omega
theorem dd_inj {u v : Nat} (h : Lib.decDigits u = Lib.decDigits v) : u = v := by
  rw [← dd_val (u + 1) u (by omega), ← dd_val (v + 1) v (by omega), h]

theorem itoa_inj {x y : Int} (h : Lib.itoa x = Lib.itoa y) : x = y := by
  unfold Lib.itoa at h
  split at h
  · split at h
    · simp at h
      have := dd_inj h
      omega
    · exfalso
      have := dd_dig y.toNat 45 (by rw [← h]; simp)
      have h45 : (45 : UInt8).toNat = 45 := rfl
      omega
  · split at h
    · exfalso
      have := dd_dig x.toNat 45 (by rw [h]; simp)
      have h45 : (45 : UInt8).toNat = 45 := rfl
      omega
    · have := dd_inj h
      omega

/-- A literal of a real: digits, and one point. -/
theorem litOf_chars (k n : Nat) (h1 : 1 ≤ k) (h6 : k ≤ 6) (hn : n < 1000000000000000) : (∃ c r, litOf k n = c :: r ∧ 48 ≤ c.toNat ∧ c.toNat ≤ 57) ∧ (46 : UInt8) ∈ litOf k n ∧ ∀ c ∈ litOf k n, (48 ≤ c.toNat ∧ c.toNat ≤ 57) ∨ c = 46 := by
  obtain ⟨hL, -, -, -⟩ := litOf_lit k n h1 h6 hn
  have hs := lit_split hL
  obtain ⟨g1, g2, g3, ⟨a1, a2, a3, a4⟩, b1, b2, b3, b4⟩ := hL
  have ha : ∀ c ∈ aheadOf (litOf k n), 48 ≤ c.toNat ∧ c.toNat ≤ 57 := by
    intro c hc
    obtain ⟨j, hj, rfl⟩ := List.getElem_of_mem hc
    have := a3 j hj
    rwa [List.getD_eq_getElem?_getD, List.getElem?_eq_getElem hj] at this
  have hb : ∀ c ∈ behindOf (litOf k n), 48 ≤ c.toNat ∧ c.toNat ≤ 57 := by
    intro c hc
    obtain ⟨j, hj, rfl⟩ := List.getElem_of_mem hc
    have := b3 (j + 1) (by simp; omega)
    simpa [List.getD_eq_getElem?_getD, List.getElem?_eq_getElem hj] using this
  refine ⟨?_, by rw [hs]; simp, fun c hc => ?_⟩
  · cases hah : aheadOf (litOf k n) with
    | nil => rw [hah] at a1; simp at a1
    | cons c r =>
      refine ⟨c, r ++ 46 :: behindOf (litOf k n), ?_, ha c (by rw [hah]; simp)⟩
      conv => lhs; rw [hs, hah]
      rfl
  · rw [hs] at hc
    rcases List.mem_append.1 hc with h | h
    · exact .inl (ha c h)
    · rcases List.mem_cons.1 h with h | h
      · exact .inr h
      · exact .inl (hb c h)

/-- The real of a text. -/
def unT (l : List UInt8) : Nat :=
  if l = [110, 97, 110] then NAN else if l = [105, 110, 102] then 9218868437227405312 else if l = [45, 105, 110, 102] then 18442240474082181120
  else if l.head? = some 45 then fneg (quo (litNum (l.drop 1)) (10 ^ (behindOf (l.drop 1)).length)) else quo (litNum l) (10 ^ (behindOf l).length)

/-- How a real's text looks that is none of bits. -/
theorem textOf_cases (h : Nat) (hp : Lib.hasPrefix (textOf h) [35] = false) : (h = NAN ∧ textOf h = [110, 97, 110]) ∨ (h = 9218868437227405312 ∧ textOf h = [105, 110, 102]) ∨ (h = 18442240474082181120 ∧ textOf h = [45, 105, 110, 102]) ∨
    (∃ k n, 1 ≤ k ∧ k ≤ 6 ∧ n < 1000000000000000 ∧ quo n (10 ^ k) = home h ∧ textOf h = litOf k n) ∨ (∃ k n, 1 ≤ k ∧ k ≤ 6 ∧ n < 1000000000000000 ∧ quo n (10 ^ k) = home (fneg h) ∧ textOf h = 45 :: litOf k n) := by
  unfold textOf at hp ⊢
  split
  · exact .inl ⟨by assumption, rfl⟩
  · rename_i h1
    rw [if_neg h1] at hp
    split
    · exact .inr (.inl ⟨by assumption, rfl⟩)
    · rename_i h2
      rw [if_neg h2] at hp
      split
      · exact .inr (.inr (.inl ⟨by assumption, rfl⟩))
      · rename_i h3
        rw [if_neg h3] at hp
        cases hq : pr h 1 6 with
        | some kn =>
          obtain ⟨k, n⟩ := kn
          obtain ⟨p1, p2, p3⟩ := pr_sound 6 1 k n h hq
          obtain ⟨p4, p5⟩ := digits_sound p3
          exact .inr (.inr (.inr (.inl ⟨k, n, p1, by omega, p5, p4, rfl⟩)))
        | none =>
          rw [hq] at hp
          cases hq2 : pr (fneg h) 1 6 with
          | some kn =>
            obtain ⟨k, n⟩ := kn
            obtain ⟨p1, p2, p3⟩ := pr_sound 6 1 k n (fneg h) hq2
            obtain ⟨p4, p5⟩ := digits_sound p3
            exact .inr (.inr (.inr (.inr ⟨k, n, p1, by omega, p5, p4, rfl⟩)))
          | none =>
            rw [hq2] at hp
            simp [Lib.hasPrefix] at hp

theorem unT_textOf (h : Nat) (hb : h < 18446744073709551616) (hh : home h = h) (hp : Lib.hasPrefix (textOf h) [35] = false) : unT (textOf h) = h := by
  rcases textOf_cases h hp with ⟨e, ht⟩ | ⟨e, ht⟩ | ⟨e, ht⟩ | ⟨k, n, h1, h6, hn, hq, ht⟩ | ⟨k, n, h1, h6, hn, hq, ht⟩
  · rw [ht, e]; rfl
  · rw [ht, e]; rfl
  · rw [ht, e]; rfl
  · rw [ht]
    obtain ⟨⟨c, r, hcr, hc⟩, -, -⟩ := litOf_chars k n h1 h6 hn
    obtain ⟨-, l2, l3, -⟩ := litOf_lit k n h1 h6 hn
    have x1 : ¬ litOf k n = [110, 97, 110] := by rw [hcr]; intro e; cases e; revert hc; decide
    have x2 : ¬ litOf k n = [105, 110, 102] := by rw [hcr]; intro e; cases e; revert hc; decide
    have x3 : ¬ litOf k n = [45, 105, 110, 102] := by rw [hcr]; intro e; cases e; revert hc; decide
    have x4 : ¬ (litOf k n).head? = some 45 := by rw [hcr]; intro e; simp at e; subst e; revert hc; decide
    unfold unT
    rw [if_neg x1, if_neg x2, if_neg x3, if_neg x4, l2, l3, hq, hh]
  · rw [ht]
    obtain ⟨⟨c, r, hcr, hc⟩, -, -⟩ := litOf_chars k n h1 h6 hn
    obtain ⟨-, l2, l3, -⟩ := litOf_lit k n h1 h6 hn
    have x1 : ¬ 45 :: litOf k n = [110, 97, 110] := by intro e; cases e
    have x2 : ¬ 45 :: litOf k n = [105, 110, 102] := by intro e; cases e
    have x3 : ¬ 45 :: litOf k n = [45, 105, 110, 102] := by rw [hcr]; intro e; cases e; revert hc; decide
    unfold unT
    rw [if_neg x1, if_neg x2, if_neg x3, if_pos (show (45 :: litOf k n).head? = some 45 from rfl)]
    show fneg (quo (litNum (litOf k n)) (10 ^ (behindOf (litOf k n)).length)) = h
    rw [l2, l3, hq, home_fneg h hb, fneg_fneg hb, hh]

/-- The literals, the values' texts, of words of 64 bits. -/
def litF (t b : Nat) : Option (List UInt8) := if b < 18446744073709551616 ∧ litOk t b = true then some (valTx t b) else none
def vtxF (t b : Nat) : Option (List UInt8) := if b < 18446744073709551616 ∧ valOk t b = true then some (valTx t b) else none

theorem litF_some {t b : Nat} {x : List UInt8} (h : litF t b = some x) : b < 18446744073709551616 ∧ valOk t b = true ∧ Lib.hasPrefix (valTx t b) [45] = false ∧ valTx t b = x := by
  unfold litF at h
  split at h
  · rename_i hh
    simp at h
    have h2 := hh.2
    unfold litOk at h2
    rw [Bool.and_eq_true] at h2
    exact ⟨hh.1, h2.1, by simpa using h2.2, h⟩
  · cases h
theorem vtxF_some {t b : Nat} {x : List UInt8} (h : vtxF t b = some x) : b < 18446744073709551616 ∧ valOk t b = true ∧ valTx t b = x := by
  unfold vtxF at h
  split at h
  · rename_i hh
    simp at h
    exact ⟨hh.1, hh.2, h⟩
  · cases h

theorem valOk_type {t b : Nat} (h : valOk t b = true) : t = 1 ∨ t = 2 ∨ t = 3 := by
  unfold valOk at h
  split at h
  · exact .inl (by assumption)
  · split at h
    · exact .inr (.inl (by assumption))
    · split at h
      · exact .inr (.inr (by assumption))
      · cases h
theorem valOk3 {b : Nat} (h : valOk 3 b = true) : home b = b ∧ Lib.hasPrefix (textOf (home b)) [35] = false := by
  unfold valOk at h
  simp at h
  exact h

/-- Values of one type with one text are the same. -/
theorem val_inj {t b b' : Nat} (hb : b < 18446744073709551616) (hb' : b' < 18446744073709551616) (h : valOk t b = true) (h' : valOk t b' = true) (e : valTx t b = valTx t b') : b = b' := by
  rcases valOk_type h with rfl | rfl | rfl
  · have := itoa_inj (show Lib.itoa (sgn b) = Lib.itoa (sgn b') from e)
    unfold sgn at this
    split at this <;> split at this <;> omega
  · have h1 : b ≤ 1 := by unfold valOk at h; simpa using h
    have h2 : b' ≤ 1 := by unfold valOk at h'; simpa using h'
    have e' : Lib.formatBool (decide (b = 1)) = Lib.formatBool (decide (b' = 1)) := e
    have k0 : b = 0 ∨ b = 1 := by omega
    have k1 : b' = 0 ∨ b' = 1 := by omega
    rcases k0 with rfl | rfl <;> rcases k1 with rfl | rfl
    · rfl
    · exact absurd e' (by decide)
    · exact absurd e' (by decide)
    · rfl
  · obtain ⟨a1, a2⟩ := valOk3 h
    obtain ⟨b1, b2⟩ := valOk3 h'
    have e' : textOf (home b) = textOf (home b') := e
    rw [a1] at a2 e'
    rw [b1] at b2 e'
    rw [← unT_textOf b hb a1 a2, ← unT_textOf b' hb' b1 b2, e']

/-- How a literal begins. -/
inductive LitKind (t : Nat) (x : List UInt8) : Prop
  | int (h : t = 1) (hn : x ≠ []) (hd : ∀ c ∈ x, 48 ≤ c.toNat ∧ c.toNat ≤ 57)
  | bool (h : t = 2) (hx : x = [116, 114, 117, 101] ∨ x = [102, 97, 108, 115, 101])
  | word (h : t = 3) (hx : x = [110, 97, 110] ∨ x = [105, 110, 102])
  | real (h : t = 3) (c : UInt8) (r : List UInt8) (hc : x = c :: r) (hd : 48 ≤ c.toNat ∧ c.toNat ≤ 57) (hp : (46 : UInt8) ∈ x) (ha : ∀ c ∈ x, (48 ≤ c.toNat ∧ c.toNat ≤ 57) ∨ c = 46)

theorem lit_kind {t b : Nat} {x : List UInt8} (h : litF t b = some x) : LitKind t x := by
  obtain ⟨hb, hv, hp, rfl⟩ := litF_some h
  rcases valOk_type hv with rfl | rfl | rfl
  · have e : valTx 1 b = Lib.itoa (sgn b) := rfl
    rw [e] at hp ⊢
    unfold Lib.itoa at hp ⊢
    split
    · rename_i hh
      rw [if_pos hh] at hp
      simp [Lib.hasPrefix] at hp
    · exact .int rfl (dd_ne _) (dd_dig _)
  · have e : valTx 2 b = Lib.formatBool (decide (b = 1)) := rfl
    rw [e]
    cases decide (b = 1) with
    | true => exact .bool rfl (.inl (by decide))
    | false => exact .bool rfl (.inr (by decide))
  · obtain ⟨a1, a2⟩ := valOk3 hv
    have e : valTx 3 b = textOf (home b) := rfl
    rw [e] at hp ⊢
    rcases textOf_cases (home b) a2 with ⟨_, ht⟩ | ⟨_, ht⟩ | ⟨_, ht⟩ | ⟨k, n, h1, h6, hn, hq, ht⟩ | ⟨k, n, h1, h6, hn, hq, ht⟩
    · rw [ht]; exact .word rfl (.inl rfl)
    · rw [ht]; exact .word rfl (.inr rfl)
    · rw [ht] at hp; simp [Lib.hasPrefix] at hp
    · rw [ht]
      obtain ⟨⟨c, r, hcr, hc⟩, h46, hall⟩ := litOf_chars k n h1 h6 hn
      exact .real rfl c r hcr hc h46 hall
    · rw [ht] at hp; simp [Lib.hasPrefix] at hp

theorem dig_tok {c : UInt8} (h : 48 ≤ c.toNat ∧ c.toNat ≤ 57) : tokch c = true := by
  unfold tokch
  simp [h.1, h.2]

theorem lit_tok {t b : Nat} {x : List UInt8} (h : litF t b = some x) : x ≠ [] ∧ ∀ c ∈ x, tokch c = true := by
  cases lit_kind h with
  | int _ hn hd => exact ⟨hn, fun c hc => dig_tok (hd c hc)⟩
  | bool _ hx => rcases hx with rfl | rfl <;> exact ⟨by simp, by decide⟩
  | word _ hx => rcases hx with rfl | rfl <;> exact ⟨by simp, by decide⟩
  | real _ c r hc hd hp ha =>
    refine ⟨by rw [hc]; simp, fun c hc => ?_⟩
    rcases ha c hc with h | rfl
    · exact dig_tok h
    · decide

theorem lit_type {t b t' b' : Nat} {x : List UInt8} (h : litF t b = some x) (h' : litF t' b' = some x) : t = t' := by
  cases lit_kind h with
  | int e hn hd =>
    cases lit_kind h' with
    | int e' => rw [e, e']
    | bool _ hx => rcases hx with rfl | rfl <;> (exfalso; revert hd; decide)
    | word _ hx => rcases hx with rfl | rfl <;> (exfalso; revert hd; decide)
    | real _ c r hc hd' hp ha =>
      exfalso
      have := hd 46 hp
      revert this
      decide
  | bool e hx =>
    cases lit_kind h' with
    | int _ hn hd => rcases hx with rfl | rfl <;> (exfalso; revert hd; decide)
    | bool e' => rw [e, e']
    | word _ hx' => rcases hx with rfl | rfl <;> rcases hx' with h | h <;> cases h
    | real _ c r hc hd' hp ha => rcases hx with rfl | rfl <;> (exfalso; revert hp; decide)
  | word e hx =>
    cases lit_kind h' with
    | int _ hn hd => rcases hx with rfl | rfl <;> (exfalso; revert hd; decide)
    | bool _ hx' => rcases hx with rfl | rfl <;> rcases hx' with h | h <;> cases h
    | word e' => rw [e, e']
    | real e' => rw [e, e']
  | real e c r hc hd' hp ha =>
    cases lit_kind h' with
    | int _ hn hd =>
      exfalso
      have := hd 46 hp
      revert this
      decide
    | bool _ hx => rcases hx with rfl | rfl <;> (exfalso; revert hp; decide)
    | word e' => rw [e, e']
    | real e' => rw [e, e']

theorem name_tok (x : List UInt8) (h : isNm x = true) : x ≠ [] ∧ ∀ c ∈ x, tokch c = true := by
  cases x with
  | nil => exact absurd h (by decide)
  | cons c r =>
    rw [isNm_eq] at h
    simp only [Bool.and_eq_true] at h
    have h2 := h.2
    unfold allAl at h2
    refine ⟨by simp, fun d hd => ?_⟩
    have := List.all_eq_true.1 h2 d hd
    unfold isLet isDig at this
    unfold tokch
    simp only [Bool.or_eq_true, Bool.and_eq_true, decide_eq_true_eq] at this ⊢
    omega

theorem dig_name {c : UInt8} {r : List UInt8} (h : 48 ≤ c.toNat ∧ c.toNat ≤ 57) : isNm (c :: r) = false := by
  rw [isNm_eq]
  have : isLet c.toNat = false := by
    unfold isLet
    simp
    omega
  simp [this]

theorem lit_name {t b : Nat} {x : List UInt8} (h : litF t b = some x) : isNm x = false := by
  cases lit_kind h with
  | int _ hn hd =>
    cases x with
    | nil => exact absurd rfl hn
    | cons c r => exact dig_name (hd c (by simp))
  | bool _ hx => rcases hx with rfl | rfl <;> decide
  | word _ hx => rcases hx with rfl | rfl <;> decide
  | real _ c r hc hd hp ha => rw [hc]; exact dig_name hd

theorem fitsL : Fits litF isNm where
  litTok t b x h := lit_tok h
  litInj t b t' b' x h h' := by
    have ht := lit_type h h'
    subst ht
    obtain ⟨hb, hv, -, e⟩ := litF_some h
    obtain ⟨hb', hv', -, e'⟩ := litF_some h'
    exact ⟨rfl, val_inj hb hb' hv hv' (e.trans e'.symm)⟩
  nameTok := name_tok
  apart t b x h := lit_name h

theorem val_free {t b : Nat} {x : List UInt8} (h : vtxF t b = some x) : ∀ c ∈ x, ¬ c = 59 := by
  obtain ⟨hb, hv, rfl⟩ := vtxF_some h
  have dig : ∀ c : UInt8, 48 ≤ c.toNat ∧ c.toNat ≤ 57 → ¬ c = 59 := by rintro c h rfl; revert h; decide
  rcases valOk_type hv with rfl | rfl | rfl
  · intro c hc
    have hc : c ∈ Lib.itoa (sgn b) := hc
    unfold Lib.itoa at hc
    split at hc
    · rcases List.mem_cons.1 hc with rfl | hc
      · decide
      · exact dig c (dd_dig _ c hc)
    · exact dig c (dd_dig _ c hc)
  · have e : valTx 2 b = Lib.formatBool (decide (b = 1)) := rfl
    rw [e]
    cases decide (b = 1) <;> decide
  · obtain ⟨a1, a2⟩ := valOk3 hv
    have e : valTx 3 b = textOf (home b) := rfl
    rw [e]
    rcases textOf_cases (home b) a2 with ⟨_, ht⟩ | ⟨_, ht⟩ | ⟨_, ht⟩ | ⟨k, n, h1, h6, hn, hq, ht⟩ | ⟨k, n, h1, h6, hn, hq, ht⟩
    · rw [ht]; decide
    · rw [ht]; decide
    · rw [ht]; decide
    · rw [ht]
      intro c hc
      rcases (litOf_chars k n h1 h6 hn).2.2 c hc with h | rfl
      · exact dig c h
      · decide
    · rw [ht]
      intro c hc
      rcases List.mem_cons.1 hc with rfl | hc
      · decide
      · rcases (litOf_chars k n h1 h6 hn).2.2 c hc with h | rfl
        · exact dig c h
        · decide

theorem fitsV : FitsV isNm vtxF where
  free t b x h := val_free h
  inj t b t' b' x h h' ht := by
    obtain ⟨hb, hv, e⟩ := vtxF_some h
    obtain ⟨hb', hv', e'⟩ := vtxF_some h'
    have : t = t' := by
      rcases valOk_type hv with rfl | rfl | rfl <;> rcases valOk_type hv' with rfl | rfl | rfl <;> first | rfl | (exfalso; revert ht; decide)
    subst this
    exact ⟨rfl, val_inj hb hb' hv hv' (e.trans e'.symm)⟩
  kLocal := by decide

end Go.Proofs.YtcmahiphfpgadaaGreatDoor

/- The programs' texts tell them apart. -/
namespace Go.Proofs.YtcmahiphfpgadaaGreatDoor
set_option linter.unusedVariables false

mutual
theorem samX_eq : ∀ (x y : Ex), samX x y = true ↔ x = y
  | .mk op t b nm ks, .mk op' t' b' nm' ks' => by
    rw [samX]
    simp only [Bool.and_eq_true, decide_eq_true_eq, samL_eq ks ks', Ex.mk.injEq]
    constructor
    · rintro ⟨h1, ⟨h2, h3⟩, h4, h5⟩; exact ⟨h1, h2, h3, h4, h5⟩
    · rintro ⟨h1, h2, h3, h4, h5⟩; exact ⟨h1, ⟨h2, h3⟩, h4, h5⟩
theorem samL_eq : ∀ (x y : List Ex), samL x y = true ↔ x = y
  | [], [] => by simp [samL]
  | [], y :: s => by simp [samL]
  | x :: r, [] => by simp [samL]
  | x :: r, y :: s => by
    rw [samL, Bool.and_eq_true, samX_eq x y, samL_eq r s]
    simp
end
mutual
theorem samS_eq : ∀ (x y : St), samS x y = true ↔ x = y
  | .mk k nm e b c, .mk k' nm' e' b' c' => by
    rw [samS]
    simp only [Bool.and_eq_true, decide_eq_true_eq, samX_eq, samSL_eq b b', samSL_eq c c', St.mk.injEq]
theorem samSL_eq : ∀ (x y : List St), samSL x y = true ↔ x = y
  | [], [] => by simp [samSL]
  | [], y :: s => by simp [samSL]
  | x :: r, [] => by simp [samSL]
  | x :: r, y :: s => by
    rw [samSL, Bool.and_eq_true, samS_eq x y, samSL_eq r s]
    simp
end
theorem eqL_eq {α : Type} (f : α → α → Bool) (hf : ∀ x y, f x y = true ↔ x = y) : ∀ (x y : List α), eqL f x y = true ↔ x = y
  | [], [] => by simp [eqL]
  | [], y :: s => by simp [eqL]
  | x :: r, [] => by simp [eqL]
  | x :: r, y :: s => by
    rw [eqL, Bool.and_eq_true, hf x y, eqL_eq f hf r s]
    simp
theorem samV_eq (x y : Vr) : samV x y = true ↔ x = y := by
  obtain ⟨a, b, c⟩ := x
  obtain ⟨a', b', c'⟩ := y
  unfold samV
  simp
theorem samN_eq (x y : List UInt8) : samN x y = true ↔ x = y := by
  unfold samN
  simp
theorem samT_eq (x y : Th) : samT x y = true ↔ x = y := by
  obtain ⟨a, b, c⟩ := x
  obtain ⟨a', b', c'⟩ := y
  unfold samT
  simp only [Bool.and_eq_true, decide_eq_true_eq, eqL_eq samV samV_eq, samSL_eq, Th.mk.injEq]
theorem samP_eq (x y : Pg) : samP x y = true ↔ x = y := by
  obtain ⟨a, b, c⟩ := x
  obtain ⟨a', b', c'⟩ := y
  unfold samP
  simp only [Bool.and_eq_true, eqL_eq samV samV_eq, eqL_eq samN samN_eq, eqL_eq samT samT_eq, Pg.mk.injEq]

mutual
/-- All values are words of 64 bits. -/
def exOk : Ex → Prop
  | .mk _ _ b _ ks => b < 18446744073709551616 ∧ exOks ks
def exOks : List Ex → Prop
  | [] => True
  | e :: r => exOk e ∧ exOks r
end
mutual
def stOk : St → Prop
  | .mk _ _ e b c => exOk e ∧ stOks b ∧ stOks c
def stOks : List St → Prop
  | [] => True
  | e :: r => stOk e ∧ stOks r
end
def vrOk (v : Vr) : Prop := v.b < 18446744073709551616
def thOk (t : Th) : Prop := (∀ v ∈ t.locals, vrOk v) ∧ stOks t.body
def pgOk (p : Pg) : Prop := (∀ v ∈ p.shared, vrOk v) ∧ ∀ t ∈ p.threads, thOk t

theorem opnds_eq (op : Nat) (n : Nat) (h : (n : Int) = opnds op) : (n = 0 ∧ (op = 1 ∨ op = 2)) ∨ (n = 1 ∧ 16 ≤ op ∧ op < 20) ∨ (n = 2 ∧ 3 ≤ op ∧ op < 16) := by
  unfold opnds at h
  split at h
  · exact .inl ⟨by omega, by assumption⟩
  · split at h
    · exact .inr (.inl ⟨by omega, by omega⟩)
    · split at h
      · exact .inr (.inr ⟨by omega, by omega⟩)
      · omega

theorem mayE_pr : ∀ (h : Nat) (e : Ex), mayE h e = true → exOk e → prE litF isNm e = some (exT e) := by
  intro h
  induction h with
  | zero => intro e hm; cases hm
  | succ h ih =>
    rintro ⟨op, t, b, nm, ks⟩ hm hk
    rw [mayE, Bool.and_eq_true, decide_eq_true_eq] at hm
    obtain ⟨ho, hm⟩ := hm
    unfold exOk at hk
    rcases opnds_eq op ks.length ho with ⟨h0, hop⟩ | ⟨h1, hop⟩ | ⟨h2, hop⟩
    · have hks : ks = [] := List.length_eq_zero_iff.1 h0
      subst hks
      rcases hop with rfl | rfl
      · simp only [if_true, Bool.and_eq_true, decide_eq_true_eq] at hm
        obtain ⟨hl, rfl⟩ := hm
        show (if (1 : Nat) = 1 then (if ([] : List UInt8) = [] then litF t b else none) else _) = some (exT (.mk 1 t b [] []))
        rw [if_pos rfl, if_pos rfl, litF, if_pos ⟨hk.1, hl⟩]
        rfl
      · simp only [show ¬ (2 : Nat) = 1 by decide, if_false, if_true, Bool.and_eq_true, decide_eq_true_eq] at hm
        obtain ⟨hn, rfl, rfl⟩ := hm
        simp [prE, exT, hn]
    · obtain ⟨x, rfl⟩ : ∃ x, ks = [x] := List.length_eq_one_iff.1 h1
      have n1 : ¬ op = 1 := by omega
      have n2 : ¬ op = 2 := by omega
      simp only [n1, n2, if_false, List.all_cons, List.all_nil, Bool.and_true, Bool.and_eq_true, decide_eq_true_eq] at hm
      obtain ⟨hx, rfl, rfl, rfl⟩ := hm
      unfold exOks at hk
      have := ih x hx hk.2.1
      have ho' : op = 16 ∨ op = 17 ∨ op = 18 ∨ op = 19 := by omega
      rcases ho' with rfl | rfl | rfl | rfl <;> simp [prE, exT, this]
    · obtain ⟨x, y, rfl⟩ : ∃ x y, ks = [x, y] := by
        match ks, h2 with
        | [x, y], _ => exact ⟨x, y, rfl⟩
      have n1 : ¬ op = 1 := by omega
      have n2 : ¬ op = 2 := by omega
      simp only [n1, n2, if_false, List.all_cons, List.all_nil, Bool.and_true, Bool.and_eq_true, decide_eq_true_eq] at hm
      obtain ⟨⟨hx, hy⟩, rfl, rfl, rfl⟩ := hm
      unfold exOks exOks at hk
      have e1 := ih x hx hk.2.1
      have e2 := ih y hy hk.2.2.1
      simp [prE, exT, e1, e2, n1, n2, hop]

def prX (e : Ex) : Option (List UInt8) := if mayE 32 e = true then prE litF isNm e else none
def isNo (e : Ex) : Bool := samX e noE

theorem prX_some {e : Ex} {x : List UInt8} (h : prX e = some x) : prE litF isNm e = some x := by
  unfold prX at h
  split at h
  · exact h
  · cases h
theorem prX_may {e : Ex} (h : mayE 32 e = true) (hk : exOk e) : prX e = some (exT e) := by
  unfold prX
  rw [if_pos h]
  exact mayE_pr 32 e h hk

theorem fitsS : FitsS prX isNm isNo where
  xApart e e' x y r r' h h' d d' q := exprs_apart fitsL e e' x y r r' (prX_some h) (prX_some h') d d' q
  noOne e e' h h' := ((samX_eq e noE).1 h).trans ((samX_eq e' noE).1 h').symm
  nameTok := name_tok
  kLock := by decide
  kUnlock := by decide
  kAssert := by decide
  kIf := by decide
  kWhile := by decide
  kSkip := by decide

theorem mg_succ (d : Nat) : mg d ++ [32, 32] = mg (d + 1) := by
  show List.replicate (2 * d + 2) 32 ++ List.replicate 2 32 = List.replicate (2 * (d + 1) + 2) 32
  rw [List.replicate_append_replicate, show 2 * d + 2 + 2 = 2 * (d + 1) + 2 by omega]

theorem empty_of {α : Type} {l : List α} (h : l.isEmpty = true) : l = [] := List.isEmpty_iff.1 h

mutual
theorem mayS_pr : ∀ (d : Nat) (s : St), mayS d s = true → stOk s → prS prX isNm isNo d s = some (mg d ++ (stT (mg d) s ++ [10]))
  | d, .mk k nm e b c, hm, hk => by
    unfold stOk at hk
    rw [mayS] at hm
    rw [prS, stT]
    by_cases h1 : k = 1
    · rw [if_pos h1] at hm
      simp only [Bool.and_eq_true] at hm
      obtain ⟨hn, he, hb, hc⟩ := hm
      rw [if_pos h1, if_pos h1, if_pos ⟨hn, hb, hc⟩, prX_may he hk.1]
      simp
    · rw [if_neg h1] at hm
      rw [if_neg h1, if_neg h1]
      by_cases h2 : k = 2
      · rw [if_pos (.inl h2)] at hm
        simp only [Bool.and_eq_true] at hm
        obtain ⟨hn, he, hb, hc⟩ := hm
        rw [if_pos h2, if_pos h2, if_pos ⟨hn, he, hb, hc⟩]
        simp
      · rw [if_neg h2, if_neg h2]
        by_cases h3 : k = 3
        · rw [if_pos (.inr h3)] at hm
          simp only [Bool.and_eq_true] at hm
          obtain ⟨hn, he, hb, hc⟩ := hm
          rw [if_pos h3, if_pos h3, if_pos ⟨hn, he, hb, hc⟩]
          simp
        · rw [if_neg (by omega)] at hm
          rw [if_neg h3, if_neg h3]
          by_cases h4 : k = 4
          · rw [if_pos h4] at hm
            simp only [Bool.and_eq_true, decide_eq_true_eq] at hm
            obtain ⟨hn, he, hb, hc⟩ := hm
            rw [if_pos h4, if_pos h4, if_pos ⟨hn, hb, hc⟩, prX_may he hk.1]
            simp
          · rw [if_neg h4] at hm
            rw [if_neg h4, if_neg h4]
            by_cases h5 : k = 5
            · rw [if_pos h5] at hm
              simp only [Bool.and_eq_true, decide_eq_true_eq] at hm
              obtain ⟨hn, he, hb, hc⟩ := hm
              rw [if_pos h5, if_pos h5, if_pos hn, prX_may he hk.1, mayB_pr (d + 1) b hb hk.2.1, mayB_pr (d + 1) c hc hk.2.2, mg_succ]
              cases hce : c.isEmpty with
              | true => simp
              | false => simp
            · rw [if_neg h5] at hm
              rw [if_neg h5, if_neg h5]
              by_cases h6 : k = 6
              · rw [if_pos h6] at hm
                simp only [Bool.and_eq_true, decide_eq_true_eq] at hm
                obtain ⟨hn, he, hb, hc⟩ := hm
                rw [if_pos h6, if_pos h6, if_pos ⟨hn, hc⟩, prX_may he hk.1, mayB_pr (d + 1) b hb hk.2.1, mg_succ]
                simp
              · rw [if_neg h6] at hm
                rw [if_neg h6, if_neg h6]
                by_cases h7 : k = 7
                · rw [if_pos h7] at hm
                  simp only [Bool.and_eq_true, decide_eq_true_eq] at hm
                  obtain ⟨hn, he, hb, hc⟩ := hm
                  rw [if_pos h7, if_pos h7, if_pos ⟨hn, he, hb, hc⟩]
                  simp
                · rw [if_neg h7] at hm
                  cases hm
theorem mayB_pr : ∀ (d : Nat) (l : List St), mayB d l = true → stOks l → prL prX isNm isNo d l = some (blT (mg d) l)
  | d, [], _, _ => rfl
  | d, s :: r, hm, hk => by
    unfold stOks at hk
    rw [mayB] at hm
    simp only [Bool.and_eq_true, decide_eq_true_eq] at hm
    obtain ⟨hd, hs, hr⟩ := hm
    rw [prL, if_neg (by omega), mayS_pr d s hs hk.1, mayB_pr d r hr hk.2, blT]
    simp
end

theorem tyT_tyW {t b : Nat} (h : valOk t b = true) : tyT t = tyW t := by
  rcases valOk_type h with rfl | rfl | rfl <;> decide

theorem prV_may (w : List UInt8) (v : Vr) (h : mayV v = true) (hk : vrOk v) : prV isNm vtxF w v = some (vrT (w ++ [32]) v) := by
  unfold mayV at h
  rw [Bool.and_eq_true] at h
  unfold prV vtxF vrT
  rw [if_pos ⟨hk, h.1⟩]
  simp [h.2, tyT_tyW h.1]

theorem prAll_may {α : Type} (f : α → Option (List UInt8)) (g : α → List UInt8) : ∀ l : List α, (∀ a ∈ l, f a = some (g a)) → prAll f l = some (l.map g).flatten
  | [], _ => rfl
  | a :: r, h => by
    rw [prAll, h a List.mem_cons_self, prAll_may f g r fun x hx => h x (List.mem_cons_of_mem _ hx)]
    simp

theorem prM_may (m : List UInt8) (h : isNm m = true) : prM isNm m = some (mxT m) := by
  unfold prM mxT
  rw [if_pos h]
  simp

theorem prT_may (t : Th) (h : mayT t = true) (hk : thOk t) : prT prX isNm isNo vtxF t = some (thT t) := by
  unfold mayT at h
  simp only [Bool.and_eq_true] at h
  obtain ⟨hn, hl, hb⟩ := h
  unfold prT thT
  rw [prAll_may _ (vrT ([32, 32, 108, 111, 99, 97, 108] ++ [32])) t.locals (fun v hv => prV_may _ v (List.all_eq_true.1 hl v hv) (hk.1 v hv)), mayB_pr 0 t.body hb hk.2]
  simp [hn, vrsT, mg]

theorem prP_may (p : Pg) (h : mayP p = true) (hk : pgOk p) : prP prX isNm isNo vtxF p = some (pgT p) := by
  unfold mayP at h
  simp only [Bool.and_eq_true] at h
  obtain ⟨hs, hm, ht⟩ := h
  unfold prP pgT
  rw [prAll_may _ (vrT ([115, 104, 97, 114, 101, 100] ++ [32])) p.shared (fun v hv => prV_may _ v (List.all_eq_true.1 hs v hv) (hk.1 v hv)), prAll_may _ mxT p.mutexes (fun m hm' => prM_may m (List.all_eq_true.1 hm m hm')), prAll_may _ thT p.threads (fun t ht' => prT_may t (List.all_eq_true.1 ht t ht') (hk.2 t ht'))]
  rfl

/-- Programs that may be printed have one text just if they are the same. -/
theorem apart_math (p q : Pg) (hp : mayP p = true) (hq : mayP q = true) (kp : pgOk p) (kq : pgOk q) : pgT p = pgT q ↔ samP p q = true := by
  rw [samP_eq]
  constructor
  · intro h
    exact programs_apart fitsS fitsV p q (pgT p) (prP_may p hp kp) (by rw [h]; exact prP_may q hq kq)
  · rintro rfl
    rfl

end Go.Proofs.YtcmahiphfpgadaaGreatDoor
