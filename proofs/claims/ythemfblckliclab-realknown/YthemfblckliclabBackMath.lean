/- A text tells a real apart from any other; a literal is found again, no longer. -/
import Derived.Test.YthemfblckliclabText
namespace Go.Proofs.Ythemfblckliclab
set_option linter.unusedVariables false

theorem number_bytesOf (s : Nat) : ∀ n, number (bytesOf s n) = n % 256 ^ s := by
  have key : ∀ (s n acc : Nat), (bytesOf s n).foldl (fun n b => n * 256 + b.toNat) acc = acc * 256 ^ s + n % 256 ^ s := by
    intro s
    induction s with
    | zero => intro n acc; simp [bytesOf, Nat.mod_one]
    | succ s ih =>
      intro n acc
      have hlt : n / 256 ^ s % 256 < 256 := Nat.mod_lt _ (by omega)
      rw [bytesOf, List.foldl_cons, ih, ub_toNat _ hlt]
      have h1 : n % 256 ^ (s + 1) = n % 256 ^ s + 256 ^ s * (n / 256 ^ s % 256) := by
        rw [Nat.pow_succ, Nat.mod_mul]
      rw [h1, Nat.pow_succ, Nat.add_mul, Nat.mul_assoc, Nat.mul_comm 256 (256 ^ s), Nat.mul_comm (n / 256 ^ s % 256) (256 ^ s)]
      omega
  intro n
  have := key s n 0
  simpa [number] using this

/-- The real of a literal. -/
def litReal (l : List UInt8) : Nat := quo (litNum l) (10 ^ (behindOf l).length)

/-- The real that a text tells. -/
def back (l : List UInt8) : Nat :=
  if l.getD 0 0 = 110 then NAN
  else if l.getD 0 0 = 105 then 9218868437227405312
  else if l.getD 0 0 = 35 then (match unhex (l.drop 1) with | some bs => number bs | none => 0)
  else if l.getD 0 0 = 45 then (if l.getD 1 0 = 105 then 18442240474082181120 else fneg (litReal (l.drop 1)))
  else litReal l

theorem lit_head (k n : Nat) (h1 : 1 ≤ k) (h6 : k ≤ 6) (hn : n < 1000000000000000) : 48 ≤ ((litOf k n).getD 0 0).toNat ∧ ((litOf k n).getD 0 0).toNat ≤ 57 := by
  obtain ⟨hl, _, _, ha⟩ := litOf_lit k n h1 h6 hn
  have hs := lit_split hl
  have hg := hl.2.2.2.1
  have h0 := hg.2.2.1 0 hg.1
  have hlen := hg.1
  rw [hs]
  generalize aheadOf (litOf k n) = A at h0 hlen
  cases A with
  | nil => simp at hlen
  | cons c A => simpa using h0

theorem pr_real {x k n : Nat} (h : pr x 1 6 = some (k, n)) : 1 ≤ k ∧ k ≤ 6 ∧ n < 1000000000000000 ∧ quo n (10 ^ k) = home x := by
  obtain ⟨h1, h2, h3⟩ := pr_sound 6 1 k n x h
  obtain ⟨h4, h5⟩ := digits_sound h3
  exact ⟨h1, by omega, h5, h4⟩

theorem litReal_litOf (k n : Nat) (h1 : 1 ≤ k) (h6 : k ≤ 6) (hn : n < 1000000000000000) : litReal (litOf k n) = quo n (10 ^ k) := by
  obtain ⟨_, h2, h3, _⟩ := litOf_lit k n h1 h6 hn
  unfold litReal
  rw [h2, h3]

theorem back_text (h : Nat) (hl : h < 18446744073709551616) (hh : home h = h) : back (textOf h) = h := by
  unfold textOf
  by_cases c1 : h = NAN
  · rw [if_pos c1]; unfold back; simp [c1]
  rw [if_neg c1]
  by_cases c2 : h = 9218868437227405312
  · rw [if_pos c2, c2]; decide
  rw [if_neg c2]
  by_cases c3 : h = 18442240474082181120
  · rw [if_pos c3, c3]; decide
  rw [if_neg c3]
  cases hp : pr h 1 6 with
  | some kn =>
    obtain ⟨k, n⟩ := kn
    obtain ⟨h1, h6, hn, hq⟩ := pr_real hp
    have hd := lit_head k n h1 h6 hn
    simp only
    unfold back
    rw [if_neg (by intro e; rw [e] at hd; simp at hd), if_neg (by intro e; rw [e] at hd; simp at hd), if_neg (by intro e; rw [e] at hd; simp at hd), if_neg (by intro e; rw [e] at hd; simp at hd)]
    rw [litReal_litOf k n h1 h6 hn, hq, hh]
  | none =>
    simp only
    cases hq : pr (fneg h) 1 6 with
    | some kn =>
      obtain ⟨k, n⟩ := kn
      obtain ⟨h1, h6, hn, hq⟩ := pr_real hq
      have hd := lit_head k n h1 h6 hn
      simp only
      unfold back
      have e0 : (45 :: litOf k n).getD 0 0 = 45 := rfl
      have e1 : (45 :: litOf k n).getD 1 0 = (litOf k n).getD 0 0 := by simp [List.getD]
      rw [e0, e1, if_neg (by decide), if_neg (by decide), if_neg (by decide), if_pos rfl, if_neg (by intro e; rw [e] at hd; simp at hd)]
      rw [List.drop_one, List.tail_cons, litReal_litOf k n h1 h6 hn, hq, home_fneg h hl, fneg_fneg hl, hh]
    | none =>
      simp only
      unfold back
      have e0 : (35 :: hexOf (bytesOf 8 h)).getD 0 0 = 35 := rfl
      rw [e0, if_neg (by decide), if_neg (by decide), if_pos rfl, List.drop_one, List.tail_cons, unhex_hex]
      simp only
      rw [number_bytesOf]
      exact Nat.mod_eq_of_lt hl

theorem text_apart {h h' : Nat} (hl : h < 18446744073709551616) (hl' : h' < 18446744073709551616) (hh : home h = h) (hh' : home h' = h') (e : textOf h = textOf h') : h = h' := by
  rw [← back_text h hl hh, e, back_text h' hl' hh']

theorem pr_nan : pr NAN 1 6 = none := by decide +kernel
theorem pr_inf : pr 9218868437227405312 1 6 = none := by decide +kernel
theorem pr_minf : pr 18442240474082181120 1 6 = none := by decide +kernel

theorem text_lit {h k n : Nat} (hp : pr h 1 6 = some (k, n)) : textOf h = litOf k n := by
  unfold textOf
  rw [if_neg (by rintro rfl; rw [pr_nan] at hp; cases hp), if_neg (by rintro rfl; rw [pr_inf] at hp; cases hp), if_neg (by rintro rfl; rw [pr_minf] at hp; cases hp), hp]

/-- What is read is told as a literal of it that is no longer. -/
theorem lit_again {l : List UInt8} (h : IsLit l) : ∃ j n, pr (litReal l) 1 6 = some (j, n) ∧ 1 ≤ j ∧ j ≤ 6 ∧ n < 1000000000000000 ∧ quo n (10 ^ j) = litReal l ∧ (litOf j n).length ≤ l.length := by
  obtain ⟨hs1, hs2, hs3⟩ := lit_self h
  have hk1 := h.1
  have hk6 := h.2.1
  have hd := digits_complete (litNum l) (behindOf l).length hk1 hk6 hs2
  obtain ⟨j, n, hp, hj⟩ := pr_complete 6 1 (behindOf l).length (litNum l) (litReal l) hk1 (by omega) hd
  obtain ⟨h1, h6, hn, hq⟩ := pr_real hp
  have hq' : quo n (10 ^ j) = litReal l := by rw [hq]; exact quo_home _ _
  refine ⟨j, n, hp, h1, h6, hn, hq', ?_⟩
  have hsc : litNum l = n * 10 ^ ((behindOf l).length - j) := quo_scales h1 hj hk6 hs2 hn hq'.symm
  obtain ⟨g1, g2, g3, g4⟩ := litOf_lit j n h1 h6 hn
  have e1 : n / 10 ^ j = decVal (aheadOf l) := by
    rw [← hs3, hsc]
    have ek : 10 ^ (behindOf l).length = 10 ^ j * 10 ^ ((behindOf l).length - j) := by rw [← Nat.pow_add]; congr 1; omega
    rw [ek, Nat.mul_div_mul_right _ _ (Nat.pow_pos (by decide))]
  have e2 : aheadOf (litOf j n) = aheadOf l := by rw [g4, e1]; exact digs_of_good _ h.2.2.2.1
  have l1 := congrArg List.length (lit_split g1)
  have l2 := congrArg List.length (lit_split h)
  rw [List.length_append, List.length_cons, e2, g2] at l1
  rw [List.length_append, List.length_cons] at l2
  omega

end Go.Proofs.Ythemfblckliclab
