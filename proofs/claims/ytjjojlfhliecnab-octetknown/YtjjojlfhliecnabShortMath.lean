/- A number's shortest bytes and how they are read: plain facts on lists of bytes. -/
import Derived.Test.YtjjojlfhliecnabShort
namespace Go.Proofs.Ytjjojlfhliecnab

/-- The number of groups of seven bits, the lowest first. -/
def dec : List UInt8 → Nat
  | [] => 0
  | b :: bs => b.toNat % 128 + 128 * dec bs

theorem dec_snoc (bs : List UInt8) (b : UInt8) : dec (bs ++ [b]) = dec bs + 128 ^ bs.length * (b.toNat % 128) := by
  induction bs with
  | nil => simp [dec]
  | cons a bs ih =>
    simp only [List.cons_append, dec, ih, List.length_cons, Nat.pow_succ]
    rw [Nat.mul_add, Nat.mul_comm (128 ^ bs.length) 128, Nat.mul_assoc]
    omega

theorem dec_lt (bs : List UInt8) : dec bs < 128 ^ bs.length := by
  induction bs with
  | nil => simp [dec]
  | cons a bs ih =>
    simp only [dec, List.length_cons, Nat.pow_succ]
    have := Nat.mod_lt a.toNat (show 128 > 0 by omega)
    omega

/-- A group's own share. -/
theorem dec_share (bs : List UInt8) : ∀ j, j < bs.length → 128 ^ j * ((bs.getD j 0).toNat % 128) ≤ dec bs := by
  induction bs with
  | nil => intro j h; simp at h
  | cons a bs ih =>
    intro j h
    cases j with
    | zero => simp [dec]
    | succ j =>
      have := ih j (by simpa using h)
      have e : (a :: bs).getD (j + 1) 0 = bs.getD j 0 := by simp [List.getD]
      rw [e]
      simp only [dec, Nat.pow_succ]
      rw [Nat.mul_comm (128 ^ j) 128, Nat.mul_assoc]
      omega

theorem ub_of (b : UInt8) (h : 128 ≤ b.toNat) : ub (b.toNat % 128 + 128) = b := by
  apply UInt8.toNat_inj.1
  rw [ub_toNat _ (by have := b.toNat_lt; omega)]
  have := b.toNat_lt
  omega

theorem ub_self (b : UInt8) : ub b.toNat = b := by
  apply UInt8.toNat_inj.1
  rw [ub_toNat _ b.toNat_lt]

theorem dec_short (f : Nat) : ∀ n, n < 128 ^ (f + 1) → dec (short f n) = n := by
  induction f with
  | zero =>
    intro n h
    simp at h
    simp [short, dec]
    rw [ub_toNat n (by omega)]
    omega
  | succ f ih =>
    intro n h
    by_cases hb : n < 128
    · rw [short_small _ _ hb]
      simp [dec]
      rw [ub_toNat n (by omega)]
      omega
    · rw [short_big f n (by omega)]
      have : n / 128 < 128 ^ (f + 1) := by rw [Nat.div_lt_iff_lt_mul (by omega)]; rwa [Nat.pow_succ] at h
      simp only [dec, ih _ this]
      rw [ub_toNat _ (by omega)]
      omega

theorem short_shape (f : Nat) : ∀ n, n < 128 ^ (f + 1) → ∃ p c, short f n = p ++ [c] ∧ (∀ b ∈ p, 128 ≤ b.toNat) ∧ c.toNat < 128 ∧ (p ≠ [] → c.toNat ≠ 0) ∧ (1 ≤ n → c.toNat ≠ 0) := by
  induction f with
  | zero =>
    intro n h
    simp at h
    exact ⟨[], ub n, rfl, by simp, by rw [ub_toNat n (by omega)]; omega, by simp, fun h1 => by rw [ub_toNat n (by omega)]; omega⟩
  | succ f ih =>
    intro n h
    by_cases hb : n < 128
    · exact ⟨[], ub n, short_small _ _ hb, by simp, by rw [ub_toNat n (by omega)]; omega, by simp, fun h1 => by rw [ub_toNat n (by omega)]; omega⟩
    · have : n / 128 < 128 ^ (f + 1) := by rw [Nat.div_lt_iff_lt_mul (by omega)]; rwa [Nat.pow_succ] at h
      obtain ⟨p, c, h1, h2, h3, h4, h5⟩ := ih _ this
      refine ⟨ub (n % 128 + 128) :: p, c, by rw [short_big f n (by omega), h1]; rfl, ?_, h3, fun _ => h5 (by omega), fun _ => h5 (by omega)⟩
      intro b hb'
      rcases List.mem_cons.1 hb' with rfl | hb'
      · rw [ub_toNat _ (by omega)]; omega
      · exact h2 b hb'

theorem short_dec (p : List UInt8) : ∀ (f : Nat) (c : UInt8), (∀ b ∈ p, 128 ≤ b.toNat) → c.toNat < 128 → (p ≠ [] → c.toNat ≠ 0) → p.length ≤ f → short f (dec (p ++ [c])) = p ++ [c] := by
  induction p with
  | nil =>
    intro f c _ hc _ _
    have e : dec ([] ++ [c]) = c.toNat := by simp [dec]; omega
    rw [e, short_small f _ hc, ub_self]
    rfl
  | cons a p ih =>
    intro f c h hc hn hf
    cases f with
    | zero => simp at hf
    | succ f =>
      have ha := h a (by simp)
      have hc0 : c.toNat ≠ 0 := hn (by simp)
      have hpos : 1 ≤ dec (p ++ [c]) := by
        have := dec_share (p ++ [c]) p.length (by simp)
        have e : (p ++ [c]).getD p.length 0 = c := by simp [List.getD]
        rw [e, Nat.mod_eq_of_lt hc] at this
        have h2 : 1 ≤ 128 ^ p.length * c.toNat := Nat.mul_pos (Nat.pow_pos (by omega)) (by omega)
        omega
      have e : dec ((a :: p) ++ [c]) = a.toNat % 128 + 128 * dec (p ++ [c]) := rfl
      rw [e, short_big f _ (by omega)]
      have e1 : (a.toNat % 128 + 128 * dec (p ++ [c])) % 128 = a.toNat % 128 := by omega
      have e2 : (a.toNat % 128 + 128 * dec (p ++ [c])) / 128 = dec (p ++ [c]) := by omega
      rw [e1, e2, ub_of a ha, ih f c (fun b hb => h b (by simp [hb])) hc (fun _ => hc0) (by simpa using hf)]
      rfl

/-- The beginning of so many bytes is the shortest bytes of a number below 2^64. -/
def ReadsAs (bs : List UInt8) (n k : Nat) : Prop := n < 18446744073709551616 ∧ k ≤ bs.length ∧ short 9 n = bs.take k

/-- So many bytes go on. -/
def Cont (bs : List UInt8) (k : Nat) : Prop := ∀ j, j < k → 128 ≤ (bs.getD j 0).toNat

theorem getD_take (bs : List UInt8) (k j : Nat) (h : j < k) : (bs.take k).getD j 0 = bs.getD j 0 := by
  simp [List.getD, List.getElem?_take_of_lt h]

/-- What a number's shortest bytes at the beginning look like. -/
theorem reads_shape {bs : List UInt8} {n k : Nat} (h : ReadsAs bs n k) : 1 ≤ k ∧ k ≤ 10 ∧ k ≤ bs.length ∧ Cont bs (k - 1) ∧ (bs.getD (k - 1) 0).toNat < 128 ∧ (1 < k → (bs.getD (k - 1) 0).toNat ≠ 0) ∧ n = dec (bs.take k) := by
  obtain ⟨h1, h2, h3⟩ := h
  obtain ⟨p, c, e, hp, hc, hn, _⟩ := short_shape 9 n (by omega)
  have hl : (bs.take k).length = k := by simp; omega
  have hk : k = p.length + 1 := by rw [← hl, ← h3, e]; simp
  have h10 := short_length 9 n
  rw [h3, hl] at h10
  have hlast : bs.getD (k - 1) 0 = c := by
    rw [← getD_take bs k (k - 1) (by omega), ← h3, e, hk]
    simp [List.getD]
  refine ⟨by omega, by omega, h2, ?_, by rw [hlast]; exact hc, fun h => by rw [hlast]; exact hn (by intro h0; rw [h0] at hk; simp at hk; omega), ?_⟩
  · intro j hj
    rw [← getD_take bs k j (by omega), ← h3, e]
    have hj' : j < p.length := by omega
    have : (p ++ [c]).getD j 0 = p[j] := by simp [List.getD, List.getElem?_append_left hj', List.getElem?_eq_getElem hj']
    rw [this]
    exact hp _ (List.getElem_mem hj')
  · rw [← h3, dec_short 9 n (by omega)]

theorem reads_past {bs : List UInt8} {n k k' : Nat} (h : ReadsAs bs n k') (hc : Cont bs k) : k < k' := by
  obtain ⟨h1, _, _, _, h5, _⟩ := reads_shape h
  rcases Nat.lt_or_ge k k' with hlt | hge
  · exact hlt
  · have := hc (k' - 1) (by omega)
    omega

theorem reads_here {bs : List UInt8} {n k k' : Nat} (h : ReadsAs bs n k') (hc : Cont bs k) (hk : (bs.getD k 0).toNat < 128) : k' = k + 1 := by
  have h0 := reads_past h hc
  obtain ⟨_, _, _, h4, _⟩ := reads_shape h
  rcases Nat.lt_or_ge (k + 1) k' with hlt | hge
  · have := h4 k (by omega); omega
  · omega

theorem reads_one {bs : List UInt8} {n k n' k' : Nat} (h : ReadsAs bs n k) (h' : ReadsAs bs n' k') : n = n' ∧ k = k' := by
  obtain ⟨a1, _, _, a4, a5, _, a7⟩ := reads_shape h
  have e := reads_here h' a4 a5
  obtain ⟨_, _, _, _, _, _, b7⟩ := reads_shape h'
  have : k' = k := by omega
  subst this
  exact ⟨by rw [a7, b7], rfl⟩

theorem no_end {bs : List UInt8} {n k' : Nat} (hc : Cont bs bs.length) : ¬ ReadsAs bs n k' := fun h => by
  have := reads_past h hc
  have := h.2.1
  omega

theorem no_long {bs : List UInt8} {n k k' : Nat} (hc : Cont bs k) (hk : 10 ≤ k) : ¬ ReadsAs bs n k' := fun h => by
  have := reads_past h hc
  have := (reads_shape h).2.1
  omega

theorem no_great {bs : List UInt8} {n k k' : Nat} (hc : Cont bs k) (hk : 18446744073709551616 ≤ (bs.getD k 0).toNat % 128 * 128 ^ k) : ¬ ReadsAs bs n k' := fun h => by
  have h0 := reads_past h hc
  obtain ⟨_, _, h3, _, _, _, h7⟩ := reads_shape h
  have := dec_share (bs.take k') k (by simp; omega)
  rw [getD_take bs k' k h0, ← h7, Nat.mul_comm] at this
  have := h.1
  omega

theorem no_nought {bs : List UInt8} {n k k' : Nat} (hc : Cont bs k) (hk : 0 < k) (h0 : (bs.getD k 0).toNat = 0) : ¬ ReadsAs bs n k' := fun h => by
  have e := reads_here h hc (by omega)
  obtain ⟨_, _, _, _, _, h6, _⟩ := reads_shape h
  subst e
  exact h6 (by omega) h0

theorem take_succ_getD (bs : List UInt8) (k : Nat) (h : k < bs.length) : bs.take (k + 1) = bs.take k ++ [bs.getD k 0] := by
  rw [List.take_succ_eq_append_getElem h]
  simp [List.getD, List.getElem?_eq_getElem h]

theorem dec_take (bs : List UInt8) (k : Nat) (h : k < bs.length) : dec (bs.take (k + 1)) = dec (bs.take k) + (bs.getD k 0).toNat % 128 * 128 ^ k := by
  rw [take_succ_getD bs k h, dec_snoc, Nat.mul_comm]
  have : (bs.take k).length = k := by simp; omega
  rw [this]

theorem cont_succ {bs : List UInt8} {k : Nat} (hc : Cont bs k) (h : 128 ≤ (bs.getD k 0).toNat) : Cont bs (k + 1) := fun j hj => by
  rcases Nat.lt_or_ge j k with hlt | hge
  · exact hc j hlt
  · have : j = k := by omega
    subst this; exact h

theorem reads_yes {bs : List UInt8} {k : Nat} (hc : Cont bs k) (hk9 : k ≤ 9) (hlt : k < bs.length) (h : (bs.getD k 0).toNat < 128) (h0 : 0 < k → (bs.getD k 0).toNat ≠ 0) (hb : dec (bs.take (k + 1)) < 18446744073709551616) :
    ReadsAs bs (dec (bs.take (k + 1))) (k + 1) := by
  refine ⟨hb, by omega, ?_⟩
  rw [take_succ_getD bs k hlt]
  have hl : (bs.take k).length = k := by simp; omega
  refine short_dec _ 9 _ ?_ h (fun hne => h0 ?_) (by omega)
  · intro b hb'
    obtain ⟨j, hj, rfl⟩ := List.getElem_of_mem hb'
    have := hc j (by omega)
    rw [← getD_take bs k j (by omega)] at this
    simpa [List.getD, List.getElem?_eq_getElem hj] using this
  · rcases Nat.eq_zero_or_pos k with rfl | h
    · simp at hne
    · exact h

/-- The sum stays below 2^64. -/
theorem sum_lt {bs : List UInt8} {k : Nat} (hk9 : k ≤ 9) (hlt : k < bs.length) (h : (bs.getD k 0).toNat % 128 * 128 ^ k < 18446744073709551616) : dec (bs.take (k + 1)) < 18446744073709551616 := by
  have h1 := dec_lt (bs.take (k + 1))
  have hl : (bs.take (k + 1)).length = k + 1 := by simp; omega
  rw [hl] at h1
  rcases Nat.lt_or_ge k 9 with h8 | h9
  · have : 128 ^ (k + 1) ≤ 128 ^ 9 := Nat.pow_le_pow_right (by omega) (by omega)
    omega
  · have : k = 9 := by omega
    subst this
    rw [dec_take bs 9 hlt]
    have h2 := dec_lt (bs.take 9)
    have hl2 : (bs.take 9).length = 9 := by simp; omega
    rw [hl2] at h2
    omega

end Go.Proofs.Ytjjojlfhliecnab
