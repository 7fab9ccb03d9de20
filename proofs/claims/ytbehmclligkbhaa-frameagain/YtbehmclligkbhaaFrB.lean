/- Frames and what is scanned, as plain functions: what is framed is read, a turned bit is told. -/
import Derived.Test.YtbehmclligkbhaaFrM
namespace Go.Proofs.Ytbehmclligkbhaa
set_option linter.unusedVariables false

def frameL (r : List UInt8) : List UInt8 := bytesOf 4 r.length ++ (bytesOf 4 (4294967295 - r.length) ++ (r ++ bytesOf 4 (crc r)))
def num4 (bs : List UInt8) (k : Nat) : Nat := number ((bs.drop k).take 4)
def scanF : Nat → List UInt8 → List (List UInt8) × Nat × Nat
  | 0, _ => ([], 0, 0)
  | f + 1, bs =>
    if bs.length = 0 then ([], 0, 0) else if bs.length < 8 then ([], 0, 1) else if num4 bs 4 ≠ 4294967295 - num4 bs 0 ∨ 65536 < num4 bs 0 then ([], 0, 2)
    else if bs.length < num4 bs 0 + 12 then ([], 0, 1) else if num4 bs (num4 bs 0 + 8) ≠ crc ((bs.drop 8).take (num4 bs 0)) then ([], 0, 2)
    else (((bs.drop 8).take (num4 bs 0)) :: (scanF f (bs.drop (num4 bs 0 + 12))).1, num4 bs 0 + 12 + (scanF f (bs.drop (num4 bs 0 + 12))).2.1, (scanF f (bs.drop (num4 bs 0 + 12))).2.2)
theorem scanF_succ (f : Nat) (bs : List UInt8) : scanF (f + 1) bs =
    if bs.length = 0 then ([], 0, 0) else if bs.length < 8 then ([], 0, 1) else if num4 bs 4 ≠ 4294967295 - num4 bs 0 ∨ 65536 < num4 bs 0 then ([], 0, 2)
    else if bs.length < num4 bs 0 + 12 then ([], 0, 1) else if num4 bs (num4 bs 0 + 8) ≠ crc ((bs.drop 8).take (num4 bs 0)) then ([], 0, 2)
    else (((bs.drop 8).take (num4 bs 0)) :: (scanF f (bs.drop (num4 bs 0 + 12))).1, num4 bs 0 + 12 + (scanF f (bs.drop (num4 bs 0 + 12))).2.1, (scanF f (bs.drop (num4 bs 0 + 12))).2.2) := rfl
/-- The records of bytes, how many bytes their frames have, and how what stands behind is. -/
def scanL (bs : List UInt8) : List (List UInt8) × Nat × Nat := scanF bs.length bs
theorem frameL_len (r : List UInt8) : (frameL r).length = r.length + 12 := by
  simp only [frameL, List.length_append, bytesOf_length]; omega
theorem number_cons_from (bs : List UInt8) (n : Nat) : bs.foldl (fun n b => n * 256 + b.toNat) n = n * 256 ^ bs.length + number bs := by
  induction bs generalizing n with
  | nil => simp [number]
  | cons b bs ih =>
    rw [List.foldl_cons, ih]
    unfold number
    rw [List.foldl_cons, ih (0 * 256 + b.toNat)]
    rw [List.length_cons, Nat.pow_succ]
    have : (n * 256 + b.toNat) * 256 ^ bs.length = n * (256 ^ bs.length * 256) + b.toNat * 256 ^ bs.length := by rw [Nat.add_mul, Nat.mul_assoc, Nat.mul_comm 256]
    rw [this, Nat.zero_mul, Nat.zero_add, Nat.add_assoc]
    rfl
theorem number_cons (b : UInt8) (bs : List UInt8) : number (b :: bs) = b.toNat * 256 ^ bs.length + number bs := by
  have := number_cons_from bs b.toNat
  unfold number at this ⊢
  rw [List.foldl_cons, Nat.zero_mul, Nat.zero_add]
  exact this
theorem number_bytesOf : ∀ (s n : Nat), n < 256 ^ s → number (bytesOf s n) = n
  | 0, n, h => by simp [bytesOf, number] at h ⊢; omega
  | s + 1, n, h => by
    have h2 : number (bytesOf s n) = n % 256 ^ s := by
      have e : ∀ (t m : Nat), bytesOf t m = bytesOf t (m % 256 ^ t) := by
        intro t
        suffices H : ∀ k, k ≤ t → ∀ m, bytesOf k m = bytesOf k (m % 256 ^ t) from fun m => H t (Nat.le_refl _) m
        intro k
        induction k with
        | zero => intro _ m; rfl
        | succ k ih =>
          intro hk m
          have h3 : m % 256 ^ t / 256 ^ k % 256 = m / 256 ^ k % 256 := by
            obtain ⟨d, rfl⟩ : ∃ d, t = k + 1 + d := ⟨t - (k + 1), by omega⟩
            rw [show 256 ^ (k + 1 + d) = 256 ^ k * (256 * 256 ^ d) by rw [Nat.pow_add, Nat.pow_succ, Nat.mul_assoc], Nat.mod_mul_right_div_self, Nat.mod_mul_right_mod]
          show ub (m / 256 ^ k % 256) :: bytesOf k m = ub (m % 256 ^ t / 256 ^ k % 256) :: bytesOf k (m % 256 ^ t)
          rw [h3, ih (by omega)]
      rw [e]
      exact number_bytesOf s _ (Nat.mod_lt _ (Nat.pow_pos (by decide)))
    have hq : n / 256 ^ s < 256 := by rw [Nat.div_lt_iff_lt_mul (Nat.pow_pos (by decide))]; rw [Nat.pow_succ] at h; rw [Nat.mul_comm]; exact h
    show number (ub (n / 256 ^ s % 256) :: bytesOf s n) = n
    rw [number_cons, h2, bytesOf_length, ub_toNat _ (Nat.mod_lt _ (by decide)), Nat.mod_eq_of_lt hq, Nat.mul_comm]
    exact Nat.div_add_mod n (256 ^ s)
theorem number_inj : ∀ {xs ys : List UInt8}, xs.length = ys.length → number xs = number ys → xs = ys
  | [], [], _, _ => rfl
  | [], y :: ys, h, _ => by simp at h
  | x :: xs, [], h, _ => by simp at h
  | x :: xs, y :: ys, h, e => by
    have hl : xs.length = ys.length := by simpa using h
    rw [number_cons, number_cons, hl] at e
    have h1 := number_lt xs
    have h2 := number_lt ys
    rw [hl] at h1
    have hp : 0 < 256 ^ ys.length := Nat.pow_pos (by decide)
    have e1 : x.toNat = y.toNat := by
      have a1 : (x.toNat * 256 ^ ys.length + number xs) / 256 ^ ys.length = x.toNat := by rw [Nat.mul_comm, Nat.mul_add_div hp, Nat.div_eq_of_lt h1, Nat.add_zero]
      have a2 : (y.toNat * 256 ^ ys.length + number ys) / 256 ^ ys.length = y.toNat := by rw [Nat.mul_comm, Nat.mul_add_div hp, Nat.div_eq_of_lt h2, Nat.add_zero]
      rw [← a1, e, a2]
    rw [e1] at e
    rw [UInt8.toNat_inj.1 e1, number_inj hl (by omega)]
theorem bytesOf_number {xs : List UInt8} (h : xs.length = 4) : bytesOf 4 (number xs) = xs :=
  number_inj (by rw [bytesOf_length, h]) (number_bytesOf 4 _ (by have := number_lt xs; rwa [h] at this))
theorem num4_lt (bs : List UInt8) (k : Nat) : num4 bs k < 4294967296 := by
  have h := number_lt ((bs.drop k).take 4)
  refine Nat.lt_of_lt_of_le h ?_
  rw [List.length_take]
  exact Nat.pow_le_pow_right (by decide) (Nat.min_le_left 4 _)
/-- Four parts: two numbers, a record, a number. -/
theorem parts_nums {h1 h2 r h3 rest : List UInt8} (e1 : h1.length = 4) (e2 : h2.length = 4) (e3 : h3.length = 4) :
    num4 (h1 ++ (h2 ++ (r ++ (h3 ++ rest)))) 0 = number h1 ∧ num4 (h1 ++ (h2 ++ (r ++ (h3 ++ rest)))) 4 = number h2 ∧ num4 (h1 ++ (h2 ++ (r ++ (h3 ++ rest)))) (r.length + 8) = number h3 ∧
    ((h1 ++ (h2 ++ (r ++ (h3 ++ rest)))).drop 8).take r.length = r ∧ (h1 ++ (h2 ++ (r ++ (h3 ++ rest)))).drop (r.length + 12) = rest ∧ (h1 ++ (h2 ++ (r ++ (h3 ++ rest)))).length = r.length + 12 + rest.length := by
  have d4 : ∀ t : List UInt8, (h1 ++ t).drop 4 = t := fun t => by rw [← e1]; exact List.drop_left
  have d8 : ∀ t : List UInt8, (h1 ++ (h2 ++ t)).drop 8 = t := fun t => by rw [show 8 = 4 + 4 from rfl, ← List.drop_drop, d4, ← e2]; exact List.drop_left
  have dr : ∀ t : List UInt8, (h1 ++ (h2 ++ (r ++ t))).drop (r.length + 8) = t := fun t => by rw [Nat.add_comm, ← List.drop_drop, d8]; exact List.drop_left
  refine ⟨?_, ?_, ?_, ?_, ?_, ?_⟩
  · unfold num4; rw [List.drop_zero, ← e1, List.take_left]
  · unfold num4; rw [d4, ← e2, List.take_left]
  · unfold num4; rw [dr, ← e3, List.take_left]
  · rw [d8, List.take_left]
  · rw [show r.length + 12 = (r.length + 8) + 4 from rfl, ← List.drop_drop, dr, ← e3, List.drop_left]
  · simp only [List.length_append, e1, e2, e3]; omega
theorem frame_rest (r rest : List UInt8) : frameL r ++ rest = bytesOf 4 r.length ++ (bytesOf 4 (4294967295 - r.length) ++ (r ++ (bytesOf 4 (crc r) ++ rest))) := by
  simp [frameL]
theorem scanF_frame (f : Nat) (r rest : List UInt8) (h : r.length ≤ 65536) : scanF (f + 1) (frameL r ++ rest) = (r :: (scanF f rest).1, r.length + 12 + (scanF f rest).2.1, (scanF f rest).2.2) := by
  obtain ⟨q1, q2, q3, q4, q5, q6⟩ := parts_nums (r := r) (rest := rest) (bytesOf_length 4 r.length) (bytesOf_length 4 (4294967295 - r.length)) (bytesOf_length 4 (crc r))
  rw [number_bytesOf 4 _ (by omega)] at q1 q2
  rw [number_bytesOf 4 _ (crc_lt r)] at q3
  rw [frame_rest, scanF_succ]
  rw [q1, q2, q3, q4, q5, q6, if_neg (by omega), if_neg (by omega), if_neg (by omega), if_neg (by omega), if_neg (by simp)]
/-- More fuel than bytes changes nothing. -/
theorem scanF_fuel : ∀ (f g : Nat) (bs : List UInt8), bs.length ≤ f → bs.length ≤ g → scanF f bs = scanF g bs
  | 0, 0, _, _, _ => rfl
  | 0, g + 1, bs, h, _ => by rw [scanF_succ, if_pos (by omega)]; rfl
  | f + 1, 0, bs, _, h => by rw [scanF_succ, if_pos (by omega)]; rfl
  | f + 1, g + 1, bs, h1, h2 => by
    rw [scanF_succ, scanF_succ]
    by_cases h0 : bs.length = 0
    · rw [if_pos h0, if_pos h0]
    have e := scanF_fuel f g (bs.drop (num4 bs 0 + 12)) (by rw [List.length_drop]; omega) (by rw [List.length_drop]; omega)
    rw [e]
theorem scan_frame (r rest : List UInt8) (h : r.length ≤ 65536) : scanL (frameL r ++ rest) = (r :: (scanL rest).1, r.length + 12 + (scanL rest).2.1, (scanL rest).2.2) := by
  unfold scanL
  have hl : (frameL r ++ rest).length = (r.length + 11 + rest.length) + 1 := by rw [List.length_append, frameL_len]; omega
  rw [hl, scanF_frame _ _ _ h, scanF_fuel (r.length + 11 + rest.length) rest.length rest (by omega) (Nat.le_refl _)]
theorem scan_nil : scanL [] = ([], 0, 0) := rfl
def flatF (l : List (List UInt8)) : List UInt8 := l.flatMap frameL
theorem scan_frames : ∀ (l : List (List UInt8)) (rest : List UInt8), (∀ r ∈ l, r.length ≤ 65536) → scanL (flatF l ++ rest) = (l ++ (scanL rest).1, (flatF l).length + (scanL rest).2.1, (scanL rest).2.2)
  | [], rest, _ => by simp [flatF]
  | r :: l, rest, h => by
    have e : flatF (r :: l) ++ rest = frameL r ++ (flatF l ++ rest) := by simp [flatF]
    rw [e, scan_frame _ _ (h r List.mem_cons_self), scan_frames l rest fun x hx => h x (List.mem_cons_of_mem _ hx)]
    have e2 : (flatF (r :: l)).length = r.length + 12 + (flatF l).length := by simp [flatF, frameL_len]
    simp only [e2, Nat.add_assoc, List.cons_append]
/-- A beginning of a frame that is not all of it is torn, or nothing. -/
theorem scan_cut (r : List UInt8) (cut : Nat) (h : r.length ≤ 65536) (hc : cut < r.length + 12) : scanL ((frameL r).take cut) = ([], 0, if cut = 0 then 0 else 1) := by
  have hl : ((frameL r).take cut).length = cut := by rw [List.length_take, frameL_len]; omega
  by_cases h0 : cut = 0
  · subst h0; simp [scanL, scanF]
  rw [if_neg h0]
  unfold scanL
  rw [hl]
  obtain ⟨k, rfl⟩ : ∃ k, cut = k + 1 := ⟨cut - 1, by omega⟩
  rw [scanF_succ, hl, if_neg (by omega)]
  by_cases h8 : k + 1 < 8
  · rw [if_pos h8]
  rw [if_neg h8]
  obtain ⟨q1, q2, _⟩ := parts_nums (r := r) (rest := []) (bytesOf_length 4 r.length) (bytesOf_length 4 (4294967295 - r.length)) (bytesOf_length 4 (crc r))
  rw [number_bytesOf 4 _ (by omega)] at q1 q2
  rw [List.append_nil] at q1 q2
  have e : ∀ j, j + 4 ≤ k + 1 → num4 ((frameL r).take (k + 1)) j = num4 (frameL r) j := fun j hj => by
    unfold num4
    rw [List.drop_take, List.take_take, Nat.min_eq_left (by omega)]
  rw [e 0 (by omega), e 4 (by omega), show num4 (frameL r) 0 = r.length from q1, show num4 (frameL r) 4 = 4294967295 - r.length from q2, if_neg (by omega), if_pos (by omega)]
/-- What is scanned is framed again as what was read. -/
theorem scan_again : ∀ (f : Nat) (bs : List UInt8), bs.length ≤ f → flatF (scanF f bs).1 = bs.take (scanF f bs).2.1 ∧ (scanF f bs).2.1 ≤ bs.length ∧ (scanF f bs).2.2 ≤ 2 ∧ ((scanF f bs).2.2 = 0 ↔ (scanF f bs).2.1 = bs.length) ∧ ∀ r ∈ (scanF f bs).1, r.length ≤ 65536
  | 0, bs, h => by
    have : bs.length = 0 := by omega
    simp [scanF, flatF, this]
  | f + 1, bs, h => by
    rw [scanF_succ]
    by_cases h0 : bs.length = 0
    · rw [if_pos h0]; simp [flatF, h0]
    rw [if_neg h0]
    by_cases h8 : bs.length < 8
    · rw [if_pos h8]; simp [flatF]; omega
    rw [if_neg h8]
    by_cases hb : num4 bs 4 ≠ 4294967295 - num4 bs 0 ∨ 65536 < num4 bs 0
    · rw [if_pos hb]; simp [flatF]; omega
    rw [if_neg hb]
    by_cases hs : bs.length < num4 bs 0 + 12
    · rw [if_pos hs]; simp [flatF]; omega
    rw [if_neg hs]
    by_cases hc : num4 bs (num4 bs 0 + 8) ≠ crc ((bs.drop 8).take (num4 bs 0))
    · rw [if_pos hc]; simp [flatF]; omega
    rw [if_neg hc]
    obtain ⟨p1, p2, p3, p4, p5⟩ := scan_again f (bs.drop (num4 bs 0 + 12)) (by rw [List.length_drop]; omega)
    obtain ⟨n, hn⟩ : ∃ n, n = num4 bs 0 := ⟨_, rfl⟩
    rw [← hn] at hb hs hc p1 p2 p3 p4 p5 ⊢
    have hr : ((bs.drop 8).take n).length = n := by rw [List.length_take, List.length_drop]; omega
    have hbs : bs = frameL ((bs.drop 8).take n) ++ bs.drop (n + 12) := by
      have t4 : ∀ k, k + 4 ≤ bs.length → (((bs.drop k).take 4).length = 4) := fun k hk => by rw [List.length_take, List.length_drop]; omega
      have b0 : bytesOf 4 n = (bs.drop 0).take 4 := by rw [hn]; exact bytesOf_number (t4 0 (by omega))
      have b4 : bytesOf 4 (4294967295 - n) = (bs.drop 4).take 4 := by
        have : num4 bs 4 = 4294967295 - n := by omega
        rw [← this]; exact bytesOf_number (t4 4 (by omega))
      have b8 : bytesOf 4 (crc ((bs.drop 8).take n)) = (bs.drop (n + 8)).take 4 := by
        have : num4 bs (n + 8) = crc ((bs.drop 8).take n) := by omega
        rw [← this]; exact bytesOf_number (t4 (n + 8) (by omega))
      rw [frame_rest, hr, b0, b4, b8]
      conv => lhs; rw [← List.take_append_drop 4 bs]
      rw [List.drop_zero]
      congr 1
      conv => lhs; rw [← List.take_append_drop 4 (bs.drop 4)]
      congr 1
      rw [List.drop_drop]
      conv => lhs; rw [← List.take_append_drop n (bs.drop (4 + 4))]
      congr 1
      rw [List.drop_drop]
      conv => lhs; rw [← List.take_append_drop 4 (bs.drop (4 + 4 + n))]
      rw [List.drop_drop, show 4 + 4 + n = n + 8 by omega, show n + 8 + 4 = n + 12 by omega]
    have hfl : (frameL ((bs.drop 8).take n)).length = n + 12 := by rw [frameL_len, hr]
    rw [List.length_drop] at p2 p4
    refine ⟨?_, by simp only; omega, p3, ?_, ?_⟩
    · show frameL ((bs.drop 8).take n) ++ flatF _ = _
      rw [p1]
      obtain ⟨S, hS⟩ : ∃ S, S = (scanF f (bs.drop (n + 12))).2.1 := ⟨_, rfl⟩
      rw [← hS]
      have hfr : bs.take (n + 12) = frameL ((bs.drop 8).take n) := by
        have := congrArg (List.take (n + 12)) hbs
        rw [this, ← hfl, List.take_left]
      rw [List.take_add, hfr]
    · simp only
      rw [p4]; omega
    · intro r hr2
      rcases List.mem_cons.1 hr2 with rfl | hr2
      · rw [hr]; omega
      · exact p5 r hr2
end Go.Proofs.Ytbehmclligkbhaa
