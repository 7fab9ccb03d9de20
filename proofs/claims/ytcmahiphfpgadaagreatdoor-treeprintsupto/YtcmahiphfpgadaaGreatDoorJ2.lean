/- Joined texts of the proof. -/
import Derived.Test.YtcmahiphfpgadaaGreatDoorJ1
import Derived.Laws.BytesArg
import Derived.Lib.Bytealg
import Derived.Deep.QuietTactic
import Derived.BigQuiet
import Derived.Deep.RegionHeld3
import Derived.Deep.AppendLies
import Derived.Deep.DrawnRows
import Derived.Lib.Strings
import Derived.Test.YtcmahiphfpgadaaGreatDoorRows
import Derived.WalkKit
import Derived.WalkSpells
import Derived.WalkLawsBesides
import Derived.WalkSmall
import Derived.Laws.Bits64

/- The real of a literal, and its digits found again: no program is named here. -/
namespace Go.Proofs.YtcmahiphfpgadaaGreatDoor
open Ieee
set_option linter.unusedVariables false

theorem pw_congr {a b : Nat} (h : a = b) : pw a = pw b := by rw [h]
theorem U_def : U = pw 1074 := rfl

/-- The nearest word of a number below 2^50 is off by a sixteenth at most. -/
theorem near_err (m : Nat) (p : Int) (C : Nat) (hm : m ≠ 0) (hC : 1074 ≤ C) (hp : -(C : Int) ≤ p) (hB : m * pw (p + C).toNat < pw (50 + C)) :
  ∃ v : Nat, val (D.nearest false m p) = (v : Int) ∧ 16 * (v * pw (C - 1074)) ≤ 16 * (m * pw (p + C).toNat) + pw C ∧ 16 * (m * pw (p + C).toNat) ≤ 16 * (v * pw (C - 1074)) + pw C := by
 obtain ⟨b1, b2⟩ := log2_bounds m hm
 have hlog : (m.log2 : Int) + p < 50 := by
  have h1 : pw m.log2 * pw (p + C).toNat < pw (50 + C) := Nat.lt_of_le_of_lt (Nat.mul_le_mul_right _ b1) hB
  rw [← pw_add] at h1
  have h2 : m.log2 + (p + C).toNat < 50 + C := (Nat.pow_lt_pow_iff_right (show 1 < 2 by decide)).1 h1
  omega
 obtain ⟨m', e', hr, hm'⟩ := nearest_read false m p hm (by omega)
 have hl1 := last_ge m p
 have hl2 : lastOf m p ≤ -3 := by unfold lastOf; omega
 refine ⟨keptOf m p * pw (lastOf m p + 1074).toNat, ?_, ?_⟩
 ·unfold val; rw [hr]
  show signed false m' (e' + 1074).toNat = _
  rw [signed_eq, hm']; rfl
 ·have e1 : pw (lastOf m p + 1074).toNat * pw (C - 1074) = pw (lastOf m p + C).toNat := by rw [← pw_add]; exact pw_congr (by omega)
  rw [Nat.mul_assoc, e1]
  have hpC : pw C = 8 * pw (C - 3) := by
   have : pw C = pw (3 + (C - 3)) := pw_congr (by omega)
   rw [this, pw_add]; rfl
  by_cases ht : lastOf m p ≤ p
  ·have e2 : keptOf m p * pw (lastOf m p + C).toNat = m * pw (p + C).toNat := by
    unfold keptOf
    rw [show (lastOf m p - p).toNat = 0 by omega, rne_zero, Nat.mul_assoc, ← pw_add, pw_congr (show (p - lastOf m p).toNat + (lastOf m p + (C : Int)).toNat = (p + (C : Int)).toNat by omega)]
   rw [e2]
   omega
  ·obtain ⟨r1, r2⟩ := rne_near m (lastOf m p - p).toNat
   have hk : keptOf m p = rne m (lastOf m p - p).toNat := by
    unfold keptOf
    rw [show (p - lastOf m p).toNat = 0 by omega, show pw 0 = 1 from rfl, Nat.mul_one]
   rw [← hk] at r1 r2
   have e3 : pw (lastOf m p + C).toNat = pw (lastOf m p - p).toNat * pw (p + C).toNat := by rw [← pw_add]; exact pw_congr (by omega)
   have e4 : pw (lastOf m p + C).toNat ≤ pw (C - 3) := pw_le (by omega)
   have s1 := Nat.mul_le_mul_right (pw (p + C).toNat) r1
   have s2 := Nat.mul_le_mul_right (pw (p + C).toNat) r2
   have f1 : 2 * (keptOf m p * pw (lastOf m p - p).toNat) * pw (p + C).toNat = 2 * (keptOf m p * pw (lastOf m p + C).toNat) := by rw [e3]; simp only [Nat.mul_assoc]
   have f2 : (2 * m + pw (lastOf m p - p).toNat) * pw (p + C).toNat = 2 * (m * pw (p + C).toNat) + pw (lastOf m p + C).toNat := by rw [e3, Nat.add_mul, Nat.mul_assoc]
   have f3 : (2 * (keptOf m p * pw (lastOf m p - p).toNat) + pw (lastOf m p - p).toNat) * pw (p + C).toNat = 2 * (keptOf m p * pw (lastOf m p + C).toNat) + pw (lastOf m p + C).toNat := by rw [Nat.add_mul, f1, e3]
   have f4 : 2 * m * pw (p + C).toNat = 2 * (m * pw (p + C).toNat) := by rw [Nat.mul_assoc]
   rw [f1, f2] at s1
   rw [f3, f4] at s2
   generalize keptOf m p * pw (lastOf m p + C).toNat = X at *
   generalize m * pw (p + C).toNat = Y at *
   generalize pw (lastOf m p + C).toNat = Z at *
   generalize pw (C - 3) = A at *
   generalize pw C = B at *
   omega

/-- The quotient to 54 digits, and one that tells whether anything is left. -/
theorem quot_bounds (m c : Nat) (hm : m ≠ 0) (hc : c ≠ 0) (g : Nat) (hg : m.log2 + g = 54 + c.log2) :
  ∃ Q, Q = 2 * (m * pw g / c) + (m * pw g % c != 0).toNat ∧ pw 54 ≤ Q ∧ Q < pw 56 ∧ Q * c ≤ 2 * (m * pw g) + c ∧ 2 * (m * pw g) ≤ Q * c + c := by
 refine ⟨_, rfl, ?_⟩
 obtain ⟨b1, b2⟩ := log2_bounds m hm
 obtain ⟨c1, c2⟩ := log2_bounds c hc
 have h1 : pw (54 + c.log2) ≤ m * pw g := by rw [← hg, pw_add]; exact Nat.mul_le_mul_right _ b1
 have h2 : m * pw g < pw (55 + c.log2) := by
  rw [show 55 + c.log2 = m.log2 + 1 + g by omega, pw_add]
  exact Nat.mul_lt_mul_of_pos_right b2 (pw_pos _)
 generalize m * pw g = Dv at h1 h2 ⊢
 have hcp : 0 < c := Nat.pos_of_ne_zero hc
 have q1 : pw 53 ≤ Dv / c := by
  rw [Nat.le_div_iff_mul_le hcp]
  refine Nat.le_trans (Nat.mul_le_mul_left _ (Nat.le_of_lt c2)) ?_
  rw [← pw_add]
  exact Nat.le_trans (pw_le (by omega)) h1
 have q2 : Dv / c < pw 55 := by
  rw [Nat.div_lt_iff_lt_mul hcp]
  refine Nat.lt_of_lt_of_le h2 ?_
  rw [pw_add]
  exact Nat.mul_le_mul_left _ c1
 have hdm := Nat.div_add_mod Dv c
 have hml := Nat.mod_lt Dv hcp
 have e54 : pw 54 = 2 * pw 53 := rfl
 have e56 : pw 56 = 2 * pw 55 := rfl
 have hst : (Dv % c != 0).toNat = 0 ∧ Dv % c = 0 ∨ (Dv % c != 0).toNat = 1 ∧ Dv % c ≠ 0 := by
  by_cases h : Dv % c = 0
  ·left; rw [h]; exact ⟨rfl, rfl⟩
  ·right; exact ⟨by rw [show (Dv % c != 0) = true by simpa using h]; rfl, h⟩
 generalize (Dv % c != 0).toNat = st at hst ⊢
 generalize Dv % c = r at hdm hml hst
 have e : (2 * (Dv / c) + st) * c = 2 * (c * (Dv / c)) + st * c := by rw [Nat.add_mul, Nat.mul_comm c, Nat.mul_assoc]
 rw [e]
 generalize c * (Dv / c) = F at hdm ⊢
 rw [e54, e56]
 generalize pw 53 = A at q1 ⊢
 generalize pw 55 = B at q2 ⊢
 generalize Dv / c = q at q1 q2 ⊢
 rcases hst with ⟨rfl, hr⟩ | ⟨rfl, hr⟩ <;> omega

theorem div_eq {a b : Nat} {m c : Nat} {i j : Int} (ha : D.read a = .number false m i) (hb : D.read b = .number false c j) (hc : c ≠ 0) :
  D.div a b = some (D.nearest false (2 * (m * pw (54 + c.log2 - m.log2) / c) + (m * pw (54 + c.log2 - m.log2) % c != 0).toNat) (i - j - ((54 + c.log2 - m.log2 : Nat) : Int) - 1)) := by
 unfold Format.div
 rw [ha, hb]
 simp only [Datum.quotient]
 rw [if_neg hc]
 simp only [Option.map_some, Format.write, Nat.shiftLeft_eq]
 rfl

/-- The real of a quotient of whole numbers is off by three quarters of its last digit at most. -/
theorem quo_err (n s : Nat) (hn : 1 ≤ n) (hn2 : n ≤ 9007199254740992) (hs : 1 ≤ s) (hs2 : s ≤ 9007199254740992) :
  ∃ X x : Nat, fdiv (ofInt (n : Int)) (ofInt (s : Int)) = X ∧ isNan X = false ∧ val X = (x : Int) ∧ pw 54 * (x * s) ≤ pw 54 * (n * U) + 3 * (x * s) ∧ pw 54 * (n * U) ≤ pw 54 * (x * s) + 3 * (x * s) := by
 have wn := ofInt_whole (n : Int) (by omega)
 have ws := ofInt_whole (s : Int) (by omega)
 obtain ⟨s1, m, i, hr1, hi, hv1, hm1⟩ := read_fin wn.1 (wn.top (by omega))
 obtain ⟨s2, c, j, hr2, hj, hv2, hm2⟩ := read_fin ws.1 (ws.top (by omega))
 rw [wn.abs, Int.natAbs_natCast] at hm1
 rw [ws.abs, Int.natAbs_natCast] at hm2
 have hU := U_pos
 have hm0 : m ≠ 0 := by
  rintro rfl
  rw [Nat.zero_mul] at hm1
  have := Nat.mul_pos (show 0 < n by omega) hU
  omega
 have hc0 : c ≠ 0 := by
  rintro rfl
  rw [Nat.zero_mul] at hm2
  have := Nat.mul_pos (show 0 < s by omega) hU
  omega
 have hpos : ∀ (b : Nat) (k : Nat) (sg : Bool) (mm : Nat) (ee : Int), 1 ≤ k → Whole b (k : Int) → D.read b = .number sg mm ee → val b = signed sg mm (ee + 1074).toNat → mm ≠ 0 → sg = false := by
  intro b k sg mm ee hk hw hr hv h0
  cases sg
  ·rfl
  ·exfalso
   rw [hw.2, signed_eq, if_pos rfl] at hv
   have h1 : 0 < (k : Int) * (U : Int) := Int.mul_pos (by omega) (by omega)
   have h2 := Nat.mul_pos (Nat.pos_of_ne_zero h0) (pw_pos (ee + 1074).toNat)
   omega
 obtain rfl := hpos _ n s1 m i hn wn hr1 hv1 hm0
 obtain rfl := hpos _ s s2 c j hs ws hr2 hv2 hc0
 have sh1 := (read_shape hr1).2.1
 have sh2 := (read_shape hr2).2.1
 -- the places are near nought
 have hplace : ∀ (k mm : Nat) (ee : Int), -1074 ≤ ee → 1 ≤ k → k ≤ 9007199254740992 → mm < 9007199254740992 → mm ≠ 0 → k * U = mm * pw (ee + 1074).toNat → -53 ≤ ee ∧ ee ≤ 53 := by
  intro k mm ee h1 hk hk2 hmm h0 he
  refine ⟨?_, ?_⟩
  ·have a1 : U ≤ pw 53 * pw (ee + 1074).toNat := by
    have b1 : 1 * U ≤ k * U := Nat.mul_le_mul_right _ hk
    have b2 : mm * pw (ee + 1074).toNat ≤ pw 53 * pw (ee + 1074).toNat := Nat.mul_le_mul_right _ (Nat.le_of_lt hmm)
    rw [Nat.one_mul, he] at b1
    exact Nat.le_trans b1 b2
   rw [U_def, ← pw_add] at a1
   have := (Nat.pow_le_pow_iff_right (show 1 < 2 by decide)).1 a1
   omega
  ·have a1 : pw (ee + 1074).toNat ≤ pw 53 * U := by
    have b1 : 1 * pw (ee + 1074).toNat ≤ mm * pw (ee + 1074).toNat := Nat.mul_le_mul_right _ (by omega)
    have b2 : k * U ≤ pw 53 * U := Nat.mul_le_mul_right _ hk2
    rw [Nat.one_mul, ← he] at b1
    exact Nat.le_trans b1 b2
   rw [U_def, ← pw_add] at a1
   have := (Nat.pow_le_pow_iff_right (show 1 < 2 by decide)).1 a1
   omega
 obtain ⟨i1, i2⟩ := hplace n m i hi hn hn2 sh1 hm0 hm1
 obtain ⟨j1, j2⟩ := hplace s c j hj hs hs2 sh2 hc0 hm2
 have lm : m.log2 < 53 := (Nat.log2_lt hm0).2 sh1
 have lc : c.log2 < 53 := (Nat.log2_lt hc0).2 sh2
 obtain ⟨g, hg⟩ : ∃ g, g = 54 + c.log2 - m.log2 := ⟨_, rfl⟩
 obtain ⟨Q, hQ, Q1, Q2, Q3, Q4⟩ := quot_bounds m c hm0 hc0 g (by omega)
 have hdiv := div_eq hr1 hr2 hc0
 rw [← hg, ← hQ] at hdiv
 have hQ0 : Q ≠ 0 := by have := pw_pos 54; omega
 have lQ1 : 54 ≤ Q.log2 := (Nat.le_log2 hQ0).2 Q1
 have lQ2 : Q.log2 < 56 := (Nat.log2_lt hQ0).2 Q2
 obtain ⟨P, hP⟩ : ∃ P : Int, P = i - j - (g : Int) - 1 := ⟨_, rfl⟩
 rw [← hP] at hdiv
 have hlast : lastOf Q P = P + ((Q.log2 - 52 : Nat) : Int) := by unfold lastOf; omega
 obtain ⟨d, hd⟩ : ∃ d, d = Q.log2 - 52 := ⟨_, rfl⟩
 rw [← hd] at hlast
 have hkept : keptOf Q P = rne Q d := by
  unfold keptOf
  rw [hlast, show (P - (P + (d : Int))).toNat = 0 by omega, show (P + (d : Int) - P).toNat = d by omega, show pw 0 = 1 from rfl, Nat.mul_one]
 obtain ⟨kb1, kb2⟩ := kept_bounds Q P hQ0
 have kb3 : 4503599627370496 ≤ rne Q d := by rcases kb2 with h | h; omega; rw [← hkept]; exact h
 obtain ⟨m', e', hr, hm'⟩ := nearest_read false Q P hQ0 (by omega)
 rw [hkept, hlast] at hm'
 obtain ⟨r1, r2⟩ := rne_near Q d
 refine ⟨D.nearest false Q P, rne Q d * pw (P + (d : Int) + 1074).toNat, ?_, isNan_nearest _ _ _, ?_, ?_⟩
 ·unfold fdiv; rw [hdiv]; exact home_real (isNan_nearest _ _ _)
 ·unfold val; rw [hr]
  show signed false m' (e' + 1074).toNat = _
  rw [signed_eq, hm']; rfl
 ·-- the error
  have hW : pw (P + (d : Int) + 1074).toNat = pw d * pw (P + 1074).toNat := by rw [← pw_add]; exact pw_congr (by omega)
  rw [hW]
  obtain ⟨W, hWd⟩ : ∃ W, W = pw (P + 1074).toNat := ⟨_, rfl⟩
  obtain ⟨J, hJd⟩ : ∃ W, W = pw (j + 1074).toNat := ⟨_, rfl⟩
  obtain ⟨I, hId⟩ : ∃ W, W = pw (i + 1074).toNat := ⟨_, rfl⟩
  have hWJ : pw (g + 1) * (W * J) = I * U := by
   rw [hWd, hJd, hId]
   rw [U_def, ← pw_add, ← pw_add, ← pw_add]
   exact pw_congr (by omega)
  rw [← hId] at hm1
  rw [← hJd] at hm2
  rw [← hWd]
  have hdd : d = 2 ∨ d = 3 := by omega
  generalize rne Q d = K at *
  obtain ⟨Dd, hDd⟩ : ∃ x, x = pw d := ⟨_, rfl⟩
  have hD4 : 4 ≤ Dd := by rw [hDd]; rcases hdd with h | h <;> rw [h] <;> decide
  rw [← hDd] at r1 r2 ⊢
  -- times c, times W J
  have a1 := Nat.mul_le_mul_right c r1
  have a2 := Nat.mul_le_mul_right c r2
  have x1 : 2 * (K * Dd) * c = 2 * (K * Dd * c) := by rw [Nat.mul_assoc]
  have x2 : (2 * Q + Dd) * c = 2 * (Q * c) + Dd * c := by rw [Nat.add_mul, Nat.mul_assoc]
  have x3 : 2 * Q * c = 2 * (Q * c) := by rw [Nat.mul_assoc]
  have x4 : (2 * (K * Dd) + Dd) * c = 2 * (K * Dd * c) + Dd * c := by rw [Nat.add_mul, Nat.mul_assoc]
  rw [x1, x2] at a1
  rw [x3, x4] at a2
  have b1 : 2 * (K * Dd * c) ≤ 2 * (2 * (m * pw g)) + (Dd * c + 2 * c) := by omega
  have b2 : 2 * (2 * (m * pw g)) ≤ 2 * (K * Dd * c) + (Dd * c + 2 * c) := by omega
  have c1 := Nat.mul_le_mul_right (W * J) b1
  have c2 := Nat.mul_le_mul_right (W * J) b2
  have y1 : 2 * (K * Dd * c) * (W * J) = 2 * (K * (Dd * W) * s) * U := by
   have : 2 * (K * Dd * c) * (W * J) = 2 * (K * (Dd * W)) * (c * J) := by simp only [Nat.mul_assoc, Nat.mul_left_comm, Nat.mul_comm]
   rw [this, ← hm2]; simp only [Nat.mul_assoc]
  have y2 : 2 * (2 * (m * pw g)) * (W * J) = 2 * (n * U) * U := by
   have e1 : 2 * (2 * (m * pw g)) * (W * J) = 2 * (m * (pw (g + 1) * (W * J))) := by
    rw [show pw (g + 1) = pw g * 2 from rfl]
    simp only [Nat.mul_assoc, Nat.mul_left_comm, Nat.mul_comm]
   rw [e1, hWJ, ← Nat.mul_assoc m I U, ← hm1]
   simp only [Nat.mul_assoc]
  have y3 : (Dd * c + 2 * c) * (W * J) = ((Dd + 2) * W * s) * U := by
   rw [← Nat.add_mul]
   have : (Dd + 2) * c * (W * J) = (Dd + 2) * W * (c * J) := by simp only [Nat.mul_assoc, Nat.mul_left_comm]
   rw [this, ← hm2]; simp only [Nat.mul_assoc]
  rw [y1, Nat.add_mul, y2, y3, ← Nat.add_mul] at c1
  rw [y2, Nat.add_mul, y1, y3, ← Nat.add_mul] at c2
  have d1 := Nat.le_of_mul_le_mul_right c1 hU
  have d2 := Nat.le_of_mul_le_mul_right c2 hU
  -- the last digit against the whole
  have e1 : pw 52 * (2 * ((Dd + 2) * W * s)) ≤ 3 * (K * (Dd * W) * s) := by
   have f1 : 2 * (Dd + 2) ≤ 3 * Dd := by omega
   have f2 : pw 52 * (2 * (Dd + 2)) ≤ K * (3 * Dd) := Nat.mul_le_mul kb3 f1
   have f3 := Nat.mul_le_mul_right (W * s) f2
   have g1 : pw 52 * (2 * (Dd + 2)) * (W * s) = pw 52 * (2 * ((Dd + 2) * W * s)) := by simp only [Nat.mul_assoc]
   have g2 : K * (3 * Dd) * (W * s) = 3 * (K * (Dd * W) * s) := by simp only [Nat.mul_assoc, Nat.mul_left_comm]
   rwa [g1, g2] at f3
  have e54 : pw 54 = 4 * pw 52 := rfl
  have e52 : pw 52 = 4503599627370496 := rfl
  rw [e54, e52]
  rw [e52] at e1
  generalize K * (Dd * W) * s = A at *
  generalize (Dd + 2) * W * s = B at *
  generalize n * U = C at *
  clear hWJ hWd hJd hId x1 x2 x3 x4 y1 y2 y3 e54 e52 hW hD4 hdiv hm'
  omega

end Go.Proofs.YtcmahiphfpgadaaGreatDoor

/- assizekit.SameBytes: it tells whether two slices of bytes hold the same bytes. -/
namespace Go.Proofs.YtcmahiphfpgadaaGreatDoor
open Go.RowKit
set_option linter.unusedVariables false

theorem strOfNums_bytes (bs : List UInt8) : strOfNums (bs.map fun b => (b.toNat : Int)) = ⟨bs.toArray⟩ := by
 unfold strOfNums
 congr 2
 rw [List.map_map]
 conv => rhs; rw [← List.map_id bs]
 apply List.map_congr_left
 intro b _
 simp

theorem conv_zero (w : World) (a : Option Addr) (c : Nat) : (convert 63 9 (.slice a 0 c)).run Tryz.prog w = .ok (.string ⟨#[]⟩) w := by
 rw [run_convert_bytes_string w 63 9 5 a 0 c Tryz.underlying63 Tryz.underlying5 Tryz.underlying9]
 cases a with
 | none => simp [Conv.bytesToString]; rfl
 | some p =>
  have := run_bytesToString (P := Tryz.prog) w p 0 c [] (by have := run_loadCells_list (P := Tryz.prog) w p [] (fun j v hj => by simp at hj); simpa using this)
  rw [this]
  rfl

theorem conv_row {w : World} {a : Option Addr} {bs : List UInt8} (h : Row w a bs) (c : Nat) : (convert 63 9 (.slice a bs.length c)).run Tryz.prog w = .ok (.string ⟨bs.toArray⟩) w := by
 rcases h with rfl | ⟨b, off, rfl, hc⟩
 ·exact conv_zero w a c
 ·have := run_convert_bytes_arg (P := Tryz.prog) w 63 5 Tryz.underlying63 Tryz.underlying5 b off bs.length c (bs.map fun b => (b.toNat : Int)) (by simp)
   (fun i hi => by rw [hc i hi]; simp [List.getD, List.getElem?_map, List.getElem?_eq_getElem hi]) 9 Tryz.underlying9
  rw [this, strOfNums_bytes]

end Go.Proofs.YtcmahiphfpgadaaGreatDoor

/- Decimal digits: plain facts on lists of bytes. -/
namespace Go.Proofs.YtcmahiphfpgadaaGreatDoor
set_option linter.unusedVariables false

/-- The number whose digits these are. -/
def decVal (l : List UInt8) : Nat := l.foldl (fun n c => n * 10 + (c.toNat - 48)) 0

/-- The digits of a number from 0 to 2^63 - 1. -/
def GoodDec (l : List UInt8) : Prop := 1 ≤ l.length ∧ ((l.getD 0 0).toNat = 48 → l.length = 1) ∧ (∀ j, j < l.length → 48 ≤ (l.getD j 0).toNat ∧ (l.getD j 0).toNat ≤ 57) ∧ decVal l ≤ 9223372036854775807

theorem val_snoc (l : List UInt8) (c : UInt8) : decVal (l ++ [c]) = decVal l * 10 + (c.toNat - 48) := by simp [decVal]

theorem val_take (l : List UInt8) (k : Nat) (h : k < l.length) : decVal (l.take (k + 1)) = decVal (l.take k) * 10 + ((l.getD k 0).toNat - 48) := by
 have e : l.take (k + 1) = l.take k ++ [l.getD k 0] := by
  rw [List.take_succ_eq_append_getElem h]
  simp [List.getD, List.getElem?_eq_getElem h]
 rw [e, val_snoc]

theorem val_mono_succ (l : List UInt8) (k : Nat) : decVal (l.take k) ≤ decVal (l.take (k + 1)) := by
 rcases Nat.lt_or_ge k l.length with h | h
 ·rw [val_take l k h]; omega
 ·rw [List.take_of_length_le h, List.take_of_length_le (by omega)]; exact Nat.le_refl _

theorem val_mono (l : List UInt8) (k : Nat) : ∀ d, decVal (l.take k) ≤ decVal (l.take (k + d)) := by
 intro d
 induction d with
 | zero => exact Nat.le_refl _
 | succ d ih => exact Nat.le_trans ih (val_mono_succ l (k + d))

theorem val_le (l : List UInt8) (k : Nat) : decVal (l.take k) ≤ decVal l := by
 have := val_mono l k l.length
 rwa [List.take_of_length_le (show l.length ≤ k + l.length by omega)] at this

theorem val_lt (l : List UInt8) : ∀ k, k ≤ l.length → (∀ j, j < k → 48 ≤ (l.getD j 0).toNat ∧ (l.getD j 0).toNat ≤ 57) → decVal (l.take k) < 10 ^ k := by
 intro k
 induction k with
 | zero => intro _ _; simp [decVal]
 | succ k ih =>
  intro h hd
  have := ih (by omega) (fun j hj => hd j (by omega))
  have h2 := hd k (by omega)
  rw [val_take l k (by omega), Nat.pow_succ]
  omega

theorem val_ge (l : List UInt8) (hl : 1 ≤ l.length) (hd : ∀ j, j < l.length → 48 ≤ (l.getD j 0).toNat ∧ (l.getD j 0).toNat ≤ 57) (h0 : (l.getD 0 0).toNat ≠ 48) : ∀ k, k < l.length → 10 ^ k ≤ decVal (l.take (k + 1)) := by
 intro k
 induction k with
 | zero =>
  intro h
  rw [val_take l 0 h]
  have := hd 0 h
  omega
 | succ k ih =>
  intro h
  have := ih (by omega)
  rw [val_take l (k + 1) h, Nat.pow_succ]
  omega

/-- Twenty digits, none of them a nought ahead, are of too great a number. -/
theorem long_bad (l : List UInt8) (h : 19 < l.length) : ¬ GoodDec l := by
 rintro ⟨h1, h2, h3, h4⟩
 have h0 : (l.getD 0 0).toNat ≠ 48 := fun e => by have := h2 e; omega
 have := val_ge l h1 h3 h0 19 h
 have := val_le l (19 + 1)
 omega

/-- What ReadDec answers: a number and an error. -/
def DecIs (l : List UInt8) (most d h : Int) : Prop :=
 (most < 0 ∧ d = 0 ∧ h = 2) ∨ (0 ≤ most ∧ ¬ GoodDec l ∧ d = 0 ∧ h = 4) ∨ (0 ≤ most ∧ GoodDec l ∧ most < decVal l ∧ d = 0 ∧ h = 3) ∨ (0 ≤ most ∧ GoodDec l ∧ (decVal l : Int) ≤ most ∧ d = decVal l ∧ h = 0)

theorem DecIs.one {l : List UInt8} {most d h d' h' : Int} (a : DecIs l most d h) (b : DecIs l most d' h') : d = d' ∧ h = h' := by
 rcases a with ⟨a1, rfl, rfl⟩ | ⟨a1, a2, rfl, rfl⟩ | ⟨a1, a2, a3, rfl, rfl⟩ | ⟨a1, a2, a3, rfl, rfl⟩ <;>
 rcases b with ⟨b1, rfl, rfl⟩ | ⟨b1, b2, rfl, rfl⟩ | ⟨b1, b2, b3, rfl, rfl⟩ | ⟨b1, b2, b3, rfl, rfl⟩ <;>
 first
  | exact ⟨rfl, rfl⟩
  | (exfalso; omega)
  | (exfalso; exact a2 b2)
  | (exfalso; exact b2 a2)

end Go.Proofs.YtcmahiphfpgadaaGreatDoor

/- The document's own ReadDec. -/
namespace Go.Proofs.YtcmahiphfpgadaaGreatDoor
open Go.RowKit
set_option linter.unusedVariables false

/-- The bytes of a text. -/
def bytes (s : ByteArray) : List UInt8 := s.data.toList

theorem bytes_length (s : ByteArray) : (bytes s).length = s.size := by simp [bytes]

theorem bytes_at (s : ByteArray) (k : Nat) (h : k < s.size) : (bytes s).getD k 0 = s[k] := by
 have : k < s.data.toList.length := by simpa using h
 simp [bytes, List.getD, h]
 rfl

end Go.Proofs.YtcmahiphfpgadaaGreatDoor

/- strings.IndexByte: the place of a byte in a text. -/
namespace Go.Proofs.YtcmahiphfpgadaaGreatDoor
open Go.RowKit
set_option linter.unusedVariables false

end Go.Proofs.YtcmahiphfpgadaaGreatDoor

/- octet.readDigits and octet.ReadDec. -/
namespace Go.Proofs.YtcmahiphfpgadaaGreatDoor
open Go.RowKit
set_option linter.unusedVariables false

theorem not_empty {s : ByteArray} (h : 0 < s.size) : s.toList.isEmpty = false := by
 rw [List.isEmpty_eq_false_iff, Lib.toList_data]
 intro h0
 have : s.size = 0 := by rw [← bytes_length s, bytes, h0]; rfl
 omega

theorem is_empty {s : ByteArray} (h : s.size = 0) : s.toList.isEmpty = true := by
 rw [List.isEmpty_iff, Lib.toList_data]
 apply List.eq_nil_of_length_eq_zero
 simpa using h

end Go.Proofs.YtcmahiphfpgadaaGreatDoor

/- octet.Dec and the document's own Dec. -/
namespace Go.Proofs.YtcmahiphfpgadaaGreatDoor
open Go.RowKit
set_option linter.unusedVariables false

/-- A number's digits: 'f' more at most. -/
def digs : Nat → Nat → List UInt8
 | 0, n => [ub (48 + n % 10)]
 | f + 1, n => if n < 10 then [ub (48 + n % 10)] else digs f (n / 10) ++ [ub (48 + n % 10)]

theorem digs_small (f n : Nat) (h : n < 10) : digs f n = [ub (48 + n % 10)] := by
 cases f with
 | zero => rfl
 | succ f => simp [digs, h]

theorem digs_big (f n : Nat) (h : 10 ≤ n) : digs (f + 1) n = digs f (n / 10) ++ [ub (48 + n % 10)] := by
 simp [digs, show ¬ n < 10 by omega]

/-- The digits of a number, with - ahead of one below 0. -/
def decOf (n : Int) : List UInt8 := if n < 0 then ub 45 :: digs 19 n.natAbs else digs 19 n.natAbs

theorem hexdig : ∀ j : Fin 16, (({ data := #[48, 49, 50, 51, 52, 53, 54, 55, 56, 57, 97, 98, 99, 100, 101, 102] } : ByteArray)[j.val]'(j.isLt)).toNat = if j.val < 10 then 48 + j.val else 87 + j.val := by decide +kernel

theorem dig_at (j : Nat) (h : j < 10) (h' : j < (({ data := #[48, 49, 50, 51, 52, 53, 54, 55, 56, 57, 97, 98, 99, 100, 101, 102] } : ByteArray)).size) : ((({ data := #[48, 49, 50, 51, 52, 53, 54, 55, 56, 57, 97, 98, 99, 100, 101, 102] } : ByteArray)[j]'h').toNat : Int) = ((48 + j % 10 : Nat) : Int) := by
 have := hexdig ⟨j, by omega⟩
 simp only [h, if_true] at this
 rw [this]
 omega

theorem digs_step {N f m : Nat} {back : List UInt8} (hb : 10 ≤ m) (hm : m < 10 ^ (f + 1)) (hf : f + back.length = 19) (h : digs f m ++ back.reverse = digs 19 N) :
  ∃ f', f = f' + 1 ∧ f' + (back ++ [ub (48 + m % 10)]).length = 19 ∧ m / 10 < 10 ^ (f' + 1) ∧ digs f' (m / 10) ++ (back ++ [ub (48 + m % 10)]).reverse = digs 19 N := by
 cases f with
 | zero => simp at hm; omega
 | succ f =>
  refine ⟨f, rfl, by simp; omega, ?_, ?_⟩
  ·rw [Nat.div_lt_iff_lt_mul (by omega)]; rwa [Nat.pow_succ] at hm
  ·rw [← h, digs_big f m hb]; simp

theorem drop_reverse (B : List UInt8) (k : Nat) (h : k < B.length) : (B.drop (k + 1)).reverse ++ [B.getD k 0] = (B.drop k).reverse := by
 rw [List.drop_eq_getElem_cons h, List.reverse_cons]
 simp [List.getD, List.getElem?_eq_getElem h]

set_option maxRecDepth 100000 in
set_option maxHeartbeats 800000 in
theorem dec_pos (N : Nat) (w : World) (h1 : N ≤ 9223372036854775807) :
  Calls Tryz.prog 135 #[.int .i64 (N : Int)] w fun e w' => e = .returned (.string ⟨(digs 19 N).toArray⟩) ∧ Below w.heap.size w w' := by
 have hN64 : N < 18446744073709551616 := by omega
 have hneg : ¬ (N : Int) < 0 := by omega
 go_enter Tryz.func135, Tryz.ntmps135
 go_wp2
 go_loopw [3, 4] (fun t v wr => ∃ (f m : Nat) (back : List UInt8), f + back.length = 19 ∧ m < 18446744073709551616 ∧ Hid (m < 10 ^ (f + 1)) ∧ t = .int .u64 m ∧ Hid (digs f m ++ back.reverse = digs 19 N) ∧ Own w.heap.size wr v back ∧ Below w.heap.size w wr) (fun t _ _ => (intOf t).toNat)
 case atStart => exact ⟨19, N, [], rfl, hN64, (by show N < 10 ^ 20; omega), rfl, (by show _ = _; simp), Own.nil _ _, Below.refl _ _⟩
 case round =>
  obtain ⟨f, m, back, hf, hm64, hm, rfl, hsh, hown, hbel⟩ := hrel
  have hsz := hbel.size
  by_cases hb : 10 ≤ m
  ·obtain ⟨f', rfl, h1', h2', h3'⟩ := digs_step hb hm.out hf hsh.out
   have H1 : Hid (f' + (back ++ [ub (48 + m % 10)]).length = 19) := h1'
   have H2 : Hid (m / 10 < 10 ^ (f' + 1)) := h2'
   have H3 : Hid (digs f' (m / 10) ++ (back ++ [ub (48 + m % 10)]).reverse = digs 19 N) := h3'
   clear h1' h2' h3' hm hsh
   go_wp2_with (at_builtin; refine app1n (.tmp 15) (.tmp 19) _ (48 + m % 10) w.heap.size _ back rfl rfl rfl rfl hown (by omega) (by rw [dig_at (m % 10) (by omega)]; omega) (by omega) hsz ?_)
   intro v' w1 hown' hbel'
   have hb1 := hbel.trans hbel'
   clear hown hbel hbel'
   go_wp2
   go_roundw
   case rel => exact ⟨f', m / 10, _, H1, by omega, H2, by go_num, H3, hown', hb1⟩
   case measure => simp [intOf]; omega
  ·have HS : Hid ((back ++ [ub (48 + m % 10)]).reverse = digs 19 N) := by
    show _ = _
    rw [← hsh.out, digs_small f m (by omega)]
    simp
   clear hsh hm
   go_wp2_with (at_builtin; refine app1n (.tmp 23) (.tmp 26) _ (48 + m % 10) w.heap.size _ back rfl rfl rfl rfl hown (by omega) (dig_at m (by omega) _) (by omega) hsz ?_)
   intro v' w1 hown' hbel'
   have hb1 := hbel.trans hbel'
   clear hown hbel hbel'
   have hlb : (back ++ [ub (48 + m % 10)]).length ≤ 20 := by simp; omega
   obtain ⟨B, hB⟩ : ∃ B, B = back ++ [ub (48 + m % 10)] := ⟨_, rfl⟩
   rw [← hB] at hown'
   have HB : Hid (B.reverse = digs 19 N) := by show _ = _; rw [hB, ← HS.out]
   have hBl : 1 ≤ B.length ∧ B.length ≤ 21 := by rw [hB]; simp at hlb ⊢; omega
   clear hB HS hlb
   obtain ⟨a1, cap1, rfl, hle, hmx, hrow⟩ := hown'.row
   rcases hrow with h0 | ⟨b, off, rfl, hc⟩
   ·exfalso; rw [h0] at hBl; simp at hBl
   have HROW : Hid (Row w1 (some ⟨b, off, none⟩) B) := .inr ⟨b, off, rfl, hc⟩
   clear hc hown'
   go_wp2
   go_loopw [5, 6] (fun v t wr => ∃ (k : Nat) (out : List UInt8), k ≤ B.length ∧ t = .int .i64 ((k : Int) - 1) ∧ out.length + k = B.length ∧ Hid (out = (B.drop k).reverse) ∧ Own w1.heap.size wr v out ∧ Below w1.heap.size w1 wr)
    (fun _ t _ => (intOf t + 1).toNat)
   case atStart => exact ⟨B.length, [], Nat.le_refl _, by go_num, by simp, (by show _ = _; simp), Own.nil _ _, Below.refl _ _⟩
   case round =>
    obtain ⟨k, out, hk, rfl, hlk, hout, hown, hbel⟩ := hrel
    have hsz2 := hbel.size
    cases k with
    | zero =>
     obtain ⟨a2, cap2, rfl, hle2, hmx2, hrow2⟩ := hown.row
     have hcs := conv_row hrow2 cap2
     have HO : Hid (out = digs 19 N) := by show _ = _; rw [hout.out, ← HB.out]; rfl
     clear hown hrow2 hout
     go_wp2
     go_ret
     exact ⟨by rw [← HO.out]; rfl, hb1.trans (hbel.mono hb1.size)⟩
    | succ k =>
     obtain ⟨c, hcn⟩ : ∃ c, c = (B.getD k 0).toNat := ⟨_, rfl⟩
     have hc256 : c < 256 := by rw [hcn]; exact UInt8.toNat_lt _
     have hcell : wr.cell? ⟨b, off + k, none⟩ = some (.int .u8 (c : Int)) := by
      rcases HROW.out.below hbel with h0 | ⟨b', off', e, hc⟩
      ·exfalso; rw [h0] at hBl; simp at hBl
      ·cases e
       rw [hcn]; exact hc k (by omega)
     have HO : Hid (out ++ [ub c] = (B.drop k).reverse) := by
      show _ = _
      rw [hout.out, ← drop_reverse B k (by omega), hcn]
      congr 2
      apply UInt8.toNat_inj.1
      rw [ub_toNat _ (UInt8.toNat_lt _)]
     clear hcn hout
     go_wp2_with (at_builtin; refine app1n (.tmp 40) (.tmp 45) _ c w1.heap.size _ out rfl rfl rfl rfl hown hc256 rfl (by omega) hsz2 ?_)
     intro v' w2 hown' hbel'
     have hb2 := hbel.trans hbel'
     clear hown hbel hbel' hcell
     go_wp2
     go_roundw
     case rel => exact ⟨k, _, by omega, by go_num, by simp; omega, HO, hown', hb2⟩
     case measure => simp [intOf]

set_option maxRecDepth 100000 in
set_option maxHeartbeats 800000 in
theorem dec_neg (n : Int) (N : Nat) (w : World) (hneg : n < 0) (h2 : -9223372036854775808 ≤ n) (hN : (N : Int) = -n) :
  Calls Tryz.prog 135 #[.int .i64 n] w fun e w' => e = .returned (.string ⟨(ub 45 :: digs 19 N).toArray⟩) ∧ Below w.heap.size w w' := by
 have hN64 : N < 18446744073709551616 := by omega
 have hw : IntKind.u64.wrap (-IntKind.u64.wrap n) = (N : Int) := by rw [IntKind.wrap_u64, IntKind.wrap_u64]; omega
 clear hN
 go_enter Tryz.func135, Tryz.ntmps135
 go_wp2
 go_loopw [3, 4] (fun t v wr => ∃ (f m : Nat) (back : List UInt8), f + back.length = 19 ∧ m < 18446744073709551616 ∧ Hid (m < 10 ^ (f + 1)) ∧ t = .int .u64 m ∧ Hid (digs f m ++ back.reverse = digs 19 N) ∧ Own w.heap.size wr v back ∧ Below w.heap.size w wr) (fun t _ _ => (intOf t).toNat)
 case atStart => exact ⟨19, N, [], rfl, hN64, (by show N < 10 ^ 20; omega), rfl, (by show _ = _; simp), Own.nil _ _, Below.refl _ _⟩
 case round =>
  obtain ⟨f, m, back, hf, hm64, hm, rfl, hsh, hown, hbel⟩ := hrel
  have hsz := hbel.size
  by_cases hb : 10 ≤ m
  ·obtain ⟨f', rfl, h1', h2', h3'⟩ := digs_step hb hm.out hf hsh.out
   have H1 : Hid (f' + (back ++ [ub (48 + m % 10)]).length = 19) := h1'
   have H2 : Hid (m / 10 < 10 ^ (f' + 1)) := h2'
   have H3 : Hid (digs f' (m / 10) ++ (back ++ [ub (48 + m % 10)]).reverse = digs 19 N) := h3'
   clear h1' h2' h3' hm hsh
   go_wp2_with (at_builtin; refine app1n (.tmp 15) (.tmp 19) _ (48 + m % 10) w.heap.size _ back rfl rfl rfl rfl hown (by omega) (by rw [dig_at (m % 10) (by omega)]; omega) (by omega) hsz ?_)
   intro v' w1 hown' hbel'
   have hb1 := hbel.trans hbel'
   clear hown hbel hbel'
   go_wp2
   go_roundw
   case rel => exact ⟨f', m / 10, _, H1, by omega, H2, by go_num, H3, hown', hb1⟩
   case measure => simp [intOf]; omega
  ·have HS : Hid ((back ++ [ub (48 + m % 10)]).reverse = digs 19 N) := by
    show _ = _
    rw [← hsh.out, digs_small f m (by omega)]
    simp
   clear hsh hm
   go_wp2_with (at_builtin; refine app1n (.tmp 23) (.tmp 26) _ (48 + m % 10) w.heap.size _ back rfl rfl rfl rfl hown (by omega) (dig_at m (by omega) _) (by omega) hsz ?_)
   intro v' w1 hown' hbel'
   have hb1 := hbel.trans hbel'
   clear hown hbel hbel'
   have hlb : (back ++ [ub (48 + m % 10)]).length ≤ 20 := by simp; omega
   have hsz1 := hb1.size
   go_wp2_with (at_builtin; refine app1n (.tmp 30) (.tmp 31) _ 45 w.heap.size _ (back ++ [ub (48 + m % 10)]) rfl rfl rfl rfl hown' (by omega) rfl (by omega) hsz1 ?_)
   clear hown'
   intro v' w1 hown' hbel'
   have hb2 := hb1.trans hbel'
   clear hb1 hbel' hsz1
   have hb1 := hb2
   clear hb2
   obtain ⟨B, hB⟩ : ∃ B, B = back ++ [ub (48 + m % 10), ub 45] := ⟨_, rfl⟩
   rw [← hB] at hown'
   have HB : Hid (B.reverse = ub 45 :: digs 19 N) := by show _ = _; rw [hB, ← HS.out]; simp
   have hBl : 1 ≤ B.length ∧ B.length ≤ 21 := by rw [hB]; simp at hlb ⊢; omega
   clear hB HS hlb
   obtain ⟨a1, cap1, rfl, hle, hmx, hrow⟩ := hown'.row
   rcases hrow with h0 | ⟨b, off, rfl, hc⟩
   ·exfalso; rw [h0] at hBl; simp at hBl
   have HROW : Hid (Row w1 (some ⟨b, off, none⟩) B) := .inr ⟨b, off, rfl, hc⟩
   clear hc hown'
   go_wp2
   go_loopw [5, 6] (fun v t wr => ∃ (k : Nat) (out : List UInt8), k ≤ B.length ∧ t = .int .i64 ((k : Int) - 1) ∧ out.length + k = B.length ∧ Hid (out = (B.drop k).reverse) ∧ Own w1.heap.size wr v out ∧ Below w1.heap.size w1 wr)
    (fun _ t _ => (intOf t + 1).toNat)
   case atStart => exact ⟨B.length, [], Nat.le_refl _, by go_num, by simp, (by show _ = _; simp), Own.nil _ _, Below.refl _ _⟩
   case round =>
    obtain ⟨k, out, hk, rfl, hlk, hout, hown, hbel⟩ := hrel
    have hsz2 := hbel.size
    cases k with
    | zero =>
     obtain ⟨a2, cap2, rfl, hle2, hmx2, hrow2⟩ := hown.row
     have hcs := conv_row hrow2 cap2
     have HO : Hid (out = ub 45 :: digs 19 N) := by show _ = _; rw [hout.out, ← HB.out]; rfl
     clear hown hrow2 hout
     go_wp2
     go_ret
     exact ⟨by rw [← HO.out]; rfl, hb1.trans (hbel.mono hb1.size)⟩
    | succ k =>
     obtain ⟨c, hcn⟩ : ∃ c, c = (B.getD k 0).toNat := ⟨_, rfl⟩
     have hc256 : c < 256 := by rw [hcn]; exact UInt8.toNat_lt _
     have hcell : wr.cell? ⟨b, off + k, none⟩ = some (.int .u8 (c : Int)) := by
      rcases HROW.out.below hbel with h0 | ⟨b', off', e, hc⟩
      ·exfalso; rw [h0] at hBl; simp at hBl
      ·cases e
       rw [hcn]; exact hc k (by omega)
     have HO : Hid (out ++ [ub c] = (B.drop k).reverse) := by
      show _ = _
      rw [hout.out, ← drop_reverse B k (by omega), hcn]
      congr 2
      apply UInt8.toNat_inj.1
      rw [ub_toNat _ (UInt8.toNat_lt _)]
     clear hcn hout
     go_wp2_with (at_builtin; refine app1n (.tmp 40) (.tmp 45) _ c w1.heap.size _ out rfl rfl rfl rfl hown hc256 rfl (by omega) hsz2 ?_)
     intro v' w2 hown' hbel'
     have hb2 := hbel.trans hbel'
     clear hown hbel hbel' hcell
     go_wp2
     go_roundw
     case rel => exact ⟨k, _, by omega, by go_num, by simp; omega, HO, hown', hb2⟩
     case measure => simp [intOf]

end Go.Proofs.YtcmahiphfpgadaaGreatDoor

/- The document's own Dec. -/
namespace Go.Proofs.YtcmahiphfpgadaaGreatDoor
open Go.RowKit
set_option linter.unusedVariables false

theorem cat_one (x : UInt8) (l : List UInt8) : (⟨#[x]⟩ ++ ⟨l.toArray⟩ : ByteArray) = ⟨(x :: l).toArray⟩ := by
 apply ByteArray.ext
 simp

theorem dec_any (n : Int) (w : World) (h1 : n ≤ 9223372036854775807) (h2 : -9223372036854775808 ≤ n) :
  Calls Tryz.prog 135 #[.int .i64 n] w fun e w' => e = .returned (.string ⟨(decOf n).toArray⟩) ∧ Below w.heap.size w w' := by
 unfold decOf
 by_cases h : n < 0
 ·rw [if_pos h]
  exact dec_neg n n.natAbs w h h2 (by omega)
 ·rw [if_neg h]
  obtain ⟨N, rfl⟩ : ∃ N : Nat, n = (N : Int) := ⟨n.natAbs, by omega⟩
  have e : (N : Int).natAbs = N := by omega
  rw [e]
  exact dec_pos N w (by omega)

end Go.Proofs.YtcmahiphfpgadaaGreatDoor

/- octet.Number and the document's own Number: what they hand back. -/
namespace Go.Proofs.YtcmahiphfpgadaaGreatDoor
open Go.RowKit
set_option linter.unusedVariables false

/-- The number whose bytes these are. -/
def number (bs : List UInt8) : Nat := bs.foldl (fun n b => n * 256 + b.toNat) 0

theorem take_snoc (bs : List UInt8) (k : Nat) (h : k < bs.length) : bs.take (k + 1) = bs.take k ++ [bs.getD k 0] := by
 rw [List.take_succ_eq_append_getElem h]
 simp [List.getD, List.getElem?_eq_getElem h]

end Go.Proofs.YtcmahiphfpgadaaGreatDoor

/- octet.Hex and the document's own Hex: the digits of bytes. -/
namespace Go.Proofs.YtcmahiphfpgadaaGreatDoor
open Go.RowKit
set_option linter.unusedVariables false
attribute [local go_sem ↓] Go.wp_at_zero Go.wp_at_succ

/-- A digit's sign. -/
def hdN (j : Nat) : Nat := if j < 10 then 48 + j else 87 + j

theorem hdN_lt (j : Nat) (h : j < 16) : hdN j < 256 := by unfold hdN; split <;> omega

/-- The digits of bytes. -/
def hexOf : List UInt8 → List UInt8
 | [] => []
 | b :: l => ub (hdN (b.toNat / 16)) :: ub (hdN (b.toNat % 16)) :: hexOf l

theorem hexOf_snoc (l : List UInt8) (b : UInt8) : hexOf (l ++ [b]) = hexOf l ++ [ub (hdN (b.toNat / 16)), ub (hdN (b.toNat % 16))] := by
 induction l with
 | nil => rfl
 | cons a l ih => simp [hexOf, ih]

theorem hexOf_length (l : List UInt8) : (hexOf l).length = 2 * l.length := by
 induction l with
 | nil => rfl
 | cons a l ih => simp [hexOf, ih]; omega

theorem hexOf_take (bs : List UInt8) (k : Nat) (h : k < bs.length) : hexOf (bs.take (k + 1)) = hexOf (bs.take k) ++ [ub (hdN ((bs.getD k 0).toNat / 16)), ub (hdN ((bs.getD k 0).toNat % 16))] := by
 rw [take_snoc bs k h, hexOf_snoc]

theorem hd_at (j : Nat) (h : j < 16) (h' : j < (({ data := #[48, 49, 50, 51, 52, 53, 54, 55, 56, 57, 97, 98, 99, 100, 101, 102] } : ByteArray)).size) : ((({ data := #[48, 49, 50, 51, 52, 53, 54, 55, 56, 57, 97, 98, 99, 100, 101, 102] } : ByteArray)[j]'h').toNat : Int) = (hdN j : Int) := by
 have := hexdig ⟨j, h⟩
 simp only at this
 unfold hdN
 omega

/-- 'out = append(out, x, y)' as one step of a region that draws its order. -/
theorem step_app2 {ops : Array Oper} {o : Oper} {a : Act} {K : Act → World → Prop} {Q : Exit → Act → World → Prop} {E : Prop} {w0 : World} (s x : Operand) (z1 z2 : Int) (k1 k2 : Nat) (base : Nat) (v : Value) (out : List UInt8)
  (hgd : o.guard = none) (ho : o.op = .call { callee := .builtin .append, args := #[s, x], argTypes := #[63, 63] })
  (hs : a.eval s = v) (hx : a.eval x = .slice (some ⟨w0.heap.size, 0, none⟩) 2 2) (hown : Own base w0 v out) (hk1 : k1 < 256) (hk2 : k2 < 256) (hz1 : z1 = (k1 : Int)) (hz2 : z2 = (k2 : Int)) (hlen : out.length ≤ 1099511627776) (hbase : base ≤ w0.heap.size)
  (h : ∀ g cap w', Own base w' (.slice (some ⟨g, 0, none⟩) (out.length + 2) cap) (out ++ [ub k1, ub k2]) → Below base w0 w' → K (a.put o.dst (.slice (some ⟨g, 0, none⟩) (out.length + 2) cap)) w') :
  if Region.wanted o (yielded ops a.tmps) = true then Oper.wp Tryz.prog o a ((w0.alloc (.cells #[.int .u8 z1, .int .u8 z2] 5)).drew) K Q else E := by
 obtain ⟨i0, hi, hz0, hzz1, hzz2⟩ := info_parts Tryz.info5
 subst hz1 hz2
 refine step_append_lies (w := (w0.alloc (.cells #[.int .u8 (k1 : Int), .int .u8 (k2 : Int)] 5)).drew) hgd s x 63 ho base 5 i0 (.int .u8 0) 1 1 Tryz.underlying63 hi hz0 hzz1 hzz2 rfl (by decide) v out.length (out.map B8) hs (World.ownsRow.drew (World.ownsRow.alloc hown _))
  ⟨w0.heap.size, 0, none⟩ 2 2 [.int .u8 (k1 : Int), .int .u8 (k2 : Int)] hx rfl (World.news_of_block (cs := #[.int .u8 (k1 : Int), .int .u8 (k2 : Int)]) (t := 5) (fr := (0, 0)) (heap_alloc_new w0 _)) (by simp [Value.oneCell'])
  (by omega) (by unfold maxLen; omega) (by omega) (by simp; omega) (w0.heap.size + 1) (by simp) ?_
 intro g cap w' h1 h2 _ _
 refine h g cap w' ?_ ?_
 ·have e2 : out.map B8 ++ [.int .u8 (k1 : Int), .int .u8 (k2 : Int)] = (out ++ [ub k1, ub k2]).map B8 := by simp [B8, ub_toNat k1 hk1, ub_toNat k2 hk2]
  rw [e2] at h1
  have e : out.length + 2 = (out ++ [ub k1, ub k2]).length := by simp
  unfold Own
  rw [← e]
  exact h1
 ·exact (((Below.refl base w0).alloc hbase _).drew).grown h2 (by simp; omega) hown.block

set_option maxRecDepth 100000 in
set_option maxHeartbeats 1600000 in
theorem hex_full (b off cap : Nat) (bs : List UInt8) (w : World) (hc : ∀ j, j < bs.length → w.cell? ⟨b, off + j, none⟩ = some (.int .u8 ((bs.getD j 0).toNat : Int))) (hmax : bs.length ≤ 268435456) (hpos : 0 < bs.length) :
  Calls Tryz.prog 110 #[.slice (some ⟨b, off, none⟩) bs.length cap] w fun e w' => e = .returned (.string ⟨(hexOf bs).toArray⟩) ∧ Below w.heap.size w w' := by
 have HC : Hid (∀ j, j < bs.length → w.cell? ⟨b, off + j, none⟩ = some (.int .u8 ((bs.getD j 0).toNat : Int))) := hc
 have hblt : b < w.heap.size := lt_of_cell (hc 0 hpos)
 clear hc
 go_enter Tryz.func110, Tryz.ntmps110
 go_wp2
 go_loopw [3, 8] (fun v i wr => ∃ (k : Nat) (out : List UInt8), k ≤ bs.length ∧ i = .int .i64 k ∧ out.length = 2 * k ∧ Hid (out = hexOf (bs.take k)) ∧ Own w.heap.size wr v out ∧ Below w.heap.size w wr) (fun _ i _ => bs.length - (intOf i).toNat)
 case atStart => exact ⟨0, [], Nat.zero_le _, rfl, rfl, rfl, Own.nil _ _, Below.refl _ _⟩
 case round =>
  obtain ⟨k, out, hk, rfl, hol, hout, hown, hbel⟩ := hrel
  have hsz := hbel.size
  have HOL : Hid (out.length = 2 * k) := hol
  have hol2 : out.length ≤ 1099511627776 := by omega
  clear hol
  by_cases hlt : k < bs.length
  ·obtain ⟨c, hcn⟩ : ∃ c, c = (bs.getD k 0).toNat := ⟨_, rfl⟩
   have hc256 : c < 256 := by rw [hcn]; exact UInt8.toNat_lt _
   have hcell : wr.cell? ⟨b, off + k, none⟩ = some (.int .u8 (c : Int)) := by rw [hbel.cell (by exact hblt), hcn]; exact HC.out k hlt
   have hm15 : bits .and .u8 (c : Int) 15 = (c : Int) % 16 := bits_mask .u8 8 (by decide) wraps_u8 4 (by decide) c (by omega) (by omega)
   have HO : Hid (out ++ [ub (hdN (c / 16)), ub (hdN (c % 16))] = hexOf (bs.take (k + 1))) := by show _ = _; rw [hexOf_take bs k hlt, hout.out, hcn]
   clear hcn hout
   have i1 : (0 : Int) ≤ (c : Int) / 16 := by omega
   have i2 : (c : Int) / 16 < 16 := by omega
   have i3 : (0 : Int) ≤ (c : Int) % 16 := by omega
   have i4 : (c : Int) % 16 < 16 := by omega
   go_wp2
   go_region_held3 (fun _ => True) (trivial) ((refine step_app2 (.tmp 12) (.tmp 19) _ _ (hdN (c / 16)) (hdN (c % 16)) w.heap.size _ out (by rfl) (by rfl) (by rfl) (by rfl) hown (hdN_lt _ (by omega)) (hdN_lt _ (by omega)) (hd_at _ (by omega) _) (hd_at _ (by omega) _) hol2 hsz ?_; intro g cap' w1 hown' hbel'))
   all_goals
    have hb1 := hbel.trans hbel'
    clear hown hbel hbel' hcell
    go_wp2
    go_roundw
    case rel => exact ⟨k + 1, _, by omega, by go_num, by have := HOL.out; simp; omega, HO, hown', hb1⟩
    case measure => simp [intOf]; omega
  ·obtain ⟨a2, cap2, rfl, hle2, hmx2, hrow2⟩ := hown.row
   have hcs := conv_row hrow2 cap2
   have HO : Hid (out = hexOf bs) := by show _ = _; rw [hout.out, List.take_of_length_le (by omega)]
   clear hown hrow2 hout
   go_wp2
   go_ret
   exact ⟨by rw [← HO.out]; rfl, hbel⟩

set_option maxRecDepth 100000 in
set_option maxHeartbeats 400000 in
theorem hex_none (a : Option Addr) (cap : Nat) (w : World) :
  Calls Tryz.prog 110 #[.slice a 0 cap] w fun e w' => e = .returned (.string ⟨(hexOf []).toArray⟩) ∧ Below w.heap.size w w' := by
 have hcs := conv_zero w none 0
 go_enter Tryz.func110, Tryz.ntmps110
 go_wp2
 refine wp_loop_rounds 1 ?_
 rw [rounds_succ]
 go_wp2
 go_ret
 exact ⟨rfl, Below.refl _ _⟩

theorem hex_any (a : Option Addr) (cap : Nat) (bs : List UInt8) (w : World) (hrow : Row w a bs) (hmax : bs.length ≤ 268435456) :
  Calls Tryz.prog 110 #[.slice a bs.length cap] w fun e w' => e = .returned (.string ⟨(hexOf bs).toArray⟩) ∧ Below w.heap.size w w' := by
 rcases hrow with rfl | ⟨b, off, rfl, hc⟩
 ·exact hex_none a cap w
 ·rcases Nat.eq_zero_or_pos bs.length with h | h
  ·have : bs = [] := List.eq_nil_of_length_eq_zero h
   subst this
   exact hex_none _ cap w
  ·exact hex_full b off cap bs w hc hmax h

end Go.Proofs.YtcmahiphfpgadaaGreatDoor

/- octet.Bytes, the document's own Bytes and Fits: what they hand back. -/
namespace Go.Proofs.YtcmahiphfpgadaaGreatDoor
open Go.RowKit
set_option linter.unusedVariables false

/-- A number's bytes, so many, the highest first. -/
def bytesOf : Nat → Nat → List UInt8
 | 0, _ => []
 | s + 1, n => ub (n / 256 ^ s % 256) :: bytesOf s n

theorem bytesOf_length (s n : Nat) : (bytesOf s n).length = s := by
 induction s with
 | zero => rfl
 | succ s ih => simp [bytesOf, ih]

theorem shr8 (n k : Nat) : (n : Int) / 2 ^ (8 * k) = ((n / 256 ^ k : Nat) : Int) := by
 rw [Int.natCast_ediv, Int.natCast_pow, Int.pow_mul]
 rfl

theorem shr8b (n k : Nat) : (n : Int) / 2 ^ (8 * k) % 256 = ((n / 256 ^ k % 256 : Nat) : Int) := by
 rw [shr8]; omega

set_option maxRecDepth 100000 in
set_option maxHeartbeats 400000 in
theorem bytes_ok (n s : Nat) (hn : n < 18446744073709551616) (h1 : 1 ≤ s) (hs : s ≤ 8) (hfit : n / 256 ^ s = 0) (w : World) :
  Calls Tryz.prog 109 #[.int .u64 n, .int .i64 s] w fun e w' => ∃ v, e = .returned (.tuple #[v, .int .i64 0]) ∧ Own w.heap.size w' v (bytesOf s n) ∧ Below w.heap.size w w' := by
 have ht : ((n : Int) / 2 ^ (8 * s) != 0) = false := by rw [shr8, hfit]; rfl
 clear hfit
 go_enter Tryz.func109, Tryz.ntmps109
 go_wp2
 go_loopw [1, 6] (fun t v wr => ∃ (k : Nat) (out : List UInt8), k ≤ s ∧ t = .int .i64 (k : Int) ∧ out.length + k = s ∧ Hid (out ++ bytesOf k n = bytesOf s n) ∧ Own w.heap.size wr v out ∧ Below w.heap.size w wr)
  (fun t _ _ => (intOf t).toNat)
 case atStart => exact ⟨s, [], Nat.le_refl _, rfl, by simp, rfl, Own.nil _ _, Below.refl _ _⟩
 case round =>
  obtain ⟨k, out, hk, rfl, hlk, hsh, hown, hbel⟩ := hrel
  have hsz := hbel.size
  cases k with
  | zero =>
   go_wp2
   go_ret2
   exact ⟨_, rfl, by have := hsh.out; simp [bytesOf] at this; rw [← this]; exact hown, hbel⟩
  | succ k =>
   have H3 : Hid ((out ++ [ub (n / 256 ^ k % 256)]) ++ bytesOf k n = bytesOf s n) := by have := hsh.out; simp only [bytesOf] at this; simpa [Hid] using this
   clear hsh
   go_wp2_with (at_builtin; refine app1n (.tmp 24) (.tmp 30) _ (n / 256 ^ k % 256) w.heap.size _ out rfl rfl rfl rfl hown (by omega) (shr8b n k) (by omega) hsz ?_)
   intro v' w1 hown' hbel'
   have hb1 := hbel.trans hbel'
   clear hown hbel hbel'
   go_wp2
   go_roundw
   case rel => exact ⟨k, _, by omega, by go_num, by simp; omega, H3, hown', hb1⟩
   case measure => simp [intOf]

/-- May a number have so many bytes? -/
def fits (n : Nat) (s : Int) : Bool := decide (1 ≤ s ∧ s ≤ 8 ∧ n / 256 ^ s.toNat = 0)

end Go.Proofs.YtcmahiphfpgadaaGreatDoor

/- strings.Cut at a point. -/
namespace Go.Proofs.YtcmahiphfpgadaaGreatDoor
open Go.RowKit
set_option linter.unusedVariables false

theorem size_mk (l : List UInt8) : (⟨l.toArray⟩ : ByteArray).size = l.length := by rw [← bytes_length]; rfl

/-- What stands ahead of the first point of a text, and behind it. -/
def aheadOf (l : List UInt8) : List UInt8 := l.takeWhile (· != 46)
def behindOf (l : List UInt8) : List UInt8 := (l.dropWhile (· != 46)).drop 1

theorem cut_none : ∀ l : List UInt8, Lib.indexByte l 46 = -1 → aheadOf l = l ∧ behindOf l = []
 | [], _ => ⟨rfl, rfl⟩
 | b :: l, h => by
  simp only [Lib.indexByte] at h
  by_cases hb : (b == 46) = true
  ·rw [if_pos hb] at h; omega
  ·rw [if_neg hb] at h
   have hb' : (b != 46) = true := by simpa using hb
   have ge := Lib.indexByte_ge l 46
   have h2 : Lib.indexByte l 46 = -1 := by
    by_cases h3 : (Lib.indexByte l 46 == -1) = true
    ·simpa using h3
    ·rw [if_neg h3] at h; omega
   obtain ⟨i1, i2⟩ := cut_none l h2
   refine ⟨?_, ?_⟩
   ·simp only [aheadOf, List.takeWhile_cons, hb', if_true]; exact congrArg _ i1
   ·simp only [behindOf, List.dropWhile_cons, hb', if_true]; exact i2

theorem cut_some : ∀ l : List UInt8, 0 ≤ Lib.indexByte l 46 → Lib.indexByte l 46 = ((aheadOf l).length : Int) ∧ l = aheadOf l ++ 46 :: behindOf l
 | [], h => by simp [Lib.indexByte] at h
 | b :: l, h => by
  simp only [Lib.indexByte] at h ⊢
  by_cases hb : (b == 46) = true
  ·have hb2 : b = 46 := by simpa using hb
   subst hb2
   refine ⟨rfl, rfl⟩
  ·rw [if_neg hb] at h ⊢
   have hb' : (b != 46) = true := by simpa using hb
   by_cases h3 : (Lib.indexByte l 46 == -1) = true
   ·rw [if_pos h3] at h; omega
   ·rw [if_neg h3] at h ⊢
    have ge := Lib.indexByte_ge l 46
    have h4 : Lib.indexByte l 46 ≠ -1 := by simpa using h3
    obtain ⟨i1, i2⟩ := cut_some l (by omega)
    have e1 : aheadOf (b :: l) = b :: aheadOf l := by simp [aheadOf, hb']
    have e2 : behindOf (b :: l) = behindOf l := by simp [behindOf, hb']
    rw [e1, e2, i1]
    exact ⟨by simp, by rw [List.cons_append, ← i2]⟩

theorem extract_list (l : List UInt8) (a b : Nat) : (⟨l.toArray⟩ : ByteArray).extract a b = ⟨((l.drop a).take (b - a)).toArray⟩ := by
 have h := Lib.extract_data (⟨l.toArray⟩ : ByteArray) a b
 generalize (⟨l.toArray⟩ : ByteArray).extract a b = x at h ⊢
 obtain ⟨⟨y⟩⟩ := x
 simp at h
 rw [h]

end Go.Proofs.YtcmahiphfpgadaaGreatDoor

/- real's small functions, and the document's own: what they tell, as plain functions of words. -/
namespace Go.Proofs.YtcmahiphfpgadaaGreatDoor
open Go.RowKit
set_option linter.unusedVariables false

theorem nat_beq (a b : Nat) : ((a : Int) == (b : Int)) = (a == b) := by
 rw [Bool.eq_iff_iff]
 simp only [beq_iff_eq]
 omega

theorem cut_nan (x y t : Nat) : isNan (Question.cut (.nanBits .f64 x y) t) = true ∧ Question.cut (.nanBits .f64 x y) t < 18446744073709551616 := by
 have h1 : t % 2 < 2 := Nat.mod_lt _ (by decide)
 have h2 : t / 2 % (2 ^ 52 - 1) < 2 ^ 52 - 1 := Nat.mod_lt _ (by decide)
 have e : Question.cut (.nanBits .f64 x y) t = (t % 2) * 2 ^ 63 + 0x7ff0000000000000 + 1 + (t / 2) % (2 ^ 52 - 1) := rfl
 rw [e]
 generalize t / 2 % (2 ^ 52 - 1) = r at h2 ⊢
 generalize t % 2 = s at h1 ⊢
 refine ⟨?_, by omega⟩
 simp only [isNan, decide_eq_true_eq]
 omega

/-- An operation that has no answer: a NaN whose bits the tape gives. -/
theorem run_float_none {P : Program} (w : World) (op : BinOp) (hop : op = .add ∨ op = .sub ∨ op = .mul ∨ op = .quo) (x y : Nat) (h : floatBits op .f64 x y = none) :
  ∃ b, isNan b = true ∧ b < 18446744073709551616 ∧ ∀ t, (binOp op t (.float .f64 x) (.float .f64 y)).run P w = .ok (.float .f64 b) w.drew := by
 refine ⟨Question.cut (.nanBits .f64 x y) (w.tape w.drawn (.nanBits .f64 x y)), (cut_nan x y _).1, (cut_nan x y _).2, fun t => ?_⟩
 unfold floatBits at h
 rcases hop with rfl | rfl | rfl | rfl <;> simp only at h <;> simp [binOp, Op.floatArith, h, Question.forced]

/-- Whatever it is: what is told of it, and that at most the tape was asked. -/
theorem run_float_any {P : Program} (w : World) (op : BinOp) (hop : op = .add ∨ op = .sub ∨ op = .mul ∨ op = .quo) (x y : Nat) :
  ∃ b q, home b = told (floatBits op .f64 x y) ∧ ∀ t, (binOp op t (.float .f64 x) (.float .f64 y)).run P w = .ok (.float .f64 b) (w.drewN q) := by
 cases h : floatBits op .f64 x y with
 | some r => exact ⟨r, 0, rfl, fun t => by rw [run_float_arith w op t .f64 x y r h]; rfl⟩
 | none =>
  obtain ⟨b, h1, h2, h3⟩ := run_float_none (P := P) w op hop x y h
  exact ⟨b, 1, home_nan h1, fun t => by rw [h3]; rfl⟩

theorem cf_bits (b : Nat) : ∀ w, Sem.run Tryz.prog (callFunc 150 #[.float .f64 b]) w = .ok (.value (.int .u64 b)) w := fun w => by
 rw [run_callFunc_extern Tryz.func150 (by kernel_rfl) (by kernel_rfl) (by kernel_rfl) (e := Extern.MathFloatBits.float64bits) (by kernel_rfl)]
 rfl

theorem cf_from (b : Nat) : ∀ w, Sem.run Tryz.prog (callFunc 131 #[.int .u64 (b : Int)]) w = .ok (.value (.float .f64 b)) w := fun w => by
 rw [run_callFunc_extern Tryz.func131 (by kernel_rfl) (by kernel_rfl) (by kernel_rfl) (e := Extern.MathFloatBits.float64frombits) (by kernel_rfl)]
 rfl

theorem bitsOf_any (b : Nat) (w : World) : Calls Tryz.prog 130 #[.float .f64 b] w fun e w' => e = .returned (.int .u64 (home b : Nat)) ∧ w' = w := by
 have hcf := cf_bits b
 have hneq : (FloatKind.f64.format.order b b != some .eq) = isNan b := neq_self b
 cases h : isNan b
 ·rw [home_real h]
  rw [h] at hneq
  go_enter Tryz.func130, Tryz.ntmps130
  go_wp2
  go_ret
  exact ⟨rfl, rfl⟩
 ·rw [home_nan h]
  rw [h] at hneq
  go_enter Tryz.func130, Tryz.ntmps130
  go_wp2
  go_ret
  exact ⟨rfl, rfl⟩

theorem canon_any (b : Nat) (w : World) : Calls Tryz.prog 106 #[.int .u64 (b : Int)] w fun e w' => e = .returned (.int .u64 (home b : Nat)) ∧ w' = w := by
 have hcf := cf_from b
 go_enter Tryz.func106, Tryz.ntmps106
 go_wp2_with fail
 refine (bitsOf_any b _).mono ?_
 rintro e w1 ⟨rfl, rfl⟩
 go_wp2
 go_ret
 exact ⟨rfl, rfl⟩

theorem number_any (b : Nat) (w : World) : Calls Tryz.prog 132 #[.int .u64 (b : Int)] w fun e w' => e = .returned (.float .f64 (home b)) ∧ w' = w := by
 have hcf := cf_from (home b)
 go_enter Tryz.func132, Tryz.ntmps132
 go_wp2_with fail
 refine (canon_any b _).mono ?_
 rintro e w1 ⟨rfl, rfl⟩
 go_wp2
 go_ret
 exact ⟨rfl, rfl⟩

theorem may_any (b : Nat) (w : World) (h : b < 18446744073709551616) : Calls Tryz.prog 86 #[.int .u64 (b : Int)] w fun e w' => e = .returned (.bool (home b == b)) ∧ w' = w := by
 have hh := home_lt h
 go_enter Tryz.func86, Tryz.ntmps86
 go_wp2_with fail
 refine (canon_any b _).mono ?_
 rintro e w1 ⟨rfl, rfl⟩
 go_wp2
 go_ret
 exact ⟨by rw [← nat_beq]; rfl, rfl⟩

end Go.Proofs.YtcmahiphfpgadaaGreatDoor

/- real.Neg and real.ToInt, and the document's own. -/
namespace Go.Proofs.YtcmahiphfpgadaaGreatDoor
open Go.RowKit
set_option linter.unusedVariables false

theorem neg_any (a : Nat) (h : a < 18446744073709551616) (w : World) : Calls Tryz.prog 108 #[.int .u64 (a : Int)] w fun e w' => e = .returned (.int .u64 (fneg a : Nat)) ∧ w' = w := by
 have hun : ∀ w, (Op.unary .neg (.float .f64 (home a))).run Tryz.prog w = .ok (.float .f64 (home a ^^^ 9223372036854775808)) w := fun w => rfl
 go_enter Tryz.func108, Tryz.ntmps108
 go_wp2_with fail
 refine (number_any a _).mono ?_
 rintro e w1 ⟨rfl, rfl⟩
 go_wp2_with fail
 refine (bitsOf_any (home a ^^^ 9223372036854775808) _).mono ?_
 rintro e w1 ⟨rfl, rfl⟩
 rw [home_flip a h]
 go_wp2
 go_ret
 exact ⟨rfl, rfl⟩

end Go.Proofs.YtcmahiphfpgadaaGreatDoor

/- real.power, real.quotient, real.Parse: the real of a text. -/
namespace Go.Proofs.YtcmahiphfpgadaaGreatDoor
open Go.RowKit
set_option linter.unusedVariables false

set_option maxRecDepth 100000 in
set_option maxHeartbeats 400000 in
theorem power_any (k : Nat) (hk : k ≤ 6) (w : World) : Calls Tryz.prog 133 #[.int .i64 (k : Int)] w fun e w' => e = .returned (.int .i64 ((10 ^ k : Nat) : Int)) ∧ w' = w := by
 go_enter Tryz.func133, Tryz.ntmps133
 go_wp2
 go_loopw [3, 5] (fun p i wr => ∃ j : Nat, j ≤ k ∧ p = .int .i64 ((10 ^ j : Nat) : Int) ∧ i = .int .i64 (j : Int) ∧ wr = w) (fun _ i _ => (k : Int).toNat - (intOf i).toNat)
 case atStart => exact ⟨0, by omega, rfl, rfl, rfl⟩
 case round =>
  obtain ⟨j, hj, rfl, rfl, rfl⟩ := hrel
  by_cases hc : j < k
  ·have hp : 10 ^ j ≤ 100000 := Nat.pow_le_pow_right (show 0 < 10 by decide) (show j ≤ 5 by omega)
   have hs : 10 ^ (j + 1) = 10 ^ j * 10 := Nat.pow_succ 10 j
   have HS : Hid (10 ^ (j + 1) = 10 ^ j * 10) := hs
   clear hs
   obtain ⟨P, hP⟩ : ∃ P, Hid (P = 10 ^ j) := ⟨10 ^ j, (rfl : 10 ^ j = 10 ^ j)⟩
   rw [← hP.out] at hp ⊢
   go_wp2
   go_roundw
   case rel => exact ⟨j + 1, by omega, (by rw [HS.out, ← hP.out]; go_num), by go_num, trivial⟩
   case measure => simp [intOf]; omega
  ·obtain rfl : j = k := by omega
   go_wp2
   go_ret
   exact ⟨rfl, rfl⟩

/-- The quotient of two whole numbers, as a real. -/
def quo (n s : Nat) : Nat := fdiv (ofInt (n : Int)) (ofInt (s : Int))

theorem quotient_any (n s : Nat) (w : World) : Calls Tryz.prog 151 #[.int .i64 (n : Int), .int .i64 (s : Int)] w fun e w' => e = .returned (.int .u64 (quo n s : Nat)) ∧ ∃ q, w' = w.drewN q := by
 obtain ⟨x, q, hx, hop⟩ := run_float_any (P := Tryz.prog) w .quo (.inr (.inr (.inr rfl))) (floatOfInt .f64 n) (floatOfInt .f64 s)
 have hx' : home x = quo n s := hx
 clear hx
 go_enter Tryz.func151, Tryz.ntmps151
 go_wp2_with fail
 refine (bitsOf_any x _).mono ?_
 rintro e w1 ⟨rfl, rfl⟩
 rw [hx']
 go_wp2
 go_ret
 exact ⟨rfl, q, rfl⟩

instance (l : List UInt8) : Decidable (GoodDec l) := by unfold GoodDec; infer_instance

/-- The texts that are literals, as the code asks it. -/
def IsLit (l : List UInt8) : Prop := 1 ≤ (behindOf l).length ∧ (behindOf l).length ≤ 6 ∧ (aheadOf l).length + (behindOf l).length ≤ 15 ∧ GoodDec (aheadOf l) ∧ GoodDec (49 :: behindOf l)

instance (l : List UInt8) : Decidable (IsLit l) := by unfold IsLit; infer_instance

/-- A literal's digits, as a whole number. -/
def litNum (l : List UInt8) : Nat := decVal (aheadOf l) * 10 ^ (behindOf l).length + decVal (49 :: behindOf l) - 10 ^ (behindOf l).length

/-- What Parse answers. -/
def ParsePost (l : List UInt8) (e : Ending) : Prop :=
 (IsLit l ∧ e = .returned (.tuple #[.int .u64 (quo (litNum l) (10 ^ (behindOf l).length) : Nat), .int .i64 0])) ∨ (¬ IsLit l ∧ e = .returned (.tuple #[.int .u64 0, .int .i64 4]))

theorem cat_list (x y : List UInt8) : ((⟨x.toArray⟩ : ByteArray) ++ (⟨y.toArray⟩ : ByteArray)) = ⟨(x ++ y).toArray⟩ := by
 apply ByteArray.ext
 simp

theorem good_lt {l : List UInt8} (h : GoodDec l) : decVal l < 10 ^ l.length := by
 have := val_lt l l.length (Nat.le_refl _) h.2.2.1
 rwa [List.take_of_length_le (Nat.le_refl _)] at this

end Go.Proofs.YtcmahiphfpgadaaGreatDoor
