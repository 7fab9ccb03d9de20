/- Joined texts of the proof. -/
import Derived.Test.YtjgggmjjikopeaaGreatDoorJ8
import Derived.Test.YtjgggmjjikopeaaGreatDoorJ5

/- lex.lineEnd and lex.skip: what is passed over. -/
namespace Go.Proofs.YtjgggmjjikopeaaGreatDoor
open Go.RowKit
set_option linter.unusedVariables false

/-- How many bytes stand ahead of the next byte 10, or of the end. -/
def lnN : List UInt8 → Nat
  | [] => 0
  | c :: r => if c.toNat = 10 then 0 else lnN r + 1

theorem u8_eq {c d : UInt8} : c = d ↔ c.toNat = d.toNat := UInt8.toNat_inj.symm

theorem lnN_le (l : List UInt8) : lnN l ≤ l.length := by
  induction l with
  | nil => simp [lnN]
  | cons c r ih => simp only [lnN]; split <;> simp; omega

theorem lnN_index (l : List UInt8) : (Lib.indexByte l 10 = -1 ∧ lnN l = l.length) ∨ Lib.indexByte l 10 = (lnN l : Int) := by
  induction l with
  | nil => exact .inl ⟨rfl, rfl⟩
  | cons c r ih =>
    simp only [Lib.indexByte, lnN]
    by_cases h : c.toNat = 10
    · have : (c == 10) = true := by rw [beq_iff_eq, u8_eq]; exact h
      simp [this, h]
    · have : (c == 10) = false := by rw [beq_eq_false_iff_ne, ne_eq, u8_eq]; exact h
      have ge := Lib.indexByte_ge r 10
      rcases ih with ⟨h1, h2⟩ | h1
      · left; simp [this, h, h1, h2]
      · right
        have hne : (Lib.indexByte r 10 == -1) = false := by rw [beq_eq_false_iff_ne]; omega
        simp [this, h, h1]

theorem skF_true (l : List UInt8) : skF true l = lnN l + skF false (l.drop (lnN l)) := by
  induction l with
  | nil => rfl
  | cons c r ih =>
    simp only [lnN]
    by_cases h : c.toNat = 10
    · simp [skF, h, isBl]
    · simp only [skF, h, if_false, ih, List.drop_succ_cons]
      omega

theorem sk_blank (s : ByteArray) (k : Nat) (hk : k < s.size) (h : isBl s[k].toNat = true) : k + skN ((bytes s).drop k) = k + 1 + skN ((bytes s).drop (k + 1)) := by
  rw [drop_at s k hk]
  simp only [skN, skF, h, if_true]
  omega

theorem sk_note (s : ByteArray) (k : Nat) (hk : k < s.size) (h : s[k].toNat = 35) : k + skN ((bytes s).drop k) = k + lnN ((bytes s).drop k) + skN ((bytes s).drop (k + lnN ((bytes s).drop k))) := by
  rw [drop_at s k hk]
  have hb : isBl s[k].toNat = false := by rw [h]; rfl
  have e : lnN (s[k] :: (bytes s).drop (k + 1)) = lnN ((bytes s).drop (k + 1)) + 1 := by simp [lnN, h]
  rw [e]
  simp only [skN, skF, h, if_true, skF_true, List.drop_drop]
  rw [show k + (lnN ((bytes s).drop (k + 1)) + 1) = k + 1 + lnN ((bytes s).drop (k + 1)) by omega, show isBl 35 = false from rfl]
  simp only [Bool.false_eq_true, if_false]
  omega

theorem sk_none (s : ByteArray) (k : Nat) (hk : k < s.size) (hb : isBl s[k].toNat = false) (h : ¬ s[k].toNat = 35) : skN ((bytes s).drop k) = 0 := by
  rw [drop_at s k hk]
  simp [skN, skF, hb, h]

theorem sk_end (s : ByteArray) (k : Nat) (hk : ¬ k < s.size) : skN ((bytes s).drop k) = 0 := by
  rw [drop_end s k hk]; rfl

theorem lineEnd_any (s : ByteArray) (k : Nat) (w : World) (hk : k ≤ s.size) (hs : s.size ≤ 1099511627776) :
    Calls Tryz.prog 85 #[.string s, .int .i64 (k : Int)] w fun e w' => e = .returned (.int .i64 ((k + lnN ((bytes s).drop k) : Nat) : Int)) ∧ w' = w := by
  have hle := lnN_le ((bytes s).drop k)
  rw [List.length_drop, bytes_length] at hle
  have hix := lnN_index ((bytes s).drop k)
  rw [List.length_drop, bytes_length] at hix
  obtain ⟨N, hN⟩ : ∃ N, Hid (N = lnN ((bytes s).drop k)) := ⟨_, (rfl : lnN ((bytes s).drop k) = _)⟩
  rw [← hN.out] at hle hix ⊢
  have hcall : ∀ w, Calls Tryz.prog 119 #[.string (s.extract k s.size), .int .u8 10] w fun e w' => e = .returned (.int .i64 (Lib.indexByte ((bytes s).drop k) 10)) ∧ w' = w := by
    intro w
    have := indexByte_any (s.extract k s.size) 10 w
    rw [show (s.extract k s.size).data.toList = bytes (s.extract k s.size) from rfl, bytes_from] at this
    exact this
  obtain ⟨I, hI⟩ : ∃ I, Hid (I = Lib.indexByte ((bytes s).drop k) 10) := ⟨_, (rfl : Lib.indexByte ((bytes s).drop k) 10 = _)⟩
  rw [← hI.out] at hix hcall
  have HC : Hid (∀ w, Calls Tryz.prog 119 #[.string (s.extract k s.size), .int .u8 10] w fun e w' => e = .returned (.int .i64 I) ∧ w' = w) := hcall
  clear hcall
  rcases hix with ⟨rfl, h2⟩ | rfl
  · go_enter Tryz.func85, Tryz.ntmps85
    go_wp2_with (first | (go_at_call 119; refine (HC.out _).mono ?_; rintro e w1 ⟨rfl, rfl⟩))
    go_ret
    exact ⟨by rw [h2, show k + (s.size - k) = s.size by omega]; rfl, rfl⟩
  · go_enter Tryz.func85, Tryz.ntmps85
    go_wp2_with (first | (go_at_call 119; refine (HC.out _).mono ?_; rintro e w1 ⟨rfl, rfl⟩))
    go_ret
    exact ⟨by go_num, rfl⟩

set_option maxRecDepth 100000 in
set_option maxHeartbeats 800000 in
theorem skip_any (s : ByteArray) (k : Nat) (w : World) (hk : k ≤ s.size) (hs : s.size ≤ 1099511627776) :
    Calls Tryz.prog 51 #[.string s, .int .i64 (k : Int)] w fun e w' => e = .returned (.int .i64 ((k + skN ((bytes s).drop k) : Nat) : Int)) ∧ w' = w := by
  obtain ⟨T, hT⟩ : ∃ T, Hid (T = k + skN ((bytes s).drop k)) := ⟨_, (rfl : k + skN ((bytes s).drop k) = _)⟩
  rw [← hT.out]
  go_enter Tryz.func51, Tryz.ntmps51
  go_wp2
  go_loopw [1] (fun j wr => ∃ i : Nat, j = .int .i64 (i : Int) ∧ i ≤ s.size ∧ Hid (i + skN ((bytes s).drop i) = T) ∧ wr = w) (fun j _ => s.size - (intOf j).toNat)
  case atStart => exact ⟨k, rfl, hk, hT.out.symm, rfl⟩
  case round =>
    obtain ⟨i, rfl, hi, hr, rfl⟩ := hrel
    by_cases hc : i < s.size
    · by_cases hb : isBl s[i].toNat = true
      · have hr' : Hid (i + 1 + skN ((bytes s).drop (i + 1)) = T) := by show _ = _; rw [← hr.out]; exact (sk_blank s i hc hb).symm
        clear hr
        have hb' : (s[i].toNat : Int) = 9 ∨ (s[i].toNat : Int) = 10 ∨ (s[i].toNat : Int) = 13 ∨ (s[i].toNat : Int) = 32 := by
          simp only [isBl, Bool.or_eq_true, decide_eq_true_eq] at hb; omega
        obtain ⟨c, hcc⟩ : ∃ c : Int, c = (s[i].toNat : Int) := ⟨_, rfl⟩
        rw [← hcc] at hb'
        rcases hb' with h | h | h | h
        all_goals
          have hcb : (s[i].toNat : Int) = c := hcc.symm
          rw [h] at hcb
          clear hb hcc
          go_wp2
          go_roundw
          case rel => exact ⟨i + 1, by go_num, by omega, hr', trivial⟩
          case measure => simp [intOf]; omega
      · have hb' : ¬ (s[i].toNat : Int) = 9 ∧ ¬ (s[i].toNat : Int) = 10 ∧ ¬ (s[i].toNat : Int) = 13 ∧ ¬ (s[i].toNat : Int) = 32 := by
          simp only [isBl, Bool.or_eq_true, decide_eq_true_eq] at hb; omega
        obtain ⟨h1, h2, h3, h4⟩ := hb'
        by_cases hn : s[i].toNat = 35
        · have hL : Hid (i + lnN ((bytes s).drop i) + skN ((bytes s).drop (i + lnN ((bytes s).drop i))) = T) := by show _ = _; rw [← hr.out]; exact (sk_note s i hc hn).symm
          have hle := lnN_le ((bytes s).drop i)
          rw [List.length_drop, bytes_length] at hle
          have hpos : 1 ≤ lnN ((bytes s).drop i) := by rw [drop_at s i hc]; simp [lnN, hn]
          have hcl := lineEnd_any s i wr (by omega) hs
          obtain ⟨N, hN⟩ : ∃ N, Hid (N = lnN ((bytes s).drop i)) := ⟨_, (rfl : lnN ((bytes s).drop i) = _)⟩
          have hL2 : Hid (i + N + skN ((bytes s).drop (i + N)) = T) := by show _ = _; rw [hN.out]; exact hL.out
          rw [← hN.out] at hle hpos hcl
          have HCL : Hid (Calls Tryz.prog 85 #[.string s, .int .i64 (i : Int)] wr fun e w' => e = .returned (.int .i64 ((i + N : Nat) : Int)) ∧ w' = wr) := hcl
          clear hL hcl hr hb
          have hn' : (s[i].toNat : Int) = 35 := by omega
          go_wp2_with (first | (go_at_call 85; refine (HCL.out).mono ?_; rintro e w1 ⟨rfl, rfl⟩))
          go_roundw
          case rel => exact ⟨i + N, rfl, by omega, hL2, trivial⟩
          case measure => simp [intOf]; omega
        · have hz := sk_none s i hc (by simpa using hb) hn
          have hfin : Hid (i = T) := by show _ = _; have := hr.out; omega
          have h5 : ¬ (s[i].toNat : Int) = 35 := by omega
          clear hb hz hr
          go_wp2
          go_ret
          exact ⟨by rw [← hfin.out]; rfl, rfl⟩
    · have hz := sk_end s i hc
      have hfin : Hid (i = T) := by show _ = _; have := hr.out; omega
      clear hz hr
      go_wp2
      go_ret
      exact ⟨by rw [hfin.out]; rfl, rfl⟩

end Go.Proofs.YtjgggmjjikopeaaGreatDoor

/- The document's own Parse: it answers as the code's does. -/
namespace Go.Proofs.YtjgggmjjikopeaaGreatDoor
open Go.RowKit
set_option linter.unusedVariables false

/-- Where the digits' loop stands. -/
def place (p i : Nat) : Nat := if i ≤ p then i else i - 1

end Go.Proofs.YtjgggmjjikopeaaGreatDoor

/- The document's own Parse, walked. -/
namespace Go.Proofs.YtjgggmjjikopeaaGreatDoor
open Go.RowKit
set_option linter.unusedVariables false

end Go.Proofs.YtjgggmjjikopeaaGreatDoor
