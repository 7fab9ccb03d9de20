/- Joined texts of the proof. -/
import Derived.Test.YtcmahiphfpgadaaDoorJ10
import Derived.WalkKit
import Derived.Lib.Bytealg
import Derived.Test.YtcmahiphfpgadaaDoorJ6
import Derived.Test.YtcmahiphfpgadaaDoorRows
import Derived.WalkSpells

/- real.Text. -/
namespace Go.Proofs.YtcmahiphfpgadaaDoor
open Go.RowKit
set_option linter.unusedVariables false

/-- The text of a real that was brought home. -/
def textOf (h : Nat) : List UInt8 :=
  if h = NAN then [110, 97, 110]
  else if h = 9218868437227405312 then [105, 110, 102]
  else if h = 18442240474082181120 then [45, 105, 110, 102]
  else match pr h 1 6 with
    | some (k, n) => litOf k n
    | none => match pr (fneg h) 1 6 with
      | some (k, n) => 45 :: litOf k n
      | none => 35 :: hexOf (bytesOf 8 h)

theorem litOf_len (k n : Nat) : (litOf k n).length ≤ 43 := by
  unfold litOf
  have h1 := decOf_len ((n / 10 ^ k : Nat) : Int)
  have h2 := decOf_len ((10 ^ k + n % 10 ^ k : Nat) : Int)
  rw [List.length_append, List.length_append, List.length_drop]
  simp only [List.length_singleton]
  omega

theorem hex8_len (h : Nat) : (hexOf (bytesOf 8 h)).length = 16 := by
  rw [hexOf_length, bytesOf_length]

theorem bytes8 (h : Nat) (hh : h < 18446744073709551616) (w : World) : Calls Tryd.prog 45 #[.int .u64 (h : Int), .int .i64 8] w fun e w' => ∃ (a : Option Addr) (c : Nat), e = .returned (.tuple #[.slice a 8 c, .int .i64 0]) ∧ Row w' a (bytesOf 8 h) ∧ Below w.heap.size w w' := by
  refine (show Calls Tryd.prog 45 #[.int .u64 (h : Int), .int .i64 8] w _ from bytes_ok h 8 hh (by omega) (by omega) (Nat.div_eq_of_lt hh) w).mono ?_
  rintro e w' ⟨v, rfl, hown, hb⟩
  obtain ⟨a, c, rfl, _, _, hrow⟩ := hown.row
  rw [bytesOf_length]
  exact ⟨a, c, rfl, hrow, hb⟩

theorem hex8 (a : Option Addr) (c h : Nat) (w : World) (hrow : Row w a (bytesOf 8 h)) (d : List UInt8) (hd : Hid (d = hexOf (bytesOf 8 h))) : Calls Tryd.prog 46 #[.slice a 8 c] w fun e w' => e = .returned (.string ⟨d.toArray⟩) ∧ Below w.heap.size w w' := by
  have := hex_any a c (bytesOf 8 h) w hrow (by rw [bytesOf_length]; omega)
  rw [bytesOf_length, ← hd.out] at this
  exact this

set_option maxRecDepth 100000 in
set_option maxHeartbeats 1600000 in
theorem text_home (a h : Nat) (hh : h = home a) (hl : h < 18446744073709551616) (w : World) : Calls Tryd.prog 27 #[.int .u64 (a : Int)] w fun e w' => e = .returned (.string ⟨(textOf h).toArray⟩) ∧ Below w.heap.size w w' := by
  have hhh : home h = h := by rw [hh, home_home]
  have k0 : ∀ w, Calls Tryd.prog 42 #[.int .u64 (a : Int)] w fun e w' => e = .returned (.int .u64 (h : Int)) ∧ w' = w := fun w => by rw [hh]; exact canon_any a w
  clear hh
  by_cases c1 : h = NAN
  · have ht : textOf h = [110, 97, 110] := by unfold textOf; rw [if_pos c1]
    rw [ht]
    subst c1
    go_enter Tryd.func27, Tryd.ntmps27
    go_wp2_with fail
    refine (k0 _).mono ?_
    rintro e w' ⟨rfl, rfl⟩
    go_wp2
    go_ret
    exact ⟨rfl, Below.refl _ _⟩
  have b1 : ((h : Int) == 9221120237041090560) = false := by rw [beq_eq_false_iff_ne]; intro hx; apply c1; unfold NAN; omega
  by_cases c2 : h = 9218868437227405312
  · have ht : textOf h = [105, 110, 102] := by unfold textOf; rw [if_neg c1, if_pos c2]
    rw [ht]
    subst c2
    go_enter Tryd.func27, Tryd.ntmps27
    go_wp2_with fail
    refine (k0 _).mono ?_
    rintro e w' ⟨rfl, rfl⟩
    go_wp2
    go_ret
    exact ⟨rfl, Below.refl _ _⟩
  have b2 : ((h : Int) == 9218868437227405312) = false := by rw [beq_eq_false_iff_ne]; omega
  by_cases c3 : h = 18442240474082181120
  · have ht : textOf h = [45, 105, 110, 102] := by unfold textOf; rw [if_neg c1, if_neg c2, if_pos c3]
    rw [ht]
    subst c3
    go_enter Tryd.func27, Tryd.ntmps27
    go_wp2_with fail
    refine (k0 _).mono ?_
    rintro e w' ⟨rfl, rfl⟩
    go_wp2
    go_ret
    exact ⟨rfl, Below.refl _ _⟩
  have b3 : ((h : Int) == 18442240474082181120) = false := by rw [beq_eq_false_iff_ne]; omega
  have ht : textOf h = match pr h 1 6 with
    | some (k, n) => litOf k n
    | none => match pr (fneg h) 1 6 with
      | some (k, n) => 45 :: litOf k n
      | none => 35 :: hexOf (bytesOf 8 h) := by unfold textOf; rw [if_neg c1, if_neg c2, if_neg c3]
  cases hp : pr h 1 6 with
  | some kn =>
    obtain ⟨k, n⟩ := kn
    rw [hp] at ht
    simp only at ht
    have p1 := print_lit h k n (textOf h) (by rw [hhh]; exact hp) ht.symm
    clear ht
    go_enter Tryd.func27, Tryd.ntmps27
    go_wp2_with fail
    refine (k0 _).mono ?_
    rintro e w' ⟨rfl, rfl⟩
    go_wp2_with fail
    refine (p1 _).mono ?_
    rintro e w2 ⟨rfl, hb2⟩
    go_wp2
    go_ret
    exact ⟨rfl, hb2⟩
  | none =>
    rw [hp] at ht
    simp only at ht
    have p1 := print_not h (by rw [hhh]; exact hp)
    obtain ⟨g, hg⟩ : ∃ g, g = fneg h := ⟨_, rfl⟩
    have k1 : ∀ w, Calls Tryd.prog 44 #[.int .u64 (h : Int)] w fun e w' => e = .returned (.int .u64 (g : Int)) ∧ w' = w := fun w => by rw [hg]; exact neg_any h hl w
    have hgh : home g = g := by rw [hg]; exact home_fneg h hl
    cases hq : pr (fneg h) 1 6 with
    | some kn =>
      obtain ⟨k, n⟩ := kn
      rw [hq] at ht
      simp only at ht
      obtain ⟨L, hL⟩ : ∃ L, L = litOf k n := ⟨_, rfl⟩
      have hLl : L.length ≤ 43 := by rw [hL]; exact litOf_len k n
      have p2 := print_lit g k n L (by rw [hgh, hg]; exact hq) hL.symm
      have ht' : textOf h = 45 :: L := by rw [ht, hL]
      rw [ht']
      clear ht ht' hL hp hq hg
      have hsz : (⟨L.toArray⟩ : ByteArray).size = L.length := size_mk L
      go_enter Tryd.func27, Tryd.ntmps27
      go_wp2_with fail
      refine (k0 _).mono ?_
      rintro e w' ⟨rfl, rfl⟩
      go_wp2_with fail
      refine (p1 _).mono ?_
      rintro e w2 ⟨rfl, hb2⟩
      go_wp2_with fail
      refine (k1 _).mono ?_
      rintro e w' ⟨rfl, rfl⟩
      go_wp2_with fail
      refine (p2 _).mono ?_
      rintro e w3 ⟨rfl, hb3⟩
      go_wp2
      go_ret
      exact ⟨congrArg (fun x => Ending.returned (.string x)) (cat_list [45] L), hb2.trans (hb3.mono hb2.size)⟩
    | none =>
      rw [hq] at ht
      simp only at ht
      have p2 := print_not g (by rw [hgh, hg]; exact hq)
      obtain ⟨L, hL⟩ : ∃ L, Hid (L = hexOf (bytesOf 8 h)) := ⟨_, (rfl : hexOf (bytesOf 8 h) = _)⟩
      have hLl : L.length = 16 := by rw [hL.out]; exact hex8_len h
      rw [← hL.out] at ht
      rw [ht]
      have hsz : (⟨L.toArray⟩ : ByteArray).size = L.length := size_mk L
      clear ht hp hq hg
      go_enter Tryd.func27, Tryd.ntmps27
      go_wp2_with fail
      refine (k0 _).mono ?_
      rintro e w' ⟨rfl, rfl⟩
      go_wp2_with fail
      refine (p1 _).mono ?_
      rintro e w2 ⟨rfl, hb2⟩
      go_wp2_with fail
      refine (k1 _).mono ?_
      rintro e w' ⟨rfl, rfl⟩
      go_wp2_with fail
      refine (p2 _).mono ?_
      rintro e w3 ⟨rfl, hb3⟩
      have hC3 := hb2.trans (hb3.mono hb2.size)
      clear hb2 hb3
      go_wp2_with fail
      refine (bytes8 h hl _).mono ?_
      rintro e w4 ⟨a4, c4, rfl, hrow, hb4⟩
      have hC4 := hC3.trans (hb4.mono hC3.size)
      clear hC3 hb4
      go_wp2_with fail
      refine (hex8 a4 c4 h _ hrow L hL).mono ?_
      rintro e w5 ⟨rfl, hb5⟩
      go_wp2
      go_ret
      exact ⟨congrArg (fun x => Ending.returned (.string x)) (cat_list [35] L), hC4.trans (hb5.mono hC4.size)⟩

theorem text_any (a : Nat) (ha : a < 18446744073709551616) (w : World) : Calls Tryd.prog 27 #[.int .u64 (a : Int)] w fun e w' => e = .returned (.string ⟨(textOf (home a)).toArray⟩) ∧ Below w.heap.size w w' := text_home a (home a) rfl (home_lt ha) w

end Go.Proofs.YtcmahiphfpgadaaDoor

/- The plain functions of letters, digits, signs and words that the contracts of lex speak of: no program is named here. -/
namespace Go.Proofs.YtcmahiphfpgadaaDoor

/-- A letter. -/
def isLet (n : Nat) : Bool := (decide (97 ≤ n) && decide (n ≤ 122)) || (decide (65 ≤ n) && decide (n ≤ 90)) || decide (n = 95)

/-- A digit. -/
def isDig (n : Nat) : Bool := decide (48 ≤ n) && decide (n ≤ 57)

/-- What a byte begins: a word 1, a number 2, a sign 4. -/
def kindN (n : Nat) : Nat := if isLet n then 1 else if isDig n then 2 else 4

/-- The signs. -/
def signs : List (List UInt8) := [[59], [123], [125], [40], [41], [61], [61, 61], [33, 61], [60], [60, 61], [62], [62, 61], [43], [45], [42], [47], [37], [33], [38, 38], [124, 124]]

/-- A sign. -/
def isSg (l : List UInt8) : Bool := decide (l ∈ signs)

/-- The words of the language. -/
def words : List (List UInt8) := [[115, 104, 97, 114, 101, 100], [109, 117, 116, 101, 120], [116, 104, 114, 101, 97, 100], [108, 111, 99, 97, 108], [105, 110, 116], [98, 111, 111, 108], [114, 101, 97, 108], [108, 111, 99, 107], [117, 110, 108, 111, 99, 107], [97, 115, 115, 101, 114, 116], [105, 102], [101, 108, 115, 101], [119, 104, 105, 108, 101], [115, 107, 105, 112], [116, 114, 117, 101], [102, 97, 108, 115, 101], [110, 97, 110], [105, 110, 102]]

/-- A word of the language. -/
def isWd (l : List UInt8) : Bool := decide (l ∈ words)

theorem toList_bytes (s : ByteArray) : s.toList = bytes s := Lib.toList_data s

theorem mk_bytes (s : ByteArray) : s = ⟨(bytes s).toArray⟩ := by
  apply ByteArray.ext
  simp [bytes]

/-- A point and a digit come next. -/
def isPt : List UInt8 → Bool
  | c :: d :: _ => decide (c = 46) && isDig d.toNat
  | _ => false

theorem isPt_two (l : List UInt8) (h : 1 < l.length) : isPt l = (decide ((l.getD 0 0).toNat = 46) && isDig (l.getD 1 0).toNat) := by
  match l, h with
  | c :: d :: r, _ =>
    simp only [isPt, List.getD_cons_zero, List.getD_cons_succ]
    congr 1
    rw [Bool.eq_iff_iff]
    simp only [decide_eq_true_eq]
    constructor
    · rintro rfl; rfl
    · intro h; exact UInt8.toNat_inj.1 h

theorem isPt_short (l : List UInt8) (h : ¬ 1 < l.length) : isPt l = false := by
  match l, h with
  | [], _ => rfl
  | [_], _ => rfl
  | _ :: _ :: _, h => exact absurd (by simp) h

theorem isPt_str (s : ByteArray) (h : 1 < s.size) : isPt (bytes s) = (decide (s[0].toNat = 46) && isDig s[1].toNat) := by
  rw [isPt_two _ (by rw [bytes_length]; exact h), bytes_at s 0 (by omega), bytes_at s 1 h]

end Go.Proofs.YtcmahiphfpgadaaDoor

/- lex: the small functions of bytes, signs and words. -/
namespace Go.Proofs.YtcmahiphfpgadaaDoor
open Go.RowKit
set_option linter.unusedVariables false
theorem isDigit_any (n : Nat) (w : World) : Calls Tryd.prog 53 #[.int .u8 (n : Int)] w fun e w' => e = .returned (.bool (isDig n)) ∧ w' = w := by
  go_enter Tryd.func53, Tryd.ntmps53
  go_wp2
  all_goals
    go_ret
    refine ⟨?_, rfl⟩
    simp [isDig]
    try (rw [Bool.eq_iff_iff]; simp)
    try omega
theorem isLetter_any (n : Nat) (w : World) : Calls Tryd.prog 52 #[.int .u8 (n : Int)] w fun e w' => e = .returned (.bool (isLet n)) ∧ w' = w := by
  go_enter Tryd.func52, Tryd.ntmps52
  go_wp2
  all_goals
    go_ret
    refine ⟨?_, rfl⟩
    simp [isLet]
    try (rw [Bool.eq_iff_iff]; simp)
    try omega
theorem kindOf_any (n : Nat) (w : World) : Calls Tryd.prog 51 #[.int .u8 (n : Int)] w fun e w' => e = .returned (.int .i64 (kindN n : Nat)) ∧ w' = w := by
  go_enter Tryd.func51, Tryd.ntmps51
  go_wp2_with fail
  refine (isLetter_any n _).mono ?_
  rintro e w1 ⟨rfl, rfl⟩
  cases h1 : isLet n
  · go_wp2_with fail
    refine (isDigit_any n _).mono ?_
    rintro e w1 ⟨rfl, rfl⟩
    cases h2 : isDig n
    · go_wp2
      go_ret
      simp [kindN, h1, h2]
    · go_wp2
      go_ret
      simp [kindN, h1, h2]
  · go_wp2
    go_ret
    simp [kindN, h1]

set_option maxRecDepth 100000 in
set_option maxHeartbeats 800000 in
theorem isSign_yes : ∀ x ∈ signs, ∀ w : World, Calls Tryd.prog 55 #[.string ⟨x.toArray⟩] w fun e w' => e = .returned (.bool true) ∧ w' = w := by
  intro x hx w
  simp only [signs, List.mem_cons, List.not_mem_nil, or_false] at hx
  rcases hx with rfl | rfl | rfl | rfl | rfl | rfl | rfl | rfl | rfl | rfl | rfl | rfl | rfl | rfl | rfl | rfl | rfl | rfl | rfl | rfl
  all_goals
    go_enter Tryd.func55, Tryd.ntmps55
    go_wp2
    go_ret
    exact ⟨rfl, rfl⟩

set_option maxRecDepth 100000 in
set_option maxHeartbeats 800000 in
theorem isSign_any (s : ByteArray) (w : World) : Calls Tryd.prog 55 #[.string s] w fun e w' => e = .returned (.bool (isSg (bytes s))) ∧ w' = w := by
  by_cases hx : bytes s ∈ signs
  · have h := isSign_yes _ hx w
    rw [← mk_bytes s] at h
    simpa only [isSg, hx, decide_true] using h
  · have hn : ¬ bytes s ∈ signs := hx
    simp only [isSg, hx, decide_false]
    clear hx
    have n0 : (s.toList == [59]) = false := by rw [toList_bytes]; simp only [beq_eq_false_iff_ne]; intro h0; exact hn (by rw [h0]; decide)
    have n1 : (s.toList == [123]) = false := by rw [toList_bytes]; simp only [beq_eq_false_iff_ne]; intro h0; exact hn (by rw [h0]; decide)
    have n2 : (s.toList == [125]) = false := by rw [toList_bytes]; simp only [beq_eq_false_iff_ne]; intro h0; exact hn (by rw [h0]; decide)
    have n3 : (s.toList == [40]) = false := by rw [toList_bytes]; simp only [beq_eq_false_iff_ne]; intro h0; exact hn (by rw [h0]; decide)
    have n4 : (s.toList == [41]) = false := by rw [toList_bytes]; simp only [beq_eq_false_iff_ne]; intro h0; exact hn (by rw [h0]; decide)
    have n5 : (s.toList == [61]) = false := by rw [toList_bytes]; simp only [beq_eq_false_iff_ne]; intro h0; exact hn (by rw [h0]; decide)
    have n6 : (s.toList == [61, 61]) = false := by rw [toList_bytes]; simp only [beq_eq_false_iff_ne]; intro h0; exact hn (by rw [h0]; decide)
    have n7 : (s.toList == [33, 61]) = false := by rw [toList_bytes]; simp only [beq_eq_false_iff_ne]; intro h0; exact hn (by rw [h0]; decide)
    have n8 : (s.toList == [60]) = false := by rw [toList_bytes]; simp only [beq_eq_false_iff_ne]; intro h0; exact hn (by rw [h0]; decide)
    have n9 : (s.toList == [60, 61]) = false := by rw [toList_bytes]; simp only [beq_eq_false_iff_ne]; intro h0; exact hn (by rw [h0]; decide)
    have n10 : (s.toList == [62]) = false := by rw [toList_bytes]; simp only [beq_eq_false_iff_ne]; intro h0; exact hn (by rw [h0]; decide)
    have n11 : (s.toList == [62, 61]) = false := by rw [toList_bytes]; simp only [beq_eq_false_iff_ne]; intro h0; exact hn (by rw [h0]; decide)
    have n12 : (s.toList == [43]) = false := by rw [toList_bytes]; simp only [beq_eq_false_iff_ne]; intro h0; exact hn (by rw [h0]; decide)
    have n13 : (s.toList == [45]) = false := by rw [toList_bytes]; simp only [beq_eq_false_iff_ne]; intro h0; exact hn (by rw [h0]; decide)
    have n14 : (s.toList == [42]) = false := by rw [toList_bytes]; simp only [beq_eq_false_iff_ne]; intro h0; exact hn (by rw [h0]; decide)
    have n15 : (s.toList == [47]) = false := by rw [toList_bytes]; simp only [beq_eq_false_iff_ne]; intro h0; exact hn (by rw [h0]; decide)
    have n16 : (s.toList == [37]) = false := by rw [toList_bytes]; simp only [beq_eq_false_iff_ne]; intro h0; exact hn (by rw [h0]; decide)
    have n17 : (s.toList == [33]) = false := by rw [toList_bytes]; simp only [beq_eq_false_iff_ne]; intro h0; exact hn (by rw [h0]; decide)
    have n18 : (s.toList == [38, 38]) = false := by rw [toList_bytes]; simp only [beq_eq_false_iff_ne]; intro h0; exact hn (by rw [h0]; decide)
    have n19 : (s.toList == [124, 124]) = false := by rw [toList_bytes]; simp only [beq_eq_false_iff_ne]; intro h0; exact hn (by rw [h0]; decide)
    clear hn
    go_enter Tryd.func55, Tryd.ntmps55
    go_wp2
    go_ret
    exact ⟨rfl, rfl⟩

set_option maxRecDepth 100000 in
set_option maxHeartbeats 800000 in
theorem word_yes : ∀ x ∈ words, ∀ w : World, Calls Tryd.prog 37 #[.string ⟨x.toArray⟩] w fun e w' => e = .returned (.bool true) ∧ w' = w := by
  intro x hx w
  simp only [words, List.mem_cons, List.not_mem_nil, or_false] at hx
  rcases hx with rfl | rfl | rfl | rfl | rfl | rfl | rfl | rfl | rfl | rfl | rfl | rfl | rfl | rfl | rfl | rfl | rfl | rfl
  all_goals
    go_enter Tryd.func37, Tryd.ntmps37
    go_wp2
    go_ret
    exact ⟨rfl, rfl⟩

set_option maxRecDepth 100000 in
set_option maxHeartbeats 800000 in
theorem word_any (s : ByteArray) (w : World) : Calls Tryd.prog 37 #[.string s] w fun e w' => e = .returned (.bool (isWd (bytes s))) ∧ w' = w := by
  by_cases hx : bytes s ∈ words
  · have h := word_yes _ hx w
    rw [← mk_bytes s] at h
    simpa only [isWd, hx, decide_true] using h
  · have hn : ¬ bytes s ∈ words := hx
    simp only [isWd, hx, decide_false]
    clear hx
    have n0 : (s.toList == [115, 104, 97, 114, 101, 100]) = false := by rw [toList_bytes]; simp only [beq_eq_false_iff_ne]; intro h0; exact hn (by rw [h0]; decide)
    have n1 : (s.toList == [109, 117, 116, 101, 120]) = false := by rw [toList_bytes]; simp only [beq_eq_false_iff_ne]; intro h0; exact hn (by rw [h0]; decide)
    have n2 : (s.toList == [116, 104, 114, 101, 97, 100]) = false := by rw [toList_bytes]; simp only [beq_eq_false_iff_ne]; intro h0; exact hn (by rw [h0]; decide)
    have n3 : (s.toList == [108, 111, 99, 97, 108]) = false := by rw [toList_bytes]; simp only [beq_eq_false_iff_ne]; intro h0; exact hn (by rw [h0]; decide)
    have n4 : (s.toList == [105, 110, 116]) = false := by rw [toList_bytes]; simp only [beq_eq_false_iff_ne]; intro h0; exact hn (by rw [h0]; decide)
    have n5 : (s.toList == [98, 111, 111, 108]) = false := by rw [toList_bytes]; simp only [beq_eq_false_iff_ne]; intro h0; exact hn (by rw [h0]; decide)
    have n6 : (s.toList == [114, 101, 97, 108]) = false := by rw [toList_bytes]; simp only [beq_eq_false_iff_ne]; intro h0; exact hn (by rw [h0]; decide)
    have n7 : (s.toList == [108, 111, 99, 107]) = false := by rw [toList_bytes]; simp only [beq_eq_false_iff_ne]; intro h0; exact hn (by rw [h0]; decide)
    have n8 : (s.toList == [117, 110, 108, 111, 99, 107]) = false := by rw [toList_bytes]; simp only [beq_eq_false_iff_ne]; intro h0; exact hn (by rw [h0]; decide)
    have n9 : (s.toList == [97, 115, 115, 101, 114, 116]) = false := by rw [toList_bytes]; simp only [beq_eq_false_iff_ne]; intro h0; exact hn (by rw [h0]; decide)
    have n10 : (s.toList == [105, 102]) = false := by rw [toList_bytes]; simp only [beq_eq_false_iff_ne]; intro h0; exact hn (by rw [h0]; decide)
    have n11 : (s.toList == [101, 108, 115, 101]) = false := by rw [toList_bytes]; simp only [beq_eq_false_iff_ne]; intro h0; exact hn (by rw [h0]; decide)
    have n12 : (s.toList == [119, 104, 105, 108, 101]) = false := by rw [toList_bytes]; simp only [beq_eq_false_iff_ne]; intro h0; exact hn (by rw [h0]; decide)
    have n13 : (s.toList == [115, 107, 105, 112]) = false := by rw [toList_bytes]; simp only [beq_eq_false_iff_ne]; intro h0; exact hn (by rw [h0]; decide)
    have n14 : (s.toList == [116, 114, 117, 101]) = false := by rw [toList_bytes]; simp only [beq_eq_false_iff_ne]; intro h0; exact hn (by rw [h0]; decide)
    have n15 : (s.toList == [102, 97, 108, 115, 101]) = false := by rw [toList_bytes]; simp only [beq_eq_false_iff_ne]; intro h0; exact hn (by rw [h0]; decide)
    have n16 : (s.toList == [110, 97, 110]) = false := by rw [toList_bytes]; simp only [beq_eq_false_iff_ne]; intro h0; exact hn (by rw [h0]; decide)
    have n17 : (s.toList == [105, 110, 102]) = false := by rw [toList_bytes]; simp only [beq_eq_false_iff_ne]; intro h0; exact hn (by rw [h0]; decide)
    clear hn
    go_enter Tryd.func37, Tryd.ntmps37
    go_wp2
    go_ret
    exact ⟨rfl, rfl⟩

theorem isPoint_any (s : ByteArray) (w : World) : Calls Tryd.prog 54 #[.string s] w fun e w' => e = .returned (.bool (isPt (bytes s))) ∧ w' = w := by
  by_cases h : 1 < s.size
  · rw [isPt_str s h]
    go_enter Tryd.func54, Tryd.ntmps54
    go_wp2
    all_goals
      go_ret
      refine ⟨?_, rfl⟩
      simp [isDig]
      try (rw [Bool.eq_iff_iff]; simp)
      try omega
  · rw [isPt_short _ (by rw [bytes_length]; exact h)]
    go_enter Tryd.func54, Tryd.ntmps54
    go_wp2
    go_ret
    exact ⟨rfl, rfl⟩

end Go.Proofs.YtcmahiphfpgadaaDoor

/- How far a token goes: plain functions on lists of bytes. -/
namespace Go.Proofs.YtcmahiphfpgadaaDoor

/-- How many letters and digits stand ahead. -/
def alN : List UInt8 → Nat
  | [] => 0
  | c :: r => if isLet c.toNat || isDig c.toNat then alN r + 1 else 0

/-- How many digits stand ahead. -/
def dgN : List UInt8 → Nat
  | [] => 0
  | c :: r => if isDig c.toNat then dgN r + 1 else 0

/-- How many digits, or digits with one point and digits, stand ahead; 3 with the point, 2 without. -/
def nmN : List UInt8 → Nat × Nat
  | [] => (2, 0)
  | c :: r => if isPt (c :: r) then (3, dgN r + 1) else if isDig c.toNat then ((nmN r).1, (nmN r).2 + 1) else (2, 0)

/-- One, if a sign of two goes on. -/
def sgN (c : UInt8) : List UInt8 → Nat
  | [] => 0
  | d :: _ => if isSg [c, d] then 1 else 0

/-- A token's kind and length. -/
def endOf : List UInt8 → Nat × Nat
  | [] => (4, 0)
  | c :: r => if isLet c.toNat then (1, alN r + 1) else if isDig c.toNat then ((nmN r).1, (nmN r).2 + 1) else (4, sgN c r + 1)

theorem drop_at (s : ByteArray) (k : Nat) (h : k < s.size) : (bytes s).drop k = s[k] :: (bytes s).drop (k + 1) := by
  rw [← bytes_at s k h]
  have h' : k < (bytes s).length := by rw [bytes_length]; exact h
  rw [List.drop_eq_getElem_cons h']
  simp [List.getD, h']

theorem drop_end (s : ByteArray) (k : Nat) (h : ¬ k < s.size) : (bytes s).drop k = [] := by
  apply List.drop_eq_nil_of_le
  rw [bytes_length]
  omega

theorem bytes_extract (s : ByteArray) (i j : Nat) : bytes (s.extract i j) = ((bytes s).drop i).take (j - i) := Lib.extract_data s i j

theorem bytes_from (s : ByteArray) (i : Nat) : bytes (s.extract i s.size) = (bytes s).drop i := by
  rw [bytes_extract, List.take_of_length_le]
  rw [List.length_drop, bytes_length]; exact Nat.le_refl _

/-- No sign has three bytes. -/
theorem isSg_three (l : List UInt8) (h : 3 ≤ l.length) : isSg l = false := by
  simp only [isSg, decide_eq_false_iff_not]
  intro hm
  simp only [signs, List.mem_cons, List.not_mem_nil, or_false] at hm
  rcases hm with rfl | rfl | rfl | rfl | rfl | rfl | rfl | rfl | rfl | rfl | rfl | rfl | rfl | rfl | rfl | rfl | rfl | rfl | rfl | rfl <;> simp at h

end Go.Proofs.YtcmahiphfpgadaaDoor
