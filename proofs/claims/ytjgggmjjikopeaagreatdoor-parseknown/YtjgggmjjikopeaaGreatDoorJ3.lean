/- Joined texts of the proof. -/
import Derived.Test.YtjgggmjjikopeaaGreatDoorJ2
import Derived.WalkKit
import Derived.Lib.Bytealg
import Derived.Test.YtjgggmjjikopeaaGreatDoorJ1
import Derived.Test.YtjgggmjjikopeaaGreatDoorRows
import Derived.WalkSpells
import Derived.WalkMore

/- real.Text. -/
namespace Go.Proofs.YtjgggmjjikopeaaGreatDoor
open Go.RowKit
set_option linter.unusedVariables false

/-- The text of a real that was brought home. -/
def textOf (h : Nat) : List UInt8 :=
  if h = NAN then [110, 97, 110]
  else if h = 9218868437227405312 then [105, 110, 102]
  else if h = 18442240474082181120 then [45, 105, 110, 102]
  else match pr h 1 6 with
    | some (k, n) => litOf k n
    | none => match pr (fneg h) 1 6 with
      | some (k, n) => 45 :: litOf k n
      | none => 35 :: hexOf (bytesOf 8 h)

theorem litOf_len (k n : Nat) : (litOf k n).length ≤ 43 := by
  unfold litOf
  have h1 := decOf_len ((n / 10 ^ k : Nat) : Int)
  have h2 := decOf_len ((10 ^ k + n % 10 ^ k : Nat) : Int)
  rw [List.length_append, List.length_append, List.length_drop]
  simp only [List.length_singleton]
  omega

theorem hex8_len (h : Nat) : (hexOf (bytesOf 8 h)).length = 16 := by
  rw [hexOf_length, bytesOf_length]

theorem bytes8 (h : Nat) (hh : h < 18446744073709551616) (w : World) : Calls Tryz.prog 175 #[.int .u64 (h : Int), .int .i64 8] w fun e w' => ∃ (a : Option Addr) (c : Nat), e = .returned (.tuple #[.slice a 8 c, .int .i64 0]) ∧ Row w' a (bytesOf 8 h) ∧ Below w.heap.size w w' := by
  refine (show Calls Tryz.prog 175 #[.int .u64 (h : Int), .int .i64 8] w _ from bytes_ok h 8 hh (by omega) (by omega) (Nat.div_eq_of_lt hh) w).mono ?_
  rintro e w' ⟨v, rfl, hown, hb⟩
  obtain ⟨a, c, rfl, _, _, hrow⟩ := hown.row
  rw [bytesOf_length]
  exact ⟨a, c, rfl, hrow, hb⟩

theorem hex8 (a : Option Addr) (c h : Nat) (w : World) (hrow : Row w a (bytesOf 8 h)) (d : List UInt8) (hd : Hid (d = hexOf (bytesOf 8 h))) : Calls Tryz.prog 176 #[.slice a 8 c] w fun e w' => e = .returned (.string ⟨d.toArray⟩) ∧ Below w.heap.size w w' := by
  have := hex_any a c (bytesOf 8 h) w hrow (by rw [bytesOf_length]; omega)
  rw [bytesOf_length, ← hd.out] at this
  exact this

set_option maxRecDepth 100000 in
set_option maxHeartbeats 1600000 in
theorem text_home (a h : Nat) (hh : h = home a) (hl : h < 18446744073709551616) (w : World) : Calls Tryz.prog 148 #[.int .u64 (a : Int)] w fun e w' => e = .returned (.string ⟨(textOf h).toArray⟩) ∧ Below w.heap.size w w' := by
  have hhh : home h = h := by rw [hh, home_home]
  have k0 : ∀ w, Calls Tryz.prog 173 #[.int .u64 (a : Int)] w fun e w' => e = .returned (.int .u64 (h : Int)) ∧ w' = w := fun w => by rw [hh]; exact canon_any a w
  clear hh
  by_cases c1 : h = NAN
  · have ht : textOf h = [110, 97, 110] := by unfold textOf; rw [if_pos c1]
    rw [ht]
    subst c1
    go_enter Tryz.func148, Tryz.ntmps148
    go_wp2_with fail
    refine (k0 _).mono ?_
    rintro e w' ⟨rfl, rfl⟩
    go_wp2
    go_ret
    exact ⟨rfl, Below.refl _ _⟩
  have b1 : ((h : Int) == 9221120237041090560) = false := by rw [beq_eq_false_iff_ne]; intro hx; apply c1; unfold NAN; omega
  by_cases c2 : h = 9218868437227405312
  · have ht : textOf h = [105, 110, 102] := by unfold textOf; rw [if_neg c1, if_pos c2]
    rw [ht]
    subst c2
    go_enter Tryz.func148, Tryz.ntmps148
    go_wp2_with fail
    refine (k0 _).mono ?_
    rintro e w' ⟨rfl, rfl⟩
    go_wp2
    go_ret
    exact ⟨rfl, Below.refl _ _⟩
  have b2 : ((h : Int) == 9218868437227405312) = false := by rw [beq_eq_false_iff_ne]; omega
  by_cases c3 : h = 18442240474082181120
  · have ht : textOf h = [45, 105, 110, 102] := by unfold textOf; rw [if_neg c1, if_neg c2, if_pos c3]
    rw [ht]
    subst c3
    go_enter Tryz.func148, Tryz.ntmps148
    go_wp2_with fail
    refine (k0 _).mono ?_
    rintro e w' ⟨rfl, rfl⟩
    go_wp2
    go_ret
    exact ⟨rfl, Below.refl _ _⟩
  have b3 : ((h : Int) == 18442240474082181120) = false := by rw [beq_eq_false_iff_ne]; omega
  have ht : textOf h = match pr h 1 6 with
    | some (k, n) => litOf k n
    | none => match pr (fneg h) 1 6 with
      | some (k, n) => 45 :: litOf k n
      | none => 35 :: hexOf (bytesOf 8 h) := by unfold textOf; rw [if_neg c1, if_neg c2, if_neg c3]
  cases hp : pr h 1 6 with
  | some kn =>
    obtain ⟨k, n⟩ := kn
    rw [hp] at ht
    simp only at ht
    have p1 := print_lit h k n (textOf h) (by rw [hhh]; exact hp) ht.symm
    clear ht
    go_enter Tryz.func148, Tryz.ntmps148
    go_wp2_with fail
    refine (k0 _).mono ?_
    rintro e w' ⟨rfl, rfl⟩
    go_wp2_with fail
    refine (p1 _).mono ?_
    rintro e w2 ⟨rfl, hb2⟩
    go_wp2
    go_ret
    exact ⟨rfl, hb2⟩
  | none =>
    rw [hp] at ht
    simp only at ht
    have p1 := print_not h (by rw [hhh]; exact hp)
    obtain ⟨g, hg⟩ : ∃ g, g = fneg h := ⟨_, rfl⟩
    have k1 : ∀ w, Calls Tryz.prog 161 #[.int .u64 (h : Int)] w fun e w' => e = .returned (.int .u64 (g : Int)) ∧ w' = w := fun w => by rw [hg]; exact neg_any h hl w
    have hgh : home g = g := by rw [hg]; exact home_fneg h hl
    cases hq : pr (fneg h) 1 6 with
    | some kn =>
      obtain ⟨k, n⟩ := kn
      rw [hq] at ht
      simp only at ht
      obtain ⟨L, hL⟩ : ∃ L, L = litOf k n := ⟨_, rfl⟩
      have hLl : L.length ≤ 43 := by rw [hL]; exact litOf_len k n
      have p2 := print_lit g k n L (by rw [hgh, hg]; exact hq) hL.symm
      have ht' : textOf h = 45 :: L := by rw [ht, hL]
      rw [ht']
      clear ht ht' hL hp hq hg
      have hsz : (⟨L.toArray⟩ : ByteArray).size = L.length := size_mk L
      go_enter Tryz.func148, Tryz.ntmps148
      go_wp2_with fail
      refine (k0 _).mono ?_
      rintro e w' ⟨rfl, rfl⟩
      go_wp2_with fail
      refine (p1 _).mono ?_
      rintro e w2 ⟨rfl, hb2⟩
      go_wp2_with fail
      refine (k1 _).mono ?_
      rintro e w' ⟨rfl, rfl⟩
      go_wp2_with fail
      refine (p2 _).mono ?_
      rintro e w3 ⟨rfl, hb3⟩
      go_wp2
      go_ret
      exact ⟨congrArg (fun x => Ending.returned (.string x)) (cat_list [45] L), hb2.trans (hb3.mono hb2.size)⟩
    | none =>
      rw [hq] at ht
      simp only at ht
      have p2 := print_not g (by rw [hgh, hg]; exact hq)
      obtain ⟨L, hL⟩ : ∃ L, Hid (L = hexOf (bytesOf 8 h)) := ⟨_, (rfl : hexOf (bytesOf 8 h) = _)⟩
      have hLl : L.length = 16 := by rw [hL.out]; exact hex8_len h
      rw [← hL.out] at ht
      rw [ht]
      have hsz : (⟨L.toArray⟩ : ByteArray).size = L.length := size_mk L
      clear ht hp hq hg
      go_enter Tryz.func148, Tryz.ntmps148
      go_wp2_with fail
      refine (k0 _).mono ?_
      rintro e w' ⟨rfl, rfl⟩
      go_wp2_with fail
      refine (p1 _).mono ?_
      rintro e w2 ⟨rfl, hb2⟩
      go_wp2_with fail
      refine (k1 _).mono ?_
      rintro e w' ⟨rfl, rfl⟩
      go_wp2_with fail
      refine (p2 _).mono ?_
      rintro e w3 ⟨rfl, hb3⟩
      have hC3 := hb2.trans (hb3.mono hb2.size)
      clear hb2 hb3
      go_wp2_with fail
      refine (bytes8 h hl _).mono ?_
      rintro e w4 ⟨a4, c4, rfl, hrow, hb4⟩
      have hC4 := hC3.trans (hb4.mono hC3.size)
      clear hC3 hb4
      go_wp2_with fail
      refine (hex8 a4 c4 h _ hrow L hL).mono ?_
      rintro e w5 ⟨rfl, hb5⟩
      go_wp2
      go_ret
      exact ⟨congrArg (fun x => Ending.returned (.string x)) (cat_list [35] L), hC4.trans (hb5.mono hC4.size)⟩

theorem text_any (a : Nat) (ha : a < 18446744073709551616) (w : World) : Calls Tryz.prog 148 #[.int .u64 (a : Int)] w fun e w' => e = .returned (.string ⟨(textOf (home a)).toArray⟩) ∧ Below w.heap.size w w' := text_home a (home a) rfl (home_lt ha) w

end Go.Proofs.YtjgggmjjikopeaaGreatDoor

/- The plain functions of letters, digits, signs and words that the contracts of lex speak of: no program is named here. -/
namespace Go.Proofs.YtjgggmjjikopeaaGreatDoor

/-- A letter. -/
def isLet (n : Nat) : Bool := (decide (97 ≤ n) && decide (n ≤ 122)) || (decide (65 ≤ n) && decide (n ≤ 90)) || decide (n = 95)

/-- A digit. -/
def isDig (n : Nat) : Bool := decide (48 ≤ n) && decide (n ≤ 57)

/-- What a byte begins: a word 1, a number 2, a sign 4. -/
def kindN (n : Nat) : Nat := if isLet n then 1 else if isDig n then 2 else 4

/-- The signs. -/
def signs : List (List UInt8) := [[59], [123], [125], [40], [41], [61], [61, 61], [33, 61], [60], [60, 61], [62], [62, 61], [43], [45], [42], [47], [37], [33], [38, 38], [124, 124]]

/-- A sign. -/
def isSg (l : List UInt8) : Bool := decide (l ∈ signs)

/-- The words of the language. -/
def words : List (List UInt8) := [[115, 104, 97, 114, 101, 100], [109, 117, 116, 101, 120], [116, 104, 114, 101, 97, 100], [108, 111, 99, 97, 108], [105, 110, 116], [98, 111, 111, 108], [114, 101, 97, 108], [108, 111, 99, 107], [117, 110, 108, 111, 99, 107], [97, 115, 115, 101, 114, 116], [105, 102], [101, 108, 115, 101], [119, 104, 105, 108, 101], [115, 107, 105, 112], [116, 114, 117, 101], [102, 97, 108, 115, 101], [110, 97, 110], [105, 110, 102]]

/-- A word of the language. -/
def isWd (l : List UInt8) : Bool := decide (l ∈ words)

theorem toList_bytes (s : ByteArray) : s.toList = bytes s := Lib.toList_data s

theorem mk_bytes (s : ByteArray) : s = ⟨(bytes s).toArray⟩ := by
  apply ByteArray.ext
  simp [bytes]

/-- A point and a digit come next. -/
def isPt : List UInt8 → Bool
  | c :: d :: _ => decide (c = 46) && isDig d.toNat
  | _ => false

theorem isPt_two (l : List UInt8) (h : 1 < l.length) : isPt l = (decide ((l.getD 0 0).toNat = 46) && isDig (l.getD 1 0).toNat) := by
  match l, h with
  | c :: d :: r, _ =>
    simp only [isPt, List.getD_cons_zero, List.getD_cons_succ]
    congr 1
    rw [Bool.eq_iff_iff]
    simp only [decide_eq_true_eq]
    constructor
    · rintro rfl; rfl
    · intro h; exact UInt8.toNat_inj.1 h

theorem isPt_short (l : List UInt8) (h : ¬ 1 < l.length) : isPt l = false := by
  match l, h with
  | [], _ => rfl
  | [_], _ => rfl
  | _ :: _ :: _, h => exact absurd (by simp) h

theorem isPt_str (s : ByteArray) (h : 1 < s.size) : isPt (bytes s) = (decide (s[0].toNat = 46) && isDig s[1].toNat) := by
  rw [isPt_two _ (by rw [bytes_length]; exact h), bytes_at s 0 (by omega), bytes_at s 1 h]

end Go.Proofs.YtjgggmjjikopeaaGreatDoor

/- lex: the small functions of bytes, signs and words. -/
namespace Go.Proofs.YtjgggmjjikopeaaGreatDoor
open Go.RowKit
set_option linter.unusedVariables false
theorem isDigit_any (n : Nat) (w : World) : Calls Tryz.prog 121 #[.int .u8 (n : Int)] w fun e w' => e = .returned (.bool (isDig n)) ∧ w' = w := by
  go_enter Tryz.func121, Tryz.ntmps121
  go_wp2
  all_goals
    go_ret
    refine ⟨?_, rfl⟩
    simp [isDig]
    try (rw [Bool.eq_iff_iff]; simp)
    try omega
theorem isLetter_any (n : Nat) (w : World) : Calls Tryz.prog 91 #[.int .u8 (n : Int)] w fun e w' => e = .returned (.bool (isLet n)) ∧ w' = w := by
  go_enter Tryz.func91, Tryz.ntmps91
  go_wp2
  all_goals
    go_ret
    refine ⟨?_, rfl⟩
    simp [isLet]
    try (rw [Bool.eq_iff_iff]; simp)
    try omega
theorem kindOf_any (n : Nat) (w : World) : Calls Tryz.prog 120 #[.int .u8 (n : Int)] w fun e w' => e = .returned (.int .i64 (kindN n : Nat)) ∧ w' = w := by
  go_enter Tryz.func120, Tryz.ntmps120
  go_wp2_with fail
  refine (isLetter_any n _).mono ?_
  rintro e w1 ⟨rfl, rfl⟩
  cases h1 : isLet n
  · go_wp2_with fail
    refine (isDigit_any n _).mono ?_
    rintro e w1 ⟨rfl, rfl⟩
    cases h2 : isDig n
    · go_wp2
      go_ret
      simp [kindN, h1, h2]
    · go_wp2
      go_ret
      simp [kindN, h1, h2]
  · go_wp2
    go_ret
    simp [kindN, h1]

set_option maxRecDepth 100000 in
set_option maxHeartbeats 800000 in
theorem isSign_yes : ∀ x ∈ signs, ∀ w : World, Calls Tryz.prog 90 #[.string ⟨x.toArray⟩] w fun e w' => e = .returned (.bool true) ∧ w' = w := by
  intro x hx w
  simp only [signs, List.mem_cons, List.not_mem_nil, or_false] at hx
  rcases hx with rfl | rfl | rfl | rfl | rfl | rfl | rfl | rfl | rfl | rfl | rfl | rfl | rfl | rfl | rfl | rfl | rfl | rfl | rfl | rfl
  all_goals
    go_enter Tryz.func90, Tryz.ntmps90
    go_wp2
    go_ret
    exact ⟨rfl, rfl⟩

set_option maxRecDepth 100000 in
set_option maxHeartbeats 800000 in
theorem isSign_any (s : ByteArray) (w : World) : Calls Tryz.prog 90 #[.string s] w fun e w' => e = .returned (.bool (isSg (bytes s))) ∧ w' = w := by
  by_cases hx : bytes s ∈ signs
  · have h := isSign_yes _ hx w
    rw [← mk_bytes s] at h
    simpa only [isSg, hx, decide_true] using h
  · have hn : ¬ bytes s ∈ signs := hx
    simp only [isSg, hx, decide_false]
    clear hx
    have n0 : (s.toList == [59]) = false := by rw [toList_bytes]; simp only [beq_eq_false_iff_ne]; intro h0; exact hn (by rw [h0]; decide)
    have n1 : (s.toList == [123]) = false := by rw [toList_bytes]; simp only [beq_eq_false_iff_ne]; intro h0; exact hn (by rw [h0]; decide)
    have n2 : (s.toList == [125]) = false := by rw [toList_bytes]; simp only [beq_eq_false_iff_ne]; intro h0; exact hn (by rw [h0]; decide)
    have n3 : (s.toList == [40]) = false := by rw [toList_bytes]; simp only [beq_eq_false_iff_ne]; intro h0; exact hn (by rw [h0]; decide)
    have n4 : (s.toList == [41]) = false := by rw [toList_bytes]; simp only [beq_eq_false_iff_ne]; intro h0; exact hn (by rw [h0]; decide)
    have n5 : (s.toList == [61]) = false := by rw [toList_bytes]; simp only [beq_eq_false_iff_ne]; intro h0; exact hn (by rw [h0]; decide)
    have n6 : (s.toList == [61, 61]) = false := by rw [toList_bytes]; simp only [beq_eq_false_iff_ne]; intro h0; exact hn (by rw [h0]; decide)
    have n7 : (s.toList == [33, 61]) = false := by rw [toList_bytes]; simp only [beq_eq_false_iff_ne]; intro h0; exact hn (by rw [h0]; decide)
    have n8 : (s.toList == [60]) = false := by rw [toList_bytes]; simp only [beq_eq_false_iff_ne]; intro h0; exact hn (by rw [h0]; decide)
    have n9 : (s.toList == [60, 61]) = false := by rw [toList_bytes]; simp only [beq_eq_false_iff_ne]; intro h0; exact hn (by rw [h0]; decide)
    have n10 : (s.toList == [62]) = false := by rw [toList_bytes]; simp only [beq_eq_false_iff_ne]; intro h0; exact hn (by rw [h0]; decide)
    have n11 : (s.toList == [62, 61]) = false := by rw [toList_bytes]; simp only [beq_eq_false_iff_ne]; intro h0; exact hn (by rw [h0]; decide)
    have n12 : (s.toList == [43]) = false := by rw [toList_bytes]; simp only [beq_eq_false_iff_ne]; intro h0; exact hn (by rw [h0]; decide)
    have n13 : (s.toList == [45]) = false := by rw [toList_bytes]; simp only [beq_eq_false_iff_ne]; intro h0; exact hn (by rw [h0]; decide)
    have n14 : (s.toList == [42]) = false := by rw [toList_bytes]; simp only [beq_eq_false_iff_ne]; intro h0; exact hn (by rw [h0]; decide)
    have n15 : (s.toList == [47]) = false := by rw [toList_bytes]; simp only [beq_eq_false_iff_ne]; intro h0; exact hn (by rw [h0]; decide)
    have n16 : (s.toList == [37]) = false := by rw [toList_bytes]; simp only [beq_eq_false_iff_ne]; intro h0; exact hn (by rw [h0]; decide)
    have n17 : (s.toList == [33]) = false := by rw [toList_bytes]; simp only [beq_eq_false_iff_ne]; intro h0; exact hn (by rw [h0]; decide)
    have n18 : (s.toList == [38, 38]) = false := by rw [toList_bytes]; simp only [beq_eq_false_iff_ne]; intro h0; exact hn (by rw [h0]; decide)
    have n19 : (s.toList == [124, 124]) = false := by rw [toList_bytes]; simp only [beq_eq_false_iff_ne]; intro h0; exact hn (by rw [h0]; decide)
    clear hn
    go_enter Tryz.func90, Tryz.ntmps90
    go_wp2
    go_ret
    exact ⟨rfl, rfl⟩

set_option maxRecDepth 100000 in
set_option maxHeartbeats 800000 in
theorem word_yes : ∀ x ∈ words, ∀ w : World, Calls Tryz.prog 113 #[.string ⟨x.toArray⟩] w fun e w' => e = .returned (.bool true) ∧ w' = w := by
  intro x hx w
  simp only [words, List.mem_cons, List.not_mem_nil, or_false] at hx
  rcases hx with rfl | rfl | rfl | rfl | rfl | rfl | rfl | rfl | rfl | rfl | rfl | rfl | rfl | rfl | rfl | rfl | rfl | rfl
  all_goals
    go_enter Tryz.func113, Tryz.ntmps113
    go_wp2
    go_ret
    exact ⟨rfl, rfl⟩

set_option maxRecDepth 100000 in
set_option maxHeartbeats 800000 in
theorem word_any (s : ByteArray) (w : World) : Calls Tryz.prog 113 #[.string s] w fun e w' => e = .returned (.bool (isWd (bytes s))) ∧ w' = w := by
  by_cases hx : bytes s ∈ words
  · have h := word_yes _ hx w
    rw [← mk_bytes s] at h
    simpa only [isWd, hx, decide_true] using h
  · have hn : ¬ bytes s ∈ words := hx
    simp only [isWd, hx, decide_false]
    clear hx
    have n0 : (s.toList == [115, 104, 97, 114, 101, 100]) = false := by rw [toList_bytes]; simp only [beq_eq_false_iff_ne]; intro h0; exact hn (by rw [h0]; decide)
    have n1 : (s.toList == [109, 117, 116, 101, 120]) = false := by rw [toList_bytes]; simp only [beq_eq_false_iff_ne]; intro h0; exact hn (by rw [h0]; decide)
    have n2 : (s.toList == [116, 104, 114, 101, 97, 100]) = false := by rw [toList_bytes]; simp only [beq_eq_false_iff_ne]; intro h0; exact hn (by rw [h0]; decide)
    have n3 : (s.toList == [108, 111, 99, 97, 108]) = false := by rw [toList_bytes]; simp only [beq_eq_false_iff_ne]; intro h0; exact hn (by rw [h0]; decide)
    have n4 : (s.toList == [105, 110, 116]) = false := by rw [toList_bytes]; simp only [beq_eq_false_iff_ne]; intro h0; exact hn (by rw [h0]; decide)
    have n5 : (s.toList == [98, 111, 111, 108]) = false := by rw [toList_bytes]; simp only [beq_eq_false_iff_ne]; intro h0; exact hn (by rw [h0]; decide)
    have n6 : (s.toList == [114, 101, 97, 108]) = false := by rw [toList_bytes]; simp only [beq_eq_false_iff_ne]; intro h0; exact hn (by rw [h0]; decide)
    have n7 : (s.toList == [108, 111, 99, 107]) = false := by rw [toList_bytes]; simp only [beq_eq_false_iff_ne]; intro h0; exact hn (by rw [h0]; decide)
    have n8 : (s.toList == [117, 110, 108, 111, 99, 107]) = false := by rw [toList_bytes]; simp only [beq_eq_false_iff_ne]; intro h0; exact hn (by rw [h0]; decide)
    have n9 : (s.toList == [97, 115, 115, 101, 114, 116]) = false := by rw [toList_bytes]; simp only [beq_eq_false_iff_ne]; intro h0; exact hn (by rw [h0]; decide)
    have n10 : (s.toList == [105, 102]) = false := by rw [toList_bytes]; simp only [beq_eq_false_iff_ne]; intro h0; exact hn (by rw [h0]; decide)
    have n11 : (s.toList == [101, 108, 115, 101]) = false := by rw [toList_bytes]; simp only [beq_eq_false_iff_ne]; intro h0; exact hn (by rw [h0]; decide)
    have n12 : (s.toList == [119, 104, 105, 108, 101]) = false := by rw [toList_bytes]; simp only [beq_eq_false_iff_ne]; intro h0; exact hn (by rw [h0]; decide)
    have n13 : (s.toList == [115, 107, 105, 112]) = false := by rw [toList_bytes]; simp only [beq_eq_false_iff_ne]; intro h0; exact hn (by rw [h0]; decide)
    have n14 : (s.toList == [116, 114, 117, 101]) = false := by rw [toList_bytes]; simp only [beq_eq_false_iff_ne]; intro h0; exact hn (by rw [h0]; decide)
    have n15 : (s.toList == [102, 97, 108, 115, 101]) = false := by rw [toList_bytes]; simp only [beq_eq_false_iff_ne]; intro h0; exact hn (by rw [h0]; decide)
    have n16 : (s.toList == [110, 97, 110]) = false := by rw [toList_bytes]; simp only [beq_eq_false_iff_ne]; intro h0; exact hn (by rw [h0]; decide)
    have n17 : (s.toList == [105, 110, 102]) = false := by rw [toList_bytes]; simp only [beq_eq_false_iff_ne]; intro h0; exact hn (by rw [h0]; decide)
    clear hn
    go_enter Tryz.func113, Tryz.ntmps113
    go_wp2
    go_ret
    exact ⟨rfl, rfl⟩

theorem isPoint_any (s : ByteArray) (w : World) : Calls Tryz.prog 122 #[.string s] w fun e w' => e = .returned (.bool (isPt (bytes s))) ∧ w' = w := by
  by_cases h : 1 < s.size
  · rw [isPt_str s h]
    go_enter Tryz.func122, Tryz.ntmps122
    go_wp2
    all_goals
      go_ret
      refine ⟨?_, rfl⟩
      simp [isDig]
      try (rw [Bool.eq_iff_iff]; simp)
      try omega
  · rw [isPt_short _ (by rw [bytes_length]; exact h)]
    go_enter Tryz.func122, Tryz.ntmps122
    go_wp2
    go_ret
    exact ⟨rfl, rfl⟩

end Go.Proofs.YtjgggmjjikopeaaGreatDoor

/- How far a token goes: plain functions on lists of bytes. -/
namespace Go.Proofs.YtjgggmjjikopeaaGreatDoor

/-- How many letters and digits stand ahead. -/
def alN : List UInt8 → Nat
  | [] => 0
  | c :: r => if isLet c.toNat || isDig c.toNat then alN r + 1 else 0

/-- How many digits stand ahead. -/
def dgN : List UInt8 → Nat
  | [] => 0
  | c :: r => if isDig c.toNat then dgN r + 1 else 0

/-- How many digits, or digits with one point and digits, stand ahead; 3 with the point, 2 without. -/
def nmN : List UInt8 → Nat × Nat
  | [] => (2, 0)
  | c :: r => if isPt (c :: r) then (3, dgN r + 1) else if isDig c.toNat then ((nmN r).1, (nmN r).2 + 1) else (2, 0)

/-- One, if a sign of two goes on. -/
def sgN (c : UInt8) : List UInt8 → Nat
  | [] => 0
  | d :: _ => if isSg [c, d] then 1 else 0

/-- A token's kind and length. -/
def endOf : List UInt8 → Nat × Nat
  | [] => (4, 0)
  | c :: r => if isLet c.toNat then (1, alN r + 1) else if isDig c.toNat then ((nmN r).1, (nmN r).2 + 1) else (4, sgN c r + 1)

theorem drop_at (s : ByteArray) (k : Nat) (h : k < s.size) : (bytes s).drop k = s[k] :: (bytes s).drop (k + 1) := by
  rw [← bytes_at s k h]
  have h' : k < (bytes s).length := by rw [bytes_length]; exact h
  rw [List.drop_eq_getElem_cons h']
  simp [List.getD, h']

theorem drop_end (s : ByteArray) (k : Nat) (h : ¬ k < s.size) : (bytes s).drop k = [] := by
  apply List.drop_eq_nil_of_le
  rw [bytes_length]
  omega

theorem bytes_extract (s : ByteArray) (i j : Nat) : bytes (s.extract i j) = ((bytes s).drop i).take (j - i) := Lib.extract_data s i j

theorem bytes_from (s : ByteArray) (i : Nat) : bytes (s.extract i s.size) = (bytes s).drop i := by
  rw [bytes_extract, List.take_of_length_le]
  rw [List.length_drop, bytes_length]; exact Nat.le_refl _

/-- No sign has three bytes. -/
theorem isSg_three (l : List UInt8) (h : 3 ≤ l.length) : isSg l = false := by
  simp only [isSg, decide_eq_false_iff_not]
  intro hm
  simp only [signs, List.mem_cons, List.not_mem_nil, or_false] at hm
  rcases hm with rfl | rfl | rfl | rfl | rfl | rfl | rfl | rfl | rfl | rfl | rfl | rfl | rfl | rfl | rfl | rfl | rfl | rfl | rfl | rfl <;> simp at h

end Go.Proofs.YtjgggmjjikopeaaGreatDoor

/- lex.tokenEnd: what the first byte at a place begins, and how far that goes. -/
namespace Go.Proofs.YtjgggmjjikopeaaGreatDoor
open Go.RowKit
set_option linter.unusedVariables false

theorem isDigit_at (n : Nat) (w : World) (b : Bool) (hb : isDig n = b) : Calls Tryz.prog 121 #[.int .u8 (n : Int)] w fun e w' => e = .returned (.bool b) ∧ w' = w := by subst hb; exact isDigit_any n w
theorem isLetter_at (n : Nat) (w : World) (b : Bool) (hb : isLet n = b) : Calls Tryz.prog 91 #[.int .u8 (n : Int)] w fun e w' => e = .returned (.bool b) ∧ w' = w := by subst hb; exact isLetter_any n w
theorem isPoint_at (s : ByteArray) (i : Nat) (w : World) : Calls Tryz.prog 122 #[.string (s.extract i s.size)] w fun e w' => e = .returned (.bool (isPt ((bytes s).drop i))) ∧ w' = w := by
  rw [← bytes_from]; exact isPoint_any _ w
theorem isSign_at (s : ByteArray) (i j : Nat) (w : World) : Calls Tryz.prog 90 #[.string (s.extract i j)] w fun e w' => e = .returned (.bool (isSg (((bytes s).drop i).take (j - i)))) ∧ w' = w := by
  rw [← bytes_extract]; exact isSign_any _ w

theorem alN_yes (s : ByteArray) (j : Nat) (h : j < s.size) (hc : (isLet s[j].toNat || isDig s[j].toNat) = true) : alN ((bytes s).drop j) = alN ((bytes s).drop (j + 1)) + 1 := by
  rw [drop_at s j h]; simp only [alN, hc, if_true]
theorem alN_no (s : ByteArray) (j : Nat) (h : j < s.size) (hc : (isLet s[j].toNat || isDig s[j].toNat) = false) : alN ((bytes s).drop j) = 0 := by
  rw [drop_at s j h]; simp only [alN, hc]; rfl
theorem alN_end (s : ByteArray) (j : Nat) (h : ¬ j < s.size) : alN ((bytes s).drop j) = 0 := by
  rw [drop_end s j h]; rfl

set_option maxRecDepth 100000 in
set_option maxHeartbeats 800000 in
theorem tokenEnd_word (s : ByteArray) (k : Nat) (w : World) (hk : k < s.size) (hs : s.size ≤ 1099511627776) (h1 : isLet s[k].toNat = true) :
    Calls Tryz.prog 86 #[.string s, .int .i64 (k : Int)] w fun e w' => e = .returned (.tuple #[.int .i64 1, .int .i64 ((k + (alN ((bytes s).drop (k + 1)) + 1) : Nat) : Int)]) ∧ w' = w := by
  obtain ⟨T, hT⟩ : ∃ T, Hid (T = k + (alN ((bytes s).drop (k + 1)) + 1)) := ⟨_, (rfl : k + (alN ((bytes s).drop (k + 1)) + 1) = _)⟩
  have hkind : Hid (kindN s[k].toNat = 1) := by simp [Hid, kindN, h1]
  rw [← hT.out]
  go_enter Tryz.func86, Tryz.ntmps86
  go_wp2_with fail
  go_step3
  go_wp2_with fail
  refine (kindOf_any s[k].toNat _).mono ?_
  rintro e w1 ⟨rfl, rfl⟩
  rw [hkind.out]
  clear h1
  go_wp2
  go_step3
  go_wp2
  go_loopw [6, 7] (fun K j wr => ∃ i : Nat, K = .int .i64 1 ∧ j = .int .i64 (i : Int) ∧ k + 1 ≤ i ∧ i ≤ s.size ∧ Hid (i + alN ((bytes s).drop i) = T) ∧ wr = w1) (fun _ j _ => s.size - (intOf j).toNat)
  case atStart => exact ⟨k + 1, rfl, by go_num, by omega, by omega, by show _ = _; rw [hT.out]; omega, rfl⟩
  case round =>
    obtain ⟨i, rfl, rfl, hi1, hi2, hi3, rfl⟩ := hrel
    by_cases hc : i < s.size
    · cases a1 : isLet s[i].toNat
      · cases a2 : isDig s[i].toNat
        · have hN := alN_no s i hc (by rw [a1, a2]; rfl)
          go_wp2_with (first | (go_at_call 91; refine (isLetter_at _ _ false a1).mono ?_; rintro e w2 ⟨rfl, rfl⟩) | (go_at_call 121; refine (isDigit_at _ _ false a2).mono ?_; rintro e w2 ⟨rfl, rfl⟩))
          rw [Exit.noGoto_ret]
          go_ret2
          exact ⟨by rw [← hi3.out, hN]; rfl, rfl⟩
        · have hN := alN_yes s i hc (by rw [a1, a2]; rfl)
          have hi3' : Hid (i + 1 + alN ((bytes s).drop (i + 1)) = T) := by have := hi3.out; show _ = _; omega
          clear hi3 hN
          go_wp2_with (first | (go_at_call 91; refine (isLetter_at _ _ false a1).mono ?_; rintro e w2 ⟨rfl, rfl⟩) | (go_at_call 121; refine (isDigit_at _ _ true a2).mono ?_; rintro e w2 ⟨rfl, rfl⟩))
          go_roundw
          case rel => exact ⟨i + 1, rfl, by go_num, by omega, by omega, hi3', trivial⟩
          case measure => simp [intOf]; omega
      · have hN := alN_yes s i hc (by rw [a1]; rfl)
        have hi3' : Hid (i + 1 + alN ((bytes s).drop (i + 1)) = T) := by have := hi3.out; show _ = _; omega
        clear hi3 hN
        go_wp2_with (first | (go_at_call 91; refine (isLetter_at _ _ true a1).mono ?_; rintro e w2 ⟨rfl, rfl⟩))
        go_roundw
        case rel => exact ⟨i + 1, rfl, by go_num, by omega, by omega, hi3', trivial⟩
        case measure => simp [intOf]; omega
    · have hN := alN_end s i hc
      go_wp2
      rw [Exit.noGoto_ret]
      go_ret2
      exact ⟨by rw [← hi3.out, hN]; rfl, rfl⟩

theorem dgN_yes (s : ByteArray) (j : Nat) (h : j < s.size) (hc : isDig s[j].toNat = true) : dgN ((bytes s).drop j) = dgN ((bytes s).drop (j + 1)) + 1 := by
  rw [drop_at s j h]; simp only [dgN, hc, if_true]
theorem dgN_no (s : ByteArray) (j : Nat) (h : j < s.size) (hc : isDig s[j].toNat = false) : dgN ((bytes s).drop j) = 0 := by
  rw [drop_at s j h]; simp only [dgN, hc]; rfl
theorem dgN_end (s : ByteArray) (j : Nat) (h : ¬ j < s.size) : dgN ((bytes s).drop j) = 0 := by
  rw [drop_end s j h]; rfl
theorem nmN_pt (s : ByteArray) (j : Nat) (h : j < s.size) (hp : isPt ((bytes s).drop j) = true) : nmN ((bytes s).drop j) = (3, dgN ((bytes s).drop (j + 1)) + 1) := by
  rw [drop_at s j h] at hp ⊢; simp only [nmN, hp, if_true]
theorem nmN_yes (s : ByteArray) (j : Nat) (h : j < s.size) (hp : isPt ((bytes s).drop j) = false) (hc : isDig s[j].toNat = true) : nmN ((bytes s).drop j) = ((nmN ((bytes s).drop (j + 1))).1, (nmN ((bytes s).drop (j + 1))).2 + 1) := by
  rw [drop_at s j h] at hp ⊢; simp only [nmN, hp, hc, if_true]; rfl
theorem nmN_no (s : ByteArray) (j : Nat) (h : j < s.size) (hp : isPt ((bytes s).drop j) = false) (hc : isDig s[j].toNat = false) : nmN ((bytes s).drop j) = (2, 0) := by
  rw [drop_at s j h] at hp ⊢; simp only [nmN, hp, hc]; rfl
theorem nmN_end (s : ByteArray) (j : Nat) (h : ¬ j < s.size) : nmN ((bytes s).drop j) = (2, 0) := by
  rw [drop_end s j h]; rfl

/-- Where a number's scan stands. -/
def NumAt (s : ByteArray) (P T K i : Nat) : Prop :=
  (K = 2 ∧ (nmN ((bytes s).drop i)).1 = P ∧ i + (nmN ((bytes s).drop i)).2 = T) ∨ (K = 3 ∧ P = 3 ∧ i + dgN ((bytes s).drop i) = T)

set_option maxRecDepth 100000 in
set_option maxHeartbeats 800000 in
theorem tokenEnd_num (s : ByteArray) (k : Nat) (w : World) (hk : k < s.size) (hs : s.size ≤ 1099511627776) (h0 : isLet s[k].toNat = false) (h1 : isDig s[k].toNat = true) :
    Calls Tryz.prog 86 #[.string s, .int .i64 (k : Int)] w fun e w' => e = .returned (.tuple #[.int .i64 ((nmN ((bytes s).drop (k + 1))).1 : Nat), .int .i64 ((k + ((nmN ((bytes s).drop (k + 1))).2 + 1) : Nat) : Int)]) ∧ w' = w := by
  obtain ⟨T, hT⟩ : ∃ T, Hid (T = k + ((nmN ((bytes s).drop (k + 1))).2 + 1)) := ⟨_, (rfl : k + ((nmN ((bytes s).drop (k + 1))).2 + 1) = _)⟩
  obtain ⟨P, hP⟩ : ∃ P, Hid (P = (nmN ((bytes s).drop (k + 1))).1) := ⟨_, (rfl : (nmN ((bytes s).drop (k + 1))).1 = _)⟩
  have hkind : Hid (kindN s[k].toNat = 2) := by simp [Hid, kindN, h0, h1]
  rw [← hT.out, ← hP.out]
  go_enter Tryz.func86, Tryz.ntmps86
  go_wp2_with fail
  go_step3
  go_wp2_with fail
  refine (kindOf_any s[k].toNat _).mono ?_
  rintro e w1 ⟨rfl, rfl⟩
  rw [hkind.out]
  clear h1 h0
  go_wp2
  go_step3
  go_wp2
  go_loopw [6, 7] (fun K j wr => ∃ Kn i : Nat, K = .int .i64 (Kn : Int) ∧ j = .int .i64 (i : Int) ∧ k + 1 ≤ i ∧ i ≤ s.size ∧ Hid (NumAt s P T Kn i) ∧ wr = w1) (fun _ j _ => s.size - (intOf j).toNat)
  case atStart => exact ⟨2, k + 1, rfl, by go_num, by omega, by omega, .inl ⟨rfl, hP.out.symm, by rw [hT.out]; omega⟩, rfl⟩
  case round =>
    obtain ⟨Kn, i, rfl, rfl, hi1, hi2, hi3, rfl⟩ := hrel
    by_cases hc : i < s.size
    · rcases hi3.out with ⟨rfl, hp, ht⟩ | ⟨rfl, rfl, ht⟩
      · have HP : Hid ((nmN ((bytes s).drop i)).1 = P) := hp
        have HT : Hid (i + (nmN ((bytes s).drop i)).2 = T) := ht
        clear hp ht hi3
        cases a1 : isPt ((bytes s).drop i)
        · cases a2 : isDig s[i].toNat
          · have hN : Hid (nmN ((bytes s).drop i) = (2, 0)) := nmN_no s i hc a1 a2
            have a1' : Hid (isPt ((bytes s).drop i) = false) := a1
            clear a1
            go_wp2_with (first | (go_at_call 122; refine (isPoint_at s i _).mono ?_; rw [a1'.out]; rintro e w2 ⟨rfl, rfl⟩) | (go_at_call 121; refine (isDigit_at _ _ false a2).mono ?_; rintro e w2 ⟨rfl, rfl⟩))
            rw [Exit.noGoto_ret]
            go_ret2
            have h2 := HP.out
            have h3 := HT.out
            rw [hN.out] at h2 h3
            exact ⟨by rw [← h2, ← h3]; rfl, rfl⟩
          · have hN : Hid (nmN ((bytes s).drop i) = ((nmN ((bytes s).drop (i + 1))).1, (nmN ((bytes s).drop (i + 1))).2 + 1)) := nmN_yes s i hc a1 a2
            have a1' : Hid (isPt ((bytes s).drop i) = false) := a1
            clear a1
            go_wp2_with (first | (go_at_call 122; refine (isPoint_at s i _).mono ?_; rw [a1'.out]; rintro e w2 ⟨rfl, rfl⟩) | (go_at_call 121; refine (isDigit_at _ _ true a2).mono ?_; rintro e w2 ⟨rfl, rfl⟩))
            go_roundw
            case rel =>
              have h2 := HP.out
              have h3 := HT.out
              rw [hN.out] at h2 h3
              exact ⟨2, i + 1, rfl, by go_num, by omega, by omega, .inl ⟨rfl, h2, by rw [← h3]; simp only []; omega⟩, trivial⟩
            case measure => simp [intOf]; omega
        · have hN : Hid (nmN ((bytes s).drop i) = (3, dgN ((bytes s).drop (i + 1)) + 1)) := nmN_pt s i hc a1
          have a1' : Hid (isPt ((bytes s).drop i) = true) := a1
          clear a1
          go_wp2_with (first | (go_at_call 122; refine (isPoint_at s i _).mono ?_; rw [a1'.out]; rintro e w2 ⟨rfl, rfl⟩))
          go_roundw
          case rel =>
            have h2 := HP.out
            have h3 := HT.out
            rw [hN.out] at h2 h3
            exact ⟨3, i + 1, rfl, by go_num, by omega, by omega, .inr ⟨rfl, h2.symm, by rw [← h3]; simp only []; omega⟩, trivial⟩
          case measure => simp [intOf]; omega
      · have HT : Hid (i + dgN ((bytes s).drop i) = T) := ht
        clear ht hi3
        cases a2 : isDig s[i].toNat
        · have hN : Hid (dgN ((bytes s).drop i) = 0) := dgN_no s i hc a2
          go_wp2_with (first | (go_at_call 121; refine (isDigit_at _ _ false a2).mono ?_; rintro e w2 ⟨rfl, rfl⟩))
          rw [Exit.noGoto_ret]
          go_ret2
          exact ⟨by rw [← HT.out, hN.out]; rfl, rfl⟩
        · have hN : Hid (dgN ((bytes s).drop i) = dgN ((bytes s).drop (i + 1)) + 1) := dgN_yes s i hc a2
          go_wp2_with (first | (go_at_call 121; refine (isDigit_at _ _ true a2).mono ?_; rintro e w2 ⟨rfl, rfl⟩))
          go_roundw
          case rel => exact ⟨3, i + 1, rfl, by go_num, by omega, by omega, .inr ⟨rfl, rfl, by have := HT.out; have := hN.out; omega⟩, trivial⟩
          case measure => simp [intOf]; omega
    · have hfin : Kn = P ∧ i = T := by
        rcases hi3.out with ⟨rfl, hp, ht⟩ | ⟨rfl, rfl, ht⟩
        · rw [nmN_end s i hc] at hp ht; exact ⟨hp, ht⟩
        · rw [dgN_end s i hc] at ht; exact ⟨rfl, ht⟩
      obtain ⟨rfl, rfl⟩ := hfin
      clear hi3 hP hT
      go_wp2
      rw [Exit.noGoto_ret]
      go_ret2
      exact ⟨rfl, rfl⟩

theorem sg_two (s : ByteArray) (k : Nat) (h : k + 1 < s.size) : ((bytes s).drop k).take 2 = [s[k], s[k + 1]] := by
  rw [drop_at s k (by omega), drop_at s (k + 1) h]; rfl

set_option maxRecDepth 100000 in
set_option maxHeartbeats 800000 in
theorem tokenEnd_sign (s : ByteArray) (k : Nat) (w : World) (hk : k < s.size) (hs : s.size ≤ 1099511627776) (h0 : isLet s[k].toNat = false) (h1 : isDig s[k].toNat = false) :
    Calls Tryz.prog 86 #[.string s, .int .i64 (k : Int)] w fun e w' => e = .returned (.tuple #[.int .i64 4, .int .i64 ((k + (sgN s[k] ((bytes s).drop (k + 1)) + 1) : Nat) : Int)]) ∧ w' = w := by
  obtain ⟨T, hT⟩ : ∃ T, Hid (T = k + (sgN s[k] ((bytes s).drop (k + 1)) + 1)) := ⟨_, (rfl : k + (sgN s[k] ((bytes s).drop (k + 1)) + 1) = _)⟩
  have hkind : Hid (kindN s[k].toNat = 4) := by simp [Hid, kindN, h0, h1]
  rw [← hT.out]
  go_enter Tryz.func86, Tryz.ntmps86
  go_wp2_with fail
  go_step3
  go_wp2_with fail
  refine (kindOf_any s[k].toNat _).mono ?_
  rintro e w1 ⟨rfl, rfl⟩
  rw [hkind.out]
  clear h1 h0
  go_wp2
  go_step3
  go_wp2
  go_loopw [6, 7] (fun K j wr => ∃ i : Nat, K = .int .i64 4 ∧ j = .int .i64 (i : Int) ∧ i ≤ s.size ∧ (i = k + 1 ∨ (i = k + 2 ∧ T = k + 2)) ∧ wr = w1) (fun _ j _ => s.size - (intOf j).toNat)
  case atStart => exact ⟨k + 1, rfl, by go_num, by omega, .inl rfl, rfl⟩
  case round =>
    obtain ⟨i, rfl, rfl, hi2, hi3, rfl⟩ := hrel
    by_cases hc : i < s.size
    · have hsg : Hid (isSg (((bytes s).drop k).take (i + 1 - k)) = decide (i = k + 1 ∧ T = k + 2)) := by
        show _ = _
        rcases hi3 with rfl | ⟨rfl, h⟩
        · rw [show k + 1 + 1 - k = 2 by omega, sg_two s k hc, hT.out, drop_at s (k + 1) hc]
          simp only [sgN]
          cases isSg [s[k], s[k + 1]] <;> simp
        · rw [isSg_three _ (by rw [List.length_take, List.length_drop, bytes_length]; omega)]
          simp
      by_cases hT2 : i = k + 1 ∧ T = k + 2
      · obtain ⟨rfl, hT3⟩ := hT2
        have hsg' : Hid (isSg (((bytes s).drop k).take (k + 1 + 1 - k)) = true) := by show _ = _; rw [hsg.out]; simp [hT3]
        clear hsg
        go_wp2_with (first | (go_at_call 90; refine (isSign_at s k (k + 1 + 1) _).mono ?_; rw [hsg'.out]; rintro e w2 ⟨rfl, rfl⟩))
        go_roundw
        case rel => exact ⟨k + 2, rfl, by go_num, by omega, .inr ⟨rfl, hT3⟩, trivial⟩
        case measure => simp [intOf]; omega
      · have hsg' : Hid (isSg (((bytes s).drop k).take (i + 1 - k)) = false) := by show _ = _; rw [hsg.out]; simp [hT2]
        have hfin : Hid (i = T) := by
          show i = T
          have := hT.out
          rcases hi3 with rfl | ⟨rfl, h⟩
          · rw [drop_at s (k + 1) hc] at this
            simp only [sgN] at this
            split at this <;> omega
          · exact h.symm
        have hki : k ≤ i := by omega
        clear hsg
        go_wp2_with (first | (go_at_call 90; refine (isSign_at s k (i + 1) _).mono ?_; rw [hsg'.out]; rintro e w2 ⟨rfl, rfl⟩))
        rw [Exit.noGoto_ret]
        go_ret2
        exact ⟨by rw [hfin.out]; rfl, rfl⟩
    · have hfin : Hid (i = T) := by
        show i = T
        have := hT.out
        rcases hi3 with rfl | ⟨rfl, h⟩
        · rw [drop_end s (k + 1) hc] at this
          simp only [sgN] at this
          omega
        · exact h.symm
      go_wp2
      rw [Exit.noGoto_ret]
      go_ret2
      exact ⟨by rw [hfin.out]; rfl, rfl⟩

theorem tokenEnd_any (s : ByteArray) (k : Nat) (w : World) (hk : k < s.size) (hs : s.size ≤ 1099511627776) :
    Calls Tryz.prog 86 #[.string s, .int .i64 (k : Int)] w fun e w' => e = .returned (.tuple #[.int .i64 ((endOf ((bytes s).drop k)).1 : Nat), .int .i64 ((k + (endOf ((bytes s).drop k)).2 : Nat) : Int)]) ∧ w' = w := by
  have hd := drop_at s k hk
  cases a1 : isLet s[k].toNat
  · cases a2 : isDig s[k].toNat
    · have h := tokenEnd_sign s k w hk hs a1 a2
      have he : endOf ((bytes s).drop k) = (4, sgN s[k] ((bytes s).drop (k + 1)) + 1) := by rw [hd]; simp only [endOf, a1, a2]; rfl
      rw [he]; exact h
    · have h := tokenEnd_num s k w hk hs a1 a2
      have he : endOf ((bytes s).drop k) = ((nmN ((bytes s).drop (k + 1))).1, (nmN ((bytes s).drop (k + 1))).2 + 1) := by rw [hd]; simp only [endOf, a1, a2, if_true]; rfl
      rw [he]; exact h
  · have h := tokenEnd_word s k w hk hs a1
    have he : endOf ((bytes s).drop k) = (1, alN ((bytes s).drop (k + 1)) + 1) := by rw [hd]; simp only [endOf, a1, if_true]
    rw [he]; exact h

end Go.Proofs.YtjgggmjjikopeaaGreatDoor

/- Names and words, as plain functions on lists of bytes. -/
namespace Go.Proofs.YtjgggmjjikopeaaGreatDoor

/-- A name. -/
def isNm (l : List UInt8) : Bool := decide (1 ≤ l.length) && decide (l.length ≤ 24) && !isWd l && decide (endOf l = (1, l.length))

theorem not_emptyN {s : ByteArray} (h : 0 < s.size) : s.toList.isEmpty = false := by
  rw [List.isEmpty_eq_false_iff, toList_bytes]
  intro h0
  have : s.size = 0 := by rw [← bytes_length s, h0]; rfl
  omega

theorem is_emptyN {s : ByteArray} (h : s.size = 0) : s.toList.isEmpty = true := by
  rw [List.isEmpty_iff, toList_bytes]
  apply List.eq_nil_of_length_eq_zero
  rw [bytes_length]; exact h

end Go.Proofs.YtjgggmjjikopeaaGreatDoor

/- lex.Name, and the document's own Words, Word and Name. -/
namespace Go.Proofs.YtjgggmjjikopeaaGreatDoor
open Go.RowKit
set_option linter.unusedVariables false

theorem isNm_str (s : ByteArray) (hp : 0 < s.size) (hl : s.size ≤ 24) (hw : isWd (bytes s) = false) : isNm (bytes s) = decide (endOf (bytes s) = (1, s.size)) := by
  rw [isNm, bytes_length, hw]
  simp [show 1 ≤ s.size by omega, hl]

theorem isNm_not (s : ByteArray) (h : s.size = 0 ∨ 24 < s.size ∨ isWd (bytes s) = true) : isNm (bytes s) = false := by
  rw [isNm, bytes_length]
  rcases h with h | h | h
  · simp [h]
  · simp [show ¬ s.size ≤ 24 by omega]
  · simp [h]

theorem tokenEnd_zero (s : ByteArray) (w : World) (hk : 0 < s.size) (hs : s.size ≤ 1099511627776) (K E : Nat) (h : endOf (bytes s) = (K, E)) :
    Calls Tryz.prog 86 #[.string s, .int .i64 0] w fun e w' => e = .returned (.tuple #[.int .i64 (K : Nat), .int .i64 (E : Nat)]) ∧ w' = w := by
  have := tokenEnd_any s 0 w hk hs
  rw [List.drop_zero, h] at this
  simpa using this

set_option maxRecDepth 100000 in
set_option maxHeartbeats 800000 in
theorem name_any (s : ByteArray) (w : World) : Calls Tryz.prog 77 #[.string s] w fun e w' => e = .returned (.bool (isNm (bytes s))) ∧ w' = w := by
  by_cases h0 : s.size = 0
  · rw [isNm_not s (.inl h0)]
    have he := is_emptyN h0
    go_enter Tryz.func77, Tryz.ntmps77
    go_wp2
    go_ret
    exact ⟨rfl, rfl⟩
  have hp : 0 < s.size := by omega
  have he := not_emptyN hp
  by_cases h1 : 24 < s.size
  · rw [isNm_not s (.inr (.inl h1))]
    go_enter Tryz.func77, Tryz.ntmps77
    go_wp2
    go_ret
    exact ⟨rfl, rfl⟩
  cases hw : isWd (bytes s)
  · rw [isNm_str s hp (by omega) hw]
    obtain ⟨K, E, hKE⟩ : ∃ K E, endOf (bytes s) = (K, E) := ⟨_, _, rfl⟩
    rw [hKE]
    have HKE : Hid (endOf (bytes s) = (K, E)) := hKE
    have HW : Hid (isWd (bytes s) = false) := hw
    clear hKE hw
    go_enter Tryz.func77, Tryz.ntmps77
    go_wp2_with (first | (go_at_call 113; refine (word_any s _).mono ?_; rw [HW.out]; rintro e w1 ⟨rfl, rfl⟩) | (go_at_call 86; refine (tokenEnd_zero s _ hp (by omega) K E HKE.out).mono ?_; rintro e w1 ⟨rfl, rfl⟩))
    all_goals
      go_ret
      refine ⟨?_, rfl⟩
      simp
      try (rw [Bool.eq_iff_iff]; simp)
      try omega
  · rw [isNm_not s (.inr (.inr hw))]
    have HW : Hid (isWd (bytes s) = true) := hw
    clear hw
    go_enter Tryz.func77, Tryz.ntmps77
    go_wp2_with (first | (go_at_call 113; refine (word_any s _).mono ?_; rw [HW.out]; rintro e w1 ⟨rfl, rfl⟩))
    go_ret
    exact ⟨rfl, rfl⟩

end Go.Proofs.YtjgggmjjikopeaaGreatDoor
