/- The chapter's examples, one by one. -/
import Derived.Test.YtjjojlfhliecnabOver
import Derived.Test.YtjjojlfhliecnabShelf
namespace Go.Proofs.Ytjjojlfhliecnab
open Go.RowKit
set_option linter.unusedVariables false

theorem kn_bytes (w : World) : Calls Try.prog 4 #[.int .u64 256, .int .i64 1] w fun e w' => ∃ (ax : Option Addr) (lx cx : Nat), e = .returned (.tuple #[.slice ax lx cx, .int .i64 2]) ∧ Below w.heap.size w w' := by
  refine (show Calls Try.prog 4 #[.int .u64 256, .int .i64 1] w _ from bytes_all 256 1 w (by omega)).mono ?_
  rintro e w' ⟨ax, lx, cx, E, rfl, hb, hX⟩
  rcases hX.out with ⟨_, _, _, h, _⟩ | ⟨rfl, _⟩
  · exact absurd h (by decide)
  · exact ⟨ax, lx, cx, rfl, hb⟩

theorem kn_number (w : World) : Calls Try.prog 5 #[.slice none 0 0] w fun e w' => e = .returned (.tuple #[.int .u64 0, .int .i64 4]) ∧ Below w.heap.size w w' := by
  refine (show Calls Try.prog 5 #[.slice none 0 0] w _ from number_all none 0 [] w (.inl rfl)).mono ?_
  rintro e w' ⟨⟨y, f, rfl, hX⟩, rfl⟩
  rcases hX.out with ⟨h, _⟩ | ⟨_, rfl, rfl⟩
  · simp at h
  · exact ⟨rfl, Below.refl _ _⟩

theorem kn_rs1 (a : Option Addr) (w : World) (hrow : Row w a [172, 2, 9]) : Calls Try.prog 6 #[.slice a 3 3] w fun e w' => e = .returned (.tuple #[.int .u64 300, .int .i64 2, .int .i64 0]) ∧ Below w.heap.size w w' := by
  refine (readShort_row a 3 3 [172, 2, 9] w hrow rfl (by omega)).mono ?_
  rintro e w' ⟨⟨n, k, g, rfl, hX⟩, rfl⟩
  have h300 : ReadsAs [172, 2, 9] 300 2 := ⟨by omega, by decide, by decide⟩
  rcases hX.out with ⟨rfl, h⟩ | ⟨_, _, _, h⟩
  · obtain ⟨rfl, rfl⟩ := reads_one h h300
    exact ⟨rfl, Below.refl _ _⟩
  · exact absurd h300 (h _ _)

theorem kn_rs2 (a : Option Addr) (w : World) (hrow : Row w a [128, 0]) : Calls Try.prog 6 #[.slice a 2 2] w fun e w' => e = .returned (.tuple #[.int .u64 0, .int .i64 0, .int .i64 4]) ∧ Below w.heap.size w w' := by
  refine (readShort_row a 2 2 [128, 0] w hrow rfl (by omega)).mono ?_
  rintro e w' ⟨⟨n, k, g, rfl, hX⟩, rfl⟩
  rcases hX.out with ⟨rfl, h⟩ | ⟨rfl, rfl, rfl, h⟩
  · exfalso
    obtain ⟨h1, _, h2, _, h3, h4, _⟩ := reads_shape h
    have h2' : k ≤ 2 := h2
    have hk : k = 1 ∨ k = 2 := by omega
    rcases hk with rfl | rfl
    · exact absurd h3 (by decide)
    · exact absurd (h4 (by omega)) (by decide)
  · exact ⟨rfl, Below.refl _ _⟩

theorem kn_rs3 (a : Option Addr) (w : World) (hrow : Row w a [128]) : Calls Try.prog 6 #[.slice a 1 1] w fun e w' => e = .returned (.tuple #[.int .u64 0, .int .i64 0, .int .i64 4]) ∧ Below w.heap.size w w' := by
  refine (readShort_row a 1 1 [128] w hrow rfl (by omega)).mono ?_
  rintro e w' ⟨⟨n, k, g, rfl, hX⟩, rfl⟩
  rcases hX.out with ⟨rfl, h⟩ | ⟨rfl, rfl, rfl, h⟩
  · exfalso
    obtain ⟨h1, _, h2, _, h3, h4, _⟩ := reads_shape h
    have h2' : k ≤ 1 := h2
    have hk : k = 1 := by omega
    subst hk
    exact absurd h3 (by decide)
  · exact ⟨rfl, Below.refl _ _⟩

theorem kn_rd (s : ByteArray) (d h : Int) (w : World) (hs : s.size ≤ 100) (hd : DecIs (bytes s) 9 d h) : Calls Try.prog 7 #[.string s, .int .i64 9] w fun e w' => e = .returned (.tuple #[.int .i64 d, .int .i64 h]) ∧ Below w.heap.size w w' := by
  refine (readDec_any s 9 w (by omega) (by omega) (by omega)).mono ?_
  rintro e w' ⟨⟨d', h', rfl, hX⟩, q, rfl⟩
  obtain ⟨rfl, rfl⟩ := hX.one hd
  exact ⟨rfl, drewN_below _ _⟩

theorem kd1 : DecIs (bytes { data := #[48, 55] }) 9 0 4 := .inr (.inl ⟨by omega, fun h => absurd (h.2.1 (by decide)) (by decide), rfl, rfl⟩)
theorem kd2 : DecIs (bytes { data := #[49, 48] }) 9 0 3 := .inr (.inr (.inl ⟨by omega, ⟨by decide, by decide, by decide, by decide⟩, by decide, rfl, rfl⟩))
theorem kd3 : DecIs (bytes { data := #[45, 49] }) 9 0 4 := .inr (.inl ⟨by omega, fun h => absurd (h.2.2.1 0 (by decide)) (by decide), rfl, rfl⟩)
theorem kd4 : DecIs (bytes { data := #[57, 50, 50, 51, 51, 55, 50, 48, 51, 54, 56, 53, 52, 55, 55, 53, 56, 48, 56] }) 9 0 4 := .inr (.inl ⟨by omega, fun h => absurd h.2.2.2 (by decide), rfl, rfl⟩)

theorem kn_rh1 (w : World) : Calls Try.prog 8 #[.string { data := #[48, 49, 102, 102] }] w fun e w' => ∃ (ax : Option Addr) (lx cx : Nat), e = .returned (.tuple #[.slice ax lx cx, .int .i64 0]) ∧ Hid (([1, 255] : List UInt8).length = lx) ∧ Row w' ax [1, 255] ∧ Below w.heap.size w w' := by
  refine (readHex_all { data := #[48, 49, 102, 102] } w (by decide)).mono ?_
  rintro e w' ⟨ax, lx, cx, E, bs, rfl, hl, hrow, hb, hX⟩
  have hu : unhex (bytes { data := #[48, 49, 102, 102] }) = some [1, 255] := by decide
  rcases hX.out with ⟨h, rfl⟩ | ⟨h, _⟩
  · rw [hu] at h
    cases h
    exact ⟨ax, lx, cx, rfl, hl, hrow, hb⟩
  · rw [hu] at h
    cases h

theorem kn_rhn (s : ByteArray) (w : World) (hs : s.size ≤ 100) (hu : unhex (bytes s) = none) : Calls Try.prog 8 #[.string s] w fun e w' => ∃ (ax : Option Addr) (lx cx : Nat), e = .returned (.tuple #[.slice ax lx cx, .int .i64 4]) ∧ Below w.heap.size w w' := by
  refine (readHex_all s w (by omega)).mono ?_
  rintro e w' ⟨ax, lx, cx, E, bs, rfl, hl, hrow, hb, hX⟩
  rcases hX.out with ⟨h, rfl⟩ | ⟨h, _, rfl⟩
  · rw [hu] at h
    cases h
  · exact ⟨ax, lx, cx, rfl, hb⟩

theorem kn_words (s : ByteArray) (E : Int) (w : World) (hs : s.size ≤ 1000) (hw : WordsIs (bytes s) [] E) : Calls Try.prog 9 #[.string s] w fun e w' => ∃ (ax : Option Addr) (lx cx : Nat), e = .returned (.tuple #[.slice ax lx cx, .int .i64 E]) ∧ Below w.heap.size w w' := by
  refine (words_all s w (by omega)).mono ?_
  rintro e w' ⟨ws, ax, lx, cx, E', rfl, hl, hX, hrow, hb⟩
  obtain ⟨rfl, rfl⟩ := hX.out.one hw
  exact ⟨ax, lx, cx, rfl, hb⟩

theorem kw1 : WordsIs (bytes { data := #[97, 32, 32, 98] }) [] 4 := .inl ⟨by decide, rfl, rfl⟩
theorem kw2 : WordsIs (bytes { data := #[97, 32] }) [] 4 := .inl ⟨by decide, rfl, rfl⟩
theorem kw3 : WordsIs (Lib.repeatL [97, 32] 64 ++ [97]) [] 3 := .inr (.inl ⟨by decide +kernel, by decide +kernel, rfl, rfl⟩)

theorem kn_text : fieldsText [[7, 8], []] = [2, 2, 7, 8, 0] := by decide
theorem kn_fits : FitsF [[7, 8], []] := ⟨by decide, by decide⟩

theorem kn_no (fs : List (List UInt8)) : ¬ ReadsF [2, 2, 7, 8, 0, 0] fs := by
  have h1 : ReadsAs [2, 2, 7, 8, 0, 0] 2 1 := ⟨by omega, by decide, by decide⟩
  have s1 : Sofar [2, 2, 7, 8, 0, 0] 2 [] [2, 7, 8, 0, 0] := sofar_start (by decide) h1
  have h2 : ReadsAs [2, 7, 8, 0, 0] 2 1 := ⟨by omega, by decide, by decide⟩
  have s2 : Sofar [2, 2, 7, 8, 0, 0] 2 [[7, 8]] [0, 0] := sofar_step s1 (by decide) (by decide) h2 (by decide)
  have h3 : ReadsAs [0, 0] 0 1 := ⟨by omega, by decide, by decide⟩
  have s3 : Sofar [2, 2, 7, 8, 0, 0] 2 [[7, 8], []] [0] := sofar_step s2 (by decide) (by decide) h3 (by decide)
  exact (sofar_end s3 (by decide)).2 (by decide) fs

theorem kn_rf (a : Option Addr) (cap : Nat) (w : World) (hrow : Row w a [2, 2, 7, 8, 0, 0]) (hcap : 6 ≤ cap) : Calls Try.prog 11 #[.slice a 6 cap] w fun e w' => ∃ v, e = .returned (.tuple #[v, .int .i64 4]) ∧ Below w.heap.size w w' := by
  refine (readFields_any a 6 cap [2, 2, 7, 8, 0, 0] w hrow rfl hcap (by omega)).mono ?_
  rintro e w' ⟨L, v, E, rfl, _, _, hb, hX⟩
  rcases hX.out with ⟨_, h⟩ | ⟨rfl, _⟩
  · exact absurd h (kn_no _)
  · exact ⟨v, rfl, hb⟩

theorem kn_repeat (w : World) : Calls Try.prog 13 #[.string { data := #[97, 32] }, .int .i64 64] w fun e w' => ∃ S, e = .returned (.string S) ∧ Hid (bytes S = Lib.repeatL [97, 32] 64) ∧ Below w.heap.size w w' := by
  refine (show Calls Try.prog 13 #[.string { data := #[97, 32] }, .int .i64 64] w _ from Try.strings_Repeat_main { data := #[97, 32] } 64 w (by omega) (by omega) (by decide) (by decide)).mono ?_
  rintro e w' ⟨rfl, hb⟩
  exact ⟨_, rfl, rfl, hb⟩

theorem kn_words3 (S : ByteArray) (w : World) (h : bytes S = Lib.repeatL [97, 32] 64) : Calls Try.prog 9 #[.string (S ++ { data := #[97] })] w fun e w' => ∃ (ax : Option Addr) (lx cx : Nat), e = .returned (.tuple #[.slice ax lx cx, .int .i64 3]) ∧ Below w.heap.size w w' := by
  have hb : bytes (S ++ { data := #[97] }) = Lib.repeatL [97, 32] 64 ++ [97] := by
    rw [← h]
    simp [bytes]
  refine kn_words _ 3 w ?_ (by rw [hb]; exact kw3)
  rw [← bytes_length, hb, List.length_append, Lib.repeatL_length]
  decide

theorem kn_short (w : World) : Calls Try.prog 15 #[.int .u64 300] w fun e w' => ∃ (ax : Option Addr) (cx : Nat), e = .returned (.slice ax 2 cx) ∧ Row w' ax [172, 2] ∧ Below w.heap.size w w' := by
  refine (show Calls Try.prog 15 #[.int .u64 300] w _ from short_any 300 (by omega) w).mono ?_
  rintro e w' ⟨v, rfl, hown, hb⟩
  have e2 : short 9 300 = [172, 2] := by decide
  rw [e2] at hown
  obtain ⟨ax, cx, rfl, _, _, hrow⟩ := hown.row
  exact ⟨ax, cx, rfl, hrow, hb⟩

theorem kn_hex (a : Option Addr) (w : World) (hrow : Row w a [1, 255]) : Calls Try.prog 16 #[.slice a 2 2] w fun e w' => e = .returned (.string { data := #[48, 49, 102, 102] }) ∧ Below w.heap.size w w' := by
  refine (hex_len a 2 2 [1, 255] w hrow rfl (by decide)).mono ?_
  rintro e w' ⟨rfl, hb⟩
  exact ⟨by rw [show hexOf [1, 255] = [48, 49, 102, 102] by decide], hb⟩

theorem kn_same (a1 a2 : Option Addr) (n1 n2 c1 c2 : Nat) (bs : List UInt8) (w : World) (h1 : Row w a1 bs) (h2 : Row w a2 bs) (e1 : bs.length = n1) (e2 : bs.length = n2) :
    Calls Try.prog 14 #[.slice a1 n1 c1, .slice a2 n2 c2] w fun e w' => e = .returned (.bool true) ∧ Below w.heap.size w w' := by
  refine (same_true a1 a2 n1 n2 c1 c2 bs w h1 h2 e1 e2).mono ?_
  rintro e w' ⟨rfl, rfl⟩
  exact ⟨rfl, Below.refl _ _⟩

set_option maxRecDepth 100000 in
set_option maxHeartbeats 800000 in
theorem kn_copy (a : Option Addr) (n cap : Nat) (bs : List UInt8) (w : World) (hrow : Row w a bs) (hn : bs.length = n) (hl : n ≤ 1000) (hnil : a = none → cap = 0) :
    Calls Try.prog 12 #[.slice a n cap] w fun e w' => ∃ v, e = .returned v ∧ Own w.heap.size w' v bs ∧ Below w.heap.size w w' := by
  have hb0 : Below w.heap.size w (w.alloc (.cells #[] 5)) := (Below.refl _ w).alloc (Nat.le_refl _) _
  have hrow1 := hrow.below hb0
  have hown : Own w.heap.size (w.alloc (.cells #[] 5)) (.slice (some ⟨w.heap.size, 0, none⟩) 0 0) [] := ⟨rfl, .inr ⟨w.heap.size, 0, #[], rfl, Nat.le_refl _, heap_alloc_new w _, Nat.le_refl _, Nat.zero_le _, rfl, rfl⟩⟩
  go_enter Try.func12, Try.ntmps12
  go_wp2_with (first | (at_builtin; refine appRow (.tmp 3) (.tmp 4) w.heap.size _ [] _ _ _ bs rfl rfl rfl rfl hown hrow1 hn hnil (by simp; omega) (by simp) ?_))
  intro v w1 h1 h2
  go_wp2
  go_ret
  exact ⟨v, rfl, h1, hb0.trans h2⟩

/-- One call more. -/
theorem chain0 {w w1 w2 : World} (h : Below w.heap.size w w1) (hb : Below w1.heap.size w1 w2) : Below w.heap.size w w2 := h.trans (hb.mono h.size)
theorem alloc_below (w : World) (o : Obj) : Below w.heap.size w (w.alloc o) := (Below.refl _ w).alloc (Nat.le_refl _) _

/-- A new slice of two slices of bytes, the second nil. -/
theorem rowL_new (w : World) (a : Option Addr) (n c : Nat) (f : List UInt8) (hn : f.length = n) (hc : n ≤ c) (hnil : a = none → c = 0) (hrow : Row w a f) :
    RowL (w.alloc (.cells #[.slice a n c, .slice none 0 0] 22)) (some ⟨w.heap.size, 0, none⟩) [f, []] := by
  subst hn
  have hb : Below w.heap.size w (w.alloc (.cells #[.slice a f.length c, .slice none 0 0] 22)) := (Below.refl _ w).alloc (Nat.le_refl _) _
  have hh : (w.alloc (.cells #[.slice a f.length c, .slice none 0 0] 22)).heap[w.heap.size]? = some (.cells #[.slice a f.length c, .slice none 0 0] 22 (0, 0)) := heap_alloc_new w _
  refine .inr ⟨w.heap.size, 0, rfl, fun j hj => ?_⟩
  have hj2 : j = 0 ∨ j = 1 := by simp at hj; omega
  rcases hj2 with rfl | rfl
  · exact ⟨a, c, by simp only [World.cell?, hh, Nat.zero_add]; rfl, hrow.below hb, hc, hnil⟩
  · exact ⟨none, 0, by simp only [World.cell?, hh, Nat.zero_add]; rfl, .inl rfl, Nat.le_refl _, fun _ => rfl⟩

end Go.Proofs.Ytjjojlfhliecnab
