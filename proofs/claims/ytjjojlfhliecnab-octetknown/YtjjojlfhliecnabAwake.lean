/- awake: the document's examples are answered as it says. -/
import Derived.Test.YtjjojlfhliecnabTextsWalk
namespace Go.Proofs.Ytjjojlfhliecnab
open Go.RowKit
set_option linter.unusedVariables false

theorem row_new (w : World) (cs : Array Value) (bs : List UInt8) (h : cs.toList = bs.map B8) : Row (w.alloc (.cells cs 5)) (some ⟨w.heap.size, 0, none⟩) bs := by
  refine .inr ⟨w.heap.size, 0, rfl, fun j hj => ?_⟩
  have hh : (w.alloc (.cells cs 5)).heap[w.heap.size]? = some (.cells cs 5 (0, 0)) := heap_alloc_new w _
  simp only [World.cell?, hh, Nat.zero_add]
  have e : cs[j]? = cs.toList[j]? := by simp
  rw [if_neg (by simp), e, h]
  simp [List.getElem?_map, List.getElem?_eq_getElem hj, B8, List.getD]

theorem row_newS (w : World) (cs : Array Value) (ws : List (List UInt8)) (h : cs.toList = ws.map S8) : RowS (w.alloc (.cells cs 9)) (some ⟨w.heap.size, 0, none⟩) ws := by
  refine .inr ⟨w.heap.size, 0, rfl, fun j hj => ?_⟩
  have hh : (w.alloc (.cells cs 9)).heap[w.heap.size]? = some (.cells cs 9 (0, 0)) := heap_alloc_new w _
  simp only [World.cell?, hh, Nat.zero_add]
  have e : cs[j]? = cs.toList[j]? := by simp
  rw [if_neg (by simp), e, h]
  simp [List.getElem?_map, List.getElem?_eq_getElem hj, S8, List.getD]

theorem aw_bytes (w : World) : Calls Try.prog 4 #[.int .u64 258, .int .i64 3] w fun e w' => ∃ (a : Option Addr) (n c : Nat), e = .returned (.tuple #[.slice a n c, .int .i64 0]) ∧ Hid ((bytesOf 3 258).length = n) ∧ Row w' a (bytesOf 3 258) ∧ Below w.heap.size w w' := by
  refine (show Calls Try.prog 4 #[.int .u64 258, .int .i64 3] w _ from bytes_ok 258 3 (by omega) (by omega) (by omega) (by decide) w).mono ?_
  rintro e w' ⟨v, rfl, hown, hb⟩
  obtain ⟨a, c, rfl, _, _, hrow⟩ := hown.row
  exact ⟨a, _, c, rfl, rfl, hrow, hb⟩

theorem aw_number (w : World) : Calls Try.prog 5 #[.slice (some ⟨w.heap.size, 0, none⟩) 2 2] (w.alloc (.cells #[.int .u8 1, .int .u8 2] 5)) fun e w' => e = .returned (.tuple #[.int .u64 258, .int .i64 0]) ∧ w' = w.alloc (.cells #[.int .u8 1, .int .u8 2] 5) :=
  number_ok (some ⟨w.heap.size, 0, none⟩) 2 [1, 2] _ (row_new w _ [1, 2] rfl) (by decide) (by decide)

theorem aw_words (w : World) : Calls Try.prog 9 #[.string { data := #[97, 32, 98, 99] }] w fun e w' => ∃ (a : Option Addr) (n c : Nat), e = .returned (.tuple #[.slice a n c, .int .i64 0]) ∧ Hid (([[97], [98, 99]] : List (List UInt8)).length = n) ∧ RowS w' a [[97], [98, 99]] ∧ Below w.heap.size w w' := by
  refine (words_all { data := #[97, 32, 98, 99] } w (by decide)).mono ?_
  rintro e w' ⟨ws, ax, lx, cx, E, rfl, hl, hW, hrow, hb⟩
  have h : ws = [[97], [98, 99]] ∧ E = 0 := by
    have h1 : lineOk true (bytes { data := #[97, 32, 98, 99] }) = true := by decide
    have h2 : splitB (bytes { data := #[97, 32, 98, 99] }) = [[97], [98, 99]] := by decide
    rcases hW.out with ⟨a, _⟩ | ⟨_, a, _⟩ | ⟨_, _, a, b⟩
    · rw [h1] at a; cases a
    · rw [h2] at a; simp at a
    · exact ⟨by rw [a, h2], b⟩
  obtain ⟨rfl, rfl⟩ := h
  exact ⟨ax, lx, cx, rfl, hl, hrow, hb⟩

theorem aw_dec (w : World) : Calls Try.prog 30 #[.int .i64 (-5)] w fun e w' => e = .returned (.string { data := #[45, 53] }) ∧ Below w.heap.size w w' := by
  have h := dec_any (-5) w (by omega) (by omega)
  have e : decOf (-5) = [45, 53] := by decide
  rw [e] at h
  exact h

set_option maxRecDepth 100000 in
set_option maxHeartbeats 1600000 in
theorem awake_any (w : World) : Calls Try.prog 17 #[] w fun e w' => e = .returned (.bool true) ∧ Below w.heap.size w w' := by
  go_enter Try.func17, Try.ntmps17
  go_wp2_with fail
  refine (aw_bytes _).mono ?_
  rintro e w1 ⟨ax, lx, cx, rfl, hxl, hxrow, hb1⟩
  go_wp2_with fail
  refine (aw_number _).mono ?_
  rintro e w2 ⟨rfl, rfl⟩
  have hC2 : Below w1.heap.size w1 (w1.alloc (.cells #[.int .u8 1, .int .u8 2] 5)) := (Below.refl _ _).alloc (Nat.le_refl _) _
  go_wp2_with fail
  refine (aw_words _).mono ?_
  rintro e w3 ⟨aw, lw, cw, rfl, hwl, hwrow, hb3⟩
  have hC3 : Below w1.heap.size w1 w3 := hC2.trans (hb3.mono hC2.size)
  clear hC2 hb3
  have hX := row_new w3 #[.int .u8 0, .int .u8 1, .int .u8 2] [0, 1, 2] rfl
  have hbX : Below w3.heap.size w3 (w3.alloc (.cells #[.int .u8 0, .int .u8 1, .int .u8 2] 5)) := (Below.refl _ _).alloc (Nat.le_refl _) _
  have hxX := (hxrow.below hC3).below hbX
  have hwX := hwrow.below hbX
  go_wp2_with fail
  refine (same_len ax _ lx 3 cx 3 (bytesOf 3 258) [0, 1, 2] _ hxX hX hxl.out rfl).mono ?_
  rintro e w4 ⟨rfl, rfl⟩
  have hbe : (bytesOf 3 258 == [0, 1, 2]) = true := by decide
  rw [hbe]
  clear hX hxX
  go_wp2_with fail
  have hY := row_newS (w3.alloc (.cells #[.int .u8 0, .int .u8 1, .int .u8 2] 5)) #[.string { data := #[97] }, .string { data := #[98, 99] }] [[97], [98, 99]] rfl
  have hbY : Below w3.heap.size w3 ((w3.alloc (.cells #[.int .u8 0, .int .u8 1, .int .u8 2] 5)).alloc (.cells #[.string { data := #[97] }, .string { data := #[98, 99] }] 9)) := hbX.alloc (by simp) _
  have hwY := hwrow.below hbY
  rw [show (w3.alloc (.cells #[.int .u8 0, .int .u8 1, .int .u8 2] 5)).heap.size = w3.heap.size + 1 by simp] at hY
  refine (sameTexts_of aw _ lw 2 cw 2 [[97], [98, 99]] _ hwY hY hwl.out rfl (by decide)).mono ?_
  rintro e w5 ⟨rfl, hb5⟩
  have hC5 : Below w3.heap.size w3 w5 := hbY.trans (hb5.mono hbY.size)
  clear hY hbY hwY hb5 hbX hwX
  go_wp2_with fail
  refine (aw_dec _).mono ?_
  rintro e w6 ⟨rfl, hb6⟩
  have hC6 : Below w3.heap.size w3 w6 := hC5.trans (hb6.mono hC5.size)
  go_wp2
  go_ret
  exact ⟨rfl, hb1.trans ((hC3.trans (hC6.mono hC3.size)).mono hb1.size)⟩

end Go.Proofs.Ytjjojlfhliecnab
