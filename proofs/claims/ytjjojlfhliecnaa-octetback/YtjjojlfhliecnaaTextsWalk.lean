/- The walk of the law OctetTexts over the contracts of what it calls. -/
import Derived.Test.YtjjojlfhliecnaaRefWords2
namespace Go.Proofs.Ytjjojlfhliecnaa
open Go.RowKit
set_option linter.unusedVariables false

/-- octet.ReadHex, whatever it reads. -/
theorem readHex_all (s : ByteArray) (w : World) (hs : s.size ≤ 268435456) :
    Calls Try.prog 25 #[.string s] w fun e w' => ∃ (ax : Option Addr) (lx cx : Nat) (E : Int) (bs : List UInt8), e = .returned (.tuple #[.slice ax lx cx, .int .i64 E]) ∧ Hid (bs.length = lx) ∧ Row w' ax bs ∧ Below w.heap.size w w' ∧ Hid ((unhex (bytes s) = some bs ∧ E = 0) ∨ (unhex (bytes s) = none ∧ bs = [] ∧ E = 4)) := by
  refine (readHex_any s w hs).mono ?_
  rintro e w' (⟨bs, v, hu, rfl, hown, hb⟩ | ⟨hu, rfl, hb⟩)
  · obtain ⟨ax, cx, rfl, _, _, hrow⟩ := hown.row
    exact ⟨ax, _, cx, 0, bs, rfl, rfl, hrow, hb, .inl ⟨hu, rfl⟩⟩
  · exact ⟨none, 0, 0, 4, [], rfl, rfl, .inl rfl, hb, .inr ⟨hu, rfl, rfl⟩⟩

theorem refReadHex_all (s : ByteArray) (w : World) (hs : s.size ≤ 268435456) :
    Calls Try.prog 29 #[.string s] w fun e w' => ∃ (ax : Option Addr) (lx cx : Nat) (E : Bool) (bs : List UInt8), e = .returned (.tuple #[.slice ax lx cx, .bool E]) ∧ Hid (bs.length = lx) ∧ Row w' ax bs ∧ Below w.heap.size w w' ∧ Hid ((unhex (bytes s) = some bs ∧ E = true) ∨ (unhex (bytes s) = none ∧ bs = [] ∧ E = false)) := by
  refine (refReadHex_any s w hs).mono ?_
  rintro e w' (⟨bs, v, hu, rfl, hown, hb⟩ | ⟨hu, rfl, hb⟩)
  · obtain ⟨ax, cx, rfl, _, _, hrow⟩ := hown.row
    exact ⟨ax, _, cx, true, bs, rfl, rfl, hrow, hb, .inl ⟨hu, rfl⟩⟩
  · exact ⟨none, 0, 0, false, [], rfl, rfl, .inl rfl, hb, .inr ⟨hu, rfl, rfl⟩⟩

theorem words_all (s : ByteArray) (w : World) (hs : s.size ≤ 268435456) :
    Calls Try.prog 26 #[.string s] w fun e w' => ∃ (ws : List (List UInt8)) (ax : Option Addr) (lx cx : Nat) (E : Int), e = .returned (.tuple #[.slice ax lx cx, .int .i64 E]) ∧ Hid (ws.length = lx) ∧ Hid (WordsIs (bytes s) ws E) ∧ RowS w' ax ws ∧ Below w.heap.size w w' := by
  refine (words_any s w hs).mono ?_
  rintro e w' ⟨ws, v, E, rfl, hw, hown, hb⟩
  obtain ⟨ax, cx, rfl, _, hrow⟩ := hown.row
  exact ⟨ws, ax, _, cx, E, rfl, rfl, hw, hrow, hb⟩

theorem refWords_all (s : ByteArray) (w : World) (hs : s.size ≤ 268435456) :
    Calls Try.prog 30 #[.string s] w fun e w' => ∃ (ws : List (List UInt8)) (ax : Option Addr) (lx cx : Nat) (E : Int), e = .returned (.tuple #[.slice ax lx cx, .int .i64 E]) ∧ Hid (ws.length = lx) ∧ Hid (WordsIs (bytes s) ws E) ∧ RowS w' ax ws ∧ Below w.heap.size w w' := by
  refine (refWords_any s w hs).mono ?_
  rintro e w' ⟨ws, v, E, rfl, hw, hown, hb⟩
  obtain ⟨ax, cx, rfl, _, hrow⟩ := hown.row
  exact ⟨ws, ax, _, cx, E, rfl, rfl, hw, hrow, hb⟩

theorem sameTexts_of (a1 a2 : Option Addr) (n1 n2 c1 c2 : Nat) (xs : List (List UInt8)) (w : World) (h1 : RowS w a1 xs) (h2 : RowS w a2 xs) (e1 : xs.length = n1) (e2 : xs.length = n2) (hx : xs.length ≤ 1099511627776) :
    Calls Try.prog 31 #[.slice a1 n1 c1, .slice a2 n2 c2] w fun e w' => e = .returned (.bool true) ∧ Below w.heap.size w w' := by
  subst e1
  subst e2
  have := sameTexts_any a1 a2 c1 c2 xs xs w h1 h2 hx hx
  rwa [beq_self_eq_true] at this

theorem wordsIs_len {l : List UInt8} {ws : List (List UInt8)} {E : Int} (h : WordsIs l ws E) : ws.length ≤ 64 := by
  rcases h with ⟨_, rfl, _⟩ | ⟨_, _, rfl, _⟩ | ⟨_, h, rfl, _⟩
  · simp
  · simp
  · exact h

set_option maxRecDepth 100000 in
set_option maxHeartbeats 3200000 in
theorem texts_walk (a : Option Addr) (cap : Nat) (bs : List UInt8) (s : ByteArray) (w : World) (hrow : Row w a bs) (hcap : bs.length ≤ cap) (hbl : bs.length ≤ 1000) (hsl : s.size ≤ 1000) :
    Calls Try.prog 4 #[.slice a bs.length cap, .string s] w fun e w' => e = .returned (.bool true) ∧ Below w.heap.size w w' := by
  have d1 : decide (1000 < (bs.length : Int)) = false := by simp; omega
  have d2 : decide (1000 < (s.size : Int)) = false := by simp; omega
  go_enter Try.func4, Try.ntmps4
  go_wp2_with fail
  refine (lent_any a cap bs _ hrow (by omega)).mono ?_
  rintro e w1 ⟨rfl, hblk1, hb1⟩
  have hin1 : Row w1 (some ⟨w.heap.size, 0, none⟩) bs := by
    have := hblk1.row bs.length (by rw [lent_length]; omega)
    rwa [show (lent bs).take bs.length = bs by simp [lent]] at this
  have hr1 := hrow.below hb1
  go_wp2_with fail
  refine (readHex_all s _ (by omega)).mono ?_
  rintro e w2 ⟨ax, lx, cx, E, xs, rfl, hxl, hxrow, hb2, hX⟩
  have hC2 : Below w1.heap.size w1 w2 := hb2
  go_wp2_with fail
  refine (words_all s _ (by omega)).mono ?_
  rintro e w3 ⟨ws, aw, lw, cw, F, rfl, hwl, hW, hwrow, hb3⟩
  have hC3 : Below w1.heap.size w1 w3 := hC2.trans (hb3.mono hC2.size)
  have hxrow3 := hxrow.below hb3
  clear hxrow hb2
  go_wp2_with fail
  refine (hex_any _ _ bs _ (hin1.below hC3) (by omega)).mono ?_
  rintro e w4 ⟨rfl, hb4⟩
  have hC4 : Below w1.heap.size w1 w4 := hC3.trans (hb4.mono hC3.size)
  have hxrow4 := hxrow3.below hb4
  have hwrow4 := hwrow.below hb4
  clear hxrow3 hwrow hb3 hb4 hC2 hC3
  go_wp2_with fail
  refine (refHex_any a cap bs _ (hr1.below hC4) (by omega)).mono ?_
  rintro e w5 ⟨rfl, q, hq⟩
  have hb5 : Below w4.heap.size w4 w5 := by rw [hq]; exact drewN_below0 _ _ _
  have hC5 : Below w1.heap.size w1 w5 := hC4.trans (hb5.mono hC4.size)
  have hxrow5 := hxrow4.below hb5
  have hwrow5 := hwrow4.below hb5
  clear hq hb5 hC4 hxrow4 hwrow4
  go_wp2_with fail
  refine (kept_any a cap w.heap.size bs _ (hr1.below hC5) (hblk1.below hC5) (by omega)).mono ?_
  rintro e w6 ⟨rfl, hb6⟩
  have hC6 : Below w1.heap.size w1 w6 := hC5.trans (hb6.mono hC5.size)
  have hxrow6 := hxrow5.below hb6
  have hwrow6 := hwrow5.below hb6
  clear hb6 hC5 hxrow5 hwrow5
  go_wp2_with fail
  refine (refReadHex_all s _ (by omega)).mono ?_
  rintro e w7 ⟨ay, ly, cy, G, ys, rfl, hyl, hyrow, hb7, hY⟩
  have hC7 : Below w1.heap.size w1 w7 := hC6.trans (hb7.mono hC6.size)
  have hxrow7 := hxrow6.below hb7
  have hwrow7 := hwrow6.below hb7
  clear hb7 hC6 hxrow6 hwrow6
  go_wp2_with fail
  refine (refWords_all s _ (by omega)).mono ?_
  rintro e w8 ⟨ws', av, lv, cv, F', rfl, hvl, hW', hvrow, hb8⟩
  have hC8 : Below w1.heap.size w1 w8 := hC7.trans (hb8.mono hC7.size)
  have hxrow8 := hxrow7.below hb8
  have hyrow8 := hyrow.below hb8
  have hwrow8 := hwrow7.below hb8
  clear hb8 hC7 hxrow7 hwrow7 hyrow
  obtain ⟨rfl, rfl⟩ := hW.out.one hW'.out
  have hws64 := wordsIs_len hW.out
  clear hW'
  go_wp2_with fail
  rcases hX.out with ⟨x1, rfl⟩ | ⟨x1, rfl, rfl⟩ <;> rcases hY.out with ⟨y1, rfl⟩ | ⟨y1, rfl, rfl⟩
  · obtain rfl : xs = ys := by rw [x1] at y1; exact Option.some.inj y1
    clear x1 y1
    refine (same_len ax ay lx ly cx cy xs xs _ hxrow8 hyrow8 hxl.out hyl.out).mono ?_
    rintro e w9 ⟨rfl, rfl⟩
    go_wp2_with fail
    refine (sameTexts_of aw av lw lv cw cv ws _ hwrow8 hvrow hwl.out hvl.out (by omega)).mono ?_
    rintro e w10 ⟨rfl, hb10⟩
    go_wp2
    go_ret
    exact ⟨rfl, hb1.trans ((hC8.trans (hb10.mono hC8.size)).mono hb1.size)⟩
  · exact absurd x1 (by rw [y1]; simp)
  · exact absurd y1 (by rw [x1]; simp)
  · clear x1 y1
    refine (same_len ax ay lx ly cx cy [] [] _ hxrow8 hyrow8 hxl.out hyl.out).mono ?_
    rintro e w9 ⟨rfl, rfl⟩
    go_wp2_with fail
    refine (sameTexts_of aw av lw lv cw cv ws _ hwrow8 hvrow hwl.out hvl.out (by omega)).mono ?_
    rintro e w10 ⟨rfl, hb10⟩
    go_wp2
    go_ret
    exact ⟨rfl, hb1.trans ((hC8.trans (hb10.mono hC8.size)).mono hb1.size)⟩

end Go.Proofs.Ytjjojlfhliecnaa
