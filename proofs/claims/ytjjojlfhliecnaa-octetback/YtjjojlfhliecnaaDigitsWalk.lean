/- The walk of the law OctetDigits over the contracts of what it calls. -/
import Derived.Test.YtjjojlfhliecnaaAwake
import Derived.Test.YtjjojlfhliecnaaDigitsMath
namespace Go.Proofs.Ytjjojlfhliecnaa
open Go.RowKit
set_option linter.unusedVariables false

theorem decOf_length (n : Int) : (decOf n).length ≤ 21 := by
  unfold decOf
  have := (digs_length 19 n.natAbs).1
  split <;> simp <;> omega

theorem size_mk (l : List UInt8) : (⟨l.toArray⟩ : ByteArray).size = l.length := by rw [← bytes_length]; rfl

theorem bytes_mk (l : List UInt8) : bytes ⟨l.toArray⟩ = l := rfl

/-- ReadDec of what Dec told. -/
theorem readBack_dec (n : Int) (w : World) (h1 : n ≤ 9223372036854775807) (h2 : -9223372036854775808 ≤ n) :
    Calls Try.prog 13 #[.string ⟨(decOf n).toArray⟩, .int .i64 9223372036854775807] w fun e w' => (∃ d h : Int, e = .returned (.tuple #[.int .i64 d, .int .i64 h]) ∧ Hid ((n < 0 ∧ d = 0 ∧ h = 4) ∨ (0 ≤ n ∧ d = n ∧ h = 0))) ∧ Below w.heap.size w w' := by
  refine (readDec_any ⟨(decOf n).toArray⟩ 9223372036854775807 w (by have := decOf_length n; rw [size_mk]; omega) (by omega) (by omega)).mono ?_
  rintro e w' ⟨⟨d, h, rfl, hD⟩, q, rfl⟩
  refine ⟨⟨d, h, rfl, ?_⟩, drewN_below0 _ _ _⟩
  rw [bytes_mk] at hD
  unfold decOf at hD
  by_cases hn : n < 0
  · rw [if_pos hn] at hD
    left
    rcases hD with ⟨a, _⟩ | ⟨_, _, a, b⟩ | ⟨_, a, _⟩ | ⟨_, a, _⟩
    · omega
    · exact ⟨hn, a, b⟩
    · exact absurd a (bad_neg _)
    · exact absurd a (bad_neg _)
  · rw [if_neg hn] at hD
    right
    obtain ⟨g1, g2⟩ := good_digs n.natAbs (by omega)
    rcases hD with ⟨a, _⟩ | ⟨_, a, _⟩ | ⟨_, _, a, _⟩ | ⟨_, _, _, a, b⟩
    · omega
    · exact absurd g1 a
    · rw [g2] at a; omega
    · exact ⟨by omega, by rw [a, g2]; omega, b⟩

/-- ReadDec of any text: what is read is told again. -/
theorem readDec_told (l : List UInt8) (w : World) (hl : l.length ≤ 300) :
    Calls Try.prog 13 #[.string ⟨l.toArray⟩, .int .i64 9223372036854775807] w fun e w' => (∃ d h : Int, e = .returned (.tuple #[.int .i64 d, .int .i64 h]) ∧ Hid ((h = 0 ∧ 0 ≤ d ∧ d ≤ 9223372036854775807 ∧ decOf d = l) ∨ (h = 4 ∨ h = 3))) ∧ Below w.heap.size w w' := by
  refine (readDec_any ⟨l.toArray⟩ 9223372036854775807 w (by rw [size_mk]; omega) (by omega) (by omega)).mono ?_
  rintro e w' ⟨⟨d, h, rfl, hD⟩, q, rfl⟩
  refine ⟨⟨d, h, rfl, ?_⟩, drewN_below0 _ _ _⟩
  rw [bytes_mk] at hD
  rcases hD with ⟨a, _⟩ | ⟨_, a, _, b⟩ | ⟨_, _, a, _, b⟩ | ⟨_, g, hle, a, b⟩
  · omega
  · exact .inr (.inl b)
  · exact .inr (.inr b)
  · left
    refine ⟨b, by omega, by omega, ?_⟩
    rw [a]
    unfold decOf
    rw [if_neg (by omega), show ((val l : Nat) : Int).natAbs = val l by omega]
    exact digs_of_good l g

theorem hex_len (a : Option Addr) (n cap : Nat) (bs : List UInt8) (w : World) (hrow : Row w a bs) (hn : bs.length = n) (hmax : bs.length ≤ 268435456) :
    Calls Try.prog 27 #[.slice a n cap] w fun e w' => e = .returned (.string ⟨(hexOf bs).toArray⟩) ∧ Below w.heap.size w w' := by
  subst hn
  exact hex_any a cap bs w hrow hmax

theorem unhex_len {l bs : List UInt8} (h : unhex l = some bs) : 2 * bs.length = l.length := by
  have := hex_unhex _ l bs (Nat.le_refl _) h
  rw [← this, hexOf_length]

set_option maxRecDepth 100000 in
set_option maxHeartbeats 3200000 in
theorem digits_walk (n : Int) (l : List UInt8) (w : World) (h1 : n ≤ 9223372036854775807) (h2 : -9223372036854775808 ≤ n) (hmax : l.length ≤ 9223372036854775807) :
    Calls Try.prog 7 #[.int .i64 n, .string ⟨l.toArray⟩] w fun e w' => e = .returned (.bool true) ∧ Below w.heap.size w w' := by
  go_enter Try.func7, Try.ntmps7
  go_wp2_with fail
  refine (awake_any _).mono ?_
  rintro e w1 ⟨rfl, hb1⟩
  go_wp2_with fail
  refine (dec_any n _ h1 h2).mono ?_
  rintro e w2 ⟨rfl, hb2⟩
  have hC2 : Below w.heap.size w w2 := hb1.trans (hb2.mono hb1.size)
  clear hb1 hb2
  go_wp2_with fail
  refine (readBack_dec n _ h1 h2).mono ?_
  rintro e w3 ⟨⟨d, h, rfl, hD⟩, hb3⟩
  have hC3 : Below w.heap.size w w3 := hC2.trans (hb3.mono hC2.size)
  clear hb3 hC2
  rcases hD.out with ⟨hn, rfl, rfl⟩ | ⟨hn, rfl, rfl⟩
  · clear hD
    by_cases hl : 300 < l.length
    · go_wp2
      go_ret
      exact ⟨rfl, hC3⟩
    · go_wp2_with fail
      refine (readDec_told l _ (by omega)).mono ?_
      rintro e w4 ⟨⟨k, f, rfl, hK⟩, hb4⟩
      have hC4 : Below w.heap.size w w4 := hC3.trans (hb4.mono hC3.size)
      clear hb4 hC3
      go_wp2_with fail
      refine (readHex_all ⟨l.toArray⟩ _ (by rw [size_mk]; omega)).mono ?_
      rintro e w5 ⟨ax, lx, cx, E, xs, rfl, hxl, hxrow, hb5, hX⟩
      have hC5 : Below w.heap.size w w5 := hC4.trans (hb5.mono hC4.size)
      clear hb5 hC4
      rcases hK.out with ⟨rfl, k0, k1, hk⟩ | hf
      · have HK : Hid (decOf k = l) := hk
        clear hK hk
        go_wp2_with fail
        refine (dec_any k _ k1 (by omega)).mono ?_
        rintro e w6 ⟨rfl, hb6⟩
        rw [HK.out]
        have hC6 : Below w.heap.size w w6 := hC5.trans (hb6.mono hC5.size)
        have hxrow6 := hxrow.below hb6
        clear hb6 hxrow hC5
        rcases hX.out with ⟨hu, rfl⟩ | ⟨hu, rfl, rfl⟩
        · have hxx : hexOf xs = l := hex_unhex _ l xs (Nat.le_refl _) hu
          have hxn : 2 * xs.length = l.length := unhex_len hu
          clear hu hX
          go_wp2_with fail
          refine (hex_len ax lx cx xs _ (hxrow6) hxl.out (by omega)).mono ?_
          rintro e w7 ⟨rfl, hb7⟩
          rw [hxx]
          clear hxx hxn
          go_wp2
          go_ret
          exact ⟨rfl, hC6.trans (hb7.mono hC6.size)⟩
        · clear hu hX
          go_wp2
          go_ret
          exact ⟨rfl, hC6⟩
      · clear hK
        rcases hf with rfl | rfl
        all_goals
          rcases hX.out with ⟨hu, rfl⟩ | ⟨hu, rfl, rfl⟩
          · have hxx : hexOf xs = l := hex_unhex _ l xs (Nat.le_refl _) hu
            have hxn : 2 * xs.length = l.length := unhex_len hu
            clear hu hX
            go_wp2_with fail
            refine (hex_len ax lx cx xs _ (hxrow) hxl.out (by omega)).mono ?_
            rintro e w7 ⟨rfl, hb7⟩
            rw [hxx]
            clear hxx hxn
            go_wp2
            go_ret
            exact ⟨rfl, hC5.trans (hb7.mono hC5.size)⟩
          · clear hu hX
            go_wp2
            go_ret
            exact ⟨rfl, hC5⟩
  · clear hD
    by_cases hl : 300 < l.length
    · go_wp2
      go_ret
      exact ⟨rfl, hC3⟩
    · go_wp2_with fail
      refine (readDec_told l _ (by omega)).mono ?_
      rintro e w4 ⟨⟨k, f, rfl, hK⟩, hb4⟩
      have hC4 : Below w.heap.size w w4 := hC3.trans (hb4.mono hC3.size)
      clear hb4 hC3
      go_wp2_with fail
      refine (readHex_all ⟨l.toArray⟩ _ (by rw [size_mk]; omega)).mono ?_
      rintro e w5 ⟨ax, lx, cx, E, xs, rfl, hxl, hxrow, hb5, hX⟩
      have hC5 : Below w.heap.size w w5 := hC4.trans (hb5.mono hC4.size)
      clear hb5 hC4
      rcases hK.out with ⟨rfl, k0, k1, hk⟩ | hf
      · have HK : Hid (decOf k = l) := hk
        clear hK hk
        go_wp2_with fail
        refine (dec_any k _ k1 (by omega)).mono ?_
        rintro e w6 ⟨rfl, hb6⟩
        rw [HK.out]
        have hC6 : Below w.heap.size w w6 := hC5.trans (hb6.mono hC5.size)
        have hxrow6 := hxrow.below hb6
        clear hb6 hxrow hC5
        rcases hX.out with ⟨hu, rfl⟩ | ⟨hu, rfl, rfl⟩
        · have hxx : hexOf xs = l := hex_unhex _ l xs (Nat.le_refl _) hu
          have hxn : 2 * xs.length = l.length := unhex_len hu
          clear hu hX
          go_wp2_with fail
          refine (hex_len ax lx cx xs _ (hxrow6) hxl.out (by omega)).mono ?_
          rintro e w7 ⟨rfl, hb7⟩
          rw [hxx]
          clear hxx hxn
          go_wp2
          go_ret
          exact ⟨rfl, hC6.trans (hb7.mono hC6.size)⟩
        · clear hu hX
          go_wp2
          go_ret
          exact ⟨rfl, hC6⟩
      · clear hK
        rcases hf with rfl | rfl
        all_goals
          rcases hX.out with ⟨hu, rfl⟩ | ⟨hu, rfl, rfl⟩
          · have hxx : hexOf xs = l := hex_unhex _ l xs (Nat.le_refl _) hu
            have hxn : 2 * xs.length = l.length := unhex_len hu
            clear hu hX
            go_wp2_with fail
            refine (hex_len ax lx cx xs _ (hxrow) hxl.out (by omega)).mono ?_
            rintro e w7 ⟨rfl, hb7⟩
            rw [hxx]
            clear hxx hxn
            go_wp2
            go_ret
            exact ⟨rfl, hC5.trans (hb7.mono hC5.size)⟩
          · clear hu hX
            go_wp2
            go_ret
            exact ⟨rfl, hC5⟩
end Go.Proofs.Ytjjojlfhliecnaa
