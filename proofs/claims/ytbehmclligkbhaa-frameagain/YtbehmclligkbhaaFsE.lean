/- The landed One and Frame; the face. -/
import Derived.Test.YtbehmclligkbhaaFsD
import Derived.Laws.MakeOwn
namespace Go.Proofs.Ytbehmclligkbhaa
open Go.RowKit
set_option linter.unusedVariables false
set_option maxRecDepth 100000
set_option maxHeartbeats 6400000

theorem one_any (a : Option Addr) (n c : Nat) (bs : List UInt8) (w : World) (hr : Row w a bs) (hn : n = bs.length) (hc : n ≤ c) (hl : n ≤ 1099511627776) :
    Calls Try.prog 11 #[.slice a n c] w fun r w' => (how bs = 3 → num4 bs 0 + 12 = n → ∃ v, r = .returned (.tuple #[v, .int .i64 0]) ∧ OwnX eB w.heap.size w' v ((bs.drop 8).take (num4 bs 0))) ∧ (¬ (how bs = 3 ∧ num4 bs 0 + 12 = n) → r = .returned (.tuple #[.slice none 0 0, .int .i64 4])) ∧ Below w.heap.size w w' := by
  have HR := hidU hr
  have HN := hidU hn
  have HF := hidU (front_any a n c bs w hr hn hc hl)
  clear hr hn
  by_cases hh : how bs = 3
  · obtain ⟨q1, q2, q3, q4, q5⟩ := how_go hh
    obtain ⟨A, hA⟩ : ∃ x, Hid (x = num4 bs 0) := ⟨_, (rfl : num4 bs 0 = _)⟩
    rw [← hA.out] at q3 q4 ⊢
    obtain ⟨ad, rfl⟩ := row_some HR.out (by omega)
    have HF1 : Hid (Calls Try.prog 28 #[.slice (some ad) n c] w fun r w' => r = .returned (.tuple #[.slice (some ad) (A + 12) (A + 12), .int .i64 0]) ∧ w' = w) := by
      have h := HF.out
      rw [if_pos hh, ← hA.out] at h
      exact h
    have HRec := hidU (record_any (some ad) A bs w HR.out q3 (by omega))
    obtain ⟨R, hR⟩ : ∃ x, Hid (x = (bs.drop 8).take A) := ⟨_, (rfl : (bs.drop 8).take A = _)⟩
    rw [← hR.out] at HRec ⊢
    have hq := fun w => (Lib.run_eql_slice_nil w 22 _ (some ad) (A + 12) (A + 12) 0 0 Try.underlying22 : (binOp .eql 22 (.slice (some ad) (A + 12) (A + 12)) (.slice none 0 0)).run Try.prog w = .ok (.bool false) w)
    have hAn : A + 12 ≤ n := by rw [HN.out]; exact q4
    clear HF q1 q2 q4 q5 hA hR
    by_cases hlt : A + 12 < n
    · have HH : Hid (how bs = 3) := hh
      clear hh HR
      go_enter Try.func11, Try.ntmps11
      go_wp2_with (go_at_call 28; refine HF1.out.mono ?_; rintro _ w1 ⟨rfl, rfl⟩; refine Hid.out ?_)
      refine hidU ?_
      clear HF1
      go_wp2
      go_ret2
      exact ⟨fun _ h => by omega, fun _ => rfl, Below.refl _ _⟩
    · have hAe : A + 12 = n := by omega
      have HH : Hid (how bs = 3) := hh
      clear hh HR hlt
      subst hAe
      go_enter Try.func11, Try.ntmps11
      go_wp2_with (go_at_call 28; refine HF1.out.mono ?_; rintro _ w1 ⟨rfl, rfl⟩; refine Hid.out ?_)
      refine hidU ?_
      clear HF1
      go_wp2_with (go_at_call 29; refine HRec.out.mono ?_; rintro _ w2 ⟨v, rfl, ho, hb⟩; refine Hid.out ?_)
      refine hidU ?_
      have HO := hidU ho
      have HB := hidU hb
      clear ho hb HRec
      go_wp2
      go_ret2
      exact ⟨fun _ _ => ⟨v, rfl, HO.out⟩, fun h => absurd ⟨HH.out, (by first | trivial | rfl)⟩ h, HB.out⟩
  · have HF1 : Hid (Calls Try.prog 28 #[.slice a n c] w fun r w' => r = .returned (.tuple #[.slice none 0 0, .int .i64 (how bs : Int)]) ∧ w' = w) := by
      have h := HF.out
      rw [if_neg hh] at h
      exact h
    have hq := fun w => (Lib.run_eql_slice_nil w 22 _ none 0 0 0 0 Try.underlying22 : (binOp .eql 22 (.slice none 0 0) (.slice none 0 0)).run Try.prog w = .ok (.bool true) w)
    have HH : Hid (how bs ≠ 3) := hh
    clear HF hh HR
    go_enter Try.func11, Try.ntmps11
    go_wp2_with (go_at_call 28; refine HF1.out.mono ?_; rintro _ w1 ⟨rfl, rfl⟩; refine Hid.out ?_)
    refine hidU ?_
    clear HF1
    go_wp2
    go_ret2
    exact ⟨fun h => absurd h HH.out, fun _ => rfl, Below.refl _ _⟩
end Go.Proofs.Ytbehmclligkbhaa
