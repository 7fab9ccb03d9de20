/- The document's own Dec. -/
import Derived.Test.YtjjojlfhliecnaaDec
namespace Go.Proofs.Ytjjojlfhliecnaa
open Go.RowKit
set_option linter.unusedVariables false

theorem cut10 : ∀ d : Fin 10, ({ data := #[48, 49, 50, 51, 52, 53, 54, 55, 56, 57] } : ByteArray).extract d.val (d.val + 1) = ⟨#[ub (48 + d.val % 10)]⟩ := by decide +kernel

theorem cat_one (x : UInt8) (l : List UInt8) : (⟨#[x]⟩ ++ ⟨l.toArray⟩ : ByteArray) = ⟨(x :: l).toArray⟩ := by
  apply ByteArray.ext
  simp

theorem digs_up {N f m : Nat} {l : List UInt8} (hb : 10 ≤ m) (hm : m < 10 ^ (f + 1)) (hf : f + l.length = 19) (h : digs f m ++ l = digs 19 N) :
    ∃ f', f = f' + 1 ∧ f' + (ub (48 + m % 10) :: l).length = 19 ∧ m / 10 < 10 ^ (f' + 1) ∧ digs f' (m / 10) ++ (ub (48 + m % 10) :: l) = digs 19 N := by
  cases f with
  | zero => simp at hm; omega
  | succ f =>
    refine ⟨f, rfl, by simp; omega, ?_, ?_⟩
    · rw [Nat.div_lt_iff_lt_mul (by omega)]; rwa [Nat.pow_succ] at hm
    · rw [← h, digs_big f m hb]; simp

set_option maxRecDepth 100000 in
set_option maxHeartbeats 800000 in
theorem refDec_pos (N : Nat) (w : World) (h1 : N ≤ 9223372036854775807) :
    Calls Try.prog 19 #[.int .i64 (N : Int)] w fun e w' => e = .returned (.string ⟨(digs 19 N).toArray⟩) ∧ w' = w := by
  have hneg : ¬ (N : Int) < 0 := by omega
  go_enter Try.func19, Try.ntmps19
  go_wp2
  go_loop [0, 5] (fun t v => ∃ (f m : Nat) (l : List UInt8), f + l.length = 19 ∧ m ≤ 9223372036854775807 ∧ Hid (m < 10 ^ (f + 1)) ∧ t = .int .i64 m ∧ v = .string ⟨l.toArray⟩ ∧ Hid (digs f m ++ l = digs 19 N)) (fun t _ => (intOf t).toNat)
  case atStart => exact ⟨19, N, [], rfl, h1, (by show N < 10 ^ 20; omega), rfl, rfl, (by show _ = _; simp)⟩
  case round =>
    obtain ⟨f, m, l, hf, hm63, hm, rfl, rfl, hsh⟩ := hrel
    by_cases hb : 10 ≤ m
    · have hcut := cut10 ⟨m % 10, by omega⟩
      simp only at hcut
      obtain ⟨f', rfl, h1', h2', h3'⟩ := digs_up hb hm.out hf hsh.out
      have H1 : Hid (f' + (ub (48 + m % 10) :: l).length = 19) := h1'
      have H2 : Hid (m / 10 < 10 ^ (f' + 1)) := h2'
      have H3 : Hid (digs f' (m / 10) ++ (ub (48 + m % 10) :: l) = digs 19 N) := h3'
      clear h1' h2' h3' hm hsh
      go_wp2
      go_round
      case rel => exact ⟨f', m / 10, ub (48 + m % 10) :: l, H1, by omega, H2, by go_num, by rw [cat_one], H3⟩
      case measure => simp [intOf]; omega
    · have hcut := cut10 ⟨m, by omega⟩
      simp only at hcut
      have HS : Hid (ub (48 + m % 10) :: l = digs 19 N) := by
        show _ = _
        rw [← hsh.out, digs_small f m (by omega)]
        rfl
      clear hsh hm
      go_wp2
      go_ret
      exact ⟨by rw [← HS.out, ← cat_one]; rfl, rfl⟩

theorem tmod_neg (m : Nat) : (-(m : Int)).tmod 10 = -((m : Int) % 10) := by
  rw [Int.neg_tmod, Int.tmod_eq_emod_of_nonneg (by omega)]

theorem tdiv_neg (m : Nat) : (-(m : Int)).tdiv 10 = -((m : Int) / 10) := by
  rw [Int.neg_tdiv, Int.tdiv_eq_ediv_of_nonneg (by omega)]

set_option maxRecDepth 100000 in
set_option maxHeartbeats 800000 in
theorem refDec_neg (N : Nat) (w : World) (h0 : 1 ≤ N) (h1 : N ≤ 9223372036854775808) :
    Calls Try.prog 19 #[.int .i64 (-(N : Int))] w fun e w' => e = .returned (.string ⟨(ub 45 :: digs 19 N).toArray⟩) ∧ w' = w := by
  have hneg : -(N : Int) < 0 := by omega
  go_enter Try.func19, Try.ntmps19
  go_wp2
  go_loop [0, 3] (fun t v => ∃ (m : Nat) (l : List UInt8), m ≤ 9223372036854775808 ∧ t = .int .i64 (-(m : Int)) ∧ v = .string ⟨l.toArray⟩ ∧ l.length ≤ 20 ∧ Hid (m = 0 → l = digs 19 N) ∧ Hid (1 ≤ m → ∃ f, f + l.length = 19 ∧ m < 10 ^ (f + 1) ∧ digs f m ++ l = digs 19 N)) (fun t _ => (-intOf t).toNat)
  case atStart => exact ⟨N, [], h1, rfl, rfl, by simp, (fun h => by omega), (fun _ => ⟨19, rfl, by omega, by simp⟩)⟩
  case round =>
    obtain ⟨m, l, hm63, rfl, rfl, hl20, hz, hsh⟩ := hrel
    by_cases hb : 1 ≤ m
    · have hcut := cut10 ⟨m % 10, by omega⟩
      simp only at hcut
      have ht1 := tmod_neg m
      have ht2 := tdiv_neg m
      have hnm : -(m : Int) < 0 := by omega
      obtain ⟨f, hf, hm, hd⟩ := hsh.out hb
      have HX : Hid ((ub (48 + m % 10) :: l).length ≤ 20 ∧ (m / 10 = 0 → ub (48 + m % 10) :: l = digs 19 N) ∧ (1 ≤ m / 10 → ∃ f, f + (ub (48 + m % 10) :: l).length = 19 ∧ m / 10 < 10 ^ (f + 1) ∧ digs f (m / 10) ++ (ub (48 + m % 10) :: l) = digs 19 N)) := by
        refine ⟨by simp; omega, fun h => ?_, fun h => ?_⟩
        · rw [← hd, digs_small f m (by omega)]
          rfl
        · obtain ⟨f', rfl, h1', h2', h3'⟩ := digs_up (by omega) hm hf hd
          exact ⟨f', h1', h2', h3'⟩
      clear hsh hz hm hd hf
      go_wp2
      go_round
      case rel => exact ⟨m / 10, ub (48 + m % 10) :: l, by omega, by go_num, by rw [cat_one], HX.out.1, HX.out.2.1, HX.out.2.2⟩
      case measure => simp [intOf]; omega
    · have HS : Hid (l = digs 19 N) := hz.out (by omega)
      have hnm : ¬ -(m : Int) < 0 := by omega
      clear hsh hz
      go_wp2
      go_ret
      exact ⟨by rw [← HS.out, ← cat_one]; rfl, rfl⟩

theorem refDec_any (n : Int) (w : World) (h1 : n ≤ 9223372036854775807) (h2 : -9223372036854775808 ≤ n) :
    Calls Try.prog 19 #[.int .i64 n] w fun e w' => e = .returned (.string ⟨(decOf n).toArray⟩) ∧ w' = w := by
  unfold decOf
  by_cases h : n < 0
  · rw [if_pos h]
    obtain ⟨N, hN⟩ : ∃ N : Nat, n = -(N : Int) := ⟨n.natAbs, by omega⟩
    subst hN
    have e : (-(N : Int)).natAbs = N := by omega
    rw [e]
    exact refDec_neg N w (by omega) (by omega)
  · rw [if_neg h]
    obtain ⟨N, rfl⟩ : ∃ N : Nat, n = (N : Int) := ⟨n.natAbs, by omega⟩
    have e : (N : Int).natAbs = N := by omega
    rw [e]
    exact refDec_pos N w (by omega)

theorem dec_any (n : Int) (w : World) (h1 : n ≤ 9223372036854775807) (h2 : -9223372036854775808 ≤ n) :
    Calls Try.prog 18 #[.int .i64 n] w fun e w' => e = .returned (.string ⟨(decOf n).toArray⟩) ∧ Below w.heap.size w w' := by
  unfold decOf
  by_cases h : n < 0
  · rw [if_pos h]
    exact dec_neg n n.natAbs w h h2 (by omega)
  · rw [if_neg h]
    obtain ⟨N, rfl⟩ : ∃ N : Nat, n = (N : Int) := ⟨n.natAbs, by omega⟩
    have e : (N : Int).natAbs = N := by omega
    rw [e]
    exact dec_pos N w (by omega)

end Go.Proofs.Ytjjojlfhliecnaa
