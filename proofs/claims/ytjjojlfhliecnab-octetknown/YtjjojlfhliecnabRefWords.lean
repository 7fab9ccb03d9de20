/- The document's own Words, and assizekit.SameTexts. -/
import Derived.Test.YtjjojlfhliecnabWords
namespace Go.Proofs.Ytjjojlfhliecnab
open Go.RowKit
set_option linter.unusedVariables false

theorem texts_beq (x y : List UInt8) : (x == y) = decide (x = y) := by
  rw [Bool.eq_iff_iff]; simp

theorem drop_cons (l : List (List UInt8)) (k : Nat) (h : k < l.length) : l.drop k = l.getD k [] :: l.drop (k + 1) := by
  rw [List.drop_eq_getElem_cons h]
  simp [List.getD, List.getElem?_eq_getElem h]

set_option maxRecDepth 100000 in
set_option maxHeartbeats 1600000 in
theorem sameTexts_full (b1 o1 c1 b2 o2 c2 : Nat) (xs ys : List (List UInt8)) (w : World) (hlen : xs.length = ys.length)
    (h1 : ∀ j, j < xs.length → w.cell? ⟨b1, o1 + j, none⟩ = some (S8 (xs.getD j []))) (h2 : ∀ j, j < ys.length → w.cell? ⟨b2, o2 + j, none⟩ = some (S8 (ys.getD j []))) (hmax : xs.length ≤ 1099511627776) :
    Calls Try.prog 29 #[.slice (some ⟨b1, o1, none⟩) xs.length c1, .slice (some ⟨b2, o2, none⟩) xs.length c2] w fun e w' => e = .returned (.bool (xs == ys)) ∧ ∃ q, w' = w.drewN q := by
  have H1 : Hid (∀ j, j < xs.length → w.cell? ⟨b1, o1 + j, none⟩ = some (S8 (xs.getD j []))) := h1
  have H2 : Hid (∀ j, j < ys.length → w.cell? ⟨b2, o2 + j, none⟩ = some (S8 (ys.getD j []))) := h2
  have HLEN : Hid (xs.length = ys.length) := hlen
  clear h1 h2 hlen
  go_enter Try.func29, Try.ntmps29
  go_wp2
  go_loopw [5] (fun i wr => ∃ k : Nat, k ≤ xs.length ∧ i = .int .i64 k ∧ Hid ((xs == ys) = (xs.drop k == ys.drop k)) ∧ Hid (∃ q, wr = w.drewN q)) (fun i _ => xs.length - (intOf i).toNat)
  case atStart => exact ⟨0, Nat.zero_le _, rfl, rfl, ⟨0, rfl⟩⟩
  case round =>
    obtain ⟨k, hk, rfl, he, hq⟩ := hrel
    by_cases hlt : k < xs.length
    · have hcx : wr.cell? ⟨b1, o1 + k, none⟩ = some (.string ⟨(xs.getD k []).toArray⟩) := by
        obtain ⟨q, e⟩ := hq.out
        rw [e]; exact H1.out k hlt
      have hcy : wr.cell? ⟨b2, o2 + k, none⟩ = some (.string ⟨(ys.getD k []).toArray⟩) := by
        obtain ⟨q, e⟩ := hq.out
        rw [e]; exact H2.out k (by rw [← HLEN.out]; exact hlt)
      have HE : Hid ((xs == ys) = ((xs.getD k [] == ys.getD k []) && (xs.drop (k + 1) == ys.drop (k + 1)))) := by
        show _ = _
        rw [he.out, drop_cons xs k hlt, drop_cons ys k (by rw [← HLEN.out]; exact hlt)]
        rfl
      obtain ⟨x, hx⟩ : ∃ x, x = xs.getD k [] := ⟨_, rfl⟩
      obtain ⟨y, hy⟩ : ∃ y, y = ys.getD k [] := ⟨_, rfl⟩
      rw [← hx] at hcx
      rw [← hy] at hcy
      rw [← hx, ← hy] at HE
      clear hx hy he
      have i1 : (0 : Int) ≤ (k : Int) := by omega
      have i2 : (k : Int) < (xs.length : Int) := by omega
      by_cases hxy : x = y
      · have g1 : (x == y) = true := by simp [hxy]
        have g2 : (x != y) = false := by simp [hxy]
        have HE' : Hid ((xs == ys) = (xs.drop (k + 1) == ys.drop (k + 1))) := by show _ = _; rw [HE.out, g1]; rfl
        clear hxy HE
        go_wp2
        go_quiet (fail)
        go_wp2
        go_roundw
        case rel => exact ⟨k + 1, by omega, by go_num, HE', drewN_more hq.out _⟩
        case measure => simp [intOf]; omega
      · have g1 : (x == y) = false := by simp [hxy]
        have g2 : (x != y) = true := by simp [hxy]
        have HE' : Hid ((xs == ys) = false) := by show _ = _; rw [HE.out, g1]; rfl
        clear hxy HE
        go_wp2
        go_quiet (fail)
        go_wp2
        go_ret
        exact ⟨by rw [HE'.out]; rfl, drewN_more hq.out _⟩
    · have HE' : Hid ((xs == ys) = true) := by
        show _ = _
        rw [he.out, List.drop_eq_nil_of_le (by omega), List.drop_eq_nil_of_le (by rw [← HLEN.out]; omega)]
        rfl
      clear he
      go_wp2
      go_ret
      exact ⟨by rw [HE'.out]; rfl, hq.out⟩

set_option maxRecDepth 100000 in
set_option maxHeartbeats 400000 in
theorem sameTexts_len (a1 a2 : Option Addr) (n1 n2 c1 c2 : Nat) (w : World) (hne : n1 ≠ n2) (h1 : n1 ≤ 1099511627776) (h2 : n2 ≤ 1099511627776) :
    Calls Try.prog 29 #[.slice a1 n1 c1, .slice a2 n2 c2] w fun e w' => e = .returned (.bool false) ∧ w' = w := by
  have g : ((n1 : Int) != (n2 : Int)) = true := by rw [bne_iff_ne]; omega
  clear hne
  go_enter Try.func29, Try.ntmps29
  go_wp2
  go_ret
  exact ⟨rfl, rfl⟩

set_option maxRecDepth 100000 in
set_option maxHeartbeats 400000 in
theorem sameTexts_none (a1 a2 : Option Addr) (c1 c2 : Nat) (w : World) :
    Calls Try.prog 29 #[.slice a1 0 c1, .slice a2 0 c2] w fun e w' => e = .returned (.bool true) ∧ w' = w := by
  go_enter Try.func29, Try.ntmps29
  go_wp2
  refine wp_loop_rounds 1 ?_
  rw [rounds_succ]
  go_wp2
  go_ret
  exact ⟨rfl, rfl⟩

theorem sameTexts_any (a1 a2 : Option Addr) (c1 c2 : Nat) (xs ys : List (List UInt8)) (w : World) (h1 : RowS w a1 xs) (h2 : RowS w a2 ys) (hx : xs.length ≤ 1099511627776) (hy : ys.length ≤ 1099511627776) :
    Calls Try.prog 29 #[.slice a1 xs.length c1, .slice a2 ys.length c2] w fun e w' => e = .returned (.bool (xs == ys)) ∧ Below w.heap.size w w' := by
  by_cases hl : xs.length = ys.length
  · rcases h1 with rfl | ⟨b1, o1, rfl, h1⟩
    · have : ys = [] := List.eq_nil_of_length_eq_zero hl.symm
      subst this
      refine (sameTexts_none a1 a2 c1 c2 w).mono ?_
      rintro e w' ⟨rfl, rfl⟩
      exact ⟨rfl, Below.refl _ _⟩
    · rcases h2 with rfl | ⟨b2, o2, rfl, h2⟩
      · have : xs = [] := List.eq_nil_of_length_eq_zero hl
        subst this
        refine (sameTexts_none _ a2 c1 c2 w).mono ?_
        rintro e w' ⟨rfl, rfl⟩
        exact ⟨rfl, Below.refl _ _⟩
      · have := sameTexts_full b1 o1 c1 b2 o2 c2 xs ys w hl h1 h2 hx
        rw [← hl]
        refine this.mono ?_
        rintro e w' ⟨rfl, q, rfl⟩
        exact ⟨rfl, drewN_below0 _ _ _⟩
  · have e : (xs == ys) = false := by
      rw [beq_eq_false_iff_ne]
      rintro rfl
      exact hl rfl
    rw [e]
    refine (sameTexts_len a1 a2 _ _ c1 c2 w hl hx hy).mono ?_
    rintro e w' ⟨rfl, rfl⟩
    exact ⟨rfl, Below.refl _ _⟩

end Go.Proofs.Ytjjojlfhliecnab
