/- The laws' own texts and fault. -/
import Derived.Test.YtinofdmdfhklpaaDoorLex
import Derived.Test.YtinofdmdfhklpaaDoorKnownMath
namespace Go.Proofs.YtinofdmdfhklpaaDoor
open Go.RowKit
set_option linter.unusedVariables false

set_option maxRecDepth 100000 in
set_option maxHeartbeats 800000 in
theorem fault_yes (s : ByteArray) (E p : Nat) (w : World) (hO : lexS (bytes s) = ⟨[], E, p⟩) (hmax : s.size ≤ 9223372036854775807) (hE : ErrR w) :
    Calls Tryd.prog 11 #[.string s, .int .i64 (E : Int), .int .i64 (p : Int)] w fun e w' => e = .returned (.bool true) ∧ Below w.heap.size w w' := by
  have hL := lex_any s w hmax hE
  unfold LexPost at hL
  rw [hO] at hL
  simp only [] at hL
  have HL : Hid (Calls Tryd.prog 6 #[.string s] w fun e w' => ∃ v, e = .returned (.tuple #[v, .agg (fa2 E p).toArray]) ∧ Toks w.heap.size w' v [] ∧ Below w.heap.size w w') := hL
  clear hL hO
  go_enter Tryd.func11, Tryd.ntmps11
  go_wp2_with fail
  refine (HL.out).mono ?_
  rintro e w1 ⟨v1, rfl, hT1, hb1⟩
  obtain ⟨a1, c1, rfl⟩ : ∃ a c, v1 = .slice a 0 c := by
    rcases hT1.open with ⟨rfl, _⟩ | ⟨g, cap, rfl, _⟩
    · exact ⟨_, _, rfl⟩
    · exact ⟨_, _, rfl⟩
  go_wp2_with (first | ((with_reducible show wpList _ _ _ _ _ _); refine wpList_alloc_at rfl 25 rfl (fa2 0 0) 2 z25 ?_; intro w2 hA2 hb2 hs2) | ((with_reducible show wpList _ _ _ _ _ _); refine wpList_store_at (P := Tryd.prog) rfl 25 (.tmp 8) (.tmp 13) rfl w1.heap.size (fa2 E p) rfl rfl 25 (fa2 0 0) hA2 i25 rfl (one2f _ _) ?_; intro w3 hA3 hb3 hs3; refine Hid.out ?_))
  refine Lib.hid ?_
  have hB3 : Below w.heap.size w w3 := hb3.below (hb1.trans (hb2.mono hb1.size)) hb1.size (by have := hb1.size; omega)
  have c0 : w3.cell? ⟨w1.heap.size, 0, none⟩ = some (.int .i64 (E : Int)) := by rw [hA3.cell]; rfl
  have c1 : w3.cell? ⟨w1.heap.size, 1, none⟩ = some (.int .i64 (p : Int)) := by rw [hA3.cell]; rfl
  clear hA2 hb2 hb3 hA3 hT1 hb1
  go_wp2
  all_goals
    go_ret
    exact ⟨rfl, hB3⟩

theorem run_eq25' (u : World) : (Op.equalIn 10000 25 (.agg (fa2 0 0).toArray) (.agg (fa2 0 0).toArray)).run Tryd.prog u = .ok true u := by
  unfold fa2
  go_simp

set_option maxRecDepth 100000 in
set_option maxHeartbeats 800000 in
theorem texts_yes (s : ByteArray) (g2 c2 : Nat) (ts : List Tk) (w : World) (hO : lexS (bytes s) = ⟨ts, 0, 0⟩) (hmax : s.size ≤ 9223372036854775807) (hE : ErrR w) (hne : 0 < ts.length) (hlen : ts.length ≤ 16384)
    (hA : At 9 w g2 (ts.map fun t => .string ⟨t.text.toArray⟩)) (n : Nat) (hn : ts.length = n) :
    Calls Tryd.prog 10 #[.string s, .slice (some ⟨g2, 0, none⟩) n c2] w fun e w' => e = .returned (.bool true) ∧ Below w.heap.size w w' := by
  have hL := lex_any s w hmax hE
  unfold LexPost at hL
  rw [hO] at hL
  simp only [] at hL
  have HL : Hid (Calls Tryd.prog 6 #[.string s] w fun e w' => ∃ v, e = .returned (.tuple #[v, .agg (fa2 0 0).toArray]) ∧ Toks w.heap.size w' v ts ∧ Below w.heap.size w w') := hL
  have HN : Hid (ts.length = n) := hn
  have hn0 : 0 < n := by omega
  have hn1 : n ≤ 16384 := by omega
  clear hL hO hn
  have hq := run_eq25'
  go_enter Tryd.func10, Tryd.ntmps10
  go_wp2_with fail
  refine (HL.out).mono ?_
  rintro e w1 ⟨v1, rfl, hT1, hb1⟩
  obtain ⟨g1, cap, rfl, hg1a, hg1b, hca, hcb, hrange⟩ : ∃ g cap, v1 = .slice (some ⟨g, 0, none⟩) n cap ∧ w.heap.size ≤ g ∧ g < w1.heap.size ∧ n ≤ cap ∧ cap ≤ maxLen ∧ ∀ i t, ts[i]? = some t → w1.rangeAt g (i * 5) t.cells := by
    rcases hT1.open with ⟨rfl, h0⟩ | ⟨g, cap, rfl, h1, h2, h3, h4, h5, _⟩
    · rw [h0] at hne; simp at hne
    · exact ⟨g, cap, by rw [HN.out], h1, h2, by rw [← HN.out]; exact h3, h4, h5⟩
  have HR1 : Hid (∀ i t, ts[i]? = some t → w1.rangeAt g1 (i * 5) t.cells) := hrange
  clear hrange hT1
  go_wp2_with (first | ((with_reducible show wpList _ _ _ _ _ _); refine wpList_alloc_at rfl 25 rfl (fa2 0 0) 2 z25 ?_; intro w2 hA2 hb2 hs2) | ((with_reducible show wpList _ _ _ _ _ _); refine wpList_store_at (P := Tryd.prog) rfl 25 (.tmp 6) (.tmp 12) rfl w1.heap.size (fa2 0 0) rfl rfl 25 (fa2 0 0) hA2 i25 rfl (one2f _ _) ?_; intro w3 hA3 hb3 hs3; refine Hid.out ?_))
  refine Lib.hid ?_
  have hb13 : Below w1.heap.size w1 w3 := hb3.below hb2 (Nat.le_refl _) (by omega)
  have hB3 : Below w.heap.size w w3 := hb1.trans (hb13.mono hb1.size)
  have HC1 : Hid (∀ i t, ts[i]? = some t → w3.cell? ⟨g1, i * 5 + 1, none⟩ = some (.string ⟨t.text.toArray⟩)) := by
    intro i t hi
    rw [hb13.cell (show (⟨g1, i * 5 + 1, none⟩ : Addr).block < w1.heap.size from hg1b)]
    exact HR1.out i t hi 1 _ rfl
  have HC2 : Hid (∀ i t, ts[i]? = some t → w3.cell? ⟨g2, i, none⟩ = some (.string ⟨t.text.toArray⟩)) := by
    intro i t hi
    rw [hB3.cell (show (⟨g2, i, none⟩ : Addr).block < w.heap.size from hA.lt), hA.cell, List.getElem?_map, hi]
    rfl
  clear hA2 hb2 hb3 hb1 hb13 HR1 hA
  go_wp2_with (first | ((with_reducible show wpList _ _ _ _ _ _); refine wpList_load_at (P := Tryd.prog) rfl 25 (.tmp 6) rfl w1.heap.size rfl 25 (fa2 0 0) hA3 _ Tryd.underlying25 rfl i25 ?_) | ((with_reducible show wpList _ _ _ _ _ _); refine wpList_build_at rfl 25 #[] rfl (fa2 0 0) (by kernel_rfl) ?_))
  clear hA3
  go_loopw [7] (fun j wr => ∃ i : Nat, j = .int .i64 (i : Int) ∧ i ≤ n ∧ ∃ q, wr = w3.drewN q) (fun j _ => n - (intOf j).toNat)
  case atStart => exact ⟨0, rfl, by omega, 0, rfl⟩
  case round =>
    obtain ⟨i, rfl, hi, q, rfl⟩ := hrel
    by_cases hc : i < n
    · obtain ⟨t, ht⟩ : ∃ t, ts[i]? = some t := ⟨ts[i]'(by rw [HN.out]; exact hc), by rw [List.getElem?_eq_getElem]⟩
      have h1 := HC1.out i t ht
      have h2 := HC2.out i t ht
      obtain ⟨S, hS⟩ : ∃ S : ByteArray, Hid (S = ⟨t.text.toArray⟩) := ⟨_, (rfl : (⟨t.text.toArray⟩ : ByteArray) = _)⟩
      rw [← hS.out] at h1 h2
      go_wp2_with fail
      go_quiet (fail)
      go_wp2
      go_roundw
      case rel => exact ⟨i + 1, by go_num, by omega, _, rfl⟩
      case measure => simp [intOf]; omega
    · go_wp2
      go_ret
      exact ⟨rfl, ⟨hB3.os, hB3.tape, hB3.output, hB3.size, hB3.block⟩⟩

end Go.Proofs.YtinofdmdfhklpaaDoor
