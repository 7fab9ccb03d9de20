/- The law's own Same, at rows of the same tokens. -/
import Derived.Test.YtinofdmdfhklpaaDoorLex
namespace Go.Proofs.YtinofdmdfhklpaaDoor
open Go.RowKit
set_option linter.unusedVariables false

theorem run_eq34 (t : Tk) (u : World) : (Op.equalIn 10000 34 (.agg t.cells.toArray) (.agg t.cells.toArray)).run Tryd.prog u = .ok true u := by
  unfold Tk.cells
  go_simp

set_option maxRecDepth 100000 in
set_option maxHeartbeats 800000 in
theorem same_eq (w : World) (g1 c1 g2 c2 : Nat) (ts : List Tk) (hlen : ts.length ≤ 1048576) (h1 : ∀ i t, ts[i]? = some t → w.rangeAt g1 (i * 5) t.cells) (h2 : ∀ i t, ts[i]? = some t → w.rangeAt g2 (i * 5) t.cells) :
    Calls Tryd.prog 8 #[.slice (some ⟨g1, 0, none⟩) ts.length c1, .slice (some ⟨g2, 0, none⟩) ts.length c2] w fun e w' => e = .returned (.bool true) ∧ ∃ q, w' = w.drewN q := by
  obtain ⟨n, hn⟩ : ∃ n, Hid (n = ts.length) := ⟨_, (rfl : ts.length = _)⟩
  rw [← hn.out] at hlen ⊢
  have H1 : Hid (∀ i t, ts[i]? = some t → w.rangeAt g1 (i * 5) t.cells) := h1
  have H2 : Hid (∀ i t, ts[i]? = some t → w.rangeAt g2 (i * 5) t.cells) := h2
  clear h1 h2
  go_enter Tryd.func8, Tryd.ntmps8
  go_wp2
  go_loopw [5] (fun j wr => ∃ i : Nat, j = .int .i64 (i : Int) ∧ i ≤ n ∧ ∃ q, wr = w.drewN q) (fun j _ => n - (intOf j).toNat)
  case atStart => exact ⟨0, rfl, by omega, 0, rfl⟩
  case round =>
    obtain ⟨i, rfl, hi, q, rfl⟩ := hrel
    by_cases hc : i < n
    · obtain ⟨t, ht⟩ : ∃ t, ts[i]? = some t := ⟨ts[i]'(by rw [← hn.out]; exact hc), by rw [List.getElem?_eq_getElem]⟩
      have hS : (w.drewN q).drew.rangeAt g1 (i * 5) t.cells ∧ (w.drewN q).drew.rangeAt g2 (i * 5) t.cells ∧ ∃ q', (w.drewN q).drew = w.drewN q' := ⟨H1.out i t ht, H2.out i t ht, q + 1, rfl⟩
      have hq := run_eq34 t
      go_wp2_with fail
      refine wp_region_held_drew (S := fun w' => w'.rangeAt g1 (i * 5) t.cells ∧ w'.rangeAt g2 (i * 5) t.cells ∧ ∃ q', w' = w.drewN q') (by kernel_rfl) hS (fun _ => ?_)
      refine wpAnyH_take (i := 0) (oi := { dst := some 17, op := .move (.tmp 0), type := _, pos := _, after := _, guard := none }) (v := .slice (some ⟨g1, 0, none⟩) n c1) rfl (by kernel_rfl) (by kernel_rfl) (by kernel_rfl) (fun _ _ _ h => h) (Or.inl ⟨by rfl, ?_⟩) hS ?_
      · intro w hSw
        go_simp
      simp only [Act.put, List.setIfInBounds_toArray, List.set_cons_zero, List.set_cons_succ]
      refine wpAnyH_take (i := 1) (oi := { dst := some 18, op := .move (.tmp 5), type := _, pos := _, after := _, guard := none }) (v := .int .i64 (i : Int)) rfl (by kernel_rfl) (by kernel_rfl) (by kernel_rfl) (fun _ _ _ h => h) (Or.inl ⟨by rfl, ?_⟩) hS ?_
      · intro w hSw
        go_simp
      simp only [Act.put, List.setIfInBounds_toArray, List.set_cons_zero, List.set_cons_succ]
      refine wpAnyH_take (i := 2) (oi := { dst := some 19, op := .indexAddr 22 (.tmp 17) (.tmp 18), type := _, pos := _, after := _, guard := none }) (v := .pointer (some ⟨g1, i * 5, none⟩)) rfl (by kernel_rfl) (by kernel_rfl) (by kernel_rfl) (fun _ _ _ h => h) (Or.inl ⟨by rfl, ?_⟩) hS ?_
      · intro w hSw
        go_simp
      simp only [Act.put, List.setIfInBounds_toArray, List.set_cons_zero, List.set_cons_succ]
      refine wpAnyH_take (i := 3) (oi := { dst := some 20, op := .load 34 (.tmp 19), type := _, pos := _, after := _, guard := none }) rfl (by kernel_rfl) (by kernel_rfl) (by kernel_rfl) (fun _ _ _ h => h) (yieldsIf_load_mid (by rfl) 34 (.tmp 19) rfl g1 (i * 5) rfl t.cells _ (fun w hSw => hSw.1) Tryd.underlying34 rfl i34) hS ?_
      simp only [Act.put, List.setIfInBounds_toArray, List.set_cons_zero, List.set_cons_succ]
      refine wpAnyH_take (i := 4) (oi := { dst := some 21, op := .move (.tmp 1), type := _, pos := _, after := _, guard := none }) (v := .slice (some ⟨g2, 0, none⟩) n c2) rfl (by kernel_rfl) (by kernel_rfl) (by kernel_rfl) (fun _ _ _ h => h) (Or.inl ⟨by rfl, ?_⟩) hS ?_
      · intro w hSw
        go_simp
      simp only [Act.put, List.setIfInBounds_toArray, List.set_cons_zero, List.set_cons_succ]
      refine wpAnyH_take (i := 5) (oi := { dst := some 22, op := .move (.tmp 5), type := _, pos := _, after := _, guard := none }) (v := .int .i64 (i : Int)) rfl (by kernel_rfl) (by kernel_rfl) (by kernel_rfl) (fun _ _ _ h => h) (Or.inl ⟨by rfl, ?_⟩) hS ?_
      · intro w hSw
        go_simp
      simp only [Act.put, List.setIfInBounds_toArray, List.set_cons_zero, List.set_cons_succ]
      refine wpAnyH_take (i := 6) (oi := { dst := some 23, op := .indexAddr 22 (.tmp 21) (.tmp 22), type := _, pos := _, after := _, guard := none }) (v := .pointer (some ⟨g2, i * 5, none⟩)) rfl (by kernel_rfl) (by kernel_rfl) (by kernel_rfl) (fun _ _ _ h => h) (Or.inl ⟨by rfl, ?_⟩) hS ?_
      · intro w hSw
        go_simp
      simp only [Act.put, List.setIfInBounds_toArray, List.set_cons_zero, List.set_cons_succ]
      refine wpAnyH_take (i := 7) (oi := { dst := some 24, op := .load 34 (.tmp 23), type := _, pos := _, after := _, guard := none }) rfl (by kernel_rfl) (by kernel_rfl) (by kernel_rfl) (fun _ _ _ h => h) (yieldsIf_load_mid (by rfl) 34 (.tmp 23) rfl g2 (i * 5) rfl t.cells _ (fun w hSw => hSw.2.1) Tryd.underlying34 rfl i34) hS ?_
      simp only [Act.put, List.setIfInBounds_toArray, List.set_cons_zero, List.set_cons_succ]
      refine wpAnyH_take (i := 8) (oi := { dst := some 25, op := .binOp .neq 34 (.tmp 20) (.tmp 24) 34, type := _, pos := _, after := _, guard := none }) (v := .bool false) rfl (by kernel_rfl) (by kernel_rfl) (by kernel_rfl) (fun _ _ _ h => h) (Or.inl ⟨by rfl, ?_⟩) hS ?_
      · intro w hSw
        go_simp
      simp only [Act.put, List.setIfInBounds_toArray, List.set_cons_zero, List.set_cons_succ]
      refine wpAnyH_done (by kernel_rfl) ?_ _
      go_wp2
      go_roundw
      case rel => exact ⟨i + 1, by go_num, by omega, q + 1, rfl⟩
      case measure => simp [intOf]; omega
    · go_wp2
      go_ret
      exact ⟨rfl, q, rfl⟩

theorem same_none (w : World) (a1 a2 : Option Addr) (c1 c2 : Nat) : Calls Tryd.prog 8 #[.slice a1 0 c1, .slice a2 0 c2] w fun e w' => e = .returned (.bool true) ∧ ∃ q, w' = w.drewN q := by
  go_enter Tryd.func8, Tryd.ntmps8
  go_wp2
  go_loopw [5] (fun j wr => j = .int .i64 0 ∧ ∃ q, wr = w.drewN q) (fun _ _ => 0)
  case atStart => exact ⟨rfl, 0, rfl⟩
  case round =>
    obtain ⟨rfl, q, rfl⟩ := hrel
    go_wp2
    go_ret
    exact ⟨rfl, q, rfl⟩

/-- Rows of the same tokens are the same. -/
theorem same_toks {b1 b2 : Nat} {w : World} {v1 v2 : Value} {ts : List Tk} (h1 : Toks b1 w v1 ts) (h2 : Toks b2 w v2 ts) (hlen : ts.length ≤ 1048576) :
    Calls Tryd.prog 8 #[v1, v2] w fun e w' => e = .returned (.bool true) ∧ ∃ q, w' = w.drewN q := by
  rcases h1.open with ⟨rfl, rfl⟩ | ⟨g1, c1, rfl, _, _, _, _, hr1, _⟩
  · rcases h2.open with ⟨rfl, _⟩ | ⟨g2, c2, rfl, _⟩
    · exact same_none w _ _ _ _
    · exact same_none w _ _ _ _
  · rcases h2.open with ⟨rfl, rfl⟩ | ⟨g2, c2, rfl, _, _, _, _, hr2, _⟩
    · exact same_none w _ _ _ _
    · exact same_eq w g1 c1 g2 c2 ts hlen hr1 hr2

end Go.Proofs.YtinofdmdfhklpaaDoor
