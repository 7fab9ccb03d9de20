/- clock's small functions: isPlace, what is strange about an event, refused. -/
import Derived.Test.YtjedkfohmedmaaaCpE
namespace Go.Proofs.Ytjedkfohmedmaaa
open Go.RowKit
set_option linter.unusedVariables false
attribute [local go_sem ↓] Go.wp_at_zero Go.wp_at_succ

def plc (z m : Int) : Bool := decide (0 ≤ z) && decide (z < m)

set_option maxRecDepth 100000 in
theorem isPlace_any (z m : Int) (w : World) : Calls Try.prog 33 #[.int .i64 z, .int .i64 m] w fun r w' => r = .returned (.bool (plc z m)) ∧ w' = w := by
  by_cases h : 0 ≤ z
  · by_cases h2 : z < m
    · have e : plc z m = true := by simp [plc, h, h2]
      rw [e]
      go_enter Try.func33, Try.ntmps33
      go_wp2
      go_ret
      exact ⟨rfl, rfl⟩
    · have e : plc z m = false := by simp [plc, h2]
      rw [e]
      go_enter Try.func33, Try.ntmps33
      go_wp2
      go_ret
      exact ⟨rfl, rfl⟩
  · have e : plc z m = false := by simp [plc, h]
    rw [e]
    go_enter Try.func33, Try.ntmps33
    go_wp2
    go_ret
    exact ⟨rfl, rfl⟩

theorem badEv_plc (n : Int) (e : Ev) : badEv n e = !plc e.th n := by
  unfold badEv plc
  by_cases h : e.th < 0
  · simp [h]
  · by_cases h2 : n ≤ e.th
    · simp [h, h2]
    · simp [h, h2]; omega

set_option maxRecDepth 100000 in
theorem strange_any (e : Ev) (n : Int) (g : Nat) (w : World) (hn : w.cell? ⟨g, 0, none⟩ = some (.int .i64 n)) :
    Calls Try.prog 43 #[.agg e.cells.toArray, .pointer (some ⟨g, 0, none⟩)] w fun r w' => r = .returned (.bool (badEv n e)) ∧ Below w.heap.size w w' := by
  rw [badEv_plc]
  obtain ⟨S, hS⟩ : ∃ S, S = plc e.th n := ⟨_, rfl⟩
  have HP := fun u => isPlace_any e.th n u
  rw [← hS] at HP ⊢
  clear hS
  obtain ⟨t, k, o⟩ := e
  simp only [Ev.cells] at HP ⊢
  have hb : Below w.heap.size w (w.alloc (.cells #[.int .i64 t, .int .i64 k, .int .i64 o] 25)) := (Below.refl _ w).alloc (Nat.le_refl _) _
  have hn2 := (hb.cell (lt_of_cell hn)).trans hn
  go_enter Try.func43, Try.ntmps43
  go_wp2_with (go_at_call 33; refine (HP _).mono ?_; rintro e w2 ⟨rfl, rfl⟩)
  go_ret
  exact ⟨rfl, hb⟩

/-- The closure that asks whether an event is strange. -/
def fnStr (g : Nat) : Value := .func (.func 43) #[] #[.pointer (some ⟨g, 0, none⟩)]

set_option maxRecDepth 100000 in
set_option maxHeartbeats 1600000 in
theorem indexEv_any (es : List Ev) (n : Int) (g : Nat) (a : Option Addr) (c : Nat) (w : World) (hn : w.cell? ⟨g, 0, none⟩ = some (.int .i64 n)) (h : RowEv w a es) (hl : es.length ≤ 4611686018427387904) (hk : es.length ≤ c) :
    Calls Try.prog 48 #[.slice a es.length c, fnStr g] w fun r w' => ∃ z : Int, r = .returned (.int .i64 z) ∧ decide (0 ≤ z) = es.any (badEv n) ∧ Below w.heap.size w w' := by
  obtain ⟨R, hR⟩ : ∃ R, Hid (R = es.any (badEv n)) := ⟨_, (rfl : _ = List.any _ _)⟩
  rw [← hR.out]
  obtain ⟨m, hm⟩ : ∃ n, Hid (n = es.length) := ⟨_, (rfl : es.length = _)⟩
  rw [← hm.out] at hl hk ⊢
  have HR : Hid (RowEv w a es) := h
  have HN : Hid (w.cell? ⟨g, 0, none⟩ = some (.int .i64 n)) := hn
  clear h hn
  unfold fnStr
  go_enter Try.func48, Try.ntmps48
  go_wp2_with fail
  go_loopw [8] (fun j wr => ∃ i : Nat, j = .int .i64 (i : Int) ∧ i ≤ m ∧ Hid (Below w.heap.size w wr) ∧ Hid (∀ (q : Nat) (e : Ev), q < i → es[q]? = some e → badEv n e = false)) (fun j _ => m - (intOf j).toNat)
  case atStart => exact ⟨0, rfl, by omega, Below.refl _ _, fun q e hq => by omega⟩
  case round =>
    obtain ⟨i, rfl, hi, hbw, hX⟩ := hrel
    by_cases hc : i < m
    · obtain ⟨e, he⟩ : ∃ k, es[i]? = some k := ⟨es[i]'(by rw [← hm.out]; exact hc), by rw [List.getElem?_eq_getElem]⟩
      obtain ⟨g1, o1, rfl, hr⟩ := (HR.out.below hbw.out).at i e he
      obtain ⟨q1, q2, q3⟩ := range_cells hr
      have HE : Hid (es[i]? = some e) := he
      have HC := strange_any e n g wr ((hbw.out.cell (lt_of_cell HN.out)).trans HN.out)
      obtain ⟨S, hS⟩ : ∃ S, Hid (S = badEv n e) := ⟨_, (rfl : _ = badEv _ _)⟩
      rw [← hS.out] at HC
      clear he hr
      obtain ⟨t, k, o⟩ := e
      dsimp only at q1 q2 q3
      simp only [Ev.cells] at HC
      go_wp2_with (go_at_call 43; refine HC.mono ?_; rintro e w2 ⟨rfl, hbel2⟩; have hB2 : Hid (Below w.heap.size w w2) := hbw.out.trans (hbel2.mono hbw.out.size); clear hbel2 q1 q2 q3 HC hbw; cases S)
      · go_roundw
        case rel =>
          refine ⟨i + 1, by go_num, by omega, hB2.out, fun q x hq hx => ?_⟩
          by_cases hqi : q = i
          · subst hqi
            rw [HE.out] at hx
            cases hx
            exact hS.out.symm
          · exact hX.out q x (by omega) hx
        case measure => simp [intOf]; omega
      · have hRt : R = true := by rw [hR.out]; exact List.any_eq_true.2 ⟨_, List.mem_of_getElem? HE.out, hS.out.symm⟩
        go_ret
        exact ⟨i, rfl, by rw [hRt]; simp, hB2.out⟩
    · have hRf : R = false := by
        rw [hR.out, Bool.eq_false_iff]
        intro hb
        obtain ⟨e, he, hb⟩ := List.any_eq_true.1 hb
        obtain ⟨q, hq⟩ := List.getElem?_of_mem he
        have := (List.getElem?_eq_some_iff.1 hq).1
        rw [← hm.out] at this
        rw [hX.out q e (by omega) hq] at hb
        cases hb
      clear hX
      go_wp2
      go_ret
      exact ⟨-1, rfl, by rw [hRf]; rfl, hbw.out⟩

set_option maxRecDepth 100000 in
theorem anyEv_any (es : List Ev) (n : Int) (g : Nat) (a : Option Addr) (c : Nat) (w : World) (hn : w.cell? ⟨g, 0, none⟩ = some (.int .i64 n)) (h : RowEv w a es) (hl : es.length ≤ 4611686018427387904) (hk : es.length ≤ c) :
    Calls Try.prog 44 #[.slice a es.length c, fnStr g] w fun r w' => r = .returned (.bool (es.any (badEv n))) ∧ Below w.heap.size w w' := by
  have HC := indexEv_any es n g a c w hn h hl hk
  obtain ⟨R, hR⟩ : ∃ R, R = es.any (badEv n) := ⟨_, rfl⟩
  obtain ⟨m, hm⟩ : ∃ n, n = es.length := ⟨_, rfl⟩
  rw [← hR, ← hm] at HC
  rw [← hR, ← hm]
  unfold fnStr at *
  clear hn h hl hk hR hm
  go_enter Try.func44, Try.ntmps44
  go_wp2_with (go_at_call 48; refine HC.mono ?_; rintro e w2 ⟨z, rfl, hz, hbel⟩)
  go_ret
  exact ⟨by simp, hbel⟩
end Go.Proofs.Ytjedkfohmedmaaa
