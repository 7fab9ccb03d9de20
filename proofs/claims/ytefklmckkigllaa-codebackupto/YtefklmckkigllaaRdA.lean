/- The reader: numbers, values. -/
import Derived.Test.YtefklmckkigllaaWrF
import Derived.Test.YtefklmckkigllaaNumber
namespace Go.Proofs.Ytefklmckkigllaa
open Go.RowKit
set_option linter.unusedVariables false

/-- What a reader has ahead, and whether it is bad. -/
abbrev St := List UInt8 × Bool

/-- A reader in memory. -/
structure RrAt (B : Nat) (w : World) (g : Nat) (a : Option Addr) (c : Nat) (st : St) : Prop where
  cell : At 69 w g [.slice a st.1.length c, .bool st.2]
  row : st.1 = [] ∨ ∃ b off, a = some ⟨b, off, none⟩ ∧ b < B ∧ b ≠ g ∧ ∀ j, j < st.1.length → w.cell? ⟨b, off + j, none⟩ = some (.int .u8 ((st.1.getD j 0).toNat : Int))
  cap : st.1.length ≤ c
  low : g < B
  len : st.1.length ≤ 1099511627776
def Rr (B : Nat) (w : World) (g : Nat) (st : St) : Prop := ∃ a c, RrAt B w g a c st
theorem RrAt.keep {B : Nat} {w w' : World} {g : Nat} {a : Option Addr} {c : Nat} {st : St} (h : RrAt B w g a c st) (hk : ∀ k, k < w.heap.size → k < B → w'.heap[k]? = w.heap[k]?) : RrAt B w' g a c st := by
  refine ⟨?_, ?_, h.cap, h.low, h.len⟩
  · unfold At
    rw [hk g h.cell.lt h.low]
    exact h.cell
  · rcases h.row with q | ⟨b, off, ha, hb, hn, hc⟩
    · exact .inl q
    · exact .inr ⟨b, off, ha, hb, hn, fun j hj => by
        rw [World.cell?_of_block (w := w) (hk b (lt_of_cell (hc j hj)) hb)]
        exact hc j hj⟩
theorem Rr.keep {B : Nat} {w w' : World} {g : Nat} {st : St} (h : Rr B w g st) (hk : ∀ k, k < w.heap.size → k < B → w'.heap[k]? = w.heap[k]?) : Rr B w' g st := by
  obtain ⟨a, c, h⟩ := h
  exact ⟨a, c, h.keep hk⟩
theorem Rr.below {B : Nat} {w w' : World} {g : Nat} {st : St} (h : Rr B w g st) (hb : Below w.heap.size w w') : Rr B w' g st := h.keep fun k hk _ => hb.block k hk
theorem Rr.but {B k : Nat} {w w' : World} {g : Nat} {st : St} (h : Rr B w g st) (hb : But k w w') (hB : B ≤ k) : Rr B w' g st := h.keep fun j hj hl => hb.block j hj (by omega)
theorem Rr.lt {B : Nat} {w : World} {g : Nat} {st : St} (h : Rr B w g st) : g < w.heap.size := by
  obtain ⟨a, c, h⟩ := h
  exact h.cell.lt
theorem Rr.low {B : Nat} {w : World} {g : Nat} {st : St} (h : Rr B w g st) : g < B := by
  obtain ⟨a, c, h⟩ := h
  exact h.low
/-- What is laid behind the blocks that were there changes nothing of these. -/
theorem But.fresh {g b : Nat} {w w5 w6 : World} (h : But g w w5) (h2 : But b w5 w6) (hb : w.heap.size ≤ b) : But g w w6 :=
  ⟨h2.os.trans h.os, h2.tape.trans h.tape, h2.output.trans h.output, Nat.le_trans h.size h2.size, fun k hk hn => by rw [h2.block k (Nat.lt_of_lt_of_le hk h.size) (by omega), h.block k hk hn]⟩

/-- A number of so many bytes. -/
def numR (s : Nat) (st : St) : Nat × St := if st.2 = true ∨ st.1.length < s then (0, (st.1, true)) else (number (st.1.take s), (st.1.drop s, st.2))

theorem numR_lt (s : Nat) (st : St) : (numR s st).1 < 256 ^ s := by
  unfold numR
  split
  · exact Nat.pow_pos (by decide)
  · next h =>
    have := number_lt (st.1.take s)
    rw [List.length_take, Nat.min_eq_left (by omega)] at this
    exact this
theorem size5' (w : World) : (sizeOf 5).run Try.prog w = .ok 1 w := by kernel_rfl
/-- Where the rest of a slice begins. -/
def dropA (a : Option Addr) (cap h : Nat) : Option Addr := if cap = h then a else a.map (·.add h)
theorem dropA_at {b off cap h : Nat} (hc : cap ≠ h) : dropA (some ⟨b, off, none⟩) cap h = some ⟨b, off + h, none⟩ := by
  unfold dropA
  rw [if_neg hc, Option.map_some, Addr.add_mid]
theorem run_slice_from (w : World) (a : Option Addr) (len cap h : Nat) (x : Int) (hx : x = (h : Int)) (hh : h ≤ len) :
    (Instr.slice 42 (.slice a len cap) (some (.int .i64 x)) none none).run Try.prog w = .ok (.slice (dropA a cap h) (len - h) (cap - h)) w := by
  subst hx
  have he : Try.prog.elem 42 = 5 := by simp [Program.elem, Try.underlying42]
  have hr := run_slice_l (P := Try.prog) w 42 a len cap (by rw [he]; exact Try.underlying42) .i64 (h : Int) (by omega) (by omega)
  rw [he, size5'] at hr
  simp only [Result.andThen, Int.toNat_natCast] at hr
  rw [hr]
  unfold sliced dropA
  rw [Nat.mul_one]

set_option maxRecDepth 100000 in
set_option maxHeartbeats 3200000 in
theorem numR_any {B : Nat} (g : Nat) (st : St) (s : Nat) (h1 : 1 ≤ s) (h8 : s ≤ 8) (w : World) (h : Rr B w g st) :
    Calls Try.prog 63 #[.pointer (some ⟨g, 0, none⟩), .int .i64 (s : Int)] w fun e w' => e = .returned (.int .u64 ((numR s st).1 : Int)) ∧ Rr B w' g (numR s st).2 ∧ But g w w' := by
  obtain ⟨a, c, h⟩ := h
  obtain ⟨rest, bad⟩ := st
  have hcell := h.cell
  have hcap := h.cap
  have hlow := h.low
  have hlen := h.len
  have hrow := h.row
  dsimp only at hcell hcap hlen hrow
  clear h
  have q0 : w.cell? ⟨g, 0, none⟩ = some (.slice a rest.length c) := by rw [hcell.cell]; rfl
  have q1 : w.cell? ⟨g, 1, none⟩ = some (.bool bad) := by rw [hcell.cell]; rfl
  obtain ⟨n, hn⟩ : ∃ n, Hid (n = rest.length) := ⟨_, (rfl : rest.length = _)⟩
  have HC : Hid (At 69 w g [.slice a n c, .bool bad]) := by rw [hn.out]; exact hcell
  have hBad : Hid (∀ w', At 69 w' g [.slice a n c, .bool true] → But g w w' → Rr B w' g (rest, true)) := fun w' hA hb => by
    rw [hn.out] at hA
    refine ⟨a, c, hA, ?_, hcap, hlow, hlen⟩
    rcases hrow with q | ⟨b, off, ha, hbB, hne, hc⟩
    · exact .inl q
    · exact .inr ⟨b, off, ha, hbB, hne, fun j hj => by
        rw [World.cell?_of_block (w := w) (hb.block b (lt_of_cell (hc j hj)) hne)]
        exact hc j hj⟩
  rw [← hn.out] at q0
  cases bad with
  | true =>
    have e : numR s (rest, true) = (0, (rest, true)) := by unfold numR; rw [if_pos (.inl rfl)]
    rw [e]
    clear e hcell hrow
    go_enter Try.func63, Try.ntmps63
    go_wp2_with (first
      | ((with_reducible show wpList _ _ _ _ _ _); refine wpList_store_one (P := Try.prog) rfl 4 (.tmp 22) (.const (.bool true)) rfl g 1 (.bool true) rfl rfl 69 _ HC.out (show 1 + 1 ≤ 2 by decide) (by kernel_rfl) rfl rfl ?_; intro w3 hA3 hb3 hs3; clear hs3; refine Hid.out ?_))
    refine hidU ?_
    have hR := hBad.out w3 hA3 hb3
    clear hA3 hBad HC q0 q1
    go_wp2
    go_ret
    exact ⟨rfl, hR, hb3⟩
  | false =>
    by_cases hs : n < s
    · have e : numR s (rest, false) = (0, (rest, true)) := by unfold numR; rw [if_pos (.inr (by rw [← hn.out]; exact hs))]
      rw [e]
      have hs' : decide ((n : Int) < (s : Int)) = true := decide_eq_true (by omega)
      clear e hcell hrow
      go_enter Try.func63, Try.ntmps63
      go_wp2_with (first
        | ((with_reducible show wpList _ _ _ _ _ _); refine wpList_store_one (P := Try.prog) rfl 4 (.tmp 22) (.const (.bool true)) rfl g 1 (.bool true) rfl rfl 69 _ HC.out (show 1 + 1 ≤ 2 by decide) (by kernel_rfl) rfl rfl ?_; intro w3 hA3 hb3 hs3; clear hs3; refine Hid.out ?_))
      refine hidU ?_
      have hR := hBad.out w3 hA3 hb3
      clear hA3 hBad HC q0 q1
      go_wp2
      go_ret
      exact ⟨rfl, hR, hb3⟩
    · have hs' : decide ((n : Int) < (s : Int)) = false := decide_eq_false (by omega)
      have e : numR s (rest, false) = (number (rest.take s), (rest.drop s, false)) := by
        unfold numR
        rw [if_neg]
        rintro (q | q)
        · cases q
        · rw [← hn.out] at q; exact hs q
      rw [e]
      obtain ⟨b, off, rfl, hbB, hne, hc⟩ : ∃ b off, a = some ⟨b, off, none⟩ ∧ b < B ∧ b ≠ g ∧ ∀ j, j < rest.length → w.cell? ⟨b, off + j, none⟩ = some (.int .u8 ((rest.getD j 0).toNat : Int)) := by
        rcases hrow with q | q
        · rw [hn.out, q] at hs; simp at hs; omega
        · exact q
      have hRow : Row w (some ⟨b, off, none⟩) (rest.take s) := .inr ⟨b, off, rfl, fun j hj => by
        rw [List.length_take] at hj
        rw [hc j (by omega)]
        simp [List.getD, show j < s by omega]⟩
      have hNum := number_ok (some ⟨b, off, none⟩) c (rest.take s) w hRow (by rw [List.length_take, ← hn.out]; omega) (by rw [List.length_take]; omega)
      rw [show (rest.take s).length = s by rw [List.length_take, ← hn.out]; omega] at hNum
      have hsl := fun u => run_slice_to u (some ⟨b, off, none⟩) n c s (s : Int) rfl (by rw [← hn.out] at hcap; omega)
      have hsf := fun u => run_slice_from u (some ⟨b, off, none⟩) n c s (s : Int) rfl (by omega)
      have ha' : n - s = 0 ∨ dropA (some ⟨b, off, none⟩) c s = some ⟨b, off + s, none⟩ := by
        by_cases hz : n - s = 0
        · exact .inl hz
        · exact .inr (dropA_at (by rw [← hn.out] at hcap; omega))
      generalize dropA (some ⟨b, off, none⟩) c s = a' at hsf ha'
      have hGood : Hid (∀ w', At 69 w' g [.slice a' (n - s) (c - s), .bool false] → But g w w' → Rr B w' g (rest.drop s, false)) := fun w' hA hb => by
        refine ⟨a', c - s, ?_, ?_, ?_, hlow, ?_⟩
        · show At 69 w' g [.slice a' (rest.drop s).length (c - s), .bool false]
          rw [List.length_drop, ← hn.out]
          exact hA
        · rcases ha' with q | q
          · left
            apply List.eq_nil_of_length_eq_zero
            rw [List.length_drop, ← hn.out]
            exact q
          · refine .inr ⟨b, off + s, q, hbB, hne, fun j hj => ?_⟩
            have hj : j < (rest.drop s).length := hj
            rw [List.length_drop] at hj
            have hcj := hc (s + j) (by omega)
            rw [World.cell?_of_block (w := w) (hb.block b (lt_of_cell hcj) hne)]
            rw [show off + s + j = off + (s + j) by omega, hcj]
            simp [List.getD, List.getElem?_drop]
        · show (rest.drop s).length ≤ c - s
          rw [List.length_drop]
          omega
        · show (rest.drop s).length ≤ 1099511627776
          rw [List.length_drop]
          omega
      generalize number (rest.take s) = N at *
      clear e hcell hrow hRow hc ha' hBad
      go_enter Try.func63, Try.ntmps63
      go_wp2_with (first
        | (go_at_call 78; refine hNum.mono ?_; rintro _ w2 ⟨rfl, rfl⟩)
        | ((with_reducible show wpList _ _ _ _ _ _); refine wpList_store_one (P := Try.prog) rfl 42 (.tmp 41) (.tmp 39) rfl g 0 (.slice a' (n - s) (c - s)) rfl rfl 69 _ HC.out (show 0 + 1 ≤ 2 by decide) i42 rfl rfl ?_; intro w3 hA3 hb3 hs3; clear hs3; refine Hid.out ?_))
      refine hidU ?_
      have hR := hGood.out w3 hA3 hb3
      clear hA3 hGood HC q0 q1 hsl hsf hNum
      go_wp2
      go_ret
      exact ⟨rfl, hR, hb3⟩
end Go.Proofs.Ytefklmckkigllaa
