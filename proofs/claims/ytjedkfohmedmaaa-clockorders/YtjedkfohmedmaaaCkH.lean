/- clock.clocksOf: clocks with one memory behind them. -/
import Derived.Test.YtjedkfohmedmaaaCkG
import Derived.Test.YtjedkfohmedmaaaClF
namespace Go.Proofs.Ytjedkfohmedmaaa
open Go.RowKit
set_option linter.unusedVariables false
attribute [local go_sem ↓] Go.wp_at_zero Go.wp_at_succ

/-- 'b[:h]' of any row. -/
theorem run_slice_pre (t e sz : Nat) (hu : Try.prog.underlying t = some (.slice e)) (hs : ∀ w, (sizeOf e).run Try.prog w = .ok sz w) (w : World) (a : Option Addr) (len cap h : Nat) (x : Int) (hx : x = (h : Int)) (hh : h ≤ cap) :
    (Instr.slice t (.slice a len cap) none (some (.int .i64 x)) none).run Try.prog w = .ok (.slice a h cap) w := by
  have he : Try.prog.elem t = e := by simp [Program.elem, hu]
  rw [run_slice_h w t a len cap (by rw [he]; exact hu) .i64 x (by omega) (by omega), he, hs]
  have hz : ∀ p : Addr, p.add 0 = p := fun p => by cases p; simp [Addr.add]
  have hm : a.map (fun p => p.add 0) = a := by cases a <;> simp [hz]
  simp only [Result.andThen, sliced, Nat.zero_mul, hm, Nat.sub_zero]
  rw [show x.toNat = h by omega]
  simp
theorem size26 (w : World) : (sizeOf 26).run Try.prog w = .ok 1 w := by kernel_rfl
theorem runII_slice_to (w : World) (a : Option Addr) (len cap h : Nat) (x : Int) (hx : x = (h : Int)) (hh : h ≤ cap) : (Instr.slice 23 (.slice a len cap) none (some (.int .i64 x)) none).run Try.prog w = .ok (.slice a h cap) w :=
  run_slice_pre 23 26 1 Try.underlying23 size26 w a len cap h x hx hh

/-- A memory that holds clocks of n numbers each, one behind the other. -/
def Mem (w : World) (M n : Nat) (zss : List (List Int)) : Prop := ∃ cs, BlkI w M cs ∧ ∀ i zs, zss[i]? = some zs → ∀ t z, zs[t]? = some z → cs[i * n + t]? = some (.int .i64 z)
section
variable {w w' : World} {M n : Nat} {zss : List (List Int)}
theorem Mem.wr (h : Mem w M n zss) {i : Nat} {zs : List Int} (hi : zss[i]? = some zs) : WrI w M (i * n) zs := by
  obtain ⟨cs, h1, h2⟩ := h
  exact ⟨cs, h1, fun k z hz => h2 i zs hi k z hz⟩
theorem Mem.lt (h : Mem w M n zss) : M < w.heap.size := by
  obtain ⟨cs, h1, h2⟩ := h
  exact h1.lt
theorem Mem.below (h : Mem w M n zss) (hb : Below w.heap.size w w') : Mem w' M n zss := by
  obtain ⟨cs, h1, h2⟩ := h
  exact ⟨cs, h1.below hb, h2⟩
theorem mul_out {i k n t : Nat} (hik : i ≠ k) (ht : t < n) : i * n + t < k * n ∨ k * n + n ≤ i * n + t := by
  rcases Nat.lt_or_ge i k with h | h
  · left
    have := Nat.mul_le_mul_right n (show i + 1 ≤ k from h)
    rw [Nat.succ_mul] at this
    omega
  · right
    have := Nat.mul_le_mul_right n (show k + 1 ≤ i by omega)
    rw [Nat.succ_mul] at this
    omega
theorem Mem.fill (h : Mem w M n zss) (hl : ∀ zs ∈ zss, zs.length = n) {k : Nat} {new : List Int} (hW : WrI w' M (k * n) new) (hO : Ovr M (k * n) (k * n + n) w w') (hk : k < zss.length) : Mem w' M n (zss.set k new) := by
  obtain ⟨cs, h1, h2⟩ := h
  obtain ⟨cs', h3, h4⟩ := hW
  refine ⟨cs', h3, fun i zs hi t z hz => ?_⟩
  by_cases hik : i = k
  · subst hik
    rw [List.getElem?_set_self hk] at hi
    cases hi
    exact h4 t z hz
  · rw [List.getElem?_set_ne (fun e => hik e.symm)] at hi
    have ht : t < n := by
      have := (List.getElem?_eq_some_iff.1 hz).1
      rwa [hl zs (List.mem_of_getElem? hi)] at this
    rw [← h3.cell, hO.cell _ (mul_out hik ht), h1.cell]
    exact h2 i zs hi t z hz
end
/-- Clocks with one memory behind them, cut, in blocks of the call's own. -/
structure ClkAt (base : Nat) (w : World) (G M n : Nat) (zss : List (List Int)) : Prop where
  heads : At 26 w G (cutV M n zss.length)
  mem : Mem w M n zss
  lens : ∀ zs ∈ zss, zs.length = n
  bm : base ≤ M
  bg : base ≤ G
  ne : G ≠ M
theorem ClkAt.row {base : Nat} {w : World} {G M n : Nat} {zss : List (List Int)} (h : ClkAt base w G M n zss) (hn : n ≤ 4611686018427387904) : RowII w (some ⟨G, 0, none⟩) zss := by
  refine .inr ⟨G, 0, rfl, fun i zs hz => ?_⟩
  have hi := (List.getElem?_eq_some_iff.1 hz).1
  have hl := h.lens zs (List.mem_of_getElem? hz)
  refine ⟨some ⟨M, i * n, none⟩, n, ?_, (h.mem.wr hz).row, by omega, by omega⟩
  rw [Nat.zero_add, h.heads.cell, cutV_at hi, hl]
theorem ClkAt.below {base : Nat} {w w' : World} {G M n : Nat} {zss : List (List Int)} (h : ClkAt base w G M n zss) (hb : Below w.heap.size w w') : ClkAt base w' G M n zss :=
  ⟨h.heads.below hb, h.mem.below hb, h.lens, h.bm, h.bg, h.ne⟩
/-- The first k clocks, behind them noughts. -/
def zsK (ev : Nat → Ev) (n m k : Nat) : List (List Int) := (List.range m).map fun i => if i < k then clkL ev n i else List.replicate n 0
theorem zsK_length (ev : Nat → Ev) (n m k : Nat) : (zsK ev n m k).length = m := by simp [zsK]
theorem zsK_lens (ev : Nat → Ev) (n m k : Nat) : ∀ zs ∈ zsK ev n m k, zs.length = n := by
  intro zs hz
  obtain ⟨i, _, rfl⟩ := List.mem_map.1 hz
  split
  · exact clkL_length ..
  · simp
theorem zsK_at {ev : Nat → Ev} {n m k i : Nat} (h : i < m) : (zsK ev n m k)[i]? = some (if i < k then clkL ev n i else List.replicate n 0) := by simp [zsK, h]
theorem zsK_set (ev : Nat → Ev) (n m k : Nat) (h : k < m) : (zsK ev n m k).set k (clkL ev n k) = zsK ev n m (k + 1) := by
  apply List.ext_getElem?
  intro i
  rcases Nat.lt_or_ge i m with hi | hi
  · by_cases hik : i = k
    · subst hik
      rw [List.getElem?_set_self (by rw [zsK_length]; exact h), zsK_at hi, if_pos (by omega)]
    · rw [List.getElem?_set_ne (fun e => hik e.symm), zsK_at hi, zsK_at hi]
      by_cases h2 : i < k
      · rw [if_pos h2, if_pos (by omega)]
      · rw [if_neg h2, if_neg (by omega)]
  · rw [List.getElem?_eq_none (by rw [List.length_set, zsK_length]; exact hi), List.getElem?_eq_none (by rw [zsK_length]; exact hi)]
def clksL (ev : Nat → Ev) (n m : Nat) : List (List Int) := (List.range m).map (clkL ev n)
theorem clksL_length (ev : Nat → Ev) (n m : Nat) : (clksL ev n m).length = m := by simp [clksL]
theorem clksL_at {ev : Nat → Ev} {n m i : Nat} (h : i < m) : (clksL ev n m)[i]? = some (clkL ev n i) := by simp [clksL, h]
theorem zsK_done (ev : Nat → Ev) (n m : Nat) : zsK ev n m m = clksL ev n m := by
  apply List.ext_getElem?
  intro i
  rcases Nat.lt_or_ge i m with hi | hi
  · rw [zsK_at hi, if_pos hi, clksL_at hi]
  · rw [List.getElem?_eq_none (by rw [zsK_length]; exact hi), List.getElem?_eq_none (by rw [clksL_length]; exact hi)]
theorem RowEv.take {w : World} {a : Option Addr} {es : List Ev} (h : RowEv w a es) (k : Nat) : RowEv w a (es.take k) := by
  rcases h with h | ⟨g, o, ha, hr⟩
  · exact .inl (by rw [h]; simp)
  · refine .inr ⟨g, o, ha, fun i e he => hr i e ?_⟩
    rw [List.getElem?_take] at he
    split at he
    · exact he
    · cases he
theorem RowEv.lt {w : World} {a : Option Addr} {es : List Ev} (h : RowEv w a es) (h0 : 0 < es.length) : ∀ G O, a = some ⟨G, O, none⟩ → G < w.heap.size := by
  intro G O ha
  obtain ⟨g, o, hb, hr⟩ := h.at 0 _ (List.getElem?_eq_getElem h0)
  rw [ha] at hb
  cases hb
  exact lt_of_cell (range_cells hr).1
end Go.Proofs.Ytjedkfohmedmaaa
