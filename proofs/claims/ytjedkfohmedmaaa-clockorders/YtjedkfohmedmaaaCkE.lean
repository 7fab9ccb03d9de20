/- clock.fill: the clock of an event behind others, worked out of theirs. -/
import Derived.Test.YtjedkfohmedmaaaCkD
import Derived.Test.YtjedkfohmedmaaaClC
namespace Go.Proofs.Ytjedkfohmedmaaa
open Go.RowKit
set_option linter.unusedVariables false
attribute [local go_sem ↓] Go.wp_at_zero Go.wp_at_succ

theorem z25 : (Try.prog.info? 25).map (fun i => (i.zero, i.size)) = some (some (.agg [Value.int .i64 0, .int .i64 0, .int .i64 0].toArray), 3) := by kernel_rfl
theorem i25 : (Try.prog.info? 25).map (·.size) = some 3 := by kernel_rfl
theorem i3 : (Try.prog.info? 3).map (·.size) = some 1 := by kernel_rfl
theorem Ev.one (e : Ev) : ∀ v ∈ e.cells, v.oneCell' = true := by
  intro v hv
  simp [Ev.cells] at hv
  rcases hv with rfl | rfl | rfl <;> rfl

/-- 'copy' into numbers that may be written, from numbers that lie elsewhere. -/
theorem wpList_copy_ovr {ops : Array Oper} {rest : List Oper} {o : Oper} {a : Act} {Q : Exit → Act → World → Prop} {w : World} (hgd : o.guard = none) (d s : Operand)
    (ho : o.op = .call { callee := .builtin .copy, args := #[d, s], argTypes := #[26, 26] }) (g off n c c2 : Nat) (b : Option Addr) (hd : a.eval d = .slice (some ⟨g, off, none⟩) n c) (hs : a.eval s = .slice b n c2)
    (us ys : List Int) (hu : us.length = n) (hy : ys.length = n) (hn : 0 < n) (hW : WrI w g off us) (hY : RowI w b ys)
    (h : ∀ w', WrI w' g off ys → Ovr g off (off + n) w w' → wpList Try.prog ops Q rest (a.put o.dst (goInt n)) w') : wpList Try.prog ops Q (o :: rest) a w := by
  obtain ⟨cs, hb, hc⟩ := hW
  rcases hY with hY | ⟨g1, o1, rfl, hr⟩
  · rw [hY] at hy; simp at hy; omega
  have hfit : off + n ≤ cs.length := by
    have hk : n - 1 < us.length := by omega
    have := (List.getElem?_eq_some_iff.1 (hc (n - 1) _ (List.getElem?_eq_getElem hk))).1
    omega
  refine wpList_copy_own hgd d s 26 26 ho 3 Try.underlying26 i3 g off n c ⟨g1, o1, none⟩ n c2 hd hs cs.toArray 3 hb (ys.map I64) (by simp [hy]) (fun j v hj => ?_) (by simp [hy]; exact hfit) (by intro v hv; simp at hv; obtain ⟨b, _, rfl⟩ := hv; rfl) ?_
  · rw [add_none]
    rw [List.getElem?_map] at hj
    cases hq : ys[j]? with
    | none => rw [hq] at hj; cases hj
    | some z => rw [hq] at hj; cases hj; exact hr j z hq
  have e : (ys.map I64).length = n := by simp [hy]
  rw [e]
  have hB := setRow_heap w g cs.toArray (cs.toArray.toList.take off ++ (ys.map I64 ++ cs.toArray.toList.drop (off + n))).toArray 3 (0, 0) hb
  have hat : ∀ i, (i < off ∨ off + n ≤ i) → (cs.toArray.toList.take off ++ (ys.map I64 ++ cs.toArray.toList.drop (off + n)))[i]? = cs[i]? := by
    intro i hi
    simp only [List.getElem?_append, List.length_take, List.length_map, List.getElem?_take, List.getElem?_drop]
    rcases hi with hi | hi
    · rw [if_pos (by omega), if_pos hi]
    · rw [if_neg (by omega), if_neg (by omega)]
      congr 1
      omega
  have hB2 : BlkI (w.setRow g (cs.toArray.toList.take off ++ (ys.map I64 ++ cs.toArray.toList.drop (off + n))).toArray) g _ := hB
  refine h _ ⟨_, hB2, fun k z hz => ?_⟩ ⟨rfl, rfl, rfl, by simp, fun k _ hk => setRow_other w g k _ hk, fun i hi => ?_⟩
  · have hk := (List.getElem?_eq_some_iff.1 hz).1
    rw [List.getElem?_append_right (by simp; omega), List.getElem?_append_left (by simp; omega)]
    rw [List.getElem?_map]
    rw [show off + k - (cs.toArray.toList.take off).length = k by simp; omega, hz]
    rfl
  · rw [hB2.cell, hb.cell, hat i hi]

/-- A row of clocks of n numbers each, none of which lies where is written. -/
def RowF (w : World) (a : Option Addr) (zss : List (List Int)) (n g lo hi : Nat) : Prop := zss = [] ∨ ∃ G O, a = some ⟨G, O, none⟩ ∧ G ≠ g ∧ ∀ i zs, zss[i]? = some zs → ∃ b c, w.cell? ⟨G, O + i, none⟩ = some (.slice b n c) ∧ RowI w b zs ∧ n ≤ c ∧ zs.length = n ∧ Far b n g lo hi
theorem cell_ovr {w w' : World} {g lo hi : Nat} (h : Ovr g lo hi w w') {G i : Nat} {v : Value} (hG : G ≠ g) (hc : w.cell? ⟨G, i, none⟩ = some v) : w'.cell? ⟨G, i, none⟩ = some v := by
  rw [World.cell?_of_block (w := w) (h.block G (lt_of_cell hc) hG)]
  exact hc
theorem RowF.ovr {w w' : World} {a : Option Addr} {zss : List (List Int)} {n g lo hi : Nat} (h : RowF w a zss n g lo hi) (ho : Ovr g lo hi w w') : RowF w' a zss n g lo hi := by
  rcases h with h | ⟨G, O, ha, hG, hr⟩
  · exact .inl h
  · refine .inr ⟨G, O, ha, hG, fun i zs hz => ?_⟩
    obtain ⟨b, c, h1, h2, h3, h4, h5⟩ := hr i zs hz
    exact ⟨b, c, cell_ovr ho hG h1, h2.ovr (by rw [h4]; exact h5) ho, h3, h4, h5⟩
theorem RowF.at {w : World} {a : Option Addr} {zss : List (List Int)} {n g lo hi : Nat} (h : RowF w a zss n g lo hi) (i : Nat) (zs : List Int) (hz : zss[i]? = some zs) : ∃ G O b c, a = some ⟨G, O, none⟩ ∧ G ≠ g ∧ w.cell? ⟨G, O + i, none⟩ = some (.slice b n c) ∧ RowI w b zs ∧ n ≤ c ∧ zs.length = n ∧ Far b n g lo hi := by
  rcases h with rfl | ⟨G, O, ha, hG, hr⟩
  · simp at hz
  · obtain ⟨b, c, h⟩ := hr i zs hz
    exact ⟨G, O, b, c, ha, hG, h⟩
theorem RowEv.ovr {w w' : World} {a : Option Addr} {es : List Ev} {g lo hi : Nat} (h : RowEv w a es) (ha : ∀ G O, a = some ⟨G, O, none⟩ → G ≠ g) (ho : Ovr g lo hi w w') : RowEv w' a es := by
  rcases h with h | ⟨G, O, rfl, hr⟩
  · exact .inl h
  · exact .inr ⟨G, O, rfl, fun i e he j v hj => cell_ovr ho (ha G O rfl) (hr i e he j v hj)⟩
theorem At.ovr {t : TypeId} {w w' : World} {g lo hi k : Nat} {cs : List Value} (h : At t w k cs) (ho : Ovr g lo hi w w') (hk : k ≠ g) : At t w' k cs := by
  unfold At
  rw [ho.block k h.lt hk]
  exact h

/-- What stands behind k events: the numbers, how many are of e's own thread, and whether none was met. -/
def flS (c : Nat → List Int) (ev : Nat → Ev) (e : Ev) (z : List Int) : Nat → List Int × Nat × Bool
  | 0 => (z, 0, true)
  | k + 1 => if depB (ev k) e then (gatL (if (flS c ev e z k).2.2 then c k else (flS c ev e z k).1) (c k), (flS c ev e z k).2.1 + (if (ev k).th = e.th then 1 else 0), false) else flS c ev e z k
/-- The clock that is told. -/
def flZ (cs : List (List Int)) (es : List Ev) (e : Ev) (z : List Int) : List Int :=
  (flS (fun i => cs.getD i []) (evAt es) e z es.length).1.set e.th.toNat ((flS (fun i => cs.getD i []) (evAt es) e z es.length).2.1 + 1)
theorem flS_own (c : Nat → List Int) (ev : Nat → Ev) (e : Ev) (z : List Int) : ∀ k, (flS c ev e z k).2.1 ≤ k
  | 0 => Nat.le_refl _
  | k + 1 => by
    have := flS_own c ev e z k
    unfold flS
    split
    · dsimp only
      split <;> omega
    · omega
end Go.Proofs.Ytjedkfohmedmaaa
