/- Joined texts of the proof. -/
import Derived.Test.YtbamocalhojmeaaJ9
import Derived.Test.YtbamocalhojmeaaJ6

/- clock.gather: each number of a clock lifted to another one's. -/
namespace Go.Proofs.Ytbamocalhojmeaa
open Go.RowKit
set_option linter.unusedVariables false
attribute [local go_sem ↓] Go.wp_at_zero Go.wp_at_succ

/-- All stands but some places of one block; new blocks may be there. -/
structure Ovr (g lo hi : Nat) (w w' : World) : Prop where
  os : w'.os = w.os
  tape : w'.tape = w.tape
  output : w'.output = w.output
  size : w.heap.size ≤ w'.heap.size
  block : ∀ k, k < w.heap.size → k ≠ g → w'.heap[k]? = w.heap[k]?
  cell : ∀ i, (i < lo ∨ hi ≤ i) → w'.cell? ⟨g, i, none⟩ = w.cell? ⟨g, i, none⟩
theorem Ovr.refl (g lo hi : Nat) (w : World) : Ovr g lo hi w w := ⟨rfl, rfl, rfl, Nat.le_refl _, fun _ _ _ => rfl, fun _ _ => rfl⟩
theorem Ovr.trans {g lo hi : Nat} {a b c : World} (h : Ovr g lo hi a b) (k : Ovr g lo hi b c) : Ovr g lo hi a c :=
  ⟨k.os.trans h.os, k.tape.trans h.tape, k.output.trans h.output, Nat.le_trans h.size k.size, fun i hi hn => (k.block i (Nat.lt_of_lt_of_le hi h.size) hn).trans (h.block i hi hn), fun i hi => (k.cell i hi).trans (h.cell i hi)⟩
theorem Ovr.of_below {g lo hi : Nat} {w w' : World} (hg : g < w.heap.size) (h : Below w.heap.size w w') : Ovr g lo hi w w' :=
  ⟨h.os, h.tape, h.output, h.size, fun k hk _ => h.block k hk, fun i _ => h.cell hg⟩
theorem Ovr.more {g lo hi : Nat} {w0 w w' : World} (h : Ovr g lo hi w0 w) (hg : g < w0.heap.size) (hb : Below w.heap.size w w') : Ovr g lo hi w0 w' :=
  h.trans (.of_below (Nat.lt_of_lt_of_le hg h.size) hb)
theorem Ovr.set {g lo hi i : Nat} {w w' : World} {cs : List Value} (h : Ovr g lo hi w w') (hb : BlkI w' g cs) (h1 : lo ≤ i) (h2 : i < hi) (v : Value) : Ovr g lo hi w (w'.setCell ⟨g, i, none⟩ v) := by
  have B := Below.setCell (Below.refl g w') (p := ⟨g, i, none⟩) (Nat.le_refl _) v
  refine ⟨B.os.trans h.os, B.tape.trans h.tape, B.output.trans h.output, ?_, fun k hk hn => ?_, fun j hj => ?_⟩
  · refine Nat.le_trans h.size (Nat.le_of_eq ?_)
    exact (World.size_setCell ..).symm
  · rw [← h.block k hk hn]
    exact heap_setCell_other _ _ _ _ hn
  · rw [← h.cell j hj, (hb.set i v).cell, hb.cell, List.getElem?_set_ne (by omega)]
theorem Ovr.below {g lo hi B : Nat} {w0 w w' : World} (h : Ovr g lo hi w w') (hb : Below B w0 w) (hB : B ≤ g) (hs : B ≤ w.heap.size) : Below B w0 w' :=
  ⟨h.os.trans hb.os, h.tape.trans hb.tape, h.output.trans hb.output, Nat.le_trans hb.size h.size, fun k hk => (h.block k (by omega) (by omega)).trans (hb.block k hk)⟩
theorem BlkI.lt {w : World} {g : Nat} {cs : List Value} (h : BlkI w g cs) : g < w.heap.size := At.lt (t := 3) h

/-- Numbers that may be written, in a block, from a place on. -/
def WrI (w : World) (g o : Nat) (zs : List Int) : Prop := ∃ cs, BlkI w g cs ∧ ∀ k z, zs[k]? = some z → cs[o + k]? = some (.int .i64 z)
section
variable {w w' : World} {g o : Nat} {zs : List Int}
theorem WrI.cell (h : WrI w g o zs) {k : Nat} {z : Int} (hz : zs[k]? = some z) : w.cell? ⟨g, o + k, none⟩ = some (.int .i64 z) := by
  obtain ⟨cs, h1, h2⟩ := h
  rw [h1.cell, h2 k z hz]
theorem WrI.frozen (h : WrI w g o zs) (i : Nat) : w.frozen? ⟨g, i, none⟩ = false := by
  obtain ⟨cs, h1, h2⟩ := h
  exact h1.frozen i
theorem WrI.lt (h : WrI w g o zs) : g < w.heap.size := by
  obtain ⟨cs, h1, h2⟩ := h
  exact h1.lt
theorem WrI.below (h : WrI w g o zs) (hb : Below w.heap.size w w') : WrI w' g o zs := by
  obtain ⟨cs, h1, h2⟩ := h
  exact ⟨cs, h1.below hb, h2⟩
theorem WrI.row (h : WrI w g o zs) : RowI w (some ⟨g, o, none⟩) zs := .inr ⟨g, o, rfl, fun i z hz => h.cell hz⟩
theorem WrI.set (h : WrI w g o zs) {k : Nat} (hk : k < zs.length) (v : Int) : WrI (w.setCell ⟨g, o + k, none⟩ (.int .i64 v)) g o (zs.set k v) := by
  obtain ⟨cs, h1, h2⟩ := h
  refine ⟨_, h1.set (o + k) _, fun j z hj => ?_⟩
  by_cases hjk : j = k
  · subst hjk
    rw [List.getElem?_set_self hk] at hj
    cases hj
    have := h2 j _ (List.getElem?_eq_getElem hk)
    rw [List.getElem?_set_self (List.getElem?_eq_some_iff.1 this).1]
  · rw [List.getElem?_set_ne (fun e => hjk e.symm)] at hj
    rw [List.getElem?_set_ne (by omega)]
    exact h2 j z hj
theorem WrI.ovr (h : WrI w g o zs) {k lo hi : Nat} {u : World} (hk : k < zs.length) (ho : Ovr g lo hi u w) (h1 : lo ≤ o) (h2 : o + zs.length ≤ hi) (v : Value) : Ovr g lo hi u (w.setCell ⟨g, o + k, none⟩ v) := by
  obtain ⟨cs, h3, h4⟩ := h
  exact ho.set h3 (by omega) (by omega) v
end
/-- A row that lies outside of some places. -/
def Far (b : Option Addr) (len g lo hi : Nat) : Prop := ∀ g' o', b = some ⟨g', o', none⟩ → g' ≠ g ∨ o' + len ≤ lo ∨ hi ≤ o'
theorem RowI.ovr {w w' : World} {b : Option Addr} {ys : List Int} {g lo hi : Nat} (h : RowI w b ys) (hf : Far b ys.length g lo hi) (ho : Ovr g lo hi w w') : RowI w' b ys := by
  rcases h with h | ⟨g', o', rfl, hr⟩
  · exact .inl h
  · refine .inr ⟨g', o', rfl, fun i z hz => ?_⟩
    have hi' := (List.getElem?_eq_some_iff.1 hz).1
    have h1 := hr i z hz
    by_cases hg : g' = g
    · subst hg
      rw [ho.cell (o' + i) ?_]
      · exact h1
      · rcases hf g' o' rfl with h2 | h2 | h2
        · exact absurd rfl h2
        · left; omega
        · right; omega
    · rw [World.cell?_of_block (w := w) (ho.block g' (lt_of_cell h1) hg)]
      exact h1

def gatL (xs ys : List Int) : List Int := List.zipWith max xs ys
theorem gatL_length (xs ys : List Int) (h : ys.length = xs.length) : (gatL xs ys).length = xs.length := by simp [gatL]; omega

set_option maxRecDepth 100000 in
set_option maxHeartbeats 1600000 in
theorem gather_any (g o c : Nat) (zs : List Int) (b : Option Addr) (c2 : Nat) (ys : List Int) (w : World) (hz : WrI w g o zs) (hy : RowI w b ys) (hf : Far b ys.length g o (o + zs.length)) (hl : ys.length = zs.length) (hm : zs.length ≤ 1048576) (hc : zs.length ≤ c) (hc2 : ys.length ≤ c2) :
    Calls Try.prog 81 #[.slice (some ⟨g, o, none⟩) zs.length c, .slice b ys.length c2] w fun r w' => r = .returned (.tuple #[]) ∧ WrI w' g o (gatL zs ys) ∧ Ovr g o (o + zs.length) w w' := by
  obtain ⟨G, hG⟩ : ∃ G, Hid (G = gatL zs ys) := ⟨_, (rfl : _ = gatL _ _)⟩
  rw [← hG.out]
  obtain ⟨n, hn⟩ : ∃ n, Hid (n = zs.length) := ⟨_, (rfl : zs.length = _)⟩
  have hn2 : Hid (n = ys.length) := hn.out.trans hl.symm
  rw [← hn2.out] at hc2 hf ⊢
  rw [← hn.out] at hm hc hf ⊢
  have HY : Hid (RowI w b ys ∧ Far b n g o (o + n)) := ⟨hy, hf⟩
  have HZ : Hid (WrI w g o zs) := hz
  clear hz hy hf hl
  go_enter Try.func81, Try.ntmps81
  go_wp2_with fail
  go_loopw [8] (fun t wr => ∃ (k : Nat) (us : List Int), k ≤ n ∧ t = .int .i64 k ∧ Hid (us.length = n ∧ (∀ q x y, q < k → zs[q]? = some x → ys[q]? = some y → us[q]? = some (max x y)) ∧ (∀ q, k ≤ q → us[q]? = zs[q]?)) ∧ Hid (WrI wr g o us) ∧ Hid (Ovr g o (o + n) w wr)) (fun t _ => n - (intOf t).toNat)
  case atStart => exact ⟨0, zs, Nat.zero_le _, rfl, ⟨hn.out.symm, fun q x y hq => by omega, fun q _ => rfl⟩, HZ.out, Ovr.refl ..⟩
  case round =>
    obtain ⟨k, us, hk, rfl, hU, hW, hO⟩ := hrel
    by_cases hlt : k < n
    · obtain ⟨x, hx⟩ : ∃ x, zs[k]? = some x := ⟨zs[k]'(by rw [← hn.out]; exact hlt), by rw [List.getElem?_eq_getElem]⟩
      obtain ⟨y, hy⟩ : ∃ x, ys[k]? = some x := ⟨ys[k]'(by rw [← hn2.out]; exact hlt), by rw [List.getElem?_eq_getElem]⟩
      have hux : us[k]? = some x := by rw [hU.out.2.2 k (Nat.le_refl _)]; exact hx
      have hku : k < us.length := by rw [hU.out.1]; exact hlt
      have q1 := hW.out.cell hux
      have q2 := hW.out.frozen (o + k)
      obtain ⟨g1, o1, rfl, q3⟩ := (RowI.ovr HY.out.1 (by rw [← hn2.out]; exact HY.out.2) hO.out).at k y hy
      obtain ⟨M, hM2⟩ : ∃ M, (if x < y then y else x) = M := ⟨_, rfl⟩
      have hM : M = max x y := by rw [← hM2]; split <;> omega
      have hW2 : Hid (WrI (wr.setCell ⟨g, o + k, none⟩ (.int .i64 M)) g o (us.set k M)) := hW.out.set hku M
      have hO2 : Hid (Ovr g o (o + n) w (wr.setCell ⟨g, o + k, none⟩ (.int .i64 M))) := hW.out.ovr hku hO.out (Nat.le_refl _) (by rw [hU.out.1]; exact Nat.le_refl _) _
      have hU2 : Hid ((us.set k M).length = n ∧ (∀ q x y, q < k + 1 → zs[q]? = some x → ys[q]? = some y → (us.set k M)[q]? = some (max x y)) ∧ (∀ q, k + 1 ≤ q → (us.set k M)[q]? = zs[q]?)) := by
        refine ⟨by rw [List.length_set]; exact hU.out.1, fun q u v hq hu hv => ?_, fun q hq => ?_⟩
        · by_cases hqk : q = k
          · subst hqk
            rw [List.getElem?_set_self hku, hM]
            rw [hx] at hu
            rw [hy] at hv
            cases hu
            cases hv
            rfl
          · rw [List.getElem?_set_ne (fun e => hqk e.symm)]
            exact hU.out.2.1 q u v (by omega) hu hv
        · rw [List.getElem?_set_ne (by omega)]
          exact hU.out.2.2 q (by omega)
      clear hU hW hO hx hy hux hku
      clear hM
      go_wp2
      go_roundw
      case rel => exact ⟨k + 1, us.set k M, by omega, by go_num, hU2.out, hW2.out, hO2.out⟩
      case measure => simp [intOf]; omega
    · have hGu : Hid (G = us) := by
        show G = us
        rw [hG.out, gatL]
        apply List.ext_getElem?
        intro q
        rcases Nat.lt_or_ge q n with hq | hq
        · have h1 : q < zs.length := by rw [← hn.out]; exact hq
          have h2 : q < ys.length := by rw [← hn2.out]; exact hq
          rw [hU.out.2.1 q _ _ (by omega) (List.getElem?_eq_getElem h1) (List.getElem?_eq_getElem h2)]
          simp [List.getElem?_zipWith, List.getElem?_eq_getElem h1, List.getElem?_eq_getElem h2]
        · rw [List.getElem?_eq_none (by simp; rw [← hn.out]; omega), List.getElem?_eq_none (by rw [hU.out.1]; exact hq)]
      go_wp2
      go_end0
      exact ⟨rfl, by rw [hGu.out]; exact hW.out, hO.out⟩
end Go.Proofs.Ytbamocalhojmeaa

/- clock.fill: the clock of an event behind others, worked out of theirs. -/
namespace Go.Proofs.Ytbamocalhojmeaa
open Go.RowKit
set_option linter.unusedVariables false
attribute [local go_sem ↓] Go.wp_at_zero Go.wp_at_succ

theorem z25 : (Try.prog.info? 50).map (fun i => (i.zero, i.size)) = some (some (.agg [Value.int .i64 0, .int .i64 0, .int .i64 0].toArray), 3) := by kernel_rfl
theorem i25 : (Try.prog.info? 50).map (·.size) = some 3 := by kernel_rfl
theorem i3 : (Try.prog.info? 3).map (·.size) = some 1 := by kernel_rfl
theorem Ev.one (e : Ev) : ∀ v ∈ e.cells, v.oneCell' = true := by
  intro v hv
  simp [Ev.cells] at hv
  rcases hv with rfl | rfl | rfl <;> rfl

/-- 'copy' into numbers that may be written, from numbers that lie elsewhere. -/
theorem wpList_copy_ovr {ops : Array Oper} {rest : List Oper} {o : Oper} {a : Act} {Q : Exit → Act → World → Prop} {w : World} (hgd : o.guard = none) (d s : Operand)
    (ho : o.op = .call { callee := .builtin .copy, args := #[d, s], argTypes := #[23, 23] }) (g off n c c2 : Nat) (b : Option Addr) (hd : a.eval d = .slice (some ⟨g, off, none⟩) n c) (hs : a.eval s = .slice b n c2)
    (us ys : List Int) (hu : us.length = n) (hy : ys.length = n) (hn : 0 < n) (hW : WrI w g off us) (hY : RowI w b ys)
    (h : ∀ w', WrI w' g off ys → Ovr g off (off + n) w w' → wpList Try.prog ops Q rest (a.put o.dst (goInt n)) w') : wpList Try.prog ops Q (o :: rest) a w := by
  obtain ⟨cs, hb, hc⟩ := hW
  rcases hY with hY | ⟨g1, o1, rfl, hr⟩
  · rw [hY] at hy; simp at hy; omega
  have hfit : off + n ≤ cs.length := by
    have hk : n - 1 < us.length := by omega
    have := (List.getElem?_eq_some_iff.1 (hc (n - 1) _ (List.getElem?_eq_getElem hk))).1
    omega
  refine wpList_copy_own hgd d s 23 23 ho 3 Try.underlying23 i3 g off n c ⟨g1, o1, none⟩ n c2 hd hs cs.toArray 3 hb (ys.map I64) (by simp [hy]) (fun j v hj => ?_) (by simp [hy]; exact hfit) (by intro v hv; simp at hv; obtain ⟨b, _, rfl⟩ := hv; rfl) ?_
  · rw [add_none]
    rw [List.getElem?_map] at hj
    cases hq : ys[j]? with
    | none => rw [hq] at hj; cases hj
    | some z => rw [hq] at hj; cases hj; exact hr j z hq
  have e : (ys.map I64).length = n := by simp [hy]
  rw [e]
  have hB := setRow_heap w g cs.toArray (cs.toArray.toList.take off ++ (ys.map I64 ++ cs.toArray.toList.drop (off + n))).toArray 3 (0, 0) hb
  have hat : ∀ i, (i < off ∨ off + n ≤ i) → (cs.toArray.toList.take off ++ (ys.map I64 ++ cs.toArray.toList.drop (off + n)))[i]? = cs[i]? := by
    intro i hi
    simp only [List.getElem?_append, List.length_take, List.length_map, List.getElem?_take, List.getElem?_drop]
    rcases hi with hi | hi
    · rw [if_pos (by omega), if_pos hi]
    · rw [if_neg (by omega), if_neg (by omega)]
      congr 1
      omega
  have hB2 : BlkI (w.setRow g (cs.toArray.toList.take off ++ (ys.map I64 ++ cs.toArray.toList.drop (off + n))).toArray) g _ := hB
  refine h _ ⟨_, hB2, fun k z hz => ?_⟩ ⟨rfl, rfl, rfl, by simp, fun k _ hk => setRow_other w g k _ hk, fun i hi => ?_⟩
  · have hk := (List.getElem?_eq_some_iff.1 hz).1
    rw [List.getElem?_append_right (by simp; omega), List.getElem?_append_left (by simp; omega)]
    rw [List.getElem?_map]
    rw [show off + k - (cs.toArray.toList.take off).length = k by simp; omega, hz]
    rfl
  · rw [hB2.cell, hb.cell, hat i hi]

/-- A row of clocks of n numbers each, none of which lies where is written. -/
def RowF (w : World) (a : Option Addr) (zss : List (List Int)) (n g lo hi : Nat) : Prop := zss = [] ∨ ∃ G O, a = some ⟨G, O, none⟩ ∧ G ≠ g ∧ ∀ i zs, zss[i]? = some zs → ∃ b c, w.cell? ⟨G, O + i, none⟩ = some (.slice b n c) ∧ RowI w b zs ∧ n ≤ c ∧ zs.length = n ∧ Far b n g lo hi
theorem cell_ovr {w w' : World} {g lo hi : Nat} (h : Ovr g lo hi w w') {G i : Nat} {v : Value} (hG : G ≠ g) (hc : w.cell? ⟨G, i, none⟩ = some v) : w'.cell? ⟨G, i, none⟩ = some v := by
  rw [World.cell?_of_block (w := w) (h.block G (lt_of_cell hc) hG)]
  exact hc
theorem RowF.ovr {w w' : World} {a : Option Addr} {zss : List (List Int)} {n g lo hi : Nat} (h : RowF w a zss n g lo hi) (ho : Ovr g lo hi w w') : RowF w' a zss n g lo hi := by
  rcases h with h | ⟨G, O, ha, hG, hr⟩
  · exact .inl h
  · refine .inr ⟨G, O, ha, hG, fun i zs hz => ?_⟩
    obtain ⟨b, c, h1, h2, h3, h4, h5⟩ := hr i zs hz
    exact ⟨b, c, cell_ovr ho hG h1, h2.ovr (by rw [h4]; exact h5) ho, h3, h4, h5⟩
theorem RowF.at {w : World} {a : Option Addr} {zss : List (List Int)} {n g lo hi : Nat} (h : RowF w a zss n g lo hi) (i : Nat) (zs : List Int) (hz : zss[i]? = some zs) : ∃ G O b c, a = some ⟨G, O, none⟩ ∧ G ≠ g ∧ w.cell? ⟨G, O + i, none⟩ = some (.slice b n c) ∧ RowI w b zs ∧ n ≤ c ∧ zs.length = n ∧ Far b n g lo hi := by
  rcases h with rfl | ⟨G, O, ha, hG, hr⟩
  · simp at hz
  · obtain ⟨b, c, h⟩ := hr i zs hz
    exact ⟨G, O, b, c, ha, hG, h⟩
theorem RowEv.ovr {w w' : World} {a : Option Addr} {es : List Ev} {g lo hi : Nat} (h : RowEv w a es) (ha : ∀ G O, a = some ⟨G, O, none⟩ → G ≠ g) (ho : Ovr g lo hi w w') : RowEv w' a es := by
  rcases h with h | ⟨G, O, rfl, hr⟩
  · exact .inl h
  · exact .inr ⟨G, O, rfl, fun i e he j v hj => cell_ovr ho (ha G O rfl) (hr i e he j v hj)⟩
theorem At.ovr {t : TypeId} {w w' : World} {g lo hi k : Nat} {cs : List Value} (h : At t w k cs) (ho : Ovr g lo hi w w') (hk : k ≠ g) : At t w' k cs := by
  unfold At
  rw [ho.block k h.lt hk]
  exact h

/-- What stands behind k events: the numbers, how many are of e's own thread, and whether none was met. -/
def flS (c : Nat → List Int) (ev : Nat → Ev) (e : Ev) (z : List Int) : Nat → List Int × Nat × Bool
  | 0 => (z, 0, true)
  | k + 1 => if depB (ev k) e then (gatL (if (flS c ev e z k).2.2 then c k else (flS c ev e z k).1) (c k), (flS c ev e z k).2.1 + (if (ev k).th = e.th then 1 else 0), false) else flS c ev e z k
/-- The clock that is told. -/
def flZ (cs : List (List Int)) (es : List Ev) (e : Ev) (z : List Int) : List Int :=
  (flS (fun i => cs.getD i []) (evAt es) e z es.length).1.set e.th.toNat ((flS (fun i => cs.getD i []) (evAt es) e z es.length).2.1 + 1)
theorem flS_own (c : Nat → List Int) (ev : Nat → Ev) (e : Ev) (z : List Int) : ∀ k, (flS c ev e z k).2.1 ≤ k
  | 0 => Nat.le_refl _
  | k + 1 => by
    have := flS_own c ev e z k
    unfold flS
    split
    · dsimp only
      split <;> omega
    · omega
end Go.Proofs.Ytbamocalhojmeaa
