/- The law's own 'lent': lists of numbers lent, each in a block of its own. -/
import Derived.Test.YtjedkfohmedmaaaKpL
namespace Go.Proofs.Ytjedkfohmedmaaa
open Go.RowKit
set_option linter.unusedVariables false

theorem Try.info26 : (Try.prog.info? 26).map (fun i => (i.zero, i.size, i.bytes)) = some (some (.slice none 0 0), 1, 24) := by kernel_rfl

theorem RowII.below' {w w' : World} {a : Option Addr} {zss : List (List Int)} (h : RowII w a zss) (hb : Below w.heap.size w w') : RowII w' a zss := h.below hb
theorem take_snocL {α : Type} [Inhabited α] (l : List (List α)) (k : Nat) (h : k < l.length) : l.take (k + 1) = l.take k ++ [l.getD k []] := by
  rw [List.take_add_one, List.getElem?_eq_getElem h]
  simp [List.getD, List.getElem?_eq_getElem h]
theorem heapLt {w : World} {g : Nat} {o : Obj} (h : w.heap[g]? = some o) : g < w.heap.size := by
  rcases Nat.lt_or_ge g w.heap.size with h1 | h1
  · exact h1
  · rw [Array.getElem?_eq_none h1] at h; cases h

/-- The call's own row of slices. -/
def OwnL (base : Nat) (w : World) (v : Value) (vals : List Value) : Prop := w.ownsRow base 26 1 v vals.length vals

/-- A list that was lent, in block x.1. -/
def lentV (x : Nat × List Int) : Value := .slice (some ⟨x.1, 0, none⟩) x.2.length (x.2.length + 3)

theorem OwnL.block {base : Nat} {w : World} {v : Value} {vals : List Value} (h : OwnL base w v vals) : ∀ k, v.ownBlock = some k → base ≤ k := by
  intro k hk
  obtain ⟨_, ⟨rfl, _⟩ | ⟨g, cap, cur, rfl, hg, _⟩⟩ := h
  · simp [Value.ownBlock] at hk
  · simp [Value.ownBlock] at hk
    omega

theorem OwnL.far {base : Nat} {w : World} {v : Value} {vals : List Value} (h : OwnL base w v vals) {g : Nat} {cs : List Value} (hb : BlkI w g cs) : v.ownBlock ≠ some g := by
  intro hk
  obtain ⟨_, ⟨rfl, _⟩ | ⟨g', cap, cur, rfl, hg, hh, _⟩⟩ := h
  · simp [Value.ownBlock] at hk
  · simp [Value.ownBlock] at hk
    subst hk
    unfold BlkI at hb
    rw [hh] at hb
    simp at hb

theorem OwnL.below {base : Nat} {w w' : World} {v : Value} {vals : List Value} (h : OwnL base w v vals) (hb : Below w.heap.size w w') : OwnL base w' v vals := by
  obtain ⟨h0, ⟨h1, h2⟩ | ⟨g, cap, cur, rfl, hg, hh, hr⟩⟩ := h
  · exact ⟨h0, .inl ⟨h1, h2⟩⟩
  · refine ⟨h0, .inr ⟨g, cap, cur, rfl, hg, ?_, hr⟩⟩
    rw [hb.block g (heapLt hh)]
    exact hh

/-- 'l = append(l, s)'. -/
theorem appL {ops : Array Oper} {rest : List Oper} {o : Oper} {a : Act} {Q : Exit → Act → World → Prop} {w0 : World} (s x : Operand) (z : Value) (x0 : Nat × List Int) (base : Nat) (v : Value) (out : List Value)
    (hgd : o.guard = none) (ho : o.op = .call { callee := .builtin .append, args := #[s, x], argTypes := #[23, 23] })
    (hs : a.eval s = v) (hx : a.eval x = .slice (some ⟨w0.heap.size, 0, none⟩) 1 1) (hown : OwnL base w0 v out) (hz : z = lentV x0) (hlen : out.length ≤ 1048576) (hbase : base ≤ w0.heap.size)
    (h : ∀ v' w', OwnL base w' v' (out ++ [lentV x0]) → Below base w0 w' → (∀ g cs, BlkI w0 g cs → BlkI w' g cs) → wpList Try.prog ops Q rest (a.put o.dst v') w') :
    wpList Try.prog ops Q (o :: rest) a (w0.alloc (.cells #[z] 26)) := by
  obtain ⟨i0, hi, hz0, hz1, hz2⟩ := info_parts Try.info26
  refine wpList_append_own (w := w0.alloc (.cells #[z] 26)) hgd s x 23 ho base 26 i0 (.slice none 0 0) 1 24 Try.underlying23 hi hz0 hz1 hz2 rfl (by decide) v out.length out hs (World.ownsRow.alloc hown _)
    ⟨w0.heap.size, 0, none⟩ 1 1 [z] hx rfl ?c1 ?c2 ?c3 ?c4 ?c5 ?_
  case c1 =>
    intro j u hj
    match j, hj with
    | 0, hj => simp at hj; subst hj; simp [Addr.add]
  case c2 => intro u hu; simp at hu; subst hu; subst hz; rfl
  case c3 => unfold maxLen; omega
  case c4 => omega
  case c5 => simp; omega
  intro v' w' h1 h2 _
  refine h v' w' ?_ ?_ ?_
  · subst hz
    simpa [OwnL] using h1
  · exact ((Below.refl base w0).alloc hbase _).grown h2 (by simp; omega) hown.block
  · intro g cs hb
    have hlt := heapLt (show w0.heap[g]? = some _ from hb)
    have hb2 : BlkI (w0.alloc (.cells #[z] 26)) g cs := hb.below ((Below.refl _ w0).alloc (Nat.le_refl _) _)
    unfold BlkI at hb2 ⊢
    rw [h2.block g (by simp; omega) (fun e => hown.far hb e.symm)]
    exact hb2

/-- Lists that were lent lie in blocks. -/
def LentIn (w : World) (L : List (Nat × List Int)) : Prop := ∀ x ∈ L, BlkI w x.1 ((lentI x.2).map I64)

set_option maxRecDepth 100000 in
set_option maxHeartbeats 1600000 in
theorem lent_any (a : Option Addr) (cap : Nat) (ps : List (List Int)) (w : World) (hrow : RowII w a ps) (hn : ps.length ≤ 1048576) (hmax : ∀ j, j < ps.length → (ps.getD j []).length ≤ 1099511627776) :
    Calls Try.prog 7 #[.slice a ps.length cap] w fun e w' => ∃ v L, e = .returned v ∧ L.map (·.2) = ps ∧ OwnL w.heap.size w' v (L.map lentV) ∧ LentIn w' L ∧ Below w.heap.size w w' := by
  go_enter Try.func7, Try.ntmps7
  go_wp2_with fail
  go_loopw [3, 4] (fun v i wr => ∃ (k : Nat) (L : List (Nat × List Int)), k ≤ ps.length ∧ i = .int .i64 k ∧ L.length = k ∧ Hid (L.map (·.2) = ps.take k) ∧ OwnL w.heap.size wr v (L.map lentV) ∧ LentIn wr L ∧ Below w.heap.size w wr) (fun _ i _ => ps.length - (intOf i).toNat)
  case atStart => exact ⟨0, [], Nat.zero_le _, rfl, rfl, rfl, World.ownsRow_nil _ _ _ _, (fun x hx => by cases hx), Below.refl _ _⟩
  case round =>
    obtain ⟨k, L, hk, rfl, hL, hmap, hown, hin, hbel⟩ := hrel
    by_cases hlt : k < ps.length
    · obtain ⟨p, hp0⟩ : ∃ p, ps[k]? = some p := ⟨ps[k], List.getElem?_eq_getElem hlt⟩
      have hp : Hid (p = ps.getD k []) := show _ = _ by simp [List.getD, hp0]
      have hpm : p.length ≤ 1099511627776 := by rw [hp.out]; exact hmax k hlt
      obtain ⟨b, off, fa, fc, rfl, hcell, hr, hle, hfn⟩ := (hrow.below' hbel).at k p hp0
      clear hp0
      have hmap' : Hid (∀ g : Nat, (L ++ [(g, p)]).map (fun x => x.2) = ps.take (k + 1)) := by
        intro g
        rw [List.map_append, hmap.out, take_snocL ps k hlt, hp.out]; rfl
      have hbz := hbel.size
      have hLl : (L.map lentV).length ≤ 1048576 := by rw [List.length_map]; omega
      clear hle hfn hrow
      go_wp2_with (first | (go_at_call 28; refine (lentInts_any fa fc p _ hr hpm).mono ?_; rintro e w5 ⟨rfl, hblk5, hbel5⟩) | (at_builtin; refine appL (.tmp 11) (.tmp 17) _ (wr.heap.size, p) w.heap.size _ (L.map lentV) rfl rfl rfl rfl (hown.below hbel5) rfl hLl (Nat.le_trans hbz hbel5.size) ?_; intro v6 w6 hown6 hbel6 hk6))
      go_roundw
      case rel =>
        refine ⟨k + 1, L ++ [(wr.heap.size, p)], by omega, by go_num, by simp [hL], hmap'.out _, by simpa using hown6, ?_, (hbel.trans (hbel5.mono hbz)).trans hbel6⟩
        intro x hx
        rcases List.mem_append.1 hx with h1 | h1
        · exact hk6 _ _ ((hin x h1).below hbel5)
        · simp at h1; subst h1; exact hk6 _ _ hblk5
      case measure => simp [intOf]; omega
    · have hmm : Hid (L.map (·.2) = ps) := by show _ = _; rw [hmap.out, List.take_of_length_le (by omega)]
      go_wp2
      go_ret
      exact ⟨_, L, rfl, hmm.out, hown, hin, hbel⟩
theorem lentII_of {base : Nat} {w : World} {v : Value} {L : List (Nat × List Int)} (hown : OwnL base w v (L.map lentV)) (hin : LentIn w L) : ∃ a c, v = .slice a L.length c ∧ L.length ≤ c ∧ LentII w a (L.map (·.2)) := by
  obtain ⟨h0, ⟨rfl, h2⟩ | ⟨g, cap, cur, rfl, hg, hh, hn, hm, hs, ht⟩⟩ := hown
  · have hL : L.length = 0 := by simpa using h2
    obtain rfl := List.eq_nil_of_length_eq_zero hL
    exact ⟨none, 0, rfl, Nat.le_refl _, .inl rfl⟩
  · refine ⟨_, cap, by simp, by simpa using hn, .inr ⟨g, 0, rfl, fun i zs hz => ?_⟩⟩
    rw [List.getElem?_map] at hz
    rcases hx : L[i]? with _ | x
    · rw [hx] at hz; cases hz
    · rw [hx] at hz
      cases hz
      refine ⟨x.1, ?_, hin x (List.mem_of_getElem? hx)⟩
      have hi : i < L.length := (List.getElem?_eq_some_iff.1 hx).1
      have e1 : (cur.toList.take ((L.map lentV).length * 1))[i]? = some (lentV x) := by rw [ht, List.getElem?_map, hx]; rfl
      rw [List.getElem?_take_of_lt (by simpa using hi)] at e1
      simp [World.cell?, hh]
      simpa [lentV] using e1
end Go.Proofs.Ytjedkfohmedmaaa
