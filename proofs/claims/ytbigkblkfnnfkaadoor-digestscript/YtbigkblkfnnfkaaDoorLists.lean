/- assizekit.LentLists: lists of bytes lent, each in a block of its own. -/
import Derived.Test.YtbigkblkfnnfkaaDoorRefParse
namespace Go.Proofs.YtbigkblkfnnfkaaDoor
open Go.RowKit
set_option linter.unusedVariables false

theorem Tryd.info22 : (Tryd.prog.info? 22).map (fun i => (i.zero, i.size, i.bytes)) = some (some (.slice none 0 0), 1, 24) := by kernel_rfl

theorem heapLt {w : World} {g : Nat} {o : Obj} (h : w.heap[g]? = some o) : g < w.heap.size := by
  rcases Nat.lt_or_ge g w.heap.size with h1 | h1
  · exact h1
  · rw [Array.getElem?_eq_none h1] at h; cases h

/-- The call's own row of slices. -/
def OwnL (base : Nat) (w : World) (v : Value) (vals : List Value) : Prop := w.ownsRow base 22 1 v vals.length vals

/-- A list that was lent, in block x.1. -/
def lentV (x : Nat × List UInt8) : Value := .slice (some ⟨x.1, 0, none⟩) x.2.length (x.2.length + 3)

theorem OwnL.block {base : Nat} {w : World} {v : Value} {vals : List Value} (h : OwnL base w v vals) : ∀ k, v.ownBlock = some k → base ≤ k := by
  intro k hk
  obtain ⟨_, ⟨rfl, _⟩ | ⟨g, cap, cur, rfl, hg, _⟩⟩ := h
  · simp [Value.ownBlock] at hk
  · simp [Value.ownBlock] at hk
    omega

theorem OwnL.far {base : Nat} {w : World} {v : Value} {vals : List Value} (h : OwnL base w v vals) {g : Nat} {cs : List Value} (hb : Blk w g cs) : v.ownBlock ≠ some g := by
  intro hk
  obtain ⟨_, ⟨rfl, _⟩ | ⟨g', cap, cur, rfl, hg, hh, _⟩⟩ := h
  · simp [Value.ownBlock] at hk
  · simp [Value.ownBlock] at hk
    subst hk
    unfold Blk at hb
    rw [hh] at hb
    simp at hb

theorem OwnL.below {base : Nat} {w w' : World} {v : Value} {vals : List Value} (h : OwnL base w v vals) (hb : Below w.heap.size w w') : OwnL base w' v vals := by
  obtain ⟨h0, ⟨h1, h2⟩ | ⟨g, cap, cur, rfl, hg, hh, hr⟩⟩ := h
  · exact ⟨h0, .inl ⟨h1, h2⟩⟩
  · refine ⟨h0, .inr ⟨g, cap, cur, rfl, hg, ?_, hr⟩⟩
    rw [hb.block g (heapLt hh)]
    exact hh

/-- 'l = append(l, s)'. -/
theorem appL {ops : Array Oper} {rest : List Oper} {o : Oper} {a : Act} {Q : Exit → Act → World → Prop} {w0 : World} (s x : Operand) (z : Value) (x0 : Nat × List UInt8) (base : Nat) (v : Value) (out : List Value)
    (hgd : o.guard = none) (ho : o.op = .call { callee := .builtin .append, args := #[s, x], argTypes := #[29, 29] })
    (hs : a.eval s = v) (hx : a.eval x = .slice (some ⟨w0.heap.size, 0, none⟩) 1 1) (hown : OwnL base w0 v out) (hz : z = lentV x0) (hlen : out.length ≤ 1048576) (hbase : base ≤ w0.heap.size)
    (h : ∀ v' w', OwnL base w' v' (out ++ [lentV x0]) → Below base w0 w' → (∀ g cs, Blk w0 g cs → Blk w' g cs) → wpList Tryd.prog ops Q rest (a.put o.dst v') w') :
    wpList Tryd.prog ops Q (o :: rest) a (w0.alloc (.cells #[z] 22)) := by
  obtain ⟨i0, hi, hz0, hz1, hz2⟩ := info_parts Tryd.info22
  refine wpList_append_own (w := w0.alloc (.cells #[z] 22)) hgd s x 29 ho base 22 i0 (.slice none 0 0) 1 24 Tryd.underlying29 hi hz0 hz1 hz2 rfl (by decide) v out.length out hs (World.ownsRow.alloc hown _)
    ⟨w0.heap.size, 0, none⟩ 1 1 [z] hx rfl ?c1 ?c2 ?c3 ?c4 ?c5 ?_
  case c1 =>
    intro j u hj
    match j, hj with
    | 0, hj => simp at hj; subst hj; simp [Addr.add]
  case c2 => intro u hu; simp at hu; subst hu; subst hz; rfl
  case c3 => unfold maxLen; omega
  case c4 => omega
  case c5 => simp; omega
  intro v' w' h1 h2 _
  refine h v' w' ?_ ?_ ?_
  · subst hz
    simpa [OwnL] using h1
  · exact ((Below.refl base w0).alloc hbase _).grown h2 (by simp; omega) hown.block
  · intro g cs hb
    have hlt := heapLt (show w0.heap[g]? = some _ from hb)
    have hb2 : Blk (w0.alloc (.cells #[z] 22)) g cs := hb.below ((Below.refl _ w0).alloc (Nat.le_refl _) _)
    unfold Blk at hb2 ⊢
    rw [h2.block g (by simp; omega) (fun e => hown.far hb e.symm)]
    exact hb2

/-- Lists that were lent lie in blocks. -/
def LentIn (w : World) (L : List (Nat × List UInt8)) : Prop := ∀ x ∈ L, Blk w x.1 ((lent x.2).map B8)

set_option maxRecDepth 100000 in
set_option maxHeartbeats 1600000 in
theorem lentLists_any (a : Option Addr) (cap : Nat) (ps : List (List UInt8)) (w : World) (hrow : RowL w a ps) (hn : ps.length ≤ 1048576) (hmax : ∀ j, j < ps.length → (ps.getD j []).length ≤ 1099511627776) :
    Calls Tryd.prog 13 #[.slice a ps.length cap] w fun e w' => ∃ v L, e = .returned v ∧ L.map (·.2) = ps ∧ OwnL w.heap.size w' v (L.map lentV) ∧ LentIn w' L ∧ Below w.heap.size w w' := by
  go_enter Tryd.func13, Tryd.ntmps13
  go_wp2_with fail
  go_loopw [3, 4] (fun v i wr => ∃ (k : Nat) (L : List (Nat × List UInt8)), k ≤ ps.length ∧ i = .int .i64 k ∧ L.length = k ∧ Hid (L.map (·.2) = ps.take k) ∧ OwnL w.heap.size wr v (L.map lentV) ∧ LentIn wr L ∧ Below w.heap.size w wr) (fun _ i _ => ps.length - (intOf i).toNat)
  case atStart => exact ⟨0, [], Nat.zero_le _, rfl, rfl, rfl, World.ownsRow_nil _ _ _ _, (fun x hx => by cases hx), Below.refl _ _⟩
  case round =>
    obtain ⟨k, L, hk, rfl, hL, hmap, hown, hin, hbel⟩ := hrel
    by_cases hlt : k < ps.length
    · have hHR : Hid (RowL wr a ps) := by
        rcases hrow with h | ⟨b, off, e, h⟩
        · exact .inl h
        · exact (RowL.below (.inr ⟨b, off, e, h⟩) hbel)
      rcases hHR.out with h | ⟨b, off, rfl, h⟩
      · subst h; simp at hlt
      obtain ⟨fa, fc, hcell, hr, hle, hfn⟩ := h k hlt
      obtain ⟨p, hp⟩ : ∃ p, Hid (p = ps.getD k []) := ⟨_, rfl⟩
      have hpm : p.length ≤ 1099511627776 := by rw [hp.out]; exact hmax k hlt
      rw [← hp.out] at hcell hr
      have hmap' : Hid (∀ g : Nat, (L ++ [(g, p)]).map (fun x => x.2) = ps.take (k + 1)) := by
        intro g
        rw [List.map_append, hmap.out, take_snocL ps k hlt, hp.out]; rfl
      have hbz := hbel.size
      have hLl : (L.map lentV).length ≤ 1048576 := by rw [List.length_map]; omega
      clear h hle hfn hrow hHR
      go_wp2_with (first | (go_at_call 9; refine (lent_any fa fc p _ hr hpm).mono ?_; rintro e w5 ⟨rfl, hblk5, hbel5⟩) | (at_builtin; refine appL (.tmp 11) (.tmp 17) _ (wr.heap.size, p) w.heap.size _ (L.map lentV) rfl rfl rfl rfl (hown.below hbel5) rfl hLl (Nat.le_trans hbz hbel5.size) ?_; intro v6 w6 hown6 hbel6 hk6))
      go_roundw
      case rel =>
        refine ⟨k + 1, L ++ [(wr.heap.size, p)], by omega, by go_num, by simp [hL], hmap'.out _, by simpa using hown6, ?_, (hbel.trans (hbel5.mono hbz)).trans hbel6⟩
        intro x hx
        rcases List.mem_append.1 hx with h1 | h1
        · exact hk6 _ _ ((hin x h1).below hbel5)
        · simp at h1; subst h1; exact hk6 _ _ hblk5
      case measure => simp [intOf]; omega
    · have hmm : Hid (L.map (·.2) = ps) := by show _ = _; rw [hmap.out, List.take_of_length_le (by omega)]
      go_wp2
      go_ret
      exact ⟨_, L, rfl, hmm.out, hown, hin, hbel⟩
end Go.Proofs.YtbigkblkfnnfkaaDoor
