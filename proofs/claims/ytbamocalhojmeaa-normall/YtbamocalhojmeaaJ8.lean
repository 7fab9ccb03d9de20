/- Joined texts of the proof. -/
import Derived.Test.YtbamocalhojmeaaJ4
import Derived.Test.YtbamocalhojmeaaJ6
import Derived.Test.YtbamocalhojmeaaJ7
import Derived.Laws.OwnMore

/- The given answer's Heads: its rows in memory. -/
namespace Go.Proofs.Ytbamocalhojmeaa
open Go.RowKit
set_option linter.unusedVariables false

theorem Try.info4 : (Try.prog.info? 4).map (fun i => (i.zero, i.size, i.bytes)) = some (some (.bool false), 1, 1) := by kernel_rfl
theorem Try.info65 : (Try.prog.info? 65).map (fun i => (i.zero, i.size, i.bytes)) = some (some (.slice none 0 0), 1, 24) := by kernel_rfl
/-- A row of answers in block x.1. -/
def rowV (x : Nat × List Bool) : Value := .slice (some ⟨x.1, 0, none⟩) x.2.length x.2.length
/-- The call's own row of rows of answers. -/
def OwnH (base : Nat) (w : World) (v : Value) (vals : List Value) : Prop := w.ownsRow base 65 1 v vals.length vals
def RowsIn (w : World) (L : List (Nat × List Bool)) : Prop := ∀ x ∈ L, At 4 w x.1 (x.2.map Value.bool)
def headsL (ev : Nat → Ev) (n : Nat) : List (List Bool) := (List.range n).map fun j => (List.range j).map (hbB ev j)
theorem headsL_succ (ev : Nat → Ev) (n : Nat) : headsL ev (n + 1) = headsL ev n ++ [(List.range n).map (hbB ev n)] := by simp [headsL, List.range_succ]
theorem headsL_length (ev : Nat → Ev) (n : Nat) : (headsL ev n).length = n := by simp [headsL]
/-- Answers at the places below j, as cells. -/
def cellsB (j : Nat) (f : Nat → Bool) : List Value := (List.range j).map fun k => .bool (f k)
theorem cellsB_length (j : Nat) (f : Nat → Bool) : (cellsB j f).length = j := by simp [cellsB]
theorem cellsB_at {j : Nat} {f : Nat → Bool} {k : Nat} (h : k < j) : (cellsB j f)[k]? = some (.bool (f k)) := by simp [cellsB, h]
theorem cellsB_set {j : Nat} {f g : Nat → Bool} {k : Nat} (h : k < j) (h1 : ∀ x, x < j → x ≠ k → f x = g x) : (cellsB j f).set k (.bool (g k)) = cellsB j g := by
  apply List.ext_getElem?
  intro x
  rcases Nat.lt_or_ge x j with hx | hx
  · by_cases hxk : x = k
    · subst hxk
      rw [List.getElem?_set_self (by rw [cellsB_length]; exact hx), cellsB_at hx]
    · rw [List.getElem?_set_ne (fun e => hxk e.symm), cellsB_at hx, cellsB_at hx, h1 x hx hxk]
  · rw [List.getElem?_eq_none (by rw [List.length_set, cellsB_length]; exact hx), List.getElem?_eq_none (by rw [cellsB_length]; exact hx)]
theorem cellsB_congr {j : Nat} {f g : Nat → Bool} (h : ∀ x, x < j → f x = g x) : cellsB j f = cellsB j g := by
  unfold cellsB
  refine List.map_congr_left fun x hx => ?_
  rw [h x (List.mem_range.1 hx)]
/-- The row between two pieces: below k, and from i on, it is done. -/
def midP (ev : Nat → Ev) (j i k x : Nat) : Bool := if x < k ∨ i ≤ x then rowP ev j i x else rowP ev j (i + 1) x
theorem midP_first (ev : Nat → Ev) (j i : Nat) (hi : i < j) (hd : depB (ev i) (ev j) = true) : (cellsB j (rowP ev j (i + 1))).set i (.bool true) = cellsB j (midP ev j i 0) := by
  have e : true = midP ev j i 0 i := by rw [midP, if_pos (.inr (Nat.le_refl _)), rowP_at ev j i hi hd]
  rw [e]
  refine cellsB_set hi fun x hx hxi => ?_
  unfold midP
  split
  · rename_i h
    rw [rowP_above ev j i x hi (by omega)]
  · rfl
theorem midP_next (ev : Nat → Ev) (j i k : Nat) (hi : i < j) (hk : k < i) (hd : depB (ev i) (ev j) = true) : (cellsB j (midP ev j i k)).set k (.bool (midP ev j i k k || hbB ev i k)) = cellsB j (midP ev j i (k + 1)) := by
  have e : (midP ev j i k k || hbB ev i k) = midP ev j i (k + 1) k := by
    rw [midP, if_neg (by omega), midP, if_pos (by omega), rowP_below ev j i k hi hk hd]
  rw [e]
  refine cellsB_set (by omega) fun x hx hxk => ?_
  unfold midP
  by_cases h1 : x < k ∨ i ≤ x
  · rw [if_pos h1, if_pos (by omega)]
  · rw [if_neg h1, if_neg (by omega)]
theorem midP_last (ev : Nat → Ev) (j i : Nat) : cellsB j (midP ev j i i) = cellsB j (rowP ev j i) := cellsB_congr fun x hx => by
  rw [midP, if_pos (by omega)]
theorem row_start (ev : Nat → Ev) (j : Nat) : cellsB j (rowP ev j j) = List.replicate j (.bool false) := by
  rw [cellsB_congr (g := fun _ => false) fun x _ => rowP_start ev j x]
  apply List.ext_getElem?
  intro x
  rcases Nat.lt_or_ge x j with hx | hx
  · rw [cellsB_at hx, List.getElem?_replicate, if_pos hx]
  · rw [List.getElem?_eq_none (by rw [cellsB_length]; exact hx), List.getElem?_eq_none (by simp; exact hx)]
theorem row_done (ev : Nat → Ev) (j : Nat) : cellsB j (rowP ev j 0) = ((List.range j).map (hbB ev j)).map Value.bool := by
  rw [cellsB_congr fun x _ => rowP_done ev j x, cellsB, List.map_map]
  rfl
theorem row_skip (ev : Nat → Ev) (j i : Nat) (hi : i < j) (hd : depB (ev i) (ev j) = false) : cellsB j (rowP ev j (i + 1)) = cellsB j (rowP ev j i) := cellsB_congr fun x _ => (rowP_skip ev j i x hi hd).symm
end Go.Proofs.Ytbamocalhojmeaa

/- The given answer's Heads: of each event which happen ahead of it. -/
namespace Go.Proofs.Ytbamocalhojmeaa
open Go.RowKit
set_option linter.unusedVariables false
attribute [local go_sem ↓] Go.wp_at_zero Go.wp_at_succ

theorem OwnH.block {base : Nat} {w : World} {v : Value} {vals : List Value} (h : OwnH base w v vals) : ∀ k, v.ownBlock = some k → base ≤ k := by
  intro k hk
  obtain ⟨_, ⟨rfl, _⟩ | ⟨g, cap, cur, rfl, hg, _⟩⟩ := h
  · simp [Value.ownBlock] at hk
  · simp [Value.ownBlock] at hk
    omega
theorem OwnH.far {base : Nat} {w : World} {v : Value} {vals : List Value} (h : OwnH base w v vals) {g : Nat} {cs : List Value} (hb : At 4 w g cs) : v.ownBlock ≠ some g := by
  intro hk
  obtain ⟨_, ⟨rfl, _⟩ | ⟨g', cap, cur, rfl, hg, hh, _⟩⟩ := h
  · simp [Value.ownBlock] at hk
  · simp [Value.ownBlock] at hk
    subst hk
    unfold At at hb
    rw [hh] at hb
    simp at hb
theorem OwnH.below {base : Nat} {w w' : World} {v : Value} {vals : List Value} (h : OwnH base w v vals) (hb : Below w.heap.size w w') : OwnH base w' v vals := by
  obtain ⟨h0, ⟨h1, h2⟩ | ⟨g, cap, cur, rfl, hg, hh, hr⟩⟩ := h
  · exact ⟨h0, .inl ⟨h1, h2⟩⟩
  · refine ⟨h0, .inr ⟨g, cap, cur, rfl, hg, ?_, hr⟩⟩
    rw [hb.block g (heapLt hh)]
    exact hh
theorem RowsIn.below {w w' : World} {L : List (Nat × List Bool)} (h : RowsIn w L) (hb : Below w.heap.size w w') : RowsIn w' L := fun x hx => (h x hx).below hb
/-- The row that is read. -/
theorem OwnH.cell {base : Nat} {w : World} {v : Value} {L : List (Nat × List Bool)} (h : OwnH base w v (L.map rowV)) {i : Nat} {x : Nat × List Bool} (hx : L[i]? = some x) : ∃ g cap, v = .slice (some ⟨g, 0, none⟩) L.length cap ∧ L.length ≤ cap ∧ w.cell? ⟨g, i, none⟩ = some (rowV x) := by
  obtain ⟨_, ⟨_, h2⟩ | ⟨g, cap, cur, rfl, hg, hh, hn, hm, hs, ht⟩⟩ := h
  · have : L.length = 0 := by simpa using h2
    have := (List.getElem?_eq_some_iff.1 hx).1
    omega
  · have hi : i < L.length := (List.getElem?_eq_some_iff.1 hx).1
    refine ⟨g, cap, by simp, by simpa using hn, ?_⟩
    have e1 : (cur.toList.take ((L.map rowV).length * 1))[i]? = some (rowV x) := by rw [ht, List.getElem?_map, hx]; rfl
    rw [List.getElem?_take_of_lt (by simpa using hi)] at e1
    simp [World.cell?, hh]
    simpa using e1
/-- 'out = append(out, row)'. -/
theorem appH {ops : Array Oper} {rest : List Oper} {o : Oper} {a : Act} {Q : Exit → Act → World → Prop} {w0 : World} (s x : Operand) (z : Value) (x0 : Nat × List Bool) (base : Nat) (v : Value) (out : List Value)
    (hgd : o.guard = none) (ho : o.op = .call { callee := .builtin .append, args := #[s, x], argTypes := #[63, 63] })
    (hs : a.eval s = v) (hx : a.eval x = .slice (some ⟨w0.heap.size, 0, none⟩) 1 1) (hown : OwnH base w0 v out) (hz : z = rowV x0) (hlen : out.length ≤ 1048576) (hbase : base ≤ w0.heap.size)
    (h : ∀ v' w', OwnH base w' v' (out ++ [rowV x0]) → Below base w0 w' → (∀ g cs, At 4 w0 g cs → At 4 w' g cs) → wpList Try.prog ops Q rest (a.put o.dst v') w') :
    wpList Try.prog ops Q (o :: rest) a (w0.alloc (.cells #[z] 65)) := by
  obtain ⟨i0, hi, hz0, hz1, hz2⟩ := info_parts Try.info65
  refine wpList_append_own (w := w0.alloc (.cells #[z] 65)) hgd s x 63 ho base 65 i0 (.slice none 0 0) 1 24 Try.underlying63 hi hz0 hz1 hz2 rfl (by decide) v out.length out hs (World.ownsRow.alloc hown _)
    ⟨w0.heap.size, 0, none⟩ 1 1 [z] hx rfl ?c1 ?c2 ?c3 ?c4 ?c5 ?_
  case c1 =>
    intro j u hj
    match j, hj with
    | 0, hj => simp at hj; subst hj; simp [Addr.add]
  case c2 => intro u hu; simp at hu; subst hu; subst hz; rfl
  case c3 => unfold maxLen; omega
  case c4 => omega
  case c5 => simp; omega
  intro v' w' h1 h2 _
  refine h v' w' ?_ ?_ ?_
  · subst hz
    simpa [OwnH] using h1
  · exact ((Below.refl base w0).alloc hbase _).grown h2 (by simp; omega) hown.block
  · intro g cs hb
    have hlt := heapLt (show w0.heap[g]? = some _ from hb)
    have hb2 : At 4 (w0.alloc (.cells #[z] 65)) g cs := hb.below ((Below.refl _ w0).alloc (Nat.le_refl _) _)
    unfold At at hb2 ⊢
    rw [h2.block g (by simp; omega) (fun e => hown.far hb e.symm)]
    exact hb2
end Go.Proofs.Ytbamocalhojmeaa

/- The given answer's Heads: of each event which happen ahead of it. -/
namespace Go.Proofs.Ytbamocalhojmeaa
open Go.RowKit
set_option linter.unusedVariables false
attribute [local go_sem ↓] Go.wp_at_zero Go.wp_at_succ

set_option maxRecDepth 100000 in
set_option maxHeartbeats 6400000 in
theorem refHeads_any (a : Option Addr) (cap : Nat) (es : List Ev) (w : World) (hrow : RowEv w a es) (hmax : es.length ≤ 1048576) (hcap : es.length ≤ cap) :
    Calls Try.prog 37 #[.slice a es.length cap] w fun e w' => ∃ v L, e = .returned v ∧ L.map (·.2) = headsL (evAt es) es.length ∧ OwnH w.heap.size w' v (L.map rowV) ∧ RowsIn w' L ∧ Below w.heap.size w w' := by
  obtain ⟨i0, hi, hz0, hz1, hz2⟩ := info_parts Try.info4
  obtain ⟨n, hn⟩ : ∃ n, Hid (n = es.length) := ⟨_, (rfl : es.length = _)⟩
  rw [← hn.out] at hmax hcap ⊢
  have HR : Hid (RowEv w a es) := hrow
  clear hrow
  obtain ⟨ev, hev⟩ : ∃ ev, Hid (ev = evAt es) := ⟨_, (rfl : evAt es = _)⟩
  rw [← hev.out]
  go_enter Try.func37, Try.ntmps37
  go_wp2_with fail
  go_loopw [3, 4] (fun v t wr => ∃ (j : Nat) (L : List (Nat × List Bool)), j ≤ n ∧ t = .int .i64 j ∧ Hid (L.length = j) ∧ Hid (L.map (·.2) = headsL ev j) ∧ Hid (OwnH w.heap.size wr v (L.map rowV)) ∧ Hid (RowsIn wr L) ∧ Hid (Below w.heap.size w wr)) (fun _ t _ => n - (intOf t).toNat)
  case atStart => exact ⟨0, [], Nat.zero_le _, rfl, rfl, rfl, World.ownsRow_nil _ _ _ _, (fun x hx => by cases hx), Below.refl _ _⟩
  case round =>
    obtain ⟨j, L, hj, rfl, hL, hmap, hown, hin, hbel⟩ := hrel
    obtain ⟨wo, rfl⟩ : ∃ x, x = wr := ⟨wr, rfl⟩
    by_cases hlt : j < n
    · obtain ⟨ej, hej⟩ : ∃ k, es[j]? = some k := ⟨es[j]'(by rw [← hn.out]; exact hlt), by rw [List.getElem?_eq_getElem]⟩
      obtain ⟨ga, oa, rfl, hr0⟩ := HR.out.at j ej hej
      clear hr0
      have HJ : Hid (es[j]? = some ej) := hej
      clear hej
      go_wp2_with (at_make; refine wpList_make_full _ rfl (.tmp 14) (.tmp 14) 65 rfl wo.heap.size 4 i0 (.bool false) 1 Try.underlying65 hi hz0 hz1 .i64 .i64 _ _ j rfl rfl rfl rfl (by rw [hz2]; omega) (by unfold maxLen; omega) (Nat.le_refl _) ?_)
      intro w1 hown1 hgrow1
      have hb1 : Hid (Below wo.heap.size wo w1) := (Below.refl _ wo).grown hgrow1 (Nat.le_refl _) (by intro k hk; cases hk)
      have hA1 : Hid (At 4 w1 wo.heap.size (cellsB j (rowP ev j j))) := by
        obtain ⟨_, ⟨h, _⟩ | ⟨g, cp, cur, h, hg, hh, _, _, hs, ht⟩⟩ := hown1
        · cases h
        · cases h
          show At _ _ _ _
          rw [row_start, ← toList_madeCells_one]
          unfold At
          rw [hh]
          have e : cur.toList = (madeCells #[Value.bool false] j).toList := by
            rw [← ht, List.take_of_length_le (by simp [hs])]
          rw [← e]
      clear hown1 hgrow1
      go_wp2_with fail
      go_loopw [6] (fun t wq => ∃ (i : Nat) (z : Int), i ≤ j ∧ z = (i : Int) - 1 ∧ t = .int .i64 z ∧ Hid (At 4 wq wo.heap.size (cellsB j (rowP ev j i))) ∧ Hid (Below wo.heap.size wo wq)) (fun t _ => (intOf t + 1).toNat)
      case atStart => exact ⟨j, (j : Int) - 1, Nat.le_refl _, rfl, by go_num, hA1.out, hb1.out⟩
      case round =>
        obtain ⟨i, z, hij, hz, rfl, hA, hB⟩ := hrel
        obtain ⟨wm, rfl⟩ : ∃ x, x = wr := ⟨wr, rfl⟩
        clear hA1 hb1
        have hBw : Hid (Below w.heap.size w wm) := hbel.out.trans (hB.out.mono hbel.out.size)
        by_cases hi0 : i = 0
        · subst hi0
          have hzn : z < 0 := by omega
          have hzn2 : ¬ (0 ≤ z) := by omega
          obtain ⟨row, hrow⟩ : ∃ row, Hid (row = (List.range j).map (hbB ev j)) := ⟨_, (rfl : _ = (List.range j).map (hbB ev j))⟩
          have hlen : row.length = j := by rw [hrow.out]; simp
          have hA2 : Hid (At 4 wm wo.heap.size (row.map Value.bool)) := by
            show At _ _ _ _
            rw [hrow.out, ← row_done]
            exact hA.out
          have hLl : (L.map rowV).length ≤ 1048576 := by rw [List.length_map, hL.out]; omega
          have hmap2 : Hid ((L ++ [(wo.heap.size, row)]).map (·.2) = headsL ev (j + 1)) := by
            show _ = _
            rw [List.map_append, hmap.out, headsL_succ, hrow.out]
            rfl
          have hL2 : Hid ((L ++ [(wo.heap.size, row)]).length = j + 1) := by show _ = _; simp [hL.out]
          have hzz : Hid (Value.slice (some ⟨wo.heap.size, 0, none⟩) j j = rowV (wo.heap.size, row)) := by show _ = _; simp [rowV, hlen]
          go_wp2_with (at_builtin; refine appH (.tmp 56) (.tmp 58) _ (wo.heap.size, row) w.heap.size _ (L.map rowV) rfl rfl rfl rfl (hown.out.below hB.out) hzz.out hLl hBw.out.size ?_; intro v6 w6 hown6 hbel6 hk6)
          go_roundw
          case rel =>
            refine ⟨j + 1, L ++ [(wo.heap.size, row)], by omega, by go_num, hL2.out, hmap2.out, (show OwnH _ _ _ _ by rw [List.map_append]; exact hown6), ?_, hBw.out.trans hbel6⟩
            intro x hx
            rcases List.mem_append.1 hx with h1 | h1
            · exact hk6 _ _ ((hin.out x h1).below hB.out)
            · simp at h1; subst h1; exact hk6 _ _ hA2.out
          case measure => first | (simp [intOf]; done) | (simp [intOf]; omega)
        · obtain ⟨p, rfl⟩ : ∃ p, i = p + 1 := ⟨i - 1, by omega⟩
          obtain rfl : z = (p : Int) := by omega
          have hpj : p < j := by omega
          have i1 : (0 : Int) ≤ (p : Int) := by omega
          have i2 : (p : Int) < (n : Int) := by omega
          have i3 : (j : Int) < (n : Int) := by omega
          have i4 : p < n := by omega
          clear hz hi0
          obtain ⟨ei, hei⟩ : ∃ k, es[p]? = some k := ⟨es[p]'(by rw [← hn.out]; omega), by rw [List.getElem?_eq_getElem]⟩
          obtain ⟨g1, o1, hg1, hr1⟩ := (HR.out.below hBw.out).at p ei hei
          cases hg1
          obtain ⟨g2, o2, hg2, hr2⟩ := (HR.out.below hBw.out).at j ej HJ.out
          cases hg2
          obtain ⟨q1, q2, q3⟩ := range_cells hr1
          obtain ⟨r1, r2, r3⟩ := range_cells hr2
          have e1 : ev p = ei := by rw [hev.out]; exact evAt_eq hei
          have e2 : ev j = ej := by rw [hev.out]; exact evAt_eq HJ.out
          have HD : Hid (∀ u, Calls Try.prog 49 #[.agg ei.cells.toArray, .agg ej.cells.toArray] u fun r w' => r = .returned (.bool (depB (ev p) (ev j))) ∧ Below u.heap.size u w') := fun u => by rw [e1, e2]; exact refDepends_any ei ej u
          clear hr1 hr2 e1 e2 hei
          obtain ⟨D, hD⟩ : ∃ D, Hid (D = depB (ev p) (ev j)) := ⟨_, (rfl : _ = depB _ _)⟩
          rw [← hD.out] at HD
          obtain ⟨xt, xk, xo⟩ := ei
          obtain ⟨yt, yk, yo⟩ := ej
          dsimp only at q1 q2 q3 r1 r2 r3
          simp only [Ev.cells] at HD
          go_wp2_with fail
          go_region_held3 (fun w' => (w'.cell? ⟨ga, oa + p * 3, none⟩ = some (.int .i64 xt) ∧ w'.cell? ⟨ga, oa + p * 3 + 1, none⟩ = some (.int .i64 xk) ∧ w'.cell? ⟨ga, oa + p * 3 + 2, none⟩ = some (.int .i64 xo)) ∧ w'.cell? ⟨ga, oa + j * 3, none⟩ = some (.int .i64 yt) ∧ w'.cell? ⟨ga, oa + j * 3 + 1, none⟩ = some (.int .i64 yk) ∧ w'.cell? ⟨ga, oa + j * 3 + 2, none⟩ = some (.int .i64 yo)) (first | exact ⟨⟨q1, q2, q3⟩, r1, r2, r3⟩ | exact ⟨⟨(hbel2.cell (lt_of_cell q1)).trans q1, (hbel2.cell (lt_of_cell q2)).trans q2, (hbel2.cell (lt_of_cell q3)).trans q3⟩, (hbel2.cell (lt_of_cell r1)).trans r1, (hbel2.cell (lt_of_cell r2)).trans r2, (hbel2.cell (lt_of_cell r3)).trans r3⟩) (first | (go_at_call 49; refine (HD.out _).mono ?_; rintro e w2 ⟨rfl, hbel2⟩))
          have hB2 : Hid (Below wo.heap.size wo w2) := (hB.out.trans ((Below.refl _ wm).drew.mono hB.out.size)).trans (hbel2.mono hB.out.size)
          have hA2 : Hid (At 4 w2 wo.heap.size (cellsB j (rowP ev j (p + 1)))) := (At.below (show At 4 wm.drew _ _ from hA.out) hbel2)
          clear hbel2 HD q1 q2 q3 r1 r2 r3 hA hB hBw
          rcases D with _ | _
          · have hA3 : Hid (At 4 w2 wo.heap.size (cellsB j (rowP ev j p))) := by
              show At _ _ _ _
              rw [← row_skip ev j p hpj hD.out.symm]
              exact hA2.out
            clear hA2
            go_wp2_with fail
            go_roundw
            case rel => exact ⟨p, (p : Int) - 1, by omega, rfl, by go_num, hA3.out, hB2.out⟩
            case measure => first | (simp [intOf]; done) | (simp [intOf]; omega)
          · have hcell : w2.cell? ⟨wo.heap.size, p, none⟩ = some (.bool (rowP ev j (p + 1) p)) := by rw [hA2.out.cell]; exact cellsB_at hpj
            have hfr := hA2.out.frozen p
            have hA3 : Hid (At 4 (w2.setCell ⟨wo.heap.size, p, none⟩ (.bool true)) wo.heap.size (cellsB j (midP ev j p 0))) := by
              show At _ _ _ _
              rw [← midP_first ev j p hpj hD.out.symm]
              exact hA2.out.set p _
            have hB3 : Hid (Below wo.heap.size wo (w2.setCell ⟨wo.heap.size, p, none⟩ (.bool true))) := hB2.out.setCell (Nat.le_refl _) _
            clear hA2
            go_wp2_with fail
            go_loopw [7] (fun t wk => ∃ (k : Nat), k ≤ p ∧ t = .int .i64 k ∧ Hid (At 4 wk wo.heap.size (cellsB j (midP ev j p k))) ∧ Hid (Below wo.heap.size wo wk)) (fun t _ => p - (intOf t).toNat)
            case atStart => exact ⟨0, Nat.zero_le _, rfl, hA3.out, hB3.out⟩
            case round =>
              obtain ⟨k, hkp, rfl, hA4, hB4⟩ := hrel
              clear hcell hfr hA3 hB3 hB2
              by_cases hk : k < p
              · obtain ⟨x, hx⟩ : ∃ k, L[p]? = some k := ⟨L[p]'(by rw [hL.out]; exact hpj), by rw [List.getElem?_eq_getElem]⟩
                have hx2 : x.2 = (List.range p).map (hbB ev p) := by
                  have e := congrArg (·[p]?) hmap.out
                  simp [headsL, hx, hpj] at e
                  exact e
                have hcl := (hown.out.below hB4.out).cell hx
                rw [hL.out] at hcl
                obtain ⟨g3, c3, rfl, hc3, hcell3⟩ := hcl
                have hckx : wr.cell? ⟨x.1, k, none⟩ = some (.bool (hbB ev p k)) := by
                  rw [((hin.out x (List.mem_of_getElem? hx)).below hB4.out).cell, hx2]
                  simp [hk]
                have hrv : rowV x = .slice (some ⟨x.1, 0, none⟩) p p := by simp [rowV, hx2]
                rw [hrv] at hcell3
                have hcG : wr.cell? ⟨wo.heap.size, k, none⟩ = some (.bool (midP ev j p k k)) := by rw [hA4.out.cell]; exact cellsB_at (by omega)
                have hfG := hA4.out.frozen k
                have hA5 : Hid (At 4 (wr.setCell ⟨wo.heap.size, k, none⟩ (.bool (midP ev j p k k || hbB ev p k))) wo.heap.size (cellsB j (midP ev j p (k + 1)))) := by
                  show At _ _ _ _
                  rw [← midP_next ev j p k hpj hk hD.out.symm]
                  exact hA4.out.set k _
                have hB5 : Hid (∀ v, Below wo.heap.size wo (wr.setCell ⟨wo.heap.size, k, none⟩ v)) := fun v => hB4.out.setCell (Nat.le_refl _) _
                obtain ⟨X, hX⟩ : ∃ X, X = x.1 := ⟨_, rfl⟩
                rw [← hX] at hckx hcell3
                generalize midP ev j p k k = M at *
                generalize hbB ev p k = H at *
                clear hrv hx2 hX hx hA4 hB4
                have k1 : (k : Int) < (p : Int) := by omega
                have k2 : (k : Int) < (j : Int) := by omega
                have k3 : (p : Int) < (j : Int) := by omega
                have k4 : k < j := by omega
                cases M <;> cases H <;>
                · go_wp2_with fail
                  go_roundw
                  case rel => exact ⟨k + 1, by omega, by go_num, hA5.out, hB5.out _⟩
                  case measure => first | (simp [intOf]; done) | (simp [intOf]; omega)
              · have hA5 : Hid (At 4 wr wo.heap.size (cellsB j (rowP ev j p))) := by
                  show At _ _ _ _
                  rw [← midP_last, show p = k by omega]
                  have := hA4.out
                  rwa [show k = p by omega] at this ⊢
                clear hA4
                go_wp2_with fail
                go_roundw
                case rel => exact ⟨p, (p : Int) - 1, by omega, rfl, by go_num, hA5.out, hB4.out⟩
                case measure => first | (simp [intOf]; done) | (simp [intOf]; omega)
    · have hmm : Hid (L.map (·.2) = headsL ev n) := by show _ = _; rw [hmap.out, show j = n by omega]
      go_wp2
      go_ret
      exact ⟨_, L, rfl, hmm.out, hown.out, hin.out, hbel.out⟩
end Go.Proofs.Ytbamocalhojmeaa
