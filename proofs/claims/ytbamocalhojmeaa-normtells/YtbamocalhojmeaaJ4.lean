/- Joined texts of the proof. -/
import Derived.Test.YtbamocalhojmeaaJ3
import Derived.Test.YtbamocalhojmeaaJ1

/- Rows of rows of numbers; assizekit.SameIntLists. -/
namespace Go.Proofs.Ytbamocalhojmeaa
open Go.RowKit
set_option linter.unusedVariables false
attribute [local go_sem ↓] Go.wp_at_zero Go.wp_at_succ

/-- A row of rows of numbers in memory. -/
def RowII (w : World) (a : Option Addr) (zss : List (List Int)) : Prop := zss = [] ∨ ∃ g o, a = some ⟨g, o, none⟩ ∧ ∀ i zs, zss[i]? = some zs → ∃ b c, w.cell? ⟨g, o + i, none⟩ = some (.slice b zs.length c) ∧ RowI w b zs ∧ zs.length ≤ c ∧ zs.length ≤ 4611686018427387904
theorem RowII.below {w w' : World} {a : Option Addr} {zss : List (List Int)} (h : RowII w a zss) (hb : Below w.heap.size w w') : RowII w' a zss := by
  rcases h with h | ⟨g, o, ha, hr⟩
  · exact .inl h
  · refine .inr ⟨g, o, ha, fun i zs hz => ?_⟩
    obtain ⟨b, c, h1, h2, h3⟩ := hr i zs hz
    exact ⟨b, c, (hb.cell (lt_of_cell h1)).trans h1, h2.below hb, h3⟩
theorem RowII.at {w : World} {a : Option Addr} {zss : List (List Int)} (h : RowII w a zss) (i : Nat) (zs : List Int) (hz : zss[i]? = some zs) : ∃ g o b c, a = some ⟨g, o, none⟩ ∧ w.cell? ⟨g, o + i, none⟩ = some (.slice b zs.length c) ∧ RowI w b zs ∧ zs.length ≤ c ∧ zs.length ≤ 4611686018427387904 := by
  rcases h with rfl | ⟨g, o, ha, hr⟩
  · simp at hz
  · obtain ⟨b, c, h⟩ := hr i zs hz
    exact ⟨g, o, b, c, ha, h⟩

set_option maxRecDepth 100000 in
set_option maxHeartbeats 3200000 in
theorem sameLists_any (xs ys : List (List Int)) (a1 a2 : Option Addr) (c1 c2 : Nat) (w : World) (h1 : RowII w a1 xs) (h2 : RowII w a2 ys) (hl1 : xs.length ≤ 4611686018427387904) (hl2 : ys.length ≤ 4611686018427387904) (hk1 : xs.length ≤ c1) (hk2 : ys.length ≤ c2) :
    Calls Try.prog 19 #[.slice a1 xs.length c1, .slice a2 ys.length c2] w fun r w' => r = .returned (.bool (decide (xs = ys))) ∧ Below w.heap.size w w' := by
  obtain ⟨R, hR⟩ : ∃ R, Hid (R = decide (xs = ys)) := ⟨_, (rfl : _ = decide _)⟩
  rw [← hR.out]
  obtain ⟨n, hn⟩ : ∃ n, Hid (n = xs.length) := ⟨_, (rfl : xs.length = _)⟩
  obtain ⟨n2, hn2⟩ : ∃ n, Hid (n = ys.length) := ⟨_, (rfl : ys.length = _)⟩
  rw [← hn.out] at hl1 hk1 ⊢
  rw [← hn2.out] at hl2 hk2 ⊢
  have HR : Hid (RowII w a1 xs ∧ RowII w a2 ys) := ⟨h1, h2⟩
  clear h1 h2
  by_cases hnn : n = n2
  · subst hnn
    go_enter Try.func19, Try.ntmps19
    go_wp2_with fail
    go_loopw [5] (fun j wr => ∃ i : Nat, j = .int .i64 (i : Int) ∧ i ≤ n ∧ Hid (Below w.heap.size w wr ∧ ∀ (q : Nat) (x y : List Int), q < i → xs[q]? = some x → ys[q]? = some y → x = y)) (fun j _ => n - (intOf j).toNat)
    case atStart => exact ⟨0, rfl, by omega, Below.refl _ _, fun q x y hq => by omega⟩
    case round =>
      obtain ⟨i, rfl, hi, hX⟩ := hrel
      by_cases hc : i < n
      · obtain ⟨x, hx⟩ : ∃ k, xs[i]? = some k := ⟨xs[i]'(by rw [← hn.out]; exact hc), by rw [List.getElem?_eq_getElem]⟩
        obtain ⟨y, hy⟩ : ∃ k, ys[i]? = some k := ⟨ys[i]'(by rw [← hn2.out]; exact hc), by rw [List.getElem?_eq_getElem]⟩
        obtain ⟨hbw, hall⟩ := hX.out
        obtain ⟨g1, o1, b1, k1, rfl, hr1, hq1, hq2, hq3⟩ := (HR.out.1.below hbw).at i x hx
        obtain ⟨g2, o2, b2, k2, rfl, hr2, hp1, hp2, hp3⟩ := (HR.out.2.below hbw).at i y hy
        have HA : Hid (∀ (q : Nat) (x y : List Int), q < i → xs[q]? = some x → ys[q]? = some y → x = y) := hall
        have HXY : Hid (xs[i]? = some x ∧ ys[i]? = some y) := ⟨hx, hy⟩
        have HC : Hid (∀ u, Below wr.heap.size wr u → Calls Try.prog 18 #[.slice b1 x.length k1, .slice b2 y.length k2] u fun r w' => r = .returned (.bool (decide (x = y))) ∧ Below u.heap.size u w') := fun u hu => sameInts_any x y b1 b2 k1 k2 u (hq1.below hu) (hp1.below hu) hq3 hp3 hq2 hp2
        obtain ⟨lx, hlx⟩ : ∃ l, l = x.length := ⟨_, rfl⟩
        obtain ⟨ly, hly⟩ : ∃ l, l = y.length := ⟨_, rfl⟩
        obtain ⟨S, hS⟩ : ∃ S, Hid (S = decide (x = y)) := ⟨_, (rfl : _ = decide _)⟩
        rw [← hlx] at hr1 HC
        rw [← hly] at hr2 HC
        rw [← hS.out] at HC
        clear hX hall HR hx hy hq1 hq2 hq3 hp1 hp2 hp3 hlx hly
        have hBW : Hid (Below w.heap.size w wr) := hbw
        clear hbw
        go_wp2_with fail
        go_region_held3 (fun w' => w'.cell? ⟨g1, o1 + i, none⟩ = some (.slice b1 lx k1) ∧ w'.cell? ⟨g2, o2 + i, none⟩ = some (.slice b2 ly k2)) (first | exact ⟨hr1, hr2⟩ | exact ⟨(hbel2.cell (lt_of_cell hr1)).trans hr1, (hbel2.cell (lt_of_cell hr2)).trans hr2⟩) (first | (go_at_call 18; refine (HC.out _ (Below.refl _ wr).drew).mono ?_; rintro e w2 ⟨rfl, hbel2⟩))
        have hB2 : Hid (Below w.heap.size w w2) := (hBW.out.trans ((Below.refl _ wr).drew.mono hBW.out.size)).trans (hbel2.mono hBW.out.size)
        clear hbel2 hBW HC hr1 hr2
        rcases S with _ | _
        · have hRf : R = false := by
            rw [hR.out]
            refine decide_eq_false fun h => ?_
            have e1 := HXY.out.1
            rw [h, HXY.out.2] at e1
            have := hS.out
            rw [Option.some.inj e1, decide_eq_true rfl] at this
            cases this
          go_wp2
          go_ret
          exact ⟨by rw [hRf]; rfl, hB2.out⟩
        · have hxy : Hid (x = y) := show x = y from of_decide_eq_true hS.out.symm
          go_wp2
          go_roundw
          case rel =>
            refine ⟨i + 1, by go_num, by omega, hB2.out, fun q u v hq hu hv => ?_⟩
            by_cases hqi : q = i
            · subst hqi
              rw [HXY.out.1] at hu
              rw [HXY.out.2] at hv
              cases hu
              cases hv
              exact hxy.out
            · exact HA.out q u v (by omega) hu hv
          case measure => simp [intOf]; omega
      · have hin : i = n := by omega
        obtain ⟨hbw, hall⟩ := hX.out
        have hRt : R = true := by
          rw [hR.out]
          refine decide_eq_true (lists_eq (by rw [← hn.out, ← hn2.out]) fun q u v hu hv => hall q u v ?_ hu hv)
          have := (List.getElem?_eq_some_iff.1 hu).1
          rw [← hn.out] at this
          omega
        clear hX hall hin HR
        go_wp2
        go_ret
        exact ⟨by rw [hRt]; rfl, hbw⟩
  · have hne : ((n : Int) == (n2 : Int)) = false := by rw [beq_eq_false_iff_ne]; omega
    have hRf : R = false := by
      rw [hR.out]
      exact decide_eq_false fun h => hnn (by rw [hn.out, hn2.out, h])
    clear hnn
    go_enter Try.func19, Try.ntmps19
    go_wp2_with fail
    go_ret
    exact ⟨by rw [hRf]; rfl, Below.refl _ _⟩
end Go.Proofs.Ytbamocalhojmeaa

/- The law's own 'kept': lists of numbers that were lent and not written are found as they were. -/
namespace Go.Proofs.Ytbamocalhojmeaa
open Go.RowKit
set_option linter.unusedVariables false
attribute [local go_sem ↓] Go.wp_at_zero Go.wp_at_succ

/-- A row of rows of numbers that are lent. -/
def LentII (w : World) (a : Option Addr) (zss : List (List Int)) : Prop := zss = [] ∨ ∃ g o, a = some ⟨g, o, none⟩ ∧ ∀ i zs, zss[i]? = some zs → ∃ b, w.cell? ⟨g, o + i, none⟩ = some (.slice (some ⟨b, 0, none⟩) zs.length (zs.length + 3)) ∧ BlkI w b ((lentI zs).map I64)
theorem LentII.below {w w' : World} {a : Option Addr} {zss : List (List Int)} (h : LentII w a zss) (hb : Below w.heap.size w w') : LentII w' a zss := by
  rcases h with h | ⟨g, o, ha, hr⟩
  · exact .inl h
  · refine .inr ⟨g, o, ha, fun i zs hz => ?_⟩
    obtain ⟨b, h1, h2⟩ := hr i zs hz
    exact ⟨b, (hb.cell (lt_of_cell h1)).trans h1, h2.below hb⟩
theorem LentII.at {w : World} {a : Option Addr} {zss : List (List Int)} (h : LentII w a zss) (i : Nat) (zs : List Int) (hz : zss[i]? = some zs) : ∃ g o b, a = some ⟨g, o, none⟩ ∧ w.cell? ⟨g, o + i, none⟩ = some (.slice (some ⟨b, 0, none⟩) zs.length (zs.length + 3)) ∧ BlkI w b ((lentI zs).map I64) := by
  rcases h with rfl | ⟨g, o, ha, hr⟩
  · simp at hz
  · obtain ⟨b, h⟩ := hr i zs hz
    exact ⟨g, o, b, ha, h⟩
theorem LentII.row {w : World} {a : Option Addr} {zss : List (List Int)} (h : LentII w a zss) (hm : ∀ zs ∈ zss, zs.length ≤ 4611686018427387904) : RowII w a zss := by
  rcases h with h | ⟨g, o, ha, hr⟩
  · exact .inl h
  · refine .inr ⟨g, o, ha, fun i zs hz => ?_⟩
    obtain ⟨b, h1, h2⟩ := hr i zs hz
    exact ⟨_, _, h1, h2.row_lent, by omega, hm zs (List.mem_of_getElem? hz)⟩

end Go.Proofs.Ytbamocalhojmeaa

/- The law's own 'lent': lists of numbers lent, each in a block of its own. -/
namespace Go.Proofs.Ytbamocalhojmeaa
open Go.RowKit
set_option linter.unusedVariables false

theorem Try.info23 : (Try.prog.info? 23).map (fun i => (i.zero, i.size, i.bytes)) = some (some (.slice none 0 0), 1, 24) := by kernel_rfl

theorem RowII.below' {w w' : World} {a : Option Addr} {zss : List (List Int)} (h : RowII w a zss) (hb : Below w.heap.size w w') : RowII w' a zss := h.below hb
theorem take_snocL {α : Type} [Inhabited α] (l : List (List α)) (k : Nat) (h : k < l.length) : l.take (k + 1) = l.take k ++ [l.getD k []] := by
  rw [List.take_add_one, List.getElem?_eq_getElem h]
  simp [List.getD, List.getElem?_eq_getElem h]
theorem heapLt {w : World} {g : Nat} {o : Obj} (h : w.heap[g]? = some o) : g < w.heap.size := by
  rcases Nat.lt_or_ge g w.heap.size with h1 | h1
  · exact h1
  · rw [Array.getElem?_eq_none h1] at h; cases h

/-- The call's own row of slices. -/
def OwnL (base : Nat) (w : World) (v : Value) (vals : List Value) : Prop := w.ownsRow base 23 1 v vals.length vals

/-- A list that was lent, in block x.1. -/
def lentV (x : Nat × List Int) : Value := .slice (some ⟨x.1, 0, none⟩) x.2.length (x.2.length + 3)

theorem OwnL.block {base : Nat} {w : World} {v : Value} {vals : List Value} (h : OwnL base w v vals) : ∀ k, v.ownBlock = some k → base ≤ k := by
  intro k hk
  obtain ⟨_, ⟨rfl, _⟩ | ⟨g, cap, cur, rfl, hg, _⟩⟩ := h
  · simp [Value.ownBlock] at hk
  · simp [Value.ownBlock] at hk
    omega

theorem OwnL.far {base : Nat} {w : World} {v : Value} {vals : List Value} (h : OwnL base w v vals) {g : Nat} {cs : List Value} (hb : BlkI w g cs) : v.ownBlock ≠ some g := by
  intro hk
  obtain ⟨_, ⟨rfl, _⟩ | ⟨g', cap, cur, rfl, hg, hh, _⟩⟩ := h
  · simp [Value.ownBlock] at hk
  · simp [Value.ownBlock] at hk
    subst hk
    unfold BlkI at hb
    rw [hh] at hb
    simp at hb

theorem OwnL.below {base : Nat} {w w' : World} {v : Value} {vals : List Value} (h : OwnL base w v vals) (hb : Below w.heap.size w w') : OwnL base w' v vals := by
  obtain ⟨h0, ⟨h1, h2⟩ | ⟨g, cap, cur, rfl, hg, hh, hr⟩⟩ := h
  · exact ⟨h0, .inl ⟨h1, h2⟩⟩
  · refine ⟨h0, .inr ⟨g, cap, cur, rfl, hg, ?_, hr⟩⟩
    rw [hb.block g (heapLt hh)]
    exact hh

/-- 'l = append(l, s)'. -/
theorem appL {ops : Array Oper} {rest : List Oper} {o : Oper} {a : Act} {Q : Exit → Act → World → Prop} {w0 : World} (s x : Operand) (z : Value) (x0 : Nat × List Int) (base : Nat) (v : Value) (out : List Value)
    (hgd : o.guard = none) (ho : o.op = .call { callee := .builtin .append, args := #[s, x], argTypes := #[32, 32] })
    (hs : a.eval s = v) (hx : a.eval x = .slice (some ⟨w0.heap.size, 0, none⟩) 1 1) (hown : OwnL base w0 v out) (hz : z = lentV x0) (hlen : out.length ≤ 1048576) (hbase : base ≤ w0.heap.size)
    (h : ∀ v' w', OwnL base w' v' (out ++ [lentV x0]) → Below base w0 w' → (∀ g cs, BlkI w0 g cs → BlkI w' g cs) → wpList Try.prog ops Q rest (a.put o.dst v') w') :
    wpList Try.prog ops Q (o :: rest) a (w0.alloc (.cells #[z] 23)) := by
  obtain ⟨i0, hi, hz0, hz1, hz2⟩ := info_parts Try.info23
  refine wpList_append_own (w := w0.alloc (.cells #[z] 23)) hgd s x 32 ho base 23 i0 (.slice none 0 0) 1 24 Try.underlying32 hi hz0 hz1 hz2 rfl (by decide) v out.length out hs (World.ownsRow.alloc hown _)
    ⟨w0.heap.size, 0, none⟩ 1 1 [z] hx rfl ?c1 ?c2 ?c3 ?c4 ?c5 ?_
  case c1 =>
    intro j u hj
    match j, hj with
    | 0, hj => simp at hj; subst hj; simp [Addr.add]
  case c2 => intro u hu; simp at hu; subst hu; subst hz; rfl
  case c3 => unfold maxLen; omega
  case c4 => omega
  case c5 => simp; omega
  intro v' w' h1 h2 _
  refine h v' w' ?_ ?_ ?_
  · subst hz
    simpa [OwnL] using h1
  · exact ((Below.refl base w0).alloc hbase _).grown h2 (by simp; omega) hown.block
  · intro g cs hb
    have hlt := heapLt (show w0.heap[g]? = some _ from hb)
    have hb2 : BlkI (w0.alloc (.cells #[z] 23)) g cs := hb.below ((Below.refl _ w0).alloc (Nat.le_refl _) _)
    unfold BlkI at hb2 ⊢
    rw [h2.block g (by simp; omega) (fun e => hown.far hb e.symm)]
    exact hb2

/-- Lists that were lent lie in blocks. -/
def LentIn (w : World) (L : List (Nat × List Int)) : Prop := ∀ x ∈ L, BlkI w x.1 ((lentI x.2).map I64)

theorem lentII_of {base : Nat} {w : World} {v : Value} {L : List (Nat × List Int)} (hown : OwnL base w v (L.map lentV)) (hin : LentIn w L) : ∃ a c, v = .slice a L.length c ∧ L.length ≤ c ∧ LentII w a (L.map (·.2)) := by
  obtain ⟨h0, ⟨rfl, h2⟩ | ⟨g, cap, cur, rfl, hg, hh, hn, hm, hs, ht⟩⟩ := hown
  · have hL : L.length = 0 := by simpa using h2
    obtain rfl := List.eq_nil_of_length_eq_zero hL
    exact ⟨none, 0, rfl, Nat.le_refl _, .inl rfl⟩
  · refine ⟨_, cap, by simp, by simpa using hn, .inr ⟨g, 0, rfl, fun i zs hz => ?_⟩⟩
    rw [List.getElem?_map] at hz
    rcases hx : L[i]? with _ | x
    · rw [hx] at hz; cases hz
    · rw [hx] at hz
      cases hz
      refine ⟨x.1, ?_, hin x (List.mem_of_getElem? hx)⟩
      have hi : i < L.length := (List.getElem?_eq_some_iff.1 hx).1
      have e1 : (cur.toList.take ((L.map lentV).length * 1))[i]? = some (lentV x) := by rw [ht, List.getElem?_map, hx]; rfl
      rw [List.getElem?_take_of_lt (by simpa using hi)] at e1
      simp [World.cell?, hh]
      simpa [lentV] using e1
end Go.Proofs.Ytbamocalhojmeaa

/- assizekit.CopyEvents: a row of its own. -/
namespace Go.Proofs.Ytbamocalhojmeaa
open Go.RowKit
set_option linter.unusedVariables false

theorem rowEv_cell {w : World} {g o : Nat} {es : List Ev} (h : RowEv w (some ⟨g, o, none⟩) es) (j : Nat) (v : Value) (hj : (flatE es)[j]? = some v) : w.cell? ⟨g, o + j, none⟩ = some v := by
  have hj2 : j < 3 * es.length := by have := (List.getElem?_eq_some_iff.1 hj).1; rwa [flatE_length] at this
  rcases h with h0 | ⟨g', o', ha, hc⟩
  · rw [h0] at hj2; simp at hj2
  · cases ha
    have hq : j / 3 < es.length := by omega
    have hx := List.getElem?_eq_getElem hq
    have hj3 : j % 3 < (es[j / 3]).cells.length := by simp [Ev.cells]; omega
    have hy := flatE_at es (j / 3) _ hx (j % 3) _ (List.getElem?_eq_getElem hj3)
    rw [show j / 3 * 3 + j % 3 = j by omega, hj] at hy
    have hz := hc (j / 3) _ hx (j % 3) _ (List.getElem?_eq_getElem hj3)
    rw [← (show o + j / 3 * 3 + j % 3 = o + j by omega), hz, ← hy]
theorem heap_new (w : World) (o : Obj) : (w.alloc o).heap[w.heap.size]? = some o := by
  unfold World.alloc
  exact Array.getElem?_push_size
theorem add_none (g o j : Nat) : (⟨g, o, none⟩ : Addr).add j = ⟨g, o + j, none⟩ := by unfold Addr.add; split <;> simp_all

set_option maxRecDepth 100000 in
set_option maxHeartbeats 1600000 in
theorem copyEvents_any (g o cap : Nat) (es : List Ev) (w : World) (hrow : RowEv w (some ⟨g, o, none⟩) es) (hmax : es.length ≤ 1048576) :
    Calls Try.prog 30 #[.slice (some ⟨g, o, none⟩) es.length cap] w fun e w' => ∃ v, e = .returned v ∧ w'.ownsRow w.heap.size 50 3 v es.length (flatE es) ∧ Below w.heap.size w w' := by
  obtain ⟨i0, hi, hz0, hz1, hz2⟩ := info_parts Try.info50
  have hal : Below w.heap.size w (w.alloc (.cells #[] 50)) := (Below.refl _ w).alloc (Nat.le_refl _) _
  have HO : (w.alloc (.cells #[] 50)).ownsRow w.heap.size 50 3 (.slice (some ⟨w.heap.size, 0, none⟩) 0 0) 0 [] := ⟨rfl, .inr ⟨w.heap.size, 0, #[], rfl, Nat.le_refl _, heap_new w _, Nat.le_refl _, by unfold maxLen; omega, rfl, rfl⟩⟩
  have HR := rowEv_cell (hrow.below hal)
  have HS : Hid (∀ j u, (flatE es)[j]? = some u → (w.alloc (.cells #[] 50)).cell? ((⟨g, o, none⟩ : Addr).add j) = some u) := fun j u hj => by rw [add_none]; exact HR j u hj
  have HO2 : Hid _ := HO
  clear HR hrow HO
  go_enter Try.func30, Try.ntmps30
  go_wp2_with (at_builtin; refine wpList_append_own (w := w.alloc (.cells #[] 50)) rfl (.tmp 3) (.tmp 4) 22 rfl w.heap.size 50 i0 _ 3 24 Try.underlying22 hi hz0 hz1 hz2 rfl (by decide) _ 0 [] rfl HO2.out ⟨g, o, none⟩ es.length cap (flatE es) rfl (by rw [flatE_length]; omega) HS.out (one_flatE es) (by unfold maxLen; omega) (by omega) (by simp) ?_; intro v' w' h1 h2 _)
  have hb : Below w.heap.size w w' := hal.grown h2 (by simp) (by intro k hk; cases hk; exact Nat.le_refl _)
  have h3 : Hid _ := h1
  clear h1 h2 HS HO2
  go_wp2
  go_ret
  exact ⟨_, rfl, by have := h3.out; rwa [Nat.zero_add, List.nil_append] at this, hb⟩
end Go.Proofs.Ytbamocalhojmeaa

/- Regions that draw their order and end in stores to what they read: a condition on the world that holds till the first of these stores comes up. -/
namespace Go.Proofs.Ytbamocalhojmeaa
open Go Go.RowKit
set_option linter.unusedVariables false

section
variable {P : Program} {ops : Array Oper} {Q : Exit → Act → World → Prop} {md : Region.Mode} {S : World → Prop} {St : List Nat}

/-- As long as none of the stores has come up, S holds. -/
def Hold (S : World → Prop) (St : List Nat) (listed : Array Bool) (w : World) : Prop := (∀ s ∈ St, listed.getD s true = false) → S w
def wpAnyS (P : Program) (md : Region.Mode) (ops : Array Oper) (Q : Exit → Act → World → Prop) (S : World → Prop) (St : List Nat) : Nat → Array Bool → Act → World → Prop
  | 0, listed, a, w => Region.ready md ops listed = [] ∧ Q .normal a w
  | fuel + 1, listed, a, w =>
    (Region.ready md ops listed = [] → Q .normal a w) ∧
    ∀ i ∈ Region.ready md ops listed, wpOp P ops Q i (fun a' w' => Hold S St (listed.setIfInBounds i true) w' ∧ wpAnyS P md ops Q S St fuel (listed.setIfInBounds i true) a' w') a w
theorem wpAny_of_S : ∀ (fuel : Nat) (listed : Array Bool) (a : Act) (w : World), wpAnyS P md ops Q S St fuel listed a w → wpAny P md ops Q fuel listed a w
  | 0, _, _, _, h => h
  | fuel + 1, _, _, _, h => ⟨h.1, fun i hi => wpOp_mono (fun a' w' h' => wpAny_of_S fuel _ a' w' h'.2) (h.2 i hi)⟩

theorem hold_less {i j : Nat} {listed : Array Bool} {w : World} (hi : i ∉ St) (h : Hold S St ((listed.setIfInBounds i true).setIfInBounds j true) w) : Hold S St (listed.setIfInBounds j true) w := fun hs => h fun s hm => by
  have hsi : i ≠ s := fun e => hi (e ▸ hm)
  have := hs s hm
  by_cases hj : j = s
  · subst hj
    rw [Array.setIfInBounds_comm _ _ hsi, getD_set_ne true hsi]
    exact this
  · rw [getD_set_ne true hj] at this
    rw [getD_set_ne true hj, getD_set_ne true hsi]
    exact this

theorem wpAnyS_first {i : Nat} {oi : Oper} {v : Value} (hi : ops[i]? = some oi) (hsel : ∀ (j : Nat) (o : Oper) cs b, ops[j]? = some o → o.op ≠ .select cs b)
    (hQ : ∀ c a w, Q (.panic c) (a.put oi.dst v) w → Q (.panic c) a w) (hiS : i ∉ St) (Inv : Array Bool → Prop) (S0 : World → Prop)
    (hInv : ∀ listed j, Inv listed → listed.getD i true = false → j ∈ Region.ready md ops listed → j ≠ i → Inv (listed.setIfInBounds j true))
    (hY : ∀ listed w, Inv listed → Hold S St listed w → S0 w) :
    ∀ (fuel : Nat) (listed : Array Bool) (a : Act) (w : World),
      (∀ j oj, ops[j]? = some oj → j ≠ i → listed.getD j true = false → (∀ e ∈ oj.after, Region.binds md e = true → e.on ≠ i) → oi.apart ops oj = true) →
      i ∈ Region.ready md ops listed → Inv listed → YieldsIf P ops S0 oi v a → Hold S St listed w →
      Hold S St (listed.setIfInBounds i true) w → wpAnyS P md ops Q S St fuel (listed.setIfInBounds i true) (a.put oi.dst v) w → wpAnyS P md ops Q S St (fuel + 1) listed a w := by
  intro fuel
  induction fuel with
  | zero =>
    intro listed a w _ hr hv hy hS hSi H
    refine ⟨fun h => (by rw [h] at hr; cases hr), fun j hj => ?_⟩
    by_cases hji : j = i
    · subst hji; exact hy.wpOp hi (hY _ _ hv hS) ⟨hSi, H⟩
    · have := ready_mono hj hji
      rw [H.1] at this
      cases this
  | succ fuel ih =>
    intro listed a w hfree hr hv hy hS hSi H
    refine ⟨fun h => (by rw [h] at hr; cases hr), fun j hj => ?_⟩
    by_cases hji : j = i
    · subst hji; exact hy.wpOp hi (hY _ _ hv hS) ⟨hSi, H⟩
    · have h1 := H.2 j (ready_mono hj hji)
      obtain ⟨hjun, oj, hoj, hall⟩ := mem_ready.1 hj
      have hnot : ∀ e ∈ oj.after, Region.binds md e = true → e.on ≠ i := fun e he hb heq => by
        have h1 := hall e he hb
        have h0 := (mem_ready.1 hr).1
        rw [heq] at h1
        rcases Nat.lt_or_ge i listed.size with h' | h'
        · simp [h'] at h0 h1; rw [h0] at h1; cases h1
        · simp [Array.getElem?_eq_none h'] at h1
      have h2 := wpOp_putIf hoj (hfree j oj hoj hji hjun hnot) (fun cs b => hsel i oi cs b hi) (fun cs b => hsel j oj cs b hoj) hQ hy h1
      have hfree' : ∀ k ok, ops[k]? = some ok → k ≠ i → (listed.setIfInBounds j true).getD k true = false →
          (∀ e ∈ ok.after, Region.binds md e = true → e.on ≠ i) → oi.apart ops ok = true := fun k ok hk hki hun hno => by
        refine hfree k ok hk hki ?_ hno
        by_cases hjk : j = k
        · subst hjk; exact hjun
        · rw [getD_set_ne true hjk] at hun; exact hun
      refine wpOp_mono (fun a' w' h3 => ?_) h2
      have hh := hold_less hiS h3.2.1
      refine ⟨hh, ih (listed.setIfInBounds j true) a' w' hfree' (ready_mono hr (Ne.symm hji)) (hInv _ _ hv (mem_ready.1 hr).1 hj hji) h3.1 hh ?_ ?_⟩
      · rw [Array.setIfInBounds_comm _ _ hji]
        exact h3.2.1
      · rw [Array.setIfInBounds_comm _ _ hji]
        exact h3.2.2

/-- Number i is taken first: it yields v in whatever world. -/
theorem wpAnyS_pure {i : Nat} {oi : Oper} {v : Value} {fuel : Nat} {listed : Array Bool} {a : Act} {w : World} (hi : ops[i]? = some oi)
    (hs : Region.noSelect ops = true) (hf : Region.free md ops listed i = true) (hr : (Region.ready md ops listed).contains i = true) (hiS : St.contains i = false)
    (hQ : ∀ c a w, Q (.panic c) (a.put oi.dst v) w → Q (.panic c) a w) (hy : YieldsIf P ops (fun _ => True) oi v a) (hS : Hold S St listed w)
    (h : Hold S St (listed.setIfInBounds i true) w → wpAnyS P md ops Q S St fuel (listed.setIfInBounds i true) (a.put oi.dst v) w) : wpAnyS P md ops Q S St (fuel + 1) listed a w := by
  have hn : i ∉ St := fun hm => by rw [List.contains_iff_mem.2 hm] at hiS; cases hiS
  have h2 : Hold S St (listed.setIfInBounds i true) w := fun q => hS fun s hm => by have := q s hm; rwa [getD_set_ne true (show i ≠ s from fun e => hn (e ▸ hm))] at this
  exact wpAnyS_first hi (Region.noSelect_spec hs) hQ hn (fun _ => True) (fun _ => True) (fun _ _ _ _ _ _ => trivial) (fun _ _ _ _ => trivial) fuel listed a w (Region.free_spec hi hf) (by simpa using hr) trivial hy hS h2 (h h2)
/-- Number i is taken first: it yields v where S holds, and the stores wait for it. -/
theorem wpAnyS_take {i : Nat} {oi : Oper} {v : Value} {fuel : Nat} {listed : Array Bool} {a : Act} {w : World} (Wt : List Nat) (hi : ops[i]? = some oi)
    (hs : Region.noSelect ops = true) (hf : Region.free md ops listed i = true) (hr : (Region.ready md ops listed).contains i = true) (hiS : St.contains i = false)
    (hW : (Wt.all fun j => ((ops[j]?).map fun o => o.after.any fun e => Region.binds md e && (e.on == i || Wt.contains e.on)) == some true) = true) (hSW : (St.all fun j => Wt.contains j) = true) (hun : (Wt.all fun j => listed.getD j true == false) = true)
    (hQ : ∀ c a w, Q (.panic c) (a.put oi.dst v) w → Q (.panic c) a w) (hy : YieldsIf P ops S oi v a) (hS : Hold S St listed w)
    (h : Hold S St (listed.setIfInBounds i true) w → wpAnyS P md ops Q S St fuel (listed.setIfInBounds i true) (a.put oi.dst v) w) : wpAnyS P md ops Q S St (fuel + 1) listed a w := by
  have hn : i ∉ St := fun hm => by rw [List.contains_iff_mem.2 hm] at hiS; cases hiS
  have h2 : Hold S St (listed.setIfInBounds i true) w := fun q => hS fun s hm => by have := q s hm; rwa [getD_set_ne true (show i ≠ s from fun e => hn (e ▸ hm))] at this
  refine wpAnyS_first hi (Region.noSelect_spec hs) hQ hn (fun l => ∀ j ∈ Wt, l.getD j true = false) S ?_ ?_ fuel listed a w (Region.free_spec hi hf) (by simpa using hr) ?_ hy hS h2 (h h2)
  · intro l j hl hil hj hji k hk
    by_cases hjk : j = k
    · subst hjk
      exfalso
      have h1 := List.all_eq_true.1 hW j hk
      rw [beq_iff_eq] at h1
      obtain ⟨o, ho, h3⟩ := Option.map_eq_some_iff.1 h1
      obtain ⟨e, he, h4⟩ := Array.any_eq_true'.1 h3
      rw [Bool.and_eq_true, Bool.or_eq_true] at h4
      obtain ⟨hjun, oj, hoj, hall⟩ := mem_ready.1 hj
      rw [ho] at hoj
      cases hoj
      have h5 := hall e he h4.1
      have h6 : l.getD e.on true = false := by
        rcases h4.2 with q | q
        · rw [beq_iff_eq] at q; rw [q]; exact hil
        · exact hl _ (List.contains_iff_mem.1 q)
      rcases Nat.lt_or_ge e.on l.size with h' | h'
      · simp [h'] at h5 h6; rw [h6] at h5; cases h5
      · simp [Array.getElem?_eq_none h'] at h5
    · rw [getD_set_ne true hjk]; exact hl k hk
  · intro l w' hl hh
    exact hh fun s hm => hl s (List.contains_iff_mem.1 (List.all_eq_true.1 hSW s hm))
  · intro j hj
    have := List.all_eq_true.1 hun j hj
    rwa [beq_iff_eq] at this

def AllReadyS (P : Program) (md : Region.Mode) (ops : Array Oper) (Q : Exit → Act → World → Prop) (S : World → Prop) (St : List Nat) (fuel : Nat) (listed : Array Bool) (a : Act) (w : World) (rs : List Nat) : Prop :=
  ∀ i ∈ rs, wpOp P ops Q i (fun a' w' => Hold S St (listed.setIfInBounds i true) w' ∧ wpAnyS P md ops Q S St fuel (listed.setIfInBounds i true) a' w') a w
theorem AllReadyS.nil {fuel : Nat} {listed : Array Bool} {a : Act} {w : World} : AllReadyS P md ops Q S St fuel listed a w [] := fun _ h => by cases h
theorem AllReadyS.cons {fuel : Nat} {listed : Array Bool} {a : Act} {w : World} {i : Nat} {o : Oper} {rs : List Nat} (ho : ops[i]? = some o)
    (h : ∀ K' : Act → World → Prop, Shut (∀ a w, Hold S St (listed.setIfInBounds i true) w → (Hold S St (listed.setIfInBounds i true) w → wpAnyS P md ops Q S St fuel (listed.setIfInBounds i true) a w) → K' a w) → if Region.wanted o (yielded ops a.tmps) = true then Oper.wp P o a w K' Q else K' (a.put o.dst undef) w)
    (hs : AllReadyS P md ops Q S St fuel listed a w rs) : AllReadyS P md ops Q S St fuel listed a w (i :: rs) := fun j hj => by
  rcases List.mem_cons.1 hj with rfl | hj
  · exact wpOp_step ho (fun K' hK => h K' (fun a w hS hW => hK a w ⟨hS, hW hS⟩))
  · exact hs j hj
theorem wpAnyS_ready {rs : List Nat} {fuel : Nat} {listed : Array Bool} {a : Act} {w : World} (hr : Region.ready md ops listed = rs) (hne : rs ≠ [])
    (h : AllReadyS P md ops Q S St fuel listed a w rs) : wpAnyS P md ops Q S St (fuel + 1) listed a w := ⟨fun h0 => absurd (hr ▸ h0) hne, hr ▸ h⟩
theorem wpAnyS_done {listed : Array Bool} {a : Act} {w : World} (hr : Region.ready md ops listed = []) (h : Q .normal a w) :
    ∀ fuel, wpAnyS P md ops Q S St fuel listed a w
  | 0 => ⟨hr, h⟩
  | _ + 1 => ⟨fun _ => h, by rw [hr]; simp⟩
theorem wp_region_S {id : Nat} {a : Act} {w : World} (hm : P.follows .mixedOrders = true) (hS : S w.drew)
    (h : Hold S St (Array.replicate ops.size false) w.drew → wpAnyS P .any ops Q S St ops.size (Array.replicate ops.size false) a w.drew) : (Code.region id ops true).wp P Q a w :=
  wp_region_any hm (wpAny_of_S _ _ _ _ (h fun _ => hS))
/-- A store has come up: nothing more is to be shown. -/
theorem Hold.over {s : Nat} {listed : Array Bool} {w : World} (h : s ∈ St) (hl : listed.getD s true = true) : Hold S St listed w := fun q => by
  have := q s h
  rw [hl] at this
  cases this
theorem Hold.of {listed : Array Bool} {w : World} (h : S w) : Hold S St listed w := fun _ => h
end
end Go.Proofs.Ytbamocalhojmeaa
