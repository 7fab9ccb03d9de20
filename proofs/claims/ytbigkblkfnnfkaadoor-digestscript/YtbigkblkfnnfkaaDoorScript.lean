/- DigestScript: what the loop keeps. -/
import Derived.Test.YtbigkblkfnnfkaaDoorOver
namespace Go.Proofs.YtbigkblkfnnfkaaDoor
open Go.RowKit
set_option linter.unusedVariables false

/-- Two values, the current one at place 'now'. -/
def pair (now : Nat) (x y : Value) : List Value := if now = 0 then [x, y] else [y, x]

theorem pair_now (now : Nat) (h : now ≤ 1) (x y : Value) : (pair now x y)[now]? = some x := by
  unfold pair
  rcases Nat.lt_or_ge now 1 with h1 | h1
  · obtain rfl : now = 0 := by omega
    rfl
  · obtain rfl : now = 1 := by omega
    rfl
theorem pair_other (now : Nat) (h : now ≤ 1) (x y : Value) : (pair now x y)[1 - now]? = some y := by
  unfold pair
  rcases Nat.lt_or_ge now 1 with h1 | h1
  · obtain rfl : now = 0 := by omega
    rfl
  · obtain rfl : now = 1 := by omega
    rfl
theorem pair_set_now (now : Nat) (h : now ≤ 1) (x y z : Value) : (pair now x y).set now z = pair now z y := by
  unfold pair
  rcases Nat.lt_or_ge now 1 with h1 | h1
  · obtain rfl : now = 0 := by omega
    rfl
  · obtain rfl : now = 1 := by omega
    rfl
theorem pair_set_other (now : Nat) (h : now ≤ 1) (x y z : Value) : (pair now x y).set (1 - now) z = pair now x z := by
  unfold pair
  rcases Nat.lt_or_ge now 1 with h1 | h1
  · obtain rfl : now = 0 := by omega
    rfl
  · obtain rfl : now = 1 := by omega
    rfl
theorem pair_swap (now : Nat) (h : now ≤ 1) (x y : Value) : pair (1 - now) y x = pair now x y := by
  unfold pair
  rcases Nat.lt_or_ge now 1 with h1 | h1
  · obtain rfl : now = 0 := by omega
    rfl
  · obtain rfl : now = 1 := by omega
    rfl

/-- Where a row lies: in none of these blocks. -/
def Off (a : Option Addr) (l : List Nat) : Prop := ∀ b off, a = some ⟨b, off, none⟩ → b ∉ l

abbrev P0 (g : Nat) : Value := .pointer (some ⟨g, 0, none⟩)

/-- What the loop keeps: the two hashes and the two messages. -/
structure Sc (w0 : World) (gh gm : Nat) (wr : World) (now g g' : Nat) (a a' : Option Addr) (c c' : Nat) (m m' mh : List UInt8) : Prop where
  hh : At 44 wr gh (pair now (P0 g) (P0 g'))
  hm : At 22 wr gm (pair now (.slice a m.length c) (.slice a' m'.length c'))
  h1 : HashIs wr g mh
  h2 : HashIs wr g' m'
  r1 : Row wr a m
  r2 : Row wr a' m'
  n1 : a = none → c = 0
  n2 : a' = none → c' = 0
  l1 : m.length ≤ c
  l2 : m'.length ≤ c'
  d1 : Off a [g, g', gh, gm]
  d2 : Off a' [g, g', gh, gm]
  e1 : g ≠ g'
  e2 : gh ≠ gm
  e3 : g ≠ gh
  e4 : g ≠ gm
  e5 : g' ≠ gh
  e6 : g' ≠ gm
  b1 : w0.heap.size ≤ g
  b2 : w0.heap.size ≤ g'
  b3 : w0.heap.size ≤ gh
  b4 : w0.heap.size ≤ gm
  o1 : ∀ b off, a = some ⟨b, off, none⟩ → b < wr.heap.size
  o2 : ∀ b off, a' = some ⟨b, off, none⟩ → b < wr.heap.size
  bel : Below w0.heap.size w0 wr

section
variable {w0 wr : World} {gh gm now g g' : Nat} {a a' : Option Addr} {c c' : Nat} {m m' mh : List UInt8}

theorem HashIs.below' {w w' : World} {g : Nat} {m : List UInt8} (h : HashIs w g m) (hb : Below w.heap.size w w') : HashIs w' g m := by
  obtain ⟨blk, h1, h2, h3⟩ := h
  exact ⟨blk, h1, h2.below hb, h3⟩

theorem Sc.below (h : Sc w0 gh gm wr now g g' a a' c c' m m' mh) {w' : World} (hb : Below wr.heap.size wr w') : Sc w0 gh gm w' now g g' a a' c c' m m' mh :=
  { h with hh := h.hh.below hb, hm := h.hm.below hb, h1 := h.h1.below' hb, h2 := h.h2.below' hb, r1 := h.r1.below hb, r2 := h.r2.below hb, o1 := fun b off e => Nat.lt_of_lt_of_le (h.o1 b off e) hb.size, o2 := fun b off e => Nat.lt_of_lt_of_le (h.o2 b off e) hb.size, bel := h.bel.trans (hb.mono h.bel.size) }

theorem Sc.drew (h : Sc w0 gh gm wr now g g' a a' c c' m m' mh) : Sc w0 gh gm wr.drew now g g' a a' c c' m m' mh :=
  { h with bel := h.bel.drew }

theorem Sc.swap (h : Sc w0 gh gm wr now g g' a a' c c' m m' m) (hn : now ≤ 1) : Sc w0 gh gm wr (1 - now) g' g a' a c' c m' m m' :=
  { h with
    hh := by rw [pair_swap now hn]; exact h.hh
    hm := by rw [pair_swap now hn]; exact h.hm
    h1 := h.h2, h2 := h.h1, r1 := h.r2, r2 := h.r1, n1 := h.n2, n2 := h.n1, l1 := h.l2, l2 := h.l1
    d1 := fun b off e hb => h.d2 b off e (by simp at hb ⊢; omega)
    d2 := fun b off e hb => h.d1 b off e (by simp at hb ⊢; omega)
    e1 := fun e => h.e1 e.symm, e3 := h.e5, e4 := h.e6, e5 := h.e3, e6 := h.e4, b1 := h.b2, b2 := h.b1, o1 := h.o2, o2 := h.o1 }

theorem But.row' {g : Nat} {w w' : World} {a : Option Addr} {bs : List UInt8} {l : List Nat} (h : But g w w') (hr : Row w a bs) (hd : Off a l) (hg : g ∈ l) : Row w' a bs :=
  h.row hr (fun b off e hb => hd b off e (by rw [hb]; exact hg))

/-- Another block than these was turned. -/
theorem Sc.but (h : Sc w0 gh gm wr now g g' a a' c c' m m' mh) {w' : World} {k : Nat} (hb : But k wr w') (h1 : k ≠ g) (h2 : k ≠ g') (h3 : k ≠ gh) (h4 : k ≠ gm) (hk : w0.heap.size ≤ k) (ha : Off a [k]) (ha' : Off a' [k]) : Sc w0 gh gm w' now g g' a a' c c' m m' mh :=
  { h with
    hh := hb.at h.hh (by omega), hm := hb.at h.hm (by omega), h1 := h.h1.but hb (by omega), h2 := h.h2.but hb (by omega)
    r1 := hb.row' h.r1 ha (by simp), r2 := hb.row' h.r2 ha' (by simp)
    o1 := fun b off e => Nat.lt_of_lt_of_le (h.o1 b off e) hb.size, o2 := fun b off e => Nat.lt_of_lt_of_le (h.o2 b off e) hb.size
    bel := hb.below h.bel hk h.bel.size }

/-- A new block was laid and filled. -/
theorem Sc.fresh (h : Sc w0 gh gm wr now g g' a a' c c' m m' mh) {w3 w4 : World} (hb3 : Below wr.heap.size wr w3) (hb4 : But wr.heap.size w3 w4) : Sc w0 gh gm w4 now g g' a a' c c' m m' mh :=
  (h.below hb3).but hb4 (Nat.ne_of_gt h.h1.lt) (Nat.ne_of_gt h.h2.lt) (Nat.ne_of_gt h.hh.lt) (Nat.ne_of_gt h.hm.lt) h.bel.size
    (fun b off e hb => by have := h.o1 b off e; simp at hb; omega) (fun b off e hb => by have := h.o2 b off e; simp at hb; omega)

theorem Sc.ch (h : Sc w0 gh gm wr now g g' a a' c c' m m' mh) (hn : now ≤ 1) : wr.cell? ⟨gh, now, none⟩ = some (P0 g) := by rw [h.hh.cell, pair_now now hn]
theorem Sc.ch' (h : Sc w0 gh gm wr now g g' a a' c c' m m' mh) (hn : now ≤ 1) : wr.cell? ⟨gh, 1 - now, none⟩ = some (P0 g') := by rw [h.hh.cell, pair_other now hn]
theorem Sc.cm (h : Sc w0 gh gm wr now g g' a a' c c' m m' mh) (hn : now ≤ 1) : wr.cell? ⟨gm, now, none⟩ = some (.slice a m.length c) := by rw [h.hm.cell, pair_now now hn]
theorem Sc.cm' (h : Sc w0 gh gm wr now g g' a a' c c' m m' mh) (hn : now ≤ 1) : wr.cell? ⟨gm, 1 - now, none⟩ = some (.slice a' m'.length c') := by rw [h.hm.cell, pair_other now hn]

/-- The current hash has read more. -/
theorem Sc.wrote (h : Sc w0 gh gm wr now g g' a a' c c' m m' m) {w' : World} {mm : List UInt8} (hb : But g wr w') (hH : HashIs w' g mm) : Sc w0 gh gm w' now g g' a a' c c' m m' mm :=
  { h with
    hh := hb.at h.hh (fun e => h.e3 e.symm), hm := hb.at h.hm (fun e => h.e4 e.symm), h1 := hH, h2 := h.h2.but hb (fun e => h.e1 e.symm)
    r1 := hb.row' h.r1 h.d1 (by simp), r2 := hb.row' h.r2 h.d2 (by simp)
    o1 := fun b off e => Nat.lt_of_lt_of_le (h.o1 b off e) hb.size, o2 := fun b off e => Nat.lt_of_lt_of_le (h.o2 b off e) hb.size
    bel := hb.below h.bel h.b1 h.bel.size }

theorem But.cell1 (w : World) (g i : Nat) (v : Value) : But g w (w.setCell ⟨g, i, none⟩ v) := (But.refl g w).setCell i v

/-- The current message is what its hash has read. -/
theorem Sc.appended (h : Sc w0 gh gm wr now g g' a a' c c' m m' mh) (hn : now ≤ 1) {a3 : Option Addr} {c3 : Nat} (hr : Row wr a3 mh) (hl : mh.length ≤ c3) (h0 : a3 = none → c3 = 0) (hd : Off a3 [g, g', gh, gm]) (ho : ∀ b off, a3 = some ⟨b, off, none⟩ → b < wr.heap.size) :
    Sc w0 gh gm (wr.setCell ⟨gm, now, none⟩ (.slice a3 mh.length c3)) now g g' a3 a' c3 c' mh m' mh := by
  have B := But.cell1 wr gm now (.slice a3 mh.length c3)
  have sz : (wr.setCell ⟨gm, now, none⟩ (.slice a3 mh.length c3)).heap.size = wr.heap.size := by simp
  refine { h with hh := B.at h.hh h.e2, hm := ?_, h1 := h.h1.but B h.e4, h2 := h.h2.but B h.e6, r1 := B.row' hr hd (by simp), r2 := B.row' h.r2 h.d2 (by simp), n1 := h0, l1 := hl, d1 := hd, o1 := by rw [sz]; exact ho, o2 := by rw [sz]; exact h.o2, bel := B.below h.bel h.b4 h.bel.size }
  have := h.hm.set now (.slice a3 mh.length c3)
  rw [pair_set_now now hn] at this
  exact this

/-- The other one is a clone of the current one, and goes on. -/
theorem Sc.cloned (h : Sc w0 gh gm wr now g g' a a' c c' m m' m) (hn : now ≤ 1) {g2 : Nat} (hH : HashIs wr g2 m) (x1 : g2 ≠ g) (x2 : g2 ≠ gh) (x3 : g2 ≠ gm) (x4 : w0.heap.size ≤ g2) (x5 : Off a [g2]) {nw : Nat} (hnw : nw = 1 - now) :
    Sc w0 gh gm ((wr.setCell ⟨gh, nw, none⟩ (P0 g2)).setCell ⟨gm, nw, none⟩ (.slice a m.length c)) nw g2 g a a c c m m m := by
  subst hnw
  have B1 := But.cell1 wr gh (1 - now) (P0 g2)
  have B2 := But.cell1 (wr.setCell ⟨gh, 1 - now, none⟩ (P0 g2)) gm (1 - now) (.slice a m.length c)
  have hd : Off a [g2, g, gh, gm] := fun b off e hb => by
    have h1 := h.d1 b off e
    have h2 := x5 b off e
    simp at h1 h2 hb
    omega
  have r : Row ((wr.setCell ⟨gh, 1 - now, none⟩ (P0 g2)).setCell ⟨gm, 1 - now, none⟩ (.slice a m.length c)) a m := B2.row' (B1.row' h.r1 h.d1 (by simp)) h.d1 (by simp)
  have sz : ((wr.setCell ⟨gh, 1 - now, none⟩ (P0 g2)).setCell ⟨gm, 1 - now, none⟩ (.slice a m.length c)).heap.size = wr.heap.size := by simp
  refine { hh := ?_, hm := ?_, h1 := (hH.but B1 x2).but B2 x3, h2 := (h.h1.but B1 h.e3).but B2 h.e4, r1 := r, r2 := r, n1 := h.n1, n2 := h.n1, l1 := h.l1, l2 := h.l1, d1 := hd, d2 := hd, e1 := x1, e2 := h.e2, e3 := x2, e4 := x3, e5 := h.e3, e6 := h.e4, b1 := x4, b2 := h.b1, b3 := h.b3, b4 := h.b4, o1 := by rw [sz]; exact h.o1, o2 := by rw [sz]; exact h.o1, bel := B2.below (B1.below h.bel h.b3 h.bel.size) h.b4 (by simp; exact h.bel.size) }
  · have := (h.hh.set (1 - now) (P0 g2)).setOther ⟨gm, 1 - now, none⟩ (.slice a m.length c) h.e2
    rw [pair_set_other now hn] at this
    rw [pair_swap now hn]
    exact this
  · have := (h.hm.setOther ⟨gh, 1 - now, none⟩ (P0 g2) (fun e => h.e2 e.symm)).set (1 - now) (.slice a m.length c)
    rw [pair_set_other now hn] at this
    rw [pair_swap now hn]
    exact this

end

/-- What is known of a script that came in. -/
def ActRow (w : World) (a : Option Addr) (xs : List (Nat × List UInt8)) : Prop :=
  xs = [] ∨ ∃ b off, a = some ⟨b, off, none⟩ ∧ ∀ j, j < xs.length → (xs.getD j (0, [])).1 < 256 ∧ w.cell? ⟨b, off + j * 2, none⟩ = some (.int .u8 ((xs.getD j (0, [])).1 : Int)) ∧
    ∃ fa fc, w.cell? ⟨b, off + j * 2 + 1, none⟩ = some (.slice fa (xs.getD j (0, [])).2.length fc) ∧ Row w fa (xs.getD j (0, [])).2 ∧ (xs.getD j (0, [])).2.length ≤ fc ∧ (fa = none → fc = 0)

theorem ActRow.below {w w' : World} {a : Option Addr} {xs : List (Nat × List UInt8)} (h : ActRow w a xs) (hb : Below w.heap.size w w') : ActRow w' a xs := by
  rcases h with h | ⟨b, off, e, h⟩
  · exact .inl h
  · refine .inr ⟨b, off, e, fun j hj => ?_⟩
    obtain ⟨h0, h1, fa, fc, h2, h3, h4, h5⟩ := h j hj
    exact ⟨h0, by rw [hb.cell (lt_of_cell h1)]; exact h1, fa, fc, by rw [hb.cell (lt_of_cell h2)]; exact h2, h3.below hb, h4, h5⟩

/-- 'append(out, src...)' on a row of the call's own, as one step of a region that draws its order. -/
theorem step_appRow {ops : Array Oper} {o : Oper} {a : Act} {K : Act → World → Prop} {Q : Exit → Act → World → Prop} {E : Prop} {w : World} (s x : Operand) (base : Nat) (v : Value) (out : List UInt8) (src : Option Addr) (n c : Nat) (bs : List UInt8)
    (hgd : o.guard = none) (ho : o.op = .call { callee := .builtin .append, args := #[s, x], argTypes := #[22, 22] })
    (hs : a.eval s = v) (hx : a.eval x = .slice src n c) (hown : Own base w v out) (hrow : Row w src bs) (hn : bs.length = n) (hnil : src = none → c = 0) (hlen : out.length + n ≤ 1099511627776) (hbase : base ≤ w.heap.size)
    (h : ∀ v' w', Own base w' v' (out ++ bs) → Below base w w' → K (a.put o.dst v') w') :
    if Region.wanted o (yielded ops a.tmps) = true then Oper.wp Tryd.prog o a w K Q else E := by
  have hw : Region.wanted o (yielded ops a.tmps) = true := by simp [Region.wanted, hgd]
  rw [if_pos hw]
  obtain ⟨i0, hi, hz0, hz1, hz2⟩ := info_parts Tryd.info5
  subst hn
  cases src with
  | none =>
    have hb : bs = [] := by
      rcases hrow with h | ⟨b, off, e, _⟩
      · exact h
      · cases e
    subst hb
    have hc := hnil rfl
    subst hc
    have hrun := run_append_owned_none (P := Tryd.prog) (w := w) base 22 o.type 5 i0 1 Tryd.underlying22 hi v out.length (out.map B8) hown
    unfold Oper.wp
    simp [execOp, ho, resolve, invoke, builtin, hs, hx, hrun, Result.andThen]
    exact h v w (by simpa using hown) (Below.refl _ _)
  | some ad =>
    refine wp_append_own w s x 22 ho base 5 i0 (.int .u8 0) 1 1 Tryd.underlying22 hi hz0 hz1 hz2 rfl (by decide) v out.length (out.map B8) hs hown
      ad bs.length c (bs.map B8) hx (by simp) ?c1 ?c2 ?c3 ?c4 ?c5 ?_
    case c1 =>
      intro j u hj
      have hjl : j < bs.length := by
        rcases Nat.lt_or_ge j bs.length with h | h
        · exact h
        · rw [List.getElem?_eq_none (by simpa using h)] at hj; cases hj
      rcases hrow with h | ⟨b, off, e, hcl⟩
      · subst h; simp at hjl
      · cases e
        have e2 : (⟨b, off, none⟩ : Addr).add j = ⟨b, off + j, none⟩ := by unfold Addr.add; split <;> simp_all
        rw [e2, hcl j hjl]
        simp [List.getElem?_eq_getElem hjl] at hj
        rw [← hj]
        simp [B8, List.getD, List.getElem?_eq_getElem hjl]
    case c2 => intro u hu; simp at hu; obtain ⟨b, _, rfl⟩ := hu; rfl
    case c3 => unfold maxLen; omega
    case c4 => omega
    case c5 => exact hbase
    intro v' w' h1 h2 _
    refine h v' w' ?_ ?_
    · unfold Own
      rw [List.map_append, List.length_append]
      exact h1
    · exact (Below.refl base w).grown h2 hbase hown.block

/-- A row of the call's own, by its address. -/
theorem Own.row2 {base : Nat} {w : World} {v : Value} {out : List UInt8} (h : Own base w v out) : ∃ a cap, v = .slice a out.length cap ∧ out.length ≤ cap ∧ Row w a out ∧ (a = none → cap = 0) ∧ ∀ b off, a = some ⟨b, off, none⟩ → base ≤ b ∧ b < w.heap.size := by
  have hlt := World.ownsRow.lt h
  obtain ⟨a, cap, hv, hc, _, hr⟩ := h.row
  subst hv
  refine ⟨a, cap, rfl, hc, hr, ?_, ?_⟩
  · rintro rfl
    obtain ⟨_, ⟨e, _⟩ | ⟨g, cap', cur, e, _⟩⟩ := h
    · injection e with _ _ e3
    · injection e with e1
      cases e1
  · rintro b off rfl
    exact hlt b (by
      obtain ⟨_, ⟨e, _⟩ | ⟨g, cap', cur, e, _⟩⟩ := h
      · injection e with e1
        cases e1
      · injection e with e1
        cases e1
        rfl)

theorem over_lent (g : Nat) (B : List UInt8) (w : World) (h : At 5 w g ((lent B).map B8)) (hl : B.length ≤ 4000) :
    Calls Tryd.prog 25 #[.slice (some ⟨g, 0, none⟩) B.length (B.length + 3)] w fun e w' => e = .returned (.tuple #[]) ∧ But g w w' := by
  have := over_any g B.length (lent B) w h (by rw [lent_length]; omega) (by rw [lent_length]; omega)
  rw [lent_length] at this
  exact this.mono (fun e w' h => ⟨h.1, h.2.1⟩)

theorem lent_row {w : World} {g : Nat} {B : List UInt8} (h : Blk w g ((lent B).map B8)) : Row w (some ⟨g, 0, none⟩) B := by
  have := h.row B.length (by rw [lent_length]; omega)
  simpa [lent] using this

theorem z48 : (Tryd.prog.info? 48).map (fun i => (i.zero, i.size)) = some (some (.agg [Value.int .u8 0, Value.slice none 0 0].toArray), 2) := by kernel_rfl
theorem i48 : (Tryd.prog.info? 48).map (·.size) = some 2 := by kernel_rfl

end Go.Proofs.YtbigkblkfnnfkaaDoor
