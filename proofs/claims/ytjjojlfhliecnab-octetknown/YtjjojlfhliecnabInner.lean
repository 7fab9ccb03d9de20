/- Slices of bytes in blocks of their own, and a slice of such slices: what is known of them, and how they are appended. -/
import Derived.Test.YtjjojlfhliecnabFields
namespace Go.Proofs.Ytjjojlfhliecnab
open Go.RowKit
set_option linter.unusedVariables false

/-- 'b[:h]', the bound of any kind. -/
theorem run_slice_to_k (w : World) (a : Option Addr) (len cap h : Nat) (kd : IntKind) (x : Int) (hx : x = (h : Int)) (hh : h ≤ cap) :
    (Instr.slice 22 (.slice a len cap) none (some (.int kd x)) none).run Try.prog w = .ok (.slice a h cap) w := by
  have he : Try.prog.elem 22 = 5 := by simp [Program.elem, Try.underlying22]
  rw [run_slice_h w 22 a len cap (by rw [he]; exact Try.underlying22) kd x (by omega) (by omega), he, size5]
  have hz : ∀ p : Addr, p.add 0 = p := fun p => by cases p; simp [Addr.add]
  have hm : a.map (fun p => p.add 0) = a := by cases a <;> simp [hz]
  simp only [Result.andThen, sliced, Nat.zero_mul, hm, Nat.sub_zero]
  rw [show x.toNat = h by omega]
  simp

/-- 'b[l:]', the bound of any kind. -/
theorem run_slice_from_k (w : World) (b off len cap l : Nat) (kd : IntKind) (x : Int) (hx : x = (l : Int)) (hl : l ≤ len) (hlc : len ≤ cap) :
    (Instr.slice 22 (.slice (some ⟨b, off, none⟩) len cap) (some (.int kd x)) none none).run Try.prog w = .ok (.slice (some ⟨b, if cap = l then off else off + l, none⟩) (len - l) (cap - l)) w := by
  have he : Try.prog.elem 22 = 5 := by simp [Program.elem, Try.underlying22]
  rw [Go.run_slice_l w 22 _ len cap (by rw [he]; exact Try.underlying22) kd x (by omega) (by omega), he, size5]
  simp only [Result.andThen, sliced, Nat.mul_one]
  rw [show x.toNat = l by omega]
  by_cases h : cap = l
  · simp [h]
  · have ha : (⟨b, off, none⟩ : Addr).add l = ⟨b, off + l, none⟩ := by unfold Addr.add; split <;> simp_all
    simp [h, ha]

/-- What is left of a row behind a cut. -/
theorem row_from {w : World} {b off cap l : Nat} {bs : List UInt8} (h : Row w (some ⟨b, off, none⟩) bs) (hl : l ≤ bs.length) (hc : bs.length ≤ cap) : Row w (some ⟨b, if cap = l then off else off + l, none⟩) (bs.drop l) := by
  rcases h with rfl | ⟨b', off', e, hcl⟩
  · exact .inl (by simp)
  · cases e
    by_cases h : cap = l
    · exact .inl (List.drop_eq_nil_of_le (by omega))
    · rw [if_neg h]
      refine .inr ⟨b, off + l, rfl, fun j hj => ?_⟩
      rw [List.length_drop] at hj
      rw [Nat.add_assoc, hcl (l + j) (by omega)]
      simp [List.getD]

/-- A slice in a block of its own: the block, how long the slice is, and all bytes of the block. -/
def valOf (x : Nat × Nat × List UInt8) : Value := .slice (some ⟨x.1, 0, none⟩) x.2.1 x.2.2.length
/-- Its bytes. -/
def fldOf (x : Nat × Nat × List UInt8) : List UInt8 := x.2.2.take x.2.1
/-- The block is as told. -/
def InB (base : Nat) (w : World) (x : Nat × Nat × List UInt8) : Prop := base ≤ x.1 ∧ x.2.1 ≤ x.2.2.length ∧ Blk w x.1 (x.2.2.map B8)

theorem fldOf_length {x : Nat × Nat × List UInt8} (h : x.2.1 ≤ x.2.2.length) : (fldOf x).length = x.2.1 := by simp [fldOf]; omega

theorem Blk.lt {w : World} {g : Nat} {cs : List Value} (h : Blk w g cs) : g < w.heap.size := by
  rcases Nat.lt_or_ge g w.heap.size with hlt | hge
  · exact hlt
  · unfold Blk at h; rw [Array.getElem?_eq_none hge] at h; simp at h

theorem InB.row {base : Nat} {w : World} {x : Nat × Nat × List UInt8} (h : InB base w x) : Row w (some ⟨x.1, 0, none⟩) (fldOf x) := by
  refine .inr ⟨x.1, 0, rfl, fun j hj => ?_⟩
  have hj1 : j < x.2.1 := by rw [fldOf_length h.2.1] at hj; exact hj
  have hj2 : j < x.2.2.length := by have := h.2.1; omega
  rw [Nat.zero_add, h.2.2.cell j]
  simp [fldOf, B8, List.getD, List.getElem?_take_of_lt hj1, List.getElem?_eq_getElem hj2]

theorem Try.info22 : (Try.prog.info? 22).map (fun i => (i.zero, i.size, i.bytes)) = some (some (.slice none 0 0), 1, 24) := by kernel_rfl

/-- The call's own row of slices. -/
def OwnL (base : Nat) (w : World) (v : Value) (vals : List Value) : Prop := w.ownsRow base 22 1 v vals.length vals

theorem OwnL.block {base : Nat} {w : World} {v : Value} {vals : List Value} (h : OwnL base w v vals) : ∀ k, v.ownBlock = some k → base ≤ k := by
  intro k hk
  obtain ⟨_, ⟨rfl, _⟩ | ⟨g, cap, cur, rfl, hg, _⟩⟩ := h
  · simp [Value.ownBlock] at hk
  · simp [Value.ownBlock] at hk
    omega

theorem OwnL.far {base : Nat} {w : World} {v : Value} {vals : List Value} (h : OwnL base w v vals) {g : Nat} {cs : List Value} (hb : Blk w g cs) : v.ownBlock ≠ some g := by
  intro hk
  obtain ⟨_, ⟨rfl, _⟩ | ⟨g', cap, cur, rfl, hg, hh, _⟩⟩ := h
  · simp [Value.ownBlock] at hk
  · simp [Value.ownBlock] at hk
    subst hk
    unfold Blk at hb
    rw [hh] at hb
    simp at hb

/-- 'l = append(l, s)'. -/
theorem appL {ops : Array Oper} {rest : List Oper} {o : Oper} {a : Act} {Q : Exit → Act → World → Prop} {w0 : World} (s x : Operand) (z : Value) (x0 : Nat × Nat × List UInt8) (base : Nat) (v : Value) (out : List Value)
    (hgd : o.guard = none) (ho : o.op = .call { callee := .builtin .append, args := #[s, x], argTypes := #[38, 38] })
    (hs : a.eval s = v) (hx : a.eval x = .slice (some ⟨w0.heap.size, 0, none⟩) 1 1) (hown : OwnL base w0 v out) (hz : z = valOf x0) (hlen : out.length ≤ 1048576) (hbase : base ≤ w0.heap.size)
    (h : ∀ v' w', OwnL base w' v' (out ++ [valOf x0]) → Below base w0 w' → (∀ g cs, Blk w0 g cs → Blk w' g cs) → wpList Try.prog ops Q rest (a.put o.dst v') w') :
    wpList Try.prog ops Q (o :: rest) a (w0.alloc (.cells #[z] 22)) := by
  obtain ⟨i0, hi, hz0, hz1, hz2⟩ := info_parts Try.info22
  refine wpList_append_own (w := w0.alloc (.cells #[z] 22)) hgd s x 38 ho base 22 i0 (.slice none 0 0) 1 24 Try.underlying38 hi hz0 hz1 hz2 rfl (by decide) v out.length out hs (World.ownsRow.alloc hown _)
    ⟨w0.heap.size, 0, none⟩ 1 1 [z] hx rfl ?c1 ?c2 ?c3 ?c4 ?c5 ?_
  case c1 =>
    intro j u hj
    match j, hj with
    | 0, hj => simp at hj; subst hj; simp [Addr.add]
  case c2 => intro u hu; simp at hu; subst hu; subst hz; rfl
  case c3 => unfold maxLen; omega
  case c4 => omega
  case c5 => simp; omega
  intro v' w' h1 h2 _
  refine h v' w' ?_ ?_ ?_
  · subst hz
    simpa [OwnL] using h1
  · exact ((Below.refl base w0).alloc hbase _).grown h2 (by simp; omega) hown.block
  · intro g cs hb
    have hlt := hb.lt
    have hb2 : Blk (w0.alloc (.cells #[z] 22)) g cs := hb.below ((Below.refl _ w0).alloc (Nat.le_refl _) _)
    unfold Blk at hb2 ⊢
    rw [h2.block g (by simp; omega) (fun e => hown.far hb e.symm)]
    exact hb2

/-- 'append([]byte{}, src...)': a copy in a block of its own. -/
theorem appFresh {ops : Array Oper} {rest : List Oper} {o : Oper} {a : Act} {Q : Exit → Act → World → Prop} {w0 : World} (s x : Operand) (src : Option Addr) (n c : Nat) (bs : List UInt8)
    (hgd : o.guard = none) (ho : o.op = .call { callee := .builtin .append, args := #[s, x], argTypes := #[22, 22] })
    (hs : a.eval s = .slice (some ⟨w0.heap.size, 0, none⟩) 0 0) (hx : a.eval x = .slice src n c) (hrow : Row w0 src bs) (hn : bs.length = n) (hsome : src.isSome = true) (hlen : n ≤ 1099511627776)
    (h : ∀ (x0 : Nat × Nat × List UInt8) w', fldOf x0 = bs → x0.2.1 = bs.length → InB w0.heap.size w' x0 → Below w0.heap.size w0 w' → wpList Try.prog ops Q rest (a.put o.dst (valOf x0)) w') :
    wpList Try.prog ops Q (o :: rest) a (w0.alloc (.cells #[] 5)) := by
  obtain ⟨i0, hi, hz0, hz1, hz2⟩ := info_parts Try.info5
  subst hn
  obtain ⟨ad, rfl⟩ := Option.isSome_iff_exists.1 hsome
  have hb0 : Below w0.heap.size w0 (w0.alloc (.cells #[] 5)) := (Below.refl _ w0).alloc (Nat.le_refl _) _
  have hrow1 := hrow.below hb0
  have hnews : ∀ j u, (bs.map B8)[j]? = some u → (w0.alloc (.cells #[] 5)).cell? (ad.add j) = some u := by
    intro j u hj
    have hjl : j < bs.length := by
      rcases Nat.lt_or_ge j bs.length with h | h
      · exact h
      · rw [List.getElem?_eq_none (by simpa using h)] at hj; cases hj
    rcases hrow1 with h | ⟨b, off, e, hcl⟩
    · subst h; simp at hjl
    · cases e
      have e2 : (⟨b, off, none⟩ : Addr).add j = ⟨b, off + j, none⟩ := by unfold Addr.add; split <;> simp_all
      rw [e2, hcl j hjl]
      simp [List.getElem?_eq_getElem hjl] at hj
      rw [← hj]
      simp [B8, List.getD, List.getElem?_eq_getElem hjl]
  by_cases h0 : bs.length = 0
  · have hbs : bs = [] := List.eq_nil_of_length_eq_zero h0
    subst hbs
    refine wpList_append_fits (w0.alloc (.cells #[] 5)) hgd s x 22 ho w0.heap.size 5 i0 1 Try.underlying22 hi hz1 w0.heap.size 0 0 [] hs ⟨rfl, .inr ⟨w0.heap.size, 0, #[], rfl, Nat.le_refl _, heap_alloc_new w0 _, Nat.le_refl _, Nat.zero_le _, rfl, rfl⟩⟩ ad 0 c [] hx rfl (fun j u hj => by simp at hj) (fun u hu => by cases hu) (by omega) ?_
    intro w' h1 h2
    refine h (w0.heap.size, 0, []) w' rfl rfl ⟨Nat.le_refl _, Nat.le_refl _, ?_⟩ (hb0.grown h2 (by simp) (fun k e => by cases e; exact Nat.le_refl _))
    obtain ⟨_, ⟨e, _⟩ | ⟨g, cap, cur, e, _, hh, _, _, hsz, _⟩⟩ := h1
    · cases e
    · cases e
      have : cur = #[] := Array.eq_empty_of_size_eq_zero (by simpa using hsz)
      subst this
      exact hh
  · obtain ⟨W, hW⟩ : ∃ W, W = w0.alloc (.cells #[] 5) := ⟨_, rfl⟩
    have hWs : W.heap.size = w0.heap.size + 1 := by rw [hW]; simp
    rw [← hW] at hb0 hnews ⊢
    have hrun := run_append_grow (P := Try.prog) W 22 o.type 5 i0 (.int .u8 0) Try.underlying22 hi hz0 ⟨w0.heap.size, 0, none⟩ 0 0 [] (by simp) (fun j v hj => by simp at hj) ad bs.length c (bs.map B8) (by simp [hz1]) hnews (by omega) (by omega) (growslice_fits (by omega) (by rw [hz2]; omega))
    have hge := grownCap_ge W (0 + bs.length) 0 5
    obtain ⟨cp, hcp⟩ : ∃ cp, grownCap W (0 + bs.length) 0 5 = cp := ⟨_, rfl⟩
    rw [hcp] at hrun hge
    have e1 : Value.slice (some ⟨W.heap.size, 0, none⟩) (0 + bs.length) cp = valOf (W.heap.size, bs.length, bs ++ List.replicate (cp - bs.length) 0) := by
      simp [valOf]
      omega
    have e2 : ([] : List Value).toArray ++ (bs.map B8).toArray ++ Builtin.zeroCells (Value.int .u8 0).cells (cp - (0 + bs.length)) = ((bs ++ List.replicate (cp - bs.length) 0).map B8).toArray := by
      apply Array.toList_inj.1
      have e3 : Builtin.zeroCells (Value.int .u8 0).cells (cp - (0 + bs.length)) = madeCells #[.int .u8 0] ((cp - (0 + bs.length)) * 1) := rfl
      rw [e3, Array.toList_append, toList_madeCells_one]
      simp [B8]
    rw [e1, e2] at hrun
    refine wpList_plain hgd fun K hK => ?_
    unfold Oper.wp
    simp [execOp, ho, resolve, invoke, builtin, hs, hx, hrun, Result.andThen]
    refine hK _ _ (h _ _ ?_ rfl ⟨?_, ?_, ?_⟩ ?_)
    · simp [fldOf]
    · show w0.heap.size ≤ W.heap.size
      omega
    · simp
    · have := heap_alloc_new W.drew (.cells (bs.map B8 ++ List.replicate (cp - bs.length) (B8 0)).toArray 5)
      unfold Blk
      rw [List.map_append, List.map_replicate]
      exact this
    · exact hb0.trans (((Below.refl _ W).drew).alloc (by show w0.heap.size ≤ W.heap.size; omega) _)

/-- The same, the new slice written out. -/
theorem appFresh2 {ops : Array Oper} {rest : List Oper} {o : Oper} {a : Act} {Q : Exit → Act → World → Prop} {w0 : World} (s x : Operand) (src : Option Addr) (n c : Nat) (bs : List UInt8)
    (hgd : o.guard = none) (ho : o.op = .call { callee := .builtin .append, args := #[s, x], argTypes := #[22, 22] })
    (hs : a.eval s = .slice (some ⟨w0.heap.size, 0, none⟩) 0 0) (hx : a.eval x = .slice src n c) (hrow : Row w0 src bs) (hn : bs.length = n) (hsome : src.isSome = true) (hlen : n ≤ 1099511627776)
    (h : ∀ (g : Nat) (C : List UInt8) w', Hid (fldOf (g, n, C) = bs) → InB w0.heap.size w' (g, n, C) → Below w0.heap.size w0 w' → wpList Try.prog ops Q rest (a.put o.dst (.slice (some ⟨g, 0, none⟩) n C.length)) w') :
    wpList Try.prog ops Q (o :: rest) a (w0.alloc (.cells #[] 5)) := by
  refine appFresh s x src n c bs hgd ho hs hx hrow hn hsome hlen ?_
  rintro ⟨g, m, C⟩ w' h1 h2 h3 h4
  have h2' : m = n := by rw [← hn]; exact h2
  subst h2'
  exact h g C w' h1 h3 h4

end Go.Proofs.Ytjjojlfhliecnab
