/- The writer in memory: bytes are put behind those that are there. -/
import Derived.Test.YtefklmckkigllaaCkQ
import Derived.Test.YtefklmckkigllaaBytes
import Derived.Laws.AppendOwn
import Derived.Laws.AppendOwnNone
namespace Go.Proofs.Ytefklmckkigllaa
open Go.RowKit
set_option linter.unusedVariables false

/-- All blocks stand but the writer's and rows of bytes from A on. -/
structure Fb (A g : Nat) (w w' : World) : Prop where
  os : w'.os = w.os
  tape : w'.tape = w.tape
  output : w'.output = w.output
  size : w.heap.size ≤ w'.heap.size
  block : ∀ k, k < w.heap.size → k ≠ g → (k < A ∨ ∀ cs z, w.heap[k]? ≠ some (.cells cs 5 z)) → w'.heap[k]? = w.heap[k]?
theorem Fb.refl (A g : Nat) (w : World) : Fb A g w w := ⟨rfl, rfl, rfl, Nat.le_refl _, fun _ _ _ _ => rfl⟩
theorem Fb.trans {A g : Nat} {a b c : World} (h : Fb A g a b) (k : Fb A g b c) : Fb A g a c :=
  ⟨k.os.trans h.os, k.tape.trans h.tape, k.output.trans h.output, Nat.le_trans h.size k.size, fun i hi hn hc => by
    have e := h.block i hi hn hc
    rw [k.block i (Nat.lt_of_lt_of_le hi h.size) hn (hc.imp id fun q cs z => by rw [e]; exact q cs z), e]⟩
theorem Fb.of_below {A g : Nat} {w w' : World} (h : Below w.heap.size w w') : Fb A g w w' := ⟨h.os, h.tape, h.output, h.size, fun k hk _ _ => h.block k hk⟩
theorem Fb.of_but {A g : Nat} {w w' : World} (h : But g w w') : Fb A g w w' := ⟨h.os, h.tape, h.output, h.size, fun k hk hn _ => h.block k hk hn⟩
theorem Fb.at {A g k : Nat} {t : TypeId} {w w' : World} {cs : List Value} (h : Fb A g w w') (ha : At t w k cs) (hn : k ≠ g) (ht : t ≠ 5) : At t w' k cs := by
  unfold At
  rw [h.block k ha.lt hn (.inr fun cs' z e => by
    have : w.heap[k]? = _ := ha
    rw [this] at e
    exact ht (by cases e; rfl))]
  exact ha
theorem Fb.below {A g : Nat} {w w' : World} (h : Fb A g w w') (hg : A ≤ g) (hA : A ≤ w.heap.size) : Below A w w' :=
  ⟨h.os, h.tape, h.output, h.size, fun k hk => h.block k (by omega) (by omega) (.inl hk)⟩
theorem Fb.old {A g B : Nat} {w w' : World} (h : Fb A g w w') (hg : A ≤ g) (hA : A ≤ w.heap.size) (hB : B ≤ A) : Old B w w' := fun k hk => h.block k (by omega) (by omega) (.inl (by omega))
theorem Fb.grown {A g : Nat} {w w' : World} {v : Value} {n : Nat} {xs : List Value} (hown : w.ownsRow A 5 1 v n xs) (h : w.grownBy w' v.ownBlock) : Fb A g w w' := by
  refine ⟨h.os, h.tape, h.output, h.size, fun k hk hn hc => h.block k hk fun e => ?_⟩
  obtain ⟨_, ⟨rfl, _⟩ | ⟨b, cap, cur, rfl, hb, hcur, _⟩⟩ := hown
  · cases e
  · obtain rfl : k = b := by cases e; rfl
    rcases hc with hc | hc
    · omega
    · exact hc _ _ hcur

/-- The writer, and the bytes that it has. -/
structure Wt (A : Nat) (w : World) (g : Nat) (v : Value) (out : List UInt8) : Prop where
  cell : At 73 w g [v]
  own : Own A w v out
  low : A ≤ g
theorem Wt.lt {A : Nat} {w : World} {g : Nat} {v : Value} {out : List UInt8} (h : Wt A w g v out) : g < w.heap.size := h.cell.lt
theorem Wt.keep {A : Nat} {w w' : World} {g : Nat} {v : Value} {out : List UInt8} (h : Wt A w g v out) (hs : ∀ k, k < w.heap.size → A ≤ k → w'.heap[k]? = w.heap[k]?) : Wt A w' g v out := by
  refine ⟨?_, ?_, h.low⟩
  · unfold At
    rw [hs g h.lt h.low]
    exact h.cell
  · obtain ⟨h1, h2 | ⟨b, cap, cur, hv, hb, hcur, h3⟩⟩ := h.own
    · exact ⟨h1, .inl h2⟩
    · have hlt : b < w.heap.size := by
        rcases Nat.lt_or_ge b w.heap.size with q | q
        · exact q
        · rw [Array.getElem?_eq_none q] at hcur; cases hcur
      exact ⟨h1, .inr ⟨b, cap, cur, hv, hb, (hs b hlt hb).trans hcur, h3⟩⟩
theorem Wt.below {A : Nat} {w w' : World} {g : Nat} {v : Value} {out : List UInt8} (h : Wt A w g v out) (hb : Below w.heap.size w w') : Wt A w' g v out := h.keep fun k hk _ => hb.block k hk
theorem Wt.ne {A : Nat} {w : World} {g : Nat} {v : Value} {out : List UInt8} (h : Wt A w g v out) : v.ownBlock ≠ some g := by
  intro e
  obtain ⟨_, ⟨rfl, _⟩ | ⟨b, cap, cur, rfl, hb, hcur, _⟩⟩ := h.own
  · cases e
  · obtain rfl : b = g := by cases e; rfl
    have := h.cell
    unfold At at this
    rw [hcur] at this
    cases this
theorem ownB_len {A : Nat} {w : World} {v : Value} {out : List UInt8} (h : Own A w v out) : ∃ a c, v = .slice a out.length c := by
  obtain ⟨_, ⟨rfl, h0⟩ | ⟨b, cap, cur, rfl, _⟩⟩ := h
  · rw [h0]; exact ⟨none, 0, rfl⟩
  · exact ⟨_, _, rfl⟩
/-- The header is written. -/
theorem Wt.put {A : Nat} {w w2 : World} {g : Nat} {v' : Value} {out : List UInt8} (hA : At 73 w2 g [v']) (hb : But g w w2) (hlow : A ≤ g) (hown : Own A w v' out) (hne : v'.ownBlock ≠ some g) : Wt A w2 g v' out := by
  refine ⟨hA, ?_, hlow⟩
  obtain ⟨h1, h2 | ⟨b, cap, cur, hv, hb2, hcur, h3⟩⟩ := hown
  · exact ⟨h1, .inl h2⟩
  · refine ⟨h1, .inr ⟨b, cap, cur, hv, hb2, ?_, h3⟩⟩
    have hlt : b < w.heap.size := by
      rcases Nat.lt_or_ge b w.heap.size with q | q
      · exact q
      · rw [Array.getElem?_eq_none q] at hcur; cases hcur
    rw [hb.block b hlt (by rintro rfl; exact hne (by rw [hv]; rfl))]
    exact hcur

/-- 'append(text, src...)' of bytes that are there. -/
theorem appRow {ops : Array Oper} {rest : List Oper} {o : Oper} {a : Act} {Q : Exit → Act → World → Prop} {w : World} (s x : Operand) (base : Nat) (v : Value) (out : List UInt8) (b m c : Nat) (bs : List UInt8)
    (hgd : o.guard = none) (ho : o.op = .call { callee := .builtin .append, args := #[s, x], argTypes := #[42, 42] })
    (hs : a.eval s = v) (hx : a.eval x = .slice (some ⟨b, 0, none⟩) m c) (hown : Own base w v out) (hm : bs.length = m) (hbs : ∀ j, j < bs.length → w.cell? ⟨b, j, none⟩ = some (.int .u8 ((bs.getD j 0).toNat : Int))) (hlen : out.length + m ≤ 1099511627776) (hbase : base ≤ w.heap.size)
    (h : ∀ v' w', Own base w' v' (out ++ bs) → w.grownBy w' v.ownBlock → wpList Try.prog ops Q rest (a.put o.dst v') w') :
    wpList Try.prog ops Q (o :: rest) a w := by
  obtain ⟨i0, hi, hz0, hz1, hz2⟩ := info_parts Try.info5
  refine wpList_append_own (w := w) hgd s x 42 ho base 5 i0 (.int .u8 0) 1 1 Try.underlying42 hi hz0 hz1 hz2 rfl (by decide) v out.length (out.map B8) hs hown
    ⟨b, 0, none⟩ m c (bs.map B8) hx (by simp [hm]) ?c1 ?c2 ?c3 ?c4 hbase ?_
  case c1 =>
    intro j u hj
    rw [List.getElem?_map] at hj
    obtain ⟨y, hy, rfl⟩ := Option.map_eq_some_iff.mp hj
    have hjl := (List.getElem?_eq_some_iff.1 hy).1
    have := hbs j hjl
    rw [List.getD, hy] at this
    have e : (⟨b, 0, none⟩ : Addr).add j = ⟨b, j, none⟩ := by rw [Addr.add_mid, Nat.zero_add]
    rw [e]
    exact this
  case c2 => intro u hu; obtain ⟨y, _, rfl⟩ := List.mem_map.mp hu; rfl
  case c3 => unfold maxLen; omega
  case c4 => omega
  intro v' w' h1 h2 _
  refine h v' w' ?_ h2
  unfold Own
  rw [List.length_append, hm, List.map_append]
  exact h1
theorem grown_at {A g k : Nat} {t : TypeId} {w w' : World} {v : Value} {out : List UInt8} {cs : List Value} (hown : Own A w v out) (hg : w.grownBy w' v.ownBlock) (h : At t w k cs) (ht : t ≠ 5) : At t w' k cs := by
  unfold At
  rw [hg.block k h.lt]
  · exact h
  · intro e
    obtain ⟨_, ⟨rfl, _⟩ | ⟨b, cap, cur, rfl, hb, hcur, _⟩⟩ := hown
    · cases e
    · obtain rfl : k = b := by cases e; rfl
      have : w.heap[k]? = _ := h
      rw [hcur] at this
      exact ht (by cases this; rfl)
theorem own_ne_at {A g : Nat} {t : TypeId} {w : World} {v : Value} {out : List UInt8} {cs : List Value} (hown : Own A w v out) (h : At t w g cs) (ht : t ≠ 5) : v.ownBlock ≠ some g := by
  intro e
  obtain ⟨_, ⟨rfl, _⟩ | ⟨b, cap, cur, rfl, hb, hcur, _⟩⟩ := hown
  · cases e
  · obtain rfl : b = g := by cases e; rfl
    have : w.heap[b]? = _ := h
    rw [hcur] at this
    exact ht (by cases this; rfl)
theorem i42 : (Try.prog.info? 42).map (·.size) = some 1 := by kernel_rfl

set_option maxRecDepth 100000 in
set_option maxHeartbeats 3200000 in
theorem small_any (A g : Nat) (v : Value) (out : List UInt8) (n : Nat) (hn : n < 256) (w : World) (h : Wt A w g v out) (hlen : out.length + 1 ≤ 1099511627776) (hAw : A ≤ w.heap.size) :
    Calls Try.prog 59 #[.pointer (some ⟨g, 0, none⟩), .int .i64 (n : Int)] w fun e w' => e = .returned (.tuple #[]) ∧ (∃ v', Wt A w' g v' (out ++ [ub n])) ∧ Fb A g w w' := by
  obtain ⟨a, c, rfl⟩ := ownB_len h.own
  have q0 : w.cell? ⟨g, 0, none⟩ = some (.slice a out.length c) := by rw [h.cell.cell]; rfl
  have hlow := h.low
  obtain ⟨m, hm⟩ : ∃ m, Hid (m = out.length) := ⟨_, (rfl : out.length = _)⟩
  rw [← hm.out] at q0
  have HW : Hid (Wt A w g (.slice a m c) out) := by rw [hm.out]; exact h
  clear h
  obtain ⟨wa, hwa⟩ : ∃ x, x = w.alloc (.cells #[.int .u8 (n : Int)] 5) := ⟨_, rfl⟩
  have hbA : Below w.heap.size w wa := by rw [hwa]; exact (Below.refl _ _).alloc (Nat.le_refl _) _
  have hnew : wa.cell? ⟨w.heap.size, 0, none⟩ = some (.int .u8 ((ub n).toNat : Int)) := by rw [hwa, World.cell?_alloc_at _ _ _ _ rfl, ub_toNat n hn]; rfl
  go_enter Try.func59, Try.ntmps59
  go_wp2_with (first
    | ((with_reducible show wpList _ _ _ _ _ _); rw [← hwa]; refine appRow (.tmp 8) (.tmp 11) A (.slice a m c) out w.heap.size 1 1 [ub n] rfl rfl rfl rfl (HW.out.below hbA).own rfl (fun j hj => by obtain rfl : j = 0 := (by simp at hj; omega); exact hnew) hlen (by have := hbA.size; omega) ?_; intro v2 w2 hown2 hg2; refine Hid.out ?_))
  refine hidU ?_
  have hWa := HW.out.below hbA
  have hA2 : At 73 w2 g [.slice a m c] := grown_at (g := g) hWa.own hg2 hWa.cell (by decide)
  have hF2 : Fb A g w w2 := (Fb.of_below hbA).trans (Fb.grown hWa.own hg2)
  have hne := own_ne_at hown2 hA2 (by decide)
  obtain ⟨a2, c2, rfl⟩ := ownB_len hown2
  clear hwa hnew hWa hg2 hbA HW q0
  go_wp2_with (first
    | ((with_reducible show wpList _ _ _ _ _ _); refine wpList_store_one (P := Try.prog) rfl 42 (.tmp 14) (.tmp 12) rfl g 0 _ rfl rfl 73 _ hA2 (show 0 + 1 ≤ 1 by decide) i42 rfl rfl ?_; intro w3 hA3 hb3 hs3; clear hs3; refine Hid.out ?_))
  refine hidU ?_
  have hW3 := Wt.put (A := A) hA3 hb3 hlow hown2 hne
  have hF3 := hF2.trans (Fb.of_but (A := A) hb3)
  clear hA3 hb3 hA2 hF2 hown2 hne
  go_wp2
  go_end0
  exact ⟨rfl, ⟨_, hW3⟩, hF3⟩
end Go.Proofs.Ytefklmckkigllaa
