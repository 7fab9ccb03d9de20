/- Joined texts of the proof. -/
import Derived.Test.YtefklmckkigllaaJ9
import Derived.Test.YtefklmckkigllaaJ1
import Derived.Test.YtefklmckkigllaaJ8
import Derived.Laws.AppendOwn
import Derived.Laws.AppendOwnNone

/- Whether a code is large is told. -/
namespace Go.Proofs.Ytefklmckkigllaa
open Go.RowKit
set_option linter.unusedVariables false

def IsB (r : Ending) : Prop := ∃ b : Bool, r = .returned (.bool b)
def IsI (r : Ending) : Prop := ∃ z : Int, r = .returned (.int .i64 z)

set_option maxRecDepth 100000 in
set_option maxHeartbeats 6400000 in
theorem weight_any (B : Nat) (x : CT) (w : World) (h : x.In B w) (hBw : B ≤ w.heap.size) : Calls Try.prog 19 #[.agg x.cells.toArray] w fun r w' => IsI r ∧ Below w.heap.size w w' := by
  have h3 := h.2.2
  have hl0 := h.1.1
  clear h
  obtain ⟨a, c, ls, k, d, f, zs⟩ := x
  dsimp only at h3 hl0
  simp only [CT.cells]
  obtain ⟨nl, hnl⟩ : ∃ q, Hid (q = ls.length) := ⟨_, (rfl : ls.length = _)⟩
  obtain ⟨n, hn⟩ : ∃ q, Hid (q = zs.length) := ⟨_, (rfl : zs.length = _)⟩
  have hl1 := h3.1
  have hk1 := h3.2.1
  rw [← hn.out] at hl1 hk1
  rw [← hnl.out] at hl0
  rw [← hnl.out, ← hn.out]
  have HR : Hid (RowBT B w d f zs) := h3
  clear h3
  go_enter Try.func19, Try.ntmps19
  go_wp2_with (first
    | ((with_reducible show wpList _ _ _ _ _ _); refine wpList_box_at rfl 25 (.tmp 0) rfl [.slice a nl c, .int .i64 k, .slice d n f] rfl ?_; intro w1 hA1 hb1 hs1; clear hs1; refine Hid.out ?_))
  refine hidU ?_
  have HA : Hid (At 25 w1 w.heap.size [.slice a nl c, .int .i64 k, .slice d n f]) := hA1
  have y0 : w1.cell? ⟨w.heap.size, 0, none⟩ = some (.slice a nl c) := by rw [hA1.cell]; rfl
  clear hA1
  go_wp2_with fail
  clear y0
  go_loopw [3, 4] (fun u j wr => ∃ i : Nat, j = .int .i64 (i : Int) ∧ i ≤ n ∧ Hid ((∃ z : Int, u = .int .i64 z) ∧ Below w1.heap.size w1 wr)) (fun u j _ => n - (intOf j).toNat)
  case atStart => exact ⟨0, rfl, by omega, ⟨_, rfl⟩, Below.refl _ _⟩
  case round =>
    obtain ⟨i, rfl, hi, hX⟩ := hrel
    obtain ⟨⟨z, rfl⟩, hbr⟩ := hX.out
    obtain ⟨wo, hwo⟩ : ∃ x, x = wr := ⟨_, rfl⟩
    subst hwo
    have hwr : Below w.heap.size w wo := hb1.trans (hbr.mono hb1.size)
    have u2 : wo.cell? ⟨w.heap.size, 2, none⟩ = some (.slice d n f) := by rw [(HA.out.below hbr).cell]; rfl
    by_cases hc : i < n
    · obtain ⟨x, hx⟩ : ∃ k, zs[i]? = some k := ⟨zs[i]'(by rw [← hn.out]; exact hc), by rw [List.getElem?_eq_getElem]⟩
      obtain ⟨g1, o1, rfl, hg1, hr1, hi1⟩ := (RowBT.old HR.out (Old.of_below hwr hBw)).at i x hx
      obtain ⟨p, pc, vs, s, e, ec, ns⟩ := x
      simp only [BT.cells] at hr1
      have hR2 : RowNT B wo e ec ns := hi1.2.2
      obtain ⟨lv, hlv⟩ : ∃ q, Hid (q = vs.length) := ⟨_, (rfl : vs.length = _)⟩
      obtain ⟨m, hm⟩ : ∃ q, Hid (q = ns.length) := ⟨_, (rfl : ns.length = _)⟩
      have hlm := hR2.1
      have hcm := hR2.2.1
      rw [← hm.out] at hlm hcm
      rw [← hlv.out, ← hm.out] at hr1
      have p0 : wo.cell? ⟨g1, o1 + i * 3, none⟩ = some (.slice p lv pc) := by have := hr1 0 _ rfl; simpa using this
      have HP : Hid (wo.cell? ⟨g1, o1 + i * 3 + 2, none⟩ = some (.slice e m ec) ∧ g1 < wo.heap.size) := ⟨hr1 2 _ rfl, by have := hwr.size; omega⟩
      have HN : Hid (RowNT B wo e ec ns) := hR2
      clear hX hx hi1 hr1 hR2
      go_wp2_with fail
      clear p0 u2
      go_loopw [3, 5] (fun u j wr => ∃ t : Nat, j = .int .i64 (t : Int) ∧ t ≤ m ∧ Hid ((∃ z : Int, u = .int .i64 z) ∧ Below wo.heap.size wo wr)) (fun u j _ => m - (intOf j).toNat)
      case atStart => exact ⟨0, rfl, by omega, ⟨_, rfl⟩, Below.refl _ _⟩
      case round =>
        obtain ⟨t, rfl, ht, hY⟩ := hrel
        obtain ⟨⟨z', rfl⟩, hbt⟩ := hY.out
        have hbt1 : Below w1.heap.size w1 wr := hbr.trans (hbt.mono hbr.size)
        have v2 : wr.cell? ⟨w.heap.size, 2, none⟩ = some (.slice (some ⟨g1, o1, none⟩) n f) := by rw [(HA.out.below hbt1).cell]; rfl
        have p2 : wr.cell? ⟨g1, o1 + i * 3 + 2, none⟩ = some (.slice e m ec) := by
          rw [World.cell?_of_block (w := wo) (hbt.block g1 HP.out.2)]
          exact HP.out.1
        by_cases hct : t < m
        · obtain ⟨U, hU⟩ : ∃ k, ns[t]? = some k := ⟨ns[t]'(by rw [← hm.out]; exact hct), by rw [List.getElem?_eq_getElem]⟩
          obtain ⟨h1, r1, rfl, hh1, hr1, -⟩ := (RowNT.old HN.out (Old.of_below hbt (by have := hwr.size; omega))).at t U hU
          obtain ⟨ua, uc, ⟨ucs, u1, u2, u3, u4⟩⟩ := U
          simp only [NT.cells] at hr1
          have a0 : wr.cell? ⟨h1, r1 + t * 5, none⟩ = some (.slice ua ucs.length uc) := by have := hr1 0 _ rfl; simpa using this
          generalize ucs.length = un at *
          clear hY hU hr1
          go_wp2
          go_roundw
          case rel => exact ⟨t + 1, by go_num, by omega, ⟨_, rfl⟩, hbt⟩
          case measure => simp [intOf]; omega
        · clear hY
          go_wp2
          go_roundw
          case rel => exact ⟨i + 1, by go_num, by omega, ⟨_, rfl⟩, hbt1⟩
          case measure => simp [intOf]; omega
    · clear hX
      go_wp2
      go_ret
      exact ⟨⟨_, rfl⟩, hwr⟩

set_option maxRecDepth 100000 in
set_option maxHeartbeats 3200000 in
theorem large_any (B : Nat) (x : CT) (w : World) (h : x.In B w) (hBw : B ≤ w.heap.size) : Calls Try.prog 6 #[.agg x.cells.toArray] w fun r w' => IsB r ∧ Below w.heap.size w w' := by
  have Q : Hid (∀ u, Below w.heap.size w u → Calls Try.prog 19 #[.agg x.cells.toArray] u fun r w' => IsI r ∧ Below u.heap.size u w') := fun u hu => weight_any B x u (h.old (Old.of_below hu hBw)) (by have := hu.size; omega)
  have hlen : x.cells.length = 3 := rfl
  generalize x.cells = cs at *
  clear h
  have hi : (Try.prog.info? 25).map (·.size) = some cs.length := by rw [hlen]; exact i25
  go_enter Try.func6, Try.ntmps6
  go_wp2_with (first
    | ((with_reducible show wpList _ _ _ _ _ _); refine wpList_box_at rfl 25 (.tmp 0) rfl cs rfl ?_; intro w1 hA1 hb1 hs1; clear hs1; refine Hid.out ?_))
  refine hidU ?_
  go_wp2_with (first
    | ((with_reducible show wpList _ _ _ _ _ _); refine wpList_load_at (P := Try.prog) rfl 25 (.tmp 1) rfl w.heap.size rfl 25 cs hA1 _ Try.underlying25 rfl hi ?_)
    | (go_at_call 19; refine (Q.out _ hb1).mono ?_; rintro _ w2 ⟨⟨z, rfl⟩, hb2⟩))
  go_ret
  exact ⟨⟨_, rfl⟩, hb1.trans (hb2.mono hb1.size)⟩

end Go.Proofs.Ytefklmckkigllaa

/- octet.Bytes, the document's own Bytes and Fits: what they hand back. -/
namespace Go.Proofs.Ytefklmckkigllaa
open Go.RowKit
set_option linter.unusedVariables false

/-- A number's bytes, so many, the highest first. -/
def bytesOf : Nat → Nat → List UInt8
  | 0, _ => []
  | s + 1, n => ub (n / 256 ^ s % 256) :: bytesOf s n

theorem bytesOf_length (s n : Nat) : (bytesOf s n).length = s := by
  induction s with
  | zero => rfl
  | succ s ih => simp [bytesOf, ih]

theorem shr8 (n k : Nat) : (n : Int) / 2 ^ (8 * k) = ((n / 256 ^ k : Nat) : Int) := by
  rw [Int.natCast_ediv, Int.natCast_pow, Int.pow_mul]
  rfl

theorem shr8b (n k : Nat) : (n : Int) / 2 ^ (8 * k) % 256 = ((n / 256 ^ k % 256 : Nat) : Int) := by
  rw [shr8]; omega

set_option maxRecDepth 100000 in
set_option maxHeartbeats 400000 in
theorem bytes_ok (n s : Nat) (hn : n < 18446744073709551616) (h1 : 1 ≤ s) (hs : s ≤ 8) (hfit : n / 256 ^ s = 0) (w : World) :
    Calls Try.prog 87 #[.int .u64 n, .int .i64 s] w fun e w' => ∃ v, e = .returned (.tuple #[v, .int .i64 0]) ∧ Own w.heap.size w' v (bytesOf s n) ∧ Below w.heap.size w w' := by
  have ht : ((n : Int) / 2 ^ (8 * s) != 0) = false := by rw [shr8, hfit]; rfl
  clear hfit
  go_enter Try.func87, Try.ntmps87
  go_wp2
  go_loopw [1, 6] (fun t v wr => ∃ (k : Nat) (out : List UInt8), k ≤ s ∧ t = .int .i64 (k : Int) ∧ out.length + k = s ∧ Hid (out ++ bytesOf k n = bytesOf s n) ∧ Own w.heap.size wr v out ∧ Below w.heap.size w wr)
    (fun t _ _ => (intOf t).toNat)
  case atStart => exact ⟨s, [], Nat.le_refl _, rfl, by simp, rfl, Own.nil _ _, Below.refl _ _⟩
  case round =>
    obtain ⟨k, out, hk, rfl, hlk, hsh, hown, hbel⟩ := hrel
    have hsz := hbel.size
    cases k with
    | zero =>
      go_wp2
      go_ret2
      exact ⟨_, rfl, by have := hsh.out; simp [bytesOf] at this; rw [← this]; exact hown, hbel⟩
    | succ k =>
      have H3 : Hid ((out ++ [ub (n / 256 ^ k % 256)]) ++ bytesOf k n = bytesOf s n) := by have := hsh.out; simp only [bytesOf] at this; simpa [Hid] using this
      clear hsh
      go_wp2_with (at_builtin; refine app1n (.tmp 24) (.tmp 30) _ (n / 256 ^ k % 256) w.heap.size _ out rfl rfl rfl rfl hown (by omega) (shr8b n k) (by omega) hsz ?_)
      intro v' w1 hown' hbel'
      have hb1 := hbel.trans hbel'
      clear hown hbel hbel'
      go_wp2
      go_roundw
      case rel => exact ⟨k, _, by omega, by go_num, by simp; omega, H3, hown', hb1⟩
      case measure => simp [intOf]

end Go.Proofs.Ytefklmckkigllaa

/- The writer in memory: bytes are put behind those that are there. -/
namespace Go.Proofs.Ytefklmckkigllaa
open Go.RowKit
set_option linter.unusedVariables false

/-- All blocks stand but the writer's and rows of bytes from A on. -/
structure Fb (A g : Nat) (w w' : World) : Prop where
  os : w'.os = w.os
  tape : w'.tape = w.tape
  output : w'.output = w.output
  size : w.heap.size ≤ w'.heap.size
  block : ∀ k, k < w.heap.size → k ≠ g → (k < A ∨ ∀ cs z, w.heap[k]? ≠ some (.cells cs 5 z)) → w'.heap[k]? = w.heap[k]?
theorem Fb.refl (A g : Nat) (w : World) : Fb A g w w := ⟨rfl, rfl, rfl, Nat.le_refl _, fun _ _ _ _ => rfl⟩
theorem Fb.trans {A g : Nat} {a b c : World} (h : Fb A g a b) (k : Fb A g b c) : Fb A g a c :=
  ⟨k.os.trans h.os, k.tape.trans h.tape, k.output.trans h.output, Nat.le_trans h.size k.size, fun i hi hn hc => by
    have e := h.block i hi hn hc
    rw [k.block i (Nat.lt_of_lt_of_le hi h.size) hn (hc.imp id fun q cs z => by rw [e]; exact q cs z), e]⟩
theorem Fb.of_below {A g : Nat} {w w' : World} (h : Below w.heap.size w w') : Fb A g w w' := ⟨h.os, h.tape, h.output, h.size, fun k hk _ _ => h.block k hk⟩
theorem Fb.of_but {A g : Nat} {w w' : World} (h : But g w w') : Fb A g w w' := ⟨h.os, h.tape, h.output, h.size, fun k hk hn _ => h.block k hk hn⟩
theorem Fb.at {A g k : Nat} {t : TypeId} {w w' : World} {cs : List Value} (h : Fb A g w w') (ha : At t w k cs) (hn : k ≠ g) (ht : t ≠ 5) : At t w' k cs := by
  unfold At
  rw [h.block k ha.lt hn (.inr fun cs' z e => by
    have : w.heap[k]? = _ := ha
    rw [this] at e
    exact ht (by cases e; rfl))]
  exact ha
theorem Fb.below {A g : Nat} {w w' : World} (h : Fb A g w w') (hg : A ≤ g) (hA : A ≤ w.heap.size) : Below A w w' :=
  ⟨h.os, h.tape, h.output, h.size, fun k hk => h.block k (by omega) (by omega) (.inl hk)⟩
theorem Fb.old {A g B : Nat} {w w' : World} (h : Fb A g w w') (hg : A ≤ g) (hA : A ≤ w.heap.size) (hB : B ≤ A) : Old B w w' := fun k hk => h.block k (by omega) (by omega) (.inl (by omega))
theorem Fb.grown {A g : Nat} {w w' : World} {v : Value} {n : Nat} {xs : List Value} (hown : w.ownsRow A 5 1 v n xs) (h : w.grownBy w' v.ownBlock) : Fb A g w w' := by
  refine ⟨h.os, h.tape, h.output, h.size, fun k hk hn hc => h.block k hk fun e => ?_⟩
  obtain ⟨_, ⟨rfl, _⟩ | ⟨b, cap, cur, rfl, hb, hcur, _⟩⟩ := hown
  · cases e
  · obtain rfl : k = b := by cases e; rfl
    rcases hc with hc | hc
    · omega
    · exact hc _ _ hcur

/-- The writer, and the bytes that it has. -/
structure Wt (A : Nat) (w : World) (g : Nat) (v : Value) (out : List UInt8) : Prop where
  cell : At 73 w g [v]
  own : Own A w v out
  low : A ≤ g
theorem Wt.lt {A : Nat} {w : World} {g : Nat} {v : Value} {out : List UInt8} (h : Wt A w g v out) : g < w.heap.size := h.cell.lt
theorem Wt.keep {A : Nat} {w w' : World} {g : Nat} {v : Value} {out : List UInt8} (h : Wt A w g v out) (hs : ∀ k, k < w.heap.size → A ≤ k → w'.heap[k]? = w.heap[k]?) : Wt A w' g v out := by
  refine ⟨?_, ?_, h.low⟩
  · unfold At
    rw [hs g h.lt h.low]
    exact h.cell
  · obtain ⟨h1, h2 | ⟨b, cap, cur, hv, hb, hcur, h3⟩⟩ := h.own
    · exact ⟨h1, .inl h2⟩
    · have hlt : b < w.heap.size := by
        rcases Nat.lt_or_ge b w.heap.size with q | q
        · exact q
        · rw [Array.getElem?_eq_none q] at hcur; cases hcur
      exact ⟨h1, .inr ⟨b, cap, cur, hv, hb, (hs b hlt hb).trans hcur, h3⟩⟩
theorem Wt.below {A : Nat} {w w' : World} {g : Nat} {v : Value} {out : List UInt8} (h : Wt A w g v out) (hb : Below w.heap.size w w') : Wt A w' g v out := h.keep fun k hk _ => hb.block k hk
theorem Wt.ne {A : Nat} {w : World} {g : Nat} {v : Value} {out : List UInt8} (h : Wt A w g v out) : v.ownBlock ≠ some g := by
  intro e
  obtain ⟨_, ⟨rfl, _⟩ | ⟨b, cap, cur, rfl, hb, hcur, _⟩⟩ := h.own
  · cases e
  · obtain rfl : b = g := by cases e; rfl
    have := h.cell
    unfold At at this
    rw [hcur] at this
    cases this
theorem ownB_len {A : Nat} {w : World} {v : Value} {out : List UInt8} (h : Own A w v out) : ∃ a c, v = .slice a out.length c := by
  obtain ⟨_, ⟨rfl, h0⟩ | ⟨b, cap, cur, rfl, _⟩⟩ := h
  · rw [h0]; exact ⟨none, 0, rfl⟩
  · exact ⟨_, _, rfl⟩
/-- The header is written. -/
theorem Wt.put {A : Nat} {w w2 : World} {g : Nat} {v' : Value} {out : List UInt8} (hA : At 73 w2 g [v']) (hb : But g w w2) (hlow : A ≤ g) (hown : Own A w v' out) (hne : v'.ownBlock ≠ some g) : Wt A w2 g v' out := by
  refine ⟨hA, ?_, hlow⟩
  obtain ⟨h1, h2 | ⟨b, cap, cur, hv, hb2, hcur, h3⟩⟩ := hown
  · exact ⟨h1, .inl h2⟩
  · refine ⟨h1, .inr ⟨b, cap, cur, hv, hb2, ?_, h3⟩⟩
    have hlt : b < w.heap.size := by
      rcases Nat.lt_or_ge b w.heap.size with q | q
      · exact q
      · rw [Array.getElem?_eq_none q] at hcur; cases hcur
    rw [hb.block b hlt (by rintro rfl; exact hne (by rw [hv]; rfl))]
    exact hcur

/-- 'append(text, src...)' of bytes that are there. -/
theorem appRow {ops : Array Oper} {rest : List Oper} {o : Oper} {a : Act} {Q : Exit → Act → World → Prop} {w : World} (s x : Operand) (base : Nat) (v : Value) (out : List UInt8) (b m c : Nat) (bs : List UInt8)
    (hgd : o.guard = none) (ho : o.op = .call { callee := .builtin .append, args := #[s, x], argTypes := #[42, 42] })
    (hs : a.eval s = v) (hx : a.eval x = .slice (some ⟨b, 0, none⟩) m c) (hown : Own base w v out) (hm : bs.length = m) (hbs : ∀ j, j < bs.length → w.cell? ⟨b, j, none⟩ = some (.int .u8 ((bs.getD j 0).toNat : Int))) (hlen : out.length + m ≤ 1099511627776) (hbase : base ≤ w.heap.size)
    (h : ∀ v' w', Own base w' v' (out ++ bs) → w.grownBy w' v.ownBlock → wpList Try.prog ops Q rest (a.put o.dst v') w') :
    wpList Try.prog ops Q (o :: rest) a w := by
  obtain ⟨i0, hi, hz0, hz1, hz2⟩ := info_parts Try.info5
  refine wpList_append_own (w := w) hgd s x 42 ho base 5 i0 (.int .u8 0) 1 1 Try.underlying42 hi hz0 hz1 hz2 rfl (by decide) v out.length (out.map B8) hs hown
    ⟨b, 0, none⟩ m c (bs.map B8) hx (by simp [hm]) ?c1 ?c2 ?c3 ?c4 hbase ?_
  case c1 =>
    intro j u hj
    rw [List.getElem?_map] at hj
    obtain ⟨y, hy, rfl⟩ := Option.map_eq_some_iff.mp hj
    have hjl := (List.getElem?_eq_some_iff.1 hy).1
    have := hbs j hjl
    rw [List.getD, hy] at this
    have e : (⟨b, 0, none⟩ : Addr).add j = ⟨b, j, none⟩ := by rw [Addr.add_mid, Nat.zero_add]
    rw [e]
    exact this
  case c2 => intro u hu; obtain ⟨y, _, rfl⟩ := List.mem_map.mp hu; rfl
  case c3 => unfold maxLen; omega
  case c4 => omega
  intro v' w' h1 h2 _
  refine h v' w' ?_ h2
  unfold Own
  rw [List.length_append, hm, List.map_append]
  exact h1
theorem grown_at {A g k : Nat} {t : TypeId} {w w' : World} {v : Value} {out : List UInt8} {cs : List Value} (hown : Own A w v out) (hg : w.grownBy w' v.ownBlock) (h : At t w k cs) (ht : t ≠ 5) : At t w' k cs := by
  unfold At
  rw [hg.block k h.lt]
  · exact h
  · intro e
    obtain ⟨_, ⟨rfl, _⟩ | ⟨b, cap, cur, rfl, hb, hcur, _⟩⟩ := hown
    · cases e
    · obtain rfl : k = b := by cases e; rfl
      have : w.heap[k]? = _ := h
      rw [hcur] at this
      exact ht (by cases this; rfl)
theorem own_ne_at {A g : Nat} {t : TypeId} {w : World} {v : Value} {out : List UInt8} {cs : List Value} (hown : Own A w v out) (h : At t w g cs) (ht : t ≠ 5) : v.ownBlock ≠ some g := by
  intro e
  obtain ⟨_, ⟨rfl, _⟩ | ⟨b, cap, cur, rfl, hb, hcur, _⟩⟩ := hown
  · cases e
  · obtain rfl : b = g := by cases e; rfl
    have : w.heap[b]? = _ := h
    rw [hcur] at this
    exact ht (by cases this; rfl)
theorem i42 : (Try.prog.info? 42).map (·.size) = some 1 := by kernel_rfl

set_option maxRecDepth 100000 in
set_option maxHeartbeats 3200000 in
theorem small_any (A g : Nat) (v : Value) (out : List UInt8) (n : Nat) (hn : n < 256) (w : World) (h : Wt A w g v out) (hlen : out.length + 1 ≤ 1099511627776) (hAw : A ≤ w.heap.size) :
    Calls Try.prog 59 #[.pointer (some ⟨g, 0, none⟩), .int .i64 (n : Int)] w fun e w' => e = .returned (.tuple #[]) ∧ (∃ v', Wt A w' g v' (out ++ [ub n])) ∧ Fb A g w w' := by
  obtain ⟨a, c, rfl⟩ := ownB_len h.own
  have q0 : w.cell? ⟨g, 0, none⟩ = some (.slice a out.length c) := by rw [h.cell.cell]; rfl
  have hlow := h.low
  obtain ⟨m, hm⟩ : ∃ m, Hid (m = out.length) := ⟨_, (rfl : out.length = _)⟩
  rw [← hm.out] at q0
  have HW : Hid (Wt A w g (.slice a m c) out) := by rw [hm.out]; exact h
  clear h
  obtain ⟨wa, hwa⟩ : ∃ x, x = w.alloc (.cells #[.int .u8 (n : Int)] 5) := ⟨_, rfl⟩
  have hbA : Below w.heap.size w wa := by rw [hwa]; exact (Below.refl _ _).alloc (Nat.le_refl _) _
  have hnew : wa.cell? ⟨w.heap.size, 0, none⟩ = some (.int .u8 ((ub n).toNat : Int)) := by rw [hwa, World.cell?_alloc_at _ _ _ _ rfl, ub_toNat n hn]; rfl
  go_enter Try.func59, Try.ntmps59
  go_wp2_with (first
    | ((with_reducible show wpList _ _ _ _ _ _); rw [← hwa]; refine appRow (.tmp 8) (.tmp 11) A (.slice a m c) out w.heap.size 1 1 [ub n] rfl rfl rfl rfl (HW.out.below hbA).own rfl (fun j hj => by obtain rfl : j = 0 := (by simp at hj; omega); exact hnew) hlen (by have := hbA.size; omega) ?_; intro v2 w2 hown2 hg2; refine Hid.out ?_))
  refine hidU ?_
  have hWa := HW.out.below hbA
  have hA2 : At 73 w2 g [.slice a m c] := grown_at (g := g) hWa.own hg2 hWa.cell (by decide)
  have hF2 : Fb A g w w2 := (Fb.of_below hbA).trans (Fb.grown hWa.own hg2)
  have hne := own_ne_at hown2 hA2 (by decide)
  obtain ⟨a2, c2, rfl⟩ := ownB_len hown2
  clear hwa hnew hWa hg2 hbA HW q0
  go_wp2_with (first
    | ((with_reducible show wpList _ _ _ _ _ _); refine wpList_store_one (P := Try.prog) rfl 42 (.tmp 14) (.tmp 12) rfl g 0 _ rfl rfl 73 _ hA2 (show 0 + 1 ≤ 1 by decide) i42 rfl rfl ?_; intro w3 hA3 hb3 hs3; clear hs3; refine Hid.out ?_))
  refine hidU ?_
  have hW3 := Wt.put (A := A) hA3 hb3 hlow hown2 hne
  have hF3 := hF2.trans (Fb.of_but (A := A) hb3)
  clear hA3 hb3 hA2 hF2 hown2 hne
  go_wp2
  go_end0
  exact ⟨rfl, ⟨_, hW3⟩, hF3⟩
end Go.Proofs.Ytefklmckkigllaa

/- Numbers, values, nodes and codes written. -/
namespace Go.Proofs.Ytefklmckkigllaa
open Go.RowKit
set_option linter.unusedVariables false

theorem row_cells {w : World} {b : Nat} {bs : List UInt8} (h : Row w (some ⟨b, 0, none⟩) bs) : ∀ j, j < bs.length → w.cell? ⟨b, j, none⟩ = some (.int .u8 ((bs.getD j 0).toNat : Int)) := by
  rcases h with rfl | ⟨b', off, e, hc⟩
  · intro j hj; simp at hj
  · cases e
    intro j hj
    have := hc j hj
    rwa [Nat.zero_add] at this

set_option maxRecDepth 100000 in
set_option maxHeartbeats 3200000 in
theorem numW_any (A g : Nat) (v : Value) (out : List UInt8) (n s : Nat) (hn : n < 18446744073709551616) (h1 : 1 ≤ s) (hs : s ≤ 8) (hfit : n / 256 ^ s = 0) (w : World) (h : Wt A w g v out) (hlen : out.length + s ≤ 1099511627776) (hAw : A ≤ w.heap.size) :
    Calls Try.prog 77 #[.pointer (some ⟨g, 0, none⟩), .int .u64 (n : Int), .int .i64 (s : Int)] w fun e w' => e = .returned (.tuple #[]) ∧ (∃ v', Wt A w' g v' (out ++ bytesOf s n)) ∧ Fb A g w w' := by
  obtain ⟨a, c, rfl⟩ := ownB_len h.own
  have hlow := h.low
  have hB := bytes_ok n s hn h1 hs hfit w
  have hbl := bytesOf_length s n
  obtain ⟨m, hm⟩ : ∃ m, Hid (m = out.length) := ⟨_, (rfl : out.length = _)⟩
  have HW : Hid (Wt A w g (.slice a m c) out) := by rw [hm.out]; exact h
  clear h hfit
  generalize bytesOf s n = bs at *
  go_enter Try.func77, Try.ntmps77
  go_wp2_with (first
    | (go_at_call 87; refine hB.mono ?_; rintro _ w1 ⟨v1, rfl, hown1, hb1⟩; refine Hid.out ?_))
  refine hidU ?_
  have hW1 := HW.out.below hb1
  have hs1 := hb1.size
  obtain ⟨b, c1, rfl, hrow⟩ : ∃ b c1, v1 = .slice (some ⟨b, 0, none⟩) s c1 ∧ Row w1 (some ⟨b, 0, none⟩) bs := by
    obtain ⟨a1, c1, hv, _, _, hr⟩ := hown1.row
    obtain ⟨_, ⟨h2, h3⟩ | ⟨b', cap, cur, h2, _⟩⟩ := hown1
    · omega
    · rw [h2] at hv
      cases hv
      exact ⟨b', _, by rw [h2, hbl], hr⟩
  have q0 : w1.cell? ⟨g, 0, none⟩ = some (.slice a m c) := by rw [hW1.cell.cell]; rfl
  clear hB hown1 HW
  go_wp2_with (first
    | ((with_reducible show wpList _ _ _ _ _ _); refine appRow (.tmp 18) (.tmp 19) A (.slice a m c) out b s c1 bs rfl rfl rfl rfl hW1.own hbl (row_cells hrow) hlen (by omega) ?_; intro v2 w2 hown2 hg2; refine Hid.out ?_))
  refine hidU ?_
  have hA2 : At 73 w2 g [.slice a m c] := grown_at (g := g) hW1.own hg2 hW1.cell (by decide)
  have hF2 : Fb A g w w2 := (Fb.of_below hb1).trans (Fb.grown hW1.own hg2)
  have hne := own_ne_at hown2 hA2 (by decide)
  obtain ⟨a2, c2, rfl⟩ := ownB_len hown2
  clear hW1 hg2 hb1 q0 hrow
  go_wp2_with (first
    | ((with_reducible show wpList _ _ _ _ _ _); refine wpList_store_one (P := Try.prog) rfl 42 (.tmp 22) (.tmp 20) rfl g 0 _ rfl rfl 73 _ hA2 (show 0 + 1 ≤ 1 by decide) i42 rfl rfl ?_; intro w3 hA3 hb3 hs3; clear hs3; refine Hid.out ?_))
  refine hidU ?_
  have hW3 := Wt.put (A := A) hA3 hb3 hlow hown2 hne
  have hF3 := hF2.trans (Fb.of_but (A := A) hb3)
  clear hA3 hb3 hA2 hF2 hown2 hne
  go_wp2
  go_end0
  exact ⟨rfl, ⟨_, hW3⟩, hF3⟩

set_option maxRecDepth 100000 in
set_option maxHeartbeats 3200000 in
theorem big_any (A g : Nat) (v : Value) (out : List UInt8) (n : Nat) (hn : n < 65536) (w : World) (h : Wt A w g v out) (hlen : out.length + 2 ≤ 1099511627776) (hAw : A ≤ w.heap.size) :
    Calls Try.prog 60 #[.pointer (some ⟨g, 0, none⟩), .int .i64 (n : Int)] w fun e w' => e = .returned (.tuple #[]) ∧ (∃ v', Wt A w' g v' (out ++ bytesOf 2 n)) ∧ Fb A g w w' := by
  have hN := numW_any A g v out n 2 (by omega) (by omega) (by omega) (by omega) w h hlen hAw
  clear h
  generalize bytesOf 2 n = bs at *
  go_enter Try.func60, Try.ntmps60
  go_wp2_with (first
    | (go_at_call 77; refine hN.mono ?_; rintro _ w1 ⟨rfl, hW1, hF1⟩; refine Hid.out ?_))
  refine hidU ?_
  go_wp2
  go_end0
  exact ⟨rfl, hW1, hF1⟩

/-- A value's bytes. -/
def encV (v : Vl) : List UInt8 := ub v.t :: bytesOf 8 v.b

set_option maxRecDepth 100000 in
set_option maxHeartbeats 3200000 in
theorem valW_any (A g : Nat) (v : Value) (out : List UInt8) (x : Vl) (hx : x.Ok) (w : World) (h : Wt A w g v out) (hlen : out.length + 9 ≤ 1099511627776) (hAw : A ≤ w.heap.size) :
    Calls Try.prog 76 #[.pointer (some ⟨g, 0, none⟩), .agg x.cells.toArray] w fun e w' => e = .returned (.tuple #[]) ∧ (∃ v', Wt A w' g v' (out ++ encV x)) ∧ Fb A g w w' := by
  obtain ⟨t, b⟩ := x
  obtain ⟨ht, hb⟩ := hx
  dsimp only at ht hb
  have hgw : w.heap.size ≠ g := by have := h.lt; omega
  have HW : Hid (Wt A w g v out) := h
  clear h
  simp only [Vl.cells]
  unfold encV
  dsimp only
  go_enter Try.func76, Try.ntmps76
  go_wp2_with (first
    | ((with_reducible show wpList _ _ _ _ _ _); refine wpList_box_at rfl 35 (.tmp 1) rfl [.int .u8 (t : Int), .int .u64 (b : Int)] rfl ?_; intro w1 hA1 hb1 hs1; clear hs1; refine Hid.out ?_))
  refine hidU ?_
  have c0 : w1.cell? ⟨w.heap.size, 0, none⟩ = some (.int .u8 (t : Int)) := by rw [hA1.cell]; rfl
  have hW1 := HW.out.below hb1
  have hs1 := hb1.size
  have hA1' := hA1
  clear HW hA1
  go_wp2_with (first
    | (go_at_call 59; refine (small_any A g v out t ht _ hW1 (by omega) (by omega)).mono ?_; rintro _ w2 ⟨rfl, ⟨v2, hW2⟩, hF2⟩; refine Hid.out ?_))
  refine hidU ?_
  have hA2 := hF2.at hA1' hgw (by decide)
  have c1 : w2.cell? ⟨w.heap.size, 1, none⟩ = some (.int .u64 (b : Int)) := by rw [hA2.cell]; rfl
  have hs2 := hF2.size
  have hF : Fb A g w w2 := (Fb.of_below hb1).trans hF2
  clear hA2 hA1' hF2 hb1 c0 hW1
  go_wp2_with (first
    | (go_at_call 77; refine (numW_any A g v2 _ b 8 hb (by omega) (by omega) (by omega) _ hW2 (by rw [List.length_append]; simp; omega) (by omega)).mono ?_; rintro _ w3 ⟨rfl, ⟨v3, hW3⟩, hF3⟩; refine Hid.out ?_))
  refine hidU ?_
  have hW : Wt A w3 g v3 (out ++ ub t :: bytesOf 8 b) := by have := hW3; rwa [List.append_assoc] at this
  have hFF := hF.trans hF3
  clear hW3 hF3 hF hW2 c1
  go_wp2
  go_end0
  exact ⟨rfl, ⟨_, hW⟩, hFF⟩

end Go.Proofs.Ytefklmckkigllaa

/- Lists of values, nodes and codes written. -/
namespace Go.Proofs.Ytefklmckkigllaa
open Go.RowKit
set_option linter.unusedVariables false

/-- How many values, and these. -/
def encVs (l : List Vl) : List UInt8 := ub l.length :: l.flatMap encV
theorem encV_len (v : Vl) : (encV v).length = 9 := by simp [encV, bytesOf_length]
theorem flat_len {α : Type} (f : α → List UInt8) (k : Nat) : ∀ l : List α, (∀ x ∈ l, (f x).length ≤ k) → (l.flatMap f).length ≤ l.length * k
  | [], _ => by simp
  | x :: r, h => by
    have h1 := flat_len f k r fun y hy => h y (List.mem_cons_of_mem _ hy)
    have h2 := h x List.mem_cons_self
    rw [List.flatMap_cons, List.length_append, List.length_cons, Nat.add_mul]
    omega
theorem encVs_len (l : List Vl) : (encVs l).length ≤ 1 + l.length * 9 := by
  have := flat_len encV 9 l fun x _ => by rw [encV_len]; exact Nat.le_refl _
  unfold encVs
  rw [List.length_cons]
  omega
theorem flat_take {α : Type} (f : α → List UInt8) (l : List α) (i : Nat) (x : α) (h : l[i]? = some x) : (l.take (i + 1)).flatMap f = (l.take i).flatMap f ++ f x := by
  rw [List.take_add_one, h, List.flatMap_append]
  simp
theorem flat_take_le {α : Type} (f : α → List UInt8) (l : List α) (i : Nat) : ((l.take i).flatMap f).length ≤ (l.flatMap f).length := by
  have e : l.flatMap f = (l.take i).flatMap f ++ (l.drop i).flatMap f := by rw [← List.flatMap_append, List.take_append_drop]
  rw [e, List.length_append]
  omega
theorem flat_step_le {α : Type} (f : α → List UInt8) (l : List α) (i : Nat) (x : α) (h : l[i]? = some x) : ((l.take i).flatMap f).length + (f x).length ≤ (l.flatMap f).length := by
  have := flat_take_le f l (i + 1)
  rwa [flat_take f l i x h, List.length_append] at this

set_option maxRecDepth 100000 in
set_option maxHeartbeats 3200000 in
theorem valsW_any (B A g : Nat) (v : Value) (out : List UInt8) (ks : List Vl) (hk : ks.length < 256) (a : Option Addr) (c : Nat) (w : World) (h : Wt A w g v out) (hr : RowVl B w a c ks) (hBA : B ≤ A) (hlen : out.length + (encVs ks).length ≤ 1099511627776) (hAw : A ≤ w.heap.size) :
    Calls Try.prog 58 #[.pointer (some ⟨g, 0, none⟩), .slice a ks.length c] w fun e w' => e = .returned (.tuple #[]) ∧ (∃ v', Wt A w' g v' (out ++ encVs ks)) ∧ Fb A g w w' := by
  have hlow := h.low
  have hcap := hr.2.1
  obtain ⟨n, hn⟩ : ∃ n, Hid (n = ks.length) := ⟨_, (rfl : ks.length = _)⟩
  have hE : (encVs ks).length = 1 + (ks.flatMap encV).length := by unfold encVs; rw [List.length_cons]; omega
  have HE : Hid (out.length + 1 + (ks.flatMap encV).length ≤ 1099511627776) := by show _ ≤ _; omega
  have HO : Hid (encVs ks = ub n :: ks.flatMap encV) := by show _ = _; rw [hn.out]; rfl
  rw [HO.out]
  rw [← hn.out] at hk hcap ⊢
  have HR : Hid (RowVl B w a c ks) := hr
  have HW : Hid (Wt A w g v out) := h
  have hl1 : out.length + 1 ≤ 1099511627776 := by have := HE.out; omega
  clear h hr hE hlen
  go_enter Try.func58, Try.ntmps58
  go_wp2_with (first
    | (go_at_call 59; refine (small_any A g v out n hk _ HW.out hl1 hAw).mono ?_; rintro _ w1 ⟨rfl, ⟨v1, hW1⟩, hF1⟩; refine Hid.out ?_))
  refine hidU ?_
  have HW1 : Hid (Wt A w1 g v1 (out ++ [ub n]) ∧ Fb A g w w1) := ⟨hW1, hF1⟩
  clear hW1 hF1 HW
  go_wp2_with fail
  go_loopw [12] (fun j wr => ∃ i : Nat, j = .int .i64 (i : Int) ∧ i ≤ n ∧ Hid ((∃ v', Wt A wr g v' (out ++ [ub n] ++ (ks.take i).flatMap encV)) ∧ Fb A g w wr)) (fun j _ => n - (intOf j).toNat)
  case atStart => exact ⟨0, rfl, by omega, ⟨v1, by simpa using HW1.out.1⟩, HW1.out.2⟩
  case round =>
    obtain ⟨i, rfl, hi, hX⟩ := hrel
    by_cases hc : i < n
    · obtain ⟨s, hs⟩ : ∃ k, ks[i]? = some k := ⟨ks[i]'(by rw [← hn.out]; exact hc), by rw [List.getElem?_eq_getElem]⟩
      obtain ⟨⟨v2, hWr⟩, hFr⟩ := hX.out
      obtain ⟨g1, o1, rfl, hlt, hr1, hok⟩ := (RowVl.old HR.out (hFr.old hlow hAw hBA)).at i s hs
      have hst := flat_step_le encV ks i s hs
      rw [encV_len] at hst
      have htk := flat_take encV ks i s hs
      have HWr : Hid (Wt A wr g v2 (out ++ [ub n] ++ (ks.take i).flatMap encV) ∧ Fb A g w wr) := ⟨hWr, hFr⟩
      have hgr : wr.heap.size ≠ g := by have := hWr.lt; omega
      have hAr : A ≤ wr.heap.size := Nat.le_trans hAw hFr.size
      have hl2 : (out ++ [ub n] ++ (ks.take i).flatMap encV).length + 9 ≤ 1099511627776 := by have := HE.out; rw [List.length_append, List.length_append]; simp only [List.length_singleton]; omega
      have HTk : Hid ((ks.take (i + 1)).flatMap encV = (ks.take i).flatMap encV ++ encV s) := htk
      have HS : Hid (∀ u v', Wt A u g v' (out ++ [ub n] ++ (ks.take i).flatMap encV) → A ≤ u.heap.size → Calls Try.prog 76 #[.pointer (some ⟨g, 0, none⟩), .agg s.cells.toArray] u fun e w' => e = .returned (.tuple #[]) ∧ (∃ v', Wt A w' g v' (out ++ [ub n] ++ (ks.take i).flatMap encV ++ encV s)) ∧ Fb A g u w') := fun u v' hu hA => valW_any A g v' _ s hok u hu hl2 hA
      have hone := s.one
      clear hX hWr hFr htk hst hok HR HE
      have hls : s.cells.length = 2 := rfl
      generalize s.cells = scs at *
      go_wp2_with (first
        | ((with_reducible show wpList _ _ _ _ _ _); refine wpList_load_mid (P := Try.prog) rfl 35 (.tmp 14) rfl g1 (o1 + i * 2) (by first | rfl | (simp; done)) scs _ hr1 Try.underlying35 rfl (by rw [hls]; exact i35) ?_)
        | ((with_reducible show wpList _ _ _ _ _ _); refine wpList_alloc_at rfl 35 rfl _ 2 z35 ?_; intro w2 hA2 hb2 hs2)
        | ((with_reducible show wpList _ _ _ _ _ _); refine wpList_store_at (P := Try.prog) rfl 35 (.tmp 5) (.tmp 15) rfl wr.heap.size scs rfl rfl 35 _ hA2 (by rw [hls]; exact i35) (by rw [hls]; rfl) hone ?_; intro w3 hA3 hb3 hs3; refine Hid.out ?_))
      refine hidU ?_
      have hB3 : Below wr.heap.size wr w3 := hb3.below hb2 (Nat.le_refl _) (by omega)
      have hW3 := HWr.out.1.below hB3
      have hF3 : Fb A g w w3 := HWr.out.2.trans (Fb.of_below hB3)
      have hs3' := hB3.size
      clear hb3 hb2 hA2 hr1 hs2 hs3 hB3 HWr hone
      go_wp2_with (first
        | ((with_reducible show wpList _ _ _ _ _ _); refine wpList_load_at (P := Try.prog) rfl 35 (.tmp 5) rfl wr.heap.size rfl 35 scs hA3 _ Try.underlying35 rfl (by rw [hls]; exact i35) ?_)
        | (go_at_call 76; refine (HS.out _ _ hW3 (by omega)).mono ?_; rintro _ w4 ⟨rfl, ⟨v4, hW4⟩, hF4⟩; refine Hid.out ?_))
      refine hidU ?_
      have HW4 : Hid (Wt A w4 g v4 (out ++ [ub n] ++ (ks.take i).flatMap encV ++ encV s) ∧ Fb A g w w4) := ⟨hW4, hF3.trans hF4⟩
      clear hW4 hF4 hF3 hW3 hA3 HS
      go_wp2
      go_roundw
      case rel => exact ⟨i + 1, by go_num, by omega, ⟨v4, by rw [HTk.out, ← List.append_assoc]; exact HW4.out.1⟩, HW4.out.2⟩
      case measure => simp [intOf]; omega
    · have hin : i = n := by omega
      have HX : Hid ((∃ v', Wt A wr g v' (out ++ ub n :: ks.flatMap encV)) ∧ Fb A g w wr) := by
        have := hX.out
        rw [hin, hn.out, List.take_length, ← hn.out] at this
        obtain ⟨⟨v', h1⟩, h2⟩ := this
        exact ⟨⟨v', by rw [List.append_assoc] at h1; exact h1⟩, h2⟩
      clear hX HR HE
      go_wp2
      go_end0
      exact ⟨rfl, HX.out⟩

end Go.Proofs.Ytefklmckkigllaa

/- A node written. -/
namespace Go.Proofs.Ytefklmckkigllaa
open Go.RowKit
set_option linter.unusedVariables false

/-- An instruction's bytes. -/
def encI (x : Ir) : List UInt8 := ub x.op :: ub x.arg.toNat :: (if x.op = 1 then encV x.v else [])
/-- A node's bytes. -/
def encN (x : Nd) : List UInt8 := bytesOf 2 x.code.length ++ x.code.flatMap encI ++ (ub x.kind.toNat :: ub x.arg.toNat :: (bytesOf 2 x.next.toNat ++ bytesOf 2 x.alt.toNat))
/-- What has room in its bytes. -/
def fitI (x : Ir) : Prop := x.Ok ∧ 0 ≤ x.arg ∧ x.arg < 256
def fitN (x : Nd) : Prop := x.code.length < 65536 ∧ (∀ y ∈ x.code, fitI y) ∧ (0 ≤ x.kind ∧ x.kind < 256) ∧ (0 ≤ x.arg ∧ x.arg < 256) ∧ (0 ≤ x.next ∧ x.next < 65536) ∧ (0 ≤ x.alt ∧ x.alt < 65536)
theorem encI_len (x : Ir) : (encI x).length ≤ 11 := by
  unfold encI
  split
  · simp [encV_len]
  · simp
theorem encI_one {x : Ir} (h : x.op = 1) : encI x = ub x.op :: ub x.arg.toNat :: encV x.v := by unfold encI; rw [if_pos h]
theorem encI_not {x : Ir} (h : ¬ x.op = 1) : encI x = [ub x.op, ub x.arg.toNat] := by unfold encI; rw [if_neg h]

set_option maxRecDepth 100000 in
set_option maxHeartbeats 6400000 in
theorem nodeW_any (B A g : Nat) (v : Value) (out : List UInt8) (x : NT) (hf : fitN x.nd) (w : World) (h : Wt A w g v out) (hx : x.In B w) (hBA : B ≤ A) (hlen : out.length + (encN x.nd).length ≤ 1099511627776) (hAw : A ≤ w.heap.size) :
    Calls Try.prog 61 #[.pointer (some ⟨g, 0, none⟩), .agg x.cells.toArray] w fun e w' => e = .returned (.tuple #[]) ∧ (∃ v', Wt A w' g v' (out ++ encN x.nd)) ∧ Fb A g w w' := by
  obtain ⟨a, c, ⟨ks, kind, arg, next, alt⟩⟩ := x
  obtain ⟨hk, hfi, ⟨hk1, hk2⟩, ⟨ha1, ha2⟩, ⟨hx1, hx2⟩, hl1, hl2⟩ := hf
  dsimp only at hk hfi hk1 hk2 ha1 ha2 hx1 hx2 hl1 hl2
  obtain ⟨kind, rfl⟩ : ∃ k : Nat, kind = (k : Int) := ⟨kind.toNat, by omega⟩
  obtain ⟨arg, rfl⟩ : ∃ k : Nat, arg = (k : Int) := ⟨arg.toNat, by omega⟩
  obtain ⟨next, rfl⟩ : ∃ k : Nat, next = (k : Int) := ⟨next.toNat, by omega⟩
  obtain ⟨alt, rfl⟩ : ∃ k : Nat, alt = (k : Int) := ⟨alt.toNat, by omega⟩
  have hkind : kind < 256 := by omega
  have harg : arg < 256 := by omega
  have hnext : next < 65536 := by omega
  have halt : alt < 65536 := by omega
  clear hk1 hk2 ha1 ha2 hx1 hx2 hl1 hl2
  have hlow := h.low
  have hgw : w.heap.size ≠ g := by have := h.lt; omega
  have hr : RowIr B w a c ks := hx.1
  have hcap : ks.length ≤ c := hr.2.1
  obtain ⟨n, hn⟩ : ∃ n, Hid (n = ks.length) := ⟨_, (rfl : ks.length = _)⟩
  have hEq : encN ⟨ks, (kind : Int), (arg : Int), (next : Int), (alt : Int)⟩ = bytesOf 2 n ++ ks.flatMap encI ++ (ub kind :: ub arg :: (bytesOf 2 next ++ bytesOf 2 alt)) := by rw [hn.out]; rfl
  rw [hEq] at hlen
  have HL : Hid (out.length + 2 + (ks.flatMap encI).length + 6 ≤ 1099511627776) := by
    simp only [List.length_append, List.length_cons, bytesOf_length] at hlen
    show _ ≤ _
    omega
  show Calls Try.prog 61 #[.pointer (some ⟨g, 0, none⟩), .agg (NT.cells ⟨a, c, ⟨ks, (kind : Int), (arg : Int), (next : Int), (alt : Int)⟩⟩).toArray] w fun e w' => e = .returned (.tuple #[]) ∧ (∃ v', Wt A w' g v' (out ++ encN ⟨ks, (kind : Int), (arg : Int), (next : Int), (alt : Int)⟩)) ∧ Fb A g w w'
  rw [hEq]
  simp only [NT.cells]
  rw [← hn.out] at hk hcap ⊢
  have HR : Hid (RowIr B w a c ks) := hr
  have HFI : Hid (∀ y ∈ ks, fitI y) := hfi
  have HW : Hid (Wt A w g v out) := h
  have hl2 : out.length + 2 ≤ 1099511627776 := by have := HL.out; omega
  clear h hr hEq hlen hfi hx
  go_enter Try.func61, Try.ntmps61
  go_wp2_with (first
    | ((with_reducible show wpList _ _ _ _ _ _); refine wpList_box_at rfl 49 (.tmp 1) rfl [.slice a n c, .int .i64 (kind : Int), .int .i64 (arg : Int), .int .i64 (next : Int), .int .i64 (alt : Int)] rfl ?_; intro w1 hA1 hb1 hs1; clear hs1; refine Hid.out ?_))
  refine hidU ?_
  have hW1 := HW.out.below hb1
  have hs1 := hb1.size
  obtain ⟨c0, -⟩ := node_box hA1
  clear HW
  go_wp2_with (first
    | (go_at_call 60; refine (big_any A g v out n hk _ hW1 hl2 (by omega)).mono ?_; rintro _ w2 ⟨rfl, ⟨v2, hW2⟩, hF2⟩; refine Hid.out ?_))
  refine hidU ?_
  have hA2 := hF2.at hA1 hgw (by decide)
  have hF2w : Fb A g w w2 := (Fb.of_below hb1).trans hF2
  have HW2 : Hid (Wt A w2 g v2 (out ++ bytesOf 2 n) ∧ Fb A g w w2) := ⟨hW2, hF2w⟩
  have HA2 : Hid (At 49 w2 w.heap.size [.slice a n c, .int .i64 (kind : Int), .int .i64 (arg : Int), .int .i64 (next : Int), .int .i64 (alt : Int)]) := hA2
  clear c0
  obtain ⟨c0, -⟩ := node_box hA2
  have hs2 := hF2.size
  clear hW1 hA1 hb1 hW2 hF2 hA2 hF2w
  go_wp2_with fail
  clear c0
  go_loopw [14] (fun j wr => ∃ i : Nat, j = .int .i64 (i : Int) ∧ i ≤ n ∧ Hid ((∃ v', Wt A wr g v' (out ++ bytesOf 2 n ++ (ks.take i).flatMap encI)) ∧ Fb A g w wr ∧ Fb A g w2 wr)) (fun j _ => n - (intOf j).toNat)
  case atStart => exact ⟨0, rfl, by omega, ⟨v2, by simpa using HW2.out.1⟩, HW2.out.2, Fb.refl _ _ _⟩
  case round =>
    obtain ⟨i, rfl, hi, hX⟩ := hrel
    by_cases hc : i < n
    · obtain ⟨s, hs⟩ : ∃ k, ks[i]? = some k := ⟨ks[i]'(by rw [← hn.out]; exact hc), by rw [List.getElem?_eq_getElem]⟩
      obtain ⟨⟨v3, hWr⟩, hFr, hFr2⟩ := hX.out
      obtain ⟨g1, o1, rfl, hlt, hr1, hok⟩ := (RowIr.old HR.out (hFr.old hlow hAw hBA)).at i s hs
      obtain ⟨hIok, hg0, hg1⟩ := HFI.out s (List.mem_of_getElem? hs)
      have hst := flat_step_le encI ks i s hs
      have htk := flat_take encI ks i s hs
      have hgr : wr.heap.size ≠ g := by have := hWr.lt; omega
      have hAr : A ≤ wr.heap.size := Nat.le_trans hAw hFr.size
      have hone := s.one
      obtain ⟨op, sa, ⟨st, sb⟩⟩ := s
      obtain ⟨ho, hia, hsv⟩ := hIok
      dsimp only at ho hg0 hg1
      obtain ⟨sa, rfl⟩ : ∃ k : Nat, sa = (k : Int) := ⟨sa.toNat, by omega⟩
      have hsa : sa < 256 := by omega
      have HTk : Hid ((ks.take (i + 1)).flatMap encI = (ks.take i).flatMap encI ++ encI ⟨op, (sa : Int), ⟨st, sb⟩⟩) := htk
      obtain ⟨O, hO⟩ : ∃ O, Hid (O = out ++ bytesOf 2 n ++ (ks.take i).flatMap encI) := ⟨_, (rfl : _ = out ++ bytesOf 2 n ++ (ks.take i).flatMap encI)⟩
      have hOl : O.length + (encI ⟨op, (sa : Int), ⟨st, sb⟩⟩).length ≤ 1099511627776 := by
        have := HL.out
        rw [hO.out]
        simp only [List.length_append, bytesOf_length]
        omega
      rw [← hO.out] at hWr
      have HWr : Hid (Wt A wr g v3 O ∧ Fb A g w wr ∧ Fb A g w2 wr) := ⟨hWr, hFr, hFr2⟩
      have HRel : Hid (∀ u v', Wt A u g v' (O ++ encI ⟨op, (sa : Int), ⟨st, sb⟩⟩) → Fb A g wr u → (∃ v', Wt A u g v' (out ++ bytesOf 2 n ++ (ks.take (i + 1)).flatMap encI)) ∧ Fb A g w u ∧ Fb A g w2 u) := fun u v' h1 h2 => ⟨⟨v', by rw [HTk.out, ← List.append_assoc, ← hO.out]; exact h1⟩, hFr.trans h2, hFr2.trans h2⟩
      have HV : Hid (∀ u v' P, Wt A u g v' P → P.length + 9 ≤ 1099511627776 → A ≤ u.heap.size → Calls Try.prog 76 #[.pointer (some ⟨g, 0, none⟩), .agg #[.int .u8 (st : Int), .int .u64 (sb : Int)]] u fun e w' => e = .returned (.tuple #[]) ∧ (∃ v', Wt A w' g v' (P ++ encV ⟨st, sb⟩)) ∧ Fb A g u w') := fun u v' P hu hl hA => valW_any A g v' P ⟨st, sb⟩ hsv u hu hl hA
      clear hX hWr hFr hFr2 htk hst hok HR HL hia hg0 hg1 HTk hO HFI hsv hs
      simp only [Ir.cells] at hr1 hone
      go_wp2_with (first
        | ((with_reducible show wpList _ _ _ _ _ _); refine wpList_load_mid (P := Try.prog) rfl 37 (.tmp 16) rfl g1 (o1 + i * 4) (by first | rfl | (simp; done)) [.int .u8 (op : Int), .int .i64 (sa : Int), .int .u8 (st : Int), .int .u64 (sb : Int)] _ hr1 Try.underlying37 rfl i37 ?_)
        | ((with_reducible show wpList _ _ _ _ _ _); refine wpList_alloc_at rfl 37 rfl _ 4 z37 ?_; intro y2 yA2 yb2 ys2)
        | ((with_reducible show wpList _ _ _ _ _ _); refine wpList_store_at (P := Try.prog) rfl 37 (.tmp 5) (.tmp 17) rfl wr.heap.size [.int .u8 (op : Int), .int .i64 (sa : Int), .int .u8 (st : Int), .int .u64 (sb : Int)] rfl rfl 37 _ yA2 i37 rfl hone ?_; intro w3 hA3 hb3 hs3; refine Hid.out ?_))
      refine hidU ?_
      have hB3 : Below wr.heap.size wr w3 := hb3.below yb2 (Nat.le_refl _) (by omega)
      have hW3 := HWr.out.1.below hB3
      have hF3 : Fb A g wr w3 := Fb.of_below hB3
      have hs3' := hB3.size
      clear hb3 yb2 yA2 hr1 ys2 hs3 hB3 hone
      have d0 : w3.cell? ⟨wr.heap.size, 0, none⟩ = some (.int .u8 (op : Int)) := by rw [hA3.cell]; rfl
      by_cases h1 : op = 1
      · have e1 : ((op : Int) == 1) = true := by rw [beq_iff_eq]; omega
        rw [encI_one (x := ⟨op, (sa : Int), ⟨st, sb⟩⟩) h1] at hOl HRel
        simp only [List.length_cons, encV_len] at hOl
        have HRel : Hid (∀ u v', Wt A u g v' (O ++ ub op :: ub sa :: encV ⟨st, sb⟩) → Fb A g wr u → (∃ v', Wt A u g v' (out ++ bytesOf 2 n ++ (ks.take (i + 1)).flatMap encI)) ∧ Fb A g w u ∧ Fb A g w2 u) := HRel
        clear h1
        go_wp2_with (first
          | (go_at_call 59; refine (small_any A g v3 O op ho _ hW3 (by omega) (by omega)).mono ?_; rintro _ w4 ⟨rfl, ⟨v4, hW4⟩, hF4⟩; refine Hid.out ?_))
        refine hidU ?_
        have hA4 := hF4.at hA3 hgr (by decide)
        have d1 : w4.cell? ⟨wr.heap.size, 1, none⟩ = some (.int .i64 (sa : Int)) := by rw [hA4.cell]; rfl
        have hs4 := hF4.size
        have hF34 := hF3.trans hF4
        clear d0 hA3 hF3 hF4 hW3
        go_wp2_with (first
          | (go_at_call 59; refine (small_any A g v4 _ sa hsa _ hW4 (by simp only [List.length_append, List.length_singleton]; omega) (by omega)).mono ?_; rintro _ w5 ⟨rfl, ⟨v5, hW5⟩, hF5⟩; refine Hid.out ?_))
        refine hidU ?_
        have hA5 := hF5.at hA4 hgr (by decide)
        have d0 : w5.cell? ⟨wr.heap.size, 0, none⟩ = some (.int .u8 (op : Int)) := by rw [hA5.cell]; rfl
        have d2 : w5.cell? ⟨wr.heap.size, 2, none⟩ = some (.int .u8 (st : Int)) := by rw [hA5.cell]; rfl
        have d3 : w5.cell? ⟨wr.heap.size, 3, none⟩ = some (.int .u64 (sb : Int)) := by rw [hA5.cell]; rfl
        have hs5 := hF5.size
        have hF35 := hF34.trans hF5
        clear d1 hA4 hF34 hF5 hW4 hA5
        go_wp2_with (first
          | (go_at_call 76; refine (HV.out _ _ _ hW5 (by simp only [List.length_append, List.length_singleton]; omega) (by omega)).mono ?_; rintro _ w6 ⟨rfl, ⟨v6, hW6⟩, hF6⟩; refine Hid.out ?_))
        refine hidU ?_
        have HQ := HRel.out w6 v6 (by have := hW6; simp only [List.append_assoc, List.singleton_append] at this; exact this) (hF35.trans hF6)
        have HQQ : Hid ((∃ v', Wt A w6 g v' (out ++ bytesOf 2 n ++ (ks.take (i + 1)).flatMap encI)) ∧ Fb A g w w6 ∧ Fb A g w2 w6) := HQ
        clear HQ hW6 hF6 hW5 hF35 d0 d2 d3 HV HRel HWr
        go_wp2
        go_roundw
        case rel => exact ⟨i + 1, by go_num, by omega, HQQ.out⟩
        case measure => simp [intOf]; omega
      · have e1 : ((op : Int) == 1) = false := by rw [beq_eq_false_iff_ne]; omega
        rw [encI_not (x := ⟨op, (sa : Int), ⟨st, sb⟩⟩) h1] at hOl HRel
        simp only [List.length_cons, List.length_nil] at hOl
        have HRel : Hid (∀ u v', Wt A u g v' (O ++ [ub op, ub sa]) → Fb A g wr u → (∃ v', Wt A u g v' (out ++ bytesOf 2 n ++ (ks.take (i + 1)).flatMap encI)) ∧ Fb A g w u ∧ Fb A g w2 u) := HRel
        clear h1
        go_wp2_with (first
          | (go_at_call 59; refine (small_any A g v3 O op ho _ hW3 (by omega) (by omega)).mono ?_; rintro _ w4 ⟨rfl, ⟨v4, hW4⟩, hF4⟩; refine Hid.out ?_))
        refine hidU ?_
        have hA4 := hF4.at hA3 hgr (by decide)
        have d1 : w4.cell? ⟨wr.heap.size, 1, none⟩ = some (.int .i64 (sa : Int)) := by rw [hA4.cell]; rfl
        have hs4 := hF4.size
        have hF34 := hF3.trans hF4
        clear d0 hA3 hF3 hF4 hW3
        go_wp2_with (first
          | (go_at_call 59; refine (small_any A g v4 _ sa hsa _ hW4 (by simp only [List.length_append, List.length_singleton]; omega) (by omega)).mono ?_; rintro _ w5 ⟨rfl, ⟨v5, hW5⟩, hF5⟩; refine Hid.out ?_))
        refine hidU ?_
        have hA5 := hF5.at hA4 hgr (by decide)
        have d0 : w5.cell? ⟨wr.heap.size, 0, none⟩ = some (.int .u8 (op : Int)) := by rw [hA5.cell]; rfl
        have HQ := HRel.out w5 v5 (by have := hW5; simp only [List.append_assoc, List.singleton_append] at this; exact this) (hF34.trans hF5)
        have HQQ : Hid ((∃ v', Wt A w5 g v' (out ++ bytesOf 2 n ++ (ks.take (i + 1)).flatMap encI)) ∧ Fb A g w w5 ∧ Fb A g w2 w5) := HQ
        clear HQ d1 hA4 hF34 hF5 hW4 hA5 hW5 HV HRel HWr
        go_wp2
        go_roundw
        case rel => exact ⟨i + 1, by go_num, by omega, HQQ.out⟩
        case measure => simp [intOf]; omega
    · have hin : i = n := by omega
      obtain ⟨⟨v3, hWr⟩, hFr, hFr2⟩ := hX.out
      rw [hin, hn.out, List.take_length, ← hn.out] at hWr
      have hA3 := hFr2.at HA2.out hgw (by decide)
      obtain ⟨-, c1, c2, c3, c4⟩ := node_box hA3
      have hAr : A ≤ wr.heap.size := Nat.le_trans hAw hFr.size
      obtain ⟨O, hO⟩ : ∃ O, Hid (O = out ++ bytesOf 2 n ++ ks.flatMap encI) := ⟨_, (rfl : _ = out ++ bytesOf 2 n ++ ks.flatMap encI)⟩
      have hOl : O.length + 6 ≤ 1099511627776 := by
        have := HL.out
        rw [hO.out]
        simp only [List.length_append, bytesOf_length]
        omega
      rw [← hO.out] at hWr
      have HEnd : Hid (∀ u v', Wt A u g v' (O ++ [ub kind] ++ [ub arg] ++ bytesOf 2 next ++ bytesOf 2 alt) → ∃ v', Wt A u g v' (out ++ (bytesOf 2 n ++ ks.flatMap encI ++ ub kind :: ub arg :: (bytesOf 2 next ++ bytesOf 2 alt)))) := fun u v' h => ⟨v', by
        rw [hO.out] at h
        simp only [List.append_assoc, List.cons_append, List.nil_append] at h ⊢
        exact h⟩
      clear hX HR HL hFr2 HA2 HW2 hO HFI hin
      go_wp2_with (first
        | (go_at_call 59; refine (small_any A g v3 O kind hkind _ hWr (by omega) hAr).mono ?_; rintro _ w4 ⟨rfl, ⟨v4, hW4⟩, hF4⟩; refine Hid.out ?_))
      refine hidU ?_
      have hA4 := hF4.at hA3 hgw (by decide)
      have hs4 := hF4.size
      have hFw4 := hFr.trans hF4
      clear c1 c2 c3 c4 hA3 hFr hF4 hWr
      obtain ⟨-, c1, c2, c3, c4⟩ := node_box hA4
      go_wp2_with (first
        | (go_at_call 59; refine (small_any A g v4 _ arg harg _ hW4 (by simp only [List.length_append, List.length_singleton]; omega) (by omega)).mono ?_; rintro _ w5 ⟨rfl, ⟨v5, hW5⟩, hF5⟩; refine Hid.out ?_))
      refine hidU ?_
      have hA5 := hF5.at hA4 hgw (by decide)
      have hs5 := hF5.size
      have hFw5 := hFw4.trans hF5
      clear c1 c2 c3 c4 hA4 hFw4 hF5 hW4
      obtain ⟨-, c1, c2, c3, c4⟩ := node_box hA5
      go_wp2_with (first
        | (go_at_call 60; refine (big_any A g v5 _ next hnext _ hW5 (by simp only [List.length_append, List.length_singleton]; omega) (by omega)).mono ?_; rintro _ w6 ⟨rfl, ⟨v6, hW6⟩, hF6⟩; refine Hid.out ?_))
      refine hidU ?_
      have hA6 := hF6.at hA5 hgw (by decide)
      have hs6 := hF6.size
      have hFw6 := hFw5.trans hF6
      clear c1 c2 c3 c4 hA5 hFw5 hF6 hW5
      obtain ⟨-, c1, c2, c3, c4⟩ := node_box hA6
      go_wp2_with (first
        | (go_at_call 60; refine (big_any A g v6 _ alt halt _ hW6 (by simp only [List.length_append, List.length_singleton, bytesOf_length]; omega) (by omega)).mono ?_; rintro _ w7 ⟨rfl, ⟨v7, hW7⟩, hF7⟩; refine Hid.out ?_))
      refine hidU ?_
      have hFw7 := hFw6.trans hF7
      have hEnd := HEnd.out w7 v7 hW7
      have HE2 : Hid (_ ∧ _) := ⟨hEnd, hFw7⟩
      clear c1 c2 c3 c4 hA6 hFw6 hF7 hW6 hW7 HEnd hEnd hFw7
      go_wp2
      go_end0
      exact ⟨rfl, HE2.out⟩

end Go.Proofs.Ytefklmckkigllaa
