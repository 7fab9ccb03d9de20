/- Joined texts of the proof. -/
import Derived.Test.YtjgggmjjikopeaaGreatDoorJ19
import Derived.Test.YtjgggmjjikopeaaGreatDoorJ14
import Derived.Test.YtjgggmjjikopeaaGreatDoorJ6
import Derived.Test.YtjgggmjjikopeaaGreatDoorJ20

/- The document's own comparison of variables and of names. -/
namespace Go.Proofs.YtjgggmjjikopeaaGreatDoor
open Go.RowKit
set_option linter.unusedVariables false

set_option maxRecDepth 100000 in
set_option maxHeartbeats 3200000 in
theorem kitN_any (B : Nat) (xs ys : List ByteArray) (a1 a2 : Option Addr) (c1 c2 : Nat) (w : World) (h1 : RowN B w a1 c1 xs) (h2 : RowN B w a2 c2 ys) (hBw : B ≤ w.heap.size) :
    Calls Tryz.prog 32 #[.slice a1 xs.length c1, .slice a2 ys.length c2] w fun r w' => r = .returned (.bool (eqL samN (xs.map (fun s : ByteArray => s.data.toList)) (ys.map (fun s : ByteArray => s.data.toList)))) ∧ Below w.heap.size w w' := by
  obtain ⟨R, hR⟩ : ∃ R, Hid (R = eqL samN (xs.map (fun s : ByteArray => s.data.toList)) (ys.map (fun s : ByteArray => s.data.toList))) := ⟨_, (rfl : _ = eqL samN _ _)⟩
  rw [← hR.out]
  obtain ⟨n, hn⟩ : ∃ n, Hid (n = xs.length) := ⟨_, (rfl : xs.length = _)⟩
  obtain ⟨n2, hn2⟩ : ∃ n, Hid (n = ys.length) := ⟨_, (rfl : ys.length = _)⟩
  have hl1 := h1.1
  have hl2 := h2.1
  have hk1 := h1.2.1
  have hk2 := h2.2.1
  rw [← hn.out] at hl1 hk1 ⊢
  rw [← hn2.out] at hl2 hk2 ⊢
  have HR : Hid (RowN B w a1 c1 xs ∧ RowN B w a2 c2 ys) := ⟨h1, h2⟩
  clear h1 h2
  by_cases hnn : n = n2
  · subst hnn
    go_enter Tryz.func32, Tryz.ntmps32
    go_wp2_with fail
    go_loopw [5] (fun j wr => ∃ i : Nat, j = .int .i64 (i : Int) ∧ i ≤ n ∧ Hid (Below w.heap.size w wr ∧ ∀ (q : Nat) (x y : List UInt8), q < i → (xs.map (fun s : ByteArray => s.data.toList))[q]? = some x → (ys.map (fun s : ByteArray => s.data.toList))[q]? = some y → samN x y = true)) (fun j _ => n - (intOf j).toNat)
    case atStart => exact ⟨0, rfl, by omega, Below.refl _ _, fun q x y hq => by omega⟩
    case round =>
      obtain ⟨i, rfl, hi, hX⟩ := hrel
      by_cases hc : i < n
      · obtain ⟨x, hx⟩ : ∃ k, xs[i]? = some k := ⟨xs[i]'(by rw [← hn.out]; exact hc), by rw [List.getElem?_eq_getElem]⟩
        obtain ⟨y, hy⟩ : ∃ k, ys[i]? = some k := ⟨ys[i]'(by rw [← hn2.out]; exact hc), by rw [List.getElem?_eq_getElem]⟩
        obtain ⟨hbw, hall⟩ := hX.out
        have hold : Old B w wr := Old.of_below hbw hBw
        obtain ⟨g1, o1, rfl, hg1, hr1⟩ := (HR.out.1.old hold).at i x hx
        obtain ⟨g2, o2, rfl, hg2, hr2⟩ := (HR.out.2.old hold).at i y hy
        have HA : Hid (∀ (q : Nat) (x y : List UInt8), q < i → (xs.map (fun s : ByteArray => s.data.toList))[q]? = some x → (ys.map (fun s : ByteArray => s.data.toList))[q]? = some y → samN x y = true) := hall
        have HXY : Hid ((xs.map (fun s : ByteArray => s.data.toList))[i]? = some ((fun s : ByteArray => s.data.toList) x) ∧ (ys.map (fun s : ByteArray => s.data.toList))[i]? = some ((fun s : ByteArray => s.data.toList) y)) := ⟨by rw [List.getElem?_map, hx]; rfl, by rw [List.getElem?_map, hy]; rfl⟩
        clear hX hold hall HR hx hy
        cases hM : samN ((fun s : ByteArray => s.data.toList) x) ((fun s : ByteArray => s.data.toList) y) with
        | false =>
          have hRf : R = false := by
            rw [hR.out, Bool.eq_false_iff]
            intro h
            have := ((eqL_iff _ _ _).1 h).2 i _ _ HXY.out.1 HXY.out.2
            rw [hM] at this
            cases this
          have hs : (x.toList == y.toList) = false := by
            rw [toList_bytes, toList_bytes, beq_eq_false_iff_ne]
            exact of_decide_eq_false hM
          clear hM
          go_wp2_with fail
          go_quiet (fail)
          go_wp2_with fail
          go_ret
          exact ⟨by rw [hRf]; rfl, below_drN hbw _⟩
        | true =>
          have HM : Hid (samN ((fun s : ByteArray => s.data.toList) x) ((fun s : ByteArray => s.data.toList) y) = true) := hM
          have hs : (x.toList == y.toList) = true := by
            rw [toList_bytes, toList_bytes, beq_iff_eq]
            exact of_decide_eq_true hM
          clear hM
          go_wp2_with fail
          go_quiet (fail)
          go_wp2_with fail
          go_roundw
          case rel =>
            refine ⟨i + 1, by go_num, by omega, below_drN hbw _, fun q u v hq hu hv => ?_⟩
            by_cases hqi : q = i
            · subst hqi
              rw [HXY.out.1] at hu
              rw [HXY.out.2] at hv
              cases hu
              cases hv
              exact HM.out
            · exact HA.out q u v (by omega) hu hv
          case measure => simp [intOf]; omega
      · have hin : i = n := by omega
        obtain ⟨hbw, hall⟩ := hX.out
        have hRt : R = true := by
          rw [hR.out, eqL_iff, List.length_map, List.length_map, ← hn.out, ← hn2.out]
          refine ⟨rfl, fun q u v hu hv => hall q u v ?_ hu hv⟩
          have := (List.getElem?_eq_some_iff.1 hu).1
          rw [List.length_map, ← hn.out] at this
          omega
        clear hX hall hin HR
        go_wp2
        go_ret
        exact ⟨by rw [hRt]; rfl, hbw⟩
  · have hne : ((n : Int) == (n2 : Int)) = false := by rw [beq_eq_false_iff_ne]; omega
    have hRf : R = false := by
      rw [hR.out, Bool.eq_false_iff]
      intro h
      have := (eqL_iff _ _ _).1 h
      rw [List.length_map, List.length_map, ← hn.out, ← hn2.out] at this
      exact hnn this.1
    clear hnn
    go_enter Tryz.func32, Tryz.ntmps32
    go_wp2_with fail
    go_ret
    exact ⟨by rw [hRf]; rfl, Below.refl _ _⟩

set_option maxRecDepth 100000 in
set_option maxHeartbeats 3200000 in
theorem kitV_any (B : Nat) (xs ys : List VT) (a1 a2 : Option Addr) (c1 c2 : Nat) (w : World) (h1 : RowV B w a1 c1 xs) (h2 : RowV B w a2 c2 ys) (hBw : B ≤ w.heap.size) :
    Calls Tryz.prog 31 #[.slice a1 xs.length c1, .slice a2 ys.length c2] w fun r w' => r = .returned (.bool (eqL samV (xs.map VT.vr) (ys.map VT.vr))) ∧ Below w.heap.size w w' := by
  obtain ⟨R, hR⟩ : ∃ R, Hid (R = eqL samV (xs.map VT.vr) (ys.map VT.vr)) := ⟨_, (rfl : _ = eqL samV _ _)⟩
  rw [← hR.out]
  obtain ⟨n, hn⟩ : ∃ n, Hid (n = xs.length) := ⟨_, (rfl : xs.length = _)⟩
  obtain ⟨n2, hn2⟩ : ∃ n, Hid (n = ys.length) := ⟨_, (rfl : ys.length = _)⟩
  have hl1 := h1.1
  have hl2 := h2.1
  have hk1 := h1.2.1
  have hk2 := h2.2.1
  rw [← hn.out] at hl1 hk1 ⊢
  rw [← hn2.out] at hl2 hk2 ⊢
  have HR : Hid (RowV B w a1 c1 xs ∧ RowV B w a2 c2 ys) := ⟨h1, h2⟩
  clear h1 h2
  by_cases hnn : n = n2
  · subst hnn
    go_enter Tryz.func31, Tryz.ntmps31
    go_wp2_with fail
    go_loopw [5] (fun j wr => ∃ i : Nat, j = .int .i64 (i : Int) ∧ i ≤ n ∧ Hid (Below w.heap.size w wr ∧ ∀ (q : Nat) (x y : Vr), q < i → (xs.map VT.vr)[q]? = some x → (ys.map VT.vr)[q]? = some y → samV x y = true)) (fun j _ => n - (intOf j).toNat)
    case atStart => exact ⟨0, rfl, by omega, Below.refl _ _, fun q x y hq => by omega⟩
    case round =>
      obtain ⟨i, rfl, hi, hX⟩ := hrel
      by_cases hc : i < n
      · obtain ⟨x, hx⟩ : ∃ k, xs[i]? = some k := ⟨xs[i]'(by rw [← hn.out]; exact hc), by rw [List.getElem?_eq_getElem]⟩
        obtain ⟨y, hy⟩ : ∃ k, ys[i]? = some k := ⟨ys[i]'(by rw [← hn2.out]; exact hc), by rw [List.getElem?_eq_getElem]⟩
        obtain ⟨hbw, hall⟩ := hX.out
        have hold : Old B w wr := Old.of_below hbw hBw
        obtain ⟨g1, o1, rfl, hg1, hr1, hi1⟩ := (HR.out.1.old hold).at i x hx
        obtain ⟨g2, o2, rfl, hg2, hr2, hi2⟩ := (HR.out.2.old hold).at i y hy
        obtain ⟨nm, t, b⟩ := x
        obtain ⟨nm', t', b'⟩ := y
        have x0 : wr.cell? ⟨g1, o1 + i * 3, none⟩ = some (.string nm) := by have := hr1 0 _ rfl; simpa using this
        have x1 : wr.cell? ⟨g1, o1 + i * 3 + 1, none⟩ = some (.int .u8 (t : Int)) := hr1 1 _ rfl
        have x2 : wr.cell? ⟨g1, o1 + i * 3 + 2, none⟩ = some (.int .u64 (b : Int)) := hr1 2 _ rfl
        have y0 : wr.cell? ⟨g2, o2 + i * 3, none⟩ = some (.string nm') := by have := hr2 0 _ rfl; simpa using this
        have y1 : wr.cell? ⟨g2, o2 + i * 3 + 1, none⟩ = some (.int .u8 (t' : Int)) := hr2 1 _ rfl
        have y2 : wr.cell? ⟨g2, o2 + i * 3 + 2, none⟩ = some (.int .u64 (b' : Int)) := hr2 2 _ rfl
        have hq := eqV nm t b nm' t' b'
        clear hr1 hr2 hi1 hi2
        have HA : Hid (∀ (q : Nat) (x y : Vr), q < i → (xs.map VT.vr)[q]? = some x → (ys.map VT.vr)[q]? = some y → samV x y = true) := hall
        have HXY : Hid ((xs.map VT.vr)[i]? = some (VT.vr ⟨nm, t, b⟩) ∧ (ys.map VT.vr)[i]? = some (VT.vr ⟨nm', t', b'⟩)) := ⟨by rw [List.getElem?_map, hx]; rfl, by rw [List.getElem?_map, hy]; rfl⟩
        clear hX hold hall HR hx hy
        cases hM : samV (VT.vr ⟨nm, t, b⟩) (VT.vr ⟨nm', t', b'⟩) with
        | false =>
          have hRf : R = false := by
            rw [hR.out, Bool.eq_false_iff]
            intro h
            have := ((eqL_iff _ _ _).1 h).2 i _ _ HXY.out.1 HXY.out.2
            rw [hM] at this
            cases this
          have hq' : ∀ u, (Op.equalIn 10000 48 (.agg #[.string nm, .int .u8 (t : Int), .int .u64 (b : Int)]) (.agg #[.string nm', .int .u8 (t' : Int), .int .u64 (b' : Int)])).run Tryz.prog u = .ok false u := fun u => by rw [hq]; exact congrArg (fun z => Result.ok z u) hM
          clear hq
          clear hM
          go_wp2_with fail
          go_quiet (fail)
          go_wp2_with fail
          go_ret
          exact ⟨by rw [hRf]; rfl, below_drN hbw _⟩
        | true =>
          have HM : Hid (samV (VT.vr ⟨nm, t, b⟩) (VT.vr ⟨nm', t', b'⟩) = true) := hM
          have hq' : ∀ u, (Op.equalIn 10000 48 (.agg #[.string nm, .int .u8 (t : Int), .int .u64 (b : Int)]) (.agg #[.string nm', .int .u8 (t' : Int), .int .u64 (b' : Int)])).run Tryz.prog u = .ok true u := fun u => by rw [hq]; exact congrArg (fun z => Result.ok z u) hM
          clear hq
          clear hM
          go_wp2_with fail
          go_quiet (fail)
          go_wp2_with fail
          go_roundw
          case rel =>
            refine ⟨i + 1, by go_num, by omega, below_drN hbw _, fun q u v hq hu hv => ?_⟩
            by_cases hqi : q = i
            · subst hqi
              rw [HXY.out.1] at hu
              rw [HXY.out.2] at hv
              cases hu
              cases hv
              exact HM.out
            · exact HA.out q u v (by omega) hu hv
          case measure => simp [intOf]; omega
      · have hin : i = n := by omega
        obtain ⟨hbw, hall⟩ := hX.out
        have hRt : R = true := by
          rw [hR.out, eqL_iff, List.length_map, List.length_map, ← hn.out, ← hn2.out]
          refine ⟨rfl, fun q u v hu hv => hall q u v ?_ hu hv⟩
          have := (List.getElem?_eq_some_iff.1 hu).1
          rw [List.length_map, ← hn.out] at this
          omega
        clear hX hall hin HR
        go_wp2
        go_ret
        exact ⟨by rw [hRt]; rfl, hbw⟩
  · have hne : ((n : Int) == (n2 : Int)) = false := by rw [beq_eq_false_iff_ne]; omega
    have hRf : R = false := by
      rw [hR.out, Bool.eq_false_iff]
      intro h
      have := (eqL_iff _ _ _).1 h
      rw [List.length_map, List.length_map, ← hn.out, ← hn2.out] at this
      exact hnn this.1
    clear hnn
    go_enter Tryz.func31, Tryz.ntmps31
    go_wp2_with fail
    go_ret
    exact ⟨by rw [hRf]; rfl, Below.refl _ _⟩
end Go.Proofs.YtjgggmjjikopeaaGreatDoor

/- Sizes of statements. -/
namespace Go.Proofs.YtjgggmjjikopeaaGreatDoor
open Go.RowKit
set_option linter.unusedVariables false

theorem ST.sz1 {k : Int} {nm : ByteArray} {e : ET} {a1 a2 : Option Addr} {c1 c2 : Nat} {body els : List ST} {x : ST} (h : x ∈ body) : SizeOf.sizeOf x < SizeOf.sizeOf (ST.mk k nm e a1 c1 body a2 c2 els) := by
  have := List.sizeOf_lt_of_mem h
  simp only [ST.mk.sizeOf_spec]
  omega
theorem ST.sz2 {k : Int} {nm : ByteArray} {e : ET} {a1 a2 : Option Addr} {c1 c2 : Nat} {body els : List ST} {x : ST} (h : x ∈ els) : SizeOf.sizeOf x < SizeOf.sizeOf (ST.mk k nm e a1 c1 body a2 c2 els) := by
  have := List.sizeOf_lt_of_mem h
  simp only [ST.mk.sizeOf_spec]
  omega
theorem pg_cells {w : World} {g : Nat} {s1 s2 s3 : Value} (h : At 26 w g [s1, s2, s3]) : w.cell? ⟨g, 0, none⟩ = some s1 ∧ w.cell? ⟨g, 1, none⟩ = some s2 ∧ w.cell? ⟨g, 2, none⟩ = some s3 := by
  refine ⟨?_, ?_, ?_⟩ <;> (rw [h.cell]; rfl)
end Go.Proofs.YtjgggmjjikopeaaGreatDoor

/- The document's own comparison of programs. -/
namespace Go.Proofs.YtjgggmjjikopeaaGreatDoor
open Go.RowKit
set_option linter.unusedVariables false

theorem But.setCells5 {g : Nat} {a : World} : ∀ (vs : List Value) (o : Nat) (w : World), But g a w → But g a (w.setCells g o vs)
  | [], o, w, h => h
  | v :: vs, o, w, h => But.setCells5 vs (o + 1) _ (h.setCell o v)
theorem size_setCells5 (g : Nat) : ∀ (vs : List Value) (o : Nat) (w : World), (w.setCells g o vs).heap.size = w.heap.size
  | [], o, w => rfl
  | v :: vs, o, w => by
    show ((w.setCell ⟨g, o, none⟩ v).setCells g (o + 1) vs).heap.size = _
    rw [size_setCells5]
    simp
def setAll5 : List Value → Nat → List Value → List Value
  | old, _, [] => old
  | old, o, v :: vs => setAll5 (old.set o v) (o + 1) vs
theorem At.setCells5 {t : TypeId} {g : Nat} : ∀ (vs : List Value) (o : Nat) (old : List Value) (w : World), At t w g old → At t (w.setCells g o vs) g (setAll5 old o vs)
  | [], o, old, w, h => h
  | v :: vs, o, old, w, h => At.setCells5 vs (o + 1) _ _ (h.set o v)
theorem th_cells5 {w : World} {g : Nat} {nm : ByteArray} {s1 s2 : Value} (h : At 53 w g [.string nm, s1, s2]) : w.cell? ⟨g, 0, none⟩ = some (.string nm) ∧ w.cell? ⟨g, 1, none⟩ = some s1 ∧ w.cell? ⟨g, 2, none⟩ = some s2 := by
  refine ⟨?_, ?_, ?_⟩ <;> (rw [h.cell]; rfl)

theorem one59 (nm : ByteArray) (a1 : Option Addr) (n1 c1 : Nat) (a2 : Option Addr) (n2 c2 : Nat) : ∀ v ∈ [Value.string nm, .slice a1 n1 c1, .slice a2 n2 c2], v.oneCell' = true := by
  intro v hv
  simp at hv
  rcases hv with rfl | rfl | rfl <;> rfl
theorem wp_alloc_at5 {P : Program} {o : Oper} {a : Act} {w : World} {K : Act → World → Prop} {Q : Exit → Act → World → Prop} (t : TypeId) (ho : o.op = .alloc t) (cs : List Value) (n : Nat) (hz : (P.info? t).map (fun i => (i.zero, i.size)) = some (some (.agg cs.toArray), n))
    (h : ∀ w', At t w' w.heap.size cs → Below w.heap.size w w' → w'.heap.size = w.heap.size + 1 → K (a.put o.dst (.pointer (some ⟨w.heap.size, 0, none⟩))) w') : o.wp P a w K Q := by
  have := h (w.alloc (.cells cs.toArray t)) (_root_.Go.heap_alloc_new w _) ((Below.refl _ w).alloc (Nat.le_refl _) _) (by show (w.heap.push _).size = _; simp)
  have h0 := (zero_of_info hz).1
  unfold Oper.wp execOp
  simp only [ho, Instr.alloc, Sem.run_bind, h0]
  simpa [newVar, go_sem, Value.cells] using this

theorem th_mid {w : World} {g o : Nat} {nm : ByteArray} {s1 s2 : Value} (h : w.rangeAt g o [.string nm, s1, s2]) : w.cell? ⟨g, o, none⟩ = some (.string nm) ∧ w.cell? ⟨g, o + 1, none⟩ = some s1 ∧ w.cell? ⟨g, o + 2, none⟩ = some s2 := ⟨h 0 _ rfl, h 1 _ rfl, h 2 _ rfl⟩

theorem kitStmts_any (B : Nat) (M : Nat) : ∀ x : ST, SizeOf.sizeOf x < M → KitSW B x := by
  induction M with
  | zero => intro x h; omega
  | succ M ih =>
    rintro ⟨k, nm, e, a1, c1, b1, a2, c2, b2⟩ hN
    exact ⟨kitStmts_of B b1 fun s hs => ih s (by have := ST.sz1 (k := k) (nm := nm) (e := e) (a1 := a1) (a2 := a2) (c1 := c1) (c2 := c2) (els := b2) hs; omega), kitStmts_of B b2 fun s hs => ih s (by have := ST.sz2 (k := k) (nm := nm) (e := e) (a1 := a1) (a2 := a2) (c1 := c1) (c2 := c2) (body := b1) hs; omega)⟩
theorem kitBlock_any (B : Nat) (l : List ST) : KitLW B l := kitStmts_of B l fun s _ => kitStmts_any B _ s (Nat.lt_succ_self _)

set_option maxRecDepth 100000 in
set_option maxHeartbeats 12800000 in
theorem kitThreads_at (B : Nat) (s1 s2 s1' s2' : Value) (a3_ a3_' : Option Addr) (cc1 cc2 : Nat) (xs ys : List TT) (p1 p2_ : Bool) (w : World) (h1 : AskB w 31 #[s1, s1'] p1) (h2 : AskB w 32 #[s2, s2'] p2_) (hx : RowT B w a3_ cc1 xs) (hy : RowT B w a3_' cc2 ys) (hBw : B ≤ w.heap.size) :
    Calls Tryz.prog 10 #[.agg [s1, s2, .slice a3_ xs.length cc1].toArray, .agg [s1', s2', .slice a3_' ys.length cc2].toArray] w fun r w' => r = .returned (.bool (p1 && (p2_ && eqL samT (xs.map TT.th) (ys.map TT.th)))) ∧ Below w.heap.size w w' := by
  obtain ⟨R, hR⟩ : ∃ R, Hid (R = (p1 && (p2_ && eqL samT (xs.map TT.th) (ys.map TT.th)))) := ⟨_, (rfl : _ = (p1 && (p2_ && eqL samT _ _)))⟩
  rw [← hR.out]
  have H1 : Hid (AskB w 31 #[s1, s1'] p1) := h1
  have H2 : Hid (AskB w 32 #[s2, s2'] p2_) := h2
  obtain ⟨n, hn⟩ : ∃ n, Hid (n = xs.length) := ⟨_, (rfl : xs.length = _)⟩
  obtain ⟨n', hn'⟩ : ∃ n, Hid (n = ys.length) := ⟨_, (rfl : ys.length = _)⟩
  have hl1 := hx.1
  have hl2 := hy.1
  have hk1 := hx.2.1
  have hk2 := hy.2.1
  rw [← hn.out] at hl1 hk1 ⊢
  rw [← hn'.out] at hl2 hk2 ⊢
  have HR : Hid (RowT B w a3_ cc1 xs ∧ RowT B w a3_' cc2 ys) := ⟨hx, hy⟩
  clear h1 h2 hx hy
  go_enter Tryz.func10, Tryz.ntmps10
  go_wp2_with (first
    | ((with_reducible show wpList _ _ _ _ _ _); refine wpList_box_at rfl 26 (.tmp 0) rfl [s1, s2, .slice a3_ n cc1] rfl ?_; intro w1 hA1 hb1 hs1; clear hs1)
    | ((with_reducible show wpList _ _ _ _ _ _); refine wpList_box_at rfl 26 (.tmp 1) rfl [s1', s2', .slice a3_' n' cc2] rfl ?_; intro w2_ hA2 hb2 hs2; clear hs2; refine Hid.out ?_))
  refine hidU ?_
  have hA12 := hA1.below hb2
  have hbw_ : Below w.heap.size w w2_ := hb1.trans (hb2.mono hb1.size)
  have hl12 : w1.heap.size < w2_.heap.size := hA2.lt
  clear hA1 hb1 hb2
  obtain ⟨q0, q1, q2⟩ := pg_cells hA12
  obtain ⟨u0, u1, u2⟩ := pg_cells hA2
  go_wp2_with fail
  refine (H1.out _ hbw_).mono ?_
  rintro r w3_ ⟨rfl, hb3⟩
  have hA3 := hA12.below hb3
  have hA3' := hA2.below hb3
  have hw3 := hbw_.trans (hb3.mono hbw_.size)
  have hl13 : w1.heap.size < w3_.heap.size := hA3'.lt
  clear hA12 hA2 hbw_ hb3 q0 q1 q2 u0 u1 u2 hl12
  obtain ⟨q0, q1, q2⟩ := pg_cells hA3
  obtain ⟨u0, u1, u2⟩ := pg_cells hA3'
  cases p1 with
  | false =>
    go_wp2_with fail
    go_ret
    exact ⟨by rw [hR.out]; rfl, hw3⟩
  | true =>
    go_wp2_with fail
    refine (H2.out _ hw3).mono ?_
    rintro r w2 ⟨rfl, hb4⟩
    have hA4 := hA3.below hb4
    have hA4' := hA3'.below hb4
    have hbw := hw3.trans (hb4.mono hw3.size)
    have hl14 : w1.heap.size < w2.heap.size := hA4'.lt
    clear hA3 hA3' hw3 hb4 q0 q1 q2 u0 u1 u2 hl13
    obtain ⟨q0, q1, q2⟩ := pg_cells hA4
    obtain ⟨u0, u1, u2⟩ := pg_cells hA4'
    cases p2_ with
    | false =>
      go_wp2_with fail
      go_ret
      exact ⟨by rw [hR.out]; rfl, hbw⟩
    | true =>
      rw [Bool.true_and, Bool.true_and] at hR
      by_cases hnn : n = n'
      · subst hnn
        have HBX : Hid (At 26 w2 w.heap.size [s1, s2, .slice a3_ n cc1] ∧ At 26 w2 w1.heap.size [s1', s2', .slice a3_' n cc2]) := ⟨hA4, hA4'⟩
        clear hA4 hA4'
        go_wp2_with fail
        clear q0 q1 q2 u0 u1 u2
        go_loopw [5] (fun j wr => ∃ i : Nat, j = .int .i64 (i : Int) ∧ i ≤ n ∧ Hid (Below w2.heap.size w2 wr ∧ ∀ (q : Nat) (x y : Th), q < i → (xs.map TT.th)[q]? = some x → (ys.map TT.th)[q]? = some y → samT x y = true)) (fun j _ => n - (intOf j).toNat)
        case atStart => exact ⟨0, rfl, by omega, Below.refl _ _, fun q x y hq => by omega⟩
        case round =>
          obtain ⟨i, rfl, hi, hX⟩ := hrel
          obtain ⟨hb2r, hall⟩ := hX.out
          obtain ⟨-, -, q2⟩ := pg_cells (HBX.out.1.below hb2r)
          obtain ⟨-, -, u2⟩ := pg_cells (HBX.out.2.below hb2r)
          have hwr : Below w.heap.size w wr := hbw.trans (hb2r.mono hbw.size)
          by_cases hc : i < n
          · obtain ⟨x, hx⟩ : ∃ k, xs[i]? = some k := ⟨xs[i]'(by rw [← hn.out]; exact hc), by rw [List.getElem?_eq_getElem]⟩
            obtain ⟨y, hy⟩ : ∃ k, ys[i]? = some k := ⟨ys[i]'(by rw [← hn'.out]; exact hc), by rw [List.getElem?_eq_getElem]⟩
            have hold : Old B w wr := Old.of_below hwr hBw
            obtain ⟨g1, o1, rfl, hg1, hr1, hx1⟩ := (HR.out.1.old hold).at i x hx
            obtain ⟨g2, o2, rfl, hg2, hr2, hy1⟩ := (HR.out.2.old hold).at i y hy
            have HX : Hid ((xs.map TT.th)[i]? = some x.th ∧ (ys.map TT.th)[i]? = some y.th) := ⟨by rw [List.getElem?_map, hx]; rfl, by rw [List.getElem?_map, hy]; rfl⟩
            have HA : Hid (∀ (q : Nat) (x y : Th), q < i → (xs.map TT.th)[q]? = some x → (ys.map TT.th)[q]? = some y → samT x y = true) := hall
            obtain ⟨Z, hZ⟩ : ∃ Z, Hid (Z = samT x.th y.th) := ⟨_, (rfl : _ = samT _ _)⟩
            have hRf : Hid (Z = false → R = false) := fun hz => by
              rw [hR.out, Bool.eq_false_iff]
              intro h
              have := ((eqL_iff _ _ _).1 h).2 i _ _ HX.out.1 HX.out.2
              rw [← hZ.out, hz] at this
              cases this
            have hZS : Hid (Z = samT x.th y.th) := hZ.out
            obtain ⟨nm, a1, c1, ls, a2, c2, bs⟩ := x
            obtain ⟨nm', a1', c1', ls', a2', c2', bs'⟩ := y
            have hZ2 : Hid (Z = (decide (nm.data.toList = nm'.data.toList) && (eqL samV (ls.map VT.vr) (ls'.map VT.vr) && samSL (bs.map ST.st) (bs'.map ST.st)))) := hZ.out
            have hsz : B ≤ wr.heap.size := by have := hwr.size; omega
            have k2 : AskB wr 31 #[.slice a1 ls.length c1, .slice a1' ls'.length c1'] (eqL samV (ls.map VT.vr) (ls'.map VT.vr)) := fun w' h => kitV_any B ls ls' a1 a1' c1 c1' w' (hx1.1.old (Old.of_below h hsz)) (hy1.1.old (Old.of_below h hsz)) (by have := h.size; omega)
            have k3 : AskB wr 33 #[.slice a2 bs.length c2, .slice a2' bs'.length c2'] (samSL (bs.map ST.st) (bs'.map ST.st)) := fun w' h => kitBlock_any B bs bs' a2 a2' c2 c2' w' (hx1.2.old (Old.of_below h hsz)) (hy1.2.old (Old.of_below h hsz)) (by have := h.size; omega)
            generalize eqL samV (ls.map VT.vr) (ls'.map VT.vr) = p2 at k2 hZ2
            generalize samSL (bs.map ST.st) (bs'.map ST.st) = p3 at k3 hZ2
            simp only [TT.cells] at hr1 hr2
            generalize ls.length = n1 at k2 hr1
            generalize ls'.length = n1' at k2 hr2
            generalize bs.length = n2 at k3 hr1
            generalize bs'.length = n2' at k3 hr2
            have HE : Hid (∀ w', Below wr.heap.size wr w' → (w'.cell? ⟨g1, o1 + i * 3, none⟩ = some (.string nm) ∧ w'.cell? ⟨g1, o1 + i * 3 + 1, none⟩ = some (.slice a1 n1 c1) ∧ w'.cell? ⟨g1, o1 + i * 3 + 2, none⟩ = some (.slice a2 n2 c2)) ∧ (w'.cell? ⟨g2, o2 + i * 3, none⟩ = some (.string nm') ∧ w'.cell? ⟨g2, o2 + i * 3 + 1, none⟩ = some (.slice a1' n1' c1') ∧ w'.cell? ⟨g2, o2 + i * 3 + 2, none⟩ = some (.slice a2' n2' c2'))) := fun w' h => ⟨th_mid ((Old.of_below (B := B) h hsz).range hg1 hr1), th_mid ((Old.of_below (B := B) h hsz).range hg2 hr2)⟩
            have HB : Hid (∀ w', Below wr.heap.size wr w' → w'.cell? ⟨w.heap.size, 2, none⟩ = some (.slice (some ⟨g1, o1, none⟩) n cc1) ∧ w'.cell? ⟨w1.heap.size, 2, none⟩ = some (.slice (some ⟨g2, o2, none⟩) n cc2)) := fun w' h => ⟨(pg_cells ((HBX.out.1.below hb2r).below h)).2.2, (pg_cells ((HBX.out.2.below hb2r).below h)).2.2⟩
            have Q2 : Hid (AskB wr 31 #[.slice a1 n1 c1, .slice a1' n1' c1'] p2) := k2
            have Q3 : Hid (AskB wr 33 #[.slice a2 n2 c2, .slice a2' n2' c2'] p3) := k3
            have hS0 : Below wr.heap.size wr wr.drew := Below.drew (Below.refl _ _)
            clear hX hall hx hy hold hr1 hr2 hx1 hy1 k2 k3 HR hZ HBX
            go_wp2_with fail
            refine wp_region_held_drew (S := fun x => Below wr.heap.size wr x) (by kernel_rfl) hS0 (fun _ => ?_)
            refine wpAnyH_take (i := 0) (oi := { dst := some 38, op := .fieldAddr 26 (.tmp 2) 2, type := _, pos := _, after := _, guard := none }) (v := .pointer (some ⟨w.heap.size, 2, none⟩)) rfl (by kernel_rfl) (by kernel_rfl) (by kernel_rfl) (fun _ _ _ h => h) (Or.inl ⟨by rfl, ?_⟩) hS0 ?_
            · intro w hSw
              go_simp
            simp only [Act.put, List.setIfInBounds_toArray, List.set_cons_zero, List.set_cons_succ]
            refine wpAnyH_take (i := 1) (oi := { dst := some 39, op := .load 24 (.tmp 38), type := _, pos := _, after := _, guard := none }) (v := .slice (some ⟨g1, o1, none⟩) n cc1) rfl (by kernel_rfl) (by kernel_rfl) (by kernel_rfl) (fun _ _ _ h => h) (Or.inl ⟨by rfl, ?_⟩) hS0 ?_
            · intro w hSw
              have z := (HB.out w hSw).1
              go_simp
            simp only [Act.put, List.setIfInBounds_toArray, List.set_cons_zero, List.set_cons_succ]
            refine wpAnyH_take (i := 2) (oi := { dst := some 40, op := .move (.tmp 5), type := _, pos := _, after := _, guard := none }) (v := .int .i64 (i : Int)) rfl (by kernel_rfl) (by kernel_rfl) (by kernel_rfl) (fun _ _ _ h => h) (Or.inl ⟨by rfl, ?_⟩) hS0 ?_
            · intro w hSw
              go_simp
            simp only [Act.put, List.setIfInBounds_toArray, List.set_cons_zero, List.set_cons_succ]
            refine wpAnyH_take (i := 3) (oi := { dst := some 41, op := .indexAddr 24 (.tmp 39) (.tmp 40), type := _, pos := _, after := _, guard := none }) (v := .pointer (some ⟨g1, o1 + i * 3, none⟩)) rfl (by kernel_rfl) (by kernel_rfl) (by kernel_rfl) (fun _ _ _ h => h) (Or.inl ⟨by rfl, ?_⟩) hS0 ?_
            · intro w hSw
              go_simp
            simp only [Act.put, List.setIfInBounds_toArray, List.set_cons_zero, List.set_cons_succ]
            refine wpAnyH_take (i := 4) (oi := { dst := some 42, op := .load 53 (.tmp 41), type := _, pos := _, after := _, guard := none }) (v := .agg #[.string nm, .slice a1 n1 c1, .slice a2 n2 c2]) rfl (by kernel_rfl) (by kernel_rfl) (by kernel_rfl) (fun _ _ _ h => h) (Or.inl ⟨by rfl, ?_⟩) hS0 ?_
            · intro w hSw
              obtain ⟨z0, z1, z2⟩ := (HE.out w hSw).1
              go_simp
            simp only [Act.put, List.setIfInBounds_toArray, List.set_cons_zero, List.set_cons_succ]
            refine wpAnyH_take (i := 5) (oi := { dst := some 43, op := .fieldAddr 26 (.tmp 3) 2, type := _, pos := _, after := _, guard := none }) (v := .pointer (some ⟨w1.heap.size, 2, none⟩)) rfl (by kernel_rfl) (by kernel_rfl) (by kernel_rfl) (fun _ _ _ h => h) (Or.inl ⟨by rfl, ?_⟩) hS0 ?_
            · intro w hSw
              go_simp
            simp only [Act.put, List.setIfInBounds_toArray, List.set_cons_zero, List.set_cons_succ]
            refine wpAnyH_take (i := 6) (oi := { dst := some 44, op := .load 24 (.tmp 43), type := _, pos := _, after := _, guard := none }) (v := .slice (some ⟨g2, o2, none⟩) n cc2) rfl (by kernel_rfl) (by kernel_rfl) (by kernel_rfl) (fun _ _ _ h => h) (Or.inl ⟨by rfl, ?_⟩) hS0 ?_
            · intro w hSw
              have z := (HB.out w hSw).2
              go_simp
            simp only [Act.put, List.setIfInBounds_toArray, List.set_cons_zero, List.set_cons_succ]
            refine wpAnyH_take (i := 7) (oi := { dst := some 45, op := .move (.tmp 5), type := _, pos := _, after := _, guard := none }) (v := .int .i64 (i : Int)) rfl (by kernel_rfl) (by kernel_rfl) (by kernel_rfl) (fun _ _ _ h => h) (Or.inl ⟨by rfl, ?_⟩) hS0 ?_
            · intro w hSw
              go_simp
            simp only [Act.put, List.setIfInBounds_toArray, List.set_cons_zero, List.set_cons_succ]
            refine wpAnyH_take (i := 8) (oi := { dst := some 46, op := .indexAddr 24 (.tmp 44) (.tmp 45), type := _, pos := _, after := _, guard := none }) (v := .pointer (some ⟨g2, o2 + i * 3, none⟩)) rfl (by kernel_rfl) (by kernel_rfl) (by kernel_rfl) (fun _ _ _ h => h) (Or.inl ⟨by rfl, ?_⟩) hS0 ?_
            · intro w hSw
              go_simp
            simp only [Act.put, List.setIfInBounds_toArray, List.set_cons_zero, List.set_cons_succ]
            refine wpAnyH_take (i := 9) (oi := { dst := some 47, op := .load 53 (.tmp 46), type := _, pos := _, after := _, guard := none }) (v := .agg #[.string nm', .slice a1' n1' c1', .slice a2' n2' c2']) rfl (by kernel_rfl) (by kernel_rfl) (by kernel_rfl) (fun _ _ _ h => h) (Or.inl ⟨by rfl, ?_⟩) hS0 ?_
            · intro w hSw
              obtain ⟨z0, z1, z2⟩ := (HE.out w hSw).2
              go_simp
            simp only [Act.put, List.setIfInBounds_toArray, List.set_cons_zero, List.set_cons_succ]
            refine wpAnyH_ready (rs := [10, 11]) (by kernel_rfl) (by simp) ?_
            refine AllReadyH.cons (o := { dst := some 6, op := .alloc 53, type := _, pos := _, after := _, guard := none }) rfl (fun K hK => ?_) (AllReadyH.cons (o := { dst := some 7, op := .alloc 53, type := _, pos := _, after := _, guard := none }) rfl (fun K hK => ?_) AllReadyH.nil)
            · skip
              rw [if_pos (by rfl)]
              refine wp_alloc_at5 (P := Tryz.prog) 53 rfl _ 3 z42 ?_
              intro v1 hV1 hbv1 hsv1
              have hS1 := hS0.trans (hbv1.mono hS0.size)
              refine hK.out _ _ hS1 (fun _ => ?_)
              refine wpAnyH_ready (rs := [11]) (by kernel_rfl) (by simp) ?_
              refine AllReadyH.cons (o := { dst := some 7, op := .alloc 53, type := _, pos := _, after := _, guard := none }) rfl (fun K hK => ?_) AllReadyH.nil
              rw [if_pos (by rfl)]
              refine wp_alloc_at5 (P := Tryz.prog) 53 rfl _ 3 z42 ?_
              intro v2 hV2 hbv2 hsv2
              have hS2 := hS1.trans (hbv2.mono hS1.size)
              refine hK.out _ _ hS2 (fun _ => ?_)
              have hsv1' : v1.heap.size = wr.heap.size + 1 := hsv1
              have hV1 : At 53 v1 wr.heap.size _ := hV1
              have hX2 := (hV1.below hbv2)
              have hY2 := hV2
              refine wpAnyH_ready (rs := [12]) (by kernel_rfl) (by simp) ?_
              refine AllReadyH.cons (o := { dst := none, op := .store 53 (.tmp 6) (.tmp 42), type := _, pos := _, after := _, guard := none }) rfl (fun K hK => ?_) AllReadyH.nil
              rw [if_pos (by rfl)]
              refine wp_store_mid (P := Tryz.prog) 53 (.tmp 6) (.tmp 42) rfl (wr.heap.size) 0 [.string nm, .slice a1 n1 c1, .slice a2 n2 c2].toArray rfl rfl (hX2.there 0 _ (Nat.le_refl _)) i42 (all_oneCell_toArray (one59 _ _ _ _ _ _ _)) ?_
              obtain ⟨v3, hv3⟩ : ∃ v, v = v2.setCells (wr.heap.size) 0 [.string nm, .slice a1 n1 c1, .slice a2 n2 c2].toArray.toList := ⟨_, rfl⟩
              have hBu3 : But (wr.heap.size) v2 v3 := by rw [hv3]; exact But.setCells5 _ _ _ (But.refl _ _)
              have hX3 : At 53 v3 (wr.heap.size) [.string nm, .slice a1 n1 c1, .slice a2 n2 c2] := by rw [hv3]; exact At.setCells5 _ 0 _ _ hX2
              have hsz3 : v3.heap.size = v2.heap.size := by rw [hv3]; exact size_setCells5 _ _ _ _
              have hY3 := hBu3.at hY2 (by show _ ≠ _; first | (have hd : wr.drew.heap.size = wr.heap.size := rfl; omega))
              have hS3 : Below wr.heap.size wr v3 := hBu3.below hS2 (by have hd : wr.drew.heap.size = wr.heap.size := rfl; omega) hS2.size
              rw [← hv3]
              clear hv3
              refine hK.out _ _ hS3 (fun _ => ?_)
              refine wpAnyH_ready (rs := [13]) (by kernel_rfl) (by simp) ?_
              refine AllReadyH.cons (o := { dst := none, op := .store 53 (.tmp 7) (.tmp 47), type := _, pos := _, after := _, guard := none }) rfl (fun K hK => ?_) AllReadyH.nil
              rw [if_pos (by rfl)]
              refine wp_store_mid (P := Tryz.prog) 53 (.tmp 7) (.tmp 47) rfl (v1.heap.size) 0 [.string nm', .slice a1' n1' c1', .slice a2' n2' c2'].toArray rfl rfl (hY3.there 0 _ (Nat.le_refl _)) i42 (all_oneCell_toArray (one59 _ _ _ _ _ _ _)) ?_
              obtain ⟨v4, hv4⟩ : ∃ v, v = v3.setCells (v1.heap.size) 0 [.string nm', .slice a1' n1' c1', .slice a2' n2' c2'].toArray.toList := ⟨_, rfl⟩
              have hBu4 : But (v1.heap.size) v3 v4 := by rw [hv4]; exact But.setCells5 _ _ _ (But.refl _ _)
              have hY4 : At 53 v4 (v1.heap.size) [.string nm', .slice a1' n1' c1', .slice a2' n2' c2'] := by rw [hv4]; exact At.setCells5 _ 0 _ _ hY3
              have hX4 := hBu4.at hX3 (by show _ ≠ _; first | (have hd : wr.drew.heap.size = wr.heap.size := rfl; omega))
              have hS4 : Below wr.heap.size wr v4 := hBu4.below hS3 (by have hd : wr.drew.heap.size = wr.heap.size := rfl; omega) hS3.size
              rw [← hv4]
              clear hv4 hBu3 hBu4 hX3 hY3 hX2 hY2 hV1 hV2 hbv1 hbv2 hsv1 hsv1' hsv2 hsz3
              refine hK.out _ _ hS4 (fun _ => ?_)
              refine wpAnyH_done (by kernel_rfl) ?_ _
              obtain ⟨r0, r1, r2⟩ := th_cells5 hX4
              obtain ⟨s0, s1, s2⟩ := th_cells5 hY4
              by_cases hs : nm.toList = nm'.toList
              · have hs0 : (nm.toList == nm'.toList) = true := by rw [beq_iff_eq]; exact hs
                rw [toList_bytes, toList_bytes] at hs
                have hs' : decide (nm.data.toList = nm'.data.toList) = true := decide_eq_true hs
                rw [hs', Bool.true_and] at hZ2
                clear hs hs'
                go_wp2_with fail
                refine (Q2.out _ hS4).mono ?_
                rintro r v5 ⟨rfl, hb5⟩
                have hX5 := hX4.below hb5
                have hY5 := hY4.below hb5
                have hS5 := hS4.trans (hb5.mono hS4.size)
                clear hX4 hY4 r0 r1 r2 s0 s1 s2
                obtain ⟨r0, r1, r2⟩ := th_cells5 hX5
                obtain ⟨s0, s1, s2⟩ := th_cells5 hY5
                cases p2 with
                | false =>
                  go_wp2_with fail
                  go_ret
                  exact ⟨by rw [hRf.out (by first | (rw [hZ2.out]; done) | (rw [hZ2.out]; simp))]; rfl, hwr.trans (hS5.mono hwr.size)⟩
                | true =>
                  go_wp2_with fail
                  refine (Q3.out _ hS5).mono ?_
                  rintro r v6 ⟨rfl, hb6⟩
                  have hS6 := hS5.trans (hb6.mono hS5.size)
                  clear hX5 hY5 r0 r1 r2 s0 s1 s2
                  cases p3 with
                  | false =>
                    go_wp2_with fail
                    go_ret
                    exact ⟨by rw [hRf.out (by first | (rw [hZ2.out]; done) | (rw [hZ2.out]; simp))]; rfl, hwr.trans (hS6.mono hwr.size)⟩
                  | true =>
                    have hw6 : Below w2.heap.size w2 v6 := hb2r.trans (hS6.mono hb2r.size)
                    go_wp2_with fail
                    go_roundw
                    case rel =>
                      refine ⟨i + 1, by go_num, by omega, hw6, fun q u v hq hu hv => ?_⟩
                      by_cases hqi : q = i
                      · subst hqi
                        rw [HX.out.1] at hu
                        rw [HX.out.2] at hv
                        cases hu
                        cases hv
                        have := hZS.out
                        rw [hZ2.out] at this
                        simpa using this.symm
                      · exact HA.out q u v (by omega) hu hv
                    case measure => simp [intOf]; omega
              · have hs0 : (nm.toList == nm'.toList) = false := by rw [beq_eq_false_iff_ne]; exact hs
                rw [toList_bytes, toList_bytes] at hs
                have hs' : decide (nm.data.toList = nm'.data.toList) = false := decide_eq_false hs
                rw [hs', Bool.false_and] at hZ2
                clear hs hs'
                go_wp2_with fail
                go_ret
                exact ⟨by rw [hRf.out hZ2.out]; rfl, hwr.trans (hS4.mono hwr.size)⟩
            · skip
              rw [if_pos (by rfl)]
              refine wp_alloc_at5 (P := Tryz.prog) 53 rfl _ 3 z42 ?_
              intro v1 hV1 hbv1 hsv1
              have hS1 := hS0.trans (hbv1.mono hS0.size)
              refine hK.out _ _ hS1 (fun _ => ?_)
              refine wpAnyH_ready (rs := [10]) (by kernel_rfl) (by simp) ?_
              refine AllReadyH.cons (o := { dst := some 6, op := .alloc 53, type := _, pos := _, after := _, guard := none }) rfl (fun K hK => ?_) AllReadyH.nil
              rw [if_pos (by rfl)]
              refine wp_alloc_at5 (P := Tryz.prog) 53 rfl _ 3 z42 ?_
              intro v2 hV2 hbv2 hsv2
              have hS2 := hS1.trans (hbv2.mono hS1.size)
              refine hK.out _ _ hS2 (fun _ => ?_)
              have hsv1' : v1.heap.size = wr.heap.size + 1 := hsv1
              have hV1 : At 53 v1 wr.heap.size _ := hV1
              have hX2 := hV2
              have hY2 := (hV1.below hbv2)
              refine wpAnyH_ready (rs := [12]) (by kernel_rfl) (by simp) ?_
              refine AllReadyH.cons (o := { dst := none, op := .store 53 (.tmp 6) (.tmp 42), type := _, pos := _, after := _, guard := none }) rfl (fun K hK => ?_) AllReadyH.nil
              rw [if_pos (by rfl)]
              refine wp_store_mid (P := Tryz.prog) 53 (.tmp 6) (.tmp 42) rfl (v1.heap.size) 0 [.string nm, .slice a1 n1 c1, .slice a2 n2 c2].toArray rfl rfl (hX2.there 0 _ (Nat.le_refl _)) i42 (all_oneCell_toArray (one59 _ _ _ _ _ _ _)) ?_
              obtain ⟨v3, hv3⟩ : ∃ v, v = v2.setCells (v1.heap.size) 0 [.string nm, .slice a1 n1 c1, .slice a2 n2 c2].toArray.toList := ⟨_, rfl⟩
              have hBu3 : But (v1.heap.size) v2 v3 := by rw [hv3]; exact But.setCells5 _ _ _ (But.refl _ _)
              have hX3 : At 53 v3 (v1.heap.size) [.string nm, .slice a1 n1 c1, .slice a2 n2 c2] := by rw [hv3]; exact At.setCells5 _ 0 _ _ hX2
              have hsz3 : v3.heap.size = v2.heap.size := by rw [hv3]; exact size_setCells5 _ _ _ _
              have hY3 := hBu3.at hY2 (by show _ ≠ _; first | (have hd : wr.drew.heap.size = wr.heap.size := rfl; omega))
              have hS3 : Below wr.heap.size wr v3 := hBu3.below hS2 (by have hd : wr.drew.heap.size = wr.heap.size := rfl; omega) hS2.size
              rw [← hv3]
              clear hv3
              refine hK.out _ _ hS3 (fun _ => ?_)
              refine wpAnyH_ready (rs := [13]) (by kernel_rfl) (by simp) ?_
              refine AllReadyH.cons (o := { dst := none, op := .store 53 (.tmp 7) (.tmp 47), type := _, pos := _, after := _, guard := none }) rfl (fun K hK => ?_) AllReadyH.nil
              rw [if_pos (by rfl)]
              refine wp_store_mid (P := Tryz.prog) 53 (.tmp 7) (.tmp 47) rfl (wr.heap.size) 0 [.string nm', .slice a1' n1' c1', .slice a2' n2' c2'].toArray rfl rfl (hY3.there 0 _ (Nat.le_refl _)) i42 (all_oneCell_toArray (one59 _ _ _ _ _ _ _)) ?_
              obtain ⟨v4, hv4⟩ : ∃ v, v = v3.setCells (wr.heap.size) 0 [.string nm', .slice a1' n1' c1', .slice a2' n2' c2'].toArray.toList := ⟨_, rfl⟩
              have hBu4 : But (wr.heap.size) v3 v4 := by rw [hv4]; exact But.setCells5 _ _ _ (But.refl _ _)
              have hY4 : At 53 v4 (wr.heap.size) [.string nm', .slice a1' n1' c1', .slice a2' n2' c2'] := by rw [hv4]; exact At.setCells5 _ 0 _ _ hY3
              have hX4 := hBu4.at hX3 (by show _ ≠ _; first | (have hd : wr.drew.heap.size = wr.heap.size := rfl; omega))
              have hS4 : Below wr.heap.size wr v4 := hBu4.below hS3 (by have hd : wr.drew.heap.size = wr.heap.size := rfl; omega) hS3.size
              rw [← hv4]
              clear hv4 hBu3 hBu4 hX3 hY3 hX2 hY2 hV1 hV2 hbv1 hbv2 hsv1 hsv1' hsv2 hsz3
              refine hK.out _ _ hS4 (fun _ => ?_)
              refine wpAnyH_done (by kernel_rfl) ?_ _
              obtain ⟨r0, r1, r2⟩ := th_cells5 hX4
              obtain ⟨s0, s1, s2⟩ := th_cells5 hY4
              by_cases hs : nm.toList = nm'.toList
              · have hs0 : (nm.toList == nm'.toList) = true := by rw [beq_iff_eq]; exact hs
                rw [toList_bytes, toList_bytes] at hs
                have hs' : decide (nm.data.toList = nm'.data.toList) = true := decide_eq_true hs
                rw [hs', Bool.true_and] at hZ2
                clear hs hs'
                go_wp2_with fail
                refine (Q2.out _ hS4).mono ?_
                rintro r v5 ⟨rfl, hb5⟩
                have hX5 := hX4.below hb5
                have hY5 := hY4.below hb5
                have hS5 := hS4.trans (hb5.mono hS4.size)
                clear hX4 hY4 r0 r1 r2 s0 s1 s2
                obtain ⟨r0, r1, r2⟩ := th_cells5 hX5
                obtain ⟨s0, s1, s2⟩ := th_cells5 hY5
                cases p2 with
                | false =>
                  go_wp2_with fail
                  go_ret
                  exact ⟨by rw [hRf.out (by first | (rw [hZ2.out]; done) | (rw [hZ2.out]; simp))]; rfl, hwr.trans (hS5.mono hwr.size)⟩
                | true =>
                  go_wp2_with fail
                  refine (Q3.out _ hS5).mono ?_
                  rintro r v6 ⟨rfl, hb6⟩
                  have hS6 := hS5.trans (hb6.mono hS5.size)
                  clear hX5 hY5 r0 r1 r2 s0 s1 s2
                  cases p3 with
                  | false =>
                    go_wp2_with fail
                    go_ret
                    exact ⟨by rw [hRf.out (by first | (rw [hZ2.out]; done) | (rw [hZ2.out]; simp))]; rfl, hwr.trans (hS6.mono hwr.size)⟩
                  | true =>
                    have hw6 : Below w2.heap.size w2 v6 := hb2r.trans (hS6.mono hb2r.size)
                    go_wp2_with fail
                    go_roundw
                    case rel =>
                      refine ⟨i + 1, by go_num, by omega, hw6, fun q u v hq hu hv => ?_⟩
                      by_cases hqi : q = i
                      · subst hqi
                        rw [HX.out.1] at hu
                        rw [HX.out.2] at hv
                        cases hu
                        cases hv
                        have := hZS.out
                        rw [hZ2.out] at this
                        simpa using this.symm
                      · exact HA.out q u v (by omega) hu hv
                    case measure => simp [intOf]; omega
              · have hs0 : (nm.toList == nm'.toList) = false := by rw [beq_eq_false_iff_ne]; exact hs
                rw [toList_bytes, toList_bytes] at hs
                have hs' : decide (nm.data.toList = nm'.data.toList) = false := decide_eq_false hs
                rw [hs', Bool.false_and] at hZ2
                clear hs hs'
                go_wp2_with fail
                go_ret
                exact ⟨by rw [hRf.out hZ2.out]; rfl, hwr.trans (hS4.mono hwr.size)⟩
          · have hin : i = n := by omega
            have hRt : R = true := by
              rw [hR.out, eqL_iff, List.length_map, List.length_map, ← hn.out, ← hn'.out]
              refine ⟨rfl, fun q u v hu hv => hall q u v ?_ hu hv⟩
              have := (List.getElem?_eq_some_iff.1 hu).1
              rw [List.length_map, ← hn.out] at this
              omega
            clear hX hall hin HR HBX
            go_wp2
            go_ret
            exact ⟨by rw [hRt]; rfl, hwr⟩
      · have hne : ((n : Int) == (n' : Int)) = false := by rw [beq_eq_false_iff_ne]; omega
        have hRf : R = false := by
          rw [hR.out, Bool.eq_false_iff]
          intro h
          have := (eqL_iff _ _ _).1 h
          rw [List.length_map, List.length_map, ← hn.out, ← hn'.out] at this
          exact hnn this.1
        clear hnn
        go_wp2_with fail
        go_ret
        exact ⟨by rw [hRf]; rfl, hbw⟩

theorem kitProgram_any (B : Nat) (x y : PT) (w : World) (hx : x.In B w) (hy : y.In B w) (hBw : B ≤ w.heap.size) :
    Calls Tryz.prog 10 #[.agg x.cells.toArray, .agg y.cells.toArray] w fun r w' => r = .returned (.bool (samP x.pg y.pg)) ∧ Below w.heap.size w w' := by
  have hO : ∀ w', Below w.heap.size w w' → Old B w w' ∧ B ≤ w'.heap.size := fun w' h => ⟨Old.of_below h hBw, by have := h.size; omega⟩
  exact kitThreads_at B (.slice x.a1 x.shared.length x.c1) (.slice x.a2 x.mutexes.length x.c2) (.slice y.a1 y.shared.length y.c1) (.slice y.a2 y.mutexes.length y.c2) x.a3 y.a3 x.c3 y.c3 x.threads y.threads _ _ w
    (fun w' h => kitV_any B x.shared y.shared x.a1 y.a1 x.c1 y.c1 w' (hx.1.old (hO w' h).1) (hy.1.old (hO w' h).1) (hO w' h).2)
    (fun w' h => kitN_any B x.mutexes y.mutexes x.a2 y.a2 x.c2 y.c2 w' (hx.2.1.old (hO w' h).1) (hy.2.1.old (hO w' h).1) (hO w' h).2)
    hx.2.2 hy.2.2 hBw

end Go.Proofs.YtjgggmjjikopeaaGreatDoor
