/- race.gather over race.pairs: the pairs that a closure picks. -/
import Derived.Maps.AppendAt
import Derived.Test.YtmkhobaclpiceaaJ23
import Derived.Test.YtmkhobaclpiceaaJ10
namespace Go.Proofs.Ytmkhobaclpiceaa
open Go.RowKit
set_option linter.unusedVariables false
attribute [local go_sem ↓] Go.wp_at_zero Go.wp_at_succ
attribute [local go_sem] Oper.semAt_some

set_option maxRecDepth 100000 in
theorem pairs_any (a : Option Addr) (m c : Nat) (f : Int) (w : World) : Calls Try.prog 32 #[.slice a m c, .int .i64 f] w fun r w' => r = .returned (.func (.func 51) #[] #[.pointer (some ⟨w.heap.size + 1, 0, none⟩), .pointer (some ⟨w.heap.size, 0, none⟩)]) ∧ w' = (w.alloc (.cells #[.slice a m c] 22)).alloc (.cells #[.int .i64 f] 3) := by
  go_enter Try.func32, Try.ntmps32
  go_wp2
  go_ret
  exact ⟨rfl, rfl⟩
def Box2 (W : World) (B : Nat) (i j : Nat) : Prop := W.heap[B]? = some (.cells #[.int .i64 (i : Int), .int .i64 (j : Int)] 45 (0, 0))
theorem Box2.lt {W : World} {B i j : Nat} (h : Box2 W B i j) : B < W.heap.size := (Array.getElem?_eq_some_iff.1 h).1
theorem Box2.cell {W : World} {B i j : Nat} (h : Box2 W B i j) : W.cell? ⟨B, 0, none⟩ = some (.int .i64 (i : Int)) ∧ W.cell? ⟨B, 1, none⟩ = some (.int .i64 (j : Int)) := by
  constructor <;> simp [World.cell?, show W.heap[B]? = _ from h]
theorem Box2.kept {W W' : World} {row : Option Nat} {B i j : Nat} (h : Box2 W B i j) (hg : W.grownBy W' row) (hne : some B ≠ row) : Box2 W' B i j := (hg.block B h.lt hne).trans h
theorem Box2.below {W W' : World} {B i j : Nat} (h : Box2 W B i j) (hb : Below W.heap.size W W') : Box2 W' B i j := (hb.block B h.lt).trans h
theorem boxed_below {W W' : World} {B : Nat} {t : TypeId} {v : Value} (h : Boxed W B t v) (hb : Below W.heap.size W W') : Boxed W' B t v := (hb.block B h.lt).trans h
theorem keeps_below {B : Nat} {W W' : World} (hb : Below W.heap.size W W') : KeepsFrom B W W' := ⟨hb.size, fun k o _ hk _ => (hb.block k (Array.getElem?_eq_some_iff.1 hk).1).trans hk⟩
theorem owns_below {base e sz k : Nat} {W W' : World} {v : Value} {xs : List Value} (h : W.ownsRow base e sz v k xs) (hb : Below W.heap.size W W') : W'.ownsRow base e sz v k xs := by
  obtain ⟨h0, ⟨h1, h2⟩ | ⟨g, cap, cur, rfl, hg, hh, hr⟩⟩ := h
  · exact ⟨h0, .inl ⟨h1, h2⟩⟩
  · refine ⟨h0, .inr ⟨g, cap, cur, rfl, hg, ?_, hr⟩⟩
    rw [hb.block g (heapLt hh)]
    exact hh
/-- The pairs that have come and were picked. -/
def pkd {m : Nat} {ev : Nat → Ev} (pk : Nat → Nat → Bool) (pre : List (PrA m ev)) : List (Nat × Nat) := (pre.map (·.1)).filter fun x => pk x.2 x.1
theorem pkd_yes {m : Nat} {ev : Nat → Ev} {pk : Nat → Nat → Bool} {pre : List (PrA m ev)} {x : PrA m ev} (h : pk x.1.2 x.1.1 = true) : pkd pk (pre ++ [x]) = pkd pk pre ++ [x.1] := by simp [pkd, h]
theorem pkd_no {m : Nat} {ev : Nat → Ev} {pk : Nat → Nat → Bool} {pre : List (PrA m ev)} {x : PrA m ev} (h : pk x.1.2 x.1.1 = false) : pkd pk (pre ++ [x]) = pkd pk pre := by simp [pkd, h]
theorem pkd_length {m : Nat} {ev : Nat → Ev} (pk : Nat → Nat → Bool) (pre : List (PrA m ev)) : (pkd pk pre).length ≤ pre.length := by
  unfold pkd
  have := List.length_filter_le (fun x : Nat × Nat => pk x.2 x.1) (pre.map (·.1))
  simpa using this
theorem prsF_length (p : Nat → Nat → Bool) (f : Nat) : ∀ m, (prsF p f m).length ≤ m * m
  | 0 => by simp [prsF]
  | m + 1 => by
    have h1 := prsF_length p f m
    have h2 := pairsTo_length p m m
    have h3 : (prsF p f (m + 1)).length ≤ (prsF p f m).length + (pairsTo p m m).length := by
      unfold prsF
      rw [List.range_succ, List.flatMap_append, List.length_append]
      simp only [List.flatMap_cons, List.flatMap_nil, List.append_nil]
      split
      · exact Nat.le_refl _
      · simp
    have h4 := Nat.mul_le_mul_left m (Nat.le_succ m)
    rw [Nat.succ_mul]
    show _ ≤ m * (m + 1) + (m + 1)
    rw [Nat.mul_succ]
    omega
theorem cell_two_new (w : World) (x y : Value) (t : TypeId) : ∀ j u, [x, y][j]? = some u → (w.alloc (.cells #[x, y] t)).cell? ((⟨w.heap.size, 0, none⟩ : Addr).add j) = some u := by
  intro j u hj
  match j, hj with
  | 0, hj => simp at hj; subst hj; simp [Addr.add]
  | 1, hj => simp at hj; subst hj; simp [Addr.add]
  | j + 2, hj => simp at hj

set_option maxRecDepth 100000 in
set_option maxHeartbeats 6400000 in
theorem gather47 (Bf Bl f m : Nat) (a : Option Addr) (c : Nat) (es : List Ev) (p1 p2 p3 : Nat) (pk : Nat → Nat → Bool) (w : World) (hm : es.length = m) (hm2 : m ≤ 1024) (hfm : f ≤ m) (hc : m ≤ c)
    (hBf : w.cell? ⟨Bf, 0, none⟩ = some (.int .i64 (f : Int))) (hBl : w.cell? ⟨Bl, 0, none⟩ = some (.slice a m c)) (hE : RowEv w a es) (hok : ∀ x ∈ es, x.ok)
    (HP : ∀ u, Below w.heap.size w u → ∀ i j : Nat, i < j → j < m → bndP (evAt es) j i = true → Calls Try.prog 47 #[.agg #[.int .i64 (i : Int), .int .i64 (j : Int)], .pointer (some ⟨p1, 0, none⟩), .pointer (some ⟨p2, 0, none⟩), .pointer (some ⟨p3, 0, none⟩)] u fun r w' => r = .returned (.bool (pk j i)) ∧ Below u.heap.size u w') :
    Calls Try.prog 31 #[.func (.func 51) #[] #[.pointer (some ⟨Bf, 0, none⟩), .pointer (some ⟨Bl, 0, none⟩)], .func (.func 47) #[] #[.pointer (some ⟨p1, 0, none⟩), .pointer (some ⟨p2, 0, none⟩), .pointer (some ⟨p3, 0, none⟩)]] w fun r w' => ∃ v, r = .returned v ∧ OwnP w.heap.size w' v ((prsF (bndP (evAt es)) f m).filter fun x => pk x.2 x.1) ∧ Below w.heap.size w w' := by
  obtain ⟨i0, hi, hz0, hz1, hz2⟩ := info_parts Try.info45
  have hN : (prsF (bndP (evAt es)) f m).length ≤ 1048576 := by
    have h1 := prsF_length (bndP (evAt es)) f m
    have h2 := Nat.mul_le_mul hm2 hm2
    omega
  have HPH : Hid (∀ u, Below w.heap.size w u → ∀ i j : Nat, i < j → j < m → bndP (evAt es) j i = true → Calls Try.prog 47 #[.agg #[.int .i64 (i : Int), .int .i64 (j : Int)], .pointer (some ⟨p1, 0, none⟩), .pointer (some ⟨p2, 0, none⟩), .pointer (some ⟨p3, 0, none⟩)] u fun r w' => r = .returned (.bool (pk j i)) ∧ Below u.heap.size u w') := HP
  have HS : Hid (∀ w0, Below w.heap.size w w0 → SeqStopsK Fence.wide (6 - 1) Try.prog 51 #[.pointer (some ⟨Bf, 0, none⟩), .pointer (some ⟨Bl, 0, none⟩)] (fun x : PrA m (evAt es) => #[Value.agg #[.int .i64 (x.1.1 : Int), .int .i64 (x.1.2 : Int)]]) (Below w.heap.size) (fun ys => ys.map (·.1) = prsF (bndP (evAt es)) f m) (fun _ => True) (prsF (bndP (evAt es)) f m).length w0) := fun w0 h0 l J Jx W hW hJ hJx hY hj0 =>
    callsIn_wide.2 (pairs1_any 5 (by omega) l Bf Bl f m a c es w hm (by omega) hfm hc hBf hBl hE hok J Jx W (h0.trans (hW.mono h0.size)) hJ hY hj0)
  clear HP hE hBf hBl hok hc hfm
  refine (callsIn_wide (n := 6)).1 ?_
  refine callsIn_of_wp_marks Try.func31 rfl trivial ?_ rfl
  simp only [Try.ntmps31, List.size_toArray, List.length_cons, List.length_nil, Nat.reduceAdd, Nat.reduceSub, Array.replicate_succ, Array.replicate_zero, List.push_toArray, List.append_toArray, List.nil_append, List.cons_append]
  gi_wp2
  have bP := (Boxed.new w 68 (.func (.func 47) #[] #[.pointer (some ⟨p1, 0, none⟩), .pointer (some ⟨p2, 0, none⟩), .pointer (some ⟨p3, 0, none⟩)])).alloc (.cells #[.slice none 0 0] 26)
  have bO := Boxed.new (w.alloc (.cells #[.func (.func 47) #[] #[.pointer (some ⟨p1, 0, none⟩), .pointer (some ⟨p2, 0, none⟩), .pointer (some ⟨p3, 0, none⟩)]] 68)) 26 (.slice none 0 0)
  rw [World.size_alloc] at bO
  have hB0 : Below w.heap.size w ((w.alloc (.cells #[.func (.func 47) #[] #[.pointer (some ⟨p1, 0, none⟩), .pointer (some ⟨p2, 0, none⟩), .pointer (some ⟨p3, 0, none⟩)]] 68)).alloc (.cells #[.slice none 0 0] 26)) := ((Below.refl _ w).alloc (Nat.le_refl _) _).alloc (by simp) _
  have hsz : ((w.alloc (.cells #[.func (.func 47) #[] #[.pointer (some ⟨p1, 0, none⟩), .pointer (some ⟨p2, 0, none⟩), .pointer (some ⟨p3, 0, none⟩)]] 68)).alloc (.cells #[.slice none 0 0] 26)).heap.size = w.heap.size + 2 := by simp
  obtain ⟨W0, hW0⟩ : ∃ W0, ((w.alloc (.cells #[.func (.func 47) #[] #[.pointer (some ⟨p1, 0, none⟩), .pointer (some ⟨p2, 0, none⟩), .pointer (some ⟨p3, 0, none⟩)]] 68)).alloc (.cells #[.slice none 0 0] 26)) = W0 := ⟨_, rfl⟩
  rw [hW0] at bP bO hB0 hsz ⊢
  clear hW0
  refine wpIn_rangeFunc_ownH (F := Fence.wide) (n := 6) rfl (by omega) (gf := 51) (lb := #[.pointer (some ⟨Bf, 0, none⟩), .pointer (some ⟨Bl, 0, none⟩)]) rfl trivial (enters_of Try.func51 (by kernel_rfl) rfl)
    (HS.out W0 hB0) belowK_t (belowK_b (by omega)) (Below.refl _ _) (fun _ => rfl)
    (fun pre W => (∃ v, Boxed W (w.heap.size + 1) 26 v ∧ W.ownsRow w.heap.size 45 2 v (pkd pk pre).length (flatP (pkd pk pre)) ∧ True) ∧ (Boxed W w.heap.size 68 (.func (.func 47) #[] #[.pointer (some ⟨p1, 0, none⟩), .pointer (some ⟨p2, 0, none⟩), .pointer (some ⟨p3, 0, none⟩)]) ∧ Below w.heap.size w W))
    (fun _ _ _ => False)
    (OwnFrom.and (Own.from (holdsRow_own w.heap.size (w.heap.size + 1) 26 45 2 (fun pre => (pkd pk pre).length) (fun pre => flatP (pkd pk pre)) (fun _ _ => True)) _) (OwnFrom.and (Own.from (boxed_own _ _ _) _) (ownFrom_below (Nat.le_refl _) (by omega))))
    (fun _ _ _ _ _ hs _ _ => hs)
    ⟨⟨_, bO, World.ownsRow_nil _ _ _ _, trivial⟩, bP, hB0⟩
    (fun x a' W => ∃ Bx, w.heap.size + 1 < Bx ∧ Box2 W Bx x.1.1 x.1.2 ∧ a' = { tmps := #[.func (.func 51) #[] #[.pointer (some ⟨Bf, 0, none⟩), .pointer (some ⟨Bl, 0, none⟩)], .func (.func 47) #[] #[.pointer (some ⟨p1, 0, none⟩), .pointer (some ⟨p2, 0, none⟩), .pointer (some ⟨p3, 0, none⟩)], undef, .pointer (some ⟨w.heap.size, 0, none⟩), .slice none 0 0, .pointer (some ⟨w.heap.size + 1, 0, none⟩), .pointer (some ⟨Bx, 0, none⟩), .func (.func 51) #[] #[.pointer (some ⟨Bf, 0, none⟩), .pointer (some ⟨Bl, 0, none⟩)], .agg #[.int .i64 (x.1.1 : Int), .int .i64 (x.1.2 : Int)], undef, undef, undef, undef, undef, undef, undef, undef], defers := [] })
    (fun x a' _ X Y row hs hg hr => by obtain ⟨Bx, h1, h2, h3⟩ := hs; exact ⟨Bx, h1, h2.kept hg (fun e => by obtain ⟨o, ho, hc⟩ := (hr Bx e.symm).2; rw [show X.heap[Bx]? = _ from h2] at ho; cases ho; cases hc), h3⟩)
    ?assign ?body ?done ?stop
  case assign =>
    rintro l pre x W K ⟨⟨v, hv, hrow, -⟩, hp, hB⟩ hK
    gi_wp2
    exact hK _ _ ((KeepsOthers.alloc _ _).from _) ((Below.refl _ W).alloc hB.size _) ⟨⟨v, hv.alloc _, hrow.alloc _, trivial⟩, hp.alloc _, hB.alloc hB.size _⟩ ⟨W.heap.size, by have := hv.lt; omega, World.alloc_heap_new W _, rfl⟩
  case body =>
    rintro l pre x a' W hl ⟨r, hr⟩ ⟨⟨v, hv, hrow, -⟩, hp, hB⟩ ⟨Bx, hBx, bX, rfl⟩ hlt
    have cP := hp.cell
    obtain ⟨c1, c2⟩ := bX.cell
    have hpl := pkd_length pk pre
    have HC := HPH.out W hB x.1.1 x.1.2 x.2.1 x.2.2.1 x.2.2.2
    have hsW := hB.size
    cases hpk : pk x.1.2 x.1.1 with
    | false =>
      rw [hpk] at HC
      have hpk : Hid (pk x.1.2 x.1.1 = false) := hpk
      gi_wp2_with (refine ⟨trivial, ?_⟩; gi_at_call 47; refine (CallsIn.inRound l (callsIn_wide.2 HC)).mono ?_; rintro e W2 ⟨rfl, hb2⟩)
      exact ⟨keeps_below hb2, hb2.mono hsW, ⟨v, boxed_below hv hb2, by rw [pkd_no hpk.out]; exact owns_below hrow hb2, trivial⟩, boxed_below hp hb2, hB.trans (hb2.mono hsW)⟩
    | true =>
      rw [hpk] at HC
      have hpk : Hid (pk x.1.2 x.1.1 = true) := hpk
      gi_wp2_with (first | (refine ⟨trivial, ?_⟩; gi_at_call 47; refine (CallsIn.inRound l (callsIn_wide.2 HC)).mono ?_; rintro e W2 ⟨rfl, hb2⟩; have hv2 := boxed_below hv hb2; have hrow2 := owns_below hrow hb2; have hB2 := hB.trans (hb2.mono hsW); have hcv := hv2.cell; obtain ⟨d1, d2⟩ := (bX.below hb2).cell) | (gi_at_builtin; refine wpListIn_append_own _ rfl _ _ 26 rfl w.heap.size 45 i0 (.agg #[.int .i64 0, .int .i64 0]) 2 16 Try.underlying26 hi hz0 hz1 hz2 rfl (by decide) _ _ _ rfl (hrow2.alloc _) ⟨W2.heap.size, 0, none⟩ 1 1 [.int .i64 (x.1.1 : Int), .int .i64 (x.1.2 : Int)] rfl rfl (cell_two_new _ _ _ _) (by simp [Value.oneCell']) (by unfold maxLen; omega) (by omega) (by have := hB2.size; simp; omega) ?_; intro v' w1 hown' hgrow _; obtain ⟨g', cap', rfl⟩ := ownsRow_succ hown'; obtain ⟨hv1, hv3, hr2, hk2, hb3⟩ := hv2.appended (by decide) hrow2 hB2.size (Nat.le_succ _) hown' hgrow; have hc1 := hv1.cell; have hf1 := hv1.frozen))
      have hp2 := boxed_below hp hb2
      exact ⟨(keeps_below hb2).trans (hk2.from _), (hb2.mono hsW).trans hb3, ⟨_, hv3, by rw [pkd_yes hpk.out, List.length_append, flatP_append]; simpa [flatP, prC] using hr2, trivial⟩, ((hp2.alloc _).kept hgrow (hp2.not_row (by decide) hrow2)).other (by omega) _, hB2.trans hb3⟩
  case done =>
    rintro D ys W hD hys ⟨⟨v, hv, hrow, -⟩, hp, hB⟩ hK
    have hcv := hv.cell
    gi_wp2
    refine ⟨by simp, .inl ⟨_, _, rfl, run_takeDeferred hK, ?_⟩⟩
    refine ⟨_, results_tmp rfl _ _ _, v, rfl, ?_, hB.trans (belowK_b (w := w) (Nat.le_refl _) W D _ _ (by omega) hK rfl rfl)⟩
    have e : pkd pk ys = (prsF (bndP (evAt es)) f m).filter fun x => pk x.2 x.1 := by unfold pkd; rw [hys]
    unfold OwnP
    rw [← e]
    exact ownsRow_putObj hrow _ hK rfl
  case stop =>
    rintro D c pre W _ _ h _
    exact h.elim

set_option maxRecDepth 100000 in
set_option maxHeartbeats 6400000 in
theorem gather33 (Bf Bl f m : Nat) (a : Option Addr) (c : Nat) (es : List Ev) (p1 p2 : Nat) (pk : Nat → Nat → Bool) (w : World) (hm : es.length = m) (hm2 : m ≤ 1024) (hfm : f ≤ m) (hc : m ≤ c)
    (hBf : w.cell? ⟨Bf, 0, none⟩ = some (.int .i64 (f : Int))) (hBl : w.cell? ⟨Bl, 0, none⟩ = some (.slice a m c)) (hE : RowEv w a es) (hok : ∀ x ∈ es, x.ok)
    (HP : ∀ u, Below w.heap.size w u → ∀ i j : Nat, i < j → j < m → bndP (evAt es) j i = true → Calls Try.prog 33 #[.agg #[.int .i64 (i : Int), .int .i64 (j : Int)], .pointer (some ⟨p1, 0, none⟩), .pointer (some ⟨p2, 0, none⟩)] u fun r w' => r = .returned (.bool (pk j i)) ∧ Below u.heap.size u w') :
    Calls Try.prog 31 #[.func (.func 51) #[] #[.pointer (some ⟨Bf, 0, none⟩), .pointer (some ⟨Bl, 0, none⟩)], .func (.func 33) #[] #[.pointer (some ⟨p1, 0, none⟩), .pointer (some ⟨p2, 0, none⟩)]] w fun r w' => ∃ v, r = .returned v ∧ OwnP w.heap.size w' v ((prsF (bndP (evAt es)) f m).filter fun x => pk x.2 x.1) ∧ Below w.heap.size w w' := by
  obtain ⟨i0, hi, hz0, hz1, hz2⟩ := info_parts Try.info45
  have hN : (prsF (bndP (evAt es)) f m).length ≤ 1048576 := by
    have h1 := prsF_length (bndP (evAt es)) f m
    have h2 := Nat.mul_le_mul hm2 hm2
    omega
  have HPH : Hid (∀ u, Below w.heap.size w u → ∀ i j : Nat, i < j → j < m → bndP (evAt es) j i = true → Calls Try.prog 33 #[.agg #[.int .i64 (i : Int), .int .i64 (j : Int)], .pointer (some ⟨p1, 0, none⟩), .pointer (some ⟨p2, 0, none⟩)] u fun r w' => r = .returned (.bool (pk j i)) ∧ Below u.heap.size u w') := HP
  have HS : Hid (∀ w0, Below w.heap.size w w0 → SeqStopsK Fence.wide (6 - 1) Try.prog 51 #[.pointer (some ⟨Bf, 0, none⟩), .pointer (some ⟨Bl, 0, none⟩)] (fun x : PrA m (evAt es) => #[Value.agg #[.int .i64 (x.1.1 : Int), .int .i64 (x.1.2 : Int)]]) (Below w.heap.size) (fun ys => ys.map (·.1) = prsF (bndP (evAt es)) f m) (fun _ => True) (prsF (bndP (evAt es)) f m).length w0) := fun w0 h0 l J Jx W hW hJ hJx hY hj0 =>
    callsIn_wide.2 (pairs1_any 5 (by omega) l Bf Bl f m a c es w hm (by omega) hfm hc hBf hBl hE hok J Jx W (h0.trans (hW.mono h0.size)) hJ hY hj0)
  clear HP hE hBf hBl hok hc hfm
  refine (callsIn_wide (n := 6)).1 ?_
  refine callsIn_of_wp_marks Try.func31 rfl trivial ?_ rfl
  simp only [Try.ntmps31, List.size_toArray, List.length_cons, List.length_nil, Nat.reduceAdd, Nat.reduceSub, Array.replicate_succ, Array.replicate_zero, List.push_toArray, List.append_toArray, List.nil_append, List.cons_append]
  gi_wp2
  have bP := (Boxed.new w 68 (.func (.func 33) #[] #[.pointer (some ⟨p1, 0, none⟩), .pointer (some ⟨p2, 0, none⟩)])).alloc (.cells #[.slice none 0 0] 26)
  have bO := Boxed.new (w.alloc (.cells #[.func (.func 33) #[] #[.pointer (some ⟨p1, 0, none⟩), .pointer (some ⟨p2, 0, none⟩)]] 68)) 26 (.slice none 0 0)
  rw [World.size_alloc] at bO
  have hB0 : Below w.heap.size w ((w.alloc (.cells #[.func (.func 33) #[] #[.pointer (some ⟨p1, 0, none⟩), .pointer (some ⟨p2, 0, none⟩)]] 68)).alloc (.cells #[.slice none 0 0] 26)) := ((Below.refl _ w).alloc (Nat.le_refl _) _).alloc (by simp) _
  have hsz : ((w.alloc (.cells #[.func (.func 33) #[] #[.pointer (some ⟨p1, 0, none⟩), .pointer (some ⟨p2, 0, none⟩)]] 68)).alloc (.cells #[.slice none 0 0] 26)).heap.size = w.heap.size + 2 := by simp
  obtain ⟨W0, hW0⟩ : ∃ W0, ((w.alloc (.cells #[.func (.func 33) #[] #[.pointer (some ⟨p1, 0, none⟩), .pointer (some ⟨p2, 0, none⟩)]] 68)).alloc (.cells #[.slice none 0 0] 26)) = W0 := ⟨_, rfl⟩
  rw [hW0] at bP bO hB0 hsz ⊢
  clear hW0
  refine wpIn_rangeFunc_ownH (F := Fence.wide) (n := 6) rfl (by omega) (gf := 51) (lb := #[.pointer (some ⟨Bf, 0, none⟩), .pointer (some ⟨Bl, 0, none⟩)]) rfl trivial (enters_of Try.func51 (by kernel_rfl) rfl)
    (HS.out W0 hB0) belowK_t (belowK_b (by omega)) (Below.refl _ _) (fun _ => rfl)
    (fun pre W => (∃ v, Boxed W (w.heap.size + 1) 26 v ∧ W.ownsRow w.heap.size 45 2 v (pkd pk pre).length (flatP (pkd pk pre)) ∧ True) ∧ (Boxed W w.heap.size 68 (.func (.func 33) #[] #[.pointer (some ⟨p1, 0, none⟩), .pointer (some ⟨p2, 0, none⟩)]) ∧ Below w.heap.size w W))
    (fun _ _ _ => False)
    (OwnFrom.and (Own.from (holdsRow_own w.heap.size (w.heap.size + 1) 26 45 2 (fun pre => (pkd pk pre).length) (fun pre => flatP (pkd pk pre)) (fun _ _ => True)) _) (OwnFrom.and (Own.from (boxed_own _ _ _) _) (ownFrom_below (Nat.le_refl _) (by omega))))
    (fun _ _ _ _ _ hs _ _ => hs)
    ⟨⟨_, bO, World.ownsRow_nil _ _ _ _, trivial⟩, bP, hB0⟩
    (fun x a' W => ∃ Bx, w.heap.size + 1 < Bx ∧ Box2 W Bx x.1.1 x.1.2 ∧ a' = { tmps := #[.func (.func 51) #[] #[.pointer (some ⟨Bf, 0, none⟩), .pointer (some ⟨Bl, 0, none⟩)], .func (.func 33) #[] #[.pointer (some ⟨p1, 0, none⟩), .pointer (some ⟨p2, 0, none⟩)], undef, .pointer (some ⟨w.heap.size, 0, none⟩), .slice none 0 0, .pointer (some ⟨w.heap.size + 1, 0, none⟩), .pointer (some ⟨Bx, 0, none⟩), .func (.func 51) #[] #[.pointer (some ⟨Bf, 0, none⟩), .pointer (some ⟨Bl, 0, none⟩)], .agg #[.int .i64 (x.1.1 : Int), .int .i64 (x.1.2 : Int)], undef, undef, undef, undef, undef, undef, undef, undef], defers := [] })
    (fun x a' _ X Y row hs hg hr => by obtain ⟨Bx, h1, h2, h3⟩ := hs; exact ⟨Bx, h1, h2.kept hg (fun e => by obtain ⟨o, ho, hc⟩ := (hr Bx e.symm).2; rw [show X.heap[Bx]? = _ from h2] at ho; cases ho; cases hc), h3⟩)
    ?assign ?body ?done ?stop
  case assign =>
    rintro l pre x W K ⟨⟨v, hv, hrow, -⟩, hp, hB⟩ hK
    gi_wp2
    exact hK _ _ ((KeepsOthers.alloc _ _).from _) ((Below.refl _ W).alloc hB.size _) ⟨⟨v, hv.alloc _, hrow.alloc _, trivial⟩, hp.alloc _, hB.alloc hB.size _⟩ ⟨W.heap.size, by have := hv.lt; omega, World.alloc_heap_new W _, rfl⟩
  case body =>
    rintro l pre x a' W hl ⟨r, hr⟩ ⟨⟨v, hv, hrow, -⟩, hp, hB⟩ ⟨Bx, hBx, bX, rfl⟩ hlt
    have cP := hp.cell
    obtain ⟨c1, c2⟩ := bX.cell
    have hpl := pkd_length pk pre
    have HC := HPH.out W hB x.1.1 x.1.2 x.2.1 x.2.2.1 x.2.2.2
    have hsW := hB.size
    cases hpk : pk x.1.2 x.1.1 with
    | false =>
      rw [hpk] at HC
      have hpk : Hid (pk x.1.2 x.1.1 = false) := hpk
      gi_wp2_with (refine ⟨trivial, ?_⟩; gi_at_call 33; refine (CallsIn.inRound l (callsIn_wide.2 HC)).mono ?_; rintro e W2 ⟨rfl, hb2⟩)
      exact ⟨keeps_below hb2, hb2.mono hsW, ⟨v, boxed_below hv hb2, by rw [pkd_no hpk.out]; exact owns_below hrow hb2, trivial⟩, boxed_below hp hb2, hB.trans (hb2.mono hsW)⟩
    | true =>
      rw [hpk] at HC
      have hpk : Hid (pk x.1.2 x.1.1 = true) := hpk
      gi_wp2_with (first | (refine ⟨trivial, ?_⟩; gi_at_call 33; refine (CallsIn.inRound l (callsIn_wide.2 HC)).mono ?_; rintro e W2 ⟨rfl, hb2⟩; have hv2 := boxed_below hv hb2; have hrow2 := owns_below hrow hb2; have hB2 := hB.trans (hb2.mono hsW); have hcv := hv2.cell; obtain ⟨d1, d2⟩ := (bX.below hb2).cell) | (gi_at_builtin; refine wpListIn_append_own _ rfl _ _ 26 rfl w.heap.size 45 i0 (.agg #[.int .i64 0, .int .i64 0]) 2 16 Try.underlying26 hi hz0 hz1 hz2 rfl (by decide) _ _ _ rfl (hrow2.alloc _) ⟨W2.heap.size, 0, none⟩ 1 1 [.int .i64 (x.1.1 : Int), .int .i64 (x.1.2 : Int)] rfl rfl (cell_two_new _ _ _ _) (by simp [Value.oneCell']) (by unfold maxLen; omega) (by omega) (by have := hB2.size; simp; omega) ?_; intro v' w1 hown' hgrow _; obtain ⟨g', cap', rfl⟩ := ownsRow_succ hown'; obtain ⟨hv1, hv3, hr2, hk2, hb3⟩ := hv2.appended (by decide) hrow2 hB2.size (Nat.le_succ _) hown' hgrow; have hc1 := hv1.cell; have hf1 := hv1.frozen))
      have hp2 := boxed_below hp hb2
      exact ⟨(keeps_below hb2).trans (hk2.from _), (hb2.mono hsW).trans hb3, ⟨_, hv3, by rw [pkd_yes hpk.out, List.length_append, flatP_append]; simpa [flatP, prC] using hr2, trivial⟩, ((hp2.alloc _).kept hgrow (hp2.not_row (by decide) hrow2)).other (by omega) _, hB2.trans hb3⟩
  case done =>
    rintro D ys W hD hys ⟨⟨v, hv, hrow, -⟩, hp, hB⟩ hK
    have hcv := hv.cell
    gi_wp2
    refine ⟨by simp, .inl ⟨_, _, rfl, run_takeDeferred hK, ?_⟩⟩
    refine ⟨_, results_tmp rfl _ _ _, v, rfl, ?_, hB.trans (belowK_b (w := w) (Nat.le_refl _) W D _ _ (by omega) hK rfl rfl)⟩
    have e : pkd pk ys = (prsF (bndP (evAt es)) f m).filter fun x => pk x.2 x.1 := by unfold pkd; rw [hys]
    unfold OwnP
    rw [← e]
    exact ownsRow_putObj hrow _ hK rfl
  case stop =>
    rintro D c pre W _ _ h _
    exact h.elim
end Go.Proofs.Ytmkhobaclpiceaa
