/- Joined texts of the proof. -/
import Derived.Test.YtbamocalhojmeaaJ20
import Derived.RangeFuncNested
import Derived.RangeFuncBound
import Derived.RangeFuncCalls
import Derived.RangeFuncLeaves
import Derived.RangeFuncBox
import Derived.Shelf.Abstract
import Derived.Shelf.RegionOpen
import Derived.WalkKit
import Derived.OwnWalkIn
import Derived.TacticsInMore
import Derived.LoopNIn
import Derived.LoopIn
import Derived.Test.YtbamocalhojmeaaJ12

/- container/heap over norm's ready: Push and Pop. -/
namespace Go.Proofs.Ytbamocalhojmeaa
open Go.RowKit
set_option linter.unusedVariables false
attribute [local go_sem ↓] Go.wp_at_zero Go.wp_at_succ

section
variable {w0 : World} {es : List Ev} {B : Nat} {w w' : World} {gH : Nat} {a : Option Addr} {c : Nat} {N N' : List Nat} {v v' : Value}
theorem OwnI.take {B : Nat} {w : World} {g k cp : Nat} {zs : List Int} (h : OwnI B w (.slice (some ⟨g, 0, none⟩) k cp) zs) (n : Nat) (hn : n ≤ zs.length) : OwnI B w (.slice (some ⟨g, 0, none⟩) n cp) (zs.take n) := by
  obtain ⟨h1, ⟨h2, _⟩ | ⟨g', cap, cur, h2, hg, hh, hnn, hm, hs, ht⟩⟩ := h
  · cases h2
  · cases h2
    refine ⟨by simp, .inr ⟨g, cp, cur, ?_, hg, hh, by simp; omega, hm, hs, ?_⟩⟩
    · simp [Nat.min_eq_left hn]
    · rw [List.map_take, ← ht, List.take_take]
      congr 1
      simp
theorem hpPop (h : HpO w0 es B w gH a c N v) {n x : Nat} (hn : N.length = n + 1) (hx : N[n]? = some x) : Calls Try.prog 107 #[.pointer (some ⟨gH, 0, none⟩)] w fun r w' => r = .returned (.iface 3 (.int .i64 (x : Int))) ∧ ∃ v', HpO w0 es B w' gH a c (N.take n) v' ∧ Chg gH v.ownBlock v'.ownBlock w w' := by
  obtain ⟨g, cp, hv, hB, hcp, hcell, hfr⟩ := h.rdo.own.at (by rw [natI_length]; omega)
  rw [natI_length, hn] at hv
  rw [natI_length] at hcp
  subst hv
  have hlt := h.rdo.lt
  have hfew := h.few
  refine (rPop w gH g n cp (x : Int) _ h.rdo.hd (by omega) (by omega) (hcell n _ (by simp [natI, hx]))).mono ?_
  rintro r w' ⟨rfl, rfl⟩
  have hC : Chg gH (some g) (some g) w (w.setCell ⟨gH, 1, none⟩ (.slice (some ⟨g, 0, none⟩) n cp)) := Chg.setH gH _ w 1 _
  refine ⟨rfl, .slice (some ⟨g, 0, none⟩) n cp, h.on ⟨?_, hlt, ?_⟩ hC (fun y hy => h.mem y (List.mem_of_mem_take hy)) (by rw [List.length_take]; omega), hC⟩
  · exact h.rdo.hd.set 1 _
  · have h1 := h.rdo.own.take n (by rw [natI_length]; omega)
    have e : natI (N.take n) = (natI N).take n := by simp [natI, List.map_take]
    rw [e]
    exact World.ownsRow.kept (row := some gH) h1 ⟨rfl, rfl, rfl, by simp, fun k hk hne => Below.heap_setCell _ _ _ k (fun q => hne (by rw [q]))⟩ (.inr (by simp [Value.ownBlock]; omega))
theorem hpPush (h : HpO w0 es B w gH a c N v) {x : Nat} (hx : x < es.length) (hN : N.length < 1048576) : Calls Try.prog 108 #[.pointer (some ⟨gH, 0, none⟩), .iface 3 (.int .i64 (x : Int))] w fun r w' => r = .returned (.tuple #[]) ∧ ∃ v', HpO w0 es B w' gH a c (N ++ [x]) v' ∧ Chg gH v.ownBlock v'.ownBlock w w' := by
  refine (rPush B w gH a es.length c N v x h.rdo (by omega) h.szB).mono ?_
  rintro r w' ⟨rfl, v', h1, h2⟩
  refine ⟨rfl, v', h.on h1 h2 (fun y hy => ?_) (by rw [List.length_append]; simp; omega), h2⟩
  rcases List.mem_append.1 hy with h3 | h3
  · exact h.mem y h3
  · rw [List.mem_singleton] at h3
    rw [h3]
    exact hx
end

set_option maxRecDepth 100000 in
set_option maxHeartbeats 6400000 in
theorem heapPush_any (w0 : World) (es : List Ev) (B : Nat) (w : World) (gH : Nat) (a : Option Addr) (c : Nat) (N : List Nat) (v : Value) (x : Nat) (h : HpO w0 es B w gH a c N v) (hp : Hp (thK es) N) (hx : x < es.length) (hN : N.length < 1048576) :
    Calls Try.prog 53 #[.iface 79 (.pointer (some ⟨gH, 0, none⟩)), .iface 3 (.int .i64 (x : Int))] w fun r w' => r = .returned (.tuple #[]) ∧ ∃ N' v', N'.Perm (N ++ [x]) ∧ Hp (thK es) N' ∧ HpO w0 es B w' gH a c N' v' ∧ Chg gH v.ownBlock v'.ownBlock w w' := by
  have mL := mLen gH
  have mS := mPush gH
  have eL : ∀ args w, (callFunc 54 args).run Try.prog w = .ok (.enter 54 args) w := enters_of Try.func54 (by kernel_rfl) rfl
  have eS : ∀ args w, (callFunc 108 args).run Try.prog w = .ok (.enter 108 args) w := enters_of Try.func108 (by kernel_rfl) rfl
  have H1 := hidU (hpPush h hx hN)
  have H2 : Hid (∀ u v', HpO w0 es B u gH a c (N ++ [x]) v' → Calls Try.prog 54 #[.pointer (some ⟨gH, 0, none⟩)] u fun r w' => r = .returned (.int .i64 ((N.length : Int) + 1)) ∧ w' = u) := fun u v' hu => by
    have := hpLen hu
    simpa using this
  have H3 : Hid (∀ u v', HpO w0 es B u gH a c (N ++ [x]) v' → Chg gH v.ownBlock v'.ownBlock w u → Calls Try.prog 66 #[.iface 79 (.pointer (some ⟨gH, 0, none⟩)), .int .i64 (N.length : Int)] u fun r w' => r = .returned (.tuple #[]) ∧ ∃ N' v', N'.Perm (N ++ [x]) ∧ Hp (thK es) N' ∧ HpO w0 es B w' gH a c N' v' ∧ Chg gH v.ownBlock v'.ownBlock w w') := fun u v' hu hc => by
    refine (up_any w0 es B u gH a c (N ++ [x]) v' N.length hu (by simp) (hp.push x)).mono ?_
    rintro r w' ⟨rfl, N', h1, h2, h3, h4⟩
    exact ⟨rfl, N', v', h1, h2, h3, hc.trans h4⟩
  clear h hp
  go_enter Try.func53, Try.ntmps53
  go_wp2_with (first | (go_at_call 108; refine H1.out.mono ?_; rintro e u ⟨rfl, v', hu, hc⟩; have HU := hidU hu; have HC := hidU hc; clear hu hc; have h2 := H2.out u v' HU.out; have h3 := H3.out u v' HU.out HC.out) | (go_at_call 54; refine h2.mono ?_; clear h2; rintro e w2 ⟨rfl, rfl⟩) | (go_at_call 66; refine h3.mono ?_; clear h3; rintro e w3 ⟨rfl, hE⟩; have HE := hidU hE; clear hE))
  go_end0
  exact ⟨rfl, HE.out⟩

set_option maxRecDepth 100000 in
set_option maxHeartbeats 6400000 in
theorem heapPop_any (w0 : World) (es : List Ev) (B : Nat) (w : World) (gH : Nat) (a : Option Addr) (c : Nat) (x : Nat) (t : List Nat) (v : Value) (h : HpO w0 es B w gH a c (x :: t) v) (hp : Hp (thK es) (x :: t)) :
    Calls Try.prog 55 #[.iface 79 (.pointer (some ⟨gH, 0, none⟩))] w fun r w' => r = .returned (.iface 3 (.int .i64 (x : Int))) ∧ ∃ N' v', N'.Perm t ∧ Hp (thK es) N' ∧ HpO w0 es B w' gH a c N' v' ∧ Chg gH v.ownBlock v'.ownBlock w w' := by
  have mL := mLen gH
  have mS := mSwap gH
  have mP := mPop gH
  have eL : ∀ args w, (callFunc 54 args).run Try.prog w = .ok (.enter 54 args) w := enters_of Try.func54 (by kernel_rfl) rfl
  have eS : ∀ args w, (callFunc 109 args).run Try.prog w = .ok (.enter 109 args) w := enters_of Try.func109 (by kernel_rfl) rfl
  have eP : ∀ args w, (callFunc 107 args).run Try.prog w = .ok (.enter 107 args) w := enters_of Try.func107 (by kernel_rfl) rfl
  obtain ⟨n, hn⟩ : ∃ n, n = t.length := ⟨_, rfl⟩
  have hfew := h.few
  rw [List.length_cons, ← hn] at hfew
  have h1 : Calls Try.prog 54 #[.pointer (some ⟨gH, 0, none⟩)] w fun r w' => r = .returned (.int .i64 ((n : Int) + 1)) ∧ w' = w := by
    have := hpLen h
    rw [List.length_cons, ← hn] at this
    simpa using this
  have h2 : Calls Try.prog 109 #[.pointer (some ⟨gH, 0, none⟩), .int .i64 0, .int .i64 (n : Int)] w fun r w' => r = .returned (.tuple #[]) ∧ HpO w0 es B w' gH a c (swp (x :: t) 0 n) v ∧ Chg gH v.ownBlock v.ownBlock w w' := hpSwap h (i := 0) (j := n) (by simp) (by simp; omega)
  have H2 := hidU h2
  have H3 : Hid (∀ u, HpO w0 es B u gH a c (swp (x :: t) 0 n) v → Chg gH v.ownBlock v.ownBlock w u → Calls Try.prog 67 #[.iface 79 (.pointer (some ⟨gH, 0, none⟩)), .int .i64 0, .int .i64 (n : Int)] u fun r w' => (∃ b, r = .returned (.bool b)) ∧ ∃ M, M.length = n + 1 ∧ M[n]? = some x ∧ (M.take n).Perm t ∧ Hp (thK es) (M.take n) ∧ HpO w0 es B w' gH a c M v ∧ Chg gH v.ownBlock v.ownBlock w w') := fun u hu hc => by
    refine (down_any w0 es B u gH a c (swp (x :: t) 0 n) v n hu (by rw [swp_length]; simp; omega) (hp.pop (by simp; omega))).mono ?_
    rintro r w' ⟨⟨b, rfl⟩, M, k1, k2, k3, k4, k5, k6⟩
    have hl : M.length = n + 1 := by rw [k2, swp_length]; simp; omega
    have hx : M[n]? = some x := by
      rw [k3 n (Nat.le_refl _), swp_at (by simp) (by simp; omega), if_pos rfl]
      rfl
    refine ⟨⟨b, rfl⟩, M, hl, hx, ?_, Hp.take k4 (by omega), k5, hc.trans k6⟩
    have e : M = M.take n ++ [x] := by
      have h9 := (List.take_append_drop n M).symm
      have h8 : M.drop n = [x] := by
        rw [List.drop_eq_getElem_cons (show n < M.length by omega), List.drop_eq_nil_of_le (by omega)]
        congr 1
        have := List.getElem?_eq_getElem (l := M) (i := n) (by omega)
        rw [hx] at this
        exact (Option.some.inj this).symm
      rw [h8] at h9
      exact h9
    have hp1 : (M.take n ++ [x]).Perm (x :: t) := by
      rw [← e]
      exact k1.trans (swp_perm _ _ _)
    exact List.perm_cons x |>.1 (List.perm_append_singleton x _ |>.symm.trans hp1)
  have H4 : Hid (∀ u M, M.length = n + 1 → M[n]? = some x → (M.take n).Perm t → Hp (thK es) (M.take n) → HpO w0 es B u gH a c M v → Chg gH v.ownBlock v.ownBlock w u → Calls Try.prog 107 #[.pointer (some ⟨gH, 0, none⟩)] u fun r w' => r = .returned (.iface 3 (.int .i64 (x : Int))) ∧ ∃ N' v', N'.Perm t ∧ Hp (thK es) N' ∧ HpO w0 es B w' gH a c N' v' ∧ Chg gH v.ownBlock v'.ownBlock w w') := fun u M k1 k2 k3 k4 k5 k6 => by
    refine (hpPop k5 k1 k2).mono ?_
    rintro r w' ⟨rfl, v', q1, q2⟩
    exact ⟨rfl, _, v', k3, k4, q1, k6.trans q2⟩
  clear h hp h2 hn
  go_enter Try.func55, Try.ntmps55
  go_wp2_with (first | (go_at_call 54; refine h1.mono ?_; clear h1; rintro e w2 ⟨rfl, rfl⟩) | (go_at_call 109; refine H2.out.mono ?_; rintro e u ⟨rfl, hu, hc⟩; have h3 := H3.out u hu hc; clear hu hc) | (go_at_call 67; refine h3.mono ?_; clear h3; rintro e w3 ⟨⟨b, rfl⟩, M, k1, k2, k3, k4, k5, k6⟩; have h4 := H4.out w3 M k1 k2 k3 k4 k5 k6; clear k1 k2 k3 k4 k5 k6) | (go_at_call 107; refine h4.mono ?_; clear h4; rintro e w4 ⟨rfl, hE⟩; have HE := hidU hE; clear hE))
  go_ret
  exact ⟨rfl, HE.out⟩
end Go.Proofs.Ytbamocalhojmeaa

/- norm.behind: the walk through the events behind one, as a contract for a range over it. -/
namespace Go.Proofs.Ytbamocalhojmeaa
open Go.RowKit
set_option linter.unusedVariables false
attribute [local go_sem ↓] Go.wp_at_zero Go.wp_at_succ
attribute [local go_sem] Oper.semAt_some

/-- An event behind i. -/
abbrev BhA (m i : Nat) (ev : Nat → Ev) := { j : Nat // i < j ∧ j < m ∧ hbB ev j i = true }
/-- Those below k that are behind i. -/
def bhTo (ev : Nat → Ev) (i k : Nat) : List Nat := (List.range k).filter fun j => hbB ev j i
theorem hbB_lt {ev : Nat → Ev} {j i : Nat} (h : hbB ev j i = true) : i < j := ((hbB_iff ev j i).1 h).lt
theorem bhTo_start (ev : Nat → Ev) (i : Nat) : bhTo ev i (i + 1) = [] := by
  unfold bhTo
  rw [List.filter_eq_nil_iff]
  intro j hj h
  have := hbB_lt h
  have := List.mem_range.1 hj
  omega
theorem bhTo_yes {ev : Nat → Ev} {i j : Nat} (h : hbB ev j i = true) : bhTo ev i (j + 1) = bhTo ev i j ++ [j] := by simp [bhTo, List.range_succ, List.filter_append, h]
theorem bhTo_no {ev : Nat → Ev} {i j : Nat} (h : hbB ev j i = false) : bhTo ev i (j + 1) = bhTo ev i j := by simp [bhTo, List.range_succ, List.filter_append, h]
theorem bhTo_prefix (ev : Nat → Ev) (i j : Nat) : ∀ d, bhTo ev i j <+: bhTo ev i (j + d)
  | 0 => List.prefix_rfl
  | d + 1 => by
    refine (bhTo_prefix ev i j d).trans ?_
    rw [← Nat.add_assoc]
    unfold bhTo
    rw [List.range_succ, List.filter_append]
    exact List.prefix_append _ _
theorem bhTo_lt {ev : Nat → Ev} {i j m : Nat} (hj : j < m) (h : hbB ev j i = true) : (bhTo ev i j).length < (bhTo ev i m).length := by
  have h1 := (bhTo_prefix ev i (j + 1) (m - (j + 1))).length_le
  rw [show j + 1 + (m - (j + 1)) = m by omega, bhTo_yes h] at h1
  simp at h1
  omega
/-- What a round must keep: all below b0, and the three boxes from s on. -/
structure Kpt (b0 s : Nat) (W W' : World) : Prop where
  bel : Below b0 W W'
  box : ∀ k, s ≤ k → k < s + 3 → W'.heap[k]? = W.heap[k]?
theorem Kpt.trans {b0 s : Nat} {A B C : World} (h : Kpt b0 s A B) (k : Kpt b0 s B C) : Kpt b0 s A C := ⟨h.bel.trans k.bel, fun i h1 h2 => (k.box i h1 h2).trans (h.box i h1 h2)⟩
theorem Kpt.of_below {b0 s : Nat} {A B : World} (h : Below A.heap.size A B) (h1 : b0 ≤ A.heap.size) (h2 : s + 3 ≤ A.heap.size) : Kpt b0 s A B := ⟨h.mono h1, fun k _ hk => h.block k (by omega)⟩
theorem Kpt.put {b0 s n : Nat} (h1 : b0 ≤ n) (h2 : s + 3 ≤ n) (W : World) (l : Nat) (o o' : Obj) (hl : n ≤ l) (ho : W.heap[l]? = some o) : Kpt b0 s W (W.putObj l o') := by
  have hg := grownBy_putObj' W l o'
  have hlt := (Array.getElem?_eq_some_iff.1 ho).1
  exact ⟨⟨hg.os, hg.tape, hg.output, hg.size, fun k hk => hg.block k (by omega) (fun e => by cases e; omega)⟩, fun k _ hk => hg.block k (by omega) (fun e => by cases e; omega)⟩
theorem Boxed.kpt {b0 s : Nat} {W W' : World} (h : Kpt b0 s W W') {k : Nat} {t : TypeId} {v : Value} (hb : Boxed W k t v) (h1 : s ≤ k) (h2 : k < s + 3) : Boxed W' k t v := (h.box k h1 h2).trans hb

set_option maxRecDepth 100000 in
theorem behind_any (a1 a2 : Option Addr) (m1 m2 c1 c2 : Nat) (i : Int) (w : World) : Calls Try.prog 56 #[.slice a1 m1 c1, .slice a2 m2 c2, .int .i64 i] w fun r w' => r = .returned (.func (.func 68) #[] #[.pointer (some ⟨w.heap.size + 2, 0, none⟩), .pointer (some ⟨w.heap.size + 1, 0, none⟩), .pointer (some ⟨w.heap.size, 0, none⟩)]) ∧ w' = ((w.alloc (.cells #[.slice a1 m1 c1] 32)).alloc (.cells #[.slice a2 m2 c2] 22)).alloc (.cells #[.int .i64 i] 3) := by
  go_enter Try.func56, Try.ntmps56
  go_wp2
  go_ret
  exact ⟨rfl, rfl⟩

set_option maxRecDepth 100000 in
set_option maxHeartbeats 6400000 in
theorem behind1_any (n : Nat) (hn : 1 ≤ n) (l s i nn : Nat) (a1 a2 : Option Addr) (c1 c2 : Nat) (es : List Ev) (w : World) (hT : Tr w a1 a2 es nn) (hi : i < es.length) (hc1 : es.length ≤ c1) (hc2 : es.length ≤ c2)
    (J Jx : List (BhA es.length i (evAt es)) → World → Prop) (W : World) (hW : Below w.heap.size w W) (hs : s + 3 ≤ W.heap.size) (hJ : AbidesFrom W.heap.size J)
    (b1 : Boxed W s 32 (.slice a1 es.length c1)) (b2 : Boxed W (s + 1) 22 (.slice a2 es.length c2)) (b3 : Boxed W (s + 2) 3 (.int .i64 (i : Int)))
    (hY : ∀ pre x W1, J pre W1 → pre.length < (bhTo (evAt es) i es.length).length → YieldAt Fence.wide (n - 1) Try.prog l #[.int .i64 (x.1 : Int)] W1 fun e W' =>
      (e = .returned (.bool true) ∧ J (pre ++ [x]) W' ∧ Kpt w.heap.size s W1 W') ∨ (e = .returned (.bool false) ∧ Jx (pre ++ [x]) W')) (h0 : J [] W) :
    CallsIn Fence.wide n Try.prog 68 #[.func (.yield l) #[] #[], .pointer (some ⟨s + 2, 0, none⟩), .pointer (some ⟨s + 1, 0, none⟩), .pointer (some ⟨s, 0, none⟩)] W fun e W' => (∃ v, e = .returned v) ∧
      ((∃ ys, ys.map (·.1) = bhTo (evAt es) i es.length ∧ J ys W') ∨ (∃ pre, True ∧ Jx pre W')) := by
  have hlen := hT.len
  have HT := hidU hT
  have HJ : Hid (∀ pre u v, J pre u → Below u.heap.size u v → J pre v) := fun pre u v h1 h2 => hJ pre u v none h1 ⟨h2.os, h2.tape, h2.output, h2.size, fun k hk _ => h2.block k hk⟩ (fun r e => by cases e)
  have HY : Hid (∀ (pre : List (BhA es.length i (evAt es))) (j : Nat) (u : World), i < j → j < es.length → hbB (evAt es) j i = true → pre.map (·.1) = bhTo (evAt es) i j → J pre u → YieldAt Fence.wide (n - 1) Try.prog l #[.int .i64 (j : Int)] u fun e W' =>
      ∃ b, e = .returned (.bool b) ∧ Hid (b = true → ∃ pre2, pre2.map (·.1) = bhTo (evAt es) i (j + 1) ∧ J pre2 W' ∧ Kpt w.heap.size s u W') ∧ Hid (b = false → ∃ pre2, True ∧ Jx pre2 W')) := fun pre j u h1 h2 h3 h4 h5 => by
    refine (hY pre ⟨j, h1, h2, h3⟩ u h5 ?_).mono ?_
    · have e := congrArg List.length h4
      rw [List.length_map] at e
      rw [e]
      exact bhTo_lt h2 h3
    · rintro e W' (⟨rfl, k1, k2⟩ | ⟨rfl, k1⟩)
      · exact ⟨true, rfl, fun _ => ⟨_, by rw [List.map_append, h4, bhTo_yes h3]; rfl, k1, k2⟩, fun h => by cases h⟩
      · exact ⟨false, rfl, fun h => (by cases h), fun _ => ⟨_, trivial, k1⟩⟩
  obtain ⟨m, hm⟩ : ∃ m, m = es.length := ⟨_, rfl⟩
  have HS : Hid (∃ pre : List (BhA es.length i (evAt es)), pre.map (·.1) = bhTo (evAt es) i (i + 1) ∧ J pre W) := ⟨[], by rw [bhTo_start]; rfl, h0⟩
  have HB : Hid (Below w.heap.size w W ∧ s + 3 ≤ W.heap.size ∧ Boxed W s 32 (.slice a1 m c1) ∧ Boxed W (s + 1) 22 (.slice a2 m c2) ∧ Boxed W (s + 2) 3 (.int .i64 (i : Int))) := ⟨hW, hs, by rw [hm]; exact b1, by rw [hm]; exact b2, b3⟩
  have HA : Hid (∀ u (j : Nat), Below w.heap.size w u → j < m → Calls Try.prog 69 #[.slice a1 m c1, .slice a2 m c2, .int .i64 (i : Int), .int .i64 (j : Int)] u fun r w' => r = .returned (.tuple #[.bool (hbB (evAt es) j i), .int .i64 0]) ∧ Below u.heap.size u w') := fun u j h1 h2 => by
    rw [hm]
    exact ahead_ok es nn i j a1 a2 c1 c2 u (HT.out.below h1) hi (by omega) hc1 hc2
  rw [← hm] at hlen hi
  have hm2 := hidU hm
  have cI := b3.cell
  clear hT hY hJ hW hs b1 b2 b3 h0 hc1 hc2 hm
  refine callsIn_of_wp Try.func68 rfl trivial ?_ rfl
  simp only [Try.ntmps68, List.size_toArray, List.length_cons, List.length_nil, Nat.reduceAdd, Nat.reduceSub, Array.replicate_succ, Array.replicate_zero, List.push_toArray, List.append_toArray, List.nil_append, List.cons_append]
  gi_wp2_with fail
  gi_loopw [5] (fun s1 wr => ∃ j : Nat, s1 = .int .i64 (j : Int) ∧ i < j ∧ j ≤ m ∧ Hid (Below w.heap.size w wr ∧ s + 3 ≤ wr.heap.size ∧ Boxed wr s 32 (.slice a1 m c1) ∧ Boxed wr (s + 1) 22 (.slice a2 m c2) ∧ Boxed wr (s + 2) 3 (.int .i64 (i : Int))) ∧ Hid (∃ pre : List (BhA es.length i (evAt es)), pre.map (·.1) = bhTo (evAt es) i j ∧ J pre wr)) (fun s1 _ => m - (intOf s1).toNat)
  case atStart => exact ⟨i + 1, by go_num, by omega, by omega, HB.out, HS.out⟩
  case round =>
    obtain ⟨j, rfl, hj1, hj2, hB, hP⟩ := hrel
    clear HB HS cI
    have cL := hB.out.2.2.2.1.cell
    by_cases hjm : j < m
    · have cI := hB.out.2.2.2.2.cell
      have cC := hB.out.2.2.1.cell
      have HA1 := hidU (HA.out wr j hB.out.1 hjm)
      cases hbd : hbB (evAt es) j i with
      | false =>
        rw [hbd] at HA1
        have HD := hidU hbd
        clear hbd
        have HN : Hid (∀ u, Below wr.heap.size wr u → (Below w.heap.size w u ∧ s + 3 ≤ u.heap.size ∧ Boxed u s 32 (.slice a1 m c1) ∧ Boxed u (s + 1) 22 (.slice a2 m c2) ∧ Boxed u (s + 2) 3 (.int .i64 (i : Int))) ∧ ∃ pre : List (BhA es.length i (evAt es)), pre.map (·.1) = bhTo (evAt es) i (j + 1) ∧ J pre u) := fun u hu => by
          obtain ⟨k1, k2, k3, k4, k5⟩ := hB.out
          obtain ⟨pre, p1, p2⟩ := hP.out
          exact ⟨⟨k1.trans (hu.mono k1.size), Nat.le_trans k2 hu.size, (hu.block _ k3.lt).trans k3, (hu.block _ k4.lt).trans k4, (hu.block _ k5.lt).trans k5⟩, pre, by rw [p1, bhTo_no HD.out], HJ.out _ _ _ p2 hu⟩
        gi_wp2_with (refine ⟨trivial, ?_⟩; gi_at_call 69; refine (callsIn_wide.2 HA1.out).mono ?_; rintro e W2 ⟨rfl, hb2⟩; have HB2 := hidU hb2; clear hb2)
        refine ⟨fun _ h => (by cases h), ?_⟩
        gi_wp2_with fail
        go_roundw
        case rel => exact ⟨j + 1, by go_num, by omega, by omega, (HN.out W2 HB2.out).1, (HN.out W2 HB2.out).2⟩
        case measure => simp [intOf]; omega
      | true =>
        rw [hbd] at HA1
        have HD := hidU hbd
        clear hbd
        have HY2 : Hid (∀ u, Below wr.heap.size wr u → YieldAt Fence.wide (n - 1) Try.prog l #[.int .i64 (j : Int)] u fun e W' => ∃ b, e = .returned (.bool b) ∧ Hid (b = true → (Below w.heap.size w W' ∧ s + 3 ≤ W'.heap.size ∧ Boxed W' s 32 (.slice a1 m c1) ∧ Boxed W' (s + 1) 22 (.slice a2 m c2) ∧ Boxed W' (s + 2) 3 (.int .i64 (i : Int))) ∧ ∃ pre : List (BhA es.length i (evAt es)), pre.map (·.1) = bhTo (evAt es) i (j + 1) ∧ J pre W') ∧ Hid (b = false → ∃ pre, True ∧ Jx pre W')) := fun u hu => by
          obtain ⟨k1, k2, k3, k4, k5⟩ := hB.out
          obtain ⟨pre, p1, p2⟩ := hP.out
          refine (HY.out pre j u hj1 (by rw [← hm2.out]; exact hjm) HD.out p1 (HJ.out _ _ _ p2 hu)).mono ?_
          rintro e W' ⟨b, rfl, h1, h2⟩
          refine ⟨b, rfl, fun hb => ?_, h2⟩
          obtain ⟨pre2, q1, q2, q3⟩ := h1.out hb
          have k3' : Boxed u s 32 (.slice a1 m c1) := (hu.block _ k3.lt).trans k3
          have k4' : Boxed u (s + 1) 22 (.slice a2 m c2) := (hu.block _ k4.lt).trans k4
          have k5' : Boxed u (s + 2) 3 (.int .i64 (i : Int)) := (hu.block _ k5.lt).trans k5
          exact ⟨⟨(k1.trans (hu.mono k1.size)).trans q3.bel, Nat.le_trans (Nat.le_trans k2 hu.size) q3.bel.size, Boxed.kpt q3 k3' (by omega) (by omega), Boxed.kpt q3 k4' (by omega) (by omega), Boxed.kpt q3 k5' (by omega) (by omega)⟩, pre2, q1, q2⟩
        gi_wp2_with (refine ⟨trivial, ?_⟩; gi_at_call 69; refine (callsIn_wide.2 HA1.out).mono ?_; rintro e W2 ⟨rfl, hb2⟩; obtain ⟨fn, tmps, assign, body, hy, hR⟩ := HY2.out W2 hb2; clear hb2)
        refine hR.mono ?_
        rintro e W3 ⟨b, rfl, hyes, hno⟩
        clear hR hy
        cases b
        · have hx2 := hidU (hno.out rfl)
          gi_wp2_with fail
          refine bodyPost_ret (results_none rfl _ _ _) rfl ?_
          exact ⟨⟨_, rfl⟩, .inr hx2.out⟩
        · have hx2 := hidU (hyes.out rfl)
          gi_wp2_with fail
          go_roundw
          case rel => exact ⟨j + 1, by go_num, by omega, by omega, hx2.out.1, hx2.out.2⟩
          case measure => simp [intOf]; omega
    · obtain rfl : j = m := by omega
      gi_wp2_with fail
      go_end0
      obtain ⟨pre, p1, p2⟩ := hP.out
      exact ⟨⟨_, rfl⟩, .inl ⟨pre, p1.trans (congrArg (bhTo (evAt es) i) hm2.out), p2⟩⟩
end Go.Proofs.Ytbamocalhojmeaa
