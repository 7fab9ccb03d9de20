/- Joined texts of the proof. -/
import Derived.Test.YtmkhobaclpiceaaJ21
import Derived.Test.YtmkhobaclpiceaaJ13
import Derived.RangeFuncNested
import Derived.OrdersIn
import Derived.Test.YtmkhobaclpiceaaJ4

/- race's closures: whether a bound pair is a race, a data race. -/
namespace Go.Proofs.Ytmkhobaclpiceaa
open Go.RowKit
set_option linter.unusedVariables false
attribute [local go_sem ↓] Go.wp_at_zero Go.wp_at_succ

/-- Lock clocks of a trace, and the trace. -/
structure TrL (w : World) (a1 a2 : Option Addr) (es : List Ev) (n : Nat) : Prop where
  row : RowII w a1 ((List.range es.length).map (lkL (evAt es) n))
  evs : RowEv w a2 es
  n1 : 0 < n
  n2 : n ≤ 16
  len : es.length ≤ 1024
  ok : ∀ x ∈ es, x.ok
  th : ∀ x ∈ es, 0 ≤ x.th ∧ x.th < n
theorem TrL.below {w w' : World} {a1 a2 : Option Addr} {es : List Ev} {n : Nat} (h : TrL w a1 a2 es n) (hb : Below w.heap.size w w') : TrL w' a1 a2 es n :=
  ⟨h.row.below hb, h.evs.below hb, h.n1, h.n2, h.len, h.ok, h.th⟩

set_option maxRecDepth 100000 in
set_option maxHeartbeats 1600000 in
theorem aheadL_ok (es : List Ev) (n p q : Nat) (a1 a2 : Option Addr) (c1 c2 : Nat) (w : World) (hT : TrL w a1 a2 es n) (hp : p < es.length) (hq : q < es.length) (hk1 : es.length ≤ c1) (hk2 : es.length ≤ c2) :
    Calls Try.prog 22 #[.slice a1 es.length c1, .slice a2 es.length c2, .int .i64 p, .int .i64 q] w fun r w' => r = .returned (.tuple #[.bool (hrB (lockR (evAt es)) q p), .int .i64 0]) ∧ Below w.heap.size w w' := by
  obtain ⟨ev, hev⟩ : ∃ ev, ev = evAt es := ⟨_, rfl⟩
  have he := List.getElem?_eq_getElem hp
  have hf := List.getElem?_eq_getElem hq
  obtain ⟨e, hee⟩ : ∃ e, e = es[p] := ⟨_, rfl⟩
  obtain ⟨f, hff⟩ : ∃ e, e = es[q] := ⟨_, rfl⟩
  rw [← hee] at he
  rw [← hff] at hf
  have the := hT.th e (List.mem_of_getElem? he)
  have thf := hT.th f (List.mem_of_getElem? hf)
  obtain ⟨s, hs⟩ : ∃ s : Nat, e.th = (s : Int) := ⟨e.th.toNat, by omega⟩
  have hsn : s < n := by omega
  have hevp : ev p = e := by rw [hev]; exact evAt_eq he
  have hx := map_range_at (lkL ev n) hp
  have hy := map_range_at (lkL ev n) hq
  have HI := fun u (hu : Below w.heap.size w u) => isAhead_any ((List.range es.length).map (lkL ev n)) es p q s _ _ e _ _ es.length es.length a1 a2 c1 c2 u (by rw [hev]; exact hT.row.below hu) (hT.evs.below hu) hx hy he hs (lkL_at hsn) (lkL_at hsn) (by simp) (Nat.le_refl _) hk1 hk2 (by have := hT.len; omega) (by have := hT.len; omega)
  rw [← hs, ← hevp, lkc_tells] at HI
  have HI' : Hid (∀ u, Below w.heap.size w u → Calls Try.prog 42 #[.slice a1 es.length c1, .slice a2 es.length c2, .int .i64 p, .int .i64 q] u fun r w' => r = .returned (.bool (hrB (lockR ev) q p)) ∧ Below w.heap.size w w') := fun u hu => (HI u hu).mono fun r w' ⟨h1, h2⟩ => ⟨h1, hu.trans (h2.mono hu.size)⟩
  have hR := hT.row
  rw [← hev] at hR
  obtain ⟨g1, o1, b1, k1, rfl, r1, -, i2, -⟩ := hR.at p _ hx
  obtain ⟨g2, o2, b2, k2, hg2, r2, -, j2, -⟩ := hR.at q _ hy
  cases hg2
  rw [lkL_length] at r1 r2 i2 j2
  obtain ⟨g3, o3, rfl, r3⟩ := hT.evs.at p e he
  obtain ⟨g4, o4, hg4, r4⟩ := hT.evs.at q f hf
  cases hg4
  obtain ⟨t1, -, -⟩ := range_cells r3
  obtain ⟨t2, -, -⟩ := range_cells r4
  have hlen := hT.len
  have hn2 := hT.n2
  rw [← hev]
  obtain ⟨R, hRR⟩ : ∃ R, R = hrB (lockR ev) q p := ⟨_, rfl⟩
  rw [← hRR] at HI' ⊢
  obtain ⟨et, hx1⟩ : ∃ z, z = e.th := ⟨_, rfl⟩
  obtain ⟨ft, hx2⟩ : ∃ z, z = f.th := ⟨_, rfl⟩
  rw [← hx1] at t1 the
  rw [← hx2] at t2 thf
  obtain ⟨m, hm⟩ : ∃ m, m = es.length := ⟨_, rfl⟩
  rw [← hm] at HI' hp hq hk1 hk2 hlen ⊢
  have p1 := plc_yes (z := (p : Int)) (m := (m : Int)) (by omega) (by omega)
  have p2 := plc_yes (z := (q : Int)) (m := (m : Int)) (by omega) (by omega)
  have p3 := plc_yes (z := et) (m := (n : Int)) the.1 the.2
  have p4 := plc_yes (z := ft) (m := (n : Int)) thf.1 thf.2
  clear HI hR hT hev he hf hee hff hs hsn hevp hx hy r3 r4 hRR hx1 hx2 hm
  go_enter Try.func22, Try.ntmps22
  go_wp2_with (go_at_call 41; refine (isPlace_any _ _ _).mono ?_; rintro _ w2 ⟨rfl, rfl⟩)
  go_quiet (fail)
  go_wp2_with (first | (go_at_call 41; refine (isPlace_any _ _ _).mono ?_; rintro _ w2 ⟨rfl, rfl⟩) | (go_at_call 42; refine (HI'.out _ (below_drN (Below.refl _ _) _)).mono ?_; rintro _ w3 ⟨rfl, hb3⟩))
  go_ret2
  exact ⟨rfl, hb3⟩

theorem RowI.in {w : World} {b : Option Addr} {zs : List Int} {s : Nat} {z : Int} (h : RowI w b zs) (hz : zs[s]? = some z) : ∃ g o, b = some ⟨g, o, none⟩ ∧ w.cell? ⟨g, o + s, none⟩ = some (.int .i64 z) := by
  rcases h with rfl | ⟨g, o, ha, hr⟩
  · simp at hz
  · exact ⟨g, o, ha, hr s z hz⟩
/-- What a closure sees: its variables' boxes. -/
structure Seen (w : World) (es : List Ev) (n m : Nat) (bl : Nat) (a : Option Addr) (c : Nat) : Prop where
  box : w.cell? ⟨bl, 0, none⟩ = some (.slice a m c)
  evs : RowEv w a es
  len : es.length = m
  m2 : m ≤ 1024
  mc : m ≤ c
  n1 : 0 < n
  n2 : n ≤ 16
  ok : ∀ x ∈ es, x.ok
  th : ∀ x ∈ es, 0 ≤ x.th ∧ x.th < n
theorem Seen.below {w w' : World} {es : List Ev} {n m bl c : Nat} {a : Option Addr} (h : Seen w es n m bl a c) (hb : Below w.heap.size w w') : Seen w' es n m bl a c :=
  ⟨(hb.cell (lt_of_cell h.box)).trans h.box, h.evs.below hb, h.len, h.m2, h.mc, h.n1, h.n2, h.ok, h.th⟩

set_option maxRecDepth 100000 in
set_option maxHeartbeats 3200000 in
theorem picks47 (es : List Ev) (n m i j bl bc bp c cc cp : Nat) (a ac ap : Option Addr) (w : World) (hS : Seen w es n m bl a c) (hbc : w.cell? ⟨bc, 0, none⟩ = some (.slice ac m cc)) (hbp : w.cell? ⟨bp, 0, none⟩ = some (.slice ap m cp)) (hC : RowII w ac (clksL (evAt es) n m)) (hP : RowII w ap ((List.range m).map (parL es n))) (hij : i < j) (hjm : j < m) (hbd : bndP (evAt es) j i = true) :
    Calls Try.prog 47 #[.agg #[.int .i64 (i : Int), .int .i64 (j : Int)], .pointer (some ⟨bl, 0, none⟩), .pointer (some ⟨bc, 0, none⟩), .pointer (some ⟨bp, 0, none⟩)] w fun r w' => r = .returned (.bool (raceP (evAt es) j i)) ∧ Below w.heap.size w w' := by
  have him : i < m := by omega
  obtain ⟨x, hx⟩ : ∃ k, es[i]? = some k := ⟨es[i]'(by rw [hS.len]; exact him), by rw [List.getElem?_eq_getElem]⟩
  obtain ⟨y, hy⟩ : ∃ k, es[j]? = some k := ⟨es[j]'(by rw [hS.len]; exact hjm), by rw [List.getElem?_eq_getElem]⟩
  have hxth := hS.th x (List.mem_of_getElem? hx)
  have hyth := hS.th y (List.mem_of_getElem? hy)
  obtain ⟨s, hs0⟩ : ∃ s : Nat, x.th = (s : Int) := ⟨x.th.toNat, by omega⟩
  have hsn : s < n := by omega
  have ex : evAt es i = x := evAt_eq hx
  have ey : evAt es j = y := evAt_eq hy
  have hbd' := hbd
  unfold bndP at hbd'
  simp only [Bool.and_eq_true, Bool.not_eq_true', decide_eq_false_iff_not] at hbd'
  obtain ⟨hne, hdp⟩ := hbd'
  have HT := race_tells (evAt es) i j hne hdp
  rw [show (evAt es i).th = (s : Int) by rw [ex]; exact hs0] at HT hne
  have v1 := clkL_at (ev := evAt es) (j := i) hsn
  have v2 := parL_at es n j s (by rw [hS.len]; exact hjm) hsn (by rw [ey]; exact hyth.1) hne
  obtain ⟨ga, oa, rfl, hr⟩ := hS.evs.at i x hx
  obtain ⟨q1, -, -⟩ := range_cells hr
  rw [hs0] at q1
  obtain ⟨gc, oc, b1, k1, rfl, r1, i1, i2, -⟩ := hC.at i _ (clksL_at him)
  rw [clkL_length] at r1 i2
  obtain ⟨gp, op, b2, k2, rfl, r2, i3, i4, -⟩ := hP.at j _ (map_range_at (parL es n) hjm)
  rw [parL_length es n j (by rw [hS.len]; exact hjm)] at r2 i4
  obtain ⟨g1, o1, rfl, t1⟩ := i1.in v1
  obtain ⟨g2, o2, rfl, t2⟩ := i3.in v2
  obtain ⟨A, hA⟩ : ∃ A : Nat, A = clk (evAt es) i (s : Int) := ⟨_, rfl⟩
  obtain ⟨B, hB⟩ : ∃ B : Nat, B = maxN (fun k => pst (evAt es) k (s : Int)) (fun k => depB (evAt es k) (evAt es j)) j := ⟨_, rfl⟩
  rw [← hA] at t1 HT
  rw [← hB] at t2 HT
  have hbox := hS.box
  have hmc := hS.mc
  have hm2 := hS.m2
  have hn2 := hS.n2
  have hb : Below w.heap.size w (w.alloc (.cells #[.int .i64 (i : Int), .int .i64 (j : Int)] 45)) := (Below.refl _ w).alloc (Nat.le_refl _) _
  have HB : Hid (Below w.heap.size w (w.alloc (.cells #[.int .i64 (i : Int), .int .i64 (j : Int)] 45))) := hb
  have d1 := (hb.cell (lt_of_cell hbox)).trans hbox
  have d2 := (hb.cell (lt_of_cell hbc)).trans hbc
  have d3 := (hb.cell (lt_of_cell hbp)).trans hbp
  have d4 := (hb.cell (lt_of_cell q1)).trans q1
  have d5 := (hb.cell (lt_of_cell r1)).trans r1
  have d6 := (hb.cell (lt_of_cell r2)).trans r2
  have d7 := (hb.cell (lt_of_cell t1)).trans t1
  have d8 := (hb.cell (lt_of_cell t2)).trans t2
  rw [← HT, show decide ((A : Int) > (B : Int)) = decide (B < A) from decide_eq_decide.2 (by omega)]
  clear hS hC hP hx hy hxth hyth hs0 ex ey hne hdp HT v1 v2 hr i1 i3 hA hB hbox hbc hbp q1 r1 r2 t1 t2 hb hbd
  go_enter Try.func47, Try.ntmps47
  go_wp2_with fail
  go_quiet (fail)
  go_wp2_with fail
  go_ret
  exact ⟨rfl, below_drN HB.out _⟩

set_option maxRecDepth 100000 in
set_option maxHeartbeats 3200000 in
theorem picks33 (es : List Ev) (n m i j bl bc c cc : Nat) (a ac : Option Addr) (w : World) (hS : Seen w es n m bl a c) (hbc : w.cell? ⟨bc, 0, none⟩ = some (.slice ac m cc)) (hcc : m ≤ cc) (hC : RowII w ac ((List.range m).map (lkL (evAt es) n))) (hij : i < j) (hjm : j < m) (hbd : bndP (evAt es) j i = true) :
    Calls Try.prog 33 #[.agg #[.int .i64 (i : Int), .int .i64 (j : Int)], .pointer (some ⟨bc, 0, none⟩), .pointer (some ⟨bl, 0, none⟩)] w fun r w' => r = .returned (.bool (dataP (evAt es) j i)) ∧ Below w.heap.size w w' := by
  have him : i < m := by omega
  obtain ⟨x, hx⟩ : ∃ k, es[i]? = some k := ⟨es[i]'(by rw [hS.len]; exact him), by rw [List.getElem?_eq_getElem]⟩
  have ex : evAt es i = x := evAt_eq hx
  have HT := data_tells (evAt es) i j hbd
  rw [ex] at HT
  have hm := hS.len
  have HA : Hid (∀ u, Below w.heap.size w u → Calls Try.prog 22 #[.slice ac m cc, .slice a m c, .int .i64 i, .int .i64 j] u fun r w' => r = .returned (.tuple #[.bool (hrB (lockR (evAt es)) j i), .int .i64 0]) ∧ Below u.heap.size u w') := fun u hu => by
    have := aheadL_ok es n i j ac a cc c u ⟨by rw [hm]; exact hC.below hu, hS.evs.below hu, hS.n1, hS.n2, by rw [hm]; exact hS.m2, hS.ok, hS.th⟩ (by rw [hm]; exact him) (by rw [hm]; exact hjm) (by rw [hm]; exact hcc) (by rw [hm]; exact hS.mc)
    rw [hm] at this
    exact this
  have HV : Hid (∀ u, Calls Try.prog 34 #[.agg x.cells.toArray] u fun r w' => r = .returned (.bool (varB x)) ∧ Below u.heap.size u w') := fun u => isOfVariable_any x u
  obtain ⟨R, hR⟩ : ∃ R, Hid (R = hrB (lockR (evAt es)) j i) := ⟨_, (rfl : _ = hrB _ _ _)⟩
  obtain ⟨V, hV⟩ : ∃ V, Hid (V = varB x) := ⟨_, (rfl : _ = varB _)⟩
  rw [← hR.out] at HA HT
  rw [← hV.out] at HV HT
  rw [← HT]
  obtain ⟨ga, oa, rfl, hr⟩ := hS.evs.at i x hx
  obtain ⟨q1, q2, q3⟩ := range_cells hr
  have hbox := hS.box
  have hmc := hS.mc
  have hm2 := hS.m2
  have hb : Below w.heap.size w (w.alloc (.cells #[.int .i64 (i : Int), .int .i64 (j : Int)] 45)) := (Below.refl _ w).alloc (Nat.le_refl _) _
  have HB : Hid (Below w.heap.size w (w.alloc (.cells #[.int .i64 (i : Int), .int .i64 (j : Int)] 45))) := hb
  have d1 := (hb.cell (lt_of_cell hbox)).trans hbox
  have d2 := (hb.cell (lt_of_cell hbc)).trans hbc
  have HD : Hid ((w.alloc (.cells #[.int .i64 (i : Int), .int .i64 (j : Int)] 45)).cell? ⟨w.heap.size, 0, none⟩ = some (.int .i64 (i : Int)) ∧ w.heap.size < (w.alloc (.cells #[.int .i64 (i : Int), .int .i64 (j : Int)] 45)).heap.size) := ⟨by unfold World.cell?; rw [heap_new]; rfl, by simp⟩
  have HQ : Hid (w.cell? ⟨ga, oa + i * 3, none⟩ = some (.int .i64 x.th) ∧ w.cell? ⟨ga, oa + i * 3 + 1, none⟩ = some (.int .i64 x.kd) ∧ w.cell? ⟨ga, oa + i * 3 + 2, none⟩ = some (.int .i64 x.ob) ∧ w.cell? ⟨bl, 0, none⟩ = some (.slice (some ⟨ga, oa, none⟩) m c)) := ⟨q1, q2, q3, hbox⟩
  clear hS hC hx ex HT hr hbox hbc hb q1 q2 q3 hm hR hV
  obtain ⟨xt, xk, xo⟩ := x
  simp only [Ev.cells] at HV HQ
  cases V
  · go_enter Try.func33, Try.ntmps33
    go_wp2_with (first | (go_at_call 22; refine (HA.out _ HB.out).mono ?_; rintro _ w2 ⟨rfl, hb2⟩; have hbw : Below w.heap.size w w2 := (HB.out.trans (hb2.mono HB.out.size)); have e1 := (hbw.cell (lt_of_cell HQ.out.1)).trans HQ.out.1; have e2 := (hbw.cell (lt_of_cell HQ.out.2.1)).trans HQ.out.2.1; have e3 := (hbw.cell (lt_of_cell HQ.out.2.2.1)).trans HQ.out.2.2.1; have e4 := (hbw.cell (lt_of_cell HQ.out.2.2.2)).trans HQ.out.2.2.2; have e5 := (hb2.cell HD.out.2).trans HD.out.1; have HBW : Hid (Below w.heap.size w w2) := hbw; clear hbw hb2) | (go_at_call 34; refine (HV.out _).mono ?_; rintro _ w3 ⟨rfl, hb3⟩))
    go_ret
    exact ⟨rfl, HBW.out.trans (hb3.mono HBW.out.size)⟩
  · go_enter Try.func33, Try.ntmps33
    go_wp2_with (first | (go_at_call 22; refine (HA.out _ HB.out).mono ?_; rintro _ w2 ⟨rfl, hb2⟩; have hbw : Below w.heap.size w w2 := (HB.out.trans (hb2.mono HB.out.size)); have e1 := (hbw.cell (lt_of_cell HQ.out.1)).trans HQ.out.1; have e2 := (hbw.cell (lt_of_cell HQ.out.2.1)).trans HQ.out.2.1; have e3 := (hbw.cell (lt_of_cell HQ.out.2.2.1)).trans HQ.out.2.2.1; have e4 := (hbw.cell (lt_of_cell HQ.out.2.2.2)).trans HQ.out.2.2.2; have e5 := (hb2.cell HD.out.2).trans HD.out.1; have HBW : Hid (Below w.heap.size w w2) := hbw; clear hbw hb2) | (go_at_call 34; refine (HV.out _).mono ?_; rintro _ w3 ⟨rfl, hb3⟩))
    go_ret
    exact ⟨rfl, HBW.out.trans (hb3.mono HBW.out.size)⟩
end Go.Proofs.Ytmkhobaclpiceaa

/- Regions that draw their order and call a loop's body: a condition that holds on the way, within the widest fence. -/
namespace Go.Proofs.Ytmkhobaclpiceaa
open Go Go.RowKit
set_option linter.unusedVariables false
section
variable {n : Nat} {P : Program} {ops : Array Oper} {Q : Exit → Act → World → Prop} {md : Region.Mode} {S : World → Prop} {St : List Nat}

theorem yields_W {i : Nat} {o : Oper} {v : Value} {a : Act} (hi : ops[i]? = some o) (hy : YieldsIf P ops S o v a) {K : Act → World → Prop} {w : World} (hS : S w) (h : K (a.put o.dst v) w) :
    wpOpIn Fence.wide n P ops Q i K a w := by
  unfold wpOpIn
  simp only [hi]
  rcases hy with ⟨hw, hv⟩ | ⟨hw, rfl⟩
  · rw [if_pos hw]
    refine ⟨fun _ _ => trivial, ?_⟩
    rw [show Fence.wide.round = none from rfl, Oper.semAt_none, hv w hS]
    exact h
  · rw [if_neg (by rw [hw]; exact Bool.false_ne_true)]
    exact ⟨fun _ _ => trivial, h⟩
theorem put_W {j : Nat} {oi oj : Oper} {v : Value} (hj : ops[j]? = some oj) (hap : oi.apart ops oj = true) (hsi : ∀ cs b, oi.op ≠ .select cs b) (hsj : ∀ cs b, oj.op ≠ .select cs b)
    (hQ : ∀ c a w, Q (.panic c) (a.put oi.dst v) w → Q (.panic c) a w) {K : Act → World → Prop} {a : Act} {w : World} (hy : YieldsIf P ops S oi v a) (h : wpOpIn Fence.wide n P ops Q j K (a.put oi.dst v) w) :
    wpOpIn Fence.wide n P ops Q j (fun a' w' => YieldsIf P ops S oi v a' ∧ K (a'.put oi.dst v) w') a w := by
  obtain ⟨h1, h2, h3⟩ := Oper.apart_spec hap
  have keep : ∀ (a : Act), YieldsIf P ops S oi v a → ∀ u, YieldsIf P ops S oi v (a.put oj.dst u) := fun a hy u => hy.of_same (execOp_put oi hsi a oj.dst u h3) (wanted_put oi a oj.dst u h3)
  have hp : ∀ (b : Act), YieldsIf P ops S oi v b → ∀ u w', K ((b.put oi.dst v).put oj.dst u) w' → YieldsIf P ops S oi v (b.put oj.dst u) ∧ K ((b.put oj.dst u).put oi.dst v) w' := fun b hb u w' hk => ⟨keep b hb u, by rw [← Act.put_comm b v u h2]; exact hk⟩
  unfold wpOpIn at h ⊢
  simp only [hj] at h ⊢
  rw [wanted_put oj a oi.dst v h1] at h
  by_cases hw : Region.wanted oj (yielded ops a.tmps) = true
  · rw [if_pos hw] at h ⊢
    refine ⟨fun _ _ => trivial, ?_⟩
    have h := h.2
    rw [show Fence.wide.round = none from rfl, Oper.semAt_none] at h ⊢
    rw [execOp_put oj hsj a oi.dst v h1] at h
    generalize (execOp a.eval oj).run P w = r at h ⊢
    have hend : ∀ (e : Ending) (w'' : World), (match e, w'' with | .returned u, w'' => K ((a.put oi.dst v).put oj.dst u) w'' | .panicked c, w'' => Q (.panic c) (a.put oi.dst v) w'' | .outgrown, _ => LetsOut Q) →
        (match e, w'' with | .returned u, w'' => YieldsIf P ops S oi v (a.put oj.dst u) ∧ K ((a.put oj.dst u).put oi.dst v) w'' | .panicked c, w'' => Q (.panic c) a w'' | .outgrown, _ => LetsOut Q) := fun e w'' he => by
      cases e with
      | returned u => exact hp a hy u w'' he
      | panicked c => exact hQ _ _ _ he
      | outgrown => exact he
    cases r with
    | ok x w' =>
      cases x <;> simp only [Oper.uponIn] at h ⊢
      case value u => exact hp a hy u w' h
      case skip => exact hp a hy _ w' h
      case defer d =>
        have hd : YieldsIf P ops S oi v { a with defers := d :: a.defers } := hy.of_same rfl rfl
        refine hp { a with defers := d :: a.defers } hd undef w' ?_
        rw [← Act.put_defers]
        exact h
      case enter f args => exact ⟨h.1, h.2.mono hend⟩
      case row row args => exact ⟨h.1, h.2.mono fun u w'' he => hp a hy u w'' he⟩
      case round l f tmps assign body => exact ⟨h.1, h.2.mono hend⟩
    | halt x w' =>
      cases x <;> simp only [Oper.uponIn] at h ⊢
      case panic u => exact hQ _ _ _ h
  · rw [if_neg hw] at h ⊢
    exact ⟨fun _ _ => trivial, hp a hy undef w h.2⟩
def wpAnyW (n : Nat) (P : Program) (md : Region.Mode) (ops : Array Oper) (Q : Exit → Act → World → Prop) (S : World → Prop) (St : List Nat) : Nat → Array Bool → Act → World → Prop
  | 0, listed, a, w => Region.ready md ops listed = [] ∧ Q .normal a w
  | fuel + 1, listed, a, w =>
    (Region.ready md ops listed = [] → Q .normal a w) ∧
    ∀ i ∈ Region.ready md ops listed, wpOpIn Fence.wide n P ops Q i (fun a' w' => Hold S St (listed.setIfInBounds i true) w' ∧ wpAnyW n P md ops Q S St fuel (listed.setIfInBounds i true) a' w') a w
theorem any_of_W : ∀ (fuel : Nat) (listed : Array Bool) (a : Act) (w : World), wpAnyW n P md ops Q S St fuel listed a w → wpAnyIn Fence.wide n P md ops Q fuel listed a w
  | 0, _, _, _, h => h
  | fuel + 1, _, _, _, h => ⟨h.1, fun i hi => wpOpIn_mono (fun a' w' h' => any_of_W fuel _ a' w' h'.2) (h.2 i hi)⟩

theorem wpAnyW_first {i : Nat} {oi : Oper} {v : Value} (hi : ops[i]? = some oi) (hsel : ∀ (j : Nat) (o : Oper) cs b, ops[j]? = some o → o.op ≠ .select cs b)
    (hQ : ∀ c a w, Q (.panic c) (a.put oi.dst v) w → Q (.panic c) a w) (hiS : i ∉ St) (Inv : Array Bool → Prop) (S0 : World → Prop)
    (hInv : ∀ listed j, Inv listed → listed.getD i true = false → j ∈ Region.ready md ops listed → j ≠ i → Inv (listed.setIfInBounds j true))
    (hY : ∀ listed w, Inv listed → Hold S St listed w → S0 w) :
    ∀ (fuel : Nat) (listed : Array Bool) (a : Act) (w : World),
      (∀ j oj, ops[j]? = some oj → j ≠ i → listed.getD j true = false → (∀ e ∈ oj.after, Region.binds md e = true → e.on ≠ i) → oi.apart ops oj = true) →
      i ∈ Region.ready md ops listed → Inv listed → YieldsIf P ops S0 oi v a → Hold S St listed w →
      Hold S St (listed.setIfInBounds i true) w → wpAnyW n P md ops Q S St fuel (listed.setIfInBounds i true) (a.put oi.dst v) w → wpAnyW n P md ops Q S St (fuel + 1) listed a w := by
  intro fuel
  induction fuel with
  | zero =>
    intro listed a w _ hr hv hy hS hSi H
    refine ⟨fun h => (by rw [h] at hr; cases hr), fun j hj => ?_⟩
    by_cases hji : j = i
    · subst hji; exact yields_W hi hy (hY _ _ hv hS) ⟨hSi, H⟩
    · have := ready_mono hj hji
      rw [H.1] at this
      cases this
  | succ fuel ih =>
    intro listed a w hfree hr hv hy hS hSi H
    refine ⟨fun h => (by rw [h] at hr; cases hr), fun j hj => ?_⟩
    by_cases hji : j = i
    · subst hji; exact yields_W hi hy (hY _ _ hv hS) ⟨hSi, H⟩
    · have h1 := H.2 j (ready_mono hj hji)
      obtain ⟨hjun, oj, hoj, hall⟩ := mem_ready.1 hj
      have hnot : ∀ e ∈ oj.after, Region.binds md e = true → e.on ≠ i := fun e he hb heq => by
        have h1 := hall e he hb
        have h0 := (mem_ready.1 hr).1
        rw [heq] at h1
        rcases Nat.lt_or_ge i listed.size with h' | h'
        · simp [h'] at h0 h1; rw [h0] at h1; cases h1
        · simp [Array.getElem?_eq_none h'] at h1
      have h2 := put_W hoj (hfree j oj hoj hji hjun hnot) (fun cs b => hsel i oi cs b hi) (fun cs b => hsel j oj cs b hoj) hQ hy h1
      have hfree' : ∀ k ok, ops[k]? = some ok → k ≠ i → (listed.setIfInBounds j true).getD k true = false →
          (∀ e ∈ ok.after, Region.binds md e = true → e.on ≠ i) → oi.apart ops ok = true := fun k ok hk hki hun hno => by
        refine hfree k ok hk hki ?_ hno
        by_cases hjk : j = k
        · subst hjk; exact hjun
        · rw [getD_set_ne true hjk] at hun; exact hun
      refine wpOpIn_mono (fun a' w' h3 => ?_) h2
      have hh := hold_less hiS h3.2.1
      refine ⟨hh, ih (listed.setIfInBounds j true) a' w' hfree' (ready_mono hr (Ne.symm hji)) (hInv _ _ hv (mem_ready.1 hr).1 hj hji) h3.1 hh ?_ ?_⟩
      · rw [Array.setIfInBounds_comm _ _ hji]
        exact h3.2.1
      · rw [Array.setIfInBounds_comm _ _ hji]
        exact h3.2.2

/-- Number i is taken first: it yields v in whatever world. -/
theorem wpAnyW_pure {i : Nat} {oi : Oper} {v : Value} {fuel : Nat} {listed : Array Bool} {a : Act} {w : World} (hi : ops[i]? = some oi)
    (hs : Region.noSelect ops = true) (hf : Region.free md ops listed i = true) (hr : (Region.ready md ops listed).contains i = true) (hiS : St.contains i = false)
    (hQ : ∀ c a w, Q (.panic c) (a.put oi.dst v) w → Q (.panic c) a w) (hy : YieldsIf P ops (fun _ => True) oi v a) (hS : Hold S St listed w)
    (h : Hold S St (listed.setIfInBounds i true) w → wpAnyW n P md ops Q S St fuel (listed.setIfInBounds i true) (a.put oi.dst v) w) : wpAnyW n P md ops Q S St (fuel + 1) listed a w := by
  have hn : i ∉ St := fun hm => by rw [List.contains_iff_mem.2 hm] at hiS; cases hiS
  have h2 : Hold S St (listed.setIfInBounds i true) w := fun q => hS fun s hm => by have := q s hm; rwa [getD_set_ne true (show i ≠ s from fun e => hn (e ▸ hm))] at this
  exact wpAnyW_first hi (Region.noSelect_spec hs) hQ hn (fun _ => True) (fun _ => True) (fun _ _ _ _ _ _ => trivial) (fun _ _ _ _ => trivial) fuel listed a w (Region.free_spec hi hf) (by simpa using hr) trivial hy hS h2 (h h2)
/-- Number i is taken first: it yields v where S holds, and the stores wait for it. -/
theorem wpAnyW_take {i : Nat} {oi : Oper} {v : Value} {fuel : Nat} {listed : Array Bool} {a : Act} {w : World} (Wt : List Nat) (hi : ops[i]? = some oi)
    (hs : Region.noSelect ops = true) (hf : Region.free md ops listed i = true) (hr : (Region.ready md ops listed).contains i = true) (hiS : St.contains i = false)
    (hW : (Wt.all fun j => ((ops[j]?).map fun o => o.after.any fun e => Region.binds md e && (e.on == i || Wt.contains e.on)) == some true) = true) (hSW : (St.all fun j => Wt.contains j) = true) (hun : (Wt.all fun j => listed.getD j true == false) = true)
    (hQ : ∀ c a w, Q (.panic c) (a.put oi.dst v) w → Q (.panic c) a w) (hy : YieldsIf P ops S oi v a) (hS : Hold S St listed w)
    (h : Hold S St (listed.setIfInBounds i true) w → wpAnyW n P md ops Q S St fuel (listed.setIfInBounds i true) (a.put oi.dst v) w) : wpAnyW n P md ops Q S St (fuel + 1) listed a w := by
  have hn : i ∉ St := fun hm => by rw [List.contains_iff_mem.2 hm] at hiS; cases hiS
  have h2 : Hold S St (listed.setIfInBounds i true) w := fun q => hS fun s hm => by have := q s hm; rwa [getD_set_ne true (show i ≠ s from fun e => hn (e ▸ hm))] at this
  refine wpAnyW_first hi (Region.noSelect_spec hs) hQ hn (fun l => ∀ j ∈ Wt, l.getD j true = false) S ?_ ?_ fuel listed a w (Region.free_spec hi hf) (by simpa using hr) ?_ hy hS h2 (h h2)
  · intro l j hl hil hj hji k hk
    by_cases hjk : j = k
    · subst hjk
      exfalso
      have h1 := List.all_eq_true.1 hW j hk
      rw [beq_iff_eq] at h1
      obtain ⟨o, ho, h3⟩ := Option.map_eq_some_iff.1 h1
      obtain ⟨e, he, h4⟩ := Array.any_eq_true'.1 h3
      rw [Bool.and_eq_true, Bool.or_eq_true] at h4
      obtain ⟨hjun, oj, hoj, hall⟩ := mem_ready.1 hj
      rw [ho] at hoj
      cases hoj
      have h5 := hall e he h4.1
      have h6 : l.getD e.on true = false := by
        rcases h4.2 with q | q
        · rw [beq_iff_eq] at q; rw [q]; exact hil
        · exact hl _ (List.contains_iff_mem.1 q)
      rcases Nat.lt_or_ge e.on l.size with h' | h'
      · simp [h'] at h5 h6; rw [h6] at h5; cases h5
      · simp [Array.getElem?_eq_none h'] at h5
    · rw [getD_set_ne true hjk]; exact hl k hk
  · intro l w' hl hh
    exact hh fun s hm => hl s (List.contains_iff_mem.1 (List.all_eq_true.1 hSW s hm))
  · intro j hj
    have := List.all_eq_true.1 hun j hj
    rwa [beq_iff_eq] at this

def AllReadyW (n : Nat) (P : Program) (md : Region.Mode) (ops : Array Oper) (Q : Exit → Act → World → Prop) (S : World → Prop) (St : List Nat) (fuel : Nat) (listed : Array Bool) (a : Act) (w : World) (rs : List Nat) : Prop :=
  ∀ i ∈ rs, wpOpIn Fence.wide n P ops Q i (fun a' w' => Hold S St (listed.setIfInBounds i true) w' ∧ wpAnyW n P md ops Q S St fuel (listed.setIfInBounds i true) a' w') a w
theorem AllReadyW.nil {fuel : Nat} {listed : Array Bool} {a : Act} {w : World} : AllReadyW n P md ops Q S St fuel listed a w [] := fun _ h => by cases h
theorem AllReadyW.cons {fuel : Nat} {listed : Array Bool} {a : Act} {w : World} {i : Nat} {o : Oper} {rs : List Nat} (ho : ops[i]? = some o)
    (h : ∀ K' : Act → World → Prop, Shut (∀ a w, Hold S St (listed.setIfInBounds i true) w → (Hold S St (listed.setIfInBounds i true) w → wpAnyW n P md ops Q S St fuel (listed.setIfInBounds i true) a w) → K' a w) → if Region.wanted o (yielded ops a.tmps) = true then Oper.wpIn Fence.wide n P o a w K' Q else K' (a.put o.dst undef) w)
    (hs : AllReadyW n P md ops Q S St fuel listed a w rs) : AllReadyW n P md ops Q S St fuel listed a w (i :: rs) := fun j hj => by
  rcases List.mem_cons.1 hj with rfl | hj
  · refine wpOpIn_step ho (fun K' hK => ?_)
    have := h K' (fun a w hS hW => hK a w ⟨hS, hW hS⟩)
    split
    · rename_i hw
      rwa [if_pos hw] at this
    · rename_i hw
      rw [if_neg hw] at this
      exact ⟨fun _ _ => trivial, this⟩
  · exact hs j hj
theorem wpAnyW_ready {rs : List Nat} {fuel : Nat} {listed : Array Bool} {a : Act} {w : World} (hr : Region.ready md ops listed = rs) (hne : rs ≠ [])
    (h : AllReadyW n P md ops Q S St fuel listed a w rs) : wpAnyW n P md ops Q S St (fuel + 1) listed a w := ⟨fun h0 => absurd (hr ▸ h0) hne, hr ▸ h⟩
theorem wpAnyW_done {listed : Array Bool} {a : Act} {w : World} (hr : Region.ready md ops listed = []) (h : Q .normal a w) :
    ∀ fuel, wpAnyW n P md ops Q S St fuel listed a w
  | 0 => ⟨hr, h⟩
  | _ + 1 => ⟨fun _ => h, by rw [hr]; simp⟩
theorem wp_region_W (n : Nat) {id : Nat} {a : Act} {w : World} (hm : P.follows .mixedOrders = true) (hS : S w.drew)
    (h : Hold S St (Array.replicate ops.size false) w.drew → wpAnyW n P .any ops Q S St ops.size (Array.replicate ops.size false) a w.drew) : (Code.region id ops true).wp P Q a w :=
  (wpIn_wide (n := n)).1 (wpIn_region_any hm (any_of_W _ _ _ _ (h fun _ => hS)))
end
end Go.Proofs.Ytmkhobaclpiceaa
