/- Joined texts of the proof. -/
import Derived.Test.YtefklmckkigllaaJ10
import Derived.Test.YtefklmckkigllaaJ1
import Derived.ArgAppend
import Derived.Great.BuildSlice

/- A code written. -/
namespace Go.Proofs.Ytefklmckkigllaa
open Go.RowKit
set_option linter.unusedVariables false

/-- A body's and a code's bytes. -/
def encB (b : Bd) : List UInt8 := encVs b.locals ++ (ub b.stack.toNat :: (bytesOf 2 b.nodes.length ++ b.nodes.flatMap encN))
def encC (c : Cd) : List UInt8 := encVs c.shared ++ (ub c.mutexes.toNat :: ub c.bodies.length :: c.bodies.flatMap encB)
def fitB (b : Bd) : Prop := b.locals.length < 256 ∧ (0 ≤ b.stack ∧ b.stack < 256) ∧ b.nodes.length < 65536 ∧ ∀ n ∈ b.nodes, fitN n
def fitC (c : Cd) : Prop := c.shared.length < 256 ∧ (0 ≤ c.mutexes ∧ c.mutexes < 256) ∧ c.bodies.length < 256 ∧ ∀ b ∈ c.bodies, fitB b
theorem flat_map_nd (l : List NT) : (l.map NT.nd).flatMap encN = l.flatMap fun x => encN x.nd := by rw [List.flatMap_map]
theorem flat_map_bd (l : List BT) : (l.map BT.bd).flatMap encB = l.flatMap fun x => encB x.bd := by rw [List.flatMap_map]
theorem body_box {w1 : World} {gb : Nat} {a1 a2 : Option Addr} {n1 c1 n2 c2 : Nat} {st : Int} (h : At 45 w1 gb [.slice a1 n1 c1, .int .i64 st, .slice a2 n2 c2]) : w1.cell? ⟨gb, 0, none⟩ = some (.slice a1 n1 c1) ∧ w1.cell? ⟨gb, 1, none⟩ = some (.int .i64 st) ∧ w1.cell? ⟨gb, 2, none⟩ = some (.slice a2 n2 c2) := by
  refine ⟨?_, ?_, ?_⟩ <;> (rw [h.cell]; rfl)
theorem code_box {w1 : World} {gb : Nat} {a1 a2 : Option Addr} {n1 c1 n2 c2 : Nat} {st : Int} (h : At 25 w1 gb [.slice a1 n1 c1, .int .i64 st, .slice a2 n2 c2]) : w1.cell? ⟨gb, 0, none⟩ = some (.slice a1 n1 c1) ∧ w1.cell? ⟨gb, 1, none⟩ = some (.int .i64 st) ∧ w1.cell? ⟨gb, 2, none⟩ = some (.slice a2 n2 c2) := by
  refine ⟨?_, ?_, ?_⟩ <;> (rw [h.cell]; rfl)

set_option maxRecDepth 100000 in
set_option maxHeartbeats 6400000 in
theorem codeW_any (B A g : Nat) (v : Value) (out : List UInt8) (x : CT) (hf : fitC x.cd) (w : World) (h : Wt A w g v out) (hx : x.In B w) (hBA : B ≤ A) (hlen : out.length + (encC x.cd).length ≤ 1099511627776) (hAw : A ≤ w.heap.size) :
    Calls Try.prog 35 #[.pointer (some ⟨g, 0, none⟩), .agg x.cells.toArray] w fun e w' => e = .returned (.tuple #[]) ∧ (∃ v', Wt A w' g v' (out ++ encC x.cd)) ∧ Fb A g w w' := by
  obtain ⟨a1, c1, shared, mu, a2, c2, ks⟩ := x
  obtain ⟨qsl, ⟨qm1, qm2⟩, qbl, qfb⟩ := hf
  have hsl : shared.length < 256 := qsl
  have hbl : ks.length < 256 := by have : (ks.map BT.bd).length < 256 := qbl; rwa [List.length_map] at this
  have hm1 : 0 ≤ mu := qm1
  have hm2 : mu < 256 := qm2
  have hfb : ∀ y ∈ ks, fitB y.bd := fun y hy => qfb y.bd (List.mem_map_of_mem hy)
  clear qsl qm1 qm2 qbl qfb
  obtain ⟨mu, rfl⟩ : ∃ k : Nat, mu = (k : Int) := ⟨mu.toNat, by omega⟩
  have hmu : mu < 256 := by omega
  clear hm1 hm2
  have hlow := h.low
  have hgw : w.heap.size ≠ g := by have := h.lt; omega
  have hr : RowBT B w a2 c2 ks := hx.2.2
  have hrs : RowVl B w a1 c1 shared := hx.1
  have hcap : ks.length ≤ c2 := hr.2.1
  obtain ⟨n, hn⟩ : ∃ n, Hid (n = ks.length) := ⟨_, (rfl : ks.length = _)⟩
  have hEq : encC (CT.cd ⟨a1, c1, shared, (mu : Int), a2, c2, ks⟩) = encVs shared ++ (ub mu :: ub n :: ks.flatMap fun x => encB x.bd) := by
    show encVs shared ++ (ub mu :: ub (ks.map BT.bd).length :: (ks.map BT.bd).flatMap encB) = _
    rw [List.length_map, flat_map_bd, hn.out]
  rw [hEq] at hlen ⊢
  have HL : Hid (out.length + (encVs shared).length + 2 + (ks.flatMap fun x => encB x.bd).length ≤ 1099511627776) := by
    simp only [List.length_append, List.length_cons] at hlen
    show _ ≤ _
    omega
  simp only [CT.cells]
  rw [← hn.out] at hbl hcap ⊢
  have HR : Hid (RowBT B w a2 c2 ks ∧ RowVl B w a1 c1 shared) := ⟨hr, hrs⟩
  have HFB : Hid (∀ y ∈ ks, fitB y.bd) := hfb
  have HW : Hid (Wt A w g v out) := h
  have HVS : Hid (∀ (u : World) v' P (l : List Vl) a c, l.length < 256 → Wt A u g v' P → RowVl B u a c l → P.length + (encVs l).length ≤ 1099511627776 → A ≤ u.heap.size → Calls Try.prog 58 #[.pointer (some ⟨g, 0, none⟩), .slice a l.length c] u fun e w' => e = .returned (.tuple #[]) ∧ (∃ v', Wt A w' g v' (P ++ encVs l)) ∧ Fb A g u w') := fun u v' P l a c hl hu hr hle hA => valsW_any B A g v' P l hl a c u hu hr hBA hle hA
  clear h hr hrs hEq hlen hfb hx
  go_enter Try.func35, Try.ntmps35
  go_wp2_with (first
    | ((with_reducible show wpList _ _ _ _ _ _); refine wpList_box_at rfl 25 (.tmp 1) rfl [.slice a1 shared.length c1, .int .i64 (mu : Int), .slice a2 n c2] rfl ?_; intro w1 hA1 hb1 hs1; clear hs1; refine Hid.out ?_))
  refine hidU ?_
  have hW1 := HW.out.below hb1
  have hs1 := hb1.size
  obtain ⟨c0, -, -⟩ := code_box hA1
  clear HW
  go_wp2_with (first
    | (go_at_call 58; refine (HVS.out _ _ _ _ _ _ hsl hW1 (RowVl.old HR.out.2 (Old.of_below hb1 (by omega))) (by have := HL.out; omega) (by omega)).mono ?_; rintro _ w2 ⟨rfl, ⟨v2, hW2⟩, hF2⟩; refine Hid.out ?_))
  refine hidU ?_
  have hA2 := hF2.at hA1 hgw (by decide)
  have hFw2 : Fb A g w w2 := (Fb.of_below hb1).trans hF2
  have hs2 := hF2.size
  clear c0 hA1 hW1 hb1 hF2
  obtain ⟨-, c0, -⟩ := code_box hA2
  go_wp2_with (first
    | (go_at_call 59; refine (small_any A g v2 _ mu hmu _ hW2 (by have := HL.out; simp only [List.length_append]; omega) (by omega)).mono ?_; rintro _ w3 ⟨rfl, ⟨v3, hW3⟩, hF3⟩; refine Hid.out ?_))
  refine hidU ?_
  have hA3 := hF3.at hA2 hgw (by decide)
  have hFw3 := hFw2.trans hF3
  have hs3 := hF3.size
  clear c0 hA2 hW2 hFw2 hF3
  obtain ⟨-, -, c0⟩ := code_box hA3
  go_wp2_with (first
    | (go_at_call 59; refine (small_any A g v3 _ n hbl _ hW3 (by have := HL.out; simp only [List.length_append, List.length_singleton]; omega) (by omega)).mono ?_; rintro _ w4 ⟨rfl, ⟨v4, hW4⟩, hF4⟩; refine Hid.out ?_))
  refine hidU ?_
  have hA4 := hF4.at hA3 hgw (by decide)
  have hFw4 := hFw3.trans hF4
  have hs4 := hF4.size
  clear c0 hA3 hW3 hFw3 hF4
  obtain ⟨-, -, c0⟩ := code_box hA4
  obtain ⟨O, hO⟩ : ∃ O, Hid (O = out ++ encVs shared ++ [ub mu] ++ [ub n]) := ⟨_, (rfl : _ = out ++ encVs shared ++ [ub mu] ++ [ub n])⟩
  have HOl : Hid (O.length + (ks.flatMap fun x => encB x.bd).length ≤ 1099511627776) := by
    have := HL.out
    rw [hO.out]
    simp only [List.length_append, List.length_singleton]
    show _ ≤ _
    omega
  rw [← hO.out] at hW4
  have HW4 : Hid (Wt A w4 g v4 O ∧ Fb A g w w4) := ⟨hW4, hFw4⟩
  clear hW4 hFw4 hA4 HL
  go_wp2_with fail
  clear c0
  go_loopw [24] (fun j wr => ∃ i : Nat, j = .int .i64 (i : Int) ∧ i ≤ n ∧ Hid ((∃ v', Wt A wr g v' (O ++ (ks.take i).flatMap fun x => encB x.bd)) ∧ Fb A g w wr)) (fun j _ => n - (intOf j).toNat)
  case atStart => exact ⟨0, rfl, by omega, ⟨v4, by simpa using HW4.out.1⟩, HW4.out.2⟩
  case round =>
    obtain ⟨i, rfl, hi, hX⟩ := hrel
    obtain ⟨wo, hwo⟩ : ∃ x, x = wr := ⟨_, rfl⟩
    subst hwo
    by_cases hc : i < n
    · obtain ⟨s, hs⟩ : ∃ k, ks[i]? = some k := ⟨ks[i]'(by rw [← hn.out]; exact hc), by rw [List.getElem?_eq_getElem]⟩
      obtain ⟨⟨v5, hWr⟩, hFr⟩ := hX.out
      obtain ⟨g1, o1, rfl, hlt, hr1, hin⟩ := (RowBT.old HR.out.1 (hFr.old hlow hAw hBA)).at i s hs
      obtain ⟨q1, ⟨q2, q3⟩, q4, q5⟩ := HFB.out s (List.mem_of_getElem? hs)
      have hst := flat_step_le (fun x : BT => encB x.bd) ks i s hs
      have htk := flat_take (fun x : BT => encB x.bd) ks i s hs
      have hgr : wo.heap.size ≠ g := by have := hWr.lt; omega
      have hAr : A ≤ wo.heap.size := Nat.le_trans hAw hFr.size
      have hone := s.one
      obtain ⟨b1, d1, ls, stk, b2, d2, ns⟩ := s
      have hf1 : ls.length < 256 := q1
      have hf2 : 0 ≤ stk := q2
      have hf3 : stk < 256 := q3
      have hf4 : ns.length < 65536 := by have : (ns.map NT.nd).length < 65536 := q4; rwa [List.length_map] at this
      have hf5 : ∀ y ∈ ns, fitN y.nd := fun y hy => q5 y.nd (List.mem_map_of_mem hy)
      clear q1 q2 q3 q4 q5
      obtain ⟨stk, rfl⟩ : ∃ k : Nat, stk = (k : Int) := ⟨stk.toNat, by omega⟩
      have hstk : stk < 256 := by omega
      clear hf2 hf3
      obtain ⟨m, hm⟩ : ∃ m, Hid (m = ns.length) := ⟨_, (rfl : ns.length = _)⟩
      have hEb : encB (BT.bd ⟨b1, d1, ls, (stk : Int), b2, d2, ns⟩) = encVs ls ++ (ub stk :: (bytesOf 2 m ++ ns.flatMap fun x => encN x.nd)) := by
        show encVs ls ++ (ub stk :: (bytesOf 2 (ns.map NT.nd).length ++ (ns.map NT.nd).flatMap encN)) = _
        rw [List.length_map, flat_map_nd, hm.out]
      rw [hEb] at hst htk
      have hmc : ns.length ≤ d2 := hin.2.2.2.1
      rw [← hm.out] at hf4 hmc
      obtain ⟨P, hP⟩ : ∃ P, Hid (P = O ++ (ks.take i).flatMap fun x => encB x.bd) := ⟨_, (rfl : _ = O ++ (ks.take i).flatMap fun x => encB x.bd)⟩
      have HPl : Hid (P.length + (encVs ls).length + 3 + (ns.flatMap fun x => encN x.nd).length ≤ 1099511627776) := by
        have := HOl.out
        rw [hP.out]
        simp only [List.length_append, List.length_cons, bytesOf_length] at hst ⊢
        show _ ≤ _
        omega
      rw [← hP.out] at hWr
      have HRel : Hid (∀ u v', Wt A u g v' (P ++ encVs ls ++ [ub stk] ++ bytesOf 2 m ++ ns.flatMap fun x => encN x.nd) → Fb A g w u → (∃ v', Wt A u g v' (O ++ (ks.take (i + 1)).flatMap fun x => encB x.bd)) ∧ Fb A g w u) := fun u v' h1 h2 => ⟨⟨v', by
        rw [htk, ← List.append_assoc, ← hP.out]
        simp only [List.append_assoc, List.cons_append, List.nil_append] at h1 ⊢
        exact h1⟩, h2⟩
      have HN : Hid (RowNT B wo b2 d2 ns ∧ RowVl B wo b1 d1 ls ∧ ∀ y ∈ ns, fitN y.nd) := ⟨hin.2.2, hin.1, hf5⟩
      have HWr : Hid (Wt A wo g v5 P ∧ Fb A g w wo) := ⟨hWr, hFr⟩
      have hls : (BT.cells ⟨b1, d1, ls, (stk : Int), b2, d2, ns⟩).length = 3 := rfl
      simp only [BT.cells] at hr1 hone hls
      rw [← hm.out] at hr1 hone hls
      clear hX hWr hFr htk hst hin HR hP hf5 hEb hs HFB HOl
      go_wp2_with (first
        | ((with_reducible show wpList _ _ _ _ _ _); refine wpList_load_mid (P := Try.prog) rfl 45 (.tmp 26) rfl g1 (o1 + i * 3) (by first | rfl | (simp; done)) [.slice b1 ls.length d1, .int .i64 (stk : Int), .slice b2 m d2] _ hr1 Try.underlying45 rfl (by rw [hls]; exact i45) ?_)
        | ((with_reducible show wpList _ _ _ _ _ _); refine wpList_alloc_at rfl 45 rfl _ 3 z45 ?_; intro y2 yA2 yb2 ys2)
        | ((with_reducible show wpList _ _ _ _ _ _); refine wpList_store_at (P := Try.prog) rfl 45 (.tmp 5) (.tmp 27) rfl wo.heap.size [.slice b1 ls.length d1, .int .i64 (stk : Int), .slice b2 m d2] rfl rfl 45 _ yA2 (by rw [hls]; exact i45) (by rw [hls]; rfl) hone ?_; intro y3 yA3 yb3 ys3; refine Hid.out ?_))
      refine hidU ?_
      have yB3 : Below wo.heap.size wo y3 := yb3.below yb2 (Nat.le_refl _) (by omega)
      have yz3 := yB3.size
      clear yb3 yb2 yA2 ys2 ys3
      have hW3 := HWr.out.1.below yB3
      have hF3 : Fb A g wo y3 := Fb.of_below yB3
      obtain ⟨e0, -, -⟩ := body_box yA3
      clear hr1 hone yB3
      go_wp2_with (first
        | (go_at_call 58; refine (HVS.out _ _ _ _ _ _ hf1 hW3 (RowVl.old HN.out.2.1 (hF3.old hlow hAr hBA)) (by have := HPl.out; omega) (by omega)).mono ?_; rintro _ w6 ⟨rfl, ⟨v6, hW6⟩, hF6⟩; refine Hid.out ?_))
      refine hidU ?_
      have hA6 := hF6.at yA3 hgr (by decide)
      have hF36 := hF3.trans hF6
      have hs6 := hF6.size
      clear e0 yA3 hW3 hF3 hF6
      obtain ⟨-, e0, -⟩ := body_box hA6
      go_wp2_with (first
        | (go_at_call 59; refine (small_any A g v6 _ stk hstk _ hW6 (by have := HPl.out; simp only [List.length_append]; omega) (by omega)).mono ?_; rintro _ w7 ⟨rfl, ⟨v7, hW7⟩, hF7⟩; refine Hid.out ?_))
      refine hidU ?_
      have hA7 := hF7.at hA6 hgr (by decide)
      have hF37 := hF36.trans hF7
      have hs7 := hF7.size
      clear e0 hA6 hW6 hF36 hF7
      obtain ⟨-, -, e0⟩ := body_box hA7
      go_wp2_with (first
        | (go_at_call 60; refine (big_any A g v7 _ m hf4 _ hW7 (by have := HPl.out; simp only [List.length_append, List.length_singleton]; omega) (by omega)).mono ?_; rintro _ w8 ⟨rfl, ⟨v8, hW8⟩, hF8⟩; refine Hid.out ?_))
      refine hidU ?_
      have hA8 := hF8.at hA7 hgr (by decide)
      have hF38 := hF37.trans hF8
      have hs8 := hF8.size
      clear e0 hA7 hW7 hF37 hF8
      obtain ⟨-, -, e0⟩ := body_box hA8
      obtain ⟨Z, hZ⟩ : ∃ Z, Hid (Z = P ++ encVs ls ++ [ub stk] ++ bytesOf 2 m) := ⟨_, (rfl : _ = P ++ encVs ls ++ [ub stk] ++ bytesOf 2 m)⟩
      have HZl : Hid (Z.length + (ns.flatMap fun x => encN x.nd).length ≤ 1099511627776) := by
        have := HPl.out
        rw [hZ.out]
        simp only [List.length_append, List.length_singleton, bytesOf_length]
        show _ ≤ _
        omega
      rw [← hZ.out] at hW8
      have HRel : Hid (∀ u v', Wt A u g v' (Z ++ ns.flatMap fun x => encN x.nd) → Fb A g w u → (∃ v', Wt A u g v' (O ++ (ks.take (i + 1)).flatMap fun x => encB x.bd)) ∧ Fb A g w u) := by rw [hZ.out]; exact HRel
      have HW8 : Hid (Wt A w8 g v8 Z ∧ Fb A g wo w8) := ⟨hW8, hF38⟩
      clear hZ hW8 hF38 hA8 HPl
      go_wp2_with fail
      clear e0
      go_loopw [44] (fun j wr => ∃ q : Nat, j = .int .i64 (q : Int) ∧ q ≤ m ∧ Hid ((∃ v', Wt A wr g v' (Z ++ (ns.take q).flatMap fun x => encN x.nd)) ∧ Fb A g wo wr)) (fun j _ => m - (intOf j).toNat)
      case atStart => exact ⟨0, rfl, by omega, ⟨v8, by simpa using HW8.out.1⟩, HW8.out.2⟩
      case round =>
        obtain ⟨q, rfl, hq, hY⟩ := hrel
        by_cases hcq : q < m
        · obtain ⟨t, ht⟩ : ∃ k, ns[q]? = some k := ⟨ns[q]'(by rw [← hm.out]; exact hcq), by rw [List.getElem?_eq_getElem]⟩
          obtain ⟨⟨v9, hWs⟩, hFs⟩ := hY.out
          obtain ⟨g2, o2, rfl, hlt2, hr2, hin2⟩ := (RowNT.old HN.out.1 (hFs.old hlow hAr hBA)).at q t ht
          have hfN := HN.out.2.2 t (List.mem_of_getElem? ht)
          have hst := flat_step_le (fun x : NT => encN x.nd) ns q t ht
          have htk := flat_take (fun x : NT => encN x.nd) ns q t ht
          have hgs : wr.heap.size ≠ g := by have := hWs.lt; omega
          have hAs : A ≤ wr.heap.size := Nat.le_trans hAr hFs.size
          have hone := t.one
          have hls2 : t.cells.length = 5 := rfl
          have hl9 : (Z ++ (ns.take q).flatMap fun x => encN x.nd).length + (encN t.nd).length ≤ 1099511627776 := by have := HZl.out; rw [List.length_append]; omega
          have HNd : Hid (∀ u v', Wt A u g v' (Z ++ (ns.take q).flatMap fun x => encN x.nd) → Fb A g wr u → Calls Try.prog 61 #[.pointer (some ⟨g, 0, none⟩), .agg t.cells.toArray] u fun e w' => e = .returned (.tuple #[]) ∧ (∃ v', Wt A w' g v' ((Z ++ (ns.take q).flatMap fun x => encN x.nd) ++ encN t.nd)) ∧ Fb A g u w') := fun u v' hu hFu => nodeW_any B A g v' _ t hfN u hu (hin2.old (hFu.old hlow hAs hBA)) hBA hl9 (Nat.le_trans hAs hFu.size)
          have HTk : Hid (((ns.take (q + 1)).flatMap fun x => encN x.nd) = ((ns.take q).flatMap fun x => encN x.nd) ++ encN t.nd) := htk
          have HWs : Hid (Wt A wr g v9 (Z ++ (ns.take q).flatMap fun x => encN x.nd) ∧ Fb A g wo wr) := ⟨hWs, hFs⟩
          clear hY hWs hFs hst htk hin2 hfN ht hl9 HN HZl
          generalize t.cells = tcs at *
          go_wp2_with (first
            | ((with_reducible show wpList _ _ _ _ _ _); refine wpList_load_mid (P := Try.prog) rfl 49 (.tmp 46) rfl g2 (o2 + q * 5) (by first | rfl | (simp; done)) tcs _ hr2 Try.underlying49 rfl (by rw [hls2]; exact i49) ?_)
            | ((with_reducible show wpList _ _ _ _ _ _); refine wpList_alloc_at rfl 49 rfl _ 5 z49 ?_; intro x2 xA2 xb2 xs2)
            | ((with_reducible show wpList _ _ _ _ _ _); refine wpList_store_at (P := Try.prog) rfl 49 (.tmp 7) (.tmp 47) rfl wr.heap.size tcs rfl rfl 49 _ xA2 (by rw [hls2]; exact i49) (by rw [hls2]; rfl) hone ?_; intro x3 xA3 xb3 xs3; refine Hid.out ?_))
          refine hidU ?_
          have xB3 : Below wr.heap.size wr x3 := xb3.below xb2 (Nat.le_refl _) (by omega)
          have xz3 := xB3.size
          clear xb3 xb2 xA2 xs2 xs3
          have hW3 := HWs.out.1.below xB3
          have hF3 : Fb A g wr x3 := Fb.of_below xB3
          clear hr2 hone xB3
          go_wp2_with (first
            | ((with_reducible show wpList _ _ _ _ _ _); refine wpList_load_at (P := Try.prog) rfl 49 (.tmp 7) rfl wr.heap.size rfl 49 tcs xA3 _ Try.underlying49 rfl (by rw [hls2]; exact i49) ?_)
            | (go_at_call 61; refine (HNd.out _ _ hW3 hF3).mono ?_; rintro _ x4 ⟨rfl, ⟨y4, hW4⟩, hF4⟩; refine Hid.out ?_))
          refine hidU ?_
          have HX4 : Hid (Wt A x4 g y4 ((Z ++ (ns.take q).flatMap fun x => encN x.nd) ++ encN t.nd) ∧ Fb A g wo x4) := ⟨hW4, (HWs.out.2.trans hF3).trans hF4⟩
          clear hW4 hF4 hF3 hW3 xA3 HNd HWs
          go_wp2
          go_roundw
          case rel => exact ⟨q + 1, by go_num, by omega, ⟨y4, by rw [HTk.out, ← List.append_assoc]; exact HX4.out.1⟩, HX4.out.2⟩
          case measure => simp [intOf]; omega
        · have hqm : q = m := by omega
          have HFin : Hid ((∃ v', Wt A wr g v' (O ++ (ks.take (i + 1)).flatMap fun x => encB x.bd)) ∧ Fb A g w wr) := by
            have := hY.out
            rw [hqm, hm.out, List.take_length] at this
            obtain ⟨⟨v', h1⟩, h2⟩ := this
            exact HRel.out wr v' h1 (HWr.out.2.trans h2)
          clear hY HN HZl HRel
          go_wp2
          go_roundw
          case rel => exact ⟨i + 1, by go_num, by omega, HFin.out⟩
          case measure => simp [intOf]; omega
    · have hin : i = n := by omega
      have HX : Hid ((∃ v', Wt A wo g v' (out ++ (encVs shared ++ (ub mu :: ub n :: ks.flatMap fun x => encB x.bd)))) ∧ Fb A g w wo) := by
        have := hX.out
        rw [hin, hn.out, List.take_length, hO.out] at this
        obtain ⟨⟨v', h1⟩, h2⟩ := this
        exact ⟨⟨v', by simp only [List.append_assoc, List.cons_append, List.nil_append] at h1 ⊢; exact h1⟩, h2⟩
      clear hX HR HFB HOl
      go_wp2
      go_end0
      exact ⟨rfl, HX.out⟩

end Go.Proofs.Ytefklmckkigllaa

/- Bytes: a code that may be has room in its bytes. -/
namespace Go.Proofs.Ytefklmckkigllaa
open Go.RowKit
set_option linter.unusedVariables false

theorem isP_iff {z m : Int} : isP z m = true ↔ 0 ≤ z ∧ z < m := by unfold isP; rw [Bool.and_eq_true, decide_eq_true_iff, decide_eq_true_iff]
theorem mayI_arg {nl ns : Nat} {x : Ir} (h : mayI nl ns x = true) (h1 : nl ≤ 256) (h2 : ns ≤ 256) : 0 ≤ x.arg ∧ x.arg < 256 := by
  unfold mayI at h
  split at h
  · rw [Bool.and_eq_true, decide_eq_true_iff] at h; omega
  · split at h
    · rw [Bool.and_eq_true, isP_iff] at h; omega
    · split at h
      · rw [Bool.and_eq_true, isP_iff] at h; omega
      · rw [Bool.and_eq_true, Bool.and_eq_true, Bool.and_eq_true, decide_eq_true_iff, decide_eq_true_iff, decide_eq_true_iff] at h; omega
theorem mayA_arg {nl ns : Nat} {mu : Int} {x : Nd} (h : mayA nl ns mu x = true) (h1 : nl ≤ 256) (h2 : ns ≤ 256) (h3 : mu ≤ 256) : (0 ≤ x.arg ∧ x.arg < 256) ∧ (0 ≤ x.kind ∧ x.kind < 256) := by
  unfold mayA at h
  split at h
  · rw [isP_iff] at h; omega
  · split at h
    · rw [isP_iff] at h; omega
    · split at h
      · rw [isP_iff] at h; omega
      · split at h
        · rw [decide_eq_true_iff] at h; omega
        · cases h
theorem mayL_alt {nn : Nat} {x : Nd} (h : mayL nn x = true) (h1 : nn < 65535) : 0 ≤ x.alt ∧ x.alt < 65536 := by
  unfold mayL at h
  rw [Bool.or_eq_true, Bool.and_eq_true, decide_eq_true_iff, isP_iff] at h
  omega

theorem check_zero {c : Cd} (h : checkC c = 0) : longC c = false ∧ partC c = false ∧ typeC c = false ∧ touchC c = false := by
  unfold checkC at h
  split at h
  · cases h
  · split at h
    · cases h
    · split at h
      · cases h
      · split at h
        · cases h
        · rename_i h1 h2 h3 h4
          exact ⟨by simpa using h1, by simpa using h2, by simpa using h3, by simpa using h4⟩

/-- How long a code that is not too long may be. -/
def Small (c : Cd) : Prop := c.bodies.length ≤ 16 ∧ c.shared.length ≤ 32 ∧ ∀ b ∈ c.bodies, b.locals.length ≤ 16 ∧ b.nodes.length ≤ 1024 ∧ ∀ n ∈ b.nodes, n.code.length ≤ 8192
theorem small_of {c : Cd} (h : longC c = false) : Small c := by
  unfold longC at h
  simp only [Bool.or_eq_false_iff, decide_eq_false_iff_not] at h
  obtain ⟨_, h1, h2, h3⟩ := h
  refine ⟨by omega, by omega, fun b hb => ?_⟩
  have hb := List.any_eq_false.1 h3 b hb
  have hb : longB b = false := by simpa using hb
  unfold longB at hb
  simp only [Bool.or_eq_false_iff, decide_eq_false_iff_not] at hb
  refine ⟨by omega, by omega, fun n hn => ?_⟩
  have hn := List.any_eq_false.1 hb.2.2 n hn
  unfold longN at hn
  simp at hn
  omega
/-- Values and instructions as cells hold them. -/
def OkC (c : Cd) : Prop := (∀ v ∈ c.shared, v.Ok) ∧ ∀ b ∈ c.bodies, (∀ v ∈ b.locals, v.Ok) ∧ ∀ n ∈ b.nodes, ∀ x ∈ n.code, x.Ok
theorem ok_of {B : Nat} {w : World} {x : CT} (h : x.In B w) : OkC x.cd := by
  refine ⟨RowG.all h.1, fun b hb => ?_⟩
  obtain ⟨y, hy, rfl⟩ := List.mem_map.1 hb
  have hI : y.In B w := RowG.all h.2.2 y hy
  refine ⟨RowG.all hI.1, fun n hn => ?_⟩
  obtain ⟨z, hz, rfl⟩ := List.mem_map.1 hn
  have hN : z.In B w := RowG.all hI.2.2 z hz
  exact RowG.all hN.1
theorem fit_of {c : Cd} (h : checkC c = 0) (hok : OkC c) : fitC c := by
  obtain ⟨h1, h2, -, -⟩ := check_zero h
  obtain ⟨s1, s2, s3⟩ := small_of h1
  unfold partC at h2
  rw [Bool.or_eq_false_iff, Bool.or_eq_false_iff] at h2
  obtain ⟨m1, m2, m3⟩ := h2
  have m1 : isP c.mutexes 17 = true := by simpa using m1
  have m3 : c.bodies.all (mayB c.shared.length c.mutexes) = true := by simpa using m3
  rw [isP_iff] at m1
  refine ⟨by omega, by omega, by omega, fun b hb => ?_⟩
  obtain ⟨t1, t2, t3⟩ := s3 b hb
  have mb := List.all_eq_true.1 m3 b hb
  unfold mayB at mb
  rw [Bool.and_eq_true, Bool.and_eq_true, isP_iff] at mb
  obtain ⟨_, mb2, mb3⟩ := mb
  refine ⟨by omega, by omega, by omega, fun n hn => ?_⟩
  have mn := List.all_eq_true.1 mb3 n hn
  unfold mayN at mn
  rw [Bool.and_eq_true, Bool.and_eq_true, Bool.and_eq_true, isP_iff] at mn
  obtain ⟨n1, n2, n3, n4⟩ := mn
  have hcl := t3 n hn
  refine ⟨by omega, fun x hx => ⟨(hok.2 b hb).2 n hn x hx, mayI_arg (List.all_eq_true.1 n1 x hx) (by omega) (by omega)⟩, (mayA_arg n2 (by omega) (by omega) (by omega)).2, (mayA_arg n2 (by omega) (by omega) (by omega)).1, by omega, mayL_alt n3 (by omega)⟩
theorem encN_len (n : Nd) (h : n.code.length ≤ 8192) : (encN n).length ≤ 90120 := by
  have := flat_len encI 11 n.code fun x _ => encI_len x
  unfold encN
  simp only [List.length_append, List.length_cons, bytesOf_length]
  omega
theorem encB_len (b : Bd) (h1 : b.locals.length ≤ 16) (h2 : b.nodes.length ≤ 1024) (h3 : ∀ n ∈ b.nodes, n.code.length ≤ 8192) : (encB b).length ≤ 92283148 := by
  have k1 := encVs_len b.locals
  have k2 := flat_len encN 90120 b.nodes fun n hn => encN_len n (h3 n hn)
  unfold encB
  simp only [List.length_append, List.length_cons, bytesOf_length]
  omega
theorem encC_len {c : Cd} (h : Small c) : (encC c).length ≤ 1476530700 := by
  obtain ⟨s1, s2, s3⟩ := h
  have k1 := encVs_len c.shared
  have k2 := flat_len encB 92283148 c.bodies fun b hb => encB_len b (s3 b hb).1 (s3 b hb).2.1 (s3 b hb).2.2
  unfold encC
  simp only [List.length_append, List.length_cons]
  omega

set_option maxRecDepth 100000 in
set_option maxHeartbeats 3200000 in
theorem bytesC_any (B : Nat) (x : CT) (w : World) (hx : x.In B w) (hB : B ≤ w.heap.size) :
    Calls Try.prog 16 #[.agg x.cells.toArray] w fun e w' => ((checkC x.cd ≠ 0 ∧ e = .returned (.tuple #[.slice none 0 0, .int .i64 (checkC x.cd : Int)])) ∨ (checkC x.cd = 0 ∧ ∃ v, e = .returned (.tuple #[v, .int .i64 0]) ∧ Own w.heap.size w' v (encC x.cd))) ∧ Below w.heap.size w w' := by
  have Q1 : Hid (∀ u, Below w.heap.size w u → Calls Try.prog 14 #[.agg x.cells.toArray] u fun e w' => e = .returned (.int .i64 (checkC x.cd : Int)) ∧ Below u.heap.size u w') := fun u hu => check_any B x u (hx.old (Old.of_below hu hB)) (by have := hu.size; omega)
  have Q2 : Hid (∀ u g v, checkC x.cd = 0 → Wt w.heap.size u g v [] → Below w.heap.size w u → Calls Try.prog 35 #[.pointer (some ⟨g, 0, none⟩), .agg x.cells.toArray] u fun e w' => e = .returned (.tuple #[]) ∧ (∃ v', Wt w.heap.size w' g v' (encC x.cd)) ∧ Fb w.heap.size g u w') := fun u g v hc hW hu => codeW_any B w.heap.size g v [] x (fit_of hc (ok_of hx)) u hW (hx.old (Old.of_below hu hB)) hB (by have := encC_len (small_of (check_zero hc).1); simp only [List.length_nil]; omega) hu.size
  have hlen : x.cells.length = 3 := rfl
  have hone := x.one
  generalize encC x.cd = E at *
  generalize checkC x.cd = k at *
  generalize x.cells = cs at *
  clear hx
  have hi : (Try.prog.info? 25).map (·.size) = some cs.length := by rw [hlen]; exact i25
  by_cases hk : k = 0
  · subst hk
    have Q2b : Hid (∀ u g v, Wt w.heap.size u g v [] → Below w.heap.size w u → Calls Try.prog 35 #[.pointer (some ⟨g, 0, none⟩), .agg cs.toArray] u fun e w' => e = .returned (.tuple #[]) ∧ (∃ v', Wt w.heap.size w' g v' E) ∧ Fb w.heap.size g u w') := fun u g v => Q2.out u g v rfl
    clear Q2
    have HP : Hid (∀ (e : Ending) (w' : World) (v : Value), e = .returned (.tuple #[v, .int .i64 0]) → Own w.heap.size w' v E → Below w.heap.size w w' → (((0 : Nat) ≠ 0 ∧ e = .returned (.tuple #[.slice none 0 0, .int .i64 ((0 : Nat) : Int)])) ∨ ((0 : Nat) = 0 ∧ ∃ v, e = .returned (.tuple #[v, .int .i64 0]) ∧ Own w.heap.size w' v E)) ∧ Below w.heap.size w w') := fun e w' v h1 h2 h3 => ⟨.inr ⟨rfl, v, h1, h2⟩, h3⟩
    go_enter Try.func16, Try.ntmps16
    go_wp2_with (first
      | ((with_reducible show wpList _ _ _ _ _ _); refine wpList_box_at rfl 25 (.tmp 0) rfl cs rfl ?_; intro w1 hA1 hb1 hs1; clear hs1; refine Hid.out ?_))
    refine hidU ?_
    go_wp2_with (first
      | ((with_reducible show wpList _ _ _ _ _ _); refine wpList_load_at (P := Try.prog) rfl 25 (.tmp 1) rfl w.heap.size rfl 25 cs (by first | exact hA1 | exact hA3) _ Try.underlying25 rfl hi ?_)
      | (go_at_call 14; refine (Q1.out _ hb1).mono ?_; rintro r w2 ⟨rfl, hb2⟩; have hA2 := hA1.below hb2; have hb12 := hb1.trans (hb2.mono hb1.size); clear hA1 hb2)
      | ((with_reducible show wpList _ _ _ _ _ _); refine wpList_build_at rfl 73 _ rfl [.slice none 0 0] (by kernel_rfl) ?_)
      | ((with_reducible show wpList _ _ _ _ _ _); refine wpList_box_at rfl 73 (.tmp 11) rfl [.slice none 0 0] rfl ?_; intro w3 hB3 hb3 hs3; clear hs3; have hA3 := hA2.below hb3; have hb13 := hb12.trans (hb3.mono hb12.size); have hW3 : Wt w.heap.size w3 w2.heap.size (.slice none 0 0) [] := ⟨hB3, Own.nil _ _, hb12.size⟩; clear hB3 hA2)
      | (go_at_call 35; refine (Q2b.out _ _ _ hW3 hb13).mono ?_; rintro _ w4 ⟨rfl, ⟨v4, hW4⟩, hF4⟩; refine Hid.out ?_))
    refine hidU ?_
    have q4 : w4.cell? ⟨w2.heap.size, 0, none⟩ = some v4 := by rw [hW4.cell.cell]; rfl
    have hB4 : Below w.heap.size w w4 := hb13.trans (hF4.below hb12.size hb13.size)
    have HO : Hid (Own w.heap.size w4 v4 E) := hW4.own
    clear hW4 hF4 hW3 hA3 hb3 Q1 Q2b
    go_wp2
    go_ret2
    exact HP.out _ _ v4 rfl HO.out hB4
  · have hk' : ((k : Int) != 0) = true := by rw [bne_iff_ne]; omega
    have HK : Hid (k ≠ 0) := hk
    clear hk Q2
    go_enter Try.func16, Try.ntmps16
    go_wp2_with (first
      | ((with_reducible show wpList _ _ _ _ _ _); refine wpList_box_at rfl 25 (.tmp 0) rfl cs rfl ?_; intro w1 hA1 hb1 hs1; clear hs1; refine Hid.out ?_))
    refine hidU ?_
    go_wp2_with (first
      | ((with_reducible show wpList _ _ _ _ _ _); refine wpList_load_at (P := Try.prog) rfl 25 (.tmp 1) rfl w.heap.size rfl 25 cs hA1 _ Try.underlying25 rfl hi ?_)
      | (go_at_call 14; refine (Q1.out _ hb1).mono ?_; rintro r w2 ⟨rfl, hb2⟩))
    go_ret2
    exact ⟨.inl ⟨HK.out, rfl⟩, hb1.trans (hb2.mono hb1.size)⟩
end Go.Proofs.Ytefklmckkigllaa

/- octet.Number and the document's own Number: what they hand back. -/
namespace Go.Proofs.Ytefklmckkigllaa
open Go.RowKit
set_option linter.unusedVariables false

/-- The number whose bytes these are. -/
def number (bs : List UInt8) : Nat := bs.foldl (fun n b => n * 256 + b.toNat) 0

end Go.Proofs.Ytefklmckkigllaa

/- The reader: numbers, values. -/
namespace Go.Proofs.Ytefklmckkigllaa
open Go.RowKit
set_option linter.unusedVariables false

/-- What a reader has ahead, and whether it is bad. -/
abbrev St := List UInt8 × Bool

/-- A reader in memory. -/
structure RrAt (B : Nat) (w : World) (g : Nat) (a : Option Addr) (c : Nat) (st : St) : Prop where
  cell : At 69 w g [.slice a st.1.length c, .bool st.2]
  row : st.1 = [] ∨ ∃ b off, a = some ⟨b, off, none⟩ ∧ b < B ∧ b ≠ g ∧ ∀ j, j < st.1.length → w.cell? ⟨b, off + j, none⟩ = some (.int .u8 ((st.1.getD j 0).toNat : Int))
  cap : st.1.length ≤ c
  low : g < B
  len : st.1.length ≤ 1099511627776
def Rr (B : Nat) (w : World) (g : Nat) (st : St) : Prop := ∃ a c, RrAt B w g a c st
theorem RrAt.keep {B : Nat} {w w' : World} {g : Nat} {a : Option Addr} {c : Nat} {st : St} (h : RrAt B w g a c st) (hk : ∀ k, k < w.heap.size → k < B → w'.heap[k]? = w.heap[k]?) : RrAt B w' g a c st := by
  refine ⟨?_, ?_, h.cap, h.low, h.len⟩
  · unfold At
    rw [hk g h.cell.lt h.low]
    exact h.cell
  · rcases h.row with q | ⟨b, off, ha, hb, hn, hc⟩
    · exact .inl q
    · exact .inr ⟨b, off, ha, hb, hn, fun j hj => by
        rw [World.cell?_of_block (w := w) (hk b (lt_of_cell (hc j hj)) hb)]
        exact hc j hj⟩
theorem Rr.keep {B : Nat} {w w' : World} {g : Nat} {st : St} (h : Rr B w g st) (hk : ∀ k, k < w.heap.size → k < B → w'.heap[k]? = w.heap[k]?) : Rr B w' g st := by
  obtain ⟨a, c, h⟩ := h
  exact ⟨a, c, h.keep hk⟩
theorem Rr.below {B : Nat} {w w' : World} {g : Nat} {st : St} (h : Rr B w g st) (hb : Below w.heap.size w w') : Rr B w' g st := h.keep fun k hk _ => hb.block k hk
theorem Rr.but {B k : Nat} {w w' : World} {g : Nat} {st : St} (h : Rr B w g st) (hb : But k w w') (hB : B ≤ k) : Rr B w' g st := h.keep fun j hj hl => hb.block j hj (by omega)
theorem Rr.lt {B : Nat} {w : World} {g : Nat} {st : St} (h : Rr B w g st) : g < w.heap.size := by
  obtain ⟨a, c, h⟩ := h
  exact h.cell.lt
theorem Rr.low {B : Nat} {w : World} {g : Nat} {st : St} (h : Rr B w g st) : g < B := by
  obtain ⟨a, c, h⟩ := h
  exact h.low
/-- What is laid behind the blocks that were there changes nothing of these. -/
theorem But.fresh {g b : Nat} {w w5 w6 : World} (h : But g w w5) (h2 : But b w5 w6) (hb : w.heap.size ≤ b) : But g w w6 :=
  ⟨h2.os.trans h.os, h2.tape.trans h.tape, h2.output.trans h.output, Nat.le_trans h.size h2.size, fun k hk hn => by rw [h2.block k (Nat.lt_of_lt_of_le hk h.size) (by omega), h.block k hk hn]⟩

end Go.Proofs.Ytefklmckkigllaa

/- The reader: small numbers, values. -/
namespace Go.Proofs.Ytefklmckkigllaa
open Go.RowKit
set_option linter.unusedVariables false

end Go.Proofs.Ytefklmckkigllaa

/- The reader: an instruction. -/
namespace Go.Proofs.Ytefklmckkigllaa
open Go.RowKit
set_option linter.unusedVariables false

end Go.Proofs.Ytefklmckkigllaa

/- The reader: lists. -/
namespace Go.Proofs.Ytefklmckkigllaa
open Go.RowKit
set_option linter.unusedVariables false

/-- Cells are stored into a known block. -/
theorem At.setCells {t : TypeId} {g : Nat} : ∀ (news : List Value) (o : Nat) (w : World) (cs : List Value), At t w g cs → o + news.length ≤ cs.length → At t (w.setCells g o news) g (cs.take o ++ news ++ cs.drop (o + news.length))
  | [], o, w, cs, h, hl => by
    simp only [World.setCells, List.append_nil, List.length_nil, Nat.add_zero, List.take_append_drop]
    exact h
  | v :: r, o, w, cs, h, hl => by
    have hl' : o + (r.length + 1) ≤ cs.length := hl
    have h2 := At.setCells r (o + 1) (w.setCell ⟨g, o, none⟩ v) (cs.set o v) (h.set o v) (by rw [List.length_set]; omega)
    have e : (cs.set o v).take (o + 1) ++ r ++ (cs.set o v).drop (o + 1 + r.length) = cs.take o ++ (v :: r) ++ cs.drop (o + (v :: r).length) := by
      rw [List.drop_set_of_lt (by omega), List.length_cons, show o + (r.length + 1) = o + 1 + r.length by omega]
      have e1 : (cs.set o v).take (o + 1) = cs.take o ++ [v] := by
        rw [List.take_set, List.set_eq_take_append_cons_drop, if_pos (by rw [List.length_take]; omega)]
        rw [List.take_take, Nat.min_eq_left (by omega)]
        congr 2
        apply List.eq_nil_of_length_eq_zero
        rw [List.length_drop, List.length_take]
        omega
      rw [e1]
      simp
    rw [e] at h2
    exact h2
theorem But.setCells {g : Nat} {a : World} : ∀ (news : List Value) (o : Nat) (w : World), But g a w → But g a (w.setCells g o news)
  | [], o, w, h => h
  | v :: r, o, w, h => But.setCells r (o + 1) _ (h.setCell o v)

theorem setCells_hs (r : Nat) : ∀ (news : List Value) (o : Nat) (w : World), (w.setCells r o news).heap.size = w.heap.size
  | [], o, w => rfl
  | v :: q, o, w => by rw [World.setCells, setCells_hs r q]; simp
section
variable {P : Program} {ops : Array Oper} {rest : List Oper} {o : Oper} {a : Act} {w : World} {Q : Exit → Act → World → Prop}
end

theorem flat_cells {α : Type} (cl : α → List Value) (n : Nat) (hlen : ∀ y, (cl y).length = n) : ∀ ys : List α, (ys.flatMap cl).length = ys.length * n
  | [] => by simp
  | y :: r => by rw [List.flatMap_cons, List.length_append, hlen, flat_cells cl n hlen r, List.length_cons, Nat.add_mul]; omega
theorem flat_cells_at {α : Type} (cl : α → List Value) (n : Nat) (hlen : ∀ y, (cl y).length = n) : ∀ (ys : List α) (i : Nat) (y : α), ys[i]? = some y → ∀ j v, (cl y)[j]? = some v → (ys.flatMap cl)[i * n + j]? = some v
  | [], i, y, h => by simp at h
  | x :: r, 0, y, h => by
    simp at h
    subst h
    intro j v hj
    rw [List.flatMap_cons, Nat.zero_mul, Nat.zero_add, List.getElem?_append_left (List.getElem?_eq_some_iff.1 hj).1]
    exact hj
  | x :: r, i + 1, y, h => by
    intro j v hj
    rw [List.flatMap_cons, List.getElem?_append_right (by rw [hlen, Nat.add_mul]; omega), hlen, show (i + 1) * n + j - n = i * n + j by rw [Nat.add_mul]; omega]
    exact flat_cells_at cl n hlen r i y h j v hj
/-- What a list's reader tells: a row of its own, its elements. -/
def ListP {α δ : Type} (cl : α → List Value) (dat : α → δ) (El : Nat → World → α → Prop) (n B g most : Nat) (w : World) (D : List δ × St) (e : Ending) (w' : World) : Prop :=
  ∃ (a : Option Addr) (c : Nat) (ys : List α), e = .returned (.slice a ys.length c) ∧ ys.map dat = D.1 ∧ Rr B w' g D.2 ∧ But g w w' ∧
      ys.length ≤ c ∧ ys.length ≤ most ∧ (ys = [] ∨ ∃ r, a = some ⟨r, 0, none⟩ ∧ w.heap.size ≤ r ∧ r < w'.heap.size ∧ ∀ (i : Nat) (y : α), ys[i]? = some y → w'.rangeAt r (i * n) (cl y)) ∧ ∀ y ∈ ys, El w.heap.size w' y

theorem f35 : (Try.prog.info? 35).map (fun i => (i.zero, i.size, i.bytes)) = some (some ((Try.prog.info? 35).bind (·.zero) |>.getD undef), 2, 16) := by kernel_rfl
end Go.Proofs.Ytefklmckkigllaa

/- The reader: the other lists, a node. -/
namespace Go.Proofs.Ytefklmckkigllaa
open Go.RowKit
set_option linter.unusedVariables false

/-- A row lies in a block from A on. -/
def RowU {α : Type} (A : Nat) (a : Option Addr) (ks : List α) : Prop := ks = [] ∨ ∃ g o, a = some ⟨g, o, none⟩ ∧ A ≤ g
theorem RowU.mono {α : Type} {A A' : Nat} {a : Option Addr} {ks : List α} (h : RowU A a ks) (hA : A' ≤ A) : RowU A' a ks := by
  rcases h with h | ⟨g, o, ha, hg⟩
  · exact .inl h
  · exact .inr ⟨g, o, ha, Nat.le_trans hA hg⟩
theorem RowG.keepU {α : Type} {cells : α → List Value} {n : Nat} {P Q : α → Prop} {A B B' : Nat} {w w' : World} {a : Option Addr} {c : Nat} {ks : List α} (h : RowG cells n P B w a c ks) (hu : RowU A a ks) (hB : B ≤ B') (hk : ∀ k, A ≤ k → k < B → w'.heap[k]? = w.heap[k]?) (hP : ∀ k ∈ ks, P k → Q k) : RowG cells n Q B' w' a c ks := by
  obtain ⟨h1, h2, h | ⟨g, o, ha, hg, hr⟩⟩ := h
  · exact ⟨h1, h2, .inl h⟩
  · rcases hu with hu | ⟨g', o', ha', hg'⟩
    · exact ⟨h1, h2, .inl hu⟩
    · rw [ha] at ha'
      cases ha'
      refine ⟨h1, h2, .inr ⟨g, o, ha, by omega, fun i v hv => ⟨fun j x hj => ?_, hP v (List.mem_of_getElem? hv) (hr i v hv).2⟩⟩⟩
      rw [World.cell?_of_block (w := w) (hk g hg' hg)]
      exact (hr i v hv).1 j x hj
def NT.Up (A : Nat) (x : NT) : Prop := RowU A x.a x.nd.code
def BT.Up (A : Nat) (x : BT) : Prop := RowU A x.a1 x.locals ∧ RowU A x.a2 x.nodes ∧ ∀ n ∈ x.nodes, n.Up A
def CT.Up (A : Nat) (x : CT) : Prop := RowU A x.a1 x.shared ∧ RowU A x.a2 x.bodies ∧ ∀ n ∈ x.bodies, n.Up A
theorem NT.Up.mono {A A' : Nat} {x : NT} (h : x.Up A) (hA : A' ≤ A) : x.Up A' := RowU.mono h hA
theorem BT.Up.mono {A A' : Nat} {x : BT} (h : x.Up A) (hA : A' ≤ A) : x.Up A' := ⟨h.1.mono hA, h.2.1.mono hA, fun n hn => (h.2.2 n hn).mono hA⟩
theorem CT.Up.mono {A A' : Nat} {x : CT} (h : x.Up A) (hA : A' ≤ A) : x.Up A' := ⟨h.1.mono hA, h.2.1.mono hA, fun n hn => (h.2.2 n hn).mono hA⟩
theorem NT.In.keepU {A B B' : Nat} {w w' : World} {x : NT} (h : x.In B w) (hu : x.Up A) (hB : B ≤ B') (hk : ∀ k, A ≤ k → k < B → w'.heap[k]? = w.heap[k]?) : x.In B' w' := ⟨RowG.keepU h.1 hu hB hk fun _ _ h => h, h.2⟩
theorem BT.In.keepU {A B B' : Nat} {w w' : World} {x : BT} (h : x.In B w) (hu : x.Up A) (hB : B ≤ B') (hk : ∀ k, A ≤ k → k < B → w'.heap[k]? = w.heap[k]?) : x.In B' w' :=
  ⟨RowG.keepU h.1 hu.1 hB hk fun _ _ h => h, h.2.1, RowG.keepU h.2.2 hu.2.1 hB hk fun n hn h => h.keepU (hu.2.2 n hn) hB hk⟩
theorem CT.In.keepU {A B B' : Nat} {w w' : World} {x : CT} (h : x.In B w) (hu : x.Up A) (hB : B ≤ B') (hk : ∀ k, A ≤ k → k < B → w'.heap[k]? = w.heap[k]?) : x.In B' w' :=
  ⟨RowG.keepU h.1 hu.1 hB hk fun _ _ h => h, h.2.1, RowG.keepU h.2.2 hu.2.1 hB hk fun n hn h => h.keepU (hu.2.2 n hn) hB hk⟩
/-- A node, a body, a code that lies whole in blocks from A on. -/
def ElN (A : Nat) (w : World) (x : NT) : Prop := x.In w.heap.size w ∧ x.Up A
def ElB (A : Nat) (w : World) (x : BT) : Prop := x.In w.heap.size w ∧ x.Up A
def ElC (A : Nat) (w : World) (x : CT) : Prop := x.In w.heap.size w ∧ x.Up A
theorem ElN.mono (A A' : Nat) (w : World) (x : NT) (hA : A' ≤ A) (h : ElN A w x) : ElN A' w x := ⟨h.1, h.2.mono hA⟩
theorem ElB.mono (A A' : Nat) (w : World) (x : BT) (hA : A' ≤ A) (h : ElB A w x) : ElB A' w x := ⟨h.1, h.2.mono hA⟩
theorem ElC.mono (A A' : Nat) (w : World) (x : CT) (hA : A' ≤ A) (h : ElC A w x) : ElC A' w x := ⟨h.1, h.2.mono hA⟩
theorem ElN.keep (A : Nat) (w w' : World) (x : NT) (h : ElN A w x) (hs : w.heap.size ≤ w'.heap.size) (hk : ∀ k, A ≤ k → k < w.heap.size → w'.heap[k]? = w.heap[k]?) : ElN A w' x := ⟨h.1.keepU h.2 hs hk, h.2⟩
theorem ElB.keep (A : Nat) (w w' : World) (x : BT) (h : ElB A w x) (hs : w.heap.size ≤ w'.heap.size) (hk : ∀ k, A ≤ k → k < w.heap.size → w'.heap[k]? = w.heap[k]?) : ElB A w' x := ⟨h.1.keepU h.2 hs hk, h.2⟩
theorem ElC.keep (A : Nat) (w w' : World) (x : CT) (h : ElC A w x) (hs : w.heap.size ≤ w'.heap.size) (hk : ∀ k, A ≤ k → k < w.heap.size → w'.heap[k]? = w.heap[k]?) : ElC A w' x := ⟨h.1.keepU h.2 hs hk, h.2⟩
/-- What was read is a row. -/
theorem rowOfRead {α : Type} {cl : α → List Value} {n most : Nat} {P : α → Prop} {A : Nat} {w' : World} {a : Option Addr} {c : Nat} {ys : List α} (h1 : ys.length ≤ c) (h2 : ys.length ≤ most) (hm : most ≤ 1048576) (h : ys = [] ∨ ∃ r, a = some ⟨r, 0, none⟩ ∧ A ≤ r ∧ r < w'.heap.size ∧ ∀ (i : Nat) (y : α), ys[i]? = some y → w'.rangeAt r (i * n) (cl y)) (hP : ∀ y ∈ ys, P y) : RowG cl n P w'.heap.size w' a c ys ∧ RowU A a ys := by
  rcases h with h | ⟨r, ha, hA, hr, hc⟩
  · exact ⟨⟨by omega, h1, .inl h⟩, .inl h⟩
  · exact ⟨⟨by omega, h1, .inr ⟨r, 0, ha, hr, fun i y hy => ⟨by rw [Nat.zero_add]; exact hc i y hy, hP y (List.mem_of_getElem? hy)⟩⟩⟩, .inr ⟨r, 0, ha, hA⟩⟩

theorem f37 : (Try.prog.info? 37).map (fun i => (i.zero, i.size, i.bytes)) = some (some ((Try.prog.info? 37).bind (·.zero) |>.getD undef), 4, 32) := by kernel_rfl
theorem f49 : (Try.prog.info? 49).map (fun i => (i.zero, i.size, i.bytes)) = some (some ((Try.prog.info? 49).bind (·.zero) |>.getD undef), 5, 56) := by kernel_rfl
theorem wpList_bs49 {ops : Array Oper} {rest : List Oper} {o : Oper} {a : Act} {w : World} {Q : Exit → Act → World → Prop} (hgd : o.guard = none) (x : Operand) (ho : o.op = .buildSlice 43 1 #[(0, x)]) (ycs : List Value) (hx : a.eval x = .agg ycs.toArray) (hyn : ycs.length = 5)
    (h : wpList Try.prog ops Q rest (a.put o.dst (.slice (some ⟨w.heap.size, 0, none⟩) 1 1)) (w.alloc (.cells ycs.toArray 49))) : wpList Try.prog ops Q (o :: rest) a w := by
  obtain ⟨ie, hi, hz0, hz1, hz2⟩ := info_parts f49
  refine wpList_buildSlice hgd 43 49 1 #[(0, x)] ho ycs.toArray ie _ Try.underlying43 hi hz0 (by rw [hz1]; decide) (by rw [hz1]; decide) ?_ h
  rw [hz1]
  simp only [List.map_toArray, List.map_cons, List.map_nil, hx]
  match ycs, hyn with
  | [a0, a1, a2, a3, a4], _ => (show _ = _); kernel_rfl
theorem f45 : (Try.prog.info? 45).map (fun i => (i.zero, i.size, i.bytes)) = some (some ((Try.prog.info? 45).bind (·.zero) |>.getD undef), 3, 56) := by kernel_rfl
theorem wpList_bs45 {ops : Array Oper} {rest : List Oper} {o : Oper} {a : Act} {w : World} {Q : Exit → Act → World → Prop} (hgd : o.guard = none) (x : Operand) (ho : o.op = .buildSlice 23 1 #[(0, x)]) (ycs : List Value) (hx : a.eval x = .agg ycs.toArray) (hyn : ycs.length = 3)
    (h : wpList Try.prog ops Q rest (a.put o.dst (.slice (some ⟨w.heap.size, 0, none⟩) 1 1)) (w.alloc (.cells ycs.toArray 45))) : wpList Try.prog ops Q (o :: rest) a w := by
  obtain ⟨ie, hi, hz0, hz1, hz2⟩ := info_parts f45
  refine wpList_buildSlice hgd 23 45 1 #[(0, x)] ho ycs.toArray ie _ Try.underlying23 hi hz0 (by rw [hz1]; decide) (by rw [hz1]; decide) ?_ h
  rw [hz1]
  simp only [List.map_toArray, List.map_cons, List.map_nil, hx]
  match ycs, hyn with
  | [a0, a1, a2], _ => (show _ = _); kernel_rfl
end Go.Proofs.Ytefklmckkigllaa
