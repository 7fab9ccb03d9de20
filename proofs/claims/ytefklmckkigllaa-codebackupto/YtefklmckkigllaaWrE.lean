/- A code written. -/
import Derived.Test.YtefklmckkigllaaWrD
namespace Go.Proofs.Ytefklmckkigllaa
open Go.RowKit
set_option linter.unusedVariables false

/-- A body's and a code's bytes. -/
def encB (b : Bd) : List UInt8 := encVs b.locals ++ (ub b.stack.toNat :: (bytesOf 2 b.nodes.length ++ b.nodes.flatMap encN))
def encC (c : Cd) : List UInt8 := encVs c.shared ++ (ub c.mutexes.toNat :: ub c.bodies.length :: c.bodies.flatMap encB)
def fitB (b : Bd) : Prop := b.locals.length < 256 ∧ (0 ≤ b.stack ∧ b.stack < 256) ∧ b.nodes.length < 65536 ∧ ∀ n ∈ b.nodes, fitN n
def fitC (c : Cd) : Prop := c.shared.length < 256 ∧ (0 ≤ c.mutexes ∧ c.mutexes < 256) ∧ c.bodies.length < 256 ∧ ∀ b ∈ c.bodies, fitB b
theorem flat_map_nd (l : List NT) : (l.map NT.nd).flatMap encN = l.flatMap fun x => encN x.nd := by rw [List.flatMap_map]
theorem flat_map_bd (l : List BT) : (l.map BT.bd).flatMap encB = l.flatMap fun x => encB x.bd := by rw [List.flatMap_map]
theorem body_box {w1 : World} {gb : Nat} {a1 a2 : Option Addr} {n1 c1 n2 c2 : Nat} {st : Int} (h : At 45 w1 gb [.slice a1 n1 c1, .int .i64 st, .slice a2 n2 c2]) : w1.cell? ⟨gb, 0, none⟩ = some (.slice a1 n1 c1) ∧ w1.cell? ⟨gb, 1, none⟩ = some (.int .i64 st) ∧ w1.cell? ⟨gb, 2, none⟩ = some (.slice a2 n2 c2) := by
  refine ⟨?_, ?_, ?_⟩ <;> (rw [h.cell]; rfl)
theorem code_box {w1 : World} {gb : Nat} {a1 a2 : Option Addr} {n1 c1 n2 c2 : Nat} {st : Int} (h : At 25 w1 gb [.slice a1 n1 c1, .int .i64 st, .slice a2 n2 c2]) : w1.cell? ⟨gb, 0, none⟩ = some (.slice a1 n1 c1) ∧ w1.cell? ⟨gb, 1, none⟩ = some (.int .i64 st) ∧ w1.cell? ⟨gb, 2, none⟩ = some (.slice a2 n2 c2) := by
  refine ⟨?_, ?_, ?_⟩ <;> (rw [h.cell]; rfl)

set_option maxRecDepth 100000 in
set_option maxHeartbeats 6400000 in
theorem codeW_any (B A g : Nat) (v : Value) (out : List UInt8) (x : CT) (hf : fitC x.cd) (w : World) (h : Wt A w g v out) (hx : x.In B w) (hBA : B ≤ A) (hlen : out.length + (encC x.cd).length ≤ 1099511627776) (hAw : A ≤ w.heap.size) :
    Calls Try.prog 35 #[.pointer (some ⟨g, 0, none⟩), .agg x.cells.toArray] w fun e w' => e = .returned (.tuple #[]) ∧ (∃ v', Wt A w' g v' (out ++ encC x.cd)) ∧ Fb A g w w' := by
  obtain ⟨a1, c1, shared, mu, a2, c2, ks⟩ := x
  obtain ⟨qsl, ⟨qm1, qm2⟩, qbl, qfb⟩ := hf
  have hsl : shared.length < 256 := qsl
  have hbl : ks.length < 256 := by have : (ks.map BT.bd).length < 256 := qbl; rwa [List.length_map] at this
  have hm1 : 0 ≤ mu := qm1
  have hm2 : mu < 256 := qm2
  have hfb : ∀ y ∈ ks, fitB y.bd := fun y hy => qfb y.bd (List.mem_map_of_mem hy)
  clear qsl qm1 qm2 qbl qfb
  obtain ⟨mu, rfl⟩ : ∃ k : Nat, mu = (k : Int) := ⟨mu.toNat, by omega⟩
  have hmu : mu < 256 := by omega
  clear hm1 hm2
  have hlow := h.low
  have hgw : w.heap.size ≠ g := by have := h.lt; omega
  have hr : RowBT B w a2 c2 ks := hx.2.2
  have hrs : RowVl B w a1 c1 shared := hx.1
  have hcap : ks.length ≤ c2 := hr.2.1
  obtain ⟨n, hn⟩ : ∃ n, Hid (n = ks.length) := ⟨_, (rfl : ks.length = _)⟩
  have hEq : encC (CT.cd ⟨a1, c1, shared, (mu : Int), a2, c2, ks⟩) = encVs shared ++ (ub mu :: ub n :: ks.flatMap fun x => encB x.bd) := by
    show encVs shared ++ (ub mu :: ub (ks.map BT.bd).length :: (ks.map BT.bd).flatMap encB) = _
    rw [List.length_map, flat_map_bd, hn.out]
  rw [hEq] at hlen ⊢
  have HL : Hid (out.length + (encVs shared).length + 2 + (ks.flatMap fun x => encB x.bd).length ≤ 1099511627776) := by
    simp only [List.length_append, List.length_cons] at hlen
    show _ ≤ _
    omega
  simp only [CT.cells]
  rw [← hn.out] at hbl hcap ⊢
  have HR : Hid (RowBT B w a2 c2 ks ∧ RowVl B w a1 c1 shared) := ⟨hr, hrs⟩
  have HFB : Hid (∀ y ∈ ks, fitB y.bd) := hfb
  have HW : Hid (Wt A w g v out) := h
  have HVS : Hid (∀ (u : World) v' P (l : List Vl) a c, l.length < 256 → Wt A u g v' P → RowVl B u a c l → P.length + (encVs l).length ≤ 1099511627776 → A ≤ u.heap.size → Calls Try.prog 58 #[.pointer (some ⟨g, 0, none⟩), .slice a l.length c] u fun e w' => e = .returned (.tuple #[]) ∧ (∃ v', Wt A w' g v' (P ++ encVs l)) ∧ Fb A g u w') := fun u v' P l a c hl hu hr hle hA => valsW_any B A g v' P l hl a c u hu hr hBA hle hA
  clear h hr hrs hEq hlen hfb hx
  go_enter Try.func35, Try.ntmps35
  go_wp2_with (first
    | ((with_reducible show wpList _ _ _ _ _ _); refine wpList_box_at rfl 25 (.tmp 1) rfl [.slice a1 shared.length c1, .int .i64 (mu : Int), .slice a2 n c2] rfl ?_; intro w1 hA1 hb1 hs1; clear hs1; refine Hid.out ?_))
  refine hidU ?_
  have hW1 := HW.out.below hb1
  have hs1 := hb1.size
  obtain ⟨c0, -, -⟩ := code_box hA1
  clear HW
  go_wp2_with (first
    | (go_at_call 58; refine (HVS.out _ _ _ _ _ _ hsl hW1 (RowVl.old HR.out.2 (Old.of_below hb1 (by omega))) (by have := HL.out; omega) (by omega)).mono ?_; rintro _ w2 ⟨rfl, ⟨v2, hW2⟩, hF2⟩; refine Hid.out ?_))
  refine hidU ?_
  have hA2 := hF2.at hA1 hgw (by decide)
  have hFw2 : Fb A g w w2 := (Fb.of_below hb1).trans hF2
  have hs2 := hF2.size
  clear c0 hA1 hW1 hb1 hF2
  obtain ⟨-, c0, -⟩ := code_box hA2
  go_wp2_with (first
    | (go_at_call 59; refine (small_any A g v2 _ mu hmu _ hW2 (by have := HL.out; simp only [List.length_append]; omega) (by omega)).mono ?_; rintro _ w3 ⟨rfl, ⟨v3, hW3⟩, hF3⟩; refine Hid.out ?_))
  refine hidU ?_
  have hA3 := hF3.at hA2 hgw (by decide)
  have hFw3 := hFw2.trans hF3
  have hs3 := hF3.size
  clear c0 hA2 hW2 hFw2 hF3
  obtain ⟨-, -, c0⟩ := code_box hA3
  go_wp2_with (first
    | (go_at_call 59; refine (small_any A g v3 _ n hbl _ hW3 (by have := HL.out; simp only [List.length_append, List.length_singleton]; omega) (by omega)).mono ?_; rintro _ w4 ⟨rfl, ⟨v4, hW4⟩, hF4⟩; refine Hid.out ?_))
  refine hidU ?_
  have hA4 := hF4.at hA3 hgw (by decide)
  have hFw4 := hFw3.trans hF4
  have hs4 := hF4.size
  clear c0 hA3 hW3 hFw3 hF4
  obtain ⟨-, -, c0⟩ := code_box hA4
  obtain ⟨O, hO⟩ : ∃ O, Hid (O = out ++ encVs shared ++ [ub mu] ++ [ub n]) := ⟨_, (rfl : _ = out ++ encVs shared ++ [ub mu] ++ [ub n])⟩
  have HOl : Hid (O.length + (ks.flatMap fun x => encB x.bd).length ≤ 1099511627776) := by
    have := HL.out
    rw [hO.out]
    simp only [List.length_append, List.length_singleton]
    show _ ≤ _
    omega
  rw [← hO.out] at hW4
  have HW4 : Hid (Wt A w4 g v4 O ∧ Fb A g w w4) := ⟨hW4, hFw4⟩
  clear hW4 hFw4 hA4 HL
  go_wp2_with fail
  clear c0
  go_loopw [24] (fun j wr => ∃ i : Nat, j = .int .i64 (i : Int) ∧ i ≤ n ∧ Hid ((∃ v', Wt A wr g v' (O ++ (ks.take i).flatMap fun x => encB x.bd)) ∧ Fb A g w wr)) (fun j _ => n - (intOf j).toNat)
  case atStart => exact ⟨0, rfl, by omega, ⟨v4, by simpa using HW4.out.1⟩, HW4.out.2⟩
  case round =>
    obtain ⟨i, rfl, hi, hX⟩ := hrel
    obtain ⟨wo, hwo⟩ : ∃ x, x = wr := ⟨_, rfl⟩
    subst hwo
    by_cases hc : i < n
    · obtain ⟨s, hs⟩ : ∃ k, ks[i]? = some k := ⟨ks[i]'(by rw [← hn.out]; exact hc), by rw [List.getElem?_eq_getElem]⟩
      obtain ⟨⟨v5, hWr⟩, hFr⟩ := hX.out
      obtain ⟨g1, o1, rfl, hlt, hr1, hin⟩ := (RowBT.old HR.out.1 (hFr.old hlow hAw hBA)).at i s hs
      obtain ⟨q1, ⟨q2, q3⟩, q4, q5⟩ := HFB.out s (List.mem_of_getElem? hs)
      have hst := flat_step_le (fun x : BT => encB x.bd) ks i s hs
      have htk := flat_take (fun x : BT => encB x.bd) ks i s hs
      have hgr : wo.heap.size ≠ g := by have := hWr.lt; omega
      have hAr : A ≤ wo.heap.size := Nat.le_trans hAw hFr.size
      have hone := s.one
      obtain ⟨b1, d1, ls, stk, b2, d2, ns⟩ := s
      have hf1 : ls.length < 256 := q1
      have hf2 : 0 ≤ stk := q2
      have hf3 : stk < 256 := q3
      have hf4 : ns.length < 65536 := by have : (ns.map NT.nd).length < 65536 := q4; rwa [List.length_map] at this
      have hf5 : ∀ y ∈ ns, fitN y.nd := fun y hy => q5 y.nd (List.mem_map_of_mem hy)
      clear q1 q2 q3 q4 q5
      obtain ⟨stk, rfl⟩ : ∃ k : Nat, stk = (k : Int) := ⟨stk.toNat, by omega⟩
      have hstk : stk < 256 := by omega
      clear hf2 hf3
      obtain ⟨m, hm⟩ : ∃ m, Hid (m = ns.length) := ⟨_, (rfl : ns.length = _)⟩
      have hEb : encB (BT.bd ⟨b1, d1, ls, (stk : Int), b2, d2, ns⟩) = encVs ls ++ (ub stk :: (bytesOf 2 m ++ ns.flatMap fun x => encN x.nd)) := by
        show encVs ls ++ (ub stk :: (bytesOf 2 (ns.map NT.nd).length ++ (ns.map NT.nd).flatMap encN)) = _
        rw [List.length_map, flat_map_nd, hm.out]
      rw [hEb] at hst htk
      have hmc : ns.length ≤ d2 := hin.2.2.2.1
      rw [← hm.out] at hf4 hmc
      obtain ⟨P, hP⟩ : ∃ P, Hid (P = O ++ (ks.take i).flatMap fun x => encB x.bd) := ⟨_, (rfl : _ = O ++ (ks.take i).flatMap fun x => encB x.bd)⟩
      have HPl : Hid (P.length + (encVs ls).length + 3 + (ns.flatMap fun x => encN x.nd).length ≤ 1099511627776) := by
        have := HOl.out
        rw [hP.out]
        simp only [List.length_append, List.length_cons, bytesOf_length] at hst ⊢
        show _ ≤ _
        omega
      rw [← hP.out] at hWr
      have HRel : Hid (∀ u v', Wt A u g v' (P ++ encVs ls ++ [ub stk] ++ bytesOf 2 m ++ ns.flatMap fun x => encN x.nd) → Fb A g w u → (∃ v', Wt A u g v' (O ++ (ks.take (i + 1)).flatMap fun x => encB x.bd)) ∧ Fb A g w u) := fun u v' h1 h2 => ⟨⟨v', by
        rw [htk, ← List.append_assoc, ← hP.out]
        simp only [List.append_assoc, List.cons_append, List.nil_append] at h1 ⊢
        exact h1⟩, h2⟩
      have HN : Hid (RowNT B wo b2 d2 ns ∧ RowVl B wo b1 d1 ls ∧ ∀ y ∈ ns, fitN y.nd) := ⟨hin.2.2, hin.1, hf5⟩
      have HWr : Hid (Wt A wo g v5 P ∧ Fb A g w wo) := ⟨hWr, hFr⟩
      have hls : (BT.cells ⟨b1, d1, ls, (stk : Int), b2, d2, ns⟩).length = 3 := rfl
      simp only [BT.cells] at hr1 hone hls
      rw [← hm.out] at hr1 hone hls
      clear hX hWr hFr htk hst hin HR hP hf5 hEb hs HFB HOl
      go_wp2_with (first
        | ((with_reducible show wpList _ _ _ _ _ _); refine wpList_load_mid (P := Try.prog) rfl 45 (.tmp 26) rfl g1 (o1 + i * 3) (by first | rfl | (simp; done)) [.slice b1 ls.length d1, .int .i64 (stk : Int), .slice b2 m d2] _ hr1 Try.underlying45 rfl (by rw [hls]; exact i45) ?_)
        | ((with_reducible show wpList _ _ _ _ _ _); refine wpList_alloc_at rfl 45 rfl _ 3 z45 ?_; intro y2 yA2 yb2 ys2)
        | ((with_reducible show wpList _ _ _ _ _ _); refine wpList_store_at (P := Try.prog) rfl 45 (.tmp 5) (.tmp 27) rfl wo.heap.size [.slice b1 ls.length d1, .int .i64 (stk : Int), .slice b2 m d2] rfl rfl 45 _ yA2 (by rw [hls]; exact i45) (by rw [hls]; rfl) hone ?_; intro y3 yA3 yb3 ys3; refine Hid.out ?_))
      refine hidU ?_
      have yB3 : Below wo.heap.size wo y3 := yb3.below yb2 (Nat.le_refl _) (by omega)
      have yz3 := yB3.size
      clear yb3 yb2 yA2 ys2 ys3
      have hW3 := HWr.out.1.below yB3
      have hF3 : Fb A g wo y3 := Fb.of_below yB3
      obtain ⟨e0, -, -⟩ := body_box yA3
      clear hr1 hone yB3
      go_wp2_with (first
        | (go_at_call 58; refine (HVS.out _ _ _ _ _ _ hf1 hW3 (RowVl.old HN.out.2.1 (hF3.old hlow hAr hBA)) (by have := HPl.out; omega) (by omega)).mono ?_; rintro _ w6 ⟨rfl, ⟨v6, hW6⟩, hF6⟩; refine Hid.out ?_))
      refine hidU ?_
      have hA6 := hF6.at yA3 hgr (by decide)
      have hF36 := hF3.trans hF6
      have hs6 := hF6.size
      clear e0 yA3 hW3 hF3 hF6
      obtain ⟨-, e0, -⟩ := body_box hA6
      go_wp2_with (first
        | (go_at_call 59; refine (small_any A g v6 _ stk hstk _ hW6 (by have := HPl.out; simp only [List.length_append]; omega) (by omega)).mono ?_; rintro _ w7 ⟨rfl, ⟨v7, hW7⟩, hF7⟩; refine Hid.out ?_))
      refine hidU ?_
      have hA7 := hF7.at hA6 hgr (by decide)
      have hF37 := hF36.trans hF7
      have hs7 := hF7.size
      clear e0 hA6 hW6 hF36 hF7
      obtain ⟨-, -, e0⟩ := body_box hA7
      go_wp2_with (first
        | (go_at_call 60; refine (big_any A g v7 _ m hf4 _ hW7 (by have := HPl.out; simp only [List.length_append, List.length_singleton]; omega) (by omega)).mono ?_; rintro _ w8 ⟨rfl, ⟨v8, hW8⟩, hF8⟩; refine Hid.out ?_))
      refine hidU ?_
      have hA8 := hF8.at hA7 hgr (by decide)
      have hF38 := hF37.trans hF8
      have hs8 := hF8.size
      clear e0 hA7 hW7 hF37 hF8
      obtain ⟨-, -, e0⟩ := body_box hA8
      obtain ⟨Z, hZ⟩ : ∃ Z, Hid (Z = P ++ encVs ls ++ [ub stk] ++ bytesOf 2 m) := ⟨_, (rfl : _ = P ++ encVs ls ++ [ub stk] ++ bytesOf 2 m)⟩
      have HZl : Hid (Z.length + (ns.flatMap fun x => encN x.nd).length ≤ 1099511627776) := by
        have := HPl.out
        rw [hZ.out]
        simp only [List.length_append, List.length_singleton, bytesOf_length]
        show _ ≤ _
        omega
      rw [← hZ.out] at hW8
      have HRel : Hid (∀ u v', Wt A u g v' (Z ++ ns.flatMap fun x => encN x.nd) → Fb A g w u → (∃ v', Wt A u g v' (O ++ (ks.take (i + 1)).flatMap fun x => encB x.bd)) ∧ Fb A g w u) := by rw [hZ.out]; exact HRel
      have HW8 : Hid (Wt A w8 g v8 Z ∧ Fb A g wo w8) := ⟨hW8, hF38⟩
      clear hZ hW8 hF38 hA8 HPl
      go_wp2_with fail
      clear e0
      go_loopw [44] (fun j wr => ∃ q : Nat, j = .int .i64 (q : Int) ∧ q ≤ m ∧ Hid ((∃ v', Wt A wr g v' (Z ++ (ns.take q).flatMap fun x => encN x.nd)) ∧ Fb A g wo wr)) (fun j _ => m - (intOf j).toNat)
      case atStart => exact ⟨0, rfl, by omega, ⟨v8, by simpa using HW8.out.1⟩, HW8.out.2⟩
      case round =>
        obtain ⟨q, rfl, hq, hY⟩ := hrel
        by_cases hcq : q < m
        · obtain ⟨t, ht⟩ : ∃ k, ns[q]? = some k := ⟨ns[q]'(by rw [← hm.out]; exact hcq), by rw [List.getElem?_eq_getElem]⟩
          obtain ⟨⟨v9, hWs⟩, hFs⟩ := hY.out
          obtain ⟨g2, o2, rfl, hlt2, hr2, hin2⟩ := (RowNT.old HN.out.1 (hFs.old hlow hAr hBA)).at q t ht
          have hfN := HN.out.2.2 t (List.mem_of_getElem? ht)
          have hst := flat_step_le (fun x : NT => encN x.nd) ns q t ht
          have htk := flat_take (fun x : NT => encN x.nd) ns q t ht
          have hgs : wr.heap.size ≠ g := by have := hWs.lt; omega
          have hAs : A ≤ wr.heap.size := Nat.le_trans hAr hFs.size
          have hone := t.one
          have hls2 : t.cells.length = 5 := rfl
          have hl9 : (Z ++ (ns.take q).flatMap fun x => encN x.nd).length + (encN t.nd).length ≤ 1099511627776 := by have := HZl.out; rw [List.length_append]; omega
          have HNd : Hid (∀ u v', Wt A u g v' (Z ++ (ns.take q).flatMap fun x => encN x.nd) → Fb A g wr u → Calls Try.prog 61 #[.pointer (some ⟨g, 0, none⟩), .agg t.cells.toArray] u fun e w' => e = .returned (.tuple #[]) ∧ (∃ v', Wt A w' g v' ((Z ++ (ns.take q).flatMap fun x => encN x.nd) ++ encN t.nd)) ∧ Fb A g u w') := fun u v' hu hFu => nodeW_any B A g v' _ t hfN u hu (hin2.old (hFu.old hlow hAs hBA)) hBA hl9 (Nat.le_trans hAs hFu.size)
          have HTk : Hid (((ns.take (q + 1)).flatMap fun x => encN x.nd) = ((ns.take q).flatMap fun x => encN x.nd) ++ encN t.nd) := htk
          have HWs : Hid (Wt A wr g v9 (Z ++ (ns.take q).flatMap fun x => encN x.nd) ∧ Fb A g wo wr) := ⟨hWs, hFs⟩
          clear hY hWs hFs hst htk hin2 hfN ht hl9 HN HZl
          generalize t.cells = tcs at *
          go_wp2_with (first
            | ((with_reducible show wpList _ _ _ _ _ _); refine wpList_load_mid (P := Try.prog) rfl 49 (.tmp 46) rfl g2 (o2 + q * 5) (by first | rfl | (simp; done)) tcs _ hr2 Try.underlying49 rfl (by rw [hls2]; exact i49) ?_)
            | ((with_reducible show wpList _ _ _ _ _ _); refine wpList_alloc_at rfl 49 rfl _ 5 z49 ?_; intro x2 xA2 xb2 xs2)
            | ((with_reducible show wpList _ _ _ _ _ _); refine wpList_store_at (P := Try.prog) rfl 49 (.tmp 7) (.tmp 47) rfl wr.heap.size tcs rfl rfl 49 _ xA2 (by rw [hls2]; exact i49) (by rw [hls2]; rfl) hone ?_; intro x3 xA3 xb3 xs3; refine Hid.out ?_))
          refine hidU ?_
          have xB3 : Below wr.heap.size wr x3 := xb3.below xb2 (Nat.le_refl _) (by omega)
          have xz3 := xB3.size
          clear xb3 xb2 xA2 xs2 xs3
          have hW3 := HWs.out.1.below xB3
          have hF3 : Fb A g wr x3 := Fb.of_below xB3
          clear hr2 hone xB3
          go_wp2_with (first
            | ((with_reducible show wpList _ _ _ _ _ _); refine wpList_load_at (P := Try.prog) rfl 49 (.tmp 7) rfl wr.heap.size rfl 49 tcs xA3 _ Try.underlying49 rfl (by rw [hls2]; exact i49) ?_)
            | (go_at_call 61; refine (HNd.out _ _ hW3 hF3).mono ?_; rintro _ x4 ⟨rfl, ⟨y4, hW4⟩, hF4⟩; refine Hid.out ?_))
          refine hidU ?_
          have HX4 : Hid (Wt A x4 g y4 ((Z ++ (ns.take q).flatMap fun x => encN x.nd) ++ encN t.nd) ∧ Fb A g wo x4) := ⟨hW4, (HWs.out.2.trans hF3).trans hF4⟩
          clear hW4 hF4 hF3 hW3 xA3 HNd HWs
          go_wp2
          go_roundw
          case rel => exact ⟨q + 1, by go_num, by omega, ⟨y4, by rw [HTk.out, ← List.append_assoc]; exact HX4.out.1⟩, HX4.out.2⟩
          case measure => simp [intOf]; omega
        · have hqm : q = m := by omega
          have HFin : Hid ((∃ v', Wt A wr g v' (O ++ (ks.take (i + 1)).flatMap fun x => encB x.bd)) ∧ Fb A g w wr) := by
            have := hY.out
            rw [hqm, hm.out, List.take_length] at this
            obtain ⟨⟨v', h1⟩, h2⟩ := this
            exact HRel.out wr v' h1 (HWr.out.2.trans h2)
          clear hY HN HZl HRel
          go_wp2
          go_roundw
          case rel => exact ⟨i + 1, by go_num, by omega, HFin.out⟩
          case measure => simp [intOf]; omega
    · have hin : i = n := by omega
      have HX : Hid ((∃ v', Wt A wo g v' (out ++ (encVs shared ++ (ub mu :: ub n :: ks.flatMap fun x => encB x.bd)))) ∧ Fb A g w wo) := by
        have := hX.out
        rw [hin, hn.out, List.take_length, hO.out] at this
        obtain ⟨⟨v', h1⟩, h2⟩ := this
        exact ⟨⟨v', by simp only [List.append_assoc, List.cons_append, List.nil_append] at h1 ⊢; exact h1⟩, h2⟩
      clear hX HR HFB HOl
      go_wp2
      go_end0
      exact ⟨rfl, HX.out⟩

end Go.Proofs.Ytefklmckkigllaa
