/- Joined texts of the proof. -/
import Derived.Test.YtcmahiphfpgadaaGreatDoorJ23
import Derived.Test.YtcmahiphfpgadaaGreatDoorJ22
import Derived.Test.YtcmahiphfpgadaaGreatDoorJ20
import Derived.Test.YtcmahiphfpgadaaGreatDoorJ14
import Derived.Test.YtcmahiphfpgadaaGreatDoorJ9
import Derived.Test.YtcmahiphfpgadaaGreatDoorJ13

/- The document's own Expr. -/
namespace Go.Proofs.YtcmahiphfpgadaaGreatDoor
open Go.RowKit
set_option linter.unusedVariables false

theorem refExpr_any (B : Nat) (M : Nat) : ∀ x : ET, SizeOf.sizeOf x < M → exW x.ex ≤ 1048576 → RxW B x := by
 induction M with
 | zero => intro x h; omega
 | succ M ih =>
  rintro ⟨op, t, b, nm, a, c, ks⟩ hN hW
  refine refExpr_of B op t b nm a c ks hW fun k hk => ih k (by have := ET.sz (op := op) (t := t) (b := b) (c := c) (nm := nm) (a := a) hk; omega) ?_
  have := exW_kid op t b nm.data.toList (ET.exs ks) k.ex (by rw [ET.exs_eq]; exact List.mem_map_of_mem hk)
  have e : (ET.mk op t b nm a c ks).ex = .mk op t b nm.data.toList (ET.exs ks) := rfl
  rw [e] at hW
  omega

/-- What the document's Expr answers. -/
def rxT (e : Ex) : List UInt8 := if mayE 32 e then exT e else []
def rxE (e : Ex) : Int := if mayE 32 e then 0 else 2

set_option maxRecDepth 100000 in
set_option maxHeartbeats 3200000 in
theorem refExprP_any (B : Nat) (y : ET) (hW : exW y.ex ≤ 1048576) (w : World) (hy : y.In B w) (hBw : B ≤ w.heap.size) :
  Calls Tryz.prog 13 #[.agg y.cells.toArray] w fun r w' => r = .returned (.tuple #[.string ⟨(rxT y.ex).toArray⟩, .int .i64 (rxE y.ex)]) ∧ Below w.heap.size w w' := by
 obtain ⟨X, hX⟩ : ∃ X, Hid (X = rxT y.ex) := ⟨_, (rfl : rxT y.ex = _)⟩
 obtain ⟨E, hE⟩ : ∃ E, Hid (E = rxE y.ex) := ⟨_, (rfl : rxE y.ex = _)⟩
 obtain ⟨h, hh⟩ : ∃ h, Hid (h = htX y.ex) := ⟨_, (rfl : htX y.ex = _)⟩
 obtain ⟨V, hV⟩ : ∃ V, Hid (V = mayX y.ex) := ⟨_, (rfl : mayX y.ex = _)⟩
 have hm := mayE_eq 32 y.ex
 rw [← hh.out, ← hV.out] at hm
 have HM : Hid (mayE 32 y.ex = (decide (h ≤ 32) && V)) := hm
 have K21 : Hid (∀ u, Below w.heap.size w u → Calls Tryz.prog 21 #[.agg y.cells.toArray] u fun r w' => r = .returned (.int .i64 (h : Int)) ∧ Below u.heap.size u w') := fun u hu => by
  rw [hh.out]
  exact height21_any B _ y (Nat.lt_succ_self _) hW u (hy.old (Old.of_below hu hBw)) (by have := hu.size; omega)
 have K39 : Hid (∀ u, Below w.heap.size w u → Calls Tryz.prog 39 #[.agg y.cells.toArray] u fun r w' => Hid (∃ s : List UInt8, r = .returned (.tuple #[.string ⟨s.toArray⟩, .bool V]) ∧ (V = true → s = exT y.ex) ∧ s.length ≤ 64 * exW y.ex) ∧ Below u.heap.size u w') := fun u hu => by
  rw [hV.out]
  exact refExpr_any B _ y (Nat.lt_succ_self _) hW u (hy.old (Old.of_below hu hBw)) (by have := hu.size; omega)
 rw [← hX.out, ← hE.out]
 have HXE : Hid (X = (if (decide (h ≤ 32) && V) = true then exT y.ex else []) ∧ E = (if (decide (h ≤ 32) && V) = true then 0 else 2)) := by
  rw [hX.out, hE.out]
  unfold rxT rxE
  rw [HM.out]
  exact ⟨rfl, rfl⟩
 clear hX hE hh hV hm HM hy hW
 obtain ⟨op, t, b, nm, a, c, ks⟩ := y
 have K21 : Hid (∀ u, Below w.heap.size w u → Calls Tryz.prog 21 #[.agg #[.int .u8 (op : Int), .int .u8 (t : Int), .int .u64 (b : Int), .string nm, .slice a ks.length c]] u fun r w' => r = .returned (.int .i64 (h : Int)) ∧ Below u.heap.size u w') := K21.out
 have K39 : Hid (∀ u, Below w.heap.size w u → Calls Tryz.prog 39 #[.agg #[.int .u8 (op : Int), .int .u8 (t : Int), .int .u64 (b : Int), .string nm, .slice a ks.length c]] u fun r w' => Hid (∃ s : List UInt8, r = .returned (.tuple #[.string ⟨s.toArray⟩, .bool V]) ∧ (V = true → s = exT (ET.mk op t b nm a c ks).ex) ∧ s.length ≤ 64 * exW (ET.mk op t b nm a c ks).ex) ∧ Below u.heap.size u w') := K39.out
 show Calls Tryz.prog 13 #[.agg (ex5 op t b nm (.slice a ks.length c)).toArray] w _
 go_enter Tryz.func13, Tryz.ntmps13
 go_wp2_with (first
  | ((with_reducible show wpList _ _ _ _ _ _); refine wpList_box_at rfl 34 (.tmp 0) rfl (ex5 op t b nm (.slice a ks.length c)) rfl ?_; intro w1 hA1 hb1 hs1; clear hs1; refine Hid.out ?_))
 refine hidU ?_
 obtain ⟨c0, c1, c2, c3, c4⟩ := ex_cells hA1
 have hC := K21.out w1 hb1
 go_wp2_with (go_at_call 21; refine hC.mono ?_; rintro r w2 ⟨rfl, hb2⟩; refine Hid.out ?_)
 refine hidU ?_
 have hA2 := hA1.below hb2
 have hw2 := hb1.trans (hb2.mono hb1.size)
 clear hC c0 c1 c2 c3 c4 hA1 hb1 hb2 K21
 obtain ⟨c0, c1, c2, c3, c4⟩ := ex_cells hA2
 by_cases hh : h ≤ 32
 ·have hhi : ¬ (32 : Int) < (h : Int) := by omega
  have HXE2 : Hid (X = (if V = true then exT (ET.mk op t b nm a c ks).ex else []) ∧ E = (if V = true then 0 else 2)) := by
   have := HXE.out
   rw [decide_eq_true hh, Bool.true_and] at this
   exact this
  have hC := K39.out w2 hw2
  clear HXE K39 hh
  go_wp2_with (go_at_call 39; refine hC.mono ?_; rintro r w3 ⟨hq, hb3⟩; obtain ⟨s, rfl, hs, hsl⟩ := hq.out; refine Hid.out ?_)
  refine hidU ?_
  have hw3 := hw2.trans (hb3.mono hw2.size)
  have HS : Hid (V = true → s = exT (ET.mk op t b nm a c ks).ex) := hs
  clear hC c0 c1 c2 c3 c4 hA2 hw2 hb3 hq hs hsl
  cases V with
  | true =>
   have HF : Hid (X = s ∧ E = 0) := by
    have := HXE2.out
    rw [if_pos rfl, if_pos rfl] at this
    exact ⟨by rw [this.1, HS.out rfl], this.2⟩
   clear HXE2 HS
   go_wp2
   go_ret2
   refine ⟨?_, hw3⟩
   rw [HF.out.1, HF.out.2]
   rfl
  | false =>
   have HF : Hid (X = [] ∧ E = 2) := by
    have := HXE2.out
    rw [if_neg (by decide), if_neg (by decide)] at this
    exact this
   clear HXE2 HS
   go_wp2
   go_ret2
   refine ⟨?_, hw3⟩
   rw [HF.out.1, HF.out.2]
   rfl
 ·have hhi : (32 : Int) < (h : Int) := by omega
  have HF : Hid (X = [] ∧ E = 2) := by
   have := HXE.out
   rw [decide_eq_false hh, Bool.false_and, if_neg (by decide), if_neg (by decide)] at this
   exact this
  clear HXE hh K39
  go_wp2
  go_ret2
  refine ⟨?_, hw2⟩
  rw [HF.out.1, HF.out.2]
  rfl

end Go.Proofs.YtcmahiphfpgadaaGreatDoor

/- The document's own lines of variables. -/
namespace Go.Proofs.YtcmahiphfpgadaaGreatDoor
open Go.RowKit
set_option linter.unusedVariables false

theorem mayV_len {nm : ByteArray} (h : isNm (bytes nm) = true) : nm.size ≤ 24 := by
  rcases Nat.lt_or_ge 24 nm.size with q | q
  · rw [isNm_not nm (.inr (.inl q))] at h
    cases h
  · exact q

set_option maxRecDepth 100000 in
set_option maxHeartbeats 6400000 in
theorem refVars_any (B : Nat) (vs : List VT) (wd : ByteArray) (hwd : wd.size ≤ 20) (a : Option Addr) (c : Nat) (w : World) (h : RowV B w a c vs) (hBw : B ≤ w.heap.size) :
    Calls Tryz.prog 34 #[.slice a vs.length c, .string wd] w fun r w' => Hid (∃ s : List UInt8, r = .returned (.tuple #[.string ⟨s.toArray⟩, .bool ((vs.map VT.vr).all mayV)]) ∧ ((vs.map VT.vr).all mayV = true → s = vrsT (wd.data.toList ++ [32]) (vs.map VT.vr)) ∧ s.length ≤ 200 * vs.length) ∧ Below w.heap.size w w' := by
  obtain ⟨n, hn⟩ : ∃ n, Hid (n = vs.length) := ⟨_, (rfl : vs.length = _)⟩
  obtain ⟨V, hV⟩ : ∃ V, Hid (V = (vs.map VT.vr).all mayV) := ⟨_, (rfl : (vs.map VT.vr).all mayV = _)⟩
  obtain ⟨X, hX⟩ : ∃ X, Hid (X = vrsT (wd.data.toList ++ [32]) (vs.map VT.vr)) := ⟨_, (rfl : vrsT (wd.data.toList ++ [32]) (vs.map VT.vr) = _)⟩
  have hl := h.1
  have hk := h.2.1
  rw [← hn.out] at hl hk ⊢
  rw [← hV.out, ← hX.out]
  have HR : Hid (RowV B w a c vs) := h
  have hwl : wd.data.toList.length = wd.size := by rw [Array.length_toList]; rfl
  clear h
  go_enter Tryz.func34, Tryz.ntmps34
  go_wp2_with fail
  go_loopw [6, 7] (fun v j wr => ∃ i : Nat, j = .int .i64 (i : Int) ∧ i ≤ n ∧ ∃ out : List UInt8, v = .string ⟨out.toArray⟩ ∧ Hid (out = vrsT (wd.data.toList ++ [32]) ((vs.map VT.vr).take i) ∧ ((vs.map VT.vr).take i).all mayV = true ∧ out.length ≤ 200 * i) ∧ Below w.heap.size w wr) (fun v j _ => n - (intOf j).toNat)
  case atStart => exact ⟨0, rfl, Nat.zero_le _, [], rfl, ⟨rfl, rfl, Nat.le_refl _⟩, Below.refl _ _⟩
  case round =>
    obtain ⟨i, rfl, hi, out, rfl, HL, hwr⟩ := hrel
    have hol : out.length ≤ 200 * 1048576 := by have := HL.out.2.2; omega
    have hoz : (⟨out.toArray⟩ : ByteArray).size = out.length := size_mk out
    by_cases hc : i < n
    · obtain ⟨y, hy⟩ : ∃ k, vs[i]? = some k := ⟨vs[i]'(by rw [← hn.out]; exact hc), by rw [List.getElem?_eq_getElem]⟩
      obtain ⟨g1, o1, rfl, hg1, hr1, hy1⟩ := (HR.out.old (Old.of_below hwr hBw)).at i y hy
      have HT : Hid ((vs.map VT.vr)[i]? = some y.vr) := by show _ = _; rw [List.getElem?_map, hy]; rfl
      have HMY : Hid (mayV y.vr = false → V = false) := fun hf => by
        rw [hV.out, List.all_eq_false]
        exact ⟨y.vr, List.mem_map_of_mem (List.mem_of_getElem? hy), by rw [hf]; simp⟩
      obtain ⟨nm, t, b⟩ := y
      obtain ⟨t256, b64⟩ := hy1
      have q0 : wr.cell? ⟨g1, o1 + i * 3, none⟩ = some (.string nm) := hr1 0 _ rfl
      have q1 : wr.cell? ⟨g1, o1 + i * 3 + 1, none⟩ = some (.int .u8 (t : Int)) := hr1 1 _ rfl
      have q2 : wr.cell? ⟨g1, o1 + i * 3 + 2, none⟩ = some (.int .u64 (b : Int)) := hr1 2 _ rfl
      have HQ : Hid (∀ u, Below wr.heap.size wr u → u.cell? ⟨g1, o1 + i * 3, none⟩ = some (.string nm) ∧ u.cell? ⟨g1, o1 + i * 3 + 1, none⟩ = some (.int .u8 (t : Int))) := fun u hu => by
        have hg : g1 < wr.heap.size := by have := hwr.size; omega
        rw [World.cell?_of_block (w := wr) (w' := u) (hu.block g1 hg), World.cell?_of_block (w := wr) (w' := u) (hu.block g1 hg)]
        exact ⟨q0, q1⟩
      have hC := refValue_any t b t256 b64 wr
      obtain ⟨S, hS⟩ : ∃ S, Hid (S = rvT t b) := ⟨_, (rfl : rvT t b = _)⟩
      have hSl : S.length ≤ 44 := by
        rw [hS.out]
        unfold rvT
        split
        · exact valTx_len t b b64
        · simp
      have hSz : (⟨S.toArray⟩ : ByteArray).size = S.length := size_mk S
      obtain ⟨K, hK⟩ : ∃ K, Hid (K = rvE t b) := ⟨_, (rfl : rvE t b = _)⟩
      rw [← hS.out, ← hK.out] at hC
      clear hr1 hy
      go_wp2_with (go_at_call 15; refine hC.mono ?_; rintro r z ⟨rfl, hbz⟩; refine Hid.out ?_)
      refine hidU ?_
      have hwz := hwr.trans (hbz.mono hwr.size)
      clear hC q0 q1 q2
      by_cases hok : valOk t b = true
      · have hK0 : K = 0 := by rw [hK.out]; unfold rvE; rw [hok]; rfl
        subst hK0
        have HSS : Hid (S = valTx t b) := by show _ = _; rw [hS.out]; unfold rvT; rw [hok]; rfl
        have HVO : Hid (valOk t b = true) := hok
        clear hK hS
        obtain ⟨r0, r1⟩ := HQ.out z hbz
        obtain ⟨M, hM⟩ : ∃ M, Hid (M = isNm (bytes nm)) := ⟨_, (rfl : isNm (bytes nm) = _)⟩
        have hC := refName_any nm z
        rw [← hM.out] at hC
        go_wp2_with (go_at_call 35; refine hC.mono ?_; rintro r z2 ⟨rfl, hbz2⟩; refine Hid.out ?_)
        refine hidU ?_
        obtain ⟨r0, r1⟩ := HQ.out z2 (hbz.trans (hbz2.mono hbz.size))
        have hwz := hwz.trans (hbz2.mono hwz.size)
        clear hC HQ hbz hbz2 hwr
        cases M with
        | false =>
          have hVf : Hid (V = false) := HMY.out (by show (valOk t b && isNm nm.data.toList) = false; rw [hok, show isNm nm.data.toList = isNm (bytes nm) from rfl, ← hM.out]; rfl)
          clear HR hV hX hn HL HT HMY HSS HVO hM hok
          go_wp2
          all_goals
            (go_ret2
             exact ⟨hidU ⟨[], by rw [hVf.out]; rfl, (fun h => by rw [hVf.out] at h; cases h), by simp⟩, hwz⟩)
        | true =>
          have HNM : Hid (isNm nm.data.toList = true) := hM.out.symm
          have hnz := mayV_len (nm := nm) hM.out.symm
          have hnl : nm.data.toList.length = nm.size := by rw [Array.length_toList]; rfl
          have h123 : t = 1 ∨ t = 2 ∨ t = 3 := by
            rcases Nat.lt_or_ge t 1 with q | q
            · unfold valOk at hok
              rw [if_neg (by omega), if_neg (by omega), if_neg (by omega)] at hok
              cases hok
            · rcases Nat.lt_or_ge 3 t with q2 | q2
              · unfold valOk at hok
                rw [if_neg (by omega), if_neg (by omega), if_neg (by omega)] at hok
                cases hok
              · omega
          clear hok hM HMY hV hX HR
          rcases h123 with h1 | h1 | h1
          · have ti : (t : Int) = 1 := by omega
            have HTY : Hid (tyT t = [105, 110, 116]) := by rw [h1]; rfl
            have HF : Hid ((out ++ (wd.data.toList ++ ([32] ++ (nm.data.toList ++ ([32] ++ ([105, 110, 116] ++ ([32, 61, 32] ++ (S ++ [59, 10]))))))) = vrsT (wd.data.toList ++ [32]) ((vs.map VT.vr).take (i + 1))) ∧ ((vs.map VT.vr).take (i + 1)).all mayV = true ∧ (out ++ (wd.data.toList ++ ([32] ++ (nm.data.toList ++ ([32] ++ ([105, 110, 116] ++ ([32, 61, 32] ++ (S ++ [59, 10])))))))).length ≤ 200 * (i + 1)) := by
              refine ⟨?_, ?_, ?_⟩
              · unfold vrsT
                rw [flat_take _ _ _ _ HT.out, ← HTY.out]
                show _ = vrsT (wd.data.toList ++ [32]) ((vs.map VT.vr).take i) ++ vrT _ _
                rw [← HL.out.1, HSS.out]
                unfold vrT
                simp
                rfl
              · rw [List.take_add_one, HT.out, List.all_append, HL.out.2.1]
                show (true && ((valOk t b && isNm nm.data.toList) && true)) = true
                rw [HVO.out, HNM.out]
                rfl
              · have h3 := HL.out.2.2
                simp only [List.length_append, List.length_cons, List.length_nil]
                omega
            have HBA : Hid ((⟨out.toArray⟩ ++ wd ++ ⟨#[32]⟩ ++ nm ++ ⟨#[32]⟩ ++ ⟨#[105, 110, 116]⟩ ++ ⟨#[32, 61, 32]⟩ ++ ⟨S.toArray⟩ ++ ⟨#[59, 10]⟩ : ByteArray) = ⟨(out ++ (wd.data.toList ++ ([32] ++ (nm.data.toList ++ ([32] ++ ([105, 110, 116] ++ ([32, 61, 32] ++ (S ++ [59, 10])))))))).toArray⟩) := by
              show _ = _
              apply ByteArray.ext
              simp
            clear HL HT HSS HVO HNM HTY
            go_wp2
            all_goals first
              | (exfalso; omega)
              | skip
            go_roundw
            case rel => exact ⟨i + 1, by go_num, by omega, _, by rw [HBA.out], HF, hwz⟩
            case measure => simp [intOf]; omega
          · have ti : (t : Int) = 2 := by omega
            have HTY : Hid (tyT t = [98, 111, 111, 108]) := by rw [h1]; rfl
            have HF : Hid ((out ++ (wd.data.toList ++ ([32] ++ (nm.data.toList ++ ([32] ++ ([98, 111, 111, 108] ++ ([32, 61, 32] ++ (S ++ [59, 10]))))))) = vrsT (wd.data.toList ++ [32]) ((vs.map VT.vr).take (i + 1))) ∧ ((vs.map VT.vr).take (i + 1)).all mayV = true ∧ (out ++ (wd.data.toList ++ ([32] ++ (nm.data.toList ++ ([32] ++ ([98, 111, 111, 108] ++ ([32, 61, 32] ++ (S ++ [59, 10])))))))).length ≤ 200 * (i + 1)) := by
              refine ⟨?_, ?_, ?_⟩
              · unfold vrsT
                rw [flat_take _ _ _ _ HT.out, ← HTY.out]
                show _ = vrsT (wd.data.toList ++ [32]) ((vs.map VT.vr).take i) ++ vrT _ _
                rw [← HL.out.1, HSS.out]
                unfold vrT
                simp
                rfl
              · rw [List.take_add_one, HT.out, List.all_append, HL.out.2.1]
                show (true && ((valOk t b && isNm nm.data.toList) && true)) = true
                rw [HVO.out, HNM.out]
                rfl
              · have h3 := HL.out.2.2
                simp only [List.length_append, List.length_cons, List.length_nil]
                omega
            have HBA : Hid ((⟨out.toArray⟩ ++ wd ++ ⟨#[32]⟩ ++ nm ++ ⟨#[32]⟩ ++ ⟨#[98, 111, 111, 108]⟩ ++ ⟨#[32, 61, 32]⟩ ++ ⟨S.toArray⟩ ++ ⟨#[59, 10]⟩ : ByteArray) = ⟨(out ++ (wd.data.toList ++ ([32] ++ (nm.data.toList ++ ([32] ++ ([98, 111, 111, 108] ++ ([32, 61, 32] ++ (S ++ [59, 10])))))))).toArray⟩) := by
              show _ = _
              apply ByteArray.ext
              simp
            clear HL HT HSS HVO HNM HTY
            go_wp2
            all_goals first
              | (exfalso; omega)
              | skip
            go_roundw
            case rel => exact ⟨i + 1, by go_num, by omega, _, by rw [HBA.out], HF, hwz⟩
            case measure => simp [intOf]; omega
          · have ti : (t : Int) = 3 := by omega
            have HTY : Hid (tyT t = [114, 101, 97, 108]) := by rw [h1]; rfl
            have HF : Hid ((out ++ (wd.data.toList ++ ([32] ++ (nm.data.toList ++ ([32] ++ ([114, 101, 97, 108] ++ ([32, 61, 32] ++ (S ++ [59, 10]))))))) = vrsT (wd.data.toList ++ [32]) ((vs.map VT.vr).take (i + 1))) ∧ ((vs.map VT.vr).take (i + 1)).all mayV = true ∧ (out ++ (wd.data.toList ++ ([32] ++ (nm.data.toList ++ ([32] ++ ([114, 101, 97, 108] ++ ([32, 61, 32] ++ (S ++ [59, 10])))))))).length ≤ 200 * (i + 1)) := by
              refine ⟨?_, ?_, ?_⟩
              · unfold vrsT
                rw [flat_take _ _ _ _ HT.out, ← HTY.out]
                show _ = vrsT (wd.data.toList ++ [32]) ((vs.map VT.vr).take i) ++ vrT _ _
                rw [← HL.out.1, HSS.out]
                unfold vrT
                simp
                rfl
              · rw [List.take_add_one, HT.out, List.all_append, HL.out.2.1]
                show (true && ((valOk t b && isNm nm.data.toList) && true)) = true
                rw [HVO.out, HNM.out]
                rfl
              · have h3 := HL.out.2.2
                simp only [List.length_append, List.length_cons, List.length_nil]
                omega
            have HBA : Hid ((⟨out.toArray⟩ ++ wd ++ ⟨#[32]⟩ ++ nm ++ ⟨#[32]⟩ ++ ⟨#[114, 101, 97, 108]⟩ ++ ⟨#[32, 61, 32]⟩ ++ ⟨S.toArray⟩ ++ ⟨#[59, 10]⟩ : ByteArray) = ⟨(out ++ (wd.data.toList ++ ([32] ++ (nm.data.toList ++ ([32] ++ ([114, 101, 97, 108] ++ ([32, 61, 32] ++ (S ++ [59, 10])))))))).toArray⟩) := by
              show _ = _
              apply ByteArray.ext
              simp
            clear HL HT HSS HVO HNM HTY
            go_wp2
            all_goals first
              | (exfalso; omega)
              | skip
            go_roundw
            case rel => exact ⟨i + 1, by go_num, by omega, _, by rw [HBA.out], HF, hwz⟩
            case measure => simp [intOf]; omega
      · have hK2 : K = 2 := by rw [hK.out]; unfold rvE; rw [if_neg hok]
        subst hK2
        have hVf : Hid (V = false) := HMY.out (by show (valOk t b && isNm nm.data.toList) = false; rw [Bool.eq_false_iff.2 hok]; rfl)
        clear HR hV hX hn HL HT HMY hS hK HQ hok
        go_wp2
        all_goals
          (go_ret2
           exact ⟨hidU ⟨[], by rw [hVf.out]; rfl, (fun h => by rw [hVf.out] at h; cases h), by simp⟩, hwz⟩)
    · have hin : i = n := by omega
      have HF : Hid (V = true ∧ out = X ∧ out.length ≤ 200 * n) := by
        have q := HL.out
        rw [hin, hn.out, List.take_of_length_le (by simp)] at q
        refine ⟨by rw [hV.out]; exact q.2.1, by rw [hX.out]; exact q.1, by rw [hn.out]; exact q.2.2⟩
      clear HR hV hX hn HL
      go_wp2
      go_ret2
      exact ⟨hidU ⟨out, by rw [HF.out.1]; rfl, fun _ => HF.out.2.1, HF.out.2.2⟩, hwr⟩

end Go.Proofs.YtcmahiphfpgadaaGreatDoor

/- The document's own Print. -/
namespace Go.Proofs.YtcmahiphfpgadaaGreatDoor
open Go.RowKit
set_option linter.unusedVariables false

/-- What the document's lines of statements are. -/
def RbW (B : Nat) (d : Nat) (bs : List ST) : Prop := ∀ a c w, RowS B w a c bs → B ≤ w.heap.size → Calls Tryz.prog 36 #[.slice a bs.length c, .int .i64 (d : Int)] w fun r w' => Hid (∃ s : List UInt8, r = .returned (.tuple #[.string ⟨s.toArray⟩, .bool (mayB d (bs.map ST.st))]) ∧ (mayB d (bs.map ST.st) = true → s = blT (blk (2 * d + 2)) (bs.map ST.st)) ∧ s.length ≤ 1000 * stWs (bs.map ST.st)) ∧ Below w.heap.size w w'

def rpR (p : Pg) : List UInt8 := if mayP p = true ∧ (pgT p).length ≤ 16384 then pgT p else []
def rpE (p : Pg) : Int := if mayP p = true then (if (pgT p).length ≤ 16384 then 0 else 3) else 2
theorem rp_no (p : Pg) (h : mayP p = false) : rpR p = [] ∧ rpE p = 2 := by
  unfold rpR rpE
  rw [h]
  exact ⟨rfl, rfl⟩
theorem rp_yes (p : Pg) (h : mayP p = true) (hl : (pgT p).length ≤ 16384) : rpR p = pgT p ∧ rpE p = 0 := by
  unfold rpR rpE
  rw [if_pos ⟨h, hl⟩, if_pos h, if_pos hl]
  exact ⟨rfl, rfl⟩
theorem rp_long (p : Pg) (h : mayP p = true) (hl : ¬ (pgT p).length ≤ 16384) : rpR p = [] ∧ rpE p = 3 := by
  unfold rpR rpE
  rw [if_neg (fun q => hl q.2), if_pos h, if_neg hl]
  exact ⟨rfl, rfl⟩
theorem mx_len (m : List UInt8) (h : isNm m = true) : m.length ≤ 24 := by
  unfold isNm at h
  simp at h
  omega

set_option maxRecDepth 100000 in
set_option maxHeartbeats 12800000 in
theorem refPrintP_at (B : Nat) (vs : List VT) (a1 : Option Addr) (c1 : Nat) (ms : List ByteArray) (a2 : Option Addr) (c2 : Nat) (ts : List TT) (a3 : Option Addr) (c3 : Nat) (w : World) (i1 : RowV B w a1 c1 vs) (i2 : RowN B w a2 c2 ms) (i3 : RowT B w a3 c3 ts) (hBw : B ≤ w.heap.size) (hB : ∀ t ∈ ts, RbW B 0 t.body) (hW : ((ts.map TT.th).map thW).sum ≤ 1048576) :
    Calls Tryz.prog 11 #[.agg [.slice a1 vs.length c1, .slice a2 ms.length c2, .slice a3 ts.length c3].toArray] w fun r w' => r = .returned (.tuple #[.string ⟨(rpR ⟨vs.map VT.vr, ms.map (fun s => s.data.toList), ts.map TT.th⟩).toArray⟩, .int .i64 (rpE ⟨vs.map VT.vr, ms.map (fun s => s.data.toList), ts.map TT.th⟩)]) ∧ Below w.heap.size w w' := by
  obtain ⟨n1, hn1⟩ : ∃ n, Hid (n = vs.length) := ⟨_, (rfl : vs.length = _)⟩
  obtain ⟨n2, hn2⟩ : ∃ n, Hid (n = ms.length) := ⟨_, (rfl : ms.length = _)⟩
  obtain ⟨n3, hn3⟩ : ∃ n, Hid (n = ts.length) := ⟨_, (rfl : ts.length = _)⟩
  have l1 := i1.1
  have l2 := i2.1
  have l2' := i2.2.1
  have l3 := i3.1
  have l3' := i3.2.1
  rw [← hn1.out] at l1
  rw [← hn2.out] at l2 l2'
  rw [← hn3.out] at l3 l3'
  obtain ⟨P, hP⟩ : ∃ P, Hid (P = (⟨vs.map VT.vr, ms.map (fun s => s.data.toList), ts.map TT.th⟩ : Pg)) := ⟨_, (rfl : (⟨vs.map VT.vr, ms.map (fun s => s.data.toList), ts.map TT.th⟩ : Pg) = _)⟩
  rw [← hP.out]
  obtain ⟨R, hR⟩ : ∃ R, Hid (R = rpR P) := ⟨_, (rfl : rpR P = _)⟩
  obtain ⟨E, hE⟩ : ∃ E, Hid (E = rpE P) := ⟨_, (rfl : rpE P = _)⟩
  rw [← hR.out, ← hE.out, ← hn1.out, ← hn2.out, ← hn3.out]
  have HNO : Hid (mayP P = false → Hid (R = [] ∧ E = 2)) := fun h => by rw [hR.out, hE.out]; exact rp_no P h
  have HR : Hid (RowV B w a1 c1 vs ∧ RowN B w a2 c2 ms ∧ RowT B w a3 c3 ts) := ⟨i1, i2, i3⟩
  have HBB : Hid (∀ t ∈ ts, RbW B 0 t.body) := hB
  have HW : Hid (((ts.map TT.th).map thW).sum ≤ 1048576) := hW
  clear i1 i2 i3 hB hW
  obtain ⟨O1, hO1⟩ : ∃ O, Hid (O = (vs.map VT.vr).all mayV) := ⟨_, (rfl : (vs.map VT.vr).all mayV = _)⟩
  have HMP : Hid (mayP P = (O1 && ((ms.map (fun s => s.data.toList)).all isNm && (ts.map TT.th).all mayT))) := by show _ = _; rw [hP.out, hO1.out]; rfl
  have K34 : Hid (∀ u, Below w.heap.size w u → Calls Tryz.prog 34 #[.slice a1 n1 c1, .string ⟨#[115, 104, 97, 114, 101, 100]⟩] u fun r w' => Hid (∃ s : List UInt8, r = .returned (.tuple #[.string ⟨s.toArray⟩, .bool O1]) ∧ (O1 = true → s = vrsT ([115, 104, 97, 114, 101, 100] ++ [32]) (vs.map VT.vr)) ∧ s.length ≤ 200 * n1) ∧ Below u.heap.size u w') := fun u hu => by
    rw [hO1.out, hn1.out]
    exact refVars_any B vs ⟨#[115, 104, 97, 114, 101, 100]⟩ (by decide) a1 c1 u (HR.out.1.old (Old.of_below hu hBw)) (by have := hu.size; omega)
  go_enter Tryz.func11, Tryz.ntmps11
  go_wp2_with (first
    | ((with_reducible show wpList _ _ _ _ _ _); refine wpList_box_at rfl 26 (.tmp 0) rfl [.slice a1 n1 c1, .slice a2 n2 c2, .slice a3 n3 c3] rfl ?_; intro w1 hA1 hb1 hs1; clear hs1; refine Hid.out ?_))
  refine hidU ?_
  obtain ⟨q0, q1, q2⟩ := pg_cells hA1
  have hC := K34.out w1 hb1
  clear K34
  go_wp2_with (go_at_call 34; refine hC.mono ?_; rintro r z ⟨hq, hbz⟩; obtain ⟨S1, rfl, hs1, hsl1⟩ := hq.out; refine Hid.out ?_)
  refine hidU ?_
  have hwz := hb1.trans (hbz.mono hb1.size)
  have HS1 : Hid (O1 = true → S1 = vrsT ([115, 104, 97, 114, 101, 100] ++ [32]) (vs.map VT.vr)) := hs1
  clear hC hq hs1 q0 q1 q2
  cases O1 with
  | false =>
    have HN := HNO.out (by rw [HMP.out]; rfl)
    clear HNO HR HBB HW HMP HS1 hP hR hE hO1
    go_wp2
    all_goals
      (go_ret2
       refine ⟨?_, hwz⟩
       rw [HN.out.1, HN.out.2]
       rfl)
  | true =>
    have HAz : Hid (At 26 z w.heap.size [.slice a1 n1 c1, .slice a2 n2 c2, .slice a3 n3 c3]) := hA1.below hbz
    clear hA1
    go_wp2_with fail
    go_loopw [4, 6] (fun v j wr => ∃ i : Nat, j = .int .i64 (i : Int) ∧ i ≤ n2 ∧ ∃ out : List UInt8, v = .string ⟨out.toArray⟩ ∧ Hid (out = S1 ++ mxsT ((ms.map (fun s => s.data.toList)).take i) ∧ ((ms.map (fun s => s.data.toList)).take i).all isNm = true ∧ out.length ≤ 200 * n1 + 40 * i) ∧ Below z.heap.size z wr) (fun v j _ => n2 - (intOf j).toNat)
    case atStart => exact ⟨0, rfl, Nat.zero_le _, S1, rfl, ⟨by simp [mxsT], rfl, by omega⟩, Below.refl _ _⟩
    case round =>
      obtain ⟨i, rfl, hi, out, rfl, HL, hbr⟩ := hrel
      have hwr := hwz.trans (hbr.mono hwz.size)
      have hAr := HAz.out.below hbr
      obtain ⟨q0, q1, q2⟩ := pg_cells hAr
      have hol : out.length ≤ 300000000 := by have := HL.out.2.2; omega
      have hoz : (⟨out.toArray⟩ : ByteArray).size = out.length := size_mk out
      by_cases hc : i < n2
      · obtain ⟨y, hy⟩ : ∃ k, ms[i]? = some k := ⟨ms[i]'(by rw [← hn2.out]; exact hc), by rw [List.getElem?_eq_getElem]⟩
        obtain ⟨g1, o1, rfl, hg1, hr1⟩ := (HR.out.2.1.old (Old.of_below hwr hBw)).at i y hy
        have HT : Hid ((ms.map (fun s : ByteArray => s.data.toList))[i]? = some y.data.toList) := by show _ = _; rw [List.getElem?_map, hy]; rfl
        have HMY : Hid (isNm y.data.toList = false → mayP P = false) := fun hf => by
          have : (ms.map (fun s : ByteArray => s.data.toList)).all isNm = false := by
            rw [List.all_eq_false]
            exact ⟨y.data.toList, List.mem_map_of_mem (f := fun s : ByteArray => s.data.toList) (List.mem_of_getElem? hy), by rw [hf]; simp⟩
          rw [HMP.out, this]
          rfl
        have hg : g1 < wr.heap.size := by have := hwr.size; omega
        have HQ : Hid (∀ u, Below wr.heap.size wr u → u.cell? ⟨g1, o1 + i, none⟩ = some (.string y)) := fun u hu => by
          rw [World.cell?_of_block (w := wr) (w' := u) (hu.block g1 hg)]
          exact hr1
        obtain ⟨M, hM⟩ : ∃ M, Hid (M = isNm (bytes y)) := ⟨_, (rfl : isNm (bytes y) = _)⟩
        have hC := refName_any y wr
        rw [← hM.out] at hC
        clear hy
        go_wp2_with (go_at_call 35; refine hC.mono ?_; rintro r z2 ⟨rfl, hbz2⟩; refine Hid.out ?_)
        refine hidU ?_
        have hwz2 := hwr.trans (hbz2.mono hwr.size)
        have hb2 := hbr.trans (hbz2.mono hbr.size)
        have r1 := HQ.out z2 hbz2
        have hA2 := hAr.below hbz2
        clear hC q0 q1 q2 hr1 HQ hAr hbz2 hbr hwr
        cases M with
        | false =>
          have HN := HNO.out (HMY.out hM.out.symm)
          clear HNO HR HBB HW HMP HS1 hP hR hE hO1 HMY HL HT hM
          go_wp2
          all_goals
            (go_ret2
             refine ⟨?_, hwz2⟩
             rw [HN.out.1, HN.out.2]
             rfl)
        | true =>
          obtain ⟨q0, q1, q2⟩ := pg_cells hA2
          have hyl := mx_len y.data.toList hM.out.symm
          have hyz : y.data.toList.length = y.size := by rw [Array.length_toList]; rfl
          have HF : Hid ((out ++ ([109, 117, 116, 101, 120, 32] ++ (y.data.toList ++ [59, 10])) = S1 ++ mxsT ((ms.map (fun s => s.data.toList)).take (i + 1))) ∧ ((ms.map (fun s => s.data.toList)).take (i + 1)).all isNm = true ∧ (out ++ ([109, 117, 116, 101, 120, 32] ++ (y.data.toList ++ [59, 10]))).length ≤ 200 * n1 + 40 * (i + 1)) := by
            refine ⟨?_, ?_, ?_⟩
            · unfold mxsT
              rw [flat_take _ _ _ _ HT.out, HL.out.1]
              unfold mxsT mxT
              simp
            · rw [List.take_add_one, HT.out, List.all_append, HL.out.2.1]
              show (true && (isNm y.data.toList && true)) = true
              rw [show isNm y.data.toList = true from hM.out.symm]
              rfl
            · have h3 := HL.out.2.2
              simp only [List.length_append, List.length_cons, List.length_nil]
              omega
          have HBA : Hid ((⟨out.toArray⟩ ++ ⟨#[109, 117, 116, 101, 120, 32]⟩ ++ y ++ ⟨#[59, 10]⟩ : ByteArray) = ⟨(out ++ ([109, 117, 116, 101, 120, 32] ++ (y.data.toList ++ [59, 10]))).toArray⟩) := by
            show _ = _
            apply ByteArray.ext
            simp
          clear HL HT hM HMY
          go_wp2
          all_goals first
            | (exfalso; omega)
            | skip
          go_roundw
          case rel => exact ⟨i + 1, by go_num, by omega, _, by rw [HBA.out], HF, hb2⟩
          case measure => simp [intOf]; omega
      · have hin : i = n2 := by omega
        have HL1 : Hid (out = S1 ++ mxsT (ms.map (fun s => s.data.toList)) ∧ (ms.map (fun s => s.data.toList)).all isNm = true) := by
          have q := HL.out
          rw [hin, hn2.out, List.take_of_length_le (by simp)] at q
          exact ⟨q.1, q.2.1⟩
        have HMT : Hid (mayP P = (ts.map TT.th).all mayT) := by show _ = _; rw [HMP.out, HL1.out.2]; rfl
        have HTX : Hid (pgT P = out ++ thsT (ts.map TT.th)) := by
          show _ = _
          rw [hP.out, HL1.out.1, HS1.out (by first | rfl | trivial)]
          unfold pgT
          rw [List.append_assoc]
          rfl
        have HRE : Hid (mayP P = true → ((pgT P).length ≤ 16384 → Hid (R = pgT P ∧ E = 0)) ∧ (¬ (pgT P).length ≤ 16384 → Hid (R = [] ∧ E = 3))) := fun h => by
          rw [hR.out, hE.out]
          exact ⟨fun q => rp_yes P h q, fun q => rp_long P h q⟩
        clear HL HL1 HMP HS1 hP hR hE hO1 hn2 hAr hsl1 hc
        subst hin
        go_wp2_with fail
        go_loopw [4, 7] (fun v j wr => ∃ i : Nat, j = .int .i64 (i : Int) ∧ i ≤ n3 ∧ ∃ o3 : List UInt8, v = .string ⟨o3.toArray⟩ ∧ Hid (o3 = out ++ thsT ((ts.map TT.th).take i) ∧ ((ts.map TT.th).take i).all mayT = true ∧ o3.length ≤ 300000000 + 3000 * (((ts.map TT.th).take i).map thW).sum) ∧ Below z.heap.size z wr) (fun v j _ => n3 - (intOf j).toNat)
        case atStart => exact ⟨0, rfl, Nat.zero_le _, out, rfl, ⟨by simp [thsT], rfl, by simp; omega⟩, hbr⟩
        case round =>
          clear q0 q1 q2 hbr hwr
          obtain ⟨i3, rfl, hi3, o3, rfl, HL, hbr⟩ := hrel
          have hwr := hwz.trans (hbr.mono hwz.size)
          have hAr := HAz.out.below hbr
          obtain ⟨q0, q1, q2⟩ := pg_cells hAr
          have hsum := sum_take_le thW (ts.map TT.th) i3
          have hol3 : o3.length ≤ 4000000000 := by have := HL.out.2.2; have := HW.out; omega
          have hoz3 : (⟨o3.toArray⟩ : ByteArray).size = o3.length := size_mk o3
          clear hsum
          by_cases hc3 : i3 < n3
          · obtain ⟨y, hy⟩ : ∃ k, ts[i3]? = some k := ⟨ts[i3]'(by rw [← hn3.out]; exact hc3), by rw [List.getElem?_eq_getElem]⟩
            obtain ⟨g3, o1, rfl, hg3, hr3, hx3⟩ := (HR.out.2.2.old (Old.of_below hwr hBw)).at i3 y hy
            have hmem := List.mem_of_getElem? hy
            have HT : Hid ((ts.map TT.th)[i3]? = some y.th) := by show _ = _; rw [List.getElem?_map, hy]; rfl
            have HMY : Hid (mayT y.th = false → Hid (R = [] ∧ E = 2)) := fun hf => HNO.out (by
              rw [HMT.out, List.all_eq_false]
              exact ⟨y.th, List.mem_map_of_mem hmem, by rw [hf]; simp⟩)
            have hbw := HBB.out y hmem
            have hth := sum_take_succ thW (ts.map TT.th) i3 y.th HT.out
            have hth2 := sum_take_le thW (ts.map TT.th) (i3 + 1)
            obtain ⟨nm, b1, d1, ls, b2, d2, bs⟩ := y
            have HTW : Hid ((((ts.map TT.th).take (i3 + 1)).map thW).sum = (((ts.map TT.th).take i3).map thW).sum + (nm.data.toList.length + 1 + ((ls.map VT.vr).map vrW).sum + stWs (bs.map ST.st)) ∧ (((ts.map TT.th).take (i3 + 1)).map thW).sum ≤ 1048576) := ⟨hth, Nat.le_trans hth2 HW.out⟩
            obtain ⟨m, hm1⟩ : ∃ n, Hid (n = ls.length) := ⟨_, (rfl : ls.length = _)⟩
            obtain ⟨m2, hm2⟩ : ∃ n, Hid (n = bs.length) := ⟨_, (rfl : bs.length = _)⟩
            have hml := len_le_sum vrW (fun v => by unfold vrW; omega) (ls.map VT.vr)
            rw [List.length_map, ← hm1.out] at hml
            simp only [TT.cells] at hr3
            rw [← hm1.out, ← hm2.out] at hr3
            have HX1 : Hid (RowV B wr b1 d1 ls ∧ RowS B wr b2 d2 bs) := hx3
            obtain ⟨F, hF⟩ : ∃ F, Hid (F = (ls.map VT.vr).all mayV) := ⟨_, (rfl : (ls.map VT.vr).all mayV = _)⟩
            obtain ⟨W, hWl⟩ : ∃ W, Hid (W = mayB 0 (bs.map ST.st)) := ⟨_, (rfl : mayB 0 (bs.map ST.st) = _)⟩
            obtain ⟨M, hM⟩ : ∃ M, Hid (M = isNm (bytes nm)) := ⟨_, (rfl : isNm (bytes nm) = _)⟩
            have HMT2 : Hid (mayT (TT.mk nm b1 d1 ls b2 d2 bs).th = (M && (F && W))) := by show _ = _; rw [hM.out, hF.out, hWl.out]; rfl
            have K34 : Hid (∀ u, Below wr.heap.size wr u → Calls Tryz.prog 34 #[.slice b1 m d1, .string ⟨#[32, 32, 108, 111, 99, 97, 108]⟩] u fun r w' => Hid (∃ s : List UInt8, r = .returned (.tuple #[.string ⟨s.toArray⟩, .bool F]) ∧ (F = true → s = vrsT ([32, 32, 108, 111, 99, 97, 108] ++ [32]) (ls.map VT.vr)) ∧ s.length ≤ 200 * m) ∧ Below u.heap.size u w') := fun u hu => by
              rw [hF.out, hm1.out]
              exact refVars_any B ls ⟨#[32, 32, 108, 111, 99, 97, 108]⟩ (by decide) b1 d1 u (HX1.out.1.old (Old.of_below hu (by have := hwr.size; omega))) (by have := hu.size; have := hwr.size; omega)
            have K36 : Hid (∀ u, Below wr.heap.size wr u → Calls Tryz.prog 36 #[.slice b2 m2 d2, .int .i64 0] u fun r w' => Hid (∃ s : List UInt8, r = .returned (.tuple #[.string ⟨s.toArray⟩, .bool W]) ∧ (W = true → s = blT [32, 32] (bs.map ST.st)) ∧ s.length ≤ 1000 * stWs (bs.map ST.st)) ∧ Below u.heap.size u w') := fun u hu => by
              rw [hWl.out, hm2.out]
              exact hbw b2 d2 u (RowS.old HX1.out.2 (Old.of_below hu (by have := hwr.size; omega))) (by have := hu.size; have := hwr.size; omega)
            clear hy hx3 hmem hbw hth hth2
            go_wp2_with (first
              | ((with_reducible show wpList _ _ _ _ _ _); refine wpList_load_mid (P := Tryz.prog) rfl 59 (.tmp 54) rfl g3 (o1 + i3 * 3) (by first | rfl | (simp; done)) [.string nm, .slice b1 m d1, .slice b2 m2 d2] _ hr3 Tryz.underlying59 rfl i42 ?_)
              | ((with_reducible show wpList _ _ _ _ _ _); refine wpList_alloc_at rfl 59 rfl _ 3 z42 ?_; intro x2 hA3 hb3 hs3)
              | ((with_reducible show wpList _ _ _ _ _ _); refine wpList_store_at (P := Tryz.prog) rfl 59 (.tmp 8) (.tmp 55) rfl wr.heap.size [.string nm, .slice b1 m d1, .slice b2 m2 d2] rfl rfl 59 _ hA3 i42 rfl (one59 _ _ _ _ _ _ _) ?_; intro x3 hAt hb4 hs4; refine Hid.out ?_))
            refine hidU ?_
            have hB3 : Below wr.heap.size wr x3 := hb4.below hb3 (Nat.le_refl _) (by omega)
            clear hr3 hA3 hb3 hs3 hb4 hs4 q0 q1 q2 hAr HX1
            obtain ⟨t0, t1, t2⟩ := th_cells hAt
            have hC := K34.out x3 hB3
            go_wp2_with (go_at_call 34; refine hC.mono ?_; rintro r x4 ⟨hq, hb4⟩; obtain ⟨sA, rfl, hsA, hlA⟩ := hq.out; refine Hid.out ?_)
            refine hidU ?_
            have hB4 := hB3.trans (hb4.mono hB3.size)
            have hAt4 := hAt.below hb4
            have HSA : Hid (F = true → sA = vrsT ([32, 32, 108, 111, 99, 97, 108] ++ [32]) (ls.map VT.vr)) := hsA
            clear hC hq hsA K34 t0 t1 t2 hAt hb4 hB3
            obtain ⟨t0, t1, t2⟩ := th_cells hAt4
            have hC := K36.out x4 hB4
            go_wp2_with (go_at_call 36; refine hC.mono ?_; rintro r x5 ⟨hq, hb5⟩; obtain ⟨sB, rfl, hsB, hlB⟩ := hq.out; refine Hid.out ?_)
            refine hidU ?_
            have hB5 := hB4.trans (hb5.mono hB4.size)
            have hAt5 := hAt4.below hb5
            have HSB : Hid (W = true → sB = blT [32, 32] (bs.map ST.st)) := hsB
            have HLB : Hid (sB.length ≤ 1000 * stWs (bs.map ST.st)) := hlB
            have hw5 := hwr.trans (hB5.mono hwr.size)
            clear hC hq hsB hlB K36 t0 t1 t2 hAt4 hb5 hB4
            obtain ⟨t0, t1, t2⟩ := th_cells hAt5
            cases F with
            | false =>
              have HN := HMY.out (by rw [HMT2.out]; simp)
              clear HNO HR HBB HW HMT HTX HRE HMY HL HT HTW HSA HSB HLB hF hWl hM HMT2
              go_wp2
              all_goals
                (go_ret2
                 refine ⟨?_, hw5⟩
                 rw [HN.out.1, HN.out.2]
                 rfl)
            | true =>
              cases W with
              | false =>
                have HN := HMY.out (by rw [HMT2.out]; simp)
                clear HNO HR HBB HW HMT HTX HRE HMY HL HT HTW HSA HSB HLB hF hWl hM HMT2
                go_wp2
                all_goals
                  (go_ret2
                   refine ⟨?_, hw5⟩
                   rw [HN.out.1, HN.out.2]
                   rfl)
              | true =>
                have hC := refName_any nm x5
                rw [← hM.out] at hC
                go_wp2_with (go_at_call 35; refine hC.mono ?_; rintro r x6 ⟨rfl, hb6⟩; refine Hid.out ?_)
                refine hidU ?_
                have hw6 := hw5.trans (hb6.mono hw5.size)
                have hB6 := hB5.trans (hb6.mono hB5.size)
                have hAt6 := hAt5.below hb6
                clear hC t0 t1 t2 hAt5 hb6 hB5
                cases M with
                | false =>
                  have HN := HMY.out (by rw [HMT2.out]; rfl)
                  clear HNO HR HBB HW HMT HTX HRE HMY HL HT HTW HSA HSB HLB hF hWl hM HMT2
                  go_wp2
                  all_goals
                    (go_ret2
                     refine ⟨?_, hw6⟩
                     rw [HN.out.1, HN.out.2]
                     rfl)
                | true =>
                  obtain ⟨t0, t1, t2⟩ := th_cells hAt6
                  have hnl := mx_len nm.data.toList hM.out.symm
                  have hnz : nm.data.toList.length = nm.size := by rw [Array.length_toList]; rfl
                  have hAz : (⟨sA.toArray⟩ : ByteArray).size = sA.length := size_mk sA
                  have hBz : (⟨sB.toArray⟩ : ByteArray).size = sB.length := size_mk sB
                  have hlA2 : sA.length ≤ 300000000 := by have := HTW.out; omega
                  have hlB2 : sB.length ≤ 2000000000 := by have := HTW.out; have := HLB.out; omega
                  have HF : Hid ((o3 ++ ([116, 104, 114, 101, 97, 100, 32] ++ (nm.data.toList ++ ([32, 123, 10] ++ (sA ++ (sB ++ [125, 10]))))) = out ++ thsT ((ts.map TT.th).take (i3 + 1))) ∧ ((ts.map TT.th).take (i3 + 1)).all mayT = true ∧ (o3 ++ ([116, 104, 114, 101, 97, 100, 32] ++ (nm.data.toList ++ ([32, 123, 10] ++ (sA ++ (sB ++ [125, 10])))))).length ≤ 300000000 + 3000 * (((ts.map TT.th).take (i3 + 1)).map thW).sum) := by
                    refine ⟨?_, ?_, ?_⟩
                    · unfold thsT
                      rw [flat_take _ _ _ _ HT.out, HL.out.1, HSA.out (by first | rfl | trivial), HSB.out (by first | rfl | trivial)]
                      unfold thsT thT
                      simp
                      rfl
                    · rw [List.take_add_one, HT.out, List.all_append, HL.out.2.1]
                      show (true && (mayT (TT.mk nm b1 d1 ls b2 d2 bs).th && true)) = true
                      rw [HMT2.out]
                      rfl
                    · have h3 := HL.out.2.2
                      have h4 := HTW.out.1
                      have h5 := HLB.out
                      simp only [List.length_append, List.length_cons, List.length_nil]
                      omega
                  have HBA : Hid ((⟨o3.toArray⟩ ++ ⟨#[116, 104, 114, 101, 97, 100, 32]⟩ ++ nm ++ ⟨#[32, 123, 10]⟩ ++ ⟨sA.toArray⟩ ++ ⟨sB.toArray⟩ ++ ⟨#[125, 10]⟩ : ByteArray) = ⟨(o3 ++ ([116, 104, 114, 101, 97, 100, 32] ++ (nm.data.toList ++ ([32, 123, 10] ++ (sA ++ (sB ++ [125, 10])))))).toArray⟩) := by
                    show _ = _
                    apply ByteArray.ext
                    simp
                  have hbz6 := hbr.trans (hB6.mono hbr.size)
                  clear HL HT HTW HSA HSB HLB hF hWl hM HMT2 HMY
                  go_wp2
                  all_goals first
                    | (exfalso; omega)
                    | skip
                  go_roundw
                  case rel => exact ⟨i3 + 1, by go_num, by omega, _, by rw [HBA.out], HF, hbz6⟩
                  case measure => simp [intOf]; omega
          · have hin3 : i3 = n3 := by omega
            have HY : Hid (o3 = pgT P ∧ mayP P = true) := by
              have q := HL.out
              rw [hin3, hn3.out, List.take_of_length_le (by simp)] at q
              exact ⟨by rw [HTX.out]; exact q.1, by rw [HMT.out]; exact q.2.1⟩
            by_cases hl : o3.length ≤ 16384
            · have HN := (HRE.out HY.out.2).1 (by rw [← HY.out.1]; exact hl)
              have HN2 : Hid (R = o3 ∧ E = 0) := ⟨by rw [HN.out.1, HY.out.1], HN.out.2⟩
              have hli : ¬ (16384 : Int) < (o3.length : Int) := by omega
              clear HNO HR HBB HW HMT HTX HRE HL HN HY hl
              go_wp2
              all_goals first
                | (exfalso; omega)
                | skip
              go_ret2
              refine ⟨?_, hwr⟩
              rw [HN2.out.1, HN2.out.2]
              rfl
            · have HN := (HRE.out HY.out.2).2 (by rw [← HY.out.1]; exact hl)
              have hli : (16384 : Int) < (o3.length : Int) := by omega
              clear HNO HR HBB HW HMT HTX HRE HL HY hl
              go_wp2
              all_goals first
                | (exfalso; omega)
                | skip
              go_ret2
              refine ⟨?_, hwr⟩
              rw [HN.out.1, HN.out.2]
              rfl

end Go.Proofs.YtcmahiphfpgadaaGreatDoor

/- The document's own lines of statements. -/
namespace Go.Proofs.YtcmahiphfpgadaaGreatDoor
open Go.RowKit
set_option linter.unusedVariables false

/-- What the document's lines of one statement are. -/
def RsW (B : Nat) (d : Nat) (x : ST) : Prop := ∀ w, x.In B w → B ≤ w.heap.size → Calls Tryz.prog 77 #[.agg x.cells.toArray, .int .i64 (d : Int)] w fun r w' => Hid (∃ s : List UInt8, r = .returned (.tuple #[.string ⟨s.toArray⟩, .bool (mayS d x.st)]) ∧ (mayS d x.st = true → s = blT (blk (2 * d + 2)) [x.st]) ∧ s.length ≤ 1000 * stW x.st) ∧ Below w.heap.size w w'

theorem mayB_all5 (d : Nat) (hd : d ≤ 32) : ∀ l : List St, mayB d l = l.all (mayS d)
  | [] => by rw [mayB]; rfl
  | s :: r => by rw [mayB, decide_eq_true hd, Bool.true_and, List.all_cons, mayB_all5 d hd r]
theorem mayB_deep (d : Nat) (hd : ¬ d ≤ 32) (l : List St) (hl : l ≠ []) : mayB d l = false := by
  cases l with
  | nil => exact absurd rfl hl
  | cons s r => rw [mayB, decide_eq_false hd]; rfl

set_option maxRecDepth 100000 in
set_option maxHeartbeats 6400000 in
theorem refStmts_of (B d : Nat) (hd : d ≤ 40) (xs : List ST) (hS : d ≤ 32 → ∀ x ∈ xs, RsW B d x) (hW : stWs (xs.map ST.st) ≤ 1048576) : RbW B d xs := by
  intro a c w h hBw
  obtain ⟨n, hn⟩ : ∃ n, Hid (n = xs.length) := ⟨_, (rfl : xs.length = _)⟩
  obtain ⟨V, hV⟩ : ∃ V, Hid (V = mayB d (xs.map ST.st)) := ⟨_, (rfl : mayB d (xs.map ST.st) = _)⟩
  obtain ⟨X, hX⟩ : ∃ X, Hid (X = blT (blk (2 * d + 2)) (xs.map ST.st)) := ⟨_, (rfl : blT (blk (2 * d + 2)) (xs.map ST.st) = _)⟩
  obtain ⟨N, hN⟩ : ∃ N, Hid (N = stWs (xs.map ST.st)) := ⟨_, (rfl : stWs (xs.map ST.st) = _)⟩
  have hl := h.1
  have hk := h.2.1
  rw [← hn.out] at hl hk ⊢
  rw [← hV.out, ← hX.out, ← hN.out]
  have HR : Hid (RowS B w a c xs) := h
  have HS : Hid (d ≤ 32 → ∀ x ∈ xs, RsW B d x) := hS
  have hN1 : N ≤ 1048576 := by rw [hN.out]; exact hW
  clear h hS hW
  by_cases hdn : d ≤ 32 ∨ n = 0
  · have HVA : Hid (V = (xs.map ST.st).all (mayS d)) := by
      show _ = _
      rw [hV.out]
      rcases hdn with q | q
      · exact mayB_all5 d q _
      · have : xs = [] := List.length_eq_zero_iff.1 (by rw [← hn.out]; exact q)
        rw [this]
        rfl
    have hdi : (decide ((32 : Int) < (d : Int)) && decide ((0 : Int) < (n : Int))) = false := by
      rw [Bool.and_eq_false_iff]
      rcases hdn with q | q
      · exact .inl (decide_eq_false (by omega))
      · exact .inr (decide_eq_false (by omega))
    obtain ⟨wpre, hwpre⟩ : ∃ u, u = w := ⟨_, rfl⟩
    have hgo : Calls Tryz.prog 36 #[.slice a n c, .int .i64 (d : Int)] w fun r w' => Hid (∃ s : List UInt8, r = .returned (.tuple #[.string ⟨s.toArray⟩, .bool V]) ∧ (V = true → s = X) ∧ s.length ≤ 1000 * N) ∧ Below w.heap.size w w' := by
      rcases hdn with hd32 | hn0
      · have hdl : ¬ (32 : Int) < (d : Int) := by omega
        clear hdi hwpre
        go_enter Tryz.func36, Tryz.ntmps36
        go_wp2_with fail
        go_loopw [6, 7] (fun v j wr => ∃ i : Nat, j = .int .i64 (i : Int) ∧ i ≤ n ∧ ∃ out : List UInt8, v = .string ⟨out.toArray⟩ ∧ Hid (out = blT (blk (2 * d + 2)) ((xs.map ST.st).take i) ∧ ((xs.map ST.st).take i).all (mayS d) = true ∧ out.length ≤ 1000 * stWs ((xs.map ST.st).take i)) ∧ Below w.heap.size w wr) (fun v j _ => n - (intOf j).toNat)
        case atStart => exact ⟨0, rfl, Nat.zero_le _, [], rfl, ⟨rfl, rfl, Nat.zero_le _⟩, Below.refl _ _⟩
        case round =>
          obtain ⟨i, rfl, hi, out, rfl, HL, hwr⟩ := hrel
          have hso := stWs_take_le (xs.map ST.st) i
          have hol : out.length ≤ 1100000000 := by have := HL.out.2.2; have := hN.out; omega
          have hoz : (⟨out.toArray⟩ : ByteArray).size = out.length := size_mk out
          clear hso
          by_cases hc : i < n
          · obtain ⟨y, hy⟩ : ∃ k, xs[i]? = some k := ⟨xs[i]'(by rw [← hn.out]; exact hc), by rw [List.getElem?_eq_getElem]⟩
            obtain ⟨g1, o1, rfl, hg1, hr1, hy1⟩ := (HR.out.old (Old.of_below hwr hBw)).at i y hy
            have hm := List.mem_of_getElem? hy
            have HT : Hid ((xs.map ST.st)[i]? = some y.st) := by show _ = _; rw [List.getElem?_map, hy]; rfl
            have hyw := stWs_mem (xs.map ST.st) y.st (List.mem_map_of_mem hm)
            have HYW : Hid (stW y.st ≤ 1048576) := by have := hN.out; show _ ≤ _; omega
            have hC := HS.out hd32 y hm wr hy1 (by have := hwr.size; omega)
            obtain ⟨Y, hY⟩ : ∃ Y, Hid (Y = mayS d y.st) := ⟨_, (rfl : mayS d y.st = _)⟩
            rw [← hY.out] at hC
            have HMY : Hid (Y = false → V = false) := fun hf => by
              rw [HVA.out, List.all_eq_false]
              exact ⟨y.st, List.mem_map_of_mem hm, by rw [← hY.out, hf]; simp⟩
            clear hy hy1 hm hyw
            go_wp2_with (first
              | ((with_reducible show wpList _ _ _ _ _ _); refine wpList_load_mid (P := Tryz.prog) rfl 87 (.tmp 26) rfl g1 (o1 + i * 9) (by first | rfl | (simp; done)) y.cells _ hr1 Tryz.underlying87 rfl (by rw [ST.cells9]; exact i38) ?_)
              | (go_at_call 77; refine hC.mono ?_; rintro r z ⟨hq, hbz⟩; obtain ⟨s, rfl, hs, hsl⟩ := hq.out; refine Hid.out ?_))
            refine hidU ?_
            have hwz := hwr.trans (hbz.mono hwr.size)
            have HSS : Hid (Y = true → s = blT (blk (2 * d + 2)) [y.st]) := hs
            have hsl2 : s.length ≤ 1100000000 := by have := HYW.out; omega
            have hsz : (⟨s.toArray⟩ : ByteArray).size = s.length := size_mk s
            have HSL : Hid (s.length ≤ 1000 * stW y.st) := hsl
            clear hC hq hs hr1 hsl
            cases Y with
            | false =>
              have HVf : Hid (V = false) := HMY.out rfl
              clear HR HS hV hX hN hn HVA HMY HL HT HYW HSS HSL hY
              go_wp2
              all_goals
                (go_ret2
                 exact ⟨hidU ⟨[], by rw [HVf.out]; rfl, (fun h => by rw [HVf.out] at h; cases h), by simp⟩, hwz⟩)
            | true =>
              have HF : Hid ((out ++ s = blT (blk (2 * d + 2)) ((xs.map ST.st).take (i + 1))) ∧ ((xs.map ST.st).take (i + 1)).all (mayS d) = true ∧ (out ++ s).length ≤ 1000 * stWs ((xs.map ST.st).take (i + 1))) := by
                refine ⟨?_, ?_, ?_⟩
                · rw [List.take_add_one, HT.out, HL.out.1, HSS.out (by first | rfl | trivial), ← blT_append]
                  rfl
                · rw [List.take_add_one, HT.out, List.all_append, HL.out.2.1]
                  show (true && (mayS d y.st && true)) = true
                  rw [← hY.out]
                  rfl
                · have h3 := HL.out.2.2
                  have h4 := HSL.out
                  rw [stWs_take_succ _ _ _ HT.out, List.length_append]
                  omega
              have HBA : Hid ((⟨out.toArray⟩ ++ ⟨s.toArray⟩ : ByteArray) = ⟨(out ++ s).toArray⟩) := ByteArray.mk_append_mk out s
              clear HL HT HMY HYW HSS HSL hY
              go_wp2
              all_goals first
                | (exfalso; omega)
                | skip
              go_roundw
              case rel => exact ⟨i + 1, by go_num, by omega, _, by rw [HBA.out], HF, hwz⟩
              case measure => simp [intOf]; omega
          · have hin : i = n := by omega
            have HF : Hid (V = true ∧ out = X ∧ out.length ≤ 1000 * N) := by
              have q := HL.out
              rw [hin, hn.out, List.take_of_length_le (by simp)] at q
              exact ⟨by rw [HVA.out]; exact q.2.1, by rw [hX.out]; exact q.1, by rw [hN.out]; exact q.2.2⟩
            clear HR HS hV hX hN hn HVA HL
            go_wp2
            go_ret2
            exact ⟨hidU ⟨out, by rw [HF.out.1]; rfl, fun _ => HF.out.2.1, HF.out.2.2⟩, hwr⟩
      · subst hn0
        by_cases hd32 : d ≤ 32
        · have hdl : ¬ (32 : Int) < (d : Int) := by omega
          clear hdi hwpre
          go_enter Tryz.func36, Tryz.ntmps36
          go_wp2_with fail
          go_loopw [6, 7] (fun v j wr => ∃ i : Nat, j = .int .i64 (i : Int) ∧ i ≤ 0 ∧ ∃ out : List UInt8, v = .string ⟨out.toArray⟩ ∧ Hid (out = blT (blk (2 * d + 2)) ((xs.map ST.st).take i) ∧ ((xs.map ST.st).take i).all (mayS d) = true ∧ out.length ≤ 1000 * stWs ((xs.map ST.st).take i)) ∧ Below w.heap.size w wr) (fun v j _ => 0 - (intOf j).toNat)
          case atStart => exact ⟨0, rfl, Nat.zero_le _, [], rfl, ⟨rfl, rfl, Nat.zero_le _⟩, Below.refl _ _⟩
          case round =>
            obtain ⟨i, rfl, hi, out, rfl, HL, hwr⟩ := hrel
            have hso := stWs_take_le (xs.map ST.st) i
            have hol : out.length ≤ 1100000000 := by have := HL.out.2.2; have := hN.out; omega
            have hoz : (⟨out.toArray⟩ : ByteArray).size = out.length := size_mk out
            clear hso
            by_cases hc : i < 0
            · exact absurd hc (Nat.not_lt_zero _)
            · have hin : i = 0 := by omega
              have HF : Hid (V = true ∧ out = X ∧ out.length ≤ 1000 * N) := by
                have q := HL.out
                rw [hin, hn.out, List.take_of_length_le (by simp)] at q
                exact ⟨by rw [HVA.out]; exact q.2.1, by rw [hX.out]; exact q.1, by rw [hN.out]; exact q.2.2⟩
              clear HR HS hV hX hN hn HVA HL
              go_wp2
              go_ret2
              exact ⟨hidU ⟨out, by rw [HF.out.1]; rfl, fun _ => HF.out.2.1, HF.out.2.2⟩, hwr⟩
        · have hdl : (32 : Int) < (d : Int) := by omega
          clear hdi hwpre
          go_enter Tryz.func36, Tryz.ntmps36
          go_wp2_with fail
          go_loopw [6, 7] (fun v j wr => ∃ i : Nat, j = .int .i64 (i : Int) ∧ i ≤ 0 ∧ ∃ out : List UInt8, v = .string ⟨out.toArray⟩ ∧ Hid (out = blT (blk (2 * d + 2)) ((xs.map ST.st).take i) ∧ ((xs.map ST.st).take i).all (mayS d) = true ∧ out.length ≤ 1000 * stWs ((xs.map ST.st).take i)) ∧ Below w.heap.size w wr) (fun v j _ => 0 - (intOf j).toNat)
          case atStart => exact ⟨0, rfl, Nat.zero_le _, [], rfl, ⟨rfl, rfl, Nat.zero_le _⟩, Below.refl _ _⟩
          case round =>
            obtain ⟨i, rfl, hi, out, rfl, HL, hwr⟩ := hrel
            have hso := stWs_take_le (xs.map ST.st) i
            have hol : out.length ≤ 1100000000 := by have := HL.out.2.2; have := hN.out; omega
            have hoz : (⟨out.toArray⟩ : ByteArray).size = out.length := size_mk out
            clear hso
            by_cases hc : i < 0
            · exact absurd hc (Nat.not_lt_zero _)
            · have hin : i = 0 := by omega
              have HF : Hid (V = true ∧ out = X ∧ out.length ≤ 1000 * N) := by
                have q := HL.out
                rw [hin, hn.out, List.take_of_length_le (by simp)] at q
                exact ⟨by rw [HVA.out]; exact q.2.1, by rw [hX.out]; exact q.1, by rw [hN.out]; exact q.2.2⟩
              clear HR HS hV hX hN hn HVA HL
              go_wp2
              go_ret2
              exact ⟨hidU ⟨out, by rw [HF.out.1]; rfl, fun _ => HF.out.2.1, HF.out.2.2⟩, hwr⟩
    exact hgo
  · have HVf : Hid (V = false) := by
      show _ = _
      rw [hV.out]
      refine mayB_deep d (by omega) _ fun q => ?_
      have : xs.length = 0 := by rw [← List.length_map (f := ST.st), q]; rfl
      have := hn.out
      omega
    have hdl : (32 : Int) < (d : Int) := by omega
    have hnl : (0 : Int) < (n : Int) := by omega
    clear HR HS hV hX hN hn
    go_enter Tryz.func36, Tryz.ntmps36
    go_wp2
    all_goals
      (go_ret2
       exact ⟨hidU ⟨[], by rw [HVf.out]; rfl, (fun h => by rw [HVf.out] at h; cases h), by simp⟩, Below.refl _ _⟩)

end Go.Proofs.YtcmahiphfpgadaaGreatDoor
