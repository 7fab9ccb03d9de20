/- Joined texts of the proof. -/
import Derived.Test.YtcmahiphfpgadaaGreatDoorJ8
import Derived.Test.YtcmahiphfpgadaaGreatDoorJ7
import Derived.Test.YtcmahiphfpgadaaGreatDoorJ6
import Derived.Deep.OwnRows
import Derived.Lib.SliceRun
import Derived.Test.YtcmahiphfpgadaaGreatDoorJ5
import Derived.Great.BuildSlice
import Derived.Deep.RegionHeld3
import Derived.Laws.AppendOwnNone

/- A program's text is written. -/
namespace Go.Proofs.YtcmahiphfpgadaaGreatDoor
open Go.RowKit
set_option linter.unusedVariables false

def mxT (m : List UInt8) : List UInt8 := [109, 117, 116, 101, 120, 32] ++ (m ++ [59, 10])
def mxsT (ms : List (List UInt8)) : List UInt8 := (ms.map mxT).flatten
def thT (t : Th) : List UInt8 := ([116, 104, 114, 101, 97, 100, 32] ++ (t.nm ++ [32, 123, 10])) ++ (vrsT [32, 32, 108, 111, 99, 97, 108, 32] t.locals ++ (blT [32, 32] t.body ++ [125, 10]))
def thsT (ts : List Th) : List UInt8 := (ts.map thT).flatten
def pgT (p : Pg) : List UInt8 := vrsT [115, 104, 97, 114, 101, 100, 32] p.shared ++ (mxsT p.mutexes ++ thsT p.threads)

theorem th_cells {w : World} {g : Nat} {nm : ByteArray} {s1 s2 : Value} (h : At 59 w g [.string nm, s1, s2]) : w.cell? ⟨g, 0, none⟩ = some (.string nm) ∧ w.cell? ⟨g, 1, none⟩ = some s1 ∧ w.cell? ⟨g, 2, none⟩ = some s2 := by
 refine ⟨?_, ?_, ?_⟩ <;> (rw [h.cell]; rfl)
theorem pg_cells {w : World} {g : Nat} {s1 s2 s3 : Value} (h : At 26 w g [s1, s2, s3]) : w.cell? ⟨g, 0, none⟩ = some s1 ∧ w.cell? ⟨g, 1, none⟩ = some s2 ∧ w.cell? ⟨g, 2, none⟩ = some s3 := by
 refine ⟨?_, ?_, ?_⟩ <;> (rw [h.cell]; rfl)

theorem flat_take {α : Type} (f : α → List UInt8) (l : List α) (i : Nat) (x : α) (h : l[i]? = some x) : ((l.take (i + 1)).map f).flatten = ((l.take i).map f).flatten ++ f x := by
 rw [List.take_add_one, h]
 simp
theorem flat_le {α : Type} (f : α → List UInt8) (l : List α) (i : Nat) : ((l.take i).map f).flatten.length ≤ (l.map f).flatten.length := by
 conv => rhs; rw [← List.take_append_drop i l]
 rw [List.map_append, List.flatten_append, List.length_append]
 omega

theorem mayT_body (t : TT) (h : mayT t.th = true) : mayB 0 (t.body.map ST.st) = true := by
 unfold mayT at h
 rw [Bool.and_eq_true, Bool.and_eq_true] at h
 exact h.2.2

theorem mayP_threads (p : PT) (h : mayP p.pg = true) : ∀ t ∈ p.threads, mayB 0 (t.body.map ST.st) = true := by
 unfold mayP PT.pg at h
 rw [Bool.and_eq_true, Bool.and_eq_true] at h
 intro t ht
 have h2 := h.2.2
 simp only [List.all_eq_true, List.mem_map, forall_exists_index, and_imp, forall_apply_eq_imp_iff₂] at h2
 exact mayT_body t (h2 t ht)

set_option maxRecDepth 100000 in
set_option maxHeartbeats 3200000 in
theorem program_of (B g m : Nat) (hm : m ≤ 9223372036854775807) (h16 : gB ≤ B) (a1 : Option Addr) (n1 c1 : Nat) (V : List UInt8) (a2 : Option Addr) (c2 : Nat) (ms : List ByteArray) (a3 : Option Addr) (c3 : Nat) (ts : List TT) (w : World) (F : List UInt8)
  (hr2 : RowN B w a2 c2 ms) (hr3 : RowT B w a3 c3 ts) (hT : Txt B w g m F) (hBw : B ≤ w.heap.size) (hTab : Tab w) (hlen : F.length + (V.length + ((mxsT (ms.map (fun s => s.data.toList))).length + (thsT (ts.map TT.th)).length)) ≤ 70368744177664)
  (hVs : ∀ w1, Below w.heap.size w w1 → Calls Tryz.prog 71 #[.pointer (some ⟨g, 0, none⟩), .string ⟨#[115, 104, 97, 114, 101, 100, 32]⟩, .slice a1 n1 c1] w1 fun r w' => r = .returned (.tuple #[]) ∧ Txt B w' g m (F ++ V) ∧ Wr B g w1 w')
  (hLs : ∀ t ∈ ts, ∀ w1 G, Txt B w1 g m G → t.In B w1 → B ≤ w1.heap.size → Tab w1 → (G ++ vrsT [32, 32, 108, 111, 99, 97, 108, 32] (t.locals.map VT.vr)).length ≤ 70368744177664 → Calls Tryz.prog 71 #[.pointer (some ⟨g, 0, none⟩), .string ⟨#[32, 32, 108, 111, 99, 97, 108, 32]⟩, .slice t.a1 t.locals.length t.c1] w1 fun r w' => r = .returned (.tuple #[]) ∧ Txt B w' g m (G ++ vrsT [32, 32, 108, 111, 99, 97, 108, 32] (t.locals.map VT.vr)) ∧ Wr B g w1 w')
  (hBs : ∀ t ∈ ts, ∀ w1 G, Txt B w1 g m G → t.In B w1 → B ≤ w1.heap.size → Tab w1 → (G ++ blT [32, 32] (t.body.map ST.st)).length ≤ 70368744177664 → Calls Tryz.prog 73 #[.pointer (some ⟨g, 0, none⟩), .slice t.a2 t.body.length t.c2, .string ⟨#[32, 32]⟩] w1 fun r w' => r = .returned (.tuple #[]) ∧ Txt B w' g m (G ++ blT [32, 32] (t.body.map ST.st)) ∧ Wr B g w1 w') :
  Calls Tryz.prog 31 #[.pointer (some ⟨g, 0, none⟩), .agg [.slice a1 n1 c1, .slice a2 ms.length c2, .slice a3 ts.length c3].toArray] w fun r w' => r = .returned (.tuple #[]) ∧ Txt B w' g m (F ++ (V ++ (mxsT (ms.map (fun s => s.data.toList)) ++ thsT (ts.map TT.th)))) ∧ Wr B g w w' := by
 have hBg := hT.base
 have hgw := hT.lt
 obtain ⟨n2, hn2⟩ : ∃ n, Hid (n = ms.length) := ⟨_, (rfl : ms.length = _)⟩
 obtain ⟨n3, hn3⟩ : ∃ n, Hid (n = ts.length) := ⟨_, (rfl : ts.length = _)⟩
 have hl2 := hr2.1
 have hk2 := hr2.2.1
 have hl3 := hr3.1
 have hk3 := hr3.2.1
 rw [← hn2.out] at hl2 hk2 ⊢
 rw [← hn3.out] at hl3 hk3 ⊢
 have HI : Hid (RowN B w a2 c2 ms ∧ RowT B w a3 c3 ts ∧ Tab w) := ⟨hr2, hr3, hTab⟩
 have HL : Hid (F.length + (V.length + ((mxsT (ms.map (fun s => s.data.toList))).length + (thsT (ts.map TT.th)).length)) ≤ 70368744177664) := hlen
 have HT : Hid (Txt B w g m F) := hT
 have HS : Hid (∀ t ∈ ts, ∀ w1 G, Txt B w1 g m G → t.In B w1 → B ≤ w1.heap.size → Tab w1 → (G ++ vrsT [32, 32, 108, 111, 99, 97, 108, 32] (t.locals.map VT.vr)).length ≤ 70368744177664 → Calls Tryz.prog 71 #[.pointer (some ⟨g, 0, none⟩), .string ⟨#[32, 32, 108, 111, 99, 97, 108, 32]⟩, .slice t.a1 t.locals.length t.c1] w1 fun r w' => r = .returned (.tuple #[]) ∧ Txt B w' g m (G ++ vrsT [32, 32, 108, 111, 99, 97, 108, 32] (t.locals.map VT.vr)) ∧ Wr B g w1 w') := hLs
 have HB : Hid (∀ t ∈ ts, ∀ w1 G, Txt B w1 g m G → t.In B w1 → B ≤ w1.heap.size → Tab w1 → (G ++ blT [32, 32] (t.body.map ST.st)).length ≤ 70368744177664 → Calls Tryz.prog 73 #[.pointer (some ⟨g, 0, none⟩), .slice t.a2 t.body.length t.c2, .string ⟨#[32, 32]⟩] w1 fun r w' => r = .returned (.tuple #[]) ∧ Txt B w' g m (G ++ blT [32, 32] (t.body.map ST.st)) ∧ Wr B g w1 w') := hBs
 clear hr2 hr3 hT hTab hlen hLs hBs
 go_enter Tryz.func31, Tryz.ntmps31
 go_wp2_with (first
  | ((with_reducible show wpList _ _ _ _ _ _); refine wpList_box_at rfl 26 (.tmp 1) rfl [.slice a1 n1 c1, .slice a2 n2 c2, .slice a3 n3 c3] rfl ?_; intro w1 hA1 hb1 hs1; clear hs1; refine Hid.out ?_))
 refine hidU ?_
 obtain ⟨q0, -, -⟩ := pg_cells hA1
 have hVs' := hVs w1 hb1
 clear hVs
 go_wp2_with fail
 refine hVs'.mono ?_
 rintro r w2 ⟨rfl, hT2, hW2⟩
 have hA2 := hW2.at hA1 (by omega) (by decide)
 have hw2 : Wr B g w w2 := (Wr.of_below hb1).trans hW2
 clear hVs' hA1 hb1 hW2 q0
 obtain ⟨-, q1, -⟩ := pg_cells hA2
 have H0 : Hid (Txt B w2 g m (F ++ V) ∧ Wr B g w w2 ∧ At 26 w2 w.heap.size [.slice a1 n1 c1, .slice a2 n2 c2, .slice a3 n3 c3]) := ⟨hT2, hw2, hA2⟩
 clear hT2 hw2 hA2
 go_wp2_with fail
 go_loopw [15] (fun j wr => ∃ i : Nat, j = .int .i64 (i : Int) ∧ i ≤ n2 ∧ Hid (Txt B wr g m (F ++ V ++ mxsT ((ms.take i).map (fun s => s.data.toList))) ∧ Wr B g w wr ∧ At 26 wr w.heap.size [.slice a1 n1 c1, .slice a2 n2 c2, .slice a3 n3 c3])) (fun j _ => n2 - (intOf j).toNat)
 case atStart => exact ⟨0, rfl, by omega, by simpa [mxsT] using H0.out.1, H0.out.2⟩
 case round =>
  obtain ⟨i, rfl, hi, hX⟩ := hrel
  by_cases hc : i < n2
  ·obtain ⟨s, hs⟩ : ∃ k, ms[i]? = some k := ⟨ms[i]'(by rw [← hn2.out]; exact hc), by rw [List.getElem?_eq_getElem]⟩
   obtain ⟨hTr, hWr, hAr⟩ := hX.out
   have hold : Old B w wr := Old.of_wr hWr hBg hBw
   obtain ⟨g1, o1, rfl, hg1, hcs⟩ := (HI.out.1.old hold).at i s hs
   have htk : mxsT ((ms.take (i + 1)).map (fun s => s.data.toList)) = mxsT ((ms.take i).map (fun s => s.data.toList)) ++ mxT s.data.toList := by
    unfold mxsT
    rw [List.map_map, List.map_map, flat_take _ ms i s hs]
    rfl
   have hle : (mxsT ((ms.take (i + 1)).map (fun s => s.data.toList))).length ≤ (mxsT (ms.map (fun s => s.data.toList))).length := by
    unfold mxsT
    rw [List.map_map, List.map_map]
    exact flat_le _ ms (i + 1)
   obtain ⟨G, hG⟩ : ∃ G, Hid (G = F ++ V ++ mxsT ((ms.take i).map (fun s => s.data.toList))) := ⟨_, (rfl : _ = F ++ V ++ mxsT ((ms.take i).map (fun s => s.data.toList)))⟩
   have hln : (G ++ mxT s.data.toList).length ≤ 70368744177664 := by
    have h1 := HL.out
    rw [htk, List.length_append] at hle
    rw [hG.out]
    simp only [List.length_append]
    omega
   have HG : Hid (F ++ V ++ mxsT ((ms.take (i + 1)).map (fun s => s.data.toList)) = G ++ mxT s.data.toList) := by
    show _ = _
    rw [htk, hG.out, List.append_assoc, List.append_assoc, List.append_assoc]
   have HK : Hid (Txt B wr g m G ∧ Wr B g w wr ∧ At 26 wr w.heap.size [.slice a1 n1 c1, .slice (some ⟨g1, o1, none⟩) n2 c2, .slice a3 n3 c3]) := ⟨by rw [hG.out]; exact hTr, hWr, hAr⟩
   clear hX hTr hWr hAr hold htk hle hG H0
   go_wp2_with (first
    | ((with_reducible show wpList _ _ _ _ _ _); refine wpList_strs rfl 3 #[(0, .const (.string ⟨#[109, 117, 116, 101, 120, 32]⟩)), (1, .tmp 20), (2, .const (.string ⟨#[59, 10]⟩))] rfl [⟨#[109, 117, 116, 101, 120, 32]⟩, s, ⟨#[59, 10]⟩] rfl (by decide) (by decide) (by kernel_rfl) ?_; intro w4 hA4 hb4 hs4; clear hs4))
   refine (put_one B g m _ [⟨#[109, 117, 116, 101, 120, 32]⟩, s, ⟨#[59, 10]⟩] (mxT s.data.toList) G (by simp [cat, mxT]) _ hm (HK.out.1.below hb4) hA4 hln (by simp)).mono ?_
   rintro r w5 ⟨rfl, hT5, hW5⟩
   have HF : Hid (Txt B w5 g m (F ++ V ++ mxsT ((ms.take (i + 1)).map (fun s => s.data.toList))) ∧ Wr B g w w5 ∧ At 26 w5 w.heap.size [.slice a1 n1 c1, .slice (some ⟨g1, o1, none⟩) n2 c2, .slice a3 n3 c3]) := by
    refine ⟨by rw [HG.out]; exact hT5, HK.out.2.1.trans ((Wr.of_below hb4).trans hW5), hW5.at (HK.out.2.2.below hb4) (by omega) (by decide)⟩
   clear hT5 hW5 hA4 hb4 HK HG hln hcs
   go_wp2
   go_roundw
   case rel => exact ⟨i + 1, by go_num, by omega, HF⟩
   case measure => simp [intOf]; omega
  ·have hin : i = n2 := by omega
   obtain ⟨hTr, hWr, hAr⟩ := hX.out
   obtain ⟨M, hMM⟩ : ∃ M, Hid (M = F ++ V ++ mxsT (ms.map (fun s => s.data.toList))) := ⟨_, (rfl : _ = F ++ V ++ mxsT (ms.map (fun s => s.data.toList)))⟩
   rw [hin, hn2.out, List.take_length, ← hMM.out] at hTr
   have hML : M.length = F.length + V.length + (mxsT (ms.map (fun s => s.data.toList))).length := by rw [hMM.out]; simp only [List.length_append]
   have H1 : Hid (Txt B wr g m M ∧ Wr B g w wr) := ⟨hTr, hWr⟩
   obtain ⟨-, -, q2⟩ := pg_cells hAr
   clear hX hTr hWr hAr H0 hin
   go_wp2_with fail
   go_loopw [27] (fun j wr => ∃ i : Nat, j = .int .i64 (i : Int) ∧ i ≤ n3 ∧ Hid (Txt B wr g m (M ++ thsT ((ts.take i).map TT.th)) ∧ Wr B g w wr)) (fun j _ => n3 - (intOf j).toNat)
   case atStart => exact ⟨0, rfl, by omega, by simpa [thsT] using H1.out.1, H1.out.2⟩
   case round =>
    clear H1 q2
    obtain ⟨i, rfl, hi, hX⟩ := hrel
    by_cases hc : i < n3
    ·obtain ⟨t, ht⟩ : ∃ k, ts[i]? = some k := ⟨ts[i]'(by rw [← hn3.out]; exact hc), by rw [List.getElem?_eq_getElem]⟩
     obtain ⟨hTr, hWr⟩ := hX.out
     have hold : Old B w wr := Old.of_wr hWr hBg hBw
     have hBr : B ≤ wr.heap.size := by have := hWr.size; omega
     have hgr := hTr.lt
     obtain ⟨g1, o1, rfl, hg1, hr1, hin1⟩ := (HI.out.2.1.old hold).at i t ht
     have hTb := HI.out.2.2.wr hWr hBg hBw h16
     have htk : thsT ((ts.take (i + 1)).map TT.th) = thsT ((ts.take i).map TT.th) ++ thT t.th := by
      unfold thsT
      rw [List.map_map, List.map_map, flat_take _ ts i t ht]
      rfl
     have hle : (thsT ((ts.take (i + 1)).map TT.th)).length ≤ (thsT (ts.map TT.th)).length := by
      unfold thsT
      rw [List.map_map, List.map_map]
      exact flat_le _ ts (i + 1)
     have hLt := HS.out t (List.mem_of_getElem? ht)
     have hBt := HB.out t (List.mem_of_getElem? ht)
     have hone := t.one
     obtain ⟨nm, b1, d1, locals, b2, d2, body⟩ := t
     obtain ⟨L, hL⟩ : ∃ L, Hid (L = vrsT [32, 32, 108, 111, 99, 97, 108, 32] (locals.map VT.vr)) := ⟨_, (rfl : _ = vrsT [32, 32, 108, 111, 99, 97, 108, 32] (locals.map VT.vr))⟩
     obtain ⟨K, hK⟩ : ∃ K, Hid (K = blT [32, 32] (body.map ST.st)) := ⟨_, (rfl : _ = blT [32, 32] (body.map ST.st))⟩
     obtain ⟨q, hq⟩ : ∃ q, Hid (q = locals.length) := ⟨_, (rfl : locals.length = _)⟩
     obtain ⟨k, hk⟩ : ∃ k, Hid (k = body.length) := ⟨_, (rfl : body.length = _)⟩
     simp only [TT.cells] at hr1 hone
     simp only [← hL.out, ← hK.out, ← hq.out, ← hk.out] at hLt hBt hr1 hone
     obtain ⟨P, hP⟩ : ∃ P, Hid (P = [116, 104, 114, 101, 97, 100, 32] ++ (nm.data.toList ++ [32, 123, 10])) := ⟨_, (rfl : _ = [116, 104, 114, 101, 97, 100, 32] ++ (nm.data.toList ++ [32, 123, 10]))⟩
     obtain ⟨G, hG⟩ : ∃ G, Hid (G = M ++ thsT ((ts.take i).map TT.th)) := ⟨_, (rfl : _ = M ++ thsT _)⟩
     have HG : Hid (M ++ thsT ((ts.take (i + 1)).map TT.th) = G ++ P ++ L ++ K ++ [125, 10]) := by
      show _ = _
      rw [htk, hG.out]
      simp only [thT, TT.th, hL.out, hK.out, hP.out, List.append_assoc]
     have hln : (G ++ P ++ L ++ K ++ [125, 10]).length ≤ 70368744177664 := by
      have h1 := HL.out
      rw [← HG.out, List.length_append, hML]
      omega
     have hl1 : (G ++ P).length ≤ 70368744177664 := by simp only [List.length_append] at hln ⊢; omega
     have hl4 : (G ++ P ++ L).length ≤ 70368744177664 := by simp only [List.length_append] at hln ⊢; omega
     have hl5 : (G ++ P ++ L ++ K).length ≤ 70368744177664 := by simp only [List.length_append] at hln ⊢; omega
     rw [← hG.out] at hTr
     have HK : Hid (Txt B wr g m G ∧ Wr B g w wr ∧ Tab wr ∧ TT.In B wr ⟨nm, b1, d1, locals, b2, d2, body⟩) := ⟨hTr, hWr, hTb, hin1⟩
     clear hX hold htk hle hTr hWr hTb hin1 hL hK hq hk hG
     go_wp2_with (first
      | ((with_reducible show wpList _ _ _ _ _ _); refine wpList_load_mid (P := Tryz.prog) rfl 59 (.tmp 29) rfl g1 (o1 + i * 3) (by first | rfl | (simp; done)) [.string nm, .slice b1 q d1, .slice b2 k d2] _ hr1 Tryz.underlying59 rfl i42 ?_)
      | ((with_reducible show wpList _ _ _ _ _ _); refine wpList_alloc_at rfl 59 rfl _ 3 z42 ?_; intro w2 hA2 hb2 hs2)
      | ((with_reducible show wpList _ _ _ _ _ _); refine wpList_store_at (P := Tryz.prog) rfl 59 (.tmp 7) (.tmp 30) rfl wr.heap.size [.string nm, .slice b1 q d1, .slice b2 k d2] rfl rfl 59 _ hA2 i42 rfl hone ?_; intro w3 hA3 hb3 hs3; refine Hid.out ?_))
     refine hidU ?_
     have hB3 : Below wr.heap.size wr w3 := hb3.below hb2 (Nat.le_refl _) (by omega)
     obtain ⟨u0, -, -⟩ := th_cells hA3
     clear hb3 hb2 hA2 hr1 hs2 hs3 hone
     go_wp2_with (first
      | ((with_reducible show wpList _ _ _ _ _ _); refine wpList_strs rfl 3 #[(0, .const (.string ⟨#[116, 104, 114, 101, 97, 100, 32]⟩)), (1, .tmp 33), (2, .const (.string ⟨#[32, 123, 10]⟩))] rfl [⟨#[116, 104, 114, 101, 97, 100, 32]⟩, nm, ⟨#[32, 123, 10]⟩] rfl (by decide) (by decide) (by kernel_rfl) ?_; intro w4 hA4 hb4 hs4; clear hs4))
     refine (put_one B g m _ [⟨#[116, 104, 114, 101, 97, 100, 32]⟩, nm, ⟨#[32, 123, 10]⟩] P G (by rw [hP.out]; simp [cat]) _ hm ((HK.out.1.below hB3).below hb4) hA4 hl1 (by simp)).mono ?_
     rintro r w5 ⟨rfl, hT5, hW5⟩
     have hwr5 : Wr B g wr w5 := (Wr.of_below hB3).trans ((Wr.of_below hb4).trans hW5)
     have hA5 := hW5.at (hA3.below hb4) (by omega) (by decide)
     obtain ⟨-, u1, -⟩ := th_cells hA5
     have hL5 := hLt w5 (G ++ P) hT5 (HK.out.2.2.2.old (Old.of_wr hwr5 hBg hBr)) (by have := hwr5.size; omega) (HK.out.2.2.1.wr hwr5 hBg hBr h16) hl4
     clear hLt hT5 hW5 hA4 hb4 hA3 hB3 u0
     go_wp2_with fail
     refine hL5.mono ?_
     rintro r w6 ⟨rfl, hT6, hW6⟩
     have hwr6 : Wr B g wr w6 := hwr5.trans hW6
     have hA6 := hW6.at hA5 (by omega) (by decide)
     obtain ⟨-, -, u2⟩ := th_cells hA6
     have hB6 := hBt w6 (G ++ P ++ L) hT6 (HK.out.2.2.2.old (Old.of_wr hwr6 hBg hBr)) (by have := hwr6.size; omega) (HK.out.2.2.1.wr hwr6 hBg hBr h16) hl5
     clear hL5 hT6 hW6 hA5 u1 hBt hwr5
     go_wp2_with fail
     refine hB6.mono ?_
     rintro r w7 ⟨rfl, hT7, hW7⟩
     have hwr7 : Wr B g wr w7 := hwr6.trans hW7
     clear hB6 hW7 hA6 u2 hwr6
     go_wp2_with (first
      | ((with_reducible show wpList _ _ _ _ _ _); refine wpList_strs rfl 1 #[(0, .const (.string ⟨#[125, 10]⟩))] rfl [⟨#[125, 10]⟩] rfl (by decide) (by decide) (by kernel_rfl) ?_; intro w8 hA8 hb8 hs8; clear hs8))
     refine (put_one B g m _ [⟨#[125, 10]⟩] [125, 10] (G ++ P ++ L ++ K) (by simp [cat]) _ hm (hT7.below hb8) hA8 hln (by simp)).mono ?_
     rintro r w9 ⟨rfl, hT9, hW9⟩
     have HF : Hid (Txt B w9 g m (M ++ thsT ((ts.take (i + 1)).map TT.th)) ∧ Wr B g w w9) := by
      refine ⟨by rw [HG.out]; exact hT9, HK.out.2.1.trans (hwr7.trans ((Wr.of_below hb8).trans hW9))⟩
     clear hT9 hW9 hA8 hb8 hwr7 HK HG hln hT7
     go_wp2
     go_roundw
     case rel => exact ⟨i + 1, by go_num, by omega, HF⟩
     case measure => simp [intOf]; omega
    ·have hin : i = n3 := by omega
     obtain ⟨hTr, hWr⟩ := hX.out
     rw [hin, hn3.out, List.take_length, hMM.out] at hTr
     have HY : Hid (Txt B wr g m (F ++ (V ++ (mxsT (ms.map (fun s => s.data.toList)) ++ thsT (ts.map TT.th)))) ∧ Wr B g w wr) := by
      refine ⟨?_, hWr⟩
      simpa only [List.append_assoc] using hTr
     clear hX hTr hWr hin
     go_wp2
     go_end0
     exact ⟨rfl, HY.out⟩

theorem program_any (B g m : Nat) (hm : m ≤ 9223372036854775807) (h16 : gB ≤ B) (p : PT) (hmay : mayP p.pg = true) (w : World) (F : List UInt8)
  (hin : p.In B w) (hT : Txt B w g m F) (hBw : B ≤ w.heap.size) (hTab : Tab w) (hlen : (F ++ pgT p.pg).length ≤ 70368744177664) :
  Calls Tryz.prog 31 #[.pointer (some ⟨g, 0, none⟩), .agg p.cells.toArray] w fun r w' => r = .returned (.tuple #[]) ∧ Txt B w' g m (F ++ pgT p.pg) ∧ Wr B g w w' := by
 have hth := mayP_threads p hmay
 obtain ⟨h1, h2, h3⟩ := hin
 have hpl : F.length + ((vrsT [115, 104, 97, 114, 101, 100, 32] (p.shared.map VT.vr)).length + ((mxsT (p.mutexes.map (fun s => s.data.toList))).length + (thsT (p.threads.map TT.th)).length)) ≤ 70368744177664 := by
  have := hlen
  unfold pgT PT.pg at this
  simpa only [List.length_append] using this
 exact program_of B g m hm h16 p.a1 p.shared.length p.c1 (vrsT [115, 104, 97, 114, 101, 100, 32] (p.shared.map VT.vr)) p.a2 p.c2 p.mutexes p.a3 p.c3 p.threads w F h2 h3 hT hBw hTab hpl
  (fun w1 hb => vars_any B g m hm h16 p.shared ⟨#[115, 104, 97, 114, 101, 100, 32]⟩ p.a1 p.c1 w1 F (h1.old (Old.of_below hb hBw)) (hT.below hb) (by have := hb.size; omega) (hTab.below hb (by omega)) (by show (F ++ vrsT [115, 104, 97, 114, 101, 100, 32] (p.shared.map VT.vr)).length ≤ _; rw [List.length_append]; omega))
  (fun t ht w1 G h h' h'' h3 h4 => vars_any B g m hm h16 t.locals ⟨#[32, 32, 108, 111, 99, 97, 108, 32]⟩ t.a1 t.c1 w1 G h'.1 h h'' h3 h4)
  (fun t ht w1 G h h' h'' h3 h4 => block_any B g m hm h16 t.a2 t.c2 t.body ⟨#[32, 32]⟩ 0 w1 G (by decide) (hth t ht) h'.2 h h'' h3 h4)

end Go.Proofs.YtcmahiphfpgadaaGreatDoor

/- tree.Expr. -/
namespace Go.Proofs.YtcmahiphfpgadaaGreatDoor
open Go.RowKit
set_option linter.unusedVariables false

theorem z54 : (Tryz.prog.info? 67).map (fun i => (i.zero, i.size)) = some (some (.agg [.pointer none, .slice none 0 0, .int .i64 0].toArray), 3) := by kernel_rfl
theorem i54 : (Tryz.prog.info? 67).map (·.size) = some 3 := by kernel_rfl
theorem one54 (m : Int) : ∀ v ∈ [Value.pointer none, .slice none 0 0, .int .i64 m], v.oneCell' = true := by
 intro v hv
 simp at hv
 rcases hv with rfl | rfl | rfl <;> rfl

theorem Txt.new {w : World} {g m B : Nat} (hB : B ≤ g) (h : At 67 w g [.pointer none, .slice none 0 0, .int .i64 (m : Int)]) : Txt B w g m [] :=
 ⟨[], .inl rfl, Nat.le_refl _, Raw.new hB h⟩

set_option maxRecDepth 100000 in
set_option maxHeartbeats 1600000 in
theorem expr4_any (e : ET) (B : Nat) (w : World) (h : e.In B w) (hBw : B ≤ w.heap.size) (hT : Tab w) (h16 : gB ≤ w.heap.size) (hlen : (exT e.ex).length ≤ 70368744177664) :
  Calls Tryz.prog 12 #[.agg e.cells.toArray] w fun r w' => r = .returned (.tuple #[.string ⟨(if mayE 32 e.ex then exT e.ex else []).toArray⟩, .int .i64 (if mayE 32 e.ex then 0 else 2)]) ∧ Below w.heap.size w w' := by
 have hM := fun w h hB hT h16 => mayExpr_any 32 e w B (by decide) h hB hT h16
 have hW : ∀ C g, gB ≤ C → mayE 32 e.ex = true → ExprW C g 9223372036854775807 e := fun C g hC hm => expr_any C g 9223372036854775807 (by decide) hC 32 e hm
 obtain ⟨M, hMM⟩ : ∃ M, Hid (M = mayE 32 e.ex) := ⟨_, (rfl : _ = mayE 32 e.ex)⟩
 rw [← hMM.out] at hM hW ⊢
 have HI : Hid (e.In B w ∧ Tab w) := ⟨h, hT⟩
 obtain ⟨X, hX⟩ : ∃ X, Hid (X = exT e.ex) := ⟨_, (rfl : exT e.ex = _)⟩
 rw [← hX.out] at hlen ⊢
 have HW : Hid (∀ C g, gB ≤ C → M = true → ExprW C g 9223372036854775807 e) := hW
 clear h hT hW
 go_enter Tryz.func12, Tryz.ntmps12
 go_wp2_with (first
  | ((with_reducible show wpList _ _ _ _ _ _); refine wpList_box_at rfl 34 (.tmp 0) rfl e.cells rfl ?_; intro w1 hA1 hb1 hs1; clear hs1)
  | ((with_reducible show wpList _ _ _ _ _ _); refine wpList_load_at (P := Tryz.prog) rfl 34 (.tmp 1) rfl w.heap.size rfl 34 e.cells hA1 _ Tryz.underlying34 rfl (by rw [ET.cells_len]; exact i29) ?_))
 refine (hM w1 (HI.out.1.old (Old.of_below hb1 hBw)) (by have := hb1.size; omega) (HI.out.2.below hb1 h16) (by have := hb1.size; omega)).mono ?_
 rintro r w2 ⟨rfl, hb2⟩
 have hA2 := hA1.below hb2
 have hw2 := hb1.trans (hb2.mono hb1.size)
 clear hM hA1 hb2 hb1
 cases M with
 | false =>
  go_wp2_with fail
  go_ret2
  exact ⟨rfl, hw2⟩
 | true =>
  go_wp2_with (first
   | ((with_reducible show wpList _ _ _ _ _ _); refine wpList_build_at (P := Tryz.prog) rfl 67 #[(1, .const (.int .i64 9223372036854775807))] rfl [.pointer none, .slice none 0 0, .int .i64 9223372036854775807] (by kernel_rfl) ?_)
   | ((with_reducible show wpList _ _ _ _ _ _); refine wpList_alloc_at rfl 67 rfl _ 3 z54 ?_; intro w3 hA3 hb3 hs3)
   | ((with_reducible show wpList _ _ _ _ _ _); refine wpList_store_at (P := Tryz.prog) rfl 67 (.tmp 4) (.tmp 8) rfl w2.heap.size [.pointer none, .slice none 0 0, .int .i64 9223372036854775807] rfl rfl 67 _ hA3 i54 rfl (one54 _) ?_; intro w4 hA4 hb4 hs4; refine Hid.out ?_))
  refine hidU ?_
  have hB4 : Below w2.heap.size w2 w4 := hb4.below hb3 (Nat.le_refl _) (by omega)
  have hw4 := hw2.trans (hB4.mono hw2.size)
  have hA24 := hA2.below hB4
  have hBw2 : w.heap.size ≤ w2.heap.size := hw2.size
  have hE := HW.out w2.heap.size w2.heap.size (by omega) trivial w4 [] ((HI.out.1.old (Old.of_below hw4 hBw)).up (by omega)) (Txt.new (Nat.le_refl _) hA4) (by have := hB4.size; omega) (HI.out.2.below hw4 h16) (by rw [← hX.out]; simpa using hlen)
  rw [← hX.out, List.nil_append] at hE
  clear HW hA3 hb3 hb4 hs3 hs4 hA2 hA4
  go_wp2_with (first
   | ((with_reducible show wpList _ _ _ _ _ _); refine wpList_load_at (P := Tryz.prog) rfl 34 (.tmp 1) rfl w.heap.size rfl 34 e.cells hA24 _ Tryz.underlying34 rfl (by rw [ET.cells_len]; exact i29) ?_))
  refine hE.mono ?_
  rintro r w5 ⟨rfl, hT5, hW5⟩
  obtain ⟨bs, hbs, hbl, hraw⟩ := hT5
  have hbX : bs = X := by
   rcases hbs with h | ⟨h, _⟩
   ·exact h
   ·omega
  subst hbX
  have hs5 : w2.heap.size ≤ w5.heap.size := by have := hB4.size; have := hW5.size; omega
  have hS := string_any w2.heap.size w2.heap.size _ bs w5 hraw hs5
  have hw5 : Below w.heap.size w w5 := hw4.trans ((hW5.below (Nat.le_refl _) (by have := hB4.size; omega)).mono hBw2)
  clear hE hW5 hraw hbs hA24 hw4 hB4
  go_wp2_with fail
  refine hS.mono ?_
  rintro r w6 ⟨rfl, hb6⟩
  go_wp2_with fail
  go_ret2
  exact ⟨rfl, hw5.trans (hb6.mono hBw2)⟩

end Go.Proofs.YtcmahiphfpgadaaGreatDoor

/- tree.Print. -/
namespace Go.Proofs.YtcmahiphfpgadaaGreatDoor
open Go.RowKit
set_option linter.unusedVariables false

mutual
theorem ST.In.up {B C : Nat} {w : World} (hBC : B ≤ C) : ∀ {s : ST}, s.In B w → s.In C w
 | .mk k nm e a1 c1 body a2 c2 els, h => by
  unfold ST.In at h ⊢
  obtain ⟨h1, h2, ⟨h3, h4, h5⟩, h6, h7, h8⟩ := h
  refine ⟨h1, h2.up hBC, ⟨h3, h4, ?_⟩, h6, h7, ?_⟩
  ·rcases h5 with h5 | ⟨g, o, ha, hg, hr⟩
   ·exact .inl h5
   ·exact .inr ⟨g, o, ha, by omega, ST.Row.up hBC hr⟩
  ·rcases h8 with h8 | ⟨g, o, ha, hg, hr⟩
   ·exact .inl h8
   ·exact .inr ⟨g, o, ha, by omega, ST.Row.up hBC hr⟩
theorem ST.Row.up {B C : Nat} {w : World} (hBC : B ≤ C) {g : Nat} : ∀ {ks : List ST} {o : Nat}, ST.Row B w g ks o → ST.Row C w g ks o
 | [], o, _ => trivial
 | e :: r, o, h => by
  unfold ST.Row at h ⊢
  exact ⟨h.1, ST.In.up hBC h.2.1, ST.Row.up hBC h.2.2⟩
end

theorem RowS.up {B C c : Nat} {w : World} {a : Option Addr} {ks : List ST} (hBC : B ≤ C) (h : RowS B w a c ks) : RowS C w a c ks := by
 obtain ⟨h1, h2, h | ⟨g, o, ha, hg, hr⟩⟩ := h
 ·exact ⟨h1, h2, .inl h⟩
 ·exact ⟨h1, h2, .inr ⟨g, o, ha, by omega, hr.up hBC⟩⟩
theorem RowV.up {B C c : Nat} {w : World} {a : Option Addr} {ks : List VT} (hBC : B ≤ C) (h : RowV B w a c ks) : RowV C w a c ks := by
 obtain ⟨h1, h2, h | ⟨g, o, ha, hg, hr⟩⟩ := h
 ·exact ⟨h1, h2, .inl h⟩
 ·exact ⟨h1, h2, .inr ⟨g, o, ha, by omega, hr⟩⟩
theorem RowN.up {B C c : Nat} {w : World} {a : Option Addr} {ks : List ByteArray} (hBC : B ≤ C) (h : RowN B w a c ks) : RowN C w a c ks := by
 obtain ⟨h1, h2, h | ⟨g, o, ha, hg, hr⟩⟩ := h
 ·exact ⟨h1, h2, .inl h⟩
 ·exact ⟨h1, h2, .inr ⟨g, o, ha, by omega, hr⟩⟩
theorem TT.In.up {B C : Nat} {w : World} (hBC : B ≤ C) {t : TT} (h : t.In B w) : t.In C w := ⟨h.1.up hBC, h.2.up hBC⟩
theorem RowT.up {B C c : Nat} {w : World} {a : Option Addr} {ks : List TT} (hBC : B ≤ C) (h : RowT B w a c ks) : RowT C w a c ks := by
 obtain ⟨h1, h2, h | ⟨g, o, ha, hg, hr⟩⟩ := h
 ·exact ⟨h1, h2, .inl h⟩
 ·exact ⟨h1, h2, .inr ⟨g, o, ha, by omega, fun i v hv => ⟨(hr i v hv).1, (hr i v hv).2.up hBC⟩⟩⟩
theorem PT.In.up {B C : Nat} {w : World} (hBC : B ≤ C) {p : PT} (h : p.In B w) : p.In C w := ⟨h.1.up hBC, h.2.1.up hBC, h.2.2.up hBC⟩
theorem PT.In.old {B : Nat} {w w' : World} (hO : Old B w w') {p : PT} (h : p.In B w) : p.In B w' := ⟨h.1.old hO, h.2.1.old hO, h.2.2.old hO⟩

theorem i46 : (Tryz.prog.info? 26).map (·.size) = some 3 := by kernel_rfl

set_option maxRecDepth 100000 in
set_option maxHeartbeats 1600000 in
theorem print8_any (p : PT) (B : Nat) (w : World) (h : p.In B w) (hBw : B ≤ w.heap.size) (hT : Tab w) (h16 : gB ≤ w.heap.size) (hlen : (pgT p.pg).length ≤ 70368744177664) :
  Calls Tryz.prog 10 #[.agg p.cells.toArray] w fun r w' => r = .returned (.tuple #[.string ⟨(if mayP p.pg = true ∧ (pgT p.pg).length ≤ 16384 then pgT p.pg else []).toArray⟩, .int .i64 (if mayP p.pg = true then (if (pgT p.pg).length ≤ 16384 then 0 else 3) else 2)]) ∧ Below w.heap.size w w' := by
 have hM := fun w h hB hT h16 => mayProgram_any p B w h hB hT h16
 have hW := fun C g (hC : gB ≤ C) hm w => program_any C g 16384 (by decide) hC p hm w []
 obtain ⟨M, hMM⟩ : ∃ M, Hid (M = mayP p.pg) := ⟨_, (rfl : _ = mayP p.pg)⟩
 rw [← hMM.out] at hM hW ⊢
 have HI : Hid (p.In B w ∧ Tab w) := ⟨h, hT⟩
 obtain ⟨X, hX⟩ : ∃ X, Hid (X = pgT p.pg) := ⟨_, (rfl : pgT p.pg = _)⟩
 rw [← hX.out] at hlen hW ⊢
 simp only [List.nil_append] at hW
 have HW : Hid (∀ C g, gB ≤ C → M = true → ∀ w, p.In C w → Txt C w g 16384 [] → C ≤ w.heap.size → Tab w → X.length ≤ 70368744177664 → Calls Tryz.prog 31 #[.pointer (some ⟨g, 0, none⟩), .agg p.cells.toArray] w fun r w' => r = .returned (.tuple #[]) ∧ Txt C w' g 16384 X ∧ Wr C g w w') := hW
 obtain ⟨cs, hcs⟩ : ∃ cs, Hid (cs = p.cells ∧ cs.length = 3) := ⟨_, (⟨rfl, rfl⟩ : p.cells = p.cells ∧ _)⟩
 rw [← hcs.out.1] at hM ⊢
 have hi46 : (Tryz.prog.info? 26).map (·.size) = some cs.length := by rw [hcs.out.2]; exact i46
 clear h hT hW
 obtain ⟨R, hR⟩ : ∃ R, Hid (R = (Value.tuple #[.string ⟨(if M = true ∧ X.length ≤ 16384 then X else []).toArray⟩, .int .i64 (if M = true then (if X.length ≤ 16384 then 0 else 3) else 2)])) := ⟨_, (rfl : _ = (Value.tuple #[.string ⟨(if M = true ∧ X.length ≤ 16384 then X else []).toArray⟩, .int .i64 (if M = true then (if X.length ≤ 16384 then 0 else 3) else 2)]))⟩
 rw [← hR.out]
 go_enter Tryz.func10, Tryz.ntmps10
 go_wp2_with (first
  | ((with_reducible show wpList _ _ _ _ _ _); refine wpList_box_at rfl 26 (.tmp 0) rfl cs rfl ?_; intro w1 hA1 hb1 hs1; clear hs1)
  | ((with_reducible show wpList _ _ _ _ _ _); refine wpList_load_at (P := Tryz.prog) rfl 26 (.tmp 1) rfl w.heap.size rfl 26 cs hA1 _ Tryz.underlying26 rfl hi46 ?_))
 refine (hM w1 (HI.out.1.old (Old.of_below hb1 hBw)) (by have := hb1.size; omega) (HI.out.2.below hb1 h16) (by have := hb1.size; omega)).mono ?_
 rintro r w2 ⟨rfl, hb2⟩
 have hA2 := hA1.below hb2
 have hw2 := hb1.trans (hb2.mono hb1.size)
 clear hM hA1 hb2 hb1
 cases M with
 | false =>
  go_wp2_with fail
  go_ret2
  exact ⟨by rw [hR.out]; rfl, hw2⟩
 | true =>
  go_wp2_with (first
   | ((with_reducible show wpList _ _ _ _ _ _); refine wpList_build_at (P := Tryz.prog) rfl 67 #[(1, .const (.int .i64 16384))] rfl [.pointer none, .slice none 0 0, .int .i64 16384] (by kernel_rfl) ?_)
   | ((with_reducible show wpList _ _ _ _ _ _); refine wpList_alloc_at rfl 67 rfl _ 3 z54 ?_; intro w3 hA3 hb3 hs3)
   | ((with_reducible show wpList _ _ _ _ _ _); refine wpList_store_at (P := Tryz.prog) rfl 67 (.tmp 4) (.tmp 8) rfl w2.heap.size [.pointer none, .slice none 0 0, .int .i64 16384] rfl rfl 67 _ hA3 i54 rfl (one54 _) ?_; intro w4 hA4 hb4 hs4; refine Hid.out ?_))
  refine hidU ?_
  have hB4 : Below w2.heap.size w2 w4 := hb4.below hb3 (Nat.le_refl _) (by omega)
  have hw4 := hw2.trans (hB4.mono hw2.size)
  have hA24 := hA2.below hB4
  have hBw2 : w.heap.size ≤ w2.heap.size := hw2.size
  have hE := HW.out w2.heap.size w2.heap.size (by omega) trivial w4 ((HI.out.1.old (Old.of_below hw4 hBw)).up (by omega)) (Txt.new (Nat.le_refl _) hA4) (by have := hB4.size; omega) (HI.out.2.below hw4 h16) hlen
  rw [← hcs.out.1] at hE
  clear HW hA3 hb3 hb4 hs3 hs4 hA2 hA4
  go_wp2_with (first
   | ((with_reducible show wpList _ _ _ _ _ _); refine wpList_load_at (P := Tryz.prog) rfl 26 (.tmp 1) rfl w.heap.size rfl 26 cs hA24 _ Tryz.underlying26 rfl hi46 ?_))
  refine hE.mono ?_
  rintro r w5 ⟨rfl, hT5, hW5⟩
  obtain ⟨bs, hbs, hbl, hraw⟩ := hT5
  have hs5 : w2.heap.size ≤ w5.heap.size := by have := hB4.size; have := hW5.size; omega
  have hS := string_any w2.heap.size w2.heap.size _ bs w5 hraw hs5
  have hN := len_any w2.heap.size w2.heap.size _ bs w5 hraw
  have hw5 : Below w.heap.size w w5 := hw4.trans ((hW5.below (Nat.le_refl _) (by have := hB4.size; omega)).mono hBw2)
  have hbl' : bs.length ≤ 70368744177664 := by omega
  clear hE hW5 hraw hA24 hw4 hB4
  go_wp2_with fail
  refine hN.mono ?_
  rintro r w6 ⟨rfl, rfl⟩
  clear hN
  by_cases hc : 16384 < bs.length
  ·have hXl : ¬ X.length ≤ 16384 := by omega
   go_wp2_with fail
   go_ret2
   exact ⟨by rw [hR.out]; simp [hXl], hw5⟩
  ·have hbX : bs = X := by
    rcases hbs with h | ⟨h, _⟩
    ·exact h
    ·omega
   have hXl : X.length ≤ 16384 := by rw [← hbX]; omega
   go_wp2_with fail
   refine hS.mono ?_
   rintro r w7 ⟨rfl, hb7⟩
   go_wp2_with fail
   go_ret2
   refine ⟨?_, hw5.trans (hb7.mono hBw2)⟩
   rw [hR.out]
   simp [hXl]

end Go.Proofs.YtcmahiphfpgadaaGreatDoor

/- Copies: where they lie, and laws of a made row. -/
namespace Go.Proofs.YtcmahiphfpgadaaGreatDoor
open Go.RowKit
set_option linter.unusedVariables false

mutual
/-- All rows lie in blocks from A on. -/
def ET.Up (A : Nat) : ET → Prop
 | .mk _ _ _ _ a _ ks => (ks = [] ∨ ∃ g o, a = some ⟨g, o, none⟩ ∧ A ≤ g) ∧ ET.Ups A ks
def ET.Ups (A : Nat) : List ET → Prop
 | [] => True
 | e :: r => e.Up A ∧ ET.Ups A r
end
mutual
def ST.Up (A : Nat) : ST → Prop
 | .mk _ _ e a1 _ b1 a2 _ b2 => e.Up A ∧ ((b1 = [] ∨ ∃ g o, a1 = some ⟨g, o, none⟩ ∧ A ≤ g) ∧ ST.Ups A b1) ∧ (b2 = [] ∨ ∃ g o, a2 = some ⟨g, o, none⟩ ∧ A ≤ g) ∧ ST.Ups A b2
def ST.Ups (A : Nat) : List ST → Prop
 | [] => True
 | e :: r => e.Up A ∧ ST.Ups A r
end
def VT.Up (A : Nat) (v : VT) : Prop := True
def VT.Ups (A : Nat) (l : List VT) : Prop := True
def TT.Up (A : Nat) (t : TT) : Prop := (t.locals = [] ∨ ∃ g o, t.a1 = some ⟨g, o, none⟩ ∧ A ≤ g) ∧ (t.body = [] ∨ ∃ g o, t.a2 = some ⟨g, o, none⟩ ∧ A ≤ g) ∧ ST.Ups A t.body
def TT.Ups (A : Nat) (l : List TT) : Prop := ∀ t ∈ l, t.Up A

theorem ET.Ups.of {A : Nat} : ∀ {l : List ET}, (∀ e ∈ l, e.Up A) → ET.Ups A l
 | [], _ => trivial
 | e :: r, h => by unfold ET.Ups; exact ⟨h e List.mem_cons_self, ET.Ups.of fun x hx => h x (List.mem_cons_of_mem _ hx)⟩
theorem ST.Ups.of {A : Nat} : ∀ {l : List ST}, (∀ e ∈ l, e.Up A) → ST.Ups A l
 | [], _ => trivial
 | e :: r, h => by unfold ST.Ups; exact ⟨h e List.mem_cons_self, ST.Ups.of fun x hx => h x (List.mem_cons_of_mem _ hx)⟩
theorem VT.Ups.of {A : Nat} {l : List VT} (h : ∀ e ∈ l, e.Up A) : VT.Ups A l := trivial
theorem TT.Ups.of {A : Nat} {l : List TT} (h : ∀ e ∈ l, e.Up A) : TT.Ups A l := h

theorem at_mono {A B : Nat} (h : A ≤ B) {α : Type} {l : List α} {a : Option Addr} (k : l = [] ∨ ∃ g o, a = some ⟨g, o, none⟩ ∧ B ≤ g) : l = [] ∨ ∃ g o, a = some ⟨g, o, none⟩ ∧ A ≤ g := by
 rcases k with k | ⟨g, o, k1, k2⟩
 ·exact .inl k
 ·exact .inr ⟨g, o, k1, by omega⟩
mutual
theorem ET.Up.mono {A B : Nat} (h : A ≤ B) : ∀ {e : ET}, e.Up B → e.Up A
 | .mk _ _ _ _ a _ ks, k => by
  unfold ET.Up at k ⊢
  exact ⟨at_mono h k.1, ET.Ups.mono h k.2⟩
theorem ET.Ups.mono {A B : Nat} (h : A ≤ B) : ∀ {l : List ET}, ET.Ups B l → ET.Ups A l
 | [], _ => trivial
 | e :: r, k => by unfold ET.Ups at k ⊢; exact ⟨ET.Up.mono h k.1, ET.Ups.mono h k.2⟩
end
mutual
theorem ST.Up.mono {A B : Nat} (h : A ≤ B) : ∀ {e : ST}, e.Up B → e.Up A
 | .mk _ _ e a1 _ b1 a2 _ b2, k => by
  unfold ST.Up at k ⊢
  exact ⟨k.1.mono h, ⟨at_mono h k.2.1.1, ST.Ups.mono h k.2.1.2⟩, at_mono h k.2.2.1, ST.Ups.mono h k.2.2.2⟩
theorem ST.Ups.mono {A B : Nat} (h : A ≤ B) : ∀ {l : List ST}, ST.Ups B l → ST.Ups A l
 | [], _ => trivial
 | e :: r, k => by unfold ST.Ups at k ⊢; exact ⟨ST.Up.mono h k.1, ST.Ups.mono h k.2⟩
end
theorem VT.Up.mono {A B : Nat} (h : A ≤ B) {e : VT} (k : e.Up B) : e.Up A := trivial
theorem TT.Up.mono {A B : Nat} (h : A ≤ B) {e : TT} (k : e.Up B) : e.Up A := ⟨at_mono h k.1, at_mono h k.2.1, k.2.2.mono h⟩

/-- Blocks from A to B stand. -/
def Mid (A B : Nat) (w w' : World) : Prop := ∀ k, A ≤ k → k < B → w'.heap[k]? = w.heap[k]?
theorem Mid.range {A B g o : Nat} {w w' : World} {cs : List Value} (h : Mid A B w w') (hA : A ≤ g) (hB : g < B) (hr : w.rangeAt g o cs) : w'.rangeAt g o cs := fun j v hj => by
 rw [World.cell?_of_block (w := w) (w' := w') (h g hA hB)]
 exact hr j v hj
mutual
theorem ET.In.keep {A B : Nat} {w w' : World} (hM : Mid A B w w') : ∀ {e : ET}, e.In B w → e.Up A → e.In B w'
 | .mk op t b nm a c ks, h, u => by
  unfold ET.In at h ⊢
  unfold ET.Up at u
  obtain ⟨h1, h2, h3, h4, h5, h6⟩ := h
  refine ⟨h1, h2, h3, h4, h5, ?_⟩
  rcases h6 with h6 | ⟨g, o, ha, hg, hr⟩
  ·exact .inl h6
  ·rcases u.1 with hk | ⟨g', o', ha', hg'⟩
   ·exact .inl hk
   ·rw [ha] at ha'
    cases ha'
    exact .inr ⟨g, o, ha, hg, ET.Row.keep hM hg' hg hr u.2⟩
theorem ET.Row.keep {A B : Nat} {w w' : World} (hM : Mid A B w w') {g : Nat} (hA : A ≤ g) (hg : g < B) : ∀ {ks : List ET} {o : Nat}, ET.Row B w g ks o → ET.Ups A ks → ET.Row B w' g ks o
 | [], o, _, _ => trivial
 | e :: r, o, h, u => by
  unfold ET.Row at h ⊢
  unfold ET.Ups at u
  exact ⟨hM.range hA hg h.1, ET.In.keep hM h.2.1 u.1, ET.Row.keep hM hA hg h.2.2 u.2⟩
end
mutual
theorem ST.In.keep {A B : Nat} {w w' : World} (hM : Mid A B w w') : ∀ {e : ST}, e.In B w → e.Up A → e.In B w'
 | .mk k nm e a1 c1 b1 a2 c2 b2, h, u => by
  unfold ST.In at h ⊢
  unfold ST.Up at u
  obtain ⟨h1, h2, ⟨h3, h4, h5⟩, h6, h7, h8⟩ := h
  refine ⟨h1, h2.keep hM u.1, ⟨h3, h4, ?_⟩, h6, h7, ?_⟩
  ·rcases h5 with h5 | ⟨g, o, ha, hg, hr⟩
   ·exact .inl h5
   ·rcases u.2.1.1 with hk | ⟨g', o', ha', hg'⟩
    ·exact .inl hk
    ·rw [ha] at ha'
     cases ha'
     exact .inr ⟨g, o, ha, hg, ST.Row.keep hM hg' hg hr u.2.1.2⟩
  ·rcases h8 with h8 | ⟨g, o, ha, hg, hr⟩
   ·exact .inl h8
   ·rcases u.2.2.1 with hk | ⟨g', o', ha', hg'⟩
    ·exact .inl hk
    ·rw [ha] at ha'
     cases ha'
     exact .inr ⟨g, o, ha, hg, ST.Row.keep hM hg' hg hr u.2.2.2⟩
theorem ST.Row.keep {A B : Nat} {w w' : World} (hM : Mid A B w w') {g : Nat} (hA : A ≤ g) (hg : g < B) : ∀ {ks : List ST} {o : Nat}, ST.Row B w g ks o → ST.Ups A ks → ST.Row B w' g ks o
 | [], o, _, _ => trivial
 | e :: r, o, h, u => by
  unfold ST.Row at h ⊢
  unfold ST.Ups at u
  exact ⟨hM.range hA hg h.1, ST.In.keep hM h.2.1 u.1, ST.Row.keep hM hA hg h.2.2 u.2⟩
end
theorem VT.In.keep {A B : Nat} {w w' : World} (hM : Mid A B w w') {e : VT} (h : e.In B w) (u : e.Up A) : e.In B w' := h
theorem VT.In.up {B C : Nat} {w : World} (hBC : B ≤ C) {v : VT} (h : v.In B w) : v.In C w := h
theorem TT.In.keep {A B : Nat} {w w' : World} (hM : Mid A B w w') {e : TT} (h : e.In B w) (u : e.Up A) : e.In B w' := by
 obtain ⟨⟨l1, l2, l3⟩, b1, b2, b3⟩ := h
 obtain ⟨u1, u2, u3⟩ := u
 refine ⟨⟨l1, l2, ?_⟩, b1, b2, ?_⟩
 ·rcases l3 with l3 | ⟨g, o, ha, hg, hr⟩
  ·exact .inl l3
  ·rcases u1 with hk | ⟨g', o', ha', hg'⟩
   ·exact .inl hk
   ·rw [ha] at ha'
    cases ha'
    exact .inr ⟨g, o, ha, hg, fun i v hv => ⟨hM.range hg' hg (hr i v hv).1, (hr i v hv).2⟩⟩
 ·rcases b3 with b3 | ⟨g, o, ha, hg, hr⟩
  ·exact .inl b3
  ·rcases u2 with hk | ⟨g', o', ha', hg'⟩
   ·exact .inl hk
   ·rw [ha] at ha'
    cases ha'
    exact .inr ⟨g, o, ha, hg, ST.Row.keep hM hg' hg hr u3⟩

theorem ET.Row.of {B g : Nat} {w : World} : ∀ {ks : List ET} {o : Nat}, (∀ (i : Nat) (e : ET), ks[i]? = some e → w.rangeAt g (o + i * 5) e.cells ∧ e.In B w) → ET.Row B w g ks o
 | [], o, _ => trivial
 | e :: r, o, h => by
  unfold ET.Row
  refine ⟨by simpa using (h 0 e rfl).1, (h 0 e rfl).2, ET.Row.of fun i x hx => ?_⟩
  have := h (i + 1) x (by simpa using hx)
  rwa [show o + (i + 1) * 5 = o + 5 + i * 5 by omega] at this
theorem ST.Row.of {B g : Nat} {w : World} : ∀ {ks : List ST} {o : Nat}, (∀ (i : Nat) (e : ST), ks[i]? = some e → w.rangeAt g (o + i * 9) e.cells ∧ e.In B w) → ST.Row B w g ks o
 | [], o, _ => trivial
 | e :: r, o, h => by
  unfold ST.Row
  refine ⟨by simpa using (h 0 e rfl).1, (h 0 e rfl).2, ST.Row.of fun i x hx => ?_⟩
  have := h (i + 1) x (by simpa using hx)
  rwa [show o + (i + 1) * 9 = o + 9 + i * 9 by omega] at this
theorem RowE.of {B g c : Nat} {w : World} {ks : List ET} (h1 : ks.length ≤ 1048576) (h2 : ks.length ≤ c) (hg : g < B) (h : ∀ (i : Nat) (e : ET), ks[i]? = some e → w.rangeAt g (i * 5) e.cells ∧ e.In B w) : RowE B w (some ⟨g, 0, none⟩) c ks :=
 ⟨h1, h2, .inr ⟨g, 0, rfl, hg, ET.Row.of fun i e he => by rw [Nat.zero_add]; exact h i e he⟩⟩
theorem RowS.of {B g c : Nat} {w : World} {ks : List ST} (h1 : ks.length ≤ 1048576) (h2 : ks.length ≤ c) (hg : g < B) (h : ∀ (i : Nat) (e : ST), ks[i]? = some e → w.rangeAt g (i * 9) e.cells ∧ e.In B w) : RowS B w (some ⟨g, 0, none⟩) c ks :=
 ⟨h1, h2, .inr ⟨g, 0, rfl, hg, ST.Row.of fun i e he => by rw [Nat.zero_add]; exact h i e he⟩⟩
theorem RowV.of {B g c : Nat} {w : World} {ks : List VT} (h1 : ks.length ≤ 1048576) (h2 : ks.length ≤ c) (hg : g < B) (h : ∀ (i : Nat) (e : VT), ks[i]? = some e → w.rangeAt g (i * 3) e.cells ∧ e.In B w) : RowV B w (some ⟨g, 0, none⟩) c ks :=
 ⟨h1, h2, .inr ⟨g, 0, rfl, hg, fun i e he => by rw [Nat.zero_add]; exact h i e he⟩⟩
theorem RowT.of {B g c : Nat} {w : World} {ks : List TT} (h1 : ks.length ≤ 1048576) (h2 : ks.length ≤ c) (hg : g < B) (h : ∀ (i : Nat) (e : TT), ks[i]? = some e → w.rangeAt g (i * 3) e.cells ∧ e.In B w) : RowT B w (some ⟨g, 0, none⟩) c ks :=
 ⟨h1, h2, .inr ⟨g, 0, rfl, hg, fun i e he => by rw [Nat.zero_add]; exact h i e he⟩⟩

theorem But.setCells {g : Nat} {a : World} : ∀ (vs : List Value) (o : Nat) (w : World), But g a w → But g a (w.setCells g o vs)
 | [], o, w, h => h
 | v :: vs, o, w, h => But.setCells vs (o + 1) _ (h.setCell o v)
theorem size_setCells (g : Nat) : ∀ (vs : List Value) (o : Nat) (w : World), (w.setCells g o vs).heap.size = w.heap.size
 | [], o, w => rfl
 | v :: vs, o, w => by
  show ((w.setCell ⟨g, o, none⟩ v).setCells g (o + 1) vs).heap.size = _
  rw [size_setCells]
  simp

section
variable {P : Program} {ops : Array Oper} {rest : List Oper} {o : Oper} {a : Act} {w : World} {Q : Exit → Act → World → Prop}
end
end Go.Proofs.YtcmahiphfpgadaaGreatDoor

/- Rows are copied. -/
namespace Go.Proofs.YtcmahiphfpgadaaGreatDoor
open Go.RowKit
set_option linter.unusedVariables false
theorem f56 : (Tryz.prog.info? 56).map (fun i => (i.zero, i.size, i.bytes)) = some (some (.agg [Value.string ⟨#[]⟩, .int .u8 0, .int .u64 0].toArray), 3, 32) := by kernel_rfl

end Go.Proofs.YtcmahiphfpgadaaGreatDoor

/- Rows are copied. -/
namespace Go.Proofs.YtcmahiphfpgadaaGreatDoor
open Go.RowKit
set_option linter.unusedVariables false
end Go.Proofs.YtcmahiphfpgadaaGreatDoor

/- Expressions are made. -/
namespace Go.Proofs.YtcmahiphfpgadaaGreatDoor
open Go.RowKit
set_option linter.unusedVariables false

theorem ex5_one (op t b : Nat) (nm : ByteArray) (a : Option Addr) (n c : Nat) : ∀ v ∈ ex5 op t b nm (.slice a n c), v.oneCell' = true := by
 intro v hv
 simp [ex5] at hv
 rcases hv with rfl | rfl | rfl | rfl | rfl <;> rfl

set_option maxRecDepth 100000 in
set_option maxHeartbeats 1600000 in
theorem name17 (s : ByteArray) (w : World) : Calls Tryz.prog 47 #[.string s] w fun r w' => r = .returned (.agg (ET.mk 2 0 0 s none 0 []).cells.toArray) ∧ Below w.heap.size w w' := by
 go_enter Tryz.func47, Tryz.ntmps47
 go_wp2_with (first
  | ((with_reducible show wpList _ _ _ _ _ _); refine wpList_alloc_at rfl 34 rfl _ 5 z29 ?_; intro w1 hA1 hb1 hs1)
  | ((with_reducible show wpList _ _ _ _ _ _); refine wpList_build_at (P := Tryz.prog) rfl 34 #[(0, .const (.int .u8 2)), (2, .tmp 3)] rfl (ex5 2 0 0 s (.slice none 0 0)) (by kernel_rfl) ?_)
  | ((with_reducible show wpList _ _ _ _ _ _); refine wpList_store_at (P := Tryz.prog) rfl 34 (.tmp 2) (.tmp 4) rfl w.heap.size (ex5 2 0 0 s (.slice none 0 0)) rfl rfl 34 _ hA1 i29 rfl (ex5_one _ _ _ _ _ _ _) ?_; intro w2 hA2 hb2 hs2; refine Hid.out ?_))
 refine hidU ?_
 have hbb : Below w.heap.size w w2 := hb2.below hb1 (Nat.le_refl _) (by omega)
 clear hb1 hb2 hs1 hs2 hA1
 go_wp2
 refine bodyPost_ret (results_at rfl _ _ w.heap.size 34 (ex5 2 0 0 s (.slice none 0 0)) _ rfl hA2 Tryz.underlying34 rfl i29) rfl ?_
 exact ⟨rfl, hbb⟩

set_option maxRecDepth 100000 in
set_option maxHeartbeats 1600000 in
theorem whole18 (b : Nat) (w : World) : Calls Tryz.prog 48 #[.int .u64 (b : Int)] w fun r w' => r = .returned (.agg (ET.mk 1 1 b ⟨#[]⟩ none 0 []).cells.toArray) ∧ Below w.heap.size w w' := by
 go_enter Tryz.func48, Tryz.ntmps48
 go_wp2_with (first
  | ((with_reducible show wpList _ _ _ _ _ _); refine wpList_alloc_at rfl 34 rfl _ 5 z29 ?_; intro w1 hA1 hb1 hs1)
  | ((with_reducible show wpList _ _ _ _ _ _); refine wpList_build_at (P := Tryz.prog) rfl 31 #[(0, .const (.int .u8 1)), (1, .tmp 3)] rfl [.int .u8 1, .int .u64 (b : Int)] (by kernel_rfl) ?_)
  | ((with_reducible show wpList _ _ _ _ _ _); refine wpList_build_at (P := Tryz.prog) rfl 34 #[(0, .const (.int .u8 1)), (1, .tmp 4)] rfl (ex5 1 1 b ⟨#[]⟩ (.slice none 0 0)) (by kernel_rfl) ?_)
  | ((with_reducible show wpList _ _ _ _ _ _); refine wpList_store_at (P := Tryz.prog) rfl 34 (.tmp 2) (.tmp 5) rfl w.heap.size (ex5 1 1 b ⟨#[]⟩ (.slice none 0 0)) rfl rfl 34 _ hA1 i29 rfl (ex5_one _ _ _ _ _ _ _) ?_; intro w2 hA2 hb2 hs2; refine Hid.out ?_))
 refine hidU ?_
 have hbb : Below w.heap.size w w2 := hb2.below hb1 (Nat.le_refl _) (by omega)
 clear hb1 hb2 hs1 hs2 hA1
 go_wp2
 refine bodyPost_ret (results_at rfl _ _ w.heap.size 34 (ex5 1 1 b ⟨#[]⟩ (.slice none 0 0)) _ rfl hA2 Tryz.underlying34 rfl i29) rfl ?_
 exact ⟨rfl, hbb⟩

theorem Try.i29' : (Tryz.prog.info? 34).map (fun i => (i.zero, i.size, i.bytes)) = some (some (.agg (ex5 0 0 0 ⟨#[]⟩ (.slice none 0 0)).toArray), 5, 64) := by kernel_rfl

section
variable {ops : Array Oper} {rest : List Oper} {o : Oper} {a : Act} {w : World} {Q : Exit → Act → World → Prop}
/-- One expression is laid as a row. -/
theorem wpList_exprs1 (hgd : o.guard = none) (x : Operand) (ho : o.op = .buildSlice 32 1 #[(0, x)]) (op t b : Nat) (nm : ByteArray) (ea : Option Addr) (n c : Nat) (hx : a.eval x = .agg (ex5 op t b nm (.slice ea n c)).toArray)
  (h : ∀ w', At 34 w' w.heap.size (ex5 op t b nm (.slice ea n c)) → Below w.heap.size w w' → wpList Tryz.prog ops Q rest (a.put o.dst (.slice (some ⟨w.heap.size, 0, none⟩) 1 1)) w') :
  wpList Tryz.prog ops Q (o :: rest) a w := by
 obtain ⟨ie, hi, hz0, hz1, hz2⟩ := info_parts Try.i29'
 refine wpList_buildSlice hgd 32 34 1 #[(0, x)] ho (ex5 op t b nm (.slice ea n c)).toArray ie (.agg (ex5 0 0 0 ⟨#[]⟩ (.slice none 0 0)).toArray) Tryz.underlying32 hi hz0 (by rw [hz1]; decide) (by rw [hz1]; decide) ?_ ?_
 ·rw [hz1]
  simp only [List.map_toArray, List.map_cons, List.map_nil, hx]
  kernel_rfl
 ·exact h _ (_root_.Go.heap_alloc_new w _) ((Below.refl _ w).alloc (Nat.le_refl _) _)
/-- Two expressions are laid as a row. -/
theorem wpList_exprs2 (hgd : o.guard = none) (x y : Operand) (ho : o.op = .buildSlice 32 2 #[(0, x), (1, y)]) (op t b : Nat) (nm : ByteArray) (ea : Option Addr) (n c : Nat) (hx : a.eval x = .agg (ex5 op t b nm (.slice ea n c)).toArray)
  (op' t' b' : Nat) (nm' : ByteArray) (ea' : Option Addr) (n' c' : Nat) (hy : a.eval y = .agg (ex5 op' t' b' nm' (.slice ea' n' c')).toArray)
  (h : ∀ w', At 34 w' w.heap.size (ex5 op t b nm (.slice ea n c) ++ ex5 op' t' b' nm' (.slice ea' n' c')) → Below w.heap.size w w' → wpList Tryz.prog ops Q rest (a.put o.dst (.slice (some ⟨w.heap.size, 0, none⟩) 2 2)) w') :
  wpList Tryz.prog ops Q (o :: rest) a w := by
 obtain ⟨ie, hi, hz0, hz1, hz2⟩ := info_parts Try.i29'
 refine wpList_buildSlice hgd 32 34 2 #[(0, x), (1, y)] ho (ex5 op t b nm (.slice ea n c) ++ ex5 op' t' b' nm' (.slice ea' n' c')).toArray ie (.agg (ex5 0 0 0 ⟨#[]⟩ (.slice none 0 0)).toArray) Tryz.underlying32 hi hz0 (by rw [hz1]; decide) (by rw [hz1]; decide) ?_ ?_
 ·rw [hz1]
  simp only [List.map_toArray, List.map_cons, List.map_nil, hx, hy]
  kernel_rfl
 ·exact h _ (_root_.Go.heap_alloc_new w _) ((Below.refl _ w).alloc (Nat.le_refl _) _)
end

end Go.Proofs.YtcmahiphfpgadaaGreatDoor

/- Variables and expressions are copied. -/
namespace Go.Proofs.YtcmahiphfpgadaaGreatDoor
open Go.RowKit
set_option linter.unusedVariables false

mutual
/-- How much an expression, a statement, .. is: its parts, and its names' bytes. -/
def exW : Ex → Nat
 | .mk _ _ _ nm ks => nm.length + 1 + exWs ks
def exWs : List Ex → Nat
 | [] => 0
 | e :: r => exW e + exWs r
end
theorem exWs_mem : ∀ (ks : List Ex) (k : Ex), k ∈ ks → exW k ≤ exWs ks
 | [], k, h => by cases h
 | e :: r, k, h => by
  rw [exWs]
  rcases List.mem_cons.1 h with rfl | h
  ·omega
  ·have := exWs_mem r k h; omega
theorem exW_kid (op t b : Nat) (nm : List UInt8) (ks : List Ex) (k : Ex) (h : k ∈ ks) : exW k ≤ exW (.mk op t b nm ks) := by
 rw [exW]
 have := exWs_mem ks k h
 omega

def setAll : List Value → Nat → List Value → List Value
 | old, _, [] => old
 | old, o, v :: vs => setAll (old.set o v) (o + 1) vs
theorem At.setCells {t : TypeId} {g : Nat} : ∀ (vs : List Value) (o : Nat) (old : List Value) (w : World), At t w g old → At t (w.setCells g o vs) g (setAll old o vs)
 | [], o, old, w, h => h
 | v :: vs, o, old, w, h => At.setCells vs (o + 1) _ _ (h.set o v)

theorem one56 (nm : ByteArray) (t b : Nat) : ∀ v ∈ [Value.string nm, .int .u8 (t : Int), .int .u64 (b : Int)], v.oneCell' = true := by
 intro v hv
 simp at hv
 rcases hv with rfl | rfl | rfl <;> rfl

end Go.Proofs.YtcmahiphfpgadaaGreatDoor

/- Rows are copied. -/
namespace Go.Proofs.YtcmahiphfpgadaaGreatDoor
open Go.RowKit
set_option linter.unusedVariables false
end Go.Proofs.YtcmahiphfpgadaaGreatDoor

/- Statements are copied. -/
namespace Go.Proofs.YtcmahiphfpgadaaGreatDoor
open Go.RowKit
set_option linter.unusedVariables false

mutual
def stW : St → Nat
 | .mk _ nm e b c => nm.length + 1 + exW e + stWs b + stWs c
def stWs : List St → Nat
 | [] => 0
 | e :: r => stW e + stWs r
end
theorem stWs_mem : ∀ (ks : List St) (k : St), k ∈ ks → stW k ≤ stWs ks
 | [], k, h => by cases h
 | e :: r, k, h => by
  rw [stWs]
  rcases List.mem_cons.1 h with rfl | h
  ·omega
  ·have := stWs_mem r k h; omega

theorem st9_one (k : Int) (nm : ByteArray) (op t b : Nat) (enm : ByteArray) (ea : Option Addr) (n c : Nat) (a1 : Option Addr) (n1 c1 : Nat) (a2 : Option Addr) (n2 c2 : Nat) : ∀ v ∈ st9 k nm (ex5 op t b enm (.slice ea n c)) (.slice a1 n1 c1) (.slice a2 n2 c2), v.oneCell' = true := by
 intro v hv
 simp [st9, ex5] at hv
 rcases hv with rfl | rfl | rfl | rfl | rfl | rfl | rfl | rfl | rfl <;> rfl

end Go.Proofs.YtcmahiphfpgadaaGreatDoor

/- Rows are copied. -/
namespace Go.Proofs.YtcmahiphfpgadaaGreatDoor
open Go.RowKit
set_option linter.unusedVariables false
theorem f59 : (Tryz.prog.info? 59).map (fun i => (i.zero, i.size, i.bytes)) = some (some (.agg [Value.string ⟨#[]⟩, .slice none 0 0, .slice none 0 0].toArray), 3, 64) := by kernel_rfl

end Go.Proofs.YtcmahiphfpgadaaGreatDoor

/- Names, threads and programs are copied: tree.Copy. -/
namespace Go.Proofs.YtcmahiphfpgadaaGreatDoor
open Go.RowKit
set_option linter.unusedVariables false

theorem f9 : (Tryz.prog.info? 9).map (fun i => (i.zero, i.size, i.bytes)) = some (some (.string ⟨#[]⟩), 1, 16) := by kernel_rfl

theorem one59 (nm : ByteArray) (a1 : Option Addr) (n1 c1 : Nat) (a2 : Option Addr) (n2 c2 : Nat) : ∀ v ∈ [Value.string nm, .slice a1 n1 c1, .slice a2 n2 c2], v.oneCell' = true := by
 intro v hv
 simp at hv
 rcases hv with rfl | rfl | rfl <;> rfl

theorem one26 (a1 : Option Addr) (n1 c1 : Nat) (a2 : Option Addr) (n2 c2 : Nat) (a3 : Option Addr) (n3 c3 : Nat) : ∀ v ∈ [Value.slice a1 n1 c1, .slice a2 n2 c2, .slice a3 n3 c3], v.oneCell' = true := by
 intro v hv
 simp at hv
 rcases hv with rfl | rfl | rfl <;> rfl
theorem z46' : (Tryz.prog.info? 26).map (fun i => (i.zero, i.size)) = some (some (.agg [Value.slice none 0 0, .slice none 0 0, .slice none 0 0].toArray), 3) := by kernel_rfl

end Go.Proofs.YtcmahiphfpgadaaGreatDoor

/- The document's own copies: rows by append. -/
namespace Go.Proofs.YtcmahiphfpgadaaGreatDoor
open Go.RowKit
set_option linter.unusedVariables false

/-- 'append(v, src...)', of whatever cells: nil or not. -/
theorem appAny {ops : Array Oper} {rest : List Oper} {o : Oper} {a : Act} {Q : Exit → Act → World → Prop} {w : World} (s x : Operand) (T E : TypeId) (z : Value) (size bytes base : Nat) (v : Value) (n : Nat) (out : List Value) (src : Option Addr) (m c : Nat) (news : List Value)
  (hgd : o.guard = none) (ho : o.op = .call { callee := .builtin .append, args := #[s, x], argTypes := #[T, T] })
  (ht : Tryz.prog.underlying T = some (.slice E)) (hif : (Tryz.prog.info? E).map (fun i => (i.zero, i.size, i.bytes)) = some (some z, size, bytes)) (hzs : z.cells.size = size) (hsz : 0 < size)
  (hs : a.eval s = v) (hx : a.eval x = .slice src m c) (hown : w.ownsRow base E size v n out) (hl : news.length = m * size) (hnil : src = none → c = 0 ∧ m = 0) (hnews : ∀ ad, src = some ad → ∀ j u, news[j]? = some u → w.cell? (ad.add j) = some u) (h1 : ∀ u ∈ news, u.oneCell' = true)
  (h63 : n + m ≤ maxLen) (hbytes : (n + m) * bytes ≤ 140737488355328) (hbase : base ≤ w.heap.size)
  (h : ∀ v' w', w'.ownsRow base E size v' (n + m) (out ++ news) → w.grownBy w' v.ownBlock → (v' = .slice none 0 0 → v = .slice none 0 0) → wpList Tryz.prog ops Q rest (a.put o.dst v') w') :
  wpList Tryz.prog ops Q (o :: rest) a w := by
 obtain ⟨i0, hi, hz0, hz1, hz2⟩ := info_parts hif
 cases src with
 | none =>
  obtain ⟨rfl, rfl⟩ := hnil rfl
  have hb : news = [] := List.length_eq_zero_iff.mp (by rw [hl, Nat.zero_mul])
  subst hb
  refine wpList_append_own_none (w := w) hgd s x T ho base E i0 size ht hi v n out hs hown hx ?_
  exact h v w (by simpa using hown) ⟨rfl, rfl, rfl, Nat.le_refl _, fun _ _ _ => rfl⟩ (fun e => e)
 | some ad =>
  refine wpList_append_own (w := w) hgd s x T ho base E i0 z size bytes ht hi hz0 hz1 hz2 hzs hsz v n out hs hown ad m c news hx hl (hnews ad rfl) h1 h63 hbytes hbase ?_
  intro v' w' h1 h2 h3
  exact h v' w' h1 h2 (fun e => (h3.mp e).1)

/-- A block below the base stands where a row of the call's own grows. -/
theorem below_grown {base : Nat} {w w' : World} {v : Value} {E : TypeId} {size n : Nat} {xs : List Value} (hown : w.ownsRow base E size v n xs) (hg : w.grownBy w' v.ownBlock) (hb : base ≤ w.heap.size) : Below base w w' :=
 (Below.refl base w).grown hg hb (fun k hk => (hown.lt k hk).1)

set_option maxRecDepth 100000 in
set_option maxHeartbeats 1600000 in
theorem kitTexts_any (B : Nat) (xs : List ByteArray) (a : Option Addr) (c : Nat) (w : World) (h : RowN B w a c xs) (hnil : a = none → c = 0) (hBw : B ≤ w.heap.size) :
  Calls Tryz.prog 28 #[.slice a xs.length c] w fun r w' => ∃ (g c' : Nat), r = .returned (.slice (some ⟨g, 0, none⟩) xs.length c') ∧ RowN w'.heap.size w' (some ⟨g, 0, none⟩) c' xs ∧ w.heap.size ≤ g ∧ w'.ownsRow w.heap.size 9 1 (.slice (some ⟨g, 0, none⟩) xs.length c') xs.length (xs.map Value.string) ∧ Below w.heap.size w w' := by
 obtain ⟨n, hn⟩ : ∃ n, Hid (n = xs.length) := ⟨_, (rfl : xs.length = _)⟩
 have hl := h.1
 have hk := h.2.1
 rw [← hn.out] at hl hk ⊢
 have HR : Hid (RowN B w a c xs) := h
 have HN : Hid (a = none → c = 0 ∧ n = 0) := fun e => ⟨hnil e, by have := hnil e; omega⟩
 clear h hnil
 have hb1 : Below w.heap.size w (w.alloc (.cells #[] 9)) := (Below.refl _ w).alloc (Nat.le_refl _) _
 have hown0 : (w.alloc (.cells #[] 9)).ownsRow w.heap.size 9 1 (.slice (some ⟨w.heap.size, 0, none⟩) 0 0) 0 [] := World.ownsRow_made w #[] 0 (Nat.le_refl _) (by unfold maxLen; omega) rfl
 go_enter Tryz.func28, Tryz.ntmps28
 go_wp2_with (first | ((with_reducible show wpList _ _ _ _ _ _); refine appAny (.tmp 3) (.tmp 4) 23 9 _ 1 16 w.heap.size _ 0 [] a n c (xs.map Value.string) rfl rfl Tryz.underlying23 f9 rfl (by decide) rfl rfl hown0 (by rw [List.length_map, hn.out, Nat.mul_one]) HN.out ?c1 ?c2 (by unfold maxLen; omega) (by omega) hb1.size ?_))
 case c1 =>
  rintro ad rfl j u hj
  rw [List.getElem?_map] at hj
  obtain ⟨y, hy, rfl⟩ := Option.map_eq_some_iff.mp hj
  obtain ⟨g, o, e, hlt, hc⟩ := RowN.at (RowN.old HR.out (fun k hk => hb1.block k (Nat.lt_of_lt_of_le hk hBw))) j y hy
  cases e
  rw [Addr.add_mid]
  exact hc
 case c2 =>
  intro u hu
  obtain ⟨y, _, rfl⟩ := List.mem_map.mp hu
  rfl
 intro v' w' h1 h2 h3
 have hb2 := hb1.trans (below_grown hown0 h2 hb1.size)
 go_wp2_with fail
 go_ret
 obtain ⟨hlen, ⟨e, _⟩ | ⟨g, cap, cur, rfl, hg, hcur, hcap, hmx, hsz, htk⟩⟩ := id h1
 ·exact absurd e h3
 have hgl : g < w'.heap.size := (h1.lt g rfl).2
 refine ⟨g, cap, rfl, ⟨by rw [← hn.out]; exact hl, by rw [← hn.out]; exact hcap, .inr ⟨g, 0, rfl, hgl, fun i y hy => ?_⟩⟩, hg, h1, hb2⟩
 have z := h1.cells (g := g) rfl i (.string y) (by rw [List.getElem?_map, hy]; rfl)
 rw [Addr.add_mid] at z
 exact z
end Go.Proofs.YtcmahiphfpgadaaGreatDoor
