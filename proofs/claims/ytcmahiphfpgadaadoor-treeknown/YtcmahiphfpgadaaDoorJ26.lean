/- Joined texts of the proof. -/
import Derived.Test.YtcmahiphfpgadaaDoorJ25
import Derived.Test.YtcmahiphfpgadaaDoorJ23

/- A program's text is written. -/
namespace Go.Proofs.YtcmahiphfpgadaaDoor
open Go.RowKit
set_option linter.unusedVariables false

def mxT (m : List UInt8) : List UInt8 := [109, 117, 116, 101, 120, 32] ++ (m ++ [59, 10])
def mxsT (ms : List (List UInt8)) : List UInt8 := (ms.map mxT).flatten
def thT (t : Th) : List UInt8 := ([116, 104, 114, 101, 97, 100, 32] ++ (t.nm ++ [32, 123, 10])) ++ (vrsT [32, 32, 108, 111, 99, 97, 108, 32] t.locals ++ (blT [32, 32] t.body ++ [125, 10]))
def thsT (ts : List Th) : List UInt8 := (ts.map thT).flatten
def pgT (p : Pg) : List UInt8 := vrsT [115, 104, 97, 114, 101, 100, 32] p.shared ++ (mxsT p.mutexes ++ thsT p.threads)

theorem th_cells {w : World} {g : Nat} {nm : ByteArray} {s1 s2 : Value} (h : At 42 w g [.string nm, s1, s2]) : w.cell? ⟨g, 0, none⟩ = some (.string nm) ∧ w.cell? ⟨g, 1, none⟩ = some s1 ∧ w.cell? ⟨g, 2, none⟩ = some s2 := by
  refine ⟨?_, ?_, ?_⟩ <;> (rw [h.cell]; rfl)
theorem pg_cells {w : World} {g : Nat} {s1 s2 s3 : Value} (h : At 46 w g [s1, s2, s3]) : w.cell? ⟨g, 0, none⟩ = some s1 ∧ w.cell? ⟨g, 1, none⟩ = some s2 ∧ w.cell? ⟨g, 2, none⟩ = some s3 := by
  refine ⟨?_, ?_, ?_⟩ <;> (rw [h.cell]; rfl)

theorem flat_take {α : Type} (f : α → List UInt8) (l : List α) (i : Nat) (x : α) (h : l[i]? = some x) : ((l.take (i + 1)).map f).flatten = ((l.take i).map f).flatten ++ f x := by
  rw [List.take_add_one, h]
  simp
theorem flat_le {α : Type} (f : α → List UInt8) (l : List α) (i : Nat) : ((l.take i).map f).flatten.length ≤ (l.map f).flatten.length := by
  conv => rhs; rw [← List.take_append_drop i l]
  rw [List.map_append, List.flatten_append, List.length_append]
  omega

theorem mayT_body (t : TT) (h : mayT t.th = true) : mayB 0 (t.body.map ST.st) = true := by
  unfold mayT at h
  rw [Bool.and_eq_true, Bool.and_eq_true] at h
  exact h.2.2

theorem mayP_threads (p : PT) (h : mayP p.pg = true) : ∀ t ∈ p.threads, mayB 0 (t.body.map ST.st) = true := by
  unfold mayP PT.pg at h
  rw [Bool.and_eq_true, Bool.and_eq_true] at h
  intro t ht
  have h2 := h.2.2
  simp only [List.all_eq_true, List.mem_map, forall_exists_index, and_imp, forall_apply_eq_imp_iff₂] at h2
  exact mayT_body t (h2 t ht)

set_option maxRecDepth 100000 in
set_option maxHeartbeats 3200000 in
theorem program_of (B g m : Nat) (hm : m ≤ 9223372036854775807) (h16 : gB ≤ B) (a1 : Option Addr) (n1 c1 : Nat) (V : List UInt8) (a2 : Option Addr) (c2 : Nat) (ms : List ByteArray) (a3 : Option Addr) (c3 : Nat) (ts : List TT) (w : World) (F : List UInt8)
    (hr2 : RowN B w a2 c2 ms) (hr3 : RowT B w a3 c3 ts) (hT : Txt B w g m F) (hBw : B ≤ w.heap.size) (hTab : Tab w) (hlen : F.length + (V.length + ((mxsT (ms.map (fun s => s.data.toList))).length + (thsT (ts.map TT.th)).length)) ≤ 70368744177664)
    (hVs : ∀ w1, Below w.heap.size w w1 → Calls Tryd.prog 35 #[.pointer (some ⟨g, 0, none⟩), .string ⟨#[115, 104, 97, 114, 101, 100, 32]⟩, .slice a1 n1 c1] w1 fun r w' => r = .returned (.tuple #[]) ∧ Txt B w' g m (F ++ V) ∧ Wr B g w1 w')
    (hLs : ∀ t ∈ ts, ∀ w1 G, Txt B w1 g m G → t.In B w1 → B ≤ w1.heap.size → Tab w1 → (G ++ vrsT [32, 32, 108, 111, 99, 97, 108, 32] (t.locals.map VT.vr)).length ≤ 70368744177664 → Calls Tryd.prog 35 #[.pointer (some ⟨g, 0, none⟩), .string ⟨#[32, 32, 108, 111, 99, 97, 108, 32]⟩, .slice t.a1 t.locals.length t.c1] w1 fun r w' => r = .returned (.tuple #[]) ∧ Txt B w' g m (G ++ vrsT [32, 32, 108, 111, 99, 97, 108, 32] (t.locals.map VT.vr)) ∧ Wr B g w1 w')
    (hBs : ∀ t ∈ ts, ∀ w1 G, Txt B w1 g m G → t.In B w1 → B ≤ w1.heap.size → Tab w1 → (G ++ blT [32, 32] (t.body.map ST.st)).length ≤ 70368744177664 → Calls Tryd.prog 36 #[.pointer (some ⟨g, 0, none⟩), .slice t.a2 t.body.length t.c2, .string ⟨#[32, 32]⟩] w1 fun r w' => r = .returned (.tuple #[]) ∧ Txt B w' g m (G ++ blT [32, 32] (t.body.map ST.st)) ∧ Wr B g w1 w') :
    Calls Tryd.prog 15 #[.pointer (some ⟨g, 0, none⟩), .agg [.slice a1 n1 c1, .slice a2 ms.length c2, .slice a3 ts.length c3].toArray] w fun r w' => r = .returned (.tuple #[]) ∧ Txt B w' g m (F ++ (V ++ (mxsT (ms.map (fun s => s.data.toList)) ++ thsT (ts.map TT.th)))) ∧ Wr B g w w' := by
  have hBg := hT.base
  have hgw := hT.lt
  obtain ⟨n2, hn2⟩ : ∃ n, Hid (n = ms.length) := ⟨_, (rfl : ms.length = _)⟩
  obtain ⟨n3, hn3⟩ : ∃ n, Hid (n = ts.length) := ⟨_, (rfl : ts.length = _)⟩
  have hl2 := hr2.1
  have hk2 := hr2.2.1
  have hl3 := hr3.1
  have hk3 := hr3.2.1
  rw [← hn2.out] at hl2 hk2 ⊢
  rw [← hn3.out] at hl3 hk3 ⊢
  have HI : Hid (RowN B w a2 c2 ms ∧ RowT B w a3 c3 ts ∧ Tab w) := ⟨hr2, hr3, hTab⟩
  have HL : Hid (F.length + (V.length + ((mxsT (ms.map (fun s => s.data.toList))).length + (thsT (ts.map TT.th)).length)) ≤ 70368744177664) := hlen
  have HT : Hid (Txt B w g m F) := hT
  have HS : Hid (∀ t ∈ ts, ∀ w1 G, Txt B w1 g m G → t.In B w1 → B ≤ w1.heap.size → Tab w1 → (G ++ vrsT [32, 32, 108, 111, 99, 97, 108, 32] (t.locals.map VT.vr)).length ≤ 70368744177664 → Calls Tryd.prog 35 #[.pointer (some ⟨g, 0, none⟩), .string ⟨#[32, 32, 108, 111, 99, 97, 108, 32]⟩, .slice t.a1 t.locals.length t.c1] w1 fun r w' => r = .returned (.tuple #[]) ∧ Txt B w' g m (G ++ vrsT [32, 32, 108, 111, 99, 97, 108, 32] (t.locals.map VT.vr)) ∧ Wr B g w1 w') := hLs
  have HB : Hid (∀ t ∈ ts, ∀ w1 G, Txt B w1 g m G → t.In B w1 → B ≤ w1.heap.size → Tab w1 → (G ++ blT [32, 32] (t.body.map ST.st)).length ≤ 70368744177664 → Calls Tryd.prog 36 #[.pointer (some ⟨g, 0, none⟩), .slice t.a2 t.body.length t.c2, .string ⟨#[32, 32]⟩] w1 fun r w' => r = .returned (.tuple #[]) ∧ Txt B w' g m (G ++ blT [32, 32] (t.body.map ST.st)) ∧ Wr B g w1 w') := hBs
  clear hr2 hr3 hT hTab hlen hLs hBs
  go_enter Tryd.func15, Tryd.ntmps15
  go_wp2_with (first
    | ((with_reducible show wpList _ _ _ _ _ _); refine wpList_box_at rfl 46 (.tmp 1) rfl [.slice a1 n1 c1, .slice a2 n2 c2, .slice a3 n3 c3] rfl ?_; intro w1 hA1 hb1 hs1; clear hs1; refine Hid.out ?_))
  refine hidU ?_
  obtain ⟨q0, -, -⟩ := pg_cells hA1
  have hVs' := hVs w1 hb1
  clear hVs
  go_wp2_with fail
  refine hVs'.mono ?_
  rintro r w2 ⟨rfl, hT2, hW2⟩
  have hA2 := hW2.at hA1 (by omega) (by decide)
  have hw2 : Wr B g w w2 := (Wr.of_below hb1).trans hW2
  clear hVs' hA1 hb1 hW2 q0
  obtain ⟨-, q1, -⟩ := pg_cells hA2
  have H0 : Hid (Txt B w2 g m (F ++ V) ∧ Wr B g w w2 ∧ At 46 w2 w.heap.size [.slice a1 n1 c1, .slice a2 n2 c2, .slice a3 n3 c3]) := ⟨hT2, hw2, hA2⟩
  clear hT2 hw2 hA2
  go_wp2_with fail
  go_loopw [15] (fun j wr => ∃ i : Nat, j = .int .i64 (i : Int) ∧ i ≤ n2 ∧ Hid (Txt B wr g m (F ++ V ++ mxsT ((ms.take i).map (fun s => s.data.toList))) ∧ Wr B g w wr ∧ At 46 wr w.heap.size [.slice a1 n1 c1, .slice a2 n2 c2, .slice a3 n3 c3])) (fun j _ => n2 - (intOf j).toNat)
  case atStart => exact ⟨0, rfl, by omega, by simpa [mxsT] using H0.out.1, H0.out.2⟩
  case round =>
    obtain ⟨i, rfl, hi, hX⟩ := hrel
    by_cases hc : i < n2
    · obtain ⟨s, hs⟩ : ∃ k, ms[i]? = some k := ⟨ms[i]'(by rw [← hn2.out]; exact hc), by rw [List.getElem?_eq_getElem]⟩
      obtain ⟨hTr, hWr, hAr⟩ := hX.out
      have hold : Old B w wr := Old.of_wr hWr hBg hBw
      obtain ⟨g1, o1, rfl, hg1, hcs⟩ := (HI.out.1.old hold).at i s hs
      have htk : mxsT ((ms.take (i + 1)).map (fun s => s.data.toList)) = mxsT ((ms.take i).map (fun s => s.data.toList)) ++ mxT s.data.toList := by
        unfold mxsT
        rw [List.map_map, List.map_map, flat_take _ ms i s hs]
        rfl
      have hle : (mxsT ((ms.take (i + 1)).map (fun s => s.data.toList))).length ≤ (mxsT (ms.map (fun s => s.data.toList))).length := by
        unfold mxsT
        rw [List.map_map, List.map_map]
        exact flat_le _ ms (i + 1)
      obtain ⟨G, hG⟩ : ∃ G, Hid (G = F ++ V ++ mxsT ((ms.take i).map (fun s => s.data.toList))) := ⟨_, (rfl : _ = F ++ V ++ mxsT ((ms.take i).map (fun s => s.data.toList)))⟩
      have hln : (G ++ mxT s.data.toList).length ≤ 70368744177664 := by
        have h1 := HL.out
        rw [htk, List.length_append] at hle
        rw [hG.out]
        simp only [List.length_append]
        omega
      have HG : Hid (F ++ V ++ mxsT ((ms.take (i + 1)).map (fun s => s.data.toList)) = G ++ mxT s.data.toList) := by
        show _ = _
        rw [htk, hG.out, List.append_assoc, List.append_assoc, List.append_assoc]
      have HK : Hid (Txt B wr g m G ∧ Wr B g w wr ∧ At 46 wr w.heap.size [.slice a1 n1 c1, .slice (some ⟨g1, o1, none⟩) n2 c2, .slice a3 n3 c3]) := ⟨by rw [hG.out]; exact hTr, hWr, hAr⟩
      clear hX hTr hWr hAr hold htk hle hG H0
      go_wp2_with (first
        | ((with_reducible show wpList _ _ _ _ _ _); refine wpList_strs rfl 3 #[(0, .const (.string ⟨#[109, 117, 116, 101, 120, 32]⟩)), (1, .tmp 20), (2, .const (.string ⟨#[59, 10]⟩))] rfl [⟨#[109, 117, 116, 101, 120, 32]⟩, s, ⟨#[59, 10]⟩] rfl (by decide) (by decide) (by kernel_rfl) ?_; intro w4 hA4 hb4 hs4; clear hs4))
      refine (put_one B g m _ [⟨#[109, 117, 116, 101, 120, 32]⟩, s, ⟨#[59, 10]⟩] (mxT s.data.toList) G (by simp [cat, mxT]) _ hm (HK.out.1.below hb4) hA4 hln (by simp)).mono ?_
      rintro r w5 ⟨rfl, hT5, hW5⟩
      have HF : Hid (Txt B w5 g m (F ++ V ++ mxsT ((ms.take (i + 1)).map (fun s => s.data.toList))) ∧ Wr B g w w5 ∧ At 46 w5 w.heap.size [.slice a1 n1 c1, .slice (some ⟨g1, o1, none⟩) n2 c2, .slice a3 n3 c3]) := by
        refine ⟨by rw [HG.out]; exact hT5, HK.out.2.1.trans ((Wr.of_below hb4).trans hW5), hW5.at (HK.out.2.2.below hb4) (by omega) (by decide)⟩
      clear hT5 hW5 hA4 hb4 HK HG hln hcs
      go_wp2
      go_roundw
      case rel => exact ⟨i + 1, by go_num, by omega, HF⟩
      case measure => simp [intOf]; omega
    · have hin : i = n2 := by omega
      obtain ⟨hTr, hWr, hAr⟩ := hX.out
      obtain ⟨M, hMM⟩ : ∃ M, Hid (M = F ++ V ++ mxsT (ms.map (fun s => s.data.toList))) := ⟨_, (rfl : _ = F ++ V ++ mxsT (ms.map (fun s => s.data.toList)))⟩
      rw [hin, hn2.out, List.take_length, ← hMM.out] at hTr
      have hML : M.length = F.length + V.length + (mxsT (ms.map (fun s => s.data.toList))).length := by rw [hMM.out]; simp only [List.length_append]
      have H1 : Hid (Txt B wr g m M ∧ Wr B g w wr) := ⟨hTr, hWr⟩
      obtain ⟨-, -, q2⟩ := pg_cells hAr
      clear hX hTr hWr hAr H0 hin
      go_wp2_with fail
      go_loopw [27] (fun j wr => ∃ i : Nat, j = .int .i64 (i : Int) ∧ i ≤ n3 ∧ Hid (Txt B wr g m (M ++ thsT ((ts.take i).map TT.th)) ∧ Wr B g w wr)) (fun j _ => n3 - (intOf j).toNat)
      case atStart => exact ⟨0, rfl, by omega, by simpa [thsT] using H1.out.1, H1.out.2⟩
      case round =>
        clear H1 q2
        obtain ⟨i, rfl, hi, hX⟩ := hrel
        by_cases hc : i < n3
        · obtain ⟨t, ht⟩ : ∃ k, ts[i]? = some k := ⟨ts[i]'(by rw [← hn3.out]; exact hc), by rw [List.getElem?_eq_getElem]⟩
          obtain ⟨hTr, hWr⟩ := hX.out
          have hold : Old B w wr := Old.of_wr hWr hBg hBw
          have hBr : B ≤ wr.heap.size := by have := hWr.size; omega
          have hgr := hTr.lt
          obtain ⟨g1, o1, rfl, hg1, hr1, hin1⟩ := (HI.out.2.1.old hold).at i t ht
          have hTb := HI.out.2.2.wr hWr hBg hBw h16
          have htk : thsT ((ts.take (i + 1)).map TT.th) = thsT ((ts.take i).map TT.th) ++ thT t.th := by
            unfold thsT
            rw [List.map_map, List.map_map, flat_take _ ts i t ht]
            rfl
          have hle : (thsT ((ts.take (i + 1)).map TT.th)).length ≤ (thsT (ts.map TT.th)).length := by
            unfold thsT
            rw [List.map_map, List.map_map]
            exact flat_le _ ts (i + 1)
          have hLt := HS.out t (List.mem_of_getElem? ht)
          have hBt := HB.out t (List.mem_of_getElem? ht)
          have hone := t.one
          obtain ⟨nm, b1, d1, locals, b2, d2, body⟩ := t
          obtain ⟨L, hL⟩ : ∃ L, Hid (L = vrsT [32, 32, 108, 111, 99, 97, 108, 32] (locals.map VT.vr)) := ⟨_, (rfl : _ = vrsT [32, 32, 108, 111, 99, 97, 108, 32] (locals.map VT.vr))⟩
          obtain ⟨K, hK⟩ : ∃ K, Hid (K = blT [32, 32] (body.map ST.st)) := ⟨_, (rfl : _ = blT [32, 32] (body.map ST.st))⟩
          obtain ⟨q, hq⟩ : ∃ q, Hid (q = locals.length) := ⟨_, (rfl : locals.length = _)⟩
          obtain ⟨k, hk⟩ : ∃ k, Hid (k = body.length) := ⟨_, (rfl : body.length = _)⟩
          simp only [TT.cells] at hr1 hone
          simp only [← hL.out, ← hK.out, ← hq.out, ← hk.out] at hLt hBt hr1 hone
          obtain ⟨P, hP⟩ : ∃ P, Hid (P = [116, 104, 114, 101, 97, 100, 32] ++ (nm.data.toList ++ [32, 123, 10])) := ⟨_, (rfl : _ = [116, 104, 114, 101, 97, 100, 32] ++ (nm.data.toList ++ [32, 123, 10]))⟩
          obtain ⟨G, hG⟩ : ∃ G, Hid (G = M ++ thsT ((ts.take i).map TT.th)) := ⟨_, (rfl : _ = M ++ thsT _)⟩
          have HG : Hid (M ++ thsT ((ts.take (i + 1)).map TT.th) = G ++ P ++ L ++ K ++ [125, 10]) := by
            show _ = _
            rw [htk, hG.out]
            simp only [thT, TT.th, hL.out, hK.out, hP.out, List.append_assoc]
          have hln : (G ++ P ++ L ++ K ++ [125, 10]).length ≤ 70368744177664 := by
            have h1 := HL.out
            rw [← HG.out, List.length_append, hML]
            omega
          have hl1 : (G ++ P).length ≤ 70368744177664 := by simp only [List.length_append] at hln ⊢; omega
          have hl4 : (G ++ P ++ L).length ≤ 70368744177664 := by simp only [List.length_append] at hln ⊢; omega
          have hl5 : (G ++ P ++ L ++ K).length ≤ 70368744177664 := by simp only [List.length_append] at hln ⊢; omega
          rw [← hG.out] at hTr
          have HK : Hid (Txt B wr g m G ∧ Wr B g w wr ∧ Tab wr ∧ TT.In B wr ⟨nm, b1, d1, locals, b2, d2, body⟩) := ⟨hTr, hWr, hTb, hin1⟩
          clear hX hold htk hle hTr hWr hTb hin1 hL hK hq hk hG
          go_wp2_with (first
            | ((with_reducible show wpList _ _ _ _ _ _); refine wpList_load_mid (P := Tryd.prog) rfl 42 (.tmp 29) rfl g1 (o1 + i * 3) (by first | rfl | (simp; done)) [.string nm, .slice b1 q d1, .slice b2 k d2] _ hr1 Tryd.underlying42 rfl i42 ?_)
            | ((with_reducible show wpList _ _ _ _ _ _); refine wpList_alloc_at rfl 42 rfl _ 3 z42 ?_; intro w2 hA2 hb2 hs2)
            | ((with_reducible show wpList _ _ _ _ _ _); refine wpList_store_at (P := Tryd.prog) rfl 42 (.tmp 7) (.tmp 30) rfl wr.heap.size [.string nm, .slice b1 q d1, .slice b2 k d2] rfl rfl 42 _ hA2 i42 rfl hone ?_; intro w3 hA3 hb3 hs3; refine Hid.out ?_))
          refine hidU ?_
          have hB3 : Below wr.heap.size wr w3 := hb3.below hb2 (Nat.le_refl _) (by omega)
          obtain ⟨u0, -, -⟩ := th_cells hA3
          clear hb3 hb2 hA2 hr1 hs2 hs3 hone
          go_wp2_with (first
            | ((with_reducible show wpList _ _ _ _ _ _); refine wpList_strs rfl 3 #[(0, .const (.string ⟨#[116, 104, 114, 101, 97, 100, 32]⟩)), (1, .tmp 33), (2, .const (.string ⟨#[32, 123, 10]⟩))] rfl [⟨#[116, 104, 114, 101, 97, 100, 32]⟩, nm, ⟨#[32, 123, 10]⟩] rfl (by decide) (by decide) (by kernel_rfl) ?_; intro w4 hA4 hb4 hs4; clear hs4))
          refine (put_one B g m _ [⟨#[116, 104, 114, 101, 97, 100, 32]⟩, nm, ⟨#[32, 123, 10]⟩] P G (by rw [hP.out]; simp [cat]) _ hm ((HK.out.1.below hB3).below hb4) hA4 hl1 (by simp)).mono ?_
          rintro r w5 ⟨rfl, hT5, hW5⟩
          have hwr5 : Wr B g wr w5 := (Wr.of_below hB3).trans ((Wr.of_below hb4).trans hW5)
          have hA5 := hW5.at (hA3.below hb4) (by omega) (by decide)
          obtain ⟨-, u1, -⟩ := th_cells hA5
          have hL5 := hLt w5 (G ++ P) hT5 (HK.out.2.2.2.old (Old.of_wr hwr5 hBg hBr)) (by have := hwr5.size; omega) (HK.out.2.2.1.wr hwr5 hBg hBr h16) hl4
          clear hLt hT5 hW5 hA4 hb4 hA3 hB3 u0
          go_wp2_with fail
          refine hL5.mono ?_
          rintro r w6 ⟨rfl, hT6, hW6⟩
          have hwr6 : Wr B g wr w6 := hwr5.trans hW6
          have hA6 := hW6.at hA5 (by omega) (by decide)
          obtain ⟨-, -, u2⟩ := th_cells hA6
          have hB6 := hBt w6 (G ++ P ++ L) hT6 (HK.out.2.2.2.old (Old.of_wr hwr6 hBg hBr)) (by have := hwr6.size; omega) (HK.out.2.2.1.wr hwr6 hBg hBr h16) hl5
          clear hL5 hT6 hW6 hA5 u1 hBt hwr5
          go_wp2_with fail
          refine hB6.mono ?_
          rintro r w7 ⟨rfl, hT7, hW7⟩
          have hwr7 : Wr B g wr w7 := hwr6.trans hW7
          clear hB6 hW7 hA6 u2 hwr6
          go_wp2_with (first
            | ((with_reducible show wpList _ _ _ _ _ _); refine wpList_strs rfl 1 #[(0, .const (.string ⟨#[125, 10]⟩))] rfl [⟨#[125, 10]⟩] rfl (by decide) (by decide) (by kernel_rfl) ?_; intro w8 hA8 hb8 hs8; clear hs8))
          refine (put_one B g m _ [⟨#[125, 10]⟩] [125, 10] (G ++ P ++ L ++ K) (by simp [cat]) _ hm (hT7.below hb8) hA8 hln (by simp)).mono ?_
          rintro r w9 ⟨rfl, hT9, hW9⟩
          have HF : Hid (Txt B w9 g m (M ++ thsT ((ts.take (i + 1)).map TT.th)) ∧ Wr B g w w9) := by
            refine ⟨by rw [HG.out]; exact hT9, HK.out.2.1.trans (hwr7.trans ((Wr.of_below hb8).trans hW9))⟩
          clear hT9 hW9 hA8 hb8 hwr7 HK HG hln hT7
          go_wp2
          go_roundw
          case rel => exact ⟨i + 1, by go_num, by omega, HF⟩
          case measure => simp [intOf]; omega
        · have hin : i = n3 := by omega
          obtain ⟨hTr, hWr⟩ := hX.out
          rw [hin, hn3.out, List.take_length, hMM.out] at hTr
          have HY : Hid (Txt B wr g m (F ++ (V ++ (mxsT (ms.map (fun s => s.data.toList)) ++ thsT (ts.map TT.th)))) ∧ Wr B g w wr) := by
            refine ⟨?_, hWr⟩
            simpa only [List.append_assoc] using hTr
          clear hX hTr hWr hin
          go_wp2
          go_end0
          exact ⟨rfl, HY.out⟩

theorem program_any (B g m : Nat) (hm : m ≤ 9223372036854775807) (h16 : gB ≤ B) (p : PT) (hmay : mayP p.pg = true) (w : World) (F : List UInt8)
    (hin : p.In B w) (hT : Txt B w g m F) (hBw : B ≤ w.heap.size) (hTab : Tab w) (hlen : (F ++ pgT p.pg).length ≤ 70368744177664) :
    Calls Tryd.prog 15 #[.pointer (some ⟨g, 0, none⟩), .agg p.cells.toArray] w fun r w' => r = .returned (.tuple #[]) ∧ Txt B w' g m (F ++ pgT p.pg) ∧ Wr B g w w' := by
  have hth := mayP_threads p hmay
  obtain ⟨h1, h2, h3⟩ := hin
  have hpl : F.length + ((vrsT [115, 104, 97, 114, 101, 100, 32] (p.shared.map VT.vr)).length + ((mxsT (p.mutexes.map (fun s => s.data.toList))).length + (thsT (p.threads.map TT.th)).length)) ≤ 70368744177664 := by
    have := hlen
    unfold pgT PT.pg at this
    simpa only [List.length_append] using this
  exact program_of B g m hm h16 p.a1 p.shared.length p.c1 (vrsT [115, 104, 97, 114, 101, 100, 32] (p.shared.map VT.vr)) p.a2 p.c2 p.mutexes p.a3 p.c3 p.threads w F h2 h3 hT hBw hTab hpl
    (fun w1 hb => vars_any B g m hm h16 p.shared ⟨#[115, 104, 97, 114, 101, 100, 32]⟩ p.a1 p.c1 w1 F (h1.old (Old.of_below hb hBw)) (hT.below hb) (by have := hb.size; omega) (hTab.below hb (by omega)) (by show (F ++ vrsT [115, 104, 97, 114, 101, 100, 32] (p.shared.map VT.vr)).length ≤ _; rw [List.length_append]; omega))
    (fun t ht w1 G h h' h'' h3 h4 => vars_any B g m hm h16 t.locals ⟨#[32, 32, 108, 111, 99, 97, 108, 32]⟩ t.a1 t.c1 w1 G h'.1 h h'' h3 h4)
    (fun t ht w1 G h h' h'' h3 h4 => block_any B g m hm h16 t.a2 t.c2 t.body ⟨#[32, 32]⟩ 0 w1 G (by decide) (hth t ht) h'.2 h h'' h3 h4)

end Go.Proofs.YtcmahiphfpgadaaDoor

/- tree.Expr. -/
namespace Go.Proofs.YtcmahiphfpgadaaDoor
open Go.RowKit
set_option linter.unusedVariables false

theorem z54 : (Tryd.prog.info? 54).map (fun i => (i.zero, i.size)) = some (some (.agg [.pointer none, .slice none 0 0, .int .i64 0].toArray), 3) := by kernel_rfl
theorem i54 : (Tryd.prog.info? 54).map (·.size) = some 3 := by kernel_rfl
theorem one54 (m : Int) : ∀ v ∈ [Value.pointer none, .slice none 0 0, .int .i64 m], v.oneCell' = true := by
  intro v hv
  simp at hv
  rcases hv with rfl | rfl | rfl <;> rfl

theorem Txt.new {w : World} {g m B : Nat} (hB : B ≤ g) (h : At 54 w g [.pointer none, .slice none 0 0, .int .i64 (m : Int)]) : Txt B w g m [] :=
  ⟨[], .inl rfl, Nat.le_refl _, Raw.new hB h⟩

set_option maxRecDepth 100000 in
set_option maxHeartbeats 1600000 in
theorem expr4_any (e : ET) (B : Nat) (w : World) (h : e.In B w) (hBw : B ≤ w.heap.size) (hT : Tab w) (h16 : gB ≤ w.heap.size) (hlen : (exT e.ex).length ≤ 70368744177664) :
    Calls Tryd.prog 4 #[.agg e.cells.toArray] w fun r w' => r = .returned (.tuple #[.string ⟨(if mayE 32 e.ex then exT e.ex else []).toArray⟩, .int .i64 (if mayE 32 e.ex then 0 else 2)]) ∧ Below w.heap.size w w' := by
  have hM := fun w h hB hT h16 => mayExpr_any 32 e w B (by decide) h hB hT h16
  have hW : ∀ C g, gB ≤ C → mayE 32 e.ex = true → ExprW C g 9223372036854775807 e := fun C g hC hm => expr_any C g 9223372036854775807 (by decide) hC 32 e hm
  obtain ⟨M, hMM⟩ : ∃ M, Hid (M = mayE 32 e.ex) := ⟨_, (rfl : _ = mayE 32 e.ex)⟩
  rw [← hMM.out] at hM hW ⊢
  have HI : Hid (e.In B w ∧ Tab w) := ⟨h, hT⟩
  obtain ⟨X, hX⟩ : ∃ X, Hid (X = exT e.ex) := ⟨_, (rfl : exT e.ex = _)⟩
  rw [← hX.out] at hlen ⊢
  have HW : Hid (∀ C g, gB ≤ C → M = true → ExprW C g 9223372036854775807 e) := hW
  clear h hT hW
  go_enter Tryd.func4, Tryd.ntmps4
  go_wp2_with (first
    | ((with_reducible show wpList _ _ _ _ _ _); refine wpList_box_at rfl 29 (.tmp 0) rfl e.cells rfl ?_; intro w1 hA1 hb1 hs1; clear hs1)
    | ((with_reducible show wpList _ _ _ _ _ _); refine wpList_load_at (P := Tryd.prog) rfl 29 (.tmp 1) rfl w.heap.size rfl 29 e.cells hA1 _ Tryd.underlying29 rfl (by rw [ET.cells_len]; exact i29) ?_))
  refine (hM w1 (HI.out.1.old (Old.of_below hb1 hBw)) (by have := hb1.size; omega) (HI.out.2.below hb1 h16) (by have := hb1.size; omega)).mono ?_
  rintro r w2 ⟨rfl, hb2⟩
  have hA2 := hA1.below hb2
  have hw2 := hb1.trans (hb2.mono hb1.size)
  clear hM hA1 hb2 hb1
  cases M with
  | false =>
    go_wp2_with fail
    go_ret2
    exact ⟨rfl, hw2⟩
  | true =>
    go_wp2_with (first
      | ((with_reducible show wpList _ _ _ _ _ _); refine wpList_build_at (P := Tryd.prog) rfl 54 #[(1, .const (.int .i64 9223372036854775807))] rfl [.pointer none, .slice none 0 0, .int .i64 9223372036854775807] (by kernel_rfl) ?_)
      | ((with_reducible show wpList _ _ _ _ _ _); refine wpList_alloc_at rfl 54 rfl _ 3 z54 ?_; intro w3 hA3 hb3 hs3)
      | ((with_reducible show wpList _ _ _ _ _ _); refine wpList_store_at (P := Tryd.prog) rfl 54 (.tmp 4) (.tmp 8) rfl w2.heap.size [.pointer none, .slice none 0 0, .int .i64 9223372036854775807] rfl rfl 54 _ hA3 i54 rfl (one54 _) ?_; intro w4 hA4 hb4 hs4; refine Hid.out ?_))
    refine hidU ?_
    have hB4 : Below w2.heap.size w2 w4 := hb4.below hb3 (Nat.le_refl _) (by omega)
    have hw4 := hw2.trans (hB4.mono hw2.size)
    have hA24 := hA2.below hB4
    have hBw2 : w.heap.size ≤ w2.heap.size := hw2.size
    have hE := HW.out w2.heap.size w2.heap.size (by omega) trivial w4 [] ((HI.out.1.old (Old.of_below hw4 hBw)).up (by omega)) (Txt.new (Nat.le_refl _) hA4) (by have := hB4.size; omega) (HI.out.2.below hw4 h16) (by rw [← hX.out]; simpa using hlen)
    rw [← hX.out, List.nil_append] at hE
    clear HW hA3 hb3 hb4 hs3 hs4 hA2 hA4
    go_wp2_with (first
      | ((with_reducible show wpList _ _ _ _ _ _); refine wpList_load_at (P := Tryd.prog) rfl 29 (.tmp 1) rfl w.heap.size rfl 29 e.cells hA24 _ Tryd.underlying29 rfl (by rw [ET.cells_len]; exact i29) ?_))
    refine hE.mono ?_
    rintro r w5 ⟨rfl, hT5, hW5⟩
    obtain ⟨bs, hbs, hbl, hraw⟩ := hT5
    have hbX : bs = X := by
      rcases hbs with h | ⟨h, _⟩
      · exact h
      · omega
    subst hbX
    have hs5 : w2.heap.size ≤ w5.heap.size := by have := hB4.size; have := hW5.size; omega
    have hS := string_any w2.heap.size w2.heap.size _ bs w5 hraw hs5
    have hw5 : Below w.heap.size w w5 := hw4.trans ((hW5.below (Nat.le_refl _) (by have := hB4.size; omega)).mono hBw2)
    clear hE hW5 hraw hbs hA24 hw4 hB4
    go_wp2_with fail
    refine hS.mono ?_
    rintro r w6 ⟨rfl, hb6⟩
    go_wp2_with fail
    go_ret2
    exact ⟨rfl, hw5.trans (hb6.mono hBw2)⟩

end Go.Proofs.YtcmahiphfpgadaaDoor
