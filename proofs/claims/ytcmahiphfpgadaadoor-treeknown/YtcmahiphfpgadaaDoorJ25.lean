/- Joined texts of the proof. -/
import Derived.Test.YtcmahiphfpgadaaDoorJ24
import Derived.Test.YtcmahiphfpgadaaDoorJ22
import Derived.Deep.RegionWith

/- Statements and blocks are written. -/
namespace Go.Proofs.YtcmahiphfpgadaaDoor
open Go.RowKit
set_option linter.unusedVariables false

theorem stmt_any (B g m : Nat) (hm : m ≤ 9223372036854775807) (h16 : gB ≤ B) (N : Nat) : ∀ s : ST, SizeOf.sizeOf s < N → StmtW B g m s := by
  induction N with
  | zero => intro s h; omega
  | succ N ih =>
    rintro ⟨k, nm, ⟨op, t, b, enm, ea, ec, eks⟩, a1, c1, body, a2, c2, els⟩ hN
    have i1 : ∀ s ∈ body, StmtW B g m s := fun s hs => ih s (by have := ST.sz1 (k := k) (nm := nm) (e := .mk op t b enm ea ec eks) (a1 := a1) (a2 := a2) (c1 := c1) (c2 := c2) (els := els) hs; omega)
    have i2 : ∀ s ∈ els, StmtW B g m s := fun s hs => ih s (by have := ST.sz2 (k := k) (nm := nm) (e := .mk op t b enm ea ec eks) (a1 := a1) (a2 := a2) (c1 := c1) (c2 := c2) (body := body) hs; omega)
    have w1 : BlockW B g m a1 c1 body := fun bl d w F hbl hmay hr hT hBw hTab hlen => block_of B g m hm h16 body i1 bl d hbl hmay a1 c1 w F hr hT hBw hTab hlen
    have w2 : BlockW B g m a2 c2 els := fun bl d w F hbl hmay hr hT hBw hTab hlen => block_of B g m hm h16 els i2 bl d hbl hmay a2 c2 w F hr hT hBw hTab hlen
    by_cases h1 : k = 1
    · subst h1; exact stmtT_1 B g m hm h16 nm op t b enm ea ec eks a1 c1 body a2 c2 els
    by_cases h2 : k = 2
    · subst h2; exact stmtT_2 B g m hm h16 nm op t b enm ea ec eks a1 c1 body a2 c2 els
    by_cases h3 : k = 3
    · subst h3; exact stmtT_3 B g m hm h16 nm op t b enm ea ec eks a1 c1 body a2 c2 els
    by_cases h4 : k = 4
    · subst h4; exact stmtT_4 B g m hm h16 nm op t b enm ea ec eks a1 c1 body a2 c2 els
    by_cases h5 : k = 5
    · subst h5
      by_cases he : els = []
      · exact stmtT_5n B g m hm h16 nm op t b enm ea ec eks a1 c1 body a2 c2 els w1 w2 he
      · exact stmtT_5e B g m hm h16 nm op t b enm ea ec eks a1 c1 body a2 c2 els w1 w2 he
    by_cases h6 : k = 6
    · subst h6; exact stmtT_6 B g m hm h16 nm op t b enm ea ec eks a1 c1 body a2 c2 els w1
    by_cases h7 : k = 7
    · subst h7; exact stmtT_7 B g m hm h16 nm op t b enm ea ec eks a1 c1 body a2 c2 els
    intro bl d w F hbl hd hmay
    have h : mayS d (.mk k nm.data.toList (ET.mk op t b enm ea ec eks).ex (ST.sts body) (ST.sts els)) = true := hmay
    rw [mayS, if_neg h1, if_neg (by rintro (h | h); exact h2 h; exact h3 h), if_neg h4, if_neg h5, if_neg h6, if_neg h7] at h
    cases h

/-- A block that may be printed is written. -/
theorem block_any (B g m : Nat) (hm : m ≤ 9223372036854775807) (h16 : gB ≤ B) (a : Option Addr) (c : Nat) (ss : List ST) : BlockW B g m a c ss :=
  fun bl d w F hbl hmay hr hT hBw hTab hlen => block_of B g m hm h16 ss (fun s _ => stmt_any B g m hm h16 (SizeOf.sizeOf s + 1) s (by omega)) bl d hbl hmay a c w F hr hT hBw hTab hlen

end Go.Proofs.YtcmahiphfpgadaaDoor

/- Variables' lines are written. -/
namespace Go.Proofs.YtcmahiphfpgadaaDoor
open Go.RowKit
set_option linter.unusedVariables false

/-- A variable's line. -/
def vrT (wd : List UInt8) (v : Vr) : List UInt8 := wd ++ (v.nm ++ ([32] ++ (tyT v.t ++ ([32, 61, 32] ++ (valTx v.t v.b ++ [59, 10])))))
def vrsT (wd : List UInt8) (vs : List Vr) : List UInt8 := (vs.map (vrT wd)).flatten

set_option maxRecDepth 100000 in
set_option maxHeartbeats 3200000 in
theorem vars_any (B g m : Nat) (hm : m ≤ 9223372036854775807) (h16 : gB ≤ B) (ks : List VT) (wd : ByteArray) (a : Option Addr) (c : Nat) (w : World) (F : List UInt8)
    (hr : RowV B w a c ks) (hT : Txt B w g m F) (hBw : B ≤ w.heap.size) (hTab : Tab w) (hlen : (F ++ vrsT wd.data.toList (ks.map VT.vr)).length ≤ 70368744177664) :
    Calls Tryd.prog 35 #[.pointer (some ⟨g, 0, none⟩), .string wd, .slice a ks.length c] w fun r w' => r = .returned (.tuple #[]) ∧ Txt B w' g m (F ++ vrsT wd.data.toList (ks.map VT.vr)) ∧ Wr B g w w' := by
  have hBg := hT.base
  have hgw := hT.lt
  obtain ⟨n, hn⟩ : ∃ n, Hid (n = ks.length) := ⟨_, (rfl : ks.length = _)⟩
  have hl := hr.1
  have hk := hr.2.1
  rw [← hn.out] at hl hk ⊢
  have HR : Hid (RowV B w a c ks ∧ Txt B w g m F ∧ Tab w) := ⟨hr, hT, hTab⟩
  have HL : Hid ((F ++ vrsT wd.data.toList (ks.map VT.vr)).length ≤ 70368744177664) := hlen
  clear hr hT hTab hlen
  go_enter Tryd.func35, Tryd.ntmps35
  go_wp2_with fail
  go_loopw [12] (fun j wr => ∃ i : Nat, j = .int .i64 (i : Int) ∧ i ≤ n ∧ Hid (Txt B wr g m (F ++ vrsT wd.data.toList ((ks.take i).map VT.vr)) ∧ Wr B g w wr)) (fun j _ => n - (intOf j).toNat)
  case atStart => exact ⟨0, rfl, by omega, by simpa [vrsT] using HR.out.2.1, Wr.refl _ _ _⟩
  case round =>
    obtain ⟨i, rfl, hi, hX⟩ := hrel
    by_cases hc : i < n
    · obtain ⟨s, hs⟩ : ∃ k, ks[i]? = some k := ⟨ks[i]'(by rw [← hn.out]; exact hc), by rw [List.getElem?_eq_getElem]⟩
      obtain ⟨hTr, hWr⟩ := hX.out
      have hold : Old B w wr := Old.of_wr hWr hBg hBw
      obtain ⟨g1, o1, rfl, hg1, hr1, hs1⟩ := (HR.out.1.old hold).at i s hs
      have hgr := hTr.lt
      have htk : vrsT wd.data.toList ((ks.take (i + 1)).map VT.vr) = vrsT wd.data.toList ((ks.take i).map VT.vr) ++ vrT wd.data.toList s.vr := by
        rw [List.take_add_one, hs]
        simp [vrsT]
      have hle : (F ++ vrsT wd.data.toList ((ks.take (i + 1)).map VT.vr)).length ≤ (F ++ vrsT wd.data.toList (ks.map VT.vr)).length := by
        have e : vrsT wd.data.toList (ks.map VT.vr) = vrsT wd.data.toList ((ks.take (i + 1)).map VT.vr) ++ vrsT wd.data.toList ((ks.drop (i + 1)).map VT.vr) := by
          unfold vrsT
          rw [← List.flatten_append, ← List.map_append, ← List.map_append, List.take_append_drop]
        rw [e]
        simp only [List.length_append]
        omega
      obtain ⟨nm, t, b⟩ := s
      obtain ⟨V, hV⟩ : ∃ V, Hid (V = valTx t b) := ⟨_, (rfl : valTx t b = _)⟩
      obtain ⟨O, hO⟩ : ∃ O, Hid (O = valOk t b) := ⟨_, (rfl : valOk t b = _)⟩
      obtain ⟨Y, hY⟩ : ∃ Y, Hid (Y = tyT t) := ⟨_, (rfl : tyT t = _)⟩
      obtain ⟨G, hG⟩ : ∃ G, Hid (G = F ++ vrsT wd.data.toList ((ks.take i).map VT.vr)) := ⟨_, (rfl : _ = F ++ vrsT _ _)⟩
      obtain ⟨X, hXX⟩ : ∃ X, Hid (X = wd.data.toList ++ (nm.data.toList ++ ([32] ++ (Y ++ ([32, 61, 32] ++ (V ++ [59, 10])))))) := ⟨_, (rfl : _ = wd.data.toList ++ (nm.data.toList ++ ([32] ++ (Y ++ ([32, 61, 32] ++ (V ++ [59, 10]))))))⟩
      have HG : Hid (F ++ vrsT wd.data.toList ((ks.take (i + 1)).map VT.vr) = G ++ X) := by
        show _ = _
        rw [htk, hXX.out, hV.out, hY.out, hG.out, List.append_assoc]
        rfl
      have hlen2 : (G ++ X).length ≤ 70368744177664 := by
        have h1 := HL.out
        rw [HG.out] at hle
        omega
      rw [← hG.out] at hTr
      have hVal : ∀ w, Tab w → gB ≤ w.heap.size → Calls Tryd.prog 13 #[.agg [.int .u8 (t : Int), .int .u64 (b : Int)].toArray] w fun e w' => e = .returned (.tuple #[.string ⟨V.toArray⟩, .bool O]) ∧ Below w.heap.size w w' := fun w h1 h2 => by
        rw [hV.out, hO.out]
        exact valueText_any t b hs1.1 hs1.2 w h1 h2
      have hTy : ∀ w, Calls Tryd.prog 49 #[.int .u8 (t : Int)] w fun e w' => e = .returned (.string ⟨Y.toArray⟩) ∧ w' = w := fun w => by rw [hY.out]; exact typeText_any t w
      have HK : Hid (Txt B wr g m G ∧ Wr B g w wr ∧ Tab wr) := ⟨hTr, hWr, HR.out.2.2.wr hWr hBg hBw h16⟩
      have hBr : B ≤ wr.heap.size := by have := hWr.size; omega
      clear hX hs1 hold htk hle hTr hWr hV hO hY hG
      go_wp2_with (first
        | ((with_reducible show wpList _ _ _ _ _ _); refine wpList_load_mid (P := Tryd.prog) rfl 79 (.tmp 14) rfl g1 (o1 + i * 3) (by first | rfl | (simp; done)) (VT.cells ⟨nm, t, b⟩) _ hr1 Tryd.underlying79 rfl i79 ?_)
        | ((with_reducible show wpList _ _ _ _ _ _); refine wpList_alloc_at rfl 79 rfl _ 3 z79 ?_; intro w2 hA2 hb2 hs2)
        | ((with_reducible show wpList _ _ _ _ _ _); refine wpList_store_at (P := Tryd.prog) rfl 79 (.tmp 7) (.tmp 15) rfl wr.heap.size (VT.cells ⟨nm, t, b⟩) rfl rfl 79 _ hA2 i79 rfl (VT.one _) ?_; intro w3 hA3 hb3 hs3; refine Hid.out ?_))
      refine hidU ?_
      have hB3 : Below wr.heap.size wr w3 := hb3.below hb2 (Nat.le_refl _) (by omega)
      have c1 : w3.cell? ⟨wr.heap.size, 1, none⟩ = some (.int .u8 (t : Int)) := by rw [hA3.cell]; rfl
      have c2 : w3.cell? ⟨wr.heap.size, 2, none⟩ = some (.int .u64 (b : Int)) := by rw [hA3.cell]; rfl
      have hA3' := hA3
      have hVal' := hVal w3 (HK.out.2.2.below hB3 (by omega)) (by have := hB3.size; omega)
      clear hb3 hb2 hA2 hr1 hs2 hs3 hA3 hVal
      go_wp2_with fail
      refine hVal'.mono ?_
      rintro r w4 ⟨rfl, hb4⟩
      have hA4 := hA3'.below hb4
      have hw4 : Below wr.heap.size wr w4 := hB3.trans (hb4.mono hB3.size)
      clear hVal' hb4 hB3 hA3' c1 c2
      have c0 : w4.cell? ⟨wr.heap.size, 0, none⟩ = some (.string nm) := by rw [hA4.cell]; rfl
      have c1 : w4.cell? ⟨wr.heap.size, 1, none⟩ = some (.int .u8 (t : Int)) := by rw [hA4.cell]; rfl
      have hP : ∀ W k, Below w4.heap.size w4 W → At 9 W k [.string wd, .string nm, .string ⟨#[32]⟩, .string ⟨Y.toArray⟩, .string ⟨#[32, 61, 32]⟩, .string ⟨V.toArray⟩, .string ⟨#[59, 10]⟩] → Calls Tryd.prog 22 #[.pointer (some ⟨g, 0, none⟩), .slice (some ⟨k, 0, none⟩) 7 7] W fun r w' => r = .returned (.tuple #[]) ∧ Hid (Txt B w' g m (F ++ vrsT wd.data.toList ((ks.take (i + 1)).map VT.vr)) ∧ Wr B g w w') := fun W k hb hA => by
        refine (put_one B g m k [wd, nm, ⟨#[32]⟩, ⟨Y.toArray⟩, ⟨#[32, 61, 32]⟩, ⟨V.toArray⟩, ⟨#[59, 10]⟩] X G (by rw [hXX.out]; simp [cat]) W hm ((HK.out.1.below hw4).below hb) hA hlen2 (by simp)).mono ?_
        rintro r w' ⟨rfl, h1, h2⟩
        refine ⟨rfl, ?_, HK.out.2.1.trans ((Wr.of_below (hw4.trans (hb.mono hw4.size))).trans h2)⟩
        rw [HG.out]
        exact h1
      have HP : Hid (∀ W k, Below w4.heap.size w4 W → At 9 W k [.string wd, .string nm, .string ⟨#[32]⟩, .string ⟨Y.toArray⟩, .string ⟨#[32, 61, 32]⟩, .string ⟨V.toArray⟩, .string ⟨#[59, 10]⟩] → Calls Tryd.prog 22 #[.pointer (some ⟨g, 0, none⟩), .slice (some ⟨k, 0, none⟩) 7 7] W fun r w' => r = .returned (.tuple #[]) ∧ Hid (Txt B w' g m (F ++ vrsT wd.data.toList ((ks.take (i + 1)).map VT.vr)) ∧ Wr B g w w')) := hP
      clear hP hA4 hw4 HK HG hXX hlen2 HL HR
      go_wp2_with fail
      go_region_with (first
        | (go_at_call 49; refine (hTy _).mono ?_; rintro r w' ⟨rfl, rfl⟩)
        | (go_at_call 22; refine (HP.out _ w4.heap.size (by first | exact (Below.drew (Below.refl _ w4)).alloc (Nat.le_refl _) _ | exact Below.drew ((Below.refl _ w4).alloc (Nat.le_refl _) _)) (by exact _root_.Go.heap_alloc_new _ _)).mono ?_; rintro r w5 ⟨rfl, HY⟩))
      all_goals
        (clear HP hTy c0 c1
         go_wp2
         go_roundw
         case rel => exact ⟨i + 1, by go_num, by omega, by assumption⟩
         case measure => simp [intOf]; omega)
    · have hin : i = n := by omega
      have HY : Hid (Txt B wr g m (F ++ vrsT wd.data.toList (ks.map VT.vr)) ∧ Wr B g w wr) := by
        have := hX.out
        rw [hin, hn.out, List.take_length] at this
        exact this
      clear hX hin
      go_wp2
      go_end0
      exact ⟨rfl, HY.out⟩

end Go.Proofs.YtcmahiphfpgadaaDoor
