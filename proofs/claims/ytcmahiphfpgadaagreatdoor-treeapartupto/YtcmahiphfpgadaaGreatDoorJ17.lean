/- Joined texts of the proof. -/
import Derived.Test.YtcmahiphfpgadaaGreatDoorJ16
import Derived.Test.YtcmahiphfpgadaaGreatDoorJ13
import Derived.Deep.RegionWith
import Derived.Test.YtcmahiphfpgadaaGreatDoorJ14

/- Statements and blocks are written. -/
namespace Go.Proofs.YtcmahiphfpgadaaGreatDoor
open Go.RowKit
set_option linter.unusedVariables false

theorem stmt_any (B g m : Nat) (hm : m ≤ 9223372036854775807) (h16 : gB ≤ B) (N : Nat) : ∀ s : ST, SizeOf.sizeOf s < N → StmtW B g m s := by
  induction N with
  | zero => intro s h; omega
  | succ N ih =>
    rintro ⟨k, nm, ⟨op, t, b, enm, ea, ec, eks⟩, a1, c1, body, a2, c2, els⟩ hN
    have i1 : ∀ s ∈ body, StmtW B g m s := fun s hs => ih s (by have := ST.sz1 (k := k) (nm := nm) (e := .mk op t b enm ea ec eks) (a1 := a1) (a2 := a2) (c1 := c1) (c2 := c2) (els := els) hs; omega)
    have i2 : ∀ s ∈ els, StmtW B g m s := fun s hs => ih s (by have := ST.sz2 (k := k) (nm := nm) (e := .mk op t b enm ea ec eks) (a1 := a1) (a2 := a2) (c1 := c1) (c2 := c2) (body := body) hs; omega)
    have w1 : BlockW B g m a1 c1 body := fun bl d w F hbl hmay hr hT hBw hTab hlen => block_of B g m hm h16 body i1 bl d hbl hmay a1 c1 w F hr hT hBw hTab hlen
    have w2 : BlockW B g m a2 c2 els := fun bl d w F hbl hmay hr hT hBw hTab hlen => block_of B g m hm h16 els i2 bl d hbl hmay a2 c2 w F hr hT hBw hTab hlen
    by_cases h1 : k = 1
    · subst h1; exact stmtT_1 B g m hm h16 nm op t b enm ea ec eks a1 c1 body a2 c2 els
    by_cases h2 : k = 2
    · subst h2; exact stmtT_2 B g m hm h16 nm op t b enm ea ec eks a1 c1 body a2 c2 els
    by_cases h3 : k = 3
    · subst h3; exact stmtT_3 B g m hm h16 nm op t b enm ea ec eks a1 c1 body a2 c2 els
    by_cases h4 : k = 4
    · subst h4; exact stmtT_4 B g m hm h16 nm op t b enm ea ec eks a1 c1 body a2 c2 els
    by_cases h5 : k = 5
    · subst h5
      by_cases he : els = []
      · exact stmtT_5n B g m hm h16 nm op t b enm ea ec eks a1 c1 body a2 c2 els w1 w2 he
      · exact stmtT_5e B g m hm h16 nm op t b enm ea ec eks a1 c1 body a2 c2 els w1 w2 he
    by_cases h6 : k = 6
    · subst h6; exact stmtT_6 B g m hm h16 nm op t b enm ea ec eks a1 c1 body a2 c2 els w1
    by_cases h7 : k = 7
    · subst h7; exact stmtT_7 B g m hm h16 nm op t b enm ea ec eks a1 c1 body a2 c2 els
    intro bl d w F hbl hd hmay
    have h : mayS d (.mk k nm.data.toList (ET.mk op t b enm ea ec eks).ex (ST.sts body) (ST.sts els)) = true := hmay
    rw [mayS, if_neg h1, if_neg (by rintro (h | h); exact h2 h; exact h3 h), if_neg h4, if_neg h5, if_neg h6, if_neg h7] at h
    cases h

/-- A block that may be printed is written. -/
theorem block_any (B g m : Nat) (hm : m ≤ 9223372036854775807) (h16 : gB ≤ B) (a : Option Addr) (c : Nat) (ss : List ST) : BlockW B g m a c ss :=
  fun bl d w F hbl hmay hr hT hBw hTab hlen => block_of B g m hm h16 ss (fun s _ => stmt_any B g m hm h16 (SizeOf.sizeOf s + 1) s (by omega)) bl d hbl hmay a c w F hr hT hBw hTab hlen

end Go.Proofs.YtcmahiphfpgadaaGreatDoor

/- Variables' lines are written. -/
namespace Go.Proofs.YtcmahiphfpgadaaGreatDoor
open Go.RowKit
set_option linter.unusedVariables false

/-- A variable's line. -/
def vrT (wd : List UInt8) (v : Vr) : List UInt8 := wd ++ (v.nm ++ ([32] ++ (tyT v.t ++ ([32, 61, 32] ++ (valTx v.t v.b ++ [59, 10])))))
def vrsT (wd : List UInt8) (vs : List Vr) : List UInt8 := (vs.map (vrT wd)).flatten

set_option maxRecDepth 100000 in
set_option maxHeartbeats 3200000 in
theorem vars_any (B g m : Nat) (hm : m ≤ 9223372036854775807) (h16 : gB ≤ B) (ks : List VT) (wd : ByteArray) (a : Option Addr) (c : Nat) (w : World) (F : List UInt8)
    (hr : RowV B w a c ks) (hT : Txt B w g m F) (hBw : B ≤ w.heap.size) (hTab : Tab w) (hlen : (F ++ vrsT wd.data.toList (ks.map VT.vr)).length ≤ 70368744177664) :
    Calls Tryz.prog 71 #[.pointer (some ⟨g, 0, none⟩), .string wd, .slice a ks.length c] w fun r w' => r = .returned (.tuple #[]) ∧ Txt B w' g m (F ++ vrsT wd.data.toList (ks.map VT.vr)) ∧ Wr B g w w' := by
  have hBg := hT.base
  have hgw := hT.lt
  obtain ⟨n, hn⟩ : ∃ n, Hid (n = ks.length) := ⟨_, (rfl : ks.length = _)⟩
  have hl := hr.1
  have hk := hr.2.1
  rw [← hn.out] at hl hk ⊢
  have HR : Hid (RowV B w a c ks ∧ Txt B w g m F ∧ Tab w) := ⟨hr, hT, hTab⟩
  have HL : Hid ((F ++ vrsT wd.data.toList (ks.map VT.vr)).length ≤ 70368744177664) := hlen
  clear hr hT hTab hlen
  go_enter Tryz.func71, Tryz.ntmps71
  go_wp2_with fail
  go_loopw [12] (fun j wr => ∃ i : Nat, j = .int .i64 (i : Int) ∧ i ≤ n ∧ Hid (Txt B wr g m (F ++ vrsT wd.data.toList ((ks.take i).map VT.vr)) ∧ Wr B g w wr)) (fun j _ => n - (intOf j).toNat)
  case atStart => exact ⟨0, rfl, by omega, by simpa [vrsT] using HR.out.2.1, Wr.refl _ _ _⟩
  case round =>
    obtain ⟨i, rfl, hi, hX⟩ := hrel
    by_cases hc : i < n
    · obtain ⟨s, hs⟩ : ∃ k, ks[i]? = some k := ⟨ks[i]'(by rw [← hn.out]; exact hc), by rw [List.getElem?_eq_getElem]⟩
      obtain ⟨hTr, hWr⟩ := hX.out
      have hold : Old B w wr := Old.of_wr hWr hBg hBw
      obtain ⟨g1, o1, rfl, hg1, hr1, hs1⟩ := (HR.out.1.old hold).at i s hs
      have hgr := hTr.lt
      have htk : vrsT wd.data.toList ((ks.take (i + 1)).map VT.vr) = vrsT wd.data.toList ((ks.take i).map VT.vr) ++ vrT wd.data.toList s.vr := by
        rw [List.take_add_one, hs]
        simp [vrsT]
      have hle : (F ++ vrsT wd.data.toList ((ks.take (i + 1)).map VT.vr)).length ≤ (F ++ vrsT wd.data.toList (ks.map VT.vr)).length := by
        have e : vrsT wd.data.toList (ks.map VT.vr) = vrsT wd.data.toList ((ks.take (i + 1)).map VT.vr) ++ vrsT wd.data.toList ((ks.drop (i + 1)).map VT.vr) := by
          unfold vrsT
          rw [← List.flatten_append, ← List.map_append, ← List.map_append, List.take_append_drop]
        rw [e]
        simp only [List.length_append]
        omega
      obtain ⟨nm, t, b⟩ := s
      obtain ⟨V, hV⟩ : ∃ V, Hid (V = valTx t b) := ⟨_, (rfl : valTx t b = _)⟩
      obtain ⟨O, hO⟩ : ∃ O, Hid (O = valOk t b) := ⟨_, (rfl : valOk t b = _)⟩
      obtain ⟨Y, hY⟩ : ∃ Y, Hid (Y = tyT t) := ⟨_, (rfl : tyT t = _)⟩
      obtain ⟨G, hG⟩ : ∃ G, Hid (G = F ++ vrsT wd.data.toList ((ks.take i).map VT.vr)) := ⟨_, (rfl : _ = F ++ vrsT _ _)⟩
      obtain ⟨X, hXX⟩ : ∃ X, Hid (X = wd.data.toList ++ (nm.data.toList ++ ([32] ++ (Y ++ ([32, 61, 32] ++ (V ++ [59, 10])))))) := ⟨_, (rfl : _ = wd.data.toList ++ (nm.data.toList ++ ([32] ++ (Y ++ ([32, 61, 32] ++ (V ++ [59, 10]))))))⟩
      have HG : Hid (F ++ vrsT wd.data.toList ((ks.take (i + 1)).map VT.vr) = G ++ X) := by
        show _ = _
        rw [htk, hXX.out, hV.out, hY.out, hG.out, List.append_assoc]
        rfl
      have hlen2 : (G ++ X).length ≤ 70368744177664 := by
        have h1 := HL.out
        rw [HG.out] at hle
        omega
      rw [← hG.out] at hTr
      have hVal : ∀ w, Tab w → gB ≤ w.heap.size → Calls Tryz.prog 40 #[.agg [.int .u8 (t : Int), .int .u64 (b : Int)].toArray] w fun e w' => e = .returned (.tuple #[.string ⟨V.toArray⟩, .bool O]) ∧ Below w.heap.size w w' := fun w h1 h2 => by
        rw [hV.out, hO.out]
        exact valueText_any t b hs1.1 hs1.2 w h1 h2
      have hTy : ∀ w, Calls Tryz.prog 98 #[.int .u8 (t : Int)] w fun e w' => e = .returned (.string ⟨Y.toArray⟩) ∧ w' = w := fun w => by rw [hY.out]; exact typeText_any t w
      have HK : Hid (Txt B wr g m G ∧ Wr B g w wr ∧ Tab wr) := ⟨hTr, hWr, HR.out.2.2.wr hWr hBg hBw h16⟩
      have hBr : B ≤ wr.heap.size := by have := hWr.size; omega
      clear hX hs1 hold htk hle hTr hWr hV hO hY hG
      go_wp2_with (first
        | ((with_reducible show wpList _ _ _ _ _ _); refine wpList_load_mid (P := Tryz.prog) rfl 56 (.tmp 14) rfl g1 (o1 + i * 3) (by first | rfl | (simp; done)) (VT.cells ⟨nm, t, b⟩) _ hr1 Tryz.underlying56 rfl i79 ?_)
        | ((with_reducible show wpList _ _ _ _ _ _); refine wpList_alloc_at rfl 56 rfl _ 3 z79 ?_; intro w2 hA2 hb2 hs2)
        | ((with_reducible show wpList _ _ _ _ _ _); refine wpList_store_at (P := Tryz.prog) rfl 56 (.tmp 7) (.tmp 15) rfl wr.heap.size (VT.cells ⟨nm, t, b⟩) rfl rfl 56 _ hA2 i79 rfl (VT.one _) ?_; intro w3 hA3 hb3 hs3; refine Hid.out ?_))
      refine hidU ?_
      have hB3 : Below wr.heap.size wr w3 := hb3.below hb2 (Nat.le_refl _) (by omega)
      have c1 : w3.cell? ⟨wr.heap.size, 1, none⟩ = some (.int .u8 (t : Int)) := by rw [hA3.cell]; rfl
      have c2 : w3.cell? ⟨wr.heap.size, 2, none⟩ = some (.int .u64 (b : Int)) := by rw [hA3.cell]; rfl
      have hA3' := hA3
      have hVal' := hVal w3 (HK.out.2.2.below hB3 (by omega)) (by have := hB3.size; omega)
      clear hb3 hb2 hA2 hr1 hs2 hs3 hA3 hVal
      go_wp2_with fail
      refine hVal'.mono ?_
      rintro r w4 ⟨rfl, hb4⟩
      have hA4 := hA3'.below hb4
      have hw4 : Below wr.heap.size wr w4 := hB3.trans (hb4.mono hB3.size)
      clear hVal' hb4 hB3 hA3' c1 c2
      have c0 : w4.cell? ⟨wr.heap.size, 0, none⟩ = some (.string nm) := by rw [hA4.cell]; rfl
      have c1 : w4.cell? ⟨wr.heap.size, 1, none⟩ = some (.int .u8 (t : Int)) := by rw [hA4.cell]; rfl
      have hP : ∀ W k, Below w4.heap.size w4 W → At 9 W k [.string wd, .string nm, .string ⟨#[32]⟩, .string ⟨Y.toArray⟩, .string ⟨#[32, 61, 32]⟩, .string ⟨V.toArray⟩, .string ⟨#[59, 10]⟩] → Calls Tryz.prog 72 #[.pointer (some ⟨g, 0, none⟩), .slice (some ⟨k, 0, none⟩) 7 7] W fun r w' => r = .returned (.tuple #[]) ∧ Hid (Txt B w' g m (F ++ vrsT wd.data.toList ((ks.take (i + 1)).map VT.vr)) ∧ Wr B g w w') := fun W k hb hA => by
        refine (put_one B g m k [wd, nm, ⟨#[32]⟩, ⟨Y.toArray⟩, ⟨#[32, 61, 32]⟩, ⟨V.toArray⟩, ⟨#[59, 10]⟩] X G (by rw [hXX.out]; simp [cat]) W hm ((HK.out.1.below hw4).below hb) hA hlen2 (by simp)).mono ?_
        rintro r w' ⟨rfl, h1, h2⟩
        refine ⟨rfl, ?_, HK.out.2.1.trans ((Wr.of_below (hw4.trans (hb.mono hw4.size))).trans h2)⟩
        rw [HG.out]
        exact h1
      have HP : Hid (∀ W k, Below w4.heap.size w4 W → At 9 W k [.string wd, .string nm, .string ⟨#[32]⟩, .string ⟨Y.toArray⟩, .string ⟨#[32, 61, 32]⟩, .string ⟨V.toArray⟩, .string ⟨#[59, 10]⟩] → Calls Tryz.prog 72 #[.pointer (some ⟨g, 0, none⟩), .slice (some ⟨k, 0, none⟩) 7 7] W fun r w' => r = .returned (.tuple #[]) ∧ Hid (Txt B w' g m (F ++ vrsT wd.data.toList ((ks.take (i + 1)).map VT.vr)) ∧ Wr B g w w')) := hP
      clear hP hA4 hw4 HK HG hXX hlen2 HL HR
      go_wp2_with fail
      go_region_with (first
        | (go_at_call 98; refine (hTy _).mono ?_; rintro r w' ⟨rfl, rfl⟩)
        | (go_at_call 72; refine (HP.out _ w4.heap.size (by first | exact (Below.drew (Below.refl _ w4)).alloc (Nat.le_refl _) _ | exact Below.drew ((Below.refl _ w4).alloc (Nat.le_refl _) _)) (by exact _root_.Go.heap_alloc_new _ _)).mono ?_; rintro r w5 ⟨rfl, HY⟩))
      all_goals
        (clear HP hTy c0 c1
         go_wp2
         go_roundw
         case rel => exact ⟨i + 1, by go_num, by omega, by assumption⟩
         case measure => simp [intOf]; omega)
    · have hin : i = n := by omega
      have HY : Hid (Txt B wr g m (F ++ vrsT wd.data.toList (ks.map VT.vr)) ∧ Wr B g w wr) := by
        have := hX.out
        rw [hin, hn.out, List.take_length] at this
        exact this
      clear hX hin
      go_wp2
      go_end0
      exact ⟨rfl, HY.out⟩

end Go.Proofs.YtcmahiphfpgadaaGreatDoor

/- A program's text is written. -/
namespace Go.Proofs.YtcmahiphfpgadaaGreatDoor
open Go.RowKit
set_option linter.unusedVariables false

def mxT (m : List UInt8) : List UInt8 := [109, 117, 116, 101, 120, 32] ++ (m ++ [59, 10])
def mxsT (ms : List (List UInt8)) : List UInt8 := (ms.map mxT).flatten
def thT (t : Th) : List UInt8 := ([116, 104, 114, 101, 97, 100, 32] ++ (t.nm ++ [32, 123, 10])) ++ (vrsT [32, 32, 108, 111, 99, 97, 108, 32] t.locals ++ (blT [32, 32] t.body ++ [125, 10]))
def thsT (ts : List Th) : List UInt8 := (ts.map thT).flatten
def pgT (p : Pg) : List UInt8 := vrsT [115, 104, 97, 114, 101, 100, 32] p.shared ++ (mxsT p.mutexes ++ thsT p.threads)

theorem th_cells {w : World} {g : Nat} {nm : ByteArray} {s1 s2 : Value} (h : At 59 w g [.string nm, s1, s2]) : w.cell? ⟨g, 0, none⟩ = some (.string nm) ∧ w.cell? ⟨g, 1, none⟩ = some s1 ∧ w.cell? ⟨g, 2, none⟩ = some s2 := by
  refine ⟨?_, ?_, ?_⟩ <;> (rw [h.cell]; rfl)
theorem pg_cells {w : World} {g : Nat} {s1 s2 s3 : Value} (h : At 26 w g [s1, s2, s3]) : w.cell? ⟨g, 0, none⟩ = some s1 ∧ w.cell? ⟨g, 1, none⟩ = some s2 ∧ w.cell? ⟨g, 2, none⟩ = some s3 := by
  refine ⟨?_, ?_, ?_⟩ <;> (rw [h.cell]; rfl)

theorem flat_take {α : Type} (f : α → List UInt8) (l : List α) (i : Nat) (x : α) (h : l[i]? = some x) : ((l.take (i + 1)).map f).flatten = ((l.take i).map f).flatten ++ f x := by
  rw [List.take_add_one, h]
  simp
theorem flat_le {α : Type} (f : α → List UInt8) (l : List α) (i : Nat) : ((l.take i).map f).flatten.length ≤ (l.map f).flatten.length := by
  conv => rhs; rw [← List.take_append_drop i l]
  rw [List.map_append, List.flatten_append, List.length_append]
  omega

theorem mayT_body (t : TT) (h : mayT t.th = true) : mayB 0 (t.body.map ST.st) = true := by
  unfold mayT at h
  rw [Bool.and_eq_true, Bool.and_eq_true] at h
  exact h.2.2

theorem mayP_threads (p : PT) (h : mayP p.pg = true) : ∀ t ∈ p.threads, mayB 0 (t.body.map ST.st) = true := by
  unfold mayP PT.pg at h
  rw [Bool.and_eq_true, Bool.and_eq_true] at h
  intro t ht
  have h2 := h.2.2
  simp only [List.all_eq_true, List.mem_map, forall_exists_index, and_imp, forall_apply_eq_imp_iff₂] at h2
  exact mayT_body t (h2 t ht)

set_option maxRecDepth 100000 in
set_option maxHeartbeats 3200000 in
theorem program_of (B g m : Nat) (hm : m ≤ 9223372036854775807) (h16 : gB ≤ B) (a1 : Option Addr) (n1 c1 : Nat) (V : List UInt8) (a2 : Option Addr) (c2 : Nat) (ms : List ByteArray) (a3 : Option Addr) (c3 : Nat) (ts : List TT) (w : World) (F : List UInt8)
    (hr2 : RowN B w a2 c2 ms) (hr3 : RowT B w a3 c3 ts) (hT : Txt B w g m F) (hBw : B ≤ w.heap.size) (hTab : Tab w) (hlen : F.length + (V.length + ((mxsT (ms.map (fun s => s.data.toList))).length + (thsT (ts.map TT.th)).length)) ≤ 70368744177664)
    (hVs : ∀ w1, Below w.heap.size w w1 → Calls Tryz.prog 71 #[.pointer (some ⟨g, 0, none⟩), .string ⟨#[115, 104, 97, 114, 101, 100, 32]⟩, .slice a1 n1 c1] w1 fun r w' => r = .returned (.tuple #[]) ∧ Txt B w' g m (F ++ V) ∧ Wr B g w1 w')
    (hLs : ∀ t ∈ ts, ∀ w1 G, Txt B w1 g m G → t.In B w1 → B ≤ w1.heap.size → Tab w1 → (G ++ vrsT [32, 32, 108, 111, 99, 97, 108, 32] (t.locals.map VT.vr)).length ≤ 70368744177664 → Calls Tryz.prog 71 #[.pointer (some ⟨g, 0, none⟩), .string ⟨#[32, 32, 108, 111, 99, 97, 108, 32]⟩, .slice t.a1 t.locals.length t.c1] w1 fun r w' => r = .returned (.tuple #[]) ∧ Txt B w' g m (G ++ vrsT [32, 32, 108, 111, 99, 97, 108, 32] (t.locals.map VT.vr)) ∧ Wr B g w1 w')
    (hBs : ∀ t ∈ ts, ∀ w1 G, Txt B w1 g m G → t.In B w1 → B ≤ w1.heap.size → Tab w1 → (G ++ blT [32, 32] (t.body.map ST.st)).length ≤ 70368744177664 → Calls Tryz.prog 73 #[.pointer (some ⟨g, 0, none⟩), .slice t.a2 t.body.length t.c2, .string ⟨#[32, 32]⟩] w1 fun r w' => r = .returned (.tuple #[]) ∧ Txt B w' g m (G ++ blT [32, 32] (t.body.map ST.st)) ∧ Wr B g w1 w') :
    Calls Tryz.prog 31 #[.pointer (some ⟨g, 0, none⟩), .agg [.slice a1 n1 c1, .slice a2 ms.length c2, .slice a3 ts.length c3].toArray] w fun r w' => r = .returned (.tuple #[]) ∧ Txt B w' g m (F ++ (V ++ (mxsT (ms.map (fun s => s.data.toList)) ++ thsT (ts.map TT.th)))) ∧ Wr B g w w' := by
  have hBg := hT.base
  have hgw := hT.lt
  obtain ⟨n2, hn2⟩ : ∃ n, Hid (n = ms.length) := ⟨_, (rfl : ms.length = _)⟩
  obtain ⟨n3, hn3⟩ : ∃ n, Hid (n = ts.length) := ⟨_, (rfl : ts.length = _)⟩
  have hl2 := hr2.1
  have hk2 := hr2.2.1
  have hl3 := hr3.1
  have hk3 := hr3.2.1
  rw [← hn2.out] at hl2 hk2 ⊢
  rw [← hn3.out] at hl3 hk3 ⊢
  have HI : Hid (RowN B w a2 c2 ms ∧ RowT B w a3 c3 ts ∧ Tab w) := ⟨hr2, hr3, hTab⟩
  have HL : Hid (F.length + (V.length + ((mxsT (ms.map (fun s => s.data.toList))).length + (thsT (ts.map TT.th)).length)) ≤ 70368744177664) := hlen
  have HT : Hid (Txt B w g m F) := hT
  have HS : Hid (∀ t ∈ ts, ∀ w1 G, Txt B w1 g m G → t.In B w1 → B ≤ w1.heap.size → Tab w1 → (G ++ vrsT [32, 32, 108, 111, 99, 97, 108, 32] (t.locals.map VT.vr)).length ≤ 70368744177664 → Calls Tryz.prog 71 #[.pointer (some ⟨g, 0, none⟩), .string ⟨#[32, 32, 108, 111, 99, 97, 108, 32]⟩, .slice t.a1 t.locals.length t.c1] w1 fun r w' => r = .returned (.tuple #[]) ∧ Txt B w' g m (G ++ vrsT [32, 32, 108, 111, 99, 97, 108, 32] (t.locals.map VT.vr)) ∧ Wr B g w1 w') := hLs
  have HB : Hid (∀ t ∈ ts, ∀ w1 G, Txt B w1 g m G → t.In B w1 → B ≤ w1.heap.size → Tab w1 → (G ++ blT [32, 32] (t.body.map ST.st)).length ≤ 70368744177664 → Calls Tryz.prog 73 #[.pointer (some ⟨g, 0, none⟩), .slice t.a2 t.body.length t.c2, .string ⟨#[32, 32]⟩] w1 fun r w' => r = .returned (.tuple #[]) ∧ Txt B w' g m (G ++ blT [32, 32] (t.body.map ST.st)) ∧ Wr B g w1 w') := hBs
  clear hr2 hr3 hT hTab hlen hLs hBs
  go_enter Tryz.func31, Tryz.ntmps31
  go_wp2_with (first
    | ((with_reducible show wpList _ _ _ _ _ _); refine wpList_box_at rfl 26 (.tmp 1) rfl [.slice a1 n1 c1, .slice a2 n2 c2, .slice a3 n3 c3] rfl ?_; intro w1 hA1 hb1 hs1; clear hs1; refine Hid.out ?_))
  refine hidU ?_
  obtain ⟨q0, -, -⟩ := pg_cells hA1
  have hVs' := hVs w1 hb1
  clear hVs
  go_wp2_with fail
  refine hVs'.mono ?_
  rintro r w2 ⟨rfl, hT2, hW2⟩
  have hA2 := hW2.at hA1 (by omega) (by decide)
  have hw2 : Wr B g w w2 := (Wr.of_below hb1).trans hW2
  clear hVs' hA1 hb1 hW2 q0
  obtain ⟨-, q1, -⟩ := pg_cells hA2
  have H0 : Hid (Txt B w2 g m (F ++ V) ∧ Wr B g w w2 ∧ At 26 w2 w.heap.size [.slice a1 n1 c1, .slice a2 n2 c2, .slice a3 n3 c3]) := ⟨hT2, hw2, hA2⟩
  clear hT2 hw2 hA2
  go_wp2_with fail
  go_loopw [15] (fun j wr => ∃ i : Nat, j = .int .i64 (i : Int) ∧ i ≤ n2 ∧ Hid (Txt B wr g m (F ++ V ++ mxsT ((ms.take i).map (fun s => s.data.toList))) ∧ Wr B g w wr ∧ At 26 wr w.heap.size [.slice a1 n1 c1, .slice a2 n2 c2, .slice a3 n3 c3])) (fun j _ => n2 - (intOf j).toNat)
  case atStart => exact ⟨0, rfl, by omega, by simpa [mxsT] using H0.out.1, H0.out.2⟩
  case round =>
    obtain ⟨i, rfl, hi, hX⟩ := hrel
    by_cases hc : i < n2
    · obtain ⟨s, hs⟩ : ∃ k, ms[i]? = some k := ⟨ms[i]'(by rw [← hn2.out]; exact hc), by rw [List.getElem?_eq_getElem]⟩
      obtain ⟨hTr, hWr, hAr⟩ := hX.out
      have hold : Old B w wr := Old.of_wr hWr hBg hBw
      obtain ⟨g1, o1, rfl, hg1, hcs⟩ := (HI.out.1.old hold).at i s hs
      have htk : mxsT ((ms.take (i + 1)).map (fun s => s.data.toList)) = mxsT ((ms.take i).map (fun s => s.data.toList)) ++ mxT s.data.toList := by
        unfold mxsT
        rw [List.map_map, List.map_map, flat_take _ ms i s hs]
        rfl
      have hle : (mxsT ((ms.take (i + 1)).map (fun s => s.data.toList))).length ≤ (mxsT (ms.map (fun s => s.data.toList))).length := by
        unfold mxsT
        rw [List.map_map, List.map_map]
        exact flat_le _ ms (i + 1)
      obtain ⟨G, hG⟩ : ∃ G, Hid (G = F ++ V ++ mxsT ((ms.take i).map (fun s => s.data.toList))) := ⟨_, (rfl : _ = F ++ V ++ mxsT ((ms.take i).map (fun s => s.data.toList)))⟩
      have hln : (G ++ mxT s.data.toList).length ≤ 70368744177664 := by
        have h1 := HL.out
        rw [htk, List.length_append] at hle
        rw [hG.out]
        simp only [List.length_append]
        omega
      have HG : Hid (F ++ V ++ mxsT ((ms.take (i + 1)).map (fun s => s.data.toList)) = G ++ mxT s.data.toList) := by
        show _ = _
        rw [htk, hG.out, List.append_assoc, List.append_assoc, List.append_assoc]
      have HK : Hid (Txt B wr g m G ∧ Wr B g w wr ∧ At 26 wr w.heap.size [.slice a1 n1 c1, .slice (some ⟨g1, o1, none⟩) n2 c2, .slice a3 n3 c3]) := ⟨by rw [hG.out]; exact hTr, hWr, hAr⟩
      clear hX hTr hWr hAr hold htk hle hG H0
      go_wp2_with (first
        | ((with_reducible show wpList _ _ _ _ _ _); refine wpList_strs rfl 3 #[(0, .const (.string ⟨#[109, 117, 116, 101, 120, 32]⟩)), (1, .tmp 20), (2, .const (.string ⟨#[59, 10]⟩))] rfl [⟨#[109, 117, 116, 101, 120, 32]⟩, s, ⟨#[59, 10]⟩] rfl (by decide) (by decide) (by kernel_rfl) ?_; intro w4 hA4 hb4 hs4; clear hs4))
      refine (put_one B g m _ [⟨#[109, 117, 116, 101, 120, 32]⟩, s, ⟨#[59, 10]⟩] (mxT s.data.toList) G (by simp [cat, mxT]) _ hm (HK.out.1.below hb4) hA4 hln (by simp)).mono ?_
      rintro r w5 ⟨rfl, hT5, hW5⟩
      have HF : Hid (Txt B w5 g m (F ++ V ++ mxsT ((ms.take (i + 1)).map (fun s => s.data.toList))) ∧ Wr B g w w5 ∧ At 26 w5 w.heap.size [.slice a1 n1 c1, .slice (some ⟨g1, o1, none⟩) n2 c2, .slice a3 n3 c3]) := by
        refine ⟨by rw [HG.out]; exact hT5, HK.out.2.1.trans ((Wr.of_below hb4).trans hW5), hW5.at (HK.out.2.2.below hb4) (by omega) (by decide)⟩
      clear hT5 hW5 hA4 hb4 HK HG hln hcs
      go_wp2
      go_roundw
      case rel => exact ⟨i + 1, by go_num, by omega, HF⟩
      case measure => simp [intOf]; omega
    · have hin : i = n2 := by omega
      obtain ⟨hTr, hWr, hAr⟩ := hX.out
      obtain ⟨M, hMM⟩ : ∃ M, Hid (M = F ++ V ++ mxsT (ms.map (fun s => s.data.toList))) := ⟨_, (rfl : _ = F ++ V ++ mxsT (ms.map (fun s => s.data.toList)))⟩
      rw [hin, hn2.out, List.take_length, ← hMM.out] at hTr
      have hML : M.length = F.length + V.length + (mxsT (ms.map (fun s => s.data.toList))).length := by rw [hMM.out]; simp only [List.length_append]
      have H1 : Hid (Txt B wr g m M ∧ Wr B g w wr) := ⟨hTr, hWr⟩
      obtain ⟨-, -, q2⟩ := pg_cells hAr
      clear hX hTr hWr hAr H0 hin
      go_wp2_with fail
      go_loopw [27] (fun j wr => ∃ i : Nat, j = .int .i64 (i : Int) ∧ i ≤ n3 ∧ Hid (Txt B wr g m (M ++ thsT ((ts.take i).map TT.th)) ∧ Wr B g w wr)) (fun j _ => n3 - (intOf j).toNat)
      case atStart => exact ⟨0, rfl, by omega, by simpa [thsT] using H1.out.1, H1.out.2⟩
      case round =>
        clear H1 q2
        obtain ⟨i, rfl, hi, hX⟩ := hrel
        by_cases hc : i < n3
        · obtain ⟨t, ht⟩ : ∃ k, ts[i]? = some k := ⟨ts[i]'(by rw [← hn3.out]; exact hc), by rw [List.getElem?_eq_getElem]⟩
          obtain ⟨hTr, hWr⟩ := hX.out
          have hold : Old B w wr := Old.of_wr hWr hBg hBw
          have hBr : B ≤ wr.heap.size := by have := hWr.size; omega
          have hgr := hTr.lt
          obtain ⟨g1, o1, rfl, hg1, hr1, hin1⟩ := (HI.out.2.1.old hold).at i t ht
          have hTb := HI.out.2.2.wr hWr hBg hBw h16
          have htk : thsT ((ts.take (i + 1)).map TT.th) = thsT ((ts.take i).map TT.th) ++ thT t.th := by
            unfold thsT
            rw [List.map_map, List.map_map, flat_take _ ts i t ht]
            rfl
          have hle : (thsT ((ts.take (i + 1)).map TT.th)).length ≤ (thsT (ts.map TT.th)).length := by
            unfold thsT
            rw [List.map_map, List.map_map]
            exact flat_le _ ts (i + 1)
          have hLt := HS.out t (List.mem_of_getElem? ht)
          have hBt := HB.out t (List.mem_of_getElem? ht)
          have hone := t.one
          obtain ⟨nm, b1, d1, locals, b2, d2, body⟩ := t
          obtain ⟨L, hL⟩ : ∃ L, Hid (L = vrsT [32, 32, 108, 111, 99, 97, 108, 32] (locals.map VT.vr)) := ⟨_, (rfl : _ = vrsT [32, 32, 108, 111, 99, 97, 108, 32] (locals.map VT.vr))⟩
          obtain ⟨K, hK⟩ : ∃ K, Hid (K = blT [32, 32] (body.map ST.st)) := ⟨_, (rfl : _ = blT [32, 32] (body.map ST.st))⟩
          obtain ⟨q, hq⟩ : ∃ q, Hid (q = locals.length) := ⟨_, (rfl : locals.length = _)⟩
          obtain ⟨k, hk⟩ : ∃ k, Hid (k = body.length) := ⟨_, (rfl : body.length = _)⟩
          simp only [TT.cells] at hr1 hone
          simp only [← hL.out, ← hK.out, ← hq.out, ← hk.out] at hLt hBt hr1 hone
          obtain ⟨P, hP⟩ : ∃ P, Hid (P = [116, 104, 114, 101, 97, 100, 32] ++ (nm.data.toList ++ [32, 123, 10])) := ⟨_, (rfl : _ = [116, 104, 114, 101, 97, 100, 32] ++ (nm.data.toList ++ [32, 123, 10]))⟩
          obtain ⟨G, hG⟩ : ∃ G, Hid (G = M ++ thsT ((ts.take i).map TT.th)) := ⟨_, (rfl : _ = M ++ thsT _)⟩
          have HG : Hid (M ++ thsT ((ts.take (i + 1)).map TT.th) = G ++ P ++ L ++ K ++ [125, 10]) := by
            show _ = _
            rw [htk, hG.out]
            simp only [thT, TT.th, hL.out, hK.out, hP.out, List.append_assoc]
          have hln : (G ++ P ++ L ++ K ++ [125, 10]).length ≤ 70368744177664 := by
            have h1 := HL.out
            rw [← HG.out, List.length_append, hML]
            omega
          have hl1 : (G ++ P).length ≤ 70368744177664 := by simp only [List.length_append] at hln ⊢; omega
          have hl4 : (G ++ P ++ L).length ≤ 70368744177664 := by simp only [List.length_append] at hln ⊢; omega
          have hl5 : (G ++ P ++ L ++ K).length ≤ 70368744177664 := by simp only [List.length_append] at hln ⊢; omega
          rw [← hG.out] at hTr
          have HK : Hid (Txt B wr g m G ∧ Wr B g w wr ∧ Tab wr ∧ TT.In B wr ⟨nm, b1, d1, locals, b2, d2, body⟩) := ⟨hTr, hWr, hTb, hin1⟩
          clear hX hold htk hle hTr hWr hTb hin1 hL hK hq hk hG
          go_wp2_with (first
            | ((with_reducible show wpList _ _ _ _ _ _); refine wpList_load_mid (P := Tryz.prog) rfl 59 (.tmp 29) rfl g1 (o1 + i * 3) (by first | rfl | (simp; done)) [.string nm, .slice b1 q d1, .slice b2 k d2] _ hr1 Tryz.underlying59 rfl i42 ?_)
            | ((with_reducible show wpList _ _ _ _ _ _); refine wpList_alloc_at rfl 59 rfl _ 3 z42 ?_; intro w2 hA2 hb2 hs2)
            | ((with_reducible show wpList _ _ _ _ _ _); refine wpList_store_at (P := Tryz.prog) rfl 59 (.tmp 7) (.tmp 30) rfl wr.heap.size [.string nm, .slice b1 q d1, .slice b2 k d2] rfl rfl 59 _ hA2 i42 rfl hone ?_; intro w3 hA3 hb3 hs3; refine Hid.out ?_))
          refine hidU ?_
          have hB3 : Below wr.heap.size wr w3 := hb3.below hb2 (Nat.le_refl _) (by omega)
          obtain ⟨u0, -, -⟩ := th_cells hA3
          clear hb3 hb2 hA2 hr1 hs2 hs3 hone
          go_wp2_with (first
            | ((with_reducible show wpList _ _ _ _ _ _); refine wpList_strs rfl 3 #[(0, .const (.string ⟨#[116, 104, 114, 101, 97, 100, 32]⟩)), (1, .tmp 33), (2, .const (.string ⟨#[32, 123, 10]⟩))] rfl [⟨#[116, 104, 114, 101, 97, 100, 32]⟩, nm, ⟨#[32, 123, 10]⟩] rfl (by decide) (by decide) (by kernel_rfl) ?_; intro w4 hA4 hb4 hs4; clear hs4))
          refine (put_one B g m _ [⟨#[116, 104, 114, 101, 97, 100, 32]⟩, nm, ⟨#[32, 123, 10]⟩] P G (by rw [hP.out]; simp [cat]) _ hm ((HK.out.1.below hB3).below hb4) hA4 hl1 (by simp)).mono ?_
          rintro r w5 ⟨rfl, hT5, hW5⟩
          have hwr5 : Wr B g wr w5 := (Wr.of_below hB3).trans ((Wr.of_below hb4).trans hW5)
          have hA5 := hW5.at (hA3.below hb4) (by omega) (by decide)
          obtain ⟨-, u1, -⟩ := th_cells hA5
          have hL5 := hLt w5 (G ++ P) hT5 (HK.out.2.2.2.old (Old.of_wr hwr5 hBg hBr)) (by have := hwr5.size; omega) (HK.out.2.2.1.wr hwr5 hBg hBr h16) hl4
          clear hLt hT5 hW5 hA4 hb4 hA3 hB3 u0
          go_wp2_with fail
          refine hL5.mono ?_
          rintro r w6 ⟨rfl, hT6, hW6⟩
          have hwr6 : Wr B g wr w6 := hwr5.trans hW6
          have hA6 := hW6.at hA5 (by omega) (by decide)
          obtain ⟨-, -, u2⟩ := th_cells hA6
          have hB6 := hBt w6 (G ++ P ++ L) hT6 (HK.out.2.2.2.old (Old.of_wr hwr6 hBg hBr)) (by have := hwr6.size; omega) (HK.out.2.2.1.wr hwr6 hBg hBr h16) hl5
          clear hL5 hT6 hW6 hA5 u1 hBt hwr5
          go_wp2_with fail
          refine hB6.mono ?_
          rintro r w7 ⟨rfl, hT7, hW7⟩
          have hwr7 : Wr B g wr w7 := hwr6.trans hW7
          clear hB6 hW7 hA6 u2 hwr6
          go_wp2_with (first
            | ((with_reducible show wpList _ _ _ _ _ _); refine wpList_strs rfl 1 #[(0, .const (.string ⟨#[125, 10]⟩))] rfl [⟨#[125, 10]⟩] rfl (by decide) (by decide) (by kernel_rfl) ?_; intro w8 hA8 hb8 hs8; clear hs8))
          refine (put_one B g m _ [⟨#[125, 10]⟩] [125, 10] (G ++ P ++ L ++ K) (by simp [cat]) _ hm (hT7.below hb8) hA8 hln (by simp)).mono ?_
          rintro r w9 ⟨rfl, hT9, hW9⟩
          have HF : Hid (Txt B w9 g m (M ++ thsT ((ts.take (i + 1)).map TT.th)) ∧ Wr B g w w9) := by
            refine ⟨by rw [HG.out]; exact hT9, HK.out.2.1.trans (hwr7.trans ((Wr.of_below hb8).trans hW9))⟩
          clear hT9 hW9 hA8 hb8 hwr7 HK HG hln hT7
          go_wp2
          go_roundw
          case rel => exact ⟨i + 1, by go_num, by omega, HF⟩
          case measure => simp [intOf]; omega
        · have hin : i = n3 := by omega
          obtain ⟨hTr, hWr⟩ := hX.out
          rw [hin, hn3.out, List.take_length, hMM.out] at hTr
          have HY : Hid (Txt B wr g m (F ++ (V ++ (mxsT (ms.map (fun s => s.data.toList)) ++ thsT (ts.map TT.th)))) ∧ Wr B g w wr) := by
            refine ⟨?_, hWr⟩
            simpa only [List.append_assoc] using hTr
          clear hX hTr hWr hin
          go_wp2
          go_end0
          exact ⟨rfl, HY.out⟩

theorem program_any (B g m : Nat) (hm : m ≤ 9223372036854775807) (h16 : gB ≤ B) (p : PT) (hmay : mayP p.pg = true) (w : World) (F : List UInt8)
    (hin : p.In B w) (hT : Txt B w g m F) (hBw : B ≤ w.heap.size) (hTab : Tab w) (hlen : (F ++ pgT p.pg).length ≤ 70368744177664) :
    Calls Tryz.prog 31 #[.pointer (some ⟨g, 0, none⟩), .agg p.cells.toArray] w fun r w' => r = .returned (.tuple #[]) ∧ Txt B w' g m (F ++ pgT p.pg) ∧ Wr B g w w' := by
  have hth := mayP_threads p hmay
  obtain ⟨h1, h2, h3⟩ := hin
  have hpl : F.length + ((vrsT [115, 104, 97, 114, 101, 100, 32] (p.shared.map VT.vr)).length + ((mxsT (p.mutexes.map (fun s => s.data.toList))).length + (thsT (p.threads.map TT.th)).length)) ≤ 70368744177664 := by
    have := hlen
    unfold pgT PT.pg at this
    simpa only [List.length_append] using this
  exact program_of B g m hm h16 p.a1 p.shared.length p.c1 (vrsT [115, 104, 97, 114, 101, 100, 32] (p.shared.map VT.vr)) p.a2 p.c2 p.mutexes p.a3 p.c3 p.threads w F h2 h3 hT hBw hTab hpl
    (fun w1 hb => vars_any B g m hm h16 p.shared ⟨#[115, 104, 97, 114, 101, 100, 32]⟩ p.a1 p.c1 w1 F (h1.old (Old.of_below hb hBw)) (hT.below hb) (by have := hb.size; omega) (hTab.below hb (by omega)) (by show (F ++ vrsT [115, 104, 97, 114, 101, 100, 32] (p.shared.map VT.vr)).length ≤ _; rw [List.length_append]; omega))
    (fun t ht w1 G h h' h'' h3 h4 => vars_any B g m hm h16 t.locals ⟨#[32, 32, 108, 111, 99, 97, 108, 32]⟩ t.a1 t.c1 w1 G h'.1 h h'' h3 h4)
    (fun t ht w1 G h h' h'' h3 h4 => block_any B g m hm h16 t.a2 t.c2 t.body ⟨#[32, 32]⟩ 0 w1 G (by decide) (hth t ht) h'.2 h h'' h3 h4)

end Go.Proofs.YtcmahiphfpgadaaGreatDoor

/- tree.Same. -/
namespace Go.Proofs.YtcmahiphfpgadaaGreatDoor
open Go.RowKit
set_option linter.unusedVariables false

set_option maxRecDepth 100000 in
set_option maxHeartbeats 1600000 in
theorem sameThread_at (nm nm' : ByteArray) (s1 s2 s1' s2' : Value) (p2 p3 : Bool) (w : World) (h2 : AskB w 50 #[s1, s1'] p2) (h3 : AskB w 89 #[s2, s2', .func (.func 90) #[] #[]] p3) :
    Calls Tryz.prog 53 #[.agg [.string nm, s1, s2].toArray, .agg [.string nm', s1', s2'].toArray] w fun r w' => r = .returned (.bool (decide (nm.data.toList = nm'.data.toList) && (p2 && p3))) ∧ Below w.heap.size w w' := by
  obtain ⟨R, hR⟩ : ∃ R, Hid (R = (decide (nm.data.toList = nm'.data.toList) && (p2 && p3))) := ⟨_, (rfl : _ = (decide (nm.data.toList = nm'.data.toList) && (p2 && p3)))⟩
  rw [← hR.out]
  have H2 : Hid (AskB w 50 #[s1, s1'] p2) := h2
  have H3 : Hid (AskB w 89 #[s2, s2', .func (.func 90) #[] #[]] p3) := h3
  clear h2 h3
  go_enter Tryz.func53, Tryz.ntmps53
  go_wp2_with (first
    | ((with_reducible show wpList _ _ _ _ _ _); refine wpList_box_at rfl 59 (.tmp 0) rfl [.string nm, s1, s2] rfl ?_; intro w1 hA1 hb1 hs1; clear hs1)
    | ((with_reducible show wpList _ _ _ _ _ _); refine wpList_box_at rfl 59 (.tmp 1) rfl [.string nm', s1', s2'] rfl ?_; intro w2 hA2 hb2 hs2; clear hs2; refine Hid.out ?_))
  refine hidU ?_
  have hA12 := hA1.below hb2
  have hbw : Below w.heap.size w w2 := hb1.trans (hb2.mono hb1.size)
  clear hA1 hb1 hb2
  obtain ⟨q0, q1, q2⟩ := th_cells hA12
  obtain ⟨u0, u1, u2⟩ := th_cells hA2
  go_wp2_with fail
  · have hs : nm.toList = nm'.toList := by assumption
    rw [toList_bytes, toList_bytes] at hs
    have hs' : decide (nm.data.toList = nm'.data.toList) = true := decide_eq_true hs
    rw [hs', Bool.true_and] at hR
    clear hs hs'
    refine (H2.out _ hbw).mono ?_
    rintro r w3 ⟨rfl, hb3⟩
    have hA3 := hA12.below hb3
    have hA3' := hA2.below hb3
    have hw3 := hbw.trans (hb3.mono hbw.size)
    clear hA12 hA2 hbw hb3 q0 q1 q2 u0 u1 u2
    obtain ⟨q0, q1, q2⟩ := th_cells hA3
    obtain ⟨u0, u1, u2⟩ := th_cells hA3'
    cases p2 with
    | false =>
      go_wp2_with fail
      go_ret
      exact ⟨by rw [hR.out]; rfl, hw3⟩
    | true =>
      go_wp2_with fail
      refine (H3.out _ hw3).mono ?_
      rintro r w4 ⟨rfl, hb4⟩
      have hw4 := hw3.trans (hb4.mono hw3.size)
      clear hA3 hA3' hw3 hb4 q0 q1 q2 u0 u1 u2
      go_wp2_with fail
      go_ret
      exact ⟨by rw [hR.out]; rfl, hw4⟩
  · have hs : ¬ nm.toList = nm'.toList := by assumption
    rw [toList_bytes, toList_bytes] at hs
    have hs' : decide (nm.data.toList = nm'.data.toList) = false := decide_eq_false hs
    rw [hs', Bool.false_and] at hR
    clear hs hs'
    go_ret
    exact ⟨by rw [hR.out]; rfl, hbw⟩

theorem sameThread_any (B : Nat) (x : TT) : SameTW B x := by
  obtain ⟨nm, a1, c1, ls, a2, c2, bs⟩ := x
  rintro ⟨nm', a1', c1', ls', a2', c2', bs'⟩ w hx hy hBw
  have hO : ∀ w', Below w.heap.size w w' → Old B w w' ∧ B ≤ w'.heap.size := fun w' h => ⟨Old.of_below h hBw, by have := h.size; omega⟩
  exact sameThread_at nm nm' (.slice a1 ls.length c1) (.slice a2 bs.length c2) (.slice a1' ls'.length c1') (.slice a2' bs'.length c2') _ _ w
    (fun w' h => equalV_any B ls ls' a1 a1' c1 c1' w' (hx.1.old (hO w' h).1) (hy.1.old (hO w' h).1) (hO w' h).2)
    (fun w' h => equalS_of B bs bs' (fun s _ => sameStmt_any B _ s (Nat.lt_succ_self _)) a2 a2' c2 c2' w' (hx.2.old (hO w' h).1) (hy.2.old (hO w' h).1) (hO w' h).2)

/-- Whether two programs are the same. -/
def samP (p q : Pg) : Bool := eqL samV p.shared q.shared && (eqL samN p.mutexes q.mutexes && eqL samT p.threads q.threads)

set_option maxRecDepth 100000 in
set_option maxHeartbeats 1600000 in
theorem same_at (s1 s2 s3 s1' s2' s3' : Value) (p1 p2 p3 : Bool) (w : World) (h1 : AskB w 50 #[s1, s1'] p1) (h2 : AskB w 51 #[s2, s2'] p2) (h3 : AskB w 52 #[s3, s3', .func (.func 53) #[] #[]] p3) :
    Calls Tryz.prog 19 #[.agg [s1, s2, s3].toArray, .agg [s1', s2', s3'].toArray] w fun r w' => r = .returned (.bool (p1 && (p2 && p3))) ∧ Below w.heap.size w w' := by
  obtain ⟨R, hR⟩ : ∃ R, Hid (R = (p1 && (p2 && p3))) := ⟨_, (rfl : _ = (p1 && (p2 && p3)))⟩
  rw [← hR.out]
  have H1 : Hid (AskB w 50 #[s1, s1'] p1) := h1
  have H2 : Hid (AskB w 51 #[s2, s2'] p2) := h2
  have H3 : Hid (AskB w 52 #[s3, s3', .func (.func 53) #[] #[]] p3) := h3
  clear h1 h2 h3
  go_enter Tryz.func19, Tryz.ntmps19
  go_wp2_with (first
    | ((with_reducible show wpList _ _ _ _ _ _); refine wpList_box_at rfl 26 (.tmp 0) rfl [s1, s2, s3] rfl ?_; intro w1 hA1 hb1 hs1; clear hs1)
    | ((with_reducible show wpList _ _ _ _ _ _); refine wpList_box_at rfl 26 (.tmp 1) rfl [s1', s2', s3'] rfl ?_; intro w2 hA2 hb2 hs2; clear hs2; refine Hid.out ?_))
  refine hidU ?_
  have hA12 := hA1.below hb2
  have hbw : Below w.heap.size w w2 := hb1.trans (hb2.mono hb1.size)
  clear hA1 hb1 hb2
  obtain ⟨q0, q1, q2⟩ := pg_cells hA12
  obtain ⟨u0, u1, u2⟩ := pg_cells hA2
  go_wp2_with fail
  refine (H1.out _ hbw).mono ?_
  rintro r w3 ⟨rfl, hb3⟩
  have hA3 := hA12.below hb3
  have hA3' := hA2.below hb3
  have hw3 := hbw.trans (hb3.mono hbw.size)
  clear hA12 hA2 hbw hb3 q0 q1 q2 u0 u1 u2
  obtain ⟨q0, q1, q2⟩ := pg_cells hA3
  obtain ⟨u0, u1, u2⟩ := pg_cells hA3'
  cases p1 with
  | false =>
    go_wp2_with fail
    go_ret
    exact ⟨by rw [hR.out]; rfl, hw3⟩
  | true =>
    go_wp2_with fail
    refine (H2.out _ hw3).mono ?_
    rintro r w4 ⟨rfl, hb4⟩
    have hA4 := hA3.below hb4
    have hA4' := hA3'.below hb4
    have hw4 := hw3.trans (hb4.mono hw3.size)
    clear hA3 hA3' hw3 hb4 q0 q1 q2 u0 u1 u2
    obtain ⟨q0, q1, q2⟩ := pg_cells hA4
    obtain ⟨u0, u1, u2⟩ := pg_cells hA4'
    cases p2 with
    | false =>
      go_wp2_with fail
      go_ret
      exact ⟨by rw [hR.out]; rfl, hw4⟩
    | true =>
      go_wp2_with fail
      refine (H3.out _ hw4).mono ?_
      rintro r w5 ⟨rfl, hb5⟩
      have hw5 := hw4.trans (hb5.mono hw4.size)
      clear hA4 hA4' hw4 hb5 q0 q1 q2 u0 u1 u2
      go_wp2_with fail
      go_ret
      exact ⟨by rw [hR.out]; rfl, hw5⟩

theorem same_any (B : Nat) (x y : PT) (w : World) (hx : x.In B w) (hy : y.In B w) (hBw : B ≤ w.heap.size) :
    Calls Tryz.prog 19 #[.agg x.cells.toArray, .agg y.cells.toArray] w fun r w' => r = .returned (.bool (samP x.pg y.pg)) ∧ Below w.heap.size w w' := by
  have hO : ∀ w', Below w.heap.size w w' → Old B w w' ∧ B ≤ w'.heap.size := fun w' h => ⟨Old.of_below h hBw, by have := h.size; omega⟩
  exact same_at (.slice x.a1 x.shared.length x.c1) (.slice x.a2 x.mutexes.length x.c2) (.slice x.a3 x.threads.length x.c3) (.slice y.a1 y.shared.length y.c1) (.slice y.a2 y.mutexes.length y.c2) (.slice y.a3 y.threads.length y.c3) _ _ _ w
    (fun w' h => equalV_any B x.shared y.shared x.a1 y.a1 x.c1 y.c1 w' (hx.1.old (hO w' h).1) (hy.1.old (hO w' h).1) (hO w' h).2)
    (fun w' h => equalN_any B x.mutexes y.mutexes x.a2 y.a2 x.c2 y.c2 w' (hx.2.1.old (hO w' h).1) (hy.2.1.old (hO w' h).1) (hO w' h).2)
    (fun w' h => equalT_of B x.threads y.threads (fun t _ => sameThread_any B t) x.a3 y.a3 x.c3 y.c3 w' (hx.2.2.old (hO w' h).1) (hy.2.2.old (hO w' h).1) (hO w' h).2)

end Go.Proofs.YtcmahiphfpgadaaGreatDoor
