/- Joined texts of the proof. -/
import Derived.Test.YtcmahiphfpgadaaGreatDoorJ7
import Derived.Test.YtcmahiphfpgadaaGreatDoorJ6
import Derived.Deep.RegionWith

/- A statement's text is written. -/
namespace Go.Proofs.YtcmahiphfpgadaaGreatDoor
open Go.RowKit
set_option linter.unusedVariables false

theorem around_any (B g m : Nat) (hm : m ≤ 9223372036854775807) (h16 : gB ≤ B) (e : ET) (he : mayE 32 e.ex = true) (s1 s2 : ByteArray) (X L1 L2 : List UInt8) (hX : X = exT e.ex) (h1 : L1 = s1.data.toList) (h2 : L2 = s2.data.toList) (w : World) (F : List UInt8) (hin : e.In B w) (hT : Txt B w g m F) (hBw : B ≤ w.heap.size) (hTab : Tab w)
  (hlen : (F ++ (L1 ++ (X ++ L2))).length ≤ 70368744177664) :
  Calls Tryz.prog 80 #[.pointer (some ⟨g, 0, none⟩), .string s1, .agg e.cells.toArray, .string s2] w fun r w' => r = .returned (.tuple #[]) ∧ Txt B w' g m (F ++ (L1 ++ (X ++ L2))) ∧ Wr B g w w' := by
 subst hX h1 h2
 exact around_of B g m e hm h16 (expr_any B g m hm h16 32 e he) s1 s2 w F hin hT hBw hTab hlen

theorem put_one (B g m k : Nat) (ps : List ByteArray) (C F : List UInt8) (hC : C = cat ps) (w : World) (hm : m ≤ 9223372036854775807) (h : Txt B w g m F) (hA : At 9 w k (ps.map .string)) (hlen : (F ++ C).length ≤ 70368744177664) (hps : ps.length ≤ 1000) :
  Calls Tryz.prog 72 #[.pointer (some ⟨g, 0, none⟩), .slice (some ⟨k, 0, none⟩) ps.length ps.length] w fun e w' => e = .returned (.tuple #[]) ∧ Txt B w' g m (F ++ C) ∧ Wr B g w w' := by
 subst hC
 exact put_any B g m k ps F w hm h hA hlen hps

theorem cat3 (a b : ByteArray) : (a ++ b).data.toList = a.data.toList ++ b.data.toList := by simp [ByteArray.data_append]

/-- What writing a block does. -/
def BlockW (B g m : Nat) (a : Option Addr) (c : Nat) (ss : List ST) : Prop := ∀ (bl : ByteArray) (d : Nat) (w : World) (F : List UInt8), bl.size + 2 * (33 - d) ≤ 1000 → mayB d (ss.map ST.st) = true → RowS B w a c ss → Txt B w g m F → B ≤ w.heap.size → Tab w → (F ++ blT bl.data.toList (ss.map ST.st)).length ≤ 70368744177664 →
  Calls Tryz.prog 73 #[.pointer (some ⟨g, 0, none⟩), .slice a ss.length c, .string bl] w fun r w' => r = .returned (.tuple #[]) ∧ Txt B w' g m (F ++ blT bl.data.toList (ss.map ST.st)) ∧ Wr B g w w'

set_option maxRecDepth 100000 in
set_option maxHeartbeats 3200000 in
theorem stmtT_2 (B g m : Nat) (hm : m ≤ 9223372036854775807) (h16 : gB ≤ B) (nm : ByteArray) (op t b : Nat) (enm : ByteArray) (ea : Option Addr) (ec : Nat) (eks : List ET) (a1 : Option Addr) (c1 : Nat) (body : List ST) (a2 : Option Addr) (c2 : Nat) (els : List ST) : StmtW B g m (.mk 2 nm (.mk op t b enm ea ec eks) a1 c1 body a2 c2 els) := by
 intro bl d w F hbl hd hmay hin hT hBw hTab hlen
 have hBg := hT.base
 have hgw := hT.lt
 obtain ⟨X, hX⟩ : ∃ X, Hid (X = exT (ET.mk op t b enm ea ec eks).ex) := ⟨_, (rfl : exT _ = _)⟩
 unfold ST.In at hin
 obtain ⟨hk, he, hb1, hb2⟩ := hin
 have htx : stT bl.data.toList (ST.mk 2 nm (ET.mk op t b enm ea ec eks) a1 c1 body a2 c2 els).st = [108, 111, 99, 107, 32] ++ (nm.data.toList ++ [59]) := by
  try rw [hX.out]
  show stT bl.data.toList (.mk 2 nm.data.toList (ET.mk op t b enm ea ec eks).ex (ST.sts body) (ST.sts els)) = _
  rw [stT]
  simp
 rw [htx] at hlen ⊢
 clear htx
 obtain ⟨n1, hn1⟩ : ∃ n, Hid (n = body.length) := ⟨_, (rfl : body.length = _)⟩
 obtain ⟨n2, hn2⟩ : ∃ n, Hid (n = els.length) := ⟨_, (rfl : els.length = _)⟩
 obtain ⟨n3, hn3⟩ : ∃ n, Hid (n = eks.length) := ⟨_, (rfl : eks.length = _)⟩
 have HI : Hid (Txt B w g m F) := hT
 clear hmay he hb1 hb2 hT hTab hX
 show Calls Tryz.prog 100 #[.pointer (some ⟨g, 0, none⟩), .agg (st9 2 nm (ex5 op t b enm (.slice ea eks.length ec)) (.slice a1 body.length c1) (.slice a2 els.length c2)).toArray, .string bl] w _
 rw [← hn1.out, ← hn2.out, ← hn3.out]
 go_enter Tryz.func100, Tryz.ntmps100
 go_wp2_with (first
  | ((with_reducible show wpList _ _ _ _ _ _); refine wpList_box_at rfl 87 (.tmp 1) rfl (st9 2 nm (ex5 op t b enm (.slice ea n3 ec)) (.slice a1 n1 c1) (.slice a2 n2 c2)) rfl ?_; intro w1 hA1 hw1 hs1; clear hs1; refine Hid.out ?_))
 refine hidU ?_
 obtain ⟨q0, q1, q2, q3, q4, q5, q6, q7, q8⟩ := st_cells hA1
 go_wp2_with (first
  | ((with_reducible show wpList _ _ _ _ _ _); refine wpList_strs rfl 3 #[(0, .const (.string ⟨#[108, 111, 99, 107, 32]⟩)), (1, .tmp 21), (2, .const (.string ⟨#[59]⟩))] rfl [⟨#[108, 111, 99, 107, 32]⟩, nm, ⟨#[59]⟩] rfl (by decide) (by decide) (by kernel_rfl) ?_; intro w2 hA2 hb2 hs2; clear hs2))
 refine (put_one B g m _ [⟨#[108, 111, 99, 107, 32]⟩, nm, ⟨#[59]⟩] ([108, 111, 99, 107, 32] ++ (nm.data.toList ++ [59])) F (by simp [cat]) _ hm ((HI.out.below hw1).below hb2) hA2 hlen (by simp)).mono ?_
 rintro r w3 ⟨rfl, hT2, hW2⟩
 have HF : Hid (Txt B w3 g m (F ++ ([108, 111, 99, 107, 32] ++ (nm.data.toList ++ [59]))) ∧ Wr B g w w3) := ⟨hT2, (Wr.of_below (hw1.trans (hb2.mono hw1.size))).trans hW2⟩
 clear hW2 hT2
 go_wp2
 go_end0
 exact ⟨rfl, HF.out⟩

set_option maxRecDepth 100000 in
set_option maxHeartbeats 3200000 in
theorem stmtT_3 (B g m : Nat) (hm : m ≤ 9223372036854775807) (h16 : gB ≤ B) (nm : ByteArray) (op t b : Nat) (enm : ByteArray) (ea : Option Addr) (ec : Nat) (eks : List ET) (a1 : Option Addr) (c1 : Nat) (body : List ST) (a2 : Option Addr) (c2 : Nat) (els : List ST) : StmtW B g m (.mk 3 nm (.mk op t b enm ea ec eks) a1 c1 body a2 c2 els) := by
 intro bl d w F hbl hd hmay hin hT hBw hTab hlen
 have hBg := hT.base
 have hgw := hT.lt
 obtain ⟨X, hX⟩ : ∃ X, Hid (X = exT (ET.mk op t b enm ea ec eks).ex) := ⟨_, (rfl : exT _ = _)⟩
 unfold ST.In at hin
 obtain ⟨hk, he, hb1, hb2⟩ := hin
 have htx : stT bl.data.toList (ST.mk 3 nm (ET.mk op t b enm ea ec eks) a1 c1 body a2 c2 els).st = [117, 110, 108, 111, 99, 107, 32] ++ (nm.data.toList ++ [59]) := by
  try rw [hX.out]
  show stT bl.data.toList (.mk 3 nm.data.toList (ET.mk op t b enm ea ec eks).ex (ST.sts body) (ST.sts els)) = _
  rw [stT]
  simp
 rw [htx] at hlen ⊢
 clear htx
 obtain ⟨n1, hn1⟩ : ∃ n, Hid (n = body.length) := ⟨_, (rfl : body.length = _)⟩
 obtain ⟨n2, hn2⟩ : ∃ n, Hid (n = els.length) := ⟨_, (rfl : els.length = _)⟩
 obtain ⟨n3, hn3⟩ : ∃ n, Hid (n = eks.length) := ⟨_, (rfl : eks.length = _)⟩
 have HI : Hid (Txt B w g m F) := hT
 clear hmay he hb1 hb2 hT hTab hX
 show Calls Tryz.prog 100 #[.pointer (some ⟨g, 0, none⟩), .agg (st9 3 nm (ex5 op t b enm (.slice ea eks.length ec)) (.slice a1 body.length c1) (.slice a2 els.length c2)).toArray, .string bl] w _
 rw [← hn1.out, ← hn2.out, ← hn3.out]
 go_enter Tryz.func100, Tryz.ntmps100
 go_wp2_with (first
  | ((with_reducible show wpList _ _ _ _ _ _); refine wpList_box_at rfl 87 (.tmp 1) rfl (st9 3 nm (ex5 op t b enm (.slice ea n3 ec)) (.slice a1 n1 c1) (.slice a2 n2 c2)) rfl ?_; intro w1 hA1 hw1 hs1; clear hs1; refine Hid.out ?_))
 refine hidU ?_
 obtain ⟨q0, q1, q2, q3, q4, q5, q6, q7, q8⟩ := st_cells hA1
 go_wp2_with (first
  | ((with_reducible show wpList _ _ _ _ _ _); refine wpList_strs rfl 3 #[(0, .const (.string ⟨#[117, 110, 108, 111, 99, 107, 32]⟩)), (1, .tmp 28), (2, .const (.string ⟨#[59]⟩))] rfl [⟨#[117, 110, 108, 111, 99, 107, 32]⟩, nm, ⟨#[59]⟩] rfl (by decide) (by decide) (by kernel_rfl) ?_; intro w2 hA2 hb2 hs2; clear hs2))
 refine (put_one B g m _ [⟨#[117, 110, 108, 111, 99, 107, 32]⟩, nm, ⟨#[59]⟩] ([117, 110, 108, 111, 99, 107, 32] ++ (nm.data.toList ++ [59])) F (by simp [cat]) _ hm ((HI.out.below hw1).below hb2) hA2 hlen (by simp)).mono ?_
 rintro r w3 ⟨rfl, hT2, hW2⟩
 have HF : Hid (Txt B w3 g m (F ++ ([117, 110, 108, 111, 99, 107, 32] ++ (nm.data.toList ++ [59]))) ∧ Wr B g w w3) := ⟨hT2, (Wr.of_below (hw1.trans (hb2.mono hw1.size))).trans hW2⟩
 clear hW2 hT2
 go_wp2
 go_end0
 exact ⟨rfl, HF.out⟩

set_option maxRecDepth 100000 in
set_option maxHeartbeats 3200000 in
theorem stmtT_7 (B g m : Nat) (hm : m ≤ 9223372036854775807) (h16 : gB ≤ B) (nm : ByteArray) (op t b : Nat) (enm : ByteArray) (ea : Option Addr) (ec : Nat) (eks : List ET) (a1 : Option Addr) (c1 : Nat) (body : List ST) (a2 : Option Addr) (c2 : Nat) (els : List ST) : StmtW B g m (.mk 7 nm (.mk op t b enm ea ec eks) a1 c1 body a2 c2 els) := by
 intro bl d w F hbl hd hmay hin hT hBw hTab hlen
 have hBg := hT.base
 have hgw := hT.lt
 obtain ⟨X, hX⟩ : ∃ X, Hid (X = exT (ET.mk op t b enm ea ec eks).ex) := ⟨_, (rfl : exT _ = _)⟩
 unfold ST.In at hin
 obtain ⟨hk, he, hb1, hb2⟩ := hin
 have htx : stT bl.data.toList (ST.mk 7 nm (ET.mk op t b enm ea ec eks) a1 c1 body a2 c2 els).st = [115, 107, 105, 112, 59] := by
  try rw [hX.out]
  show stT bl.data.toList (.mk 7 nm.data.toList (ET.mk op t b enm ea ec eks).ex (ST.sts body) (ST.sts els)) = _
  rw [stT]
  simp
 rw [htx] at hlen ⊢
 clear htx
 obtain ⟨n1, hn1⟩ : ∃ n, Hid (n = body.length) := ⟨_, (rfl : body.length = _)⟩
 obtain ⟨n2, hn2⟩ : ∃ n, Hid (n = els.length) := ⟨_, (rfl : els.length = _)⟩
 obtain ⟨n3, hn3⟩ : ∃ n, Hid (n = eks.length) := ⟨_, (rfl : eks.length = _)⟩
 have HI : Hid (Txt B w g m F) := hT
 clear hmay he hb1 hb2 hT hTab hX
 show Calls Tryz.prog 100 #[.pointer (some ⟨g, 0, none⟩), .agg (st9 7 nm (ex5 op t b enm (.slice ea eks.length ec)) (.slice a1 body.length c1) (.slice a2 els.length c2)).toArray, .string bl] w _
 rw [← hn1.out, ← hn2.out, ← hn3.out]
 go_enter Tryz.func100, Tryz.ntmps100
 go_wp2_with (first
  | ((with_reducible show wpList _ _ _ _ _ _); refine wpList_box_at rfl 87 (.tmp 1) rfl (st9 7 nm (ex5 op t b enm (.slice ea n3 ec)) (.slice a1 n1 c1) (.slice a2 n2 c2)) rfl ?_; intro w1 hA1 hw1 hs1; clear hs1; refine Hid.out ?_))
 refine hidU ?_
 obtain ⟨q0, q1, q2, q3, q4, q5, q6, q7, q8⟩ := st_cells hA1
 go_wp2_with (first
  | ((with_reducible show wpList _ _ _ _ _ _); refine wpList_strs rfl 1 #[(0, .const (.string ⟨#[115, 107, 105, 112, 59]⟩))] rfl [⟨#[115, 107, 105, 112, 59]⟩] rfl (by decide) (by decide) (by kernel_rfl) ?_; intro w2 hA2 hb2 hs2; clear hs2))
 refine (put_one B g m _ [⟨#[115, 107, 105, 112, 59]⟩] [115, 107, 105, 112, 59] F (by simp [cat]) _ hm ((HI.out.below hw1).below hb2) hA2 hlen (by simp)).mono ?_
 rintro r w3 ⟨rfl, hT2, hW2⟩
 have HF : Hid (Txt B w3 g m (F ++ [115, 107, 105, 112, 59]) ∧ Wr B g w w3) := ⟨hT2, (Wr.of_below (hw1.trans (hb2.mono hw1.size))).trans hW2⟩
 clear hW2 hT2
 go_wp2
 go_end0
 exact ⟨rfl, HF.out⟩

set_option maxRecDepth 100000 in
set_option maxHeartbeats 3200000 in
theorem stmtT_1 (B g m : Nat) (hm : m ≤ 9223372036854775807) (h16 : gB ≤ B) (nm : ByteArray) (op t b : Nat) (enm : ByteArray) (ea : Option Addr) (ec : Nat) (eks : List ET) (a1 : Option Addr) (c1 : Nat) (body : List ST) (a2 : Option Addr) (c2 : Nat) (els : List ST) : StmtW B g m (.mk 1 nm (.mk op t b enm ea ec eks) a1 c1 body a2 c2 els) := by
 intro bl d w F hbl hd hmay hin hT hBw hTab hlen
 have hBg := hT.base
 have hgw := hT.lt
 obtain ⟨X, hX⟩ : ∃ X, Hid (X = exT (ET.mk op t b enm ea ec eks).ex) := ⟨_, (rfl : exT _ = _)⟩
 unfold ST.In at hin
 obtain ⟨hk, he, hb1, hb2⟩ := hin
 have htx : stT bl.data.toList (ST.mk 1 nm (ET.mk op t b enm ea ec eks) a1 c1 body a2 c2 els).st = (nm.data.toList ++ [32, 61, 32]) ++ (X ++ [59]) := by
  try rw [hX.out]
  show stT bl.data.toList (.mk 1 nm.data.toList (ET.mk op t b enm ea ec eks).ex (ST.sts body) (ST.sts els)) = _
  rw [stT]
  simp
 rw [htx] at hlen ⊢
 clear htx
 obtain ⟨n1, hn1⟩ : ∃ n, Hid (n = body.length) := ⟨_, (rfl : body.length = _)⟩
 obtain ⟨n2, hn2⟩ : ∃ n, Hid (n = els.length) := ⟨_, (rfl : els.length = _)⟩
 obtain ⟨n3, hn3⟩ : ∃ n, Hid (n = eks.length) := ⟨_, (rfl : eks.length = _)⟩
 have hme : mayE 32 (ET.mk op t b enm ea ec eks).ex = true := by
  have h := (show mayS d (.mk 1 nm.data.toList (ET.mk op t b enm ea ec eks).ex (ST.sts body) (ST.sts els)) = true from hmay)
  rw [mayS] at h
  simp at h
  exact h.2.1
 have hA : ∀ w, (ET.mk op t b enm ea ec eks).In B w → Txt B w g m F → B ≤ w.heap.size → Tab w → Calls Tryz.prog 80 #[.pointer (some ⟨g, 0, none⟩), .string (nm ++ ⟨#[32, 61, 32]⟩), .agg (ex5 op t b enm (.slice ea n3 ec)).toArray, .string ⟨#[59]⟩] w fun r w' => r = .returned (.tuple #[]) ∧ Txt B w' g m (F ++ ((nm.data.toList ++ [32, 61, 32]) ++ (X ++ [59]))) ∧ Wr B g w w' := fun w h1 h2 h3 h4 => by
  rw [hn3.out]
  exact around_any B g m hm h16 _ hme (nm ++ ⟨#[32, 61, 32]⟩) ⟨#[59]⟩ X _ _ hX.out (cat3 nm _).symm rfl w F h1 h2 h3 h4 (by first | exact hlen | (simp only [List.length_append] at hlen ⊢; omega))
 have HI : Hid (Txt B w g m F ∧ (ET.mk op t b enm ea ec eks).In B w ∧ Tab w) := ⟨hT, he, hTab⟩
 have hnl : ¬ (9223372036854775807 < nm.size + 3) := by
  have : nm.data.toList.length = nm.size := Array.length_toList
  simp only [List.length_append] at hlen
  omega
 clear hmay he hb1 hb2 hT hTab hX hme hlen
 show Calls Tryz.prog 100 #[.pointer (some ⟨g, 0, none⟩), .agg (st9 1 nm (ex5 op t b enm (.slice ea eks.length ec)) (.slice a1 body.length c1) (.slice a2 els.length c2)).toArray, .string bl] w _
 rw [← hn1.out, ← hn2.out, ← hn3.out]
 go_enter Tryz.func100, Tryz.ntmps100
 go_wp2_with (first
  | ((with_reducible show wpList _ _ _ _ _ _); refine wpList_box_at rfl 87 (.tmp 1) rfl (st9 1 nm (ex5 op t b enm (.slice ea n3 ec)) (.slice a1 n1 c1) (.slice a2 n2 c2)) rfl ?_; intro w1 hA1 hw1 hs1; clear hs1; refine Hid.out ?_))
 refine hidU ?_
 obtain ⟨q0, q1, q2, q3, q4, q5, q6, q7, q8⟩ := st_cells hA1
 have hA' := hA w1 (HI.out.2.1.old (Old.of_below hw1 hBw)) (HI.out.1.below hw1) (by have := hw1.size; omega) (HI.out.2.2.below hw1 (by omega))
 clear hA
 go_wp2_with fail
 refine hA'.mono ?_
 rintro r w3 ⟨rfl, hT2, hW2⟩
 have HF : Hid (Txt B w3 g m (F ++ ((nm.data.toList ++ [32, 61, 32]) ++ (X ++ [59]))) ∧ Wr B g w w3) := ⟨hT2, (Wr.of_below hw1).trans hW2⟩
 clear hA'
 clear hW2 hT2
 go_wp2
 go_end0
 exact ⟨rfl, HF.out⟩

set_option maxRecDepth 100000 in
set_option maxHeartbeats 3200000 in
theorem stmtT_4 (B g m : Nat) (hm : m ≤ 9223372036854775807) (h16 : gB ≤ B) (nm : ByteArray) (op t b : Nat) (enm : ByteArray) (ea : Option Addr) (ec : Nat) (eks : List ET) (a1 : Option Addr) (c1 : Nat) (body : List ST) (a2 : Option Addr) (c2 : Nat) (els : List ST) : StmtW B g m (.mk 4 nm (.mk op t b enm ea ec eks) a1 c1 body a2 c2 els) := by
 intro bl d w F hbl hd hmay hin hT hBw hTab hlen
 have hBg := hT.base
 have hgw := hT.lt
 obtain ⟨X, hX⟩ : ∃ X, Hid (X = exT (ET.mk op t b enm ea ec eks).ex) := ⟨_, (rfl : exT _ = _)⟩
 unfold ST.In at hin
 obtain ⟨hk, he, hb1, hb2⟩ := hin
 have htx : stT bl.data.toList (ST.mk 4 nm (ET.mk op t b enm ea ec eks) a1 c1 body a2 c2 els).st = [97, 115, 115, 101, 114, 116, 32] ++ (X ++ [59]) := by
  try rw [hX.out]
  show stT bl.data.toList (.mk 4 nm.data.toList (ET.mk op t b enm ea ec eks).ex (ST.sts body) (ST.sts els)) = _
  rw [stT]
  simp
 rw [htx] at hlen ⊢
 clear htx
 obtain ⟨n1, hn1⟩ : ∃ n, Hid (n = body.length) := ⟨_, (rfl : body.length = _)⟩
 obtain ⟨n2, hn2⟩ : ∃ n, Hid (n = els.length) := ⟨_, (rfl : els.length = _)⟩
 obtain ⟨n3, hn3⟩ : ∃ n, Hid (n = eks.length) := ⟨_, (rfl : eks.length = _)⟩
 have hme : mayE 32 (ET.mk op t b enm ea ec eks).ex = true := by
  have h := (show mayS d (.mk 4 nm.data.toList (ET.mk op t b enm ea ec eks).ex (ST.sts body) (ST.sts els)) = true from hmay)
  rw [mayS] at h
  simp at h
  exact h.2.1
 have hA : ∀ w, (ET.mk op t b enm ea ec eks).In B w → Txt B w g m F → B ≤ w.heap.size → Tab w → Calls Tryz.prog 80 #[.pointer (some ⟨g, 0, none⟩), .string ⟨#[97, 115, 115, 101, 114, 116, 32]⟩, .agg (ex5 op t b enm (.slice ea n3 ec)).toArray, .string ⟨#[59]⟩] w fun r w' => r = .returned (.tuple #[]) ∧ Txt B w' g m (F ++ ([97, 115, 115, 101, 114, 116, 32] ++ (X ++ [59]))) ∧ Wr B g w w' := fun w h1 h2 h3 h4 => by
  rw [hn3.out]
  exact around_any B g m hm h16 _ hme ⟨#[97, 115, 115, 101, 114, 116, 32]⟩ ⟨#[59]⟩ X _ _ hX.out rfl rfl w F h1 h2 h3 h4 (by first | exact hlen | (simp only [List.length_append] at hlen ⊢; omega))
 have HI : Hid (Txt B w g m F ∧ (ET.mk op t b enm ea ec eks).In B w ∧ Tab w) := ⟨hT, he, hTab⟩
 clear hmay he hb1 hb2 hT hTab hX hme hlen
 show Calls Tryz.prog 100 #[.pointer (some ⟨g, 0, none⟩), .agg (st9 4 nm (ex5 op t b enm (.slice ea eks.length ec)) (.slice a1 body.length c1) (.slice a2 els.length c2)).toArray, .string bl] w _
 rw [← hn1.out, ← hn2.out, ← hn3.out]
 go_enter Tryz.func100, Tryz.ntmps100
 go_wp2_with (first
  | ((with_reducible show wpList _ _ _ _ _ _); refine wpList_box_at rfl 87 (.tmp 1) rfl (st9 4 nm (ex5 op t b enm (.slice ea n3 ec)) (.slice a1 n1 c1) (.slice a2 n2 c2)) rfl ?_; intro w1 hA1 hw1 hs1; clear hs1; refine Hid.out ?_))
 refine hidU ?_
 obtain ⟨q0, q1, q2, q3, q4, q5, q6, q7, q8⟩ := st_cells hA1
 have hA' := hA w1 (HI.out.2.1.old (Old.of_below hw1 hBw)) (HI.out.1.below hw1) (by have := hw1.size; omega) (HI.out.2.2.below hw1 (by omega))
 clear hA
 go_wp2_with fail
 refine hA'.mono ?_
 rintro r w3 ⟨rfl, hT2, hW2⟩
 have HF : Hid (Txt B w3 g m (F ++ ([97, 115, 115, 101, 114, 116, 32] ++ (X ++ [59]))) ∧ Wr B g w w3) := ⟨hT2, (Wr.of_below hw1).trans hW2⟩
 clear hA'
 clear hW2 hT2
 go_wp2
 go_end0
 exact ⟨rfl, HF.out⟩

set_option maxRecDepth 100000 in
set_option maxHeartbeats 3200000 in
theorem stmtT_5n (B g m : Nat) (hm : m ≤ 9223372036854775807) (h16 : gB ≤ B) (nm : ByteArray) (op t b : Nat) (enm : ByteArray) (ea : Option Addr) (ec : Nat) (eks : List ET) (a1 : Option Addr) (c1 : Nat) (body : List ST) (a2 : Option Addr) (c2 : Nat) (els : List ST) (W5Y : BlockW B g m a1 c1 body) (W5Z : BlockW B g m a2 c2 els) (hne : els = []) : StmtW B g m (.mk 5 nm (.mk op t b enm ea ec eks) a1 c1 body a2 c2 els) := by
 intro bl d w F hbl hd hmay hin hT hBw hTab hlen
 have hBg := hT.base
 have hgw := hT.lt
 obtain ⟨X, hX⟩ : ∃ X, Hid (X = exT (ET.mk op t b enm ea ec eks).ex) := ⟨_, (rfl : exT _ = _)⟩
 unfold ST.In at hin
 obtain ⟨hk, he, hb1, hb2⟩ := hin
 obtain ⟨Y, hY⟩ : ∃ Y, Hid (Y = blT (bl.data.toList ++ [32, 32]) (body.map ST.st)) := ⟨_, (rfl : _ = blT (bl.data.toList ++ [32, 32]) (body.map ST.st))⟩
 obtain ⟨Z, hZ⟩ : ∃ Z, Hid (Z = blT (bl.data.toList ++ [32, 32]) (els.map ST.st)) := ⟨_, (rfl : _ = blT (bl.data.toList ++ [32, 32]) (els.map ST.st))⟩
 have htx : stT bl.data.toList (ST.mk 5 nm (ET.mk op t b enm ea ec eks) a1 c1 body a2 c2 els).st = ([105, 102, 32] ++ (X ++ [32, 123, 10])) ++ (Y ++ (bl.data.toList ++ [125])) := by
  rw [hX.out, hY.out]
  show stT bl.data.toList (.mk 5 nm.data.toList (ET.mk op t b enm ea ec eks).ex (ST.sts body) (ST.sts els)) = _
  rw [stT, ST.sts_eq, ST.sts_eq]
  simp [hne]
 rw [htx] at hlen ⊢
 clear htx
 obtain ⟨n1, hn1⟩ : ∃ n, Hid (n = body.length) := ⟨_, (rfl : body.length = _)⟩
 obtain ⟨n2, hn2⟩ : ∃ n, Hid (n = els.length) := ⟨_, (rfl : els.length = _)⟩
 obtain ⟨n3, hn3⟩ : ∃ n, Hid (n = eks.length) := ⟨_, (rfl : eks.length = _)⟩
 have hms : mayE 32 (ET.mk op t b enm ea ec eks).ex = true ∧ mayB (d + 1) (body.map ST.st) = true ∧ mayB (d + 1) (els.map ST.st) = true := by
  have h := (show mayS d (.mk 5 nm.data.toList (ET.mk op t b enm ea ec eks).ex (ST.sts body) (ST.sts els)) = true from hmay)
  rw [mayS, ST.sts_eq, ST.sts_eq] at h
  simp at h
  exact ⟨h.2.1, h.2.2.1, h.2.2.2⟩
 have hme := hms.1
 have hA : ∀ w, (ET.mk op t b enm ea ec eks).In B w → Txt B w g m F → B ≤ w.heap.size → Tab w → Calls Tryz.prog 80 #[.pointer (some ⟨g, 0, none⟩), .string ⟨#[105, 102, 32]⟩, .agg (ex5 op t b enm (.slice ea n3 ec)).toArray, .string ⟨#[32, 123, 10]⟩] w fun r w' => r = .returned (.tuple #[]) ∧ Txt B w' g m (F ++ ([105, 102, 32] ++ (X ++ [32, 123, 10]))) ∧ Wr B g w w' := fun w h1 h2 h3 h4 => by
  rw [hn3.out]
  exact around_any B g m hm h16 _ hme ⟨#[105, 102, 32]⟩ ⟨#[32, 123, 10]⟩ X _ _ hX.out rfl rfl w F h1 h2 h3 h4 (by first | exact hlen | (simp only [List.length_append] at hlen ⊢; omega))
 have h5Y : ∀ w, RowS B w a1 c1 body → Txt B w g m (F ++ ([105, 102, 32] ++ (X ++ [32, 123, 10]))) → B ≤ w.heap.size → Tab w → Calls Tryz.prog 73 #[.pointer (some ⟨g, 0, none⟩), .slice a1 n1 c1, .string (bl ++ ⟨#[32, 32]⟩)] w fun r w' => r = .returned (.tuple #[]) ∧ Txt B w' g m (F ++ ([105, 102, 32] ++ (X ++ [32, 123, 10])) ++ Y) ∧ Wr B g w w' := fun w h1 h2 h3 h4 => by
  have e : Y = blT (bl ++ ⟨#[32, 32]⟩ : ByteArray).data.toList (body.map ST.st) := by rw [hY.out, cat3]
  rw [hn1.out, e]
  exact W5Y (bl ++ ⟨#[32, 32]⟩) (d + 1) w (F ++ ([105, 102, 32] ++ (X ++ [32, 123, 10]))) (by rw [ByteArray.size_append]; show bl.size + 2 + 2 * (33 - (d + 1)) ≤ 1000; omega) hms.2.1 h1 h2 h3 h4 (by rw [← e]; simp only [List.length_append] at hlen ⊢; omega)
 have HI : Hid (Txt B w g m F ∧ (ET.mk op t b enm ea ec eks).In B w ∧ Tab w ∧ RowS B w a1 c1 body ∧ RowS B w a2 c2 els) := ⟨hT, he, hTab, hb1, hb2⟩
 have HL : Hid ((F ++ (([105, 102, 32] ++ (X ++ [32, 123, 10])) ++ (Y ++ (bl.data.toList ++ [125])))).length ≤ 70368744177664) := hlen
 have hz2 : n2 = 0 := by rw [hn2.out, hne]; rfl
 subst hz2
 clear hmay he hb1 hb2 hT hTab hX hY hZ hme hlen hms W5Y W5Z
 show Calls Tryz.prog 100 #[.pointer (some ⟨g, 0, none⟩), .agg (st9 5 nm (ex5 op t b enm (.slice ea eks.length ec)) (.slice a1 body.length c1) (.slice a2 els.length c2)).toArray, .string bl] w _
 rw [← hn1.out, ← hn2.out, ← hn3.out]
 clear hne
 go_enter Tryz.func100, Tryz.ntmps100
 go_wp2_with (first
  | ((with_reducible show wpList _ _ _ _ _ _); refine wpList_box_at rfl 87 (.tmp 1) rfl (st9 5 nm (ex5 op t b enm (.slice ea n3 ec)) (.slice a1 n1 c1) (.slice a2 0 c2)) rfl ?_; intro w1 hA1 hw1 hs1; clear hs1; refine Hid.out ?_))
 refine hidU ?_
 obtain ⟨q0, q1, q2, q3, q4, q5, q6, q7, q8⟩ := st_cells hA1
 have hold1 := Old.of_below hw1 hBw
 have hA' := hA w1 (HI.out.2.1.old hold1) (HI.out.1.below hw1) (by have := hw1.size; omega) (HI.out.2.2.1.below hw1 (by omega))
 clear hA hold1
 go_wp2_with fail
 refine hA'.mono ?_
 rintro r w2 ⟨rfl, hT2, hW2⟩
 have hw2 : Wr B g w w2 := (Wr.of_below hw1).trans hW2
 have hA2 := hW2.at hA1 (by omega) (by decide)
 clear hA' hA1 hW2 hw1 q0 q1 q2 q3 q4 q5 q6 q7 q8
 obtain ⟨q0, q1, q2, q3, q4, q5, q6, q7, q8⟩ := st_cells hA2
 have hB' := h5Y w2 (HI.out.2.2.2.1.old (Old.of_wr hw2 hBg hBw)) hT2 (by have := hw2.size; omega) (HI.out.2.2.1.wr hw2 hBg hBw h16)
 have hbl2 : ¬ (9223372036854775807 < bl.size + 2) := by omega
 clear h5Y hT2
 go_wp2_with fail
 refine hB'.mono ?_
 rintro r w3 ⟨rfl, hT3, hW3⟩
 have hw3 : Wr B g w w3 := hw2.trans hW3
 have hA3 := hW3.at hA2 (by omega) (by decide)
 clear hB' hA2 hW3 hw2 q0 q1 q2 q3 q4 q5 q6 q7 q8
 obtain ⟨q0, q1, q2, q3, q4, q5, q6, q7, q8⟩ := st_cells hA3
 go_wp2_with (first
  | ((with_reducible show wpList _ _ _ _ _ _); refine wpList_strs rfl 2 #[(0, .tmp 64), (1, .const (.string ⟨#[125]⟩))] rfl [bl, ⟨#[125]⟩] rfl (by decide) (by decide) (by kernel_rfl) ?_; intro w7 hA7 hb7 hs7; clear hs7))
 refine (put_one B g m _ [bl, ⟨#[125]⟩] (bl.data.toList ++ [125]) _ (by simp [cat]) _ hm (hT3.below hb7) hA7 (by have := HL.out; simp only [List.length_append] at this ⊢; omega) (by simp)).mono ?_
 rintro r w8 ⟨rfl, hT2, hW2⟩
 have HF : Hid (Txt B w8 g m (F ++ (([105, 102, 32] ++ (X ++ [32, 123, 10])) ++ (Y ++ (bl.data.toList ++ [125])))) ∧ Wr B g w w8) := ⟨by simpa only [List.append_assoc] using hT2, hw3.trans ((Wr.of_below hb7).trans hW2)⟩
 clear hw3 hT3 hA7 hb7
 clear hW2 hT2
 go_wp2
 go_end0
 exact ⟨rfl, HF.out⟩

set_option maxRecDepth 100000 in
set_option maxHeartbeats 3200000 in
theorem stmtT_5e (B g m : Nat) (hm : m ≤ 9223372036854775807) (h16 : gB ≤ B) (nm : ByteArray) (op t b : Nat) (enm : ByteArray) (ea : Option Addr) (ec : Nat) (eks : List ET) (a1 : Option Addr) (c1 : Nat) (body : List ST) (a2 : Option Addr) (c2 : Nat) (els : List ST) (W5Y : BlockW B g m a1 c1 body) (W5Z : BlockW B g m a2 c2 els) (hne : els ≠ []) : StmtW B g m (.mk 5 nm (.mk op t b enm ea ec eks) a1 c1 body a2 c2 els) := by
 intro bl d w F hbl hd hmay hin hT hBw hTab hlen
 have hBg := hT.base
 have hgw := hT.lt
 obtain ⟨X, hX⟩ : ∃ X, Hid (X = exT (ET.mk op t b enm ea ec eks).ex) := ⟨_, (rfl : exT _ = _)⟩
 unfold ST.In at hin
 obtain ⟨hk, he, hb1, hb2⟩ := hin
 obtain ⟨Y, hY⟩ : ∃ Y, Hid (Y = blT (bl.data.toList ++ [32, 32]) (body.map ST.st)) := ⟨_, (rfl : _ = blT (bl.data.toList ++ [32, 32]) (body.map ST.st))⟩
 obtain ⟨Z, hZ⟩ : ∃ Z, Hid (Z = blT (bl.data.toList ++ [32, 32]) (els.map ST.st)) := ⟨_, (rfl : _ = blT (bl.data.toList ++ [32, 32]) (els.map ST.st))⟩
 have htx : stT bl.data.toList (ST.mk 5 nm (ET.mk op t b enm ea ec eks) a1 c1 body a2 c2 els).st = ([105, 102, 32] ++ (X ++ [32, 123, 10])) ++ (Y ++ ((bl.data.toList ++ [125, 32, 101, 108, 115, 101, 32, 123, 10] ++ Z) ++ (bl.data.toList ++ [125]))) := by
  rw [hX.out, hY.out, hZ.out]
  show stT bl.data.toList (.mk 5 nm.data.toList (ET.mk op t b enm ea ec eks).ex (ST.sts body) (ST.sts els)) = _
  rw [stT, ST.sts_eq, ST.sts_eq]
  simp [hne]
 rw [htx] at hlen ⊢
 clear htx
 obtain ⟨n1, hn1⟩ : ∃ n, Hid (n = body.length) := ⟨_, (rfl : body.length = _)⟩
 obtain ⟨n2, hn2⟩ : ∃ n, Hid (n = els.length) := ⟨_, (rfl : els.length = _)⟩
 obtain ⟨n3, hn3⟩ : ∃ n, Hid (n = eks.length) := ⟨_, (rfl : eks.length = _)⟩
 have hms : mayE 32 (ET.mk op t b enm ea ec eks).ex = true ∧ mayB (d + 1) (body.map ST.st) = true ∧ mayB (d + 1) (els.map ST.st) = true := by
  have h := (show mayS d (.mk 5 nm.data.toList (ET.mk op t b enm ea ec eks).ex (ST.sts body) (ST.sts els)) = true from hmay)
  rw [mayS, ST.sts_eq, ST.sts_eq] at h
  simp at h
  exact ⟨h.2.1, h.2.2.1, h.2.2.2⟩
 have hme := hms.1
 have hA : ∀ w, (ET.mk op t b enm ea ec eks).In B w → Txt B w g m F → B ≤ w.heap.size → Tab w → Calls Tryz.prog 80 #[.pointer (some ⟨g, 0, none⟩), .string ⟨#[105, 102, 32]⟩, .agg (ex5 op t b enm (.slice ea n3 ec)).toArray, .string ⟨#[32, 123, 10]⟩] w fun r w' => r = .returned (.tuple #[]) ∧ Txt B w' g m (F ++ ([105, 102, 32] ++ (X ++ [32, 123, 10]))) ∧ Wr B g w w' := fun w h1 h2 h3 h4 => by
  rw [hn3.out]
  exact around_any B g m hm h16 _ hme ⟨#[105, 102, 32]⟩ ⟨#[32, 123, 10]⟩ X _ _ hX.out rfl rfl w F h1 h2 h3 h4 (by first | exact hlen | (simp only [List.length_append] at hlen ⊢; omega))
 have h5Y : ∀ w, RowS B w a1 c1 body → Txt B w g m (F ++ ([105, 102, 32] ++ (X ++ [32, 123, 10]))) → B ≤ w.heap.size → Tab w → Calls Tryz.prog 73 #[.pointer (some ⟨g, 0, none⟩), .slice a1 n1 c1, .string (bl ++ ⟨#[32, 32]⟩)] w fun r w' => r = .returned (.tuple #[]) ∧ Txt B w' g m (F ++ ([105, 102, 32] ++ (X ++ [32, 123, 10])) ++ Y) ∧ Wr B g w w' := fun w h1 h2 h3 h4 => by
  have e : Y = blT (bl ++ ⟨#[32, 32]⟩ : ByteArray).data.toList (body.map ST.st) := by rw [hY.out, cat3]
  rw [hn1.out, e]
  exact W5Y (bl ++ ⟨#[32, 32]⟩) (d + 1) w (F ++ ([105, 102, 32] ++ (X ++ [32, 123, 10]))) (by rw [ByteArray.size_append]; show bl.size + 2 + 2 * (33 - (d + 1)) ≤ 1000; omega) hms.2.1 h1 h2 h3 h4 (by rw [← e]; simp only [List.length_append] at hlen ⊢; omega)
 have h5Z : ∀ w, RowS B w a2 c2 els → Txt B w g m (F ++ ([105, 102, 32] ++ (X ++ [32, 123, 10])) ++ Y ++ (bl.data.toList ++ [125, 32, 101, 108, 115, 101, 32, 123, 10])) → B ≤ w.heap.size → Tab w → Calls Tryz.prog 73 #[.pointer (some ⟨g, 0, none⟩), .slice a2 n2 c2, .string (bl ++ ⟨#[32, 32]⟩)] w fun r w' => r = .returned (.tuple #[]) ∧ Txt B w' g m (F ++ ([105, 102, 32] ++ (X ++ [32, 123, 10])) ++ Y ++ (bl.data.toList ++ [125, 32, 101, 108, 115, 101, 32, 123, 10]) ++ Z) ∧ Wr B g w w' := fun w h1 h2 h3 h4 => by
  have e : Z = blT (bl ++ ⟨#[32, 32]⟩ : ByteArray).data.toList (els.map ST.st) := by rw [hZ.out, cat3]
  rw [hn2.out, e]
  exact W5Z (bl ++ ⟨#[32, 32]⟩) (d + 1) w (F ++ ([105, 102, 32] ++ (X ++ [32, 123, 10])) ++ Y ++ (bl.data.toList ++ [125, 32, 101, 108, 115, 101, 32, 123, 10])) (by rw [ByteArray.size_append]; show bl.size + 2 + 2 * (33 - (d + 1)) ≤ 1000; omega) hms.2.2 h1 h2 h3 h4 (by rw [← e]; simp only [List.length_append] at hlen ⊢; omega)
 have HI : Hid (Txt B w g m F ∧ (ET.mk op t b enm ea ec eks).In B w ∧ Tab w ∧ RowS B w a1 c1 body ∧ RowS B w a2 c2 els) := ⟨hT, he, hTab, hb1, hb2⟩
 have HL : Hid ((F ++ (([105, 102, 32] ++ (X ++ [32, 123, 10])) ++ (Y ++ ((bl.data.toList ++ [125, 32, 101, 108, 115, 101, 32, 123, 10] ++ Z) ++ (bl.data.toList ++ [125]))))).length ≤ 70368744177664) := hlen
 have hpos : (0 : Int) < (n2 : Int) := by have := List.length_pos_iff.2 hne; rw [← hn2.out] at this; omega
 clear hmay he hb1 hb2 hT hTab hX hY hZ hme hlen hms W5Y W5Z
 show Calls Tryz.prog 100 #[.pointer (some ⟨g, 0, none⟩), .agg (st9 5 nm (ex5 op t b enm (.slice ea eks.length ec)) (.slice a1 body.length c1) (.slice a2 els.length c2)).toArray, .string bl] w _
 rw [← hn1.out, ← hn2.out, ← hn3.out]
 clear hne
 go_enter Tryz.func100, Tryz.ntmps100
 go_wp2_with (first
  | ((with_reducible show wpList _ _ _ _ _ _); refine wpList_box_at rfl 87 (.tmp 1) rfl (st9 5 nm (ex5 op t b enm (.slice ea n3 ec)) (.slice a1 n1 c1) (.slice a2 n2 c2)) rfl ?_; intro w1 hA1 hw1 hs1; clear hs1; refine Hid.out ?_))
 refine hidU ?_
 obtain ⟨q0, q1, q2, q3, q4, q5, q6, q7, q8⟩ := st_cells hA1
 have hold1 := Old.of_below hw1 hBw
 have hA' := hA w1 (HI.out.2.1.old hold1) (HI.out.1.below hw1) (by have := hw1.size; omega) (HI.out.2.2.1.below hw1 (by omega))
 clear hA hold1
 go_wp2_with fail
 refine hA'.mono ?_
 rintro r w2 ⟨rfl, hT2, hW2⟩
 have hw2 : Wr B g w w2 := (Wr.of_below hw1).trans hW2
 have hA2 := hW2.at hA1 (by omega) (by decide)
 clear hA' hA1 hW2 hw1 q0 q1 q2 q3 q4 q5 q6 q7 q8
 obtain ⟨q0, q1, q2, q3, q4, q5, q6, q7, q8⟩ := st_cells hA2
 have hB' := h5Y w2 (HI.out.2.2.2.1.old (Old.of_wr hw2 hBg hBw)) hT2 (by have := hw2.size; omega) (HI.out.2.2.1.wr hw2 hBg hBw h16)
 have hbl2 : ¬ (9223372036854775807 < bl.size + 2) := by omega
 clear h5Y hT2
 go_wp2_with fail
 refine hB'.mono ?_
 rintro r w3 ⟨rfl, hT3, hW3⟩
 have hw3 : Wr B g w w3 := hw2.trans hW3
 have hA3 := hW3.at hA2 (by omega) (by decide)
 clear hB' hA2 hW3 hw2 q0 q1 q2 q3 q4 q5 q6 q7 q8
 obtain ⟨q0, q1, q2, q3, q4, q5, q6, q7, q8⟩ := st_cells hA3
 go_wp2_with (first
  | ((with_reducible show wpList _ _ _ _ _ _); refine wpList_strs rfl 2 #[(0, .tmp 54), (1, .const (.string ⟨#[125, 32, 101, 108, 115, 101, 32, 123, 10]⟩))] rfl [bl, ⟨#[125, 32, 101, 108, 115, 101, 32, 123, 10]⟩] rfl (by decide) (by decide) (by kernel_rfl) ?_; intro w4 hA4 hb4 hs4; clear hs4))
 refine (put_one B g m _ [bl, ⟨#[125, 32, 101, 108, 115, 101, 32, 123, 10]⟩] (bl.data.toList ++ [125, 32, 101, 108, 115, 101, 32, 123, 10]) _ (by simp [cat]) _ hm (hT3.below hb4) hA4 (by have := HL.out; simp only [List.length_append] at this ⊢; omega) (by simp)).mono ?_
 rintro r w5 ⟨rfl, hT5, hW5⟩
 have hw5 : Wr B g w w5 := hw3.trans ((Wr.of_below hb4).trans hW5)
 have hA5 := hW5.at (hA3.below hb4) (by omega) (by decide)
 clear hA3 hW5 hw3 hT3 hA4 hb4 q0 q1 q2 q3 q4 q5 q6 q7 q8
 obtain ⟨q0, q1, q2, q3, q4, q5, q6, q7, q8⟩ := st_cells hA5
 have hB' := h5Z w5 (HI.out.2.2.2.2.old (Old.of_wr hw5 hBg hBw)) hT5 (by have := hw5.size; omega) (HI.out.2.2.1.wr hw5 hBg hBw h16)
 clear h5Z hT5
 go_wp2_with fail
 refine hB'.mono ?_
 rintro r w6 ⟨rfl, hT3, hW6⟩
 have hw3 : Wr B g w w6 := hw5.trans hW6
 clear hB' hA5 hW6 hw5 q0 q1 q2 q3 q4 q5 q6 q7 q8
 go_wp2_with (first
  | ((with_reducible show wpList _ _ _ _ _ _); refine wpList_strs rfl 2 #[(0, .tmp 64), (1, .const (.string ⟨#[125]⟩))] rfl [bl, ⟨#[125]⟩] rfl (by decide) (by decide) (by kernel_rfl) ?_; intro w7 hA7 hb7 hs7; clear hs7))
 refine (put_one B g m _ [bl, ⟨#[125]⟩] (bl.data.toList ++ [125]) _ (by simp [cat]) _ hm (hT3.below hb7) hA7 (by have := HL.out; simp only [List.length_append] at this ⊢; omega) (by simp)).mono ?_
 rintro r w8 ⟨rfl, hT2, hW2⟩
 have HF : Hid (Txt B w8 g m (F ++ (([105, 102, 32] ++ (X ++ [32, 123, 10])) ++ (Y ++ ((bl.data.toList ++ [125, 32, 101, 108, 115, 101, 32, 123, 10] ++ Z) ++ (bl.data.toList ++ [125]))))) ∧ Wr B g w w8) := ⟨by simpa only [List.append_assoc] using hT2, hw3.trans ((Wr.of_below hb7).trans hW2)⟩
 clear hw3 hT3 hA7 hb7
 clear hW2 hT2
 go_wp2
 go_end0
 exact ⟨rfl, HF.out⟩

set_option maxRecDepth 100000 in
set_option maxHeartbeats 3200000 in
theorem stmtT_6 (B g m : Nat) (hm : m ≤ 9223372036854775807) (h16 : gB ≤ B) (nm : ByteArray) (op t b : Nat) (enm : ByteArray) (ea : Option Addr) (ec : Nat) (eks : List ET) (a1 : Option Addr) (c1 : Nat) (body : List ST) (a2 : Option Addr) (c2 : Nat) (els : List ST) (W6Y : BlockW B g m a1 c1 body) : StmtW B g m (.mk 6 nm (.mk op t b enm ea ec eks) a1 c1 body a2 c2 els) := by
 intro bl d w F hbl hd hmay hin hT hBw hTab hlen
 have hBg := hT.base
 have hgw := hT.lt
 obtain ⟨X, hX⟩ : ∃ X, Hid (X = exT (ET.mk op t b enm ea ec eks).ex) := ⟨_, (rfl : exT _ = _)⟩
 unfold ST.In at hin
 obtain ⟨hk, he, hb1, hb2⟩ := hin
 obtain ⟨Y, hY⟩ : ∃ Y, Hid (Y = blT (bl.data.toList ++ [32, 32]) (body.map ST.st)) := ⟨_, (rfl : _ = blT (bl.data.toList ++ [32, 32]) (body.map ST.st))⟩
 have htx : stT bl.data.toList (ST.mk 6 nm (ET.mk op t b enm ea ec eks) a1 c1 body a2 c2 els).st = ([119, 104, 105, 108, 101, 32] ++ (X ++ [32, 123, 10])) ++ (Y ++ (bl.data.toList ++ [125])) := by
  rw [hX.out, hY.out]
  show stT bl.data.toList (.mk 6 nm.data.toList (ET.mk op t b enm ea ec eks).ex (ST.sts body) (ST.sts els)) = _
  rw [stT, ST.sts_eq, ST.sts_eq]
  simp
 rw [htx] at hlen ⊢
 clear htx
 obtain ⟨n1, hn1⟩ : ∃ n, Hid (n = body.length) := ⟨_, (rfl : body.length = _)⟩
 obtain ⟨n2, hn2⟩ : ∃ n, Hid (n = els.length) := ⟨_, (rfl : els.length = _)⟩
 obtain ⟨n3, hn3⟩ : ∃ n, Hid (n = eks.length) := ⟨_, (rfl : eks.length = _)⟩
 have hms : mayE 32 (ET.mk op t b enm ea ec eks).ex = true ∧ mayB (d + 1) (body.map ST.st) = true := by
  have h := (show mayS d (.mk 6 nm.data.toList (ET.mk op t b enm ea ec eks).ex (ST.sts body) (ST.sts els)) = true from hmay)
  rw [mayS, ST.sts_eq, ST.sts_eq] at h
  simp at h
  exact ⟨h.2.1, h.2.2.1⟩
 have hme := hms.1
 have hA : ∀ w, (ET.mk op t b enm ea ec eks).In B w → Txt B w g m F → B ≤ w.heap.size → Tab w → Calls Tryz.prog 80 #[.pointer (some ⟨g, 0, none⟩), .string ⟨#[119, 104, 105, 108, 101, 32]⟩, .agg (ex5 op t b enm (.slice ea n3 ec)).toArray, .string ⟨#[32, 123, 10]⟩] w fun r w' => r = .returned (.tuple #[]) ∧ Txt B w' g m (F ++ ([119, 104, 105, 108, 101, 32] ++ (X ++ [32, 123, 10]))) ∧ Wr B g w w' := fun w h1 h2 h3 h4 => by
  rw [hn3.out]
  exact around_any B g m hm h16 _ hme ⟨#[119, 104, 105, 108, 101, 32]⟩ ⟨#[32, 123, 10]⟩ X _ _ hX.out rfl rfl w F h1 h2 h3 h4 (by first | exact hlen | (simp only [List.length_append] at hlen ⊢; omega))
 have h6Y : ∀ w, RowS B w a1 c1 body → Txt B w g m (F ++ ([119, 104, 105, 108, 101, 32] ++ (X ++ [32, 123, 10]))) → B ≤ w.heap.size → Tab w → Calls Tryz.prog 73 #[.pointer (some ⟨g, 0, none⟩), .slice a1 n1 c1, .string (bl ++ ⟨#[32, 32]⟩)] w fun r w' => r = .returned (.tuple #[]) ∧ Txt B w' g m (F ++ ([119, 104, 105, 108, 101, 32] ++ (X ++ [32, 123, 10])) ++ Y) ∧ Wr B g w w' := fun w h1 h2 h3 h4 => by
  have e : Y = blT (bl ++ ⟨#[32, 32]⟩ : ByteArray).data.toList (body.map ST.st) := by rw [hY.out, cat3]
  rw [hn1.out, e]
  exact W6Y (bl ++ ⟨#[32, 32]⟩) (d + 1) w (F ++ ([119, 104, 105, 108, 101, 32] ++ (X ++ [32, 123, 10]))) (by rw [ByteArray.size_append]; show bl.size + 2 + 2 * (33 - (d + 1)) ≤ 1000; omega) hms.2 h1 h2 h3 h4 (by rw [← e]; simp only [List.length_append] at hlen ⊢; omega)
 have HI : Hid (Txt B w g m F ∧ (ET.mk op t b enm ea ec eks).In B w ∧ Tab w ∧ RowS B w a1 c1 body ∧ RowS B w a2 c2 els) := ⟨hT, he, hTab, hb1, hb2⟩
 have HL : Hid ((F ++ (([119, 104, 105, 108, 101, 32] ++ (X ++ [32, 123, 10])) ++ (Y ++ (bl.data.toList ++ [125])))).length ≤ 70368744177664) := hlen
 clear hmay he hb1 hb2 hT hTab hX hY hme hlen hms W6Y
 show Calls Tryz.prog 100 #[.pointer (some ⟨g, 0, none⟩), .agg (st9 6 nm (ex5 op t b enm (.slice ea eks.length ec)) (.slice a1 body.length c1) (.slice a2 els.length c2)).toArray, .string bl] w _
 rw [← hn1.out, ← hn2.out, ← hn3.out]
 go_enter Tryz.func100, Tryz.ntmps100
 go_wp2_with (first
  | ((with_reducible show wpList _ _ _ _ _ _); refine wpList_box_at rfl 87 (.tmp 1) rfl (st9 6 nm (ex5 op t b enm (.slice ea n3 ec)) (.slice a1 n1 c1) (.slice a2 n2 c2)) rfl ?_; intro w1 hA1 hw1 hs1; clear hs1; refine Hid.out ?_))
 refine hidU ?_
 obtain ⟨q0, q1, q2, q3, q4, q5, q6, q7, q8⟩ := st_cells hA1
 have hold1 := Old.of_below hw1 hBw
 have hA' := hA w1 (HI.out.2.1.old hold1) (HI.out.1.below hw1) (by have := hw1.size; omega) (HI.out.2.2.1.below hw1 (by omega))
 clear hA hold1
 go_wp2_with fail
 refine hA'.mono ?_
 rintro r w2 ⟨rfl, hT2, hW2⟩
 have hw2 : Wr B g w w2 := (Wr.of_below hw1).trans hW2
 have hA2 := hW2.at hA1 (by omega) (by decide)
 clear hA' hA1 hW2 hw1 q0 q1 q2 q3 q4 q5 q6 q7 q8
 obtain ⟨q0, q1, q2, q3, q4, q5, q6, q7, q8⟩ := st_cells hA2
 have hB' := h6Y w2 (HI.out.2.2.2.1.old (Old.of_wr hw2 hBg hBw)) hT2 (by have := hw2.size; omega) (HI.out.2.2.1.wr hw2 hBg hBw h16)
 have hbl2 : ¬ (9223372036854775807 < bl.size + 2) := by omega
 clear h6Y hT2
 go_wp2_with fail
 refine hB'.mono ?_
 rintro r w3 ⟨rfl, hT3, hW3⟩
 have hw3 : Wr B g w w3 := hw2.trans hW3
 have hA3 := hW3.at hA2 (by omega) (by decide)
 clear hB' hA2 hW3 hw2 q0 q1 q2 q3 q4 q5 q6 q7 q8
 obtain ⟨q0, q1, q2, q3, q4, q5, q6, q7, q8⟩ := st_cells hA3
 go_wp2_with (first
  | ((with_reducible show wpList _ _ _ _ _ _); refine wpList_strs rfl 2 #[(0, .tmp 80), (1, .const (.string ⟨#[125]⟩))] rfl [bl, ⟨#[125]⟩] rfl (by decide) (by decide) (by kernel_rfl) ?_; intro w7 hA7 hb7 hs7; clear hs7))
 refine (put_one B g m _ [bl, ⟨#[125]⟩] (bl.data.toList ++ [125]) _ (by simp [cat]) _ hm (hT3.below hb7) hA7 (by have := HL.out; simp only [List.length_append] at this ⊢; omega) (by simp)).mono ?_
 rintro r w8 ⟨rfl, hT2, hW2⟩
 have HF : Hid (Txt B w8 g m (F ++ (([119, 104, 105, 108, 101, 32] ++ (X ++ [32, 123, 10])) ++ (Y ++ (bl.data.toList ++ [125])))) ∧ Wr B g w w8) := ⟨by simpa only [List.append_assoc] using hT2, hw3.trans ((Wr.of_below hb7).trans hW2)⟩
 clear hw3 hT3 hA7 hb7
 clear hW2 hT2
 go_wp2
 go_end0
 exact ⟨rfl, HF.out⟩

end Go.Proofs.YtcmahiphfpgadaaGreatDoor

/- Statements and blocks are written. -/
namespace Go.Proofs.YtcmahiphfpgadaaGreatDoor
open Go.RowKit
set_option linter.unusedVariables false

theorem stmt_any (B g m : Nat) (hm : m ≤ 9223372036854775807) (h16 : gB ≤ B) (N : Nat) : ∀ s : ST, SizeOf.sizeOf s < N → StmtW B g m s := by
 induction N with
 | zero => intro s h; omega
 | succ N ih =>
  rintro ⟨k, nm, ⟨op, t, b, enm, ea, ec, eks⟩, a1, c1, body, a2, c2, els⟩ hN
  have i1 : ∀ s ∈ body, StmtW B g m s := fun s hs => ih s (by have := ST.sz1 (k := k) (nm := nm) (e := .mk op t b enm ea ec eks) (a1 := a1) (a2 := a2) (c1 := c1) (c2 := c2) (els := els) hs; omega)
  have i2 : ∀ s ∈ els, StmtW B g m s := fun s hs => ih s (by have := ST.sz2 (k := k) (nm := nm) (e := .mk op t b enm ea ec eks) (a1 := a1) (a2 := a2) (c1 := c1) (c2 := c2) (body := body) hs; omega)
  have w1 : BlockW B g m a1 c1 body := fun bl d w F hbl hmay hr hT hBw hTab hlen => block_of B g m hm h16 body i1 bl d hbl hmay a1 c1 w F hr hT hBw hTab hlen
  have w2 : BlockW B g m a2 c2 els := fun bl d w F hbl hmay hr hT hBw hTab hlen => block_of B g m hm h16 els i2 bl d hbl hmay a2 c2 w F hr hT hBw hTab hlen
  by_cases h1 : k = 1
  ·subst h1; exact stmtT_1 B g m hm h16 nm op t b enm ea ec eks a1 c1 body a2 c2 els
  by_cases h2 : k = 2
  ·subst h2; exact stmtT_2 B g m hm h16 nm op t b enm ea ec eks a1 c1 body a2 c2 els
  by_cases h3 : k = 3
  ·subst h3; exact stmtT_3 B g m hm h16 nm op t b enm ea ec eks a1 c1 body a2 c2 els
  by_cases h4 : k = 4
  ·subst h4; exact stmtT_4 B g m hm h16 nm op t b enm ea ec eks a1 c1 body a2 c2 els
  by_cases h5 : k = 5
  ·subst h5
   by_cases he : els = []
   ·exact stmtT_5n B g m hm h16 nm op t b enm ea ec eks a1 c1 body a2 c2 els w1 w2 he
   ·exact stmtT_5e B g m hm h16 nm op t b enm ea ec eks a1 c1 body a2 c2 els w1 w2 he
  by_cases h6 : k = 6
  ·subst h6; exact stmtT_6 B g m hm h16 nm op t b enm ea ec eks a1 c1 body a2 c2 els w1
  by_cases h7 : k = 7
  ·subst h7; exact stmtT_7 B g m hm h16 nm op t b enm ea ec eks a1 c1 body a2 c2 els
  intro bl d w F hbl hd hmay
  have h : mayS d (.mk k nm.data.toList (ET.mk op t b enm ea ec eks).ex (ST.sts body) (ST.sts els)) = true := hmay
  rw [mayS, if_neg h1, if_neg (by rintro (h | h); exact h2 h; exact h3 h), if_neg h4, if_neg h5, if_neg h6, if_neg h7] at h
  cases h

/-- A block that may be printed is written. -/
theorem block_any (B g m : Nat) (hm : m ≤ 9223372036854775807) (h16 : gB ≤ B) (a : Option Addr) (c : Nat) (ss : List ST) : BlockW B g m a c ss :=
 fun bl d w F hbl hmay hr hT hBw hTab hlen => block_of B g m hm h16 ss (fun s _ => stmt_any B g m hm h16 (SizeOf.sizeOf s + 1) s (by omega)) bl d hbl hmay a c w F hr hT hBw hTab hlen

end Go.Proofs.YtcmahiphfpgadaaGreatDoor

/- Variables' lines are written. -/
namespace Go.Proofs.YtcmahiphfpgadaaGreatDoor
open Go.RowKit
set_option linter.unusedVariables false

/-- A variable's line. -/
def vrT (wd : List UInt8) (v : Vr) : List UInt8 := wd ++ (v.nm ++ ([32] ++ (tyT v.t ++ ([32, 61, 32] ++ (valTx v.t v.b ++ [59, 10])))))
def vrsT (wd : List UInt8) (vs : List Vr) : List UInt8 := (vs.map (vrT wd)).flatten

set_option maxRecDepth 100000 in
set_option maxHeartbeats 3200000 in
theorem vars_any (B g m : Nat) (hm : m ≤ 9223372036854775807) (h16 : gB ≤ B) (ks : List VT) (wd : ByteArray) (a : Option Addr) (c : Nat) (w : World) (F : List UInt8)
    (hr : RowV B w a c ks) (hT : Txt B w g m F) (hBw : B ≤ w.heap.size) (hTab : Tab w) (hlen : (F ++ vrsT wd.data.toList (ks.map VT.vr)).length ≤ 70368744177664) :
    Calls Tryz.prog 71 #[.pointer (some ⟨g, 0, none⟩), .string wd, .slice a ks.length c] w fun r w' => r = .returned (.tuple #[]) ∧ Txt B w' g m (F ++ vrsT wd.data.toList (ks.map VT.vr)) ∧ Wr B g w w' := by
  have hBg := hT.base
  have hgw := hT.lt
  obtain ⟨n, hn⟩ : ∃ n, Hid (n = ks.length) := ⟨_, (rfl : ks.length = _)⟩
  have hl := hr.1
  have hk := hr.2.1
  rw [← hn.out] at hl hk ⊢
  have HR : Hid (RowV B w a c ks ∧ Txt B w g m F ∧ Tab w) := ⟨hr, hT, hTab⟩
  have HL : Hid ((F ++ vrsT wd.data.toList (ks.map VT.vr)).length ≤ 70368744177664) := hlen
  clear hr hT hTab hlen
  go_enter Tryz.func71, Tryz.ntmps71
  go_wp2_with fail
  go_loopw [12] (fun j wr => ∃ i : Nat, j = .int .i64 (i : Int) ∧ i ≤ n ∧ Hid (Txt B wr g m (F ++ vrsT wd.data.toList ((ks.take i).map VT.vr)) ∧ Wr B g w wr)) (fun j _ => n - (intOf j).toNat)
  case atStart => exact ⟨0, rfl, by omega, by simpa [vrsT] using HR.out.2.1, Wr.refl _ _ _⟩
  case round =>
    obtain ⟨i, rfl, hi, hX⟩ := hrel
    by_cases hc : i < n
    · obtain ⟨s, hs⟩ : ∃ k, ks[i]? = some k := ⟨ks[i]'(by rw [← hn.out]; exact hc), by rw [List.getElem?_eq_getElem]⟩
      obtain ⟨hTr, hWr⟩ := hX.out
      have hold : Old B w wr := Old.of_wr hWr hBg hBw
      obtain ⟨g1, o1, rfl, hg1, hr1, hs1⟩ := (HR.out.1.old hold).at i s hs
      have hgr := hTr.lt
      have htk : vrsT wd.data.toList ((ks.take (i + 1)).map VT.vr) = vrsT wd.data.toList ((ks.take i).map VT.vr) ++ vrT wd.data.toList s.vr := by
        rw [List.take_add_one, hs]
        simp [vrsT]
      have hle : (F ++ vrsT wd.data.toList ((ks.take (i + 1)).map VT.vr)).length ≤ (F ++ vrsT wd.data.toList (ks.map VT.vr)).length := by
        have e : vrsT wd.data.toList (ks.map VT.vr) = vrsT wd.data.toList ((ks.take (i + 1)).map VT.vr) ++ vrsT wd.data.toList ((ks.drop (i + 1)).map VT.vr) := by
          unfold vrsT
          rw [← List.flatten_append, ← List.map_append, ← List.map_append, List.take_append_drop]
        rw [e]
        simp only [List.length_append]
        omega
      obtain ⟨nm, t, b⟩ := s
      obtain ⟨V, hV⟩ : ∃ V, Hid (V = valTx t b) := ⟨_, (rfl : valTx t b = _)⟩
      obtain ⟨O, hO⟩ : ∃ O, Hid (O = valOk t b) := ⟨_, (rfl : valOk t b = _)⟩
      obtain ⟨Y, hY⟩ : ∃ Y, Hid (Y = tyT t) := ⟨_, (rfl : tyT t = _)⟩
      obtain ⟨G, hG⟩ : ∃ G, Hid (G = F ++ vrsT wd.data.toList ((ks.take i).map VT.vr)) := ⟨_, (rfl : _ = F ++ vrsT _ _)⟩
      obtain ⟨X, hXX⟩ : ∃ X, Hid (X = wd.data.toList ++ (nm.data.toList ++ ([32] ++ (Y ++ ([32, 61, 32] ++ (V ++ [59, 10])))))) := ⟨_, (rfl : _ = wd.data.toList ++ (nm.data.toList ++ ([32] ++ (Y ++ ([32, 61, 32] ++ (V ++ [59, 10]))))))⟩
      have HG : Hid (F ++ vrsT wd.data.toList ((ks.take (i + 1)).map VT.vr) = G ++ X) := by
        show _ = _
        rw [htk, hXX.out, hV.out, hY.out, hG.out, List.append_assoc]
        rfl
      have hlen2 : (G ++ X).length ≤ 70368744177664 := by
        have h1 := HL.out
        rw [HG.out] at hle
        omega
      rw [← hG.out] at hTr
      have hVal : ∀ w, Tab w → gB ≤ w.heap.size → Calls Tryz.prog 40 #[.agg [.int .u8 (t : Int), .int .u64 (b : Int)].toArray] w fun e w' => e = .returned (.tuple #[.string ⟨V.toArray⟩, .bool O]) ∧ Below w.heap.size w w' := fun w h1 h2 => by
        rw [hV.out, hO.out]
        exact valueText_any t b hs1.1 hs1.2 w h1 h2
      have hTy : ∀ w, Calls Tryz.prog 98 #[.int .u8 (t : Int)] w fun e w' => e = .returned (.string ⟨Y.toArray⟩) ∧ w' = w := fun w => by rw [hY.out]; exact typeText_any t w
      have HK : Hid (Txt B wr g m G ∧ Wr B g w wr ∧ Tab wr) := ⟨hTr, hWr, HR.out.2.2.wr hWr hBg hBw h16⟩
      have hBr : B ≤ wr.heap.size := by have := hWr.size; omega
      clear hX hs1 hold htk hle hTr hWr hV hO hY hG
      go_wp2_with (first
        | ((with_reducible show wpList _ _ _ _ _ _); refine wpList_load_mid (P := Tryz.prog) rfl 56 (.tmp 14) rfl g1 (o1 + i * 3) (by first | rfl | (simp; done)) (VT.cells ⟨nm, t, b⟩) _ hr1 Tryz.underlying56 rfl i79 ?_)
        | ((with_reducible show wpList _ _ _ _ _ _); refine wpList_alloc_at rfl 56 rfl _ 3 z79 ?_; intro w2 hA2 hb2 hs2)
        | ((with_reducible show wpList _ _ _ _ _ _); refine wpList_store_at (P := Tryz.prog) rfl 56 (.tmp 7) (.tmp 15) rfl wr.heap.size (VT.cells ⟨nm, t, b⟩) rfl rfl 56 _ hA2 i79 rfl (VT.one _) ?_; intro w3 hA3 hb3 hs3; refine Hid.out ?_))
      refine hidU ?_
      have hB3 : Below wr.heap.size wr w3 := hb3.below hb2 (Nat.le_refl _) (by omega)
      have c1 : w3.cell? ⟨wr.heap.size, 1, none⟩ = some (.int .u8 (t : Int)) := by rw [hA3.cell]; rfl
      have c2 : w3.cell? ⟨wr.heap.size, 2, none⟩ = some (.int .u64 (b : Int)) := by rw [hA3.cell]; rfl
      have hA3' := hA3
      have hVal' := hVal w3 (HK.out.2.2.below hB3 (by omega)) (by have := hB3.size; omega)
      clear hb3 hb2 hA2 hr1 hs2 hs3 hA3 hVal
      go_wp2_with fail
      refine hVal'.mono ?_
      rintro r w4 ⟨rfl, hb4⟩
      have hA4 := hA3'.below hb4
      have hw4 : Below wr.heap.size wr w4 := hB3.trans (hb4.mono hB3.size)
      clear hVal' hb4 hB3 hA3' c1 c2
      have c0 : w4.cell? ⟨wr.heap.size, 0, none⟩ = some (.string nm) := by rw [hA4.cell]; rfl
      have c1 : w4.cell? ⟨wr.heap.size, 1, none⟩ = some (.int .u8 (t : Int)) := by rw [hA4.cell]; rfl
      have hP : ∀ W k, Below w4.heap.size w4 W → At 9 W k [.string wd, .string nm, .string ⟨#[32]⟩, .string ⟨Y.toArray⟩, .string ⟨#[32, 61, 32]⟩, .string ⟨V.toArray⟩, .string ⟨#[59, 10]⟩] → Calls Tryz.prog 72 #[.pointer (some ⟨g, 0, none⟩), .slice (some ⟨k, 0, none⟩) 7 7] W fun r w' => r = .returned (.tuple #[]) ∧ Hid (Txt B w' g m (F ++ vrsT wd.data.toList ((ks.take (i + 1)).map VT.vr)) ∧ Wr B g w w') := fun W k hb hA => by
        refine (put_one B g m k [wd, nm, ⟨#[32]⟩, ⟨Y.toArray⟩, ⟨#[32, 61, 32]⟩, ⟨V.toArray⟩, ⟨#[59, 10]⟩] X G (by rw [hXX.out]; simp [cat]) W hm ((HK.out.1.below hw4).below hb) hA hlen2 (by simp)).mono ?_
        rintro r w' ⟨rfl, h1, h2⟩
        refine ⟨rfl, ?_, HK.out.2.1.trans ((Wr.of_below (hw4.trans (hb.mono hw4.size))).trans h2)⟩
        rw [HG.out]
        exact h1
      have HP : Hid (∀ W k, Below w4.heap.size w4 W → At 9 W k [.string wd, .string nm, .string ⟨#[32]⟩, .string ⟨Y.toArray⟩, .string ⟨#[32, 61, 32]⟩, .string ⟨V.toArray⟩, .string ⟨#[59, 10]⟩] → Calls Tryz.prog 72 #[.pointer (some ⟨g, 0, none⟩), .slice (some ⟨k, 0, none⟩) 7 7] W fun r w' => r = .returned (.tuple #[]) ∧ Hid (Txt B w' g m (F ++ vrsT wd.data.toList ((ks.take (i + 1)).map VT.vr)) ∧ Wr B g w w')) := hP
      clear hP hA4 hw4 HK HG hXX hlen2 HL HR
      go_wp2_with fail
      go_region_with (first
        | (go_at_call 98; refine (hTy _).mono ?_; rintro r w' ⟨rfl, rfl⟩)
        | (go_at_call 72; refine (HP.out _ w4.heap.size (by first | exact (Below.drew (Below.refl _ w4)).alloc (Nat.le_refl _) _ | exact Below.drew ((Below.refl _ w4).alloc (Nat.le_refl _) _)) (by exact _root_.Go.heap_alloc_new _ _)).mono ?_; rintro r w5 ⟨rfl, HY⟩))
      all_goals
        (clear HP hTy c0 c1
         go_wp2
         go_roundw
         case rel => exact ⟨i + 1, by go_num, by omega, by assumption⟩
         case measure => simp [intOf]; omega)
    · have hin : i = n := by omega
      have HY : Hid (Txt B wr g m (F ++ vrsT wd.data.toList (ks.map VT.vr)) ∧ Wr B g w wr) := by
        have := hX.out
        rw [hin, hn.out, List.take_length] at this
        exact this
      clear hX hin
      go_wp2
      go_end0
      exact ⟨rfl, HY.out⟩

end Go.Proofs.YtcmahiphfpgadaaGreatDoor
