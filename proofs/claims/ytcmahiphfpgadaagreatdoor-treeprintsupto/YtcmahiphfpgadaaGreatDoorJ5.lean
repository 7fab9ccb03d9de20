/- Joined texts of the proof. -/
import Derived.Test.YtcmahiphfpgadaaGreatDoorJ4
import Derived.Great.BuildSlice
import Derived.Test.YtcmahiphfpgadaaGreatDoorJ1

/- The text's writing of pieces. -/
namespace Go.Proofs.YtcmahiphfpgadaaGreatDoor
open Go.RowKit
set_option linter.unusedVariables false

/-- The text holds F, or is longer than the most, as F is. -/
def Txt (B : Nat) (w : World) (g m : Nat) (F : List UInt8) : Prop := ∃ bs, (bs = F ∨ (m < bs.length ∧ m < F.length)) ∧ bs.length ≤ F.length ∧ Raw B w g m bs

theorem Txt.lt {B g m : Nat} {w : World} {F : List UInt8} (h : Txt B w g m F) : g < w.heap.size := by
 obtain ⟨_, _, _, h⟩ := h
 exact h.lt
theorem Txt.base {B g m : Nat} {w : World} {F : List UInt8} (h : Txt B w g m F) : B ≤ g := by
 obtain ⟨_, _, _, h⟩ := h
 exact h.1
theorem Txt.below {B g m : Nat} {w w' : World} {F : List UInt8} (h : Txt B w g m F) (hb : Below w.heap.size w w') : Txt B w' g m F := by
 obtain ⟨bs, h1, h2, h3⟩ := h
 exact ⟨bs, h1, h2, h3.below hb⟩

/-- Pieces one behind the other. -/
def cat (ps : List ByteArray) : List UInt8 := (ps.map (·.data.toList)).flatten

theorem i9s : (Tryz.prog.info? 9).map (fun i => (i.zero, i.size, i.bytes)) = some (some (.string ⟨#[]⟩), 1, 16) := by kernel_rfl

set_option maxHeartbeats 1600000 in
set_option maxRecDepth 100000 in
theorem put_any (B g m k : Nat) (ps : List ByteArray) (F : List UInt8) (w : World) (hm : m ≤ 9223372036854775807) (h : Txt B w g m F) (hA : At 9 w k (ps.map .string)) (hlen : (F ++ cat ps).length ≤ 70368744177664) (hps : ps.length ≤ 1000) :
  Calls Tryz.prog 72 #[.pointer (some ⟨g, 0, none⟩), .slice (some ⟨k, 0, none⟩) ps.length ps.length] w fun e w' => e = .returned (.tuple #[]) ∧ Txt B w' g m (F ++ cat ps) ∧ Wr B g w w' := by
 have hBg := h.base
 have hgw := h.lt
 have hkg : k ≠ g := by
  rintro rfl
  obtain ⟨bs, _, _, _, p, v, _, ha, _⟩ := h
  have h1 : w.heap[k]? = _ := hA
  have h2 : w.heap[k]? = _ := ha
  rw [h1] at h2
  injection h2 with h2
  injection h2 with _ h3
  cases h3
 obtain ⟨n, hn⟩ : ∃ n, Hid (n = ps.length) := ⟨_, (rfl : ps.length = _)⟩
 rw [← hn.out] at hps ⊢
 have HA : Hid (At 9 w k (ps.map .string)) := hA
 have HT : Hid (Txt B w g m F) := h
 have HL : Hid ((F ++ cat ps).length ≤ 70368744177664) := hlen
 clear hA h hlen
 go_enter Tryz.func72, Tryz.ntmps72
 go_wp2_with fail
 go_loopw [8] (fun j wr => ∃ i : Nat, j = .int .i64 (i : Int) ∧ i ≤ n ∧ Hid (Txt B wr g m (F ++ cat (ps.take i)) ∧ Wr B g w wr)) (fun j _ => n - (intOf j).toNat)
 case atStart => exact ⟨0, rfl, by omega, by simpa [cat] using HT.out, Wr.refl _ _ _⟩
 case round =>
  obtain ⟨i, rfl, hi, hR⟩ := hrel
  by_cases hc : i < n
  ·obtain ⟨s, hs⟩ : ∃ s, ps[i]? = some s := ⟨ps[i]'(by rw [← hn.out]; exact hc), by rw [List.getElem?_eq_getElem]⟩
   obtain ⟨hT, hW⟩ := hR.out
   have hAr : At 9 wr k (ps.map .string) := hW.at HA.out hkg (by decide)
   have ci : wr.cell? ⟨k, i, none⟩ = some (.string s) := by rw [hAr.cell, List.getElem?_map, hs]; rfl
   have htake : ps.take (i + 1) = ps.take i ++ [s] := by rw [List.take_add_one, hs]; rfl
   have hcat : F ++ cat (ps.take (i + 1)) = (F ++ cat (ps.take i)) ++ s.data.toList := by rw [htake]; simp [cat]
   have hle : (F ++ cat (ps.take (i + 1))).length ≤ (F ++ cat ps).length := by
    have e : cat ps = cat (ps.take (i + 1)) ++ cat (ps.drop (i + 1)) := by
     unfold cat
     rw [← List.flatten_append, ← List.map_append, List.take_append_drop]
    rw [e]
    simp only [List.length_append]
    omega
   have hle2 := HL.out
   obtain ⟨bs, hbs, hbl, hraw⟩ := hT
   have hBw : B ≤ wr.heap.size := by have := hW.size; omega
   have hsl : (F ++ cat (ps.take i)).length + s.size ≤ 70368744177664 := by
    have e : s.size = s.data.toList.length := Array.length_toList.symm
    rw [hcat, List.length_append] at hle
    omega
   have h63 : bs.length ≤ 9223372036854775807 := by omega
   have cm : wr.cell? ⟨g, 2, none⟩ = some (.int .i64 (m : Int)) := by
    obtain ⟨_, p, v, _, ha, _⟩ := hraw
    rw [ha.cell]; rfl
   have hlen : ∀ q, Calls Tryz.prog 32 #[.pointer (some ⟨g, 0, none⟩)] (wr.drewN q) fun e w' => e = .returned (.int .i64 (bs.length : Int)) ∧ w' = wr.drewN q := fun q => len_any B g m bs _ hraw
   by_cases hlm : bs.length ≤ m
   ·have hbF : bs = F ++ cat (ps.take i) := by
     rcases hbs with h | ⟨h, _⟩
     ·exact h
     ·omega
    have hcm : (bs.length : Int) ≤ (m : Int) := by omega
    have hwr : ∀ q, Calls Tryz.prog 99 #[.pointer (some ⟨g, 0, none⟩), .string s] (wr.drewN q) fun e w' => e = .returned (.tuple #[.int .i64 s.size, .nilIface]) ∧ Raw B w' g m (bs ++ s.data.toList) ∧ Wr B g (wr.drewN q) w' := fun q => write_any B g m bs s _ hraw (by omega) hBw
    have HX : Hid ((F ++ cat (ps.take (i + 1)) = bs ++ s.data.toList) ∧ Wr B g w wr) := ⟨by rw [hcat, hbF], hW⟩
    clear hbs hbl hraw hW hAr htake hcat hle hle2 hR hsl hbF
    go_wp2_with fail
    go_quiet (first | (go_at_call 32; exact Calls.quiet_of_same (hlen _)))
    go_wp2_with fail
    refine (hwr _).mono ?_
    rintro e w2 ⟨rfl, hr2, hw2⟩
    have HY : Hid (Txt B w2 g m (F ++ cat (ps.take (i + 1))) ∧ Wr B g w w2) := by
     obtain ⟨h1, h2⟩ := HX.out
     rw [h1]
     exact ⟨⟨_, .inl rfl, Nat.le_refl _, hr2⟩, h2.trans ((Wr.mk rfl rfl rfl (Nat.le_refl _) fun _ _ _ _ => rfl : Wr B g wr (wr.drewN nq)).trans hw2)⟩
    clear HX hr2 hw2 hwr hlen
    go_wp2
    go_roundw
    case rel => exact ⟨i + 1, by go_num, by omega, HY⟩
    case measure => simp [intOf]; omega
   ·have hcm : ¬ (bs.length : Int) ≤ (m : Int) := by omega
    have HY : ∀ q, Hid (Txt B (wr.drewN q) g m (F ++ cat (ps.take (i + 1))) ∧ Wr B g w (wr.drewN q)) := fun q => ⟨⟨bs, .inr ⟨by omega, by rw [hcat, List.length_append]; rcases hbs with h | ⟨_, h⟩ <;> omega⟩, by rw [hcat, List.length_append]; omega, hraw⟩, hW.trans (Wr.mk rfl rfl rfl (Nat.le_refl _) fun _ _ _ _ => rfl : Wr B g wr (wr.drewN q))⟩
    clear hbs hbl hraw hW hAr htake hcat hle hle2 hR hsl
    go_wp2_with fail
    go_quiet (first | (go_at_call 32; exact Calls.quiet_of_same (hlen _)))
    go_wp2_with fail
    go_roundw
    case rel => exact ⟨i + 1, by go_num, by omega, HY _⟩
    case measure => simp [intOf]; omega
  ·have hin : i = n := by omega
   have HY : Hid (Txt B wr g m (F ++ cat ps) ∧ Wr B g w wr) := by
    have := hR.out
    rw [hin, hn.out, List.take_length] at this
    exact this
   clear hR hin
   go_wp2
   go_end0
   exact ⟨rfl, HY.out⟩

end Go.Proofs.YtcmahiphfpgadaaGreatDoor

/- Expressions in memory. -/
namespace Go.Proofs.YtcmahiphfpgadaaGreatDoor
open Go.RowKit
set_option linter.unusedVariables false

/-- An expression, with where its operands lie. -/
inductive ET where
 | mk (op t b : Nat) (nm : ByteArray) (a : Option Addr) (c : Nat) (kids : List ET)

/-- Its cells. -/
def ET.cells : ET → List Value
 | .mk op t b nm a c ks => [.int .u8 (op : Int), .int .u8 (t : Int), .int .u64 (b : Int), .string nm, .slice a ks.length c]

mutual
/-- As data. -/
def ET.ex : ET → Ex
 | .mk op t b nm _ _ ks => .mk op t b nm.data.toList (ET.exs ks)
def ET.exs : List ET → List Ex
 | [] => []
 | e :: r => e.ex :: ET.exs r
end

mutual
/-- It lies in blocks below B. -/
def ET.In (B : Nat) (w : World) : ET → Prop
 | .mk op t b nm a c ks => op < 256 ∧ t < 256 ∧ b < 18446744073709551616 ∧ ks.length ≤ 1048576 ∧ ks.length ≤ c ∧ (ks = [] ∨ ∃ g o, a = some ⟨g, o, none⟩ ∧ g < B ∧ ET.Row B w g ks o)
def ET.Row (B : Nat) (w : World) (g : Nat) : List ET → Nat → Prop
 | [], _ => True
 | e :: r, o => w.rangeAt g o e.cells ∧ e.In B w ∧ ET.Row B w g r (o + 5)
end

theorem ET.exs_eq : ∀ ks : List ET, ET.exs ks = ks.map ET.ex
 | [] => rfl
 | e :: r => by rw [ET.exs, ET.exs_eq r]; rfl

theorem ET.cells_len (e : ET) : e.cells.length = 5 := by cases e; rfl

/-- Blocks below B stand. -/
def Old (B : Nat) (w w' : World) : Prop := ∀ k, k < B → w'.heap[k]? = w.heap[k]?

theorem Old.of_below {B C : Nat} {w w' : World} (h : Below C w w') (hB : B ≤ C) : Old B w w' := fun k hk => h.block k (by omega)
theorem Old.of_wr {B g : Nat} {w w' : World} (h : Wr B g w w') (hB : B ≤ g) (hw : B ≤ w.heap.size) : Old B w w' := fun k hk => h.block k (by omega) (by omega) (.inl hk)
theorem Old.trans {B : Nat} {a b c : World} (h : Old B a b) (k : Old B b c) : Old B a c := fun i hi => (k i hi).trans (h i hi)
theorem Old.range {B g o : Nat} {w w' : World} {cs : List Value} (h : Old B w w') (hg : g < B) (hr : w.rangeAt g o cs) : w'.rangeAt g o cs := fun j v hj => by
 rw [World.cell?_of_block (w := w) (w' := w') (h _ hg)]
 exact hr j v hj

mutual
theorem ET.In.old {B : Nat} {w w' : World} (hO : Old B w w') : ∀ {e : ET}, e.In B w → e.In B w'
 | .mk op t b nm a c ks, h => by
  unfold ET.In at h ⊢
  obtain ⟨h1, h2, h3, h4, h5, h6⟩ := h
  refine ⟨h1, h2, h3, h4, h5, ?_⟩
  rcases h6 with h6 | ⟨g, o, ha, hg, hr⟩
  ·exact .inl h6
  ·exact .inr ⟨g, o, ha, hg, ET.Row.old hO hg hr⟩
theorem ET.Row.old {B : Nat} {w w' : World} (hO : Old B w w') {g : Nat} (hg : g < B) : ∀ {ks : List ET} {o : Nat}, ET.Row B w g ks o → ET.Row B w' g ks o
 | [], o, _ => trivial
 | e :: r, o, h => by
  unfold ET.Row at h ⊢
  exact ⟨hO.range hg h.1, ET.In.old hO h.2.1, ET.Row.old hO hg h.2.2⟩
end

mutual
theorem ET.In.up {B C : Nat} {w : World} (hBC : B ≤ C) : ∀ {e : ET}, e.In B w → e.In C w
 | .mk op t b nm a c ks, h => by
  unfold ET.In at h ⊢
  obtain ⟨h1, h2, h3, h4, h5, h6⟩ := h
  refine ⟨h1, h2, h3, h4, h5, ?_⟩
  rcases h6 with h6 | ⟨g, o, ha, hg, hr⟩
  ·exact .inl h6
  ·exact .inr ⟨g, o, ha, by omega, ET.Row.up hBC hr⟩
theorem ET.Row.up {B C : Nat} {w : World} (hBC : B ≤ C) {g : Nat} : ∀ {ks : List ET} {o : Nat}, ET.Row B w g ks o → ET.Row C w g ks o
 | [], o, _ => trivial
 | e :: r, o, h => by
  unfold ET.Row at h ⊢
  exact ⟨h.1, ET.In.up hBC h.2.1, ET.Row.up hBC h.2.2⟩
end

theorem ET.Row.at {B g : Nat} {w : World} : ∀ {ks : List ET} {o : Nat}, ET.Row B w g ks o → ∀ (i : Nat) (e : ET), ks[i]? = some e → w.rangeAt g (o + i * 5) e.cells ∧ e.In B w
 | [], o, _, i, e, h => by simp at h
 | x :: r, o, hr, 0, e, h => by
  unfold ET.Row at hr
  simp at h
  subst h
  exact ⟨by simpa using hr.1, hr.2.1⟩
 | x :: r, o, hr, i + 1, e, h => by
  unfold ET.Row at hr
  have := ET.Row.at hr.2.2 i e (by simpa using h)
  rw [show o + (i + 1) * 5 = o + 5 + i * 5 by omega]
  exact this

/-- Whether an expression may be printed, so high at most. -/
def mayE : Nat → Ex → Bool
 | 0, _ => false
 | h + 1, .mk op t b nm ks => decide ((ks.length : Int) = opnds op) && (if op = 1 then litOk t b && decide (nm = []) else if op = 2 then isNm nm && decide (t = 0 ∧ b = 0) else ks.all (mayE h) && (decide (nm = []) && decide (t = 0 ∧ b = 0)))

/-- An expression's text, if it may be printed. -/
def exT : Ex → List UInt8
 | .mk op t b nm ks => if op = 1 then valTx t b else if op = 2 then nm else
  match ks with
  | [] => []
  | [x] => if op = 16 then 45 :: exT x else if op = 17 then 33 :: exT x else if op = 18 then [105, 110, 116, 40] ++ (exT x ++ [41]) else if op = 19 then [114, 101, 97, 108, 40] ++ (exT x ++ [41]) else []
  | x :: y :: _ => 40 :: (exT x ++ 32 :: (sgT op ++ 32 :: (exT y ++ [41])))

theorem z29 : (Tryz.prog.info? 34).map (fun i => (i.zero, i.size)) = some (some (.agg [.int .u8 0, .int .u8 0, .int .u64 0, .string ⟨#[]⟩, .slice none 0 0].toArray), 5) := by kernel_rfl
theorem i29 : (Tryz.prog.info? 34).map (·.size) = some 5 := by kernel_rfl

theorem ET.one (e : ET) : ∀ v ∈ e.cells, v.oneCell' = true := by
 cases e
 intro v hv
 simp [ET.cells] at hv
 rcases hv with rfl | rfl | rfl | rfl | rfl <;> rfl

end Go.Proofs.YtcmahiphfpgadaaGreatDoor

/- tree.mayExpr. -/
namespace Go.Proofs.YtcmahiphfpgadaaGreatDoor
open Go.RowKit
set_option linter.unusedVariables false

def ex5 (op t b : Nat) (nm : ByteArray) (sl : Value) : List Value := [.int .u8 (op : Int), .int .u8 (t : Int), .int .u64 (b : Int), .string nm, sl]

theorem below_drN {B : Nat} {w w' : World} (h : Below B w w') (n : Nat) : Below B w (w'.drewN n) := ⟨h.os, h.tape, h.output, h.size, h.block⟩

theorem eq26 (t b : Nat) (u : World) : (Op.equalIn 10000 31 (.agg #[.int .u8 (t : Int), .int .u64 (b : Int)]) (.agg #[.int .u8 0, .int .u64 0])).run Tryz.prog u = .ok (decide (t = 0 ∧ b = 0)) u := by
 by_cases h1 : t = 0
 ·subst h1
  by_cases h2 : b = 0
  ·subst h2
   go_simp
  ·have e2 : ((b : Int) == 0) = false := by rw [beq_eq_false_iff_ne]; omega
   go_simp
 ·have e1 : ((t : Int) == 0) = false := by rw [beq_eq_false_iff_ne]; omega
  go_simp

theorem hidU {p : Prop} (h : p) : Hid p := h

theorem emp (nm : ByteArray) : nm.toList.isEmpty = decide (nm.data.toList = []) := by
 by_cases h : nm.size = 0
 ·rw [is_empty h]
  have : nm.data.toList = [] := List.length_eq_zero_iff.1 (by rw [Array.length_toList]; exact h)
  simp [this]
 ·rw [not_empty (Nat.pos_of_ne_zero h)]
  have : ¬ nm.data.toList = [] := fun he => h (by have := congrArg List.length he; rw [Array.length_toList] at this; exact this)
  simp [this]

set_option maxRecDepth 100000 in
set_option maxHeartbeats 3200000 in
theorem mayExpr_any (h : Nat) : ∀ (e : ET) (w : World) (B : Nat), h ≤ 32 → e.In B w → B ≤ w.heap.size → Tab w → gB ≤ w.heap.size →
  Calls Tryz.prog 37 #[.agg e.cells.toArray, .int .i64 (h : Int)] w fun r w' => r = .returned (.bool (mayE h e.ex)) ∧ Below w.heap.size w w' := by
 induction h with
 | zero =>
  rintro ⟨op, t, b, nm, a, c, ks⟩ w B hh hin hBw hT h16
  have hm : mayE 0 (ET.mk op t b nm a c ks).ex = false := rfl
  rw [hm]
  clear hm hin
  go_enter Tryz.func37, Tryz.ntmps37
  go_wp2_with (first | ((with_reducible show wpList _ _ _ _ _ _); refine wpList_box_at rfl 34 (.tmp 0) rfl (ex5 op t b nm (.slice a ks.length c)) rfl ?_; intro w1 hA1 hb1 hs1))
  go_quiet (fail)
  go_wp2
  go_ret
  exact ⟨rfl, below_drN hb1 _⟩
 | succ h ih =>
  rintro ⟨op, t, b, nm, a, c, ks⟩ w B hh hin hBw hT h16
  unfold ET.In at hin
  obtain ⟨h1, h2, h3, h4, h5, h6⟩ := hin
  have hO := operands_any op
  obtain ⟨n, hn⟩ : ∃ n, Hid (n = ks.length) := ⟨_, (rfl : ks.length = _)⟩
  obtain ⟨K, hK⟩ : ∃ K, Hid (K = opnds op) := ⟨_, (rfl : opnds op = _)⟩
  rw [← hK.out] at hO
  show Calls Tryz.prog 37 #[.agg (ex5 op t b nm (.slice a ks.length c)).toArray, .int .i64 ((h + 1 : Nat) : Int)] w _
  rw [← hn.out] at h4 h5 ⊢
  have hh1 : (((h + 1 : Nat) : Int) == 0) = false := by rw [beq_eq_false_iff_ne]; omega
  obtain ⟨H, hH⟩ : ∃ H : Int, H = ((h + 1 : Nat) : Int) := ⟨_, rfl⟩
  rw [← hH] at hh1 ⊢
  have hH1 : IntKind.i64.wrap (H - 1) = (h : Int) := by rw [IntKind.wrap_i64]; omega
  have hm : mayE (h + 1) (ET.mk op t b nm a c ks).ex = (decide ((n : Int) = K) && (if op = 1 then litOk t b && decide (nm.data.toList = []) else if op = 2 then isNm nm.data.toList && decide (t = 0 ∧ b = 0) else (ks.map ET.ex).all (mayE h) && (decide (nm.data.toList = []) && decide (t = 0 ∧ b = 0)))) := by
   show mayE (h + 1) (.mk op t b nm.data.toList (ET.exs ks)) = _
   rw [mayE, ET.exs_eq, List.length_map, ← hn.out, ← hK.out]
  obtain ⟨R, hR⟩ : ∃ R, Hid (R = (decide ((n : Int) = K) && (if op = 1 then litOk t b && decide (nm.data.toList = []) else if op = 2 then isNm nm.data.toList && decide (t = 0 ∧ b = 0) else (ks.map ET.ex).all (mayE h) && (decide (nm.data.toList = []) && decide (t = 0 ∧ b = 0))))) := ⟨_, (rfl : _ = _)⟩
  rw [hm, ← hR.out]
  clear hm hH
  go_enter Tryz.func37, Tryz.ntmps37
  go_wp2_with (first | ((with_reducible show wpList _ _ _ _ _ _); refine wpList_box_at rfl 34 (.tmp 0) rfl (ex5 op t b nm (.slice a n c)) rfl ?_; intro w1 hA1 hb1 hs1))
  have c0 : w1.cell? ⟨w.heap.size, 0, none⟩ = some (.int .u8 (op : Int)) := by rw [hA1.cell]; rfl
  have c1 : w1.cell? ⟨w.heap.size, 1, none⟩ = some (.int .u8 (t : Int)) := by rw [hA1.cell]; rfl
  have c2 : w1.cell? ⟨w.heap.size, 2, none⟩ = some (.int .u64 (b : Int)) := by rw [hA1.cell]; rfl
  have c3 : w1.cell? ⟨w.heap.size, 3, none⟩ = some (.string nm) := by rw [hA1.cell]; rfl
  have c4 : w1.cell? ⟨w.heap.size, 4, none⟩ = some (.slice a n c) := by rw [hA1.cell]; rfl
  have hq := eq26 t b
  by_cases hk : (n : Int) = K
  ·subst hk
   have hd : decide ((n : Int) = (n : Int)) = true := by simp
   rw [hd, Bool.true_and] at hR
   clear hd
   go_quiet (first | (go_at_call 78; exact Calls.quiet_of_same (hO _)))
   clear hO
   by_cases ho1 : op = 1
   ·rw [if_pos ho1] at hR
    subst ho1
    have hL := fun w hT h16 => mayLit_any t b h2 h3 w hT h16
    clear hq ih h6
    go_wp2_with fail
    refine (hL _ (hT.below (below_drN hb1 _) h16) (by show gB ≤ w1.heap.size; omega)).mono ?_
    rintro e w2 ⟨rfl, hb2⟩
    have c3' : w2.cell? ⟨w.heap.size, 3, none⟩ = some (.string nm) := by rw [((hA1.drewN nq).below hb2).cell]; rfl
    have hbb : Below w.heap.size w w2 := (below_drN hb1 _).trans (hb2.mono (by show w.heap.size ≤ w1.heap.size; omega))
    clear hb2 hA1 hb1 hL c0 c1 c2 c3 c4
    cases hM : litOk t b with
    | false =>
     rw [hM, Bool.false_and] at hR
     go_wp2
     go_ret
     exact ⟨by rw [hR.out]; rfl, hbb⟩
    | true =>
     rw [hM, Bool.true_and] at hR
     clear hM
     have hem := emp nm
     rw [← hR.out] at hem
     go_wp2
     go_ret
     exact ⟨rfl, hbb⟩
   by_cases ho2 : op = 2
   ·rw [if_neg ho1, if_pos ho2] at hR
    subst ho2
    have hN := fun w => name_any nm w
    clear ih h6
    go_wp2_with fail
    refine (hN _).mono ?_
    rintro e w2 ⟨rfl, hw2⟩
    have hw2' := hw2.symm
    subst hw2'
    clear hN c0 c3 c4
    have hbb := below_drN hb1 nq
    unfold bytes
    cases hM : isNm nm.data.toList with
    | false =>
     rw [hM, Bool.false_and] at hR
     go_wp2
     go_ret
     exact ⟨by rw [hR.out]; rfl, hbb⟩
    | true =>
     rw [hM, Bool.true_and] at hR
     clear hM
     go_wp2
     go_ret
     exact ⟨by rw [hR.out, Bool.decide_and]; rfl, hbb⟩
   ·rw [if_neg ho1, if_neg ho2] at hR
    have e1 : ((op : Int) == 1) = false := by rw [beq_eq_false_iff_ne]; omega
    have e2 : ((op : Int) == 2) = false := by rw [beq_eq_false_iff_ne]; omega
    have hem := emp nm
    go_wp2_with fail
    have H6 : Hid (ks = [] ∨ ∃ g o, a = some ⟨g, o, none⟩ ∧ g < B ∧ ET.Row B w g ks o) := h6
    have HB0 : Hid (Below w.heap.size w (w1.drewN nq) ∧ At 34 (w1.drewN nq) w.heap.size (ex5 op t b nm (.slice a n c))) := ⟨below_drN hb1 _, hA1.drewN _⟩
    clear h6 hb1 hA1 c0 c1 c2 c3 c4 e1 e2 ho1 ho2
    go_loopw [44] (fun j wr => ∃ i : Nat, j = .int .i64 (i : Int) ∧ i ≤ n ∧ Hid (Below w.heap.size w wr ∧ At 34 wr w.heap.size (ex5 op t b nm (.slice a n c)) ∧ ∀ x ∈ (ks.take i).map ET.ex, mayE h x = true)) (fun j _ => n - (intOf j).toNat)
    case atStart => exact ⟨0, rfl, by omega, HB0.out.1, HB0.out.2, by simp⟩
    case round =>
     obtain ⟨i, rfl, hi, hX⟩ := hrel
     by_cases hc : i < n
     ·obtain ⟨k, hk⟩ : ∃ k, ks[i]? = some k := ⟨ks[i]'(by rw [← hn.out]; exact hc), by rw [List.getElem?_eq_getElem]⟩
      obtain ⟨hbw, hAr, hall⟩ := hX.out
      obtain ⟨g, o, ha, hg, hrow⟩ : ∃ g o, a = some ⟨g, o, none⟩ ∧ g < B ∧ ET.Row B w g ks o := by
       rcases H6.out with h | h
       ·rw [h] at hk; simp at hk
       ·exact h
      subst ha
      have hold : Old B w wr := Old.of_below hbw hBw
      obtain ⟨hrg, hkin⟩ := (ET.Row.old hold hg hrow).at i k hk
      have hb16 : gB ≤ wr.heap.size := by have := hbw.size; omega
      have HK : Hid (k.In B wr ∧ B ≤ wr.heap.size ∧ Tab wr) := ⟨hkin, by have := hbw.size; omega, hT.below hbw h16⟩
      have HY : Hid (Below w.heap.size w wr ∧ At 34 wr w.heap.size (ex5 op t b nm (.slice (some ⟨g, o, none⟩) n c)) ∧ ∀ x ∈ (ks.take i).map ET.ex, mayE h x = true) := ⟨hbw, hAr, hall⟩
      clear hX hkin hall hrow hold hbw hAr H6 HB0 hem hq
      go_wp2_with (first
       | ((with_reducible show wpList _ _ _ _ _ _); refine wpList_load_mid (P := Tryz.prog) rfl 34 (.tmp 46) rfl g (o + i * 5) (by first | rfl | (simp; done)) k.cells _ hrg Tryz.underlying34 rfl (by rw [ET.cells_len]; exact i29) ?_)
       | ((with_reducible show wpList _ _ _ _ _ _); refine wpList_alloc_at rfl 34 rfl (ex5 0 0 0 ⟨#[]⟩ (.slice none 0 0)) 5 z29 ?_; intro w2 hA2 hb2 hs2)
       | ((with_reducible show wpList _ _ _ _ _ _); refine wpList_store_at (P := Tryz.prog) rfl 34 (.tmp 6) (.tmp 47) rfl wr.heap.size k.cells rfl rfl 34 _ hA2 (by rw [ET.cells_len]; exact i29) (by rw [ET.cells_len]; rfl) k.one ?_; intro w3 hA3 hb3 hs3; refine Hid.out ?_))
      refine hidU ?_
      have hB3 : Below wr.heap.size wr w3 := hb3.below hb2 (Nat.le_refl _) (by omega)
      obtain ⟨hkin, hBwr, hTwr⟩ := HK.out
      have hk3 : k.In B w3 := hkin.old (Old.of_below hB3 hBwr)
      have hI := ih k w3 B (by omega) hk3 (by omega) (hTwr.below hB3 hb16) (by omega)
      clear hb3 hb2 hA2 HK hkin hk3 ih hTwr
      go_wp2_with (first | ((with_reducible show wpList _ _ _ _ _ _); refine wpList_load_at (P := Tryz.prog) rfl 34 (.tmp 6) rfl wr.heap.size rfl 34 k.cells hA3 _ Tryz.underlying34 rfl (by rw [ET.cells_len]; exact i29) ?_))
      refine hI.mono ?_
      rintro e w4 ⟨rfl, hb4⟩
      have HZ : Hid (Below w.heap.size w w4 ∧ At 34 w4 w.heap.size (ex5 op t b nm (.slice (some ⟨g, o, none⟩) n c)) ∧ ∀ x ∈ (ks.take i).map ET.ex, mayE h x = true) := by
       obtain ⟨q1, q2, q3⟩ := HY.out
       have hb5 : Below wr.heap.size wr w4 := hB3.trans (hb4.mono hB3.size)
       exact ⟨q1.trans (hb5.mono q1.size), q2.below hb5, q3⟩
      clear hI hb4 hB3 HY hA3 hrg
      cases hM : mayE h k.ex with
      | false =>
       have hRf : R = false := by
        rw [hR.out]
        have : (ks.map ET.ex).all (mayE h) = false := by
         rw [List.all_eq_false]
         exact ⟨k.ex, List.mem_map.2 ⟨k, List.mem_of_getElem? hk, rfl⟩, by rw [hM]; simp⟩
        rw [this, Bool.false_and]
       clear hM
       go_wp2
       go_ret
       exact ⟨by rw [hRf]; rfl, HZ.out.1⟩
      | true =>
       go_wp2
       go_roundw
       case rel =>
        refine ⟨i + 1, by go_num, by omega, ?_⟩
        obtain ⟨q1, q2, q3⟩ := HZ.out
        refine ⟨q1, q2, fun x hx => ?_⟩
        rw [List.take_add_one, hk, List.map_append, List.mem_append] at hx
        rcases hx with hx | hx
        ·exact q3 x hx
        ·simp at hx; rw [hx]; exact hM
       case measure => simp [intOf]; omega
     ·have hin : i = n := by omega
      obtain ⟨q1, q2, q3⟩ := hX.out
      have hall : (ks.map ET.ex).all (mayE h) = true := by
       rw [List.all_eq_true]
       intro x hx
       apply q3 x
       rw [hin, hn.out, List.take_length]
       exact hx
      rw [hall, Bool.true_and] at hR
      have c1 : wr.cell? ⟨w.heap.size, 1, none⟩ = some (.int .u8 (t : Int)) := by rw [q2.cell]; rfl
      have c2 : wr.cell? ⟨w.heap.size, 2, none⟩ = some (.int .u64 (b : Int)) := by rw [q2.cell]; rfl
      have c3 : wr.cell? ⟨w.heap.size, 3, none⟩ = some (.string nm) := by rw [q2.cell]; rfl
      have HQ : Hid (Below w.heap.size w wr) := q1
      clear q1 q2 q3 hX hall hin H6 HB0 ih
      cases hM : decide (nm.data.toList = []) with
      | false =>
       rw [hM] at hR hem
       clear hM
       go_wp2
       go_ret
       exact ⟨by rw [hR.out]; rfl, HQ.out⟩
      | true =>
       rw [hM] at hR hem
       clear hM
       go_wp2
       go_ret
       exact ⟨by rw [hR.out, Bool.decide_and]; rfl, HQ.out⟩
  ·have hk' : ((n : Int) == K) = false := by rw [beq_eq_false_iff_ne]; exact hk
   have hd : decide ((n : Int) = K) = false := by simpa using hk
   rw [hd, Bool.false_and] at hR
   clear hk hd
   go_quiet (first | (go_at_call 78; exact Calls.quiet_of_same (hO _)))
   go_wp2
   go_ret
   exact ⟨by rw [hR.out]; rfl, below_drN hb1 _⟩

end Go.Proofs.YtcmahiphfpgadaaGreatDoor

/- tree.sameExpr. -/
namespace Go.Proofs.YtcmahiphfpgadaaGreatDoor
open Go.RowKit
set_option linter.unusedVariables false

mutual
/-- Whether two expressions are the same. -/
def samX : Ex → Ex → Bool
 | .mk op t b nm ks, .mk op' t' b' nm' ks' => decide (op = op') && (decide (t = t' ∧ b = b') && (decide (nm = nm') && samL ks ks'))
def samL : List Ex → List Ex → Bool
 | [], [] => true
 | x :: r, y :: s => samX x y && samL r s
 | _, _ => false
end

theorem samL_iff : ∀ (xs ys : List Ex), samL xs ys = true ↔ xs.length = ys.length ∧ ∀ (i : Nat) (x y : Ex), xs[i]? = some x → ys[i]? = some y → samX x y = true
 | [], [] => by simp [samL]
 | [], y :: s => by simp [samL]
 | x :: r, [] => by simp [samL]
 | x :: r, y :: s => by
  rw [samL, Bool.and_eq_true, samL_iff r s]
  constructor
  ·rintro ⟨h1, h2, h3⟩
   refine ⟨by simp [h2], fun i a b ha hb => ?_⟩
   cases i with
   | zero => simp at ha hb; subst ha hb; exact h1
   | succ i => exact h3 i a b (by simpa using ha) (by simpa using hb)
  ·rintro ⟨h1, h2⟩
   exact ⟨h2 0 x y rfl rfl, by simpa using h1, fun i a b ha hb => h2 (i + 1) a b (by simpa using ha) (by simpa using hb)⟩

/-- A row of expressions in memory. -/
def RowE (B : Nat) (w : World) (a : Option Addr) (c : Nat) (ks : List ET) : Prop := ks.length ≤ 1048576 ∧ ks.length ≤ c ∧ (ks = [] ∨ ∃ g o, a = some ⟨g, o, none⟩ ∧ g < B ∧ ET.Row B w g ks o)

theorem RowE.old {B c : Nat} {w w' : World} {a : Option Addr} {ks : List ET} (h : RowE B w a c ks) (hO : Old B w w') : RowE B w' a c ks := by
 obtain ⟨h1, h2, h | ⟨g, o, ha, hg, hr⟩⟩ := h
 ·exact ⟨h1, h2, .inl h⟩
 ·exact ⟨h1, h2, .inr ⟨g, o, ha, hg, ET.Row.old hO hg hr⟩⟩

/-- One element of it. -/
theorem RowE.at {B c : Nat} {w : World} {a : Option Addr} {ks : List ET} (h : RowE B w a c ks) (i : Nat) (k : ET) (hk : ks[i]? = some k) : ∃ g o, a = some ⟨g, o, none⟩ ∧ g < B ∧ w.rangeAt g (o + i * 5) k.cells ∧ k.In B w := by
 obtain ⟨_, _, h | ⟨g, o, ha, hg, hr⟩⟩ := h
 ·rw [h] at hk; simp at hk
 ·obtain ⟨h1, h2⟩ := hr.at i k hk
  exact ⟨g, o, ha, hg, h1, h2⟩

/-- What telling two expressions apart does. -/
def SameW (B : Nat) (x : ET) : Prop := ∀ (y : ET) (w : World), x.In B w → y.In B w → B ≤ w.heap.size → Calls Tryz.prog 117 #[.agg x.cells.toArray, .agg y.cells.toArray] w fun r w' => r = .returned (.bool (samX x.ex y.ex)) ∧ Below w.heap.size w w'

set_option maxRecDepth 100000 in
set_option maxHeartbeats 3200000 in
theorem equalE_of (B : Nat) (xs ys : List ET) (hS : ∀ x ∈ xs, SameW B x) (a1 a2 : Option Addr) (c1 c2 : Nat) (w : World) (h1 : RowE B w a1 c1 xs) (h2 : RowE B w a2 c2 ys) (hBw : B ≤ w.heap.size) :
  Calls Tryz.prog 140 #[.slice a1 xs.length c1, .slice a2 ys.length c2, .func (.func 117) #[] #[]] w fun r w' => r = .returned (.bool (samL (xs.map ET.ex) (ys.map ET.ex))) ∧ Below w.heap.size w w' := by
 obtain ⟨R, hR⟩ : ∃ R, Hid (R = samL (xs.map ET.ex) (ys.map ET.ex)) := ⟨_, (rfl : _ = samL _ _)⟩
 rw [← hR.out]
 obtain ⟨n, hn⟩ : ∃ n, Hid (n = xs.length) := ⟨_, (rfl : xs.length = _)⟩
 obtain ⟨n2, hn2⟩ : ∃ n, Hid (n = ys.length) := ⟨_, (rfl : ys.length = _)⟩
 have hl1 := h1.1
 have hl2 := h2.1
 have hk1 := h1.2.1
 have hk2 := h2.2.1
 rw [← hn.out] at hl1 hk1 ⊢
 rw [← hn2.out] at hl2 hk2 ⊢
 have HS : Hid (∀ x ∈ xs, SameW B x) := hS
 have HR : Hid (RowE B w a1 c1 xs ∧ RowE B w a2 c2 ys) := ⟨h1, h2⟩
 clear hS h1 h2
 by_cases hnn : n = n2
 ·subst hnn
  go_enter Tryz.func140, Tryz.ntmps140
  go_wp2_with fail
  go_loopw [17] (fun j wr => ∃ i : Nat, j = .int .i64 (i : Int) ∧ i ≤ n ∧ Hid (Below w.heap.size w wr ∧ ∀ (q : Nat) (x y : Ex), q < i → (xs.map ET.ex)[q]? = some x → (ys.map ET.ex)[q]? = some y → samX x y = true)) (fun j _ => n - (intOf j).toNat)
  case atStart => exact ⟨0, rfl, by omega, Below.refl _ _, fun q x y hq => by omega⟩
  case round =>
   obtain ⟨i, rfl, hi, hX⟩ := hrel
   by_cases hc : i < n
   ·obtain ⟨x, hx⟩ : ∃ k, xs[i]? = some k := ⟨xs[i]'(by rw [← hn.out]; exact hc), by rw [List.getElem?_eq_getElem]⟩
    obtain ⟨y, hy⟩ : ∃ k, ys[i]? = some k := ⟨ys[i]'(by rw [← hn2.out]; exact hc), by rw [List.getElem?_eq_getElem]⟩
    obtain ⟨hbw, hall⟩ := hX.out
    have hold : Old B w wr := Old.of_below hbw hBw
    obtain ⟨g1, o1, rfl, hg1, hr1, hx1⟩ := (HR.out.1.old hold).at i x hx
    obtain ⟨g2, o2, rfl, hg2, hr2, hy1⟩ := (HR.out.2.old hold).at i y hy
    have HK : Hid (x.In B wr ∧ y.In B wr ∧ B ≤ wr.heap.size ∧ wr.rangeAt g2 (o2 + i * 5) y.cells) := ⟨hx1, hy1, by have := hbw.size; omega, hr2⟩
    clear hX hx1 hy1 hr2 hold HR
    go_wp2_with (first
     | ((with_reducible show wpList _ _ _ _ _ _); refine wpList_load_mid (P := Tryz.prog) rfl 34 (.tmp 20) rfl g1 (o1 + i * 5) (by first | rfl | (simp; done)) x.cells _ hr1 Tryz.underlying34 rfl (by rw [ET.cells_len]; exact i29) ?_)
     | ((with_reducible show wpList _ _ _ _ _ _); refine wpList_alloc_at rfl 34 rfl (ex5 0 0 0 ⟨#[]⟩ (.slice none 0 0)) 5 z29 ?_; intro w2 hA2 hb2 hs2)
     | ((with_reducible show wpList _ _ _ _ _ _); refine wpList_store_at (P := Tryz.prog) rfl 34 (.tmp 8) (.tmp 21) rfl wr.heap.size x.cells rfl rfl 34 _ hA2 (by rw [ET.cells_len]; exact i29) (by rw [ET.cells_len]; rfl) x.one ?_; intro w3 hA3 hb3 hs3; refine Hid.out ?_))
    refine hidU ?_
    have hB3 : Below wr.heap.size wr w3 := hb3.below hb2 (Nat.le_refl _) (by omega)
    obtain ⟨q1, q2, q3, q4⟩ := HK.out
    have hold3 : Old B wr w3 := Old.of_below hB3 q3
    have hr3 : w3.rangeAt g2 (o2 + i * 5) y.cells := Old.range hold3 hg2 q4
    have hw3 : Below w.heap.size w w3 := hbw.trans (hB3.mono hbw.size)
    have hA3' := hA3
    clear hb3 hb2 hA2 hr1 hs2 hs3 q4 hA3
    go_wp2_with (first
     | ((with_reducible show wpList _ _ _ _ _ _); refine wpList_load_mid (P := Tryz.prog) rfl 34 (.tmp 24) rfl g2 (o2 + i * 5) (by first | rfl | (simp; done)) y.cells _ hr3 Tryz.underlying34 rfl (by rw [ET.cells_len]; exact i29) ?_)
     | ((with_reducible show wpList _ _ _ _ _ _); refine wpList_alloc_at rfl 34 rfl (ex5 0 0 0 ⟨#[]⟩ (.slice none 0 0)) 5 z29 ?_; intro w4 hA4 hb4 hs4)
     | ((with_reducible show wpList _ _ _ _ _ _); refine wpList_store_at (P := Tryz.prog) rfl 34 (.tmp 9) (.tmp 25) rfl w3.heap.size y.cells rfl rfl 34 _ hA4 (by rw [ET.cells_len]; exact i29) (by rw [ET.cells_len]; rfl) y.one ?_; intro w5 hA5 hb5 hs5; refine Hid.out ?_))
    refine hidU ?_
    have hB5 : Below w3.heap.size w3 w5 := hb5.below hb4 (Nat.le_refl _) (by omega)
    have hA35 := hA3'.below hB5
    have hw5 : Below w.heap.size w w5 := hw3.trans (hB5.mono hw3.size)
    have hold5 : Old B wr w5 := hold3.trans (Old.of_below hB5 (by have := hB3.size; omega))
    have hI := HS.out x (List.mem_of_getElem? hx) y w5 (q1.old hold5) (q2.old hold5) (by have := hw5.size; omega)
    clear hb5 hb4 hA4 hr3 hs4 hs5 hA3' q1 q2 hold3 hold5 HK HS
    go_wp2_with (first
     | ((with_reducible show wpList _ _ _ _ _ _); refine wpList_load_at (P := Tryz.prog) rfl 34 (.tmp 8) rfl wr.heap.size rfl 34 x.cells hA35 _ Tryz.underlying34 rfl (by rw [ET.cells_len]; exact i29) ?_)
     | ((with_reducible show wpList _ _ _ _ _ _); refine wpList_load_at (P := Tryz.prog) rfl 34 (.tmp 9) rfl w3.heap.size rfl 34 y.cells hA5 _ Tryz.underlying34 rfl (by rw [ET.cells_len]; exact i29) ?_))
    refine hI.mono ?_
    rintro r w6 ⟨rfl, hb6⟩
    have hw6 : Below w.heap.size w w6 := hw5.trans (hb6.mono hw5.size)
    clear hI hb6 hw5 hw3 hB3 hB5 hA35 hA5
    cases hM : samX x.ex y.ex with
    | false =>
     have hRf : R = false := by
      rw [hR.out, Bool.eq_false_iff]
      intro h
      have := ((samL_iff _ _).1 h).2 i x.ex y.ex (by rw [List.getElem?_map, hx]; rfl) (by rw [List.getElem?_map, hy]; rfl)
      rw [hM] at this
      cases this
     clear hM
     go_wp2
     go_ret
     exact ⟨by rw [hRf]; rfl, hw6⟩
    | true =>
     go_wp2
     go_roundw
     case rel =>
      refine ⟨i + 1, by go_num, by omega, hw6, fun q u v hq hu hv => ?_⟩
      by_cases hqi : q = i
      ·subst hqi
       rw [List.getElem?_map, hx] at hu
       rw [List.getElem?_map, hy] at hv
       simp at hu hv
       subst hu hv
       exact hM
      ·exact hall q u v (by omega) hu hv
     case measure => simp [intOf]; omega
   ·have hin : i = n := by omega
    obtain ⟨hbw, hall⟩ := hX.out
    have hRt : R = true := by
     rw [hR.out, samL_iff, List.length_map, List.length_map, ← hn.out, ← hn2.out]
     refine ⟨rfl, fun q u v hu hv => hall q u v ?_ hu hv⟩
     have := (List.getElem?_eq_some_iff.1 hu).1
     rw [List.length_map, ← hn.out] at this
     omega
    clear hX hall hin HR HS
    go_wp2
    go_ret
    exact ⟨by rw [hRt]; rfl, hbw⟩
 ·have hne : ((n : Int) == (n2 : Int)) = false := by rw [beq_eq_false_iff_ne]; omega
  have hRf : R = false := by
   rw [hR.out, Bool.eq_false_iff]
   intro h
   have := (samL_iff _ _).1 h
   rw [List.length_map, List.length_map, ← hn.out, ← hn2.out] at this
   exact hnn this.1
  clear hnn
  go_enter Tryz.func140, Tryz.ntmps140
  go_wp2_with fail
  go_ret
  exact ⟨by rw [hRf]; rfl, Below.refl _ _⟩

theorem eq26g (t b t' b' : Nat) (u : World) : (Op.equalIn 10000 31 (.agg #[.int .u8 (t : Int), .int .u64 (b : Int)]) (.agg #[.int .u8 (t' : Int), .int .u64 (b' : Int)])).run Tryz.prog u = .ok (decide (t = t' ∧ b = b')) u := by
 by_cases h1 : t = t'
 ·subst h1
  by_cases h2 : b = b'
  ·subst h2
   go_simp
  ·have e2 : ((b : Int) == (b' : Int)) = false := by rw [beq_eq_false_iff_ne]; omega
   go_simp
 ·have e1 : ((t : Int) == (t' : Int)) = false := by rw [beq_eq_false_iff_ne]; omega
  go_simp

theorem ET.sz {op t b c : Nat} {nm : ByteArray} {a : Option Addr} {ks : List ET} {x : ET} (h : x ∈ ks) : SizeOf.sizeOf x < SizeOf.sizeOf (ET.mk op t b nm a c ks) := by
 have := List.sizeOf_lt_of_mem h
 simp only [ET.mk.sizeOf_spec]
 omega

set_option maxRecDepth 100000 in
set_option maxHeartbeats 3200000 in
theorem sameExpr_any (B : Nat) (N : Nat) : ∀ x : ET, SizeOf.sizeOf x < N → SameW B x := by
 induction N with
 | zero => intro x h; omega
 | succ N ih =>
  rintro ⟨op, t, b, nm, a, c, ks⟩ hN ⟨op', t', b', nm', a', c', ks'⟩ w hx hy hBw
  have hS : ∀ k ∈ ks, SameW B k := fun k hk => ih k (by have := ET.sz (op := op) (t := t) (b := b) (c := c) (nm := nm) (a := a) hk; omega)
  unfold ET.In at hx hy
  obtain ⟨_, _, _, x1, x2, x3⟩ := hx
  obtain ⟨_, _, _, y1, y2, y3⟩ := hy
  have hF := fun w h1 h2 hB => equalE_of B ks ks' hS a a' c c' w h1 h2 hB
  have HR : Hid (RowE B w a c ks ∧ RowE B w a' c' ks') := ⟨⟨x1, x2, x3⟩, ⟨y1, y2, y3⟩⟩
  obtain ⟨R, hR⟩ : ∃ R, Hid (R = samX (ET.mk op t b nm a c ks).ex (ET.mk op' t' b' nm' a' c' ks').ex) := ⟨_, (rfl : _ = samX _ _)⟩
  rw [← hR.out]
  have hR2 : Hid (R = (decide (op = op') && (decide (t = t' ∧ b = b') && (decide (nm.data.toList = nm'.data.toList) && samL (ks.map ET.ex) (ks'.map ET.ex))))) := by
   have := hR.out
   show R = _
   rw [this]
   show samX (.mk op t b nm.data.toList (ET.exs ks)) (.mk op' t' b' nm'.data.toList (ET.exs ks')) = _
   rw [samX, ET.exs_eq, ET.exs_eq]
  obtain ⟨Z, hZ⟩ : ∃ Z, Hid (Z = samL (ks.map ET.ex) (ks'.map ET.ex)) := ⟨_, (rfl : _ = samL _ _)⟩
  rw [← hZ.out] at hR2 hF
  obtain ⟨n, hn⟩ : ∃ n, Hid (n = ks.length) := ⟨_, (rfl : ks.length = _)⟩
  obtain ⟨n', hn'⟩ : ∃ n, Hid (n = ks'.length) := ⟨_, (rfl : ks'.length = _)⟩
  show Calls Tryz.prog 117 #[.agg (ex5 op t b nm (.slice a ks.length c)).toArray, .agg (ex5 op' t' b' nm' (.slice a' ks'.length c')).toArray] w _
  rw [← hn.out, ← hn'.out] at hF ⊢
  have hq := eq26g t b t' b'
  clear x1 x2 x3 y1 y2 y3 hR hS ih hN
  go_enter Tryz.func117, Tryz.ntmps117
  go_wp2_with (first
   | ((with_reducible show wpList _ _ _ _ _ _); refine wpList_box_at rfl 34 (.tmp 0) rfl (ex5 op t b nm (.slice a n c)) rfl ?_; intro w1 hA1 hb1 hs1; clear hs1)
   | ((with_reducible show wpList _ _ _ _ _ _); refine wpList_box_at rfl 34 (.tmp 1) rfl (ex5 op' t' b' nm' (.slice a' n' c')) rfl ?_; intro w2 hA2 hb2 hs2; clear hs2; refine Hid.out ?_))
  refine hidU ?_
  have hA12 := hA1.below hb2
  have hbw : Below w.heap.size w w2 := hb1.trans (hb2.mono hb1.size)
  have c0 : w2.cell? ⟨w.heap.size, 0, none⟩ = some (.int .u8 (op : Int)) := by rw [hA12.cell]; rfl
  have c1 : w2.cell? ⟨w.heap.size, 1, none⟩ = some (.int .u8 (t : Int)) := by rw [hA12.cell]; rfl
  have c2 : w2.cell? ⟨w.heap.size, 2, none⟩ = some (.int .u64 (b : Int)) := by rw [hA12.cell]; rfl
  have c3 : w2.cell? ⟨w.heap.size, 3, none⟩ = some (.string nm) := by rw [hA12.cell]; rfl
  have c4 : w2.cell? ⟨w.heap.size, 4, none⟩ = some (.slice a n c) := by rw [hA12.cell]; rfl
  have d0 : w2.cell? ⟨w1.heap.size, 0, none⟩ = some (.int .u8 (op' : Int)) := by rw [hA2.cell]; rfl
  have d1 : w2.cell? ⟨w1.heap.size, 1, none⟩ = some (.int .u8 (t' : Int)) := by rw [hA2.cell]; rfl
  have d2 : w2.cell? ⟨w1.heap.size, 2, none⟩ = some (.int .u64 (b' : Int)) := by rw [hA2.cell]; rfl
  have d3 : w2.cell? ⟨w1.heap.size, 3, none⟩ = some (.string nm') := by rw [hA2.cell]; rfl
  have d4 : w2.cell? ⟨w1.heap.size, 4, none⟩ = some (.slice a' n' c') := by rw [hA2.cell]; rfl
  have hold : Old B w w2 := Old.of_below hbw hBw
  have hF' := hF w2 (HR.out.1.old hold) (HR.out.2.old hold) (by have := hbw.size; omega)
  clear hA12 hA1 hA2 hb1 hb2 hold HR hF
  by_cases ho : op = op'
  ·subst ho
   have hd : decide (op = op) = true := by simp
   rw [hd, Bool.true_and] at hR2
   cases hV : decide (t = t' ∧ b = b') with
   | true =>
    rw [hV, Bool.true_and] at hR2
    have hq' : ∀ u, (Op.equalIn 10000 31 (.agg #[.int .u8 (t : Int), .int .u64 (b : Int)]) (.agg #[.int .u8 (t' : Int), .int .u64 (b' : Int)])).run Tryz.prog u = .ok true u := fun u => by rw [hq, hV]
    clear hq hd hV
    go_wp2_with fail
    ·have hs : nm.toList = nm'.toList := by assumption
     rw [toList_bytes, toList_bytes] at hs
     have hs' : decide (nm.data.toList = nm'.data.toList) = true := decide_eq_true hs
     rw [hs', Bool.true_and] at hR2
     rw [← hR2.out] at hF'
     clear hs hs'
     refine hF'.mono ?_
     rintro r w3 ⟨rfl, hb3⟩
     go_wp2
     go_ret
     exact ⟨rfl, hbw.trans (hb3.mono hbw.size)⟩
    ·have hs : ¬ nm.toList = nm'.toList := by assumption
     rw [toList_bytes, toList_bytes] at hs
     have hs' : decide (nm.data.toList = nm'.data.toList) = false := decide_eq_false hs
     rw [hs', Bool.false_and] at hR2
     clear hs hs'
     go_ret
     exact ⟨by rw [hR2.out]; rfl, hbw⟩
   | false =>
    rw [hV, Bool.false_and] at hR2
    have hq' : ∀ u, (Op.equalIn 10000 31 (.agg #[.int .u8 (t : Int), .int .u64 (b : Int)]) (.agg #[.int .u8 (t' : Int), .int .u64 (b' : Int)])).run Tryz.prog u = .ok false u := fun u => by rw [hq, hV]
    clear hq hd hV
    go_wp2_with fail
    go_ret
    exact ⟨by rw [hR2.out]; rfl, hbw⟩
  ·have e0 : ((op : Int) == (op' : Int)) = false := by rw [beq_eq_false_iff_ne]; omega
   have hd : decide (op = op') = false := by simpa using ho
   rw [hd, Bool.false_and] at hR2
   clear ho hd hq
   go_wp2_with fail
   go_ret
   exact ⟨by rw [hR2.out]; rfl, hbw⟩

end Go.Proofs.YtcmahiphfpgadaaGreatDoor

/- Prepared for layer 5, no program is named: the text of a program tells it apart from any other. -/
namespace Go.Proofs.YtcmahiphfpgadaaGreatDoor
set_option linter.unusedVariables false

/-- A statement, as data. -/
inductive St where
 | mk (kind : Int) (nm : List UInt8) (e : Ex) (body els : List St)

/-- No expression. -/
def noE : Ex := .mk 0 0 0 [] []

section
variable (prX : Ex → Option (List UInt8)) (isName : List UInt8 → Bool) (isNo : Ex → Bool)

variable {prX isName isNo}

end
end Go.Proofs.YtcmahiphfpgadaaGreatDoor

/- Statements in memory; whether they may be printed. -/
namespace Go.Proofs.YtcmahiphfpgadaaGreatDoor
open Go.RowKit
set_option linter.unusedVariables false

/-- A statement, with where its blocks lie. -/
inductive ST where
 | mk (k : Int) (nm : ByteArray) (e : ET) (a1 : Option Addr) (c1 : Nat) (body : List ST) (a2 : Option Addr) (c2 : Nat) (els : List ST)

def st9 (k : Int) (nm : ByteArray) (e : List Value) (s1 s2 : Value) : List Value := .int .i64 k :: .string nm :: (e ++ [s1, s2])

def ST.cells : ST → List Value
 | .mk k nm e a1 c1 body a2 c2 els => st9 k nm e.cells (.slice a1 body.length c1) (.slice a2 els.length c2)

mutual
def ST.st : ST → St
 | .mk k nm e _ _ body _ _ els => .mk k nm.data.toList e.ex (ST.sts body) (ST.sts els)
def ST.sts : List ST → List St
 | [] => []
 | s :: r => s.st :: ST.sts r
end

theorem ST.sts_eq : ∀ ks : List ST, ST.sts ks = ks.map ST.st
 | [] => rfl
 | e :: r => by rw [ST.sts, ST.sts_eq r]; rfl

mutual
def ST.In (B : Nat) (w : World) : ST → Prop
 | .mk k nm e a1 c1 body a2 c2 els => (-9223372036854775808 ≤ k ∧ k ≤ 9223372036854775807) ∧ e.In B w ∧
  (body.length ≤ 1048576 ∧ body.length ≤ c1 ∧ (body = [] ∨ ∃ g o, a1 = some ⟨g, o, none⟩ ∧ g < B ∧ ST.Row B w g body o)) ∧
  (els.length ≤ 1048576 ∧ els.length ≤ c2 ∧ (els = [] ∨ ∃ g o, a2 = some ⟨g, o, none⟩ ∧ g < B ∧ ST.Row B w g els o))
def ST.Row (B : Nat) (w : World) (g : Nat) : List ST → Nat → Prop
 | [], _ => True
 | s :: r, o => w.rangeAt g o s.cells ∧ s.In B w ∧ ST.Row B w g r (o + 9)
end

theorem ST.cells_len (s : ST) : s.cells.length = 9 := by cases s; simp [ST.cells, st9, ET.cells_len]

mutual
theorem ST.In.old {B : Nat} {w w' : World} (hO : Old B w w') : ∀ {s : ST}, s.In B w → s.In B w'
 | .mk k nm e a1 c1 body a2 c2 els, h => by
  unfold ST.In at h ⊢
  obtain ⟨h1, h2, ⟨h3, h4, h5⟩, h6, h7, h8⟩ := h
  refine ⟨h1, h2.old hO, ⟨h3, h4, ?_⟩, h6, h7, ?_⟩
  ·rcases h5 with h5 | ⟨g, o, ha, hg, hr⟩
   ·exact .inl h5
   ·exact .inr ⟨g, o, ha, hg, ST.Row.old hO hg hr⟩
  ·rcases h8 with h8 | ⟨g, o, ha, hg, hr⟩
   ·exact .inl h8
   ·exact .inr ⟨g, o, ha, hg, ST.Row.old hO hg hr⟩
theorem ST.Row.old {B : Nat} {w w' : World} (hO : Old B w w') {g : Nat} (hg : g < B) : ∀ {ks : List ST} {o : Nat}, ST.Row B w g ks o → ST.Row B w' g ks o
 | [], o, _ => trivial
 | s :: r, o, h => by
  unfold ST.Row at h ⊢
  exact ⟨hO.range hg h.1, ST.In.old hO h.2.1, ST.Row.old hO hg h.2.2⟩
end

theorem ST.Row.at {B g : Nat} {w : World} : ∀ {ks : List ST} {o : Nat}, ST.Row B w g ks o → ∀ (i : Nat) (e : ST), ks[i]? = some e → w.rangeAt g (o + i * 9) e.cells ∧ e.In B w
 | [], o, _, i, e, h => by simp at h
 | x :: r, o, hr, 0, e, h => by
  unfold ST.Row at hr
  simp at h
  subst h
  exact ⟨by simpa using hr.1, hr.2.1⟩
 | x :: r, o, hr, i + 1, e, h => by
  unfold ST.Row at hr
  have := ST.Row.at hr.2.2 i e (by simpa using h)
  rw [show o + (i + 1) * 9 = o + 9 + i * 9 by omega]
  exact this

/-- A row of statements in memory. -/
def RowS (B : Nat) (w : World) (a : Option Addr) (c : Nat) (ks : List ST) : Prop := ks.length ≤ 1048576 ∧ ks.length ≤ c ∧ (ks = [] ∨ ∃ g o, a = some ⟨g, o, none⟩ ∧ g < B ∧ ST.Row B w g ks o)

theorem RowS.old {B c : Nat} {w w' : World} {a : Option Addr} {ks : List ST} (h : RowS B w a c ks) (hO : Old B w w') : RowS B w' a c ks := by
 obtain ⟨h1, h2, h | ⟨g, o, ha, hg, hr⟩⟩ := h
 ·exact ⟨h1, h2, .inl h⟩
 ·exact ⟨h1, h2, .inr ⟨g, o, ha, hg, ST.Row.old hO hg hr⟩⟩

theorem RowS.at {B c : Nat} {w : World} {a : Option Addr} {ks : List ST} (h : RowS B w a c ks) (i : Nat) (k : ST) (hk : ks[i]? = some k) : ∃ g o, a = some ⟨g, o, none⟩ ∧ g < B ∧ w.rangeAt g (o + i * 9) k.cells ∧ k.In B w := by
 obtain ⟨_, _, h | ⟨g, o, ha, hg, hr⟩⟩ := h
 ·rw [h] at hk; simp at hk
 ·obtain ⟨h1, h2⟩ := hr.at i k hk
  exact ⟨g, o, ha, hg, h1, h2⟩

theorem ST.one (s : ST) : ∀ v ∈ s.cells, v.oneCell' = true := by
 cases s with
 | mk k nm e a1 c1 body a2 c2 els =>
  intro v hv
  simp only [ST.cells, st9, List.mem_cons, List.mem_append, List.not_mem_nil, or_false] at hv
  rcases hv with rfl | rfl | hv | rfl | rfl
  ·rfl
  ·rfl
  ·exact e.one v hv
  ·rfl
  ·rfl

theorem i38 : (Tryz.prog.info? 87).map (·.size) = some 9 := by kernel_rfl
theorem z38 : (Tryz.prog.info? 87).map (fun i => (i.zero, i.size)) = some (some (.agg (st9 0 ⟨#[]⟩ (ex5 0 0 0 ⟨#[]⟩ (.slice none 0 0)) (.slice none 0 0) (.slice none 0 0)).toArray), 9) := by kernel_rfl

/-- The cells of a statement's block, one by one. -/
theorem st_cells {w : World} {g : Nat} {k : Int} {nm : ByteArray} {op t b : Nat} {enm : ByteArray} {es s1 s2 : Value} (h : At 87 w g (st9 k nm (ex5 op t b enm es) s1 s2)) :
  w.cell? ⟨g, 0, none⟩ = some (.int .i64 k) ∧ w.cell? ⟨g, 1, none⟩ = some (.string nm) ∧ w.cell? ⟨g, 2, none⟩ = some (.int .u8 (op : Int)) ∧ w.cell? ⟨g, 3, none⟩ = some (.int .u8 (t : Int)) ∧
  w.cell? ⟨g, 4, none⟩ = some (.int .u64 (b : Int)) ∧ w.cell? ⟨g, 5, none⟩ = some (.string enm) ∧ w.cell? ⟨g, 6, none⟩ = some es ∧ w.cell? ⟨g, 7, none⟩ = some s1 ∧ w.cell? ⟨g, 8, none⟩ = some s2 := by
 refine ⟨?_, ?_, ?_, ?_, ?_, ?_, ?_, ?_, ?_⟩ <;> (rw [h.cell]; rfl)

mutual
/-- Whether a statement may be printed. -/
def mayS (d : Nat) : St → Bool
 | .mk k nm e body els =>
  if k = 1 then isNm nm && (mayE 32 e && (body.isEmpty && els.isEmpty))
  else if k = 2 ∨ k = 3 then isNm nm && (samX e noE && (body.isEmpty && els.isEmpty))
  else if k = 4 then decide (nm = []) && (mayE 32 e && (body.isEmpty && els.isEmpty))
  else if k = 5 then decide (nm = []) && (mayE 32 e && (mayB (d + 1) body && mayB (d + 1) els))
  else if k = 6 then decide (nm = []) && (mayE 32 e && (mayB (d + 1) body && els.isEmpty))
  else if k = 7 then decide (nm = []) && (samX e noE && (body.isEmpty && els.isEmpty))
  else false
def mayB (d : Nat) : List St → Bool
 | [] => true
 | s :: r => decide (d ≤ 32) && (mayS d s && mayB d r)
end

theorem mayB_iff (d : Nat) : ∀ ss : List St, mayB d ss = true ↔ (ss = [] ∨ d ≤ 32) ∧ ∀ s ∈ ss, mayS d s = true
 | [] => by simp [mayB]
 | s :: r => by
  rw [mayB, Bool.and_eq_true, Bool.and_eq_true, mayB_iff d r]
  simp only [decide_eq_true_eq, List.mem_cons, forall_eq_or_imp]
  constructor
  ·rintro ⟨h1, h2, h3, h4⟩; exact ⟨.inr h1, h2, h4⟩
  ·rintro ⟨h1, h2, h3⟩
   have : d ≤ 32 := by
    rcases h1 with h1 | h1
    ·cases h1
    ·exact h1
   exact ⟨this, h2, .inr this, h3⟩

set_option maxRecDepth 100000 in
set_option maxHeartbeats 1600000 in
theorem noBlocks_any (k : Int) (nm : ByteArray) (op t b : Nat) (enm : ByteArray) (es : Value) (a1 a2 : Option Addr) (n1 n2 c1 c2 : Nat) (w : World) :
  Calls Tryz.prog 142 #[.agg (st9 k nm (ex5 op t b enm es) (.slice a1 n1 c1) (.slice a2 n2 c2)).toArray] w fun r w' => r = .returned (.bool (decide (n1 = 0) && decide (n2 = 0))) ∧ Below w.heap.size w w' := by
 go_enter Tryz.func142, Tryz.ntmps142
 go_wp2_with (first
  | ((with_reducible show wpList _ _ _ _ _ _); refine wpList_box_at rfl 87 (.tmp 0) rfl (st9 k nm (ex5 op t b enm es) (.slice a1 n1 c1) (.slice a2 n2 c2)) rfl ?_; intro w1 hA1 hb1 hs1; clear hs1; refine Hid.out ?_))
 refine hidU ?_
 obtain ⟨-, -, -, -, -, -, -, q7, q8⟩ := st_cells hA1
 clear hA1
 by_cases h1 : n1 = 0
 ·subst h1
  by_cases h2 : n2 = 0
  ·subst h2
   go_wp2
   go_ret
   exact ⟨rfl, hb1⟩
  ·have e2 : ((n2 : Int) == 0) = false := by rw [beq_eq_false_iff_ne]; omega
   have d2 : decide (n2 = 0) = false := decide_eq_false h2
   clear h2
   go_wp2
   go_ret
   exact ⟨rfl, hb1⟩
 ·have e1 : ((n1 : Int) == 0) = false := by rw [beq_eq_false_iff_ne]; omega
  have d1 : decide (n1 = 0) = false := decide_eq_false h1
  clear h1
  go_wp2
  go_ret
  exact ⟨by rw [d1]; rfl, hb1⟩

set_option maxRecDepth 100000 in
set_option maxHeartbeats 1600000 in
theorem noExpr_any (B : Nat) (e : ET) (w : World) (hin : e.In B w) (hBw : B ≤ w.heap.size) :
  Calls Tryz.prog 143 #[.agg e.cells.toArray] w fun r w' => r = .returned (.bool (samX e.ex noE)) ∧ Below w.heap.size w w' := by
 have hS := sameExpr_any B (SizeOf.sizeOf e + 1) e (by omega) (.mk 0 0 0 ⟨#[]⟩ none 0 [])
 have hz : ∀ w, (ET.mk 0 0 0 ⟨#[]⟩ none 0 []).In B w := fun w => by
  unfold ET.In
  exact ⟨by decide, by decide, by decide, by simp, by simp, .inl rfl⟩
 have hx : samX e.ex (ET.mk 0 0 0 ⟨#[]⟩ none 0 []).ex = samX e.ex noE := rfl
 rw [hx] at hS
 obtain ⟨R, hR⟩ : ∃ R, Hid (R = samX e.ex noE) := ⟨_, (rfl : samX e.ex noE = _)⟩
 rw [← hR.out] at hS ⊢
 have HI : Hid (e.In B w) := hin
 clear hin hx
 go_enter Tryz.func143, Tryz.ntmps143
 go_wp2_with (first
  | ((with_reducible show wpList _ _ _ _ _ _); refine wpList_box_at rfl 34 (.tmp 0) rfl e.cells rfl ?_; intro w1 hA1 hb1 hs1; clear hs1)
  | ((with_reducible show wpList _ _ _ _ _ _); refine wpList_load_at (P := Tryz.prog) rfl 34 (.tmp 1) rfl w.heap.size rfl 34 e.cells hA1 _ Tryz.underlying34 rfl (by rw [ET.cells_len]; exact i29) ?_))
 refine (hS w1 (HI.out.old (Old.of_below hb1 hBw)) (hz w1) (by have := hb1.size; omega)).mono ?_
 rintro r w2 ⟨rfl, hb2⟩
 go_wp2
 go_ret
 exact ⟨rfl, hb1.trans (hb2.mono hb1.size)⟩

end Go.Proofs.YtcmahiphfpgadaaGreatDoor

/- Whether statements may be printed. -/
namespace Go.Proofs.YtcmahiphfpgadaaGreatDoor
open Go.RowKit
set_option linter.unusedVariables false

/-- What asking whether a statement may be printed does. -/
def MayW (B : Nat) (s : ST) : Prop := ∀ (d : Nat) (w : World), d ≤ 32 → s.In B w → B ≤ w.heap.size → Tab w → gB ≤ w.heap.size →
  Calls Tryz.prog 124 #[.agg s.cells.toArray, .int .i64 (d : Int)] w fun r w' => r = .returned (.bool (mayS d s.st)) ∧ Below w.heap.size w w'

set_option maxRecDepth 100000 in
set_option maxHeartbeats 3200000 in
theorem mayBlock_of (B : Nat) (ss : List ST) (hS : ∀ s ∈ ss, MayW B s) (d : Nat) (hd : d ≤ 33) (a : Option Addr) (c : Nat) (w : World) (hr : RowS B w a c ss) (hBw : B ≤ w.heap.size) (hT : Tab w) (h16 : gB ≤ w.heap.size) :
  Calls Tryz.prog 97 #[.slice a ss.length c, .int .i64 (d : Int)] w fun r w' => r = .returned (.bool (mayB d (ss.map ST.st))) ∧ Below w.heap.size w w' := by
 obtain ⟨R, hR⟩ : ∃ R, Hid (R = mayB d (ss.map ST.st)) := ⟨_, (rfl : _ = mayB _ _)⟩
 rw [← hR.out]
 obtain ⟨n, hn⟩ : ∃ n, Hid (n = ss.length) := ⟨_, (rfl : ss.length = _)⟩
 have hl := hr.1
 have hk := hr.2.1
 rw [← hn.out] at hl hk ⊢
 have HS : Hid (∀ s ∈ ss, MayW B s) := hS
 have HR : Hid (RowS B w a c ss) := hr
 clear hS hr
 go_enter Tryz.func97, Tryz.ntmps97
 go_wp2_with fail
 go_loopw [9] (fun j wr => ∃ i : Nat, j = .int .i64 (i : Int) ∧ i ≤ n ∧ Hid (Below w.heap.size w wr ∧ (i = 0 ∨ d ≤ 32) ∧ ∀ s ∈ (ss.take i).map ST.st, mayS d s = true)) (fun j _ => n - (intOf j).toNat)
 case atStart => exact ⟨0, rfl, by omega, Below.refl _ _, .inl rfl, by simp⟩
 case round =>
  obtain ⟨i, rfl, hi, hX⟩ := hrel
  by_cases hc : i < n
  ·obtain ⟨s, hs⟩ : ∃ k, ss[i]? = some k := ⟨ss[i]'(by rw [← hn.out]; exact hc), by rw [List.getElem?_eq_getElem]⟩
   obtain ⟨hbw, hd0, hall⟩ := hX.out
   have hold : Old B w wr := Old.of_below hbw hBw
   obtain ⟨g1, o1, rfl, hg1, hr1, hs1⟩ := (HR.out.old hold).at i s hs
   have HK : Hid (s.In B wr ∧ B ≤ wr.heap.size ∧ Tab wr ∧ gB ≤ wr.heap.size) := ⟨hs1, by have := hbw.size; omega, hT.below hbw h16, by have := hbw.size; omega⟩
   clear hX hs1 hold HR
   go_wp2_with (first
    | ((with_reducible show wpList _ _ _ _ _ _); refine wpList_load_mid (P := Tryz.prog) rfl 87 (.tmp 11) rfl g1 (o1 + i * 9) (by first | rfl | (simp; done)) s.cells _ hr1 Tryz.underlying87 rfl (by rw [ST.cells_len]; exact i38) ?_)
    | ((with_reducible show wpList _ _ _ _ _ _); refine wpList_alloc_at rfl 87 rfl _ 9 z38 ?_; intro w2 hA2 hb2 hs2)
    | ((with_reducible show wpList _ _ _ _ _ _); refine wpList_store_at (P := Tryz.prog) rfl 87 (.tmp 6) (.tmp 12) rfl wr.heap.size s.cells rfl rfl 87 _ hA2 (by rw [ST.cells_len]; exact i38) (by rw [ST.cells_len]; rfl) s.one ?_; intro w3 hA3 hb3 hs3; refine Hid.out ?_))
   refine hidU ?_
   have hB3 : Below wr.heap.size wr w3 := hb3.below hb2 (Nat.le_refl _) (by omega)
   have hw3 : Below w.heap.size w w3 := hbw.trans (hB3.mono hbw.size)
   obtain ⟨p1, p2, p3, p4⟩ := HK.out
   have hI : d ≤ 32 → Calls Tryz.prog 124 #[.agg s.cells.toArray, .int .i64 (d : Int)] w3 fun r w' => r = .returned (.bool (mayS d s.st)) ∧ Below w3.heap.size w3 w' := fun h => HS.out s (List.mem_of_getElem? hs) d w3 h (p1.old (Old.of_below hB3 p2)) (by have := hB3.size; omega) (p3.below hB3 p4) (by have := hB3.size; omega)
   have hA3' := hA3
   clear hb3 hb2 hA2 hr1 hs2 hs3 p1 p2 p3 p4 HK HS hA3 hB3 hbw
   by_cases hd32 : d ≤ 32
   ·have hI := hI hd32
    have hgt : ¬ (32 : Int) < (d : Int) := by omega
    cases s with
    | mk k nm e a1 c1 body a2 c2 els =>
    cases e with
    | mk op t b enm ea ec eks =>
    obtain ⟨n1, hn1⟩ : ∃ n, Hid (n = body.length) := ⟨_, (rfl : body.length = _)⟩
    obtain ⟨n2, hn2⟩ : ∃ n, Hid (n = els.length) := ⟨_, (rfl : els.length = _)⟩
    obtain ⟨n3, hn3⟩ : ∃ n, Hid (n = eks.length) := ⟨_, (rfl : eks.length = _)⟩
    have hA4 : At 87 w3 wr.heap.size (st9 k nm (ex5 op t b enm (.slice ea n3 ec)) (.slice a1 n1 c1) (.slice a2 n2 c2)) := by rw [hn1.out, hn2.out, hn3.out]; exact hA3'
    have hI' : Calls Tryz.prog 124 #[.agg (st9 k nm (ex5 op t b enm (.slice ea n3 ec)) (.slice a1 n1 c1) (.slice a2 n2 c2)).toArray, .int .i64 (d : Int)] w3 fun r w' => r = .returned (.bool (mayS d (ST.mk k nm (ET.mk op t b enm ea ec eks) a1 c1 body a2 c2 els).st)) ∧ Below w3.heap.size w3 w' := by rw [hn1.out, hn2.out, hn3.out]; exact hI
    obtain ⟨q0, q1, q2, q3, q4, q5, q6, q7, q8⟩ := st_cells hA4
    obtain ⟨M, hM⟩ : ∃ M, Hid (M = mayS d (ST.mk k nm (ET.mk op t b enm ea ec eks) a1 c1 body a2 c2 els).st) := ⟨_, (rfl : _ = mayS _ _)⟩
    rw [← hM.out] at hI'
    clear hI hA3' hA4
    go_wp2_with fail
    refine hI'.mono ?_
    rintro r w6 ⟨rfl, hb6⟩
    have hw6 : Below w.heap.size w w6 := hw3.trans (hb6.mono hw3.size)
    clear hI' hb6 hw3 q0 q1 q2 q3 q4 q5 q6 q7 q8
    cases M with
    | false =>
     have hRf : R = false := by
      rw [hR.out, Bool.eq_false_iff]
      intro h
      have := ((mayB_iff d _).1 h).2 _ (List.mem_map.2 ⟨_, List.mem_of_getElem? hs, rfl⟩)
      rw [← hM.out] at this
      cases this
     go_wp2
     go_ret
     exact ⟨by rw [hRf]; rfl, hw6⟩
    | true =>
     go_wp2
     go_roundw
     case rel =>
      refine ⟨i + 1, by go_num, by omega, hw6, .inr hd32, fun x hx => ?_⟩
      rw [List.take_add_one, hs, List.map_append, List.mem_append] at hx
      rcases hx with hx | hx
      ·exact hall x hx
      ·simp at hx; rw [hx]; exact hM.out.symm
     case measure => simp [intOf]; omega
   ·have hgt : (32 : Int) < (d : Int) := by omega
    have hRf : R = false := by
     rw [hR.out, Bool.eq_false_iff]
     intro h
     rcases ((mayB_iff d _).1 h).1 with h | h
     ·have := congrArg List.length h
      rw [List.length_map, ← hn.out] at this
      simp at this
      omega
     ·exact hd32 h
    clear hI hA3'
    go_wp2_with fail
    go_ret
    exact ⟨by rw [hRf]; rfl, hw3⟩
  ·have hin : i = n := by omega
   obtain ⟨hbw, hd0, hall⟩ := hX.out
   have hRt : R = true := by
    rw [hR.out, mayB_iff]
    refine ⟨?_, fun s hs => hall s (by rw [hin, hn.out, List.take_length]; exact hs)⟩
    rcases hd0 with h | h
    ·left
     apply List.length_eq_zero_iff.1
     rw [List.length_map, ← hn.out]
     omega
    ·exact .inr h
   clear hX hall hin HR HS
   go_wp2
   go_ret
   exact ⟨by rw [hRt]; rfl, hbw⟩

end Go.Proofs.YtcmahiphfpgadaaGreatDoor
