/- Joined texts of the proof. -/
import Derived.Test.YtcmahiphfpgadaaGreatDoorJ12
import Derived.Test.YtcmahiphfpgadaaGreatDoorJ10
import Derived.Test.YtcmahiphfpgadaaGreatDoorJ9
import Derived.Test.YtcmahiphfpgadaaGreatDoorJ5
import Derived.Test.YtcmahiphfpgadaaGreatDoorJ8
import Derived.ProofKit
import Derived.OpenShut
import Derived.Deep.Slices
import Derived.Lib.ItoaLen

/- What is written over keeps its form. -/
namespace Go.Proofs.YtcmahiphfpgadaaGreatDoor
open Go.RowKit
set_option linter.unusedVariables false

/-- One cell may stand in the place of the other: the same, a number for a number of its kind, or a text of at most K bytes more. -/
def Kin (K : Nat) (u v : Value) : Prop := v = u ∨ (∃ k a b, u = .int k a ∧ v = .int k b) ∨ ∃ s t : ByteArray, u = .string s ∧ v = .string t ∧ t.size ≤ s.size + K
theorem Kin.mono {K L : Nat} (h : K ≤ L) {u v : Value} (k : Kin K u v) : Kin L u v := by
  rcases k with k | k | ⟨s, t, h1, h2, h3⟩
  · exact .inl k
  · exact .inr (.inl k)
  · exact .inr (.inr ⟨s, t, h1, h2, by omega⟩)
theorem Kin.slice {K : Nat} {a : Option Addr} {n c : Nat} {v : Value} (k : Kin K (.slice a n c) v) : v = .slice a n c := by
  rcases k with k | ⟨_, _, _, h, _⟩ | ⟨_, _, h, _⟩
  · exact k
  · cases h
  · cases h
theorem Kin.int {K : Nat} {i : IntKind} {a : Int} {v : Value} (k : Kin K (.int i a) v) : ∃ b, v = .int i b := by
  rcases k with k | ⟨_, _, b, h, h'⟩ | ⟨_, _, h, _⟩
  · exact ⟨a, k⟩
  · cases h
    exact ⟨b, h'⟩
  · cases h
theorem Kin.str {K : Nat} {s : ByteArray} {v : Value} (k : Kin K (.string s) v) : ∃ t, v = .string t ∧ t.size ≤ s.size + K := by
  rcases k with k | ⟨_, _, _, h, _⟩ | ⟨_, t, h, h1, h2⟩
  · exact ⟨s, k, by omega⟩
  · cases h
  · cases h
    exact ⟨t, h1, h2⟩

/-- From A on all stands as it was but for numbers and texts; below A all stands. -/
structure Ov (A K : Nat) (w0 w : World) : Prop where
  bel : Below A w0 w
  soft : ∀ g, Fr A w0 g → Soft w g
  cell : ∀ g o u, Fr A w0 g → w0.cell? ⟨g, o, none⟩ = some u → ∃ v, w.cell? ⟨g, o, none⟩ = some v ∧ Kin K u v
theorem Ov.refl (A : Nat) (w : World) : Ov A 0 w w := ⟨Below.refl _ _, fun _ f => f.2, fun _ _ u _ h => ⟨u, h, .inl rfl⟩⟩
theorem Ov.mono {A K L : Nat} {w0 w : World} (h : K ≤ L) (k : Ov A K w0 w) : Ov A L w0 w :=
  ⟨k.bel, k.soft, fun g o u f hu => by obtain ⟨v, h1, h2⟩ := k.cell g o u f hu; exact ⟨v, h1, h2.mono h⟩⟩
section
variable {A K : Nat} {w0 w : World} {g : Nat}
theorem Ov.frozen (k : Ov A K w0 w) (f : Fr A w0 g) (o : Nat) : w.frozen? ⟨g, o, none⟩ = false := by
  obtain ⟨t, cs, hA⟩ := k.soft g f
  exact hA.frozen o
theorem Ov.lt (k : Ov A K w0 w) (f : Fr A w0 g) : g < w.heap.size := by
  obtain ⟨t, cs, hA⟩ := k.soft g f
  exact hA.lt
theorem Ov.slice (k : Ov A K w0 w) (f : Fr A w0 g) {o : Nat} {a : Option Addr} {n c : Nat} (h : w0.cell? ⟨g, o, none⟩ = some (.slice a n c)) : w.cell? ⟨g, o, none⟩ = some (.slice a n c) := by
  obtain ⟨v, h1, h2⟩ := k.cell g o _ f h
  rw [h1, h2.slice]
theorem Ov.int (k : Ov A K w0 w) (f : Fr A w0 g) {o : Nat} {i : IntKind} {a : Int} (h : w0.cell? ⟨g, o, none⟩ = some (.int i a)) : ∃ b, w.cell? ⟨g, o, none⟩ = some (.int i b) := by
  obtain ⟨v, h1, h2⟩ := k.cell g o _ f h
  obtain ⟨b, rfl⟩ := h2.int
  exact ⟨b, h1⟩
theorem Ov.str (k : Ov A K w0 w) (f : Fr A w0 g) {o : Nat} {s : ByteArray} (h : w0.cell? ⟨g, o, none⟩ = some (.string s)) : ∃ t : ByteArray, w.cell? ⟨g, o, none⟩ = some (.string t) ∧ t.size ≤ s.size + K := by
  obtain ⟨v, h1, h2⟩ := k.cell g o _ f h
  obtain ⟨t, rfl, h3⟩ := h2.str
  exact ⟨t, h1, h3⟩
theorem Ov.set (k : Ov A K w0 w) (f : Fr A w0 g) {o : Nat} {u v : Value} (hu : w0.cell? ⟨g, o, none⟩ = some u) (hk : Kin K u v) : Ov A K w0 (w.setCell ⟨g, o, none⟩ v) := by
  have hb : But g w (w.setCell ⟨g, o, none⟩ v) := (But.refl g w).setCell o v
  obtain ⟨t, cs, hA⟩ := k.soft g f
  have hl := hA.lt
  have f1 := f.1
  have hA' := hA.set o v
  refine ⟨hb.below k.bel f.1 (by omega), fun g' f' => ?_, fun g' o' u' f' hu' => ?_⟩
  · by_cases e : g' = g
    · subst e
      exact ⟨t, _, hA'⟩
    · exact (k.soft g' f').keep (hb.block g' (k.lt f') e)
  · by_cases e : g' = g
    · subst e
      by_cases e2 : o' = o
      · subst e2
        rw [hu] at hu'
        cases hu'
        obtain ⟨v0, h1, -⟩ := k.cell g' o' u f hu
        rw [hA.cell] at h1
        have h3 := (List.getElem?_eq_some_iff.1 h1).1
        refine ⟨v, ?_, hk⟩
        rw [hA'.cell, List.getElem?_set_self h3]
      · obtain ⟨v0, h1, h2⟩ := k.cell g' o' u' f hu'
        refine ⟨v0, ?_, h2⟩
        rw [hA'.cell, List.getElem?_set_ne (by omega), ← hA.cell]
        exact h1
    · obtain ⟨v0, h1, h2⟩ := k.cell g' o' u' f' hu'
      refine ⟨v0, ?_, h2⟩
      rw [World.cell?_of_block (w := w) (hb.block g' (k.lt f') e)]
      exact h1
end
theorem ET.LiesL.mem {S : Nat → Prop} : ∀ {l : List ET}, ET.LiesL S l → ∀ e ∈ l, e.Lies S
  | [], _, e, h => by cases h
  | x :: r, k, e, h => by
    unfold ET.LiesL at k
    rcases List.mem_cons.1 h with rfl | h
    · exact k.1
    · exact ET.LiesL.mem k.2 e h
theorem ST.LiesL.mem {S : Nat → Prop} : ∀ {l : List ST}, ST.LiesL S l → ∀ e ∈ l, e.Lies S
  | [], _, e, h => by cases h
  | x :: r, k, e, h => by
    unfold ST.LiesL at k
    rcases List.mem_cons.1 h with rfl | h
    · exact k.1
    · exact ST.LiesL.mem k.2 e h
theorem exWs_take_succ : ∀ (ks : List Ex) (i : Nat) (k : Ex), ks[i]? = some k → exWs (ks.take (i + 1)) = exWs (ks.take i) + exW k
  | [], i, k, h => by simp at h
  | e :: r, 0, k, h => by
    simp at h
    subst h
    simp [exWs]
  | e :: r, i + 1, k, h => by
    have := exWs_take_succ r i k (by simpa using h)
    simp only [List.take_succ_cons, exWs]
    omega
theorem exWs_take_le : ∀ (ks : List Ex) (i : Nat), exWs (ks.take i) ≤ exWs ks
  | [], i => by simp
  | e :: r, 0 => by simp [exWs]
  | e :: r, i + 1 => by
    have := exWs_take_le r i
    simp only [List.take_succ_cons, exWs]
    omega
theorem stWs_take_succ : ∀ (ks : List St) (i : Nat) (k : St), ks[i]? = some k → stWs (ks.take (i + 1)) = stWs (ks.take i) + stW k
  | [], i, k, h => by simp at h
  | e :: r, 0, k, h => by
    simp at h
    subst h
    simp [stWs]
  | e :: r, i + 1, k, h => by
    have := stWs_take_succ r i k (by simpa using h)
    simp only [List.take_succ_cons, stWs]
    omega
theorem stWs_take_le : ∀ (ks : List St) (i : Nat), stWs (ks.take i) ≤ stWs ks
  | [], i => by simp
  | e :: r, 0 => by simp [stWs]
  | e :: r, i + 1 => by
    have := stWs_take_le r i
    simp only [List.take_succ_cons, stWs]
    omega
theorem wpList_store_u8 {ops : Array Oper} {rest : List Oper} {o : Oper} {a : Act} {w : World} {Q : Exit → Act → World → Prop} (hgd : o.guard = none) (x y : Operand) (ho : o.op = .store 27 x y) (g off : Nat) (n : Int)
    (hx : a.eval x = .pointer (some ⟨g, off, none⟩)) (hy : a.eval y = .int .u8 n) (u : Value) (r : w.cell? ⟨g, off, none⟩ = some u) (f : w.frozen? ⟨g, off, none⟩ = false)
    (h : wpList Tryz.prog ops Q rest (a.put o.dst undef) (w.setCell ⟨g, off, none⟩ (.int .u8 n))) : wpList Tryz.prog ops Q (o :: rest) a w := by
  refine wpList_plain hgd fun K hK => ?_
  have hH := hK _ _ h
  clear hK h
  unfold Oper.wp execOp
  simp only [ho, hx, hy]
  go_simp
  exact hH
theorem wpList_store_i64 {ops : Array Oper} {rest : List Oper} {o : Oper} {a : Act} {w : World} {Q : Exit → Act → World → Prop} (hgd : o.guard = none) (x y : Operand) (ho : o.op = .store 3 x y) (g off : Nat) (n : Int)
    (hx : a.eval x = .pointer (some ⟨g, off, none⟩)) (hy : a.eval y = .int .i64 n) (u : Value) (r : w.cell? ⟨g, off, none⟩ = some u) (f : w.frozen? ⟨g, off, none⟩ = false)
    (h : wpList Tryz.prog ops Q rest (a.put o.dst undef) (w.setCell ⟨g, off, none⟩ (.int .i64 n))) : wpList Tryz.prog ops Q (o :: rest) a w := by
  refine wpList_plain hgd fun K hK => ?_
  have hH := hK _ _ h
  clear hK h
  unfold Oper.wp execOp
  simp only [ho, hx, hy]
  go_simp
  exact hH
theorem wpList_store_str {ops : Array Oper} {rest : List Oper} {o : Oper} {a : Act} {w : World} {Q : Exit → Act → World → Prop} (hgd : o.guard = none) (x y : Operand) (ho : o.op = .store 9 x y) (g off : Nat) (s : ByteArray)
    (hx : a.eval x = .pointer (some ⟨g, off, none⟩)) (hy : a.eval y = .string s) (u : Value) (r : w.cell? ⟨g, off, none⟩ = some u) (f : w.frozen? ⟨g, off, none⟩ = false)
    (h : wpList Tryz.prog ops Q rest (a.put o.dst undef) (w.setCell ⟨g, off, none⟩ (.string s))) : wpList Tryz.prog ops Q (o :: rest) a w := by
  refine wpList_plain hgd fun K hK => ?_
  have hH := hK _ _ h
  clear hK h
  unfold Oper.wp execOp
  simp only [ho, hx, hy]
  go_simp
  exact hH

end Go.Proofs.YtcmahiphfpgadaaGreatDoor

/- The document's own writing over of an expression. -/
namespace Go.Proofs.YtcmahiphfpgadaaGreatDoor
open Go.RowKit
set_option linter.unusedVariables false

/-- An expression is written over. -/
def OvEW (A B : Nat) (w0 : World) (x : ET) : Prop := ∀ g o K w, x.In B w0 → x.Lies (Fr A w0) → w0.rangeAt g o x.cells → Fr A w0 g → Ov A K w0 w → K + exW x.ex ≤ 281474976710656 → Calls Tryz.prog 94 #[.pointer (some ⟨g, o, none⟩)] w fun r w' => r = .returned (.tuple #[]) ∧ Ov A (K + exW x.ex) w0 w'

set_option maxRecDepth 100000 in
set_option maxHeartbeats 3200000 in
theorem overExpr_of (A B : Nat) (w0 : World) (op t b : Nat) (nm : ByteArray) (a : Option Addr) (c : Nat) (ks : List ET) (hS : ∀ k ∈ ks, OvEW A B w0 k) : OvEW A B w0 (.mk op t b nm a c ks) := by
  intro g o K w hin hli hr hf hov hK
  have eW : exW (ET.mk op t b nm a c ks).ex = nm.data.toList.length + 1 + exWs (ks.map ET.ex) := by
    show exW (Ex.mk op t b nm.data.toList (ET.exs ks)) = _
    rw [exW, ET.exs_eq]
  rw [eW] at hK ⊢
  have esz : nm.size = nm.data.toList.length := by rw [Array.length_toList]; rfl
  unfold ET.In at hin
  obtain ⟨-, -, -, x1, x2, x3⟩ := hin
  unfold ET.Lies at hli
  obtain ⟨n, hn⟩ : ∃ n, Hid (n = ks.length) := ⟨_, (rfl : ks.length = _)⟩
  obtain ⟨c0, c1, c2, c3, c4⟩ := ex_mid (s := .slice a ks.length c) hr
  obtain ⟨M, hM⟩ : ∃ M, Hid (M = exWs (ks.map ET.ex)) := ⟨_, (rfl : exWs (ks.map ET.ex) = _)⟩
  obtain ⟨Z, hZ⟩ : ∃ Z, Hid (Z = nm.data.toList.length) := ⟨_, (rfl : nm.data.toList.length = _)⟩
  have HR : Hid (RowE B w0 a c ks) := ⟨x1, x2, x3⟩
  rw [← hn.out] at x1 x2 c4
  rw [← hM.out, ← hZ.out] at hK ⊢
  have HC : Hid (w0.cell? ⟨g, o, none⟩ = some (.int .u8 (op : Int)) ∧ w0.cell? ⟨g, o + 3, none⟩ = some (.string nm) ∧ w0.cell? ⟨g, o + 4, none⟩ = some (.slice a n c)) := ⟨c0, c3, c4⟩
  have HN : Hid (nm.size = Z) := by show nm.size = Z; rw [hZ.out]; exact esz
  have HS : Hid (∀ k ∈ ks, OvEW A B w0 k) := hS
  have HL : Hid ((ks = [] ∨ ∃ g o, a = some ⟨g, o, none⟩ ∧ Fr A w0 g) ∧ ET.LiesL (Fr A w0) ks) := hli
  have HV : Hid (Ov A K w0 w) := hov
  have HF : Hid (Fr A w0 g) := hf
  clear hS hli hr c0 c1 c2 c3 c4 x3 hov hf esz eW
  go_enter Tryz.func94, Tryz.ntmps94
  go_wp2_with fail
  go_loopw [2] (fun j wr => ∃ i : Nat, j = .int .i64 (i : Int) ∧ i ≤ n ∧ Ov A (K + exWs ((ks.map ET.ex).take i)) w0 wr) (fun j _ => n - (intOf j).toNat)
  case atStart => exact ⟨0, rfl, Nat.zero_le _, HV.out.mono (by omega)⟩
  case round =>
    obtain ⟨i, rfl, hi, hv⟩ := hrel
    have r4 := hv.slice HF.out HC.out.2.2
    have HV2 : Hid (Ov A (K + exWs ((ks.map ET.ex).take i)) w0 wr) := hv
    clear hv HV
    by_cases hc : i < n
    · obtain ⟨x, hx⟩ : ∃ k, ks[i]? = some k := ⟨ks[i]'(by rw [← hn.out]; exact hc), by rw [List.getElem?_eq_getElem]⟩
      obtain ⟨g1, o1, rfl, hg1, hr1, hx1⟩ := HR.out.at i x hx
      have hm := List.mem_of_getElem? hx
      have hg1 : Fr A w0 g1 := by
        rcases HL.out.1 with q | ⟨g', o', e', q⟩
        · rw [q] at hm; cases hm
        · cases e'; exact q
      have e3 := exWs_take_succ (ks.map ET.ex) i x.ex (by rw [List.getElem?_map, hx]; rfl)
      have e4 := exWs_take_le (ks.map ET.ex) (i + 1)
      have hC := HS.out x hm g1 (o1 + i * 5) _ wr hx1 (HL.out.2.mem x hm) hr1 hg1 HV2.out (by rw [Nat.add_assoc, ← e3]; have := hM.out; omega)
      rw [Nat.add_assoc, ← e3] at hC
      clear e3 e4 hr1 hx1 hx hm
      go_wp2_with (go_at_call 94; refine hC.mono ?_; rintro e w1 ⟨rfl, hv1⟩)
      have HV3 : Hid (Ov A (K + exWs ((ks.map ET.ex).take (i + 1))) w0 w1) := hv1
      clear hv1 hC
      go_wp2_with fail
      go_roundw
      case rel => exact ⟨i + 1, by go_num, by omega, HV3.out⟩
      case measure => simp [intOf]; omega
    · have hin : i = n := by omega
      have HV3 : Hid (Ov A (K + M) w0 wr) := by
        have := HV2.out
        rw [hin, hn.out, List.take_of_length_le (by simp), ← hM.out] at this
        exact this
      obtain ⟨b0, r0⟩ := HV3.out.int HF.out HC.out.1
      have f0 := HV3.out.frozen HF.out o
      clear HS HR HL HV2
      go_wp2_with (first
        | ((with_reducible show wpList _ _ _ _ _ _); refine wpList_store_u8 rfl (.tmp 26) (.tmp 24) rfl g o _ rfl rfl _ r0 f0 ?_; refine Hid.out ?_))
      refine hidU ?_
      generalize hw2 : wr.setCell ⟨g, o, none⟩ _ = w2
      have HV4 : Hid (Ov A (K + M) w0 w2) := by
        rw [← hw2]
        exact HV3.out.set HF.out HC.out.1 (.inr (.inl ⟨_, _, _, rfl, rfl⟩))
      clear hw2
      obtain ⟨s, r3, hs⟩ := HV4.out.str HF.out HC.out.2.1
      have f3 := HV4.out.frozen HF.out (o + 3)
      rw [HN.out] at hs
      clear r0 f0 HV3 r4
      have hs1 : s.size + 1 ≤ 9223372036854775807 := by omega
      go_wp2_with (first
        | ((with_reducible show wpList _ _ _ _ _ _); refine wpList_store_str rfl (.tmp 34) (.tmp 32) rfl g (o + 3) _ rfl rfl _ r3 f3 ?_; refine Hid.out ?_))
      all_goals first
        | (exfalso; omega)
        | skip
      refine hidU ?_
      go_wp2_with fail
      go_end0
      refine ⟨rfl, ((HV4.out.mono (L := K + (Z + 1 + M)) (by omega)).set HF.out HC.out.2.1 (.inr (.inr ⟨_, _, rfl, rfl, ?_⟩)))⟩
      rw [ByteArray.size_append', HN.out]
      have e1 : (⟨#[33]⟩ : ByteArray).size = 1 := rfl
      omega

theorem overExpr_any (A B : Nat) (w0 : World) (M : Nat) : ∀ x : ET, SizeOf.sizeOf x < M → OvEW A B w0 x := by
  induction M with
  | zero => intro x h; omega
  | succ M ih =>
    rintro ⟨op, t, b, nm, a, c, ks⟩ hN
    exact overExpr_of A B w0 op t b nm a c ks fun k hk => ih k (by have := ET.sz (op := op) (t := t) (b := b) (c := c) (nm := nm) (a := a) hk; omega)

end Go.Proofs.YtcmahiphfpgadaaGreatDoor

/- The document's own writing over of statements. -/
namespace Go.Proofs.YtcmahiphfpgadaaGreatDoor
open Go.RowKit
set_option linter.unusedVariables false

/-- Statements are written over. -/
def OvSW (A B : Nat) (w0 : World) (xs : List ST) : Prop := ∀ a c K w, RowS B w0 a c xs → (xs = [] ∨ ∃ g o, a = some ⟨g, o, none⟩ ∧ Fr A w0 g) → ST.LiesL (Fr A w0) xs → Ov A K w0 w → K + stWs (xs.map ST.st) ≤ 281474976710656 → Calls Tryz.prog 63 #[.slice a xs.length c] w fun r w' => r = .returned (.tuple #[]) ∧ Ov A (K + stWs (xs.map ST.st)) w0 w'

theorem range_sub {w : World} {g o m : Nat} {cs ds : List Value} (h : w.rangeAt g o cs) (hs : ∀ j v, ds[j]? = some v → cs[m + j]? = some v) : w.rangeAt g (o + m) ds := fun j v hj => by
  have := h (m + j) v (hs j v hj)
  rw [Nat.add_assoc]
  exact this

theorem st_expr {w : World} {g o : Nat} {k : Int} {nm : ByteArray} {e : ET} {a1 : Option Addr} {c1 : Nat} {b1 : List ST} {a2 : Option Addr} {c2 : Nat} {b2 : List ST} (h : w.rangeAt g o (ST.mk k nm e a1 c1 b1 a2 c2 b2).cells) : w.rangeAt g (o + 2) e.cells := by
  refine range_sub h fun j v hj => ?_
  show (Value.int .i64 k :: .string nm :: (e.cells ++ [.slice a1 b1.length c1, .slice a2 b2.length c2]))[2 + j]? = some v
  have hl : j < e.cells.length := (List.getElem?_eq_some_iff.1 hj).1
  rw [show 2 + j = j + 1 + 1 by omega, List.getElem?_cons_succ, List.getElem?_cons_succ, List.getElem?_append_left hl]
  exact hj

set_option maxRecDepth 100000 in
set_option maxHeartbeats 6400000 in
theorem overStmts_of (A B : Nat) (w0 : World) (xs : List ST) (hS : ∀ k nm e a1 c1 b1 a2 c2 b2, ST.mk k nm e a1 c1 b1 a2 c2 b2 ∈ xs → OvSW A B w0 b1 ∧ OvSW A B w0 b2) : OvSW A B w0 xs := by
  intro a c K w hrow hat hli hov hK
  obtain ⟨n, hn⟩ : ∃ n, Hid (n = xs.length) := ⟨_, (rfl : xs.length = _)⟩
  have hl := hrow.1
  have hk := hrow.2.1
  obtain ⟨M, hM⟩ : ∃ M, Hid (M = stWs (xs.map ST.st)) := ⟨_, (rfl : stWs (xs.map ST.st) = _)⟩
  rw [← hn.out] at hl hk ⊢
  rw [← hM.out] at hK ⊢
  have HS : Hid _ := hS
  have HR : Hid (RowS B w0 a c xs) := hrow
  have HT : Hid (xs = [] ∨ ∃ g o, a = some ⟨g, o, none⟩ ∧ Fr A w0 g) := hat
  have HL : Hid (ST.LiesL (Fr A w0) xs) := hli
  have HV : Hid (Ov A K w0 w) := hov
  clear hS hrow hat hli hov
  go_enter Tryz.func63, Tryz.ntmps63
  go_wp2_with fail
  go_loopw [2] (fun j wr => ∃ i : Nat, j = .int .i64 (i : Int) ∧ i ≤ n ∧ Ov A (K + stWs ((xs.map ST.st).take i)) w0 wr) (fun j _ => n - (intOf j).toNat)
  case atStart => exact ⟨0, rfl, Nat.zero_le _, HV.out.mono (by omega)⟩
  case round =>
    obtain ⟨i, rfl, hi, hv⟩ := hrel
    have HV2 : Hid (Ov A (K + stWs ((xs.map ST.st).take i)) w0 wr) := hv
    clear hv HV
    by_cases hc : i < n
    · obtain ⟨x, hx⟩ : ∃ k, xs[i]? = some k := ⟨xs[i]'(by rw [← hn.out]; exact hc), by rw [List.getElem?_eq_getElem]⟩
      obtain ⟨g1, o1, rfl, -, hr1, hx1⟩ := HR.out.at i x hx
      have hm := List.mem_of_getElem? hx
      have hg1 : Fr A w0 g1 := by
        rcases HT.out with q | ⟨g', o', e', q⟩
        · rw [q] at hm; cases hm
        · cases e'; exact q
      have e3 := stWs_take_succ (xs.map ST.st) i x.st (by rw [List.getElem?_map, hx]; rfl)
      have e4 := stWs_take_le (xs.map ST.st) (i + 1)
      rw [← hM.out] at e4
      have hlx := HL.out.mem x hm
      obtain ⟨k, nm, ⟨op, t, b, enm, ea, ec, eks⟩, a1, c1, b1, a2, c2, b2⟩ := x
      obtain ⟨s1, s2⟩ := HS.out _ _ _ _ _ _ _ _ _ hm
      unfold ST.In at hx1
      obtain ⟨v1, v2, v3, v4⟩ := hx1
      unfold ST.Lies at hlx
      obtain ⟨l0, ⟨l1, l1'⟩, l2, l2'⟩ := hlx
      obtain ⟨q0, q1, q2, q3, q4, q5, q6, q7, q8⟩ := st_mid hr1
      have hre := st_expr hr1
      obtain ⟨K0, hK0⟩ : ∃ K0, Hid (K0 = K + stWs ((xs.map ST.st).take i)) := ⟨_, (rfl : K + stWs ((xs.map ST.st).take i) = _)⟩
      obtain ⟨W0, hW0⟩ : ∃ W0, W0 = exW (ET.mk op t b enm ea ec eks).ex := ⟨_, rfl⟩
      obtain ⟨W1, hW1⟩ : ∃ W1, W1 = stWs (b1.map ST.st) := ⟨_, rfl⟩
      obtain ⟨W2, hW2⟩ : ∃ W2, W2 = stWs (b2.map ST.st) := ⟨_, rfl⟩
      have e5 : stW (ST.mk k nm (ET.mk op t b enm ea ec eks) a1 c1 b1 a2 c2 b2).st = nm.data.toList.length + 1 + W0 + W1 + W2 := by
        show stW (St.mk k nm.data.toList (ET.mk op t b enm ea ec eks).ex (ST.sts b1) (ST.sts b2)) = _
        rw [stW, ST.sts_eq, ST.sts_eq, hW0, hW1, hW2]
      have HB : Hid (K0 + W0 + W1 + W2 ≤ K + stWs ((xs.map ST.st).take (i + 1)) ∧ K + stWs ((xs.map ST.st).take (i + 1)) ≤ 281474976710656) := by
        have := hK0.out
        exact ⟨by omega, by omega⟩
      have HV3 : Hid (Ov A K0 w0 wr) := by
        have := HV2.out
        rw [← hK0.out] at this
        exact this
      have hC0 := overExpr_any A B w0 _ (ET.mk op t b enm ea ec eks) (Nat.lt_succ_self _) g1 (o1 + i * 9 + 2) K0 wr v2 l0 hre hg1 HV3.out (by have := HB.out; omega)
      have G1 : Hid (∀ u, Ov A (K0 + W0) w0 u → Calls Tryz.prog 63 #[.slice a1 b1.length c1] u fun r w' => r = .returned (.tuple #[]) ∧ Ov A (K0 + W0 + W1) w0 w') := fun u hu => by
        have := s1 a1 c1 (K0 + W0) u v3 l1 l1' hu (by have := HB.out; omega)
        rw [← hW1] at this
        exact this
      have G2 : Hid (∀ u, Ov A (K0 + W0 + W1) w0 u → Calls Tryz.prog 63 #[.slice a2 b2.length c2] u fun r w' => r = .returned (.tuple #[]) ∧ Ov A (K0 + W0 + W1 + W2) w0 w') := fun u hu => by
        have := s2 a2 c2 (K0 + W0 + W1) u v4 l2 l2' hu (by have := HB.out; omega)
        rw [← hW2] at this
        exact this
      rw [← hW0] at hC0
      have HC : Hid (w0.cell? ⟨g1, o1 + i * 9, none⟩ = some (.int .i64 k) ∧ w0.cell? ⟨g1, o1 + i * 9 + 7, none⟩ = some (.slice a1 b1.length c1) ∧ w0.cell? ⟨g1, o1 + i * 9 + 8, none⟩ = some (.slice a2 b2.length c2)) := ⟨q0, q7, q8⟩
      have HG : Hid (Fr A w0 g1) := hg1
      clear v1 v2 v3 v4 l0 l1 l1' l2 l2' s1 s2 hx hr1 hre hm e3 e4 e5 hW0 hW1 hW2 q0 q1 q2 q3 q4 q5 q6 q7 q8 hg1 HS HR HT HL HV2 hK0
      go_wp2_with (go_at_call 94; refine hC0.mono ?_; rintro e w1 ⟨rfl, hv1⟩; refine Hid.out ?_)
      refine hidU ?_
      have r7 := hv1.slice HG.out HC.out.2.1
      have hC1 := G1.out w1 hv1
      clear hC0 G1
      go_wp2_with (go_at_call 63; refine hC1.mono ?_; rintro e w2 ⟨rfl, hv2⟩; refine Hid.out ?_)
      refine hidU ?_
      have r8 := hv2.slice HG.out HC.out.2.2
      have hC2 := G2.out w2 hv2
      clear hC1 G2 r7 hv1
      go_wp2_with (go_at_call 63; refine hC2.mono ?_; rintro e w3 ⟨rfl, hv3⟩; refine Hid.out ?_)
      refine hidU ?_
      obtain ⟨z, r0⟩ := hv3.int HG.out HC.out.1
      have f0 := hv3.frozen HG.out (o1 + i * 9)
      clear hC2 r8 hv2
      go_wp2_with (first
        | ((with_reducible show wpList _ _ _ _ _ _); refine wpList_store_i64 rfl (.tmp 35) (.tmp 33) rfl g1 (o1 + i * 9) _ rfl rfl _ r0 f0 ?_; refine Hid.out ?_))
      refine hidU ?_
      generalize hw4 : w3.setCell ⟨g1, o1 + i * 9, none⟩ _ = w4
      have HV4 : Hid (Ov A (K + stWs ((xs.map ST.st).take (i + 1))) w0 w4) := by
        rw [← hw4]
        exact (hv3.set HG.out HC.out.1 (.inr (.inl ⟨_, _, _, rfl, rfl⟩))).mono HB.out.1
      clear hw4 hv3 r0 f0
      go_wp2_with fail
      go_roundw
      case rel => exact ⟨i + 1, by go_num, by omega, HV4.out⟩
      case measure => simp [intOf]; omega
    · have hin : i = n := by omega
      have HV3 : Hid (Ov A (K + M) w0 wr) := by
        have := HV2.out
        rw [hin, hn.out, List.take_of_length_le (by simp), ← hM.out] at this
        exact this
      clear HS HR HL HT HV2
      go_wp2_with fail
      go_end0
      exact ⟨rfl, HV3.out⟩

theorem overStmts_any (A B : Nat) (w0 : World) (M : Nat) : ∀ xs : List ST, SizeOf.sizeOf xs < M → OvSW A B w0 xs := by
  induction M with
  | zero => intro x h; omega
  | succ M ih =>
    intro xs hN
    refine overStmts_of A B w0 xs fun k nm e a1 c1 b1 a2 c2 b2 hm => ?_
    have h1 := List.sizeOf_lt_of_mem hm
    simp only [ST.mk.sizeOf_spec] at h1
    exact ⟨ih b1 (by omega), ih b2 (by omega)⟩

end Go.Proofs.YtcmahiphfpgadaaGreatDoor

/- The document's own writing over of names. -/
namespace Go.Proofs.YtcmahiphfpgadaaGreatDoor
open Go.RowKit
set_option linter.unusedVariables false

set_option maxRecDepth 100000 in
set_option maxHeartbeats 3200000 in
theorem overTexts_any (A B : Nat) (w0 : World) (xs : List ByteArray) (a : Option Addr) (K : Nat) (w : World) (hrow : RowN B w0 a xs.length xs) (hat : xs = [] ∨ ∃ g o, a = some ⟨g, o, none⟩ ∧ Fr A w0 g) (hov : Ov A K w0 w) (hs : ∀ s ∈ xs, s.size ≤ 1048576) (hK : K ≤ 281474976710656) :
    Calls Tryz.prog 62 #[.slice a xs.length xs.length] w fun r w' => r = .returned (.tuple #[]) ∧ Ov A (K + xs.length) w0 w' := by
  obtain ⟨n, hn⟩ : ∃ n, Hid (n = xs.length) := ⟨_, (rfl : xs.length = _)⟩
  have hl := hrow.1
  rw [← hn.out] at hl ⊢
  have HR : Hid (RowN B w0 a xs.length xs) := hrow
  have HT : Hid (xs = [] ∨ ∃ g o, a = some ⟨g, o, none⟩ ∧ Fr A w0 g) := hat
  have HV : Hid (Ov A K w0 w) := hov
  have HS : Hid (∀ s ∈ xs, s.size ≤ 1048576) := hs
  clear hrow hat hov hs
  cases a with
  | none =>
    have hn0 : n = 0 := by
      rw [hn.out]
      rcases HT.out with q | ⟨_, _, q, _⟩
      · rw [q]; rfl
      · cases q
    subst hn0
    clear hn HR HT HS
    go_enter Tryz.func62, Tryz.ntmps62
    go_wp2_with fail
    go_loopw [3] (fun j wr => j = .int .i64 0 ∧ Ov A K w0 wr) (fun j _ => 0)
    case atStart => exact ⟨rfl, HV.out⟩
    case round =>
      obtain ⟨rfl, hv⟩ := hrel
      have HV2 : Hid (Ov A K w0 wr) := hv
      clear hv HV
      go_wp2_with fail
      go_end0
      exact ⟨rfl, HV2.out⟩
  | some ad =>
    go_enter Tryz.func62, Tryz.ntmps62
    go_wp2_with fail
    go_loopw [3] (fun j wr => ∃ i : Nat, j = .int .i64 (i : Int) ∧ i ≤ n ∧ Ov A (K + i) w0 wr) (fun j _ => n - (intOf j).toNat)
    case atStart => exact ⟨0, rfl, Nat.zero_le _, HV.out⟩
    case round =>
      obtain ⟨i, rfl, hi, hv⟩ := hrel
      have HV2 : Hid (Ov A (K + i) w0 wr) := hv
      clear hv HV
      by_cases hc : i < n
      · obtain ⟨x, hx⟩ : ∃ k, xs[i]? = some k := ⟨xs[i]'(by rw [← hn.out]; exact hc), by rw [List.getElem?_eq_getElem]⟩
        obtain ⟨g1, o1, had, -, hr1⟩ := HR.out.at i x hx
        cases had
        have hm := List.mem_of_getElem? hx
        have hg1 : Fr A w0 g1 := by
          rcases HT.out with q | ⟨g', o', e', q⟩
          · rw [q] at hm; cases hm
          · cases e'; exact q
        have hsx := HS.out x hm
        obtain ⟨s, r0, hs⟩ := HV2.out.str hg1 hr1
        have f0 := HV2.out.frozen hg1 (o1 + i)
        have HC : Hid (w0.cell? ⟨g1, o1 + i, none⟩ = some (.string x) ∧ Fr A w0 g1) := ⟨hr1, hg1⟩
        have hs1 : s.size + 1 ≤ 9223372036854775807 := by omega
        have hs2 : s.size ≤ x.size + (K + i) := hs
        clear hx hm hr1 hg1 HR HT HS hsx hs
        go_wp2_with (first
          | ((with_reducible show wpList _ _ _ _ _ _); refine wpList_store_str rfl (.tmp 21) (.tmp 20) rfl g1 (o1 + i) _ (by first | rfl | (simp; done)) rfl _ r0 f0 ?_; refine Hid.out ?_))
        all_goals first
          | (exfalso; omega)
          | skip
        refine hidU ?_
        generalize hw4 : wr.setCell ⟨g1, o1 + i, none⟩ _ = w4
        have HV4 : Hid (Ov A (K + (i + 1)) w0 w4) := by
          rw [← hw4]
          refine (HV2.out.mono (L := K + (i + 1)) (by omega)).set HC.out.2 HC.out.1 (.inr (.inr ⟨_, _, rfl, rfl, ?_⟩))
          rw [ByteArray.size_append']
          have e1 : (⟨#[33]⟩ : ByteArray).size = 1 := rfl
          omega
        clear hw4 HV2 r0 f0
        go_wp2_with fail
        go_roundw
        case rel => exact ⟨i + 1, by go_num, by omega, HV4.out⟩
        case measure => simp [intOf]; omega
      · have hin : i = n := by omega
        subst hin
        clear HS HR HT
        go_wp2_with fail
        go_end0
        exact ⟨rfl, HV2.out⟩

end Go.Proofs.YtcmahiphfpgadaaGreatDoor

/- The values' texts tell them apart. -/
namespace Go.Proofs.YtcmahiphfpgadaaGreatDoor
set_option linter.unusedVariables false

/-- The literals, the values' texts, of words of 64 bits. -/
def litF (t b : Nat) : Option (List UInt8) := if b < 18446744073709551616 ∧ litOk t b = true then some (valTx t b) else none
end Go.Proofs.YtcmahiphfpgadaaGreatDoor

/- The programs' texts tell them apart. -/
namespace Go.Proofs.YtcmahiphfpgadaaGreatDoor
set_option linter.unusedVariables false

mutual
theorem samX_eq : ∀ (x y : Ex), samX x y = true ↔ x = y
  | .mk op t b nm ks, .mk op' t' b' nm' ks' => by
    rw [samX]
    simp only [Bool.and_eq_true, decide_eq_true_eq, samL_eq ks ks', Ex.mk.injEq]
    constructor
    · rintro ⟨h1, ⟨h2, h3⟩, h4, h5⟩; exact ⟨h1, h2, h3, h4, h5⟩
    · rintro ⟨h1, h2, h3, h4, h5⟩; exact ⟨h1, ⟨h2, h3⟩, h4, h5⟩
theorem samL_eq : ∀ (x y : List Ex), samL x y = true ↔ x = y
  | [], [] => by simp [samL]
  | [], y :: s => by simp [samL]
  | x :: r, [] => by simp [samL]
  | x :: r, y :: s => by
    rw [samL, Bool.and_eq_true, samX_eq x y, samL_eq r s]
    simp
end
mutual
theorem samS_eq : ∀ (x y : St), samS x y = true ↔ x = y
  | .mk k nm e b c, .mk k' nm' e' b' c' => by
    rw [samS]
    simp only [Bool.and_eq_true, decide_eq_true_eq, samX_eq, samSL_eq b b', samSL_eq c c', St.mk.injEq]
theorem samSL_eq : ∀ (x y : List St), samSL x y = true ↔ x = y
  | [], [] => by simp [samSL]
  | [], y :: s => by simp [samSL]
  | x :: r, [] => by simp [samSL]
  | x :: r, y :: s => by
    rw [samSL, Bool.and_eq_true, samS_eq x y, samSL_eq r s]
    simp
end
theorem eqL_eq {α : Type} (f : α → α → Bool) (hf : ∀ x y, f x y = true ↔ x = y) : ∀ (x y : List α), eqL f x y = true ↔ x = y
  | [], [] => by simp [eqL]
  | [], y :: s => by simp [eqL]
  | x :: r, [] => by simp [eqL]
  | x :: r, y :: s => by
    rw [eqL, Bool.and_eq_true, hf x y, eqL_eq f hf r s]
    simp
theorem samV_eq (x y : Vr) : samV x y = true ↔ x = y := by
  obtain ⟨a, b, c⟩ := x
  obtain ⟨a', b', c'⟩ := y
  unfold samV
  simp
theorem samN_eq (x y : List UInt8) : samN x y = true ↔ x = y := by
  unfold samN
  simp
theorem samT_eq (x y : Th) : samT x y = true ↔ x = y := by
  obtain ⟨a, b, c⟩ := x
  obtain ⟨a', b', c'⟩ := y
  unfold samT
  simp only [Bool.and_eq_true, decide_eq_true_eq, eqL_eq samV samV_eq, samSL_eq, Th.mk.injEq]
theorem samP_eq (x y : Pg) : samP x y = true ↔ x = y := by
  obtain ⟨a, b, c⟩ := x
  obtain ⟨a', b', c'⟩ := y
  unfold samP
  simp only [Bool.and_eq_true, eqL_eq samV samV_eq, eqL_eq samN samN_eq, eqL_eq samT samT_eq, Pg.mk.injEq]

mutual
/-- All values are words of 64 bits. -/
def exOk : Ex → Prop
  | .mk _ _ b _ ks => b < 18446744073709551616 ∧ exOks ks
def exOks : List Ex → Prop
  | [] => True
  | e :: r => exOk e ∧ exOks r
end
mutual
def stOk : St → Prop
  | .mk _ _ e b c => exOk e ∧ stOks b ∧ stOks c
def stOks : List St → Prop
  | [] => True
  | e :: r => stOk e ∧ stOks r
end
def vrOk (v : Vr) : Prop := v.b < 18446744073709551616
def thOk (t : Th) : Prop := (∀ v ∈ t.locals, vrOk v) ∧ stOks t.body
def pgOk (p : Pg) : Prop := (∀ v ∈ p.shared, vrOk v) ∧ ∀ t ∈ p.threads, thOk t

def prX (e : Ex) : Option (List UInt8) := if mayE 32 e = true then prE litF isNm e else none
def isNo (e : Ex) : Bool := samX e noE

end Go.Proofs.YtcmahiphfpgadaaGreatDoor

/- Trees that came in are opened. -/
namespace Go.Proofs.YtcmahiphfpgadaaGreatDoor
open Go.ChangeShapes Go.WideShapes Go.ChangeAt Go.RowKit
set_option linter.unusedVariables false

theorem bulk_one {H : Type} (d : DataW H) : 1 ≤ Rows.uptoBulk d := by
  cases d with
  | lit l => cases l <;> simp [Rows.uptoBulk]
  | nil => simp [Rows.uptoBulk]
  | ptr d => simp [Rows.uptoBulk]
  | slice elems spare => simp [Rows.uptoBulk]
  | agg parts => simp [Rows.uptoBulk]
  | iface t d => simp [Rows.uptoBulk]
  | map entries => simp [Rows.uptoBulk]
  | held h => simp [Rows.uptoBulk]
theorem bulk_mem {H : Type} {d : DataW H} {l : List (DataW H)} (h : d ∈ l) : Rows.uptoBulk d ≤ Rows.uptoBulkAll l := by
  induction l with
  | nil => cases h
  | cons x r ih =>
    simp only [Rows.uptoBulkAll]
    rcases List.mem_cons.1 h with rfl | h
    · omega
    · have := ih h; omega
theorem bulk_len {H : Type} (l : List (DataW H)) : l.length ≤ Rows.uptoBulkAll l := by
  induction l with
  | nil => simp
  | cons x r ih => have := bulk_one x; simp only [Rows.uptoBulkAll, List.length_cons]; omega

/-- For each of a list one that fits. -/
theorem choose_list {α β : Type} : ∀ (l : List β) (R : Nat → β → α → Prop), (∀ i b, l[i]? = some b → ∃ a, R i b a) → ∃ vs : List α, vs.length = l.length ∧ ∀ i b a, l[i]? = some b → vs[i]? = some a → R i b a
  | [], R, h => ⟨[], rfl, fun i b a hb => by simp at hb⟩
  | x :: r, R, h => by
    obtain ⟨a, ha⟩ := h 0 x rfl
    obtain ⟨vs, hl, hv⟩ := choose_list r (fun i => R (i + 1)) (fun i b hb => h (i + 1) b (by simpa using hb))
    refine ⟨a :: vs, by simp [hl], fun i b c hb hc => ?_⟩
    cases i with
    | zero => simp at hb hc; subst hb hc; exact ha
    | succ i => exact hv i b c (by simpa using hb) (by simpa using hc)

theorem sum_bulk {α H : Type} (wt : α → Nat) : ∀ (vs : List α) (l : List (DataW H)), vs.length = l.length → (∀ (i : Nat) (v : α) (d : DataW H), vs[i]? = some v → l[i]? = some d → wt v ≤ Rows.uptoBulk d) → (vs.map wt).sum ≤ Rows.uptoBulkAll l
  | [], [], _, _ => by simp
  | [], d :: r, h, _ => by simp at h
  | v :: vs, [], h, _ => by simp at h
  | v :: vs, d :: r, h, hw => by
    have h0 := hw 0 v d rfl rfl
    have := sum_bulk wt vs r (by simpa using h) (fun i a b ha hb => hw (i + 1) a b (by simpa using ha) (by simpa using hb))
    simp only [List.map_cons, List.sum_cons, Rows.uptoBulkAll]
    omega

section
variable {H : Type} {enc : TypeId × Value → H} {w : World} {sp : Nat → Bool} {held : Bool}

/-- A row that came in. -/
theorem open_row {α : Type} (t e k : Nat) (hk : 0 < k) (ht : Tryz.prog.underlying t = some (.slice e)) (hc : Tryz.prog.cellsOf e = k) (wt : α → Nat) (G : α → List Value → Prop)
    (fuel : Nat) (cs : List Value) (x : DataW H × List MemPlace) (h : DataW.trod enc Tryz.prog w 0 sp held fuel t cs = some x) (N : Nat) (hN : Rows.uptoBulk x.1 ≤ N)
    (ho : ∀ n, n < fuel → ∀ (cs' : List Value) (y : DataW H × List MemPlace), DataW.trod enc Tryz.prog w 0 sp held n e cs' = some y → Rows.uptoBulk y.1 ≤ N → ∃ v : α, G v cs' ∧ wt v ≤ Rows.uptoBulk y.1) :
    ∃ (a : Option Addr) (c : Nat) (vs : List α), cs = [.slice a vs.length c] ∧ vs.length ≤ N ∧ vs.length ≤ c ∧ (vs.map wt).sum + 1 ≤ Rows.uptoBulk x.1 ∧ (vs = [] ∨ ∃ g o, a = some ⟨g, o, none⟩ ∧ g < w.heap.size ∧ ∀ (i : Nat) (v : α), vs[i]? = some v → ∃ cs', w.rangeAt g (o + i * k) cs' ∧ G v cs') := by
  rcases DataW.trod_slice ht h with ⟨rfl, rfl⟩ | ⟨ad, len, cap, elems, rest, n, hf, rfl, rfl, hb, hl, hm, hlen, hel, -, -⟩
  · exact ⟨none, 0, [], rfl, by simp, by simp, by simp [Rows.uptoBulk], .inl rfl⟩
  · have hbk : Rows.uptoBulkAll (elems.map (·.1)) + 1 ≤ Rows.uptoBulk (DataW.slice (elems.map (·.1)) (rest.map (·.1))) := by
      simp only [Rows.uptoBulk]
      omega
    rw [hc] at hel
    obtain ⟨vs, hvl, hv⟩ := choose_list elems (fun i b (v : α) => ∃ cs', w.cells? 0 (ad.add (i * k)) k = some cs' ∧ G v cs' ∧ wt v ≤ Rows.uptoBulk b.1) (fun i b hib => by
      have hi : i < len := by
        have := (List.getElem?_eq_some_iff.1 hib).1
        omega
      have h0 := hel i hi
      rw [hib] at h0
      obtain ⟨cs', h1, h2⟩ := Option.bind_eq_some_iff.1 h0
      have hbb : Rows.uptoBulk b.1 ≤ N := by
        have := bulk_mem (List.mem_map_of_mem (f := (·.1)) (List.mem_of_getElem? hib))
        simp only at hN
        omega
      obtain ⟨v, g1, g2⟩ := ho n (by omega) cs' b h2 hbb
      exact ⟨v, cs', h1, g1, g2⟩)
    have hlv : vs.length = len := by rw [hvl, hlen]
    have hsum : (vs.map wt).sum ≤ Rows.uptoBulkAll (elems.map (·.1)) := sum_bulk wt vs _ (by simp [hvl]) (fun i v d h1 h2 => by
      rw [List.getElem?_map] at h2
      obtain ⟨b, hb1, rfl⟩ := Option.map_eq_some_iff.1 h2
      exact (hv i b v hb1 h1).choose_spec.2.2)
    have hln := bulk_len (elems.map (·.1))
    rw [List.length_map] at hln
    refine ⟨some ad, cap, vs, by rw [hlv], by simp only at hN; omega, by omega, Nat.le_trans (Nat.add_le_add_right hsum 1) hbk, ?_⟩
    cases vs with
    | nil => exact .inl rfl
    | cons v0 vr =>
      right
      obtain ⟨g, o, spot⟩ := ad
      have hcell : ∀ (i : Nat) (v : α), (v0 :: vr)[i]? = some v → ∃ cs', w.cells? 0 ((⟨g, o, spot⟩ : Addr).add (i * k)) k = some cs' ∧ G v cs' := fun i v hi => by
        have hlt := (List.getElem?_eq_some_iff.1 hi).1
        obtain ⟨cs', h1, h2, -⟩ := hv i (elems[i]'(by omega)) v (List.getElem?_eq_getElem _) hi
        exact ⟨cs', h1, h2⟩
      obtain ⟨cs0, hc0, -⟩ := hcell 0 v0 rfl
      obtain ⟨_, hl0, hcc⟩ := World.cells?_some hc0
      have hv0 : ∃ z, w.cell? ⟨g, o, spot⟩ = some z := by
        have := hcc 0 hk
        rw [Nat.zero_mul] at this
        have hcs : 0 < cs0.length := by omega
        rw [List.getElem?_eq_getElem hcs] at this
        exact ⟨_, by simpa [Addr.add] using this⟩
      obtain ⟨z, hz⟩ := hv0
      have hspot : spot = none := World.cell?_spot hz
      subst hspot
      refine ⟨g, o, rfl, lt_of_cell hz, fun i v hi => ?_⟩
      obtain ⟨cs', h1, h2⟩ := hcell i v hi
      refine ⟨cs', fun j u hj => ?_, h2⟩
      obtain ⟨_, hl1, hcc1⟩ := World.cells?_some h1
      have hjl := (List.getElem?_eq_some_iff.1 hj).1
      have := hcc1 j (by omega)
      rw [hj, Addr.add_mid, Addr.add_mid] at this
      exact this
end
end Go.Proofs.YtcmahiphfpgadaaGreatDoor

/- Expressions, statements and programs that came in are opened. -/
namespace Go.Proofs.YtcmahiphfpgadaaGreatDoor
open Go.ChangeShapes Go.WideShapes Go.ChangeAt Go.RowKit
set_option linter.unusedVariables false

theorem c27 : Tryz.prog.cellsOf 27 = 1 := by kernel_rfl
theorem c28 : Tryz.prog.cellsOf 28 = 1 := by kernel_rfl
theorem c29 : Tryz.prog.cellsOf 29 = 1 := by kernel_rfl
theorem c31 : Tryz.prog.cellsOf 31 = 2 := by kernel_rfl
theorem c9 : Tryz.prog.cellsOf 9 = 1 := by kernel_rfl
theorem c3 : Tryz.prog.cellsOf 3 = 1 := by kernel_rfl
theorem c32 : Tryz.prog.cellsOf 32 = 1 := by kernel_rfl
theorem c34 : Tryz.prog.cellsOf 34 = 5 := by kernel_rfl
theorem c57 : Tryz.prog.cellsOf 57 = 1 := by kernel_rfl
theorem c87 : Tryz.prog.cellsOf 87 = 9 := by kernel_rfl
theorem c22 : Tryz.prog.cellsOf 22 = 1 := by kernel_rfl
theorem c23 : Tryz.prog.cellsOf 23 = 1 := by kernel_rfl
theorem c24 : Tryz.prog.cellsOf 24 = 1 := by kernel_rfl
theorem c56 : Tryz.prog.cellsOf 56 = 3 := by kernel_rfl
theorem c59 : Tryz.prog.cellsOf 59 = 3 := by kernel_rfl
theorem c26 : Tryz.prog.cellsOf 26 = 3 := by kernel_rfl

theorem u8_of {x : Int} (h : (Lit.int .u8 x).wf = true) : ∃ n : Nat, x = (n : Int) ∧ n < 256 := by
  have : 0 ≤ x ∧ x ≤ 255 := by simpa [Lit.wf, IntKind.min, IntKind.max, IntKind.signed, IntKind.bits] using h
  exact ⟨x.toNat, by omega, by omega⟩
theorem u64_of {x : Int} (h : (Lit.int .u64 x).wf = true) : ∃ n : Nat, x = (n : Int) ∧ n < 18446744073709551616 := by
  have : 0 ≤ x ∧ x ≤ 18446744073709551615 := by simpa [Lit.wf, IntKind.min, IntKind.max, IntKind.signed, IntKind.bits] using h
  exact ⟨x.toNat, by omega, by omega⟩
theorem i64_of {x : Int} (h : (Lit.int .i64 x).wf = true) : -9223372036854775808 ≤ x ∧ x ≤ 9223372036854775807 := by
  simpa [Lit.wf, IntKind.min, IntKind.max, IntKind.signed, IntKind.bits] using h

theorem len2 {α : Type} : ∀ {l : List α}, l.length = 2 → ∃ a b, l = [a, b]
  | [a, b], _ => ⟨a, b, rfl⟩
theorem len3 {α : Type} : ∀ {l : List α}, l.length = 3 → ∃ a b c, l = [a, b, c]
  | [a, b, c], _ => ⟨a, b, c, rfl⟩
theorem len4 {α : Type} : ∀ {l : List α}, l.length = 4 → ∃ a b c d, l = [a, b, c, d]
  | [a, b, c, d], _ => ⟨a, b, c, d, rfl⟩
theorem len5 {α : Type} : ∀ {l : List α}, l.length = 5 → ∃ a b c d e, l = [a, b, c, d, e]
  | [a, b, c, d, e], _ => ⟨a, b, c, d, e, rfl⟩
theorem len9 {α : Type} : ∀ {l : List α}, l.length = 9 → ∃ a b c d e f g h i, l = [a, b, c, d, e, f, g, h, i]
  | [a, b, c, d, e, f, g, h, i], _ => ⟨a, b, c, d, e, f, g, h, i, rfl⟩

section
variable {H : Type} {enc : TypeId × Value → H} {w : World} {sp : Nat → Bool} {held : Bool}

theorem open_val (fuel : Nat) (cs : List Value) (x : DataW H × List MemPlace) (h : DataW.trod enc Tryz.prog w 0 sp held fuel 31 cs = some x) : ∃ t b : Nat, cs = [.int .u8 (t : Int), .int .u64 (b : Int)] ∧ t < 256 ∧ b < 18446744073709551616 := by
  obtain ⟨xs, n, hf, rfl, hl, hlen, hx⟩ := DataW.trod_struct Tryz.underlying31 h
  rw [c31] at hl
  obtain ⟨a, b, rfl⟩ := len2 hl
  obtain ⟨y0, y1, rfl⟩ := len2 (show xs.length = 2 from hlen)
  have f0 := hx 0 { name := "T", type := 28, offset := 0, embedded := false, tag := "", pkgPath := "", byteOffset := 0 } rfl
  dsimp only at f0
  rw [c28] at f0
  have f0 : DataW.trod enc Tryz.prog w 0 sp held n 28 [a] = some y0 := f0
  have f1 := hx 1 { name := "Bits", type := 29, offset := 1, embedded := false, tag := "", pkgPath := "", byteOffset := 8 } rfl
  dsimp only at f1
  rw [c29] at f1
  have f1 : DataW.trod enc Tryz.prog w 0 sp held n 29 [b] = some y1 := f1
  obtain ⟨t, e0, -, hw0⟩ := DataW.trod_int Tryz.underlying28 f0
  obtain ⟨b', e1, -, hw1⟩ := DataW.trod_int Tryz.underlying29 f1
  simp at e0 e1
  subst e0 e1
  obtain ⟨tn, rfl, ht⟩ := u8_of hw0
  obtain ⟨bn, rfl, hb⟩ := u64_of hw1
  exact ⟨tn, bn, rfl, ht, hb⟩

theorem exWs_sum : ∀ l : List ET, exWs (ET.exs l) = (l.map fun e => exW e.ex).sum
  | [] => rfl
  | e :: r => by
    rw [ET.exs, exWs, exWs_sum r]
    rfl
theorem exOks_of : ∀ l : List ET, (∀ e ∈ l, exOk e.ex) → exOks (ET.exs l)
  | [], _ => trivial
  | e :: r, h => by
    rw [ET.exs]
    unfold exOks
    exact ⟨h e List.mem_cons_self, exOks_of r fun x hx => h x (List.mem_cons_of_mem _ hx)⟩

/-- An expression that came in. -/
theorem open_expr : ∀ (F fuel : Nat), fuel < F → ∀ (cs : List Value) (x : DataW H × List MemPlace), DataW.trod enc Tryz.prog w 0 sp held fuel 34 cs = some x → Rows.uptoBulk x.1 ≤ 1048576 →
    ∃ e : ET, (cs = e.cells ∧ e.In w.heap.size w ∧ exOk e.ex) ∧ exW e.ex ≤ Rows.uptoBulk x.1 := by
  intro F
  induction F with
  | zero => intro fuel h; omega
  | succ F ih =>
    intro fuel hF cs x h hN
    obtain ⟨xs, n, hf, rfl, hl, hlen, hx⟩ := DataW.trod_struct Tryz.underlying34 h
    rw [c34] at hl
    obtain ⟨a0, a1, a2, a3, a4, rfl⟩ := len5 hl
    obtain ⟨y0, y1, y2, y3, rfl⟩ := len4 (show xs.length = 4 from hlen)
    have f0 := hx 0 { name := "Op", type := 27, offset := 0, embedded := false, tag := "", pkgPath := "", byteOffset := 0 } rfl
    dsimp only at f0
    rw [c27] at f0
    have f0 : DataW.trod enc Tryz.prog w 0 sp held n 27 [a0] = some y0 := f0
    have f1 := hx 1 { name := "Lit", type := 31, offset := 1, embedded := false, tag := "", pkgPath := "", byteOffset := 8 } rfl
    dsimp only at f1
    rw [c31] at f1
    have f1 : DataW.trod enc Tryz.prog w 0 sp held n 31 [a1, a2] = some y1 := f1
    have f2 := hx 2 { name := "Name", type := 9, offset := 3, embedded := false, tag := "", pkgPath := "", byteOffset := 24 } rfl
    dsimp only at f2
    rw [c9] at f2
    have f2 : DataW.trod enc Tryz.prog w 0 sp held n 9 [a3] = some y2 := f2
    have f3 := hx 3 { name := "Kids", type := 32, offset := 4, embedded := false, tag := "", pkgPath := "", byteOffset := 40 } rfl
    dsimp only at f3
    rw [c32] at f3
    have f3 : DataW.trod enc Tryz.prog w 0 sp held n 32 [a4] = some y3 := f3
    obtain ⟨op, e0, -, hw0⟩ := DataW.trod_int Tryz.underlying27 f0
    obtain ⟨t, b, e1, ht, hb⟩ := open_val _ _ _ f1
    obtain ⟨nm, e2, e2', -⟩ := DataW.trod_string Tryz.underlying9 f2
    simp at e0 e1 e2
    subst e0 e2
    obtain ⟨rfl, rfl⟩ := e1
    obtain ⟨opn, rfl, hop⟩ := u8_of hw0
    have hbk : Rows.uptoBulk y0.1 + (Rows.uptoBulk y1.1 + (Rows.uptoBulk y2.1 + Rows.uptoBulk y3.1)) + 1 ≤ 1048576 := by
      simpa [Rows.uptoBulk, Rows.uptoBulkAll] using hN
    have hy2 : Rows.uptoBulk y2.1 = nm.data.toList.length + 1 := by rw [e2']; simp [Rows.uptoBulk]
    obtain ⟨a, c, ks, e3, k1, k2, k3, k4⟩ := open_row 32 34 5 (by decide) Tryz.underlying32 c34 (fun e : ET => exW e.ex) (fun (e : ET) cs' => cs' = e.cells ∧ e.In w.heap.size w ∧ exOk e.ex) n _ _ f3 1048576 (by omega) (fun m hm cs' y hy hby => ih m (by omega) cs' y hy hby)
    simp at e3
    subst e3
    refine ⟨.mk opn t b nm a c ks, ⟨rfl, ?_, ?_⟩, ?_⟩
    · unfold ET.In
      refine ⟨hop, ht, hb, k1, k2, ?_⟩
      rcases k4 with k4 | ⟨g, o, ha, hg, hr⟩
      · exact .inl k4
      · refine .inr ⟨g, o, ha, hg, ET.Row.of fun i e he => ?_⟩
        obtain ⟨cs', h1, rfl, h3, -⟩ := hr i e he
        exact ⟨h1, h3⟩
    · show exOk (.mk opn t b nm.data.toList (ET.exs ks))
      unfold exOk
      refine ⟨hb, exOks_of ks fun e he => ?_⟩
      obtain ⟨i, hi⟩ := List.mem_iff_getElem?.1 he
      rcases k4 with k4 | ⟨g, o, ha, hg, hr⟩
      · rw [k4] at he; cases he
      · obtain ⟨cs', -, -, -, h4⟩ := hr i e hi
        exact h4
    · show exW (.mk opn t b nm.data.toList (ET.exs ks)) ≤ _
      rw [exW, exWs_sum]
      have := bulk_one y0.1
      have := bulk_one y1.1
      simp only [List.map_cons, List.map_nil, Rows.uptoBulk, Rows.uptoBulkAll]
      omega

theorem stWs_sum : ∀ l : List ST, stWs (ST.sts l) = (l.map fun e => stW e.st).sum
  | [] => rfl
  | e :: r => by
    rw [ST.sts, stWs, stWs_sum r]
    rfl
theorem stOks_of : ∀ l : List ST, (∀ e ∈ l, stOk e.st) → stOks (ST.sts l)
  | [], _ => trivial
  | e :: r, h => by
    rw [ST.sts]
    unfold stOks
    exact ⟨h e List.mem_cons_self, stOks_of r fun x hx => h x (List.mem_cons_of_mem _ hx)⟩

theorem rowS_open {N : Nat} {a : Option Addr} {c : Nat} {ks : List ST} (k1 : ks.length ≤ 1048576) (k2 : ks.length ≤ c) (k4 : ks = [] ∨ ∃ g o, a = some ⟨g, o, none⟩ ∧ g < w.heap.size ∧ ∀ (i : Nat) (v : ST), ks[i]? = some v → ∃ cs', w.rangeAt g (o + i * 9) cs' ∧ (cs' = v.cells ∧ v.In w.heap.size w ∧ stOk v.st)) : RowS w.heap.size w a c ks ∧ ∀ e ∈ ks, stOk e.st := by
  refine ⟨⟨k1, k2, ?_⟩, fun e he => ?_⟩
  · rcases k4 with k4 | ⟨g, o, ha, hg, hr⟩
    · exact .inl k4
    · refine .inr ⟨g, o, ha, hg, ST.Row.of fun i e he => ?_⟩
      obtain ⟨cs', h1, rfl, h3, -⟩ := hr i e he
      exact ⟨h1, h3⟩
  · obtain ⟨i, hi⟩ := List.mem_iff_getElem?.1 he
    rcases k4 with k4 | ⟨g, o, ha, hg, hr⟩
    · rw [k4] at he; cases he
    · obtain ⟨cs', -, -, -, h4⟩ := hr i e hi
      exact h4

/-- A statement that came in. -/
theorem open_stmt : ∀ (F fuel : Nat), fuel < F → ∀ (cs : List Value) (x : DataW H × List MemPlace), DataW.trod enc Tryz.prog w 0 sp held fuel 87 cs = some x → Rows.uptoBulk x.1 ≤ 1048576 →
    ∃ e : ST, (cs = e.cells ∧ e.In w.heap.size w ∧ stOk e.st) ∧ stW e.st ≤ Rows.uptoBulk x.1 := by
  intro F
  induction F with
  | zero => intro fuel h; omega
  | succ F ih =>
    intro fuel hF cs x h hN
    obtain ⟨xs, n, hf, rfl, hl, hlen, hx⟩ := DataW.trod_struct Tryz.underlying87 h
    rw [c87] at hl
    obtain ⟨a0, a1, a2, a3, a4, a5, a6, a7, a8, rfl⟩ := len9 hl
    obtain ⟨y0, y1, y2, y3, y4, rfl⟩ := len5 (show xs.length = 5 from hlen)
    have f0 := hx 0 { name := "Kind", type := 3, offset := 0, embedded := false, tag := "", pkgPath := "", byteOffset := 0 } rfl
    dsimp only at f0
    rw [c3] at f0
    have f0 : DataW.trod enc Tryz.prog w 0 sp held n 3 [a0] = some y0 := f0
    have f1 := hx 1 { name := "Name", type := 9, offset := 1, embedded := false, tag := "", pkgPath := "", byteOffset := 8 } rfl
    dsimp only at f1
    rw [c9] at f1
    have f1 : DataW.trod enc Tryz.prog w 0 sp held n 9 [a1] = some y1 := f1
    have f2 := hx 2 { name := "E", type := 34, offset := 2, embedded := false, tag := "", pkgPath := "", byteOffset := 24 } rfl
    dsimp only at f2
    rw [c34] at f2
    have f2 : DataW.trod enc Tryz.prog w 0 sp held n 34 [a2, a3, a4, a5, a6] = some y2 := f2
    have f3 := hx 3 { name := "Body", type := 57, offset := 7, embedded := false, tag := "", pkgPath := "", byteOffset := 88 } rfl
    dsimp only at f3
    rw [c57] at f3
    have f3 : DataW.trod enc Tryz.prog w 0 sp held n 57 [a7] = some y3 := f3
    have f4 := hx 4 { name := "Else", type := 57, offset := 8, embedded := false, tag := "", pkgPath := "", byteOffset := 112 } rfl
    dsimp only at f4
    rw [c57] at f4
    have f4 : DataW.trod enc Tryz.prog w 0 sp held n 57 [a8] = some y4 := f4
    obtain ⟨k, e0, -, hw0⟩ := DataW.trod_int Tryz.underlying3 f0
    obtain ⟨nm, e1, e1', -⟩ := DataW.trod_string Tryz.underlying9 f1
    simp at e0 e1
    subst e0 e1
    have hbk : Rows.uptoBulk y0.1 + (Rows.uptoBulk y1.1 + (Rows.uptoBulk y2.1 + (Rows.uptoBulk y3.1 + Rows.uptoBulk y4.1))) + 1 ≤ 1048576 := by
      simpa [Rows.uptoBulk, Rows.uptoBulkAll] using hN
    have hy1 : Rows.uptoBulk y1.1 = nm.data.toList.length + 1 := by rw [e1']; simp [Rows.uptoBulk]
    obtain ⟨e, ⟨ee, hei, hek⟩, hew⟩ := open_expr (n + 1) n (by omega) _ _ f2 (by omega)
    obtain ⟨b1, d1, ks, e3, k1, k2, k3, k4⟩ := open_row 57 87 9 (by decide) Tryz.underlying57 c87 (fun e : ST => stW e.st) (fun (e : ST) cs' => cs' = e.cells ∧ e.In w.heap.size w ∧ stOk e.st) n _ _ f3 1048576 (by omega) (fun m hm cs' y hy hby => ih m (by omega) cs' y hy hby)
    obtain ⟨b2, d2, ls, e4, l1, l2, l3, l4⟩ := open_row 57 87 9 (by decide) Tryz.underlying57 c87 (fun e : ST => stW e.st) (fun (e : ST) cs' => cs' = e.cells ∧ e.In w.heap.size w ∧ stOk e.st) n _ _ f4 1048576 (by omega) (fun m hm cs' y hy hby => ih m (by omega) cs' y hy hby)
    simp at e3 e4
    subst e3 e4
    obtain ⟨r1, o1⟩ := rowS_open (N := 0) k1 k2 k4
    obtain ⟨r2, o2⟩ := rowS_open (N := 0) l1 l2 l4
    refine ⟨.mk k nm e b1 d1 ks b2 d2 ls, ⟨?_, ?_, ?_⟩, ?_⟩
    · show _ = st9 k nm e.cells (.slice b1 ks.length d1) (.slice b2 ls.length d2)
      rw [← ee]
      rfl
    · unfold ST.In
      exact ⟨i64_of hw0, hei, r1, r2⟩
    · show stOk (.mk k nm.data.toList e.ex (ST.sts ks) (ST.sts ls))
      unfold stOk
      exact ⟨hek, stOks_of ks o1, stOks_of ls o2⟩
    · show stW (.mk k nm.data.toList e.ex (ST.sts ks) (ST.sts ls)) ≤ _
      rw [stW, stWs_sum, stWs_sum]
      have := bulk_one y0.1
      simp only [List.map_cons, List.map_nil, Rows.uptoBulk, Rows.uptoBulkAll]
      omega
end
end Go.Proofs.YtcmahiphfpgadaaGreatDoor

/- Programs that came in are opened. -/
namespace Go.Proofs.YtcmahiphfpgadaaGreatDoor
open Go.ChangeShapes Go.WideShapes Go.ChangeAt Go.RowKit
set_option linter.unusedVariables false

def vrW (v : Vr) : Nat := v.nm.length + 1
def thW (t : Th) : Nat := t.nm.length + 1 + (t.locals.map vrW).sum + stWs t.body
def pgW (p : Pg) : Nat := (p.shared.map vrW).sum + (p.mutexes.map fun m => m.length + 1).sum + (p.threads.map thW).sum

section
variable {H : Type} {enc : TypeId × Value → H} {w : World} {sp : Nat → Bool} {held : Bool}

theorem open_vr (fuel : Nat) (cs : List Value) (x : DataW H × List MemPlace) (h : DataW.trod enc Tryz.prog w 0 sp held fuel 56 cs = some x) : ∃ v : VT, (cs = v.cells ∧ v.In w.heap.size w ∧ vrOk v.vr) ∧ vrW v.vr ≤ Rows.uptoBulk x.1 := by
  obtain ⟨xs, n, hf, rfl, hl, hlen, hx⟩ := DataW.trod_struct Tryz.underlying56 h
  rw [c56] at hl
  obtain ⟨a, b, c, rfl⟩ := len3 hl
  obtain ⟨y0, y1, rfl⟩ := len2 (show xs.length = 2 from hlen)
  have f0 := hx 0 { name := "Name", type := 9, offset := 0, embedded := false, tag := "", pkgPath := "", byteOffset := 0 } rfl
  dsimp only at f0
  rw [c9] at f0
  have f0 : DataW.trod enc Tryz.prog w 0 sp held n 9 [a] = some y0 := f0
  have f1 := hx 1 { name := "First", type := 31, offset := 1, embedded := false, tag := "", pkgPath := "", byteOffset := 16 } rfl
  dsimp only at f1
  rw [c31] at f1
  have f1 : DataW.trod enc Tryz.prog w 0 sp held n 31 [b, c] = some y1 := f1
  obtain ⟨nm, e0, e0', -⟩ := DataW.trod_string Tryz.underlying9 f0
  obtain ⟨t, b', e1, ht, hb⟩ := open_val _ _ _ f1
  simp at e0 e1
  subst e0
  obtain ⟨rfl, rfl⟩ := e1
  refine ⟨⟨nm, t, b'⟩, ⟨rfl, ⟨ht, hb⟩, hb⟩, ?_⟩
  have hy : Rows.uptoBulk y0.1 = nm.data.toList.length + 1 := by rw [e0']; simp [Rows.uptoBulk]
  show nm.data.toList.length + 1 ≤ _
  simp only [List.map_cons, List.map_nil, Rows.uptoBulk, Rows.uptoBulkAll]
  omega

theorem open_nm (fuel : Nat) (cs : List Value) (x : DataW H × List MemPlace) (h : DataW.trod enc Tryz.prog w 0 sp held fuel 9 cs = some x) : ∃ s : ByteArray, cs = [.string s] ∧ s.data.toList.length + 1 ≤ Rows.uptoBulk x.1 := by
  obtain ⟨s, e, e', -⟩ := DataW.trod_string Tryz.underlying9 h
  exact ⟨s, e, by rw [e']; simp [Rows.uptoBulk]⟩

theorem rowV_open {a : Option Addr} {c : Nat} {ks : List VT} (k1 : ks.length ≤ 1048576) (k2 : ks.length ≤ c) (k4 : ks = [] ∨ ∃ g o, a = some ⟨g, o, none⟩ ∧ g < w.heap.size ∧ ∀ (i : Nat) (v : VT), ks[i]? = some v → ∃ cs', w.rangeAt g (o + i * 3) cs' ∧ (cs' = v.cells ∧ v.In w.heap.size w ∧ vrOk v.vr)) : RowV w.heap.size w a c ks ∧ ∀ v ∈ ks.map VT.vr, vrOk v := by
  refine ⟨⟨k1, k2, ?_⟩, fun v hv => ?_⟩
  · rcases k4 with k4 | ⟨g, o, ha, hg, hr⟩
    · exact .inl k4
    · refine .inr ⟨g, o, ha, hg, fun i e he => ?_⟩
      obtain ⟨cs', h1, rfl, h3, -⟩ := hr i e he
      exact ⟨h1, h3⟩
  · obtain ⟨e, he, rfl⟩ := List.mem_map.1 hv
    obtain ⟨i, hi⟩ := List.mem_iff_getElem?.1 he
    rcases k4 with k4 | ⟨g, o, ha, hg, hr⟩
    · rw [k4] at he; cases he
    · obtain ⟨cs', -, -, -, h4⟩ := hr i e hi
      exact h4

theorem open_th (fuel : Nat) (cs : List Value) (x : DataW H × List MemPlace) (h : DataW.trod enc Tryz.prog w 0 sp held fuel 59 cs = some x) (hN : Rows.uptoBulk x.1 ≤ 1048576) : ∃ v : TT, (cs = v.cells ∧ v.In w.heap.size w ∧ thOk v.th) ∧ thW v.th ≤ Rows.uptoBulk x.1 := by
  obtain ⟨xs, n, hf, rfl, hl, hlen, hx⟩ := DataW.trod_struct Tryz.underlying59 h
  rw [c59] at hl
  obtain ⟨a, b, c, rfl⟩ := len3 hl
  obtain ⟨y0, y1, y2, rfl⟩ := len3 (show xs.length = 3 from hlen)
  have f0 := hx 0 { name := "Name", type := 9, offset := 0, embedded := false, tag := "", pkgPath := "", byteOffset := 0 } rfl
  dsimp only at f0
  rw [c9] at f0
  have f0 : DataW.trod enc Tryz.prog w 0 sp held n 9 [a] = some y0 := f0
  have f1 := hx 1 { name := "Locals", type := 22, offset := 1, embedded := false, tag := "", pkgPath := "", byteOffset := 16 } rfl
  dsimp only at f1
  rw [c22] at f1
  have f1 : DataW.trod enc Tryz.prog w 0 sp held n 22 [b] = some y1 := f1
  have f2 := hx 2 { name := "Body", type := 57, offset := 2, embedded := false, tag := "", pkgPath := "", byteOffset := 40 } rfl
  dsimp only at f2
  rw [c57] at f2
  have f2 : DataW.trod enc Tryz.prog w 0 sp held n 57 [c] = some y2 := f2
  obtain ⟨nm, e0, e0', -⟩ := DataW.trod_string Tryz.underlying9 f0
  have hbk : Rows.uptoBulk y0.1 + (Rows.uptoBulk y1.1 + Rows.uptoBulk y2.1) + 1 ≤ 1048576 := by
    simpa [Rows.uptoBulk, Rows.uptoBulkAll] using hN
  have hy : Rows.uptoBulk y0.1 = nm.data.toList.length + 1 := by rw [e0']; simp [Rows.uptoBulk]
  obtain ⟨a1, c1', ks, e1, k1, k2, k3, k4⟩ := open_row 22 56 3 (by decide) Tryz.underlying22 c56 (fun v : VT => vrW v.vr) (fun (e : VT) cs' => cs' = e.cells ∧ e.In w.heap.size w ∧ vrOk e.vr) n _ _ f1 1048576 (by omega) (fun m hm cs' y hy hby => open_vr m cs' y hy)
  obtain ⟨a2, c2', ls, e2, l1, l2, l3, l4⟩ := open_row 57 87 9 (by decide) Tryz.underlying57 c87 (fun e : ST => stW e.st) (fun (e : ST) cs' => cs' = e.cells ∧ e.In w.heap.size w ∧ stOk e.st) n _ _ f2 1048576 (by omega) (fun m hm cs' y hy hby => open_stmt (m + 1) m (by omega) cs' y hy hby)
  simp at e0 e1 e2
  subst e0 e1 e2
  obtain ⟨r1, o1⟩ := rowV_open k1 k2 k4
  obtain ⟨r2, o2⟩ := rowS_open (N := 0) l1 l2 l4
  refine ⟨⟨nm, a1, c1', ks, a2, c2', ls⟩, ⟨rfl, ⟨r1, r2⟩, o1, ?_⟩, ?_⟩
  · show stOks (ls.map ST.st)
    rw [← ST.sts_eq]
    exact stOks_of ls o2
  · show nm.data.toList.length + 1 + ((ks.map VT.vr).map vrW).sum + stWs (ls.map ST.st) ≤ _
    rw [← ST.sts_eq, stWs_sum, List.map_map]
    have e : (ks.map (vrW ∘ VT.vr)).sum = (ks.map fun v : VT => vrW v.vr).sum := rfl
    rw [e]
    simp only [List.map_cons, List.map_nil, Rows.uptoBulk, Rows.uptoBulkAll]
    omega

end
end Go.Proofs.YtcmahiphfpgadaaGreatDoor

/- How long texts can be. -/
namespace Go.Proofs.YtcmahiphfpgadaaGreatDoor
set_option linter.unusedVariables false

theorem le_sum {α : Type} (g : α → Nat) : ∀ (l : List α) (a : α), a ∈ l → g a ≤ (l.map g).sum
  | [], a, h => by cases h
  | x :: r, a, h => by
    simp only [List.map_cons, List.sum_cons]
    rcases List.mem_cons.1 h with rfl | h
    · omega
    · have := le_sum g r a h; omega

end Go.Proofs.YtcmahiphfpgadaaGreatDoor
