/- Joined texts of the proof. -/
import Derived.Test.YtcmahiphfpgadaaGreatDoorJ21
import Derived.Test.YtcmahiphfpgadaaGreatDoorJ15

/- The document's own values. -/
namespace Go.Proofs.YtcmahiphfpgadaaGreatDoor
open Ieee Go.RowKit
set_option linter.unusedVariables false
theorem wpList_store_u64 {ops : Array Oper} {rest : List Oper} {o : Oper} {a : Act} {w : World} {Q : Exit → Act → World → Prop} (hgd : o.guard = none) (x y : Operand) (ho : o.op = .store 29 x y) (g off : Nat) (n : Int)
  (hx : a.eval x = .pointer (some ⟨g, off, none⟩)) (hy : a.eval y = .int .u64 n) (u : Value) (r : w.cell? ⟨g, off, none⟩ = some u) (f : w.frozen? ⟨g, off, none⟩ = false)
  (h : wpList Tryz.prog ops Q rest (a.put o.dst undef) (w.setCell ⟨g, off, none⟩ (.int .u64 n))) : wpList Tryz.prog ops Q (o :: rest) a w := by
 refine wpList_plain hgd fun K hK => ?_
 have hH := hK _ _ h
 clear hK h
 unfold Oper.wp execOp
 simp only [ho, hx, hy]
 go_simp
 exact hH

theorem fneg_pos (b : Nat) (h : isNan b = false) (hb : b < 9223372036854775808) : fneg b = b + 9223372036854775808 := by
 unfold fneg
 rw [h, if_neg (by simp), if_pos hb]
theorem fneg_neg (b : Nat) (h : isNan b = false) (hb : 9223372036854775808 ≤ b) : fneg b = b - 9223372036854775808 := by
 unfold fneg
 rw [h, if_neg (by simp), if_neg (by omega)]
theorem nan_fneg (b : Nat) (hb : b < 18446744073709551616) (h : isNan b = false) : isNan (fneg b) = false := by rw [isNan_fneg hb]; exact h
theorem val3_none (b : Nat) (hb : b < 9223372036854775808) (h1 : b ≠ NAN) (h2 : b ≠ 9218868437227405312) (hP : pr (home b) 1 6 = none) : valOk 3 b = false := by
 show ((home b == b) && !(Lib.hasPrefix (textOf (home b)) [35])) = false
 cases hn : isNan b with
 | true =>
  have : (home b == b) = false := beq_eq_false_iff_ne.2 (by rw [home_nan hn]; exact Ne.symm h1)
  rw [this]
  rfl
 | false =>
  have hh : home b = b := by unfold home; rw [hn]; rfl
  rw [hh] at hP ⊢
  have hh2 : home (b + 9223372036854775808) = b + 9223372036854775808 := by
   rcases home_or (b + 9223372036854775808) with q | q
   ·have : isNan (b + 9223372036854775808) = false := by rw [← fneg_pos b hn hb]; exact nan_fneg b (by omega) hn
    unfold home
    rw [this]
    rfl
   ·exact q
  have hP2 : pr (fneg b) 1 6 = none := by
   rw [fneg_pos b hn hb]
   exact pr_none hh2 (.inr (.inl (by omega)))
  unfold textOf
  rw [if_neg h1, if_neg h2, if_neg (by omega), hP, hP2]
  simp [Lib.hasPrefix]
theorem val_lit (t b : Nat) (hb : b < 18446744073709551616) (h : ¬ (t = 1 ∧ 9223372036854775808 < b)) (h3 : ¬ (t = 3 ∧ 9223372036854775808 ≤ b)) : valOk t b = litOk t b := by
 by_cases t1 : t = 1
 ·subst t1
  by_cases hl : b < 9223372036854775808
  ·rw [(lit1_yes b hl).1]
   exact decide_eq_true (by omega)
  ·have hbe : b = 9223372036854775808 := by omega
   subst hbe
   rfl
 by_cases t2 : t = 2
 ·subst t2
  rw [lit2_ok]
  rfl
 by_cases t3 : t = 3
 ·subst t3
  have hlt : b < 9223372036854775808 := by omega
  by_cases hn : b = NAN
  ·subst hn
   decide +kernel
  by_cases hi : b = 9218868437227405312
  ·subst hi
   decide +kernel
  cases hP : pr (home b) 1 6 with
  | some kn =>
   obtain ⟨k, n⟩ := kn
   obtain ⟨-, q2, -, -⟩ := lit3_some b k n hn hi hP
   rw [q2]
   unfold litOk at q2
   exact (Bool.and_eq_true _ _ ▸ q2).1
  | none => rw [val3_none b hlt hn hi hP, lit3_none b hn hi hP]
 ·rw [litO t b t1 t2 t3]
  unfold valOk
  rw [if_neg t1, if_neg t2, if_neg t3]
theorem val3_neg (b : Nat) (hb : b < 9223372036854775808) : (b = NAN → valOk 3 (b + 9223372036854775808) = false) ∧ (b ≠ NAN → valOk 3 (b + 9223372036854775808) = litOk 3 b ∧ (litOk 3 b = true → valTx 3 (b + 9223372036854775808) = 45 :: valTx 3 b)) := by
 obtain ⟨B, hB⟩ : ∃ B, B = b + 9223372036854775808 := ⟨_, rfl⟩
 rw [← hB]
 refine ⟨fun h => ?_, fun h => ?_⟩
 ·subst h
  subst hB
  decide +kernel
 ·cases hn : isNan b with
  | true =>
   have hB' : isNan B = true := by
    cases hq : isNan B with
    | true => rfl
    | false =>
     have := nan_fneg B (by omega) hq
     rw [fneg_neg B hq (by omega), hB, Nat.add_sub_cancel, hn] at this
     cases this
   have e1 : valOk 3 B = false := by
    show ((home B == B) && _) = false
    have : (home B == B) = false := beq_eq_false_iff_ne.2 (by rw [home_nan hB']; show 9221120237041090560 ≠ B; omega)
    rw [this]
    rfl
   have e2 : litOk 3 b = false := by
    unfold litOk
    show (((home b == b) && _) && _) = false
    have : (home b == b) = false := beq_eq_false_iff_ne.2 (by rw [home_nan hn]; exact Ne.symm h)
    rw [this]
    rfl
   rw [e1, e2]
   exact ⟨rfl, fun h => by cases h⟩
  | false =>
   have hBn : isNan B = false := by
    rw [hB, ← fneg_pos b hn hb]
    exact nan_fneg b (by omega) hn
   have hhB : home B = B := by unfold home; rw [hBn]; rfl
   have hhb : home b = b := by unfold home; rw [hn]; rfl
   have hfB : fneg B = b := by rw [fneg_neg B hBn (by omega), hB, Nat.add_sub_cancel]
   have hPB : pr B 1 6 = none := pr_none hhB (.inr (.inl (by omega)))
   by_cases hi : b = 9218868437227405312
   ·subst hi
    subst hB
    decide +kernel
   ·have ht : textOf B = match pr b 1 6 with
     | some (k, n) => 45 :: litOf k n
     | none => 35 :: hexOf (bytesOf 8 B) := by
     unfold textOf
     rw [if_neg (by show ¬ B = 9221120237041090560; omega), if_neg (by omega), if_neg (by omega), hPB, hfB]
     rfl
    cases hP : pr b 1 6 with
    | some kn =>
     obtain ⟨k, n⟩ := kn
     rw [hP] at ht
     obtain ⟨-, q2, q3, -⟩ := lit3_some b k n h hi (by rw [hhb]; exact hP)
     have hv : valTx 3 B = 45 :: litOf k n := by
      show textOf (home B) = _
      rw [hhB, ht]
     refine ⟨?_, fun _ => by rw [hv, q3]⟩
     rw [q2]
     show ((home B == B) && !(Lib.hasPrefix (textOf (home B)) [35])) = true
     rw [hhB, ht, beq_self_eq_true]
     rfl
    | none =>
     rw [hP] at ht
     have q2 := lit3_none b h hi (by rw [hhb]; exact hP)
     rw [q2]
     refine ⟨?_, fun h => by cases h⟩
     show ((home B == B) && !(Lib.hasPrefix (textOf (home B)) [35])) = false
     rw [hhB, ht]
     simp [Lib.hasPrefix]

/-- What the document's Value answers. -/
def rvT (t b : Nat) : List UInt8 := if valOk t b then valTx t b else []
def rvE (t b : Nat) : Int := if valOk t b then 0 else 2

set_option maxRecDepth 100000 in
set_option maxHeartbeats 6400000 in
theorem refValue_any (t b : Nat) (ht : t < 256) (hb : b < 18446744073709551616) (w : World) :
  Calls Tryz.prog 15 #[.agg #[.int .u8 (t : Int), .int .u64 (b : Int)]] w fun r w' => r = .returned (.tuple #[.string ⟨(rvT t b).toArray⟩, .int .i64 (rvE t b)]) ∧ Below w.heap.size w w' := by
 by_cases hneg : t = 1 ∧ 9223372036854775808 < b
 ·obtain ⟨rfl, hlt⟩ := hneg
  have HV : Hid (rvT 1 b = 45 :: Lib.decDigits (18446744073709551616 - b) ∧ rvE 1 b = 0) := by
   have : valOk 1 b = true := decide_eq_true (by omega)
   unfold rvT rvE
   rw [this, lit1_neg b hlt hb]
   exact ⟨rfl, rfl⟩
  have hC : Hid (∀ z : Int, z = ((18446744073709551616 - b : Nat) : Int) → ∀ w, Calls Tryz.prog 41 #[.int .u64 z] w fun e w' => e = .returned (.string ⟨(Lib.decDigits (18446744073709551616 - b)).toArray⟩) ∧ Below w.heap.size w w') := fun z hz w => by
   rw [hz]
   exact refDec_dd _ (by omega) w
  have hlen := dd_len (18446744073709551616 - b) (by omega)
  obtain ⟨d, hd⟩ : ∃ d, d = Lib.decDigits (18446744073709551616 - b) := ⟨_, rfl⟩
  rw [← hd] at HV hC hlen
  have hsz : (⟨d.toArray⟩ : ByteArray).size = d.length := size_mk d
  have hgt : (9223372036854775808 : Int) < (b : Int) := by omega
  have hw : IntKind.u64.wrap (-(b : Int)) = ((18446744073709551616 - b : Nat) : Int) := by rw [IntKind.wrap_u64]; omega
  clear hd
  go_enter Tryz.func15, Tryz.ntmps15
  go_wp2_with (first
   | ((with_reducible show wpList _ _ _ _ _ _); refine wpList_box_at rfl 31 (.tmp 0) rfl [.int .u8 ((1 : Nat) : Int), .int .u64 (b : Int)] rfl ?_; intro w1 hA1 hb1 hs1; clear hs1; refine Hid.out ?_))
  refine hidU ?_
  obtain ⟨c0, c1⟩ := vl_cells hA1
  go_wp2_with (go_at_call 41; refine (hC.out _ (by first | rfl | omega | exact hw) _).mono ?_; rintro e x ⟨rfl, hbx⟩; refine Hid.out ?_)
  refine hidU ?_
  have hwx := hb1.trans (hbx.mono hb1.size)
  clear hA1 c0 c1 hb1 hbx hC hw
  go_wp2
  all_goals first
   | (exfalso; omega)
   | skip
  go_ret2
  refine ⟨?_, hwx⟩
  rw [HV.out.1, HV.out.2, ← cat_one]
  rfl
 by_cases hn3 : t = 3 ∧ 9223372036854775808 ≤ b
 ·obtain ⟨rfl, hle⟩ := hn3
  obtain ⟨c, hc⟩ : ∃ c, b = c + 9223372036854775808 := ⟨b - 9223372036854775808, by omega⟩
  have hc63 : c < 9223372036854775808 := by omega
  obtain ⟨v1, v2⟩ := val3_neg c hc63
  rw [← hc] at v1 v2
  have hge : (9223372036854775808 : Int) ≤ (b : Int) := by omega
  have hsub : (b : Int) - 9223372036854775808 = (c : Int) := by omega
  have hwr : IntKind.u64.wrap (c : Int) = (c : Int) := by rw [IntKind.wrap_u64]; omega
  have HV : Hid ((c = NAN → valOk 3 b = false) ∧ (c ≠ NAN → valOk 3 b = litOk 3 c ∧ (litOk 3 c = true → valTx 3 b = 45 :: valTx 3 c))) := ⟨v1, v2⟩
  have HC : Hid (∀ w, Calls Tryz.prog 42 #[.agg #[.int .u8 3, .int .u64 (c : Int)]] w fun r w' => Hid (∃ s : List UInt8, r = .returned (.tuple #[.string ⟨s.toArray⟩, .bool (litOk 3 c)]) ∧ (litOk 3 c = true → s = valTx 3 c) ∧ s.length ≤ 44) ∧ Below w.heap.size w w') := fun w => refLit_any 3 c (by decide) (by omega) w
  clear v1 v2 hc hneg
  go_enter Tryz.func15, Tryz.ntmps15
  go_wp2_with (first
   | ((with_reducible show wpList _ _ _ _ _ _); refine wpList_box_at rfl 31 (.tmp 0) rfl [.int .u8 ((3 : Nat) : Int), .int .u64 (b : Int)] rfl ?_; intro w1 hA1 hb1 hs1; clear hs1; refine Hid.out ?_))
  refine hidU ?_
  obtain ⟨c0, c1⟩ := vl_cells hA1
  have f1 := hA1.frozen 1
  go_wp2_with (first
   | ((with_reducible show wpList _ _ _ _ _ _); refine wpList_store_u64 rfl (.tmp 31) (.tmp 30) rfl w.heap.size 1 (c : Int) rfl (by first | rfl | (simp [hsub, hwr]; done)) _ c1 f1 ?_; refine Hid.out ?_))
  refine hidU ?_
  have hA2 := hA1.set 1 (.int .u64 (c : Int))
  have hb2 : Below w.heap.size w (w1.setCell ⟨w.heap.size, 1, none⟩ (.int .u64 (c : Int))) := ((But.refl w.heap.size w1).setCell 1 _).below hb1 (Nat.le_refl _) hb1.size
  generalize hw2 : w1.setCell ⟨w.heap.size, 1, none⟩ (.int .u64 (c : Int)) = w2 at hA2 hb2 ⊢
  have hA2 : At 31 w2 w.heap.size [.int .u8 ((3 : Nat) : Int), .int .u64 (c : Int)] := hA2
  clear hw2 hA1 c0 c1 f1 hb1 hsub hwr hge
  obtain ⟨c0, c1⟩ := vl_cells hA2
  by_cases hn : c = NAN
  ·have hN : ((NAN : Nat) : Int) = 9221120237041090560 := by decide
   subst hn
   have HQ : Hid (rvT 3 b = [] ∧ rvE 3 b = 2) := by
    unfold rvT rvE
    rw [HV.out.1 rfl]
    exact ⟨rfl, rfl⟩
   go_wp2
   go_ret2
   refine ⟨?_, hb2⟩
   rw [HQ.out.1, HQ.out.2]
   rfl
  ·have hni : ¬ (c : Int) = 9221120237041090560 := by
    intro h
    apply hn
    show c = 9221120237041090560
    omega
   obtain ⟨V, hV⟩ : ∃ V, V = litOk 3 c := ⟨_, rfl⟩
   have HQ : Hid (∀ s, (V = true → s = valTx 3 c) → (V = true → rvT 3 b = 45 :: s ∧ rvE 3 b = 0) ∧ (V = false → rvT 3 b = [] ∧ rvE 3 b = 2)) := fun s hs => by
    obtain ⟨k1, k2⟩ := HV.out.2 hn
    rw [← hV] at k1 k2
    unfold rvT rvE
    refine ⟨fun h => ?_, fun h => ?_⟩
    ·rw [k1, h, hs h]
     exact ⟨k2 h, rfl⟩
    ·rw [k1, h]
     exact ⟨rfl, rfl⟩
   have hC := HC.out w2
   rw [← hV] at hC
   clear HC HV hV
   go_wp2_with (go_at_call 42; refine hC.mono ?_; rintro r x ⟨hq, hbx⟩; obtain ⟨s, rfl, hs, hl⟩ := hq.out; refine Hid.out ?_)
   refine hidU ?_
   have hwx := hb2.trans (hbx.mono hb2.size)
   have HS := HQ.out s hs
   have HS : Hid _ := HS
   have hsz : (⟨s.toArray⟩ : ByteArray).size = s.length := size_mk s
   clear hC hA2 c0 c1 hbx hb2 hq hs HQ
   cases V with
   | true =>
    go_wp2
    all_goals first
     | (exfalso; omega)
     | skip
    go_ret2
    refine ⟨?_, hwx⟩
    first
     | (rw [(HS.out.1 (by first | rfl | trivial)).1, (HS.out.1 (by first | rfl | trivial)).2, ← cat_one]; rfl)
     | (rw [← cat_one]; rfl)
   | false =>
    go_wp2
    go_ret2
    refine ⟨?_, hwx⟩
    first
     | (rw [(HS.out.2 (by first | rfl | trivial)).1, (HS.out.2 (by first | rfl | trivial)).2]; rfl)
     | rfl
 ·have hvl := val_lit t b hb hneg hn3
  obtain ⟨V, hV⟩ : ∃ V, V = litOk t b := ⟨_, rfl⟩
  have HQ : Hid (∀ s, (V = true → s = valTx t b) → (V = true → rvT t b = s ∧ rvE t b = 0) ∧ (V = false → rvT t b = [] ∧ rvE t b = 2)) := fun s hs => by
   unfold rvT rvE
   rw [hvl, ← hV]
   refine ⟨fun h => ?_, fun h => ?_⟩
   ·rw [h, hs h]
    exact ⟨rfl, rfl⟩
   ·rw [h]
    exact ⟨rfl, rfl⟩
  have HC : Hid (∀ w, Calls Tryz.prog 42 #[.agg #[.int .u8 (t : Int), .int .u64 (b : Int)]] w fun r w' => Hid (∃ s : List UInt8, r = .returned (.tuple #[.string ⟨s.toArray⟩, .bool V]) ∧ (V = true → s = valTx t b) ∧ s.length ≤ 44) ∧ Below w.heap.size w w') := fun w => by
   rw [hV]
   exact refLit_any t b ht hb w
  have q1 : ((t : Int) == 1 && decide ((9223372036854775808 : Int) < (b : Int))) = false := by
   rw [Bool.and_eq_false_iff]
   by_cases h1 : t = 1
   ·exact .inr (decide_eq_false (by omega))
   ·exact .inl (beq_eq_false_iff_ne.2 (by omega))
  clear hV hvl
  by_cases h1 : t = 1
  ·have hbi : ¬ (9223372036854775808 : Int) < (b : Int) := by omega
   have h13 : ¬ (t : Int) = 3 := by omega
   subst h1
   clear q1 hneg hn3
   go_enter Tryz.func15, Tryz.ntmps15
   go_wp2_with (first
    | ((with_reducible show wpList _ _ _ _ _ _); refine wpList_box_at rfl 31 (.tmp 0) rfl [.int .u8 _, .int .u64 (b : Int)] rfl ?_; intro w1 hA1 hb1 hs1; clear hs1; refine Hid.out ?_))
   refine hidU ?_
   obtain ⟨c0, c1⟩ := vl_cells hA1
   have hC := HC.out w1
   clear HC
   go_wp2_with (go_at_call 42; refine hC.mono ?_; rintro r x ⟨hq, hbx⟩; obtain ⟨s, rfl, hs, hl⟩ := hq.out; refine Hid.out ?_)
   refine hidU ?_
   have hwx := hb1.trans (hbx.mono hb1.size)
   have HS := HQ.out s hs
   have HS : Hid _ := HS
   have hsz : (⟨s.toArray⟩ : ByteArray).size = s.length := size_mk s
   clear hC hA1 c0 c1 hbx hb1 hq hs HQ
   cases V with
   | true =>
    go_wp2
    all_goals first
     | (exfalso; omega)
     | skip
    go_ret2
    refine ⟨?_, hwx⟩
    first
     | (rw [(HS.out.1 (by first | rfl | trivial)).1, (HS.out.1 (by first | rfl | trivial)).2]; simp; exact ByteArray.mk_append_mk [] s)
     | (simp; exact ByteArray.mk_append_mk [] s)
   | false =>
    go_wp2
    go_ret2
    refine ⟨?_, hwx⟩
    first
     | (rw [(HS.out.2 (by first | rfl | trivial)).1, (HS.out.2 (by first | rfl | trivial)).2]; rfl)
     | rfl
  ·have hti : ¬ (t : Int) = 1 := by omega
   by_cases h3 : t = 3
   ·have hbi : decide ((9223372036854775808 : Int) ≤ (b : Int)) = false := decide_eq_false (by omega)
    subst h3
    clear q1 hneg hn3
    go_enter Tryz.func15, Tryz.ntmps15
    go_wp2_with (first
     | ((with_reducible show wpList _ _ _ _ _ _); refine wpList_box_at rfl 31 (.tmp 0) rfl [.int .u8 _, .int .u64 (b : Int)] rfl ?_; intro w1 hA1 hb1 hs1; clear hs1; refine Hid.out ?_))
    refine hidU ?_
    obtain ⟨c0, c1⟩ := vl_cells hA1
    have hC := HC.out w1
    clear HC
    go_wp2_with (go_at_call 42; refine hC.mono ?_; rintro r x ⟨hq, hbx⟩; obtain ⟨s, rfl, hs, hl⟩ := hq.out; refine Hid.out ?_)
    refine hidU ?_
    have hwx := hb1.trans (hbx.mono hb1.size)
    have HS := HQ.out s hs
    have HS : Hid _ := HS
    have hsz : (⟨s.toArray⟩ : ByteArray).size = s.length := size_mk s
    clear hC hA1 c0 c1 hbx hb1 hq hs HQ
    cases V with
    | true =>
     go_wp2
     all_goals first
      | (exfalso; omega)
      | skip
     go_ret2
     refine ⟨?_, hwx⟩
     first
      | (rw [(HS.out.1 (by first | rfl | trivial)).1, (HS.out.1 (by first | rfl | trivial)).2]; simp; exact ByteArray.mk_append_mk [] s)
      | (simp; exact ByteArray.mk_append_mk [] s)
    | false =>
     go_wp2
     go_ret2
     refine ⟨?_, hwx⟩
     first
      | (rw [(HS.out.2 (by first | rfl | trivial)).1, (HS.out.2 (by first | rfl | trivial)).2]; rfl)
      | rfl
   ·have h13 : ¬ (t : Int) = 3 := by omega
    clear q1 hneg hn3
    go_enter Tryz.func15, Tryz.ntmps15
    go_wp2_with (first
     | ((with_reducible show wpList _ _ _ _ _ _); refine wpList_box_at rfl 31 (.tmp 0) rfl [.int .u8 _, .int .u64 (b : Int)] rfl ?_; intro w1 hA1 hb1 hs1; clear hs1; refine Hid.out ?_))
    refine hidU ?_
    obtain ⟨c0, c1⟩ := vl_cells hA1
    have hC := HC.out w1
    clear HC
    go_wp2_with (go_at_call 42; refine hC.mono ?_; rintro r x ⟨hq, hbx⟩; obtain ⟨s, rfl, hs, hl⟩ := hq.out; refine Hid.out ?_)
    refine hidU ?_
    have hwx := hb1.trans (hbx.mono hb1.size)
    have HS := HQ.out s hs
    have HS : Hid _ := HS
    have hsz : (⟨s.toArray⟩ : ByteArray).size = s.length := size_mk s
    clear hC hA1 c0 c1 hbx hb1 hq hs HQ
    cases V with
    | true =>
     go_wp2
     all_goals first
      | (exfalso; omega)
      | skip
     go_ret2
     refine ⟨?_, hwx⟩
     first
      | (rw [(HS.out.1 (by first | rfl | trivial)).1, (HS.out.1 (by first | rfl | trivial)).2]; simp; exact ByteArray.mk_append_mk [] s)
      | (simp; exact ByteArray.mk_append_mk [] s)
    | false =>
     go_wp2
     go_ret2
     refine ⟨?_, hwx⟩
     first
      | (rw [(HS.out.2 (by first | rfl | trivial)).1, (HS.out.2 (by first | rfl | trivial)).2]; rfl)
      | rfl

end Go.Proofs.YtcmahiphfpgadaaGreatDoor

/- How high an expression is: tree.Height and the document's own. -/
namespace Go.Proofs.YtcmahiphfpgadaaGreatDoor
open Go.RowKit
set_option linter.unusedVariables false

mutual
def htX : Ex → Nat
 | .mk _ _ _ _ ks => htL ks + 1
def htL : List Ex → Nat
 | [] => 0
 | e :: r => max (htX e) (htL r)
end
mutual
theorem htX_le : ∀ e : Ex, htX e ≤ exW e
 | .mk _ _ _ nm ks => by rw [htX, exW]; have := htL_le ks; omega
theorem htL_le : ∀ l : List Ex, htL l ≤ exWs l
 | [] => by simp [htL]
 | e :: r => by rw [htL, exWs]; have := htX_le e; have := htL_le r; omega
end
theorem htL_snoc : ∀ (l : List Ex) (e : Ex), htL (l ++ [e]) = max (htL l) (htX e)
 | [], e => by simp [htL]
 | x :: r, e => by rw [List.cons_append, htL, htL, htL_snoc r e]; omega
theorem htL_take_le : ∀ (l : List Ex) (i : Nat), htL (l.take i) ≤ htL l
 | [], i => by simp
 | x :: r, 0 => by simp [htL]
 | x :: r, i + 1 => by rw [List.take_succ_cons, htL, htL]; have := htL_take_le r i; omega

def HtW (F B : Nat) (x : ET) : Prop := ∀ (w : World), x.In B w → B ≤ w.heap.size → Calls Tryz.prog F #[.agg x.cells.toArray] w fun r w' => r = .returned (.int .i64 (htX x.ex : Int)) ∧ Below w.heap.size w w'

set_option maxRecDepth 100000 in
set_option maxHeartbeats 3200000 in
theorem height21_of (B : Nat) (op t b : Nat) (nm : ByteArray) (a : Option Addr) (c : Nat) (ks : List ET) (hS : ∀ k ∈ ks, HtW 21 B k) (hW : htL (ks.map ET.ex) ≤ 1048576) : HtW 21 B (.mk op t b nm a c ks) := by
 intro w hx hBw
 unfold ET.In at hx
 obtain ⟨_, _, _, x1, x2, x3⟩ := hx
 have HR : Hid (RowE B w a c ks) := ⟨x1, x2, x3⟩
 obtain ⟨n, hn⟩ : ∃ n, Hid (n = ks.length) := ⟨_, (rfl : ks.length = _)⟩
 obtain ⟨T, hT⟩ : ∃ T : Nat, Hid (T = htL (ks.map ET.ex)) := ⟨_, (rfl : _ = htL (ks.map ET.ex))⟩
 have hTx : htX (ET.mk op t b nm a c ks).ex = T + 1 := by
  show htX (.mk op t b nm.data.toList (ET.exs ks)) = _
  rw [htX, ET.exs_eq, hT.out]
 rw [hTx]
 have hTl : T ≤ 1048576 := by rw [hT.out]; exact hW
 show Calls Tryz.prog 21 #[.agg (ex5 op t b nm (.slice a ks.length c)).toArray] w _
 rw [← hn.out] at x1 x2 ⊢
 have HS : Hid (∀ k ∈ ks, HtW 21 B k) := hS
 clear x3 hS hTx hW
 go_enter Tryz.func21, Tryz.ntmps21
 go_wp2_with (first
  | ((with_reducible show wpList _ _ _ _ _ _); refine wpList_box_at rfl 34 (.tmp 0) rfl (ex5 op t b nm (.slice a n c)) rfl ?_; intro w1 hA1 hb1 hs1; clear hs1; refine Hid.out ?_))
 refine hidU ?_
 have HB : Hid (At 34 w1 w.heap.size (ex5 op t b nm (.slice a n c))) := hA1
 clear hA1
 go_wp2_with fail
 go_loopw [3, 4] (fun u j wr => ∃ i : Nat, j = .int .i64 (i : Int) ∧ i ≤ n ∧ Hid ((∃ z : Nat, u = .int .i64 (z : Int) ∧ z = htL ((ks.map ET.ex).take i)) ∧ Below w1.heap.size w1 wr)) (fun u j _ => n - (intOf j).toNat)
 case atStart => exact ⟨0, rfl, by omega, ⟨0, rfl, by simp [htL]⟩, Below.refl _ _⟩
 case round =>
  obtain ⟨i, rfl, hi, hX⟩ := hrel
  obtain ⟨⟨z, rfl, hz⟩, hbr⟩ := hX.out
  have hwr : Below w.heap.size w wr := hb1.trans (hbr.mono hb1.size)
  have hzl : z ≤ 1048576 := by rw [hz]; exact Nat.le_trans (htL_take_le _ _) (by rw [← hT.out]; exact hTl)
  obtain ⟨-, -, -, -, q4⟩ := ex_cells (HB.out.below hbr)
  by_cases hc : i < n
  ·obtain ⟨x, hx⟩ : ∃ k, ks[i]? = some k := ⟨ks[i]'(by rw [← hn.out]; exact hc), by rw [List.getElem?_eq_getElem]⟩
   have hold : Old B w wr := Old.of_below hwr hBw
   obtain ⟨g1, o1, rfl, hg1, hr1, hx1⟩ := (HR.out.old hold).at i x hx
   have hI := HS.out x (List.mem_of_getElem? hx) wr hx1 (by have := hwr.size; omega)
   obtain ⟨Y, hY⟩ : ∃ Y : Nat, Hid (Y = htX x.ex) := ⟨_, (rfl : _ = htX x.ex)⟩
   have HT1 : Hid (max z Y = htL ((ks.map ET.ex).take (i + 1))) := by
    show _ = _
    rw [List.take_add_one, List.getElem?_map, hx, hz, hY.out]
    exact (htL_snoc _ _).symm
   rw [← hY.out] at hI
   obtain ⟨xop, xt, xb, xnm, xa, xc, xk⟩ := x
   have hI : Calls Tryz.prog 21 #[.agg #[.int .u8 (xop : Int), .int .u8 (xt : Int), .int .u64 (xb : Int), .string xnm, .slice xa xk.length xc]] wr fun r w' => r = .returned (.int .i64 (Y : Int)) ∧ Below wr.heap.size wr w' := hI
   obtain ⟨x0, x1', x2', x3', x4'⟩ := ex_mid (s := .slice xa xk.length xc) hr1
   clear hX hx hx1 hold hr1 hY
   go_wp2_with fail
   refine hI.mono ?_
   rintro r w3 ⟨rfl, hb3⟩
   have hw3 : Below w1.heap.size w1 w3 := hbr.trans (hb3.mono hbr.size)
   clear hI q4 x0 x1' x2' x3' x4'
   go_wp2
   go_roundw
   case rel => exact ⟨i + 1, by go_num, by omega, ⟨max z Y, by first | rfl | (congr 1; omega) | simp, HT1.out⟩, hw3⟩
   case measure => simp [intOf]; omega
  ·have hin : i = n := by omega
   have hzT : z = T := by rw [hz, hin, hn.out, hT.out, List.take_of_length_le (by simp)]
   clear hX hz
   go_wp2
   go_ret
   exact ⟨by rw [hzT]; rfl, hwr⟩

theorem height21_any (B : Nat) (M : Nat) : ∀ x : ET, SizeOf.sizeOf x < M → exW x.ex ≤ 1048576 → HtW 21 B x := by
 induction M with
 | zero => intro x h; omega
 | succ M ih =>
  rintro ⟨op, t, b, nm, a, c, ks⟩ hN hW
  have e : (ET.mk op t b nm a c ks).ex = .mk op t b nm.data.toList (ET.exs ks) := rfl
  rw [e, ET.exs_eq] at hW
  refine height21_of B op t b nm a c ks (fun k hk => ih k (by have := ET.sz (op := op) (t := t) (b := b) (c := c) (nm := nm) (a := a) hk; omega) ?_) ?_
  ·have := exW_kid op t b nm.data.toList (ks.map ET.ex) k.ex (List.mem_map_of_mem hk)
   omega
  ·rw [exW] at hW
   have := htL_le (ks.map ET.ex)
   omega
end Go.Proofs.YtcmahiphfpgadaaGreatDoor

/- How high an expression is: tree.Height. -/
namespace Go.Proofs.YtcmahiphfpgadaaGreatDoor
open Go.RowKit
set_option linter.unusedVariables false

end Go.Proofs.YtcmahiphfpgadaaGreatDoor

/- Which expressions may be printed, however high. -/
namespace Go.Proofs.YtcmahiphfpgadaaGreatDoor
open Go.RowKit
set_option linter.unusedVariables false

mutual
/-- Whether an expression may be printed, however high. -/
def mayX : Ex → Bool
 | .mk op t b nm ks => decide ((ks.length : Int) = opnds op) && ((if op = 1 then litOk t b && decide (nm = []) else if op = 2 then isNm nm && decide (t = 0 ∧ b = 0) else decide (nm = []) && decide (t = 0 ∧ b = 0)) && mayXs ks)
def mayXs : List Ex → Bool
 | [] => true
 | e :: r => mayX e && mayXs r
end
theorem all_may (h : Nat) (ih : ∀ e, mayE h e = (decide (htX e ≤ h) && mayX e)) : ∀ ks : List Ex, ks.all (mayE h) = (decide (htL ks ≤ h) && mayXs ks)
 | [] => by simp [htL, mayXs]
 | e :: r => by
  rw [List.all_cons, ih e, all_may h ih r, htL, mayXs]
  by_cases h1 : htX e ≤ h
  ·by_cases h2 : htL r ≤ h
   ·rw [decide_eq_true h1, decide_eq_true h2, decide_eq_true (p := max (htX e) (htL r) ≤ h) (by omega)]
    simp
   ·rw [decide_eq_true h1, decide_eq_false h2, decide_eq_false (p := max (htX e) (htL r) ≤ h) (by omega)]
    simp
  ·rw [decide_eq_false h1, decide_eq_false (p := max (htX e) (htL r) ≤ h) (by omega)]
   simp
theorem mayE_eq : ∀ (h : Nat) (e : Ex), mayE h e = (decide (htX e ≤ h) && mayX e)
 | 0, .mk op t b nm ks => by
  rw [mayE, htX, decide_eq_false (by omega)]
  rfl
 | h + 1, .mk op t b nm ks => by
  have ih := mayE_eq h
  rw [mayE, htX, mayX, all_may h ih ks]
  by_cases hl : (ks.length : Int) = opnds op
  ·rw [decide_eq_true hl, Bool.true_and, Bool.true_and]
   by_cases h1 : op = 1
   ·subst h1
    have hk : ks = [] := List.length_eq_zero_iff.1 (by have : opnds 1 = 0 := rfl; omega)
    subst hk
    simp [htL, mayXs]
   by_cases h2 : op = 2
   ·subst h2
    have hk : ks = [] := List.length_eq_zero_iff.1 (by have : opnds 2 = 0 := rfl; omega)
    subst hk
    simp [htL, mayXs]
   ·rw [if_neg h1, if_neg h2, if_neg h1, if_neg h2]
    by_cases h3 : htL ks ≤ h
    ·rw [decide_eq_true h3, decide_eq_true (p := htL ks + 1 ≤ h + 1) (by omega), Bool.true_and, Bool.true_and, Bool.and_comm]
    ·rw [decide_eq_false h3, decide_eq_false (p := htL ks + 1 ≤ h + 1) (by omega)]
     simp
  ·rw [decide_eq_false hl]
   simp
theorem mayXs_take : ∀ (ks : List Ex) (i : Nat) (k : Ex), ks[i]? = some k → mayXs (ks.take (i + 1)) = (mayXs (ks.take i) && mayX k)
 | [], i, k, h => by simp at h
 | e :: r, 0, k, h => by
  simp at h
  subst h
  simp [mayXs]
 | e :: r, i + 1, k, h => by
  have := mayXs_take r i k (by simpa using h)
  simp only [List.take_succ_cons, mayXs]
  rw [this, Bool.and_assoc]
theorem mayXs_no : ∀ (ks : List Ex) (k : Ex), k ∈ ks → mayX k = false → mayXs ks = false
 | [], k, h, _ => by cases h
 | e :: r, k, h, hk => by
  rw [mayXs]
  rcases List.mem_cons.1 h with rfl | h
  ·rw [hk]
   rfl
  ·rw [mayXs_no r k h hk, Bool.and_false]

/-- An expression's text, as the document tells it. -/
def RxW (B : Nat) (x : ET) : Prop := ∀ w, x.In B w → B ≤ w.heap.size → Calls Tryz.prog 39 #[.agg x.cells.toArray] w fun r w' => Hid (∃ s : List UInt8, r = .returned (.tuple #[.string ⟨s.toArray⟩, .bool (mayX x.ex)]) ∧ (mayX x.ex = true → s = exT x.ex) ∧ s.length ≤ 64 * exW x.ex) ∧ Below w.heap.size w w'

/-- The part of the law that looks at no operand. -/
def bareX (op t b : Nat) (nm : List UInt8) : Bool := (decide (op = 1) || decide (t = 0 ∧ b = 0)) && (decide (op = 2) || decide (nm = []))
theorem mayX_bare (op t b : Nat) (nm : List UInt8) (ks : List Ex) (h : bareX op t b nm = false) : mayX (.mk op t b nm ks) = false := by
 rw [mayX]
 unfold bareX at h
 by_cases h1 : op = 1
 ·subst h1
  have : decide (nm = []) = false := by simpa using h
  simp only [if_true]
  rw [this]
  simp
 ·by_cases h2 : op = 2
  ·subst h2
   have : decide (t = 0 ∧ b = 0) = false := by simpa using h
   rw [if_neg (by decide), if_pos rfl, this]
   simp
  ·rw [if_neg h1, if_neg h2]
   rw [decide_eq_false h1, decide_eq_false h2, Bool.false_or, Bool.false_or] at h
   rw [Bool.and_comm (decide (nm = [])), h]
   simp
theorem mayX_kids (op t b : Nat) (nm : List UInt8) (ks : List Ex) (h : mayXs ks = false) : mayX (.mk op t b nm ks) = false := by
 rw [mayX, h]
 simp

end Go.Proofs.YtcmahiphfpgadaaGreatDoor
