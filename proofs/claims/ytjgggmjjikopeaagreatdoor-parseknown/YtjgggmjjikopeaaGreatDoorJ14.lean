/- Joined texts of the proof. -/
import Derived.Test.YtjgggmjjikopeaaGreatDoorJ13
import Derived.Test.YtjgggmjjikopeaaGreatDoorJ9
import Derived.Test.YtjgggmjjikopeaaGreatDoorJ2
import Derived.Test.YtjgggmjjikopeaaGreatDoorJ5
import Derived.Test.YtjgggmjjikopeaaGreatDoorJ12
import Derived.Test.YtjgggmjjikopeaaGreatDoorJ6

/- The reader of programs: values. -/
namespace Go.Proofs.YtjgggmjjikopeaaGreatDoor
open Go.RowKit
set_option linter.unusedVariables false

theorem negV_lt (v : Nat × Nat) (h : v.2 < 18446744073709551616) : (negV v).1 < 256 ∧ (negV v).2 < 18446744073709551616 := by
  unfold negV
  split
  · exact ⟨show (1 : Nat) < 256 by decide, Nat.mod_lt _ (by decide)⟩
  · exact ⟨show (3 : Nat) < 256 by decide, fneg_lt h⟩
theorem neg_u64 (b : Nat) (h : b < 18446744073709551616) : IntKind.u64.wrap (-(b : Int)) = (((18446744073709551616 - b) % 18446744073709551616 : Nat) : Int) := by
  rw [IntKind.wrap_u64]
  omega
set_option maxRecDepth 100000 in
set_option maxHeartbeats 1600000 in
theorem negated_any (vt vb : Nat) (hb : vb < 18446744073709551616) (w : World) : Calls Tryz.prog 128 #[.agg (val2 vt vb).toArray] w fun r w' => r = .returned (.agg (val2 (negV (vt, vb)).1 (negV (vt, vb)).2).toArray) ∧ Below w.heap.size w w' := by
  by_cases h1 : vt = 1
  · have e1 : ((vt : Int) == 1) = true := by rw [beq_iff_eq]; omega
    have hn := neg_u64 vb hb
    have e : negV (vt, vb) = (1, (18446744073709551616 - vb) % 18446744073709551616) := by unfold negV; rw [if_pos h1]
    rw [e]
    obtain ⟨nb, hnb⟩ : ∃ q, Hid (q = (18446744073709551616 - vb) % 18446744073709551616) := ⟨_, (rfl : (18446744073709551616 - vb) % 18446744073709551616 = _)⟩
    rw [← hnb.out] at hn ⊢
    clear e h1 hnb
    go_enter Tryz.func128, Tryz.ntmps128
    go_wp2_with (first
      | ((with_reducible show wpList _ _ _ _ _ _); refine wpList_box_at rfl 40 (.tmp 0) rfl (val2 vt vb) rfl ?_; intro w1 hA1 hb1 hs1; clear hs1)
      | ((with_reducible show wpList _ _ _ _ _ _); refine wpList_alloc_at rfl 40 rfl (val2 0 0) 2 z32 ?_; intro w2 hA2 hb2 hs2; clear hs2; refine Hid.out ?_))
    refine hidU ?_
    obtain ⟨c0, c1⟩ := vl_cells (hA1.below hb2)
    have l01 := hA1.lt
    clear hA1
    go_wp2_with (first
      | ((with_reducible show wpList _ _ _ _ _ _); refine wpList_build_at rfl 40 _ rfl (val2 1 nb) (by first | kernel_rfl | (simp only [hn]; kernel_rfl)) ?_)
      | ((with_reducible show wpList _ _ _ _ _ _); refine wpList_store_at (P := Tryz.prog) rfl 40 (.tmp 2) (.tmp 9) rfl w1.heap.size (val2 1 nb) rfl rfl 40 _ hA2 i32 rfl (one2 _ _) ?_; intro w9 hA9 hb9 hs9))
    refine bodyPost_ret (results_at rfl _ _ w1.heap.size 40 (val2 1 nb) _ rfl hA9 Tryz.underlying40 rfl i32) rfl ?_
    exact ⟨rfl, hb9.below (hb1.trans (hb2.mono hb1.size)) hb1.size (Nat.le_trans hb1.size hb2.size)⟩
  · have e1 : ((vt : Int) == 1) = false := by rw [beq_eq_false_iff_ne]; omega
    have hn := fun u => neg_any vb hb u
    have e : negV (vt, vb) = (3, fneg vb) := by unfold negV; rw [if_neg h1]
    rw [e]
    generalize fneg vb = nb at hn ⊢
    clear e h1
    go_enter Tryz.func128, Tryz.ntmps128
    go_wp2_with (first
      | ((with_reducible show wpList _ _ _ _ _ _); refine wpList_box_at rfl 40 (.tmp 0) rfl (val2 vt vb) rfl ?_; intro w1 hA1 hb1 hs1; clear hs1)
      | ((with_reducible show wpList _ _ _ _ _ _); refine wpList_alloc_at rfl 40 rfl (val2 0 0) 2 z32 ?_; intro w2 hA2 hb2 hs2; clear hs2; refine Hid.out ?_))
    refine hidU ?_
    obtain ⟨c0, c1⟩ := vl_cells (hA1.below hb2)
    have l01 := hA1.lt
    clear hA1
    go_wp2_with (first
      | (go_at_call 161; refine (hn _).mono ?_; rintro r w3 ⟨rfl, rfl⟩)
      | ((with_reducible show wpList _ _ _ _ _ _); refine wpList_build_at rfl 40 _ rfl (val2 3 nb) (by kernel_rfl) ?_)
      | ((with_reducible show wpList _ _ _ _ _ _); refine wpList_store_at (P := Tryz.prog) rfl 40 (.tmp 2) (.tmp 13) rfl w1.heap.size (val2 3 nb) rfl rfl 40 _ hA2 i32 rfl (one2 _ _) ?_; intro w9 hA9 hb9 hs9))
    refine bodyPost_ret (results_at rfl _ _ w1.heap.size 40 (val2 3 nb) _ rfl hA9 Tryz.underlying40 rfl i32) rfl ?_
    exact ⟨rfl, hb9.below (hb1.trans (hb2.mono hb1.size)) hb1.size (Nat.le_trans hb1.size hb2.size)⟩

/-- What the reader of a value tells. -/
def PostV (B g : Nat) (w : World) (R : Rs (Nat × Nat)) (r : Ending) (w' : World) : Prop :=
  match R with
  | .ok v l => r = .returned (.agg (val2 v.1 v.2).toArray) ∧ Rd B w' g l ∧ But g w w'
  | .bad e p => r = PanW e p ∧ But g w w'
theorem Rd.bit {B : Nat} {w : World} {g : Nat} {l : List Tk} (h : Rd B w g l) : (hdT l).bits < 18446744073709551616 := by
  obtain ⟨_, _, _, h, _⟩ := h
  refine h.bits _ ?_
  rw [h.ends.cons]
  exact List.mem_cons_self

theorem bit_tail {B : Nat} {w : World} {g : Nat} {l : List Tk} {x : List UInt8} (h : Rd B w g l) (hx : (hdT l).text = 45 :: x) : (hdT l.tail).bits < 18446744073709551616 := by
  obtain ⟨_, _, _, h, _⟩ := h
  have he := h.ends.tail (.inl (by rw [hx]; simp))
  refine h.bits _ (List.mem_of_mem_tail ?_)
  rw [he.cons]
  exact List.mem_cons_self
set_option maxRecDepth 100000 in
set_option maxHeartbeats 6400000 in
theorem valueY_any {B : Nat} (g t : Nat) (l : List Tk) (w : World) (h : Rd B w g l) (hBw : B ≤ w.heap.size) (hc : (hdT l).text = [45]) :
    Calls Tryz.prog 95 #[.pointer (some ⟨g, 0, none⟩), .int .u8 (t : Int)] w (PostV B g w (valueM true t (hdT l).place l.tail)) := by
  have lg := h.lt
  have H55 : Hid (∀ u, Below w.heap.size w u → Calls Tryz.prog 55 #[.pointer (some ⟨g, 0, none⟩), .string ⟨#[45]⟩] u fun r w' => r = .returned (.bool true) ∧ Rd B w' g l.tail ∧ But g u w') := fun u hu => takes_yes g l ⟨#[45]⟩ (by decide) hc u (h.below hu)
  have H0 : Hid (∀ u, Below w.heap.size w u → Calls Tryz.prog 92 #[.pointer (some ⟨g, 0, none⟩)] u fun r w' => r = .returned (.agg (hdT l).cells.toArray) ∧ Below u.heap.size u w') := fun u hu => next_any g l u (h.below hu)
  have hbit : (hdT l.tail).bits < 18446744073709551616 := bit_tail h hc
  have hlv := lit_lt hbit
  clear h hc
  generalize hdT l = t0 at H0 ⊢
  obtain ⟨K0, T0, p0, b0⟩ := t0
  dsimp only
  have H0 : Hid (∀ u, Below w.heap.size w u → Calls Tryz.prog 92 #[.pointer (some ⟨g, 0, none⟩)] u fun r w' => r = .returned (.agg #[.int .i64 (K0 : Int), .string ⟨T0.toArray⟩, .int .i64 (p0 : Int), .int .u8 (valT K0 : Nat), .int .u64 (b0 : Nat)]) ∧ Below u.heap.size u w') := H0
  generalize valT K0 = tv0 at H0
  have hf0 := fun u => field_place K0 ⟨T0.toArray⟩ p0 tv0 b0 u
  generalize l.tail = l at *
  have H92 : Hid (∀ u, Rd B u g l → Calls Tryz.prog 92 #[.pointer (some ⟨g, 0, none⟩)] u fun r w' => r = .returned (.agg (hdT l).cells.toArray) ∧ Below u.heap.size u w') := fun u hu => next_any g l u hu
  have H60 : Hid (∀ u, Rd B u g l → Calls Tryz.prog 60 #[.pointer (some ⟨g, 0, none⟩)] u fun r w' => r = PanW 4 (hdT l).place ∧ Below u.heap.size u w') := fun u hu => refuseNext_any g l u hu
  have HL : Hid (∀ u, Calls Tryz.prog 126 #[.agg (hdT l).cells.toArray] u fun r w' => r = .returned (.tuple #[.agg #[.int .u8 ((litV (hdT l)).1 : Int), .int .u64 ((litV (hdT l)).2 : Int)], .bool (litTk (hdT l)).isSome]) ∧ Below u.heap.size u w') := fun u => literal_any (hdT l) u
  have H127 : Hid (∀ u, Calls Tryz.prog 127 #[.agg (hdT l).cells.toArray] u fun r w' => r = .returned (.bool (signlessT (hdT l))) ∧ Below u.heap.size u w') := fun u => signless_any (hdT l) u
  obtain ⟨D, hD⟩ : ∃ D, Hid (D = valueM true t p0 l) := ⟨_, (rfl : valueM true t p0 l = _)⟩
  rw [← hD.out]
  unfold valueM at hD
  cases hc : litTk (hdT l) with
  | none =>
    have hD' := hD.out
    rw [hc] at hD'
    dsimp only at hD'
    rw [hD']
    have hlV : litV (hdT l) = (valT (hdT l).kind, (hdT l).bits) := by unfold litV; rw [hc]; rfl
    rw [hlV, hc] at HL
    clear hlV
    clear hD' hD hc hlv hbit H127
    generalize hdT l = t1 at *
    obtain ⟨K, T, p, b⟩ := t1
    have H92 : Hid (∀ u, Rd B u g l → Calls Tryz.prog 92 #[.pointer (some ⟨g, 0, none⟩)] u fun r w' => r = .returned (.agg #[.int .i64 (K : Int), .string ⟨T.toArray⟩, .int .i64 (p : Int), .int .u8 (valT K : Nat), .int .u64 (b : Nat)]) ∧ Below u.heap.size u w') := H92
    have HL : Hid (∀ u, Calls Tryz.prog 126 #[.agg #[.int .i64 (K : Int), .string ⟨T.toArray⟩, .int .i64 (p : Int), .int .u8 (valT K : Nat), .int .u64 (b : Nat)]] u fun r w' => r = .returned (.tuple #[.agg #[.int .u8 (valT K : Int), .int .u64 (b : Int)], .bool false]) ∧ Below u.heap.size u w') := HL
    dsimp only at H60 ⊢
    generalize valT K = tv at *
    obtain ⟨vt, hvt⟩ : ∃ q, q = tv := ⟨_, rfl⟩
    obtain ⟨vb, hvb⟩ : ∃ q, q = b := ⟨_, rfl⟩
    have HL : Hid (∀ u, Calls Tryz.prog 126 #[.agg #[.int .i64 (K : Int), .string ⟨T.toArray⟩, .int .i64 (p : Int), .int .u8 (tv : Nat), .int .u64 (b : Nat)]] u fun r w' => r = .returned (.tuple #[.agg #[.int .u8 (vt : Int), .int .u64 (vb : Int)], .bool false]) ∧ Below u.heap.size u w') := by rw [hvt, hvb]; exact HL
    clear hvt hvb
    go_enter Tryz.func95, Tryz.ntmps95
    go_wp2_with (first
      | ((with_reducible show wpList _ _ _ _ _ _); refine wpList_alloc_at rfl 40 rfl (val2 0 0) 2 z32 ?_; intro w1 hA1 hb1 hs1; clear hs1)
      | (go_at_call 92; refine (H0.out _ hb1).mono ?_; rintro r w2 ⟨rfl, hb2⟩; refine Hid.out ?_))
    refine hidU ?_
    have hw2 : Below w.heap.size w w2 := hb1.trans (hb2.mono hb1.size)
    have C55 := H55.out w2 hw2
    have l01 := hA1.lt
    have hA1 := hA1.below hb2
    have l12 := hb2.size
    clear hb1 hb2
    go_wp2_with (go_at_call 55; refine C55.mono ?_; rintro r w3 ⟨rfl, hR3, hb3⟩; refine Hid.out ?_)
    refine hidU ?_
    have hA1 := hb3.at hA1 (by omega)
    have l23 := hb3.size
    have C92 := H92.out w3 hR3
    clear C55
    go_wp2_with (first
      | (go_at_call 92; refine C92.mono ?_; rintro r w4 ⟨rfl, hb4⟩)
      | ((with_reducible show wpList _ _ _ _ _ _); refine wpList_alloc_at rfl 64 rfl (tok5 0 ⟨#[]⟩ 0 0 0) 5 z34 ?_; intro w5 hA5 hb5 hs5; clear hs5)
      | ((with_reducible show wpList _ _ _ _ _ _); refine wpList_store_at (P := Tryz.prog) rfl 64 (.tmp 7) (.tmp 16) rfl w4.heap.size (tok5 K ⟨T.toArray⟩ p tv b) rfl rfl 64 _ hA5 i34 rfl (one5T _ _ _ _ _) ?_; intro w6 hA6 hb6 hs6; clear hs6; refine Hid.out ?_))
    refine hidU ?_
    have hw6 : Below w3.heap.size w3 w6 := hb6.below (hb4.trans (hb5.mono hb4.size)) hb4.size (Nat.le_trans hb4.size hb5.size)
    have l34 := hb4.size
    have l46 := hA6.lt
    have hA1 := hA1.below hw6
    clear C92 hA5 hb4 hb5 hb6
    go_wp2_with (first
      | ((with_reducible show wpList _ _ _ _ _ _); refine wpList_load_at (P := Tryz.prog) rfl 64 (.tmp 7) rfl w4.heap.size rfl 64 (tok5 K ⟨T.toArray⟩ p tv b) hA6 _ Tryz.underlying64 rfl i34 ?_)
      | (go_at_call 126; refine (HL.out _).mono ?_; rintro r w7 ⟨rfl, hb7⟩)
      | ((with_reducible show wpList _ _ _ _ _ _); refine wpList_alloc_at rfl 40 rfl (val2 0 0) 2 z32 ?_; intro w8 hA8 hb8 hs8; clear hs8)
      | ((with_reducible show wpList _ _ _ _ _ _); refine wpList_store_at (P := Tryz.prog) rfl 40 (.tmp 8) (.tmp 20) rfl w7.heap.size (val2 vt vb) rfl rfl 40 _ hA8 i32 rfl (one2 _ _) ?_; intro w9 hA9 hb9 hs9; clear hs9; refine Hid.out ?_))
    refine hidU ?_
    have h69 : Below w6.heap.size w6 w9 := hb9.below (hb7.trans (hb8.mono hb7.size)) hb7.size (Nat.le_trans hb7.size hb8.size)
    have l67 := hb7.size
    have l79 := hA9.lt
    have hA6 := hA6.below h69
    have hA1 := hA1.below h69
    have h39 : Below w3.heap.size w3 w9 := hw6.trans (h69.mono hw6.size)
    have hR9 := hR3.below h39
    have hbt : But g w w9 := ((But.of_below hw2).trans hb3).trans (But.of_below h39)
    clear hA8 hb7 hb8 hb9 hw6 h69 h39 hb3 hR3 hw2
    have C60 := H60.out w9 hR9
    clear hA1 hA6 hA9
    go_wp2_with (go_at_call 60; refine C60.mono ?_; rintro r wA ⟨hr, hbA⟩; unfold PanW at hr; subst hr)
    exact ⟨rfl, rfl, hbt.trans (But.of_below hbA)⟩
  | some v =>
    have hn := lit_ne (t := hdT l) (by rw [hc]; rfl)
    have H93 : Hid (∀ u, Rd B u g l → Calls Tryz.prog 93 #[.pointer (some ⟨g, 0, none⟩)] u fun r w' => r = .returned (.tuple #[]) ∧ Rd B w' g l.tail ∧ But g u w') := fun u hu => take_any g l u hu hn
    have hv : litV (hdT l) = v := by unfold litV; rw [hc]; rfl
    rw [hv] at hlv
    rw [hc] at hD
    dsimp only at hD
    rw [hv, hc] at HL
    obtain ⟨vt, vb⟩ := v
    have H128 : Hid (∀ u, Calls Tryz.prog 128 #[.agg #[.int .u8 (vt : Int), .int .u64 (vb : Int)]] u fun r w' => r = .returned (.agg #[.int .u8 ((negV (vt, vb)).1 : Int), .int .u64 ((negV (vt, vb)).2 : Int)]) ∧ Below u.heap.size u w') := fun u => negated_any vt vb hlv.2 u
    clear hn hv hc hbit
    generalize l.tail = l2 at *
    generalize hdT l = t1 at *
    obtain ⟨K, T, p, b⟩ := t1
    have H92 : Hid (∀ u, Rd B u g l → Calls Tryz.prog 92 #[.pointer (some ⟨g, 0, none⟩)] u fun r w' => r = .returned (.agg #[.int .i64 (K : Int), .string ⟨T.toArray⟩, .int .i64 (p : Int), .int .u8 (valT K : Nat), .int .u64 (b : Nat)]) ∧ Below u.heap.size u w') := H92
    have HL : Hid (∀ u, Calls Tryz.prog 126 #[.agg #[.int .i64 (K : Int), .string ⟨T.toArray⟩, .int .i64 (p : Int), .int .u8 (valT K : Nat), .int .u64 (b : Nat)]] u fun r w' => r = .returned (.tuple #[.agg #[.int .u8 (vt : Int), .int .u64 (vb : Int)], .bool true]) ∧ Below u.heap.size u w') := HL
    have H127 : Hid (∀ u, Calls Tryz.prog 127 #[.agg #[.int .i64 (K : Int), .string ⟨T.toArray⟩, .int .i64 (p : Int), .int .u8 (valT K : Nat), .int .u64 (b : Nat)]] u fun r w' => r = .returned (.bool (signlessT ⟨K, T, p, b⟩)) ∧ Below u.heap.size u w') := H127
    dsimp only at H60 hD
    generalize valT K = tv at *
    generalize signlessT ⟨K, T, p, b⟩ = sg at *
    cases sg with
    | true =>
      have hD' := hD.out
      rw [if_pos (by rfl)] at hD'
      rw [hD']
      clear hD hD' H93 H128
      go_enter Tryz.func95, Tryz.ntmps95
      go_wp2_with (first
        | ((with_reducible show wpList _ _ _ _ _ _); refine wpList_alloc_at rfl 40 rfl (val2 0 0) 2 z32 ?_; intro w1 hA1 hb1 hs1; clear hs1)
        | (go_at_call 92; refine (H0.out _ hb1).mono ?_; rintro r w2 ⟨rfl, hb2⟩; refine Hid.out ?_))
      refine hidU ?_
      have hw2 : Below w.heap.size w w2 := hb1.trans (hb2.mono hb1.size)
      have C55 := H55.out w2 hw2
      have l01 := hA1.lt
      have hA1 := hA1.below hb2
      have l12 := hb2.size
      clear hb1 hb2
      go_wp2_with (go_at_call 55; refine C55.mono ?_; rintro r w3 ⟨rfl, hR3, hb3⟩; refine Hid.out ?_)
      refine hidU ?_
      have hA1 := hb3.at hA1 (by omega)
      have l23 := hb3.size
      have C92 := H92.out w3 hR3
      clear C55
      go_wp2_with (first
        | (go_at_call 92; refine C92.mono ?_; rintro r w4 ⟨rfl, hb4⟩)
        | ((with_reducible show wpList _ _ _ _ _ _); refine wpList_alloc_at rfl 64 rfl (tok5 0 ⟨#[]⟩ 0 0 0) 5 z34 ?_; intro w5 hA5 hb5 hs5; clear hs5)
        | ((with_reducible show wpList _ _ _ _ _ _); refine wpList_store_at (P := Tryz.prog) rfl 64 (.tmp 7) (.tmp 16) rfl w4.heap.size (tok5 K ⟨T.toArray⟩ p tv b) rfl rfl 64 _ hA5 i34 rfl (one5T _ _ _ _ _) ?_; intro w6 hA6 hb6 hs6; clear hs6; refine Hid.out ?_))
      refine hidU ?_
      have hw6 : Below w3.heap.size w3 w6 := hb6.below (hb4.trans (hb5.mono hb4.size)) hb4.size (Nat.le_trans hb4.size hb5.size)
      have l34 := hb4.size
      have l46 := hA6.lt
      have hA1 := hA1.below hw6
      clear C92 hA5 hb4 hb5 hb6
      go_wp2_with (first
        | ((with_reducible show wpList _ _ _ _ _ _); refine wpList_load_at (P := Tryz.prog) rfl 64 (.tmp 7) rfl w4.heap.size rfl 64 (tok5 K ⟨T.toArray⟩ p tv b) hA6 _ Tryz.underlying64 rfl i34 ?_)
        | (go_at_call 126; refine (HL.out _).mono ?_; rintro r w7 ⟨rfl, hb7⟩)
        | ((with_reducible show wpList _ _ _ _ _ _); refine wpList_alloc_at rfl 40 rfl (val2 0 0) 2 z32 ?_; intro w8 hA8 hb8 hs8; clear hs8)
        | ((with_reducible show wpList _ _ _ _ _ _); refine wpList_store_at (P := Tryz.prog) rfl 40 (.tmp 8) (.tmp 20) rfl w7.heap.size (val2 vt vb) rfl rfl 40 _ hA8 i32 rfl (one2 _ _) ?_; intro w9 hA9 hb9 hs9; clear hs9; refine Hid.out ?_))
      refine hidU ?_
      have h69 : Below w6.heap.size w6 w9 := hb9.below (hb7.trans (hb8.mono hb7.size)) hb7.size (Nat.le_trans hb7.size hb8.size)
      have l67 := hb7.size
      have l79 := hA9.lt
      have hA6 := hA6.below h69
      have hA1 := hA1.below h69
      have h39 : Below w3.heap.size w3 w9 := hw6.trans (h69.mono hw6.size)
      have hR9 := hR3.below h39
      have hbt : But g w w9 := ((But.of_below hw2).trans hb3).trans (But.of_below h39)
      clear hA8 hb7 hb8 hb9 hw6 h69 h39 hb3 hR3 hw2
      have C127 := H127.out w9
      obtain ⟨d0, d1, d2, d3, d4⟩ := tk5_cells hA6
      go_wp2_with (go_at_call 127; refine C127.mono ?_; rintro r wA ⟨rfl, hbA⟩; refine Hid.out ?_)
      refine hidU ?_
      have hR9 := hR9.below hbA
      have hbt := hbt.trans (But.of_below hbA)
      have hA1 := hA1.below hbA
      have hA9 := hA9.below hbA
      have l9A := hbA.size
      clear C127 hA6 hbA d0 d1 d2 d3 d4
      have C60 := H60.out wA hR9
      clear hA1 hA9
      go_wp2_with (go_at_call 60; refine C60.mono ?_; rintro r wB ⟨hr, hbB⟩; unfold PanW at hr; subst hr)
      exact ⟨rfl, rfl, hbt.trans (But.of_below hbB)⟩
    | false =>
    rw [if_neg (by decide)] at hD
    by_cases hvt : vt = t
    · have e3 : ((vt : Int) != (t : Int)) = false := by rw [bne_eq_false_iff_eq]; omega
      have hD' := hD.out
      rw [if_pos hvt] at hD'
      rw [hD']
      clear hD hD' hvt H60
      rw [if_pos rfl]
      generalize negV (vt, vb) = nv at *
      obtain ⟨nt, nb⟩ := nv
      dsimp only at H128
      go_enter Tryz.func95, Tryz.ntmps95
      go_wp2_with (first
        | ((with_reducible show wpList _ _ _ _ _ _); refine wpList_alloc_at rfl 40 rfl (val2 0 0) 2 z32 ?_; intro w1 hA1 hb1 hs1; clear hs1)
        | (go_at_call 92; refine (H0.out _ hb1).mono ?_; rintro r w2 ⟨rfl, hb2⟩; refine Hid.out ?_))
      refine hidU ?_
      have hw2 : Below w.heap.size w w2 := hb1.trans (hb2.mono hb1.size)
      have C55 := H55.out w2 hw2
      have l01 := hA1.lt
      have hA1 := hA1.below hb2
      have l12 := hb2.size
      clear hb1 hb2
      go_wp2_with (go_at_call 55; refine C55.mono ?_; rintro r w3 ⟨rfl, hR3, hb3⟩; refine Hid.out ?_)
      refine hidU ?_
      have hA1 := hb3.at hA1 (by omega)
      have l23 := hb3.size
      have C92 := H92.out w3 hR3
      clear C55
      go_wp2_with (first
        | (go_at_call 92; refine C92.mono ?_; rintro r w4 ⟨rfl, hb4⟩)
        | ((with_reducible show wpList _ _ _ _ _ _); refine wpList_alloc_at rfl 64 rfl (tok5 0 ⟨#[]⟩ 0 0 0) 5 z34 ?_; intro w5 hA5 hb5 hs5; clear hs5)
        | ((with_reducible show wpList _ _ _ _ _ _); refine wpList_store_at (P := Tryz.prog) rfl 64 (.tmp 7) (.tmp 16) rfl w4.heap.size (tok5 K ⟨T.toArray⟩ p tv b) rfl rfl 64 _ hA5 i34 rfl (one5T _ _ _ _ _) ?_; intro w6 hA6 hb6 hs6; clear hs6; refine Hid.out ?_))
      refine hidU ?_
      have hw6 : Below w3.heap.size w3 w6 := hb6.below (hb4.trans (hb5.mono hb4.size)) hb4.size (Nat.le_trans hb4.size hb5.size)
      have l34 := hb4.size
      have l46 := hA6.lt
      have hA1 := hA1.below hw6
      clear C92 hA5 hb4 hb5 hb6
      go_wp2_with (first
        | ((with_reducible show wpList _ _ _ _ _ _); refine wpList_load_at (P := Tryz.prog) rfl 64 (.tmp 7) rfl w4.heap.size rfl 64 (tok5 K ⟨T.toArray⟩ p tv b) hA6 _ Tryz.underlying64 rfl i34 ?_)
        | (go_at_call 126; refine (HL.out _).mono ?_; rintro r w7 ⟨rfl, hb7⟩)
        | ((with_reducible show wpList _ _ _ _ _ _); refine wpList_alloc_at rfl 40 rfl (val2 0 0) 2 z32 ?_; intro w8 hA8 hb8 hs8; clear hs8)
        | ((with_reducible show wpList _ _ _ _ _ _); refine wpList_store_at (P := Tryz.prog) rfl 40 (.tmp 8) (.tmp 20) rfl w7.heap.size (val2 vt vb) rfl rfl 40 _ hA8 i32 rfl (one2 _ _) ?_; intro w9 hA9 hb9 hs9; clear hs9; refine Hid.out ?_))
      refine hidU ?_
      have h69 : Below w6.heap.size w6 w9 := hb9.below (hb7.trans (hb8.mono hb7.size)) hb7.size (Nat.le_trans hb7.size hb8.size)
      have l67 := hb7.size
      have l79 := hA9.lt
      have hA6 := hA6.below h69
      have hA1 := hA1.below h69
      have h39 : Below w3.heap.size w3 w9 := hw6.trans (h69.mono hw6.size)
      have hR9 := hR3.below h39
      have hbt : But g w w9 := ((But.of_below hw2).trans hb3).trans (But.of_below h39)
      clear hA8 hb7 hb8 hb9 hw6 h69 h39 hb3 hR3 hw2
      have C127 := H127.out w9
      obtain ⟨d0, d1, d2, d3, d4⟩ := tk5_cells hA6
      go_wp2_with (go_at_call 127; refine C127.mono ?_; rintro r wA ⟨rfl, hbA⟩; refine Hid.out ?_)
      refine hidU ?_
      have hR9 := hR9.below hbA
      have hbt := hbt.trans (But.of_below hbA)
      have hA1 := hA1.below hbA
      have hA9 := hA9.below hbA
      have l9A := hbA.size
      clear C127 hA6 hbA d0 d1 d2 d3 d4
      have C93 := H93.out wA hR9
      go_wp2_with (go_at_call 93; refine C93.mono ?_; rintro r wC ⟨rfl, hRC, hbC⟩; refine Hid.out ?_)
      refine hidU ?_
      have hbt := hbt.trans hbC
      have hA1 := hbC.at hA1 (by omega)
      have hA9 := hbC.at hA9 (by omega)
      obtain ⟨c0, c1⟩ := vl_cells hA9
      clear C93 hR9 hbC
      go_wp2_with (first
        | ((with_reducible show wpList _ _ _ _ _ _); refine wpList_load_at (P := Tryz.prog) rfl 40 (.tmp 8) rfl w7.heap.size rfl 40 (val2 vt vb) hA9 _ Tryz.underlying40 rfl i32 ?_)
        | (go_at_call 128; refine (H128.out _).mono ?_; rintro r wD ⟨rfl, hbD⟩; refine Hid.out ?_))
      refine hidU ?_
      have hA1 := hA1.below hbD
      have hbt := hbt.trans (But.of_below hbD)
      have hRC := hRC.below hbD
      go_wp2_with (first
        | ((with_reducible show wpList _ _ _ _ _ _); refine wpList_store_at (P := Tryz.prog) rfl 40 (.tmp 4) (.tmp 43) rfl w.heap.size (val2 nt nb) rfl rfl 40 _ hA1 i32 rfl (one2 _ _) ?_; intro wE hAE hbE hsE))
      refine bodyPost_ret (results_at rfl _ _ w.heap.size 40 (val2 nt nb) _ rfl hAE Tryz.underlying40 rfl i32) rfl ?_
      exact ⟨rfl, hRC.but hbE hBw, hbt.fresh hbE (Nat.le_refl _)⟩
    · have e3 : ((vt : Int) != (t : Int)) = true := by rw [bne_iff_ne]; omega
      have hD' := hD.out
      rw [if_neg hvt] at hD'
      rw [hD']
      clear hD hD' hvt H60 H128
      go_enter Tryz.func95, Tryz.ntmps95
      go_wp2_with (first
        | ((with_reducible show wpList _ _ _ _ _ _); refine wpList_alloc_at rfl 40 rfl (val2 0 0) 2 z32 ?_; intro w1 hA1 hb1 hs1; clear hs1)
        | (go_at_call 92; refine (H0.out _ hb1).mono ?_; rintro r w2 ⟨rfl, hb2⟩; refine Hid.out ?_))
      refine hidU ?_
      have hw2 : Below w.heap.size w w2 := hb1.trans (hb2.mono hb1.size)
      have C55 := H55.out w2 hw2
      have l01 := hA1.lt
      have hA1 := hA1.below hb2
      have l12 := hb2.size
      clear hb1 hb2
      go_wp2_with (go_at_call 55; refine C55.mono ?_; rintro r w3 ⟨rfl, hR3, hb3⟩; refine Hid.out ?_)
      refine hidU ?_
      have hA1 := hb3.at hA1 (by omega)
      have l23 := hb3.size
      have C92 := H92.out w3 hR3
      clear C55
      go_wp2_with (first
        | (go_at_call 92; refine C92.mono ?_; rintro r w4 ⟨rfl, hb4⟩)
        | ((with_reducible show wpList _ _ _ _ _ _); refine wpList_alloc_at rfl 64 rfl (tok5 0 ⟨#[]⟩ 0 0 0) 5 z34 ?_; intro w5 hA5 hb5 hs5; clear hs5)
        | ((with_reducible show wpList _ _ _ _ _ _); refine wpList_store_at (P := Tryz.prog) rfl 64 (.tmp 7) (.tmp 16) rfl w4.heap.size (tok5 K ⟨T.toArray⟩ p tv b) rfl rfl 64 _ hA5 i34 rfl (one5T _ _ _ _ _) ?_; intro w6 hA6 hb6 hs6; clear hs6; refine Hid.out ?_))
      refine hidU ?_
      have hw6 : Below w3.heap.size w3 w6 := hb6.below (hb4.trans (hb5.mono hb4.size)) hb4.size (Nat.le_trans hb4.size hb5.size)
      have l34 := hb4.size
      have l46 := hA6.lt
      have hA1 := hA1.below hw6
      clear C92 hA5 hb4 hb5 hb6
      go_wp2_with (first
        | ((with_reducible show wpList _ _ _ _ _ _); refine wpList_load_at (P := Tryz.prog) rfl 64 (.tmp 7) rfl w4.heap.size rfl 64 (tok5 K ⟨T.toArray⟩ p tv b) hA6 _ Tryz.underlying64 rfl i34 ?_)
        | (go_at_call 126; refine (HL.out _).mono ?_; rintro r w7 ⟨rfl, hb7⟩)
        | ((with_reducible show wpList _ _ _ _ _ _); refine wpList_alloc_at rfl 40 rfl (val2 0 0) 2 z32 ?_; intro w8 hA8 hb8 hs8; clear hs8)
        | ((with_reducible show wpList _ _ _ _ _ _); refine wpList_store_at (P := Tryz.prog) rfl 40 (.tmp 8) (.tmp 20) rfl w7.heap.size (val2 vt vb) rfl rfl 40 _ hA8 i32 rfl (one2 _ _) ?_; intro w9 hA9 hb9 hs9; clear hs9; refine Hid.out ?_))
      refine hidU ?_
      have h69 : Below w6.heap.size w6 w9 := hb9.below (hb7.trans (hb8.mono hb7.size)) hb7.size (Nat.le_trans hb7.size hb8.size)
      have l67 := hb7.size
      have l79 := hA9.lt
      have hA6 := hA6.below h69
      have hA1 := hA1.below h69
      have h39 : Below w3.heap.size w3 w9 := hw6.trans (h69.mono hw6.size)
      have hR9 := hR3.below h39
      have hbt : But g w w9 := ((But.of_below hw2).trans hb3).trans (But.of_below h39)
      clear hA8 hb7 hb8 hb9 hw6 h69 h39 hb3 hR3 hw2
      have C127 := H127.out w9
      obtain ⟨d0, d1, d2, d3, d4⟩ := tk5_cells hA6
      go_wp2_with (go_at_call 127; refine C127.mono ?_; rintro r wA ⟨rfl, hbA⟩; refine Hid.out ?_)
      refine hidU ?_
      have hR9 := hR9.below hbA
      have hbt := hbt.trans (But.of_below hbA)
      have hA1 := hA1.below hbA
      have hA9 := hA9.below hbA
      have l9A := hbA.size
      clear C127 hA6 hbA d0 d1 d2 d3 d4
      have C93 := H93.out wA hR9
      go_wp2_with (go_at_call 93; refine C93.mono ?_; rintro r wC ⟨rfl, hRC, hbC⟩; refine Hid.out ?_)
      refine hidU ?_
      have hbt := hbt.trans hbC
      have hA1 := hbC.at hA1 (by omega)
      have hA9 := hbC.at hA9 (by omega)
      obtain ⟨c0, c1⟩ := vl_cells hA9
      clear C93 hR9 hbC
      clear hA1 hA9
      go_wp2_with (go_at_call 54; refine (refuse_any 9 p0 _).mono ?_; rintro r wD ⟨hr, rfl⟩; unfold PanW at hr; subst hr)
      exact ⟨rfl, rfl, hbt⟩

set_option maxRecDepth 100000 in
set_option maxHeartbeats 6400000 in
theorem valueN_any {B : Nat} (g t : Nat) (l : List Tk) (w : World) (h : Rd B w g l) (hBw : B ≤ w.heap.size) (hc : (hdT l).text ≠ [45]) :
    Calls Tryz.prog 95 #[.pointer (some ⟨g, 0, none⟩), .int .u8 (t : Int)] w (PostV B g w (valueM false t (hdT l).place l)) := by
  have lg := h.lt
  have H55 : Hid (∀ u, Below w.heap.size w u → Calls Tryz.prog 55 #[.pointer (some ⟨g, 0, none⟩), .string ⟨#[45]⟩] u fun r w' => r = .returned (.bool false) ∧ Rd B w' g l ∧ But g u w') := fun u hu => takes_no g l ⟨#[45]⟩ (by decide) hc u (h.below hu)
  have H0 : Hid (∀ u, Below w.heap.size w u → Calls Tryz.prog 92 #[.pointer (some ⟨g, 0, none⟩)] u fun r w' => r = .returned (.agg (hdT l).cells.toArray) ∧ Below u.heap.size u w') := fun u hu => next_any g l u (h.below hu)
  have hbit : (hdT l).bits < 18446744073709551616 := h.bit
  have hlv := lit_lt hbit
  clear h hc
  generalize hdT l = t0 at H0 ⊢
  obtain ⟨K0, T0, p0, b0⟩ := t0
  dsimp only
  have H0 : Hid (∀ u, Below w.heap.size w u → Calls Tryz.prog 92 #[.pointer (some ⟨g, 0, none⟩)] u fun r w' => r = .returned (.agg #[.int .i64 (K0 : Int), .string ⟨T0.toArray⟩, .int .i64 (p0 : Int), .int .u8 (valT K0 : Nat), .int .u64 (b0 : Nat)]) ∧ Below u.heap.size u w') := H0
  generalize valT K0 = tv0 at H0
  have hf0 := fun u => field_place K0 ⟨T0.toArray⟩ p0 tv0 b0 u
  skip
  have H92 : Hid (∀ u, Rd B u g l → Calls Tryz.prog 92 #[.pointer (some ⟨g, 0, none⟩)] u fun r w' => r = .returned (.agg (hdT l).cells.toArray) ∧ Below u.heap.size u w') := fun u hu => next_any g l u hu
  have H60 : Hid (∀ u, Rd B u g l → Calls Tryz.prog 60 #[.pointer (some ⟨g, 0, none⟩)] u fun r w' => r = PanW 4 (hdT l).place ∧ Below u.heap.size u w') := fun u hu => refuseNext_any g l u hu
  have HL : Hid (∀ u, Calls Tryz.prog 126 #[.agg (hdT l).cells.toArray] u fun r w' => r = .returned (.tuple #[.agg #[.int .u8 ((litV (hdT l)).1 : Int), .int .u64 ((litV (hdT l)).2 : Int)], .bool (litTk (hdT l)).isSome]) ∧ Below u.heap.size u w') := fun u => literal_any (hdT l) u
  have H127 : Hid (∀ u, Calls Tryz.prog 127 #[.agg (hdT l).cells.toArray] u fun r w' => r = .returned (.bool (signlessT (hdT l))) ∧ Below u.heap.size u w') := fun u => signless_any (hdT l) u
  obtain ⟨D, hD⟩ : ∃ D, Hid (D = valueM false t p0 l) := ⟨_, (rfl : valueM false t p0 l = _)⟩
  rw [← hD.out]
  unfold valueM at hD
  cases hc : litTk (hdT l) with
  | none =>
    have hD' := hD.out
    rw [hc] at hD'
    dsimp only at hD'
    rw [hD']
    have hlV : litV (hdT l) = (valT (hdT l).kind, (hdT l).bits) := by unfold litV; rw [hc]; rfl
    rw [hlV, hc] at HL
    clear hlV
    clear hD' hD hc hlv hbit H127
    generalize hdT l = t1 at *
    obtain ⟨K, T, p, b⟩ := t1
    have H92 : Hid (∀ u, Rd B u g l → Calls Tryz.prog 92 #[.pointer (some ⟨g, 0, none⟩)] u fun r w' => r = .returned (.agg #[.int .i64 (K : Int), .string ⟨T.toArray⟩, .int .i64 (p : Int), .int .u8 (valT K : Nat), .int .u64 (b : Nat)]) ∧ Below u.heap.size u w') := H92
    have HL : Hid (∀ u, Calls Tryz.prog 126 #[.agg #[.int .i64 (K : Int), .string ⟨T.toArray⟩, .int .i64 (p : Int), .int .u8 (valT K : Nat), .int .u64 (b : Nat)]] u fun r w' => r = .returned (.tuple #[.agg #[.int .u8 (valT K : Int), .int .u64 (b : Int)], .bool false]) ∧ Below u.heap.size u w') := HL
    dsimp only at H60 ⊢
    generalize valT K = tv at *
    obtain ⟨vt, hvt⟩ : ∃ q, q = tv := ⟨_, rfl⟩
    obtain ⟨vb, hvb⟩ : ∃ q, q = b := ⟨_, rfl⟩
    have HL : Hid (∀ u, Calls Tryz.prog 126 #[.agg #[.int .i64 (K : Int), .string ⟨T.toArray⟩, .int .i64 (p : Int), .int .u8 (tv : Nat), .int .u64 (b : Nat)]] u fun r w' => r = .returned (.tuple #[.agg #[.int .u8 (vt : Int), .int .u64 (vb : Int)], .bool false]) ∧ Below u.heap.size u w') := by rw [hvt, hvb]; exact HL
    clear hvt hvb
    go_enter Tryz.func95, Tryz.ntmps95
    go_wp2_with (first
      | ((with_reducible show wpList _ _ _ _ _ _); refine wpList_alloc_at rfl 40 rfl (val2 0 0) 2 z32 ?_; intro w1 hA1 hb1 hs1; clear hs1)
      | (go_at_call 92; refine (H0.out _ hb1).mono ?_; rintro r w2 ⟨rfl, hb2⟩; refine Hid.out ?_))
    refine hidU ?_
    have hw2 : Below w.heap.size w w2 := hb1.trans (hb2.mono hb1.size)
    have C55 := H55.out w2 hw2
    have l01 := hA1.lt
    have hA1 := hA1.below hb2
    have l12 := hb2.size
    clear hb1 hb2
    go_wp2_with (go_at_call 55; refine C55.mono ?_; rintro r w3 ⟨rfl, hR3, hb3⟩; refine Hid.out ?_)
    refine hidU ?_
    have hA1 := hb3.at hA1 (by omega)
    have l23 := hb3.size
    have C92 := H92.out w3 hR3
    clear C55
    go_wp2_with (first
      | (go_at_call 92; refine C92.mono ?_; rintro r w4 ⟨rfl, hb4⟩)
      | ((with_reducible show wpList _ _ _ _ _ _); refine wpList_alloc_at rfl 64 rfl (tok5 0 ⟨#[]⟩ 0 0 0) 5 z34 ?_; intro w5 hA5 hb5 hs5; clear hs5)
      | ((with_reducible show wpList _ _ _ _ _ _); refine wpList_store_at (P := Tryz.prog) rfl 64 (.tmp 7) (.tmp 16) rfl w4.heap.size (tok5 K ⟨T.toArray⟩ p tv b) rfl rfl 64 _ hA5 i34 rfl (one5T _ _ _ _ _) ?_; intro w6 hA6 hb6 hs6; clear hs6; refine Hid.out ?_))
    refine hidU ?_
    have hw6 : Below w3.heap.size w3 w6 := hb6.below (hb4.trans (hb5.mono hb4.size)) hb4.size (Nat.le_trans hb4.size hb5.size)
    have l34 := hb4.size
    have l46 := hA6.lt
    have hA1 := hA1.below hw6
    clear C92 hA5 hb4 hb5 hb6
    go_wp2_with (first
      | ((with_reducible show wpList _ _ _ _ _ _); refine wpList_load_at (P := Tryz.prog) rfl 64 (.tmp 7) rfl w4.heap.size rfl 64 (tok5 K ⟨T.toArray⟩ p tv b) hA6 _ Tryz.underlying64 rfl i34 ?_)
      | (go_at_call 126; refine (HL.out _).mono ?_; rintro r w7 ⟨rfl, hb7⟩)
      | ((with_reducible show wpList _ _ _ _ _ _); refine wpList_alloc_at rfl 40 rfl (val2 0 0) 2 z32 ?_; intro w8 hA8 hb8 hs8; clear hs8)
      | ((with_reducible show wpList _ _ _ _ _ _); refine wpList_store_at (P := Tryz.prog) rfl 40 (.tmp 8) (.tmp 20) rfl w7.heap.size (val2 vt vb) rfl rfl 40 _ hA8 i32 rfl (one2 _ _) ?_; intro w9 hA9 hb9 hs9; clear hs9; refine Hid.out ?_))
    refine hidU ?_
    have h69 : Below w6.heap.size w6 w9 := hb9.below (hb7.trans (hb8.mono hb7.size)) hb7.size (Nat.le_trans hb7.size hb8.size)
    have l67 := hb7.size
    have l79 := hA9.lt
    have hA6 := hA6.below h69
    have hA1 := hA1.below h69
    have h39 : Below w3.heap.size w3 w9 := hw6.trans (h69.mono hw6.size)
    have hR9 := hR3.below h39
    have hbt : But g w w9 := ((But.of_below hw2).trans hb3).trans (But.of_below h39)
    clear hA8 hb7 hb8 hb9 hw6 h69 h39 hb3 hR3 hw2
    have C60 := H60.out w9 hR9
    clear hA1 hA6 hA9
    go_wp2_with (go_at_call 60; refine C60.mono ?_; rintro r wA ⟨hr, hbA⟩; unfold PanW at hr; subst hr)
    exact ⟨rfl, rfl, hbt.trans (But.of_below hbA)⟩
  | some v =>
    have hn := lit_ne (t := hdT l) (by rw [hc]; rfl)
    have H93 : Hid (∀ u, Rd B u g l → Calls Tryz.prog 93 #[.pointer (some ⟨g, 0, none⟩)] u fun r w' => r = .returned (.tuple #[]) ∧ Rd B w' g l.tail ∧ But g u w') := fun u hu => take_any g l u hu hn
    have hv : litV (hdT l) = v := by unfold litV; rw [hc]; rfl
    rw [hv] at hlv
    rw [hc] at hD
    dsimp only at hD
    rw [hv, hc] at HL
    obtain ⟨vt, vb⟩ := v
    have H128 : Hid (∀ u, Calls Tryz.prog 128 #[.agg #[.int .u8 (vt : Int), .int .u64 (vb : Int)]] u fun r w' => r = .returned (.agg #[.int .u8 ((negV (vt, vb)).1 : Int), .int .u64 ((negV (vt, vb)).2 : Int)]) ∧ Below u.heap.size u w') := fun u => negated_any vt vb hlv.2 u
    clear hn hv hc hbit
    generalize l.tail = l2 at *
    generalize hdT l = t1 at *
    obtain ⟨K, T, p, b⟩ := t1
    have H92 : Hid (∀ u, Rd B u g l → Calls Tryz.prog 92 #[.pointer (some ⟨g, 0, none⟩)] u fun r w' => r = .returned (.agg #[.int .i64 (K : Int), .string ⟨T.toArray⟩, .int .i64 (p : Int), .int .u8 (valT K : Nat), .int .u64 (b : Nat)]) ∧ Below u.heap.size u w') := H92
    have HL : Hid (∀ u, Calls Tryz.prog 126 #[.agg #[.int .i64 (K : Int), .string ⟨T.toArray⟩, .int .i64 (p : Int), .int .u8 (valT K : Nat), .int .u64 (b : Nat)]] u fun r w' => r = .returned (.tuple #[.agg #[.int .u8 (vt : Int), .int .u64 (vb : Int)], .bool true]) ∧ Below u.heap.size u w') := HL
    have H127 : Hid (∀ u, Calls Tryz.prog 127 #[.agg #[.int .i64 (K : Int), .string ⟨T.toArray⟩, .int .i64 (p : Int), .int .u8 (valT K : Nat), .int .u64 (b : Nat)]] u fun r w' => r = .returned (.bool (signlessT ⟨K, T, p, b⟩)) ∧ Below u.heap.size u w') := H127
    dsimp only at H60 hD
    generalize valT K = tv at *
    generalize signlessT ⟨K, T, p, b⟩ = sg at *
    rw [if_neg (by simp)] at hD
    clear H127
    by_cases hvt : vt = t
    · have e3 : ((vt : Int) != (t : Int)) = false := by rw [bne_eq_false_iff_eq]; omega
      have hD' := hD.out
      rw [if_pos hvt] at hD'
      rw [hD']
      clear hD hD' hvt H60
      rw [if_neg (by decide)]
      clear H128
      go_enter Tryz.func95, Tryz.ntmps95
      go_wp2_with (first
        | ((with_reducible show wpList _ _ _ _ _ _); refine wpList_alloc_at rfl 40 rfl (val2 0 0) 2 z32 ?_; intro w1 hA1 hb1 hs1; clear hs1)
        | (go_at_call 92; refine (H0.out _ hb1).mono ?_; rintro r w2 ⟨rfl, hb2⟩; refine Hid.out ?_))
      refine hidU ?_
      have hw2 : Below w.heap.size w w2 := hb1.trans (hb2.mono hb1.size)
      have C55 := H55.out w2 hw2
      have l01 := hA1.lt
      have hA1 := hA1.below hb2
      have l12 := hb2.size
      clear hb1 hb2
      go_wp2_with (go_at_call 55; refine C55.mono ?_; rintro r w3 ⟨rfl, hR3, hb3⟩; refine Hid.out ?_)
      refine hidU ?_
      have hA1 := hb3.at hA1 (by omega)
      have l23 := hb3.size
      have C92 := H92.out w3 hR3
      clear C55
      go_wp2_with (first
        | (go_at_call 92; refine C92.mono ?_; rintro r w4 ⟨rfl, hb4⟩)
        | ((with_reducible show wpList _ _ _ _ _ _); refine wpList_alloc_at rfl 64 rfl (tok5 0 ⟨#[]⟩ 0 0 0) 5 z34 ?_; intro w5 hA5 hb5 hs5; clear hs5)
        | ((with_reducible show wpList _ _ _ _ _ _); refine wpList_store_at (P := Tryz.prog) rfl 64 (.tmp 7) (.tmp 16) rfl w4.heap.size (tok5 K ⟨T.toArray⟩ p tv b) rfl rfl 64 _ hA5 i34 rfl (one5T _ _ _ _ _) ?_; intro w6 hA6 hb6 hs6; clear hs6; refine Hid.out ?_))
      refine hidU ?_
      have hw6 : Below w3.heap.size w3 w6 := hb6.below (hb4.trans (hb5.mono hb4.size)) hb4.size (Nat.le_trans hb4.size hb5.size)
      have l34 := hb4.size
      have l46 := hA6.lt
      have hA1 := hA1.below hw6
      clear C92 hA5 hb4 hb5 hb6
      go_wp2_with (first
        | ((with_reducible show wpList _ _ _ _ _ _); refine wpList_load_at (P := Tryz.prog) rfl 64 (.tmp 7) rfl w4.heap.size rfl 64 (tok5 K ⟨T.toArray⟩ p tv b) hA6 _ Tryz.underlying64 rfl i34 ?_)
        | (go_at_call 126; refine (HL.out _).mono ?_; rintro r w7 ⟨rfl, hb7⟩)
        | ((with_reducible show wpList _ _ _ _ _ _); refine wpList_alloc_at rfl 40 rfl (val2 0 0) 2 z32 ?_; intro w8 hA8 hb8 hs8; clear hs8)
        | ((with_reducible show wpList _ _ _ _ _ _); refine wpList_store_at (P := Tryz.prog) rfl 40 (.tmp 8) (.tmp 20) rfl w7.heap.size (val2 vt vb) rfl rfl 40 _ hA8 i32 rfl (one2 _ _) ?_; intro w9 hA9 hb9 hs9; clear hs9; refine Hid.out ?_))
      refine hidU ?_
      have h69 : Below w6.heap.size w6 w9 := hb9.below (hb7.trans (hb8.mono hb7.size)) hb7.size (Nat.le_trans hb7.size hb8.size)
      have l67 := hb7.size
      have l79 := hA9.lt
      have hA6 := hA6.below h69
      have hA1 := hA1.below h69
      have h39 : Below w3.heap.size w3 w9 := hw6.trans (h69.mono hw6.size)
      have hR9 := hR3.below h39
      have hbt : But g w w9 := ((But.of_below hw2).trans hb3).trans (But.of_below h39)
      clear hA8 hb7 hb8 hb9 hw6 h69 h39 hb3 hR3 hw2
      clear hA6
      have C93 := H93.out w9 hR9
      go_wp2_with (go_at_call 93; refine C93.mono ?_; rintro r wC ⟨rfl, hRC, hbC⟩; refine Hid.out ?_)
      refine hidU ?_
      have hbt := hbt.trans hbC
      have hA1 := hbC.at hA1 (by omega)
      have hA9 := hbC.at hA9 (by omega)
      obtain ⟨c0, c1⟩ := vl_cells hA9
      clear C93 hR9 hbC
      go_wp2_with (first
        | ((with_reducible show wpList _ _ _ _ _ _); refine wpList_load_at (P := Tryz.prog) rfl 40 (.tmp 8) rfl w7.heap.size rfl 40 (val2 vt vb) hA9 _ Tryz.underlying40 rfl i32 ?_)
        | ((with_reducible show wpList _ _ _ _ _ _); refine wpList_store_at (P := Tryz.prog) rfl 40 (.tmp 4) (.tmp 44) rfl w.heap.size (val2 vt vb) rfl rfl 40 _ hA1 i32 rfl (one2 _ _) ?_; intro wE hAE hbE hsE))
      refine bodyPost_ret (results_at rfl _ _ w.heap.size 40 (val2 vt vb) _ rfl hAE Tryz.underlying40 rfl i32) rfl ?_
      exact ⟨rfl, hRC.but hbE hBw, hbt.fresh hbE (Nat.le_refl _)⟩
    · have e3 : ((vt : Int) != (t : Int)) = true := by rw [bne_iff_ne]; omega
      have hD' := hD.out
      rw [if_neg hvt] at hD'
      rw [hD']
      clear hD hD' hvt H60 H128
      go_enter Tryz.func95, Tryz.ntmps95
      go_wp2_with (first
        | ((with_reducible show wpList _ _ _ _ _ _); refine wpList_alloc_at rfl 40 rfl (val2 0 0) 2 z32 ?_; intro w1 hA1 hb1 hs1; clear hs1)
        | (go_at_call 92; refine (H0.out _ hb1).mono ?_; rintro r w2 ⟨rfl, hb2⟩; refine Hid.out ?_))
      refine hidU ?_
      have hw2 : Below w.heap.size w w2 := hb1.trans (hb2.mono hb1.size)
      have C55 := H55.out w2 hw2
      have l01 := hA1.lt
      have hA1 := hA1.below hb2
      have l12 := hb2.size
      clear hb1 hb2
      go_wp2_with (go_at_call 55; refine C55.mono ?_; rintro r w3 ⟨rfl, hR3, hb3⟩; refine Hid.out ?_)
      refine hidU ?_
      have hA1 := hb3.at hA1 (by omega)
      have l23 := hb3.size
      have C92 := H92.out w3 hR3
      clear C55
      go_wp2_with (first
        | (go_at_call 92; refine C92.mono ?_; rintro r w4 ⟨rfl, hb4⟩)
        | ((with_reducible show wpList _ _ _ _ _ _); refine wpList_alloc_at rfl 64 rfl (tok5 0 ⟨#[]⟩ 0 0 0) 5 z34 ?_; intro w5 hA5 hb5 hs5; clear hs5)
        | ((with_reducible show wpList _ _ _ _ _ _); refine wpList_store_at (P := Tryz.prog) rfl 64 (.tmp 7) (.tmp 16) rfl w4.heap.size (tok5 K ⟨T.toArray⟩ p tv b) rfl rfl 64 _ hA5 i34 rfl (one5T _ _ _ _ _) ?_; intro w6 hA6 hb6 hs6; clear hs6; refine Hid.out ?_))
      refine hidU ?_
      have hw6 : Below w3.heap.size w3 w6 := hb6.below (hb4.trans (hb5.mono hb4.size)) hb4.size (Nat.le_trans hb4.size hb5.size)
      have l34 := hb4.size
      have l46 := hA6.lt
      have hA1 := hA1.below hw6
      clear C92 hA5 hb4 hb5 hb6
      go_wp2_with (first
        | ((with_reducible show wpList _ _ _ _ _ _); refine wpList_load_at (P := Tryz.prog) rfl 64 (.tmp 7) rfl w4.heap.size rfl 64 (tok5 K ⟨T.toArray⟩ p tv b) hA6 _ Tryz.underlying64 rfl i34 ?_)
        | (go_at_call 126; refine (HL.out _).mono ?_; rintro r w7 ⟨rfl, hb7⟩)
        | ((with_reducible show wpList _ _ _ _ _ _); refine wpList_alloc_at rfl 40 rfl (val2 0 0) 2 z32 ?_; intro w8 hA8 hb8 hs8; clear hs8)
        | ((with_reducible show wpList _ _ _ _ _ _); refine wpList_store_at (P := Tryz.prog) rfl 40 (.tmp 8) (.tmp 20) rfl w7.heap.size (val2 vt vb) rfl rfl 40 _ hA8 i32 rfl (one2 _ _) ?_; intro w9 hA9 hb9 hs9; clear hs9; refine Hid.out ?_))
      refine hidU ?_
      have h69 : Below w6.heap.size w6 w9 := hb9.below (hb7.trans (hb8.mono hb7.size)) hb7.size (Nat.le_trans hb7.size hb8.size)
      have l67 := hb7.size
      have l79 := hA9.lt
      have hA6 := hA6.below h69
      have hA1 := hA1.below h69
      have h39 : Below w3.heap.size w3 w9 := hw6.trans (h69.mono hw6.size)
      have hR9 := hR3.below h39
      have hbt : But g w w9 := ((But.of_below hw2).trans hb3).trans (But.of_below h39)
      clear hA8 hb7 hb8 hb9 hw6 h69 h39 hb3 hR3 hw2
      clear hA6
      have C93 := H93.out w9 hR9
      go_wp2_with (go_at_call 93; refine C93.mono ?_; rintro r wC ⟨rfl, hRC, hbC⟩; refine Hid.out ?_)
      refine hidU ?_
      have hbt := hbt.trans hbC
      have hA1 := hbC.at hA1 (by omega)
      have hA9 := hbC.at hA9 (by omega)
      obtain ⟨c0, c1⟩ := vl_cells hA9
      clear C93 hR9 hbC
      clear hA1 hA9
      go_wp2_with (go_at_call 54; refine (refuse_any 9 p0 _).mono ?_; rintro r wD ⟨hr, rfl⟩; unfold PanW at hr; subst hr)
      exact ⟨rfl, rfl, hbt⟩

theorem value95_any {B : Nat} (g t : Nat) (l : List Tk) (w : World) (h : Rd B w g l) (hBw : B ≤ w.heap.size) :
    Calls Tryz.prog 95 #[.pointer (some ⟨g, 0, none⟩), .int .u8 (t : Int)] w (PostV B g w (valueR t l)) := by
  unfold valueR
  by_cases hc : (hdT l).text = [45]
  · rw [if_pos hc]
    exact valueY_any g t l w h hBw hc
  · rw [if_neg hc]
    exact valueN_any g t l w h hBw hc
end Go.Proofs.YtjgggmjjikopeaaGreatDoor

/- Statements, variables, threads, programs in memory. -/
namespace Go.Proofs.YtjgggmjjikopeaaGreatDoor
open Go.RowKit
set_option linter.unusedVariables false

/-- A statement, with where its blocks lie. -/
inductive ST where
  | mk (k : Int) (nm : ByteArray) (e : ET) (a1 : Option Addr) (c1 : Nat) (body : List ST) (a2 : Option Addr) (c2 : Nat) (els : List ST)

def st9 (k : Int) (nm : ByteArray) (e : List Value) (s1 s2 : Value) : List Value := .int .i64 k :: .string nm :: (e ++ [s1, s2])

def ST.cells : ST → List Value
  | .mk k nm e a1 c1 body a2 c2 els => st9 k nm e.cells (.slice a1 body.length c1) (.slice a2 els.length c2)

mutual
def ST.st : ST → St
  | .mk k nm e _ _ body _ _ els => .mk k nm.data.toList e.ex (ST.sts body) (ST.sts els)
def ST.sts : List ST → List St
  | [] => []
  | s :: r => s.st :: ST.sts r
end

theorem ST.sts_eq : ∀ ks : List ST, ST.sts ks = ks.map ST.st
  | [] => rfl
  | e :: r => by rw [ST.sts, ST.sts_eq r]; rfl

mutual
def ST.In (B : Nat) (w : World) : ST → Prop
  | .mk k nm e a1 c1 body a2 c2 els => (-9223372036854775808 ≤ k ∧ k ≤ 9223372036854775807) ∧ e.In B w ∧
    (body.length ≤ 1048576 ∧ body.length ≤ c1 ∧ (body = [] ∨ ∃ g o, a1 = some ⟨g, o, none⟩ ∧ g < B ∧ ST.Row B w g body o)) ∧
    (els.length ≤ 1048576 ∧ els.length ≤ c2 ∧ (els = [] ∨ ∃ g o, a2 = some ⟨g, o, none⟩ ∧ g < B ∧ ST.Row B w g els o))
def ST.Row (B : Nat) (w : World) (g : Nat) : List ST → Nat → Prop
  | [], _ => True
  | s :: r, o => w.rangeAt g o s.cells ∧ s.In B w ∧ ST.Row B w g r (o + 9)
end

theorem ST.cells_len (s : ST) : s.cells.length = 9 := by cases s; simp [ST.cells, st9, ET.cells_len]

mutual
theorem ST.In.old {B : Nat} {w w' : World} (hO : Old B w w') : ∀ {s : ST}, s.In B w → s.In B w'
  | .mk k nm e a1 c1 body a2 c2 els, h => by
    unfold ST.In at h ⊢
    obtain ⟨h1, h2, ⟨h3, h4, h5⟩, h6, h7, h8⟩ := h
    refine ⟨h1, h2.old hO, ⟨h3, h4, ?_⟩, h6, h7, ?_⟩
    · rcases h5 with h5 | ⟨g, o, ha, hg, hr⟩
      · exact .inl h5
      · exact .inr ⟨g, o, ha, hg, ST.Row.old hO hg hr⟩
    · rcases h8 with h8 | ⟨g, o, ha, hg, hr⟩
      · exact .inl h8
      · exact .inr ⟨g, o, ha, hg, ST.Row.old hO hg hr⟩
theorem ST.Row.old {B : Nat} {w w' : World} (hO : Old B w w') {g : Nat} (hg : g < B) : ∀ {ks : List ST} {o : Nat}, ST.Row B w g ks o → ST.Row B w' g ks o
  | [], o, _ => trivial
  | s :: r, o, h => by
    unfold ST.Row at h ⊢
    exact ⟨hO.range hg h.1, ST.In.old hO h.2.1, ST.Row.old hO hg h.2.2⟩
end

theorem ST.Row.at {B g : Nat} {w : World} : ∀ {ks : List ST} {o : Nat}, ST.Row B w g ks o → ∀ (i : Nat) (e : ST), ks[i]? = some e → w.rangeAt g (o + i * 9) e.cells ∧ e.In B w
  | [], o, _, i, e, h => by simp at h
  | x :: r, o, hr, 0, e, h => by
    unfold ST.Row at hr
    simp at h
    subst h
    exact ⟨by simpa using hr.1, hr.2.1⟩
  | x :: r, o, hr, i + 1, e, h => by
    unfold ST.Row at hr
    have := ST.Row.at hr.2.2 i e (by simpa using h)
    rw [show o + (i + 1) * 9 = o + 9 + i * 9 by omega]
    exact this

/-- A row of statements in memory. -/
def RowS (B : Nat) (w : World) (a : Option Addr) (c : Nat) (ks : List ST) : Prop := ks.length ≤ 1048576 ∧ ks.length ≤ c ∧ (ks = [] ∨ ∃ g o, a = some ⟨g, o, none⟩ ∧ g < B ∧ ST.Row B w g ks o)

theorem RowS.old {B c : Nat} {w w' : World} {a : Option Addr} {ks : List ST} (h : RowS B w a c ks) (hO : Old B w w') : RowS B w' a c ks := by
  obtain ⟨h1, h2, h | ⟨g, o, ha, hg, hr⟩⟩ := h
  · exact ⟨h1, h2, .inl h⟩
  · exact ⟨h1, h2, .inr ⟨g, o, ha, hg, ST.Row.old hO hg hr⟩⟩

theorem RowS.at {B c : Nat} {w : World} {a : Option Addr} {ks : List ST} (h : RowS B w a c ks) (i : Nat) (k : ST) (hk : ks[i]? = some k) : ∃ g o, a = some ⟨g, o, none⟩ ∧ g < B ∧ w.rangeAt g (o + i * 9) k.cells ∧ k.In B w := by
  obtain ⟨_, _, h | ⟨g, o, ha, hg, hr⟩⟩ := h
  · rw [h] at hk; simp at hk
  · obtain ⟨h1, h2⟩ := hr.at i k hk
    exact ⟨g, o, ha, hg, h1, h2⟩

theorem ST.one (s : ST) : ∀ v ∈ s.cells, v.oneCell' = true := by
  cases s with
  | mk k nm e a1 c1 body a2 c2 els =>
    intro v hv
    simp only [ST.cells, st9, List.mem_cons, List.mem_append, List.not_mem_nil, or_false] at hv
    rcases hv with rfl | rfl | hv | rfl | rfl
    · rfl
    · rfl
    · exact e.one v hv
    · rfl
    · rfl

theorem i38 : (Tryz.prog.info? 51).map (·.size) = some 9 := by kernel_rfl
mutual
/-- All rows lie in blocks of S. -/
def ST.Lies (S : Nat → Prop) : ST → Prop
  | .mk _ _ e a1 _ b1 a2 _ b2 => e.Lies S ∧ ((b1 = [] ∨ ∃ g o, a1 = some ⟨g, o, none⟩ ∧ S g) ∧ ST.LiesL S b1) ∧ (b2 = [] ∨ ∃ g o, a2 = some ⟨g, o, none⟩ ∧ S g) ∧ ST.LiesL S b2
def ST.LiesL (S : Nat → Prop) : List ST → Prop
  | [] => True
  | e :: r => e.Lies S ∧ ST.LiesL S r
end
theorem at_imp {S S' : Nat → Prop} (hS : ∀ k, S k → S' k) {α : Type} {l : List α} {a : Option Addr} (k : l = [] ∨ ∃ g o, a = some ⟨g, o, none⟩ ∧ S g) : l = [] ∨ ∃ g o, a = some ⟨g, o, none⟩ ∧ S' g := by
  rcases k with k | ⟨g, o, k1, k2⟩
  · exact .inl k
  · exact .inr ⟨g, o, k1, hS g k2⟩
mutual
theorem ST.Lies.mono {S S' : Nat → Prop} (hS : ∀ k, S k → S' k) : ∀ {e : ST}, e.Lies S → e.Lies S'
  | .mk _ _ e a1 _ b1 a2 _ b2, h => by
    unfold ST.Lies at h ⊢
    exact ⟨h.1.mono hS, ⟨at_imp hS h.2.1.1, ST.LiesL.mono hS h.2.1.2⟩, at_imp hS h.2.2.1, ST.LiesL.mono hS h.2.2.2⟩
theorem ST.LiesL.mono {S S' : Nat → Prop} (hS : ∀ k, S k → S' k) : ∀ {l : List ST}, ST.LiesL S l → ST.LiesL S' l
  | [], _ => trivial
  | e :: r, h => by
    unfold ST.LiesL at h ⊢
    exact ⟨ST.Lies.mono hS h.1, ST.LiesL.mono hS h.2⟩
end
mutual
theorem ST.In.stay {B : Nat} {S : Nat → Prop} {w w' : World} (hM : ∀ k, S k → k < B → w'.heap[k]? = w.heap[k]?) : ∀ {e : ST}, e.In B w → e.Lies S → e.In B w'
  | .mk k nm e a1 c1 b1 a2 c2 b2, h, u => by
    unfold ST.In at h ⊢
    unfold ST.Lies at u
    obtain ⟨h1, h2, ⟨h3, h4, h5⟩, h6, h7, h8⟩ := h
    refine ⟨h1, h2.stay hM u.1, ⟨h3, h4, ?_⟩, h6, h7, ?_⟩
    · rcases h5 with h5 | ⟨g, o, ha, hg, hr⟩
      · exact .inl h5
      · rcases u.2.1.1 with hk | ⟨g', o', ha', hg'⟩
        · exact .inl hk
        · rw [ha] at ha'
          cases ha'
          exact .inr ⟨g, o, ha, hg, ST.Row.stay hM hg' hg hr u.2.1.2⟩
    · rcases h8 with h8 | ⟨g, o, ha, hg, hr⟩
      · exact .inl h8
      · rcases u.2.2.1 with hk | ⟨g', o', ha', hg'⟩
        · exact .inl hk
        · rw [ha] at ha'
          cases ha'
          exact .inr ⟨g, o, ha, hg, ST.Row.stay hM hg' hg hr u.2.2.2⟩
theorem ST.Row.stay {B : Nat} {S : Nat → Prop} {w w' : World} (hM : ∀ k, S k → k < B → w'.heap[k]? = w.heap[k]?) {g : Nat} (hA : S g) (hg : g < B) : ∀ {ks : List ST} {o : Nat}, ST.Row B w g ks o → ST.LiesL S ks → ST.Row B w' g ks o
  | [], o, _, _ => trivial
  | e :: r, o, h, u => by
    unfold ST.Row at h ⊢
    unfold ST.LiesL at u
    refine ⟨fun j v hj => ?_, ST.In.stay hM h.2.1 u.1, ST.Row.stay hM hA hg h.2.2 u.2⟩
    rw [World.cell?_of_block (w := w) (w' := w') (hM g hA hg)]
    exact h.1 j v hj
end
mutual
theorem ST.In.lies {B : Nat} {S : Nat → Prop} {w : World} : ∀ {e : ST}, e.In B w → e.Lies S → e.Lies (fun k => S k ∧ k < B)
  | .mk k nm e a1 c1 b1 a2 c2 b2, h, u => by
    unfold ST.In at h
    unfold ST.Lies at u ⊢
    obtain ⟨h1, h2, ⟨h3, h4, h5⟩, h6, h7, h8⟩ := h
    refine ⟨h2.lies u.1, ?_, ?_⟩
    · rcases h5 with h5 | ⟨g, o, ha, hg, hr⟩
      · subst h5
        exact ⟨.inl rfl, trivial⟩
      · rcases u.2.1.1 with hk | ⟨g', o', ha', hg'⟩
        · subst hk
          exact ⟨.inl rfl, trivial⟩
        · rw [ha] at ha'
          cases ha'
          exact ⟨.inr ⟨g, o, ha, hg', hg⟩, ST.Row.lies hr u.2.1.2⟩
    · rcases h8 with h8 | ⟨g, o, ha, hg, hr⟩
      · subst h8
        exact ⟨.inl rfl, trivial⟩
      · rcases u.2.2.1 with hk | ⟨g', o', ha', hg'⟩
        · subst hk
          exact ⟨.inl rfl, trivial⟩
        · rw [ha] at ha'
          cases ha'
          exact ⟨.inr ⟨g, o, ha, hg', hg⟩, ST.Row.lies hr u.2.2.2⟩
theorem ST.Row.lies {B : Nat} {S : Nat → Prop} {w : World} {g : Nat} : ∀ {ks : List ST} {o : Nat}, ST.Row B w g ks o → ST.LiesL S ks → ST.LiesL (fun k => S k ∧ k < B) ks
  | [], o, _, _ => trivial
  | e :: r, o, h, u => by
    unfold ST.Row at h
    unfold ST.LiesL at u ⊢
    exact ⟨ST.In.lies h.2.1 u.1, ST.Row.lies h.2.2 u.2⟩
end
theorem ST.LiesL.of {S : Nat → Prop} : ∀ {l : List ST}, (∀ e ∈ l, e.Lies S) → ST.LiesL S l
  | [], _ => trivial
  | e :: r, h => by unfold ST.LiesL; exact ⟨h e List.mem_cons_self, ST.LiesL.of fun x hx => h x (List.mem_cons_of_mem _ hx)⟩

def flatS (ys : List ST) : List Value := ys.flatMap ST.cells
theorem ST.cells9 (e : ST) : e.cells.length = 9 := by
  obtain ⟨k, nm, ⟨op, t, b, enm, ea, ec, eks⟩, a1, c1, b1, a2, c2, b2⟩ := e
  rfl
theorem row_of_flatS {B g : Nat} {w : World} : ∀ (ys : List ST) (o : Nat), w.rangeAt g o (flatS ys) → (∀ y ∈ ys, y.In B w) → ST.Row B w g ys o
  | [], o, _, _ => trivial
  | e :: r, o, h, u => by
    unfold ST.Row
    have e1 : flatS (e :: r) = e.cells ++ flatS r := by unfold flatS; rw [List.flatMap_cons]
    rw [e1] at h
    refine ⟨fun j v hj => h j v ?_, u e List.mem_cons_self, row_of_flatS r (o + 9) (fun j v hj => ?_) fun x hx => u x (List.mem_cons_of_mem _ hx)⟩
    · have hl : j < e.cells.length := by
        rcases Nat.lt_or_ge j e.cells.length with q | q
        · exact q
        · rw [List.getElem?_eq_none q] at hj; cases hj
      rw [List.getElem?_append_left hl]
      exact hj
    · have := h (9 + j) v (by rw [List.getElem?_append_right (by rw [e.cells9]; omega), e.cells9, Nat.add_sub_cancel_left]; exact hj)
      rw [Nat.add_assoc]
      exact this

/-- A variable. -/
structure VT where
  nm : ByteArray
  t : Nat
  b : Nat
def VT.cells (v : VT) : List Value := [.string v.nm, .int .u8 (v.t : Int), .int .u64 (v.b : Int)]
def VT.vr (v : VT) : Vr := ⟨v.nm.data.toList, v.t, v.b⟩
def VT.In (_B : Nat) (_w : World) (v : VT) : Prop := v.t < 256 ∧ v.b < 18446744073709551616

/-- A row of variables in memory. -/
def RowV (B : Nat) (w : World) (a : Option Addr) (c : Nat) (ks : List VT) : Prop := ks.length ≤ 1048576 ∧ ks.length ≤ c ∧ (ks = [] ∨ ∃ g o, a = some ⟨g, o, none⟩ ∧ g < B ∧ ∀ i v, ks[i]? = some v → w.rangeAt g (o + i * 3) v.cells ∧ v.In B w)

/-- A row of names in memory. -/
def RowN (B : Nat) (w : World) (a : Option Addr) (c : Nat) (ks : List ByteArray) : Prop := ks.length ≤ 1048576 ∧ ks.length ≤ c ∧ (ks = [] ∨ ∃ g o, a = some ⟨g, o, none⟩ ∧ g < B ∧ ∀ i v, ks[i]? = some v → w.cell? ⟨g, o + i, none⟩ = some (.string v))

theorem VT.In.old {B : Nat} {w w' : World} (hO : Old B w w') {v : VT} (h : v.In B w) : v.In B w' := h

/-- A thread, with where its lists lie. -/
structure TT where
  nm : ByteArray
  a1 : Option Addr
  c1 : Nat
  locals : List VT
  a2 : Option Addr
  c2 : Nat
  body : List ST
def TT.cells (v : TT) : List Value := [.string v.nm, .slice v.a1 v.locals.length v.c1, .slice v.a2 v.body.length v.c2]
def TT.th (v : TT) : Th := ⟨v.nm.data.toList, v.locals.map VT.vr, v.body.map ST.st⟩
def TT.In (B : Nat) (w : World) (v : TT) : Prop := RowV B w v.a1 v.c1 v.locals ∧ RowS B w v.a2 v.c2 v.body

/-- A row of threads in memory. -/
def RowT (B : Nat) (w : World) (a : Option Addr) (c : Nat) (ks : List TT) : Prop := ks.length ≤ 1048576 ∧ ks.length ≤ c ∧ (ks = [] ∨ ∃ g o, a = some ⟨g, o, none⟩ ∧ g < B ∧ ∀ i v, ks[i]? = some v → w.rangeAt g (o + i * 3) v.cells ∧ v.In B w)

theorem RowV.old {B c : Nat} {w w' : World} {a : Option Addr} {ks : List VT} (h : RowV B w a c ks) (hO : Old B w w') : RowV B w' a c ks := by
  obtain ⟨h1, h2, h | ⟨g, o, ha, hg, hr⟩⟩ := h
  · exact ⟨h1, h2, .inl h⟩
  · exact ⟨h1, h2, .inr ⟨g, o, ha, hg, fun i v hv => ⟨hO.range hg (hr i v hv).1, (hr i v hv).2⟩⟩⟩
theorem RowN.old {B c : Nat} {w w' : World} {a : Option Addr} {ks : List ByteArray} (h : RowN B w a c ks) (hO : Old B w w') : RowN B w' a c ks := by
  obtain ⟨h1, h2, h | ⟨g, o, ha, hg, hr⟩⟩ := h
  · exact ⟨h1, h2, .inl h⟩
  · exact ⟨h1, h2, .inr ⟨g, o, ha, hg, fun i v hv => by rw [World.cell?_of_block (w := w) (w' := w') (hO _ hg)]; exact hr i v hv⟩⟩
theorem TT.In.old {B : Nat} {w w' : World} (hO : Old B w w') {v : TT} (h : v.In B w) : v.In B w' := ⟨h.1.old hO, h.2.old hO⟩
theorem RowT.old {B c : Nat} {w w' : World} {a : Option Addr} {ks : List TT} (h : RowT B w a c ks) (hO : Old B w w') : RowT B w' a c ks := by
  obtain ⟨h1, h2, h | ⟨g, o, ha, hg, hr⟩⟩ := h
  · exact ⟨h1, h2, .inl h⟩
  · exact ⟨h1, h2, .inr ⟨g, o, ha, hg, fun i v hv => ⟨hO.range hg (hr i v hv).1, (hr i v hv).2.old hO⟩⟩⟩

theorem RowV.at {B c : Nat} {w : World} {a : Option Addr} {ks : List VT} (h : RowV B w a c ks) (i : Nat) (k : VT) (hk : ks[i]? = some k) : ∃ g o, a = some ⟨g, o, none⟩ ∧ g < B ∧ w.rangeAt g (o + i * 3) k.cells ∧ k.In B w := by
  obtain ⟨_, _, h | ⟨g, o, ha, hg, hr⟩⟩ := h
  · rw [h] at hk; simp at hk
  · exact ⟨g, o, ha, hg, (hr i k hk).1, (hr i k hk).2⟩
theorem RowT.at {B c : Nat} {w : World} {a : Option Addr} {ks : List TT} (h : RowT B w a c ks) (i : Nat) (k : TT) (hk : ks[i]? = some k) : ∃ g o, a = some ⟨g, o, none⟩ ∧ g < B ∧ w.rangeAt g (o + i * 3) k.cells ∧ k.In B w := by
  obtain ⟨_, _, h | ⟨g, o, ha, hg, hr⟩⟩ := h
  · rw [h] at hk; simp at hk
  · exact ⟨g, o, ha, hg, (hr i k hk).1, (hr i k hk).2⟩
theorem RowN.at {B c : Nat} {w : World} {a : Option Addr} {ks : List ByteArray} (h : RowN B w a c ks) (i : Nat) (k : ByteArray) (hk : ks[i]? = some k) : ∃ g o, a = some ⟨g, o, none⟩ ∧ g < B ∧ w.cell? ⟨g, o + i, none⟩ = some (.string k) := by
  obtain ⟨_, _, h | ⟨g, o, ha, hg, hr⟩⟩ := h
  · rw [h] at hk; simp at hk
  · exact ⟨g, o, ha, hg, hr i k hk⟩

theorem VT.one (v : VT) : ∀ x ∈ v.cells, x.oneCell' = true := by
  intro x hx
  simp [VT.cells] at hx
  rcases hx with rfl | rfl | rfl <;> rfl
theorem TT.one (v : TT) : ∀ x ∈ v.cells, x.oneCell' = true := by
  intro x hx
  simp [TT.cells] at hx
  rcases hx with rfl | rfl | rfl <;> rfl

theorem i79 : (Tryz.prog.info? 48).map (·.size) = some 3 := by kernel_rfl
theorem z79 : (Tryz.prog.info? 48).map (fun i => (i.zero, i.size)) = some (some (.agg [.string ⟨#[]⟩, .int .u8 0, .int .u64 0].toArray), 3) := by kernel_rfl
theorem i42 : (Tryz.prog.info? 53).map (·.size) = some 3 := by kernel_rfl
theorem z42 : (Tryz.prog.info? 53).map (fun i => (i.zero, i.size)) = some (some (.agg [.string ⟨#[]⟩, .slice none 0 0, .slice none 0 0].toArray), 3) := by kernel_rfl

/-- A program, with where its lists lie. -/
structure PT where
  a1 : Option Addr
  c1 : Nat
  shared : List VT
  a2 : Option Addr
  c2 : Nat
  mutexes : List ByteArray
  a3 : Option Addr
  c3 : Nat
  threads : List TT
def PT.cells (p : PT) : List Value := [.slice p.a1 p.shared.length p.c1, .slice p.a2 p.mutexes.length p.c2, .slice p.a3 p.threads.length p.c3]
def PT.pg (p : PT) : Pg := ⟨p.shared.map VT.vr, p.mutexes.map (fun m => m.data.toList), p.threads.map TT.th⟩
def PT.In (B : Nat) (w : World) (p : PT) : Prop := RowV B w p.a1 p.c1 p.shared ∧ RowN B w p.a2 p.c2 p.mutexes ∧ RowT B w p.a3 p.c3 p.threads
end Go.Proofs.YtjgggmjjikopeaaGreatDoor
