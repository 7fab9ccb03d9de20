/- FrameTurned, given what the program's frames tell. -/
import Derived.Test.YtbehmclligkbhaaFrH
namespace Go.Proofs.Ytbehmclligkbhaa
open Go.RowKit
set_option linter.unusedVariables false

theorem i5 : (Try.prog.info? 5).map (·.size) = some 1 := by kernel_rfl
/-- A byte of a row of the call's own is changed. -/
theorem own_set {base : Nat} {w : World} {g o L c : Nat} {bs : List UInt8} {p : Nat} {x : UInt8} (h : OwnX eB base w (.slice (some ⟨g, o, none⟩) L c) bs) (hx : bs[p]? = some x) :
    o = 0 ∧ base ≤ g ∧ ∃ cs : List Value, At 5 w g cs ∧ p + 1 ≤ cs.length ∧ cs[p]? = some (B8 x) ∧ ∀ (w' : World) (y : UInt8), At 5 w' g (cs.set p (B8 y)) → OwnX eB base w' (.slice (some ⟨g, o, none⟩) L c) (bs.set p y) := by
  have hp := (List.getElem?_eq_some_iff.1 hx).1
  obtain ⟨h1, ⟨h0, h0'⟩ | ⟨g', cap, cur, h2, hg, hh, hc, hm, hs, ht⟩⟩ := h
  · cases h0
  · cases h2
    have hA : At 5 w g cur.toList := (show w.heap[g]? = some (.cells cur.toList.toArray 5 (0, 0)) from hh)
    have hs' : cur.size = c := by rw [hs]; exact Nat.mul_one _
    have ht' : cur.toList.take (bs.length * 1) = bs.map B8 := by rw [← eB_flat]; exact ht
    rw [Nat.mul_one] at ht'
    have hcl : bs.length ≤ cur.toList.length := by
      have := congrArg List.length ht'
      rw [List.length_take, List.length_map] at this
      omega
    refine ⟨rfl, hg, cur.toList, hA, by omega, ?_, ?_⟩
    · have : (cur.toList.take bs.length)[p]? = some (B8 x) := by rw [ht', List.getElem?_map, hx]; rfl
      rwa [List.getElem?_take_of_lt hp] at this
    · intro w' y hA'
      refine ⟨by rw [flat_len], .inr ⟨g, c, (cur.toList.set p (B8 y)).toArray, by rw [List.length_set], hg, hA', by rw [List.length_set]; exact hc, hm, by simp [hs], ?_⟩⟩
      rw [List.length_set, eB_flat, show bs.length * eB.n = bs.length from Nat.mul_one _, List.map_set, ← ht', List.take_set]
theorem RowX.take {α : Type} {e : El α} {w : World} {a : Option Addr} {xs : List α} (h : RowX e w a xs) (k : Nat) : RowX e w a (xs.take k) := by
  rcases h with rfl | ⟨g, o, rfl, hr⟩
  · exact .inl (by simp)
  · refine .inr ⟨g, o, rfl, fun j v hj => hr j v ?_⟩
    have e1 : e.flat xs = e.flat (xs.take k) ++ e.flat (xs.drop k) := by rw [← flat_app, List.take_append_drop]
    rw [e1, List.getElem?_append_left (List.getElem?_eq_some_iff.1 hj).1]
    exact hj
theorem LB.take {w : World} {a : Option Addr} {xs : List BT} (h : LB w a xs) (k : Nat) : LB w a (xs.take k) := ⟨h.1.take k, fun x hx => h.2 x (List.mem_of_mem_take hx)⟩
theorem run_slice27 (w : World) (a : Option Addr) (len cap h : Nat) (x : Int) (hx : x = (h : Int)) (hh : h ≤ cap) :
    (Instr.slice 27 (.slice a len cap) none (some (.int .i64 x)) none).run Try.prog w = .ok (.slice a h cap) w := by
  have hu : Try.prog.underlying 27 = some (.slice 22) := eR.und
  have he : Try.prog.elem 27 = 22 := by simp [Program.elem, hu]
  have hsz : (sizeOf 22).run Try.prog w = .ok 1 w := by kernel_rfl
  rw [run_slice_h w 27 a len cap (by rw [he]; exact hu) .i64 x (by omega) (by omega), he, hsz]
  have hz : ∀ p : Addr, p.add 0 = p := fun p => by cases p; simp [Addr.add]
  have hm : a.map (fun p => p.add 0) = a := by cases a <;> simp [hz]
  simp only [Result.andThen, sliced, Nat.zero_mul, hm, Nat.sub_zero]
  rw [show x.toNat = h by omega]
  simp
theorem wrap_u8 {n : Nat} (h : n < 256) : IntKind.u8.wrap (n : Int) = (n : Int) := by
  simp only [IntKind.wrap, IntKind.bits, IntKind.signed]
  simp
  omega
theorem xor_u8 {a b : Nat} (ha : a < 256) (hb : b < 256) : bits .xor .u8 (a : Int) (b : Int) = ((a ^^^ b : Nat) : Int) := by
  have hx : a ^^^ b < 2 ^ 8 := Nat.xor_lt_two_pow (by omega) (by omega)
  show IntKind.u8.wrap ((BitVec.ofInt 8 (a : Int) ^^^ BitVec.ofInt 8 (b : Int)).toNat : Int) = _
  rw [BitVec.toNat_xor, BitVec.ofInt_natCast, BitVec.toNat_ofNat, BitVec.ofInt_natCast, BitVec.toNat_ofNat, Nat.mod_eq_of_lt ha, Nat.mod_eq_of_lt hb]
  exact wrap_u8 (by omega)
/-- A bit of a byte. -/
theorem bit_flip (x : UInt8) (j : Nat) (hj : j < 8) : ∃ y : UInt8, y ≠ x ∧ y.toNat = x.toNat ^^^ 2 ^ j := by
  have hx := x.toNat_lt
  have h2 : 2 ^ j < 2 ^ 8 := Nat.pow_lt_pow_right (by decide) hj
  have hlt : x.toNat ^^^ 2 ^ j < 2 ^ 8 := Nat.xor_lt_two_pow (by omega) h2
  have e := ub_toNat (x.toNat ^^^ 2 ^ j) (by omega)
  refine ⟨ub (x.toNat ^^^ 2 ^ j), fun q => ?_, e⟩
  rw [q] at e
  have h3 : 0 ^^^ x.toNat = 2 ^ j ^^^ x.toNat := by rw [Nat.zero_xor, Nat.xor_comm, ← e]
  have := xor_inj h3
  have := Nat.pow_pos (n := j) (show 0 < 2 by decide)
  omega
/-- Where a place in frames lies. -/
theorem flat_split (l : List (List UInt8)) (k : Nat) (r : List UInt8) (h : l[k]? = some r) : flatF l = flatF (l.take k) ++ (frameL r ++ flatF (l.drop (k + 1))) := by
  obtain ⟨hk, e⟩ := List.getElem?_eq_some_iff.1 h
  conv => lhs; rw [← List.take_append_drop k l, List.drop_eq_getElem_cons hk, e]
  simp [flatF]
theorem scan_bit (l : List (List UInt8)) (k p : Nat) (x y : UInt8) (hl : ∀ r ∈ l, r.length ≤ 300) (hk : k < l.length) (h1 : (flatF (l.take k)).length ≤ p) (h2 : p < (flatF (l.take (k + 1))).length) (hx : (flatF l)[p]? = some x) (hy : y ≠ x) :
    scanL ((flatF l).set p y) = (l.take k, (flatF (l.take k)).length, 2) := by
  obtain ⟨r, hr⟩ : ∃ r, l[k]? = some r := ⟨_, List.getElem?_eq_getElem hk⟩
  have hrl : r.length ≤ 300 := hl r (List.mem_of_getElem? hr)
  rw [flatF_snoc l k r hr, List.length_append, frameL_len] at h2
  rw [flat_split l k r hr] at hx ⊢
  rw [List.getElem?_append_right h1, List.getElem?_append_left (by rw [frameL_len]; omega)] at hx
  rw [List.set_append_right _ _ h1, List.set_append_left _ _ (by rw [frameL_len]; omega)]
  rw [scan_frames _ _ (fun z hz => Nat.le_trans (hl z (List.mem_of_mem_take hz)) (by decide)), scan_turned r _ _ y (by omega) (by omega) (fun z hz => by rw [hx] at hz; cases hz; exact hy), List.append_nil]
  rfl
set_option maxRecDepth 100000 in
set_option maxHeartbeats 12800000 in
theorem turned_of (Fa : Face) (a : Option Addr) (n c : Nat) (xs : List BT) (z : Int) (w : World) (hL : LB w a xs) (hn : n = xs.length) (hc : n ≤ c) (hl : n ≤ 9223372036854775807)
    (hz1 : -9223372036854775808 ≤ z) (hz2 : z < 9223372036854775808) :
    Calls Try.prog 5 #[.slice a n c, .int .i64 z] w fun r w' => r = .returned (.bool true) ∧ Below w.heap.size w w' := by
  have HL := hidU hL
  have HN := hidU hn
  have HZ := hidU (And.intro hz1 hz2)
  have H1 := hidU (awake_of Fa w)
  clear hL hn hz1 hz2
  go_enter Try.func5, Try.ntmps5
  go_wp2_with (go_at_call 23; refine H1.out.mono ?_; rintro _ w1 ⟨rfl, hb1⟩; refine Hid.out ?_)
  refine hidU ?_
  have HB1 := hidU hb1
  have H2 := hidU (run_any Fa a n c xs w1 (HL.out.below hb1) HN.out hc hl)
  clear hb1 H1
  cases hR : runOk xs with
  | false =>
    rw [hR] at H2
    go_wp2_with (go_at_call 24; refine H2.out.mono ?_; rintro _ w2 ⟨hb2, _, hr2⟩; obtain rfl := hr2 rfl; refine Hid.out ?_)
    refine hidU ?_
    have HB2 := hidU (HB1.out.trans (hb2.mono HB1.out.size))
    clear hb2 hr2 H2 HB1
    go_wp2
    go_ret
    exact ⟨rfl, HB2.out⟩
  | true =>
    obtain ⟨hx20, hx300⟩ := runOk_len hR
    rw [← HN.out] at hx20
    have HX := hidU hx300
    rw [hR] at H2
    clear hx300 hR
    go_wp2_with (go_at_call 24; refine H2.out.mono ?_; rintro _ w2 ⟨hb2, hr2, _⟩; obtain ⟨v5, v6, rfl, ho5, ho6⟩ := hr2 rfl; refine Hid.out ?_)
    refine hidU ?_
    have HB2 := hidU (HB1.out.trans (hb2.mono HB1.out.size))
    have hbl : (bss xs).length = n := by rw [bss, List.length_map, HN.out]
    have HBl := hidU hbl
    have hL6 : (flatF (bss xs)).length ≤ 6240 := by
      have := flatF_le (bss xs) HX.out
      rw [hbl] at this; omega
    obtain ⟨a5, c5, rfl, row5, hc5, hz5⟩ := ho5.rowB
    have HO6 := hidU ho6
    obtain ⟨a6, c6, rfl, _, _, _, _, row6⟩ := ho6.row
    rw [ats_len] at HO6 ⊢
    obtain ⟨L, hL⟩ : ∃ x, Hid (x = (flatF (bss xs)).length) := ⟨_, (rfl : (flatF (bss xs)).length = _)⟩
    rw [← hL.out] at hc5 hL6 ho5 ⊢
    have HB15 := hidU HB1.out.size
    clear hb2 hr2 H2 HB1 hbl
    by_cases hL0 : L = 0
    · subst hL0
      clear ho5 row5 row6 HO6 hc5
      go_wp2
      go_ret
      exact ⟨rfl, HB2.out⟩
    have hL0b : ((L : Int) == 0) = false := by rw [beq_eq_false_iff_ne]; omega
    have H3 := hidU (pick_any z (8 * (L : Int)) w2 HZ.out.1 HZ.out.2 (by omega))
    have HO5 := hidU ho5
    have HR6 := hidU row6
    have HRow5 := hidU row5
    clear ho5 ho6 row5 row6
    go_wp2_with (go_at_call 25; refine H3.out.mono ?_; rintro _ w3 ⟨⟨bit, rfl, hk1, _⟩, hw3⟩; subst hw3; refine Hid.out ?_)
    refine hidU ?_
    have hbit : bit < 8 * L := by have := hk1 (by omega); omega
    obtain ⟨p, hp⟩ : ∃ p, Hid (p = bit / 8) := ⟨_, (rfl : bit / 8 = _)⟩
    obtain ⟨j, hj⟩ : ∃ p, Hid (p = bit % 8) := ⟨_, (rfl : bit % 8 = _)⟩
    have hpL : p < L := by rw [hp.out]; omega
    have hj8 : j < 8 := by rw [hj.out]; omega
    have hq1 : (bit : Int) / 8 = (p : Int) := by rw [hp.out]; omega
    have hwp : IntKind.i64.wrap (p : Int) = (p : Int) := by rw [IntKind.wrap_i64]; omega
    have hwj : IntKind.i64.wrap (j : Int) = (j : Int) := by rw [IntKind.wrap_i64]; omega
    have hq2 : (bit : Int).tmod 8 = (j : Int) := by rw [hj.out, Int.tmod_eq_emod_of_nonneg (by omega)]; omega
    obtain ⟨x, hx⟩ : ∃ x, (flatF (bss xs))[p]? = some x := ⟨_, List.getElem?_eq_getElem (by rw [← hL.out]; exact hpL)⟩
    obtain ⟨g5, o5, rfl, cl0⟩ := row_byte HRow5.out hx
    obtain ⟨ho0, hg5, cs, hAt, hcsl, hcsp, hset⟩ := own_set HO5.out hx
    subst ho0
    have HAt := hidU hAt
    have hx256 := x.toNat_lt
    obtain ⟨xv, hxv⟩ : ∃ v, Hid (v = x.toNat) := ⟨_, (rfl : x.toNat = _)⟩
    rw [← hxv.out] at hx256
    have cl : w3.cell? ⟨g5, p, none⟩ = some (.int .u8 (xv : Int)) := by rw [hAt.cell, hcsp, hxv.out]; rfl
    obtain ⟨y, hy1, hy2⟩ : ∃ y : UInt8, y ≠ x ∧ y.toNat = xv ^^^ 2 ^ j := by rw [hxv.out]; exact bit_flip x j hj8
    obtain ⟨yv, hyv⟩ : ∃ v, Hid (v = y.toNat) := ⟨_, (rfl : y.toNat = _)⟩
    obtain ⟨sv, hsv⟩ : ∃ v, Hid (v = 2 ^ j) := ⟨_, (rfl : 2 ^ j = _)⟩
    have HHX := hidU hx
    have HSet := hidU hset
    have HY := hidU hy1
    have HYv : Hid (yv = xv ^^^ sv) := by show yv = _; rw [hyv.out, hy2, hsv.out]
    have hsv8 : sv < 256 := by rw [hsv.out]; exact Nat.pow_lt_pow_right (n := 8) (by decide) hj8
    have hshl : IntKind.u8.wrap (2 ^ j) = (sv : Int) := by rw [show (2 : Int) ^ j = (sv : Int) by rw [hsv.out]; push_cast; rfl]; exact wrap_u8 hsv8
    have hxor : bits .xor .u8 (xv : Int) (sv : Int) = (yv : Int) := by rw [HYv.out]; exact xor_u8 (by omega) hsv8
    clear hk1 H3 hAt hset hx hcsp hy1 hy2 cl0
    go_wp2
    have hS0a : Below w3.heap.size w3 w3.drew := Below.drew (Below.refl _ _)
    refine wp_region_S (S := fun xS => Below w3.heap.size w3 xS) (St := [13]) (by kernel_rfl) hS0a ?_
    obtain ⟨x0a, hx0⟩ : ∃ x, x = w3.drew := ⟨_, rfl⟩
    rw [← hx0] at hS0a  ⊢
    clear hx0
    intro hH
    refine wpAnyS_pure (i := 0) (oi := { dst := some 33, op := .move (.tmp 6), type := _, pos := _, after := _, guard := none }) (v := .slice (some ⟨g5, 0, none⟩) L c5) rfl (by kernel_rfl) (by kernel_rfl) (by kernel_rfl) (by kernel_rfl) (fun _ _ _ h => h) (Or.inl ⟨by rfl, ?_⟩) hH (fun hH => ?_)
    · intro wS hSw
      go_simp
    simp only [Act.put, List.setIfInBounds_toArray, List.set_cons_zero, List.set_cons_succ]
    refine wpAnyS_pure (i := 1) (oi := { dst := some 34, op := .move (.tmp 1), type := _, pos := _, after := _, guard := none }) (v := .int .i64 (bit : Int)) rfl (by kernel_rfl) (by kernel_rfl) (by kernel_rfl) (by kernel_rfl) (fun _ _ _ h => h) (Or.inl ⟨by rfl, ?_⟩) hH (fun hH => ?_)
    · intro wS hSw
      go_simp
    simp only [Act.put, List.setIfInBounds_toArray, List.set_cons_zero, List.set_cons_succ]
    refine wpAnyS_pure (i := 2) (oi := { dst := some 35, op := .binOp .quo 3 (.tmp 34) (.const (.int .i64 8)) 3, type := _, pos := _, after := _, guard := none }) (v := .int .i64 (p : Int)) rfl (by kernel_rfl) (by kernel_rfl) (by kernel_rfl) (by kernel_rfl) (fun _ _ _ h => h) (Or.inl ⟨by rfl, ?_⟩) hH (fun hH => ?_)
    · intro wS hSw
      go_simp
    simp only [Act.put, List.setIfInBounds_toArray, List.set_cons_zero, List.set_cons_succ]
    refine wpAnyS_pure (i := 3) (oi := { dst := some 36, op := .move (.tmp 6), type := _, pos := _, after := _, guard := none }) (v := .slice (some ⟨g5, 0, none⟩) L c5) rfl (by kernel_rfl) (by kernel_rfl) (by kernel_rfl) (by kernel_rfl) (fun _ _ _ h => h) (Or.inl ⟨by rfl, ?_⟩) hH (fun hH => ?_)
    · intro wS hSw
      go_simp
    simp only [Act.put, List.setIfInBounds_toArray, List.set_cons_zero, List.set_cons_succ]
    refine wpAnyS_pure (i := 4) (oi := { dst := some 37, op := .move (.tmp 1), type := _, pos := _, after := _, guard := none }) (v := .int .i64 (bit : Int)) rfl (by kernel_rfl) (by kernel_rfl) (by kernel_rfl) (by kernel_rfl) (fun _ _ _ h => h) (Or.inl ⟨by rfl, ?_⟩) hH (fun hH => ?_)
    · intro wS hSw
      go_simp
    simp only [Act.put, List.setIfInBounds_toArray, List.set_cons_zero, List.set_cons_succ]
    refine wpAnyS_pure (i := 5) (oi := { dst := some 38, op := .binOp .quo 3 (.tmp 37) (.const (.int .i64 8)) 3, type := _, pos := _, after := _, guard := none }) (v := .int .i64 (p : Int)) rfl (by kernel_rfl) (by kernel_rfl) (by kernel_rfl) (by kernel_rfl) (fun _ _ _ h => h) (Or.inl ⟨by rfl, ?_⟩) hH (fun hH => ?_)
    · intro wS hSw
      go_simp
    simp only [Act.put, List.setIfInBounds_toArray, List.set_cons_zero, List.set_cons_succ]
    refine wpAnyS_pure (i := 6) (oi := { dst := some 39, op := .indexAddr 22 (.tmp 36) (.tmp 38), type := _, pos := _, after := _, guard := none }) (v := .pointer (some ⟨g5, p, none⟩)) rfl (by kernel_rfl) (by kernel_rfl) (by kernel_rfl) (by kernel_rfl) (fun _ _ _ h => h) (Or.inl ⟨by rfl, ?_⟩) hH (fun hH => ?_)
    · intro wS hSw
      go_simp
    simp only [Act.put, List.setIfInBounds_toArray, List.set_cons_zero, List.set_cons_succ]
    refine wpAnyS_take [11, 12, 13] (i := 7) (oi := { dst := some 40, op := .load 5 (.tmp 39), type := _, pos := _, after := _, guard := none }) (v := .int .u8 (xv : Int)) rfl (by kernel_rfl) (by kernel_rfl) (by kernel_rfl) (by kernel_rfl) (by kernel_rfl) (by kernel_rfl) (by kernel_rfl) (fun _ _ _ h => h) (Or.inl ⟨by rfl, ?_⟩) hH (fun hH => ?_)
    · intro wS hSw
      have z0 := (hSw.cell (lt_of_cell cl)).trans cl
      go_simp
    simp only [Act.put, List.setIfInBounds_toArray, List.set_cons_zero, List.set_cons_succ]
    refine wpAnyS_pure (i := 8) (oi := { dst := some 41, op := .move (.tmp 1), type := _, pos := _, after := _, guard := none }) (v := .int .i64 (bit : Int)) rfl (by kernel_rfl) (by kernel_rfl) (by kernel_rfl) (by kernel_rfl) (fun _ _ _ h => h) (Or.inl ⟨by rfl, ?_⟩) hH (fun hH => ?_)
    · intro wS hSw
      go_simp
    simp only [Act.put, List.setIfInBounds_toArray, List.set_cons_zero, List.set_cons_succ]
    refine wpAnyS_pure (i := 9) (oi := { dst := some 42, op := .binOp .rem 3 (.tmp 41) (.const (.int .i64 8)) 3, type := _, pos := _, after := _, guard := none }) (v := .int .i64 (j : Int)) rfl (by kernel_rfl) (by kernel_rfl) (by kernel_rfl) (by kernel_rfl) (fun _ _ _ h => h) (Or.inl ⟨by rfl, ?_⟩) hH (fun hH => ?_)
    · intro wS hSw
      go_simp
    simp only [Act.put, List.setIfInBounds_toArray, List.set_cons_zero, List.set_cons_succ]
    refine wpAnyS_pure (i := 10) (oi := { dst := some 43, op := .binOp .shl 5 (.const (.int .u8 1)) (.tmp 42) 3, type := _, pos := _, after := _, guard := none }) (v := .int .u8 (sv : Int)) rfl (by kernel_rfl) (by kernel_rfl) (by kernel_rfl) (by kernel_rfl) (fun _ _ _ h => h) (Or.inl ⟨by rfl, ?_⟩) hH (fun hH => ?_)
    · intro wS hSw
      go_simp
    simp only [Act.put, List.setIfInBounds_toArray, List.set_cons_zero, List.set_cons_succ]
    refine wpAnyS_pure (i := 11) (oi := { dst := some 44, op := .binOp .xor 5 (.tmp 40) (.tmp 43) 5, type := _, pos := _, after := _, guard := none }) (v := .int .u8 (yv : Int)) rfl (by kernel_rfl) (by kernel_rfl) (by kernel_rfl) (by kernel_rfl) (fun _ _ _ h => h) (Or.inl ⟨by rfl, ?_⟩) hH (fun hH => ?_)
    · intro wS hSw
      go_simp
    simp only [Act.put, List.setIfInBounds_toArray, List.set_cons_zero, List.set_cons_succ]
    refine wpAnyS_pure (i := 12) (oi := { dst := some 45, op := .indexAddr 22 (.tmp 33) (.tmp 35), type := _, pos := _, after := _, guard := none }) (v := .pointer (some ⟨g5, p, none⟩)) rfl (by kernel_rfl) (by kernel_rfl) (by kernel_rfl) (by kernel_rfl) (fun _ _ _ h => h) (Or.inl ⟨by rfl, ?_⟩) hH (fun hH => ?_)
    · intro wS hSw
      go_simp
    simp only [Act.put, List.setIfInBounds_toArray, List.set_cons_zero, List.set_cons_succ]
    refine wpAnyS_ready (rs := [13]) (by kernel_rfl) (by simp) ?_
    refine AllReadyS.cons (o := { dst := none, op := .store 5 (.tmp 45) (.tmp 44), type := _, pos := _, after := _, guard := none }) rfl (fun K hK => ?_) AllReadyS.nil
    rw [if_pos (by rfl)]
    refine wp_store_one 5 (.tmp 45) (.tmp 44) rfl g5 p (.int .u8 (yv : Int)) rfl rfl 5 cs (HAt.out.same (hS0a.block _ HAt.out.lt)) hcsl i5 rfl rfl ?_
    intro x1a hAt2 hBt2 hSz2
    have hS1a := trivial
    refine hK.out _ _ (Hold.over (s := 13) (by decide) (by rfl)) (fun hH => ?_)
    clear hK K
    refine wpAnyS_done (by kernel_rfl) ?_ _
    have HO5n : Hid (OwnX eB w1.heap.size x1a (.slice (some ⟨g5, 0, none⟩) L c5) ((flatF (bss xs)).set p y)) := HSet.out x1a y (by rw [show B8 y = .int .u8 (yv : Int) by rw [hyv.out]; rfl]; exact hAt2)
    have HCh : Hid (Chg (fun k => k = g5) w3 x1a) := (Chg.of_below hS0a).trans (Chg.of_but hBt2 rfl)
    have HBn : Hid (Below w.heap.size w x1a) := hBt2.below (HB2.out.trans (hS0a.mono HB2.out.size)) (Nat.le_trans HB15.out hg5) (Nat.le_trans HB2.out.size hS0a.size)
    have hn0 : 0 < n := by
      rcases Nat.eq_zero_or_pos n with h | h
      · have : bss xs = [] := List.length_eq_zero_iff.1 (by rw [HBl.out, h])
        rw [this] at hL
        have := hL.out
        simp [flatF] at this
        omega
      · exact h
    have HA0 := hidU (ats_at (bss xs) (n + 1) 0 (by omega))
    obtain ⟨g6, o6, rfl, _⟩ := row_int HR6.out HA0.out
    have HR6n : Hid (RowX eI x1a (some ⟨g6, o6, none⟩) (ats (bss xs) (n + 1))) := HR6.out.same fun ad ha => by
      cases ha
      obtain ⟨_, hlt, _⟩ := HO6.out.block g6 rfl
      exact HCh.out.block g6 hlt fun e => own_ne HO6.out HO5.out (show (3 : Nat) ≠ 5 by decide) g6 rfl (by rw [e]; rfl)
    clear hAt2 hBt2 hSz2 hH hS0a HSet HAt HCh HR6 HO6 HA0 HRow5 HB2 hcsl cl hq2 hshl hxor hwj
    go_wp2
    go_loopw [9] (fun kv wr => ∃ k : Nat, kv = .int .i64 (k : Int) ∧ k < n ∧ wr = x1a ∧ Hid ((flatF ((bss xs).take k)).length ≤ p)) (fun kv _ => n - (intOf kv).toNat)
    case atStart => exact ⟨0, rfl, hn0, rfl, by show _ ≤ _; simp [flatF]⟩
    case round =>
      obtain ⟨k, rfl, hkn, rfl, hsp⟩ := hrel
      obtain ⟨sk, hske⟩ : ∃ s, Hid (s = (flatF ((bss xs).take k)).length) := ⟨_, (rfl : (flatF ((bss xs).take k)).length = _)⟩
      have HAk : Hid ((ats (bss xs) (n + 1))[k]? = some (sk : Int)) := by show _ = _; rw [ats_at _ _ _ (by omega), hske.out]
      have hsk := hsp.out
      by_cases hk1 : k + 1 < n
      · obtain ⟨s1, hs1e⟩ : ∃ s, Hid (s = (flatF ((bss xs).take (k + 1))).length) := ⟨_, (rfl : (flatF ((bss xs).take (k + 1))).length = _)⟩
        have hc1 : wr.cell? ⟨g6, o6 + (k + 1), none⟩ = some (.int .i64 (s1 : Int)) := by
          obtain ⟨g', o', e, q⟩ := row_int HR6n.out (ats_at (bss xs) (n + 1) (k + 1) (by omega))
          cases e
          rw [hs1e.out]
          exact q
        by_cases hle : s1 ≤ p
        · have HN1 : Hid ((flatF ((bss xs).take (k + 1))).length ≤ p) := by show _ ≤ _; rw [← hs1e.out]; exact hle
          clear HAk hsk hsp hs1e
          go_wp2
          go_roundw
          · exact ⟨k + 1, by go_num, hk1, (by first | rfl | trivial), HN1⟩
          · simp [intOf]; omega
        · have HP3 : Hid (p < (flatF ((bss xs).take (k + 1))).length) := by show _ < _; rw [← hs1e.out]; omega
          have HSc : Hid (scanL ((flatF (bss xs)).set p y) = ((bss xs).take k, sk, 2)) := by
            show _ = _
            rw [scan_bit (bss xs) k p x y HX.out (by rw [HBl.out]; omega) hsk HP3.out HHX.out HY.out, ← hske.out]
          obtain ⟨a7, c7, e7, row7, hc7, hz7⟩ := HO5n.out.rowB
          have hl7 : ((flatF (bss xs)).set p y).length = L := by rw [List.length_set, ← hL.out]
          rw [hl7] at e7 hc7
          injection e7 with e71 e72 e73
          have H10 := hidU (Fa.scan (n := L) (c := c5) (e71 ▸ row7) hl7.symm (by omega) (fun q => by cases q) (by omega))
          rw [HSc.out] at H10
          clear row7 hc7 hz7 e71 e72 e73 hl7
          go_wp2_with (go_at_call 10; refine H10.out.mono ?_; rintro _ y1 ⟨a2, c2, ys, rfl, hly, hys, hyc, hby⟩; refine Hid.out ?_)
          refine hidU ?_
          have HBy := hidU (HBn.out.trans (hby.mono HBn.out.size))
          have htk : (xs.take k).length = k := by rw [List.length_take, ← HN.out]; omega
          have H11 := hidU (lists_any ys (xs.take k) a2 a c2 c y1 hly ((HL.out.below HBy.out).take k) hyc (by rw [htk]; omega) (by have := congrArg List.length hys; simp only [bss, List.length_map, List.length_take] at this; rw [this]; omega) (by rw [htk]; omega))
          rw [hys, show bss (xs.take k) = (bss xs).take k by simp [bss, List.map_take], show ((bss xs).take k == (bss xs).take k) = true from beq_self_eq_true _, htk] at H11
          have HR6y := hidU (HR6n.out.below hby)
          have hs27 := fun w => run_slice27 w a n c k (k : Int) rfl (by omega)
          clear hly hys hby H10 htk
          go_wp2_with (go_at_call 21; refine H11.out.mono ?_; rintro _ y2 ⟨rfl, hbz⟩; refine Hid.out ?_)
          refine hidU ?_
          have HBz := hidU (HBy.out.trans (hbz.mono HBy.out.size))
          have hcell : y2.cell? ⟨g6, o6 + k, none⟩ = some (.int .i64 (sk : Int)) := by
            obtain ⟨g', o', e, q⟩ := row_int (HR6y.out.below hbz) HAk.out
            cases e
            exact q
          clear hbz H11 hs27
          go_wp2
          go_ret
          exact ⟨rfl, HBz.out⟩
      · have HP3 : Hid (p < (flatF ((bss xs).take (k + 1))).length) := by
          show _ < _
          rw [List.take_of_length_le (by rw [HBl.out]; omega), ← hL.out]
          exact hpL
        have HSc : Hid (scanL ((flatF (bss xs)).set p y) = ((bss xs).take k, sk, 2)) := by
          show _ = _
          rw [scan_bit (bss xs) k p x y HX.out (by rw [HBl.out]; omega) hsk HP3.out HHX.out HY.out, ← hske.out]
        obtain ⟨a7, c7, e7, row7, hc7, hz7⟩ := HO5n.out.rowB
        have hl7 : ((flatF (bss xs)).set p y).length = L := by rw [List.length_set, ← hL.out]
        rw [hl7] at e7 hc7
        injection e7 with e71 e72 e73
        have H10 := hidU (Fa.scan (n := L) (c := c5) (e71 ▸ row7) hl7.symm (by omega) (fun q => by cases q) (by omega))
        rw [HSc.out] at H10
        clear row7 hc7 hz7 e71 e72 e73 hl7
        go_wp2_with (go_at_call 10; refine H10.out.mono ?_; rintro _ y1 ⟨a2, c2, ys, rfl, hly, hys, hyc, hby⟩; refine Hid.out ?_)
        refine hidU ?_
        have HBy := hidU (HBn.out.trans (hby.mono HBn.out.size))
        have htk : (xs.take k).length = k := by rw [List.length_take, ← HN.out]; omega
        have H11 := hidU (lists_any ys (xs.take k) a2 a c2 c y1 hly ((HL.out.below HBy.out).take k) hyc (by rw [htk]; omega) (by have := congrArg List.length hys; simp only [bss, List.length_map, List.length_take] at this; rw [this]; omega) (by rw [htk]; omega))
        rw [hys, show bss (xs.take k) = (bss xs).take k by simp [bss, List.map_take], show ((bss xs).take k == (bss xs).take k) = true from beq_self_eq_true _, htk] at H11
        have HR6y := hidU (HR6n.out.below hby)
        have hs27 := fun w => run_slice27 w a n c k (k : Int) rfl (by omega)
        clear hly hys hby H10 htk
        go_wp2_with (go_at_call 21; refine H11.out.mono ?_; rintro _ y2 ⟨rfl, hbz⟩; refine Hid.out ?_)
        refine hidU ?_
        have HBz := hidU (HBy.out.trans (hbz.mono HBy.out.size))
        have hcell : y2.cell? ⟨g6, o6 + k, none⟩ = some (.int .i64 (sk : Int)) := by
          obtain ⟨g', o', e, q⟩ := row_int (HR6y.out.below hbz) HAk.out
          cases e
          exact q
        clear hbz H11 hs27
        go_wp2
        go_ret
        exact ⟨rfl, HBz.out⟩
end Go.Proofs.Ytbehmclligkbhaa
