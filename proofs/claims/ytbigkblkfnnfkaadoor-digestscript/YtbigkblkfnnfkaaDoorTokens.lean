/- digest.Same and Token. -/
import Derived.Test.YtbigkblkfnnfkaaDoorSumsWalk
namespace Go.Proofs.YtbigkblkfnnfkaaDoor
open Go.RowKit
set_option linter.unusedVariables false
attribute [local go_sem ↓] Go.wp_at_zero Go.wp_at_succ

/-- Whether the first k bytes are the same. -/
def sameTo (l m : List UInt8) : Nat → Bool
  | 0 => true
  | k + 1 => sameTo l m k && eqAt l m k
theorem sameTo_all (l m : List UInt8) (k : Nat) : sameTo l m k = (List.range k).all (eqAt l m) := by
  induction k with
  | zero => rfl
  | succ k ih => rw [sameTo, ih, List.range_succ, List.all_append]; simp

theorem or8_eq (u v : Nat) (hu : u < 256) (hv : v < 256) : bits .or .u8 (u : Int) (v : Int) = ((u ||| v : Nat) : Int) := u8_or_nat u v hu hv
theorem xor8_lt (x y : UInt8) : x.toNat ^^^ y.toNat < 256 := by
  have h1 := UInt8.toNat_lt x
  have h2 := UInt8.toNat_lt y
  exact Nat.xor_lt_two_pow (n := 8) h1 h2
theorem same_step (u : Nat) (x y : UInt8) (hu : u < 256) (q : Bool) (hq : (u = 0) = (q = true)) :
    (u ||| (x.toNat ^^^ y.toNat) < 256) ∧ ((u ||| (x.toNat ^^^ y.toNat) = 0) = ((q && (x == y)) = true)) := by
  refine ⟨Nat.or_lt_two_pow (n := 8) hu (xor8_lt x y), ?_⟩
  have h1 : (u ||| (x.toNat ^^^ y.toNat) = 0) ↔ (u = 0 ∧ x = y) := by
    rw [Nat.or_eq_zero_iff]
    constructor
    · rintro ⟨h, h2⟩
      have e : x.toNat ^^^ y.toNat ^^^ y.toNat = x.toNat := by rw [Nat.xor_assoc, Nat.xor_self, Nat.xor_zero]
      rw [h2, Nat.zero_xor] at e
      exact ⟨h, UInt8.toNat_inj.1 e.symm⟩
    · rintro ⟨h, rfl⟩
      exact ⟨h, Nat.xor_self _⟩
  rw [propext h1, hq]
  simp

set_option maxRecDepth 100000 in
set_option maxHeartbeats 800000 in
theorem same2_any (l m : List UInt8) (hl : l.length = 32) (hm : m.length = 32) (w : World) :
    Calls Tryd.prog 21 #[.agg (l.map B8).toArray, .agg (m.map B8).toArray] w fun e w' => e = .returned (.bool (l == m)) ∧ Below w.heap.size w w' := by
  go_enter Tryd.func21, Tryd.ntmps21
  go_wp2_with (first | ((with_reducible show wpList _ _ _ _ _ _); refine wpList_box_at rfl 25 (.tmp 0) rfl (l.map B8) rfl ?_; intro w1 hA1 hb1 hs1) | ((with_reducible show wpList _ _ _ _ _ _); refine wpList_box_at rfl 25 (.tmp 1) rfl (m.map B8) rfl ?_; intro w2 hA2 hb2 hs2))
  have hB1 := hA1.below hb2
  have hB2 : At 25 w2 (w.heap.size + 1) (m.map B8) := by rw [← hs1]; exact hA2
  have hbel : Below w.heap.size w w2 := hb1.trans (hb2.mono (by omega))
  clear hA1 hA2 hb1 hb2 hs1 hs2
  go_loopw [5, 7] (fun v t wr => ∃ (k u n : Nat), k ≤ 32 ∧ t = .int .i64 k ∧ v = .int .u8 (u : Int) ∧ Hid (u < 256 ∧ (u = 0) = (sameTo l m k = true)) ∧ wr = w2.drewN n) (fun _ t _ => 32 - (intOf t).toNat)
  case atStart => exact ⟨0, 0, 0, by omega, rfl, rfl, ⟨by decide, by simp [sameTo]⟩, rfl⟩
  case round =>
    obtain ⟨k, u, n, hk, rfl, rfl, hu, rfl⟩ := hrel
    by_cases hlt : k < 32
    · obtain ⟨x, hx⟩ : ∃ x, Hid (x = l.getD k 0) := ⟨_, rfl⟩
      obtain ⟨y, hy⟩ : ∃ y, Hid (y = m.getD k 0) := ⟨_, rfl⟩
      have c1 : w2.cell? ⟨w.heap.size, k, none⟩ = some (.int .u8 ((x.toNat : Nat) : Int)) := by
        rw [hB1.cell, hx.out]; simp [B8, List.getD, List.getElem?_eq_getElem (show k < l.length by omega)]
      have c2 : w2.cell? ⟨w.heap.size + 1, k, none⟩ = some (.int .u8 ((y.toNat : Nat) : Int)) := by
        rw [hB2.cell, hy.out]; simp [B8, List.getD, List.getElem?_eq_getElem (show k < m.length by omega)]
      have b1 := u8_xor_nat x.toNat y.toNat (UInt8.toNat_lt x) (UInt8.toNat_lt y)
      have b2 := or8_eq u (x.toNat ^^^ y.toNat) hu.out.1 (xor8_lt x y)
      have HS : Hid (_ ∧ _) := same_step u x y hu.out.1 _ hu.out.2
      clear hB1 hB2 hbel
      go_wp2_with fail
      go_quiet (fail)
      go_wp2
      go_roundw
      case rel => exact ⟨k + 1, u ||| (x.toNat ^^^ y.toNat), _, by omega, by go_num, rfl, ⟨HS.out.1, by rw [HS.out.2, sameTo, hx.out, hy.out]; rfl⟩, rfl⟩
      case measure => simp [intOf]; omega
    · have hk32 : Hid (k = 32) := by show _ = _; omega
      have HE : ((u : Int) == 0) = (l == m) := by
        have h := hu.out.2
        rw [hk32.out, sameTo_all, all_eqAt l m hl hm] at h
        cases hq : (l == m)
        · rw [hq] at h
          have : u ≠ 0 := by intro h0; rw [h0] at h; simp at h
          simp; omega
        · rw [hq] at h
          have : u = 0 := by rw [h]
          simp [this]
      go_wp2
      go_ret
      exact ⟨by rw [← HE]; rfl, ⟨hbel.os, hbel.tape, hbel.output, hbel.size, hbel.block⟩⟩
theorem At.range {t : TypeId} {w : World} {g : Nat} {cs : List Value} (h : At t w g cs) : w.rangeAt g 0 cs := fun j v hv => by
  rw [Nat.zero_add, h.cell]; exact hv

theorem sum_hid (a : Option Addr) (cap : Nat) (m ds : List UInt8) (hds : Hid (ds = sha m)) (w : World) (hrow : Row w a m) (hcap : m.length ≤ cap) (hmax : m.length ≤ 1099511627) (hR : Roots w) :
    Calls Tryd.prog 10 #[.slice a m.length cap] w fun e w' => e = .returned (.agg (ds.map B8).toArray) ∧ Below w.heap.size w w' := by
  rw [hds.out]
  exact sum_any a cap m w hrow hcap hmax hR

set_option maxRecDepth 100000 in
set_option maxHeartbeats 800000 in
theorem token_any (a : Option Addr) (cap : Nat) (m d : List UInt8) (w : World) (hrow : Row w a m) (hcap : m.length ≤ cap) (hmax : m.length ≤ 1099511627) (hR : Roots w) (hd : d.length = 32) :
    Calls Tryd.prog 22 #[.slice a m.length cap, .agg (d.map B8).toArray] w fun e w' => e = .returned (.bool (sha m == d)) ∧ Below w.heap.size w w' := by
  have hu25 := Tryd.underlying25
  have hid := i25' d hd
  obtain ⟨ds, hds⟩ : ∃ ds, Hid (ds = sha m) := ⟨_, rfl⟩
  have hdl : Hid (ds.length = 32) := by rw [hds.out]; exact sha_length m
  rw [← hds.out]
  go_enter Tryd.func22, Tryd.ntmps22
  go_wp2_with ((with_reducible show wpList _ _ _ _ _ _); refine wpList_box_at rfl 25 (.tmp 1) rfl (d.map B8) rfl ?_; intro w1 hA1 hb1 hs1)
  have hr1 : w1.drew.rangeAt w.heap.size 0 (d.map B8) := (show At 25 w1.drew _ _ from hA1).range
  go_region_held3 (fun w' => w'.rangeAt w.heap.size 0 (d.map B8)) (first | exact hr3 | exact hr2 | exact hr1) (first | (go_at_call 10; refine (sum_hid a cap m ds hds _ (hrow.below hb1.drew) hcap hmax (hR.below hb1.drew)).mono ?_; rintro e w2 ⟨rfl, hb2⟩; have hA2 := (show At 25 w1.drew _ _ from hA1).below hb2; have hr2 := hA2.range) | (go_at_call 21; refine (same2_any ds d hdl.out hd _).mono ?_; rintro e w3 ⟨rfl, hb3⟩; have hr3 := (hA2.below hb3).range))
  go_wp2
  go_ret
  exact ⟨rfl, hb1.drew.trans ((hb2.mono hb1.drew.size).trans (hb3.mono (Nat.le_trans hb1.drew.size hb2.size)))⟩

theorem refSum_hid (a : Option Addr) (cap : Nat) (m ds : List UInt8) (hds : Hid (ds = sha m)) (w : World) (hrow : Row w a m) (hnil : a = none → cap = 0) (hmax : m.length ≤ 1099511627) :
    Calls Tryd.prog 11 #[.slice a m.length cap] w fun e w' => e = .returned (.agg (ds.map B8).toArray) ∧ Below w.heap.size w w' := by
  rw [hds.out]
  exact refSum_any a cap m w hrow hnil hmax

theorem token_hid (a : Option Addr) (cap : Nat) (m d ds : List UInt8) (hds : Hid (ds = sha m)) (w : World) (hrow : Row w a m) (hcap : m.length ≤ cap) (hmax : m.length ≤ 1099511627) (hR : Roots w) (hd : d.length = 32) :
    Calls Tryd.prog 22 #[.slice a m.length cap, .agg (d.map B8).toArray] w fun e w' => e = .returned (.bool (d == ds)) ∧ Below w.heap.size w w' := by
  rw [hds.out, show (d == sha m) = (sha m == d) from Bool.beq_comm]
  exact token_any a cap m d w hrow hcap hmax hR hd

theorem range_below {u u' : World} {g : Nat} {cs : List Value} (h : u.rangeAt g 0 cs) (hb : Below u.heap.size u u') : u'.rangeAt g 0 cs := fun j v hv => by
  have := h j v hv
  rw [hb.cell (lt_of_cell this)]
  exact this

/-- What holds through the law's two great statements. -/
theorem keepS {u u' w6 : World} {g1 g2 g3 : Nat} {c1 c2 c3 : List Value} (hb : Below u.heap.size u u') (h : u.rangeAt g1 0 c1 ∧ u.rangeAt g2 0 c2 ∧ u.rangeAt g3 0 c3 ∧ Below w6.heap.size w6 u) :
    u'.rangeAt g1 0 c1 ∧ u'.rangeAt g2 0 c2 ∧ u'.rangeAt g3 0 c3 ∧ Below w6.heap.size w6 u' :=
  ⟨range_below h.1 hb, range_below h.2.1 hb, range_below h.2.2.1 hb, h.2.2.2.trans (hb.mono h.2.2.2.size)⟩
theorem drewS {u w6 : World} {g1 g2 g3 : Nat} {c1 c2 c3 : List Value} (h : u.rangeAt g1 0 c1 ∧ u.rangeAt g2 0 c2 ∧ u.rangeAt g3 0 c3 ∧ Below w6.heap.size w6 u) :
    u.drew.rangeAt g1 0 c1 ∧ u.drew.rangeAt g2 0 c2 ∧ u.drew.rangeAt g3 0 c3 ∧ Below w6.heap.size w6 u.drew :=
  ⟨h.1, h.2.1, h.2.2.1, h.2.2.2.drew⟩

theorem token_S (u w6 : World) {g1 g2 g3 : Nat} {c1 c2 c3 : List Value} (a : Option Addr) (cap : Nat) (m d ds : List UInt8) (hds : Hid (ds = sha m)) (hrow : Row w6 a m) (hcap : m.length ≤ cap) (hmax : m.length ≤ 1099511627) (hR : Roots w6) (hd : d.length = 32)
    (h : u.rangeAt g1 0 c1 ∧ u.rangeAt g2 0 c2 ∧ u.rangeAt g3 0 c3 ∧ Below w6.heap.size w6 u) :
    Calls Tryd.prog 22 #[.slice a m.length cap, .agg (d.map B8).toArray] u fun e w' => e = .returned (.bool (d == ds)) ∧ Below u.heap.size u w' :=
  token_hid a cap m d ds hds u (hrow.below h.2.2.2) hcap hmax (hR.below h.2.2.2) hd

theorem kept_S (u w6 : World) {g1 g2 g3 : Nat} {c1 c2 c3 : List Value} (a : Option Addr) (cap g : Nat) (m : List UInt8) (hrow : Row w6 a m) (hblk : Blk w6 g ((lent m).map B8)) (hmax : m.length ≤ 1099511627776)
    (h : u.rangeAt g1 0 c1 ∧ u.rangeAt g2 0 c2 ∧ u.rangeAt g3 0 c3 ∧ Below w6.heap.size w6 u) :
    Calls Tryd.prog 12 #[.slice (some ⟨g, 0, none⟩) m.length (m.length + 3), .slice a m.length cap] u fun e w' => e = .returned (.bool true) ∧ Below u.heap.size u w' :=
  kept_any a cap g m u (hrow.below h.2.2.2) (hblk.below h.2.2.2) hmax

set_option maxRecDepth 100000 in
set_option maxHeartbeats 1600000 in
theorem tokens_walk (l k : List UInt8) (hl : l.length = 32) (hk : k.length = 32) (a : Option Addr) (cap : Nat) (m : List UInt8) (w : World) (hrow : Row w a m) (hnil : a = none → cap = 0) (hcap : m.length ≤ cap) (hmax : m.length ≤ 20000) (hR : Roots w) :
    Calls Tryd.prog 5 #[.agg (l.map B8).toArray, .agg (k.map B8).toArray, .slice a m.length cap] w fun e w' => e = .returned (.bool true) ∧ Below w.heap.size w w' := by
  have d1 : decide (20000 < (m.length : Int)) = false := by simp; omega
  have hu25 := Tryd.underlying25
  have hil := i25' l hl
  have hik := i25' k hk
  obtain ⟨ds, hds⟩ : ∃ ds, Hid (ds = sha m) := ⟨_, rfl⟩
  have hdl : Hid (ds.length = 32) := by rw [hds.out]; exact sha_length m
  have hids := i25' ds hdl.out
  have hod : (List.replicate 32 (Value.int .u8 0)).length = (ds.map B8).length := by rw [List.length_map, hdl.out]; simp
  have q1 := fun u => run_same l k hl hk u
  have q2 := fun u => run_same l ds hl hdl.out u
  have ell : (l == l) = true := by simp
  have ekk : (k == k) = true := by simp
  have edd : (ds == ds) = true := by simp
  go_enter Tryd.func5, Tryd.ntmps5
  go_wp2_with (first | ((with_reducible show wpList _ _ _ _ _ _); refine wpList_box_at rfl 25 (.tmp 0) rfl (l.map B8) rfl ?_; intro w1 hA1 hb1 hs1) | ((with_reducible show wpList _ _ _ _ _ _); refine wpList_box_at rfl 25 (.tmp 1) rfl (k.map B8) rfl ?_; intro w2 hA2 hb2 hs2) | (go_at_call 9; refine (lent_any a cap m _ ((hrow.below hb1).below hb2) (by omega)).mono ?_; rintro e w3 ⟨rfl, hblk3, hb3⟩) | (go_at_call 11; refine (refSum_hid a cap m ds hds _ (((hrow.below hb1).below hb2).below hb3) hnil (by omega)).mono ?_; rintro e w4 ⟨rfl, hb4⟩) | ((with_reducible show wpList _ _ _ _ _ _); refine wpList_alloc_at rfl 25 rfl _ 32 z25 ?_; intro w5 hA5 hb5 hs5) | ((with_reducible show wpList _ _ _ _ _ _); refine wpList_store_at (P := Tryd.prog) rfl 25 (.tmp 8) (.tmp 16) rfl w4.heap.size (ds.map B8) rfl rfl 25 _ hA5 hids hod (b8_one _) ?_; intro w6 hA6 hb6 hs6))
  simp only [Act.put, List.setIfInBounds_toArray, List.set_cons_zero, List.set_cons_succ]
  have e3 := hb3.size
  have e4 := hb4.size
  have e3' : w2.heap.size < w3.heap.size := (Array.getElem?_eq_some_iff.1 hblk3).1
  have hbel5 : Below w.heap.size w w5 := hb1.trans ((hb2.mono (by omega)).trans ((hb3.mono (by omega)).trans ((hb4.mono (by omega)).trans (hb5.mono (by omega)))))
  have hbel6 : Below w.heap.size w w6 := hb6.below hbel5 (by omega) (by omega)
  have hS6 : w6.rangeAt w.heap.size 0 (l.map B8) ∧ w6.rangeAt (w.heap.size + 1) 0 (k.map B8) ∧ w6.rangeAt w4.heap.size 0 (ds.map B8) ∧ Below w6.heap.size w6 w6 :=
    ⟨(hb6.at ((((hA1.below hb2).below hb3).below hb4).below hb5) (by omega)).range, (hb6.at (by rw [← hs1]; exact ((hA2.below hb3).below hb4).below hb5) (by omega)).range, hA6.range, Below.refl _ _⟩
  have hblk6 : Blk w6 (w.heap.size + 1 + 1) ((lent m).map B8) := by
    have hq : w2.heap.size = w.heap.size + 1 + 1 := by omega
    rw [← hq]
    have h5 := (hblk3.below hb4).below hb5
    unfold Blk at h5 ⊢
    rw [hb6.block _ (by omega) (by omega)]
    exact h5
  have hrow6 : Row w6 a m := hrow.below hbel6
  have hR6 : Roots w6 := hR.below hbel6
  have hrowL : Row w6 (some ⟨w.heap.size + 1 + 1, 0, none⟩) m := by have := hblk6.row m.length (by rw [lent_length]; omega); simpa [lent] using this
  obtain ⟨g8, hg8⟩ : ∃ g8, g8 = w4.heap.size := ⟨_, rfl⟩
  rw [← hg8] at hS6 ⊢
  clear hA1 hA2 hA5 hA6 hb1 hb2 hb3 hb4 hb5 hb6 hs1 hs2 hs5 hs6 hblk3 hbel5 e3 e4 e3' hg8 hod
  have hS6d := drewS hS6
  have hqq : ((l == k) == (l == k)) = true := by simp
  refine wp_region_held_drew (S := fun w' => w'.rangeAt w.heap.size 0 (l.map B8) ∧ w'.rangeAt (w.heap.size + 1) 0 (k.map B8) ∧ w'.rangeAt g8 0 (ds.map B8) ∧ Below w6.heap.size w6 w') (by kernel_rfl) hS6d (fun _ => ?_)
  refine wpAnyH_take (i := 0) (oi := { dst := some 17, op := .load 25 (.tmp 3), type := _, pos := _, after := _, guard := none }) rfl (by kernel_rfl) (by kernel_rfl) (by kernel_rfl) (fun _ _ _ h => h) (yieldsIf_load_mid (by rfl) 25 (.tmp 3) rfl w.heap.size 0 rfl (l.map B8) _ (fun w hSw => hSw.1) Tryd.underlying25 rfl hil) hS6d ?_
  simp only [Act.put, List.setIfInBounds_toArray, List.set_cons_zero, List.set_cons_succ]
  refine wpAnyH_take (i := 1) (oi := { dst := some 18, op := .load 25 (.tmp 4), type := _, pos := _, after := _, guard := none }) rfl (by kernel_rfl) (by kernel_rfl) (by kernel_rfl) (fun _ _ _ h => h) (yieldsIf_load_mid (by rfl) 25 (.tmp 4) rfl (w.heap.size + 1) 0 rfl (k.map B8) _ (fun w hSw => hSw.2.1) Tryd.underlying25 rfl hik) hS6d ?_
  simp only [Act.put, List.setIfInBounds_toArray, List.set_cons_zero, List.set_cons_succ]
  refine wpAnyH_take (i := 3) (oi := { dst := some 20, op := .load 25 (.tmp 3), type := _, pos := _, after := _, guard := none }) rfl (by kernel_rfl) (by kernel_rfl) (by kernel_rfl) (fun _ _ _ h => h) (yieldsIf_load_mid (by rfl) 25 (.tmp 3) rfl w.heap.size 0 rfl (l.map B8) _ (fun w hSw => hSw.1) Tryd.underlying25 rfl hil) hS6d ?_
  simp only [Act.put, List.setIfInBounds_toArray, List.set_cons_zero, List.set_cons_succ]
  refine wpAnyH_take (i := 4) (oi := { dst := some 21, op := .load 25 (.tmp 4), type := _, pos := _, after := _, guard := none }) rfl (by kernel_rfl) (by kernel_rfl) (by kernel_rfl) (fun _ _ _ h => h) (yieldsIf_load_mid (by rfl) 25 (.tmp 4) rfl (w.heap.size + 1) 0 rfl (k.map B8) _ (fun w hSw => hSw.2.1) Tryd.underlying25 rfl hik) hS6d ?_
  simp only [Act.put, List.setIfInBounds_toArray, List.set_cons_zero, List.set_cons_succ]
  refine wpAnyH_take (i := 5) (oi := { dst := some 22, op := .binOp .eql 25 (.tmp 20) (.tmp 21) 25, type := _, pos := _, after := _, guard := none }) (v := .bool (l == k)) rfl (by kernel_rfl) (by kernel_rfl) (by kernel_rfl) (fun _ _ _ h => h) (Or.inl ⟨by rfl, ?_⟩) hS6d ?_
  · intro w hSw
    go_simp
  simp only [Act.put, List.setIfInBounds_toArray, List.set_cons_zero, List.set_cons_succ]
  refine wpAnyH_ready (rs := [2]) (by kernel_rfl) (by simp) ?_
  refine AllReadyH.cons (o := { dst := some 19, op := .call { callee := .value (.func 21), args := #[.tmp 17, .tmp 18], argTypes := #[25, 25] }, type := _, pos := _, after := _, guard := none }) rfl (fun K hK => ?_) AllReadyH.nil
  rw [if_pos (by rfl)]
  go_wp2_with (go_at_call 21; refine (same2_any l k hl hk _).mono ?_; rintro e w7 ⟨rfl, hb7⟩)
  have hS7 := keepS hb7 hS6d
  refine hK.out _ _ hS7 (fun _ => ?_)
  refine wpAnyH_take (i := 6) (oi := { dst := some 23, op := .binOp .eql 4 (.tmp 19) (.tmp 22) 4, type := _, pos := _, after := _, guard := none }) (v := .bool true) rfl (by kernel_rfl) (by kernel_rfl) (by kernel_rfl) (fun _ _ _ h => h) (Or.inl ⟨by rfl, ?_⟩) hS7 ?_
  · intro w hSw
    go_simp
  simp only [Act.put, List.setIfInBounds_toArray, List.set_cons_zero, List.set_cons_succ]
  refine wpAnyH_take (i := 7) (oi := { dst := some 24, op := .move (.tmp 23), type := _, pos := _, after := _, guard := none }) (v := .bool true) rfl (by kernel_rfl) (by kernel_rfl) (by kernel_rfl) (fun _ _ _ h => h) (Or.inl ⟨by rfl, ?_⟩) hS7 ?_
  · intro w hSw
    go_simp
  simp only [Act.put, List.setIfInBounds_toArray, List.set_cons_zero, List.set_cons_succ]
  refine wpAnyH_take (i := 8) (oi := { dst := some 25, op := .load 25 (.tmp 3), type := _, pos := _, after := _, guard := some (7, true) }) rfl (by kernel_rfl) (by kernel_rfl) (by kernel_rfl) (fun _ _ _ h => h) (yieldsIf_load_mid (by rfl) 25 (.tmp 3) rfl w.heap.size 0 rfl (l.map B8) _ (fun w hSw => hSw.1) Tryd.underlying25 rfl hil) hS7 ?_
  simp only [Act.put, List.setIfInBounds_toArray, List.set_cons_zero, List.set_cons_succ]
  refine wpAnyH_take (i := 9) (oi := { dst := some 26, op := .load 25 (.tmp 3), type := _, pos := _, after := _, guard := some (7, true) }) rfl (by kernel_rfl) (by kernel_rfl) (by kernel_rfl) (fun _ _ _ h => h) (yieldsIf_load_mid (by rfl) 25 (.tmp 3) rfl w.heap.size 0 rfl (l.map B8) _ (fun w hSw => hSw.1) Tryd.underlying25 rfl hil) hS7 ?_
  simp only [Act.put, List.setIfInBounds_toArray, List.set_cons_zero, List.set_cons_succ]
  refine wpAnyH_ready (rs := [10]) (by kernel_rfl) (by simp) ?_
  refine AllReadyH.cons (o := { dst := some 27, op := .call { callee := .value (.func 21), args := #[.tmp 25, .tmp 26], argTypes := #[25, 25] }, type := _, pos := _, after := _, guard := some (7, true) }) rfl (fun K hK => ?_) AllReadyH.nil
  rw [if_pos (by rfl)]
  go_wp2_with (go_at_call 21; refine (same2_any l l hl hl _).mono ?_; rintro e w8 ⟨rfl, hb8⟩)
  have hS8 := keepS hb8 hS7
  refine hK.out _ _ hS8 (fun _ => ?_)
  refine wpAnyH_take (i := 11) (oi := { dst := some 28, op := .pick (.tmp 24) (.tmp 27) (.const (.bool false)), type := _, pos := _, after := _, guard := none }) (v := .bool true) rfl (by kernel_rfl) (by kernel_rfl) (by kernel_rfl) (fun _ _ _ h => h) (Or.inl ⟨by rfl, ?_⟩) hS8 ?_
  · intro w hSw
    go_simp
  simp only [Act.put, List.setIfInBounds_toArray, List.set_cons_zero, List.set_cons_succ]
  refine wpAnyH_take (i := 12) (oi := { dst := some 29, op := .move (.tmp 28), type := _, pos := _, after := _, guard := none }) (v := .bool true) rfl (by kernel_rfl) (by kernel_rfl) (by kernel_rfl) (fun _ _ _ h => h) (Or.inl ⟨by rfl, ?_⟩) hS8 ?_
  · intro w hSw
    go_simp
  simp only [Act.put, List.setIfInBounds_toArray, List.set_cons_zero, List.set_cons_succ]
  refine wpAnyH_take (i := 13) (oi := { dst := some 30, op := .load 25 (.tmp 4), type := _, pos := _, after := _, guard := some (12, true) }) rfl (by kernel_rfl) (by kernel_rfl) (by kernel_rfl) (fun _ _ _ h => h) (yieldsIf_load_mid (by rfl) 25 (.tmp 4) rfl (w.heap.size + 1) 0 rfl (k.map B8) _ (fun w hSw => hSw.2.1) Tryd.underlying25 rfl hik) hS8 ?_
  simp only [Act.put, List.setIfInBounds_toArray, List.set_cons_zero, List.set_cons_succ]
  refine wpAnyH_take (i := 14) (oi := { dst := some 31, op := .load 25 (.tmp 4), type := _, pos := _, after := _, guard := some (12, true) }) rfl (by kernel_rfl) (by kernel_rfl) (by kernel_rfl) (fun _ _ _ h => h) (yieldsIf_load_mid (by rfl) 25 (.tmp 4) rfl (w.heap.size + 1) 0 rfl (k.map B8) _ (fun w hSw => hSw.2.1) Tryd.underlying25 rfl hik) hS8 ?_
  simp only [Act.put, List.setIfInBounds_toArray, List.set_cons_zero, List.set_cons_succ]
  refine wpAnyH_ready (rs := [15]) (by kernel_rfl) (by simp) ?_
  refine AllReadyH.cons (o := { dst := some 32, op := .call { callee := .value (.func 21), args := #[.tmp 30, .tmp 31], argTypes := #[25, 25] }, type := _, pos := _, after := _, guard := some (12, true) }) rfl (fun K hK => ?_) AllReadyH.nil
  rw [if_pos (by rfl)]
  go_wp2_with (go_at_call 21; refine (same2_any k k hk hk _).mono ?_; rintro e w9 ⟨rfl, hb9⟩)
  have hS9 := keepS hb9 hS8
  refine hK.out _ _ hS9 (fun _ => ?_)
  refine wpAnyH_take (i := 16) (oi := { dst := some 33, op := .pick (.tmp 29) (.tmp 32) (.const (.bool false)), type := _, pos := _, after := _, guard := none }) (v := .bool true) rfl (by kernel_rfl) (by kernel_rfl) (by kernel_rfl) (fun _ _ _ h => h) (Or.inl ⟨by rfl, ?_⟩) hS9 ?_
  · intro w hSw
    go_simp
  simp only [Act.put, List.setIfInBounds_toArray, List.set_cons_zero, List.set_cons_succ]
  refine wpAnyH_take (i := 17) (oi := { dst := some 9, op := .assign (.tmp 33), type := _, pos := _, after := _, guard := none }) (v := .bool true) rfl (by kernel_rfl) (by kernel_rfl) (by kernel_rfl) (fun _ _ _ h => h) (Or.inl ⟨by rfl, ?_⟩) hS9 ?_
  · intro w hSw
    go_simp
  simp only [Act.put, List.setIfInBounds_toArray, List.set_cons_zero, List.set_cons_succ]
  refine wpAnyH_done (by kernel_rfl) ?_ _
  clear hS7 hS8 hb7 hb8 hb9 hS6 hS6d
  have hqd : ((l == ds) == (l == ds)) = true := by simp
  have hS9d := drewS hS9
  go_wp2_with fail
  refine wp_region_held_drew (S := fun w' => w'.rangeAt w.heap.size 0 (l.map B8) ∧ w'.rangeAt (w.heap.size + 1) 0 (k.map B8) ∧ w'.rangeAt g8 0 (ds.map B8) ∧ Below w6.heap.size w6 w') (by kernel_rfl) hS9d (fun _ => ?_)
  refine wpAnyH_take (i := 0) (oi := { dst := some 34, op := .move (.tmp 9), type := _, pos := _, after := _, guard := none }) (v := .bool true) rfl (by kernel_rfl) (by kernel_rfl) (by kernel_rfl) (fun _ _ _ h => h) (Or.inl ⟨by rfl, ?_⟩) hS9d ?_
  · intro w hSw
    go_simp
  simp only [Act.put, List.setIfInBounds_toArray, List.set_cons_zero, List.set_cons_succ]
  refine wpAnyH_take (i := 1) (oi := { dst := some 35, op := .move (.tmp 34), type := _, pos := _, after := _, guard := none }) (v := .bool true) rfl (by kernel_rfl) (by kernel_rfl) (by kernel_rfl) (fun _ _ _ h => h) (Or.inl ⟨by rfl, ?_⟩) hS9d ?_
  · intro w hSw
    go_simp
  simp only [Act.put, List.setIfInBounds_toArray, List.set_cons_zero, List.set_cons_succ]
  refine wpAnyH_take (i := 2) (oi := { dst := some 36, op := .move (.tmp 7), type := _, pos := _, after := _, guard := some (1, true) }) (v := .slice (some ⟨w.heap.size + 1 + 1, 0, none⟩) m.length (m.length + 3)) rfl (by kernel_rfl) (by kernel_rfl) (by kernel_rfl) (fun _ _ _ h => h) (Or.inl ⟨by rfl, ?_⟩) hS9d ?_
  · intro w hSw
    go_simp
  simp only [Act.put, List.setIfInBounds_toArray, List.set_cons_zero, List.set_cons_succ]
  refine wpAnyH_take (i := 3) (oi := { dst := some 37, op := .load 25 (.tmp 3), type := _, pos := _, after := _, guard := some (1, true) }) rfl (by kernel_rfl) (by kernel_rfl) (by kernel_rfl) (fun _ _ _ h => h) (yieldsIf_load_mid (by rfl) 25 (.tmp 3) rfl w.heap.size 0 rfl (l.map B8) _ (fun w hSw => hSw.1) Tryd.underlying25 rfl hil) hS9d ?_
  simp only [Act.put, List.setIfInBounds_toArray, List.set_cons_zero, List.set_cons_succ]
  refine wpAnyH_take (i := 5) (oi := { dst := some 39, op := .load 25 (.tmp 3), type := _, pos := _, after := _, guard := some (1, true) }) rfl (by kernel_rfl) (by kernel_rfl) (by kernel_rfl) (fun _ _ _ h => h) (yieldsIf_load_mid (by rfl) 25 (.tmp 3) rfl w.heap.size 0 rfl (l.map B8) _ (fun w hSw => hSw.1) Tryd.underlying25 rfl hil) hS9d ?_
  simp only [Act.put, List.setIfInBounds_toArray, List.set_cons_zero, List.set_cons_succ]
  refine wpAnyH_take (i := 6) (oi := { dst := some 40, op := .load 25 (.tmp 8), type := _, pos := _, after := _, guard := some (1, true) }) rfl (by kernel_rfl) (by kernel_rfl) (by kernel_rfl) (fun _ _ _ h => h) (yieldsIf_load_mid (by rfl) 25 (.tmp 8) rfl g8 0 rfl (ds.map B8) _ (fun w hSw => hSw.2.2.1) Tryd.underlying25 rfl hids) hS9d ?_
  simp only [Act.put, List.setIfInBounds_toArray, List.set_cons_zero, List.set_cons_succ]
  refine wpAnyH_take (i := 7) (oi := { dst := some 41, op := .binOp .eql 25 (.tmp 39) (.tmp 40) 25, type := _, pos := _, after := _, guard := some (1, true) }) (v := .bool (l == ds)) rfl (by kernel_rfl) (by kernel_rfl) (by kernel_rfl) (fun _ _ _ h => h) (Or.inl ⟨by rfl, ?_⟩) hS9d ?_
  · intro w hSw
    go_simp
  simp only [Act.put, List.setIfInBounds_toArray, List.set_cons_zero, List.set_cons_succ]
  refine wpAnyH_ready (rs := [4]) (by kernel_rfl) (by simp) ?_
  refine AllReadyH.cons (o := { dst := some 38, op := .call { callee := .value (.func 22), args := #[.tmp 36, .tmp 37], argTypes := #[22, 25] }, type := _, pos := _, after := _, guard := some (1, true) }) rfl (fun K hK => ?_) AllReadyH.nil
  rw [if_pos (by rfl)]
  go_wp2_with (go_at_call 22; refine (token_S _ w6 (some ⟨w.heap.size + 1 + 1, 0, none⟩) (m.length + 3) m l ds hds hrowL (by omega) (by omega) hR6 hl hS9d).mono ?_; rintro e w10 ⟨rfl, hb10⟩)
  have hS10 := keepS hb10 hS9d
  refine hK.out _ _ hS10 (fun _ => ?_)
  refine wpAnyH_take (i := 8) (oi := { dst := some 42, op := .binOp .eql 4 (.tmp 38) (.tmp 41) 4, type := _, pos := _, after := _, guard := some (1, true) }) (v := .bool true) rfl (by kernel_rfl) (by kernel_rfl) (by kernel_rfl) (fun _ _ _ h => h) (Or.inl ⟨by rfl, ?_⟩) hS10 ?_
  · intro w hSw
    go_simp
  simp only [Act.put, List.setIfInBounds_toArray, List.set_cons_zero, List.set_cons_succ]
  refine wpAnyH_take (i := 9) (oi := { dst := some 43, op := .pick (.tmp 35) (.tmp 42) (.const (.bool false)), type := _, pos := _, after := _, guard := none }) (v := .bool true) rfl (by kernel_rfl) (by kernel_rfl) (by kernel_rfl) (fun _ _ _ h => h) (Or.inl ⟨by rfl, ?_⟩) hS10 ?_
  · intro w hSw
    go_simp
  simp only [Act.put, List.setIfInBounds_toArray, List.set_cons_zero, List.set_cons_succ]
  refine wpAnyH_take (i := 10) (oi := { dst := some 44, op := .move (.tmp 43), type := _, pos := _, after := _, guard := none }) (v := .bool true) rfl (by kernel_rfl) (by kernel_rfl) (by kernel_rfl) (fun _ _ _ h => h) (Or.inl ⟨by rfl, ?_⟩) hS10 ?_
  · intro w hSw
    go_simp
  simp only [Act.put, List.setIfInBounds_toArray, List.set_cons_zero, List.set_cons_succ]
  refine wpAnyH_take (i := 11) (oi := { dst := some 45, op := .move (.tmp 7), type := _, pos := _, after := _, guard := some (10, true) }) (v := .slice (some ⟨w.heap.size + 1 + 1, 0, none⟩) m.length (m.length + 3)) rfl (by kernel_rfl) (by kernel_rfl) (by kernel_rfl) (fun _ _ _ h => h) (Or.inl ⟨by rfl, ?_⟩) hS10 ?_
  · intro w hSw
    go_simp
  simp only [Act.put, List.setIfInBounds_toArray, List.set_cons_zero, List.set_cons_succ]
  refine wpAnyH_take (i := 12) (oi := { dst := some 46, op := .load 25 (.tmp 8), type := _, pos := _, after := _, guard := some (10, true) }) rfl (by kernel_rfl) (by kernel_rfl) (by kernel_rfl) (fun _ _ _ h => h) (yieldsIf_load_mid (by rfl) 25 (.tmp 8) rfl g8 0 rfl (ds.map B8) _ (fun w hSw => hSw.2.2.1) Tryd.underlying25 rfl hids) hS10 ?_
  simp only [Act.put, List.setIfInBounds_toArray, List.set_cons_zero, List.set_cons_succ]
  refine wpAnyH_ready (rs := [13]) (by kernel_rfl) (by simp) ?_
  refine AllReadyH.cons (o := { dst := some 47, op := .call { callee := .value (.func 22), args := #[.tmp 45, .tmp 46], argTypes := #[22, 25] }, type := _, pos := _, after := _, guard := some (10, true) }) rfl (fun K hK => ?_) AllReadyH.nil
  rw [if_pos (by rfl)]
  go_wp2_with (go_at_call 22; refine (token_S _ w6 (some ⟨w.heap.size + 1 + 1, 0, none⟩) (m.length + 3) m ds ds hds hrowL (by omega) (by omega) hR6 hdl.out hS10).mono ?_; rintro e w11 ⟨rfl, hb11⟩)
  have hS11 := keepS hb11 hS10
  refine hK.out _ _ hS11 (fun _ => ?_)
  refine wpAnyH_take (i := 14) (oi := { dst := some 48, op := .pick (.tmp 44) (.tmp 47) (.const (.bool false)), type := _, pos := _, after := _, guard := none }) (v := .bool true) rfl (by kernel_rfl) (by kernel_rfl) (by kernel_rfl) (fun _ _ _ h => h) (Or.inl ⟨by rfl, ?_⟩) hS11 ?_
  · intro w hSw
    go_simp
  simp only [Act.put, List.setIfInBounds_toArray, List.set_cons_zero, List.set_cons_succ]
  refine wpAnyH_take (i := 15) (oi := { dst := some 49, op := .move (.tmp 48), type := _, pos := _, after := _, guard := none }) (v := .bool true) rfl (by kernel_rfl) (by kernel_rfl) (by kernel_rfl) (fun _ _ _ h => h) (Or.inl ⟨by rfl, ?_⟩) hS11 ?_
  · intro w hSw
    go_simp
  simp only [Act.put, List.setIfInBounds_toArray, List.set_cons_zero, List.set_cons_succ]
  refine wpAnyH_take (i := 16) (oi := { dst := some 50, op := .move (.tmp 7), type := _, pos := _, after := _, guard := some (15, true) }) (v := .slice (some ⟨w.heap.size + 1 + 1, 0, none⟩) m.length (m.length + 3)) rfl (by kernel_rfl) (by kernel_rfl) (by kernel_rfl) (fun _ _ _ h => h) (Or.inl ⟨by rfl, ?_⟩) hS11 ?_
  · intro w hSw
    go_simp
  simp only [Act.put, List.setIfInBounds_toArray, List.set_cons_zero, List.set_cons_succ]
  refine wpAnyH_take (i := 17) (oi := { dst := some 51, op := .move (.tmp 2), type := _, pos := _, after := _, guard := some (15, true) }) (v := .slice a m.length cap) rfl (by kernel_rfl) (by kernel_rfl) (by kernel_rfl) (fun _ _ _ h => h) (Or.inl ⟨by rfl, ?_⟩) hS11 ?_
  · intro w hSw
    go_simp
  simp only [Act.put, List.setIfInBounds_toArray, List.set_cons_zero, List.set_cons_succ]
  refine wpAnyH_ready (rs := [18]) (by kernel_rfl) (by simp) ?_
  refine AllReadyH.cons (o := { dst := some 52, op := .call { callee := .value (.func 12), args := #[.tmp 50, .tmp 51], argTypes := #[22, 22] }, type := _, pos := _, after := _, guard := some (15, true) }) rfl (fun K hK => ?_) AllReadyH.nil
  rw [if_pos (by rfl)]
  go_wp2_with (go_at_call 12; refine (kept_S _ w6 a cap (w.heap.size + 1 + 1) m hrow6 hblk6 (by omega) hS11).mono ?_; rintro e w12 ⟨rfl, hb12⟩)
  have hS12 := keepS hb12 hS11
  refine hK.out _ _ hS12 (fun _ => ?_)
  refine wpAnyH_take (i := 19) (oi := { dst := some 53, op := .pick (.tmp 49) (.tmp 52) (.const (.bool false)), type := _, pos := _, after := _, guard := none }) (v := .bool true) rfl (by kernel_rfl) (by kernel_rfl) (by kernel_rfl) (fun _ _ _ h => h) (Or.inl ⟨by rfl, ?_⟩) hS12 ?_
  · intro w hSw
    go_simp
  simp only [Act.put, List.setIfInBounds_toArray, List.set_cons_zero, List.set_cons_succ]
  refine wpAnyH_take (i := 20) (oi := { dst := some 6, op := .assign (.tmp 53), type := _, pos := _, after := _, guard := none }) (v := .bool true) rfl (by kernel_rfl) (by kernel_rfl) (by kernel_rfl) (fun _ _ _ h => h) (Or.inl ⟨by rfl, ?_⟩) hS12 ?_
  · intro w hSw
    go_simp
  simp only [Act.put, List.setIfInBounds_toArray, List.set_cons_zero, List.set_cons_succ]
  refine wpAnyH_done (by kernel_rfl) ?_ _
  go_wp2
  go_ret
  exact ⟨rfl, hbel6.trans (hS12.2.2.2.mono hbel6.size)⟩
end Go.Proofs.YtbigkblkfnnfkaaDoor
