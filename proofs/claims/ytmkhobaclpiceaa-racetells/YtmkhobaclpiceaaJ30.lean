/- Joined texts of the proof. -/
import Derived.Test.YtmkhobaclpiceaaJ17
import Derived.Test.YtmkhobaclpiceaaJ29
import Derived.Test.YtmkhobaclpiceaaJ28

/- race.Pending: what it tells. -/
namespace Go.Proofs.Ytmkhobaclpiceaa
open Go.RowKit
set_option linter.unusedVariables false
set_option linter.unusedSimpArgs false
attribute [local go_sem ↓] Go.wp_at_zero Go.wp_at_succ

theorem Try.info22 : (Try.prog.info? 22).map (fun i => (i.zero, i.size, i.bytes)) = some (some (.slice none 0 0), 1, 24) := by kernel_rfl
section
variable {o : Oper} {a : Act} {w : World} {K : Act → World → Prop} {Q : Exit → Act → World → Prop}
theorem wp_layH (x y : Operand) (ho : o.op = .buildSlice 82 2 #[(0, x), (1, y)]) (p : Option Addr) (k c : Nat) (q : Option Addr) (m d : Nat) (hx : a.eval x = .slice p k c) (hy : a.eval y = .slice q m d)
    (h : ∀ w', At 22 w' w.heap.size [.slice p k c, .slice q m d] → Below w.heap.size w w' → w.heap.size < w'.heap.size → K (a.put o.dst (.slice (some ⟨w.heap.size, 0, none⟩) 2 2)) w') : o.wp Try.prog a w K Q := by
  obtain ⟨ie, hi, hz0, hz1, hz2⟩ := info_parts Try.info22
  refine wp_buildSlice 82 22 2 #[(0, x), (1, y)] ho #[.slice p k c, .slice q m d] ie _ Try.underlying82 hi hz0 (by rw [hz1]; decide) (by rw [hz1]; decide) ?_ ?_
  · rw [hz1]
    simp only [List.map_toArray, List.map_cons, List.map_nil, hx, hy]
    (show _ = _)
    kernel_rfl
  · exact h _ (heap_new w _) ((Below.refl _ w).alloc (Nat.le_refl _) _) (by simp)
end
theorem appIg {ops : Array Oper} {rest : List Oper} {o : Oper} {a : Act} {Q : Exit → Act → World → Prop} {w0 : World} (g : Nat) (hg : g = w0.heap.size) (s x : Operand) (z : Int) (base : Nat) (v : Value) (out : List Int)
    (hgd : o.guard = none) (ho : o.op = .call { callee := .builtin .append, args := #[s, x], argTypes := #[32, 32] })
    (hs : a.eval s = v) (hx : a.eval x = .slice (some ⟨g, 0, none⟩) 1 1) (hown : OwnI base w0 v out) (hlen : out.length ≤ 1048576) (hbase : base ≤ w0.heap.size)
    (h : ∀ v' w', OwnI base w' v' (out ++ [z]) → Below base w0 w' → wpList Try.prog ops Q rest (a.put o.dst v') w') :
    wpList Try.prog ops Q (o :: rest) a (w0.alloc (.cells #[.int .i64 z] 3)) := by
  subst hg
  exact appI s x z base v out hgd ho hs hx hown hlen hbase h
theorem wrongZ_take (es : List Ev) (e : Ev) (n : Int) : wrongZ (es.take 1024 ++ [e]) n = wrongZ (es ++ [e]) n := by
  rcases Nat.lt_or_ge 1024 es.length with h | h
  · unfold wrongZ
    by_cases hn : n < 1 ∨ 16 < n
    · rw [if_pos hn, if_pos hn]
    · rw [if_neg hn, if_neg hn, if_pos (by simp; omega), if_pos (by simp; omega)]
  · rw [List.take_of_length_le h]
theorem OwnI.down {base base' : Nat} {w : World} {v : Value} {zs : List Int} (h : OwnI base w v zs) (hb : base' ≤ base) : OwnI base' w v zs := by
  obtain ⟨h0, h1 | ⟨g, cap, cur, h2, hg, hh⟩⟩ := h
  · exact ⟨h0, .inl h1⟩
  · exact ⟨h0, .inr ⟨g, cap, cur, h2, Nat.le_trans hb hg, hh⟩⟩
def fstI (ps : List (Nat × Nat)) : List Int := ps.map fun x => (x.1 : Int)
theorem pend_of (p : Nat → Nat → Bool) (k : Nat) : fstI (pairsTo p k k) = pendL p k := by
  unfold fstI pairsTo pendL
  rw [List.map_map]
  rfl
theorem prsF_last (p : Nat → Nat → Bool) (k : Nat) : prsF p k (k + 1) = pairsTo p k k := by rw [prsF_succ p k k (Nat.le_refl _), prsF_start]; rfl

set_option maxRecDepth 100000 in
set_option maxHeartbeats 6400000 in
theorem pending_any (es : List Ev) (n : Int) (e : Ev) (m k : Nat) (a : Option Addr) (c : Nat) (w : World) (hE : RowEv w a es) (hm : es.length = m) (hk : (es.take 1024).length = k) (hl : m ≤ 1048000) (hc : m ≤ c) (hnil : a = none → c = 0)
    (Z : Int) (PS : List (Nat × Nat)) (hPS : PS.length ≤ 1048576) (hZ : Z ≠ 0 → PS = [])
    (HR : ∀ u v, OwnE w.heap.size u v (es.take 1024 ++ [e]) → Calls Try.prog 25 #[v, .int .i64 n, .int .i64 (k : Int)] u fun r w' => ∃ v', r = .returned (.tuple #[v', .int .i64 Z]) ∧ OwnP u.heap.size w' v' PS ∧ Below u.heap.size u w') :
    Calls Try.prog 12 #[.slice a m c, .int .i64 n, .agg e.cells.toArray] w fun r w' => ∃ v, r = .returned (.tuple #[v, .int .i64 Z]) ∧ OwnI w.heap.size w' v (fstI PS) ∧ Below w.heap.size w w' := by
  have hkm : k = min m 1024 := by rw [← hk, List.length_take, hm]; omega
  have HKM : Hid (k = min m 1024) := hkm
  have hk1 : k ≤ m := by omega
  have hk2 : k ≤ 1024 := by omega
  have hk3 : k ≤ c := by omega
  clear hkm
  obtain ⟨et, ek, eo⟩ := e
  have HCc : ∀ u g1 gh, Below w.heap.size w u → At 22 u gh [.slice a k c, .slice (some ⟨g1, 0, none⟩) 1 1] → At 24 u g1 (Ev.cells ⟨et, ek, eo⟩) → Calls Try.prog 37 #[.slice (some ⟨gh, 0, none⟩) 2 2] u fun r w' => ∃ v, r = .returned v ∧ OwnE u.heap.size w' v (es.take 1024 ++ [⟨et, ek, eo⟩]) ∧ Below u.heap.size u w' := fun u g1 gh hu h1 h2 =>
    concat_any (es.take 1024) [⟨et, ek, eo⟩] k 1 a (some ⟨g1, 0, none⟩) c 1 gh u h1 ((hE.below hu).take 1024) (.inr ⟨g1, 0, rfl, fun i x hx j v hj => by
      have hi0 : i = 0 := by have := (List.getElem?_eq_some_iff.1 hx).1; simpa using this
      subst hi0
      simp at hx
      subst hx
      rw [Nat.zero_mul, Nat.zero_add, h2.cell]
      simpa using hj⟩) hk rfl (by omega) (Nat.le_refl _) hnil (fun h => by cases h) hk2 (by omega) (by omega)
  have HCC : Hid (∀ u g1 gh, Below w.heap.size w u → At 22 u gh [.slice a k c, .slice (some ⟨g1, 0, none⟩) 1 1] → At 24 u g1 (Ev.cells ⟨et, ek, eo⟩) → Calls Try.prog 37 #[.slice (some ⟨gh, 0, none⟩) 2 2] u fun r w' => ∃ v, r = .returned v ∧ OwnE u.heap.size w' v (es.take 1024 ++ [⟨et, ek, eo⟩]) ∧ Below u.heap.size u w') := HCc
  have HRR : Hid (∀ u v, OwnE w.heap.size u v (es.take 1024 ++ [⟨et, ek, eo⟩]) → Calls Try.prog 25 #[v, .int .i64 n, .int .i64 (k : Int)] u fun r w' => ∃ v', r = .returned (.tuple #[v', .int .i64 Z]) ∧ OwnP u.heap.size w' v' PS ∧ Below u.heap.size u w') := HR
  have HKL : Hid ((es.take 1024 ++ [(⟨et, ek, eo⟩ : Ev)]).length = k + 1) := by rw [List.length_append, hk]; rfl
  have s1 := fun u => runE_slice_to u a m c k (k : Int) rfl (by omega)
  clear HCc HR hE hm hk
  simp only [Ev.cells]
  obtain ⟨w1, hw1⟩ : ∃ x, x = w.alloc (.cells #[.int .i64 et, .int .i64 ek, .int .i64 eo] 24) := ⟨_, rfl⟩
  have HB1 : Hid (Below w.heap.size w w1) := by rw [hw1]; exact alloc_below w _
  have HA1 : Hid (At 24 w1 w.heap.size [.int .i64 et, .int .i64 ek, .int .i64 eo]) := by rw [hw1]; exact heap_new w _
  have HW1 : Hid (w1 = w.alloc (.cells #[.int .i64 et, .int .i64 ek, .int .i64 eo] 24)) := hw1
  clear hw1
  go_enter Try.func12, Try.ntmps12
  go_wp2_with fail
  rw [← HW1.out]
  obtain ⟨eb, heb⟩ : ∃ x, x = w.heap.size := ⟨_, rfl⟩
  rw [← heb] at HA1 ⊢
  clear heb
  have e1 : w1.cell? ⟨eb, 0, none⟩ = some (.int .i64 et) := HA1.out.cell 0
  have e2 : w1.cell? ⟨eb, 1, none⟩ = some (.int .i64 ek) := HA1.out.cell 1
  have e3 : w1.cell? ⟨eb, 2, none⟩ = some (.int .i64 eo) := HA1.out.cell 2
  have hmn : (if (1024 : Int) < (m : Int) then (1024 : Int) else (m : Int)) = (k : Int) := by have := HKM.out; split <;> omega
  have hS0a : Below w1.heap.size w1 w1.drew := Below.drew (Below.refl _ _)
  refine wp_region_held_drew (S := fun xS => Below w1.heap.size w1 xS) (by kernel_rfl) hS0a ?_
  obtain ⟨x0a, hx0⟩ : ∃ x, x = w1.drew := ⟨_, rfl⟩
  rw [← hx0] at hS0a  ⊢
  clear hx0
  intro _
  refine wpAnyH_take (i := 0) (oi := { dst := some 13, op := .move (.tmp 0), type := _, pos := _, after := _, guard := none }) (v := .slice a m c) rfl (by kernel_rfl) (by kernel_rfl) (by kernel_rfl) (fun _ _ _ h => h) (Or.inl ⟨by rfl, ?_⟩) hS0a ?_
  · intro wS hSw
    go_simp
  simp only [Act.put, List.setIfInBounds_toArray, List.set_cons_zero, List.set_cons_succ]
  refine wpAnyH_take (i := 1) (oi := { dst := some 14, op := .move (.tmp 0), type := _, pos := _, after := _, guard := none }) (v := .slice a m c) rfl (by kernel_rfl) (by kernel_rfl) (by kernel_rfl) (fun _ _ _ h => h) (Or.inl ⟨by rfl, ?_⟩) hS0a ?_
  · intro wS hSw
    go_simp
  simp only [Act.put, List.setIfInBounds_toArray, List.set_cons_zero, List.set_cons_succ]
  refine wpAnyH_take (i := 2) (oi := { dst := some 15, op := .call { callee := .builtin .len, args := #[.tmp 14], argTypes := #[22] }, type := _, pos := _, after := _, guard := none }) (v := .int .i64 (m : Int)) rfl (by kernel_rfl) (by kernel_rfl) (by kernel_rfl) (fun _ _ _ h => h) (Or.inl ⟨by rfl, ?_⟩) hS0a ?_
  · intro wS hSw
    go_simp
  simp only [Act.put, List.setIfInBounds_toArray, List.set_cons_zero, List.set_cons_succ]
  refine wpAnyH_take (i := 3) (oi := { dst := some 16, op := .call { callee := .builtin .min, args := #[.tmp 15, .const (.int .i64 1024)], argTypes := #[3, 3] }, type := _, pos := _, after := _, guard := none }) (v := .int .i64 (k : Int)) rfl (by kernel_rfl) (by kernel_rfl) (by kernel_rfl) (fun _ _ _ h => h) (Or.inl ⟨by rfl, ?_⟩) hS0a ?_
  · intro wS hSw
    (go_simp; try exact hmn)
  simp only [Act.put, List.setIfInBounds_toArray, List.set_cons_zero, List.set_cons_succ]
  refine wpAnyH_take (i := 4) (oi := { dst := some 17, op := .slice 22 (.tmp 13) none (some (.tmp 16)) none, type := _, pos := _, after := _, guard := none }) (v := .slice a k c) rfl (by kernel_rfl) (by kernel_rfl) (by kernel_rfl) (fun _ _ _ h => h) (Or.inl ⟨by rfl, ?_⟩) hS0a ?_
  · intro wS hSw
    go_simp
  simp only [Act.put, List.setIfInBounds_toArray, List.set_cons_zero, List.set_cons_succ]
  refine wpAnyH_take (i := 5) (oi := { dst := some 18, op := .load 24 (.tmp 5), type := _, pos := _, after := _, guard := none }) (v := .agg #[.int .i64 et, .int .i64 ek, .int .i64 eo]) rfl (by kernel_rfl) (by kernel_rfl) (by kernel_rfl) (fun _ _ _ h => h) (Or.inl ⟨by rfl, ?_⟩) hS0a ?_
  · intro wS hSw
    have z0 := (hSw.cell (lt_of_cell e1)).trans e1
    have z1 := (hSw.cell (lt_of_cell e2)).trans e2
    have z2 := (hSw.cell (lt_of_cell e3)).trans e3
    go_simp
  simp only [Act.put, List.setIfInBounds_toArray, List.set_cons_zero, List.set_cons_succ]
  refine wpAnyH_ready (rs := [6]) (by kernel_rfl) (by simp) ?_
  refine AllReadyH.cons (o := { dst := some 19, op := .buildSlice 22 1 #[(0, .tmp 18)], type := _, pos := _, after := _, guard := none }) rfl (fun K hK => ?_) AllReadyH.nil
  rw [if_pos (by rfl)]
  have sv1a := hS0a.size
  refine wp_layE1 (.tmp 18) rfl ⟨et, ek, eo⟩ rfl ?_
  intro x1a hA1a hb1a hs1a
  have sz1a := hb1a.size
  have hS1a := hS0a.trans (hb1a.mono hS0a.size)
  refine hK.out _ _ hS1a (fun _ => ?_)
  clear hK K
  refine wpAnyH_ready (rs := [7]) (by kernel_rfl) (by simp) ?_
  refine AllReadyH.cons (o := { dst := some 20, op := .buildSlice 82 2 #[(0, .tmp 17), (1, .tmp 19)], type := _, pos := _, after := _, guard := none }) rfl (fun K hK => ?_) AllReadyH.nil
  rw [if_pos (by rfl)]
  have sv2a := hS1a.size
  refine wp_layH (.tmp 17) (.tmp 19) rfl a k c (some ⟨x0a.heap.size, 0, none⟩) 1 1 rfl rfl ?_
  intro x2a hA2a hb2a hs2a
  have sz2a := hb2a.size
  have hS2a := hS1a.trans (hb2a.mono hS1a.size)
  refine hK.out _ _ hS2a (fun _ => ?_)
  clear hK K
  refine wpAnyH_ready (rs := [8]) (by kernel_rfl) (by simp) ?_
  refine AllReadyH.cons (o := { dst := some 21, op := .call { callee := .value (.func 37), args := #[.tmp 20], argTypes := #[82] }, type := _, pos := _, after := _, guard := none }) rfl (fun K hK => ?_) AllReadyH.nil
  rw [if_pos (by rfl)]
  have sv3a := hS2a.size
  have HQ := HCC.out x2a x0a.heap.size x1a.heap.size (HB1.out.trans (hS2a.mono HB1.out.size)) hA2a (hA1a.below hb2a)
  go_wp2_with (go_at_call 37; refine HQ.mono ?_; rintro e x3a ⟨v, rfl, hO3a, hb3a⟩)
  have sz3a := hb3a.size
  have hS3a := hS2a.trans (hb3a.mono hS2a.size)
  refine hK.out _ _ hS3a (fun _ => ?_)
  clear hK K
  refine wpAnyH_take (i := 9) (oi := { dst := some 0, op := .assign (.tmp 21), type := _, pos := _, after := _, guard := none }) (v := v) rfl (by kernel_rfl) (by kernel_rfl) (by kernel_rfl) (fun _ _ _ h => h) (Or.inl ⟨by rfl, ?_⟩) hS3a ?_
  · intro wS hSw
    go_simp
  simp only [Act.put, List.setIfInBounds_toArray, List.set_cons_zero, List.set_cons_succ]
  refine wpAnyH_done (by kernel_rfl) ?_ _

  obtain ⟨al, cl, rfl, hcl, -⟩ := hO3a.row
  rw [HKL.out] at hcl
  have HO3 : Hid (OwnE w.heap.size x3a (.slice al (k + 1) cl) (es.take 1024 ++ [⟨et, ek, eo⟩])) := by
    have h1 := hS2a.size
    have h2 := HB1.out.size
    obtain ⟨h0, h3 | ⟨g, cap, cur, h4, hg, hh⟩⟩ := hO3a
    · rw [HKL.out] at h3; exact ⟨h0, .inl (by rw [HKL.out]; exact h3)⟩
    · exact ⟨h0, .inr ⟨g, cap, cur, (by rw [← h4, HKL.out]), by omega, hh⟩⟩
  have HB3 : Hid (Below w.heap.size w x3a) := HB1.out.trans (hS3a.mono HB1.out.size)
  rw [HKL.out]
  clear hO3a hS0a hS1a hS2a hS3a hA1a hA2a hb1a hb2a hb3a hs1a hs2a e1 e2 e3 hmn sv1a sv2a sv3a sz1a sz2a sz3a s1 HCC HA1 HW1 HQ
  have HQ := HRR.out x3a _ HO3.out
  have ha : wrap64 (((k + 1 : Nat) : Int) - 1) = (k : Int) := by unfold wrap64; omega
  go_wp2_with (go_at_call 25; refine HQ.mono ?_; rintro _ w4 ⟨v', rfl, hown, hb4⟩; refine Hid.out ?_)
  refine hidU ?_
  obtain ⟨ap, cp, rfl, hcp, hrow⟩ := hown.row
  obtain ⟨N, hN⟩ : ∃ N, Hid (N = PS.length) := ⟨_, (rfl : _ = PS.length)⟩
  rw [← hN.out] at hcp hPS
  have HP4 : Hid (RowP w4 ap PS) := hrow
  have HB4 : Hid (Below w.heap.size w w4) := HB3.out.trans (hb4.mono HB3.out.size)
  rw [← hN.out]
  clear hown hb4 hrow HQ ha HRR HO3 HB3 HKL hcl HB1 hk1 hk2 hk3 hl hc hnil HKM
  by_cases hZ0 : Z = 0
  · subst hZ0
    clear hZ
    go_wp2_with fail
    go_loopw [10, 36] (fun v t wr => ∃ q : Nat, q ≤ N ∧ t = .int .i64 (q : Int) ∧ Hid (OwnI w4.heap.size wr v (fstI (PS.take q))) ∧ Hid (Below w4.heap.size w4 wr)) (fun _ t _ => N - (intOf t).toNat)
    case atStart => exact ⟨0, Nat.zero_le _, rfl, (show OwnI _ _ _ _ from World.ownsRow_nil _ _ _ _), Below.refl _ _⟩
    case round =>
      obtain ⟨q, hq, rfl, hO, hB⟩ := hrel
      by_cases hqN : q < N
      · obtain ⟨x, hx⟩ : ∃ x, PS[q]? = some x := ⟨PS[q]'(by rw [← hN.out]; exact hqN), by rw [List.getElem?_eq_getElem]⟩
        obtain ⟨gp, op, hap, p1, p2⟩ := (HP4.out.below hB.out).at q x hx
        subst hap
        obtain ⟨xa, xb⟩ := x
        dsimp only at p1 p2
        have HT : Hid (fstI (PS.take (q + 1)) = fstI (PS.take q) ++ [(xa : Int)]) := by
          show _ = _
          unfold fstI
          rw [List.take_add_one, hx, List.map_append]
          rfl
        have HT2 : Hid (∀ v6 w6, OwnI w4.heap.size w6 v6 (fstI (PS.take q) ++ [(xa : Int)]) → OwnI w4.heap.size w6 v6 (fstI (PS.take (q + 1)))) := fun v6 w6 h => by rw [HT.out]; exact h
        have hbx : Below wr.heap.size wr (wr.alloc (.cells #[.int .i64 (xa : Int), .int .i64 (xb : Int)] 45)) := alloc_below wr _
        have hO2 := hO.out.below hbx
        have hlen : (fstI (PS.take q)).length ≤ 1048576 := by unfold fstI; rw [List.length_map, List.length_take, ← hN.out]; omega
        have hsz : w4.heap.size ≤ (wr.alloc (.cells #[.int .i64 (xa : Int), .int .i64 (xb : Int)] 45)).heap.size := Nat.le_trans hB.out.size hbx.size
        have HB2 : Hid (Below w4.heap.size w4 (wr.alloc (.cells #[.int .i64 (xa : Int), .int .i64 (xb : Int)] 45))) := hB.out.trans (hbx.mono hB.out.size)
        have hgs : Hid (wr.heap.size + 1 = (wr.alloc (.cells #[.int .i64 (xa : Int), .int .i64 (xb : Int)] 45)).heap.size) := by show _ = _; simp
        have hsz : Hid (w4.heap.size ≤ (wr.alloc (.cells #[.int .i64 (xa : Int), .int .i64 (xb : Int)] 45)).heap.size) := hsz
        have hO2 : Hid (OwnI w4.heap.size (wr.alloc (.cells #[.int .i64 (xa : Int), .int .i64 (xb : Int)] 45)) _ (fstI (PS.take q))) := hO2
        clear hx hbx
        go_wp2_with (at_builtin; refine Hid.out ?_)
        refine hidU ?_
        refine appIg (w0 := wr.alloc (.cells #[.int .i64 (xa : Int), .int .i64 (xb : Int)] 45)) (wr.heap.size + 1) hgs.out (.tmp 40) (.tmp 43) (xa : Int) w4.heap.size _ (fstI (PS.take q)) rfl rfl rfl rfl hO2.out hlen hsz.out ?_
        intro v6 w6 hown6 hb6
        have HO6 : Hid (OwnI w4.heap.size w6 v6 (fstI (PS.take (q + 1)))) := HT2.out v6 w6 hown6
        have HB6 : Hid (Below w4.heap.size w4 w6) := HB2.out.trans hb6
        clear hown6 hb6
        go_wp2_with fail
        go_roundw
        case rel => exact ⟨q + 1, by omega, by go_num, HO6.out, HB6.out⟩
        case measure => simp [intOf]; omega
      · have hqN2 : q = N := by omega
        have hOf := hO.out
        rw [List.take_of_length_le (by rw [← hN.out]; omega)] at hOf
        have hOg := hOf.down HB4.out.size
        clear hOf
        have HBf : Hid (Below w.heap.size w wr) := HB4.out.trans (hB.out.mono HB4.out.size)
        clear hO hB
        go_wp2_with fail
        go_ret2
        exact ⟨_, rfl, hOg, HBf.out⟩
  · have hz : (Z != 0) = true := by simpa using hZ0
    have hP0 : PS = [] := hZ hZ0
    clear hZ0 hZ
    go_wp2_with fail
    go_ret2
    exact ⟨_, rfl, by rw [hP0]; exact World.ownsRow_nil _ _ _ _, HB4.out⟩
theorem pending_tellsI : TellsI 12 := fun es n e a c w hE hok he hl hc hnil => by
  have hlen : (es.take 1024).length = min es.length 1024 := by rw [List.length_take]; omega
  have hok2 : ∀ x ∈ es.take 1024 ++ [e], x.ok := fun x hx => by
    rcases List.mem_append.1 hx with h | h
    · exact hok x (List.mem_of_mem_take h)
    · simp at h; subst h; exact he
  have hll : (es.take 1024 ++ [e]).length = min es.length 1024 + 1 := by rw [List.length_append, hlen]; rfl
  unfold pendZ
  by_cases hw : wrongZ (es ++ [e]) n = 0
  · rw [if_pos hw, hw]
    obtain ⟨h1, -, h3, -⟩ := wrongZ_ok hw
    obtain ⟨k, rfl⟩ : ∃ k : Nat, n = (k : Int) := ⟨n.toNat, by omega⟩
    have hle : es.length ≤ 1023 := by rw [List.length_append] at h3; simp at h3; exact h3
    have ht : es.take 1024 = es := List.take_of_length_le (by omega)
    rw [ht] at hok2 hll hlen
    have hmin : min es.length 1024 = es.length := by omega
    rw [hmin] at hll hlen
    refine (pending_any es k e es.length es.length a c w hE rfl (by rw [ht]) hl hc hnil 0 (pairsTo (raceP (evAt (es ++ [e]))) es.length es.length) ?_ (fun h => absurd rfl h) ?_).mono fun r w' ⟨v, d1, d2, d3⟩ => ?_
    · have := pairsTo_length (raceP (evAt (es ++ [e]))) es.length es.length
      omega
    · rw [ht]
      intro u v hO
      obtain ⟨al, cl, rfl, hcl, hrow⟩ := hO.row
      rw [hll] at hcl ⊢
      refine (racesFrom_ok (es ++ [e]) k es.length (es.length + 1) al cl u hrow hok2 hll hcl hw (by omega)).mono fun r w' ⟨v, d1, d2, d3⟩ => ⟨v, d1, ?_, d3⟩
      rw [prsF_filter, bnd_race, prsF_last] at d2
      exact d2
    · rw [pend_of] at d2
      obtain ⟨ap, cp, rfl, f2, f3⟩ := d2.row
      exact ⟨ap, cp, d1, f2, f3, d3⟩
  · rw [if_neg hw]
    have hw2 : wrongZ (es.take 1024 ++ [e]) n ≠ 0 := by rw [wrongZ_take]; exact hw
    refine (pending_any es n e es.length (min es.length 1024) a c w hE rfl hlen hl hc hnil (wrongZ (es ++ [e]) n) [] (by simp) (fun _ => rfl) ?_).mono fun r w' ⟨v, d1, d2, d3⟩ => ?_
    · intro u v hO
      obtain ⟨al, cl, rfl, hcl, hrow⟩ := hO.row
      rw [hll] at hcl ⊢
      refine (racesFrom_bad (es.take 1024 ++ [e]) n ((min es.length 1024 : Nat) : Int) (min es.length 1024 + 1) al cl u hrow hll (by omega) hcl hw2).mono fun r w' ⟨d1, d3⟩ => ⟨_, by rw [d1, wrongZ_take], OwnP.nil _ _, d3⟩
    · obtain ⟨ap, cp, rfl, f2, f3⟩ := d2.row
      exact ⟨ap, cp, d1, f2, f3, d3⟩
end Go.Proofs.Ytmkhobaclpiceaa

/- Traces of threads that take turns under one mutex: no data race (mathematics). -/
namespace Go.Proofs.Ytmkhobaclpiceaa
open Go.RowKit
set_option linter.unusedVariables false

theorem evAt_left {es fs : List Ev} {i : Nat} (h : i < es.length) : evAt (es ++ fs) i = evAt es i := by
  unfold evAt
  simp [List.getD, List.getElem?_append_left h]
theorem evAt_right {es fs : List Ev} {i : Nat} (h : es.length ≤ i) : evAt (es ++ fs) i = evAt fs (i - es.length) := by
  unfold evAt
  simp [List.getD, List.getElem?_append_right h]
/-- One turn: a lock, whatever of the same thread, an unlock. -/
def turnE (t : Int) (body : List Ev) : List Ev := ⟨t, 3, 0⟩ :: (body ++ [⟨t, 4, 0⟩])
theorem turnE_length (t : Int) (body : List Ev) : (turnE t body).length = body.length + 2 := by simp [turnE]
theorem turnE_first (t : Int) (body : List Ev) : evAt (turnE t body) 0 = ⟨t, 3, 0⟩ := rfl
theorem turnE_last (t : Int) (body : List Ev) : evAt (turnE t body) (body.length + 1) = ⟨t, 4, 0⟩ := by
  unfold evAt turnE
  simp [List.getD]
theorem turnE_th {t : Int} {body : List Ev} (h : ∀ e ∈ body, e.th = t) {i : Nat} (hi : i < (turnE t body).length) : (evAt (turnE t body) i).th = t := by
  have : evAt (turnE t body) i ∈ turnE t body := by
    unfold evAt
    simp only [List.getD, List.getElem?_eq_getElem hi, Option.getD_some]
    exact List.getElem_mem hi
  unfold turnE at this
  rcases List.mem_cons.1 this with h1 | h1
  · unfold turnE; rw [h1]
  · rcases List.mem_append.1 h1 with h2 | h2
    · exact h _ h2
    · simp at h2; unfold turnE; rw [h2]
/-- What holds of traces of turns. -/
structure Gd (es : List Ev) : Prop where
  give : ∀ i, i < es.length → ∃ u, i ≤ u ∧ u < es.length ∧ (evAt es u).th = (evAt es i).th ∧ (evAt es u).kd = 4 ∧ (evAt es u).ob = 0
  free : ∀ i j, i < j → j < es.length → (evAt es i).th ≠ (evAt es j).th → varB (evAt es j) = true → HR (lockR (evAt es)) i j
theorem Gd.nil : Gd [] := ⟨fun i h => by simp at h, fun i j _ h => by simp at h⟩
theorem Gd.add {es : List Ev} (h : Gd es) {t : Int} {body : List Ev} (hb : ∀ e ∈ body, e.th = t) : Gd (es ++ turnE t body) := by
  have hlen : (es ++ turnE t body).length = es.length + (body.length + 2) := by rw [List.length_append, turnE_length]
  have evR : ∀ i, es.length ≤ i → i < es.length + (body.length + 2) → (evAt (es ++ turnE t body) i).th = t := by
    intro i h1 h2
    rw [evAt_right h1]
    exact turnE_th hb (by rw [turnE_length]; omega)
  have first : evAt (es ++ turnE t body) es.length = ⟨t, 3, 0⟩ := by rw [evAt_right (Nat.le_refl _), Nat.sub_self, turnE_first]
  have last : evAt (es ++ turnE t body) (es.length + (body.length + 1)) = ⟨t, 4, 0⟩ := by rw [evAt_right (by omega), Nat.add_sub_cancel_left, turnE_last]
  constructor
  · intro i hi
    rw [hlen] at hi ⊢
    rcases Nat.lt_or_ge i es.length with h1 | h1
    · obtain ⟨u, h2, h3, h4, h5, h6⟩ := h.give i h1
      exact ⟨u, h2, by omega, by rw [evAt_left h3, evAt_left h1]; exact h4, by rw [evAt_left h3]; exact h5, by rw [evAt_left h3]; exact h6⟩
    · exact ⟨es.length + (body.length + 1), by omega, by omega, by rw [last, evR i h1 hi], by rw [last], by rw [last]⟩
  · intro i j hij hj ht hv
    rw [hlen] at hj
    rcases Nat.lt_or_ge j es.length with h1 | h1
    · have hi : i < es.length := by omega
      rw [evAt_left hi, evAt_left h1] at ht
      rw [evAt_left h1] at hv
      refine (h.free i j hij h1 ht hv).imp fun a b h2 h3 h4 => ?_
      unfold lockR at h4 ⊢
      rw [evAt_left (show a < es.length by omega), evAt_left (show b < es.length by omega)]
      exact h4
    · rcases Nat.lt_or_ge i es.length with h2 | h2
      · obtain ⟨u, h3, h4, h5, h6, h7⟩ := h.give i h2
        have hjs : es.length < j := by
          rcases Nat.lt_or_ge es.length j with h | h
          · exact h
          · have : j = es.length := by omega
            subst this
            rw [first] at hv
            simp [varB] at hv
        have l1 : lockR (evAt (es ++ turnE t body)) u es.length = true := by
          unfold lockR
          rw [evAt_left h4, first, h6, h7]
          simp
        have l2 : lockR (evAt (es ++ turnE t body)) es.length j = true := by
          unfold lockR
          rw [evR j h1 hj, evR es.length (Nat.le_refl _) (by omega)]
          simp
        have l3 : HR (lockR (evAt (es ++ turnE t body))) u j := .step (.dep h4 l1) hjs l2
        rcases Nat.lt_or_ge i u with h8 | h8
        · refine HR.trans (.dep h8 ?_) l3
          unfold lockR
          rw [evAt_left h2, evAt_left h4, h5]
          simp
        · rw [show i = u by omega]
          exact l3
      · exact absurd (by rw [evR i h2 (by omega), evR j h1 hj]) ht
theorem Gd.none {es : List Ev} (h : Gd es) : pairsL (dataP (evAt es)) es.length = [] := by
  rw [List.eq_nil_iff_forall_not_mem]
  rintro ⟨i, j⟩ hm
  obtain ⟨h1, h2, h3⟩ := mem_pairsL.1 hm
  unfold dataP at h3
  simp only [Bool.and_eq_true, Bool.not_eq_true', decide_eq_false_iff_not] at h3
  obtain ⟨h4, h5, h6, h7, h8⟩ := h3
  have := (hrB_iff (lockR (evAt es)) j i).2 (h.free i j h1 h2 h4 h6)
  rw [h8] at this
  cases this
end Go.Proofs.Ytmkhobaclpiceaa
