/- Joined texts of the proof. -/
import Derived.Test.YtcmkjjlchljffaaDoorJ7
import Derived.Test.YtcmkjjlchljffaaDoorJ3
import Derived.Deep.AppendLies
import Derived.OwnWalkIn
import Derived.Shelf.SlIter.Sorted
import Derived.WalkKit
import Derived.ProofKit
import Derived.OpenShut
import Derived.ShutString
import Derived.ChangeOld
import Derived.Below
import Derived.Deep.Slices
import Derived.ChangeSame
import Derived.Test.YtcmkjjlchljffaaDoorRows
import Derived.Lay
import Derived.MakeChecks

/- The landed disk: a file is torn. -/
namespace Go.Proofs.YtcmkjjlchljffaaDoor
open Go.RowKit
set_option linter.unusedVariables false
set_option maxRecDepth 100000
set_option maxHeartbeats 6400000

theorem cut_t (a : Option Addr) (n c : Nat) (bs : List UInt8) (sf : Nat) (hd : Bool) (t : Nat) (w : World) (h : Row w a bs) (hn : bs.length = n) (hc : n ≤ c) (h0 : a = none → c = 0) (hz : t ≤ n) (hm : n ≤ 67108864) (hsf : sf ≤ t) :
    Calls Tryd.prog 53 #[.agg #[.slice a n c, .int .i64 (sf : Int), .bool hd], .int .i64 (t : Int)] w fun r w' => ∃ av cv, r = .returned (.agg #[.slice av t cv, .int .i64 (sf : Int), .bool hd]) ∧ OwnX eB w.heap.size w' (.slice av t cv) (bs.take t) ∧ Below w.heap.size w w' := by
  refine (cut_any a n c bs sf hd t w h hn hc h0 hz hm (by omega)).mono ?_
  rintro r w' ⟨v, rfl, hO, hb⟩
  obtain ⟨av, cv, rfl⟩ := own_slice hO
  have hl : (bs.take t).length = t := by rw [List.length_take]; omega
  rw [hl] at hO ⊢
  rw [show min sf t = sf by omega]
  exact ⟨av, cv, rfl, hO, hb⟩
theorem tear_p {B g mb : Nat} {w : World} {m : FMap} {sz wr : Nat} {lf : Int} {nm : ByteArray} {a : Option Addr} {n c : Nat} {bs : List UInt8} {sf : Nat} {hd : Bool} (h : Ds B w g mb m sz lf wr) (hl : lookM m nm = some ⟨.slice a n c, bs, sf, hd⟩) (hsn : sf ≤ n) (hns : n ≤ 67108864) (z : Int) (t : Nat) (ht : t = sf + (min (max z 0) ((n : Int) - (sf : Int))).toNat) :
    Calls Tryd.prog 60 #[.pointer (some ⟨g, 0, none⟩), .string nm, .int .i64 z] w fun r w' => r = .returned (.tuple #[]) ∧ ((t = 0 ∧ hd = false) → Wrt B w w' mb m (delM m nm)) ∧ (¬ (t = 0 ∧ hd = false) → ∃ v, Wrt B w w' mb m (updM m nm ⟨v, bs.take t, t, hd⟩)) := by
  obtain ⟨a', n', c', bs', sf', hd', e, hn, hnc, _, hn0, hR, hO⟩ := look_parts h hl
  injection e with e1 e2 e3 e4
  injection e1 with e5 e6 e7
  subst e5 e6 e7 e2 e3 e4
  have h40 : nm.size ≤ 40 := h.ns _ (look_mem hl)
  have hs : nm.size ≤ maxLen := by unfold maxLen; omega
  obtain ⟨K, hK⟩ : ∃ K : Int, Hid (max z 0 = K) := ⟨_, (rfl : max z 0 = _)⟩
  obtain ⟨J, hJ⟩ : ∃ J : Int, Hid (min K ((n : Int) - (sf : Int)) = J) := ⟨_, (rfl : min K _ = _)⟩
  have hst : sf ≤ t := by omega
  have htn : t ≤ n := by omega
  have hJt : (sf : Int) + J = (t : Int) := by have := hJ.out; have := hK.out; omega
  have hW : Hid (IntKind.i64.wrap ((sf : Int) + J) = (t : Int)) := hidU (by rw [hJt, IntKind.wrap_i64]; omega)
  have q := h.files
  have HP := hidU h.mp
  have H := hidU h
  have HRr := hidU hR
  have HL := hidU hl
  clear h hl hR hO ht hJt
  go_enter Tryd.func60, Tryd.ntmps60
  go_wp2_with (first
    | (refine wpList_look mF rfl (.tmp 10) (.tmp 11) false rfl nm rfl rfl HP.out hs (.agg #[.slice a n c, .int .i64 (sf : Int), .bool hd]) (by rw [HL.out]; rfl) ?_)
    | (refine wpList_alloc_at rfl 66 rfl [.slice none 0 0, .int .i64 0, .bool false] 3 z66 ?_; intro x1 hA1 hb1 hs1)
    | (refine wpList_store_at rfl 66 (.tmp 6) (.tmp 12) rfl w.heap.size [.slice a n c, .int .i64 (sf : Int), .bool hd] rfl rfl 66 _ hA1 i66 rfl one3 ?_; intro w1 hA2 hb2 hs2; refine Hid.out ?_))
  refine hidU ?_
  obtain ⟨G, hG⟩ : ∃ k, k = w.heap.size := ⟨_, rfl⟩
  have HB1 := hidU (hb2.below hb1 (Nat.le_refl _) hb1.size)
  rw [← hG] at hA2 ⊢
  have HAG := hidU hA2
  have hGl : w.heap.size ≤ G := Nat.le_of_eq hG.symm
  have e0 : w1.cell? ⟨G, 0, none⟩ = some (.slice a n c) := by rw [HAG.out.cell]; rfl
  have e1 : w1.cell? ⟨G, 1, none⟩ = some (.int .i64 (sf : Int)) := by rw [HAG.out.cell]; rfl
  have e2 : w1.cell? ⟨G, 2, none⟩ = some (.bool hd) := by rw [HAG.out.cell]; rfl
  have HRw := hidU (HRr.out.below HB1.out)
  clear hA1 hA2 hb1 hb2 hs1 hs2 hG q HP HL
  go_wp2
  have hS0 : Below w1.heap.size w1 w1.drew := Below.drew (Below.refl _ _)
  refine wp_region_S (S := fun xS => Below w1.heap.size w1 xS) (St := [11]) (by kernel_rfl) hS0 ?_
  obtain ⟨x0, hx0⟩ : ∃ x, x = w1.drew := ⟨_, rfl⟩
  rw [← hx0] at hS0  ⊢
  clear hx0
  intro hH
  refine wpAnyS_take [9, 10, 11] (i := 0) (oi := { dst := some 13, op := .load 66 (.tmp 6), type := _, pos := _, after := _, guard := none }) (v := .agg #[.slice a n c, .int .i64 (sf : Int), .bool hd]) rfl (by kernel_rfl) (by kernel_rfl) (by kernel_rfl) (by kernel_rfl) (by kernel_rfl) (by kernel_rfl) (by kernel_rfl) (fun _ _ _ h => h) (Or.inl ⟨by rfl, ?_⟩) hH (fun hH => ?_)
  · intro wS hSw
    have z0 := (hSw.cell (lt_of_cell e0)).trans e0
    have z1 := (hSw.cell (lt_of_cell e1)).trans e1
    have z2 := (hSw.cell (lt_of_cell e2)).trans e2
    go_simp
  simp only [Act.put, List.setIfInBounds_toArray, List.set_cons_zero, List.set_cons_succ]
  refine wpAnyS_pure (i := 1) (oi := { dst := some 14, op := .fieldAddr 66 (.tmp 6) 1, type := _, pos := _, after := _, guard := none }) (v := .pointer (some ⟨G, 1, none⟩)) rfl (by kernel_rfl) (by kernel_rfl) (by kernel_rfl) (by kernel_rfl) (fun _ _ _ h => h) (Or.inl ⟨by rfl, ?_⟩) hH (fun hH => ?_)
  · intro wS hSw
    go_simp
  simp only [Act.put, List.setIfInBounds_toArray, List.set_cons_zero, List.set_cons_succ]
  refine wpAnyS_take [8, 9, 10, 11] (i := 2) (oi := { dst := some 15, op := .load 3 (.tmp 14), type := _, pos := _, after := _, guard := none }) (v := .int .i64 (sf : Int)) rfl (by kernel_rfl) (by kernel_rfl) (by kernel_rfl) (by kernel_rfl) (by kernel_rfl) (by kernel_rfl) (by kernel_rfl) (fun _ _ _ h => h) (Or.inl ⟨by rfl, ?_⟩) hH (fun hH => ?_)
  · intro wS hSw
    have z0 := (hSw.cell (lt_of_cell e1)).trans e1
    go_simp
  simp only [Act.put, List.setIfInBounds_toArray, List.set_cons_zero, List.set_cons_succ]
  refine wpAnyS_pure (i := 3) (oi := { dst := some 16, op := .move (.tmp 2), type := _, pos := _, after := _, guard := none }) (v := .int .i64 z) rfl (by kernel_rfl) (by kernel_rfl) (by kernel_rfl) (by kernel_rfl) (fun _ _ _ h => h) (Or.inl ⟨by rfl, ?_⟩) hH (fun hH => ?_)
  · intro wS hSw
    go_simp
  simp only [Act.put, List.setIfInBounds_toArray, List.set_cons_zero, List.set_cons_succ]
  refine wpAnyS_pure (i := 4) (oi := { dst := some 17, op := .call { callee := .builtin .max, args := #[.tmp 16, .const (.int .i64 0)], argTypes := #[3, 3] }, type := _, pos := _, after := _, guard := none }) (v := .int .i64 K) rfl (by kernel_rfl) (by kernel_rfl) (by kernel_rfl) (by kernel_rfl) (fun _ _ _ h => h) (Or.inl ⟨by rfl, ?_⟩) hH (fun hH => ?_)
  · intro wS hSw
    go_simp
    try rw [hK.out]
    try rfl
  simp only [Act.put, List.setIfInBounds_toArray, List.set_cons_zero, List.set_cons_succ]
  refine wpAnyS_take [6, 7, 8, 9, 10, 11] (i := 5) (oi := { dst := some 18, op := .load 66 (.tmp 6), type := _, pos := _, after := _, guard := none }) (v := .agg #[.slice a n c, .int .i64 (sf : Int), .bool hd]) rfl (by kernel_rfl) (by kernel_rfl) (by kernel_rfl) (by kernel_rfl) (by kernel_rfl) (by kernel_rfl) (by kernel_rfl) (fun _ _ _ h => h) (Or.inl ⟨by rfl, ?_⟩) hH (fun hH => ?_)
  · intro wS hSw
    have z0 := (hSw.cell (lt_of_cell e0)).trans e0
    have z1 := (hSw.cell (lt_of_cell e1)).trans e1
    have z2 := (hSw.cell (lt_of_cell e2)).trans e2
    go_simp
  simp only [Act.put, List.setIfInBounds_toArray, List.set_cons_zero, List.set_cons_succ]
  refine wpAnyS_ready (rs := [6]) (by kernel_rfl) (by simp) ?_
  refine AllReadyS.cons (o := { dst := some 19, op := .call { callee := .value (.func 51), args := #[.tmp 18], argTypes := #[66] }, type := _, pos := _, after := _, guard := none }) rfl (fun K hK => ?_) AllReadyS.nil
  rw [if_pos (by rfl)]
  go_wp2_with (go_at_call 51; refine (loose_any ⟨.slice a n c, bs, sf, hd⟩ n c a x0 rfl (show sf ≤ _ by omega) (by omega)).mono ?_; rintro e x1 ⟨rfl, hb1⟩)
  have hS1 := hS0.trans (hb1.mono hS0.size)
  refine hK.out _ _ (Hold.of hS1) (fun hH => ?_)
  clear hK K
  refine wpAnyS_pure (i := 7) (oi := { dst := some 20, op := .call { callee := .builtin .min, args := #[.tmp 17, .tmp 19], argTypes := #[3, 3] }, type := _, pos := _, after := _, guard := none }) (v := .int .i64 J) rfl (by kernel_rfl) (by kernel_rfl) (by kernel_rfl) (by kernel_rfl) (fun _ _ _ h => h) (Or.inl ⟨by rfl, ?_⟩) hH (fun hH => ?_)
  · intro wS hSw
    go_simp
    try rw [hJ.out]
    try rfl
  simp only [Act.put, List.setIfInBounds_toArray, List.set_cons_zero, List.set_cons_succ]
  refine wpAnyS_pure (i := 8) (oi := { dst := some 21, op := .binOp .add 3 (.tmp 15) (.tmp 20) 3, type := _, pos := _, after := _, guard := none }) (v := .int .i64 (t : Int)) rfl (by kernel_rfl) (by kernel_rfl) (by kernel_rfl) (by kernel_rfl) (fun _ _ _ h => h) (Or.inl ⟨by rfl, ?_⟩) hH (fun hH => ?_)
  · intro wS hSw
    go_simp
    try rw [hW.out]
    try rfl
  simp only [Act.put, List.setIfInBounds_toArray, List.set_cons_zero, List.set_cons_succ]
  refine wpAnyS_ready (rs := [9]) (by kernel_rfl) (by simp) ?_
  refine AllReadyS.cons (o := { dst := some 22, op := .call { callee := .value (.func 53), args := #[.tmp 13, .tmp 21], argTypes := #[66, 3] }, type := _, pos := _, after := _, guard := none }) rfl (fun K hK => ?_) AllReadyS.nil
  rw [if_pos (by rfl)]
  go_wp2_with (go_at_call 53; refine (cut_t a n c bs sf hd t x1 (HRw.out.below hS1) hn hnc hn0 htn (by omega) hst).mono ?_; rintro e x2 ⟨av, cv, rfl, hO2, hb2⟩)
  have hSz2 : w1.heap.size ≤ x1.heap.size := (hS1).size
  have hS2 := hS1.trans (hb2.mono hS1.size)
  refine hK.out _ _ (Hold.of hS2) (fun hH => ?_)
  clear hK K
  refine wpAnyS_ready (rs := [10]) (by kernel_rfl) (by simp) ?_
  refine AllReadyS.cons (o := { dst := some 23, op := .call { callee := .value (.func 55), args := #[.tmp 22], argTypes := #[66] }, type := _, pos := _, after := _, guard := none }) rfl (fun K hK => ?_) AllReadyS.nil
  rw [if_pos (by rfl)]
  go_wp2_with (go_at_call 55; refine (safely_any av t cv sf hd x2).mono ?_; rintro e x3 ⟨rfl, hb3⟩)
  have hS3 := hS2.trans (hb3.mono hS2.size)
  refine hK.out _ _ (Hold.of hS3) (fun hH => ?_)
  clear hK K
  refine wpAnyS_ready (rs := [11]) (by kernel_rfl) (by simp) ?_
  refine AllReadyS.cons (o := { dst := none, op := .store 66 (.tmp 6) (.tmp 23), type := _, pos := _, after := _, guard := none }) rfl (fun K hK => ?_) AllReadyS.nil
  rw [if_pos (by rfl)]
  refine wp_store3 (.tmp 6) (.tmp 23) rfl G [.slice av t cv, .int .i64 (t : Int), .bool hd] rfl rfl _ (HAG.out.below hS3) rfl rfl one3 ?_
  intro x4 hA4 hb4 hs4
  refine hK.out _ _ (Hold.over (s := 11) (by decide) (by rfl)) (fun hH => ?_)
  clear hK K
  refine wpAnyS_done (by kernel_rfl) ?_ _
  have HA4 := hidU hA4
  have HB3 := hidU (HB1.out.trans (hS3.mono HB1.out.size))
  have HB4 := hidU (hb4.below HB3.out hGl HB3.out.size)
  have HO3 := hidU ((hO2.below hb3).less (b' := w.heap.size) (Nat.le_trans HB1.out.size (hSz2)))
  have HO4 : Hid (OwnX eB w.heap.size x4 (.slice av t cv) (bs.take t)) := hidU (HO3.out.same fun k hk => hb4.block k (HO3.out.block k hk).2.1 (by
    rintro rfl
    obtain ⟨_, _, cs, hA⟩ := HO3.out.block k hk
    exact hA.ne (HAG.out.below hS3) (show (5 : Nat) ≠ 66 by decide) rfl))
  have c0 : x4.cell? ⟨G, 0, none⟩ = some (.slice av t cv) := by rw [HA4.out.cell]; rfl
  have c2 : x4.cell? ⟨G, 2, none⟩ = some (.bool hd) := by rw [HA4.out.cell]; rfl
  have q4 := (H.out.below HB4.out).files
  have HM4 := hidU (H.out.below HB4.out).mp
  have hBw : B ≤ w.heap.size := Nat.le_trans H.out.bg (Nat.le_of_lt (heapLt H.out.at_))
  have HPt := hidU (put_wrt H.out h40 av t cv (bs.take t) t hd x4 (Chg.of_below HB4.out) (HO4.out.less hBw) (fun k hk => .inr (HO4.out.block k hk).1))
  have hA4 := HA4.out
  clear hb1 hb2 hb3 hb4 hS1 hS2 hS3 hO2 hA4 hs4 hS0 e0 e1 e2 hSz2 hH
  by_cases ht0 : t = 0
  · cases hd with
    | false =>
      rw [ht0] at c0
      have HT := hidU ht0
      clear ht0 hA4
      go_wp2_with (refine wpList_del mF rfl (.tmp 36) (.tmp 37) rfl nm rfl rfl HM4.out hs ?_; intro y hMy hby hsy; refine Hid.out ?_)
      refine hidU ?_
      clear hsy
      go_wp2
      refine bodyPost_ret (results_none rfl _ _ _) rfl ?_
      exact ⟨rfl, fun _ => (Wrt.del (H.out.below HB4.out) hMy hby).from HB4.out, fun q => absurd HT.out (by simpa using q)⟩
    | true =>
      rw [ht0] at c0
      clear ht0
      go_wp2_with (first
        | (refine wpList_load_at rfl 66 (.tmp 6) rfl G rfl 66 _ hA4 _ Tryd.underlying66 rfl i66 ?_)
        | (go_at_call 38; refine HPt.out.mono ?_; rintro _ y ⟨rfl, hW⟩))
      go_end0
      refine ⟨rfl, fun q => ?_, fun _ => ⟨_, hW⟩⟩
      simp at q
  · have ht1 : ¬ (t : Int) = 0 := by omega
    have HT := hidU ht0
    clear ht0
    go_wp2_with (first
      | (refine wpList_load_at rfl 66 (.tmp 6) rfl G rfl 66 _ hA4 _ Tryd.underlying66 rfl i66 ?_)
      | (go_at_call 38; refine HPt.out.mono ?_; rintro _ y ⟨rfl, hW⟩))
    go_end0
    exact ⟨rfl, fun q => absurd q.1 HT.out, fun _ => ⟨_, hW⟩⟩

end Go.Proofs.YtcmkjjlchljffaaDoor

/- The landed disk: Crash. -/
namespace Go.Proofs.YtcmkjjlchljffaaDoor
open Go.RowKit
set_option linter.unusedVariables false
set_option maxRecDepth 100000
set_option maxHeartbeats 6400000

theorem Dn.refl {B g mb sz wr : Nat} {lf : Int} {w : World} {m : FMap} (h : Ds B w g mb m sz lf wr) {w' : World} (hb : Below w.heap.size w w') : Dn B w w' g mb m m sz lf wr :=
  ⟨h.below hb, Chg.of_below hb, fun k hk => .inl hk⟩
theorem Dn.below {B g mb sz wr : Nat} {lf : Int} {w w1 w2 : World} {m m' : FMap} (h : Dn B w w1 g mb m m' sz lf wr) (hb : Below w1.heap.size w1 w2) : Dn B w w2 g mb m m' sz lf wr :=
  ⟨h.ds.below hb, h.chg.trans (Chg.of_below hb), h.new⟩
theorem Dn.wrt {B g mb sz wr : Nat} {lf : Int} {w w1 w2 : World} {m m' m2 : FMap} (h : Dn B w w1 g mb m m' sz lf wr) (k : Wrt B w1 w2 mb m' m2) : Dn B w w2 g mb m m2 sz lf wr := by
  have d := k.dn h.ds (But.refl g w2) (k.at_ h.ds h.ds.at_)
  refine ⟨d.ds, h.chg.more d.chg fun i hi e => ?_, fun i hi => ?_⟩
  · exact (h.new i e).resolve_right (by omega)
  · rcases d.new i hi with e | e
    · exact h.new i e
    · exact .inr (Nat.le_trans h.chg.size e)
/-- The place in torn behind so many files. -/
def nx (torn : List Int) : Nat → List Fi → Nat
  | k, [] => k
  | k, f :: fs => nx torn (crOne torn k f).2 fs
theorem crL_snoc (torn : List Int) : ∀ (pre : List Fi) (k : Nat) (f : Fi), crL torn k (pre ++ [f]) = crL torn k pre ++ (if crK torn (nx torn k pre) f then [(crOne torn (nx torn k pre) f).1] else []) ∧ nx torn k (pre ++ [f]) = (crOne torn (nx torn k pre) f).2
  | [], k, f => ⟨by
    rw [List.nil_append, crL_cons]
    show _ ++ [] = [] ++ _
    rw [List.append_nil, List.nil_append]
    rfl, rfl⟩
  | a :: pre, k, f => by
    obtain ⟨h1, h2⟩ := crL_snoc torn pre (crOne torn k a).2 f
    rw [List.cons_append, crL_cons, crL_cons, h1]
    exact ⟨by rw [List.append_assoc]; rfl, h2⟩
theorem filter_mid {A R : List Fi} {f : Fi} (hn : ((A ++ f :: R).map Fi.nm).Nodup) : (A ++ f :: R).filter (fun x => !isN f.nm x) = A ++ R := by
  rw [List.map_append, List.map_cons, List.nodup_append] at hn
  obtain ⟨n1, n2, n3⟩ := hn
  rw [List.nodup_cons] at n2
  rw [List.filter_append, List.filter_cons_of_neg (by simp [isN])]
  congr 1
  · refine List.filter_eq_self.2 fun x hx => ?_
    rw [(isN_inj (a := f.nm) (b := x.nm) rfl).2 fun e => n3 _ (List.mem_map.2 ⟨x, hx, rfl⟩) _ (.head _) e.symm]
    rfl
  · refine List.filter_eq_self.2 fun x hx => ?_
    rw [(isN_inj (a := f.nm) (b := x.nm) rfl).2 fun e => n2.1 (e ▸ List.mem_map.2 ⟨x, hx, rfl⟩)]
    rfl
theorem nodup_fi {B g mb sz wr : Nat} {lf : Int} {w : World} {m : FMap} {L : List Fi} (h : Ds B w g mb m sz lf wr) (hp : (m.map toFi).Perm L) : (L.map Fi.nm).Nodup := by
  have h2 := hp.map Fi.nm
  rw [List.map_map] at h2
  exact h2.nodup_iff.1 h.mp.nodup
/-- The file of a name in the map, by the list. -/
theorem look_mid {B g mb sz wr : Nat} {lf : Int} {w : World} {m : FMap} {A R : List Fi} {f : Fi} (h : Ds B w g mb m sz lf wr) (hp : (m.map toFi).Perm (A ++ f :: R)) : ∃ v, lookM m f.nm = some ⟨v, f.bs, f.sf, f.hd⟩ := by
  have hm : f ∈ m.map toFi := hp.mem_iff.2 (by simp)
  obtain ⟨p, hp', e⟩ := List.mem_map.1 hm
  obtain ⟨nm, v, bs, sf, hd⟩ := p
  subst e
  refine ⟨v, ?_⟩
  show (m.find? (keyB nm)).map _ = _
  rw [find_of_mem h.mp.nodup hp']
  rfl
theorem run_slice_1 (w : World) (a : Option Addr) (len cap : Nat) (h : 1 ≤ len) : (Instr.slice 52 (.slice a len cap) (some (.int .i64 1)) none none).run Tryd.prog w = .ok (.slice (if cap = 1 then a else a.map (·.add 1)) (len - 1) (cap - 1)) w := by
  have hu : Tryd.prog.underlying 52 = some (.slice 3) := eI.und
  have he : Tryd.prog.elem 52 = 3 := by simp [Program.elem, hu]
  have hs : (sizeOf 3).run Tryd.prog w = .ok 1 w := by kernel_rfl
  rw [run_slice_l w 52 a len cap (by rw [he]; exact hu) .i64 1 (by omega) (by omega), he, hs]
  simp only [Result.andThen, sliced]
  rfl
theorem kpN_le (torn : List Int) (k lo : Nat) : kpN torn k lo ≤ lo := by
  unfold kpN
  cases torn[k]? with
  | none => exact Nat.zero_le _
  | some x => simp only; omega
theorem crash_step {B g mb sz wr : Nat} {lf : Int} {x x' : World} {m' : FMap} {A R : List Fi} {f : Fi} {torn : List Int} {k t : Nat} (ds : Ds B x g mb m' sz lf wr) (hpm : (m'.map toFi).Perm (A ++ f :: R)) (hlo : f.sf < f.bs.length) (ht : t = f.sf + kpN torn k (f.bs.length - f.sf))
    (h1 : (t = 0 ∧ f.hd = false) → Wrt B x x' mb m' (delM m' f.nm)) (h2 : ¬ (t = 0 ∧ f.hd = false) → ∃ v, Wrt B x x' mb m' (updM m' f.nm ⟨v, f.bs.take t, t, f.hd⟩)) :
    ∃ m2, Wrt B x x' mb m' m2 ∧ (m2.map toFi).Perm (A ++ ((if crK torn k f then [(crOne torn k f).1] else []) ++ R)) ∧ (crOne torn k f).2 = k + 1 := by
  have hk := kpN_le torn k (f.bs.length - f.sf)
  have hlen : (f.bs.take t).length = t := by rw [List.length_take]; omega
  have hnd := nodup_fi ds hpm
  have hone : crOne torn k f = (⟨f.nm, f.bs.take t, t, f.hd⟩, k + 1) := by
    unfold crOne
    rw [if_pos hlo, ← ht, hlen]
  have hcK : crK torn k f = (f.hd || decide (0 < t)) := by
    unfold crK
    rw [hone, decide_eq_false (by omega), Bool.false_or]
    simp only
    rw [hlen]
  have hfil := filter_mid hnd
  by_cases hd : t = 0 ∧ f.hd = false
  · refine ⟨_, h1 hd, ?_, by rw [hone]⟩
    rw [hcK, hd.2, hd.1, if_neg (by simp), List.nil_append, del_fi, ← hfil]
    exact hpm.filter _
  · obtain ⟨v, hW⟩ := h2 hd
    refine ⟨_, hW, ?_, by rw [hone]⟩
    rw [hcK, if_pos (by
      rw [Bool.or_eq_true, decide_eq_true_eq]
      by_cases q : t = 0
      · exact .inl (by cases e : f.hd with | true => rfl | false => exact absurd ⟨q, e⟩ hd)
      · exact .inr (by omega)), hone]
    refine (upd_fs hpm ds.mp.nodup).trans ?_
    rw [hfil]
    exact List.perm_middle.symm
theorem Wrt.names {B g mb sz wr : Nat} {lf : Int} {x x' : World} {m' m2 : FMap} {b : Nat} {v : Value} {N : List ByteArray} (ds : Ds B x g mb m' sz lf wr) (k : Wrt B x x' mb m' m2) (hO : OwnX eS b x v N) (hmb : mb < b) : OwnX eS b x' v N := by
  refine hO.same fun i hi => ?_
  obtain ⟨h1, h2, cs, hA⟩ := hO.block i hi
  refine k.chg.block i h2 ?_
  rintro (e | ⟨p, hp, e⟩)
  · omega
  · obtain ⟨_, _, cs', hA'⟩ := (ds.own p hp).block i e
    exact hA'.ne hA (show (5 : Nat) ≠ 9 by decide) rfl
theorem crash_p {B g mb : Nat} {w : World} {m : FMap} {sz wr : Nat} {lf : Int} {fs : List Fi} {ta : Option Addr} {nt tc : Nat} {torn : List Int} (h : Ds B w g mb m sz lf wr) (hp : (m.map toFi).Perm fs) (hso : Sorted fs) (hl : fs.length ≤ 256) (hus : usedL fs ≤ 67108864) (hsf : ∀ f ∈ fs, f.sf ≤ f.bs.length)
    (hrow : RowX eI w ta torn) (hnt : nt = torn.length) (htc : nt ≤ tc) (hnm : nt ≤ 9223372036854775807) (hap : ∀ ad, ta = some ad → ¬ FW g mb m ad.block ∧ ad.block < w.heap.size) :
    Calls Tryd.prog 19 #[.pointer (some ⟨g, 0, none⟩), .slice ta nt tc] w fun r w' => r = .returned (.int .i64 0) ∧ ∃ m', (m'.map toFi).Perm (crL torn 0 fs) ∧ Dn B w w' g mb m m' sz (-1) wr := by
  have HM := hidU (made_yes h.at_)
  have q := h.files
  have HSrt := hidU (sorted_names h.mp hp hso hl)
  have HKs := hidU (callsIn_wide.1 (Tryd.maps_Keys_59 (some mb) w))
  have H := hidU h
  have HPm := hidU hp
  have HSF := hidU hsf
  have HRow := hidU hrow
  have HAp := hidU hap
  have HNt := hidU hnt
  have HLf := hidU hl
  have HUs := hidU hus
  obtain ⟨N, hN⟩ : ∃ N, Hid (N = fs.map Fi.nm) := ⟨_, (rfl : _ = fs.map Fi.nm)⟩
  obtain ⟨n, hn⟩ : ∃ n, Hid (n = N.length) := ⟨_, (rfl : _ = N.length)⟩
  have hnf : Hid (n = fs.length) := hidU (by rw [hn.out, hN.out, List.length_map])
  rw [← hN.out] at HSrt
  clear h hp hso hl hus hsf hrow hap hnt
  go_enter Tryd.func19, Tryd.ntmps19
  go_wp2_with (first
    | (go_at_call 33; refine HM.out.mono ?_; rintro _ w1 ⟨rfl, hw⟩; obtain rfl : w = w1 := hw.symm; clear hw)
    | (go_at_call 59; refine HKs.out.mono ?_; rintro _ w1 ⟨rfl, rfl⟩)
    | (go_at_call 58; refine HSrt.out.mono ?_; rintro _ w1 ⟨v, rfl, hO, hb⟩; refine Hid.out ?_))
  refine hidU ?_
  have HB := hidU hb
  obtain ⟨na, nc, rfl⟩ := own_slice hO
  rw [← hn.out] at hO ⊢
  have HNO := hidU hO
  have D1 := hidU (Dn.refl H.out HB.out)
  have hmbw : Hid (mb < w.heap.size) := hidU H.out.mp.lt
  clear hb HSrt HKs q hO
  go_wp2
  go_loopw [1, 18] (fun T j x => ∃ (i kk : Nat) (tai : Option Addr) (m' : FMap), j = .int .i64 (i : Int) ∧ i ≤ n ∧ T = .slice tai (nt - kk) (tc - kk) ∧ kk ≤ nt ∧ Hid (0 < nt - kk → tai = ta.map (·.add kk)) ∧ Hid (kk = min (nx torn 0 (fs.take i)) nt) ∧ Hid ((m'.map toFi).Perm (crL torn 0 (fs.take i) ++ fs.drop i)) ∧ Hid (Dn B w x g mb m m' sz lf wr) ∧ Hid (OwnX eS w.heap.size x (.slice na n nc) N)) (fun _ j _ => n - (intOf j).toNat)
  case atStart =>
    refine ⟨0, 0, ta, m, rfl, by omega, rfl, by omega, ?_, ?_, ?_, D1, HNO⟩
    · show 0 < nt - 0 → ta = ta.map (·.add 0)
      intro _
      cases ta with
      | none => rfl
      | some ad => cases ad; simp [Addr.add]
    · show (0 : Nat) = min (nx torn 0 (fs.take 0)) nt
      simp [nx]
    · show (m.map toFi).Perm _
      simpa [crL] using HPm.out
  case round =>
    obtain ⟨i, kk, tai, m', rfl, hi, rfl, hkk, htai, hkx, hpm, hD, hNO⟩ := hrel
    by_cases hc : i < n
    · obtain ⟨f, hf⟩ : ∃ f, Hid (fs[i]? = some f) := ⟨fs[i]'(by have := hnf.out; omega), hidU (List.getElem?_eq_getElem _)⟩
      have hfm := List.mem_of_getElem? hf.out
      have hNi : Hid (N[i]? = some f.nm) := hidU (by rw [hN.out, List.getElem?_map, hf.out]; rfl)
      have hdrop : Hid (fs.drop i = f :: fs.drop (i + 1)) := hidU (by
        have hlt := (List.getElem?_eq_some_iff.1 hf.out).1
        rw [List.drop_eq_getElem_cons hlt, (List.getElem?_eq_some_iff.1 hf.out).2])
      have htake : Hid (fs.take (i + 1) = fs.take i ++ [f]) := hidU (by rw [List.take_add_one, hf.out]; rfl)
      have hpm2 := hidU (by have := hpm.out; rw [hdrop.out] at this; exact this)
      obtain ⟨v0, hl0⟩ := look_mid hD.out.ds hpm2.out
      obtain ⟨a, n1, c, bs, sf, hd, e9, hn1, hnc1, _, _, _, _⟩ := look_parts hD.out.ds hl0
      have hsf1 : sf ≤ n1 := by
        have := HSF.out f hfm
        injection e9 with e1 e2 e3 e4
        rw [e2, e3, hn1] at this
        exact this
      have hn64 : n1 ≤ 67108864 := by
        have h1 := mem_used hfm
        injection e9 with e1 e2 e3 e4
        rw [e2, hn1] at h1
        have := HUs.out
        omega
      obtain ⟨fnm, fbs, fsf, fhd⟩ := f
      simp only [FM.mk.injEq] at e9
      obtain ⟨rfl, rfl, rfl, rfl⟩ := e9
      obtain ⟨NM, hNM⟩ : ∃ NM, NM = fnm := ⟨_, rfl⟩
      simp only at hl0
      have HL := hidU hl0
      have hs40 : fnm.size ≤ 9223372036854775807 := by have h9 : fnm.size ≤ 40 := hD.out.ds.ns _ (look_mem hl0); omega
      have q1 : ∃ ng no, na = some ⟨ng, no, none⟩ ∧ wr.cell? ⟨ng, no + i, none⟩ = some (.string fnm) := by
        obtain ⟨a2, c2, e2, _, _, _, _, r⟩ := hNO.out.row
        cases e2
        obtain ⟨ng, no, e3, hr⟩ := r.at hNi.out
        refine ⟨ng, no, e3, ?_⟩
        have := hr 0 _ rfl
        rwa [show no + i * eS.n + 0 = no + i from by show no + i * 1 + 0 = _; omega] at this
      obtain ⟨ng, no, rfl, q1⟩ := q1
      have q2 := hD.out.ds.files
      have HPD := hidU hD.out.ds.mp
      have HLO := hidU (fun x => loose_any ⟨.slice a n1 c, fbs, fsf, fhd⟩ n1 c a x rfl (show fsf ≤ _ by omega) (by omega))
      have hw1 : IntKind.i64.wrap ((i : Int) + 1) = (i : Int) + 1 := by rw [IntKind.wrap_i64]; have := hnf.out; have := HLf.out; omega
      clear hNM hl0
      by_cases hlo : fsf < n1
      · have hp1 : ¬ (n1 : Int) - (fsf : Int) = 0 := by omega
        have hlo2 : Hid (fsf < fbs.length) := hidU (by rw [hn1]; exact hlo)
        obtain ⟨L, hL⟩ : ∃ L, L = nt - kk := ⟨_, rfl⟩
        obtain ⟨C, hC⟩ : ∃ C, C = tc - kk := ⟨_, rfl⟩
        rw [← hL, ← hC]
        have HLk := hidU hL
        have HCk := hidU hC
        have HTR := hidU (fun (z : Int) (y : World) (hb : Below wr.heap.size wr y) (t : Nat) (ht : t = fsf + (min (max z 0) ((n1 : Int) - (fsf : Int))).toNat) => tear_p (hD.out.ds.below hb) HL.out hsf1 hn64 z t ht)
        by_cases hL0 : 0 < L
        · have hL1 : (0 : Int) < (L : Int) := by omega
          have hnx : nx torn 0 (fs.take i) = kk := by have := hkx.out; omega
          obtain ⟨y, hy⟩ : ∃ y, Hid (torn[kk]? = some y) := ⟨torn[kk]'(by have := HNt.out; omega), hidU (List.getElem?_eq_getElem _)⟩
          obtain ⟨tg, to, hta, hr⟩ := HRow.out.at hy.out
          have htai2 : tai = some ⟨tg, to + kk, none⟩ := by rw [htai.out (by omega), hta, Option.map_some, add_none]
          obtain ⟨o, ho⟩ : ∃ o, Hid (o = to + kk) := ⟨_, (rfl : _ = to + kk)⟩
          rw [← ho.out] at htai2
          have hcw : w.cell? ⟨tg, o, none⟩ = some (.int .i64 y) := by
            have := hr 0 _ rfl
            rw [ho.out]
            rwa [show to + kk * eI.n + 0 = to + kk from by show to + kk * 1 + 0 = _; omega] at this
          have hap := HAp.out _ hta
          have ty : wr.cell? ⟨tg, o, none⟩ = some (.int .i64 y) := by
            rw [World.cell?_of_block (w := w) (hD.out.chg.block tg hap.2 hap.1)]
            exact hcw
          subst htai2
          have hyk := hy
          clear hr hcw hap hnx
          go_wp2_with (first
            | (refine wpList_look mF rfl (.tmp 25) (.tmp 26) false rfl fnm rfl rfl HPD.out (by unfold maxLen; omega) (.agg #[.slice a n1 c, .int .i64 (fsf : Int), .bool fhd]) (by rw [HL.out]; rfl) ?_)
            | (go_at_call 51; refine (HLO.out _).mono ?_; rintro _ x1 ⟨rfl, hb1⟩; have HB1 := hidU hb1; have ty1 := (hb1.cell (lt_of_cell ty)).trans ty; clear hb1))
          have hsl := fun W => run_slice_1 W (some ⟨tg, o, none⟩) L C (by omega)
          obtain ⟨ta', hta'⟩ : ∃ ta', Hid (ta' = if C = 1 then some ⟨tg, o, none⟩ else (some (⟨tg, o, none⟩ : Addr)).map (·.add 1)) := ⟨_, (rfl : _ = if C = 1 then some ⟨tg, o, none⟩ else (some (⟨tg, o, none⟩ : Addr)).map (·.add 1))⟩
          rw [← hta'.out] at hsl
          have HSl := hidU hsl
          clear hsl ty q1 q2
          have hS0 : Below x1.heap.size x1 x1.drew := Below.drew (Below.refl _ _)
          refine wp_region_held_drew (S := fun xS => Below x1.heap.size x1 xS) (by kernel_rfl) hS0 ?_
          obtain ⟨x0, hx0⟩ : ∃ x, x = x1.drew := ⟨_, rfl⟩
          rw [← hx0] at hS0  ⊢
          clear hx0
          intro _
          refine wpAnyH_take (i := 0) (oi := { dst := some 33, op := .move (.tmp 1), type := _, pos := _, after := _, guard := none }) (v := .slice (some ⟨tg, o, none⟩) L C) rfl (by kernel_rfl) (by kernel_rfl) (by kernel_rfl) (fun _ _ _ h => h) (Or.inl ⟨by rfl, ?_⟩) hS0 ?_
          · intro wS hSw
            go_simp
          simp only [Act.put, List.setIfInBounds_toArray, List.set_cons_zero, List.set_cons_succ]
          refine wpAnyH_take (i := 1) (oi := { dst := some 34, op := .indexAddr 52 (.tmp 33) (.const (.int .i64 0)), type := _, pos := _, after := _, guard := none }) (v := .pointer (some ⟨tg, o, none⟩)) rfl (by kernel_rfl) (by kernel_rfl) (by kernel_rfl) (fun _ _ _ h => h) (Or.inl ⟨by rfl, ?_⟩) hS0 ?_
          · intro wS hSw
            go_simp
          simp only [Act.put, List.setIfInBounds_toArray, List.set_cons_zero, List.set_cons_succ]
          refine wpAnyH_take (i := 2) (oi := { dst := some 35, op := .load 3 (.tmp 34), type := _, pos := _, after := _, guard := none }) (v := .int .i64 y) rfl (by kernel_rfl) (by kernel_rfl) (by kernel_rfl) (fun _ _ _ h => h) (Or.inl ⟨by rfl, ?_⟩) hS0 ?_
          · intro wS hSw
            have z0 := (hSw.cell (lt_of_cell ty1)).trans ty1
            go_simp
          simp only [Act.put, List.setIfInBounds_toArray, List.set_cons_zero, List.set_cons_succ]
          refine wpAnyH_take (i := 3) (oi := { dst := some 36, op := .move (.tmp 1), type := _, pos := _, after := _, guard := none }) (v := .slice (some ⟨tg, o, none⟩) L C) rfl (by kernel_rfl) (by kernel_rfl) (by kernel_rfl) (fun _ _ _ h => h) (Or.inl ⟨by rfl, ?_⟩) hS0 ?_
          · intro wS hSw
            go_simp
          simp only [Act.put, List.setIfInBounds_toArray, List.set_cons_zero, List.set_cons_succ]
          refine wpAnyH_take (i := 4) (oi := { dst := some 37, op := .slice 52 (.tmp 36) (some (.const (.int .i64 1))) none none, type := _, pos := _, after := _, guard := none }) (v := .slice ta' (L - 1) (C - 1)) rfl (by kernel_rfl) (by kernel_rfl) (by kernel_rfl) (fun _ _ _ h => h) (Or.inl ⟨by rfl, ?_⟩) hS0 ?_
          · intro wS hSw
            go_simp
            rw [if_pos (by omega)]
            have h9 := hta'.out
            simp only [Option.map_some, add_none] at h9
            rw [h9, HCk.out]
          simp only [Act.put, List.setIfInBounds_toArray, List.set_cons_zero, List.set_cons_succ]
          refine wpAnyH_take (i := 5) (oi := { dst := some 7, op := .assign (.tmp 35), type := _, pos := _, after := _, guard := none }) (v := .int .i64 y) rfl (by kernel_rfl) (by kernel_rfl) (by kernel_rfl) (fun _ _ _ h => h) (Or.inl ⟨by rfl, ?_⟩) hS0 ?_
          · intro wS hSw
            go_simp
          simp only [Act.put, List.setIfInBounds_toArray, List.set_cons_zero, List.set_cons_succ]
          refine wpAnyH_take (i := 6) (oi := { dst := some 1, op := .assign (.tmp 37), type := _, pos := _, after := _, guard := none }) (v := .slice ta' (L - 1) (C - 1)) rfl (by kernel_rfl) (by kernel_rfl) (by kernel_rfl) (fun _ _ _ h => h) (Or.inl ⟨by rfl, ?_⟩) hS0 ?_
          · intro wS hSw
            go_simp
          simp only [Act.put, List.setIfInBounds_toArray, List.set_cons_zero, List.set_cons_succ]
          refine wpAnyH_done (by kernel_rfl) ?_ _
          have HBx := hidU (HB1.out.trans (hS0.mono HB1.out.size))
          clear hS0 ty1 HSl hL hC hL1
          go_wp2_with (go_at_call 60; refine (HTR.out y _ HBx.out _ rfl).mono ?_; rintro _ x2 ⟨rfl, hT1, hT2⟩; refine Hid.out ?_)
          refine hidU ?_
          have hkp : Hid (fsf + (min (max y 0) ((n1 : Int) - (fsf : Int))).toNat = fsf + kpN torn (nx torn 0 (fs.take i)) (fbs.length - fsf)) := hidU (by
            have h9 : nx torn 0 (fs.take i) = kk := by have := hkx.out; have := HLk.out; omega
            unfold kpN
            rw [h9, hy.out]
            simp only
            have := hlo2.out
            rw [show ((fbs.length - fsf : Nat) : Int) = (n1 : Int) - (fsf : Int) by omega])
          obtain ⟨m2, hW2, hP2, hk2⟩ := crash_step (torn := torn) (k := nx torn 0 (fs.take i)) (t := fsf + (min (max y 0) ((n1 : Int) - (fsf : Int))).toNat) (hD.out.ds.below HBx.out) hpm2.out hlo2.out hkp.out hT1 hT2
          have D2 := hidU ((hD.out.below HBx.out).wrt hW2)
          have N2 := hidU (Wrt.names (hD.out.ds.below HBx.out) hW2 (hNO.out.below HBx.out) hmbw.out)
          have P2 := hidU (by
            obtain ⟨c1, c2⟩ := crL_snoc torn (fs.take i) 0 ⟨fnm, fbs, fsf, fhd⟩
            rw [← List.append_assoc, ← c1, ← htake.out] at hP2
            exact hP2)
          have K2 : Hid (kk + 1 = min (nx torn 0 (fs.take (i + 1))) nt) := hidU (by
            rw [htake.out, (crL_snoc torn (fs.take i) 0 ⟨fnm, fbs, fsf, fhd⟩).2, hk2]
            have := hkx.out; have := HLk.out; omega)
          have T2 : Hid (0 < nt - (kk + 1) → ta' = ta.map (·.add (kk + 1))) := hidU (fun h9 => by
            rw [hta'.out, if_neg (by have := HLk.out; have := HCk.out; omega), hta, Option.map_some, Option.map_some, add_none, add_none, ho.out]
            rfl)
          clear hT1 hT2 hW2 hP2 hk2
          go_wp2
          go_roundw
          · exact ⟨i + 1, kk + 1, ta', m2, by go_num, by omega, by rw [HLk.out, HCk.out, Nat.sub_sub, Nat.sub_sub], by have := HLk.out; omega, T2, K2, P2, D2, N2⟩
          · simp [intOf]; omega


        · have hL1 : ¬ (0 : Int) < (L : Int) := by omega
          go_wp2_with (first
            | (refine wpList_look mF rfl (.tmp 25) (.tmp 26) false rfl fnm rfl rfl HPD.out (by unfold maxLen; omega) (.agg #[.slice a n1 c, .int .i64 (fsf : Int), .bool fhd]) (by rw [HL.out]; rfl) ?_)
            | (go_at_call 51; refine (HLO.out _).mono ?_; rintro _ x1 ⟨rfl, hb1⟩; have HB1 := hidU hb1; clear hb1)
            | (go_at_call 60; refine (HTR.out 0 _ HB1.out fsf (by omega)).mono ?_; rintro _ x2 ⟨rfl, hT1, hT2⟩; refine Hid.out ?_))
          refine hidU ?_
          have hk0 : Hid (torn[nx torn 0 (fs.take i)]? = none) := hidU (by
            rw [List.getElem?_eq_none]
            have := hkx.out; have := HNt.out; have := HLk.out; omega)
          obtain ⟨m2, hW2, hP2, hk2⟩ := crash_step (torn := torn) (k := nx torn 0 (fs.take i)) (t := fsf) (hD.out.ds.below HB1.out) hpm2.out hlo2.out (by unfold kpN; rw [hk0.out]; rfl) hT1 hT2
          have D2 := hidU ((hD.out.below HB1.out).wrt hW2)
          have N2 := hidU (Wrt.names (hD.out.ds.below HB1.out) hW2 (hNO.out.below HB1.out) hmbw.out)
          have P2 := hidU (by
            obtain ⟨c1, c2⟩ := crL_snoc torn (fs.take i) 0 ⟨fnm, fbs, fsf, fhd⟩
            rw [← List.append_assoc, ← c1, ← htake.out] at hP2
            exact hP2)
          have K2 : Hid (kk = min (nx torn 0 (fs.take (i + 1))) nt) := hidU (by
            rw [htake.out, (crL_snoc torn (fs.take i) 0 ⟨fnm, fbs, fsf, fhd⟩).2, hk2]
            have := hkx.out; have := HLk.out; omega)
          clear hT1 hT2 hW2 hP2 hk2 q1 q2 hL hC hL1
          go_wp2
          go_roundw
          · exact ⟨i + 1, kk, tai, m2, by go_num, by omega, by first | rfl | rw [HLk.out, HCk.out], hkk, htai, K2, P2, D2, N2⟩
          · simp [intOf]; omega
      · have hp1 : (n1 : Int) - (fsf : Int) = 0 := by omega
        have hlo2 : Hid (¬ fsf < fbs.length) := hidU (by rw [hn1]; exact hlo)
        go_wp2_with (first
          | (refine wpList_look mF rfl (.tmp 25) (.tmp 26) false rfl fnm rfl rfl HPD.out (by unfold maxLen; omega) (.agg #[.slice a n1 c, .int .i64 (fsf : Int), .bool fhd]) (by rw [HL.out]; rfl) ?_)
          | (go_at_call 51; refine (HLO.out _).mono ?_; rintro _ x1 ⟨rfl, hb1⟩; have HB1 := hidU hb1; clear hb1))
        have c12 := crL_snoc torn (fs.take i) 0 ⟨fnm, fbs, fsf, fhd⟩
        have hone : crOne torn (nx torn 0 (fs.take i)) ⟨fnm, fbs, fsf, fhd⟩ = (⟨fnm, fbs, fsf, fhd⟩, nx torn 0 (fs.take i)) := by
          unfold crOne
          rw [if_neg hlo2.out]
        have hcK : crK torn (nx torn 0 (fs.take i)) ⟨fnm, fbs, fsf, fhd⟩ = true := by
          unfold crK
          rw [decide_eq_true hlo2.out, Bool.true_or]
        rw [hone, hcK, if_pos rfl] at c12
        go_roundw
        · refine ⟨i + 1, kk, tai, m', by go_num, by omega, rfl, hkk, htai, hidU ?_, hidU ?_, hidU (hD.out.below HB1.out), hidU (hNO.out.below HB1.out)⟩
          · rw [htake.out, c12.2]; exact hkx.out
          · rw [htake.out, c12.1, List.append_assoc]
            exact hpm2.out
        · simp [intOf]; omega
    · have hin : Hid (i = n) := hidU (by omega)
      have hA := hD.out.ds.at_
      go_wp2_with (refine wpList_store1 rfl 3 (.tmp 45) (.const (.int .i64 (-1))) rfl g 3 (.int .i64 (-1)) rfl rfl 35 _ hA (by simp) i3 rfl rfl ?_; intro x2 hA2 hb2 hs2; simp only [List.set] at hA2; refine Hid.out ?_)
      refine hidU ?_
      have HA2 := hidU hA2
      have HB2 := hidU hb2
      clear hA hA2 hb2 hs2
      go_wp2
      go_ret
      refine ⟨rfl, m', ?_, ?_⟩
      · have := hpm.out
        rw [hin.out, hnf.out, List.take_length, List.drop_length, List.append_nil] at this
        exact this
      · have W := (Wrt.same hD.out.ds (Below.refl _ wr)).dn hD.out.ds HB2.out HA2.out
        refine ⟨W.ds, hD.out.chg.more W.chg fun k hk e => ?_, fun k hk => ?_⟩
        · exact (hD.out.new k e).resolve_right (by omega)
        · rcases W.new k hk with e | e
          · exact hD.out.new k e
          · exact .inr (Nat.le_trans hD.out.chg.size e)
end Go.Proofs.YtcmkjjlchljffaaDoor

/- The landed disk: its face. -/
namespace Go.Proofs.YtcmkjjlchljffaaDoor
open Go.RowKit
set_option linter.unusedVariables false

theorem Ds.less {B B' g mb sz wr : Nat} {lf : Int} {w : World} {m : FMap} (h : Ds B w g mb m sz lf wr) (hb : B' ≤ B) : Ds B' w g mb m sz lf wr :=
  ⟨h.at_, h.mp, fun p hp => (h.own p hp).less hb, h.apart, Nat.le_trans hb h.bg, Nat.le_trans hb h.bm, h.ns⟩
section
variable {B g mb : Nat} {w w' : World} {W F : Nat → Prop} {m : FMap} {d d' : Dk} {nm to : ByteArray} {r : Ending}
theorem CDv.sum (h : CDv B w g mb W F m d) : sumM m = usedL d.fs := by
  have h1 := (h.fs.map fun f : Fi => f.bs.length).sum_nat
  rw [List.map_map] at h1
  exact h1
theorem CDv.hsf (h : CDv B w g mb W F m d) (hd : Fine d) : ∀ p ∈ m, p.2.sf ≤ p.2.bs.length := fun p hp => hd.sf (toFi p) (h.fs.mem_iff.1 (List.mem_map.2 ⟨p, hp, rfl⟩))
theorem CDv.len (h : CDv B w g mb W F m d) : m.length = d.fs.length := by have := h.fs.length_eq; simpa using this
theorem CDv.sums (h : CDv B w g mb W F m d) (hd : Fine d) : sumM m ≤ 67108864 := by rw [h.sum]; exact Nat.le_trans hd.us hd.sz
theorem CDv.of (h : Ds B w g mb m d.sz d.lf d.wr) (hp : (m.map toFi).Perm d.fs) : CDv B w g mb (FW g mb m) (FW g mb m) m d := ⟨h, hp, fun _ q => q, fun k q => ⟨q, h.base k q⟩, h.lt⟩
theorem CDv.moves {m' : FMap} {sz wr : Nat} {lf : Int} (h : CDv B w g mb W F m d) (k : Dn B w w' g mb m m' sz lf wr) : Moves w W F w' (FW g mb m') (FW g mb m') :=
  ⟨k.chg.mono fun i _ e => h.sub i e, fun i e => (k.new i e).imp (h.sub i) id, fun i e => (k.new i e).imp (fun q => (h.wf i (h.sub i q)).1) id⟩
theorem post_no {P : FMap → Prop} {e : Int} (h : CDv B w g mb W F m d) (hO : OpP B w g mb m d.sz d.lf d.wr e P r w') (he : e ≠ 0) : PostC CDp B g W F w (d, e) r w' := by
  obtain ⟨h1, h2, _⟩ := hO
  have hb := h2 he
  exact ⟨h1, W, F, ⟨mb, m, h.same (fun k hk => hb.block k (h.lt k hk)) hb.size⟩, .of_below hb⟩
theorem post_yes {P : FMap → Prop} (h : CDv B w g mb W F m d) (hO : OpP B w g mb m d.sz d.lf d.wr 0 P r w') (e1 : d'.sz = d.sz) (e2 : d'.lf = lfD d.lf) (e3 : d'.wr = d.wr + 1) (hp : ∀ m', P m' → (m'.map toFi).Perm d'.fs) : PostC CDp B g W F w (d', 0) r w' := by
  obtain ⟨h1, _, h3⟩ := hO
  obtain ⟨m', hP, hD⟩ := h3 rfl
  refine ⟨h1, _, _, ⟨mb, m', CDv.of ?_ (hp m' hP)⟩, h.moves hD⟩
  have := hD.ds
  rwa [← e1, ← e2, ← e3] at this
theorem CDv.names (h : CDv B w g mb W F m d) : (m.map (·.1)).Nodup := h.ds.mp.nodup
theorem CDv.look_some {f : FM} (h : CDv B w g mb W F m d) (hl : lookM m nm = some f) : d.fs.find? (isN nm) = some (toFi (nm, f)) := by rw [h.find, hl]; rfl
theorem CDv.look_none (h : CDv B w g mb W F m d) (hl : lookM m nm = none) : d.fs.find? (isN nm) = none := by rw [h.find, hl]; rfl
theorem set_perm {f g' : FM} {u : Fi → Fi} (h : CDv B w g mb W F m d) (hl : lookM m nm = some f) (hu : u (toFi (nm, f)) = toFi (nm, g')) : ((updM m nm g').map toFi).Perm (setL nm u d.fs) := by
  refine (upd_fs h.fs h.names).trans ?_
  rw [← hu]
  exact (setL_perm h.nodup (h.look_some hl)).symm
end
section
variable {B g mb : Nat} {w : World} {W F : Nat → Prop} {m : FMap} {d : Dk} {nm to : ByteArray}
theorem append_f {ba : Option Addr} {lb bc : Nat} {b : List UInt8} (hc : CDv B w g mb W F m d) (hd : Fine d) (hs : nm.size ≤ 9223372036854775807) (hrow : Row w ba b) (hlb : lb = b.length) (hbc : lb ≤ bc) (hnil : ba = none → bc = 0) :
    Calls Tryd.prog 10 #[ptr g, .string nm, .slice ba lb bc] w (PostC CDp B g W F w (apO d nm b)) := by
  refine (append_p hc.ds (hc.hsf hd) (hc.sums hd) hd.wr hd.lf hd.lg hs hd.sz hrow hlb.symm hbc hnil).mono fun r w' hO => ?_
  unfold apO
  cases hq : nmOk nm with
  | false =>
    rw [if_pos rfl]
    rw [hq, if_pos rfl] at hO
    exact post_no hc hO (by decide)
  | true =>
    rw [if_neg (by simp)]
    rw [hq, if_neg (by simp)] at hO
    have hroom : roomB m nm d.sz lb = false ↔ ((d.fs.find? (isN nm) = none ∧ 256 ≤ d.fs.length) ∨ d.sz < usedL d.fs + b.length) := by
      unfold roomB
      rw [hc.sum, hc.len, hlb]
      have h1 : (lookM m nm).isSome = (d.fs.find? (isN nm)).isSome := by rw [hc.find]; simp
      rw [h1]
      cases hf : d.fs.find? (isN nm) with
      | none => simp; omega
      | some f => simp; omega
    by_cases hr : roomB m nm d.sz lb = false
    · rw [if_pos (hroom.1 hr)]
      rw [if_pos hr] at hO
      exact post_no hc hO (by decide)
    · rw [if_neg fun q => hr (hroom.2 q)]
      rw [if_neg hr] at hO
      by_cases hl : d.lf = 0
      · rw [if_pos hl]
        rw [pwE, if_pos hl] at hO
        exact post_no hc hO (by decide)
      · rw [if_neg hl]
        rw [pwE, if_neg hl] at hO
        refine post_yes hc hO rfl rfl rfl ?_
        rintro m' ⟨v, rfl⟩
        show (_ : List Fi).Perm (setL nm _ (hasL nm d.fs))
        cases hk : lookM m nm with
        | some f =>
          have h1 := hc.look_some hk
          have h2 : hasL nm d.fs = d.fs := by unfold hasL; rw [h1]; rfl
          rw [h2, file_some hk]
          exact set_perm hc hk rfl
        | none =>
          have h1 := hc.look_none hk
          have h2 : hasL nm d.fs = insL (fil0 nm) d.fs := by unfold hasL; rw [h1]; rfl
          rw [h2, file_none hk]
          refine (upd_fs hc.fs hc.names).trans ?_
          have hip := insL_perm (fil0 nm) d.fs
          have hnd : ((insL (fil0 nm) d.fs).map Fi.nm).Nodup := by
            refine (hip.map Fi.nm).nodup_iff.2 ?_
            rw [List.map_cons, List.nodup_cons]
            refine ⟨fun q => ?_, hc.nodup⟩
            obtain ⟨f, hf, e⟩ := List.mem_map.1 q
            have := List.find?_eq_none.1 h1 f hf
            exact this (by unfold isN; rw [e]; simp [fil0])
          refine (List.Perm.trans ?_ (setL_perm (u := fun f => { f with bs := f.bs ++ b }) hnd (insL_find h1)).symm)
          refine List.Perm.cons _ ?_
          have := (hip.filter fun x => !isN nm x).symm
          rwa [List.filter_cons_of_neg (by rw [show isN nm (fil0 nm) = true from isN_self ..]; simp)] at this
theorem sync_f (hc : CDv B w g mb W F m d) (hd : Fine d) (hs : nm.size ≤ 9223372036854775807) : Calls Tryd.prog 15 #[ptr g, .string nm] w (PostC CDp B g W F w (syO d nm)) := by
  refine (sync_p hc.ds (hc.hsf hd) (hc.sums hd) hd.wr hd.lf hd.lg hs).mono fun r w' hO => ?_
  unfold syO
  cases hk : lookM m nm with
  | none =>
    rw [hc.look_none hk, if_pos Option.isNone_none]
    rw [hk, if_neg (by simp)] at hO
    exact post_no hc hO (by decide)
  | some f =>
    rw [hc.look_some hk, if_neg (by simp)]
    rw [hk, if_pos Option.isSome_some] at hO
    by_cases hl : d.lf = 0
    · rw [if_pos hl]
      rw [pwE, if_pos hl] at hO
      exact post_no hc hO (by decide)
    · rw [if_neg hl]
      rw [pwE, if_neg hl] at hO
      refine post_yes hc hO rfl rfl rfl ?_
      rintro m' rfl
      rw [file_some hk]
      exact set_perm hc hk rfl
theorem remove_f (hc : CDv B w g mb W F m d) (hd : Fine d) (hs : nm.size ≤ 9223372036854775807) : Calls Tryd.prog 17 #[ptr g, .string nm] w (PostC CDp B g W F w (rmO d nm)) := by
  refine (remove_p hc.ds (hc.hsf hd) (hc.sums hd) hd.wr hd.lf hd.lg hs).mono fun r w' hO => ?_
  unfold rmO
  cases hk : lookM m nm with
  | none =>
    rw [hc.look_none hk, if_pos Option.isNone_none]
    rw [hk, if_neg (by simp)] at hO
    exact post_no hc hO (by decide)
  | some f =>
    rw [hc.look_some hk, if_neg (by simp)]
    rw [hk, if_pos Option.isSome_some] at hO
    by_cases hl : d.lf = 0
    · rw [if_pos hl]
      rw [pwE, if_pos hl] at hO
      exact post_no hc hO (by decide)
    · rw [if_neg hl]
      rw [pwE, if_neg hl] at hO
      refine post_yes hc hO rfl rfl rfl ?_
      rintro m' rfl
      rw [del_fi]
      exact hc.fs.filter _
theorem cut_f {z : Int} (hc : CDv B w g mb W F m d) (hd : Fine d) (hs : nm.size ≤ 9223372036854775807) : Calls Tryd.prog 14 #[ptr g, .string nm, .int .i64 z] w (PostC CDp B g W F w (ctO d nm z)) := by
  refine (cut_p hc.ds (hc.hsf hd) (hc.sums hd) hd.wr hd.lf hd.lg hs).mono fun r w' hO => ?_
  unfold ctO
  cases hk : lookM m nm with
  | none =>
    rw [hc.look_none hk]
    rw [hk, if_neg (by simp)] at hO
    exact post_no hc hO (by decide)
  | some f =>
    have hsf : f.sf ≤ f.bs.length := hc.hsf hd _ (look_mem hk)
    rw [hc.look_some hk]
    rw [file_some hk, hk, if_pos Option.isSome_some] at hO
    simp only
    by_cases h1 : z < 0 ∨ (f.bs.length : Int) < z
    · rw [if_pos (by exact h1)]
      rw [if_pos h1] at hO
      exact post_no hc hO (by decide)
    · rw [if_neg (by exact h1)]
      rw [if_neg h1] at hO
      by_cases h2 : f.sf < f.bs.length
      · rw [if_pos (by exact h2)]
        rw [if_pos h2] at hO
        exact post_no hc hO (by decide)
      · rw [if_neg (by exact h2)]
        rw [if_neg h2] at hO
        by_cases hl : d.lf = 0
        · rw [if_pos hl]
          rw [pwE, if_pos hl] at hO
          exact post_no hc hO (by decide)
        · rw [if_neg hl]
          rw [pwE, if_neg hl] at hO
          refine post_yes hc hO rfl rfl rfl ?_
          rintro m' ⟨v, rfl⟩
          rw [show min f.sf z.toNat = z.toNat by omega]
          exact set_perm hc hk rfl
theorem rename_f (hc : CDv B w g mb W F m d) (hd : Fine d) (hs : nm.size ≤ 9223372036854775807) (hs2 : to.size ≤ 9223372036854775807) : Calls Tryd.prog 16 #[ptr g, .string nm, .string to] w (PostC CDp B g W F w (rnO d nm to)) := by
  refine (rename_p hc.ds (hc.hsf hd) (hc.sums hd) hd.wr hd.lf hd.lg hs hs2).mono fun r w' hO => ?_
  unfold rnO
  cases hq : nmOk to with
  | false =>
    rw [if_pos rfl]
    rw [hq, if_pos rfl] at hO
    exact post_no hc hO (by decide)
  | true =>
    rw [if_neg (by simp)]
    rw [hq, if_neg (by simp)] at hO
    cases hk : lookM m nm with
    | none =>
      rw [hc.look_none hk]
      rw [hk, if_neg (by simp)] at hO
      exact post_no hc hO (by decide)
    | some f =>
      rw [hc.look_some hk]
      rw [file_some hk, hk, if_pos Option.isSome_some] at hO
      simp only
      by_cases h2 : f.sf < f.bs.length
      · rw [if_pos (by exact h2)]
        rw [if_pos h2] at hO
        exact post_no hc hO (by decide)
      · rw [if_neg (by exact h2)]
        rw [if_neg h2] at hO
        by_cases hl : d.lf = 0
        · rw [if_pos hl]
          rw [pwE, if_pos hl] at hO
          exact post_no hc hO (by decide)
        · rw [if_neg hl]
          rw [pwE, if_neg hl] at hO
          by_cases he : nm = to
          · subst he
            rw [if_pos rfl]
            refine post_yes hc hO rfl rfl rfl ?_
            intro m' hm
            rw [if_pos rfl] at hm
            rw [hm]
            exact hc.fs
          · rw [if_neg fun q => he (toL_inj q)]
            refine post_yes hc hO rfl rfl rfl ?_
            intro m' hm
            rw [if_neg he] at hm
            rw [hm, del_fi]
            have h1 := (upd_fs (nm := to) (g := { f with hd := true }) hc.fs hc.names).filter fun x => !isN nm x
            rw [List.filter_cons_of_pos (by rw [(isN_inj (a := nm) (b := to) rfl).2 he]; rfl)] at h1
            refine h1.trans ?_
            refine (List.Perm.trans ?_ (insL_perm _ _).symm)
            refine List.Perm.cons _ (List.Perm.of_eq ?_)
            show (d.fs.filter _).filter _ = (d.fs.filter _).filter _
            rw [List.filter_filter, List.filter_filter]
            exact List.filter_congr fun x _ => Bool.and_comm _ _
theorem stop_f {z : Int} (hc : CDv B w g mb W F m d) : Calls Tryd.prog 18 #[ptr g, .int .i64 z] w (PostC CDp B g W F w (stD d z, stZ z)) := by
  refine (stop_p z hc.ds).mono ?_
  rintro r w' ⟨rfl, h1, h2⟩
  have hdn : Dn B w w' g mb m m d.sz (if z < 0 then d.lf else if d.lf = 0 then 0 else z) d.wr := ⟨h1, Chg.of_but h2 (.inl rfl), fun k hk => .inl hk⟩
  refine ⟨rfl, _, _, ⟨mb, m, CDv.of ?_ ?_⟩, hc.moves hdn⟩
  · unfold stD
    by_cases hz : z < 0
    · rw [if_pos hz]
      rw [if_pos hz] at h1
      exact h1
    · rw [if_neg hz]
      rw [if_neg hz] at h1
      exact h1
  · unfold stD
    split <;> exact hc.fs
theorem crash_f {ta : Option Addr} {nt tc : Nat} {torn : List Int} (hc : CDv B w g mb W F m d) (hd : Fine d) (hso : Sorted d.fs) (hrow : RowX eI w ta torn) (hnt : nt = torn.length) (htc : nt ≤ tc) (hnm : nt ≤ 9223372036854775807) (hap : ∀ ad, ta = some ad → ¬ W ad.block ∧ ad.block < w.heap.size) :
    Calls Tryd.prog 19 #[ptr g, .slice ta nt tc] w (PostC CDp B g W F w (crD d torn, 0)) := by
  refine (crash_p hc.ds hc.fs hso hd.ln (Nat.le_trans hd.us hd.sz) hd.sf hrow hnt htc hnm fun ad ha => ⟨fun q => (hap ad ha).1 (hc.sub _ q), (hap ad ha).2⟩).mono ?_
  rintro r w' ⟨rfl, m', hp, hD⟩
  exact ⟨rfl, _, _, ⟨mb, m', CDv.of hD.ds hp⟩, hc.moves hD⟩
end
theorem face_weak : Face False CDp where
  newBad := fun {n w} h => new_bad n w h
  newOk := fun {n w} B h1 h2 hB => by
    refine (new_ok n w h1 h2).mono ?_
    rintro r w' ⟨g, mb, rfl, hD, hb⟩
    exact ⟨g, _, _, rfl, ⟨mb, [], CDv.of (hD.less hB) (List.Perm.refl _)⟩, hb, fun k hk => hD.base k hk⟩
  same := fun {B w w' g W F d} ⟨mb, m, h⟩ h1 h2 => ⟨mb, m, h.same h1 h2⟩
  lt := fun {B w g W F d} ⟨mb, m, h⟩ => h.lt
  wf := fun {B w g W F d} ⟨mb, m, h⟩ => h.wf
  names := fun {B w g W F d} ⟨mb, m, h⟩ hd hso => by
    refine (names_p h.ds h.fs hso hd.ln).mono ?_
    rintro r w' ⟨v, rfl, hO, hb⟩
    exact ⟨v, rfl, .inr ⟨hO, fun hu => hu.elim⟩, hb⟩
  readNo := fun {B w g W F d nm} ⟨mb, m, h⟩ hd hs hf => read_none h.ds (by
    rw [h.find] at hf
    exact Option.map_eq_none_iff.1 hf) hs
  readYes := fun {B w g W F d nm f} ⟨mb, m, h⟩ hd hs hf => by
    rw [h.find] at hf
    obtain ⟨x, hx, rfl⟩ := Option.map_eq_some_iff.1 hf
    refine (read_some h.ds hx (Nat.le_trans (sum_mem (look_mem hx)) (h.sums hd)) hs).mono ?_
    rintro r w' ⟨v, rfl, hO, hb⟩
    exact ⟨v, rfl, .inr ⟨hO, fun hu => hu.elim⟩, hb⟩
  used := fun {B w g W F d} ⟨mb, m, h⟩ hd => by
    have := used_p h.ds (h.sums hd)
    rwa [h.sum] at this
  size := fun {B w g W F d} ⟨mb, m, h⟩ => (size_p h.ds).mono (by rintro r w' ⟨rfl, rfl⟩; exact ⟨rfl, Below.refl _ _⟩)
  loose := fun {B w g W F d nm} ⟨mb, m, h⟩ hd hs => by
    have := loose_p h.ds hs fun p hp => by
      have h1 := h.hsf hd p hp
      have h2 := sum_mem hp
      have h3 := h.sums hd
      omega
    rwa [show lsM m nm = lsD d.fs nm by unfold lsM lsD; rw [h.find]; cases lookM m nm <;> rfl] at this
  stopped := fun {B w g W F d} ⟨mb, m, h⟩ => (stopped_p h.ds).mono (by rintro r w' ⟨rfl, rfl⟩; exact ⟨rfl, Below.refl _ _⟩)
  writes := fun {B w g W F d} ⟨mb, m, h⟩ => (writes_p h.ds).mono (by rintro r w' ⟨rfl, rfl⟩; exact ⟨rfl, Below.refl _ _⟩)
  append := fun {B w g W F d nm ba lb bc b} ⟨mb, m, h⟩ hd _ _ hs hr h1 h2 h3 _ _ => append_f h hd hs hr h1 h2 h3
  cut := fun {B w g W F d nm z} ⟨mb, m, h⟩ hd _ _ hs => cut_f h hd hs
  sync := fun {B w g W F d nm} ⟨mb, m, h⟩ hd _ _ hs => sync_f h hd hs
  rename := fun {B w g W F d nm to} ⟨mb, m, h⟩ hd _ _ hs hs2 => rename_f h hd hs hs2
  remove := fun {B w g W F d nm} ⟨mb, m, h⟩ hd _ _ hs => remove_f h hd hs
  stop := fun {B w g W F d z} ⟨mb, m, h⟩ _ => stop_f h
  crash := fun {B w g W F d ta nt tc torn} ⟨mb, m, h⟩ hd hso _ hr h1 h2 h3 h4 => crash_f h hd hso hr h1 h2 h3 h4
  clone := fun {B w g W F d} ⟨mb, m, h⟩ hd hB => by
    refine (clone_p h.ds (h.hsf hd) (h.sums hd)).mono ?_
    rintro r w' ⟨gc, mc, m', rfl, hD, hp, hb⟩
    exact ⟨gc, _, _, rfl, ⟨mc, m', CDv.of (hD.less hB) (hp.trans h.fs)⟩, hb, fun k hk => hD.base k hk, fun k hk => .inr (hD.base k hk)⟩
end Go.Proofs.YtcmkjjlchljffaaDoor

/- append, and what stands behind the new length. -/
namespace Go.Proofs.YtcmkjjlchljffaaDoor
open Go.RowKit
set_option linter.unusedVariables false

theorem zeroCells_mem {z : Array Value} {n : Nat} {u : Value} (h : u ∈ (Builtin.zeroCells z n).toList) : u ∈ z.toList := by
  unfold Builtin.zeroCells at h
  rw [Array.toList_map] at h
  obtain ⟨i, hi, rfl⟩ := List.mem_map.1 h
  have hi' : i < n * z.size := by simpa using hi
  have hz : 0 < z.size := by
    rcases Nat.eq_zero_or_pos z.size with q | q
    · rw [q] at hi'; omega
    · exact q
  have hm : i % z.size < z.size := Nat.mod_lt _ hz
  rw [getElem!_pos z (i % z.size) hm]
  exact Array.mem_toList_iff.2 (Array.getElem_mem hm)
theorem tail_mem {xs : Array Value} {zs : Array Value} {o : Nat} {u : Value} (h : (xs ++ zs)[o]? = some u) (ho : xs.size ≤ o) : u ∈ zs.toList := by
  rw [Array.getElem?_append_right ho] at h
  exact Array.mem_toList_iff.2 (Array.mem_of_getElem? h)
section
variable {P : Program} (w : World)
theorem run_append_rest (t ty : TypeId) (base : Nat) (e : TypeId) (i : TypeInfo) (z : Value) (size bytes : Nat) (ht : P.underlying t = some (.slice e)) (hi : P.info? e = some i) (hz : i.zero = some z)
    (hsize : i.size = size) (hby : i.bytes = bytes) (hzs : z.cells.size = size) (hsz : 0 < size)
    (v : Value) (n : Nat) (xs : List Value) (hown : w.ownsRow base e size v n xs)
    (ad : Addr) (m c : Nat) (news : List Value) (hl : news.length = m * size) (hnews : ∀ j u, news[j]? = some u → w.cell? (ad.add j) = some u) (h1 : ∀ u ∈ news, u.oneCell' = true)
    (hm : 0 < m) (h63 : n + m ≤ maxLen) (hbytes : (n + m) * bytes ≤ 140737488355328) (hbase : base ≤ w.heap.size)
    (R : Value → Prop) (hR : ∀ k, v.ownBlock = some k → ∀ o u, n * size ≤ o → w.cell? ⟨k, o, none⟩ = some u → R u) (hZ : ∀ u ∈ z.cells.toList, R u) :
    ∃ g cap w', (Builtin.append_ #[t, t] ty #[v, .slice (some ad) m c]).run P w = .ok (.slice (some ⟨g, 0, none⟩) (n + m) cap) w' ∧
      w'.ownsRow base e size (.slice (some ⟨g, 0, none⟩) (n + m) cap) (n + m) (xs ++ news) ∧ w.grownBy w' v.ownBlock ∧ (v.ownBlock = some g ∨ g = w.heap.size) ∧ g < w'.heap.size ∧
      ∀ o u, (n + m) * size ≤ o → w'.cell? ⟨g, o, none⟩ = some u → R u := by
  obtain ⟨g, cap, w', hr, h2, h3, h4, h5⟩ := run_append_lies (P := P) w t ty base e i z size bytes ht hi hz hsize hby hzs hsz v n xs hown ad m c news hl hnews h1 hm h63 hbytes hbase w.heap.size rfl
  refine ⟨g, cap, w', hr, h2, h3, h4, h5, fun o u ho hu => ?_⟩
  have hsmall : n + m ≤ 9223372036854775807 := by simp only [maxLen] at h63; omega
  subst hsize
  subst hby
  rcases hown.2 with ⟨rfl, rfl⟩ | ⟨g0, cap0, cur, rfl, hbg, hg, hnc, hcm, hcs, htake⟩
  · have hb := hbytes
    simp only [Nat.zero_add] at hb
    have hr2 := run_append_nil (P := P) w t ty e i z ht hi hz ad m c news hl hnews hm (by omega) (by omega)
    rw [hr2] at hr
    injection hr with e1 e2
    injection e1 with e1 _ _
    injection e1 with e1
    injection e1 with e1
    subst e1 e2
    rw [cell_of_row _ w.heap.size o _ e (0, 0) (heap_alloc_new w.drew _)] at hu
    exact hZ u (zeroCells_mem (tail_mem hu (by rw [List.size_toArray, hl]; rw [Nat.zero_add] at ho; exact ho)))
  · by_cases hroom : n + m ≤ cap0
    · have hfit : n * i.size + news.length ≤ cur.size := by rw [hl, hcs, ← Nat.add_mul]; exact Nat.mul_le_mul_right _ hroom
      have hr2 := run_append_room (P := P) w t ty e i ht hi g0 n cap0 cur hg ad m c news hl hnews h1 hroom hfit
      rw [hr2] at hr
      injection hr with e1 e2
      injection e1 with e1 _ _
      injection e1 with e1
      injection e1 with e1
      subst e1 e2
      rw [cell_of_row _ g0 o _ e (0, 0) (setRow_heap w g0 cur _ e _ hg)] at hu
      have hx : n * i.size + news.length ≤ o := by rw [hl, ← Nat.add_mul]; exact ho
      rw [List.getElem?_toArray, List.getElem?_append_right (by rw [List.length_append, List.length_take, Array.length_toList]; omega), List.getElem?_drop] at hu
      have ho' : n * i.size + news.length + (o - (List.take (n * i.size) cur.toList ++ news).length) = o := by
        rw [List.length_append, List.length_take, Array.length_toList (xs := cur)]
        omega
      rw [ho'] at hu
      refine hR g0 rfl o u (by omega) ?_
      rw [cell_of_row _ g0 o _ e (0, 0) hg, ← Array.getElem?_toList]
      exact hu
    · have holds : ∀ j u, xs[j]? = some u → w.cell? ((⟨g0, 0, none⟩ : Addr).add j) = some u := hown.cells (g := g0) rfl
      have hr2 := run_append_grow (P := P) w t ty e i z ht hi hz ⟨g0, 0, none⟩ n cap0 xs hown.1 holds ad m c news hl hnews (by omega) (by omega) (growslice_fits (by omega) hbytes)
      rw [hr2] at hr
      injection hr with e1 e2
      injection e1 with e1 _ _
      injection e1 with e1
      injection e1 with e1
      subst e1 e2
      rw [cell_of_row _ w.heap.size o _ e (0, 0) (heap_alloc_new w.drew _)] at hu
      refine hZ u (zeroCells_mem (tail_mem hu ?_))
      rw [Array.size_append, List.size_toArray, List.size_toArray, hown.1, hl, ← Nat.add_mul]
      exact ho
/-- The same, inside a fence. -/
theorem wpListIn_ap {F : Fence} {fu : Nat} {ops : Array Oper} {rest : List Oper} {o : Oper} {a : Act} {Q : Exit → Act → World → Prop} (hgd : o.guard = none) (s x : Operand) (t : TypeId)
    (ho : o.op = .call { callee := .builtin .append, args := #[s, x], argTypes := #[t, t] })
    (base : Nat) (e : TypeId) (i : TypeInfo) (z : Value) (size bytes : Nat) (ht : P.underlying t = some (.slice e)) (hi : P.info? e = some i) (hz : i.zero = some z)
    (hsize : i.size = size) (hby : i.bytes = bytes) (hzs : z.cells.size = size) (hsz : 0 < size)
    (v : Value) (n : Nat) (xs : List Value) (hs : a.eval s = v) (hown : w.ownsRow base e size v n xs)
    (ad : Addr) (m c : Nat) (news : List Value) (hx : a.eval x = .slice (some ad) m c) (hl : news.length = m * size) (hnews : ∀ j u, news[j]? = some u → w.cell? (ad.add j) = some u) (h1 : ∀ u ∈ news, u.oneCell' = true)
    (hm : 0 < m) (h63 : n + m ≤ maxLen) (hbytes : (n + m) * bytes ≤ 140737488355328) (hbase : base ≤ w.heap.size)
    (R : Value → Prop) (hR : ∀ k, v.ownBlock = some k → ∀ o u, n * size ≤ o → w.cell? ⟨k, o, none⟩ = some u → R u) (hZ : ∀ u ∈ z.cells.toList, R u)
    (h : ∀ g cap w', w'.ownsRow base e size (.slice (some ⟨g, 0, none⟩) (n + m) cap) (n + m) (xs ++ news) → w.grownBy w' v.ownBlock → (∀ o u, (n + m) * size ≤ o → w'.cell? ⟨g, o, none⟩ = some u → R u) → wpListIn F fu P ops Q rest (a.put o.dst (.slice (some ⟨g, 0, none⟩) (n + m) cap)) w') : wpListIn F fu P ops Q (o :: rest) a w := by
  obtain ⟨g, cap, w', hr, h2, h3, h4, h5, h6⟩ := run_append_rest (P := P) w t o.type base e i z size bytes ht hi hz hsize hby hzs hsz v n xs hown ad m c news hl hnews h1 hm h63 hbytes hbase R hR hZ
  refine wpListIn_plain hgd fun K hK => ?_
  unfold Oper.wpIn
  refine ⟨?_, ?_⟩
  · simp [Oper.about, ho, resolve, Target.leads, Sem.run_pure]
  · rw [Oper.semAt_plain F _ _ (by rw [ho]; intro c hc; cases hc)]
    simp [execOp, ho, resolve, invoke, builtin, hs, hx, hr, Result.andThen]
    exact hK _ _ (h g cap w' h2 h3 h6)
end

end Go.Proofs.YtcmkjjlchljffaaDoor

/- slices.AppendSeq of nil: behind what came, the row that it tells has empty texts alone. -/
namespace Go.Proofs.YtcmkjjlchljffaaDoor
open Go.RowKit Go.Maps Go.Sort Go.Shelf
set_option linter.unusedVariables false
variable {P : Program} {ρ : Ren}

/-- Behind the n-th cell of a value's own block there are empty texts alone. -/
def Void (W : World) (v : Value) (n : Nat) : Prop := ∀ k, v.ownBlock = some k → ∀ o u, n ≤ o → W.cell? ⟨k, o, none⟩ = some u → u = .string ⟨#[]⟩
theorem cell_heap {W W' : World} {k o : Nat} (h : W'.heap[k]? = W.heap[k]?) : W'.cell? ⟨k, o, none⟩ = W.cell? ⟨k, o, none⟩ := by
  unfold World.cell?
  simp only [h]
theorem Void.same {W W' : World} {v : Value} {n : Nat} (h : Void W v n) (hs : ∀ k, v.ownBlock = some k → W'.heap[k]? = W.heap[k]?) : Void W' v n := fun k hk o u ho hu => h k hk o u ho ((cell_heap (hs k hk)).symm.trans hu)
/-- Between two rounds. -/
structure SqAt (ρ : Ren) (w0 : World) (fn : FuncId) (sv : Value) (Bs l D : Nat) (ss : List (List UInt8)) (W : World) : Prop where
  at_ : AnyZ.ApAt ρ w0 fn sv Bs l D ss W
  vd : ∀ v, W.heap[Bs]? = some (.cells #[v] (ρ.t 24) (0, 0)) → Void W v ss.length
theorem own_grown {W W' : World} {row : Option Nat} {base : Nat} {e : TypeId} {size : Nat} {v : Value} {k : Nat} {xs : List Value} (h : W.ownsRow base e size v k xs) (hg : W.grownBy W' row)
    (hne : v.ownBlock = none ∨ v.ownBlock ≠ row) : ∀ q, v.ownBlock = some q → W'.heap[q]? = W.heap[q]? := fun q hq => by
  refine hg.block q (h.lt q hq).2 fun e => ?_
  rcases hne with h1 | h1
  · rw [h1] at hq; cases hq
  · exact h1 (by rw [hq, e])

set_option maxRecDepth 100000 in
set_option maxHeartbeats 4000000 in
/-- One text more has come. -/
theorem sq_yield (L : SlLaysZ.n11 P ρ) (F : Fence) (m : Nat) (w0 : World) (fn : FuncId) (hfn : F.fn fn) (sv : Value) (Bs l D : Nat) (hBl : Bs ≠ l) (hDl : D ≠ l) (hDB : D ≠ Bs) (h0B : w0.heap.size ≤ Bs) (h0l : w0.heap.size ≤ l)
    (ss : List (List UInt8)) (x : List UInt8) (W : World) (h : SqAt ρ w0 fn sv Bs l D ss W) (hlen : ss.length < 4294967296) :
    YieldAt F m P l #[encStr x] W fun e W' => e = .returned (.bool true) ∧ SqAt ρ w0 fn sv Bs l D (ss ++ [x]) W' ∧ KeepsWalks W W' := by
  have mixed := L.mixed; have t0 := L.t0; have a0 := L.a0; have z0 := L.z0; have v0 := L.v0; have t24 := L.t24; have a24 := L.a24; have z24 := L.z24; have v24 := L.v24; have t26 := L.t26; have a26 := L.a26; have z26 := L.z26; have v26 := L.v26; have t28 := L.t28; have a28 := L.a28; have z28 := L.z28; have v28 := L.v28
  have u0 := run_underlying L.t0; have u24 := run_underlying L.t24; have u26 := run_underlying L.t26; have u28 := run_underlying L.t28
  have hne : ρ.t 24 ≠ ρ.t 26 := fun e => by have q := L.t24; rw [e, L.t26] at q; cases q
  obtain ⟨i0, hi, hz0, hz1, hz2⟩ := info_parts L.i26
  obtain ⟨⟨⟨v, hv, hrow, hnl⟩, hL, hK, hbel⟩, hvd⟩ := h
  have hvd := hvd v hv
  refine ⟨fn, #[.slice none 0 0, sv, .pointer (some ⟨Bs, 0, none⟩), undef, .slice none 0 0, undef, sv, encStr x, undef, undef, undef, undef, undef], AnyZ.apAssign ρ, AnyZ.apBody ρ, by simpa [AnyZ.apRec] using run_yield (P := P) (args := #[encStr x]) hL rfl, roundIn_of_wpIn hfn ?_⟩
  -- no box and no record is the row's own block
  have far : ∀ {X : World} {u : Value} {n : Nat} {xs : List Value} {j : Nat} {o : Obj}, X.ownsRow w0.heap.size (ρ.t 26) 1 u n xs → X.heap[j]? = some o → (∀ cur, o ≠ .cells cur (ρ.t 26) (0, 0)) → u.ownBlock = none ∨ u.ownBlock ≠ some j := fun hr hj hno => ownsRow_ne_a hr hj hno
  have nbox : ∀ {u : Value} (cur : Array Value), (Obj.cells #[u] (ρ.t 24) (0, 0)) ≠ .cells cur (ρ.t 26) (0, 0) := fun cur e => hne (Obj.cells.inj e).2.1
  have far' : ∀ {X : World} {u : Value} {n : Nat} {xs : List Value} {j : Nat} {o : Obj}, X.ownsRow w0.heap.size (ρ.t 26) 1 u n xs → X.heap[j]? = some o → (∀ cur, o ≠ .cells cur (ρ.t 26) (0, 0)) → some j ≠ u.ownBlock := fun hr hj hno e => by
    rcases far hr hj hno with q | q
    · rw [q] at e; cases e
    · exact q e.symm
  have hlt : l < W.heap.size := (Array.getElem?_eq_some_iff.1 hL).1
  have hbr := run_beginRound (P := P) hL rfl
  obtain ⟨W2, hW2⟩ : ∃ W2, W.putObj l (.loop { AnyZ.apRec ρ fn sv Bs D .ready none with state := .busy }) = W2 := ⟨_, rfl⟩
  rw [hW2] at hbr
  have g2 : W.grownBy W2 (some l) := by rw [← hW2]; exact grownBy_putObj_a _ _ _
  have kw2 : KeepsWalks W W2 := by rw [← hW2]; exact KeepsWalks.putObj _ hL rfl
  have hv2 : W2.heap[Bs]? = some (.cells #[v] (ρ.t 24) (0, 0)) := by rw [← hW2]; exact (World.putObj_heap_other hBl).trans hv
  have hK2 : W2.heap[D]? = some (.deferred (some [])) := by rw [← hW2]; exact (World.putObj_heap_other hDl).trans hK
  have hL2 : W2.heap[l]? = some (.loop { AnyZ.apRec ρ fn sv Bs D .ready none with state := .busy }) := by rw [← hW2]; exact World.putObj_heap_same hlt
  have f2 := far hrow hL (fun cur e => by cases e)
  have hrow2 := hrow.kept g2 f2
  have vd2 : Void W2 v ss.length := hvd.same (own_grown hrow g2 f2)
  have b2 : Below w0.heap.size w0 W2 := hbel.grown g2 hbel.size (fun k e => by cases e; exact h0l)
  obtain ⟨hc2, hf2⟩ := cell_of_box_a hv2
  have hBlt : Bs < W2.heap.size := (Array.getElem?_eq_some_iff.1 hv2).1
  have hlt2 : l < W2.heap.size := (Array.getElem?_eq_some_iff.1 hL2).1
  have hDlt : D < W2.heap.size := (Array.getElem?_eq_some_iff.1 hK2).1
  have vda : Void (W2.alloc (.cells #[encStr x] (ρ.t 26))) v ss.length := vd2.same fun k hk => Below.heap_alloc _ _ k (hrow2.lt k hk).2
  clear hW2 f2
  unfold AnyZ.apAssign
  gi_wp2_with (rw [Oper.semAt_eq _ _ _ (fun c h => by cases h)]; go_simp; try go_bits)
  unfold AnyZ.apBody
  gi_wp2_with (first
    | (gi_at_builtin
       refine wpListIn_ap _ rfl _ _ (ρ.t 24) rfl w0.heap.size (ρ.t 26) i0 (.string ⟨#[]⟩) 1 16 L.t24 hi hz0 hz1 hz2 rfl (by decide) _ _ _ rfl (hrow2.alloc _) ⟨W2.heap.size, 0, none⟩ 1 1 [encStr x] rfl rfl (cell_one_new _ _ _) (by simp [Value.oneCell', encStr]) (by decide) (by unfold maxLen; omega) (by omega) (by have := b2.size; simp; omega)
         (fun u => u = .string ⟨#[]⟩) (fun k hk o u ho hu => vda k hk o u (by omega) hu) (fun u hu => by simpa [Value.cells] using hu) ?_
       intro g' cap' w3 hown3 hg3 hvd3
       have hv3 : w3.heap[Bs]? = some (.cells #[v] (ρ.t 24) (0, 0)) := (hg3.block Bs (by simp; omega) (far' hrow2 hv2 nbox)).trans ((Below.heap_alloc _ _ Bs hBlt).trans hv2)
       obtain ⟨hc3, hf3⟩ := cell_of_box_a hv3
       go_frame)
    | (rw [Oper.semAt_eq _ _ _ (fun c h => by cases h)]; go_simp; try go_bits))
  have hL3 : w3.heap[l]? = some (.loop { AnyZ.apRec ρ fn sv Bs D .ready none with state := .busy }) := (hg3.block l (by simp; omega) (far' hrow2 hL2 (fun cur e => by cases e))).trans ((Below.heap_alloc _ _ l hlt2).trans hL2)
  have hK3 : w3.heap[D]? = some (.deferred (some [])) := (hg3.block D (by simp; omega) (far' hrow2 hK2 (fun cur e => by cases e))).trans ((Below.heap_alloc _ _ D hDlt).trans hK2)
  obtain ⟨w4, hw4⟩ : ∃ w4, w3.setCell ⟨Bs, 0, none⟩ (.slice (some ⟨g', 0, none⟩) (ss.length + 1) cap') = w4 := ⟨_, rfl⟩
  rw [hw4]
  have g4 : w3.grownBy w4 (some Bs) := by rw [← hw4]; exact grownBy_setCell0_a _ _ _
  have hv4 : w4.heap[Bs]? = some (.cells #[.slice (some ⟨g', 0, none⟩) (ss.length + 1) cap'] (ρ.t 24) (0, 0)) := by rw [← hw4]; exact heap_setCell_box_a _ hv3
  have hL4 : w4.heap[l]? = some (.loop { AnyZ.apRec ρ fn sv Bs D .ready none with state := .busy }) := (g4.block l (Array.getElem?_eq_some_iff.1 hL3).1 (fun e => hBl (by cases e; rfl))).trans hL3
  have hK4 : w4.heap[D]? = some (.deferred (some [])) := (g4.block D (Array.getElem?_eq_some_iff.1 hK3).1 (fun e => hDB (by cases e; rfl))).trans hK3
  have f4 := far hown3 hv3 nbox
  have hrow4 := hown3.kept g4 f4
  have vd3 : Void w3 (.slice (some ⟨g', 0, none⟩) (ss.length + 1) cap') (ss.length + 1) := fun k hk o u ho hu => by
    obtain rfl : g' = k := by simpa [Value.ownBlock] using hk
    exact hvd3 o u (by omega) hu
  have vd4 := vd3.same (own_grown hown3 g4 f4)
  have b3 : Below w0.heap.size w0 w3 := (b2.alloc b2.size _).grown hg3 (by have := b2.size; simp; omega) (fun k e => (hrow2.lt k e).1)
  have b4 : Below w0.heap.size w0 w4 := b3.grown g4 b3.size (fun k e => by cases e; exact h0B)
  have kw4 : KeepsWalks W w4 := ((kw2.trans (KeepsWalks.alloc _ _)).trans (KeepsWalks.of_grownBy hg3 (ownsRow_not_walk_a (hrow2.alloc _)))).trans (by rw [← hw4]; exact KeepsWalks.setCell _ _ _)
  clear hw4
  have g5 := grownBy_putObj_a w4 l (.loop { { AnyZ.apRec ρ fn sv Bs D .ready none with state := .busy } with state := if (none : Option Code).isNone then .ready else .done, pending := none })
  have f5 := far hrow4 hL4 (fun cur e => by cases e)
  have hlt4 : l < w4.heap.size := (Array.getElem?_eq_some_iff.1 hL4).1
  refine ⟨_, _, run_endRound none hL4, rfl, ⟨⟨⟨_, (World.putObj_heap_other hBl).trans hv4, ?_, by simp⟩, World.putObj_heap_same hlt4, (World.putObj_heap_other hDl).trans hK4, b4.grown g5 b4.size (fun k e => by cases e; exact h0l)⟩, ?_⟩, kw4.trans (KeepsWalks.putObj _ hL4 rfl)⟩
  · have := hrow4.kept g5 f5
    simpa using this
  · intro u hu
    have e1 := ((World.putObj_heap_other hBl).trans hv4).symm.trans hu
    simp only [Option.some.injEq, Obj.cells.injEq, Array.mk.injEq, List.cons.injEq, and_true] at e1
    obtain rfl := e1
    rw [List.length_append]
    exact vd4.same (own_grown hrow4 g5 f5)
end Go.Proofs.YtcmkjjlchljffaaDoor

/- slices.Sorted(maps.Keys(m)): behind the names there are empty texts alone. -/
namespace Go.Proofs.YtcmkjjlchljffaaDoor
open Go.RowKit Go.Maps Go.Sort Go.Shelf
set_option linter.unusedVariables false
variable {P : Program} {ρ : Ren}

theorem own_walks {W W' : World} {row : Option Nat} {base : Nat} {e : TypeId} {size : Nat} {v : Value} {k : Nat} {xs : List Value} (h : W.ownsRow base e size v k xs) (hg : W.grownBy W' row)
    (hrow : ∀ r, row = some r → ∃ o : Obj, W.heap[r]? = some o ∧ o.isWalk = true) : ∀ q, v.ownBlock = some q → W'.heap[q]? = W.heap[q]? := fun q hq => by
  have hlt := (h.lt q hq).2
  exact grownBy_keeps hg hrow (Array.getElem?_eq_getElem hlt) (ownsRow_not_walk_a h q _ hq (Array.getElem?_eq_getElem hlt))
theorem sq_abides (w0 : World) (fn : FuncId) (sv : Value) (Bs l D B : Nat) (hB : w0.heap.size ≤ B) : AbidesFrom B (SqAt ρ w0 fn sv Bs l D) := fun s W W' row h hg hrow => by
  have hrow' : ∀ r, row = some r → ∃ o : Obj, W.heap[r]? = some o ∧ o.isWalk = true := fun r e => (hrow r e).2
  obtain ⟨v, hv, hr, _⟩ := h.at_.box
  have hv' := (grownBy_keeps hg hrow' hv rfl).trans hv
  refine ⟨AnyZ.ap_abides ρ w0 fn sv Bs l D B hB s W W' row h.at_ hg hrow, fun u hu => ?_⟩
  have e1 := hv'.symm.trans hu
  simp only [Option.some.injEq, Obj.cells.injEq, Array.mk.injEq, List.cons.injEq, and_true] at e1
  obtain rfl := e1
  exact (h.vd v hv).same (own_walks hr hg hrow')

set_option maxRecDepth 100000 in
set_option maxHeartbeats 4000000 in
theorem sq_appendSeq (L : SlLaysZ.n11 P ρ) (F : Fence) (n : Nat) (h11 : F.fn (ρ.f 11)) (hro : F.round = none) (hn : 2 ≤ n) (g : Nat) (lb : Array Value) (hFg : F.fn g) (eg : ∀ args w, (callFunc g args).run P w = .ok (.enter g args) w)
    (S : List (List UInt8) → Prop) (N : Nat) (hN : N < 4294967296) (w : World) (hseq : SeqGives F (n - 1) P g lb encStr S N w) :
    CallsIn F n P (ρ.f 11) #[.slice none 0 0, .func (.func g) #[] lb] w fun e w' => ∃ (v : Value) (ss : List (List UInt8)), e = .returned v ∧ S ss ∧ w'.ownsRow w.heap.size (ρ.t 26) 1 v ss.length (ss.map encStr) ∧ (v = .slice none 0 0 ↔ ss = []) ∧ Void w' v ss.length ∧ Below w.heap.size w w' := by
  have h1 : 1 ≤ n := by omega
  have mixed := L.mixed; have t0 := L.t0; have a0 := L.a0; have z0 := L.z0; have v0 := L.v0; have t24 := L.t24; have a24 := L.a24; have z24 := L.z24; have v24 := L.v24; have t26 := L.t26; have a26 := L.a26; have z26 := L.z26; have v26 := L.v26; have t28 := L.t28; have a28 := L.a28; have z28 := L.z28; have v28 := L.v28
  have hne : ρ.t 24 ≠ ρ.t 26 := fun e => by have q := L.t24; rw [e, L.t26] at q; cases q
  have u0 := run_underlying L.t0; have u24 := run_underlying L.t24; have u26 := run_underlying L.t26; have u28 := run_underlying L.t28
  obtain ⟨_, _, FG⟩ := L.f11
  refine callsIn_of_wp_marks FG rfl h11 ?_ hro
  simp only [SlBodyZ.n11_ntmps ρ, List.size_toArray, List.length_cons, List.length_nil, Nat.reduceAdd, Nat.reduceSub, Array.replicate_succ, Array.replicate_zero, List.push_toArray, List.append_toArray, List.nil_append, List.cons_append]
  gi_wp2
  refine wpIn_rangeFunc fun fn hfn => ?_
  rw [hro]
  obtain ⟨W0, hW0⟩ : ∃ W0, w.alloc (.cells #[.slice none 0 0] (ρ.t 24)) = W0 := ⟨_, rfl⟩
  have hs0 : W0.heap.size = w.heap.size + 1 := by rw [← hW0]; simp
  have hv0 : W0.heap[w.heap.size]? = some (.cells #[.slice none 0 0] (ρ.t 24) (0, 0)) := by rw [← hW0]; exact World.alloc_heap_new w _
  have hb0 : Below w.heap.size w W0 := by rw [← hW0]; exact (Below.refl _ w).alloc (Nat.le_refl _) _
  rw [hW0]
  obtain ⟨W1, hW1⟩ : ∃ W1, (W0.alloc (.deferred (some []))).alloc (.loop (AnyZ.apRec ρ fn (.func (.func g) #[] lb) w.heap.size W0.heap.size .ready none)) = W1 := ⟨_, rfl⟩
  have hold : ∀ k, k < W0.heap.size → W1.heap[k]? = W0.heap[k]? := fun k hk => by
    rw [← hW1]; exact (Below.heap_alloc _ _ k (by simp; omega)).trans (Below.heap_alloc _ _ k hk)
  have hb1 : Below w.heap.size w W1 := by rw [← hW1]; exact (hb0.alloc hb0.size _).alloc (by have := hb0.size; simp; omega) _
  have hv1 := (hold w.heap.size (by omega)).trans hv0
  have hM : SqAt ρ w fn (.func (.func g) #[] lb) w.heap.size (W0.heap.size + 1) W0.heap.size [] W1 :=
    ⟨⟨⟨_, hv1, ⟨rfl, .inl ⟨rfl, rfl⟩⟩, by simp⟩,
     by rw [← hW1]; have := World.alloc_heap_new (W0.alloc (.deferred (some []))) (.loop (AnyZ.apRec ρ fn (.func (.func g) #[] lb) w.heap.size W0.heap.size .ready none)); rwa [World.size_alloc] at this,
     by rw [← hW1]; exact (Below.heap_alloc _ _ _ (by simp)).trans (World.alloc_heap_new W0 _), hb1⟩, fun u hu k hk => by
      have e1 := hv1.symm.trans hu
      simp only [Option.some.injEq, Obj.cells.injEq, Array.mk.injEq, List.cons.injEq, and_true] at e1
      obtain rfl := e1
      cases hk⟩
  refine ⟨W0.heap.size + 1, [{ target := .collected W0.heap.size, args := #[] }], W1, { target := .fn (.func g) lb, args := #[.func (.yield (W0.heap.size + 1)) #[] #[]] }, W1, g,
    #[.func (.yield (W0.heap.size + 1)) #[] #[]] ++ lb, W1, ?_, ?_, ?_, ?_, fun _ => h1, ?_⟩
  · rw [← hW1]; exact run_enterLoop_outer _ _ _ _ _
  · simp [resolve, go_sem]
  · intro f' hf'; simp [Target.leads] at hf'; subst hf'; exact hFg
  · simp [invoke, go_sem, eg]
  · refine (hseq (W0.heap.size + 1) (SqAt ρ w fn (.func (.func g) #[] lb) w.heap.size (W0.heap.size + 1) W0.heap.size) W1 hb1 (sq_abides _ _ _ _ _ _ _ hb1.size)
      (fun pre x W hJ hl => sq_yield { L with } F (n - 1 - 1) w fn hfn _ w.heap.size (W0.heap.size + 1) W0.heap.size (by omega) (by omega) (by omega) (Nat.le_refl _) (by omega) pre x W hJ (by omega)) hM).mono ?_
    rintro e W2 ⟨⟨v0, rfl⟩, ss, hS, h2⟩
    obtain ⟨v, hv, hrow, hnil⟩ := h2.at_.box
    have hend := run_endLoop (P := P) h2.at_.L (by simp [AnyZ.apRec])
    obtain ⟨W3, hW3⟩ : ∃ W3, W2.putObj (W0.heap.size + 1) (.loop { AnyZ.apRec ρ fn (.func (.func g) #[] lb) w.heap.size W0.heap.size .ready none with state := .exhausted }) = W3 := ⟨_, rfl⟩
    rw [hW3] at hend
    have g3 : W2.grownBy W3 (some (W0.heap.size + 1)) := by rw [← hW3]; exact grownBy_putObj_a _ _ _
    have hv3 : W3.heap[w.heap.size]? = some (.cells #[v] (ρ.t 24) (0, 0)) := by rw [← hW3]; exact (World.putObj_heap_other (by omega)).trans hv
    have hK3 : W3.heap[W0.heap.size]? = some (.deferred (some [])) := by rw [← hW3]; exact (World.putObj_heap_other (by omega)).trans h2.at_.K
    have f3 := ownsRow_ne_a hrow h2.at_.L (fun cur e => by cases e)
    have hrow3 := hrow.kept g3 f3
    have vd3 := (h2.vd v hv).same (own_grown hrow g3 f3)
    have hb3 : Below w.heap.size w W3 := h2.at_.below.grown g3 h2.at_.below.size (fun k e => by cases e; omega)
    obtain ⟨hc3, hf3⟩ := cell_of_box_a hv3
    clear hW3
    refine ⟨none, W3, hend, ?_⟩
    gi_wp2
    rw [← hs0]
    refine ⟨by simp, .inl ⟨_, _, rfl, run_takeDeferred hK3, ?_⟩⟩
    have f4 := ownsRow_ne_a hrow3 hK3 (fun cur e => by cases e)
    exact ⟨_, results_tmp rfl _ _ _, v, ss, rfl, hS, hrow3.kept (grownBy_putObj_a _ _ _) f4, hnil, vd3.same (own_grown hrow3 (grownBy_putObj_a _ _ _) f4), hb3.grown (grownBy_putObj_a _ _ _) hb3.size (fun k e => by cases e; omega)⟩

set_option maxHeartbeats 1000000 in
theorem sq_collect (L : SlLaysZ.n8 P ρ) (F : Fence) (n : Nat) (h8 : F.fn (ρ.f 8)) (h11 : F.fn (ρ.f 11)) (hro : F.round = none) (hn : 3 ≤ n) (g : Nat) (lb : Array Value) (hFg : F.fn g) (eg : ∀ args w, (callFunc g args).run P w = .ok (.enter g args) w)
    (S : List (List UInt8) → Prop) (N : Nat) (hN : N < 4294967296) (w : World) (hseq : SeqGives F (n - 1 - 1) P g lb encStr S N w) :
    CallsIn F n P (ρ.f 8) #[.func (.func g) #[] lb] w fun e w' => ∃ (v : Value) (ss : List (List UInt8)), e = .returned v ∧ S ss ∧ w'.ownsRow w.heap.size (ρ.t 26) 1 v ss.length (ss.map encStr) ∧ (v = .slice none 0 0 ↔ ss = []) ∧ Void w' v ss.length ∧ Below w.heap.size w w' := by
  have h1 : 1 ≤ n := by omega
  have e11 : ∀ args w, (callFunc (ρ.f 11) args).run P w = .ok (.enter (ρ.f 11) args) w := L.f11.enters rfl
  have mixed := L.mixed; have t0 := L.t0; have a0 := L.a0; have z0 := L.z0; have v0 := L.v0; have t24 := L.t24; have a24 := L.a24; have z24 := L.z24; have v24 := L.v24; have t26 := L.t26; have a26 := L.a26; have z26 := L.z26; have v26 := L.v26; have t28 := L.t28; have a28 := L.a28; have z28 := L.z28; have v28 := L.v28
  have u0 := run_underlying L.t0; have u24 := run_underlying L.t24; have u26 := run_underlying L.t26; have u28 := run_underlying L.t28
  obtain ⟨_, _, FG⟩ := L.f8
  refine callsIn_of_wp FG rfl h8 ?_ hro
  simp only [SlBodyZ.n8_ntmps ρ, List.size_toArray, List.length_cons, List.length_nil, Nat.reduceAdd, Nat.reduceSub, Array.replicate_succ, Array.replicate_zero, List.push_toArray, List.append_toArray, List.nil_append, List.cons_append]
  gi_wp2_with (gi_at_fn (ρ.f 11); refine (sq_appendSeq { L with } F (n - 1) h11 hro (by omega) g lb hFg eg S N hN _ hseq).mono ?_; rintro e w' ⟨v, ss, rfl, hall⟩)
  go_ret
  exact ⟨v, ss, rfl, hall⟩
end Go.Proofs.YtcmkjjlchljffaaDoor

/- slices.Sorted(maps.Keys(m)), and Names: behind the names there are empty texts alone. -/
namespace Go.Proofs.YtcmkjjlchljffaaDoor
open Go.RowKit Go.Maps Go.MapKept Go.WideElems Go.Sort Go.Shelf
set_option linter.unusedVariables false
section
variable {P : Program} {ρ : Ren}
theorem void_sorted {w : World} {gb n cap : Nat} {os : Array Obj} {cur : Array Value} {e : TypeId} {ts : List (List UInt8)} {m : Nat} (hb : w.heap[gb]? = some (.cells cur e (0, 0))) (hm : ts.length = m) (h : Void w (.slice (some ⟨gb, 0, none⟩) m cap) m) :
    Void (grow (putRow encStr (Sort.ahead w n) gb 0 ts.toArray) os) (.slice (some ⟨gb, 0, none⟩) m cap) m := fun k hk o u ho hu => by
  obtain rfl : gb = k := by simpa [Value.ownBlock] using hk
  refine h gb rfl o u ho ?_
  rw [cell_of_row _ gb o _ e (0, 0) (heap_sorted _ hb)] at hu
  rw [cell_of_row _ gb o _ e (0, 0) hb, ← hu]
  simp only [putCells, Array.getElem?_mapIdx]
  cases hq : cur[o]? with
  | none => rfl
  | some q =>
    simp only [Option.map_some]
    rw [if_neg (by simp; omega)]
set_option maxRecDepth 100000 in
set_option maxHeartbeats 4000000 in
theorem sq_sorted (L : SlLaysZ.n6 P ρ) (F : Fence) (n : Nat) (h6 : F.fn (ρ.f 6)) (h8 : F.fn (ρ.f 8)) (h9 : F.fn (ρ.f 9)) (h11 : F.fn (ρ.f 11)) (hro : F.round = none) (hn : 4 ≤ n) (hsort : AnyZ.SortsIn P ρ F (n - 1)) (e9 : ∀ args w, (callFunc (ρ.f 9) args).run P w = .ok (.enter (ρ.f 9) args) w) (g : Nat) (lb : Array Value) (hFg : F.fn g) (eg : ∀ args w, (callFunc g args).run P w = .ok (.enter g args) w)
    (S : List (List UInt8) → Prop) (N : Nat) (hN : N < 4294967296) (w : World) (hseq : SeqGives F (n - 1 - 1 - 1) P g lb encStr S N w) :
    CallsIn F n P (ρ.f 6) #[.func (.func g) #[] lb] w fun e w' => ∃ (v : Value) (ss : List (List UInt8)), e = .returned v ∧ S ss ∧
      w'.ownsRow w.heap.size (ρ.t 26) 1 v ss.length ((ss.mergeSort (fun x y => decide (x ≤ y))).map encStr) ∧ Void w' v ss.length ∧ Below w.heap.size w w' := by
  have h1 : 1 ≤ n := by omega
  have e8 : ∀ args w, (callFunc (ρ.f 8) args).run P w = .ok (.enter (ρ.f 8) args) w := L.f8.enters rfl
  have mixed := L.mixed; have t0 := L.t0; have a0 := L.a0; have z0 := L.z0; have v0 := L.v0; have t24 := L.t24; have a24 := L.a24; have z24 := L.z24; have v24 := L.v24; have t26 := L.t26; have a26 := L.a26; have z26 := L.z26; have v26 := L.v26; have t28 := L.t28; have a28 := L.a28; have z28 := L.z28; have v28 := L.v28
  have u0 := run_underlying L.t0; have u24 := run_underlying L.t24; have u26 := run_underlying L.t26; have u28 := run_underlying L.t28
  obtain ⟨_, _, FG⟩ := L.f6
  refine callsIn_of_wp FG rfl h6 ?_ hro
  simp only [SlBodyZ.n6_ntmps ρ, List.size_toArray, List.length_cons, List.length_nil, Nat.reduceAdd, Nat.reduceSub, Array.replicate_succ, Array.replicate_zero, List.push_toArray, List.append_toArray, List.nil_append, List.cons_append]
  gi_wp2_with (gi_at_fn (ρ.f 8); refine (sq_collect { L with } F (n - 1) h8 h11 hro (by omega) g lb hFg eg _ N hN _ hseq.bounded).mono ?_; rintro e W ⟨v, ss, rfl, ⟨hS, hlen⟩, hrow, hnil, hvd, hb⟩)
  rcases hrow.2 with ⟨rfl, hz⟩ | ⟨gb, cap, cur, rfl, hbase, hgb, r1, r2, r3, r4⟩
  · have hss : ss = [] := List.eq_nil_of_length_eq_zero hz
    subst hss
    gi_wp2_with (gi_at_fn (ρ.f 9); refine (hsort.2 none 0 W).mono ?_; rintro e w' ⟨rfl, rfl⟩)
    go_ret
    exact ⟨.slice none 0 0, [], rfl, hS, by simpa using hrow, hvd, hb⟩
  · have hH : Holds encStr W gb 0 ss.toArray := holds_of_block hgb (by simpa using r4)
    have hgl : gb < W.heap.size := (Array.getElem?_eq_some_iff.1 hgb).1
    have cS := hsort.1 gb 0 cap ss W hH hgl (by omega)
    gi_wp2_with (gi_at_fn (ρ.f 9); refine cS.mono ?_; rintro e w' ⟨rfl, nn, os, rfl⟩)
    go_ret
    exact ⟨_, ss, rfl, hS, ownsRow_sorted (by simp) hbase hgb r1 r2 r3, void_sorted hgb (by simp) hvd, hb.grown (grownBy_sorted _) hb.size (fun j hj => by cases hj; exact hbase)⟩
end
section
variable {w : World} {mb : Nat} {m : FMap}
/-- slices.Sorted(maps.Keys(m)): the names, rising; behind them empty texts. -/
theorem sorted_void {fs : List Fi} (h : MapS mF w mb m) (hp : (m.map toFi).Perm fs) (hso : Sorted fs) (hl : fs.length ≤ 256) :
    Calls Tryd.prog 58 #[.func (.func 65) #[] #[.pointer (some ⟨w.heap.size, 0, none⟩)]] (w.alloc (.cells #[.map (some mb)] 33)) fun e w' => ∃ v, e = .returned v ∧ OwnX eS w.heap.size w' v (fs.map Fi.nm) ∧ Void w' v fs.length ∧ Below w.heap.size w w' := by
  have hml : m.length = fs.length := by have := hp.length_eq; simpa using this
  obtain ⟨D, h1, h2, h3⟩ := h.owns (by unfold maxLen; omega)
  have hseq : SeqGives Fence.wide 2 Tryd.prog 65 #[.pointer (some ⟨w.heap.size, 0, none⟩)] encStr (fun ss => ss.Perm (strKeys D)) (Maps.size D) (w.alloc (.cells #[.map (some mb)] 33)) :=
    AnyZ.keys_gives (ρ := Tryd.keys59_ren) { Tryd.keys59 with } Fence.wide _ trivial rfl (by omega) w.heap.size mb m.length D (R := asIs) _ (by simp) (by simp) (by
      have hbl := h1.lt
      obtain ⟨es, clock, hb, Ft, hs, hD⟩ := h1
      exact ⟨es, clock, (Below.heap_alloc _ _ mb hbl).trans hb, Ft, hs, hD⟩)
  refine (callsIn_wide.1 (sq_sorted Tryd.sorted58 Fence.wide 5 trivial trivial trivial trivial rfl (by omega) (Tryd.sorts58 _) (enters_of Tryd.func64 (by kernel_rfl) rfl) 65 #[.pointer (some ⟨w.heap.size, 0, none⟩)] trivial (enters_of Tryd.func65 (by kernel_rfl) rfl) _ _ (by rw [h3]; omega) _ hseq)).mono ?_
  rintro e w' ⟨v, ss, rfl, q1, q2, hvd, q3⟩
  have hB : Below w.heap.size w w' := ((Below.refl _ w).alloc (Nat.le_refl _) (.cells #[.map (some mb)] 33)).trans (q3.mono (by simp))
  have e1 : ss.mergeSort (fun x y => decide (x ≤ y)) = fs.map fun f => f.nm.data.toList := by
    have hq : ss.Perm (fs.map fun f => f.nm.data.toList) := by
      refine q1.trans (h2.trans ?_)
      have := hp.map fun f : Fi => f.nm.data.toList
      rw [List.map_map] at this
      exact this
    rw [mergeSort_of_perm hq]
    refine List.mergeSort_of_pairwise ?_
    rw [List.pairwise_map]
    exact hso.imp fun {a b} q => leB_of a.nm b.nm q
  have e2 : ss.length = (fs.map Fi.nm).length := by
    have := congrArg List.length e1
    simpa using this
  rw [e1, enc_flat, e2] at q2
  rw [show ss.length = fs.length by rw [e2, List.length_map]] at hvd
  refine ⟨v, rfl, ?_, hvd, hB⟩
  exact OwnX.less (b' := w.heap.size) (e := eS) q2 (by simp)
end
end Go.Proofs.YtcmkjjlchljffaaDoor

/- The landed disk: Names, with what stands behind the names. -/
namespace Go.Proofs.YtcmkjjlchljffaaDoor
open Go.RowKit
set_option linter.unusedVariables false
set_option maxRecDepth 100000
set_option maxHeartbeats 6400000

section
variable {B g mb : Nat} {w : World} {m : FMap} {sz wr : Nat} {lf : Int} {nm : ByteArray} {fs : List Fi}
theorem names_q (h : Ds B w g mb m sz lf wr) (hp : (m.map toFi).Perm fs) (hso : Sorted fs) (hl : fs.length ≤ 256) :
    Calls Tryd.prog 20 #[.pointer (some ⟨g, 0, none⟩)] w fun r w' => ∃ v, r = .returned v ∧ OwnX eS w.heap.size w' v (fs.map Fi.nm) ∧ Void w' v fs.length ∧ Below w.heap.size w w' := by
  have HM := hidU (made_yes h.at_)
  have q := h.files
  have HSrt := hidU (sorted_void h.mp hp hso hl)
  have HKs := hidU (callsIn_wide.1 (Tryd.maps_Keys_59 (some mb) w))
  obtain ⟨N, hN⟩ : ∃ N, Hid (N = fs.map Fi.nm) := ⟨_, (rfl : _ = fs.map Fi.nm)⟩
  have HN40 : Hid (∀ x ∈ N, x.size ≤ 40) := hidU (fun x hx => by
    rw [hN.out] at hx
    obtain ⟨f, hf, rfl⟩ := List.mem_map.1 hx
    obtain ⟨p, hp', rfl⟩ := List.mem_map.1 (hp.mem_iff.2 hf)
    exact h.ns p hp')
  have hNl : Hid (N.length ≤ 256) := hidU (by rw [hN.out, List.length_map]; exact hl)
  obtain ⟨FL, hFL⟩ : ∃ F, Hid (F = fs.length ∧ F = N.length) := ⟨_, rfl, by rw [hN.out, List.length_map]⟩
  rw [← hN.out, ← hFL.out.1] at HSrt ⊢
  clear h hp hso hl
  go_enter Tryd.func20, Tryd.ntmps20
  go_wp2_with (first
    | (go_at_call 33; refine HM.out.mono ?_; rintro _ w1 ⟨rfl, hw⟩; obtain rfl : w = w1 := hw.symm; clear hw)
    | (go_at_call 59; refine HKs.out.mono ?_; rintro _ w1 ⟨rfl, rfl⟩)
    | (go_at_call 58; refine HSrt.out.mono ?_; rintro _ w1 ⟨v, rfl, hO, hvd, hb⟩; refine Hid.out ?_))
  refine hidU ?_
  have HB := hidU hb
  have HO0 := hidU hO
  have HV := hidU hvd
  clear hb HSrt HKs q hvd
  obtain ⟨hlen, ⟨rfl, h0⟩ | ⟨gk, cap, cur, rfl, hg, hh, hc, hm, hs, ht⟩⟩ := hO
  · have hN0 : N = [] := List.length_eq_zero_iff.1 h0
    subst hN0
    clear h0 hlen
    go_wp2
    go_loopw [17] (fun j x => j = .int .i64 0 ∧ Hid (x = w1)) (fun _ _ => 0)
    case atStart => exact ⟨rfl, rfl⟩
    case round =>
      obtain ⟨rfl, hx⟩ := hrel
      go_wp2
      go_ret
      rw [hx.out]
      exact ⟨_, rfl, OwnX.nil _ _ _, fun k hk => (by cases hk), HB.out⟩
  · obtain ⟨n, hn⟩ : ∃ n, Hid (n = N.length) := ⟨_, (rfl : _ = N.length)⟩
    have hA0 := hidU (show At 9 w1 gk cur.toList from (show w1.heap[gk]? = some (.cells cur.toList.toArray 9 (0, 0)) from hh))
    have hcells : Hid (∀ i x, N[i]? = some x → cur.toList[i]? = some (Value.string x)) := hidU (fun i x hx => by
      have hil := (List.getElem?_eq_some_iff.1 hx).1
      have h1 := flat_at eS N i x hx 0 (Value.string x) rfl
      rw [← ht] at h1
      rw [show i * eS.n + 0 = i from Nat.mul_one i] at h1
      have hlt := (List.getElem?_eq_some_iff.1 h1).1
      rw [List.length_take] at hlt
      rwa [List.getElem?_take_of_lt (by omega)] at h1)
    have hcl : Hid (n ≤ cur.toList.length) := hidU (by
      have h9 : cur.toList.length = cap * 1 := by rw [Array.length_toList]; exact hs
      have := hn.out
      omega)
    rw [← hn.out]
    obtain ⟨cs, hcs⟩ : ∃ cs, cs = cur.toList := ⟨_, rfl⟩
    rw [← hcs] at hA0 hcells hcl
    have HOk : Hid (∀ x, At 9 x gk cs → OwnX eS w.heap.size x (.slice (some ⟨gk, 0, none⟩) n cap) N) := hidU (fun x hx => by
      rw [hn.out]
      refine ⟨hlen, .inr ⟨gk, cap, cur, rfl, hg, ?_, hc, hm, hs, ht⟩⟩
      rw [hcs] at hx
      have h1 : x.heap[gk]? = some (.cells cur.toList.toArray 9 (0, 0)) := hx
      rw [Array.toArray_toList] at h1
      exact h1)
    have HVk : Hid (∀ x, At 9 x gk cs → Void x (.slice (some ⟨gk, 0, none⟩) n cap) FL) := hidU (fun x hx k hk o u ho hu => by
      obtain rfl : gk = k := by simpa [Value.ownBlock] using hk
      refine HV.out gk rfl o u ho ?_
      rw [At.cell hx] at hu
      rw [At.cell hA0.out, ← hu])
    clear hcs hlen hg hh hc hm hs ht HO0 HV
    go_wp2
    go_loopw [17] (fun j x => ∃ i : Nat, j = .int .i64 (i : Int) ∧ i ≤ n ∧ Hid (At 9 x gk cs) ∧ Hid (Below w.heap.size w x)) (fun j _ => n - (intOf j).toNat)
    case atStart => exact ⟨0, rfl, by omega, hA0, HB⟩
    case round =>
      obtain ⟨i, rfl, hi, hA, HBx⟩ := hrel
      by_cases hc : i < n
      · obtain ⟨x, hx⟩ : ∃ x, Hid (N[i]? = some x) := ⟨N[i]'(by rw [← hn.out]; exact hc), hidU (List.getElem?_eq_getElem _)⟩
        have q1 : wr.cell? ⟨gk, i, none⟩ = some (.string x) := by rw [hA.out.cell]; exact hcells.out i x hx.out
        have HC := hidU (str_clone x wr (by have := HN40.out x (List.mem_of_getElem? hx.out); omega))
        have hw : IntKind.i64.wrap ((i : Int) + 1) = (i : Int) + 1 := by rw [IntKind.wrap_i64]; have := hNl.out; have := hn.out; omega
        go_wp2_with (first
          | (go_at_call 61; refine HC.out.mono ?_; rintro _ x1 ⟨rfl, hb1⟩; have hA1 := hA.out.below hb1)
          | (refine wpList_store1 rfl 9 (.tmp 26) (.tmp 25) rfl gk i (.string x) rfl rfl 9 _ hA1 (by have := hcl.out; omega) i9 rfl rfl ?_; intro x2 hA2 hb2 hs2; refine Hid.out ?_))
        refine hidU ?_
        have hset : cs.set i (Value.string x) = cs := by
          refine List.ext_getElem? fun j => ?_
          rw [List.getElem?_set]
          split
          · rename_i hj
            subst hj
            have := hcells.out i x hx.out
            rw [this]
            simp [(List.getElem?_eq_some_iff.1 this).1]
          · rfl
        rw [hset] at hA2
        have HA2 := hidU hA2
        have HB2 : Hid (Below w.heap.size w x2) := hidU (hb2.below (HBx.out.trans (hb1.mono HBx.out.size)) (by have := (HOk.out _ hA.out).block gk rfl; exact this.1) (HBx.out.trans (hb1.mono HBx.out.size)).size)
        clear hA1 hA2 hb1 hb2 hs2 hset q1
        go_wp2
        go_roundw
        · exact ⟨i + 1, by go_num, by omega, HA2, HB2⟩
        · simp [intOf]; omega
      · have hin : Hid (i = n) := hidU (by omega)
        go_wp2
        go_ret
        exact ⟨_, rfl, HOk.out _ hA.out, HVk.out _ hA.out, HBx.out⟩
end
end Go.Proofs.YtcmkjjlchljffaaDoor

/- The landed disk: slices.Clone of bytes, and Read, with what stands behind the bytes. -/
namespace Go.Proofs.YtcmkjjlchljffaaDoor
open Go.RowKit
set_option linter.unusedVariables false
set_option maxRecDepth 100000
set_option maxHeartbeats 3200000

/-- Behind the n-th cell of a value's own block there are noughts alone. -/
def VoidB (W : World) (v : Value) (n : Nat) : Prop := ∀ k, v.ownBlock = some k → ∀ o u, n ≤ o → W.cell? ⟨k, o, none⟩ = some u → u = .int .u8 0
/-- Bytes that were told, with their room. -/
def RmB (base : Nat) (w : World) (v : Value) (bs : List UInt8) : Prop := (bs = [] ∧ ∃ a, v = .slice a 0 0) ∨ (OwnX eB base w v bs ∧ VoidB w v bs.length)
theorem wpList_ap {ops : Array Oper} {rest : List Oper} {o : Oper} {a : Act} {w : World} {Q : Exit → Act → World → Prop} (hgd : o.guard = none) (s x : Operand) (t : TypeId)
    (ho : o.op = .call { callee := .builtin .append, args := #[s, x], argTypes := #[t, t] })
    (base : Nat) (e : TypeId) (i : TypeInfo) (z : Value) (size bytes : Nat) (ht : Tryd.prog.underlying t = some (.slice e)) (hi : Tryd.prog.info? e = some i) (hz : i.zero = some z)
    (hsize : i.size = size) (hby : i.bytes = bytes) (hzs : z.cells.size = size) (hsz : 0 < size)
    (v : Value) (n : Nat) (xs : List Value) (hs : a.eval s = v) (hown : w.ownsRow base e size v n xs)
    (ad : Addr) (m c : Nat) (news : List Value) (hx : a.eval x = .slice (some ad) m c) (hl : news.length = m * size) (hnews : ∀ j u, news[j]? = some u → w.cell? (ad.add j) = some u) (h1 : ∀ u ∈ news, u.oneCell' = true)
    (hm : 0 < m) (h63 : n + m ≤ maxLen) (hbytes : (n + m) * bytes ≤ 140737488355328) (hbase : base ≤ w.heap.size)
    (R : Value → Prop) (hR : ∀ k, v.ownBlock = some k → ∀ o u, n * size ≤ o → w.cell? ⟨k, o, none⟩ = some u → R u) (hZ : ∀ u ∈ z.cells.toList, R u)
    (h : ∀ g cap w', w'.ownsRow base e size (.slice (some ⟨g, 0, none⟩) (n + m) cap) (n + m) (xs ++ news) → w.grownBy w' v.ownBlock → (∀ o u, (n + m) * size ≤ o → w'.cell? ⟨g, o, none⟩ = some u → R u) → wpList Tryd.prog ops Q rest (a.put o.dst (.slice (some ⟨g, 0, none⟩) (n + m) cap)) w') : wpList Tryd.prog ops Q (o :: rest) a w := by
  obtain ⟨g, cap, w', hr, h2, h3, h4, h5, h6⟩ := run_append_rest (P := Tryd.prog) w t o.type base e i z size bytes ht hi hz hsize hby hzs hsz v n xs hown ad m c news hl hnews h1 hm h63 hbytes hbase R hR hZ
  refine wpList_plain hgd fun K hK => ?_
  unfold Oper.wp execOp
  simp only [ho, resolve, invoke, builtin, Sem.run_bind, Sem.run_pure, Result.andThen_ok, List.map_toArray, List.map_cons, List.map_nil, hs, hx, hr]
  exact hK _ _ (h g cap w' h2 h3 h6)
theorem clone_room (ad : Addr) (n c : Nat) (bs : List UInt8) (w : World) (h : Row w (some ad) bs) (hn : bs.length = n) (hc : n ≤ c) (hm : n ≤ 140737488355328) :
    Calls Tryd.prog 50 #[.slice (some ad) n c] w fun r w' => ∃ v, r = .returned v ∧ RmB w.heap.size w' v bs ∧ Below w.heap.size w w' := by
  have HR := hidU (rowB.2 h)
  have hq : (binOp .eql 29 (.slice (some ad) n c) (.slice none 0 0)).run Tryd.prog w = .ok (.bool false) w := Lib.run_eql_slice_nil w 29 _ (some ad) n c 0 0 Tryd.underlying29
  clear h
  go_enter Tryd.func50, Tryd.ntmps50
  go_wp2_with (refine wpList_layB0 rfl rfl ?_; intro w1 hO hb hs; refine Hid.out ?_)
  have HR1 := hidU (HR.out.below hb)
  have HO := hidU hO
  have HB := hidU hb
  have hbase : w.heap.size ≤ w1.heap.size := hb.size
  obtain ⟨g1, hg1⟩ : ∃ g, g = w.heap.size := ⟨_, rfl⟩
  rw [← hg1]
  have HO1 : Hid (OwnX eB w.heap.size w1 (.slice (some ⟨g1, 0, none⟩) 0 0) []) := hidU (by rw [hg1]; exact HO.out)
  refine hidU ?_
  clear hs hO hb HO hg1
  obtain ⟨i0, hi, hz0, hz1, hz2⟩ := info_parts eB.info
  cases n with
  | zero =>
    have hb0 : bs = [] := List.length_eq_zero_iff.1 hn
    subst hb0
    go_wp2_with (refine wpList_append_fits_any w1 rfl (.tmp 5) (.tmp 6) 29 rfl w.heap.size 5 i0 1 eB.und hi hz1 g1 0 0 [] rfl HO1.out (some ad) 0 c [] rfl rfl (fun h => by cases h) (fun _ _ j u hj => by simp at hj) (fun u hu => by cases hu) (Nat.le_refl _) ?_; intro w2 hO2 hg; refine Hid.out ?_)
    have HB2 : Hid (Below w.heap.size w w2) := by
      refine HB.out.trans ?_
      exact (Chg.of_grown (K := fun k => w.heap.size ≤ k) hg (fun k hk => (HO1.out.block k hk).1)).below hbase (fun k hk => hk)
    refine hidU ?_
    clear hg hO2
    go_wp2
    go_ret
    exact ⟨_, rfl, .inl ⟨rfl, _, rfl⟩, HB2.out⟩
  | succ n =>
    have hv1 : VoidB w1 (.slice (some ⟨g1, 0, none⟩) 0 0) 0 := fun k hk o u ho hu => by
      obtain rfl : g1 = k := by simpa [Value.ownBlock] using hk
      rcases HO1.out.2 with ⟨e, _⟩ | ⟨g, cap, cur, e, _, hh, _, _, hs, _⟩
      · cases e
      · simp only [Value.slice.injEq, Option.some.injEq, Addr.mk.injEq] at e
        obtain ⟨⟨rfl, _⟩, _, rfl⟩ := e
        rw [cell_of_row _ g1 o _ _ (0, 0) hh, Array.getElem?_eq_none (by rw [hs]; omega)] at hu
        cases hu
    have HN : Hid (∀ j u, (eB.flat bs)[j]? = some u → w1.cell? (ad.add j) = some u) := hidU (fun j u hj => by
      rcases HR1.out with h0 | ⟨g, off, hb, hr⟩
      · rw [h0] at hj; simp [El.flat] at hj
      · cases hb
        rw [add_none]
        exact hr j u hj)
    go_wp2_with (refine wpList_ap rfl (.tmp 5) (.tmp 6) 29 rfl w.heap.size 5 i0 (.int .u8 0) 1 1 eB.und hi hz0 hz1 hz2 rfl (by decide) (.slice (some ⟨g1, 0, none⟩) 0 0) 0 [] rfl HO1.out ad (n + 1) c (eB.flat bs) rfl (by rw [flat_len, hn]; rfl) HN.out (flat_one eB bs) (by omega) (by unfold maxLen; omega) (by omega) hbase (fun u => u = .int .u8 0) (fun k hk o u ho hu => hv1 k hk o u (by omega) hu) (fun u hu => by simpa [Value.cells] using hu) ?_; intro g2 cap2 w2 hO2 hg hvd; refine Hid.out ?_)
    have HB2 : Hid (Below w.heap.size w w2) := by
      refine HB.out.trans ?_
      exact (Chg.of_grown (K := fun k => w.heap.size ≤ k) hg (fun k hk => (HO1.out.block k hk).1)).below hbase (fun k hk => hk)
    have HO2 : Hid (OwnX eB w.heap.size w2 (.slice (some ⟨g2, 0, none⟩) (n + 1) cap2) bs) := hidU (by
      have q := hO2
      simp only [Nat.zero_add, List.nil_append] at q
      unfold OwnX
      rw [hn]
      exact q)
    have HV2 : Hid (VoidB w2 (.slice (some ⟨g2, 0, none⟩) (n + 1) cap2) bs.length) := hidU (fun k hk o u ho hu => by
      obtain rfl : g2 = k := by simpa [Value.ownBlock] using hk
      exact hvd o u (by omega) hu)
    refine hidU ?_
    clear hg hvd hO2
    go_wp2
    go_ret
    exact ⟨_, rfl, .inr ⟨HO2.out, HV2.out⟩, HB2.out⟩
theorem clone_rm (a : Option Addr) (n c : Nat) (bs : List UInt8) (w : World) (h : Row w a bs) (hn : bs.length = n) (hc : n ≤ c) (h0 : a = none → c = 0) (hm : n ≤ 140737488355328) :
    Calls Tryd.prog 50 #[.slice a n c] w fun r w' => ∃ v, r = .returned v ∧ RmB w.heap.size w' v bs ∧ Below w.heap.size w w' := by
  cases a with
  | some ad => exact clone_room ad n c bs w h hn hc hm
  | none =>
    have := h0 rfl
    have hb : bs = [] := List.length_eq_zero_iff.1 (by omega)
    refine (clone_nil n c w).mono ?_
    rintro r w' ⟨rfl, rfl⟩
    exact ⟨_, rfl, .inl ⟨hb, none, rfl⟩, Below.refl _ _⟩
theorem RmB.less {b b' : Nat} {w : World} {v : Value} {bs : List UInt8} (h : RmB b w v bs) (hb : b' ≤ b) : RmB b' w v bs := h.imp id fun q => ⟨q.1.less hb, q.2⟩
end Go.Proofs.YtcmkjjlchljffaaDoor

/- The landed disk: Read, with what stands behind the bytes; the whole face. -/
namespace Go.Proofs.YtcmkjjlchljffaaDoor
open Go.RowKit
set_option linter.unusedVariables false
set_option maxRecDepth 100000
set_option maxHeartbeats 6400000

section
variable {B g mb : Nat} {w : World} {m : FMap} {sz wr : Nat} {lf : Int} {nm : ByteArray} {fs : List Fi}
theorem read_q {f : FM} (h : Ds B w g mb m sz lf wr) (hl : lookM m nm = some f) (hb : f.bs.length ≤ 67108864) (hs : nm.size ≤ 9223372036854775807) : Calls Tryd.prog 13 #[.pointer (some ⟨g, 0, none⟩), .string nm] w fun r w' => ∃ v, r = .returned (.tuple #[v, .int .i64 0]) ∧ RmB w.heap.size w' v f.bs ∧ Below w.heap.size w w' := by
  have HL := hidU (lacks_p h hs)
  rw [show lkZ m nm = 0 by unfold lkZ; rw [hl]; rfl] at HL
  obtain ⟨a, n, c, bs, sf, hd, rfl, hn, hnc, hcm, hn0, hR, hO⟩ := look_parts h hl
  have q := h.files
  have HP := hidU h.mp
  have H := hidU h
  have HRr := hidU hR
  have HLk := hidU hl
  simp only at hb
  clear h hl hR hO
  go_enter Tryd.func13, Tryd.ntmps13
  go_wp2_with (go_at_call 49; refine HL.out.mono ?_; rintro _ w1 ⟨rfl, hb1⟩; refine Hid.out ?_)
  refine hidU ?_
  have HB1 := hidU hb1
  have q1 := (hb1.cell (lt_of_cell q)).trans q
  have HC := hidU (clone_rm a n c bs w1 (HRr.out.below HB1.out) hn hnc hn0 (by omega))
  have HP1 := hidU (HP.out.below HB1.out)
  clear hb1 q HL
  have hfi : (Instr.field 66 (.agg #[.slice a n c, .int .i64 (sf : Int), .bool hd]) 0).run Tryd.prog w1 = .ok (.slice a n c) w1 := by kernel_rfl
  go_wp2_with (first
    | (refine wpList_look mF rfl (.tmp 16) (.tmp 17) false rfl nm rfl rfl HP1.out hs (.agg #[.slice a n c, .int .i64 (sf : Int), .bool hd]) (by rw [HLk.out]; rfl) ?_)
    | (go_at_call 50; refine HC.out.mono ?_; rintro _ w2 ⟨v, rfl, hO2, hb2⟩))
  go_ret2
  exact ⟨v, rfl, hO2.less HB1.out.size, HB1.out.trans (hb2.mono HB1.out.size)⟩
end
theorem void_all {base : Nat} {w : World} {v : Value} {xs : List ByteArray} (h : OwnX eS base w v xs) (h40 : ∀ x ∈ xs, x.size ≤ 40) (hv : Void w v xs.length) : ∀ k cs, v.ownBlock = some k → At 9 w k cs → AllS cs := fun k cs hk hA i u hu => by
  obtain ⟨hlen, ⟨rfl, h0⟩ | ⟨g, cap, cur, rfl, hg, hh, hc, hm, hs, ht⟩⟩ := h
  · cases hk
  obtain rfl : g = k := by simpa [Value.ownBlock] using hk
  have hcell : w.cell? ⟨g, i, none⟩ = some u := by rw [At.cell hA]; exact hu
  by_cases hi : i < xs.length
  · rw [cell_of_row _ g i _ _ (0, 0) hh] at hcell
    obtain ⟨x, hx⟩ : ∃ x, xs[i]? = some x := ⟨_, List.getElem?_eq_getElem hi⟩
    have h1 := flat_at eS xs i x hx 0 (Value.string x) rfl
    rw [← ht, show i * eS.n + 0 = i from Nat.mul_one i] at h1
    have hlt := (List.getElem?_eq_some_iff.1 h1).1
    rw [List.length_take] at hlt
    rw [List.getElem?_take_of_lt (by omega), Array.getElem?_toList, hcell] at h1
    cases h1
    exact ⟨x, rfl, Nat.le_trans (h40 x (List.mem_of_getElem? hx)) (by decide)⟩
  · obtain rfl := hv g rfl i u (by omega) hcell
    exact ⟨_, rfl, by decide⟩
theorem voidB_all {base : Nat} {w : World} {v : Value} {bs : List UInt8} (h : OwnX eB base w v bs) (hv : VoidB w v bs.length) : ∀ k cs, v.ownBlock = some k → At 5 w k cs → AllU cs := fun k cs hk hA i u hu => by
  obtain ⟨hlen, ⟨rfl, h0⟩ | ⟨g, cap, cur, rfl, hg, hh, hc, hm, hs, ht⟩⟩ := h
  · cases hk
  obtain rfl : g = k := by simpa [Value.ownBlock] using hk
  have hcell : w.cell? ⟨g, i, none⟩ = some u := by rw [At.cell hA]; exact hu
  by_cases hi : i < bs.length
  · rw [cell_of_row _ g i _ _ (0, 0) hh] at hcell
    obtain ⟨x, hx⟩ : ∃ x, bs[i]? = some x := ⟨_, List.getElem?_eq_getElem hi⟩
    have h1 := flat_at eB bs i x hx 0 (Value.int .u8 (x.toNat : Int)) rfl
    rw [← ht, show i * eB.n + 0 = i from Nat.mul_one i] at h1
    have hlt := (List.getElem?_eq_some_iff.1 h1).1
    rw [List.length_take] at hlt
    rw [List.getElem?_take_of_lt (by omega), Array.getElem?_toList, hcell] at h1
    cases h1
    exact ⟨x, rfl⟩
  · obtain rfl := hv g rfl i u (by omega) hcell
    exact ⟨0, rfl⟩
theorem face_strong : Face True CDp where
  newBad := fun {n w} h => new_bad n w h
  newOk := fun {n w} B h1 h2 hB => by
    refine (new_ok n w h1 h2).mono ?_
    rintro r w' ⟨g, mb, rfl, hD, hb⟩
    exact ⟨g, _, _, rfl, ⟨mb, [], CDv.of (hD.less hB) (List.Perm.refl _)⟩, hb, fun k hk => hD.base k hk⟩
  same := fun {B w w' g W F d} ⟨mb, m, h⟩ h1 h2 => ⟨mb, m, h.same h1 h2⟩
  lt := fun {B w g W F d} ⟨mb, m, h⟩ => h.lt
  wf := fun {B w g W F d} ⟨mb, m, h⟩ => h.wf
  names := fun {B w g W F d} ⟨mb, m, h⟩ hd hso => by
    refine (names_q h.ds h.fs hso hd.ln).mono ?_
    rintro r w' ⟨v, rfl, hO, hvd, hb⟩
    exact ⟨v, rfl, .inr ⟨hO, fun _ => void_all hO (fun x hx => by
      obtain ⟨f, hf, rfl⟩ := List.mem_map.1 hx
      obtain ⟨p, hp', rfl⟩ := List.mem_map.1 (h.fs.mem_iff.2 hf)
      exact h.ds.ns p hp') (by rw [List.length_map]; exact hvd)⟩, hb⟩
  readNo := fun {B w g W F d nm} ⟨mb, m, h⟩ hd hs hf => read_none h.ds (by
    rw [h.find] at hf
    exact Option.map_eq_none_iff.1 hf) hs
  readYes := fun {B w g W F d nm f} ⟨mb, m, h⟩ hd hs hf => by
    rw [h.find] at hf
    obtain ⟨x, hx, rfl⟩ := Option.map_eq_some_iff.1 hf
    refine (read_q h.ds hx (Nat.le_trans (sum_mem (look_mem hx)) (h.sums hd)) hs).mono ?_
    rintro r w' ⟨v, rfl, hO, hb⟩
    exact ⟨v, rfl, hO.imp id fun q => ⟨q.1, fun _ => voidB_all q.1 q.2⟩, hb⟩
  used := fun {B w g W F d} ⟨mb, m, h⟩ hd => by
    have := used_p h.ds (h.sums hd)
    rwa [h.sum] at this
  size := fun {B w g W F d} ⟨mb, m, h⟩ => (size_p h.ds).mono (by rintro r w' ⟨rfl, rfl⟩; exact ⟨rfl, Below.refl _ _⟩)
  loose := fun {B w g W F d nm} ⟨mb, m, h⟩ hd hs => by
    have := loose_p h.ds hs fun p hp => by
      have h1 := h.hsf hd p hp
      have h2 := sum_mem hp
      have h3 := h.sums hd
      omega
    rwa [show lsM m nm = lsD d.fs nm by unfold lsM lsD; rw [h.find]; cases lookM m nm <;> rfl] at this
  stopped := fun {B w g W F d} ⟨mb, m, h⟩ => (stopped_p h.ds).mono (by rintro r w' ⟨rfl, rfl⟩; exact ⟨rfl, Below.refl _ _⟩)
  writes := fun {B w g W F d} ⟨mb, m, h⟩ => (writes_p h.ds).mono (by rintro r w' ⟨rfl, rfl⟩; exact ⟨rfl, Below.refl _ _⟩)
  append := fun {B w g W F d nm ba lb bc b} ⟨mb, m, h⟩ hd _ _ hs hr h1 h2 h3 _ _ => append_f h hd hs hr h1 h2 h3
  cut := fun {B w g W F d nm z} ⟨mb, m, h⟩ hd _ _ hs => cut_f h hd hs
  sync := fun {B w g W F d nm} ⟨mb, m, h⟩ hd _ _ hs => sync_f h hd hs
  rename := fun {B w g W F d nm to} ⟨mb, m, h⟩ hd _ _ hs hs2 => rename_f h hd hs hs2
  remove := fun {B w g W F d nm} ⟨mb, m, h⟩ hd _ _ hs => remove_f h hd hs
  stop := fun {B w g W F d z} ⟨mb, m, h⟩ _ => stop_f h
  crash := fun {B w g W F d ta nt tc torn} ⟨mb, m, h⟩ hd hso _ hr h1 h2 h3 h4 => crash_f h hd hso hr h1 h2 h3 h4
  clone := fun {B w g W F d} ⟨mb, m, h⟩ hd hB => by
    refine (clone_p h.ds (h.hsf hd) (h.sums hd)).mono ?_
    rintro r w' ⟨gc, mc, m', rfl, hD, hp, hb⟩
    exact ⟨gc, _, _, rfl, ⟨mc, m', CDv.of (hD.less hB) (hp.trans h.fs)⟩, hb, fun k hk => hD.base k hk, fun k hk => .inr (hD.base k hk)⟩
end Go.Proofs.YtcmkjjlchljffaaDoor

/- Calls and numbers that came in. -/
namespace Go.Proofs.YtcmkjjlchljffaaDoor
open Go.ChangeShapes Go.WideShapes Go.ChangeAt Go.RowKit
set_option linter.unusedVariables false

theorem i64_of {x : Int} (h : (Lit.int .i64 x).wf = true) : -9223372036854775808 ≤ x ∧ x ≤ 9223372036854775807 := by simpa [Lit.wf, IntKind.min, IntKind.max, IntKind.signed, IntKind.bits] using h
theorem u8_of {x : Int} (h : (Lit.int .u8 x).wf = true) : ∃ b : UInt8, x = (b.toNat : Int) := by
  have h2 : 0 ≤ x ∧ x ≤ 255 := by simpa [Lit.wf, IntKind.min, IntKind.max, IntKind.signed, IntKind.bits] using h
  refine ⟨UInt8.ofNat x.toNat, ?_⟩
  have : (UInt8.ofNat x.toNat).toNat = x.toNat := ub_toNat x.toNat (by omega)
  omega
section
variable {H : Type} {enc : TypeId × Value → H} {w : World} {sp : Nat → Bool} {held : Bool}
/-- A row that came in, of any kind of elements. -/
theorem open_x {α : Type} [Inhabited α] (e : El α) (hcl : Tryd.prog.cellsOf e.E = e.n) (P : α → Prop) {fuel : Nat} {cs : List Value} {y : DataW H × List MemPlace}
    (ho : ∀ k cs z, DataW.trod enc Tryd.prog w 0 sp held k e.E cs = some z → ∃ a, cs = e.cl a ∧ P a) (h : DataW.trod enc Tryd.prog w 0 sp held fuel e.T cs = some y) :
    ∃ (a : Option Addr) (c : Nat) (xs : List α), cs = [.slice a xs.length c] ∧ xs.length ≤ c ∧ c ≤ maxLen ∧ (a = none → c = 0) ∧ (∀ x ∈ xs, P x) ∧ RowX e w a xs ∧ (xs ≠ [] → ∀ ad, a = some ad → ad.block < w.heap.size) := by
  rcases Go.Deep.open_slice e.und h with ⟨rfl, _⟩ | ⟨x, len, cap, m, n, D, Pl, rfl, _, hl, hm, hmm, hx, hcell⟩
  · exact ⟨none, 0, [], rfl, Nat.le_refl _, Nat.zero_le _, fun _ => rfl, by simp, .inl rfl, fun h => absurd rfl h⟩
  · have hlm : len ≤ m := by rw [hmm]; split <;> omega
    have each : ∀ r, r < len → ∃ a : α, w.cells? 0 (x.add (r * e.n)) e.n = some (e.cl a) ∧ P a := by
      intro r hr
      obtain ⟨cs, h1, h2⟩ := hcell r (by omega)
      rw [hcl] at h1
      obtain ⟨a, he, hp⟩ := ho _ _ _ h2
      exact ⟨a, by rw [h1, he], hp⟩
    obtain ⟨q, hq⟩ := Go.Deep.choose_lt each
    have hlen : ((List.range len).map q).length = len := by simp
    by_cases h0 : len = 0
    · subst h0
      exact ⟨some x, cap, [], rfl, hl, hm, (fun h => by cases h), by simp, .inl rfl, fun h => absurd rfl h⟩
    have hpos := e.pos
    obtain ⟨g, o, spot⟩ := x
    obtain ⟨v0, hv0⟩ : ∃ v, (e.cl (q 0))[0]? = some v := ⟨_, List.getElem?_eq_getElem (by rw [e.len]; exact hpos)⟩
    have hsp : spot = none := by
      obtain ⟨_, _, hcc⟩ := World.cells?_some (hq 0 (by omega)).1
      have := hcc 0 hpos
      rw [hv0, Nat.zero_mul] at this
      have h2 : w.cell? ⟨g, o, spot⟩ = some v0 := by simpa [Addr.add] using this
      exact World.cell?_spot h2
    subst hsp
    have hcc : ∀ i, i < len → ∀ j v, (e.cl (q i))[j]? = some v → w.cell? ⟨g, o + (i * e.n + j), none⟩ = some v := by
      intro i hi j v hj
      obtain ⟨_, hln, hcc⟩ := World.cells?_some (hq i hi).1
      have hjn : j < e.n := by have := (List.getElem?_eq_some_iff.1 hj).1; rwa [e.len] at this
      have := hcc j hjn
      rw [hj, add_none, add_none, Nat.add_assoc] at this
      exact this
    have h00 := hcc 0 (by omega) 0 v0 hv0
    refine ⟨some ⟨g, o, none⟩, cap, (List.range len).map q, by rw [hlen], by rw [hlen]; exact hl, hm, (fun h => by cases h), fun y hy => ?_, ?_, ?_⟩
    · obtain ⟨i, hi, rfl⟩ := List.mem_map.1 hy
      exact (hq i (by simpa using hi)).2
    · refine .inr ⟨g, o, rfl, fun j v hj => ?_⟩
      have hjl : j < len * e.n := by have := (List.getElem?_eq_some_iff.1 hj).1; rwa [flat_len, hlen] at this
      have hd : j / e.n < len := by rw [Nat.div_lt_iff_lt_mul hpos]; exact hjl
      have hmod := Nat.mod_lt j hpos
      have hjj : j / e.n * e.n + j % e.n = j := by rw [Nat.mul_comm]; exact Nat.div_add_mod j e.n
      obtain ⟨u, hu⟩ : ∃ u, (e.cl (q (j / e.n)))[j % e.n]? = some u := ⟨_, List.getElem?_eq_getElem (by rw [e.len]; exact hmod)⟩
      have h2 := flat_at e ((List.range len).map q) (j / e.n) (q (j / e.n)) (by simp [hd]) (j % e.n) u hu
      rw [hjj, hj] at h2
      cases h2
      have h3 := hcc _ hd _ _ hu
      rw [hjj] at h3
      exact h3
    · rintro _ ad ⟨⟩
      exact (lt_of_cell h00 : (Addr.mk g (o + (0 * e.n + 0)) none).block < w.heap.size)
theorem open_byte (k : Nat) (cs : List Value) (z : DataW H × List MemPlace) (h : DataW.trod enc Tryd.prog w 0 sp held k 5 cs = some z) : ∃ b : UInt8, cs = eB.cl b ∧ True := by
  obtain ⟨x, e0, -, hw⟩ := DataW.trod_int Tryd.underlying5 h
  obtain ⟨b, rfl⟩ := u8_of hw
  exact ⟨b, e0, trivial⟩
theorem open_num (k : Nat) (cs : List Value) (z : DataW H × List MemPlace) (h : DataW.trod enc Tryd.prog w 0 sp held k 3 cs = some z) : ∃ x : Int, cs = eI.cl x ∧ True := by
  obtain ⟨x, e0, -, hw⟩ := DataW.trod_int Tryd.underlying3 h
  exact ⟨x, e0, trivial⟩
set_option maxRecDepth 100000 in
theorem open_act (k : Nat) (cs : List Value) (z : DataW H × List MemPlace) (h : DataW.trod enc Tryd.prog w 0 sp held k 84 cs = some z) : ∃ a : AT, cs = a.cells ∧ (a.In0 w.heap.size w ∧ a.ac.z ≤ 9223372036854775807) := by
  obtain ⟨xs, k, hk, hxy, hl, hxl, hf⟩ := DataW.trod_struct Tryd.underlying84 h
  have hl6 : cs.length = 6 := hl
  match cs, hl6 with
  | [v0, v1, v2, v3, v4, v5], _ =>
    have g0 := hf 0 _ rfl
    have g1 := hf 1 _ rfl
    have g2 := hf 2 _ rfl
    have g3 := hf 3 _ rfl
    have g4 := hf 4 _ rfl
    have g5 := hf 5 _ rfl
    match xs, hxl with
    | [y0, y1, y2, y3, y4, y5], _ =>
      obtain ⟨kd, e0, _, hw0⟩ := DataW.trod_int Tryd.underlying3 (show DataW.trod enc Tryd.prog w 0 sp held k 3 [v0] = some y0 from g0)
      obtain ⟨nm, e1, _, hz1⟩ := DataW.trod_string Tryd.underlying9 (show DataW.trod enc Tryd.prog w 0 sp held k 9 [v1] = some y1 from g1)
      obtain ⟨to, e2, _, hz2⟩ := DataW.trod_string Tryd.underlying9 (show DataW.trod enc Tryd.prog w 0 sp held k 9 [v2] = some y2 from g2)
      obtain ⟨z, e3, _, hw3⟩ := DataW.trod_int Tryd.underlying3 (show DataW.trod enc Tryd.prog w 0 sp held k 3 [v3] = some y3 from g3)
      obtain ⟨ba, bc, bs, e4, b1, b2, b3, _, b5, b6⟩ := open_x eB (by kernel_rfl) (fun _ => True) open_byte (show DataW.trod enc Tryd.prog w 0 sp held k 29 [v4] = some y4 from g4)
      obtain ⟨ta, tc, ts, e5, t1, t2, t3, _, t5, t6⟩ := open_x eI (by kernel_rfl) (fun _ => True) open_num (show DataW.trod enc Tryd.prog w 0 sp held k 52 [v5] = some y5 from g5)
      have e0' : v0 = .int .i64 kd := by simpa using e0
      have e1' : v1 = .string nm := by simpa using e1
      have e2' : v2 = .string to := by simpa using e2
      have e3' : v3 = .int .i64 z := by simpa using e3
      have e4' : v4 = .slice ba bs.length bc := by simpa using e4
      have e5' : v5 = .slice ta ts.length tc := by simpa using e5
      subst e0' e1' e2' e3' e4' e5'
      have b7 := i64_of hw3
      exact ⟨⟨⟨kd, nm, to, z, bs, ts⟩, ba, bc, ta, tc⟩, rfl, ⟨rowB.1 b5, b1, b3, b6, t5, t1, t3, t6, hz1, hz2⟩, b7.2⟩
end
end Go.Proofs.YtcmkjjlchljffaaDoor

/- A world that lays what the cards list; the walks want nothing of it. -/
namespace Go.Proofs.YtcmkjjlchljffaaDoor
open Go.ChangeShapes Go.WideShapes Go.ChangeAt Go.RowKit
set_option linter.unusedVariables false

def laidL : List (String × DataW Unit) := [("unicode/utf8.acceptRanges", Rows.laid_unicode_utf8_acceptRanges), ("unicode/utf8.first", Rows.laid_unicode_utf8_first)]

set_option maxRecDepth 100000 in
/-- That world meets the condition. -/
theorem door_met (os : Os) (args : Array Value) : laidMetH Tryd.prog laidL ((World.laidAll Tryd.prog os laidL).forCall (fun _ _ => 0) ⟨#[], args, []⟩).memory := by
  rw [MakeChecks.laidMetH_plain _ _ _ (by kernel_rfl)]
  exact laidMet_laidAll _ (by kernel_rfl) (by kernel_rfl)
end Go.Proofs.YtcmkjjlchljffaaDoor
