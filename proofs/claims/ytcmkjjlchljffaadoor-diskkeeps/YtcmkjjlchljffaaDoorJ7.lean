/- Joined texts of the proof. -/
import Derived.Test.YtcmkjjlchljffaaDoorJ6
import Derived.Test.YtcmkjjlchljffaaDoorJ3
import Derived.WalkKit
import Derived.ProofKit
import Derived.OpenShut
import Derived.ShutString
import Derived.ChangeOld
import Derived.Below
import Derived.Deep.Slices
import Derived.ChangeSame
import Derived.Test.YtcmkjjlchljffaaDoorRows
import Derived.Lay
import Derived.MakeChecks

/- The landed disk: a file is torn. -/
namespace Go.Proofs.YtcmkjjlchljffaaDoor
open Go.RowKit
set_option linter.unusedVariables false
set_option maxRecDepth 100000
set_option maxHeartbeats 6400000

theorem cut_t (a : Option Addr) (n c : Nat) (bs : List UInt8) (sf : Nat) (hd : Bool) (t : Nat) (w : World) (h : Row w a bs) (hn : bs.length = n) (hc : n ≤ c) (h0 : a = none → c = 0) (hz : t ≤ n) (hm : n ≤ 67108864) (hsf : sf ≤ t) :
    Calls Tryd.prog 53 #[.agg #[.slice a n c, .int .i64 (sf : Int), .bool hd], .int .i64 (t : Int)] w fun r w' => ∃ av cv, r = .returned (.agg #[.slice av t cv, .int .i64 (sf : Int), .bool hd]) ∧ OwnX eB w.heap.size w' (.slice av t cv) (bs.take t) ∧ Below w.heap.size w w' := by
  refine (cut_any a n c bs sf hd t w h hn hc h0 hz hm (by omega)).mono ?_
  rintro r w' ⟨v, rfl, hO, hb⟩
  obtain ⟨av, cv, rfl⟩ := own_slice hO
  have hl : (bs.take t).length = t := by rw [List.length_take]; omega
  rw [hl] at hO ⊢
  rw [show min sf t = sf by omega]
  exact ⟨av, cv, rfl, hO, hb⟩
theorem tear_p {B g mb : Nat} {w : World} {m : FMap} {sz wr : Nat} {lf : Int} {nm : ByteArray} {a : Option Addr} {n c : Nat} {bs : List UInt8} {sf : Nat} {hd : Bool} (h : Ds B w g mb m sz lf wr) (hl : lookM m nm = some ⟨.slice a n c, bs, sf, hd⟩) (hsn : sf ≤ n) (hns : n ≤ 67108864) (z : Int) (t : Nat) (ht : t = sf + (min (max z 0) ((n : Int) - (sf : Int))).toNat) :
    Calls Tryd.prog 60 #[.pointer (some ⟨g, 0, none⟩), .string nm, .int .i64 z] w fun r w' => r = .returned (.tuple #[]) ∧ ((t = 0 ∧ hd = false) → Wrt B w w' mb m (delM m nm)) ∧ (¬ (t = 0 ∧ hd = false) → ∃ v, Wrt B w w' mb m (updM m nm ⟨v, bs.take t, t, hd⟩)) := by
  obtain ⟨a', n', c', bs', sf', hd', e, hn, hnc, _, hn0, hR, hO⟩ := look_parts h hl
  injection e with e1 e2 e3 e4
  injection e1 with e5 e6 e7
  subst e5 e6 e7 e2 e3 e4
  have h40 : nm.size ≤ 40 := h.ns _ (look_mem hl)
  have hs : nm.size ≤ maxLen := by unfold maxLen; omega
  obtain ⟨K, hK⟩ : ∃ K : Int, Hid (max z 0 = K) := ⟨_, (rfl : max z 0 = _)⟩
  obtain ⟨J, hJ⟩ : ∃ J : Int, Hid (min K ((n : Int) - (sf : Int)) = J) := ⟨_, (rfl : min K _ = _)⟩
  have hst : sf ≤ t := by omega
  have htn : t ≤ n := by omega
  have hJt : (sf : Int) + J = (t : Int) := by have := hJ.out; have := hK.out; omega
  have hW : Hid (IntKind.i64.wrap ((sf : Int) + J) = (t : Int)) := hidU (by rw [hJt, IntKind.wrap_i64]; omega)
  have q := h.files
  have HP := hidU h.mp
  have H := hidU h
  have HRr := hidU hR
  have HL := hidU hl
  clear h hl hR hO ht hJt
  go_enter Tryd.func60, Tryd.ntmps60
  go_wp2_with (first
    | (refine wpList_look mF rfl (.tmp 10) (.tmp 11) false rfl nm rfl rfl HP.out hs (.agg #[.slice a n c, .int .i64 (sf : Int), .bool hd]) (by rw [HL.out]; rfl) ?_)
    | (refine wpList_alloc_at rfl 66 rfl [.slice none 0 0, .int .i64 0, .bool false] 3 z66 ?_; intro x1 hA1 hb1 hs1)
    | (refine wpList_store_at rfl 66 (.tmp 6) (.tmp 12) rfl w.heap.size [.slice a n c, .int .i64 (sf : Int), .bool hd] rfl rfl 66 _ hA1 i66 rfl one3 ?_; intro w1 hA2 hb2 hs2; refine Hid.out ?_))
  refine hidU ?_
  obtain ⟨G, hG⟩ : ∃ k, k = w.heap.size := ⟨_, rfl⟩
  have HB1 := hidU (hb2.below hb1 (Nat.le_refl _) hb1.size)
  rw [← hG] at hA2 ⊢
  have HAG := hidU hA2
  have hGl : w.heap.size ≤ G := Nat.le_of_eq hG.symm
  have e0 : w1.cell? ⟨G, 0, none⟩ = some (.slice a n c) := by rw [HAG.out.cell]; rfl
  have e1 : w1.cell? ⟨G, 1, none⟩ = some (.int .i64 (sf : Int)) := by rw [HAG.out.cell]; rfl
  have e2 : w1.cell? ⟨G, 2, none⟩ = some (.bool hd) := by rw [HAG.out.cell]; rfl
  have HRw := hidU (HRr.out.below HB1.out)
  clear hA1 hA2 hb1 hb2 hs1 hs2 hG q HP HL
  go_wp2
  have hS0 : Below w1.heap.size w1 w1.drew := Below.drew (Below.refl _ _)
  refine wp_region_S (S := fun xS => Below w1.heap.size w1 xS) (St := [11]) (by kernel_rfl) hS0 ?_
  obtain ⟨x0, hx0⟩ : ∃ x, x = w1.drew := ⟨_, rfl⟩
  rw [← hx0] at hS0  ⊢
  clear hx0
  intro hH
  refine wpAnyS_take [9, 10, 11] (i := 0) (oi := { dst := some 13, op := .load 66 (.tmp 6), type := _, pos := _, after := _, guard := none }) (v := .agg #[.slice a n c, .int .i64 (sf : Int), .bool hd]) rfl (by kernel_rfl) (by kernel_rfl) (by kernel_rfl) (by kernel_rfl) (by kernel_rfl) (by kernel_rfl) (by kernel_rfl) (fun _ _ _ h => h) (Or.inl ⟨by rfl, ?_⟩) hH (fun hH => ?_)
  · intro wS hSw
    have z0 := (hSw.cell (lt_of_cell e0)).trans e0
    have z1 := (hSw.cell (lt_of_cell e1)).trans e1
    have z2 := (hSw.cell (lt_of_cell e2)).trans e2
    go_simp
  simp only [Act.put, List.setIfInBounds_toArray, List.set_cons_zero, List.set_cons_succ]
  refine wpAnyS_pure (i := 1) (oi := { dst := some 14, op := .fieldAddr 66 (.tmp 6) 1, type := _, pos := _, after := _, guard := none }) (v := .pointer (some ⟨G, 1, none⟩)) rfl (by kernel_rfl) (by kernel_rfl) (by kernel_rfl) (by kernel_rfl) (fun _ _ _ h => h) (Or.inl ⟨by rfl, ?_⟩) hH (fun hH => ?_)
  · intro wS hSw
    go_simp
  simp only [Act.put, List.setIfInBounds_toArray, List.set_cons_zero, List.set_cons_succ]
  refine wpAnyS_take [8, 9, 10, 11] (i := 2) (oi := { dst := some 15, op := .load 3 (.tmp 14), type := _, pos := _, after := _, guard := none }) (v := .int .i64 (sf : Int)) rfl (by kernel_rfl) (by kernel_rfl) (by kernel_rfl) (by kernel_rfl) (by kernel_rfl) (by kernel_rfl) (by kernel_rfl) (fun _ _ _ h => h) (Or.inl ⟨by rfl, ?_⟩) hH (fun hH => ?_)
  · intro wS hSw
    have z0 := (hSw.cell (lt_of_cell e1)).trans e1
    go_simp
  simp only [Act.put, List.setIfInBounds_toArray, List.set_cons_zero, List.set_cons_succ]
  refine wpAnyS_pure (i := 3) (oi := { dst := some 16, op := .move (.tmp 2), type := _, pos := _, after := _, guard := none }) (v := .int .i64 z) rfl (by kernel_rfl) (by kernel_rfl) (by kernel_rfl) (by kernel_rfl) (fun _ _ _ h => h) (Or.inl ⟨by rfl, ?_⟩) hH (fun hH => ?_)
  · intro wS hSw
    go_simp
  simp only [Act.put, List.setIfInBounds_toArray, List.set_cons_zero, List.set_cons_succ]
  refine wpAnyS_pure (i := 4) (oi := { dst := some 17, op := .call { callee := .builtin .max, args := #[.tmp 16, .const (.int .i64 0)], argTypes := #[3, 3] }, type := _, pos := _, after := _, guard := none }) (v := .int .i64 K) rfl (by kernel_rfl) (by kernel_rfl) (by kernel_rfl) (by kernel_rfl) (fun _ _ _ h => h) (Or.inl ⟨by rfl, ?_⟩) hH (fun hH => ?_)
  · intro wS hSw
    go_simp
    try rw [hK.out]
    try rfl
  simp only [Act.put, List.setIfInBounds_toArray, List.set_cons_zero, List.set_cons_succ]
  refine wpAnyS_take [6, 7, 8, 9, 10, 11] (i := 5) (oi := { dst := some 18, op := .load 66 (.tmp 6), type := _, pos := _, after := _, guard := none }) (v := .agg #[.slice a n c, .int .i64 (sf : Int), .bool hd]) rfl (by kernel_rfl) (by kernel_rfl) (by kernel_rfl) (by kernel_rfl) (by kernel_rfl) (by kernel_rfl) (by kernel_rfl) (fun _ _ _ h => h) (Or.inl ⟨by rfl, ?_⟩) hH (fun hH => ?_)
  · intro wS hSw
    have z0 := (hSw.cell (lt_of_cell e0)).trans e0
    have z1 := (hSw.cell (lt_of_cell e1)).trans e1
    have z2 := (hSw.cell (lt_of_cell e2)).trans e2
    go_simp
  simp only [Act.put, List.setIfInBounds_toArray, List.set_cons_zero, List.set_cons_succ]
  refine wpAnyS_ready (rs := [6]) (by kernel_rfl) (by simp) ?_
  refine AllReadyS.cons (o := { dst := some 19, op := .call { callee := .value (.func 51), args := #[.tmp 18], argTypes := #[66] }, type := _, pos := _, after := _, guard := none }) rfl (fun K hK => ?_) AllReadyS.nil
  rw [if_pos (by rfl)]
  go_wp2_with (go_at_call 51; refine (loose_any ⟨.slice a n c, bs, sf, hd⟩ n c a x0 rfl (show sf ≤ _ by omega) (by omega)).mono ?_; rintro e x1 ⟨rfl, hb1⟩)
  have hS1 := hS0.trans (hb1.mono hS0.size)
  refine hK.out _ _ (Hold.of hS1) (fun hH => ?_)
  clear hK K
  refine wpAnyS_pure (i := 7) (oi := { dst := some 20, op := .call { callee := .builtin .min, args := #[.tmp 17, .tmp 19], argTypes := #[3, 3] }, type := _, pos := _, after := _, guard := none }) (v := .int .i64 J) rfl (by kernel_rfl) (by kernel_rfl) (by kernel_rfl) (by kernel_rfl) (fun _ _ _ h => h) (Or.inl ⟨by rfl, ?_⟩) hH (fun hH => ?_)
  · intro wS hSw
    go_simp
    try rw [hJ.out]
    try rfl
  simp only [Act.put, List.setIfInBounds_toArray, List.set_cons_zero, List.set_cons_succ]
  refine wpAnyS_pure (i := 8) (oi := { dst := some 21, op := .binOp .add 3 (.tmp 15) (.tmp 20) 3, type := _, pos := _, after := _, guard := none }) (v := .int .i64 (t : Int)) rfl (by kernel_rfl) (by kernel_rfl) (by kernel_rfl) (by kernel_rfl) (fun _ _ _ h => h) (Or.inl ⟨by rfl, ?_⟩) hH (fun hH => ?_)
  · intro wS hSw
    go_simp
    try rw [hW.out]
    try rfl
  simp only [Act.put, List.setIfInBounds_toArray, List.set_cons_zero, List.set_cons_succ]
  refine wpAnyS_ready (rs := [9]) (by kernel_rfl) (by simp) ?_
  refine AllReadyS.cons (o := { dst := some 22, op := .call { callee := .value (.func 53), args := #[.tmp 13, .tmp 21], argTypes := #[66, 3] }, type := _, pos := _, after := _, guard := none }) rfl (fun K hK => ?_) AllReadyS.nil
  rw [if_pos (by rfl)]
  go_wp2_with (go_at_call 53; refine (cut_t a n c bs sf hd t x1 (HRw.out.below hS1) hn hnc hn0 htn (by omega) hst).mono ?_; rintro e x2 ⟨av, cv, rfl, hO2, hb2⟩)
  have hSz2 : w1.heap.size ≤ x1.heap.size := (hS1).size
  have hS2 := hS1.trans (hb2.mono hS1.size)
  refine hK.out _ _ (Hold.of hS2) (fun hH => ?_)
  clear hK K
  refine wpAnyS_ready (rs := [10]) (by kernel_rfl) (by simp) ?_
  refine AllReadyS.cons (o := { dst := some 23, op := .call { callee := .value (.func 55), args := #[.tmp 22], argTypes := #[66] }, type := _, pos := _, after := _, guard := none }) rfl (fun K hK => ?_) AllReadyS.nil
  rw [if_pos (by rfl)]
  go_wp2_with (go_at_call 55; refine (safely_any av t cv sf hd x2).mono ?_; rintro e x3 ⟨rfl, hb3⟩)
  have hS3 := hS2.trans (hb3.mono hS2.size)
  refine hK.out _ _ (Hold.of hS3) (fun hH => ?_)
  clear hK K
  refine wpAnyS_ready (rs := [11]) (by kernel_rfl) (by simp) ?_
  refine AllReadyS.cons (o := { dst := none, op := .store 66 (.tmp 6) (.tmp 23), type := _, pos := _, after := _, guard := none }) rfl (fun K hK => ?_) AllReadyS.nil
  rw [if_pos (by rfl)]
  refine wp_store3 (.tmp 6) (.tmp 23) rfl G [.slice av t cv, .int .i64 (t : Int), .bool hd] rfl rfl _ (HAG.out.below hS3) rfl rfl one3 ?_
  intro x4 hA4 hb4 hs4
  refine hK.out _ _ (Hold.over (s := 11) (by decide) (by rfl)) (fun hH => ?_)
  clear hK K
  refine wpAnyS_done (by kernel_rfl) ?_ _
  have HA4 := hidU hA4
  have HB3 := hidU (HB1.out.trans (hS3.mono HB1.out.size))
  have HB4 := hidU (hb4.below HB3.out hGl HB3.out.size)
  have HO3 := hidU ((hO2.below hb3).less (b' := w.heap.size) (Nat.le_trans HB1.out.size (hSz2)))
  have HO4 : Hid (OwnX eB w.heap.size x4 (.slice av t cv) (bs.take t)) := hidU (HO3.out.same fun k hk => hb4.block k (HO3.out.block k hk).2.1 (by
    rintro rfl
    obtain ⟨_, _, cs, hA⟩ := HO3.out.block k hk
    exact hA.ne (HAG.out.below hS3) (show (5 : Nat) ≠ 66 by decide) rfl))
  have c0 : x4.cell? ⟨G, 0, none⟩ = some (.slice av t cv) := by rw [HA4.out.cell]; rfl
  have c2 : x4.cell? ⟨G, 2, none⟩ = some (.bool hd) := by rw [HA4.out.cell]; rfl
  have q4 := (H.out.below HB4.out).files
  have HM4 := hidU (H.out.below HB4.out).mp
  have hBw : B ≤ w.heap.size := Nat.le_trans H.out.bg (Nat.le_of_lt (heapLt H.out.at_))
  have HPt := hidU (put_wrt H.out h40 av t cv (bs.take t) t hd x4 (Chg.of_below HB4.out) (HO4.out.less hBw) (fun k hk => .inr (HO4.out.block k hk).1))
  have hA4 := HA4.out
  clear hb1 hb2 hb3 hb4 hS1 hS2 hS3 hO2 hA4 hs4 hS0 e0 e1 e2 hSz2 hH
  by_cases ht0 : t = 0
  · cases hd with
    | false =>
      rw [ht0] at c0
      have HT := hidU ht0
      clear ht0 hA4
      go_wp2_with (refine wpList_del mF rfl (.tmp 36) (.tmp 37) rfl nm rfl rfl HM4.out hs ?_; intro y hMy hby hsy; refine Hid.out ?_)
      refine hidU ?_
      clear hsy
      go_wp2
      refine bodyPost_ret (results_none rfl _ _ _) rfl ?_
      exact ⟨rfl, fun _ => (Wrt.del (H.out.below HB4.out) hMy hby).from HB4.out, fun q => absurd HT.out (by simpa using q)⟩
    | true =>
      rw [ht0] at c0
      clear ht0
      go_wp2_with (first
        | (refine wpList_load_at rfl 66 (.tmp 6) rfl G rfl 66 _ hA4 _ Tryd.underlying66 rfl i66 ?_)
        | (go_at_call 38; refine HPt.out.mono ?_; rintro _ y ⟨rfl, hW⟩))
      go_end0
      refine ⟨rfl, fun q => ?_, fun _ => ⟨_, hW⟩⟩
      simp at q
  · have ht1 : ¬ (t : Int) = 0 := by omega
    have HT := hidU ht0
    clear ht0
    go_wp2_with (first
      | (refine wpList_load_at rfl 66 (.tmp 6) rfl G rfl 66 _ hA4 _ Tryd.underlying66 rfl i66 ?_)
      | (go_at_call 38; refine HPt.out.mono ?_; rintro _ y ⟨rfl, hW⟩))
    go_end0
    exact ⟨rfl, fun q => absurd q.1 HT.out, fun _ => ⟨_, hW⟩⟩

end Go.Proofs.YtcmkjjlchljffaaDoor

/- The landed disk: Crash. -/
namespace Go.Proofs.YtcmkjjlchljffaaDoor
open Go.RowKit
set_option linter.unusedVariables false
set_option maxRecDepth 100000
set_option maxHeartbeats 6400000

theorem Dn.refl {B g mb sz wr : Nat} {lf : Int} {w : World} {m : FMap} (h : Ds B w g mb m sz lf wr) {w' : World} (hb : Below w.heap.size w w') : Dn B w w' g mb m m sz lf wr :=
  ⟨h.below hb, Chg.of_below hb, fun k hk => .inl hk⟩
theorem Dn.below {B g mb sz wr : Nat} {lf : Int} {w w1 w2 : World} {m m' : FMap} (h : Dn B w w1 g mb m m' sz lf wr) (hb : Below w1.heap.size w1 w2) : Dn B w w2 g mb m m' sz lf wr :=
  ⟨h.ds.below hb, h.chg.trans (Chg.of_below hb), h.new⟩
theorem Dn.wrt {B g mb sz wr : Nat} {lf : Int} {w w1 w2 : World} {m m' m2 : FMap} (h : Dn B w w1 g mb m m' sz lf wr) (k : Wrt B w1 w2 mb m' m2) : Dn B w w2 g mb m m2 sz lf wr := by
  have d := k.dn h.ds (But.refl g w2) (k.at_ h.ds h.ds.at_)
  refine ⟨d.ds, h.chg.more d.chg fun i hi e => ?_, fun i hi => ?_⟩
  · exact (h.new i e).resolve_right (by omega)
  · rcases d.new i hi with e | e
    · exact h.new i e
    · exact .inr (Nat.le_trans h.chg.size e)
/-- The place in torn behind so many files. -/
def nx (torn : List Int) : Nat → List Fi → Nat
  | k, [] => k
  | k, f :: fs => nx torn (crOne torn k f).2 fs
theorem crL_snoc (torn : List Int) : ∀ (pre : List Fi) (k : Nat) (f : Fi), crL torn k (pre ++ [f]) = crL torn k pre ++ (if crK torn (nx torn k pre) f then [(crOne torn (nx torn k pre) f).1] else []) ∧ nx torn k (pre ++ [f]) = (crOne torn (nx torn k pre) f).2
  | [], k, f => ⟨by
    rw [List.nil_append, crL_cons]
    show _ ++ [] = [] ++ _
    rw [List.append_nil, List.nil_append]
    rfl, rfl⟩
  | a :: pre, k, f => by
    obtain ⟨h1, h2⟩ := crL_snoc torn pre (crOne torn k a).2 f
    rw [List.cons_append, crL_cons, crL_cons, h1]
    exact ⟨by rw [List.append_assoc]; rfl, h2⟩
theorem filter_mid {A R : List Fi} {f : Fi} (hn : ((A ++ f :: R).map Fi.nm).Nodup) : (A ++ f :: R).filter (fun x => !isN f.nm x) = A ++ R := by
  rw [List.map_append, List.map_cons, List.nodup_append] at hn
  obtain ⟨n1, n2, n3⟩ := hn
  rw [List.nodup_cons] at n2
  rw [List.filter_append, List.filter_cons_of_neg (by simp [isN])]
  congr 1
  · refine List.filter_eq_self.2 fun x hx => ?_
    rw [(isN_inj (a := f.nm) (b := x.nm) rfl).2 fun e => n3 _ (List.mem_map.2 ⟨x, hx, rfl⟩) _ (.head _) e.symm]
    rfl
  · refine List.filter_eq_self.2 fun x hx => ?_
    rw [(isN_inj (a := f.nm) (b := x.nm) rfl).2 fun e => n2.1 (e ▸ List.mem_map.2 ⟨x, hx, rfl⟩)]
    rfl
theorem nodup_fi {B g mb sz wr : Nat} {lf : Int} {w : World} {m : FMap} {L : List Fi} (h : Ds B w g mb m sz lf wr) (hp : (m.map toFi).Perm L) : (L.map Fi.nm).Nodup := by
  have h2 := hp.map Fi.nm
  rw [List.map_map] at h2
  exact h2.nodup_iff.1 h.mp.nodup
/-- The file of a name in the map, by the list. -/
theorem look_mid {B g mb sz wr : Nat} {lf : Int} {w : World} {m : FMap} {A R : List Fi} {f : Fi} (h : Ds B w g mb m sz lf wr) (hp : (m.map toFi).Perm (A ++ f :: R)) : ∃ v, lookM m f.nm = some ⟨v, f.bs, f.sf, f.hd⟩ := by
  have hm : f ∈ m.map toFi := hp.mem_iff.2 (by simp)
  obtain ⟨p, hp', e⟩ := List.mem_map.1 hm
  obtain ⟨nm, v, bs, sf, hd⟩ := p
  subst e
  refine ⟨v, ?_⟩
  show (m.find? (keyB nm)).map _ = _
  rw [find_of_mem h.mp.nodup hp']
  rfl
theorem run_slice_1 (w : World) (a : Option Addr) (len cap : Nat) (h : 1 ≤ len) : (Instr.slice 52 (.slice a len cap) (some (.int .i64 1)) none none).run Tryd.prog w = .ok (.slice (if cap = 1 then a else a.map (·.add 1)) (len - 1) (cap - 1)) w := by
  have hu : Tryd.prog.underlying 52 = some (.slice 3) := eI.und
  have he : Tryd.prog.elem 52 = 3 := by simp [Program.elem, hu]
  have hs : (sizeOf 3).run Tryd.prog w = .ok 1 w := by kernel_rfl
  rw [run_slice_l w 52 a len cap (by rw [he]; exact hu) .i64 1 (by omega) (by omega), he, hs]
  simp only [Result.andThen, sliced]
  rfl
theorem kpN_le (torn : List Int) (k lo : Nat) : kpN torn k lo ≤ lo := by
  unfold kpN
  cases torn[k]? with
  | none => exact Nat.zero_le _
  | some x => simp only; omega
theorem crash_step {B g mb sz wr : Nat} {lf : Int} {x x' : World} {m' : FMap} {A R : List Fi} {f : Fi} {torn : List Int} {k t : Nat} (ds : Ds B x g mb m' sz lf wr) (hpm : (m'.map toFi).Perm (A ++ f :: R)) (hlo : f.sf < f.bs.length) (ht : t = f.sf + kpN torn k (f.bs.length - f.sf))
    (h1 : (t = 0 ∧ f.hd = false) → Wrt B x x' mb m' (delM m' f.nm)) (h2 : ¬ (t = 0 ∧ f.hd = false) → ∃ v, Wrt B x x' mb m' (updM m' f.nm ⟨v, f.bs.take t, t, f.hd⟩)) :
    ∃ m2, Wrt B x x' mb m' m2 ∧ (m2.map toFi).Perm (A ++ ((if crK torn k f then [(crOne torn k f).1] else []) ++ R)) ∧ (crOne torn k f).2 = k + 1 := by
  have hk := kpN_le torn k (f.bs.length - f.sf)
  have hlen : (f.bs.take t).length = t := by rw [List.length_take]; omega
  have hnd := nodup_fi ds hpm
  have hone : crOne torn k f = (⟨f.nm, f.bs.take t, t, f.hd⟩, k + 1) := by
    unfold crOne
    rw [if_pos hlo, ← ht, hlen]
  have hcK : crK torn k f = (f.hd || decide (0 < t)) := by
    unfold crK
    rw [hone, decide_eq_false (by omega), Bool.false_or]
    simp only
    rw [hlen]
  have hfil := filter_mid hnd
  by_cases hd : t = 0 ∧ f.hd = false
  · refine ⟨_, h1 hd, ?_, by rw [hone]⟩
    rw [hcK, hd.2, hd.1, if_neg (by simp), List.nil_append, del_fi, ← hfil]
    exact hpm.filter _
  · obtain ⟨v, hW⟩ := h2 hd
    refine ⟨_, hW, ?_, by rw [hone]⟩
    rw [hcK, if_pos (by
      rw [Bool.or_eq_true, decide_eq_true_eq]
      by_cases q : t = 0
      · exact .inl (by cases e : f.hd with | true => rfl | false => exact absurd ⟨q, e⟩ hd)
      · exact .inr (by omega)), hone]
    refine (upd_fs hpm ds.mp.nodup).trans ?_
    rw [hfil]
    exact List.perm_middle.symm
theorem Wrt.names {B g mb sz wr : Nat} {lf : Int} {x x' : World} {m' m2 : FMap} {b : Nat} {v : Value} {N : List ByteArray} (ds : Ds B x g mb m' sz lf wr) (k : Wrt B x x' mb m' m2) (hO : OwnX eS b x v N) (hmb : mb < b) : OwnX eS b x' v N := by
  refine hO.same fun i hi => ?_
  obtain ⟨h1, h2, cs, hA⟩ := hO.block i hi
  refine k.chg.block i h2 ?_
  rintro (e | ⟨p, hp, e⟩)
  · omega
  · obtain ⟨_, _, cs', hA'⟩ := (ds.own p hp).block i e
    exact hA'.ne hA (show (5 : Nat) ≠ 9 by decide) rfl
theorem crash_p {B g mb : Nat} {w : World} {m : FMap} {sz wr : Nat} {lf : Int} {fs : List Fi} {ta : Option Addr} {nt tc : Nat} {torn : List Int} (h : Ds B w g mb m sz lf wr) (hp : (m.map toFi).Perm fs) (hso : Sorted fs) (hl : fs.length ≤ 256) (hus : usedL fs ≤ 67108864) (hsf : ∀ f ∈ fs, f.sf ≤ f.bs.length)
    (hrow : RowX eI w ta torn) (hnt : nt = torn.length) (htc : nt ≤ tc) (hnm : nt ≤ 9223372036854775807) (hap : ∀ ad, ta = some ad → ¬ FW g mb m ad.block ∧ ad.block < w.heap.size) :
    Calls Tryd.prog 19 #[.pointer (some ⟨g, 0, none⟩), .slice ta nt tc] w fun r w' => r = .returned (.int .i64 0) ∧ ∃ m', (m'.map toFi).Perm (crL torn 0 fs) ∧ Dn B w w' g mb m m' sz (-1) wr := by
  have HM := hidU (made_yes h.at_)
  have q := h.files
  have HSrt := hidU (sorted_names h.mp hp hso hl)
  have HKs := hidU (callsIn_wide.1 (Tryd.maps_Keys_59 (some mb) w))
  have H := hidU h
  have HPm := hidU hp
  have HSF := hidU hsf
  have HRow := hidU hrow
  have HAp := hidU hap
  have HNt := hidU hnt
  have HLf := hidU hl
  have HUs := hidU hus
  obtain ⟨N, hN⟩ : ∃ N, Hid (N = fs.map Fi.nm) := ⟨_, (rfl : _ = fs.map Fi.nm)⟩
  obtain ⟨n, hn⟩ : ∃ n, Hid (n = N.length) := ⟨_, (rfl : _ = N.length)⟩
  have hnf : Hid (n = fs.length) := hidU (by rw [hn.out, hN.out, List.length_map])
  rw [← hN.out] at HSrt
  clear h hp hso hl hus hsf hrow hap hnt
  go_enter Tryd.func19, Tryd.ntmps19
  go_wp2_with (first
    | (go_at_call 33; refine HM.out.mono ?_; rintro _ w1 ⟨rfl, hw⟩; obtain rfl : w = w1 := hw.symm; clear hw)
    | (go_at_call 59; refine HKs.out.mono ?_; rintro _ w1 ⟨rfl, rfl⟩)
    | (go_at_call 58; refine HSrt.out.mono ?_; rintro _ w1 ⟨v, rfl, hO, hb⟩; refine Hid.out ?_))
  refine hidU ?_
  have HB := hidU hb
  obtain ⟨na, nc, rfl⟩ := own_slice hO
  rw [← hn.out] at hO ⊢
  have HNO := hidU hO
  have D1 := hidU (Dn.refl H.out HB.out)
  have hmbw : Hid (mb < w.heap.size) := hidU H.out.mp.lt
  clear hb HSrt HKs q hO
  go_wp2
  go_loopw [1, 18] (fun T j x => ∃ (i kk : Nat) (tai : Option Addr) (m' : FMap), j = .int .i64 (i : Int) ∧ i ≤ n ∧ T = .slice tai (nt - kk) (tc - kk) ∧ kk ≤ nt ∧ Hid (0 < nt - kk → tai = ta.map (·.add kk)) ∧ Hid (kk = min (nx torn 0 (fs.take i)) nt) ∧ Hid ((m'.map toFi).Perm (crL torn 0 (fs.take i) ++ fs.drop i)) ∧ Hid (Dn B w x g mb m m' sz lf wr) ∧ Hid (OwnX eS w.heap.size x (.slice na n nc) N)) (fun _ j _ => n - (intOf j).toNat)
  case atStart =>
    refine ⟨0, 0, ta, m, rfl, by omega, rfl, by omega, ?_, ?_, ?_, D1, HNO⟩
    · show 0 < nt - 0 → ta = ta.map (·.add 0)
      intro _
      cases ta with
      | none => rfl
      | some ad => cases ad; simp [Addr.add]
    · show (0 : Nat) = min (nx torn 0 (fs.take 0)) nt
      simp [nx]
    · show (m.map toFi).Perm _
      simpa [crL] using HPm.out
  case round =>
    obtain ⟨i, kk, tai, m', rfl, hi, rfl, hkk, htai, hkx, hpm, hD, hNO⟩ := hrel
    by_cases hc : i < n
    · obtain ⟨f, hf⟩ : ∃ f, Hid (fs[i]? = some f) := ⟨fs[i]'(by have := hnf.out; omega), hidU (List.getElem?_eq_getElem _)⟩
      have hfm := List.mem_of_getElem? hf.out
      have hNi : Hid (N[i]? = some f.nm) := hidU (by rw [hN.out, List.getElem?_map, hf.out]; rfl)
      have hdrop : Hid (fs.drop i = f :: fs.drop (i + 1)) := hidU (by
        have hlt := (List.getElem?_eq_some_iff.1 hf.out).1
        rw [List.drop_eq_getElem_cons hlt, (List.getElem?_eq_some_iff.1 hf.out).2])
      have htake : Hid (fs.take (i + 1) = fs.take i ++ [f]) := hidU (by rw [List.take_add_one, hf.out]; rfl)
      have hpm2 := hidU (by have := hpm.out; rw [hdrop.out] at this; exact this)
      obtain ⟨v0, hl0⟩ := look_mid hD.out.ds hpm2.out
      obtain ⟨a, n1, c, bs, sf, hd, e9, hn1, hnc1, _, _, _, _⟩ := look_parts hD.out.ds hl0
      have hsf1 : sf ≤ n1 := by
        have := HSF.out f hfm
        injection e9 with e1 e2 e3 e4
        rw [e2, e3, hn1] at this
        exact this
      have hn64 : n1 ≤ 67108864 := by
        have h1 := mem_used hfm
        injection e9 with e1 e2 e3 e4
        rw [e2, hn1] at h1
        have := HUs.out
        omega
      obtain ⟨fnm, fbs, fsf, fhd⟩ := f
      simp only [FM.mk.injEq] at e9
      obtain ⟨rfl, rfl, rfl, rfl⟩ := e9
      obtain ⟨NM, hNM⟩ : ∃ NM, NM = fnm := ⟨_, rfl⟩
      simp only at hl0
      have HL := hidU hl0
      have hs40 : fnm.size ≤ 9223372036854775807 := by have h9 : fnm.size ≤ 40 := hD.out.ds.ns _ (look_mem hl0); omega
      have q1 : ∃ ng no, na = some ⟨ng, no, none⟩ ∧ wr.cell? ⟨ng, no + i, none⟩ = some (.string fnm) := by
        obtain ⟨a2, c2, e2, _, _, _, _, r⟩ := hNO.out.row
        cases e2
        obtain ⟨ng, no, e3, hr⟩ := r.at hNi.out
        refine ⟨ng, no, e3, ?_⟩
        have := hr 0 _ rfl
        rwa [show no + i * eS.n + 0 = no + i from by show no + i * 1 + 0 = _; omega] at this
      obtain ⟨ng, no, rfl, q1⟩ := q1
      have q2 := hD.out.ds.files
      have HPD := hidU hD.out.ds.mp
      have HLO := hidU (fun x => loose_any ⟨.slice a n1 c, fbs, fsf, fhd⟩ n1 c a x rfl (show fsf ≤ _ by omega) (by omega))
      have hw1 : IntKind.i64.wrap ((i : Int) + 1) = (i : Int) + 1 := by rw [IntKind.wrap_i64]; have := hnf.out; have := HLf.out; omega
      clear hNM hl0
      by_cases hlo : fsf < n1
      · have hp1 : ¬ (n1 : Int) - (fsf : Int) = 0 := by omega
        have hlo2 : Hid (fsf < fbs.length) := hidU (by rw [hn1]; exact hlo)
        obtain ⟨L, hL⟩ : ∃ L, L = nt - kk := ⟨_, rfl⟩
        obtain ⟨C, hC⟩ : ∃ C, C = tc - kk := ⟨_, rfl⟩
        rw [← hL, ← hC]
        have HLk := hidU hL
        have HCk := hidU hC
        have HTR := hidU (fun (z : Int) (y : World) (hb : Below wr.heap.size wr y) (t : Nat) (ht : t = fsf + (min (max z 0) ((n1 : Int) - (fsf : Int))).toNat) => tear_p (hD.out.ds.below hb) HL.out hsf1 hn64 z t ht)
        by_cases hL0 : 0 < L
        · have hL1 : (0 : Int) < (L : Int) := by omega
          have hnx : nx torn 0 (fs.take i) = kk := by have := hkx.out; omega
          obtain ⟨y, hy⟩ : ∃ y, Hid (torn[kk]? = some y) := ⟨torn[kk]'(by have := HNt.out; omega), hidU (List.getElem?_eq_getElem _)⟩
          obtain ⟨tg, to, hta, hr⟩ := HRow.out.at hy.out
          have htai2 : tai = some ⟨tg, to + kk, none⟩ := by rw [htai.out (by omega), hta, Option.map_some, add_none]
          obtain ⟨o, ho⟩ : ∃ o, Hid (o = to + kk) := ⟨_, (rfl : _ = to + kk)⟩
          rw [← ho.out] at htai2
          have hcw : w.cell? ⟨tg, o, none⟩ = some (.int .i64 y) := by
            have := hr 0 _ rfl
            rw [ho.out]
            rwa [show to + kk * eI.n + 0 = to + kk from by show to + kk * 1 + 0 = _; omega] at this
          have hap := HAp.out _ hta
          have ty : wr.cell? ⟨tg, o, none⟩ = some (.int .i64 y) := by
            rw [World.cell?_of_block (w := w) (hD.out.chg.block tg hap.2 hap.1)]
            exact hcw
          subst htai2
          have hyk := hy
          clear hr hcw hap hnx
          go_wp2_with (first
            | (refine wpList_look mF rfl (.tmp 25) (.tmp 26) false rfl fnm rfl rfl HPD.out (by unfold maxLen; omega) (.agg #[.slice a n1 c, .int .i64 (fsf : Int), .bool fhd]) (by rw [HL.out]; rfl) ?_)
            | (go_at_call 51; refine (HLO.out _).mono ?_; rintro _ x1 ⟨rfl, hb1⟩; have HB1 := hidU hb1; have ty1 := (hb1.cell (lt_of_cell ty)).trans ty; clear hb1))
          have hsl := fun W => run_slice_1 W (some ⟨tg, o, none⟩) L C (by omega)
          obtain ⟨ta', hta'⟩ : ∃ ta', Hid (ta' = if C = 1 then some ⟨tg, o, none⟩ else (some (⟨tg, o, none⟩ : Addr)).map (·.add 1)) := ⟨_, (rfl : _ = if C = 1 then some ⟨tg, o, none⟩ else (some (⟨tg, o, none⟩ : Addr)).map (·.add 1))⟩
          rw [← hta'.out] at hsl
          have HSl := hidU hsl
          clear hsl ty q1 q2
          have hS0 : Below x1.heap.size x1 x1.drew := Below.drew (Below.refl _ _)
          refine wp_region_held_drew (S := fun xS => Below x1.heap.size x1 xS) (by kernel_rfl) hS0 ?_
          obtain ⟨x0, hx0⟩ : ∃ x, x = x1.drew := ⟨_, rfl⟩
          rw [← hx0] at hS0  ⊢
          clear hx0
          intro _
          refine wpAnyH_take (i := 0) (oi := { dst := some 33, op := .move (.tmp 1), type := _, pos := _, after := _, guard := none }) (v := .slice (some ⟨tg, o, none⟩) L C) rfl (by kernel_rfl) (by kernel_rfl) (by kernel_rfl) (fun _ _ _ h => h) (Or.inl ⟨by rfl, ?_⟩) hS0 ?_
          · intro wS hSw
            go_simp
          simp only [Act.put, List.setIfInBounds_toArray, List.set_cons_zero, List.set_cons_succ]
          refine wpAnyH_take (i := 1) (oi := { dst := some 34, op := .indexAddr 52 (.tmp 33) (.const (.int .i64 0)), type := _, pos := _, after := _, guard := none }) (v := .pointer (some ⟨tg, o, none⟩)) rfl (by kernel_rfl) (by kernel_rfl) (by kernel_rfl) (fun _ _ _ h => h) (Or.inl ⟨by rfl, ?_⟩) hS0 ?_
          · intro wS hSw
            go_simp
          simp only [Act.put, List.setIfInBounds_toArray, List.set_cons_zero, List.set_cons_succ]
          refine wpAnyH_take (i := 2) (oi := { dst := some 35, op := .load 3 (.tmp 34), type := _, pos := _, after := _, guard := none }) (v := .int .i64 y) rfl (by kernel_rfl) (by kernel_rfl) (by kernel_rfl) (fun _ _ _ h => h) (Or.inl ⟨by rfl, ?_⟩) hS0 ?_
          · intro wS hSw
            have z0 := (hSw.cell (lt_of_cell ty1)).trans ty1
            go_simp
          simp only [Act.put, List.setIfInBounds_toArray, List.set_cons_zero, List.set_cons_succ]
          refine wpAnyH_take (i := 3) (oi := { dst := some 36, op := .move (.tmp 1), type := _, pos := _, after := _, guard := none }) (v := .slice (some ⟨tg, o, none⟩) L C) rfl (by kernel_rfl) (by kernel_rfl) (by kernel_rfl) (fun _ _ _ h => h) (Or.inl ⟨by rfl, ?_⟩) hS0 ?_
          · intro wS hSw
            go_simp
          simp only [Act.put, List.setIfInBounds_toArray, List.set_cons_zero, List.set_cons_succ]
          refine wpAnyH_take (i := 4) (oi := { dst := some 37, op := .slice 52 (.tmp 36) (some (.const (.int .i64 1))) none none, type := _, pos := _, after := _, guard := none }) (v := .slice ta' (L - 1) (C - 1)) rfl (by kernel_rfl) (by kernel_rfl) (by kernel_rfl) (fun _ _ _ h => h) (Or.inl ⟨by rfl, ?_⟩) hS0 ?_
          · intro wS hSw
            go_simp
            rw [if_pos (by omega)]
            have h9 := hta'.out
            simp only [Option.map_some, add_none] at h9
            rw [h9, HCk.out]
          simp only [Act.put, List.setIfInBounds_toArray, List.set_cons_zero, List.set_cons_succ]
          refine wpAnyH_take (i := 5) (oi := { dst := some 7, op := .assign (.tmp 35), type := _, pos := _, after := _, guard := none }) (v := .int .i64 y) rfl (by kernel_rfl) (by kernel_rfl) (by kernel_rfl) (fun _ _ _ h => h) (Or.inl ⟨by rfl, ?_⟩) hS0 ?_
          · intro wS hSw
            go_simp
          simp only [Act.put, List.setIfInBounds_toArray, List.set_cons_zero, List.set_cons_succ]
          refine wpAnyH_take (i := 6) (oi := { dst := some 1, op := .assign (.tmp 37), type := _, pos := _, after := _, guard := none }) (v := .slice ta' (L - 1) (C - 1)) rfl (by kernel_rfl) (by kernel_rfl) (by kernel_rfl) (fun _ _ _ h => h) (Or.inl ⟨by rfl, ?_⟩) hS0 ?_
          · intro wS hSw
            go_simp
          simp only [Act.put, List.setIfInBounds_toArray, List.set_cons_zero, List.set_cons_succ]
          refine wpAnyH_done (by kernel_rfl) ?_ _
          have HBx := hidU (HB1.out.trans (hS0.mono HB1.out.size))
          clear hS0 ty1 HSl hL hC hL1
          go_wp2_with (go_at_call 60; refine (HTR.out y _ HBx.out _ rfl).mono ?_; rintro _ x2 ⟨rfl, hT1, hT2⟩; refine Hid.out ?_)
          refine hidU ?_
          have hkp : Hid (fsf + (min (max y 0) ((n1 : Int) - (fsf : Int))).toNat = fsf + kpN torn (nx torn 0 (fs.take i)) (fbs.length - fsf)) := hidU (by
            have h9 : nx torn 0 (fs.take i) = kk := by have := hkx.out; have := HLk.out; omega
            unfold kpN
            rw [h9, hy.out]
            simp only
            have := hlo2.out
            rw [show ((fbs.length - fsf : Nat) : Int) = (n1 : Int) - (fsf : Int) by omega])
          obtain ⟨m2, hW2, hP2, hk2⟩ := crash_step (torn := torn) (k := nx torn 0 (fs.take i)) (t := fsf + (min (max y 0) ((n1 : Int) - (fsf : Int))).toNat) (hD.out.ds.below HBx.out) hpm2.out hlo2.out hkp.out hT1 hT2
          have D2 := hidU ((hD.out.below HBx.out).wrt hW2)
          have N2 := hidU (Wrt.names (hD.out.ds.below HBx.out) hW2 (hNO.out.below HBx.out) hmbw.out)
          have P2 := hidU (by
            obtain ⟨c1, c2⟩ := crL_snoc torn (fs.take i) 0 ⟨fnm, fbs, fsf, fhd⟩
            rw [← List.append_assoc, ← c1, ← htake.out] at hP2
            exact hP2)
          have K2 : Hid (kk + 1 = min (nx torn 0 (fs.take (i + 1))) nt) := hidU (by
            rw [htake.out, (crL_snoc torn (fs.take i) 0 ⟨fnm, fbs, fsf, fhd⟩).2, hk2]
            have := hkx.out; have := HLk.out; omega)
          have T2 : Hid (0 < nt - (kk + 1) → ta' = ta.map (·.add (kk + 1))) := hidU (fun h9 => by
            rw [hta'.out, if_neg (by have := HLk.out; have := HCk.out; omega), hta, Option.map_some, Option.map_some, add_none, add_none, ho.out]
            rfl)
          clear hT1 hT2 hW2 hP2 hk2
          go_wp2
          go_roundw
          · exact ⟨i + 1, kk + 1, ta', m2, by go_num, by omega, by rw [HLk.out, HCk.out, Nat.sub_sub, Nat.sub_sub], by have := HLk.out; omega, T2, K2, P2, D2, N2⟩
          · simp [intOf]; omega


        · have hL1 : ¬ (0 : Int) < (L : Int) := by omega
          go_wp2_with (first
            | (refine wpList_look mF rfl (.tmp 25) (.tmp 26) false rfl fnm rfl rfl HPD.out (by unfold maxLen; omega) (.agg #[.slice a n1 c, .int .i64 (fsf : Int), .bool fhd]) (by rw [HL.out]; rfl) ?_)
            | (go_at_call 51; refine (HLO.out _).mono ?_; rintro _ x1 ⟨rfl, hb1⟩; have HB1 := hidU hb1; clear hb1)
            | (go_at_call 60; refine (HTR.out 0 _ HB1.out fsf (by omega)).mono ?_; rintro _ x2 ⟨rfl, hT1, hT2⟩; refine Hid.out ?_))
          refine hidU ?_
          have hk0 : Hid (torn[nx torn 0 (fs.take i)]? = none) := hidU (by
            rw [List.getElem?_eq_none]
            have := hkx.out; have := HNt.out; have := HLk.out; omega)
          obtain ⟨m2, hW2, hP2, hk2⟩ := crash_step (torn := torn) (k := nx torn 0 (fs.take i)) (t := fsf) (hD.out.ds.below HB1.out) hpm2.out hlo2.out (by unfold kpN; rw [hk0.out]; rfl) hT1 hT2
          have D2 := hidU ((hD.out.below HB1.out).wrt hW2)
          have N2 := hidU (Wrt.names (hD.out.ds.below HB1.out) hW2 (hNO.out.below HB1.out) hmbw.out)
          have P2 := hidU (by
            obtain ⟨c1, c2⟩ := crL_snoc torn (fs.take i) 0 ⟨fnm, fbs, fsf, fhd⟩
            rw [← List.append_assoc, ← c1, ← htake.out] at hP2
            exact hP2)
          have K2 : Hid (kk = min (nx torn 0 (fs.take (i + 1))) nt) := hidU (by
            rw [htake.out, (crL_snoc torn (fs.take i) 0 ⟨fnm, fbs, fsf, fhd⟩).2, hk2]
            have := hkx.out; have := HLk.out; omega)
          clear hT1 hT2 hW2 hP2 hk2 q1 q2 hL hC hL1
          go_wp2
          go_roundw
          · exact ⟨i + 1, kk, tai, m2, by go_num, by omega, by first | rfl | rw [HLk.out, HCk.out], hkk, htai, K2, P2, D2, N2⟩
          · simp [intOf]; omega
      · have hp1 : (n1 : Int) - (fsf : Int) = 0 := by omega
        have hlo2 : Hid (¬ fsf < fbs.length) := hidU (by rw [hn1]; exact hlo)
        go_wp2_with (first
          | (refine wpList_look mF rfl (.tmp 25) (.tmp 26) false rfl fnm rfl rfl HPD.out (by unfold maxLen; omega) (.agg #[.slice a n1 c, .int .i64 (fsf : Int), .bool fhd]) (by rw [HL.out]; rfl) ?_)
          | (go_at_call 51; refine (HLO.out _).mono ?_; rintro _ x1 ⟨rfl, hb1⟩; have HB1 := hidU hb1; clear hb1))
        have c12 := crL_snoc torn (fs.take i) 0 ⟨fnm, fbs, fsf, fhd⟩
        have hone : crOne torn (nx torn 0 (fs.take i)) ⟨fnm, fbs, fsf, fhd⟩ = (⟨fnm, fbs, fsf, fhd⟩, nx torn 0 (fs.take i)) := by
          unfold crOne
          rw [if_neg hlo2.out]
        have hcK : crK torn (nx torn 0 (fs.take i)) ⟨fnm, fbs, fsf, fhd⟩ = true := by
          unfold crK
          rw [decide_eq_true hlo2.out, Bool.true_or]
        rw [hone, hcK, if_pos rfl] at c12
        go_roundw
        · refine ⟨i + 1, kk, tai, m', by go_num, by omega, rfl, hkk, htai, hidU ?_, hidU ?_, hidU (hD.out.below HB1.out), hidU (hNO.out.below HB1.out)⟩
          · rw [htake.out, c12.2]; exact hkx.out
          · rw [htake.out, c12.1, List.append_assoc]
            exact hpm2.out
        · simp [intOf]; omega
    · have hin : Hid (i = n) := hidU (by omega)
      have hA := hD.out.ds.at_
      go_wp2_with (refine wpList_store1 rfl 3 (.tmp 45) (.const (.int .i64 (-1))) rfl g 3 (.int .i64 (-1)) rfl rfl 35 _ hA (by simp) i3 rfl rfl ?_; intro x2 hA2 hb2 hs2; simp only [List.set] at hA2; refine Hid.out ?_)
      refine hidU ?_
      have HA2 := hidU hA2
      have HB2 := hidU hb2
      clear hA hA2 hb2 hs2
      go_wp2
      go_ret
      refine ⟨rfl, m', ?_, ?_⟩
      · have := hpm.out
        rw [hin.out, hnf.out, List.take_length, List.drop_length, List.append_nil] at this
        exact this
      · have W := (Wrt.same hD.out.ds (Below.refl _ wr)).dn hD.out.ds HB2.out HA2.out
        refine ⟨W.ds, hD.out.chg.more W.chg fun k hk e => ?_, fun k hk => ?_⟩
        · exact (hD.out.new k e).resolve_right (by omega)
        · rcases W.new k hk with e | e
          · exact hD.out.new k e
          · exact .inr (Nat.le_trans hD.out.chg.size e)
end Go.Proofs.YtcmkjjlchljffaaDoor

/- The landed disk: its face. -/
namespace Go.Proofs.YtcmkjjlchljffaaDoor
open Go.RowKit
set_option linter.unusedVariables false

theorem Ds.less {B B' g mb sz wr : Nat} {lf : Int} {w : World} {m : FMap} (h : Ds B w g mb m sz lf wr) (hb : B' ≤ B) : Ds B' w g mb m sz lf wr :=
  ⟨h.at_, h.mp, fun p hp => (h.own p hp).less hb, h.apart, Nat.le_trans hb h.bg, Nat.le_trans hb h.bm, h.ns⟩
section
variable {B g mb : Nat} {w w' : World} {W F : Nat → Prop} {m : FMap} {d d' : Dk} {nm to : ByteArray} {r : Ending}
theorem CDv.sum (h : CDv B w g mb W F m d) : sumM m = usedL d.fs := by
  have h1 := (h.fs.map fun f : Fi => f.bs.length).sum_nat
  rw [List.map_map] at h1
  exact h1
theorem CDv.hsf (h : CDv B w g mb W F m d) (hd : Fine d) : ∀ p ∈ m, p.2.sf ≤ p.2.bs.length := fun p hp => hd.sf (toFi p) (h.fs.mem_iff.1 (List.mem_map.2 ⟨p, hp, rfl⟩))
theorem CDv.len (h : CDv B w g mb W F m d) : m.length = d.fs.length := by have := h.fs.length_eq; simpa using this
theorem CDv.sums (h : CDv B w g mb W F m d) (hd : Fine d) : sumM m ≤ 67108864 := by rw [h.sum]; exact Nat.le_trans hd.us hd.sz
theorem CDv.of (h : Ds B w g mb m d.sz d.lf d.wr) (hp : (m.map toFi).Perm d.fs) : CDv B w g mb (FW g mb m) (FW g mb m) m d := ⟨h, hp, fun _ q => q, fun k q => ⟨q, h.base k q⟩, h.lt⟩
theorem CDv.moves {m' : FMap} {sz wr : Nat} {lf : Int} (h : CDv B w g mb W F m d) (k : Dn B w w' g mb m m' sz lf wr) : Moves w W F w' (FW g mb m') (FW g mb m') :=
  ⟨k.chg.mono fun i _ e => h.sub i e, fun i e => (k.new i e).imp (h.sub i) id, fun i e => (k.new i e).imp (fun q => (h.wf i (h.sub i q)).1) id⟩
theorem post_no {P : FMap → Prop} {e : Int} (h : CDv B w g mb W F m d) (hO : OpP B w g mb m d.sz d.lf d.wr e P r w') (he : e ≠ 0) : PostC CDp B g W F w (d, e) r w' := by
  obtain ⟨h1, h2, _⟩ := hO
  have hb := h2 he
  exact ⟨h1, W, F, ⟨mb, m, h.same (fun k hk => hb.block k (h.lt k hk)) hb.size⟩, .of_below hb⟩
theorem post_yes {P : FMap → Prop} (h : CDv B w g mb W F m d) (hO : OpP B w g mb m d.sz d.lf d.wr 0 P r w') (e1 : d'.sz = d.sz) (e2 : d'.lf = lfD d.lf) (e3 : d'.wr = d.wr + 1) (hp : ∀ m', P m' → (m'.map toFi).Perm d'.fs) : PostC CDp B g W F w (d', 0) r w' := by
  obtain ⟨h1, _, h3⟩ := hO
  obtain ⟨m', hP, hD⟩ := h3 rfl
  refine ⟨h1, _, _, ⟨mb, m', CDv.of ?_ (hp m' hP)⟩, h.moves hD⟩
  have := hD.ds
  rwa [← e1, ← e2, ← e3] at this
theorem CDv.names (h : CDv B w g mb W F m d) : (m.map (·.1)).Nodup := h.ds.mp.nodup
theorem CDv.look_some {f : FM} (h : CDv B w g mb W F m d) (hl : lookM m nm = some f) : d.fs.find? (isN nm) = some (toFi (nm, f)) := by rw [h.find, hl]; rfl
theorem CDv.look_none (h : CDv B w g mb W F m d) (hl : lookM m nm = none) : d.fs.find? (isN nm) = none := by rw [h.find, hl]; rfl
theorem set_perm {f g' : FM} {u : Fi → Fi} (h : CDv B w g mb W F m d) (hl : lookM m nm = some f) (hu : u (toFi (nm, f)) = toFi (nm, g')) : ((updM m nm g').map toFi).Perm (setL nm u d.fs) := by
  refine (upd_fs h.fs h.names).trans ?_
  rw [← hu]
  exact (setL_perm h.nodup (h.look_some hl)).symm
end
section
variable {B g mb : Nat} {w : World} {W F : Nat → Prop} {m : FMap} {d : Dk} {nm to : ByteArray}
theorem append_f {ba : Option Addr} {lb bc : Nat} {b : List UInt8} (hc : CDv B w g mb W F m d) (hd : Fine d) (hs : nm.size ≤ 9223372036854775807) (hrow : Row w ba b) (hlb : lb = b.length) (hbc : lb ≤ bc) (hnil : ba = none → bc = 0) :
    Calls Tryd.prog 10 #[ptr g, .string nm, .slice ba lb bc] w (PostC CDp B g W F w (apO d nm b)) := by
  refine (append_p hc.ds (hc.hsf hd) (hc.sums hd) hd.wr hd.lf hd.lg hs hd.sz hrow hlb.symm hbc hnil).mono fun r w' hO => ?_
  unfold apO
  cases hq : nmOk nm with
  | false =>
    rw [if_pos rfl]
    rw [hq, if_pos rfl] at hO
    exact post_no hc hO (by decide)
  | true =>
    rw [if_neg (by simp)]
    rw [hq, if_neg (by simp)] at hO
    have hroom : roomB m nm d.sz lb = false ↔ ((d.fs.find? (isN nm) = none ∧ 256 ≤ d.fs.length) ∨ d.sz < usedL d.fs + b.length) := by
      unfold roomB
      rw [hc.sum, hc.len, hlb]
      have h1 : (lookM m nm).isSome = (d.fs.find? (isN nm)).isSome := by rw [hc.find]; simp
      rw [h1]
      cases hf : d.fs.find? (isN nm) with
      | none => simp; omega
      | some f => simp; omega
    by_cases hr : roomB m nm d.sz lb = false
    · rw [if_pos (hroom.1 hr)]
      rw [if_pos hr] at hO
      exact post_no hc hO (by decide)
    · rw [if_neg fun q => hr (hroom.2 q)]
      rw [if_neg hr] at hO
      by_cases hl : d.lf = 0
      · rw [if_pos hl]
        rw [pwE, if_pos hl] at hO
        exact post_no hc hO (by decide)
      · rw [if_neg hl]
        rw [pwE, if_neg hl] at hO
        refine post_yes hc hO rfl rfl rfl ?_
        rintro m' ⟨v, rfl⟩
        show (_ : List Fi).Perm (setL nm _ (hasL nm d.fs))
        cases hk : lookM m nm with
        | some f =>
          have h1 := hc.look_some hk
          have h2 : hasL nm d.fs = d.fs := by unfold hasL; rw [h1]; rfl
          rw [h2, file_some hk]
          exact set_perm hc hk rfl
        | none =>
          have h1 := hc.look_none hk
          have h2 : hasL nm d.fs = insL (fil0 nm) d.fs := by unfold hasL; rw [h1]; rfl
          rw [h2, file_none hk]
          refine (upd_fs hc.fs hc.names).trans ?_
          have hip := insL_perm (fil0 nm) d.fs
          have hnd : ((insL (fil0 nm) d.fs).map Fi.nm).Nodup := by
            refine (hip.map Fi.nm).nodup_iff.2 ?_
            rw [List.map_cons, List.nodup_cons]
            refine ⟨fun q => ?_, hc.nodup⟩
            obtain ⟨f, hf, e⟩ := List.mem_map.1 q
            have := List.find?_eq_none.1 h1 f hf
            exact this (by unfold isN; rw [e]; simp [fil0])
          refine (List.Perm.trans ?_ (setL_perm (u := fun f => { f with bs := f.bs ++ b }) hnd (insL_find h1)).symm)
          refine List.Perm.cons _ ?_
          have := (hip.filter fun x => !isN nm x).symm
          rwa [List.filter_cons_of_neg (by rw [show isN nm (fil0 nm) = true from isN_self ..]; simp)] at this
theorem sync_f (hc : CDv B w g mb W F m d) (hd : Fine d) (hs : nm.size ≤ 9223372036854775807) : Calls Tryd.prog 15 #[ptr g, .string nm] w (PostC CDp B g W F w (syO d nm)) := by
  refine (sync_p hc.ds (hc.hsf hd) (hc.sums hd) hd.wr hd.lf hd.lg hs).mono fun r w' hO => ?_
  unfold syO
  cases hk : lookM m nm with
  | none =>
    rw [hc.look_none hk, if_pos Option.isNone_none]
    rw [hk, if_neg (by simp)] at hO
    exact post_no hc hO (by decide)
  | some f =>
    rw [hc.look_some hk, if_neg (by simp)]
    rw [hk, if_pos Option.isSome_some] at hO
    by_cases hl : d.lf = 0
    · rw [if_pos hl]
      rw [pwE, if_pos hl] at hO
      exact post_no hc hO (by decide)
    · rw [if_neg hl]
      rw [pwE, if_neg hl] at hO
      refine post_yes hc hO rfl rfl rfl ?_
      rintro m' rfl
      rw [file_some hk]
      exact set_perm hc hk rfl
theorem remove_f (hc : CDv B w g mb W F m d) (hd : Fine d) (hs : nm.size ≤ 9223372036854775807) : Calls Tryd.prog 17 #[ptr g, .string nm] w (PostC CDp B g W F w (rmO d nm)) := by
  refine (remove_p hc.ds (hc.hsf hd) (hc.sums hd) hd.wr hd.lf hd.lg hs).mono fun r w' hO => ?_
  unfold rmO
  cases hk : lookM m nm with
  | none =>
    rw [hc.look_none hk, if_pos Option.isNone_none]
    rw [hk, if_neg (by simp)] at hO
    exact post_no hc hO (by decide)
  | some f =>
    rw [hc.look_some hk, if_neg (by simp)]
    rw [hk, if_pos Option.isSome_some] at hO
    by_cases hl : d.lf = 0
    · rw [if_pos hl]
      rw [pwE, if_pos hl] at hO
      exact post_no hc hO (by decide)
    · rw [if_neg hl]
      rw [pwE, if_neg hl] at hO
      refine post_yes hc hO rfl rfl rfl ?_
      rintro m' rfl
      rw [del_fi]
      exact hc.fs.filter _
theorem cut_f {z : Int} (hc : CDv B w g mb W F m d) (hd : Fine d) (hs : nm.size ≤ 9223372036854775807) : Calls Tryd.prog 14 #[ptr g, .string nm, .int .i64 z] w (PostC CDp B g W F w (ctO d nm z)) := by
  refine (cut_p hc.ds (hc.hsf hd) (hc.sums hd) hd.wr hd.lf hd.lg hs).mono fun r w' hO => ?_
  unfold ctO
  cases hk : lookM m nm with
  | none =>
    rw [hc.look_none hk]
    rw [hk, if_neg (by simp)] at hO
    exact post_no hc hO (by decide)
  | some f =>
    have hsf : f.sf ≤ f.bs.length := hc.hsf hd _ (look_mem hk)
    rw [hc.look_some hk]
    rw [file_some hk, hk, if_pos Option.isSome_some] at hO
    simp only
    by_cases h1 : z < 0 ∨ (f.bs.length : Int) < z
    · rw [if_pos (by exact h1)]
      rw [if_pos h1] at hO
      exact post_no hc hO (by decide)
    · rw [if_neg (by exact h1)]
      rw [if_neg h1] at hO
      by_cases h2 : f.sf < f.bs.length
      · rw [if_pos (by exact h2)]
        rw [if_pos h2] at hO
        exact post_no hc hO (by decide)
      · rw [if_neg (by exact h2)]
        rw [if_neg h2] at hO
        by_cases hl : d.lf = 0
        · rw [if_pos hl]
          rw [pwE, if_pos hl] at hO
          exact post_no hc hO (by decide)
        · rw [if_neg hl]
          rw [pwE, if_neg hl] at hO
          refine post_yes hc hO rfl rfl rfl ?_
          rintro m' ⟨v, rfl⟩
          rw [show min f.sf z.toNat = z.toNat by omega]
          exact set_perm hc hk rfl
theorem rename_f (hc : CDv B w g mb W F m d) (hd : Fine d) (hs : nm.size ≤ 9223372036854775807) (hs2 : to.size ≤ 9223372036854775807) : Calls Tryd.prog 16 #[ptr g, .string nm, .string to] w (PostC CDp B g W F w (rnO d nm to)) := by
  refine (rename_p hc.ds (hc.hsf hd) (hc.sums hd) hd.wr hd.lf hd.lg hs hs2).mono fun r w' hO => ?_
  unfold rnO
  cases hq : nmOk to with
  | false =>
    rw [if_pos rfl]
    rw [hq, if_pos rfl] at hO
    exact post_no hc hO (by decide)
  | true =>
    rw [if_neg (by simp)]
    rw [hq, if_neg (by simp)] at hO
    cases hk : lookM m nm with
    | none =>
      rw [hc.look_none hk]
      rw [hk, if_neg (by simp)] at hO
      exact post_no hc hO (by decide)
    | some f =>
      rw [hc.look_some hk]
      rw [file_some hk, hk, if_pos Option.isSome_some] at hO
      simp only
      by_cases h2 : f.sf < f.bs.length
      · rw [if_pos (by exact h2)]
        rw [if_pos h2] at hO
        exact post_no hc hO (by decide)
      · rw [if_neg (by exact h2)]
        rw [if_neg h2] at hO
        by_cases hl : d.lf = 0
        · rw [if_pos hl]
          rw [pwE, if_pos hl] at hO
          exact post_no hc hO (by decide)
        · rw [if_neg hl]
          rw [pwE, if_neg hl] at hO
          by_cases he : nm = to
          · subst he
            rw [if_pos rfl]
            refine post_yes hc hO rfl rfl rfl ?_
            intro m' hm
            rw [if_pos rfl] at hm
            rw [hm]
            exact hc.fs
          · rw [if_neg fun q => he (toL_inj q)]
            refine post_yes hc hO rfl rfl rfl ?_
            intro m' hm
            rw [if_neg he] at hm
            rw [hm, del_fi]
            have h1 := (upd_fs (nm := to) (g := { f with hd := true }) hc.fs hc.names).filter fun x => !isN nm x
            rw [List.filter_cons_of_pos (by rw [(isN_inj (a := nm) (b := to) rfl).2 he]; rfl)] at h1
            refine h1.trans ?_
            refine (List.Perm.trans ?_ (insL_perm _ _).symm)
            refine List.Perm.cons _ (List.Perm.of_eq ?_)
            show (d.fs.filter _).filter _ = (d.fs.filter _).filter _
            rw [List.filter_filter, List.filter_filter]
            exact List.filter_congr fun x _ => Bool.and_comm _ _
theorem stop_f {z : Int} (hc : CDv B w g mb W F m d) : Calls Tryd.prog 18 #[ptr g, .int .i64 z] w (PostC CDp B g W F w (stD d z, stZ z)) := by
  refine (stop_p z hc.ds).mono ?_
  rintro r w' ⟨rfl, h1, h2⟩
  have hdn : Dn B w w' g mb m m d.sz (if z < 0 then d.lf else if d.lf = 0 then 0 else z) d.wr := ⟨h1, Chg.of_but h2 (.inl rfl), fun k hk => .inl hk⟩
  refine ⟨rfl, _, _, ⟨mb, m, CDv.of ?_ ?_⟩, hc.moves hdn⟩
  · unfold stD
    by_cases hz : z < 0
    · rw [if_pos hz]
      rw [if_pos hz] at h1
      exact h1
    · rw [if_neg hz]
      rw [if_neg hz] at h1
      exact h1
  · unfold stD
    split <;> exact hc.fs
theorem crash_f {ta : Option Addr} {nt tc : Nat} {torn : List Int} (hc : CDv B w g mb W F m d) (hd : Fine d) (hso : Sorted d.fs) (hrow : RowX eI w ta torn) (hnt : nt = torn.length) (htc : nt ≤ tc) (hnm : nt ≤ 9223372036854775807) (hap : ∀ ad, ta = some ad → ¬ W ad.block ∧ ad.block < w.heap.size) :
    Calls Tryd.prog 19 #[ptr g, .slice ta nt tc] w (PostC CDp B g W F w (crD d torn, 0)) := by
  refine (crash_p hc.ds hc.fs hso hd.ln (Nat.le_trans hd.us hd.sz) hd.sf hrow hnt htc hnm fun ad ha => ⟨fun q => (hap ad ha).1 (hc.sub _ q), (hap ad ha).2⟩).mono ?_
  rintro r w' ⟨rfl, m', hp, hD⟩
  exact ⟨rfl, _, _, ⟨mb, m', CDv.of hD.ds hp⟩, hc.moves hD⟩
end
theorem face_weak : Face False CDp where
  newBad := fun {n w} h => new_bad n w h
  newOk := fun {n w} B h1 h2 hB => by
    refine (new_ok n w h1 h2).mono ?_
    rintro r w' ⟨g, mb, rfl, hD, hb⟩
    exact ⟨g, _, _, rfl, ⟨mb, [], CDv.of (hD.less hB) (List.Perm.refl _)⟩, hb, fun k hk => hD.base k hk⟩
  same := fun {B w w' g W F d} ⟨mb, m, h⟩ h1 h2 => ⟨mb, m, h.same h1 h2⟩
  lt := fun {B w g W F d} ⟨mb, m, h⟩ => h.lt
  wf := fun {B w g W F d} ⟨mb, m, h⟩ => h.wf
  names := fun {B w g W F d} ⟨mb, m, h⟩ hd hso => by
    refine (names_p h.ds h.fs hso hd.ln).mono ?_
    rintro r w' ⟨v, rfl, hO, hb⟩
    exact ⟨v, rfl, .inr ⟨hO, fun hu => hu.elim⟩, hb⟩
  readNo := fun {B w g W F d nm} ⟨mb, m, h⟩ hd hs hf => read_none h.ds (by
    rw [h.find] at hf
    exact Option.map_eq_none_iff.1 hf) hs
  readYes := fun {B w g W F d nm f} ⟨mb, m, h⟩ hd hs hf => by
    rw [h.find] at hf
    obtain ⟨x, hx, rfl⟩ := Option.map_eq_some_iff.1 hf
    refine (read_some h.ds hx (Nat.le_trans (sum_mem (look_mem hx)) (h.sums hd)) hs).mono ?_
    rintro r w' ⟨v, rfl, hO, hb⟩
    exact ⟨v, rfl, .inr ⟨hO, fun hu => hu.elim⟩, hb⟩
  used := fun {B w g W F d} ⟨mb, m, h⟩ hd => by
    have := used_p h.ds (h.sums hd)
    rwa [h.sum] at this
  size := fun {B w g W F d} ⟨mb, m, h⟩ => (size_p h.ds).mono (by rintro r w' ⟨rfl, rfl⟩; exact ⟨rfl, Below.refl _ _⟩)
  loose := fun {B w g W F d nm} ⟨mb, m, h⟩ hd hs => by
    have := loose_p h.ds hs fun p hp => by
      have h1 := h.hsf hd p hp
      have h2 := sum_mem hp
      have h3 := h.sums hd
      omega
    rwa [show lsM m nm = lsD d.fs nm by unfold lsM lsD; rw [h.find]; cases lookM m nm <;> rfl] at this
  stopped := fun {B w g W F d} ⟨mb, m, h⟩ => (stopped_p h.ds).mono (by rintro r w' ⟨rfl, rfl⟩; exact ⟨rfl, Below.refl _ _⟩)
  writes := fun {B w g W F d} ⟨mb, m, h⟩ => (writes_p h.ds).mono (by rintro r w' ⟨rfl, rfl⟩; exact ⟨rfl, Below.refl _ _⟩)
  append := fun {B w g W F d nm ba lb bc b} ⟨mb, m, h⟩ hd _ _ hs hr h1 h2 h3 _ _ => append_f h hd hs hr h1 h2 h3
  cut := fun {B w g W F d nm z} ⟨mb, m, h⟩ hd _ _ hs => cut_f h hd hs
  sync := fun {B w g W F d nm} ⟨mb, m, h⟩ hd _ _ hs => sync_f h hd hs
  rename := fun {B w g W F d nm to} ⟨mb, m, h⟩ hd _ _ hs hs2 => rename_f h hd hs hs2
  remove := fun {B w g W F d nm} ⟨mb, m, h⟩ hd _ _ hs => remove_f h hd hs
  stop := fun {B w g W F d z} ⟨mb, m, h⟩ _ => stop_f h
  crash := fun {B w g W F d ta nt tc torn} ⟨mb, m, h⟩ hd hso _ hr h1 h2 h3 h4 => crash_f h hd hso hr h1 h2 h3 h4
  clone := fun {B w g W F d} ⟨mb, m, h⟩ hd hB => by
    refine (clone_p h.ds (h.hsf hd) (h.sums hd)).mono ?_
    rintro r w' ⟨gc, mc, m', rfl, hD, hp, hb⟩
    exact ⟨gc, _, _, rfl, ⟨mc, m', CDv.of (hD.less hB) (hp.trans h.fs)⟩, hb, fun k hk => hD.base k hk, fun k hk => .inr (hD.base k hk)⟩
end Go.Proofs.YtcmkjjlchljffaaDoor

/- Calls and numbers that came in. -/
namespace Go.Proofs.YtcmkjjlchljffaaDoor
open Go.ChangeShapes Go.WideShapes Go.ChangeAt Go.RowKit
set_option linter.unusedVariables false

theorem i64_of {x : Int} (h : (Lit.int .i64 x).wf = true) : -9223372036854775808 ≤ x ∧ x ≤ 9223372036854775807 := by simpa [Lit.wf, IntKind.min, IntKind.max, IntKind.signed, IntKind.bits] using h
theorem u8_of {x : Int} (h : (Lit.int .u8 x).wf = true) : ∃ b : UInt8, x = (b.toNat : Int) := by
  have h2 : 0 ≤ x ∧ x ≤ 255 := by simpa [Lit.wf, IntKind.min, IntKind.max, IntKind.signed, IntKind.bits] using h
  refine ⟨UInt8.ofNat x.toNat, ?_⟩
  have : (UInt8.ofNat x.toNat).toNat = x.toNat := ub_toNat x.toNat (by omega)
  omega
section
variable {H : Type} {enc : TypeId × Value → H} {w : World} {sp : Nat → Bool} {held : Bool}
/-- A row that came in, of any kind of elements. -/
theorem open_x {α : Type} [Inhabited α] (e : El α) (hcl : Tryd.prog.cellsOf e.E = e.n) (P : α → Prop) {fuel : Nat} {cs : List Value} {y : DataW H × List MemPlace}
    (ho : ∀ k cs z, DataW.trod enc Tryd.prog w 0 sp held k e.E cs = some z → ∃ a, cs = e.cl a ∧ P a) (h : DataW.trod enc Tryd.prog w 0 sp held fuel e.T cs = some y) :
    ∃ (a : Option Addr) (c : Nat) (xs : List α), cs = [.slice a xs.length c] ∧ xs.length ≤ c ∧ c ≤ maxLen ∧ (a = none → c = 0) ∧ (∀ x ∈ xs, P x) ∧ RowX e w a xs ∧ (xs ≠ [] → ∀ ad, a = some ad → ad.block < w.heap.size) := by
  rcases Go.Deep.open_slice e.und h with ⟨rfl, _⟩ | ⟨x, len, cap, m, n, D, Pl, rfl, _, hl, hm, hmm, hx, hcell⟩
  · exact ⟨none, 0, [], rfl, Nat.le_refl _, Nat.zero_le _, fun _ => rfl, by simp, .inl rfl, fun h => absurd rfl h⟩
  · have hlm : len ≤ m := by rw [hmm]; split <;> omega
    have each : ∀ r, r < len → ∃ a : α, w.cells? 0 (x.add (r * e.n)) e.n = some (e.cl a) ∧ P a := by
      intro r hr
      obtain ⟨cs, h1, h2⟩ := hcell r (by omega)
      rw [hcl] at h1
      obtain ⟨a, he, hp⟩ := ho _ _ _ h2
      exact ⟨a, by rw [h1, he], hp⟩
    obtain ⟨q, hq⟩ := Go.Deep.choose_lt each
    have hlen : ((List.range len).map q).length = len := by simp
    by_cases h0 : len = 0
    · subst h0
      exact ⟨some x, cap, [], rfl, hl, hm, (fun h => by cases h), by simp, .inl rfl, fun h => absurd rfl h⟩
    have hpos := e.pos
    obtain ⟨g, o, spot⟩ := x
    obtain ⟨v0, hv0⟩ : ∃ v, (e.cl (q 0))[0]? = some v := ⟨_, List.getElem?_eq_getElem (by rw [e.len]; exact hpos)⟩
    have hsp : spot = none := by
      obtain ⟨_, _, hcc⟩ := World.cells?_some (hq 0 (by omega)).1
      have := hcc 0 hpos
      rw [hv0, Nat.zero_mul] at this
      have h2 : w.cell? ⟨g, o, spot⟩ = some v0 := by simpa [Addr.add] using this
      exact World.cell?_spot h2
    subst hsp
    have hcc : ∀ i, i < len → ∀ j v, (e.cl (q i))[j]? = some v → w.cell? ⟨g, o + (i * e.n + j), none⟩ = some v := by
      intro i hi j v hj
      obtain ⟨_, hln, hcc⟩ := World.cells?_some (hq i hi).1
      have hjn : j < e.n := by have := (List.getElem?_eq_some_iff.1 hj).1; rwa [e.len] at this
      have := hcc j hjn
      rw [hj, add_none, add_none, Nat.add_assoc] at this
      exact this
    have h00 := hcc 0 (by omega) 0 v0 hv0
    refine ⟨some ⟨g, o, none⟩, cap, (List.range len).map q, by rw [hlen], by rw [hlen]; exact hl, hm, (fun h => by cases h), fun y hy => ?_, ?_, ?_⟩
    · obtain ⟨i, hi, rfl⟩ := List.mem_map.1 hy
      exact (hq i (by simpa using hi)).2
    · refine .inr ⟨g, o, rfl, fun j v hj => ?_⟩
      have hjl : j < len * e.n := by have := (List.getElem?_eq_some_iff.1 hj).1; rwa [flat_len, hlen] at this
      have hd : j / e.n < len := by rw [Nat.div_lt_iff_lt_mul hpos]; exact hjl
      have hmod := Nat.mod_lt j hpos
      have hjj : j / e.n * e.n + j % e.n = j := by rw [Nat.mul_comm]; exact Nat.div_add_mod j e.n
      obtain ⟨u, hu⟩ : ∃ u, (e.cl (q (j / e.n)))[j % e.n]? = some u := ⟨_, List.getElem?_eq_getElem (by rw [e.len]; exact hmod)⟩
      have h2 := flat_at e ((List.range len).map q) (j / e.n) (q (j / e.n)) (by simp [hd]) (j % e.n) u hu
      rw [hjj, hj] at h2
      cases h2
      have h3 := hcc _ hd _ _ hu
      rw [hjj] at h3
      exact h3
    · rintro _ ad ⟨⟩
      exact (lt_of_cell h00 : (Addr.mk g (o + (0 * e.n + 0)) none).block < w.heap.size)
theorem open_byte (k : Nat) (cs : List Value) (z : DataW H × List MemPlace) (h : DataW.trod enc Tryd.prog w 0 sp held k 5 cs = some z) : ∃ b : UInt8, cs = eB.cl b ∧ True := by
  obtain ⟨x, e0, -, hw⟩ := DataW.trod_int Tryd.underlying5 h
  obtain ⟨b, rfl⟩ := u8_of hw
  exact ⟨b, e0, trivial⟩
theorem open_num (k : Nat) (cs : List Value) (z : DataW H × List MemPlace) (h : DataW.trod enc Tryd.prog w 0 sp held k 3 cs = some z) : ∃ x : Int, cs = eI.cl x ∧ True := by
  obtain ⟨x, e0, -, hw⟩ := DataW.trod_int Tryd.underlying3 h
  exact ⟨x, e0, trivial⟩
set_option maxRecDepth 100000 in
theorem open_act (k : Nat) (cs : List Value) (z : DataW H × List MemPlace) (h : DataW.trod enc Tryd.prog w 0 sp held k 84 cs = some z) : ∃ a : AT, cs = a.cells ∧ (a.In0 w.heap.size w ∧ a.ac.z ≤ 9223372036854775807) := by
  obtain ⟨xs, k, hk, hxy, hl, hxl, hf⟩ := DataW.trod_struct Tryd.underlying84 h
  have hl6 : cs.length = 6 := hl
  match cs, hl6 with
  | [v0, v1, v2, v3, v4, v5], _ =>
    have g0 := hf 0 _ rfl
    have g1 := hf 1 _ rfl
    have g2 := hf 2 _ rfl
    have g3 := hf 3 _ rfl
    have g4 := hf 4 _ rfl
    have g5 := hf 5 _ rfl
    match xs, hxl with
    | [y0, y1, y2, y3, y4, y5], _ =>
      obtain ⟨kd, e0, _, hw0⟩ := DataW.trod_int Tryd.underlying3 (show DataW.trod enc Tryd.prog w 0 sp held k 3 [v0] = some y0 from g0)
      obtain ⟨nm, e1, _, hz1⟩ := DataW.trod_string Tryd.underlying9 (show DataW.trod enc Tryd.prog w 0 sp held k 9 [v1] = some y1 from g1)
      obtain ⟨to, e2, _, hz2⟩ := DataW.trod_string Tryd.underlying9 (show DataW.trod enc Tryd.prog w 0 sp held k 9 [v2] = some y2 from g2)
      obtain ⟨z, e3, _, hw3⟩ := DataW.trod_int Tryd.underlying3 (show DataW.trod enc Tryd.prog w 0 sp held k 3 [v3] = some y3 from g3)
      obtain ⟨ba, bc, bs, e4, b1, b2, b3, _, b5, b6⟩ := open_x eB (by kernel_rfl) (fun _ => True) open_byte (show DataW.trod enc Tryd.prog w 0 sp held k 29 [v4] = some y4 from g4)
      obtain ⟨ta, tc, ts, e5, t1, t2, t3, _, t5, t6⟩ := open_x eI (by kernel_rfl) (fun _ => True) open_num (show DataW.trod enc Tryd.prog w 0 sp held k 52 [v5] = some y5 from g5)
      have e0' : v0 = .int .i64 kd := by simpa using e0
      have e1' : v1 = .string nm := by simpa using e1
      have e2' : v2 = .string to := by simpa using e2
      have e3' : v3 = .int .i64 z := by simpa using e3
      have e4' : v4 = .slice ba bs.length bc := by simpa using e4
      have e5' : v5 = .slice ta ts.length tc := by simpa using e5
      subst e0' e1' e2' e3' e4' e5'
      have b7 := i64_of hw3
      exact ⟨⟨⟨kd, nm, to, z, bs, ts⟩, ba, bc, ta, tc⟩, rfl, ⟨rowB.1 b5, b1, b3, b6, t5, t1, t3, t6, hz1, hz2⟩, b7.2⟩
end
end Go.Proofs.YtcmkjjlchljffaaDoor

/- The rows that the laws are handed. -/
namespace Go.Proofs.YtcmkjjlchljffaaDoor
open Go.ChangeShapes Go.WideShapes Go.ChangeAt Go.RowKit
set_option linter.unusedVariables false
section
variable {H : Type} {enc : TypeId × Value → H} {w : World} {sp : Nat → Bool} {held : Bool} {base : Nat}
theorem maxLen_le : maxLen ≤ 9223372036854775807 := by decide
set_option maxRecDepth 100000
instance : Inhabited AT := ⟨⟨⟨0, ⟨#[]⟩, ⟨#[]⟩, 0, [], []⟩, none, 0, none, 0⟩⟩
/-- Where a row that came in lies. -/
theorem old_slice {t e : TypeId} {a : Option Addr} {len cap : Nat} (ht : Tryd.prog.underlying t = some (.slice e)) (h : Value.okWide Tryd.prog w .any base t (.slice a len cap)) : ∀ ad, a = some ad → ad.block < w.heap.size := by
  rintro ad rfl
  simp only [Value.okWide, ht, Cell.okWide, Cell.ok] at h
  obtain ⟨_, _, row, cells, hs, _⟩ := h.2.2
  unfold World.shape? at hs
  rcases Nat.lt_or_ge ad.block w.heap.size with hb | hb
  · exact hb
  · rw [Array.getElem?_eq_none hb] at hs
    simp at hs
theorem open_acts {a : Option Addr} {len cap : Nat} {d : DataW H} {ps : List MemPlace} (hv : Value.okWide Tryd.prog w .any base 51 (.slice a len cap)) (hd : DataW.Trod enc Tryd.prog w 0 sp held 51 (.slice a len cap) d ps) :
    ∃ al : List AT, al.length = len ∧ ActsIn w a al ∧ al.length ≤ cap ∧ al.length ≤ 9223372036854775807 := by
  obtain ⟨fuel, hf⟩ := hd
  obtain ⟨x, c, xs, he, h1, h2, _, h4, h5, _⟩ := open_x eA (by kernel_rfl) (fun a : AT => a.In0 w.heap.size w ∧ a.ac.z ≤ 9223372036854775807) open_act hf
  simp [Value.cells] at he
  obtain ⟨rfl, rfl, rfl⟩ := he
  exact ⟨xs, rfl, ⟨h5, old_slice eA.und hv, h4⟩, h1, Nat.le_trans h1 (Nat.le_trans h2 maxLen_le)⟩
theorem open_nums {a : Option Addr} {len cap : Nat} {d : DataW H} {ps : List MemPlace} (hv : Value.okWide Tryd.prog w .any base 52 (.slice a len cap)) (hd : DataW.Trod enc Tryd.prog w 0 sp held 52 (.slice a len cap) d ps) :
    ∃ zs : List Int, zs.length = len ∧ RowX eI w a zs ∧ (∀ ad, a = some ad → ad.block < w.heap.size) ∧ zs.length ≤ cap ∧ zs.length ≤ 9223372036854775807 := by
  obtain ⟨fuel, hf⟩ := hd
  obtain ⟨x, c, xs, he, h1, h2, _, h4, h5, _⟩ := open_x eI (by kernel_rfl) (fun _ => True) open_num hf
  simp [Value.cells] at he
  obtain ⟨rfl, rfl, rfl⟩ := he
  exact ⟨xs, rfl, h5, old_slice eI.und hv, h1, Nat.le_trans h1 (Nat.le_trans h2 maxLen_le)⟩
theorem open_bytes {a : Option Addr} {len cap : Nat} {d : DataW H} {ps : List MemPlace} (hv : Value.okWide Tryd.prog w .any base 29 (.slice a len cap)) (hd : DataW.Trod enc Tryd.prog w 0 sp held 29 (.slice a len cap) d ps) :
    ∃ bs : List UInt8, bs.length = len ∧ RowX eB w a bs ∧ (∀ ad, a = some ad → ad.block < w.heap.size) ∧ bs.length ≤ cap ∧ cap ≤ maxLen := by
  obtain ⟨fuel, hf⟩ := hd
  obtain ⟨x, c, xs, he, h1, h2, _, h4, h5, _⟩ := open_x eB (by kernel_rfl) (fun _ => True) open_byte hf
  simp [Value.cells] at he
  obtain ⟨rfl, rfl, rfl⟩ := he
  exact ⟨xs, rfl, h5, old_slice eB.und hv, h1, h2⟩
end
end Go.Proofs.YtcmkjjlchljffaaDoor

/- A world that lays what the cards list; the walks want nothing of it. -/
namespace Go.Proofs.YtcmkjjlchljffaaDoor
open Go.ChangeShapes Go.WideShapes Go.ChangeAt Go.RowKit
set_option linter.unusedVariables false

def laidL : List (String × DataW Unit) := [("unicode/utf8.acceptRanges", Rows.laid_unicode_utf8_acceptRanges), ("unicode/utf8.first", Rows.laid_unicode_utf8_first)]

set_option maxRecDepth 100000 in
/-- That world meets the condition. -/
theorem door_met (os : Os) (args : Array Value) : laidMetH Tryd.prog laidL ((World.laidAll Tryd.prog os laidL).forCall (fun _ _ => 0) ⟨#[], args, []⟩).memory := by
  rw [MakeChecks.laidMetH_plain _ _ _ (by kernel_rfl)]
  exact laidMet_laidAll _ (by kernel_rfl) (by kernel_rfl)
end Go.Proofs.YtcmkjjlchljffaaDoor
